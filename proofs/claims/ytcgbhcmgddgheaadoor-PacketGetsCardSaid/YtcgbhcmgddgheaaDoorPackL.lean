/-
  Put OF ANY HEADER, the code's and the document's.
-/
import Derived.Test.YtcgbhcmgddgheaaDoorPackK
namespace Go.Proofs.YtcgbhcmgddgheaaDoor
open Go Go.RowKit Go.BigFrame
set_option linter.unusedSimpArgs false
set_option linter.unusedVariables false
set_option maxRecDepth 100000
set_option maxHeartbeats 8000000 in
theorem put_bad (k v l N z : Int) (D S T : ByteArray) (nd ns nt : Nat) (hD : D.size = nd) (hS : S.size = ns) (hT : T.size = nt) (ph : Bool) (a : Option Addr) (c : Nat) (G : List Int) (w : World) (hL : IntsIn w (.slice a G.length c) G) (hb : ¬ (inB G nd ns nt v l N z ∧ inF k v l N z ns nt G.length ph)) :
    Calls Tryd.prog 33 #[.agg (hdC k v D S T l N z ph (.slice a G.length c))] w fun e w' => e = .returned (.tuple #[.slice none 0 0, .int .i64 2]) ∧ Below w.heap.size w w' := by
  have IB := Lib.hid (fun (w' : World) (h : IntsIn w' (.slice a G.length c) G) => inBounds_any k v l N z D S T nd ns nt hD hS hT ph (.slice a G.length c) G w' h)
  have IF := Lib.hid (fun (w' : World) => inForm_any k v l N z D S T ns nt G.length hS hT ph a c w')
  obtain ⟨B1, hB1⟩ : ∃ B, decide (inB G nd ns nt v l N z) = B := ⟨_, rfl⟩
  obtain ⟨B2, hB2⟩ : ∃ B, decide (inF k v l N z ns nt G.length ph) = B := ⟨_, rfl⟩
  have hbb : ¬ (B1 = true ∧ B2 = true) := fun h => hb ⟨of_decide_eq_true (hB1.trans h.1), of_decide_eq_true (hB2.trans h.2)⟩
  rw [hB1] at IB
  rw [hB2] at IF
  have HL := Lib.hid hL
  clear hB1 hB2 hb hL
  unfold hdC at IB IF ⊢
  go_enter Tryd.func33, Tryd.ntmps33
  have row := heap_alloc_last w (.cells #[.int .i64 k, .int .i64 v, .string D, .string S, .string T, .int .i64 l, .int .i64 N, .int .i64 z, .bool ph, .slice a G.length c] 66)
  have bel := (Below.refl w.heap.size w).alloc (Nat.le_refl _) (.cells #[.int .i64 k, .int .i64 v, .string D, .string S, .string T, .int .i64 l, .int .i64 N, .int .i64 z, .bool ph, .slice a G.length c] 66)
  go_upto_region 1 with (fail)
  generalize w.alloc _ = wa at *
  have ROW := Lib.hid row
  have BEL := Lib.hid bel
  clear row bel
  obtain ⟨c0, c1, c2, c3, c4, c5, c6, c7, c8, c9⟩ := cells10 ROW.out
  go_wp2_with fail
  with_reducible refine (IB.out wa (HL.out.later BEL.out)).mono ?_
  rintro e w1 ⟨rfl, hb1⟩
  have H1 := Lib.hid (BEL.out.trans (hb1.mono BEL.out.size))
  have R1 := Lib.hid ((hb1.block _ (lt_row ROW.out)).trans ROW.out)
  clear hb1 c0 c1 c2 c3 c4 c5 c6 c7 c8 c9
  cases B1 with
  | false =>
    go_wp2_with fail
    go_ret2
    exact ⟨rfl, H1.out⟩
  | true =>
    have h2 : B2 = false := by
      cases B2
      · rfl
      · exact absurd ⟨rfl, rfl⟩ hbb
    subst h2
    clear hbb
    obtain ⟨c0, c1, c2, c3, c4, c5, c6, c7, c8, c9⟩ := cells10 R1.out
    go_wp2_with fail
    with_reducible refine (IF.out w1).mono ?_
    rintro e w2 ⟨rfl, hb2⟩
    have H2 := Lib.hid (H1.out.trans (hb2.mono H1.out.size))
    clear hb2 c0 c1 c2 c3 c4 c5 c6 c7 c8 c9
    go_wp2_with fail
    go_ret2
    exact ⟨rfl, H2.out⟩
set_option maxHeartbeats 8000000 in
theorem docPut_bad (k v l N z : Int) (D S T : ByteArray) (nd ns nt : Nat) (hD : D.size = nd) (hS : S.size = ns) (hT : T.size = nt) (ph : Bool) (a : Option Addr) (c : Nat) (G : List Int) (w : World) (hL : IntsIn w (.slice a G.length c) G) (hb : ¬ (inB G nd ns nt v l N z ∧ inF k v l N z ns nt G.length ph)) :
    Calls Tryd.prog 32 #[.agg (hdC k v D S T l N z ph (.slice a G.length c))] w fun e w' => e = .returned (.tuple #[.string ⟨#[]⟩, .int .i64 2]) ∧ Below w.heap.size w w' := by
  have RT := Lib.hid (fun (w' : World) (h : IntsIn w' (.slice a G.length c) G) => right_any k v l N z D S T nd ns nt hD hS hT ph a c G.length G w' rfl h)
  rw [decide_eq_false (show ¬ rightP k v l N z nd ns nt G.length ph G from hb)] at RT
  have HL := Lib.hid hL
  clear hb hL
  unfold hdC at RT ⊢
  go_enter Tryd.func32, Tryd.ntmps32
  have row := heap_alloc_last w (.cells #[.int .i64 k, .int .i64 v, .string D, .string S, .string T, .int .i64 l, .int .i64 N, .int .i64 z, .bool ph, .slice a G.length c] 63)
  have bel := (Below.refl w.heap.size w).alloc (Nat.le_refl _) (.cells #[.int .i64 k, .int .i64 v, .string D, .string S, .string T, .int .i64 l, .int .i64 N, .int .i64 z, .bool ph, .slice a G.length c] 63)
  go_upto_region 1 with (fail)
  generalize w.alloc _ = wa at *
  have BEL := Lib.hid bel
  clear bel
  obtain ⟨c0, c1, c2, c3, c4, c5, c6, c7, c8, c9⟩ := cells10 row
  clear row
  go_wp2_with fail
  with_reducible refine (RT.out wa (HL.out.later BEL.out)).mono ?_
  rintro e w1 ⟨rfl, hb1⟩
  have H1 := Lib.hid (BEL.out.trans (hb1.mono BEL.out.size))
  clear hb1 c0 c1 c2 c3 c4 c5 c6 c7 c8 c9
  go_wp2_with fail
  go_ret2
  exact ⟨rfl, H1.out⟩
theorem kind_of {k v l N z : Int} {ns nt n : Nat} {ph : Bool} (h : inF k v l N z ns nt n ph) : k = 0 ∨ k = 1 ∨ k = 2 ∨ k = 3 ∨ k = 4 ∨ k = 5 := by
  unfold inF at h
  omega
/-- Both tell the same of any header that is in form. -/
theorem put_ok (k v l N : Int) (z : Nat) (D S : ByteArray) (tf : Nat → BitVec 8) (nt : Nat) (ph : Bool) (a : Option Addr) (c : Nat) (G : List Int) (w : World) (hL : IntsIn w (.slice a G.length c) G) (hin : inB G D.size S.size nt v l N (z : Int)) (hf : inF k v l N (z : Int) S.size nt G.length ph) (tab : Tab w) :
    Calls Tryd.prog 33 #[.agg (hdC k v D S (strOf tf nt) l N (z : Int) ph (.slice a G.length c))] w fun e w' => ∃ b, e = .returned (.tuple #[b, .int .i64 0]) ∧ OwnS (w.heap.size + 1) b (hputS k v D S tf nt l N z ph G) w' ∧ Below w.heap.size w w' := by
  rcases kind_of hf with rfl | rfl | rfl | rfl | rfl | rfl
  · exact put_0 v l N z D S tf nt ph a c G w hL hin hf tab
  · exact put_1 v l N z D S tf nt ph a c G w hL hin hf tab
  · exact put_2 v l N z D S tf nt ph a c G w hL hin hf tab
  · exact put_3 v l N z D S tf nt ph a c G w hL hin hf tab
  · exact put_4 v l N z D S tf nt ph a c G w hL hin hf tab
  · exact put_5 v l N z D S tf nt ph a c G w hL hin hf tab
theorem docPut_ok (k v l N : Int) (z : Nat) (D S : ByteArray) (tf : Nat → BitVec 8) (nt : Nat) (ph : Bool) (a : Option Addr) (c : Nat) (G : List Int) (w : World) (hL : IntsIn w (.slice a G.length c) G) (hin : inB G D.size S.size nt v l N (z : Int)) (hf : inF k v l N (z : Int) S.size nt G.length ph) :
    Calls Tryd.prog 32 #[.agg (hdC k v D S (strOf tf nt) l N (z : Int) ph (.slice a G.length c))] w fun e w' => e = .returned (.tuple #[.string (hputS k v D S tf nt l N z ph G), .int .i64 0]) ∧ Below w.heap.size w w' := by
  rcases kind_of hf with rfl | rfl | rfl | rfl | rfl | rfl
  · exact docPut_0 v l N z D S tf nt ph a c G w hL hin hf
  · exact docPut_1 v l N z D S tf nt ph a c G w hL hin hf
  · exact docPut_2 v l N z D S tf nt ph a c G w hL hin hf
  · exact docPut_3 v l N z D S tf nt ph a c G w hL hin hf
  · exact docPut_4 v l N z D S tf nt ph a c G w hL hin hf
  · exact docPut_5 v l N z D S tf nt ph a c G w hL hin hf
end Go.Proofs.YtcgbhcmgddgheaaDoor
