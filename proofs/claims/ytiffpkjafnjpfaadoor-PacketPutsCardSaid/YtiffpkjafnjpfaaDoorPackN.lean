/-
  PacketPuts OF A HEADER WHOSE PARTS ARE KNOWN.
-/
import Derived.Test.YtiffpkjafnjpfaaDoorPackM
namespace Go.Proofs.YtiffpkjafnjpfaaDoor
open Go Go.RowKit Go.BigFrame
set_option linter.unusedSimpArgs false
set_option linter.unusedVariables false
set_option maxRecDepth 100000
theorem OwnS.conv {B : Nat} {v : Value} {S : ByteArray} {w : World} (h : OwnS B v S w) : (convert 26 9 v).run Tryd.prog w = .ok (.string S) w := by
  obtain ⟨n, f, ho, rfl⟩ := h
  exact (bytesAre_own ho).now
set_option maxHeartbeats 8000000 in
theorem puts_any (k v l N z : Int) (D S : ByteArray) (tf : Nat → BitVec 8) (nt : Nat) (ph : Bool) (a : Option Addr) (c : Nat) (G : List Int) (w : World) (hL : IntsIn w (.slice a G.length c) G) (hG : G.length ≤ 20000000000000) (tab : Tab w) :
    Calls Tryd.prog 9 #[.agg (hdC k v D S (strOf tf nt) l N z ph (.slice a G.length c))] w fun e w' => e = .returned (.bool true) ∧ Below w.heap.size w w' := by
  -- what both tell
  obtain ⟨X, E, DP, PP⟩ : ∃ (X : ByteArray) (E : Int), (∀ w', Below w.heap.size w w' → Calls Tryd.prog 32 #[.agg (hdC k v D S (strOf tf nt) l N z ph (.slice a G.length c))] w' fun e w'' => e = .returned (.tuple #[.string X, .int .i64 E]) ∧ Below w'.heap.size w' w'') ∧
      (∀ (w' : World) (L' : Value), IntsIn w' L' G → Tab w' → Calls Tryd.prog 33 #[.agg (hdC k v D S (strOf tf nt) l N z ph L')] w' fun e w'' => ∃ b, e = .returned (.tuple #[b, .int .i64 E]) ∧ BytesAre b X w'' ∧ Below w'.heap.size w' w'') := by
    by_cases hr : inB G D.size S.size nt v l N z ∧ inF k v l N z S.size nt G.length ph
    · obtain ⟨zn, rfl⟩ : ∃ zn : Nat, z = (zn : Int) := ⟨z.toNat, by have := hr.1.2.2.2.2.2.2.2.2; omega⟩
      refine ⟨hputS k v D S tf nt l N zn ph G, 0, fun w' hb => docPut_ok k v l N zn D S tf nt ph a c G w' (hL.later hb) hr.1 hr.2, fun w' L' hL' t => ?_⟩
      obtain ⟨a', c', rfl, _⟩ := hL'.at_
      refine (put_ok k v l N zn D S tf nt ph a' c' G w' hL' hr.1 hr.2 t).mono ?_
      rintro e w'' ⟨b, rfl, ⟨n, f, ho, e2⟩, hb⟩
      exact ⟨b, rfl, by rw [e2]; exact bytesAre_own ho, hb⟩
    · refine ⟨⟨#[]⟩, 2, fun w' hb => docPut_bad k v l N z D S (strOf tf nt) D.size S.size nt rfl rfl (strOf_size _ _) ph a c G w' (hL.later hb) hr, fun w' L' hL' t => ?_⟩
      obtain ⟨a', c', rfl, _⟩ := hL'.at_
      refine (put_bad k v l N z D S (strOf tf nt) D.size S.size nt rfl rfl (strOf_size _ _) ph a' c' G w' hL' hr).mono ?_
      rintro e w'' ⟨rfl, hb⟩
      exact ⟨_, rfl, bytesAre_nil _, hb⟩
  have DPH := Lib.hid DP
  have PPH := Lib.hid PP
  have TO := Lib.hid (fun (w' : World) (h : IntsIn w' (.slice a G.length c) G) => to_any k v l N z D S (strOf tf nt) ph a c G w' h hG)
  have HL := Lib.hid hL
  have TB := Lib.hid tab
  clear DP PP hL tab
  generalize strOf tf nt = T at *
  unfold hdC at DPH TO PPH ⊢
  go_enter Tryd.func9, Tryd.ntmps9
  have row := heap_alloc_last w (.cells #[.int .i64 k, .int .i64 v, .string D, .string S, .string T, .int .i64 l, .int .i64 N, .int .i64 z, .bool ph, .slice a G.length c] 63)
  have bel := (Below.refl w.heap.size w).alloc (Nat.le_refl _) (.cells #[.int .i64 k, .int .i64 v, .string D, .string S, .string T, .int .i64 l, .int .i64 N, .int .i64 z, .bool ph, .slice a G.length c] 63)
  go_upto_region 1 with (fail)
  generalize w.alloc _ = wa at *
  have ROW := Lib.hid row
  have BEL := Lib.hid bel
  have CX := Lib.hid (fun (w' : World) (hb : Below wa.heap.size wa w') => cells10 ((hb.block _ (lt_row ROW.out)).trans ROW.out))
  clear row bel
  obtain ⟨c0, c1, c2, c3, c4, c5, c6, c7, c8, c9⟩ := CX.out wa (Below.refl _ _)
  go_wp2_with fail
  with_reducible refine (DPH.out wa BEL.out).mono ?_
  rintro e w1 ⟨rfl, hb1⟩
  have H1 := Lib.hid hb1
  clear hb1 c0 c1 c2 c3 c4 c5 c6 c7 c8 c9
  obtain ⟨c0, c1, c2, c3, c4, c5, c6, c7, c8, c9⟩ := CX.out w1 H1.out
  go_wp2_with fail
  with_reducible refine (TO.out w1 (HL.out.later (BEL.out.trans (H1.out.mono BEL.out.size)))).mono ?_
  rintro e w2 ⟨L', rfl, hL2, hb2⟩
  have H2 := Lib.hid (H1.out.trans (hb2.mono H1.out.size))
  have L2 := Lib.hid hL2
  clear hb2 hL2 c0 c1 c2 c3 c4 c5 c6 c7 c8 c9
  go_wp2_with fail
  with_reducible refine (PPH.out w2 L' L2.out (TB.out.later (BEL.out.trans (H2.out.mono BEL.out.size)))).mono ?_
  rintro e w3 ⟨b, rfl, hba, hb3⟩
  have H3 := Lib.hid (H2.out.trans (hb3.mono H2.out.size))
  have BA := Lib.hid hba
  clear hba hb3
  go_wp2_with fail
  with_reducible refine (heads_any w3).mono ?_
  rintro e w4 ⟨rfl, hb4⟩
  have cv := (BA.out.later hb4).now
  have H4 := Lib.hid (BEL.out.trans ((H3.out.trans (hb4.mono H3.out.size)).mono BEL.out.size))
  clear hb4
  go_wp2_with fail
  go_ret
  exact ⟨by simp, H4.out⟩
end Go.Proofs.YtiffpkjafnjpfaaDoor
