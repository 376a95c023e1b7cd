/-
  guard: labelled, Of, Next.
-/
import Derived.Test.YtebhhonmpoeliaaDoorHkdfF
import Derived.Test.YtebhhonmpoeliaaDoorGdM
namespace Go.Proofs.YtebhhonmpoeliaaDoor
open Go Go.RowKit Go.BigFrame
set_option linter.unusedSimpArgs false
set_option linter.unusedVariables false
def qkey : List Nat := [113, 117, 105, 99, 32, 107, 101, 121]
def qiv : List Nat := [113, 117, 105, 99, 32, 105, 118]
def qhp : List Nat := [113, 117, 105, 99, 32, 104, 112]
def qku : List Nat := [113, 117, 105, 99, 32, 107, 117]
def qcin : List Nat := [99, 108, 105, 101, 110, 116, 32, 105, 110]
def qsin : List Nat := [115, 101, 114, 118, 101, 114, 32, 105, 110]
theorem qkey_str : strOf (tb qkey) 8 = ⟨#[113, 117, 105, 99, 32, 107, 101, 121]⟩ := by kernel_rfl
theorem qiv_str : strOf (tb qiv) 7 = ⟨#[113, 117, 105, 99, 32, 105, 118]⟩ := by kernel_rfl
theorem qhp_str : strOf (tb qhp) 7 = ⟨#[113, 117, 105, 99, 32, 104, 112]⟩ := by kernel_rfl
theorem qku_str : strOf (tb qku) 7 = ⟨#[113, 117, 105, 99, 32, 107, 117]⟩ := by kernel_rfl
theorem qcin_str : strOf (tb qcin) 9 = ⟨#[99, 108, 105, 101, 110, 116, 32, 105, 110]⟩ := by kernel_rfl
theorem qsin_str : strOf (tb qsin) 9 = ⟨#[115, 101, 114, 118, 101, 114, 32, 105, 110]⟩ := by kernel_rfl
/-- n bytes of a secret for a use. -/
def lblB (f : Nat → BitVec 8) (m N l : Nat) (s : Nat → BitVec 8) : Nat → BitVec 8 := expB (keyB f m) (infoB N l s 0 (fun _ => 0#8)) (9 + l + 1 + 0)
theorem str_none (f : Nat → BitVec 8) : strOf f 0 = ⟨#[]⟩ := rfl
set_option maxRecDepth 100000 in
theorem labelled_ok (f s : Nat → BitVec 8) (m l N : Nat) (hm : m ≤ 50000) (hl : l ≤ 249) (hN : N ≤ 8160) (w : World) (T : TabK w) :
    Calls Tryd.prog 15 #[.string (strOf f m), .string (strOf s l), .int .i64 (N : Int)] w fun e w' => e = .returned (.tuple #[.string (strOf (lblB f m N l s) N), .int .i64 0]) ∧ Below w.heap.size w w' := by
  obtain ⟨v1, w1, hcv, o1, b1⟩ := conv_ownZ f m (by omega) w w.heap.size (Nat.le_refl _)
  obtain ⟨a1, c1, rfl, hc1, hm1, bi1, hg1⟩ := o1.asBytes
  have LB := Lib.hid (label_ok m c1 0 0 N l f (fun _ => 0#8) s a1 none w1 (T.later b1) bi1 hc1 hm1 (by omega) (nil_in _ _) (Nat.le_refl _) (Nat.zero_le _) (by omega) hl hN)
  have B1 := Lib.hid b1
  obtain ⟨R, hR⟩ : ∃ R, strOf (lblB f m N l s) N = R := ⟨_, rfl⟩
  rw [hR]
  have HR := Lib.hid hR
  generalize strOf f m = SF at *
  generalize strOf s l = SL at *
  clear o1 b1 hg1 bi1 T hR
  go_enter Tryd.func15, Tryd.ntmps15
  go_wp2_with fail
  clear hcv
  with_reducible refine LB.out.mono ?_
  rintro e w2 ⟨v2, rfl, o2, hb2⟩
  obtain ⟨a2, c2, rfl, hc2, hm2, bi2, _, hg2⟩ := o2.asMine
  have hcv2 := conv_in (lblB f m N l s) a2 N c2 w2 bi2
  rw [HR.out] at hcv2
  have B2 := Lib.hid (B1.out.trans (hb2.mono B1.out.size))
  clear o2 hb2 hg2 bi2 LB
  go_wp2_with fail
  go_ret2
  exact ⟨rfl, B2.out⟩
theorem lab_of (f : Nat → BitVec 8) (L : List Nat) (l N : Nat) (x : ByteArray) (hx : strOf (tb L) l = x) (hl : l ≤ 249) (hN : N ≤ 8160) (w : World) (T : TabK w) :
    Calls Tryd.prog 15 #[.string (strOf f 32), .string x, .int .i64 (N : Int)] w fun e w' => e = .returned (.tuple #[.string (strOf (lblB f 32 N l (tb L)) N), .int .i64 0]) ∧ Below w.heap.size w w' := by
  rw [← hx]
  exact labelled_ok f (tb L) 32 l N (by omega) hl hN w T
/-- A secret's keys. -/
def keysC (f : Nat → BitVec 8) : Array Value := #[.string (strOf (lblB f 32 16 8 (tb qkey)) 16), .string (strOf (lblB f 32 12 7 (tb qiv)) 12), .string (strOf (lblB f 32 16 7 (tb qhp)) 16)]
def noKeys : Array Value := #[.string ⟨#[]⟩, .string ⟨#[]⟩, .string ⟨#[]⟩]
theorem results_cell_tmp {P : Program} {fn : Func} {p t1 : Tmp} {ty : TypeId} (h : fn.results = #[.cell p ty, .tmp t1]) (tmps : Array Value) (w : World) (g : Nat) (t : TypeId) (cs : Array Value) (fr : Nat × Nat) (d : TypeDesc)
    (hp : tmps.getD p undef = .pointer (some ⟨g, 0, none⟩)) (hg : w.heap[g]? = some (.cells cs t fr))
    (hu : P.underlying ty = some d) (hd : (match d with | .struct _ | .array _ _ => true | _ => false) = true) (hi : (P.info? ty).map (·.size) = some cs.size) :
    (results fn tmps).run P w = .ok (.tuple #[.agg cs, tmps.getD t1 undef]) w := by
  have hp' : tmps[p]?.getD undef = .pointer (some ⟨g, 0, none⟩) := by simpa using hp
  simp [results, h, hp', asAddr, run_loadVar_row w g t ty cs fr d hg hu hd hi]
set_option maxRecDepth 100000 in
theorem of_ok (f : Nat → BitVec 8) (w : World) (T : TabK w) :
    Calls Tryd.prog 6 #[.string (strOf f 32)] w fun e w' => e = .returned (.tuple #[.agg (keysC f), .int .i64 0]) ∧ Below w.heap.size w w' := by
  have K1 := Lib.hid (fun (w' : World) (hb : Below w.heap.size w w') => (show Calls Tryd.prog 15 #[.string (strOf f 32), .string ⟨#[113, 117, 105, 99, 32, 107, 101, 121]⟩, .int .i64 16] w' _ from lab_of f qkey 8 16 _ qkey_str (by omega) (by omega) w' (T.later hb)))
  have K2 := Lib.hid (fun (w' : World) (hb : Below w.heap.size w w') => (show Calls Tryd.prog 15 #[.string (strOf f 32), .string ⟨#[113, 117, 105, 99, 32, 105, 118]⟩, .int .i64 12] w' _ from lab_of f qiv 7 12 _ qiv_str (by omega) (by omega) w' (T.later hb)))
  have K3 := Lib.hid (fun (w' : World) (hb : Below w.heap.size w w') => (show Calls Tryd.prog 15 #[.string (strOf f 32), .string ⟨#[113, 117, 105, 99, 32, 104, 112]⟩, .int .i64 16] w' _ from lab_of f qhp 7 16 _ qhp_str (by omega) (by omega) w' (T.later hb)))
  have zf := strOf_size f 32
  have e : keysC f = #[.string (strOf (lblB f 32 16 8 (tb qkey)) 16), .string (strOf (lblB f 32 12 7 (tb qiv)) 12), .string (strOf (lblB f 32 16 7 (tb qhp)) 16)] := rfl
  rw [e]
  clear e
  generalize strOf (lblB f 32 16 8 (tb qkey)) 16 = R1 at *
  generalize strOf (lblB f 32 12 7 (tb qiv)) 12 = R2 at *
  generalize strOf (lblB f 32 16 7 (tb qhp)) 16 = R3 at *
  generalize strOf f 32 = SF at *
  clear T
  go_enter Tryd.func6, Tryd.ntmps6
  go_upto_region 3 with fail
  obtain ⟨wa, hwa⟩ : ∃ wa, w.alloc (.cells #[.string ⟨#[]⟩, .string ⟨#[]⟩, .string ⟨#[]⟩] 28) = wa := ⟨_, rfl⟩
  have ba : Below w.heap.size w wa := by rw [← hwa]; exact (Below.refl _ _).alloc (Nat.le_refl _) _
  have ra : wa.heap[w.heap.size]? = some (.cells #[.string ⟨#[]⟩, .string ⟨#[]⟩, .string ⟨#[]⟩] 28 (0, 0)) := by rw [← hwa]; exact heap_alloc_last _ _
  simp only [hwa]
  have BA := Lib.hid ba
  have RA := Lib.hid ra
  clear hwa ba ra
  go_wp2_with fail
  with_reducible refine (K1.out wa BA.out).mono ?_
  rintro e w1 ⟨rfl, hb1⟩
  have B1 := Lib.hid (BA.out.trans (hb1.mono BA.out.size))
  have Q1 := Lib.hid ((hb1.block w.heap.size (lt_of_heap RA.out)).trans RA.out)
  clear hb1 K1
  go_wp2_with fail
  with_reducible refine (K2.out w1 B1.out).mono ?_
  rintro e w2 ⟨rfl, hb2⟩
  have B2 := Lib.hid (B1.out.trans (hb2.mono B1.out.size))
  have Q2 := Lib.hid ((hb2.block w.heap.size (lt_of_heap Q1.out)).trans Q1.out)
  clear hb2 K2
  go_wp2_with fail
  with_reducible refine (K3.out w2 B2.out).mono ?_
  rintro e w3 ⟨rfl, hb3⟩
  have B3 := Lib.hid (B2.out.trans (hb3.mono B2.out.size))
  have Q3 := Lib.hid ((hb3.block w.heap.size (lt_of_heap Q2.out)).trans Q2.out)
  clear hb3 K3
  go_wp2_with (refine wpList_store_row (op := ⟨none, .store 28 (.tmp 2) (.tmp 42), _, _, _, _⟩) rfl 28 _ _ rfl w.heap.size _ _ #[.string R1, .string R2, .string R3] rfl rfl Q3.out rfl (by kernel_rfl) (by kernel_rfl) ?_; intro w4 s4)
  refine bodyPost_ret (v := .tuple #[.agg #[.string R1, .string R2, .string R3], .int .i64 0]) (results_cell_tmp (p := 2) (t1 := 3) rfl _ _ w.heap.size 28 #[.string R1, .string R2, .string R3] (0, 0) _ rfl s4.row Tryd.underlying28 rfl (by kernel_rfl)) rfl ⟨rfl, B3.out.trans (s4.below _ (Nat.le_refl _))⟩
set_option maxRecDepth 100000 in
theorem of_bad (x : ByteArray) (hx : x.size ≠ 32) (w : World) :
    Calls Tryd.prog 6 #[.string x] w fun e w' => e = .returned (.tuple #[.agg noKeys, .int .i64 1]) ∧ Below w.heap.size w w' := by
  have hI : ¬ (x.size : Int) = 32 := by omega
  go_enter Tryd.func6, Tryd.ntmps6
  go_upto_region 2 with fail
  obtain ⟨wa, hwa⟩ : ∃ wa, w.alloc (.cells #[.string ⟨#[]⟩, .string ⟨#[]⟩, .string ⟨#[]⟩] 28) = wa := ⟨_, rfl⟩
  have ba : Below w.heap.size w wa := by rw [← hwa]; exact (Below.refl _ _).alloc (Nat.le_refl _) _
  have ra : wa.heap[w.heap.size]? = some (.cells #[.string ⟨#[]⟩, .string ⟨#[]⟩, .string ⟨#[]⟩] 28 (0, 0)) := by rw [← hwa]; exact heap_alloc_last _ _
  simp only [hwa]
  have BA := Lib.hid ba
  have RA := Lib.hid ra
  clear hwa ba ra
  go_wp2_with (refine wpList_store_row (op := ⟨none, .store 28 (.tmp 2) (.tmp 11), _, _, _, _⟩) rfl 28 _ _ rfl w.heap.size _ _ noKeys rfl rfl RA.out rfl (by kernel_rfl) (by kernel_rfl) ?_; intro w4 s4)
  refine bodyPost_ret (v := .tuple #[.agg noKeys, .int .i64 1]) (results_cell_tmp (p := 2) (t1 := 3) rfl _ _ w.heap.size 28 noKeys (0, 0) _ rfl s4.row Tryd.underlying28 rfl (by kernel_rfl)) rfl ⟨rfl, BA.out.trans (s4.below _ (Nat.le_refl _))⟩
theorem next_ok (f : Nat → BitVec 8) (w : World) (T : TabK w) :
    Calls Tryd.prog 8 #[.string (strOf f 32)] w fun e w' => e = .returned (.tuple #[.string (strOf (lblB f 32 32 7 (tb qku)) 32), .int .i64 0]) ∧ Below w.heap.size w w' := by
  have K1 := Lib.hid (show Calls Tryd.prog 15 #[.string (strOf f 32), .string ⟨#[113, 117, 105, 99, 32, 107, 117]⟩, .int .i64 32] w _ from lab_of f qku 7 32 _ qku_str (by omega) (by omega) w T)
  have zf := strOf_size f 32
  generalize strOf (lblB f 32 32 7 (tb qku)) 32 = R1 at *
  generalize strOf f 32 = SF at *
  clear T
  go_enter Tryd.func8, Tryd.ntmps8
  go_wp2_with fail
  with_reducible refine K1.out.mono ?_
  rintro e w1 ⟨rfl, hb1⟩
  go_wp2_with fail
  go_ret2
  exact ⟨rfl, hb1⟩
theorem next_bad (x : ByteArray) (hx : x.size ≠ 32) (w : World) :
    Calls Tryd.prog 8 #[.string x] w fun e w' => e = .returned (.tuple #[.string ⟨#[]⟩, .int .i64 1]) ∧ w = w' := by
  have hI : ¬ (x.size : Int) = 32 := by omega
  go_enter Tryd.func8, Tryd.ntmps8
  go_wp2_with fail
  go_ret2
  exact ⟨rfl, rfl⟩
end Go.Proofs.YtebhhonmpoeliaaDoor
