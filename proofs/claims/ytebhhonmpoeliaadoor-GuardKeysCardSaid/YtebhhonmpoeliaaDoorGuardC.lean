/-
  guard: the document's label, Of, Next, First; the law's to.
-/
import Derived.Test.YtebhhonmpoeliaaDoorGuardB
namespace Go.Proofs.YtebhhonmpoeliaaDoor
open Go Go.RowKit Go.BigFrame
set_option linter.unusedSimpArgs false
set_option linter.unusedVariables false
theorem rlabel_ok (f s : Nat → BitVec 8) (m l N : Nat) (hm : m ≤ 50000) (hl : l ≤ 249) (hN : N ≤ 8160) (w : World) :
    Calls Tryd.prog 14 #[.string (strOf f m), .string (strOf s l), .int .i64 (N : Int)] w fun e w' => e = .returned (.string (strOf (lblB f m N l s) N)) ∧ Below w.heap.size w w' := by
  have LB := refLabel_ok m 0 N l f (fun _ => 0#8) s w hm (by omega) hl hN
  rw [str_none] at LB
  have e : expB (keyB f m) (infoB N l s 0 (fun _ => 0#8)) (9 + l + 1 + 0) = lblB f m N l s := rfl
  rw [e] at LB
  generalize strOf (lblB f m N l s) N = R at *
  generalize strOf f m = SF at *
  generalize strOf s l = SL at *
  have L := Lib.hid LB
  clear e LB
  go_enter Tryd.func14, Tryd.ntmps14
  go_wp2_with fail
  with_reducible refine L.out.mono ?_
  rintro e w1 ⟨rfl, hb1⟩
  go_wp2_with fail
  go_ret
  exact ⟨rfl, hb1⟩
theorem rlab_of (f : Nat → BitVec 8) (L : List Nat) (l N : Nat) (x : ByteArray) (hx : strOf (tb L) l = x) (hl : l ≤ 249) (hN : N ≤ 8160) (w : World) :
    Calls Tryd.prog 14 #[.string (strOf f 32), .string x, .int .i64 (N : Int)] w fun e w' => e = .returned (.string (strOf (lblB f 32 N l (tb L)) N)) ∧ Below w.heap.size w w' := by
  rw [← hx]
  exact rlabel_ok f (tb L) 32 l N (by omega) hl hN w
set_option maxRecDepth 100000 in
theorem docOf_ok (f : Nat → BitVec 8) (w : World) :
    Calls Tryd.prog 5 #[.string (strOf f 32)] w fun e w' => e = .returned (.tuple #[.agg (keysC f), .int .i64 0]) ∧ Below w.heap.size w w' := by
  have K1 := Lib.hid (fun (w' : World) => (show Calls Tryd.prog 14 #[.string (strOf f 32), .string ⟨#[113, 117, 105, 99, 32, 107, 101, 121]⟩, .int .i64 16] w' _ from rlab_of f qkey 8 16 _ qkey_str (by omega) (by omega) w'))
  have K2 := Lib.hid (fun (w' : World) => (show Calls Tryd.prog 14 #[.string (strOf f 32), .string ⟨#[113, 117, 105, 99, 32, 105, 118]⟩, .int .i64 12] w' _ from rlab_of f qiv 7 12 _ qiv_str (by omega) (by omega) w'))
  have K3 := Lib.hid (fun (w' : World) => (show Calls Tryd.prog 14 #[.string (strOf f 32), .string ⟨#[113, 117, 105, 99, 32, 104, 112]⟩, .int .i64 16] w' _ from rlab_of f qhp 7 16 _ qhp_str (by omega) (by omega) w'))
  have zf := strOf_size f 32
  have e : keysC f = #[.string (strOf (lblB f 32 16 8 (tb qkey)) 16), .string (strOf (lblB f 32 12 7 (tb qiv)) 12), .string (strOf (lblB f 32 16 7 (tb qhp)) 16)] := rfl
  rw [e]
  clear e
  generalize strOf (lblB f 32 16 8 (tb qkey)) 16 = R1 at *
  generalize strOf (lblB f 32 12 7 (tb qiv)) 12 = R2 at *
  generalize strOf (lblB f 32 16 7 (tb qhp)) 16 = R3 at *
  generalize strOf f 32 = SF at *
  go_enter Tryd.func5, Tryd.ntmps5
  go_upto_region 3 with fail
  obtain ⟨wa, hwa⟩ : ∃ wa, w.alloc (.cells #[.string ⟨#[]⟩, .string ⟨#[]⟩, .string ⟨#[]⟩] 24) = wa := ⟨_, rfl⟩
  have ba : Below w.heap.size w wa := by rw [← hwa]; exact (Below.refl _ _).alloc (Nat.le_refl _) _
  have ra : wa.heap[w.heap.size]? = some (.cells #[.string ⟨#[]⟩, .string ⟨#[]⟩, .string ⟨#[]⟩] 24 (0, 0)) := by rw [← hwa]; exact heap_alloc_last _ _
  simp only [hwa]
  have BA := Lib.hid ba
  have RA := Lib.hid ra
  clear hwa ba ra
  go_wp2_with fail
  with_reducible refine (K1.out wa).mono ?_
  rintro e w1 ⟨rfl, hb1⟩
  have B1 := Lib.hid (BA.out.trans (hb1.mono BA.out.size))
  have Q1 := Lib.hid ((hb1.block w.heap.size (lt_of_heap RA.out)).trans RA.out)
  clear hb1 K1
  go_wp2_with fail
  with_reducible refine (K2.out w1).mono ?_
  rintro e w2 ⟨rfl, hb2⟩
  have B2 := Lib.hid (B1.out.trans (hb2.mono B1.out.size))
  have Q2 := Lib.hid ((hb2.block w.heap.size (lt_of_heap Q1.out)).trans Q1.out)
  clear hb2 K2
  go_wp2_with fail
  with_reducible refine (K3.out w2).mono ?_
  rintro e w3 ⟨rfl, hb3⟩
  have B3 := Lib.hid (B2.out.trans (hb3.mono B2.out.size))
  have Q3 := Lib.hid ((hb3.block w.heap.size (lt_of_heap Q2.out)).trans Q2.out)
  clear hb3 K3
  go_wp2_with (refine wpList_store_row (op := ⟨none, .store 24 (.tmp 2) (.tmp 14), _, _, _, _⟩) rfl 24 _ _ rfl w.heap.size _ _ #[.string R1, .string R2, .string R3] rfl rfl Q3.out rfl (by kernel_rfl) (by kernel_rfl) ?_; intro w4 s4)
  refine bodyPost_ret (v := .tuple #[.agg #[.string R1, .string R2, .string R3], .int .i64 0]) (results_cell_tmp (p := 2) (t1 := 3) rfl _ _ w.heap.size 24 #[.string R1, .string R2, .string R3] (0, 0) _ rfl s4.row Tryd.underlying24 rfl (by kernel_rfl)) rfl ⟨rfl, B3.out.trans (s4.below _ (Nat.le_refl _))⟩
set_option maxRecDepth 100000 in
theorem docOf_bad (x : ByteArray) (hx : x.size ≠ 32) (w : World) :
    Calls Tryd.prog 5 #[.string x] w fun e w' => e = .returned (.tuple #[.agg noKeys, .int .i64 1]) ∧ Below w.heap.size w w' := by
  have hI : ¬ (x.size : Int) = 32 := by omega
  go_enter Tryd.func5, Tryd.ntmps5
  go_upto_region 2 with fail
  obtain ⟨wa, hwa⟩ : ∃ wa, w.alloc (.cells #[.string ⟨#[]⟩, .string ⟨#[]⟩, .string ⟨#[]⟩] 24) = wa := ⟨_, rfl⟩
  have ba : Below w.heap.size w wa := by rw [← hwa]; exact (Below.refl _ _).alloc (Nat.le_refl _) _
  have ra : wa.heap[w.heap.size]? = some (.cells #[.string ⟨#[]⟩, .string ⟨#[]⟩, .string ⟨#[]⟩] 24 (0, 0)) := by rw [← hwa]; exact heap_alloc_last _ _
  simp only [hwa]
  have BA := Lib.hid ba
  have RA := Lib.hid ra
  clear hwa ba ra
  go_wp2_with (refine wpList_store_row (op := ⟨none, .store 24 (.tmp 2) (.tmp 7), _, _, _, _⟩) rfl 24 _ _ rfl w.heap.size _ _ noKeys rfl rfl RA.out rfl (by kernel_rfl) (by kernel_rfl) ?_; intro w4 s4)
  refine bodyPost_ret (v := .tuple #[.agg noKeys, .int .i64 1]) (results_cell_tmp (p := 2) (t1 := 3) rfl _ _ w.heap.size 24 noKeys (0, 0) _ rfl s4.row Tryd.underlying24 rfl (by kernel_rfl)) rfl ⟨rfl, BA.out.trans (s4.below _ (Nat.le_refl _))⟩
theorem docNext_ok (f : Nat → BitVec 8) (w : World) :
    Calls Tryd.prog 7 #[.string (strOf f 32)] w fun e w' => e = .returned (.tuple #[.string (strOf (lblB f 32 32 7 (tb qku)) 32), .int .i64 0]) ∧ Below w.heap.size w w' := by
  have K1 := Lib.hid (show Calls Tryd.prog 14 #[.string (strOf f 32), .string ⟨#[113, 117, 105, 99, 32, 107, 117]⟩, .int .i64 32] w _ from rlab_of f qku 7 32 _ qku_str (by omega) (by omega) w)
  have zf := strOf_size f 32
  generalize strOf (lblB f 32 32 7 (tb qku)) 32 = R1 at *
  generalize strOf f 32 = SF at *
  go_enter Tryd.func7, Tryd.ntmps7
  go_wp2_with fail
  with_reducible refine K1.out.mono ?_
  rintro e w1 ⟨rfl, hb1⟩
  go_wp2_with fail
  go_ret2
  exact ⟨rfl, hb1⟩
theorem docNext_bad (x : ByteArray) (hx : x.size ≠ 32) (w : World) :
    Calls Tryd.prog 7 #[.string x] w fun e w' => e = .returned (.tuple #[.string ⟨#[]⟩, .int .i64 1]) ∧ w = w' := by
  have hI : ¬ (x.size : Int) = 32 := by omega
  go_enter Tryd.func7, Tryd.ntmps7
  go_wp2_with fail
  go_ret2
  exact ⟨rfl, rfl⟩
theorem docFirst_bad (x : ByteArray) (hx : 20 < x.size) (w : World) :
    Calls Tryd.prog 9 #[.string x] w fun e w' => e = .returned (.tuple #[.string ⟨#[]⟩, .string ⟨#[]⟩, .int .i64 1]) ∧ w = w' := by
  have hI : (20 : Int) < (x.size : Int) := by omega
  go_enter Tryd.func9, Tryd.ntmps9
  go_wp2_with fail
  go_ret3
  exact ⟨rfl, rfl⟩
theorem salt_str : strOf (tb saltL) 20 = ⟨#[56, 118, 44, 247, 245, 89, 52, 179, 77, 23, 154, 230, 164, 200, 12, 173, 204, 187, 127, 10]⟩ := by kernel_rfl
set_option maxRecDepth 100000 in
theorem docFirst_ok (g : Nat → BitVec 8) (n : Nat) (hn : n ≤ 20) (w : World) :
    Calls Tryd.prog 9 #[.string (strOf g n)] w fun e w' => e = .returned (.tuple #[.string (strOf (lblB (comB g n) 32 32 9 (tb qcin)) 32), .string (strOf (lblB (comB g n) 32 32 9 (tb qsin)) 32), .int .i64 0]) ∧ Below w.heap.size w w' := by
  have zg := strOf_size g n
  have hI : ¬ (20 : Int) < (n : Int) := by omega
  have MC := refMac_any (tb saltL) g 20 n (by omega) (by omega) w
  rw [salt_str] at MC
  have ecom : macB (keyB (tb saltL) 20) g n = comB g n := rfl
  rw [ecom] at MC
  obtain ⟨C, hC⟩ : ∃ C, comB g n = C := ⟨_, rfl⟩
  rw [hC] at MC ⊢
  have K1 := Lib.hid (fun (w' : World) => (show Calls Tryd.prog 14 #[.string (strOf C 32), .string ⟨#[99, 108, 105, 101, 110, 116, 32, 105, 110]⟩, .int .i64 32] w' _ from rlab_of C qcin 9 32 _ qcin_str (by omega) (by omega) w'))
  have K2 := Lib.hid (fun (w' : World) => (show Calls Tryd.prog 14 #[.string (strOf C 32), .string ⟨#[115, 101, 114, 118, 101, 114, 32, 105, 110]⟩, .int .i64 32] w' _ from rlab_of C qsin 9 32 _ qsin_str (by omega) (by omega) w'))
  have M := Lib.hid MC
  clear MC
  generalize strOf (lblB C 32 32 9 (tb qcin)) 32 = R1 at *
  generalize strOf (lblB C 32 32 9 (tb qsin)) 32 = R2 at *
  generalize strOf C 32 = SCom at *
  generalize strOf g n = SG at *
  clear hC ecom
  go_enter Tryd.func9, Tryd.ntmps9
  go_wp2_with fail
  with_reducible refine M.out.mono ?_
  rintro e w3 ⟨rfl, hb3⟩
  go_wp2_with fail
  with_reducible refine (K1.out w3).mono ?_
  rintro e w4 ⟨rfl, hb4⟩
  go_wp2_with fail
  with_reducible refine (K2.out w4).mono ?_
  rintro e w5 ⟨rfl, hb5⟩
  go_wp2_with fail
  go_ret3
  exact ⟨rfl, hb3.trans ((hb4.trans (hb5.mono hb4.size)).mono hb3.size)⟩
set_option maxRecDepth 100000 in
theorem to_any (R1 R2 R3 : ByteArray) (w : World) :
    Calls Tryd.prog 11 #[.agg #[.string R1, .string R2, .string R3]] w fun e w' => e = .returned (.agg #[.string R1, .string R2, .string R3]) ∧ Below w.heap.size w w' := by
  go_enter Tryd.func11, Tryd.ntmps11
  go_upto_region 1 with fail
  obtain ⟨wa, hwa⟩ : ∃ wa, (w.alloc (.cells #[.string R1, .string R2, .string R3] 24)).alloc (.cells #[.string ⟨#[]⟩, .string ⟨#[]⟩, .string ⟨#[]⟩] 28) = wa := ⟨_, rfl⟩
  have ba : Below w.heap.size w wa := by rw [← hwa]; exact ((Below.refl _ _).alloc (Nat.le_refl _) _).alloc (by simp) _
  have r1 : wa.heap[w.heap.size]? = some (.cells #[.string R1, .string R2, .string R3] 24 (0, 0)) := by rw [← hwa]; exact rows_alloc w [.cells #[.string R1, .string R2, .string R3] 24, .cells #[.string ⟨#[]⟩, .string ⟨#[]⟩, .string ⟨#[]⟩] 28] 0
  have r2 : wa.heap[w.heap.size + 1]? = some (.cells #[.string ⟨#[]⟩, .string ⟨#[]⟩, .string ⟨#[]⟩] 28 (0, 0)) := by rw [← hwa]; exact rows_alloc w [.cells #[.string R1, .string R2, .string R3] 24, .cells #[.string ⟨#[]⟩, .string ⟨#[]⟩, .string ⟨#[]⟩] 28] 1
  simp only [hwa]
  have c0 : wa.cell? ⟨w.heap.size, 0, none⟩ = some (.string R1) := by rw [cell_of_row _ _ _ _ _ _ r1]; rfl
  have c1 : wa.cell? ⟨w.heap.size, 1, none⟩ = some (.string R2) := by rw [cell_of_row _ _ _ _ _ _ r1]; rfl
  have c2 : wa.cell? ⟨w.heap.size, 2, none⟩ = some (.string R3) := by rw [cell_of_row _ _ _ _ _ _ r1]; rfl
  have BA := Lib.hid ba
  have RA := Lib.hid r2
  clear hwa ba r1 r2
  go_wp2_with (refine wpList_store_row (op := ⟨none, .store 28 (.tmp 2) (.tmp 9), _, _, _, _⟩) rfl 28 _ _ rfl (w.heap.size + 1) _ _ #[.string R1, .string R2, .string R3] rfl rfl RA.out rfl (by kernel_rfl) (by kernel_rfl) ?_; intro w4 s4)
  exact ret_row (w.heap.size + 1) _ 28 #[.string R1, .string R2, .string R3] rfl _ rfl s4.row Tryd.underlying28 rfl (by kernel_rfl) rfl ⟨rfl, BA.out.trans (s4.below _ (Nat.le_succ _))⟩
end Go.Proofs.YtebhhonmpoeliaaDoor
