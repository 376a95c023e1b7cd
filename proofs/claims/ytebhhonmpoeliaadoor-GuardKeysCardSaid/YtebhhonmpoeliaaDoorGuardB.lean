/-
  guard: First, Reset.
-/
import Derived.Test.YtebhhonmpoeliaaDoorGuardA
namespace Go.Proofs.YtebhhonmpoeliaaDoor
open Go Go.RowKit Go.BigFrame
set_option linter.unusedSimpArgs false
set_option linter.unusedVariables false
def saltL : List Nat := [56, 118, 44, 247, 245, 89, 52, 179, 77, 23, 154, 230, 164, 200, 12, 173, 204, 187, 127, 10]
/-- The secret of a name, of which the first ones are made. -/
def comB (g : Nat → BitVec 8) (n : Nat) : Nat → BitVec 8 := macB (keyB (tb saltL) 20) g n
theorem salt_cells : (#[.int .u8 56, .int .u8 118, .int .u8 44, .int .u8 247, .int .u8 245, .int .u8 89, .int .u8 52, .int .u8 179, .int .u8 77, .int .u8 23, .int .u8 154, .int .u8 230, .int .u8 164, .int .u8 200, .int .u8 12, .int .u8 173, .int .u8 204, .int .u8 187, .int .u8 127, .int .u8 10] : Array Value) = bytesA (tb saltL) 20 := by kernel_rfl
theorem marked_in {w : World} {q M : Nat} {g : Nat → BitVec 8} {T : TypeId} {fr : Nat × Nat} (h : w.heap[q]? = some (.cells (bytesA g M) T fr)) (hm : M ≤ maxLen) : BytesIn w (some ⟨q, 0, none⟩) M g :=
  ⟨hm, .inr ⟨q, 0, rfl, lt_of_heap h, fun i hi => by rw [Nat.zero_add, cell_of_row _ _ _ _ _ _ h]; exact bytesA_get _ hi⟩⟩
theorem first_bad (x : ByteArray) (hx : 20 < x.size) (w : World) :
    Calls Tryd.prog 10 #[.string x] w fun e w' => e = .returned (.tuple #[.string ⟨#[]⟩, .string ⟨#[]⟩, .int .i64 1]) ∧ w = w' := by
  have hI : (20 : Int) < (x.size : Int) := by omega
  go_enter Tryd.func10, Tryd.ntmps10
  go_wp2_with fail
  go_ret3
  exact ⟨rfl, rfl⟩
set_option maxHeartbeats 4000000 in
set_option maxRecDepth 100000 in
theorem first_ok (g : Nat → BitVec 8) (n : Nat) (hn : n ≤ 20) (w : World) (T : TabK w) :
    Calls Tryd.prog 10 #[.string (strOf g n)] w fun e w' => e = .returned (.tuple #[.string (strOf (lblB (comB g n) 32 32 9 (tb qcin)) 32), .string (strOf (lblB (comB g n) 32 32 9 (tb qsin)) 32), .int .i64 0]) ∧ Below w.heap.size w w' := by
  have zg := strOf_size g n
  have hI : ¬ (20 : Int) < (n : Int) := by omega
  obtain ⟨SC, hSC⟩ : ∃ SC, SC = (#[.int .u8 56, .int .u8 118, .int .u8 44, .int .u8 247, .int .u8 245, .int .u8 89, .int .u8 52, .int .u8 179, .int .u8 77, .int .u8 23, .int .u8 154, .int .u8 230, .int .u8 164, .int .u8 200, .int .u8 12, .int .u8 173, .int .u8 204, .int .u8 187, .int .u8 127, .int .u8 10] : Array Value) := ⟨_, rfl⟩
  have hz : SC.size = 20 := by rw [hSC]; rfl
  have hcv1 := conv_same w SC 5 20 20
  rw [hz] at hcv1
  have al1 : Below w.heap.size w (w.alloc (.cells SC 5 (20, 20 + 1))) := (Below.refl _ _).alloc (Nat.le_refl _) _
  have r1 : (w.alloc (.cells SC 5 (20, 20 + 1))).heap[w.heap.size]? = some (.cells SC 5 (20, 20 + 1)) := heap_alloc_last _ _
  obtain ⟨w1, hw1⟩ : ∃ w1, w.alloc (.cells SC 5 (20, 20 + 1)) = w1 := ⟨_, rfl⟩
  rw [hw1] at hcv1 al1 r1
  obtain ⟨v2, w2, hcv2, o2, b2⟩ := conv_ownZ g n (by omega) w1 w1.heap.size (Nat.le_refl _)
  obtain ⟨a2, c2, rfl, hc2, hm2, bi2, hg2⟩ := o2.asBytes
  have B2 := al1.trans (b2.mono al1.size)
  have r2 := (b2.block _ (lt_of_heap r1)).trans r1
  rw [hSC, salt_cells] at r2
  have EX := Lib.hid (extract_any 20 20 n c2 (tb saltL) g (some ⟨w.heap.size, 0, none⟩) a2 w2 (T.later B2) (marked_in r2 (by unfold maxLen; omega)) (Nat.le_refl _) (by unfold maxLen; omega) (by omega) bi2 hc2 hm2 (by omega))
  have BB := Lib.hid B2
  have TK := Lib.hid (fun (w' : World) (hb : Below w.heap.size w w') => T.later hb)
  have ecom : macB (keyB (tb saltL) 20) g n = comB g n := rfl
  rw [ecom] at EX
  obtain ⟨C, hC⟩ : ∃ C, comB g n = C := ⟨_, rfl⟩
  rw [hC] at EX ⊢
  have K1 := Lib.hid (fun (w' : World) (T' : TabK w') => (show Calls Tryd.prog 15 #[.string (strOf C 32), .string ⟨#[99, 108, 105, 101, 110, 116, 32, 105, 110]⟩, .int .i64 32] w' _ from lab_of C qcin 9 32 _ qcin_str (by omega) (by omega) w' T'))
  have K2 := Lib.hid (fun (w' : World) (T' : TabK w') => (show Calls Tryd.prog 15 #[.string (strOf C 32), .string ⟨#[115, 101, 114, 118, 101, 114, 32, 105, 110]⟩, .int .i64 32] w' _ from lab_of C qsin 9 32 _ qsin_str (by omega) (by omega) w' T'))
  have CC := Lib.hid (fun (w' : World) (q : Nat) (h : w'.heap[q]? = some (.cells (bytesA C 32) 42 (0, 0))) => conv_in C (some ⟨q, 0, none⟩) 32 32 w' (row_bytesIn h 32 (Nat.le_refl _) (by unfold maxLen; omega)))
  generalize strOf (lblB C 32 32 9 (tb qcin)) 32 = R1 at *
  generalize strOf (lblB C 32 32 9 (tb qsin)) 32 = R2 at *
  generalize strOf C 32 = SCom at *
  generalize strOf g n = SG at *
  clear al1 r1 r2 o2 b2 bi2 hg2 B2 T hC ecom hz
  go_enter Tryd.func10, Tryd.ntmps10
  go_upto_region 3 with fail
  rw [hSC] at hcv1 hw1
  clear hSC
  go_wp2_with fail
  with_reducible refine EX.out.mono ?_
  rintro e w3 ⟨q, rfl, hq, hrow, hb3⟩
  have B3 := Lib.hid (BB.out.trans (hb3.mono BB.out.size))
  have cc := CC.out w3 q hrow
  have L1 := Lib.hid (K1.out w3 (TK.out w3 B3.out))
  clear hcv1 hcv2 hw1 hrow hb3 hq EX BB CC K1
  go_wp2_with fail
  clear cc
  with_reducible refine L1.out.mono ?_
  rintro e w4 ⟨rfl, hb4⟩
  have B4 := Lib.hid (B3.out.trans (hb4.mono B3.out.size))
  have L2 := Lib.hid (K2.out w4 (TK.out w4 B4.out))
  clear hb4 L1 K2 TK
  go_wp2_with fail
  with_reducible refine L2.out.mono ?_
  rintro e w5 ⟨rfl, hb5⟩
  have B5 := Lib.hid (B4.out.trans (hb5.mono B4.out.size))
  clear hb5 L2
  go_wp2_with fail
  go_ret3
  exact ⟨rfl, B5.out⟩
set_option maxRecDepth 100000 in
theorem reset_any (f g : Nat → BitVec 8) (m n : Nat) (hm : m ≤ 100000) (hn : n ≤ 100000) (w : World) (T : TabK w) :
    Calls Tryd.prog 12 #[.string (strOf f m), .string (strOf g n)] w fun e w' => e = .returned (.string (strOf (macB (keyB f m) g n) 16)) ∧ Below w.heap.size w w' := by
  obtain ⟨v1, w1, hcv1, o1, b1⟩ := conv_ownZ f m (by omega) w w.heap.size (Nat.le_refl _)
  obtain ⟨v2, w2, hcv2, o2, b2⟩ := conv_ownZ g n (by omega) w1 w1.heap.size (Nat.le_refl _)
  obtain ⟨a1, c1, rfl, hc1, hm1, bi1, hg1⟩ := o1.asBytes
  obtain ⟨a2, c2, rfl, hc2, hm2, bi2, hg2⟩ := o2.asBytes
  have B2 := b1.trans (b2.mono b1.size)
  have MC := Lib.hid (mac_any m c1 n c2 f g a1 a2 w2 (T.later B2) (bytesIn_ext bi1 b2) hc1 hm1 (by omega) bi2 hc2 hm2 (by omega))
  have BB := Lib.hid B2
  obtain ⟨t, ht⟩ : ∃ t, macB (keyB f m) g n = t := ⟨_, rfl⟩
  rw [ht] at MC ⊢
  obtain ⟨R, hR⟩ : ∃ R, strOf t 16 = R := ⟨_, rfl⟩
  rw [hR]
  have HR := Lib.hid hR
  generalize strOf f m = SF at *
  generalize strOf g n = SG at *
  clear o1 o2 b1 b2 hg1 hg2 bi1 bi2 B2 T ht hR
  go_enter Tryd.func12, Tryd.ntmps12
  go_wp2_with fail
  clear hcv1 hcv2
  with_reducible refine MC.out.mono ?_
  rintro e w3 ⟨rfl, hb3⟩
  have hal : Below w3.heap.size w3 (w3.alloc (.cells (bytesA t 32) 42)) := (Below.refl _ _).alloc (Nat.le_refl _) _
  have hal2 : (w3.alloc (.cells (bytesA t 32) 42)).heap[w3.heap.size]? = some (.cells (bytesA t 32) 42 (0, 0)) := heap_alloc_last _ _
  go_upto_region 2 with (first
    | (refine wpList_alloc_row (o := ⟨some 5, .alloc 42, _, _, _, _⟩) rfl 42 rfl _ zero_32 ?_)
    | (refine wpList_store_new (o := ⟨none, .store 42 (.tmp 5) (.tmp 10), _, _, _, _⟩) rfl 42 _ _ rfl (bytesA (fun _ => 0#8) 32) (bytesA t 32) _ rfl rfl rfl (by rw [bytesA_size]; kernel_rfl) (by rw [bytesA_size, bytesA_size]) (bytesA_one _ _) ?_))
  have B4 := Lib.hid (BB.out.trans ((hb3.trans (hal.mono hb3.size)).mono BB.out.size))
  obtain ⟨w4, hw4⟩ : ∃ w4, w3.alloc (.cells (bytesA t 32) 42) = w4 := ⟨_, rfl⟩
  rw [hw4] at hal2 B4
  simp only [hw4]
  generalize w3.heap.size = q at *
  have hsl : (Instr.sliceAt 42 (.pointer (some ⟨q, 0, none⟩)) none (some (.int .i64 16)) none).run Tryd.prog w4 = .ok (.slice (some ⟨q, 0, none⟩) 16 32) w4 := run_arr32_upto w4 q 16 (by omega)
  have hcv := conv_in t (some ⟨q, 0, none⟩) 16 32 w4 (row_bytesIn hal2 16 (by omega) (by unfold maxLen; omega))
  rw [HR.out] at hcv
  clear hal hal2 hw4 hb3 MC BB
  go_wp2_with fail
  go_ret
  exact ⟨rfl, B4.out⟩
theorem str_upto (f : Nat → BitVec 8) (lo len : Nat) (h2 : lo ≤ len) : (strOf f len).extract 0 lo = strOf f lo := by
  apply ByteArray.ext
  rw [ByteArray.data_extract]
  apply Array.ext_getElem?
  intro i
  show ((strL f len).toArray.extract 0 lo)[i]? = (strL f lo).toArray[i]?
  by_cases h : i < lo
  · have : i < len := by omega
    simp [strL, h, this]
  · rw [Array.getElem?_eq_none (by simp [strL]; omega), Array.getElem?_eq_none (by simp [strL]; omega)]
theorem docReset_any (f g : Nat → BitVec 8) (m n : Nat) (hm : m ≤ 50000) (hn : n ≤ 50000) (w : World) :
    Calls Tryd.prog 13 #[.string (strOf f m), .string (strOf g n)] w fun e w' => e = .returned (.string (strOf (macB (keyB f m) g n) 16)) ∧ Below w.heap.size w w' := by
  have MC := Lib.hid (refMac_any f g m n hm hn w)
  obtain ⟨t, ht⟩ : ∃ t, macB (keyB f m) g n = t := ⟨_, rfl⟩
  rw [ht] at MC ⊢
  have ex := str_upto t 16 32 (by omega)
  have z := strOf_size t 32
  generalize strOf f m = SF at *
  generalize strOf g n = SG at *
  generalize strOf t 32 = S32 at *
  generalize strOf t 16 = S16 at *
  clear ht
  go_enter Tryd.func13, Tryd.ntmps13
  go_wp2_with fail
  with_reducible refine MC.out.mono ?_
  rintro e w1 ⟨rfl, hb1⟩
  go_wp2_with fail
  go_ret
  exact ⟨rfl, hb1⟩
end Go.Proofs.YtebhhonmpoeliaaDoor
