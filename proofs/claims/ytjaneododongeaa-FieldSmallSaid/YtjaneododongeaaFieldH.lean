/-
  THE CALLS OF THE STATEMENTS OF field: one, and whether p is nought.
-/
import Derived.Test.YtjaneododongeaaFieldG
namespace Go.Proofs.Ytjaneododongeaa
open Go Go.RowKit Go.BigFrame
def byteF (n : BitVec 8) (i : Nat) : BitVec 8 := if i = 0 then n else 0#8
def primeTo (k i : Nat) : BitVec 8 := if i = 0 then 237#8 else if i < k then 255#8 else 0#8
def primeF (i : Nat) : BitVec 8 := if i = 31 then 127#8 else primeTo 31 i
theorem b32_one1 : Value.agg #[.int .u8 1, .int .u8 0, .int .u8 0, .int .u8 0, .int .u8 0, .int .u8 0, .int .u8 0, .int .u8 0, .int .u8 0, .int .u8 0, .int .u8 0, .int .u8 0, .int .u8 0, .int .u8 0, .int .u8 0, .int .u8 0, .int .u8 0, .int .u8 0, .int .u8 0, .int .u8 0, .int .u8 0, .int .u8 0, .int .u8 0, .int .u8 0, .int .u8 0, .int .u8 0, .int .u8 0, .int .u8 0, .int .u8 0, .int .u8 0, .int .u8 0, .int .u8 0] = .agg (b32 (byteF 1#8)) := by kernel_rfl
theorem b32_p0 : #[Value.int .u8 237, .int .u8 0, .int .u8 0, .int .u8 0, .int .u8 0, .int .u8 0, .int .u8 0, .int .u8 0, .int .u8 0, .int .u8 0, .int .u8 0, .int .u8 0, .int .u8 0, .int .u8 0, .int .u8 0, .int .u8 0, .int .u8 0, .int .u8 0, .int .u8 0, .int .u8 0, .int .u8 0, .int .u8 0, .int .u8 0, .int .u8 0, .int .u8 0, .int .u8 0, .int .u8 0, .int .u8 0, .int .u8 0, .int .u8 0, .int .u8 0, .int .u8 0] = b32 (primeTo 1) := by kernel_rfl
theorem of_one (w : World) : Calls Try.prog 8 #[.agg #[.int .u8 1, .int .u8 0, .int .u8 0, .int .u8 0, .int .u8 0, .int .u8 0, .int .u8 0, .int .u8 0, .int .u8 0, .int .u8 0, .int .u8 0, .int .u8 0, .int .u8 0, .int .u8 0, .int .u8 0, .int .u8 0, .int .u8 0, .int .u8 0, .int .u8 0, .int .u8 0, .int .u8 0, .int .u8 0, .int .u8 0, .int .u8 0, .int .u8 0, .int .u8 0, .int .u8 0, .int .u8 0, .int .u8 0, .int .u8 0, .int .u8 0, .int .u8 0]] w fun e w' => e = .returned (E5.of (byteF 1#8)).v ∧ Below w.heap.size w w' := by
  rw [b32_one1]; exact ofE_any _ w
set_option maxHeartbeats 1000000 in
theorem one_any (w : World) : Calls Try.prog 24 #[] w fun e w' => e = .returned (E5.of (byteF 1#8)).v ∧ Below w.heap.size w w' := by
  go_enter Try.func24, Try.ntmps24
  go_wp2_with fail
  refine (of_one _).mono ?_
  rintro e w1 ⟨rfl, hb⟩
  have hbel := (fin_below hb (B := w.heap.size) (w0 := w) (by simp; try omega) (by repeat (first | exact Below.refl _ _ | apply Below.drew | refine Below.alloc ?_ (by simp; try omega) _)))
  have hrow : w1.heap[w.heap.size]? = some (.cells #[.int .u64 0, .int .u64 0, .int .u64 0, .int .u64 0, .int .u64 0] 26 (0, 0)) := below_row (k := w.heap.size + 0) hb (by simp) (rows_alloc w [_] 0)
  clear hb
  generalize hz : E5.of _ = z
  have Hz := Lib.hid hz
  clear hz
  go_wp2_with (refine wpList_store_row rfl 26 _ _ rfl w.heap.size _ _ z.cells rfl rfl hrow (Eq.trans (b := 5) rfl rfl) (by kernel_rfl) (by kernel_rfl) ?_; intro w2 hs2)
  exact ret_row w.heap.size _ 26 z.cells rfl _ rfl hs2.row Try.underlying26 rfl (by kernel_rfl) rfl ⟨by rw [Hz.out]; rfl, hbel.trans (hs2.below _ (by omega))⟩
theorem z64 : n64 0#64 = 0 := by unfold n64; rfl
def zeroE : E5 := ⟨0#64, 0#64, 0#64, 0#64, 0#64⟩
theorem text_zero (w : World) : Calls Try.prog 11 #[.agg #[.int .u64 0, .int .u64 0, .int .u64 0, .int .u64 0, .int .u64 0]] w fun e w' => e = .returned (.string (strOf zeroE.byte 32)) ∧ Below w.heap.size w w' := by
  have h := text_any zeroE w
  rw [E5.v_eq] at h
  simp only [zeroE, z64] at h
  exact h
theorem eq_prime : ∀ i, i < 32 → (E5.of primeF).byte i = byteF 0#8 i := by decide +kernel
theorem eq_zero : ∀ i, i < 32 → zeroE.byte i = byteF 0#8 i := by decide +kernel
theorem eq_one : ∀ i, i < 32 → (E5.of (byteF 1#8)).byte i = byteF 1#8 i := by decide +kernel
theorem str_same {f g : Nat → BitVec 8} (h : ∀ i, i < 32 → f i = g i) : strOf f 32 = strOf g 32 := (strOf_eq f g 32).2 h
theorem small_byteF (n : BitVec 8) (w : World) (k : Int) (hk : k = n8 n) :
    Calls Try.prog 20 #[.int .i64 k] w fun e w' => e = .returned (.string (strOf (byteF n) 32)) ∧ Below w.heap.size w w' := by
  subst hk; exact small_any n w
theorem text_prime (w : World) : Calls Try.prog 11 #[(E5.of primeF).v] w fun e w' => e = .returned (.string (strOf (byteF 0#8) 32)) ∧ Below w.heap.size w w' := by
  rw [← str_same eq_prime]; exact text_any _ w
theorem text_zero' (w : World) : Calls Try.prog 11 #[.agg #[.int .u64 0, .int .u64 0, .int .u64 0, .int .u64 0, .int .u64 0]] w fun e w' => e = .returned (.string (strOf (byteF 0#8) 32)) ∧ Below w.heap.size w w' := by
  rw [← str_same eq_zero]; exact text_zero w
theorem text_one (w : World) : Calls Try.prog 11 #[(E5.of (byteF 1#8)).v] w fun e w' => e = .returned (.string (strOf (byteF 1#8) 32)) ∧ Below w.heap.size w w' := by
  have := text_any (E5.of (byteF 1#8)) w
  rwa [str_same eq_one] at this
set_option maxHeartbeats 4000000 in
set_option maxRecDepth 100000 in
theorem wraps_any (w : World) : Calls Try.prog 10 #[] w fun e w' => e = .returned (.bool true) ∧ Below w.heap.size w w' := by
  go_enter Try.func10, Try.ntmps10
  go_wp2_with (first
    | (refine wpList_alloc_row (o := ⟨some 1, .alloc 22, _, _, _, _⟩) rfl 22 rfl (Array.replicate 32 (.int .u8 0)) (by kernel_rfl) ?_)
    | (refine wpList_store_new (o := ⟨none, .store 22 (.tmp 1) (.tmp 3), _, _, _, _⟩) rfl 22 _ _ rfl (Array.replicate 32 (.int .u8 0)) (b32 (primeTo 1)) _ rfl rfl (by rw [← b32_p0]; rfl) (by rw [b32_size]; kernel_rfl) (by rw [b32_size]; rfl) (b32_one _) ?_))
  have st0 : (w.alloc (.cells (b32 (primeTo 1)) 22)).heap[w.heap.size]? = some (.cells (b32 (primeTo 1)) 22 (0, 0)) := heap_alloc_last _ _
  have hb0 : Below w.heap.size w (w.alloc (.cells (b32 (primeTo 1)) 22)) := below_new _
  generalize hW : w.alloc _ = wa at *
  clear hW
  go_loopw [2] (fun s wr => ∃ k : Nat, 1 ≤ k ∧ k ≤ 31 ∧ s = .int .i64 (k : Int) ∧ wr.heap[w.heap.size]? = some (.cells (b32 (primeTo k)) 22 (0, 0)) ∧ Below w.heap.size w wr)
    (fun s _ => 31 - (intOf s).toNat)
  case atStart => exact ⟨1, by omega, by omega, rfl, st0, hb0⟩
  case round =>
    obtain ⟨k, hk1, hk, rfl, q, hbw⟩ := hrel
    clear st0 hb0
    by_cases hlt : k < 31
    · have ko : wr.cell? ⟨w.heap.size, k, none⟩ = some (.int .u8 (n8 (primeTo k k))) := by rw [cell_of_row _ _ _ _ _ _ q]; exact b32_get _ k (by omega)
      have kf : wr.frozen? ⟨w.heap.size, k, none⟩ = false := frozen_of_row _ _ _ _ _ q
      go_wp2_with fail
      go_roundw
      case rel =>
        have e255 : (Value.int .u8 255) = .int .u8 (n8 255#8) := by unfold n8; rfl
        refine ⟨k + 1, by omega, by omega, by go_num, ?_, hbw.setCell (Nat.le_refl _) _⟩
        rw [e255, heap_setCell_same _ _ _ _ _ _ q, b32_set]
        rw [b32_congr _ (primeTo (k + 1)) (fun i hi => ?_)]
        unfold primeTo
        by_cases h0 : i = k
        · subst h0
          rw [if_pos rfl, if_neg (by omega), if_pos (by omega)]
        · rw [if_neg h0]
          by_cases h1 : i = 0
          · rw [if_pos h1, if_pos h1]
          · rw [if_neg h1, if_neg h1]
            by_cases h2 : i < k
            · rw [if_pos h2, if_pos (by omega)]
            · rw [if_neg h2, if_neg (by omega)]
      case measure => simp [intOf]; omega
    · obtain rfl : k = 31 := by omega
      have ko : wr.cell? ⟨w.heap.size, 31, none⟩ = some (.int .u8 (n8 (primeTo 31 31))) := by rw [cell_of_row _ _ _ _ _ _ q]; exact b32_get _ 31 (by omega)
      have kf : wr.frozen? ⟨w.heap.size, 31, none⟩ = false := frozen_of_row _ _ _ _ _ q
      have q2 : (wr.setCell ⟨w.heap.size, 31, none⟩ (.int .u8 127)).heap[w.heap.size]? = some (.cells (b32 primeF) 22 (0, 0)) := by
        have e127 : (Value.int .u8 127) = .int .u8 (n8 127#8) := by unfold n8; rfl
        rw [e127, heap_setCell_same _ _ _ _ _ _ q, b32_set]
        exact congrArg (fun c => some (Obj.cells c 22 (0, 0))) (b32_congr _ primeF (fun i hi => by unfold primeF; exact Eq.refl _))
      have hb2 := hbw.setCell (p := ⟨w.heap.size, 31, none⟩) (Nat.le_refl _) (.int .u8 127)
      go_wp2_with (refine wpList_load_row rfl 22 _ rfl w.heap.size rfl _ _ (0, 0) _ q2 Try.underlying22 rfl (by rw [b32_size]; kernel_rfl) ?_)
      have H0 := Lib.hid hb2
      clear hb2 q2 ko kf q hbw
      refine (ofE_any primeF _).mono ?_
      rintro e w1 ⟨rfl, h1⟩
      have b1 := H0.out.trans (h1.mono H0.out.size)
      have H1 := Lib.hid b1
      clear h1 b1
      go_wp2_with fail
      refine (text_prime _).mono ?_
      rintro e w2 ⟨rfl, h2⟩
      have b2 := H1.out.trans (h2.mono H1.out.size)
      have H2 := Lib.hid b2
      clear h2 b2
      go_wp2_with fail
      refine (small_byteF 0#8 _ 0 (by unfold n8; rfl)).mono ?_
      rintro e w3 ⟨rfl, h3⟩
      have b3 := H2.out.trans (h3.mono H2.out.size)
      have H3 := Lib.hid b3
      clear h3 b3
      go_wp2_with fail
      refine (text_zero' _).mono ?_
      rintro e w4 ⟨rfl, h4⟩
      have b4 := H3.out.trans (h4.mono H3.out.size)
      have H4 := Lib.hid b4
      clear h4 b4
      go_wp2_with fail
      refine (small_byteF 0#8 _ 0 (by unfold n8; rfl)).mono ?_
      rintro e w5 ⟨rfl, h5⟩
      have b5 := H4.out.trans (h5.mono H4.out.size)
      have H5 := Lib.hid b5
      clear h5 b5
      go_wp2_with fail
      refine (one_any _).mono ?_
      rintro e w6 ⟨rfl, h6⟩
      have b6 := H5.out.trans (h6.mono H5.out.size)
      have H6 := Lib.hid b6
      clear h6 b6
      go_wp2_with fail
      refine (text_one _).mono ?_
      rintro e w7 ⟨rfl, h7⟩
      have b7 := H6.out.trans (h7.mono H6.out.size)
      have H7 := Lib.hid b7
      clear h7 b7
      go_wp2_with fail
      refine (small_byteF 1#8 _ 1 (by unfold n8; rfl)).mono ?_
      rintro e w8 ⟨rfl, h8⟩
      have b8 := H7.out.trans (h8.mono H7.out.size)
      have H8 := Lib.hid b8
      clear h8 b8
      go_wp2_with fail
      go_ret
      exact ⟨rfl, H8.out⟩
end Go.Proofs.Ytjaneododongeaa
