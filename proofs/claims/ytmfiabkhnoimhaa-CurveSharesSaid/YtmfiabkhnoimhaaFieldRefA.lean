/-
  THE DOCUMENT'S ANSWER FOR field, FIRST PART: p's digits, a text's digits.
-/
import Derived.Test.YtmfiabkhnoimhaaFieldI
import Derived.Test.YtmfiabkhnoimhaaFieldRefMath
namespace Go.Proofs.Ytmfiabkhnoimhaa
open Go Go.RowKit Go.BigFrame
def dC (d : Nat → Int) (n : Nat) : Array Value := ((List.range n).map fun i => .int .i64 (d i)).toArray
theorem dC_get (d : Nat → Int) (n i : Nat) (h : i < n) : (dC d n)[i]? = some (.int .i64 (d i)) := by simp [dC, h]
theorem dC_size (d : Nat → Int) (n : Nat) : (dC d n).size = n := by simp [dC]
theorem dC_set (d : Nat → Int) (n j : Nat) (x : Int) : (dC d n).setIfInBounds j (.int .i64 x) = dC (fun i => if i = j then x else d i) n := by
  apply Array.ext_getElem?
  intro i
  rw [Array.getElem?_setIfInBounds]
  by_cases hij : j = i
  · subst hij
    by_cases hi : j < n
    · simp [dC, hi]
    · simp [dC, hi]
  · rw [if_neg hij]
    by_cases hi : i < n
    · have : ¬ i = j := fun h => hij h.symm
      simp [dC, hi, this]
    · simp [dC, hi]
theorem dC_congr (d e : Nat → Int) (n : Nat) (h : ∀ i, i < n → d i = e i) : dC d n = dC e n := by
  unfold dC
  congr 1
  refine List.map_congr_left (fun i hi => ?_)
  rw [h i (List.mem_range.1 hi)]
theorem make_ints (w : World) : (Instr.makeSlice 61 (.int .i64 32) (.int .i64 32)).run Try.prog w = .ok (.slice (some ⟨w.heap.size, 0, none⟩) 32 32) (w.alloc (.cells (dC (fun _ => 0) 32) 3)) := by kernel_rfl
set_option maxHeartbeats 1000000 in
theorem prime_any (w : World) :
    Calls Try.prog 38 #[] w fun e w' => e = .returned (.slice (some ⟨w.heap.size, 0, none⟩) 32 32) ∧ Below w.heap.size w w' ∧ w'.heap[w.heap.size]? = some (.cells (dC RefF.pD 32) 3 (0, 0)) := by
  have mk := make_ints
  go_enter Try.func38, Try.ntmps38
  go_wp2_with fail
  have r0 : (w.alloc (.cells (dC (fun _ => 0) 32) 3)).heap[w.heap.size]? = some (.cells (dC (fun _ => 0) 32) 3 (0, 0)) := heap_alloc_last _ _
  have hb0 : Below w.heap.size w (w.alloc (.cells (dC (fun _ => 0) 32) 3)) := below_new _
  generalize hW : w.alloc _ = wa at *
  clear hW mk
  go_loopw [2] (fun s wr => ∃ k : Nat, k ≤ 32 ∧ s = .int .i64 (k : Int) ∧ wr.heap[w.heap.size]? = some (.cells (dC (fun i => if i < k then 255 else 0) 32) 3 (0, 0)) ∧ Below w.heap.size w wr) (fun s _ => 32 - (intOf s).toNat)
  case atStart => exact ⟨0, by omega, rfl, by rw [r0]; rfl, hb0⟩
  case round =>
    obtain ⟨k, hk, rfl, q, hbw⟩ := hrel
    clear r0 hb0
    by_cases hlt : k < 32
    · have ko : wr.cell? ⟨w.heap.size, k, none⟩ = some (.int .i64 (if k < k then 255 else 0)) := by rw [cell_of_row _ _ _ _ _ _ q]; exact dC_get _ 32 k hlt
      have kf : wr.frozen? ⟨w.heap.size, k, none⟩ = false := frozen_of_row _ _ _ _ _ q
      go_wp2_with fail
      go_roundw
      case rel =>
        refine ⟨k + 1, by omega, by go_num, ?_, hbw.setCell (Nat.le_refl _) _⟩
        rw [heap_setCell_same _ _ _ _ _ _ q, dC_set]
        rw [dC_congr _ (fun i => if i < k + 1 then 255 else 0) 32 (fun i hi => ?_)]
        by_cases h : i = k
        · rw [if_pos h, if_pos (by omega)]
        · rw [if_neg h]
          by_cases h2 : i < k
          · rw [if_pos h2, if_pos (by omega)]
          · rw [if_neg h2, if_neg (by omega)]
      case measure => simp [intOf]; omega
    · obtain rfl : k = 32 := by omega
      have k0 : wr.cell? ⟨w.heap.size, 0, none⟩ = some (.int .i64 255) := by rw [cell_of_row _ _ _ _ _ _ q]; rfl
      have k1 : wr.cell? ⟨w.heap.size, 31, none⟩ = some (.int .i64 255) := by rw [cell_of_row _ _ _ _ _ _ q]; rfl
      have kf : wr.frozen? ⟨w.heap.size, 0, none⟩ = false := frozen_of_row _ _ _ _ _ q
      have kg : wr.frozen? ⟨w.heap.size, 31, none⟩ = false := frozen_of_row _ _ _ _ _ q
      go_wp2_with fail
      go_ret
      refine ⟨rfl, (hbw.setCell (Nat.le_refl _) _).setCell (Nat.le_refl _) _, ?_⟩
      rw [heap_setCell_same _ _ _ _ _ _ (heap_setCell_same _ _ _ _ _ _ q), dC_set, dC_set]
      rw [dC_congr _ RefF.pD 32 (fun i hi => ?_)]
      unfold RefF.pD
      by_cases h0 : i = 0
      · subst h0; rfl
      · by_cases h1 : i = 31
        · subst h1; rfl
        · rw [if_neg h0, if_neg h1, if_neg h1, if_neg h0, if_pos hi]
theorem strOf_get (f : Nat → BitVec 8) (n k : Nat) (h : k < n) : (strOf f n).data[k]? = some (UInt8.ofBitVec (f k)) := by
  unfold strOf
  simp [strL, h]
theorem str_index (f : Nat → BitVec 8) (n k : Nat) (h : k < n) (w : World) :
    (Instr.index 9 (.string (strOf f n)) (.int .i64 (k : Int))).run Try.prog w = .ok (.int .u8 (n8 (f k))) w := by
  have hs := strOf_size f n
  have hg : (strOf f n)[k]'(by rw [hs]; exact h) = UInt8.ofBitVec (f k) := by
    have := strOf_get f n k h
    have h2 : k < (strOf f n).data.size := by rw [ByteArray.size_data, hs]; exact h
    rw [Array.getElem?_eq_getElem h2] at this
    exact Option.some.inj this
  have h0 : (0 : Int) ≤ (k : Int) := by omega
  unfold Instr.index
  simp [go_sem, Sem.run_bind, hs, h, h0, hg]
  unfold n8
  rfl
/-- The digits of a text. -/
def bD (f : Nat → BitVec 8) (i : Nat) : Int := n8 (f i)
set_option maxHeartbeats 1000000 in
theorem digits_any (f : Nat → BitVec 8) (w : World) :
    Calls Try.prog 36 #[.string (strOf f 32)] w fun e w' => e = .returned (.slice (some ⟨w.heap.size, 0, none⟩) 32 32) ∧ Below w.heap.size w w' ∧ w'.heap[w.heap.size]? = some (.cells (dC (bD f) 32) 3 (0, 0)) := by
  have mk := make_ints
  go_enter Try.func36, Try.ntmps36
  go_wp2_with fail
  have r0 : (w.alloc (.cells (dC (fun _ => 0) 32) 3)).heap[w.heap.size]? = some (.cells (dC (fun _ => 0) 32) 3 (0, 0)) := heap_alloc_last _ _
  have hb0 : Below w.heap.size w (w.alloc (.cells (dC (fun _ => 0) 32) 3)) := below_new _
  generalize hW : w.alloc _ = wa at *
  clear hW mk
  go_loopw [4] (fun s wr => ∃ k : Nat, k ≤ 32 ∧ s = .int .i64 (k : Int) ∧ wr.heap[w.heap.size]? = some (.cells (dC (fun i => if i < k then bD f i else 0) 32) 3 (0, 0)) ∧ Below w.heap.size w wr) (fun s _ => 32 - (intOf s).toNat)
  case atStart => exact ⟨0, by omega, rfl, by rw [r0]; rfl, hb0⟩
  case round =>
    obtain ⟨k, hk, rfl, q, hbw⟩ := hrel
    clear r0 hb0
    by_cases hlt : k < 32
    · have ko : wr.cell? ⟨w.heap.size, k, none⟩ = some (.int .i64 (if k < k then bD f k else 0)) := by rw [cell_of_row _ _ _ _ _ _ q]; exact dC_get _ 32 k hlt
      have kf : wr.frozen? ⟨w.heap.size, k, none⟩ = false := frozen_of_row _ _ _ _ _ q
      have hx := str_index f 32 k hlt
      have w8 : IntKind.i64.wrap (n8 (f k)) = n8 (f k) := IntWalk.i64_in _ (by have := n8_nonneg (f k); have := n8_lt (f k); omega)
      go_wp2_with fail
      go_roundw
      case rel =>
        refine ⟨k + 1, by omega, by go_num, ?_, hbw.setCell (Nat.le_refl _) _⟩
        rw [heap_setCell_same _ _ _ _ _ _ q, dC_set]
        rw [dC_congr _ (fun i => if i < k + 1 then bD f i else 0) 32 (fun i hi => ?_)]
        by_cases h : i = k
        · rw [if_pos h, if_pos (by omega), h]; rfl
        · rw [if_neg h]
          by_cases h2 : i < k
          · rw [if_pos h2, if_pos (by omega)]
          · rw [if_neg h2, if_neg (by omega)]
      case measure => simp [intOf]; omega
    · obtain rfl : k = 32 := by omega
      go_wp2_with fail
      go_ret
      refine ⟨rfl, hbw, ?_⟩
      rw [q, dC_congr _ (bD f) 32 (fun i hi => if_pos hi)]
end Go.Proofs.Ytmfiabkhnoimhaa
