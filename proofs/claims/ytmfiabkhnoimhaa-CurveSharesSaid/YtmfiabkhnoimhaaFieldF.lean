/-
  THE CALLS OF PACKAGE field, SIXTH PART: Of.
-/
import Derived.Test.YtmfiabkhnoimhaaFieldE
namespace Go.Proofs.Ytmfiabkhnoimhaa
open Go Go.RowKit Go.BigFrame
/-- The words behind k bytes. -/
def accW (f : Nat → BitVec 8) (k j : Nat) : BitVec 64 := E5.word f j (min 8 (k - 8 * j))
def accC (f : Nat → BitVec 8) (k : Nat) : Array Value := #[.int .u64 (n64 (accW f k 0)), .int .u64 (n64 (accW f k 1)), .int .u64 (n64 (accW f k 2)), .int .u64 (n64 (accW f k 3))]
theorem accC_get (f : Nat → BitVec 8) (k j : Nat) (h : j < 4) : (accC f k)[j]? = some (.int .u64 (n64 (accW f k j))) := by
  match j, h with
  | 0, _ => rfl
  | 1, _ => rfl
  | 2, _ => rfl
  | 3, _ => rfl
theorem accC_set (f : Nat → BitVec 8) (k : Nat) (h : k < 32) : (accC f k).setIfInBounds (k / 8) (.int .u64 (n64 (accW f k (k / 8) ||| (f k).setWidth 64 <<< (8 * (k % 8))))) = accC f (k + 1) := by
  have key : ∀ j, j < 4 → accW f (k + 1) j = if j = k / 8 then accW f k (k / 8) ||| (f k).setWidth 64 <<< (8 * (k % 8)) else accW f k j := fun j hj => by
    unfold accW
    by_cases hjk : j = k / 8
    · rw [if_pos hjk]
      subst hjk
      rw [show min 8 (k + 1 - 8 * (k / 8)) = k % 8 + 1 by omega, show min 8 (k - 8 * (k / 8)) = k % 8 by omega]
      unfold E5.word
      rw [show 8 * (k / 8) + k % 8 = k by omega]
      cases k % 8 <;> rfl
    · rw [if_neg hjk]
      rw [show min 8 (k + 1 - 8 * j) = min 8 (k - 8 * j) by omega]
  apply Array.ext_getElem?
  intro j
  rw [Array.getElem?_setIfInBounds]
  by_cases hj : j < 4
  · rw [accC_get f (k + 1) j hj, key j hj, accC_get f k j hj]
    by_cases hjk : k / 8 = j
    · rw [if_pos hjk, if_pos hjk.symm, if_pos (by show k / 8 < 4; omega)]
    · rw [if_neg hjk, if_neg (fun h => hjk h.symm)]
  · have h1 : (accC f k)[j]? = none := Array.getElem?_eq_none (by show 4 ≤ j; omega)
    have h2 : (accC f (k + 1))[j]? = none := Array.getElem?_eq_none (by show 4 ≤ j; omega)
    rw [h1, h2]
    by_cases hjk : k / 8 = j
    · omega
    · rw [if_neg hjk]
theorem acc_zero (f : Nat → BitVec 8) : accC f 0 = #[.int .u64 0, .int .u64 0, .int .u64 0, .int .u64 0] := by
  have z : n64 0#64 = 0 := by unfold n64; rfl
  unfold accC accW
  simp [E5.word, z]
set_option maxHeartbeats 4000000 in
set_option maxRecDepth 100000 in
theorem ofE_any (f : Nat → BitVec 8) (w : World) :
    Calls Try.prog 16 #[.agg (b32 f)] w fun e w' => e = .returned (E5.of f).v ∧ Below w.heap.size w w' := by
  go_enter Try.func16, Try.ntmps16
  go_wp2_with (refine wpList_load_row rfl 22 _ rfl w.heap.size rfl _ _ (0, 0) _ (rows_alloc w [_, _, _] 0) Try.underlying22 rfl (by rw [b32_size]; kernel_rfl) ?_)
  have rE := rows_alloc w [.cells (b32 f) 22, .cells #[.int .u64 0, .int .u64 0, .int .u64 0, .int .u64 0, .int .u64 0] 40, .cells #[.int .u64 0, .int .u64 0, .int .u64 0, .int .u64 0] 52] 1
  have rW := rows_alloc w [.cells (b32 f) 22, .cells #[.int .u64 0, .int .u64 0, .int .u64 0, .int .u64 0, .int .u64 0] 40, .cells #[.int .u64 0, .int .u64 0, .int .u64 0, .int .u64 0] 52] 2
  have hb : Below w.heap.size w (((w.alloc (.cells (b32 f) 22)).alloc (.cells #[.int .u64 0, .int .u64 0, .int .u64 0, .int .u64 0, .int .u64 0] 40)).alloc (.cells #[.int .u64 0, .int .u64 0, .int .u64 0, .int .u64 0] 52)) := by
    repeat (first | exact Below.refl _ _ | refine Below.alloc ?_ (by simp; try omega) _)
  simp only [List.foldl] at rE rW
  generalize hW : ((w.alloc _).alloc _).alloc _ = wa at *
  clear hW
  have rW' : wa.heap[w.heap.size + 2]? = some (.cells (accC f 0) 52 (0, 0)) := by rw [acc_zero]; exact rW
  have rE' : wa.heap[w.heap.size + 1]? = some (.cells #[.int .u64 0, .int .u64 0, .int .u64 0, .int .u64 0, .int .u64 0] 40 (0, 0)) := rE
  clear rW rE
  go_loopw [7] (fun s wr => ∃ k : Nat, k ≤ 32 ∧ s = .int .i64 (k : Int) ∧ wr.heap[w.heap.size + 2]? = some (.cells (accC f k) 52 (0, 0)) ∧ wr.heap[w.heap.size + 1]? = some (.cells #[.int .u64 0, .int .u64 0, .int .u64 0, .int .u64 0, .int .u64 0] 40 (0, 0)) ∧ Below w.heap.size w wr)
    (fun s _ => 32 - (intOf s).toNat)
  case atStart => exact ⟨0, by omega, rfl, rW', rE', hb⟩
  case round =>
    obtain ⟨k, hk, rfl, qW, qE, hbw⟩ := hrel
    clear rW' rE' hb
    by_cases hlt : k < 32
    · have hidx : ∀ w', (Instr.index 22 (.agg (b32 f)) (.int .i64 (k : Int))).run Try.prog w' = .ok (.int .u8 (n8 (f k))) w' := fun w' => by
        rw [run_index_arr 22 5 32 (b32 f) .i64 .u8 (k : Int) w' (by kernel_rfl) (by kernel_rfl) (by kernel_rfl) (by omega) (by omega) (b32_size f), Int.toNat_natCast, b32_get f k hlt]
        rfl
      have hd : k / 8 < 4 := by omega
      have kc : wr.cell? ⟨w.heap.size + 1 + 1, k / 8, none⟩ = some (.int .u64 (n64 (accW f k (k / 8)))) := by rw [cell_of_row _ _ _ _ _ _ qW]; exact accC_get f k _ hd
      have kf : wr.frozen? ⟨w.heap.size + 1 + 1, k / 8, none⟩ = false := frozen_of_row _ _ _ _ _ qW
      have hy : (0 : Int) ≤ 8 * ((k : Int) % 8) := by omega
      have hyn : (8 * ((k : Int) % 8)).toNat = 8 * (k % 8) := by omega
      go_wp2_with fail
      refine region_head 12 mixedOrders (by kernel_rfl) ?_
      simp only [List.take_succ_cons, List.take_zero, List.drop_succ_cons, List.drop_zero]
      repeat (go_big_quiet_step (fail))
      refine wpQuiet_nil ?_
      go_wp2_with fail
      go_roundw
      case rel =>
        refine ⟨k + 1, by omega, by go_num, ?_, ?_, ?_⟩
        · rw [heap_drew, heap_setCell_same _ _ _ _ _ _ qW, accC_set f k hlt]
        · rw [heap_drew, heap_setCell_other _ _ _ _ (by simp), qE]
        · exact (hbw.setCell (by simp; omega) _).drew
      case measure => simp [intOf]; omega
    · obtain rfl : k = 32 := by omega
      have c0 : wr.cell? ⟨w.heap.size + 1 + 1, 0, none⟩ = some (.int .u64 (n64 (E5.word f 0 8))) := by rw [cell_of_row _ _ _ _ _ _ qW]; rfl
      have c1 : wr.cell? ⟨w.heap.size + 1 + 1, 1, none⟩ = some (.int .u64 (n64 (E5.word f 1 8))) := by rw [cell_of_row _ _ _ _ _ _ qW]; rfl
      have c2 : wr.cell? ⟨w.heap.size + 1 + 1, 2, none⟩ = some (.int .u64 (n64 (E5.word f 2 8))) := by rw [cell_of_row _ _ _ _ _ _ qW]; rfl
      have c3 : wr.cell? ⟨w.heap.size + 1 + 1, 3, none⟩ = some (.int .u64 (n64 (E5.word f 3 8))) := by rw [cell_of_row _ _ _ _ _ _ qW]; rfl
      go_wp2_with (refine wpList_store_row rfl 40 _ _ rfl (w.heap.size + 1) _ _ _ rfl rfl qE (Eq.trans (b := 5) rfl rfl) (by kernel_rfl) (by kernel_rfl) ?_; intro w2 hs2)
      exact ret_row (w.heap.size + 1) _ 40 (E5.of f).cells rfl _ rfl hs2.row Try.underlying40 rfl (by kernel_rfl) rfl ⟨rfl, hbw.trans (hs2.below _ (by omega))⟩
end Go.Proofs.Ytmfiabkhnoimhaa
