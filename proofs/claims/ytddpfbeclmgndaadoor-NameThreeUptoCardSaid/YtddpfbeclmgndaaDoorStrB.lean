/-
  TEXTS CUT, PUT TOGETHER, READ AT A PLACE.
-/
import Derived.Test.YtddpfbeclmgndaaDoorStr
import Derived.Test.YtddpfbeclmgndaaDoorBytes
import Derived.WalkKit
namespace Go.Proofs.YtddpfbeclmgndaaDoor
open Go Go.RowKit Go.BigFrame
set_option linter.unusedSimpArgs false
theorem str_get (f : Nat → BitVec 8) (n i : Nat) (h : i < n) : (strOf f n)[i]? = some (UInt8.ofBitVec (f i)) := by
  have hs : i < (strOf f n).size := by rw [strOf_size]; exact h
  rw [ByteArray.getElem?_lt' _ _ hs]
  congr 1
  show (strL f n).toArray[i]'_ = _
  simp [strL]
theorem str_at (f : Nat → BitVec 8) (n i : Nat) (h : i < (strOf f n).size) : (((strOf f n)[i]'h).toNat : Int) = n8 (f i) := by
  have h2 : i < n := by rwa [strOf_size] at h
  have h1 := str_get f n i h2
  rw [ByteArray.getElem?_lt' _ _ h] at h1
  injection h1 with h1
  rw [h1, ← n8_u8]
theorem run_at_str (f : Nat → BitVec 8) (n i : Nat) (h : i < n) (w : World) : (Instr.index 9 (.string (strOf f n)) (.int .i64 (i : Int))).run Tryd.prog w = .ok (.int .u8 (n8 (f i))) w := by
  have hu : Tryd.prog.underlying 9 = some .string := by kernel_rfl
  have hi := str_get f n i h
  have h0 : (0 : Int) ≤ (i : Int) := by omega
  unfold Instr.index
  simp only [Sem.run_bind, asIntOf, Sem.run_pure, Result.andThen_ok, run_underlying hu w, if_pos h0, Int.toNat_natCast, hi]
  rw [n8_u8]
theorem str_cut (f : Nat → BitVec 8) (lo hi len : Nat) (h1 : lo ≤ hi) (h2 : hi ≤ len) : (strOf f len).extract lo hi = strOf (fun i => f (lo + i)) (hi - lo) := by
  apply ByteArray.ext
  rw [ByteArray.data_extract]
  apply Array.ext_getElem?
  intro i
  show ((strL f len).toArray.extract lo hi)[i]? = (strL (fun i => f (lo + i)) (hi - lo)).toArray[i]?
  by_cases h : i < hi - lo
  · simp [strL, h]
    have : lo + i < len := by omega
    simp [this]
  · rw [Array.getElem?_eq_none (by simp [strL]; omega), Array.getElem?_eq_none (by simp [strL]; omega)]
theorem str_join (f g s : Nat → BitVec 8) (k m : Nat) (h1 : ∀ i, i < k → f i = s i) (h2 : ∀ i, i < m → g i = s (k + i)) : strOf f k ++ strOf g m = strOf s (k + m) := by
  apply ByteArray.ext
  rw [ByteArray.data_append]
  apply Array.ext'
  rw [Array.toList_append]
  show strL f k ++ strL g m = strL s (k + m)
  apply List.ext_getElem?
  intro i
  by_cases hi : i < k
  · rw [List.getElem?_append_left (by rw [strL_length]; exact hi)]
    simp [strL, hi, show i < k + m by omega, h1 i hi]
  · rw [List.getElem?_append_right (by rw [strL_length]; omega), strL_length]
    by_cases him : i < k + m
    · simp [strL, show i - k < m by omega, him, h2 (i - k) (by omega), show k + (i - k) = i by omega]
    · rw [List.getElem?_eq_none (by rw [strL_length]; omega), List.getElem?_eq_none (by rw [strL_length]; omega)]
theorem run_str_mid (f : Nat → BitVec 8) (lo hi len : Nat) (L H : Int) (hL : L = (lo : Int)) (hH : H = (hi : Int)) (h1 : lo ≤ hi) (h2 : hi ≤ len) (w : World) :
    (Instr.sliceAt 9 (.string (strOf f len)) (some (.int .i64 L)) (some (.int .i64 H)) none).run Tryd.prog w = .ok (.string (strOf (fun i => f (lo + i)) (hi - lo))) w := by
  subst hL hH
  have hu : Tryd.prog.underlying 9 = some .string := by kernel_rfl
  rw [← str_cut f lo hi len h1 h2]
  have h0 : (0 : Int) ≤ (lo : Int) := by omega
  have h4 : (hi : Int) ≤ ((strOf f len).size : Int) := by rw [strOf_size]; omega
  simp [Instr.sliceAt, Instr.slice, Instr.sliceBounds, run_underlying hu, go_sem, h0, h4, Sem.run_bind]
  intro h
  omega
theorem run_str_upto (f : Nat → BitVec 8) (n k : Nat) (K : Int) (hK : K = (k : Int)) (hk : k ≤ n) (w : World) : (Instr.sliceAt 9 (.string (strOf f n)) none (some (.int .i64 K)) none).run Tryd.prog w = .ok (.string (strOf f k)) w := by
  subst hK
  have hu : Tryd.prog.underlying 9 = some .string := by kernel_rfl
  rw [run_sliceAt_string (h := hu)]
  have h0 : (0 : Int) ≤ (k : Int) := by omega
  have hs : k ≤ (strOf f n).size := by rw [strOf_size]; exact hk
  have hc : (strOf f n).extract 0 k = strOf f k := by
    rw [str_cut f 0 k n (Nat.zero_le _) hk]
    congr 1
    funext i
    rw [Nat.zero_add]
  have h1 : (k : Int) ≤ ((strOf f n).size : Int) := by omega
  simp [Instr.slice, Sem.run_bind, run_underlying hu, Instr.sliceBounds, go_sem, h0, h1, hc]
theorem run_str_from (f : Nat → BitVec 8) (n k : Nat) (K : Int) (hK : K = (k : Int)) (hk : k ≤ n) (w : World) : (Instr.sliceAt 9 (.string (strOf f n)) (some (.int .i64 K)) none none).run Tryd.prog w = .ok (.string (strOf (fun i => f (k + i)) (n - k))) w := by
  subst hK
  have hu : Tryd.prog.underlying 9 = some .string := by kernel_rfl
  rw [run_sliceAt_string (h := hu)]
  have h0 : (0 : Int) ≤ (k : Int) := by omega
  have hs : (strOf f n).size = n := strOf_size f n
  have hc : (strOf f n).extract k n = strOf (fun i => f (k + i)) (n - k) := str_cut f k n n hk (Nat.le_refl _)
  have h1 : (k : Int) ≤ ((strOf f n).size : Int) := by omega
  rw [← hc]
  simp [Instr.slice, Sem.run_bind, run_underlying hu, Instr.sliceBounds, go_sem, h0, h1, hs]
  try omega
theorem run_add_str {o : Oper} {t : TypeId} {x y : Operand} (ho : o.op = .binOp .add t x y t) (a : Act) (w : World) (f g s : Nat → BitVec 8) (k m : Nat) (hx : a.eval x = .string (strOf f k)) (hy : a.eval y = .string (strOf g m))
    (h1 : ∀ i, i < k → f i = s i) (h2 : ∀ i, i < m → g i = s (k + i)) (hn : k + m ≤ 1000000000) :
    (execOp a.eval o).run Tryd.prog w = .ok (.value (.string (strOf s (k + m)))) w := by
  unfold execOp
  rw [ho]
  simp only [hx, hy]
  rw [← str_join f g s k m h1 h2]
  have e1 := strOf_size f k
  have e2 := strOf_size g m
  generalize strOf f k = S at *
  generalize strOf g m = T at *
  have h2 : ¬ 9223372036854775807 < S.size + T.size := by omega
  go_simp
  try omega
end Go.Proofs.YtddpfbeclmgndaaDoor
