/-
  TIMES, one number behind the other, either way round.
-/
import Derived.Test.YtmfiabkhnoimhaaCurveH
import Derived.Test.YtmfiabkhnoimhaaEdwC
namespace Go.Proofs.Ytmfiabkhnoimhaa
open Go Go.RowKit Go.BigFrame
theorem num_numF : ∀ (k n : Nat), E5.num (numF n) k = n % 256 ^ k
  | 0, n => by rw [Nat.pow_zero, Nat.mod_one]; rfl
  | k + 1, n => by
    show E5.num (numF n) k + (numF n k).toNat * 256 ^ k = _
    rw [num_numF k n]
    have e : (numF n k).toNat = n / 256 ^ k % 256 := by
      show (BitVec.ofNat 8 (n / 256 ^ k)).toNat = _
      rw [BitVec.toNat_ofNat]
    rw [e, Nat.pow_succ, Nat.mod_mul, Nat.mul_comm (256 ^ k)]
theorem pt_numF {n : Nat} (h : n < E5.p) : ptF (numF n) = Cv.fn n := by
  have h1 : n < 2 ^ 255 := Nat.lt_of_lt_of_le h (by decide +kernel)
  have h2 : n < 256 ^ 32 := Nat.lt_of_lt_of_le h1 (by decide +kernel)
  unfold ptF
  rw [num_numF, Nat.mod_eq_of_lt h2, Nat.mod_eq_of_lt h1]
theorem fn_of (x : Cv.F) : Cv.fn x.val = x := Cv.ext (by rw [Cv.fn_val, Nat.mod_eq_of_lt x.isLt])
theorem times_out (f g h : Nat → BitVec 8) : timesN f (numF (timesN g h)) = (Cv.out (Cv.out (ptF h) (Cv.bit g)) (Cv.bit f)).val := by
  have e : ptF (numF (timesN g h)) = Cv.out (ptF h) (Cv.bit g) := (pt_numF (times_lt g h)).trans ((congrArg Cv.fn (timesN_def g h)).trans (fn_of _))
  rw [timesN_def f, e]
theorem times_turn (f g h : Nat → BitVec 8) : timesN f (numF (timesN g h)) = timesN g (numF (timesN f h)) := by
  rw [times_out, times_out, Edw.out_turn]
end Go.Proofs.Ytmfiabkhnoimhaa
