/-
  THE CALLS OF PACKAGE field, FIRST PART: carried, limb, above, Mul64, Add64, times, plus.
-/
import Derived.Test.YtmfiabkhnoimhaaBytes
import Derived.Test.YtmfiabkhnoimhaaKit
import Derived.Test.YtmfiabkhnoimhaaRegion
import Derived.Test.YtmfiabkhnoimhaaFieldMath
import Derived.Laws.Externs
namespace Go.Proofs.Ytmfiabkhnoimhaa
open Go Go.RowKit Go.BigFrame
def E5.v (x : E5) : Value := .agg #[.int .u64 (n64 x.a), .int .u64 (n64 x.b), .int .u64 (n64 x.c), .int .u64 (n64 x.d), .int .u64 (n64 x.e)]
set_option maxHeartbeats 1000000 in
theorem carried_any (x : E5) (w : World) :
    Calls Try.prog 39 #[x.v] w fun e w' => e = .returned x.carried.v ∧ Below w.heap.size w w' := by
  unfold E5.v
  go_enter Try.func39, Try.ntmps39
  go_wp2
  refine bodyPost_ret (v := x.carried.v) (by simp [results, Try.results39, go_sem, E5.v, E5.carried, E5.mask]) rfl ⟨rfl, ?_⟩
  repeat (first | exact Below.refl _ _ | apply Below.drew | refine Below.alloc ?_ (by simp; try omega) _)
def wideV (s : Nat) : Value := .agg #[.int .u64 (n64 (E5.hi s)), .int .u64 (n64 (E5.lo s))]
theorem limb_any (s : Nat) (w : World) :
    Calls Try.prog 40 #[wideV s] w fun e w' => e = .returned (.int .u64 (n64 (E5.limb s))) ∧ Below w.heap.size w w' := by
  unfold wideV
  go_enter Try.func40, Try.ntmps40
  go_wp2
  go_ret
  exact ⟨rfl, (Below.refl _ _).alloc (Nat.le_refl _) _⟩
theorem above_any (s : Nat) (w : World) :
    Calls Try.prog 41 #[wideV s] w fun e w' => e = .returned (.int .u64 (n64 (E5.above s))) ∧ Below w.heap.size w w' := by
  unfold wideV
  go_enter Try.func41, Try.ntmps41
  go_wp2
  go_ret
  exact ⟨rfl, (Below.refl _ _).alloc (Nat.le_refl _) _⟩
/-- The words of a product, by its halves. -/
def mulHi (x y : BitVec 64) : BitVec 64 :=
  let x0 := x &&& 4294967295#64; let x1 := x >>> 32; let y0 := y &&& 4294967295#64; let y1 := y >>> 32
  let w0 := x0 * y0; let t := x1 * y0 + w0 >>> 32; let w1 := (t &&& 4294967295#64) + x0 * y1
  x1 * y1 + t >>> 32 + w1 >>> 32
set_option maxHeartbeats 1000000 in
theorem mul64_any (x y : BitVec 64) (w : World) :
    Calls Try.prog 42 #[.int .u64 (n64 x), .int .u64 (n64 y)] w fun e w' => e = .returned (.tuple #[.int .u64 (n64 (mulHi x y)), .int .u64 (n64 (x * y))]) ∧ w = w' := by
  go_enter Try.func42, Try.ntmps42
  go_wp2
  go_ret2
  exact ⟨rfl, rfl⟩
def carry64 (x y : BitVec 64) : BitVec 64 := BitVec.ofNat 64 ((x.toNat + y.toNat) / 18446744073709551616)
theorem run_add64_any (x y : BitVec 64) (w : World) :
    (callFunc 43 #[.int .u64 (n64 x), .int .u64 (n64 y), .int .u64 0]).run Try.prog w = .ok (.value (.tuple #[.int .u64 (n64 (x + y)), .int .u64 (n64 (carry64 x y))])) w := by
  have hx := x.isLt
  have hy := y.isLt
  rw [n64_nat x, n64_nat y, run_callFunc_extern Try.func43 (by kernel_rfl) (by kernel_rfl) (by kernel_rfl) (e := add64Entry) (by kernel_rfl), run_add64 _ _ 0 (by omega) (by omega) (by omega) (by omega)]
  simp only [Result.andThen, n64_nat, carry64, BitVec.toNat_add, BitVec.toNat_ofNat]
  have e1 : ((x.toNat : Int) + (y.toNat : Int) + 0) % 18446744073709551616 = (((x.toNat + y.toNat) % 2 ^ 64 : Nat) : Int) := by omega
  have e2 : ((x.toNat : Int) + (y.toNat : Int) + 0) / 18446744073709551616 = (((x.toNat + y.toNat) / 18446744073709551616 % 2 ^ 64 : Nat) : Int) := by omega
  rw [e1, e2]
theorem mulHi_nat (x y : BitVec 64) : (mulHi x y).toNat = x.toNat * y.toNat / 18446744073709551616 := by
  have hx := x.isLt
  have hy := y.isLt
  unfold mulHi
  simp only
  have m32 : ∀ z : BitVec 64, (z &&& 4294967295#64).toNat = z.toNat % 4294967296 := fun z => by
    rw [BitVec.toNat_and]
    have : (4294967295#64).toNat = 2^32 - 1 := by decide
    rw [this, Nat.and_two_pow_sub_one_eq_mod]
  have s32 : ∀ z : BitVec 64, (z >>> 32).toNat = z.toNat / 4294967296 := fun z => by
    rw [BitVec.toNat_ushiftRight, Nat.shiftRight_eq_div_pow]
  generalize hx0 : x.toNat % 4294967296 = x0
  generalize hx1 : x.toNat / 4294967296 = x1
  generalize hy0 : y.toNat % 4294967296 = y0
  generalize hy1 : y.toNat / 4294967296 = y1
  have e1 : x.toNat = x1 * 4294967296 + x0 := by omega
  have e2 : y.toNat = y1 * 4294967296 + y0 := by omega
  have a00 : x0 * y0 ≤ 4294967295 * 4294967295 := Nat.mul_le_mul (by omega) (by omega)
  have a01 : x0 * y1 ≤ 4294967295 * 4294967295 := Nat.mul_le_mul (by omega) (by omega)
  have a10 : x1 * y0 ≤ 4294967295 * 4294967295 := Nat.mul_le_mul (by omega) (by omega)
  have a11 : x1 * y1 ≤ 4294967295 * 4294967295 := Nat.mul_le_mul (by omega) (by omega)
  have e3 : x.toNat * y.toNat = x1 * y1 * 18446744073709551616 + (x1 * y0 + x0 * y1) * 4294967296 + x0 * y0 := by
    rw [e1, e2]; grind
  rw [e3]
  simp only [BitVec.toNat_add, BitVec.toNat_mul, s32, m32, hx0, hx1, hy0, hy1]
  generalize x0 * y0 = p00 at *
  generalize x0 * y1 = p01 at *
  generalize x1 * y0 = p10 at *
  generalize x1 * y1 = p11 at *
  omega
theorem wide_prod (x y : BitVec 64) : E5.hi (x.toNat * y.toNat) = mulHi x y ∧ E5.lo (x.toNat * y.toNat) = x * y := by
  have hx := x.isLt
  have hy := y.isLt
  have h := Nat.mul_le_mul (Nat.le_of_lt_succ hx) (Nat.le_of_lt_succ hy)
  constructor <;> apply BitVec.eq_of_toNat_eq
  · unfold E5.hi
    rw [mulHi_nat, BitVec.toNat_ofNat]
    omega
  · unfold E5.lo
    rw [BitVec.toNat_mul, BitVec.toNat_ofNat]
theorem wide_plus (s : Nat) (x y : BitVec 64) : E5.hi (s + x.toNat * y.toNat) = E5.hi s + mulHi x y + carry64 (E5.lo s) (x * y) ∧ E5.lo (s + x.toNat * y.toNat) = E5.lo s + x * y := by
  have hx := x.isLt
  have hy := y.isLt
  have h := Nat.mul_le_mul (Nat.le_of_lt_succ hx) (Nat.le_of_lt_succ hy)
  constructor <;> apply BitVec.eq_of_toNat_eq
  · unfold E5.hi E5.lo carry64
    simp only [BitVec.toNat_add, BitVec.toNat_mul, mulHi_nat, BitVec.toNat_ofNat]
    generalize x.toNat * y.toNat = n at *
    omega
  · unfold E5.lo
    simp only [BitVec.toNat_add, BitVec.toNat_mul, BitVec.toNat_ofNat]
    omega
theorem times_wide (x y : BitVec 64) (w : World) :
    Calls Try.prog 33 #[.int .u64 (n64 x), .int .u64 (n64 y)] w fun e w' => e = .returned (wideV (E5.m x y)) ∧ Below w.heap.size w w' := by
  go_enter Try.func33, Try.ntmps33
  go_wp2_with (go_at_call 42; refine (mul64_any _ _ _).mono ?_; rintro e w' ⟨rfl, rfl⟩)
  refine bodyPost_ret (v := wideV (E5.m x y)) (by simp [results, Try.results33, go_sem, wideV, E5.m, wide_prod]) rfl ⟨rfl, ?_⟩
  repeat (first | exact Below.refl _ _ | apply Below.drew | refine Below.alloc ?_ (by simp; try omega) _)
theorem plus_wide (s : Nat) (x y : BitVec 64) (w : World) :
    Calls Try.prog 34 #[wideV s, .int .u64 (n64 x), .int .u64 (n64 y)] w fun e w' => e = .returned (wideV (s + E5.m x y)) ∧ Below w.heap.size w w' := by
  unfold wideV
  go_enter Try.func34, Try.ntmps34
  go_wp2_with (first | (go_at_call 42; refine (mul64_any _ _ _).mono ?_; rintro e w' ⟨rfl, rfl⟩) | (simp only [run_add64_any]))
  refine bodyPost_ret (v := wideV (s + E5.m x y)) (by simp [results, Try.results34, go_sem, wideV, E5.m, wide_plus]) rfl ⟨rfl, ?_⟩
  repeat (first | exact Below.refl _ _ | apply Below.drew | refine Below.alloc ?_ (by simp; try omega) _)
end Go.Proofs.Ytmfiabkhnoimhaa
