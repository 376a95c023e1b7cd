/-
  INVERSES MODULO 2^255 - 19: what the power p - 2 is; texts of numbers that differ.
-/
import Derived.Test.YtmfiabkhnoimhaaFieldRefE
import Derived.Test.YtmfiabkhnoimhaaPrime
namespace Go.Proofs.Ytmfiabkhnoimhaa
open Go Go.RowKit Go.BigFrame
set_option linter.unusedVariables false
def invN (a : Nat) : Nat := a ^ (E5.p - 2) % E5.p
theorem p_lit : E5.p = 57896044618658097711785492504343953926634992332820282019728792003956564819949 := by decide +kernel
theorem fermat_p (x : Nat) (h : x % E5.p ≠ 0) : x ^ (E5.p - 1) % E5.p = 1 % E5.p := by
  have := Pratt.field.2 x
  rw [← p_lit] at this
  exact this h
theorem one_p : 1 % E5.p = 1 := by decide
theorem p_pos : 0 < E5.p := by decide
theorem p_lt : E5.p < 2 ^ 256 := by decide
theorem p_two : E5.p - 2 + 1 = E5.p - 1 := by decide +kernel
theorem p_sq : (E5.p - 2) * (E5.p - 2) = (E5.p - 1) * (E5.p - 3) + 1 := by decide +kernel
theorem two_lt_p : 2 < E5.p := by decide
theorem invN_lt (a : Nat) : invN a < E5.p := Nat.mod_lt _ p_pos
theorem zero_pow_mod (e n : Nat) (h : 0 < e) : 0 ^ e % n = 0 := by rw [Nat.zero_pow h, Nat.zero_mod]
theorem invN_zero' (z : Nat) (h : z = 0) : invN z = 0 := by
  unfold invN
  obtain ⟨e, he⟩ : ∃ e, E5.p - 2 = e + 1 := ⟨E5.p - 3, by have := two_lt_p; omega⟩
  rw [he, h]
  exact zero_pow_mod _ _ (by omega)
theorem invN_mul (a : Nat) (h : a % E5.p ≠ 0) : a * invN a % E5.p = 1 := by
  unfold invN
  rw [Nat.mul_mod_mod, ← Nat.pow_succ', Nat.succ_eq_add_one, p_two, fermat_p a h, one_p]
theorem invN_inv (a : Nat) (h : a % E5.p ≠ 0) : invN (invN a) = a % E5.p := by
  unfold invN
  rw [← Nat.pow_mod, ← Nat.pow_mul, p_sq, Nat.pow_succ, Nat.pow_mul, Nat.mul_comm]
  exact Pratt.mul_one_mod (Pratt.pow_one_mod (fermat_p a h) _) a
theorem inv_num {x : E5} (hx : E5.Ok x) (a : Nat) (h : x.val % E5.p = a) : (E5.inv x).val % E5.p = invN a := by
  rw [(E5.inv_ok hx).2, Nat.pow_mod, h]; rfl
/-- Texts of numbers. -/
theorem numS_inj {a b : Nat} (ha : a < 2 ^ 256) (hb : b < 2 ^ 256) (h : numS a = numS b) : a = b := by
  have h1 := (strOf_eq _ _ 32).1 h
  have h2 : ∀ i, i < 32 → RefF.digs a i = RefF.digs b i := fun i hi => by
    have := congrArg BitVec.toNat (h1 i hi)
    rw [BitVec.toNat_ofNat, BitVec.toNat_ofNat] at this
    unfold RefF.digs
    have e : a / 256 ^ i % 256 = b / 256 ^ i % 256 := this
    rw [e]
  have h3 := RefF.sumD_congr _ _ 32 h2
  rw [digs_sum a ha, digs_sum b hb] at h3
  exact Int.ofNat.inj h3
theorem numS_ne {a b : Nat} (ha : a < 2 ^ 256) (hb : b < 2 ^ 256) (h : a ≠ b) : ((numS a).toList == (numS b).toList) = false := by
  refine (strOf_list_beq _ _ 32).trans ?_
  exact decide_eq_false (fun e => h (numS_inj ha hb ((strOf_eq _ _ 32).2 e)))
end Go.Proofs.Ytmfiabkhnoimhaa
