/-
  A PRODUCT OF BLOCKS IS THE FIELD'S, as plain functions.
-/
import Derived.Test.YtoocglckhphepaaGcmM
namespace Go.Proofs.Ytoocglckhphepaa
open Go
set_option linter.unusedSimpArgs false
/-- A block of two words as a polynomial: the first word's highest bit is the coefficient of 1. -/
def W2.poly (x : W2) : BitVec 128 := (x.hi ++ x.lo).reverse
theorem poly_bit (x : W2) (i : Nat) (hi : i < 128) : x.poly.getLsbD i = if i < 64 then x.hi.getLsbD (63 - i) else x.lo.getLsbD (127 - i) := by
  unfold W2.poly
  rw [BitVec.getLsbD_reverse, BitVec.getMsbD_eq_getLsbD, BitVec.getLsbD_append]
  by_cases h : i < 64
  · rw [if_pos h]
    simp [hi, show ¬ 128 - 1 - i < 64 by omega, show 128 - 1 - i - 64 = 63 - i by omega]
  · rw [if_neg h]
    simp [hi, show 128 - 1 - i < 64 by omega, show 128 - 1 - i = 127 - i by omega]
theorem poly_xor (x y : W2) : (W2.xor x y).poly = x.poly ^^^ y.poly := by
  apply BitVec.eq_of_getLsbD_eq
  intro i hi
  rw [BitVec.getLsbD_xor, poly_bit _ i hi, poly_bit _ i hi, poly_bit _ i hi]
  by_cases h : i < 64 <;> simp [h, W2.xor]
theorem low_bit (x : BitVec 64) : x &&& 1#64 = if x.getLsbD 0 then 1#64 else 0#64 := by
  apply BitVec.eq_of_getLsbD_eq
  intro i hi
  rw [BitVec.getLsbD_and, BitVec.getLsbD_one]
  by_cases h0 : i = 0
  · subst h0
    generalize x.getLsbD 0 = b
    cases b <;> simp
  · generalize x.getLsbD 0 = b
    cases b <;> simp [h0, BitVec.getLsbD_one]
theorem top_bit (x : BitVec 64) : x >>> 63 = if x.getLsbD 63 then 1#64 else 0#64 := by
  apply BitVec.eq_of_getLsbD_eq
  intro i hi
  rw [BitVec.getLsbD_ushiftRight]
  by_cases h0 : i = 0
  · subst h0
    rw [Nat.add_zero]
    generalize x.getLsbD 63 = b
    cases b <;> simp
  · rw [BitVec.getLsbD_of_ge _ _ (by omega : 64 ≤ 63 + i)]
    generalize x.getLsbD 63 = b
    cases b <;> simp [BitVec.getLsbD_one, h0]
theorem fold_bits : ∀ i : Fin 64, (16212958658533785600#64).getLsbD (63 - i.1) = (0x87#128).getLsbD i.1 := by decide
theorem fold_high : ∀ i : Fin 128, 64 ≤ i.1 → (0x87#128).getLsbD i.1 = false := by decide
theorem neg_if (b : Bool) : -(if b then 1#64 else 0#64) = if b then BitVec.allOnes 64 else 0#64 := by
  cases b <;> decide
theorem all_bit (b : Bool) (i : Nat) (hi : i < 64) : (if b then BitVec.allOnes 64 else 0#64).getLsbD i = b := by
  cases b
  · simp
  · rw [if_pos rfl, BitVec.getLsbD_allOnes]
    simp [hi]
theorem poly_step (h l : BitVec 64) : (W2.mk (h >>> 1 ^^^ (16212958658533785600#64 &&& -(l &&& 1#64))) (l >>> 1 ||| h <<< 63)).poly = GF.xV (W2.mk h l).poly := by
  have ht : (W2.mk h l).poly.getLsbD 127 = l.getLsbD 0 := by rw [poly_bit _ 127 (by omega)]; rfl
  apply BitVec.eq_of_getLsbD_eq
  intro i hi
  rw [GF.xV_bit _ i hi, ht, poly_bit _ i hi, low_bit, neg_if]
  dsimp only
  by_cases h64 : i < 64
  · rw [if_pos h64, BitVec.getLsbD_xor, BitVec.getLsbD_and, BitVec.getLsbD_ushiftRight, all_bit _ _ (by omega), fold_bits ⟨i, h64⟩]
    by_cases h0 : i = 0
    · subst h0
      rw [BitVec.getLsbD_of_ge _ _ (by omega)]
      simp [Bool.and_comm]
    · rw [poly_bit _ (i - 1) (by omega), if_pos (by omega)]
      dsimp only
      rw [show 63 - (i - 1) = 1 + (63 - i) by omega, Bool.and_comm (BitVec.getLsbD _ i)]
      simp [show 0 < i by omega]
  · rw [if_neg h64, BitVec.getLsbD_or, BitVec.getLsbD_ushiftRight, BitVec.getLsbD_shiftLeft, poly_bit _ (i - 1) (by omega)]
    have hf := fold_high ⟨i, hi⟩ (by show 64 ≤ i; omega)
    dsimp only at hf ⊢
    rw [hf]
    by_cases h1 : i = 64
    · subst h1
      simp
    · rw [if_neg (by omega), show 127 - (i - 1) = 1 + (127 - i) by omega]
      have : 127 - i < 63 := by omega
      simp [this, show 0 < i by omega]
theorem poly_take (o b : W2) (w : BitVec 64) : (W2.mk (o.hi ^^^ (b.hi &&& -(w >>> 63))) (o.lo ^^^ (b.lo &&& -(w >>> 63)))).poly = o.poly ^^^ (if w.getLsbD 63 then b.poly else 0#128) := by
  rw [top_bit, neg_if]
  generalize w.getLsbD 63 = c
  cases c
  · simp
  · simp only [if_true, BitVec.and_allOnes]
    exact poly_xor o b
theorem steps_poly (A B : BitVec 128) (d : Nat) (o b : W2) (x : BitVec 64) (ho : o.poly = GF.sumN A (GF.xVp B) d) (hb : b.poly = GF.xVp B d) (hx : ∀ i, i < 64 → x.getLsbD (63 - i) = A.getLsbD (d + i)) (k : Nat) (hk : k ≤ 64) :
    (MSt.steps ⟨o, b, x⟩ k).o.poly = GF.sumN A (GF.xVp B) (d + k) ∧ (MSt.steps ⟨o, b, x⟩ k).b.poly = GF.xVp B (d + k) ∧ (MSt.steps ⟨o, b, x⟩ k).w = x <<< k := by
  induction k with
  | zero => exact ⟨ho, hb, by simp [MSt.steps]⟩
  | succ k ih =>
    obtain ⟨h1, h2, h3⟩ := ih (by omega)
    have e : MSt.steps ⟨o, b, x⟩ (k + 1) = (MSt.steps ⟨o, b, x⟩ k).step := rfl
    rw [e]
    generalize MSt.steps ⟨o, b, x⟩ k = M at *
    refine ⟨?_, ?_, ?_⟩
    · show (W2.mk _ _).poly = _
      rw [poly_take, h1, h3, BitVec.getLsbD_shiftLeft, ← Nat.add_assoc, GF.sumN, h2]
      have := hx k (by omega)
      simp [show ¬ 63 < k by omega, this]
    · show (W2.mk _ _).poly = _
      rw [poly_step, ← Nat.add_assoc, GF.xVp, h2]
    · show M.w <<< 1 = _
      rw [h3, BitVec.shiftLeft_add]
theorem mul_eq (a b : W2) : W2.mul a b = (MSt.steps ⟨(MSt.steps ⟨⟨0#64, 0#64⟩, b, a.hi⟩ 64).o, (MSt.steps ⟨⟨0#64, 0#64⟩, b, a.hi⟩ 64).b, a.lo⟩ 64).o := by
  simp [W2.mul, mulTo]
theorem poly_zero : (W2.mk 0#64 0#64).poly = 0#128 := by
  apply BitVec.eq_of_getLsbD_eq
  intro i hi
  rw [poly_bit _ i hi]
  simp
theorem mul_poly (a b : W2) : (W2.mul a b).poly = GF.mulV a.poly b.poly := by
  rw [mul_eq]
  obtain ⟨h1, h2, _⟩ := steps_poly a.poly b.poly 0 ⟨0#64, 0#64⟩ b a.hi (by rw [poly_zero, GF.sumN]) rfl (fun i hi => by rw [Nat.zero_add, poly_bit _ i (by omega), if_pos hi]) 64 (by omega)
  generalize MSt.steps ⟨⟨0#64, 0#64⟩, b, a.hi⟩ 64 = M at *
  rw [Nat.zero_add] at h1 h2
  obtain ⟨h3, _⟩ := steps_poly a.poly b.poly 64 M.o M.b a.lo h1 h2 (fun i hi => by rw [poly_bit _ (64 + i) (by omega), if_neg (by omega)]; congr 1; omega) 64 (by omega)
  rw [h3]
  rfl
theorem poly_inj (x y : W2) (h : x.poly = y.poly) : x = y := by
  have hb : ∀ i, i < 128 → (if i < 64 then x.hi.getLsbD (63 - i) else x.lo.getLsbD (127 - i)) = (if i < 64 then y.hi.getLsbD (63 - i) else y.lo.getLsbD (127 - i)) := fun i hi => by
    rw [← poly_bit x i hi, ← poly_bit y i hi, h]
  obtain ⟨xh, xl⟩ := x
  obtain ⟨yh, yl⟩ := y
  have e1 : xh = yh := by
    apply BitVec.eq_of_getLsbD_eq
    intro i hi
    have := hb (63 - i) (by omega)
    rw [if_pos (by omega), if_pos (by omega), show 63 - (63 - i) = i by omega] at this
    exact this
  have e2 : xl = yl := by
    apply BitVec.eq_of_getLsbD_eq
    intro i hi
    have := hb (127 - i) (by omega)
    rw [if_neg (by omega), if_neg (by omega), show 127 - (127 - i) = i by omega] at this
    exact this
  rw [e1, e2]
theorem mul2_comm (a b : W2) : W2.mul a b = W2.mul b a := poly_inj _ _ (by rw [mul_poly, mul_poly, GF.mul_comm'])
theorem mul2_assoc (a b c : W2) : W2.mul (W2.mul a b) c = W2.mul a (W2.mul b c) := poly_inj _ _ (by rw [mul_poly, mul_poly, mul_poly, mul_poly, GF.mul_assoc'])
theorem mul2_add (a b c : W2) : W2.mul a (W2.xor b c) = W2.xor (W2.mul a b) (W2.mul a c) := poly_inj _ _ (by rw [mul_poly, poly_xor, poly_xor, mul_poly, mul_poly, GF.mul_addR])
end Go.Proofs.Ytoocglckhphepaa
