/-
  THE FIELD OF 2^128 ELEMENTS, as plain functions: polynomials as words of 128 bits, the coefficient of x^i at bit i.
-/
import Derived.Test.YtoocglckhphepaaGcmL
namespace Go.Proofs.Ytoocglckhphepaa
open Go
namespace GF
set_option linter.unusedSimpArgs false
/-- Every word is made of those of one bit. -/
theorem basis {n : Nat} (P : BitVec n → Prop) (h0 : P 0#n) (h1 : ∀ i, i < n → P (1#n <<< i)) (ha : ∀ a b, P a → P b → P (a ^^^ b)) (p : BitVec n) : P p := by
  have key : ∀ k, k ≤ n → ∀ p : BitVec n, (∀ i, k ≤ i → p.getLsbD i = false) → P p := by
    intro k
    induction k with
    | zero =>
      intro _ p hp
      have : p = 0#n := by
        apply BitVec.eq_of_getLsbD_eq
        intro i _
        rw [hp i (Nat.zero_le _)]
        simp
      rw [this]
      exact h0
    | succ k ih =>
      intro hk p hp
      by_cases hb : p.getLsbD k = true
      · have e : p = (p ^^^ 1#n <<< k) ^^^ 1#n <<< k := by
          rw [BitVec.xor_assoc, BitVec.xor_self, BitVec.xor_zero]
        rw [e]
        refine ha _ _ (ih (by omega) _ ?_) (h1 k (by omega))
        intro i hi
        rw [BitVec.getLsbD_xor]
        by_cases hik : i = k
        · subst hik
          have : i < n := by omega
          simp [hb, this]
        · rw [hp i (by omega)]
          simp [BitVec.getLsbD_shiftLeft]
          intro _ _
          omega
      · refine ih (by omega) p ?_
        intro i hi
        by_cases hik : i = k
        · subst hik
          simpa using hb
        · exact hp i (by omega)
  exact key n (Nat.le_refl _) p (fun i hi => BitVec.getLsbD_of_ge _ _ hi)
/-- What is put together of the parts whose bits are set. -/
def sumN {m n : Nat} (a : BitVec m) (g : Nat → BitVec n) : Nat → BitVec n
  | 0 => 0#n
  | k + 1 => sumN a g k ^^^ (if a.getLsbD k then g k else 0#n)
theorem xor_swap {n : Nat} (a b c d : BitVec n) : (a ^^^ b) ^^^ (c ^^^ d) = (a ^^^ c) ^^^ (b ^^^ d) := by
  rw [BitVec.xor_assoc, BitVec.xor_assoc, ← BitVec.xor_assoc b, ← BitVec.xor_assoc c, BitVec.xor_comm b c]
theorem ite_add {n : Nat} (x y : Bool) (g : BitVec n) : (if (x ^^ y) then g else 0#n) = (if x then g else 0#n) ^^^ (if y then g else 0#n) := by
  cases x <;> cases y <;> simp
theorem sumN_add {m n : Nat} (a b : BitVec m) (g : Nat → BitVec n) (k : Nat) : sumN (a ^^^ b) g k = sumN a g k ^^^ sumN b g k := by
  induction k with
  | zero => simp [sumN]
  | succ k ih => rw [sumN, sumN, sumN, ih, BitVec.getLsbD_xor, ite_add, xor_swap]
theorem sumN_parts {m n : Nat} (a : BitVec m) (g h : Nat → BitVec n) (k : Nat) : sumN a (fun i => g i ^^^ h i) k = sumN a g k ^^^ sumN a h k := by
  induction k with
  | zero => simp [sumN]
  | succ k ih =>
    rw [sumN, sumN, sumN, ih, xor_swap]
    by_cases hb : a.getLsbD k <;> simp [hb]
theorem sumN_none {m n : Nat} (g : Nat → BitVec n) (k : Nat) : sumN (0#m) g k = 0#n := by
  induction k with
  | zero => rfl
  | succ k ih => rw [sumN, ih]; simp
theorem sumN_zero {m n : Nat} (a : BitVec m) (g : Nat → BitVec n) (k : Nat) (h : ∀ i, i < k → g i = 0#n) : sumN a g k = 0#n := by
  induction k with
  | zero => rfl
  | succ k ih => rw [sumN, ih (fun i hi => h i (by omega)), h k (by omega)]; simp
theorem one_bit {m : Nat} (i k : Nat) (hi : i < m) : (1#m <<< i).getLsbD k = decide (k = i) := by
  rw [BitVec.getLsbD_shiftLeft, BitVec.getLsbD_one]
  by_cases h : k = i
  · subst h
    simp [hi]
    omega
  · rcases Nat.lt_or_gt_of_ne h with h1 | h1
    · simp [h1, h]
    · simp [h, show ¬ k - i = 0 by omega]
theorem sumN_one {m n : Nat} (i : Nat) (hi : i < m) (g : Nat → BitVec n) (k : Nat) : sumN (1#m <<< i) g k = if i < k then g i else 0#n := by
  induction k with
  | zero => simp [sumN]
  | succ k ih =>
    rw [sumN, ih, one_bit i k hi]
    by_cases h2 : k = i
    · subst h2
      rw [if_neg (Nat.lt_irrefl _), if_pos (Nat.lt_succ_self _)]
      simp
    · have hd : decide (k = i) = false := by simp [h2]
      rw [hd]
      by_cases h1 : i < k
      · rw [if_pos h1, if_pos (show i < k + 1 by omega)]
        simp
      · rw [if_neg h1, if_neg (show ¬ i < k + 1 by omega)]
        simp
theorem sumN_map {m n l : Nat} (f : BitVec n → BitVec l) (h0 : f 0#n = 0#l) (ha : ∀ a b, f (a ^^^ b) = f a ^^^ f b) (a : BitVec m) (g : Nat → BitVec n) (k : Nat) : f (sumN a g k) = sumN a (fun i => f (g i)) k := by
  induction k with
  | zero => exact h0
  | succ k ih =>
    rw [sumN, sumN, ha, ih]
    by_cases hb : a.getLsbD k <;> simp [hb, h0]
theorem sumN_congr {m n : Nat} (a : BitVec m) (g h : Nat → BitVec n) (k : Nat) (e : ∀ i, i < k → g i = h i) : sumN a g k = sumN a h k := by
  induction k with
  | zero => rfl
  | succ k ih => rw [sumN, sumN, ih (fun i hi => e i (by omega)), e k (by omega)]
theorem sumN_self {n : Nat} (a : BitVec n) : sumN a (fun i => 1#n <<< i) n = a := by
  refine basis (fun a => sumN a (fun i => 1#n <<< i) n = a) (sumN_none _ _) (fun i hi => ?_) (fun a b h1 h2 => ?_) a
  · show sumN _ _ _ = _
    rw [sumN_one i hi, if_pos hi]
  · show sumN _ _ _ = _
    rw [sumN_add, h1, h2]
/-- x times a polynomial. -/
def xV (c : BitVec 128) : BitVec 128 := c <<< 1 ^^^ (if c.getLsbD 127 then 0x87#128 else 0#128)
def xVp (c : BitVec 128) : Nat → BitVec 128
  | 0 => c
  | k + 1 => xV (xVp c k)
def mulV (a b : BitVec 128) : BitVec 128 := sumN a (xVp b) 128
theorem xV_add (a b : BitVec 128) : xV (a ^^^ b) = xV a ^^^ xV b := by
  unfold xV
  rw [BitVec.getLsbD_xor, ite_add, BitVec.shiftLeft_xor_distrib, xor_swap]
theorem xV_zero : xV 0#128 = 0#128 := by decide
theorem xVp_add (a b : BitVec 128) (k : Nat) : xVp (a ^^^ b) k = xVp a k ^^^ xVp b k := by
  induction k with
  | zero => rfl
  | succ k ih => rw [xVp, xVp, xVp, ih, xV_add]
theorem xVp_zero (k : Nat) : xVp 0#128 k = 0#128 := by
  induction k with
  | zero => rfl
  | succ k ih => rw [xVp, ih, xV_zero]
theorem xVp_plus (c : BitVec 128) (i j : Nat) : xVp (xVp c i) j = xVp c (i + j) := by
  induction j with
  | zero => rfl
  | succ j ih => rw [xVp, ih]; rfl
theorem xVp_one : ∀ k : Fin 128, xVp 1#128 k.1 = 1#128 <<< k.1 := by decide +kernel
theorem xV_mul (a b : BitVec 128) : mulV a (xV b) = xV (mulV a b) := by
  unfold mulV
  rw [sumN_map xV xV_zero xV_add]
  refine sumN_congr _ _ _ _ (fun i _ => ?_)
  rw [show xVp (xV b) i = xVp (xVp b 1) i from rfl, xVp_plus, Nat.add_comm]
  rfl
theorem mul_addL (a b c : BitVec 128) : mulV (a ^^^ b) c = mulV a c ^^^ mulV b c := sumN_add _ _ _ _
theorem mul_addR (a b c : BitVec 128) : mulV a (b ^^^ c) = mulV a b ^^^ mulV a c := by
  unfold mulV
  rw [← sumN_parts]
  exact sumN_congr _ _ _ _ (fun i _ => xVp_add _ _ _)
theorem zero_mul (b : BitVec 128) : mulV 0#128 b = 0#128 := sumN_none _ _
theorem mul_zero (a : BitVec 128) : mulV a 0#128 = 0#128 := sumN_zero _ _ _ (fun i _ => xVp_zero i)
theorem one_mul' (i : Nat) (hi : i < 128) (b : BitVec 128) : mulV (1#128 <<< i) b = xVp b i := by
  unfold mulV
  rw [sumN_one i hi, if_pos hi]
theorem mul_comm' (a b : BitVec 128) : mulV a b = mulV b a := by
  refine basis (fun a => mulV a b = mulV b a) ?_ ?_ ?_ a
  · show mulV _ _ = mulV _ _
    rw [zero_mul, mul_zero]
  · intro i hi
    show mulV _ _ = mulV _ _
    refine basis (fun b => mulV (1#128 <<< i) b = mulV b (1#128 <<< i)) ?_ ?_ ?_ b
    · show mulV _ _ = mulV _ _
      rw [zero_mul, mul_zero]
    · intro j hj
      show mulV _ _ = mulV _ _
      rw [one_mul' i hi, one_mul' j hj, ← xVp_one ⟨i, hi⟩, ← xVp_one ⟨j, hj⟩, xVp_plus, xVp_plus, Nat.add_comm]
    · intro c d h1 h2
      show mulV _ _ = mulV _ _
      rw [mul_addR, mul_addL, h1, h2]
  · intro c d h1 h2
    show mulV _ _ = mulV _ _
    rw [mul_addR, mul_addL, h1, h2]
theorem x_mul (a b : BitVec 128) : mulV (xV a) b = xV (mulV a b) := by rw [mul_comm', xV_mul, mul_comm']
theorem xp_mul (a b : BitVec 128) (k : Nat) : mulV (xVp a k) b = xVp (mulV a b) k := by
  induction k with
  | zero => rfl
  | succ k ih => rw [xVp, xVp, x_mul, ih]
theorem mul_assoc' (a b c : BitVec 128) : mulV (mulV a b) c = mulV a (mulV b c) := by
  refine basis (fun a => mulV (mulV a b) c = mulV a (mulV b c)) ?_ ?_ ?_ a
  · show mulV _ _ = mulV _ _
    rw [zero_mul, zero_mul, zero_mul]
  · intro i hi
    show mulV _ _ = mulV _ _
    rw [one_mul' i hi, one_mul' i hi, xp_mul]
  · intro d e h1 h2
    show mulV _ _ = mulV _ _
    rw [mul_addL, mul_addL, mul_addL, h1, h2]
/-- The document's product: 255 coefficients, then those from 128 on are put back. -/
def red1 (q : BitVec 256) (i : Nat) : BitVec 256 := if q.getLsbD i then q ^^^ 1#256 <<< (i - 128) ^^^ 1#256 <<< (i - 127) ^^^ 1#256 <<< (i - 126) ^^^ 1#256 <<< (i - 121) else q
def redN (p : BitVec 256) : Nat → BitVec 256
  | 0 => p
  | n + 1 => red1 (redN p n) (255 - n)
def redV (p : BitVec 256) : BitVec 128 := (redN p 128).setWidth 128
theorem red1_add (a b : BitVec 256) (i : Nat) : red1 (a ^^^ b) i = red1 a i ^^^ red1 b i := by
  have h : ∀ q, red1 q i = q ^^^ (if q.getLsbD i then (1#256 <<< (i - 128) ^^^ 1#256 <<< (i - 127) ^^^ 1#256 <<< (i - 126) ^^^ 1#256 <<< (i - 121)) else 0#256) := by
    intro q
    unfold red1
    by_cases hb : q.getLsbD i
    · rw [if_pos hb, if_pos hb]
      simp only [BitVec.xor_assoc]
    · rw [if_neg hb, if_neg hb, BitVec.xor_zero]
  rw [h, h a, h b, BitVec.getLsbD_xor, ite_add, xor_swap]
theorem redN_add (a b : BitVec 256) (n : Nat) : redN (a ^^^ b) n = redN a n ^^^ redN b n := by
  induction n with
  | zero => rfl
  | succ n ih => rw [redN, redN, redN, ih, red1_add]
theorem redV_add (a b : BitVec 256) : redV (a ^^^ b) = redV a ^^^ redV b := by
  unfold redV
  rw [redN_add, BitVec.setWidth_xor]
theorem redV_zero : redV 0#256 = 0#128 := by decide +kernel
theorem redV_one : ∀ n : Fin 255, redV (1#256 <<< n.1) = xVp 1#128 n.1 := by decide +kernel
/-- The 255 coefficients. -/
def rowV (b : BitVec 128) (i k : Nat) : BitVec 256 := sumN b (fun j => 1#256 <<< (i + j)) k
def rowsV (a b : BitVec 128) (k : Nat) : BitVec 256 := sumN a (fun i => rowV b i 128) k
theorem xVp_row (b : BitVec 128) (i : Nat) : xVp b i = sumN b (fun j => xVp 1#128 (i + j)) 128 := by
  have h := sumN_map (fun c => xVp c i) (xVp_zero i) (fun a b => xVp_add a b i) b (fun j => 1#128 <<< j) 128
  rw [sumN_self] at h
  rw [h]
  refine sumN_congr _ _ _ _ (fun j hj => ?_)
  show xVp _ _ = _
  rw [← xVp_one ⟨j, hj⟩, xVp_plus, Nat.add_comm]
theorem red_rows (a b : BitVec 128) : redV (rowsV a b 128) = mulV a b := by
  unfold rowsV mulV
  rw [sumN_map redV redV_zero redV_add]
  refine sumN_congr _ _ _ _ (fun i hi => ?_)
  rw [xVp_row]
  unfold rowV
  rw [sumN_map redV redV_zero redV_add]
  exact sumN_congr _ _ _ _ (fun j hj => redV_one ⟨i + j, by omega⟩)
theorem xV_bit (c : BitVec 128) (i : Nat) (hi : i < 128) : (xV c).getLsbD i = ((decide (0 < i) && c.getLsbD (i - 1)) ^^ (c.getLsbD 127 && (0x87#128).getLsbD i)) := by
  unfold xV
  rw [BitVec.getLsbD_xor, BitVec.getLsbD_shiftLeft]
  congr 1
  · by_cases h0 : i = 0
    · subst h0; simp
    · simp [hi, show 0 < i by omega, show ¬ i < 1 by omega]
  · cases c.getLsbD 127 <;> simp
end GF
end Go.Proofs.Ytoocglckhphepaa
