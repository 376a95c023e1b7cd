/-
  TEXTS PUT TOGETHER: GcmM, RefA, RefB.
-/
import Derived.Test.YtjbpjoondmcnlabDoorMg24
import Derived.Test.YtjbpjoondmcnlabDoorMg04
import Derived.Test.YtjbpjoondmcnlabDoorMg21
set_option maxRecDepth 100000
/-
  THE FIELD OF 2^128 ELEMENTS, as plain functions; a product of blocks is the field's.
-/
namespace Go.Proofs.YtjbpjoondmcnlabDoor
open Go
namespace GF
set_option linter.unusedSimpArgs false
/-- Every word is made of those of one bit. -/
theorem basis {n : Nat} (P : BitVec n → Prop) (h0 : P 0#n) (h1 : ∀ i, i < n → P (1#n <<< i)) (ha : ∀ a b, P a → P b → P (a ^^^ b)) (p : BitVec n) : P p := by
  have key : ∀ k, k ≤ n → ∀ p : BitVec n, (∀ i, k ≤ i → p.getLsbD i = false) → P p := by
    intro k
    induction k with
    | zero =>
      intro _ p hp
      have : p = 0#n := by
        apply BitVec.eq_of_getLsbD_eq
        intro i _
        rw [hp i (Nat.zero_le _)]
        simp
      rw [this]
      exact h0
    | succ k ih =>
      intro hk p hp
      by_cases hb : p.getLsbD k = true
      · have e : p = (p ^^^ 1#n <<< k) ^^^ 1#n <<< k := by
          rw [BitVec.xor_assoc, BitVec.xor_self, BitVec.xor_zero]
        rw [e]
        refine ha _ _ (ih (by omega) _ ?_) (h1 k (by omega))
        intro i hi
        rw [BitVec.getLsbD_xor]
        by_cases hik : i = k
        · subst hik
          have : i < n := by omega
          simp [hb, this]
        · rw [hp i (by omega)]
          simp [BitVec.getLsbD_shiftLeft]
          intro _ _
          omega
      · refine ih (by omega) p ?_
        intro i hi
        by_cases hik : i = k
        · subst hik
          simpa using hb
        · exact hp i (by omega)
  exact key n (Nat.le_refl _) p (fun i hi => BitVec.getLsbD_of_ge _ _ hi)
/-- What is put together of the parts whose bits are set. -/
def sumN {m n : Nat} (a : BitVec m) (g : Nat → BitVec n) : Nat → BitVec n
  | 0 => 0#n
  | k + 1 => sumN a g k ^^^ (if a.getLsbD k then g k else 0#n)
theorem xor_swap {n : Nat} (a b c d : BitVec n) : (a ^^^ b) ^^^ (c ^^^ d) = (a ^^^ c) ^^^ (b ^^^ d) := by
  rw [BitVec.xor_assoc, BitVec.xor_assoc, ← BitVec.xor_assoc b, ← BitVec.xor_assoc c, BitVec.xor_comm b c]
theorem ite_add {n : Nat} (x y : Bool) (g : BitVec n) : (if (x ^^ y) then g else 0#n) = (if x then g else 0#n) ^^^ (if y then g else 0#n) := by
  cases x <;> cases y <;> simp
theorem sumN_add {m n : Nat} (a b : BitVec m) (g : Nat → BitVec n) (k : Nat) : sumN (a ^^^ b) g k = sumN a g k ^^^ sumN b g k := by
  induction k with
  | zero => simp [sumN]
  | succ k ih => rw [sumN, sumN, sumN, ih, BitVec.getLsbD_xor, ite_add, xor_swap]
theorem sumN_parts {m n : Nat} (a : BitVec m) (g h : Nat → BitVec n) (k : Nat) : sumN a (fun i => g i ^^^ h i) k = sumN a g k ^^^ sumN a h k := by
  induction k with
  | zero => simp [sumN]
  | succ k ih =>
    rw [sumN, sumN, sumN, ih, xor_swap]
    by_cases hb : a.getLsbD k <;> simp [hb]
theorem sumN_none {m n : Nat} (g : Nat → BitVec n) (k : Nat) : sumN (0#m) g k = 0#n := by
  induction k with
  | zero => rfl
  | succ k ih => rw [sumN, ih]; simp
theorem sumN_zero {m n : Nat} (a : BitVec m) (g : Nat → BitVec n) (k : Nat) (h : ∀ i, i < k → g i = 0#n) : sumN a g k = 0#n := by
  induction k with
  | zero => rfl
  | succ k ih => rw [sumN, ih (fun i hi => h i (by omega)), h k (by omega)]; simp
theorem one_bit {m : Nat} (i k : Nat) (hi : i < m) : (1#m <<< i).getLsbD k = decide (k = i) := by
  rw [BitVec.getLsbD_shiftLeft, BitVec.getLsbD_one]
  by_cases h : k = i
  · subst h
    simp [hi]
    omega
  · rcases Nat.lt_or_gt_of_ne h with h1 | h1
    · simp [h1, h]
    · simp [h, show ¬ k - i = 0 by omega]
theorem sumN_one {m n : Nat} (i : Nat) (hi : i < m) (g : Nat → BitVec n) (k : Nat) : sumN (1#m <<< i) g k = if i < k then g i else 0#n := by
  induction k with
  | zero => simp [sumN]
  | succ k ih =>
    rw [sumN, ih, one_bit i k hi]
    by_cases h2 : k = i
    · subst h2
      rw [if_neg (Nat.lt_irrefl _), if_pos (Nat.lt_succ_self _)]
      simp
    · have hd : decide (k = i) = false := by simp [h2]
      rw [hd]
      by_cases h1 : i < k
      · rw [if_pos h1, if_pos (show i < k + 1 by omega)]
        simp
      · rw [if_neg h1, if_neg (show ¬ i < k + 1 by omega)]
        simp
theorem sumN_map {m n l : Nat} (f : BitVec n → BitVec l) (h0 : f 0#n = 0#l) (ha : ∀ a b, f (a ^^^ b) = f a ^^^ f b) (a : BitVec m) (g : Nat → BitVec n) (k : Nat) : f (sumN a g k) = sumN a (fun i => f (g i)) k := by
  induction k with
  | zero => exact h0
  | succ k ih =>
    rw [sumN, sumN, ha, ih]
    by_cases hb : a.getLsbD k <;> simp [hb, h0]
theorem sumN_congr {m n : Nat} (a : BitVec m) (g h : Nat → BitVec n) (k : Nat) (e : ∀ i, i < k → g i = h i) : sumN a g k = sumN a h k := by
  induction k with
  | zero => rfl
  | succ k ih => rw [sumN, sumN, ih (fun i hi => e i (by omega)), e k (by omega)]
theorem sumN_self {n : Nat} (a : BitVec n) : sumN a (fun i => 1#n <<< i) n = a := by
  refine basis (fun a => sumN a (fun i => 1#n <<< i) n = a) (sumN_none _ _) (fun i hi => ?_) (fun a b h1 h2 => ?_) a
  · show sumN _ _ _ = _
    rw [sumN_one i hi, if_pos hi]
  · show sumN _ _ _ = _
    rw [sumN_add, h1, h2]
/-- x times a polynomial. -/
def xV (c : BitVec 128) : BitVec 128 := c <<< 1 ^^^ (if c.getLsbD 127 then 0x87#128 else 0#128)
def xVp (c : BitVec 128) : Nat → BitVec 128
  | 0 => c
  | k + 1 => xV (xVp c k)
def mulV (a b : BitVec 128) : BitVec 128 := sumN a (xVp b) 128
theorem xV_add (a b : BitVec 128) : xV (a ^^^ b) = xV a ^^^ xV b := by
  unfold xV
  rw [BitVec.getLsbD_xor, ite_add, BitVec.shiftLeft_xor_distrib, xor_swap]
theorem xV_zero : xV 0#128 = 0#128 := by decide
theorem xVp_add (a b : BitVec 128) (k : Nat) : xVp (a ^^^ b) k = xVp a k ^^^ xVp b k := by
  induction k with
  | zero => rfl
  | succ k ih => rw [xVp, xVp, xVp, ih, xV_add]
theorem xVp_zero (k : Nat) : xVp 0#128 k = 0#128 := by
  induction k with
  | zero => rfl
  | succ k ih => rw [xVp, ih, xV_zero]
theorem xVp_plus (c : BitVec 128) (i j : Nat) : xVp (xVp c i) j = xVp c (i + j) := by
  induction j with
  | zero => rfl
  | succ j ih => rw [xVp, ih]; rfl
theorem xVp_one : ∀ k : Fin 128, xVp 1#128 k.1 = 1#128 <<< k.1 := by decide +kernel
theorem xV_mul (a b : BitVec 128) : mulV a (xV b) = xV (mulV a b) := by
  unfold mulV
  rw [sumN_map xV xV_zero xV_add]
  refine sumN_congr _ _ _ _ (fun i _ => ?_)
  rw [show xVp (xV b) i = xVp (xVp b 1) i from rfl, xVp_plus, Nat.add_comm]
  rfl
theorem mul_addL (a b c : BitVec 128) : mulV (a ^^^ b) c = mulV a c ^^^ mulV b c := sumN_add _ _ _ _
theorem mul_addR (a b c : BitVec 128) : mulV a (b ^^^ c) = mulV a b ^^^ mulV a c := by
  unfold mulV
  rw [← sumN_parts]
  exact sumN_congr _ _ _ _ (fun i _ => xVp_add _ _ _)
theorem zero_mul (b : BitVec 128) : mulV 0#128 b = 0#128 := sumN_none _ _
theorem mul_zero (a : BitVec 128) : mulV a 0#128 = 0#128 := sumN_zero _ _ _ (fun i _ => xVp_zero i)
theorem one_mul' (i : Nat) (hi : i < 128) (b : BitVec 128) : mulV (1#128 <<< i) b = xVp b i := by
  unfold mulV
  rw [sumN_one i hi, if_pos hi]
theorem mul_comm' (a b : BitVec 128) : mulV a b = mulV b a := by
  refine basis (fun a => mulV a b = mulV b a) ?_ ?_ ?_ a
  · show mulV _ _ = mulV _ _
    rw [zero_mul, mul_zero]
  · intro i hi
    show mulV _ _ = mulV _ _
    refine basis (fun b => mulV (1#128 <<< i) b = mulV b (1#128 <<< i)) ?_ ?_ ?_ b
    · show mulV _ _ = mulV _ _
      rw [zero_mul, mul_zero]
    · intro j hj
      show mulV _ _ = mulV _ _
      rw [one_mul' i hi, one_mul' j hj, ← xVp_one ⟨i, hi⟩, ← xVp_one ⟨j, hj⟩, xVp_plus, xVp_plus, Nat.add_comm]
    · intro c d h1 h2
      show mulV _ _ = mulV _ _
      rw [mul_addR, mul_addL, h1, h2]
  · intro c d h1 h2
    show mulV _ _ = mulV _ _
    rw [mul_addR, mul_addL, h1, h2]
theorem x_mul (a b : BitVec 128) : mulV (xV a) b = xV (mulV a b) := by rw [mul_comm', xV_mul, mul_comm']
theorem xp_mul (a b : BitVec 128) (k : Nat) : mulV (xVp a k) b = xVp (mulV a b) k := by
  induction k with
  | zero => rfl
  | succ k ih => rw [xVp, xVp, x_mul, ih]
theorem mul_assoc' (a b c : BitVec 128) : mulV (mulV a b) c = mulV a (mulV b c) := by
  refine basis (fun a => mulV (mulV a b) c = mulV a (mulV b c)) ?_ ?_ ?_ a
  · show mulV _ _ = mulV _ _
    rw [zero_mul, zero_mul, zero_mul]
  · intro i hi
    show mulV _ _ = mulV _ _
    rw [one_mul' i hi, one_mul' i hi, xp_mul]
  · intro d e h1 h2
    show mulV _ _ = mulV _ _
    rw [mul_addL, mul_addL, mul_addL, h1, h2]
/-- The document's product: 255 coefficients, then those from 128 on are put back. -/
def red1 (q : BitVec 256) (i : Nat) : BitVec 256 := if q.getLsbD i then q ^^^ 1#256 <<< (i - 128) ^^^ 1#256 <<< (i - 127) ^^^ 1#256 <<< (i - 126) ^^^ 1#256 <<< (i - 121) else q
def redN (p : BitVec 256) : Nat → BitVec 256
  | 0 => p
  | n + 1 => red1 (redN p n) (255 - n)
def redV (p : BitVec 256) : BitVec 128 := (redN p 128).setWidth 128
theorem red1_add (a b : BitVec 256) (i : Nat) : red1 (a ^^^ b) i = red1 a i ^^^ red1 b i := by
  have h : ∀ q, red1 q i = q ^^^ (if q.getLsbD i then (1#256 <<< (i - 128) ^^^ 1#256 <<< (i - 127) ^^^ 1#256 <<< (i - 126) ^^^ 1#256 <<< (i - 121)) else 0#256) := by
    intro q
    unfold red1
    by_cases hb : q.getLsbD i
    · rw [if_pos hb, if_pos hb]
      simp only [BitVec.xor_assoc]
    · rw [if_neg hb, if_neg hb, BitVec.xor_zero]
  rw [h, h a, h b, BitVec.getLsbD_xor, ite_add, xor_swap]
theorem redN_add (a b : BitVec 256) (n : Nat) : redN (a ^^^ b) n = redN a n ^^^ redN b n := by
  induction n with
  | zero => rfl
  | succ n ih => rw [redN, redN, redN, ih, red1_add]
theorem redV_add (a b : BitVec 256) : redV (a ^^^ b) = redV a ^^^ redV b := by
  unfold redV
  rw [redN_add, BitVec.setWidth_xor]
theorem redV_zero : redV 0#256 = 0#128 := by decide +kernel
theorem redV_one : ∀ n : Fin 255, redV (1#256 <<< n.1) = xVp 1#128 n.1 := by decide +kernel
/-- The 255 coefficients. -/
def rowV (b : BitVec 128) (i k : Nat) : BitVec 256 := sumN b (fun j => 1#256 <<< (i + j)) k
def rowsV (a b : BitVec 128) (k : Nat) : BitVec 256 := sumN a (fun i => rowV b i 128) k
theorem xVp_row (b : BitVec 128) (i : Nat) : xVp b i = sumN b (fun j => xVp 1#128 (i + j)) 128 := by
  have h := sumN_map (fun c => xVp c i) (xVp_zero i) (fun a b => xVp_add a b i) b (fun j => 1#128 <<< j) 128
  rw [sumN_self] at h
  rw [h]
  refine sumN_congr _ _ _ _ (fun j hj => ?_)
  show xVp _ _ = _
  rw [← xVp_one ⟨j, hj⟩, xVp_plus, Nat.add_comm]
theorem red_rows (a b : BitVec 128) : redV (rowsV a b 128) = mulV a b := by
  unfold rowsV mulV
  rw [sumN_map redV redV_zero redV_add]
  refine sumN_congr _ _ _ _ (fun i hi => ?_)
  rw [xVp_row]
  unfold rowV
  rw [sumN_map redV redV_zero redV_add]
  exact sumN_congr _ _ _ _ (fun j hj => redV_one ⟨i + j, by omega⟩)
theorem xV_bit (c : BitVec 128) (i : Nat) (hi : i < 128) : (xV c).getLsbD i = ((decide (0 < i) && c.getLsbD (i - 1)) ^^ (c.getLsbD 127 && (0x87#128).getLsbD i)) := by
  unfold xV
  rw [BitVec.getLsbD_xor, BitVec.getLsbD_shiftLeft]
  congr 1
  · by_cases h0 : i = 0
    · subst h0; simp
    · simp [hi, show 0 < i by omega, show ¬ i < 1 by omega]
  · cases c.getLsbD 127 <;> simp
end GF
end Go.Proofs.YtjbpjoondmcnlabDoor
namespace Go.Proofs.YtjbpjoondmcnlabDoor
open Go
set_option linter.unusedSimpArgs false
/-- A block of two words as a polynomial: the first word's highest bit is the coefficient of 1. -/
def W2.poly (x : W2) : BitVec 128 := (x.hi ++ x.lo).reverse
theorem poly_bit (x : W2) (i : Nat) (hi : i < 128) : x.poly.getLsbD i = if i < 64 then x.hi.getLsbD (63 - i) else x.lo.getLsbD (127 - i) := by
  unfold W2.poly
  rw [BitVec.getLsbD_reverse, BitVec.getMsbD_eq_getLsbD, BitVec.getLsbD_append]
  by_cases h : i < 64
  · rw [if_pos h]
    simp [hi, show ¬ 128 - 1 - i < 64 by omega, show 128 - 1 - i - 64 = 63 - i by omega]
  · rw [if_neg h]
    simp [hi, show 128 - 1 - i < 64 by omega, show 128 - 1 - i = 127 - i by omega]
theorem poly_xor (x y : W2) : (W2.xor x y).poly = x.poly ^^^ y.poly := by
  apply BitVec.eq_of_getLsbD_eq
  intro i hi
  rw [BitVec.getLsbD_xor, poly_bit _ i hi, poly_bit _ i hi, poly_bit _ i hi]
  by_cases h : i < 64 <;> simp [h, W2.xor]
theorem low_bit (x : BitVec 64) : x &&& 1#64 = if x.getLsbD 0 then 1#64 else 0#64 := by
  apply BitVec.eq_of_getLsbD_eq
  intro i hi
  rw [BitVec.getLsbD_and, BitVec.getLsbD_one]
  by_cases h0 : i = 0
  · subst h0
    generalize x.getLsbD 0 = b
    cases b <;> simp
  · generalize x.getLsbD 0 = b
    cases b <;> simp [h0, BitVec.getLsbD_one]
theorem top_bit (x : BitVec 64) : x >>> 63 = if x.getLsbD 63 then 1#64 else 0#64 := by
  apply BitVec.eq_of_getLsbD_eq
  intro i hi
  rw [BitVec.getLsbD_ushiftRight]
  by_cases h0 : i = 0
  · subst h0
    rw [Nat.add_zero]
    generalize x.getLsbD 63 = b
    cases b <;> simp
  · rw [BitVec.getLsbD_of_ge _ _ (by omega : 64 ≤ 63 + i)]
    generalize x.getLsbD 63 = b
    cases b <;> simp [BitVec.getLsbD_one, h0]
theorem fold_bits : ∀ i : Fin 64, (16212958658533785600#64).getLsbD (63 - i.1) = (0x87#128).getLsbD i.1 := by decide
theorem fold_high : ∀ i : Fin 128, 64 ≤ i.1 → (0x87#128).getLsbD i.1 = false := by decide
theorem neg_if (b : Bool) : -(if b then 1#64 else 0#64) = if b then BitVec.allOnes 64 else 0#64 := by
  cases b <;> decide
theorem all_bit (b : Bool) (i : Nat) (hi : i < 64) : (if b then BitVec.allOnes 64 else 0#64).getLsbD i = b := by
  cases b
  · simp
  · rw [if_pos rfl, BitVec.getLsbD_allOnes]
    simp [hi]
theorem poly_step (h l : BitVec 64) : (W2.mk (h >>> 1 ^^^ (16212958658533785600#64 &&& -(l &&& 1#64))) (l >>> 1 ||| h <<< 63)).poly = GF.xV (W2.mk h l).poly := by
  have ht : (W2.mk h l).poly.getLsbD 127 = l.getLsbD 0 := by rw [poly_bit _ 127 (by omega)]; rfl
  apply BitVec.eq_of_getLsbD_eq
  intro i hi
  rw [GF.xV_bit _ i hi, ht, poly_bit _ i hi, low_bit, neg_if]
  dsimp only
  by_cases h64 : i < 64
  · rw [if_pos h64, BitVec.getLsbD_xor, BitVec.getLsbD_and, BitVec.getLsbD_ushiftRight, all_bit _ _ (by omega), fold_bits ⟨i, h64⟩]
    by_cases h0 : i = 0
    · subst h0
      rw [BitVec.getLsbD_of_ge _ _ (by omega)]
      simp [Bool.and_comm]
    · rw [poly_bit _ (i - 1) (by omega), if_pos (by omega)]
      dsimp only
      rw [show 63 - (i - 1) = 1 + (63 - i) by omega, Bool.and_comm (BitVec.getLsbD _ i)]
      simp [show 0 < i by omega]
  · rw [if_neg h64, BitVec.getLsbD_or, BitVec.getLsbD_ushiftRight, BitVec.getLsbD_shiftLeft, poly_bit _ (i - 1) (by omega)]
    have hf := fold_high ⟨i, hi⟩ (by show 64 ≤ i; omega)
    dsimp only at hf ⊢
    rw [hf]
    by_cases h1 : i = 64
    · subst h1
      simp
    · rw [if_neg (by omega), show 127 - (i - 1) = 1 + (127 - i) by omega]
      have : 127 - i < 63 := by omega
      simp [this, show 0 < i by omega]
theorem poly_take (o b : W2) (w : BitVec 64) : (W2.mk (o.hi ^^^ (b.hi &&& -(w >>> 63))) (o.lo ^^^ (b.lo &&& -(w >>> 63)))).poly = o.poly ^^^ (if w.getLsbD 63 then b.poly else 0#128) := by
  rw [top_bit, neg_if]
  generalize w.getLsbD 63 = c
  cases c
  · simp
  · simp only [if_true, BitVec.and_allOnes]
    exact poly_xor o b
theorem steps_poly (A B : BitVec 128) (d : Nat) (o b : W2) (x : BitVec 64) (ho : o.poly = GF.sumN A (GF.xVp B) d) (hb : b.poly = GF.xVp B d) (hx : ∀ i, i < 64 → x.getLsbD (63 - i) = A.getLsbD (d + i)) (k : Nat) (hk : k ≤ 64) :
    (MSt.steps ⟨o, b, x⟩ k).o.poly = GF.sumN A (GF.xVp B) (d + k) ∧ (MSt.steps ⟨o, b, x⟩ k).b.poly = GF.xVp B (d + k) ∧ (MSt.steps ⟨o, b, x⟩ k).w = x <<< k := by
  induction k with
  | zero => exact ⟨ho, hb, by simp [MSt.steps]⟩
  | succ k ih =>
    obtain ⟨h1, h2, h3⟩ := ih (by omega)
    have e : MSt.steps ⟨o, b, x⟩ (k + 1) = (MSt.steps ⟨o, b, x⟩ k).step := rfl
    rw [e]
    generalize MSt.steps ⟨o, b, x⟩ k = M at *
    refine ⟨?_, ?_, ?_⟩
    · show (W2.mk _ _).poly = _
      rw [poly_take, h1, h3, BitVec.getLsbD_shiftLeft, ← Nat.add_assoc, GF.sumN, h2]
      have := hx k (by omega)
      simp [show ¬ 63 < k by omega, this]
    · show (W2.mk _ _).poly = _
      rw [poly_step, ← Nat.add_assoc, GF.xVp, h2]
    · show M.w <<< 1 = _
      rw [h3, BitVec.shiftLeft_add]
theorem mul_eq (a b : W2) : W2.mul a b = (MSt.steps ⟨(MSt.steps ⟨⟨0#64, 0#64⟩, b, a.hi⟩ 64).o, (MSt.steps ⟨⟨0#64, 0#64⟩, b, a.hi⟩ 64).b, a.lo⟩ 64).o := by
  simp [W2.mul, mulTo]
theorem poly_zero : (W2.mk 0#64 0#64).poly = 0#128 := by
  apply BitVec.eq_of_getLsbD_eq
  intro i hi
  rw [poly_bit _ i hi]
  simp
theorem mul_poly (a b : W2) : (W2.mul a b).poly = GF.mulV a.poly b.poly := by
  rw [mul_eq]
  obtain ⟨h1, h2, _⟩ := steps_poly a.poly b.poly 0 ⟨0#64, 0#64⟩ b a.hi (by rw [poly_zero, GF.sumN]) rfl (fun i hi => by rw [Nat.zero_add, poly_bit _ i (by omega), if_pos hi]) 64 (by omega)
  generalize MSt.steps ⟨⟨0#64, 0#64⟩, b, a.hi⟩ 64 = M at *
  rw [Nat.zero_add] at h1 h2
  obtain ⟨h3, _⟩ := steps_poly a.poly b.poly 64 M.o M.b a.lo h1 h2 (fun i hi => by rw [poly_bit _ (64 + i) (by omega), if_neg (by omega)]; congr 1; omega) 64 (by omega)
  rw [h3]
  rfl
theorem poly_inj (x y : W2) (h : x.poly = y.poly) : x = y := by
  have hb : ∀ i, i < 128 → (if i < 64 then x.hi.getLsbD (63 - i) else x.lo.getLsbD (127 - i)) = (if i < 64 then y.hi.getLsbD (63 - i) else y.lo.getLsbD (127 - i)) := fun i hi => by
    rw [← poly_bit x i hi, ← poly_bit y i hi, h]
  obtain ⟨xh, xl⟩ := x
  obtain ⟨yh, yl⟩ := y
  have e1 : xh = yh := by
    apply BitVec.eq_of_getLsbD_eq
    intro i hi
    have := hb (63 - i) (by omega)
    rw [if_pos (by omega), if_pos (by omega), show 63 - (63 - i) = i by omega] at this
    exact this
  have e2 : xl = yl := by
    apply BitVec.eq_of_getLsbD_eq
    intro i hi
    have := hb (127 - i) (by omega)
    rw [if_neg (by omega), if_neg (by omega), show 127 - (127 - i) = i by omega] at this
    exact this
  rw [e1, e2]
theorem mul2_comm (a b : W2) : W2.mul a b = W2.mul b a := poly_inj _ _ (by rw [mul_poly, mul_poly, GF.mul_comm'])
theorem mul2_assoc (a b c : W2) : W2.mul (W2.mul a b) c = W2.mul a (W2.mul b c) := poly_inj _ _ (by rw [mul_poly, mul_poly, mul_poly, mul_poly, GF.mul_assoc'])
theorem mul2_add (a b c : W2) : W2.mul a (W2.xor b c) = W2.xor (W2.mul a b) (W2.mul a c) := poly_inj _ _ (by rw [mul_poly, poly_xor, poly_xor, mul_poly, mul_poly, GF.mul_addR])
end Go.Proofs.YtjbpjoondmcnlabDoor
/-
  THE DOCUMENT'S ANSWER FOR aes, FIRST PART: twice, times, Sub.
-/
namespace Go.Proofs.YtjbpjoondmcnlabDoor
open Go Go.RowKit Go.BigFrame
def twiceR (x : BitVec 8) : BitVec 8 := if 128 ≤ x.toNat then x <<< 1 ^^^ 0x1B#8 else x <<< 1
/-- The product, from its parts: a, b and what is put together. -/
def timesF : Nat → BitVec 8 → BitVec 8 → BitVec 8 → BitVec 8
  | 0, _, _, o => o
  | n + 1, x, y, o => if y = 0#8 then o else timesF n (twiceR x) (y >>> 1) (if y.toNat % 2 = 1 then o ^^^ x else o)
def timesR (x y : BitVec 8) : BitVec 8 := timesF 8 x y 0#8
set_option maxHeartbeats 400000 in
theorem twice_any (x : BitVec 8) (w : World) :
    Calls Tryd.prog 59 #[.int .u8 (n8 x)] w fun e w' => e = .returned (.int .u8 (n8 (twiceR x))) ∧ w = w' := by
  by_cases h : 128 ≤ x.toNat
  · have h1 : (128 : Int) ≤ n8 x := by rw [n8_nat]; omega
    go_enter Tryd.func59, Tryd.ntmps59
    go_wp2_with fail
    go_ret
    exact ⟨by rw [twiceR, if_pos h]; rfl, rfl⟩
  · have h1 : n8 x < 128 := by rw [n8_nat]; omega
    go_enter Tryd.func59, Tryd.ntmps59
    go_wp2_with fail
    go_ret
    exact ⟨by rw [twiceR, if_neg h]; rfl, rfl⟩
theorem half8 (y : BitVec 8) : (n8 y).tdiv 2 = n8 (y >>> 1) := by
  rw [n8_nat, n8_nat, Int.tdiv_eq_ediv_of_nonneg (by omega), BitVec.toNat_ushiftRight, Nat.shiftRight_eq_div_pow]
  omega
theorem n8mod (z : BitVec 8) : n8 z % 256 = n8 z := by
  rw [n8_nat]
  have := z.isLt
  omega
theorem odd8 (y : BitVec 8) : (n8 y).tmod 2 = ((y.toNat % 2 : Nat) : Int) := by
  rw [n8_nat, Int.tmod_eq_emod_of_nonneg (by omega)]
  omega
set_option maxHeartbeats 1000000 in
theorem times_any (x y : BitVec 8) (w : World) :
    Calls Tryd.prog 96 #[.int .u8 (n8 x), .int .u8 (n8 y)] w fun e w' => e = .returned (.int .u8 (n8 (timesR x y))) ∧ w = w' := by
  go_enter Tryd.func96, Tryd.ntmps96
  go_wp2_with fail
  go_loopw [0, 1, 5] (fun s0 s1 s5 wr => ∃ n a b o, s0 = .int .u8 (n8 a) ∧ s1 = .int .u8 (n8 b) ∧ s5 = .int .u8 (n8 o) ∧ b.toNat < 2 ^ n ∧ timesF n a b o = timesR x y ∧ w = wr)
    (fun _ s1 _ _ => (intOf s1).toNat)
  case atStart => exact ⟨8, x, y, 0#8, rfl, rfl, by rw [n8_nat]; rfl, y.isLt, rfl, rfl⟩
  case round =>
    obtain ⟨n, a, b, o, rfl, rfl, rfl, hb, hf, rfl⟩ := hrel
    by_cases h0 : b = 0#8
    · subst h0
      have e0 : n8 0#8 = 0 := by rw [n8_nat]; rfl
      have ho : o = timesR x y := by rw [← hf]; cases n <;> simp [timesF]
      go_wp2_with fail
      go_ret
      exact ⟨by rw [ho]; rfl, rfl⟩
    · have hpos : (0 : Int) < n8 b := by
        rw [n8_nat]
        have : b.toNat ≠ 0 := fun e => h0 (BitVec.eq_of_toNat_eq e)
        omega
      obtain ⟨m, rfl⟩ : ∃ m, n = m + 1 := by
        cases n with
        | zero => exact absurd (BitVec.eq_of_toNat_eq (by simpa using hb) : b = 0#8) h0
        | succ m => exact ⟨m, rfl⟩
      have hsh : (b >>> 1).toNat < 2 ^ m := by
        rw [BitVec.toNat_ushiftRight, Nat.shiftRight_eq_div_pow, Nat.pow_one]
        rw [Nat.pow_succ] at hb
        omega
      have hlt : (b >>> 1).toNat < b.toNat := by
        rw [BitVec.toNat_ushiftRight, Nat.shiftRight_eq_div_pow, Nat.pow_one]
        have : b.toNat ≠ 0 := fun e => h0 (BitVec.eq_of_toNat_eq e)
        omega
      have hh := half8 b
      have hf' := hf
      rw [timesF, if_neg h0] at hf'
      by_cases ho : b.toNat % 2 = 1
      · have hm : (n8 b).tmod 2 = 1 := by rw [odd8, ho]; rfl
        rw [if_pos ho] at hf'
        go_wp2_with (go_at_call 59; refine (twice_any _ _).mono ?_; rintro e w' ⟨rfl, rfl⟩)
        go_roundw
        case rel => exact ⟨m, twiceR a, b >>> 1, o ^^^ a, rfl, by rw [n8mod], rfl, hsh, hf', trivial⟩
        case measure => rw [n8mod]; show (n8 (b >>> 1)).toNat < (n8 b).toNat; rw [n8_nat, n8_nat]; exact hlt
      · have hm : (n8 b).tmod 2 = 0 := by rw [odd8, show b.toNat % 2 = 0 by omega]; rfl
        rw [if_neg ho] at hf'
        go_wp2_with (go_at_call 59; refine (twice_any _ _).mono ?_; rintro e w' ⟨rfl, rfl⟩)
        go_roundw
        case rel => exact ⟨m, twiceR a, b >>> 1, o, rfl, by rw [n8mod], rfl, hsh, hf', trivial⟩
        case measure => rw [n8mod]; show (n8 (b >>> 1)).toNat < (n8 b).toNat; rw [n8_nat, n8_nat]; exact hlt
end Go.Proofs.YtjbpjoondmcnlabDoor
/-
  THE DOCUMENT'S ANSWER FOR aes, SECOND PART: Sub, and that it is the table.
-/
namespace Go.Proofs.YtjbpjoondmcnlabDoor
open Go Go.RowKit Go.BigFrame
/-- Behind k rounds: the power and what is put together. -/
def powR (x : BitVec 8) : Nat → BitVec 8 × BitVec 8
  | 0 => (x, 1#8)
  | k + 1 => (timesR (powR x k).1 (powR x k).1, timesR (powR x k).2 (timesR (powR x k).1 (powR x k).1))
def outR (v : BitVec 8) : Nat → BitVec 8
  | 0 => 0x63#8
  | k + 1 => outR v k ^^^ (v <<< k ||| v >>> (8 - k))
def subR (x : BitVec 8) : BitVec 8 := outR (powR x 7).2 5
theorem subR_sbox : ∀ i : Fin 256, subR (BitVec.ofNat 8 i) = sbox i := by decide +kernel
set_option maxHeartbeats 1000000 in
theorem sub_any (x : BitVec 8) (w : World) :
    Calls Tryd.prog 84 #[.int .u8 (n8 x)] w fun e w' => e = .returned (.int .u8 (n8 (subR x))) ∧ Below w.heap.size w w' := by
  go_enter Tryd.func84, Tryd.ntmps84
  go_wp2_with fail
  go_loopw [3, 4, 5] (fun s3 s4 s5 wr => ∃ k : Nat, k ≤ 7 ∧ s5 = .int .i64 (k : Int) ∧ s4 = .int .u8 (n8 (powR x k).1) ∧ s3 = .int .u8 (n8 (powR x k).2) ∧ w = wr)
    (fun _ _ s5 _ => 7 - (intOf s5).toNat)
  case atStart => exact ⟨0, by omega, rfl, rfl, by show _ = Value.int .u8 (n8 1#8); rw [n8_nat]; rfl, rfl⟩
  case round =>
    obtain ⟨k, hk, rfl, rfl, rfl, rfl⟩ := hrel
    by_cases hk7 : k < 7
    · have hkI : (k : Int) < 7 := by omega
      go_wp2_with (go_at_call 96; refine (times_any _ _ _).mono ?_; rintro e w' ⟨rfl, rfl⟩)
      go_roundw
      case rel => exact ⟨k + 1, by omega, by go_num, rfl, rfl, trivial⟩
      case measure => simp [intOf]; omega
    · obtain rfl : k = 7 := by omega
      generalize hv : (powR x 7).2 = v
      have Hv := Lib.hid hv
      clear hv
      go_wp2_with fail
      refine wp_loop_rounds 6 ?_
      iterate 5
        (rw [rounds_succ]
         go_wp2_with fail
         refine region_quiet mixedOrders (by kernel_rfl) ?_
         repeat (go_big_quiet_step (fail))
         refine wpQuiet_nil ?_
         go_wp2_with fail)
      rw [rounds_succ]
      go_wp2_with fail
      go_ret
      refine ⟨?_, by repeat (first | exact Below.refl _ _ | apply Below.drew)⟩
      have hs : subR x = 99#8 ^^^ (v ||| v >>> 8) ^^^ (v <<< 1 ||| v >>> 7) ^^^ (v <<< 2 ||| v >>> 6) ^^^ (v <<< 3 ||| v >>> 5) ^^^ (v <<< 4 ||| v >>> 4) := by
        unfold subR
        rw [Hv.out]
        simp [outR]
      rw [hs]
      rfl
end Go.Proofs.YtjbpjoondmcnlabDoor
