/-
  THE LADDER OF curve AS A PLAIN FUNCTION over the numbers modulo p; where it ends in nought.
-/
import Derived.Test.YtmfiabkhnoimhaaFieldRefF
namespace Go.Proofs.Ytmfiabkhnoimhaa
open Go Go.RowKit Go.BigFrame
instance : NeZero E5.p := ⟨by decide⟩
namespace Cv
abbrev F := Fin E5.p
def fn (n : Nat) : F := Fin.ofNat E5.p n
theorem fn_val (n : Nat) : (fn n).val = n % E5.p := rfl
theorem lt (x : F) : x.val < E5.p := x.isLt
theorem lt2 (x : F) : x.val < 2 ^ 256 := Nat.lt_trans x.isLt p_lt
structure S4 where
  a : F
  b : F
  c : F
  d : F
def sw (on : Bool) (s : S4) : S4 := if on then ⟨s.c, s.d, s.a, s.b⟩ else s
def k24 : F := fn 121665
def step (x : F) (s : S4) : S4 :=
  ⟨(s.a + s.b) * (s.a + s.b) * ((s.a - s.b) * (s.a - s.b)),
   ((s.a + s.b) * (s.a + s.b) - (s.a - s.b) * (s.a - s.b)) * ((s.a + s.b) * (s.a + s.b) + k24 * ((s.a + s.b) * (s.a + s.b) - (s.a - s.b) * (s.a - s.b))),
   ((s.c - s.d) * (s.a + s.b) + (s.c + s.d) * (s.a - s.b)) * ((s.c - s.d) * (s.a + s.b) + (s.c + s.d) * (s.a - s.b)),
   x * (((s.c - s.d) * (s.a + s.b) - (s.c + s.d) * (s.a - s.b)) * ((s.c - s.d) * (s.a + s.b) - (s.c + s.d) * (s.a - s.b)))⟩
def st (x : F) (bits : Nat → Bool) : Nat → S4
  | 0 => ⟨1, 0, x, 1⟩
  | k + 1 => sw (bits (254 - k)) (step x (sw (bits (254 - k)) (st x bits k)))
def inv (x : F) : F := fn (invN x.val)
def out (x : F) (bits : Nat → Bool) : F := (st x bits 255).a * inv (st x bits 255).b
theorem val_add (x y : F) : (x + y).val = (x.val + y.val) % E5.p := Fin.val_add x y
theorem val_mul (x y : F) : (x * y).val = x.val * y.val % E5.p := Fin.val_mul x y
theorem val_sub (x y : F) : (x - y).val = (x.val + E5.p - y.val) % E5.p := by
  have h1 : (x - y).val = (E5.p - y.val + x.val) % E5.p := rfl
  have := y.isLt
  rw [h1]; congr 1; omega
theorem sw_sw (on : Bool) (s : S4) : sw on (sw on s) = s := by unfold sw; cases on <;> rfl
theorem sw_ne (a b : Bool) (s : S4) : sw (a != b) (sw b s) = sw a s := by unfold sw; cases a <;> cases b <;> rfl
theorem zero_val : ((0 : F).val) = 0 := by decide +kernel
theorem one_val : ((1 : F).val) = 1 := by decide +kernel
theorem ext {x y : F} (h : x.val = y.val) : x = y := Fin.ext h
theorem mul_zero {x y : F} (h : x * y = 0) : x = 0 ∨ y = 0 := by
  have h1 : x.val * y.val % E5.p = 0 := by rw [← val_mul, h, zero_val]
  have hp : Pratt.IsP E5.p := by rw [p_lit]; exact Pratt.field.1
  rcases Pratt.euclid hp (Nat.dvd_of_mod_eq_zero h1) with h2 | h2
  · left; apply ext; rw [zero_val]; exact Nat.eq_zero_of_dvd_of_lt h2 x.isLt
  · right; apply ext; rw [zero_val]; exact Nat.eq_zero_of_dvd_of_lt h2 y.isLt
theorem inv_zero : inv 0 = 0 := by
  apply ext
  unfold inv
  rw [fn_val, invN_zero' _ zero_val, zero_val]; decide +kernel
theorem inv_mul {x : F} (h : x ≠ 0) : x * inv x = 1 := by
  apply ext
  rw [val_mul, one_val]
  have h1 : x.val % E5.p ≠ 0 := by
    rw [Nat.mod_eq_of_lt x.isLt]
    intro h0; exact h (ext (by rw [h0, zero_val]))
  unfold inv
  rw [fn_val, Nat.mod_eq_of_lt (invN_lt _)]
  exact invN_mul x.val h1
/-- A quotient by its product. -/
theorem quot {a b v : F} (hb : b ≠ 0) (h : v * b = a) : a * inv b = v := by
  have := inv_mul hb
  rw [← h]; grind
/-- x is 0: from one round on the second and the fourth are 0. -/
theorem zero_step (s : S4) (h1 : s.a * s.b = 0) : (step 0 s).b = 0 ∧ (step 0 s).d = 0 := by
  unfold step
  refine ⟨?_, ?_⟩
  · show ((s.a + s.b) * (s.a + s.b) - (s.a - s.b) * (s.a - s.b)) * _ = 0
    have : (s.a + s.b) * (s.a + s.b) - (s.a - s.b) * (s.a - s.b) = 0 := by grind
    rw [this]; grind
  · show 0 * _ = _; grind
theorem zero_st (bits : Nat → Bool) : ∀ k, (st 0 bits k).a * (st 0 bits k).b = 0 ∧ (st 0 bits k).c * (st 0 bits k).d = 0 ∧ (1 ≤ k → (st 0 bits k).b = 0)
  | 0 => by refine ⟨?_, ?_, by omega⟩ <;> (show _ * _ = _; unfold st; grind)
  | k + 1 => by
    obtain ⟨h1, h2, _⟩ := zero_st bits k
    have h3 : (sw (bits (254 - k)) (st 0 bits k)).a * (sw (bits (254 - k)) (st 0 bits k)).b = 0 := by
      unfold sw; split
      · exact h2
      · exact h1
    obtain ⟨g1, g2⟩ := zero_step _ h3
    have hs : st 0 bits (k + 1) = sw (bits (254 - k)) (step 0 (sw (bits (254 - k)) (st 0 bits k))) := rfl
    rw [hs]
    generalize step 0 _ = t at *
    unfold sw
    split <;> grind
theorem out_zero (bits : Nat → Bool) : out 0 bits = 0 := by
  unfold out
  rw [(zero_st bits 255).2.2 (by omega), inv_zero]; grind
/-- A point that is 0 four times over: 0, no x, 1, -1, or nothing. -/
def few (a b : F) : Prop := a = 0 ∨ b = 0 ∨ a = b ∨ a = -b
theorem few_dbl {x : F} {s : S4} (h : few s.a s.b) : (step x s).a = 0 ∨ (step x s).b = 0 := by
  unfold step
  rcases h with h | h | h | h
  · right; simp only []; rw [h]; grind
  · right; simp only []; rw [h]; grind
  · left; simp only []; rw [h]; grind
  · left; simp only []; rw [h]; grind
theorem zero_dbl {x : F} {s : S4} (h : s.a = 0 ∨ s.b = 0) : (step x s).b = 0 := by
  unfold step
  rcases h with h | h
  · simp only []; rw [h]; grind
  · simp only []; rw [h]; grind
theorem few_add {s : S4} (h : few s.a s.b) (g : few s.c s.d) : few (step 1 s).c (step 1 s).d := by
  unfold few step
  simp only []
  rcases h with h | h | h | h
  · rw [h]
    rcases g with g | g | g | g
    · right; left; rw [g]; grind
    · left; rw [g]; grind
    · right; right; left; rw [g]; grind
    · right; right; left; rw [g]; grind
  · rw [h]
    rcases g with g | g | g | g
    · left; rw [g]; grind
    · right; left; rw [g]; grind
    · right; right; left; rw [g]; grind
    · right; right; left; rw [g]; grind
  · right; right; left; rw [h]; grind
  · right; right; left; rw [h]; grind
theorem few_of_zero {a b : F} (h : a = 0 ∨ b = 0) : few a b := by
  rcases h with h | h
  · exact Or.inl h
  · exact Or.inr (Or.inl h)
theorem few_st (bits : Nat → Bool) : ∀ k, few (st 1 bits k).a (st 1 bits k).b ∧ few (st 1 bits k).c (st 1 bits k).d
  | 0 => by
    refine ⟨?_, ?_⟩
    · right; left; rfl
    · right; right; left; rfl
  | k + 1 => by
    obtain ⟨h1, h2⟩ := few_st bits k
    have hs : st 1 bits (k + 1) = sw (bits (254 - k)) (step 1 (sw (bits (254 - k)) (st 1 bits k))) := rfl
    rw [hs]
    have h3 : few (sw (bits (254 - k)) (st 1 bits k)).a (sw (bits (254 - k)) (st 1 bits k)).b ∧ few (sw (bits (254 - k)) (st 1 bits k)).c (sw (bits (254 - k)) (st 1 bits k)).d := by
      unfold sw; split
      · exact ⟨h2, h1⟩
      · exact ⟨h1, h2⟩
    generalize sw (bits (254 - k)) (st 1 bits k) = u at *
    have g1 := few_of_zero (few_dbl (x := 1) h3.1)
    have g2 := few_add h3.1 h3.2
    generalize step 1 u = t at *
    unfold sw; split
    · exact ⟨g2, g1⟩
    · exact ⟨g1, g2⟩
theorem off_st (x : F) (bits : Nat → Bool) (k : Nat) (h : bits (254 - k) = false) : st x bits (k + 1) = step x (st x bits k) := by
  show sw (bits (254 - k)) (step x (sw (bits (254 - k)) (st x bits k))) = _
  rw [h]; rfl
theorem out_one (bits : Nat → Bool) (h1 : bits 0 = false) (h2 : bits 1 = false) : out 1 bits = 0 := by
  unfold out
  have e1 := off_st 1 bits 254 h1
  have e2 := off_st 1 bits 253 h2
  have := few_dbl (x := 1) (few_st bits 253).1
  rw [← e2] at this
  have := zero_dbl (x := 1) this
  rw [← e1] at this
  rw [this, inv_zero]; grind
/-- The bits alone count. -/
theorem st_congr (x : F) (f g : Nat → Bool) (h : ∀ i, i ≤ 254 → f i = g i) : ∀ k, k ≤ 255 → st x f k = st x g k
  | 0, _ => rfl
  | k + 1, hk => by
    show sw (f (254 - k)) (step x (sw (f (254 - k)) (st x f k))) = sw (g (254 - k)) (step x (sw (g (254 - k)) (st x g k)))
    rw [st_congr x f g h k (by omega), h (254 - k) (by omega)]
theorem out_congr (x : F) (f g : Nat → Bool) (h : ∀ i, i ≤ 254 → f i = g i) : out x f = out x g := by
  unfold out
  rw [st_congr x f g h 255 (by omega)]
/-- A number's bit, as it is clamped. -/
def bit (f : Nat → BitVec 8) (i : Nat) : Bool := !decide (i < 3) && (decide (i = 254) || (f (i / 8)).getLsbD (i % 8))
end Cv
end Go.Proofs.Ytmfiabkhnoimhaa
