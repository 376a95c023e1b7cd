/-
  EDWARDS CURVES x^2 + y^2 = 1 + c x^2 y^2 over the numbers modulo p, c no square: the sum of two points is always there, lies on the curve, and doesn't hang on the order, nor on how points are put together.
-/
import Derived.Test.YtmfiabkhnoimhaaCurveM
namespace Go.Proofs.Ytmfiabkhnoimhaa
open Go Go.RowKit Go.BigFrame
namespace Edw
open Cv
def OnC (c x y : F) : Prop := x * x + y * y = 1 + c * x * x * y * y
structure Pt (c : F) where
  x : F
  y : F
  on : OnC c x y
theorem two_ne : (2 : F) ≠ 0 := by
  intro h
  have := congrArg Fin.val h
  revert this; decide +kernel
theorem inv_ne {a b : F} (h : a * b = 1) : a ≠ 0 := by
  intro h0
  rw [h0] at h
  have h1 : (0 : F) = 1 := by grind
  have := congrArg Fin.val h1
  rw [zero_val, one_val] at this
  cases this
theorem one_ne : (1 : F) ≠ 0 := by
  intro h
  have := congrArg Fin.val h
  rw [zero_val, one_val] at this
  cases this
theorem mul_ne {a b : F} (ha : a ≠ 0) (hb : b ≠ 0) : a * b ≠ 0 := fun h => by
  rcases mul_zero h with h | h
  · exact ha h
  · exact hb h
theorem cancel {a b k : F} (hk : k ≠ 0) (h : a * k = b * k) : a = b := by
  have : (a - b) * k = 0 := by grind
  rcases mul_zero this with h | h
  · grind
  · exact absurd h hk
/-- The sum's denominators are never nought. -/
theorem complete {c x1 y1 x2 y2 : F} (hc : ∀ r : F, r * r ≠ c) (h1 : OnC c x1 y1) (h2 : OnC c x2 y2) (e : F) (he : e * e = 1) : c * x1 * x2 * y1 * y2 ≠ e := by
  intro ht
  unfold OnC at h1 h2
  have hne : e ≠ 0 := inv_ne he
  have k1 : (x1 + e * y1) * (x1 + e * y1) = c * (x1 * y1 * (x2 + y2)) * (x1 * y1 * (x2 + y2)) := by grind
  have k2 : (x1 - e * y1) * (x1 - e * y1) = c * (x1 * y1 * (x2 - y2)) * (x1 * y1 * (x2 - y2)) := by grind
  have hx : x1 * y1 ≠ 0 := fun h0 => hne (by rw [← ht]; grind)
  have root : ∀ s t : F, t ≠ 0 → s * s = c * t * t → False := fun s t h0 h => by
    have hi := inv_mul h0
    exact hc (s * inv t) (by grind)
  by_cases hp : x2 + y2 = 0
  · by_cases hm : x2 - y2 = 0
    · have h2x : 2 * x2 = 0 := by grind
      rcases mul_zero h2x with h | h
      · exact two_ne h
      · exact hne (by rw [← ht, h]; grind)
    · exact root _ _ (mul_ne hx hm) k2
  · exact root _ _ (mul_ne hx hp) k1
theorem den_p {c x1 y1 x2 y2 : F} (hc : ∀ r : F, r * r ≠ c) (h1 : OnC c x1 y1) (h2 : OnC c x2 y2) : 1 + c * x1 * x2 * y1 * y2 ≠ 0 := fun h =>
  complete hc h1 h2 (-1) (by grind) (by grind)
theorem den_m {c x1 y1 x2 y2 : F} (hc : ∀ r : F, r * r ≠ c) (h1 : OnC c x1 y1) (h2 : OnC c x2 y2) : 1 - c * x1 * x2 * y1 * y2 ≠ 0 := fun h =>
  complete hc h1 h2 1 (by grind) (by grind)
theorem closure {c x1 y1 x2 y2 : F} (h1 : OnC c x1 y1) (h2 : OnC c x2 y2) :
    (x1 * y2 + x2 * y1) * (x1 * y2 + x2 * y1) * ((1 - c * x1 * x2 * y1 * y2) * (1 - c * x1 * x2 * y1 * y2)) + (y1 * y2 - x1 * x2) * (y1 * y2 - x1 * x2) * ((1 + c * x1 * x2 * y1 * y2) * (1 + c * x1 * x2 * y1 * y2))
      = (1 + c * x1 * x2 * y1 * y2) * (1 + c * x1 * x2 * y1 * y2) * ((1 - c * x1 * x2 * y1 * y2) * (1 - c * x1 * x2 * y1 * y2)) + c * ((x1 * y2 + x2 * y1) * (x1 * y2 + x2 * y1)) * ((y1 * y2 - x1 * x2) * (y1 * y2 - x1 * x2)) := by
  unfold OnC at h1 h2
  grind
theorem over {c X Y t i j : F} (hi : (1 + t) * i = 1) (hj : (1 - t) * j = 1) (K : X * X * ((1 - t) * (1 - t)) + Y * Y * ((1 + t) * (1 + t)) = (1 + t) * (1 + t) * ((1 - t) * (1 - t)) + c * (X * X) * (Y * Y)) : OnC c (X * i) (Y * j) := by
  unfold OnC
  have := congrArg (fun z => z * (i * i * (j * j))) K
  try dsimp only at this
  grind
variable {c : F}
def add (hc : ∀ r : F, r * r ≠ c) (P Q : Pt c) : Pt c :=
  ⟨(P.x * Q.y + Q.x * P.y) * inv (1 + c * P.x * Q.x * P.y * Q.y), (P.y * Q.y - P.x * Q.x) * inv (1 - c * P.x * Q.x * P.y * Q.y),
    over (inv_mul (den_p hc P.on Q.on)) (inv_mul (den_m hc P.on Q.on)) (closure P.on Q.on)⟩
theorem Pt.same {P Q : Pt c} (hx : P.x = Q.x) (hy : P.y = Q.y) : P = Q := by
  cases P; cases Q; cases hx; cases hy; rfl
theorem add_x (hc : ∀ r : F, r * r ≠ c) (P Q : Pt c) : (add hc P Q).x * (1 + c * P.x * Q.x * P.y * Q.y) = P.x * Q.y + Q.x * P.y := by
  have := inv_mul (den_p hc P.on Q.on)
  unfold add
  dsimp only
  grind
theorem add_y (hc : ∀ r : F, r * r ≠ c) (P Q : Pt c) : (add hc P Q).y * (1 - c * P.x * Q.x * P.y * Q.y) = P.y * Q.y - P.x * Q.x := by
  have := inv_mul (den_m hc P.on Q.on)
  unfold add
  dsimp only
  grind
theorem add_comm (hc : ∀ r : F, r * r ≠ c) (P Q : Pt c) : add hc P Q = add hc Q P := by
  refine Pt.same (cancel (den_p hc P.on Q.on) ?_) (cancel (den_m hc P.on Q.on) ?_)
  · rw [add_x]
    have := add_x hc Q P
    grind
  · rw [add_y]
    have := add_y hc Q P
    grind
def O : Pt c := ⟨0, 1, by unfold OnC; grind⟩
theorem add_O (hc : ∀ r : F, r * r ≠ c) (P : Pt c) : add hc P O = P := by
  refine Pt.same (cancel (den_p hc P.on (O (c := c)).on) ?_) (cancel (den_m hc P.on (O (c := c)).on) ?_)
  · rw [add_x]; unfold O; dsimp only; grind
  · rw [add_y]; unfold O; dsimp only; grind
theorem assocX {c x1 y1 x2 y2 x3 y3 : F} (h1 : OnC c x1 y1) (h2 : OnC c x2 y2) (h3 : OnC c x3 y3) :
    ((x1 * y2 + x2 * y1) * y3 * (1 - c * x1 * x2 * y1 * y2) + x3 * (y1 * y2 - x1 * x2) * (1 + c * x1 * x2 * y1 * y2)) * ((1 - c * x2 * x3 * y2 * y3) * (1 + c * x2 * x3 * y2 * y3) + c * x1 * y1 * (x2 * y3 + x3 * y2) * (y2 * y3 - x2 * x3))
    = ((x2 * y3 + x3 * y2) * y1 * (1 - c * x2 * x3 * y2 * y3) + x1 * (y2 * y3 - x2 * x3) * (1 + c * x2 * x3 * y2 * y3)) * ((1 - c * x1 * x2 * y1 * y2) * (1 + c * x1 * x2 * y1 * y2) + c * x3 * y3 * (x1 * y2 + x2 * y1) * (y1 * y2 - x1 * x2)) := by
  unfold OnC at h1 h2 h3
  grind
theorem assocY {c x1 y1 x2 y2 x3 y3 : F} (h1 : OnC c x1 y1) (h2 : OnC c x2 y2) (h3 : OnC c x3 y3) :
    ((y1 * y2 - x1 * x2) * y3 * (1 + c * x1 * x2 * y1 * y2) - x3 * (x1 * y2 + x2 * y1) * (1 - c * x1 * x2 * y1 * y2)) * ((1 - c * x2 * x3 * y2 * y3) * (1 + c * x2 * x3 * y2 * y3) - c * x1 * y1 * (x2 * y3 + x3 * y2) * (y2 * y3 - x2 * x3))
    = ((y2 * y3 - x2 * x3) * y1 * (1 + c * x2 * x3 * y2 * y3) - x1 * (x2 * y3 + x3 * y2) * (1 - c * x2 * x3 * y2 * y3)) * ((1 - c * x1 * x2 * y1 * y2) * (1 + c * x1 * x2 * y1 * y2) - c * x3 * y3 * (x1 * y2 + x2 * y1) * (y1 * y2 - x1 * x2)) := by
  unfold OnC at h1 h2 h3
  grind
theorem cancel2 {a b k l n m : F} (hk : k ≠ 0) (hl : l ≠ 0) (h1 : a * k = n) (h2 : b * l = m) (h : n * l = m * k) : a = b := by
  refine cancel (mul_ne hk hl) ?_
  grind
theorem side_lx {c X Y A B t x y L : F} (hA : A * (1 + t) = X) (hB : B * (1 - t) = Y) (hL : L * (1 + c * A * x * B * y) = A * y + x * B) : L * ((1 - t) * (1 + t) * (1 + c * A * x * B * y)) = X * y * (1 - t) + x * Y * (1 + t) := by
  rw [← hA, ← hB]
  have := congrArg (fun z => z * ((1 - t) * (1 + t))) hL
  clear hA hB hL
  grind
theorem side_ly {c X Y A B t x y L : F} (hA : A * (1 + t) = X) (hB : B * (1 - t) = Y) (hL : L * (1 - c * A * x * B * y) = B * y - A * x) : L * ((1 - t) * (1 + t) * (1 - c * A * x * B * y)) = Y * y * (1 + t) - x * X * (1 - t) := by
  rw [← hA, ← hB]
  have := congrArg (fun z => z * ((1 - t) * (1 + t))) hL
  clear hA hB hL
  grind
theorem side_mx {c X Y A B t x y L : F} (hA : A * (1 + t) = X) (hB : B * (1 - t) = Y) (hL : L * (1 + c * x * A * y * B) = x * B + A * y) : L * ((1 - t) * (1 + t) * (1 + c * x * A * y * B)) = X * y * (1 - t) + x * Y * (1 + t) := by
  rw [← hA, ← hB]
  have := congrArg (fun z => z * ((1 - t) * (1 + t))) hL
  clear hA hB hL
  grind
theorem side_my {c X Y A B t x y L : F} (hA : A * (1 + t) = X) (hB : B * (1 - t) = Y) (hL : L * (1 - c * x * A * y * B) = y * B - x * A) : L * ((1 - t) * (1 + t) * (1 - c * x * A * y * B)) = Y * y * (1 + t) - x * X * (1 - t) := by
  rw [← hA, ← hB]
  have := congrArg (fun z => z * ((1 - t) * (1 + t))) hL
  clear hA hB hL
  grind
theorem den_l {c X Y A B t x y : F} (hA : A * (1 + t) = X) (hB : B * (1 - t) = Y) : (1 - t) * (1 + t) * (1 + c * A * x * B * y) = (1 - t) * (1 + t) + c * x * y * X * Y ∧ (1 - t) * (1 + t) * (1 - c * A * x * B * y) = (1 - t) * (1 + t) - c * x * y * X * Y ∧ (1 - t) * (1 + t) * (1 + c * x * A * y * B) = (1 - t) * (1 + t) + c * x * y * X * Y ∧ (1 - t) * (1 + t) * (1 - c * x * A * y * B) = (1 - t) * (1 + t) - c * x * y * X * Y := by
  rw [← hA, ← hB]
  clear hA hB
  refine ⟨?_, ?_, ?_, ?_⟩ <;> grind
theorem add_assoc (hc : ∀ r : F, r * r ≠ c) (P Q R : Pt c) : add hc (add hc P Q) R = add hc P (add hc Q R) := by
  have ax := add_x hc P Q
  have ay := add_y hc P Q
  have bx := add_x hc Q R
  have by' := add_y hc Q R
  have lx := add_x hc (add hc P Q) R
  have ly := add_y hc (add hc P Q) R
  have mx := add_x hc P (add hc Q R)
  have my := add_y hc P (add hc Q R)
  have s1 := den_p hc P.on Q.on
  have s2 := den_m hc P.on Q.on
  have t1 := den_p hc Q.on R.on
  have t2 := den_m hc Q.on R.on
  have u1 := den_p hc (add hc P Q).on R.on
  have u2 := den_m hc (add hc P Q).on R.on
  have v1 := den_p hc P.on (add hc Q R).on
  have v2 := den_m hc P.on (add hc Q R).on
  have AX := assocX P.on Q.on R.on
  have AY := assocY P.on Q.on R.on
  refine Pt.same ?_ ?_
  · generalize (add hc (add hc P Q) R).x = Lx at *
    generalize (add hc P (add hc Q R)).x = Mx at *
    clear ly my
    generalize (add hc P Q).x = ax' at *
    generalize (add hc P Q).y = ay' at *
    generalize (add hc Q R).x = bx' at *
    generalize (add hc Q R).y = by'' at *
    refine cancel2 (k := (1 - c * P.x * Q.x * P.y * Q.y) * (1 + c * P.x * Q.x * P.y * Q.y) * (1 + c * ax' * R.x * ay' * R.y)) (l := (1 - c * Q.x * R.x * Q.y * R.y) * (1 + c * Q.x * R.x * Q.y * R.y) * (1 + c * P.x * bx' * P.y * by''))
      (mul_ne (mul_ne s2 s1) u1) (mul_ne (mul_ne t2 t1) v1)
      (n := (P.x * Q.y + Q.x * P.y) * R.y * (1 - c * P.x * Q.x * P.y * Q.y) + R.x * (P.y * Q.y - P.x * Q.x) * (1 + c * P.x * Q.x * P.y * Q.y))
      (m := (Q.x * R.y + R.x * Q.y) * P.y * (1 - c * Q.x * R.x * Q.y * R.y) + P.x * (Q.y * R.y - Q.x * R.x) * (1 + c * Q.x * R.x * Q.y * R.y)) ?_ ?_ ?_
    · exact side_lx ax ay lx
    · exact side_mx bx by' mx
    · rw [(den_l ax ay).1, (den_l bx by').2.2.1]; exact AX
  · generalize (add hc (add hc P Q) R).y = Ly at *
    generalize (add hc P (add hc Q R)).y = My at *
    clear lx mx
    generalize (add hc P Q).x = ax' at *
    generalize (add hc P Q).y = ay' at *
    generalize (add hc Q R).x = bx' at *
    generalize (add hc Q R).y = by'' at *
    refine cancel2 (k := (1 - c * P.x * Q.x * P.y * Q.y) * (1 + c * P.x * Q.x * P.y * Q.y) * (1 - c * ax' * R.x * ay' * R.y)) (l := (1 - c * Q.x * R.x * Q.y * R.y) * (1 + c * Q.x * R.x * Q.y * R.y) * (1 - c * P.x * bx' * P.y * by''))
      (mul_ne (mul_ne s2 s1) u2) (mul_ne (mul_ne t2 t1) v2)
      (n := (P.y * Q.y - P.x * Q.x) * R.y * (1 + c * P.x * Q.x * P.y * Q.y) - R.x * (P.x * Q.y + Q.x * P.y) * (1 - c * P.x * Q.x * P.y * Q.y))
      (m := (Q.y * R.y - Q.x * R.x) * P.y * (1 + c * Q.x * R.x * Q.y * R.y) - P.x * (Q.x * R.y + R.x * Q.y) * (1 - c * Q.x * R.x * Q.y * R.y)) ?_ ?_ ?_
    · exact side_ly ax ay ly
    · exact side_my bx by' my
    · rw [(den_l ax ay).2.1, (den_l bx by').2.2.2]; exact AY
def mul (hc : ∀ r : F, r * r ≠ c) : Nat → Pt c → Pt c
  | 0, _ => O
  | n + 1, P => add hc (mul hc n P) P
theorem O_add (hc : ∀ r : F, r * r ≠ c) (P : Pt c) : add hc O P = P := by rw [add_comm, add_O]
theorem mul_add (hc : ∀ r : F, r * r ≠ c) (m : Nat) (P : Pt c) : ∀ n, mul hc (m + n) P = add hc (mul hc m P) (mul hc n P)
  | 0 => by show mul hc m P = add hc (mul hc m P) O; rw [add_O]
  | n + 1 => by
    show add hc (mul hc (m + n) P) P = add hc (mul hc m P) (add hc (mul hc n P) P)
    rw [mul_add hc m P n, add_assoc]
theorem mul_mul (hc : ∀ r : F, r * r ≠ c) (m : Nat) (P : Pt c) : ∀ n, mul hc n (mul hc m P) = mul hc (n * m) P
  | 0 => by rw [Nat.zero_mul]; rfl
  | n + 1 => by
    show add hc (mul hc n (mul hc m P)) (mul hc m P) = _
    rw [mul_mul hc m P n, Nat.succ_mul, mul_add]
theorem mul_swap (hc : ∀ r : F, r * r ≠ c) (m n : Nat) (P : Pt c) : mul hc n (mul hc m P) = mul hc m (mul hc n P) := by
  rw [mul_mul, mul_mul, Nat.mul_comm]
end Edw
end Go.Proofs.Ytmfiabkhnoimhaa
