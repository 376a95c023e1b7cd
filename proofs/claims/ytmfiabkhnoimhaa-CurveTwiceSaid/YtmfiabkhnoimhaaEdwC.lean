/-
  TO TAKE A POINT BY TWO NUMBERS, one behind the other, is the same the other way round: for the ladder of every number and all bits.
-/
import Derived.Test.YtmfiabkhnoimhaaEdwB
namespace Go.Proofs.Ytmfiabkhnoimhaa
open Go Go.RowKit Go.BigFrame
namespace Edw
open Cv
theorem base_no {tw : Bool} {x y : F} (hx : x ≠ 0) (h : Rep tw x 1 y) : y * y ≠ 1 := by
  intro h1
  have h2 : (y - 1) * (y + 1) = 0 := by grind
  cases tw
  · obtain ⟨_, h⟩ := (h : x + 1 ≠ 0 ∧ x - 1 = y * (x + 1))
    rcases mul_zero h2 with h3 | h3
    · have e : y = 1 := by clear h h1 h2; grind
      rw [e] at h
      exact absurd_two h (by clear h h1 h2; grind)
    · have : 2 * x = 0 := by grind
      rcases mul_zero this with g | g
      · exact two_ne g
      · exact hx g
  · obtain ⟨_, h⟩ := (h : x - 1 ≠ 0 ∧ x + 1 = y * (x - 1))
    rcases mul_zero h2 with h3 | h3
    · have e : y = 1 := by clear h h1 h2; grind
      rw [e] at h
      exact absurd_two h.symm (by clear h h1 h2; grind)
    · have : 2 * x = 0 := by grind
      rcases mul_zero this with g | g
      · exact two_ne g
      · exact hx g
theorem neg_no {x : F} (hx : x ≠ 0) : -x ≠ 0 := fun h => hx (by grind)
theorem base_f {x y : F} (h : x - 1 = y * (x + 1)) : x * (1 - y) = 1 + y := by grind
theorem base_t {x y : F} (h : x + 1 = y * (x - 1)) : -x * (1 - y) = 1 + y := by grind
theorem rep_sum {tw : Bool} {x : F} {s : S4} {P Q B : PT tw} (hx : x ≠ 0) (hB : Rep tw x 1 B.y) (h : Rep tw s.a s.b P.y) (g : Rep tw s.c s.d Q.y) (hd : (add (cT_no tw) P (neg Q)).y = B.y) :
    Rep tw (Cv.step x s).c (Cv.step x s).d (sumT tw P Q).y := by
  have hb := y_both (cT_no tw) P Q
  have hn : ¬ (P.y = 0 ∧ Q.y = 0) := fun ⟨h1, h2⟩ => base_no hx hB (by rw [← hd]; exact y_none (cT_no tw) P Q h1 h2)
  rw [hd] at hb
  unfold sumT
  generalize (add (cT_no tw) P Q).y = Y at *
  generalize P.y = y1 at *
  generalize Q.y = y2 at *
  generalize B.y = b at *
  unfold Cv.step
  dsimp only
  obtain ⟨a, b', c, d⟩ := s
  dsimp only at *
  clear hd
  cases tw
  · obtain ⟨h1, h2⟩ := (h : a + b' ≠ 0 ∧ a - b' = y1 * (a + b'))
    obtain ⟨g1, g2⟩ := (g : c + d ≠ 0 ∧ c - d = y2 * (c + d))
    obtain ⟨_, hB⟩ := (hB : x + 1 ≠ 0 ∧ x - 1 = b * (x + 1))
    have := sum_f (mul_ne (mul_ne h1 g1) (mul_ne h1 g1)) (base_f hB) hx hb hn
    rw [h2, g2]
    generalize a + b' = S at *
    generalize c + d = T at *
    have e1 : (y2 * T * S + T * (y1 * S)) * (y2 * T * S + T * (y1 * S)) = S * T * (S * T) * ((y1 + y2) * (y1 + y2)) := by clear hb hB this h2 g2; grind
    have e2 : (y2 * T * S - T * (y1 * S)) * (y2 * T * S - T * (y1 * S)) = S * T * (S * T) * ((y1 - y2) * (y1 - y2)) := by clear hb hB this h2 g2 e1; grind
    rw [e1, e2]
    exact this
  · obtain ⟨h1, h2⟩ := (h : a - b' ≠ 0 ∧ a + b' = y1 * (a - b'))
    obtain ⟨g1, g2⟩ := (g : c - d ≠ 0 ∧ c + d = y2 * (c - d))
    obtain ⟨_, hB⟩ := (hB : x - 1 ≠ 0 ∧ x + 1 = b * (x - 1))
    have := sum_f (x := -x) (mul_ne (mul_ne h1 g1) (mul_ne h1 g1)) (base_t hB) (neg_no hx) hb hn
    rw [h2, g2]
    generalize a - b' = S at *
    generalize c - d = T at *
    have e1 : (T * (y1 * S) + y2 * T * S) * (T * (y1 * S) + y2 * T * S) = S * T * (S * T) * ((y1 + y2) * (y1 + y2)) := by clear hb hB this h2 g2; grind
    have e2 : (T * (y1 * S) - y2 * T * S) * (T * (y1 * S) - y2 * T * S) = S * T * (S * T) * ((y1 - y2) * (y1 - y2)) := by clear hb hB this h2 g2 e1; grind
    rw [e1, e2]
    generalize S * T * (S * T) * ((y1 + y2) * (y1 + y2)) = C at *
    generalize S * T * (S * T) * ((y1 - y2) * (y1 - y2)) = D at *
    obtain ⟨t1, t2⟩ := this
    have e3 : C + -x * D = C - x * D := by clear t1 t2 hb e1 e2; grind
    have e4 : C - -x * D = C + x * D := by clear t1 t2 hb e1 e2 e3; grind
    rw [e3] at t1 t2
    rw [e4] at t2
    exact ⟨t1, t2⟩
theorem y_turn {c : F} (hc : ∀ r : F, r * r ≠ c) (P Q : Pt c) : (add hc P (neg Q)).y = (add hc Q (neg P)).y := by
  refine cancel (den_p hc P.on Q.on) ?_
  rw [y_neg]
  have := y_neg hc Q P
  grind
theorem back {c : F} (hc : ∀ r : F, r * r ≠ c) (P B : Pt c) : add hc (add hc P B) (neg P) = B := by
  rw [add_comm hc P B, add_assoc, add_neg, add_O]
def top (bits : Nat → Bool) : Nat → Nat
  | 0 => 0
  | k + 1 => 2 * top bits k + if bits (254 - k) then 1 else 0
theorem mulT_two (tw : Bool) (n : Nat) (P : PT tw) : mulT tw (2 * n) P = sumT tw (mulT tw n P) (mulT tw n P) := by
  unfold mulT sumT
  rw [Nat.two_mul, mul_add]
theorem mulT_odd (tw : Bool) (n : Nat) (P : PT tw) : mulT tw (2 * n + 1) P = sumT tw (mulT tw n P) (mulT tw (n + 1) P) := by
  unfold mulT sumT
  rw [← mul_add, show 2 * n + 1 = n + (n + 1) by omega]
theorem st_rep {tw : Bool} {x : F} {B : PT tw} (hx : x ≠ 0) (hB : Rep tw x 1 B.y) (bits : Nat → Bool) :
    ∀ k, Rep tw (st x bits k).a (st x bits k).b (mulT tw (top bits k) B).y ∧ Rep tw (st x bits k).c (st x bits k).d (mulT tw (top bits k + 1) B).y
  | 0 => by
    have e1 : (mulT tw (top bits 0) B).y = 1 := rfl
    have e2 : mulT tw (top bits 0 + 1) B = B := O_add (cT_no tw) B
    rw [e1, e2]
    refine ⟨?_, hB⟩
    show Rep tw 1 0 1
    cases tw
    · exact (⟨fun h => no_of (a := 1 + 0) (add0 1) h, by rw [add0, sub0, one1]⟩ : (1 : F) + 0 ≠ 0 ∧ (1 : F) - 0 = 1 * (1 + 0))
    · exact (⟨fun h => no_of (a := 1 - 0) (sub0 1) h, by rw [add0, sub0, one1]⟩ : (1 : F) - 0 ≠ 0 ∧ (1 : F) + 0 = 1 * (1 - 0))
  | k + 1 => by
    obtain ⟨h1, h2⟩ := st_rep hx hB bits k
    have hs : st x bits (k + 1) = sw (bits (254 - k)) (Cv.step x (sw (bits (254 - k)) (st x bits k))) := rfl
    have ht : top bits (k + 1) = 2 * top bits k + if bits (254 - k) then 1 else 0 := rfl
    rw [hs, ht]
    have hd : (add (cT_no tw) (mulT tw (top bits k + 1) B) (neg (mulT tw (top bits k) B))).y = B.y := congrArg Pt.y (back (cT_no tw) (mulT tw (top bits k) B) B)
    generalize top bits k = n at *
    generalize st x bits k = s at *
    cases bits (254 - k)
    · rw [if_neg (by decide), Nat.add_zero, mulT_two, mulT_odd]
      exact ⟨rep_dbl (x := x) h1, rep_sum hx hB h1 h2 ((y_turn _ _ _).trans hd)⟩
    · rw [if_pos rfl, show 2 * n + 1 + 1 = 2 * (n + 1) by omega, mulT_two, mulT_odd]
      have e : sumT tw (mulT tw n B) (mulT tw (n + 1) B) = sumT tw (mulT tw (n + 1) B) (mulT tw n B) := add_comm (cT_no tw) _ _
      rw [e]
      exact ⟨rep_sum (s := ⟨s.c, s.d, s.a, s.b⟩) hx hB h2 h1 hd, rep_dbl (x := x) (s := ⟨s.c, s.d, s.a, s.b⟩) h2⟩
def uY (tw : Bool) (y : F) : F := if tw then (y + 1) * inv (y - 1) else (1 + y) * inv (1 - y)
theorem two_zero {b : F} (h : 2 * b = 0) : b = 0 := by
  rcases mul_zero h with h | h
  · exact absurd h two_ne
  · exact h
theorem rep_out {tw : Bool} {a b y : F} (h : Rep tw a b y) : a * inv b = uY tw y := by
  cases tw
  · obtain ⟨h1, h2⟩ := (h : a + b ≠ 0 ∧ a - b = y * (a + b))
    show _ = (1 + y) * inv (1 - y)
    by_cases hy : 1 - y = 0
    · have hb : b = 0 := two_zero (by grind)
      rw [hb, hy, inv_zero]; grind
    · have hi := inv_mul hy
      have hb : b ≠ 0 := fun hb => by
        have : a * (1 - y) = 0 := by grind
        rcases mul_zero this with h | h
        · exact h1 (by grind)
        · exact hy h
      refine quot hb ?_
      have : a * (1 - y) = b * (1 + y) := by grind
      generalize inv (1 - y) = i at *
      have : a * (1 - y) * i = b * (1 + y) * i := by rw [this]
      grind
  · obtain ⟨h1, h2⟩ := (h : a - b ≠ 0 ∧ a + b = y * (a - b))
    show _ = (y + 1) * inv (y - 1)
    by_cases hy : y - 1 = 0
    · have hb : b = 0 := two_zero (by grind)
      rw [hb, hy, inv_zero]; grind
    · have hi := inv_mul hy
      have hb : b ≠ 0 := fun hb => by
        have : a * (y - 1) = 0 := by grind
        rcases mul_zero this with h | h
        · exact h1 (by grind)
        · exact hy h
      refine quot hb ?_
      have : a * (y - 1) = b * (y + 1) := by grind
      generalize inv (y - 1) = i at *
      have : a * (y - 1) * i = b * (y + 1) * i := by rw [this]
      grind
theorem out_mul {tw : Bool} {x : F} {B : PT tw} (hx : x ≠ 0) (hB : Rep tw x 1 B.y) (bits : Nat → Bool) : out x bits = uY tw (mulT tw (top bits 255) B).y :=
  rep_out (st_rep hx hB bits 255).1
theorem uY_base {tw : Bool} {y : F} (h : uY tw y ≠ 0) : Rep tw (uY tw y) 1 y := by
  cases tw
  · have e : uY false y = (1 + y) * inv (1 - y) := rfl
    have hy : 1 - y ≠ 0 := fun h0 => h (by rw [e, h0, inv_zero]; grind)
    have hi := inv_mul hy
    have h1 : uY false y * (1 - y) = 1 + y := by rw [e]; grind
    generalize uY false y = u at *
    exact (⟨fun h0 => by
      have e : u = -1 := by clear h1; grind
      rw [e] at h1
      exact absurd_two h1 (by clear h1 h0; grind), by grind⟩ : u + 1 ≠ 0 ∧ u - 1 = y * (u + 1))
  · have e : uY true y = (y + 1) * inv (y - 1) := rfl
    have hy : y - 1 ≠ 0 := fun h0 => h (by rw [e, h0, inv_zero]; grind)
    have hi := inv_mul hy
    have h1 : uY true y * (y - 1) = y + 1 := by rw [e]; grind
    generalize uY true y = u at *
    exact (⟨fun h0 => by
      have e : u = 1 := by clear h1; grind
      rw [e] at h1
      exact absurd_two h1 (by clear h1 h0; grind), by grind⟩ : u - 1 ≠ 0 ∧ u + 1 = y * (u - 1))
theorem uY_one {tw : Bool} {y : F} (h : y * y = 1) : uY tw y = 0 := by
  have h2 : (y - 1) * (y + 1) = 0 := by grind
  cases tw
  · show (1 + y) * inv (1 - y) = 0
    rcases mul_zero h2 with h | h
    · rw [show 1 - y = 0 by grind, inv_zero]; grind
    · rw [show 1 + y = 0 by grind]; grind
  · show (y + 1) * inv (y - 1) = 0
    rcases mul_zero h2 with h | h
    · rw [h, inv_zero]; grind
    · rw [h]; grind
theorem uY_zero {tw : Bool} {y : F} (h : uY tw y = 0) : y * y = 1 := by
  cases tw
  · have h : (1 + y) * inv (1 - y) = 0 := h
    by_cases hy : 1 - y = 0
    · grind
    · have hi := inv_mul hy
      rcases mul_zero h with h | h
      · grind
      · rw [h] at hi
        exact (no_of hi (mul0 _)).elim
  · have h : (y + 1) * inv (y - 1) = 0 := h
    by_cases hy : y - 1 = 0
    · grind
    · have hi := inv_mul hy
      rcases mul_zero h with h | h
      · grind
      · rw [h] at hi
        exact (no_of hi (mul0 _)).elim
theorem x_of_one {c : F} (hc : ∀ r : F, r * r ≠ c) (P : Pt c) (h : P.y * P.y = 1) : P.x = 0 := by
  have on := P.on
  unfold OnC at on
  have e : P.x * (P.x * (1 - c)) = 0 := by grind
  rcases mul_zero e with h | h
  · exact h
  · rcases mul_zero h with h | h
    · exact h
    · exact absurd (by grind) (hc 1)
theorem one_of_x {c : F} (P : Pt c) (h : P.x = 0) : P.y * P.y = 1 := by
  have on := P.on
  unfold OnC at on
  grind
theorem mul_x {c : F} (hc : ∀ r : F, r * r ≠ c) (P : Pt c) (h : P.x = 0) : ∀ n, (mul hc n P).x = 0
  | 0 => rfl
  | n + 1 => by
    have h1 := mul_x hc P h n
    have h2 := add_x hc (mul hc n P) P
    have d := den_p hc (mul hc n P).on P.on
    have e : (mul hc (n + 1) P).x = (add hc (mul hc n P) P).x := rfl
    rw [e]
    refine cancel d ?_
    rw [h2]; grind
theorem out_out {tw : Bool} {x : F} {B : PT tw} (hx : x ≠ 0) (hB : Rep tw x 1 B.y) (f g : Nat → Bool) :
    out (out x f) g = uY tw (mulT tw (top g 255) (mulT tw (top f 255) B)).y := by
  rw [out_mul hx hB f]
  generalize mulT tw (top f 255) B = Q
  by_cases h : uY tw Q.y = 0
  · rw [h, out_zero]
    have h1 := x_of_one (cT_no tw) Q (uY_zero h)
    exact (uY_one (one_of_x _ (mul_x (cT_no tw) Q h1 _))).symm
  · exact out_mul h (uY_base h) g
theorem sq_c {c x K : F} (h : x * x = 4 * c * (K * K)) (hK : K ≠ 0) (hc : ∀ r : F, r * r ≠ c) : False := by
  have hi := inv_mul hK
  have h2 := inv_mul two_ne
  exact hc (x * inv K * inv 2) (by grind)
theorem w_ne (x : F) : x * x + (4 * k24 + 2) * x + 1 ≠ 0 := by
  intro h
  have hK := c1_def
  have hKn := K_ne
  have hc := c1_no
  generalize k24 = k at *
  generalize c1 = c at *
  have e : (x + 2 * k + 1) * (x + 2 * k + 1) = 4 * c * ((k + 1) * (k + 1)) := by
    rw [show 4 * c * ((k + 1) * (k + 1)) = 4 * (c * (k + 1)) * (k + 1) by grind, hK]
    clear hK
    grind
  exact sq_c e hKn hc
theorem on_f {x r k c i : F} (hi : (x + 1) * i = 1) (hc : c * (k + 1) = k) (hK : k + 1 ≠ 0) (h : r * r * (x * x + (4 * k + 2) * x + 1) = 4 * (k + 1) * x) : OnC c r ((x - 1) * i) := by
  unfold OnC
  refine cancel (mul_ne (mul_ne (inv_ne hi) (inv_ne hi)) hK) ?_
  have e1 : (r * r + (x - 1) * i * ((x - 1) * i)) * ((x + 1) * (x + 1) * (k + 1)) = r * r * ((x + 1) * (x + 1)) * (k + 1) + (x - 1) * (x - 1) * (k + 1) * (((x + 1) * i) * ((x + 1) * i)) := by clear hi hc h; grind
  have e2 : (1 + c * r * r * ((x - 1) * i) * ((x - 1) * i)) * ((x + 1) * (x + 1) * (k + 1)) = (x + 1) * (x + 1) * (k + 1) + (c * (k + 1)) * (r * r) * (x - 1) * (x - 1) * (((x + 1) * i) * ((x + 1) * i)) := by clear hi hc h e1; grind
  rw [e1, e2, hi, hc]
  clear e1 e2 hi hc
  generalize r * r = R at *
  grind
theorem on_t {x r k c i : F} (hi : (x - 1) * i = 1) (hc : c * k = k + 1) (hk : k ≠ 0) (h : r * r * (x * x + (4 * k + 2) * x + 1) = 4 * k * x) : OnC c r ((x + 1) * i) := by
  unfold OnC
  refine cancel (mul_ne (mul_ne (inv_ne hi) (inv_ne hi)) hk) ?_
  have e1 : (r * r + (x + 1) * i * ((x + 1) * i)) * ((x - 1) * (x - 1) * k) = r * r * ((x - 1) * (x - 1)) * k + (x + 1) * (x + 1) * k * (((x - 1) * i) * ((x - 1) * i)) := by clear hi hc h; grind
  have e2 : (1 + c * r * r * ((x + 1) * i) * ((x + 1) * i)) * ((x - 1) * (x - 1) * k) = (x - 1) * (x - 1) * k + (c * k) * (r * r) * (x + 1) * (x + 1) * (((x - 1) * i) * ((x - 1) * i)) := by clear hi hc h e1; grind
  rw [e1, e2, hi, hc]
  clear e1 e2 hi hc
  generalize r * r = R at *
  grind
theorem four_ne : (4 : F) ≠ 0 := fun h => two_ne (two_zero (by grind))
/-- Every number but nought is some point's, on the curve or on the twist. -/
theorem base_any {x : F} (hx : x ≠ 0) : ∃ tw, ∃ B : PT tw, Rep tw x 1 B.y := by
  have hw := w_ne x
  have hi := inv_mul hw
  generalize hW : x * x + (4 * k24 + 2) * x + 1 = W at *
  have hs : 4 * (k24 + 1) * x * inv W ≠ 0 := mul_ne (mul_ne (mul_ne four_ne K_ne) hx) (inv_ne (b := W) (by grind))
  have hsW : 4 * (k24 + 1) * x * inv W * W = 4 * (k24 + 1) * x := by
    generalize k24 = k at *
    clear hW
    grind
  generalize 4 * (k24 + 1) * x * inv W = s at *
  rcases root_or hs with ⟨r, hr⟩ | ⟨r, hr⟩
  · have hx1 : x + 1 ≠ 0 := fun h0 => by
      have e : x = -1 := by grind
      refine c2_no r ?_
      rw [hr]
      have h1 := c2_def
      have hk := k_ne
      generalize k24 = k at *
      subst e
      refine cancel hk ?_
      rw [h1]
      have h4 : 4 * (s * k) = 4 * (k + 1) := by
        have : W = -(4 * k) := by rw [← hW]; clear hsW; grind
        rw [this] at hsW
        clear hW hi
        grind
      have h5 : 4 * (s * k - (k + 1)) = 0 := by rw [show 4 * (s * k - (k + 1)) = 4 * (s * k) - 4 * (k + 1) by grind, h4]; grind
      rcases mul_zero h5 with h | h
      · exact absurd h four_ne
      · grind
    have hj := inv_mul hx1
    refine ⟨false, ⟨r, (x - 1) * inv (x + 1), on_f hj c1_def K_ne (by rw [hW, hr]; exact hsW)⟩, ?_⟩
    show x + 1 ≠ 0 ∧ x - 1 = (x - 1) * inv (x + 1) * (x + 1)
    refine ⟨hx1, ?_⟩
    generalize inv (x + 1) = j at *
    clear hW hsW hi hr
    grind
  · have hx1 : x - 1 ≠ 0 := fun h0 => by
      have e : x = 1 := by grind
      refine c1_no r ?_
      rw [hr]
      have hK := K_ne
      generalize k24 = k at *
      have g1 : W - 4 * (k + 1) = (x - 1) * (x + 4 * k + 3) := by rw [← hW]; clear hsW hi e h0; grind
      rw [h0, zmul] at g1
      have g2 : W = 4 * (k + 1) := by clear hW hsW hi e h0; grind
      rw [g2, e, one1] at hsW
      have hz := mul_ne four_ne hK
      generalize 4 * (k + 1) = z at *
      have h5 : (s - 1) * z = 0 := by rw [show (s - 1) * z = s * z - z by clear hsW; grind, hsW]; clear hW hi hsW; grind
      rcases mul_zero h5 with h | h
      · have : s = 1 := by clear hW hi hsW; grind
        rw [this]; clear hW hi hsW; grind
      · exact absurd h hz
    have hj := inv_mul hx1
    refine ⟨true, ⟨r, (x + 1) * inv (x - 1), on_t hj c2_def k_ne ?_⟩, ?_⟩
    · rw [hW, hr]
      have h1 := c1_def
      generalize k24 = k at *
      rw [show s * c1 * W = s * W * c1 by grind, hsW, show 4 * (k + 1) * x * c1 = 4 * (c1 * (k + 1)) * x by clear h1; grind, h1]
    · show x - 1 ≠ 0 ∧ x + 1 = (x + 1) * inv (x - 1) * (x - 1)
      refine ⟨hx1, ?_⟩
      generalize inv (x - 1) = j at *
      clear hW hsW hi hr
      grind
theorem out_turn (x : F) (f g : Nat → Bool) : out (out x f) g = out (out x g) f := by
  by_cases hx : x = 0
  · rw [hx, out_zero f, out_zero g, out_zero f]
  · obtain ⟨tw, B, hB⟩ := base_any hx
    rw [out_out hx hB, out_out hx hB]
    exact congrArg (fun P => uY tw (Pt.y P)) (mul_swap (cT_no tw) (top f 255) (top g 255) B)
end Edw
end Go.Proofs.Ytmfiabkhnoimhaa
