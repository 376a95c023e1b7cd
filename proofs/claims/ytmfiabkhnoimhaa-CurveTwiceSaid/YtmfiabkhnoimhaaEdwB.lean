/-
  THE LADDER'S ROUNDS ARE MULTIPLES of a point of an Edwards curve: c1 = (A - 2) / (A + 2) for the curve, its inverse for the twist. Every number is some point's on one of the two; so to take multiples one way round or the other is the same.
-/
import Derived.Test.YtmfiabkhnoimhaaEdwA
namespace Go.Proofs.Ytmfiabkhnoimhaa
open Go Go.RowKit Go.BigFrame
namespace Edw
open Cv
/- Squares. -/
def pw (x : F) (n : Nat) : F := fn (x.val ^ n)
theorem pw_val (x : F) (n : Nat) : (pw x n).val = x.val ^ n % E5.p := rfl
theorem pw_add (x : F) (m n : Nat) : pw x (m + n) = pw x m * pw x n := by
  apply ext
  rw [val_mul, pw_val, pw_val, pw_val, Nat.pow_add, Nat.mul_mod]
theorem pw_one (x : F) : pw x 1 = x := by
  apply ext
  rw [pw_val, Nat.pow_one, Nat.mod_eq_of_lt x.isLt]
theorem pw_mul (x y : F) (n : Nat) : pw (x * y) n = pw x n * pw y n := by
  apply ext
  rw [val_mul, pw_val, pw_val, pw_val, val_mul, ← Nat.pow_mod, Nat.mul_pow, Nat.mul_mod]
def h2 : Nat := 28948022309329048855892746252171976963317496166410141009864396001978282409974
def h4 : Nat := 14474011154664524427946373126085988481658748083205070504932198000989141204987
def h8 : Nat := 7237005577332262213973186563042994240829374041602535252466099000494570602494
theorem h2_p : h2 + h2 = E5.p - 1 := by decide +kernel
theorem h4_h2 : h4 + h4 = h2 := by decide +kernel
theorem h8_h4 : h8 + h8 = h4 + 1 := by decide +kernel
theorem fermat {x : F} (h : x ≠ 0) : pw x (E5.p - 1) = 1 := by
  apply ext
  rw [pw_val, one_val, fermat_p x.val ?_, one_p]
  rw [Nat.mod_eq_of_lt x.isLt]
  intro h0; exact h (ext (by rw [h0, zero_val]))
theorem half {x : F} (h : x ≠ 0) : pw x h2 = 1 ∨ pw x h2 = -1 := by
  have h1 : pw x h2 * pw x h2 = 1 := by rw [← pw_add, h2_p, fermat h]
  have : (pw x h2 - 1) * (pw x h2 + 1) = 0 := by grind
  rcases mul_zero this with h | h
  · left; grind
  · right; grind
def im : F := fn 19681161376707505956807079304988542015446066515923890162744021073123829784752
theorem im_sq : im * im = -1 := by
  apply ext
  decide +kernel
theorem root_of {x : F} (h : pw x h2 = 1) : ∃ r : F, r * r = x := by
  have h1 : pw x h4 * pw x h4 = 1 := by rw [← pw_add, h4_h2, h]
  have h3 : (pw x h4 - 1) * (pw x h4 + 1) = 0 := by grind
  have h5 : pw x h8 * pw x h8 = pw x h4 * x := by rw [← pw_add, h8_h4, pw_add, pw_one]
  rcases mul_zero h3 with h | h
  · exact ⟨pw x h8, by rw [h5]; grind⟩
  · refine ⟨pw x h8 * im, ?_⟩
    have := im_sq
    grind
def c1 : F := fn 20800338683988658368647408995589388737092878452977063003340006470870624536394
def c2 : F := fn 28692721048178265397853269683490922171210976843790175684556505508326675974058
theorem c1_def : c1 * (k24 + 1) = k24 := by apply ext; decide +kernel
theorem c2_def : c2 * k24 = k24 + 1 := by apply ext; decide +kernel
theorem c12 : c1 * c2 = 1 := by apply ext; decide +kernel
theorem K_ne : (k24 + 1 : F) ≠ 0 := fun h => by
  have := congrArg Fin.val h
  revert this; decide +kernel
theorem k_ne : (k24 : F) ≠ 0 := fun h => by
  have := congrArg Fin.val h
  revert this; decide +kernel
theorem pm_p (x : F) (e v : Nat) (he : e < 2 ^ 256) (h : Pratt.pm E5.p 256 x.val e 1 % E5.p = v) : (pw x e).val = v := by
  rw [pw_val, ← h, Pratt.pm_ok E5.p 256 x.val e 1 he, Nat.one_mul]
theorem half_c1 : pw c1 h2 = -1 := by
  apply ext
  exact pm_p c1 h2 _ (by decide +kernel) (by decide +kernel)
theorem half_c2 : pw c2 h2 = -1 := by
  apply ext
  exact pm_p c2 h2 _ (by decide +kernel) (by decide +kernel)
theorem mul0 (a : F) : a * 0 = 0 := by grind
theorem zmul (a : F) : 0 * a = 0 := by grind
theorem add0 (a : F) : a + 0 = a := by grind
theorem sub0 (a : F) : a - 0 = a := by grind
theorem one1 (a : F) : a * 1 = a := by grind
theorem no_of {a : F} (h : a = 1) (g : a = 0) : False := one_ne (h.symm.trans g)
theorem absurd_two {l r : F} (h : l = r) (hd : r - l = 2) : False := two_ne (hd.symm.trans (by rw [h]; grind))
theorem not_both {a : F} (h : a = -1) (g : a = 1) : False := absurd_two (h.symm.trans g) (by grind)
theorem no_root {c : F} (h : pw c h2 = -1) (hz : c ≠ 0) (r : F) : r * r ≠ c := by
  intro hr
  have hr0 : r ≠ 0 := fun h0 => hz (by rw [← hr, h0]; grind)
  have h1 : pw r h2 * pw r h2 = 1 := by rw [← pw_add, h2_p, fermat hr0]
  rw [← hr, pw_mul] at h
  exact not_both h h1
theorem c1_no : ∀ r : F, r * r ≠ c1 := no_root half_c1 (inv_ne c12)
theorem c2_no : ∀ r : F, r * r ≠ c2 := no_root half_c2 (inv_ne (b := c1) (by have := c12; grind))
theorem root_or {s : F} (h : s ≠ 0) : (∃ r : F, r * r = s) ∨ ∃ r : F, r * r = s * c1 := by
  rcases half h with h1 | h1
  · exact Or.inl (root_of h1)
  · refine Or.inr (root_of ?_)
    rw [pw_mul, h1, half_c1]; grind
/- How the pair (a, b) stands for a point by its y: on the curve (false), on the twist (true). -/
def Rep (tw : Bool) (a b y : F) : Prop := if tw then a - b ≠ 0 ∧ a + b = y * (a - b) else a + b ≠ 0 ∧ a - b = y * (a + b)
def cT (tw : Bool) : F := if tw then c2 else c1
theorem cT_no (tw : Bool) : ∀ r : F, r * r ≠ cT tw := by
  cases tw
  · exact c1_no
  · exact c2_no
abbrev PT (tw : Bool) := Pt (cT tw)
def sumT (tw : Bool) (P Q : PT tw) : PT tw := add (cT_no tw) P Q
def mulT (tw : Bool) (n : Nat) (P : PT tw) : PT tw := mul (cT_no tw) n P
/-- Doubling: y of the double. -/
theorem y_dbl {c : F} (hc : ∀ r : F, r * r ≠ c) (P : Pt c) : (add hc P P).y * (1 - 2 * c * P.y * P.y + c * P.y * P.y * P.y * P.y) = 2 * P.y * P.y - c * P.y * P.y * P.y * P.y - 1 ∧ 1 - 2 * c * P.y * P.y + c * P.y * P.y * P.y * P.y ≠ 0 := by
  have h := add_y hc P P
  have on := P.on
  have d := den_m hc P.on P.on
  unfold OnC at on
  generalize (add hc P P).y = Y at *
  generalize P.x = x at *
  generalize P.y = y at *
  have e1 : (1 - c * x * x * y * y) * (1 - c * y * y) = 1 - 2 * c * y * y + c * y * y * y * y := by grind
  refine ⟨?_, ?_⟩
  · have := congrArg (fun z => z * (1 - c * y * y)) h
    grind
  · rw [← e1]
    refine mul_ne d ?_
    intro h0
    by_cases hy : y = 0
    · exact no_of (a := 1 - c * y * y) (by rw [hy, mul0, sub0]) h0
    · have := inv_mul hy
      exact hc (inv y) (by grind)
theorem dbl_f {S k c y Y : F} (hK : c * (k + 1) = k) (hKn : k + 1 ≠ 0) (h1 : S ≠ 0) (hd : 1 - 2 * c * y * y + c * y * y * y * y ≠ 0)
    (hy : Y * (1 - 2 * c * y * y + c * y * y * y * y) = 2 * y * y - c * y * y * y * y - 1) :
    (S * S * (y * S * (y * S)) + (S * S - y * S * (y * S)) * (S * S + k * (S * S - y * S * (y * S))) ≠ 0) ∧
    S * S * (y * S * (y * S)) - (S * S - y * S * (y * S)) * (S * S + k * (S * S - y * S * (y * S))) = Y * (S * S * (y * S * (y * S)) + (S * S - y * S * (y * S)) * (S * S + k * (S * S - y * S * (y * S)))) := by
  have e : S * S * (y * S * (y * S)) + (S * S - y * S * (y * S)) * (S * S + k * (S * S - y * S * (y * S))) = S * S * (S * S) * (k + 1) * (1 - 2 * c * y * y + c * y * y * y * y) := by
    clear hy hd; grind
  have e2 : S * S * (y * S * (y * S)) - (S * S - y * S * (y * S)) * (S * S + k * (S * S - y * S * (y * S))) = S * S * (S * S) * (k + 1) * (2 * y * y - c * y * y * y * y - 1) := by
    clear hy hd e; grind
  refine ⟨?_, ?_⟩
  · rw [e]; exact mul_ne (mul_ne (mul_ne (mul_ne h1 h1) (mul_ne h1 h1)) hKn) hd
  · rw [e, e2, ← hy]
    clear e e2 hy
    grind
theorem dbl_t {S k c y Y : F} (hK : c * k = k + 1) (hkn : k ≠ 0) (h1 : S ≠ 0) (hd : 1 - 2 * c * y * y + c * y * y * y * y ≠ 0)
    (hy : Y * (1 - 2 * c * y * y + c * y * y * y * y) = 2 * y * y - c * y * y * y * y - 1) :
    (y * S * (y * S) * (S * S) - (y * S * (y * S) - S * S) * (y * S * (y * S) + k * (y * S * (y * S) - S * S)) ≠ 0) ∧
    y * S * (y * S) * (S * S) + (y * S * (y * S) - S * S) * (y * S * (y * S) + k * (y * S * (y * S) - S * S)) = Y * (y * S * (y * S) * (S * S) - (y * S * (y * S) - S * S) * (y * S * (y * S) + k * (y * S * (y * S) - S * S))) := by
  have e : y * S * (y * S) * (S * S) - (y * S * (y * S) - S * S) * (y * S * (y * S) + k * (y * S * (y * S) - S * S)) = S * S * (S * S) * (-k) * (1 - 2 * c * y * y + c * y * y * y * y) := by
    clear hy hd; grind
  have e2 : y * S * (y * S) * (S * S) + (y * S * (y * S) - S * S) * (y * S * (y * S) + k * (y * S * (y * S) - S * S)) = S * S * (S * S) * (-k) * (2 * y * y - c * y * y * y * y - 1) := by
    clear hy hd e; grind
  refine ⟨?_, ?_⟩
  · rw [e]; exact mul_ne (mul_ne (mul_ne (mul_ne h1 h1) (mul_ne h1 h1)) (fun h0 => hkn (by grind))) hd
  · rw [e, e2, ← hy]
    clear e e2 hy
    grind
theorem rep_dbl {tw : Bool} {x : F} {s : S4} {P : PT tw} (h : Rep tw s.a s.b P.y) : Rep tw (Cv.step x s).a (Cv.step x s).b (sumT tw P P).y := by
  obtain ⟨hy, hd⟩ := y_dbl (cT_no tw) P
  unfold sumT
  generalize (add (cT_no tw) P P).y = Y at *
  generalize P.y = y at *
  unfold Cv.step
  dsimp only
  obtain ⟨a, b, c, d⟩ := s
  dsimp only at *
  cases tw
  · obtain ⟨h1, h2⟩ := (h : a + b ≠ 0 ∧ a - b = y * (a + b))
    have := dbl_f c1_def K_ne h1 hd hy
    rw [← h2] at this
    exact this
  · obtain ⟨h1, h2⟩ := (h : a - b ≠ 0 ∧ a + b = y * (a - b))
    have := dbl_t c2_def k_ne h1 hd hy
    rw [← h2] at this
    exact this
/- The sum, of what is known of the difference. -/
def neg {c : F} (P : Pt c) : Pt c := ⟨-P.x, P.y, by have := P.on; unfold OnC at *; grind⟩
theorem add_neg {c : F} (hc : ∀ r : F, r * r ≠ c) (P : Pt c) : add hc P (neg P) = O := by
  have on := P.on
  refine Pt.same (cancel (den_p hc P.on (neg P).on) ?_) (cancel (den_m hc P.on (neg P).on) ?_)
  · rw [add_x]; unfold neg O; dsimp only; grind
  · rw [add_y]; unfold neg O OnC at *; dsimp only; grind
theorem y_neg {c : F} (hc : ∀ r : F, r * r ≠ c) (P Q : Pt c) : (add hc P (neg Q)).y * (1 + c * P.x * Q.x * P.y * Q.y) = P.y * Q.y + P.x * Q.x := by
  have := add_y hc P (neg Q)
  unfold neg at *
  dsimp only at *
  grind
theorem both {c x1 y1 x2 y2 : F} (h1 : OnC c x1 y1) (h2 : OnC c x2 y2) :
    ((1 + y1 * y2) * (1 + y1 * y2) - (c * x1 * x2 * y1 * y2 + x1 * x2) * (c * x1 * x2 * y1 * y2 + x1 * x2)) * ((y1 - y2) * (y1 - y2))
    = ((1 - y1 * y2) * (1 - y1 * y2) - (c * x1 * x2 * y1 * y2 - x1 * x2) * (c * x1 * x2 * y1 * y2 - x1 * x2)) * ((y1 + y2) * (y1 + y2)) := by
  unfold OnC at *
  grind
theorem both2 {s m t u X y1 y2 : F} (ht : (1 - t) ≠ 0) (hu : 1 + t ≠ 0) (hs : s * (1 - t) = u - X) (hm : m * (1 + t) = u + X)
    (h : ((1 + u) * (1 + u) - (t + X) * (t + X)) * ((y1 - y2) * (y1 - y2)) = ((1 - u) * (1 - u) - (t - X) * (t - X)) * ((y1 + y2) * (y1 + y2))) :
    (1 + s) * (1 + m) * ((y1 - y2) * (y1 - y2)) = (1 - s) * (1 - m) * ((y1 + y2) * (y1 + y2)) := by
  refine cancel (mul_ne ht hu) ?_
  have e1 : (1 + s) * (1 - t) = 1 - t + u - X := by grind
  have e2 : (1 + m) * (1 + t) = 1 + t + u + X := by grind
  have e3 : (1 - s) * (1 - t) = 1 - t - u + X := by grind
  have e4 : (1 - m) * (1 + t) = 1 + t - u - X := by grind
  have l : (1 + s) * (1 + m) * ((y1 - y2) * (y1 - y2)) * ((1 - t) * (1 + t)) = ((1 + s) * (1 - t)) * ((1 + m) * (1 + t)) * ((y1 - y2) * (y1 - y2)) := by clear h e1 e2 e3 e4 hs hm; grind
  have r : (1 - s) * (1 - m) * ((y1 + y2) * (y1 + y2)) * ((1 - t) * (1 + t)) = ((1 - s) * (1 - t)) * ((1 - m) * (1 + t)) * ((y1 + y2) * (y1 + y2)) := by clear h e1 e2 e3 e4 hs hm l; grind
  rw [l, r, e1, e2, e3, e4]
  clear l r e1 e2 e3 e4 hs hm
  grind
/-- y of the sum and of the difference. -/
theorem y_both {c : F} (hc : ∀ r : F, r * r ≠ c) (P Q : Pt c) :
    (1 + (add hc P Q).y) * (1 + (add hc P (neg Q)).y) * ((P.y - Q.y) * (P.y - Q.y)) = (1 - (add hc P Q).y) * (1 - (add hc P (neg Q)).y) * ((P.y + Q.y) * (P.y + Q.y)) :=
  both2 (t := c * P.x * Q.x * P.y * Q.y) (u := P.y * Q.y) (X := P.x * Q.x) (den_m hc P.on Q.on) (den_p hc P.on Q.on) (add_y hc P Q) (y_neg hc P Q) (both P.on Q.on)
/-- Where both have no y, the difference's y is 1 or -1. -/
theorem y_none {c : F} (hc : ∀ r : F, r * r ≠ c) (P Q : Pt c) (h1 : P.y = 0) (h2 : Q.y = 0) : (add hc P (neg Q)).y * (add hc P (neg Q)).y = 1 := by
  have h := y_neg hc P Q
  have p := P.on
  have q := Q.on
  unfold OnC at *
  rw [h1] at p
  rw [h2] at q
  rw [h1, h2] at h
  generalize (add hc P (neg Q)).y = Y at *
  generalize P.x = x1 at *
  generalize Q.x = x2 at *
  simp only [mul0, add0] at p q h
  have e1 : x1 * x1 = 1 := p
  have e2 : x2 * x2 = 1 := q
  have e3 : Y = x1 * x2 := by rw [one1] at h; rw [h]; clear h p q e1 e2; grind
  rw [e3, show x1 * x2 * (x1 * x2) = x1 * x1 * (x2 * x2) by clear e1 e2 e3 p q h; grind, e1, e2]
  exact one1 1
theorem sum_f {M x B y1 y2 Y : F} (hM : M ≠ 0) (hB : x * (1 - B) = 1 + B) (hx : x ≠ 0) (hb : (1 + Y) * (1 + B) * ((y1 - y2) * (y1 - y2)) = (1 - Y) * (1 - B) * ((y1 + y2) * (y1 + y2)))
    (hn : ¬ (y1 = 0 ∧ y2 = 0)) :
    M * ((y1 + y2) * (y1 + y2)) + x * (M * ((y1 - y2) * (y1 - y2))) ≠ 0 ∧
    M * ((y1 + y2) * (y1 + y2)) - x * (M * ((y1 - y2) * (y1 - y2))) = Y * (M * ((y1 + y2) * (y1 + y2)) + x * (M * ((y1 - y2) * (y1 - y2)))) := by
  have hB1 : 1 - B ≠ 0 := fun h0 => by
    have e : B = 1 := by clear hb hB; grind
    rw [e] at hB
    exact absurd_two hB (by clear hb hB; grind)
  have hB2 : 1 + B ≠ 0 := fun h0 => by
    rw [h0] at hB
    rcases mul_zero hB with h | h
    · exact hx h
    · exact hB1 h
  refine ⟨?_, ?_⟩
  · intro h0
    have e1 : M * ((y1 + y2) * (y1 + y2) + x * ((y1 - y2) * (y1 - y2))) = 0 := by clear hB hb; grind
    rcases mul_zero e1 with h | e2
    · exact hM h
    have e3 : (1 - B) * ((y1 + y2) * (y1 + y2)) + (1 + B) * ((y1 - y2) * (y1 - y2)) = 0 := by
      rw [← hB]; clear hb e1 h0; grind
    generalize hS : (1 - B) * ((y1 + y2) * (y1 + y2)) = S at *
    generalize hD : (1 + B) * ((y1 - y2) * (y1 - y2)) = D at *
    have e4 : (1 + Y) * D = (1 - Y) * S := by rw [← hS, ← hD]; clear e1 e2 e3 h0; grind
    have e5 : 2 * S = 0 := by clear e1 e2 h0 hb hS hD; grind
    have hS0 : S = 0 := by
      rcases mul_zero e5 with h | h
      · exact absurd h two_ne
      · exact h
    have hD0 : D = 0 := by clear e1 e2 h0 hb hS hD; grind
    rw [hS0] at hS
    rw [hD0] at hD
    have f1 : y1 + y2 = 0 := by
      rcases mul_zero hS with h | h
      · exact absurd h hB1
      · rcases mul_zero h with h | h <;> exact h
    have f2 : y1 - y2 = 0 := by
      rcases mul_zero hD with h | h
      · exact absurd h hB2
      · rcases mul_zero h with h | h <;> exact h
    have g1 : 2 * y1 = 0 := by clear hS hD hb e1 e2 e3 e4 e5 h0; grind
    have g2 : 2 * y2 = 0 := by clear hS hD hb e1 e2 e3 e4 e5 h0; grind
    refine hn ⟨?_, ?_⟩
    · rcases mul_zero g1 with h | h
      · exact absurd h two_ne
      · exact h
    · rcases mul_zero g2 with h | h
      · exact absurd h two_ne
      · exact h
  · refine cancel hB1 ?_
    generalize (y1 + y2) * (y1 + y2) = S at *
    generalize (y1 - y2) * (y1 - y2) = D at *
    have h1 : (M * S - x * (M * D)) * (1 - B) = M * S * (1 - B) - M * D * (1 + B) := by rw [← hB]; clear hb; grind
    have h3 : Y * (M * S + x * (M * D)) * (1 - B) = Y * (M * S * (1 - B) + M * D * (1 + B)) := by rw [← hB]; clear hb h1; grind
    rw [h1, h3]
    clear h1 h3 hB
    grind
end Edw
end Go.Proofs.Ytmfiabkhnoimhaa
