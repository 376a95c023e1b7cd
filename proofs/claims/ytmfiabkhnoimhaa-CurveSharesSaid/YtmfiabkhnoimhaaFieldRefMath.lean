/-
  THE DOCUMENT'S ANSWER FOR field IN PLAIN MATHEMATICS: digits of any size, what goes over, what is owed; after some rounds of carry all digits are bytes and the number is the same modulo p.
-/
namespace Go.Proofs.Ytmfiabkhnoimhaa
namespace RefF
/-- The number of digits of any size. -/
def sumD (d : Nat → Int) : Nat → Int
  | 0 => 0
  | n + 1 => sumD d n + d n * 256 ^ n
/-- What goes over to digit i. -/
def ov (d : Nat → Int) : Nat → Int
  | 0 => 0
  | i + 1 => (d i + ov d i) / 256
def dig (d : Nat → Int) (i : Nat) : Int := d i + ov d i - ov d (i + 1) * 256
theorem dig_mod (d : Nat → Int) (i : Nat) : dig d i = (d i + ov d i) % 256 := by
  unfold dig
  rw [show ov d (i + 1) = (d i + ov d i) / 256 from rfl]
  omega
theorem dig_range (d : Nat → Int) (i : Nat) : 0 ≤ dig d i ∧ dig d i ≤ 255 := by
  rw [dig_mod]; omega
theorem pass_sum (d : Nat → Int) (n : Nat) : sumD (dig d) n + ov d n * 256 ^ n = sumD d n := by
  induction n with
  | zero => simp [sumD, ov]
  | succ n ih =>
    simp only [sumD]
    rw [← ih, Int.pow_succ]
    unfold dig
    grind
theorem sumD_range (d : Nat → Int) (h : ∀ i, 0 ≤ d i ∧ d i ≤ 255) (n : Nat) : 0 ≤ sumD d n ∧ sumD d n < 256 ^ n := by
  induction n with
  | zero => simp [sumD]
  | succ n ih =>
    simp only [sumD]
    have hp : (0 : Int) < 256 ^ n := Int.pow_pos (by omega)
    have h1 := Int.mul_le_mul_of_nonneg_right (h n).2 (Int.le_of_lt hp)
    have h2 := Int.mul_nonneg (h n).1 (Int.le_of_lt hp)
    rw [Int.pow_succ]
    omega
theorem ov_div (d : Nat → Int) (n : Nat) : ov d n = sumD d n / 256 ^ n ∧ sumD (dig d) n = sumD d n % 256 ^ n := by
  have h1 := pass_sum d n
  have h2 := sumD_range (dig d) (dig_range d) n
  have hp : (0 : Int) < 256 ^ n := Int.pow_pos (by omega)
  generalize (256 : Int) ^ n = m at *
  have e : sumD d n = sumD (dig d) n + m * ov d n := by rw [← h1, Int.mul_comm]
  constructor
  · rw [e, Int.add_mul_ediv_left _ _ (by omega), Int.ediv_eq_zero_of_lt h2.1 h2.2]; omega
  · rw [e, Int.add_mul_emod_self_left, Int.emod_eq_of_lt h2.1 h2.2]
/-- One round of carry. -/
def rnd (d : Nat → Int) (i : Nat) : Int := dig d i + if i = 0 then 38 * ov d 32 else 0
theorem sumD_add0 (d : Nat → Int) (c : Int) (n : Nat) : sumD (fun i => d i + if i = 0 then c else 0) (n + 1) = sumD d (n + 1) + c := by
  induction n with
  | zero => simp [sumD]
  | succ n ih =>
    rw [sumD, ih]
    conv => rhs; rw [sumD]
    simp
    omega
def nx (N : Int) : Int := N % 2 ^ 256 + 38 * (N / 2 ^ 256)
theorem rnd_sum (d : Nat → Int) : sumD (rnd d) 32 = nx (sumD d 32) := by
  have h := sumD_add0 (dig d) (38 * ov d 32) 31
  have h2 := ov_div d 32
  rw [show (31 + 1) = 32 from rfl] at h
  unfold rnd
  rw [h, h2.1, h2.2]
  rfl
def rnds : Nat → (Nat → Int) → (Nat → Int)
  | 0, d => d
  | k + 1, d => rnd (rnds k d)
theorem nx_mod (N : Int) (p : Int) (hp : p = 2 ^ 255 - 19) : nx N % p = N % p := by
  subst hp
  unfold nx
  omega
theorem carry_end (d : Nat → Int) (h0 : 0 ≤ sumD d 32) (h1 : sumD d 32 < 2 ^ 290) :
    (∀ i, 0 ≤ rnds 6 d i ∧ rnds 6 d i ≤ 255) ∧ 0 ≤ sumD (rnds 6 d) 32 ∧ sumD (rnds 6 d) 32 < 2 ^ 256 ∧ sumD (rnds 6 d) 32 % (2 ^ 255 - 19) = sumD d 32 % (2 ^ 255 - 19) := by
  have s : ∀ k, sumD (rnds (k + 1) d) 32 = nx (sumD (rnds k d) 32) := fun k => rnd_sum _
  have s0 : sumD (rnds 0 d) 32 = sumD d 32 := rfl
  have s1 := s 0; have s2 := s 1; have s3 := s 2; have s4 := s 3; have s5 := s 4; have s6 := s 5
  have m1 := nx_mod (sumD (rnds 0 d) 32) _ rfl
  have m2 := nx_mod (sumD (rnds 1 d) 32) _ rfl
  have m3 := nx_mod (sumD (rnds 2 d) 32) _ rfl
  have m4 := nx_mod (sumD (rnds 3 d) 32) _ rfl
  have m5 := nx_mod (sumD (rnds 4 d) 32) _ rfl
  have m6 := nx_mod (sumD (rnds 5 d) 32) _ rfl
  have b1 : 0 ≤ sumD (rnds 1 d) 32 ∧ sumD (rnds 1 d) 32 < 2 ^ 256 + 2 ^ 41 := by rw [s1, s0]; unfold nx; omega
  have b2 : 0 ≤ sumD (rnds 2 d) 32 ∧ sumD (rnds 2 d) 32 < 2 ^ 256 := by rw [s2]; unfold nx; omega
  have b3 : 0 ≤ sumD (rnds 3 d) 32 ∧ sumD (rnds 3 d) 32 < 2 ^ 256 := by rw [s3]; unfold nx; omega
  have b4 : 0 ≤ sumD (rnds 4 d) 32 ∧ sumD (rnds 4 d) 32 < 2 ^ 256 := by rw [s4]; unfold nx; omega
  have b5 : 0 ≤ sumD (rnds 5 d) 32 ∧ sumD (rnds 5 d) 32 < 2 ^ 256 := by rw [s5]; unfold nx; omega
  have b6 : 0 ≤ sumD (rnds 6 d) 32 ∧ sumD (rnds 6 d) 32 < 2 ^ 256 := by rw [s6]; unfold nx; omega
  refine ⟨fun i => ?_, b6.1, b6.2, ?_⟩
  · have o5 : ov (rnds 5 d) 32 = 0 := by
      rw [(ov_div (rnds 5 d) 32).1]
      exact Int.ediv_eq_zero_of_lt b5.1 (by have : (256 : Int) ^ 32 = 2 ^ 256 := by decide
                                            rw [this]; exact b5.2)
    have := dig_range (rnds 5 d) i
    show 0 ≤ rnd (rnds 5 d) i ∧ rnd (rnds 5 d) i ≤ 255
    unfold rnd
    rw [o5]
    split <;> omega
  · rw [s6, m6, s5, m5, s4, m4, s3, m3, s2, m2, s1, m1, s0]

theorem sumD_congr (d e : Nat → Int) (n : Nat) (h : ∀ i, i < n → d i = e i) : sumD d n = sumD e n := by
  induction n with
  | zero => rfl
  | succ n ih => simp only [sumD]; rw [ih (fun i hi => h i (by omega)), h n (by omega)]
/-- The highest digit that differs decides. -/
theorem lex_lt (d e : Nat → Int) (hd : ∀ i, 0 ≤ d i ∧ d i ≤ 255) (he : ∀ i, 0 ≤ e i ∧ e i ≤ 255) (i : Nat) (hlt : d i < e i) : ∀ n, i < n → (∀ j, i < j → j < n → d j = e j) → sumD d n < sumD e n := by
  intro n
  induction n with
  | zero => intro h; omega
  | succ n ih =>
    intro hi heq
    simp only [sumD]
    by_cases hin : i = n
    · subst hin
      have h1 := sumD_range d hd i
      have h2 := sumD_range e he i
      have hp : (0 : Int) < 256 ^ i := Int.pow_pos (by omega)
      have h3 : (d i + 1) * 256 ^ i ≤ e i * 256 ^ i := Int.mul_le_mul_of_nonneg_right (by omega) (Int.le_of_lt hp)
      rw [Int.add_mul, Int.one_mul] at h3
      omega
    · have h1 := ih (by omega) (fun j h1 h2 => heq j h1 (by omega))
      rw [heq n (by omega) (by omega)]
      omega
/-- What is owed at digit i. -/
def bw (d e : Nat → Int) : Nat → Int
  | 0 => 0
  | i + 1 => if d i - e i - bw d e i < 0 then 1 else 0
def less (d e : Nat → Int) (i : Nat) : Int := d i - e i - bw d e i + 256 * bw d e (i + 1)
theorem bw_range (d e : Nat → Int) (i : Nat) : 0 ≤ bw d e i ∧ bw d e i ≤ 1 := by
  cases i with
  | zero => simp [bw]
  | succ i => unfold bw; split <;> omega
theorem less_range (d e : Nat → Int) (hd : ∀ i, 0 ≤ d i ∧ d i ≤ 255) (he : ∀ i, 0 ≤ e i ∧ e i ≤ 255) (i : Nat) : 0 ≤ less d e i ∧ less d e i ≤ 255 := by
  unfold less
  have h1 := bw_range d e i
  have h2 := hd i
  have h3 := he i
  rw [show bw d e (i + 1) = if d i - e i - bw d e i < 0 then 1 else 0 from rfl]
  split <;> omega
theorem less_sum (d e : Nat → Int) (n : Nat) : sumD (less d e) n = sumD d n - sumD e n + bw d e n * 256 ^ n := by
  induction n with
  | zero => simp [sumD, bw]
  | succ n ih =>
    simp only [sumD]
    rw [ih, Int.pow_succ]
    unfold less
    grind
theorem less_end (d e : Nat → Int) (hd : ∀ i, 0 ≤ d i ∧ d i ≤ 255) (he : ∀ i, 0 ≤ e i ∧ e i ≤ 255) (h : sumD e 32 ≤ sumD d 32) : sumD (less d e) 32 = sumD d 32 - sumD e 32 := by
  have h1 := less_sum d e 32
  have h2 := sumD_range (less d e) (less_range d e hd he) 32
  have h3 := bw_range d e 32
  have h4 := sumD_range d hd 32
  have h5 := sumD_range e he 32
  have hp : (256 : Int) ^ 32 = 2 ^ 256 := by decide
  rw [hp] at h1 h2 h4 h5
  have : bw d e 32 = 0 ∨ bw d e 32 = 1 := by omega
  rcases this with h6 | h6 <;> rw [h6] at h1 <;> omega
/-- The digits of p. -/
def pD (i : Nat) : Int := if i = 0 then 237 else if i = 31 then 127 else 255
theorem pD_range (i : Nat) : 0 ≤ pD i ∧ pD i ≤ 255 := by unfold pD; split <;> (try split) <;> omega
theorem pD_sum : sumD pD 32 = 2 ^ 255 - 19 := by decide +kernel
theorem pow_cast (n : Nat) : ((256 ^ n : Nat) : Int) = (256 : Int) ^ n := Int.natCast_pow 256 n
/-- A digit of a number. -/
theorem digit_at (d : Nat → Int) (hd : ∀ i, 0 ≤ d i ∧ d i ≤ 255) (i : Nat) : ∀ n, i < n → sumD d n / 256 ^ i % 256 = d i := by
  intro n
  induction n with
  | zero => intro h; omega
  | succ n ih =>
    intro hi
    simp only [sumD]
    by_cases h : i = n
    · subst h
      have h1 := sumD_range d hd i
      have hp : (0 : Int) < 256 ^ i := Int.pow_pos (by omega)
      rw [Int.add_mul_ediv_right _ _ (by omega), Int.ediv_eq_zero_of_lt h1.1 h1.2, Int.zero_add]
      have := hd i
      omega
    · have h1 := ih (by omega)
      have hp : (0 : Int) < 256 ^ i := Int.pow_pos (by omega)
      obtain ⟨k, hk⟩ : ∃ k, n = i + 1 + k := ⟨n - i - 1, by omega⟩
      have e : d n * 256 ^ n = (d n * 256 ^ k * 256) * 256 ^ i := by
        rw [hk, Int.pow_add, Int.pow_succ]
        grind
      rw [e, Int.add_mul_ediv_right _ _ (by omega), Int.add_mul_emod_self_right, h1]
theorem digit_nat (d : Nat → Int) (hd : ∀ i, 0 ≤ d i ∧ d i ≤ 255) (m : Nat) (hm : sumD d 32 = (m : Int)) (i : Nat) (hi : i < 32) : d i = ((m / 256 ^ i % 256 : Nat) : Int) := by
  rw [← digit_at d hd i 32 hi, hm, ← pow_cast, ← Int.natCast_ediv, show (256 : Int) = ((256 : Nat) : Int) from rfl, ← Int.natCast_emod]
/-- The digits of a number. -/
def digs (m : Nat) (i : Nat) : Int := ((m / 256 ^ i % 256 : Nat) : Int)
theorem digs_range (m i : Nat) : 0 ≤ digs m i ∧ digs m i ≤ 255 := by unfold digs; omega
theorem sum_digs (m n : Nat) : sumD (digs m) n = ((m % 256 ^ n : Nat) : Int) := by
  induction n with
  | zero => simp [sumD, Nat.mod_one]
  | succ n ih =>
    simp only [sumD]
    rw [ih]
    unfold digs
    have h : m % 256 ^ (n + 1) = m % 256 ^ n + 256 ^ n * (m / 256 ^ n % 256) := by rw [Nat.pow_succ, Nat.mod_mul]
    rw [h, Int.natCast_add, Int.natCast_mul, pow_cast, Int.mul_comm (256 ^ n)]
/-- Less p, as long as it isn't below it: at the head of round k. -/
structure At (N : Nat) (k : Nat) (d : Nat → Int) : Prop where
  range : ∀ i, 0 ≤ d i ∧ d i ≤ 255
  sum : sumD d 32 = (N : Int) - k * (2 ^ 255 - 19)
theorem At.less {N k : Nat} {d : Nat → Int} (h : At N k d) (hge : ¬ sumD d 32 < sumD pD 32) : At N (k + 1) (less d pD) := by
  refine ⟨less_range d pD h.range pD_range, ?_⟩
  rw [less_end d pD h.range pD_range (by omega), h.sum, pD_sum, show ((k + 1 : Nat) : Int) = (k : Int) + 1 from rfl, Int.add_mul]
  omega
theorem At.done {N k : Nat} {d : Nat → Int} (h : At N k d) (hlt : sumD d 32 < sumD pD 32) (m : Nat) (hm : m = N % (2 ^ 255 - 19)) : sumD d 32 = (m : Int) := by
  have h1 := h.sum
  have h2 := sumD_range d h.range 32
  rw [pD_sum] at hlt
  subst hm
  have h3 : (N : Int) = sumD d 32 + k * (2 ^ 255 - 19) := by omega
  have h4 : (N : Int) % (2 ^ 255 - 19) = sumD d 32 := by
    rw [h3]
    exact (Int.add_mul_emod_self_right _ _ _).trans (Int.emod_eq_of_lt h2.1 hlt)
  omega
theorem At.three {N : Nat} {d : Nat → Int} (hN : N < 2 ^ 256) (h : At N 3 d) : False := by
  have h1 := h.sum
  have h2 := sumD_range d h.range 32
  omega
theorem carry_at (d : Nat → Int) (N : Nat) (h : sumD d 32 = (N : Int)) (h1 : N < 2 ^ 290) : ∃ M : Nat, M < 2 ^ 256 ∧ M % (2 ^ 255 - 19) = N % (2 ^ 255 - 19) ∧ At M 0 (rnds 6 d) := by
  obtain ⟨a, b, c, e⟩ := carry_end d (by omega) (by omega)
  refine ⟨(sumD (rnds 6 d) 32).toNat, by omega, by omega, ⟨a, ?_⟩⟩
  rw [Int.toNat_of_nonneg b]; simp
/-- The highest digit that differs from p's decides. -/
theorem cmp_lt (d : Nat → Int) (hd : ∀ i, 0 ≤ d i ∧ d i ≤ 255) (i : Nat) (hi : i < 32) (he : ∀ j, i < j → j < 32 → d j = pD j) (hne : d i ≠ pD i) : (sumD d 32 < sumD pD 32) ↔ d i < pD i := by
  constructor
  · intro h
    by_cases hlt : d i < pD i
    · exact hlt
    · have := lex_lt pD d pD_range hd i (by omega) 32 hi (fun j h1 h2 => (he j h1 h2).symm)
      omega
  · intro h
    exact lex_lt d pD hd pD_range i h 32 hi he
theorem cmp_eq (d : Nat → Int) (he : ∀ j, j < 32 → d j = pD j) : ¬ sumD d 32 < sumD pD 32 := by
  rw [sumD_congr d pD 32 he]; omega
theorem sumD_add (d e : Nat → Int) (n : Nat) : sumD (fun i => d i + e i) n = sumD d n + sumD e n := by
  induction n with
  | zero => rfl
  | succ n ih => simp only [sumD]; rw [ih, Int.add_mul]; omega
theorem sumD_scale (c : Int) (d : Nat → Int) (n : Nat) : sumD (fun i => c * d i) n = c * sumD d n := by
  induction n with
  | zero => simp [sumD]
  | succ n ih => simp only [sumD]; rw [ih, Int.mul_add, Int.mul_assoc]
theorem sumD_sub (d e : Nat → Int) (n : Nat) : sumD (fun i => d i - e i) n = sumD d n - sumD e n := by
  induction n with
  | zero => rfl
  | succ n ih => simp only [sumD]; rw [ih, Int.sub_mul]; omega
theorem sumD_shift (d : Nat → Int) (m n : Nat) : sumD d (m + n) = sumD d m + 256 ^ m * sumD (fun i => d (i + m)) n := by
  induction n with
  | zero => simp [sumD]
  | succ n ih =>
    rw [show m + (n + 1) = (m + n) + 1 from rfl]
    simp only [sumD]
    rw [ih, Int.mul_add, Int.pow_add, Nat.add_comm n m, Int.mul_left_comm (d (m + n))]
    omega
theorem sumD_le (d : Nat → Int) (C : Int) (hC : 0 ≤ C) (h : ∀ i, 0 ≤ d i ∧ d i ≤ C) (n : Nat) : 0 ≤ sumD d n ∧ sumD d n ≤ C * 256 ^ n := by
  induction n with
  | zero => simp [sumD]; exact hC
  | succ n ih =>
    simp only [sumD]
    have hp : (0 : Int) < 256 ^ n := Int.pow_pos (by omega)
    have h1 := Int.mul_le_mul_of_nonneg_right (h n).2 (Int.le_of_lt hp)
    have h2 := Int.mul_nonneg (h n).1 (Int.le_of_lt hp)
    have h3 := Int.mul_nonneg hC (Int.le_of_lt hp)
    rw [Int.pow_succ, ← Int.mul_assoc]
    omega
/-- One row of a product: k digits of y, times x's digit i. -/
def rowTo (x y P : Nat → Int) (i k j : Nat) : Int := P j + if i ≤ j ∧ j < i + k then x i * y (j - i) else 0
theorem rowTo_zero (x y P : Nat → Int) (i j : Nat) : rowTo x y P i 0 j = P j := by
  unfold rowTo; rw [if_neg (by omega)]; omega
theorem rowTo_succ (x y P : Nat → Int) (i k j : Nat) : rowTo x y P i (k + 1) j = if j = i + k then rowTo x y P i k j + x i * y k else rowTo x y P i k j := by
  unfold rowTo
  by_cases h : j = i + k
  · subst h
    rw [if_pos (by omega), if_pos rfl, if_neg (by omega), show i + k - i = k by omega]; omega
  · rw [if_neg h]
    by_cases h2 : i ≤ j ∧ j < i + k
    · rw [if_pos h2, if_pos (by omega)]
    · rw [if_neg h2, if_neg (by omega)]
theorem sumD_point (d : Nat → Int) (a : Nat) (c : Int) (n : Nat) (h : a < n) : sumD (fun j => if j = a then d j + c else d j) n = sumD d n + c * 256 ^ a := by
  induction n with
  | zero => omega
  | succ n ih =>
    simp only [sumD]
    by_cases ha : a = n
    · subst ha
      rw [if_pos rfl, sumD_congr _ d a (fun i hi => if_neg (by omega)), Int.add_mul]; omega
    · rw [ih (by omega), if_neg (by omega)]; omega
theorem rowTo_sum (x y P : Nat → Int) (i k n : Nat) (h : i + k ≤ n) : sumD (rowTo x y P i k) n = sumD P n + x i * 256 ^ i * sumD y k := by
  induction k with
  | zero => rw [sumD_congr _ P n (fun j _ => rowTo_zero x y P i j)]; simp [sumD]
  | succ k ih =>
    rw [sumD_congr _ _ n (fun j _ => rowTo_succ x y P i k j), sumD_point _ _ _ _ (by omega), ih (by omega)]
    simp only [sumD]
    rw [Int.pow_add]
    grind
def prodTo (x y : Nat → Int) : Nat → Nat → Int
  | 0, _ => 0
  | i + 1, j => rowTo x y (prodTo x y i) i 32 j
theorem sumD_zero (n : Nat) : sumD (fun _ => 0) n = 0 := by
  induction n with
  | zero => rfl
  | succ n ih => simp only [sumD]; rw [ih]; simp
theorem prodTo_sum (x y : Nat → Int) (i : Nat) (h : i ≤ 32) : sumD (prodTo x y i) 64 = sumD x i * sumD y 32 := by
  induction i with
  | zero => show sumD (fun _ => 0) 64 = _; rw [sumD_zero]; simp [sumD]
  | succ i ih =>
    show sumD (rowTo x y (prodTo x y i) i 32) 64 = _
    rw [rowTo_sum _ _ _ _ _ _ (by omega), ih (by omega)]
    simp only [sumD]
    rw [Int.add_mul]
theorem mul_range {a b : Int} (ha : 0 ≤ a ∧ a ≤ 255) (hb : 0 ≤ b ∧ b ≤ 255) : 0 ≤ a * b ∧ a * b ≤ 65025 := by
  have h1 := Int.mul_nonneg ha.1 hb.1
  have h2 := Int.mul_le_mul ha.2 hb.2 hb.1 (by omega : (0 : Int) ≤ 255)
  omega
theorem rowTo_range {x y P : Nat → Int} (hx : ∀ i, 0 ≤ x i ∧ x i ≤ 255) (hy : ∀ i, 0 ≤ y i ∧ y i ≤ 255) {C : Int} (h : ∀ j, 0 ≤ P j ∧ P j ≤ C) (i k j : Nat) : 0 ≤ rowTo x y P i k j ∧ rowTo x y P i k j ≤ C + 65025 := by
  have h1 := h j
  have h2 := mul_range (hx i) (hy (j - i))
  unfold rowTo
  split <;> omega
theorem prodTo_range {x y : Nat → Int} (hx : ∀ i, 0 ≤ x i ∧ x i ≤ 255) (hy : ∀ i, 0 ≤ y i ∧ y i ≤ 255) (i j : Nat) : 0 ≤ prodTo x y i j ∧ prodTo x y i j ≤ i * 65025 := by
  induction i generalizing j with
  | zero => simp [prodTo]
  | succ i ih =>
    have := rowTo_range hx hy ih i 32 j
    show 0 ≤ rowTo x y (prodTo x y i) i 32 j ∧ rowTo x y (prodTo x y i) i 32 j ≤ _
    omega
/-- The product, what is beyond 2^256 as 38. -/
def prodF (x y : Nat → Int) (i : Nat) : Int := prodTo x y 32 i + 38 * prodTo x y 32 (i + 32)
theorem prodF_range {x y : Nat → Int} (hx : ∀ i, 0 ≤ x i ∧ x i ≤ 255) (hy : ∀ i, 0 ≤ y i ∧ y i ≤ 255) (i : Nat) : 0 ≤ prodF x y i ∧ prodF x y i ≤ 81151200 := by
  have h1 := prodTo_range hx hy 32 i
  have h2 := prodTo_range hx hy 32 (i + 32)
  unfold prodF
  omega
theorem prodF_sum (x y : Nat → Int) : sumD (prodF x y) 32 % (2 ^ 255 - 19) = sumD x 32 * sumD y 32 % (2 ^ 255 - 19) := by
  have h1 := prodTo_sum x y 32 (by omega)
  have h2 := sumD_shift (prodTo x y 32) 32 32
  have h3 : sumD (prodF x y) 32 = sumD (prodTo x y 32) 32 + 38 * sumD (fun i => prodTo x y 32 (i + 32)) 32 := by
    unfold prodF
    rw [sumD_add, sumD_scale]
  rw [show 32 + 32 = 64 from rfl, h1] at h2
  rw [h3, h2]
  generalize sumD (prodTo x y 32) 32 = A
  generalize sumD (fun i => prodTo x y 32 (i + 32)) 32 = B
  have : (256 : Int) ^ 32 = 2 ^ 256 := by decide
  rw [this]
  omega
theorem prodF_nat {x y : Nat → Int} (hx : ∀ i, 0 ≤ x i ∧ x i ≤ 255) (hy : ∀ i, 0 ≤ y i ∧ y i ≤ 255) {a b : Nat} (ha : sumD x 32 = (a : Int)) (hb : sumD y 32 = (b : Int)) :
    ∃ N : Nat, sumD (prodF x y) 32 = (N : Int) ∧ N < 2 ^ 290 ∧ N % (2 ^ 255 - 19) = a * b % (2 ^ 255 - 19) := by
  have h1 := sumD_le (prodF x y) 81151200 (by omega) (prodF_range hx hy) 32
  have h2 := prodF_sum x y
  rw [ha, hb, ← Int.natCast_mul] at h2
  have : (256 : Int) ^ 32 = 2 ^ 256 := by decide
  rw [this] at h1
  refine ⟨(sumD (prodF x y) 32).toNat, by omega, by omega, by omega⟩
/-- The sum, and the difference. -/
theorem add_nat {x y : Nat → Int} (hx : ∀ i, 0 ≤ x i ∧ x i ≤ 255) (hy : ∀ i, 0 ≤ y i ∧ y i ≤ 255) {a b : Nat} (ha : sumD x 32 = (a : Int)) (hb : sumD y 32 = (b : Int)) :
    sumD (fun i => x i + y i) 32 = ((a + b : Nat) : Int) ∧ a + b < 2 ^ 290 := by
  have h1 := sumD_range x hx 32
  have h2 := sumD_range y hy 32
  have : (256 : Int) ^ 32 = 2 ^ 256 := by decide
  rw [this] at h1 h2
  refine ⟨?_, by omega⟩
  rw [sumD_add, ha, hb]; rfl
theorem sub_nat {x y : Nat → Int} (hx : ∀ i, 0 ≤ x i ∧ x i ≤ 255) {a b : Nat} (ha : sumD x 32 = (a : Int)) (hb : sumD y 32 = (b : Int)) (hbp : b ≤ 2 ^ 255 - 19) :
    sumD (fun i => x i + pD i - y i) 32 = ((a + (2 ^ 255 - 19) - b : Nat) : Int) ∧ a + (2 ^ 255 - 19) - b < 2 ^ 290 := by
  have h1 := sumD_range x hx 32
  have : (256 : Int) ^ 32 = 2 ^ 256 := by decide
  rw [this] at h1
  refine ⟨?_, by omega⟩
  rw [sumD_sub (fun i => x i + pD i) y, sumD_add, ha, hb, pD_sum]
  omega
/-- The power p - 2, as the document goes: what i says is asked at i = 254 - k. -/
def expD : Nat → Nat
  | 0 => 0
  | k + 1 => if k = 252 ∨ k = 250 then 2 * expD k else 2 * expD k + 1
theorem expD_all : expD 255 = 2 ^ 255 - 21 := by decide +kernel
theorem powD_step (a k : Nat) : a ^ expD (k + 1) % (2 ^ 255 - 19) = if k = 252 ∨ k = 250 then (a ^ expD k % (2 ^ 255 - 19)) * (a ^ expD k % (2 ^ 255 - 19)) % (2 ^ 255 - 19)
    else ((a ^ expD k % (2 ^ 255 - 19)) * (a ^ expD k % (2 ^ 255 - 19)) % (2 ^ 255 - 19)) * a % (2 ^ 255 - 19) := by
  by_cases h : k = 252 ∨ k = 250
  · rw [if_pos h, show expD (k + 1) = 2 * expD k from if_pos h, ← Nat.mul_mod, ← Nat.pow_add, Nat.two_mul]
  · rw [if_neg h, show expD (k + 1) = 2 * expD k + 1 from if_neg h, ← Nat.mul_mod, ← Nat.pow_add, ← Nat.two_mul, Nat.pow_succ, Nat.mul_mod (a ^ (2 * expD k)) a, Nat.mul_mod (a ^ (2 * expD k) % _) a, Nat.mod_mod]
end RefF
end Go.Proofs.Ytmfiabkhnoimhaa
