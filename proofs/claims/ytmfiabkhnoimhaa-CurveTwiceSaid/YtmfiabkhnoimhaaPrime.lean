/-
  2^255 - 19 IS PRIME, by Pratt's way: a number one of whose powers are all residues; so x^(p - 1) is 1. Plain mathematics.
-/
namespace Go.Proofs.Ytmfiabkhnoimhaa
namespace Pratt
theorem onto : ∀ (m : Nat) (f : Nat → Nat), (∀ i, i < m → f i < m) → (∀ i j, i < m → j < m → f i = f j → i = j) → ∀ y, y < m → ∃ i, i < m ∧ f i = y := by
  intro m
  induction m with
  | zero => intro f _ _ y hy; omega
  | succ m ih =>
    intro f hf hinj y hy
    have ham := hf m (by omega)
    by_cases hya : y = f m
    · exact ⟨m, by omega, hya.symm⟩
    have hne : ∀ i, i < m → f i = m → f m ≠ m := fun i hi h h2 => by
      have := hinj i m (by omega) (by omega) (h.trans h2.symm)
      omega
    have key := ih (fun i => if f i = m then f m else f i) (fun i hi => by
      have h1 := hf i (by omega)
      by_cases h : f i = m
      · have := hne i hi h
        simp only [h, if_true]; omega
      · simp only [h, if_false]; omega) (fun i j hi hj h => by
      by_cases h1 : f i = m <;> by_cases h2 : f j = m <;> simp only [h1, h2, if_true, if_false] at h
      · exact hinj i j (by omega) (by omega) (h1.trans h2.symm)
      · have := hinj m j (by omega) (by omega) h; omega
      · have := hinj i m (by omega) (by omega) h; omega
      · exact hinj i j (by omega) (by omega) h)
    by_cases hym : y = m
    · subst hym
      obtain ⟨i, hi, h⟩ := key (f y) (by omega)
      by_cases h1 : f i = y
      · exact ⟨i, by omega, h1⟩
      · simp only [h1, if_false] at h
        have := hinj i y (by omega) (by omega) h
        omega
    · obtain ⟨i, hi, h⟩ := key y (by omega)
      by_cases h1 : f i = m
      · simp only [h1, if_true] at h; exact absurd h.symm hya
      · simp only [h1, if_false] at h; exact ⟨i, by omega, h⟩
def IsP (n : Nat) : Prop := 2 ≤ n ∧ ∀ d, d ∣ n → d = 1 ∨ d = n
theorem euclid {r : Nat} (hr : IsP r) {a b : Nat} (h : r ∣ a * b) : r ∣ a ∨ r ∣ b := by
  rcases hr.2 (Nat.gcd r a) (Nat.gcd_dvd_left r a) with h1 | h1
  · right
    exact Nat.Coprime.dvd_of_dvd_mul_left h1 h
  · left
    rw [← h1]; exact Nat.gcd_dvd_right r a
theorem factor : ∀ (k n : Nat), n ≤ k → 2 ≤ n → ∃ r, IsP r ∧ r ∣ n := by
  intro k
  induction k with
  | zero => intro n h1 h2; omega
  | succ k ih =>
    intro n h1 h2
    by_cases h : IsP n
    · exact ⟨n, h, Nat.dvd_refl n⟩
    · have : ∃ d, d ∣ n ∧ d ≠ 1 ∧ d ≠ n := by
        apply Classical.byContradiction
        intro hno
        apply h
        refine ⟨h2, fun d hd => ?_⟩
        by_cases h3 : d = 1
        · exact Or.inl h3
        by_cases h4 : d = n
        · exact Or.inr h4
        exact absurd ⟨d, hd, h3, h4⟩ hno
      obtain ⟨d, hd, h3, h4⟩ := this
      have hpos : 0 < d := Nat.pos_of_dvd_of_pos hd (by omega)
      have hle := Nat.le_of_dvd (by omega) hd
      obtain ⟨r, hr, hrd⟩ := ih d (by omega) (by omega)
      exact ⟨r, hr, Nat.dvd_trans hrd hd⟩
def prod : List Nat → Nat
  | [] => 1
  | q :: l => q * prod l
theorem of_prod {r : Nat} (hr : IsP r) : ∀ (l : List Nat), (∀ q ∈ l, IsP q) → r ∣ prod l → r ∈ l := by
  intro l
  induction l with
  | nil =>
    intro _ h
    have := Nat.le_of_dvd (by decide) h
    have := hr.1
    simp only [prod] at *
    omega
  | cons q l ih =>
    intro hl h
    rcases euclid hr h with h1 | h1
    · have hq := hl q (by simp)
      rcases hq.2 r h1 with h2 | h2
      · have := hr.1; omega
      · simp [h2]
    · exact List.mem_cons_of_mem _ (ih (fun x hx => hl x (List.mem_cons_of_mem _ hx)) h1)
/-- The least number of which something holds. -/
theorem least (P : Nat → Prop) : ∀ k, P k → ∃ m, P m ∧ ∀ i, i < m → ¬ P i := by
  intro k
  induction k using Nat.strongRecOn with
  | ind k ih =>
    intro h
    by_cases h1 : ∃ i, i < k ∧ P i
    · obtain ⟨i, hi, hp⟩ := h1
      exact ih i hi hp
    · exact ⟨k, h, fun i hi hp => h1 ⟨i, hi, hp⟩⟩
theorem pow_one_mod {n x : Nat} (h : x % n = 1 % n) (k : Nat) : x ^ k % n = 1 % n := by
  rw [Nat.pow_mod, h, ← Nat.pow_mod, Nat.one_pow]
theorem mul_one_mod {n x : Nat} (h : x % n = 1 % n) (y : Nat) : y * x % n = y % n := by
  rw [Nat.mul_mod, h, ← Nat.mul_mod, Nat.mul_one]
theorem pratt (n g : Nat) (fs : List Nat) (hn : 2 ≤ n) (hfs : ∀ q ∈ fs, IsP q) (hprod : prod fs = n - 1) (h1 : g ^ (n - 1) % n = 1 % n) (h2 : ∀ q ∈ fs, g ^ ((n - 1) / q) % n ≠ 1 % n) :
    ∀ x, x % n ≠ 0 → ∃ k, x % n = g ^ k % n := by
  have h1n : 1 % n = 1 := Nat.mod_eq_of_lt (by omega)
  obtain ⟨d, ⟨hd0, hd1⟩, hdmin⟩ := least (fun k => 0 < k ∧ g ^ k % n = 1 % n) (n - 1) ⟨by omega, h1⟩
  have hmin : ∀ i, 0 < i → g ^ i % n = 1 % n → d ≤ i := fun i hi h => by
    apply Classical.byContradiction
    intro hlt
    exact hdmin i (by omega) ⟨hi, h⟩
  have hdvd : d ∣ n - 1 := by
    have e := Nat.div_add_mod (n - 1) d
    have h3 : g ^ ((n - 1) % d) % n = 1 % n := by
      have : g ^ (n - 1) % n = g ^ ((n - 1) % d) % n := by
        conv => lhs; rw [← e, Nat.pow_add, Nat.pow_mul, Nat.mul_comm, mul_one_mod (pow_one_mod hd1 _)]
      rw [← this, h1]
    have hlt := Nat.mod_lt (n - 1) hd0
    apply Nat.dvd_of_mod_eq_zero
    apply Classical.byContradiction
    intro h4
    have := hmin _ (by omega) h3
    omega
  have hdn : d = n - 1 := by
    obtain ⟨m, hm⟩ := hdvd
    apply Classical.byContradiction
    intro hne
    have hm2 : 2 ≤ m := by
      rcases m with _ | _ | m
      · rw [Nat.mul_zero] at hm; omega
      · rw [Nat.zero_add, Nat.mul_one] at hm; omega
      · omega
    obtain ⟨r, hr, s, hs⟩ := factor m m (Nat.le_refl m) hm2
    have hrn : r ∣ prod fs := by rw [hprod, hm, hs]; exact ⟨d * s, by rw [Nat.mul_left_comm]⟩
    have hmem := of_prod hr fs hfs hrn
    apply h2 r hmem
    have : (n - 1) / r = d * s := by
      rw [hm, hs, Nat.mul_left_comm]
      exact Nat.mul_div_cancel_left _ (by have := hr.1; omega)
    rw [this, Nat.pow_mul]
    exact pow_one_mod hd1 s
  have hinv : ∀ k, k ≤ n - 1 → g ^ k * g ^ (n - 1 - k) % n = 1 := fun k hk => by
    rw [← Nat.pow_add, show k + (n - 1 - k) = n - 1 by omega, h1, h1n]
  have hne0 : ∀ k, k ≤ n - 1 → g ^ k % n ≠ 0 := fun k hk h => by
    have := hinv k hk
    rw [Nat.mul_mod, h, Nat.zero_mul, Nat.zero_mod] at this
    omega
  have hinj : ∀ i j, i < n - 1 → j < n - 1 → i < j → g ^ i % n ≠ g ^ j % n := fun i j hi hj hij h => by
    have h3 : g ^ (j - i) % n = 1 % n := by
      have h4 : g ^ (n - 1 - i) * g ^ i % n = g ^ (n - 1 - i) * g ^ j % n := by rw [Nat.mul_mod, h, ← Nat.mul_mod]
      rw [Nat.mul_comm, hinv i (by omega)] at h4
      rw [← Nat.pow_add, show n - 1 - i + j = (j - i) + (n - 1) by omega, Nat.pow_add, mul_one_mod h1] at h4
      omega
    have := hmin (j - i) (by omega) h3
    omega
  intro x hx
  have hxn := Nat.mod_lt x (show n > 0 by omega)
  obtain ⟨k, hk, he⟩ := onto (n - 1) (fun k => g ^ k % n - 1) (fun i hi => by
      have := Nat.mod_lt (g ^ i) (show n > 0 by omega)
      have := hne0 i (by omega)
      omega) (fun i j hi hj h => by
      have a := hne0 i (by omega)
      have b := hne0 j (by omega)
      have h3 : g ^ i % n = g ^ j % n := by
        have h' : g ^ i % n - 1 = g ^ j % n - 1 := h
        omega
      rcases Nat.lt_trichotomy i j with h4 | h4 | h4
      · exact absurd h3 (hinj i j hi hj h4)
      · exact h4
      · exact absurd h3.symm (hinj j i hj hi h4)) (x % n - 1) (by omega)
  refine ⟨k, ?_⟩
  have := hne0 k (by omega)
  have he' : g ^ k % n - 1 = x % n - 1 := he
  omega
theorem fermat {n g : Nat} (h : ∀ x, x % n ≠ 0 → ∃ k, x % n = g ^ k % n) (h1 : g ^ (n - 1) % n = 1 % n) (x : Nat) (hx : x % n ≠ 0) : x ^ (n - 1) % n = 1 % n := by
  obtain ⟨k, hk⟩ := h x hx
  rw [Nat.pow_mod, hk, ← Nat.pow_mod, ← Nat.pow_mul, Nat.mul_comm, Nat.pow_mul]
  exact pow_one_mod h1 k
theorem prime_of {n g : Nat} (hn : 2 ≤ n) (h : ∀ x, x % n ≠ 0 → ∃ k, x % n = g ^ k % n) (h1 : g ^ (n - 1) % n = 1 % n) : IsP n := by
  refine ⟨hn, fun d hd => ?_⟩
  have h1n : 1 % n = 1 := Nat.mod_eq_of_lt (by omega)
  have hle := Nat.le_of_dvd (by omega) hd
  by_cases hdn : d = n
  · exact Or.inr hdn
  left
  have hd0 : 0 < d := Nat.pos_of_dvd_of_pos hd (by omega)
  have hf := fermat h h1 d (by rw [Nat.mod_eq_of_lt (by omega)]; omega)
  rw [h1n] at hf
  have : d ∣ d ^ (n - 1) % n := by
    rw [Nat.dvd_mod_iff hd]
    exact ⟨d ^ (n - 2), by rw [← Nat.pow_succ', show n - 1 = (n - 2) + 1 by omega]⟩
  rw [hf] at this
  have := Nat.le_of_dvd (by omega) this
  omega
/-- Powers, by squares. -/
def pm (n : Nat) : Nat → Nat → Nat → Nat → Nat
  | 0, _, _, acc => acc
  | f + 1, b, e, acc => pm n f (b * b % n) (e / 2) (if e % 2 = 1 then acc * b % n else acc)
theorem pm_ok (n : Nat) : ∀ (f b e acc : Nat), e < 2 ^ f → pm n f b e acc % n = acc * b ^ e % n := by
  intro f
  induction f with
  | zero => intro b e acc h; have : e = 0 := by simpa using h
            subst this; simp [pm]
  | succ f ih =>
    intro b e acc h
    unfold pm
    rw [ih _ _ _ (by rw [Nat.pow_succ] at h; omega)]
    have e1 : b ^ e = (b * b) ^ (e / 2) * b ^ (e % 2) := by
      rw [← Nat.pow_two, ← Nat.pow_mul, ← Nat.pow_add, Nat.div_add_mod]
    rw [e1]
    by_cases h2 : e % 2 = 1
    · rw [if_pos h2, h2, Nat.pow_one, Nat.mul_mod, Nat.mod_mod, ← Nat.pow_mod, ← Nat.mul_mod, Nat.mul_assoc, Nat.mul_comm b]
    · rw [if_neg h2, show e % 2 = 0 by omega, Nat.pow_zero, Nat.mul_one, Nat.mul_mod, ← Nat.pow_mod, ← Nat.mul_mod]
/-- What is asked of a number, its root and the factors of one less. -/
def ask (n g : Nat) (fs : List Nat) : Bool :=
  decide (2 ≤ n) && decide (prod fs = n - 1) && decide (n < 2 ^ 256) && (pm n 256 g (n - 1) 1 % n == 1 % n) && fs.all fun q => pm n 256 g ((n - 1) / q) 1 % n != 1 % n
theorem asked {n g : Nat} {fs : List Nat} (h : ask n g fs = true) (hfs : ∀ q ∈ fs, IsP q) : IsP n ∧ ∀ x, x % n ≠ 0 → x ^ (n - 1) % n = 1 % n := by
  simp only [ask, Bool.and_eq_true, decide_eq_true_eq, beq_iff_eq, List.all_eq_true, bne_iff_ne] at h
  obtain ⟨⟨⟨⟨h2, hp⟩, hlt⟩, h1⟩, h3⟩ := h
  rw [pm_ok n 256 _ _ _ (by omega), Nat.one_mul] at h1
  have hall := pratt n g fs h2 hfs hp h1 (fun q hq => by
    have := h3 q hq
    rwa [pm_ok n 256 _ _ _ (Nat.lt_of_le_of_lt (Nat.div_le_self _ _) (by omega)), Nat.one_mul] at this)
  exact ⟨prime_of h2 hall h1, fermat hall h1⟩
/-- A small number, tried. -/
theorem small (n : Nat) (h : decide (2 ≤ n) && (List.range n).all (fun d => decide (d < 2) || decide (n % d ≠ 0)) = true) : IsP n := by
  simp only [Bool.and_eq_true, decide_eq_true_eq, List.all_eq_true, List.mem_range, Bool.or_eq_true] at h
  refine ⟨h.1, fun d hd => ?_⟩
  have hle := Nat.le_of_dvd (by omega) hd
  have hd0 : 0 < d := Nat.pos_of_dvd_of_pos hd (by omega)
  by_cases hdn : d = n
  · exact Or.inr hdn
  rcases h.2 d (by omega) with h1 | h1
  · exact Or.inl (by omega)
  · exact absurd (Nat.mod_eq_zero_of_dvd hd) h1
theorem p2 : IsP 2 := small _ (by decide +kernel)
theorem p3 : IsP 3 := small _ (by decide +kernel)
theorem p5 : IsP 5 := small _ (by decide +kernel)
theorem p7 : IsP 7 := small _ (by decide +kernel)
theorem p13 : IsP 13 := small _ (by decide +kernel)
theorem p17 : IsP 17 := small _ (by decide +kernel)
theorem p19 : IsP 19 := small _ (by decide +kernel)
theorem p23 : IsP 23 := small _ (by decide +kernel)
theorem p29 : IsP 29 := small _ (by decide +kernel)
theorem p31 : IsP 31 := small _ (by decide +kernel)
theorem p43 : IsP 43 := small _ (by decide +kernel)
theorem p47 : IsP 47 := small _ (by decide +kernel)
theorem p59 : IsP 59 := small _ (by decide +kernel)
theorem p83 : IsP 83 := small _ (by decide +kernel)
theorem p97 : IsP 97 := small _ (by decide +kernel)
theorem p103 : IsP 103 := small _ (by decide +kernel)
theorem p107 : IsP 107 := small _ (by decide +kernel)
theorem p127 : IsP 127 := small _ (by decide +kernel)
theorem p131 : IsP 131 := small _ (by decide +kernel)
theorem p173 : IsP 173 := small _ (by decide +kernel)
theorem p223 : IsP 223 := small _ (by decide +kernel)
theorem p353 : IsP 353 := small _ (by decide +kernel)
theorem p419 : IsP 419 := small _ (by decide +kernel)
theorem p479 : IsP 479 := small _ (by decide +kernel)
theorem p487 : IsP 487 := small _ (by decide +kernel)
theorem p991 : IsP 991 := small _ (by decide +kernel)
theorem p1723 : IsP 1723 := small _ (by decide +kernel)
theorem p32573 : IsP 32573 := (asked (g := 2) (fs := [2, 2, 17, 479]) (by decide +kernel) (fun q hq => by
  simp only [List.mem_cons, List.not_mem_nil, or_false] at hq
  rcases hq with rfl | rfl | rfl | rfl
  · exact p2
  · exact p2
  · exact p17
  · exact p479)).1
theorem p65147 : IsP 65147 := (asked (g := 2) (fs := [2, 32573]) (by decide +kernel) (fun q hq => by
  simp only [List.mem_cons, List.not_mem_nil, or_false] at hq
  rcases hq with rfl | rfl
  · exact p2
  · exact p32573)).1
theorem p57467 : IsP 57467 := (asked (g := 2) (fs := [2, 59, 487]) (by decide +kernel) (fun q hq => by
  simp only [List.mem_cons, List.not_mem_nil, or_false] at hq
  rcases hq with rfl | rfl | rfl
  · exact p2
  · exact p59
  · exact p487)).1
theorem p132049 : IsP 132049 := (asked (g := 26) (fs := [2, 2, 2, 2, 3, 3, 7, 131]) (by decide +kernel) (fun q hq => by
  simp only [List.mem_cons, List.not_mem_nil, or_false] at hq
  rcases hq with rfl | rfl | rfl | rfl | rfl | rfl | rfl | rfl
  · exact p2
  · exact p2
  · exact p2
  · exact p2
  · exact p3
  · exact p3
  · exact p7
  · exact p131)).1
theorem p3727 : IsP 3727 := (asked (g := 3) (fs := [2, 3, 3, 3, 3, 23]) (by decide +kernel) (fun q hq => by
  simp only [List.mem_cons, List.not_mem_nil, or_false] at hq
  rcases hq with rfl | rfl | rfl | rfl | rfl | rfl
  · exact p2
  · exact p3
  · exact p3
  · exact p3
  · exact p3
  · exact p23)).1
theorem p1923133 : IsP 1923133 := (asked (g := 2) (fs := [2, 2, 3, 43, 3727]) (by decide +kernel) (fun q hq => by
  simp only [List.mem_cons, List.not_mem_nil, or_false] at hq
  rcases hq with rfl | rfl | rfl | rfl | rfl
  · exact p2
  · exact p2
  · exact p3
  · exact p43
  · exact p3727)).1
theorem p4153 : IsP 4153 := (asked (g := 5) (fs := [2, 2, 2, 3, 173]) (by decide +kernel) (fun q hq => by
  simp only [List.mem_cons, List.not_mem_nil, or_false] at hq
  rcases hq with rfl | rfl | rfl | rfl | rfl
  · exact p2
  · exact p2
  · exact p2
  · exact p3
  · exact p173)).1
theorem p430751 : IsP 430751 := (asked (g := 17) (fs := [2, 5, 5, 5, 1723]) (by decide +kernel) (fun q hq => by
  simp only [List.mem_cons, List.not_mem_nil, or_false] at hq
  rcases hq with rfl | rfl | rfl | rfl | rfl
  · exact p2
  · exact p5
  · exact p5
  · exact p5
  · exact p1723)).1
theorem p31757755568855353 : IsP 31757755568855353 := (asked (g := 10) (fs := [2, 2, 2, 3, 31, 107, 223, 4153, 430751]) (by decide +kernel) (fun q hq => by
  simp only [List.mem_cons, List.not_mem_nil, or_false] at hq
  rcases hq with rfl | rfl | rfl | rfl | rfl | rfl | rfl | rfl | rfl
  · exact p2
  · exact p2
  · exact p2
  · exact p3
  · exact p31
  · exact p107
  · exact p223
  · exact p4153
  · exact p430751)).1
theorem p9463 : IsP 9463 := (asked (g := 3) (fs := [2, 3, 19, 83]) (by decide +kernel) (fun q hq => by
  simp only [List.mem_cons, List.not_mem_nil, or_false] at hq
  rcases hq with rfl | rfl | rfl | rfl
  · exact p2
  · exact p3
  · exact p19
  · exact p83)).1
theorem p37853 : IsP 37853 := (asked (g := 2) (fs := [2, 2, 9463]) (by decide +kernel) (fun q hq => by
  simp only [List.mem_cons, List.not_mem_nil, or_false] at hq
  rcases hq with rfl | rfl | rfl
  · exact p2
  · exact p2
  · exact p9463)).1
theorem p75707 : IsP 75707 := (asked (g := 2) (fs := [2, 37853]) (by decide +kernel) (fun q hq => by
  simp only [List.mem_cons, List.not_mem_nil, or_false] at hq
  rcases hq with rfl | rfl
  · exact p2
  · exact p37853)).1
theorem p8574133 : IsP 8574133 := (asked (g := 2) (fs := [2, 2, 3, 7, 103, 991]) (by decide +kernel) (fun q hq => by
  simp only [List.mem_cons, List.not_mem_nil, or_false] at hq
  rcases hq with rfl | rfl | rfl | rfl | rfl | rfl
  · exact p2
  · exact p2
  · exact p3
  · exact p7
  · exact p103
  · exact p991)).1
theorem p1919519569386763 : IsP 1919519569386763 := (asked (g := 2) (fs := [2, 3, 7, 19, 47, 47, 127, 8574133]) (by decide +kernel) (fun q hq => by
  simp only [List.mem_cons, List.not_mem_nil, or_false] at hq
  rcases hq with rfl | rfl | rfl | rfl | rfl | rfl | rfl | rfl
  · exact p2
  · exact p3
  · exact p7
  · exact p19
  · exact p47
  · exact p47
  · exact p127
  · exact p8574133)).1
theorem p2437 : IsP 2437 := (asked (g := 2) (fs := [2, 2, 3, 7, 29]) (by decide +kernel) (fun q hq => by
  simp only [List.mem_cons, List.not_mem_nil, or_false] at hq
  rcases hq with rfl | rfl | rfl | rfl | rfl
  · exact p2
  · exact p2
  · exact p3
  · exact p7
  · exact p29)).1
theorem p569003 : IsP 569003 := (asked (g := 2) (fs := [2, 7, 97, 419]) (by decide +kernel) (fun q hq => by
  simp only [List.mem_cons, List.not_mem_nil, or_false] at hq
  rcases hq with rfl | rfl | rfl | rfl
  · exact p2
  · exact p7
  · exact p97
  · exact p419)).1
theorem p2773320623 : IsP 2773320623 := (asked (g := 5) (fs := [2, 2437, 569003]) (by decide +kernel) (fun q hq => by
  simp only [List.mem_cons, List.not_mem_nil, or_false] at hq
  rcases hq with rfl | rfl | rfl
  · exact p2
  · exact p2437
  · exact p569003)).1
theorem p72106336199 : IsP 72106336199 := (asked (g := 7) (fs := [2, 13, 2773320623]) (by decide +kernel) (fun q hq => by
  simp only [List.mem_cons, List.not_mem_nil, or_false] at hq
  rcases hq with rfl | rfl | rfl
  · exact p2
  · exact p13
  · exact p2773320623)).1
theorem p75445702479781427272750846543864801 : IsP 75445702479781427272750846543864801 := (asked (g := 7) (fs := [2, 2, 2, 2, 2, 3, 3, 5, 5, 75707, 1919519569386763, 72106336199]) (by decide +kernel) (fun q hq => by
  simp only [List.mem_cons, List.not_mem_nil, or_false] at hq
  rcases hq with rfl | rfl | rfl | rfl | rfl | rfl | rfl | rfl | rfl | rfl | rfl | rfl
  · exact p2
  · exact p2
  · exact p2
  · exact p2
  · exact p2
  · exact p3
  · exact p3
  · exact p5
  · exact p5
  · exact p75707
  · exact p1919519569386763
  · exact p72106336199)).1
theorem p74058212732561358302231226437062788676166966415465897661863160754340907 : IsP 74058212732561358302231226437062788676166966415465897661863160754340907 := (asked (g := 2) (fs := [2, 3, 353, 57467, 132049, 1923133, 31757755568855353, 75445702479781427272750846543864801]) (by decide +kernel) (fun q hq => by
  simp only [List.mem_cons, List.not_mem_nil, or_false] at hq
  rcases hq with rfl | rfl | rfl | rfl | rfl | rfl | rfl | rfl
  · exact p2
  · exact p3
  · exact p353
  · exact p57467
  · exact p132049
  · exact p1923133
  · exact p31757755568855353
  · exact p75445702479781427272750846543864801)).1
theorem field : IsP 57896044618658097711785492504343953926634992332820282019728792003956564819949 ∧ ∀ x, x % 57896044618658097711785492504343953926634992332820282019728792003956564819949 ≠ 0 → x ^ (57896044618658097711785492504343953926634992332820282019728792003956564819949 - 1) % 57896044618658097711785492504343953926634992332820282019728792003956564819949 = 1 % 57896044618658097711785492504343953926634992332820282019728792003956564819949 := asked (g := 2) (fs := [2, 2, 3, 65147, 74058212732561358302231226437062788676166966415465897661863160754340907]) (by decide +kernel) (fun q hq => by
  simp only [List.mem_cons, List.not_mem_nil, or_false] at hq
  rcases hq with rfl | rfl | rfl | rfl | rfl
  · exact p2
  · exact p2
  · exact p3
  · exact p65147
  · exact p74058212732561358302231226437062788676166966415465897661863160754340907)
end Pratt
end Go.Proofs.Ytmfiabkhnoimhaa
