/-
  NUMBERS MODULO 2^255 - 19 IN FIVE LIMBS: what the limbs' sums, differences and products are, modulo p. Plain mathematics.
-/
namespace Go.Proofs.Ytmfiabkhnoimhaa
structure E5 where
  a : BitVec 64
  b : BitVec 64
  c : BitVec 64
  d : BitVec 64
  e : BitVec 64
namespace E5
def mask : BitVec 64 := 2251799813685247#64
def val (x : E5) : Nat := x.a.toNat + 2251799813685248 * x.b.toNat + 2251799813685248^2 * x.c.toNat + 2251799813685248^3 * x.d.toNat + 2251799813685248^4 * x.e.toNat
/-- The limbs of any call's answer. -/
structure Ok (x : E5) : Prop where
  a : x.a.toNat < 2251799813686272
  b : x.b.toNat < 2251799813686272
  c : x.c.toNat < 2251799813686272
  d : x.d.toNat < 2251799813686272
  e : x.e.toNat < 2251799813686272
def carried (l : E5) : E5 :=
  ⟨(l.a &&& mask) + (l.e >>> 51) * 19#64, (l.b &&& mask) + l.a >>> 51, (l.c &&& mask) + l.b >>> 51, (l.d &&& mask) + l.c >>> 51, (l.e &&& mask) + l.d >>> 51⟩
def p : Nat := 2^255 - 19
theorem and_mask (x : BitVec 64) : (x &&& mask).toNat = x.toNat % 2251799813685248 := by
  rw [BitVec.toNat_and]
  have : mask.toNat = 2^51 - 1 := by decide
  rw [this, Nat.and_two_pow_sub_one_eq_mod]
theorem shr51 (x : BitVec 64) : (x >>> 51).toNat = x.toNat / 2251799813685248 := by
  rw [BitVec.toNat_ushiftRight, Nat.shiftRight_eq_div_pow]
theorem carried_nat (l : E5) (h0 : l.a.toNat < 2^60) (h1 : l.b.toNat < 2^60) (h2 : l.c.toNat < 2^60) (h3 : l.d.toNat < 2^60) (h4 : l.e.toNat < 2^56) :
    (carried l).a.toNat = l.a.toNat % 2251799813685248 + (l.e.toNat / 2251799813685248) * 19 ∧ (carried l).b.toNat = l.b.toNat % 2251799813685248 + l.a.toNat / 2251799813685248 ∧ 
    (carried l).c.toNat = l.c.toNat % 2251799813685248 + l.b.toNat / 2251799813685248 ∧ (carried l).d.toNat = l.d.toNat % 2251799813685248 + l.c.toNat / 2251799813685248 ∧ 
    (carried l).e.toNat = l.e.toNat % 2251799813685248 + l.d.toNat / 2251799813685248 := by
  unfold carried
  simp only [BitVec.toNat_add, BitVec.toNat_mul, and_mask, shr51, BitVec.toNat_ofNat]
  refine ⟨?_, ?_, ?_, ?_, ?_⟩ <;> omega
theorem carried_ok (l : E5) (h0 : l.a.toNat < 2^60) (h1 : l.b.toNat < 2^60) (h2 : l.c.toNat < 2^60) (h3 : l.d.toNat < 2^60) (h4 : l.e.toNat < 2^56) : Ok (carried l) := by
  obtain ⟨a, b, c, d, e⟩ := carried_nat l h0 h1 h2 h3 h4
  constructor <;> omega
theorem carried_val (l : E5) (h0 : l.a.toNat < 2^60) (h1 : l.b.toNat < 2^60) (h2 : l.c.toNat < 2^60) (h3 : l.d.toNat < 2^60) (h4 : l.e.toNat < 2^56) : (carried l).val % p = l.val % p := by
  obtain ⟨a, b, c, d, e⟩ := carried_nat l h0 h1 h2 h3 h4
  have : l.val = (carried l).val + (l.e.toNat / 2251799813685248) * p := by
    unfold val
    rw [a, b, c, d, e]
    unfold p
    omega
  rw [this, Nat.add_mul_mod_self_right]

def add (x y : E5) : E5 := carried ⟨x.a + y.a, x.b + y.b, x.c + y.c, x.d + y.d, x.e + y.e⟩
def sub (x y : E5) : E5 := carried ⟨x.a + 9007199254740916#64 - y.a, x.b + 9007199254740988#64 - y.b, x.c + 9007199254740988#64 - y.c, x.d + 9007199254740988#64 - y.d, x.e + 9007199254740988#64 - y.e⟩
theorem add_ok {x y : E5} (hx : Ok x) (hy : Ok y) : Ok (add x y) ∧ (add x y).val % p = (x.val + y.val) % p := by
  obtain ⟨a, b, c, d, e⟩ := hx
  obtain ⟨a', b', c', d', e'⟩ := hy
  have q0 : (x.a + y.a).toNat = x.a.toNat + y.a.toNat := by rw [BitVec.toNat_add]; omega
  have q1 : (x.b + y.b).toNat = x.b.toNat + y.b.toNat := by rw [BitVec.toNat_add]; omega
  have q2 : (x.c + y.c).toNat = x.c.toNat + y.c.toNat := by rw [BitVec.toNat_add]; omega
  have q3 : (x.d + y.d).toNat = x.d.toNat + y.d.toNat := by rw [BitVec.toNat_add]; omega
  have q4 : (x.e + y.e).toNat = x.e.toNat + y.e.toNat := by rw [BitVec.toNat_add]; omega
  refine ⟨carried_ok _ (by simp only; omega) (by simp only; omega) (by simp only; omega) (by simp only; omega) (by simp only; omega), ?_⟩
  unfold add
  rw [carried_val _ (by simp only; omega) (by simp only; omega) (by simp only; omega) (by simp only; omega) (by simp only; omega)]
  unfold val
  simp only [q0, q1, q2, q3, q4]
  congr 1
  omega
theorem sub_ok {x y : E5} (hx : Ok x) (hy : Ok y) : Ok (sub x y) ∧ ((sub x y).val + y.val) % p = x.val % p := by
  obtain ⟨a, b, c, d, e⟩ := hx
  obtain ⟨a', b', c', d', e'⟩ := hy
  have q0 : (x.a + 9007199254740916#64 - y.a).toNat = x.a.toNat + 9007199254740916 - y.a.toNat := by rw [BitVec.toNat_sub, BitVec.toNat_add, BitVec.toNat_ofNat]; omega
  have q1 : (x.b + 9007199254740988#64 - y.b).toNat = x.b.toNat + 9007199254740988 - y.b.toNat := by rw [BitVec.toNat_sub, BitVec.toNat_add, BitVec.toNat_ofNat]; omega
  have q2 : (x.c + 9007199254740988#64 - y.c).toNat = x.c.toNat + 9007199254740988 - y.c.toNat := by rw [BitVec.toNat_sub, BitVec.toNat_add, BitVec.toNat_ofNat]; omega
  have q3 : (x.d + 9007199254740988#64 - y.d).toNat = x.d.toNat + 9007199254740988 - y.d.toNat := by rw [BitVec.toNat_sub, BitVec.toNat_add, BitVec.toNat_ofNat]; omega
  have q4 : (x.e + 9007199254740988#64 - y.e).toNat = x.e.toNat + 9007199254740988 - y.e.toNat := by rw [BitVec.toNat_sub, BitVec.toNat_add, BitVec.toNat_ofNat]; omega
  refine ⟨carried_ok _ (by simp only; omega) (by simp only; omega) (by simp only; omega) (by simp only; omega) (by simp only; omega), ?_⟩
  rw [Nat.add_mod]
  unfold sub
  rw [carried_val _ (by simp only; omega) (by simp only; omega) (by simp only; omega) (by simp only; omega) (by simp only; omega), ← Nat.add_mod]
  have : (⟨x.a + 9007199254740916#64 - y.a, x.b + 9007199254740988#64 - y.b, x.c + 9007199254740988#64 - y.c, x.d + 9007199254740988#64 - y.d, x.e + 9007199254740988#64 - y.e⟩ : E5).val + y.val = x.val + 4 * p := by
    unfold val p
    simp only [q0, q1, q2, q3, q4]
    omega
  rw [this, Nat.mul_comm 4 p, Nat.add_mul_mod_self_left]
/-- A number of two words. -/
def hi (s : Nat) : BitVec 64 := BitVec.ofNat 64 (s / 18446744073709551616)
def lo (s : Nat) : BitVec 64 := BitVec.ofNat 64 s
def limb (s : Nat) : BitVec 64 := lo s &&& mask
def above (s : Nat) : BitVec 64 := hi s <<< 13 ||| lo s >>> 51
theorem limb_nat (s : Nat) : (limb s).toNat = s % 2251799813685248 := by
  unfold limb lo
  rw [and_mask, BitVec.toNat_ofNat]
  omega
theorem above_nat (s : Nat) (h : s < 2^115) : (above s).toNat = s / 2251799813685248 := by
  unfold above hi lo
  rw [BitVec.toNat_or, shr51, BitVec.toNat_shiftLeft, BitVec.toNat_ofNat, BitVec.toNat_ofNat]
  have h1 : s / 18446744073709551616 % 2^64 = s / 18446744073709551616 := by omega
  rw [h1, Nat.shiftLeft_eq]
  have h2 : s / 18446744073709551616 * 2^13 % 2^64 = (s / 18446744073709551616) * 2^13 := by omega
  rw [h2]
  have h3 : s % 2^64 / 2251799813685248 < 2^13 := by omega
  rw [← Nat.shiftLeft_eq, ← Nat.shiftLeft_add_eq_or_of_lt h3, Nat.shiftLeft_eq]
  omega
def folded (s0 s1 s2 s3 s4 : Nat) : E5 := carried ⟨limb s0 + above s4 * 19#64, limb s1 + above s0, limb s2 + above s1, limb s3 + above s2, limb s4 + above s3⟩
theorem folded_ok (s0 s1 s2 s3 s4 : Nat) (h0 : s0 < 2^110) (h1 : s1 < 2^110) (h2 : s2 < 2^110) (h3 : s3 < 2^106 + 2^105) (h4 : s4 < 2^105) :
    Ok (folded s0 s1 s2 s3 s4) ∧ (folded s0 s1 s2 s3 s4).val % p = (s0 + 2251799813685248 * s1 + 2251799813685248^2 * s2 + 2251799813685248^3 * s3 + 2251799813685248^4 * s4) % p := by
  have q0 : (limb s0 + above s4 * 19#64).toNat = s0 % 2251799813685248 + s4 / 2251799813685248 * 19 := by
    rw [BitVec.toNat_add, BitVec.toNat_mul, limb_nat, above_nat _ (by omega), BitVec.toNat_ofNat]; omega
  have q1 : (limb s1 + above s0).toNat = s1 % 2251799813685248 + s0 / 2251799813685248 := by
    rw [BitVec.toNat_add, limb_nat, above_nat _ (by omega)]; omega
  have q2 : (limb s2 + above s1).toNat = s2 % 2251799813685248 + s1 / 2251799813685248 := by
    rw [BitVec.toNat_add, limb_nat, above_nat _ (by omega)]; omega
  have q3 : (limb s3 + above s2).toNat = s3 % 2251799813685248 + s2 / 2251799813685248 := by
    rw [BitVec.toNat_add, limb_nat, above_nat _ (by omega)]; omega
  have q4 : (limb s4 + above s3).toNat = s4 % 2251799813685248 + s3 / 2251799813685248 := by
    rw [BitVec.toNat_add, limb_nat, above_nat _ (by omega)]; omega
  refine ⟨carried_ok _ (by simp only; omega) (by simp only; omega) (by simp only; omega) (by simp only; omega) (by simp only; omega), ?_⟩
  unfold folded
  rw [carried_val _ (by simp only; omega) (by simp only; omega) (by simp only; omega) (by simp only; omega) (by simp only; omega)]
  have : s0 + 2251799813685248 * s1 + 2251799813685248^2 * s2 + 2251799813685248^3 * s3 + 2251799813685248^4 * s4 = (⟨limb s0 + above s4 * 19#64, limb s1 + above s0, limb s2 + above s1, limb s3 + above s2, limb s4 + above s3⟩ : E5).val + s4 / 2251799813685248 * p := by
    unfold val p
    simp only [q0, q1, q2, q3, q4]
    omega
  rw [this, Nat.add_mul_mod_self_right]
/-- The five sums of a product. -/
def m (x y : BitVec 64) : Nat := x.toNat * y.toNat
def mul (x y : E5) : E5 :=
  folded (m x.a y.a + m x.b (y.e * 19#64) + m x.c (y.d * 19#64) + m x.d (y.c * 19#64) + m x.e (y.b * 19#64))
    (m x.a y.b + m x.b y.a + m x.c (y.e * 19#64) + m x.d (y.d * 19#64) + m x.e (y.c * 19#64))
    (m x.a y.c + m x.b y.b + m x.c y.a + m x.d (y.e * 19#64) + m x.e (y.d * 19#64))
    (m x.a y.d + m x.b y.c + m x.c y.b + m x.d y.a + m x.e (y.e * 19#64))
    (m x.a y.e + m x.b y.d + m x.c y.c + m x.d y.b + m x.e y.a)
theorem m_lt {x y : BitVec 64} (hx : x.toNat < 2251799813686272) (hy : y.toNat < 2251799813686272) : m x y < 5070602400917829263458907324416 + 1 := by
  unfold m
  have := Nat.mul_le_mul (Nat.le_of_lt_succ hx) (Nat.le_of_lt_succ hy)
  omega
theorem m19 {x y : BitVec 64} (hy : y.toNat < 2251799813686272) : m x (y * 19#64) = 19 * m x y := by
  unfold m
  rw [BitVec.toNat_mul, BitVec.toNat_ofNat]
  have : y.toNat * (19 % 2 ^ 64) % 2 ^ 64 = 19 * y.toNat := by omega
  rw [this]
  rw [Nat.mul_left_comm]
theorem mul_ok {x y : E5} (hx : Ok x) (hy : Ok y) : Ok (mul x y) ∧ (mul x y).val % p = (x.val * y.val) % p := by
  obtain ⟨a, b, c, d, e⟩ := hx
  obtain ⟨a', b', c', d', e'⟩ := hy
  have l00 := m_lt a a'; have l01 := m_lt a b'; have l02 := m_lt a c'; have l03 := m_lt a d'; have l04 := m_lt a e'
  have l10 := m_lt b a'; have l11 := m_lt b b'; have l12 := m_lt b c'; have l13 := m_lt b d'; have l14 := m_lt b e'
  have l20 := m_lt c a'; have l21 := m_lt c b'; have l22 := m_lt c c'; have l23 := m_lt c d'; have l24 := m_lt c e'
  have l30 := m_lt d a'; have l31 := m_lt d b'; have l32 := m_lt d c'; have l33 := m_lt d d'; have l34 := m_lt d e'
  have l40 := m_lt e a'; have l41 := m_lt e b'; have l42 := m_lt e c'; have l43 := m_lt e d'; have l44 := m_lt e e'
  unfold mul
  simp only [m19 b', m19 c', m19 d', m19 e']
  obtain ⟨h1, h2⟩ := folded_ok (m x.a y.a + 19 * m x.b y.e + 19 * m x.c y.d + 19 * m x.d y.c + 19 * m x.e y.b)
    (m x.a y.b + m x.b y.a + 19 * m x.c y.e + 19 * m x.d y.d + 19 * m x.e y.c)
    (m x.a y.c + m x.b y.b + m x.c y.a + 19 * m x.d y.e + 19 * m x.e y.d)
    (m x.a y.d + m x.b y.c + m x.c y.b + m x.d y.a + 19 * m x.e y.e)
    (m x.a y.e + m x.b y.d + m x.c y.c + m x.d y.b + m x.e y.a) (by omega) (by omega) (by omega) (by omega) (by omega)
  refine ⟨h1, ?_⟩
  rw [h2]
  have : x.val * y.val = (m x.a y.a + 19 * m x.b y.e + 19 * m x.c y.d + 19 * m x.d y.c + 19 * m x.e y.b) + 2251799813685248 * (m x.a y.b + m x.b y.a + 19 * m x.c y.e + 19 * m x.d y.d + 19 * m x.e y.c)
      + 2251799813685248^2 * (m x.a y.c + m x.b y.b + m x.c y.a + 19 * m x.d y.e + 19 * m x.e y.d) + 2251799813685248^3 * (m x.a y.d + m x.b y.c + m x.c y.b + m x.d y.a + 19 * m x.e y.e)
      + 2251799813685248^4 * (m x.a y.e + m x.b y.d + m x.c y.c + m x.d y.b + m x.e y.a)
      + (m x.b y.e + m x.c y.d + m x.d y.c + m x.e y.b + 2251799813685248 * (m x.c y.e + m x.d y.d + m x.e y.c) + 2251799813685248^2 * (m x.d y.e + m x.e y.d) + 2251799813685248^3 * (m x.e y.e)) * p := by
    unfold val m p
    grind
  rw [this, Nat.add_mul_mod_self_right]

/-- What goes on to the next limb. -/
def up (v o : BitVec 64) : BitVec 64 := (v + o) >>> 51
def over (x : E5) : BitVec 64 := up x.e (up x.d (up x.c (up x.b (up x.a 19#64)))) * 19#64
def reduced (x : E5) : E5 :=
  ⟨(x.a + over x) &&& mask, (x.b + up x.a (over x)) &&& mask, (x.c + up x.b (up x.a (over x))) &&& mask, (x.d + up x.c (up x.b (up x.a (over x)))) &&& mask, (x.e + up x.d (up x.c (up x.b (up x.a (over x))))) &&& mask⟩
/-- Limbs of their own bits alone. -/
structure Red (x : E5) : Prop where
  a : x.a.toNat < 2251799813685248
  b : x.b.toNat < 2251799813685248
  c : x.c.toNat < 2251799813685248
  d : x.d.toNat < 2251799813685248
  e : x.e.toNat < 2251799813685248
theorem up_nat {v o : BitVec 64} {k : Nat} (hv : v.toNat < 2251799813686272) (ho : o.toNat = k) (hk : k ≤ 19) : (up v o).toNat = (v.toNat + k) / 2251799813685248 ∧ (v.toNat + k) / 2251799813685248 ≤ 1 := by
  unfold up
  rw [shr51, BitVec.toNat_add, ho]
  omega
theorem addmask {v o : BitVec 64} {k : Nat} (_ : v.toNat < 2251799813686272) (ho : o.toNat = k) (_ : k ≤ 19) : ((v + o) &&& mask).toNat = (v.toNat + k) % 2251799813685248 := by
  rw [and_mask, BitVec.toNat_add, ho]
  omega
theorem red_val {x : E5} (h : Red x) : x.val < 2^255 := by
  obtain ⟨a, b, c, d, e⟩ := h
  unfold val
  omega
theorem reduced_red (x : E5) : Red (reduced x) := by
  constructor <;> unfold reduced <;> simp only [and_mask] <;> omega
theorem reduced_ok {x : E5} (hx : Ok x) : Red (reduced x) ∧ (reduced x).val = x.val % p := by
  refine ⟨reduced_red x, ?_⟩
  obtain ⟨a, b, c, d, e⟩ := hx
  obtain ⟨u1, w1⟩ := up_nat a (show (19#64).toNat = 19 by decide) (by omega)
  obtain ⟨u2, w2⟩ := up_nat b u1 (by omega)
  obtain ⟨u3, w3⟩ := up_nat c u2 (by omega)
  obtain ⟨u4, w4⟩ := up_nat d u3 (by omega)
  obtain ⟨u5, w5⟩ := up_nat e u4 (by omega)
  have ho : (over x).toNat = (x.e.toNat + (x.d.toNat + (x.c.toNat + (x.b.toNat + (x.a.toNat + 19) / 2251799813685248) / 2251799813685248) / 2251799813685248) / 2251799813685248) / 2251799813685248 * 19 := by
    unfold over
    rw [BitVec.toNat_mul, u5, BitVec.toNat_ofNat]
    omega
  generalize hq : (x.e.toNat + (x.d.toNat + (x.c.toNat + (x.b.toNat + (x.a.toNat + 19) / 2251799813685248) / 2251799813685248) / 2251799813685248) / 2251799813685248) / 2251799813685248 = q at *
  have hqd : q = (x.val + 19) / 2^255 := by rw [← hq]; unfold val; omega
  obtain ⟨v1, z1⟩ := up_nat a ho (by omega)
  obtain ⟨v2, z2⟩ := up_nat b v1 (by omega)
  obtain ⟨v3, z3⟩ := up_nat c v2 (by omega)
  obtain ⟨v4, z4⟩ := up_nat d v3 (by omega)
  have hval : (reduced x).val = (x.val + q * 19) % 2^255 := by
    unfold reduced
    unfold val
    simp only [addmask a ho (by omega), addmask b v1 (by omega), addmask c v2 (by omega), addmask d v3 (by omega), addmask e v4 (by omega)]
    omega
  rw [hval]
  have hlt : x.val < 2^255 + 2^254 := by unfold val; omega
  unfold p
  clear hval v1 v2 v3 v4 z1 z2 z3 z4 ho u1 u2 u3 u4 u5 w1 w2 w3 w4 hq
  generalize x.val = n at *
  have hq1 : q = 0 ∨ q = 1 := by omega
  rcases hq1 with rfl | rfl <;> omega
/-- The number of bytes, the lowest first. -/
def num (b : Nat → BitVec 8) : Nat → Nat
  | 0 => 0
  | n + 1 => num b n + (b n).toNat * 256 ^ n
theorem num_lt (b : Nat → BitVec 8) (n : Nat) : num b n < 256 ^ n := by
  induction n with
  | zero => simp [num]
  | succ n ih =>
    unfold num
    have h := (b n).isLt
    have h2 : (b n).toNat * 256 ^ n ≤ 255 * 256 ^ n := Nat.mul_le_mul_right _ (by omega)
    rw [Nat.pow_succ]
    omega
/-- A word of eight bytes, the lowest first. -/
def word (b : Nat → BitVec 8) (j : Nat) : Nat → BitVec 64
  | 0 => 0#64
  | k + 1 => word b j k ||| (b (8 * j + k)).setWidth 64 <<< (8 * k)
theorem num_shift (b : Nat → BitVec 8) (k n : Nat) : num b (k + n) = num b k + 256 ^ k * num (fun i => b (k + i)) n := by
  induction n with
  | zero => simp [num]
  | succ n ih =>
    rw [← Nat.add_assoc]
    simp only [num]
    rw [ih, Nat.pow_add, Nat.mul_add]
    rw [show (b (k + n)).toNat * (256 ^ k * 256 ^ n) = 256 ^ k * ((b (k + n)).toNat * 256 ^ n) by rw [Nat.mul_left_comm]]
    omega
theorem word_nat (b : Nat → BitVec 8) (j k : Nat) (hk : k ≤ 8) : (word b j k).toNat = num (fun i => b (8 * j + i)) k := by
  induction k with
  | zero => rfl
  | succ k ih =>
    have h1 := num_lt (fun i => b (8 * j + i)) k
    unfold word num
    rw [BitVec.toNat_or, ih (by omega), BitVec.toNat_shiftLeft, BitVec.toNat_setWidth]
    have h2 := (b (8 * j + k)).isLt
    have h3 : (b (8 * j + k)).toNat % 2 ^ 64 = (b (8 * j + k)).toNat := by omega
    have h4 : (256 : Nat) ^ k = 2 ^ (8 * k) := by rw [Nat.pow_mul]
    rw [h3]
    have h5 : (b (8 * j + k)).toNat <<< (8 * k) % 2 ^ 64 = (b (8 * j + k)).toNat <<< (8 * k) := by
      rw [Nat.shiftLeft_eq]
      apply Nat.mod_eq_of_lt
      have : 2 ^ (8 * k) * 2 ^ 8 ≤ 2 ^ 64 := by rw [← Nat.pow_add]; exact Nat.pow_le_pow_right (by omega) (by omega)
      have h6 : (b (8 * j + k)).toNat * 2 ^ (8 * k) < 2 ^ 8 * 2 ^ (8 * k) := Nat.mul_lt_mul_of_pos_right h2 (Nat.pow_pos (by omega))
      rw [Nat.mul_comm (2 ^ (8 * k))] at this
      omega
    rw [h5, Nat.or_comm, ← Nat.shiftLeft_add_eq_or_of_lt (by rw [← h4]; exact h1), Nat.shiftLeft_eq, h4]
    omega
/-- The number of 32 bytes, without the highest bit. -/
def ofw (w0 w1 w2 w3 : BitVec 64) : E5 :=
  ⟨w0 &&& mask, (w0 >>> 51 ||| w1 <<< 13) &&& mask, (w1 >>> 38 ||| w2 <<< 26) &&& mask, (w2 >>> 25 ||| w3 <<< 39) &&& mask, w3 >>> 12 &&& mask⟩
theorem or_nat (x y : BitVec 64) (s t : Nat) (hs : s + t = 64) (_ : 0 < t) : (x >>> s ||| y <<< t).toNat = x.toNat / 2 ^ s + y.toNat * 2 ^ t % 2 ^ 64 := by
  rw [BitVec.toNat_or, BitVec.toNat_ushiftRight, BitVec.toNat_shiftLeft, Nat.shiftRight_eq_div_pow, Nat.shiftLeft_eq]
  have h1 : x.toNat / 2 ^ s < 2 ^ t := by
    rw [Nat.div_lt_iff_lt_mul (Nat.pow_pos (by omega)), ← Nat.pow_add, Nat.add_comm, hs]
    exact x.isLt
  have h2 : y.toNat * 2 ^ t % 2 ^ 64 = (y.toNat % 2 ^ s) * 2 ^ t := by
    generalize y.toNat = n
    rw [← hs, Nat.pow_add, Nat.mul_mod_mul_right]
  rw [h2, Nat.or_comm, ← Nat.shiftLeft_eq, ← Nat.shiftLeft_add_eq_or_of_lt h1]
  omega
theorem ofw_red (w0 w1 w2 w3 : BitVec 64) : Red (ofw w0 w1 w2 w3) := by
  constructor <;> unfold ofw <;> simp only [and_mask] <;> omega
theorem ofw_val (w0 w1 w2 w3 : BitVec 64) : (ofw w0 w1 w2 w3).val = (w0.toNat + 2^64 * w1.toNat + 2^128 * w2.toNat + 2^192 * w3.toNat) % 2^255 := by
  unfold ofw val
  simp only [and_mask, or_nat _ _ 51 13 rfl (by omega), or_nat _ _ 38 26 rfl (by omega), or_nat _ _ 25 39 rfl (by omega)]
  rw [BitVec.toNat_ushiftRight, Nat.shiftRight_eq_div_pow]
  have := w0.isLt; have := w1.isLt; have := w2.isLt; have := w3.isLt
  omega
def of (b : Nat → BitVec 8) : E5 := ofw (word b 0 8) (word b 1 8) (word b 2 8) (word b 3 8)
theorem of_red (b : Nat → BitVec 8) : Red (of b) := ofw_red _ _ _ _
theorem of_val (b : Nat → BitVec 8) : (of b).val = num b 32 % 2^255 := by
  unfold of
  rw [ofw_val, word_nat _ _ _ (by omega), word_nat _ _ _ (by omega), word_nat _ _ _ (by omega), word_nat _ _ _ (by omega)]
  have h1 := num_shift b 8 24
  have h2 := num_shift (fun i => b (8 + i)) 8 16
  have h3 := num_shift (fun i => b (8 + (8 + i))) 8 8
  rw [show 8 + 24 = 32 by rfl] at h1
  rw [h1, show 24 = 8 + 16 by rfl, h2, show 16 = 8 + 8 by rfl, h3]
  simp only [Nat.mul_zero, Nat.zero_add, Nat.mul_one, ← Nat.add_assoc, Nat.reduceAdd, Nat.reduceMul]
  rw [show (fun i => b i) = b from rfl]
  congr 1
  omega
theorem Red.ok {x : E5} (h : Red x) : Ok x := by
  obtain ⟨a, b, c, d, e⟩ := h
  constructor <;> omega
/-- The words of a reduced number. -/
def w0 (r : E5) : BitVec 64 := r.a ||| r.b <<< 51
def w1 (r : E5) : BitVec 64 := r.b >>> 13 ||| r.c <<< 38
def w2 (r : E5) : BitVec 64 := r.c >>> 26 ||| r.d <<< 25
def w3 (r : E5) : BitVec 64 := r.d >>> 39 ||| r.e <<< 12
theorem or_low (x y : BitVec 64) (t : Nat) (h : x.toNat < 2 ^ t) : (x ||| y <<< t).toNat = x.toNat + y.toNat * 2 ^ t % 2 ^ 64 := by
  rw [BitVec.toNat_or, BitVec.toNat_shiftLeft, Nat.shiftLeft_eq]
  by_cases ht : t ≤ 64
  · have h2 : y.toNat * 2 ^ t % 2 ^ 64 = (y.toNat % 2 ^ (64 - t)) * 2 ^ t := by
      generalize y.toNat = n
      rw [show 2 ^ 64 = 2 ^ (64 - t) * 2 ^ t by rw [← Nat.pow_add]; congr 1; omega, Nat.mul_mod_mul_right]
    rw [h2, Nat.or_comm, ← Nat.shiftLeft_eq, ← Nat.shiftLeft_add_eq_or_of_lt h]
    omega
  · have : y.toNat * 2 ^ t % 2 ^ 64 = 0 := by
      rw [show t = (t - 64) + 64 by omega, Nat.pow_add, ← Nat.mul_assoc, Nat.mul_mod_left]
    rw [this]; simp
theorem words_val {r : E5} (h : Red r) : (w0 r).toNat + 2^64 * (w1 r).toNat + 2^128 * (w2 r).toNat + 2^192 * (w3 r).toNat = r.val := by
  obtain ⟨a, b, c, d, e⟩ := h
  unfold w0 w1 w2 w3 val
  rw [or_low _ _ 51 (by omega), or_low _ _ 38 (by rw [BitVec.toNat_ushiftRight, Nat.shiftRight_eq_div_pow]; omega), or_low _ _ 25 (by rw [BitVec.toNat_ushiftRight, Nat.shiftRight_eq_div_pow]; omega), or_low _ _ 12 (by rw [BitVec.toNat_ushiftRight, Nat.shiftRight_eq_div_pow]; omega)]
  simp only [BitVec.toNat_ushiftRight, Nat.shiftRight_eq_div_pow]
  omega
def wordOf (r : E5) (j : Nat) : BitVec 64 := match j with | 0 => w0 r | 1 => w1 r | 2 => w2 r | _ => w3 r
/-- A byte of a reduced number. -/
def byteR (r : E5) (i : Nat) : BitVec 8 := (wordOf r (i / 8) >>> (8 * (i % 8))).setWidth 8
def byte (x : E5) (i : Nat) : BitVec 8 := byteR (reduced x) i
theorem byteR_nat {r : E5} (h : Red r) (i : Nat) (hi : i < 32) : (byteR r i).toNat = r.val / 256 ^ i % 256 := by
  have hv := words_val h
  unfold byteR
  rw [BitVec.toNat_setWidth, BitVec.toNat_ushiftRight, Nat.shiftRight_eq_div_pow, ← hv]
  have h256 : (256 : Nat) ^ i = 2 ^ (64 * (i / 8)) * 2 ^ (8 * (i % 8)) := by
    rw [← Nat.pow_add, show (256 : Nat) = 2 ^ 8 by rfl, ← Nat.pow_mul]
    congr 1
    omega
  rw [h256, ← Nat.div_div_eq_div_mul]
  have l0 := (w0 r).isLt; have l1 := (w1 r).isLt; have l2 := (w2 r).isLt; have l3 := (w3 r).isLt
  have hs : i % 8 = 0 ∨ i % 8 = 1 ∨ i % 8 = 2 ∨ i % 8 = 3 ∨ i % 8 = 4 ∨ i % 8 = 5 ∨ i % 8 = 6 ∨ i % 8 = 7 := by omega
  have hj : i / 8 = 0 ∨ i / 8 = 1 ∨ i / 8 = 2 ∨ i / 8 = 3 := by omega
  rcases hj with hj | hj | hj | hj <;> rw [hj] <;> simp only [wordOf, Nat.mul_zero, Nat.pow_zero, Nat.div_one, Nat.mul_one]
  all_goals
    rcases hs with hs | hs | hs | hs | hs | hs | hs | hs <;> rw [hs] <;> simp only [Nat.reduceMul, Nat.reducePow] <;> omega
theorem byte_nat {x : E5} (h : Ok x) (i : Nat) (hi : i < 32) : (byte x i).toNat = (x.val % p) / 256 ^ i % 256 := by
  unfold byte
  rw [byteR_nat (reduced_red x) i hi, (reduced_ok h).2]
theorem byte_congr {x y : E5} (hx : Ok x) (hy : Ok y) (h : x.val % p = y.val % p) (i : Nat) (hi : i < 32) : byte x i = byte y i := by
  apply BitVec.eq_of_toNat_eq
  rw [byte_nat hx i hi, byte_nat hy i hi, h]

/-- The power p - 2, step by step. -/
def invTo (x : E5) : Nat → E5
  | 0 => x
  | k + 1 => if k = 249 ∨ k = 251 then mul (invTo x k) (invTo x k) else mul (mul (invTo x k) (invTo x k)) x
def inv (x : E5) : E5 := invTo x 254
def expo : Nat → Nat
  | 0 => 1
  | k + 1 => if k = 249 ∨ k = 251 then 2 * expo k else 2 * expo k + 1
theorem expo_all : expo 254 = p - 2 := by decide +kernel
theorem mul_mod {x y : E5} (hx : Ok x) (hy : Ok y) {n m : Nat} (h : x.val % p = n % p) (g : y.val % p = m % p) : (mul x y).val % p = (n * m) % p := by
  rw [(mul_ok hx hy).2, Nat.mul_mod, h, g, ← Nat.mul_mod]
theorem invTo_ok {x : E5} (hx : Ok x) (k : Nat) : Ok (invTo x k) ∧ (invTo x k).val % p = x.val ^ expo k % p := by
  induction k with
  | zero => exact ⟨hx, by simp [invTo, expo]⟩
  | succ k ih =>
    obtain ⟨h1, h2⟩ := ih
    unfold invTo expo
    by_cases hk : k = 249 ∨ k = 251
    · rw [if_pos hk, if_pos hk]
      refine ⟨(mul_ok h1 h1).1, ?_⟩
      rw [mul_mod h1 h1 h2 h2, ← Nat.pow_add, Nat.two_mul]
    · rw [if_neg hk, if_neg hk]
      have h3 := mul_ok h1 h1
      refine ⟨(mul_ok h3.1 hx).1, ?_⟩
      rw [mul_mod h3.1 hx (mul_mod h1 h1 h2 h2) (m := x.val) rfl, ← Nat.pow_add, Nat.pow_succ, Nat.two_mul]
theorem inv_ok {x : E5} (hx : Ok x) : Ok (inv x) ∧ (inv x).val % p = x.val ^ (p - 2) % p := by
  have := invTo_ok hx 254
  rw [expo_all] at this
  exact this
end E5
end Go.Proofs.Ytmfiabkhnoimhaa
