/-
  THE BYTES OF A NUMBER, plain mathematics: what the program and the document reckon, and that it comes back.
-/
namespace Go.Proofs.YtcgbhcmgddgheabDoor
/-- The byte i of 2^k, as the program makes it: the size's bits are laid beside the number's. -/
def vbyte (x : BitVec 64) (k i : Nat) : BitVec 8 := ((x ||| (BitVec.ofNat 64 k <<< (8 * 2 ^ k - 2))) >>> (8 * (2 ^ k - 1 - i))).setWidth 8
/-- As the document does: the size's bits are added to the first byte. -/
def rbyte (x : BitVec 64) (k i : Nat) : BitVec 8 := if i = 0 then (x >>> (8 * (2 ^ k - 1))).setWidth 8 + BitVec.ofNat 8 (64 * k) else (x >>> (8 * (2 ^ k - 1 - i))).setWidth 8
theorem or_code (x : BitVec 64) (k : Nat) (hk : k < 4) (hx : x.toNat < 2 ^ (8 * 2 ^ k - 2)) : (x ||| (BitVec.ofNat 64 k <<< (8 * 2 ^ k - 2))).toNat = x.toNat + k * 2 ^ (8 * 2 ^ k - 2) := by
  have h0 : x &&& (BitVec.ofNat 64 k <<< (8 * 2 ^ k - 2)) = 0#64 := by
    apply BitVec.eq_of_getLsbD_eq
    intro i hi
    rw [BitVec.getLsbD_and, BitVec.getLsbD_shiftLeft]
    by_cases h : i < 8 * 2 ^ k - 2
    · simp [h]
    · have hb : x.getLsbD i = false := by
        rw [BitVec.getLsbD, Nat.testBit_lt_two_pow]
        exact Nat.lt_of_lt_of_le hx (Nat.pow_le_pow_right (by decide) (by omega))
      simp [hb]
  rw [← BitVec.add_eq_or_of_and_eq_zero _ _ h0, BitVec.toNat_add, BitVec.toNat_shiftLeft, BitVec.toNat_ofNat, Nat.shiftLeft_eq]
  match k, hk with
  | 0, _ => simp at *; omega
  | 1, _ => simp at *; omega
  | 2, _ => simp at *; omega
  | 3, _ => simp at *; omega
theorem vbyte_nat (x : BitVec 64) (k i : Nat) (hk : k < 4) (hx : x.toNat < 2 ^ (8 * 2 ^ k - 2)) : (vbyte x k i).toNat = (x.toNat + k * 2 ^ (8 * 2 ^ k - 2)) / 2 ^ (8 * (2 ^ k - 1 - i)) % 256 := by
  unfold vbyte
  rw [BitVec.toNat_setWidth, BitVec.toNat_ushiftRight, or_code x k hk hx, Nat.shiftRight_eq_div_pow]
theorem rbyte_nat (x : BitVec 64) (k i : Nat) : (rbyte x k i).toNat = if i = 0 then (x.toNat / 2 ^ (8 * (2 ^ k - 1)) % 256 + 64 * k) % 256 else x.toNat / 2 ^ (8 * (2 ^ k - 1 - i)) % 256 := by
  unfold rbyte
  split
  · rw [BitVec.toNat_add, BitVec.toNat_setWidth, BitVec.toNat_ushiftRight, Nat.shiftRight_eq_div_pow, BitVec.toNat_ofNat]; omega
  · rw [BitVec.toNat_setWidth, BitVec.toNat_ushiftRight, Nat.shiftRight_eq_div_pow]
theorem vbyte_rbyte (x : BitVec 64) (k i : Nat) (hk : k < 4) (hi : i < 2 ^ k) (hx : x.toNat < 2 ^ (8 * 2 ^ k - 2)) : vbyte x k i = rbyte x k i := by
  apply BitVec.eq_of_toNat_eq
  rw [vbyte_nat x k i hk hx, rbyte_nat]
  match k, hk with
  | 0, _ =>
    obtain rfl : i = 0 := by simp at hi; omega
    simp at *
  | 1, _ =>
    simp at hi hx
    match i, hi with
    | 0, _ => simp; omega
    | 1, _ => simp; omega
  | 2, _ =>
    simp at hi hx
    match i, hi with
    | 0, _ => simp; omega
    | 1, _ => simp; omega
    | 2, _ => simp; omega
    | 3, _ => simp; omega
  | 3, _ =>
    simp at hi hx
    match i, hi with
    | 0, _ => simp; omega
    | 1, _ => simp; omega
    | 2, _ => simp; omega
    | 3, _ => simp; omega
    | 4, _ => simp; omega
    | 5, _ => simp; omega
    | 6, _ => simp; omega
    | 7, _ => simp; omega
/-- The number of the first j + 1 bytes. -/
def getN (f : Nat → BitVec 8) : Nat → BitVec 64
  | 0 => (f 0).setWidth 64 &&& 63#64
  | j + 1 => getN f j <<< 8 ||| (f (j + 1)).setWidth 64
theorem step_or (n : BitVec 64) (v : BitVec 8) : n <<< 8 ||| v.setWidth 64 = n * 256#64 + v.setWidth 64 := by
  have h0 : n <<< 8 &&& v.setWidth 64 = 0#64 := by
    apply BitVec.eq_of_getLsbD_eq
    intro i hi
    rw [BitVec.getLsbD_and, BitVec.getLsbD_shiftLeft, BitVec.getLsbD_setWidth]
    by_cases h : i < 8
    · simp [h]
    · have : v.getLsbD i = false := BitVec.getLsbD_of_ge _ _ (by omega)
      simp [this]
  rw [← BitVec.add_eq_or_of_and_eq_zero _ _ h0]
  congr 1
  apply BitVec.eq_of_toNat_eq
  rw [BitVec.toNat_shiftLeft, BitVec.toNat_mul, Nat.shiftLeft_eq]
  rfl
def gN (f : Nat → BitVec 8) : Nat → Nat
  | 0 => (f 0).toNat % 64
  | j + 1 => gN f j * 256 + (f (j + 1)).toNat
theorem gN_lt (f : Nat → BitVec 8) : ∀ j, gN f j < 64 * 256 ^ j
  | 0 => by unfold gN; omega
  | j + 1 => by
    have h := gN_lt f j
    have h2 := (f (j + 1)).isLt
    unfold gN
    rw [Nat.pow_succ]
    omega
theorem getN_nat (f : Nat → BitVec 8) : ∀ j, j < 8 → (getN f j).toNat = gN f j
  | 0, _ => by
    unfold getN gN
    rw [BitVec.toNat_and, BitVec.toNat_setWidth]
    rw [show (63#64).toNat = 2 ^ 6 - 1 from rfl, Nat.and_two_pow_sub_one_eq_mod]
    have := (f 0).isLt
    omega
  | j + 1, h => by
    have ih := getN_nat f j (by omega)
    have hl := gN_lt f j
    have h2 := (f (j + 1)).isLt
    have hp : 256 ^ j ≤ 256 ^ 6 := Nat.pow_le_pow_right (by decide) (by omega)
    unfold getN gN
    rw [step_or, BitVec.toNat_add, BitVec.toNat_mul, BitVec.toNat_setWidth, ih]
    rw [show (256#64).toNat = 256 from rfl]
    omega
theorem getN_congr {f g : Nat → BitVec 8} : ∀ j, (∀ i, i ≤ j → f i = g i) → getN f j = getN g j
  | 0, h => by unfold getN; rw [h 0 (by omega)]
  | j + 1, h => by unfold getN; rw [getN_congr j (fun i hi => h i (by omega)), h (j + 1) (by omega)]
/-- What is put is got. -/
theorem getN_vbyte (x : BitVec 64) (k : Nat) (hk : k < 4) (hx : x.toNat < 2 ^ (8 * 2 ^ k - 2)) : getN (vbyte x k) (2 ^ k - 1) = x := by
  apply BitVec.eq_of_toNat_eq
  rw [getN_nat _ _ (by match k, hk with | 0, _ => decide | 1, _ => decide | 2, _ => decide | 3, _ => decide)]
  match k, hk with
  | 0, _ =>
    simp only [gN, Nat.reducePow, Nat.reduceSub, vbyte_nat x 0 _ (by decide) hx]
    simp at hx ⊢; omega
  | 1, _ =>
    simp only [gN, Nat.reducePow, Nat.reduceSub, vbyte_nat x 1 _ (by decide) hx]
    simp at hx ⊢; omega
  | 2, _ =>
    simp only [gN, Nat.reducePow, Nat.reduceSub, vbyte_nat x 2 _ (by decide) hx]
    simp at hx ⊢; omega
  | 3, _ =>
    simp only [gN, Nat.reducePow, Nat.reduceSub, vbyte_nat x 3 _ (by decide) hx]
    simp at hx ⊢; omega
theorem size_vbyte (x : BitVec 64) (k : Nat) (hk : k < 4) (hx : x.toNat < 2 ^ (8 * 2 ^ k - 2)) : (vbyte x k 0 >>> 6).toNat = k := by
  rw [BitVec.toNat_ushiftRight, vbyte_nat x k 0 hk hx, Nat.shiftRight_eq_div_pow]
  match k, hk with
  | 0, _ => simp at hx ⊢; omega
  | 1, _ => simp at hx ⊢; omega
  | 2, _ => simp at hx ⊢; omega
  | 3, _ => simp at hx ⊢; omega
/-- The least size: 2^(least x) bytes. -/
def least (x : BitVec 64) : Nat := if x.toNat < 64 then 0 else if x.toNat < 16384 then 1 else if x.toNat < 1073741824 then 2 else 3
theorem least_lt (x : BitVec 64) : least x < 4 := by unfold least; split <;> (try split) <;> (try split) <;> omega
theorem least_fits (x : BitVec 64) (h : x.toNat < 2 ^ 62) : x.toNat < 2 ^ (8 * 2 ^ least x - 2) := by
  unfold least
  split
  · simp; omega
  · split
    · simp; omega
    · split
      · simp; omega
      · simp; omega
theorem shr_ne (x : BitVec 64) (s : Nat) : (x >>> s = 0#64) ↔ x.toNat < 2 ^ s := by
  rw [← BitVec.toNat_inj, BitVec.toNat_ushiftRight, Nat.shiftRight_eq_div_pow]
  simp
end Go.Proofs.YtcgbhcmgddgheabDoor
