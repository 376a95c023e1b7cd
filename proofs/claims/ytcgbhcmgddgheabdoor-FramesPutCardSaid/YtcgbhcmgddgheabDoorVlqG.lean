/-
  WHAT IS PUT IS GOT; the order of numbers is that of their bytes.
-/
import Derived.Test.YtcgbhcmgddgheabDoorVlqF
namespace Go.Proofs.YtcgbhcmgddgheabDoor
open Go Go.RowKit Go.BigFrame
theorem gotten_back (x : BitVec 64) (k : Nat) (hk : k < 4) (hx : x.toNat < 2 ^ (8 * 2 ^ k - 2)) : gotten (vbyte x k) (2 ^ k) = .tuple #[.int .u64 (n64 x), .int .i64 ((2 ^ k : Nat) : Int), .int .i64 0] := by
  have hg : gk (vbyte x k) = k := size_vbyte x k hk hx
  rw [gotten_yes (k := k) (n := 2 ^ k) (by have := Nat.two_pow_pos k; omega) (by rw [hg]; exact Nat.le_refl _) hg rfl, getN_vbyte x k hk hx]
theorem MyRow.bytesIn {w0 w : World} {r n : Nat} {T : TypeId} {f : Nat → BitVec 8} (h : MyRow w0 r n T f w) (hn : n ≤ maxLen) : BytesIn w (some ⟨r, 0, none⟩) n f :=
  ⟨hn, .inr ⟨r, 0, rfl, h.lt, fun i hi => by rw [Nat.zero_add]; exact h.at i hi⟩⟩
def valL : List UInt8 → Nat
  | [] => 0
  | b :: l => b.toNat * 256 ^ l.length + valL l
theorem valL_cons (b : UInt8) (l : List UInt8) : valL (b :: l) = b.toNat * 256 ^ l.length + valL l := rfl
theorem valL_lt : ∀ l : List UInt8, valL l < 256 ^ l.length
  | [] => by simp [valL]
  | b :: l => by
    have h := valL_lt l
    have hb := b.toNat_lt
    rw [valL_cons, List.length_cons, Nat.pow_succ, Nat.mul_comm (256 ^ l.length)]
    have : b.toNat * 256 ^ l.length + 256 ^ l.length ≤ 256 * 256 ^ l.length := by
      rw [← Nat.succ_mul]
      exact Nat.mul_le_mul_right _ hb
    omega
theorem bytesLess_val : ∀ (a b : List UInt8), a.length = b.length → Op.bytesLess a b = decide (valL a < valL b)
  | [], [], _ => by simp [Op.bytesLess, valL]
  | x :: a, y :: b, h => by
    have hl : a.length = b.length := by simpa using h
    have ih := bytesLess_val a b hl
    have h1 := valL_lt a
    have h2 := valL_lt b
    unfold Op.bytesLess
    rw [ih, Bool.eq_iff_iff]
    simp only [Bool.or_eq_true, Bool.and_eq_true, decide_eq_true_eq, beq_iff_eq]
    rw [valL_cons, valL_cons, hl]
    rw [hl] at h1
    constructor
    · rintro (hxy | ⟨rfl, hv⟩)
      · have : x.toNat + 1 ≤ y.toNat := UInt8.lt_iff_toNat_lt.1 hxy
        have : (x.toNat + 1) * 256 ^ b.length ≤ y.toNat * 256 ^ b.length := Nat.mul_le_mul_right _ this
        rw [Nat.succ_mul] at this
        omega
      · omega
    · intro hv
      rcases Nat.lt_trichotomy x.toNat y.toNat with hxy | hxy | hxy
      · exact .inl (UInt8.lt_iff_toNat_lt.2 hxy)
      · obtain rfl : x = y := UInt8.toNat_inj.1 hxy
        exact .inr ⟨rfl, by omega⟩
      · have : (y.toNat + 1) * 256 ^ b.length ≤ x.toNat * 256 ^ b.length := Nat.mul_le_mul_right _ hxy
        rw [Nat.succ_mul] at this
        omega
theorem strOf_toList (f : Nat → BitVec 8) (n : Nat) : (strOf f n).toList = strL f n := by rw [ByteArray.toList_eq]; simp [strOf]
theorem strL1 (f : Nat → BitVec 8) : strL f 1 = [UInt8.ofBitVec (f 0)] := rfl
theorem strL2 (f : Nat → BitVec 8) : strL f 2 = [UInt8.ofBitVec (f 0), UInt8.ofBitVec (f 1)] := rfl
theorem strL4 (f : Nat → BitVec 8) : strL f 4 = [UInt8.ofBitVec (f 0), UInt8.ofBitVec (f 1), UInt8.ofBitVec (f 2), UInt8.ofBitVec (f 3)] := rfl
theorem strL8 (f : Nat → BitVec 8) : strL f 8 = [UInt8.ofBitVec (f 0), UInt8.ofBitVec (f 1), UInt8.ofBitVec (f 2), UInt8.ofBitVec (f 3), UInt8.ofBitVec (f 4), UInt8.ofBitVec (f 5), UInt8.ofBitVec (f 6), UInt8.ofBitVec (f 7)] := rfl
theorem ofBV_nat (b : BitVec 8) : (UInt8.ofBitVec b).toNat = b.toNat := rfl
theorem valL_nil : valL [] = 0 := rfl
theorem sum1 (X a : Nat) (h : X < 2 ^ 6) (ha : a = (X + 0 * 2 ^ 6) / 2 ^ 0 % 256) : a * 256 ^ 0 + 0 = X + 0 * 2 ^ 6 := by omega
theorem sum2 (X a b : Nat) (h : X < 2 ^ 14) (ha : a = (X + 1 * 2 ^ 14) / 2 ^ 8 % 256) (hb : b = (X + 1 * 2 ^ 14) / 2 ^ 0 % 256) : a * 256 ^ 1 + (b * 256 ^ 0 + 0) = X + 1 * 2 ^ 14 := by omega
theorem sum4 (X a b c d : Nat) (h : X < 2 ^ 30) (ha : a = (X + 2 * 2 ^ 30) / 2 ^ 24 % 256) (hb : b = (X + 2 * 2 ^ 30) / 2 ^ 16 % 256) (hc : c = (X + 2 * 2 ^ 30) / 2 ^ 8 % 256) (hd : d = (X + 2 * 2 ^ 30) / 2 ^ 0 % 256) :
    a * 256 ^ 3 + (b * 256 ^ 2 + (c * 256 ^ 1 + (d * 256 ^ 0 + 0))) = X + 2 * 2 ^ 30 := by omega
theorem sum8 (X a b c d e f g i : Nat) (h : X < 2 ^ 62) (ha : a = (X + 3 * 2 ^ 62) / 2 ^ 56 % 256) (hb : b = (X + 3 * 2 ^ 62) / 2 ^ 48 % 256) (hc : c = (X + 3 * 2 ^ 62) / 2 ^ 40 % 256) (hd : d = (X + 3 * 2 ^ 62) / 2 ^ 32 % 256)
    (he : e = (X + 3 * 2 ^ 62) / 2 ^ 24 % 256) (hf : f = (X + 3 * 2 ^ 62) / 2 ^ 16 % 256) (hg : g = (X + 3 * 2 ^ 62) / 2 ^ 8 % 256) (hi : i = (X + 3 * 2 ^ 62) / 2 ^ 0 % 256) :
    a * 256 ^ 7 + (b * 256 ^ 6 + (c * 256 ^ 5 + (d * 256 ^ 4 + (e * 256 ^ 3 + (f * 256 ^ 2 + (g * 256 ^ 1 + (i * 256 ^ 0 + 0))))))) = X + 3 * 2 ^ 62 := by omega
theorem val_vbyte (x : BitVec 64) (k : Nat) (hk : k < 4) (hx : x.toNat < 2 ^ (8 * 2 ^ k - 2)) : valL (strL (vbyte x k) (2 ^ k)) = x.toNat + k * 2 ^ (8 * 2 ^ k - 2) := by
  have hv := fun i => vbyte_nat x k i hk hx
  generalize vbyte x k = f at hv
  obtain rfl | rfl | rfl | rfl : k = 0 ∨ k = 1 ∨ k = 2 ∨ k = 3 := by omega
  · have e : valL (strL f (2 ^ 0)) = (f 0).toNat * 256 ^ 0 + 0 := by rw [show 2 ^ 0 = 1 from rfl, strL1]; simp only [valL_cons, valL_nil, ofBV_nat, List.length_nil]
    rw [e]
    exact sum1 _ _ hx (hv 0)
  · have e : valL (strL f (2 ^ 1)) = (f 0).toNat * 256 ^ 1 + ((f 1).toNat * 256 ^ 0 + 0) := by rw [show 2 ^ 1 = 2 from rfl, strL2]; simp only [valL_cons, valL_nil, ofBV_nat, List.length_nil, List.length_cons]
    rw [e]
    exact sum2 _ _ _ hx (hv 0) (hv 1)
  · have e : valL (strL f (2 ^ 2)) = (f 0).toNat * 256 ^ 3 + ((f 1).toNat * 256 ^ 2 + ((f 2).toNat * 256 ^ 1 + ((f 3).toNat * 256 ^ 0 + 0))) := by
      rw [show 2 ^ 2 = 4 from rfl, strL4]; simp only [valL_cons, valL_nil, ofBV_nat, List.length_nil, List.length_cons]
    rw [e]
    exact sum4 _ _ _ _ _ hx (hv 0) (hv 1) (hv 2) (hv 3)
  · have e : valL (strL f (2 ^ 3)) = (f 0).toNat * 256 ^ 7 + ((f 1).toNat * 256 ^ 6 + ((f 2).toNat * 256 ^ 5 + ((f 3).toNat * 256 ^ 4 + ((f 4).toNat * 256 ^ 3 + ((f 5).toNat * 256 ^ 2 + ((f 6).toNat * 256 ^ 1 + ((f 7).toNat * 256 ^ 0 + 0))))))) := by
      rw [show 2 ^ 3 = 8 from rfl, strL8]; simp only [valL_cons, valL_nil, ofBV_nat, List.length_nil, List.length_cons]
    rw [e]
    exact sum8 _ _ _ _ _ _ _ _ _ hx (hv 0) (hv 1) (hv 2) (hv 3) (hv 4) (hv 5) (hv 6) (hv 7)
theorem less_str (x y : BitVec 64) (k : Nat) (hk : k < 4) (hx : x.toNat < 2 ^ (8 * 2 ^ k - 2)) (hy : y.toNat < 2 ^ (8 * 2 ^ k - 2)) :
    Op.bytesLess (strOf (vbyte x k) (2 ^ k)).toList (strOf (vbyte y k) (2 ^ k)).toList = decide (x.toNat < y.toNat) := by
  rw [strOf_toList, strOf_toList, bytesLess_val _ _ (by rw [strL_length, strL_length]), val_vbyte x k hk hx, val_vbyte y k hk hy]
  congr 1
  apply propext
  omega
theorem least_mono {x y : BitVec 64} (h : x.toNat ≤ y.toNat) : least x ≤ least y := by
  unfold least
  split <;> split <;> (try split) <;> (try split) <;> (try split) <;> (try split) <;> omega
theorem fits_more {x : BitVec 64} {k j : Nat} (hkj : k ≤ j) (hx : x.toNat < 2 ^ (8 * 2 ^ k - 2)) : x.toNat < 2 ^ (8 * 2 ^ j - 2) :=
  Nat.lt_of_lt_of_le hx (Nat.pow_le_pow_right (by decide) (by have := Nat.pow_le_pow_right (n := 2) (by decide) hkj; omega))
theorem remTop (t : TypeId) (x : BitVec 64) : binOp .rem t (.int .u64 (n64 x)) (.int .u64 4611686018427387904) = pure (.int .u64 (n64 (x &&& 4611686018427387903#64))) := by
  have h : (n64 x).tmod 4611686018427387904 = n64 (x &&& 4611686018427387903#64) := by
    rw [n64_nat, n64_nat, Int.tmod_eq_emod_of_nonneg (by omega), BitVec.toNat_and, show (4611686018427387903#64).toNat = 2 ^ 62 - 1 from rfl, Nat.and_two_pow_sub_one_eq_mod]
    omega
  simp [binOp_rem, Op.intDiv, h]
attribute [go_sem high] remTop
theorem top_lt (x : BitVec 64) : (x &&& 4611686018427387903#64).toNat < 2 ^ 62 := by
  rw [BitVec.toNat_and, show (4611686018427387903#64).toNat = 2 ^ 62 - 1 from rfl, Nat.and_two_pow_sub_one_eq_mod]
  exact Nat.mod_lt _ (by decide)
end Go.Proofs.YtcgbhcmgddgheabDoor
