/-
  WHAT WAS SEALED IS OPENED, as plain functions.
-/
import Derived.Test.YtoocglckhphepaaGcmJ
namespace Go.Proofs.Ytoocglckhphepaa
open Go
theorem wd8_congr (f g : Nat → BitVec 8) (h : ∀ i, i < 8 → f i = g i) : wd8 f = wd8 g := by
  unfold wd8
  rw [h 0 (by omega), h 1 (by omega), h 2 (by omega), h 3 (by omega), h 4 (by omega), h 5 (by omega), h 6 (by omega), h 7 (by omega)]
theorem of2_congr (f g : Nat → BitVec 8) (h : ∀ i, i < 16 → f i = g i) : W2.of f = W2.of g := by
  unfold W2.of
  rw [wd8_congr f g (fun i hi => h i (by omega)), wd8_congr (fun i => f (8 + i)) (fun i => g (8 + i)) (fun i hi => h (8 + i) (by omega))]
theorem sumK_congr (h r : W2) (f g : Nat → BitVec 8) (k : Nat) (e : ∀ i, i < 16 * k → f i = g i) : sumK h r f k = sumK h r g k := by
  induction k with
  | zero => rfl
  | succ k ih =>
    unfold sumK
    rw [ih (fun i hi => e i (by omega)), of2_congr _ (fun i => g (16 * k + i)) (fun i hi => e _ (by omega))]
theorem sumB_congr (h r : W2) (f g : Nat → BitVec 8) (n : Nat) (e : ∀ i, i < n → f i = g i) : sumB h r f n = sumB h r g n := by
  unfold sumB
  have hd := Nat.div_add_mod n 16
  rw [sumK_congr h r f g (n / 16) (fun i hi => e i (by omega))]
  rw [of2_congr (padF (fun i => f (16 * (n / 16) + i)) (n % 16)) (padF (fun i => g (16 * (n / 16) + i)) (n % 16)) (fun i _ => by
    unfold padF
    by_cases hi : i < n % 16
    · rw [if_pos hi, if_pos hi]; exact e _ (by omega)
    · rw [if_neg hi, if_neg hi])]
theorem tagW_congr (ks : Nat → BitVec 32) (h : W2) (f g : Nat → BitVec 8) (n : Nat) (u v : Nat → BitVec 8) (m : Nat) (e : ∀ i, i < m → u i = v i) : tagW ks h f g n u m = tagW ks h f g n v m := by
  unfold tagW
  rw [sumB_congr h _ u v m e]
theorem sealF_lo (ks : Nat → BitVec 32) (h : W2) (f g : Nat → BitVec 8) (n : Nat) (xs : Nat → BitVec 8) (m i : Nat) (hi : i < m) : sealF ks h f g n xs m i = hid ks f xs i := by
  unfold sealF joinb
  rw [if_pos hi]
theorem hid_hid (ks : Nat → BitVec 32) (h : W2) (f g : Nat → BitVec 8) (n : Nat) (xs : Nat → BitVec 8) (m i : Nat) (hi : i < m) : hid ks f (sealF ks h f g n xs m) i = xs i := by
  unfold hid
  rw [sealF_lo ks h f g n xs m i hi]
  unfold hid
  rw [BitVec.xor_assoc, BitVec.xor_self, BitVec.xor_zero]
theorem openE_sealed (ks : Nat → BitVec 32) (h : W2) (f g : Nat → BitVec 8) (n : Nat) (xs : Nat → BitVec 8) (m : Nat) : openE ks h f g n (sealF ks h f g n xs m) m = true := by
  unfold openE
  rw [beq_iff_eq, accD_zero]
  intro i hi
  rw [tagW_congr ks h f g n (sealF ks h f g n xs m) (hid ks f xs) m (fun j hj => sealF_lo ks h f g n xs m j hj)]
  show _ = sealF ks h f g n xs m (m + i)
  unfold sealF joinb
  rw [if_neg (by omega), show m + i - m = i by omega]
end Go.Proofs.Ytoocglckhphepaa
