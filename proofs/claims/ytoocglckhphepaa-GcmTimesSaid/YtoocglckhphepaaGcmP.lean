/-
  THE DOCUMENT'S PRODUCT: a block's bits are its polynomial's; the bytes that are told.
-/
import Derived.Test.YtoocglckhphepaaGcmO
namespace Go.Proofs.Ytoocglckhphepaa
open Go Go.RowKit Go.BigFrame
set_option maxRecDepth 100000
set_option linter.unusedSimpArgs false
theorem wd8_bit (f : Nat → BitVec 8) (q r : Nat) (hq : q < 8) (hr : r < 8) : (wd8 f).getLsbD (63 - (8 * q + r)) = (f q).getLsbD (7 - r) := by
  unfold wd8
  have hz : ∀ (i k : Nat), 8 ≤ k → (f i).getLsbD k = false := fun i k h => BitVec.getLsbD_of_ge _ _ h
  rcases (by omega : q = 0 ∨ q = 1 ∨ q = 2 ∨ q = 3 ∨ q = 4 ∨ q = 5 ∨ q = 6 ∨ q = 7) with rfl | rfl | rfl | rfl | rfl | rfl | rfl | rfl <;>
  rcases (by omega : r = 0 ∨ r = 1 ∨ r = 2 ∨ r = 3 ∨ r = 4 ∨ r = 5 ∨ r = 6 ∨ r = 7) with rfl | rfl | rfl | rfl | rfl | rfl | rfl | rfl <;>
  simp [hz]
theorem of_bit (f : Nat → BitVec 8) (i : Nat) (hi : i < 128) : (W2.of f).poly.getLsbD i = bitS f i := by
  rw [poly_bit _ i hi]
  unfold bitS W2.of
  by_cases h : i < 64
  · rw [if_pos h]
    have := wd8_bit f (i / 8) (i % 8) (by omega) (by omega)
    rw [show 8 * (i / 8) + i % 8 = i by omega] at this
    exact this
  · rw [if_neg h]
    have := wd8_bit (fun j => f (8 + j)) (i / 8 - 8) (i % 8) (by omega) (by omega)
    rw [show 63 - (8 * (i / 8 - 8) + i % 8) = 127 - i by omega] at this
    rw [this, show 8 + (i / 8 - 8) = i / 8 by omega]
/-- A byte, by its bits, the highest first. -/
def sumP (p : Nat → Bool) (j : Nat) : Nat → BitVec 8
  | 0 => 0#8
  | b + 1 => if p (8 * j + b) then sumP p j b + 128#8 >>> b else sumP p j b
def outB (p : Nat → Bool) : Nat → Nat → BitVec 8
  | 0 => fun _ => 0#8
  | k + 1 => if p k then updb (outB p k) (k / 8) (outB p k (k / 8) + 128#8 >>> (k % 8)) else outB p k
theorem outB_sum (p : Nat → Bool) (k j : Nat) : outB p k j = sumP p j (min 8 (k - 8 * j)) := by
  induction k with
  | zero => simp [outB, sumP]
  | succ k ih =>
    rw [outB]
    by_cases hj : j = k / 8
    · have e : min 8 (k + 1 - 8 * j) = min 8 (k - 8 * j) + 1 := by omega
      have e2 : min 8 (k - 8 * j) = k % 8 := by omega
      rw [e, sumP, ← ih, e2, show 8 * j + k % 8 = k by omega]
      by_cases hp : p k
      · rw [if_pos hp, if_pos hp, updb, if_pos hj, ← hj]
      · rw [if_neg hp, if_neg hp]
    · have e : min 8 (k + 1 - 8 * j) = min 8 (k - 8 * j) := by omega
      rw [e, ← ih]
      by_cases hp : p k
      · rw [if_pos hp, updb, if_neg hj]
      · rw [if_neg hp]
theorem sum8 : ∀ b0 b1 b2 b3 b4 b5 b6 b7 : Bool, ∀ c : Fin 8,
    (let p : Nat → Bool := fun i => match i with | 0 => b0 | 1 => b1 | 2 => b2 | 3 => b3 | 4 => b4 | 5 => b5 | 6 => b6 | _ => b7; (sumP p 0 8).getLsbD c.1 = p (7 - c.1)) := by decide +kernel
theorem sumP_congr (p q : Nat → Bool) (j i : Nat) (k : Nat) (h : ∀ b, b < k → p (8 * j + b) = q (8 * i + b)) : sumP p j k = sumP q i k := by
  induction k with
  | zero => rfl
  | succ k ih => rw [sumP, sumP, ih (fun b hb => h b (by omega)), h k (by omega)]
theorem sumP_bit (p : Nat → Bool) (j c : Nat) (hc : c < 8) : (sumP p j 8).getLsbD c = p (8 * j + (7 - c)) := by
  have h := sum8 (p (8 * j)) (p (8 * j + 1)) (p (8 * j + 2)) (p (8 * j + 3)) (p (8 * j + 4)) (p (8 * j + 5)) (p (8 * j + 6)) (p (8 * j + 7)) ⟨c, hc⟩
  dsimp only at h
  rw [sumP_congr p _ j 0 8 (fun b hb => ?_), h]
  · rcases (by omega : c = 0 ∨ c = 1 ∨ c = 2 ∨ c = 3 ∨ c = 4 ∨ c = 5 ∨ c = 6 ∨ c = 7) with rfl | rfl | rfl | rfl | rfl | rfl | rfl | rfl <;> rfl
  · rcases (by omega : b = 0 ∨ b = 1 ∨ b = 2 ∨ b = 3 ∨ b = 4 ∨ b = 5 ∨ b = 6 ∨ b = 7) with rfl | rfl | rfl | rfl | rfl | rfl | rfl | rfl <;> rfl
theorem byte_bit (x : W2) (j c : Nat) (hj : j < 16) (hc : c < 8) : (x.byte j).getLsbD c = x.poly.getLsbD (8 * j + (7 - c)) := by
  rw [poly_bit _ _ (by omega)]
  unfold W2.byte
  by_cases h : j < 8
  · rw [if_pos h, if_pos (by omega), BitVec.getLsbD_setWidth, BitVec.getLsbD_ushiftRight, show 56 - 8 * j + c = 63 - (8 * j + (7 - c)) by omega]
    simp [hc]
  · rw [if_neg h, if_neg (by omega), BitVec.getLsbD_setWidth, BitVec.getLsbD_ushiftRight, show 56 - 8 * (j - 8) + c = 127 - (8 * j + (7 - c)) by omega]
    simp [hc]
theorem out_byte (x : W2) (p : Nat → Bool) (h : ∀ i, i < 128 → p i = x.poly.getLsbD i) (j : Nat) (hj : j < 16) : outB p 128 j = x.byte j := by
  rw [outB_sum, show min 8 (128 - 8 * j) = 8 by omega]
  apply BitVec.eq_of_getLsbD_eq
  intro c hc
  rw [sumP_bit _ _ _ hc, byte_bit _ _ _ hj hc, h _ (by omega)]
theorem tog_row {w : World} {q : Nat} {T : TypeId} {g : BitVec 256} (h : w.heap[q]? = some (.cells (boolArr g.getLsbD 256) T (0, 0))) (j : Nat) (hj : j < 256) (b : Bool) (hb : b = !g.getLsbD j) :
    (w.setCell ⟨q, j, none⟩ (.bool b)).heap[q]? = some (.cells (boolArr (g ^^^ 1#256 <<< j).getLsbD 256) T (0, 0)) := by
  rw [heap_setCell_same _ _ _ _ _ _ h, boolArr_set]
  congr 2
  refine boolArr_congr _ _ _ (fun i hi => ?_)
  rw [BitVec.getLsbD_xor, GF.one_bit _ _ hj]
  by_cases hij : i = j
  · subst hij; simp [hb]
  · simp [hij]
theorem red_bit (p : BitVec 256) (i : Nat) (hi : i < 128) : (GF.redN p 128).getLsbD i = (GF.redV p).getLsbD i := by
  unfold GF.redV
  rw [BitVec.getLsbD_setWidth]
  simp [hi]
end Go.Proofs.Ytoocglckhphepaa
