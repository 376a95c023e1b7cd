/-
  THE SCHEDULE AND THE TURN, BYTE BY BYTE: what the document's answer reckons of bytes the program reckons of words.
-/
import Derived.Test.YtoocglckhphepaaRefC
import Derived.Test.YtoocglckhphepaaAesMath
namespace Go.Proofs.Ytoocglckhphepaa
open Go Go.RowKit
theorem wb_xor (x y : BitVec 32) (j : Nat) : wb (x ^^^ y) j = wb x j ^^^ wb y j := by
  apply BitVec.eq_of_getLsbD_eq
  intro i hi
  simp [wb, hi]
theorem wb_rot0 (x : BitVec 32) : wb (rotl x 8) 0 = wb x 1 := by
  apply BitVec.eq_of_getLsbD_eq
  intro i hi
  rcases lt8 i hi with rfl | rfl | rfl | rfl | rfl | rfl | rfl | rfl <;> simp [wb, rotl]
theorem wb_rot1 (x : BitVec 32) : wb (rotl x 8) 1 = wb x 2 := by
  apply BitVec.eq_of_getLsbD_eq
  intro i hi
  rcases lt8 i hi with rfl | rfl | rfl | rfl | rfl | rfl | rfl | rfl <;> simp [wb, rotl]
theorem wb_rot2 (x : BitVec 32) : wb (rotl x 8) 2 = wb x 3 := by
  apply BitVec.eq_of_getLsbD_eq
  intro i hi
  rcases lt8 i hi with rfl | rfl | rfl | rfl | rfl | rfl | rfl | rfl <;> simp [wb, rotl]
theorem wb_rot3 (x : BitVec 32) : wb (rotl x 8) 3 = wb x 0 := by
  apply BitVec.eq_of_getLsbD_eq
  intro i hi
  rcases lt8 i hi with rfl | rfl | rfl | rfl | rfl | rfl | rfl | rfl <;> simp [wb, rotl]
theorem wb_top (r : BitVec 8) : wb (r.setWidth 32 <<< 24) 0 = r ∧ wb (r.setWidth 32 <<< 24) 1 = 0#8 ∧ wb (r.setWidth 32 <<< 24) 2 = 0#8 ∧ wb (r.setWidth 32 <<< 24) 3 = 0#8 := by
  refine ⟨?_, ?_, ?_, ?_⟩
  all_goals
    apply BitVec.eq_of_getLsbD_eq
    intro i hi
    rcases lt8 i hi with rfl | rfl | rfl | rfl | rfl | rfl | rfl | rfl <;> simp [wb]
theorem dbl_twice : ∀ x : BitVec 8, (dbl (x.setWidth 32)).setWidth 8 = twiceR x := by decide +kernel
theorem rcon_twice (r : Nat) : rcon (r + 1) = twiceR (rcon r) := dbl_twice _
/-- The schedule's byte. -/
def kbyte (b : Nat → BitVec 8) (i : Nat) : BitVec 8 := wb (sched b (i / 4)) (i % 4)
theorem kbyte_word (b : Nat → BitVec 8) (m j : Nat) (h : j < 4) : kbyte b (4 * m + j) = wb (sched b m) j := by
  unfold kbyte
  rw [show (4 * m + j) / 4 = m by omega, show (4 * m + j) % 4 = j by omega]
theorem sched_first (b : Nat → BitVec 8) (r : Nat) : sched b (4 * (r + 1)) = (subw sbox (rotl (sched b (4 * r + 3)) 8) (rotl (sched b (4 * r + 3)) 8) (rotl (sched b (4 * r + 3)) 8) (rotl (sched b (4 * r + 3)) 8) ^^^ (rcon r).setWidth 32 <<< 24) ^^^ sched b (4 * r) := by
  unfold sched
  rw [show 4 * (r + 1) / 4 = r + 1 by omega, show 4 * (r + 1) % 4 = 0 by omega, show (4 * r + 3) / 4 = r by omega, show (4 * r + 3) % 4 = 3 by omega, show 4 * r / 4 = r by omega, show 4 * r % 4 = 0 by omega]
  rfl
theorem sched_next (b : Nat → BitVec 8) (r j : Nat) (h0 : 0 < j) (h : j < 4) : sched b (4 * (r + 1) + j) = sched b (4 * (r + 1) + j - 1) ^^^ sched b (4 * r + j) := by
  unfold sched
  rw [show (4 * (r + 1) + j) / 4 = r + 1 by omega, show (4 * (r + 1) + j) % 4 = j by omega, show (4 * (r + 1) + j - 1) / 4 = r + 1 by omega, show (4 * (r + 1) + j - 1) % 4 = j - 1 by omega, show (4 * r + j) / 4 = r by omega, show (4 * r + j) % 4 = j by omega]
  match j, h0, h with
  | 1, _, _ => rfl
  | 2, _, _ => rfl
  | 3, _, _ => rfl
/-- The bytes that are put to those of the word four behind: w as the document has it. -/
def wbytes (b : Nat → BitVec 8) (m j : Nat) : BitVec 8 :=
  if m % 4 = 0 then (match j with
    | 0 => sbox (wb (sched b (m - 1)) 1).toNat ^^^ rcon (m / 4 - 1)
    | 1 => sbox (wb (sched b (m - 1)) 2).toNat
    | 2 => sbox (wb (sched b (m - 1)) 3).toNat
    | _ => sbox (wb (sched b (m - 1)) 0).toNat)
  else wb (sched b (m - 1)) j
theorem kbyte_next (b : Nat → BitVec 8) (m j : Nat) (hm : 4 ≤ m) (hj : j < 4) : kbyte b (4 * m + j) = kbyte b (4 * m + j - 16) ^^^ wbytes b m j := by
  rw [show 4 * m + j - 16 = 4 * (m - 4) + j by omega, kbyte_word _ _ _ hj, kbyte_word _ _ _ hj]
  unfold wbytes
  by_cases h : m % 4 = 0
  · rw [if_pos h]
    obtain ⟨r, rfl⟩ : ∃ r, m = 4 * (r + 1) := ⟨m / 4 - 1, by omega⟩
    rw [sched_first, show 4 * (r + 1) - 1 = 4 * r + 3 by omega, show 4 * (r + 1) - 4 = 4 * r by omega, show 4 * (r + 1) / 4 - 1 = r by omega]
    obtain ⟨t0, t1, t2, t3⟩ := wb_top (rcon r)
    rw [wb_xor, wb_xor, subw_wd, BitVec.xor_comm]
    match j, hj with
    | 0, _ => simp only [wb_wd0, wb_rot0, t0]
    | 1, _ => simp only [wb_wd1, wb_rot1, t1, BitVec.xor_zero]
    | 2, _ => simp only [wb_wd2, wb_rot2, t2, BitVec.xor_zero]
    | 3, _ => simp only [wb_wd3, wb_rot3, t3, BitVec.xor_zero]
  · rw [if_neg h]
    obtain ⟨r, i, rfl, hi0, hi⟩ : ∃ r i, m = 4 * (r + 1) + i ∧ 0 < i ∧ i < 4 := ⟨m / 4 - 1, m % 4, by omega, by omega, by omega⟩
    rw [sched_next b r i hi0 hi, wb_xor, BitVec.xor_comm, show 4 * (r + 1) + i - 4 = 4 * r + i by omega]
theorem kbyte_first (b : Nat → BitVec 8) (i : Nat) (h : i < 16) : kbyte b i = b i := by
  unfold kbyte sched
  rw [show i / 4 / 4 = 0 by omega]
  match i, h with
  | 0, _ => exact wb_wd0 _ _ _ _
  | 1, _ => exact wb_wd1 _ _ _ _
  | 2, _ => exact wb_wd2 _ _ _ _
  | 3, _ => exact wb_wd3 _ _ _ _
  | 4, _ => exact wb_wd0 _ _ _ _
  | 5, _ => exact wb_wd1 _ _ _ _
  | 6, _ => exact wb_wd2 _ _ _ _
  | 7, _ => exact wb_wd3 _ _ _ _
  | 8, _ => exact wb_wd0 _ _ _ _
  | 9, _ => exact wb_wd1 _ _ _ _
  | 10, _ => exact wb_wd2 _ _ _ _
  | 11, _ => exact wb_wd3 _ _ _ _
  | 12, _ => exact wb_wd0 _ _ _ _
  | 13, _ => exact wb_wd1 _ _ _ _
  | 14, _ => exact wb_wd2 _ _ _ _
  | 15, _ => exact wb_wd3 _ _ _ _
  | n + 16, h => exact absurd h (by omega)
theorem twice_bits : ∀ x : BitVec 8, twiceR x = x <<< 1 ^^^ (if x.getLsbD 7 then 0x1B#8 else 0#8) := by decide +kernel
theorem twice_lin (x y : BitVec 8) : twiceR (x ^^^ y) = twiceR x ^^^ twiceR y := by
  rw [twice_bits, twice_bits, twice_bits, BitVec.shiftLeft_xor_distrib, BitVec.getLsbD_xor]
  have e : (if (x.getLsbD 7 ^^ y.getLsbD 7) then 0x1B#8 else 0#8) = (if x.getLsbD 7 then 0x1B#8 else 0#8) ^^^ (if y.getLsbD 7 then 0x1B#8 else 0#8) := by
    cases x.getLsbD 7 <;> cases y.getLsbD 7 <;> rfl
  rw [e]
  ac_rfl
theorem wide_xor (x y : BitVec 8) : (x ^^^ y).setWidth 32 = x.setWidth 32 ^^^ y.setWidth 32 := by
  apply BitVec.eq_of_getLsbD_eq
  intro i hi
  simp [hi]
theorem wide_inj {x y : BitVec 8} (h : x.setWidth 32 = y.setWidth 32) : x = y := by
  apply BitVec.eq_of_getLsbD_eq
  intro i hi
  have := congrArg (fun z => z.getLsbD i) h
  simpa [show i < 32 by omega] using this
theorem wb_dbl (x : BitVec 32) (j : Nat) (hj : j < 4) : wb (dbl x) j = twiceR (wb x j) := by
  refine wide_inj (lin_ext (fun x => (wb (dbl x) j).setWidth 32) (fun x => (twiceR (wb x j)).setWidth 32) (fun x y => ?_) (fun x y => ?_) ?_ x)
  · show (wb (dbl (x ^^^ y)) j).setWidth 32 = _
    rw [dbl_lin, wb_xor, wide_xor]
  · show (twiceR (wb (x ^^^ y) j)).setWidth 32 = _
    rw [wb_xor, twice_lin, wide_xor]
  · match j, hj with
    | 0, _ => decide +kernel
    | 1, _ => decide +kernel
    | 2, _ => decide +kernel
    | 3, _ => decide +kernel
theorem wb_rot (x : BitVec 32) (j k : Nat) (hj : j < 4) (hk : k < 4) (hk0 : 0 < k) : wb (rotl x (8 * k)) j = wb x ((j + k) % 4) := by
  match j, k, hj, hk, hk0 with
  | 0, 1, _, _, _ => exact wb_rot0 x
  | 1, 1, _, _, _ => exact wb_rot1 x
  | 2, 1, _, _, _ => exact wb_rot2 x
  | 3, 1, _, _, _ => exact wb_rot3 x
  | 0, 2, _, _, _ => apply BitVec.eq_of_getLsbD_eq; intro i hi; rcases lt8 i hi with rfl | rfl | rfl | rfl | rfl | rfl | rfl | rfl <;> simp [wb, rotl]
  | 1, 2, _, _, _ => apply BitVec.eq_of_getLsbD_eq; intro i hi; rcases lt8 i hi with rfl | rfl | rfl | rfl | rfl | rfl | rfl | rfl <;> simp [wb, rotl]
  | 2, 2, _, _, _ => apply BitVec.eq_of_getLsbD_eq; intro i hi; rcases lt8 i hi with rfl | rfl | rfl | rfl | rfl | rfl | rfl | rfl <;> simp [wb, rotl]
  | 3, 2, _, _, _ => apply BitVec.eq_of_getLsbD_eq; intro i hi; rcases lt8 i hi with rfl | rfl | rfl | rfl | rfl | rfl | rfl | rfl <;> simp [wb, rotl]
  | 0, 3, _, _, _ => apply BitVec.eq_of_getLsbD_eq; intro i hi; rcases lt8 i hi with rfl | rfl | rfl | rfl | rfl | rfl | rfl | rfl <;> simp [wb, rotl]
  | 1, 3, _, _, _ => apply BitVec.eq_of_getLsbD_eq; intro i hi; rcases lt8 i hi with rfl | rfl | rfl | rfl | rfl | rfl | rfl | rfl <;> simp [wb, rotl]
  | 2, 3, _, _, _ => apply BitVec.eq_of_getLsbD_eq; intro i hi; rcases lt8 i hi with rfl | rfl | rfl | rfl | rfl | rfl | rfl | rfl <;> simp [wb, rotl]
  | 3, 3, _, _, _ => apply BitVec.eq_of_getLsbD_eq; intro i hi; rcases lt8 i hi with rfl | rfl | rfl | rfl | rfl | rfl | rfl | rfl <;> simp [wb, rotl]
/-- A column's byte, mixed: as the document has it. -/
theorem wb_mix (x : BitVec 32) (j : Nat) (hj : j < 4) : wb (mix x) j = twiceR (wb x j) ^^^ twiceR (wb x ((j + 1) % 4)) ^^^ wb x ((j + 1) % 4) ^^^ wb x ((j + 2) % 4) ^^^ wb x ((j + 3) % 4) := by
  unfold mix
  rw [wb_xor, wb_xor, wb_xor, wb_dbl _ _ hj, wb_xor, twice_lin, wb_rot x j 1 hj (by omega) (by omega), wb_rot x j 2 hj (by omega) (by omega), wb_rot x j 3 hj (by omega) (by omega)]
/-- A word of four by its place. -/
def W4.at (x : W4) (c : Nat) : BitVec 32 := match c with | 0 => x.a | 1 => x.b | 2 => x.c | _ => x.d
theorem byte_at (x : W4) (c r : Nat) (hc : c < 4) (hr : r < 4) : x.byte (4 * c + r) = wb (x.at c) r := by
  unfold W4.byte W4.at
  rw [show (4 * c + r) / 4 = c by omega, show (4 * c + r) % 4 = r by omega]
  match c, hc with
  | 0, _ => rfl
  | 1, _ => rfl
  | 2, _ => rfl
  | 3, _ => rfl
theorem shift_byte (x : W4) (c r : Nat) (hc : c < 4) (hr : r < 4) : (x.shift sbox).byte (4 * c + r) = sbox (x.byte (4 * ((c + r) % 4) + r)).toNat := by
  rw [byte_at _ _ _ hc hr, byte_at _ _ _ (by omega) hr]
  match c, r, hc, hr with
  | 0, 0, _, _ => simp only [W4.shift, W4.at, subw_wd, wb_wd0]
  | 0, 1, _, _ => simp only [W4.shift, W4.at, subw_wd, wb_wd1]
  | 0, 2, _, _ => simp only [W4.shift, W4.at, subw_wd, wb_wd2]
  | 0, 3, _, _ => simp only [W4.shift, W4.at, subw_wd, wb_wd3]
  | 1, 0, _, _ => simp only [W4.shift, W4.at, subw_wd, wb_wd0]
  | 1, 1, _, _ => simp only [W4.shift, W4.at, subw_wd, wb_wd1]
  | 1, 2, _, _ => simp only [W4.shift, W4.at, subw_wd, wb_wd2]
  | 1, 3, _, _ => simp only [W4.shift, W4.at, subw_wd, wb_wd3]
  | 2, 0, _, _ => simp only [W4.shift, W4.at, subw_wd, wb_wd0]
  | 2, 1, _, _ => simp only [W4.shift, W4.at, subw_wd, wb_wd1]
  | 2, 2, _, _ => simp only [W4.shift, W4.at, subw_wd, wb_wd2]
  | 2, 3, _, _ => simp only [W4.shift, W4.at, subw_wd, wb_wd3]
  | 3, 0, _, _ => simp only [W4.shift, W4.at, subw_wd, wb_wd0]
  | 3, 1, _, _ => simp only [W4.shift, W4.at, subw_wd, wb_wd1]
  | 3, 2, _, _ => simp only [W4.shift, W4.at, subw_wd, wb_wd2]
  | 3, 3, _, _ => simp only [W4.shift, W4.at, subw_wd, wb_wd3]
theorem mix_byte (x : W4) (c r : Nat) (hc : c < 4) (hr : r < 4) : x.mix.byte (4 * c + r) = twiceR (x.byte (4 * c + r)) ^^^ twiceR (x.byte (4 * c + (r + 1) % 4)) ^^^ x.byte (4 * c + (r + 1) % 4) ^^^ x.byte (4 * c + (r + 2) % 4) ^^^ x.byte (4 * c + (r + 3) % 4) := by
  rw [byte_at _ _ _ hc hr, byte_at _ _ _ hc hr, byte_at _ _ _ hc (by omega), byte_at _ _ _ hc (by omega), byte_at _ _ _ hc (by omega), ← wb_mix _ _ hr]
  match c, hc with
  | 0, _ => rfl
  | 1, _ => rfl
  | 2, _ => rfl
  | 3, _ => rfl
theorem xor_byte (x y : W4) (i : Nat) : (x.xor y).byte i = x.byte i ^^^ y.byte i := by
  unfold W4.byte W4.xor
  split <;> exact wb_xor _ _ _
theorem kw_byte (b : Nat → BitVec 8) (r i : Nat) (h : i < 16) : (kw (sched b) r).byte i = kbyte b (16 * r + i) := by
  obtain ⟨c, j, rfl, hc, hj⟩ : ∃ c j, i = 4 * c + j ∧ c < 4 ∧ j < 4 := ⟨i / 4, i % 4, by omega, by omega, by omega⟩
  rw [byte_at _ _ _ hc hj, show 16 * r + (4 * c + j) = 4 * (r * 4 + c) + j by omega, kbyte_word _ _ _ hj]
  match c, hc with
  | 0, _ => rfl
  | 1, _ => rfl
  | 2, _ => rfl
  | 3, _ => rfl
end Go.Proofs.Ytoocglckhphepaa
