/-
  TEXTS PUT TOGETHER: AesMath, RefMath.
-/
import Derived.Test.YtjbpjoondmcnlabDoorMg22
import Derived.Test.YtjbpjoondmcnlabDoorRefC
set_option maxRecDepth 100000
/-
  TWO UNLIKE BLOCKS ARE TURNED TO UNLIKE ONES: each step of the turn can be undone.
-/
namespace Go.Proofs.YtjbpjoondmcnlabDoor
open Go Go.RowKit
theorem lt32 (i : Nat) (h : i < 32) : i = 0 ∨ i = 1 ∨ i = 2 ∨ i = 3 ∨ i = 4 ∨ i = 5 ∨ i = 6 ∨ i = 7 ∨ i = 8 ∨ i = 9 ∨ i = 10 ∨ i = 11 ∨ i = 12 ∨ i = 13 ∨ i = 14 ∨ i = 15 ∨ i = 16 ∨ i = 17 ∨ i = 18 ∨ i = 19 ∨ i = 20 ∨ i = 21 ∨ i = 22 ∨ i = 23 ∨ i = 24 ∨ i = 25 ∨ i = 26 ∨ i = 27 ∨ i = 28 ∨ i = 29 ∨ i = 30 ∨ i = 31 := by omega
theorem lt8 (i : Nat) (h : i < 8) : i = 0 ∨ i = 1 ∨ i = 2 ∨ i = 3 ∨ i = 4 ∨ i = 5 ∨ i = 6 ∨ i = 7 := by omega
theorem wd_wb (x : BitVec 32) : wd (wb x 0) (wb x 1) (wb x 2) (wb x 3) = x := by
  apply BitVec.eq_of_getLsbD_eq
  intro i hi
  rcases lt32 i hi with rfl | rfl | rfl | rfl | rfl | rfl | rfl | rfl | rfl | rfl | rfl | rfl | rfl | rfl | rfl | rfl | rfl | rfl | rfl | rfl | rfl | rfl | rfl | rfl | rfl | rfl | rfl | rfl | rfl | rfl | rfl | rfl <;> simp [wd, wb]
theorem wb_wd0 (p q r s : BitVec 8) : wb (wd p q r s) 0 = p := by
  apply BitVec.eq_of_getLsbD_eq
  intro i hi
  rcases lt8 i hi with rfl | rfl | rfl | rfl | rfl | rfl | rfl | rfl <;> simp [wd, wb]
theorem wb_wd1 (p q r s : BitVec 8) : wb (wd p q r s) 1 = q := by
  apply BitVec.eq_of_getLsbD_eq
  intro i hi
  rcases lt8 i hi with rfl | rfl | rfl | rfl | rfl | rfl | rfl | rfl <;> simp [wd, wb]
theorem wb_wd2 (p q r s : BitVec 8) : wb (wd p q r s) 2 = r := by
  apply BitVec.eq_of_getLsbD_eq
  intro i hi
  rcases lt8 i hi with rfl | rfl | rfl | rfl | rfl | rfl | rfl | rfl <;> simp [wd, wb]
theorem wb_wd3 (p q r s : BitVec 8) : wb (wd p q r s) 3 = s := by
  apply BitVec.eq_of_getLsbD_eq
  intro i hi
  rcases lt8 i hi with rfl | rfl | rfl | rfl | rfl | rfl | rfl | rfl <;> simp [wd, wb]
theorem word_ext {x y : BitVec 32} (h0 : wb x 0 = wb y 0) (h1 : wb x 1 = wb y 1) (h2 : wb x 2 = wb y 2) (h3 : wb x 3 = wb y 3) : x = y := by
  rw [← wd_wb x, ← wd_wb y, h0, h1, h2, h3]
theorem W4.ext' {x y : W4} (ha : x.a = y.a) (hb : x.b = y.b) (hc : x.c = y.c) (hd : x.d = y.d) : x = y := by
  cases x; cases y; simp_all
theorem byte_ext {x y : W4} (h : ∀ i, i < 16 → x.byte i = y.byte i) : x = y :=
  W4.ext' (word_ext (h 0 (by omega)) (h 1 (by omega)) (h 2 (by omega)) (h 3 (by omega))) (word_ext (h 4 (by omega)) (h 5 (by omega)) (h 6 (by omega)) (h 7 (by omega)))
    (word_ext (h 8 (by omega)) (h 9 (by omega)) (h 10 (by omega)) (h 11 (by omega))) (word_ext (h 12 (by omega)) (h 13 (by omega)) (h 14 (by omega)) (h 15 (by omega)))
theorem of_byte (f : Nat → BitVec 8) (i : Nat) (h : i < 16) : (W4.of f).byte i = f i := by
  match i, h with
  | 0, _ => exact wb_wd0 _ _ _ _
  | 1, _ => exact wb_wd1 _ _ _ _
  | 2, _ => exact wb_wd2 _ _ _ _
  | 3, _ => exact wb_wd3 _ _ _ _
  | 4, _ => exact wb_wd0 _ _ _ _
  | 5, _ => exact wb_wd1 _ _ _ _
  | 6, _ => exact wb_wd2 _ _ _ _
  | 7, _ => exact wb_wd3 _ _ _ _
  | 8, _ => exact wb_wd0 _ _ _ _
  | 9, _ => exact wb_wd1 _ _ _ _
  | 10, _ => exact wb_wd2 _ _ _ _
  | 11, _ => exact wb_wd3 _ _ _ _
  | 12, _ => exact wb_wd0 _ _ _ _
  | 13, _ => exact wb_wd1 _ _ _ _
  | 14, _ => exact wb_wd2 _ _ _ _
  | 15, _ => exact wb_wd3 _ _ _ _
  | n + 16, h => omega
theorem xor_inj {x y k : BitVec 32} (h : x ^^^ k = y ^^^ k) : x = y := by
  have := congrArg (· ^^^ k) h
  simpa [BitVec.xor_assoc] using this
theorem W4.xor_inj {x y k : W4} (h : x.xor k = y.xor k) : x = y := by
  have h' := W4.mk.inj h
  exact W4.ext' (Proofs.YtjbpjoondmcnlabDoor.xor_inj h'.1) (Proofs.YtjbpjoondmcnlabDoor.xor_inj h'.2.1) (Proofs.YtjbpjoondmcnlabDoor.xor_inj h'.2.2.1) (Proofs.YtjbpjoondmcnlabDoor.xor_inj h'.2.2.2)
/-! ### What stands for a byte can be undone -/
def backL : List Nat := [82, 9, 106, 213, 48, 54, 165, 56, 191, 64, 163, 158, 129, 243, 215, 251, 124, 227, 57, 130, 155, 47, 255, 135, 52, 142, 67, 68, 196, 222, 233, 203, 84, 123, 148, 50, 166, 194, 35, 61, 238, 76, 149, 11, 66, 250, 195, 78, 8, 46, 161, 102, 40, 217, 36, 178, 118, 91, 162, 73, 109, 139, 209, 37, 114, 248, 246, 100, 134, 104, 152, 22, 212, 164, 92, 204, 93, 101, 182, 146, 108, 112, 72, 80, 253, 237, 185, 218, 94, 21, 70, 87, 167, 141, 157, 132, 144, 216, 171, 0, 140, 188, 211, 10, 247, 228, 88, 5, 184, 179, 69, 6, 208, 44, 30, 143, 202, 63, 15, 2, 193, 175, 189, 3, 1, 19, 138, 107, 58, 145, 17, 65, 79, 103, 220, 234, 151, 242, 207, 206, 240, 180, 230, 115, 150, 172, 116, 34, 231, 173, 53, 133, 226, 249, 55, 232, 28, 117, 223, 110, 71, 241, 26, 113, 29, 41, 197, 137, 111, 183, 98, 14, 170, 24, 190, 27, 252, 86, 62, 75, 198, 210, 121, 32, 154, 219, 192, 254, 120, 205, 90, 244, 31, 221, 168, 51, 136, 7, 199, 49, 177, 18, 16, 89, 39, 128, 236, 95, 96, 81, 127, 169, 25, 181, 74, 13, 45, 229, 122, 159, 147, 201, 156, 239, 160, 224, 59, 77, 174, 42, 245, 176, 200, 235, 187, 60, 131, 83, 153, 97, 23, 43, 4, 126, 186, 119, 214, 38, 225, 105, 20, 99, 85, 33, 12, 125]
theorem back_sbox : ∀ i : Fin 256, backL.getD (sbox i.val).toNat 0 = i.val := by decide +kernel
theorem sbox_inj {i j : Nat} (hi : i < 256) (hj : j < 256) (h : sbox i = sbox j) : i = j := by
  have h1 := back_sbox ⟨i, hi⟩
  have h2 := back_sbox ⟨j, hj⟩
  simp only at h1 h2
  rw [← h1, ← h2, h]
theorem ix0 (x : BitVec 32) : ix32 (x >>> 24) = (wb x 0).toNat := by
  unfold ix32 wb
  have := x.isLt
  simp only [BitVec.toNat_setWidth, BitVec.toNat_ushiftRight, Nat.shiftRight_eq_div_pow]
  omega
theorem ixj (x : BitVec 32) (k : Nat) : ix32 (x >>> k &&& 255#32) = ((x >>> k).setWidth 8).toNat := by
  unfold ix32
  rw [BitVec.toNat_and, BitVec.toNat_setWidth]
  exact Nat.and_two_pow_sub_one_eq_mod _ 8
theorem ix1 (x : BitVec 32) : ix32 (x >>> 16 &&& 255#32) = (wb x 1).toNat := ixj x 16
theorem ix2 (x : BitVec 32) : ix32 (x >>> 8 &&& 255#32) = (wb x 2).toNat := ixj x 8
theorem ix3 (x : BitVec 32) : ix32 (x &&& 255#32) = (wb x 3).toNat := by
  have := ixj x 0
  simpa [wb] using this
theorem subw_wd (T : Nat → BitVec 8) (a b c d : BitVec 32) : subw T a b c d = wd (T (wb a 0).toNat) (T (wb b 1).toNat) (T (wb c 2).toNat) (T (wb d 3).toNat) := by
  unfold subw
  rw [ix0, ix1, ix2, ix3]
  generalize T (wb a 0).toNat = p
  generalize T (wb b 1).toNat = q
  generalize T (wb c 2).toNat = r
  generalize T (wb d 3).toNat = s
  apply BitVec.eq_of_getLsbD_eq
  intro i hi
  rcases lt32 i hi with rfl | rfl | rfl | rfl | rfl | rfl | rfl | rfl | rfl | rfl | rfl | rfl | rfl | rfl | rfl | rfl | rfl | rfl | rfl | rfl | rfl | rfl | rfl | rfl | rfl | rfl | rfl | rfl | rfl | rfl | rfl | rfl <;> simp [wd]
theorem sub_inj {p q : BitVec 8} (h : sbox p.toNat = sbox q.toNat) : p = q :=
  BitVec.eq_of_toNat_eq (sbox_inj p.isLt q.isLt h)
theorem W4.shift_inj {x y : W4} (h : x.shift sbox = y.shift sbox) : x = y := by
  have h' := W4.mk.inj h
  simp only [subw_wd] at h'
  obtain ⟨ha, hb, hc, hd⟩ := h'
  have w : ∀ {p q r s p' q' r' s' : BitVec 8}, wd p q r s = wd p' q' r' s' → p = p' ∧ q = q' ∧ r = r' ∧ s = s' := fun {p q r s p' q' r' s'} e =>
    ⟨by rw [← wb_wd0 p q r s, e, wb_wd0], by rw [← wb_wd1 p q r s, e, wb_wd1], by rw [← wb_wd2 p q r s, e, wb_wd2], by rw [← wb_wd3 p q r s, e, wb_wd3]⟩
  obtain ⟨a0, b1, c2, d3⟩ := w ha
  obtain ⟨b0, c1, d2, a3⟩ := w hb
  obtain ⟨c0, d1, a2, b3⟩ := w hc
  obtain ⟨d0, a1, b2, c3⟩ := w hd
  exact W4.ext' (word_ext (sub_inj a0) (sub_inj a1) (sub_inj a2) (sub_inj a3)) (word_ext (sub_inj b0) (sub_inj b1) (sub_inj b2) (sub_inj b3))
    (word_ext (sub_inj c0) (sub_inj c1) (sub_inj c2) (sub_inj c3)) (word_ext (sub_inj d0) (sub_inj d1) (sub_inj d2) (sub_inj d3))
/-! ### A column mixed four times is the column -/
theorem lin_ext (f g : BitVec 32 → BitVec 32) (hf : ∀ x y, f (x ^^^ y) = f x ^^^ f y) (hg : ∀ x y, g (x ^^^ y) = g x ^^^ g y)
    (h : ∀ i : Fin 32, f (1#32 <<< i.val) = g (1#32 <<< i.val)) (x : BitVec 32) : f x = g x := by
  have zf : f 0#32 = 0#32 := by have := hf 0#32 0#32; simpa using this
  have zg : g 0#32 = 0#32 := by have := hg 0#32 0#32; simpa using this
  have key : ∀ n, n ≤ 32 → f (BitVec.ofNat 32 (x.toNat % 2 ^ n)) = g (BitVec.ofNat 32 (x.toNat % 2 ^ n)) := by
    intro n
    induction n with
    | zero => intro _; simp [Nat.mod_one, zf, zg]
    | succ n ih =>
      intro hn
      have e : BitVec.ofNat 32 (x.toNat % 2 ^ (n + 1)) = BitVec.ofNat 32 (x.toNat % 2 ^ n) ^^^ (if x.getLsbD n then 1#32 <<< n else 0#32) := by
        apply BitVec.eq_of_getLsbD_eq
        intro i hi
        rw [BitVec.getLsbD_xor, BitVec.getLsbD_ofNat, BitVec.getLsbD_ofNat, Nat.testBit_mod_two_pow, Nat.testBit_mod_two_pow]
        by_cases hin : i = n
        · subst hin
          rw [BitVec.testBit_toNat]
          cases hb : x.getLsbD i <;> simp [hi]
        · have h0 : (if x.getLsbD n then 1#32 <<< n else 0#32).getLsbD i = false := by
            cases hb : x.getLsbD n
            · simp
            · simp [hi]
              omega
          rw [h0]
          by_cases h1 : i < n
          · simp [hi, h1, Nat.lt_succ_of_lt h1]
          · have : ¬ i < n + 1 := by omega
            simp [h1, this]
      rw [e, hf, hg, ih (by omega)]
      congr 1
      cases x.getLsbD n
      · simp [zf, zg]
      · simpa using h ⟨n, by omega⟩
  have := key 32 (Nat.le_refl _)
  rw [Nat.mod_eq_of_lt x.isLt, BitVec.ofNat_toNat, BitVec.setWidth_eq] at this
  exact this
theorem rotl_xor (x : BitVec 32) (s : Nat) (h0 : 0 < s) (h : s < 32) : rotl x s = x <<< s ^^^ x >>> (32 - s) := by
  unfold rotl
  apply BitVec.eq_of_getLsbD_eq
  intro i hi
  rw [BitVec.getLsbD_or, BitVec.getLsbD_xor, BitVec.getLsbD_shiftLeft, BitVec.getLsbD_ushiftRight]
  by_cases h1 : i < s
  · simp [h1]
  · have : x.getLsbD (32 - s + i) = false := BitVec.getLsbD_of_ge _ _ (by omega)
    simp [this]
theorem rotl_lin (x y : BitVec 32) (s : Nat) (h0 : 0 < s) (h : s < 32) : rotl (x ^^^ y) s = rotl x s ^^^ rotl y s := by
  rw [rotl_xor _ s h0 h, rotl_xor _ s h0 h, rotl_xor _ s h0 h, BitVec.shiftLeft_xor_distrib, BitVec.ushiftRight_xor_distrib]
  ac_rfl
theorem mask_cases (x : BitVec 32) : x &&& 0x01010101#32 = (if x.getLsbD 0 then 1#32 else 0#32) ^^^ (if x.getLsbD 8 then 0x100#32 else 0#32) ^^^ (if x.getLsbD 16 then 0x10000#32 else 0#32) ^^^ (if x.getLsbD 24 then 0x1000000#32 else 0#32) := by
  apply BitVec.eq_of_getLsbD_eq
  intro i hi
  have b : ∀ (c : Bool) (k : BitVec 32), (if c then k else 0#32).getLsbD i = (c && k.getLsbD i) := fun c k => by cases c <;> simp
  simp only [BitVec.getLsbD_xor, BitVec.getLsbD_and, b]
  rcases lt32 i hi with rfl | rfl | rfl | rfl | rfl | rfl | rfl | rfl | rfl | rfl | rfl | rfl | rfl | rfl | rfl | rfl | rfl | rfl | rfl | rfl | rfl | rfl | rfl | rfl | rfl | rfl | rfl | rfl | rfl | rfl | rfl | rfl <;> simp
theorem mul_lin (x y : BitVec 32) : ((x ^^^ y) &&& 0x01010101#32) * 0x1b#32 = (x &&& 0x01010101#32) * 0x1b#32 ^^^ (y &&& 0x01010101#32) * 0x1b#32 := by
  rw [mask_cases, mask_cases, mask_cases]
  simp only [BitVec.getLsbD_xor]
  generalize x.getLsbD 0 = a0
  generalize x.getLsbD 8 = a1
  generalize x.getLsbD 16 = a2
  generalize x.getLsbD 24 = a3
  generalize y.getLsbD 0 = b0
  generalize y.getLsbD 8 = b1
  generalize y.getLsbD 16 = b2
  generalize y.getLsbD 24 = b3
  revert a0 a1 a2 a3 b0 b1 b2 b3
  decide +kernel
theorem dbl_lin (x y : BitVec 32) : dbl (x ^^^ y) = dbl x ^^^ dbl y := by
  unfold dbl
  rw [BitVec.ushiftRight_xor_distrib, mul_lin]
  have : (x ^^^ y) &&& 0x7f7f7f7f#32 = (x &&& 0x7f7f7f7f#32) ^^^ (y &&& 0x7f7f7f7f#32) := by
    apply BitVec.eq_of_getLsbD_eq
    intro i _
    simp only [BitVec.getLsbD_xor, BitVec.getLsbD_and]
    cases x.getLsbD i <;> cases y.getLsbD i <;> simp
  rw [this, BitVec.shiftLeft_xor_distrib]
  ac_rfl
theorem mix_lin (x y : BitVec 32) : mix (x ^^^ y) = mix x ^^^ mix y := by
  unfold mix
  rw [rotl_lin x y 8 (by omega) (by omega), rotl_lin x y 16 (by omega) (by omega), rotl_lin x y 24 (by omega) (by omega),
    show x ^^^ y ^^^ (rotl x 8 ^^^ rotl y 8) = (x ^^^ rotl x 8) ^^^ (y ^^^ rotl y 8) by ac_rfl, dbl_lin]
  ac_rfl
theorem mix_four (x : BitVec 32) : mix (mix (mix (mix x))) = x :=
  lin_ext (fun x => mix (mix (mix (mix x)))) (fun x => x) (fun x y => by simp only [mix_lin]) (fun _ _ => rfl) (by decide +kernel) x
theorem W4.mix_inj {x y : W4} (h : x.mix = y.mix) : x = y := by
  have h' := W4.mk.inj h
  have m : ∀ {a b : BitVec 32}, Proofs.YtjbpjoondmcnlabDoor.mix a = Proofs.YtjbpjoondmcnlabDoor.mix b → a = b := fun {a b} e => by rw [← mix_four a, e, mix_four b]
  exact W4.ext' (m h'.1) (m h'.2.1) (m h'.2.2.1) (m h'.2.2.2)
theorem rounds_inj (ks : Nat → BitVec 32) {x y : W4} : ∀ r, roundsTo sbox ks x r = roundsTo sbox ks y r → x = y
  | 0, h => W4.xor_inj h
  | r + 1, h => rounds_inj ks r (W4.shift_inj (W4.mix_inj (W4.xor_inj h)))
theorem turned_inj (ks : Nat → BitVec 32) {x y : W4} (h : turned sbox ks x = turned sbox ks y) : x = y :=
  rounds_inj ks 9 (W4.shift_inj (W4.xor_inj h))
theorem turned_bytes (ks : Nat → BitVec 32) (f g : Nat → BitVec 8) :
    (∀ i, i < 16 → (turned sbox ks (W4.of f)).byte i = (turned sbox ks (W4.of g)).byte i) ↔ ∀ i, i < 16 → f i = g i := by
  constructor
  · intro h i hi
    have := turned_inj ks (byte_ext h)
    rw [← of_byte f i hi, this, of_byte g i hi]
  · intro h i _
    have : W4.of f = W4.of g := byte_ext fun j hj => by rw [of_byte f j hj, of_byte g j hj, h j hj]
    rw [this]
end Go.Proofs.YtjbpjoondmcnlabDoor
/-
  THE SCHEDULE AND THE TURN, BYTE BY BYTE: what the document's answer reckons of bytes the program reckons of words.
-/
namespace Go.Proofs.YtjbpjoondmcnlabDoor
open Go Go.RowKit
theorem wb_xor (x y : BitVec 32) (j : Nat) : wb (x ^^^ y) j = wb x j ^^^ wb y j := by
  apply BitVec.eq_of_getLsbD_eq
  intro i hi
  simp [wb, hi]
theorem wb_rot0 (x : BitVec 32) : wb (rotl x 8) 0 = wb x 1 := by
  apply BitVec.eq_of_getLsbD_eq
  intro i hi
  rcases lt8 i hi with rfl | rfl | rfl | rfl | rfl | rfl | rfl | rfl <;> simp [wb, rotl]
theorem wb_rot1 (x : BitVec 32) : wb (rotl x 8) 1 = wb x 2 := by
  apply BitVec.eq_of_getLsbD_eq
  intro i hi
  rcases lt8 i hi with rfl | rfl | rfl | rfl | rfl | rfl | rfl | rfl <;> simp [wb, rotl]
theorem wb_rot2 (x : BitVec 32) : wb (rotl x 8) 2 = wb x 3 := by
  apply BitVec.eq_of_getLsbD_eq
  intro i hi
  rcases lt8 i hi with rfl | rfl | rfl | rfl | rfl | rfl | rfl | rfl <;> simp [wb, rotl]
theorem wb_rot3 (x : BitVec 32) : wb (rotl x 8) 3 = wb x 0 := by
  apply BitVec.eq_of_getLsbD_eq
  intro i hi
  rcases lt8 i hi with rfl | rfl | rfl | rfl | rfl | rfl | rfl | rfl <;> simp [wb, rotl]
theorem wb_top (r : BitVec 8) : wb (r.setWidth 32 <<< 24) 0 = r ∧ wb (r.setWidth 32 <<< 24) 1 = 0#8 ∧ wb (r.setWidth 32 <<< 24) 2 = 0#8 ∧ wb (r.setWidth 32 <<< 24) 3 = 0#8 := by
  refine ⟨?_, ?_, ?_, ?_⟩
  all_goals
    apply BitVec.eq_of_getLsbD_eq
    intro i hi
    rcases lt8 i hi with rfl | rfl | rfl | rfl | rfl | rfl | rfl | rfl <;> simp [wb]
theorem dbl_twice : ∀ x : BitVec 8, (dbl (x.setWidth 32)).setWidth 8 = twiceR x := by decide +kernel
theorem rcon_twice (r : Nat) : rcon (r + 1) = twiceR (rcon r) := dbl_twice _
/-- The schedule's byte. -/
def kbyte (b : Nat → BitVec 8) (i : Nat) : BitVec 8 := wb (sched b (i / 4)) (i % 4)
theorem kbyte_word (b : Nat → BitVec 8) (m j : Nat) (h : j < 4) : kbyte b (4 * m + j) = wb (sched b m) j := by
  unfold kbyte
  rw [show (4 * m + j) / 4 = m by omega, show (4 * m + j) % 4 = j by omega]
theorem sched_first (b : Nat → BitVec 8) (r : Nat) : sched b (4 * (r + 1)) = (subw sbox (rotl (sched b (4 * r + 3)) 8) (rotl (sched b (4 * r + 3)) 8) (rotl (sched b (4 * r + 3)) 8) (rotl (sched b (4 * r + 3)) 8) ^^^ (rcon r).setWidth 32 <<< 24) ^^^ sched b (4 * r) := by
  unfold sched
  rw [show 4 * (r + 1) / 4 = r + 1 by omega, show 4 * (r + 1) % 4 = 0 by omega, show (4 * r + 3) / 4 = r by omega, show (4 * r + 3) % 4 = 3 by omega, show 4 * r / 4 = r by omega, show 4 * r % 4 = 0 by omega]
  rfl
theorem sched_next (b : Nat → BitVec 8) (r j : Nat) (h0 : 0 < j) (h : j < 4) : sched b (4 * (r + 1) + j) = sched b (4 * (r + 1) + j - 1) ^^^ sched b (4 * r + j) := by
  unfold sched
  rw [show (4 * (r + 1) + j) / 4 = r + 1 by omega, show (4 * (r + 1) + j) % 4 = j by omega, show (4 * (r + 1) + j - 1) / 4 = r + 1 by omega, show (4 * (r + 1) + j - 1) % 4 = j - 1 by omega, show (4 * r + j) / 4 = r by omega, show (4 * r + j) % 4 = j by omega]
  match j, h0, h with
  | 1, _, _ => rfl
  | 2, _, _ => rfl
  | 3, _, _ => rfl
/-- The bytes that are put to those of the word four behind: w as the document has it. -/
def wbytes (b : Nat → BitVec 8) (m j : Nat) : BitVec 8 :=
  if m % 4 = 0 then (match j with
    | 0 => sbox (wb (sched b (m - 1)) 1).toNat ^^^ rcon (m / 4 - 1)
    | 1 => sbox (wb (sched b (m - 1)) 2).toNat
    | 2 => sbox (wb (sched b (m - 1)) 3).toNat
    | _ => sbox (wb (sched b (m - 1)) 0).toNat)
  else wb (sched b (m - 1)) j
theorem kbyte_next (b : Nat → BitVec 8) (m j : Nat) (hm : 4 ≤ m) (hj : j < 4) : kbyte b (4 * m + j) = kbyte b (4 * m + j - 16) ^^^ wbytes b m j := by
  rw [show 4 * m + j - 16 = 4 * (m - 4) + j by omega, kbyte_word _ _ _ hj, kbyte_word _ _ _ hj]
  unfold wbytes
  by_cases h : m % 4 = 0
  · rw [if_pos h]
    obtain ⟨r, rfl⟩ : ∃ r, m = 4 * (r + 1) := ⟨m / 4 - 1, by omega⟩
    rw [sched_first, show 4 * (r + 1) - 1 = 4 * r + 3 by omega, show 4 * (r + 1) - 4 = 4 * r by omega, show 4 * (r + 1) / 4 - 1 = r by omega]
    obtain ⟨t0, t1, t2, t3⟩ := wb_top (rcon r)
    rw [wb_xor, wb_xor, subw_wd, BitVec.xor_comm]
    match j, hj with
    | 0, _ => simp only [wb_wd0, wb_rot0, t0]
    | 1, _ => simp only [wb_wd1, wb_rot1, t1, BitVec.xor_zero]
    | 2, _ => simp only [wb_wd2, wb_rot2, t2, BitVec.xor_zero]
    | 3, _ => simp only [wb_wd3, wb_rot3, t3, BitVec.xor_zero]
  · rw [if_neg h]
    obtain ⟨r, i, rfl, hi0, hi⟩ : ∃ r i, m = 4 * (r + 1) + i ∧ 0 < i ∧ i < 4 := ⟨m / 4 - 1, m % 4, by omega, by omega, by omega⟩
    rw [sched_next b r i hi0 hi, wb_xor, BitVec.xor_comm, show 4 * (r + 1) + i - 4 = 4 * r + i by omega]
theorem kbyte_first (b : Nat → BitVec 8) (i : Nat) (h : i < 16) : kbyte b i = b i := by
  unfold kbyte sched
  rw [show i / 4 / 4 = 0 by omega]
  match i, h with
  | 0, _ => exact wb_wd0 _ _ _ _
  | 1, _ => exact wb_wd1 _ _ _ _
  | 2, _ => exact wb_wd2 _ _ _ _
  | 3, _ => exact wb_wd3 _ _ _ _
  | 4, _ => exact wb_wd0 _ _ _ _
  | 5, _ => exact wb_wd1 _ _ _ _
  | 6, _ => exact wb_wd2 _ _ _ _
  | 7, _ => exact wb_wd3 _ _ _ _
  | 8, _ => exact wb_wd0 _ _ _ _
  | 9, _ => exact wb_wd1 _ _ _ _
  | 10, _ => exact wb_wd2 _ _ _ _
  | 11, _ => exact wb_wd3 _ _ _ _
  | 12, _ => exact wb_wd0 _ _ _ _
  | 13, _ => exact wb_wd1 _ _ _ _
  | 14, _ => exact wb_wd2 _ _ _ _
  | 15, _ => exact wb_wd3 _ _ _ _
  | n + 16, h => exact absurd h (by omega)
theorem twice_bits : ∀ x : BitVec 8, twiceR x = x <<< 1 ^^^ (if x.getLsbD 7 then 0x1B#8 else 0#8) := by decide +kernel
theorem twice_lin (x y : BitVec 8) : twiceR (x ^^^ y) = twiceR x ^^^ twiceR y := by
  rw [twice_bits, twice_bits, twice_bits, BitVec.shiftLeft_xor_distrib, BitVec.getLsbD_xor]
  have e : (if (x.getLsbD 7 ^^ y.getLsbD 7) then 0x1B#8 else 0#8) = (if x.getLsbD 7 then 0x1B#8 else 0#8) ^^^ (if y.getLsbD 7 then 0x1B#8 else 0#8) := by
    cases x.getLsbD 7 <;> cases y.getLsbD 7 <;> rfl
  rw [e]
  ac_rfl
theorem wide_xor (x y : BitVec 8) : (x ^^^ y).setWidth 32 = x.setWidth 32 ^^^ y.setWidth 32 := by
  apply BitVec.eq_of_getLsbD_eq
  intro i hi
  simp [hi]
theorem wide_inj {x y : BitVec 8} (h : x.setWidth 32 = y.setWidth 32) : x = y := by
  apply BitVec.eq_of_getLsbD_eq
  intro i hi
  have := congrArg (fun z => z.getLsbD i) h
  simpa [show i < 32 by omega] using this
theorem wb_dbl (x : BitVec 32) (j : Nat) (hj : j < 4) : wb (dbl x) j = twiceR (wb x j) := by
  refine wide_inj (lin_ext (fun x => (wb (dbl x) j).setWidth 32) (fun x => (twiceR (wb x j)).setWidth 32) (fun x y => ?_) (fun x y => ?_) ?_ x)
  · show (wb (dbl (x ^^^ y)) j).setWidth 32 = _
    rw [dbl_lin, wb_xor, wide_xor]
  · show (twiceR (wb (x ^^^ y) j)).setWidth 32 = _
    rw [wb_xor, twice_lin, wide_xor]
  · match j, hj with
    | 0, _ => decide +kernel
    | 1, _ => decide +kernel
    | 2, _ => decide +kernel
    | 3, _ => decide +kernel
theorem wb_rot (x : BitVec 32) (j k : Nat) (hj : j < 4) (hk : k < 4) (hk0 : 0 < k) : wb (rotl x (8 * k)) j = wb x ((j + k) % 4) := by
  match j, k, hj, hk, hk0 with
  | 0, 1, _, _, _ => exact wb_rot0 x
  | 1, 1, _, _, _ => exact wb_rot1 x
  | 2, 1, _, _, _ => exact wb_rot2 x
  | 3, 1, _, _, _ => exact wb_rot3 x
  | 0, 2, _, _, _ => apply BitVec.eq_of_getLsbD_eq; intro i hi; rcases lt8 i hi with rfl | rfl | rfl | rfl | rfl | rfl | rfl | rfl <;> simp [wb, rotl]
  | 1, 2, _, _, _ => apply BitVec.eq_of_getLsbD_eq; intro i hi; rcases lt8 i hi with rfl | rfl | rfl | rfl | rfl | rfl | rfl | rfl <;> simp [wb, rotl]
  | 2, 2, _, _, _ => apply BitVec.eq_of_getLsbD_eq; intro i hi; rcases lt8 i hi with rfl | rfl | rfl | rfl | rfl | rfl | rfl | rfl <;> simp [wb, rotl]
  | 3, 2, _, _, _ => apply BitVec.eq_of_getLsbD_eq; intro i hi; rcases lt8 i hi with rfl | rfl | rfl | rfl | rfl | rfl | rfl | rfl <;> simp [wb, rotl]
  | 0, 3, _, _, _ => apply BitVec.eq_of_getLsbD_eq; intro i hi; rcases lt8 i hi with rfl | rfl | rfl | rfl | rfl | rfl | rfl | rfl <;> simp [wb, rotl]
  | 1, 3, _, _, _ => apply BitVec.eq_of_getLsbD_eq; intro i hi; rcases lt8 i hi with rfl | rfl | rfl | rfl | rfl | rfl | rfl | rfl <;> simp [wb, rotl]
  | 2, 3, _, _, _ => apply BitVec.eq_of_getLsbD_eq; intro i hi; rcases lt8 i hi with rfl | rfl | rfl | rfl | rfl | rfl | rfl | rfl <;> simp [wb, rotl]
  | 3, 3, _, _, _ => apply BitVec.eq_of_getLsbD_eq; intro i hi; rcases lt8 i hi with rfl | rfl | rfl | rfl | rfl | rfl | rfl | rfl <;> simp [wb, rotl]
/-- A column's byte, mixed: as the document has it. -/
theorem wb_mix (x : BitVec 32) (j : Nat) (hj : j < 4) : wb (mix x) j = twiceR (wb x j) ^^^ twiceR (wb x ((j + 1) % 4)) ^^^ wb x ((j + 1) % 4) ^^^ wb x ((j + 2) % 4) ^^^ wb x ((j + 3) % 4) := by
  unfold mix
  rw [wb_xor, wb_xor, wb_xor, wb_dbl _ _ hj, wb_xor, twice_lin, wb_rot x j 1 hj (by omega) (by omega), wb_rot x j 2 hj (by omega) (by omega), wb_rot x j 3 hj (by omega) (by omega)]
/-- A word of four by its place. -/
def W4.at (x : W4) (c : Nat) : BitVec 32 := match c with | 0 => x.a | 1 => x.b | 2 => x.c | _ => x.d
theorem byte_at (x : W4) (c r : Nat) (hc : c < 4) (hr : r < 4) : x.byte (4 * c + r) = wb (x.at c) r := by
  unfold W4.byte W4.at
  rw [show (4 * c + r) / 4 = c by omega, show (4 * c + r) % 4 = r by omega]
  match c, hc with
  | 0, _ => rfl
  | 1, _ => rfl
  | 2, _ => rfl
  | 3, _ => rfl
theorem shift_byte (x : W4) (c r : Nat) (hc : c < 4) (hr : r < 4) : (x.shift sbox).byte (4 * c + r) = sbox (x.byte (4 * ((c + r) % 4) + r)).toNat := by
  rw [byte_at _ _ _ hc hr, byte_at _ _ _ (by omega) hr]
  match c, r, hc, hr with
  | 0, 0, _, _ => simp only [W4.shift, W4.at, subw_wd, wb_wd0]
  | 0, 1, _, _ => simp only [W4.shift, W4.at, subw_wd, wb_wd1]
  | 0, 2, _, _ => simp only [W4.shift, W4.at, subw_wd, wb_wd2]
  | 0, 3, _, _ => simp only [W4.shift, W4.at, subw_wd, wb_wd3]
  | 1, 0, _, _ => simp only [W4.shift, W4.at, subw_wd, wb_wd0]
  | 1, 1, _, _ => simp only [W4.shift, W4.at, subw_wd, wb_wd1]
  | 1, 2, _, _ => simp only [W4.shift, W4.at, subw_wd, wb_wd2]
  | 1, 3, _, _ => simp only [W4.shift, W4.at, subw_wd, wb_wd3]
  | 2, 0, _, _ => simp only [W4.shift, W4.at, subw_wd, wb_wd0]
  | 2, 1, _, _ => simp only [W4.shift, W4.at, subw_wd, wb_wd1]
  | 2, 2, _, _ => simp only [W4.shift, W4.at, subw_wd, wb_wd2]
  | 2, 3, _, _ => simp only [W4.shift, W4.at, subw_wd, wb_wd3]
  | 3, 0, _, _ => simp only [W4.shift, W4.at, subw_wd, wb_wd0]
  | 3, 1, _, _ => simp only [W4.shift, W4.at, subw_wd, wb_wd1]
  | 3, 2, _, _ => simp only [W4.shift, W4.at, subw_wd, wb_wd2]
  | 3, 3, _, _ => simp only [W4.shift, W4.at, subw_wd, wb_wd3]
theorem mix_byte (x : W4) (c r : Nat) (hc : c < 4) (hr : r < 4) : x.mix.byte (4 * c + r) = twiceR (x.byte (4 * c + r)) ^^^ twiceR (x.byte (4 * c + (r + 1) % 4)) ^^^ x.byte (4 * c + (r + 1) % 4) ^^^ x.byte (4 * c + (r + 2) % 4) ^^^ x.byte (4 * c + (r + 3) % 4) := by
  rw [byte_at _ _ _ hc hr, byte_at _ _ _ hc hr, byte_at _ _ _ hc (by omega), byte_at _ _ _ hc (by omega), byte_at _ _ _ hc (by omega), ← wb_mix _ _ hr]
  match c, hc with
  | 0, _ => rfl
  | 1, _ => rfl
  | 2, _ => rfl
  | 3, _ => rfl
theorem xor_byte (x y : W4) (i : Nat) : (x.xor y).byte i = x.byte i ^^^ y.byte i := by
  unfold W4.byte W4.xor
  split <;> exact wb_xor _ _ _
theorem kw_byte (b : Nat → BitVec 8) (r i : Nat) (h : i < 16) : (kw (sched b) r).byte i = kbyte b (16 * r + i) := by
  obtain ⟨c, j, rfl, hc, hj⟩ : ∃ c j, i = 4 * c + j ∧ c < 4 ∧ j < 4 := ⟨i / 4, i % 4, by omega, by omega, by omega⟩
  rw [byte_at _ _ _ hc hj, show 16 * r + (4 * c + j) = 4 * (r * 4 + c) + j by omega, kbyte_word _ _ _ hj]
  match c, hc with
  | 0, _ => rfl
  | 1, _ => rfl
  | 2, _ => rfl
  | 3, _ => rfl
end Go.Proofs.YtjbpjoondmcnlabDoor
