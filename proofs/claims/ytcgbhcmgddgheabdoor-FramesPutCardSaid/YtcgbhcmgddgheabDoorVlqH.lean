/-
  Text: a text behind the count of its bytes; what is put is got, whatever stands behind.
-/
import Derived.Test.YtcgbhcmgddgheabDoorVlqG
import Derived.Test.YtcgbhcmgddgheabDoorOwn
import Derived.RegionTactic
namespace Go.Proofs.YtcgbhcmgddgheabDoor
open Go Go.RowKit Go.BigFrame
set_option linter.unusedVariables false
set_option linter.unusedSimpArgs false
/-- A row that was made as it is, owned. -/
theorem MyRow.own {w0 w : World} {r n : Nat} {f : Nat → BitVec 8} (h : MyRow w0 r n 5 f w) (hn : n ≤ maxLen) : Own w0.heap.size (.slice (some ⟨r, 0, none⟩) n n) n f w :=
  ⟨⟨by rw [firsts_len, Nat.mul_one], .inr ⟨r, n, _, rfl, h.new, h.row, Nat.le_refl _, hn, by rw [bytesArr_size, Nat.mul_one], by
    rw [bytesArr_firsts, Nat.mul_one, List.take_of_length_le (by rw [firsts_len]; exact Nat.le_refl _)]⟩⟩, h.below.size⟩
theorem wrap_len (n : Nat) (h : n ≤ 65535) : IntKind.u64.wrap ((n : Nat) : Int) = n64 (BitVec.ofNat 64 n) := by
  rw [wrap_n64]
  congr 1
/-- A text's bytes behind their count. -/
def textB (n : Nat) (s : Nat → BitVec 8) : Nat → BitVec 8 := joinb (vbyte (BitVec.ofNat 64 n) (least (BitVec.ofNat 64 n))) (2 ^ least (BitVec.ofNat 64 n)) s
def textK (n : Nat) : Nat := 2 ^ least (BitVec.ofNat 64 n)
theorem textK_pos (n : Nat) : 1 ≤ textK n ∧ textK n ≤ 8 := ⟨Nat.two_pow_pos _, Nat.le_trans (Nat.pow_le_pow_right (by decide) (by have := least_lt (BitVec.ofNat 64 n); omega : least (BitVec.ofNat 64 n) ≤ 3)) (by decide)⟩
theorem got_of {F : Nat → BitVec 8} {len : Nat} {x : BitVec 64} {k : Nat} (hk : k < 4) (hx : x.toNat < 2 ^ (8 * 2 ^ k - 2)) (h : ∀ i, i < 2 ^ k → F i = vbyte x k i) (hl : 2 ^ k ≤ len) :
    isNum F len = true ∧ getV F len = x.toNat ∧ getK F len = 2 ^ k ∧ gk F = k := by
  have hp := Nat.two_pow_pos k
  have hg : gk F = k := by unfold gk; rw [h 0 hp]; exact size_vbyte x k hk hx
  have hn : isNum F len = true := by unfold isNum; exact decide_eq_true ⟨by omega, by rw [hg]; exact hl⟩
  refine ⟨hn, ?_, ?_, hg⟩
  · unfold getV
    rw [if_pos hn, hg, getN_congr (g := vbyte x k) _ (fun i hi => h i (by omega)), getN_vbyte x k hk hx]
  · unfold getK
    rw [if_pos hn, hg]
theorem got_tuple {F : Nat → BitVec 8} {len : Nat} {x : BitVec 64} {k : Nat} (hk : k < 4) (hx : x.toNat < 2 ^ (8 * 2 ^ k - 2)) (h : ∀ i, i < 2 ^ k → F i = vbyte x k i) (hl : 2 ^ k ≤ len) :
    gotten F len = .tuple #[.int .u64 (n64 x), .int .i64 ((2 ^ k : Nat) : Int), .int .i64 0] := by
  obtain ⟨h1, h2, h3, _⟩ := got_of hk hx h hl
  unfold gotten
  rw [h2, h3, getE_yes h1, n64_nat]
theorem got_short (x : BitVec 64) (k : Nat) (hk : k < 4) (hx : x.toNat < 2 ^ (8 * 2 ^ k - 2)) : gotten (vbyte x k) (2 ^ k - 1) = .tuple #[.int .u64 0, .int .i64 0, .int .i64 3] := by
  have hg : gk (vbyte x k) = k := size_vbyte x k hk hx
  have hp := Nat.two_pow_pos k
  exact gotten_no (by rw [hg]; omega)
theorem text_fits (n : Nat) (h : n ≤ 65535) : (BitVec.ofNat 64 n).toNat < 2 ^ (8 * 2 ^ least (BitVec.ofNat 64 n) - 2) := least_fits _ (by rw [BitVec.toNat_ofNat]; omega)
theorem text_tuple {F : Nat → BitVec 8} {n len : Nat} {s : Nat → BitVec 8} (hn : n ≤ 65535) (h : ∀ i, i < textK n + n → F i = textB n s i) (hl : textK n + n ≤ len) :
    texted F len = .tuple #[.string (strOf s n), .int .i64 ((textK n + n : Nat) : Int), .int .i64 0] := by
  have hf : ∀ i, i < 2 ^ least (BitVec.ofNat 64 n) → F i = vbyte (BitVec.ofNat 64 n) (least (BitVec.ofNat 64 n)) i := fun i hi => by
    rw [h i (by unfold textK; omega)]
    unfold textB joinb
    rw [if_pos hi]
  obtain ⟨h1, h2, h3, _⟩ := got_of (len := len) (least_lt _) (text_fits n hn) hf (by unfold textK at hl; omega)
  have hV : getV F len = n := by rw [h2, BitVec.toNat_ofNat]; omega
  have hK : getK F len = textK n := h3
  have hE : textE F len = 0 := by
    unfold textE
    rw [if_neg (by simp [h1]), hV, hK, if_neg (by omega), if_neg (by omega)]
  rw [texted_yes hE, hV, hK]
  have : strOf (fun i => F (textK n + i)) n = strOf s n := by
    rw [strOf_eq]
    intro i hi
    rw [h _ (by omega)]
    unfold textB joinb
    rw [if_neg (by unfold textK; omega)]
    congr 1
    unfold textK
    omega
  rw [this]
end Go.Proofs.YtcgbhcmgddgheabDoor
