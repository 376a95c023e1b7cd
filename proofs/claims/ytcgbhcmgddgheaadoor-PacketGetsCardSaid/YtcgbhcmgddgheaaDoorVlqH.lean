/-
  Text: a text behind the count of its bytes; what is put is got, whatever stands behind.
-/
import Derived.Test.YtcgbhcmgddgheaaDoorVlqG
import Derived.Test.YtcgbhcmgddgheaaDoorOwn
import Derived.RegionTactic
namespace Go.Proofs.YtcgbhcmgddgheaaDoor
open Go Go.RowKit Go.BigFrame
set_option linter.unusedVariables false
set_option linter.unusedSimpArgs false
/-- A row that was made as it is, owned. -/
theorem MyRow.own {w0 w : World} {r n : Nat} {f : Nat → BitVec 8} (h : MyRow w0 r n 5 f w) (hn : n ≤ maxLen) : Own w0.heap.size (.slice (some ⟨r, 0, none⟩) n n) n f w :=
  ⟨⟨by rw [firsts_len, Nat.mul_one], .inr ⟨r, n, _, rfl, h.new, h.row, Nat.le_refl _, hn, by rw [bytesArr_size, Nat.mul_one], by
    rw [bytesArr_firsts, Nat.mul_one, List.take_of_length_le (by rw [firsts_len]; exact Nat.le_refl _)]⟩⟩, h.below.size⟩
theorem wrap_len (n : Nat) (h : n ≤ 65535) : IntKind.u64.wrap ((n : Nat) : Int) = n64 (BitVec.ofNat 64 n) := by
  rw [wrap_n64]
  congr 1
/-- A text's bytes behind their count. -/
def textB (n : Nat) (s : Nat → BitVec 8) : Nat → BitVec 8 := joinb (vbyte (BitVec.ofNat 64 n) (least (BitVec.ofNat 64 n))) (2 ^ least (BitVec.ofNat 64 n)) s
def textK (n : Nat) : Nat := 2 ^ least (BitVec.ofNat 64 n)
set_option maxHeartbeats 4000000 in
theorem text_big (s : Nat → BitVec 8) (n : Nat) (w : World) (hn : 65535 < n) (hm : n ≤ maxLen) :
    Calls Tryd.prog 28 #[.string (strOf s n)] w fun e w' => e = .returned (.tuple #[.slice none 0 0, .int .i64 5]) ∧ w = w' := by
  have hs := strOf_size s n
  have hm' : n ≤ 9223372036854775807 := by unfold maxLen at hm; omega
  have hn' : (65535 : Int) < (n : Int) := by omega
  generalize strOf s n = t at *
  clear hn hm
  go_enter Tryd.func28, Tryd.ntmps28
  go_wp2_with fail
  go_ret2
  exact ⟨rfl, rfl⟩
set_option maxRecDepth 100000 in
set_option maxHeartbeats 4000000 in
theorem text_ok (s : Nat → BitVec 8) (n : Nat) (w : World) (hn : n ≤ 65535) (tab : Tab w) :
    Calls Tryd.prog 28 #[.string (strOf s n)] w fun e w' => ∃ v, e = .returned (.tuple #[v, .int .i64 0]) ∧ Own w.heap.size v (textK n + n) (textB n s) w' ∧ Below w.heap.size w w' := by
  have hs := strOf_size s n
  have sr := src_str s n
  have hfit : (BitVec.ofNat 64 n).toNat < 2 ^ 62 := by rw [BitVec.toNat_ofNat]; omega
  have pc := put_int_ok (n : Int) (BitVec.ofNat 64 n) (wrap_len n hn) hfit w tab
  have hk8 : 2 ^ least (BitVec.ofNat 64 n) ≤ 8 := Nat.le_trans (Nat.pow_le_pow_right (by decide) (by have := least_lt (BitVec.ofNat 64 n); omega : least (BitVec.ofNat 64 n) ≤ 3)) (by decide)
  have PC := Lib.hid pc
  have SR := Lib.hid sr
  have hn' : ¬ (65535 : Int) < (n : Int) := by omega
  generalize strOf s n = t at *
  clear pc sr hfit tab
  go_enter Tryd.func28, Tryd.ntmps28
  go_wp2_with fail
  refine PC.out.mono ?_
  rintro e w1 ⟨r, rfl, hr⟩
  have O := Lib.hid (hr.own (by unfold maxLen; omega))
  have B1 := Lib.hid hr.below
  clear hr
  go_wp2_with (refine wpList_append_bytes (o := ⟨some 20, _, _, _, _, _⟩) rfl _ _ 9 rfl rfl rfl O.out (SR.out _) ?bd ?_)
  case bd => omega
  intro v2 w2 ho hg
  have B2 := Lib.hid (B1.out.trans (hg.below O.out))
  have O2 := Lib.hid ho
  clear ho hg O B1
  go_wp2_with fail
  go_ret2
  exact ⟨v2, rfl, O2.out, B2.out⟩
theorem textK_pos (n : Nat) : 1 ≤ textK n ∧ textK n ≤ 8 := ⟨Nat.two_pow_pos _, Nat.le_trans (Nat.pow_le_pow_right (by decide) (by have := least_lt (BitVec.ofNat 64 n); omega : least (BitVec.ofNat 64 n) ≤ 3)) (by decide)⟩
theorem got_of {F : Nat → BitVec 8} {len : Nat} {x : BitVec 64} {k : Nat} (hk : k < 4) (hx : x.toNat < 2 ^ (8 * 2 ^ k - 2)) (h : ∀ i, i < 2 ^ k → F i = vbyte x k i) (hl : 2 ^ k ≤ len) :
    isNum F len = true ∧ getV F len = x.toNat ∧ getK F len = 2 ^ k ∧ gk F = k := by
  have hp := Nat.two_pow_pos k
  have hg : gk F = k := by unfold gk; rw [h 0 hp]; exact size_vbyte x k hk hx
  have hn : isNum F len = true := by unfold isNum; exact decide_eq_true ⟨by omega, by rw [hg]; exact hl⟩
  refine ⟨hn, ?_, ?_, hg⟩
  · unfold getV
    rw [if_pos hn, hg, getN_congr (g := vbyte x k) _ (fun i hi => h i (by omega)), getN_vbyte x k hk hx]
  · unfold getK
    rw [if_pos hn, hg]
theorem got_tuple {F : Nat → BitVec 8} {len : Nat} {x : BitVec 64} {k : Nat} (hk : k < 4) (hx : x.toNat < 2 ^ (8 * 2 ^ k - 2)) (h : ∀ i, i < 2 ^ k → F i = vbyte x k i) (hl : 2 ^ k ≤ len) :
    gotten F len = .tuple #[.int .u64 (n64 x), .int .i64 ((2 ^ k : Nat) : Int), .int .i64 0] := by
  obtain ⟨h1, h2, h3, _⟩ := got_of hk hx h hl
  unfold gotten
  rw [h2, h3, getE_yes h1, n64_nat]
theorem got_short (x : BitVec 64) (k : Nat) (hk : k < 4) (hx : x.toNat < 2 ^ (8 * 2 ^ k - 2)) : gotten (vbyte x k) (2 ^ k - 1) = .tuple #[.int .u64 0, .int .i64 0, .int .i64 3] := by
  have hg : gk (vbyte x k) = k := size_vbyte x k hk hx
  have hp := Nat.two_pow_pos k
  exact gotten_no (by rw [hg]; omega)
theorem text_fits (n : Nat) (h : n ≤ 65535) : (BitVec.ofNat 64 n).toNat < 2 ^ (8 * 2 ^ least (BitVec.ofNat 64 n) - 2) := least_fits _ (by rw [BitVec.toNat_ofNat]; omega)
theorem text_tuple {F : Nat → BitVec 8} {n len : Nat} {s : Nat → BitVec 8} (hn : n ≤ 65535) (h : ∀ i, i < textK n + n → F i = textB n s i) (hl : textK n + n ≤ len) :
    texted F len = .tuple #[.string (strOf s n), .int .i64 ((textK n + n : Nat) : Int), .int .i64 0] := by
  have hf : ∀ i, i < 2 ^ least (BitVec.ofNat 64 n) → F i = vbyte (BitVec.ofNat 64 n) (least (BitVec.ofNat 64 n)) i := fun i hi => by
    rw [h i (by unfold textK; omega)]
    unfold textB joinb
    rw [if_pos hi]
  obtain ⟨h1, h2, h3, _⟩ := got_of (len := len) (least_lt _) (text_fits n hn) hf (by unfold textK at hl; omega)
  have hV : getV F len = n := by rw [h2, BitVec.toNat_ofNat]; omega
  have hK : getK F len = textK n := h3
  have hE : textE F len = 0 := by
    unfold textE
    rw [if_neg (by simp [h1]), hV, hK, if_neg (by omega), if_neg (by omega)]
  rw [texted_yes hE, hV, hK]
  have : strOf (fun i => F (textK n + i)) n = strOf s n := by
    rw [strOf_eq]
    intro i hi
    rw [h _ (by omega)]
    unfold textB joinb
    rw [if_neg (by unfold textK; omega)]
    congr 1
    unfold textK
    omega
  rw [this]
end Go.Proofs.YtcgbhcmgddgheaaDoor
