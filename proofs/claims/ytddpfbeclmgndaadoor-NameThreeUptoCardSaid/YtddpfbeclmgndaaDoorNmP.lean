/-
  name's reader: a place.
-/
import Derived.Test.YtddpfbeclmgndaaDoorNmO
namespace Go.Proofs.YtddpfbeclmgndaaDoor
open Go Go.RowKit Go.BigFrame
set_option linter.unusedSimpArgs false
set_option linter.unusedVariables false
theorem or_byte (x : Nat) (y : BitVec 8) (hx : x < 4294967296) : bits .or .i64 (wrap64 ((x : Int) * 256)) (wrap64 (n8 y)) = ((x * 256 + y.toNat : Nat) : Int) := by
  have hy := y.isLt
  have e1 : wrap64 ((x : Int) * 256) = ((x * 256 : Nat) : Int) := by unfold wrap64; omega
  have e2 : wrap64 (n8 y) = (y.toNat : Int) := by rw [n8_nat]; unfold wrap64; omega
  rw [e1, e2]
  show IntKind.wrap .i64 _ = _
  have e3 : (BitVec.ofInt (IntKind.bits .i64) ((x * 256 : Nat) : Int) ||| BitVec.ofInt (IntKind.bits .i64) (y.toNat : Int)).toNat = x * 256 + y.toNat := by
    show (BitVec.ofInt 64 ((x * 256 : Nat) : Int) ||| BitVec.ofInt 64 (y.toNat : Int)).toNat = _
    rw [BitVec.toNat_or, BitVec.toNat_ofInt, BitVec.toNat_ofInt]
    rw [show (((x * 256 : Nat) : Int) % ((2 ^ 64 : Nat) : Int)).toNat = x <<< 8 by rw [Nat.shiftLeft_eq]; omega, show ((y.toNat : Int) % ((2 ^ 64 : Nat) : Int)).toNat = y.toNat by omega]
    rw [← Nat.shiftLeft_add_eq_or_of_lt (by omega), Nat.shiftLeft_eq]
  rw [e3]
  simp only [IntKind.wrap, IntKind.bits, IntKind.signed]
  simp
  omega
theorem or_cnt (x y : BitVec 8) : bits .or .i64 (wrap64 (wrap64 (n8 x) * 256)) (wrap64 (n8 y)) = ((x.toNat * 256 + y.toNat : Nat) : Int) := by
  have hx := x.isLt
  have e : wrap64 (n8 x) = (x.toNat : Int) := by rw [n8_nat]; unfold wrap64; omega
  rw [e]
  exact or_byte x.toNat y (by omega)
theorem and_low (m : Nat) (h : m < 65536) : bits .and .i64 (m : Int) 16383 = ((m % 16384 : Nat) : Int) := by
  show IntKind.wrap .i64 _ = _
  have e3 : (BitVec.ofInt (IntKind.bits .i64) (m : Int) &&& BitVec.ofInt (IntKind.bits .i64) 16383).toNat = m % 16384 := by
    show (BitVec.ofInt 64 (m : Int) &&& BitVec.ofInt 64 16383).toNat = _
    rw [BitVec.toNat_and, BitVec.toNat_ofInt, BitVec.toNat_ofInt]
    rw [show ((m : Int) % ((2 ^ 64 : Nat) : Int)).toNat = m by omega, show ((16383 : Int) % ((2 ^ 64 : Nat) : Int)).toNat = 2 ^ 14 - 1 by decide]
    rw [Nat.and_two_pow_sub_one_eq_mod]
  rw [e3]
  simp only [IntKind.wrap, IntKind.bits, IntKind.signed]
  simp
  omega
/-- Two bytes' place. -/
def toF (c b : BitVec 8) : Nat := (c.toNat * 256 + b.toNat) % 16384
theorem place_num (c b : BitVec 8) : bits .and .i64 (bits .or .i64 (wrap64 (wrap64 (n8 c) * 256)) (wrap64 (n8 b))) 16383 = (toF c b : Int) := by
  have h1 := c.isLt
  have h2 := b.isLt
  rw [or_cnt, and_low _ (by omega)]
  rfl
set_option maxHeartbeats 8000000 in
set_option maxRecDepth 100000 in
theorem place_tail {q : Nat} {a : Option Addr} {n cap : Nat} {f : Nat → BitVec 8} {p l d : Nat} {tv : Value} {T : List (BitVec 8)} {thr : Bool} {w : World} (h : Gd q a n cap f p l d tv T thr 0 w) (c : BitVec 8) (hp : n ≤ p) :
    Calls Tryd.prog 48 #[.pointer (some ⟨q, 0, none⟩), .int .u8 (n8 c)] w fun x w' => (∃ v, x = .returned v) ∧ Gd q a n cap f p l d tv T thr 3 w' ∧ Below q w w' := by
  have NX := Lib.hid (next_tail h hp)
  have H := Lib.hid h
  clear h
  go_enter Tryd.func48, Tryd.ntmps48
  go_upto_region 1 with (go_at_call 45; refine NX.out.mono ?_; clear NX; rintro e w1 ⟨rfl, G1, B1⟩)
  obtain ⟨c0, c1, c2, c3, c4', c5, c6⟩ := cells7 G1.row
  go_wp2_with fail
  refine bodyPost_ret (results_none rfl _ _ _) rfl ?_
  exact ⟨⟨_, rfl⟩, G1, B1⟩
set_option maxHeartbeats 8000000 in
set_option maxRecDepth 100000 in
theorem place_loop {q : Nat} {a : Option Addr} {n cap : Nat} {f : Nat → BitVec 8} {p l d : Nat} {tv : Value} {T : List (BitVec 8)} {thr : Bool} {w : World} (h : Gd q a n cap f p l d tv T thr 0 w) (c : BitVec 8) (hp : p < n) (ht : l ≤ toF c (f p)) :
    Calls Tryd.prog 48 #[.pointer (some ⟨q, 0, none⟩), .int .u8 (n8 c)] w fun x w' => (∃ v, x = .returned v) ∧ Gd q a n cap f (p + 1) l d tv T thr 13 w' ∧ Below q w w' := by
  have NX := Lib.hid (next_ok h hp)
  have H := Lib.hid h
  have PN := Lib.hid (place_num c (f p))
  clear h
  go_enter Tryd.func48, Tryd.ntmps48
  go_upto_region 1 with (go_at_call 45; refine NX.out.mono ?_; clear NX; rintro e w1 ⟨rfl, G1, B1⟩)
  rw [PN.out]
  obtain ⟨K, hK⟩ : ∃ K, toF c (f p) = K := ⟨_, rfl⟩
  rw [hK] at ht ⊢
  clear hK PN
  have ht' : (l : Int) ≤ (K : Int) := by omega
  have hs := G1.set (p' := p + 1) (l' := l) (d' := d) (thr' := thr) (e' := 13) (rowSet_cell w1 q 6 _ _ (.int .i64 13) G1.row)
  have HS := Lib.hid hs
  have fz : ∀ j, w1.frozen? ⟨q, j, none⟩ = false := fun j => frozen_of_row _ _ _ _ _ G1.row
  obtain ⟨c0, c1, c2, c3, c4', c5, c6⟩ := cells7 G1.row
  clear hs
  go_wp2_with fail
  refine bodyPost_ret (results_none rfl _ _ _) rfl ?_
  exact ⟨⟨_, rfl⟩, HS.out.1, B1.trans HS.out.2⟩
set_option maxHeartbeats 8000000 in
set_option maxRecDepth 100000 in
theorem place_ok {q : Nat} {a : Option Addr} {n cap : Nat} {f : Nat → BitVec 8} {p l d : Nat} {tv : Value} {T : List (BitVec 8)} {thr : Bool} {w : World} (h : Gd q a n cap f p l d tv T thr 0 w) (c : BitVec 8) (hp : p < n) (ht : toF c (f p) < l) :
    Calls Tryd.prog 48 #[.pointer (some ⟨q, 0, none⟩), .int .u8 (n8 c)] w fun x w' => (∃ v, x = .returned v) ∧ Gd q a n cap f (toF c (f p)) (toF c (f p)) (if d = 0 then p + 1 else d) tv T thr 0 w' ∧ Below q w w' := by
  have NX := Lib.hid (next_ok h hp)
  have H := Lib.hid h
  have PN := Lib.hid (place_num c (f p))
  obtain ⟨D, hD⟩ : ∃ D, (if d = 0 then p + 1 else d) = D := ⟨_, rfl⟩
  rw [hD]
  have HD := Lib.hid hD
  clear h hD
  go_enter Tryd.func48, Tryd.ntmps48
  go_upto_region 1 with (go_at_call 45; refine NX.out.mono ?_; clear NX; rintro e w1 ⟨rfl, G1, B1⟩)
  rw [PN.out]
  obtain ⟨K, hK⟩ : ∃ K, toF c (f p) = K := ⟨_, rfl⟩
  have HK := Lib.hid hK
  rw [hK] at ht ⊢
  clear hK PN
  have ht' : ¬ (l : Int) ≤ (K : Int) := by omega
  have EA := Lib.hid (endAt_any G1 (p + 1))
  have G1' := Lib.hid G1
  obtain ⟨c0, c1, c2, c3, c4', c5, c6⟩ := cells7 G1.row
  clear G1
  go_upto_region 5 with (go_at_call 46; refine EA.out.mono ?_; clear EA; rintro e w2 ⟨⟨v2, rfl⟩, G2, B2⟩)
  rw [HD.out] at G2
  have fz : ∀ j, w2.frozen? ⟨q, j, none⟩ = false := fun j => frozen_of_row _ _ _ _ _ G2.row
  have hs := G2.set (p' := K) (l' := l) (d' := D) (thr' := thr) (e' := 0) (rowSet_cell w2 q 1 _ _ (.int .i64 (K : Int)) G2.row)
  have hs2 := hs.1.set (p' := K) (l' := K) (d' := D) (thr' := thr) (e' := 0) (rowSet_cell _ q 2 _ _ (.int .i64 (K : Int)) hs.1.row)
  have HS := Lib.hid hs2.1
  have HB := Lib.hid ((B1.trans B2).trans (hs.2.trans hs2.2))
  have fz2 : ∀ j, (w2.setCell ⟨q, 1, none⟩ (.int .i64 (K : Int))).frozen? ⟨q, j, none⟩ = false := fun j => frozen_of_row _ _ _ _ _ hs.1.row
  have g2 : (w2.setCell ⟨q, 1, none⟩ (.int .i64 (K : Int))).cell? ⟨q, 2, none⟩ = some (.int .i64 (l : Int)) := (cells7 hs.1.row).2.2.1
  clear c0 c1 c2 c3 c4' c5 c6
  obtain ⟨c0, c1, c2, c3, c4', c5, c6⟩ := cells7 G2.row
  clear hs hs2
  go_wp2_with fail
  go_end0
  exact ⟨⟨_, rfl⟩, by rw [HK.out]; exact HS.out, HB.out⟩
end Go.Proofs.YtddpfbeclmgndaaDoor
