/-
  name's reader: its row, small, next, endAt.
-/
import Derived.Test.YtddpfbeclmgndaaDoorNmM
import Derived.Test.YtddpfbeclmgndaaDoorChg
namespace Go.Proofs.YtddpfbeclmgndaaDoor
open Go Go.RowKit Go.BigFrame
set_option linter.unusedSimpArgs false
set_option linter.unusedVariables false
/-- A large letter's small one. -/
def lowc (c : BitVec 8) : BitVec 8 := if 65 ≤ c.toNat ∧ c.toNat ≤ 90 then c + 32#8 else c
theorem lowc_nat (c : BitVec 8) : (lowc c).toNat = if 65 ≤ c.toNat ∧ c.toNat ≤ 90 then c.toNat + 32 else c.toNat := by
  unfold lowc
  split
  · rw [BitVec.toNat_add]
    show (c.toNat + 32) % 256 = _
    omega
  · rfl
theorem small_any (c : BitVec 8) (w : World) : Calls Tryd.prog 58 #[.int .u8 (n8 c)] w fun e w' => e = .returned (.int .u8 (n8 (lowc c))) ∧ w = w' := by
  have hn := n8_nat c
  have hm := n8_nat (lowc c)
  rw [lowc_nat] at hm
  have hlt := c.isLt
  generalize n8 (lowc c) = M at *
  generalize n8 c = X at *
  obtain ⟨k, hk⟩ : ∃ k, c.toNat = k := ⟨_, rfl⟩
  rw [hk] at hn hm hlt
  by_cases h1 : 65 ≤ k
  · by_cases h2 : k ≤ 90
    · rw [if_pos ⟨h1, h2⟩] at hm
      have h1' : (65 : Int) ≤ X := by omega
      have h2' : X ≤ 90 := by omega
      have HM := Lib.hid hm
      have HN := Lib.hid hn
      clear hm hn hk
      go_enter Tryd.func58, Tryd.ntmps58
      go_wp2_with fail
      go_ret
      refine ⟨?_, rfl⟩
      rw [HM.out, HN.out]
      show Ending.returned (.int .u8 _) = _
      congr 2
      omega
    · rw [if_neg (by omega)] at hm
      have h1' : (65 : Int) ≤ X := by omega
      have h2' : ¬ X ≤ 90 := by omega
      have HM : Hid (M = X) := by rw [hm, hn]; exact rfl
      clear hm hn hk
      go_enter Tryd.func58, Tryd.ntmps58
      go_wp2_with fail
      go_ret
      exact ⟨by rw [HM.out]; rfl, rfl⟩
  · rw [if_neg (by omega)] at hm
    have h1' : ¬ (65 : Int) ≤ X := by omega
    have HM : Hid (M = X) := by rw [hm, hn]; exact rfl
    clear hm hn hk
    go_enter Tryd.func58, Tryd.ntmps58
    go_wp2_with fail
    go_ret
    exact ⟨by rw [HM.out]; rfl, rfl⟩
def rC (bv : Value) (p l d : Nat) (tv : Value) (thr : Bool) (e : Nat) : Array Value := #[bv, .int .i64 (p : Int), .int .i64 (l : Int), .int .i64 (d : Int), tv, .bool thr, .int .i64 (e : Int)]
/-- Bytes that lie below q. -/
structure InQ (q : Nat) (a : Option Addr) (n cap : Nat) (f : Nat → BitVec 8) (w : World) : Prop where
  inB : BytesIn w a n f
  nc : n ≤ cap
  cm : cap ≤ maxLen
  off : ∀ x, a = some x → 0 < n → x.block < q
theorem InQ.keep {q : Nat} {a : Option Addr} {n cap : Nat} {f : Nat → BitVec 8} {w w' : World} (h : InQ q a n cap f w) (hb : Below q w w') : InQ q a n cap f w' := by
  refine ⟨⟨h.inB.1, ?_⟩, h.nc, h.cm, h.off⟩
  rcases h.inB.2 with h0 | ⟨b, o, rfl, hb2, hc⟩
  · exact .inl h0
  · exact .inr ⟨b, o, rfl, Nat.lt_of_lt_of_le hb2 hb.size, fun i hi => (hb.cell (p := ⟨b, o + i, none⟩) (h.off ⟨b, o, none⟩ rfl (by omega))).trans (hc i hi)⟩
/-- A reader in block q: its bytes, its place, the bound, where the name's bytes end, its text, is it through, the first error. -/
structure Gd (q : Nat) (a : Option Addr) (n cap : Nat) (f : Nat → BitVec 8) (p l d : Nat) (tv : Value) (T : List (BitVec 8)) (thr : Bool) (e : Nat) (w : World) : Prop where
  row : w.heap[q]? = some (.cells (rC (.slice a n cap) p l d tv thr e) 60 (0, 0))
  own : OwnL (q + 1) tv T w
  inq : InQ q a n cap f w
theorem cells7 {w : World} {B : Nat} {T : TypeId} {x0 x1 x2 x3 x4 x5 x6 : Value} (h : w.heap[B]? = some (.cells #[x0, x1, x2, x3, x4, x5, x6] T (0, 0))) :
    w.cell? ⟨B, 0, none⟩ = some x0 ∧ w.cell? ⟨B, 1, none⟩ = some x1 ∧ w.cell? ⟨B, 2, none⟩ = some x2 ∧ w.cell? ⟨B, 3, none⟩ = some x3 ∧ w.cell? ⟨B, 4, none⟩ = some x4 ∧ w.cell? ⟨B, 5, none⟩ = some x5 ∧ w.cell? ⟨B, 6, none⟩ = some x6 := by
  refine ⟨?_, ?_, ?_, ?_, ?_, ?_, ?_⟩ <;> rw [cell_of_row _ _ _ _ _ _ h] <;> rfl
theorem Gd.drew {q : Nat} {a : Option Addr} {n cap : Nat} {f : Nat → BitVec 8} {p l d : Nat} {tv : Value} {T : List (BitVec 8)} {thr : Bool} {e : Nat} {w : World} (h : Gd q a n cap f p l d tv T thr e w) : Gd q a n cap f p l d tv T thr e w.drew :=
  ⟨h.row, h.own.later (Below.refl _ _).drew, h.inq.keep (Below.refl _ _).drew⟩
theorem OwnL.row {q : Nat} {tv : Value} {T : List (BitVec 8)} {w w' : World} {ty : TypeId} {c : Array Value} (h : OwnL (q + 1) tv T w) (hr : RowSet w q ty c w') : OwnL (q + 1) tv T w' := by
  have hc := hr.chg
  refine Own.kept h (row := some q) ⟨hc.os, hc.tape, hc.output, hc.size, fun k hk hne => hc.block k hk (fun e => hne (by rw [e]))⟩ ?_
  cases hv : tv.ownBlock with
  | none => exact .inl rfl
  | some k =>
    refine .inr (.inr ?_)
    have := (Own.lt h hv).1
    intro e
    cases e
    omega
theorem Gd.set {q : Nat} {a : Option Addr} {n cap : Nat} {f : Nat → BitVec 8} {p l d : Nat} {tv : Value} {T : List (BitVec 8)} {thr : Bool} {e : Nat} {w w' : World} (h : Gd q a n cap f p l d tv T thr e w) {p' l' d' : Nat} {thr' : Bool} {e' : Nat}
    (hr : RowSet w q 60 (rC (.slice a n cap) p' l' d' tv thr' e') w') : Gd q a n cap f p' l' d' tv T thr' e' w' ∧ Below q w w' :=
  ⟨⟨hr.row, h.own.row hr, h.inq.keep (hr.below q (Nat.le_refl _))⟩, hr.below q (Nat.le_refl _)⟩
/-- What a step leaves: the answer, and the reader so. -/
def GdPost (q : Nat) (a : Option Addr) (n cap : Nat) (f : Nat → BitVec 8) (w : World) (v : Value) (p l d : Nat) (tv : Value) (T : List (BitVec 8)) (thr : Bool) (e : Nat) (x : Ending) (w' : World) : Prop :=
  x = .returned v ∧ Gd q a n cap f p l d tv T thr e w' ∧ Below q w w'
set_option maxHeartbeats 4000000 in
set_option maxRecDepth 100000 in
theorem next_stop {q : Nat} {a : Option Addr} {n cap : Nat} {f : Nat → BitVec 8} {p l d : Nat} {tv : Value} {T : List (BitVec 8)} {thr : Bool} {e : Nat} {w : World} (h : Gd q a n cap f p l d tv T thr e w) (he : e ≠ 0) :
    Calls Tryd.prog 45 #[.pointer (some ⟨q, 0, none⟩)] w (GdPost q a n cap f w (.int .u8 0) p l d tv T thr e) := by
  obtain ⟨c0, c1, c2, c3, c4, c5, c6⟩ := cells7 h.row
  have d6 : w.drew.cell? ⟨q, 6, none⟩ = some (.int .i64 (e : Int)) := c6
  have H := Lib.hid h
  have hb : ((e : Int) == 0) = false := beq_eq_false_iff_ne.2 (by omega)
  have he' : ¬ (e : Int) = 0 := by omega
  clear h
  go_enter Tryd.func45, Tryd.ntmps45
  go_upto_region 1 with (fail)
  go_region
  go_wp2_with fail
  go_ret
  exact ⟨rfl, H.out.drew, (Below.refl _ _).drew⟩
set_option maxHeartbeats 4000000 in
set_option maxRecDepth 100000 in
theorem next_tail {q : Nat} {a : Option Addr} {n cap : Nat} {f : Nat → BitVec 8} {p l d : Nat} {tv : Value} {T : List (BitVec 8)} {thr : Bool} {w : World} (h : Gd q a n cap f p l d tv T thr 0 w) (hp : n ≤ p) :
    Calls Tryd.prog 45 #[.pointer (some ⟨q, 0, none⟩)] w (GdPost q a n cap f w (.int .u8 0) p l d tv T thr 3) := by
  obtain ⟨c0, c1, c2, c3, c4, c5, c6⟩ := cells7 h.row
  have d0 : w.drew.cell? ⟨q, 0, none⟩ = some (.slice a n cap) := c0
  have d1 : w.drew.cell? ⟨q, 1, none⟩ = some (.int .i64 (p : Int)) := c1
  have d6 : w.drew.cell? ⟨q, 6, none⟩ = some (.int .i64 0) := c6
  have c6' : w.cell? ⟨q, 6, none⟩ = some (.int .i64 0) := c6
  have fz : ∀ j, w.drew.frozen? ⟨q, j, none⟩ = false := fun j => frozen_of_row _ _ _ _ _ h.row
  have H := Lib.hid h
  have S := Lib.hid (rowSet_cell w.drew q 6 _ _ (.int .i64 3) h.drew.row)
  have hp' : (n : Int) ≤ (p : Int) := by omega
  clear h c6
  go_enter Tryd.func45, Tryd.ntmps45
  go_upto_region 1 with (fail)
  go_region
  go_wp2_with fail
  go_ret
  have hs := H.out.drew.set (p' := p) (l' := l) (d' := d) (thr' := thr) (e' := 3) S.out
  exact ⟨rfl, hs.1, (Below.refl q w).drew.trans hs.2⟩
set_option maxHeartbeats 4000000 in
set_option maxRecDepth 100000 in
theorem next_ok {q : Nat} {a : Option Addr} {n cap : Nat} {f : Nat → BitVec 8} {p l d : Nat} {tv : Value} {T : List (BitVec 8)} {thr : Bool} {w : World} (h : Gd q a n cap f p l d tv T thr 0 w) (hp : p < n) :
    Calls Tryd.prog 45 #[.pointer (some ⟨q, 0, none⟩)] w (GdPost q a n cap f w (.int .u8 (n8 (f p))) (p + 1) l d tv T thr 0) := by
  have hnm : n ≤ 9223372036854775807 := by have h1 := h.inq.nc; have h2 := h.inq.cm; unfold maxLen at h2; omega
  obtain ⟨b, o, rfl, hbw, hc⟩ : ∃ b off, a = some ⟨b, off, none⟩ ∧ b < w.heap.size ∧ ∀ i, i < n → w.cell? ⟨b, off + i, none⟩ = some (.int .u8 (n8 (f i))) := by
    rcases h.inq.inB.2 with h0 | h0
    · omega
    · exact h0
  have hbq := h.inq.off ⟨b, o, none⟩ rfl (by omega)
  obtain ⟨c0, c1, c2, c3, c4, c5, c6⟩ := cells7 h.row
  have d0 : w.drew.cell? ⟨q, 0, none⟩ = some (.slice (some ⟨b, o, none⟩) n cap) := c0
  have d1 : w.drew.cell? ⟨q, 1, none⟩ = some (.int .i64 (p : Int)) := c1
  have d6 : w.drew.cell? ⟨q, 6, none⟩ = some (.int .i64 0) := c6
  have c6' : w.cell? ⟨q, 6, none⟩ = some (.int .i64 0) := c6
  have fz : ∀ j, w.drew.frozen? ⟨q, j, none⟩ = false := fun j => frozen_of_row _ _ _ _ _ h.row
  have S := Lib.hid (rowSet_cell w q 1 _ _ (.int .i64 ((p : Int) + 1)) h.row)
  have hr : RowSet w q 60 (rC (.slice (some ⟨b, o, none⟩) n cap) (p + 1) l d tv thr 0) (w.setCell ⟨q, 1, none⟩ (.int .i64 ((p : Int) + 1))) := by
    have e : ((p + 1 : Nat) : Int) = (p : Int) + 1 := by omega
    unfold rC
    rw [e]
    exact S.out
  have hs := h.set hr
  have HS := Lib.hid hs
  have hp' : ¬ (n : Int) ≤ (p : Int) := by omega
  have ep : (p : Int) + 1 - 1 = (p : Int) := by omega
  clear h c6 S hr hs
  go_enter Tryd.func45, Tryd.ntmps45
  go_upto_region 1 with (fail)
  go_region
  go_upto_region 6 with (fail)
  obtain ⟨e0, e1, e2, e3, e4, e5, e6⟩ := cells7 HS.out.1.row
  have hcp := ((HS.out.2.cell (p := ⟨b, o + p, none⟩) hbq)).trans (hc p hp)
  generalize w.setCell _ _ = w1 at *
  have e1' : w1.cell? ⟨q, 1, none⟩ = some (.int .i64 ((p : Int) + 1)) := e1
  have g0 : w1.drew.drew.cell? ⟨q, 0, none⟩ = some (.slice (some ⟨b, o, none⟩) n cap) := e0
  have g1 : w1.drew.drew.cell? ⟨q, 1, none⟩ = some (.int .i64 ((p : Int) + 1)) := e1'
  have gp : w1.drew.drew.cell? ⟨b, o + p, none⟩ = some (.int .u8 (n8 (f p))) := hcp
  clear e1 c0 c1 c2 c3 c4 c5 c6' d0 d1 d6 fz hc
  go_region
  go_wp2_with fail
  go_ret
  exact ⟨rfl, HS.out.1.drew.drew, HS.out.2.drew.drew⟩
set_option maxHeartbeats 4000000 in
set_option maxRecDepth 100000 in
theorem endAt_any {q : Nat} {a : Option Addr} {n cap : Nat} {f : Nat → BitVec 8} {p l d : Nat} {tv : Value} {T : List (BitVec 8)} {thr : Bool} {e : Nat} {w : World} (h : Gd q a n cap f p l d tv T thr e w) (k : Nat) :
    Calls Tryd.prog 46 #[.pointer (some ⟨q, 0, none⟩), .int .i64 (k : Int)] w fun x w' => (∃ v, x = .returned v) ∧ Gd q a n cap f p l (if d = 0 then k else d) tv T thr e w' ∧ Below q w w' := by
  obtain ⟨c0, c1, c2, c3, c4, c5, c6⟩ := cells7 h.row
  have fz : ∀ j, w.frozen? ⟨q, j, none⟩ = false := fun j => frozen_of_row _ _ _ _ _ h.row
  have H := Lib.hid h
  have S := Lib.hid (rowSet_cell w q 3 _ _ (.int .i64 (k : Int)) h.row)
  clear h
  by_cases hd : d = 0
  · have hb : ((d : Int) == 0) = true := by rw [hd]; rfl
    have hs := H.out.set (p' := p) (l' := l) (d' := k) (thr' := thr) (e' := e) S.out
    have HS := Lib.hid hs
    rw [if_pos hd]
    clear hs S hd
    go_enter Tryd.func46, Tryd.ntmps46
    go_wp2_with fail
    go_end0
    exact ⟨⟨_, rfl⟩, HS.out.1, HS.out.2⟩
  · have hb : ((d : Int) == 0) = false := beq_eq_false_iff_ne.2 (by omega)
    rw [if_neg hd]
    clear S hd
    go_enter Tryd.func46, Tryd.ntmps46
    go_wp2_with fail
    go_end0
    exact ⟨⟨_, rfl⟩, H.out, Below.refl _ _⟩
end Go.Proofs.YtddpfbeclmgndaaDoor
