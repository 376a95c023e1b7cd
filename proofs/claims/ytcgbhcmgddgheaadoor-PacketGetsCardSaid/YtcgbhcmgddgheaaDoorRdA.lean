/-
  PACKET's READER: left, take, atMost.
-/
import Derived.Test.YtcgbhcmgddgheaaDoorChg
import Derived.Test.YtcgbhcmgddgheaaDoorVlqE
import Derived.Test.YtcgbhcmgddgheaaDoorVlqF
import Derived.Deep.DeepCutAuto
namespace Go.Proofs.YtcgbhcmgddgheaaDoor
open Go Go.RowKit Go.BigFrame
set_option linter.unusedSimpArgs false
set_option linter.unusedVariables false
set_option maxRecDepth 100000
def rdC (a : Option Addr) (len cap p : Nat) (e : Int) : Array Value := #[.slice a len cap, .int .i64 (p : Int), .int .i64 e]
/-- A reader in block b: bytes, how many were read, the first error. -/
structure Rd (w : World) (b : Nat) (a : Option Addr) (len cap : Nat) (f : Nat → BitVec 8) (p : Nat) (e : Int) : Prop where
  row : w.heap[b]? = some (.cells (rdC a len cap p e) 115 (0, 0))
  inB : BytesIn w a len f
  lc : len ≤ cap
  cm : cap ≤ maxLen
  pl : p ≤ len
  off : ∀ x, a = some x → x.block ≠ b
theorem cells3 {w : World} {B : Nat} {T : TypeId} {x0 x1 x2 : Value} (h : w.heap[B]? = some (.cells #[x0, x1, x2] T (0, 0))) :
    w.cell? ⟨B, 0, none⟩ = some x0 ∧ w.cell? ⟨B, 1, none⟩ = some x1 ∧ w.cell? ⟨B, 2, none⟩ = some x2 := by
  refine ⟨?_, ?_, ?_⟩ <;> rw [cell_of_row _ _ _ _ _ _ h] <;> rfl
theorem Rd.drew {w : World} {b : Nat} {a : Option Addr} {len cap : Nat} {f : Nat → BitVec 8} {p : Nat} {e : Int} (h : Rd w b a len cap f p e) : Rd w.drew b a len cap f p e :=
  ⟨h.row, h.inB, h.lc, h.cm, h.pl, h.off⟩
theorem Rd.set {w w' : World} {b : Nat} {a : Option Addr} {len cap : Nat} {f : Nat → BitVec 8} {p : Nat} {e : Int} (h : Rd w b a len cap f p e) {p' : Nat} {e' : Int} (hp : p' ≤ len)
    (hr : RowSet w b 115 (rdC a len cap p' e') w') : Rd w' b a len cap f p' e' ∧ Chg b w w' :=
  ⟨⟨hr.row, h.inB.chg hr.chg h.off, h.lc, h.cm, hp, h.off⟩, hr.chg⟩
theorem Rd.setE {w : World} {b : Nat} {a : Option Addr} {len cap : Nat} {f : Nat → BitVec 8} {p : Nat} {e : Int} (h : Rd w b a len cap f p e) (e' : Int) :
    Rd (w.setCell ⟨b, 2, none⟩ (.int .i64 e')) b a len cap f p e' ∧ Chg b w (w.setCell ⟨b, 2, none⟩ (.int .i64 e')) :=
  h.set h.pl (rowSet_cell w b 2 _ (rdC a len cap p e) (.int .i64 e') h.row)
theorem Rd.setP {w : World} {b : Nat} {a : Option Addr} {len cap : Nat} {f : Nat → BitVec 8} {p : Nat} {e : Int} (h : Rd w b a len cap f p e) (p' : Nat) (hp : p' ≤ len) :
    Rd (w.setCell ⟨b, 1, none⟩ (.int .i64 (p' : Int))) b a len cap f p' e ∧ Chg b w (w.setCell ⟨b, 1, none⟩ (.int .i64 (p' : Int))) :=
  h.set hp (rowSet_cell w b 1 _ (rdC a len cap p e) (.int .i64 (p' : Int)) h.row)
theorem Rd.below {w w' : World} {b : Nat} {a : Option Addr} {len cap : Nat} {f : Nat → BitVec 8} {p : Nat} {e : Int} (h : Rd w b a len cap f p e) (hb : Below w.heap.size w w') : Rd w' b a len cap f p e := by
  refine ⟨(hb.block _ (lt_row h.row)).trans h.row, ?_, h.lc, h.cm, h.pl, h.off⟩
  refine ⟨h.inB.1, ?_⟩
  rcases h.inB.2 with h0 | ⟨k, o, e1, hk, hc⟩
  · exact .inl h0
  · exact .inr ⟨k, o, e1, Nat.lt_of_lt_of_le hk hb.size, fun i hi => by rw [hb.cell (p := ⟨k, o + i, none⟩) hk]; exact hc i hi⟩
/-- What a step of a reader answers, and what it leaves. -/
def RdPost (b : Nat) (a : Option Addr) (len cap : Nat) (f : Nat → BitVec 8) (w : World) (v : Value) (p : Nat) (e : Int) (x : Ending) (w' : World) : Prop :=
  x = .returned v ∧ Rd w' b a len cap f p e ∧ Chg b w w'
set_option maxHeartbeats 4000000 in
theorem left_any {w : World} {b : Nat} {a : Option Addr} {len cap : Nat} {f : Nat → BitVec 8} {p : Nat} {e : Int} (h : Rd w b a len cap f p e) :
    Calls Tryd.prog 80 #[.pointer (some ⟨b, 0, none⟩)] w (RdPost b a len cap f w (.int .i64 ((len - p : Nat) : Int)) p e) := by
  obtain ⟨c0, c1, c2⟩ := cells3 h.row
  have hm : len ≤ 9223372036854775807 := by have := h.lc; have := h.cm; unfold maxLen at *; omega
  have hp := h.pl
  have H := Lib.hid h
  clear h
  have d0 : w.drew.cell? ⟨b, 0, none⟩ = some (.slice a len cap) := c0
  have d1 : w.drew.cell? ⟨b, 1, none⟩ = some (.int .i64 (p : Int)) := c1
  go_enter Tryd.func80, Tryd.ntmps80
  go_upto_region 1 with (fail)
  go_region
  go_wp2_with fail
  go_ret
  exact ⟨by rw [show ((len - p : Nat) : Int) = (len : Int) - (p : Int) by omega]; rfl, H.out.drew, (Chg.refl b w).drew⟩
/-- take: how many bytes come, and the error behind it. -/
def tkN (len p : Nat) (e : Int) (n : Nat) : Nat := if e = 0 ∧ n ≤ len - p then n else 0
def tkE (len p : Nat) (e : Int) (n : Nat) : Int := if e = 0 ∧ len - p < n then 3 else e
theorem tk_le (len p : Nat) (e : Int) (n : Nat) (h : p ≤ len) : p + tkN len p e n ≤ len := by unfold tkN; split <;> omega
/-- What take answers. -/
def tkV (a : Option Addr) (len cap p : Nat) (e : Int) (n : Nat) : Value := if e = 0 ∧ n ≤ len - p then .slice (a.map (·.add p)) n (cap - p) else .slice none 0 0
set_option maxHeartbeats 4000000 in
theorem take_err {w : World} {b : Nat} {a : Option Addr} {len cap : Nat} {f : Nat → BitVec 8} {p : Nat} {e : Int} (h : Rd w b a len cap f p e) (he : ¬ e = 0) (n : Int) :
    Calls Tryd.prog 82 #[.pointer (some ⟨b, 0, none⟩), .int .i64 n] w (RdPost b a len cap f w (.slice none 0 0) p e) := by
  obtain ⟨c0, c1, c2⟩ := cells3 h.row
  have H := Lib.hid h
  clear h
  go_enter Tryd.func82, Tryd.ntmps82
  go_wp2_with fail
  go_ret
  exact ⟨rfl, H.out, Chg.refl b w⟩
set_option maxHeartbeats 4000000 in
theorem take_tail {w : World} {b : Nat} {a : Option Addr} {len cap : Nat} {f : Nat → BitVec 8} {p : Nat} (h : Rd w b a len cap f p 0) (n : Int) (hn : ((len - p : Nat) : Int) < n) :
    Calls Tryd.prog 82 #[.pointer (some ⟨b, 0, none⟩), .int .i64 n] w (RdPost b a len cap f w (.slice none 0 0) p 3) := by
  obtain ⟨c0, c1, c2⟩ := cells3 h.row
  have L := Lib.hid (left_any h)
  have H := Lib.hid h
  clear h
  go_enter Tryd.func82, Tryd.ntmps82
  go_wp2_with fail
  with_reducible refine L.out.mono ?_
  rintro x w1 ⟨rfl, h1, g1⟩
  obtain ⟨c0, c1, c2⟩ := cells3 h1.row
  have fr : w1.frozen? ⟨b, 2, none⟩ = false := frozen_of_row _ _ _ _ _ h1.row
  have s1 := h1.setE 3
  have S1 := Lib.hid s1
  have G1 := Lib.hid g1
  clear s1 g1 h1
  go_wp2_with fail
  go_ret
  exact ⟨rfl, S1.out.1, G1.out.trans S1.out.2⟩
/-- What take answers: m bytes, those from the p-th on. -/
def TkPost (b : Nat) (a : Option Addr) (len cap : Nat) (f : Nat → BitVec 8) (w : World) (p m p' : Nat) (e : Int) (x : Ending) (w' : World) : Prop :=
  ∃ a' c', x = .returned (.slice a' m c') ∧ BytesIn w' a' m (fun i => f (p + i)) ∧ m ≤ c' ∧ c' ≤ maxLen ∧ Rd w' b a len cap f p' e ∧ Chg b w w'
theorem bytesIn_cut {w : World} {a a' : Option Addr} {len cap lo n : Nat} {f : Nat → BitVec 8} (hb : BytesIn w a len f) (hn : lo + n ≤ len) (hc : len ≤ cap) (ha : cap ≠ lo → a' = a.map (·.add lo)) : BytesIn w a' n (fun i => f (lo + i)) := by
  refine ⟨by have := hb.1; omega, ?_⟩
  by_cases h0 : n = 0
  · exact .inl h0
  · rcases hb.2 with h1 | ⟨b, off, rfl, hk, hcell⟩
    · omega
    · refine .inr ⟨b, off + lo, ?_, hk, fun i hi => ?_⟩
      · rw [ha (by omega)]
        simp [Addr.add_mid]
      · rw [Nat.add_assoc]
        exact hcell (lo + i) (by omega)
set_option maxHeartbeats 4000000 in
theorem take_ok {w : World} {b : Nat} {a : Option Addr} {len cap : Nat} {f : Nat → BitVec 8} {p : Nat} (h : Rd w b a len cap f p 0) (n : Nat) (hn : n ≤ len - p) :
    Calls Tryd.prog 82 #[.pointer (some ⟨b, 0, none⟩), .int .i64 (n : Int)] w (TkPost b a len cap f w p n (p + n) 0) := by
  obtain ⟨c0, c1, c2⟩ := cells3 h.row
  have L := Lib.hid (left_any h)
  have hm : len ≤ 9223372036854775807 := by have := h.lc; have := h.cm; unfold maxLen at *; omega
  have hp := h.pl
  have hcap := h.lc
  have hcm : cap ≤ 9223372036854775807 := by have := h.cm; unfold maxLen at this; omega
  obtain ⟨a', hcut, ha'⟩ := run_cut a p (p + n) len cap (by omega) (by omega)
  rw [show p + n - p = n by omega, show ((p + n : Nat) : Int) = (p : Int) + (n : Int) by omega] at hcut
  have hback : (p : Int) + (n : Int) - (n : Int) = (p : Int) := by omega
  have H := Lib.hid h
  have HA := Lib.hid ha'
  have HC := Lib.hid h.cm
  clear h ha'
  go_enter Tryd.func82, Tryd.ntmps82
  go_wp2_with fail
  with_reducible refine L.out.mono ?_
  rintro x w1 ⟨rfl, h1, g1⟩
  obtain ⟨c0, c1, c2⟩ := cells3 h1.row
  have fr : w1.frozen? ⟨b, 1, none⟩ = false := frozen_of_row _ _ _ _ _ h1.row
  have s1 := h1.setP (p + n) (by omega)
  rw [show ((p + n : Nat) : Int) = (p : Int) + (n : Int) by omega] at s1
  have S1 := Lib.hid s1
  have G1 := Lib.hid g1
  clear s1 g1 h1
  go_upto_region 6 with (fail)
  generalize World.setCell _ _ _ = w2 at *
  obtain ⟨h2, g2⟩ := S1.out
  obtain ⟨c0, c1, c2⟩ := cells3 h2.row
  have d0 : w2.drew.cell? ⟨b, 0, none⟩ = some (.slice a len cap) := c0
  have d1 : w2.drew.cell? ⟨b, 1, none⟩ = some (.int .i64 ((p + n : Nat) : Int)) := c1
  rw [show ((p + n : Nat) : Int) = (p : Int) + (n : Int) by omega] at c1 d1
  clear h2 g2
  go_region
  go_wp2_with fail
  go_ret
  exact ⟨a', cap - p, rfl, bytesIn_cut S1.out.1.inB (by omega) hcap HA.out, by omega, by have := HC.out; omega, S1.out.1.drew, (G1.out.trans S1.out.2).drew⟩
theorem take_any {w : World} {b : Nat} {a : Option Addr} {len cap : Nat} {f : Nat → BitVec 8} {p : Nat} {e : Int} (h : Rd w b a len cap f p e) (n : Nat) :
    Calls Tryd.prog 82 #[.pointer (some ⟨b, 0, none⟩), .int .i64 (n : Int)] w (TkPost b a len cap f w p (tkN len p e n) (p + tkN len p e n) (tkE len p e n)) := by
  have none_ : ∀ (w' : World) (e' : Int), RdPost b a len cap f w (.slice none 0 0) p e' = fun x w' => x = .returned (.slice none 0 0) ∧ Rd w' b a len cap f p e' ∧ Chg b w w' := fun _ _ => rfl
  by_cases he : e = 0
  · subst he
    by_cases hn : n ≤ len - p
    · rw [show tkN len p 0 n = n from by unfold tkN; rw [if_pos ⟨rfl, hn⟩], show tkE len p 0 n = 0 from by unfold tkE; rw [if_neg (by omega)]]
      exact take_ok h n hn
    · rw [show tkN len p 0 n = 0 from by unfold tkN; rw [if_neg (by omega)], show tkE len p 0 n = 3 from by unfold tkE; rw [if_pos (by omega)]]
      refine (take_tail h n (by omega)).mono ?_
      rintro x w' ⟨rfl, h1, h2⟩
      exact ⟨none, 0, rfl, ⟨Nat.zero_le _, .inl rfl⟩, Nat.le_refl _, Nat.zero_le _, h1, h2⟩
  · rw [show tkN len p e n = 0 from by unfold tkN; rw [if_neg (by omega)], show tkE len p e n = e from by unfold tkE; rw [if_neg (by omega)]]
    refine (take_err h he n).mono ?_
    rintro x w' ⟨rfl, h1, h2⟩
    exact ⟨none, 0, rfl, ⟨Nat.zero_le _, .inl rfl⟩, Nat.le_refl _, Nat.zero_le _, h1, h2⟩
/-- atMost. -/
def amV (n most : Int) (e : Int) : Int := if e = 0 ∧ n ≤ most then n else 0
def amE (n most : Int) (e : Int) : Int := if e = 0 ∧ most < n then 2 else e
set_option maxHeartbeats 4000000 in
theorem atMost_any {w : World} {b : Nat} {a : Option Addr} {len cap : Nat} {f : Nat → BitVec 8} {p : Nat} {e : Int} (h : Rd w b a len cap f p e) (n most : Int) :
    Calls Tryd.prog 83 #[.pointer (some ⟨b, 0, none⟩), .int .i64 n, .int .i64 most] w (RdPost b a len cap f w (.int .i64 (amV n most e)) p (amE n most e)) := by
  obtain ⟨c0, c1, c2⟩ := cells3 h.row
  have fr : w.frozen? ⟨b, 2, none⟩ = false := frozen_of_row _ _ _ _ _ h.row
  have s1 := h.setE 2
  have S1 := Lib.hid s1
  have H := Lib.hid h
  clear h s1
  by_cases he : e = 0
  · subst he
    by_cases hn : n ≤ most
    · rw [show amV n most 0 = n from by unfold amV; rw [if_pos ⟨rfl, hn⟩], show amE n most 0 = 0 from by unfold amE; rw [if_neg (by omega)]]
      go_enter Tryd.func83, Tryd.ntmps83
      go_wp2_with fail
      go_ret
      exact ⟨rfl, H.out, Chg.refl b w⟩
    · rw [show amV n most 0 = 0 from by unfold amV; rw [if_neg (by omega)], show amE n most 0 = 2 from by unfold amE; rw [if_pos (by omega)]]
      go_enter Tryd.func83, Tryd.ntmps83
      go_wp2_with fail
      go_ret
      exact ⟨rfl, S1.out.1, S1.out.2⟩
  · rw [show amV n most e = 0 from by unfold amV; rw [if_neg (by omega)], show amE n most e = e from by unfold amE; rw [if_neg (by omega)]]
    go_enter Tryd.func83, Tryd.ntmps83
    go_wp2_with fail
    go_ret
    exact ⟨rfl, H.out, Chg.refl b w⟩
theorem conv_in (f : Nat → BitVec 8) (a : Option Addr) (m c : Nat) (w : World) (h : BytesIn w a m f) :
    (convert 26 9 (.slice a m c)).run Tryd.prog w = .ok (.string (strOf f m)) w := by
  rcases h.2 with rfl | ⟨b, o, rfl, _, hc⟩
  · have h1 : Tryd.prog.underlying 26 = some (.slice 5) := by kernel_rfl
    have h2 : Tryd.prog.underlying 9 = some .string := by kernel_rfl
    have h3 : Tryd.prog.underlying 5 = some (.int .u8) := by kernel_rfl
    cases a with
    | none =>
      simp [convert, run_underlying h1, run_underlying h2, run_underlying h3, Sem.run_bind]
      rfl
    | some x =>
      have h := run_convert_bytes_back (P := Tryd.prog) w 26 9 5 x c [] (by kernel_rfl) (by kernel_rfl) (by kernel_rfl) (fun j hj => by simp at hj)
      exact h
  · exact conv_str f b o m c w hc
theorem run_from (a : Option Addr) (k m c : Nat) (hk : k ≤ m) : ∃ a', (∀ w : World, (Instr.sliceAt 26 (.slice a m c) (some (.int .i64 (k : Int))) none none).run Tryd.prog w = .ok (.slice a' (m - k) (c - k)) w) ∧ (c ≠ k → a' = a.map (·.add k)) ∧ (c = k → a' = a) := by
  refine ⟨if c = k then a else a.map (·.add k), fun w => ?_, fun h => by rw [if_neg h], fun h => by rw [if_pos h]⟩
  have hu : Tryd.prog.underlying 26 = some (.slice (Tryd.prog.elem 26)) := by kernel_rfl
  rw [run_sliceAt_slice (t := 26) (h := hu), run_slice_any (t := 26) (ht := hu)]
  have h0 : (0 : Int) ≤ (k : Int) := by omega
  have h1 : (k : Int) ≤ (m : Int) := by omega
  simp [Instr.sliceBounds, go_sem, h0, h1]
end Go.Proofs.YtcgbhcmgddgheaaDoor
