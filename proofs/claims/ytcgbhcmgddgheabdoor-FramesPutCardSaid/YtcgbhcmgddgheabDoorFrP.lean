/-
  FRAMES' READER: noughts; a part.
-/
import Derived.Test.YtcgbhcmgddgheabDoorFrO
namespace Go.Proofs.YtcgbhcmgddgheabDoor
open Go Go.RowKit Go.BigFrame
set_option linter.unusedSimpArgs false
set_option linter.unusedVariables false
set_option maxRecDepth 100000
def rNought (F : Nat → BitVec 8) (len : Nat) : Nat → Nat → Nat
  | 0, p => p
  | n + 1, p => if p < len ∧ F p = 0#8 then rNought F len n (p + 1) else p
def rPart (F : Nat → BitVec 8) (len : Nat) (f : Fr) (s : At) (pt : Nat) : Fr × At :=
  match pt with
  | 0 => ({ f with S := ((rNum F len s).1 : Int) }, (rNum F len s).2)
  | 1 => ({ f with O := ((rNum F len s).1 : Int) }, (rNum F len s).2)
  | 2 => ({ f with N := ((rNum F len s).1 : Int) }, (rNum F len s).2)
  | 3 => ({ f with C := ((rNum F len s).1 : Int) }, (rNum F len s).2)
  | 4 => ({ f with D := (rText F len (rMost F len 65535 s).1 (rMost F len 65535 s).2).1 }, (rText F len (rMost F len 65535 s).1 (rMost F len 65535 s).2).2)
  | 5 => ({ f with D := (rText F len (len - s.p) s).1 }, (rText F len (len - s.p) s).2)
  | 6 => ({ f with D := (rId F len s).1 }, (rId F len s).2)
  | 7 => ({ f with D := (rText F len 8 s).1 }, (rText F len 8 s).2)
  | 8 => ({ f with X := (rText F len 16 s).1 }, (rText F len 16 s).2)
  | 9 => ({ f with N := (rAckF F len s).1, A := (rAckF F len s).2.1 }, (rAckF F len s).2.2)
  | 10 => ({ f with N := (rNought F len (65535 - s.p) s.p : Int) }, ⟨rNought F len (65535 - s.p) s.p, s.e⟩)
  | _ => (f, s)
/-- What a part leaves: the reader, the frame. -/
def PartPost (b fb : Nat) (a : Option Addr) (len cap : Nat) (F : Nat → BitVec 8) (R : Fr × At) (nil_ : Prop) (w : World) (x : Ending) (w' : World) : Prop :=
  x = .returned (.tuple #[]) ∧ ∃ v', Rd w' b a len cap F R.2.p R.2.e ∧ w'.heap[fb]? = some (.cells (R.1.cells v') 33 (0, 0)) ∧ SpansIn w' v' R.1.A ∧ Chg2 b fb w w' ∧ (nil_ → v' = .slice none 0 0) ∧ ∀ g, v'.ownBlock = some g → w.heap.size ≤ g
set_option maxHeartbeats 8000000 in
theorem part_0 {w : World} {b fb : Nat} {a : Option Addr} {len cap : Nat} {F : Nat → BitVec 8} {p : Nat} {e : Int} (h : Rd w b a len cap F p e) (f : Fr) (hA : f.A = []) (hf : w.heap[fb]? = some (.cells (f.cells (.slice none 0 0)) 33 (0, 0))) (hne : b ≠ fb) (hoff : ∀ x, a = some x → x.block ≠ fb) :
    Calls Tryd.prog 24 #[.pointer (some ⟨b, 0, none⟩), .pointer (some ⟨fb, 0, none⟩), .int .i64 0] w (PartPost b fb a len cap F (rPart F len f ⟨p, e⟩ 0) (0 ≠ 9) w) := by
  have HNE := Lib.hid hne
  have HOFF := Lib.hid hoff
  have HF := Lib.hid hf
  have H0 := Lib.hid h
  unfold rPart
  dsimp only
  have nu := number_any h
  obtain ⟨R, hR⟩ : ∃ R, rNum F len ⟨p, e⟩ = R := ⟨_, rfl⟩
  rw [hR] at nu ⊢
  obtain ⟨V, p1, e1⟩ := R
  dsimp only at nu ⊢
  have NU := Lib.hid nu
  clear nu hR
  obtain ⟨K, S, O, N, C, Fi, D, X, A⟩ := f
  dsimp only [Fr.cells] at *
  unfold frC at *
  subst hA
  clear h hf hne hoff
  go_enter Tryd.func24, Tryd.ntmps24
  go_wp2_with fail
  with_reducible refine NU.out.mono ?_
  rintro x w1 ⟨rfl, h1, g1⟩
  have f1 := g1.row HNE.out.symm HF.out
  have fz : w1.frozen? ⟨fb, 1, none⟩ = false := frozen_of_row _ _ _ _ _ f1
  have cx := cells9 f1
  obtain ⟨c0, c1, c2, c3, c4, c5, c6, c7, c8⟩ := cx
  have rs := rowSet_cell w1 fb 1 _ _ (.int .i64 (V : Int)) f1
  have RS := Lib.hid rs
  have H1 := Lib.hid (h1.other rs.chg HNE.out HOFF.out)
  have G1 := Lib.hid ((g1.left : Chg2 b fb w w1).trans rs.chg.right)
  clear h1 g1 NU rs f1
  go_wp2_with fail
  go_end0
  exact ⟨rfl, _, H1.out, RS.out.row, SpansIn.none _, G1.out, fun _ => rfl, fun g hg => by cases hg⟩
set_option maxHeartbeats 8000000 in
theorem part_1 {w : World} {b fb : Nat} {a : Option Addr} {len cap : Nat} {F : Nat → BitVec 8} {p : Nat} {e : Int} (h : Rd w b a len cap F p e) (f : Fr) (hA : f.A = []) (hf : w.heap[fb]? = some (.cells (f.cells (.slice none 0 0)) 33 (0, 0))) (hne : b ≠ fb) (hoff : ∀ x, a = some x → x.block ≠ fb) :
    Calls Tryd.prog 24 #[.pointer (some ⟨b, 0, none⟩), .pointer (some ⟨fb, 0, none⟩), .int .i64 1] w (PartPost b fb a len cap F (rPart F len f ⟨p, e⟩ 1) (1 ≠ 9) w) := by
  have HNE := Lib.hid hne
  have HOFF := Lib.hid hoff
  have HF := Lib.hid hf
  have H0 := Lib.hid h
  unfold rPart
  dsimp only
  have nu := number_any h
  obtain ⟨R, hR⟩ : ∃ R, rNum F len ⟨p, e⟩ = R := ⟨_, rfl⟩
  rw [hR] at nu ⊢
  obtain ⟨V, p1, e1⟩ := R
  dsimp only at nu ⊢
  have NU := Lib.hid nu
  clear nu hR
  obtain ⟨K, S, O, N, C, Fi, D, X, A⟩ := f
  dsimp only [Fr.cells] at *
  unfold frC at *
  subst hA
  clear h hf hne hoff
  go_enter Tryd.func24, Tryd.ntmps24
  go_wp2_with fail
  with_reducible refine NU.out.mono ?_
  rintro x w1 ⟨rfl, h1, g1⟩
  have f1 := g1.row HNE.out.symm HF.out
  have fz : w1.frozen? ⟨fb, 2, none⟩ = false := frozen_of_row _ _ _ _ _ f1
  have cx := cells9 f1
  obtain ⟨c0, c1, c2, c3, c4, c5, c6, c7, c8⟩ := cx
  have rs := rowSet_cell w1 fb 2 _ _ (.int .i64 (V : Int)) f1
  have RS := Lib.hid rs
  have H1 := Lib.hid (h1.other rs.chg HNE.out HOFF.out)
  have G1 := Lib.hid ((g1.left : Chg2 b fb w w1).trans rs.chg.right)
  clear h1 g1 NU rs f1
  go_wp2_with fail
  go_end0
  exact ⟨rfl, _, H1.out, RS.out.row, SpansIn.none _, G1.out, fun _ => rfl, fun g hg => by cases hg⟩
set_option maxHeartbeats 8000000 in
theorem part_2 {w : World} {b fb : Nat} {a : Option Addr} {len cap : Nat} {F : Nat → BitVec 8} {p : Nat} {e : Int} (h : Rd w b a len cap F p e) (f : Fr) (hA : f.A = []) (hf : w.heap[fb]? = some (.cells (f.cells (.slice none 0 0)) 33 (0, 0))) (hne : b ≠ fb) (hoff : ∀ x, a = some x → x.block ≠ fb) :
    Calls Tryd.prog 24 #[.pointer (some ⟨b, 0, none⟩), .pointer (some ⟨fb, 0, none⟩), .int .i64 2] w (PartPost b fb a len cap F (rPart F len f ⟨p, e⟩ 2) (2 ≠ 9) w) := by
  have HNE := Lib.hid hne
  have HOFF := Lib.hid hoff
  have HF := Lib.hid hf
  have H0 := Lib.hid h
  unfold rPart
  dsimp only
  have nu := number_any h
  obtain ⟨R, hR⟩ : ∃ R, rNum F len ⟨p, e⟩ = R := ⟨_, rfl⟩
  rw [hR] at nu ⊢
  obtain ⟨V, p1, e1⟩ := R
  dsimp only at nu ⊢
  have NU := Lib.hid nu
  clear nu hR
  obtain ⟨K, S, O, N, C, Fi, D, X, A⟩ := f
  dsimp only [Fr.cells] at *
  unfold frC at *
  subst hA
  clear h hf hne hoff
  go_enter Tryd.func24, Tryd.ntmps24
  go_wp2_with fail
  with_reducible refine NU.out.mono ?_
  rintro x w1 ⟨rfl, h1, g1⟩
  have f1 := g1.row HNE.out.symm HF.out
  have fz : w1.frozen? ⟨fb, 3, none⟩ = false := frozen_of_row _ _ _ _ _ f1
  have cx := cells9 f1
  obtain ⟨c0, c1, c2, c3, c4, c5, c6, c7, c8⟩ := cx
  have rs := rowSet_cell w1 fb 3 _ _ (.int .i64 (V : Int)) f1
  have RS := Lib.hid rs
  have H1 := Lib.hid (h1.other rs.chg HNE.out HOFF.out)
  have G1 := Lib.hid ((g1.left : Chg2 b fb w w1).trans rs.chg.right)
  clear h1 g1 NU rs f1
  go_wp2_with fail
  go_end0
  exact ⟨rfl, _, H1.out, RS.out.row, SpansIn.none _, G1.out, fun _ => rfl, fun g hg => by cases hg⟩
set_option maxHeartbeats 8000000 in
theorem part_3 {w : World} {b fb : Nat} {a : Option Addr} {len cap : Nat} {F : Nat → BitVec 8} {p : Nat} {e : Int} (h : Rd w b a len cap F p e) (f : Fr) (hA : f.A = []) (hf : w.heap[fb]? = some (.cells (f.cells (.slice none 0 0)) 33 (0, 0))) (hne : b ≠ fb) (hoff : ∀ x, a = some x → x.block ≠ fb) :
    Calls Tryd.prog 24 #[.pointer (some ⟨b, 0, none⟩), .pointer (some ⟨fb, 0, none⟩), .int .i64 3] w (PartPost b fb a len cap F (rPart F len f ⟨p, e⟩ 3) (3 ≠ 9) w) := by
  have HNE := Lib.hid hne
  have HOFF := Lib.hid hoff
  have HF := Lib.hid hf
  have H0 := Lib.hid h
  unfold rPart
  dsimp only
  have nu := number_any h
  obtain ⟨R, hR⟩ : ∃ R, rNum F len ⟨p, e⟩ = R := ⟨_, rfl⟩
  rw [hR] at nu ⊢
  obtain ⟨V, p1, e1⟩ := R
  dsimp only at nu ⊢
  have NU := Lib.hid nu
  clear nu hR
  obtain ⟨K, S, O, N, C, Fi, D, X, A⟩ := f
  dsimp only [Fr.cells] at *
  unfold frC at *
  subst hA
  clear h hf hne hoff
  go_enter Tryd.func24, Tryd.ntmps24
  go_wp2_with fail
  with_reducible refine NU.out.mono ?_
  rintro x w1 ⟨rfl, h1, g1⟩
  have f1 := g1.row HNE.out.symm HF.out
  have fz : w1.frozen? ⟨fb, 4, none⟩ = false := frozen_of_row _ _ _ _ _ f1
  have cx := cells9 f1
  obtain ⟨c0, c1, c2, c3, c4, c5, c6, c7, c8⟩ := cx
  have rs := rowSet_cell w1 fb 4 _ _ (.int .i64 (V : Int)) f1
  have RS := Lib.hid rs
  have H1 := Lib.hid (h1.other rs.chg HNE.out HOFF.out)
  have G1 := Lib.hid ((g1.left : Chg2 b fb w w1).trans rs.chg.right)
  clear h1 g1 NU rs f1
  go_wp2_with fail
  go_end0
  exact ⟨rfl, _, H1.out, RS.out.row, SpansIn.none _, G1.out, fun _ => rfl, fun g hg => by cases hg⟩
set_option maxHeartbeats 8000000 in
theorem part_6 {w : World} {b fb : Nat} {a : Option Addr} {len cap : Nat} {F : Nat → BitVec 8} {p : Nat} {e : Int} (h : Rd w b a len cap F p e) (f : Fr) (hA : f.A = []) (hf : w.heap[fb]? = some (.cells (f.cells (.slice none 0 0)) 33 (0, 0))) (hne : b ≠ fb) (hoff : ∀ x, a = some x → x.block ≠ fb) :
    Calls Tryd.prog 24 #[.pointer (some ⟨b, 0, none⟩), .pointer (some ⟨fb, 0, none⟩), .int .i64 6] w (PartPost b fb a len cap F (rPart F len f ⟨p, e⟩ 6) (6 ≠ 9) w) := by
  have HNE := Lib.hid hne
  have HOFF := Lib.hid hoff
  have HF := Lib.hid hf
  have H0 := Lib.hid h
  unfold rPart
  dsimp only
  have nu := id_any h
  obtain ⟨R, hR⟩ : ∃ R, rId F len ⟨p, e⟩ = R := ⟨_, rfl⟩
  rw [hR] at nu ⊢
  obtain ⟨V, p1, e1⟩ := R
  dsimp only at nu ⊢
  have NU := Lib.hid nu
  clear nu hR
  obtain ⟨K, S, O, N, C, Fi, D, X, A⟩ := f
  dsimp only [Fr.cells] at *
  unfold frC at *
  subst hA
  clear h hf hne hoff
  go_enter Tryd.func24, Tryd.ntmps24
  go_wp2_with fail
  with_reducible refine NU.out.mono ?_
  rintro x w1 ⟨rfl, h1, g1⟩
  have f1 := g1.row HNE.out.symm HF.out
  have fz : w1.frozen? ⟨fb, 6, none⟩ = false := frozen_of_row _ _ _ _ _ f1
  have cx := cells9 f1
  obtain ⟨c0, c1, c2, c3, c4, c5, c6, c7, c8⟩ := cx
  have rs := rowSet_cell w1 fb 6 _ _ (.string V) f1
  have RS := Lib.hid rs
  have H1 := Lib.hid (h1.other rs.chg HNE.out HOFF.out)
  have G1 := Lib.hid ((g1.left : Chg2 b fb w w1).trans rs.chg.right)
  clear h1 g1 NU rs f1
  go_wp2_with fail
  go_end0
  exact ⟨rfl, _, H1.out, RS.out.row, SpansIn.none _, G1.out, fun _ => rfl, fun g hg => by cases hg⟩
set_option maxHeartbeats 8000000 in
theorem part_7 {w : World} {b fb : Nat} {a : Option Addr} {len cap : Nat} {F : Nat → BitVec 8} {p : Nat} {e : Int} (h : Rd w b a len cap F p e) (f : Fr) (hA : f.A = []) (hf : w.heap[fb]? = some (.cells (f.cells (.slice none 0 0)) 33 (0, 0))) (hne : b ≠ fb) (hoff : ∀ x, a = some x → x.block ≠ fb) :
    Calls Tryd.prog 24 #[.pointer (some ⟨b, 0, none⟩), .pointer (some ⟨fb, 0, none⟩), .int .i64 7] w (PartPost b fb a len cap F (rPart F len f ⟨p, e⟩ 7) (7 ≠ 9) w) := by
  have HNE := Lib.hid hne
  have HOFF := Lib.hid hoff
  have HF := Lib.hid hf
  have H0 := Lib.hid h
  unfold rPart
  dsimp only
  have nu := (show Calls Tryd.prog 36 #[.pointer (some ⟨b, 0, none⟩), .int .i64 8] w _ from text_any h 8 (by decide))
  obtain ⟨R, hR⟩ : ∃ R, rText F len 8 ⟨p, e⟩ = R := ⟨_, rfl⟩
  rw [hR] at nu ⊢
  obtain ⟨V, p1, e1⟩ := R
  dsimp only at nu ⊢
  have NU := Lib.hid nu
  clear nu hR
  obtain ⟨K, S, O, N, C, Fi, D, X, A⟩ := f
  dsimp only [Fr.cells] at *
  unfold frC at *
  subst hA
  clear h hf hne hoff
  go_enter Tryd.func24, Tryd.ntmps24
  go_wp2_with fail
  with_reducible refine NU.out.mono ?_
  rintro x w1 ⟨rfl, h1, g1⟩
  have f1 := g1.row HNE.out.symm HF.out
  have fz : w1.frozen? ⟨fb, 6, none⟩ = false := frozen_of_row _ _ _ _ _ f1
  have cx := cells9 f1
  obtain ⟨c0, c1, c2, c3, c4, c5, c6, c7, c8⟩ := cx
  have rs := rowSet_cell w1 fb 6 _ _ (.string V) f1
  have RS := Lib.hid rs
  have H1 := Lib.hid (h1.other rs.chg HNE.out HOFF.out)
  have G1 := Lib.hid ((g1.left : Chg2 b fb w w1).trans rs.chg.right)
  clear h1 g1 NU rs f1
  go_wp2_with fail
  go_end0
  exact ⟨rfl, _, H1.out, RS.out.row, SpansIn.none _, G1.out, fun _ => rfl, fun g hg => by cases hg⟩
set_option maxHeartbeats 8000000 in
theorem part_8 {w : World} {b fb : Nat} {a : Option Addr} {len cap : Nat} {F : Nat → BitVec 8} {p : Nat} {e : Int} (h : Rd w b a len cap F p e) (f : Fr) (hA : f.A = []) (hf : w.heap[fb]? = some (.cells (f.cells (.slice none 0 0)) 33 (0, 0))) (hne : b ≠ fb) (hoff : ∀ x, a = some x → x.block ≠ fb) :
    Calls Tryd.prog 24 #[.pointer (some ⟨b, 0, none⟩), .pointer (some ⟨fb, 0, none⟩), .int .i64 8] w (PartPost b fb a len cap F (rPart F len f ⟨p, e⟩ 8) (8 ≠ 9) w) := by
  have HNE := Lib.hid hne
  have HOFF := Lib.hid hoff
  have HF := Lib.hid hf
  have H0 := Lib.hid h
  unfold rPart
  dsimp only
  have nu := (show Calls Tryd.prog 36 #[.pointer (some ⟨b, 0, none⟩), .int .i64 16] w _ from text_any h 16 (by decide))
  obtain ⟨R, hR⟩ : ∃ R, rText F len 16 ⟨p, e⟩ = R := ⟨_, rfl⟩
  rw [hR] at nu ⊢
  obtain ⟨V, p1, e1⟩ := R
  dsimp only at nu ⊢
  have NU := Lib.hid nu
  clear nu hR
  obtain ⟨K, S, O, N, C, Fi, D, X, A⟩ := f
  dsimp only [Fr.cells] at *
  unfold frC at *
  subst hA
  clear h hf hne hoff
  go_enter Tryd.func24, Tryd.ntmps24
  go_wp2_with fail
  with_reducible refine NU.out.mono ?_
  rintro x w1 ⟨rfl, h1, g1⟩
  have f1 := g1.row HNE.out.symm HF.out
  have fz : w1.frozen? ⟨fb, 7, none⟩ = false := frozen_of_row _ _ _ _ _ f1
  have cx := cells9 f1
  obtain ⟨c0, c1, c2, c3, c4, c5, c6, c7, c8⟩ := cx
  have rs := rowSet_cell w1 fb 7 _ _ (.string V) f1
  have RS := Lib.hid rs
  have H1 := Lib.hid (h1.other rs.chg HNE.out HOFF.out)
  have G1 := Lib.hid ((g1.left : Chg2 b fb w w1).trans rs.chg.right)
  clear h1 g1 NU rs f1
  go_wp2_with fail
  go_end0
  exact ⟨rfl, _, H1.out, RS.out.row, SpansIn.none _, G1.out, fun _ => rfl, fun g hg => by cases hg⟩
set_option maxHeartbeats 8000000 in
theorem part_4 {w : World} {b fb : Nat} {a : Option Addr} {len cap : Nat} {F : Nat → BitVec 8} {p : Nat} {e : Int} (h : Rd w b a len cap F p e) (f : Fr) (hA : f.A = []) (hf : w.heap[fb]? = some (.cells (f.cells (.slice none 0 0)) 33 (0, 0))) (hne : b ≠ fb) (hoff : ∀ x, a = some x → x.block ≠ fb) :
    Calls Tryd.prog 24 #[.pointer (some ⟨b, 0, none⟩), .pointer (some ⟨fb, 0, none⟩), .int .i64 4] w (PartPost b fb a len cap F (rPart F len f ⟨p, e⟩ 4) (4 ≠ 9) w) := by
  have HNE := Lib.hid hne
  have HOFF := Lib.hid hoff
  have HF := Lib.hid hf
  have H0 := Lib.hid h
  unfold rPart
  dsimp only
  have am := atMost_any h 65535
  have lt := rMost_lt F len 65535 ⟨p, e⟩
  obtain ⟨R, hR⟩ : ∃ R, rMost F len 65535 ⟨p, e⟩ = R := ⟨_, rfl⟩
  rw [hR] at am lt ⊢
  obtain ⟨V, p1, e1⟩ := R
  dsimp only at am lt ⊢
  obtain ⟨R2, hR2⟩ : ∃ R, rText F len V ⟨p1, e1⟩ = R := ⟨_, rfl⟩
  rw [hR2]
  obtain ⟨T, p2, e2⟩ := R2
  dsimp only
  have AM := Lib.hid am
  have E2 := Lib.hid hR2
  clear am hR hR2
  obtain ⟨K, S, O, N, C, Fi, D, X, A⟩ := f
  dsimp only [Fr.cells] at *
  unfold frC at *
  subst hA
  clear h hf hne hoff
  go_enter Tryd.func24, Tryd.ntmps24
  go_wp2_with fail
  with_reducible refine AM.out.mono ?_
  rintro x w0 ⟨rfl, h0, g0⟩
  have tx := text_any h0 V (by omega)
  rw [E2.out] at tx
  dsimp only at tx
  have TX := Lib.hid tx
  have G0 := Lib.hid g0
  clear tx h0 g0 AM
  go_wp2_with fail
  with_reducible refine TX.out.mono ?_
  rintro x w1 ⟨rfl, h1, g1'⟩
  have g1 := G0.out.trans g1'
  have f1 := g1.row HNE.out.symm HF.out
  have fz : w1.frozen? ⟨fb, 6, none⟩ = false := frozen_of_row _ _ _ _ _ f1
  have cx := cells9 f1
  obtain ⟨c0, c1, c2, c3, c4, c5, c6, c7, c8⟩ := cx
  have rs := rowSet_cell w1 fb 6 _ _ (.string T) f1
  have RS := Lib.hid rs
  have H1 := Lib.hid (h1.other rs.chg HNE.out HOFF.out)
  have G1 := Lib.hid ((g1.left : Chg2 b fb w w1).trans rs.chg.right)
  clear h1 g1 g1' TX rs f1
  go_wp2_with fail
  go_end0
  exact ⟨rfl, _, H1.out, RS.out.row, SpansIn.none _, G1.out, fun _ => rfl, fun g hg => by cases hg⟩
set_option maxHeartbeats 8000000 in
theorem part_9 {w : World} {b fb : Nat} {a : Option Addr} {len cap : Nat} {F : Nat → BitVec 8} {p : Nat} {e : Int} (h : Rd w b a len cap F p e) (f : Fr) (hA : f.A = []) (hf : w.heap[fb]? = some (.cells (f.cells (.slice none 0 0)) 33 (0, 0))) (hne : b ≠ fb) (hoff : ∀ x, a = some x → x.block ≠ fb) :
    Calls Tryd.prog 24 #[.pointer (some ⟨b, 0, none⟩), .pointer (some ⟨fb, 0, none⟩), .int .i64 9] w (PartPost b fb a len cap F (rPart F len f ⟨p, e⟩ 9) (9 ≠ 9) w) := by
  have HNE := Lib.hid hne
  have HOFF := Lib.hid hoff
  have HF := Lib.hid hf
  have H0 := Lib.hid h
  unfold rPart
  dsimp only
  have ak := acks_any h f _ hf hne hoff
  obtain ⟨R, hR⟩ : ∃ R, rAckF F len ⟨p, e⟩ = R := ⟨_, rfl⟩
  rw [hR] at ak ⊢
  have AK := Lib.hid ak
  clear ak hR
  obtain ⟨K, S, O, N, C, Fi, D, X, A⟩ := f
  dsimp only [Fr.cells] at *
  unfold frC at *
  subst hA
  clear h hf hne hoff
  go_enter Tryd.func24, Tryd.ntmps24
  go_wp2_with fail
  with_reducible refine AK.out.mono ?_
  rintro x w1 ⟨rfl, v', h1, f1, s1, g1, o1⟩
  have FIN := Lib.hid (show ∃ v', Rd w1 b a len cap F R.2.2.p R.2.2.e ∧ w1.heap[fb]? = some (.cells ((⟨K, S, O, R.1, C, Fi, D, X, R.2.1⟩ : Fr).cells v') 33 (0, 0)) ∧ SpansIn w1 v' R.2.1 ∧ Chg2 b fb w w1 ∧ (9 ≠ 9 → v' = .slice none 0 0) ∧ (∀ g, v'.ownBlock = some g → w.heap.size ≤ g) from ⟨v', h1, f1, s1, g1, fun h => absurd rfl h, o1⟩)
  clear h1 f1 s1 g1 o1 AK
  go_wp2_with fail
  go_end0
  exact ⟨rfl, FIN.out⟩
def placeOf (w : World) (b : Nat) : Nat := match w.cell? ⟨b, 1, none⟩ with | some (.int .i64 z) => z.toNat | _ => 0
theorem placeOf_eq {w : World} {b q : Nat} (h : w.cell? ⟨b, 1, none⟩ = some (.int .i64 (q : Int))) : placeOf w b = q := by unfold placeOf; rw [h]; simp
theorem rNought_stop (F : Nat → BitVec 8) (len n p : Nat) (h : ¬ (p < len ∧ F p = 0#8)) : rNought F len n p = p := by
  cases n with
  | zero => rfl
  | succ n => unfold rNought; rw [if_neg h]
set_option maxHeartbeats 8000000 in
theorem noughts_any {w : World} {b : Nat} {a : Option Addr} {len cap : Nat} {F : Nat → BitVec 8} {p : Nat} {e : Int} (h : Rd w b a len cap F p e) :
    Calls Tryd.prog 40 #[.pointer (some ⟨b, 0, none⟩)] w (RdPost b a len cap F w (.int .i64 (rNought F len (65535 - p) p : Nat)) (rNought F len (65535 - p) p) e) := by
  obtain ⟨R, hR⟩ : ∃ R, rNought F len (65535 - p) p = R := ⟨_, rfl⟩
  rw [hR]
  have HR := Lib.hid hR
  have H := Lib.hid h
  have hm : len ≤ 9223372036854775807 := by have := h.lc; have := h.cm; unfold maxLen at *; omega
  clear h hR
  go_enter Tryd.func40, Tryd.ntmps40
  go_upto_region 1 with (fail)
  go_loopw [] (fun wr => ∃ q : Nat, rNought F len (65535 - q) q = R ∧ Rd wr b a len cap F q e ∧ Chg b w wr) (fun wr => len - placeOf wr b)
  case atStart => exact ⟨p, HR.out, H.out, Chg.refl b w⟩
  case round =>
    obtain ⟨q, hq, hrd, hch⟩ := hrel
    have HQ := Lib.hid hq
    have HRD := Lib.hid hrd
    have HC := Lib.hid hch
    obtain ⟨c0, c1, c2⟩ := cells3 hrd.row
    have d0 : wr.drew.cell? ⟨b, 0, none⟩ = some (.slice a len cap) := c0
    have d1 : wr.drew.cell? ⟨b, 1, none⟩ = some (.int .i64 (q : Int)) := c1
    have stop := fun (hs : ¬ (q < len ∧ F q = 0#8)) => (HQ.out.symm.trans (rNought_stop F len _ q hs) : R = q)
    have STOP := Lib.hid stop
    clear hq hrd hch stop
    by_cases h1 : q < len
    rotate_left
    · have r := STOP.out (fun x => h1 x.1)
      subst r
      have h1' : ¬ (R : Int) < (len : Int) := by omega
      go_upto_region 1 with (fail)
      go_region
      go_wp2_with fail
      go_ret
      exact ⟨rfl, HRD.out.drew, HC.out.drew⟩
    have h1' : (q : Int) < (len : Int) := by omega
    obtain ⟨bb, oo, rfl, hbb, hcell⟩ : ∃ bb oo, a = some ⟨bb, oo, none⟩ ∧ bb < wr.heap.size ∧ ∀ i, i < len → wr.cell? ⟨bb, oo + i, none⟩ = some (.int .u8 (n8 (F i))) := by
      rcases HRD.out.inB.2 with h0 | h0
      · omega
      · exact h0
    have dq : wr.drew.cell? ⟨bb, oo + q, none⟩ = some (.int .u8 (n8 (F q))) := hcell q h1
    by_cases h2 : q < 65535
    rotate_left
    · have r : R = q := by rw [← HQ.out, show 65535 - q = 0 by omega]; rfl
      subst r
      have h2' : ¬ (R : Int) < 65535 := by omega
      clear hcell
      go_upto_region 1 with (fail)
      go_region
      go_wp2_with fail
      go_ret
      exact ⟨rfl, HRD.out.drew, HC.out.drew⟩
    have h2' : (q : Int) < 65535 := by omega
    by_cases h3 : F q = 0#8
    rotate_left
    · have r := STOP.out (fun x => h3 x.2)
      have e3 : (n8 (F q) == 0) = false := by
        rw [beq_eq_false_iff_ne, n8_nat]
        intro h
        exact h3 (BitVec.eq_of_toNat_eq (by rw [show (F q).toNat = 0 by omega]; rfl))
      subst r
      clear hcell h3
      go_upto_region 1 with (fail)
      go_region
      go_wp2_with fail
      go_ret
      exact ⟨rfl, HRD.out.drew, HC.out.drew⟩
    have e3 : (n8 (F q) == 0) = true := by rw [h3, n8_nat]; rfl
    have NX := Lib.hid (show rNought F len (65535 - (q + 1)) (q + 1) = R by
      rw [← HQ.out, show 65535 - q = 65535 - (q + 1) + 1 by omega]
      show _ = if q < len ∧ F q = 0#8 then _ else _
      rw [if_pos ⟨h1, h3⟩])
    have fz : wr.frozen? ⟨b, 1, none⟩ = false := frozen_of_row _ _ _ _ _ HRD.out.row
    have s1 := HRD.out.setP (q + 1) (by omega)
    rw [show ((q + 1 : Nat) : Int) = (q : Int) + 1 by omega] at s1
    have S1 := Lib.hid s1
    have hqm : (q : Int) + 1 ≤ 9223372036854775807 := by omega
    clear hcell h3 s1 STOP
    go_upto_region 1 with (fail)
    go_region
    go_upto_region 3 with (fail)
    case roundEnd =>
      have z1 := placeOf_eq (cells3 HRD.out.row).2.1
      have z2 := placeOf_eq (q := q + 1) (by rw [show ((q + 1 : Nat) : Int) = (q : Int) + 1 by omega]; exact (cells3 S1.out.1.drew.row).2.1)
      exact ⟨⟨q + 1, NX.out, S1.out.1.drew, (HC.out.trans S1.out.2).drew⟩, by rw [z1, z2]; omega⟩
set_option maxHeartbeats 8000000 in
theorem part_10 {w : World} {b fb : Nat} {a : Option Addr} {len cap : Nat} {F : Nat → BitVec 8} {p : Nat} {e : Int} (h : Rd w b a len cap F p e) (f : Fr) (hA : f.A = []) (hf : w.heap[fb]? = some (.cells (f.cells (.slice none 0 0)) 33 (0, 0))) (hne : b ≠ fb) (hoff : ∀ x, a = some x → x.block ≠ fb) :
    Calls Tryd.prog 24 #[.pointer (some ⟨b, 0, none⟩), .pointer (some ⟨fb, 0, none⟩), .int .i64 10] w (PartPost b fb a len cap F (rPart F len f ⟨p, e⟩ 10) (10 ≠ 9) w) := by
  have HNE := Lib.hid hne
  have HOFF := Lib.hid hoff
  have HF := Lib.hid hf
  have H0 := Lib.hid h
  unfold rPart
  dsimp only
  have nu := noughts_any h
  obtain ⟨R, hR⟩ : ∃ R, rNought F len (65535 - p) p = R := ⟨_, rfl⟩
  rw [hR] at nu ⊢
  have NU := Lib.hid nu
  clear nu hR
  obtain ⟨K, S, O, N, C, Fi, D, X, A⟩ := f
  dsimp only [Fr.cells] at *
  unfold frC at *
  subst hA
  clear h hf hne hoff
  go_enter Tryd.func24, Tryd.ntmps24
  go_wp2_with fail
  with_reducible refine NU.out.mono ?_
  rintro x w1 ⟨rfl, h1, g1⟩
  have f1 := g1.row HNE.out.symm HF.out
  have fz : w1.frozen? ⟨fb, 3, none⟩ = false := frozen_of_row _ _ _ _ _ f1
  have cx := cells9 f1
  obtain ⟨c0, c1, c2, c3, c4, c5, c6, c7, c8⟩ := cx
  have rs := rowSet_cell w1 fb 3 _ _ (.int .i64 (R : Int)) f1
  have RS := Lib.hid rs
  have H1 := Lib.hid (h1.other rs.chg HNE.out HOFF.out)
  have G1 := Lib.hid ((g1.left : Chg2 b fb w w1).trans rs.chg.right)
  clear h1 g1 NU rs f1
  go_wp2_with fail
  go_end0
  exact ⟨rfl, _, H1.out, RS.out.row, SpansIn.none _, G1.out, fun _ => rfl, fun g hg => by cases hg⟩
set_option maxHeartbeats 8000000 in
theorem part_5 {w : World} {b fb : Nat} {a : Option Addr} {len cap : Nat} {F : Nat → BitVec 8} {p : Nat} {e : Int} (h : Rd w b a len cap F p e) (f : Fr) (hA : f.A = []) (hf : w.heap[fb]? = some (.cells (f.cells (.slice none 0 0)) 33 (0, 0))) (hne : b ≠ fb) (hoff : ∀ x, a = some x → x.block ≠ fb) :
    Calls Tryd.prog 24 #[.pointer (some ⟨b, 0, none⟩), .pointer (some ⟨fb, 0, none⟩), .int .i64 5] w (PartPost b fb a len cap F (rPart F len f ⟨p, e⟩ 5) (5 ≠ 9) w) := by
  have HNE := Lib.hid hne
  have HOFF := Lib.hid hoff
  have HF := Lib.hid hf
  have H0 := Lib.hid h
  unfold rPart
  dsimp only
  have hm : len ≤ 9223372036854775807 := by have := h.lc; have := h.cm; unfold maxLen at *; omega
  have hp := h.pl
  have tx := text_any h.drew (len - p) (by omega)
  rw [show ((len - p : Nat) : Int) = (len : Int) - (p : Int) by omega] at tx
  obtain ⟨R, hR⟩ : ∃ R, rText F len (len - p) ⟨p, e⟩ = R := ⟨_, rfl⟩
  rw [hR] at tx ⊢
  obtain ⟨V, p1, e1⟩ := R
  dsimp only at tx ⊢
  have TX := Lib.hid tx
  have C3 := Lib.hid (cells3 h.row)
  clear tx hR
  obtain ⟨K, S, O, N, C, Fi, D, X, A⟩ := f
  dsimp only [Fr.cells] at *
  unfold frC at *
  subst hA
  clear h hf hne hoff
  go_enter Tryd.func24, Tryd.ntmps24
  go_upto_region 12 with (fail)
  have HS : Hid ((fun w' : World => w'.cell? ⟨b, 0, none⟩ = some (.slice a len cap)) w.drew) := Lib.hid C3.out.1
  refine wp_region_held_drew (S := fun w' : World => w'.cell? ⟨b, 0, none⟩ = some (.slice a len cap)) mixedOrders HS.out (fun hHeld => ?_)
  clear hHeld
  refine wpAnyH_take (i := 0) (oi := ⟨some 46, _, _, _, _, _⟩) (v := .pointer (some ⟨fb, 0, none⟩)) rfl (by kernel_rfl) (by kernel_rfl) (by kernel_rfl) (fun _ _ _ h => h) (Or.inl ⟨by rfl, fun w' hSw => ?_⟩) HS.out ?_
  · go_simp
  simp only [Act.put, List.setIfInBounds_toArray, List.set_cons_succ, List.set_cons_zero]
  refine wpAnyH_take (i := 1) (oi := ⟨some 47, _, _, _, _, _⟩) (v := .pointer (some ⟨b, 0, none⟩)) rfl (by kernel_rfl) (by kernel_rfl) (by kernel_rfl) (fun _ _ _ h => h) (Or.inl ⟨by rfl, fun w' hSw => ?_⟩) HS.out ?_
  · go_simp
  simp only [Act.put, List.setIfInBounds_toArray, List.set_cons_succ, List.set_cons_zero]
  refine wpAnyH_take (i := 2) (oi := ⟨some 48, _, _, _, _, _⟩) (v := .pointer (some ⟨b, 0, none⟩)) rfl (by kernel_rfl) (by kernel_rfl) (by kernel_rfl) (fun _ _ _ h => h) (Or.inl ⟨by rfl, fun w' hSw => ?_⟩) HS.out ?_
  · go_simp
  simp only [Act.put, List.setIfInBounds_toArray, List.set_cons_succ, List.set_cons_zero]
  refine wpAnyH_take (i := 3) (oi := ⟨some 49, _, _, _, _, _⟩) (v := .pointer (some ⟨b, 0, none⟩)) rfl (by kernel_rfl) (by kernel_rfl) (by kernel_rfl) (fun _ _ _ h => h) (Or.inl ⟨by rfl, fun w' hSw => ?_⟩) HS.out ?_
  · go_simp
  simp only [Act.put, List.setIfInBounds_toArray, List.set_cons_succ, List.set_cons_zero]
  refine wpAnyH_take (i := 4) (oi := ⟨some 50, _, _, _, _, _⟩) (v := .pointer (some ⟨b, 0, none⟩)) rfl (by kernel_rfl) (by kernel_rfl) (by kernel_rfl) (fun _ _ _ h => h) (Or.inl ⟨by rfl, fun w' hSw => ?_⟩) HS.out ?_
  · go_simp
  simp only [Act.put, List.setIfInBounds_toArray, List.set_cons_succ, List.set_cons_zero]
  refine wpAnyH_take (i := 5) (oi := ⟨some 51, _, _, _, _, _⟩) (v := .slice a len cap) rfl (by kernel_rfl) (by kernel_rfl) (by kernel_rfl) (fun _ _ _ h => h) (Or.inl ⟨by rfl, fun w' hSw => ?_⟩) HS.out ?_
  · have c := hSw
    clear hSw
    go_simp
  simp only [Act.put, List.setIfInBounds_toArray, List.set_cons_succ, List.set_cons_zero]
  refine wpAnyH_take (i := 6) (oi := ⟨some 52, _, _, _, _, _⟩) (v := .int .i64 (len : Int)) rfl (by kernel_rfl) (by kernel_rfl) (by kernel_rfl) (fun _ _ _ h => h) (Or.inl ⟨by rfl, fun w' hSw => ?_⟩) HS.out ?_
  · go_simp
  simp only [Act.put, List.setIfInBounds_toArray, List.set_cons_succ, List.set_cons_zero]
  refine wpAnyH_take (i := 7) (oi := ⟨some 53, _, _, _, _, _⟩) (v := .pointer (some ⟨b, 0, none⟩)) rfl (by kernel_rfl) (by kernel_rfl) (by kernel_rfl) (fun _ _ _ h => h) (Or.inl ⟨by rfl, fun w' hSw => ?_⟩) HS.out ?_
  · go_simp
  simp only [Act.put, List.setIfInBounds_toArray, List.set_cons_succ, List.set_cons_zero]
  refine wpAnyH_take (i := 8) (oi := ⟨some 54, _, _, _, _, _⟩) (v := .pointer (some ⟨b, 0, none⟩)) rfl (by kernel_rfl) (by kernel_rfl) (by kernel_rfl) (fun _ _ _ h => h) (Or.inl ⟨by rfl, fun w' hSw => ?_⟩) HS.out ?_
  · go_simp
  simp only [Act.put, List.setIfInBounds_toArray, List.set_cons_succ, List.set_cons_zero]
  refine wpAnyH_take (i := 9) (oi := ⟨some 55, _, _, _, _, _⟩) (v := .pointer (some ⟨b, 1, none⟩)) rfl (by kernel_rfl) (by kernel_rfl) (by kernel_rfl) (fun _ _ _ h => h) (Or.inl ⟨by rfl, fun w' hSw => ?_⟩) HS.out ?_
  · go_simp
  simp only [Act.put, List.setIfInBounds_toArray, List.set_cons_succ, List.set_cons_zero]
  refine wpAnyH_ready (rs := [10]) (by kernel_rfl) (by simp) ?_
  refine AllReadyH.cons (i := 10) rfl (fun K hK => ?_) AllReadyH.nil
  rw [if_pos (by rfl)]
  have c1 : w.drew.cell? ⟨b, 1, none⟩ = some (.int .i64 (p : Int)) := C3.out.2.1
  go_simp
  clear c1
  refine hK.out _ _ HS.out (fun _ => ?_)
  clear hK K
  try simp only [Act.put, List.setIfInBounds_toArray, List.set_cons_succ, List.set_cons_zero]
  refine wpAnyH_take (i := 11) (oi := ⟨some 57, _, _, _, _, _⟩) (v := .int .i64 ((len : Int) - (p : Int))) rfl (by kernel_rfl) (by kernel_rfl) (by kernel_rfl) (fun _ _ _ h => h) (Or.inl ⟨by rfl, fun w' hSw => ?_⟩) HS.out ?_
  · clear hSw
    go_simp
    try (rw [IntKind.wrap_i64]; omega)
  simp only [Act.put, List.setIfInBounds_toArray, List.set_cons_succ, List.set_cons_zero]
  refine wpAnyH_ready (rs := [12]) (by kernel_rfl) (by simp) ?_
  refine AllReadyH.cons (i := 12) rfl (fun K hK => ?_) AllReadyH.nil
  rw [if_pos (by rfl)]
  go_simp
  go_at_call 36
  refine TX.out.mono ?_
  rintro x w1 ⟨rfl, h1, g1'⟩
  dsimp only
  have g1 : Chg b w w1 := ((Chg.refl b w).drew).trans g1'
  have f1 := g1.row HNE.out.symm HF.out
  have fz : w1.frozen? ⟨fb, 6, none⟩ = false := frozen_of_row _ _ _ _ _ f1
  have cx := cells9 f1
  obtain ⟨c0, c1, c2, c3, c4, c5, c6, c7, c8⟩ := cx
  have rs := rowSet_cell w1 fb 6 _ _ (.string V) f1
  have RS := Lib.hid rs
  have H1 := Lib.hid (h1.other rs.chg HNE.out HOFF.out)
  have G1 := Lib.hid ((g1.left : Chg2 b fb w w1).trans rs.chg.right)
  have HS1 := Lib.hid (cells3 h1.row).1
  clear h1 g1 g1' TX rs f1 c0 c1 c2 c3 c4 c5 c7 c8
  refine hK.out _ _ HS1.out (fun _ => ?_)
  clear hK K HS
  have HS := HS1
  try simp only [Act.put, List.setIfInBounds_toArray, List.set_cons_succ, List.set_cons_zero]
  refine wpAnyH_take (i := 13) (oi := ⟨some 59, _, _, _, _, _⟩) (v := .pointer (some ⟨fb, 0, none⟩)) rfl (by kernel_rfl) (by kernel_rfl) (by kernel_rfl) (fun _ _ _ h => h) (Or.inl ⟨by rfl, fun w' hSw => ?_⟩) HS.out ?_
  · go_simp
  simp only [Act.put, List.setIfInBounds_toArray, List.set_cons_succ, List.set_cons_zero]
  refine wpAnyH_take (i := 14) (oi := ⟨some 60, _, _, _, _, _⟩) (v := .pointer (some ⟨fb, 6, none⟩)) rfl (by kernel_rfl) (by kernel_rfl) (by kernel_rfl) (fun _ _ _ h => h) (Or.inl ⟨by rfl, fun w' hSw => ?_⟩) HS.out ?_
  · go_simp
  simp only [Act.put, List.setIfInBounds_toArray, List.set_cons_succ, List.set_cons_zero]
  refine wpAnyH_ready (rs := [15]) (by kernel_rfl) (by simp) ?_
  refine AllReadyH.cons (i := 15) rfl (fun K hK => ?_) AllReadyH.nil
  rw [if_pos (by rfl)]
  go_simp
  have HS2 := Lib.hid (cells3 H1.out.row).1
  refine hK.out _ _ HS2.out (fun _ => ?_)
  clear hK K
  try simp only [Act.put, List.setIfInBounds_toArray, List.set_cons_succ, List.set_cons_zero]
  refine wpAnyH_done (by kernel_rfl) ?_ _
  go_wp2_with fail
  go_end0
  exact ⟨rfl, _, H1.out, RS.out.row, SpansIn.none _, G1.out, fun _ => rfl, fun g hg => by cases hg⟩
theorem part_any {w : World} {b fb : Nat} {a : Option Addr} {len cap : Nat} {F : Nat → BitVec 8} {p : Nat} {e : Int} (h : Rd w b a len cap F p e) (f : Fr) (hA : f.A = []) (hf : w.heap[fb]? = some (.cells (f.cells (.slice none 0 0)) 33 (0, 0))) (hne : b ≠ fb) (hoff : ∀ x, a = some x → x.block ≠ fb) (pt : Nat) (hp : pt ≤ 10) :
    Calls Tryd.prog 24 #[.pointer (some ⟨b, 0, none⟩), .pointer (some ⟨fb, 0, none⟩), .int .i64 (pt : Int)] w (PartPost b fb a len cap F (rPart F len f ⟨p, e⟩ pt) (pt ≠ 9) w) := by
  match pt, hp with
  | 0, _ => exact part_0 h f hA hf hne hoff
  | 1, _ => exact part_1 h f hA hf hne hoff
  | 2, _ => exact part_2 h f hA hf hne hoff
  | 3, _ => exact part_3 h f hA hf hne hoff
  | 4, _ => exact part_4 h f hA hf hne hoff
  | 5, _ => exact part_5 h f hA hf hne hoff
  | 6, _ => exact part_6 h f hA hf hne hoff
  | 7, _ => exact part_7 h f hA hf hne hoff
  | 8, _ => exact part_8 h f hA hf hne hoff
  | 9, _ => exact part_9 h f hA hf hne hoff
  | 10, _ => exact part_10 h f hA hf hne hoff
end Go.Proofs.YtcgbhcmgddgheabDoor
