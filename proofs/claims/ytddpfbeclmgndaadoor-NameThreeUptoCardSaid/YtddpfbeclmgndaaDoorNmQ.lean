/-
  name's reader: a step.
-/
import Derived.Test.YtddpfbeclmgndaaDoorNmP
namespace Go.Proofs.YtddpfbeclmgndaaDoor
open Go Go.RowKit Go.BigFrame
set_option linter.unusedSimpArgs false
set_option linter.unusedVariables false
/-- What a step makes of place, bound, end, text: these, is it through, the error. -/
def stepS (f : Nat → BitVec 8) (n p l d : Nat) (T : List (BitVec 8)) : Nat × Nat × Nat × List (BitVec 8) × Bool × Nat :=
  if n ≤ p then (p, l, d, T, false, 3)
  else if f p = 0#8 then (p + 1, l, if d = 0 then p + 1 else d, T, true, 0)
  else if (f p).toNat ≤ 63 then ((pst f n (p + 1) (f p).toNat).1, p, d, T ++ ptx f n (p + 1) (f p).toNat ++ [46#8], false, if (pst f n (p + 1) (f p).toNat).2 = 0 ∧ 254 < (T ++ ptx f n (p + 1) (f p).toNat ++ [46#8]).length then 14 else (pst f n (p + 1) (f p).toNat).2)
  else if 192 ≤ (f p).toNat then
    if n ≤ p + 1 then (p + 1, l, d, T, false, 3)
    else if l ≤ toF (f p) (f (p + 1)) then (p + 1 + 1, l, d, T, false, 13)
    else (toF (f p) (f (p + 1)), toF (f p) (f (p + 1)), if d = 0 then p + 1 + 1 else d, T, false, 0)
  else (p + 1, l, d, T, false, 2)
/-- What a step leaves. -/
def StepPost (q : Nat) (a : Option Addr) (n cap : Nat) (f : Nat → BitVec 8) (w : World) (s : Nat × Nat × Nat × List (BitVec 8) × Bool × Nat) (x : Ending) (w' : World) : Prop :=
  (∃ v, x = .returned v) ∧ (∃ tv', Gd q a n cap f s.1 s.2.1 s.2.2.1 tv' s.2.2.2.1 s.2.2.2.2.1 s.2.2.2.2.2 w') ∧ Below q w w'
set_option maxHeartbeats 8000000 in
set_option maxRecDepth 100000 in
theorem step_tail {q : Nat} {a : Option Addr} {n cap : Nat} {f : Nat → BitVec 8} {p l d : Nat} {tv : Value} {T : List (BitVec 8)} {w : World} (h : Gd q a n cap f p l d tv T false 0 w) (hp : n ≤ p) :
    Calls Tryd.prog 34 #[.pointer (some ⟨q, 0, none⟩)] w (StepPost q a n cap f w (stepS f n p l d T)) := by
  have hs : stepS f n p l d T = (p, l, d, T, false, 3) := by unfold stepS; rw [if_pos hp]
  obtain ⟨SX, hSX⟩ : ∃ SX, stepS f n p l d T = SX := ⟨_, rfl⟩
  rw [hSX]
  have HSX : Hid (SX = (p, l, d, T, false, 3)) := by rw [← hSX, hs]; exact rfl
  clear hSX
  have NX := Lib.hid (next_tail h hp)
  obtain ⟨c0, c1, c2, c3, c4, c5, c6⟩ := cells7 h.row
  clear h hs
  go_enter Tryd.func34, Tryd.ntmps34
  go_upto_region 1 with fail
  clear c0 c1 c2 c3 c4 c5 c6
  go_wp2_with (go_at_call 45; refine NX.out.mono ?_; clear NX; rintro e w1 ⟨rfl, G1, B1⟩; obtain ⟨c0, c1, c2, c3, c4, c5, c6⟩ := cells7 G1.row)
  go_end0
  rw [HSX.out]
  exact ⟨⟨_, rfl⟩, ⟨tv, G1⟩, B1⟩
set_option maxHeartbeats 8000000 in
set_option maxRecDepth 100000 in
theorem step_zero {q : Nat} {a : Option Addr} {n cap : Nat} {f : Nat → BitVec 8} {p l d : Nat} {tv : Value} {T : List (BitVec 8)} {w : World} (h : Gd q a n cap f p l d tv T false 0 w) (hp : p < n) (hc : f p = 0#8) :
    Calls Tryd.prog 34 #[.pointer (some ⟨q, 0, none⟩)] w (StepPost q a n cap f w (stepS f n p l d T)) := by
  have hs : stepS f n p l d T = (p + 1, l, if d = 0 then p + 1 else d, T, true, 0) := by unfold stepS; rw [if_neg (by omega), if_pos hc]
  obtain ⟨SX, hSX⟩ : ∃ SX, stepS f n p l d T = SX := ⟨_, rfl⟩
  rw [hSX]
  have HSX : Hid (SX = (p + 1, l, if d = 0 then p + 1 else d, T, true, 0)) := by rw [← hSX, hs]; exact rfl
  clear hSX
  have NX := Lib.hid (next_ok h hp)
  obtain ⟨c0, c1, c2, c3, c4, c5, c6⟩ := cells7 h.row
  have hx := n8_nat (f p)
  have h0 : (n8 (f p) == 0) = true := by rw [hx, hc]; rfl
  clear h hs
  generalize n8 (f p) = X at *
  go_enter Tryd.func34, Tryd.ntmps34
  go_upto_region 1 with fail
  clear c0 c1 c2 c3 c4 c5 c6 hx
  go_upto_region 5 with (go_at_call 45; refine NX.out.mono ?_; clear NX; rintro e w1 ⟨rfl, G1, B1⟩; obtain ⟨c0, c1, c2, c3, c4, c5, c6⟩ := cells7 G1.row)
  have hs := G1.set (p' := p + 1) (l' := l) (d' := d) (thr' := true) (e' := 0) (rowSet_cell w1 q 5 _ _ (.bool true) G1.row)
  have fz : ∀ j, w1.frozen? ⟨q, j, none⟩ = false := fun j => frozen_of_row _ _ _ _ _ G1.row
  have EA := Lib.hid (endAt_any hs.1 (p + 1))
  have HB := Lib.hid (B1.trans hs.2)
  have g1 := (cells7 hs.1.row).2.1
  clear hs G1
  go_wp2_with (go_at_call 46; refine EA.out.mono ?_; clear EA; rintro e w2 ⟨⟨v2, rfl⟩, G2, B2⟩)
  go_end0
  rw [HSX.out]
  exact ⟨⟨_, rfl⟩, ⟨_, G2⟩, HB.out.trans B2⟩
set_option maxHeartbeats 8000000 in
set_option maxRecDepth 100000 in
theorem step_part {q : Nat} {a : Option Addr} {n cap : Nat} {f : Nat → BitVec 8} {p l d : Nat} {tv : Value} {T : List (BitVec 8)} {w : World} (h : Gd q a n cap f p l d tv T false 0 w) (hp : p < n) (hc : f p ≠ 0#8) (hk : (f p).toNat ≤ 63) (hT : T.length ≤ 1000) :
    Calls Tryd.prog 34 #[.pointer (some ⟨q, 0, none⟩)] w (StepPost q a n cap f w (stepS f n p l d T)) := by
  have hs : stepS f n p l d T = ((pst f n (p + 1) (f p).toNat).1, p, d, T ++ ptx f n (p + 1) (f p).toNat ++ [46#8], false, if (pst f n (p + 1) (f p).toNat).2 = 0 ∧ 254 < (T ++ ptx f n (p + 1) (f p).toNat ++ [46#8]).length then 14 else (pst f n (p + 1) (f p).toNat).2) := by unfold stepS; rw [if_neg (by omega), if_neg hc, if_pos hk]
  obtain ⟨SX, hSX⟩ : ∃ SX, stepS f n p l d T = SX := ⟨_, rfl⟩
  rw [hSX]
  have HSX : Hid (SX = ((pst f n (p + 1) (f p).toNat).1, p, d, T ++ ptx f n (p + 1) (f p).toNat ++ [46#8], false, if (pst f n (p + 1) (f p).toNat).2 = 0 ∧ 254 < (T ++ ptx f n (p + 1) (f p).toNat ++ [46#8]).length then 14 else (pst f n (p + 1) (f p).toNat).2)) := by rw [← hSX, hs]; exact rfl
  clear hSX
  have NX := Lib.hid (next_ok h hp)
  obtain ⟨c0, c1, c2, c3, c4, c5, c6⟩ := cells7 h.row
  have hx := n8_nat (f p)
  have hne : (f p).toNat ≠ 0 := fun e => hc (BitVec.eq_of_toNat_eq e)
  have h0 : (n8 (f p) == 0) = false := beq_eq_false_iff_ne.2 (by omega)
  have h63 : n8 (f p) ≤ 63 := by omega
  have HT := Lib.hid hT
  obtain ⟨k, hk2⟩ : ∃ k, (f p).toNat = k := ⟨_, rfl⟩
  rw [hk2] at hk HSX
  rw [hk2] at hx
  have HX := Lib.hid hx
  have HK := Lib.hid hk
  clear hc hk hk2 hne hT
  clear h hs
  generalize n8 (f p) = X at *
  go_enter Tryd.func34, Tryd.ntmps34
  go_upto_region 1 with fail
  clear c0 c1 c2 c3 c4 c5 c6 hx
  go_upto_region 8 with (go_at_call 45; refine NX.out.mono ?_; clear NX; rintro e w1 ⟨rfl, G1, B1⟩; obtain ⟨c0, c1, c2, c3, c4, c5, c6⟩ := cells7 G1.row)
  have PA := Lib.hid (part_any G1 k (by have := HK.out; omega) HT.out)
  have hX2 : X = (k : Int) := HX.out
  clear c0 c1 c2 c3 c4 c5 c6
  subst hX2
  go_upto_region 9 with (go_at_call 47; refine PA.out.mono ?_; clear PA; rintro e w2 ⟨⟨v2, rfl⟩, tv2, T2, G2, hT2, B2⟩)
  have HT2 := Lib.hid hT2
  obtain ⟨E2, hE2⟩ : ∃ E2, (if (pst f n (p + 1) k).2 = 0 ∧ 254 < T2.length then 14 else (pst f n (p + 1) k).2) = E2 := ⟨_, rfl⟩
  have HE2 := Lib.hid hE2
  rw [hE2] at G2
  clear hT2 hE2
  have hs := G2.set (p' := (pst f n (p + 1) k).1) (l' := p) (d' := d) (thr' := false) (e' := E2) (rowSet_cell w2 q 2 _ _ (.int .i64 (p : Int)) G2.row)
  have fz : ∀ j, w2.frozen? ⟨q, j, none⟩ = false := fun j => frozen_of_row _ _ _ _ _ G2.row
  have c2 := (cells7 G2.row).2.2.1
  have HS := Lib.hid hs.1
  have HB := Lib.hid ((B1.trans B2).trans hs.2)
  clear hs
  go_wp2_with fail
  go_end0
  rw [HSX.out]
  refine ⟨⟨_, rfl⟩, ⟨tv2, ?_⟩, HB.out⟩
  dsimp only
  rw [← HT2.out, HE2.out]
  exact HS.out
set_option maxHeartbeats 8000000 in
set_option maxRecDepth 100000 in
theorem step_ptail {q : Nat} {a : Option Addr} {n cap : Nat} {f : Nat → BitVec 8} {p l d : Nat} {tv : Value} {T : List (BitVec 8)} {w : World} (h : Gd q a n cap f p l d tv T false 0 w) (hp : p < n) (hk : 192 ≤ (f p).toNat) (h1 : n ≤ p + 1) :
    Calls Tryd.prog 34 #[.pointer (some ⟨q, 0, none⟩)] w (StepPost q a n cap f w (stepS f n p l d T)) := by
  have hs : stepS f n p l d T = (p + 1, l, d, T, false, 3) := by unfold stepS; rw [if_neg (by omega), if_neg (fun e => by rw [e] at hk; revert hk; decide), if_neg (by omega), if_pos hk, if_pos h1]
  obtain ⟨SX, hSX⟩ : ∃ SX, stepS f n p l d T = SX := ⟨_, rfl⟩
  rw [hSX]
  have HSX : Hid (SX = (p + 1, l, d, T, false, 3)) := by rw [← hSX, hs]; exact rfl
  clear hSX
  have NX := Lib.hid (next_ok h hp)
  obtain ⟨c0, c1, c2, c3, c4, c5, c6⟩ := cells7 h.row
  have hx := n8_nat (f p)
  have hlt := (f p).isLt
  have h0 : (n8 (f p) == 0) = false := beq_eq_false_iff_ne.2 (by omega)
  have h63 : ¬ n8 (f p) ≤ 63 := by omega
  have h192 : 192 ≤ n8 (f p) := by omega
  clear hlt hk
  clear h hs
  obtain ⟨X, hX⟩ : ∃ X, n8 (f p) = X := ⟨_, rfl⟩
  have HC := Lib.hid hX
  rw [hX] at NX h0 h63 h192 hx
  clear hX
  go_enter Tryd.func34, Tryd.ntmps34
  go_upto_region 1 with fail
  clear c0 c1 c2 c3 c4 c5 c6 hx
  go_upto_region 11 with (go_at_call 45; refine NX.out.mono ?_; clear NX; rintro e w1 ⟨rfl, G1, B1⟩; obtain ⟨c0, c1, c2, c3, c4, c5, c6⟩ := cells7 G1.row)
  have PL := Lib.hid (place_tail G1 (f p) h1)
  rw [HC.out] at PL
  clear c0 c1 c2 c3 c4 c5 c6
  go_wp2_with (go_at_call 48; refine PL.out.mono ?_; clear PL; rintro e w2 ⟨⟨v2, rfl⟩, G2, B2⟩)
  go_end0
  rw [HSX.out]
  exact ⟨⟨_, rfl⟩, ⟨_, G2⟩, B1.trans B2⟩
set_option maxHeartbeats 8000000 in
set_option maxRecDepth 100000 in
theorem step_ploop {q : Nat} {a : Option Addr} {n cap : Nat} {f : Nat → BitVec 8} {p l d : Nat} {tv : Value} {T : List (BitVec 8)} {w : World} (h : Gd q a n cap f p l d tv T false 0 w) (hp : p < n) (hk : 192 ≤ (f p).toNat) (h1 : p + 1 < n) (h2 : l ≤ toF (f p) (f (p + 1))) :
    Calls Tryd.prog 34 #[.pointer (some ⟨q, 0, none⟩)] w (StepPost q a n cap f w (stepS f n p l d T)) := by
  have hs : stepS f n p l d T = (p + 1 + 1, l, d, T, false, 13) := by unfold stepS; rw [if_neg (by omega), if_neg (fun e => by rw [e] at hk; revert hk; decide), if_neg (by omega), if_pos hk, if_neg (by omega), if_pos h2]
  obtain ⟨SX, hSX⟩ : ∃ SX, stepS f n p l d T = SX := ⟨_, rfl⟩
  rw [hSX]
  have HSX : Hid (SX = (p + 1 + 1, l, d, T, false, 13)) := by rw [← hSX, hs]; exact rfl
  clear hSX
  have NX := Lib.hid (next_ok h hp)
  obtain ⟨c0, c1, c2, c3, c4, c5, c6⟩ := cells7 h.row
  have hx := n8_nat (f p)
  have hlt := (f p).isLt
  have h0 : (n8 (f p) == 0) = false := beq_eq_false_iff_ne.2 (by omega)
  have h63 : ¬ n8 (f p) ≤ 63 := by omega
  have h192 : 192 ≤ n8 (f p) := by omega
  clear hlt hk
  clear h hs
  obtain ⟨X, hX⟩ : ∃ X, n8 (f p) = X := ⟨_, rfl⟩
  have HC := Lib.hid hX
  rw [hX] at NX h0 h63 h192 hx
  clear hX
  go_enter Tryd.func34, Tryd.ntmps34
  go_upto_region 1 with fail
  clear c0 c1 c2 c3 c4 c5 c6 hx
  go_upto_region 11 with (go_at_call 45; refine NX.out.mono ?_; clear NX; rintro e w1 ⟨rfl, G1, B1⟩; obtain ⟨c0, c1, c2, c3, c4, c5, c6⟩ := cells7 G1.row)
  have PL := Lib.hid (place_loop G1 (f p) h1 h2)
  rw [HC.out] at PL
  clear c0 c1 c2 c3 c4 c5 c6
  go_wp2_with (go_at_call 48; refine PL.out.mono ?_; clear PL; rintro e w2 ⟨⟨v2, rfl⟩, G2, B2⟩)
  go_end0
  rw [HSX.out]
  exact ⟨⟨_, rfl⟩, ⟨_, G2⟩, B1.trans B2⟩
set_option maxHeartbeats 8000000 in
set_option maxRecDepth 100000 in
theorem step_pok {q : Nat} {a : Option Addr} {n cap : Nat} {f : Nat → BitVec 8} {p l d : Nat} {tv : Value} {T : List (BitVec 8)} {w : World} (h : Gd q a n cap f p l d tv T false 0 w) (hp : p < n) (hk : 192 ≤ (f p).toNat) (h1 : p + 1 < n) (h2 : toF (f p) (f (p + 1)) < l) :
    Calls Tryd.prog 34 #[.pointer (some ⟨q, 0, none⟩)] w (StepPost q a n cap f w (stepS f n p l d T)) := by
  have hs : stepS f n p l d T = (toF (f p) (f (p + 1)), toF (f p) (f (p + 1)), if d = 0 then p + 1 + 1 else d, T, false, 0) := by unfold stepS; rw [if_neg (by omega), if_neg (fun e => by rw [e] at hk; revert hk; decide), if_neg (by omega), if_pos hk, if_neg (by omega), if_neg (by omega)]
  obtain ⟨SX, hSX⟩ : ∃ SX, stepS f n p l d T = SX := ⟨_, rfl⟩
  rw [hSX]
  have HSX : Hid (SX = (toF (f p) (f (p + 1)), toF (f p) (f (p + 1)), if d = 0 then p + 1 + 1 else d, T, false, 0)) := by rw [← hSX, hs]; exact rfl
  clear hSX
  have NX := Lib.hid (next_ok h hp)
  obtain ⟨c0, c1, c2, c3, c4, c5, c6⟩ := cells7 h.row
  have hx := n8_nat (f p)
  have hlt := (f p).isLt
  have h0 : (n8 (f p) == 0) = false := beq_eq_false_iff_ne.2 (by omega)
  have h63 : ¬ n8 (f p) ≤ 63 := by omega
  have h192 : 192 ≤ n8 (f p) := by omega
  clear hlt hk
  clear h hs
  obtain ⟨X, hX⟩ : ∃ X, n8 (f p) = X := ⟨_, rfl⟩
  have HC := Lib.hid hX
  rw [hX] at NX h0 h63 h192 hx
  clear hX
  go_enter Tryd.func34, Tryd.ntmps34
  go_upto_region 1 with fail
  clear c0 c1 c2 c3 c4 c5 c6 hx
  go_upto_region 11 with (go_at_call 45; refine NX.out.mono ?_; clear NX; rintro e w1 ⟨rfl, G1, B1⟩; obtain ⟨c0, c1, c2, c3, c4, c5, c6⟩ := cells7 G1.row)
  have PL := Lib.hid (place_ok G1 (f p) h1 h2)
  rw [HC.out] at PL
  clear c0 c1 c2 c3 c4 c5 c6
  go_wp2_with (go_at_call 48; refine PL.out.mono ?_; clear PL; rintro e w2 ⟨⟨v2, rfl⟩, G2, B2⟩)
  go_end0
  rw [HSX.out]
  exact ⟨⟨_, rfl⟩, ⟨_, G2⟩, B1.trans B2⟩
set_option maxHeartbeats 8000000 in
set_option maxRecDepth 100000 in
theorem step_form {q : Nat} {a : Option Addr} {n cap : Nat} {f : Nat → BitVec 8} {p l d : Nat} {tv : Value} {T : List (BitVec 8)} {w : World} (h : Gd q a n cap f p l d tv T false 0 w) (hp : p < n) (h1 : 63 < (f p).toNat) (h2 : (f p).toNat < 192) :
    Calls Tryd.prog 34 #[.pointer (some ⟨q, 0, none⟩)] w (StepPost q a n cap f w (stepS f n p l d T)) := by
  have hs : stepS f n p l d T = (p + 1, l, d, T, false, 2) := by unfold stepS; rw [if_neg (by omega), if_neg (fun e => by rw [e] at h1; revert h1; decide), if_neg (by omega), if_neg (by omega)]
  obtain ⟨SX, hSX⟩ : ∃ SX, stepS f n p l d T = SX := ⟨_, rfl⟩
  rw [hSX]
  have HSX : Hid (SX = (p + 1, l, d, T, false, 2)) := by rw [← hSX, hs]; exact rfl
  clear hSX
  have NX := Lib.hid (next_ok h hp)
  obtain ⟨c0, c1, c2, c3, c4, c5, c6⟩ := cells7 h.row
  have hx := n8_nat (f p)
  have h0 : (n8 (f p) == 0) = false := beq_eq_false_iff_ne.2 (by omega)
  have h63 : ¬ n8 (f p) ≤ 63 := by omega
  have h192 : ¬ 192 ≤ n8 (f p) := by omega
  clear h1 h2
  clear h hs
  generalize n8 (f p) = X at *
  go_enter Tryd.func34, Tryd.ntmps34
  go_upto_region 1 with fail
  clear c0 c1 c2 c3 c4 c5 c6 hx
  go_upto_region 2 with (go_at_call 45; refine NX.out.mono ?_; clear NX; rintro e w1 ⟨rfl, G1, B1⟩; obtain ⟨c0, c1, c2, c3, c4, c5, c6⟩ := cells7 G1.row)
  have hs := G1.set (p' := p + 1) (l' := l) (d' := d) (thr' := false) (e' := 2) (rowSet_cell w1 q 6 _ _ (.int .i64 2) G1.row)
  have fz : ∀ j, w1.frozen? ⟨q, j, none⟩ = false := fun j => frozen_of_row _ _ _ _ _ G1.row
  have HS := Lib.hid hs
  clear hs
  go_wp2_with fail
  go_end0
  rw [HSX.out]
  exact ⟨⟨_, rfl⟩, ⟨_, HS.out.1⟩, B1.trans HS.out.2⟩
theorem step_any {q : Nat} {a : Option Addr} {n cap : Nat} {f : Nat → BitVec 8} {p l d : Nat} {tv : Value} {T : List (BitVec 8)} {w : World} (h : Gd q a n cap f p l d tv T false 0 w) (hT : T.length ≤ 1000) :
    Calls Tryd.prog 34 #[.pointer (some ⟨q, 0, none⟩)] w (StepPost q a n cap f w (stepS f n p l d T)) := by
  by_cases h0 : n ≤ p
  · exact step_tail h h0
  · have hp : p < n := by omega
    by_cases h1 : f p = 0#8
    · exact step_zero h hp h1
    · by_cases h2 : (f p).toNat ≤ 63
      · exact step_part h hp h1 h2 hT
      · by_cases h3 : 192 ≤ (f p).toNat
        · by_cases h4 : n ≤ p + 1
          · exact step_ptail h hp h3 h4
          · by_cases h5 : l ≤ toF (f p) (f (p + 1))
            · exact step_ploop h hp h3 (by omega) h5
            · exact step_pok h hp h3 (by omega) (by omega)
        · exact step_form h hp (by omega) (by omega)
end Go.Proofs.YtddpfbeclmgndaaDoor
