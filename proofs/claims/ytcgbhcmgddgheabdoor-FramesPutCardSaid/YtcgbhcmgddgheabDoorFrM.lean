/-
  FRAMES' READER: atMost, text, id, spanTo.
-/
import Derived.Test.YtcgbhcmgddgheabDoorFrL
namespace Go.Proofs.YtcgbhcmgddgheabDoor
open Go Go.RowKit Go.BigFrame
set_option linter.unusedSimpArgs false
set_option linter.unusedVariables false
set_option maxRecDepth 100000
set_option maxHeartbeats 4000000 in
theorem atMost_any {w : World} {b : Nat} {a : Option Addr} {len cap : Nat} {f : Nat → BitVec 8} {p : Nat} {e : Int} (h : Rd w b a len cap f p e) (most : Int) :
    Calls Tryd.prog 37 #[.pointer (some ⟨b, 0, none⟩), .int .i64 most] w (RdPost b a len cap f w (.int .i64 ((rMost f len most ⟨p, e⟩).1 : Nat)) (rMost f len most ⟨p, e⟩).2.p (rMost f len most ⟨p, e⟩).2.e) := by
  have NU := Lib.hid (number_any h)
  obtain ⟨R, hR⟩ : ∃ R, rNum f len ⟨p, e⟩ = R := ⟨_, rfl⟩
  obtain ⟨V, p1, e1⟩ := R
  obtain ⟨s2, hs2⟩ : ∃ s2, rNeed (decide ((V : Int) ≤ most)) ⟨p1, e1⟩ = s2 := ⟨_, rfl⟩
  have hM : rMost f len most ⟨p, e⟩ = (if s2.e = 0 then V else 0, s2) := by unfold rMost; rw [hR]; dsimp only; rw [hs2]
  obtain ⟨RV, hRV⟩ : ∃ RV, (if s2.e = 0 then V else 0) = RV := ⟨_, rfl⟩
  rw [hRV] at hM
  rw [hM]
  rw [hR] at NU
  have HRV := Lib.hid hRV
  have HS := Lib.hid hs2
  obtain ⟨p2, e2⟩ := s2
  dsimp only at NU ⊢
  clear h hR hM hs2 hRV
  go_enter Tryd.func37, Tryd.ntmps37
  go_wp2_with fail
  with_reducible refine NU.out.mono ?_
  rintro e' w1 ⟨rfl, h1, g1⟩
  have ne := need_any h1 (decide ((V : Int) ≤ most))
  rw [HS.out] at ne
  have NE := Lib.hid ne
  have G1 := Lib.hid g1
  clear ne g1 h1 NU
  go_wp2_with fail
  with_reducible refine NE.out.mono ?_
  rintro e' w2 ⟨rfl, h2, g2⟩
  have H2 := Lib.hid h2
  have G2 := Lib.hid (G1.out.trans g2)
  obtain ⟨c0, c1, c2⟩ := cells3 h2.row
  clear h2 g2 NE
  by_cases he : e2 = 0
  · have R := Lib.hid (HRV.out.symm.trans (if_pos he))
    subst he
    go_wp2_with fail
    go_ret
    exact ⟨ret_int (congrArg (fun x : Nat => (x : Int)) R.out), H2.out, G2.out⟩
  · have R := Lib.hid (HRV.out.symm.trans (if_neg he))
    have e3 : (e2 != 0) = true := by simp [he]
    clear he
    go_wp2_with fail
    go_ret
    exact ⟨ret_int (congrArg (fun x : Nat => (x : Int)) R.out), H2.out, G2.out⟩
set_option maxHeartbeats 4000000 in
theorem text_any {w : World} {b : Nat} {a : Option Addr} {len cap : Nat} {f : Nat → BitVec 8} {p : Nat} {e : Int} (h : Rd w b a len cap f p e) (n : Nat) (hn63 : n ≤ 9223372036854775807) :
    Calls Tryd.prog 36 #[.pointer (some ⟨b, 0, none⟩), .int .i64 (n : Int)] w (RdPost b a len cap f w (.string (rText f len n ⟨p, e⟩).1) (rText f len n ⟨p, e⟩).2.p (rText f len n ⟨p, e⟩).2.e) := by
  obtain ⟨c0, c1, c2⟩ := cells3 h.row
  have d0 : w.drew.cell? ⟨b, 0, none⟩ = some (.slice a len cap) := c0
  have d1 : w.drew.cell? ⟨b, 1, none⟩ = some (.int .i64 (p : Int)) := c1
  have d2 : w.drew.cell? ⟨b, 2, none⟩ = some (.int .i64 e) := c2
  have hm : len ≤ 9223372036854775807 := by have := h.lc; have := h.cm; unfold maxLen at *; omega
  have hp := h.pl
  by_cases he : e = 0
  rotate_left
  · rw [show rText f len n ⟨p, e⟩ = (⟨#[]⟩, ⟨p, e⟩) from by unfold rText; rw [if_neg he]]
    have H := Lib.hid h
    have e1 : (e == 0) = false := by simp [he]
    have e3 : (e != 0) = true := by simp [he]
    clear h he
    go_enter Tryd.func36, Tryd.ntmps36
    go_upto_region 1 with (fail)
    go_region
    go_wp2_with fail
    go_ret
    exact ⟨rfl, H.out.drew, (Chg.refl b w).drew⟩
  subst he
  by_cases hn : n ≤ len - p
  · rw [show rText f len n ⟨p, 0⟩ = (strOf (fun i => f (p + i)) n, ⟨p + n, 0⟩) from by unfold rText; rw [if_pos rfl, if_pos hn]]
    have hcap := h.lc
    have hcm : cap ≤ 9223372036854775807 := by have := h.cm; unfold maxLen at this; omega
    obtain ⟨a', hcut, ha'⟩ := run_cut a p (p + n) len cap (by omega) (by omega)
    rw [show p + n - p = n by omega, show ((p + n : Nat) : Int) = (p : Int) + (n : Int) by omega] at hcut
    have hconv := fun (w' : World) (hb : BytesIn w' a len f) => conv_cut hb (show p + n ≤ len by omega) hcap ha' (cap - p)
    have HCV := Lib.hid hconv
    have s1 := h.setP (p + n) (by omega)
    rw [show ((p + n : Nat) : Int) = (p : Int) + (n : Int) by omega] at s1
    have S1 := Lib.hid s1
    have fr : w.drew.frozen? ⟨b, 1, none⟩ = false := frozen_of_row _ _ _ _ _ h.drew.row
    have hnot : ¬ (len : Int) - (p : Int) < (n : Int) := by omega
    have hsum : (p : Int) + (n : Int) ≤ 9223372036854775807 := by omega
    clear h s1 hconv ha'
    generalize strOf (fun i => f (p + i)) n = TT at *
    go_enter Tryd.func36, Tryd.ntmps36
    go_upto_region 1 with (fail)
    go_region
    go_upto_region 6 with (fail)
    clear c0 c1 c2 d0 d1 d2 fr
    generalize World.setCell _ _ _ = w2 at *
    obtain ⟨h2, g2⟩ := S1.out
    obtain ⟨c0, c1, c2⟩ := cells3 h2.row
    have d0 : w2.drew.drew.cell? ⟨b, 0, none⟩ = some (.slice a len cap) := c0
    have d1 : w2.drew.drew.cell? ⟨b, 1, none⟩ = some (.int .i64 ((p + n : Nat) : Int)) := c1
    rw [show ((p + n : Nat) : Int) = (p : Int) + (n : Int) by omega] at c1 d1
    have hback : (p : Int) + (n : Int) - (n : Int) = (p : Int) := by omega
    have hcv := HCV.out w2.drew.drew h2.drew.drew.inB
    clear h2 g2
    go_region
    go_wp2_with fail
    go_ret
    exact ⟨rfl, S1.out.1.drew.drew, S1.out.2.drew.drew⟩
  · rw [show rText f len n ⟨p, 0⟩ = (⟨#[]⟩, ⟨p, 3⟩) from by unfold rText; rw [if_pos rfl, if_neg hn]]
    have s1 := h.setE 3
    have S1 := Lib.hid s1
    have fr : w.drew.frozen? ⟨b, 2, none⟩ = false := frozen_of_row _ _ _ _ _ h.drew.row
    have hgt : (len : Int) - (p : Int) < (n : Int) := by omega
    clear h s1
    go_enter Tryd.func36, Tryd.ntmps36
    go_upto_region 1 with (fail)
    go_region
    go_upto_region 3 with (fail)
    generalize World.setCell _ _ _ = w2 at *
    clear c0 c1 c2 d0 d1 d2 fr
    obtain ⟨c0, c1, c2⟩ := cells3 S1.out.1.drew.row
    go_wp2_with fail
    go_ret
    exact ⟨rfl, S1.out.1.drew, S1.out.2.drew⟩
def rId (F : Nat → BitVec 8) (len : Nat) (s : At) : ByteArray × At :=
  let r := rText F len 1 s
  if r.2.e = 0 then rText F len (F s.p).toNat (rNeed (withinB ((F s.p).toNat : Int) 1 20) r.2) else (⟨#[]⟩, r.2)
theorem text_at (F : Nat → BitVec 8) (len : Nat) (s : At) (h : (rText F len 1 s).2.e = 0) : (rText F len 1 s).1 = strOf (fun i => F (s.p + i)) 1 := by
  unfold rText at h ⊢
  by_cases h0 : s.e = 0
  · rw [if_pos h0] at h ⊢
    by_cases h1 : 1 ≤ len - s.p
    · rw [if_pos h1]
    · rw [if_neg h1] at h; have h : (3 : Int) = 0 := h; exact absurd h (by decide)
  · rw [if_neg h0] at h; exact absurd h h0
set_option maxHeartbeats 4000000 in
theorem id_any {w : World} {b : Nat} {a : Option Addr} {len cap : Nat} {f : Nat → BitVec 8} {p : Nat} {e : Int} (h : Rd w b a len cap f p e) :
    Calls Tryd.prog 38 #[.pointer (some ⟨b, 0, none⟩)] w (RdPost b a len cap f w (.string (rId f len ⟨p, e⟩).1) (rId f len ⟨p, e⟩).2.p (rId f len ⟨p, e⟩).2.e) := by
  have tx1 := text_any h 1 (by decide)
  rw [show (((1 : Nat) : Nat) : Int) = 1 from rfl] at tx1
  have TX := Lib.hid tx1
  clear tx1
  have TA := Lib.hid (text_at f len ⟨p, e⟩)
  obtain ⟨R, hR⟩ : ∃ R, rText f len 1 ⟨p, e⟩ = R := ⟨_, rfl⟩
  obtain ⟨T, p1, e1⟩ := R
  obtain ⟨Q, hQ⟩ : ∃ Q, rId f len ⟨p, e⟩ = Q := ⟨_, rfl⟩
  have hQ2 := hQ
  unfold rId at hQ2
  rw [hR] at hQ2 TX TA
  dsimp only at hQ2 TX TA
  have HQ := Lib.hid hQ2
  obtain ⟨T2, p2, e2⟩ := Q
  rw [hQ]
  dsimp only
  clear h hR hQ hQ2
  go_enter Tryd.func38, Tryd.ntmps38
  go_wp2_with fail
  with_reducible refine TX.out.mono ?_
  rintro e' w1 ⟨rfl, h1, g1⟩
  have H1 := Lib.hid h1
  have G1 := Lib.hid g1
  obtain ⟨c0, c1, c2⟩ := cells3 h1.row
  clear h1 g1 TX
  by_cases he : e1 = 0
  rotate_left
  · have q := HQ.out
    rw [if_neg he] at q
    injection q with q1 q2
    injection q2 with q2 q3
    have Q1 := Lib.hid q1
    have e3 : (e1 != 0) = true := by simp [he]
    subst q2 q3
    clear he q1 HQ TA
    go_wp2_with fail
    go_ret
    exact ⟨by rw [← Q1.out]; rfl, H1.out, G1.out⟩
  have q := HQ.out
  rw [if_pos he] at q
  have Q1 := Lib.hid q
  have ta := TA.out he
  subst he ta
  have hat : ∀ hh : 0 < (strOf (fun i => f (p + i)) 1).size, (((strOf (fun i => f (p + i)) 1)[0]'hh).toNat : Int) = n8 (f p) := fun hh => str_at (fun i => f (p + i)) 1 0 hh
  have hsz := strOf_size (fun i => f (p + i)) 1
  obtain ⟨y, hy⟩ : ∃ y, f p = y := ⟨_, rfl⟩
  rw [hy] at hat Q1
  have hy8 : n8 y = (y.toNat : Int) := n8_nat y
  have hylt := y.isLt
  rw [hy8] at hat
  generalize strOf (fun i => f (p + i)) 1 = TT at *
  have WI := Lib.hid (fun (w' : World) => within_any (y.toNat : Int) 1 20 w')
  have NE := Lib.hid (need_any H1.out (withinB (y.toNat : Int) 1 20))
  obtain ⟨s2, hs2⟩ : ∃ s, rNeed (withinB (y.toNat : Int) 1 20) ⟨p1, 0⟩ = s := ⟨_, rfl⟩
  rw [hs2] at NE Q1
  obtain ⟨p3, e3⟩ := s2
  dsimp only at NE
  generalize withinB (y.toNat : Int) 1 20 = WB at *
  generalize y.toNat = yn at *
  have hwy : wrap64 (yn : Int) = (yn : Int) := by unfold wrap64; omega
  clear q TA HQ hy hs2 hy8
  go_upto_region 5 with (fail)
  try simp only [hat, hwy]
  clear hat hsz
  go_wp2_with fail
  with_reducible refine (WI.out _).mono ?_
  rintro e' w2 ⟨rfl, rfl⟩
  go_wp2_with fail
  with_reducible refine NE.out.mono ?_
  rintro e' w3 ⟨rfl, h3, g3⟩
  have tx := text_any h3 yn (by omega)
  rw [Q1.out] at tx
  have TX := Lib.hid tx
  have G3 := Lib.hid (G1.out.trans g3)
  clear h3 g3 tx NE c0 c1 c2
  go_wp2_with fail
  with_reducible refine TX.out.mono ?_
  rintro e' w4 ⟨rfl, h4, g4⟩
  have H4 := Lib.hid h4
  have G4 := Lib.hid (G3.out.trans g4)
  clear h4 g4 TX
  go_wp2_with fail
  go_ret
  exact ⟨rfl, H4.out, G4.out⟩
end Go.Proofs.YtcgbhcmgddgheabDoor
