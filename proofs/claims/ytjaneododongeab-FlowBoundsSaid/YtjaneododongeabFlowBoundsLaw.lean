/-
  FlowBounds holds: whatever the other end tries, no more of its streams are there than most, and no more bytes wait than the window. No conditions.
-/
import Derived.Test.YtjaneododongeabRows
import Derived.Test.YtjaneododongeabFlowL
import Derived.WalkKit
import Derived.ProofKit
import Derived.OpenShut
import Derived.ShutString
import Derived.ChangeOld
import Derived.Below
import Derived.Deep.DeepCutAuto
import Derived.Deep.Upon
import Derived.Deep.AppendSrc
import Derived.SizedLaws
namespace Go.Proofs.Ytjaneododongeab.flowBounds
open Go Go.ChangeShapes Go.WideShapes Go.ChangeAt Go.RowKit Go.BigFrame
set_option linter.unusedVariables false
theorem own : ownKnob Try.prog.godebug = none := by kernel_rfl
theorem laidOut : laidOutB Try.prog = true := by kernel_rfl
open Go.Maps
set_option maxHeartbeats 40000000 in
set_option maxRecDepth 100000 in
theorem law_any (W0 V0 : Int) (a : Option Addr) (n c : Nat) (f g : Nat → Int) (w : World) (h : DealsIn w a n f g) (hn : n ≤ c) (hc : c ≤ maxLen) :
    Calls Try.prog 5 #[.int .i64 W0, .int .i64 V0, .slice a n c] w fun e w' => e = .returned (.bool true) ∧ Below w.heap.size w w' := by
  have hn63 : n ≤ 9223372036854775807 := by unfold maxLen at hc; omega
  obtain ⟨u, hu, hu0, hu1⟩ : ∃ u : Int, IntKind.u64.wrap W0 = u ∧ 0 ≤ u ∧ u ≤ 18446744073709551615 := ⟨_, rfl, by rw [IntKind.wrap_u64]; omega, by rw [IntKind.wrap_u64]; omega⟩
  obtain ⟨q, hq, hq0, hq1⟩ : ∃ q : Int, IntKind.u64.wrap V0 = q ∧ 0 ≤ q ∧ q ≤ 18446744073709551615 := ⟨_, rfl, by rw [IntKind.wrap_u64]; omega, by rw [IntKind.wrap_u64]; omega⟩
  go_enter Try.func5, Try.ntmps5
  go_wp2_with (go_at_call 11; refine (counts_any _).mono ?_; rintro e w1 ⟨rfl, hb1⟩)
  obtain ⟨W, hW⟩ : ∃ W, 1 + u % 32 = W := ⟨_, rfl⟩
  obtain ⟨V, hV⟩ : ∃ V, 1 + q % 65536 = V := ⟨_, rfl⟩
  have hW1 : 1 ≤ W := by omega
  have hW2 : W ≤ 32 := by omega
  have hV1 : 1 ≤ V := by omega
  have hV2 : V ≤ 65536 := by omega
  simp only [hW, hV]
  clear hW hu hu0 hu1 hV hq hq0 hq1
  have hq := hb1.size
  refine (newDoors_any true W hW1 hW2 _).mono ?_
  rintro e w2 ⟨rfl, hb2, hm2, hr2⟩
  replace hb2 := hb1.trans (hb2.mono hq)
  obtain ⟨m, hm⟩ : ∃ m, w1.heap.size = m := ⟨_, rfl⟩
  rw [hm] at hm2 hr2 hq
  simp only [hm]
  clear hm hb1 w1
  have l2 := lt_row hr2
  go_wp2_with fail
  refine (newPurse_ok V hV1 hV2 _).mono ?_
  rintro e w4 ⟨rfl, rfl⟩
  obtain ⟨wz, hwz⟩ : ∃ wz, (w2.alloc (.cells (purseC V V 0 0 0 0) PT)) = wz := ⟨_, rfl⟩
  have rp := heap_alloc_last w2 (.cells (purseC V V 0 0 0 0) PT)
  have nb : Below w2.heap.size w2 (w2.alloc (.cells (purseC V V 0 0 0 0) PT)) := below_new _
  rw [hwz] at rp nb
  simp only [hwz]
  obtain ⟨pb, hpb⟩ : ∃ pb, w2.heap.size = pb := ⟨_, rfl⟩
  replace hm2 := below_row nb (by omega) hm2
  replace hr2 := below_row nb (by omega) hr2
  have hbz := hb2.trans (nb.mono (by omega))
  rw [hpb] at rp l2
  simp only [hpb]
  clear hpb nb hb2 hwz w2
  obtain ⟨b, hb⟩ : ∃ b, m + 1 = b := ⟨_, rfl⟩
  have hord : w.heap.size ≤ m ∧ m < b ∧ b < pb := ⟨by omega, by omega, by omega⟩
  rw [hb] at hr2
  simp only [hb]
  clear hb l2 hq
  have I0 : Bnd wz m b pb w.heap.size W V 0 0 0 W V 0 0 (.map []) [] := bnd_start hW1 hW2 hV1 hV2 hr2 hm2 rp hord
  have O0 : OwnI w.heap.size (.slice none 0 0) [] wz := OwnI.nil _ _ hbz.size
  clear hm2 hr2 rp
  go_wp2_with fail
  have HD := Lib.hid h.2
  clear h
  go_loopw [11, 12, 13] (fun s11 s12 s13 wr => ∃ (i S T : Nat) (C Lm Cm U : Int) (D : DataW Unit) (L : List Int), i ≤ n ∧ i ≤ 100 ∧ s13 = .int .i64 (i : Int) ∧ s12 = .int .i64 (Cm - U) ∧ Bnd wr m b pb w.heap.size W V i S T C Lm Cm U D L ∧ OwnI w.heap.size s11 L wr ∧ Below w.heap.size w wr) (fun _ _ s13 _ => n - (intOf s13).toNat)
  case atStart => exact ⟨0, 0, 0, W, V, 0, 0, .map [], [], by omega, by omega, rfl, rfl, I0, O0, hbz⟩
  case round =>
    clear I0 O0 hbz
    obtain ⟨i, S, T, C, Lm, Cm, U, D, L, hi, hi100, rfl, rfl, hI, hO, bel⟩ := hrel
    obtain ⟨oa, oc, rfl⟩ := hO.slice
    have hx1 := hI.u0
    have hx2 := hI.uc
    have hx3 := hI.cl
    have hx4 := hI.lu
    have hx5 := hI.ts
    have hx6 := hI.sc
    have hx7 := hI.ct
    have hx8 := hI.len
    have HI := Lib.hid hI
    have HO := Lib.hid hO
    have BEL := Lib.hid bel
    clear hI hO bel
    obtain ⟨kk, hkk⟩ : ∃ kk, L.length = kk := ⟨_, rfl⟩
    rw [hkk] at hx8
    have hkO : (kk : Int) = S - T := by omega
    have hkW : ¬ W < (kk : Int) := by omega
    have hkw : (kk : Int) ≤ W := by omega
    have HKK := Lib.hid hkk
    simp only [hkk]
    clear hkk hx8 hkO
    obtain ⟨Z, hZ⟩ : ∃ Z, Cm - U = Z := ⟨_, rfl⟩
    have hZ0 : 0 ≤ Z := by omega
    have hZ1 : Z ≤ V := by omega
    have HZ := Lib.hid hZ
    simp only [hZ]
    clear hZ
    by_cases hlt : i < n
    · have hltI : (i : Int) < (n : Int) := by omega
      by_cases h100 : i < 100
      · have h100I : (i : Int) < 100 := by omega
        obtain ⟨hg, h0 | ⟨bb, off, rfl, hbl, hcell⟩⟩ := HD.out
        · omega
        have kf := (BEL.out.cell (p := ⟨bb, off + i * 2, none⟩) hbl).trans (hcell i hlt).1
        have kg := (BEL.out.cell (p := ⟨bb, off + i * 2 + 1, none⟩) hbl).trans (hcell i hlt).2
        clear hg hcell
        generalize g i = N at *
        obtain ⟨u, hu, hu0, hu1⟩ : ∃ u : Int, IntKind.u64.wrap N = u ∧ 0 ≤ u ∧ u ≤ 18446744073709551615 := ⟨_, rfl, by rw [IntKind.wrap_u64]; omega, by rw [IntKind.wrap_u64]; omega⟩
        by_cases hf0 : f i ≠ 1 ∧ f i ≠ 3 ∧ f i ≠ 4 ∧ f i ≠ 5
        · obtain ⟨n1, n3, n4, n5⟩ := hf0
          generalize f i = XX at *
          have m1 : (XX == 1) = false := by simp [n1]
          have m3 : (XX == 3) = false := by simp [n3]
          have m4 : (XX == 4) = false := by simp [n4]
          have m5 : (XX == 5) = false := by simp [n5]
          obtain ⟨y, hy⟩ : ∃ y, u % 100000 = y := ⟨_, rfl⟩
          have hy0 : 0 ≤ y := by omega
          have hy1 : y < 100000 := by omega
          go_upto_region 14 with (fail)
          simp only [hy]
          clear hy hu hu0 hu1
          obtain ⟨x, hx⟩ : ∃ x, y / 2 = x := ⟨_, rfl⟩
          have hx0 : 0 ≤ x := by omega
          have hx50 : x ≤ 50000 := by omega
          have HXX := Lib.hid hx
          clear hx
          by_cases h1 : y > Lm - Cm
          · by_cases h2 : x > Cm - U
            · have G1 := Lib.hid (bnd_take HI.out HO.out y hy0 11 (if_pos h1) (Cm) (if_pos h1))
              have E1 : Hid ((if x > Cm - U then (1 : Int) else 0) = 1) := Lib.hid (if_pos h2)
              have E2 : Hid ((if x > Cm - U then U else U + x) = U) := Lib.hid (if_pos h2)
              have hw1 : ¬ V < Z := by have h4 := HZ.out; omega
              have hw2 : ¬ Z < 0 := by have h4 := HZ.out; omega
              clear h1 h2
              go_wp2_with fail
              with_reducible refine (G1.out).mono ?_
              rintro e w2 ⟨rfl, t2, o2, b2⟩
              have T2 := Lib.hid t2
              have O2 := Lib.hid o2
              have B2 := Lib.hid (BEL.out.trans b2)
              clear t2 o2 b2
              go_wp2_with fail
              rw [HXX.out]
              with_reducible refine (bnd_use T2.out (by omega) O2.out x hx0 hx50 1 E1.out (U) E2.out).mono ?_
              rintro e w3 ⟨rfl, t3, o3, b3⟩
              have T3 := Lib.hid t3
              have O3 := Lib.hid o3
              have B3 := Lib.hid (B2.out.trans b3)
              clear t3 o3 b3
              have HXY := HXX.out
              go_wp2_with fail
              go_roundw
              case rel => exact ⟨i + 1, S, T, C, Lm, Cm, U, _, L, by omega, by omega, by go_num, by have := HZ.out; congr 1; omega, T3.out, by have h := O3.out; rw [HKK.out] at h; exact h, B3.out⟩
              case measure => (simp [intOf] <;> omega)
            · have G1 := Lib.hid (bnd_take HI.out HO.out y hy0 11 (if_pos h1) (Cm) (if_pos h1))
              have E1 : Hid ((if x > Cm - U then (1 : Int) else 0) = 0) := Lib.hid (if_neg h2)
              have E2 : Hid ((if x > Cm - U then U else U + x) = U + x) := Lib.hid (if_neg h2)
              have hw1 : ¬ V < (Z - x) := by have h4 := HZ.out; omega
              have hw2 : ¬ (Z - x) < 0 := by have h4 := HZ.out; omega
              clear h1 h2
              go_wp2_with fail
              with_reducible refine (G1.out).mono ?_
              rintro e w2 ⟨rfl, t2, o2, b2⟩
              have T2 := Lib.hid t2
              have O2 := Lib.hid o2
              have B2 := Lib.hid (BEL.out.trans b2)
              clear t2 o2 b2
              go_wp2_with fail
              rw [HXX.out]
              with_reducible refine (bnd_use T2.out (by omega) O2.out x hx0 hx50 0 E1.out (U + x) E2.out).mono ?_
              rintro e w3 ⟨rfl, t3, o3, b3⟩
              have T3 := Lib.hid t3
              have O3 := Lib.hid o3
              have B3 := Lib.hid (B2.out.trans b3)
              clear t3 o3 b3
              have HXY := HXX.out
              go_wp2_with fail
              go_roundw
              case rel => exact ⟨i + 1, S, T, C, Lm, Cm, U + x, _, L, by omega, by omega, by go_num, by have := HZ.out; congr 1; omega, T3.out, by have h := O3.out; rw [HKK.out] at h; exact h, B3.out⟩
              case measure => (simp [intOf] <;> omega)
          · by_cases h2 : x > Cm + y - U
            · have G1 := Lib.hid (bnd_take HI.out HO.out y hy0 0 (if_neg h1) (Cm + y) (if_neg h1))
              have E1 : Hid ((if x > Cm + y - U then (1 : Int) else 0) = 1) := Lib.hid (if_pos h2)
              have E2 : Hid ((if x > Cm + y - U then U else U + x) = U) := Lib.hid (if_pos h2)
              have hw1 : ¬ V < (Z + y) := by have h4 := HZ.out; omega
              have hw2 : ¬ (Z + y) < 0 := by have h4 := HZ.out; omega
              clear h1 h2
              go_wp2_with fail
              with_reducible refine (G1.out).mono ?_
              rintro e w2 ⟨rfl, t2, o2, b2⟩
              have T2 := Lib.hid t2
              have O2 := Lib.hid o2
              have B2 := Lib.hid (BEL.out.trans b2)
              clear t2 o2 b2
              go_wp2_with fail
              rw [HXX.out]
              with_reducible refine (bnd_use T2.out (by omega) O2.out x hx0 hx50 1 E1.out (U) E2.out).mono ?_
              rintro e w3 ⟨rfl, t3, o3, b3⟩
              have T3 := Lib.hid t3
              have O3 := Lib.hid o3
              have B3 := Lib.hid (B2.out.trans b3)
              clear t3 o3 b3
              have HXY := HXX.out
              go_wp2_with fail
              go_roundw
              case rel => exact ⟨i + 1, S, T, C, Lm, Cm + y, U, _, L, by omega, by omega, by go_num, by have := HZ.out; congr 1; omega, T3.out, by have h := O3.out; rw [HKK.out] at h; exact h, B3.out⟩
              case measure => (simp [intOf] <;> omega)
            · have G1 := Lib.hid (bnd_take HI.out HO.out y hy0 0 (if_neg h1) (Cm + y) (if_neg h1))
              have E1 : Hid ((if x > Cm + y - U then (1 : Int) else 0) = 0) := Lib.hid (if_neg h2)
              have E2 : Hid ((if x > Cm + y - U then U else U + x) = U + x) := Lib.hid (if_neg h2)
              have hw1 : ¬ V < (Z + y - x) := by have h4 := HZ.out; omega
              have hw2 : ¬ (Z + y - x) < 0 := by have h4 := HZ.out; omega
              clear h1 h2
              go_wp2_with fail
              with_reducible refine (G1.out).mono ?_
              rintro e w2 ⟨rfl, t2, o2, b2⟩
              have T2 := Lib.hid t2
              have O2 := Lib.hid o2
              have B2 := Lib.hid (BEL.out.trans b2)
              clear t2 o2 b2
              go_wp2_with fail
              rw [HXX.out]
              with_reducible refine (bnd_use T2.out (by omega) O2.out x hx0 hx50 0 E1.out (U + x) E2.out).mono ?_
              rintro e w3 ⟨rfl, t3, o3, b3⟩
              have T3 := Lib.hid t3
              have O3 := Lib.hid o3
              have B3 := Lib.hid (B2.out.trans b3)
              clear t3 o3 b3
              have HXY := HXX.out
              go_wp2_with fail
              go_roundw
              case rel => exact ⟨i + 1, S, T, C, Lm, Cm + y, U + x, _, L, by omega, by omega, by go_num, by have := HZ.out; congr 1; omega, T3.out, by have h := O3.out; rw [HKK.out] at h; exact h, B3.out⟩
              case measure => (simp [intOf] <;> omega)
        · obtain hf0 | hf0 | hf0 | hf0 : f i = 1 ∨ f i = 3 ∨ f i = 4 ∨ f i = 5 := by omega
          · rw [hf0] at kf
            obtain ⟨y, hy⟩ : ∃ y, u % 100000 = y := ⟨_, rfl⟩
            have hy0 : 0 ≤ y := by omega
            have hy1 : y < 100000 := by omega
            go_upto_region 22 with (fail)
            simp only [hy]
            clear hy hu hu0 hu1
            obtain ⟨z, hz⟩ : ∃ z, y % 200 = z := ⟨_, rfl⟩
            have hz0 : 0 ≤ z := by omega
            have hz1 : z < 200 := by omega
            have HZZ := Lib.hid hz
            clear hz
            by_cases hf : C ≤ z
            · have G1 := Lib.hid (bnd_flow HI.out z hz0 hz1 hf)
              go_wp2_with fail
              rw [HZZ.out]
              with_reducible refine (G1.out).mono ?_
              rintro e w2 ⟨rfl, rfl⟩
              go_wp2_with fail
              go_roundw
              case rel => exact ⟨i + 1, S, T, C, Lm, Cm, U, _, L, by omega, by omega, by go_num, by rw [HZ.out], HI.out.step (by omega), by have h := HO.out; rw [HKK.out] at h; exact h, BEL.out⟩
              case measure => (simp [intOf] <;> omega)
            · have hf2 : z < C := by omega
              have G1 := Lib.hid (bnd_come HI.out (by omega) HO.out z hz0 hz1 hf2)
              go_wp2_with fail
              rw [HZZ.out]
              with_reducible refine (G1.out).mono ?_
              rintro e w2 ⟨v, k, hk2, rfl, ov, ol, ⟨D', t2⟩, b2⟩
              have OV := Lib.hid ov
              have OL : Hid (OwnI w.heap.size (.slice oa kk oc) L w2) := Lib.hid (by have h := ol; rw [HKK.out] at h; exact h)
              have T2 := Lib.hid t2
              have B2 := Lib.hid b2
              clear ov ol t2 b2
              obtain ⟨va, vc, rfl⟩ := OV.out.slice
              go_upto_region 24 with (fail)
              go_wp2_with (at_builtin; refine wpList_append_ints (o := ⟨some 101, _, _, _, _, _⟩) (G := L) (H := idsN S k) rfl _ _ rfl rfl rfl OL.out OV.out.src (by rw [HKK.out, idsN_len]; omega) ?_; intro v' w4 o4 g4; have O4 := Lib.hid o4; have G4 := Lib.hid g4; clear o4 g4; obtain ⟨va4, kz, vc4, rfl, hkz⟩ := own_len O4.out; have HKZ := Lib.hid hkz; have hlen : (kz : Int) ≤ W := (by have h1 := T2.out.len; have h2 := T2.out.sc; have h3 := T2.out.ct; omega); clear hkz)
              have T5 := Lib.hid (T2.out.grew OL.out G4.out)
              have B5 : Hid (Below w.heap.size w w4) := Lib.hid ((BEL.out.trans B2.out).trans (G4.out.below _ OL.out.base (fun k hk => (OL.out.lt hk).1)))
              go_wp2_with fail
              go_roundw
              case rel => exact ⟨i + 1, S + k, T, C, Lm, Cm, U, _, L ++ idsN S k, by omega, by omega, by go_num, by rw [HZ.out], T5.out, O4.out, B5.out⟩
              case measure => (simp [intOf] <;> omega)
          · rw [hf0] at kf
            obtain ⟨y, hy⟩ : ∃ y, u % 100000 = y := ⟨_, rfl⟩
            have hy0 : 0 ≤ y := by omega
            have hy1 : y < 100000 := by omega
            go_upto_region 22 with (fail)
            simp only [hy]
            clear hy hu hu0 hu1
            obtain ⟨z, hz⟩ : ∃ z, y % 200 = z := ⟨_, rfl⟩
            have hz0 : 0 ≤ z := by omega
            have hz1 : z < 200 := by omega
            have HZZ := Lib.hid hz
            clear hz
            by_cases hf : C ≤ z
            · have G1 := Lib.hid (bnd_flow HI.out z hz0 hz1 hf)
              go_wp2_with fail
              rw [HZZ.out]
              with_reducible refine (G1.out).mono ?_
              rintro e w2 ⟨rfl, rfl⟩
              go_wp2_with fail
              go_roundw
              case rel => exact ⟨i + 1, S, T, C, Lm, Cm, U, _, L, by omega, by omega, by go_num, by rw [HZ.out], HI.out.step (by omega), by have h := HO.out; rw [HKK.out] at h; exact h, BEL.out⟩
              case measure => (simp [intOf] <;> omega)
            · have hf2 : z < C := by omega
              have G1 := Lib.hid (bnd_come HI.out (by omega) HO.out z hz0 hz1 hf2)
              go_wp2_with fail
              rw [HZZ.out]
              with_reducible refine (G1.out).mono ?_
              rintro e w2 ⟨v, k, hk2, rfl, ov, ol, ⟨D', t2⟩, b2⟩
              have OV := Lib.hid ov
              have OL : Hid (OwnI w.heap.size (.slice oa kk oc) L w2) := Lib.hid (by have h := ol; rw [HKK.out] at h; exact h)
              have T2 := Lib.hid t2
              have B2 := Lib.hid b2
              clear ov ol t2 b2
              obtain ⟨va, vc, rfl⟩ := OV.out.slice
              go_upto_region 24 with (fail)
              go_wp2_with (at_builtin; refine wpList_append_ints (o := ⟨some 101, _, _, _, _, _⟩) (G := L) (H := idsN S k) rfl _ _ rfl rfl rfl OL.out OV.out.src (by rw [HKK.out, idsN_len]; omega) ?_; intro v' w4 o4 g4; have O4 := Lib.hid o4; have G4 := Lib.hid g4; clear o4 g4; obtain ⟨va4, kz, vc4, rfl, hkz⟩ := own_len O4.out; have HKZ := Lib.hid hkz; have hlen : (kz : Int) ≤ W := (by have h1 := T2.out.len; have h2 := T2.out.sc; have h3 := T2.out.ct; omega); clear hkz)
              have T5 := Lib.hid (T2.out.grew OL.out G4.out)
              have B5 : Hid (Below w.heap.size w w4) := Lib.hid ((BEL.out.trans B2.out).trans (G4.out.below _ OL.out.base (fun k hk => (OL.out.lt hk).1)))
              go_wp2_with fail
              go_roundw
              case rel => exact ⟨i + 1, S + k, T, C, Lm, Cm, U, _, L ++ idsN S k, by omega, by omega, by go_num, by rw [HZ.out], T5.out, O4.out, B5.out⟩
              case measure => (simp [intOf] <;> omega)
          · rw [hf0] at kf
            obtain ⟨y, hy⟩ : ∃ y, u % 100000 = y := ⟨_, rfl⟩
            have hy0 : 0 ≤ y := by omega
            have hy1 : y < 100000 := by omega
            go_upto_region 26 with (fail)
            simp only [hy]
            clear hy hu hu0 hu1
            by_cases hf : 0 < kk
            · have hkp : 0 < (kk : Int) := by omega
              have hkn : ¬ (kk : Int) = 0 := by omega
              obtain ⟨k, hk⟩ : ∃ k : Nat, y % (kk : Int) = (k : Int) := ⟨(y % (kk : Int)).toNat, by have := Int.emod_nonneg y hkn; omega⟩
              have hklt : (k : Int) < (kk : Int) := by rw [← hk]; exact Int.emod_lt_of_pos _ hkp
              have hkL : k < L.length := by rw [HKK.out]; omega
              have G1 := Lib.hid (bnd_leave HI.out (by omega) HO.out k hkL)
              obtain ⟨g0, o0, c0, hv, hc0⟩ := HO.out.at hkL
              obtain ⟨X, hX⟩ : ∃ X, L[k] = X := ⟨_, rfl⟩
              rw [hX] at hc0 G1
              injection hv with hv1 _ hv3
              subst hv1 hv3
              have HK := Lib.hid hk
              clear hk hX
              go_upto_region 28 with (fail)
              simp only [HK.out]
              go_wp2_with fail
              with_reducible refine (G1.out).mono ?_
              rintro e w2 ⟨rfl, o2, ⟨D', t2⟩, b2⟩
              have T2 := Lib.hid t2
              have O2 := Lib.hid o2
              have B2 := Lib.hid (BEL.out.trans b2)
              clear t2 o2 b2
              go_upto_region 30 with (fail)
              obtain ⟨o', ho1, ho2, hfr⟩ := run_front g0 o0 (k + 1) kk oc (by omega) (by have h := (own_ids HO.out).2.1; rw [HKK.out] at h; exact h)
              have O2' : Hid (OwnI w.heap.size (.slice (some ⟨g0, o0, none⟩) kk oc) L w2.drew) := Lib.hid (own_drew (by have h := O2.out; rw [HKK.out] at h; exact h))
              have hsz2 : w.heap.size ≤ w2.drew.heap.size := O2'.out.base
              have hup := fun w' => run_uptoI g0 o0 k kk oc (by have h := (own_ids HO.out).2.1; rw [HKK.out] at h; omega) w'
              have hfr' : ∀ w' : World, (Instr.sliceAt 42 (.slice (some ⟨g0, o0, none⟩) kk oc) (some (.int .i64 ((k : Int) + 1))) none none).run Try.prog w' = .ok (.slice (some ⟨g0, o', none⟩) (kk - (k + 1)) (oc - (k + 1))) w' := hfr
              have S1 := Lib.hid (fun (w' : World) (h : OwnI w.heap.size (.slice (some ⟨g0, o0, none⟩) kk oc) L w') => own_src_upto (k := k) h (by omega))
              have S2 := Lib.hid (fun (w' : World) (h : OwnI w.heap.size (.slice (some ⟨g0, o0, none⟩) kk oc) L w') => own_src_front (k := k + 1) h (by omega) ho1)
              have HL1 : Hid (([] : List Int).length + (L.take k).length ≤ 1099511627776) := Lib.hid (by rw [List.length_take]; simp; omega)
              have HL2 : Hid (([] ++ L.take k : List Int).length + (L.drop (k + 1)).length ≤ 1099511627776) := Lib.hid (by rw [List.nil_append, List.length_take, List.length_drop, HKK.out]; omega)
              have hwr : IntKind.i64.wrap ((k : Int) + 1) = (k : Int) + 1 := by rw [IntKind.wrap_i64]; omega
              have HO1 := Lib.hid ho1
              clear ho1 ho2 hfr
              go_region_held3 (fun _ => True) (first | trivial) (first
                | (refine step_append_ints (o := ⟨some 122, _, _, _, _, _⟩) (G := []) (H := L.take k) (by rfl) _ _ (by rfl) (by rfl) (by rfl) (own_empty hsz2) (S1.out _ (own_new O2'.out _)) HL1.out ?_; intro v1 w3 o3 g3; have O3 := Lib.hid o3; have G3 := Lib.hid g3; clear o3 g3)
                | (refine step_append_ints (o := ⟨some 127, _, _, _, _, _⟩) (G := [] ++ L.take k) (H := L.drop (k + 1)) (by rfl) _ _ (by rfl) (by rfl) (by rfl) O3.out (S2.out _ (own_beside O2'.out rfl (Nat.le_refl _) G3.out)) HL2.out ?_; intro v2 w4 o4 g4; have O4 := Lib.hid o4; have G4 := Lib.hid g4; clear o4 g4))
              have T3 := Lib.hid (((T2.out.keep (w2 := w2.drew) (fun _ _ => rfl)).new (.cells #[] 3)).grew (own_empty hsz2) G3.out)
              have T4 := Lib.hid (T3.out.grew O3.out G4.out)
              have B3 : Hid (Below w.heap.size w w3) := Lib.hid ((B2.out.drew.alloc hsz2 (.cells #[] 3)).trans (G3.out.below _ (Nat.le_trans hsz2 (by simp)) (fun k hk => ((own_empty hsz2).lt hk).1)))
              have B4 : Hid (Below w.heap.size w w4) := Lib.hid (B3.out.trans (G4.out.below _ O3.out.base (fun k hk => (O3.out.lt hk).1)))
              have O5 := O4.out
              rw [List.nil_append] at O5
              obtain ⟨va, vc, rfl⟩ := O5.slice
              have O6 := Lib.hid O5
              clear O5 hup hfr' hwr
              have hlen : ((L.take k ++ L.drop (k + 1)).length : Int) ≤ W := by have h1 := T4.out.len; have h2 := T4.out.sc; have h3 := T4.out.ct; omega
              generalize hLL : L.take k ++ L.drop (k + 1) = LL at *
              obtain ⟨kz, hkz⟩ : ∃ kz, LL.length = kz := ⟨_, rfl⟩
              rw [hkz] at hlen
              have HKZ := Lib.hid hkz
              simp only [hkz]
              clear hkz hLL
              go_wp2_with fail
              go_roundw
              case rel => exact ⟨i + 1, S, T + 1, C, Lm, Cm, U, _, LL, by omega, by omega, by go_num, by rw [HZ.out], T4.out, by have h := O6.out; rw [HKZ.out] at h; exact h, B4.out⟩
              case measure => (simp [intOf] <;> omega)
            · have hk0 : (kk : Int) = 0 := by omega
              go_wp2_with fail
              go_roundw
              case rel => exact ⟨i + 1, S, T, C, Lm, Cm, U, _, L, by omega, by omega, by go_num, by rw [HZ.out], HI.out.step (by omega), by have h := HO.out; rw [HKK.out] at h; exact h, BEL.out⟩
              case measure => (simp [intOf] <;> omega)
          · rw [hf0] at kf
            have G1 := Lib.hid (bnd_grantD HI.out HO.out)
            go_wp2_with fail
            with_reducible refine (G1.out).mono ?_
            rintro e w2 ⟨x, y, rfl, ⟨C', t2⟩, o2, b2⟩
            have T2 := Lib.hid t2
            have O2 := Lib.hid o2
            have B2 := Lib.hid (BEL.out.trans b2)
            clear t2 o2 b2
            go_wp2_with fail
            with_reducible refine (bnd_grantP T2.out O2.out).mono ?_
            rintro e w3 ⟨x', y', rfl, ⟨L', t3⟩, o3, b3⟩
            have T3 := Lib.hid t3
            have O3 := Lib.hid o3
            have B3 := Lib.hid (B2.out.trans b3)
            clear t3 o3 b3
            go_wp2_with fail
            go_roundw
            case rel => exact ⟨i + 1, S, T, C', L', Cm, U, _, L, by omega, by omega, by go_num, by rw [HZ.out], T3.out.step (by omega), by have h := O3.out; rw [HKK.out] at h; exact h, B3.out⟩
            case measure => (simp [intOf] <;> omega)
      · obtain rfl : i = 100 := by omega
        go_wp2_with fail
        go_ret
        exact ⟨rfl, BEL.out⟩
    · have hltI : ¬ (i : Int) < (n : Int) := by omega
      go_wp2_with fail
      go_ret
      exact ⟨rfl, BEL.out⟩
theorem walk {H : Type} {enc : TypeId × Value → H} (w : World) (base : Nat) (v0 v1 v2 : Value) (d0 d1 d2 : DataW H) (p0 p1 p2 : List MemPlace)
    (k0 : Value.okWide Try.prog w .any base 3 v0) (k1 : Value.okWide Try.prog w .any base 3 v1) (k2 : Value.okWide Try.prog w .any base 22 v2)
    (h0 : DataW.Trod enc Try.prog w 0 (fun _ => true) true 3 v0 d0 p0) (h1 : DataW.Trod enc Try.prog w 0 (fun _ => true) true 3 v1 d1 p1) (h2 : DataW.Trod enc Try.prog w 0 (fun _ => true) true 22 v2 d2 p2) :
    Calls Try.prog 5 #[v0, v1, v2] w fun e w' => e = .returned (.bool true) ∧ Below w.heap.size w w' := by
  obtain ⟨W, rfl, _⟩ := open_int Try.underlying3 k0 h0
  obtain ⟨V, rfl, _⟩ := open_int Try.underlying3 k1 h1
  obtain ⟨a, n, c, f, g, rfl, h, hn, hc⟩ := open_deals k2 h2
  exact law_any W V a n c f g w h hn hc
set_option maxRecDepth 100000 in
theorem lifted (os : Os) (started : os.Started) (H : Type) (enc : TypeId × Value → H) :
    ReturnsInHanded {} Try.checked os 5 .any (Rows.flowBoundsSpec.pre6 enc Try.prog Try.f5 Rows.flowBoundsRow.domain false) (Rows.flowBoundsSpec.post enc Try.prog Try.f5 false true false false) := by
  refine returnsInHanded_of_change (C := Try.checked) own started (by kernel_rfl) Try.func5
    (ChangeSpec.witness6 (enc := enc) (C := Try.checked) false ⟨#[], #[.int .i64 0, .int .i64 0, .slice none 0 0], []⟩ 8 (by kernel_rfl) (by kernel_rfl) (by kernel_rfl) (by kernel_rfl)) ?_
  intro W base args ds gs before hval0 hW hcnd _
  have hval : ∀ (j : Nat) t v, Try.f5.params[j]? = some t → args[j]? = some v → Value.okWide Try.prog W .any base t v := hval0
  have hW' := hW
  obtain ⟨p, q, hA0, hV, rfl, hfz, hnd⟩ := hW
  have hA : DataW.TrodAll enc Try.prog W 0 (fun _ => true) true Try.f5.params.toList args.toList ds p := hA0
  rw [Try.params5] at hA hval
  obtain ⟨v0, vs0, d0, ds0, p0, q0, hargs, rfl, rfl, h0, r0⟩ := trodAll_cons hA
  obtain ⟨v1, vs1, d1, ds1, p1, q1, rfl, rfl, rfl, h1, r1⟩ := trodAll_cons r0
  obtain ⟨v2, vs2, d2, ds2, p2, q2, rfl, rfl, rfl, h2, r2⟩ := trodAll_cons r1
  obtain ⟨rfl, rfl, rfl⟩ := trodAll_nil r2
  obtain rfl : args = #[v0, v1, v2] := by cases args; simp_all
  obtain ⟨rfl, rfl⟩ := trodVars_none hV
  have k0 := h0
  have lt0 : ∀ x ∈ p0, x.block < W.heap.size := by obtain ⟨m, hm⟩ := k0; exact DataW.trod_lt m _ _ _ hm
  have k1 := h1
  have lt1 : ∀ x ∈ p1, x.block < W.heap.size := by obtain ⟨m, hm⟩ := k1; exact DataW.trod_lt m _ _ _ hm
  have k2 := h2
  have lt2 : ∀ x ∈ p2, x.block < W.heap.size := by obtain ⟨m, hm⟩ := k2; exact DataW.trod_lt m _ _ _ hm
  clear hA0 hval0
  refine (walk W base v0 v1 v2 d0 d1 d2 p0 p1 p2 (hval 0 3 v0 rfl rfl) (hval 1 3 v1 rfl rfl) (hval 2 22 v2 rfl rfl) k0 k1 k2).mono fun e W' ⟨he, bel⟩ => ?_
  subst he
  exact ⟨_, rfl, _, _, _, [], _, [], hW', trodAll_mk1 (shut_bool Try.underlying4 _), (trodAll_cons_mk (Below.trod laidOut (by kernel_rfl) (of_decide_eq_true (by kernel_rfl)) k0 bel lt0) (trodAll_cons_mk (Below.trod laidOut (by kernel_rfl) (of_decide_eq_true (by kernel_rfl)) k1 bel lt1) (trodAll_cons_mk (Below.trod laidOut (by kernel_rfl) (of_decide_eq_true (by kernel_rfl)) k2 bel lt2) trodAll_mk0))), rfl, bel.frame _, fun h => by cases h⟩
theorem over : Rows.flowBoundsRow.holds Try.pinned (OpenSpec.ofChange Rows.flowBoundsSpec) :=
  OpenClaim.holds_of_wide 5 Try.f5 rfl rfl rfl rfl rfl rfl rfl ⟨rfl, rfl, rfl, rfl, rfl⟩ rfl rfl rfl rfl rfl (by kernel_rfl) Try.func5 (by kernel_rfl)
    (of_decide_eq_true (by kernel_rfl)) (by unfold Func.isWrapper; first | (rw [if_pos (by decide +kernel)]; kernel_rfl) | (rw [if_neg (by decide +kernel)]; exact ⟨rfl, rfl⟩))
    (fun os started H enc _ => lifted os started H enc)
theorem proved : Rows.FlowBoundsSaid := over
end Go.Proofs.Ytjaneododongeab.flowBounds
