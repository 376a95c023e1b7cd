/-
  FlowTwo holds: of two ends that tell one another what they grant, each stream that one opens is let in by the other, and each byte that one may spend. No conditions.
-/
import Derived.Test.YtjaneododongeabRows
import Derived.Test.YtjaneododongeabFlowK
import Derived.WalkKit
import Derived.ProofKit
import Derived.OpenShut
import Derived.ShutString
import Derived.ChangeOld
import Derived.Below
import Derived.Deep.DeepCutAuto
import Derived.Deep.Upon
import Derived.Deep.AppendSrc
import Derived.SizedLaws
namespace Go.Proofs.Ytjaneododongeab.flowTwo
open Go Go.ChangeShapes Go.WideShapes Go.ChangeAt Go.RowKit Go.BigFrame
set_option linter.unusedVariables false
theorem own : ownKnob Try.prog.godebug = none := by kernel_rfl
theorem laidOut : laidOutB Try.prog = true := by kernel_rfl
open Go.Maps
set_option maxHeartbeats 40000000 in
set_option maxRecDepth 100000 in
theorem law_any (W0 : Int) (a : Option Addr) (n c : Nat) (f g : Nat → Int) (w : World) (h : DealsIn w a n f g) (hn : n ≤ c) (hc : c ≤ maxLen) :
    Calls Try.prog 6 #[.int .i64 W0, .slice a n c] w fun e w' => e = .returned (.bool true) ∧ Below w.heap.size w w' := by
  have hn63 : n ≤ 9223372036854775807 := by unfold maxLen at hc; omega
  obtain ⟨u, hu, hu0, hu1⟩ : ∃ u : Int, IntKind.u64.wrap W0 = u ∧ 0 ≤ u ∧ u ≤ 18446744073709551615 := ⟨_, rfl, by rw [IntKind.wrap_u64]; omega, by rw [IntKind.wrap_u64]; omega⟩
  go_enter Try.func6, Try.ntmps6
  go_wp2_with (go_at_call 11; refine (counts_any _).mono ?_; rintro e w1 ⟨rfl, hb1⟩)
  obtain ⟨W, hW⟩ : ∃ W, 1 + u % 32 = W := ⟨_, rfl⟩
  have hW1 : 1 ≤ W := by omega
  have hW2 : W ≤ 32 := by omega
  simp only [hW]
  clear hW hu hu0 hu1
  have hq := hb1.size
  refine (newDoors_any false 5 (by omega) (by omega) _).mono ?_
  rintro e w2 ⟨rfl, hb2, hm2, hr2⟩
  replace hb2 := hb1.trans (hb2.mono hq)
  obtain ⟨am, ham⟩ : ∃ am, w1.heap.size = am := ⟨_, rfl⟩
  rw [ham] at hm2 hr2 hq
  simp only [ham]
  clear ham hb1 w1
  have l2 := lt_row hr2
  go_wp2_with fail
  refine (newDoors_any true W hW1 hW2 _).mono ?_
  rintro e w3 ⟨rfl, hb3, hm3, hr3⟩
  replace hm2 := below_row hb3 (by omega) hm2
  replace hr2 := below_row hb3 l2 hr2
  replace hb3 := hb2.trans (hb3.mono (by omega))
  obtain ⟨bm, hbm⟩ : ∃ bm, w2.heap.size = bm := ⟨_, rfl⟩
  rw [hbm] at hm3 hr3 l2
  simp only [hbm]
  clear hbm hb2 w2
  have l3 := lt_row hr3
  go_wp2_with fail
  refine (newPurse_ok 100 (by omega) (by omega) _).mono ?_
  rintro e w4 ⟨rfl, rfl⟩
  go_wp2_with fail
  refine (newPurse_ok 100 (by omega) (by omega) _).mono ?_
  rintro e w4 ⟨rfl, rfl⟩
  obtain ⟨wz, hwz⟩ : ∃ wz, ((w3.alloc (.cells (purseC 100 100 0 0 0 0) PT)).alloc (.cells (purseC 100 100 0 0 0 0) PT)) = wz := ⟨_, rfl⟩
  have rp := heap_alloc2_old w3 (.cells (purseC 100 100 0 0 0 0) PT) (.cells (purseC 100 100 0 0 0 0) PT)
  have rq := heap_alloc2_new w3 (.cells (purseC 100 100 0 0 0 0) PT) (.cells (purseC 100 100 0 0 0 0) PT)
  have nb : Below w3.heap.size w3 ((w3.alloc (.cells (purseC 100 100 0 0 0 0) PT)).alloc (.cells (purseC 100 100 0 0 0 0) PT)) := ((Below.refl _ _).alloc (Nat.le_refl _) _).alloc (by simp) _
  have hsz : (w3.alloc (.cells (purseC 100 100 0 0 0 0) PT)).heap.size = w3.heap.size + 1 := by simp
  rw [hwz] at rp rq nb
  simp only [hwz, hsz]
  obtain ⟨pb, hpb⟩ : ∃ pb, w3.heap.size = pb := ⟨_, rfl⟩
  replace hm2 := below_row nb (by omega) hm2
  replace hr2 := below_row nb (by omega) hr2
  replace hm3 := below_row nb (by omega) hm3
  replace hr3 := below_row nb l3 hr3
  have hbz := hb3.trans (nb.mono (by omega))
  rw [hpb] at rp rq l3
  simp only [hpb]
  clear hpb nb hb3 hwz hsz w3
  have hord : w.heap.size ≤ am ∧ am < am + 1 ∧ am + 1 < bm ∧ bm < bm + 1 ∧ bm + 1 < pb ∧ pb < pb + 1 := ⟨by omega, by omega, by omega, by omega, by omega, by omega⟩
  clear l2 l3 hq
  obtain ⟨ab, hab⟩ : ∃ ab, am + 1 = ab := ⟨_, rfl⟩
  obtain ⟨bb, hbb⟩ : ∃ bb, bm + 1 = bb := ⟨_, rfl⟩
  obtain ⟨qb, hqb⟩ : ∃ qb, pb + 1 = qb := ⟨_, rfl⟩
  rw [hab] at hr2 hord
  rw [hbb] at hr3 hord
  rw [hqb] at rq hord
  simp only [hab, hbb, hqb]
  clear hab hbb hqb
  go_wp2_with fail
  refine (allowD_any ab am ⟨0, 1, 0, 0, 5, 0, 0, 5⟩ (by decide) W _ hr2).mono ?_
  rintro e wa ⟨rfl, sa⟩
  have e3 : max (0 : Int) (min W 1099511627776) = W := by omega
  have ra : wa.heap[ab]? = some (.cells (doorsC am ⟨0, 1, 0, max (0 : Int) (min W 1099511627776), 5, 0, 0, 5⟩) DT (0, 0)) := sa.row
  rw [e3] at ra
  replace hm2 := sa.keep (by omega) hm2
  replace hm3 := sa.keep (by omega) hm3
  replace hr3 := sa.keep (by omega) hr3
  replace rp := sa.keep (by omega) rp
  replace rq := sa.keep (by omega) rq
  replace hbz := hbz.trans (sa.below _ (by omega))
  clear sa e3 hr2 wz
  go_wp2_with fail
  refine (flow_allow pb 100 100 0 0 0 0 100 ⟨by omega, by omega, by omega, by omega, by omega, by omega, by omega, by omega, by omega⟩ _ rp).mono ?_
  rintro e wb ⟨rfl, sb⟩
  have rp' : wb.heap[pb]? = some (.cells (purseC 100 100 0 0 100 0) PT (0, 0)) := sb.row
  replace hm2 := sb.keep (by omega) hm2
  replace hm3 := sb.keep (by omega) hm3
  replace hr3 := sb.keep (by omega) hr3
  replace ra := sb.keep (by omega) ra
  replace rq := sb.keep (by omega) rq
  replace hbz := hbz.trans (sb.below _ (by omega))
  have I0 : Two wb am ab bm bb pb qb w.heap.size W 0 0 0 W W 100 100 0 0 (.map []) (.map []) := two_start hW1 hW2 ra hm2 hr3 hm3 rp' rq hord
  have O0 : OwnI w.heap.size (.slice none 0 0) (idsT 0 0) wb := OwnI.nil _ _ hbz.size
  clear sb rp rp' hm2 hm3 hr3 ra rq wa
  go_wp2_with fail
  have HD := Lib.hid h.2
  clear h
  go_loopw [13, 14, 15] (fun s13 s14 s15 wr => ∃ (i O T : Nat) (M C A L S U : Int) (Da Db : DataW Unit), i ≤ n ∧ i ≤ 100 ∧ s15 = .int .i64 (i : Int) ∧ s14 = .int .i64 (S - U) ∧ Two wr am ab bm bb pb qb w.heap.size W i O T M C A L S U Da Db ∧ OwnI w.heap.size s13 (idsT T O) wr ∧ Below w.heap.size w wr) (fun _ _ s15 _ => n - (intOf s15).toNat)
  case atStart => exact ⟨0, 0, 0, W, W, 100, 100, 0, 0, .map [], .map [], by omega, by omega, rfl, rfl, I0, O0, hbz⟩
  case round =>
    clear I0 O0 hbz
    obtain ⟨i, O, T, M, C, A, L, S, U, Da, Db, hi, hi100, rfl, rfl, hI, hO, bel⟩ := hrel
    obtain ⟨oa, oc, rfl⟩ := hO.slice
    have hx1 := hI.u0
    have hx2 := hI.us
    have hx3 := hI.sa
    have hx4 := hI.al
    have hx5 := hI.lu
    have hx6 := hI.to
    have hx7 := hI.oi
    have hx8 := hI.om
    have hx9 := hI.mc
    have hx10 := hI.ct
    have hx11 := hI.si
    have HI := Lib.hid hI
    have HO := Lib.hid hO
    have BEL := Lib.hid bel
    have HL := Lib.hid (idsT_len T O)
    clear hI hO bel
    obtain ⟨kk, hkk⟩ : ∃ kk, (idsT T O).length = kk := ⟨_, rfl⟩
    have hk : kk = O - T := by rw [← hkk]; exact HL.out
    have HKK := Lib.hid hkk
    simp only [hkk]
    clear hkk HL
    obtain ⟨V, hV⟩ : ∃ V, S - U = V := ⟨_, rfl⟩
    have hV0 : 0 ≤ V := by omega
    have hV1 : V ≤ 100 := by omega
    have HV := Lib.hid hV
    simp only [hV]
    clear hV
    have hkO : (kk : Int) = O - T := by omega
    clear hk
    by_cases hlt : i < n
    · have hltI : (i : Int) < (n : Int) := by omega
      by_cases h100 : i < 100
      · have h100I : (i : Int) < 100 := by omega
        obtain ⟨hg, h0 | ⟨b, off, rfl, hbl, hcell⟩⟩ := HD.out
        · omega
        have kf := (BEL.out.cell (p := ⟨b, off + i * 2, none⟩) hbl).trans (hcell i hlt).1
        have kg := (BEL.out.cell (p := ⟨b, off + i * 2 + 1, none⟩) hbl).trans (hcell i hlt).2
        clear hg hcell
        generalize g i = N at *
        obtain ⟨u, hu, hu0, hu1⟩ : ∃ u : Int, IntKind.u64.wrap N = u ∧ 0 ≤ u ∧ u ≤ 18446744073709551615 := ⟨_, rfl, by rw [IntKind.wrap_u64]; omega, by rw [IntKind.wrap_u64]; omega⟩
        by_cases hf0 : f i ≠ 1 ∧ f i ≠ 2 ∧ f i ≠ 3 ∧ f i ≠ 4
        · obtain ⟨n1, n2, n3, n4⟩ := hf0
          generalize f i = X at *
          have m1 : (X == 1) = false := by simp [n1]
          have m2 : (X == 2) = false := by simp [n2]
          have m3 : (X == 3) = false := by simp [n3]
          have m4 : (X == 4) = false := by simp [n4]
          obtain ⟨y, hy⟩ : ∃ y, u % 60 = y := ⟨_, rfl⟩
          have hy0 : 0 ≤ y := by omega
          have hy1 : y < 60 := by omega
          go_upto_region 18 with (fail)
          simp only [hy]
          clear hy hu hu0 hu1
          by_cases hmin : y ≤ A - S
          · skip
            obtain ⟨Y, hY⟩ : ∃ Y, (V + y) / 2 = Y := ⟨_, rfl⟩
            have hY0 : 0 ≤ Y := by omega
            have hY1 : Y ≤ V + y := by omega
            have HY := Lib.hid hY
            clear hY
            have hVV := HV.out
            have G1 := Lib.hid (fun (w9 : World) (t : Two w9 am ab bm bb pb qb w.heap.size W i O T M C A L S U Da Db) (o : OwnI w.heap.size (.slice oa kk oc) (idsT T O) w9) => two_pay t (by omega) o (y) (by omega) (by omega) (by omega))
            clear hVV
            go_wp2_with fail
            with_reducible refine (two_left HI.out HO.out).mono ?_
            rintro e w2 ⟨rfl, t2, o2, b2⟩
            have T2 := Lib.hid t2
            have O2 := Lib.hid o2
            have B2 := Lib.hid (BEL.out.trans b2)
            clear t2 o2 b2
            go_upto_region 20 with (fail)
            go_wp2_with fail
            refine (G1.out _ T2.out (by have h := O2.out; rw [HKK.out] at h; exact h)).mono ?_
            rintro e w3 ⟨rfl, hq⟩
            have G2 := Lib.hid hq
            clear hq
            go_wp2_with fail
            refine (G2.out).mono ?_
            rintro e w4 ⟨rfl, t4, o4, b4⟩
            have T4 := Lib.hid t4
            have O4 := Lib.hid o4
            have B4 := Lib.hid (B2.out.trans b4)
            clear t4 o4 b4
            go_wp2_with fail
            rw [HY.out]
            refine (two_use T4.out O4.out Y hY0 (by have := HV.out; omega)).mono ?_
            rintro e w5 ⟨rfl, t5, o5, b5⟩
            have T5 := Lib.hid t5
            have O5 := Lib.hid o5
            have B5 := Lib.hid (B4.out.trans b5)
            clear t5 o5 b5
            go_wp2_with fail
            go_roundw
            case rel => exact ⟨i + 1, O, T, M, C, A, L, S + (y), U + Y, _, _, by omega, by omega, by go_num, by have := HV.out; have := HY.out; congr 1; omega, T5.out, O5.out, B5.out⟩
            case measure => (simp [intOf] <;> omega)
          · skip
            obtain ⟨Y, hY⟩ : ∃ Y, (V + (A - S)) / 2 = Y := ⟨_, rfl⟩
            have hY0 : 0 ≤ Y := by omega
            have hY1 : Y ≤ V + (A - S) := by omega
            have HY := Lib.hid hY
            clear hY
            have hVV := HV.out
            have G1 := Lib.hid (fun (w9 : World) (t : Two w9 am ab bm bb pb qb w.heap.size W i O T M C A L S U Da Db) (o : OwnI w.heap.size (.slice oa kk oc) (idsT T O) w9) => two_pay t (by omega) o ((A - S)) (by omega) (by omega) (by omega))
            clear hVV
            go_wp2_with fail
            with_reducible refine (two_left HI.out HO.out).mono ?_
            rintro e w2 ⟨rfl, t2, o2, b2⟩
            have T2 := Lib.hid t2
            have O2 := Lib.hid o2
            have B2 := Lib.hid (BEL.out.trans b2)
            clear t2 o2 b2
            go_upto_region 20 with (fail)
            go_wp2_with fail
            refine (G1.out _ T2.out (by have h := O2.out; rw [HKK.out] at h; exact h)).mono ?_
            rintro e w3 ⟨rfl, hq⟩
            have G2 := Lib.hid hq
            clear hq
            go_wp2_with fail
            refine (G2.out).mono ?_
            rintro e w4 ⟨rfl, t4, o4, b4⟩
            have T4 := Lib.hid t4
            have O4 := Lib.hid o4
            have B4 := Lib.hid (B2.out.trans b4)
            clear t4 o4 b4
            go_wp2_with fail
            rw [HY.out]
            refine (two_use T4.out O4.out Y hY0 (by have := HV.out; omega)).mono ?_
            rintro e w5 ⟨rfl, t5, o5, b5⟩
            have T5 := Lib.hid t5
            have O5 := Lib.hid o5
            have B5 := Lib.hid (B4.out.trans b5)
            clear t5 o5 b5
            go_wp2_with fail
            go_roundw
            case rel => exact ⟨i + 1, O, T, M, C, A, L, S + ((A - S)), U + Y, _, _, by omega, by omega, by go_num, by have := HV.out; have := HY.out; congr 1; omega, T5.out, O5.out, B5.out⟩
            case measure => (simp [intOf] <;> omega)
        · obtain hf0 | hf0 | hf0 | hf0 : f i = 1 ∨ f i = 2 ∨ f i = 3 ∨ f i = 4 := by omega
          · rw [hf0] at kf
            by_cases hf : (O : Int) < M
            · have G1 := Lib.hid (two_open_ok HI.out (by omega) hf HO.out)
              go_wp2_with (first
                | (go_at_call 26; refine (G1.out).mono ?_; rintro e w2 ⟨rfl, hq⟩; have G2 := Lib.hid hq; clear hq)
                | (go_at_call 23; refine (G2.out).mono ?_; rintro e w3 ⟨gg, cap, rfl, hc3, ⟨Da', Db', t3⟩, o3, b3⟩; have T3 := Lib.hid t3; have O3 := Lib.hid o3; have B3 := Lib.hid b3; clear t3 o3 b3)
                | (at_builtin; refine wpList_append_ints (o := ⟨some 150, _, _, _, _, _⟩) (G := idsT T O) (H := [4 * (O : Int)]) rfl _ _ rfl rfl rfl (own_new (by have h := O3.out; rw [HKK.out] at h; exact h) (.cells #[.int .i64 (4 * (O : Int))] 3)) (src_int_new w3 (4 * (O : Int))) (by rw [idsT_len]; show O - T + 1 ≤ 1099511627776; omega) ?_; intro v' w4 o4 g4; have O4 := Lib.hid o4; have G4 := Lib.hid g4; clear o4 g4))
              have T4 := Lib.hid (two_new T3.out (.cells #[.int .i64 (4 * (O : Int))] 3))
              have T5 := Lib.hid (T4.out.grew (own_new (by have h := O3.out; rw [HKK.out] at h; exact h) _) rfl G4.out)
              have B5 : Hid (Below w.heap.size w w4) := Lib.hid (grew_below (BEL.out.trans B3.out) (by have h := O3.out; rw [HKK.out] at h; exact h) G4.out)
              have O5 := O4.out
              rw [idsT_snoc (by omega)] at O5
              go_roundw
              case rel => exact ⟨i + 1, O + 1, T, M, C, A, L, S, U, _, _, by omega, by omega, by go_num, by rw [HV.out], T5.out, O5, B5.out⟩
              case measure => (simp [intOf] <;> omega)
            · have hf2 : M ≤ O := by omega
              have G1 := Lib.hid (two_open_full HI.out (by omega) hf2 HO.out)
              go_wp2_with (go_at_call 26; refine (G1.out).mono ?_; rintro e w2 ⟨rfl, t2, o2, b2⟩; have T2 := Lib.hid t2; have O2 := Lib.hid o2; have B2 := Lib.hid b2; clear t2 o2 b2)
              go_roundw
              case rel => exact ⟨i + 1, O, T, M, C, A, L, S, U, _, _, by omega, by omega, by go_num, by rw [HV.out], T2.out, by have h := O2.out; rw [HKK.out] at h; exact h, BEL.out.trans B2.out⟩
              case measure => (simp [intOf] <;> omega)
          · rw [hf0] at kf
            by_cases hf : (O : Int) < M
            · have G1 := Lib.hid (two_open_ok HI.out (by omega) hf HO.out)
              go_wp2_with (first
                | (go_at_call 26; refine (G1.out).mono ?_; rintro e w2 ⟨rfl, hq⟩; have G2 := Lib.hid hq; clear hq)
                | (go_at_call 23; refine (G2.out).mono ?_; rintro e w3 ⟨gg, cap, rfl, hc3, ⟨Da', Db', t3⟩, o3, b3⟩; have T3 := Lib.hid t3; have O3 := Lib.hid o3; have B3 := Lib.hid b3; clear t3 o3 b3)
                | (at_builtin; refine wpList_append_ints (o := ⟨some 150, _, _, _, _, _⟩) (G := idsT T O) (H := [4 * (O : Int)]) rfl _ _ rfl rfl rfl (own_new (by have h := O3.out; rw [HKK.out] at h; exact h) (.cells #[.int .i64 (4 * (O : Int))] 3)) (src_int_new w3 (4 * (O : Int))) (by rw [idsT_len]; show O - T + 1 ≤ 1099511627776; omega) ?_; intro v' w4 o4 g4; have O4 := Lib.hid o4; have G4 := Lib.hid g4; clear o4 g4))
              have T4 := Lib.hid (two_new T3.out (.cells #[.int .i64 (4 * (O : Int))] 3))
              have T5 := Lib.hid (T4.out.grew (own_new (by have h := O3.out; rw [HKK.out] at h; exact h) _) rfl G4.out)
              have B5 : Hid (Below w.heap.size w w4) := Lib.hid (grew_below (BEL.out.trans B3.out) (by have h := O3.out; rw [HKK.out] at h; exact h) G4.out)
              have O5 := O4.out
              rw [idsT_snoc (by omega)] at O5
              go_roundw
              case rel => exact ⟨i + 1, O + 1, T, M, C, A, L, S, U, _, _, by omega, by omega, by go_num, by rw [HV.out], T5.out, O5, B5.out⟩
              case measure => (simp [intOf] <;> omega)
            · have hf2 : M ≤ O := by omega
              have G1 := Lib.hid (two_open_full HI.out (by omega) hf2 HO.out)
              go_wp2_with (go_at_call 26; refine (G1.out).mono ?_; rintro e w2 ⟨rfl, t2, o2, b2⟩; have T2 := Lib.hid t2; have O2 := Lib.hid o2; have B2 := Lib.hid b2; clear t2 o2 b2)
              go_roundw
              case rel => exact ⟨i + 1, O, T, M, C, A, L, S, U, _, _, by omega, by omega, by go_num, by rw [HV.out], T2.out, by have h := O2.out; rw [HKK.out] at h; exact h, BEL.out.trans B2.out⟩
              case measure => (simp [intOf] <;> omega)
          · rw [hf0] at kf
            by_cases hf : T < O
            · have hkp : 0 < (kk : Int) := by omega
              have G1 := Lib.hid (two_leave HI.out (by omega) hf HO.out)
              have hz0 : 0 < (idsT T O).length := by rw [idsT_len]; omega
              obtain ⟨g0, o0, rfl⟩ := own_addr HO.out hf
              have hc0 := own_first HO.out hf
              obtain ⟨v1, hrun, hown, hblk⟩ := HO.out.front (k := 1) (by omega) hz0
              have hsl : ∀ w' : World, (Instr.sliceAt 42 (.slice (some ⟨g0, o0, none⟩) kk oc) (some (.int .i64 1)) none none).run Try.prog w' = .ok v1 w' := by rw [← HKK.out]; exact hrun
              clear hrun hown hblk
              have HSL := Lib.hid hsl
              clear hsl
              go_upto_region 38 with (fail)
              go_wp2_with fail
              with_reducible refine (G1.out).mono ?_
              rintro e w2 ⟨rfl, o2, hq⟩
              have G2 := Lib.hid hq
              have O2 := Lib.hid o2
              clear hq o2
              have hd2 : w2.cell? ⟨g0, o0, none⟩ = some (.int .i64 (4 * (T : Int))) := own_first (by have h := O2.out; rw [HKK.out] at h; exact h) hf
              go_wp2_with fail
              with_reducible refine (G2.out).mono ?_
              rintro e w3 ⟨rfl, ⟨Da', Db', t3⟩, o3, b3⟩
              have T3 := Lib.hid t3
              have O3 := Lib.hid o3
              have B3 := Lib.hid b3
              clear t3 o3 b3
              go_upto_region 40 with (fail)
              have hsl := HSL.out
              go_wp2_with fail
              clear hsl
              obtain ⟨v2, hrun2, hown2, hblk2⟩ := O3.out.front (k := 1) (by omega) hz0
              have hvv : v2 = v1 := sliced_same hrun2 (by rw [HKK.out]; exact HSL.out) w3
              subst hvv
              rw [idsT_drop hf] at hown2
              go_roundw
              case rel => exact ⟨i + 1, O, T + 1, M, C, A, L, S, U, _, _, by omega, by omega, by go_num, by rw [HV.out], T3.out, hown2, BEL.out.trans B3.out⟩
              case measure => (simp [intOf] <;> omega)
            · have hk0 : (kk : Int) = 0 := by omega
              go_wp2_with fail
              go_roundw
              case rel => exact ⟨i + 1, O, T, M, C, A, L, S, U, _, _, by omega, by omega, by go_num, by rw [HV.out], HI.out.step (by omega), by have h := HO.out; rw [HKK.out] at h; exact h, BEL.out⟩
              case measure => (simp [intOf] <;> omega)
          · rw [hf0] at kf
            by_cases h1 : W ≤ C - T
            · by_cases h2 : (50 : Int) ≤ L - U
              · skip
                have G1 := Lib.hid (two_grantD HI.out HO.out (C) false (if_pos h1) (if_pos h1))
                have EL : Hid ((if (50 : Int) ≤ L - U then L else U + 100) = L) := Lib.hid (if_pos h2)
                have ET : Hid ((if (50 : Int) ≤ L - U then false else true) = false) := Lib.hid (if_pos h2)
                go_wp2_with (first
                  | (go_at_call 31; refine (G1.out).mono ?_; rintro e w2 ⟨rfl, t2, o2, b2⟩; have T2 := Lib.hid t2; have O2 := Lib.hid o2; have B2 := Lib.hid (BEL.out.trans b2); clear t2 o2 b2)
                  | (go_at_call 10; refine (two_grantP T2.out O2.out (L) false (EL.out) (ET.out)).mono ?_; rintro e w4 ⟨rfl, t4, o4, b4⟩; have T4 := Lib.hid t4; have O4 := Lib.hid o4; have B4 := Lib.hid (B2.out.trans b4); clear t4 o4 b4))
                go_roundw
                case rel => exact ⟨i + 1, O, T, M, C, A, L, S, U, _, _, by omega, by omega, by go_num, by rw [HV.out], T4.out.step (by omega), by have h := O4.out; rw [HKK.out] at h; exact h, B4.out⟩
                case measure => (simp [intOf] <;> omega)
              · skip
                have G1 := Lib.hid (two_grantD HI.out HO.out (C) false (if_pos h1) (if_pos h1))
                have EL : Hid ((if (50 : Int) ≤ L - U then L else U + 100) = U + 100) := Lib.hid (if_neg h2)
                have ET : Hid ((if (50 : Int) ≤ L - U then false else true) = true) := Lib.hid (if_neg h2)
                go_wp2_with (first
                  | (go_at_call 31; refine (G1.out).mono ?_; rintro e w2 ⟨rfl, t2, o2, b2⟩; have T2 := Lib.hid t2; have O2 := Lib.hid o2; have B2 := Lib.hid (BEL.out.trans b2); clear t2 o2 b2)
                  | (go_at_call 10; refine (two_grantP T2.out O2.out (U + 100) true (EL.out) (ET.out)).mono ?_; rintro e w4 ⟨rfl, t4, o4, b4⟩; have T4 := Lib.hid t4; have O4 := Lib.hid o4; have B4 := Lib.hid (B2.out.trans b4); clear t4 o4 b4)
                  | (go_at_call 9; refine (two_allowP T4.out O4.out (U + 100) (by omega) (by omega)).mono ?_; rintro e w5 ⟨rfl, t5, o5, b5⟩; have T5 := Lib.hid t5; have O5 := Lib.hid o5; have B5 := Lib.hid (B4.out.trans b5); clear t5 o5 b5))
                go_roundw
                case rel => exact ⟨i + 1, O, T, M, C, U + 100, U + 100, S, U, _, _, by omega, by omega, by go_num, by rw [HV.out], T5.out.step (by omega), by have h := O5.out; rw [HKK.out] at h; exact h, B5.out⟩
                case measure => (simp [intOf] <;> omega)
            · by_cases h2 : (50 : Int) ≤ L - U
              · skip
                have G1 := Lib.hid (two_grantD HI.out HO.out (T + W) true (if_neg h1) (if_neg h1))
                have EL : Hid ((if (50 : Int) ≤ L - U then L else U + 100) = L) := Lib.hid (if_pos h2)
                have ET : Hid ((if (50 : Int) ≤ L - U then false else true) = false) := Lib.hid (if_pos h2)
                go_wp2_with (first
                  | (go_at_call 31; refine (G1.out).mono ?_; rintro e w2 ⟨rfl, t2, o2, b2⟩; have T2 := Lib.hid t2; have O2 := Lib.hid o2; have B2 := Lib.hid (BEL.out.trans b2); clear t2 o2 b2)
                  | (go_at_call 22; refine (two_allowD T2.out O2.out (T + W) (by omega) (by omega)).mono ?_; rintro e w3 ⟨rfl, t3, o3, b3⟩; have T3 := Lib.hid t3; have O3 := Lib.hid o3; have B3 := Lib.hid (B2.out.trans b3); clear t3 o3 b3)
                  | (go_at_call 10; refine (two_grantP T3.out O3.out (L) false (EL.out) (ET.out)).mono ?_; rintro e w4 ⟨rfl, t4, o4, b4⟩; have T4 := Lib.hid t4; have O4 := Lib.hid o4; have B4 := Lib.hid (B3.out.trans b4); clear t4 o4 b4))
                go_roundw
                case rel => exact ⟨i + 1, O, T, T + W, T + W, A, L, S, U, _, _, by omega, by omega, by go_num, by rw [HV.out], T4.out.step (by omega), by have h := O4.out; rw [HKK.out] at h; exact h, B4.out⟩
                case measure => (simp [intOf] <;> omega)
              · skip
                have G1 := Lib.hid (two_grantD HI.out HO.out (T + W) true (if_neg h1) (if_neg h1))
                have EL : Hid ((if (50 : Int) ≤ L - U then L else U + 100) = U + 100) := Lib.hid (if_neg h2)
                have ET : Hid ((if (50 : Int) ≤ L - U then false else true) = true) := Lib.hid (if_neg h2)
                go_wp2_with (first
                  | (go_at_call 31; refine (G1.out).mono ?_; rintro e w2 ⟨rfl, t2, o2, b2⟩; have T2 := Lib.hid t2; have O2 := Lib.hid o2; have B2 := Lib.hid (BEL.out.trans b2); clear t2 o2 b2)
                  | (go_at_call 22; refine (two_allowD T2.out O2.out (T + W) (by omega) (by omega)).mono ?_; rintro e w3 ⟨rfl, t3, o3, b3⟩; have T3 := Lib.hid t3; have O3 := Lib.hid o3; have B3 := Lib.hid (B2.out.trans b3); clear t3 o3 b3)
                  | (go_at_call 10; refine (two_grantP T3.out O3.out (U + 100) true (EL.out) (ET.out)).mono ?_; rintro e w4 ⟨rfl, t4, o4, b4⟩; have T4 := Lib.hid t4; have O4 := Lib.hid o4; have B4 := Lib.hid (B3.out.trans b4); clear t4 o4 b4)
                  | (go_at_call 9; refine (two_allowP T4.out O4.out (U + 100) (by omega) (by omega)).mono ?_; rintro e w5 ⟨rfl, t5, o5, b5⟩; have T5 := Lib.hid t5; have O5 := Lib.hid o5; have B5 := Lib.hid (B4.out.trans b5); clear t5 o5 b5))
                go_roundw
                case rel => exact ⟨i + 1, O, T, T + W, T + W, U + 100, U + 100, S, U, _, _, by omega, by omega, by go_num, by rw [HV.out], T5.out.step (by omega), by have h := O5.out; rw [HKK.out] at h; exact h, B5.out⟩
                case measure => (simp [intOf] <;> omega)
      · obtain rfl : i = 100 := by omega
        go_wp2_with fail
        go_ret
        exact ⟨rfl, BEL.out⟩
    · have hltI : ¬ (i : Int) < (n : Int) := by omega
      go_wp2_with fail
      go_ret
      exact ⟨rfl, BEL.out⟩
theorem walk {H : Type} {enc : TypeId × Value → H} (w : World) (base : Nat) (v0 v1 : Value) (d0 d1 : DataW H) (p0 p1 : List MemPlace)
    (k0 : Value.okWide Try.prog w .any base 3 v0) (k1 : Value.okWide Try.prog w .any base 22 v1)
    (h0 : DataW.Trod enc Try.prog w 0 (fun _ => true) true 3 v0 d0 p0) (h1 : DataW.Trod enc Try.prog w 0 (fun _ => true) true 22 v1 d1 p1) :
    Calls Try.prog 6 #[v0, v1] w fun e w' => e = .returned (.bool true) ∧ Below w.heap.size w w' := by
  obtain ⟨W, rfl, _⟩ := open_int Try.underlying3 k0 h0
  obtain ⟨a, n, c, f, g, rfl, h, hn, hc⟩ := open_deals k1 h1
  exact law_any W a n c f g w h hn hc
set_option maxRecDepth 100000 in
theorem lifted (os : Os) (started : os.Started) (H : Type) (enc : TypeId × Value → H) :
    ReturnsInHanded {} Try.checked os 6 .any (Rows.flowTwoSpec.pre6 enc Try.prog Try.f6 Rows.flowTwoRow.domain false) (Rows.flowTwoSpec.post enc Try.prog Try.f6 false true false false) := by
  refine returnsInHanded_of_change (C := Try.checked) own started (by kernel_rfl) Try.func6
    (ChangeSpec.witness6 (enc := enc) (C := Try.checked) false ⟨#[], #[.int .i64 0, .slice none 0 0], []⟩ 8 (by kernel_rfl) (by kernel_rfl) (by kernel_rfl) (by kernel_rfl)) ?_
  intro W base args ds gs before hval0 hW hcnd _
  have hval : ∀ (j : Nat) t v, Try.f6.params[j]? = some t → args[j]? = some v → Value.okWide Try.prog W .any base t v := hval0
  have hW' := hW
  obtain ⟨p, q, hA0, hV, rfl, hfz, hnd⟩ := hW
  have hA : DataW.TrodAll enc Try.prog W 0 (fun _ => true) true Try.f6.params.toList args.toList ds p := hA0
  rw [Try.params6] at hA hval
  obtain ⟨v0, vs0, d0, ds0, p0, q0, hargs, rfl, rfl, h0, r0⟩ := trodAll_cons hA
  obtain ⟨v1, vs1, d1, ds1, p1, q1, rfl, rfl, rfl, h1, r1⟩ := trodAll_cons r0
  obtain ⟨rfl, rfl, rfl⟩ := trodAll_nil r1
  obtain rfl : args = #[v0, v1] := by cases args; simp_all
  obtain ⟨rfl, rfl⟩ := trodVars_none hV
  have k0 := h0
  have lt0 : ∀ x ∈ p0, x.block < W.heap.size := by obtain ⟨m, hm⟩ := k0; exact DataW.trod_lt m _ _ _ hm
  have k1 := h1
  have lt1 : ∀ x ∈ p1, x.block < W.heap.size := by obtain ⟨m, hm⟩ := k1; exact DataW.trod_lt m _ _ _ hm
  clear hA0 hval0
  refine (walk W base v0 v1 d0 d1 p0 p1 (hval 0 3 v0 rfl rfl) (hval 1 22 v1 rfl rfl) k0 k1).mono fun e W' ⟨he, bel⟩ => ?_
  subst he
  exact ⟨_, rfl, _, _, _, [], _, [], hW', trodAll_mk1 (shut_bool Try.underlying4 _), (trodAll_cons_mk (Below.trod laidOut (by kernel_rfl) (of_decide_eq_true (by kernel_rfl)) k0 bel lt0) (trodAll_cons_mk (Below.trod laidOut (by kernel_rfl) (of_decide_eq_true (by kernel_rfl)) k1 bel lt1) trodAll_mk0)), rfl, bel.frame _, fun h => by cases h⟩
theorem over : Rows.flowTwoRow.holds Try.pinned (OpenSpec.ofChange Rows.flowTwoSpec) :=
  OpenClaim.holds_of_wide 6 Try.f6 rfl rfl rfl rfl rfl rfl rfl ⟨rfl, rfl, rfl, rfl, rfl⟩ rfl rfl rfl rfl rfl (by kernel_rfl) Try.func6 (by kernel_rfl)
    (of_decide_eq_true (by kernel_rfl)) (by unfold Func.isWrapper; first | (rw [if_pos (by decide +kernel)]; kernel_rfl) | (rw [if_neg (by decide +kernel)]; exact ⟨rfl, rfl⟩))
    (fun os started H enc _ => lifted os started H enc)
theorem proved : Rows.FlowTwoSaid := over
end Go.Proofs.Ytjaneododongeab.flowTwo
