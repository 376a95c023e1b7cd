/-
  DoqBack holds: messages that are framed by Frame of doq and fed to a reader, in pieces of any size, come back by Next, in their order, and nothing else does. No conditions.
-/
import Derived.Test.YtgblfljbfaaipaaRows
import Derived.Test.YtgblfljbfaaipaaDoqI
import Derived.WalkKit
import Derived.ProofKit
import Derived.OpenShut
import Derived.ShutString
import Derived.ChangeOld
import Derived.Below
import Derived.Deep.DeepCutAuto
import Derived.Deep.Upon
import Derived.Deep.AppendSrc
import Derived.SizedLaws
namespace Go.Proofs.Ytgblfljbfaaipaa.doqBack
open Go Go.ChangeShapes Go.WideShapes Go.ChangeAt Go.RowKit Go.BigFrame
set_option linter.unusedVariables false
theorem own : ownKnob Try.prog.godebug = none := by kernel_rfl
theorem laidOut : laidOutB Try.prog = true := by kernel_rfl
theorem size_any (x : Int) : ∃ z k : Nat, IntKind.u64.wrap x = (z : Int) ∧ z % 500 = k ∧ k < 500 := ⟨(IntKind.u64.wrap x).toNat, _, by have : 0 ≤ IntKind.u64.wrap x := by rw [wrap_n64, n64_nat]; omega
                                                                                                                                       omega, rfl, Nat.mod_lt _ (by omega)⟩
set_option maxHeartbeats 40000000 in
set_option maxRecDepth 100000 in
theorem law_any (a : Option Addr) (n c : Nat) (S : Nat → Nat → BitVec 8) (Z : Nat → Nat) (X : Int) (w : World) (h : StrsIn w a n S Z) :
    Calls Try.prog 4 #[.slice a n c, .int .i64 X] w fun e w' => e = .returned (.bool true) ∧ Below w.heap.size w w' := by
  have HD := Lib.hid h
  have BEL := Lib.hid (Below.refl w.heap.size w)
  obtain ⟨z, k, hz, hk, hk5⟩ := size_any X
  clear h
  go_enter Try.func4, Try.ntmps4
  go_upto_region 3 with (first
    | (go_at_call 7; refine (framed_any _).mono ?_; rintro e w1 ⟨rfl, T⟩; have BEL := Lib.hid (BEL.out.trans (T.mono BEL.out.size)); clear T))
  go_upto_region 4 with (fail)
  obtain ⟨K, hK⟩ : ∃ K, 1 + k = K := ⟨_, rfl⟩
  have hK1 : 1 ≤ K := by omega
  have hKI : 1 + (z : Int) % 500 = (K : Int) := by omega
  simp only [hKI]
  clear hKI hz hk hk5
  go_wp2_with fail
  go_loopw [5, 6, 7, 8, 9, 10] (fun s5 s6 s7 _ _ _ wr => ∃ i : Nat, i ≤ 20 ∧ i ≤ n ∧ s7 = .int .i64 (i : Int) ∧ s5 = .string (strOf (catTo (frL (mQ Z)) (frC (mF S) (mQ Z)) i) (lenTo (frL (mQ Z)) i)) ∧ wr.ownsRow w.heap.size 9 1 s6 i ((List.range i).map fun j => .string (strOf (mF S j) (mQ Z j))) ∧ Below w.heap.size w wr)
    (fun _ _ s7 _ _ _ _ => 20 - (intOf s7).toNat)
  case atStart => exact ⟨0, by omega, by omega, rfl, rfl, World.ownsRow_nil _ _ _ _, BEL.out⟩
  case round =>
    clear BEL
    obtain ⟨i, hi20, hin, rfl, rfl, hown, bel⟩ := hrel
    have BEL := Lib.hid bel
    have OW := Lib.hid hown
    obtain ⟨aw, cw, rfl⟩ := strs_slice hown
    clear hown bel
    by_cases hlt : i < n ∧ i < 20
    · obtain ⟨hlt, h20⟩ := hlt
      have hltI : (i : Int) < (n : Int) := by omega
      have h20I : (i : Int) < 20 := by omega
      obtain ⟨hle, h0 | ⟨bb, off, rfl, hbl, hcell⟩⟩ := HD.out
      · omega
      have k1 := (BEL.out.cell (p := ⟨bb, off + i, none⟩) hbl).trans (hcell i hlt)
      clear hcell hle
      have ez := strOf_size (S i) (Z i)
      have se := str_front (S i) (Z i) (min (Z i) 900) (if (900 : Int) < (Z i : Int) then 900 else (Z i : Int)) (by split <;> omega) (by omega)
      have es := strOf_size (S i) (min (Z i) 900)
      have em := m_str S Z i
      have hQ : mQ Z i ≤ 65535 ∧ 1 ≤ mQ Z i := by unfold mQ; omega
      have hTl : lenTo (frL (mQ Z)) i ≤ 18060 := m_len Z i hi20
      have hTl2 : lenTo (frL (mQ Z)) (i + 1) ≤ 18060 := m_len Z (i + 1) (by omega)
      have hsz : ¬ 9223372036854775807 < 1 + min (Z i) 900 := by omega
      --B
      generalize strOf (S i) (Z i) = ST at *
      generalize strOf (S i) (min (Z i) 900) = SK at *
      go_upto_region 9 with (fail)
      go_region
      clear se es em hsz k1
      obtain ⟨vz, wz, hcv, oz, bz⟩ := conv_ownZ (mF S i) (mQ Z i) (by omega) wr.drew wr.drew.heap.size (Nat.le_refl _)
      obtain ⟨az, cz, rfl, _, _, hin, _⟩ := oz.asBytes
      have bz2 : Below wr.heap.size wr wz := (Below.refl _ _).drew.trans bz
      have F1 := Lib.hid (frame_ok az (mQ Z i) cz (mF S i) hQ.1 hQ.2 wz hin)
      have BZ := Lib.hid bz2
      clear oz bz bz2 hin
      go_upto_region 11 with (go_at_call 11; refine F1.out.mono ?_; rintro e w2 ⟨v2, rfl, ho, hb⟩; have O2 := Lib.hid ho; have B2 := Lib.hid (BZ.out.trans (hb.mono BZ.out.size)); clear ho hb)
      obtain ⟨a2, c2, rfl, in2, _, _⟩ := O2.out.bytesIn
      have cv2 := conv_in _ _ _ c2 w2 in2
      have ej : strOf (catTo (frL (mQ Z)) (frC (mF S) (mQ Z)) i) (lenTo (frL (mQ Z)) i) ++ strOf (frF (mF S i) (mQ Z i)) (2 + mQ Z i) = strOf (catTo (frL (mQ Z)) (frC (mF S) (mQ Z)) (i + 1)) (lenTo (frL (mQ Z)) (i + 1)) :=
        str_join _ _ _ _ _ (fun j hj => by show _ = joinb _ _ _ j; unfold joinb; rw [if_pos hj]) (fun j hj => by show _ = joinb _ _ _ (_ + j); unfold joinb; rw [if_neg (by omega), show lenTo (frL (mQ Z)) i + j - lenTo (frL (mQ Z)) i = j by omega]; rfl)
      have ej1 := strOf_size (catTo (frL (mQ Z)) (frC (mF S) (mQ Z)) i) (lenTo (frL (mQ Z)) i)
      have ej2 := strOf_size (frF (mF S i) (mQ Z i)) (2 + mQ Z i)
      have B3 : Below w2.heap.size w2 (w2.alloc (.cells #[.string (strOf (mF S i) (mQ Z i))] 9)) := (Below.refl _ _).alloc (Nat.le_refl _) _
      have B4 := B2.out.trans (B3.mono B2.out.size)
      have ow3 := strs_kept OW.out (fun g _ hg => B4.block g hg)
      have c3 : (w2.alloc (.cells #[.string (strOf (mF S i) (mQ Z i))] 9)).cell? ⟨w2.heap.size, 0, none⟩ = some (.string (strOf (mF S i) (mQ Z i))) := by rw [cell_of_row _ _ _ _ _ _ (heap_alloc_last _ _)]; rfl
      have BEL4 := Lib.hid (BEL.out.trans (B4.mono BEL.out.size))
      have OW3 := Lib.hid ow3
      have C3 := Lib.hid c3
      have hsum : ¬ 9223372036854775807 < lenTo (frL (mQ Z)) i + (2 + mQ Z i) := by omega
      clear B3 B4 ow3 c3 in2 OW BEL F1 BZ O2 B2 hcv
      generalize hA1 : strOf (catTo (frL (mQ Z)) (frC (mF S) (mQ Z)) i) (lenTo (frL (mQ Z)) i) = A1 at *
      generalize hA2 : strOf (frF (mF S i) (mQ Z i)) (2 + mQ Z i) = A2 at *
      generalize hA3 : strOf (catTo (frL (mQ Z)) (frC (mF S) (mQ Z)) (i + 1)) (lenTo (frL (mQ Z)) (i + 1)) = A3 at *
      have HA3 := Lib.hid hA3
      clear hA1 hA2 hA3
      generalize hQi : mQ Z i = Qi at *
      have HQi := Lib.hid hQi
      clear hQi
      go_wp2_with (at_builtin; refine wpList_append_str (o := ⟨some 60, _, _, _, _, _⟩) rfl _ _ rfl rfl rfl OW3.out C3.out (by omega) BEL4.out.size ?_; intro v3 w3 ho3 hb3; have O3 := Lib.hid ho3; have B5 := Lib.hid hb3; clear ho3 hb3)
      go_roundw
      case rel =>
        have o := O3.out
        rw [← HQi.out, strs_snoc (fun j => strOf (mF S j) (mQ Z j))] at o
        exact ⟨i + 1, by omega, by omega, by go_num, congrArg Value.string HA3.out.symm, o, BEL4.out.trans B5.out⟩
      case measure => (simp [intOf] <;> omega)
    · by_cases hl2 : i < n
      · have hltI : (i : Int) < (n : Int) := by omega
        have h20I : ¬ (i : Int) < 20 := by omega
        clear HD
        generalize hN : i = N at *
        clear hN
        have HM := Lib.hid (mid_new OW.out BEL.out BEL.out.size)
        have hB5 : w.heap.size ≤ wr.heap.size := BEL.out.size
        clear OW BEL
        go_upto_region 15 with (fail)
        go_upto_region 16 with (fail)
        have hW : wr.alloc (.cells (rdC (.slice none 0 0) false) RT) = wr.alloc (.cells #[.slice none 0 0, .bool false] 37) := rfl
        rw [hW] at HM
        clear hW
        generalize wr.alloc _ = w5 at *
        generalize wr.heap.size = r at *
        obtain ⟨T, hT⟩ : ∃ T, lenTo (frL (mQ Z)) N = T := ⟨_, rfl⟩
        have HT := Lib.hid hT
        simp only [hT]
        have hTl : T ≤ 18060 := by rw [← hT]; exact m_len Z N hi20
        clear hT
        go_wp2_with fail
        go_loopw [5, 12, 13, 14, 15] (fun s5 s12 _ _ _ wr => ∃ p q v, p ≤ T ∧ q ≤ N ∧ lenTo (frL (mQ Z)) q ≤ p ∧ (q < N → p < lenTo (frL (mQ Z)) (q + 1)) ∧ s5 = .string (strOf (fun i => catTo (frL (mQ Z)) (frC (mF S) (mQ Z)) N (p + i)) (T - p)) ∧ s12 = .int .i64 (q : Int) ∧ Mid w.heap.size r S Z N q p v (.slice aw N cw) w wr)
          (fun s5 _ _ _ _ _ => szV s5)
        case atStart =>
          refine ⟨0, 0, .slice none 0 0, Nat.zero_le _, Nat.zero_le _, Nat.le_refl _, fun _ => ?_, congrArg Value.string ((strOf_eq _ _ T).2 (fun j _ => by rw [Nat.zero_add])), rfl, HM.out⟩
          show 0 < 0 + (2 + mQ Z 0)
          omega
        case round =>
          clear HM
          obtain ⟨p, q, v, hpT, hqN, hqp, hnext, rfl, rfl, hmid⟩ := hrel
          have HM := Lib.hid hmid
          clear hmid
          by_cases hp : p = T
          · have hq : q = N := by
              apply Classical.byContradiction
              intro hne
              have h1 := hnext (by omega)
              have h2 := lenTo_le (frL (mQ Z)) (show q + 1 ≤ N by omega)
              have h3 := HT.out
              omega
            subst hq
            have hz0 := str_none (fun i => catTo (frL (mQ Z)) (frC (mF S) (mQ Z)) q (p + i)) (T - p)
            rw [decide_eq_true (by omega)] at hz0
            generalize strOf (fun i => catTo (frL (mQ Z)) (frC (mF S) (mQ Z)) q (p + i)) (T - p) = AS at *
            have GE := Lib.hid (mid_end HM.out (by rw [hp]; exact HT.out.symm))
            clear hnext
            go_wp2_with (first
              | (go_at_call 9; refine GE.out.mono ?_; rintro e w6 ⟨rfl, hb6, hf6⟩; have B6 := Lib.hid hb6; have F6 := Lib.hid hf6; clear hb6 hf6)
              | (go_at_call 8; refine F6.out.mono ?_; rintro e w7 ⟨rfl, rfl⟩))
            go_ret
            exact ⟨rfl, B6.out⟩
          · have hz0 := str_none (fun i => catTo (frL (mQ Z)) (frC (mF S) (mQ Z)) N (p + i)) (T - p)
            rw [decide_eq_false (by omega)] at hz0
            have hsz := strOf_size (fun i => catTo (frL (mQ Z)) (frC (mF S) (mQ Z)) N (p + i)) (T - p)
            obtain ⟨m, hm⟩ : ∃ m, T - p = m := ⟨_, rfl⟩
            obtain ⟨k2, hk2⟩ : ∃ k2, min K m = k2 := ⟨_, rfl⟩
            rw [hm] at hz0 hsz
            have hE : (if m < K then (m : Int) else (K : Int)) = (k2 : Int) := by split <;> omega
            have hk21 : 1 ≤ k2 := by omega
            have hkm : k2 ≤ m := by omega
            have se := str_front (fun i => catTo (frL (mQ Z)) (frC (mF S) (mQ Z)) N (p + i)) m k2 (k2 : Int) rfl hkm
            have sr := str_rest (fun i => catTo (frL (mQ Z)) (frC (mF S) (mQ Z)) N (p + i)) m k2 (k2 : Int) rfl hkm
            rw [Int.toNat_natCast] at se sr
            have hrest : strOf (fun i => catTo (frL (mQ Z)) (frC (mF S) (mQ Z)) N (p + (k2 + i))) (m - k2) = strOf (fun i => catTo (frL (mQ Z)) (frC (mF S) (mQ Z)) N (p + k2 + i)) (T - (p + k2)) := by
              rw [show T - (p + k2) = m - k2 by omega]
              exact (strOf_eq _ _ _).2 (fun i _ => by rw [Nat.add_assoc])
            rw [hrest] at sr
            have GF := Lib.hid (mid_feed (k := k2) HM.out hi20 hqp (by have := HT.out; omega))
            have hpk : p + k2 ≤ T := by omega
            have HMS := Lib.hid (show T - (p + k2) < m by omega)
            rw [hm]
            clear hrest hm
            generalize strOf (fun i => catTo (frL (mQ Z)) (frC (mF S) (mQ Z)) N (p + i)) m = AS at *
            generalize strOf (fun i => catTo (frL (mQ Z)) (frC (mF S) (mQ Z)) N (p + i)) k2 = PK at *
            generalize hAR : strOf (fun i => catTo (frL (mQ Z)) (frC (mF S) (mQ Z)) N (p + k2 + i)) (T - (p + k2)) = AR at *
            have HAR := Lib.hid hAR
            have hARs : AR.size = T - (p + k2) := by rw [← hAR]; exact strOf_size _ _
            have HARS := Lib.hid hARs
            clear hAR hARs hk2
            have HNX := Lib.hid hnext
            clear hnext
            go_upto_region 19 with (fail)
            try simp only [hE]
            clear hE
            go_upto_region 21 with (go_at_call 8; refine GF.out.mono ?_; rintro e w6 ⟨rfl, v6, hm6⟩; have HM6 := Lib.hid hm6; clear hm6)
            clear GF HM
            have GN := Lib.hid (mid_heard HM6.out hi20 hqN (by omega) (by have := HT.out; omega))
            go_upto_region 22 with (fail)
            go_wp2_with (go_at_call 6; refine GN.out.mono ?_; rintro e w7 ⟨s7, o7, rfl, hh7⟩; have HH7 := Lib.hid hh7; clear hh7)
            clear GN HM6
            go_loopw [12, 14, 15] (fun s12 s14 s15 wr => ∃ (q : Nat) (s : ByteArray) (o : Bool), q ≤ N ∧ lenTo (frL (mQ Z)) q ≤ p + k2 ∧ s12 = .int .i64 (q : Int) ∧ s14 = .string s ∧ s15 = .bool o ∧ Heard w.heap.size r S Z N q (p + k2) s o (.slice aw N cw) w wr)
              (fun s12 _ _ _ => N - (intOf s12).toNat)
            case atStart => exact ⟨q, s7, o7, hqN, by omega, rfl, rfl, rfl, HH7.out⟩
            case round =>
              clear HH7
              obtain ⟨q2, s, o, hq2, hlq, rfl, rfl, rfl, v2, ⟨rfl, hqlt, hfull, rfl, hmid⟩ | ⟨rfl, hnx, hmid⟩⟩ := hrel
              · have HM2 := Lib.hid hmid
                clear hmid
                have hqI : ¬ (q2 : Int) ≥ (N : Int) := by omega
                obtain ⟨gw, cw2, ew, hcell, hgl⟩ := strs_at (f := fun j => strOf (mF S j) (mQ Z j)) HM2.out.own hqlt
                injection ew with ew1 ew2 ew3
                subst ew1 ew3
                have GN2 := Lib.hid (mid_heard HM2.out hi20 (by omega) hfull (by have := HT.out; omega))
                clear ew2 HM2
                generalize strOf (mF S q2) (mQ Z q2) = SQ at *
                go_wp2_with (go_at_call 6; refine GN2.out.mono ?_; rintro e w8 ⟨s8, o8, rfl, hh8⟩; have HH8 := Lib.hid hh8; clear hh8)
                go_roundw
                case rel => exact ⟨q2 + 1, s8, o8, by omega, hfull, by go_num, rfl, rfl, HH8.out⟩
                case measure => (simp [intOf] <;> omega)
              · have HM2 := Lib.hid hmid
                clear hmid
                go_wp2_with fail
                go_roundw
                case rel => exact ⟨p + k2, q2, v2, by omega, hq2, hlq, hnx, congrArg Value.string HAR.out.symm, rfl, HM2.out⟩
                case measure =>
                  have h1 := HARS.out
                  have h2 := HMS.out
                  show AR.size < AS.size
                  omega
      · have hltI : ¬ (i : Int) < (n : Int) := by omega
        clear HD
        generalize hN : i = N at *
        clear hN
        have HM := Lib.hid (mid_new OW.out BEL.out BEL.out.size)
        have hB5 : w.heap.size ≤ wr.heap.size := BEL.out.size
        clear OW BEL
        go_upto_region 15 with (fail)
        go_upto_region 16 with (fail)
        have hW : wr.alloc (.cells (rdC (.slice none 0 0) false) RT) = wr.alloc (.cells #[.slice none 0 0, .bool false] 37) := rfl
        rw [hW] at HM
        clear hW
        generalize wr.alloc _ = w5 at *
        generalize wr.heap.size = r at *
        obtain ⟨T, hT⟩ : ∃ T, lenTo (frL (mQ Z)) N = T := ⟨_, rfl⟩
        have HT := Lib.hid hT
        simp only [hT]
        have hTl : T ≤ 18060 := by rw [← hT]; exact m_len Z N hi20
        clear hT
        go_wp2_with fail
        go_loopw [5, 12, 13, 14, 15] (fun s5 s12 _ _ _ wr => ∃ p q v, p ≤ T ∧ q ≤ N ∧ lenTo (frL (mQ Z)) q ≤ p ∧ (q < N → p < lenTo (frL (mQ Z)) (q + 1)) ∧ s5 = .string (strOf (fun i => catTo (frL (mQ Z)) (frC (mF S) (mQ Z)) N (p + i)) (T - p)) ∧ s12 = .int .i64 (q : Int) ∧ Mid w.heap.size r S Z N q p v (.slice aw N cw) w wr)
          (fun s5 _ _ _ _ _ => szV s5)
        case atStart =>
          refine ⟨0, 0, .slice none 0 0, Nat.zero_le _, Nat.zero_le _, Nat.le_refl _, fun _ => ?_, congrArg Value.string ((strOf_eq _ _ T).2 (fun j _ => by rw [Nat.zero_add])), rfl, HM.out⟩
          show 0 < 0 + (2 + mQ Z 0)
          omega
        case round =>
          clear HM
          obtain ⟨p, q, v, hpT, hqN, hqp, hnext, rfl, rfl, hmid⟩ := hrel
          have HM := Lib.hid hmid
          clear hmid
          by_cases hp : p = T
          · have hq : q = N := by
              apply Classical.byContradiction
              intro hne
              have h1 := hnext (by omega)
              have h2 := lenTo_le (frL (mQ Z)) (show q + 1 ≤ N by omega)
              have h3 := HT.out
              omega
            subst hq
            have hz0 := str_none (fun i => catTo (frL (mQ Z)) (frC (mF S) (mQ Z)) q (p + i)) (T - p)
            rw [decide_eq_true (by omega)] at hz0
            generalize strOf (fun i => catTo (frL (mQ Z)) (frC (mF S) (mQ Z)) q (p + i)) (T - p) = AS at *
            have GE := Lib.hid (mid_end HM.out (by rw [hp]; exact HT.out.symm))
            clear hnext
            go_wp2_with (first
              | (go_at_call 9; refine GE.out.mono ?_; rintro e w6 ⟨rfl, hb6, hf6⟩; have B6 := Lib.hid hb6; have F6 := Lib.hid hf6; clear hb6 hf6)
              | (go_at_call 8; refine F6.out.mono ?_; rintro e w7 ⟨rfl, rfl⟩))
            go_ret
            exact ⟨rfl, B6.out⟩
          · have hz0 := str_none (fun i => catTo (frL (mQ Z)) (frC (mF S) (mQ Z)) N (p + i)) (T - p)
            rw [decide_eq_false (by omega)] at hz0
            have hsz := strOf_size (fun i => catTo (frL (mQ Z)) (frC (mF S) (mQ Z)) N (p + i)) (T - p)
            obtain ⟨m, hm⟩ : ∃ m, T - p = m := ⟨_, rfl⟩
            obtain ⟨k2, hk2⟩ : ∃ k2, min K m = k2 := ⟨_, rfl⟩
            rw [hm] at hz0 hsz
            have hE : (if m < K then (m : Int) else (K : Int)) = (k2 : Int) := by split <;> omega
            have hk21 : 1 ≤ k2 := by omega
            have hkm : k2 ≤ m := by omega
            have se := str_front (fun i => catTo (frL (mQ Z)) (frC (mF S) (mQ Z)) N (p + i)) m k2 (k2 : Int) rfl hkm
            have sr := str_rest (fun i => catTo (frL (mQ Z)) (frC (mF S) (mQ Z)) N (p + i)) m k2 (k2 : Int) rfl hkm
            rw [Int.toNat_natCast] at se sr
            have hrest : strOf (fun i => catTo (frL (mQ Z)) (frC (mF S) (mQ Z)) N (p + (k2 + i))) (m - k2) = strOf (fun i => catTo (frL (mQ Z)) (frC (mF S) (mQ Z)) N (p + k2 + i)) (T - (p + k2)) := by
              rw [show T - (p + k2) = m - k2 by omega]
              exact (strOf_eq _ _ _).2 (fun i _ => by rw [Nat.add_assoc])
            rw [hrest] at sr
            have GF := Lib.hid (mid_feed (k := k2) HM.out hi20 hqp (by have := HT.out; omega))
            have hpk : p + k2 ≤ T := by omega
            have HMS := Lib.hid (show T - (p + k2) < m by omega)
            rw [hm]
            clear hrest hm
            generalize strOf (fun i => catTo (frL (mQ Z)) (frC (mF S) (mQ Z)) N (p + i)) m = AS at *
            generalize strOf (fun i => catTo (frL (mQ Z)) (frC (mF S) (mQ Z)) N (p + i)) k2 = PK at *
            generalize hAR : strOf (fun i => catTo (frL (mQ Z)) (frC (mF S) (mQ Z)) N (p + k2 + i)) (T - (p + k2)) = AR at *
            have HAR := Lib.hid hAR
            have hARs : AR.size = T - (p + k2) := by rw [← hAR]; exact strOf_size _ _
            have HARS := Lib.hid hARs
            clear hAR hARs hk2
            have HNX := Lib.hid hnext
            clear hnext
            go_upto_region 19 with (fail)
            try simp only [hE]
            clear hE
            go_upto_region 21 with (go_at_call 8; refine GF.out.mono ?_; rintro e w6 ⟨rfl, v6, hm6⟩; have HM6 := Lib.hid hm6; clear hm6)
            clear GF HM
            have GN := Lib.hid (mid_heard HM6.out hi20 hqN (by omega) (by have := HT.out; omega))
            go_upto_region 22 with (fail)
            go_wp2_with (go_at_call 6; refine GN.out.mono ?_; rintro e w7 ⟨s7, o7, rfl, hh7⟩; have HH7 := Lib.hid hh7; clear hh7)
            clear GN HM6
            go_loopw [12, 14, 15] (fun s12 s14 s15 wr => ∃ (q : Nat) (s : ByteArray) (o : Bool), q ≤ N ∧ lenTo (frL (mQ Z)) q ≤ p + k2 ∧ s12 = .int .i64 (q : Int) ∧ s14 = .string s ∧ s15 = .bool o ∧ Heard w.heap.size r S Z N q (p + k2) s o (.slice aw N cw) w wr)
              (fun s12 _ _ _ => N - (intOf s12).toNat)
            case atStart => exact ⟨q, s7, o7, hqN, by omega, rfl, rfl, rfl, HH7.out⟩
            case round =>
              clear HH7
              obtain ⟨q2, s, o, hq2, hlq, rfl, rfl, rfl, v2, ⟨rfl, hqlt, hfull, rfl, hmid⟩ | ⟨rfl, hnx, hmid⟩⟩ := hrel
              · have HM2 := Lib.hid hmid
                clear hmid
                have hqI : ¬ (q2 : Int) ≥ (N : Int) := by omega
                obtain ⟨gw, cw2, ew, hcell, hgl⟩ := strs_at (f := fun j => strOf (mF S j) (mQ Z j)) HM2.out.own hqlt
                injection ew with ew1 ew2 ew3
                subst ew1 ew3
                have GN2 := Lib.hid (mid_heard HM2.out hi20 (by omega) hfull (by have := HT.out; omega))
                clear ew2 HM2
                generalize strOf (mF S q2) (mQ Z q2) = SQ at *
                go_wp2_with (go_at_call 6; refine GN2.out.mono ?_; rintro e w8 ⟨s8, o8, rfl, hh8⟩; have HH8 := Lib.hid hh8; clear hh8)
                go_roundw
                case rel => exact ⟨q2 + 1, s8, o8, by omega, hfull, by go_num, rfl, rfl, HH8.out⟩
                case measure => (simp [intOf] <;> omega)
              · have HM2 := Lib.hid hmid
                clear hmid
                go_wp2_with fail
                go_roundw
                case rel => exact ⟨p + k2, q2, v2, by omega, hq2, hlq, hnx, congrArg Value.string HAR.out.symm, rfl, HM2.out⟩
                case measure =>
                  have h1 := HARS.out
                  have h2 := HMS.out
                  show AR.size < AS.size
                  omega
theorem walk {H : Type} {enc : TypeId × Value → H} (w : World) (base : Nat) (v0 v1 : Value) (d0 d1 : DataW H) (p0 p1 : List MemPlace)
    (k0 : Value.okWide Try.prog w .any base 44 v0) (k1 : Value.okWide Try.prog w .any base 3 v1)
    (h0 : DataW.Trod enc Try.prog w 0 (fun _ => true) true 44 v0 d0 p0) (h1 : DataW.Trod enc Try.prog w 0 (fun _ => true) true 3 v1 d1 p1) :
    Calls Try.prog 4 #[v0, v1] w fun e w' => e = .returned (.bool true) ∧ Below w.heap.size w w' := by
  obtain ⟨a, n, c, S, Z, rfl, h, _, _⟩ := open_strs k0 h0
  obtain ⟨x, rfl, rfl, rfl, wx⟩ := open_int Try.underlying3 k1 h1
  exact law_any a n c S Z x w h
set_option maxRecDepth 100000 in
theorem lifted (os : Os) (started : os.Started) (H : Type) (enc : TypeId × Value → H) :
    ReturnsInHanded {} Try.checked os 4 .any (Rows.doqBackSpec.pre6 enc Try.prog Try.f4 Rows.doqBackRow.domain false) (Rows.doqBackSpec.post enc Try.prog Try.f4 false true false false) := by
  refine returnsInHanded_of_change (C := Try.checked) own started (by kernel_rfl) Try.func4
    (ChangeSpec.witness6 (enc := enc) (C := Try.checked) false ⟨#[], #[.slice none 0 0, .int .i64 0], []⟩ 8 (by kernel_rfl) (by kernel_rfl) (by kernel_rfl) (by kernel_rfl)) ?_
  intro W base args ds gs before hval0 hW hcnd _
  have hval : ∀ (j : Nat) t v, Try.f4.params[j]? = some t → args[j]? = some v → Value.okWide Try.prog W .any base t v := hval0
  have hW' := hW
  obtain ⟨p, q, hA0, hV, rfl, hfz, hnd⟩ := hW
  have hA : DataW.TrodAll enc Try.prog W 0 (fun _ => true) true Try.f4.params.toList args.toList ds p := hA0
  rw [Try.params4] at hA hval
  obtain ⟨v0, vs0, d0, ds0, p0, q0, hargs, rfl, rfl, h0, r0⟩ := trodAll_cons hA
  obtain ⟨v1, vs1, d1, ds1, p1, q1, rfl, rfl, rfl, h1, r1⟩ := trodAll_cons r0
  obtain ⟨rfl, rfl, rfl⟩ := trodAll_nil r1
  obtain rfl : args = #[v0, v1] := by cases args; simp_all
  obtain ⟨rfl, rfl⟩ := trodVars_none hV
  have k0 := h0
  have lt0 : ∀ x ∈ p0, x.block < W.heap.size := by obtain ⟨m, hm⟩ := k0; exact DataW.trod_lt m _ _ _ hm
  have k1 := h1
  have lt1 : ∀ x ∈ p1, x.block < W.heap.size := by obtain ⟨m, hm⟩ := k1; exact DataW.trod_lt m _ _ _ hm
  clear hA0 hval0
  refine (walk W base v0 v1 d0 d1 p0 p1 (hval 0 44 v0 rfl rfl) (hval 1 3 v1 rfl rfl) k0 k1).mono fun e W' ⟨he, bel⟩ => ?_
  subst he
  exact ⟨_, rfl, _, _, _, [], _, [], hW', trodAll_mk1 (shut_bool Try.underlying4 _), (trodAll_cons_mk (Below.trod laidOut (by kernel_rfl) (of_decide_eq_true (by kernel_rfl)) k0 bel lt0) (trodAll_cons_mk (Below.trod laidOut (by kernel_rfl) (of_decide_eq_true (by kernel_rfl)) k1 bel lt1) trodAll_mk0)), rfl, bel.frame _, fun h => by cases h⟩
theorem over : Rows.doqBackRow.holds Try.pinned (OpenSpec.ofChange Rows.doqBackSpec) :=
  OpenClaim.holds_of_wide 4 Try.f4 rfl rfl rfl rfl rfl rfl rfl ⟨rfl, rfl, rfl, rfl, rfl⟩ rfl rfl rfl rfl rfl (by kernel_rfl) Try.func4 (by kernel_rfl)
    (of_decide_eq_true (by kernel_rfl)) (by unfold Func.isWrapper; first | (rw [if_pos (by decide +kernel)]; kernel_rfl) | (rw [if_neg (by decide +kernel)]; exact ⟨rfl, rfl⟩))
    (fun os started H enc _ => lifted os started H enc)
theorem proved : Rows.DoqBackSaid := over
end Go.Proofs.Ytgblfljbfaaipaa.doqBack
