/-
  GcmSame holds: Same tells whether bytes are the same; keys, nonces and seals of other counts are refused. No conditions.
-/
import Derived.Test.YtpgneoodgoolpaaRows
import Derived.Test.YtpgneoodgoolpaaGcmK
import Derived.Test.YtpgneoodgoolpaaOpenB
import Derived.WalkKit
import Derived.ProofKit
import Derived.OpenShut
import Derived.ShutString
import Derived.ChangeOld
import Derived.Below
import Derived.Deep.DeepCutAuto
import Derived.Deep.Upon
import Derived.Deep.AppendSrc
namespace Go.Proofs.Ytpgneoodgoolpaa.gcmSame
open Go Go.ChangeShapes Go.WideShapes Go.ChangeAt Go.RowKit Go.BigFrame
set_option linter.unusedVariables false
theorem own : ownKnob Try.prog.godebug = none := by kernel_rfl
theorem laidOut : laidOutB Try.prog = true := by kernel_rfl
theorem conv_in (f : Nat → BitVec 8) (a : Option Addr) (m c : Nat) (w : World) (h : BytesIn w a m f) :
    (convert 27 9 (.slice a m c)).run Try.prog w = .ok (.string (strOf f m)) w := by
  rcases h.2 with rfl | ⟨b, o, rfl, _, hc⟩
  · have h1 : Try.prog.underlying 27 = some (.slice 5) := by kernel_rfl
    have h2 : Try.prog.underlying 9 = some .string := by kernel_rfl
    have h3 : Try.prog.underlying 5 = some (.int .u8) := by kernel_rfl
    cases a with
    | none =>
      simp [convert, run_underlying h1, run_underlying h2, run_underlying h3, Sem.run_bind]
      rfl
    | some x =>
      have h := run_convert_bytes_back (P := Try.prog) w 27 9 5 x c [] (by kernel_rfl) (by kernel_rfl) (by kernel_rfl) (fun j hj => by simp at hj)
      exact h
  · exact conv_str f b o m c w hc
/-- Whether two rows are the same, of any counts. -/
theorem same_all (f g : Nat → BitVec 8) (n m : Nat) : ∃ D : Bool, (strOf f n == strOf g m) = D ∧ ((strOf f n).toList == (strOf g m).toList) = D ∧
    ∀ (a a' : Option Addr) (c c' : Nat) (w : World), BytesIn w a n f → BytesIn w a' m g → Calls Try.prog 29 #[.slice a n c, .slice a' m c'] w fun e w' => e = .returned (.bool D) ∧ w = w' := by
  by_cases h : n = m
  · subst h
    refine ⟨allEq f g n, strOf_allEq f g n, strOf_list_allEq f g n, fun a a' c c' w h1 h2 => ?_⟩
    refine (same_any f g a a' n c c' w h1.1 h1 h2).mono ?_
    rintro e w' ⟨rfl, rfl⟩
    refine ⟨?_, rfl⟩
    congr 2
    rw [Bool.eq_iff_iff, beq_iff_eq, accD_zero, allEq_iff]
  · have e : (strOf f n == strOf g m) = false := by
      rw [beq_toListBytes, ByteArray.toList_eq, ByteArray.toList_eq]
      show (strL f n == strL g m) = false
      rw [beq_eq_false_iff_ne]
      intro e
      have := congrArg List.length e
      rw [strL_length, strL_length] at this
      exact h this
    exact ⟨false, e, by rw [← beq_toListBytes]; exact e, fun a a' c c' w _ _ => same_short a a' n m c c' w h⟩
set_option maxHeartbeats 8000000 in
set_option maxRecDepth 100000 in
theorem same_law (f g : Nat → BitVec 8) (a a' : Option Addr) (n c m c' : Nat) (w : World) (hx : BytesIn w a n f) (hc : n ≤ c) (hcm : c ≤ maxLen) (hy : BytesIn w a' m g) (hc' : m ≤ c') (hcm' : c' ≤ maxLen) :
    Calls Try.prog 9 #[.slice a n c, .slice a' m c'] w fun e w' => e = .returned (.bool true) ∧ Below w.heap.size w w' := by
  obtain ⟨D, hD1, hD2, hS⟩ := same_all f g n m
  have SA := Lib.hid (fun (w' : World) (hb : Below w.heap.size w w') => hS a a' c c' w' (bytesIn_later hx hb) (bytesIn_later hy hb))
  have SB := Lib.hid (fun (w' : World) (hb : Below w.heap.size w w') => (show Calls Try.prog 29 #[.slice a n c, .slice a n c] w' fun e w'' => e = .returned (.bool true) ∧ w' = w'' from
    (same_any f f a a n c c w' hx.1 (bytesIn_later hx hb) (bytesIn_later hx hb)).mono (by
      rintro e w'' ⟨rfl, rfl⟩
      refine ⟨?_, rfl⟩
      congr 2
      rw [beq_iff_eq, accD_zero]
      exact fun _ _ => rfl)))
  have T1 := Lib.hid (fun (w' : World) (hb : Below w.heap.size w w') => conv_in f a n c w' (bytesIn_later hx hb))
  have T2 := Lib.hid (fun (w' : World) (hb : Below w.heap.size w w') => conv_in g a' m c' w' (bytesIn_later hy hb))
  generalize strOf f n = S1 at *
  generalize strOf g m = S2 at *
  have HX := Lib.hid hx
  have HY := Lib.hid hy
  have HM := Lib.hid hcm
  have HM' := Lib.hid hcm'
  clear hS hx hy hcm hcm'
  go_enter Try.func9, Try.ntmps9
  by_cases h16 : n = 16
  · obtain h0 | ⟨bb, bo, rfl, hbb, hcell⟩ := HX.out.2
    · omega
    subst h16
    have N := Lib.hid (gnew_ok f bb bo c w hcell hbb)
    clear hcell hbb
    go_wp2_with fail
    refine N.out.mono ?_
    rintro e w1 ⟨p, q, rfl, hp, hb1, bx⟩
    have HB1 := Lib.hid hb1
    clear N hb1 bx hp
    go_wp2_with fail
    have KS := Lib.hid (fun (w' : World) (hb : Below w1.heap.size w1 w') => (show (Sem.run Try.prog (convert 27 9 (.slice (some ⟨bb, bo, none⟩) 16 c)) w') = .ok (.string S1) w' ∧ (Sem.run Try.prog (convert 27 9 (.slice a' m c')) w') = .ok (.string S2) w' from ⟨T1.out w' (HB1.out.trans (hb.mono HB1.out.size)), T2.out w' (HB1.out.trans (hb.mono HB1.out.size))⟩))
    have c0 := KS.out w1.drew (Below.refl _ _).drew
    go_region_held3 (fun w' => (Sem.run Try.prog (convert 27 9 (.slice (some ⟨bb, bo, none⟩) 16 c)) w') = .ok (.string S1) w' ∧ (Sem.run Try.prog (convert 27 9 (.slice a' m c')) w') = .ok (.string S2) w') (first | exact c0 | exact KS.out _ hr2)
      (first
        | (go_at_call 19; refine (sealed_any _).mono ?_; rintro e w2 ⟨rfl, hb2⟩; have hr2 := (Below.refl w1.heap.size w1).drew.trans (hb2.mono (Nat.le_refl _)))
        | (go_at_call 29; have hq := HB1.out.trans (hr2.mono HB1.out.size); have sq := SA.out _ hq; with_reducible refine sq.mono ?_; clear sq hq; rintro e w' ⟨rfl, rfl⟩)
        | (go_at_call 29; have hq := HB1.out.trans (hr2.mono HB1.out.size); have sq := SB.out _ hq; with_reducible refine sq.mono ?_; clear sq hq; rintro e w' ⟨rfl, rfl⟩)
        | fail)
    have hn12 : (16 : Nat) ≠ 12 := by omega
    have HB2 := Lib.hid (HB1.out.trans (hr2.mono HB1.out.size))
    clear KS c0 hr2 SA SB T1 T2 hb2 HB1
    have mk := run_make16
    go_wp2_with fail
    refine (new_noughts w2).mono ?_
    rintro e w3 ⟨p', q', rfl, hb3, bx⟩
    have HB3 := Lib.hid (HB2.out.trans (hb3.mono HB2.out.size))
    clear hb3 HB2 mk
    have sb := Lib.hid (gseal_bad p' q' _ _ (some ⟨bb, bo, none⟩) none none 16 c 0 0 0 0 w3 bx hn12)
    go_wp2_with fail
    with_reducible refine sb.out.mono ?_
    rintro e w' ⟨rfl, rfl⟩
    have mk := run_make16
    have bx4 := bx.later ((Below.refl w3.heap.size w3).alloc (Nat.le_refl _) (.cells (bytesArr (fun _ => 0#8) 16) 5))
    have ob := Lib.hid (gopen_bad p' q' _ _ (some ⟨bb, bo, none⟩) none (some ⟨w3.heap.size, 0, none⟩) 16 c 0 0 16 16 _ bx4 hn12)
    go_wp2_with fail
    with_reducible refine ob.out.mono ?_
    rintro e w5 ⟨rfl, rfl⟩
    have hb5 := HB3.out.alloc HB3.out.size (.cells (bytesArr (fun _ => 0#8) 16) 5)
    generalize hW : w3.alloc _ = w5 at *
    have HB5 := Lib.hid hb5
    clear mk hW hb5 bx sb ob
    have mk := run_make12
    have bx9 := bx4.later ((Below.refl w5.heap.size w5).alloc (Nat.le_refl _) (.cells (bytesArr (fun _ => 0#8) 12) 5)).drew
    have hb9 := (HB5.out.alloc HB5.out.size (.cells (bytesArr (fun _ => 0#8) 12) 5)).drew
    have HB9 := Lib.hid hb9
    clear hb9
    by_cases hl : m ≤ 15
    · have hl5 : ¬ (15 : Int) < (m : Int) := by omega
      have hl6 : (m : Int) ≤ 15 := by omega
      have su := fun w' => run_upto_b w' a' m m c' (Nat.le_refl _) hc'
      have os := Lib.hid (gopen_short p' q' _ _ (some ⟨w5.heap.size, 0, none⟩) none a' 12 0 0 m c' _ bx9 (by omega))
      clear bx9
      go_upto_region 9 with (fail)
      go_region_with (go_at_call 27; with_reducible refine os.out.mono ?_; rintro e w' ⟨rfl, rfl⟩)
      all_goals (
        clear mk su
        go_wp2_with fail
        go_ret
        exact ⟨rfl, HB9.out⟩)
    · have hl5 : (15 : Int) < (m : Int) := by omega
      have hl6 : ¬ (m : Int) ≤ 15 := by omega
      have su : ∀ w', (Instr.sliceAt 27 (.slice a' m c') none (some (.int .i64 15)) none).run Try.prog w' = .ok (.slice a' 15 c') w' := fun w' => run_upto_b w' a' 15 m c' (by omega) hc'
      have os := Lib.hid (gopen_short p' q' _ _ (some ⟨w5.heap.size, 0, none⟩) none a' 12 0 0 15 c' _ bx9 (by omega))
      clear bx9
      go_upto_region 9 with (fail)
      go_region_with (go_at_call 27; with_reducible refine os.out.mono ?_; rintro e w' ⟨rfl, rfl⟩)
      all_goals (
        clear mk su
        go_wp2_with fail
        go_ret
        exact ⟨rfl, HB9.out⟩)
  · have N := Lib.hid (gnew_bad a n c w h16)
    have k1 : ((n : Int) != 16) = true := by rw [bne_iff_ne]; omega
    have k2 : ((n : Int) == 16) = false := beq_eq_false_iff_ne.2 (by omega)
    by_cases h12 : n = 12
    · obtain h0 | ⟨bb, bo, rfl, hbb, hcell⟩ := HX.out.2
      · omega
      subst h12
      have HBB := Lib.hid hbb
      have HCE := Lib.hid hcell
      clear hbb hcell k1 k2
      go_wp2_with fail
      with_reducible refine N.out.mono ?_
      rintro e w1 ⟨rfl, rfl⟩
      have HB1 := Lib.hid (Below.refl w.heap.size w)
      clear N
      go_wp2_with fail
      have KS := Lib.hid (fun (w' : World) (hb : Below w.heap.size w w') => (show (Sem.run Try.prog (convert 27 9 (.slice (some ⟨bb, bo, none⟩) 12 c)) w') = .ok (.string S1) w' ∧ (Sem.run Try.prog (convert 27 9 (.slice a' m c')) w') = .ok (.string S2) w' from ⟨T1.out w' (HB1.out.trans (hb.mono HB1.out.size)), T2.out w' (HB1.out.trans (hb.mono HB1.out.size))⟩))
      have c0 := KS.out w.drew (Below.refl _ _).drew
      go_region_held3 (fun w' => (Sem.run Try.prog (convert 27 9 (.slice (some ⟨bb, bo, none⟩) 12 c)) w') = .ok (.string S1) w' ∧ (Sem.run Try.prog (convert 27 9 (.slice a' m c')) w') = .ok (.string S2) w') (first | exact c0 | exact KS.out _ hr2)
        (first
          | (go_at_call 19; refine (sealed_any _).mono ?_; rintro e w2 ⟨rfl, hb2⟩; have hr2 := (Below.refl w.heap.size w).drew.trans (hb2.mono (Nat.le_refl _)))
          | (go_at_call 29; have hq := HB1.out.trans (hr2.mono HB1.out.size); have sq := SA.out _ hq; with_reducible refine sq.mono ?_; clear sq hq; rintro e w' ⟨rfl, rfl⟩)
          | (go_at_call 29; have hq := HB1.out.trans (hr2.mono HB1.out.size); have sq := SB.out _ hq; with_reducible refine sq.mono ?_; clear sq hq; rintro e w' ⟨rfl, rfl⟩)
          | fail)
      have HB2 := Lib.hid (HB1.out.trans (hr2.mono HB1.out.size))
      clear KS c0 hr2 SA SB T1 T2 hb2 HB1
      have mk := run_make16
      go_wp2_with fail
      refine (new_noughts w2).mono ?_
      rintro e w3 ⟨p', q', rfl, hb3, bx⟩
      have HB3 := Lib.hid (HB2.out.trans (hb3.mono HB2.out.size))
      clear hb3 HB2 mk
      have sk := Lib.hid (gseal_ok p' q' (sched noughts) (hOf (sched noughts)) f noughts noughts bb bo c none none 0 0 0 0 w3 bx (fun i hi => by rw [HB3.out.cell (p := ⟨bb, bo + i, none⟩) HBB.out]; exact HCE.out i hi) (Nat.lt_of_lt_of_le HBB.out HB3.out.size) (in_none _ _) (Nat.le_refl _) (Nat.zero_le _) (in_none _ _) (by omega))
      go_wp2_with fail
      with_reducible refine sk.out.mono ?_
      rintro e w4 ⟨v, rfl, own, hb4⟩
      have HB4 := Lib.hid (HB3.out.trans (hb4.mono HB3.out.size))
      have bx4 := (bx.later hb4).later ((Below.refl w4.heap.size w4).alloc (Nat.le_refl _) (.cells (bytesArr (fun _ => 0#8) 16) 5))
      have hb5 := HB4.out.alloc HB4.out.size (.cells (bytesArr (fun _ => 0#8) 16) 5)
      have ok := gopen_ok p' q' (sched noughts) (hOf (sched noughts)) f noughts (fun _ => 0#8) bb bo c none (some ⟨w4.heap.size, 0, none⟩) 0 0 0 16 _ bx4 (fun i hi => by rw [hb5.cell (p := ⟨bb, bo + i, none⟩) HBB.out]; exact HCE.out i hi) (Nat.lt_of_lt_of_le HBB.out hb5.size) (in_none _ _) (Nat.le_refl _) (Nat.zero_le _) (in_row (by decide) (heap_alloc_last w4 _)) (Nat.le_refl _) (Nat.zero_le _) (by decide)
      simp only [Nat.zero_add] at ok
      have OK := Lib.hid ok
      have HB5 := Lib.hid hb5
      have Bx4 := Lib.hid bx4
      clear own hb4 bx sk ok hb5 bx4 HB4
      have mk := run_make16
      go_wp2_with fail
      with_reducible refine OK.out.mono ?_
      clear OK mk
      rintro e w6 ⟨hb6, hr⟩
      have bx6 := Bx4.out.later hb6
      have HB6 := Lib.hid (HB5.out.trans (hb6.mono HB5.out.size))
      clear hb6 HB5 Bx4
      obtain ⟨v2, k2, rfl, hk2⟩ : ∃ v2 k2, e = .returned (.tuple #[v2, .int .i64 k2]) ∧ (k2 == 1) = false := by
        rcases hr with ⟨_, r, rfl, _, _⟩ | ⟨_, rfl⟩
        · exact ⟨_, _, rfl, rfl⟩
        · exact ⟨_, _, rfl, rfl⟩
      clear hr
      go_wp2_with fail
      have mk := run_make12
      have bx9 := bx6.later ((Below.refl w6.heap.size w6).alloc (Nat.le_refl _) (.cells (bytesArr (fun _ => 0#8) 12) 5)).drew
      have hb9 := (HB6.out.alloc HB6.out.size (.cells (bytesArr (fun _ => 0#8) 12) 5)).drew
      have HB9 := Lib.hid hb9
      clear hb9
      by_cases hl : m ≤ 15
      · have hl5 : ¬ (15 : Int) < (m : Int) := by omega
        have hl6 : (m : Int) ≤ 15 := by omega
        have su := fun w' => run_upto_b w' a' m m c' (Nat.le_refl _) hc'
        have os := Lib.hid (gopen_short p' q' _ _ (some ⟨w6.heap.size, 0, none⟩) none a' 12 0 0 m c' _ bx9 (by omega))
        clear bx9
        go_upto_region 9 with (fail)
        go_region_with (go_at_call 27; with_reducible refine os.out.mono ?_; rintro e w' ⟨rfl, rfl⟩)
        all_goals (
          clear mk su
          go_wp2_with fail
          go_ret
          exact ⟨rfl, HB9.out⟩)
      · have hl5 : (15 : Int) < (m : Int) := by omega
        have hl6 : ¬ (m : Int) ≤ 15 := by omega
        have su : ∀ w', (Instr.sliceAt 27 (.slice a' m c') none (some (.int .i64 15)) none).run Try.prog w' = .ok (.slice a' 15 c') w' := fun w' => run_upto_b w' a' 15 m c' (by omega) hc'
        have os := Lib.hid (gopen_short p' q' _ _ (some ⟨w6.heap.size, 0, none⟩) none a' 12 0 0 15 c' _ bx9 (by omega))
        clear bx9
        go_upto_region 9 with (fail)
        go_region_with (go_at_call 27; with_reducible refine os.out.mono ?_; rintro e w' ⟨rfl, rfl⟩)
        all_goals (
          clear mk su
          go_wp2_with fail
          go_ret
          exact ⟨rfl, HB9.out⟩)
    · have hn12 : n ≠ 12 := h12
      have j1 : ((n : Int) != 12) = true := by rw [bne_iff_ne]; omega
      have j2 : ((n : Int) == 12) = false := beq_eq_false_iff_ne.2 (by omega)
      go_wp2_with fail
      with_reducible refine N.out.mono ?_
      rintro e w1 ⟨rfl, rfl⟩
      have HB1 := Lib.hid (Below.refl w.heap.size w)
      clear N
      go_wp2_with fail
      have KS := Lib.hid (fun (w' : World) (hb : Below w.heap.size w w') => (show (Sem.run Try.prog (convert 27 9 (.slice a n c)) w') = .ok (.string S1) w' ∧ (Sem.run Try.prog (convert 27 9 (.slice a' m c')) w') = .ok (.string S2) w' from ⟨T1.out w' (HB1.out.trans (hb.mono HB1.out.size)), T2.out w' (HB1.out.trans (hb.mono HB1.out.size))⟩))
      have c0 := KS.out w.drew (Below.refl _ _).drew
      go_region_held3 (fun w' => (Sem.run Try.prog (convert 27 9 (.slice a n c)) w') = .ok (.string S1) w' ∧ (Sem.run Try.prog (convert 27 9 (.slice a' m c')) w') = .ok (.string S2) w') (first | exact c0 | exact KS.out _ hr2)
        (first
          | (go_at_call 19; refine (sealed_any _).mono ?_; rintro e w2 ⟨rfl, hb2⟩; have hr2 := (Below.refl w.heap.size w).drew.trans (hb2.mono (Nat.le_refl _)))
          | (go_at_call 29; have hq := HB1.out.trans (hr2.mono HB1.out.size); have sq := SA.out _ hq; with_reducible refine sq.mono ?_; clear sq hq; rintro e w' ⟨rfl, rfl⟩)
          | (go_at_call 29; have hq := HB1.out.trans (hr2.mono HB1.out.size); have sq := SB.out _ hq; with_reducible refine sq.mono ?_; clear sq hq; rintro e w' ⟨rfl, rfl⟩)
          | fail)
      have HB2 := Lib.hid (HB1.out.trans (hr2.mono HB1.out.size))
      clear KS c0 hr2 SA SB T1 T2 hb2 HB1
      have mk := run_make16
      go_wp2_with fail
      refine (new_noughts w2).mono ?_
      rintro e w3 ⟨p', q', rfl, hb3, bx⟩
      have HB3 := Lib.hid (HB2.out.trans (hb3.mono HB2.out.size))
      clear hb3 HB2 mk
      have sb := Lib.hid (gseal_bad p' q' _ _ a none none n c 0 0 0 0 w3 bx hn12)
      go_wp2_with fail
      with_reducible refine sb.out.mono ?_
      rintro e w' ⟨rfl, rfl⟩
      have mk := run_make16
      have bx4 := bx.later ((Below.refl w3.heap.size w3).alloc (Nat.le_refl _) (.cells (bytesArr (fun _ => 0#8) 16) 5))
      have ob := Lib.hid (gopen_bad p' q' _ _ a none (some ⟨w3.heap.size, 0, none⟩) n c 0 0 16 16 _ bx4 hn12)
      go_wp2_with fail
      with_reducible refine ob.out.mono ?_
      rintro e w5 ⟨rfl, rfl⟩
      have hb5 := HB3.out.alloc HB3.out.size (.cells (bytesArr (fun _ => 0#8) 16) 5)
      generalize hW : w3.alloc _ = w5 at *
      have HB5 := Lib.hid hb5
      clear mk hW hb5 bx sb ob
      have mk := run_make12
      have bx9 := bx4.later ((Below.refl w5.heap.size w5).alloc (Nat.le_refl _) (.cells (bytesArr (fun _ => 0#8) 12) 5)).drew
      have hb9 := (HB5.out.alloc HB5.out.size (.cells (bytesArr (fun _ => 0#8) 12) 5)).drew
      have HB9 := Lib.hid hb9
      clear hb9
      by_cases hl : m ≤ 15
      · have hl5 : ¬ (15 : Int) < (m : Int) := by omega
        have hl6 : (m : Int) ≤ 15 := by omega
        have su := fun w' => run_upto_b w' a' m m c' (Nat.le_refl _) hc'
        have os := Lib.hid (gopen_short p' q' _ _ (some ⟨w5.heap.size, 0, none⟩) none a' 12 0 0 m c' _ bx9 (by omega))
        clear bx9
        go_upto_region 9 with (fail)
        go_region_with (go_at_call 27; with_reducible refine os.out.mono ?_; rintro e w' ⟨rfl, rfl⟩)
        all_goals (
          clear mk su
          go_wp2_with fail
          go_ret
          exact ⟨rfl, HB9.out⟩)
      · have hl5 : (15 : Int) < (m : Int) := by omega
        have hl6 : ¬ (m : Int) ≤ 15 := by omega
        have su : ∀ w', (Instr.sliceAt 27 (.slice a' m c') none (some (.int .i64 15)) none).run Try.prog w' = .ok (.slice a' 15 c') w' := fun w' => run_upto_b w' a' 15 m c' (by omega) hc'
        have os := Lib.hid (gopen_short p' q' _ _ (some ⟨w5.heap.size, 0, none⟩) none a' 12 0 0 15 c' _ bx9 (by omega))
        clear bx9
        go_upto_region 9 with (fail)
        go_region_with (go_at_call 27; with_reducible refine os.out.mono ?_; rintro e w' ⟨rfl, rfl⟩)
        all_goals (
          clear mk su
          go_wp2_with fail
          go_ret
          exact ⟨rfl, HB9.out⟩)
theorem walk {H : Type} {enc : TypeId × Value → H} (w : World) (base : Nat) (v0 v1 : Value) (d0 d1 : DataW H) (p0 p1 : List MemPlace)
    (k0 : Value.okWide Try.prog w .any base 27 v0) (k1 : Value.okWide Try.prog w .any base 27 v1)
    (h0 : DataW.Trod enc Try.prog w 0 (fun _ => true) true 27 v0 d0 p0) (h1 : DataW.Trod enc Try.prog w 0 (fun _ => true) true 27 v1 d1 p1) :
    Calls Try.prog 9 #[v0, v1] w fun e w' => e = .returned (.bool true) ∧ Below w.heap.size w w' := by
  obtain ⟨a, n, c, f, rfl, hb, hlc, hm⟩ := open_bytes k0 h0
  obtain ⟨a', m, c', g, rfl, hb', hlc', hm'⟩ := open_bytes k1 h1
  exact same_law f g a a' n c m c' w hb hlc hm hb' hlc' hm'
set_option maxRecDepth 100000 in
theorem lifted (os : Os) (started : os.Started) (H : Type) (enc : TypeId × Value → H) :
    ReturnsInHanded {} Try.checked os 9 .any (Rows.gcmSameSpec.pre6 enc Try.prog Try.f9 Rows.gcmSameRow.domain false) (Rows.gcmSameSpec.post enc Try.prog Try.f9 false true false false) := by
  refine returnsInHanded_of_change (C := Try.checked) own started (by kernel_rfl) Try.func9
    (ChangeSpec.witness6 (enc := enc) (C := Try.checked) false ⟨#[], #[.slice none 0 0, .slice none 0 0], []⟩ 8 (by kernel_rfl) (by kernel_rfl) (by kernel_rfl) (by kernel_rfl)) ?_
  intro W base args ds gs before hval0 hW hcnd _
  have hval : ∀ (j : Nat) t v, Try.f9.params[j]? = some t → args[j]? = some v → Value.okWide Try.prog W .any base t v := hval0
  have hW' := hW
  obtain ⟨p, q, hA0, hV, rfl, hfz, hnd⟩ := hW
  have hA : DataW.TrodAll enc Try.prog W 0 (fun _ => true) true Try.f9.params.toList args.toList ds p := hA0
  rw [Try.params9] at hA hval
  obtain ⟨v0, vs0, d0, ds0, p0, q0, hargs, rfl, rfl, h0, r0⟩ := trodAll_cons hA
  obtain ⟨v1, vs1, d1, ds1, p1, q1, rfl, rfl, rfl, h1, r1⟩ := trodAll_cons r0
  obtain ⟨rfl, rfl, rfl⟩ := trodAll_nil r1
  obtain rfl : args = #[v0, v1] := by cases args; simp_all
  obtain ⟨rfl, rfl⟩ := trodVars_none hV
  have k0 := h0
  have lt0 : ∀ x ∈ p0, x.block < W.heap.size := by obtain ⟨m, hm⟩ := k0; exact DataW.trod_lt m _ _ _ hm
  have k1 := h1
  have lt1 : ∀ x ∈ p1, x.block < W.heap.size := by obtain ⟨m, hm⟩ := k1; exact DataW.trod_lt m _ _ _ hm
  clear hA0 hval0
  refine (walk W base v0 v1 d0 d1 p0 p1 (hval 0 27 v0 rfl rfl) (hval 1 27 v1 rfl rfl) k0 k1).mono fun e W' ⟨he, bel⟩ => ?_
  subst he
  exact ⟨_, rfl, _, _, _, [], _, [], hW', trodAll_mk1 (shut_bool Try.underlying4 _), (trodAll_cons_mk (Below.trod laidOut (by kernel_rfl) (of_decide_eq_true (by kernel_rfl)) k0 bel lt0) (trodAll_cons_mk (Below.trod laidOut (by kernel_rfl) (of_decide_eq_true (by kernel_rfl)) k1 bel lt1) trodAll_mk0)), rfl, bel.frame _, fun h => by cases h⟩
theorem over : Rows.gcmSameRow.holds Try.pinned (OpenSpec.ofChange Rows.gcmSameSpec) :=
  OpenClaim.holds_of_wide 9 Try.f9 rfl rfl rfl rfl rfl rfl rfl ⟨rfl, rfl, rfl, rfl, rfl⟩ rfl rfl rfl rfl rfl (by kernel_rfl) Try.func9 (by kernel_rfl)
    (of_decide_eq_true (by kernel_rfl)) (by unfold Func.isWrapper; first | (rw [if_pos (by decide +kernel)]; kernel_rfl) | (rw [if_neg (by decide +kernel)]; exact ⟨rfl, rfl⟩))
    (fun os started H enc _ => lifted os started H enc)
theorem proved : Rows.GcmSameSaid := over
end Go.Proofs.Ytpgneoodgoolpaa.gcmSame
