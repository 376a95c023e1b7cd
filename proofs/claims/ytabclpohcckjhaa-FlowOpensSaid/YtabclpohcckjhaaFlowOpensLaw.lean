/-
  FlowOpens holds: one's own streams have numbers four apart, from 0 or 1 on, as many as one may; each is through once. No conditions.
-/
import Derived.Test.YtabclpohcckjhaaRows
import Derived.Test.YtabclpohcckjhaaFlowE
import Derived.WalkKit
import Derived.ProofKit
import Derived.OpenShut
import Derived.ShutString
import Derived.ChangeOld
import Derived.Below
import Derived.Deep.DeepCutAuto
import Derived.Deep.Upon
import Derived.Deep.AppendSrc
import Derived.SizedLaws
namespace Go.Proofs.Ytabclpohcckjhaa.flowOpens
open Go Go.ChangeShapes Go.WideShapes Go.ChangeAt Go.RowKit Go.BigFrame
set_option linter.unusedVariables false
theorem own : ownKnob Try.prog.godebug = none := by kernel_rfl
theorem laidOut : laidOutB Try.prog = true := by kernel_rfl
open Go.Maps
set_option maxHeartbeats 40000000 in
set_option maxRecDepth 100000 in
theorem law_any (srv : Bool) (may : Int) (w : World) :
    Calls Try.prog 7 #[.bool srv, .int .i64 may] w fun e w' => e = .returned (.bool true) ∧ Below w.heap.size w w' := by
  obtain ⟨u, hu, hu0, hu1⟩ : ∃ u : Int, IntKind.u64.wrap may = u ∧ 0 ≤ u ∧ u ≤ 18446744073709551615 := ⟨_, rfl, by rw [IntKind.wrap_u64]; omega, by rw [IntKind.wrap_u64]; omega⟩
  have hy0 : 0 ≤ u % 100 := by omega
  have hy1 : u % 100 < 100 := by omega
  go_enter Try.func7, Try.ntmps7
  cases srv
  · skip
    go_wp2_with fail
    refine (counts_any _).mono ?_
    rintro e w1 ⟨rfl, hb1⟩
    go_wp2_with fail
    generalize hy : u % 100 = y at *
    clear hy hu hu0 hu1
    have hq := hb1.size
    refine (newDoors_any false 3 (by omega) (by omega) _).mono ?_
    rintro e w2 ⟨rfl, hb2, hm2, hr2⟩
    have hbel := hb1.trans (hb2.mono hq)
    have A2 : DoorsAt w2 (w1.heap.size + 1) w1.heap.size 0 ⟨0, 1, 0, 0, 3, 0, 0, 3⟩ (.map []) := ⟨hr2, owns_empty hm2, by omega⟩
    clear hm2 hr2 hb1 hb2
    generalize w1.heap.size = A at *
    clear w1
    go_wp2_with fail
    refine (allowD_any (A + 1) A ⟨0, 1, 0, 0, 3, 0, 0, 3⟩ (by first | decide | (simp; done) | (simp; omega)) y _ A2.row).mono ?_
    rintro e w3 ⟨rfl, s3⟩
    have e3 : max (0 : Int) (min y 1099511627776) = y := by omega
    have r3 : w3.heap[A + 1]? = some (.cells (doorsC A ⟨0, 1, 0, max (0 : Int) (min y 1099511627776), 3, 0, 0, 3⟩) DT (0, 0)) := s3.row
    rw [e3] at r3
    have m3 := owns_heap A2.map (s3.other A (by omega))
    have hbel := hbel.trans (s3.below _ (by omega))
    clear s3 A2
    go_wp2_with fail
    refine (allowD_any (A + 1) A ⟨0, 1, 0, y, 3, 0, 0, 3⟩ (by first | decide | (simp; done) | (simp; omega)) _ _ r3).mono ?_
    rintro e w4 ⟨rfl, s4⟩
    have e4 : max y (min (y / 2) 1099511627776) = y := by omega
    have r4 : w4.heap[A + 1]? = some (.cells (doorsC A ⟨0, 1, 0, max y (min (y / 2) 1099511627776), 3, 0, 0, 3⟩) DT (0, 0)) := s4.row
    rw [e4] at r4
    have m4 := owns_heap m3 (s4.other A (by omega))
    have hbel := hbel.trans (s4.below _ (by omega))
    clear s4 r3 m3 e3 e4
    go_wp2_with fail
    go_loopw [8] (fun s wr => ∃ (i : Nat) (D : DataW Unit), (i : Int) ≤ y ∧ s = .int .i64 (i : Int) ∧ DoorsAt wr (A + 1) A i ⟨0, 1, (i : Int), y, 3, 0, 0, 3⟩ D ∧ (∀ x : Int, Maps.has D (.int .i64 x) = true ↔ ∃ t : Nat, t < i ∧ x = 4 * (t : Int) + 0) ∧ Below w.heap.size w wr) (fun s _ => (y - intOf s).toNat)
    case atStart => exact ⟨0, .map [], by omega, rfl, ⟨r4, m4, by omega⟩, fun x => ⟨fun h => by simp [Maps.has] at h, fun ⟨t, ht, _⟩ => by omega⟩, hbel⟩
    case round =>
      clear r4 m4 hbel
      obtain ⟨i, D, hi, rfl, hA, hD, bel⟩ := hrel
      have HD := Lib.hid hD
      clear hD
      by_cases hlt : (i : Int) < y
      · go_wp2_with fail
        refine (open_ok (A + 1) A i ⟨0, 1, (i : Int), y, 3, 0, 0, 3⟩ D (by first | decide | (simp; done) | (simp; omega)) hlt (by simp) (by simp; omega) (by first | decide | (simp; done) | (simp; omega)) (by first | decide | (simp; done) | (simp; omega)) (by omega) _ hA).mono ?_
        rintro e w5 ⟨rfl, hA5, T5⟩
        have hA5 : DoorsAt w5 (A + 1) A (i + 1) ⟨0, 1, (i : Int) + 1, y, 3, 0, 0, 3⟩ (D.put (.int .i64 (4 * (i : Int) + 0)) (.agg [])) := hA5
        have HP : Hid (∀ x : Int, Maps.has (D.put (.int .i64 (4 * (i : Int) + 0)) (.agg [])) (.int .i64 x) = true ↔ ∃ t : Nat, t < i + 1 ∧ x = 4 * (t : Int) + 0) := Lib.hid (fun x => by
          rw [has_put D hA.map.isMap _ _ (by omega), HD.out x]
          constructor
          · rintro (h | ⟨t, ht, h⟩)
            · exact ⟨i, by omega, h⟩
            · exact ⟨t, by omega, h⟩
          · rintro ⟨t, ht, h⟩
            by_cases e : t = i
            · subst e; exact .inl h
            · exact .inr ⟨t, by omega, h⟩)
        have bel5 := bel.trans (T5.below _ (by omega) (by omega))
        clear hA T5 bel HD
        go_wp2_with fail
        refine (come_own (A + 1) A ⟨0, 1, (i : Int) + 1, y, 3, 0, 0, 3⟩ _ (by omega) (by omega) (by first | decide | (simp; done) | (simp; omega)) (by simp; try omega) (by simp; try omega) _ hA5.row).mono ?_
        rintro e w6 ⟨rfl, rfl⟩
        go_wp2_with fail
        refine (leave_miss (A + 1) A (i + 1) ⟨0, 1, (i : Int) + 1, y, 3, 0, 0, 3⟩ _ _ (by first | decide | (simp; done) | (simp; omega)) (by omega) (by omega) (by
          rw [← Bool.not_eq_true, HP.out]
          rintro ⟨t, ht, h⟩
          omega) _ hA5).mono ?_
        rintro e w7 ⟨rfl, hA7, T7⟩
        have bel7 := bel5.trans (T7.below _ (by omega) (by omega))
        clear hA5 T7 bel5
        go_wp2_with fail
        go_roundw
        case rel => exact ⟨i + 1, _, by omega, by go_num, hA7, HP.out, bel7⟩
        case measure => (simp [intOf] <;> omega)
      · obtain rfl : y = (i : Int) := by omega
        go_wp2_with fail
        refine (open_full (A + 1) A ⟨0, 1, (i : Int), (i : Int), 3, 0, 0, 3⟩ (by first | decide | (simp; done) | (simp; omega)) (by simp) _ hA.row).mono ?_
        rintro e w5 ⟨rfl, s5⟩
        have r5 := s5.row
        have m5 := owns_heap hA.map (s5.other A (by omega))
        have bel5 := bel.trans (s5.below _ (by omega))
        have HM : Hid (∀ x : Int, Maps.has D (.int .i64 x) = true ↔ ∃ t : Nat, 0 ≤ t ∧ t < i ∧ x = 4 * (t : Int) + 0) := Lib.hid (fun x => by rw [HD.out x]; simp)
        clear s5 hA bel HD
        go_wp2_with fail
        go_loopw [15] (fun s wr => ∃ (j : Nat) (D : DataW Unit), j ≤ i ∧ s = .int .i64 (j : Int) ∧ DoorsAt wr (A + 1) A i ⟨0, 1, (i : Int), (i : Int), 3, 0, 0, 3⟩ D ∧ (∀ x : Int, Maps.has D (.int .i64 x) = true ↔ ∃ t : Nat, j ≤ t ∧ t < i ∧ x = 4 * (t : Int) + 0) ∧ Below w.heap.size w wr) (fun s _ => i - (intOf s).toNat)
        case atStart => exact ⟨0, D, by omega, rfl, ⟨r5, m5, by omega⟩, HM.out, bel5⟩
        case round =>
          clear r5 m5 bel5 HM D
          obtain ⟨j, D, hj, rfl, hA, hD, bel⟩ := hrel
          have HD := Lib.hid hD
          clear hD
          by_cases hlj : j < i
          · have hljI : (j : Int) < (i : Int) := by omega
            go_wp2_with fail
            refine (leave_hit (A + 1) A i ⟨0, 1, (i : Int), (i : Int), 3, 0, 0, 3⟩ D _ (by first | decide | (simp; done) | (simp; omega)) (by first | decide | (simp; done) | (simp; omega)) (by first | decide | (simp; done) | (simp; omega)) (by omega) (by omega) (by
              rw [HD.out]
              exact ⟨j, by omega, by omega, by omega⟩) _ hA).mono ?_
            rintro e w6 ⟨rfl, hA6, T6⟩
            have hA6 : DoorsAt w6 (A + 1) A i ⟨0, 1, (i : Int), (i : Int), 3, 0, (if (4 * (j : Int)) % 4 = (1 : Int) then (0 : Int) + 1 else 0), 3⟩ (D.del (.int .i64 (4 * (j : Int)))) := hA6
            have e6 : ¬ (4 * (j : Int)) % 4 = (1 : Int) := by omega
            have hA8 : DoorsAt w6 (A + 1) A i ⟨0, 1, (i : Int), (i : Int), 3, 0, 0, 3⟩ (D.del (.int .i64 (4 * (j : Int)))) := by
              have h := hA6
              rw [if_neg e6] at h
              exact h
            have HE : Hid (∀ x : Int, Maps.has (D.del (.int .i64 (4 * (j : Int)))) (.int .i64 x) = true ↔ ∃ t : Nat, j + 1 ≤ t ∧ t < i ∧ x = 4 * (t : Int) + 0) := Lib.hid (fun x => by
              rw [has_del D _ _, HD.out x]
              constructor
              · rintro ⟨hx, t, h1, h2, h3⟩
                exact ⟨t, by
                  have : t ≠ j := fun e => by subst e; omega
                  omega, h2, h3⟩
              · rintro ⟨t, h1, h2, h3⟩
                exact ⟨by omega, t, by omega, h2, h3⟩)
            have bel6 := bel.trans (T6.below _ (by omega) (by omega))
            clear hA T6 bel HD e6
            go_wp2_with fail
            refine (leave_miss (A + 1) A i ⟨0, 1, (i : Int), (i : Int), 3, 0, 0, 3⟩ _ _ (by first | decide | (simp; done)) (by omega) (by omega) (by
              rw [← Bool.not_eq_true, HE.out]
              rintro ⟨t, h1, h2, h3⟩
              omega) _ hA8).mono ?_
            rintro e w7 ⟨rfl, hA7, T7⟩
            have bel7 := bel6.trans (T7.below _ (by omega) (by omega))
            clear hA6 hA8 T7 bel6
            go_wp2_with fail
            go_roundw
            case rel => exact ⟨j + 1, _, by omega, by go_num, hA7, HE.out, bel7⟩
            case measure => (simp [intOf] <;> omega)
          · obtain rfl : j = i := by omega
            go_wp2_with fail
            have G := grantD_any (A + 1) A ⟨0, 1, (j : Int), (j : Int), 3, 0, 0, 3⟩ (by first | decide | (simp; done) | (simp; omega)) (by first | decide | (simp; done) | (simp; omega)) (by first | decide | (simp; done) | (simp; omega)) (by first | decide | (simp; done) | (simp; omega)) (by first | decide | (simp; done) | (simp; omega)) (by first | decide | (simp; done) | (simp; omega)) _ hA.row
            have hc3 : (3 : Int) ≤ 3 - 0 := by decide
            dsimp only at G
            rw [if_pos hc3, if_pos hc3] at G
            refine G.mono ?_
            rintro e w6 ⟨rfl, s6⟩
            go_wp2_with fail
            go_ret
            exact ⟨rfl, bel.trans (s6.below _ (by omega))⟩
  · skip
    go_wp2_with fail
    refine (counts_any _).mono ?_
    rintro e w1 ⟨rfl, hb1⟩
    go_wp2_with fail
    generalize hy : u % 100 = y at *
    clear hy hu hu0 hu1
    have hq := hb1.size
    refine (newDoors_any true 3 (by omega) (by omega) _).mono ?_
    rintro e w2 ⟨rfl, hb2, hm2, hr2⟩
    have hbel := hb1.trans (hb2.mono hq)
    have A2 : DoorsAt w2 (w1.heap.size + 1) w1.heap.size 0 ⟨1, 0, 0, 0, 3, 0, 0, 3⟩ (.map []) := ⟨hr2, owns_empty hm2, by omega⟩
    clear hm2 hr2 hb1 hb2
    generalize w1.heap.size = A at *
    clear w1
    go_wp2_with fail
    refine (allowD_any (A + 1) A ⟨1, 0, 0, 0, 3, 0, 0, 3⟩ (by first | decide | (simp; done) | (simp; omega)) y _ A2.row).mono ?_
    rintro e w3 ⟨rfl, s3⟩
    have e3 : max (0 : Int) (min y 1099511627776) = y := by omega
    have r3 : w3.heap[A + 1]? = some (.cells (doorsC A ⟨1, 0, 0, max (0 : Int) (min y 1099511627776), 3, 0, 0, 3⟩) DT (0, 0)) := s3.row
    rw [e3] at r3
    have m3 := owns_heap A2.map (s3.other A (by omega))
    have hbel := hbel.trans (s3.below _ (by omega))
    clear s3 A2
    go_wp2_with fail
    refine (allowD_any (A + 1) A ⟨1, 0, 0, y, 3, 0, 0, 3⟩ (by first | decide | (simp; done) | (simp; omega)) _ _ r3).mono ?_
    rintro e w4 ⟨rfl, s4⟩
    have e4 : max y (min (y / 2) 1099511627776) = y := by omega
    have r4 : w4.heap[A + 1]? = some (.cells (doorsC A ⟨1, 0, 0, max y (min (y / 2) 1099511627776), 3, 0, 0, 3⟩) DT (0, 0)) := s4.row
    rw [e4] at r4
    have m4 := owns_heap m3 (s4.other A (by omega))
    have hbel := hbel.trans (s4.below _ (by omega))
    clear s4 r3 m3 e3 e4
    go_wp2_with fail
    go_loopw [8] (fun s wr => ∃ (i : Nat) (D : DataW Unit), (i : Int) ≤ y ∧ s = .int .i64 (i : Int) ∧ DoorsAt wr (A + 1) A i ⟨1, 0, (i : Int), y, 3, 0, 0, 3⟩ D ∧ (∀ x : Int, Maps.has D (.int .i64 x) = true ↔ ∃ t : Nat, t < i ∧ x = 4 * (t : Int) + 1) ∧ Below w.heap.size w wr) (fun s _ => (y - intOf s).toNat)
    case atStart => exact ⟨0, .map [], by omega, rfl, ⟨r4, m4, by omega⟩, fun x => ⟨fun h => by simp [Maps.has] at h, fun ⟨t, ht, _⟩ => by omega⟩, hbel⟩
    case round =>
      clear r4 m4 hbel
      obtain ⟨i, D, hi, rfl, hA, hD, bel⟩ := hrel
      have HD := Lib.hid hD
      clear hD
      by_cases hlt : (i : Int) < y
      · go_wp2_with fail
        refine (open_ok (A + 1) A i ⟨1, 0, (i : Int), y, 3, 0, 0, 3⟩ D (by first | decide | (simp; done) | (simp; omega)) hlt (by simp) (by simp; omega) (by first | decide | (simp; done) | (simp; omega)) (by first | decide | (simp; done) | (simp; omega)) (by omega) _ hA).mono ?_
        rintro e w5 ⟨rfl, hA5, T5⟩
        have hA5 : DoorsAt w5 (A + 1) A (i + 1) ⟨1, 0, (i : Int) + 1, y, 3, 0, 0, 3⟩ (D.put (.int .i64 (4 * (i : Int) + 1)) (.agg [])) := hA5
        have HP : Hid (∀ x : Int, Maps.has (D.put (.int .i64 (4 * (i : Int) + 1)) (.agg [])) (.int .i64 x) = true ↔ ∃ t : Nat, t < i + 1 ∧ x = 4 * (t : Int) + 1) := Lib.hid (fun x => by
          rw [has_put D hA.map.isMap _ _ (by omega), HD.out x]
          constructor
          · rintro (h | ⟨t, ht, h⟩)
            · exact ⟨i, by omega, h⟩
            · exact ⟨t, by omega, h⟩
          · rintro ⟨t, ht, h⟩
            by_cases e : t = i
            · subst e; exact .inl h
            · exact .inr ⟨t, by omega, h⟩)
        have bel5 := bel.trans (T5.below _ (by omega) (by omega))
        clear hA T5 bel HD
        go_wp2_with fail
        refine (come_own (A + 1) A ⟨1, 0, (i : Int) + 1, y, 3, 0, 0, 3⟩ _ (by omega) (by omega) (by first | decide | (simp; done) | (simp; omega)) (by simp; try omega) (by simp; try omega) _ hA5.row).mono ?_
        rintro e w6 ⟨rfl, rfl⟩
        go_wp2_with fail
        refine (leave_miss (A + 1) A (i + 1) ⟨1, 0, (i : Int) + 1, y, 3, 0, 0, 3⟩ _ _ (by first | decide | (simp; done) | (simp; omega)) (by omega) (by omega) (by
          rw [← Bool.not_eq_true, HP.out]
          rintro ⟨t, ht, h⟩
          omega) _ hA5).mono ?_
        rintro e w7 ⟨rfl, hA7, T7⟩
        have bel7 := bel5.trans (T7.below _ (by omega) (by omega))
        clear hA5 T7 bel5
        go_wp2_with fail
        go_roundw
        case rel => exact ⟨i + 1, _, by omega, by go_num, hA7, HP.out, bel7⟩
        case measure => (simp [intOf] <;> omega)
      · obtain rfl : y = (i : Int) := by omega
        go_wp2_with fail
        refine (open_full (A + 1) A ⟨1, 0, (i : Int), (i : Int), 3, 0, 0, 3⟩ (by first | decide | (simp; done) | (simp; omega)) (by simp) _ hA.row).mono ?_
        rintro e w5 ⟨rfl, s5⟩
        have r5 := s5.row
        have m5 := owns_heap hA.map (s5.other A (by omega))
        have bel5 := bel.trans (s5.below _ (by omega))
        have HM : Hid (∀ x : Int, Maps.has D (.int .i64 x) = true ↔ ∃ t : Nat, 0 ≤ t ∧ t < i ∧ x = 4 * (t : Int) + 1) := Lib.hid (fun x => by rw [HD.out x]; simp)
        clear s5 hA bel HD
        go_wp2_with fail
        go_loopw [15] (fun s wr => ∃ (j : Nat) (D : DataW Unit), j ≤ i ∧ s = .int .i64 (j : Int) ∧ DoorsAt wr (A + 1) A i ⟨1, 0, (i : Int), (i : Int), 3, 0, 0, 3⟩ D ∧ (∀ x : Int, Maps.has D (.int .i64 x) = true ↔ ∃ t : Nat, j ≤ t ∧ t < i ∧ x = 4 * (t : Int) + 1) ∧ Below w.heap.size w wr) (fun s _ => i - (intOf s).toNat)
        case atStart => exact ⟨0, D, by omega, rfl, ⟨r5, m5, by omega⟩, HM.out, bel5⟩
        case round =>
          clear r5 m5 bel5 HM D
          obtain ⟨j, D, hj, rfl, hA, hD, bel⟩ := hrel
          have HD := Lib.hid hD
          clear hD
          by_cases hlj : j < i
          · have hljI : (j : Int) < (i : Int) := by omega
            go_wp2_with fail
            refine (leave_hit (A + 1) A i ⟨1, 0, (i : Int), (i : Int), 3, 0, 0, 3⟩ D _ (by first | decide | (simp; done) | (simp; omega)) (by first | decide | (simp; done) | (simp; omega)) (by first | decide | (simp; done) | (simp; omega)) (by omega) (by omega) (by
              rw [HD.out]
              exact ⟨j, by omega, by omega, by omega⟩) _ hA).mono ?_
            rintro e w6 ⟨rfl, hA6, T6⟩
            have hA6 : DoorsAt w6 (A + 1) A i ⟨1, 0, (i : Int), (i : Int), 3, 0, (if (4 * (j : Int) + 1) % 4 = (0 : Int) then (0 : Int) + 1 else 0), 3⟩ (D.del (.int .i64 (4 * (j : Int) + 1))) := hA6
            have e6 : ¬ (4 * (j : Int) + 1) % 4 = (0 : Int) := by omega
            have hA8 : DoorsAt w6 (A + 1) A i ⟨1, 0, (i : Int), (i : Int), 3, 0, 0, 3⟩ (D.del (.int .i64 (4 * (j : Int) + 1))) := by
              have h := hA6
              rw [if_neg e6] at h
              exact h
            have HE : Hid (∀ x : Int, Maps.has (D.del (.int .i64 (4 * (j : Int) + 1))) (.int .i64 x) = true ↔ ∃ t : Nat, j + 1 ≤ t ∧ t < i ∧ x = 4 * (t : Int) + 1) := Lib.hid (fun x => by
              rw [has_del D _ _, HD.out x]
              constructor
              · rintro ⟨hx, t, h1, h2, h3⟩
                exact ⟨t, by
                  have : t ≠ j := fun e => by subst e; omega
                  omega, h2, h3⟩
              · rintro ⟨t, h1, h2, h3⟩
                exact ⟨by omega, t, by omega, h2, h3⟩)
            have bel6 := bel.trans (T6.below _ (by omega) (by omega))
            clear hA T6 bel HD e6
            go_wp2_with fail
            refine (leave_miss (A + 1) A i ⟨1, 0, (i : Int), (i : Int), 3, 0, 0, 3⟩ _ _ (by first | decide | (simp; done)) (by omega) (by omega) (by
              rw [← Bool.not_eq_true, HE.out]
              rintro ⟨t, h1, h2, h3⟩
              omega) _ hA8).mono ?_
            rintro e w7 ⟨rfl, hA7, T7⟩
            have bel7 := bel6.trans (T7.below _ (by omega) (by omega))
            clear hA6 hA8 T7 bel6
            go_wp2_with fail
            go_roundw
            case rel => exact ⟨j + 1, _, by omega, by go_num, hA7, HE.out, bel7⟩
            case measure => (simp [intOf] <;> omega)
          · obtain rfl : j = i := by omega
            go_wp2_with fail
            have G := grantD_any (A + 1) A ⟨1, 0, (j : Int), (j : Int), 3, 0, 0, 3⟩ (by first | decide | (simp; done) | (simp; omega)) (by first | decide | (simp; done) | (simp; omega)) (by first | decide | (simp; done) | (simp; omega)) (by first | decide | (simp; done) | (simp; omega)) (by first | decide | (simp; done) | (simp; omega)) (by first | decide | (simp; done) | (simp; omega)) _ hA.row
            have hc3 : (3 : Int) ≤ 3 - 0 := by decide
            dsimp only at G
            rw [if_pos hc3, if_pos hc3] at G
            refine G.mono ?_
            rintro e w6 ⟨rfl, s6⟩
            go_wp2_with fail
            go_ret
            exact ⟨rfl, bel.trans (s6.below _ (by omega))⟩
theorem walk {H : Type} {enc : TypeId × Value → H} (w : World) (base : Nat) (v0 v1 : Value) (d0 d1 : DataW H) (p0 p1 : List MemPlace)
    (k0 : Value.okWide Try.prog w .any base 4 v0) (k1 : Value.okWide Try.prog w .any base 3 v1)
    (h0 : DataW.Trod enc Try.prog w 0 (fun _ => true) true 4 v0 d0 p0) (h1 : DataW.Trod enc Try.prog w 0 (fun _ => true) true 3 v1 d1 p1) :
    Calls Try.prog 7 #[v0, v1] w fun e w' => e = .returned (.bool true) ∧ Below w.heap.size w w' := by
  obtain ⟨srv, rfl, _⟩ := open_bool Try.underlying4 k0 h0
  obtain ⟨may, rfl, _⟩ := open_int Try.underlying3 k1 h1
  exact law_any srv may w
set_option maxRecDepth 100000 in
theorem lifted (os : Os) (started : os.Started) (H : Type) (enc : TypeId × Value → H) :
    ReturnsInHanded {} Try.checked os 7 .any (Rows.flowOpensSpec.pre6 enc Try.prog Try.f7 Rows.flowOpensRow.domain false) (Rows.flowOpensSpec.post enc Try.prog Try.f7 false true false false) := by
  refine returnsInHanded_of_change (C := Try.checked) own started (by kernel_rfl) Try.func7
    (ChangeSpec.witness6 (enc := enc) (C := Try.checked) false ⟨#[], #[.bool false, .int .i64 0], []⟩ 8 (by kernel_rfl) (by kernel_rfl) (by kernel_rfl) (by kernel_rfl)) ?_
  intro W base args ds gs before hval0 hW hcnd _
  have hval : ∀ (j : Nat) t v, Try.f7.params[j]? = some t → args[j]? = some v → Value.okWide Try.prog W .any base t v := hval0
  have hW' := hW
  obtain ⟨p, q, hA0, hV, rfl, hfz, hnd⟩ := hW
  have hA : DataW.TrodAll enc Try.prog W 0 (fun _ => true) true Try.f7.params.toList args.toList ds p := hA0
  rw [Try.params7] at hA hval
  obtain ⟨v0, vs0, d0, ds0, p0, q0, hargs, rfl, rfl, h0, r0⟩ := trodAll_cons hA
  obtain ⟨v1, vs1, d1, ds1, p1, q1, rfl, rfl, rfl, h1, r1⟩ := trodAll_cons r0
  obtain ⟨rfl, rfl, rfl⟩ := trodAll_nil r1
  obtain rfl : args = #[v0, v1] := by cases args; simp_all
  obtain ⟨rfl, rfl⟩ := trodVars_none hV
  have k0 := h0
  have lt0 : ∀ x ∈ p0, x.block < W.heap.size := by obtain ⟨m, hm⟩ := k0; exact DataW.trod_lt m _ _ _ hm
  have k1 := h1
  have lt1 : ∀ x ∈ p1, x.block < W.heap.size := by obtain ⟨m, hm⟩ := k1; exact DataW.trod_lt m _ _ _ hm
  clear hA0 hval0
  refine (walk W base v0 v1 d0 d1 p0 p1 (hval 0 4 v0 rfl rfl) (hval 1 3 v1 rfl rfl) k0 k1).mono fun e W' ⟨he, bel⟩ => ?_
  subst he
  exact ⟨_, rfl, _, _, _, [], _, [], hW', trodAll_mk1 (shut_bool Try.underlying4 _), (trodAll_cons_mk (Below.trod laidOut (by kernel_rfl) (of_decide_eq_true (by kernel_rfl)) k0 bel lt0) (trodAll_cons_mk (Below.trod laidOut (by kernel_rfl) (of_decide_eq_true (by kernel_rfl)) k1 bel lt1) trodAll_mk0)), rfl, bel.frame _, fun h => by cases h⟩
theorem over : Rows.flowOpensRow.holds Try.pinned (OpenSpec.ofChange Rows.flowOpensSpec) :=
  OpenClaim.holds_of_wide 7 Try.f7 rfl rfl rfl rfl rfl rfl rfl ⟨rfl, rfl, rfl, rfl, rfl⟩ rfl rfl rfl rfl rfl (by kernel_rfl) Try.func7 (by kernel_rfl)
    (of_decide_eq_true (by kernel_rfl)) (by unfold Func.isWrapper; first | (rw [if_pos (by decide +kernel)]; kernel_rfl) | (rw [if_neg (by decide +kernel)]; exact ⟨rfl, rfl⟩))
    (fun os started H enc _ => lifted os started H enc)
theorem proved : Rows.FlowOpensSaid := over
end Go.Proofs.Ytabclpohcckjhaa.flowOpens
