/-
  Of all secrets and names Of, Next, First and Reset tell what the chapter does, at the commit of COMMIT; the table of sha's constants holds what the program's text lays.
-/
import Derived.Test.YtebhhonmpoeliaaDoorRows
import Derived.Test.YtebhhonmpoeliaaDoorCards
import Derived.Test.YtebhhonmpoeliaaDoorTie
import Derived.Test.YtebhhonmpoeliaaDoorShaDoor
import Derived.Test.YtebhhonmpoeliaaDoorGuardE
import Derived.Test.YtebhhonmpoeliaaDoorOpenB
import Derived.WalkKit
import Derived.ProofKit
import Derived.OpenShut
import Derived.ShutString
import Derived.ChangeOld
import Derived.Below
import Derived.Deep.DeepCutAuto
import Derived.Deep.Upon
import Derived.Deep.AppendSrc
import Derived.SevenTiedAt
import Derived.LaidMore
import Derived.SizedLaws
import Derived.Lib.SmallJoins
namespace Go.Proofs.YtebhhonmpoeliaaDoor.guardKeys
open Go Go.ChangeShapes Go.WideShapes Go.ChangeAt Go.RowKit Go.BigFrame
set_option linter.unusedVariables false
theorem three_cells {w : World} {g : Nat} {x y z : Value} {T : TypeId} (h : w.heap[g]? = some (.cells #[x, y, z] T (0, 0))) : w.cell? ⟨g, 0, none⟩ = some x ∧ w.cell? ⟨g, 1, none⟩ = some y ∧ w.cell? ⟨g, 2, none⟩ = some z :=
  ⟨by rw [cell_of_row _ _ _ _ _ _ h]; rfl, by rw [cell_of_row _ _ _ _ _ _ h]; rfl, by rw [cell_of_row _ _ _ _ _ _ h]; rfl⟩
set_option maxRecDepth 100000 in
set_option maxHeartbeats 16000000 in
theorem law_any (f g : Nat → BitVec 8) (m n : Nat) (w : World) (T : TabK w) :
    Calls Tryd.prog 3 #[.string (strOf f m), .string (strOf g n)] w fun e w' => e = .returned (.bool true) ∧ Below w.heap.size w w' := by
  have TK := Lib.hid T
  clear T
  have zf := strOf_size f m
  have zg := strOf_size g n
  have GD := Lib.hid (fun (w' : World) (hb : Below w.heap.size w w') => guards_any w' (TK.out.later hb))
  by_cases hl : m ≤ 2000 ∧ n ≤ 2000
  · obtain ⟨hl1, hl2⟩ := hl
    have hI1 : ¬ (2000 : Int) < (m : Int) := by omega
    have hI2 : ¬ (2000 : Int) < (n : Int) := by omega
    obtain ⟨R1, R2, R3, e1, DO, PO⟩ : ∃ (R1 R2 R3 : ByteArray) (e1 : Int), (∀ w', Calls Tryd.prog 5 #[.string (strOf f m)] w' fun e w'' => e = .returned (.tuple #[.agg #[.string R1, .string R2, .string R3], .int .i64 e1]) ∧ Below w'.heap.size w' w'') ∧
        (∀ w', Below w.heap.size w w' → Calls Tryd.prog 6 #[.string (strOf f m)] w' fun e w'' => e = .returned (.tuple #[.agg #[.string R1, .string R2, .string R3], .int .i64 e1]) ∧ Below w'.heap.size w' w'') := by
      by_cases h : m = 32
      · subst h
        exact ⟨_, _, _, 0, fun w' => docOf_ok f w', fun w' hb => of_ok f w' (TK.out.later hb)⟩
      · exact ⟨_, _, _, 1, fun w' => docOf_bad _ (by rw [zf]; exact h) w', fun w' _ => of_bad _ (by rw [zf]; exact h) w'⟩
    obtain ⟨N1, e2, DN, PN⟩ : ∃ (N1 : ByteArray) (e2 : Int), (∀ w', Calls Tryd.prog 7 #[.string (strOf f m)] w' fun e w'' => e = .returned (.tuple #[.string N1, .int .i64 e2]) ∧ Below w'.heap.size w' w'') ∧
        (∀ w', Below w.heap.size w w' → Calls Tryd.prog 8 #[.string (strOf f m)] w' fun e w'' => e = .returned (.tuple #[.string N1, .int .i64 e2]) ∧ Below w'.heap.size w' w'') := by
      by_cases h : m = 32
      · subst h
        exact ⟨_, 0, fun w' => docNext_ok f w', fun w' hb => next_ok f w' (TK.out.later hb)⟩
      · refine ⟨⟨#[]⟩, 1, fun w' => (docNext_bad _ (by rw [zf]; exact h) w').mono ?_, fun w' _ => (next_bad _ (by rw [zf]; exact h) w').mono ?_⟩
        all_goals
          rintro e w'' ⟨rfl, rfl⟩
          exact ⟨rfl, Below.refl _ _⟩
    obtain ⟨F1, F2, e3, DF, PF⟩ : ∃ (F1 F2 : ByteArray) (e3 : Int), (∀ w', Calls Tryd.prog 9 #[.string (strOf g n)] w' fun e w'' => e = .returned (.tuple #[.string F1, .string F2, .int .i64 e3]) ∧ Below w'.heap.size w' w'') ∧
        (∀ w', Below w.heap.size w w' → Calls Tryd.prog 10 #[.string (strOf g n)] w' fun e w'' => e = .returned (.tuple #[.string F1, .string F2, .int .i64 e3]) ∧ Below w'.heap.size w' w'') := by
      by_cases h : n ≤ 20
      · exact ⟨_, _, 0, fun w' => docFirst_ok g n h w', fun w' hb => first_ok g n h w' (TK.out.later hb)⟩
      · refine ⟨⟨#[]⟩, ⟨#[]⟩, 1, fun w' => (docFirst_bad _ (by rw [zg]; omega) w').mono ?_, fun w' _ => (first_bad _ (by rw [zg]; omega) w').mono ?_⟩
        all_goals
          rintro e w'' ⟨rfl, rfl⟩
          exact ⟨rfl, Below.refl _ _⟩
    have RP := Lib.hid (fun (w' : World) (hb : Below w.heap.size w w') => reset_any f g m n (by omega) (by omega) w' (TK.out.later hb))
    have RD := Lib.hid (fun w' => docReset_any f g m n (by omega) (by omega) w')
    have hDO := Lib.hid DO
    have hPO := Lib.hid PO
    have hDN := Lib.hid DN
    have hPN := Lib.hid PN
    have hDF := Lib.hid DF
    have hPF := Lib.hid PF
    clear DO PO DN PN DF PF
    generalize strOf (macB (keyB f m) g n) 16 = RS at *
    generalize strOf f m = SF at *
    generalize strOf g n = SG at *
    go_enter Tryd.func3, Tryd.ntmps3
    go_wp2_with fail
    with_reducible refine (GD.out w (Below.refl _ _)).mono ?_
    rintro e w1 ⟨rfl, hb1⟩
    have B1 := Lib.hid hb1
    clear hb1 GD
    go_wp2_with fail
    with_reducible refine (hDO.out w1).mono ?_
    rintro e w2 ⟨rfl, hb2⟩
    have B2 := Lib.hid (B1.out.trans (hb2.mono B1.out.size))
    clear hb2 hDO
    have hal : Below w2.heap.size w2 (w2.alloc (.cells #[.string R1, .string R2, .string R3] 24)) := (Below.refl _ _).alloc (Nat.le_refl _) _
    have hal2 : (w2.alloc (.cells #[.string R1, .string R2, .string R3] 24)).heap[w2.heap.size]? = some (.cells #[.string R1, .string R2, .string R3] 24 (0, 0)) := heap_alloc_last _ _
    go_upto_region 4 with (refine wpList_store_new (o := ⟨none, .store 24 (.tmp 5) (.tmp 35), _, _, _, _⟩) rfl 24 _ _ rfl noKeys #[.string R1, .string R2, .string R3] _ rfl rfl rfl (by kernel_rfl) rfl (by kernel_rfl) ?_)
    have B3 := Lib.hid (B2.out.trans (hal.mono B2.out.size))
    obtain ⟨w3, hw3⟩ : ∃ w3, w2.alloc (.cells #[.string R1, .string R2, .string R3] 24) = w3 := ⟨_, rfl⟩
    rw [hw3] at hal2 B3
    simp only [hw3]
    generalize w2.heap.size = q at *
    have Q3 := Lib.hid hal2
    clear hal hal2 hw3 B2
    go_wp2_with fail
    with_reducible refine (hPO.out w3 B3.out).mono ?_
    rintro e w4 ⟨rfl, hb4⟩
    have B4 := Lib.hid (B3.out.trans (hb4.mono B3.out.size))
    have Q4 := (hb4.block q (lt_of_heap Q3.out)).trans Q3.out
    have hal : Below w4.heap.size w4 (w4.alloc (.cells #[.string R1, .string R2, .string R3] 28)) := (Below.refl _ _).alloc (Nat.le_refl _) _
    have hal2 : (w4.alloc (.cells #[.string R1, .string R2, .string R3] 28)).heap[w4.heap.size]? = some (.cells #[.string R1, .string R2, .string R3] 28 (0, 0)) := heap_alloc_last _ _
    have Q5 := (hal.block q (lt_of_heap Q4)).trans Q4
    clear hb4 hPO Q3
    go_upto_region 5 with (refine wpList_store_new (o := ⟨none, .store 28 (.tmp 7) (.tmp 40), _, _, _, _⟩) rfl 28 _ _ rfl noKeys #[.string R1, .string R2, .string R3] _ rfl rfl rfl (by kernel_rfl) rfl (by kernel_rfl) ?_)
    have B5 := Lib.hid (B4.out.trans (hal.mono B4.out.size))
    obtain ⟨w5, hw5⟩ : ∃ w5, w4.alloc (.cells #[.string R1, .string R2, .string R3] 28) = w5 := ⟨_, rfl⟩
    rw [hw5] at hal2 B5 Q5
    simp only [hw5]
    generalize w4.heap.size = r at *
    have HQ := Lib.hid Q5
    have HR := Lib.hid hal2
    clear hal hal2 hw5 B4 Q4 Q5
    go_wp2_with fail
    with_reducible refine (hDN.out w5).mono ?_
    rintro e w6 ⟨rfl, hb6⟩
    have B6 := Lib.hid hb6
    clear hb6 hDN
    go_wp2_with fail
    with_reducible refine (hPN.out w6 (B5.out.trans (B6.out.mono B5.out.size))).mono ?_
    rintro e w7 ⟨rfl, hb7⟩
    have B7 := Lib.hid (B6.out.trans (hb7.mono B6.out.size))
    clear hb7 hPN B6
    go_wp2_with fail
    with_reducible refine (hDF.out w7).mono ?_
    rintro e w8 ⟨rfl, hb8⟩
    have B8 := Lib.hid (B7.out.trans (hb8.mono B7.out.size))
    clear hb8 hDF B7
    go_wp2_with fail
    with_reducible refine (hPF.out w8 (B5.out.trans (B8.out.mono B5.out.size))).mono ?_
    rintro e w9 ⟨rfl, hb9⟩
    have B9 := Lib.hid (B8.out.trans (hb9.mono B8.out.size))
    clear hb9 hPF B8
    have LD := Lib.hid (fun (w' : World) (hb : Below w5.heap.size w5 w') => three_cells ((hb.block q (lt_of_heap HQ.out)).trans HQ.out))
    have LK := Lib.hid (fun (w' : World) (hb : Below w5.heap.size w5 w') => three_cells ((hb.block r (lt_of_heap HR.out)).trans HR.out))
    go_upto_region 9 with fail
    refine region_anyM mixedOrders ?_
    refine anyM_take (i := 0) (oi := ⟨some 64, _, _, _, _, _⟩) (v := .agg #[.string R1, .string R2, .string R3]) rfl (by kernel_rfl) (by kernel_rfl) (by kernel_rfl) (fun _ _ _ h => h) (.inl ⟨by rfl, fun w2 hw2 => ?_⟩) ?_
    · obtain ⟨l0, l1, l2⟩ := LD.out w2 (ext_below hw2 B9.out.drew B9.out.drew.size)
      clear hw2
      go_simp
    simp only [Act.put, List.setIfInBounds_toArray, List.set_cons_succ, List.set_cons_zero]
    refine anyM_take (i := 1) (oi := ⟨some 65, _, _, _, _, _⟩) (v := .agg #[.string R1, .string R2, .string R3]) rfl (by kernel_rfl) (by kernel_rfl) (by kernel_rfl) (fun _ _ _ h => h) (.inl ⟨by rfl, fun w2 hw2 => ?_⟩) ?_
    · go_simp
      go_at_call 11
      refine (to_any R1 R2 R3 w2).mono ?_
      rintro e w6 ⟨rfl, hb6⟩
      exact ⟨rfl, hb6⟩
    simp only [Act.put, List.setIfInBounds_toArray, List.set_cons_succ, List.set_cons_zero]
    refine anyM_take (i := 2) (oi := ⟨some 66, _, _, _, _, _⟩) (v := .agg #[.string R1, .string R2, .string R3]) rfl (by kernel_rfl) (by kernel_rfl) (by kernel_rfl) (fun _ _ _ h => h) (.inl ⟨by rfl, fun w2 hw2 => ?_⟩) ?_
    · obtain ⟨l0, l1, l2⟩ := LK.out w2 (ext_below hw2 B9.out.drew B9.out.drew.size)
      clear hw2
      go_simp
    simp only [Act.put, List.setIfInBounds_toArray, List.set_cons_succ, List.set_cons_zero]
    refine anyM_take (i := 3) (oi := ⟨some 67, _, _, _, _, _⟩) (v := .bool true) rfl (by kernel_rfl) (by kernel_rfl) (by kernel_rfl) (fun _ _ _ h => h) (.inl ⟨by rfl, fun w2 hw2 => ?_⟩) ?_
    · clear hw2
      go_simp
    simp only [Act.put, List.setIfInBounds_toArray, List.set_cons_succ, List.set_cons_zero]
    refine anyM_take (i := 4) (oi := ⟨some 68, _, _, _, _, _⟩) (v := .bool true) rfl (by kernel_rfl) (by kernel_rfl) (by kernel_rfl) (fun _ _ _ h => h) (.inl ⟨by rfl, fun w2 hw2 => ?_⟩) ?_
    · clear hw2
      go_simp
    simp only [Act.put, List.setIfInBounds_toArray, List.set_cons_succ, List.set_cons_zero]
    refine anyM_take (i := 5) (oi := ⟨some 69, _, _, _, _, _⟩) (v := .int .i64 e1) rfl (by kernel_rfl) (by kernel_rfl) (by kernel_rfl) (fun _ _ _ h => h) (.inl ⟨by rfl, fun w2 hw2 => ?_⟩) ?_
    · clear hw2
      go_simp
    simp only [Act.put, List.setIfInBounds_toArray, List.set_cons_succ, List.set_cons_zero]
    refine anyM_take (i := 6) (oi := ⟨some 70, _, _, _, _, _⟩) (v := .int .i64 e1) rfl (by kernel_rfl) (by kernel_rfl) (by kernel_rfl) (fun _ _ _ h => h) (.inl ⟨by rfl, fun w2 hw2 => ?_⟩) ?_
    · clear hw2
      go_simp
    simp only [Act.put, List.setIfInBounds_toArray, List.set_cons_succ, List.set_cons_zero]
    refine anyM_take (i := 7) (oi := ⟨some 71, _, _, _, _, _⟩) (v := .bool true) rfl (by kernel_rfl) (by kernel_rfl) (by kernel_rfl) (fun _ _ _ h => h) (.inl ⟨by rfl, fun w2 hw2 => ?_⟩) ?_
    · clear hw2
      go_simp
    simp only [Act.put, List.setIfInBounds_toArray, List.set_cons_succ, List.set_cons_zero]
    refine anyM_take (i := 8) (oi := ⟨some 72, _, _, _, _, _⟩) (v := .bool true) rfl (by kernel_rfl) (by kernel_rfl) (by kernel_rfl) (fun _ _ _ h => h) (.inl ⟨by rfl, fun w2 hw2 => ?_⟩) ?_
    · clear hw2
      go_simp
    simp only [Act.put, List.setIfInBounds_toArray, List.set_cons_succ, List.set_cons_zero]
    refine anyM_take (i := 9) (oi := ⟨some 73, _, _, _, _, _⟩) (v := .bool true) rfl (by kernel_rfl) (by kernel_rfl) (by kernel_rfl) (fun _ _ _ h => h) (.inl ⟨by rfl, fun w2 hw2 => ?_⟩) ?_
    · clear hw2
      go_simp
    simp only [Act.put, List.setIfInBounds_toArray, List.set_cons_succ, List.set_cons_zero]
    refine anyM_take (i := 10) (oi := ⟨some 74, _, _, _, _, _⟩) (v := .string N1) rfl (by kernel_rfl) (by kernel_rfl) (by kernel_rfl) (fun _ _ _ h => h) (.inl ⟨by rfl, fun w2 hw2 => ?_⟩) ?_
    · clear hw2
      go_simp
    simp only [Act.put, List.setIfInBounds_toArray, List.set_cons_succ, List.set_cons_zero]
    refine anyM_take (i := 11) (oi := ⟨some 75, _, _, _, _, _⟩) (v := .string N1) rfl (by kernel_rfl) (by kernel_rfl) (by kernel_rfl) (fun _ _ _ h => h) (.inl ⟨by rfl, fun w2 hw2 => ?_⟩) ?_
    · clear hw2
      go_simp
    simp only [Act.put, List.setIfInBounds_toArray, List.set_cons_succ, List.set_cons_zero]
    refine anyM_take (i := 12) (oi := ⟨some 76, _, _, _, _, _⟩) (v := .bool true) rfl (by kernel_rfl) (by kernel_rfl) (by kernel_rfl) (fun _ _ _ h => h) (.inl ⟨by rfl, fun w2 hw2 => ?_⟩) ?_
    · clear hw2
      go_simp
    simp only [Act.put, List.setIfInBounds_toArray, List.set_cons_succ, List.set_cons_zero]
    refine anyM_take (i := 13) (oi := ⟨some 77, _, _, _, _, _⟩) (v := .bool true) rfl (by kernel_rfl) (by kernel_rfl) (by kernel_rfl) (fun _ _ _ h => h) (.inl ⟨by rfl, fun w2 hw2 => ?_⟩) ?_
    · clear hw2
      go_simp
    simp only [Act.put, List.setIfInBounds_toArray, List.set_cons_succ, List.set_cons_zero]
    refine anyM_take (i := 14) (oi := ⟨some 78, _, _, _, _, _⟩) (v := .bool true) rfl (by kernel_rfl) (by kernel_rfl) (by kernel_rfl) (fun _ _ _ h => h) (.inl ⟨by rfl, fun w2 hw2 => ?_⟩) ?_
    · clear hw2
      go_simp
    simp only [Act.put, List.setIfInBounds_toArray, List.set_cons_succ, List.set_cons_zero]
    refine anyM_take (i := 15) (oi := ⟨some 79, _, _, _, _, _⟩) (v := .int .i64 e2) rfl (by kernel_rfl) (by kernel_rfl) (by kernel_rfl) (fun _ _ _ h => h) (.inl ⟨by rfl, fun w2 hw2 => ?_⟩) ?_
    · clear hw2
      go_simp
    simp only [Act.put, List.setIfInBounds_toArray, List.set_cons_succ, List.set_cons_zero]
    refine anyM_take (i := 16) (oi := ⟨some 80, _, _, _, _, _⟩) (v := .int .i64 e2) rfl (by kernel_rfl) (by kernel_rfl) (by kernel_rfl) (fun _ _ _ h => h) (.inl ⟨by rfl, fun w2 hw2 => ?_⟩) ?_
    · clear hw2
      go_simp
    simp only [Act.put, List.setIfInBounds_toArray, List.set_cons_succ, List.set_cons_zero]
    refine anyM_take (i := 17) (oi := ⟨some 81, _, _, _, _, _⟩) (v := .bool true) rfl (by kernel_rfl) (by kernel_rfl) (by kernel_rfl) (fun _ _ _ h => h) (.inl ⟨by rfl, fun w2 hw2 => ?_⟩) ?_
    · clear hw2
      go_simp
    simp only [Act.put, List.setIfInBounds_toArray, List.set_cons_succ, List.set_cons_zero]
    refine anyM_take (i := 18) (oi := ⟨some 82, _, _, _, _, _⟩) (v := .bool true) rfl (by kernel_rfl) (by kernel_rfl) (by kernel_rfl) (fun _ _ _ h => h) (.inl ⟨by rfl, fun w2 hw2 => ?_⟩) ?_
    · clear hw2
      go_simp
    simp only [Act.put, List.setIfInBounds_toArray, List.set_cons_succ, List.set_cons_zero]
    refine anyM_take (i := 19) (oi := ⟨some 83, _, _, _, _, _⟩) (v := .bool true) rfl (by kernel_rfl) (by kernel_rfl) (by kernel_rfl) (fun _ _ _ h => h) (.inl ⟨by rfl, fun w2 hw2 => ?_⟩) ?_
    · clear hw2
      go_simp
    simp only [Act.put, List.setIfInBounds_toArray, List.set_cons_succ, List.set_cons_zero]
    refine anyM_take (i := 20) (oi := ⟨some 84, _, _, _, _, _⟩) (v := .string F1) rfl (by kernel_rfl) (by kernel_rfl) (by kernel_rfl) (fun _ _ _ h => h) (.inl ⟨by rfl, fun w2 hw2 => ?_⟩) ?_
    · clear hw2
      go_simp
    simp only [Act.put, List.setIfInBounds_toArray, List.set_cons_succ, List.set_cons_zero]
    refine anyM_take (i := 21) (oi := ⟨some 85, _, _, _, _, _⟩) (v := .string F1) rfl (by kernel_rfl) (by kernel_rfl) (by kernel_rfl) (fun _ _ _ h => h) (.inl ⟨by rfl, fun w2 hw2 => ?_⟩) ?_
    · clear hw2
      go_simp
    simp only [Act.put, List.setIfInBounds_toArray, List.set_cons_succ, List.set_cons_zero]
    refine anyM_take (i := 22) (oi := ⟨some 86, _, _, _, _, _⟩) (v := .bool true) rfl (by kernel_rfl) (by kernel_rfl) (by kernel_rfl) (fun _ _ _ h => h) (.inl ⟨by rfl, fun w2 hw2 => ?_⟩) ?_
    · clear hw2
      go_simp
    simp only [Act.put, List.setIfInBounds_toArray, List.set_cons_succ, List.set_cons_zero]
    refine anyM_take (i := 23) (oi := ⟨some 87, _, _, _, _, _⟩) (v := .bool true) rfl (by kernel_rfl) (by kernel_rfl) (by kernel_rfl) (fun _ _ _ h => h) (.inl ⟨by rfl, fun w2 hw2 => ?_⟩) ?_
    · clear hw2
      go_simp
    simp only [Act.put, List.setIfInBounds_toArray, List.set_cons_succ, List.set_cons_zero]
    refine anyM_take (i := 24) (oi := ⟨some 88, _, _, _, _, _⟩) (v := .bool true) rfl (by kernel_rfl) (by kernel_rfl) (by kernel_rfl) (fun _ _ _ h => h) (.inl ⟨by rfl, fun w2 hw2 => ?_⟩) ?_
    · clear hw2
      go_simp
    simp only [Act.put, List.setIfInBounds_toArray, List.set_cons_succ, List.set_cons_zero]
    refine anyM_take (i := 25) (oi := ⟨some 89, _, _, _, _, _⟩) (v := .string F2) rfl (by kernel_rfl) (by kernel_rfl) (by kernel_rfl) (fun _ _ _ h => h) (.inl ⟨by rfl, fun w2 hw2 => ?_⟩) ?_
    · clear hw2
      go_simp
    simp only [Act.put, List.setIfInBounds_toArray, List.set_cons_succ, List.set_cons_zero]
    refine anyM_take (i := 26) (oi := ⟨some 90, _, _, _, _, _⟩) (v := .string F2) rfl (by kernel_rfl) (by kernel_rfl) (by kernel_rfl) (fun _ _ _ h => h) (.inl ⟨by rfl, fun w2 hw2 => ?_⟩) ?_
    · clear hw2
      go_simp
    simp only [Act.put, List.setIfInBounds_toArray, List.set_cons_succ, List.set_cons_zero]
    refine anyM_take (i := 27) (oi := ⟨some 91, _, _, _, _, _⟩) (v := .bool true) rfl (by kernel_rfl) (by kernel_rfl) (by kernel_rfl) (fun _ _ _ h => h) (.inl ⟨by rfl, fun w2 hw2 => ?_⟩) ?_
    · clear hw2
      go_simp
    simp only [Act.put, List.setIfInBounds_toArray, List.set_cons_succ, List.set_cons_zero]
    refine anyM_take (i := 28) (oi := ⟨some 92, _, _, _, _, _⟩) (v := .bool true) rfl (by kernel_rfl) (by kernel_rfl) (by kernel_rfl) (fun _ _ _ h => h) (.inl ⟨by rfl, fun w2 hw2 => ?_⟩) ?_
    · clear hw2
      go_simp
    simp only [Act.put, List.setIfInBounds_toArray, List.set_cons_succ, List.set_cons_zero]
    refine anyM_take (i := 29) (oi := ⟨some 93, _, _, _, _, _⟩) (v := .bool true) rfl (by kernel_rfl) (by kernel_rfl) (by kernel_rfl) (fun _ _ _ h => h) (.inl ⟨by rfl, fun w2 hw2 => ?_⟩) ?_
    · clear hw2
      go_simp
    simp only [Act.put, List.setIfInBounds_toArray, List.set_cons_succ, List.set_cons_zero]
    refine anyM_take (i := 30) (oi := ⟨some 94, _, _, _, _, _⟩) (v := .int .i64 e3) rfl (by kernel_rfl) (by kernel_rfl) (by kernel_rfl) (fun _ _ _ h => h) (.inl ⟨by rfl, fun w2 hw2 => ?_⟩) ?_
    · clear hw2
      go_simp
    simp only [Act.put, List.setIfInBounds_toArray, List.set_cons_succ, List.set_cons_zero]
    refine anyM_take (i := 31) (oi := ⟨some 95, _, _, _, _, _⟩) (v := .int .i64 e3) rfl (by kernel_rfl) (by kernel_rfl) (by kernel_rfl) (fun _ _ _ h => h) (.inl ⟨by rfl, fun w2 hw2 => ?_⟩) ?_
    · clear hw2
      go_simp
    simp only [Act.put, List.setIfInBounds_toArray, List.set_cons_succ, List.set_cons_zero]
    refine anyM_take (i := 32) (oi := ⟨some 96, _, _, _, _, _⟩) (v := .bool true) rfl (by kernel_rfl) (by kernel_rfl) (by kernel_rfl) (fun _ _ _ h => h) (.inl ⟨by rfl, fun w2 hw2 => ?_⟩) ?_
    · clear hw2
      go_simp
    simp only [Act.put, List.setIfInBounds_toArray, List.set_cons_succ, List.set_cons_zero]
    refine anyM_take (i := 33) (oi := ⟨some 97, _, _, _, _, _⟩) (v := .bool true) rfl (by kernel_rfl) (by kernel_rfl) (by kernel_rfl) (fun _ _ _ h => h) (.inl ⟨by rfl, fun w2 hw2 => ?_⟩) ?_
    · clear hw2
      go_simp
    simp only [Act.put, List.setIfInBounds_toArray, List.set_cons_succ, List.set_cons_zero]
    refine anyM_take (i := 34) (oi := ⟨some 98, _, _, _, _, _⟩) (v := .bool true) rfl (by kernel_rfl) (by kernel_rfl) (by kernel_rfl) (fun _ _ _ h => h) (.inl ⟨by rfl, fun w2 hw2 => ?_⟩) ?_
    · clear hw2
      go_simp
    simp only [Act.put, List.setIfInBounds_toArray, List.set_cons_succ, List.set_cons_zero]
    refine anyM_take (i := 35) (oi := ⟨some 99, _, _, _, _, _⟩) (v := .string SF) rfl (by kernel_rfl) (by kernel_rfl) (by kernel_rfl) (fun _ _ _ h => h) (.inl ⟨by rfl, fun w2 hw2 => ?_⟩) ?_
    · clear hw2
      go_simp
    simp only [Act.put, List.setIfInBounds_toArray, List.set_cons_succ, List.set_cons_zero]
    refine anyM_take (i := 36) (oi := ⟨some 100, _, _, _, _, _⟩) (v := .string SG) rfl (by kernel_rfl) (by kernel_rfl) (by kernel_rfl) (fun _ _ _ h => h) (.inl ⟨by rfl, fun w2 hw2 => ?_⟩) ?_
    · clear hw2
      go_simp
    simp only [Act.put, List.setIfInBounds_toArray, List.set_cons_succ, List.set_cons_zero]
    refine anyM_take (i := 37) (oi := ⟨some 101, _, _, _, _, _⟩) (v := .string RS) rfl (by kernel_rfl) (by kernel_rfl) (by kernel_rfl) (fun _ _ _ h => h) (.inl ⟨by rfl, fun w2 hw2 => ?_⟩) ?_
    · go_simp
      go_at_call 12
      refine (RP.out w2 (B5.out.trans ((ext_below hw2 B9.out.drew B9.out.drew.size).mono B5.out.size))).mono ?_
      rintro e w6 ⟨rfl, hb6⟩
      exact ⟨rfl, hb6⟩
    simp only [Act.put, List.setIfInBounds_toArray, List.set_cons_succ, List.set_cons_zero]
    refine anyM_take (i := 38) (oi := ⟨some 102, _, _, _, _, _⟩) (v := .string SF) rfl (by kernel_rfl) (by kernel_rfl) (by kernel_rfl) (fun _ _ _ h => h) (.inl ⟨by rfl, fun w2 hw2 => ?_⟩) ?_
    · clear hw2
      go_simp
    simp only [Act.put, List.setIfInBounds_toArray, List.set_cons_succ, List.set_cons_zero]
    refine anyM_take (i := 39) (oi := ⟨some 103, _, _, _, _, _⟩) (v := .string SG) rfl (by kernel_rfl) (by kernel_rfl) (by kernel_rfl) (fun _ _ _ h => h) (.inl ⟨by rfl, fun w2 hw2 => ?_⟩) ?_
    · clear hw2
      go_simp
    simp only [Act.put, List.setIfInBounds_toArray, List.set_cons_succ, List.set_cons_zero]
    refine anyM_take (i := 40) (oi := ⟨some 104, _, _, _, _, _⟩) (v := .string RS) rfl (by kernel_rfl) (by kernel_rfl) (by kernel_rfl) (fun _ _ _ h => h) (.inl ⟨by rfl, fun w2 hw2 => ?_⟩) ?_
    · go_simp
      go_at_call 13
      refine (RD.out w2).mono ?_
      rintro e w6 ⟨rfl, hb6⟩
      exact ⟨rfl, hb6⟩
    simp only [Act.put, List.setIfInBounds_toArray, List.set_cons_succ, List.set_cons_zero]
    refine anyM_take (i := 41) (oi := ⟨some 105, _, _, _, _, _⟩) (v := .bool true) rfl (by kernel_rfl) (by kernel_rfl) (by kernel_rfl) (fun _ _ _ h => h) (.inl ⟨by rfl, fun w2 hw2 => ?_⟩) ?_
    · clear hw2
      go_simp
    simp only [Act.put, List.setIfInBounds_toArray, List.set_cons_succ, List.set_cons_zero]
    refine anyM_take (i := 42) (oi := ⟨some 106, _, _, _, _, _⟩) (v := .bool true) rfl (by kernel_rfl) (by kernel_rfl) (by kernel_rfl) (fun _ _ _ h => h) (.inl ⟨by rfl, fun w2 hw2 => ?_⟩) ?_
    · clear hw2
      go_simp
    simp only [Act.put, List.setIfInBounds_toArray, List.set_cons_succ, List.set_cons_zero]
    refine anyM_take (i := 43) (oi := ⟨some 4, _, _, _, _, _⟩) (v := .bool true) rfl (by kernel_rfl) (by kernel_rfl) (by kernel_rfl) (fun _ _ _ h => h) (.inl ⟨by rfl, fun w2 hw2 => ?_⟩) ?_
    · clear hw2
      go_simp
    simp only [Act.put, List.setIfInBounds_toArray, List.set_cons_succ, List.set_cons_zero]
    refine anyM_done (by kernel_rfl) (fun w10 hw10 => ?_)
    have B10 := Lib.hid (B5.out.trans ((ext_below hw10 B9.out.drew B9.out.drew.size).mono B5.out.size))
    clear hw10
    go_wp2_with fail
    go_ret
    exact ⟨rfl, B10.out⟩
  · have hI : (2000 : Int) < (m : Int) ∨ (¬ (2000 : Int) < (m : Int) ∧ (2000 : Int) < (n : Int)) := by omega
    clear hl
    generalize strOf f m = SF at *
    generalize strOf g n = SG at *
    go_enter Tryd.func3, Tryd.ntmps3
    go_wp2_with fail
    with_reducible refine (GD.out w (Below.refl _ _)).mono ?_
    rintro e w1 ⟨rfl, hb1⟩
    rcases hI with h1 | ⟨h1, h2⟩
    all_goals
      go_wp2_with fail
      with_reducible refine (GD.out w1 hb1).mono ?_
      rintro e w2 ⟨rfl, hb2⟩
      go_wp2_with fail
      go_ret
      exact ⟨rfl, hb1.trans (hb2.mono hb1.size)⟩
set_option maxRecDepth 100000 in
theorem walk {H : Type} {enc : TypeId × Value → H} (w : World) (base : Nat) (v0 v1 : Value) (d0 d1 : DataW H) (p0 p1 : List MemPlace)
    (k0 : Value.okWide Tryd.prog w .any base 9 v0) (k1 : Value.okWide Tryd.prog w .any base 9 v1)
    (h0 : DataW.Trod enc Tryd.prog w 0 (fun _ => true) true 9 v0 d0 p0) (h1 : DataW.Trod enc Tryd.prog w 0 (fun _ => true) true 9 v1 d1 p1) (tab : TabK w) :
    Calls Tryd.prog 3 #[v0, v1] w fun e w' => e = .returned (.bool true) ∧ Below w.heap.size w w' := by
  obtain ⟨f, m, rfl, hm⟩ := open_text k0 h0
  obtain ⟨g, n, rfl, hn⟩ := open_text k1 h1
  exact law_any f g m n w tab
set_option maxRecDepth 100000 in
theorem lifted (os : Os) (started : os.Started) (H : Type) (enc : TypeId × Value → H) :
    ReturnsInHanded {} Tryd.checked os 3 .any (fun w args => (Rows.guardKeysSpec.pre enc Tryd.prog Tryd.f3 [] false w args ∧ laidMetH Tryd.prog laids w) ∧ sizedMet enc Tryd.prog Tryd.f3 (OpenSpec.ofChange Rows.guardKeysSpec) false w args)
      (Rows.guardKeysSpec.post enc Tryd.prog Tryd.f3 false true false false) := by
  refine returnsInHanded_of_change_and (C := Tryd.checked) (X := fun w _ => laidMetH Tryd.prog laids w) (fun _ _ _ hh h => h.of_heap hh) own started (by kernel_rfl) Tryd.func3
    (ChangeSpec.witness_shaped (enc := enc) (C := Tryd.checked) (os := os) (X := fun w _ => laidMetH Tryd.prog laids w) false (World.doorLaid Tryd.prog 14 os) #[.string ⟨#[]⟩, .string ⟨#[]⟩] 8 rfl (World.shaped_of_RefB (by kernel_rfl) (by kernel_rfl)) (by kernel_rfl) (by kernel_rfl) (by kernel_rfl) (door_met os _)) ?_
  intro W base args ds gs before hval0 hW _ _ hL _
  have hval : ∀ (j : Nat) t v, Tryd.f3.params[j]? = some t → args[j]? = some v → Value.okWide Tryd.prog W .any base t v := hval0
  have hW' := hW
  obtain ⟨p, q, hA0, hV, rfl, hfz, hnd⟩ := hW
  have hA : DataW.TrodAll enc Tryd.prog W 0 (fun _ => true) true Tryd.f3.params.toList args.toList ds p := hA0
  rw [Tryd.params3] at hA hval
  obtain ⟨v0, vs0, d0, ds0, p0, q0, hargs, rfl, rfl, h0, r0⟩ := trodAll_cons hA
  obtain ⟨v1, vs1, d1, ds1, p1, q1, rfl, rfl, rfl, h1, r1⟩ := trodAll_cons r0
  obtain ⟨rfl, rfl, rfl⟩ := trodAll_nil r1
  obtain rfl : args = #[v0, v1] := by cases args; simp_all
  obtain ⟨rfl, rfl⟩ := trodVars_none hV
  have k0 := h0
  have lt0 : ∀ x ∈ p0, x.block < W.heap.size := by obtain ⟨m, hm⟩ := k0; exact DataW.trod_lt m _ _ _ hm
  have k1 := h1
  have lt1 : ∀ x ∈ p1, x.block < W.heap.size := by obtain ⟨m, hm⟩ := k1; exact DataW.trod_lt m _ _ _ hm
  clear hA0 hval0
  refine (walk W base v0 v1 d0 d1 p0 p1 (hval 0 9 v0 rfl rfl) (hval 1 9 v1 rfl rfl) k0 k1 (tabK_of_laid hL)).mono fun e W' ⟨he, bel⟩ => ?_
  subst he
  exact ⟨_, rfl, _, _, _, [], _, [], hW', trodAll_mk1 (shut_bool Tryd.underlying4 _), (trodAll_cons_mk (Below.trod laidOut (by kernel_rfl) (of_decide_eq_true (by kernel_rfl)) k0 bel lt0) (trodAll_cons_mk (Below.trod laidOut (by kernel_rfl) (of_decide_eq_true (by kernel_rfl)) k1 bel lt1) trodAll_mk0)), rfl, bel.frame _, fun h => by cases h⟩
theorem over : Rows.GuardKeysSaid :=
  OpenClaim.holds_of_wide 3 Tryd.f3 rfl rfl rfl rfl rfl rfl rfl ⟨rfl, rfl, rfl, rfl, rfl⟩ rfl rfl rfl rfl rfl (by kernel_rfl) Tryd.func3 (by kernel_rfl)
    (of_decide_eq_true (by kernel_rfl)) (by unfold Func.isWrapper; first | (rw [if_pos (by decide +kernel)]; kernel_rfl) | (rw [if_neg (by decide +kernel)]; exact ⟨rfl, rfl⟩))
    (fun os started H enc _ => lifted os started H enc)
theorem proved : Rows.GuardKeysCardSaid :=
  Claim7.holds_tied_plain_at .later [] [.data] true (true, "53851983ac3ef5e0a7d9714465ff2920094f44ccf2808a81a194b9ff8ab449b5") false
    over (fun _ h => by cases h) (by kernel_rfl) (fun _ h => by cases h) guardKeys_row_tie rfl ⟨rfl, rfl⟩ (by kernel_rfl) rfl
    (fun f fn hf hfn => by
      obtain rfl : f = 3 := Option.some.inj ((show Tryd.prog.funcNamed "rhyne/rhynelaw10.GuardKeys" = some 3 by kernel_rfl).symm.trans hf) |>.symm
      obtain rfl : fn = Tryd.f3 := (Option.some.inj (Tryd.func3.symm.trans hfn)).symm
      exact ⟨by kernel_rfl, fun j t ht => by
        rw [Tryd.params3] at ht
        have hm : t ∈ [9, 9] := by simpa using Array.mem_of_getElem? ht
        have hall : ([9, 9].all fun u => !Tryd.prog.wantsStandIn u) = true := by kernel_rfl
        exact (show Tryd.prog.wantsStandIn t = false by simpa using List.all_eq_true.1 hall t hm)⟩)
    (by kernel_rfl)
end Go.Proofs.YtebhhonmpoeliaaDoor.guardKeys
