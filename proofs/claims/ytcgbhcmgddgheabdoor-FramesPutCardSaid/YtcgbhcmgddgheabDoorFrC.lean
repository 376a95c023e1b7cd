/-
  FRAMES, THIRD PART: whether a part fits.
-/
import Derived.Test.YtcgbhcmgddgheabDoorFrB
namespace Go.Proofs.YtcgbhcmgddgheabDoor
open Go Go.RowKit Go.BigFrame
set_option linter.unusedSimpArgs false
set_option linter.unusedVariables false
set_option maxRecDepth 100000
set_option maxHeartbeats 8000000 in
theorem fits_0 (f : Fr) (v : Value) (w : World) (hA : SpansIn w v f.A) (hD : f.D.size ≤ maxLen) (hX : f.X.size ≤ maxLen) : Calls Tryd.prog 26 #[.agg (f.cells v), .int .i64 0] w fun e w' => e = .returned (.bool (decide (fitsF f 0))) ∧ Below w.heap.size w w' := by
  obtain ⟨m, hm⟩ : ∃ m, decide (fitsF f 0) = m := ⟨_, rfl⟩
  rw [hm]
  have HM := Lib.hid hm
  have HA := Lib.hid hA
  have MO := Lib.hid (mostOff_any f v)
  have MN := Lib.hid (mostN_any f v)
  have LD := Lib.hid (leastData_any f v)
  obtain ⟨mo, hmo⟩ : ∃ x, mostO f = x := ⟨_, rfl⟩
  obtain ⟨mn, hmn⟩ : ∃ x, mostN f = x := ⟨_, rfl⟩
  obtain ⟨ld, hld⟩ : ∃ x, leastD f = x := ⟨_, rfl⟩
  rw [hmo] at MO
  rw [hmn] at MN
  rw [hld] at LD
  have HMO := Lib.hid hmo
  have HMN := Lib.hid hmn
  have HLD := Lib.hid hld
  have FA := Lib.hid (fun (w' : World) (h : SpansIn w' v f.A) => falling_any v f.A w' h)
  have hD2 : (f.D.size : Int) ≤ 9223372036854775807 := by unfold maxLen at hD; omega
  have hX2 : (f.X.size : Int) ≤ 9223372036854775807 := by unfold maxLen at hX; omega
  clear hm hmo hmn hld hA hD hX
  obtain ⟨kd, S, O, N, C, F, D, X, A⟩ := f
  dsimp only [Fr.cells] at *
  unfold frC at *
  have row := heap_alloc_last w (.cells #[.int .i64 kd, .int .i64 S, .int .i64 O, .int .i64 N, .int .i64 C, .bool F, .string D, .string X, v] 33)
  have bel := (Below.refl w.heap.size w).alloc (Nat.le_refl _) (.cells #[.int .i64 kd, .int .i64 S, .int .i64 O, .int .i64 N, .int .i64 C, .bool F, .string D, .string X, v] 33)
  go_enter Tryd.func26, Tryd.ntmps26
  go_upto_region 1 with (fail)
  generalize w.alloc _ = wa at *
  have BEL := Lib.hid bel
  have CX := Lib.hid (fun (w' : World) (hb : Below wa.heap.size wa w') => cells9 ((hb.block _ (lt_row row)).trans row))
  have hlt := lt_row row
  clear row bel
  have R : Hid (m = withinB S 0 4611686018427387903) := Lib.hid (within_dec HM.out Iff.rfl)
  go_upto_region 3 with (fail)
  obtain ⟨c0, c1, c2, c3, c4, c5, c6, c7, c8⟩ := CX.out wa (Below.refl _ _)
  clear HM MO MN LD FA HMO HMN HLD HA
  go_wp2_with fail
  with_reducible refine (within_any _ _ _ _).mono ?_
  rintro e w' ⟨rfl, rfl⟩
  go_wp2_with fail
  go_ret
  exact ⟨ret_bool R.out, BEL.out⟩
set_option maxHeartbeats 8000000 in
theorem fits_1 (f : Fr) (v : Value) (w : World) (hA : SpansIn w v f.A) (hD : f.D.size ≤ maxLen) (hX : f.X.size ≤ maxLen) : Calls Tryd.prog 26 #[.agg (f.cells v), .int .i64 1] w fun e w' => e = .returned (.bool (decide (fitsF f 1))) ∧ Below w.heap.size w w' := by
  obtain ⟨m, hm⟩ : ∃ m, decide (fitsF f 1) = m := ⟨_, rfl⟩
  rw [hm]
  have HM := Lib.hid hm
  have HA := Lib.hid hA
  have MO := Lib.hid (mostOff_any f v)
  have MN := Lib.hid (mostN_any f v)
  have LD := Lib.hid (leastData_any f v)
  obtain ⟨mo, hmo⟩ : ∃ x, mostO f = x := ⟨_, rfl⟩
  obtain ⟨mn, hmn⟩ : ∃ x, mostN f = x := ⟨_, rfl⟩
  obtain ⟨ld, hld⟩ : ∃ x, leastD f = x := ⟨_, rfl⟩
  rw [hmo] at MO
  rw [hmn] at MN
  rw [hld] at LD
  have HMO := Lib.hid hmo
  have HMN := Lib.hid hmn
  have HLD := Lib.hid hld
  have FA := Lib.hid (fun (w' : World) (h : SpansIn w' v f.A) => falling_any v f.A w' h)
  have hD2 : (f.D.size : Int) ≤ 9223372036854775807 := by unfold maxLen at hD; omega
  have hX2 : (f.X.size : Int) ≤ 9223372036854775807 := by unfold maxLen at hX; omega
  clear hm hmo hmn hld hA hD hX
  obtain ⟨kd, S, O, N, C, F, D, X, A⟩ := f
  dsimp only [Fr.cells] at *
  unfold frC at *
  have row := heap_alloc_last w (.cells #[.int .i64 kd, .int .i64 S, .int .i64 O, .int .i64 N, .int .i64 C, .bool F, .string D, .string X, v] 33)
  have bel := (Below.refl w.heap.size w).alloc (Nat.le_refl _) (.cells #[.int .i64 kd, .int .i64 S, .int .i64 O, .int .i64 N, .int .i64 C, .bool F, .string D, .string X, v] 33)
  go_enter Tryd.func26, Tryd.ntmps26
  go_upto_region 1 with (fail)
  generalize w.alloc _ = wa at *
  have BEL := Lib.hid bel
  have CX := Lib.hid (fun (w' : World) (hb : Below wa.heap.size wa w') => cells9 ((hb.block _ (lt_row row)).trans row))
  have hlt := lt_row row
  clear row bel
  have R : Hid (m = withinB O 0 mo) := Lib.hid (within_dec HM.out (by rw [← HMO.out]; exact Iff.rfl))
  clear HM FA HA
  go_upto_region 5 with (fail)
  refine region_class1 5 (fun w' => Below wa.heap.size wa w') mixedOrders (by kernel_rfl) (Below.refl _ _).drew rfl ?_
  refine wpQuiet_take (by rfl) (fun K hK => ⟨.pointer (some ⟨w.heap.size, 2, none⟩), fun w2' hw2 => ?_, hK _ ?_⟩)
  · clear hw2; go_simp
  clear hK K
  simp only [Act.put, List.setIfInBounds_toArray, List.set_cons_succ, List.set_cons_zero]
  refine wpQuiet_take (by rfl) (fun K hK => ⟨.int .i64 O, fun w2' hw2 => ?_, hK _ ?_⟩)
  · obtain ⟨c0, c1, c2, c3, c4, c5, c6, c7, c8⟩ := CX.out w2' hw2
    clear hw2
    go_simp
  clear hK K
  simp only [Act.put, List.setIfInBounds_toArray, List.set_cons_succ, List.set_cons_zero]
  refine wpQuiet_take (by rfl) (fun K hK => ⟨.agg #[.int .i64 kd, .int .i64 S, .int .i64 O, .int .i64 N, .int .i64 C, .bool F, .string D, .string X, v], fun w2' hw2 => ?_, hK _ ?_⟩)
  · obtain ⟨c0, c1, c2, c3, c4, c5, c6, c7, c8⟩ := CX.out w2' hw2
    clear hw2
    go_simp
  clear hK K
  simp only [Act.put, List.setIfInBounds_toArray, List.set_cons_succ, List.set_cons_zero]
  refine wpQuiet_take (by rfl) (fun K hK => ⟨.int .i64 mo, fun w2' hw2 => ?_, hK _ ?_⟩)
  · go_simp
    go_at_call 42
    refine (MO.out w2').mono ?_
    rintro e w5 ⟨rfl, hb5⟩
    exact ⟨rfl, hw2.trans (hb5.mono hw2.size)⟩
  clear hK K
  simp only [Act.put, List.setIfInBounds_toArray, List.set_cons_succ, List.set_cons_zero]
  refine wpQuiet_take (by rfl) (fun K hK => ⟨.bool (withinB O 0 mo), fun w2' hw2 => ?_, hK _ ?_⟩)
  · go_simp
    go_at_call 41
    refine (within_any _ _ _ _).mono ?_
    rintro e w5 ⟨rfl, hb5⟩
    exact ⟨rfl, hb5 ▸ hw2⟩
  clear hK K
  simp only [Act.put, List.setIfInBounds_toArray, List.set_cons_succ, List.set_cons_zero]
  refine wpQuiet_take0 ?_
  intro w11 hb11
  have H11 := Lib.hid (BEL.out.trans (hb11.mono BEL.out.size))
  clear hb11
  go_wp2_with fail
  go_ret
  exact ⟨ret_bool R.out, H11.out⟩
set_option maxHeartbeats 8000000 in
theorem fits_2 (f : Fr) (v : Value) (w : World) (hA : SpansIn w v f.A) (hD : f.D.size ≤ maxLen) (hX : f.X.size ≤ maxLen) : Calls Tryd.prog 26 #[.agg (f.cells v), .int .i64 2] w fun e w' => e = .returned (.bool (decide (fitsF f 2))) ∧ Below w.heap.size w w' := by
  obtain ⟨m, hm⟩ : ∃ m, decide (fitsF f 2) = m := ⟨_, rfl⟩
  rw [hm]
  have HM := Lib.hid hm
  have HA := Lib.hid hA
  have MO := Lib.hid (mostOff_any f v)
  have MN := Lib.hid (mostN_any f v)
  have LD := Lib.hid (leastData_any f v)
  obtain ⟨mo, hmo⟩ : ∃ x, mostO f = x := ⟨_, rfl⟩
  obtain ⟨mn, hmn⟩ : ∃ x, mostN f = x := ⟨_, rfl⟩
  obtain ⟨ld, hld⟩ : ∃ x, leastD f = x := ⟨_, rfl⟩
  rw [hmo] at MO
  rw [hmn] at MN
  rw [hld] at LD
  have HMO := Lib.hid hmo
  have HMN := Lib.hid hmn
  have HLD := Lib.hid hld
  have FA := Lib.hid (fun (w' : World) (h : SpansIn w' v f.A) => falling_any v f.A w' h)
  have hD2 : (f.D.size : Int) ≤ 9223372036854775807 := by unfold maxLen at hD; omega
  have hX2 : (f.X.size : Int) ≤ 9223372036854775807 := by unfold maxLen at hX; omega
  clear hm hmo hmn hld hA hD hX
  obtain ⟨kd, S, O, N, C, F, D, X, A⟩ := f
  dsimp only [Fr.cells] at *
  unfold frC at *
  have row := heap_alloc_last w (.cells #[.int .i64 kd, .int .i64 S, .int .i64 O, .int .i64 N, .int .i64 C, .bool F, .string D, .string X, v] 33)
  have bel := (Below.refl w.heap.size w).alloc (Nat.le_refl _) (.cells #[.int .i64 kd, .int .i64 S, .int .i64 O, .int .i64 N, .int .i64 C, .bool F, .string D, .string X, v] 33)
  go_enter Tryd.func26, Tryd.ntmps26
  go_upto_region 1 with (fail)
  generalize w.alloc _ = wa at *
  have BEL := Lib.hid bel
  have CX := Lib.hid (fun (w' : World) (hb : Below wa.heap.size wa w') => cells9 ((hb.block _ (lt_row row)).trans row))
  have hlt := lt_row row
  clear row bel
  have R : Hid (m = withinB N 0 mn) := Lib.hid (within_dec HM.out (by rw [← HMN.out]; exact Iff.rfl))
  clear HM FA HA
  go_upto_region 7 with (fail)
  refine region_class1 5 (fun w' => Below wa.heap.size wa w') mixedOrders (by kernel_rfl) (Below.refl _ _).drew rfl ?_
  refine wpQuiet_take (by rfl) (fun K hK => ⟨.pointer (some ⟨w.heap.size, 3, none⟩), fun w2' hw2 => ?_, hK _ ?_⟩)
  · clear hw2; go_simp
  clear hK K
  simp only [Act.put, List.setIfInBounds_toArray, List.set_cons_succ, List.set_cons_zero]
  refine wpQuiet_take (by rfl) (fun K hK => ⟨.int .i64 N, fun w2' hw2 => ?_, hK _ ?_⟩)
  · obtain ⟨c0, c1, c2, c3, c4, c5, c6, c7, c8⟩ := CX.out w2' hw2
    clear hw2
    go_simp
  clear hK K
  simp only [Act.put, List.setIfInBounds_toArray, List.set_cons_succ, List.set_cons_zero]
  refine wpQuiet_take (by rfl) (fun K hK => ⟨.agg #[.int .i64 kd, .int .i64 S, .int .i64 O, .int .i64 N, .int .i64 C, .bool F, .string D, .string X, v], fun w2' hw2 => ?_, hK _ ?_⟩)
  · obtain ⟨c0, c1, c2, c3, c4, c5, c6, c7, c8⟩ := CX.out w2' hw2
    clear hw2
    go_simp
  clear hK K
  simp only [Act.put, List.setIfInBounds_toArray, List.set_cons_succ, List.set_cons_zero]
  refine wpQuiet_take (by rfl) (fun K hK => ⟨.int .i64 mn, fun w2' hw2 => ?_, hK _ ?_⟩)
  · go_simp
    go_at_call 43
    refine (MN.out w2').mono ?_
    rintro e w5 ⟨rfl, hb5⟩
    exact ⟨rfl, hw2.trans (hb5.mono hw2.size)⟩
  clear hK K
  simp only [Act.put, List.setIfInBounds_toArray, List.set_cons_succ, List.set_cons_zero]
  refine wpQuiet_take (by rfl) (fun K hK => ⟨.bool (withinB N 0 mn), fun w2' hw2 => ?_, hK _ ?_⟩)
  · go_simp
    go_at_call 41
    refine (within_any _ _ _ _).mono ?_
    rintro e w5 ⟨rfl, hb5⟩
    exact ⟨rfl, hb5 ▸ hw2⟩
  clear hK K
  simp only [Act.put, List.setIfInBounds_toArray, List.set_cons_succ, List.set_cons_zero]
  refine wpQuiet_take0 ?_
  intro w11 hb11
  have H11 := Lib.hid (BEL.out.trans (hb11.mono BEL.out.size))
  clear hb11
  go_wp2_with fail
  go_ret
  exact ⟨ret_bool R.out, H11.out⟩
set_option maxHeartbeats 8000000 in
theorem fits_3 (f : Fr) (v : Value) (w : World) (hA : SpansIn w v f.A) (hD : f.D.size ≤ maxLen) (hX : f.X.size ≤ maxLen) : Calls Tryd.prog 26 #[.agg (f.cells v), .int .i64 3] w fun e w' => e = .returned (.bool (decide (fitsF f 3))) ∧ Below w.heap.size w w' := by
  obtain ⟨m, hm⟩ : ∃ m, decide (fitsF f 3) = m := ⟨_, rfl⟩
  rw [hm]
  have HM := Lib.hid hm
  have HA := Lib.hid hA
  have MO := Lib.hid (mostOff_any f v)
  have MN := Lib.hid (mostN_any f v)
  have LD := Lib.hid (leastData_any f v)
  obtain ⟨mo, hmo⟩ : ∃ x, mostO f = x := ⟨_, rfl⟩
  obtain ⟨mn, hmn⟩ : ∃ x, mostN f = x := ⟨_, rfl⟩
  obtain ⟨ld, hld⟩ : ∃ x, leastD f = x := ⟨_, rfl⟩
  rw [hmo] at MO
  rw [hmn] at MN
  rw [hld] at LD
  have HMO := Lib.hid hmo
  have HMN := Lib.hid hmn
  have HLD := Lib.hid hld
  have FA := Lib.hid (fun (w' : World) (h : SpansIn w' v f.A) => falling_any v f.A w' h)
  have hD2 : (f.D.size : Int) ≤ 9223372036854775807 := by unfold maxLen at hD; omega
  have hX2 : (f.X.size : Int) ≤ 9223372036854775807 := by unfold maxLen at hX; omega
  clear hm hmo hmn hld hA hD hX
  obtain ⟨kd, S, O, N, C, F, D, X, A⟩ := f
  dsimp only [Fr.cells] at *
  unfold frC at *
  have row := heap_alloc_last w (.cells #[.int .i64 kd, .int .i64 S, .int .i64 O, .int .i64 N, .int .i64 C, .bool F, .string D, .string X, v] 33)
  have bel := (Below.refl w.heap.size w).alloc (Nat.le_refl _) (.cells #[.int .i64 kd, .int .i64 S, .int .i64 O, .int .i64 N, .int .i64 C, .bool F, .string D, .string X, v] 33)
  go_enter Tryd.func26, Tryd.ntmps26
  go_upto_region 1 with (fail)
  generalize w.alloc _ = wa at *
  have BEL := Lib.hid bel
  have CX := Lib.hid (fun (w' : World) (hb : Below wa.heap.size wa w') => cells9 ((hb.block _ (lt_row row)).trans row))
  have hlt := lt_row row
  clear row bel
  have R : Hid (m = withinB C 0 4611686018427387903) := Lib.hid (within_dec HM.out Iff.rfl)
  go_upto_region 9 with (fail)
  obtain ⟨c0, c1, c2, c3, c4, c5, c6, c7, c8⟩ := CX.out wa (Below.refl _ _)
  clear HM MO MN LD FA HMO HMN HLD HA
  go_wp2_with fail
  with_reducible refine (within_any _ _ _ _).mono ?_
  rintro e w' ⟨rfl, rfl⟩
  go_wp2_with fail
  go_ret
  exact ⟨ret_bool R.out, BEL.out⟩
set_option maxHeartbeats 8000000 in
theorem fits_4 (f : Fr) (v : Value) (w : World) (hA : SpansIn w v f.A) (hD : f.D.size ≤ maxLen) (hX : f.X.size ≤ maxLen) : Calls Tryd.prog 26 #[.agg (f.cells v), .int .i64 4] w fun e w' => e = .returned (.bool (decide (fitsF f 4))) ∧ Below w.heap.size w w' := by
  obtain ⟨m, hm⟩ : ∃ m, decide (fitsF f 4) = m := ⟨_, rfl⟩
  rw [hm]
  have HM := Lib.hid hm
  have HA := Lib.hid hA
  have MO := Lib.hid (mostOff_any f v)
  have MN := Lib.hid (mostN_any f v)
  have LD := Lib.hid (leastData_any f v)
  obtain ⟨mo, hmo⟩ : ∃ x, mostO f = x := ⟨_, rfl⟩
  obtain ⟨mn, hmn⟩ : ∃ x, mostN f = x := ⟨_, rfl⟩
  obtain ⟨ld, hld⟩ : ∃ x, leastD f = x := ⟨_, rfl⟩
  rw [hmo] at MO
  rw [hmn] at MN
  rw [hld] at LD
  have HMO := Lib.hid hmo
  have HMN := Lib.hid hmn
  have HLD := Lib.hid hld
  have FA := Lib.hid (fun (w' : World) (h : SpansIn w' v f.A) => falling_any v f.A w' h)
  have hD2 : (f.D.size : Int) ≤ 9223372036854775807 := by unfold maxLen at hD; omega
  have hX2 : (f.X.size : Int) ≤ 9223372036854775807 := by unfold maxLen at hX; omega
  clear hm hmo hmn hld hA hD hX
  obtain ⟨kd, S, O, N, C, F, D, X, A⟩ := f
  dsimp only [Fr.cells] at *
  unfold frC at *
  have row := heap_alloc_last w (.cells #[.int .i64 kd, .int .i64 S, .int .i64 O, .int .i64 N, .int .i64 C, .bool F, .string D, .string X, v] 33)
  have bel := (Below.refl w.heap.size w).alloc (Nat.le_refl _) (.cells #[.int .i64 kd, .int .i64 S, .int .i64 O, .int .i64 N, .int .i64 C, .bool F, .string D, .string X, v] 33)
  go_enter Tryd.func26, Tryd.ntmps26
  go_upto_region 1 with (fail)
  generalize w.alloc _ = wa at *
  have BEL := Lib.hid bel
  have CX := Lib.hid (fun (w' : World) (hb : Below wa.heap.size wa w') => cells9 ((hb.block _ (lt_row row)).trans row))
  have hlt := lt_row row
  clear row bel
  have R : Hid (m = withinB (D.size : Int) ld 65535) := Lib.hid (within_dec HM.out (by rw [← HLD.out]; exact Iff.rfl))
  clear HM FA HA
  go_upto_region 12 with (fail)
  refine region_class1 6 (fun w' => Below wa.heap.size wa w') mixedOrders (by kernel_rfl) (Below.refl _ _).drew rfl ?_
  refine wpQuiet_take (by rfl) (fun K hK => ⟨.pointer (some ⟨w.heap.size, 6, none⟩), fun w2' hw2 => ?_, hK _ ?_⟩)
  · clear hw2; go_simp
  clear hK K
  simp only [Act.put, List.setIfInBounds_toArray, List.set_cons_succ, List.set_cons_zero]
  refine wpQuiet_take (by rfl) (fun K hK => ⟨.string D, fun w2' hw2 => ?_, hK _ ?_⟩)
  · obtain ⟨c0, c1, c2, c3, c4, c5, c6, c7, c8⟩ := CX.out w2' hw2
    clear hw2
    go_simp
  clear hK K
  simp only [Act.put, List.setIfInBounds_toArray, List.set_cons_succ, List.set_cons_zero]
  refine wpQuiet_take (by rfl) (fun K hK => ⟨.int .i64 (D.size : Int), fun w2' hw2 => ?_, hK _ ?_⟩)
  · clear hw2; go_simp
  clear hK K
  simp only [Act.put, List.setIfInBounds_toArray, List.set_cons_succ, List.set_cons_zero]
  refine wpQuiet_take (by rfl) (fun K hK => ⟨.agg #[.int .i64 kd, .int .i64 S, .int .i64 O, .int .i64 N, .int .i64 C, .bool F, .string D, .string X, v], fun w2' hw2 => ?_, hK _ ?_⟩)
  · obtain ⟨c0, c1, c2, c3, c4, c5, c6, c7, c8⟩ := CX.out w2' hw2
    clear hw2
    go_simp
  clear hK K
  simp only [Act.put, List.setIfInBounds_toArray, List.set_cons_succ, List.set_cons_zero]
  refine wpQuiet_take (by rfl) (fun K hK => ⟨.int .i64 ld, fun w2' hw2 => ?_, hK _ ?_⟩)
  · go_simp
    go_at_call 44
    refine (LD.out w2').mono ?_
    rintro e w5 ⟨rfl, hb5⟩
    exact ⟨rfl, hw2.trans (hb5.mono hw2.size)⟩
  clear hK K
  simp only [Act.put, List.setIfInBounds_toArray, List.set_cons_succ, List.set_cons_zero]
  refine wpQuiet_take (by rfl) (fun K hK => ⟨.bool (withinB (D.size : Int) ld 65535), fun w2' hw2 => ?_, hK _ ?_⟩)
  · go_simp
    go_at_call 41
    refine (within_any _ _ _ _).mono ?_
    rintro e w5 ⟨rfl, hb5⟩
    exact ⟨rfl, hb5 ▸ hw2⟩
  clear hK K
  simp only [Act.put, List.setIfInBounds_toArray, List.set_cons_succ, List.set_cons_zero]
  refine wpQuiet_take0 ?_
  intro w11 hb11
  have H11 := Lib.hid (BEL.out.trans (hb11.mono BEL.out.size))
  clear hb11
  go_wp2_with fail
  go_ret
  exact ⟨ret_bool R.out, H11.out⟩
set_option maxHeartbeats 8000000 in
theorem fits_5 (f : Fr) (v : Value) (w : World) (hA : SpansIn w v f.A) (hD : f.D.size ≤ maxLen) (hX : f.X.size ≤ maxLen) : Calls Tryd.prog 26 #[.agg (f.cells v), .int .i64 5] w fun e w' => e = .returned (.bool (decide (fitsF f 5))) ∧ Below w.heap.size w w' := by
  obtain ⟨m, hm⟩ : ∃ m, decide (fitsF f 5) = m := ⟨_, rfl⟩
  rw [hm]
  have HM := Lib.hid hm
  have HA := Lib.hid hA
  have MO := Lib.hid (mostOff_any f v)
  have MN := Lib.hid (mostN_any f v)
  have LD := Lib.hid (leastData_any f v)
  obtain ⟨mo, hmo⟩ : ∃ x, mostO f = x := ⟨_, rfl⟩
  obtain ⟨mn, hmn⟩ : ∃ x, mostN f = x := ⟨_, rfl⟩
  obtain ⟨ld, hld⟩ : ∃ x, leastD f = x := ⟨_, rfl⟩
  rw [hmo] at MO
  rw [hmn] at MN
  rw [hld] at LD
  have HMO := Lib.hid hmo
  have HMN := Lib.hid hmn
  have HLD := Lib.hid hld
  have FA := Lib.hid (fun (w' : World) (h : SpansIn w' v f.A) => falling_any v f.A w' h)
  have hD2 : (f.D.size : Int) ≤ 9223372036854775807 := by unfold maxLen at hD; omega
  have hX2 : (f.X.size : Int) ≤ 9223372036854775807 := by unfold maxLen at hX; omega
  clear hm hmo hmn hld hA hD hX
  obtain ⟨kd, S, O, N, C, F, D, X, A⟩ := f
  dsimp only [Fr.cells] at *
  unfold frC at *
  have row := heap_alloc_last w (.cells #[.int .i64 kd, .int .i64 S, .int .i64 O, .int .i64 N, .int .i64 C, .bool F, .string D, .string X, v] 33)
  have bel := (Below.refl w.heap.size w).alloc (Nat.le_refl _) (.cells #[.int .i64 kd, .int .i64 S, .int .i64 O, .int .i64 N, .int .i64 C, .bool F, .string D, .string X, v] 33)
  go_enter Tryd.func26, Tryd.ntmps26
  go_upto_region 1 with (fail)
  generalize w.alloc _ = wa at *
  have BEL := Lib.hid bel
  have CX := Lib.hid (fun (w' : World) (hb : Below wa.heap.size wa w') => cells9 ((hb.block _ (lt_row row)).trans row))
  have hlt := lt_row row
  clear row bel
  have R : Hid (m = withinB (D.size : Int) ld 65535) := Lib.hid (within_dec HM.out (by rw [← HLD.out]; exact Iff.rfl))
  clear HM FA HA
  go_upto_region 12 with (fail)
  refine region_class1 6 (fun w' => Below wa.heap.size wa w') mixedOrders (by kernel_rfl) (Below.refl _ _).drew rfl ?_
  refine wpQuiet_take (by rfl) (fun K hK => ⟨.pointer (some ⟨w.heap.size, 6, none⟩), fun w2' hw2 => ?_, hK _ ?_⟩)
  · clear hw2; go_simp
  clear hK K
  simp only [Act.put, List.setIfInBounds_toArray, List.set_cons_succ, List.set_cons_zero]
  refine wpQuiet_take (by rfl) (fun K hK => ⟨.string D, fun w2' hw2 => ?_, hK _ ?_⟩)
  · obtain ⟨c0, c1, c2, c3, c4, c5, c6, c7, c8⟩ := CX.out w2' hw2
    clear hw2
    go_simp
  clear hK K
  simp only [Act.put, List.setIfInBounds_toArray, List.set_cons_succ, List.set_cons_zero]
  refine wpQuiet_take (by rfl) (fun K hK => ⟨.int .i64 (D.size : Int), fun w2' hw2 => ?_, hK _ ?_⟩)
  · clear hw2; go_simp
  clear hK K
  simp only [Act.put, List.setIfInBounds_toArray, List.set_cons_succ, List.set_cons_zero]
  refine wpQuiet_take (by rfl) (fun K hK => ⟨.agg #[.int .i64 kd, .int .i64 S, .int .i64 O, .int .i64 N, .int .i64 C, .bool F, .string D, .string X, v], fun w2' hw2 => ?_, hK _ ?_⟩)
  · obtain ⟨c0, c1, c2, c3, c4, c5, c6, c7, c8⟩ := CX.out w2' hw2
    clear hw2
    go_simp
  clear hK K
  simp only [Act.put, List.setIfInBounds_toArray, List.set_cons_succ, List.set_cons_zero]
  refine wpQuiet_take (by rfl) (fun K hK => ⟨.int .i64 ld, fun w2' hw2 => ?_, hK _ ?_⟩)
  · go_simp
    go_at_call 44
    refine (LD.out w2').mono ?_
    rintro e w5 ⟨rfl, hb5⟩
    exact ⟨rfl, hw2.trans (hb5.mono hw2.size)⟩
  clear hK K
  simp only [Act.put, List.setIfInBounds_toArray, List.set_cons_succ, List.set_cons_zero]
  refine wpQuiet_take (by rfl) (fun K hK => ⟨.bool (withinB (D.size : Int) ld 65535), fun w2' hw2 => ?_, hK _ ?_⟩)
  · go_simp
    go_at_call 41
    refine (within_any _ _ _ _).mono ?_
    rintro e w5 ⟨rfl, hb5⟩
    exact ⟨rfl, hb5 ▸ hw2⟩
  clear hK K
  simp only [Act.put, List.setIfInBounds_toArray, List.set_cons_succ, List.set_cons_zero]
  refine wpQuiet_take0 ?_
  intro w11 hb11
  have H11 := Lib.hid (BEL.out.trans (hb11.mono BEL.out.size))
  clear hb11
  go_wp2_with fail
  go_ret
  exact ⟨ret_bool R.out, H11.out⟩
set_option maxHeartbeats 8000000 in
theorem fits_6 (f : Fr) (v : Value) (w : World) (hA : SpansIn w v f.A) (hD : f.D.size ≤ maxLen) (hX : f.X.size ≤ maxLen) : Calls Tryd.prog 26 #[.agg (f.cells v), .int .i64 6] w fun e w' => e = .returned (.bool (decide (fitsF f 6))) ∧ Below w.heap.size w w' := by
  obtain ⟨m, hm⟩ : ∃ m, decide (fitsF f 6) = m := ⟨_, rfl⟩
  rw [hm]
  have HM := Lib.hid hm
  have HA := Lib.hid hA
  have MO := Lib.hid (mostOff_any f v)
  have MN := Lib.hid (mostN_any f v)
  have LD := Lib.hid (leastData_any f v)
  obtain ⟨mo, hmo⟩ : ∃ x, mostO f = x := ⟨_, rfl⟩
  obtain ⟨mn, hmn⟩ : ∃ x, mostN f = x := ⟨_, rfl⟩
  obtain ⟨ld, hld⟩ : ∃ x, leastD f = x := ⟨_, rfl⟩
  rw [hmo] at MO
  rw [hmn] at MN
  rw [hld] at LD
  have HMO := Lib.hid hmo
  have HMN := Lib.hid hmn
  have HLD := Lib.hid hld
  have FA := Lib.hid (fun (w' : World) (h : SpansIn w' v f.A) => falling_any v f.A w' h)
  have hD2 : (f.D.size : Int) ≤ 9223372036854775807 := by unfold maxLen at hD; omega
  have hX2 : (f.X.size : Int) ≤ 9223372036854775807 := by unfold maxLen at hX; omega
  clear hm hmo hmn hld hA hD hX
  obtain ⟨kd, S, O, N, C, F, D, X, A⟩ := f
  dsimp only [Fr.cells] at *
  unfold frC at *
  have row := heap_alloc_last w (.cells #[.int .i64 kd, .int .i64 S, .int .i64 O, .int .i64 N, .int .i64 C, .bool F, .string D, .string X, v] 33)
  have bel := (Below.refl w.heap.size w).alloc (Nat.le_refl _) (.cells #[.int .i64 kd, .int .i64 S, .int .i64 O, .int .i64 N, .int .i64 C, .bool F, .string D, .string X, v] 33)
  go_enter Tryd.func26, Tryd.ntmps26
  go_upto_region 1 with (fail)
  generalize w.alloc _ = wa at *
  have BEL := Lib.hid bel
  have CX := Lib.hid (fun (w' : World) (hb : Below wa.heap.size wa w') => cells9 ((hb.block _ (lt_row row)).trans row))
  have hlt := lt_row row
  clear row bel
  have R : Hid (m = withinB (D.size : Int) 1 20) := Lib.hid (within_dec HM.out Iff.rfl)
  go_upto_region 14 with (fail)
  obtain ⟨c0, c1, c2, c3, c4, c5, c6, c7, c8⟩ := CX.out wa (Below.refl _ _)
  clear HM MO MN LD FA HMO HMN HLD HA
  go_wp2_with fail
  with_reducible refine (within_any _ _ _ _).mono ?_
  rintro e w' ⟨rfl, rfl⟩
  go_wp2_with fail
  go_ret
  exact ⟨ret_bool R.out, BEL.out⟩
set_option maxHeartbeats 8000000 in
theorem fits_7 (f : Fr) (v : Value) (w : World) (hA : SpansIn w v f.A) (hD : f.D.size ≤ maxLen) (hX : f.X.size ≤ maxLen) : Calls Tryd.prog 26 #[.agg (f.cells v), .int .i64 7] w fun e w' => e = .returned (.bool (decide (fitsF f 7))) ∧ Below w.heap.size w w' := by
  obtain ⟨m, hm⟩ : ∃ m, decide (fitsF f 7) = m := ⟨_, rfl⟩
  rw [hm]
  have HM := Lib.hid hm
  have HA := Lib.hid hA
  have MO := Lib.hid (mostOff_any f v)
  have MN := Lib.hid (mostN_any f v)
  have LD := Lib.hid (leastData_any f v)
  obtain ⟨mo, hmo⟩ : ∃ x, mostO f = x := ⟨_, rfl⟩
  obtain ⟨mn, hmn⟩ : ∃ x, mostN f = x := ⟨_, rfl⟩
  obtain ⟨ld, hld⟩ : ∃ x, leastD f = x := ⟨_, rfl⟩
  rw [hmo] at MO
  rw [hmn] at MN
  rw [hld] at LD
  have HMO := Lib.hid hmo
  have HMN := Lib.hid hmn
  have HLD := Lib.hid hld
  have FA := Lib.hid (fun (w' : World) (h : SpansIn w' v f.A) => falling_any v f.A w' h)
  have hD2 : (f.D.size : Int) ≤ 9223372036854775807 := by unfold maxLen at hD; omega
  have hX2 : (f.X.size : Int) ≤ 9223372036854775807 := by unfold maxLen at hX; omega
  clear hm hmo hmn hld hA hD hX
  obtain ⟨kd, S, O, N, C, F, D, X, A⟩ := f
  dsimp only [Fr.cells] at *
  unfold frC at *
  have row := heap_alloc_last w (.cells #[.int .i64 kd, .int .i64 S, .int .i64 O, .int .i64 N, .int .i64 C, .bool F, .string D, .string X, v] 33)
  have bel := (Below.refl w.heap.size w).alloc (Nat.le_refl _) (.cells #[.int .i64 kd, .int .i64 S, .int .i64 O, .int .i64 N, .int .i64 C, .bool F, .string D, .string X, v] 33)
  go_enter Tryd.func26, Tryd.ntmps26
  go_upto_region 1 with (fail)
  generalize w.alloc _ = wa at *
  have BEL := Lib.hid bel
  have CX := Lib.hid (fun (w' : World) (hb : Below wa.heap.size wa w') => cells9 ((hb.block _ (lt_row row)).trans row))
  have hlt := lt_row row
  clear row bel
  have R : Hid (m = decide ((D.size : Int) = 8)) := Lib.hid (HM.out.symm.trans (decide_eq_decide.2 Iff.rfl))
  go_upto_region 16 with (fail)
  obtain ⟨c0, c1, c2, c3, c4, c5, c6, c7, c8⟩ := CX.out wa (Below.refl _ _)
  clear HM MO MN LD FA HMO HMN HLD HA
  by_cases h : (D.size : Int) = 8
  · have e1 : ((D.size : Int) == 8) = true := by simp [h]
    have R2 := Lib.hid (R.out.trans (decide_eq_true h))
    go_wp2_with fail
    go_ret
    exact ⟨ret_bool R2.out, BEL.out⟩
  · have e1 : ((D.size : Int) == 8) = false := by simp [h]
    have R2 := Lib.hid (R.out.trans (decide_eq_false h))
    go_wp2_with fail
    go_ret
    exact ⟨ret_bool R2.out, BEL.out⟩
set_option maxHeartbeats 8000000 in
theorem fits_8 (f : Fr) (v : Value) (w : World) (hA : SpansIn w v f.A) (hD : f.D.size ≤ maxLen) (hX : f.X.size ≤ maxLen) : Calls Tryd.prog 26 #[.agg (f.cells v), .int .i64 8] w fun e w' => e = .returned (.bool (decide (fitsF f 8))) ∧ Below w.heap.size w w' := by
  obtain ⟨m, hm⟩ : ∃ m, decide (fitsF f 8) = m := ⟨_, rfl⟩
  rw [hm]
  have HM := Lib.hid hm
  have HA := Lib.hid hA
  have MO := Lib.hid (mostOff_any f v)
  have MN := Lib.hid (mostN_any f v)
  have LD := Lib.hid (leastData_any f v)
  obtain ⟨mo, hmo⟩ : ∃ x, mostO f = x := ⟨_, rfl⟩
  obtain ⟨mn, hmn⟩ : ∃ x, mostN f = x := ⟨_, rfl⟩
  obtain ⟨ld, hld⟩ : ∃ x, leastD f = x := ⟨_, rfl⟩
  rw [hmo] at MO
  rw [hmn] at MN
  rw [hld] at LD
  have HMO := Lib.hid hmo
  have HMN := Lib.hid hmn
  have HLD := Lib.hid hld
  have FA := Lib.hid (fun (w' : World) (h : SpansIn w' v f.A) => falling_any v f.A w' h)
  have hD2 : (f.D.size : Int) ≤ 9223372036854775807 := by unfold maxLen at hD; omega
  have hX2 : (f.X.size : Int) ≤ 9223372036854775807 := by unfold maxLen at hX; omega
  clear hm hmo hmn hld hA hD hX
  obtain ⟨kd, S, O, N, C, F, D, X, A⟩ := f
  dsimp only [Fr.cells] at *
  unfold frC at *
  have row := heap_alloc_last w (.cells #[.int .i64 kd, .int .i64 S, .int .i64 O, .int .i64 N, .int .i64 C, .bool F, .string D, .string X, v] 33)
  have bel := (Below.refl w.heap.size w).alloc (Nat.le_refl _) (.cells #[.int .i64 kd, .int .i64 S, .int .i64 O, .int .i64 N, .int .i64 C, .bool F, .string D, .string X, v] 33)
  go_enter Tryd.func26, Tryd.ntmps26
  go_upto_region 1 with (fail)
  generalize w.alloc _ = wa at *
  have BEL := Lib.hid bel
  have CX := Lib.hid (fun (w' : World) (hb : Below wa.heap.size wa w') => cells9 ((hb.block _ (lt_row row)).trans row))
  have hlt := lt_row row
  clear row bel
  have R : Hid (m = decide ((X.size : Int) = 16)) := Lib.hid (HM.out.symm.trans (decide_eq_decide.2 Iff.rfl))
  go_upto_region 18 with (fail)
  obtain ⟨c0, c1, c2, c3, c4, c5, c6, c7, c8⟩ := CX.out wa (Below.refl _ _)
  clear HM MO MN LD FA HMO HMN HLD HA
  by_cases h : (X.size : Int) = 16
  · have e1 : ((X.size : Int) == 16) = true := by simp [h]
    have R2 := Lib.hid (R.out.trans (decide_eq_true h))
    go_wp2_with fail
    go_ret
    exact ⟨ret_bool R2.out, BEL.out⟩
  · have e1 : ((X.size : Int) == 16) = false := by simp [h]
    have R2 := Lib.hid (R.out.trans (decide_eq_false h))
    go_wp2_with fail
    go_ret
    exact ⟨ret_bool R2.out, BEL.out⟩
set_option maxHeartbeats 8000000 in
theorem fits_9 (f : Fr) (v : Value) (w : World) (hA : SpansIn w v f.A) (hD : f.D.size ≤ maxLen) (hX : f.X.size ≤ maxLen) : Calls Tryd.prog 26 #[.agg (f.cells v), .int .i64 9] w fun e w' => e = .returned (.bool (decide (fitsF f 9))) ∧ Below w.heap.size w w' := by
  obtain ⟨m, hm⟩ : ∃ m, decide (fitsF f 9) = m := ⟨_, rfl⟩
  rw [hm]
  have HM := Lib.hid hm
  have HA := Lib.hid hA
  have MO := Lib.hid (mostOff_any f v)
  have MN := Lib.hid (mostN_any f v)
  have LD := Lib.hid (leastData_any f v)
  obtain ⟨mo, hmo⟩ : ∃ x, mostO f = x := ⟨_, rfl⟩
  obtain ⟨mn, hmn⟩ : ∃ x, mostN f = x := ⟨_, rfl⟩
  obtain ⟨ld, hld⟩ : ∃ x, leastD f = x := ⟨_, rfl⟩
  rw [hmo] at MO
  rw [hmn] at MN
  rw [hld] at LD
  have HMO := Lib.hid hmo
  have HMN := Lib.hid hmn
  have HLD := Lib.hid hld
  have FA := Lib.hid (fun (w' : World) (h : SpansIn w' v f.A) => falling_any v f.A w' h)
  have hD2 : (f.D.size : Int) ≤ 9223372036854775807 := by unfold maxLen at hD; omega
  have hX2 : (f.X.size : Int) ≤ 9223372036854775807 := by unfold maxLen at hX; omega
  clear hm hmo hmn hld hA hD hX
  obtain ⟨kd, S, O, N, C, F, D, X, A⟩ := f
  dsimp only [Fr.cells] at *
  unfold frC at *
  have row := heap_alloc_last w (.cells #[.int .i64 kd, .int .i64 S, .int .i64 O, .int .i64 N, .int .i64 C, .bool F, .string D, .string X, v] 33)
  have bel := (Below.refl w.heap.size w).alloc (Nat.le_refl _) (.cells #[.int .i64 kd, .int .i64 S, .int .i64 O, .int .i64 N, .int .i64 C, .bool F, .string D, .string X, v] 33)
  go_enter Tryd.func26, Tryd.ntmps26
  go_upto_region 1 with (fail)
  generalize w.alloc _ = wa at *
  have BEL := Lib.hid bel
  have CX := Lib.hid (fun (w' : World) (hb : Below wa.heap.size wa w') => cells9 ((hb.block _ (lt_row row)).trans row))
  have hlt := lt_row row
  clear row bel
  have WI := Lib.hid (fun (w' : World) => within_any N 0 4611686018427387903 w')
  go_upto_region 20 with (fail)
  obtain ⟨c0, c1, c2, c3, c4, c5, c6, c7, c8⟩ := CX.out wa (Below.refl _ _)
  by_cases h : 0 ≤ N ∧ N ≤ 4611686018427387903
  · have D1 := Lib.hid (within_t h)
    have R : Hid (m = decide (falling A)) := Lib.hid (HM.out.symm.trans (decide_eq_decide.2 ⟨fun x => x.2, fun x => ⟨h, x⟩⟩))
    clear HM MO MN LD HMO HMN HLD h
    go_wp2_with fail
    with_reducible refine (WI.out _).mono ?_
    rintro e w' ⟨rfl, rfl⟩
    rw [D1.out]
    go_wp2_with fail
    with_reducible refine (FA.out wa (HA.out.later BEL.out)).mono ?_
    rintro e w' ⟨rfl, hb⟩
    have HB := Lib.hid (BEL.out.trans (hb.mono BEL.out.size))
    clear hb
    go_wp2_with fail
    go_ret
    exact ⟨ret_bool R.out, HB.out⟩
  · have D1 := Lib.hid (within_f h)
    have R : Hid (m = false) := Lib.hid (HM.out.symm.trans (decide_eq_false (fun x => h x.1)))
    clear HM MO MN LD HMO HMN HLD h FA HA
    go_wp2_with fail
    with_reducible refine (WI.out _).mono ?_
    rintro e w' ⟨rfl, rfl⟩
    rw [D1.out]
    go_wp2_with fail
    go_ret
    exact ⟨ret_bool R.out, BEL.out⟩
set_option maxHeartbeats 8000000 in
theorem fits_10 (f : Fr) (v : Value) (w : World) (hA : SpansIn w v f.A) (hD : f.D.size ≤ maxLen) (hX : f.X.size ≤ maxLen) : Calls Tryd.prog 26 #[.agg (f.cells v), .int .i64 10] w fun e w' => e = .returned (.bool (decide (fitsF f 10))) ∧ Below w.heap.size w w' := by
  obtain ⟨m, hm⟩ : ∃ m, decide (fitsF f 10) = m := ⟨_, rfl⟩
  rw [hm]
  have HM := Lib.hid hm
  have HA := Lib.hid hA
  have MO := Lib.hid (mostOff_any f v)
  have MN := Lib.hid (mostN_any f v)
  have LD := Lib.hid (leastData_any f v)
  obtain ⟨mo, hmo⟩ : ∃ x, mostO f = x := ⟨_, rfl⟩
  obtain ⟨mn, hmn⟩ : ∃ x, mostN f = x := ⟨_, rfl⟩
  obtain ⟨ld, hld⟩ : ∃ x, leastD f = x := ⟨_, rfl⟩
  rw [hmo] at MO
  rw [hmn] at MN
  rw [hld] at LD
  have HMO := Lib.hid hmo
  have HMN := Lib.hid hmn
  have HLD := Lib.hid hld
  have FA := Lib.hid (fun (w' : World) (h : SpansIn w' v f.A) => falling_any v f.A w' h)
  have hD2 : (f.D.size : Int) ≤ 9223372036854775807 := by unfold maxLen at hD; omega
  have hX2 : (f.X.size : Int) ≤ 9223372036854775807 := by unfold maxLen at hX; omega
  clear hm hmo hmn hld hA hD hX
  obtain ⟨kd, S, O, N, C, F, D, X, A⟩ := f
  dsimp only [Fr.cells] at *
  unfold frC at *
  have row := heap_alloc_last w (.cells #[.int .i64 kd, .int .i64 S, .int .i64 O, .int .i64 N, .int .i64 C, .bool F, .string D, .string X, v] 33)
  have bel := (Below.refl w.heap.size w).alloc (Nat.le_refl _) (.cells #[.int .i64 kd, .int .i64 S, .int .i64 O, .int .i64 N, .int .i64 C, .bool F, .string D, .string X, v] 33)
  go_enter Tryd.func26, Tryd.ntmps26
  go_upto_region 1 with (fail)
  generalize w.alloc _ = wa at *
  have BEL := Lib.hid bel
  have CX := Lib.hid (fun (w' : World) (hb : Below wa.heap.size wa w') => cells9 ((hb.block _ (lt_row row)).trans row))
  have hlt := lt_row row
  clear row bel
  have R : Hid (m = withinB N 1 65535) := Lib.hid (within_dec HM.out Iff.rfl)
  go_upto_region 22 with (fail)
  obtain ⟨c0, c1, c2, c3, c4, c5, c6, c7, c8⟩ := CX.out wa (Below.refl _ _)
  clear HM MO MN LD FA HMO HMN HLD HA
  go_wp2_with fail
  with_reducible refine (within_any _ _ _ _).mono ?_
  rintro e w' ⟨rfl, rfl⟩
  go_wp2_with fail
  go_ret
  exact ⟨ret_bool R.out, BEL.out⟩
theorem fits_any (f : Fr) (v : Value) (p : Nat) (hp : p ≤ 10) (w : World) (hA : SpansIn w v f.A) (hD : f.D.size ≤ maxLen) (hX : f.X.size ≤ maxLen) : Calls Tryd.prog 26 #[.agg (f.cells v), .int .i64 (p : Int)] w fun e w' => e = .returned (.bool (decide (fitsF f p))) ∧ Below w.heap.size w w' := by
  match p, hp with
  | 0, _ => exact fits_0 f v w hA hD hX
  | 1, _ => exact fits_1 f v w hA hD hX
  | 2, _ => exact fits_2 f v w hA hD hX
  | 3, _ => exact fits_3 f v w hA hD hX
  | 4, _ => exact fits_4 f v w hA hD hX
  | 5, _ => exact fits_5 f v w hA hD hX
  | 6, _ => exact fits_6 f v w hA hD hX
  | 7, _ => exact fits_7 f v w hA hD hX
  | 8, _ => exact fits_8 f v w hA hD hX
  | 9, _ => exact fits_9 f v w hA hD hX
  | 10, _ => exact fits_10 f v w hA hD hX
end Go.Proofs.YtcgbhcmgddgheabDoor
