/-
  CurveTwice holds: a point taken as often as one number, and that as often as another, is the same the other way round in Times of curve, wherever it began; and Public is Times of nine. No conditions.
-/
import Derived.Test.YtmfiabkhnoimhaaRows
import Derived.Test.YtmfiabkhnoimhaaCurveH
import Derived.Test.YtmfiabkhnoimhaaCurveK
import Derived.WalkKit
import Derived.ProofKit
import Derived.OpenShut
import Derived.ShutString
import Derived.ChangeOld
import Derived.Below
import Derived.Deep.DeepCutAuto
import Derived.Deep.Upon
import Derived.Deep.AppendSrc
import Derived.SizedLaws
namespace Go.Proofs.Ytmfiabkhnoimhaa.curveTwice
open Go Go.ChangeShapes Go.WideShapes Go.ChangeAt Go.RowKit Go.BigFrame
set_option linter.unusedVariables false
theorem own : ownKnob Try.prog.godebug = none := by kernel_rfl
theorem laidOut : laidOutB Try.prog = true := by kernel_rfl
set_option maxHeartbeats 40000000 in
set_option maxRecDepth 100000 in
theorem law_core (f g h u v o n : Nat → BitVec 8)
    (U1 : ∀ w : World, Calls Try.prog 8 #[.agg (b32 g), .agg (b32 h)] w fun e w' => e = .returned (.agg (b32 u)) ∧ Below w.heap.size w w')
    (U2 : ∀ w : World, Calls Try.prog 8 #[.agg (b32 f), .agg (b32 u)] w fun e w' => e = .returned (.agg (b32 o)) ∧ Below w.heap.size w w')
    (U3 : ∀ w : World, Calls Try.prog 8 #[.agg (b32 f), .agg (b32 h)] w fun e w' => e = .returned (.agg (b32 v)) ∧ Below w.heap.size w w')
    (U4 : ∀ w : World, Calls Try.prog 8 #[.agg (b32 g), .agg (b32 v)] w fun e w' => e = .returned (.agg (b32 o)) ∧ Below w.heap.size w w')
    (U5 : ∀ w : World, Calls Try.prog 11 #[.agg (b32 f)] w fun e w' => e = .returned (.agg (b32 n)) ∧ Below w.heap.size w w')
    (U6 : ∀ w : World, Calls Try.prog 8 #[.agg (b32 f), .agg #[.int .u8 9, .int .u8 0, .int .u8 0, .int .u8 0, .int .u8 0, .int .u8 0, .int .u8 0, .int .u8 0, .int .u8 0, .int .u8 0, .int .u8 0, .int .u8 0, .int .u8 0, .int .u8 0, .int .u8 0, .int .u8 0, .int .u8 0, .int .u8 0, .int .u8 0, .int .u8 0, .int .u8 0, .int .u8 0, .int .u8 0, .int .u8 0, .int .u8 0, .int .u8 0, .int .u8 0, .int .u8 0, .int .u8 0, .int .u8 0, .int .u8 0, .int .u8 0]] w fun e w' => e = .returned (.agg (b32 n)) ∧ Below w.heap.size w w') (w : World) :
    Calls Try.prog 7 #[.agg (b32 f), .agg (b32 g), .agg (b32 h)] w fun e w' => e = .returned (.bool true) ∧ Below w.heap.size w w' := by
  have V1 := Lib.hid U1; have V2 := Lib.hid U2; have V3 := Lib.hid U3; have V4 := Lib.hid U4; have V5 := Lib.hid U5; have V6 := Lib.hid U6
  clear U1 U2 U3 U4 U5 U6
  go_enter Try.func7, Try.ntmps7
  go_upto_region 1 with (fail)
  have R0 : (((w.alloc (.cells (b32 f) 22)).alloc (.cells (b32 g) 22)).alloc (.cells (b32 h) 22)).heap[w.heap.size]? = some (.cells (b32 f) 22 (0, 0)) := rows_alloc w [_, _, _] 0
  have R1 : (((w.alloc (.cells (b32 f) 22)).alloc (.cells (b32 g) 22)).alloc (.cells (b32 h) 22)).heap[w.heap.size + 1]? = some (.cells (b32 g) 22 (0, 0)) := rows_alloc w [_, _, _] 1
  have R2 : (((w.alloc (.cells (b32 f) 22)).alloc (.cells (b32 g) 22)).alloc (.cells (b32 h) 22)).heap[w.heap.size + 2]? = some (.cells (b32 h) 22 (0, 0)) := rows_alloc w [_, _, _] 2
  have B0 : Below w.heap.size w (((w.alloc (.cells (b32 f) 22)).alloc (.cells (b32 g) 22)).alloc (.cells (b32 h) 22)) := (((Below.refl _ _).alloc (Nat.le_refl _) _).alloc (by simp) _).alloc (by simp; omega) _
  generalize hW : ((w.alloc _).alloc _).alloc _ = wa at *
  clear hW
  have RF := Lib.hid R0; have RG := Lib.hid R1; have RH := Lib.hid R2; have BEL := Lib.hid B0
  clear R0 R1 R2 B0
  refine region_class1 22 (fun w' => Below wa.drew.heap.size wa.drew w') mixedOrders (by kernel_rfl) (Below.refl _ _) rfl ?_
  refine wpQuiet_take (by rfl) (fun K hK => ⟨.bool true, fun w2 hw2 => ?_, hK _ ?_⟩)
  · have hw3 := Lib.hid hw2
    clear hw2
    go_simp
    go_at_call 9
    refine (bends_any w2).mono ?_
    rintro e w4 ⟨rfl, hb4⟩
    exact ⟨rfl, hw3.out.trans (hb4.mono hw3.out.size)⟩
  clear hK K
  simp only [Act.put, List.setIfInBounds_toArray, List.set_cons_succ, List.set_cons_zero]
  refine wpQuiet_take (by rfl) (fun K hK => ⟨.bool true, fun w2 hw2 => quiet_run (by rfl), hK _ ?_⟩)
  clear hK K
  simp only [Act.put, List.setIfInBounds_toArray, List.set_cons_succ, List.set_cons_zero]
  refine wpQuiet_take (by rfl) (fun K hK => ⟨.agg (b32 f), fun w2 hw2 => quiet_load_row 22 (.tmp 3) rfl _ rfl _ _ (0, 0) _ (below_row hw2 (lt_row RF.out) RF.out) Try.underlying22 rfl (by rw [b32_size]; kernel_rfl), hK _ ?_⟩)
  clear hK K
  simp only [Act.put, List.setIfInBounds_toArray, List.set_cons_succ, List.set_cons_zero]
  refine wpQuiet_take (by rfl) (fun K hK => ⟨.agg (b32 g), fun w2 hw2 => quiet_load_row 22 (.tmp 4) rfl _ rfl _ _ (0, 0) _ (below_row hw2 (lt_row RG.out) RG.out) Try.underlying22 rfl (by rw [b32_size]; kernel_rfl), hK _ ?_⟩)
  clear hK K
  simp only [Act.put, List.setIfInBounds_toArray, List.set_cons_succ, List.set_cons_zero]
  refine wpQuiet_take (by rfl) (fun K hK => ⟨.agg (b32 h), fun w2 hw2 => quiet_load_row 22 (.tmp 5) rfl _ rfl _ _ (0, 0) _ (below_row hw2 (lt_row RH.out) RH.out) Try.underlying22 rfl (by rw [b32_size]; kernel_rfl), hK _ ?_⟩)
  clear hK K
  simp only [Act.put, List.setIfInBounds_toArray, List.set_cons_succ, List.set_cons_zero]
  refine wpQuiet_take (by rfl) (fun K hK => ⟨.agg (b32 u), fun w2 hw2 => ?_, hK _ ?_⟩)
  · have hw3 := Lib.hid hw2
    clear hw2
    go_simp
    go_at_call 8
    refine (V1.out w2).mono ?_
    rintro e w4 ⟨rfl, hb4⟩
    exact ⟨rfl, hw3.out.trans (hb4.mono hw3.out.size)⟩
  clear hK K
  simp only [Act.put, List.setIfInBounds_toArray, List.set_cons_succ, List.set_cons_zero]
  refine wpQuiet_take (by rfl) (fun K hK => ⟨.agg (b32 o), fun w2 hw2 => ?_, hK _ ?_⟩)
  · have hw3 := Lib.hid hw2
    clear hw2
    go_simp
    go_at_call 8
    refine (V2.out w2).mono ?_
    rintro e w4 ⟨rfl, hb4⟩
    exact ⟨rfl, hw3.out.trans (hb4.mono hw3.out.size)⟩
  clear hK K
  simp only [Act.put, List.setIfInBounds_toArray, List.set_cons_succ, List.set_cons_zero]
  refine wpQuiet_take (by rfl) (fun K hK => ⟨.agg (b32 g), fun w2 hw2 => quiet_load_row 22 (.tmp 4) rfl _ rfl _ _ (0, 0) _ (below_row hw2 (lt_row RG.out) RG.out) Try.underlying22 rfl (by rw [b32_size]; kernel_rfl), hK _ ?_⟩)
  clear hK K
  simp only [Act.put, List.setIfInBounds_toArray, List.set_cons_succ, List.set_cons_zero]
  refine wpQuiet_take (by rfl) (fun K hK => ⟨.agg (b32 f), fun w2 hw2 => quiet_load_row 22 (.tmp 3) rfl _ rfl _ _ (0, 0) _ (below_row hw2 (lt_row RF.out) RF.out) Try.underlying22 rfl (by rw [b32_size]; kernel_rfl), hK _ ?_⟩)
  clear hK K
  simp only [Act.put, List.setIfInBounds_toArray, List.set_cons_succ, List.set_cons_zero]
  refine wpQuiet_take (by rfl) (fun K hK => ⟨.agg (b32 h), fun w2 hw2 => quiet_load_row 22 (.tmp 5) rfl _ rfl _ _ (0, 0) _ (below_row hw2 (lt_row RH.out) RH.out) Try.underlying22 rfl (by rw [b32_size]; kernel_rfl), hK _ ?_⟩)
  clear hK K
  simp only [Act.put, List.setIfInBounds_toArray, List.set_cons_succ, List.set_cons_zero]
  refine wpQuiet_take (by rfl) (fun K hK => ⟨.agg (b32 v), fun w2 hw2 => ?_, hK _ ?_⟩)
  · have hw3 := Lib.hid hw2
    clear hw2
    go_simp
    go_at_call 8
    refine (V3.out w2).mono ?_
    rintro e w4 ⟨rfl, hb4⟩
    exact ⟨rfl, hw3.out.trans (hb4.mono hw3.out.size)⟩
  clear hK K
  simp only [Act.put, List.setIfInBounds_toArray, List.set_cons_succ, List.set_cons_zero]
  refine wpQuiet_take (by rfl) (fun K hK => ⟨.agg (b32 o), fun w2 hw2 => ?_, hK _ ?_⟩)
  · have hw3 := Lib.hid hw2
    clear hw2
    go_simp
    go_at_call 8
    refine (V4.out w2).mono ?_
    rintro e w4 ⟨rfl, hb4⟩
    exact ⟨rfl, hw3.out.trans (hb4.mono hw3.out.size)⟩
  clear hK K
  simp only [Act.put, List.setIfInBounds_toArray, List.set_cons_succ, List.set_cons_zero]
  refine wpQuiet_take (by rfl) (fun K hK => ⟨.bool true, fun w2 hw2 => quiet_run (run_eq32 rfl _ _ rfl rfl (eqb32_same o _)), hK _ ?_⟩)
  clear hK K
  simp only [Act.put, List.setIfInBounds_toArray, List.set_cons_succ, List.set_cons_zero]
  refine wpQuiet_take (by rfl) (fun K hK => ⟨.bool true, fun w2 hw2 => quiet_run (by rfl), hK _ ?_⟩)
  clear hK K
  simp only [Act.put, List.setIfInBounds_toArray, List.set_cons_succ, List.set_cons_zero]
  refine wpQuiet_take (by rfl) (fun K hK => ⟨.bool true, fun w2 hw2 => quiet_run (by rfl), hK _ ?_⟩)
  clear hK K
  simp only [Act.put, List.setIfInBounds_toArray, List.set_cons_succ, List.set_cons_zero]
  refine wpQuiet_take (by rfl) (fun K hK => ⟨.agg (b32 f), fun w2 hw2 => quiet_load_row 22 (.tmp 3) rfl _ rfl _ _ (0, 0) _ (below_row hw2 (lt_row RF.out) RF.out) Try.underlying22 rfl (by rw [b32_size]; kernel_rfl), hK _ ?_⟩)
  clear hK K
  simp only [Act.put, List.setIfInBounds_toArray, List.set_cons_succ, List.set_cons_zero]
  refine wpQuiet_take (by rfl) (fun K hK => ⟨.agg (b32 n), fun w2 hw2 => ?_, hK _ ?_⟩)
  · have hw3 := Lib.hid hw2
    clear hw2
    go_simp
    go_at_call 11
    refine (V5.out w2).mono ?_
    rintro e w4 ⟨rfl, hb4⟩
    exact ⟨rfl, hw3.out.trans (hb4.mono hw3.out.size)⟩
  clear hK K
  simp only [Act.put, List.setIfInBounds_toArray, List.set_cons_succ, List.set_cons_zero]
  refine wpQuiet_take (by rfl) (fun K hK => ⟨.agg (b32 f), fun w2 hw2 => quiet_load_row 22 (.tmp 3) rfl _ rfl _ _ (0, 0) _ (below_row hw2 (lt_row RF.out) RF.out) Try.underlying22 rfl (by rw [b32_size]; kernel_rfl), hK _ ?_⟩)
  clear hK K
  simp only [Act.put, List.setIfInBounds_toArray, List.set_cons_succ, List.set_cons_zero]
  refine wpQuiet_take (by rfl) (fun K hK => ⟨.agg #[.int .u8 9, .int .u8 0, .int .u8 0, .int .u8 0, .int .u8 0, .int .u8 0, .int .u8 0, .int .u8 0, .int .u8 0, .int .u8 0, .int .u8 0, .int .u8 0, .int .u8 0, .int .u8 0, .int .u8 0, .int .u8 0, .int .u8 0, .int .u8 0, .int .u8 0, .int .u8 0, .int .u8 0, .int .u8 0, .int .u8 0, .int .u8 0, .int .u8 0, .int .u8 0, .int .u8 0, .int .u8 0, .int .u8 0, .int .u8 0, .int .u8 0, .int .u8 0], fun w2 hw2 => quiet_run (by kernel_rfl), hK _ ?_⟩)
  clear hK K
  simp only [Act.put, List.setIfInBounds_toArray, List.set_cons_succ, List.set_cons_zero]
  refine wpQuiet_take (by rfl) (fun K hK => ⟨.agg (b32 n), fun w2 hw2 => ?_, hK _ ?_⟩)
  · have hw3 := Lib.hid hw2
    clear hw2
    go_simp
    go_at_call 8
    refine (V6.out w2).mono ?_
    rintro e w4 ⟨rfl, hb4⟩
    exact ⟨rfl, hw3.out.trans (hb4.mono hw3.out.size)⟩
  clear hK K
  simp only [Act.put, List.setIfInBounds_toArray, List.set_cons_succ, List.set_cons_zero]
  refine wpQuiet_take (by rfl) (fun K hK => ⟨.bool true, fun w2 hw2 => quiet_run (run_eq32 rfl _ _ rfl rfl (eqb32_same n _)), hK _ ?_⟩)
  clear hK K
  simp only [Act.put, List.setIfInBounds_toArray, List.set_cons_succ, List.set_cons_zero]
  refine wpQuiet_take (by rfl) (fun K hK => ⟨.bool true, fun w2 hw2 => quiet_run (by rfl), hK _ ?_⟩)
  clear hK K
  simp only [Act.put, List.setIfInBounds_toArray, List.set_cons_succ, List.set_cons_zero]
  refine wpQuiet_take0 ?_
  intro wf hq
  have hq : Below wa.heap.size wa wf := (Below.refl _ _).drew.trans hq
  go_wp2_with fail
  go_ret
  exact ⟨rfl, BEL.out.trans (hq.mono BEL.out.size)⟩
theorem law_any (f g h : Nat → BitVec 8) (w : World) :
    Calls Try.prog 7 #[.agg (b32 f), .agg (b32 g), .agg (b32 h)] w fun e w' => e = .returned (.bool true) ∧ Below w.heap.size w w' := by
  refine law_core f g h (numF (timesN g h)) (numF (timesN f h)) (numF (timesN f (numF (timesN g h)))) (numF (timesN f (byteF 9#8))) (times_any g h) (times_any f _) (times_any f h) (fun w => ?_) (public_any f) (times_nine f) w
  rw [times_turn f g h]
  exact times_any g _ w
theorem walk {H : Type} {enc : TypeId × Value → H} (w : World) (base : Nat) (v0 v1 v2 : Value) (d0 d1 d2 : DataW H) (p0 p1 p2 : List MemPlace)
    (k0 : Value.okWide Try.prog w .any base 22 v0) (k1 : Value.okWide Try.prog w .any base 22 v1) (k2 : Value.okWide Try.prog w .any base 22 v2)
    (h0 : DataW.Trod enc Try.prog w 0 (fun _ => true) true 22 v0 d0 p0) (h1 : DataW.Trod enc Try.prog w 0 (fun _ => true) true 22 v1 d1 p1) (h2 : DataW.Trod enc Try.prog w 0 (fun _ => true) true 22 v2 d2 p2) :
    Calls Try.prog 7 #[v0, v1, v2] w fun e w' => e = .returned (.bool true) ∧ Below w.heap.size w w' := by
  obtain ⟨f, rfl⟩ := open32 k0 h0
  obtain ⟨g, rfl⟩ := open32 k1 h1
  obtain ⟨h, rfl⟩ := open32 k2 h2
  exact law_any f g h w
set_option maxRecDepth 100000 in
theorem lifted (os : Os) (started : os.Started) (H : Type) (enc : TypeId × Value → H) :
    ReturnsInHanded {} Try.checked os 7 .any (Rows.curveTwiceSpec.pre6 enc Try.prog Try.f7 Rows.curveTwiceRow.domain false) (Rows.curveTwiceSpec.post enc Try.prog Try.f7 false true false false) := by
  refine returnsInHanded_of_change (C := Try.checked) own started (by kernel_rfl) Try.func7
    (ChangeSpec.witness6 (enc := enc) (C := Try.checked) false ⟨#[], #[.agg (Array.replicate 32 (.int .u8 0)), .agg (Array.replicate 32 (.int .u8 0)), .agg (Array.replicate 32 (.int .u8 0))], []⟩ 8 (by kernel_rfl) (by kernel_rfl) (by kernel_rfl) (by kernel_rfl)) ?_
  intro W base args ds gs before hval0 hW hcnd _
  have hval : ∀ (j : Nat) t v, Try.f7.params[j]? = some t → args[j]? = some v → Value.okWide Try.prog W .any base t v := hval0
  have hW' := hW
  obtain ⟨p, q, hA0, hV, rfl, hfz, hnd⟩ := hW
  have hA : DataW.TrodAll enc Try.prog W 0 (fun _ => true) true Try.f7.params.toList args.toList ds p := hA0
  rw [Try.params7] at hA hval
  obtain ⟨v0, vs0, d0, ds0, p0, q0, hargs, rfl, rfl, h0, r0⟩ := trodAll_cons hA
  obtain ⟨v1, vs1, d1, ds1, p1, q1, rfl, rfl, rfl, h1, r1⟩ := trodAll_cons r0
  obtain ⟨v2, vs2, d2, ds2, p2, q2, rfl, rfl, rfl, h2, r2⟩ := trodAll_cons r1
  obtain ⟨rfl, rfl, rfl⟩ := trodAll_nil r2
  obtain rfl : args = #[v0, v1, v2] := by cases args; simp_all
  obtain ⟨rfl, rfl⟩ := trodVars_none hV
  have k0 := h0
  have lt0 : ∀ x ∈ p0, x.block < W.heap.size := by obtain ⟨m, hm⟩ := k0; exact DataW.trod_lt m _ _ _ hm
  have k1 := h1
  have lt1 : ∀ x ∈ p1, x.block < W.heap.size := by obtain ⟨m, hm⟩ := k1; exact DataW.trod_lt m _ _ _ hm
  have k2 := h2
  have lt2 : ∀ x ∈ p2, x.block < W.heap.size := by obtain ⟨m, hm⟩ := k2; exact DataW.trod_lt m _ _ _ hm
  clear hA0 hval0
  refine (walk W base v0 v1 v2 d0 d1 d2 p0 p1 p2 (hval 0 22 v0 rfl rfl) (hval 1 22 v1 rfl rfl) (hval 2 22 v2 rfl rfl) k0 k1 k2).mono fun e W' ⟨he, bel⟩ => ?_
  subst he
  exact ⟨_, rfl, _, _, _, [], _, [], hW', trodAll_mk1 (shut_bool Try.underlying4 _), (trodAll_cons_mk (Below.trod laidOut (by kernel_rfl) (of_decide_eq_true (by kernel_rfl)) k0 bel lt0) (trodAll_cons_mk (Below.trod laidOut (by kernel_rfl) (of_decide_eq_true (by kernel_rfl)) k1 bel lt1) (trodAll_cons_mk (Below.trod laidOut (by kernel_rfl) (of_decide_eq_true (by kernel_rfl)) k2 bel lt2) trodAll_mk0))), rfl, bel.frame _, fun h => by cases h⟩
theorem over : Rows.curveTwiceRow.holds Try.pinned (OpenSpec.ofChange Rows.curveTwiceSpec) :=
  OpenClaim.holds_of_wide 7 Try.f7 rfl rfl rfl rfl rfl rfl rfl ⟨rfl, rfl, rfl, rfl, rfl⟩ rfl rfl rfl rfl rfl (by kernel_rfl) Try.func7 (by kernel_rfl)
    (of_decide_eq_true (by kernel_rfl)) (by unfold Func.isWrapper; first | (rw [if_pos (by decide +kernel)]; kernel_rfl) | (rw [if_neg (by decide +kernel)]; exact ⟨rfl, rfl⟩))
    (fun os started H enc _ => lifted os started H enc)
theorem proved : Rows.CurveTwiceSaid := over
end Go.Proofs.Ytmfiabkhnoimhaa.curveTwice
