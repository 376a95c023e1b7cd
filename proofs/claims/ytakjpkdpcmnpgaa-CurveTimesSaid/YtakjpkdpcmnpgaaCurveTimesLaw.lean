/-
  CurveTimes holds: of all numbers and points Times of curve tells what the document does. No conditions.
-/
import Derived.Test.YtakjpkdpcmnpgaaRows
import Derived.Test.YtakjpkdpcmnpgaaCurveG
import Derived.WalkKit
import Derived.ProofKit
import Derived.OpenShut
import Derived.ShutString
import Derived.ChangeOld
import Derived.Below
import Derived.Deep.DeepCutAuto
import Derived.Deep.Upon
import Derived.Deep.AppendSrc
import Derived.SizedLaws
namespace Go.Proofs.Ytakjpkdpcmnpgaa.curveTimes
open Go Go.ChangeShapes Go.WideShapes Go.ChangeAt Go.RowKit Go.BigFrame
set_option linter.unusedVariables false
theorem own : ownKnob Try.prog.godebug = none := by kernel_rfl
theorem laidOut : laidOutB Try.prog = true := by kernel_rfl
theorem str_refl (S : ByteArray) : (S.toList == S.toList) = true := beq_self_eq_true _
set_option maxHeartbeats 40000000 in
set_option maxRecDepth 100000 in
theorem law_any (f g : Nat → BitVec 8) (w : World) :
    Calls Try.prog 3 #[.agg (b32 f), .agg (b32 g)] w fun e w' => e = .returned (.bool true) ∧ Below w.heap.size w w' := by
  obtain ⟨N, hN⟩ : ∃ N, timesN f g = N := ⟨_, rfl⟩
  have UT := times_any f g
  have UR := refTimes_any f g
  rw [hN] at UT UR
  have UT := Lib.hid UT; have UR := Lib.hid UR
  clear hN
  go_enter Try.func3, Try.ntmps3
  go_upto_region 1 with (fail)
  have R0 : ((w.alloc (.cells (b32 f) 22)).alloc (.cells (b32 g) 22)).heap[w.heap.size]? = some (.cells (b32 f) 22 (0, 0)) := rows_alloc w [_, _] 0
  have R1 : ((w.alloc (.cells (b32 f) 22)).alloc (.cells (b32 g) 22)).heap[w.heap.size + 1]? = some (.cells (b32 g) 22 (0, 0)) := rows_alloc w [_, _] 1
  have B0 : Below w.heap.size w ((w.alloc (.cells (b32 f) 22)).alloc (.cells (b32 g) 22)) := ((Below.refl _ _).alloc (Nat.le_refl _) _).alloc (by simp) _
  generalize hW : (w.alloc _).alloc _ = wa at *
  clear hW
  have RN := Lib.hid R0; have RP := Lib.hid R1; have BEL := Lib.hid B0
  clear R0 R1 B0
  go_upto_region 2 with (first
    | ((with_reducible refine wpList_load_row (o := ⟨some 6, .load 22 (.tmp 2), _, _, _, _⟩) ?_ 22 (.tmp 2) ?_ w.heap.size ?_ _ _ (0, 0) _ RN.out Try.underlying22 ?_ ?_ ?_); (focus rfl); (focus rfl); (focus rfl); (focus rfl); (focus (rw [b32_size]; kernel_rfl)))
    | ((with_reducible refine wpList_load_row (o := ⟨some 7, .load 22 (.tmp 3), _, _, _, _⟩) ?_ 22 (.tmp 3) ?_ (w.heap.size + 1) ?_ _ _ (0, 0) _ RP.out Try.underlying22 ?_ ?_ ?_); (focus rfl); (focus rfl); (focus rfl); (focus rfl); (focus (rw [b32_size]; kernel_rfl)))
    | (go_at_call 8; with_reducible refine (UT.out _).mono ?_; rintro e w1 ⟨rfl, hq⟩)
    | ((with_reducible refine wpList_alloc_row (o := ⟨some 5, .alloc 22, _, _, _, _⟩) ?_ 22 ?_ (Array.replicate 32 (.int .u8 0)) ?_ ?_); (focus rfl); (focus rfl); (focus kernel_rfl))
    | ((with_reducible refine wpList_store_new (o := ⟨none, .store 22 (.tmp 5) (.tmp 8), _, _, _, _⟩) ?_ 22 (.tmp 5) (.tmp 8) ?_ (Array.replicate 32 (.int .u8 0)) (b32 (numF N)) w1.heap.size ?_ ?_ ?_ ?_ ?_ (b32_one _) ?_); (focus rfl); (focus rfl); (focus rfl); (focus rfl); (focus rfl); (focus (rw [b32_size]; kernel_rfl)); (focus (rw [b32_size]; rfl))))
  have T : Below wa.heap.size wa (w1.alloc (.cells (b32 (numF N)) 22)) := hq.alloc hq.size _
  have R5 : (w1.alloc (.cells (b32 (numF N)) 22)).heap[w1.heap.size]? = some (.cells (b32 (numF N)) 22 (0, 0)) := heap_alloc_last _ _
  generalize w1.heap.size = q5 at *
  generalize w1.alloc _ = w5 at *
  have RN := Lib.hid (below_row T (lt_row RN.out) RN.out)
  have RP := Lib.hid (below_row T (lt_row RP.out) RP.out)
  have RT := Lib.hid R5
  have BEL := Lib.hid (BEL.out.trans (T.mono BEL.out.size))
  clear T R5 hq
  simp only [Act.put, List.setIfInBounds_toArray, List.set_cons_succ, List.set_cons_zero]
  obtain ⟨S, hS⟩ : ∃ S, numS N = S := ⟨_, rfl⟩
  have eS : Hid (strOf (numF N) 32 = S) := Lib.hid hS
  have UR2 := UR.out
  rw [hS] at UR2
  have UR := Lib.hid UR2
  clear UR2 hS
  refine region_class1 11 (fun w' => Below w5.drew.heap.size w5.drew w') mixedOrders (by kernel_rfl) (Below.refl _ _) rfl ?_
  refine wpQuiet_take (by rfl) (fun K hK => ⟨.bool true, fun w2 hw2 => ?_, hK _ ?_⟩)
  · have hw3 := Lib.hid hw2
    clear hw2
    go_simp
    go_at_call 9
    refine (bends_any w2).mono ?_
    rintro e w4 ⟨rfl, hb4⟩
    exact ⟨rfl, hw3.out.trans (hb4.mono hw3.out.size)⟩
  clear hK K
  simp only [Act.put, List.setIfInBounds_toArray, List.set_cons_succ, List.set_cons_zero]
  refine wpQuiet_take (by rfl) (fun K hK => ⟨.bool true, fun w2 hw2 => quiet_run (by rfl), hK _ ?_⟩)
  clear hK K
  simp only [Act.put, List.setIfInBounds_toArray, List.set_cons_succ, List.set_cons_zero]
  refine wpQuiet_take (by rfl) (fun K hK => ⟨.slice (some ⟨q5, 0, none⟩) 32 32, fun w2 hw2 => quiet_run (quiet_of_run (arr32 _ w2)), hK _ ?_⟩)
  clear hK K
  simp only [Act.put, List.setIfInBounds_toArray, List.set_cons_succ, List.set_cons_zero]
  refine wpQuiet_take (by rfl) (fun K hK => ⟨.string (strOf (numF N) 32), fun w2 hw2 => quiet_run (quiet_of_run (conv_str (numF N) _ 0 32 32 w2 (fun i hi => by rw [cell_of_row _ _ _ _ _ _ (below_row hw2 (lt_row RT.out) RT.out), Nat.zero_add]; exact b32_get _ i hi))), hK _ ?_⟩)
  clear hK K
  simp only [Act.put, List.setIfInBounds_toArray, List.set_cons_succ, List.set_cons_zero]
  rw [eS.out]
  refine wpQuiet_take (by rfl) (fun K hK => ⟨.slice (some ⟨w.heap.size, 0, none⟩) 32 32, fun w2 hw2 => quiet_run (quiet_of_run (arr32 _ w2)), hK _ ?_⟩)
  clear hK K
  simp only [Act.put, List.setIfInBounds_toArray, List.set_cons_succ, List.set_cons_zero]
  refine wpQuiet_take (by rfl) (fun K hK => ⟨.string (strOf f 32), fun w2 hw2 => quiet_run (quiet_of_run (conv_str f _ 0 32 32 w2 (fun i hi => by rw [cell_of_row _ _ _ _ _ _ (below_row hw2 (lt_row RN.out) RN.out), Nat.zero_add]; exact b32_get _ i hi))), hK _ ?_⟩)
  clear hK K
  simp only [Act.put, List.setIfInBounds_toArray, List.set_cons_succ, List.set_cons_zero]
  refine wpQuiet_take (by rfl) (fun K hK => ⟨.slice (some ⟨(w.heap.size + 1), 0, none⟩) 32 32, fun w2 hw2 => quiet_run (quiet_of_run (arr32 _ w2)), hK _ ?_⟩)
  clear hK K
  simp only [Act.put, List.setIfInBounds_toArray, List.set_cons_succ, List.set_cons_zero]
  refine wpQuiet_take (by rfl) (fun K hK => ⟨.string (strOf g 32), fun w2 hw2 => quiet_run (quiet_of_run (conv_str g _ 0 32 32 w2 (fun i hi => by rw [cell_of_row _ _ _ _ _ _ (below_row hw2 (lt_row RP.out) RP.out), Nat.zero_add]; exact b32_get _ i hi))), hK _ ?_⟩)
  clear hK K
  simp only [Act.put, List.setIfInBounds_toArray, List.set_cons_succ, List.set_cons_zero]
  refine wpQuiet_take (by rfl) (fun K hK => ⟨.string S, fun w2 hw2 => ?_, hK _ ?_⟩)
  · have hw3 := Lib.hid hw2
    clear hw2
    go_simp
    go_at_call 10
    refine (UR.out w2).mono ?_
    rintro e w4 ⟨rfl, hb4⟩
    exact ⟨rfl, hw3.out.trans (hb4.mono hw3.out.size)⟩
  clear hK K
  simp only [Act.put, List.setIfInBounds_toArray, List.set_cons_succ, List.set_cons_zero]
  refine wpQuiet_take (by rfl) (fun K hK => ⟨.bool true, fun w2 hw2 => ?_, hK _ ?_⟩)
  · have e := str_refl S
    clear hw2
    go_simp
  clear hK K
  simp only [Act.put, List.setIfInBounds_toArray, List.set_cons_succ, List.set_cons_zero]
  refine wpQuiet_take (by rfl) (fun K hK => ⟨.bool true, fun w2 hw2 => ?_, hK _ ?_⟩)
  · clear hw2
    go_simp
  clear hK K
  simp only [Act.put, List.setIfInBounds_toArray, List.set_cons_succ, List.set_cons_zero]
  refine wpQuiet_take0 ?_
  intro w6 hq
  have hq : Below w5.heap.size w5 w6 := (Below.refl _ _).drew.trans hq
  go_wp2_with fail
  go_ret
  exact ⟨rfl, BEL.out.trans (hq.mono BEL.out.size)⟩
theorem walk {H : Type} {enc : TypeId × Value → H} (w : World) (base : Nat) (v0 v1 : Value) (d0 d1 : DataW H) (p0 p1 : List MemPlace)
    (k0 : Value.okWide Try.prog w .any base 22 v0) (k1 : Value.okWide Try.prog w .any base 22 v1)
    (h0 : DataW.Trod enc Try.prog w 0 (fun _ => true) true 22 v0 d0 p0) (h1 : DataW.Trod enc Try.prog w 0 (fun _ => true) true 22 v1 d1 p1) :
    Calls Try.prog 3 #[v0, v1] w fun e w' => e = .returned (.bool true) ∧ Below w.heap.size w w' := by
  obtain ⟨f, rfl⟩ := open32 k0 h0
  obtain ⟨g, rfl⟩ := open32 k1 h1
  exact law_any f g w
set_option maxRecDepth 100000 in
theorem lifted (os : Os) (started : os.Started) (H : Type) (enc : TypeId × Value → H) :
    ReturnsInHanded {} Try.checked os 3 .any (Rows.curveTimesSpec.pre6 enc Try.prog Try.f3 Rows.curveTimesRow.domain false) (Rows.curveTimesSpec.post enc Try.prog Try.f3 false true false false) := by
  refine returnsInHanded_of_change (C := Try.checked) own started (by kernel_rfl) Try.func3
    (ChangeSpec.witness6 (enc := enc) (C := Try.checked) false ⟨#[], #[.agg (Array.replicate 32 (.int .u8 0)), .agg (Array.replicate 32 (.int .u8 0))], []⟩ 8 (by kernel_rfl) (by kernel_rfl) (by kernel_rfl) (by kernel_rfl)) ?_
  intro W base args ds gs before hval0 hW hcnd _
  have hval : ∀ (j : Nat) t v, Try.f3.params[j]? = some t → args[j]? = some v → Value.okWide Try.prog W .any base t v := hval0
  have hW' := hW
  obtain ⟨p, q, hA0, hV, rfl, hfz, hnd⟩ := hW
  have hA : DataW.TrodAll enc Try.prog W 0 (fun _ => true) true Try.f3.params.toList args.toList ds p := hA0
  rw [Try.params3] at hA hval
  obtain ⟨v0, vs0, d0, ds0, p0, q0, hargs, rfl, rfl, h0, r0⟩ := trodAll_cons hA
  obtain ⟨v1, vs1, d1, ds1, p1, q1, rfl, rfl, rfl, h1, r1⟩ := trodAll_cons r0
  obtain ⟨rfl, rfl, rfl⟩ := trodAll_nil r1
  obtain rfl : args = #[v0, v1] := by cases args; simp_all
  obtain ⟨rfl, rfl⟩ := trodVars_none hV
  have k0 := h0
  have lt0 : ∀ x ∈ p0, x.block < W.heap.size := by obtain ⟨m, hm⟩ := k0; exact DataW.trod_lt m _ _ _ hm
  have k1 := h1
  have lt1 : ∀ x ∈ p1, x.block < W.heap.size := by obtain ⟨m, hm⟩ := k1; exact DataW.trod_lt m _ _ _ hm
  clear hA0 hval0
  refine (walk W base v0 v1 d0 d1 p0 p1 (hval 0 22 v0 rfl rfl) (hval 1 22 v1 rfl rfl) k0 k1).mono fun e W' ⟨he, bel⟩ => ?_
  subst he
  exact ⟨_, rfl, _, _, _, [], _, [], hW', trodAll_mk1 (shut_bool Try.underlying4 _), (trodAll_cons_mk (Below.trod laidOut (by kernel_rfl) (of_decide_eq_true (by kernel_rfl)) k0 bel lt0) (trodAll_cons_mk (Below.trod laidOut (by kernel_rfl) (of_decide_eq_true (by kernel_rfl)) k1 bel lt1) trodAll_mk0)), rfl, bel.frame _, fun h => by cases h⟩
theorem over : Rows.curveTimesRow.holds Try.pinned (OpenSpec.ofChange Rows.curveTimesSpec) :=
  OpenClaim.holds_of_wide 3 Try.f3 rfl rfl rfl rfl rfl rfl rfl ⟨rfl, rfl, rfl, rfl, rfl⟩ rfl rfl rfl rfl rfl (by kernel_rfl) Try.func3 (by kernel_rfl)
    (of_decide_eq_true (by kernel_rfl)) (by unfold Func.isWrapper; first | (rw [if_pos (by decide +kernel)]; kernel_rfl) | (rw [if_neg (by decide +kernel)]; exact ⟨rfl, rfl⟩))
    (fun os started H enc _ => lifted os started H enc)
theorem proved : Rows.CurveTimesSaid := over
end Go.Proofs.Ytakjpkdpcmnpgaa.curveTimes
