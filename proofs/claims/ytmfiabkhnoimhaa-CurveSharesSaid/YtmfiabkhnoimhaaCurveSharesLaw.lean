/-
  CurveShares holds: two make the same secret by Shared of curve, each by its own key and the other one's public one: the same bytes and the same error, which Times tells, too; the error is none or ErrAuth. No conditions.
-/
import Derived.Test.YtmfiabkhnoimhaaRows
import Derived.Test.YtmfiabkhnoimhaaCurveH
import Derived.Test.YtmfiabkhnoimhaaCurveK
import Derived.WalkKit
import Derived.ProofKit
import Derived.OpenShut
import Derived.ShutString
import Derived.ChangeOld
import Derived.Below
import Derived.Deep.DeepCutAuto
import Derived.Deep.Upon
import Derived.Deep.AppendSrc
import Derived.SizedLaws
namespace Go.Proofs.Ytmfiabkhnoimhaa.curveShares
open Go Go.ChangeShapes Go.WideShapes Go.ChangeAt Go.RowKit Go.BigFrame
set_option linter.unusedVariables false
theorem own : ownKnob Try.prog.godebug = none := by kernel_rfl
theorem laidOut : laidOutB Try.prog = true := by kernel_rfl
theorem wpQuiet_drop {P : Program} {ops : Array Oper} {C : World → Prop} {Q : Act → Prop} {a : Act} {o : Oper} {rest : List Oper} {n : Nat} (hw : Region.wanted o (yielded ops a.tmps) = false)
    (h : wpQuiet P ops C Q (rest.take n) (a.put o.dst undef)) : wpQuiet P ops C Q ((o :: rest).take (n + 1)) a := by
  rw [List.take_succ_cons]
  exact wpQuiet_skip hw h
set_option maxHeartbeats 40000000 in
set_option maxRecDepth 100000 in
theorem law_core0 (f g x y s : Nat → BitVec 8)
    (U1 : ∀ w : World, Calls Try.prog 11 #[.agg (b32 f)] w fun e w' => e = .returned (.agg (b32 x)) ∧ Below w.heap.size w w')
    (U2 : ∀ w : World, Calls Try.prog 11 #[.agg (b32 g)] w fun e w' => e = .returned (.agg (b32 y)) ∧ Below w.heap.size w w')
    (U3 : ∀ w : World, Calls Try.prog 12 #[.agg (b32 f), .agg (b32 y)] w fun e w' => e = .returned (.tuple #[.agg (b32 s), .int .i64 0]) ∧ Below w.heap.size w w')
    (U4 : ∀ w : World, Calls Try.prog 12 #[.agg (b32 g), .agg (b32 x)] w fun e w' => e = .returned (.tuple #[.agg (b32 s), .int .i64 0]) ∧ Below w.heap.size w w')
    (U5 : ∀ w : World, Calls Try.prog 8 #[.agg (b32 f), .agg (b32 y)] w fun e w' => e = .returned (.agg (b32 s)) ∧ Below w.heap.size w w') (w : World) :
    Calls Try.prog 4 #[.agg (b32 f), .agg (b32 g)] w fun e w' => e = .returned (.bool true) ∧ Below w.heap.size w w' := by
  have V1 := Lib.hid U1; have V2 := Lib.hid U2; have V3 := Lib.hid U3; have V4 := Lib.hid U4; have V5 := Lib.hid U5
  clear U1 U2 U3 U4 U5
  go_enter Try.func4, Try.ntmps4
  go_upto_region 1 with (fail)
  have R0 : ((w.alloc (.cells (b32 f) 22)).alloc (.cells (b32 g) 22)).heap[w.heap.size]? = some (.cells (b32 f) 22 (0, 0)) := rows_alloc w [_, _] 0
  have R1 : ((w.alloc (.cells (b32 f) 22)).alloc (.cells (b32 g) 22)).heap[w.heap.size + 1]? = some (.cells (b32 g) 22 (0, 0)) := rows_alloc w [_, _] 1
  have B0 : Below w.heap.size w ((w.alloc (.cells (b32 f) 22)).alloc (.cells (b32 g) 22)) := ((Below.refl _ _).alloc (Nat.le_refl _) _).alloc (by simp) _
  generalize hW : (w.alloc _).alloc _ = wa at *
  clear hW
  have RF := Lib.hid R0; have RG := Lib.hid R1; have BEL := Lib.hid B0
  clear R0 R1 B0
  refine region_news 6 (fun _ => Array.replicate 32 (.int .u8 0)) [(4, 5), (5, 6)] mixedOrders (by kernel_rfl) (by kernel_rfl) (zero_one (T := 22) (by kernel_rfl) (by kernel_rfl)) ?_
  refine wpNew_step rfl (fun K hK => ⟨.agg (b32 f), fun w2 hw2 => quiet_load_row 22 (.tmp 2) rfl _ rfl _ _ (0, 0) _ (below_row hw2 (lt_row RF.out) RF.out) Try.underlying22 rfl (by rw [b32_size]; kernel_rfl), hK _ ?_⟩)
  clear hK K
  simp only [Act.put, List.setIfInBounds_toArray, List.set_cons_succ, List.set_cons_zero]
  refine wpNew_step rfl (fun K hK => ⟨.agg (b32 x), fun w2 hw2 => ?_, hK _ ?_⟩)
  · go_simp
    go_at_call 11
    exact V1.out w2
  clear hK K
  simp only [Act.put, List.setIfInBounds_toArray, List.set_cons_succ, List.set_cons_zero]
  refine wpNew_step rfl (fun K hK => ⟨.agg (b32 g), fun w2 hw2 => quiet_load_row 22 (.tmp 3) rfl _ rfl _ _ (0, 0) _ (below_row hw2 (lt_row RG.out) RG.out) Try.underlying22 rfl (by rw [b32_size]; kernel_rfl), hK _ ?_⟩)
  clear hK K
  simp only [Act.put, List.setIfInBounds_toArray, List.set_cons_succ, List.set_cons_zero]
  refine wpNew_step rfl (fun K hK => ⟨.agg (b32 y), fun w2 hw2 => ?_, hK _ ?_⟩)
  · go_simp
    go_at_call 11
    exact V2.out w2
  clear hK K
  simp only [Act.put, List.setIfInBounds_toArray, List.set_cons_succ, List.set_cons_zero]
  refine wpNew_skip rfl ?_
  refine wpNew_skip rfl ?_
  refine wpNew_nil ?_
  intro bs w1 hb1 hrows hap
  have r5 := hrows 4 _ 22 (by omega) rfl rfl
  have r6 := hrows 5 _ 22 (by omega) rfl rfl
  have nn : bs 4 ≠ bs 5 := fun e => by have := hap 4 5 _ _ (by omega) (by omega) rfl rfl rfl rfl e; omega
  clear hrows hap
  simp only [putNews, newPtr, Act.put, List.setIfInBounds_toArray, List.set_cons_succ, List.set_cons_zero, List.drop_succ_cons, List.drop_zero]
  generalize bs 4 = qR5 at *
  generalize bs 5 = qR6 at *
  refine wpList_store_row (op := ⟨none, .store 22 (.tmp 5) (.tmp 12), _, _, _, _⟩) rfl 22 (.tmp 5) (.tmp 12) rfl qR5 _ _ (b32 x) rfl rfl r5.2 (by rw [b32_size]; rfl) (by rw [b32_size]; kernel_rfl) (b32_one _) ?_
  intro w2 S1
  refine wpList_store_row (op := ⟨none, .store 22 (.tmp 6) (.tmp 14), _, _, _, _⟩) rfl 22 (.tmp 6) (.tmp 14) rfl qR6 _ _ (b32 y) rfl rfl (S1.keep nn.symm r6.2) (by rw [b32_size]; rfl) (by rw [b32_size]; kernel_rfl) (b32_one _) ?_
  intro wb S2
  have T := news2 hb1 r5.1 r6.1 nn S1 S2
  have RF := Lib.hid (below_row T.1 (lt_row RF.out) RF.out)
  have RG := Lib.hid (below_row T.1 (lt_row RG.out) RG.out)
  have BEL := Lib.hid (BEL.out.trans (T.1.mono BEL.out.size))
  have R5 := Lib.hid T.2.1
  have R6 := Lib.hid T.2.2
  clear T S1 S2 nn r5 r6 hb1
  try simp only [Act.put, List.setIfInBounds_toArray, List.set_cons_succ, List.set_cons_zero]
  go_upto_region 2 with (fail)
  go_upto_region 3 with (first
    | ((with_reducible refine wpList_load_row (o := ⟨some 16, .load 22 (.tmp 2), _, _, _, _⟩) ?_ 22 (.tmp 2) ?_ w.heap.size ?_ _ _ (0, 0) _ RF.out Try.underlying22 ?_ ?_ ?_); (focus rfl); (focus rfl); (focus rfl); (focus rfl); (focus (rw [b32_size]; kernel_rfl)))
    | ((with_reducible refine wpList_load_row (o := ⟨some 17, .load 22 (.tmp 6), _, _, _, _⟩) ?_ 22 (.tmp 6) ?_ qR6 ?_ _ _ (0, 0) _ R6.out Try.underlying22 ?_ ?_ ?_); (focus rfl); (focus rfl); (focus rfl); (focus rfl); (focus (rw [b32_size]; kernel_rfl)))
    | (go_at_call 12; with_reducible refine (V3.out _).mono ?_; rintro e w1 ⟨rfl, hq⟩)
    | ((with_reducible refine wpList_alloc_row (o := ⟨some 7, .alloc 22, _, _, _, _⟩) ?_ 22 ?_ (Array.replicate 32 (.int .u8 0)) ?_ ?_); (focus rfl); (focus rfl); (focus kernel_rfl))
    | ((with_reducible refine wpList_store_new (o := ⟨none, .store 22 (.tmp 7) (.tmp 19), _, _, _, _⟩) ?_ 22 (.tmp 7) (.tmp 19) ?_ (Array.replicate 32 (.int .u8 0)) (b32 s) w1.heap.size ?_ ?_ ?_ ?_ ?_ (b32_one _) ?_); (focus rfl); (focus rfl); (focus rfl); (focus rfl); (focus rfl); (focus (rw [b32_size]; kernel_rfl)); (focus (rw [b32_size]; rfl))))
  have T : Below wb.heap.size wb (w1.alloc (.cells (b32 s) 22)) := hq.alloc hq.size _
  have RX : (w1.alloc (.cells (b32 s) 22)).heap[w1.heap.size]? = some (.cells (b32 s) 22 (0, 0)) := heap_alloc_last _ _
  generalize w1.heap.size = qR7 at *
  generalize w1.alloc _ = wc at *
  have RF := Lib.hid (below_row T (lt_row RF.out) RF.out)
  have RG := Lib.hid (below_row T (lt_row RG.out) RG.out)
  have R5 := Lib.hid (below_row T (lt_row R5.out) R5.out)
  have R6 := Lib.hid (below_row T (lt_row R6.out) R6.out)
  have BEL := Lib.hid (BEL.out.trans (T.mono BEL.out.size))
  have R7 := Lib.hid RX
  clear T RX hq
  try simp only [Act.put, List.setIfInBounds_toArray, List.set_cons_succ, List.set_cons_zero]
  go_upto_region 4 with (first
    | ((with_reducible refine wpList_load_row (o := ⟨some 22, .load 22 (.tmp 3), _, _, _, _⟩) ?_ 22 (.tmp 3) ?_ (w.heap.size + 1) ?_ _ _ (0, 0) _ RG.out Try.underlying22 ?_ ?_ ?_); (focus rfl); (focus rfl); (focus rfl); (focus rfl); (focus (rw [b32_size]; kernel_rfl)))
    | ((with_reducible refine wpList_load_row (o := ⟨some 23, .load 22 (.tmp 5), _, _, _, _⟩) ?_ 22 (.tmp 5) ?_ qR5 ?_ _ _ (0, 0) _ R5.out Try.underlying22 ?_ ?_ ?_); (focus rfl); (focus rfl); (focus rfl); (focus rfl); (focus (rw [b32_size]; kernel_rfl)))
    | (go_at_call 12; with_reducible refine (V4.out _).mono ?_; rintro e w1 ⟨rfl, hq⟩)
    | ((with_reducible refine wpList_alloc_row (o := ⟨some 9, .alloc 22, _, _, _, _⟩) ?_ 22 ?_ (Array.replicate 32 (.int .u8 0)) ?_ ?_); (focus rfl); (focus rfl); (focus kernel_rfl))
    | ((with_reducible refine wpList_store_new (o := ⟨none, .store 22 (.tmp 9) (.tmp 25), _, _, _, _⟩) ?_ 22 (.tmp 9) (.tmp 25) ?_ (Array.replicate 32 (.int .u8 0)) (b32 s) w1.heap.size ?_ ?_ ?_ ?_ ?_ (b32_one _) ?_); (focus rfl); (focus rfl); (focus rfl); (focus rfl); (focus rfl); (focus (rw [b32_size]; kernel_rfl)); (focus (rw [b32_size]; rfl))))
  have T : Below wc.heap.size wc (w1.alloc (.cells (b32 s) 22)) := hq.alloc hq.size _
  have RX : (w1.alloc (.cells (b32 s) 22)).heap[w1.heap.size]? = some (.cells (b32 s) 22 (0, 0)) := heap_alloc_last _ _
  generalize w1.heap.size = qR9 at *
  generalize w1.alloc _ = wd at *
  have RF := Lib.hid (below_row T (lt_row RF.out) RF.out)
  have RG := Lib.hid (below_row T (lt_row RG.out) RG.out)
  have R5 := Lib.hid (below_row T (lt_row R5.out) R5.out)
  have R6 := Lib.hid (below_row T (lt_row R6.out) R6.out)
  have R7 := Lib.hid (below_row T (lt_row R7.out) R7.out)
  have BEL := Lib.hid (BEL.out.trans (T.mono BEL.out.size))
  have R9 := Lib.hid RX
  clear T RX hq
  try simp only [Act.put, List.setIfInBounds_toArray, List.set_cons_succ, List.set_cons_zero]
  refine region_class1 26 (fun w' => Below wd.drew.heap.size wd.drew w') mixedOrders (by kernel_rfl) (Below.refl _ _) rfl ?_
  refine wpQuiet_take (by rfl) (fun K hK => ⟨.bool true, fun w2 hw2 => ?_, hK _ ?_⟩)
  · have hw3 := Lib.hid hw2
    clear hw2
    go_simp
    go_at_call 9
    refine (bends_any w2).mono ?_
    rintro e w4 ⟨rfl, hb4⟩
    exact ⟨rfl, hw3.out.trans (hb4.mono hw3.out.size)⟩
  clear hK K
  simp only [Act.put, List.setIfInBounds_toArray, List.set_cons_succ, List.set_cons_zero]
  refine wpQuiet_take (by rfl) (fun K hK => ⟨.bool true, fun w2 hw2 => quiet_run (by rfl), hK _ ?_⟩)
  clear hK K
  simp only [Act.put, List.setIfInBounds_toArray, List.set_cons_succ, List.set_cons_zero]
  refine wpQuiet_take (by rfl) (fun K hK => ⟨.agg (b32 s), fun w2 hw2 => quiet_load_row 22 (.tmp 7) rfl _ rfl _ _ (0, 0) _ (below_row hw2 (lt_row R7.out) R7.out) Try.underlying22 rfl (by rw [b32_size]; kernel_rfl), hK _ ?_⟩)
  clear hK K
  simp only [Act.put, List.setIfInBounds_toArray, List.set_cons_succ, List.set_cons_zero]
  refine wpQuiet_take (by rfl) (fun K hK => ⟨.agg (b32 s), fun w2 hw2 => quiet_load_row 22 (.tmp 9) rfl _ rfl _ _ (0, 0) _ (below_row hw2 (lt_row R9.out) R9.out) Try.underlying22 rfl (by rw [b32_size]; kernel_rfl), hK _ ?_⟩)
  clear hK K
  simp only [Act.put, List.setIfInBounds_toArray, List.set_cons_succ, List.set_cons_zero]
  refine wpQuiet_take (by rfl) (fun K hK => ⟨.bool true, fun w2 hw2 => quiet_run (run_eq32 rfl _ _ rfl rfl (eqb32_same s _)), hK _ ?_⟩)
  clear hK K
  simp only [Act.put, List.setIfInBounds_toArray, List.set_cons_succ, List.set_cons_zero]
  refine wpQuiet_take (by rfl) (fun K hK => ⟨.bool true, fun w2 hw2 => quiet_run (by rfl), hK _ ?_⟩)
  clear hK K
  simp only [Act.put, List.setIfInBounds_toArray, List.set_cons_succ, List.set_cons_zero]
  refine wpQuiet_take (by rfl) (fun K hK => ⟨.bool true, fun w2 hw2 => quiet_run (by rfl), hK _ ?_⟩)
  clear hK K
  simp only [Act.put, List.setIfInBounds_toArray, List.set_cons_succ, List.set_cons_zero]
  refine wpQuiet_take (by rfl) (fun K hK => ⟨.int .i64 0, fun w2 hw2 => quiet_run (by rfl), hK _ ?_⟩)
  clear hK K
  simp only [Act.put, List.setIfInBounds_toArray, List.set_cons_succ, List.set_cons_zero]
  refine wpQuiet_take (by rfl) (fun K hK => ⟨.int .i64 0, fun w2 hw2 => quiet_run (by rfl), hK _ ?_⟩)
  clear hK K
  simp only [Act.put, List.setIfInBounds_toArray, List.set_cons_succ, List.set_cons_zero]
  refine wpQuiet_take (by rfl) (fun K hK => ⟨.bool true, fun w2 hw2 => quiet_run (by kernel_rfl), hK _ ?_⟩)
  clear hK K
  simp only [Act.put, List.setIfInBounds_toArray, List.set_cons_succ, List.set_cons_zero]
  refine wpQuiet_take (by rfl) (fun K hK => ⟨.bool true, fun w2 hw2 => quiet_run (by rfl), hK _ ?_⟩)
  clear hK K
  simp only [Act.put, List.setIfInBounds_toArray, List.set_cons_succ, List.set_cons_zero]
  refine wpQuiet_take (by rfl) (fun K hK => ⟨.bool true, fun w2 hw2 => quiet_run (by rfl), hK _ ?_⟩)
  clear hK K
  simp only [Act.put, List.setIfInBounds_toArray, List.set_cons_succ, List.set_cons_zero]
  refine wpQuiet_take (by rfl) (fun K hK => ⟨.agg (b32 f), fun w2 hw2 => quiet_load_row 22 (.tmp 2) rfl _ rfl _ _ (0, 0) _ (below_row hw2 (lt_row RF.out) RF.out) Try.underlying22 rfl (by rw [b32_size]; kernel_rfl), hK _ ?_⟩)
  clear hK K
  simp only [Act.put, List.setIfInBounds_toArray, List.set_cons_succ, List.set_cons_zero]
  refine wpQuiet_take (by rfl) (fun K hK => ⟨.agg (b32 y), fun w2 hw2 => quiet_load_row 22 (.tmp 6) rfl _ rfl _ _ (0, 0) _ (below_row hw2 (lt_row R6.out) R6.out) Try.underlying22 rfl (by rw [b32_size]; kernel_rfl), hK _ ?_⟩)
  clear hK K
  simp only [Act.put, List.setIfInBounds_toArray, List.set_cons_succ, List.set_cons_zero]
  refine wpQuiet_take (by rfl) (fun K hK => ⟨.agg (b32 s), fun w2 hw2 => ?_, hK _ ?_⟩)
  · have hw3 := Lib.hid hw2
    clear hw2
    go_simp
    go_at_call 8
    refine (V5.out w2).mono ?_
    rintro e w4 ⟨rfl, hb4⟩
    exact ⟨rfl, hw3.out.trans (hb4.mono hw3.out.size)⟩
  clear hK K
  simp only [Act.put, List.setIfInBounds_toArray, List.set_cons_succ, List.set_cons_zero]
  refine wpQuiet_take (by rfl) (fun K hK => ⟨.agg (b32 s), fun w2 hw2 => quiet_load_row 22 (.tmp 7) rfl _ rfl _ _ (0, 0) _ (below_row hw2 (lt_row R7.out) R7.out) Try.underlying22 rfl (by rw [b32_size]; kernel_rfl), hK _ ?_⟩)
  clear hK K
  simp only [Act.put, List.setIfInBounds_toArray, List.set_cons_succ, List.set_cons_zero]
  refine wpQuiet_take (by rfl) (fun K hK => ⟨.bool true, fun w2 hw2 => quiet_run (run_eq32 rfl _ _ rfl rfl (eqb32_same s _)), hK _ ?_⟩)
  clear hK K
  simp only [Act.put, List.setIfInBounds_toArray, List.set_cons_succ, List.set_cons_zero]
  refine wpQuiet_take (by rfl) (fun K hK => ⟨.bool true, fun w2 hw2 => quiet_run (by rfl), hK _ ?_⟩)
  clear hK K
  simp only [Act.put, List.setIfInBounds_toArray, List.set_cons_succ, List.set_cons_zero]
  refine wpQuiet_take (by rfl) (fun K hK => ⟨.bool true, fun w2 hw2 => quiet_run (by rfl), hK _ ?_⟩)
  clear hK K
  simp only [Act.put, List.setIfInBounds_toArray, List.set_cons_succ, List.set_cons_zero]
  refine wpQuiet_take (by rfl) (fun K hK => ⟨.int .i64 0, fun w2 hw2 => quiet_run (by rfl), hK _ ?_⟩)
  clear hK K
  simp only [Act.put, List.setIfInBounds_toArray, List.set_cons_succ, List.set_cons_zero]
  refine wpQuiet_take (by rfl) (fun K hK => ⟨.bool true, fun w2 hw2 => quiet_run (by kernel_rfl), hK _ ?_⟩)
  clear hK K
  simp only [Act.put, List.setIfInBounds_toArray, List.set_cons_succ, List.set_cons_zero]
  refine wpQuiet_take (by rfl) (fun K hK => ⟨.bool true, fun w2 hw2 => quiet_run (by rfl), hK _ ?_⟩)
  clear hK K
  simp only [Act.put, List.setIfInBounds_toArray, List.set_cons_succ, List.set_cons_zero]
  refine wpQuiet_drop (by rfl) ?_
  simp only [Act.put, List.setIfInBounds_toArray, List.set_cons_succ, List.set_cons_zero]
  refine wpQuiet_drop (by rfl) ?_
  simp only [Act.put, List.setIfInBounds_toArray, List.set_cons_succ, List.set_cons_zero]
  refine wpQuiet_take (by rfl) (fun K hK => ⟨.bool true, fun w2 hw2 => quiet_run (by rfl), hK _ ?_⟩)
  clear hK K
  simp only [Act.put, List.setIfInBounds_toArray, List.set_cons_succ, List.set_cons_zero]
  refine wpQuiet_take (by rfl) (fun K hK => ⟨.bool true, fun w2 hw2 => quiet_run (by rfl), hK _ ?_⟩)
  clear hK K
  simp only [Act.put, List.setIfInBounds_toArray, List.set_cons_succ, List.set_cons_zero]
  refine wpQuiet_take0 ?_
  intro wf hq
  have hq : Below wd.heap.size wd wf := (Below.refl _ _).drew.trans hq
  go_wp2_with fail
  go_ret
  exact ⟨rfl, BEL.out.trans (hq.mono BEL.out.size)⟩
set_option maxHeartbeats 40000000 in
set_option maxRecDepth 100000 in
theorem law_core4 (f g x y s : Nat → BitVec 8)
    (U1 : ∀ w : World, Calls Try.prog 11 #[.agg (b32 f)] w fun e w' => e = .returned (.agg (b32 x)) ∧ Below w.heap.size w w')
    (U2 : ∀ w : World, Calls Try.prog 11 #[.agg (b32 g)] w fun e w' => e = .returned (.agg (b32 y)) ∧ Below w.heap.size w w')
    (U3 : ∀ w : World, Calls Try.prog 12 #[.agg (b32 f), .agg (b32 y)] w fun e w' => e = .returned (.tuple #[.agg (b32 s), .int .i64 4]) ∧ Below w.heap.size w w')
    (U4 : ∀ w : World, Calls Try.prog 12 #[.agg (b32 g), .agg (b32 x)] w fun e w' => e = .returned (.tuple #[.agg (b32 s), .int .i64 4]) ∧ Below w.heap.size w w')
    (U5 : ∀ w : World, Calls Try.prog 8 #[.agg (b32 f), .agg (b32 y)] w fun e w' => e = .returned (.agg (b32 s)) ∧ Below w.heap.size w w') (w : World) :
    Calls Try.prog 4 #[.agg (b32 f), .agg (b32 g)] w fun e w' => e = .returned (.bool true) ∧ Below w.heap.size w w' := by
  have V1 := Lib.hid U1; have V2 := Lib.hid U2; have V3 := Lib.hid U3; have V4 := Lib.hid U4; have V5 := Lib.hid U5
  clear U1 U2 U3 U4 U5
  go_enter Try.func4, Try.ntmps4
  go_upto_region 1 with (fail)
  have R0 : ((w.alloc (.cells (b32 f) 22)).alloc (.cells (b32 g) 22)).heap[w.heap.size]? = some (.cells (b32 f) 22 (0, 0)) := rows_alloc w [_, _] 0
  have R1 : ((w.alloc (.cells (b32 f) 22)).alloc (.cells (b32 g) 22)).heap[w.heap.size + 1]? = some (.cells (b32 g) 22 (0, 0)) := rows_alloc w [_, _] 1
  have B0 : Below w.heap.size w ((w.alloc (.cells (b32 f) 22)).alloc (.cells (b32 g) 22)) := ((Below.refl _ _).alloc (Nat.le_refl _) _).alloc (by simp) _
  generalize hW : (w.alloc _).alloc _ = wa at *
  clear hW
  have RF := Lib.hid R0; have RG := Lib.hid R1; have BEL := Lib.hid B0
  clear R0 R1 B0
  refine region_news 6 (fun _ => Array.replicate 32 (.int .u8 0)) [(4, 5), (5, 6)] mixedOrders (by kernel_rfl) (by kernel_rfl) (zero_one (T := 22) (by kernel_rfl) (by kernel_rfl)) ?_
  refine wpNew_step rfl (fun K hK => ⟨.agg (b32 f), fun w2 hw2 => quiet_load_row 22 (.tmp 2) rfl _ rfl _ _ (0, 0) _ (below_row hw2 (lt_row RF.out) RF.out) Try.underlying22 rfl (by rw [b32_size]; kernel_rfl), hK _ ?_⟩)
  clear hK K
  simp only [Act.put, List.setIfInBounds_toArray, List.set_cons_succ, List.set_cons_zero]
  refine wpNew_step rfl (fun K hK => ⟨.agg (b32 x), fun w2 hw2 => ?_, hK _ ?_⟩)
  · go_simp
    go_at_call 11
    exact V1.out w2
  clear hK K
  simp only [Act.put, List.setIfInBounds_toArray, List.set_cons_succ, List.set_cons_zero]
  refine wpNew_step rfl (fun K hK => ⟨.agg (b32 g), fun w2 hw2 => quiet_load_row 22 (.tmp 3) rfl _ rfl _ _ (0, 0) _ (below_row hw2 (lt_row RG.out) RG.out) Try.underlying22 rfl (by rw [b32_size]; kernel_rfl), hK _ ?_⟩)
  clear hK K
  simp only [Act.put, List.setIfInBounds_toArray, List.set_cons_succ, List.set_cons_zero]
  refine wpNew_step rfl (fun K hK => ⟨.agg (b32 y), fun w2 hw2 => ?_, hK _ ?_⟩)
  · go_simp
    go_at_call 11
    exact V2.out w2
  clear hK K
  simp only [Act.put, List.setIfInBounds_toArray, List.set_cons_succ, List.set_cons_zero]
  refine wpNew_skip rfl ?_
  refine wpNew_skip rfl ?_
  refine wpNew_nil ?_
  intro bs w1 hb1 hrows hap
  have r5 := hrows 4 _ 22 (by omega) rfl rfl
  have r6 := hrows 5 _ 22 (by omega) rfl rfl
  have nn : bs 4 ≠ bs 5 := fun e => by have := hap 4 5 _ _ (by omega) (by omega) rfl rfl rfl rfl e; omega
  clear hrows hap
  simp only [putNews, newPtr, Act.put, List.setIfInBounds_toArray, List.set_cons_succ, List.set_cons_zero, List.drop_succ_cons, List.drop_zero]
  generalize bs 4 = qR5 at *
  generalize bs 5 = qR6 at *
  refine wpList_store_row (op := ⟨none, .store 22 (.tmp 5) (.tmp 12), _, _, _, _⟩) rfl 22 (.tmp 5) (.tmp 12) rfl qR5 _ _ (b32 x) rfl rfl r5.2 (by rw [b32_size]; rfl) (by rw [b32_size]; kernel_rfl) (b32_one _) ?_
  intro w2 S1
  refine wpList_store_row (op := ⟨none, .store 22 (.tmp 6) (.tmp 14), _, _, _, _⟩) rfl 22 (.tmp 6) (.tmp 14) rfl qR6 _ _ (b32 y) rfl rfl (S1.keep nn.symm r6.2) (by rw [b32_size]; rfl) (by rw [b32_size]; kernel_rfl) (b32_one _) ?_
  intro wb S2
  have T := news2 hb1 r5.1 r6.1 nn S1 S2
  have RF := Lib.hid (below_row T.1 (lt_row RF.out) RF.out)
  have RG := Lib.hid (below_row T.1 (lt_row RG.out) RG.out)
  have BEL := Lib.hid (BEL.out.trans (T.1.mono BEL.out.size))
  have R5 := Lib.hid T.2.1
  have R6 := Lib.hid T.2.2
  clear T S1 S2 nn r5 r6 hb1
  try simp only [Act.put, List.setIfInBounds_toArray, List.set_cons_succ, List.set_cons_zero]
  go_upto_region 2 with (fail)
  go_upto_region 3 with (first
    | ((with_reducible refine wpList_load_row (o := ⟨some 16, .load 22 (.tmp 2), _, _, _, _⟩) ?_ 22 (.tmp 2) ?_ w.heap.size ?_ _ _ (0, 0) _ RF.out Try.underlying22 ?_ ?_ ?_); (focus rfl); (focus rfl); (focus rfl); (focus rfl); (focus (rw [b32_size]; kernel_rfl)))
    | ((with_reducible refine wpList_load_row (o := ⟨some 17, .load 22 (.tmp 6), _, _, _, _⟩) ?_ 22 (.tmp 6) ?_ qR6 ?_ _ _ (0, 0) _ R6.out Try.underlying22 ?_ ?_ ?_); (focus rfl); (focus rfl); (focus rfl); (focus rfl); (focus (rw [b32_size]; kernel_rfl)))
    | (go_at_call 12; with_reducible refine (V3.out _).mono ?_; rintro e w1 ⟨rfl, hq⟩)
    | ((with_reducible refine wpList_alloc_row (o := ⟨some 7, .alloc 22, _, _, _, _⟩) ?_ 22 ?_ (Array.replicate 32 (.int .u8 0)) ?_ ?_); (focus rfl); (focus rfl); (focus kernel_rfl))
    | ((with_reducible refine wpList_store_new (o := ⟨none, .store 22 (.tmp 7) (.tmp 19), _, _, _, _⟩) ?_ 22 (.tmp 7) (.tmp 19) ?_ (Array.replicate 32 (.int .u8 0)) (b32 s) w1.heap.size ?_ ?_ ?_ ?_ ?_ (b32_one _) ?_); (focus rfl); (focus rfl); (focus rfl); (focus rfl); (focus rfl); (focus (rw [b32_size]; kernel_rfl)); (focus (rw [b32_size]; rfl))))
  have T : Below wb.heap.size wb (w1.alloc (.cells (b32 s) 22)) := hq.alloc hq.size _
  have RX : (w1.alloc (.cells (b32 s) 22)).heap[w1.heap.size]? = some (.cells (b32 s) 22 (0, 0)) := heap_alloc_last _ _
  generalize w1.heap.size = qR7 at *
  generalize w1.alloc _ = wc at *
  have RF := Lib.hid (below_row T (lt_row RF.out) RF.out)
  have RG := Lib.hid (below_row T (lt_row RG.out) RG.out)
  have R5 := Lib.hid (below_row T (lt_row R5.out) R5.out)
  have R6 := Lib.hid (below_row T (lt_row R6.out) R6.out)
  have BEL := Lib.hid (BEL.out.trans (T.mono BEL.out.size))
  have R7 := Lib.hid RX
  clear T RX hq
  try simp only [Act.put, List.setIfInBounds_toArray, List.set_cons_succ, List.set_cons_zero]
  go_upto_region 4 with (first
    | ((with_reducible refine wpList_load_row (o := ⟨some 22, .load 22 (.tmp 3), _, _, _, _⟩) ?_ 22 (.tmp 3) ?_ (w.heap.size + 1) ?_ _ _ (0, 0) _ RG.out Try.underlying22 ?_ ?_ ?_); (focus rfl); (focus rfl); (focus rfl); (focus rfl); (focus (rw [b32_size]; kernel_rfl)))
    | ((with_reducible refine wpList_load_row (o := ⟨some 23, .load 22 (.tmp 5), _, _, _, _⟩) ?_ 22 (.tmp 5) ?_ qR5 ?_ _ _ (0, 0) _ R5.out Try.underlying22 ?_ ?_ ?_); (focus rfl); (focus rfl); (focus rfl); (focus rfl); (focus (rw [b32_size]; kernel_rfl)))
    | (go_at_call 12; with_reducible refine (V4.out _).mono ?_; rintro e w1 ⟨rfl, hq⟩)
    | ((with_reducible refine wpList_alloc_row (o := ⟨some 9, .alloc 22, _, _, _, _⟩) ?_ 22 ?_ (Array.replicate 32 (.int .u8 0)) ?_ ?_); (focus rfl); (focus rfl); (focus kernel_rfl))
    | ((with_reducible refine wpList_store_new (o := ⟨none, .store 22 (.tmp 9) (.tmp 25), _, _, _, _⟩) ?_ 22 (.tmp 9) (.tmp 25) ?_ (Array.replicate 32 (.int .u8 0)) (b32 s) w1.heap.size ?_ ?_ ?_ ?_ ?_ (b32_one _) ?_); (focus rfl); (focus rfl); (focus rfl); (focus rfl); (focus rfl); (focus (rw [b32_size]; kernel_rfl)); (focus (rw [b32_size]; rfl))))
  have T : Below wc.heap.size wc (w1.alloc (.cells (b32 s) 22)) := hq.alloc hq.size _
  have RX : (w1.alloc (.cells (b32 s) 22)).heap[w1.heap.size]? = some (.cells (b32 s) 22 (0, 0)) := heap_alloc_last _ _
  generalize w1.heap.size = qR9 at *
  generalize w1.alloc _ = wd at *
  have RF := Lib.hid (below_row T (lt_row RF.out) RF.out)
  have RG := Lib.hid (below_row T (lt_row RG.out) RG.out)
  have R5 := Lib.hid (below_row T (lt_row R5.out) R5.out)
  have R6 := Lib.hid (below_row T (lt_row R6.out) R6.out)
  have R7 := Lib.hid (below_row T (lt_row R7.out) R7.out)
  have BEL := Lib.hid (BEL.out.trans (T.mono BEL.out.size))
  have R9 := Lib.hid RX
  clear T RX hq
  try simp only [Act.put, List.setIfInBounds_toArray, List.set_cons_succ, List.set_cons_zero]
  refine region_class1 26 (fun w' => Below wd.drew.heap.size wd.drew w') mixedOrders (by kernel_rfl) (Below.refl _ _) rfl ?_
  refine wpQuiet_take (by rfl) (fun K hK => ⟨.bool true, fun w2 hw2 => ?_, hK _ ?_⟩)
  · have hw3 := Lib.hid hw2
    clear hw2
    go_simp
    go_at_call 9
    refine (bends_any w2).mono ?_
    rintro e w4 ⟨rfl, hb4⟩
    exact ⟨rfl, hw3.out.trans (hb4.mono hw3.out.size)⟩
  clear hK K
  simp only [Act.put, List.setIfInBounds_toArray, List.set_cons_succ, List.set_cons_zero]
  refine wpQuiet_take (by rfl) (fun K hK => ⟨.bool true, fun w2 hw2 => quiet_run (by rfl), hK _ ?_⟩)
  clear hK K
  simp only [Act.put, List.setIfInBounds_toArray, List.set_cons_succ, List.set_cons_zero]
  refine wpQuiet_take (by rfl) (fun K hK => ⟨.agg (b32 s), fun w2 hw2 => quiet_load_row 22 (.tmp 7) rfl _ rfl _ _ (0, 0) _ (below_row hw2 (lt_row R7.out) R7.out) Try.underlying22 rfl (by rw [b32_size]; kernel_rfl), hK _ ?_⟩)
  clear hK K
  simp only [Act.put, List.setIfInBounds_toArray, List.set_cons_succ, List.set_cons_zero]
  refine wpQuiet_take (by rfl) (fun K hK => ⟨.agg (b32 s), fun w2 hw2 => quiet_load_row 22 (.tmp 9) rfl _ rfl _ _ (0, 0) _ (below_row hw2 (lt_row R9.out) R9.out) Try.underlying22 rfl (by rw [b32_size]; kernel_rfl), hK _ ?_⟩)
  clear hK K
  simp only [Act.put, List.setIfInBounds_toArray, List.set_cons_succ, List.set_cons_zero]
  refine wpQuiet_take (by rfl) (fun K hK => ⟨.bool true, fun w2 hw2 => quiet_run (run_eq32 rfl _ _ rfl rfl (eqb32_same s _)), hK _ ?_⟩)
  clear hK K
  simp only [Act.put, List.setIfInBounds_toArray, List.set_cons_succ, List.set_cons_zero]
  refine wpQuiet_take (by rfl) (fun K hK => ⟨.bool true, fun w2 hw2 => quiet_run (by rfl), hK _ ?_⟩)
  clear hK K
  simp only [Act.put, List.setIfInBounds_toArray, List.set_cons_succ, List.set_cons_zero]
  refine wpQuiet_take (by rfl) (fun K hK => ⟨.bool true, fun w2 hw2 => quiet_run (by rfl), hK _ ?_⟩)
  clear hK K
  simp only [Act.put, List.setIfInBounds_toArray, List.set_cons_succ, List.set_cons_zero]
  refine wpQuiet_take (by rfl) (fun K hK => ⟨.int .i64 4, fun w2 hw2 => quiet_run (by rfl), hK _ ?_⟩)
  clear hK K
  simp only [Act.put, List.setIfInBounds_toArray, List.set_cons_succ, List.set_cons_zero]
  refine wpQuiet_take (by rfl) (fun K hK => ⟨.int .i64 4, fun w2 hw2 => quiet_run (by rfl), hK _ ?_⟩)
  clear hK K
  simp only [Act.put, List.setIfInBounds_toArray, List.set_cons_succ, List.set_cons_zero]
  refine wpQuiet_take (by rfl) (fun K hK => ⟨.bool true, fun w2 hw2 => quiet_run (by kernel_rfl), hK _ ?_⟩)
  clear hK K
  simp only [Act.put, List.setIfInBounds_toArray, List.set_cons_succ, List.set_cons_zero]
  refine wpQuiet_take (by rfl) (fun K hK => ⟨.bool true, fun w2 hw2 => quiet_run (by rfl), hK _ ?_⟩)
  clear hK K
  simp only [Act.put, List.setIfInBounds_toArray, List.set_cons_succ, List.set_cons_zero]
  refine wpQuiet_take (by rfl) (fun K hK => ⟨.bool true, fun w2 hw2 => quiet_run (by rfl), hK _ ?_⟩)
  clear hK K
  simp only [Act.put, List.setIfInBounds_toArray, List.set_cons_succ, List.set_cons_zero]
  refine wpQuiet_take (by rfl) (fun K hK => ⟨.agg (b32 f), fun w2 hw2 => quiet_load_row 22 (.tmp 2) rfl _ rfl _ _ (0, 0) _ (below_row hw2 (lt_row RF.out) RF.out) Try.underlying22 rfl (by rw [b32_size]; kernel_rfl), hK _ ?_⟩)
  clear hK K
  simp only [Act.put, List.setIfInBounds_toArray, List.set_cons_succ, List.set_cons_zero]
  refine wpQuiet_take (by rfl) (fun K hK => ⟨.agg (b32 y), fun w2 hw2 => quiet_load_row 22 (.tmp 6) rfl _ rfl _ _ (0, 0) _ (below_row hw2 (lt_row R6.out) R6.out) Try.underlying22 rfl (by rw [b32_size]; kernel_rfl), hK _ ?_⟩)
  clear hK K
  simp only [Act.put, List.setIfInBounds_toArray, List.set_cons_succ, List.set_cons_zero]
  refine wpQuiet_take (by rfl) (fun K hK => ⟨.agg (b32 s), fun w2 hw2 => ?_, hK _ ?_⟩)
  · have hw3 := Lib.hid hw2
    clear hw2
    go_simp
    go_at_call 8
    refine (V5.out w2).mono ?_
    rintro e w4 ⟨rfl, hb4⟩
    exact ⟨rfl, hw3.out.trans (hb4.mono hw3.out.size)⟩
  clear hK K
  simp only [Act.put, List.setIfInBounds_toArray, List.set_cons_succ, List.set_cons_zero]
  refine wpQuiet_take (by rfl) (fun K hK => ⟨.agg (b32 s), fun w2 hw2 => quiet_load_row 22 (.tmp 7) rfl _ rfl _ _ (0, 0) _ (below_row hw2 (lt_row R7.out) R7.out) Try.underlying22 rfl (by rw [b32_size]; kernel_rfl), hK _ ?_⟩)
  clear hK K
  simp only [Act.put, List.setIfInBounds_toArray, List.set_cons_succ, List.set_cons_zero]
  refine wpQuiet_take (by rfl) (fun K hK => ⟨.bool true, fun w2 hw2 => quiet_run (run_eq32 rfl _ _ rfl rfl (eqb32_same s _)), hK _ ?_⟩)
  clear hK K
  simp only [Act.put, List.setIfInBounds_toArray, List.set_cons_succ, List.set_cons_zero]
  refine wpQuiet_take (by rfl) (fun K hK => ⟨.bool true, fun w2 hw2 => quiet_run (by rfl), hK _ ?_⟩)
  clear hK K
  simp only [Act.put, List.setIfInBounds_toArray, List.set_cons_succ, List.set_cons_zero]
  refine wpQuiet_take (by rfl) (fun K hK => ⟨.bool true, fun w2 hw2 => quiet_run (by rfl), hK _ ?_⟩)
  clear hK K
  simp only [Act.put, List.setIfInBounds_toArray, List.set_cons_succ, List.set_cons_zero]
  refine wpQuiet_take (by rfl) (fun K hK => ⟨.int .i64 4, fun w2 hw2 => quiet_run (by rfl), hK _ ?_⟩)
  clear hK K
  simp only [Act.put, List.setIfInBounds_toArray, List.set_cons_succ, List.set_cons_zero]
  refine wpQuiet_take (by rfl) (fun K hK => ⟨.bool false, fun w2 hw2 => quiet_run (by kernel_rfl), hK _ ?_⟩)
  clear hK K
  simp only [Act.put, List.setIfInBounds_toArray, List.set_cons_succ, List.set_cons_zero]
  refine wpQuiet_take (by rfl) (fun K hK => ⟨.bool false, fun w2 hw2 => quiet_run (by rfl), hK _ ?_⟩)
  clear hK K
  simp only [Act.put, List.setIfInBounds_toArray, List.set_cons_succ, List.set_cons_zero]
  refine wpQuiet_take (by rfl) (fun K hK => ⟨.int .i64 4, fun w2 hw2 => quiet_run (by rfl), hK _ ?_⟩)
  clear hK K
  simp only [Act.put, List.setIfInBounds_toArray, List.set_cons_succ, List.set_cons_zero]
  refine wpQuiet_take (by rfl) (fun K hK => ⟨.bool true, fun w2 hw2 => quiet_run (by kernel_rfl), hK _ ?_⟩)
  clear hK K
  simp only [Act.put, List.setIfInBounds_toArray, List.set_cons_succ, List.set_cons_zero]
  refine wpQuiet_take (by rfl) (fun K hK => ⟨.bool true, fun w2 hw2 => quiet_run (by rfl), hK _ ?_⟩)
  clear hK K
  simp only [Act.put, List.setIfInBounds_toArray, List.set_cons_succ, List.set_cons_zero]
  refine wpQuiet_take (by rfl) (fun K hK => ⟨.bool true, fun w2 hw2 => quiet_run (by rfl), hK _ ?_⟩)
  clear hK K
  simp only [Act.put, List.setIfInBounds_toArray, List.set_cons_succ, List.set_cons_zero]
  refine wpQuiet_take0 ?_
  intro wf hq
  have hq : Below wd.heap.size wd wf := (Below.refl _ _).drew.trans hq
  go_wp2_with fail
  go_ret
  exact ⟨rfl, BEL.out.trans (hq.mono BEL.out.size)⟩
theorem law_any (f g : Nat → BitVec 8) (w : World) :
    Calls Try.prog 4 #[.agg (b32 f), .agg (b32 g)] w fun e w' => e = .returned (.bool true) ∧ Below w.heap.size w w' := by
  have U3 := shared_any f (numF (timesN g (byteF 9#8)))
  have U4 := shared_any g (numF (timesN f (byteF 9#8)))
  have U5 := times_any f (numF (timesN g (byteF 9#8)))
  rw [times_turn g f] at U4
  generalize timesN f (numF (timesN g (byteF 9#8))) = N at *
  by_cases h : N = 0
  · have e : errN N = 4 := if_pos h
    rw [e] at U3 U4
    exact law_core4 f g _ _ _ (public_any f) (public_any g) U3 U4 U5 w
  · have e : errN N = 0 := if_neg h
    rw [e] at U3 U4
    exact law_core0 f g _ _ _ (public_any f) (public_any g) U3 U4 U5 w
theorem walk {H : Type} {enc : TypeId × Value → H} (w : World) (base : Nat) (v0 v1 : Value) (d0 d1 : DataW H) (p0 p1 : List MemPlace)
    (k0 : Value.okWide Try.prog w .any base 22 v0) (k1 : Value.okWide Try.prog w .any base 22 v1)
    (h0 : DataW.Trod enc Try.prog w 0 (fun _ => true) true 22 v0 d0 p0) (h1 : DataW.Trod enc Try.prog w 0 (fun _ => true) true 22 v1 d1 p1) :
    Calls Try.prog 4 #[v0, v1] w fun e w' => e = .returned (.bool true) ∧ Below w.heap.size w w' := by
  obtain ⟨f, rfl⟩ := open32 k0 h0
  obtain ⟨g, rfl⟩ := open32 k1 h1
  exact law_any f g w
set_option maxRecDepth 100000 in
theorem lifted (os : Os) (started : os.Started) (H : Type) (enc : TypeId × Value → H) :
    ReturnsInHanded {} Try.checked os 4 .any (Rows.curveSharesSpec.pre6 enc Try.prog Try.f4 Rows.curveSharesRow.domain false) (Rows.curveSharesSpec.post enc Try.prog Try.f4 false true false false) := by
  refine returnsInHanded_of_change (C := Try.checked) own started (by kernel_rfl) Try.func4
    (ChangeSpec.witness6 (enc := enc) (C := Try.checked) false ⟨#[], #[.agg (Array.replicate 32 (.int .u8 0)), .agg (Array.replicate 32 (.int .u8 0))], []⟩ 8 (by kernel_rfl) (by kernel_rfl) (by kernel_rfl) (by kernel_rfl)) ?_
  intro W base args ds gs before hval0 hW hcnd _
  have hval : ∀ (j : Nat) t v, Try.f4.params[j]? = some t → args[j]? = some v → Value.okWide Try.prog W .any base t v := hval0
  have hW' := hW
  obtain ⟨p, q, hA0, hV, rfl, hfz, hnd⟩ := hW
  have hA : DataW.TrodAll enc Try.prog W 0 (fun _ => true) true Try.f4.params.toList args.toList ds p := hA0
  rw [Try.params4] at hA hval
  obtain ⟨v0, vs0, d0, ds0, p0, q0, hargs, rfl, rfl, h0, r0⟩ := trodAll_cons hA
  obtain ⟨v1, vs1, d1, ds1, p1, q1, rfl, rfl, rfl, h1, r1⟩ := trodAll_cons r0
  obtain ⟨rfl, rfl, rfl⟩ := trodAll_nil r1
  obtain rfl : args = #[v0, v1] := by cases args; simp_all
  obtain ⟨rfl, rfl⟩ := trodVars_none hV
  have k0 := h0
  have lt0 : ∀ x ∈ p0, x.block < W.heap.size := by obtain ⟨m, hm⟩ := k0; exact DataW.trod_lt m _ _ _ hm
  have k1 := h1
  have lt1 : ∀ x ∈ p1, x.block < W.heap.size := by obtain ⟨m, hm⟩ := k1; exact DataW.trod_lt m _ _ _ hm
  clear hA0 hval0
  refine (walk W base v0 v1 d0 d1 p0 p1 (hval 0 22 v0 rfl rfl) (hval 1 22 v1 rfl rfl) k0 k1).mono fun e W' ⟨he, bel⟩ => ?_
  subst he
  exact ⟨_, rfl, _, _, _, [], _, [], hW', trodAll_mk1 (shut_bool Try.underlying4 _), (trodAll_cons_mk (Below.trod laidOut (by kernel_rfl) (of_decide_eq_true (by kernel_rfl)) k0 bel lt0) (trodAll_cons_mk (Below.trod laidOut (by kernel_rfl) (of_decide_eq_true (by kernel_rfl)) k1 bel lt1) trodAll_mk0)), rfl, bel.frame _, fun h => by cases h⟩
theorem over : Rows.curveSharesRow.holds Try.pinned (OpenSpec.ofChange Rows.curveSharesSpec) :=
  OpenClaim.holds_of_wide 4 Try.f4 rfl rfl rfl rfl rfl rfl rfl ⟨rfl, rfl, rfl, rfl, rfl⟩ rfl rfl rfl rfl rfl (by kernel_rfl) Try.func4 (by kernel_rfl)
    (of_decide_eq_true (by kernel_rfl)) (by unfold Func.isWrapper; first | (rw [if_pos (by decide +kernel)]; kernel_rfl) | (rw [if_neg (by decide +kernel)]; exact ⟨rfl, rfl⟩))
    (fun os started H enc _ => lifted os started H enc)
theorem proved : Rows.CurveSharesSaid := over
end Go.Proofs.Ytmfiabkhnoimhaa.curveShares
