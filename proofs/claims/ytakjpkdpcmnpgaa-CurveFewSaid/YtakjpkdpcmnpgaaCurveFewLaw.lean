/-
  CurveFew holds: of a point of few Shared of curve tells that there is no secret: 0 and 1, by all keys; else the error is told just where Times is nought. No conditions.
-/
import Derived.Test.YtakjpkdpcmnpgaaRows
import Derived.Test.YtakjpkdpcmnpgaaCurveH
import Derived.WalkKit
import Derived.ProofKit
import Derived.OpenShut
import Derived.ShutString
import Derived.ChangeOld
import Derived.Below
import Derived.Deep.DeepCutAuto
import Derived.Deep.Upon
import Derived.Deep.AppendSrc
import Derived.SizedLaws
namespace Go.Proofs.Ytakjpkdpcmnpgaa.curveFew
open Go Go.ChangeShapes Go.WideShapes Go.ChangeAt Go.RowKit Go.BigFrame
set_option linter.unusedVariables false
theorem own : ownKnob Try.prog.godebug = none := by kernel_rfl
theorem laidOut : laidOutB Try.prog = true := by kernel_rfl
theorem wpList_load_row_g {P : Program} {ops : Array Oper} {rest : List Oper} {o : Oper} {a : Act} {w : World} {Q : Exit → Act → World → Prop} (hw : Region.wanted o (yielded ops a.tmps) = true) (ty : TypeId) (x : Operand) (ho : o.op = .load ty x)
    (g : Nat) (hx : a.eval x = .pointer (some ⟨g, 0, none⟩)) (t : TypeId) (cs : Array Value) (fr : Nat × Nat) (d : TypeDesc) (hg : w.heap[g]? = some (.cells cs t fr))
    (hu : P.underlying ty = some d) (hd : (match d with | .struct _ | .array _ _ => true | _ => false) = true) (hi : (P.info? ty).map (·.size) = some cs.size)
    (h : wpList P ops Q rest (a.put o.dst (.agg cs)) w) : wpList P ops Q (o :: rest) a w :=
  wpList_step fun K hK => by rw [if_pos hw]; exact wp_load_row ty x ho g hx t cs fr d hg hu hd hi (hK _ _ h)
theorem wpList_run_g {P : Program} {ops : Array Oper} {Q : Exit → Act → World → Prop} {o : Oper} {rest : List Oper} {a : Act} {w : World} {v : Value} (hw : Region.wanted o (yielded ops a.tmps) = true)
    (h : (execOp a.eval o).run P w = .ok (.value v) w) (hn : wpList P ops Q rest (a.put o.dst v) w) : wpList P ops Q (o :: rest) a w :=
  wpList_step fun K hK => by
    rw [if_pos hw]
    unfold Oper.wp
    rw [h]
    exact hK _ _ hn
theorem one_lit : #[.int .u8 1, .int .u8 0, .int .u8 0, .int .u8 0, .int .u8 0, .int .u8 0, .int .u8 0, .int .u8 0, .int .u8 0, .int .u8 0, .int .u8 0, .int .u8 0, .int .u8 0, .int .u8 0, .int .u8 0, .int .u8 0, .int .u8 0, .int .u8 0, .int .u8 0, .int .u8 0, .int .u8 0, .int .u8 0, .int .u8 0, .int .u8 0, .int .u8 0, .int .u8 0, .int .u8 0, .int .u8 0, .int .u8 0, .int .u8 0, .int .u8 0, .int .u8 0] = b32 (byteF 1#8) := by
  have := b32_one1
  injection this
theorem few0 (f : Nat → BitVec 8) : timesN f (numF 0) = 0 := by
  have e : ptF (numF 0) = 0 := by
    apply Cv.ext
    unfold ptF
    rw [Cv.fn_val, Cv.zero_val]; decide +kernel
  rw [timesN_def, e, Cv.out_zero, Cv.zero_val]
theorem few1 (f : Nat → BitVec 8) : timesN f (byteF 1#8) = 0 := by
  have e : ptF (byteF 1#8) = 1 := by
    apply Cv.ext
    unfold ptF
    rw [Cv.fn_val, Cv.one_val]; decide +kernel
  rw [timesN_def, e, Cv.out_one (Cv.bit f) rfl rfl, Cv.zero_val]
theorem shared0 (f : Nat → BitVec 8) (w : World) : Calls Try.prog 12 #[.agg (b32 f), .agg #[.int .u8 0, .int .u8 0, .int .u8 0, .int .u8 0, .int .u8 0, .int .u8 0, .int .u8 0, .int .u8 0, .int .u8 0, .int .u8 0, .int .u8 0, .int .u8 0, .int .u8 0, .int .u8 0, .int .u8 0, .int .u8 0, .int .u8 0, .int .u8 0, .int .u8 0, .int .u8 0, .int .u8 0, .int .u8 0, .int .u8 0, .int .u8 0, .int .u8 0, .int .u8 0, .int .u8 0, .int .u8 0, .int .u8 0, .int .u8 0, .int .u8 0, .int .u8 0]] w fun e w' => e = .returned (.tuple #[.agg (b32 (numF 0)), .int .i64 4]) ∧ Below w.heap.size w w' := by
  rw [zero_lit]
  have h := shared_any f (numF 0) w
  rw [few0] at h
  exact h
theorem shared1 (f : Nat → BitVec 8) (w : World) : Calls Try.prog 12 #[.agg (b32 f), .agg #[.int .u8 1, .int .u8 0, .int .u8 0, .int .u8 0, .int .u8 0, .int .u8 0, .int .u8 0, .int .u8 0, .int .u8 0, .int .u8 0, .int .u8 0, .int .u8 0, .int .u8 0, .int .u8 0, .int .u8 0, .int .u8 0, .int .u8 0, .int .u8 0, .int .u8 0, .int .u8 0, .int .u8 0, .int .u8 0, .int .u8 0, .int .u8 0, .int .u8 0, .int .u8 0, .int .u8 0, .int .u8 0, .int .u8 0, .int .u8 0, .int .u8 0, .int .u8 0]] w fun e w' => e = .returned (.tuple #[.agg (b32 (numF 0)), .int .i64 4]) ∧ Below w.heap.size w w' := by
  rw [one_lit]
  have h := shared_any f (byteF 1#8) w
  rw [few1] at h
  exact h
set_option maxHeartbeats 40000000 in
set_option maxRecDepth 100000 in
theorem law_core (f g o z : Nat → BitVec 8) (E : Int) (D : Bool) (S0 : ByteArray) (hED : (D = true ∧ E = 4) ∨ (D = false ∧ E = 0))
    (U0 : ∀ w : World, Calls Try.prog 12 #[.agg (b32 f), .agg #[.int .u8 0, .int .u8 0, .int .u8 0, .int .u8 0, .int .u8 0, .int .u8 0, .int .u8 0, .int .u8 0, .int .u8 0, .int .u8 0, .int .u8 0, .int .u8 0, .int .u8 0, .int .u8 0, .int .u8 0, .int .u8 0, .int .u8 0, .int .u8 0, .int .u8 0, .int .u8 0, .int .u8 0, .int .u8 0, .int .u8 0, .int .u8 0, .int .u8 0, .int .u8 0, .int .u8 0, .int .u8 0, .int .u8 0, .int .u8 0, .int .u8 0, .int .u8 0]] w fun e w' => e = .returned (.tuple #[.agg (b32 z), .int .i64 4]) ∧ Below w.heap.size w w')
    (U1 : ∀ w : World, Calls Try.prog 12 #[.agg (b32 f), .agg #[.int .u8 1, .int .u8 0, .int .u8 0, .int .u8 0, .int .u8 0, .int .u8 0, .int .u8 0, .int .u8 0, .int .u8 0, .int .u8 0, .int .u8 0, .int .u8 0, .int .u8 0, .int .u8 0, .int .u8 0, .int .u8 0, .int .u8 0, .int .u8 0, .int .u8 0, .int .u8 0, .int .u8 0, .int .u8 0, .int .u8 0, .int .u8 0, .int .u8 0, .int .u8 0, .int .u8 0, .int .u8 0, .int .u8 0, .int .u8 0, .int .u8 0, .int .u8 0]] w fun e w' => e = .returned (.tuple #[.agg (b32 z), .int .i64 4]) ∧ Below w.heap.size w w')
    (US : ∀ w : World, Calls Try.prog 12 #[.agg (b32 f), .agg (b32 g)] w fun e w' => e = .returned (.tuple #[.agg (b32 o), .int .i64 E]) ∧ Below w.heap.size w w')
    (UT : ∀ w : World, Calls Try.prog 8 #[.agg (b32 f), .agg (b32 g)] w fun e w' => e = .returned (.agg (b32 o)) ∧ Below w.heap.size w w')
    (UZ : ∀ w : World, Calls Try.prog 13 #[.int .i64 0] w fun e w' => e = .returned (.string S0) ∧ Below w.heap.size w w')
    (EZ : ∀ w : World, (Op.equalIn 10000 22 (.agg (b32 z)) (.agg #[.int .u8 0, .int .u8 0, .int .u8 0, .int .u8 0, .int .u8 0, .int .u8 0, .int .u8 0, .int .u8 0, .int .u8 0, .int .u8 0, .int .u8 0, .int .u8 0, .int .u8 0, .int .u8 0, .int .u8 0, .int .u8 0, .int .u8 0, .int .u8 0, .int .u8 0, .int .u8 0, .int .u8 0, .int .u8 0, .int .u8 0, .int .u8 0, .int .u8 0, .int .u8 0, .int .u8 0, .int .u8 0, .int .u8 0, .int .u8 0, .int .u8 0, .int .u8 0])).run Try.prog w = .ok true w)
    (hS : ((strOf o 32).toList == S0.toList) = D) (w : World) :
    Calls Try.prog 6 #[.agg (b32 f), .agg (b32 g)] w fun e w' => e = .returned (.bool true) ∧ Below w.heap.size w w' := by
  have HED := Lib.hid hED; have V0 := Lib.hid U0; have V1 := Lib.hid U1; have VS := Lib.hid US; have VT := Lib.hid UT; have VZ := Lib.hid UZ; have HZ := Lib.hid EZ; have HS := Lib.hid hS
  clear hED U0 U1 US UT UZ EZ hS
  go_enter Try.func6, Try.ntmps6
  go_upto_region 1 with (fail)
  have R0 : ((w.alloc (.cells (b32 f) 22)).alloc (.cells (b32 g) 22)).heap[w.heap.size]? = some (.cells (b32 f) 22 (0, 0)) := rows_alloc w [_, _] 0
  have R1 : ((w.alloc (.cells (b32 f) 22)).alloc (.cells (b32 g) 22)).heap[w.heap.size + 1]? = some (.cells (b32 g) 22 (0, 0)) := rows_alloc w [_, _] 1
  have B0 : Below w.heap.size w ((w.alloc (.cells (b32 f) 22)).alloc (.cells (b32 g) 22)) := ((Below.refl _ _).alloc (Nat.le_refl _) _).alloc (by simp) _
  generalize hW : (w.alloc _).alloc _ = wa at *
  clear hW
  have RN := Lib.hid R0; have RP := Lib.hid R1; have BEL := Lib.hid B0
  clear R0 R1 B0
  go_upto_region 2 with (first
    | ((with_reducible refine wpList_load_row (o := ⟨some 14, .load 22 (.tmp 2), _, _, _, _⟩) ?_ 22 (.tmp 2) ?_ w.heap.size ?_ _ _ (0, 0) _ RN.out Try.underlying22 ?_ ?_ ?_); (focus rfl); (focus rfl); (focus rfl); (focus rfl); (focus (rw [b32_size]; kernel_rfl)))
    | ((with_reducible refine wpList_run (o := ⟨some 15, _, _, _, _, _⟩) (v := .agg #[.int .u8 0, .int .u8 0, .int .u8 0, .int .u8 0, .int .u8 0, .int .u8 0, .int .u8 0, .int .u8 0, .int .u8 0, .int .u8 0, .int .u8 0, .int .u8 0, .int .u8 0, .int .u8 0, .int .u8 0, .int .u8 0, .int .u8 0, .int .u8 0, .int .u8 0, .int .u8 0, .int .u8 0, .int .u8 0, .int .u8 0, .int .u8 0, .int .u8 0, .int .u8 0, .int .u8 0, .int .u8 0, .int .u8 0, .int .u8 0, .int .u8 0, .int .u8 0]) ?_ ?_ ?_); (focus rfl); (focus kernel_rfl))
    | (go_at_call 12; with_reducible refine (V0.out _).mono ?_; rintro e w1 ⟨rfl, hq⟩)
    | ((with_reducible refine wpList_alloc_row (o := ⟨some 5, .alloc 22, _, _, _, _⟩) ?_ 22 ?_ (Array.replicate 32 (.int .u8 0)) ?_ ?_); (focus rfl); (focus rfl); (focus kernel_rfl))
    | ((with_reducible refine wpList_store_new (o := ⟨none, .store 22 (.tmp 5) (.tmp 17), _, _, _, _⟩) ?_ 22 (.tmp 5) (.tmp 17) ?_ (Array.replicate 32 (.int .u8 0)) (b32 z) w1.heap.size ?_ ?_ ?_ ?_ ?_ (b32_one _) ?_); (focus rfl); (focus rfl); (focus rfl); (focus rfl); (focus rfl); (focus (rw [b32_size]; kernel_rfl)); (focus (rw [b32_size]; rfl))))
  have T : Below wa.heap.size wa (w1.alloc (.cells (b32 z) 22)) := hq.alloc hq.size _
  have RX : (w1.alloc (.cells (b32 z) 22)).heap[w1.heap.size]? = some (.cells (b32 z) 22 (0, 0)) := heap_alloc_last _ _
  generalize w1.heap.size = qR5 at *
  generalize w1.alloc _ = wb at *
  have RN := Lib.hid (below_row T (lt_row RN.out) RN.out)
  have RP := Lib.hid (below_row T (lt_row RP.out) RP.out)
  have BEL := Lib.hid (BEL.out.trans (T.mono BEL.out.size))
  have R5 := Lib.hid RX
  clear T RX hq
  try simp only [Act.put, List.setIfInBounds_toArray, List.set_cons_succ, List.set_cons_zero]
  go_upto_region 3 with (first
    | ((with_reducible refine wpList_load_row (o := ⟨some 20, .load 22 (.tmp 2), _, _, _, _⟩) ?_ 22 (.tmp 2) ?_ w.heap.size ?_ _ _ (0, 0) _ RN.out Try.underlying22 ?_ ?_ ?_); (focus rfl); (focus rfl); (focus rfl); (focus rfl); (focus (rw [b32_size]; kernel_rfl)))
    | ((with_reducible refine wpList_run (o := ⟨some 21, _, _, _, _, _⟩) (v := .agg #[.int .u8 1, .int .u8 0, .int .u8 0, .int .u8 0, .int .u8 0, .int .u8 0, .int .u8 0, .int .u8 0, .int .u8 0, .int .u8 0, .int .u8 0, .int .u8 0, .int .u8 0, .int .u8 0, .int .u8 0, .int .u8 0, .int .u8 0, .int .u8 0, .int .u8 0, .int .u8 0, .int .u8 0, .int .u8 0, .int .u8 0, .int .u8 0, .int .u8 0, .int .u8 0, .int .u8 0, .int .u8 0, .int .u8 0, .int .u8 0, .int .u8 0, .int .u8 0]) ?_ ?_ ?_); (focus rfl); (focus kernel_rfl))
    | (go_at_call 12; with_reducible refine (V1.out _).mono ?_; rintro e w1 ⟨rfl, hq⟩)
    | ((with_reducible refine wpList_alloc_row (o := ⟨some 7, .alloc 22, _, _, _, _⟩) ?_ 22 ?_ (Array.replicate 32 (.int .u8 0)) ?_ ?_); (focus rfl); (focus rfl); (focus kernel_rfl))
    | ((with_reducible refine wpList_store_new (o := ⟨none, .store 22 (.tmp 7) (.tmp 23), _, _, _, _⟩) ?_ 22 (.tmp 7) (.tmp 23) ?_ (Array.replicate 32 (.int .u8 0)) (b32 z) w1.heap.size ?_ ?_ ?_ ?_ ?_ (b32_one _) ?_); (focus rfl); (focus rfl); (focus rfl); (focus rfl); (focus rfl); (focus (rw [b32_size]; kernel_rfl)); (focus (rw [b32_size]; rfl))))
  have T : Below wb.heap.size wb (w1.alloc (.cells (b32 z) 22)) := hq.alloc hq.size _
  have RX : (w1.alloc (.cells (b32 z) 22)).heap[w1.heap.size]? = some (.cells (b32 z) 22 (0, 0)) := heap_alloc_last _ _
  generalize w1.heap.size = qR7 at *
  generalize w1.alloc _ = wc at *
  have RN := Lib.hid (below_row T (lt_row RN.out) RN.out)
  have RP := Lib.hid (below_row T (lt_row RP.out) RP.out)
  have R5 := Lib.hid (below_row T (lt_row R5.out) R5.out)
  have BEL := Lib.hid (BEL.out.trans (T.mono BEL.out.size))
  have R7 := Lib.hid RX
  clear T RX hq
  try simp only [Act.put, List.setIfInBounds_toArray, List.set_cons_succ, List.set_cons_zero]
  go_upto_region 4 with (first
    | ((with_reducible refine wpList_load_row (o := ⟨some 26, .load 22 (.tmp 2), _, _, _, _⟩) ?_ 22 (.tmp 2) ?_ w.heap.size ?_ _ _ (0, 0) _ RN.out Try.underlying22 ?_ ?_ ?_); (focus rfl); (focus rfl); (focus rfl); (focus rfl); (focus (rw [b32_size]; kernel_rfl)))
    | ((with_reducible refine wpList_load_row (o := ⟨some 27, .load 22 (.tmp 3), _, _, _, _⟩) ?_ 22 (.tmp 3) ?_ (w.heap.size + 1) ?_ _ _ (0, 0) _ RP.out Try.underlying22 ?_ ?_ ?_); (focus rfl); (focus rfl); (focus rfl); (focus rfl); (focus (rw [b32_size]; kernel_rfl)))
    | (go_at_call 12; with_reducible refine (VS.out _).mono ?_; rintro e w1 ⟨rfl, hq⟩)
    | ((with_reducible refine wpList_alloc_row (o := ⟨some 9, .alloc 22, _, _, _, _⟩) ?_ 22 ?_ (Array.replicate 32 (.int .u8 0)) ?_ ?_); (focus rfl); (focus rfl); (focus kernel_rfl))
    | ((with_reducible refine wpList_store_new (o := ⟨none, .store 22 (.tmp 9) (.tmp 29), _, _, _, _⟩) ?_ 22 (.tmp 9) (.tmp 29) ?_ (Array.replicate 32 (.int .u8 0)) (b32 o) w1.heap.size ?_ ?_ ?_ ?_ ?_ (b32_one _) ?_); (focus rfl); (focus rfl); (focus rfl); (focus rfl); (focus rfl); (focus (rw [b32_size]; kernel_rfl)); (focus (rw [b32_size]; rfl))))
  have T : Below wc.heap.size wc (w1.alloc (.cells (b32 o) 22)) := hq.alloc hq.size _
  have RX : (w1.alloc (.cells (b32 o) 22)).heap[w1.heap.size]? = some (.cells (b32 o) 22 (0, 0)) := heap_alloc_last _ _
  generalize w1.heap.size = qR9 at *
  generalize w1.alloc _ = wd at *
  have RN := Lib.hid (below_row T (lt_row RN.out) RN.out)
  have RP := Lib.hid (below_row T (lt_row RP.out) RP.out)
  have R5 := Lib.hid (below_row T (lt_row R5.out) R5.out)
  have R7 := Lib.hid (below_row T (lt_row R7.out) R7.out)
  have BEL := Lib.hid (BEL.out.trans (T.mono BEL.out.size))
  have R9 := Lib.hid RX
  clear T RX hq
  try simp only [Act.put, List.setIfInBounds_toArray, List.set_cons_succ, List.set_cons_zero]
  go_upto_region 5 with (first
    | ((with_reducible refine wpList_load_row (o := ⟨some 31, .load 22 (.tmp 2), _, _, _, _⟩) ?_ 22 (.tmp 2) ?_ w.heap.size ?_ _ _ (0, 0) _ RN.out Try.underlying22 ?_ ?_ ?_); (focus rfl); (focus rfl); (focus rfl); (focus rfl); (focus (rw [b32_size]; kernel_rfl)))
    | ((with_reducible refine wpList_load_row (o := ⟨some 32, .load 22 (.tmp 3), _, _, _, _⟩) ?_ 22 (.tmp 3) ?_ (w.heap.size + 1) ?_ _ _ (0, 0) _ RP.out Try.underlying22 ?_ ?_ ?_); (focus rfl); (focus rfl); (focus rfl); (focus rfl); (focus (rw [b32_size]; kernel_rfl)))
    | (go_at_call 8; with_reducible refine (VT.out _).mono ?_; rintro e w1 ⟨rfl, hq⟩)
    | ((with_reducible refine wpList_alloc_row (o := ⟨some 11, .alloc 22, _, _, _, _⟩) ?_ 22 ?_ (Array.replicate 32 (.int .u8 0)) ?_ ?_); (focus rfl); (focus rfl); (focus kernel_rfl))
    | ((with_reducible refine wpList_store_new (o := ⟨none, .store 22 (.tmp 11) (.tmp 33), _, _, _, _⟩) ?_ 22 (.tmp 11) (.tmp 33) ?_ (Array.replicate 32 (.int .u8 0)) (b32 o) w1.heap.size ?_ ?_ ?_ ?_ ?_ (b32_one _) ?_); (focus rfl); (focus rfl); (focus rfl); (focus rfl); (focus rfl); (focus (rw [b32_size]; kernel_rfl)); (focus (rw [b32_size]; rfl))))
  have T : Below wd.heap.size wd (w1.alloc (.cells (b32 o) 22)) := hq.alloc hq.size _
  have RX : (w1.alloc (.cells (b32 o) 22)).heap[w1.heap.size]? = some (.cells (b32 o) 22 (0, 0)) := heap_alloc_last _ _
  generalize w1.heap.size = qR11 at *
  generalize w1.alloc _ = we at *
  have RN := Lib.hid (below_row T (lt_row RN.out) RN.out)
  have RP := Lib.hid (below_row T (lt_row RP.out) RP.out)
  have R5 := Lib.hid (below_row T (lt_row R5.out) R5.out)
  have R7 := Lib.hid (below_row T (lt_row R7.out) R7.out)
  have R9 := Lib.hid (below_row T (lt_row R9.out) R9.out)
  have BEL := Lib.hid (BEL.out.trans (T.mono BEL.out.size))
  have R11 := Lib.hid RX
  clear T RX hq
  try simp only [Act.put, List.setIfInBounds_toArray, List.set_cons_succ, List.set_cons_zero]
  refine region_class1 4 (fun w' => Below we.drew.heap.size we.drew w') mixedOrders (by kernel_rfl) (Below.refl _ _) rfl ?_
  refine wpQuiet_take (by rfl) (fun K hK => ⟨.slice (some ⟨qR11, 0, none⟩) 32 32, fun w2 hw2 => quiet_run (quiet_of_run (arr32 _ w2)), hK _ ?_⟩)
  clear hK K
  simp only [Act.put, List.setIfInBounds_toArray, List.set_cons_succ, List.set_cons_zero]
  refine wpQuiet_take (by rfl) (fun K hK => ⟨.string (strOf o 32), fun w2 hw2 => quiet_run (quiet_of_run (conv_str o _ 0 32 32 w2 (fun i hi => by rw [cell_of_row _ _ _ _ _ _ (below_row hw2 (lt_row R11.out) R11.out), Nat.zero_add]; exact b32_get _ i hi))), hK _ ?_⟩)
  clear hK K
  simp only [Act.put, List.setIfInBounds_toArray, List.set_cons_succ, List.set_cons_zero]
  refine wpQuiet_take (by rfl) (fun K hK => ⟨.string S0, fun w2 hw2 => ?_, hK _ ?_⟩)
  · have hw3 := Lib.hid hw2
    clear hw2
    go_simp
    go_at_call 13
    refine (VZ.out w2).mono ?_
    rintro e w4 ⟨rfl, hb4⟩
    exact ⟨rfl, hw3.out.trans (hb4.mono hw3.out.size)⟩
  clear hK K
  simp only [Act.put, List.setIfInBounds_toArray, List.set_cons_succ, List.set_cons_zero]
  refine wpQuiet_take (by rfl) (fun K hK => ⟨.bool D, fun w2 hw2 => ?_, hK _ ?_⟩)
  · have e := HS.out
    clear hw2
    go_simp
  clear hK K
  simp only [Act.put, List.setIfInBounds_toArray, List.set_cons_succ, List.set_cons_zero]
  refine wpQuiet_take0 ?_
  intro wf hq
  have T : Below we.heap.size we wf := (Below.refl _ _).drew.trans hq
  clear hq
  have R5 := Lib.hid (below_row T (lt_row R5.out) R5.out)
  have R7 := Lib.hid (below_row T (lt_row R7.out) R7.out)
  have R9 := Lib.hid (below_row T (lt_row R9.out) R9.out)
  have R11 := Lib.hid (below_row T (lt_row R11.out) R11.out)
  have BEL := Lib.hid (BEL.out.trans (T.mono BEL.out.size))
  clear T RN RP
  go_upto_region 6 with (fail)
  rcases HED.out with ⟨rfl, rfl⟩ | ⟨rfl, rfl⟩
  all_goals
    go_wp2_with (first
      | (go_at_call 9; with_reducible refine (bends_any _).mono ?_; rintro e w1 ⟨rfl, T⟩; have R5 := Lib.hid (below_row T (lt_row R5.out) R5.out); have R7 := Lib.hid (below_row T (lt_row R7.out) R7.out); have R9 := Lib.hid (below_row T (lt_row R9.out) R9.out); have R11 := Lib.hid (below_row T (lt_row R11.out) R11.out); have BEL := Lib.hid (BEL.out.trans (T.mono BEL.out.size)); clear T)
      | ((with_reducible refine wpList_load_row_g (o := ⟨some 48, .load 22 (.tmp 5), _, _, _, _⟩) ?_ 22 (.tmp 5) ?_ qR5 ?_ _ _ (0, 0) _ R5.out Try.underlying22 ?_ ?_ ?_); (focus rfl); (focus rfl); (focus rfl); (focus rfl); (focus (rw [b32_size]; kernel_rfl)))
      | ((with_reducible refine wpList_load_row_g (o := ⟨some 53, .load 22 (.tmp 7), _, _, _, _⟩) ?_ 22 (.tmp 7) ?_ qR7 ?_ _ _ (0, 0) _ R7.out Try.underlying22 ?_ ?_ ?_); (focus rfl); (focus rfl); (focus rfl); (focus rfl); (focus (rw [b32_size]; kernel_rfl)))
      | ((with_reducible refine wpList_load_row_g (o := ⟨some 71, .load 22 (.tmp 9), _, _, _, _⟩) ?_ 22 (.tmp 9) ?_ qR9 ?_ _ _ (0, 0) _ R9.out Try.underlying22 ?_ ?_ ?_); (focus rfl); (focus rfl); (focus rfl); (focus rfl); (focus (rw [b32_size]; kernel_rfl)))
      | ((with_reducible refine wpList_load_row_g (o := ⟨some 72, .load 22 (.tmp 11), _, _, _, _⟩) ?_ 22 (.tmp 11) ?_ qR11 ?_ _ _ (0, 0) _ R11.out Try.underlying22 ?_ ?_ ?_); (focus rfl); (focus rfl); (focus rfl); (focus rfl); (focus (rw [b32_size]; kernel_rfl)))
      | ((with_reducible refine wpList_run_g (o := ⟨some 49, _, _, _, _, _⟩) (v := .agg #[.int .u8 0, .int .u8 0, .int .u8 0, .int .u8 0, .int .u8 0, .int .u8 0, .int .u8 0, .int .u8 0, .int .u8 0, .int .u8 0, .int .u8 0, .int .u8 0, .int .u8 0, .int .u8 0, .int .u8 0, .int .u8 0, .int .u8 0, .int .u8 0, .int .u8 0, .int .u8 0, .int .u8 0, .int .u8 0, .int .u8 0, .int .u8 0, .int .u8 0, .int .u8 0, .int .u8 0, .int .u8 0, .int .u8 0, .int .u8 0, .int .u8 0, .int .u8 0]) ?_ ?_ ?_); (focus rfl); (focus kernel_rfl))
      | ((with_reducible refine wpList_run_g (o := ⟨some 54, _, _, _, _, _⟩) (v := .agg #[.int .u8 0, .int .u8 0, .int .u8 0, .int .u8 0, .int .u8 0, .int .u8 0, .int .u8 0, .int .u8 0, .int .u8 0, .int .u8 0, .int .u8 0, .int .u8 0, .int .u8 0, .int .u8 0, .int .u8 0, .int .u8 0, .int .u8 0, .int .u8 0, .int .u8 0, .int .u8 0, .int .u8 0, .int .u8 0, .int .u8 0, .int .u8 0, .int .u8 0, .int .u8 0, .int .u8 0, .int .u8 0, .int .u8 0, .int .u8 0, .int .u8 0, .int .u8 0]) ?_ ?_ ?_); (focus rfl); (focus kernel_rfl))
      | ((with_reducible refine wpList_run_g (o := ⟨some 50, _, _, _, _, _⟩) (v := .bool true) ?_ ?_ ?_); (focus rfl); (focus exact run_eq32 rfl _ _ rfl rfl (HZ.out _)))
      | ((with_reducible refine wpList_run_g (o := ⟨some 55, _, _, _, _, _⟩) (v := .bool true) ?_ ?_ ?_); (focus rfl); (focus exact run_eq32 rfl _ _ rfl rfl (HZ.out _)))
      | ((with_reducible refine wpList_run_g (o := ⟨some 73, _, _, _, _, _⟩) (v := .bool true) ?_ ?_ ?_); (focus rfl); (focus exact run_eq32 rfl _ _ rfl rfl (eqb32_same o _))))
    go_ret
    exact ⟨rfl, BEL.out⟩
theorem law_any (f g : Nat → BitVec 8) (w : World) :
    Calls Try.prog 6 #[.agg (b32 f), .agg (b32 g)] w fun e w' => e = .returned (.bool true) ∧ Below w.heap.size w w' := by
  have hlt := times_lt f g
  refine law_core f g (numF (timesN f g)) (numF 0) (errN (timesN f g)) (decide (timesN f g = 0)) (numS 0) ?_ (shared0 f) (shared1 f) (shared_any f g) (times_any f g) small_zero (fun w => (eq_zero_lit p_pos w).trans rfl) ?_ w
  · by_cases h : timesN f g = 0
    · left; exact ⟨decide_eq_true h, if_pos h⟩
    · right; exact ⟨decide_eq_false h, if_neg h⟩
  · by_cases h : timesN f g = 0
    · rw [h, decide_eq_true rfl]; exact beq_self_eq_true _
    · rw [decide_eq_false h]; exact numS_ne (Nat.lt_trans hlt p_lt) (Nat.lt_trans p_pos p_lt) h
theorem walk {H : Type} {enc : TypeId × Value → H} (w : World) (base : Nat) (v0 v1 : Value) (d0 d1 : DataW H) (p0 p1 : List MemPlace)
    (k0 : Value.okWide Try.prog w .any base 22 v0) (k1 : Value.okWide Try.prog w .any base 22 v1)
    (h0 : DataW.Trod enc Try.prog w 0 (fun _ => true) true 22 v0 d0 p0) (h1 : DataW.Trod enc Try.prog w 0 (fun _ => true) true 22 v1 d1 p1) :
    Calls Try.prog 6 #[v0, v1] w fun e w' => e = .returned (.bool true) ∧ Below w.heap.size w w' := by
  obtain ⟨f, rfl⟩ := open32 k0 h0
  obtain ⟨g, rfl⟩ := open32 k1 h1
  exact law_any f g w
set_option maxRecDepth 100000 in
theorem lifted (os : Os) (started : os.Started) (H : Type) (enc : TypeId × Value → H) :
    ReturnsInHanded {} Try.checked os 6 .any (Rows.curveFewSpec.pre6 enc Try.prog Try.f6 Rows.curveFewRow.domain false) (Rows.curveFewSpec.post enc Try.prog Try.f6 false true false false) := by
  refine returnsInHanded_of_change (C := Try.checked) own started (by kernel_rfl) Try.func6
    (ChangeSpec.witness6 (enc := enc) (C := Try.checked) false ⟨#[], #[.agg (Array.replicate 32 (.int .u8 0)), .agg (Array.replicate 32 (.int .u8 0))], []⟩ 8 (by kernel_rfl) (by kernel_rfl) (by kernel_rfl) (by kernel_rfl)) ?_
  intro W base args ds gs before hval0 hW hcnd _
  have hval : ∀ (j : Nat) t v, Try.f6.params[j]? = some t → args[j]? = some v → Value.okWide Try.prog W .any base t v := hval0
  have hW' := hW
  obtain ⟨p, q, hA0, hV, rfl, hfz, hnd⟩ := hW
  have hA : DataW.TrodAll enc Try.prog W 0 (fun _ => true) true Try.f6.params.toList args.toList ds p := hA0
  rw [Try.params6] at hA hval
  obtain ⟨v0, vs0, d0, ds0, p0, q0, hargs, rfl, rfl, h0, r0⟩ := trodAll_cons hA
  obtain ⟨v1, vs1, d1, ds1, p1, q1, rfl, rfl, rfl, h1, r1⟩ := trodAll_cons r0
  obtain ⟨rfl, rfl, rfl⟩ := trodAll_nil r1
  obtain rfl : args = #[v0, v1] := by cases args; simp_all
  obtain ⟨rfl, rfl⟩ := trodVars_none hV
  have k0 := h0
  have lt0 : ∀ x ∈ p0, x.block < W.heap.size := by obtain ⟨m, hm⟩ := k0; exact DataW.trod_lt m _ _ _ hm
  have k1 := h1
  have lt1 : ∀ x ∈ p1, x.block < W.heap.size := by obtain ⟨m, hm⟩ := k1; exact DataW.trod_lt m _ _ _ hm
  clear hA0 hval0
  refine (walk W base v0 v1 d0 d1 p0 p1 (hval 0 22 v0 rfl rfl) (hval 1 22 v1 rfl rfl) k0 k1).mono fun e W' ⟨he, bel⟩ => ?_
  subst he
  exact ⟨_, rfl, _, _, _, [], _, [], hW', trodAll_mk1 (shut_bool Try.underlying4 _), (trodAll_cons_mk (Below.trod laidOut (by kernel_rfl) (of_decide_eq_true (by kernel_rfl)) k0 bel lt0) (trodAll_cons_mk (Below.trod laidOut (by kernel_rfl) (of_decide_eq_true (by kernel_rfl)) k1 bel lt1) trodAll_mk0)), rfl, bel.frame _, fun h => by cases h⟩
theorem over : Rows.curveFewRow.holds Try.pinned (OpenSpec.ofChange Rows.curveFewSpec) :=
  OpenClaim.holds_of_wide 6 Try.f6 rfl rfl rfl rfl rfl rfl rfl ⟨rfl, rfl, rfl, rfl, rfl⟩ rfl rfl rfl rfl rfl (by kernel_rfl) Try.func6 (by kernel_rfl)
    (of_decide_eq_true (by kernel_rfl)) (by unfold Func.isWrapper; first | (rw [if_pos (by decide +kernel)]; kernel_rfl) | (rw [if_neg (by decide +kernel)]; exact ⟨rfl, rfl⟩))
    (fun os started H enc _ => lifted os started H enc)
theorem proved : Rows.CurveFewSaid := over
end Go.Proofs.Ytakjpkdpcmnpgaa.curveFew
