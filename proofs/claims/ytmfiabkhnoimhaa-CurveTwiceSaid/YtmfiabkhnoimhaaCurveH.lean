/-
  THE CALLS OF PACKAGE curve, LAST PART: Shared; equal arrays of 32 bytes.
-/
import Derived.Test.YtmfiabkhnoimhaaCurveG
import Derived.Test.YtmfiabkhnoimhaaEq
namespace Go.Proofs.Ytmfiabkhnoimhaa
open Go Go.RowKit Go.BigFrame
set_option linter.unusedVariables false
set_option linter.unusedSimpArgs false
theorem eqb32 (p q : Nat → BitVec 8) (w : World) : (Op.equalIn 10000 22 (.agg (b32 p)) (.agg (b32 q))).run Try.prog w = .ok (allEq p q 32) w :=
  run_eq_bytes (P := Try.prog) (t := 22) (e := 5) (n := 32) p q w (by kernel_rfl) (by kernel_rfl) (by kernel_rfl) (by kernel_rfl) (by kernel_rfl)
theorem eqb32_same (p : Nat → BitVec 8) (w : World) : (Op.equalIn 10000 22 (.agg (b32 p)) (.agg (b32 p))).run Try.prog w = .ok true w := by
  rw [eqb32, (allEq_iff p p 32).2 (fun _ _ => rfl)]
theorem zero_lit : #[.int .u8 0, .int .u8 0, .int .u8 0, .int .u8 0, .int .u8 0, .int .u8 0, .int .u8 0, .int .u8 0, .int .u8 0, .int .u8 0, .int .u8 0, .int .u8 0, .int .u8 0, .int .u8 0, .int .u8 0, .int .u8 0, .int .u8 0, .int .u8 0, .int .u8 0, .int .u8 0, .int .u8 0, .int .u8 0, .int .u8 0, .int .u8 0, .int .u8 0, .int .u8 0, .int .u8 0, .int .u8 0, .int .u8 0, .int .u8 0, .int .u8 0, .int .u8 0] = b32 (numF 0) := by
  rw [show b32 (numF 0) = b32 (fun _ => 0#8) from b32_congr _ _ (fun i _ => by unfold numF; rw [Nat.zero_div]), b32_zero]; rfl
theorem numF_inj {m n : Nat} (hm : m < E5.p) (hn : n < E5.p) (h : ∀ i, i < 32 → numF m i = numF n i) : m = n :=
  numS_inj (Nat.lt_trans hm p_lt) (Nat.lt_trans hn p_lt) ((strOf_eq (numF m) (numF n) 32).2 h)
theorem numF_eq {m n : Nat} (hm : m < E5.p) (hn : n < E5.p) : allEq (numF m) (numF n) 32 = decide (m = n) := by
  by_cases h : m = n
  · rw [h, decide_eq_true rfl]; exact (allEq_iff _ _ 32).2 (fun _ _ => rfl)
  · rw [decide_eq_false h]
    cases e : allEq (numF m) (numF n) 32 with
    | false => rfl
    | true => exact absurd (numF_inj hm hn ((allEq_iff _ _ 32).1 e)) h
theorem times_lt (f g : Nat → BitVec 8) : timesN f g < E5.p := (Cv.out (ptF g) (Cv.bit f)).isLt
theorem p_pos' : 0 < E5.p := p_pos
/-- An array of noughts, or none. -/
theorem eq_zero_lit {N : Nat} (hN : N < E5.p) (w : World) : (Op.equalIn 10000 22 (.agg (b32 (numF N))) (.agg #[.int .u8 0, .int .u8 0, .int .u8 0, .int .u8 0, .int .u8 0, .int .u8 0, .int .u8 0, .int .u8 0, .int .u8 0, .int .u8 0, .int .u8 0, .int .u8 0, .int .u8 0, .int .u8 0, .int .u8 0, .int .u8 0, .int .u8 0, .int .u8 0, .int .u8 0, .int .u8 0, .int .u8 0, .int .u8 0, .int .u8 0, .int .u8 0, .int .u8 0, .int .u8 0, .int .u8 0, .int .u8 0, .int .u8 0, .int .u8 0, .int .u8 0, .int .u8 0])).run Try.prog w = .ok (decide (N = 0)) w := by
  rw [zero_lit, eqb32, numF_eq hN p_pos]
theorem run_eq32 {o : Oper} {x y : Operand} (ho : o.op = .binOp .eql 22 x y 22) (a : Act) (w : World) {X Y : Array Value} {D : Bool} (hx : a.eval x = .agg X) (hy : a.eval y = .agg Y) (h : (Op.equalIn 10000 22 (.agg X) (.agg Y)).run Try.prog w = .ok D w) :
    (execOp a.eval o).run Try.prog w = .ok (.value (.bool D)) w := by
  have e := h
  unfold execOp
  rw [ho]
  simp only [hx, hy]
  go_simp
theorem results_cell_tmp {P : Program} {fn : Func} {p t1 : Tmp} {ty : TypeId} (h : fn.results = #[.cell p ty, .tmp t1]) (tmps : Array Value) (w : World) (g : Nat) (t : TypeId) (cs : Array Value) (fr : Nat × Nat) (d : TypeDesc)
    (hp : tmps.getD p undef = .pointer (some ⟨g, 0, none⟩)) (hg : w.heap[g]? = some (.cells cs t fr))
    (hu : P.underlying ty = some d) (hd : (match d with | .struct _ | .array _ _ => true | _ => false) = true) (hi : (P.info? ty).map (·.size) = some cs.size) :
    (results fn tmps).run P w = .ok (.tuple #[.agg cs, tmps.getD t1 undef]) w := by
  have hp' : tmps[p]?.getD undef = .pointer (some ⟨g, 0, none⟩) := by simpa using hp
  simp [results, h, hp', asAddr, run_loadVar_row w g t ty cs fr d hg hu hd hi]
def errN (N : Nat) : Int := if N = 0 then 4 else 0
set_option maxHeartbeats 4000000 in
set_option maxRecDepth 100000 in
theorem shared_any (f g : Nat → BitVec 8) (w : World) :
    Calls Try.prog 12 #[.agg (b32 f), .agg (b32 g)] w fun e w' => e = .returned (.tuple #[.agg (b32 (numF (timesN f g))), .int .i64 (errN (timesN f g))]) ∧ Below w.heap.size w w' := by
  have hlt := times_lt f g
  have UT := times_any f g
  obtain ⟨N, hN⟩ : ∃ N, timesN f g = N := ⟨_, rfl⟩
  rw [hN] at UT hlt ⊢
  have EQ := fun w' => eq_zero_lit hlt w'
  have UT := Lib.hid UT; have EQ := Lib.hid EQ
  clear hN hlt
  obtain ⟨o, ho⟩ : ∃ o, numF N = o := ⟨_, rfl⟩
  rw [ho] at UT EQ ⊢
  clear ho
  go_enter Try.func12, Try.ntmps12
  go_upto_region 1 with (fail)
  have R0 : (((w.alloc (.cells (b32 f) 22)).alloc (.cells (b32 g) 22)).alloc (.cells (b32 fun _ => 0#8) 22)).heap[w.heap.size]? = some (.cells (b32 f) 22 (0, 0)) := rows_alloc w [_, _, _] 0
  have R1 : (((w.alloc (.cells (b32 f) 22)).alloc (.cells (b32 g) 22)).alloc (.cells (b32 fun _ => 0#8) 22)).heap[w.heap.size + 1]? = some (.cells (b32 g) 22 (0, 0)) := rows_alloc w [_, _, _] 1
  have R2 : (((w.alloc (.cells (b32 f) 22)).alloc (.cells (b32 g) 22)).alloc (.cells (b32 fun _ => 0#8) 22)).heap[w.heap.size + 1 + 1]? = some (.cells (b32 fun _ => 0#8) 22 (0, 0)) := rows_alloc w [_, _, _] 2
  have B0 : Below w.heap.size w (((w.alloc (.cells (b32 f) 22)).alloc (.cells (b32 g) 22)).alloc (.cells (b32 fun _ => 0#8) 22)) := (((Below.refl _ _).alloc (Nat.le_refl _) _).alloc (by simp) _).alloc (by simp; omega) _
  rw [b32_zero] at R0 R1 B0 R2
  simp only [Array.replicate, List.replicate] at R0 R1 B0 R2
  generalize hW : ((w.alloc _).alloc _).alloc _ = wa at *
  clear hW
  have R2 : wa.heap[w.heap.size + 1 + 1]? = some (.cells (b32 fun _ => 0#8) 22 (0, 0)) := by rw [b32_zero]; exact R2
  have RN := Lib.hid R0
  have RP := Lib.hid R1
  have RR := Lib.hid R2
  have BEL := Lib.hid B0
  clear R0 R1 R2 B0
  go_upto_region 2 with (first
    | ((with_reducible refine wpList_load_row (o := ⟨some 7, .load 22 (.tmp 2), _, _, _, _⟩) ?_ 22 (.tmp 2) ?_ w.heap.size ?_ _ _ (0, 0) _ RN.out Try.underlying22 ?_ ?_ ?_); (focus rfl); (focus rfl); (focus rfl); (focus rfl); (focus (rw [b32_size]; kernel_rfl)))
    | ((with_reducible refine wpList_load_row (o := ⟨some 8, .load 22 (.tmp 3), _, _, _, _⟩) ?_ 22 (.tmp 3) ?_ (w.heap.size + 1) ?_ _ _ (0, 0) _ RP.out Try.underlying22 ?_ ?_ ?_); (focus rfl); (focus rfl); (focus rfl); (focus rfl); (focus (rw [b32_size]; kernel_rfl)))
    | (go_at_call 8; with_reducible refine (UT.out _).mono ?_; rintro e w1 ⟨rfl, hq⟩)
    | ((with_reducible refine wpList_alloc_row (o := ⟨some 6, .alloc 22, _, _, _, _⟩) ?_ 22 ?_ (Array.replicate 32 (.int .u8 0)) ?_ ?_); (focus rfl); (focus rfl); (focus kernel_rfl))
    | ((with_reducible refine wpList_store_new (o := ⟨none, .store 22 (.tmp 6) (.tmp 9), _, _, _, _⟩) ?_ 22 (.tmp 6) (.tmp 9) ?_ (Array.replicate 32 (.int .u8 0)) (b32 o) w1.heap.size ?_ ?_ ?_ ?_ ?_ (b32_one _) ?_); (focus rfl); (focus rfl); (focus rfl); (focus rfl); (focus rfl); (focus (rw [b32_size]; kernel_rfl)); (focus (rw [b32_size]; rfl))))
  have T : Below wa.heap.size wa (w1.alloc (.cells (b32 o) 22)) := hq.alloc hq.size _
  have R5 : (w1.alloc (.cells (b32 o) 22)).heap[w1.heap.size]? = some (.cells (b32 o) 22 (0, 0)) := heap_alloc_last _ _
  generalize w1.heap.size = q5 at *
  generalize w1.alloc _ = w5 at *
  have RR := Lib.hid (below_row T (lt_row RR.out) RR.out)
  have RT := Lib.hid R5
  have BEL := Lib.hid (BEL.out.trans (T.mono BEL.out.size))
  clear T R5 hq RN RP
  simp only [Act.put, List.setIfInBounds_toArray, List.set_cons_succ, List.set_cons_zero]
  obtain ⟨D, hD⟩ : ∃ D, decide (N = 0) = D := ⟨_, rfl⟩
  have EQ2 := EQ.out
  rw [hD] at EQ2
  have EQ := Lib.hid EQ2
  have HE : Hid (errN N = if D = true then 4 else 0) := Lib.hid (by
    rw [← hD]; unfold errN
    by_cases h : N = 0
    · rw [if_pos h, if_pos (decide_eq_true h)]
    · rw [if_neg h, if_neg (by rw [decide_eq_false h]; decide)])
  clear EQ2 hD
  go_step
  refine wpList_load_row (o := ⟨some 10, .load 22 (.tmp 6), _, _, _, _⟩) rfl 22 (.tmp 6) rfl q5 rfl _ _ (0, 0) _ RT.out Try.underlying22 rfl (by rw [b32_size]; kernel_rfl) ?_
  refine wpList_run (v := .agg #[.int .u8 0, .int .u8 0, .int .u8 0, .int .u8 0, .int .u8 0, .int .u8 0, .int .u8 0, .int .u8 0, .int .u8 0, .int .u8 0, .int .u8 0, .int .u8 0, .int .u8 0, .int .u8 0, .int .u8 0, .int .u8 0, .int .u8 0, .int .u8 0, .int .u8 0, .int .u8 0, .int .u8 0, .int .u8 0, .int .u8 0, .int .u8 0, .int .u8 0, .int .u8 0, .int .u8 0, .int .u8 0, .int .u8 0, .int .u8 0, .int .u8 0, .int .u8 0]) (w' := w5) rfl (by kernel_rfl) ?_
  refine wpList_run (v := .bool D) (w' := w5) rfl (run_eq32 rfl _ w5 rfl rfl (EQ.out w5)) ?_
  simp only [Act.put, List.setIfInBounds_toArray, List.set_cons_succ, List.set_cons_zero]
  cases D
  · go_wp2_with (first
      | ((with_reducible refine wpList_load_row (o := ⟨some 14, .load 22 (.tmp 6), _, _, _, _⟩) ?_ 22 (.tmp 6) ?_ q5 ?_ _ _ (0, 0) _ RT.out Try.underlying22 ?_ ?_ ?_); (focus rfl); (focus rfl); (focus rfl); (focus rfl); (focus (rw [b32_size]; kernel_rfl)))
      | ((with_reducible refine wpList_store_row (op := ⟨none, .store 22 (.tmp 4) (.tmp 14), _, _, _, _⟩) ?_ 22 (.tmp 4) (.tmp 14) ?_ (w.heap.size + 1 + 1) _ _ (b32 o) ?_ ?_ RR.out ?_ ?_ (b32_one _) ?_); (focus rfl); (focus rfl); (focus rfl); (focus rfl); (focus (rw [b32_size, b32_size])); (focus (rw [b32_size]; kernel_rfl)); intro w6 S5))
    refine bodyPost_ret (v := .tuple #[.agg (b32 o), .int .i64 0]) (results_cell_tmp (p := 4) (t1 := 5) rfl _ _ (w.heap.size + 1 + 1) 22 (b32 o) (0, 0) _ rfl S5.row Try.underlying22 rfl (by rw [b32_size]; kernel_rfl)) rfl ⟨?_, BEL.out.trans (S5.below _ (by omega))⟩
    rw [HE.out]
    rfl
  · go_wp2_with (first
      | ((with_reducible refine wpList_load_row (o := ⟨some 13, .load 22 (.tmp 6), _, _, _, _⟩) ?_ 22 (.tmp 6) ?_ q5 ?_ _ _ (0, 0) _ RT.out Try.underlying22 ?_ ?_ ?_); (focus rfl); (focus rfl); (focus rfl); (focus rfl); (focus (rw [b32_size]; kernel_rfl)))
      | ((with_reducible refine wpList_store_row (op := ⟨none, .store 22 (.tmp 4) (.tmp 13), _, _, _, _⟩) ?_ 22 (.tmp 4) (.tmp 13) ?_ (w.heap.size + 1 + 1) _ _ (b32 o) ?_ ?_ RR.out ?_ ?_ (b32_one _) ?_); (focus rfl); (focus rfl); (focus rfl); (focus rfl); (focus (rw [b32_size, b32_size])); (focus (rw [b32_size]; kernel_rfl)); intro w6 S5))
    refine bodyPost_ret (v := .tuple #[.agg (b32 o), .int .i64 4]) (results_cell_tmp (p := 4) (t1 := 5) rfl _ _ (w.heap.size + 1 + 1) 22 (b32 o) (0, 0) _ rfl S5.row Try.underlying22 rfl (by rw [b32_size]; kernel_rfl)) rfl ⟨?_, BEL.out.trans (S5.below _ (by omega))⟩
    rw [HE.out]
    rfl
end Go.Proofs.Ytmfiabkhnoimhaa
