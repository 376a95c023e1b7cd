/-
  THE CALLS OF PACKAGE curve, SECOND PART: start, swapped, step.
-/
import Derived.Test.YtmfiabkhnoimhaaCurveA
namespace Go.Proofs.Ytmfiabkhnoimhaa
open Go Go.RowKit Go.BigFrame
set_option linter.unusedVariables false
theorem wpList_load_E {ops : Array Oper} {rest : List Oper} {op : Oper} {a : Act} {w : World} {Q : Exit → Act → World → Prop} (hgd : op.guard = none) (y : Operand) (ho : op.op = .load 40 y)
    (b o : Nat) (hx : a.eval y = .pointer (some ⟨b, o, none⟩)) (x : E5) (hc : w.rangeAt b o x.cells.toList)
    (h : wpList Try.prog ops Q rest (a.put op.dst (.agg x.cells)) w) : wpList Try.prog ops Q (op :: rest) a w :=
  wpList_load_mid hgd 40 y ho b o hx x.cells.toList _ hc Try.underlying40 rfl (by kernel_rfl) h
theorem wpList_store_E {ops : Array Oper} {rest : List Oper} {op : Oper} {a : Act} {w : World} {Q : Exit → Act → World → Prop} (hgd : op.guard = none) (y z : Operand) (ho : op.op = .store 40 y z)
    (b o : Nat) (x : E5) (hx : a.eval y = .pointer (some ⟨b, o, none⟩)) (hy : a.eval z = .agg x.cells) {T : TypeId} {s : L5} (hr : w.heap[b]? = some (.cells s.cells T (0, 0))) (hb : o + 5 ≤ 25) (t : L5)
    (ht : (((((s.cells.setIfInBounds o (.int .u64 (n64 x.a))).setIfInBounds (o + 1) (.int .u64 (n64 x.b))).setIfInBounds (o + 1 + 1) (.int .u64 (n64 x.c))).setIfInBounds (o + 1 + 1 + 1) (.int .u64 (n64 x.d))).setIfInBounds (o + 1 + 1 + 1 + 1) (.int .u64 (n64 x.e))) = t.cells)
    (h : ∀ w', RowSet w b T t.cells w' → wpList Try.prog ops Q rest (a.put op.dst undef) w') : wpList Try.prog ops Q (op :: rest) a w :=
  wpList_store_mid hgd 40 y z ho b o x.cells hx hy (L5.there hr o hb) (by kernel_rfl) x.one (h _ (L5.store hr o x t ht))
theorem quiet_load_E {C : World → Prop} {op : Oper} {a : Act} {w : World} (y : Operand) (ho : op.op = .load 40 y)
    (b o : Nat) (hx : a.eval y = .pointer (some ⟨b, o, none⟩)) (x : E5) (hc : w.rangeAt b o x.cells.toList) : op.quietAt Try.prog a C w (.agg x.cells) :=
  quiet_load_mid 40 y ho b o hx x.cells.toList _ hc Try.underlying40 rfl (by kernel_rfl)
theorem range_row {w : World} {B : Nat} {x : E5} (h : w.heap[B]? = some (.cells x.cells 40 (0, 0))) : w.rangeAt B 0 x.cells.toList := World.rangeAt_of_block h 0 5
theorem zeroE_cells : zeroE.cells = #[.int .u64 0, .int .u64 0, .int .u64 0, .int .u64 0, .int .u64 0] := by unfold zeroE E5.cells; rw [z64]
def oneE : E5 := E5.of (byteF 1#8)
def zero5 : Array Value := #[.int .u64 0, .int .u64 0, .int .u64 0, .int .u64 0, .int .u64 0]
theorem zeroL_cells : (L5.mk zeroE zeroE zeroE zeroE zeroE).cells = Array.replicate 25 (.int .u64 0) := by unfold L5.cells zeroE; rw [z64]; rfl
def L5.cellsZ (x y u v : E5) : Array Value := #[.int .u64 (n64 x.a), .int .u64 (n64 x.b), .int .u64 (n64 x.c), .int .u64 (n64 x.d), .int .u64 (n64 x.e), .int .u64 (n64 y.a), .int .u64 (n64 y.b), .int .u64 (n64 y.c), .int .u64 (n64 y.d), .int .u64 (n64 y.e), .int .u64 0, .int .u64 0, .int .u64 0, .int .u64 0, .int .u64 0, .int .u64 (n64 u.a), .int .u64 (n64 u.b), .int .u64 (n64 u.c), .int .u64 (n64 u.d), .int .u64 (n64 u.e), .int .u64 (n64 v.a), .int .u64 (n64 v.b), .int .u64 (n64 v.c), .int .u64 (n64 v.d), .int .u64 (n64 v.e)]
theorem L5.cellsZ_eq (x y u v : E5) : L5.cellsZ x y u v = (L5.mk x y zeroE u v).cells := by unfold L5.cellsZ L5.cells zeroE; rw [z64]
def pickE (on : Bool) (x y : E5) : E5 := if on then y else x
theorem swapE_any (on : Bool) (x y : E5) (w : World) :
    Calls Try.prog 28 #[.bool on, .agg x.cells, .agg y.cells] w fun e w' => e = .returned (.tuple #[.agg (pickE on x y).cells, .agg (pickE on y x).cells]) ∧ Below w.heap.size w w' := by
  cases on
  · exact swapE_false x y w
  · exact swapE_true x y w

set_option maxHeartbeats 4000000 in
set_option maxRecDepth 100000 in
theorem swapped_any (s : L5) (on : Bool) (w : World) :
    Calls Try.prog 17 #[.agg s.cells, .bool on] w fun e w' => e = .returned (.agg (L5.mk s.x1 (pickE on s.x2 s.x3) (pickE on s.z2 s.z3) (pickE on s.x3 s.x2) (pickE on s.z3 s.z2)).cells) ∧ Below w.heap.size w w' := by
  go_enter Try.func17, Try.ntmps17
  go_upto_region 1 with (fail)
  have R0 : ((w.alloc (.cells s.cells 42)).alloc (.cells #[.int .u64 0, .int .u64 0, .int .u64 0, .int .u64 0, .int .u64 0, .int .u64 0, .int .u64 0, .int .u64 0, .int .u64 0, .int .u64 0, .int .u64 0, .int .u64 0, .int .u64 0, .int .u64 0, .int .u64 0, .int .u64 0, .int .u64 0, .int .u64 0, .int .u64 0, .int .u64 0, .int .u64 0, .int .u64 0, .int .u64 0, .int .u64 0, .int .u64 0] 42)).heap[w.heap.size]? = some (.cells s.cells 42 (0, 0)) := rows_alloc w [_, _] 0
  have R1 : ((w.alloc (.cells s.cells 42)).alloc (.cells #[.int .u64 0, .int .u64 0, .int .u64 0, .int .u64 0, .int .u64 0, .int .u64 0, .int .u64 0, .int .u64 0, .int .u64 0, .int .u64 0, .int .u64 0, .int .u64 0, .int .u64 0, .int .u64 0, .int .u64 0, .int .u64 0, .int .u64 0, .int .u64 0, .int .u64 0, .int .u64 0, .int .u64 0, .int .u64 0, .int .u64 0, .int .u64 0, .int .u64 0] 42)).heap[w.heap.size + 1]? = some (.cells #[.int .u64 0, .int .u64 0, .int .u64 0, .int .u64 0, .int .u64 0, .int .u64 0, .int .u64 0, .int .u64 0, .int .u64 0, .int .u64 0, .int .u64 0, .int .u64 0, .int .u64 0, .int .u64 0, .int .u64 0, .int .u64 0, .int .u64 0, .int .u64 0, .int .u64 0, .int .u64 0, .int .u64 0, .int .u64 0, .int .u64 0, .int .u64 0, .int .u64 0] 42 (0, 0)) := rows_alloc w [_, _] 1
  have B0 : Below w.heap.size w ((w.alloc (.cells s.cells 42)).alloc (.cells #[.int .u64 0, .int .u64 0, .int .u64 0, .int .u64 0, .int .u64 0, .int .u64 0, .int .u64 0, .int .u64 0, .int .u64 0, .int .u64 0, .int .u64 0, .int .u64 0, .int .u64 0, .int .u64 0, .int .u64 0, .int .u64 0, .int .u64 0, .int .u64 0, .int .u64 0, .int .u64 0, .int .u64 0, .int .u64 0, .int .u64 0, .int .u64 0, .int .u64 0] 42)) := ((Below.refl _ _).alloc (Nat.le_refl _) _).alloc (by simp) _
  generalize hW : (w.alloc _).alloc _ = wa at *
  have e25 : #[.int .u64 0, .int .u64 0, .int .u64 0, .int .u64 0, .int .u64 0, .int .u64 0, .int .u64 0, .int .u64 0, .int .u64 0, .int .u64 0, .int .u64 0, .int .u64 0, .int .u64 0, .int .u64 0, .int .u64 0, .int .u64 0, .int .u64 0, .int .u64 0, .int .u64 0, .int .u64 0, .int .u64 0, .int .u64 0, .int .u64 0, .int .u64 0, .int .u64 0] = (L5.mk zeroE zeroE zeroE zeroE zeroE).cells := by rw [zeroL_cells]; rfl
  rw [e25] at R1
  clear hW e25
  have H1 := Lib.hid R1
  have hb1 : w.heap.size < wa.heap.size := lt_row R0
  have hb2 : w.heap.size + 1 < wa.heap.size := lt_row R1
  clear R1
  have U1 := swapE_any on s.x2 s.x3
  have U2 := swapE_any on s.z2 s.z3
  generalize hp : pickE on s.x2 s.x3 = p2 at *
  generalize hq : pickE on s.x3 s.x2 = p3 at *
  generalize hr : pickE on s.z2 s.z3 = q2 at *
  generalize ht : pickE on s.z3 s.z2 = q3 at *
  have U1 := Lib.hid U1; have U2 := Lib.hid U2
  have HP := Lib.hid hp; have HQ := Lib.hid hq; have HR := Lib.hid hr; have HT := Lib.hid ht
  clear hp hq hr ht
  go_upto_region 2 with (first
    | ((with_reducible refine wpList_load_E (op := ⟨some 8, .load _ (.tmp 7), _, _, _, _⟩) ?_ (.tmp 7) ?_ (w.heap.size) 5 ?_ (s.x2) ?_ ?_); (focus rfl); (focus rfl); (focus rfl); (focus exact (L5.range2 R0 :)))
    | ((with_reducible refine wpList_load_E (op := ⟨some 10, .load _ (.tmp 9), _, _, _, _⟩) ?_ (.tmp 9) ?_ (w.heap.size) 15 ?_ (s.x3) ?_ ?_); (focus rfl); (focus rfl); (focus rfl); (focus exact (L5.range4 R0 :)))
    | (go_at_call 28; with_reducible refine (U1.out _).mono ?_; rintro e w1 ⟨rfl, hq⟩; have R0 := below_row hq hb1 R0; have H1 := Lib.hid (below_row hq hb2 H1.out); have B0 := B0.trans (hq.mono B0.size); clear hq hb1 hb2; have hb1 := lt_row R0; have hb2 := lt_row H1.out)
    | ((with_reducible refine wpList_store_E (op := ⟨none, .store _ (.tmp 14) (.tmp 12), _, _, _, _⟩) ?_ (.tmp 14) (.tmp 12) ?_ (w.heap.size) 5 (p2) ?_ ?_ (R0) (by omega) ⟨s.x1, p2, s.z2, s.x3, s.z3⟩ ?_ ?_); (focus rfl); (focus rfl); (focus rfl); (focus rfl); (focus rfl); intro w2 S1)
    | ((with_reducible refine wpList_store_E (op := ⟨none, .store _ (.tmp 15) (.tmp 13), _, _, _, _⟩) ?_ (.tmp 15) (.tmp 13) ?_ (w.heap.size) 15 (p3) ?_ ?_ (S1.row) (by omega) ⟨s.x1, p2, s.z2, p3, s.z3⟩ ?_ ?_); (focus rfl); (focus rfl); (focus rfl); (focus rfl); (focus rfl); intro w3 S2)
    )
  have R0 := S2.row
  have H1 := Lib.hid (S2.keep (by omega) (S1.keep (by omega) H1.out))
  have B0 := (B0.trans (S1.below _ (Nat.le_refl _))).trans (S2.below _ (Nat.le_refl _))
  clear S1 S2 hb1 hb2 U1
  have hb1 := lt_row R0
  have hb2 := lt_row H1.out
  go_upto_region 3 with (first
    | ((with_reducible refine wpList_load_E (op := ⟨some 19, .load _ (.tmp 18), _, _, _, _⟩) ?_ (.tmp 18) ?_ (w.heap.size) 10 ?_ (s.z2) ?_ ?_); (focus rfl); (focus rfl); (focus rfl); (focus exact (L5.range3 R0 :)))
    | ((with_reducible refine wpList_load_E (op := ⟨some 21, .load _ (.tmp 20), _, _, _, _⟩) ?_ (.tmp 20) ?_ (w.heap.size) 20 ?_ (s.z3) ?_ ?_); (focus rfl); (focus rfl); (focus rfl); (focus exact (L5.range5 R0 :)))
    | (go_at_call 28; with_reducible refine (U2.out _).mono ?_; rintro e w1 ⟨rfl, hq⟩; have R0 := below_row hq hb1 R0; have H1 := Lib.hid (below_row hq hb2 H1.out); have B0 := B0.trans (hq.mono B0.size); clear hq hb1 hb2; have hb1 := lt_row R0; have hb2 := lt_row H1.out)
    | ((with_reducible refine wpList_store_E (op := ⟨none, .store _ (.tmp 25) (.tmp 23), _, _, _, _⟩) ?_ (.tmp 25) (.tmp 23) ?_ (w.heap.size) 10 (q2) ?_ ?_ (R0) (by omega) ⟨s.x1, p2, q2, p3, s.z3⟩ ?_ ?_); (focus rfl); (focus rfl); (focus rfl); (focus rfl); (focus rfl); intro w4 S3)
    | ((with_reducible refine wpList_store_E (op := ⟨none, .store _ (.tmp 26) (.tmp 24), _, _, _, _⟩) ?_ (.tmp 26) (.tmp 24) ?_ (w.heap.size) 20 (q3) ?_ ?_ (S3.row) (by omega) ⟨s.x1, p2, q2, p3, q3⟩ ?_ ?_); (focus rfl); (focus rfl); (focus rfl); (focus rfl); (focus rfl); intro w5 S4)
    )
  have R0 := S4.row
  have H1 := Lib.hid (S4.keep (by omega) (S3.keep (by omega) H1.out))
  have B0 := (B0.trans (S3.below _ (Nat.le_refl _))).trans (S4.below _ (Nat.le_refl _))
  clear S3 S4 hb1 hb2 U2
  go_wp2_with (first
    | ((with_reducible refine wpList_load_row (o := ⟨some 27, .load 42 (.tmp 2), _, _, _, _⟩) ?_ 42 (.tmp 2) ?_ w.heap.size ?_ _ _ (0, 0) _ R0 Try.underlying42 ?_ ?_ ?_); (focus rfl); (focus rfl); (focus rfl); (focus rfl); (focus kernel_rfl))
    | ((with_reducible refine wpList_store_row (op := ⟨none, .store 42 (.tmp 4) (.tmp 27), _, _, _, _⟩) ?_ 42 (.tmp 4) (.tmp 27) ?_ (w.heap.size + 1) _ _ (L5.mk s.x1 p2 q2 p3 q3).cells ?_ ?_ H1.out ?_ ?_ (L5.one _) ?_); (focus rfl); (focus rfl); (focus rfl); (focus rfl); (focus rfl); (focus kernel_rfl); intro w6 S5))
  exact ret_row (w.heap.size + 1) _ 42 (L5.mk s.x1 p2 q2 p3 q3).cells rfl _ rfl S5.row Try.underlying42 rfl (by kernel_rfl) rfl ⟨by rw [HP.out, HQ.out, HR.out, HT.out], B0.trans (S5.below _ (by omega))⟩

set_option maxHeartbeats 4000000 in
set_option maxRecDepth 100000 in
theorem start_any (x : E5) (w : World) :
    Calls Try.prog 15 #[.agg x.cells] w fun e w' => e = .returned (.agg (L5.mk x oneE zeroE x oneE).cells) ∧ Below w.heap.size w w' := by
  have hz : (Try.prog.info? 40).map (·.zero) = some (some (.agg zero5)) := by kernel_rfl
  go_enter Try.func15, Try.ntmps15
  go_upto_region 1 with (fail)
  have R0 : ((w.alloc (.cells x.cells 40)).alloc (.cells #[.int .u64 0, .int .u64 0, .int .u64 0, .int .u64 0, .int .u64 0, .int .u64 0, .int .u64 0, .int .u64 0, .int .u64 0, .int .u64 0, .int .u64 0, .int .u64 0, .int .u64 0, .int .u64 0, .int .u64 0, .int .u64 0, .int .u64 0, .int .u64 0, .int .u64 0, .int .u64 0, .int .u64 0, .int .u64 0, .int .u64 0, .int .u64 0, .int .u64 0] 42)).heap[w.heap.size]? = some (.cells x.cells 40 (0, 0)) := rows_alloc w [_, _] 0
  have R1 : ((w.alloc (.cells x.cells 40)).alloc (.cells #[.int .u64 0, .int .u64 0, .int .u64 0, .int .u64 0, .int .u64 0, .int .u64 0, .int .u64 0, .int .u64 0, .int .u64 0, .int .u64 0, .int .u64 0, .int .u64 0, .int .u64 0, .int .u64 0, .int .u64 0, .int .u64 0, .int .u64 0, .int .u64 0, .int .u64 0, .int .u64 0, .int .u64 0, .int .u64 0, .int .u64 0, .int .u64 0, .int .u64 0] 42)).heap[w.heap.size + 1]? = some (.cells #[.int .u64 0, .int .u64 0, .int .u64 0, .int .u64 0, .int .u64 0, .int .u64 0, .int .u64 0, .int .u64 0, .int .u64 0, .int .u64 0, .int .u64 0, .int .u64 0, .int .u64 0, .int .u64 0, .int .u64 0, .int .u64 0, .int .u64 0, .int .u64 0, .int .u64 0, .int .u64 0, .int .u64 0, .int .u64 0, .int .u64 0, .int .u64 0, .int .u64 0] 42 (0, 0)) := rows_alloc w [_, _] 1
  have B0 : Below w.heap.size w ((w.alloc (.cells x.cells 40)).alloc (.cells #[.int .u64 0, .int .u64 0, .int .u64 0, .int .u64 0, .int .u64 0, .int .u64 0, .int .u64 0, .int .u64 0, .int .u64 0, .int .u64 0, .int .u64 0, .int .u64 0, .int .u64 0, .int .u64 0, .int .u64 0, .int .u64 0, .int .u64 0, .int .u64 0, .int .u64 0, .int .u64 0, .int .u64 0, .int .u64 0, .int .u64 0, .int .u64 0, .int .u64 0] 42)) := ((Below.refl _ _).alloc (Nat.le_refl _) _).alloc (by simp) _
  generalize hW : (w.alloc _).alloc _ = wa at *
  have e25 : #[.int .u64 0, .int .u64 0, .int .u64 0, .int .u64 0, .int .u64 0, .int .u64 0, .int .u64 0, .int .u64 0, .int .u64 0, .int .u64 0, .int .u64 0, .int .u64 0, .int .u64 0, .int .u64 0, .int .u64 0, .int .u64 0, .int .u64 0, .int .u64 0, .int .u64 0, .int .u64 0, .int .u64 0, .int .u64 0, .int .u64 0, .int .u64 0, .int .u64 0] = (L5.mk zeroE zeroE zeroE zeroE zeroE).cells := by rw [zeroL_cells]; rfl
  rw [e25] at R1
  clear hW e25
  have H1 := Lib.hid R1
  have hb1 : w.heap.size < wa.heap.size := lt_row R0
  have hb2 : w.heap.size + 1 < wa.heap.size := lt_row R1
  clear R1
  go_wp2_with fail
  refine (of_one _).mono ?_
  rintro e w1 ⟨rfl, hq⟩
  have R0 := below_row hq hb1 R0; have H1 := Lib.hid (below_row hq hb2 H1.out); have B0 := B0.trans (hq.mono B0.size)
  have hb1 := lt_row R0; have hb2 := lt_row H1.out
  clear hq
  rw [show E5.v (E5.of (byteF 1#8)) = .agg oneE.cells from rfl]
  have B2 : Below w1.heap.size w1 (w1.alloc (.cells oneE.cells 40)) := below_new _
  have R3 : (w1.alloc (.cells oneE.cells 40)).heap[w1.heap.size]? = some (.cells oneE.cells 40 (0, 0)) := heap_alloc_last _ _
  go_upto_region 2 with (first
    | ((with_reducible refine wpList_alloc_row (o := ⟨some 3, .alloc 40, _, _, _, _⟩) ?_ 40 ?_ zero5 hz ?_); (focus rfl); (focus rfl))
    | ((with_reducible refine wpList_store_new (o := ⟨none, .store 40 (.tmp 3) (.tmp 5), _, _, _, _⟩) ?_ 40 (.tmp 3) (.tmp 5) ?_ zero5 oneE.cells w1.heap.size ?_ ?_ ?_ (by kernel_rfl) ?_ (E5.one _) ?_); (focus rfl); (focus rfl); (focus rfl); (focus rfl); (focus rfl); (focus exact Eq.trans (b := 5) rfl rfl)))
  have R0 := below_row B2 hb1 R0; have H1 := Lib.hid (below_row B2 hb2 H1.out); have B0 := B0.trans (B2.mono B0.size)
  generalize w1.heap.size = q3 at *
  generalize w1.alloc _ = w2 at *
  clear B2 hz
  obtain ⟨o1, ho⟩ : ∃ o, oneE = o := ⟨_, rfl⟩
  have HO := Lib.hid ho
  rw [ho] at R3
  clear ho
  go_step
  refine wpList_load_row (o := ⟨some 6, .load 40 (.tmp 1), _, _, _, _⟩) rfl 40 (.tmp 1) rfl w.heap.size rfl _ _ (0, 0) _ R0 Try.underlying40 rfl (by kernel_rfl) ?_
  refine wpList_load_row (o := ⟨some 7, .load 40 (.tmp 3), _, _, _, _⟩) rfl 40 (.tmp 3) rfl q3 rfl _ _ (0, 0) _ R3 Try.underlying40 rfl (by kernel_rfl) ?_
  refine wpList_load_row (o := ⟨some 8, .load 40 (.tmp 1), _, _, _, _⟩) rfl 40 (.tmp 1) rfl w.heap.size rfl _ _ (0, 0) _ R0 Try.underlying40 rfl (by kernel_rfl) ?_
  refine wpList_load_row (o := ⟨some 9, .load 40 (.tmp 3), _, _, _, _⟩) rfl 40 (.tmp 3) rfl q3 rfl _ _ (0, 0) _ R3 Try.underlying40 rfl (by kernel_rfl) ?_
  refine wpList_run (v := .agg (L5.cellsZ x o1 x o1)) (w' := w2) rfl (by kernel_rfl) ?_
  refine wpList_store_row (op := ⟨none, .store 42 (.tmp 2) (.tmp 10), _, _, _, _⟩) rfl 42 (.tmp 2) (.tmp 10) rfl (w.heap.size + 1) _ _ (L5.cellsZ x o1 x o1) rfl rfl H1.out rfl (by kernel_rfl) (by kernel_rfl) ?_
  intro w6 S5
  simp only [Act.put, List.setIfInBounds_toArray, List.set_cons_succ, List.set_cons_zero]
  go_wp2_with fail
  have r := S5.row
  rw [L5.cellsZ_eq] at r
  exact ret_row (w.heap.size + 1) _ 42 (L5.mk x o1 zeroE x o1).cells rfl _ rfl r Try.underlying42 rfl (by kernel_rfl) rfl ⟨by rw [HO.out], B0.trans (S5.below _ (by omega))⟩

theorem quiet_run {P : Program} {C : World → Prop} {o : Oper} {a : Act} {w : World} {v : Value} (h : (execOp a.eval o).run P w = .ok (.value v) w) : o.quietAt P a C w v := by
  unfold Oper.quietAt
  rw [h]
  exact ⟨rfl, rfl⟩
abbrev Op2 (f : Nat) (x y z : E5) : Prop := ∀ w : World, Calls Try.prog f #[.agg x.cells, .agg y.cells] w fun e w' => e = .returned (.agg z.cells) ∧ Below w.heap.size w w'
theorem news2 {wc w1 w2 w3 : World} {Ba Bb : Nat} {T : TypeId} {X Y : Array Value} (hb : Below wc.heap.size wc.drew w1) (ra : wc.heap.size ≤ Ba) (rb : wc.heap.size ≤ Bb) (n : Ba ≠ Bb) (S1 : RowSet w1 Ba T X w2) (S2 : RowSet w2 Bb T Y w3) :
    Below wc.heap.size wc w3 ∧ w3.heap[Ba]? = some (.cells X T (0, 0)) ∧ w3.heap[Bb]? = some (.cells Y T (0, 0)) :=
  ⟨(((Below.refl _ _).drew.trans hb).trans (S1.below _ ra)).trans (S2.below _ rb), S2.keep n S1.row, S2.row⟩

set_option maxHeartbeats 40000000 in
set_option maxRecDepth 100000 in
theorem step_core (s : L5) (A B AA BB E C D DA CB SU DI X3 DD Z3 X2 M N Z2 KC : E5) (UA : Op2 29 s.x2 s.z2 A) (UB : Op2 30 s.x2 s.z2 B) (UAA : Op2 19 A A AA) (UBB : Op2 19 B B BB) (UE : Op2 30 AA BB E) (UC : Op2 29 s.x3 s.z3 C) (UD : Op2 30 s.x3 s.z3 D) (UDA : Op2 19 D A DA) (UCB : Op2 19 C B CB) (USU : Op2 29 DA CB SU) (UDI : Op2 30 DA CB DI) (UX3 : Op2 19 SU SU X3) (UDD : Op2 19 DI DI DD) (UZ3 : Op2 19 s.x1 DD Z3) (UX2 : Op2 19 AA BB X2) (UM : Op2 19 E KC M) (UN : Op2 29 AA M N) (UZ2 : Op2 19 E N Z2) (UKC : ∀ w : World, Calls Try.prog 31 #[] w fun e w' => e = .returned (.agg KC.cells) ∧ Below w.heap.size w w') (w : World) :
    Calls Try.prog 18 #[.agg s.cells] w fun e w' => e = .returned (.agg (L5.mk s.x1 X2 Z2 X3 Z3).cells) ∧ Below w.heap.size w w' := by
  have hz : (Try.prog.info? 40).map (·.zero) = some (some (.agg zero5)) := by kernel_rfl

  have VA := Lib.hid UA
  have VB := Lib.hid UB
  have VAA := Lib.hid UAA
  have VBB := Lib.hid UBB
  have VE := Lib.hid UE
  have VC := Lib.hid UC
  have VD := Lib.hid UD
  have VDA := Lib.hid UDA
  have VCB := Lib.hid UCB
  have VSU := Lib.hid USU
  have VDI := Lib.hid UDI
  have VX3 := Lib.hid UX3
  have VDD := Lib.hid UDD
  have VZ3 := Lib.hid UZ3
  have VX2 := Lib.hid UX2
  have VM := Lib.hid UM
  have VN := Lib.hid UN
  have VZ2 := Lib.hid UZ2
  have VKC := Lib.hid UKC
  clear UA UB UAA UBB UE UC UD UDA UCB USU UDI UX3 UDD UZ3 UX2 UM UN UZ2 UKC
  go_enter Try.func18, Try.ntmps18
  go_upto_region 1 with (fail)
  have R0 : ((w.alloc (.cells s.cells 42)).alloc (.cells #[.int .u64 0, .int .u64 0, .int .u64 0, .int .u64 0, .int .u64 0, .int .u64 0, .int .u64 0, .int .u64 0, .int .u64 0, .int .u64 0, .int .u64 0, .int .u64 0, .int .u64 0, .int .u64 0, .int .u64 0, .int .u64 0, .int .u64 0, .int .u64 0, .int .u64 0, .int .u64 0, .int .u64 0, .int .u64 0, .int .u64 0, .int .u64 0, .int .u64 0] 42)).heap[w.heap.size]? = some (.cells s.cells 42 (0, 0)) := rows_alloc w [_, _] 0
  have R1 : ((w.alloc (.cells s.cells 42)).alloc (.cells #[.int .u64 0, .int .u64 0, .int .u64 0, .int .u64 0, .int .u64 0, .int .u64 0, .int .u64 0, .int .u64 0, .int .u64 0, .int .u64 0, .int .u64 0, .int .u64 0, .int .u64 0, .int .u64 0, .int .u64 0, .int .u64 0, .int .u64 0, .int .u64 0, .int .u64 0, .int .u64 0, .int .u64 0, .int .u64 0, .int .u64 0, .int .u64 0, .int .u64 0] 42)).heap[w.heap.size + 1]? = some (.cells #[.int .u64 0, .int .u64 0, .int .u64 0, .int .u64 0, .int .u64 0, .int .u64 0, .int .u64 0, .int .u64 0, .int .u64 0, .int .u64 0, .int .u64 0, .int .u64 0, .int .u64 0, .int .u64 0, .int .u64 0, .int .u64 0, .int .u64 0, .int .u64 0, .int .u64 0, .int .u64 0, .int .u64 0, .int .u64 0, .int .u64 0, .int .u64 0, .int .u64 0] 42 (0, 0)) := rows_alloc w [_, _] 1
  have B0 : Below w.heap.size w ((w.alloc (.cells s.cells 42)).alloc (.cells #[.int .u64 0, .int .u64 0, .int .u64 0, .int .u64 0, .int .u64 0, .int .u64 0, .int .u64 0, .int .u64 0, .int .u64 0, .int .u64 0, .int .u64 0, .int .u64 0, .int .u64 0, .int .u64 0, .int .u64 0, .int .u64 0, .int .u64 0, .int .u64 0, .int .u64 0, .int .u64 0, .int .u64 0, .int .u64 0, .int .u64 0, .int .u64 0, .int .u64 0] 42)) := ((Below.refl _ _).alloc (Nat.le_refl _) _).alloc (by simp) _
  generalize hW : (w.alloc _).alloc _ = wa at *
  have e25 : #[.int .u64 0, .int .u64 0, .int .u64 0, .int .u64 0, .int .u64 0, .int .u64 0, .int .u64 0, .int .u64 0, .int .u64 0, .int .u64 0, .int .u64 0, .int .u64 0, .int .u64 0, .int .u64 0, .int .u64 0, .int .u64 0, .int .u64 0, .int .u64 0, .int .u64 0, .int .u64 0, .int .u64 0, .int .u64 0, .int .u64 0, .int .u64 0, .int .u64 0] = (L5.mk zeroE zeroE zeroE zeroE zeroE).cells := by rw [zeroL_cells]; rfl
  rw [e25] at R1
  clear hW e25
  have RL := Lib.hid R0
  have R1 := Lib.hid R1
  have BEL := Lib.hid B0
  clear R0 B0
  refine region_news 12 (fun _ => zero5) [(10, 3), (11, 4)] mixedOrders (by kernel_rfl) (by kernel_rfl) (zero_one (T := 40) hz (by kernel_rfl)) ?_
  refine wpNew_step rfl (fun K hK => ⟨.pointer (some ⟨w.heap.size, 5, none⟩), fun w2 hw2 => quiet_run (by kernel_rfl), hK _ ?_⟩)
  clear hK K
  simp only [Act.put, List.setIfInBounds_toArray, List.set_cons_succ, List.set_cons_zero]
  refine wpNew_step rfl (fun K hK => ⟨.agg s.x2.cells, fun w2 hw2 => quiet_load_E (.tmp 14) rfl w.heap.size 5 rfl s.x2 (L5.range2 (below_row hw2 (lt_row RL.out) RL.out) :), hK _ ?_⟩)
  clear hK K
  simp only [Act.put, List.setIfInBounds_toArray, List.set_cons_succ, List.set_cons_zero]
  refine wpNew_step rfl (fun K hK => ⟨.pointer (some ⟨w.heap.size, 10, none⟩), fun w2 hw2 => quiet_run (by kernel_rfl), hK _ ?_⟩)
  clear hK K
  simp only [Act.put, List.setIfInBounds_toArray, List.set_cons_succ, List.set_cons_zero]
  refine wpNew_step rfl (fun K hK => ⟨.agg s.z2.cells, fun w2 hw2 => quiet_load_E (.tmp 16) rfl w.heap.size 10 rfl s.z2 (L5.range3 (below_row hw2 (lt_row RL.out) RL.out) :), hK _ ?_⟩)
  clear hK K
  simp only [Act.put, List.setIfInBounds_toArray, List.set_cons_succ, List.set_cons_zero]
  refine wpNew_step rfl (fun K hK => ⟨.agg A.cells, fun w2 hw2 => ?_, hK _ ?_⟩)
  · go_simp
    go_at_call 29
    exact VA.out w2
  clear hK K
  simp only [Act.put, List.setIfInBounds_toArray, List.set_cons_succ, List.set_cons_zero]
  refine wpNew_step rfl (fun K hK => ⟨.pointer (some ⟨w.heap.size, 5, none⟩), fun w2 hw2 => quiet_run (by kernel_rfl), hK _ ?_⟩)
  clear hK K
  simp only [Act.put, List.setIfInBounds_toArray, List.set_cons_succ, List.set_cons_zero]
  refine wpNew_step rfl (fun K hK => ⟨.agg s.x2.cells, fun w2 hw2 => quiet_load_E (.tmp 19) rfl w.heap.size 5 rfl s.x2 (L5.range2 (below_row hw2 (lt_row RL.out) RL.out) :), hK _ ?_⟩)
  clear hK K
  simp only [Act.put, List.setIfInBounds_toArray, List.set_cons_succ, List.set_cons_zero]
  refine wpNew_step rfl (fun K hK => ⟨.pointer (some ⟨w.heap.size, 10, none⟩), fun w2 hw2 => quiet_run (by kernel_rfl), hK _ ?_⟩)
  clear hK K
  simp only [Act.put, List.setIfInBounds_toArray, List.set_cons_succ, List.set_cons_zero]
  refine wpNew_step rfl (fun K hK => ⟨.agg s.z2.cells, fun w2 hw2 => quiet_load_E (.tmp 21) rfl w.heap.size 10 rfl s.z2 (L5.range3 (below_row hw2 (lt_row RL.out) RL.out) :), hK _ ?_⟩)
  clear hK K
  simp only [Act.put, List.setIfInBounds_toArray, List.set_cons_succ, List.set_cons_zero]
  refine wpNew_step rfl (fun K hK => ⟨.agg B.cells, fun w2 hw2 => ?_, hK _ ?_⟩)
  · go_simp
    go_at_call 30
    exact VB.out w2
  clear hK K
  simp only [Act.put, List.setIfInBounds_toArray, List.set_cons_succ, List.set_cons_zero]
  refine wpNew_skip rfl ?_
  refine wpNew_skip rfl ?_
  refine wpNew_nil ?_
  intro bs w1 hb1 hrows hap
  have r3 := hrows 10 _ 40 (by omega) rfl rfl
  have r4 := hrows 11 _ 40 (by omega) rfl rfl
  have nn : bs 10 ≠ bs 11 := fun e => by have := hap 10 11 _ _ (by omega) (by omega) rfl rfl rfl rfl e; omega
  clear hrows hap
  simp only [putNews, newPtr, Act.put, List.setIfInBounds_toArray, List.set_cons_succ, List.set_cons_zero, List.drop_succ_cons, List.drop_zero]
  generalize bs 10 = kA at *
  generalize bs 11 = kB at *
  refine wpList_store_row (op := ⟨none, .store 40 (.tmp 3) (.tmp 18), _, _, _, _⟩) rfl 40 (.tmp 3) (.tmp 18) rfl kA _ _ A.cells rfl rfl r3.2 rfl (by kernel_rfl) (E5.one _) ?_
  intro w2 S1
  refine wpList_store_row (op := ⟨none, .store 40 (.tmp 4) (.tmp 23), _, _, _, _⟩) rfl 40 (.tmp 4) (.tmp 23) rfl kB _ _ B.cells rfl rfl (S1.keep nn.symm r4.2) rfl (by kernel_rfl) (E5.one _) ?_
  intro w101 S2
  have GA := Lib.hid (Nat.lt_of_lt_of_le (lt_row R1.out) r3.1)
  have GB := Lib.hid (Nat.lt_of_lt_of_le (lt_row R1.out) r4.1)
  have T := news2 hb1 r3.1 r4.1 nn S1 S2
  have RL := Lib.hid (below_row (T.1) (lt_row RL.out) RL.out)
  have R1 := Lib.hid (below_row (T.1) (lt_row R1.out) R1.out)
  have BEL := Lib.hid (BEL.out.trans ((T.1).mono BEL.out.size))
  have RA := Lib.hid T.2.1
  have RB := Lib.hid T.2.2
  clear T S1 S2 nn r3 r4 hb1
  go_upto_region 2 with (fail)
  refine region_news 8 (fun _ => zero5) [(6, 5), (7, 6)] mixedOrders (by kernel_rfl) (by kernel_rfl) (zero_one (T := 40) hz (by kernel_rfl)) ?_
  refine wpNew_step rfl (fun K hK => ⟨.agg A.cells, fun w2 hw2 => quiet_load_E (.tmp 3) rfl kA 0 rfl A (range_row (below_row hw2 (lt_row RA.out) RA.out)), hK _ ?_⟩)
  clear hK K
  simp only [Act.put, List.setIfInBounds_toArray, List.set_cons_succ, List.set_cons_zero]
  refine wpNew_step rfl (fun K hK => ⟨.agg A.cells, fun w2 hw2 => quiet_load_E (.tmp 3) rfl kA 0 rfl A (range_row (below_row hw2 (lt_row RA.out) RA.out)), hK _ ?_⟩)
  clear hK K
  simp only [Act.put, List.setIfInBounds_toArray, List.set_cons_succ, List.set_cons_zero]
  refine wpNew_step rfl (fun K hK => ⟨.agg AA.cells, fun w2 hw2 => ?_, hK _ ?_⟩)
  · go_simp
    go_at_call 19
    exact VAA.out w2
  clear hK K
  simp only [Act.put, List.setIfInBounds_toArray, List.set_cons_succ, List.set_cons_zero]
  refine wpNew_step rfl (fun K hK => ⟨.agg B.cells, fun w2 hw2 => quiet_load_E (.tmp 4) rfl kB 0 rfl B (range_row (below_row hw2 (lt_row RB.out) RB.out)), hK _ ?_⟩)
  clear hK K
  simp only [Act.put, List.setIfInBounds_toArray, List.set_cons_succ, List.set_cons_zero]
  refine wpNew_step rfl (fun K hK => ⟨.agg B.cells, fun w2 hw2 => quiet_load_E (.tmp 4) rfl kB 0 rfl B (range_row (below_row hw2 (lt_row RB.out) RB.out)), hK _ ?_⟩)
  clear hK K
  simp only [Act.put, List.setIfInBounds_toArray, List.set_cons_succ, List.set_cons_zero]
  refine wpNew_step rfl (fun K hK => ⟨.agg BB.cells, fun w2 hw2 => ?_, hK _ ?_⟩)
  · go_simp
    go_at_call 19
    exact VBB.out w2
  clear hK K
  simp only [Act.put, List.setIfInBounds_toArray, List.set_cons_succ, List.set_cons_zero]
  refine wpNew_skip rfl ?_
  refine wpNew_skip rfl ?_
  refine wpNew_nil ?_
  intro bs w1 hb1 hrows hap
  have r5 := hrows 6 _ 40 (by omega) rfl rfl
  have r6 := hrows 7 _ 40 (by omega) rfl rfl
  have nn : bs 6 ≠ bs 7 := fun e => by have := hap 6 7 _ _ (by omega) (by omega) rfl rfl rfl rfl e; omega
  clear hrows hap
  simp only [putNews, newPtr, Act.put, List.setIfInBounds_toArray, List.set_cons_succ, List.set_cons_zero, List.drop_succ_cons, List.drop_zero]
  generalize bs 6 = kAA at *
  generalize bs 7 = kBB at *
  refine wpList_store_row (op := ⟨none, .store 40 (.tmp 5) (.tmp 26), _, _, _, _⟩) rfl 40 (.tmp 5) (.tmp 26) rfl kAA _ _ AA.cells rfl rfl r5.2 rfl (by kernel_rfl) (E5.one _) ?_
  intro w2 S1
  refine wpList_store_row (op := ⟨none, .store 40 (.tmp 6) (.tmp 29), _, _, _, _⟩) rfl 40 (.tmp 6) (.tmp 29) rfl kBB _ _ BB.cells rfl rfl (S1.keep nn.symm r6.2) rfl (by kernel_rfl) (E5.one _) ?_
  intro w102 S2
  have GAA := Lib.hid (Nat.lt_of_lt_of_le (lt_row R1.out) r5.1)
  have GBB := Lib.hid (Nat.lt_of_lt_of_le (lt_row R1.out) r6.1)
  have T := news2 hb1 r5.1 r6.1 nn S1 S2
  have RL := Lib.hid (below_row (T.1) (lt_row RL.out) RL.out)
  have R1 := Lib.hid (below_row (T.1) (lt_row R1.out) R1.out)
  have RA := Lib.hid (below_row (T.1) (lt_row RA.out) RA.out)
  have RB := Lib.hid (below_row (T.1) (lt_row RB.out) RB.out)
  have BEL := Lib.hid (BEL.out.trans ((T.1).mono BEL.out.size))
  have RAA := Lib.hid T.2.1
  have RBB := Lib.hid T.2.2
  clear T S1 S2 nn r5 r6 hb1
  go_upto_region 3 with (fail)
  go_upto_region 4 with (first
    | ((with_reducible refine wpList_load_E (op := ⟨some 30, .load _ (.tmp 5), _, _, _, _⟩) ?_ (.tmp 5) ?_ kAA 0 ?_ AA ?_ ?_); (focus rfl); (focus rfl); (focus rfl); (focus exact range_row RAA.out))
    | ((with_reducible refine wpList_load_E (op := ⟨some 31, .load _ (.tmp 6), _, _, _, _⟩) ?_ (.tmp 6) ?_ kBB 0 ?_ BB ?_ ?_); (focus rfl); (focus rfl); (focus rfl); (focus exact range_row RBB.out))
    | (go_at_call 30; with_reducible refine (VE.out _).mono ?_; rintro e w1 ⟨rfl, hq⟩)
    | ((with_reducible refine wpList_alloc_row (o := ⟨some 7, .alloc 40, _, _, _, _⟩) ?_ 40 ?_ zero5 hz ?_); (focus rfl); (focus rfl))
    | ((with_reducible refine wpList_store_new (o := ⟨none, .store 40 (.tmp 7) (.tmp 32), _, _, _, _⟩) ?_ 40 (.tmp 7) (.tmp 32) ?_ zero5 E.cells w1.heap.size ?_ ?_ ?_ (by kernel_rfl) ?_ (E5.one _) ?_); (focus rfl); (focus rfl); (focus rfl); (focus rfl); (focus rfl); (focus exact Eq.trans (b := 5) rfl rfl)))
  have T : Below w102.heap.size w102 (w1.alloc (.cells E.cells 40)) := hq.alloc hq.size _
  have GE := Lib.hid (Nat.lt_of_lt_of_le (lt_row R1.out) hq.size)
  have RN : (w1.alloc (.cells E.cells 40)).heap[w1.heap.size]? = some (.cells E.cells 40 (0, 0)) := heap_alloc_last _ _
  generalize w1.heap.size = kE at *
  generalize w1.alloc _ = w103 at *
  have RL := Lib.hid (below_row (T) (lt_row RL.out) RL.out)
  have R1 := Lib.hid (below_row (T) (lt_row R1.out) R1.out)
  have RA := Lib.hid (below_row (T) (lt_row RA.out) RA.out)
  have RB := Lib.hid (below_row (T) (lt_row RB.out) RB.out)
  have RAA := Lib.hid (below_row (T) (lt_row RAA.out) RAA.out)
  have RBB := Lib.hid (below_row (T) (lt_row RBB.out) RBB.out)
  have BEL := Lib.hid (BEL.out.trans ((T).mono BEL.out.size))
  have RE := Lib.hid RN
  clear T RN hq
  refine region_news 12 (fun _ => zero5) [(10, 8), (11, 9)] mixedOrders (by kernel_rfl) (by kernel_rfl) (zero_one (T := 40) hz (by kernel_rfl)) ?_
  refine wpNew_step rfl (fun K hK => ⟨.pointer (some ⟨w.heap.size, 15, none⟩), fun w2 hw2 => quiet_run (by kernel_rfl), hK _ ?_⟩)
  clear hK K
  simp only [Act.put, List.setIfInBounds_toArray, List.set_cons_succ, List.set_cons_zero]
  refine wpNew_step rfl (fun K hK => ⟨.agg s.x3.cells, fun w2 hw2 => quiet_load_E (.tmp 33) rfl w.heap.size 15 rfl s.x3 (L5.range4 (below_row hw2 (lt_row RL.out) RL.out) :), hK _ ?_⟩)
  clear hK K
  simp only [Act.put, List.setIfInBounds_toArray, List.set_cons_succ, List.set_cons_zero]
  refine wpNew_step rfl (fun K hK => ⟨.pointer (some ⟨w.heap.size, 20, none⟩), fun w2 hw2 => quiet_run (by kernel_rfl), hK _ ?_⟩)
  clear hK K
  simp only [Act.put, List.setIfInBounds_toArray, List.set_cons_succ, List.set_cons_zero]
  refine wpNew_step rfl (fun K hK => ⟨.agg s.z3.cells, fun w2 hw2 => quiet_load_E (.tmp 35) rfl w.heap.size 20 rfl s.z3 (L5.range5 (below_row hw2 (lt_row RL.out) RL.out) :), hK _ ?_⟩)
  clear hK K
  simp only [Act.put, List.setIfInBounds_toArray, List.set_cons_succ, List.set_cons_zero]
  refine wpNew_step rfl (fun K hK => ⟨.agg C.cells, fun w2 hw2 => ?_, hK _ ?_⟩)
  · go_simp
    go_at_call 29
    exact VC.out w2
  clear hK K
  simp only [Act.put, List.setIfInBounds_toArray, List.set_cons_succ, List.set_cons_zero]
  refine wpNew_step rfl (fun K hK => ⟨.pointer (some ⟨w.heap.size, 15, none⟩), fun w2 hw2 => quiet_run (by kernel_rfl), hK _ ?_⟩)
  clear hK K
  simp only [Act.put, List.setIfInBounds_toArray, List.set_cons_succ, List.set_cons_zero]
  refine wpNew_step rfl (fun K hK => ⟨.agg s.x3.cells, fun w2 hw2 => quiet_load_E (.tmp 38) rfl w.heap.size 15 rfl s.x3 (L5.range4 (below_row hw2 (lt_row RL.out) RL.out) :), hK _ ?_⟩)
  clear hK K
  simp only [Act.put, List.setIfInBounds_toArray, List.set_cons_succ, List.set_cons_zero]
  refine wpNew_step rfl (fun K hK => ⟨.pointer (some ⟨w.heap.size, 20, none⟩), fun w2 hw2 => quiet_run (by kernel_rfl), hK _ ?_⟩)
  clear hK K
  simp only [Act.put, List.setIfInBounds_toArray, List.set_cons_succ, List.set_cons_zero]
  refine wpNew_step rfl (fun K hK => ⟨.agg s.z3.cells, fun w2 hw2 => quiet_load_E (.tmp 40) rfl w.heap.size 20 rfl s.z3 (L5.range5 (below_row hw2 (lt_row RL.out) RL.out) :), hK _ ?_⟩)
  clear hK K
  simp only [Act.put, List.setIfInBounds_toArray, List.set_cons_succ, List.set_cons_zero]
  refine wpNew_step rfl (fun K hK => ⟨.agg D.cells, fun w2 hw2 => ?_, hK _ ?_⟩)
  · go_simp
    go_at_call 30
    exact VD.out w2
  clear hK K
  simp only [Act.put, List.setIfInBounds_toArray, List.set_cons_succ, List.set_cons_zero]
  refine wpNew_skip rfl ?_
  refine wpNew_skip rfl ?_
  refine wpNew_nil ?_
  intro bs w1 hb1 hrows hap
  have r8 := hrows 10 _ 40 (by omega) rfl rfl
  have r9 := hrows 11 _ 40 (by omega) rfl rfl
  have nn : bs 10 ≠ bs 11 := fun e => by have := hap 10 11 _ _ (by omega) (by omega) rfl rfl rfl rfl e; omega
  clear hrows hap
  simp only [putNews, newPtr, Act.put, List.setIfInBounds_toArray, List.set_cons_succ, List.set_cons_zero, List.drop_succ_cons, List.drop_zero]
  generalize bs 10 = kC at *
  generalize bs 11 = kD at *
  refine wpList_store_row (op := ⟨none, .store 40 (.tmp 8) (.tmp 37), _, _, _, _⟩) rfl 40 (.tmp 8) (.tmp 37) rfl kC _ _ C.cells rfl rfl r8.2 rfl (by kernel_rfl) (E5.one _) ?_
  intro w2 S1
  refine wpList_store_row (op := ⟨none, .store 40 (.tmp 9) (.tmp 42), _, _, _, _⟩) rfl 40 (.tmp 9) (.tmp 42) rfl kD _ _ D.cells rfl rfl (S1.keep nn.symm r9.2) rfl (by kernel_rfl) (E5.one _) ?_
  intro w104 S2
  have GC := Lib.hid (Nat.lt_of_lt_of_le (lt_row R1.out) r8.1)
  have GD := Lib.hid (Nat.lt_of_lt_of_le (lt_row R1.out) r9.1)
  have T := news2 hb1 r8.1 r9.1 nn S1 S2
  have RL := Lib.hid (below_row (T.1) (lt_row RL.out) RL.out)
  have R1 := Lib.hid (below_row (T.1) (lt_row R1.out) R1.out)
  have RA := Lib.hid (below_row (T.1) (lt_row RA.out) RA.out)
  have RB := Lib.hid (below_row (T.1) (lt_row RB.out) RB.out)
  have RAA := Lib.hid (below_row (T.1) (lt_row RAA.out) RAA.out)
  have RBB := Lib.hid (below_row (T.1) (lt_row RBB.out) RBB.out)
  have RE := Lib.hid (below_row (T.1) (lt_row RE.out) RE.out)
  have BEL := Lib.hid (BEL.out.trans ((T.1).mono BEL.out.size))
  have RC := Lib.hid T.2.1
  have RD := Lib.hid T.2.2
  clear T S1 S2 nn r8 r9 hb1
  go_upto_region 5 with (fail)
  refine region_news 8 (fun _ => zero5) [(6, 10), (7, 11)] mixedOrders (by kernel_rfl) (by kernel_rfl) (zero_one (T := 40) hz (by kernel_rfl)) ?_
  refine wpNew_step rfl (fun K hK => ⟨.agg D.cells, fun w2 hw2 => quiet_load_E (.tmp 9) rfl kD 0 rfl D (range_row (below_row hw2 (lt_row RD.out) RD.out)), hK _ ?_⟩)
  clear hK K
  simp only [Act.put, List.setIfInBounds_toArray, List.set_cons_succ, List.set_cons_zero]
  refine wpNew_step rfl (fun K hK => ⟨.agg A.cells, fun w2 hw2 => quiet_load_E (.tmp 3) rfl kA 0 rfl A (range_row (below_row hw2 (lt_row RA.out) RA.out)), hK _ ?_⟩)
  clear hK K
  simp only [Act.put, List.setIfInBounds_toArray, List.set_cons_succ, List.set_cons_zero]
  refine wpNew_step rfl (fun K hK => ⟨.agg DA.cells, fun w2 hw2 => ?_, hK _ ?_⟩)
  · go_simp
    go_at_call 19
    exact VDA.out w2
  clear hK K
  simp only [Act.put, List.setIfInBounds_toArray, List.set_cons_succ, List.set_cons_zero]
  refine wpNew_step rfl (fun K hK => ⟨.agg C.cells, fun w2 hw2 => quiet_load_E (.tmp 8) rfl kC 0 rfl C (range_row (below_row hw2 (lt_row RC.out) RC.out)), hK _ ?_⟩)
  clear hK K
  simp only [Act.put, List.setIfInBounds_toArray, List.set_cons_succ, List.set_cons_zero]
  refine wpNew_step rfl (fun K hK => ⟨.agg B.cells, fun w2 hw2 => quiet_load_E (.tmp 4) rfl kB 0 rfl B (range_row (below_row hw2 (lt_row RB.out) RB.out)), hK _ ?_⟩)
  clear hK K
  simp only [Act.put, List.setIfInBounds_toArray, List.set_cons_succ, List.set_cons_zero]
  refine wpNew_step rfl (fun K hK => ⟨.agg CB.cells, fun w2 hw2 => ?_, hK _ ?_⟩)
  · go_simp
    go_at_call 19
    exact VCB.out w2
  clear hK K
  simp only [Act.put, List.setIfInBounds_toArray, List.set_cons_succ, List.set_cons_zero]
  refine wpNew_skip rfl ?_
  refine wpNew_skip rfl ?_
  refine wpNew_nil ?_
  intro bs w1 hb1 hrows hap
  have r10 := hrows 6 _ 40 (by omega) rfl rfl
  have r11 := hrows 7 _ 40 (by omega) rfl rfl
  have nn : bs 6 ≠ bs 7 := fun e => by have := hap 6 7 _ _ (by omega) (by omega) rfl rfl rfl rfl e; omega
  clear hrows hap
  simp only [putNews, newPtr, Act.put, List.setIfInBounds_toArray, List.set_cons_succ, List.set_cons_zero, List.drop_succ_cons, List.drop_zero]
  generalize bs 6 = kDA at *
  generalize bs 7 = kCB at *
  refine wpList_store_row (op := ⟨none, .store 40 (.tmp 10) (.tmp 45), _, _, _, _⟩) rfl 40 (.tmp 10) (.tmp 45) rfl kDA _ _ DA.cells rfl rfl r10.2 rfl (by kernel_rfl) (E5.one _) ?_
  intro w2 S1
  refine wpList_store_row (op := ⟨none, .store 40 (.tmp 11) (.tmp 48), _, _, _, _⟩) rfl 40 (.tmp 11) (.tmp 48) rfl kCB _ _ CB.cells rfl rfl (S1.keep nn.symm r11.2) rfl (by kernel_rfl) (E5.one _) ?_
  intro w105 S2
  have GDA := Lib.hid (Nat.lt_of_lt_of_le (lt_row R1.out) r10.1)
  have GCB := Lib.hid (Nat.lt_of_lt_of_le (lt_row R1.out) r11.1)
  have T := news2 hb1 r10.1 r11.1 nn S1 S2
  have RL := Lib.hid (below_row (T.1) (lt_row RL.out) RL.out)
  have R1 := Lib.hid (below_row (T.1) (lt_row R1.out) R1.out)
  have RA := Lib.hid (below_row (T.1) (lt_row RA.out) RA.out)
  have RB := Lib.hid (below_row (T.1) (lt_row RB.out) RB.out)
  have RAA := Lib.hid (below_row (T.1) (lt_row RAA.out) RAA.out)
  have RBB := Lib.hid (below_row (T.1) (lt_row RBB.out) RBB.out)
  have RE := Lib.hid (below_row (T.1) (lt_row RE.out) RE.out)
  have RC := Lib.hid (below_row (T.1) (lt_row RC.out) RC.out)
  have RD := Lib.hid (below_row (T.1) (lt_row RD.out) RD.out)
  have BEL := Lib.hid (BEL.out.trans ((T.1).mono BEL.out.size))
  have RDA := Lib.hid T.2.1
  have RCB := Lib.hid T.2.2
  clear T S1 S2 nn r10 r11 hb1
  go_upto_region 6 with (fail)
  refine region_news 8 (fun _ => zero5) [(6, 12), (7, 13)] mixedOrders (by kernel_rfl) (by kernel_rfl) (zero_one (T := 40) hz (by kernel_rfl)) ?_
  refine wpNew_step rfl (fun K hK => ⟨.agg DA.cells, fun w2 hw2 => quiet_load_E (.tmp 10) rfl kDA 0 rfl DA (range_row (below_row hw2 (lt_row RDA.out) RDA.out)), hK _ ?_⟩)
  clear hK K
  simp only [Act.put, List.setIfInBounds_toArray, List.set_cons_succ, List.set_cons_zero]
  refine wpNew_step rfl (fun K hK => ⟨.agg CB.cells, fun w2 hw2 => quiet_load_E (.tmp 11) rfl kCB 0 rfl CB (range_row (below_row hw2 (lt_row RCB.out) RCB.out)), hK _ ?_⟩)
  clear hK K
  simp only [Act.put, List.setIfInBounds_toArray, List.set_cons_succ, List.set_cons_zero]
  refine wpNew_step rfl (fun K hK => ⟨.agg SU.cells, fun w2 hw2 => ?_, hK _ ?_⟩)
  · go_simp
    go_at_call 29
    exact VSU.out w2
  clear hK K
  simp only [Act.put, List.setIfInBounds_toArray, List.set_cons_succ, List.set_cons_zero]
  refine wpNew_step rfl (fun K hK => ⟨.agg DA.cells, fun w2 hw2 => quiet_load_E (.tmp 10) rfl kDA 0 rfl DA (range_row (below_row hw2 (lt_row RDA.out) RDA.out)), hK _ ?_⟩)
  clear hK K
  simp only [Act.put, List.setIfInBounds_toArray, List.set_cons_succ, List.set_cons_zero]
  refine wpNew_step rfl (fun K hK => ⟨.agg CB.cells, fun w2 hw2 => quiet_load_E (.tmp 11) rfl kCB 0 rfl CB (range_row (below_row hw2 (lt_row RCB.out) RCB.out)), hK _ ?_⟩)
  clear hK K
  simp only [Act.put, List.setIfInBounds_toArray, List.set_cons_succ, List.set_cons_zero]
  refine wpNew_step rfl (fun K hK => ⟨.agg DI.cells, fun w2 hw2 => ?_, hK _ ?_⟩)
  · go_simp
    go_at_call 30
    exact VDI.out w2
  clear hK K
  simp only [Act.put, List.setIfInBounds_toArray, List.set_cons_succ, List.set_cons_zero]
  refine wpNew_skip rfl ?_
  refine wpNew_skip rfl ?_
  refine wpNew_nil ?_
  intro bs w1 hb1 hrows hap
  have r12 := hrows 6 _ 40 (by omega) rfl rfl
  have r13 := hrows 7 _ 40 (by omega) rfl rfl
  have nn : bs 6 ≠ bs 7 := fun e => by have := hap 6 7 _ _ (by omega) (by omega) rfl rfl rfl rfl e; omega
  clear hrows hap
  simp only [putNews, newPtr, Act.put, List.setIfInBounds_toArray, List.set_cons_succ, List.set_cons_zero, List.drop_succ_cons, List.drop_zero]
  generalize bs 6 = kSU at *
  generalize bs 7 = kDI at *
  refine wpList_store_row (op := ⟨none, .store 40 (.tmp 12) (.tmp 51), _, _, _, _⟩) rfl 40 (.tmp 12) (.tmp 51) rfl kSU _ _ SU.cells rfl rfl r12.2 rfl (by kernel_rfl) (E5.one _) ?_
  intro w2 S1
  refine wpList_store_row (op := ⟨none, .store 40 (.tmp 13) (.tmp 54), _, _, _, _⟩) rfl 40 (.tmp 13) (.tmp 54) rfl kDI _ _ DI.cells rfl rfl (S1.keep nn.symm r13.2) rfl (by kernel_rfl) (E5.one _) ?_
  intro w106 S2
  have GSU := Lib.hid (Nat.lt_of_lt_of_le (lt_row R1.out) r12.1)
  have GDI := Lib.hid (Nat.lt_of_lt_of_le (lt_row R1.out) r13.1)
  have T := news2 hb1 r12.1 r13.1 nn S1 S2
  have RL := Lib.hid (below_row (T.1) (lt_row RL.out) RL.out)
  have R1 := Lib.hid (below_row (T.1) (lt_row R1.out) R1.out)
  have RA := Lib.hid (below_row (T.1) (lt_row RA.out) RA.out)
  have RB := Lib.hid (below_row (T.1) (lt_row RB.out) RB.out)
  have RAA := Lib.hid (below_row (T.1) (lt_row RAA.out) RAA.out)
  have RBB := Lib.hid (below_row (T.1) (lt_row RBB.out) RBB.out)
  have RE := Lib.hid (below_row (T.1) (lt_row RE.out) RE.out)
  have RC := Lib.hid (below_row (T.1) (lt_row RC.out) RC.out)
  have RD := Lib.hid (below_row (T.1) (lt_row RD.out) RD.out)
  have RDA := Lib.hid (below_row (T.1) (lt_row RDA.out) RDA.out)
  have RCB := Lib.hid (below_row (T.1) (lt_row RCB.out) RCB.out)
  have BEL := Lib.hid (BEL.out.trans ((T.1).mono BEL.out.size))
  have RSU := Lib.hid T.2.1
  have RDI := Lib.hid T.2.2
  clear T S1 S2 nn r12 r13 hb1
  go_upto_region 7 with (fail)
  go_upto_region 8 with (first
    | ((with_reducible refine wpList_load_E (op := ⟨some 55, .load _ (.tmp 12), _, _, _, _⟩) ?_ (.tmp 12) ?_ kSU 0 ?_ SU ?_ ?_); (focus rfl); (focus rfl); (focus rfl); (focus exact range_row RSU.out))
    | ((with_reducible refine wpList_load_E (op := ⟨some 56, .load _ (.tmp 12), _, _, _, _⟩) ?_ (.tmp 12) ?_ kSU 0 ?_ SU ?_ ?_); (focus rfl); (focus rfl); (focus rfl); (focus exact range_row RSU.out))
    | (go_at_call 19; with_reducible refine (VX3.out _).mono ?_; rintro e w1 ⟨rfl, hq⟩; have RLn := below_row hq (lt_row RL.out) RL.out)
    | ((with_reducible refine wpList_store_E (op := ⟨none, .store _ (.tmp 58) (.tmp 57), _, _, _, _⟩) ?_ (.tmp 58) (.tmp 57) ?_ w.heap.size 15 X3 ?_ ?_ RLn ?_ ⟨s.x1, s.x2, s.z2, X3, s.z3⟩ ?_ ?_); (focus rfl); (focus rfl); (focus rfl); (focus rfl); (focus omega); (focus rfl); intro w107 S1))
  have RA := Lib.hid (S1.keep (by have := GA.out; omega) (below_row hq (lt_row RA.out) RA.out))
  have RB := Lib.hid (S1.keep (by have := GB.out; omega) (below_row hq (lt_row RB.out) RB.out))
  have RAA := Lib.hid (S1.keep (by have := GAA.out; omega) (below_row hq (lt_row RAA.out) RAA.out))
  have RBB := Lib.hid (S1.keep (by have := GBB.out; omega) (below_row hq (lt_row RBB.out) RBB.out))
  have RE := Lib.hid (S1.keep (by have := GE.out; omega) (below_row hq (lt_row RE.out) RE.out))
  have RC := Lib.hid (S1.keep (by have := GC.out; omega) (below_row hq (lt_row RC.out) RC.out))
  have RD := Lib.hid (S1.keep (by have := GD.out; omega) (below_row hq (lt_row RD.out) RD.out))
  have RDA := Lib.hid (S1.keep (by have := GDA.out; omega) (below_row hq (lt_row RDA.out) RDA.out))
  have RCB := Lib.hid (S1.keep (by have := GCB.out; omega) (below_row hq (lt_row RCB.out) RCB.out))
  have RSU := Lib.hid (S1.keep (by have := GSU.out; omega) (below_row hq (lt_row RSU.out) RSU.out))
  have RDI := Lib.hid (S1.keep (by have := GDI.out; omega) (below_row hq (lt_row RDI.out) RDI.out))
  have R1 := Lib.hid (S1.keep (by omega) (below_row hq (lt_row R1.out) R1.out))
  have RL := Lib.hid S1.row
  have BEL := Lib.hid ((BEL.out.trans (hq.mono BEL.out.size)).trans (S1.below _ (Nat.le_refl _)))
  clear S1 hq RLn
  refine region_class1 7 (fun w' => Below w107.drew.heap.size w107.drew w') mixedOrders (by kernel_rfl) (Below.refl _ _) rfl ?_
  refine wpQuiet_take (by rfl) (fun K hK => ⟨.pointer (some ⟨w.heap.size, 0, none⟩), fun w2 hw2 => quiet_run (by kernel_rfl), hK _ ?_⟩)
  clear hK K
  simp only [Act.put, List.setIfInBounds_toArray, List.set_cons_succ, List.set_cons_zero]
  refine wpQuiet_take (by rfl) (fun K hK => ⟨.agg s.x1.cells, fun w2 hw2 => quiet_load_E (.tmp 59) rfl w.heap.size 0 rfl s.x1 (L5.range1 (below_row hw2 (lt_row RL.out) RL.out) :), hK _ ?_⟩)
  clear hK K
  simp only [Act.put, List.setIfInBounds_toArray, List.set_cons_succ, List.set_cons_zero]
  refine wpQuiet_take (by rfl) (fun K hK => ⟨.agg DI.cells, fun w2 hw2 => quiet_load_E (.tmp 13) rfl kDI 0 rfl DI (range_row (below_row hw2 (lt_row RDI.out) RDI.out)), hK _ ?_⟩)
  clear hK K
  simp only [Act.put, List.setIfInBounds_toArray, List.set_cons_succ, List.set_cons_zero]
  refine wpQuiet_take (by rfl) (fun K hK => ⟨.agg DI.cells, fun w2 hw2 => quiet_load_E (.tmp 13) rfl kDI 0 rfl DI (range_row (below_row hw2 (lt_row RDI.out) RDI.out)), hK _ ?_⟩)
  clear hK K
  simp only [Act.put, List.setIfInBounds_toArray, List.set_cons_succ, List.set_cons_zero]
  refine wpQuiet_take (by rfl) (fun K hK => ⟨.agg DD.cells, fun w2 hw2 => ?_, hK _ ?_⟩)
  · have hw3 := Lib.hid hw2
    clear hw2
    go_simp
    go_at_call 19
    refine (VDD.out w2).mono ?_
    rintro e w4 ⟨rfl, hb4⟩
    exact ⟨rfl, hw3.out.trans (hb4.mono hw3.out.size)⟩
  clear hK K
  simp only [Act.put, List.setIfInBounds_toArray, List.set_cons_succ, List.set_cons_zero]
  refine wpQuiet_take (by rfl) (fun K hK => ⟨.agg Z3.cells, fun w2 hw2 => ?_, hK _ ?_⟩)
  · have hw3 := Lib.hid hw2
    clear hw2
    go_simp
    go_at_call 19
    refine (VZ3.out w2).mono ?_
    rintro e w4 ⟨rfl, hb4⟩
    exact ⟨rfl, hw3.out.trans (hb4.mono hw3.out.size)⟩
  clear hK K
  simp only [Act.put, List.setIfInBounds_toArray, List.set_cons_succ, List.set_cons_zero]
  refine wpQuiet_take (by rfl) (fun K hK => ⟨.pointer (some ⟨w.heap.size, 20, none⟩), fun w2 hw2 => quiet_run (by kernel_rfl), hK _ ?_⟩)
  clear hK K
  simp only [Act.put, List.setIfInBounds_toArray, List.set_cons_succ, List.set_cons_zero]
  refine wpQuiet_take0 ?_
  intro w1 hq0
  have hq : Below w107.heap.size w107 w1 := (Below.refl _ _).drew.trans hq0
  clear hq0
  have RLn := below_row hq (lt_row RL.out) RL.out
  refine wpList_store_E (op := ⟨none, .store _ (.tmp 65) (.tmp 64), _, _, _, _⟩) rfl (.tmp 65) (.tmp 64) rfl w.heap.size 20 Z3 rfl rfl RLn (by omega) ⟨s.x1, s.x2, s.z2, X3, Z3⟩ rfl ?_
  intro w108 S1
  have RA := Lib.hid (S1.keep (by have := GA.out; omega) (below_row hq (lt_row RA.out) RA.out))
  have RB := Lib.hid (S1.keep (by have := GB.out; omega) (below_row hq (lt_row RB.out) RB.out))
  have RAA := Lib.hid (S1.keep (by have := GAA.out; omega) (below_row hq (lt_row RAA.out) RAA.out))
  have RBB := Lib.hid (S1.keep (by have := GBB.out; omega) (below_row hq (lt_row RBB.out) RBB.out))
  have RE := Lib.hid (S1.keep (by have := GE.out; omega) (below_row hq (lt_row RE.out) RE.out))
  have RC := Lib.hid (S1.keep (by have := GC.out; omega) (below_row hq (lt_row RC.out) RC.out))
  have RD := Lib.hid (S1.keep (by have := GD.out; omega) (below_row hq (lt_row RD.out) RD.out))
  have RDA := Lib.hid (S1.keep (by have := GDA.out; omega) (below_row hq (lt_row RDA.out) RDA.out))
  have RCB := Lib.hid (S1.keep (by have := GCB.out; omega) (below_row hq (lt_row RCB.out) RCB.out))
  have RSU := Lib.hid (S1.keep (by have := GSU.out; omega) (below_row hq (lt_row RSU.out) RSU.out))
  have RDI := Lib.hid (S1.keep (by have := GDI.out; omega) (below_row hq (lt_row RDI.out) RDI.out))
  have R1 := Lib.hid (S1.keep (by omega) (below_row hq (lt_row R1.out) R1.out))
  have RL := Lib.hid S1.row
  have BEL := Lib.hid ((BEL.out.trans (hq.mono BEL.out.size)).trans (S1.below _ (Nat.le_refl _)))
  clear S1 hq RLn
  go_upto_region 9 with (fail)
  go_upto_region 10 with (first
    | ((with_reducible refine wpList_load_E (op := ⟨some 66, .load _ (.tmp 5), _, _, _, _⟩) ?_ (.tmp 5) ?_ kAA 0 ?_ AA ?_ ?_); (focus rfl); (focus rfl); (focus rfl); (focus exact range_row RAA.out))
    | ((with_reducible refine wpList_load_E (op := ⟨some 67, .load _ (.tmp 6), _, _, _, _⟩) ?_ (.tmp 6) ?_ kBB 0 ?_ BB ?_ ?_); (focus rfl); (focus rfl); (focus rfl); (focus exact range_row RBB.out))
    | (go_at_call 19; with_reducible refine (VX2.out _).mono ?_; rintro e w1 ⟨rfl, hq⟩; have RLn := below_row hq (lt_row RL.out) RL.out)
    | ((with_reducible refine wpList_store_E (op := ⟨none, .store _ (.tmp 69) (.tmp 68), _, _, _, _⟩) ?_ (.tmp 69) (.tmp 68) ?_ w.heap.size 5 X2 ?_ ?_ RLn ?_ ⟨s.x1, X2, s.z2, X3, Z3⟩ ?_ ?_); (focus rfl); (focus rfl); (focus rfl); (focus rfl); (focus omega); (focus rfl); intro w109 S1))
  have RA := Lib.hid (S1.keep (by have := GA.out; omega) (below_row hq (lt_row RA.out) RA.out))
  have RB := Lib.hid (S1.keep (by have := GB.out; omega) (below_row hq (lt_row RB.out) RB.out))
  have RAA := Lib.hid (S1.keep (by have := GAA.out; omega) (below_row hq (lt_row RAA.out) RAA.out))
  have RBB := Lib.hid (S1.keep (by have := GBB.out; omega) (below_row hq (lt_row RBB.out) RBB.out))
  have RE := Lib.hid (S1.keep (by have := GE.out; omega) (below_row hq (lt_row RE.out) RE.out))
  have RC := Lib.hid (S1.keep (by have := GC.out; omega) (below_row hq (lt_row RC.out) RC.out))
  have RD := Lib.hid (S1.keep (by have := GD.out; omega) (below_row hq (lt_row RD.out) RD.out))
  have RDA := Lib.hid (S1.keep (by have := GDA.out; omega) (below_row hq (lt_row RDA.out) RDA.out))
  have RCB := Lib.hid (S1.keep (by have := GCB.out; omega) (below_row hq (lt_row RCB.out) RCB.out))
  have RSU := Lib.hid (S1.keep (by have := GSU.out; omega) (below_row hq (lt_row RSU.out) RSU.out))
  have RDI := Lib.hid (S1.keep (by have := GDI.out; omega) (below_row hq (lt_row RDI.out) RDI.out))
  have R1 := Lib.hid (S1.keep (by omega) (below_row hq (lt_row R1.out) R1.out))
  have RL := Lib.hid S1.row
  have BEL := Lib.hid ((BEL.out.trans (hq.mono BEL.out.size)).trans (S1.below _ (Nat.le_refl _)))
  clear S1 hq RLn
  refine region_class1 8 (fun w' => Below w109.drew.heap.size w109.drew w') mixedOrders (by kernel_rfl) (Below.refl _ _) rfl ?_
  refine wpQuiet_take (by rfl) (fun K hK => ⟨.agg E.cells, fun w2 hw2 => quiet_load_E (.tmp 7) rfl kE 0 rfl E (range_row (below_row hw2 (lt_row RE.out) RE.out)), hK _ ?_⟩)
  clear hK K
  simp only [Act.put, List.setIfInBounds_toArray, List.set_cons_succ, List.set_cons_zero]
  refine wpQuiet_take (by rfl) (fun K hK => ⟨.agg AA.cells, fun w2 hw2 => quiet_load_E (.tmp 5) rfl kAA 0 rfl AA (range_row (below_row hw2 (lt_row RAA.out) RAA.out)), hK _ ?_⟩)
  clear hK K
  simp only [Act.put, List.setIfInBounds_toArray, List.set_cons_succ, List.set_cons_zero]
  refine wpQuiet_take (by rfl) (fun K hK => ⟨.agg E.cells, fun w2 hw2 => quiet_load_E (.tmp 7) rfl kE 0 rfl E (range_row (below_row hw2 (lt_row RE.out) RE.out)), hK _ ?_⟩)
  clear hK K
  simp only [Act.put, List.setIfInBounds_toArray, List.set_cons_succ, List.set_cons_zero]
  refine wpQuiet_take (by rfl) (fun K hK => ⟨.agg KC.cells, fun w2 hw2 => ?_, hK _ ?_⟩)
  · have hw3 := Lib.hid hw2
    clear hw2
    go_simp
    go_at_call 31
    refine (VKC.out w2).mono ?_
    rintro e w4 ⟨rfl, hb4⟩
    exact ⟨rfl, hw3.out.trans (hb4.mono hw3.out.size)⟩
  clear hK K
  simp only [Act.put, List.setIfInBounds_toArray, List.set_cons_succ, List.set_cons_zero]
  refine wpQuiet_take (by rfl) (fun K hK => ⟨.agg M.cells, fun w2 hw2 => ?_, hK _ ?_⟩)
  · have hw3 := Lib.hid hw2
    clear hw2
    go_simp
    go_at_call 19
    refine (VM.out w2).mono ?_
    rintro e w4 ⟨rfl, hb4⟩
    exact ⟨rfl, hw3.out.trans (hb4.mono hw3.out.size)⟩
  clear hK K
  simp only [Act.put, List.setIfInBounds_toArray, List.set_cons_succ, List.set_cons_zero]
  refine wpQuiet_take (by rfl) (fun K hK => ⟨.agg N.cells, fun w2 hw2 => ?_, hK _ ?_⟩)
  · have hw3 := Lib.hid hw2
    clear hw2
    go_simp
    go_at_call 29
    refine (VN.out w2).mono ?_
    rintro e w4 ⟨rfl, hb4⟩
    exact ⟨rfl, hw3.out.trans (hb4.mono hw3.out.size)⟩
  clear hK K
  simp only [Act.put, List.setIfInBounds_toArray, List.set_cons_succ, List.set_cons_zero]
  refine wpQuiet_take (by rfl) (fun K hK => ⟨.agg Z2.cells, fun w2 hw2 => ?_, hK _ ?_⟩)
  · have hw3 := Lib.hid hw2
    clear hw2
    go_simp
    go_at_call 19
    refine (VZ2.out w2).mono ?_
    rintro e w4 ⟨rfl, hb4⟩
    exact ⟨rfl, hw3.out.trans (hb4.mono hw3.out.size)⟩
  clear hK K
  simp only [Act.put, List.setIfInBounds_toArray, List.set_cons_succ, List.set_cons_zero]
  refine wpQuiet_take (by rfl) (fun K hK => ⟨.pointer (some ⟨w.heap.size, 10, none⟩), fun w2 hw2 => quiet_run (by kernel_rfl), hK _ ?_⟩)
  clear hK K
  simp only [Act.put, List.setIfInBounds_toArray, List.set_cons_succ, List.set_cons_zero]
  refine wpQuiet_take0 ?_
  intro w1 hq0
  have hq : Below w109.heap.size w109 w1 := (Below.refl _ _).drew.trans hq0
  clear hq0
  have RLn := below_row hq (lt_row RL.out) RL.out
  refine wpList_store_E (op := ⟨none, .store _ (.tmp 77) (.tmp 76), _, _, _, _⟩) rfl (.tmp 77) (.tmp 76) rfl w.heap.size 10 Z2 rfl rfl RLn (by omega) ⟨s.x1, X2, Z2, X3, Z3⟩ rfl ?_
  intro w110 S1
  have RA := Lib.hid (S1.keep (by have := GA.out; omega) (below_row hq (lt_row RA.out) RA.out))
  have RB := Lib.hid (S1.keep (by have := GB.out; omega) (below_row hq (lt_row RB.out) RB.out))
  have RAA := Lib.hid (S1.keep (by have := GAA.out; omega) (below_row hq (lt_row RAA.out) RAA.out))
  have RBB := Lib.hid (S1.keep (by have := GBB.out; omega) (below_row hq (lt_row RBB.out) RBB.out))
  have RE := Lib.hid (S1.keep (by have := GE.out; omega) (below_row hq (lt_row RE.out) RE.out))
  have RC := Lib.hid (S1.keep (by have := GC.out; omega) (below_row hq (lt_row RC.out) RC.out))
  have RD := Lib.hid (S1.keep (by have := GD.out; omega) (below_row hq (lt_row RD.out) RD.out))
  have RDA := Lib.hid (S1.keep (by have := GDA.out; omega) (below_row hq (lt_row RDA.out) RDA.out))
  have RCB := Lib.hid (S1.keep (by have := GCB.out; omega) (below_row hq (lt_row RCB.out) RCB.out))
  have RSU := Lib.hid (S1.keep (by have := GSU.out; omega) (below_row hq (lt_row RSU.out) RSU.out))
  have RDI := Lib.hid (S1.keep (by have := GDI.out; omega) (below_row hq (lt_row RDI.out) RDI.out))
  have R1 := Lib.hid (S1.keep (by omega) (below_row hq (lt_row R1.out) R1.out))
  have RL := Lib.hid S1.row
  have BEL := Lib.hid ((BEL.out.trans (hq.mono BEL.out.size)).trans (S1.below _ (Nat.le_refl _)))
  clear S1 hq RLn
  go_upto_region 11 with (fail)
  go_wp2_with (first
    | ((with_reducible refine wpList_load_row (o := ⟨some 78, .load 42 (.tmp 1), _, _, _, _⟩) ?_ 42 (.tmp 1) ?_ w.heap.size ?_ _ _ (0, 0) _ RL.out Try.underlying42 ?_ ?_ ?_); (focus rfl); (focus rfl); (focus rfl); (focus rfl); (focus kernel_rfl))
    | ((with_reducible refine wpList_store_row (op := ⟨none, .store 42 (.tmp 2) (.tmp 78), _, _, _, _⟩) ?_ 42 (.tmp 2) (.tmp 78) ?_ (w.heap.size + 1) _ _ (L5.mk s.x1 X2 Z2 X3 Z3).cells ?_ ?_ R1.out ?_ ?_ (L5.one _) ?_); (focus rfl); (focus rfl); (focus rfl); (focus rfl); (focus rfl); (focus kernel_rfl); intro w6 S5))
  exact ret_row (w.heap.size + 1) _ 42 (L5.mk s.x1 X2 Z2 X3 Z3).cells rfl _ rfl S5.row Try.underlying42 rfl (by kernel_rfl) rfl ⟨rfl, BEL.out.trans (S5.below _ (by omega))⟩
end Go.Proofs.Ytmfiabkhnoimhaa
