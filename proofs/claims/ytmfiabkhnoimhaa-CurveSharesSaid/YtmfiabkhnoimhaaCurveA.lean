/-
  THE CALLS OF PACKAGE curve, FIRST PART: a ladder's row of five numbers; parts of it; clamped, a24, start.
-/
import Derived.Test.YtmfiabkhnoimhaaFieldRefG
import Derived.Test.YtmfiabkhnoimhaaNew
import Derived.Test.YtmfiabkhnoimhaaCurveM
import Derived.Deep.MidRow
import Derived.Deep.Cut
namespace Go.Proofs.Ytmfiabkhnoimhaa
open Go Go.RowKit Go.BigFrame
set_option linter.unusedVariables false
structure L5 where
  x1 : E5
  x2 : E5
  z2 : E5
  x3 : E5
  z3 : E5
namespace L5
def cells (s : L5) : Array Value := #[.int .u64 (n64 s.x1.a), .int .u64 (n64 s.x1.b), .int .u64 (n64 s.x1.c), .int .u64 (n64 s.x1.d), .int .u64 (n64 s.x1.e), .int .u64 (n64 s.x2.a), .int .u64 (n64 s.x2.b), .int .u64 (n64 s.x2.c), .int .u64 (n64 s.x2.d), .int .u64 (n64 s.x2.e), .int .u64 (n64 s.z2.a), .int .u64 (n64 s.z2.b), .int .u64 (n64 s.z2.c), .int .u64 (n64 s.z2.d), .int .u64 (n64 s.z2.e), .int .u64 (n64 s.x3.a), .int .u64 (n64 s.x3.b), .int .u64 (n64 s.x3.c), .int .u64 (n64 s.x3.d), .int .u64 (n64 s.x3.e), .int .u64 (n64 s.z3.a), .int .u64 (n64 s.z3.b), .int .u64 (n64 s.z3.c), .int .u64 (n64 s.z3.d), .int .u64 (n64 s.z3.e)]
def v (s : L5) : Value := .agg s.cells
theorem size (s : L5) : s.cells.size = 25 := rfl
theorem one (s : L5) : s.cells.all (·.oneCell') = true := by kernel_rfl
end L5
theorem E5.one (x : E5) : x.cells.all (·.oneCell') = true := by kernel_rfl
theorem L5.range1 {w : World} {B : Nat} {T : TypeId} {s : L5} (h : w.heap[B]? = some (.cells s.cells T (0, 0))) : w.rangeAt B 0 s.x1.cells.toList := World.rangeAt_of_block h 0 5
theorem L5.range2 {w : World} {B : Nat} {T : TypeId} {s : L5} (h : w.heap[B]? = some (.cells s.cells T (0, 0))) : w.rangeAt B 5 s.x2.cells.toList := World.rangeAt_of_block h 5 5
theorem L5.range3 {w : World} {B : Nat} {T : TypeId} {s : L5} (h : w.heap[B]? = some (.cells s.cells T (0, 0))) : w.rangeAt B 10 s.z2.cells.toList := World.rangeAt_of_block h 10 5
theorem L5.range4 {w : World} {B : Nat} {T : TypeId} {s : L5} (h : w.heap[B]? = some (.cells s.cells T (0, 0))) : w.rangeAt B 15 s.x3.cells.toList := World.rangeAt_of_block h 15 5
theorem L5.range5 {w : World} {B : Nat} {T : TypeId} {s : L5} (h : w.heap[B]? = some (.cells s.cells T (0, 0))) : w.rangeAt B 20 s.z3.cells.toList := World.rangeAt_of_block h 20 5
theorem L5.there {w : World} {B : Nat} {T : TypeId} {s : L5} (h : w.heap[B]? = some (.cells s.cells T (0, 0))) (o : Nat) (ho : o + 5 ≤ 25) : w.there B o 5 := fun j hj => by
  rw [cell_of_row _ _ _ _ _ _ h]
  refine ⟨?_, frozen_of_row _ _ _ _ _ h⟩
  rw [Array.getElem?_eq_getElem (by rw [L5.size]; omega)]; rfl
theorem L5.store {w : World} {B : Nat} {T : TypeId} {s : L5} (h : w.heap[B]? = some (.cells s.cells T (0, 0))) (o : Nat) (x : E5) (t : L5)
    (ht : (((((s.cells.setIfInBounds o (.int .u64 (n64 x.a))).setIfInBounds (o + 1) (.int .u64 (n64 x.b))).setIfInBounds (o + 1 + 1) (.int .u64 (n64 x.c))).setIfInBounds (o + 1 + 1 + 1) (.int .u64 (n64 x.d))).setIfInBounds (o + 1 + 1 + 1 + 1) (.int .u64 (n64 x.e))) = t.cells) :
    RowSet w B T t.cells (w.setCells B o x.cells.toList) := by
  refine ⟨?_, fun k hk => setCells_other B k hk _ _ _, setCells_size B _ _ _, fun b hb => setCells_below b B hb _ _ _ _ (Below.refl _ _)⟩
  rw [← ht]
  exact heap_setCell_same _ _ _ _ _ _ (heap_setCell_same _ _ _ _ _ _ (heap_setCell_same _ _ _ _ _ _ (heap_setCell_same _ _ _ _ _ _ (heap_setCell_same _ _ _ _ _ _ h))))
theorem quiet_load_mid {P : Program} {C : World → Prop} {o : Oper} {a : Act} {w : World} (ty : TypeId) (x : Operand) (ho : o.op = .load ty x)
    (b k : Nat) (hx : a.eval x = .pointer (some ⟨b, k, none⟩)) (cs : List Value) (d : TypeDesc) (hc : w.rangeAt b k cs)
    (hu : P.underlying ty = some d) (hd : d.isRow = true) (hi : (P.info? ty).map (·.size) = some cs.length) : o.quietAt P a C w (.agg cs.toArray) := by
  have h : (execOp a.eval o).run P w = .ok (.value (.agg cs.toArray)) w := by
    unfold execOp
    simp only [ho, hx, Instr.loadAt, Instr.sureAddr, Sem.run_bind, Sem.run_pure, Result.andThen_ok, run_loadVar_mid w b k ty cs d hc hu hd hi]
  unfold Oper.quietAt
  rw [h]
  exact ⟨rfl, rfl⟩
end Go.Proofs.Ytmfiabkhnoimhaa
