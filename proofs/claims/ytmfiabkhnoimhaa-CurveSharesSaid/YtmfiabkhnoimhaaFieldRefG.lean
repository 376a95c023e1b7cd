/-
  field's Swap.
-/
import Derived.Test.YtmfiabkhnoimhaaFieldRefF
import Derived.Laws.Rows
namespace Go.Proofs.Ytmfiabkhnoimhaa
open Go Go.RowKit Go.BigFrame
set_option linter.unusedVariables false
theorem sw1 (a b : BitVec 64) : a ^^^ ((a ^^^ b) &&& 18446744073709551615#64) = b := by
  have h : (18446744073709551615#64) = BitVec.allOnes 64 := by decide
  rw [h, BitVec.and_allOnes, ← BitVec.xor_assoc, BitVec.xor_self, BitVec.zero_xor]
theorem sw2 (a b : BitVec 64) : b ^^^ ((a ^^^ b) &&& 18446744073709551615#64) = a := by
  rw [BitVec.xor_comm a b]; exact sw1 b a
theorem sw0 (a b : BitVec 64) : a ^^^ (b &&& 0#64) = a := by simp
theorem results_cell_two {P : Program} {fn : Func} {p p1 : Tmp} {ty : TypeId} (h : fn.results = #[.cell p ty, .cell p1 ty]) (tmps : Array Value) (w : World) (g g1 : Nat) (t : TypeId) (cs cs1 : Array Value) (fr : Nat × Nat) (d : TypeDesc)
    (hp : tmps.getD p undef = .pointer (some ⟨g, 0, none⟩)) (hg : w.heap[g]? = some (.cells cs t fr)) (hp1 : tmps.getD p1 undef = .pointer (some ⟨g1, 0, none⟩)) (hg1 : w.heap[g1]? = some (.cells cs1 t fr))
    (hu : P.underlying ty = some d) (hd : (match d with | .struct _ | .array _ _ => true | _ => false) = true) (hi : (P.info? ty).map (·.size) = some cs.size) (hi1 : (P.info? ty).map (·.size) = some cs1.size) :
    (results fn tmps).run P w = .ok (.tuple #[.agg cs, .agg cs1]) w := by
  have hp' : tmps[p]?.getD undef = .pointer (some ⟨g, 0, none⟩) := by simpa using hp
  have hp1' : tmps[p1]?.getD undef = .pointer (some ⟨g1, 0, none⟩) := by simpa using hp1
  simp [results, h, hp', hp1', asAddr, run_loadVar_row w g t ty cs fr d hg hu hd hi, run_loadVar_row w g1 t ty cs1 fr d hg1 hu hd hi1]
set_option maxHeartbeats 8000000 in
set_option maxRecDepth 100000 in
theorem swapE_true (x y : E5) (w : World) :
    Calls Try.prog 28 #[.bool true, x.v, y.v] w fun e w' => e = .returned (.tuple #[y.v, x.v]) ∧ Below w.heap.size w w' := by
  rw [E5.v_eq x, E5.v_eq y]
  have s1 := sw1
  have s2 := sw2
  have hneg : IntKind.u64.wrap (-1) = 18446744073709551615 := by decide
  go_enter Try.func28, Try.ntmps28
  go_wp2
  refine wp_loop_rounds 6 ?_
  iterate 5
    (rw [rounds_succ]
     go_wp2)
  rw [rounds_succ]
  go_wp2_with fail
  go_region
  go_wp2_with fail
  have R2 : ((((w.alloc (.cells y.cells 40)).alloc (.cells x.cells 40)).alloc (.cells y.cells 40)).alloc (.cells x.cells 40)).heap[w.heap.size + 1 + 1]? = some (.cells y.cells 40 (0, 0)) := rows_alloc w [_, _, _, _] 2
  have R3 : ((((w.alloc (.cells y.cells 40)).alloc (.cells x.cells 40)).alloc (.cells y.cells 40)).alloc (.cells x.cells 40)).heap[w.heap.size + 1 + 1 + 1]? = some (.cells x.cells 40 (0, 0)) := rows_alloc w [_, _, _, _] 3
  have hb : Below w.heap.size w ((((w.alloc (.cells y.cells 40)).alloc (.cells x.cells 40)).alloc (.cells y.cells 40)).alloc (.cells x.cells 40)) := by repeat (first | exact Below.refl _ _ | refine Below.alloc ?_ (by simp; try omega) _)
  exact bodyPost_ret (v := .tuple #[y.v, x.v]) (results_cell_two (p := 6) (p1 := 7) rfl _ _ (w.heap.size + 1 + 1) (w.heap.size + 1 + 1 + 1) 40 y.cells x.cells (0, 0) _ rfl R2 rfl R3 Try.underlying40 rfl (by kernel_rfl) (by kernel_rfl)) rfl ⟨rfl, hb.drew⟩
set_option maxHeartbeats 8000000 in
set_option maxRecDepth 100000 in
theorem swapE_false (x y : E5) (w : World) :
    Calls Try.prog 28 #[.bool false, x.v, y.v] w fun e w' => e = .returned (.tuple #[x.v, y.v]) ∧ Below w.heap.size w w' := by
  rw [E5.v_eq x, E5.v_eq y]
  have s1 := sw0
  go_enter Try.func28, Try.ntmps28
  go_wp2
  refine wp_loop_rounds 6 ?_
  iterate 5
    (rw [rounds_succ]
     go_wp2)
  rw [rounds_succ]
  go_wp2_with fail
  go_region
  go_wp2_with fail
  have R2 : ((((w.alloc (.cells x.cells 40)).alloc (.cells y.cells 40)).alloc (.cells x.cells 40)).alloc (.cells y.cells 40)).heap[w.heap.size + 1 + 1]? = some (.cells x.cells 40 (0, 0)) := rows_alloc w [_, _, _, _] 2
  have R3 : ((((w.alloc (.cells x.cells 40)).alloc (.cells y.cells 40)).alloc (.cells x.cells 40)).alloc (.cells y.cells 40)).heap[w.heap.size + 1 + 1 + 1]? = some (.cells y.cells 40 (0, 0)) := rows_alloc w [_, _, _, _] 3
  have hb : Below w.heap.size w ((((w.alloc (.cells x.cells 40)).alloc (.cells y.cells 40)).alloc (.cells x.cells 40)).alloc (.cells y.cells 40)) := by repeat (first | exact Below.refl _ _ | refine Below.alloc ?_ (by simp; try omega) _)
  exact bodyPost_ret (v := .tuple #[x.v, y.v]) (results_cell_two (p := 6) (p1 := 7) rfl _ _ (w.heap.size + 1 + 1) (w.heap.size + 1 + 1 + 1) 40 x.cells y.cells (0, 0) _ rfl R2 rfl R3 Try.underlying40 rfl (by kernel_rfl) (by kernel_rfl)) rfl ⟨rfl, hb.drew⟩
end Go.Proofs.Ytmfiabkhnoimhaa
