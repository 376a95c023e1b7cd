/-
  THE DOCUMENT's turn and keys (rhyneref01).
-/
import Derived.Test.YtebhhonmpoeliaaDoorShaC
import Derived.Test.YtebhhonmpoeliaaDoorShaD
import Derived.Test.YtebhhonmpoeliaaDoorStr
namespace Go.Proofs.YtebhhonmpoeliaaDoor
open Go Go.RowKit Go.BigFrame
set_option linter.unusedSimpArgs false
set_option linter.unusedVariables false
theorem rturn2 (x : BitVec 32) (w : World) : Calls Tryd.prog 36 #[.int .u32 (n32 x), .int .i64 2] w fun e w' => e = .returned (.int .u32 (n32 (rotR x 2))) ∧ Below w.heap.size w w' ∧ w'.heap = w.heap := by
  go_enter Tryd.func36, Tryd.ntmps36
  go_upto_region 1 with fail
  refine region_class1 8 (fun w2 => w2.heap = w.heap ∧ Below w.heap.size w w2) mixedOrders (by kernel_rfl) ⟨rfl, (Below.refl _ _).drew⟩ rfl ?_
  refine wpQuiet_take (by rfl) (fun K hK => ⟨.int .u32 (n32 (x)), fun w2' hw2 => ?_, hK _ ?_⟩)
  · clear hw2; go_simp
  clear hK K
  simp only [Act.put, List.setIfInBounds_toArray, List.set_cons_succ, List.set_cons_zero]
  refine wpQuiet_take (by rfl) (fun K hK => ⟨.int .i64 2, fun w2' hw2 => ?_, hK _ ?_⟩)
  · clear hw2; go_simp
  clear hK K
  simp only [Act.put, List.setIfInBounds_toArray, List.set_cons_succ, List.set_cons_zero]
  refine wpQuiet_take (by rfl) (fun K hK => ⟨.int .u32 (n32 (x >>> 2)), fun w2' hw2 => ?_, hK _ ?_⟩)
  · clear hw2; go_simp
  clear hK K
  simp only [Act.put, List.setIfInBounds_toArray, List.set_cons_succ, List.set_cons_zero]
  refine wpQuiet_take (by rfl) (fun K hK => ⟨.int .u32 (n32 (x)), fun w2' hw2 => ?_, hK _ ?_⟩)
  · clear hw2; go_simp
  clear hK K
  simp only [Act.put, List.setIfInBounds_toArray, List.set_cons_succ, List.set_cons_zero]
  refine wpQuiet_take (by rfl) (fun K hK => ⟨.int .i64 2, fun w2' hw2 => ?_, hK _ ?_⟩)
  · clear hw2; go_simp
  clear hK K
  simp only [Act.put, List.setIfInBounds_toArray, List.set_cons_succ, List.set_cons_zero]
  refine wpQuiet_take (by rfl) (fun K hK => ⟨.int .i64 30, fun w2' hw2 => ?_, hK _ ?_⟩)
  · clear hw2; go_simp
    try kernel_rfl
  clear hK K
  simp only [Act.put, List.setIfInBounds_toArray, List.set_cons_succ, List.set_cons_zero]
  refine wpQuiet_take (by rfl) (fun K hK => ⟨.int .u32 (n32 (x <<< 30)), fun w2' hw2 => ?_, hK _ ?_⟩)
  · clear hw2; go_simp
  clear hK K
  simp only [Act.put, List.setIfInBounds_toArray, List.set_cons_succ, List.set_cons_zero]
  refine wpQuiet_take (by rfl) (fun K hK => ⟨.int .u32 (n32 (x >>> 2 ||| x <<< 30)), fun w2' hw2 => ?_, hK _ ?_⟩)
  · clear hw2; go_simp
  clear hK K
  simp only [Act.put, List.setIfInBounds_toArray, List.set_cons_succ, List.set_cons_zero]
  refine wpQuiet_take0 ?_
  intro w2 hw2
  have H2 := Lib.hid hw2
  clear hw2
  go_wp2_with fail
  go_ret
  exact ⟨rfl, H2.out.2, H2.out.1⟩
theorem rturn6 (x : BitVec 32) (w : World) : Calls Tryd.prog 36 #[.int .u32 (n32 x), .int .i64 6] w fun e w' => e = .returned (.int .u32 (n32 (rotR x 6))) ∧ Below w.heap.size w w' ∧ w'.heap = w.heap := by
  go_enter Tryd.func36, Tryd.ntmps36
  go_upto_region 1 with fail
  refine region_class1 8 (fun w2 => w2.heap = w.heap ∧ Below w.heap.size w w2) mixedOrders (by kernel_rfl) ⟨rfl, (Below.refl _ _).drew⟩ rfl ?_
  refine wpQuiet_take (by rfl) (fun K hK => ⟨.int .u32 (n32 (x)), fun w2' hw2 => ?_, hK _ ?_⟩)
  · clear hw2; go_simp
  clear hK K
  simp only [Act.put, List.setIfInBounds_toArray, List.set_cons_succ, List.set_cons_zero]
  refine wpQuiet_take (by rfl) (fun K hK => ⟨.int .i64 6, fun w2' hw2 => ?_, hK _ ?_⟩)
  · clear hw2; go_simp
  clear hK K
  simp only [Act.put, List.setIfInBounds_toArray, List.set_cons_succ, List.set_cons_zero]
  refine wpQuiet_take (by rfl) (fun K hK => ⟨.int .u32 (n32 (x >>> 6)), fun w2' hw2 => ?_, hK _ ?_⟩)
  · clear hw2; go_simp
  clear hK K
  simp only [Act.put, List.setIfInBounds_toArray, List.set_cons_succ, List.set_cons_zero]
  refine wpQuiet_take (by rfl) (fun K hK => ⟨.int .u32 (n32 (x)), fun w2' hw2 => ?_, hK _ ?_⟩)
  · clear hw2; go_simp
  clear hK K
  simp only [Act.put, List.setIfInBounds_toArray, List.set_cons_succ, List.set_cons_zero]
  refine wpQuiet_take (by rfl) (fun K hK => ⟨.int .i64 6, fun w2' hw2 => ?_, hK _ ?_⟩)
  · clear hw2; go_simp
  clear hK K
  simp only [Act.put, List.setIfInBounds_toArray, List.set_cons_succ, List.set_cons_zero]
  refine wpQuiet_take (by rfl) (fun K hK => ⟨.int .i64 26, fun w2' hw2 => ?_, hK _ ?_⟩)
  · clear hw2; go_simp
    try kernel_rfl
  clear hK K
  simp only [Act.put, List.setIfInBounds_toArray, List.set_cons_succ, List.set_cons_zero]
  refine wpQuiet_take (by rfl) (fun K hK => ⟨.int .u32 (n32 (x <<< 26)), fun w2' hw2 => ?_, hK _ ?_⟩)
  · clear hw2; go_simp
  clear hK K
  simp only [Act.put, List.setIfInBounds_toArray, List.set_cons_succ, List.set_cons_zero]
  refine wpQuiet_take (by rfl) (fun K hK => ⟨.int .u32 (n32 (x >>> 6 ||| x <<< 26)), fun w2' hw2 => ?_, hK _ ?_⟩)
  · clear hw2; go_simp
  clear hK K
  simp only [Act.put, List.setIfInBounds_toArray, List.set_cons_succ, List.set_cons_zero]
  refine wpQuiet_take0 ?_
  intro w2 hw2
  have H2 := Lib.hid hw2
  clear hw2
  go_wp2_with fail
  go_ret
  exact ⟨rfl, H2.out.2, H2.out.1⟩
theorem rturn7 (x : BitVec 32) (w : World) : Calls Tryd.prog 36 #[.int .u32 (n32 x), .int .i64 7] w fun e w' => e = .returned (.int .u32 (n32 (rotR x 7))) ∧ Below w.heap.size w w' ∧ w'.heap = w.heap := by
  go_enter Tryd.func36, Tryd.ntmps36
  go_upto_region 1 with fail
  refine region_class1 8 (fun w2 => w2.heap = w.heap ∧ Below w.heap.size w w2) mixedOrders (by kernel_rfl) ⟨rfl, (Below.refl _ _).drew⟩ rfl ?_
  refine wpQuiet_take (by rfl) (fun K hK => ⟨.int .u32 (n32 (x)), fun w2' hw2 => ?_, hK _ ?_⟩)
  · clear hw2; go_simp
  clear hK K
  simp only [Act.put, List.setIfInBounds_toArray, List.set_cons_succ, List.set_cons_zero]
  refine wpQuiet_take (by rfl) (fun K hK => ⟨.int .i64 7, fun w2' hw2 => ?_, hK _ ?_⟩)
  · clear hw2; go_simp
  clear hK K
  simp only [Act.put, List.setIfInBounds_toArray, List.set_cons_succ, List.set_cons_zero]
  refine wpQuiet_take (by rfl) (fun K hK => ⟨.int .u32 (n32 (x >>> 7)), fun w2' hw2 => ?_, hK _ ?_⟩)
  · clear hw2; go_simp
  clear hK K
  simp only [Act.put, List.setIfInBounds_toArray, List.set_cons_succ, List.set_cons_zero]
  refine wpQuiet_take (by rfl) (fun K hK => ⟨.int .u32 (n32 (x)), fun w2' hw2 => ?_, hK _ ?_⟩)
  · clear hw2; go_simp
  clear hK K
  simp only [Act.put, List.setIfInBounds_toArray, List.set_cons_succ, List.set_cons_zero]
  refine wpQuiet_take (by rfl) (fun K hK => ⟨.int .i64 7, fun w2' hw2 => ?_, hK _ ?_⟩)
  · clear hw2; go_simp
  clear hK K
  simp only [Act.put, List.setIfInBounds_toArray, List.set_cons_succ, List.set_cons_zero]
  refine wpQuiet_take (by rfl) (fun K hK => ⟨.int .i64 25, fun w2' hw2 => ?_, hK _ ?_⟩)
  · clear hw2; go_simp
    try kernel_rfl
  clear hK K
  simp only [Act.put, List.setIfInBounds_toArray, List.set_cons_succ, List.set_cons_zero]
  refine wpQuiet_take (by rfl) (fun K hK => ⟨.int .u32 (n32 (x <<< 25)), fun w2' hw2 => ?_, hK _ ?_⟩)
  · clear hw2; go_simp
  clear hK K
  simp only [Act.put, List.setIfInBounds_toArray, List.set_cons_succ, List.set_cons_zero]
  refine wpQuiet_take (by rfl) (fun K hK => ⟨.int .u32 (n32 (x >>> 7 ||| x <<< 25)), fun w2' hw2 => ?_, hK _ ?_⟩)
  · clear hw2; go_simp
  clear hK K
  simp only [Act.put, List.setIfInBounds_toArray, List.set_cons_succ, List.set_cons_zero]
  refine wpQuiet_take0 ?_
  intro w2 hw2
  have H2 := Lib.hid hw2
  clear hw2
  go_wp2_with fail
  go_ret
  exact ⟨rfl, H2.out.2, H2.out.1⟩
theorem rturn11 (x : BitVec 32) (w : World) : Calls Tryd.prog 36 #[.int .u32 (n32 x), .int .i64 11] w fun e w' => e = .returned (.int .u32 (n32 (rotR x 11))) ∧ Below w.heap.size w w' ∧ w'.heap = w.heap := by
  go_enter Tryd.func36, Tryd.ntmps36
  go_upto_region 1 with fail
  refine region_class1 8 (fun w2 => w2.heap = w.heap ∧ Below w.heap.size w w2) mixedOrders (by kernel_rfl) ⟨rfl, (Below.refl _ _).drew⟩ rfl ?_
  refine wpQuiet_take (by rfl) (fun K hK => ⟨.int .u32 (n32 (x)), fun w2' hw2 => ?_, hK _ ?_⟩)
  · clear hw2; go_simp
  clear hK K
  simp only [Act.put, List.setIfInBounds_toArray, List.set_cons_succ, List.set_cons_zero]
  refine wpQuiet_take (by rfl) (fun K hK => ⟨.int .i64 11, fun w2' hw2 => ?_, hK _ ?_⟩)
  · clear hw2; go_simp
  clear hK K
  simp only [Act.put, List.setIfInBounds_toArray, List.set_cons_succ, List.set_cons_zero]
  refine wpQuiet_take (by rfl) (fun K hK => ⟨.int .u32 (n32 (x >>> 11)), fun w2' hw2 => ?_, hK _ ?_⟩)
  · clear hw2; go_simp
  clear hK K
  simp only [Act.put, List.setIfInBounds_toArray, List.set_cons_succ, List.set_cons_zero]
  refine wpQuiet_take (by rfl) (fun K hK => ⟨.int .u32 (n32 (x)), fun w2' hw2 => ?_, hK _ ?_⟩)
  · clear hw2; go_simp
  clear hK K
  simp only [Act.put, List.setIfInBounds_toArray, List.set_cons_succ, List.set_cons_zero]
  refine wpQuiet_take (by rfl) (fun K hK => ⟨.int .i64 11, fun w2' hw2 => ?_, hK _ ?_⟩)
  · clear hw2; go_simp
  clear hK K
  simp only [Act.put, List.setIfInBounds_toArray, List.set_cons_succ, List.set_cons_zero]
  refine wpQuiet_take (by rfl) (fun K hK => ⟨.int .i64 21, fun w2' hw2 => ?_, hK _ ?_⟩)
  · clear hw2; go_simp
    try kernel_rfl
  clear hK K
  simp only [Act.put, List.setIfInBounds_toArray, List.set_cons_succ, List.set_cons_zero]
  refine wpQuiet_take (by rfl) (fun K hK => ⟨.int .u32 (n32 (x <<< 21)), fun w2' hw2 => ?_, hK _ ?_⟩)
  · clear hw2; go_simp
  clear hK K
  simp only [Act.put, List.setIfInBounds_toArray, List.set_cons_succ, List.set_cons_zero]
  refine wpQuiet_take (by rfl) (fun K hK => ⟨.int .u32 (n32 (x >>> 11 ||| x <<< 21)), fun w2' hw2 => ?_, hK _ ?_⟩)
  · clear hw2; go_simp
  clear hK K
  simp only [Act.put, List.setIfInBounds_toArray, List.set_cons_succ, List.set_cons_zero]
  refine wpQuiet_take0 ?_
  intro w2 hw2
  have H2 := Lib.hid hw2
  clear hw2
  go_wp2_with fail
  go_ret
  exact ⟨rfl, H2.out.2, H2.out.1⟩
theorem rturn13 (x : BitVec 32) (w : World) : Calls Tryd.prog 36 #[.int .u32 (n32 x), .int .i64 13] w fun e w' => e = .returned (.int .u32 (n32 (rotR x 13))) ∧ Below w.heap.size w w' ∧ w'.heap = w.heap := by
  go_enter Tryd.func36, Tryd.ntmps36
  go_upto_region 1 with fail
  refine region_class1 8 (fun w2 => w2.heap = w.heap ∧ Below w.heap.size w w2) mixedOrders (by kernel_rfl) ⟨rfl, (Below.refl _ _).drew⟩ rfl ?_
  refine wpQuiet_take (by rfl) (fun K hK => ⟨.int .u32 (n32 (x)), fun w2' hw2 => ?_, hK _ ?_⟩)
  · clear hw2; go_simp
  clear hK K
  simp only [Act.put, List.setIfInBounds_toArray, List.set_cons_succ, List.set_cons_zero]
  refine wpQuiet_take (by rfl) (fun K hK => ⟨.int .i64 13, fun w2' hw2 => ?_, hK _ ?_⟩)
  · clear hw2; go_simp
  clear hK K
  simp only [Act.put, List.setIfInBounds_toArray, List.set_cons_succ, List.set_cons_zero]
  refine wpQuiet_take (by rfl) (fun K hK => ⟨.int .u32 (n32 (x >>> 13)), fun w2' hw2 => ?_, hK _ ?_⟩)
  · clear hw2; go_simp
  clear hK K
  simp only [Act.put, List.setIfInBounds_toArray, List.set_cons_succ, List.set_cons_zero]
  refine wpQuiet_take (by rfl) (fun K hK => ⟨.int .u32 (n32 (x)), fun w2' hw2 => ?_, hK _ ?_⟩)
  · clear hw2; go_simp
  clear hK K
  simp only [Act.put, List.setIfInBounds_toArray, List.set_cons_succ, List.set_cons_zero]
  refine wpQuiet_take (by rfl) (fun K hK => ⟨.int .i64 13, fun w2' hw2 => ?_, hK _ ?_⟩)
  · clear hw2; go_simp
  clear hK K
  simp only [Act.put, List.setIfInBounds_toArray, List.set_cons_succ, List.set_cons_zero]
  refine wpQuiet_take (by rfl) (fun K hK => ⟨.int .i64 19, fun w2' hw2 => ?_, hK _ ?_⟩)
  · clear hw2; go_simp
    try kernel_rfl
  clear hK K
  simp only [Act.put, List.setIfInBounds_toArray, List.set_cons_succ, List.set_cons_zero]
  refine wpQuiet_take (by rfl) (fun K hK => ⟨.int .u32 (n32 (x <<< 19)), fun w2' hw2 => ?_, hK _ ?_⟩)
  · clear hw2; go_simp
  clear hK K
  simp only [Act.put, List.setIfInBounds_toArray, List.set_cons_succ, List.set_cons_zero]
  refine wpQuiet_take (by rfl) (fun K hK => ⟨.int .u32 (n32 (x >>> 13 ||| x <<< 19)), fun w2' hw2 => ?_, hK _ ?_⟩)
  · clear hw2; go_simp
  clear hK K
  simp only [Act.put, List.setIfInBounds_toArray, List.set_cons_succ, List.set_cons_zero]
  refine wpQuiet_take0 ?_
  intro w2 hw2
  have H2 := Lib.hid hw2
  clear hw2
  go_wp2_with fail
  go_ret
  exact ⟨rfl, H2.out.2, H2.out.1⟩
theorem rturn17 (x : BitVec 32) (w : World) : Calls Tryd.prog 36 #[.int .u32 (n32 x), .int .i64 17] w fun e w' => e = .returned (.int .u32 (n32 (rotR x 17))) ∧ Below w.heap.size w w' ∧ w'.heap = w.heap := by
  go_enter Tryd.func36, Tryd.ntmps36
  go_upto_region 1 with fail
  refine region_class1 8 (fun w2 => w2.heap = w.heap ∧ Below w.heap.size w w2) mixedOrders (by kernel_rfl) ⟨rfl, (Below.refl _ _).drew⟩ rfl ?_
  refine wpQuiet_take (by rfl) (fun K hK => ⟨.int .u32 (n32 (x)), fun w2' hw2 => ?_, hK _ ?_⟩)
  · clear hw2; go_simp
  clear hK K
  simp only [Act.put, List.setIfInBounds_toArray, List.set_cons_succ, List.set_cons_zero]
  refine wpQuiet_take (by rfl) (fun K hK => ⟨.int .i64 17, fun w2' hw2 => ?_, hK _ ?_⟩)
  · clear hw2; go_simp
  clear hK K
  simp only [Act.put, List.setIfInBounds_toArray, List.set_cons_succ, List.set_cons_zero]
  refine wpQuiet_take (by rfl) (fun K hK => ⟨.int .u32 (n32 (x >>> 17)), fun w2' hw2 => ?_, hK _ ?_⟩)
  · clear hw2; go_simp
  clear hK K
  simp only [Act.put, List.setIfInBounds_toArray, List.set_cons_succ, List.set_cons_zero]
  refine wpQuiet_take (by rfl) (fun K hK => ⟨.int .u32 (n32 (x)), fun w2' hw2 => ?_, hK _ ?_⟩)
  · clear hw2; go_simp
  clear hK K
  simp only [Act.put, List.setIfInBounds_toArray, List.set_cons_succ, List.set_cons_zero]
  refine wpQuiet_take (by rfl) (fun K hK => ⟨.int .i64 17, fun w2' hw2 => ?_, hK _ ?_⟩)
  · clear hw2; go_simp
  clear hK K
  simp only [Act.put, List.setIfInBounds_toArray, List.set_cons_succ, List.set_cons_zero]
  refine wpQuiet_take (by rfl) (fun K hK => ⟨.int .i64 15, fun w2' hw2 => ?_, hK _ ?_⟩)
  · clear hw2; go_simp
    try kernel_rfl
  clear hK K
  simp only [Act.put, List.setIfInBounds_toArray, List.set_cons_succ, List.set_cons_zero]
  refine wpQuiet_take (by rfl) (fun K hK => ⟨.int .u32 (n32 (x <<< 15)), fun w2' hw2 => ?_, hK _ ?_⟩)
  · clear hw2; go_simp
  clear hK K
  simp only [Act.put, List.setIfInBounds_toArray, List.set_cons_succ, List.set_cons_zero]
  refine wpQuiet_take (by rfl) (fun K hK => ⟨.int .u32 (n32 (x >>> 17 ||| x <<< 15)), fun w2' hw2 => ?_, hK _ ?_⟩)
  · clear hw2; go_simp
  clear hK K
  simp only [Act.put, List.setIfInBounds_toArray, List.set_cons_succ, List.set_cons_zero]
  refine wpQuiet_take0 ?_
  intro w2 hw2
  have H2 := Lib.hid hw2
  clear hw2
  go_wp2_with fail
  go_ret
  exact ⟨rfl, H2.out.2, H2.out.1⟩
theorem rturn18 (x : BitVec 32) (w : World) : Calls Tryd.prog 36 #[.int .u32 (n32 x), .int .i64 18] w fun e w' => e = .returned (.int .u32 (n32 (rotR x 18))) ∧ Below w.heap.size w w' ∧ w'.heap = w.heap := by
  go_enter Tryd.func36, Tryd.ntmps36
  go_upto_region 1 with fail
  refine region_class1 8 (fun w2 => w2.heap = w.heap ∧ Below w.heap.size w w2) mixedOrders (by kernel_rfl) ⟨rfl, (Below.refl _ _).drew⟩ rfl ?_
  refine wpQuiet_take (by rfl) (fun K hK => ⟨.int .u32 (n32 (x)), fun w2' hw2 => ?_, hK _ ?_⟩)
  · clear hw2; go_simp
  clear hK K
  simp only [Act.put, List.setIfInBounds_toArray, List.set_cons_succ, List.set_cons_zero]
  refine wpQuiet_take (by rfl) (fun K hK => ⟨.int .i64 18, fun w2' hw2 => ?_, hK _ ?_⟩)
  · clear hw2; go_simp
  clear hK K
  simp only [Act.put, List.setIfInBounds_toArray, List.set_cons_succ, List.set_cons_zero]
  refine wpQuiet_take (by rfl) (fun K hK => ⟨.int .u32 (n32 (x >>> 18)), fun w2' hw2 => ?_, hK _ ?_⟩)
  · clear hw2; go_simp
  clear hK K
  simp only [Act.put, List.setIfInBounds_toArray, List.set_cons_succ, List.set_cons_zero]
  refine wpQuiet_take (by rfl) (fun K hK => ⟨.int .u32 (n32 (x)), fun w2' hw2 => ?_, hK _ ?_⟩)
  · clear hw2; go_simp
  clear hK K
  simp only [Act.put, List.setIfInBounds_toArray, List.set_cons_succ, List.set_cons_zero]
  refine wpQuiet_take (by rfl) (fun K hK => ⟨.int .i64 18, fun w2' hw2 => ?_, hK _ ?_⟩)
  · clear hw2; go_simp
  clear hK K
  simp only [Act.put, List.setIfInBounds_toArray, List.set_cons_succ, List.set_cons_zero]
  refine wpQuiet_take (by rfl) (fun K hK => ⟨.int .i64 14, fun w2' hw2 => ?_, hK _ ?_⟩)
  · clear hw2; go_simp
    try kernel_rfl
  clear hK K
  simp only [Act.put, List.setIfInBounds_toArray, List.set_cons_succ, List.set_cons_zero]
  refine wpQuiet_take (by rfl) (fun K hK => ⟨.int .u32 (n32 (x <<< 14)), fun w2' hw2 => ?_, hK _ ?_⟩)
  · clear hw2; go_simp
  clear hK K
  simp only [Act.put, List.setIfInBounds_toArray, List.set_cons_succ, List.set_cons_zero]
  refine wpQuiet_take (by rfl) (fun K hK => ⟨.int .u32 (n32 (x >>> 18 ||| x <<< 14)), fun w2' hw2 => ?_, hK _ ?_⟩)
  · clear hw2; go_simp
  clear hK K
  simp only [Act.put, List.setIfInBounds_toArray, List.set_cons_succ, List.set_cons_zero]
  refine wpQuiet_take0 ?_
  intro w2 hw2
  have H2 := Lib.hid hw2
  clear hw2
  go_wp2_with fail
  go_ret
  exact ⟨rfl, H2.out.2, H2.out.1⟩
theorem rturn19 (x : BitVec 32) (w : World) : Calls Tryd.prog 36 #[.int .u32 (n32 x), .int .i64 19] w fun e w' => e = .returned (.int .u32 (n32 (rotR x 19))) ∧ Below w.heap.size w w' ∧ w'.heap = w.heap := by
  go_enter Tryd.func36, Tryd.ntmps36
  go_upto_region 1 with fail
  refine region_class1 8 (fun w2 => w2.heap = w.heap ∧ Below w.heap.size w w2) mixedOrders (by kernel_rfl) ⟨rfl, (Below.refl _ _).drew⟩ rfl ?_
  refine wpQuiet_take (by rfl) (fun K hK => ⟨.int .u32 (n32 (x)), fun w2' hw2 => ?_, hK _ ?_⟩)
  · clear hw2; go_simp
  clear hK K
  simp only [Act.put, List.setIfInBounds_toArray, List.set_cons_succ, List.set_cons_zero]
  refine wpQuiet_take (by rfl) (fun K hK => ⟨.int .i64 19, fun w2' hw2 => ?_, hK _ ?_⟩)
  · clear hw2; go_simp
  clear hK K
  simp only [Act.put, List.setIfInBounds_toArray, List.set_cons_succ, List.set_cons_zero]
  refine wpQuiet_take (by rfl) (fun K hK => ⟨.int .u32 (n32 (x >>> 19)), fun w2' hw2 => ?_, hK _ ?_⟩)
  · clear hw2; go_simp
  clear hK K
  simp only [Act.put, List.setIfInBounds_toArray, List.set_cons_succ, List.set_cons_zero]
  refine wpQuiet_take (by rfl) (fun K hK => ⟨.int .u32 (n32 (x)), fun w2' hw2 => ?_, hK _ ?_⟩)
  · clear hw2; go_simp
  clear hK K
  simp only [Act.put, List.setIfInBounds_toArray, List.set_cons_succ, List.set_cons_zero]
  refine wpQuiet_take (by rfl) (fun K hK => ⟨.int .i64 19, fun w2' hw2 => ?_, hK _ ?_⟩)
  · clear hw2; go_simp
  clear hK K
  simp only [Act.put, List.setIfInBounds_toArray, List.set_cons_succ, List.set_cons_zero]
  refine wpQuiet_take (by rfl) (fun K hK => ⟨.int .i64 13, fun w2' hw2 => ?_, hK _ ?_⟩)
  · clear hw2; go_simp
    try kernel_rfl
  clear hK K
  simp only [Act.put, List.setIfInBounds_toArray, List.set_cons_succ, List.set_cons_zero]
  refine wpQuiet_take (by rfl) (fun K hK => ⟨.int .u32 (n32 (x <<< 13)), fun w2' hw2 => ?_, hK _ ?_⟩)
  · clear hw2; go_simp
  clear hK K
  simp only [Act.put, List.setIfInBounds_toArray, List.set_cons_succ, List.set_cons_zero]
  refine wpQuiet_take (by rfl) (fun K hK => ⟨.int .u32 (n32 (x >>> 19 ||| x <<< 13)), fun w2' hw2 => ?_, hK _ ?_⟩)
  · clear hw2; go_simp
  clear hK K
  simp only [Act.put, List.setIfInBounds_toArray, List.set_cons_succ, List.set_cons_zero]
  refine wpQuiet_take0 ?_
  intro w2 hw2
  have H2 := Lib.hid hw2
  clear hw2
  go_wp2_with fail
  go_ret
  exact ⟨rfl, H2.out.2, H2.out.1⟩
theorem rturn22 (x : BitVec 32) (w : World) : Calls Tryd.prog 36 #[.int .u32 (n32 x), .int .i64 22] w fun e w' => e = .returned (.int .u32 (n32 (rotR x 22))) ∧ Below w.heap.size w w' ∧ w'.heap = w.heap := by
  go_enter Tryd.func36, Tryd.ntmps36
  go_upto_region 1 with fail
  refine region_class1 8 (fun w2 => w2.heap = w.heap ∧ Below w.heap.size w w2) mixedOrders (by kernel_rfl) ⟨rfl, (Below.refl _ _).drew⟩ rfl ?_
  refine wpQuiet_take (by rfl) (fun K hK => ⟨.int .u32 (n32 (x)), fun w2' hw2 => ?_, hK _ ?_⟩)
  · clear hw2; go_simp
  clear hK K
  simp only [Act.put, List.setIfInBounds_toArray, List.set_cons_succ, List.set_cons_zero]
  refine wpQuiet_take (by rfl) (fun K hK => ⟨.int .i64 22, fun w2' hw2 => ?_, hK _ ?_⟩)
  · clear hw2; go_simp
  clear hK K
  simp only [Act.put, List.setIfInBounds_toArray, List.set_cons_succ, List.set_cons_zero]
  refine wpQuiet_take (by rfl) (fun K hK => ⟨.int .u32 (n32 (x >>> 22)), fun w2' hw2 => ?_, hK _ ?_⟩)
  · clear hw2; go_simp
  clear hK K
  simp only [Act.put, List.setIfInBounds_toArray, List.set_cons_succ, List.set_cons_zero]
  refine wpQuiet_take (by rfl) (fun K hK => ⟨.int .u32 (n32 (x)), fun w2' hw2 => ?_, hK _ ?_⟩)
  · clear hw2; go_simp
  clear hK K
  simp only [Act.put, List.setIfInBounds_toArray, List.set_cons_succ, List.set_cons_zero]
  refine wpQuiet_take (by rfl) (fun K hK => ⟨.int .i64 22, fun w2' hw2 => ?_, hK _ ?_⟩)
  · clear hw2; go_simp
  clear hK K
  simp only [Act.put, List.setIfInBounds_toArray, List.set_cons_succ, List.set_cons_zero]
  refine wpQuiet_take (by rfl) (fun K hK => ⟨.int .i64 10, fun w2' hw2 => ?_, hK _ ?_⟩)
  · clear hw2; go_simp
    try kernel_rfl
  clear hK K
  simp only [Act.put, List.setIfInBounds_toArray, List.set_cons_succ, List.set_cons_zero]
  refine wpQuiet_take (by rfl) (fun K hK => ⟨.int .u32 (n32 (x <<< 10)), fun w2' hw2 => ?_, hK _ ?_⟩)
  · clear hw2; go_simp
  clear hK K
  simp only [Act.put, List.setIfInBounds_toArray, List.set_cons_succ, List.set_cons_zero]
  refine wpQuiet_take (by rfl) (fun K hK => ⟨.int .u32 (n32 (x >>> 22 ||| x <<< 10)), fun w2' hw2 => ?_, hK _ ?_⟩)
  · clear hw2; go_simp
  clear hK K
  simp only [Act.put, List.setIfInBounds_toArray, List.set_cons_succ, List.set_cons_zero]
  refine wpQuiet_take0 ?_
  intro w2 hw2
  have H2 := Lib.hid hw2
  clear hw2
  go_wp2_with fail
  go_ret
  exact ⟨rfl, H2.out.2, H2.out.1⟩
theorem rturn25 (x : BitVec 32) (w : World) : Calls Tryd.prog 36 #[.int .u32 (n32 x), .int .i64 25] w fun e w' => e = .returned (.int .u32 (n32 (rotR x 25))) ∧ Below w.heap.size w w' ∧ w'.heap = w.heap := by
  go_enter Tryd.func36, Tryd.ntmps36
  go_upto_region 1 with fail
  refine region_class1 8 (fun w2 => w2.heap = w.heap ∧ Below w.heap.size w w2) mixedOrders (by kernel_rfl) ⟨rfl, (Below.refl _ _).drew⟩ rfl ?_
  refine wpQuiet_take (by rfl) (fun K hK => ⟨.int .u32 (n32 (x)), fun w2' hw2 => ?_, hK _ ?_⟩)
  · clear hw2; go_simp
  clear hK K
  simp only [Act.put, List.setIfInBounds_toArray, List.set_cons_succ, List.set_cons_zero]
  refine wpQuiet_take (by rfl) (fun K hK => ⟨.int .i64 25, fun w2' hw2 => ?_, hK _ ?_⟩)
  · clear hw2; go_simp
  clear hK K
  simp only [Act.put, List.setIfInBounds_toArray, List.set_cons_succ, List.set_cons_zero]
  refine wpQuiet_take (by rfl) (fun K hK => ⟨.int .u32 (n32 (x >>> 25)), fun w2' hw2 => ?_, hK _ ?_⟩)
  · clear hw2; go_simp
  clear hK K
  simp only [Act.put, List.setIfInBounds_toArray, List.set_cons_succ, List.set_cons_zero]
  refine wpQuiet_take (by rfl) (fun K hK => ⟨.int .u32 (n32 (x)), fun w2' hw2 => ?_, hK _ ?_⟩)
  · clear hw2; go_simp
  clear hK K
  simp only [Act.put, List.setIfInBounds_toArray, List.set_cons_succ, List.set_cons_zero]
  refine wpQuiet_take (by rfl) (fun K hK => ⟨.int .i64 25, fun w2' hw2 => ?_, hK _ ?_⟩)
  · clear hw2; go_simp
  clear hK K
  simp only [Act.put, List.setIfInBounds_toArray, List.set_cons_succ, List.set_cons_zero]
  refine wpQuiet_take (by rfl) (fun K hK => ⟨.int .i64 7, fun w2' hw2 => ?_, hK _ ?_⟩)
  · clear hw2; go_simp
    try kernel_rfl
  clear hK K
  simp only [Act.put, List.setIfInBounds_toArray, List.set_cons_succ, List.set_cons_zero]
  refine wpQuiet_take (by rfl) (fun K hK => ⟨.int .u32 (n32 (x <<< 7)), fun w2' hw2 => ?_, hK _ ?_⟩)
  · clear hw2; go_simp
  clear hK K
  simp only [Act.put, List.setIfInBounds_toArray, List.set_cons_succ, List.set_cons_zero]
  refine wpQuiet_take (by rfl) (fun K hK => ⟨.int .u32 (n32 (x >>> 25 ||| x <<< 7)), fun w2' hw2 => ?_, hK _ ?_⟩)
  · clear hw2; go_simp
  clear hK K
  simp only [Act.put, List.setIfInBounds_toArray, List.set_cons_succ, List.set_cons_zero]
  refine wpQuiet_take0 ?_
  intro w2 hw2
  have H2 := Lib.hid hw2
  clear hw2
  go_wp2_with fail
  go_ret
  exact ⟨rfl, H2.out.2, H2.out.1⟩
theorem keys_any (w : World) : Calls Tryd.prog 35 #[] w fun e w' => e = .returned (.slice (some ⟨w.heap.size, 0, none⟩) 64 64) ∧ w' = w.alloc (.cells (wordsA kW 64) 56) := by
  have hk : (wordsA kW 64 : Array Value) = #[.int .u32 1116352408, .int .u32 1899447441, .int .u32 3049323471, .int .u32 3921009573, .int .u32 961987163, .int .u32 1508970993, .int .u32 2453635748, .int .u32 2870763221, .int .u32 3624381080, .int .u32 310598401, .int .u32 607225278, .int .u32 1426881987, .int .u32 1925078388, .int .u32 2162078206, .int .u32 2614888103, .int .u32 3248222580, .int .u32 3835390401, .int .u32 4022224774, .int .u32 264347078, .int .u32 604807628, .int .u32 770255983, .int .u32 1249150122, .int .u32 1555081692, .int .u32 1996064986, .int .u32 2554220882, .int .u32 2821834349, .int .u32 2952996808, .int .u32 3210313671, .int .u32 3336571891, .int .u32 3584528711, .int .u32 113926993, .int .u32 338241895, .int .u32 666307205, .int .u32 773529912, .int .u32 1294757372, .int .u32 1396182291, .int .u32 1695183700, .int .u32 1986661051, .int .u32 2177026350, .int .u32 2456956037, .int .u32 2730485921, .int .u32 2820302411, .int .u32 3259730800, .int .u32 3345764771, .int .u32 3516065817, .int .u32 3600352804, .int .u32 4094571909, .int .u32 275423344, .int .u32 430227734, .int .u32 506948616, .int .u32 659060556, .int .u32 883997877, .int .u32 958139571, .int .u32 1322822218, .int .u32 1537002063, .int .u32 1747873779, .int .u32 1955562222, .int .u32 2024104815, .int .u32 2227730452, .int .u32 2361852424, .int .u32 2428436474, .int .u32 2756734187, .int .u32 3204031479, .int .u32 3329325298] := by kernel_rfl
  rw [hk]
  go_enter Tryd.func35, Tryd.ntmps35
  go_wp2_with fail
  go_ret
  exact ⟨rfl, rfl⟩
end Go.Proofs.YtebhhonmpoeliaaDoor
