/-
  sha: WORDS TURNED (math/bits.RotateLeft32), AND THE DOCUMENT'S turn.
-/
import Derived.Test.YtebhhonmpoeliaaDoorRowKit
import Derived.Test.YtebhhonmpoeliaaDoorShaMath
namespace Go.Proofs.YtebhhonmpoeliaaDoor
open Go Go.RowKit Go.BigFrame
set_option linter.unusedSimpArgs false
set_option linter.unusedVariables false
theorem rotl2 (x : BitVec 32) (w : World) : Calls Tryd.prog 38 #[.int .u32 (n32 x), .int .i64 (-2)] w fun e w' => e = .returned (.int .u32 (n32 (rotR x 2))) ∧ w = w' := by
  have e : bits BinOp.and IntKind.u64 (IntKind.u64.wrap (-2)) 31 = 30 := by kernel_rfl
  go_enter Tryd.func38, Tryd.ntmps38
  go_wp2_with fail
  go_ret
  exact ⟨ret_u32 (rotR_left x 2), rfl⟩
theorem rotl6 (x : BitVec 32) (w : World) : Calls Tryd.prog 38 #[.int .u32 (n32 x), .int .i64 (-6)] w fun e w' => e = .returned (.int .u32 (n32 (rotR x 6))) ∧ w = w' := by
  have e : bits BinOp.and IntKind.u64 (IntKind.u64.wrap (-6)) 31 = 26 := by kernel_rfl
  go_enter Tryd.func38, Tryd.ntmps38
  go_wp2_with fail
  go_ret
  exact ⟨ret_u32 (rotR_left x 6), rfl⟩
theorem rotl7 (x : BitVec 32) (w : World) : Calls Tryd.prog 38 #[.int .u32 (n32 x), .int .i64 (-7)] w fun e w' => e = .returned (.int .u32 (n32 (rotR x 7))) ∧ w = w' := by
  have e : bits BinOp.and IntKind.u64 (IntKind.u64.wrap (-7)) 31 = 25 := by kernel_rfl
  go_enter Tryd.func38, Tryd.ntmps38
  go_wp2_with fail
  go_ret
  exact ⟨ret_u32 (rotR_left x 7), rfl⟩
theorem rotl11 (x : BitVec 32) (w : World) : Calls Tryd.prog 38 #[.int .u32 (n32 x), .int .i64 (-11)] w fun e w' => e = .returned (.int .u32 (n32 (rotR x 11))) ∧ w = w' := by
  have e : bits BinOp.and IntKind.u64 (IntKind.u64.wrap (-11)) 31 = 21 := by kernel_rfl
  go_enter Tryd.func38, Tryd.ntmps38
  go_wp2_with fail
  go_ret
  exact ⟨ret_u32 (rotR_left x 11), rfl⟩
theorem rotl13 (x : BitVec 32) (w : World) : Calls Tryd.prog 38 #[.int .u32 (n32 x), .int .i64 (-13)] w fun e w' => e = .returned (.int .u32 (n32 (rotR x 13))) ∧ w = w' := by
  have e : bits BinOp.and IntKind.u64 (IntKind.u64.wrap (-13)) 31 = 19 := by kernel_rfl
  go_enter Tryd.func38, Tryd.ntmps38
  go_wp2_with fail
  go_ret
  exact ⟨ret_u32 (rotR_left x 13), rfl⟩
theorem rotl17 (x : BitVec 32) (w : World) : Calls Tryd.prog 38 #[.int .u32 (n32 x), .int .i64 (-17)] w fun e w' => e = .returned (.int .u32 (n32 (rotR x 17))) ∧ w = w' := by
  have e : bits BinOp.and IntKind.u64 (IntKind.u64.wrap (-17)) 31 = 15 := by kernel_rfl
  go_enter Tryd.func38, Tryd.ntmps38
  go_wp2_with fail
  go_ret
  exact ⟨ret_u32 (rotR_left x 17), rfl⟩
theorem rotl18 (x : BitVec 32) (w : World) : Calls Tryd.prog 38 #[.int .u32 (n32 x), .int .i64 (-18)] w fun e w' => e = .returned (.int .u32 (n32 (rotR x 18))) ∧ w = w' := by
  have e : bits BinOp.and IntKind.u64 (IntKind.u64.wrap (-18)) 31 = 14 := by kernel_rfl
  go_enter Tryd.func38, Tryd.ntmps38
  go_wp2_with fail
  go_ret
  exact ⟨ret_u32 (rotR_left x 18), rfl⟩
theorem rotl19 (x : BitVec 32) (w : World) : Calls Tryd.prog 38 #[.int .u32 (n32 x), .int .i64 (-19)] w fun e w' => e = .returned (.int .u32 (n32 (rotR x 19))) ∧ w = w' := by
  have e : bits BinOp.and IntKind.u64 (IntKind.u64.wrap (-19)) 31 = 13 := by kernel_rfl
  go_enter Tryd.func38, Tryd.ntmps38
  go_wp2_with fail
  go_ret
  exact ⟨ret_u32 (rotR_left x 19), rfl⟩
theorem rotl22 (x : BitVec 32) (w : World) : Calls Tryd.prog 38 #[.int .u32 (n32 x), .int .i64 (-22)] w fun e w' => e = .returned (.int .u32 (n32 (rotR x 22))) ∧ w = w' := by
  have e : bits BinOp.and IntKind.u64 (IntKind.u64.wrap (-22)) 31 = 10 := by kernel_rfl
  go_enter Tryd.func38, Tryd.ntmps38
  go_wp2_with fail
  go_ret
  exact ⟨ret_u32 (rotR_left x 22), rfl⟩
theorem rotl25 (x : BitVec 32) (w : World) : Calls Tryd.prog 38 #[.int .u32 (n32 x), .int .i64 (-25)] w fun e w' => e = .returned (.int .u32 (n32 (rotR x 25))) ∧ w = w' := by
  have e : bits BinOp.and IntKind.u64 (IntKind.u64.wrap (-25)) 31 = 7 := by kernel_rfl
  go_enter Tryd.func38, Tryd.ntmps38
  go_wp2_with fail
  go_ret
  exact ⟨ret_u32 (rotR_left x 25), rfl⟩
end Go.Proofs.YtebhhonmpoeliaaDoor
