/-
  THE CALLS OF PACKAGE aes, THIRD PART: the words of the round behind.
-/
import Derived.Test.YtoocglckhphepaaAesA
namespace Go.Proofs.Ytoocglckhphepaa
open Go Go.RowKit Go.BigFrame
/-- The words of the round behind that of k. -/
def W4.next (T : Nat → BitVec 8) (k : W4) (r : BitVec 8) : W4 :=
  let t := subw T (rotl k.d 8) (rotl k.d 8) (rotl k.d 8) (rotl k.d 8) ^^^ r.setWidth 32 <<< 24
  ⟨t ^^^ k.a, t ^^^ k.a ^^^ k.b, t ^^^ k.a ^^^ k.b ^^^ k.c, t ^^^ k.a ^^^ k.b ^^^ k.c ^^^ k.d⟩
set_option maxHeartbeats 4000000 in
theorem nextKey_any (T : Nat → BitVec 8) (q : Nat) (a0 a1 a2 a3 : BitVec 32) (r : BitVec 8) (w : World) (hT : ∀ i, i < 256 → w.cell? ⟨q, i, none⟩ = some (.int .u8 (n8 (T i)))) (hq : q < w.heap.size) :
    Calls Try.prog 32 #[.pointer (some ⟨q, 0, none⟩), .agg #[.int .u32 (n32 a0), .int .u32 (n32 a1), .int .u32 (n32 a2), .int .u32 (n32 a3)], .int .u8 (n8 r)] w
      fun e w' => e = .returned (W4.next T ⟨a0, a1, a2, a3⟩ r).val ∧ Below w.heap.size w w' := by
  have q1 : q < w.heap.size + 1 := by omega
  have q2 : q < w.heap.size + 1 + 1 := by omega
  have q3 : q ≤ w.heap.size := by omega
  have q4 : q ≤ w.heap.size + 1 := by omega
  have r8 := fun w => rot_any a3 8 8 w (by decide) (by decide)
  have R8 := Lib.hid r8
  clear r8
  go_enter Try.func32, Try.ntmps32
  go_wp2_with fail
  refine (R8.out _).mono ?_; rintro e w' ⟨rfl, rfl⟩
  go_wp2
  refine region_quiet mixedOrders (by kernel_rfl) ?_
  repeat (go_big_quiet_step (fail))
  refine wpQuiet_nil ?_
  go_wp2
  refine wp_loop_rounds 5 ?_
  iterate 5
    (rw [rounds_succ]
     go_wp2)
  refine bodyPost_ret (v := (W4.next T ⟨a0, a1, a2, a3⟩ r).val) (by simp [results, Try.results32, go_sem, W4.val, W4.next, subw]) rfl ⟨rfl, ?_⟩
  repeat (first | exact Below.refl _ _ | apply Below.drew | refine Below.alloc ?_ (by simp; try omega) _)
end Go.Proofs.Ytoocglckhphepaa
