/-
  THE CALLS OF PACKAGE aes, FIRST PART: rotations, the double, a column mixed, two blocks put together, a block with each byte substituted.
-/
import Derived.Test.YtoocglckhphepaaKit
namespace Go.Proofs.Ytoocglckhphepaa
open Go Go.RowKit Go.BigFrame
def rotl (x : BitVec 32) (s : Nat) : BitVec 32 := x <<< s ||| x >>> (32 - s)
def dbl (w : BitVec 32) : BitVec 32 := (w &&& 0x7f7f7f7f#32) <<< 1 ^^^ ((w >>> 7) &&& 0x01010101#32) * 0x1b#32
def mix (w : BitVec 32) : BitVec 32 := dbl (w ^^^ rotl w 8) ^^^ rotl w 8 ^^^ rotl w 16 ^^^ rotl w 24
set_option maxHeartbeats 400000 in
theorem rot_any (x : BitVec 32) (k : Int) (s : Nat) (w : World) (hk : bits .and .u64 (IntKind.u64.wrap k) 31 = (s : Int)) (h1 : s ≤ 31) :
    Calls Try.prog 49 #[.int .u32 (n32 x), .int .i64 k] w fun e w' => e = .returned (.int .u32 (n32 (rotl x s))) ∧ w' = w := by
  have h3 : (s : Int) ≤ 32 := by omega
  have h4 : ((32 : Int) - s).toNat = 32 - s := by omega
  have H4 := Lib.hid h4; clear h4
  go_enter Try.func49, Try.ntmps49
  go_wp2
  go_ret
  exact ⟨ret_u32 (by unfold rotl; first | rfl | (rw [H4.out]; rfl)), rfl⟩
set_option maxHeartbeats 400000 in
theorem double_any (x : BitVec 32) (w : World) :
    Calls Try.prog 33 #[.int .u32 (n32 x)] w fun e w' => e = .returned (.int .u32 (n32 (dbl x))) ∧ w' = w := by
  go_enter Try.func33, Try.ntmps33
  go_wp2
  go_ret
  exact ⟨ret_u32 rfl, rfl⟩
set_option maxHeartbeats 400000 in
theorem mixed_any (x : BitVec 32) (w : World) :
    Calls Try.prog 52 #[.int .u32 (n32 x)] w fun e w' => e = .returned (.int .u32 (n32 (mix x))) ∧ w' = w := by
  have r8 := fun w => rot_any x 8 8 w (by decide) (by decide)
  have r16 := fun w => rot_any x 16 16 w (by decide) (by decide)
  have r24 := fun w => rot_any x 24 24 w (by decide) (by decide)
  have R8 := Lib.hid r8; have R16 := Lib.hid r16; have R24 := Lib.hid r24
  clear r8 r16 r24
  go_enter Try.func52, Try.ntmps52
  go_wp2_with fail
  refine (R8.out _).mono ?_; rintro e w' ⟨rfl, rfl⟩
  go_wp2_with (go_at_call 33; refine (double_any _ _).mono ?_; rintro e w' ⟨rfl, rfl⟩)
  refine (R16.out _).mono ?_; rintro e w' ⟨rfl, rfl⟩
  go_wp2_with fail
  refine (R24.out _).mono ?_; rintro e w' ⟨rfl, rfl⟩
  go_wp2_with fail
  go_ret
  exact ⟨ret_u32 rfl, rfl⟩
/-- Four words: a block. -/
structure W4 where
  a : BitVec 32
  b : BitVec 32
  c : BitVec 32
  d : BitVec 32
def W4.val (x : W4) : Value := .agg #[.int .u32 (n32 x.a), .int .u32 (n32 x.b), .int .u32 (n32 x.c), .int .u32 (n32 x.d)]
def W4.xor (x y : W4) : W4 := ⟨x.a ^^^ y.a, x.b ^^^ y.b, x.c ^^^ y.c, x.d ^^^ y.d⟩
/-- One word of a block that is substituted by T: its bytes from four words. -/
def subw (T : Nat → BitVec 8) (a b c d : BitVec 32) : BitVec 32 :=
  (T (ix32 (a >>> 24))).setWidth 32 <<< 24 ||| (T (ix32 (b >>> 16 &&& 255#32))).setWidth 32 <<< 16 ||| (T (ix32 (c >>> 8 &&& 255#32))).setWidth 32 <<< 8 ||| (T (ix32 (d &&& 255#32))).setWidth 32
def W4.shift (T : Nat → BitVec 8) (x : W4) : W4 := ⟨subw T x.a x.b x.c x.d, subw T x.b x.c x.d x.a, subw T x.c x.d x.a x.b, subw T x.d x.a x.b x.c⟩
set_option maxHeartbeats 4000000 in
theorem together_any (a0 a1 a2 a3 b0 b1 b2 b3 : BitVec 32) (w : World) :
    Calls Try.prog 50 #[.agg #[.int .u32 (n32 a0), .int .u32 (n32 a1), .int .u32 (n32 a2), .int .u32 (n32 a3)], .agg #[.int .u32 (n32 b0), .int .u32 (n32 b1), .int .u32 (n32 b2), .int .u32 (n32 b3)]] w
      fun e w' => e = .returned (W4.xor ⟨a0, a1, a2, a3⟩ ⟨b0, b1, b2, b3⟩).val ∧ Below w.heap.size w w' := by
  go_enter Try.func50, Try.ntmps50
  go_wp2
  refine wp_loop_rounds 5 ?_
  iterate 4
    (rw [rounds_succ]
     go_wp2
     refine region_head 8 mixedOrders (by kernel_rfl) ?_
     simp only [List.take_succ_cons, List.take_zero, List.drop_succ_cons, List.drop_zero]
     repeat (go_big_quiet_step (fail))
     refine wpQuiet_nil ?_
     go_wp2)
  rw [rounds_succ]
  go_wp2
  refine bodyPost_ret (v := (W4.xor ⟨a0, a1, a2, a3⟩ ⟨b0, b1, b2, b3⟩).val) (by simp [results, Try.results50, go_sem, W4.val, W4.xor]) rfl ⟨rfl, ?_⟩
  repeat (first | exact Below.refl _ _ | apply Below.drew | refine Below.alloc ?_ (by simp; try omega) _)
set_option maxHeartbeats 4000000 in
theorem shifted_any (T : Nat → BitVec 8) (q : Nat) (a0 a1 a2 a3 : BitVec 32) (w : World) (hT : ∀ i, i < 256 → w.cell? ⟨q, i, none⟩ = some (.int .u8 (n8 (T i)))) (hq : q < w.heap.size) :
    Calls Try.prog 51 #[.pointer (some ⟨q, 0, none⟩), .agg #[.int .u32 (n32 a0), .int .u32 (n32 a1), .int .u32 (n32 a2), .int .u32 (n32 a3)]] w
      fun e w' => e = .returned (W4.shift T ⟨a0, a1, a2, a3⟩).val ∧ Below w.heap.size w w' := by
  have q1 : q < w.heap.size + 1 := by omega
  have q2 : q < w.heap.size + 1 + 1 := by omega
  have q3 : q ≤ w.heap.size := by omega
  have q4 : q ≤ w.heap.size + 1 := by omega
  go_enter Try.func51, Try.ntmps51
  go_wp2
  refine wp_loop_rounds 5 ?_
  iterate 4
    (rw [rounds_succ]
     go_wp2
     refine region_head 52 mixedOrders (by kernel_rfl) ?_
     simp only [List.take_succ_cons, List.take_zero, List.drop_succ_cons, List.drop_zero]
     repeat (go_big_quiet_step (fail))
     refine wpQuiet_nil ?_
     go_wp2)
  rw [rounds_succ]
  go_wp2
  refine bodyPost_ret (v := (W4.shift T ⟨a0, a1, a2, a3⟩).val) (by simp [results, Try.results51, go_sem, W4.val, W4.shift, subw]) rfl ⟨rfl, ?_⟩
  repeat (first | exact Below.refl _ _ | apply Below.drew | refine Below.alloc ?_ (by simp; try omega) _)
end Go.Proofs.Ytoocglckhphepaa
