/-
  THE CALLS OF PACKAGE aes, SECOND PART: a block's words and bytes.
-/
import Derived.Test.YtjbpjoondmcnlabDoorMg17
set_option maxRecDepth 100000
namespace Go.Proofs.YtjbpjoondmcnlabDoor
open Go Go.RowKit Go.BigFrame
/-- Sixteen bytes. -/
def b16 (b : Nat → BitVec 8) : Array Value :=
  #[.int .u8 (n8 (b 0)), .int .u8 (n8 (b 1)), .int .u8 (n8 (b 2)), .int .u8 (n8 (b 3)), .int .u8 (n8 (b 4)), .int .u8 (n8 (b 5)), .int .u8 (n8 (b 6)), .int .u8 (n8 (b 7)),
    .int .u8 (n8 (b 8)), .int .u8 (n8 (b 9)), .int .u8 (n8 (b 10)), .int .u8 (n8 (b 11)), .int .u8 (n8 (b 12)), .int .u8 (n8 (b 13)), .int .u8 (n8 (b 14)), .int .u8 (n8 (b 15))]
def wd (p q r s : BitVec 8) : BitVec 32 := ((p.setWidth 32 <<< 8 ||| q.setWidth 32) <<< 8 ||| r.setWidth 32) <<< 8 ||| s.setWidth 32
def W4.of (b : Nat → BitVec 8) : W4 := ⟨wd (b 0) (b 1) (b 2) (b 3), wd (b 4) (b 5) (b 6) (b 7), wd (b 8) (b 9) (b 10) (b 11), wd (b 12) (b 13) (b 14) (b 15)⟩
/-- A word's byte j. -/
def wb (x : BitVec 32) (j : Nat) : BitVec 8 := (x >>> (24 - 8 * j)).setWidth 8
def W4.byte (x : W4) (i : Nat) : BitVec 8 := match i / 4 with | 0 => wb x.a (i % 4) | 1 => wb x.b (i % 4) | 2 => wb x.c (i % 4) | _ => wb x.d (i % 4)
theorem index_16 (cs : Array Value) (i : Int) (w : World) (h0 : 0 ≤ i) (h1 : i < 16) (hc : cs.size = 16) :
    (Instr.index 93 (.agg cs) (.int .i64 i)).run Tryd.prog w = .ok (cs[i.toNat]?.getD undef) w :=
  run_index_arr 93 5 16 cs .i64 .u8 i w (by kernel_rfl) (by kernel_rfl) (by kernel_rfl) h0 h1 hc
attribute [local go_sem] index_16
set_option maxHeartbeats 4000000 in
theorem wordsOf_any (b : Nat → BitVec 8) (w : World) :
    Calls Tryd.prog 66 #[.agg (b16 b)] w fun e w' => e = .returned (W4.of b).val ∧ Below w.heap.size w w' := by
  unfold b16
  go_enter Tryd.func66, Tryd.ntmps66
  go_wp2
  refine wp_loop_rounds 17 ?_
  iterate 17
    (rw [rounds_succ]
     go_wp2)
  refine bodyPost_ret (v := (W4.of b).val) (by simp [results, Tryd.results66, go_sem, W4.val, W4.of, wd]) rfl ⟨rfl, ?_⟩
  repeat (first | exact Below.refl _ _ | apply Below.drew | refine Below.alloc ?_ (by simp; try omega) _)
set_option maxHeartbeats 4000000 in
theorem bytesOf_any (a0 a1 a2 a3 : BitVec 32) (w : World) :
    Calls Tryd.prog 70 #[.agg #[.int .u32 (n32 a0), .int .u32 (n32 a1), .int .u32 (n32 a2), .int .u32 (n32 a3)]] w
      fun e w' => e = .returned (.agg (b16 (W4.byte ⟨a0, a1, a2, a3⟩))) ∧ Below w.heap.size w w' := by
  go_enter Tryd.func70, Tryd.ntmps70
  go_wp2
  refine wp_loop_rounds 17 ?_
  iterate 17
    (rw [rounds_succ]
     go_wp2)
  refine bodyPost_ret (v := .agg (b16 (W4.byte ⟨a0, a1, a2, a3⟩))) (by simp [results, Tryd.results70, go_sem, b16, W4.byte, wb]) rfl ⟨rfl, ?_⟩
  repeat (first | exact Below.refl _ _ | apply Below.drew | refine Below.alloc ?_ (by simp; try omega) _)
end Go.Proofs.YtjbpjoondmcnlabDoor
