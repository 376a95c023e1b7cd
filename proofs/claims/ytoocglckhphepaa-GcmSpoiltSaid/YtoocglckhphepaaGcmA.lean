/-
  THE CALLS OF PACKAGE gcm, FIRST PART: blocks as two words, put together, multiplied.
-/
import Derived.Test.YtoocglckhphepaaAesB
namespace Go.Proofs.Ytoocglckhphepaa
open Go Go.RowKit Go.BigFrame
set_option maxRecDepth 100000
set_option linter.unusedSimpArgs false
/-- Two words: a block. -/
structure W2 where
  hi : BitVec 64
  lo : BitVec 64
def W2.val (x : W2) : Value := .agg #[.int .u64 (n64 x.hi), .int .u64 (n64 x.lo)]
def W2.xor (x y : W2) : W2 := ⟨x.hi ^^^ y.hi, x.lo ^^^ y.lo⟩
def wd8 (f : Nat → BitVec 8) : BitVec 64 := ((((((((f 0).setWidth 64 <<< 8 ||| (f 1).setWidth 64) <<< 8 ||| (f 2).setWidth 64) <<< 8 ||| (f 3).setWidth 64) <<< 8 ||| (f 4).setWidth 64) <<< 8 ||| (f 5).setWidth 64) <<< 8 ||| (f 6).setWidth 64) <<< 8 ||| (f 7).setWidth 64)
def W2.of (f : Nat → BitVec 8) : W2 := ⟨wd8 f, wd8 (fun i => f (8 + i))⟩
def W2.byte (x : W2) (i : Nat) : BitVec 8 := if i < 8 then (x.hi >>> (56 - 8 * i)).setWidth 8 else (x.lo >>> (56 - 8 * (i - 8))).setWidth 8
theorem neg_n64 (x : BitVec 64) : IntKind.wrap .u64 (-(n64 x)) = n64 (-x) := by
  rw [wrap_n64]
  congr 1
  rw [BitVec.ofInt_neg, ofInt_n64]
attribute [local go_sem] neg_n64
attribute [local go_sem] index_16
set_option maxHeartbeats 4000000 in
theorem together2_any (a0 a1 b0 b1 : BitVec 64) (w : World) :
    Calls Try.prog 40 #[.agg #[.int .u64 (n64 a0), .int .u64 (n64 a1)], .agg #[.int .u64 (n64 b0), .int .u64 (n64 b1)]] w
      fun e w' => e = .returned (W2.xor ⟨a0, a1⟩ ⟨b0, b1⟩).val ∧ Below w.heap.size w w' := by
  go_enter Try.func40, Try.ntmps40
  go_wp2
  refine bodyPost_ret (v := (W2.xor ⟨a0, a1⟩ ⟨b0, b1⟩).val) (by simp [results, Try.results40, go_sem, W2.val, W2.xor]) rfl ⟨rfl, ?_⟩
  repeat (first | exact Below.refl _ _ | apply Below.drew | refine Below.alloc ?_ (by simp; try omega) _)
set_option maxHeartbeats 4000000 in
theorem wordsOf2_any (b : Nat → BitVec 8) (w : World) :
    Calls Try.prog 19 #[.agg (b16 b)] w fun e w' => e = .returned (W2.of b).val ∧ Below w.heap.size w w' := by
  unfold b16
  go_enter Try.func19, Try.ntmps19
  go_wp2
  refine wp_loop_rounds 17 ?_
  iterate 17
    (rw [rounds_succ]
     go_wp2)
  refine bodyPost_ret (v := (W2.of b).val) (by simp [results, Try.results19, go_sem, W2.val, W2.of, wd8]) rfl ⟨rfl, ?_⟩
  repeat (first | exact Below.refl _ _ | apply Below.drew | refine Below.alloc ?_ (by simp; try omega) _)
set_option maxHeartbeats 4000000 in
theorem bytesOf2_any (a0 a1 : BitVec 64) (w : World) :
    Calls Try.prog 17 #[.agg #[.int .u64 (n64 a0), .int .u64 (n64 a1)]] w
      fun e w' => e = .returned (.agg (b16 (W2.byte ⟨a0, a1⟩))) ∧ Below w.heap.size w w' := by
  go_enter Try.func17, Try.ntmps17
  go_wp2
  refine wp_loop_rounds 17 ?_
  iterate 17
    (rw [rounds_succ]
     go_wp2)
  refine bodyPost_ret (v := .agg (b16 (W2.byte ⟨a0, a1⟩))) (by simp [results, Try.results17, go_sem, b16, W2.byte]) rfl ⟨rfl, ?_⟩
  repeat (first | exact Below.refl _ _ | apply Below.drew | refine Below.alloc ?_ (by simp; try omega) _)
end Go.Proofs.Ytoocglckhphepaa
