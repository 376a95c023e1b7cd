/-
  TEXTS PUT TOGETHER: GcmA, GcmB, Held.
-/
import Derived.Test.YtjbpjoondmcnlabDoorAesB
import Derived.Deep.RegionHeld3
import Derived.Test.YtjbpjoondmcnlabDoorMg01
set_option maxRecDepth 100000
/-
  THE CALLS OF PACKAGE gcm, FIRST PART: blocks as two words, put together, multiplied.
-/
namespace Go.Proofs.YtjbpjoondmcnlabDoor
open Go Go.RowKit Go.BigFrame
set_option maxRecDepth 100000
set_option linter.unusedSimpArgs false
/-- Two words: a block. -/
structure W2 where
  hi : BitVec 64
  lo : BitVec 64
def W2.val (x : W2) : Value := .agg #[.int .u64 (n64 x.hi), .int .u64 (n64 x.lo)]
def W2.xor (x y : W2) : W2 := ⟨x.hi ^^^ y.hi, x.lo ^^^ y.lo⟩
def wd8 (f : Nat → BitVec 8) : BitVec 64 := ((((((((f 0).setWidth 64 <<< 8 ||| (f 1).setWidth 64) <<< 8 ||| (f 2).setWidth 64) <<< 8 ||| (f 3).setWidth 64) <<< 8 ||| (f 4).setWidth 64) <<< 8 ||| (f 5).setWidth 64) <<< 8 ||| (f 6).setWidth 64) <<< 8 ||| (f 7).setWidth 64)
def W2.of (f : Nat → BitVec 8) : W2 := ⟨wd8 f, wd8 (fun i => f (8 + i))⟩
def W2.byte (x : W2) (i : Nat) : BitVec 8 := if i < 8 then (x.hi >>> (56 - 8 * i)).setWidth 8 else (x.lo >>> (56 - 8 * (i - 8))).setWidth 8
theorem neg_n64 (x : BitVec 64) : IntKind.wrap .u64 (-(n64 x)) = n64 (-x) := by
  rw [wrap_n64]
  congr 1
  rw [BitVec.ofInt_neg, ofInt_n64]
attribute [local go_sem] neg_n64
attribute [local go_sem] index_16
set_option maxHeartbeats 4000000 in
theorem together2_any (a0 a1 b0 b1 : BitVec 64) (w : World) :
    Calls Tryd.prog 76 #[.agg #[.int .u64 (n64 a0), .int .u64 (n64 a1)], .agg #[.int .u64 (n64 b0), .int .u64 (n64 b1)]] w
      fun e w' => e = .returned (W2.xor ⟨a0, a1⟩ ⟨b0, b1⟩).val ∧ Below w.heap.size w w' := by
  go_enter Tryd.func76, Tryd.ntmps76
  go_wp2
  refine bodyPost_ret (v := (W2.xor ⟨a0, a1⟩ ⟨b0, b1⟩).val) (by simp [results, Tryd.results76, go_sem, W2.val, W2.xor]) rfl ⟨rfl, ?_⟩
  repeat (first | exact Below.refl _ _ | apply Below.drew | refine Below.alloc ?_ (by simp; try omega) _)
set_option maxHeartbeats 4000000 in
theorem wordsOf2_any (b : Nat → BitVec 8) (w : World) :
    Calls Tryd.prog 49 #[.agg (b16 b)] w fun e w' => e = .returned (W2.of b).val ∧ Below w.heap.size w w' := by
  unfold b16
  go_enter Tryd.func49, Tryd.ntmps49
  go_wp2
  refine wp_loop_rounds 17 ?_
  iterate 17
    (rw [rounds_succ]
     go_wp2)
  refine bodyPost_ret (v := (W2.of b).val) (by simp [results, Tryd.results49, go_sem, W2.val, W2.of, wd8]) rfl ⟨rfl, ?_⟩
  repeat (first | exact Below.refl _ _ | apply Below.drew | refine Below.alloc ?_ (by simp; try omega) _)
set_option maxHeartbeats 4000000 in
theorem bytesOf2_any (a0 a1 : BitVec 64) (w : World) :
    Calls Tryd.prog 77 #[.agg #[.int .u64 (n64 a0), .int .u64 (n64 a1)]] w
      fun e w' => e = .returned (.agg (b16 (W2.byte ⟨a0, a1⟩))) ∧ Below w.heap.size w w' := by
  go_enter Tryd.func77, Tryd.ntmps77
  go_wp2
  refine wp_loop_rounds 17 ?_
  iterate 17
    (rw [rounds_succ]
     go_wp2)
  refine bodyPost_ret (v := .agg (b16 (W2.byte ⟨a0, a1⟩))) (by simp [results, Tryd.results77, go_sem, b16, W2.byte]) rfl ⟨rfl, ?_⟩
  repeat (first | exact Below.refl _ _ | apply Below.drew | refine Below.alloc ?_ (by simp; try omega) _)
end Go.Proofs.YtjbpjoondmcnlabDoor
/-
  THE CALLS OF PACKAGE gcm, SECOND PART: the product of two blocks.
-/
namespace Go.Proofs.YtjbpjoondmcnlabDoor
open Go Go.RowKit Go.BigFrame
set_option maxRecDepth 100000
set_option linter.unusedSimpArgs false
attribute [local go_sem] neg_n64
/-- What a product's rounds keep: what is out, the second block, the bits that are left of the first. -/
structure MSt where
  o : W2
  b : W2
  w : BitVec 64
def MSt.step (s : MSt) : MSt :=
  ⟨⟨s.o.hi ^^^ (s.b.hi &&& -(s.w >>> 63)), s.o.lo ^^^ (s.b.lo &&& -(s.w >>> 63))⟩, ⟨s.b.hi >>> 1 ^^^ (16212958658533785600#64 &&& -(s.b.lo &&& 1#64)), s.b.lo >>> 1 ||| s.b.hi <<< 63⟩, s.w <<< 1⟩
def MSt.steps (s : MSt) : Nat → MSt
  | 0 => s
  | n + 1 => (s.steps n).step
/-- Behind n words of the first block. -/
def mulTo (a b : W2) : Nat → MSt
  | 0 => ⟨⟨0, 0⟩, b, 0⟩
  | n + 1 => MSt.steps ⟨(mulTo a b n).o, (mulTo a b n).b, if n = 0 then a.hi else a.lo⟩ 64
def W2.mul (a b : W2) : W2 := (mulTo a b 2).o
def c2 (x : W2) : Array Value := #[.int .u64 (n64 x.hi), .int .u64 (n64 x.lo)]
theorem n64_zero : n64 0#64 = 0 := by unfold n64; rfl
/-- The world in which a product is made. -/
def mulW (a b o : W2) (w : World) : World := (((w.alloc (.cells (c2 a) 91)).alloc (.cells (c2 b) 91)).alloc (.cells #[.int .u64 0, .int .u64 0] 91)).alloc (.cells (c2 o) 91)
theorem index_2 (a : W2) (i : Nat) (hi : i < 2) (w : World) : (Instr.index 91 (.agg #[.int .u64 (n64 a.hi), .int .u64 (n64 a.lo)]) (.int .i64 (i : Int))).run Tryd.prog w = .ok (.int .u64 (n64 (if i = 0 then a.hi else a.lo))) w := by
  have h := run_index_arr (P := Tryd.prog) 91 46 2 #[.int .u64 (n64 a.hi), .int .u64 (n64 a.lo)] .i64 .u64 i w (by kernel_rfl) (by kernel_rfl) (by kernel_rfl) (by omega) (by omega) rfl
  rw [h]
  rcases (by omega : i = 0 ∨ i = 1) with rfl | rfl <;> rfl
set_option maxHeartbeats 8000000 in
theorem times2_any (a0 a1 b0 b1 : BitVec 64) (w : World) :
    Calls Tryd.prog 75 #[.agg #[.int .u64 (n64 a0), .int .u64 (n64 a1)], .agg #[.int .u64 (n64 b0), .int .u64 (n64 b1)]] w
      fun e w' => e = .returned (W2.mul ⟨a0, a1⟩ ⟨b0, b1⟩).val ∧ Below w.heap.size w w' := by
  go_enter Tryd.func75, Tryd.ntmps75
  go_wp2
  go_loopw [11] (fun s11 wr => ∃ i : Nat, i ≤ 2 ∧ s11 = .int .i64 (i : Int) ∧ wr = mulW ⟨a0, a1⟩ (mulTo ⟨a0, a1⟩ ⟨b0, b1⟩ i).b (mulTo ⟨a0, a1⟩ ⟨b0, b1⟩ i).o w)
    (fun s11 _ => 2 - (intOf s11).toNat)
  case atStart => exact ⟨0, by omega, rfl, by simp [mulW, mulTo, c2, n64_zero]⟩
  case round =>
    obtain ⟨i, hi, rfl, rfl⟩ := hrel
    by_cases hi2 : i < 2
    · have hiI : (i : Int) < 2 := by omega
      have ix := index_2 ⟨a0, a1⟩ i hi2
      have hs : (mulTo ⟨a0, a1⟩ ⟨b0, b1⟩ (i + 1)) = MSt.steps ⟨(mulTo ⟨a0, a1⟩ ⟨b0, b1⟩ i).o, (mulTo ⟨a0, a1⟩ ⟨b0, b1⟩ i).b, if i = 0 then a0 else a1⟩ 64 := rfl
      have HS := Lib.hid hs
      clear hs
      generalize (mulTo ⟨a0, a1⟩ ⟨b0, b1⟩ i) = M at *
      generalize hx : (if i = 0 then a0 else a1) = x at *
      simp only [hx] at ix
      clear hx
      go_wp2_with fail
      go_loopw [7, 14] (fun s7 s14 wr => ∃ k : Nat, k ≤ 64 ∧ s14 = .int .i64 (k : Int) ∧ s7 = .int .u64 (n64 (MSt.steps ⟨M.o, M.b, x⟩ k).w) ∧ wr = mulW ⟨a0, a1⟩ (MSt.steps ⟨M.o, M.b, x⟩ k).b (MSt.steps ⟨M.o, M.b, x⟩ k).o w)
        (fun _ s14 _ => 64 - (intOf s14).toNat)
      case atStart => exact ⟨0, by omega, rfl, rfl, rfl⟩
      case round =>
        obtain ⟨k, hk, rfl, rfl, rfl⟩ := hrel
        by_cases hk64 : k < 64
        · have hkI : (k : Int) < 64 := by omega
          have st : MSt.steps ⟨M.o, M.b, x⟩ (k + 1) = (MSt.steps ⟨M.o, M.b, x⟩ k).step := rfl
          have ST := Lib.hid st
          clear st
          generalize MSt.steps ⟨M.o, M.b, x⟩ k = N at *
          obtain ⟨⟨o0, o1⟩, ⟨c0, c1⟩, v⟩ := N
          unfold mulW c2
          go_wp2_with fail
          go_roundw
          case rel => exact ⟨k + 1, by omega, by go_num, by rw [ST.out]; rfl, by rw [ST.out]; rfl⟩
          case measure => simp [intOf]; omega
        · obtain rfl : k = 64 := by omega
          go_wp2_with fail
          go_roundw
          case rel => exact ⟨i + 1, by omega, by go_num, by rw [HS.out]⟩
          case measure => simp [intOf]; omega
    · obtain rfl : i = 2 := by omega
      have e : W2.mul ⟨a0, a1⟩ ⟨b0, b1⟩ = (mulTo ⟨a0, a1⟩ ⟨b0, b1⟩ 2).o := rfl
      have HE := Lib.hid e
      clear e
      generalize (mulTo ⟨a0, a1⟩ ⟨b0, b1⟩ 2) = M at *
      unfold mulW c2
      go_wp2_with fail
      refine bodyPost_ret (v := M.o.val) (by simp [results, Tryd.results75, go_sem, W2.val]) rfl ⟨by rw [HE.out], ?_⟩
      repeat (first | exact Below.refl _ _ | apply Below.drew | refine Below.alloc ?_ (by simp; try omega) _)
end Go.Proofs.YtjbpjoondmcnlabDoor
/-
  A region that draws its order, its loads first: the library's word for it.
-/
namespace Go.Proofs.YtjbpjoondmcnlabDoor
theorem heldOne : (1 : Nat) = 1 := rfl
end Go.Proofs.YtjbpjoondmcnlabDoor
