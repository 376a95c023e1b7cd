/-
  THE CALLS OF PACKAGE gcm, SECOND PART: the product of two blocks.
-/
import Derived.Test.YtoocglckhphepaaGcmA
namespace Go.Proofs.Ytoocglckhphepaa
open Go Go.RowKit Go.BigFrame
set_option maxRecDepth 100000
set_option linter.unusedSimpArgs false
attribute [local go_sem] neg_n64
/-- What a product's rounds keep: what is out, the second block, the bits that are left of the first. -/
structure MSt where
  o : W2
  b : W2
  w : BitVec 64
def MSt.step (s : MSt) : MSt :=
  ⟨⟨s.o.hi ^^^ (s.b.hi &&& -(s.w >>> 63)), s.o.lo ^^^ (s.b.lo &&& -(s.w >>> 63))⟩, ⟨s.b.hi >>> 1 ^^^ (16212958658533785600#64 &&& -(s.b.lo &&& 1#64)), s.b.lo >>> 1 ||| s.b.hi <<< 63⟩, s.w <<< 1⟩
def MSt.steps (s : MSt) : Nat → MSt
  | 0 => s
  | n + 1 => (s.steps n).step
/-- Behind n words of the first block. -/
def mulTo (a b : W2) : Nat → MSt
  | 0 => ⟨⟨0, 0⟩, b, 0⟩
  | n + 1 => MSt.steps ⟨(mulTo a b n).o, (mulTo a b n).b, if n = 0 then a.hi else a.lo⟩ 64
def W2.mul (a b : W2) : W2 := (mulTo a b 2).o
def c2 (x : W2) : Array Value := #[.int .u64 (n64 x.hi), .int .u64 (n64 x.lo)]
theorem n64_zero : n64 0#64 = 0 := by unfold n64; rfl
/-- The world in which a product is made. -/
def mulW (a b o : W2) (w : World) : World := (((w.alloc (.cells (c2 a) 46)).alloc (.cells (c2 b) 46)).alloc (.cells #[.int .u64 0, .int .u64 0] 46)).alloc (.cells (c2 o) 46)
theorem index_2 (a : W2) (i : Nat) (hi : i < 2) (w : World) : (Instr.index 46 (.agg #[.int .u64 (n64 a.hi), .int .u64 (n64 a.lo)]) (.int .i64 (i : Int))).run Try.prog w = .ok (.int .u64 (n64 (if i = 0 then a.hi else a.lo))) w := by
  have h := run_index_arr (P := Try.prog) 46 41 2 #[.int .u64 (n64 a.hi), .int .u64 (n64 a.lo)] .i64 .u64 i w (by kernel_rfl) (by kernel_rfl) (by kernel_rfl) (by omega) (by omega) rfl
  rw [h]
  rcases (by omega : i = 0 ∨ i = 1) with rfl | rfl <;> rfl
set_option maxHeartbeats 8000000 in
theorem times2_any (a0 a1 b0 b1 : BitVec 64) (w : World) :
    Calls Try.prog 18 #[.agg #[.int .u64 (n64 a0), .int .u64 (n64 a1)], .agg #[.int .u64 (n64 b0), .int .u64 (n64 b1)]] w
      fun e w' => e = .returned (W2.mul ⟨a0, a1⟩ ⟨b0, b1⟩).val ∧ Below w.heap.size w w' := by
  go_enter Try.func18, Try.ntmps18
  go_wp2
  go_loopw [11] (fun s11 wr => ∃ i : Nat, i ≤ 2 ∧ s11 = .int .i64 (i : Int) ∧ wr = mulW ⟨a0, a1⟩ (mulTo ⟨a0, a1⟩ ⟨b0, b1⟩ i).b (mulTo ⟨a0, a1⟩ ⟨b0, b1⟩ i).o w)
    (fun s11 _ => 2 - (intOf s11).toNat)
  case atStart => exact ⟨0, by omega, rfl, by simp [mulW, mulTo, c2, n64_zero]⟩
  case round =>
    obtain ⟨i, hi, rfl, rfl⟩ := hrel
    by_cases hi2 : i < 2
    · have hiI : (i : Int) < 2 := by omega
      have ix := index_2 ⟨a0, a1⟩ i hi2
      have hs : (mulTo ⟨a0, a1⟩ ⟨b0, b1⟩ (i + 1)) = MSt.steps ⟨(mulTo ⟨a0, a1⟩ ⟨b0, b1⟩ i).o, (mulTo ⟨a0, a1⟩ ⟨b0, b1⟩ i).b, if i = 0 then a0 else a1⟩ 64 := rfl
      have HS := Lib.hid hs
      clear hs
      generalize (mulTo ⟨a0, a1⟩ ⟨b0, b1⟩ i) = M at *
      generalize hx : (if i = 0 then a0 else a1) = x at *
      simp only [hx] at ix
      clear hx
      go_wp2_with fail
      go_loopw [7, 14] (fun s7 s14 wr => ∃ k : Nat, k ≤ 64 ∧ s14 = .int .i64 (k : Int) ∧ s7 = .int .u64 (n64 (MSt.steps ⟨M.o, M.b, x⟩ k).w) ∧ wr = mulW ⟨a0, a1⟩ (MSt.steps ⟨M.o, M.b, x⟩ k).b (MSt.steps ⟨M.o, M.b, x⟩ k).o w)
        (fun _ s14 _ => 64 - (intOf s14).toNat)
      case atStart => exact ⟨0, by omega, rfl, rfl, rfl⟩
      case round =>
        obtain ⟨k, hk, rfl, rfl, rfl⟩ := hrel
        by_cases hk64 : k < 64
        · have hkI : (k : Int) < 64 := by omega
          have st : MSt.steps ⟨M.o, M.b, x⟩ (k + 1) = (MSt.steps ⟨M.o, M.b, x⟩ k).step := rfl
          have ST := Lib.hid st
          clear st
          generalize MSt.steps ⟨M.o, M.b, x⟩ k = N at *
          obtain ⟨⟨o0, o1⟩, ⟨c0, c1⟩, v⟩ := N
          unfold mulW c2
          go_wp2_with fail
          go_roundw
          case rel => exact ⟨k + 1, by omega, by go_num, by rw [ST.out]; rfl, by rw [ST.out]; rfl⟩
          case measure => simp [intOf]; omega
        · obtain rfl : k = 64 := by omega
          go_wp2_with fail
          go_roundw
          case rel => exact ⟨i + 1, by omega, by go_num, by rw [HS.out]⟩
          case measure => simp [intOf]; omega
    · obtain rfl : i = 2 := by omega
      have e : W2.mul ⟨a0, a1⟩ ⟨b0, b1⟩ = (mulTo ⟨a0, a1⟩ ⟨b0, b1⟩ 2).o := rfl
      have HE := Lib.hid e
      clear e
      generalize (mulTo ⟨a0, a1⟩ ⟨b0, b1⟩ 2) = M at *
      unfold mulW c2
      go_wp2_with fail
      refine bodyPost_ret (v := M.o.val) (by simp [results, Try.results18, go_sem, W2.val]) rfl ⟨by rw [HE.out], ?_⟩
      repeat (first | exact Below.refl _ _ | apply Below.drew | refine Below.alloc ?_ (by simp; try omega) _)
end Go.Proofs.Ytoocglckhphepaa
