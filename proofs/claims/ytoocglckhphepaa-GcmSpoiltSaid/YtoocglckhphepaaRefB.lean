/-
  THE DOCUMENT'S ANSWER FOR aes, SECOND PART: Sub, and that it is the table.
-/
import Derived.Test.YtoocglckhphepaaRefA
import Derived.Test.YtoocglckhphepaaAesD
namespace Go.Proofs.Ytoocglckhphepaa
open Go Go.RowKit Go.BigFrame
/-- Behind k rounds: the power and what is put together. -/
def powR (x : BitVec 8) : Nat → BitVec 8 × BitVec 8
  | 0 => (x, 1#8)
  | k + 1 => (timesR (powR x k).1 (powR x k).1, timesR (powR x k).2 (timesR (powR x k).1 (powR x k).1))
def outR (v : BitVec 8) : Nat → BitVec 8
  | 0 => 0x63#8
  | k + 1 => outR v k ^^^ (v <<< k ||| v >>> (8 - k))
def subR (x : BitVec 8) : BitVec 8 := outR (powR x 7).2 5
theorem subR_sbox : ∀ i : Fin 256, subR (BitVec.ofNat 8 i) = sbox i := by decide +kernel
set_option maxHeartbeats 1000000 in
theorem sub_any (x : BitVec 8) (w : World) :
    Calls Try.prog 53 #[.int .u8 (n8 x)] w fun e w' => e = .returned (.int .u8 (n8 (subR x))) ∧ Below w.heap.size w w' := by
  go_enter Try.func53, Try.ntmps53
  go_wp2_with fail
  go_loopw [3, 4, 5] (fun s3 s4 s5 wr => ∃ k : Nat, k ≤ 7 ∧ s5 = .int .i64 (k : Int) ∧ s4 = .int .u8 (n8 (powR x k).1) ∧ s3 = .int .u8 (n8 (powR x k).2) ∧ w = wr)
    (fun _ _ s5 _ => 7 - (intOf s5).toNat)
  case atStart => exact ⟨0, by omega, rfl, rfl, by show _ = Value.int .u8 (n8 1#8); rw [n8_nat]; rfl, rfl⟩
  case round =>
    obtain ⟨k, hk, rfl, rfl, rfl, rfl⟩ := hrel
    by_cases hk7 : k < 7
    · have hkI : (k : Int) < 7 := by omega
      go_wp2_with (go_at_call 54; refine (times_any _ _ _).mono ?_; rintro e w' ⟨rfl, rfl⟩)
      go_roundw
      case rel => exact ⟨k + 1, by omega, by go_num, rfl, rfl, trivial⟩
      case measure => simp [intOf]; omega
    · obtain rfl : k = 7 := by omega
      generalize hv : (powR x 7).2 = v
      have Hv := Lib.hid hv
      clear hv
      go_wp2_with fail
      refine wp_loop_rounds 6 ?_
      iterate 5
        (rw [rounds_succ]
         go_wp2_with fail
         refine region_quiet mixedOrders (by kernel_rfl) ?_
         repeat (go_big_quiet_step (fail))
         refine wpQuiet_nil ?_
         go_wp2_with fail)
      rw [rounds_succ]
      go_wp2_with fail
      go_ret
      refine ⟨?_, by repeat (first | exact Below.refl _ _ | apply Below.drew)⟩
      have hs : subR x = 99#8 ^^^ (v ||| v >>> 8) ^^^ (v <<< 1 ||| v >>> 7) ^^^ (v <<< 2 ||| v >>> 6) ^^^ (v <<< 3 ||| v >>> 5) ^^^ (v <<< 4 ||| v >>> 4) := by
        unfold subR
        rw [Hv.out]
        simp [outR]
      rw [hs]
      rfl
end Go.Proofs.Ytoocglckhphepaa
