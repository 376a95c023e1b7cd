/-
  THE CALLS OF PACKAGE vlq, FIRST PART: how many times two goes into a size; the least size.
-/
import Derived.Test.YtcgbhcmgddgheabDoorBytes
import Derived.Test.YtcgbhcmgddgheabDoorVlqMath
import Derived.Test.YtcgbhcmgddgheabDoorDoor
namespace Go.Proofs.YtcgbhcmgddgheabDoor
open Go Go.RowKit Go.BigFrame
set_option maxHeartbeats 1000000 in
theorem tz64_any (k : Nat) (hk : k < 4) (w : World) (tab : Tab w) :
    Calls Tryd.prog 55 #[.int .u64 ((2 ^ k : Nat) : Int)] w fun e w' => e = .returned (.int .i64 (k : Int)) ∧ w = w' := by
  obtain ⟨c0, c1, c3, c7⟩ := tab
  have k0 : IntKind.u64.wrap (bits BinOp.and IntKind.u64 1 (IntKind.u64.wrap (-1)) * 285870213051353865) / 288230376151711744 = 0 := by decide +kernel
  have k1 : IntKind.u64.wrap (bits BinOp.and IntKind.u64 2 (IntKind.u64.wrap (-2)) * 285870213051353865) / 288230376151711744 = 1 := by decide +kernel
  have k2 : IntKind.u64.wrap (bits BinOp.and IntKind.u64 4 (IntKind.u64.wrap (-4)) * 285870213051353865) / 288230376151711744 = 3 := by decide +kernel
  have k3 : IntKind.u64.wrap (bits BinOp.and IntKind.u64 8 (IntKind.u64.wrap (-8)) * 285870213051353865) / 288230376151711744 = 7 := by decide +kernel
  obtain rfl | rfl | rfl | rfl : k = 0 ∨ k = 1 ∨ k = 2 ∨ k = 3 := by omega
  all_goals
    simp only [Nat.reducePow]
    go_enter Tryd.func55, Tryd.ntmps55
    go_wp2_with (simp only [k0, k1, k2, k3])
    go_ret
    exact ⟨rfl, rfl⟩
set_option maxHeartbeats 1000000 in
theorem tz_any (k : Nat) (hk : k < 4) (w : World) (tab : Tab w) :
    Calls Tryd.prog 53 #[.int .u64 ((2 ^ k : Nat) : Int)] w fun e w' => e = .returned (.int .i64 (k : Int)) ∧ w = w' := by
  go_enter Tryd.func53, Tryd.ntmps53
  go_wp2_with fail
  refine (tz64_any k hk w tab).mono ?_
  rintro e w' ⟨rfl, rfl⟩
  go_wp2_with fail
  go_ret
  exact ⟨rfl, rfl⟩
theorem n64_ne_zero (x : BitVec 64) : (n64 x != 0) = !decide (x = 0#64) := by
  have h : n64 x = 0 ↔ x = 0#64 := by
    rw [n64_nat]
    constructor
    · intro h; apply BitVec.eq_of_toNat_eq; simpa using h
    · rintro rfl; rfl
  by_cases hx : x = 0#64
  · rw [h.2 hx]; simp [hx]
  · have : n64 x ≠ 0 := fun e => hx (h.1 e)
    simp [hx, this]
theorem shr_zero (x : BitVec 64) (s : Nat) (h : x.toNat < 2 ^ s) : (n64 (x >>> s) != 0) = false := by rw [n64_ne_zero, (shr_ne x s).2 h]; rfl
theorem shr_more (x : BitVec 64) (s : Nat) (h : ¬ x.toNat < 2 ^ s) : (n64 (x >>> s) != 0) = true := by
  rw [n64_ne_zero, decide_eq_false (fun e => h ((shr_ne x s).1 e))]; rfl
set_option maxHeartbeats 4000000 in
theorem least_any (x : BitVec 64) (w : World) :
    Calls Tryd.prog 52 #[.int .u64 (n64 x)] w fun e w' => e = .returned (.int .i64 ((2 ^ least x : Nat) : Int)) ∧ w = w' := by
  have h : least x = 0 ∧ (n64 (x >>> 6) != 0) = false ∨ least x = 1 ∧ (n64 (x >>> 6) != 0) = true ∧ (n64 (x >>> 14) != 0) = false ∨ least x = 2 ∧ (n64 (x >>> 6) != 0) = true ∧ (n64 (x >>> 14) != 0) = true ∧ (n64 (x >>> 30) != 0) = false
      ∨ least x = 3 ∧ (n64 (x >>> 6) != 0) = true ∧ (n64 (x >>> 14) != 0) = true ∧ (n64 (x >>> 30) != 0) = true := by
    unfold least
    split
    · exact .inl ⟨rfl, shr_zero _ _ (by simpa using ‹_›)⟩
    · rename_i h6
      split
      · exact .inr (.inl ⟨rfl, shr_more _ _ (by simpa using h6), shr_zero _ _ (by simpa using ‹_›)⟩)
      · rename_i h14
        split
        · exact .inr (.inr (.inl ⟨rfl, shr_more _ _ (by simpa using h6), shr_more _ _ (by simpa using h14), shr_zero _ _ (by simpa using ‹_›)⟩))
        · rename_i h30
          exact .inr (.inr (.inr ⟨rfl, shr_more _ _ (by simpa using h6), shr_more _ _ (by simpa using h14), shr_more _ _ (by simpa using h30)⟩))
  obtain ⟨hl, h6⟩ | ⟨hl, h6, h14⟩ | ⟨hl, h6, h14, h30⟩ | ⟨hl, h6, h14, h30⟩ := h
  all_goals
    rw [hl]
    clear hl
    go_enter Tryd.func52, Tryd.ntmps52
    go_wp2_with fail
    refine wp_loop_rounds 5 ?_
    repeat (rw [rounds_succ]; go_wp2_with fail)
    go_ret
    exact ⟨rfl, rfl⟩
end Go.Proofs.YtcgbhcmgddgheabDoor
