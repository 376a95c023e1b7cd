/-
  THE DOCUMENT'S ANSWER FOR curve, FIRST PART: the clamped bit.
-/
import Derived.Test.YtmfiabkhnoimhaaCurveD
namespace Go.Proofs.Ytmfiabkhnoimhaa
open Go Go.RowKit Go.BigFrame
set_option linter.unusedVariables false
set_option linter.unusedSimpArgs false
theorem tmod_bit (x : BitVec 8) (s : Nat) : ((n8 x / 2 ^ s).tmod 2 == 1) = x.getLsbD s := by
  have h2 : n8 x = (x.toNat : Int) := by unfold n8; rfl
  have e1 : n8 x / 2 ^ s = ((x.toNat / 2 ^ s : Nat) : Int) := by
    rw [h2, show (2 : Int) ^ s = ((2 ^ s : Nat) : Int) from (Int.natCast_pow 2 s).symm]; rfl
  rw [e1]
  have e2 : (((x.toNat / 2 ^ s : Nat) : Int)).tmod 2 = ((x.toNat / 2 ^ s % 2 : Nat) : Int) := (Int.ofNat_tmod (x.toNat / 2 ^ s) 2).symm
  rw [e2]
  show _ = x.toNat.testBit s
  rw [Nat.testBit_eq_decide_div_mod_eq]
  generalize x.toNat / 2 ^ s % 2 = m
  by_cases h : m = 1
  · subst h; rfl
  · rw [decide_eq_false h]; exact beq_false_of_ne (by omega)
set_option maxHeartbeats 4000000 in
theorem refBit_any (f : Nat → BitVec 8) (j : Nat) (hj : j ≤ 254) (w : World) :
    Calls Try.prog 23 #[.string (strOf f 32), .int .i64 (j : Int)] w fun e w' => e = .returned (.bool (Cv.bit f j)) ∧ w' = w := by
  obtain ⟨b, hb⟩ : ∃ b, Cv.bit f j = b := ⟨_, rfl⟩
  have HB := Lib.hid hb
  rw [hb]
  clear hb
  go_enter Try.func23, Try.ntmps23
  by_cases h3 : j < 3
  · have e : Hid (false = b) := Lib.hid (by rw [← HB.out]; unfold Cv.bit; rw [decide_eq_true h3]; rfl)
    go_wp2_with fail
    go_ret
    have h := e.out
    subst h
    exact ⟨rfl, rfl⟩
  · by_cases h4 : j = 254
    · subst h4
      have e : Hid (true = b) := Lib.hid (by rw [← HB.out]; rfl)
      go_wp2_with fail
      go_ret
      have h := e.out
      subst h
      exact ⟨rfl, rfl⟩
    · have hx : ∀ w', (Instr.index 9 (.string (strOf f 32)) (.int .i64 ((j : Int) / 8))).run Try.prog w' = .ok (.int .u8 (n8 (f (j / 8)))) w' := fun w' => str_index f 32 (j / 8) (by omega) w'
      have h255 : ((j : Int) == 255) = false := by
        apply beq_false_of_ne; omega
      have h254 : ((j : Int) == 254) = false := by
        apply beq_false_of_ne; omega
      go_wp2_with fail
      have e3 : ((n8 (f (j / 8)) / 2 ^ (j % 8)).tmod 2 == 1) = b := by
        rw [tmod_bit, ← HB.out]
        unfold Cv.bit
        rw [decide_eq_false h3, decide_eq_false h4]; rfl
      rw [e3]
      go_ret
      exact ⟨rfl, rfl⟩
theorem refAddF (x y : Cv.F) (w : World) : Calls Try.prog 24 #[.string (numS x.val), .string (numS y.val)] w fun e w' => e = .returned (.string (numS (x + y).val)) ∧ Below w.heap.size w w' := by
  rw [Cv.val_add]; exact refAdd_any _ _ (Cv.lt2 x) (Cv.lt2 y) w
theorem refSubF (x y : Cv.F) (w : World) : Calls Try.prog 25 #[.string (numS x.val), .string (numS y.val)] w fun e w' => e = .returned (.string (numS (x - y).val)) ∧ Below w.heap.size w w' := by
  rw [Cv.val_sub]; exact refSub_any _ _ (Cv.lt2 x) (Nat.le_of_lt y.isLt) w
theorem refMulF (x y : Cv.F) (w : World) : Calls Try.prog 26 #[.string (numS x.val), .string (numS y.val)] w fun e w' => e = .returned (.string (numS (x * y).val)) ∧ Below w.heap.size w w' := by
  rw [Cv.val_mul]; exact refMul_any _ _ (Cv.lt2 x) (Cv.lt2 y) w
theorem refInvF (x : Cv.F) (w : World) : Calls Try.prog 27 #[.string (numS x.val)] w fun e w' => e = .returned (.string (numS (Cv.inv x).val)) ∧ Below w.heap.size w w' := by
  have h := refInv_any x.val (Cv.lt2 x) w
  have e : (Cv.inv x).val = x.val ^ (E5.p - 2) % E5.p := by
    unfold Cv.inv
    rw [Cv.fn_val, Nat.mod_eq_of_lt (invN_lt _)]; rfl
  rw [e]; exact h
theorem refOfF (g : Nat → BitVec 8) (w : World) : Calls Try.prog 22 #[.string (strOf g 32)] w fun e w' => e = .returned (.string (numS (ptF g).val)) ∧ Below w.heap.size w w' := refOf_any g w
theorem small_zeroF (w : World) : Calls Try.prog 13 #[.int .i64 0] w fun e w' => e = .returned (.string (numS (0 : Cv.F).val)) ∧ Below w.heap.size w w' := by
  rw [Cv.zero_val]; exact small_zero w
theorem small_oneF (w : World) : Calls Try.prog 13 #[.int .i64 1] w fun e w' => e = .returned (.string (numS (1 : Cv.F).val)) ∧ Below w.heap.size w w' := by
  rw [Cv.one_val]; exact small_one w
end Go.Proofs.Ytmfiabkhnoimhaa
