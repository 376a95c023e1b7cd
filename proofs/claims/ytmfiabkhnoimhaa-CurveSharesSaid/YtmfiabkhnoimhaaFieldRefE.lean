/-
  INVERSES: field's, and the document's; small numbers as texts.
-/
import Derived.Test.YtmfiabkhnoimhaaFieldRefD
import Derived.Laws.Rows
namespace Go.Proofs.Ytmfiabkhnoimhaa
open Go Go.RowKit Go.BigFrame
set_option linter.unusedVariables false
theorem small_num (n : BitVec 8) : strOf (byteF n) 32 = numS n.toNat := by
  refine str_same (fun i hi => ?_)
  apply BitVec.eq_of_toNat_eq
  rw [BitVec.toNat_ofNat]
  unfold byteF
  by_cases h : i = 0
  · subst h
    have := n.isLt
    rw [if_pos rfl]
    omega
  · rw [if_neg h]
    have h1 : n.toNat / 256 ^ i = 0 := by
      apply Nat.div_eq_of_lt
      have := n.isLt
      have h2 : 256 ^ 1 ≤ 256 ^ i := Nat.pow_le_pow_right (by omega) (by omega)
      omega
    rw [h1]; rfl
theorem small_zero (w : World) : Calls Try.prog 13 #[.int .i64 0] w fun e w' => e = .returned (.string (numS 0)) ∧ Below w.heap.size w w' := by
  have h := small_byteF 0#8 w 0 (by unfold n8; rfl)
  rw [small_num] at h
  exact h
theorem small_one (w : World) : Calls Try.prog 13 #[.int .i64 1] w fun e w' => e = .returned (.string (numS 1)) ∧ Below w.heap.size w w' := by
  have h := small_byteF 1#8 w 1 (by unfold n8; rfl)
  rw [small_num] at h
  exact h
theorem int_eq {a b : Int} (h : a = b) : Value.int .i64 a = .int .i64 b := by rw [h]
theorem step_down (c : Int) (k : Nat) : Value.int .i64 (c - (k : Int) - 1) = .int .i64 (c - ((k + 1 : Nat) : Int)) := int_eq (by omega)
/-- The document's Inv. -/
theorem refInv_any (a : Nat) (ha : a < 2 ^ 256) (w : World) :
    Calls Try.prog 27 #[.string (numS a)] w fun e w' => e = .returned (.string (numS (a ^ (E5.p - 2) % E5.p))) ∧ Below w.heap.size w w' := by
  obtain ⟨V, hV⟩ : ∃ V : Nat → Nat, ∀ k, V k = a ^ RefF.expD k % E5.p := ⟨_, fun _ => rfl⟩
  have HL := Lib.hid (fun k => (show V k < 2 ^ 256 from by rw [hV]; exact Nat.lt_trans (Nat.mod_lt _ (by decide)) (by decide)))
  have H0 := Lib.hid (show V 0 = 1 from by rw [hV]; show 1 % E5.p = 1; decide)
  have HE := Lib.hid (show a ^ (E5.p - 2) % E5.p = V 255 from by rw [hV]; exact congrArg (fun n => a ^ n % E5.p) RefF.expD_all.symm)
  have HS : ∀ k, V (k + 1) = if k = 252 ∨ k = 250 then V k * V k % E5.p else (V k * V k % E5.p) * a % E5.p := fun k => by
    rw [hV, hV]; exact RefF.powD_step a k
  have HS2 := Lib.hid HS
  clear hV HS
  rw [HE.out]
  go_enter Try.func27, Try.ntmps27
  go_wp2_with fail
  refine (small_one _).mono ?_
  rintro e w1 ⟨rfl, hb1⟩
  go_wp2_with fail
  go_loopw [3, 4] (fun s3 s4 wr => ∃ k : Nat, k ≤ 255 ∧ s4 = .int .i64 (254 - (k : Int)) ∧ s3 = .string (numS (V k)) ∧ Below w.heap.size w wr) (fun _ s4 _ => (intOf s4 + 1).toNat)
  case atStart => exact ⟨0, by omega, rfl, by rw [H0.out], hb1⟩
  case round =>
    clear hb1
    obtain ⟨k, hk, rfl, rfl, bel⟩ := hrel
    by_cases hlt : k < 255
    · have hge : (0 : Int) ≤ 254 - (k : Int) := by omega
      go_wp2_with fail
      refine (refMul_any _ _ (HL.out k) (HL.out k) _).mono ?_
      rintro e w2 ⟨rfl, hb2⟩
      have bel2 := bel.trans (hb2.mono bel.size)
      have HK := Lib.hid (HS2.out k)
      have hq1 : V k * V k % E5.p < 2 ^ 256 := Nat.lt_trans (Nat.mod_lt _ (by decide)) (by decide)
      generalize V k * V k % E5.p = q at *
      have HQ := Lib.hid hq1
      clear hq1
      by_cases h1 : k = 252 ∨ k = 250
      · have HE2 : Hid (V (k + 1) = q) := Lib.hid (by have := HK.out; rw [if_pos h1] at this; exact this)
        have h2 : 254 - (k : Int) = 2 ∨ 254 - (k : Int) = 4 := by omega
        have hn1 : 254 - (k : Int) - 1 = 254 - ((k + 1 : Nat) : Int) := by omega
        rcases h2 with h2 | h2
        all_goals
          rw [h2]
          go_wp2_with fail
          go_roundw
          case rel => exact ⟨k + 1, hlt, int_eq (by rw [← hn1, h2]; rfl), by rw [HE2.out], bel2⟩
          case measure => (rw [h2]; simp [intOf])
      · have HE2 : Hid (V (k + 1) = q * a % E5.p) := Lib.hid (by have := HK.out; rw [if_neg h1] at this; exact this)
        have h4 : (254 - (k : Int) != 2) = true := by rw [bne_iff_ne]; omega
        have h5 : (254 - (k : Int) != 4) = true := by rw [bne_iff_ne]; omega
        clear HK
        go_wp2_with fail
        refine (refMul_any _ _ HQ.out ha _).mono ?_
        rintro e w3 ⟨rfl, hb3⟩
        have bel3 := bel2.trans (hb3.mono bel2.size)
        go_wp2_with fail
        go_roundw
        case rel => exact ⟨k + 1, hlt, step_down 254 k, by rw [HE2.out], bel3⟩
        case measure => (simp [intOf] <;> omega)
    · obtain rfl : k = 255 := by omega
      go_wp2_with fail
      go_ret
      exact ⟨rfl, bel⟩
set_option maxHeartbeats 2000000 in
/-- field's Inv. -/
theorem invE_any (x : E5) (w : World) :
    Calls Try.prog 20 #[x.v] w fun e w' => e = .returned (E5.inv x).v ∧ Below w.heap.size w w' := by
  obtain ⟨V, hV⟩ : ∃ V : Nat → E5, ∀ k, V k = E5.invTo x k := ⟨_, fun _ => rfl⟩
  have H0 := Lib.hid (show V 0 = x from hV 0)
  have HE := Lib.hid (show E5.inv x = V 254 from by rw [hV]; rfl)
  have HS : ∀ k, V (k + 1) = if k = 249 ∨ k = 251 then E5.mul (V k) (V k) else E5.mul (E5.mul (V k) (V k)) x := fun k => by
    rw [hV, hV]; rfl
  have HS2 := Lib.hid HS
  clear hV HS
  rw [HE.out]
  rw [E5.v_cells x]
  have hz : (Try.prog.info? 40).map (·.zero) = some (some (.agg #[.int .u64 0, .int .u64 0, .int .u64 0, .int .u64 0, .int .u64 0])) := by kernel_rfl
  go_enter Try.func20, Try.ntmps20
  go_wp2_with (first
    | (refine wpList_alloc_row (o := ⟨some 2, .alloc 40, _, _, _, _⟩) rfl 40 rfl _ hz ?_)
    | (refine wpList_alloc_row (o := ⟨some 3, .alloc 40, _, _, _, _⟩) rfl 40 rfl _ hz ?_)
    | (refine wpList_load_row (o := ⟨some 5, .load 40 _, _, _, _, _⟩) rfl 40 _ rfl w.heap.size rfl _ x.cells (0, 0) _ (rows_alloc w [_, _] 0) Try.underlying40 rfl (by kernel_rfl) ?_)
    | (refine wpList_store_new (o := ⟨none, .store 40 (.tmp 3) (.tmp 5), _, _, _, _⟩) rfl 40 _ _ rfl #[.int .u64 0, .int .u64 0, .int .u64 0, .int .u64 0, .int .u64 0] x.cells _ rfl rfl rfl (by kernel_rfl) (Eq.trans (b := 5) rfl rfl) (by kernel_rfl) ?_))
  have R0 : (((w.alloc (.cells x.cells 40)).alloc (.cells #[.int .u64 0, .int .u64 0, .int .u64 0, .int .u64 0, .int .u64 0] 40)).alloc (.cells x.cells 40)).heap[w.heap.size]? = some (.cells x.cells 40 (0, 0)) := rows_alloc w [_, _, _] 0
  have R1 : (((w.alloc (.cells x.cells 40)).alloc (.cells #[.int .u64 0, .int .u64 0, .int .u64 0, .int .u64 0, .int .u64 0] 40)).alloc (.cells x.cells 40)).heap[w.heap.size + 1]? = some (.cells #[.int .u64 0, .int .u64 0, .int .u64 0, .int .u64 0, .int .u64 0] 40 (0, 0)) := rows_alloc w [_, _, _] 1
  have R2 : (((w.alloc (.cells x.cells 40)).alloc (.cells #[.int .u64 0, .int .u64 0, .int .u64 0, .int .u64 0, .int .u64 0] 40)).alloc (.cells x.cells 40)).heap[w.heap.size + 1 + 1]? = some (.cells (V 0).cells 40 (0, 0)) := by rw [H0.out]; exact rows_alloc w [_, _, _] 2
  have hb : Below w.heap.size w (((w.alloc (.cells x.cells 40)).alloc (.cells #[.int .u64 0, .int .u64 0, .int .u64 0, .int .u64 0, .int .u64 0] 40)).alloc (.cells x.cells 40)) := by
    repeat (first | exact Below.refl _ _ | refine Below.alloc ?_ (by simp; try omega) _)
  generalize hW : ((w.alloc _).alloc _).alloc _ = wa at *
  clear hW hz
  generalize hA : w.heap.size = A at *
  go_loopw [4] (fun s wr => ∃ k : Nat, k ≤ 254 ∧ s = .int .i64 (253 - (k : Int)) ∧ wr.heap[A]? = some (.cells x.cells 40 (0, 0)) ∧ wr.heap[A + 1]? = some (.cells #[.int .u64 0, .int .u64 0, .int .u64 0, .int .u64 0, .int .u64 0] 40 (0, 0)) ∧ wr.heap[A + 1 + 1]? = some (.cells (V k).cells 40 (0, 0)) ∧ Below A w wr) (fun s _ => (intOf s + 1).toNat)
  case atStart => exact ⟨0, by omega, rfl, R0, R1, R2, hb⟩
  case round =>
    clear R0 R1 R2 hb
    obtain ⟨k, hk, rfl, q0, q1, q2, bel⟩ := hrel
    by_cases hlt : k < 254
    · have hge : (0 : Int) ≤ 253 - (k : Int) := by omega
      go_wp2_with (first
        | (refine wpList_load_row (o := ⟨some 10, .load 40 _, _, _, _, _⟩) rfl 40 _ rfl (A + 1 + 1) rfl _ (V k).cells (0, 0) _ q2 Try.underlying40 rfl (by kernel_rfl) ?_)
        | (refine wpList_load_row (o := ⟨some 11, .load 40 _, _, _, _, _⟩) rfl 40 _ rfl (A + 1 + 1) rfl _ (V k).cells (0, 0) _ q2 Try.underlying40 rfl (by kernel_rfl) ?_))
      refine (mulE_any (V k) (V k) _).mono ?_
      rintro e w2 ⟨rfl, hb2⟩
      have l2 := lt_of_heap q2
      have q0 := (hb2.block A (by omega)).trans q0
      have q1 := (hb2.block (A + 1) (by omega)).trans q1
      have q2 := (hb2.block (A + 1 + 1) (by omega)).trans q2
      have bel2 := bel.trans (hb2.mono (by omega))
      have HK := Lib.hid (HS2.out k)
      generalize E5.mul (V k) (V k) = q at *
      by_cases h1 : k = 249 ∨ k = 251
      · have HE2 : Hid (V (k + 1) = q) := Lib.hid (by have := HK.out; rw [if_pos h1] at this; exact this)
        have h2 : 253 - (k : Int) = 4 ∨ 253 - (k : Int) = 2 := by omega
        have hn1 : 253 - (k : Int) - 1 = 253 - ((k + 1 : Nat) : Int) := by omega
        clear HK
        rcases h2 with h2 | h2
        all_goals
          rw [h2]
          go_wp2_with (refine wpList_store_row (op := ⟨none, .store 40 (.tmp 3) (.tmp 12), _, _, _, _⟩) rfl 40 _ _ rfl (A + 1 + 1) _ _ q.cells rfl rfl q2 (Eq.trans (b := 5) rfl rfl) (by kernel_rfl) (by kernel_rfl) ?_; intro w3 hs3)
          have q1 := hs3.keep (by omega) q1
          have q0 := hs3.keep (by omega) q0
          have q2 := hs3.row
          have bel3 := bel2.trans (hs3.below A (by omega))
          clear hs3 bel2
          go_roundw
          case rel => exact ⟨k + 1, hlt, int_eq (by rw [← hn1, h2]; rfl), q0, q1, by rw [HE2.out]; exact q2, bel3⟩
          case measure => (simp [intOf] <;> omega)
      · have HE2 : Hid (V (k + 1) = q.mul x) := Lib.hid (by have := HK.out; rw [if_neg h1] at this; exact this)
        have h4 : (253 - (k : Int) != 4) = true := by rw [bne_iff_ne]; omega
        have h5 : (253 - (k : Int) != 2) = true := by rw [bne_iff_ne]; omega
        clear HK
        go_wp2_with (first
          | (refine wpList_store_row (op := ⟨none, .store 40 (.tmp 3) (.tmp 12), _, _, _, _⟩) rfl 40 _ _ rfl (A + 1 + 1) _ _ q.cells rfl rfl q2 (Eq.trans (b := 5) rfl rfl) (by kernel_rfl) (by kernel_rfl) ?_; intro w3 hs3; have q1 := hs3.keep (by omega) q1; have q0 := hs3.keep (by omega) q0; have q2 := hs3.row; have bel3 := bel2.trans (hs3.below A (by omega)))
          | (refine wpList_load_row (o := ⟨some 19, .load 40 _, _, _, _, _⟩) rfl 40 _ rfl (A + 1 + 1) rfl _ q.cells (0, 0) _ q2 Try.underlying40 rfl (by kernel_rfl) ?_)
          | (refine wpList_load_row (o := ⟨some 20, .load 40 _, _, _, _, _⟩) rfl 40 _ rfl (A) rfl _ x.cells (0, 0) _ q0 Try.underlying40 rfl (by kernel_rfl) ?_))
        refine (mulE_any q x _).mono ?_
        rintro e w4 ⟨rfl, hb4⟩
        have l4 := lt_of_heap q2
        have q0 := (hb4.block A (by omega)).trans q0
        have q1 := (hb4.block (A + 1) (by omega)).trans q1
        have q2 := (hb4.block (A + 1 + 1) (by omega)).trans q2
        have bel4 := bel3.trans (hb4.mono (by omega))
        generalize E5.mul q x = z at *
        go_wp2_with (refine wpList_store_row (op := ⟨none, .store 40 (.tmp 3) (.tmp 21), _, _, _, _⟩) rfl 40 _ _ rfl (A + 1 + 1) _ _ z.cells rfl rfl q2 (Eq.trans (b := 5) rfl rfl) (by kernel_rfl) (by kernel_rfl) ?_; intro w5 hs5)
        have q1 := hs5.keep (by omega) q1
        have q0 := hs5.keep (by omega) q0
        have q2 := hs5.row
        have bel5 := bel4.trans (hs5.below A (by omega))
        go_wp2_with fail
        go_roundw
        case rel => exact ⟨k + 1, hlt, step_down 253 k, q0, q1, by rw [HE2.out]; exact q2, bel5⟩
        case measure => (simp [intOf] <;> omega)
    · obtain rfl : k = 254 := by omega
      have hlt2 : ¬ (0 : Int) ≤ 253 - ((254 : Nat) : Int) := by omega
      go_wp2_with (first
        | (refine wpList_load_row (o := ⟨some 22, .load 40 _, _, _, _, _⟩) rfl 40 _ rfl (A + 1 + 1) rfl _ (V 254).cells (0, 0) _ q2 Try.underlying40 rfl (by kernel_rfl) ?_)
        | (refine wpList_store_row (op := ⟨none, .store 40 (.tmp 2) (.tmp 22), _, _, _, _⟩) rfl 40 _ _ rfl (A + 1) _ _ (V 254).cells rfl rfl q1 (Eq.trans (b := 5) rfl rfl) (by kernel_rfl) (by kernel_rfl) ?_; intro w5 hs5))
      exact ret_row (A + 1) _ 40 (V 254).cells rfl _ rfl hs5.row Try.underlying40 rfl (by kernel_rfl) rfl ⟨rfl, bel.trans (hs5.below _ (by omega))⟩
end Go.Proofs.Ytmfiabkhnoimhaa
