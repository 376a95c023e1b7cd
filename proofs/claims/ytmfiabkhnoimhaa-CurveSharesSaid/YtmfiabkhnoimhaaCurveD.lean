/-
  THE CALLS OF PACKAGE curve, FOURTH PART: clamped, Times.
-/
import Derived.Test.YtmfiabkhnoimhaaCurveC
namespace Go.Proofs.Ytmfiabkhnoimhaa
open Go Go.RowKit Go.BigFrame
set_option linter.unusedVariables false
set_option linter.unusedSimpArgs false
set_option maxHeartbeats 4000000 in
set_option maxRecDepth 100000 in
theorem clamped_any (f : Nat → BitVec 8) (w : World) :
    Calls Try.prog 14 #[.agg (b32 f)] w fun e w' => e = .returned (.agg (b32 (clampF f))) ∧ Below w.heap.size w w' := by
  go_enter Try.func14, Try.ntmps14
  go_upto_region 1 with (fail)
  have R0 : ((w.alloc (.cells (b32 f) 22)).alloc (.cells (b32 fun _ => 0#8) 22)).heap[w.heap.size]? = some (.cells (b32 f) 22 (0, 0)) := rows_alloc w [_, _] 0
  have R1 : ((w.alloc (.cells (b32 f) 22)).alloc (.cells (b32 fun _ => 0#8) 22)).heap[w.heap.size + 1]? = some (.cells (b32 fun _ => 0#8) 22 (0, 0)) := rows_alloc w [_, _] 1
  have B0 : Below w.heap.size w ((w.alloc (.cells (b32 f) 22)).alloc (.cells (b32 fun _ => 0#8) 22)) := ((Below.refl _ _).alloc (Nat.le_refl _) _).alloc (by simp) _
  rw [b32_zero] at R1 B0 R0
  simp only [Array.replicate, List.replicate] at R0 R1 B0
  generalize hW : (w.alloc _).alloc _ = wa at *
  clear hW
  have H1 := Lib.hid R1
  clear R1
  have k0 : wa.cell? ⟨w.heap.size, 0, none⟩ = some (.int .u8 (n8 (f 0))) := by rw [cell_of_row _ _ _ _ _ _ R0]; exact b32_get f 0 (by omega)
  have kf : wa.frozen? ⟨w.heap.size, 0, none⟩ = false := frozen_of_row _ _ _ _ _ R0
  go_upto_region 2 with (fail)
  have S1 := rowSet_cell wa w.heap.size 0 22 (b32 f) (.int .u8 (n8 (f 0 &&& 248#8))) R0
  rw [b32_set] at S1
  have e31 : (fun i => if i = 0 then f 0 &&& 248#8 else f i) 31 = f 31 := rfl
  generalize hf1 : (fun i => if i = 0 then f 0 &&& 248#8 else f i) = f1 at *
  have HF1 := Lib.hid hf1
  generalize wa.setCell _ _ = w1 at *
  have H1 := Lib.hid (S1.keep (by omega) H1.out)
  have B0 := B0.trans (S1.below _ (Nat.le_refl _))
  have R0 := S1.row
  clear S1 k0 kf hf1
  have k0 : w1.cell? ⟨w.heap.size, 31, none⟩ = some (.int .u8 (n8 (f 31))) := by rw [cell_of_row _ _ _ _ _ _ R0, ← e31]; exact b32_get f1 31 (by omega)
  have kf : w1.frozen? ⟨w.heap.size, 31, none⟩ = false := frozen_of_row _ _ _ _ _ R0
  go_upto_region 3 with (fail)
  have S1 := rowSet_cell w1 w.heap.size 31 22 (b32 f1) (.int .u8 (n8 (f 31 &&& 127#8))) R0
  rw [b32_set] at S1
  have e32 : (fun i => if i = 31 then f 31 &&& 127#8 else f1 i) 31 = f 31 &&& 127#8 := rfl
  generalize hf2 : (fun i => if i = 31 then f 31 &&& 127#8 else f1 i) = f2 at *
  have HF2 := Lib.hid hf2
  generalize w1.setCell _ _ = w2 at *
  have H1 := Lib.hid (S1.keep (by omega) H1.out)
  have B0 := B0.trans (S1.below _ (Nat.le_refl _))
  have R0 := S1.row
  clear S1 k0 kf hf2 e31
  have k0 : w2.cell? ⟨w.heap.size, 31, none⟩ = some (.int .u8 (n8 (f 31 &&& 127#8))) := by rw [cell_of_row _ _ _ _ _ _ R0, ← e32]; exact b32_get f2 31 (by omega)
  have kf : w2.frozen? ⟨w.heap.size, 31, none⟩ = false := frozen_of_row _ _ _ _ _ R0
  go_upto_region 4 with (fail)
  have S1 := rowSet_cell w2 w.heap.size 31 22 (b32 f2) (.int .u8 (n8 (f 31 &&& 127#8 ||| 64#8))) R0
  rw [b32_set] at S1
  have e3 : b32 (fun i => if i = 31 then f 31 &&& 127#8 ||| 64#8 else f2 i) = b32 (clampF f) := b32_congr _ _ (fun i hi => by
    rw [← HF2.out, ← HF1.out]
    unfold clampF
    by_cases h0 : i = 0
    · subst h0; rfl
    · by_cases h1 : i = 31
      · subst h1; rfl
      · simp only [h0, h1, if_false])
  rw [e3] at S1
  obtain ⟨g, hg⟩ : ∃ g, clampF f = g := ⟨_, rfl⟩
  have HG := Lib.hid hg
  rw [hg] at S1
  clear hg
  generalize w2.setCell _ _ = w3 at *
  have H1 := Lib.hid (S1.keep (by omega) H1.out)
  have B0 := B0.trans (S1.below _ (Nat.le_refl _))
  have R0 := S1.row
  clear S1 k0 kf e32 e3
  go_wp2_with (first
    | ((with_reducible refine wpList_load_row (o := ⟨some 15, .load 22 (.tmp 1), _, _, _, _⟩) ?_ 22 (.tmp 1) ?_ w.heap.size ?_ _ _ (0, 0) _ R0 Try.underlying22 ?_ ?_ ?_); (focus rfl); (focus rfl); (focus rfl); (focus rfl); (focus (rw [b32_size]; kernel_rfl)))
    | ((with_reducible refine wpList_store_row (op := ⟨none, .store 22 (.tmp 2) (.tmp 15), _, _, _, _⟩) ?_ 22 (.tmp 2) (.tmp 15) ?_ (w.heap.size + 1) _ _ (b32 g) ?_ ?_ H1.out ?_ ?_ (b32_one _) ?_); (focus rfl); (focus rfl); (focus rfl); (focus rfl); (focus (rw [b32_size]; rfl)); (focus (rw [b32_size]; kernel_rfl)); intro w6 S5))
  exact ret_row (w.heap.size + 1) _ 22 (b32 g) rfl _ rfl S5.row Try.underlying22 rfl (by rw [b32_size]; kernel_rfl) rfl ⟨by rw [HG.out], B0.trans (S5.below _ (by omega))⟩
theorem bit_test (x : BitVec 8) (s : Nat) (hs : s < 8) : (Go.bits .and .u8 (n8 x / 2 ^ s) 1 == 1) = x.getLsbD s := by
  have e1 : n8 x / 2 ^ s = n8 (x >>> s) := by
    have h2 : ∀ b : BitVec 8, n8 b = (b.toNat : Int) := fun b => by unfold n8; rfl
    rw [h2, h2, BitVec.toNat_ushiftRight, Nat.shiftRight_eq_div_pow, show (2 : Int) ^ s = ((2 ^ s : Nat) : Int) from (Int.natCast_pow 2 s).symm]
    rfl
  have e2 : ∀ y : BitVec 8, Go.bits .and .u8 (n8 y) 1 = n8 (y &&& 1#8) := fun y => by
    have h : ∀ c : Nat, Go.bits .and .u8 (n8 y) ((c : Nat) : Int) = n8 (y &&& BitVec.ofNat 8 c) := fun c => by
      show IntKind.wrap .u8 _ = _
      rw [show BitVec.ofInt (IntKind.bits .u8) (n8 y) = y from ofInt_n8 y, show BitVec.ofInt (IntKind.bits .u8) ((c : Nat) : Int) = BitVec.ofNat 8 c from ofInt_lit8 c, wrap_n8]
      refine congrArg n8 ?_
      have := ofInt_n8 (y &&& BitVec.ofNat 8 c)
      unfold n8 at this
      exact this
    exact h 1
  rw [e1, e2]
  have h1 : (1 : Int) = n8 1#8 := by unfold n8; rfl
  have key := lsb8 x s hs
  rw [h1]
  cases hx : x.getLsbD s with
  | true => rw [key.2 hx]; exact beq_self_eq_true _
  | false =>
    have : x >>> s &&& 1#8 ≠ 1#8 := fun h => by rw [key.1 h] at hx; cases hx
    exact beq_false_of_ne (fun h => this (by
      apply BitVec.eq_of_toNat_eq
      have h2 : ∀ b : BitVec 8, n8 b = (b.toNat : Int) := fun b => by unfold n8; rfl
      rw [h2, h2] at h
      exact Int.ofNat.inj h))
def numF (n : Nat) (i : Nat) : BitVec 8 := BitVec.ofNat 8 (n / 256 ^ i)
theorem bytes_is {x : E5} {n : Cv.F} (h : Is x n) : b32 x.byte = b32 (numF n.val) := b32_congr _ _ (fun i hi => by
  apply BitVec.eq_of_toNat_eq
  rw [E5.byte_nat h.ok i hi, h.val]
  unfold numF
  rw [BitVec.toNat_ofNat])
theorem ofE_cells (f : Nat → BitVec 8) (w : World) : Calls Try.prog 16 #[.agg (b32 f)] w fun e w' => e = .returned (.agg (E5.of f).cells) ∧ Below w.heap.size w w' := ofE_any f w
theorem mulE_cells (x y : E5) (w : World) : Calls Try.prog 19 #[.agg x.cells, .agg y.cells] w fun e w' => e = .returned (.agg (x.mul y).cells) ∧ Below w.heap.size w w' := mulE_any x y w
theorem invE_cells (x : E5) (w : World) : Calls Try.prog 20 #[.agg x.cells] w fun e w' => e = .returned (.agg x.inv.cells) ∧ Below w.heap.size w w' := invE_any x w
theorem bytesE_cells (x : E5) (w : World) : Calls Try.prog 21 #[.agg x.cells] w fun e w' => e = .returned (.agg (b32 x.byte)) ∧ Below w.heap.size w w' := bytesE_any x w
/-- The point as a number modulo p. -/
def ptF (g : Nat → BitVec 8) : Cv.F := Cv.fn (E5.num g 32 % 2 ^ 255)
/-- What Times answers, as a number. -/
def timesN (f g : Nat → BitVec 8) : Nat := (Cv.out (ptF g) (Cv.bit f)).val
theorem times_end (f g : Nat → BitVec 8) : b32 ((ldE (E5.of g) (Cv.bit f) 255).x2.mul (ldE (E5.of g) (Cv.bit f) 255).z2.inv).byte = b32 (numF (timesN f g)) :=
  bytes_is (ld_end (Is.of g) (Cv.bit f) (bit_zero f))
set_option maxHeartbeats 40000000 in
set_option maxRecDepth 100000 in
theorem times_any (f g : Nat → BitVec 8) (w : World) :
    Calls Try.prog 8 #[.agg (b32 f), .agg (b32 g)] w fun e w' => e = .returned (.agg (b32 (numF (timesN f g)))) ∧ Below w.heap.size w w' := by
  rw [← times_end]
  go_enter Try.func8, Try.ntmps8
  go_upto_region 1 with (fail)
  have R0 : (((w.alloc (.cells (b32 f) 22)).alloc (.cells (b32 g) 22)).alloc (.cells (b32 fun _ => 0#8) 22)).heap[w.heap.size]? = some (.cells (b32 f) 22 (0, 0)) := rows_alloc w [_, _, _] 0
  have R1 : (((w.alloc (.cells (b32 f) 22)).alloc (.cells (b32 g) 22)).alloc (.cells (b32 fun _ => 0#8) 22)).heap[w.heap.size + 1]? = some (.cells (b32 g) 22 (0, 0)) := rows_alloc w [_, _, _] 1
  have R2 : (((w.alloc (.cells (b32 f) 22)).alloc (.cells (b32 g) 22)).alloc (.cells (b32 fun _ => 0#8) 22)).heap[w.heap.size + 2]? = some (.cells (b32 fun _ => 0#8) 22 (0, 0)) := rows_alloc w [_, _, _] 2
  have B0 : Below w.heap.size w (((w.alloc (.cells (b32 f) 22)).alloc (.cells (b32 g) 22)).alloc (.cells (b32 fun _ => 0#8) 22)) := (((Below.refl _ _).alloc (Nat.le_refl _) _).alloc (by simp) _).alloc (by simp; omega) _
  rw [b32_zero] at R0 R1 B0 R2
  simp only [Array.replicate, List.replicate] at R0 R1 B0 R2
  generalize hW : ((w.alloc _).alloc _).alloc _ = wa at *
  clear hW
  have R2 : wa.heap[w.heap.size + 1 + 1]? = some (.cells (b32 fun _ => 0#8) 22 (0, 0)) := by rw [b32_zero]; exact R2
  have RN := Lib.hid R0
  have RP := Lib.hid R1
  have RR := Lib.hid R2
  have BEL := Lib.hid B0
  clear R0 R1 R2 B0
  go_upto_region 2 with (first
    | ((with_reducible refine wpList_load_row (o := ⟨some 9, .load 22 (.tmp 2), _, _, _, _⟩) ?_ 22 (.tmp 2) ?_ w.heap.size ?_ _ _ (0, 0) _ RN.out Try.underlying22 ?_ ?_ ?_); (focus rfl); (focus rfl); (focus rfl); (focus rfl); (focus (rw [b32_size]; kernel_rfl)))
    | (go_at_call 14; with_reducible refine (clamped_any _ _).mono ?_; rintro e w1 ⟨rfl, hq⟩)
    | ((with_reducible refine wpList_store_row (op := ⟨none, .store 22 (.tmp 2) (.tmp 10), _, _, _, _⟩) ?_ 22 (.tmp 2) (.tmp 10) ?_ w.heap.size _ _ (b32 (clampF f)) ?_ ?_ (below_row hq (lt_row RN.out) RN.out) ?_ ?_ (b32_one _) ?_); (focus rfl); (focus rfl); (focus rfl); (focus rfl); (focus (rw [b32_size]; rfl)); (focus (rw [b32_size]; kernel_rfl)); intro w2 S1))
  have RP := Lib.hid (S1.keep (by omega) (below_row hq (lt_row RP.out) RP.out))
  have RR := Lib.hid (S1.keep (by omega) (below_row hq (lt_row RR.out) RR.out))
  have BEL := Lib.hid ((BEL.out.trans (hq.mono BEL.out.size)).trans (S1.below _ (Nat.le_refl _)))
  have RN := Lib.hid S1.row
  clear S1 hq
  go_upto_region 3 with (first
    | ((with_reducible refine wpList_load_row (o := ⟨some 11, .load 22 (.tmp 3), _, _, _, _⟩) ?_ 22 (.tmp 3) ?_ (w.heap.size + 1) ?_ _ _ (0, 0) _ RP.out Try.underlying22 ?_ ?_ ?_); (focus rfl); (focus rfl); (focus rfl); (focus rfl); (focus (rw [b32_size]; kernel_rfl)))
    | (go_at_call 16; with_reducible refine (ofE_cells _ _).mono ?_; rintro e w3 ⟨rfl, hq⟩)
    | (go_at_call 15; with_reducible refine (start_any _ _).mono ?_; rintro e w4 ⟨rfl, hq4⟩)
    | ((with_reducible refine wpList_alloc_row (o := ⟨some 5, .alloc 42, _, _, _, _⟩) ?_ 42 ?_ (Array.replicate 25 (.int .u64 0)) ?_ ?_); (focus rfl); (focus rfl); (focus kernel_rfl))
    | ((with_reducible refine wpList_store_new (o := ⟨none, .store 42 (.tmp 5) (.tmp 13), _, _, _, _⟩) ?_ 42 (.tmp 5) (.tmp 13) ?_ (Array.replicate 25 (.int .u64 0)) (L5.mk (E5.of g) oneE zeroE (E5.of g) oneE).cells w4.heap.size ?_ ?_ ?_ (by kernel_rfl) ?_ (L5.one _) ?_); (focus rfl); (focus rfl); (focus rfl); (focus rfl); (focus rfl); (focus exact Eq.trans (b := 25) rfl rfl)))
  obtain ⟨q5, hq5⟩ : ∃ q, w4.heap.size = q := ⟨_, rfl⟩
  obtain ⟨bits, hbits⟩ : ∃ b, Cv.bit f = b := ⟨_, rfl⟩
  have HBT := Lib.hid hbits
  have T : Below w2.heap.size w2 (w4.alloc (.cells (L5.mk (E5.of g) oneE zeroE (E5.of g) oneE).cells 42)) := (hq.trans (hq4.mono hq.size)).alloc (by have := hq.size; have := hq4.size; omega) _
  have R5 : (w4.alloc (.cells (L5.mk (E5.of g) oneE zeroE (E5.of g) oneE).cells 42)).heap[q5]? = some (.cells (ldE (E5.of g) bits 0).cells 42 (0, 0)) := by rw [← hq5]; exact heap_alloc_last _ _
  have G5 : Hid (w.heap.size + 1 + 1 < q5) := Lib.hid (by have := lt_row RR.out; have := hq.size; have := hq4.size; omega)
  rw [hq5]
  generalize w4.alloc _ = wl at *
  have RN := below_row T (lt_row RN.out) RN.out
  have RR := below_row T (lt_row RR.out) RR.out
  have BEL := BEL.out.trans (T.mono BEL.out.size)
  clear T hq hq4 RP hq5 hbits
  simp only [Act.put, List.setIfInBounds_toArray, List.set_cons_succ, List.set_cons_zero]
  go_wp2_with fail
  go_loopw [6, 7] (fun s6 s7 wq => ∃ k : Nat, k ≤ 255 ∧ s7 = .int .i64 (254 - (k : Int)) ∧ s6 = .bool (prevB bits k) ∧ wq.heap[w.heap.size]? = some (.cells (b32 (clampF f)) 22 (0, 0)) ∧ wq.heap[w.heap.size + 1 + 1]? = some (.cells (b32 fun _ => 0#8) 22 (0, 0)) ∧ wq.heap[q5]? = some (.cells (ldE (E5.of g) bits k).cells 42 (0, 0)) ∧ Below w.heap.size w wq) (fun _ s7 _ => (intOf s7 + 1).toNat)
  case atStart => exact ⟨0, by omega, rfl, rfl, RN, RR, R5, BEL⟩
  case round =>
    clear RN RR R5 BEL
    obtain ⟨k, hk, rfl, rfl, RN, RR, R5, BEL⟩ := hrel
    by_cases hlt : k < 255
    · obtain ⟨j, hj, hjk, hj8⟩ : ∃ j : Nat, 254 - (k : Int) = (j : Int) ∧ j = 254 - k ∧ j ≤ 254 := ⟨254 - k, by omega, rfl, by omega⟩
      have HJ := Lib.hid hj
      have HK := Lib.hid hjk
      clear hjk
      rw [hj]
      have kc : wr.cell? ⟨w.heap.size, j / 8, none⟩ = some (.int .u8 (n8 (clampF f (j / 8)))) := by rw [cell_of_row _ _ _ _ _ _ RN]; exact b32_get _ _ (by omega)
      clear hj
      go_upto_region 8 with (fail)
      rw [bit_test _ _ (by omega), clamp_bit f j hj8]
      obtain ⟨b, hb⟩ : ∃ b, Cv.bit f j = b := ⟨_, rfl⟩
      have hb2 : Hid (bits (254 - k) = b) := Lib.hid (by rw [← HK.out, ← HBT.out]; exact hb)
      rw [hb]
      obtain ⟨pv, hpv⟩ : ∃ pv, prevB bits k = pv := ⟨_, rfl⟩
      have HPV := Lib.hid hpv
      rw [hpv]
      obtain ⟨Lk, hL⟩ : ∃ Lk, ldE (E5.of g) bits k = Lk := ⟨_, rfl⟩
      have HLK := Lib.hid hL
      rw [hL] at R5
      have RN := Lib.hid RN; have RR := Lib.hid RR; have R5 := Lib.hid R5; have BEL := Lib.hid BEL
      clear hb hpv hL kc
      go_upto_region 9 with (first
        | ((with_reducible refine wpList_load_row (o := ⟨some 27, .load 42 (.tmp 5), _, _, _, _⟩) ?_ 42 (.tmp 5) ?_ q5 ?_ _ _ (0, 0) _ R5.out Try.underlying42 ?_ ?_ ?_); (focus rfl); (focus rfl); (focus rfl); (focus rfl); (focus kernel_rfl))
        | (go_at_call 17; with_reducible refine (swapped_any _ _ _).mono ?_; rintro e w1 ⟨rfl, hq⟩)
        | ((with_reducible refine wpList_store_row (op := ⟨none, .store 42 (.tmp 5) (.tmp 31), _, _, _, _⟩) ?_ 42 (.tmp 5) (.tmp 31) ?_ q5 _ _ (swapL (b != pv) Lk).cells ?_ ?_ (below_row hq (lt_row R5.out) R5.out) ?_ ?_ (L5.one _) ?_); (focus rfl); (focus rfl); (focus rfl); (focus rfl); (focus exact Eq.trans (b := 25) rfl rfl); (focus kernel_rfl); intro w2 S1))
      have RN := Lib.hid (S1.keep (by have := G5.out; omega) (below_row hq (lt_row RN.out) RN.out))
      have RR := Lib.hid (S1.keep (by have := G5.out; omega) (below_row hq (lt_row RR.out) RR.out))
      have BEL := Lib.hid ((BEL.out.trans (hq.mono BEL.out.size)).trans (S1.below _ (by have := G5.out; omega)))
      have R5 := Lib.hid S1.row
      clear S1 hq
      obtain ⟨Lm, hm⟩ : ∃ Lm, swapL (b != pv) Lk = Lm := ⟨_, rfl⟩
      have HM := Lib.hid hm
      rw [hm] at R5
      clear hm
      simp only [Act.put, List.setIfInBounds_toArray, List.set_cons_succ, List.set_cons_zero]
      go_upto_region 6 with (first
        | ((with_reducible refine wpList_load_row (o := ⟨some 33, .load 42 (.tmp 5), _, _, _, _⟩) ?_ 42 (.tmp 5) ?_ q5 ?_ _ _ (0, 0) _ R5.out Try.underlying42 ?_ ?_ ?_); (focus rfl); (focus rfl); (focus rfl); (focus rfl); (focus kernel_rfl))
        | (go_at_call 18; with_reducible refine (step_any _ _).mono ?_; rintro e w3 ⟨rfl, hq⟩)
        | ((with_reducible refine wpList_store_row (op := ⟨none, .store 42 (.tmp 5) (.tmp 34), _, _, _, _⟩) ?_ 42 (.tmp 5) (.tmp 34) ?_ q5 _ _ (stepE Lm).cells ?_ ?_ (below_row hq (lt_row R5.out) R5.out) ?_ ?_ (L5.one _) ?_); (focus rfl); (focus rfl); (focus rfl); (focus rfl); (focus exact Eq.trans (b := 25) rfl rfl); (focus kernel_rfl); intro w4 S1))
      have RN := S1.keep (by have := G5.out; omega) (below_row hq (lt_row RN.out) RN.out)
      have RR := S1.keep (by have := G5.out; omega) (below_row hq (lt_row RR.out) RR.out)
      have BEL := (BEL.out.trans (hq.mono BEL.out.size)).trans (S1.below _ (by have := G5.out; omega))
      have R5 := S1.row
      have eL : stepE Lm = ldE (E5.of g) bits (k + 1) := by
        show _ = stepE (swapL (bits (254 - k) != prevB bits k) (ldE (E5.of g) bits k))
        rw [hb2.out, HPV.out, HLK.out, HM.out]
      have eB : b = prevB bits (k + 1) := hb2.out.symm
      rw [eL] at R5
      have HE := Lib.hid eB
      clear S1 hq eL eB
      go_wp2_with fail
      go_roundw
      case rel => exact ⟨k + 1, by omega, by have := HJ.out; go_num, by rw [HE.out], RN, RR, R5, BEL⟩
      case measure => (have := HJ.out; simp [intOf] <;> omega)
    · obtain rfl : k = 255 := by omega
      have hneg : (254 : Int) - ((255 : Nat) : Int) = -1 := by decide
      rw [hneg]
      go_upto_region 11 with (fail)
      obtain ⟨Lz, hL⟩ : ∃ Lz, ldE (E5.of g) bits 255 = Lz := ⟨_, rfl⟩
      have HL := Lib.hid hL
      rw [hL] at R5
      have RR := Lib.hid RR; have R5 := Lib.hid R5; have BEL := Lib.hid BEL
      clear RN hL hneg
      obtain ⟨IZ, hI⟩ : ∃ x, Lz.z2.inv = x := ⟨_, rfl⟩
      obtain ⟨MZ, hM⟩ : ∃ x, Lz.x2.mul IZ = x := ⟨_, rfl⟩
      obtain ⟨o, ho⟩ : ∃ o, MZ.byte = o := ⟨_, rfl⟩
      have V1 := invE_cells Lz.z2
      have V2 := mulE_cells Lz.x2 IZ
      have V3 := bytesE_cells MZ
      rw [hI] at V1
      rw [hM] at V2
      rw [ho] at V3
      have HO : Hid (b32 ((ldE (E5.of g) (Cv.bit f) 255).x2.mul (ldE (E5.of g) (Cv.bit f) 255).z2.inv).byte = b32 o) := Lib.hid (by rw [HBT.out, HL.out, hI, hM, ho])
      have V1 := Lib.hid V1; have V2 := Lib.hid V2; have V3 := Lib.hid V3
      clear hI hM ho
      refine region_class1 7 (fun w' => Below wr.drew.heap.size wr.drew w') mixedOrders (by kernel_rfl) (Below.refl _ _) rfl ?_
      refine wpQuiet_take (by rfl) (fun K hK => ⟨.pointer (some ⟨q5, 5, none⟩), fun w2 hw2 => quiet_run (by kernel_rfl), hK _ ?_⟩)
      clear hK K
      simp only [Act.put, List.setIfInBounds_toArray, List.set_cons_succ, List.set_cons_zero]
      refine wpQuiet_take (by rfl) (fun K hK => ⟨.agg Lz.x2.cells, fun w2 hw2 => quiet_load_E (.tmp 35) rfl q5 5 rfl Lz.x2 (L5.range2 (below_row hw2 (lt_row R5.out) R5.out) :), hK _ ?_⟩)
      clear hK K
      simp only [Act.put, List.setIfInBounds_toArray, List.set_cons_succ, List.set_cons_zero]
      refine wpQuiet_take (by rfl) (fun K hK => ⟨.pointer (some ⟨q5, 10, none⟩), fun w2 hw2 => quiet_run (by kernel_rfl), hK _ ?_⟩)
      clear hK K
      simp only [Act.put, List.setIfInBounds_toArray, List.set_cons_succ, List.set_cons_zero]
      refine wpQuiet_take (by rfl) (fun K hK => ⟨.agg Lz.z2.cells, fun w2 hw2 => quiet_load_E (.tmp 37) rfl q5 10 rfl Lz.z2 (L5.range3 (below_row hw2 (lt_row R5.out) R5.out) :), hK _ ?_⟩)
      clear hK K
      simp only [Act.put, List.setIfInBounds_toArray, List.set_cons_succ, List.set_cons_zero]
      refine wpQuiet_take (by rfl) (fun K hK => ⟨.agg IZ.cells, fun w2 hw2 => ?_, hK _ ?_⟩)
      · have hw3 := Lib.hid hw2
        clear hw2
        go_simp
        go_at_call 20
        refine (V1.out w2).mono ?_
        rintro e w4 ⟨rfl, hb4⟩
        exact ⟨rfl, hw3.out.trans (hb4.mono hw3.out.size)⟩
      clear hK K
      simp only [Act.put, List.setIfInBounds_toArray, List.set_cons_succ, List.set_cons_zero]
      refine wpQuiet_take (by rfl) (fun K hK => ⟨.agg MZ.cells, fun w2 hw2 => ?_, hK _ ?_⟩)
      · have hw3 := Lib.hid hw2
        clear hw2
        go_simp
        go_at_call 19
        refine (V2.out w2).mono ?_
        rintro e w4 ⟨rfl, hb4⟩
        exact ⟨rfl, hw3.out.trans (hb4.mono hw3.out.size)⟩
      clear hK K
      simp only [Act.put, List.setIfInBounds_toArray, List.set_cons_succ, List.set_cons_zero]
      refine wpQuiet_take (by rfl) (fun K hK => ⟨.agg (b32 o), fun w2 hw2 => ?_, hK _ ?_⟩)
      · have hw3 := Lib.hid hw2
        clear hw2
        go_simp
        go_at_call 21
        refine (V3.out w2).mono ?_
        rintro e w4 ⟨rfl, hb4⟩
        exact ⟨rfl, hw3.out.trans (hb4.mono hw3.out.size)⟩
      clear hK K
      simp only [Act.put, List.setIfInBounds_toArray, List.set_cons_succ, List.set_cons_zero]
      refine wpQuiet_take0 ?_
      intro w1 hq0
      have hq : Below wr.heap.size wr w1 := (Below.refl _ _).drew.trans hq0
      clear hq0
      refine wpList_store_row (op := ⟨none, .store 22 (.tmp 4) (.tmp 41), _, _, _, _⟩) rfl 22 (.tmp 4) (.tmp 41) rfl (w.heap.size + 1 + 1) _ _ (b32 o) rfl rfl (below_row hq (lt_row RR.out) RR.out) (by rw [b32_size, b32_size]) (by rw [b32_size]; kernel_rfl) (b32_one _) ?_
      intro w5 S5
      go_wp2_with fail
      exact ret_row (w.heap.size + 1 + 1) _ 22 (b32 o) rfl _ rfl S5.row Try.underlying22 rfl (by rw [b32_size]; kernel_rfl) rfl ⟨by rw [HO.out], (BEL.out.trans (hq.mono BEL.out.size)).trans (S5.below _ (by omega))⟩
end Go.Proofs.Ytmfiabkhnoimhaa
