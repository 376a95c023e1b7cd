/-
  THE STATEMENTS' OWN EXAMPLE: a key of RFC 7748 has its public one.
-/
import Derived.Test.YtmfiabkhnoimhaaCurveF
namespace Go.Proofs.Ytmfiabkhnoimhaa
open Go Go.RowKit Go.BigFrame
set_option linter.unusedVariables false
set_option linter.unusedSimpArgs false
namespace Cv
def force {α : Type} (n : Nat) (f : Nat → α) : α := Nat.rec (f 0) (fun m _ => f (m + 1)) n
theorem force_eq {α : Type} (n : Nat) (f : Nat → α) : force n f = f n := by cases n <;> rfl
def pl : Nat := 57896044618658097711785492504343953926634992332820282019728792003956564819949
def stepN {α : Type} (x a b c d : Nat) (k : Nat → Nat → Nat → Nat → α) : α :=
  force ((a + b) % pl) fun A => force ((a + pl - b) % pl) fun B => force (A * A % pl) fun AA => force (B * B % pl) fun BB => force ((AA + pl - BB) % pl) fun E =>
  force ((c + d) % pl) fun C => force ((c + pl - d) % pl) fun D => force (D * A % pl) fun DA => force (C * B % pl) fun CB => force ((DA + CB) % pl) fun SU => force ((DA + pl - CB) % pl) fun DI =>
  force (SU * SU % pl) fun X3 => force (DI * DI % pl) fun DD => force (x * DD % pl) fun Z3 => force (AA * BB % pl) fun X2 => force (121665 * E % pl) fun M => force ((AA + M) % pl) fun N => force (E * N % pl) fun Z2 => k X2 Z2 X3 Z3
def runB (V x : Nat) : List Bool → Nat → Nat → Nat → Nat → Bool
  | [], a, b, _, _ => Nat.beq (V * b % pl) a && !Nat.beq b 0
  | true :: l, a, b, c, d => stepN x c d a b fun X2 Z2 X3 Z3 => runB V x l X3 Z3 X2 Z2
  | false :: l, a, b, c, d => stepN x a b c d fun X2 Z2 X3 Z3 => runB V x l X2 Z2 X3 Z3
def bl (bits : Nat → Bool) (k : Nat) : Nat → List Bool
  | 0 => []
  | n + 1 => bits (254 - k) :: bl bits (k + 1) n
theorem pl_eq : pl = E5.p := p_lit.symm
theorem k24_val : k24.val = 121665 := by unfold k24; rw [fn_val]; decide +kernel
theorem stepN_eq {α : Type} (x : F) (s : S4) (k : Nat → Nat → Nat → Nat → α) : stepN x.val s.a.val s.b.val s.c.val s.d.val k = k (step x s).a.val (step x s).b.val (step x s).c.val (step x s).d.val := by
  unfold stepN
  simp only [force_eq, pl_eq]
  unfold step
  simp only [← val_add, ← val_mul, ← val_sub]
  rw [← k24_val]
  simp only [← val_add, ← val_mul, ← val_sub]
theorem runB_ok (V : Nat) (x : F) (bits : Nat → Bool) : ∀ (n k : Nat) (s : S4), s = st x bits k → runB V x.val (bl bits k n) s.a.val s.b.val s.c.val s.d.val = true → V * (st x bits (k + n)).b.val % E5.p = (st x bits (k + n)).a.val ∧ (st x bits (k + n)).b.val ≠ 0
  | 0, k, s, hs, h => by
    subst hs
    unfold bl runB at h
    rw [Bool.and_eq_true, Bool.not_eq_true', pl_eq] at h
    refine ⟨Nat.eq_of_beq_eq_true h.1, fun h0 => ?_⟩
    rw [Nat.add_zero] at h0
    rw [h0] at h
    exact absurd h.2 (by decide)
  | n + 1, k, s, hs, h => by
    have hk : st x bits (k + 1) = sw (bits (254 - k)) (step x (sw (bits (254 - k)) s)) := by rw [hs]; rfl
    rw [show k + (n + 1) = (k + 1) + n by omega]
    unfold bl at h
    cases hb : bits (254 - k) with
    | true =>
      rw [hb] at h hk
      unfold runB at h
      have e := stepN_eq x ⟨s.c, s.d, s.a, s.b⟩ (fun X2 Z2 X3 Z3 => runB V x.val (bl bits (k + 1) n) X3 Z3 X2 Z2)
      dsimp only at e
      rw [e] at h
      exact runB_ok V x bits n (k + 1) ⟨(step x ⟨s.c, s.d, s.a, s.b⟩).c, (step x ⟨s.c, s.d, s.a, s.b⟩).d, (step x ⟨s.c, s.d, s.a, s.b⟩).a, (step x ⟨s.c, s.d, s.a, s.b⟩).b⟩ (by rw [hk]; rfl) h
    | false =>
      rw [hb] at h hk
      unfold runB at h
      have e := stepN_eq x s (fun X2 Z2 X3 Z3 => runB V x.val (bl bits (k + 1) n) X2 Z2 X3 Z3)
      rw [e] at h
      exact runB_ok V x bits n (k + 1) (step x s) (by rw [hk]; rfl) h
end Cv
def keyF (i : Nat) : BitVec 8 := BitVec.ofNat 8 ([119, 7, 109, 10, 115, 24, 165, 125, 60, 22, 193, 114, 81, 178, 102, 69, 223, 76, 47, 135, 235, 192, 153, 42, 177, 119, 251, 165, 29, 185, 44, 42].getD i 0)
def pubN : Nat := 48084050389777770101701157326923977117307187144965043058462938058489685090437
theorem key_run : Cv.runB pubN 9 (Cv.bl (Cv.bit keyF) 0 255) 1 0 9 1 = true := by decide +kernel
theorem out_of (V : Nat) (x : Cv.F) (bits : Nat → Bool) (hV : V < E5.p) (xv : Nat) (hx : x.val = xv) (h : Cv.runB V xv (Cv.bl bits 0 255) 1 0 xv 1 = true) : (Cv.out x bits).val = V := by
  subst hx
  have h1 := Cv.runB_ok V x bits 255 0 ⟨1, 0, x, 1⟩ rfl (by
    show Cv.runB V x.val _ (1 : Cv.F).val (0 : Cv.F).val x.val (1 : Cv.F).val = true
    rw [Cv.one_val, Cv.zero_val]; exact h)
  rw [Nat.zero_add] at h1
  have hv : (Cv.fn V).val = V := by rw [Cv.fn_val, Nat.mod_eq_of_lt hV]
  have hb : (Cv.st x bits 255).b ≠ 0 := fun h0 => h1.2 (by rw [h0, Cv.zero_val])
  have hm : Cv.fn V * (Cv.st x bits 255).b = (Cv.st x bits 255).a := by
    apply Cv.ext
    rw [Cv.val_mul, hv]; exact h1.1
  unfold Cv.out
  rw [Cv.quot hb hm, hv]
theorem nine_val : (ptF (byteF 9#8)).val = 9 := by
  unfold ptF
  rw [Cv.fn_val]; decide +kernel
theorem pub_lt : pubN < E5.p := by decide +kernel
theorem timesN_def (f g : Nat → BitVec 8) : timesN f g = (Cv.out (ptF g) (Cv.bit f)).val := rfl
theorem key_pub : timesN keyF (byteF 9#8) = pubN := (timesN_def keyF (byteF 9#8)).trans <| out_of pubN (ptF (byteF 9#8)) (Cv.bit keyF) pub_lt 9 nine_val key_run
theorem b32_key : #[.int .u8 119, .int .u8 7, .int .u8 109, .int .u8 10, .int .u8 115, .int .u8 24, .int .u8 165, .int .u8 125, .int .u8 60, .int .u8 22, .int .u8 193, .int .u8 114, .int .u8 81, .int .u8 178, .int .u8 102, .int .u8 69, .int .u8 223, .int .u8 76, .int .u8 47, .int .u8 135, .int .u8 235, .int .u8 192, .int .u8 153, .int .u8 42, .int .u8 177, .int .u8 119, .int .u8 251, .int .u8 165, .int .u8 29, .int .u8 185, .int .u8 44, .int .u8 42] = b32 keyF := by kernel_rfl
theorem b32_nine : Value.agg #[.int .u8 9, .int .u8 0, .int .u8 0, .int .u8 0, .int .u8 0, .int .u8 0, .int .u8 0, .int .u8 0, .int .u8 0, .int .u8 0, .int .u8 0, .int .u8 0, .int .u8 0, .int .u8 0, .int .u8 0, .int .u8 0, .int .u8 0, .int .u8 0, .int .u8 0, .int .u8 0, .int .u8 0, .int .u8 0, .int .u8 0, .int .u8 0, .int .u8 0, .int .u8 0, .int .u8 0, .int .u8 0, .int .u8 0, .int .u8 0, .int .u8 0, .int .u8 0] = .agg (b32 (byteF 9#8)) := by kernel_rfl
theorem times_nine (f : Nat → BitVec 8) (w : World) : Calls Try.prog 8 #[.agg (b32 f), .agg #[.int .u8 9, .int .u8 0, .int .u8 0, .int .u8 0, .int .u8 0, .int .u8 0, .int .u8 0, .int .u8 0, .int .u8 0, .int .u8 0, .int .u8 0, .int .u8 0, .int .u8 0, .int .u8 0, .int .u8 0, .int .u8 0, .int .u8 0, .int .u8 0, .int .u8 0, .int .u8 0, .int .u8 0, .int .u8 0, .int .u8 0, .int .u8 0, .int .u8 0, .int .u8 0, .int .u8 0, .int .u8 0, .int .u8 0, .int .u8 0, .int .u8 0, .int .u8 0]] w fun e w' => e = .returned (.agg (b32 (numF (timesN f (byteF 9#8))))) ∧ Below w.heap.size w w' := by
  rw [b32_nine]; exact times_any f _ w
set_option maxHeartbeats 4000000 in
set_option maxRecDepth 100000 in
theorem public_any (f : Nat → BitVec 8) (w : World) :
    Calls Try.prog 11 #[.agg (b32 f)] w fun e w' => e = .returned (.agg (b32 (numF (timesN f (byteF 9#8))))) ∧ Below w.heap.size w w' := by
  obtain ⟨o, ho⟩ : ∃ o, numF (timesN f (byteF 9#8)) = o := ⟨_, rfl⟩
  have U := times_nine f
  rw [ho] at U ⊢
  have U := Lib.hid U
  clear ho
  go_enter Try.func11, Try.ntmps11
  go_upto_region 1 with (fail)
  have R0 : ((w.alloc (.cells (b32 f) 22)).alloc (.cells (b32 fun _ => 0#8) 22)).heap[w.heap.size]? = some (.cells (b32 f) 22 (0, 0)) := rows_alloc w [_, _] 0
  have R1 : ((w.alloc (.cells (b32 f) 22)).alloc (.cells (b32 fun _ => 0#8) 22)).heap[w.heap.size + 1]? = some (.cells (b32 fun _ => 0#8) 22 (0, 0)) := rows_alloc w [_, _] 1
  have B0 : Below w.heap.size w ((w.alloc (.cells (b32 f) 22)).alloc (.cells (b32 fun _ => 0#8) 22)) := ((Below.refl _ _).alloc (Nat.le_refl _) _).alloc (by simp) _
  rw [b32_zero] at R1 B0 R0
  simp only [Array.replicate, List.replicate] at R0 R1 B0
  generalize hW : (w.alloc _).alloc _ = wa at *
  clear hW
  have R1 : wa.heap[w.heap.size + 1]? = some (.cells (b32 fun _ => 0#8) 22 (0, 0)) := by rw [b32_zero]; exact R1
  have RN := Lib.hid R0
  have RR := Lib.hid R1
  have BEL := Lib.hid B0
  clear R0 R1 B0
  go_wp2_with (first
    | ((with_reducible refine wpList_load_row (o := ⟨some 3, .load 22 (.tmp 1), _, _, _, _⟩) ?_ 22 (.tmp 1) ?_ w.heap.size ?_ _ _ (0, 0) _ RN.out Try.underlying22 ?_ ?_ ?_); (focus rfl); (focus rfl); (focus rfl); (focus rfl); (focus (rw [b32_size]; kernel_rfl)))
    | (go_at_call 8; with_reducible refine (U.out _).mono ?_; rintro e w1 ⟨rfl, hq⟩)
    | ((with_reducible refine wpList_store_row (op := ⟨none, .store 22 (.tmp 2) (.tmp 5), _, _, _, _⟩) ?_ 22 (.tmp 2) (.tmp 5) ?_ (w.heap.size + 1) _ _ (b32 o) ?_ ?_ (below_row hq (lt_row RR.out) RR.out) ?_ ?_ (b32_one _) ?_); (focus rfl); (focus rfl); (focus rfl); (focus rfl); (focus (rw [b32_size, b32_size])); (focus (rw [b32_size]; kernel_rfl)); intro w2 S1))
  exact ret_row (w.heap.size + 1) _ 22 (b32 o) rfl _ rfl S1.row Try.underlying22 rfl (by rw [b32_size]; kernel_rfl) rfl ⟨rfl, (BEL.out.trans (hq.mono BEL.out.size)).trans (S1.below _ (by omega))⟩
theorem key_bytes : n8 (numF pubN 0) = 133 ∧ n8 (numF pubN 1) = 32 ∧ n8 (numF pubN 2) = 240 ∧ n8 (numF pubN 31) = 106 := by
  have h : numF pubN 0 = 133#8 ∧ numF pubN 1 = 32#8 ∧ numF pubN 2 = 240#8 ∧ numF pubN 31 = 106#8 := by decide +kernel
  obtain ⟨h0, h1, h2, h3⟩ := h
  rw [h0, h1, h2, h3]
  unfold n8
  exact ⟨rfl, rfl, rfl, rfl⟩
set_option maxHeartbeats 4000000 in
set_option maxRecDepth 100000 in
theorem bends_any (w : World) : Calls Try.prog 9 #[] w fun e w' => e = .returned (.bool true) ∧ Below w.heap.size w w' := by
  have U := public_any keyF
  rw [key_pub] at U
  have HB := Lib.hid key_bytes
  obtain ⟨o, ho⟩ : ∃ o, numF pubN = o := ⟨_, rfl⟩
  rw [ho] at U HB
  have U := Lib.hid U
  clear ho
  go_enter Try.func9, Try.ntmps9
  go_upto_region 1 with (fail)
  go_step
  refine wpList_run (v := .agg (b32 keyF)) (w' := w) rfl (by rw [← b32_key]; kernel_rfl) ?_
  refine wpList_alloc_row (o := ⟨some 1, .alloc 22, _, _, _, _⟩) rfl 22 rfl (Array.replicate 32 (.int .u8 0)) (by kernel_rfl) ?_
  refine wpList_store_new (o := ⟨none, .store 22 (.tmp 1) (.tmp 3), _, _, _, _⟩) rfl 22 (.tmp 1) (.tmp 3) rfl (Array.replicate 32 (.int .u8 0)) (b32 keyF) w.heap.size rfl rfl rfl (by rw [b32_size]; kernel_rfl) (by rw [b32_size]; rfl) (b32_one _) ?_
  have R1 : (w.alloc (.cells (b32 keyF) 22)).heap[w.heap.size]? = some (.cells (b32 keyF) 22 (0, 0)) := heap_alloc_last _ _
  have B0 : Below w.heap.size w (w.alloc (.cells (b32 keyF) 22)) := below_new _
  generalize hW : w.alloc _ = wa at *
  clear hW
  have R1 := Lib.hid R1; have B0 := Lib.hid B0
  simp only [Act.put, List.setIfInBounds_toArray, List.set_cons_succ, List.set_cons_zero]
  go_upto_region 3 with (first
    | ((with_reducible refine wpList_load_row (o := ⟨some 4, .load 22 (.tmp 1), _, _, _, _⟩) ?_ 22 (.tmp 1) ?_ w.heap.size ?_ _ _ (0, 0) _ R1.out Try.underlying22 ?_ ?_ ?_); (focus rfl); (focus rfl); (focus rfl); (focus rfl); (focus (rw [b32_size]; kernel_rfl)))
    | (go_at_call 11; with_reducible refine (U.out _).mono ?_; rintro e w1 ⟨rfl, hq⟩)
    | ((with_reducible refine wpList_alloc_row (o := ⟨some 2, .alloc 22, _, _, _, _⟩) ?_ 22 ?_ (Array.replicate 32 (.int .u8 0)) ?_ ?_); (focus rfl); (focus rfl); (focus kernel_rfl))
    | ((with_reducible refine wpList_store_new (o := ⟨none, .store 22 (.tmp 2) (.tmp 5), _, _, _, _⟩) ?_ 22 (.tmp 2) (.tmp 5) ?_ (Array.replicate 32 (.int .u8 0)) (b32 o) w1.heap.size ?_ ?_ ?_ ?_ ?_ (b32_one _) ?_); (focus rfl); (focus rfl); (focus rfl); (focus rfl); (focus rfl); (focus (rw [b32_size]; kernel_rfl)); (focus (rw [b32_size]; rfl))))
  have R2 : (w1.alloc (.cells (b32 o) 22)).heap[w1.heap.size]? = some (.cells (b32 o) 22 (0, 0)) := heap_alloc_last _ _
  have B2 : Hid (Below w.heap.size w (w1.alloc (.cells (b32 o) 22))) := Lib.hid ((B0.out.trans (hq.mono B0.out.size)).alloc (by have := B0.out.size; have := hq.size; omega) _)
  generalize w1.heap.size = q at *
  generalize w1.alloc _ = w2 at *
  have b0 : w2.cell? ⟨q, 0, none⟩ = some (.int .u8 133) := by rw [cell_of_row _ _ _ _ _ _ R2, b32_get o 0 (by omega), HB.out.1]
  have b1 : w2.cell? ⟨q, 1, none⟩ = some (.int .u8 32) := by rw [cell_of_row _ _ _ _ _ _ R2, b32_get o 1 (by omega), HB.out.2.1]
  have b2 : w2.cell? ⟨q, 2, none⟩ = some (.int .u8 240) := by rw [cell_of_row _ _ _ _ _ _ R2, b32_get o 2 (by omega), HB.out.2.2.1]
  have b3 : w2.cell? ⟨q, 31, none⟩ = some (.int .u8 106) := by rw [cell_of_row _ _ _ _ _ _ R2, b32_get o 31 (by omega), HB.out.2.2.2]
  clear R2
  simp only [Act.put, List.setIfInBounds_toArray, List.set_cons_succ, List.set_cons_zero]
  go_wp2_with fail
  go_ret
  exact ⟨rfl, B2.out⟩
end Go.Proofs.Ytmfiabkhnoimhaa
