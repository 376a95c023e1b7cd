/-
  FieldLaws answers true, and ends, for all three arrays of 32 bytes, in whatever memory and order: sums and products of field's numbers don't hang on the order nor on how they are put together, a product shares out over a sum, what is added is taken away. No condition.
-/
import Derived.Test.YtpkfkpceclgbcaeRows
import Derived.Test.YtpkfkpceclgbcaeFieldI
import Derived.WalkKit
import Derived.ProofKit
import Derived.OpenShut
import Derived.ShutString
import Derived.ChangeOld
import Derived.Below
import Derived.Deep.DeepCutAuto
import Derived.Deep.Upon
import Derived.Deep.AppendSrc
namespace Go.Proofs.Ytpkfkpceclgbcae.fieldLaws
open Go Go.ChangeShapes Go.WideShapes Go.ChangeAt Go.RowKit Go.BigFrame
set_option linter.unusedVariables false
theorem own : ownKnob Try.prog.godebug = none := by kernel_rfl
theorem laidOut : laidOutB Try.prog = true := by kernel_rfl
theorem add_num {x y : E5} (hx : E5.Ok x) (hy : E5.Ok y) {n m : Nat} (h : x.val % E5.p = n % E5.p) (g : y.val % E5.p = m % E5.p) : (x.add y).val % E5.p = (n + m) % E5.p := by
  rw [(E5.add_ok hx hy).2, Nat.add_mod, h, g, ← Nat.add_mod]
theorem cancel_mod {a b c : Nat} (h : (a + c) % E5.p = (b + c) % E5.p) : a % E5.p = b % E5.p := by
  unfold E5.p at *
  omega
theorem sub_num {x y : E5} (hx : E5.Ok x) (hy : E5.Ok y) {n m : Nat} (h : x.val % E5.p = (n + m) % E5.p) (g : y.val % E5.p = m % E5.p) : (x.sub y).val % E5.p = n % E5.p := by
  have h1 := (E5.sub_ok hx hy).2
  rw [Nat.add_mod, g, ← Nat.add_mod, h] at h1
  exact cancel_mod h1
theorem one_num : (E5.of (byteF 1#8)).val % E5.p = 1 % E5.p := by decide +kernel
def zeros5 : Array Value := #[.int .u64 0, .int .u64 0, .int .u64 0, .int .u64 0, .int .u64 0]
set_option maxHeartbeats 40000000 in
set_option maxRecDepth 100000 in
theorem laws_any (f0 f1 f2 : Nat → BitVec 8) (w : World) :
    Calls Try.prog 5 #[.agg (b32 f0), .agg (b32 f1), .agg (b32 f2)] w fun e w' => e = .returned (.bool true) ∧ Below w.heap.size w w' := by
  go_enter Try.func5, Try.ntmps5
  go_wp2_with fail
  have R0 := rows_alloc w [.cells (b32 f0) 22, .cells (b32 f1) 22, .cells (b32 f2) 22] 0
  have R1 := rows_alloc w [.cells (b32 f0) 22, .cells (b32 f1) 22, .cells (b32 f2) 22] 1
  have R2 := rows_alloc w [.cells (b32 f0) 22, .cells (b32 f1) 22, .cells (b32 f2) 22] 2
  have hb : Below w.heap.size w (((w.alloc (.cells (b32 f0) 22)).alloc (.cells (b32 f1) 22)).alloc (.cells (b32 f2) 22)) := by
    repeat (first | exact Below.refl _ _ | refine Below.alloc ?_ (by simp; try omega) _)
  have hs : w.heap.size + 2 < (((w.alloc (.cells (b32 f0) 22)).alloc (.cells (b32 f1) 22)).alloc (.cells (b32 f2) 22)).heap.size := by simp
  simp only [List.foldl] at R0 R1 R2
  generalize hW : ((w.alloc _).alloc _).alloc _ = wa at *
  clear hW
  have R0' : wa.heap[w.heap.size]? = some (.cells (b32 f0) 22 (0, 0)) := R0
  have R1' : wa.heap[w.heap.size + 1]? = some (.cells (b32 f1) 22 (0, 0)) := R1
  have R2' : wa.heap[w.heap.size + 1 + 1]? = some (.cells (b32 f2) 22 (0, 0)) := R2
  clear R0 R1 R2
  have H0 := Lib.hid R0'; have H1 := Lib.hid R1'; have H2 := Lib.hid R2'; have HB := Lib.hid hb; have HS := Lib.hid hs
  clear R0' R1' R2' hb hs
  refine region_news 9 (fun _ => zeros5) [(6, 7), (7, 8), (8, 9)] mixedOrders (by kernel_rfl) (by kernel_rfl) (zero_one (T := 26) (by kernel_rfl) (by kernel_rfl)) ?_
  refine wpNew_step rfl (fun K hK => ⟨.agg (b32 f0), fun w' hw' => quiet_load_row 22 _ rfl w.heap.size rfl _ _ (0, 0) _ (below_row hw' (by have := HS.out; show _ < wa.heap.size; omega) H0.out) Try.underlying22 rfl (by rw [b32_size]; kernel_rfl), hK _ ?_⟩)
  clear hK K
  refine wpNew_step rfl (fun K hK => ⟨(E5.of f0).v, fun w' hw' => ?_, hK _ ?_⟩)
  · go_simp
    go_at_call 9
    exact ofE_any f0 w'
  clear hK K
  refine wpNew_step rfl (fun K hK => ⟨.agg (b32 f1), fun w' hw' => quiet_load_row 22 _ rfl (w.heap.size + 1) rfl _ _ (0, 0) _ (below_row hw' (by have := HS.out; show _ < wa.heap.size; omega) H1.out) Try.underlying22 rfl (by rw [b32_size]; kernel_rfl), hK _ ?_⟩)
  clear hK K
  refine wpNew_step rfl (fun K hK => ⟨(E5.of f1).v, fun w' hw' => ?_, hK _ ?_⟩)
  · go_simp
    go_at_call 9
    exact ofE_any f1 w'
  clear hK K
  refine wpNew_step rfl (fun K hK => ⟨.agg (b32 f2), fun w' hw' => quiet_load_row 22 _ rfl (w.heap.size + 1 + 1) rfl _ _ (0, 0) _ (below_row hw' (by have := HS.out; show _ < wa.heap.size; omega) H2.out) Try.underlying22 rfl (by rw [b32_size]; kernel_rfl), hK _ ?_⟩)
  clear hK K
  refine wpNew_step rfl (fun K hK => ⟨(E5.of f2).v, fun w' hw' => ?_, hK _ ?_⟩)
  · go_simp
    go_at_call 9
    exact ofE_any f2 w'
  clear hK K
  refine wpNew_skip rfl ?_
  refine wpNew_skip rfl ?_
  refine wpNew_skip rfl ?_
  refine wpNew_nil ?_
  intro bs w1 hb1 hrows hap
  have r7 := hrows 6 _ 26 (by omega) rfl rfl
  have r8 := hrows 7 _ 26 (by omega) rfl rfl
  have r9 := hrows 8 _ 26 (by omega) rfl rfl
  have n87 : bs 7 ≠ bs 6 := fun e => by have := hap 7 6 _ _ (by omega) (by omega) rfl rfl rfl rfl e; omega
  have n97 : bs 8 ≠ bs 6 := fun e => by have := hap 8 6 _ _ (by omega) (by omega) rfl rfl rfl rfl e; omega
  have n98 : bs 8 ≠ bs 7 := fun e => by have := hap 8 7 _ _ (by omega) (by omega) rfl rfl rfl rfl e; omega
  clear hrows hap
  simp only [putNews, newPtr, Act.put, List.setIfInBounds_toArray, List.set_cons_succ, List.set_cons_zero, List.drop_succ_cons, List.drop_zero]
  generalize bs 6 = B7 at *
  generalize bs 7 = B8 at *
  generalize bs 8 = B9 at *
  have oX := of_ok f0
  have oY := of_ok f1
  have oZ := of_ok f2
  generalize E5.of f0 = X at *
  generalize E5.of f1 = Y at *
  generalize E5.of f2 = Z at *
  refine wpList_store_row rfl 26 (.tmp 7) (.tmp 11) rfl B7 _ _ X.cells rfl rfl r7.2 (Eq.trans (b := 5) rfl rfl) (by kernel_rfl) (by kernel_rfl) ?_
  intro w2 s2
  refine wpList_store_row rfl 26 (.tmp 8) (.tmp 13) rfl B8 _ _ Y.cells rfl rfl (s2.keep n87 r8.2) (Eq.trans (b := 5) rfl rfl) (by kernel_rfl) (by kernel_rfl) ?_
  intro w3 s3
  refine wpList_store_row rfl 26 (.tmp 9) (.tmp 15) rfl B9 _ _ Z.cells rfl rfl (s3.keep n98 (s2.keep n97 r9.2)) (Eq.trans (b := 5) rfl rfl) (by kernel_rfl) (by kernel_rfl) ?_
  intro w4 s4
  have q9 := s4.row
  have q8 := s4.keep n98.symm s3.row
  have q7 := s4.keep n97.symm (s3.keep n87.symm s2.row)
  have hz := HS.out
  have hb4 : Below w.heap.size w w4 := by
    have l7 : wa.heap.size ≤ B7 := r7.1
    have l8 : wa.heap.size ≤ B8 := r8.1
    have l9 : wa.heap.size ≤ B9 := r9.1
    have hb1' : Below wa.heap.size wa w1 := ((Below.refl _ _).drew).trans hb1
    exact HB.out.trans ((((hb1'.trans (s2.below _ l7)).trans (s3.below _ l8)).trans (s4.below _ l9)).mono (by omega))
  have l7 := lt_row q7; have l8 := lt_row q8; have l9 := lt_row q9
  clear s2 s3 s4 r7 r8 r9 n87 n97 n98 hb1 hz w1 w2 w3 H0 H1 H2 HB HS
  have Q7 := Lib.hid q7; have Q8 := Lib.hid q8; have Q9 := Lib.hid q9; have H4 := Lib.hid hb4
  have L7 := Lib.hid l7; have L8 := Lib.hid l8; have L9 := Lib.hid l9
  have OX := Lib.hid oX; have OY := Lib.hid oY; have OZ := Lib.hid oZ
  clear q7 q8 q9 hb4 l7 l8 l9 oX oY oZ
  have T0 : Hid (∀ w' : World, Calls Try.prog 11 #[E5.v (X.add Y)] w' fun e w'' => e = .returned (.string (numS ((X.val + Y.val) % E5.p))) ∧ Below w'.heap.size w' w'') := by
    have oX := OX.out; have oY := OY.out; have oZ := OZ.out
    exact fun w' => text_as ((E5.add_ok oX oY).1) _ (add_num oX oY rfl rfl) w'
  have T1 : Hid (∀ w' : World, Calls Try.prog 11 #[E5.v (Y.add X)] w' fun e w'' => e = .returned (.string (numS ((X.val + Y.val) % E5.p))) ∧ Below w'.heap.size w' w'') := by
    have oX := OX.out; have oY := OY.out; have oZ := OZ.out
    exact fun w' => text_as ((E5.add_ok oY oX).1) _ ((by rw [Nat.add_comm X.val]; exact add_num oY oX rfl rfl)) w'
  have T2 : Hid (∀ w' : World, Calls Try.prog 11 #[E5.v (X.mul Y)] w' fun e w'' => e = .returned (.string (numS ((X.val * Y.val) % E5.p))) ∧ Below w'.heap.size w' w'') := by
    have oX := OX.out; have oY := OY.out; have oZ := OZ.out
    exact fun w' => text_as ((E5.mul_ok oX oY).1) _ (E5.mul_mod oX oY rfl rfl) w'
  have T3 : Hid (∀ w' : World, Calls Try.prog 11 #[E5.v (Y.mul X)] w' fun e w'' => e = .returned (.string (numS ((X.val * Y.val) % E5.p))) ∧ Below w'.heap.size w' w'') := by
    have oX := OX.out; have oY := OY.out; have oZ := OZ.out
    exact fun w' => text_as ((E5.mul_ok oY oX).1) _ ((by rw [Nat.mul_comm X.val]; exact E5.mul_mod oY oX rfl rfl)) w'
  have T4 : Hid (∀ w' : World, Calls Try.prog 11 #[E5.v ((X.add Y).add Z)] w' fun e w'' => e = .returned (.string (numS ((X.val + Y.val + Z.val) % E5.p))) ∧ Below w'.heap.size w' w'') := by
    have oX := OX.out; have oY := OY.out; have oZ := OZ.out
    exact fun w' => text_as ((E5.add_ok (E5.add_ok oX oY).1 oZ).1) _ (add_num (E5.add_ok oX oY).1 oZ (add_num oX oY rfl rfl) rfl) w'
  have T5 : Hid (∀ w' : World, Calls Try.prog 11 #[E5.v (X.add (Y.add Z))] w' fun e w'' => e = .returned (.string (numS ((X.val + Y.val + Z.val) % E5.p))) ∧ Below w'.heap.size w' w'') := by
    have oX := OX.out; have oY := OY.out; have oZ := OZ.out
    exact fun w' => text_as ((E5.add_ok oX (E5.add_ok oY oZ).1).1) _ ((by rw [Nat.add_assoc]; exact add_num oX (E5.add_ok oY oZ).1 rfl (add_num oY oZ rfl rfl))) w'
  have T6 : Hid (∀ w' : World, Calls Try.prog 11 #[E5.v ((X.mul Y).mul Z)] w' fun e w'' => e = .returned (.string (numS ((X.val * Y.val * Z.val) % E5.p))) ∧ Below w'.heap.size w' w'') := by
    have oX := OX.out; have oY := OY.out; have oZ := OZ.out
    exact fun w' => text_as ((E5.mul_ok (E5.mul_ok oX oY).1 oZ).1) _ (E5.mul_mod (E5.mul_ok oX oY).1 oZ (E5.mul_mod oX oY rfl rfl) rfl) w'
  have T7 : Hid (∀ w' : World, Calls Try.prog 11 #[E5.v (X.mul (Y.mul Z))] w' fun e w'' => e = .returned (.string (numS ((X.val * Y.val * Z.val) % E5.p))) ∧ Below w'.heap.size w' w'') := by
    have oX := OX.out; have oY := OY.out; have oZ := OZ.out
    exact fun w' => text_as ((E5.mul_ok oX (E5.mul_ok oY oZ).1).1) _ ((by rw [Nat.mul_assoc]; exact E5.mul_mod oX (E5.mul_ok oY oZ).1 rfl (E5.mul_mod oY oZ rfl rfl))) w'
  have T8 : Hid (∀ w' : World, Calls Try.prog 11 #[E5.v ((X.add Y).mul Z)] w' fun e w'' => e = .returned (.string (numS (((X.val + Y.val) * Z.val) % E5.p))) ∧ Below w'.heap.size w' w'') := by
    have oX := OX.out; have oY := OY.out; have oZ := OZ.out
    exact fun w' => text_as ((E5.mul_ok (E5.add_ok oX oY).1 oZ).1) _ (E5.mul_mod (E5.add_ok oX oY).1 oZ (add_num oX oY rfl rfl) rfl) w'
  have T9 : Hid (∀ w' : World, Calls Try.prog 11 #[E5.v ((X.mul Z).add (Y.mul Z))] w' fun e w'' => e = .returned (.string (numS (((X.val + Y.val) * Z.val) % E5.p))) ∧ Below w'.heap.size w' w'') := by
    have oX := OX.out; have oY := OY.out; have oZ := OZ.out
    exact fun w' => text_as ((E5.add_ok (E5.mul_ok oX oZ).1 (E5.mul_ok oY oZ).1).1) _ ((by rw [Nat.add_mul]; exact add_num (E5.mul_ok oX oZ).1 (E5.mul_ok oY oZ).1 (E5.mul_mod oX oZ rfl rfl) (E5.mul_mod oY oZ rfl rfl))) w'
  have T10 : Hid (∀ w' : World, Calls Try.prog 11 #[E5.v ((X.add Y).sub Y)] w' fun e w'' => e = .returned (.string (numS (X.val % E5.p))) ∧ Below w'.heap.size w' w'') := by
    have oX := OX.out; have oY := OY.out; have oZ := OZ.out
    exact fun w' => text_as ((E5.sub_ok (E5.add_ok oX oY).1 oY).1) _ (sub_num (E5.add_ok oX oY).1 oY (add_num oX oY rfl rfl) rfl) w'
  have T11 : Hid (∀ w' : World, Calls Try.prog 11 #[E5.v ((X.sub Y).add Y)] w' fun e w'' => e = .returned (.string (numS (X.val % E5.p))) ∧ Below w'.heap.size w' w'') := by
    have oX := OX.out; have oY := OY.out; have oZ := OZ.out
    exact fun w' => text_as ((E5.add_ok (E5.sub_ok oX oY).1 oY).1) _ ((by rw [(E5.add_ok (E5.sub_ok oX oY).1 oY).2]; exact (E5.sub_ok oX oY).2)) w'
  have T12 : Hid (∀ w' : World, Calls Try.prog 11 #[E5.v (X.mul (E5.of (byteF 1#8)))] w' fun e w'' => e = .returned (.string (numS (X.val % E5.p))) ∧ Below w'.heap.size w' w'') := by
    have oX := OX.out; have oY := OY.out; have oZ := OZ.out
    exact fun w' => text_as ((E5.mul_ok oX (of_ok _)).1) _ ((by have := E5.mul_mod oX (of_ok (byteF 1#8)) (n := X.val) rfl one_num; rwa [Nat.mul_one] at this)) w'
  have T13 : Hid (∀ w' : World, Calls Try.prog 11 #[E5.v (X)] w' fun e w'' => e = .returned (.string (numS (X.val % E5.p))) ∧ Below w'.heap.size w' w'') := by
    have oX := OX.out; have oY := OY.out; have oZ := OZ.out
    exact fun w' => text_as (oX) _ (rfl) w'
  go_wp2_with fail
  refine region_class1 101 (fun w' => Below w4.heap.size w4 w') mixedOrders (lexTailB_fast (base := 16) (by kernel_rfl)) (Below.refl _ _).drew rfl ?_
  iterate 101
    (first
      | (refine wpQuiet_take (by rfl) (fun K hK => ⟨X.v, fun w' hw' => quiet_load_row 26 (.tmp 7) rfl B7 rfl _ X.cells (0, 0) _ (below_row hw' L7.out Q7.out) Try.underlying26 rfl (by kernel_rfl), hK _ ?_⟩)
         clear hK K)
      | (refine wpQuiet_take (by rfl) (fun K hK => ⟨Y.v, fun w' hw' => quiet_load_row 26 (.tmp 8) rfl B8 rfl _ Y.cells (0, 0) _ (below_row hw' L8.out Q8.out) Try.underlying26 rfl (by kernel_rfl), hK _ ?_⟩)
         clear hK K)
      | (refine wpQuiet_take (by rfl) (fun K hK => ⟨Z.v, fun w' hw' => quiet_load_row 26 (.tmp 9) rfl B9 rfl _ Z.cells (0, 0) _ (below_row hw' L9.out Q9.out) Try.underlying26 rfl (by kernel_rfl), hK _ ?_⟩)
         clear hK K)
      | (refine wpQuiet_take (by rfl) (fun K hK => ?_)
         apply Exists.intro
         refine ⟨fun w' hw' => ?_, ?_⟩
         · have hw2 := Lib.hid hw'
           clear hw'
           go_simp
           first
             | rfl
             | (go_at_call 11
                first
                  | ((with_reducible refine (T0.out w').mono ?_); rintro e w1 ⟨rfl, hb⟩; exact ⟨rfl, hw2.out.trans (hb.mono hw2.out.size)⟩)
                  | ((with_reducible refine (T1.out w').mono ?_); rintro e w1 ⟨rfl, hb⟩; exact ⟨rfl, hw2.out.trans (hb.mono hw2.out.size)⟩)
                  | ((with_reducible refine (T2.out w').mono ?_); rintro e w1 ⟨rfl, hb⟩; exact ⟨rfl, hw2.out.trans (hb.mono hw2.out.size)⟩)
                  | ((with_reducible refine (T3.out w').mono ?_); rintro e w1 ⟨rfl, hb⟩; exact ⟨rfl, hw2.out.trans (hb.mono hw2.out.size)⟩)
                  | ((with_reducible refine (T4.out w').mono ?_); rintro e w1 ⟨rfl, hb⟩; exact ⟨rfl, hw2.out.trans (hb.mono hw2.out.size)⟩)
                  | ((with_reducible refine (T5.out w').mono ?_); rintro e w1 ⟨rfl, hb⟩; exact ⟨rfl, hw2.out.trans (hb.mono hw2.out.size)⟩)
                  | ((with_reducible refine (T6.out w').mono ?_); rintro e w1 ⟨rfl, hb⟩; exact ⟨rfl, hw2.out.trans (hb.mono hw2.out.size)⟩)
                  | ((with_reducible refine (T7.out w').mono ?_); rintro e w1 ⟨rfl, hb⟩; exact ⟨rfl, hw2.out.trans (hb.mono hw2.out.size)⟩)
                  | ((with_reducible refine (T8.out w').mono ?_); rintro e w1 ⟨rfl, hb⟩; exact ⟨rfl, hw2.out.trans (hb.mono hw2.out.size)⟩)
                  | ((with_reducible refine (T9.out w').mono ?_); rintro e w1 ⟨rfl, hb⟩; exact ⟨rfl, hw2.out.trans (hb.mono hw2.out.size)⟩)
                  | ((with_reducible refine (T10.out w').mono ?_); rintro e w1 ⟨rfl, hb⟩; exact ⟨rfl, hw2.out.trans (hb.mono hw2.out.size)⟩)
                  | ((with_reducible refine (T11.out w').mono ?_); rintro e w1 ⟨rfl, hb⟩; exact ⟨rfl, hw2.out.trans (hb.mono hw2.out.size)⟩)
                  | ((with_reducible refine (T12.out w').mono ?_); rintro e w1 ⟨rfl, hb⟩; exact ⟨rfl, hw2.out.trans (hb.mono hw2.out.size)⟩)
                  | ((with_reducible refine (T13.out w').mono ?_); rintro e w1 ⟨rfl, hb⟩; exact ⟨rfl, hw2.out.trans (hb.mono hw2.out.size)⟩))
             | (go_at_call 18
                (with_reducible refine (addE_any _ _ w').mono ?_)
                rintro e w1 ⟨rfl, hb⟩
                exact ⟨rfl, hw2.out.trans (hb.mono hw2.out.size)⟩)
             | (go_at_call 12
                (with_reducible refine (mulE_any _ _ w').mono ?_)
                rintro e w1 ⟨rfl, hb⟩
                exact ⟨rfl, hw2.out.trans (hb.mono hw2.out.size)⟩)
             | (go_at_call 19
                (with_reducible refine (subE_any _ _ w').mono ?_)
                rintro e w1 ⟨rfl, hb⟩
                exact ⟨rfl, hw2.out.trans (hb.mono hw2.out.size)⟩)
             | (go_at_call 20
                (with_reducible refine (one_any w').mono ?_)
                rintro e w1 ⟨rfl, hb⟩
                exact ⟨rfl, hw2.out.trans (hb.mono hw2.out.size)⟩)
             | (go_at_call 10
                (with_reducible refine (wraps_any w').mono ?_)
                rintro e w1 ⟨rfl, hb⟩
                exact ⟨rfl, hw2.out.trans (hb.mono hw2.out.size)⟩)
         go_simp
         refine hK _ ?_
         clear hK K))
  refine wpQuiet_take0 ?_
  intro wz hz
  have hbz := H4.out.trans (hz.mono H4.out.size)
  clear hz
  go_wp2_with fail
  go_ret
  exact ⟨rfl, hbz⟩
theorem walk {H : Type} {enc : TypeId × Value → H} (w : World) (base : Nat) (v0 v1 v2 : Value) (d0 d1 d2 : DataW H) (p0 p1 p2 : List MemPlace)
    (k0 : Value.okWide Try.prog w .any base 22 v0) (k1 : Value.okWide Try.prog w .any base 22 v1) (k2 : Value.okWide Try.prog w .any base 22 v2)
    (h0 : DataW.Trod enc Try.prog w 0 (fun _ => true) true 22 v0 d0 p0) (h1 : DataW.Trod enc Try.prog w 0 (fun _ => true) true 22 v1 d1 p1) (h2 : DataW.Trod enc Try.prog w 0 (fun _ => true) true 22 v2 d2 p2) :
    Calls Try.prog 5 #[v0, v1, v2] w fun e w' => e = .returned (.bool true) ∧ Below w.heap.size w w' := by
  obtain ⟨f0, rfl⟩ := open32 k0 h0
  obtain ⟨f1, rfl⟩ := open32 k1 h1
  obtain ⟨f2, rfl⟩ := open32 k2 h2
  exact laws_any f0 f1 f2 w
set_option maxRecDepth 100000 in
theorem lifted (os : Os) (started : os.Started) (H : Type) (enc : TypeId × Value → H) :
    ReturnsInHanded {} Try.checked os 5 .any (Rows.fieldLawsSpec.pre6 enc Try.prog Try.f5 Rows.fieldLawsRow.domain false) (Rows.fieldLawsSpec.post enc Try.prog Try.f5 false true false false) := by
  refine returnsInHanded_of_change (C := Try.checked) own started (by kernel_rfl) Try.func5
    (ChangeSpec.witness6 (enc := enc) (C := Try.checked) false ⟨#[], #[.agg (Array.replicate 32 (.int .u8 0)), .agg (Array.replicate 32 (.int .u8 0)), .agg (Array.replicate 32 (.int .u8 0))], []⟩ 8 (by kernel_rfl) (by kernel_rfl) (by kernel_rfl) (by kernel_rfl)) ?_
  intro W base args ds gs before hval0 hW hcnd _
  have hval : ∀ (j : Nat) t v, Try.f5.params[j]? = some t → args[j]? = some v → Value.okWide Try.prog W .any base t v := hval0
  have hW' := hW
  obtain ⟨p, q, hA0, hV, rfl, hfz, hnd⟩ := hW
  have hA : DataW.TrodAll enc Try.prog W 0 (fun _ => true) true Try.f5.params.toList args.toList ds p := hA0
  rw [Try.params5] at hA hval
  obtain ⟨v0, vs0, d0, ds0, p0, q0, hargs, rfl, rfl, h0, r0⟩ := trodAll_cons hA
  obtain ⟨v1, vs1, d1, ds1, p1, q1, rfl, rfl, rfl, h1, r1⟩ := trodAll_cons r0
  obtain ⟨v2, vs2, d2, ds2, p2, q2, rfl, rfl, rfl, h2, r2⟩ := trodAll_cons r1
  obtain ⟨rfl, rfl, rfl⟩ := trodAll_nil r2
  obtain rfl : args = #[v0, v1, v2] := by cases args; simp_all
  obtain ⟨rfl, rfl⟩ := trodVars_none hV
  have k0 := h0
  have lt0 : ∀ x ∈ p0, x.block < W.heap.size := by obtain ⟨m, hm⟩ := k0; exact DataW.trod_lt m _ _ _ hm
  have k1 := h1
  have lt1 : ∀ x ∈ p1, x.block < W.heap.size := by obtain ⟨m, hm⟩ := k1; exact DataW.trod_lt m _ _ _ hm
  have k2 := h2
  have lt2 : ∀ x ∈ p2, x.block < W.heap.size := by obtain ⟨m, hm⟩ := k2; exact DataW.trod_lt m _ _ _ hm
  clear hA0 hval0
  refine (walk W base v0 v1 v2 d0 d1 d2 p0 p1 p2 (hval 0 22 v0 rfl rfl) (hval 1 22 v1 rfl rfl) (hval 2 22 v2 rfl rfl) k0 k1 k2).mono fun e W' ⟨he, bel⟩ => ?_
  subst he
  exact ⟨_, rfl, _, _, _, [], _, [], hW', trodAll_mk1 (shut_bool Try.underlying4 _), (trodAll_cons_mk (Below.trod laidOut (by kernel_rfl) (of_decide_eq_true (by kernel_rfl)) k0 bel lt0) (trodAll_cons_mk (Below.trod laidOut (by kernel_rfl) (of_decide_eq_true (by kernel_rfl)) k1 bel lt1) (trodAll_cons_mk (Below.trod laidOut (by kernel_rfl) (of_decide_eq_true (by kernel_rfl)) k2 bel lt2) trodAll_mk0))), rfl, bel.frame _, fun h => by cases h⟩
theorem over : Rows.fieldLawsRow.holds Try.pinned (OpenSpec.ofChange Rows.fieldLawsSpec) :=
  OpenClaim.holds_of_wide 5 Try.f5 rfl rfl rfl rfl rfl rfl rfl ⟨rfl, rfl, rfl, rfl, rfl⟩ rfl rfl rfl rfl rfl (by kernel_rfl) Try.func5 (by kernel_rfl)
    (of_decide_eq_true (by kernel_rfl)) (by unfold Func.isWrapper; first | (rw [if_pos (by decide +kernel)]; kernel_rfl) | (rw [if_neg (by decide +kernel)]; exact ⟨rfl, rfl⟩))
    (fun os started H enc _ => lifted os started H enc)
theorem proved : Rows.FieldLawsSaid := over
end Go.Proofs.Ytpkfkpceclgbcae.fieldLaws
