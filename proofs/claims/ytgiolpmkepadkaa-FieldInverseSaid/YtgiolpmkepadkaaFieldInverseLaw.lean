/-
  FieldInverse holds: of all bytes Inv of field tells the number that makes 1, as the document does; nought's is nought. No conditions.
-/
import Derived.Test.YtgiolpmkepadkaaRows
import Derived.Test.YtgiolpmkepadkaaFieldRefF
import Derived.WalkKit
import Derived.ProofKit
import Derived.OpenShut
import Derived.ShutString
import Derived.ChangeOld
import Derived.Below
import Derived.Deep.DeepCutAuto
import Derived.Deep.Upon
import Derived.Deep.AppendSrc
import Derived.SizedLaws
namespace Go.Proofs.Ytgiolpmkepadkaa.fieldInverse
open Go Go.ChangeShapes Go.WideShapes Go.ChangeAt Go.RowKit Go.BigFrame
set_option linter.unusedVariables false
theorem own : ownKnob Try.prog.godebug = none := by kernel_rfl
theorem laidOut : laidOutB Try.prog = true := by kernel_rfl
theorem wpList_load_row_g {P : Program} {ops : Array Oper} {rest : List Oper} {o : Oper} {a : Act} {w : World} {Q : Exit → Act → World → Prop} (hw : Region.wanted o (yielded ops a.tmps) = true) (ty : TypeId) (x : Operand) (ho : o.op = .load ty x)
    (g : Nat) (hx : a.eval x = .pointer (some ⟨g, 0, none⟩)) (t : TypeId) (cs : Array Value) (fr : Nat × Nat) (d : TypeDesc) (hg : w.heap[g]? = some (.cells cs t fr))
    (hu : P.underlying ty = some d) (hd : (match d with | .struct _ | .array _ _ => true | _ => false) = true) (hi : (P.info? ty).map (·.size) = some cs.size)
    (h : wpList P ops Q rest (a.put o.dst (.agg cs)) w) : wpList P ops Q (o :: rest) a w :=
  wpList_step fun K hK => by rw [if_pos hw]; exact wp_load_row ty x ho g hx t cs fr d hg hu hd hi (hK _ _ h)
set_option maxHeartbeats 40000000 in
set_option maxRecDepth 100000 in
theorem law_any (f : Nat → BitVec 8) (w : World) :
    Calls Try.prog 5 #[.agg (b32 f)] w fun e w' => e = .returned (.bool true) ∧ Below w.heap.size w w' := by
  have hz : (Try.prog.info? 26).map (·.zero) = some (some (.agg #[.int .u64 0, .int .u64 0, .int .u64 0, .int .u64 0, .int .u64 0])) := by kernel_rfl
  go_enter Try.func5, Try.ntmps5
  go_wp2_with (refine wpList_load_row rfl 22 _ rfl w.heap.size rfl _ (b32 f) (0, 0) _ (heap_alloc_last _ _) Try.underlying22 rfl (by rw [b32_size]; kernel_rfl) ?_)
  have R0 : (w.alloc (.cells (b32 f) 22)).heap[w.heap.size]? = some (.cells (b32 f) 22 (0, 0)) := heap_alloc_last _ _
  have hb0 : Below w.heap.size w (w.alloc (.cells (b32 f) 22)) := below_new _
  generalize hW : w.alloc _ = wa at *
  clear hW
  refine (ofE_any f _).mono ?_
  rintro e w1 ⟨rfl, hb1⟩
  have oX := of_ok f
  have vX := E5.of_val f
  generalize E5.of f = X at *
  have R1 := below_row hb1 (lt_of_heap R0) R0
  have B1 := hb0.trans (hb1.mono hb0.size)
  clear hb1 hb0 R0
  obtain ⟨q3, hq3⟩ : ∃ q, w1.heap.size = q := ⟨_, rfl⟩
  have lq3 : w.heap.size < q3 := by rw [← hq3]; exact lt_of_heap R1
  go_wp2_with (first
    | (refine wpList_alloc_row (o := ⟨some 3, .alloc 26, _, _, _, _⟩) rfl 26 rfl _ hz ?_)
    | (refine wpList_store_new (o := ⟨none, .store 26 (.tmp 3) (.tmp 7), _, _, _, _⟩) rfl 26 _ _ rfl #[.int .u64 0, .int .u64 0, .int .u64 0, .int .u64 0, .int .u64 0] X.cells _ rfl rfl rfl (by kernel_rfl) (Eq.trans (b := 5) rfl rfl) (by kernel_rfl) ?_)
    | (refine wpList_load_row (o := ⟨some 8, .load 26 _, _, _, _, _⟩) rfl 26 _ rfl w1.heap.size rfl _ X.cells (0, 0) _ (heap_alloc_last _ _) Try.underlying26 rfl (by kernel_rfl) ?_))
  have R3 : (w1.alloc (.cells X.cells 26)).heap[q3]? = some (.cells X.cells 26 (0, 0)) := by rw [← hq3]; exact heap_alloc_last _ _
  have R1 := below_row (below_new (w := w1) (.cells X.cells 26)) (lt_of_heap R1) R1
  have B2 := B1.alloc B1.size (.cells X.cells 26)
  generalize hW2 : w1.alloc _ = w2 at *
  clear hW2 hq3 B1
  refine (invE_any X _).mono ?_
  rintro e w3 ⟨rfl, hb3⟩
  obtain ⟨a, ha⟩ : ∃ a, X.val % E5.p = a := ⟨_, rfl⟩
  have ha0 : a < E5.p := by rw [← ha]; exact Nat.mod_lt _ p_pos
  have oI := (E5.inv_ok oX).1
  have vI := inv_num oX a ha
  generalize E5.inv X = I at *
  have R1 := below_row hb3 (lt_of_heap R1) R1
  have R3 := below_row hb3 (lt_of_heap R3) R3
  have B3 := B2.trans (hb3.mono B2.size)
  clear hb3 B2
  obtain ⟨q4, hq4⟩ : ∃ q, w3.heap.size = q := ⟨_, rfl⟩
  have R4 : (w3.alloc (.cells I.cells 26)).heap[q4]? = some (.cells I.cells 26 (0, 0)) := by rw [← hq4]; exact heap_alloc_last _ _
  have R1 := below_row (below_new (w := w3) (.cells I.cells 26)) (lt_of_heap R1) R1
  have R3 := below_row (below_new (w := w3) (.cells I.cells 26)) (lt_of_heap R3) R3
  have B4 := B3.alloc B3.size (.cells I.cells 26)
  have hcv := conv_str f w.heap.size 0 32 32 _ (fun i hi => by rw [cell_of_row _ _ _ _ _ _ R1, Nat.zero_add]; exact b32_get _ i hi)
  have sl := arr32
  go_wp2_with (first
    | (refine wpList_alloc_row (o := ⟨some 4, .alloc 26, _, _, _, _⟩) rfl 26 rfl _ hz ?_)
    | (refine wpList_store_new (o := ⟨none, .store 26 (.tmp 4) (.tmp 9), _, _, _, _⟩) rfl 26 _ _ rfl #[.int .u64 0, .int .u64 0, .int .u64 0, .int .u64 0, .int .u64 0] I.cells _ rfl rfl rfl (by kernel_rfl) (Eq.trans (b := 5) rfl rfl) (by kernel_rfl) ?_))
  generalize hW4 : w3.alloc _ = w4 at *
  clear hW4 hcv sl hz
  have HF : ∀ w' : World, Calls Try.prog 9 #[.string (strOf f 32)] w' fun e w'' => e = .returned (.string (numS a)) ∧ Below w'.heap.size w' w'' := by
    rw [← ha, vX]; exact refOf_any f
  refine (HF _).mono ?_
  rintro e w5 ⟨rfl, hb5⟩
  have R3 := Lib.hid (below_row hb5 (lt_of_heap R3) R3)
  have R4 := Lib.hid (below_row hb5 (lt_of_heap R4) R4)
  have B5 := Lib.hid (B4.trans (hb5.mono B4.size))
  clear hb5 B4 B3 R1 HF vX
  have hlt := p_lt
  have TI : Hid (∀ w' : World, Calls Try.prog 11 #[.agg (E5.cells I)] w' fun e w'' => e = .returned (.string (numS (invN a))) ∧ Below w'.heap.size w' w'') := Lib.hid (fun w' => text_as oI _ vI w')
  have GI : Hid (∀ w' : World, Calls Try.prog 19 #[.string (numS a)] w' fun e w'' => e = .returned (.string (numS (invN a))) ∧ Below w'.heap.size w' w'') := Lib.hid (refInv_any a (by omega))
  have S0 : Hid (∀ w' : World, Calls Try.prog 20 #[.int .i64 0] w' fun e w'' => e = .returned (.string (numS 0)) ∧ Below w'.heap.size w' w'') := Lib.hid (small_zero)
  have S1 : Hid (∀ w' : World, Calls Try.prog 20 #[.int .i64 1] w' fun e w'' => e = .returned (.string (numS 1)) ∧ Below w'.heap.size w' w'') := Lib.hid (small_one)
  by_cases h0 : a = 0
  · have hi := invN_zero' a h0
    rw [hi] at TI GI
    subst h0
    clear ha ha0 oX oI vI hi hlt
    generalize numS 0 = SA at *
    have hcur := Below.refl w5.heap.size w5
    go_wp2_with (first
      | (go_at_call 10; with_reducible refine (wraps_any _).mono ?_; rintro e w' ⟨rfl, hq⟩; have hcur := hcur.trans (hq.mono hcur.size); clear hq)
      | (refine wpList_load_row_g (o := ⟨some 16, .load 26 _, _, _, _, _⟩) (by rfl) 26 _ rfl (q4) rfl _ I.cells (0, 0) _ (below_row hcur (lt_of_heap R4.out) R4.out) Try.underlying26 rfl (by kernel_rfl) ?_)
      | (go_at_call 11; with_reducible refine (TI.out _).mono ?_; rintro e w' ⟨rfl, hq⟩; have hcur := hcur.trans (hq.mono hcur.size); clear hq)
      | (go_at_call 19; with_reducible refine (GI.out _).mono ?_; rintro e w' ⟨rfl, hq⟩; have hcur := hcur.trans (hq.mono hcur.size); clear hq)
      | (go_at_call 20; with_reducible refine (S0.out _).mono ?_; rintro e w' ⟨rfl, hq⟩; have hcur := hcur.trans (hq.mono hcur.size); clear hq)
      | (refine wpList_load_row_g (o := ⟨some 25, .load 26 _, _, _, _, _⟩) (by rfl) 26 _ rfl (q4) rfl _ I.cells (0, 0) _ (below_row hcur (lt_of_heap R4.out) R4.out) Try.underlying26 rfl (by kernel_rfl) ?_))
    go_ret
    exact ⟨rfl, B5.out.trans (hcur.mono B5.out.size)⟩
  · have hne := numS_ne (a := a) (b := 0) (by omega) (by omega) h0
    have ham : a % E5.p ≠ 0 := by rw [Nat.mod_eq_of_lt ha0]; exact h0
    have hil := invN_lt a
    have MZ : Hid (∀ w' : World, Calls Try.prog 16 #[.agg (E5.cells X), .agg (E5.cells I)] w' fun e w'' => e = .returned (E5.v (X.mul I)) ∧ Below w'.heap.size w' w'') := Lib.hid (mulE_any X I)
    have TZ : Hid (∀ w' : World, Calls Try.prog 11 #[E5.v (X.mul I)] w' fun e w'' => e = .returned (.string (numS 1)) ∧ Below w'.heap.size w' w'') := Lib.hid (fun w' => text_as (E5.mul_ok oX oI).1 _ (by rw [(E5.mul_ok oX oI).2, Nat.mul_mod, ha, vI]; exact invN_mul a ham) w')
    have IJ : Hid (∀ w' : World, Calls Try.prog 18 #[.agg (E5.cells I)] w' fun e w'' => e = .returned (E5.v (E5.inv I)) ∧ Below w'.heap.size w' w'') := Lib.hid (invE_any I)
    have TJ : Hid (∀ w' : World, Calls Try.prog 11 #[E5.v (E5.inv I)] w' fun e w'' => e = .returned (.string (numS a)) ∧ Below w'.heap.size w' w'') := Lib.hid (fun w' => text_as (E5.inv_ok oI).1 _ (by rw [inv_num oI _ vI, invN_inv a ham, Nat.mod_eq_of_lt ha0]) w')
    clear ha ha0 oX oI vI hlt ham h0 hil
    generalize X.mul I = Z at *
    generalize E5.inv I = J at *
    generalize numS (invN a) = SC at *
    generalize numS 0 = SO at *
    generalize numS 1 = SI at *
    generalize numS a = SA at *
    have hcur := Below.refl w5.heap.size w5
    go_wp2_with (first
      | (go_at_call 10; with_reducible refine (wraps_any _).mono ?_; rintro e w' ⟨rfl, hq⟩; have hcur := hcur.trans (hq.mono hcur.size); clear hq)
      | (refine wpList_load_row_g (o := ⟨some 16, .load 26 _, _, _, _, _⟩) (by rfl) 26 _ rfl (q4) rfl _ I.cells (0, 0) _ (below_row hcur (lt_of_heap R4.out) R4.out) Try.underlying26 rfl (by kernel_rfl) ?_)
      | (go_at_call 11; with_reducible refine (TI.out _).mono ?_; rintro e w' ⟨rfl, hq⟩; have hcur := hcur.trans (hq.mono hcur.size); clear hq)
      | (go_at_call 19; with_reducible refine (GI.out _).mono ?_; rintro e w' ⟨rfl, hq⟩; have hcur := hcur.trans (hq.mono hcur.size); clear hq)
      | (go_at_call 20; with_reducible refine (S0.out _).mono ?_; rintro e w' ⟨rfl, hq⟩; have hcur := hcur.trans (hq.mono hcur.size); clear hq)
      | (refine wpList_load_row_g (o := ⟨some 29, .load 26 _, _, _, _, _⟩) (by rfl) 26 _ rfl (q3) rfl _ X.cells (0, 0) _ (below_row hcur (lt_of_heap R3.out) R3.out) Try.underlying26 rfl (by kernel_rfl) ?_)
      | (refine wpList_load_row_g (o := ⟨some 30, .load 26 _, _, _, _, _⟩) (by rfl) 26 _ rfl (q4) rfl _ I.cells (0, 0) _ (below_row hcur (lt_of_heap R4.out) R4.out) Try.underlying26 rfl (by kernel_rfl) ?_)
      | (go_at_call 16; with_reducible refine (MZ.out _).mono ?_; rintro e w' ⟨rfl, hq⟩; have hcur := hcur.trans (hq.mono hcur.size); clear hq)
      | (go_at_call 11; with_reducible refine (TZ.out _).mono ?_; rintro e w' ⟨rfl, hq⟩; have hcur := hcur.trans (hq.mono hcur.size); clear hq)
      | (go_at_call 20; with_reducible refine (S1.out _).mono ?_; rintro e w' ⟨rfl, hq⟩; have hcur := hcur.trans (hq.mono hcur.size); clear hq)
      | (refine wpList_load_row_g (o := ⟨some 36, .load 26 _, _, _, _, _⟩) (by rfl) 26 _ rfl (q4) rfl _ I.cells (0, 0) _ (below_row hcur (lt_of_heap R4.out) R4.out) Try.underlying26 rfl (by kernel_rfl) ?_)
      | (go_at_call 18; with_reducible refine (IJ.out _).mono ?_; rintro e w' ⟨rfl, hq⟩; have hcur := hcur.trans (hq.mono hcur.size); clear hq)
      | (go_at_call 11; with_reducible refine (TJ.out _).mono ?_; rintro e w' ⟨rfl, hq⟩; have hcur := hcur.trans (hq.mono hcur.size); clear hq))
    go_ret
    exact ⟨rfl, B5.out.trans (hcur.mono B5.out.size)⟩
theorem walk {H : Type} {enc : TypeId × Value → H} (w : World) (base : Nat) (v0 : Value) (d0 : DataW H) (p0 : List MemPlace)
    (k0 : Value.okWide Try.prog w .any base 22 v0)
    (h0 : DataW.Trod enc Try.prog w 0 (fun _ => true) true 22 v0 d0 p0) :
    Calls Try.prog 5 #[v0] w fun e w' => e = .returned (.bool true) ∧ Below w.heap.size w w' := by
  obtain ⟨f, rfl⟩ := open32 k0 h0
  exact law_any f w
set_option maxRecDepth 100000 in
theorem lifted (os : Os) (started : os.Started) (H : Type) (enc : TypeId × Value → H) :
    ReturnsInHanded {} Try.checked os 5 .any (Rows.fieldInverseSpec.pre6 enc Try.prog Try.f5 Rows.fieldInverseRow.domain false) (Rows.fieldInverseSpec.post enc Try.prog Try.f5 false true false false) := by
  refine returnsInHanded_of_change (C := Try.checked) own started (by kernel_rfl) Try.func5
    (ChangeSpec.witness6 (enc := enc) (C := Try.checked) false ⟨#[], #[.agg (Array.replicate 32 (.int .u8 0))], []⟩ 8 (by kernel_rfl) (by kernel_rfl) (by kernel_rfl) (by kernel_rfl)) ?_
  intro W base args ds gs before hval0 hW hcnd _
  have hval : ∀ (j : Nat) t v, Try.f5.params[j]? = some t → args[j]? = some v → Value.okWide Try.prog W .any base t v := hval0
  have hW' := hW
  obtain ⟨p, q, hA0, hV, rfl, hfz, hnd⟩ := hW
  have hA : DataW.TrodAll enc Try.prog W 0 (fun _ => true) true Try.f5.params.toList args.toList ds p := hA0
  rw [Try.params5] at hA hval
  obtain ⟨v0, vs0, d0, ds0, p0, q0, hargs, rfl, rfl, h0, r0⟩ := trodAll_cons hA
  obtain ⟨rfl, rfl, rfl⟩ := trodAll_nil r0
  obtain rfl : args = #[v0] := by cases args; simp_all
  obtain ⟨rfl, rfl⟩ := trodVars_none hV
  have k0 := h0
  have lt0 : ∀ x ∈ p0, x.block < W.heap.size := by obtain ⟨m, hm⟩ := k0; exact DataW.trod_lt m _ _ _ hm
  clear hA0 hval0
  refine (walk W base v0 d0 p0 (hval 0 22 v0 rfl rfl) k0).mono fun e W' ⟨he, bel⟩ => ?_
  subst he
  exact ⟨_, rfl, _, _, _, [], _, [], hW', trodAll_mk1 (shut_bool Try.underlying4 _), (trodAll_cons_mk (Below.trod laidOut (by kernel_rfl) (of_decide_eq_true (by kernel_rfl)) k0 bel lt0) trodAll_mk0), rfl, bel.frame _, fun h => by cases h⟩
theorem over : Rows.fieldInverseRow.holds Try.pinned (OpenSpec.ofChange Rows.fieldInverseSpec) :=
  OpenClaim.holds_of_wide 5 Try.f5 rfl rfl rfl rfl rfl rfl rfl ⟨rfl, rfl, rfl, rfl, rfl⟩ rfl rfl rfl rfl rfl (by kernel_rfl) Try.func5 (by kernel_rfl)
    (of_decide_eq_true (by kernel_rfl)) (by unfold Func.isWrapper; first | (rw [if_pos (by decide +kernel)]; kernel_rfl) | (rw [if_neg (by decide +kernel)]; exact ⟨rfl, rfl⟩))
    (fun os started H enc _ => lifted os started H enc)
theorem proved : Rows.FieldInverseSaid := over
end Go.Proofs.Ytgiolpmkepadkaa.fieldInverse
