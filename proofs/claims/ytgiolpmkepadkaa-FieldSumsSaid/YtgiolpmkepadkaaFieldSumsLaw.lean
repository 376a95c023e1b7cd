/-
  FieldSums holds: of all bytes Of, Bytes, Add and Sub of field tell the numbers modulo p, as the document does. No conditions.
-/
import Derived.Test.YtgiolpmkepadkaaRows
import Derived.Test.YtgiolpmkepadkaaNew
import Derived.Test.YtgiolpmkepadkaaFieldRefE
import Derived.Test.YtgiolpmkepadkaaFast
import Derived.WalkKit
import Derived.ProofKit
import Derived.OpenShut
import Derived.ShutString
import Derived.ChangeOld
import Derived.Below
import Derived.Deep.DeepCutAuto
import Derived.Deep.Upon
import Derived.Deep.AppendSrc
import Derived.SizedLaws
namespace Go.Proofs.Ytgiolpmkepadkaa.fieldSums
open Go Go.ChangeShapes Go.WideShapes Go.ChangeAt Go.RowKit Go.BigFrame
set_option linter.unusedVariables false
theorem own : ownKnob Try.prog.godebug = none := by kernel_rfl
theorem laidOut : laidOutB Try.prog = true := by kernel_rfl
def zeros5 : Array Value := #[.int .u64 0, .int .u64 0, .int .u64 0, .int .u64 0, .int .u64 0]
theorem cancel_mod {a b c : Nat} (h : (a + c) % E5.p = (b + c) % E5.p) : a % E5.p = b % E5.p := by
  unfold E5.p at *
  omega
theorem quiet_run {P : Program} {C : World → Prop} {o : Oper} {a : Act} {w : World} {v : Value} (h : (execOp a.eval o).run P w = .ok (.value v) w) : o.quietAt P a C w v := by
  unfold Oper.quietAt
  rw [h]
  exact ⟨rfl, rfl⟩
theorem quiet_of_run {P : Program} {x : Sem Value} {v : Value} {w : World} (h : x.run P w = .ok v w) : (x >>= fun v => pure (Next.value v)).run P w = .ok (.value v) w := by
  rw [Sem.run_bind, h]; rfl
theorem wpList_load_row_g {P : Program} {ops : Array Oper} {rest : List Oper} {o : Oper} {a : Act} {w : World} {Q : Exit → Act → World → Prop} (hw : Region.wanted o (yielded ops a.tmps) = true) (ty : TypeId) (x : Operand) (ho : o.op = .load ty x)
    (g : Nat) (hx : a.eval x = .pointer (some ⟨g, 0, none⟩)) (t : TypeId) (cs : Array Value) (fr : Nat × Nat) (d : TypeDesc) (hg : w.heap[g]? = some (.cells cs t fr))
    (hu : P.underlying ty = some d) (hd : (match d with | .struct _ | .array _ _ => true | _ => false) = true) (hi : (P.info? ty).map (·.size) = some cs.size)
    (h : wpList P ops Q rest (a.put o.dst (.agg cs)) w) : wpList P ops Q (o :: rest) a w :=
  wpList_step fun K hK => by rw [if_pos hw]; exact wp_load_row ty x ho g hx t cs fr d hg hu hd hi (hK _ _ h)
set_option maxHeartbeats 40000000 in
set_option maxRecDepth 100000 in
theorem law_any (f0 f1 : Nat → BitVec 8) (w : World) :
    Calls Try.prog 3 #[.agg (b32 f0), .agg (b32 f1)] w fun e w' => e = .returned (.bool true) ∧ Below w.heap.size w w' := by
  go_enter Try.func3, Try.ntmps3
  go_wp2_with fail
  have R0 := rows_alloc w [.cells (b32 f0) 22, .cells (b32 f1) 22] 0
  have R1 := rows_alloc w [.cells (b32 f0) 22, .cells (b32 f1) 22] 1
  have hb : Below w.heap.size w ((w.alloc (.cells (b32 f0) 22)).alloc (.cells (b32 f1) 22)) := by
    repeat (first | exact Below.refl _ _ | refine Below.alloc ?_ (by simp; try omega) _)
  have hs : w.heap.size + 1 < ((w.alloc (.cells (b32 f0) 22)).alloc (.cells (b32 f1) 22)).heap.size := by simp
  simp only [List.foldl] at R0 R1
  generalize hW : (w.alloc _).alloc _ = wa at *
  clear hW
  have R0' : wa.heap[w.heap.size]? = some (.cells (b32 f0) 22 (0, 0)) := R0
  have R1' : wa.heap[w.heap.size + 1]? = some (.cells (b32 f1) 22 (0, 0)) := R1
  clear R0 R1
  have H0 := Lib.hid R0'; have H1 := Lib.hid R1'; have HB := Lib.hid hb; have HS := Lib.hid hs
  clear R0' R1' hb hs
  refine region_news 6 (fun _ => zeros5) [(4, 5), (5, 6)] mixedOrders (by kernel_rfl) (by kernel_rfl) (zero_one (T := 26) (by kernel_rfl) (by kernel_rfl)) ?_
  refine wpNew_step rfl (fun K hK => ⟨.agg (b32 f0), fun w' hw' => quiet_load_row 22 _ rfl w.heap.size rfl _ _ (0, 0) _ (below_row hw' (by have := HS.out; show _ < wa.heap.size; omega) H0.out) Try.underlying22 rfl (by rw [b32_size]; kernel_rfl), hK _ ?_⟩)
  clear hK K
  refine wpNew_step rfl (fun K hK => ⟨(E5.of f0).v, fun w' hw' => ?_, hK _ ?_⟩)
  · go_simp
    go_at_call 8
    exact ofE_any f0 w'
  clear hK K
  refine wpNew_step rfl (fun K hK => ⟨.agg (b32 f1), fun w' hw' => quiet_load_row 22 _ rfl (w.heap.size + 1) rfl _ _ (0, 0) _ (below_row hw' (by have := HS.out; show _ < wa.heap.size; omega) H1.out) Try.underlying22 rfl (by rw [b32_size]; kernel_rfl), hK _ ?_⟩)
  clear hK K
  refine wpNew_step rfl (fun K hK => ⟨(E5.of f1).v, fun w' hw' => ?_, hK _ ?_⟩)
  · go_simp
    go_at_call 8
    exact ofE_any f1 w'
  clear hK K
  refine wpNew_skip rfl ?_
  refine wpNew_skip rfl ?_
  refine wpNew_nil ?_
  intro bs w1 hb1 hrows hap
  have r5 := hrows 4 _ 26 (by omega) rfl rfl
  have r6 := hrows 5 _ 26 (by omega) rfl rfl
  have n65 : bs 5 ≠ bs 4 := fun e => by have := hap 5 4 _ _ (by omega) (by omega) rfl rfl rfl rfl e; omega
  clear hrows hap
  simp only [putNews, newPtr, Act.put, List.setIfInBounds_toArray, List.set_cons_succ, List.set_cons_zero, List.drop_succ_cons, List.drop_zero]
  generalize bs 4 = B5 at *
  generalize bs 5 = B6 at *
  have oX := of_ok f0
  have oY := of_ok f1
  have vX := E5.of_val f0
  have vY := E5.of_val f1
  generalize E5.of f0 = X at *
  generalize E5.of f1 = Y at *
  refine wpList_store_row rfl 26 (.tmp 5) (.tmp 10) rfl B5 _ _ X.cells rfl rfl r5.2 (Eq.trans (b := 5) rfl rfl) (by kernel_rfl) (by kernel_rfl) ?_
  intro w2 s2
  refine wpList_store_row rfl 26 (.tmp 6) (.tmp 12) rfl B6 _ _ Y.cells rfl rfl (s2.keep n65 r6.2) (Eq.trans (b := 5) rfl rfl) (by kernel_rfl) (by kernel_rfl) ?_
  intro w4 s4
  have q6 := s4.row
  have q5 := s4.keep n65.symm s2.row
  have hz := HS.out
  have l5 : wa.heap.size ≤ B5 := r5.1
  have l6 : wa.heap.size ≤ B6 := r6.1
  have hb1' : Below wa.heap.size wa w1 := ((Below.refl _ _).drew).trans hb1
  have hb4a : Below wa.heap.size wa w4 := (hb1'.trans (s2.below _ l5)).trans (s4.below _ l6)
  have hb4 : Below w.heap.size w w4 := HB.out.trans (hb4a.mono (by omega))
  have q0 := below_row hb4a (by omega) H0.out
  have q1 := below_row hb4a (by omega) H1.out
  have la : w.heap.size + 1 < w4.heap.size := Nat.lt_of_lt_of_le hz hb4a.size
  have l5 := lt_row q5; have l6 := lt_row q6
  clear s2 s4 r5 r6 n65 hb1 hb1' hb4a hz w1 w2 H0 H1 HB HS
  have Q0 := Lib.hid q0; have Q1 := Lib.hid q1; have Q5 := Lib.hid q5; have Q6 := Lib.hid q6; have H4 := Lib.hid hb4
  have LA := Lib.hid la; have L5 := Lib.hid l5; have L6 := Lib.hid l6
  clear q0 q1 q5 q6 hb4 la l5 l6
  have C0 : Hid (∀ w' : World, Below w4.heap.size w4 w' → (convert 29 9 (.slice (some ⟨w.heap.size, 0, none⟩) 32 32)).run Try.prog w' = .ok (.string (strOf f0 32)) w') :=
    Lib.hid (fun w' h => conv_str f0 w.heap.size 0 32 32 w' (fun i hi => by rw [cell_of_row _ _ _ _ _ _ (below_row h (by have := LA.out; omega) Q0.out), Nat.zero_add]; exact b32_get _ i hi))
  have C1 : Hid (∀ w' : World, Below w4.heap.size w4 w' → (convert 29 9 (.slice (some ⟨w.heap.size + 1, 0, none⟩) 32 32)).run Try.prog w' = .ok (.string (strOf f1 32)) w') :=
    Lib.hid (fun w' h => conv_str f1 (w.heap.size + 1) 0 32 32 w' (fun i hi => by rw [cell_of_row _ _ _ _ _ _ (below_row h LA.out Q1.out), Nat.zero_add]; exact b32_get _ i hi))
  have hpx : X.val % E5.p < E5.p := Nat.mod_lt _ (by decide)
  have hpy : Y.val % E5.p < E5.p := Nat.mod_lt _ (by decide)
  have hlt : E5.p < 2 ^ 256 := by decide
  obtain ⟨a, ha⟩ : ∃ a, X.val % E5.p = a := ⟨_, rfl⟩
  obtain ⟨b, hb⟩ : ∃ b, Y.val % E5.p = b := ⟨_, rfl⟩
  have F0 : Hid (∀ w' : World, Calls Try.prog 9 #[.string (strOf f0 32)] w' fun e w'' => e = .returned (.string (numS a)) ∧ Below w'.heap.size w' w'') :=
    Lib.hid (by rw [← ha, vX]; exact refOf_any f0)
  have F1 : Hid (∀ w' : World, Calls Try.prog 9 #[.string (strOf f1 32)] w' fun e w'' => e = .returned (.string (numS b)) ∧ Below w'.heap.size w' w'') :=
    Lib.hid (by rw [← hb, vY]; exact refOf_any f1)
  have T0 : Hid (∀ w' : World, Calls Try.prog 11 #[.agg (E5.cells X)] w' fun e w'' => e = .returned (.string (numS a)) ∧ Below w'.heap.size w' w'') := Lib.hid (fun w' => text_as oX _ ha w')
  have T1 : Hid (∀ w' : World, Calls Try.prog 11 #[.agg (E5.cells Y)] w' fun e w'' => e = .returned (.string (numS b)) ∧ Below w'.heap.size w' w'') := Lib.hid (fun w' => text_as oY _ hb w')
  have T2 : Hid (∀ w' : World, Calls Try.prog 11 #[E5.v (X.add Y)] w' fun e w'' => e = .returned (.string (numS ((a + b) % E5.p))) ∧ Below w'.heap.size w' w'') :=
    Lib.hid (fun w' => text_as (E5.add_ok oX oY).1 _ (by rw [(E5.add_ok oX oY).2, Nat.add_mod, ha, hb]) w')
  have T3 : Hid (∀ w' : World, Calls Try.prog 11 #[E5.v (X.sub Y)] w' fun e w'' => e = .returned (.string (numS ((a + E5.p - b) % E5.p))) ∧ Below w'.heap.size w' w'') :=
    Lib.hid (fun w' => text_as (E5.sub_ok oX oY).1 _ (by
      refine Eq.trans (cancel_mod (c := b) ?_) (Nat.mod_mod _ _)
      have h2 : a + E5.p - b + b = a + E5.p := by omega
      rw [Nat.mod_add_mod, h2, Nat.add_mod_right, ← hb, Nat.add_mod_mod, (E5.sub_ok oX oY).2, ha, Nat.mod_eq_of_lt (by omega : a < E5.p)]) w')
  have G0 : Hid (∀ w' : World, Calls Try.prog 13 #[.string (numS a), .string (numS b)] w' fun e w'' => e = .returned (.string (numS ((a + b) % E5.p))) ∧ Below w'.heap.size w' w'') := Lib.hid (refAdd_any a b (by omega) (by omega))
  have G1 : Hid (∀ w' : World, Calls Try.prog 15 #[.string (numS a), .string (numS b)] w' fun e w'' => e = .returned (.string (numS ((a + E5.p - b) % E5.p))) ∧ Below w'.heap.size w' w'') := Lib.hid (refSub_any a b (by omega) (by omega))
  have M0 : Hid (∀ w' : World, Calls Try.prog 12 #[.agg (E5.cells X), .agg (E5.cells Y)] w' fun e w'' => e = .returned (E5.v (X.add Y)) ∧ Below w'.heap.size w' w'') := Lib.hid (addE_any X Y)
  have M1 : Hid (∀ w' : World, Calls Try.prog 14 #[.agg (E5.cells X), .agg (E5.cells Y)] w' fun e w'' => e = .returned (E5.v (X.sub Y)) ∧ Below w'.heap.size w' w'') := Lib.hid (subE_any X Y)
  clear ha hb hpx hpy hlt oX oY vX vY
  generalize X.add Y = Z at *
  generalize X.sub Y = Z' at *
  generalize numS ((a + b) % E5.p) = SA at *
  generalize numS ((a + E5.p - b) % E5.p) = SB at *
  generalize numS a = SX at *
  generalize numS b = SY at *
  have sl := arr32
  go_wp2_with fail
  refine region_class1 7 (fun w' => Below w4.heap.size w4 w') mixedOrders (by kernel_rfl) (Below.refl _ _).drew rfl ?_
  refine wpQuiet_take (by rfl) (fun K hK => ⟨.slice (some ⟨w.heap.size, 0, none⟩) 32 32, fun w' hw' => quiet_run (quiet_of_run (arr32 (w.heap.size) w')), hK _ ?_⟩)
  clear hK K
  simp only [Act.put, List.setIfInBounds_toArray, List.set_cons_succ, List.set_cons_zero]
  refine wpQuiet_take (by rfl) (fun K hK => ⟨.string (strOf f0 32), fun w' hw' => quiet_run (quiet_of_run (C0.out w' hw')), hK _ ?_⟩)
  clear hK K
  simp only [Act.put, List.setIfInBounds_toArray, List.set_cons_succ, List.set_cons_zero]
  refine wpQuiet_take (by rfl) (fun K hK => ⟨.string SX, fun w' hw' => ?_, hK _ ?_⟩)
  · have hw2 := Lib.hid hw'
    clear hw'
    go_simp
    go_at_call 9
    with_reducible refine (F0.out w').mono ?_
    rintro e w1 ⟨rfl, hb⟩
    exact ⟨rfl, hw2.out.trans (hb.mono hw2.out.size)⟩
  clear hK K
  simp only [Act.put, List.setIfInBounds_toArray, List.set_cons_succ, List.set_cons_zero]
  refine wpQuiet_take (by rfl) (fun K hK => ⟨.slice (some ⟨w.heap.size + 1, 0, none⟩) 32 32, fun w' hw' => quiet_run (quiet_of_run (arr32 (w.heap.size + 1) w')), hK _ ?_⟩)
  clear hK K
  simp only [Act.put, List.setIfInBounds_toArray, List.set_cons_succ, List.set_cons_zero]
  refine wpQuiet_take (by rfl) (fun K hK => ⟨.string (strOf f1 32), fun w' hw' => quiet_run (quiet_of_run (C1.out w' hw')), hK _ ?_⟩)
  clear hK K
  simp only [Act.put, List.setIfInBounds_toArray, List.set_cons_succ, List.set_cons_zero]
  refine wpQuiet_take (by rfl) (fun K hK => ⟨.string SY, fun w' hw' => ?_, hK _ ?_⟩)
  · have hw2 := Lib.hid hw'
    clear hw'
    go_simp
    go_at_call 9
    with_reducible refine (F1.out w').mono ?_
    rintro e w1 ⟨rfl, hb⟩
    exact ⟨rfl, hw2.out.trans (hb.mono hw2.out.size)⟩
  clear hK K
  simp only [Act.put, List.setIfInBounds_toArray, List.set_cons_succ, List.set_cons_zero]
  refine wpQuiet_take (by rfl) (fun K hK => ⟨.string SX, fun w' hw' => ?_, hK _ ?_⟩)
  · clear hw'; go_simp
  clear hK K
  simp only [Act.put, List.setIfInBounds_toArray, List.set_cons_succ, List.set_cons_zero]
  refine wpQuiet_take0 ?_
  intro wz hz
  have hbz := H4.out.trans (hz.mono H4.out.size)
  have q5 := below_row hz L5.out Q5.out
  have q6 := below_row hz L6.out Q6.out
  have l5 := lt_row q5; have l6 := lt_row q6
  have QQ5 := Lib.hid q5; have QQ6 := Lib.hid q6; have LL5 := Lib.hid l5; have LL6 := Lib.hid l6
  clear hz q5 q6 l5 l6 Q0 Q1 Q5 Q6 C0 C1 F0 F1 H4 L5 L6 LA sl
  have hcur := Below.refl wz.heap.size wz
  go_wp2_with (first
    | (go_at_call 10; with_reducible refine (wraps_any _).mono ?_; rintro e w' ⟨rfl, hq⟩; have hcur := hcur.trans (hq.mono hcur.size); clear hq)
    | (refine wpList_load_row_g (o := ⟨some 21, .load 26 _, _, _, _, _⟩) (by rfl) 26 _ rfl B5 rfl _ X.cells (0, 0) _ (below_row hcur LL5.out QQ5.out) Try.underlying26 rfl (by kernel_rfl) ?_)
    | (refine wpList_load_row_g (o := ⟨some 27, .load 26 _, _, _, _, _⟩) (by rfl) 26 _ rfl B6 rfl _ Y.cells (0, 0) _ (below_row hcur LL6.out QQ6.out) Try.underlying26 rfl (by kernel_rfl) ?_)
    | (refine wpList_load_row_g (o := ⟨some 33, .load 26 _, _, _, _, _⟩) (by rfl) 26 _ rfl B5 rfl _ X.cells (0, 0) _ (below_row hcur LL5.out QQ5.out) Try.underlying26 rfl (by kernel_rfl) ?_)
    | (refine wpList_load_row_g (o := ⟨some 34, .load 26 _, _, _, _, _⟩) (by rfl) 26 _ rfl B6 rfl _ Y.cells (0, 0) _ (below_row hcur LL6.out QQ6.out) Try.underlying26 rfl (by kernel_rfl) ?_)
    | (refine wpList_load_row_g (o := ⟨some 43, .load 26 _, _, _, _, _⟩) (by rfl) 26 _ rfl B5 rfl _ X.cells (0, 0) _ (below_row hcur LL5.out QQ5.out) Try.underlying26 rfl (by kernel_rfl) ?_)
    | (refine wpList_load_row_g (o := ⟨some 44, .load 26 _, _, _, _, _⟩) (by rfl) 26 _ rfl B6 rfl _ Y.cells (0, 0) _ (below_row hcur LL6.out QQ6.out) Try.underlying26 rfl (by kernel_rfl) ?_)
    | (go_at_call 11; with_reducible refine (T0.out _).mono ?_; rintro e w' ⟨rfl, hq⟩; have hcur := hcur.trans (hq.mono hcur.size); clear hq)
    | (go_at_call 11; with_reducible refine (T1.out _).mono ?_; rintro e w' ⟨rfl, hq⟩; have hcur := hcur.trans (hq.mono hcur.size); clear hq)
    | (go_at_call 11; with_reducible refine (T2.out _).mono ?_; rintro e w' ⟨rfl, hq⟩; have hcur := hcur.trans (hq.mono hcur.size); clear hq)
    | (go_at_call 11; with_reducible refine (T3.out _).mono ?_; rintro e w' ⟨rfl, hq⟩; have hcur := hcur.trans (hq.mono hcur.size); clear hq)
    | (go_at_call 12; with_reducible refine (M0.out _).mono ?_; rintro e w' ⟨rfl, hq⟩; have hcur := hcur.trans (hq.mono hcur.size); clear hq)
    | (go_at_call 14; with_reducible refine (M1.out _).mono ?_; rintro e w' ⟨rfl, hq⟩; have hcur := hcur.trans (hq.mono hcur.size); clear hq)
    | (go_at_call 13; with_reducible refine (G0.out _).mono ?_; rintro e w' ⟨rfl, hq⟩; have hcur := hcur.trans (hq.mono hcur.size); clear hq)
    | (go_at_call 15; with_reducible refine (G1.out _).mono ?_; rintro e w' ⟨rfl, hq⟩; have hcur := hcur.trans (hq.mono hcur.size); clear hq))
  go_ret
  exact ⟨rfl, hbz.trans (hcur.mono hbz.size)⟩
theorem walk {H : Type} {enc : TypeId × Value → H} (w : World) (base : Nat) (v0 v1 : Value) (d0 d1 : DataW H) (p0 p1 : List MemPlace)
    (k0 : Value.okWide Try.prog w .any base 22 v0) (k1 : Value.okWide Try.prog w .any base 22 v1)
    (h0 : DataW.Trod enc Try.prog w 0 (fun _ => true) true 22 v0 d0 p0) (h1 : DataW.Trod enc Try.prog w 0 (fun _ => true) true 22 v1 d1 p1) :
    Calls Try.prog 3 #[v0, v1] w fun e w' => e = .returned (.bool true) ∧ Below w.heap.size w w' := by
  obtain ⟨f0, rfl⟩ := open32 k0 h0
  obtain ⟨f1, rfl⟩ := open32 k1 h1
  exact law_any f0 f1 w
set_option maxRecDepth 100000 in
theorem lifted (os : Os) (started : os.Started) (H : Type) (enc : TypeId × Value → H) :
    ReturnsInHanded {} Try.checked os 3 .any (Rows.fieldSumsSpec.pre6 enc Try.prog Try.f3 Rows.fieldSumsRow.domain false) (Rows.fieldSumsSpec.post enc Try.prog Try.f3 false true false false) := by
  refine returnsInHanded_of_change (C := Try.checked) own started (by kernel_rfl) Try.func3
    (ChangeSpec.witness6 (enc := enc) (C := Try.checked) false ⟨#[], #[.agg (Array.replicate 32 (.int .u8 0)), .agg (Array.replicate 32 (.int .u8 0))], []⟩ 8 (by kernel_rfl) (by kernel_rfl) (by kernel_rfl) (by kernel_rfl)) ?_
  intro W base args ds gs before hval0 hW hcnd _
  have hval : ∀ (j : Nat) t v, Try.f3.params[j]? = some t → args[j]? = some v → Value.okWide Try.prog W .any base t v := hval0
  have hW' := hW
  obtain ⟨p, q, hA0, hV, rfl, hfz, hnd⟩ := hW
  have hA : DataW.TrodAll enc Try.prog W 0 (fun _ => true) true Try.f3.params.toList args.toList ds p := hA0
  rw [Try.params3] at hA hval
  obtain ⟨v0, vs0, d0, ds0, p0, q0, hargs, rfl, rfl, h0, r0⟩ := trodAll_cons hA
  obtain ⟨v1, vs1, d1, ds1, p1, q1, rfl, rfl, rfl, h1, r1⟩ := trodAll_cons r0
  obtain ⟨rfl, rfl, rfl⟩ := trodAll_nil r1
  obtain rfl : args = #[v0, v1] := by cases args; simp_all
  obtain ⟨rfl, rfl⟩ := trodVars_none hV
  have k0 := h0
  have lt0 : ∀ x ∈ p0, x.block < W.heap.size := by obtain ⟨m, hm⟩ := k0; exact DataW.trod_lt m _ _ _ hm
  have k1 := h1
  have lt1 : ∀ x ∈ p1, x.block < W.heap.size := by obtain ⟨m, hm⟩ := k1; exact DataW.trod_lt m _ _ _ hm
  clear hA0 hval0
  refine (walk W base v0 v1 d0 d1 p0 p1 (hval 0 22 v0 rfl rfl) (hval 1 22 v1 rfl rfl) k0 k1).mono fun e W' ⟨he, bel⟩ => ?_
  subst he
  exact ⟨_, rfl, _, _, _, [], _, [], hW', trodAll_mk1 (shut_bool Try.underlying4 _), (trodAll_cons_mk (Below.trod laidOut (by kernel_rfl) (of_decide_eq_true (by kernel_rfl)) k0 bel lt0) (trodAll_cons_mk (Below.trod laidOut (by kernel_rfl) (of_decide_eq_true (by kernel_rfl)) k1 bel lt1) trodAll_mk0)), rfl, bel.frame _, fun h => by cases h⟩
theorem over : Rows.fieldSumsRow.holds Try.pinned (OpenSpec.ofChange Rows.fieldSumsSpec) :=
  OpenClaim.holds_of_wide 3 Try.f3 rfl rfl rfl rfl rfl rfl rfl ⟨rfl, rfl, rfl, rfl, rfl⟩ rfl rfl rfl rfl rfl (by kernel_rfl) Try.func3 (by kernel_rfl)
    (of_decide_eq_true (by kernel_rfl)) (by unfold Func.isWrapper; first | (rw [if_pos (by decide +kernel)]; kernel_rfl) | (rw [if_neg (by decide +kernel)]; exact ⟨rfl, rfl⟩))
    (fun os started H enc _ => lifted os started H enc)
theorem proved : Rows.FieldSumsSaid := over
end Go.Proofs.Ytgiolpmkepadkaa.fieldSums
