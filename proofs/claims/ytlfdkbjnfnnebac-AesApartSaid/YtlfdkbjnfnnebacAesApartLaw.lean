import Derived.Test.YtlfdkbjnfnnebacRows
import Derived.Test.YtlfdkbjnfnnebacAesMath
import Derived.Test.YtlfdkbjnfnnebacCallRegion
import Derived.Test.YtlfdkbjnfnnebacOpen
import Derived.Test.YtlfdkbjnfnnebacStr
import Derived.WalkKit
import Derived.ProofKit
import Derived.OpenShut
import Derived.ShutString
import Derived.ChangeOld
import Derived.Below
namespace Go.Proofs.Ytlfdkbjnfnnebac.aesApart
open Go Go.ChangeShapes Go.WideShapes Go.ChangeAt Go.RowKit Go.BigFrame
set_option linter.unusedVariables false
theorem own : ownKnob Try.prog.godebug = none := by kernel_rfl
theorem laidOut : laidOutB Try.prog = true := by kernel_rfl
theorem open16 {H : Type} {enc : TypeId × Value → H} {w : World} {base : Nat} {v : Value} {d : DataW H} {p : List MemPlace} (hk : Value.okWide Try.prog w .any base 33 v)
    (h : DataW.Trod enc Try.prog w 0 (fun _ => true) true 33 v d p) : ∃ f, v = .agg (b16 f) := by
  obtain ⟨cs, rfl, hs⟩ := okWide_agg (by kernel_rfl) hk
  have hs16 : cs.size = 16 := hs.trans (by kernel_rfl)
  obtain ⟨fuel, hf⟩ := h
  obtain ⟨f, hc⟩ := trod_bytes (t := 33) (e := 5) (n := 16) (by kernel_rfl) (by kernel_rfl) (by kernel_rfl) hf
  refine ⟨f, ?_⟩
  congr 1
  apply Array.ext_getElem?
  intro i
  by_cases hi : i < 16
  · rw [b16_get f i hi, ← hc i hi]
    simp [Value.cells]
  · rw [Array.getElem?_eq_none (by omega), Array.getElem?_eq_none (by simp [b16]; omega)]
set_option maxHeartbeats 4000000 in
theorem apart_any (f0 f1 f2 : Nat → BitVec 8) (w : World) :
    Calls Try.prog 6 #[.agg (b16 f0), .agg (b16 f1), .agg (b16 f2)] w fun e w' => e = .returned (.bool true) ∧ Below w.heap.size w w' := by
  go_enter Try.func6, Try.ntmps6
  go_wp2_with fail
  have R2 : (((w.alloc (.cells (b16 f0) 33)).alloc (.cells (b16 f1) 33)).alloc (.cells (b16 f2) 33)).heap[w.heap.size + 1 + 1]? = some (.cells (b16 f2) 33 (0, 0)) := by
    have h := heap_alloc_last ((w.alloc (.cells (b16 f0) 33)).alloc (.cells (b16 f1) 33)) (.cells (b16 f2) 33)
    simpa using h
  have R1 : (((w.alloc (.cells (b16 f0) 33)).alloc (.cells (b16 f1) 33)).alloc (.cells (b16 f2) 33)).heap[w.heap.size + 1]? = some (.cells (b16 f1) 33 (0, 0)) := by
    rw [Below.heap_alloc _ _ _ (by simp)]; exact heap_alloc2_new _ _ _
  have R0 : (((w.alloc (.cells (b16 f0) 33)).alloc (.cells (b16 f1) 33)).alloc (.cells (b16 f2) 33)).heap[w.heap.size]? = some (.cells (b16 f0) 33 (0, 0)) := by
    rw [Below.heap_alloc _ _ _ (by simp; omega)]; exact heap_alloc2_old _ _ _
  have B0 : Below w.heap.size w (((w.alloc (.cells (b16 f0) 33)).alloc (.cells (b16 f1) 33)).alloc (.cells (b16 f2) 33)) :=
    (((Below.refl _ _).alloc (Nat.le_refl _) _).alloc (by simp) _).alloc (by simp; omega) _
  generalize hW : ((w.alloc _).alloc _).alloc _ = wa at *
  clear hW
  have H0 := Lib.hid R0
  have H1 := Lib.hid R1
  have H2 := Lib.hid R2
  have HB := Lib.hid B0
  clear R0 R1 R2 B0
  refine (new_ok f0 w.heap.size 0 16 wa (fun i hi => by rw [cell_of_row _ _ _ _ _ _ H0.out, Nat.zero_add]; exact b16_get f0 i hi) (lt_of_heap H0.out)).mono ?_
  rintro e w1 ⟨rfl, q, hk1⟩
  have hci := hk1.cipher
  have hb1 : Below wa.heap.size wa w1 := hk1.below
  have HB1 := Lib.hid hb1
  clear hk1 hb1
  go_wp2_with fail
  refine (turns_any _).mono ?_
  rintro e w2 ⟨rfl, hb2⟩
  have hc2 := hci.later hb2
  have hb2' := HB1.out.trans (hb2.mono HB1.out.size)
  have HB2 := Lib.hid hb2'
  clear hci hb2 hb2' HB1
  go_wp2_with fail
  refine (block_ok (sched f0) f1 wa.heap.size (w.heap.size + 1) 0 16 w2 hc2 (fun i hi => by rw [HB2.out.cell (p := ⟨_, _, none⟩) (lt_of_heap H1.out), cell_of_row _ _ _ _ _ _ H1.out, Nat.zero_add]; exact b16_get f1 i hi) (Nat.lt_of_lt_of_le (lt_of_heap H1.out) HB2.out.size)).mono ?_
  rintro e w3 ⟨r1, rfl, hf1⟩
  have hc3 := hc2.later hf1.below
  have hb3 := HB2.out.trans (hf1.below.mono HB2.out.size)
  have HB3 := Lib.hid hb3
  have F1 := Lib.hid hf1
  clear hc2 hb3 hf1
  go_wp2_with fail
  refine (block_ok (sched f0) f2 wa.heap.size (w.heap.size + 1 + 1) 0 16 w3 hc3 (fun i hi => by rw [HB3.out.cell (p := ⟨_, _, none⟩) (lt_of_heap H2.out), cell_of_row _ _ _ _ _ _ H2.out, Nat.zero_add]; exact b16_get f2 i hi) (Nat.lt_of_lt_of_le (lt_of_heap H2.out) HB3.out.size)).mono ?_
  rintro e w4 ⟨r2, rfl, hf2⟩
  have hb4 := HB3.out.trans (hf2.below.mono HB3.out.size)
  generalize hA : (turned sbox (sched f0) (W4.of f1)).byte = g1 at *
  generalize hB : (turned sbox (sched f0) (W4.of f2)).byte = g2 at *
  have HA := Lib.hid hA
  have HBB := Lib.hid hB
  have F2 := Lib.hid hf2
  have HB4 := Lib.hid hb4
  clear hb4 hf2 hc3 hA hB
  go_wp2_with fail
  have e1 : (Sem.run Try.prog (convert 22 9 (.slice (some ⟨r1, 0, none⟩) 16 16)) w4.drew) = .ok (.string (strOf g1 16)) w4.drew := conv_str g1 r1 0 16 16 w4.drew (fun i hi => by
    rw [Nat.zero_add]; show w4.cell? _ = _
    rw [F2.out.below.cell (p := ⟨r1, i, none⟩) (lt_of_heap F1.out.row)]; exact F1.out.cell i hi)
  have e2 : (Sem.run Try.prog (convert 22 9 (.slice (some ⟨r2, 0, none⟩) 16 16)) w4.drew) = .ok (.string (strOf g2 16)) w4.drew := conv_str g2 r2 0 16 16 w4.drew (fun i hi => by
    rw [Nat.zero_add]; show w4.cell? _ = _
    exact F2.out.cell i hi)
  have l1 : (Instr.loadAt 33 (.pointer (some ⟨w.heap.size + 1, 0, none⟩))).run Try.prog w4.drew = .ok (.agg (b16 f1)) w4.drew := by
    simp only [Instr.loadAt, Instr.sureAddr, Sem.run_bind, Sem.run_pure, Result.andThen_ok]
    refine run_loadVar_row _ _ 33 _ _ (0, 0) _ ?_ (show Try.prog.underlying 33 = some (.array 16 5) from by kernel_rfl) rfl (size_16 f1)
    show w4.heap[_]? = _
    rw [HB4.out.block _ (lt_of_heap H1.out)]; exact H1.out
  have l2 : (Instr.loadAt 33 (.pointer (some ⟨w.heap.size + 1 + 1, 0, none⟩))).run Try.prog w4.drew = .ok (.agg (b16 f2)) w4.drew := by
    simp only [Instr.loadAt, Instr.sureAddr, Sem.run_bind, Sem.run_pure, Result.andThen_ok]
    refine run_loadVar_row _ _ 33 _ _ (0, 0) _ ?_ (show Try.prog.underlying 33 = some (.array 16 5) from by kernel_rfl) rfl (size_16 f2)
    show w4.heap[_]? = _
    rw [HB4.out.block _ (lt_of_heap H2.out)]; exact H2.out
  have q1 : (Op.equalIn 10000 33 (.agg (b16 f1)) (.agg (b16 f2))).run Try.prog w4.drew = .ok (allEq f1 f2 16) w4.drew :=
    run_eq_bytes (P := Try.prog) (t := 33) (e := 5) (n := 16) f1 f2 w4.drew (by kernel_rfl) (by kernel_rfl) (by kernel_rfl) (by kernel_rfl) (by kernel_rfl)
  have s1 := strOf_allEq g1 g2 16
  have s2 := strOf_list_allEq g1 g2 16
  generalize hdB : allEq f1 f2 16 = dB at *
  generalize hdA : allEq g1 g2 16 = dA at *
  have HdA := Lib.hid hdA
  have HdB := Lib.hid hdB
  clear hdA hdB
  refine region_quiet mixedOrders (by kernel_rfl) ?_
  repeat (go_big_quiet_step (fail))
  refine wpQuiet_run (.agg (b16 f1)) (by rfl) (fun w' hw' => by
    subst hw'
    show Sem.run _ (Instr.loadAt 33 (.pointer (some ⟨w.heap.size + 1, 0, none⟩)) >>= fun v => pure (Next.value v)) _ = _
    rw [Sem.run_bind, l1]; rfl) ?_
  refine wpQuiet_run (.agg (b16 f2)) (by rfl) (fun w' hw' => by
    subst hw'
    show Sem.run _ (Instr.loadAt 33 (.pointer (some ⟨w.heap.size + 1 + 1, 0, none⟩)) >>= fun v => pure (Next.value v)) _ = _
    rw [Sem.run_bind, l2]; rfl) ?_
  simp only [Act.put, List.setIfInBounds_toArray, List.set_cons_succ, List.set_cons_zero]
  repeat (go_big_quiet_step (fail))
  refine wpQuiet_nil ?_
  clear e1 e2 l1 l2 q1 s1 s2
  go_wp2_with fail
  go_ret
  have hAB : dA = dB := by
    rw [← HdA.out, ← HdB.out, Bool.eq_iff_iff, allEq_iff, allEq_iff, ← HA.out, ← HBB.out]
    exact turned_bytes (sched f0) f1 f2
  refine ⟨?_, (HB.out.trans (HB4.out.mono HB.out.size)).drew⟩
  subst hAB
  simp
theorem walk {H : Type} {enc : TypeId × Value → H} (w : World) (base : Nat) (v0 v1 v2 : Value) (d0 d1 d2 : DataW H) (p0 p1 p2 : List MemPlace)
    (k0 : Value.okWide Try.prog w .any base 33 v0) (k1 : Value.okWide Try.prog w .any base 33 v1) (k2 : Value.okWide Try.prog w .any base 33 v2)
    (h0 : DataW.Trod enc Try.prog w 0 (fun _ => true) true 33 v0 d0 p0) (h1 : DataW.Trod enc Try.prog w 0 (fun _ => true) true 33 v1 d1 p1) (h2 : DataW.Trod enc Try.prog w 0 (fun _ => true) true 33 v2 d2 p2) :
    Calls Try.prog 6 #[v0, v1, v2] w fun e w' => e = .returned (.bool true) ∧ Below w.heap.size w w' := by
  obtain ⟨f0, rfl⟩ := open16 k0 h0
  obtain ⟨f1, rfl⟩ := open16 k1 h1
  obtain ⟨f2, rfl⟩ := open16 k2 h2
  exact apart_any f0 f1 f2 w
set_option maxRecDepth 100000 in
theorem lifted (os : Os) (started : os.Started) (H : Type) (enc : TypeId × Value → H) :
    ReturnsInHanded {} Try.checked os 6 .any (Rows.aesApartSpec.pre6 enc Try.prog Try.f6 Rows.aesApartRow.domain false) (Rows.aesApartSpec.post enc Try.prog Try.f6 false true false false) := by
  refine returnsInHanded_of_change (C := Try.checked) own started (by kernel_rfl) Try.func6
    (ChangeSpec.witness6 (enc := enc) (C := Try.checked) false ⟨#[], #[.agg (Array.replicate 16 (.int .u8 0)), .agg (Array.replicate 16 (.int .u8 0)), .agg (Array.replicate 16 (.int .u8 0))], []⟩ 8 (by kernel_rfl) (by kernel_rfl) (by kernel_rfl) (by kernel_rfl)) ?_
  intro W base args ds gs before hval0 hW hcnd _
  have hval : ∀ (j : Nat) t v, Try.f6.params[j]? = some t → args[j]? = some v → Value.okWide Try.prog W .any base t v := hval0
  have hW' := hW
  obtain ⟨p, q, hA0, hV, rfl, hfz, hnd⟩ := hW
  have hA : DataW.TrodAll enc Try.prog W 0 (fun _ => true) true Try.f6.params.toList args.toList ds p := hA0
  rw [Try.params6] at hA hval
  obtain ⟨v0, vs0, d0, ds0, p0, q0, hargs, rfl, rfl, h0, r0⟩ := trodAll_cons hA
  obtain ⟨v1, vs1, d1, ds1, p1, q1, rfl, rfl, rfl, h1, r1⟩ := trodAll_cons r0
  obtain ⟨v2, vs2, d2, ds2, p2, q2, rfl, rfl, rfl, h2, r2⟩ := trodAll_cons r1
  obtain ⟨rfl, rfl, rfl⟩ := trodAll_nil r2
  obtain rfl : args = #[v0, v1, v2] := by cases args; simp_all
  obtain ⟨rfl, rfl⟩ := trodVars_none hV
  have k0 := h0
  have lt0 : ∀ x ∈ p0, x.block < W.heap.size := by obtain ⟨m, hm⟩ := k0; exact DataW.trod_lt m _ _ _ hm
  have k1 := h1
  have lt1 : ∀ x ∈ p1, x.block < W.heap.size := by obtain ⟨m, hm⟩ := k1; exact DataW.trod_lt m _ _ _ hm
  have k2 := h2
  have lt2 : ∀ x ∈ p2, x.block < W.heap.size := by obtain ⟨m, hm⟩ := k2; exact DataW.trod_lt m _ _ _ hm
  clear hA0 hval0
  refine (walk W base v0 v1 v2 d0 d1 d2 p0 p1 p2 (hval 0 33 v0 rfl rfl) (hval 1 33 v1 rfl rfl) (hval 2 33 v2 rfl rfl) k0 k1 k2).mono fun e W' ⟨he, bel⟩ => ?_
  subst he
  exact ⟨_, rfl, _, _, _, [], _, [], hW', trodAll_mk1 (shut_bool Try.underlying4 _), (trodAll_cons_mk (Below.trod laidOut (by kernel_rfl) (of_decide_eq_true (by kernel_rfl)) k0 bel lt0) (trodAll_cons_mk (Below.trod laidOut (by kernel_rfl) (of_decide_eq_true (by kernel_rfl)) k1 bel lt1) (trodAll_cons_mk (Below.trod laidOut (by kernel_rfl) (of_decide_eq_true (by kernel_rfl)) k2 bel lt2) trodAll_mk0))), rfl, bel.frame _, fun h => by cases h⟩
theorem over : Rows.aesApartRow.holds Try.pinned (OpenSpec.ofChange Rows.aesApartSpec) :=
  OpenClaim.holds_of_wide 6 Try.f6 rfl rfl rfl rfl rfl rfl rfl ⟨rfl, rfl, rfl, rfl, rfl⟩ rfl rfl rfl rfl rfl (by kernel_rfl) Try.func6 (by kernel_rfl)
    (of_decide_eq_true (by kernel_rfl)) (by unfold Func.isWrapper; first | (rw [if_pos (by decide +kernel)]; kernel_rfl) | (rw [if_neg (by decide +kernel)]; exact ⟨rfl, rfl⟩))
    (fun os started H enc _ => lifted os started H enc)
theorem proved : Rows.AesApartSaid := over
end Go.Proofs.Ytlfdkbjnfnnebac.aesApart
