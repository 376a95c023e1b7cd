/-
  GcmTimes holds: of all blocks Times tells the field's product; it doesn't hang on the order, and shares out over what is put together. No conditions.
-/
import Derived.Test.YtoocglckhphepaaRows
import Derived.Test.YtoocglckhphepaaGcmR
import Derived.Test.YtoocglckhphepaaOpen
import Derived.WalkKit
import Derived.ProofKit
import Derived.OpenShut
import Derived.ShutString
import Derived.ChangeOld
import Derived.Below
import Derived.Deep.DeepCutAuto
import Derived.Deep.Upon
import Derived.Deep.AppendSrc
import Derived.SizedLaws
namespace Go.Proofs.Ytoocglckhphepaa.gcmTimes
open Go Go.ChangeShapes Go.WideShapes Go.ChangeAt Go.RowKit Go.BigFrame
set_option linter.unusedVariables false
theorem own : ownKnob Try.prog.godebug = none := by kernel_rfl
theorem laidOut : laidOutB Try.prog = true := by kernel_rfl
set_option linter.unusedSimpArgs false
theorem open16 {H : Type} {enc : TypeId × Value → H} {w : World} {base : Nat} {v : Value} {d : DataW H} {p : List MemPlace} (hk : Value.okWide Try.prog w .any base 22 v)
    (h : DataW.Trod enc Try.prog w 0 (fun _ => true) true 22 v d p) : ∃ f, v = .agg (b16 f) := by
  obtain ⟨cs, rfl, hs⟩ := okWide_agg (by kernel_rfl) hk
  have hs16 : cs.size = 16 := hs.trans (by kernel_rfl)
  obtain ⟨fuel, hf⟩ := h
  obtain ⟨f, hc⟩ := trod_bytes (t := 22) (e := 5) (n := 16) (by kernel_rfl) (by kernel_rfl) (by kernel_rfl) hf
  refine ⟨f, ?_⟩
  congr 1
  apply Array.ext_getElem?
  intro i
  by_cases hi : i < 16
  · rw [b16_get f i hi, ← hc i hi]
    simp [Value.cells]
  · rw [Array.getElem?_eq_none (by omega), Array.getElem?_eq_none (by simp [b16]; omega)]
/-- A row of 16 bytes. -/
def R16 (w : World) (k : Nat) (f : Nat → BitVec 8) : Prop := w.heap[k]? = some (.cells (b16 f) 22 (0, 0))
theorem R16.later {w w' : World} {k : Nat} {f : Nat → BitVec 8} (h : R16 w k f) (hb : Below w.heap.size w w') : R16 w' k f := (hb.block _ (lt_row h)).trans h
theorem R16.cell {w : World} {k : Nat} {f : Nat → BitVec 8} (h : R16 w k f) (i : Nat) (hi : i < 16) : w.cell? ⟨k, i, none⟩ = some (.int .u8 (n8 (f i))) := by
  rw [cell_of_row _ _ _ _ _ _ h]; exact b16_get f i hi
theorem R16.set {w : World} {k : Nat} {f : Nat → BitVec 8} (h : R16 w k f) (i : Nat) (x : BitVec 8) : R16 (w.setCell ⟨k, i, none⟩ (.int .u8 (n8 x))) k (updb f i x) := by
  show _ = _
  rw [heap_setCell_same _ _ _ _ _ _ h, ← bytes16_b16, bytesArr_set, bytes16_b16]
theorem R16.other {w : World} {k j : Nat} {f : Nat → BitVec 8} (h : R16 w k f) (hk : k ≠ j) (i : Nat) (v : Value) : R16 (w.setCell ⟨j, i, none⟩ v) k f := (heap_setCell_other _ _ _ _ hk).trans h
theorem R16.conv {w : World} {k : Nat} {f : Nat → BitVec 8} (h : R16 w k f) : (convert 25 9 (.slice (some ⟨k, 0, none⟩) 16 16)).run Try.prog w = .ok (.string (strOf f 16)) w :=
  conv_str f k 0 16 16 w (fun i hi => by rw [Nat.zero_add]; exact h.cell i hi)
theorem R16.congr {w : World} {k : Nat} {f g : Nat → BitVec 8} (h : R16 w k f) (e : ∀ i, i < 16 → f i = g i) : R16 w k g := by
  unfold R16 at *
  rw [h, ← bytes16_b16, ← bytes16_b16, bytesArr_congr f g 16 e]
theorem zeros_b16 : zeros16 = b16 (fun _ => 0#8) := by
  unfold zeros16 b16
  rw [show n8 0#8 = 0 by unfold n8; rfl]
  rfl
set_option maxHeartbeats 16000000 in
set_option maxRecDepth 100000 in
theorem law_any (f0 f1 f2 : Nat → BitVec 8) (w : World) :
    Calls Try.prog 3 #[.agg (b16 f0), .agg (b16 f1), .agg (b16 f2)] w fun e w' => e = .returned (.bool true) ∧ Below w.heap.size w w' := by
  have T01 := Lib.hid (fun w' => gtimes_any f0 f1 w')
  have T10 := Lib.hid (fun w' => gtimes_any f1 f0 w')
  have T02 := Lib.hid (fun w' => gtimes_any f0 f2 w')
  have TS := Lib.hid (fun w' => gtimes_any f0 (fun i => f1 i ^^^ f2 i) w')
  have TL := Lib.hid (fun w' => gtimes_any (W2.mul (W2.of f0) (W2.of f1)).byte f2 w')
  have T12 := Lib.hid (fun w' => gtimes_any f1 f2 w')
  have TR := Lib.hid (fun w' => gtimes_any f0 (W2.mul (W2.of f1) (W2.of f2)).byte w')
  have RT := Lib.hid (fun w' => timesR2_any f0 f1 w')
  rw [w2_of_byte, mul2_assoc] at TL
  rw [w2_of_byte] at TR
  rw [mul2_comm] at T10
  rw [of_xor, mul2_add] at TS
  have hst : ∀ i, i < 16 → (W2.mul (W2.of f0) (W2.of f1)).byte i ^^^ (W2.mul (W2.of f0) (W2.of f2)).byte i = (W2.xor (W2.mul (W2.of f0) (W2.of f1)) (W2.mul (W2.of f0) (W2.of f2))).byte i := fun i hi => (byte_xor _ _ i hi).symm
  generalize (W2.xor (W2.mul (W2.of f0) (W2.of f1)) (W2.mul (W2.of f0) (W2.of f2))).byte = pt at *
  generalize (W2.mul (W2.of f0) (W2.mul (W2.of f1) (W2.of f2))).byte = pm at *
  generalize (W2.mul (W2.of f0) (W2.of f1)).byte = p1 at *
  generalize (W2.mul (W2.of f0) (W2.of f2)).byte = p2 at *
  generalize (W2.mul (W2.of f1) (W2.of f2)).byte = p3 at *
  have HST := Lib.hid hst
  clear hst
  go_enter Try.func3, Try.ntmps3
  go_upto_region 1 with (fail)
  have r0 := rows_alloc w [.cells (b16 f0) 22, .cells (b16 f1) 22, .cells (b16 f2) 22] 0
  have r1 := rows_alloc w [.cells (b16 f0) 22, .cells (b16 f1) 22, .cells (b16 f2) 22] 1
  have r2 := rows_alloc w [.cells (b16 f0) 22, .cells (b16 f1) 22, .cells (b16 f2) 22] 2
  have hb : Below w.heap.size w (((w.alloc (.cells (b16 f0) 22)).alloc (.cells (b16 f1) 22)).alloc (.cells (b16 f2) 22)) := (((Below.refl w.heap.size w).alloc (Nat.le_refl _) _).alloc (by simp) _).alloc (by simp; omega) _
  simp only [List.foldl_cons, List.foldl_nil, Nat.add_zero] at r0 r1 r2
  generalize World.alloc _ _ = wa at *
  replace r0 : R16 wa w.heap.size f0 := r0
  replace r1 : R16 wa (w.heap.size + 1) f1 := r1
  replace r2 : R16 wa (w.heap.size + 2) f2 := r2
  have l0 := load_b16 r0
  have l1 := load_b16 r1
  have LD := fun (k : Nat) (f : Nat → BitVec 8) (w' : World) (h : R16 w' k f) => quiet_run (load_b16 h)
  go_wp2_with (first
    | (refine wpList_run (o := ⟨some 12, .load 22 _, _, _, _, _⟩) (v := .agg (b16 f0)) (w' := wa) rfl (quiet_run l0) ?_)
    | (refine wpList_run (o := ⟨some 13, .load 22 _, _, _, _, _⟩) (v := .agg (b16 f1)) (w' := wa) rfl (quiet_run l1) ?_)
    | fail)
  with_reducible refine (T01.out wa).mono ?_
  rintro e w1 ⟨rfl, hb1⟩
  have hAP : w.heap.size + 2 < w1.heap.size := Nat.lt_of_lt_of_le (lt_row r2) hb1.size
  go_upto_region 2 with (first
    | (refine wpList_alloc_row (o := ⟨some 7, .alloc 22, _, _, _, _⟩) rfl 22 rfl zeros16 zero_16 ?_)
    | (refine wpList_store_new (o := ⟨none, .store 22 (.tmp 7) (.tmp 14), _, _, _, _⟩) rfl 22 _ _ rfl zeros16 (b16 p1) _ rfl rfl rfl (size_16 _) rfl (b16_one _) ?_)
    | fail)
  have n1 : R16 (w1.alloc (.cells (b16 p1) 22)) w1.heap.size p1 := heap_alloc_last _ _
  have a1 : Below w1.heap.size w1 (w1.alloc (.cells (b16 p1) 22)) := (Below.refl _ _).alloc (Nat.le_refl _) _
  have g1 : w1.heap.size + 1 = (w1.alloc (.cells (b16 p1) 22)).heap.size := by simp
  have x1 := hb1.size
  replace r0 := (r0.later hb1).later a1
  replace r1 := (r1.later hb1).later a1
  replace r2 := (r2.later hb1).later a1
  replace hb := (hb.trans (hb1.mono hb.size)).trans (a1.mono (Nat.le_trans hb.size hb1.size))
  generalize World.alloc _ _ = w2 at *
  obtain ⟨P, hP⟩ : ∃ P, w1.heap.size = P := ⟨_, rfl⟩
  simp only [hP] at *
  replace l0 := load_b16 r0
  have l2 := load_b16 r2
  go_wp2_with (first
    | (refine wpList_run (o := ⟨some 15, .load 22 _, _, _, _, _⟩) (v := .agg (b16 f0)) (w' := w2) rfl (quiet_run l0) ?_)
    | (refine wpList_run (o := ⟨some 16, .load 22 _, _, _, _, _⟩) (v := .agg (b16 f2)) (w' := w2) rfl (quiet_run l2) ?_)
    | fail)
  with_reducible refine (T02.out w2).mono ?_
  rintro e w3 ⟨rfl, hb3⟩
  have hPR : P < w3.heap.size := Nat.lt_of_lt_of_le (lt_row n1) hb3.size
  go_upto_region 3 with (first
    | (refine wpList_alloc_row (o := ⟨some 8, .alloc 22, _, _, _, _⟩) rfl 22 rfl zeros16 zero_16 ?_)
    | (refine wpList_store_new (o := ⟨none, .store 22 (.tmp 8) (.tmp 17), _, _, _, _⟩) rfl 22 _ _ rfl zeros16 (b16 p2) _ rfl rfl rfl (size_16 _) rfl (b16_one _) ?_)
    | fail)
  go_upto_region 4 with (first
    | (refine wpList_alloc_row (o := ⟨some 9, .alloc 22, _, _, _, _⟩) rfl 22 rfl zeros16 zero_16 ?_)
    | (refine wpList_alloc_row (o := ⟨some 10, .alloc 22, _, _, _, _⟩) rfl 22 rfl zeros16 zero_16 ?_)
    | fail)
  have n2 := rows_alloc w3 [.cells (b16 p2) 22, .cells zeros16 22, .cells zeros16 22] 0
  have n3 := rows_alloc w3 [.cells (b16 p2) 22, .cells zeros16 22, .cells zeros16 22] 1
  have n4 := rows_alloc w3 [.cells (b16 p2) 22, .cells zeros16 22, .cells zeros16 22] 2
  have a3 : Below w3.heap.size w3 (((w3.alloc (.cells (b16 p2) 22)).alloc (.cells zeros16 22)).alloc (.cells zeros16 22)) := (((Below.refl w3.heap.size w3).alloc (Nat.le_refl _) _).alloc (by simp) _).alloc (by simp; omega) _
  simp only [List.foldl_cons, List.foldl_nil, Nat.add_zero] at n2 n3 n4
  have g2 : (w3.alloc (.cells (b16 p2) 22)).heap.size = w3.heap.size + 1 := by simp
  have g3 : ((w3.alloc (.cells (b16 p2) 22)).alloc (.cells zeros16 22)).heap.size = w3.heap.size + 2 := by simp
  simp only [g2, g3]
  clear g2 g3 x1 g1
  replace r0 := (r0.later hb3).later a3
  replace r1 := (r1.later hb3).later a3
  replace r2 := (r2.later hb3).later a3
  replace n1 := (n1.later hb3).later a3
  replace hb := (hb.trans (hb3.mono hb.size)).trans (a3.mono (Nat.le_trans hb.size hb3.size))
  generalize World.alloc _ _ = w4 at *
  replace n2 : R16 w4 w3.heap.size p2 := n2
  replace n3 : R16 w4 (w3.heap.size + 1) (fun _ => 0#8) := by rw [R16, ← zeros_b16]; exact n3
  replace n4 : R16 w4 (w3.heap.size + 2) (fun _ => 0#8) := by rw [R16, ← zeros_b16]; exact n4
  obtain ⟨R, hR⟩ : ∃ R, w3.heap.size = R := ⟨_, rfl⟩
  simp only [hR] at *
  generalize hA : w.heap.size = A at *
  have HA := Lib.hid hA
  clear hA hR l0 l1 l2 LD a1 a3 hb1 hb3 hP
  go_wp2_with fail
  go_loopw [11] (fun s11 wr => ∃ i : Nat, i ≤ 16 ∧ s11 = .int .i64 (i : Int) ∧ R16 wr A f0 ∧ R16 wr (A + 1) f1 ∧ R16 wr (A + 2) f2 ∧ R16 wr P p1 ∧ R16 wr R p2 ∧ R16 wr (R + 1) (fun j => if j < i then f1 j ^^^ f2 j else 0#8) ∧ R16 wr (R + 2) (fun j => if j < i then p1 j ^^^ p2 j else 0#8) ∧ Below A w wr) (fun s11 _ => 16 - (intOf s11).toNat)
  case atStart => exact ⟨0, by omega, rfl, r0, r1, r2, n1, n2, n3, n4, hb⟩
  case round =>
    clear r0 r1 r2 n1 n2 n3 n4 hb
    obtain ⟨i, hi, rfl, r0, r1, r2, n1, n2, n3, n4, hb⟩ := hrel
    by_cases hi16 : i < 16
    · have hiI : (i : Int) < 16 := by omega
      go_upto_region 7 with (fail)
      have c1 := r1.cell i hi16
      have c2 := r2.cell i hi16
      have c3 := n1.cell i hi16
      have c4 := n2.cell i hi16
      have c1' : wr.drew.cell? ⟨A + 1, i, none⟩ = _ := c1
      have c2' : wr.drew.cell? ⟨A + 2, i, none⟩ = _ := c2
      have c3' : wr.drew.cell? ⟨P, i, none⟩ = _ := c3
      have c4' : wr.drew.cell? ⟨R, i, none⟩ = _ := c4
      have z3 : wr.frozen? ⟨R + 1, i, none⟩ = false := frozen_of_row _ _ _ _ _ n3
      have z4 : wr.frozen? ⟨R + 2, i, none⟩ = false := frozen_of_row _ _ _ _ _ n4
      have z3' : wr.drew.frozen? ⟨R + 1, i, none⟩ = false := z3
      have z4' : wr.drew.frozen? ⟨R + 2, i, none⟩ = false := z4
      have d3 := n3.cell i hi16
      have d4 := n4.cell i hi16
      rw [if_neg (Nat.lt_irrefl _)] at d3 d4
      have d3' : wr.drew.cell? ⟨R + 1, i, none⟩ = _ := d3
      have d4' : wr.drew.cell? ⟨R + 2, i, none⟩ = _ := d4
      go_region
      all_goals (
        have up : ∀ (x y : Nat → BitVec 8) (j : Nat), updb (fun j => if j < i then x j ^^^ y j else 0#8) i (x i ^^^ y i) j = (if j < i + 1 then x j ^^^ y j else 0#8) := fun x y j => by
          unfold updb
          by_cases e : j = i
          · subst e; rw [if_pos rfl, if_pos (by omega)]
          · rw [if_neg e]
            dsimp only
            by_cases e2 : j < i
            · rw [if_pos e2, if_pos (by omega)]
            · rw [if_neg e2, if_neg (by omega)]
        go_wp2_with fail
        go_roundw
        case rel =>
          have m3 := ((n3.set i (f1 i ^^^ f2 i)).other (show R + 1 ≠ R + 2 by omega) i (.int .u8 (n8 (p1 i ^^^ p2 i)))).congr (fun j _ => up f1 f2 j)
          have m4 := ((n4.other (show R + 2 ≠ R + 1 by omega) i (.int .u8 (n8 (f1 i ^^^ f2 i)))).set i (p1 i ^^^ p2 i)).congr (fun j _ => up p1 p2 j)
          exact ⟨i + 1, by omega, by go_num, (r0.other (by omega) _ _).other (by omega) _ _, (r1.other (by omega) _ _).other (by omega) _ _, (r2.other (by omega) _ _).other (by omega) _ _, (n1.other (by omega) _ _).other (by omega) _ _, (n2.other (by omega) _ _).other (by omega) _ _, m3, m4, ((hb.setCell (show A ≤ R + 1 by omega) _).setCell (show A ≤ R + 2 by omega) _).drew⟩
        case measure => (simp [intOf] <;> omega))
    · obtain rfl : i = 16 := by omega
      go_upto_region 8 with (fail)
      replace n3 : R16 wr (R + 1) (fun i => f1 i ^^^ f2 i) := n3.congr (fun j hj => by rw [if_pos hj])
      replace n4 : R16 wr (R + 2) pt := n4.congr (fun j hj => by rw [if_pos hj, HST.out j hj])
      have r0 := Lib.hid r0
      have r1 := Lib.hid r1
      have r2 := Lib.hid r2
      have n1 := Lib.hid n1
      have n3 := Lib.hid n3
      have n4 := Lib.hid n4
      have SE := Lib.hid (fun w' => sealed_any w')
      have CP := Lib.hid (fun (w' : World) (hw : Below wr.heap.size wr w') => (n1.out.later hw).conv)
      have C0 := Lib.hid (fun (w' : World) (hw : Below wr.heap.size wr w') => (r0.out.later hw).conv)
      have C1 := Lib.hid (fun (w' : World) (hw : Below wr.heap.size wr w') => (r1.out.later hw).conv)
      generalize strOf p1 16 = SP at *
      generalize strOf f0 16 = S0 at *
      generalize strOf f1 16 = S1 at *
      have HB := Lib.hid hb
      clear hb n2 HST
      refine region_class1 38 (fun w' => Below wr.heap.size wr w') mixedOrders (by kernel_rfl) (Below.refl _ _).drew rfl ?_
      refine wpQuiet_take (by rfl) (fun K hK => ⟨.bool true, fun w2' hw2 => ?_, hK _ ?_⟩)
      · go_simp
        go_at_call 7
        with_reducible refine (SE.out w2').mono ?_
        rintro e w5 ⟨rfl, hb5⟩
        exact ⟨rfl, hw2.trans (hb5.mono hw2.size)⟩
      clear hK K
      simp only [Act.put, List.setIfInBounds_toArray, List.set_cons_succ, List.set_cons_zero]
      refine wpQuiet_take (by rfl) (fun K hK => ⟨.bool true, fun w2' hw2 => ?_, hK _ ?_⟩)
      · clear hw2; go_simp
      clear hK K
      simp only [Act.put, List.setIfInBounds_toArray, List.set_cons_succ, List.set_cons_zero]
      refine wpQuiet_take (by rfl) (fun K hK => ⟨.slice (some ⟨P, 0, none⟩) 16 16, fun w2' hw2 => ?_, hK _ ?_⟩)
      · clear hw2; go_simp
      clear hK K
      simp only [Act.put, List.setIfInBounds_toArray, List.set_cons_succ, List.set_cons_zero]
      refine wpQuiet_take (by rfl) (fun K hK => ⟨.string SP, fun w2' hw2 => ?_, hK _ ?_⟩)
      · have h := CP.out w2' hw2
        clear hw2; go_simp
      clear hK K
      simp only [Act.put, List.setIfInBounds_toArray, List.set_cons_succ, List.set_cons_zero]
      refine wpQuiet_take (by rfl) (fun K hK => ⟨.slice (some ⟨A, 0, none⟩) 16 16, fun w2' hw2 => ?_, hK _ ?_⟩)
      · clear hw2; go_simp
      clear hK K
      simp only [Act.put, List.setIfInBounds_toArray, List.set_cons_succ, List.set_cons_zero]
      refine wpQuiet_take (by rfl) (fun K hK => ⟨.string S0, fun w2' hw2 => ?_, hK _ ?_⟩)
      · have h := C0.out w2' hw2
        clear hw2; go_simp
      clear hK K
      simp only [Act.put, List.setIfInBounds_toArray, List.set_cons_succ, List.set_cons_zero]
      refine wpQuiet_take (by rfl) (fun K hK => ⟨.slice (some ⟨(A + 1), 0, none⟩) 16 16, fun w2' hw2 => ?_, hK _ ?_⟩)
      · clear hw2; go_simp
      clear hK K
      simp only [Act.put, List.setIfInBounds_toArray, List.set_cons_succ, List.set_cons_zero]
      refine wpQuiet_take (by rfl) (fun K hK => ⟨.string S1, fun w2' hw2 => ?_, hK _ ?_⟩)
      · have h := C1.out w2' hw2
        clear hw2; go_simp
      clear hK K
      simp only [Act.put, List.setIfInBounds_toArray, List.set_cons_succ, List.set_cons_zero]
      refine wpQuiet_take (by rfl) (fun K hK => ⟨.string SP, fun w2' hw2 => ?_, hK _ ?_⟩)
      · go_simp
        go_at_call 8
        with_reducible refine (RT.out w2').mono ?_
        rintro e w5 ⟨rfl, hb5⟩
        exact ⟨rfl, hw2.trans (hb5.mono hw2.size)⟩
      clear hK K
      simp only [Act.put, List.setIfInBounds_toArray, List.set_cons_succ, List.set_cons_zero]
      refine wpQuiet_take (by rfl) (fun K hK => ⟨.bool true, fun w2' hw2 => ?_, hK _ ?_⟩)
      · clear hw2; go_simp
      clear hK K
      simp only [Act.put, List.setIfInBounds_toArray, List.set_cons_succ, List.set_cons_zero]
      refine wpQuiet_take (by rfl) (fun K hK => ⟨.bool true, fun w2' hw2 => ?_, hK _ ?_⟩)
      · clear hw2; go_simp
      clear hK K
      simp only [Act.put, List.setIfInBounds_toArray, List.set_cons_succ, List.set_cons_zero]
      refine wpQuiet_take (by rfl) (fun K hK => ⟨.bool true, fun w2' hw2 => ?_, hK _ ?_⟩)
      · clear hw2; go_simp
      clear hK K
      simp only [Act.put, List.setIfInBounds_toArray, List.set_cons_succ, List.set_cons_zero]
      refine wpQuiet_take (by rfl) (fun K hK => ⟨.agg (b16 f1), fun w2' hw2 => ?_, hK _ ?_⟩)
      · exact quiet_value (quiet_run (load_b16 (r1.out.later hw2)))
      clear hK K
      simp only [Act.put, List.setIfInBounds_toArray, List.set_cons_succ, List.set_cons_zero]
      refine wpQuiet_take (by rfl) (fun K hK => ⟨.agg (b16 f0), fun w2' hw2 => ?_, hK _ ?_⟩)
      · exact quiet_value (quiet_run (load_b16 (r0.out.later hw2)))
      clear hK K
      simp only [Act.put, List.setIfInBounds_toArray, List.set_cons_succ, List.set_cons_zero]
      refine wpQuiet_take (by rfl) (fun K hK => ⟨.agg (b16 p1), fun w2' hw2 => ?_, hK _ ?_⟩)
      · go_simp
        go_at_call 6
        with_reducible refine (T10.out w2').mono ?_
        rintro e w5 ⟨rfl, hb5⟩
        exact ⟨rfl, hw2.trans (hb5.mono hw2.size)⟩
      clear hK K
      simp only [Act.put, List.setIfInBounds_toArray, List.set_cons_succ, List.set_cons_zero]
      refine wpQuiet_take (by rfl) (fun K hK => ⟨.agg (b16 p1), fun w2' hw2 => ?_, hK _ ?_⟩)
      · exact quiet_value (quiet_run (load_b16 (n1.out.later hw2)))
      clear hK K
      simp only [Act.put, List.setIfInBounds_toArray, List.set_cons_succ, List.set_cons_zero]
      refine wpQuiet_take (by rfl) (fun K hK => ⟨.bool true, fun w2' hw2 => ?_, hK _ ?_⟩)
      · have h := eq16_same p1 w2'
        clear hw2; go_simp
      clear hK K
      simp only [Act.put, List.setIfInBounds_toArray, List.set_cons_succ, List.set_cons_zero]
      refine wpQuiet_take (by rfl) (fun K hK => ⟨.bool true, fun w2' hw2 => ?_, hK _ ?_⟩)
      · clear hw2; go_simp
      clear hK K
      simp only [Act.put, List.setIfInBounds_toArray, List.set_cons_succ, List.set_cons_zero]
      refine wpQuiet_take (by rfl) (fun K hK => ⟨.bool true, fun w2' hw2 => ?_, hK _ ?_⟩)
      · clear hw2; go_simp
      clear hK K
      simp only [Act.put, List.setIfInBounds_toArray, List.set_cons_succ, List.set_cons_zero]
      refine wpQuiet_take (by rfl) (fun K hK => ⟨.agg (b16 f0), fun w2' hw2 => ?_, hK _ ?_⟩)
      · exact quiet_value (quiet_run (load_b16 (r0.out.later hw2)))
      clear hK K
      simp only [Act.put, List.setIfInBounds_toArray, List.set_cons_succ, List.set_cons_zero]
      refine wpQuiet_take (by rfl) (fun K hK => ⟨.agg (b16 (fun i => f1 i ^^^ f2 i)), fun w2' hw2 => ?_, hK _ ?_⟩)
      · exact quiet_value (quiet_run (load_b16 (n3.out.later hw2)))
      clear hK K
      simp only [Act.put, List.setIfInBounds_toArray, List.set_cons_succ, List.set_cons_zero]
      refine wpQuiet_take (by rfl) (fun K hK => ⟨.agg (b16 pt), fun w2' hw2 => ?_, hK _ ?_⟩)
      · go_simp
        go_at_call 6
        with_reducible refine (TS.out w2').mono ?_
        rintro e w5 ⟨rfl, hb5⟩
        exact ⟨rfl, hw2.trans (hb5.mono hw2.size)⟩
      clear hK K
      simp only [Act.put, List.setIfInBounds_toArray, List.set_cons_succ, List.set_cons_zero]
      refine wpQuiet_take (by rfl) (fun K hK => ⟨.agg (b16 pt), fun w2' hw2 => ?_, hK _ ?_⟩)
      · exact quiet_value (quiet_run (load_b16 (n4.out.later hw2)))
      clear hK K
      simp only [Act.put, List.setIfInBounds_toArray, List.set_cons_succ, List.set_cons_zero]
      refine wpQuiet_take (by rfl) (fun K hK => ⟨.bool true, fun w2' hw2 => ?_, hK _ ?_⟩)
      · have h := eq16_same pt w2'
        clear hw2; go_simp
      clear hK K
      simp only [Act.put, List.setIfInBounds_toArray, List.set_cons_succ, List.set_cons_zero]
      refine wpQuiet_take (by rfl) (fun K hK => ⟨.bool true, fun w2' hw2 => ?_, hK _ ?_⟩)
      · clear hw2; go_simp
      clear hK K
      simp only [Act.put, List.setIfInBounds_toArray, List.set_cons_succ, List.set_cons_zero]
      refine wpQuiet_take (by rfl) (fun K hK => ⟨.bool true, fun w2' hw2 => ?_, hK _ ?_⟩)
      · clear hw2; go_simp
      clear hK K
      simp only [Act.put, List.setIfInBounds_toArray, List.set_cons_succ, List.set_cons_zero]
      refine wpQuiet_take (by rfl) (fun K hK => ⟨.agg (b16 f0), fun w2' hw2 => ?_, hK _ ?_⟩)
      · exact quiet_value (quiet_run (load_b16 (r0.out.later hw2)))
      clear hK K
      simp only [Act.put, List.setIfInBounds_toArray, List.set_cons_succ, List.set_cons_zero]
      refine wpQuiet_take (by rfl) (fun K hK => ⟨.agg (b16 f1), fun w2' hw2 => ?_, hK _ ?_⟩)
      · exact quiet_value (quiet_run (load_b16 (r1.out.later hw2)))
      clear hK K
      simp only [Act.put, List.setIfInBounds_toArray, List.set_cons_succ, List.set_cons_zero]
      refine wpQuiet_take (by rfl) (fun K hK => ⟨.agg (b16 p1), fun w2' hw2 => ?_, hK _ ?_⟩)
      · go_simp
        go_at_call 6
        with_reducible refine (T01.out w2').mono ?_
        rintro e w5 ⟨rfl, hb5⟩
        exact ⟨rfl, hw2.trans (hb5.mono hw2.size)⟩
      clear hK K
      simp only [Act.put, List.setIfInBounds_toArray, List.set_cons_succ, List.set_cons_zero]
      refine wpQuiet_take (by rfl) (fun K hK => ⟨.agg (b16 f2), fun w2' hw2 => ?_, hK _ ?_⟩)
      · exact quiet_value (quiet_run (load_b16 (r2.out.later hw2)))
      clear hK K
      simp only [Act.put, List.setIfInBounds_toArray, List.set_cons_succ, List.set_cons_zero]
      refine wpQuiet_take (by rfl) (fun K hK => ⟨.agg (b16 pm), fun w2' hw2 => ?_, hK _ ?_⟩)
      · go_simp
        go_at_call 6
        with_reducible refine (TL.out w2').mono ?_
        rintro e w5 ⟨rfl, hb5⟩
        exact ⟨rfl, hw2.trans (hb5.mono hw2.size)⟩
      clear hK K
      simp only [Act.put, List.setIfInBounds_toArray, List.set_cons_succ, List.set_cons_zero]
      refine wpQuiet_take (by rfl) (fun K hK => ⟨.agg (b16 f0), fun w2' hw2 => ?_, hK _ ?_⟩)
      · exact quiet_value (quiet_run (load_b16 (r0.out.later hw2)))
      clear hK K
      simp only [Act.put, List.setIfInBounds_toArray, List.set_cons_succ, List.set_cons_zero]
      refine wpQuiet_take (by rfl) (fun K hK => ⟨.agg (b16 f1), fun w2' hw2 => ?_, hK _ ?_⟩)
      · exact quiet_value (quiet_run (load_b16 (r1.out.later hw2)))
      clear hK K
      simp only [Act.put, List.setIfInBounds_toArray, List.set_cons_succ, List.set_cons_zero]
      refine wpQuiet_take (by rfl) (fun K hK => ⟨.agg (b16 f2), fun w2' hw2 => ?_, hK _ ?_⟩)
      · exact quiet_value (quiet_run (load_b16 (r2.out.later hw2)))
      clear hK K
      simp only [Act.put, List.setIfInBounds_toArray, List.set_cons_succ, List.set_cons_zero]
      refine wpQuiet_take (by rfl) (fun K hK => ⟨.agg (b16 p3), fun w2' hw2 => ?_, hK _ ?_⟩)
      · go_simp
        go_at_call 6
        with_reducible refine (T12.out w2').mono ?_
        rintro e w5 ⟨rfl, hb5⟩
        exact ⟨rfl, hw2.trans (hb5.mono hw2.size)⟩
      clear hK K
      simp only [Act.put, List.setIfInBounds_toArray, List.set_cons_succ, List.set_cons_zero]
      refine wpQuiet_take (by rfl) (fun K hK => ⟨.agg (b16 pm), fun w2' hw2 => ?_, hK _ ?_⟩)
      · go_simp
        go_at_call 6
        with_reducible refine (TR.out w2').mono ?_
        rintro e w5 ⟨rfl, hb5⟩
        exact ⟨rfl, hw2.trans (hb5.mono hw2.size)⟩
      clear hK K
      simp only [Act.put, List.setIfInBounds_toArray, List.set_cons_succ, List.set_cons_zero]
      refine wpQuiet_take (by rfl) (fun K hK => ⟨.bool true, fun w2' hw2 => ?_, hK _ ?_⟩)
      · have h := eq16_same pm w2'
        clear hw2; go_simp
      clear hK K
      simp only [Act.put, List.setIfInBounds_toArray, List.set_cons_succ, List.set_cons_zero]
      refine wpQuiet_take (by rfl) (fun K hK => ⟨.bool true, fun w2' hw2 => ?_, hK _ ?_⟩)
      · clear hw2; go_simp
      clear hK K
      simp only [Act.put, List.setIfInBounds_toArray, List.set_cons_succ, List.set_cons_zero]
      refine wpQuiet_take0 ?_
      intro w6 hb6
      have BF := HB.out.trans (hb6.mono (by have := HB.out.size; rw [← HA.out]; exact this))
      clear hb6
      go_wp2_with fail
      go_ret
      exact ⟨rfl, by rw [HA.out]; exact BF⟩
theorem walk {H : Type} {enc : TypeId × Value → H} (w : World) (base : Nat) (v0 v1 v2 : Value) (d0 d1 d2 : DataW H) (p0 p1 p2 : List MemPlace)
    (k0 : Value.okWide Try.prog w .any base 22 v0) (k1 : Value.okWide Try.prog w .any base 22 v1) (k2 : Value.okWide Try.prog w .any base 22 v2)
    (h0 : DataW.Trod enc Try.prog w 0 (fun _ => true) true 22 v0 d0 p0) (h1 : DataW.Trod enc Try.prog w 0 (fun _ => true) true 22 v1 d1 p1) (h2 : DataW.Trod enc Try.prog w 0 (fun _ => true) true 22 v2 d2 p2) :
    Calls Try.prog 3 #[v0, v1, v2] w fun e w' => e = .returned (.bool true) ∧ Below w.heap.size w w' := by
  obtain ⟨f0, rfl⟩ := open16 k0 h0
  obtain ⟨f1, rfl⟩ := open16 k1 h1
  obtain ⟨f2, rfl⟩ := open16 k2 h2
  exact law_any f0 f1 f2 w
set_option maxRecDepth 100000 in
theorem lifted (os : Os) (started : os.Started) (H : Type) (enc : TypeId × Value → H) :
    ReturnsInHanded {} Try.checked os 3 .any (Rows.gcmTimesSpec.pre6 enc Try.prog Try.f3 Rows.gcmTimesRow.domain false) (Rows.gcmTimesSpec.post enc Try.prog Try.f3 false true false false) := by
  refine returnsInHanded_of_change (C := Try.checked) own started (by kernel_rfl) Try.func3
    (ChangeSpec.witness6 (enc := enc) (C := Try.checked) false ⟨#[], #[.agg (Array.replicate 16 (.int .u8 0)), .agg (Array.replicate 16 (.int .u8 0)), .agg (Array.replicate 16 (.int .u8 0))], []⟩ 8 (by kernel_rfl) (by kernel_rfl) (by kernel_rfl) (by kernel_rfl)) ?_
  intro W base args ds gs before hval0 hW hcnd _
  have hval : ∀ (j : Nat) t v, Try.f3.params[j]? = some t → args[j]? = some v → Value.okWide Try.prog W .any base t v := hval0
  have hW' := hW
  obtain ⟨p, q, hA0, hV, rfl, hfz, hnd⟩ := hW
  have hA : DataW.TrodAll enc Try.prog W 0 (fun _ => true) true Try.f3.params.toList args.toList ds p := hA0
  rw [Try.params3] at hA hval
  obtain ⟨v0, vs0, d0, ds0, p0, q0, hargs, rfl, rfl, h0, r0⟩ := trodAll_cons hA
  obtain ⟨v1, vs1, d1, ds1, p1, q1, rfl, rfl, rfl, h1, r1⟩ := trodAll_cons r0
  obtain ⟨v2, vs2, d2, ds2, p2, q2, rfl, rfl, rfl, h2, r2⟩ := trodAll_cons r1
  obtain ⟨rfl, rfl, rfl⟩ := trodAll_nil r2
  obtain rfl : args = #[v0, v1, v2] := by cases args; simp_all
  obtain ⟨rfl, rfl⟩ := trodVars_none hV
  have k0 := h0
  have lt0 : ∀ x ∈ p0, x.block < W.heap.size := by obtain ⟨m, hm⟩ := k0; exact DataW.trod_lt m _ _ _ hm
  have k1 := h1
  have lt1 : ∀ x ∈ p1, x.block < W.heap.size := by obtain ⟨m, hm⟩ := k1; exact DataW.trod_lt m _ _ _ hm
  have k2 := h2
  have lt2 : ∀ x ∈ p2, x.block < W.heap.size := by obtain ⟨m, hm⟩ := k2; exact DataW.trod_lt m _ _ _ hm
  clear hA0 hval0
  refine (walk W base v0 v1 v2 d0 d1 d2 p0 p1 p2 (hval 0 22 v0 rfl rfl) (hval 1 22 v1 rfl rfl) (hval 2 22 v2 rfl rfl) k0 k1 k2).mono fun e W' ⟨he, bel⟩ => ?_
  subst he
  exact ⟨_, rfl, _, _, _, [], _, [], hW', trodAll_mk1 (shut_bool Try.underlying4 _), (trodAll_cons_mk (Below.trod laidOut (by kernel_rfl) (of_decide_eq_true (by kernel_rfl)) k0 bel lt0) (trodAll_cons_mk (Below.trod laidOut (by kernel_rfl) (of_decide_eq_true (by kernel_rfl)) k1 bel lt1) (trodAll_cons_mk (Below.trod laidOut (by kernel_rfl) (of_decide_eq_true (by kernel_rfl)) k2 bel lt2) trodAll_mk0))), rfl, bel.frame _, fun h => by cases h⟩
theorem over : Rows.gcmTimesRow.holds Try.pinned (OpenSpec.ofChange Rows.gcmTimesSpec) :=
  OpenClaim.holds_of_wide 3 Try.f3 rfl rfl rfl rfl rfl rfl rfl ⟨rfl, rfl, rfl, rfl, rfl⟩ rfl rfl rfl rfl rfl (by kernel_rfl) Try.func3 (by kernel_rfl)
    (of_decide_eq_true (by kernel_rfl)) (by unfold Func.isWrapper; first | (rw [if_pos (by decide +kernel)]; kernel_rfl) | (rw [if_neg (by decide +kernel)]; exact ⟨rfl, rfl⟩))
    (fun os started H enc _ => lifted os started H enc)
theorem proved : Rows.GcmTimesSaid := over
end Go.Proofs.Ytoocglckhphepaa.gcmTimes
