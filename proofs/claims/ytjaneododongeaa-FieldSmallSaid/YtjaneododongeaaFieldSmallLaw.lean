/-
  FieldSmall holds: sums and products of numbers below 2^16 are those of whole numbers; a number less one that is greater is p less the rest. No conditions.
-/
import Derived.Test.YtjaneododongeaaRows
import Derived.Test.YtjaneododongeaaFieldSm
import Derived.WalkKit
import Derived.ProofKit
import Derived.OpenShut
import Derived.ShutString
import Derived.ChangeOld
import Derived.Below
import Derived.Deep.DeepCutAuto
import Derived.Deep.Upon
import Derived.Deep.AppendSrc
import Derived.SizedLaws
namespace Go.Proofs.Ytjaneododongeaa.fieldSmall
open Go Go.ChangeShapes Go.WideShapes Go.ChangeAt Go.RowKit Go.BigFrame
set_option linter.unusedVariables false
theorem own : ownKnob Try.prog.godebug = none := by kernel_rfl
theorem laidOut : laidOutB Try.prog = true := by kernel_rfl
def zeros5 : Array Value := #[.int .u64 0, .int .u64 0, .int .u64 0, .int .u64 0, .int .u64 0]
theorem quiet_value {P : Program} {C : World → Prop} {o : Oper} {a : Act} {w : World} {v : Value} (h : (execOp a.eval o).run P w = .ok (.value v) w) : o.quietAt P a C w v := by
  unfold Oper.quietAt
  rw [h]
  exact ⟨rfl, rfl⟩
theorem wrap8 (x : Int) : IntKind.u8.wrap x = x % 256 := by unfold IntKind.wrap; simp [IntKind.bits, IntKind.signed]
theorem ext_below {B : Nat} {w0 w w2 : World} (h : Ext w w2) (hb : Below B w0 w) (hB : B ≤ w.heap.size) : Below B w0 w2 := hb.trans (Below.mono (show Below w.heap.size w w2 from h) hB)
theorem conv_of_run {P : Program} {x : Sem Value} {v : Value} {w : World} (h : x.run P w = .ok v w) : (x >>= fun v => pure (Next.value v)).run P w = .ok (.value v) w := by
  rw [Sem.run_bind, h]; rfl
set_option maxHeartbeats 40000000 in
set_option maxRecDepth 100000 in
theorem law_any (A B : Nat) (ha : A < 65536) (hb : B < 65536) (w : World) :
    Calls Try.prog 7 #[.int .u16 (A : Int), .int .u16 (B : Int)] w fun e w' => e = .returned (.bool true) ∧ Below w.heap.size w w' := by
  have haI : (A : Int) < 65536 := by omega
  have hbI : (B : Int) < 65536 := by omega
  have hz : (Try.prog.info? 26).map (·.zero) = some (some (.agg zeros5)) := by kernel_rfl
  obtain ⟨S, hS⟩ : ∃ S : Nat, A + B = S := ⟨_, rfl⟩
  obtain ⟨M, hM⟩ : ∃ M : Nat, A * B = M := ⟨_, rfl⟩
  have hM1 : M < 4294967296 := by
    rw [← hM]
    have := Nat.mul_le_mul (Nat.le_of_lt_succ ha) (Nat.le_of_lt_succ hb)
    omega
  have HS := Lib.hid hS
  have HM := Lib.hid hM
  have hSI : (A : Int) + (B : Int) = (S : Int) := by omega
  have hMI : (A : Int) * (B : Int) = (M : Int) := by rw [← hM]; exact (Int.natCast_mul A B).symm
  have hS1 : S < 131072 := by omega
  have hS2 : (S : Int) < 131072 := by omega
  have hM2 : (M : Int) < 4294967296 := by omega
  clear hS hM
  go_enter Try.func7, Try.ntmps7
  have BEL := Below.refl w.heap.size w
  go_wp2_with fail
  with_reducible refine (of_small (n := A) (by omega) (by omega) (by omega) (by omega) (by omega) _).mono ?_
  rintro e w1 ⟨X, rfl, oX, vX, hbb⟩
  have hb1 := BEL.trans (hbb.mono BEL.size)
  go_upto_region 2 with (first
    | (refine wpList_alloc_row (o := ⟨some 5, .alloc 26, _, _, _, _⟩) rfl 26 rfl _ hz ?_)
    | (refine wpList_store_new (o := ⟨none, .store 26 (.tmp 5) (.tmp 22), _, _, _, _⟩) rfl 26 _ _ rfl zeros5 X.cells _ rfl rfl rfl (by kernel_rfl) (Eq.trans (b := 5) rfl rfl) (by kernel_rfl) ?_))
  obtain ⟨w_5, hw_5⟩ : ∃ w_5, w1.alloc (.cells X.cells 26) = w_5 := ⟨_, rfl⟩
  have R5 : w_5.heap[w1.heap.size]? = some (.cells X.cells 26 (0, 0)) := by rw [← hw_5]; exact heap_alloc_last _ _
  replace BEL : Below w.heap.size w w_5 := by rw [← hw_5]; exact hb1.alloc hb1.size _
  obtain ⟨P5, hP⟩ : ∃ P, w1.heap.size = P := ⟨_, rfl⟩
  rw [hP] at R5
  simp only [hw_5, hP]
  clear hw_5 hP hbb hb1 w1
  go_wp2_with fail
  with_reducible refine (of_small (n := B) (by omega) (by omega) (by omega) (by omega) (by omega) _).mono ?_
  rintro e w1 ⟨Y, rfl, oY, vY, hbb⟩
  have hb1 := BEL.trans (hbb.mono BEL.size)
  replace R5 := below_row hbb (lt_row R5) R5
  go_upto_region 3 with (first
    | (refine wpList_alloc_row (o := ⟨some 6, .alloc 26, _, _, _, _⟩) rfl 26 rfl _ hz ?_)
    | (refine wpList_store_new (o := ⟨none, .store 26 (.tmp 6) (.tmp 29), _, _, _, _⟩) rfl 26 _ _ rfl zeros5 Y.cells _ rfl rfl rfl (by kernel_rfl) (Eq.trans (b := 5) rfl rfl) (by kernel_rfl) ?_))
  obtain ⟨w_6, hw_6⟩ : ∃ w_6, w1.alloc (.cells Y.cells 26) = w_6 := ⟨_, rfl⟩
  have R6 : w_6.heap[w1.heap.size]? = some (.cells Y.cells 26 (0, 0)) := by rw [← hw_6]; exact heap_alloc_last _ _
  replace R5 : w_6.heap[P5]? = some (.cells X.cells 26 (0, 0)) := by rw [← hw_6]; exact (heap_alloc_old _ _ (lt_row R5)).trans R5
  replace BEL : Below w.heap.size w w_6 := by rw [← hw_6]; exact hb1.alloc hb1.size _
  obtain ⟨P6, hP⟩ : ∃ P, w1.heap.size = P := ⟨_, rfl⟩
  rw [hP] at R6
  simp only [hw_6, hP]
  clear hw_6 hP hbb hb1 w1
  go_upto_region 4 with (fail)
  try simp only [hSI, hMI]
  go_wp2_with fail
  with_reducible refine (of_small (n := S) (by omega) (by omega) (by omega) (by omega) (by omega) _).mono ?_
  rintro e w1 ⟨SU, rfl, oS, vS, hbb⟩
  have hb1 := BEL.trans (hbb.mono BEL.size)
  replace R5 := below_row hbb (lt_row R5) R5
  replace R6 := below_row hbb (lt_row R6) R6
  go_upto_region 5 with (first
    | (refine wpList_alloc_row (o := ⟨some 9, .alloc 26, _, _, _, _⟩) rfl 26 rfl _ hz ?_)
    | (refine wpList_store_new (o := ⟨none, .store 26 (.tmp 9) (.tmp 49), _, _, _, _⟩) rfl 26 _ _ rfl zeros5 SU.cells _ rfl rfl rfl (by kernel_rfl) (Eq.trans (b := 5) rfl rfl) (by kernel_rfl) ?_))
  obtain ⟨w_9, hw_9⟩ : ∃ w_9, w1.alloc (.cells SU.cells 26) = w_9 := ⟨_, rfl⟩
  have R9 : w_9.heap[w1.heap.size]? = some (.cells SU.cells 26 (0, 0)) := by rw [← hw_9]; exact heap_alloc_last _ _
  replace R5 : w_9.heap[P5]? = some (.cells X.cells 26 (0, 0)) := by rw [← hw_9]; exact (heap_alloc_old _ _ (lt_row R5)).trans R5
  replace R6 : w_9.heap[P6]? = some (.cells Y.cells 26 (0, 0)) := by rw [← hw_9]; exact (heap_alloc_old _ _ (lt_row R6)).trans R6
  replace BEL : Below w.heap.size w w_9 := by rw [← hw_9]; exact hb1.alloc hb1.size _
  obtain ⟨P9, hP⟩ : ∃ P, w1.heap.size = P := ⟨_, rfl⟩
  rw [hP] at R9
  simp only [hw_9, hP]
  clear hw_9 hP hbb hb1 w1
  go_wp2_with fail
  with_reducible refine (of_small (n := M) (by omega) (by omega) (by omega) (by omega) (by omega) _).mono ?_
  rintro e w1 ⟨PR, rfl, oP, vP, hbb⟩
  have hb1 := BEL.trans (hbb.mono BEL.size)
  replace R5 := below_row hbb (lt_row R5) R5
  replace R6 := below_row hbb (lt_row R6) R6
  replace R9 := below_row hbb (lt_row R9) R9
  go_upto_region 6 with (first
    | (refine wpList_alloc_row (o := ⟨some 10, .alloc 26, _, _, _, _⟩) rfl 26 rfl _ hz ?_)
    | (refine wpList_store_new (o := ⟨none, .store 26 (.tmp 10) (.tmp 62), _, _, _, _⟩) rfl 26 _ _ rfl zeros5 PR.cells _ rfl rfl rfl (by kernel_rfl) (Eq.trans (b := 5) rfl rfl) (by kernel_rfl) ?_))
  obtain ⟨w_10, hw_10⟩ : ∃ w_10, w1.alloc (.cells PR.cells 26) = w_10 := ⟨_, rfl⟩
  have R10 : w_10.heap[w1.heap.size]? = some (.cells PR.cells 26 (0, 0)) := by rw [← hw_10]; exact heap_alloc_last _ _
  replace R5 : w_10.heap[P5]? = some (.cells X.cells 26 (0, 0)) := by rw [← hw_10]; exact (heap_alloc_old _ _ (lt_row R5)).trans R5
  replace R6 : w_10.heap[P6]? = some (.cells Y.cells 26 (0, 0)) := by rw [← hw_10]; exact (heap_alloc_old _ _ (lt_row R6)).trans R6
  replace R9 : w_10.heap[P9]? = some (.cells SU.cells 26 (0, 0)) := by rw [← hw_10]; exact (heap_alloc_old _ _ (lt_row R9)).trans R9
  replace BEL : Below w.heap.size w w_10 := by rw [← hw_10]; exact hb1.alloc hb1.size _
  obtain ⟨P10, hP⟩ : ∃ P, w1.heap.size = P := ⟨_, rfl⟩
  rw [hP] at R10
  simp only [hw_10, hP]
  clear hw_10 hP hbb hb1 w1
  obtain ⟨D, hD⟩ : ∃ D, X.sub Y = D := ⟨_, rfl⟩
  have GD : ∀ w' : World, Calls Try.prog 14 #[.agg X.cells, .agg Y.cells] w' fun e w'' => e = .returned (X.sub Y).v ∧ Below w'.heap.size w' w'' := subE_any X Y
  rw [hD] at GD
  have GD := Lib.hid GD
  go_wp2_with (first
    | (refine wpList_load_row (o := ⟨some 63, .load 26 _, _, _, _, _⟩) rfl 26 _ rfl P5 rfl _ X.cells (0, 0) _ R5 Try.underlying26 rfl (by kernel_rfl) ?_)
    | (refine wpList_load_row (o := ⟨some 64, .load 26 _, _, _, _, _⟩) rfl 26 _ rfl P6 rfl _ Y.cells (0, 0) _ R6 Try.underlying26 rfl (by kernel_rfl) ?_))
  with_reducible refine (GD.out _).mono ?_
  rintro e w1 ⟨rfl, hbb⟩
  have hb1 := BEL.trans (hbb.mono BEL.size)
  replace R5 := below_row hbb (lt_row R5) R5
  replace R6 := below_row hbb (lt_row R6) R6
  replace R9 := below_row hbb (lt_row R9) R9
  replace R10 := below_row hbb (lt_row R10) R10
  go_upto_region 7 with (first
    | (refine wpList_alloc_row (o := ⟨some 11, .alloc 26, _, _, _, _⟩) rfl 26 rfl _ hz ?_)
    | (refine wpList_store_new (o := ⟨none, .store 26 (.tmp 11) (.tmp 65), _, _, _, _⟩) rfl 26 _ _ rfl zeros5 D.cells _ rfl rfl rfl (by kernel_rfl) (Eq.trans (b := 5) rfl rfl) (by kernel_rfl) ?_))
  obtain ⟨w_11, hw_11⟩ : ∃ w_11, w1.alloc (.cells D.cells 26) = w_11 := ⟨_, rfl⟩
  have R11 : w_11.heap[w1.heap.size]? = some (.cells D.cells 26 (0, 0)) := by rw [← hw_11]; exact heap_alloc_last _ _
  replace R5 : w_11.heap[P5]? = some (.cells X.cells 26 (0, 0)) := by rw [← hw_11]; exact (heap_alloc_old _ _ (lt_row R5)).trans R5
  replace R6 : w_11.heap[P6]? = some (.cells Y.cells 26 (0, 0)) := by rw [← hw_11]; exact (heap_alloc_old _ _ (lt_row R6)).trans R6
  replace R9 : w_11.heap[P9]? = some (.cells SU.cells 26 (0, 0)) := by rw [← hw_11]; exact (heap_alloc_old _ _ (lt_row R9)).trans R9
  replace R10 : w_11.heap[P10]? = some (.cells PR.cells 26 (0, 0)) := by rw [← hw_11]; exact (heap_alloc_old _ _ (lt_row R10)).trans R10
  replace BEL : Below w.heap.size w w_11 := by rw [← hw_11]; exact hb1.alloc hb1.size _
  obtain ⟨P11, hP⟩ : ∃ P, w1.heap.size = P := ⟨_, rfl⟩
  rw [hP] at R11
  simp only [hw_11, hP]
  clear hw_11 hP hbb hb1 w1
  obtain ⟨K0, hK0⟩ : ∃ K0, D.add Y = K0 := ⟨_, rfl⟩
  have GK : ∀ w' : World, Calls Try.prog 12 #[.agg D.cells, .agg Y.cells] w' fun e w'' => e = .returned (D.add Y).v ∧ Below w'.heap.size w' w'' := addE_any D Y
  rw [hK0] at GK
  have GK := Lib.hid GK
  go_wp2_with (first
    | (refine wpList_load_row (o := ⟨some 66, .load 26 _, _, _, _, _⟩) rfl 26 _ rfl P11 rfl _ D.cells (0, 0) _ R11 Try.underlying26 rfl (by kernel_rfl) ?_)
    | (refine wpList_load_row (o := ⟨some 67, .load 26 _, _, _, _, _⟩) rfl 26 _ rfl P6 rfl _ Y.cells (0, 0) _ R6 Try.underlying26 rfl (by kernel_rfl) ?_))
  with_reducible refine (GK.out _).mono ?_
  rintro e w1 ⟨rfl, hbb⟩
  have hb1 := BEL.trans (hbb.mono BEL.size)
  replace R5 := below_row hbb (lt_row R5) R5
  replace R6 := below_row hbb (lt_row R6) R6
  replace R9 := below_row hbb (lt_row R9) R9
  replace R10 := below_row hbb (lt_row R10) R10
  replace R11 := below_row hbb (lt_row R11) R11
  go_upto_region 8 with (first
    | (refine wpList_alloc_row (o := ⟨some 12, .alloc 26, _, _, _, _⟩) rfl 26 rfl _ hz ?_)
    | (refine wpList_store_new (o := ⟨none, .store 26 (.tmp 12) (.tmp 68), _, _, _, _⟩) rfl 26 _ _ rfl zeros5 K0.cells _ rfl rfl rfl (by kernel_rfl) (Eq.trans (b := 5) rfl rfl) (by kernel_rfl) ?_))
  obtain ⟨w_12, hw_12⟩ : ∃ w_12, w1.alloc (.cells K0.cells 26) = w_12 := ⟨_, rfl⟩
  have R12 : w_12.heap[w1.heap.size]? = some (.cells K0.cells 26 (0, 0)) := by rw [← hw_12]; exact heap_alloc_last _ _
  replace R5 : w_12.heap[P5]? = some (.cells X.cells 26 (0, 0)) := by rw [← hw_12]; exact (heap_alloc_old _ _ (lt_row R5)).trans R5
  replace R6 : w_12.heap[P6]? = some (.cells Y.cells 26 (0, 0)) := by rw [← hw_12]; exact (heap_alloc_old _ _ (lt_row R6)).trans R6
  replace R9 : w_12.heap[P9]? = some (.cells SU.cells 26 (0, 0)) := by rw [← hw_12]; exact (heap_alloc_old _ _ (lt_row R9)).trans R9
  replace R10 : w_12.heap[P10]? = some (.cells PR.cells 26 (0, 0)) := by rw [← hw_12]; exact (heap_alloc_old _ _ (lt_row R10)).trans R10
  replace R11 : w_12.heap[P11]? = some (.cells D.cells 26 (0, 0)) := by rw [← hw_12]; exact (heap_alloc_old _ _ (lt_row R11)).trans R11
  replace BEL : Below w.heap.size w w_12 := by rw [← hw_12]; exact hb1.alloc hb1.size _
  obtain ⟨P12, hP⟩ : ∃ P, w1.heap.size = P := ⟨_, rfl⟩
  rw [hP] at R12
  simp only [hw_12, hP]
  clear hw_12 hP hbb hb1 w1
  obtain ⟨DV, hDV⟩ : ∃ DV, D.val % E5.p = DV := ⟨_, rfl⟩
  have oD : E5.Ok D := by rw [← hD]; exact (E5.sub_ok oX oY).1
  have eD : (DV + B) % E5.p = A := by
    have h := (E5.sub_ok oX oY).2
    rw [hD, vX] at h
    rw [← hDV, ← vY, Nat.mod_add_mod, Nat.add_mod_mod]
    exact h
  have lD : DV < E5.p := by rw [← hDV]; exact Nat.mod_lt _ p_pos
  have oK : E5.Ok K0 := by rw [← hK0]; exact (E5.add_ok oD oY).1
  have vK : K0.val % E5.p = A := by rw [← hK0, (E5.add_ok oD oY).2, Nat.add_mod, hDV, vY]; exact eD
  have GT : Hid (∀ w' : World, Calls Try.prog 11 #[.agg D.cells] w' fun e w'' => e = .returned (.string (numS DV)) ∧ Below w'.heap.size w' w'') := Lib.hid (fun w' => text_as oD DV hDV w')
  obtain ⟨SD, hSD⟩ : ∃ SD, numS DV = SD := ⟨_, rfl⟩
  rw [hSD] at GT
  go_wp2_with (refine wpList_load_row (o := ⟨some 69, .load 26 _, _, _, _, _⟩) rfl 26 _ rfl P11 rfl _ D.cells (0, 0) _ R11 Try.underlying26 rfl (by kernel_rfl) ?_)
  with_reducible refine (GT.out _).mono ?_
  rintro e w1 ⟨rfl, hbb⟩
  replace BEL := BEL.trans (hbb.mono BEL.size)
  replace R5 := below_row hbb (lt_row R5) R5
  replace R6 := below_row hbb (lt_row R6) R6
  replace R9 := below_row hbb (lt_row R9) R9
  replace R10 := below_row hbb (lt_row R10) R10
  replace R11 := below_row hbb (lt_row R11) R11
  replace R12 := below_row hbb (lt_row R12) R12
  clear hbb GT
  have T1 : Hid (∀ w' : World, Calls Try.prog 11 #[(X.add Y).v] w' fun e w'' => e = .returned (.string (numS S)) ∧ Below w'.heap.size w' w'') := Lib.hid (fun w' => text_as (E5.add_ok oX oY).1 S (by rw [(E5.add_ok oX oY).2, Nat.add_mod, vX, vY, HS.out]; exact Nat.mod_eq_of_lt (Nat.lt_of_lt_of_le hS1 (by unfold E5.p; decide))) w')
  have T2 : Hid (∀ w' : World, Calls Try.prog 11 #[.agg SU.cells] w' fun e w'' => e = .returned (.string (numS S)) ∧ Below w'.heap.size w' w'') := Lib.hid (fun w' => text_as oS S vS w')
  have T3 : Hid (∀ w' : World, Calls Try.prog 11 #[(X.mul Y).v] w' fun e w'' => e = .returned (.string (numS M)) ∧ Below w'.heap.size w' w'') := Lib.hid (fun w' => text_as (E5.mul_ok oX oY).1 M (by rw [(E5.mul_ok oX oY).2, Nat.mul_mod, vX, vY, HM.out]; exact Nat.mod_eq_of_lt (Nat.lt_of_lt_of_le hM1 (by unfold E5.p; decide))) w')
  have T4 : Hid (∀ w' : World, Calls Try.prog 11 #[.agg PR.cells] w' fun e w'' => e = .returned (.string (numS M)) ∧ Below w'.heap.size w' w'') := Lib.hid (fun w' => text_as oP M vP w')
  have T5 : Hid (∀ w' : World, Calls Try.prog 11 #[.agg K0.cells] w' fun e w'' => e = .returned (.string (numS A)) ∧ Below w'.heap.size w' w'') := Lib.hid (fun w' => text_as oK A vK w')
  have T6 : Hid (∀ w' : World, Calls Try.prog 11 #[.agg X.cells] w' fun e w'' => e = .returned (.string (numS A)) ∧ Below w'.heap.size w' w'') := Lib.hid (fun w' => text_as oX A vX w')
  have GA : Hid (∀ w' : World, Calls Try.prog 12 #[.agg X.cells, .agg Y.cells] w' fun e w'' => e = .returned (X.add Y).v ∧ Below w'.heap.size w' w'') := Lib.hid (addE_any X Y)
  have GM : Hid (∀ w' : World, Calls Try.prog 16 #[.agg X.cells, .agg Y.cells] w' fun e w'' => e = .returned (X.mul Y).v ∧ Below w'.heap.size w' w'') := Lib.hid (mulE_any X Y)
  obtain ⟨SS, hSS⟩ : ∃ Z, numS S = Z := ⟨_, rfl⟩
  obtain ⟨SM, hSM⟩ : ∃ Z, numS M = Z := ⟨_, rfl⟩
  obtain ⟨SA, hSA⟩ : ∃ Z, numS A = Z := ⟨_, rfl⟩
  rw [hSS] at T1 T2
  rw [hSM] at T3 T4
  rw [hSA] at T5 T6
  obtain ⟨XA, hXA⟩ : ∃ Z, X.add Y = Z := ⟨_, rfl⟩
  obtain ⟨XM, hXM⟩ : ∃ Z, X.mul Y = Z := ⟨_, rfl⟩
  rw [hXA] at T1 GA
  rw [hXM] at T3 GM
  have HSD := Lib.hid hSD
  have R5' := Lib.hid R5; have R6' := Lib.hid R6; have R9' := Lib.hid R9; have R10' := Lib.hid R10; have R12' := Lib.hid R12
  clear R5 R6 R9 R10 R11 R12 hSD hSS hSM hSA hXA hXM hSI hMI HS HM oX oY vX vY oS vS oP vP hD hK0 hDV oD oK vK GD GK hS1 hS2 hM1 hM2
  go_upto_region 9 with (fail)
  by_cases hab : B ≤ A
  · have hDN : DV = A - B := by unfold E5.p at *; omega
    obtain ⟨Nn, hNn⟩ : ∃ Nn : Nat, A - B = Nn := ⟨_, rfl⟩
    have hN : Nn < 65536 := by omega
    have hNI : (A : Int) - (B : Int) = (Nn : Int) := by omega
    have hNl : (Nn : Int) < 65536 := by omega
    have hge : (B : Int) ≤ (A : Int) := by omega
    have HJ : Hid (strOf (smallF Nn) 2 ++ strOf (fun _ => 0#8) 30 = SD) := Lib.hid (by rw [joined hN, ← HSD.out, hDN, hNn])
    have HC := Lib.hid (fun (z0 z1 : Int) h0 h1 => conv2 (n := Nn) (z0 := z0) (z1 := z1) h0 h1)
    clear hDN hNn eD lD
    go_upto_region 11 with (fail)
    try simp only [hNI]
    refine region_anyM mixedOrders ?_
    refine anyM_take (i := 0) (oi := ⟨some 77, _, _, _, _, _⟩) (v := .bool true) rfl (by kernel_rfl) (by kernel_rfl) (by kernel_rfl) (fun _ _ _ h => h) (.inl ⟨by rfl, fun w2 hw2 => ?_⟩) ?_
    · clear hw2
      go_simp
      go_at_call 10
      with_reducible refine (wraps_any w2).mono ?_
      rintro e w3 ⟨rfl, hb3⟩
      exact ⟨rfl, hb3⟩
    simp only [Act.put, List.setIfInBounds_toArray, List.set_cons_succ, List.set_cons_zero]
    refine anyM_take (i := 1) (oi := ⟨some 78, _, _, _, _, _⟩) (v := .bool true) rfl (by kernel_rfl) (by kernel_rfl) (by kernel_rfl) (fun _ _ _ h => h) (.inl ⟨by rfl, fun w2 hw2 => ?_⟩) ?_
    · clear hw2
      go_simp
    simp only [Act.put, List.setIfInBounds_toArray, List.set_cons_succ, List.set_cons_zero]
    refine anyM_take (i := 2) (oi := ⟨some 79, _, _, _, _, _⟩) (v := .agg X.cells) rfl (by kernel_rfl) (by kernel_rfl) (by kernel_rfl) (fun _ _ _ h => h) (.inl ⟨by rfl, fun w2 hw2 => ?_⟩) ?_
    · exact quiet_load_row 26 (.tmp 5) rfl P5 rfl _ X.cells (0, 0) _ (below_row hw2 (lt_row R5'.out) R5'.out) Try.underlying26 rfl (by kernel_rfl)
    simp only [Act.put, List.setIfInBounds_toArray, List.set_cons_succ, List.set_cons_zero]
    refine anyM_take (i := 3) (oi := ⟨some 80, _, _, _, _, _⟩) (v := .agg Y.cells) rfl (by kernel_rfl) (by kernel_rfl) (by kernel_rfl) (fun _ _ _ h => h) (.inl ⟨by rfl, fun w2 hw2 => ?_⟩) ?_
    · exact quiet_load_row 26 (.tmp 6) rfl P6 rfl _ Y.cells (0, 0) _ (below_row hw2 (lt_row R6'.out) R6'.out) Try.underlying26 rfl (by kernel_rfl)
    simp only [Act.put, List.setIfInBounds_toArray, List.set_cons_succ, List.set_cons_zero]
    refine anyM_take (i := 4) (oi := ⟨some 81, _, _, _, _, _⟩) (v := XA.v) rfl (by kernel_rfl) (by kernel_rfl) (by kernel_rfl) (fun _ _ _ h => h) (.inl ⟨by rfl, fun w2 hw2 => ?_⟩) ?_
    · clear hw2
      go_simp
      go_at_call 12
      with_reducible refine (GA.out w2).mono ?_
      rintro e w3 ⟨rfl, hb3⟩
      exact ⟨rfl, hb3⟩
    simp only [Act.put, List.setIfInBounds_toArray, List.set_cons_succ, List.set_cons_zero]
    refine anyM_take (i := 5) (oi := ⟨some 82, _, _, _, _, _⟩) (v := .string SS) rfl (by kernel_rfl) (by kernel_rfl) (by kernel_rfl) (fun _ _ _ h => h) (.inl ⟨by rfl, fun w2 hw2 => ?_⟩) ?_
    · clear hw2
      go_simp
      go_at_call 11
      with_reducible refine (T1.out w2).mono ?_
      rintro e w3 ⟨rfl, hb3⟩
      exact ⟨rfl, hb3⟩
    simp only [Act.put, List.setIfInBounds_toArray, List.set_cons_succ, List.set_cons_zero]
    refine anyM_take (i := 6) (oi := ⟨some 83, _, _, _, _, _⟩) (v := .agg SU.cells) rfl (by kernel_rfl) (by kernel_rfl) (by kernel_rfl) (fun _ _ _ h => h) (.inl ⟨by rfl, fun w2 hw2 => ?_⟩) ?_
    · exact quiet_load_row 26 (.tmp 9) rfl P9 rfl _ SU.cells (0, 0) _ (below_row hw2 (lt_row R9'.out) R9'.out) Try.underlying26 rfl (by kernel_rfl)
    simp only [Act.put, List.setIfInBounds_toArray, List.set_cons_succ, List.set_cons_zero]
    refine anyM_take (i := 7) (oi := ⟨some 84, _, _, _, _, _⟩) (v := .string SS) rfl (by kernel_rfl) (by kernel_rfl) (by kernel_rfl) (fun _ _ _ h => h) (.inl ⟨by rfl, fun w2 hw2 => ?_⟩) ?_
    · clear hw2
      go_simp
      go_at_call 11
      with_reducible refine (T2.out w2).mono ?_
      rintro e w3 ⟨rfl, hb3⟩
      exact ⟨rfl, hb3⟩
    simp only [Act.put, List.setIfInBounds_toArray, List.set_cons_succ, List.set_cons_zero]
    refine anyM_take (i := 8) (oi := ⟨some 85, _, _, _, _, _⟩) (v := .bool true) rfl (by kernel_rfl) (by kernel_rfl) (by kernel_rfl) (fun _ _ _ h => h) (.inl ⟨by rfl, fun w2 hw2 => ?_⟩) ?_
    · clear hw2
      go_simp
    simp only [Act.put, List.setIfInBounds_toArray, List.set_cons_succ, List.set_cons_zero]
    refine anyM_take (i := 9) (oi := ⟨some 86, _, _, _, _, _⟩) (v := .bool true) rfl (by kernel_rfl) (by kernel_rfl) (by kernel_rfl) (fun _ _ _ h => h) (.inl ⟨by rfl, fun w2 hw2 => ?_⟩) ?_
    · clear hw2
      go_simp
    simp only [Act.put, List.setIfInBounds_toArray, List.set_cons_succ, List.set_cons_zero]
    refine anyM_take (i := 10) (oi := ⟨some 87, _, _, _, _, _⟩) (v := .bool true) rfl (by kernel_rfl) (by kernel_rfl) (by kernel_rfl) (fun _ _ _ h => h) (.inl ⟨by rfl, fun w2 hw2 => ?_⟩) ?_
    · clear hw2
      go_simp
    simp only [Act.put, List.setIfInBounds_toArray, List.set_cons_succ, List.set_cons_zero]
    refine anyM_take (i := 11) (oi := ⟨some 88, _, _, _, _, _⟩) (v := .agg X.cells) rfl (by kernel_rfl) (by kernel_rfl) (by kernel_rfl) (fun _ _ _ h => h) (.inl ⟨by rfl, fun w2 hw2 => ?_⟩) ?_
    · exact quiet_load_row 26 (.tmp 5) rfl P5 rfl _ X.cells (0, 0) _ (below_row hw2 (lt_row R5'.out) R5'.out) Try.underlying26 rfl (by kernel_rfl)
    simp only [Act.put, List.setIfInBounds_toArray, List.set_cons_succ, List.set_cons_zero]
    refine anyM_take (i := 12) (oi := ⟨some 89, _, _, _, _, _⟩) (v := .agg Y.cells) rfl (by kernel_rfl) (by kernel_rfl) (by kernel_rfl) (fun _ _ _ h => h) (.inl ⟨by rfl, fun w2 hw2 => ?_⟩) ?_
    · exact quiet_load_row 26 (.tmp 6) rfl P6 rfl _ Y.cells (0, 0) _ (below_row hw2 (lt_row R6'.out) R6'.out) Try.underlying26 rfl (by kernel_rfl)
    simp only [Act.put, List.setIfInBounds_toArray, List.set_cons_succ, List.set_cons_zero]
    refine anyM_take (i := 13) (oi := ⟨some 90, _, _, _, _, _⟩) (v := XM.v) rfl (by kernel_rfl) (by kernel_rfl) (by kernel_rfl) (fun _ _ _ h => h) (.inl ⟨by rfl, fun w2 hw2 => ?_⟩) ?_
    · clear hw2
      go_simp
      go_at_call 16
      with_reducible refine (GM.out w2).mono ?_
      rintro e w3 ⟨rfl, hb3⟩
      exact ⟨rfl, hb3⟩
    simp only [Act.put, List.setIfInBounds_toArray, List.set_cons_succ, List.set_cons_zero]
    refine anyM_take (i := 14) (oi := ⟨some 91, _, _, _, _, _⟩) (v := .string SM) rfl (by kernel_rfl) (by kernel_rfl) (by kernel_rfl) (fun _ _ _ h => h) (.inl ⟨by rfl, fun w2 hw2 => ?_⟩) ?_
    · clear hw2
      go_simp
      go_at_call 11
      with_reducible refine (T3.out w2).mono ?_
      rintro e w3 ⟨rfl, hb3⟩
      exact ⟨rfl, hb3⟩
    simp only [Act.put, List.setIfInBounds_toArray, List.set_cons_succ, List.set_cons_zero]
    refine anyM_take (i := 15) (oi := ⟨some 92, _, _, _, _, _⟩) (v := .agg PR.cells) rfl (by kernel_rfl) (by kernel_rfl) (by kernel_rfl) (fun _ _ _ h => h) (.inl ⟨by rfl, fun w2 hw2 => ?_⟩) ?_
    · exact quiet_load_row 26 (.tmp 10) rfl P10 rfl _ PR.cells (0, 0) _ (below_row hw2 (lt_row R10'.out) R10'.out) Try.underlying26 rfl (by kernel_rfl)
    simp only [Act.put, List.setIfInBounds_toArray, List.set_cons_succ, List.set_cons_zero]
    refine anyM_take (i := 16) (oi := ⟨some 93, _, _, _, _, _⟩) (v := .string SM) rfl (by kernel_rfl) (by kernel_rfl) (by kernel_rfl) (fun _ _ _ h => h) (.inl ⟨by rfl, fun w2 hw2 => ?_⟩) ?_
    · clear hw2
      go_simp
      go_at_call 11
      with_reducible refine (T4.out w2).mono ?_
      rintro e w3 ⟨rfl, hb3⟩
      exact ⟨rfl, hb3⟩
    simp only [Act.put, List.setIfInBounds_toArray, List.set_cons_succ, List.set_cons_zero]
    refine anyM_take (i := 17) (oi := ⟨some 94, _, _, _, _, _⟩) (v := .bool true) rfl (by kernel_rfl) (by kernel_rfl) (by kernel_rfl) (fun _ _ _ h => h) (.inl ⟨by rfl, fun w2 hw2 => ?_⟩) ?_
    · clear hw2
      go_simp
    simp only [Act.put, List.setIfInBounds_toArray, List.set_cons_succ, List.set_cons_zero]
    refine anyM_take (i := 18) (oi := ⟨some 95, _, _, _, _, _⟩) (v := .bool true) rfl (by kernel_rfl) (by kernel_rfl) (by kernel_rfl) (fun _ _ _ h => h) (.inl ⟨by rfl, fun w2 hw2 => ?_⟩) ?_
    · clear hw2
      go_simp
    simp only [Act.put, List.setIfInBounds_toArray, List.set_cons_succ, List.set_cons_zero]
    refine anyM_take (i := 19) (oi := ⟨some 96, _, _, _, _, _⟩) (v := .bool true) rfl (by kernel_rfl) (by kernel_rfl) (by kernel_rfl) (fun _ _ _ h => h) (.inl ⟨by rfl, fun w2 hw2 => ?_⟩) ?_
    · clear hw2
      go_simp
    simp only [Act.put, List.setIfInBounds_toArray, List.set_cons_succ, List.set_cons_zero]
    refine anyM_take (i := 20) (oi := ⟨some 97, _, _, _, _, _⟩) (v := .string SD) rfl (by kernel_rfl) (by kernel_rfl) (by kernel_rfl) (fun _ _ _ h => h) (.inl ⟨by rfl, fun w2 hw2 => ?_⟩) ?_
    · clear hw2
      go_simp
    simp only [Act.put, List.setIfInBounds_toArray, List.set_cons_succ, List.set_cons_zero]
    refine anyM_take (i := 21) (oi := ⟨some 98, _, _, _, _, _⟩) (v := .int .u16 (Nn : Int)) rfl (by kernel_rfl) (by kernel_rfl) (by kernel_rfl) (fun _ _ _ h => h) (.inl ⟨by rfl, fun w2 hw2 => ?_⟩) ?_
    · clear hw2
      go_simp
    simp only [Act.put, List.setIfInBounds_toArray, List.set_cons_succ, List.set_cons_zero]
    refine anyM_take (i := 22) (oi := ⟨some 99, _, _, _, _, _⟩) (v := .int .u8 ((Nn : Int) % 256)) rfl (by kernel_rfl) (by kernel_rfl) (by kernel_rfl) (fun _ _ _ h => h) (.inl ⟨by rfl, fun w2 hw2 => ?_⟩) ?_
    · clear hw2
      go_simp
      exact wrap8 _
    simp only [Act.put, List.setIfInBounds_toArray, List.set_cons_succ, List.set_cons_zero]
    refine anyM_take (i := 23) (oi := ⟨some 100, _, _, _, _, _⟩) (v := .int .u16 (Nn : Int)) rfl (by kernel_rfl) (by kernel_rfl) (by kernel_rfl) (fun _ _ _ h => h) (.inl ⟨by rfl, fun w2 hw2 => ?_⟩) ?_
    · clear hw2
      go_simp
    simp only [Act.put, List.setIfInBounds_toArray, List.set_cons_succ, List.set_cons_zero]
    refine anyM_take (i := 24) (oi := ⟨some 101, _, _, _, _, _⟩) (v := .int .u16 ((Nn : Int) / 256)) rfl (by kernel_rfl) (by kernel_rfl) (by kernel_rfl) (fun _ _ _ h => h) (.inl ⟨by rfl, fun w2 hw2 => ?_⟩) ?_
    · clear hw2
      go_simp
    simp only [Act.put, List.setIfInBounds_toArray, List.set_cons_succ, List.set_cons_zero]
    refine anyM_take (i := 25) (oi := ⟨some 102, _, _, _, _, _⟩) (v := .int .u8 ((Nn : Int) / 256)) rfl (by kernel_rfl) (by kernel_rfl) (by kernel_rfl) (fun _ _ _ h => h) (.inl ⟨by rfl, fun w2 hw2 => ?_⟩) ?_
    · clear hw2
      go_simp
      rw [wrap8]
      omega
    simp only [Act.put, List.setIfInBounds_toArray, List.set_cons_succ, List.set_cons_zero]
    refine anyM_take (i := 28) (oi := ⟨some 105, _, _, _, _, _⟩) (v := .string (strOf (fun _ => 0#8) 32)) rfl (by kernel_rfl) (by kernel_rfl) (by kernel_rfl) (fun _ _ _ h => h) (.inl ⟨by rfl, fun w2 hw2 => ?_⟩) ?_
    · clear hw2
      go_simp
      go_at_call 20
      with_reducible refine (small0 w2).mono ?_
      rintro e w3 ⟨rfl, hb3⟩
      exact ⟨rfl, hb3⟩
    simp only [Act.put, List.setIfInBounds_toArray, List.set_cons_succ, List.set_cons_zero]
    refine anyM_take (i := 29) (oi := ⟨some 106, _, _, _, _, _⟩) (v := .string (strOf (fun _ => 0#8) 30)) rfl (by kernel_rfl) (by kernel_rfl) (by kernel_rfl) (fun _ _ _ h => h) (.inl ⟨by rfl, fun w2 hw2 => ?_⟩) ?_
    · exact quiet_value (conv_of_run (run_cut30 _ w2))
    simp only [Act.put, List.setIfInBounds_toArray, List.set_cons_succ, List.set_cons_zero]
    refine anyM_only (i := 26) (o := ⟨some 103, _, _, _, _, _⟩) (by kernel_rfl) rfl (by rfl) (fun w2 hw2 => ⟨.slice (some ⟨w2.heap.size, 0, none⟩) 2 2, w2.alloc (.cells #[.int .u8 ((Nn : Int) % 256), .int .u8 ((Nn : Int) / 256)] 5), by go_simp, (Below.refl _ _).alloc (Nat.le_refl _) _, ?_⟩)
    simp only [Act.put, List.setIfInBounds_toArray, List.set_cons_succ, List.set_cons_zero]
    have RB := Lib.hid (heap_alloc_last w2 (.cells #[.int .u8 ((Nn : Int) % 256), .int .u8 ((Nn : Int) / 256)] 5))
    have BB : Hid (Below w.heap.size w (w2.alloc (.cells #[.int .u8 ((Nn : Int) % 256), .int .u8 ((Nn : Int) / 256)] 5))) := Lib.hid ((ext_below hw2 BEL.drew BEL.size).alloc (ext_below hw2 BEL.drew BEL.size).size _)
    clear hw2
    generalize w2.heap.size = Q at *
    generalize w2.alloc _ = w3 at *
    refine anyM_take (i := 27) (oi := ⟨some 104, _, _, _, _, _⟩) (v := .string (strOf (smallF Nn) 2)) rfl (by kernel_rfl) (by kernel_rfl) (by kernel_rfl) (fun _ _ _ h => h) (.inl ⟨by rfl, fun w2 hw2 => ?_⟩) ?_
    · exact quiet_value (conv_of_run (HC.out ((Nn : Int) % 256) ((Nn : Int) / 256) (by omega) (by omega) Q w2 (below_row hw2 (lt_row RB.out) RB.out)))
    simp only [Act.put, List.setIfInBounds_toArray, List.set_cons_succ, List.set_cons_zero]
    refine anyM_take (i := 30) (oi := ⟨some 107, _, _, _, _, _⟩) (v := .string SD) rfl (by kernel_rfl) (by kernel_rfl) (by kernel_rfl) (fun _ _ _ h => h) (.inl ⟨by rfl, fun w2 hw2 => ?_⟩) ?_
    · clear hw2
      have hj := HJ.out
      have z1 := strOf_size (smallF Nn) 2
      have z2 := strOf_size (fun _ => 0#8) 30
      go_simp
    simp only [Act.put, List.setIfInBounds_toArray, List.set_cons_succ, List.set_cons_zero]
    refine anyM_take (i := 31) (oi := ⟨some 108, _, _, _, _, _⟩) (v := .bool true) rfl (by kernel_rfl) (by kernel_rfl) (by kernel_rfl) (fun _ _ _ h => h) (.inl ⟨by rfl, fun w2 hw2 => ?_⟩) ?_
    · clear hw2
      go_simp
    simp only [Act.put, List.setIfInBounds_toArray, List.set_cons_succ, List.set_cons_zero]
    refine anyM_take (i := 32) (oi := ⟨some 109, _, _, _, _, _⟩) (v := .bool true) rfl (by kernel_rfl) (by kernel_rfl) (by kernel_rfl) (fun _ _ _ h => h) (.inl ⟨by rfl, fun w2 hw2 => ?_⟩) ?_
    · clear hw2
      go_simp
    simp only [Act.put, List.setIfInBounds_toArray, List.set_cons_succ, List.set_cons_zero]
    refine anyM_take (i := 33) (oi := ⟨some 4, _, _, _, _, _⟩) (v := .bool true) rfl (by kernel_rfl) (by kernel_rfl) (by kernel_rfl) (fun _ _ _ h => h) (.inl ⟨by rfl, fun w2 hw2 => ?_⟩) ?_
    · clear hw2
      go_simp
    simp only [Act.put, List.setIfInBounds_toArray, List.set_cons_succ, List.set_cons_zero]
    refine anyM_done (by kernel_rfl) (fun w4 hw4 => ?_)
    have hb4 := ext_below hw4 BB.out BB.out.size
    clear hw4
    go_wp2_with fail
    go_ret
    exact ⟨rfl, hb4⟩
  · obtain ⟨Kn, hKn⟩ : ∃ Kn : Nat, B - A = Kn := ⟨_, rfl⟩
    have hp : E5.p = 57896044618658097711785492504343953926634992332820282019728792003956564819949 := by decide
    have hDN : DV + Kn = 57896044618658097711785492504343953926634992332820282019728792003956564819949 := by rw [hp] at eD lD; omega
    have hK1 : 0 < Kn := by omega
    have hK2 : Kn < 65536 := by omega
    have hKI : (B : Int) - (A : Int) = (Kn : Int) := by omega
    have hge : ¬ (B : Int) ≤ (A : Int) := by omega
    have e31 : ((DV / 256 ^ 31 % 256 : Nat) : Int) = 127 := by
      have : (256 : Nat) ^ 31 = 452312848583266388373324160190187140051835877600158453279131187530910662656 := by decide
      rw [this]
      omega
    have I31 : Hid (∀ w' : World, (Instr.index 9 (.string SD) (.int .i64 31)).run Try.prog w' = .ok (.int .u8 127) w') := Lib.hid (fun w' => by
      have h := str_index (smallF DV) 32 31 (by omega) w'
      rw [smallF_n8] at h
      rw [← HSD.out]
      exact h.trans (by rw [e31]))
    clear e31 eD lD
    by_cases hn0 : 65517 < Kn
    · have hnI : (65517 : Int) - (Kn : Int) < 0 := by omega
      have hd0 : decide ((65517 : Int) - (Kn : Int) < 0) = true := decide_eq_true hnI
      have hkl : (Kn : Int) < 65536 := by omega
      clear hDN hp hKn
      go_upto_region 13 with (fail)
      try simp only [hKI]
      refine region_anyM mixedOrders ?_
      refine anyM_take (i := 0) (oi := ⟨some 115, _, _, _, _, _⟩) (v := .bool true) rfl (by kernel_rfl) (by kernel_rfl) (by kernel_rfl) (fun _ _ _ h => h) (.inl ⟨by rfl, fun w2 hw2 => ?_⟩) ?_
      · clear hw2
        go_simp
        go_at_call 10
        with_reducible refine (wraps_any w2).mono ?_
        rintro e w3 ⟨rfl, hb3⟩
        exact ⟨rfl, hb3⟩
      simp only [Act.put, List.setIfInBounds_toArray, List.set_cons_succ, List.set_cons_zero]
      refine anyM_take (i := 1) (oi := ⟨some 116, _, _, _, _, _⟩) (v := .bool true) rfl (by kernel_rfl) (by kernel_rfl) (by kernel_rfl) (fun _ _ _ h => h) (.inl ⟨by rfl, fun w2 hw2 => ?_⟩) ?_
      · clear hw2
        go_simp
      simp only [Act.put, List.setIfInBounds_toArray, List.set_cons_succ, List.set_cons_zero]
      refine anyM_take (i := 2) (oi := ⟨some 117, _, _, _, _, _⟩) (v := .agg X.cells) rfl (by kernel_rfl) (by kernel_rfl) (by kernel_rfl) (fun _ _ _ h => h) (.inl ⟨by rfl, fun w2 hw2 => ?_⟩) ?_
      · exact quiet_load_row 26 (.tmp 5) rfl P5 rfl _ X.cells (0, 0) _ (below_row hw2 (lt_row R5'.out) R5'.out) Try.underlying26 rfl (by kernel_rfl)
      simp only [Act.put, List.setIfInBounds_toArray, List.set_cons_succ, List.set_cons_zero]
      refine anyM_take (i := 3) (oi := ⟨some 118, _, _, _, _, _⟩) (v := .agg Y.cells) rfl (by kernel_rfl) (by kernel_rfl) (by kernel_rfl) (fun _ _ _ h => h) (.inl ⟨by rfl, fun w2 hw2 => ?_⟩) ?_
      · exact quiet_load_row 26 (.tmp 6) rfl P6 rfl _ Y.cells (0, 0) _ (below_row hw2 (lt_row R6'.out) R6'.out) Try.underlying26 rfl (by kernel_rfl)
      simp only [Act.put, List.setIfInBounds_toArray, List.set_cons_succ, List.set_cons_zero]
      refine anyM_take (i := 4) (oi := ⟨some 119, _, _, _, _, _⟩) (v := XA.v) rfl (by kernel_rfl) (by kernel_rfl) (by kernel_rfl) (fun _ _ _ h => h) (.inl ⟨by rfl, fun w2 hw2 => ?_⟩) ?_
      · clear hw2
        go_simp
        go_at_call 12
        with_reducible refine (GA.out w2).mono ?_
        rintro e w3 ⟨rfl, hb3⟩
        exact ⟨rfl, hb3⟩
      simp only [Act.put, List.setIfInBounds_toArray, List.set_cons_succ, List.set_cons_zero]
      refine anyM_take (i := 5) (oi := ⟨some 120, _, _, _, _, _⟩) (v := .string SS) rfl (by kernel_rfl) (by kernel_rfl) (by kernel_rfl) (fun _ _ _ h => h) (.inl ⟨by rfl, fun w2 hw2 => ?_⟩) ?_
      · clear hw2
        go_simp
        go_at_call 11
        with_reducible refine (T1.out w2).mono ?_
        rintro e w3 ⟨rfl, hb3⟩
        exact ⟨rfl, hb3⟩
      simp only [Act.put, List.setIfInBounds_toArray, List.set_cons_succ, List.set_cons_zero]
      refine anyM_take (i := 6) (oi := ⟨some 121, _, _, _, _, _⟩) (v := .agg SU.cells) rfl (by kernel_rfl) (by kernel_rfl) (by kernel_rfl) (fun _ _ _ h => h) (.inl ⟨by rfl, fun w2 hw2 => ?_⟩) ?_
      · exact quiet_load_row 26 (.tmp 9) rfl P9 rfl _ SU.cells (0, 0) _ (below_row hw2 (lt_row R9'.out) R9'.out) Try.underlying26 rfl (by kernel_rfl)
      simp only [Act.put, List.setIfInBounds_toArray, List.set_cons_succ, List.set_cons_zero]
      refine anyM_take (i := 7) (oi := ⟨some 122, _, _, _, _, _⟩) (v := .string SS) rfl (by kernel_rfl) (by kernel_rfl) (by kernel_rfl) (fun _ _ _ h => h) (.inl ⟨by rfl, fun w2 hw2 => ?_⟩) ?_
      · clear hw2
        go_simp
        go_at_call 11
        with_reducible refine (T2.out w2).mono ?_
        rintro e w3 ⟨rfl, hb3⟩
        exact ⟨rfl, hb3⟩
      simp only [Act.put, List.setIfInBounds_toArray, List.set_cons_succ, List.set_cons_zero]
      refine anyM_take (i := 8) (oi := ⟨some 123, _, _, _, _, _⟩) (v := .bool true) rfl (by kernel_rfl) (by kernel_rfl) (by kernel_rfl) (fun _ _ _ h => h) (.inl ⟨by rfl, fun w2 hw2 => ?_⟩) ?_
      · clear hw2
        go_simp
      simp only [Act.put, List.setIfInBounds_toArray, List.set_cons_succ, List.set_cons_zero]
      refine anyM_take (i := 9) (oi := ⟨some 124, _, _, _, _, _⟩) (v := .bool true) rfl (by kernel_rfl) (by kernel_rfl) (by kernel_rfl) (fun _ _ _ h => h) (.inl ⟨by rfl, fun w2 hw2 => ?_⟩) ?_
      · clear hw2
        go_simp
      simp only [Act.put, List.setIfInBounds_toArray, List.set_cons_succ, List.set_cons_zero]
      refine anyM_take (i := 10) (oi := ⟨some 125, _, _, _, _, _⟩) (v := .bool true) rfl (by kernel_rfl) (by kernel_rfl) (by kernel_rfl) (fun _ _ _ h => h) (.inl ⟨by rfl, fun w2 hw2 => ?_⟩) ?_
      · clear hw2
        go_simp
      simp only [Act.put, List.setIfInBounds_toArray, List.set_cons_succ, List.set_cons_zero]
      refine anyM_take (i := 11) (oi := ⟨some 126, _, _, _, _, _⟩) (v := .agg X.cells) rfl (by kernel_rfl) (by kernel_rfl) (by kernel_rfl) (fun _ _ _ h => h) (.inl ⟨by rfl, fun w2 hw2 => ?_⟩) ?_
      · exact quiet_load_row 26 (.tmp 5) rfl P5 rfl _ X.cells (0, 0) _ (below_row hw2 (lt_row R5'.out) R5'.out) Try.underlying26 rfl (by kernel_rfl)
      simp only [Act.put, List.setIfInBounds_toArray, List.set_cons_succ, List.set_cons_zero]
      refine anyM_take (i := 12) (oi := ⟨some 127, _, _, _, _, _⟩) (v := .agg Y.cells) rfl (by kernel_rfl) (by kernel_rfl) (by kernel_rfl) (fun _ _ _ h => h) (.inl ⟨by rfl, fun w2 hw2 => ?_⟩) ?_
      · exact quiet_load_row 26 (.tmp 6) rfl P6 rfl _ Y.cells (0, 0) _ (below_row hw2 (lt_row R6'.out) R6'.out) Try.underlying26 rfl (by kernel_rfl)
      simp only [Act.put, List.setIfInBounds_toArray, List.set_cons_succ, List.set_cons_zero]
      refine anyM_take (i := 13) (oi := ⟨some 128, _, _, _, _, _⟩) (v := XM.v) rfl (by kernel_rfl) (by kernel_rfl) (by kernel_rfl) (fun _ _ _ h => h) (.inl ⟨by rfl, fun w2 hw2 => ?_⟩) ?_
      · clear hw2
        go_simp
        go_at_call 16
        with_reducible refine (GM.out w2).mono ?_
        rintro e w3 ⟨rfl, hb3⟩
        exact ⟨rfl, hb3⟩
      simp only [Act.put, List.setIfInBounds_toArray, List.set_cons_succ, List.set_cons_zero]
      refine anyM_take (i := 14) (oi := ⟨some 129, _, _, _, _, _⟩) (v := .string SM) rfl (by kernel_rfl) (by kernel_rfl) (by kernel_rfl) (fun _ _ _ h => h) (.inl ⟨by rfl, fun w2 hw2 => ?_⟩) ?_
      · clear hw2
        go_simp
        go_at_call 11
        with_reducible refine (T3.out w2).mono ?_
        rintro e w3 ⟨rfl, hb3⟩
        exact ⟨rfl, hb3⟩
      simp only [Act.put, List.setIfInBounds_toArray, List.set_cons_succ, List.set_cons_zero]
      refine anyM_take (i := 15) (oi := ⟨some 130, _, _, _, _, _⟩) (v := .agg PR.cells) rfl (by kernel_rfl) (by kernel_rfl) (by kernel_rfl) (fun _ _ _ h => h) (.inl ⟨by rfl, fun w2 hw2 => ?_⟩) ?_
      · exact quiet_load_row 26 (.tmp 10) rfl P10 rfl _ PR.cells (0, 0) _ (below_row hw2 (lt_row R10'.out) R10'.out) Try.underlying26 rfl (by kernel_rfl)
      simp only [Act.put, List.setIfInBounds_toArray, List.set_cons_succ, List.set_cons_zero]
      refine anyM_take (i := 16) (oi := ⟨some 131, _, _, _, _, _⟩) (v := .string SM) rfl (by kernel_rfl) (by kernel_rfl) (by kernel_rfl) (fun _ _ _ h => h) (.inl ⟨by rfl, fun w2 hw2 => ?_⟩) ?_
      · clear hw2
        go_simp
        go_at_call 11
        with_reducible refine (T4.out w2).mono ?_
        rintro e w3 ⟨rfl, hb3⟩
        exact ⟨rfl, hb3⟩
      simp only [Act.put, List.setIfInBounds_toArray, List.set_cons_succ, List.set_cons_zero]
      refine anyM_take (i := 17) (oi := ⟨some 132, _, _, _, _, _⟩) (v := .bool true) rfl (by kernel_rfl) (by kernel_rfl) (by kernel_rfl) (fun _ _ _ h => h) (.inl ⟨by rfl, fun w2 hw2 => ?_⟩) ?_
      · clear hw2
        go_simp
      simp only [Act.put, List.setIfInBounds_toArray, List.set_cons_succ, List.set_cons_zero]
      refine anyM_take (i := 18) (oi := ⟨some 133, _, _, _, _, _⟩) (v := .bool true) rfl (by kernel_rfl) (by kernel_rfl) (by kernel_rfl) (fun _ _ _ h => h) (.inl ⟨by rfl, fun w2 hw2 => ?_⟩) ?_
      · clear hw2
        go_simp
      simp only [Act.put, List.setIfInBounds_toArray, List.set_cons_succ, List.set_cons_zero]
      refine anyM_take (i := 19) (oi := ⟨some 134, _, _, _, _, _⟩) (v := .bool true) rfl (by kernel_rfl) (by kernel_rfl) (by kernel_rfl) (fun _ _ _ h => h) (.inl ⟨by rfl, fun w2 hw2 => ?_⟩) ?_
      · clear hw2
        go_simp
      simp only [Act.put, List.setIfInBounds_toArray, List.set_cons_succ, List.set_cons_zero]
      refine anyM_take (i := 20) (oi := ⟨some 135, _, _, _, _, _⟩) (v := .agg K0.cells) rfl (by kernel_rfl) (by kernel_rfl) (by kernel_rfl) (fun _ _ _ h => h) (.inl ⟨by rfl, fun w2 hw2 => ?_⟩) ?_
      · exact quiet_load_row 26 (.tmp 12) rfl P12 rfl _ K0.cells (0, 0) _ (below_row hw2 (lt_row R12'.out) R12'.out) Try.underlying26 rfl (by kernel_rfl)
      simp only [Act.put, List.setIfInBounds_toArray, List.set_cons_succ, List.set_cons_zero]
      refine anyM_take (i := 21) (oi := ⟨some 136, _, _, _, _, _⟩) (v := .string SA) rfl (by kernel_rfl) (by kernel_rfl) (by kernel_rfl) (fun _ _ _ h => h) (.inl ⟨by rfl, fun w2 hw2 => ?_⟩) ?_
      · clear hw2
        go_simp
        go_at_call 11
        with_reducible refine (T5.out w2).mono ?_
        rintro e w3 ⟨rfl, hb3⟩
        exact ⟨rfl, hb3⟩
      simp only [Act.put, List.setIfInBounds_toArray, List.set_cons_succ, List.set_cons_zero]
      refine anyM_take (i := 22) (oi := ⟨some 137, _, _, _, _, _⟩) (v := .agg X.cells) rfl (by kernel_rfl) (by kernel_rfl) (by kernel_rfl) (fun _ _ _ h => h) (.inl ⟨by rfl, fun w2 hw2 => ?_⟩) ?_
      · exact quiet_load_row 26 (.tmp 5) rfl P5 rfl _ X.cells (0, 0) _ (below_row hw2 (lt_row R5'.out) R5'.out) Try.underlying26 rfl (by kernel_rfl)
      simp only [Act.put, List.setIfInBounds_toArray, List.set_cons_succ, List.set_cons_zero]
      refine anyM_take (i := 23) (oi := ⟨some 138, _, _, _, _, _⟩) (v := .string SA) rfl (by kernel_rfl) (by kernel_rfl) (by kernel_rfl) (fun _ _ _ h => h) (.inl ⟨by rfl, fun w2 hw2 => ?_⟩) ?_
      · clear hw2
        go_simp
        go_at_call 11
        with_reducible refine (T6.out w2).mono ?_
        rintro e w3 ⟨rfl, hb3⟩
        exact ⟨rfl, hb3⟩
      simp only [Act.put, List.setIfInBounds_toArray, List.set_cons_succ, List.set_cons_zero]
      refine anyM_take (i := 24) (oi := ⟨some 139, _, _, _, _, _⟩) (v := .bool true) rfl (by kernel_rfl) (by kernel_rfl) (by kernel_rfl) (fun _ _ _ h => h) (.inl ⟨by rfl, fun w2 hw2 => ?_⟩) ?_
      · clear hw2
        go_simp
      simp only [Act.put, List.setIfInBounds_toArray, List.set_cons_succ, List.set_cons_zero]
      refine anyM_take (i := 25) (oi := ⟨some 140, _, _, _, _, _⟩) (v := .bool true) rfl (by kernel_rfl) (by kernel_rfl) (by kernel_rfl) (fun _ _ _ h => h) (.inl ⟨by rfl, fun w2 hw2 => ?_⟩) ?_
      · clear hw2
        go_simp
      simp only [Act.put, List.setIfInBounds_toArray, List.set_cons_succ, List.set_cons_zero]
      refine anyM_take (i := 26) (oi := ⟨some 141, _, _, _, _, _⟩) (v := .bool true) rfl (by kernel_rfl) (by kernel_rfl) (by kernel_rfl) (fun _ _ _ h => h) (.inl ⟨by rfl, fun w2 hw2 => ?_⟩) ?_
      · clear hw2
        go_simp
      simp only [Act.put, List.setIfInBounds_toArray, List.set_cons_succ, List.set_cons_zero]
      refine anyM_take (i := 27) (oi := ⟨some 142, _, _, _, _, _⟩) (v := .string SD) rfl (by kernel_rfl) (by kernel_rfl) (by kernel_rfl) (fun _ _ _ h => h) (.inl ⟨by rfl, fun w2 hw2 => ?_⟩) ?_
      · clear hw2
        go_simp
      simp only [Act.put, List.setIfInBounds_toArray, List.set_cons_succ, List.set_cons_zero]
      refine anyM_take (i := 28) (oi := ⟨some 143, _, _, _, _, _⟩) (v := .int .u8 127) rfl (by kernel_rfl) (by kernel_rfl) (by kernel_rfl) (fun _ _ _ h => h) (.inl ⟨by rfl, fun w2 hw2 => ?_⟩) ?_
      · exact quiet_value (conv_of_run (I31.out w2))
      simp only [Act.put, List.setIfInBounds_toArray, List.set_cons_succ, List.set_cons_zero]
      refine anyM_take (i := 29) (oi := ⟨some 144, _, _, _, _, _⟩) (v := .bool true) rfl (by kernel_rfl) (by kernel_rfl) (by kernel_rfl) (fun _ _ _ h => h) (.inl ⟨by rfl, fun w2 hw2 => ?_⟩) ?_
      · clear hw2
        go_simp
      simp only [Act.put, List.setIfInBounds_toArray, List.set_cons_succ, List.set_cons_zero]
      refine anyM_take (i := 30) (oi := ⟨some 145, _, _, _, _, _⟩) (v := .bool true) rfl (by kernel_rfl) (by kernel_rfl) (by kernel_rfl) (fun _ _ _ h => h) (.inl ⟨by rfl, fun w2 hw2 => ?_⟩) ?_
      · clear hw2
        go_simp
      simp only [Act.put, List.setIfInBounds_toArray, List.set_cons_succ, List.set_cons_zero]
      refine anyM_take (i := 31) (oi := ⟨some 146, _, _, _, _, _⟩) (v := .bool true) rfl (by kernel_rfl) (by kernel_rfl) (by kernel_rfl) (fun _ _ _ h => h) (.inl ⟨by rfl, fun w2 hw2 => ?_⟩) ?_
      · clear hw2
        go_simp
      simp only [Act.put, List.setIfInBounds_toArray, List.set_cons_succ, List.set_cons_zero]
      refine anyM_take (i := 32) (oi := ⟨some 147, _, _, _, _, _⟩) (v := .int .i64 (65517 - (Kn : Int))) rfl (by kernel_rfl) (by kernel_rfl) (by kernel_rfl) (fun _ _ _ h => h) (.inl ⟨by rfl, fun w2 hw2 => ?_⟩) ?_
      · clear hw2
        go_simp
      simp only [Act.put, List.setIfInBounds_toArray, List.set_cons_succ, List.set_cons_zero]
      refine anyM_take (i := 33) (oi := ⟨some 148, _, _, _, _, _⟩) (v := .bool true) rfl (by kernel_rfl) (by kernel_rfl) (by kernel_rfl) (fun _ _ _ h => h) (.inl ⟨by rfl, fun w2 hw2 => ?_⟩) ?_
      · clear hw2
        go_simp
      simp only [Act.put, List.setIfInBounds_toArray, List.set_cons_succ, List.set_cons_zero]
      refine anyM_take (i := 34) (oi := ⟨some 149, _, _, _, _, _⟩) (v := .bool true) rfl (by kernel_rfl) (by kernel_rfl) (by kernel_rfl) (fun _ _ _ h => h) (.inl ⟨by rfl, fun w2 hw2 => ?_⟩) ?_
      · clear hw2
        go_simp
      simp only [Act.put, List.setIfInBounds_toArray, List.set_cons_succ, List.set_cons_zero]
      refine anyM_take (i := 35) (oi := ⟨some 150, _, _, _, _, _⟩) (v := undef) rfl (by kernel_rfl) (by kernel_rfl) (by kernel_rfl) (fun _ _ _ h => h) (.inr ⟨by rfl, rfl⟩) ?_
      simp only [Act.put, List.setIfInBounds_toArray, List.set_cons_succ, List.set_cons_zero]
      refine anyM_take (i := 36) (oi := ⟨some 151, _, _, _, _, _⟩) (v := undef) rfl (by kernel_rfl) (by kernel_rfl) (by kernel_rfl) (fun _ _ _ h => h) (.inr ⟨by rfl, rfl⟩) ?_
      simp only [Act.put, List.setIfInBounds_toArray, List.set_cons_succ, List.set_cons_zero]
      refine anyM_take (i := 37) (oi := ⟨some 152, _, _, _, _, _⟩) (v := undef) rfl (by kernel_rfl) (by kernel_rfl) (by kernel_rfl) (fun _ _ _ h => h) (.inr ⟨by rfl, rfl⟩) ?_
      simp only [Act.put, List.setIfInBounds_toArray, List.set_cons_succ, List.set_cons_zero]
      refine anyM_take (i := 38) (oi := ⟨some 153, _, _, _, _, _⟩) (v := undef) rfl (by kernel_rfl) (by kernel_rfl) (by kernel_rfl) (fun _ _ _ h => h) (.inr ⟨by rfl, rfl⟩) ?_
      simp only [Act.put, List.setIfInBounds_toArray, List.set_cons_succ, List.set_cons_zero]
      refine anyM_take (i := 39) (oi := ⟨some 154, _, _, _, _, _⟩) (v := undef) rfl (by kernel_rfl) (by kernel_rfl) (by kernel_rfl) (fun _ _ _ h => h) (.inr ⟨by rfl, rfl⟩) ?_
      simp only [Act.put, List.setIfInBounds_toArray, List.set_cons_succ, List.set_cons_zero]
      refine anyM_take (i := 40) (oi := ⟨some 155, _, _, _, _, _⟩) (v := undef) rfl (by kernel_rfl) (by kernel_rfl) (by kernel_rfl) (fun _ _ _ h => h) (.inr ⟨by rfl, rfl⟩) ?_
      simp only [Act.put, List.setIfInBounds_toArray, List.set_cons_succ, List.set_cons_zero]
      refine anyM_take (i := 41) (oi := ⟨some 156, _, _, _, _, _⟩) (v := undef) rfl (by kernel_rfl) (by kernel_rfl) (by kernel_rfl) (fun _ _ _ h => h) (.inr ⟨by rfl, rfl⟩) ?_
      simp only [Act.put, List.setIfInBounds_toArray, List.set_cons_succ, List.set_cons_zero]
      refine anyM_take (i := 42) (oi := ⟨some 157, _, _, _, _, _⟩) (v := undef) rfl (by kernel_rfl) (by kernel_rfl) (by kernel_rfl) (fun _ _ _ h => h) (.inr ⟨by rfl, rfl⟩) ?_
      simp only [Act.put, List.setIfInBounds_toArray, List.set_cons_succ, List.set_cons_zero]
      refine anyM_take (i := 43) (oi := ⟨some 158, _, _, _, _, _⟩) (v := undef) rfl (by kernel_rfl) (by kernel_rfl) (by kernel_rfl) (fun _ _ _ h => h) (.inr ⟨by rfl, rfl⟩) ?_
      simp only [Act.put, List.setIfInBounds_toArray, List.set_cons_succ, List.set_cons_zero]
      refine anyM_take (i := 44) (oi := ⟨some 159, _, _, _, _, _⟩) (v := undef) rfl (by kernel_rfl) (by kernel_rfl) (by kernel_rfl) (fun _ _ _ h => h) (.inr ⟨by rfl, rfl⟩) ?_
      simp only [Act.put, List.setIfInBounds_toArray, List.set_cons_succ, List.set_cons_zero]
      refine anyM_take (i := 45) (oi := ⟨some 160, _, _, _, _, _⟩) (v := undef) rfl (by kernel_rfl) (by kernel_rfl) (by kernel_rfl) (fun _ _ _ h => h) (.inr ⟨by rfl, rfl⟩) ?_
      simp only [Act.put, List.setIfInBounds_toArray, List.set_cons_succ, List.set_cons_zero]
      refine anyM_take (i := 46) (oi := ⟨some 161, _, _, _, _, _⟩) (v := undef) rfl (by kernel_rfl) (by kernel_rfl) (by kernel_rfl) (fun _ _ _ h => h) (.inr ⟨by rfl, rfl⟩) ?_
      simp only [Act.put, List.setIfInBounds_toArray, List.set_cons_succ, List.set_cons_zero]
      refine anyM_take (i := 47) (oi := ⟨some 162, _, _, _, _, _⟩) (v := undef) rfl (by kernel_rfl) (by kernel_rfl) (by kernel_rfl) (fun _ _ _ h => h) (.inr ⟨by rfl, rfl⟩) ?_
      simp only [Act.put, List.setIfInBounds_toArray, List.set_cons_succ, List.set_cons_zero]
      refine anyM_take (i := 48) (oi := ⟨some 163, _, _, _, _, _⟩) (v := undef) rfl (by kernel_rfl) (by kernel_rfl) (by kernel_rfl) (fun _ _ _ h => h) (.inr ⟨by rfl, rfl⟩) ?_
      simp only [Act.put, List.setIfInBounds_toArray, List.set_cons_succ, List.set_cons_zero]
      refine anyM_take (i := 49) (oi := ⟨some 164, _, _, _, _, _⟩) (v := undef) rfl (by kernel_rfl) (by kernel_rfl) (by kernel_rfl) (fun _ _ _ h => h) (.inr ⟨by rfl, rfl⟩) ?_
      simp only [Act.put, List.setIfInBounds_toArray, List.set_cons_succ, List.set_cons_zero]
      refine anyM_take (i := 50) (oi := ⟨some 165, _, _, _, _, _⟩) (v := undef) rfl (by kernel_rfl) (by kernel_rfl) (by kernel_rfl) (fun _ _ _ h => h) (.inr ⟨by rfl, rfl⟩) ?_
      simp only [Act.put, List.setIfInBounds_toArray, List.set_cons_succ, List.set_cons_zero]
      refine anyM_take (i := 51) (oi := ⟨some 166, _, _, _, _, _⟩) (v := undef) rfl (by kernel_rfl) (by kernel_rfl) (by kernel_rfl) (fun _ _ _ h => h) (.inr ⟨by rfl, rfl⟩) ?_
      simp only [Act.put, List.setIfInBounds_toArray, List.set_cons_succ, List.set_cons_zero]
      refine anyM_take (i := 52) (oi := ⟨some 167, _, _, _, _, _⟩) (v := undef) rfl (by kernel_rfl) (by kernel_rfl) (by kernel_rfl) (fun _ _ _ h => h) (.inr ⟨by rfl, rfl⟩) ?_
      simp only [Act.put, List.setIfInBounds_toArray, List.set_cons_succ, List.set_cons_zero]
      refine anyM_take (i := 53) (oi := ⟨some 168, _, _, _, _, _⟩) (v := .bool true) rfl (by kernel_rfl) (by kernel_rfl) (by kernel_rfl) (fun _ _ _ h => h) (.inl ⟨by rfl, fun w2 hw2 => ?_⟩) ?_
      · clear hw2
        go_simp
      simp only [Act.put, List.setIfInBounds_toArray, List.set_cons_succ, List.set_cons_zero]
      refine anyM_take (i := 54) (oi := ⟨some 169, _, _, _, _, _⟩) (v := .bool true) rfl (by kernel_rfl) (by kernel_rfl) (by kernel_rfl) (fun _ _ _ h => h) (.inl ⟨by rfl, fun w2 hw2 => ?_⟩) ?_
      · clear hw2
        go_simp
      simp only [Act.put, List.setIfInBounds_toArray, List.set_cons_succ, List.set_cons_zero]
      refine anyM_take (i := 55) (oi := ⟨some 4, _, _, _, _, _⟩) (v := .bool true) rfl (by kernel_rfl) (by kernel_rfl) (by kernel_rfl) (fun _ _ _ h => h) (.inl ⟨by rfl, fun w2 hw2 => ?_⟩) ?_
      · clear hw2
        go_simp
      simp only [Act.put, List.setIfInBounds_toArray, List.set_cons_succ, List.set_cons_zero]
      refine anyM_done (by kernel_rfl) (fun w4 hw4 => ?_)
      have hb4 := ext_below hw4 BEL.drew BEL.size
      clear hw4
      go_wp2_with fail
      go_ret
      exact ⟨rfl, hb4⟩
    · obtain ⟨Nn, hNn⟩ : ∃ Nn : Nat, 65517 - Kn = Nn := ⟨_, rfl⟩
      have hNI : (65517 : Int) - (Kn : Int) = (Nn : Int) := by omega
      have hNl : (Nn : Int) < 65536 := by omega
      have hnI : ¬ (Nn : Int) < 0 := by omega
      have e0 : ((DV / 256 ^ 0 % 256 : Nat) : Int) = (Nn : Int) % 256 := by rw [Nat.pow_zero, Nat.div_one]; omega
      have e1 : ((DV / 256 ^ 1 % 256 : Nat) : Int) = (Nn : Int) / 256 := by rw [Nat.pow_one]; omega
      have e2 : ((DV / 256 ^ 2 % 256 : Nat) : Int) = 255 := by
        have : (256 : Nat) ^ 2 = 65536 := by decide
        rw [this]
        omega
      have I0 : Hid (∀ w' : World, (Instr.index 9 (.string SD) (.int .i64 0)).run Try.prog w' = .ok (.int .u8 ((Nn : Int) % 256)) w') := Lib.hid (fun w' => by
        have h := str_index (smallF DV) 32 0 (by omega) w'
        rw [smallF_n8] at h
        rw [← HSD.out]
        exact h.trans (by rw [e0]))
      have I1 : Hid (∀ w' : World, (Instr.index 9 (.string SD) (.int .i64 1)).run Try.prog w' = .ok (.int .u8 ((Nn : Int) / 256)) w') := Lib.hid (fun w' => by
        have h := str_index (smallF DV) 32 1 (by omega) w'
        rw [smallF_n8] at h
        rw [← HSD.out]
        exact h.trans (by rw [e1]))
      have I2 : Hid (∀ w' : World, (Instr.index 9 (.string SD) (.int .i64 2)).run Try.prog w' = .ok (.int .u8 255) w') := Lib.hid (fun w' => by
        have h := str_index (smallF DV) 32 2 (by omega) w'
        rw [smallF_n8] at h
        rw [← HSD.out]
        exact h.trans (by rw [e2]))
      clear e0 e1 e2 hDN hp hKn hNn
      go_upto_region 13 with (fail)
      try simp only [hKI, hNI]
      refine region_anyM mixedOrders ?_
      refine anyM_take (i := 0) (oi := ⟨some 115, _, _, _, _, _⟩) (v := .bool true) rfl (by kernel_rfl) (by kernel_rfl) (by kernel_rfl) (fun _ _ _ h => h) (.inl ⟨by rfl, fun w2 hw2 => ?_⟩) ?_
      · clear hw2
        go_simp
        go_at_call 10
        with_reducible refine (wraps_any w2).mono ?_
        rintro e w3 ⟨rfl, hb3⟩
        exact ⟨rfl, hb3⟩
      simp only [Act.put, List.setIfInBounds_toArray, List.set_cons_succ, List.set_cons_zero]
      refine anyM_take (i := 1) (oi := ⟨some 116, _, _, _, _, _⟩) (v := .bool true) rfl (by kernel_rfl) (by kernel_rfl) (by kernel_rfl) (fun _ _ _ h => h) (.inl ⟨by rfl, fun w2 hw2 => ?_⟩) ?_
      · clear hw2
        go_simp
      simp only [Act.put, List.setIfInBounds_toArray, List.set_cons_succ, List.set_cons_zero]
      refine anyM_take (i := 2) (oi := ⟨some 117, _, _, _, _, _⟩) (v := .agg X.cells) rfl (by kernel_rfl) (by kernel_rfl) (by kernel_rfl) (fun _ _ _ h => h) (.inl ⟨by rfl, fun w2 hw2 => ?_⟩) ?_
      · exact quiet_load_row 26 (.tmp 5) rfl P5 rfl _ X.cells (0, 0) _ (below_row hw2 (lt_row R5'.out) R5'.out) Try.underlying26 rfl (by kernel_rfl)
      simp only [Act.put, List.setIfInBounds_toArray, List.set_cons_succ, List.set_cons_zero]
      refine anyM_take (i := 3) (oi := ⟨some 118, _, _, _, _, _⟩) (v := .agg Y.cells) rfl (by kernel_rfl) (by kernel_rfl) (by kernel_rfl) (fun _ _ _ h => h) (.inl ⟨by rfl, fun w2 hw2 => ?_⟩) ?_
      · exact quiet_load_row 26 (.tmp 6) rfl P6 rfl _ Y.cells (0, 0) _ (below_row hw2 (lt_row R6'.out) R6'.out) Try.underlying26 rfl (by kernel_rfl)
      simp only [Act.put, List.setIfInBounds_toArray, List.set_cons_succ, List.set_cons_zero]
      refine anyM_take (i := 4) (oi := ⟨some 119, _, _, _, _, _⟩) (v := XA.v) rfl (by kernel_rfl) (by kernel_rfl) (by kernel_rfl) (fun _ _ _ h => h) (.inl ⟨by rfl, fun w2 hw2 => ?_⟩) ?_
      · clear hw2
        go_simp
        go_at_call 12
        with_reducible refine (GA.out w2).mono ?_
        rintro e w3 ⟨rfl, hb3⟩
        exact ⟨rfl, hb3⟩
      simp only [Act.put, List.setIfInBounds_toArray, List.set_cons_succ, List.set_cons_zero]
      refine anyM_take (i := 5) (oi := ⟨some 120, _, _, _, _, _⟩) (v := .string SS) rfl (by kernel_rfl) (by kernel_rfl) (by kernel_rfl) (fun _ _ _ h => h) (.inl ⟨by rfl, fun w2 hw2 => ?_⟩) ?_
      · clear hw2
        go_simp
        go_at_call 11
        with_reducible refine (T1.out w2).mono ?_
        rintro e w3 ⟨rfl, hb3⟩
        exact ⟨rfl, hb3⟩
      simp only [Act.put, List.setIfInBounds_toArray, List.set_cons_succ, List.set_cons_zero]
      refine anyM_take (i := 6) (oi := ⟨some 121, _, _, _, _, _⟩) (v := .agg SU.cells) rfl (by kernel_rfl) (by kernel_rfl) (by kernel_rfl) (fun _ _ _ h => h) (.inl ⟨by rfl, fun w2 hw2 => ?_⟩) ?_
      · exact quiet_load_row 26 (.tmp 9) rfl P9 rfl _ SU.cells (0, 0) _ (below_row hw2 (lt_row R9'.out) R9'.out) Try.underlying26 rfl (by kernel_rfl)
      simp only [Act.put, List.setIfInBounds_toArray, List.set_cons_succ, List.set_cons_zero]
      refine anyM_take (i := 7) (oi := ⟨some 122, _, _, _, _, _⟩) (v := .string SS) rfl (by kernel_rfl) (by kernel_rfl) (by kernel_rfl) (fun _ _ _ h => h) (.inl ⟨by rfl, fun w2 hw2 => ?_⟩) ?_
      · clear hw2
        go_simp
        go_at_call 11
        with_reducible refine (T2.out w2).mono ?_
        rintro e w3 ⟨rfl, hb3⟩
        exact ⟨rfl, hb3⟩
      simp only [Act.put, List.setIfInBounds_toArray, List.set_cons_succ, List.set_cons_zero]
      refine anyM_take (i := 8) (oi := ⟨some 123, _, _, _, _, _⟩) (v := .bool true) rfl (by kernel_rfl) (by kernel_rfl) (by kernel_rfl) (fun _ _ _ h => h) (.inl ⟨by rfl, fun w2 hw2 => ?_⟩) ?_
      · clear hw2
        go_simp
      simp only [Act.put, List.setIfInBounds_toArray, List.set_cons_succ, List.set_cons_zero]
      refine anyM_take (i := 9) (oi := ⟨some 124, _, _, _, _, _⟩) (v := .bool true) rfl (by kernel_rfl) (by kernel_rfl) (by kernel_rfl) (fun _ _ _ h => h) (.inl ⟨by rfl, fun w2 hw2 => ?_⟩) ?_
      · clear hw2
        go_simp
      simp only [Act.put, List.setIfInBounds_toArray, List.set_cons_succ, List.set_cons_zero]
      refine anyM_take (i := 10) (oi := ⟨some 125, _, _, _, _, _⟩) (v := .bool true) rfl (by kernel_rfl) (by kernel_rfl) (by kernel_rfl) (fun _ _ _ h => h) (.inl ⟨by rfl, fun w2 hw2 => ?_⟩) ?_
      · clear hw2
        go_simp
      simp only [Act.put, List.setIfInBounds_toArray, List.set_cons_succ, List.set_cons_zero]
      refine anyM_take (i := 11) (oi := ⟨some 126, _, _, _, _, _⟩) (v := .agg X.cells) rfl (by kernel_rfl) (by kernel_rfl) (by kernel_rfl) (fun _ _ _ h => h) (.inl ⟨by rfl, fun w2 hw2 => ?_⟩) ?_
      · exact quiet_load_row 26 (.tmp 5) rfl P5 rfl _ X.cells (0, 0) _ (below_row hw2 (lt_row R5'.out) R5'.out) Try.underlying26 rfl (by kernel_rfl)
      simp only [Act.put, List.setIfInBounds_toArray, List.set_cons_succ, List.set_cons_zero]
      refine anyM_take (i := 12) (oi := ⟨some 127, _, _, _, _, _⟩) (v := .agg Y.cells) rfl (by kernel_rfl) (by kernel_rfl) (by kernel_rfl) (fun _ _ _ h => h) (.inl ⟨by rfl, fun w2 hw2 => ?_⟩) ?_
      · exact quiet_load_row 26 (.tmp 6) rfl P6 rfl _ Y.cells (0, 0) _ (below_row hw2 (lt_row R6'.out) R6'.out) Try.underlying26 rfl (by kernel_rfl)
      simp only [Act.put, List.setIfInBounds_toArray, List.set_cons_succ, List.set_cons_zero]
      refine anyM_take (i := 13) (oi := ⟨some 128, _, _, _, _, _⟩) (v := XM.v) rfl (by kernel_rfl) (by kernel_rfl) (by kernel_rfl) (fun _ _ _ h => h) (.inl ⟨by rfl, fun w2 hw2 => ?_⟩) ?_
      · clear hw2
        go_simp
        go_at_call 16
        with_reducible refine (GM.out w2).mono ?_
        rintro e w3 ⟨rfl, hb3⟩
        exact ⟨rfl, hb3⟩
      simp only [Act.put, List.setIfInBounds_toArray, List.set_cons_succ, List.set_cons_zero]
      refine anyM_take (i := 14) (oi := ⟨some 129, _, _, _, _, _⟩) (v := .string SM) rfl (by kernel_rfl) (by kernel_rfl) (by kernel_rfl) (fun _ _ _ h => h) (.inl ⟨by rfl, fun w2 hw2 => ?_⟩) ?_
      · clear hw2
        go_simp
        go_at_call 11
        with_reducible refine (T3.out w2).mono ?_
        rintro e w3 ⟨rfl, hb3⟩
        exact ⟨rfl, hb3⟩
      simp only [Act.put, List.setIfInBounds_toArray, List.set_cons_succ, List.set_cons_zero]
      refine anyM_take (i := 15) (oi := ⟨some 130, _, _, _, _, _⟩) (v := .agg PR.cells) rfl (by kernel_rfl) (by kernel_rfl) (by kernel_rfl) (fun _ _ _ h => h) (.inl ⟨by rfl, fun w2 hw2 => ?_⟩) ?_
      · exact quiet_load_row 26 (.tmp 10) rfl P10 rfl _ PR.cells (0, 0) _ (below_row hw2 (lt_row R10'.out) R10'.out) Try.underlying26 rfl (by kernel_rfl)
      simp only [Act.put, List.setIfInBounds_toArray, List.set_cons_succ, List.set_cons_zero]
      refine anyM_take (i := 16) (oi := ⟨some 131, _, _, _, _, _⟩) (v := .string SM) rfl (by kernel_rfl) (by kernel_rfl) (by kernel_rfl) (fun _ _ _ h => h) (.inl ⟨by rfl, fun w2 hw2 => ?_⟩) ?_
      · clear hw2
        go_simp
        go_at_call 11
        with_reducible refine (T4.out w2).mono ?_
        rintro e w3 ⟨rfl, hb3⟩
        exact ⟨rfl, hb3⟩
      simp only [Act.put, List.setIfInBounds_toArray, List.set_cons_succ, List.set_cons_zero]
      refine anyM_take (i := 17) (oi := ⟨some 132, _, _, _, _, _⟩) (v := .bool true) rfl (by kernel_rfl) (by kernel_rfl) (by kernel_rfl) (fun _ _ _ h => h) (.inl ⟨by rfl, fun w2 hw2 => ?_⟩) ?_
      · clear hw2
        go_simp
      simp only [Act.put, List.setIfInBounds_toArray, List.set_cons_succ, List.set_cons_zero]
      refine anyM_take (i := 18) (oi := ⟨some 133, _, _, _, _, _⟩) (v := .bool true) rfl (by kernel_rfl) (by kernel_rfl) (by kernel_rfl) (fun _ _ _ h => h) (.inl ⟨by rfl, fun w2 hw2 => ?_⟩) ?_
      · clear hw2
        go_simp
      simp only [Act.put, List.setIfInBounds_toArray, List.set_cons_succ, List.set_cons_zero]
      refine anyM_take (i := 19) (oi := ⟨some 134, _, _, _, _, _⟩) (v := .bool true) rfl (by kernel_rfl) (by kernel_rfl) (by kernel_rfl) (fun _ _ _ h => h) (.inl ⟨by rfl, fun w2 hw2 => ?_⟩) ?_
      · clear hw2
        go_simp
      simp only [Act.put, List.setIfInBounds_toArray, List.set_cons_succ, List.set_cons_zero]
      refine anyM_take (i := 20) (oi := ⟨some 135, _, _, _, _, _⟩) (v := .agg K0.cells) rfl (by kernel_rfl) (by kernel_rfl) (by kernel_rfl) (fun _ _ _ h => h) (.inl ⟨by rfl, fun w2 hw2 => ?_⟩) ?_
      · exact quiet_load_row 26 (.tmp 12) rfl P12 rfl _ K0.cells (0, 0) _ (below_row hw2 (lt_row R12'.out) R12'.out) Try.underlying26 rfl (by kernel_rfl)
      simp only [Act.put, List.setIfInBounds_toArray, List.set_cons_succ, List.set_cons_zero]
      refine anyM_take (i := 21) (oi := ⟨some 136, _, _, _, _, _⟩) (v := .string SA) rfl (by kernel_rfl) (by kernel_rfl) (by kernel_rfl) (fun _ _ _ h => h) (.inl ⟨by rfl, fun w2 hw2 => ?_⟩) ?_
      · clear hw2
        go_simp
        go_at_call 11
        with_reducible refine (T5.out w2).mono ?_
        rintro e w3 ⟨rfl, hb3⟩
        exact ⟨rfl, hb3⟩
      simp only [Act.put, List.setIfInBounds_toArray, List.set_cons_succ, List.set_cons_zero]
      refine anyM_take (i := 22) (oi := ⟨some 137, _, _, _, _, _⟩) (v := .agg X.cells) rfl (by kernel_rfl) (by kernel_rfl) (by kernel_rfl) (fun _ _ _ h => h) (.inl ⟨by rfl, fun w2 hw2 => ?_⟩) ?_
      · exact quiet_load_row 26 (.tmp 5) rfl P5 rfl _ X.cells (0, 0) _ (below_row hw2 (lt_row R5'.out) R5'.out) Try.underlying26 rfl (by kernel_rfl)
      simp only [Act.put, List.setIfInBounds_toArray, List.set_cons_succ, List.set_cons_zero]
      refine anyM_take (i := 23) (oi := ⟨some 138, _, _, _, _, _⟩) (v := .string SA) rfl (by kernel_rfl) (by kernel_rfl) (by kernel_rfl) (fun _ _ _ h => h) (.inl ⟨by rfl, fun w2 hw2 => ?_⟩) ?_
      · clear hw2
        go_simp
        go_at_call 11
        with_reducible refine (T6.out w2).mono ?_
        rintro e w3 ⟨rfl, hb3⟩
        exact ⟨rfl, hb3⟩
      simp only [Act.put, List.setIfInBounds_toArray, List.set_cons_succ, List.set_cons_zero]
      refine anyM_take (i := 24) (oi := ⟨some 139, _, _, _, _, _⟩) (v := .bool true) rfl (by kernel_rfl) (by kernel_rfl) (by kernel_rfl) (fun _ _ _ h => h) (.inl ⟨by rfl, fun w2 hw2 => ?_⟩) ?_
      · clear hw2
        go_simp
      simp only [Act.put, List.setIfInBounds_toArray, List.set_cons_succ, List.set_cons_zero]
      refine anyM_take (i := 25) (oi := ⟨some 140, _, _, _, _, _⟩) (v := .bool true) rfl (by kernel_rfl) (by kernel_rfl) (by kernel_rfl) (fun _ _ _ h => h) (.inl ⟨by rfl, fun w2 hw2 => ?_⟩) ?_
      · clear hw2
        go_simp
      simp only [Act.put, List.setIfInBounds_toArray, List.set_cons_succ, List.set_cons_zero]
      refine anyM_take (i := 26) (oi := ⟨some 141, _, _, _, _, _⟩) (v := .bool true) rfl (by kernel_rfl) (by kernel_rfl) (by kernel_rfl) (fun _ _ _ h => h) (.inl ⟨by rfl, fun w2 hw2 => ?_⟩) ?_
      · clear hw2
        go_simp
      simp only [Act.put, List.setIfInBounds_toArray, List.set_cons_succ, List.set_cons_zero]
      refine anyM_take (i := 27) (oi := ⟨some 142, _, _, _, _, _⟩) (v := .string SD) rfl (by kernel_rfl) (by kernel_rfl) (by kernel_rfl) (fun _ _ _ h => h) (.inl ⟨by rfl, fun w2 hw2 => ?_⟩) ?_
      · clear hw2
        go_simp
      simp only [Act.put, List.setIfInBounds_toArray, List.set_cons_succ, List.set_cons_zero]
      refine anyM_take (i := 28) (oi := ⟨some 143, _, _, _, _, _⟩) (v := .int .u8 127) rfl (by kernel_rfl) (by kernel_rfl) (by kernel_rfl) (fun _ _ _ h => h) (.inl ⟨by rfl, fun w2 hw2 => ?_⟩) ?_
      · exact quiet_value (conv_of_run (I31.out w2))
      simp only [Act.put, List.setIfInBounds_toArray, List.set_cons_succ, List.set_cons_zero]
      refine anyM_take (i := 29) (oi := ⟨some 144, _, _, _, _, _⟩) (v := .bool true) rfl (by kernel_rfl) (by kernel_rfl) (by kernel_rfl) (fun _ _ _ h => h) (.inl ⟨by rfl, fun w2 hw2 => ?_⟩) ?_
      · clear hw2
        go_simp
      simp only [Act.put, List.setIfInBounds_toArray, List.set_cons_succ, List.set_cons_zero]
      refine anyM_take (i := 30) (oi := ⟨some 145, _, _, _, _, _⟩) (v := .bool true) rfl (by kernel_rfl) (by kernel_rfl) (by kernel_rfl) (fun _ _ _ h => h) (.inl ⟨by rfl, fun w2 hw2 => ?_⟩) ?_
      · clear hw2
        go_simp
      simp only [Act.put, List.setIfInBounds_toArray, List.set_cons_succ, List.set_cons_zero]
      refine anyM_take (i := 31) (oi := ⟨some 146, _, _, _, _, _⟩) (v := .bool true) rfl (by kernel_rfl) (by kernel_rfl) (by kernel_rfl) (fun _ _ _ h => h) (.inl ⟨by rfl, fun w2 hw2 => ?_⟩) ?_
      · clear hw2
        go_simp
      simp only [Act.put, List.setIfInBounds_toArray, List.set_cons_succ, List.set_cons_zero]
      refine anyM_take (i := 32) (oi := ⟨some 147, _, _, _, _, _⟩) (v := .int .i64 (Nn : Int)) rfl (by kernel_rfl) (by kernel_rfl) (by kernel_rfl) (fun _ _ _ h => h) (.inl ⟨by rfl, fun w2 hw2 => ?_⟩) ?_
      · clear hw2
        go_simp
      simp only [Act.put, List.setIfInBounds_toArray, List.set_cons_succ, List.set_cons_zero]
      refine anyM_take (i := 33) (oi := ⟨some 148, _, _, _, _, _⟩) (v := .bool false) rfl (by kernel_rfl) (by kernel_rfl) (by kernel_rfl) (fun _ _ _ h => h) (.inl ⟨by rfl, fun w2 hw2 => ?_⟩) ?_
      · clear hw2
        go_simp
      simp only [Act.put, List.setIfInBounds_toArray, List.set_cons_succ, List.set_cons_zero]
      refine anyM_take (i := 34) (oi := ⟨some 149, _, _, _, _, _⟩) (v := .bool false) rfl (by kernel_rfl) (by kernel_rfl) (by kernel_rfl) (fun _ _ _ h => h) (.inl ⟨by rfl, fun w2 hw2 => ?_⟩) ?_
      · clear hw2
        go_simp
      simp only [Act.put, List.setIfInBounds_toArray, List.set_cons_succ, List.set_cons_zero]
      refine anyM_take (i := 35) (oi := ⟨some 150, _, _, _, _, _⟩) (v := .string SD) rfl (by kernel_rfl) (by kernel_rfl) (by kernel_rfl) (fun _ _ _ h => h) (.inl ⟨by rfl, fun w2 hw2 => ?_⟩) ?_
      · clear hw2
        go_simp
      simp only [Act.put, List.setIfInBounds_toArray, List.set_cons_succ, List.set_cons_zero]
      refine anyM_take (i := 36) (oi := ⟨some 151, _, _, _, _, _⟩) (v := .int .u8 ((Nn : Int) % 256)) rfl (by kernel_rfl) (by kernel_rfl) (by kernel_rfl) (fun _ _ _ h => h) (.inl ⟨by rfl, fun w2 hw2 => ?_⟩) ?_
      · exact quiet_value (conv_of_run (I0.out w2))
      simp only [Act.put, List.setIfInBounds_toArray, List.set_cons_succ, List.set_cons_zero]
      refine anyM_take (i := 37) (oi := ⟨some 152, _, _, _, _, _⟩) (v := .int .i64 (Nn : Int)) rfl (by kernel_rfl) (by kernel_rfl) (by kernel_rfl) (fun _ _ _ h => h) (.inl ⟨by rfl, fun w2 hw2 => ?_⟩) ?_
      · clear hw2
        go_simp
      simp only [Act.put, List.setIfInBounds_toArray, List.set_cons_succ, List.set_cons_zero]
      refine anyM_take (i := 38) (oi := ⟨some 153, _, _, _, _, _⟩) (v := .int .u8 ((Nn : Int) % 256)) rfl (by kernel_rfl) (by kernel_rfl) (by kernel_rfl) (fun _ _ _ h => h) (.inl ⟨by rfl, fun w2 hw2 => ?_⟩) ?_
      · clear hw2
        go_simp
        try exact wrap8 _
      simp only [Act.put, List.setIfInBounds_toArray, List.set_cons_succ, List.set_cons_zero]
      refine anyM_take (i := 39) (oi := ⟨some 154, _, _, _, _, _⟩) (v := .bool true) rfl (by kernel_rfl) (by kernel_rfl) (by kernel_rfl) (fun _ _ _ h => h) (.inl ⟨by rfl, fun w2 hw2 => ?_⟩) ?_
      · clear hw2
        go_simp
      simp only [Act.put, List.setIfInBounds_toArray, List.set_cons_succ, List.set_cons_zero]
      refine anyM_take (i := 40) (oi := ⟨some 155, _, _, _, _, _⟩) (v := .bool true) rfl (by kernel_rfl) (by kernel_rfl) (by kernel_rfl) (fun _ _ _ h => h) (.inl ⟨by rfl, fun w2 hw2 => ?_⟩) ?_
      · clear hw2
        go_simp
      simp only [Act.put, List.setIfInBounds_toArray, List.set_cons_succ, List.set_cons_zero]
      refine anyM_take (i := 41) (oi := ⟨some 156, _, _, _, _, _⟩) (v := .string SD) rfl (by kernel_rfl) (by kernel_rfl) (by kernel_rfl) (fun _ _ _ h => h) (.inl ⟨by rfl, fun w2 hw2 => ?_⟩) ?_
      · clear hw2
        go_simp
      simp only [Act.put, List.setIfInBounds_toArray, List.set_cons_succ, List.set_cons_zero]
      refine anyM_take (i := 42) (oi := ⟨some 157, _, _, _, _, _⟩) (v := .int .u8 ((Nn : Int) / 256)) rfl (by kernel_rfl) (by kernel_rfl) (by kernel_rfl) (fun _ _ _ h => h) (.inl ⟨by rfl, fun w2 hw2 => ?_⟩) ?_
      · exact quiet_value (conv_of_run (I1.out w2))
      simp only [Act.put, List.setIfInBounds_toArray, List.set_cons_succ, List.set_cons_zero]
      refine anyM_take (i := 43) (oi := ⟨some 158, _, _, _, _, _⟩) (v := .int .i64 (Nn : Int)) rfl (by kernel_rfl) (by kernel_rfl) (by kernel_rfl) (fun _ _ _ h => h) (.inl ⟨by rfl, fun w2 hw2 => ?_⟩) ?_
      · clear hw2
        go_simp
      simp only [Act.put, List.setIfInBounds_toArray, List.set_cons_succ, List.set_cons_zero]
      refine anyM_take (i := 44) (oi := ⟨some 159, _, _, _, _, _⟩) (v := .int .i64 ((Nn : Int) / 256)) rfl (by kernel_rfl) (by kernel_rfl) (by kernel_rfl) (fun _ _ _ h => h) (.inl ⟨by rfl, fun w2 hw2 => ?_⟩) ?_
      · clear hw2
        go_simp
      simp only [Act.put, List.setIfInBounds_toArray, List.set_cons_succ, List.set_cons_zero]
      refine anyM_take (i := 45) (oi := ⟨some 160, _, _, _, _, _⟩) (v := .int .u8 ((Nn : Int) / 256)) rfl (by kernel_rfl) (by kernel_rfl) (by kernel_rfl) (fun _ _ _ h => h) (.inl ⟨by rfl, fun w2 hw2 => ?_⟩) ?_
      · clear hw2
        go_simp
        try (rw [wrap8]; omega)
      simp only [Act.put, List.setIfInBounds_toArray, List.set_cons_succ, List.set_cons_zero]
      refine anyM_take (i := 46) (oi := ⟨some 161, _, _, _, _, _⟩) (v := .bool true) rfl (by kernel_rfl) (by kernel_rfl) (by kernel_rfl) (fun _ _ _ h => h) (.inl ⟨by rfl, fun w2 hw2 => ?_⟩) ?_
      · clear hw2
        go_simp
      simp only [Act.put, List.setIfInBounds_toArray, List.set_cons_succ, List.set_cons_zero]
      refine anyM_take (i := 47) (oi := ⟨some 162, _, _, _, _, _⟩) (v := .bool true) rfl (by kernel_rfl) (by kernel_rfl) (by kernel_rfl) (fun _ _ _ h => h) (.inl ⟨by rfl, fun w2 hw2 => ?_⟩) ?_
      · clear hw2
        go_simp
      simp only [Act.put, List.setIfInBounds_toArray, List.set_cons_succ, List.set_cons_zero]
      refine anyM_take (i := 48) (oi := ⟨some 163, _, _, _, _, _⟩) (v := .bool true) rfl (by kernel_rfl) (by kernel_rfl) (by kernel_rfl) (fun _ _ _ h => h) (.inl ⟨by rfl, fun w2 hw2 => ?_⟩) ?_
      · clear hw2
        go_simp
      simp only [Act.put, List.setIfInBounds_toArray, List.set_cons_succ, List.set_cons_zero]
      refine anyM_take (i := 49) (oi := ⟨some 164, _, _, _, _, _⟩) (v := .string SD) rfl (by kernel_rfl) (by kernel_rfl) (by kernel_rfl) (fun _ _ _ h => h) (.inl ⟨by rfl, fun w2 hw2 => ?_⟩) ?_
      · clear hw2
        go_simp
      simp only [Act.put, List.setIfInBounds_toArray, List.set_cons_succ, List.set_cons_zero]
      refine anyM_take (i := 50) (oi := ⟨some 165, _, _, _, _, _⟩) (v := .int .u8 255) rfl (by kernel_rfl) (by kernel_rfl) (by kernel_rfl) (fun _ _ _ h => h) (.inl ⟨by rfl, fun w2 hw2 => ?_⟩) ?_
      · exact quiet_value (conv_of_run (I2.out w2))
      simp only [Act.put, List.setIfInBounds_toArray, List.set_cons_succ, List.set_cons_zero]
      refine anyM_take (i := 51) (oi := ⟨some 166, _, _, _, _, _⟩) (v := .bool true) rfl (by kernel_rfl) (by kernel_rfl) (by kernel_rfl) (fun _ _ _ h => h) (.inl ⟨by rfl, fun w2 hw2 => ?_⟩) ?_
      · clear hw2
        go_simp
      simp only [Act.put, List.setIfInBounds_toArray, List.set_cons_succ, List.set_cons_zero]
      refine anyM_take (i := 52) (oi := ⟨some 167, _, _, _, _, _⟩) (v := .bool true) rfl (by kernel_rfl) (by kernel_rfl) (by kernel_rfl) (fun _ _ _ h => h) (.inl ⟨by rfl, fun w2 hw2 => ?_⟩) ?_
      · clear hw2
        go_simp
      simp only [Act.put, List.setIfInBounds_toArray, List.set_cons_succ, List.set_cons_zero]
      refine anyM_take (i := 53) (oi := ⟨some 168, _, _, _, _, _⟩) (v := .bool true) rfl (by kernel_rfl) (by kernel_rfl) (by kernel_rfl) (fun _ _ _ h => h) (.inl ⟨by rfl, fun w2 hw2 => ?_⟩) ?_
      · clear hw2
        go_simp
      simp only [Act.put, List.setIfInBounds_toArray, List.set_cons_succ, List.set_cons_zero]
      refine anyM_take (i := 54) (oi := ⟨some 169, _, _, _, _, _⟩) (v := .bool true) rfl (by kernel_rfl) (by kernel_rfl) (by kernel_rfl) (fun _ _ _ h => h) (.inl ⟨by rfl, fun w2 hw2 => ?_⟩) ?_
      · clear hw2
        go_simp
      simp only [Act.put, List.setIfInBounds_toArray, List.set_cons_succ, List.set_cons_zero]
      refine anyM_take (i := 55) (oi := ⟨some 4, _, _, _, _, _⟩) (v := .bool true) rfl (by kernel_rfl) (by kernel_rfl) (by kernel_rfl) (fun _ _ _ h => h) (.inl ⟨by rfl, fun w2 hw2 => ?_⟩) ?_
      · clear hw2
        go_simp
      simp only [Act.put, List.setIfInBounds_toArray, List.set_cons_succ, List.set_cons_zero]
      refine anyM_done (by kernel_rfl) (fun w4 hw4 => ?_)
      have hb4 := ext_below hw4 BEL.drew BEL.size
      clear hw4
      go_wp2_with fail
      go_ret
      exact ⟨rfl, hb4⟩
theorem walk {H : Type} {enc : TypeId × Value → H} (w : World) (base : Nat) (v0 v1 : Value) (d0 d1 : DataW H) (p0 p1 : List MemPlace)
    (k0 : Value.okWide Try.prog w .any base 44 v0) (k1 : Value.okWide Try.prog w .any base 44 v1)
    (h0 : DataW.Trod enc Try.prog w 0 (fun _ => true) true 44 v0 d0 p0) (h1 : DataW.Trod enc Try.prog w 0 (fun _ => true) true 44 v1 d1 p1) :
    Calls Try.prog 7 #[v0, v1] w fun e w' => e = .returned (.bool true) ∧ Below w.heap.size w w' := by
  obtain ⟨a, rfl, _, _, ha⟩ := open_int Try.underlying44 k0 h0
  obtain ⟨b, rfl, _, _, hb⟩ := open_int Try.underlying44 k1 h1
  have ha' : 0 ≤ a ∧ a ≤ 65535 := by simpa [Lit.wf, IntKind.min, IntKind.max, IntKind.signed, IntKind.bits] using ha
  have hb' : 0 ≤ b ∧ b ≤ 65535 := by simpa [Lit.wf, IntKind.min, IntKind.max, IntKind.signed, IntKind.bits] using hb
  obtain ⟨A, rfl⟩ : ∃ A : Nat, a = A := ⟨a.toNat, by omega⟩
  obtain ⟨B, rfl⟩ : ∃ B : Nat, b = B := ⟨b.toNat, by omega⟩
  exact law_any A B (by omega) (by omega) w
set_option maxRecDepth 100000 in
theorem lifted (os : Os) (started : os.Started) (H : Type) (enc : TypeId × Value → H) :
    ReturnsInHanded {} Try.checked os 7 .any (Rows.fieldSmallSpec.pre6 enc Try.prog Try.f7 Rows.fieldSmallRow.domain false) (Rows.fieldSmallSpec.post enc Try.prog Try.f7 false true false false) := by
  refine returnsInHanded_of_change (C := Try.checked) own started (by kernel_rfl) Try.func7
    (ChangeSpec.witness6 (enc := enc) (C := Try.checked) false ⟨#[], #[.int .u16 0, .int .u16 0], []⟩ 8 (by kernel_rfl) (by kernel_rfl) (by kernel_rfl) (by kernel_rfl)) ?_
  intro W base args ds gs before hval0 hW hcnd _
  have hval : ∀ (j : Nat) t v, Try.f7.params[j]? = some t → args[j]? = some v → Value.okWide Try.prog W .any base t v := hval0
  have hW' := hW
  obtain ⟨p, q, hA0, hV, rfl, hfz, hnd⟩ := hW
  have hA : DataW.TrodAll enc Try.prog W 0 (fun _ => true) true Try.f7.params.toList args.toList ds p := hA0
  rw [Try.params7] at hA hval
  obtain ⟨v0, vs0, d0, ds0, p0, q0, hargs, rfl, rfl, h0, r0⟩ := trodAll_cons hA
  obtain ⟨v1, vs1, d1, ds1, p1, q1, rfl, rfl, rfl, h1, r1⟩ := trodAll_cons r0
  obtain ⟨rfl, rfl, rfl⟩ := trodAll_nil r1
  obtain rfl : args = #[v0, v1] := by cases args; simp_all
  obtain ⟨rfl, rfl⟩ := trodVars_none hV
  have k0 := h0
  have lt0 : ∀ x ∈ p0, x.block < W.heap.size := by obtain ⟨m, hm⟩ := k0; exact DataW.trod_lt m _ _ _ hm
  have k1 := h1
  have lt1 : ∀ x ∈ p1, x.block < W.heap.size := by obtain ⟨m, hm⟩ := k1; exact DataW.trod_lt m _ _ _ hm
  clear hA0 hval0
  refine (walk W base v0 v1 d0 d1 p0 p1 (hval 0 44 v0 rfl rfl) (hval 1 44 v1 rfl rfl) k0 k1).mono fun e W' ⟨he, bel⟩ => ?_
  subst he
  exact ⟨_, rfl, _, _, _, [], _, [], hW', trodAll_mk1 (shut_bool Try.underlying4 _), (trodAll_cons_mk (Below.trod laidOut (by kernel_rfl) (of_decide_eq_true (by kernel_rfl)) k0 bel lt0) (trodAll_cons_mk (Below.trod laidOut (by kernel_rfl) (of_decide_eq_true (by kernel_rfl)) k1 bel lt1) trodAll_mk0)), rfl, bel.frame _, fun h => by cases h⟩
theorem over : Rows.fieldSmallRow.holds Try.pinned (OpenSpec.ofChange Rows.fieldSmallSpec) :=
  OpenClaim.holds_of_wide 7 Try.f7 rfl rfl rfl rfl rfl rfl rfl ⟨rfl, rfl, rfl, rfl, rfl⟩ rfl rfl rfl rfl rfl (by kernel_rfl) Try.func7 (by kernel_rfl)
    (of_decide_eq_true (by kernel_rfl)) (by unfold Func.isWrapper; first | (rw [if_pos (by decide +kernel)]; kernel_rfl) | (rw [if_neg (by decide +kernel)]; exact ⟨rfl, rfl⟩))
    (fun os started H enc _ => lifted os started H enc)
theorem proved : Rows.FieldSmallSaid := over
end Go.Proofs.Ytjaneododongeaa.fieldSmall
