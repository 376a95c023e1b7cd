/-
  guard: the law's guards.
-/
import Derived.Test.YtebhhonmpoeliaaDoorGuardD
namespace Go.Proofs.YtebhhonmpoeliaaDoor
open Go Go.RowKit Go.BigFrame
set_option linter.unusedSimpArgs false
set_option linter.unusedVariables false
set_option maxRecDepth 100000
theorem guards_any (w : World) (T : TabK w) : Calls Tryd.prog 4 #[] w fun e w' => e = .returned (.bool true) ∧ Below w.heap.size w w' := by
  have F1 := first_ok (tb gdataA) 8 (by omega) w T
  rw [gdA_str] at F1
  have ecli : lblB (comB (tb gdataA) 8) 32 32 9 (tb qcin) = cliF := rfl
  rw [ecli] at F1
  have OF := Lib.hid (fun (w' : World) (hb : Below w.heap.size w w') => of_ok cliF w' (T.later hb))
  have k0 := key_0
  have k15 := key_15
  obtain ⟨KF, hKF⟩ : ∃ KF, lblB cliF 32 16 8 (tb qkey) = KF := ⟨_, rfl⟩
  have ek : keysC cliF = #[.string (strOf (lblB cliF 32 16 8 (tb qkey)) 16), .string (strOf (lblB cliF 32 12 7 (tb qiv)) 12), .string (strOf (lblB cliF 32 16 7 (tb qhp)) 16)] := rfl
  rw [ek] at OF
  rw [hKF] at OF k0 k15
  have i0 := Lib.hid (fun w' => (show (Instr.index 9 (.string (strOf KF 16)) (.int .i64 0)).run Tryd.prog w' = .ok (.int .u8 31) w' from by
    have h := strOf_at KF 16 0 (by omega) w'
    rw [k0, show n8 31#8 = 31 by unfold n8; rfl] at h
    exact h))
  have i15 := Lib.hid (fun w' => (show (Instr.index 9 (.string (strOf KF 16)) (.int .i64 15)).run Tryd.prog w' = .ok (.int .u8 45) w' from by
    have h := strOf_at KF 16 15 (by omega) w'
    rw [k15, show n8 45#8 = 45 by unfold n8; rfl] at h
    exact h))
  have zk := strOf_size KF 16
  have L := Lib.hid F1
  clear F1 ecli ek k0 k15 hKF T
  generalize strOf KF 16 = KS at *
  generalize strOf (lblB cliF 32 12 7 (tb qiv)) 12 = R2 at *
  generalize strOf (lblB cliF 32 16 7 (tb qhp)) 16 = R3 at *
  generalize strOf (lblB (comB (tb gdataA) 8) 32 32 9 (tb qsin)) 32 = R4 at *
  generalize strOf cliF 32 = SC at *
  go_enter Tryd.func4, Tryd.ntmps4
  go_wp2_with fail
  with_reducible refine L.out.mono ?_
  rintro e w1 ⟨rfl, hb1⟩
  have B1 := Lib.hid hb1
  clear hb1 L
  go_wp2_with fail
  with_reducible refine (OF.out w1 B1.out).mono ?_
  rintro e w2 ⟨rfl, hb2⟩
  have B2 := Lib.hid (B1.out.trans (hb2.mono B1.out.size))
  clear hb2 OF
  have hal : Below w2.heap.size w2 (w2.alloc (.cells #[.string KS, .string R2, .string R3] 28)) := (Below.refl _ _).alloc (Nat.le_refl _) _
  have hal2 : (w2.alloc (.cells #[.string KS, .string R2, .string R3] 28)).heap[w2.heap.size]? = some (.cells #[.string KS, .string R2, .string R3] 28 (0, 0)) := heap_alloc_last _ _
  go_upto_region 3 with (refine wpList_store_new (o := ⟨none, .store 28 (.tmp 4) (.tmp 14), _, _, _, _⟩) rfl 28 _ _ rfl noKeys #[.string KS, .string R2, .string R3] _ rfl rfl rfl (by kernel_rfl) rfl (by kernel_rfl) ?_)
  have B3 := Lib.hid (B2.out.trans (hal.mono B2.out.size))
  obtain ⟨w3, hw3⟩ : ∃ w3, w2.alloc (.cells #[.string KS, .string R2, .string R3] 28) = w3 := ⟨_, rfl⟩
  rw [hw3] at hal2 B3
  simp only [hw3]
  generalize w2.heap.size = q at *
  have c0 : w3.cell? ⟨q, 0, none⟩ = some (.string KS) := by rw [cell_of_row _ _ _ _ _ _ hal2]; rfl
  clear hal hal2 hw3
  have x0 := i0.out w3
  have x15 := i15.out w3
  go_wp2_with fail
  go_ret
  exact ⟨rfl, B3.out⟩
end Go.Proofs.YtebhhonmpoeliaaDoor
