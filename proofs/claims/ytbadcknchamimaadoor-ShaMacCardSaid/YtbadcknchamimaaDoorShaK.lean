/-
  sha: THE SUM OF "abc", reckoned step by step.
-/
import Derived.Test.YtbadcknchamimaaDoorShaH
namespace Go.Proofs.YtbadcknchamimaaDoor
open Go Go.RowKit
set_option maxRecDepth 100000
def abcF (i : Nat) : BitVec 8 := if i = 0 then 97#8 else if i = 1 then 98#8 else 99#8
def abcP : Nat → BitVec 8 := padded abcF 3
theorem sch_0 : schedW abcP 0 = 1633837952#32 := by rw [schedW_low abcP (by omega)]; kernel_rfl
theorem sch_1 : schedW abcP 1 = 0#32 := by rw [schedW_low abcP (by omega)]; kernel_rfl
theorem sch_2 : schedW abcP 2 = 0#32 := by rw [schedW_low abcP (by omega)]; kernel_rfl
theorem sch_3 : schedW abcP 3 = 0#32 := by rw [schedW_low abcP (by omega)]; kernel_rfl
theorem sch_4 : schedW abcP 4 = 0#32 := by rw [schedW_low abcP (by omega)]; kernel_rfl
theorem sch_5 : schedW abcP 5 = 0#32 := by rw [schedW_low abcP (by omega)]; kernel_rfl
theorem sch_6 : schedW abcP 6 = 0#32 := by rw [schedW_low abcP (by omega)]; kernel_rfl
theorem sch_7 : schedW abcP 7 = 0#32 := by rw [schedW_low abcP (by omega)]; kernel_rfl
theorem sch_8 : schedW abcP 8 = 0#32 := by rw [schedW_low abcP (by omega)]; kernel_rfl
theorem sch_9 : schedW abcP 9 = 0#32 := by rw [schedW_low abcP (by omega)]; kernel_rfl
theorem sch_10 : schedW abcP 10 = 0#32 := by rw [schedW_low abcP (by omega)]; kernel_rfl
theorem sch_11 : schedW abcP 11 = 0#32 := by rw [schedW_low abcP (by omega)]; kernel_rfl
theorem sch_12 : schedW abcP 12 = 0#32 := by rw [schedW_low abcP (by omega)]; kernel_rfl
theorem sch_13 : schedW abcP 13 = 0#32 := by rw [schedW_low abcP (by omega)]; kernel_rfl
theorem sch_14 : schedW abcP 14 = 0#32 := by rw [schedW_low abcP (by omega)]; kernel_rfl
theorem sch_15 : schedW abcP 15 = 24#32 := by rw [schedW_low abcP (by omega)]; kernel_rfl
theorem sch_16 : schedW abcP 16 = 1633837952#32 := by
  rw [schedW_high abcP (by omega)]
  show sig1 (schedW abcP 14) + schedW abcP 9 + sig0 (schedW abcP 1) + schedW abcP 0 = _
  rw [sch_14, sch_9, sch_1, sch_0]; kernel_rfl
theorem sch_17 : schedW abcP 17 = 983040#32 := by
  rw [schedW_high abcP (by omega)]
  show sig1 (schedW abcP 15) + schedW abcP 10 + sig0 (schedW abcP 2) + schedW abcP 1 = _
  rw [sch_15, sch_10, sch_2, sch_1]; kernel_rfl
theorem sch_18 : schedW abcP 18 = 2108187653#32 := by
  rw [schedW_high abcP (by omega)]
  show sig1 (schedW abcP 16) + schedW abcP 11 + sig0 (schedW abcP 3) + schedW abcP 2 = _
  rw [sch_16, sch_11, sch_3, sch_2]; kernel_rfl
theorem sch_19 : schedW abcP 19 = 1610613702#32 := by
  rw [schedW_high abcP (by omega)]
  show sig1 (schedW abcP 17) + schedW abcP 12 + sig0 (schedW abcP 4) + schedW abcP 3 = _
  rw [sch_17, sch_12, sch_4, sch_3]; kernel_rfl
theorem sch_20 : schedW abcP 20 = 1050508152#32 := by
  rw [schedW_high abcP (by omega)]
  show sig1 (schedW abcP 18) + schedW abcP 13 + sig0 (schedW abcP 5) + schedW abcP 4 = _
  rw [sch_18, sch_13, sch_5, sch_4]; kernel_rfl
theorem sch_21 : schedW abcP 21 = 25426944#32 := by
  rw [schedW_high abcP (by omega)]
  show sig1 (schedW abcP 19) + schedW abcP 14 + sig0 (schedW abcP 6) + schedW abcP 5 = _
  rw [sch_19, sch_14, sch_6, sch_5]; kernel_rfl
theorem sch_22 : schedW abcP 22 = 316456923#32 := by
  rw [schedW_high abcP (by omega)]
  show sig1 (schedW abcP 20) + schedW abcP 15 + sig0 (schedW abcP 7) + schedW abcP 6 = _
  rw [sch_20, sch_15, sch_7, sch_6]; kernel_rfl
theorem sch_23 : schedW abcP 23 = 3806512014#32 := by
  rw [schedW_high abcP (by omega)]
  show sig1 (schedW abcP 21) + schedW abcP 16 + sig0 (schedW abcP 8) + schedW abcP 7 = _
  rw [sch_21, sch_16, sch_8, sch_7]; kernel_rfl
theorem sch_24 : schedW abcP 24 = 3357629466#32 := by
  rw [schedW_high abcP (by omega)]
  show sig1 (schedW abcP 22) + schedW abcP 17 + sig0 (schedW abcP 9) + schedW abcP 8 = _
  rw [sch_22, sch_17, sch_9, sch_8]; kernel_rfl
theorem sch_25 : schedW abcP 25 = 3073800610#32 := by
  rw [schedW_high abcP (by omega)]
  show sig1 (schedW abcP 23) + schedW abcP 18 + sig0 (schedW abcP 10) + schedW abcP 9 = _
  rw [sch_23, sch_18, sch_10, sch_9]; kernel_rfl
theorem sch_26 : schedW abcP 26 = 3854317833#32 := by
  rw [schedW_high abcP (by omega)]
  show sig1 (schedW abcP 24) + schedW abcP 19 + sig0 (schedW abcP 11) + schedW abcP 10 = _
  rw [sch_24, sch_19, sch_11, sch_10]; kernel_rfl
theorem sch_27 : schedW abcP 27 = 845560923#32 := by
  rw [schedW_high abcP (by omega)]
  show sig1 (schedW abcP 25) + schedW abcP 20 + sig0 (schedW abcP 12) + schedW abcP 11 = _
  rw [sch_25, sch_20, sch_12, sch_11]; kernel_rfl
theorem sch_28 : schedW abcP 28 = 2636160359#32 := by
  rw [schedW_high abcP (by omega)]
  show sig1 (schedW abcP 26) + schedW abcP 21 + sig0 (schedW abcP 13) + schedW abcP 12 = _
  rw [sch_26, sch_21, sch_13, sch_12]; kernel_rfl
theorem sch_29 : schedW abcP 29 = 3968280267#32 := by
  rw [schedW_high abcP (by omega)]
  show sig1 (schedW abcP 27) + schedW abcP 22 + sig0 (schedW abcP 14) + schedW abcP 13 = _
  rw [sch_27, sch_22, sch_14, sch_13]; kernel_rfl
theorem sch_30 : schedW abcP 30 = 1881225380#32 := by
  rw [schedW_high abcP (by omega)]
  show sig1 (schedW abcP 28) + schedW abcP 23 + sig0 (schedW abcP 15) + schedW abcP 14 = _
  rw [sch_28, sch_23, sch_15, sch_14]; kernel_rfl
theorem sch_31 : schedW abcP 31 = 3552024379#32 := by
  rw [schedW_high abcP (by omega)]
  show sig1 (schedW abcP 29) + schedW abcP 24 + sig0 (schedW abcP 16) + schedW abcP 15 = _
  rw [sch_29, sch_24, sch_16, sch_15]; kernel_rfl
theorem sch_32 : schedW abcP 32 = 2482346367#32 := by
  rw [schedW_high abcP (by omega)]
  show sig1 (schedW abcP 30) + schedW abcP 25 + sig0 (schedW abcP 17) + schedW abcP 16 = _
  rw [sch_30, sch_25, sch_17, sch_16]; kernel_rfl
theorem sch_33 : schedW abcP 33 = 996719219#32 := by
  rw [schedW_high abcP (by omega)]
  show sig1 (schedW abcP 31) + schedW abcP 26 + sig0 (schedW abcP 18) + schedW abcP 17 = _
  rw [sch_31, sch_26, sch_18, sch_17]; kernel_rfl
theorem sch_34 : schedW abcP 34 = 2952069057#32 := by
  rw [schedW_high abcP (by omega)]
  show sig1 (schedW abcP 32) + schedW abcP 27 + sig0 (schedW abcP 19) + schedW abcP 18 = _
  rw [sch_32, sch_27, sch_19, sch_18]; kernel_rfl
theorem sch_35 : schedW abcP 35 = 4043988066#32 := by
  rw [schedW_high abcP (by omega)]
  show sig1 (schedW abcP 33) + schedW abcP 28 + sig0 (schedW abcP 20) + schedW abcP 19 = _
  rw [sch_33, sch_28, sch_20, sch_19]; kernel_rfl
theorem sch_36 : schedW abcP 36 = 176896406#32 := by
  rw [schedW_high abcP (by omega)]
  show sig1 (schedW abcP 34) + schedW abcP 29 + sig0 (schedW abcP 21) + schedW abcP 20 = _
  rw [sch_34, sch_29, sch_21, sch_20]; kernel_rfl
theorem sch_37 : schedW abcP 37 = 1924104970#32 := by
  rw [schedW_high abcP (by omega)]
  show sig1 (schedW abcP 35) + schedW abcP 30 + sig0 (schedW abcP 22) + schedW abcP 21 = _
  rw [sch_35, sch_30, sch_22, sch_21]; kernel_rfl
theorem sch_38 : schedW abcP 38 = 2483675966#32 := by
  rw [schedW_high abcP (by omega)]
  show sig1 (schedW abcP 36) + schedW abcP 31 + sig0 (schedW abcP 23) + schedW abcP 22 = _
  rw [sch_36, sch_31, sch_23, sch_22]; kernel_rfl
theorem sch_39 : schedW abcP 39 = 610538786#32 := by
  rw [schedW_high abcP (by omega)]
  show sig1 (schedW abcP 37) + schedW abcP 32 + sig0 (schedW abcP 24) + schedW abcP 23 = _
  rw [sch_37, sch_32, sch_24, sch_23]; kernel_rfl
theorem sch_40 : schedW abcP 40 = 2672279444#32 := by
  rw [schedW_high abcP (by omega)]
  show sig1 (schedW abcP 38) + schedW abcP 33 + sig0 (schedW abcP 25) + schedW abcP 24 = _
  rw [sch_38, sch_33, sch_25, sch_24]; kernel_rfl
theorem sch_41 : schedW abcP 41 = 4037431130#32 := by
  rw [schedW_high abcP (by omega)]
  show sig1 (schedW abcP 39) + schedW abcP 34 + sig0 (schedW abcP 26) + schedW abcP 25 = _
  rw [sch_39, sch_34, sch_26, sch_25]; kernel_rfl
theorem sch_42 : schedW abcP 42 = 1042573945#32 := by
  rw [schedW_high abcP (by omega)]
  show sig1 (schedW abcP 40) + schedW abcP 35 + sig0 (schedW abcP 27) + schedW abcP 26 = _
  rw [sch_40, sch_35, sch_27, sch_26]; kernel_rfl
theorem sch_43 : schedW abcP 43 = 657669027#32 := by
  rw [schedW_high abcP (by omega)]
  show sig1 (schedW abcP 41) + schedW abcP 36 + sig0 (schedW abcP 28) + schedW abcP 27 = _
  rw [sch_41, sch_36, sch_28, sch_27]; kernel_rfl
theorem sch_44 : schedW abcP 44 = 206005234#32 := by
  rw [schedW_high abcP (by omega)]
  show sig1 (schedW abcP 42) + schedW abcP 37 + sig0 (schedW abcP 29) + schedW abcP 28 = _
  rw [sch_42, sch_37, sch_29, sch_28]; kernel_rfl
theorem sch_45 : schedW abcP 45 = 2215296807#32 := by
  rw [schedW_high abcP (by omega)]
  show sig1 (schedW abcP 43) + schedW abcP 38 + sig0 (schedW abcP 30) + schedW abcP 29 = _
  rw [sch_43, sch_38, sch_30, sch_29]; kernel_rfl
theorem sch_46 : schedW abcP 46 = 2049510749#32 := by
  rw [schedW_high abcP (by omega)]
  show sig1 (schedW abcP 44) + schedW abcP 39 + sig0 (schedW abcP 31) + schedW abcP 30 = _
  rw [sch_44, sch_39, sch_31, sch_30]; kernel_rfl
theorem sch_47 : schedW abcP 47 = 106709978#32 := by
  rw [schedW_high abcP (by omega)]
  show sig1 (schedW abcP 45) + schedW abcP 40 + sig0 (schedW abcP 32) + schedW abcP 31 = _
  rw [sch_45, sch_40, sch_32, sch_31]; kernel_rfl
theorem sch_48 : schedW abcP 48 = 4215179723#32 := by
  rw [schedW_high abcP (by omega)]
  show sig1 (schedW abcP 46) + schedW abcP 41 + sig0 (schedW abcP 33) + schedW abcP 32 = _
  rw [sch_46, sch_41, sch_33, sch_32]; kernel_rfl
theorem sch_49 : schedW abcP 49 = 3430291419#32 := by
  rw [schedW_high abcP (by omega)]
  show sig1 (schedW abcP 47) + schedW abcP 42 + sig0 (schedW abcP 34) + schedW abcP 33 = _
  rw [sch_47, sch_42, sch_34, sch_33]; kernel_rfl
theorem sch_50 : schedW abcP 50 = 3118885940#32 := by
  rw [schedW_high abcP (by omega)]
  show sig1 (schedW abcP 48) + schedW abcP 43 + sig0 (schedW abcP 35) + schedW abcP 34 = _
  rw [sch_48, sch_43, sch_35, sch_34]; kernel_rfl
theorem sch_51 : schedW abcP 51 = 2845390439#32 := by
  rw [schedW_high abcP (by omega)]
  show sig1 (schedW abcP 49) + schedW abcP 44 + sig0 (schedW abcP 36) + schedW abcP 35 = _
  rw [sch_49, sch_44, sch_36, sch_35]; kernel_rfl
theorem sch_52 : schedW abcP 52 = 2226839261#32 := by
  rw [schedW_high abcP (by omega)]
  show sig1 (schedW abcP 50) + schedW abcP 45 + sig0 (schedW abcP 37) + schedW abcP 36 = _
  rw [sch_50, sch_45, sch_37, sch_36]; kernel_rfl
theorem sch_53 : schedW abcP 53 = 3256115900#32 := by
  rw [schedW_high abcP (by omega)]
  show sig1 (schedW abcP 51) + schedW abcP 46 + sig0 (schedW abcP 38) + schedW abcP 37 = _
  rw [sch_51, sch_46, sch_38, sch_37]; kernel_rfl
theorem sch_54 : schedW abcP 54 = 344409900#32 := by
  rw [schedW_high abcP (by omega)]
  show sig1 (schedW abcP 52) + schedW abcP 47 + sig0 (schedW abcP 39) + schedW abcP 38 = _
  rw [sch_52, sch_47, sch_39, sch_38]; kernel_rfl
theorem sch_55 : schedW abcP 55 = 2987358873#32 := by
  rw [schedW_high abcP (by omega)]
  show sig1 (schedW abcP 53) + schedW abcP 48 + sig0 (schedW abcP 40) + schedW abcP 39 = _
  rw [sch_53, sch_48, sch_40, sch_39]; kernel_rfl
theorem sch_56 : schedW abcP 56 = 4015503821#32 := by
  rw [schedW_high abcP (by omega)]
  show sig1 (schedW abcP 54) + schedW abcP 49 + sig0 (schedW abcP 41) + schedW abcP 40 = _
  rw [sch_54, sch_49, sch_41, sch_40]; kernel_rfl
theorem sch_57 : schedW abcP 57 = 3957764664#32 := by
  rw [schedW_high abcP (by omega)]
  show sig1 (schedW abcP 55) + schedW abcP 50 + sig0 (schedW abcP 42) + schedW abcP 41 = _
  rw [sch_55, sch_50, sch_42, sch_41]; kernel_rfl
theorem sch_58 : schedW abcP 58 = 2682456414#32 := by
  rw [schedW_high abcP (by omega)]
  show sig1 (schedW abcP 56) + schedW abcP 51 + sig0 (schedW abcP 43) + schedW abcP 42 = _
  rw [sch_56, sch_51, sch_43, sch_42]; kernel_rfl
theorem sch_59 : schedW abcP 59 = 2025622859#32 := by
  rw [schedW_high abcP (by omega)]
  show sig1 (schedW abcP 57) + schedW abcP 52 + sig0 (schedW abcP 44) + schedW abcP 43 = _
  rw [sch_57, sch_52, sch_44, sch_43]; kernel_rfl
theorem sch_60 : schedW abcP 60 = 2755645205#32 := by
  rw [schedW_high abcP (by omega)]
  show sig1 (schedW abcP 58) + schedW abcP 53 + sig0 (schedW abcP 45) + schedW abcP 44 = _
  rw [sch_58, sch_53, sch_45, sch_44]; kernel_rfl
theorem sch_61 : schedW abcP 61 = 1720397816#32 := by
  rw [schedW_high abcP (by omega)]
  show sig1 (schedW abcP 59) + schedW abcP 54 + sig0 (schedW abcP 46) + schedW abcP 45 = _
  rw [sch_59, sch_54, sch_46, sch_45]; kernel_rfl
theorem sch_62 : schedW abcP 62 = 4004225740#32 := by
  rw [schedW_high abcP (by omega)]
  show sig1 (schedW abcP 60) + schedW abcP 55 + sig0 (schedW abcP 47) + schedW abcP 46 = _
  rw [sch_60, sch_55, sch_47, sch_46]; kernel_rfl
theorem sch_63 : schedW abcP 63 = 313650667#32 := by
  rw [schedW_high abcP (by omega)]
  show sig1 (schedW abcP 61) + schedW abcP 56 + sig0 (schedW abcP 48) + schedW abcP 47 = _
  rw [sch_61, sch_56, sch_48, sch_47]; kernel_rfl
theorem st_0 : W8.steps kW (schedW abcP) startW 0 = ⟨1779033703#32, 3144134277#32, 1013904242#32, 2773480762#32, 1359893119#32, 2600822924#32, 528734635#32, 1541459225#32⟩ := rfl
theorem st_1 : W8.steps kW (schedW abcP) startW 1 = ⟨1567288269#32, 1779033703#32, 3144134277#32, 1013904242#32, 4197074466#32, 1359893119#32, 2600822924#32, 528734635#32⟩ := by
  show (W8.steps kW (schedW abcP) startW 0).step (kW 0) (schedW abcP 0) = _
  rw [st_0, sch_0]; kernel_rfl
theorem st_2 : W8.steps kW (schedW abcP) startW 2 = ⟨1516951981#32, 1567288269#32, 1779033703#32, 3144134277#32, 2026797449#32, 4197074466#32, 1359893119#32, 2600822924#32⟩ := by
  show (W8.steps kW (schedW abcP) startW 1).step (kW 1) (schedW abcP 1) = _
  rw [st_1, sch_1]; kernel_rfl
theorem st_3 : W8.steps kW (schedW abcP) startW 3 = ⟨3368241063#32, 1516951981#32, 1567288269#32, 1779033703#32, 4180228587#32, 2026797449#32, 4197074466#32, 1359893119#32⟩ := by
  show (W8.steps kW (schedW abcP) startW 2).step (kW 2) (schedW abcP 2) = _
  rw [st_2, sch_2]; kernel_rfl
theorem st_4 : W8.steps kW (schedW abcP) startW 4 = ⟨3578852966#32, 3368241063#32, 1516951981#32, 1567288269#32, 618661968#32, 4180228587#32, 2026797449#32, 4197074466#32⟩ := by
  show (W8.steps kW (schedW abcP) startW 3).step (kW 3) (schedW abcP 3) = _
  rw [st_3, sch_3]; kernel_rfl
theorem st_5 : W8.steps kW (schedW abcP) startW 5 = ⟨71342698#32, 3578852966#32, 3368241063#32, 1516951981#32, 1135452741#32, 618661968#32, 4180228587#32, 2026797449#32⟩ := by
  show (W8.steps kW (schedW abcP) startW 4).step (kW 4) (schedW abcP 4) = _
  rw [st_4, sch_4]; kernel_rfl
theorem st_6 : W8.steps kW (schedW abcP) startW 6 = ⟨725748213#32, 71342698#32, 3578852966#32, 3368241063#32, 1900175533#32, 1135452741#32, 618661968#32, 4180228587#32⟩ := by
  show (W8.steps kW (schedW abcP) startW 5).step (kW 5) (schedW abcP 5) = _
  rw [st_5, sch_5]; kernel_rfl
theorem st_7 : W8.steps kW (schedW abcP) startW 7 = ⟨3842179968#32, 725748213#32, 71342698#32, 3578852966#32, 2603066369#32, 1900175533#32, 1135452741#32, 618661968#32⟩ := by
  show (W8.steps kW (schedW abcP) startW 6).step (kW 6) (schedW abcP 6) = _
  rw [st_6, sch_6]; kernel_rfl
theorem st_8 : W8.steps kW (schedW abcP) startW 8 = ⟨2241887071#32, 3842179968#32, 725748213#32, 71342698#32, 207977081#32, 2603066369#32, 1900175533#32, 1135452741#32⟩ := by
  show (W8.steps kW (schedW abcP) startW 7).step (kW 7) (schedW abcP 7) = _
  rw [st_7, sch_7]; kernel_rfl
theorem st_9 : W8.steps kW (schedW abcP) startW 9 = ⟨2382687417#32, 2241887071#32, 3842179968#32, 725748213#32, 852110732#32, 207977081#32, 2603066369#32, 1900175533#32⟩ := by
  show (W8.steps kW (schedW abcP) startW 8).step (kW 8) (schedW abcP 8) = _
  rw [st_8, sch_8]; kernel_rfl
theorem st_10 : W8.steps kW (schedW abcP) startW 10 = ⟨2357671019#32, 2382687417#32, 2241887071#32, 3842179968#32, 482944406#32, 852110732#32, 207977081#32, 2603066369#32⟩ := by
  show (W8.steps kW (schedW abcP) startW 9).step (kW 9) (schedW abcP 9) = _
  rw [st_9, sch_9]; kernel_rfl
theorem st_11 : W8.steps kW (schedW abcP) startW 11 = ⟨1201185780#32, 2357671019#32, 2382687417#32, 2241887071#32, 1131095016#32, 482944406#32, 852110732#32, 207977081#32⟩ := by
  show (W8.steps kW (schedW abcP) startW 10).step (kW 10) (schedW abcP 10) = _
  rw [st_10, sch_10]; kernel_rfl
theorem st_12 : W8.steps kW (schedW abcP) startW 12 = ⟨4146054569#32, 1201185780#32, 2357671019#32, 2382687417#32, 2171590377#32, 1131095016#32, 482944406#32, 852110732#32⟩ := by
  show (W8.steps kW (schedW abcP) startW 11).step (kW 11) (schedW abcP 11) = _
  rw [st_11, sch_11]; kernel_rfl
theorem st_13 : W8.steps kW (schedW abcP) startW 13 = ⟨2274437520#32, 4146054569#32, 1201185780#32, 2357671019#32, 509051416#32, 2171590377#32, 1131095016#32, 482944406#32⟩ := by
  show (W8.steps kW (schedW abcP) startW 12).step (kW 12) (schedW abcP 12) = _
  rw [st_12, sch_12]; kernel_rfl
theorem st_14 : W8.steps kW (schedW abcP) startW 14 = ⟨3643992854#32, 2274437520#32, 4146054569#32, 1201185780#32, 1952073950#32, 509051416#32, 2171590377#32, 1131095016#32⟩ := by
  show (W8.steps kW (schedW abcP) startW 13).step (kW 13) (schedW abcP 13) = _
  rw [st_13, sch_13]; kernel_rfl
theorem st_15 : W8.steps kW (schedW abcP) startW 15 = ⟨3227803614#32, 3643992854#32, 2274437520#32, 4146054569#32, 194179596#32, 1952073950#32, 509051416#32, 2171590377#32⟩ := by
  show (W8.steps kW (schedW abcP) startW 14).step (kW 14) (schedW abcP 14) = _
  rw [st_14, sch_14]; kernel_rfl
theorem st_16 : W8.steps kW (schedW abcP) startW 16 = ⟨2969183118#32, 3227803614#32, 3643992854#32, 2274437520#32, 123276749#32, 194179596#32, 1952073950#32, 509051416#32⟩ := by
  show (W8.steps kW (schedW abcP) startW 15).step (kW 15) (schedW abcP 15) = _
  rw [st_15, sch_15]; kernel_rfl
theorem st_17 : W8.steps kW (schedW abcP) startW 17 = ⟨567974555#32, 2969183118#32, 3227803614#32, 3643992854#32, 2150900380#32, 123276749#32, 194179596#32, 1952073950#32⟩ := by
  show (W8.steps kW (schedW abcP) startW 16).step (kW 16) (schedW abcP 16) = _
  rw [st_16, sch_16]; kernel_rfl
theorem st_18 : W8.steps kW (schedW abcP) startW 18 = ⟨3271285201#32, 567974555#32, 2969183118#32, 3227803614#32, 2221859924#32, 2150900380#32, 123276749#32, 194179596#32⟩ := by
  show (W8.steps kW (schedW abcP) startW 17).step (kW 17) (schedW abcP 17) = _
  rw [st_17, sch_17]; kernel_rfl
theorem st_19 : W8.steps kW (schedW abcP) startW 19 = ⟨4269243327#32, 3271285201#32, 567974555#32, 2969183118#32, 3431569761#32, 2221859924#32, 2150900380#32, 123276749#32⟩ := by
  show (W8.steps kW (schedW abcP) startW 18).step (kW 18) (schedW abcP 18) = _
  rw [st_18, sch_18]; kernel_rfl
theorem st_20 : W8.steps kW (schedW abcP) startW 20 = ⟨3790736435#32, 4269243327#32, 3271285201#32, 567974555#32, 2959311225#32, 3431569761#32, 2221859924#32, 2150900380#32⟩ := by
  show (W8.steps kW (schedW abcP) startW 19).step (kW 19) (schedW abcP 19) = _
  rw [st_19, sch_19]; kernel_rfl
theorem st_21 : W8.steps kW (schedW abcP) startW 21 = ⟨2647034723#32, 3790736435#32, 4269243327#32, 3271285201#32, 2329577776#32, 2959311225#32, 3431569761#32, 2221859924#32⟩ := by
  show (W8.steps kW (schedW abcP) startW 20).step (kW 20) (schedW abcP 20) = _
  rw [st_20, sch_20]; kernel_rfl
theorem st_22 : W8.steps kW (schedW abcP) startW 22 = ⟨3261099373#32, 2647034723#32, 3790736435#32, 4269243327#32, 3777329520#32, 2329577776#32, 2959311225#32, 3431569761#32⟩ := by
  show (W8.steps kW (schedW abcP) startW 21).step (kW 21) (schedW abcP 21) = _
  rw [st_21, sch_21]; kernel_rfl
theorem st_23 : W8.steps kW (schedW abcP) startW 23 = ⟨2812502591#32, 3261099373#32, 2647034723#32, 3790736435#32, 1240797514#32, 3777329520#32, 2329577776#32, 2959311225#32⟩ := by
  show (W8.steps kW (schedW abcP) startW 22).step (kW 22) (schedW abcP 22) = _
  rw [st_22, sch_22]; kernel_rfl
theorem st_24 : W8.steps kW (schedW abcP) startW 24 = ⟨3319086477#32, 2812502591#32, 3261099373#32, 2647034723#32, 2856829767#32, 1240797514#32, 3777329520#32, 2329577776#32⟩ := by
  show (W8.steps kW (schedW abcP) startW 23).step (kW 23) (schedW abcP 23) = _
  rw [st_23, sch_23]; kernel_rfl
theorem st_25 : W8.steps kW (schedW abcP) startW 25 = ⟨472655928#32, 3319086477#32, 2812502591#32, 3261099373#32, 673443729#32, 2856829767#32, 1240797514#32, 3777329520#32⟩ := by
  show (W8.steps kW (schedW abcP) startW 24).step (kW 24) (schedW abcP 24) = _
  rw [st_24, sch_24]; kernel_rfl
theorem st_26 : W8.steps kW (schedW abcP) startW 26 = ⟨3454534525#32, 472655928#32, 3319086477#32, 2812502591#32, 339230094#32, 673443729#32, 2856829767#32, 1240797514#32⟩ := by
  show (W8.steps kW (schedW abcP) startW 25).step (kW 25) (schedW abcP 25) = _
  rw [st_25, sch_25]; kernel_rfl
theorem st_27 : W8.steps kW (schedW abcP) startW 27 = ⟨3056518332#32, 3454534525#32, 472655928#32, 3319086477#32, 3343672598#32, 339230094#32, 673443729#32, 2856829767#32⟩ := by
  show (W8.steps kW (schedW abcP) startW 26).step (kW 26) (schedW abcP 26) = _
  rw [st_26, sch_26]; kernel_rfl
theorem st_28 : W8.steps kW (schedW abcP) startW 28 = ⟨2010346792#32, 3056518332#32, 3454534525#32, 472655928#32, 3992961016#32, 3343672598#32, 339230094#32, 673443729#32⟩ := by
  show (W8.steps kW (schedW abcP) startW 27).step (kW 27) (schedW abcP 27) = _
  rw [st_27, sch_27]; kernel_rfl
theorem st_29 : W8.steps kW (schedW abcP) startW 29 = ⟨909411017#32, 2010346792#32, 3056518332#32, 3454534525#32, 1628611511#32, 3992961016#32, 3343672598#32, 339230094#32⟩ := by
  show (W8.steps kW (schedW abcP) startW 28).step (kW 28) (schedW abcP 28) = _
  rw [st_28, sch_28]; kernel_rfl
theorem st_30 : W8.steps kW (schedW abcP) startW 30 = ⟨2684750640#32, 909411017#32, 2010346792#32, 3056518332#32, 2917635127#32, 1628611511#32, 3992961016#32, 3343672598#32⟩ := by
  show (W8.steps kW (schedW abcP) startW 29).step (kW 29) (schedW abcP 29) = _
  rw [st_29, sch_29]; kernel_rfl
theorem st_31 : W8.steps kW (schedW abcP) startW 31 = ⟨3935906338#32, 2684750640#32, 909411017#32, 2010346792#32, 17410874#32, 2917635127#32, 1628611511#32, 3992961016#32⟩ := by
  show (W8.steps kW (schedW abcP) startW 30).step (kW 30) (schedW abcP 30) = _
  rw [st_30, sch_30]; kernel_rfl
theorem st_32 : W8.steps kW (schedW abcP) startW 32 = ⟨1941126133#32, 3935906338#32, 2684750640#32, 909411017#32, 3126399250#32, 17410874#32, 2917635127#32, 1628611511#32⟩ := by
  show (W8.steps kW (schedW abcP) startW 31).step (kW 31) (schedW abcP 31) = _
  rw [st_31, sch_31]; kernel_rfl
theorem st_33 : W8.steps kW (schedW abcP) startW 33 = ⟨2564891911#32, 1941126133#32, 3935906338#32, 2684750640#32, 2631529974#32, 3126399250#32, 17410874#32, 2917635127#32⟩ := by
  show (W8.steps kW (schedW abcP) startW 32).step (kW 32) (schedW abcP 32) = _
  rw [st_32, sch_32]; kernel_rfl
theorem st_34 : W8.steps kW (schedW abcP) startW 34 = ⟨4267724277#32, 2564891911#32, 1941126133#32, 3935906338#32, 1495571923#32, 2631529974#32, 3126399250#32, 17410874#32⟩ := by
  show (W8.steps kW (schedW abcP) startW 33).step (kW 33) (schedW abcP 33) = _
  rw [st_33, sch_33]; kernel_rfl
theorem st_35 : W8.steps kW (schedW abcP) startW 35 = ⟨2846323596#32, 4267724277#32, 2564891911#32, 1941126133#32, 140458035#32, 1495571923#32, 2631529974#32, 3126399250#32⟩ := by
  show (W8.steps kW (schedW abcP) startW 34).step (kW 34) (schedW abcP 34) = _
  rw [st_34, sch_34]; kernel_rfl
theorem st_36 : W8.steps kW (schedW abcP) startW 36 = ⟨1705037796#32, 2846323596#32, 4267724277#32, 2564891911#32, 4105175766#32, 140458035#32, 1495571923#32, 2631529974#32⟩ := by
  show (W8.steps kW (schedW abcP) startW 35).step (kW 35) (schedW abcP 35) = _
  rw [st_35, sch_35]; kernel_rfl
theorem st_37 : W8.steps kW (schedW abcP) startW 37 = ⟨1101421745#32, 1705037796#32, 2846323596#32, 4267724277#32, 124953195#32, 4105175766#32, 140458035#32, 1495571923#32⟩ := by
  show (W8.steps kW (schedW abcP) startW 36).step (kW 36) (schedW abcP 36) = _
  rw [st_36, sch_36]; kernel_rfl
theorem st_38 : W8.steps kW (schedW abcP) startW 38 = ⟨887035396#32, 1101421745#32, 1705037796#32, 2846323596#32, 2768741693#32, 124953195#32, 4105175766#32, 140458035#32⟩ := by
  show (W8.steps kW (schedW abcP) startW 37).step (kW 37) (schedW abcP 37) = _
  rw [st_37, sch_37]; kernel_rfl
theorem st_39 : W8.steps kW (schedW abcP) startW 39 = ⟨1841658506#32, 887035396#32, 1101421745#32, 1705037796#32, 4034403272#32, 2768741693#32, 124953195#32, 4105175766#32⟩ := by
  show (W8.steps kW (schedW abcP) startW 38).step (kW 38) (schedW abcP 38) = _
  rw [st_38, sch_38]; kernel_rfl
theorem st_40 : W8.steps kW (schedW abcP) startW 40 = ⟨2045405306#32, 1841658506#32, 887035396#32, 1101421745#32, 519815328#32, 4034403272#32, 2768741693#32, 124953195#32⟩ := by
  show (W8.steps kW (schedW abcP) startW 39).step (kW 39) (schedW abcP 39) = _
  rw [st_39, sch_39]; kernel_rfl
theorem st_41 : W8.steps kW (schedW abcP) startW 41 = ⟨3597076326#32, 2045405306#32, 1841658506#32, 887035396#32, 641019235#32, 519815328#32, 4034403272#32, 2768741693#32⟩ := by
  show (W8.steps kW (schedW abcP) startW 40).step (kW 40) (schedW abcP 40) = _
  rw [st_40, sch_40]; kernel_rfl
theorem st_42 : W8.steps kW (schedW abcP) startW 42 = ⟨3745932591#32, 3597076326#32, 2045405306#32, 1841658506#32, 2206934801#32, 641019235#32, 519815328#32, 4034403272#32⟩ := by
  show (W8.steps kW (schedW abcP) startW 41).step (kW 41) (schedW abcP 41) = _
  rw [st_41, sch_41]; kernel_rfl
theorem st_43 : W8.steps kW (schedW abcP) startW 43 = ⟨397020670#32, 3745932591#32, 3597076326#32, 2045405306#32, 3737995029#32, 2206934801#32, 641019235#32, 519815328#32⟩ := by
  show (W8.steps kW (schedW abcP) startW 42).step (kW 42) (schedW abcP 42) = _
  rw [st_42, sch_42]; kernel_rfl
theorem st_44 : W8.steps kW (schedW abcP) startW 44 = ⟨2638983059#32, 397020670#32, 3745932591#32, 3597076326#32, 4255271982#32, 3737995029#32, 2206934801#32, 641019235#32⟩ := by
  show (W8.steps kW (schedW abcP) startW 43).step (kW 43) (schedW abcP 43) = _
  rw [st_43, sch_43]; kernel_rfl
theorem st_45 : W8.steps kW (schedW abcP) startW 45 = ⟨643991573#32, 2638983059#32, 397020670#32, 3745932591#32, 2819559920#32, 4255271982#32, 3737995029#32, 2206934801#32⟩ := by
  show (W8.steps kW (schedW abcP) startW 44).step (kW 44) (schedW abcP 44) = _
  rw [st_44, sch_44]; kernel_rfl
theorem st_46 : W8.steps kW (schedW abcP) startW 46 = ⟨1923828625#32, 643991573#32, 2638983059#32, 397020670#32, 3077922209#32, 2819559920#32, 4255271982#32, 3737995029#32⟩ := by
  show (W8.steps kW (schedW abcP) startW 45).step (kW 45) (schedW abcP 45) = _
  rw [st_45, sch_45]; kernel_rfl
theorem st_47 : W8.steps kW (schedW abcP) startW 47 = ⟨2706117808#32, 1923828625#32, 643991573#32, 2638983059#32, 3581645993#32, 3077922209#32, 2819559920#32, 4255271982#32⟩ := by
  show (W8.steps kW (schedW abcP) startW 46).step (kW 46) (schedW abcP 46) = _
  rw [st_46, sch_46]; kernel_rfl
theorem st_48 : W8.steps kW (schedW abcP) startW 48 = ⟨1098003085#32, 2706117808#32, 1923828625#32, 643991573#32, 4274981830#32, 3581645993#32, 3077922209#32, 2819559920#32⟩ := by
  show (W8.steps kW (schedW abcP) startW 47).step (kW 47) (schedW abcP 47) = _
  rw [st_47, sch_47]; kernel_rfl
theorem st_49 : W8.steps kW (schedW abcP) startW 49 = ⟨91585771#32, 1098003085#32, 2706117808#32, 1923828625#32, 3178315832#32, 4274981830#32, 3581645993#32, 3077922209#32⟩ := by
  show (W8.steps kW (schedW abcP) startW 48).step (kW 48) (schedW abcP 48) = _
  rw [st_48, sch_48]; kernel_rfl
theorem st_50 : W8.steps kW (schedW abcP) startW 50 = ⟨4045142696#32, 91585771#32, 1098003085#32, 2706117808#32, 1851537676#32, 3178315832#32, 4274981830#32, 3581645993#32⟩ := by
  show (W8.steps kW (schedW abcP) startW 49).step (kW 49) (schedW abcP 49) = _
  rw [st_49, sch_49]; kernel_rfl
theorem st_51 : W8.steps kW (schedW abcP) startW 51 = ⟨2047150241#32, 4045142696#32, 91585771#32, 1098003085#32, 1391578359#32, 1851537676#32, 3178315832#32, 4274981830#32⟩ := by
  show (W8.steps kW (schedW abcP) startW 50).step (kW 50) (schedW abcP 50) = _
  rw [st_50, sch_50]; kernel_rfl
theorem st_52 : W8.steps kW (schedW abcP) startW 52 = ⟨2288941602#32, 2047150241#32, 4045142696#32, 91585771#32, 1227037726#32, 1391578359#32, 1851537676#32, 3178315832#32⟩ := by
  show (W8.steps kW (schedW abcP) startW 51).step (kW 51) (schedW abcP 51) = _
  rw [st_51, sch_51]; kernel_rfl
theorem st_53 : W8.steps kW (schedW abcP) startW 53 = ⟨270520975#32, 2288941602#32, 2047150241#32, 4045142696#32, 1386118400#32, 1227037726#32, 1391578359#32, 1851537676#32⟩ := by
  show (W8.steps kW (schedW abcP) startW 52).step (kW 52) (schedW abcP 52) = _
  rw [st_52, sch_52]; kernel_rfl
theorem st_54 : W8.steps kW (schedW abcP) startW 54 = ⟨4117770203#32, 270520975#32, 2288941602#32, 2047150241#32, 2672265155#32, 1386118400#32, 1227037726#32, 1391578359#32⟩ := by
  show (W8.steps kW (schedW abcP) startW 53).step (kW 53) (schedW abcP 53) = _
  rw [st_53, sch_53]; kernel_rfl
theorem st_55 : W8.steps kW (schedW abcP) startW 55 = ⟨1053056219#32, 4117770203#32, 270520975#32, 2288941602#32, 3842906959#32, 2672265155#32, 1386118400#32, 1227037726#32⟩ := by
  show (W8.steps kW (schedW abcP) startW 54).step (kW 54) (schedW abcP 54) = _
  rw [st_54, sch_54]; kernel_rfl
theorem st_56 : W8.steps kW (schedW abcP) startW 56 = ⟨952932627#32, 1053056219#32, 4117770203#32, 270520975#32, 1422599787#32, 3842906959#32, 2672265155#32, 1386118400#32⟩ := by
  show (W8.steps kW (schedW abcP) startW 55).step (kW 55) (schedW abcP 55) = _
  rw [st_55, sch_55]; kernel_rfl
theorem st_57 : W8.steps kW (schedW abcP) startW 57 = ⟨4241590395#32, 952932627#32, 1053056219#32, 4117770203#32, 2606665836#32, 1422599787#32, 3842906959#32, 2672265155#32⟩ := by
  show (W8.steps kW (schedW abcP) startW 56).step (kW 56) (schedW abcP 56) = _
  rw [st_56, sch_56]; kernel_rfl
theorem st_58 : W8.steps kW (schedW abcP) startW 58 = ⟨3227702383#32, 4241590395#32, 952932627#32, 1053056219#32, 2118385806#32, 2606665836#32, 1422599787#32, 3842906959#32⟩ := by
  show (W8.steps kW (schedW abcP) startW 57).step (kW 57) (schedW abcP 57) = _
  rw [st_57, sch_57]; kernel_rfl
theorem st_59 : W8.steps kW (schedW abcP) startW 59 = ⟨4290184306#32, 3227702383#32, 4241590395#32, 952932627#32, 1837350854#32, 2118385806#32, 2606665836#32, 1422599787#32⟩ := by
  show (W8.steps kW (schedW abcP) startW 58).step (kW 58) (schedW abcP 58) = _
  rw [st_58, sch_58]; kernel_rfl
theorem st_60 : W8.steps kW (schedW abcP) startW 60 = ⟨3064893439#32, 4290184306#32, 3227702383#32, 4241590395#32, 2988158269#32, 1837350854#32, 2118385806#32, 2606665836#32⟩ := by
  show (W8.steps kW (schedW abcP) startW 59).step (kW 59) (schedW abcP 59) = _
  rw [st_59, sch_59]; kernel_rfl
theorem st_61 : W8.steps kW (schedW abcP) startW 61 = ⟨3093179625#32, 3064893439#32, 4290184306#32, 3227702383#32, 2518632596#32, 2988158269#32, 1837350854#32, 2118385806#32⟩ := by
  show (W8.steps kW (schedW abcP) startW 60).step (kW 60) (schedW abcP 60) = _
  rw [st_60, sch_60]; kernel_rfl
theorem st_62 : W8.steps kW (schedW abcP) startW 62 = ⟨80891244#32, 3093179625#32, 3064893439#32, 4290184306#32, 2492278198#32, 2518632596#32, 2988158269#32, 1837350854#32⟩ := by
  show (W8.steps kW (schedW abcP) startW 61).step (kW 61) (schedW abcP 61) = _
  rw [st_61, sch_61]; kernel_rfl
theorem st_63 : W8.steps kW (schedW abcP) startW 63 = ⟨3550093669#32, 80891244#32, 3093179625#32, 3064893439#32, 4212265488#32, 2492278198#32, 2518632596#32, 2988158269#32⟩ := by
  show (W8.steps kW (schedW abcP) startW 62).step (kW 62) (schedW abcP 62) = _
  rw [st_62, sch_62]; kernel_rfl
theorem st_64 : W8.steps kW (schedW abcP) startW 64 = ⟨1349398616#32, 3550093669#32, 80891244#32, 3093179625#32, 1593118500#32, 4212265488#32, 2492278198#32, 2518632596#32⟩ := by
  show (W8.steps kW (schedW abcP) startW 63).step (kW 63) (schedW abcP 63) = _
  rw [st_63, sch_63]; kernel_rfl
theorem abc_turn : W8.blocks kW startW abcP 1 = ⟨3128432319#32, 2399260650#32, 1094795486#32, 1571693091#32, 2953011619#32, 2518121116#32, 3021012833#32, 4060091821#32⟩ := by
  show startW.turn kW (fun i => abcP (64 * 0 + i)) = _
  rw [W8.turn_congr (g := abcP) (fun i _ => by rw [Nat.mul_zero, Nat.zero_add])]
  unfold W8.turn
  rw [st_64]; kernel_rfl
/-- The three bytes that are looked at. -/
theorem abc_sum (p : Nat → BitVec 8) (h0 : p 0 = 97#8) (h1 : p 1 = 98#8) (h2 : p 2 = 99#8) : sumS p 3 0 = 186#8 ∧ sumS p 3 1 = 120#8 ∧ sumS p 3 31 = 173#8 := by
  rw [sumS_congr (f := p) (g := abcF) (n := 3) (fun i hi => by
    rcases (by omega : i = 0 ∨ i = 1 ∨ i = 2) with rfl | rfl | rfl
    · exact h0
    · exact h1
    · exact h2)]
  have e : ∀ i, sumS abcF 3 i = ((W8.get ⟨3128432319#32, 2399260650#32, 1094795486#32, 1571693091#32, 2953011619#32, 2518121116#32, 3021012833#32, 4060091821#32⟩ (i / 4)) >>> (24 - 8 * (i % 4))).setWidth 8 := fun i => by
    show ((W8.blocks kW startW abcP 1).get (i / 4) >>> (24 - 8 * (i % 4))).setWidth 8 = _
    rw [abc_turn]
  rw [e, e, e]
  exact ⟨by kernel_rfl, by kernel_rfl, by kernel_rfl⟩
end Go.Proofs.YtbadcknchamimaaDoor
