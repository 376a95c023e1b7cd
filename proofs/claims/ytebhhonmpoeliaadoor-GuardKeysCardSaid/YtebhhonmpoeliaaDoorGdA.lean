/-
  A Mac, reckoned step by step (A).
-/
import Derived.Test.YtebhhonmpoeliaaDoorGdM
namespace Go.Proofs.YtebhhonmpoeliaaDoor
open Go Go.RowKit
set_option maxRecDepth 100000
def blkA1 : List Nat := [14, 64, 26, 193, 195, 111, 2, 133, 123, 33, 172, 208, 146, 254, 58, 155, 250, 141, 73, 60, 54, 54, 54, 54, 54, 54, 54, 54, 54, 54, 54, 54, 54, 54, 54, 54, 54, 54, 54, 54, 54, 54, 54, 54, 54, 54, 54, 54, 54, 54, 54, 54, 54, 54, 54, 54, 54, 54, 54, 54, 54, 54, 54, 54]
theorem schA1_0 : schedW (tb blkA1) 0 = 239082177#32 := by rw [schedW_low (tb blkA1) (by omega)]; kernel_rfl
theorem schA1_1 : schedW (tb blkA1) 1 = 3278832261#32 := by rw [schedW_low (tb blkA1) (by omega)]; kernel_rfl
theorem schA1_2 : schedW (tb blkA1) 2 = 2065804496#32 := by rw [schedW_low (tb blkA1) (by omega)]; kernel_rfl
theorem schA1_3 : schedW (tb blkA1) 3 = 2466134683#32 := by rw [schedW_low (tb blkA1) (by omega)]; kernel_rfl
theorem schA1_4 : schedW (tb blkA1) 4 = 4203563324#32 := by rw [schedW_low (tb blkA1) (by omega)]; kernel_rfl
theorem schA1_5 : schedW (tb blkA1) 5 = 909522486#32 := by rw [schedW_low (tb blkA1) (by omega)]; kernel_rfl
theorem schA1_6 : schedW (tb blkA1) 6 = 909522486#32 := by rw [schedW_low (tb blkA1) (by omega)]; kernel_rfl
theorem schA1_7 : schedW (tb blkA1) 7 = 909522486#32 := by rw [schedW_low (tb blkA1) (by omega)]; kernel_rfl
theorem schA1_8 : schedW (tb blkA1) 8 = 909522486#32 := by rw [schedW_low (tb blkA1) (by omega)]; kernel_rfl
theorem schA1_9 : schedW (tb blkA1) 9 = 909522486#32 := by rw [schedW_low (tb blkA1) (by omega)]; kernel_rfl
theorem schA1_10 : schedW (tb blkA1) 10 = 909522486#32 := by rw [schedW_low (tb blkA1) (by omega)]; kernel_rfl
theorem schA1_11 : schedW (tb blkA1) 11 = 909522486#32 := by rw [schedW_low (tb blkA1) (by omega)]; kernel_rfl
theorem schA1_12 : schedW (tb blkA1) 12 = 909522486#32 := by rw [schedW_low (tb blkA1) (by omega)]; kernel_rfl
theorem schA1_13 : schedW (tb blkA1) 13 = 909522486#32 := by rw [schedW_low (tb blkA1) (by omega)]; kernel_rfl
theorem schA1_14 : schedW (tb blkA1) 14 = 909522486#32 := by rw [schedW_low (tb blkA1) (by omega)]; kernel_rfl
theorem schA1_15 : schedW (tb blkA1) 15 = 909522486#32 := by rw [schedW_low (tb blkA1) (by omega)]; kernel_rfl
theorem schA1_16 : schedW (tb blkA1) 16 = 4119916501#32 := by
  rw [schedW_high (tb blkA1) (by omega)]
  show sig1 (schedW (tb blkA1) 14) + schedW (tb blkA1) 9 + sig0 (schedW (tb blkA1) 1) + schedW (tb blkA1) 0 = _
  rw [schA1_14, schA1_9, schA1_1, schA1_0]; kernel_rfl
theorem schA1_17 : schedW (tb blkA1) 17 = 2619076886#32 := by
  rw [schedW_high (tb blkA1) (by omega)]
  show sig1 (schedW (tb blkA1) 15) + schedW (tb blkA1) 10 + sig0 (schedW (tb blkA1) 2) + schedW (tb blkA1) 1 = _
  rw [schA1_15, schA1_10, schA1_2, schA1_1]; kernel_rfl
theorem schA1_18 : schedW (tb blkA1) 18 = 3345081056#32 := by
  rw [schedW_high (tb blkA1) (by omega)]
  show sig1 (schedW (tb blkA1) 16) + schedW (tb blkA1) 11 + sig0 (schedW (tb blkA1) 3) + schedW (tb blkA1) 2 = _
  rw [schA1_16, schA1_11, schA1_3, schA1_2]; kernel_rfl
theorem schA1_19 : schedW (tb blkA1) 19 = 2226035033#32 := by
  rw [schedW_high (tb blkA1) (by omega)]
  show sig1 (schedW (tb blkA1) 17) + schedW (tb blkA1) 12 + sig0 (schedW (tb blkA1) 4) + schedW (tb blkA1) 3 = _
  rw [schA1_17, schA1_12, schA1_4, schA1_3]; kernel_rfl
theorem schA1_20 : schedW (tb blkA1) 20 = 3842525629#32 := by
  rw [schedW_high (tb blkA1) (by omega)]
  show sig1 (schedW (tb blkA1) 18) + schedW (tb blkA1) 13 + sig0 (schedW (tb blkA1) 5) + schedW (tb blkA1) 4 = _
  rw [schA1_18, schA1_13, schA1_5, schA1_4]; kernel_rfl
theorem schA1_21 : schedW (tb blkA1) 21 = 4080692471#32 := by
  rw [schedW_high (tb blkA1) (by omega)]
  show sig1 (schedW (tb blkA1) 19) + schedW (tb blkA1) 14 + sig0 (schedW (tb blkA1) 6) + schedW (tb blkA1) 5 = _
  rw [schA1_19, schA1_14, schA1_6, schA1_5]; kernel_rfl
theorem schA1_22 : schedW (tb blkA1) 22 = 2170789834#32 := by
  rw [schedW_high (tb blkA1) (by omega)]
  show sig1 (schedW (tb blkA1) 20) + schedW (tb blkA1) 15 + sig0 (schedW (tb blkA1) 7) + schedW (tb blkA1) 6 = _
  rw [schA1_20, schA1_15, schA1_7, schA1_6]; kernel_rfl
theorem schA1_23 : schedW (tb blkA1) 23 = 2395477651#32 := by
  rw [schedW_high (tb blkA1) (by omega)]
  show sig1 (schedW (tb blkA1) 21) + schedW (tb blkA1) 16 + sig0 (schedW (tb blkA1) 8) + schedW (tb blkA1) 7 = _
  rw [schA1_21, schA1_16, schA1_8, schA1_7]; kernel_rfl
theorem schA1_24 : schedW (tb blkA1) 24 = 1974834925#32 := by
  rw [schedW_high (tb blkA1) (by omega)]
  show sig1 (schedW (tb blkA1) 22) + schedW (tb blkA1) 17 + sig0 (schedW (tb blkA1) 9) + schedW (tb blkA1) 8 = _
  rw [schA1_22, schA1_17, schA1_9, schA1_8]; kernel_rfl
theorem schA1_25 : schedW (tb blkA1) 25 = 4000793845#32 := by
  rw [schedW_high (tb blkA1) (by omega)]
  show sig1 (schedW (tb blkA1) 23) + schedW (tb blkA1) 18 + sig0 (schedW (tb blkA1) 10) + schedW (tb blkA1) 9 = _
  rw [schA1_23, schA1_18, schA1_10, schA1_9]; kernel_rfl
theorem schA1_26 : schedW (tb blkA1) 26 = 465727423#32 := by
  rw [schedW_high (tb blkA1) (by omega)]
  show sig1 (schedW (tb blkA1) 24) + schedW (tb blkA1) 19 + sig0 (schedW (tb blkA1) 11) + schedW (tb blkA1) 10 = _
  rw [schA1_24, schA1_19, schA1_11, schA1_10]; kernel_rfl
theorem schA1_27 : schedW (tb blkA1) 27 = 1296399934#32 := by
  rw [schedW_high (tb blkA1) (by omega)]
  show sig1 (schedW (tb blkA1) 25) + schedW (tb blkA1) 20 + sig0 (schedW (tb blkA1) 12) + schedW (tb blkA1) 11 = _
  rw [schA1_25, schA1_20, schA1_12, schA1_11]; kernel_rfl
theorem schA1_28 : schedW (tb blkA1) 28 = 2328258646#32 := by
  rw [schedW_high (tb blkA1) (by omega)]
  show sig1 (schedW (tb blkA1) 26) + schedW (tb blkA1) 21 + sig0 (schedW (tb blkA1) 13) + schedW (tb blkA1) 12 = _
  rw [schA1_26, schA1_21, schA1_13, schA1_12]; kernel_rfl
theorem schA1_29 : schedW (tb blkA1) 29 = 2945235836#32 := by
  rw [schedW_high (tb blkA1) (by omega)]
  show sig1 (schedW (tb blkA1) 27) + schedW (tb blkA1) 22 + sig0 (schedW (tb blkA1) 14) + schedW (tb blkA1) 13 = _
  rw [schA1_27, schA1_22, schA1_14, schA1_13]; kernel_rfl
theorem schA1_30 : schedW (tb blkA1) 30 = 2770901393#32 := by
  rw [schedW_high (tb blkA1) (by omega)]
  show sig1 (schedW (tb blkA1) 28) + schedW (tb blkA1) 23 + sig0 (schedW (tb blkA1) 15) + schedW (tb blkA1) 14 = _
  rw [schA1_28, schA1_23, schA1_15, schA1_14]; kernel_rfl
theorem schA1_31 : schedW (tb blkA1) 31 = 93466493#32 := by
  rw [schedW_high (tb blkA1) (by omega)]
  show sig1 (schedW (tb blkA1) 29) + schedW (tb blkA1) 24 + sig0 (schedW (tb blkA1) 16) + schedW (tb blkA1) 15 = _
  rw [schA1_29, schA1_24, schA1_16, schA1_15]; kernel_rfl
theorem schA1_32 : schedW (tb blkA1) 32 = 115003303#32 := by
  rw [schedW_high (tb blkA1) (by omega)]
  show sig1 (schedW (tb blkA1) 30) + schedW (tb blkA1) 25 + sig0 (schedW (tb blkA1) 17) + schedW (tb blkA1) 16 = _
  rw [schA1_30, schA1_25, schA1_17, schA1_16]; kernel_rfl
theorem schA1_33 : schedW (tb blkA1) 33 = 2886301190#32 := by
  rw [schedW_high (tb blkA1) (by omega)]
  show sig1 (schedW (tb blkA1) 31) + schedW (tb blkA1) 26 + sig0 (schedW (tb blkA1) 18) + schedW (tb blkA1) 17 = _
  rw [schA1_31, schA1_26, schA1_18, schA1_17]; kernel_rfl
theorem schA1_34 : schedW (tb blkA1) 34 = 1486431573#32 := by
  rw [schedW_high (tb blkA1) (by omega)]
  show sig1 (schedW (tb blkA1) 32) + schedW (tb blkA1) 27 + sig0 (schedW (tb blkA1) 19) + schedW (tb blkA1) 18 = _
  rw [schA1_32, schA1_27, schA1_19, schA1_18]; kernel_rfl
theorem schA1_35 : schedW (tb blkA1) 35 = 442623085#32 := by
  rw [schedW_high (tb blkA1) (by omega)]
  show sig1 (schedW (tb blkA1) 33) + schedW (tb blkA1) 28 + sig0 (schedW (tb blkA1) 20) + schedW (tb blkA1) 19 = _
  rw [schA1_33, schA1_28, schA1_20, schA1_19]; kernel_rfl
theorem schA1_36 : schedW (tb blkA1) 36 = 3043486680#32 := by
  rw [schedW_high (tb blkA1) (by omega)]
  show sig1 (schedW (tb blkA1) 34) + schedW (tb blkA1) 29 + sig0 (schedW (tb blkA1) 21) + schedW (tb blkA1) 20 = _
  rw [schA1_34, schA1_29, schA1_21, schA1_20]; kernel_rfl
theorem schA1_37 : schedW (tb blkA1) 37 = 3388789035#32 := by
  rw [schedW_high (tb blkA1) (by omega)]
  show sig1 (schedW (tb blkA1) 35) + schedW (tb blkA1) 30 + sig0 (schedW (tb blkA1) 22) + schedW (tb blkA1) 21 = _
  rw [schA1_35, schA1_30, schA1_22, schA1_21]; kernel_rfl
theorem schA1_38 : schedW (tb blkA1) 38 = 3272627833#32 := by
  rw [schedW_high (tb blkA1) (by omega)]
  show sig1 (schedW (tb blkA1) 36) + schedW (tb blkA1) 31 + sig0 (schedW (tb blkA1) 23) + schedW (tb blkA1) 22 = _
  rw [schA1_36, schA1_31, schA1_23, schA1_22]; kernel_rfl
theorem schA1_39 : schedW (tb blkA1) 39 = 973884876#32 := by
  rw [schedW_high (tb blkA1) (by omega)]
  show sig1 (schedW (tb blkA1) 37) + schedW (tb blkA1) 32 + sig0 (schedW (tb blkA1) 24) + schedW (tb blkA1) 23 = _
  rw [schA1_37, schA1_32, schA1_24, schA1_23]; kernel_rfl
theorem schA1_40 : schedW (tb blkA1) 40 = 1790027900#32 := by
  rw [schedW_high (tb blkA1) (by omega)]
  show sig1 (schedW (tb blkA1) 38) + schedW (tb blkA1) 33 + sig0 (schedW (tb blkA1) 25) + schedW (tb blkA1) 24 = _
  rw [schA1_38, schA1_33, schA1_25, schA1_24]; kernel_rfl
theorem schA1_41 : schedW (tb blkA1) 41 = 3707868022#32 := by
  rw [schedW_high (tb blkA1) (by omega)]
  show sig1 (schedW (tb blkA1) 39) + schedW (tb blkA1) 34 + sig0 (schedW (tb blkA1) 26) + schedW (tb blkA1) 25 = _
  rw [schA1_39, schA1_34, schA1_26, schA1_25]; kernel_rfl
theorem schA1_42 : schedW (tb blkA1) 42 = 1108156154#32 := by
  rw [schedW_high (tb blkA1) (by omega)]
  show sig1 (schedW (tb blkA1) 40) + schedW (tb blkA1) 35 + sig0 (schedW (tb blkA1) 27) + schedW (tb blkA1) 26 = _
  rw [schA1_40, schA1_35, schA1_27, schA1_26]; kernel_rfl
theorem schA1_43 : schedW (tb blkA1) 43 = 619266757#32 := by
  rw [schedW_high (tb blkA1) (by omega)]
  show sig1 (schedW (tb blkA1) 41) + schedW (tb blkA1) 36 + sig0 (schedW (tb blkA1) 28) + schedW (tb blkA1) 27 = _
  rw [schA1_41, schA1_36, schA1_28, schA1_27]; kernel_rfl
theorem schA1_44 : schedW (tb blkA1) 44 = 1139263867#32 := by
  rw [schedW_high (tb blkA1) (by omega)]
  show sig1 (schedW (tb blkA1) 42) + schedW (tb blkA1) 37 + sig0 (schedW (tb blkA1) 29) + schedW (tb blkA1) 28 = _
  rw [schA1_42, schA1_37, schA1_29, schA1_28]; kernel_rfl
theorem schA1_45 : schedW (tb blkA1) 45 = 224086521#32 := by
  rw [schedW_high (tb blkA1) (by omega)]
  show sig1 (schedW (tb blkA1) 43) + schedW (tb blkA1) 38 + sig0 (schedW (tb blkA1) 30) + schedW (tb blkA1) 29 = _
  rw [schA1_43, schA1_38, schA1_30, schA1_29]; kernel_rfl
theorem schA1_46 : schedW (tb blkA1) 46 = 1847408815#32 := by
  rw [schedW_high (tb blkA1) (by omega)]
  show sig1 (schedW (tb blkA1) 44) + schedW (tb blkA1) 39 + sig0 (schedW (tb blkA1) 31) + schedW (tb blkA1) 30 = _
  rw [schA1_44, schA1_39, schA1_31, schA1_30]; kernel_rfl
theorem schA1_47 : schedW (tb blkA1) 47 = 994310058#32 := by
  rw [schedW_high (tb blkA1) (by omega)]
  show sig1 (schedW (tb blkA1) 45) + schedW (tb blkA1) 40 + sig0 (schedW (tb blkA1) 32) + schedW (tb blkA1) 31 = _
  rw [schA1_45, schA1_40, schA1_32, schA1_31]; kernel_rfl
theorem schA1_48 : schedW (tb blkA1) 48 = 1687082958#32 := by
  rw [schedW_high (tb blkA1) (by omega)]
  show sig1 (schedW (tb blkA1) 46) + schedW (tb blkA1) 41 + sig0 (schedW (tb blkA1) 33) + schedW (tb blkA1) 32 = _
  rw [schA1_46, schA1_41, schA1_33, schA1_32]; kernel_rfl
theorem schA1_49 : schedW (tb blkA1) 49 = 1547460602#32 := by
  rw [schedW_high (tb blkA1) (by omega)]
  show sig1 (schedW (tb blkA1) 47) + schedW (tb blkA1) 42 + sig0 (schedW (tb blkA1) 34) + schedW (tb blkA1) 33 = _
  rw [schA1_47, schA1_42, schA1_34, schA1_33]; kernel_rfl
theorem schA1_50 : schedW (tb blkA1) 50 = 3471703898#32 := by
  rw [schedW_high (tb blkA1) (by omega)]
  show sig1 (schedW (tb blkA1) 48) + schedW (tb blkA1) 43 + sig0 (schedW (tb blkA1) 35) + schedW (tb blkA1) 34 = _
  rw [schA1_48, schA1_43, schA1_35, schA1_34]; kernel_rfl
theorem schA1_51 : schedW (tb blkA1) 51 = 1603221611#32 := by
  rw [schedW_high (tb blkA1) (by omega)]
  show sig1 (schedW (tb blkA1) 49) + schedW (tb blkA1) 44 + sig0 (schedW (tb blkA1) 36) + schedW (tb blkA1) 35 = _
  rw [schA1_49, schA1_44, schA1_36, schA1_35]; kernel_rfl
theorem schA1_52 : schedW (tb blkA1) 52 = 2115980701#32 := by
  rw [schedW_high (tb blkA1) (by omega)]
  show sig1 (schedW (tb blkA1) 50) + schedW (tb blkA1) 45 + sig0 (schedW (tb blkA1) 37) + schedW (tb blkA1) 36 = _
  rw [schA1_50, schA1_45, schA1_37, schA1_36]; kernel_rfl
theorem schA1_53 : schedW (tb blkA1) 53 = 2982382713#32 := by
  rw [schedW_high (tb blkA1) (by omega)]
  show sig1 (schedW (tb blkA1) 51) + schedW (tb blkA1) 46 + sig0 (schedW (tb blkA1) 38) + schedW (tb blkA1) 37 = _
  rw [schA1_51, schA1_46, schA1_38, schA1_37]; kernel_rfl
theorem schA1_54 : schedW (tb blkA1) 54 = 3657270499#32 := by
  rw [schedW_high (tb blkA1) (by omega)]
  show sig1 (schedW (tb blkA1) 52) + schedW (tb blkA1) 47 + sig0 (schedW (tb blkA1) 39) + schedW (tb blkA1) 38 = _
  rw [schA1_52, schA1_47, schA1_39, schA1_38]; kernel_rfl
theorem schA1_55 : schedW (tb blkA1) 55 = 4124512455#32 := by
  rw [schedW_high (tb blkA1) (by omega)]
  show sig1 (schedW (tb blkA1) 53) + schedW (tb blkA1) 48 + sig0 (schedW (tb blkA1) 40) + schedW (tb blkA1) 39 = _
  rw [schA1_53, schA1_48, schA1_40, schA1_39]; kernel_rfl
theorem schA1_56 : schedW (tb blkA1) 56 = 3432085278#32 := by
  rw [schedW_high (tb blkA1) (by omega)]
  show sig1 (schedW (tb blkA1) 54) + schedW (tb blkA1) 49 + sig0 (schedW (tb blkA1) 41) + schedW (tb blkA1) 40 = _
  rw [schA1_54, schA1_49, schA1_41, schA1_40]; kernel_rfl
theorem schA1_57 : schedW (tb blkA1) 57 = 3518049734#32 := by
  rw [schedW_high (tb blkA1) (by omega)]
  show sig1 (schedW (tb blkA1) 55) + schedW (tb blkA1) 50 + sig0 (schedW (tb blkA1) 42) + schedW (tb blkA1) 41 = _
  rw [schA1_55, schA1_50, schA1_42, schA1_41]; kernel_rfl
theorem schA1_58 : schedW (tb blkA1) 58 = 358721235#32 := by
  rw [schedW_high (tb blkA1) (by omega)]
  show sig1 (schedW (tb blkA1) 56) + schedW (tb blkA1) 51 + sig0 (schedW (tb blkA1) 43) + schedW (tb blkA1) 42 = _
  rw [schA1_56, schA1_51, schA1_43, schA1_42]; kernel_rfl
theorem schA1_59 : schedW (tb blkA1) 59 = 1662932299#32 := by
  rw [schedW_high (tb blkA1) (by omega)]
  show sig1 (schedW (tb blkA1) 57) + schedW (tb blkA1) 52 + sig0 (schedW (tb blkA1) 44) + schedW (tb blkA1) 43 = _
  rw [schA1_57, schA1_52, schA1_44, schA1_43]; kernel_rfl
theorem schA1_60 : schedW (tb blkA1) 60 = 4281443171#32 := by
  rw [schedW_high (tb blkA1) (by omega)]
  show sig1 (schedW (tb blkA1) 58) + schedW (tb blkA1) 53 + sig0 (schedW (tb blkA1) 45) + schedW (tb blkA1) 44 = _
  rw [schA1_58, schA1_53, schA1_45, schA1_44]; kernel_rfl
theorem schA1_61 : schedW (tb blkA1) 61 = 3835768888#32 := by
  rw [schedW_high (tb blkA1) (by omega)]
  show sig1 (schedW (tb blkA1) 59) + schedW (tb blkA1) 54 + sig0 (schedW (tb blkA1) 46) + schedW (tb blkA1) 45 = _
  rw [schA1_59, schA1_54, schA1_46, schA1_45]; kernel_rfl
theorem schA1_62 : schedW (tb blkA1) 62 = 4174056790#32 := by
  rw [schedW_high (tb blkA1) (by omega)]
  show sig1 (schedW (tb blkA1) 60) + schedW (tb blkA1) 55 + sig0 (schedW (tb blkA1) 47) + schedW (tb blkA1) 46 = _
  rw [schA1_60, schA1_55, schA1_47, schA1_46]; kernel_rfl
theorem schA1_63 : schedW (tb blkA1) 63 = 3953333189#32 := by
  rw [schedW_high (tb blkA1) (by omega)]
  show sig1 (schedW (tb blkA1) 61) + schedW (tb blkA1) 56 + sig0 (schedW (tb blkA1) 48) + schedW (tb blkA1) 47 = _
  rw [schA1_61, schA1_56, schA1_48, schA1_47]; kernel_rfl
theorem stA1_0 : W8.steps kW (schedW (tb blkA1)) ⟨1779033703#32, 3144134277#32, 1013904242#32, 2773480762#32, 1359893119#32, 2600822924#32, 528734635#32, 1541459225#32⟩ 0 = ⟨1779033703#32, 3144134277#32, 1013904242#32, 2773480762#32, 1359893119#32, 2600822924#32, 528734635#32, 1541459225#32⟩ := rfl
theorem stA1_1 : W8.steps kW (schedW (tb blkA1)) ⟨1779033703#32, 3144134277#32, 1013904242#32, 2773480762#32, 1359893119#32, 2600822924#32, 528734635#32, 1541459225#32⟩ 1 = ⟨172532494#32, 1779033703#32, 3144134277#32, 1013904242#32, 2802318691#32, 1359893119#32, 2600822924#32, 528734635#32⟩ := by
  show (W8.steps kW (schedW (tb blkA1)) ⟨1779033703#32, 3144134277#32, 1013904242#32, 2773480762#32, 1359893119#32, 2600822924#32, 528734635#32, 1541459225#32⟩ 0).step (kW 0) (schedW (tb blkA1) 0) = _
  rw [stA1_0, schA1_0]; kernel_rfl
theorem stA1_2 : W8.steps kW (schedW (tb blkA1)) ⟨1779033703#32, 3144134277#32, 1013904242#32, 2773480762#32, 1359893119#32, 2600822924#32, 528734635#32, 1541459225#32⟩ 2 = ⟨4043221311#32, 172532494#32, 1779033703#32, 3144134277#32, 1253422075#32, 2802318691#32, 1359893119#32, 2600822924#32⟩ := by
  show (W8.steps kW (schedW (tb blkA1)) ⟨1779033703#32, 3144134277#32, 1013904242#32, 2773480762#32, 1359893119#32, 2600822924#32, 528734635#32, 1541459225#32⟩ 1).step (kW 1) (schedW (tb blkA1) 1) = _
  rw [stA1_1, schA1_1]; kernel_rfl
theorem stA1_3 : W8.steps kW (schedW (tb blkA1)) ⟨1779033703#32, 3144134277#32, 1013904242#32, 2773480762#32, 1359893119#32, 2600822924#32, 528734635#32, 1541459225#32⟩ 3 = ⟨1631581718#32, 4043221311#32, 172532494#32, 1779033703#32, 1660563187#32, 1253422075#32, 2802318691#32, 1359893119#32⟩ := by
  show (W8.steps kW (schedW (tb blkA1)) ⟨1779033703#32, 3144134277#32, 1013904242#32, 2773480762#32, 1359893119#32, 2600822924#32, 528734635#32, 1541459225#32⟩ 2).step (kW 2) (schedW (tb blkA1) 2) = _
  rw [stA1_2, schA1_2]; kernel_rfl
theorem stA1_4 : W8.steps kW (schedW (tb blkA1)) ⟨1779033703#32, 3144134277#32, 1013904242#32, 2773480762#32, 1359893119#32, 2600822924#32, 528734635#32, 1541459225#32⟩ 4 = ⟨1007451165#32, 1631581718#32, 4043221311#32, 172532494#32, 1853034856#32, 1660563187#32, 1253422075#32, 2802318691#32⟩ := by
  show (W8.steps kW (schedW (tb blkA1)) ⟨1779033703#32, 3144134277#32, 1013904242#32, 2773480762#32, 1359893119#32, 2600822924#32, 528734635#32, 1541459225#32⟩ 3).step (kW 3) (schedW (tb blkA1) 3) = _
  rw [stA1_3, schA1_3]; kernel_rfl
theorem stA1_5 : W8.steps kW (schedW (tb blkA1)) ⟨1779033703#32, 3144134277#32, 1013904242#32, 2773480762#32, 1359893119#32, 2600822924#32, 528734635#32, 1541459225#32⟩ 5 = ⟨24701360#32, 1007451165#32, 1631581718#32, 4043221311#32, 4251452683#32, 1853034856#32, 1660563187#32, 1253422075#32⟩ := by
  show (W8.steps kW (schedW (tb blkA1)) ⟨1779033703#32, 3144134277#32, 1013904242#32, 2773480762#32, 1359893119#32, 2600822924#32, 528734635#32, 1541459225#32⟩ 4).step (kW 4) (schedW (tb blkA1) 4) = _
  rw [stA1_4, schA1_4]; kernel_rfl
theorem stA1_6 : W8.steps kW (schedW (tb blkA1)) ⟨1779033703#32, 3144134277#32, 1013904242#32, 2773480762#32, 1359893119#32, 2600822924#32, 528734635#32, 1541459225#32⟩ 6 = ⟨1410178758#32, 24701360#32, 1007451165#32, 1631581718#32, 1968593475#32, 4251452683#32, 1853034856#32, 1660563187#32⟩ := by
  show (W8.steps kW (schedW (tb blkA1)) ⟨1779033703#32, 3144134277#32, 1013904242#32, 2773480762#32, 1359893119#32, 2600822924#32, 528734635#32, 1541459225#32⟩ 5).step (kW 5) (schedW (tb blkA1) 5) = _
  rw [stA1_5, schA1_5]; kernel_rfl
theorem stA1_7 : W8.steps kW (schedW (tb blkA1)) ⟨1779033703#32, 3144134277#32, 1013904242#32, 2773480762#32, 1359893119#32, 2600822924#32, 528734635#32, 1541459225#32⟩ 7 = ⟨46110257#32, 1410178758#32, 24701360#32, 1007451165#32, 4205293862#32, 1968593475#32, 4251452683#32, 1853034856#32⟩ := by
  show (W8.steps kW (schedW (tb blkA1)) ⟨1779033703#32, 3144134277#32, 1013904242#32, 2773480762#32, 1359893119#32, 2600822924#32, 528734635#32, 1541459225#32⟩ 6).step (kW 6) (schedW (tb blkA1) 6) = _
  rw [stA1_6, schA1_6]; kernel_rfl
theorem stA1_8 : W8.steps kW (schedW (tb blkA1)) ⟨1779033703#32, 3144134277#32, 1013904242#32, 2773480762#32, 1359893119#32, 2600822924#32, 528734635#32, 1541459225#32⟩ 8 = ⟨3250448119#32, 46110257#32, 1410178758#32, 24701360#32, 3993866218#32, 4205293862#32, 1968593475#32, 4251452683#32⟩ := by
  show (W8.steps kW (schedW (tb blkA1)) ⟨1779033703#32, 3144134277#32, 1013904242#32, 2773480762#32, 1359893119#32, 2600822924#32, 528734635#32, 1541459225#32⟩ 7).step (kW 7) (schedW (tb blkA1) 7) = _
  rw [stA1_7, schA1_7]; kernel_rfl
theorem stA1_9 : W8.steps kW (schedW (tb blkA1)) ⟨1779033703#32, 3144134277#32, 1013904242#32, 2773480762#32, 1359893119#32, 2600822924#32, 528734635#32, 1541459225#32⟩ 9 = ⟨3358063680#32, 3250448119#32, 46110257#32, 1410178758#32, 1486398373#32, 3993866218#32, 4205293862#32, 1968593475#32⟩ := by
  show (W8.steps kW (schedW (tb blkA1)) ⟨1779033703#32, 3144134277#32, 1013904242#32, 2773480762#32, 1359893119#32, 2600822924#32, 528734635#32, 1541459225#32⟩ 8).step (kW 8) (schedW (tb blkA1) 8) = _
  rw [stA1_8, schA1_8]; kernel_rfl
theorem stA1_10 : W8.steps kW (schedW (tb blkA1)) ⟨1779033703#32, 3144134277#32, 1013904242#32, 2773480762#32, 1359893119#32, 2600822924#32, 528734635#32, 1541459225#32⟩ 10 = ⟨1721161170#32, 3358063680#32, 3250448119#32, 46110257#32, 2850406680#32, 1486398373#32, 3993866218#32, 4205293862#32⟩ := by
  show (W8.steps kW (schedW (tb blkA1)) ⟨1779033703#32, 3144134277#32, 1013904242#32, 2773480762#32, 1359893119#32, 2600822924#32, 528734635#32, 1541459225#32⟩ 9).step (kW 9) (schedW (tb blkA1) 9) = _
  rw [stA1_9, schA1_9]; kernel_rfl
theorem stA1_11 : W8.steps kW (schedW (tb blkA1)) ⟨1779033703#32, 3144134277#32, 1013904242#32, 2773480762#32, 1359893119#32, 2600822924#32, 528734635#32, 1541459225#32⟩ 11 = ⟨2214846990#32, 1721161170#32, 3358063680#32, 3250448119#32, 1504295701#32, 2850406680#32, 1486398373#32, 3993866218#32⟩ := by
  show (W8.steps kW (schedW (tb blkA1)) ⟨1779033703#32, 3144134277#32, 1013904242#32, 2773480762#32, 1359893119#32, 2600822924#32, 528734635#32, 1541459225#32⟩ 10).step (kW 10) (schedW (tb blkA1) 10) = _
  rw [stA1_10, schA1_10]; kernel_rfl
theorem stA1_12 : W8.steps kW (schedW (tb blkA1)) ⟨1779033703#32, 3144134277#32, 1013904242#32, 2773480762#32, 1359893119#32, 2600822924#32, 528734635#32, 1541459225#32⟩ 12 = ⟨3910579672#32, 2214846990#32, 1721161170#32, 3358063680#32, 667928065#32, 1504295701#32, 2850406680#32, 1486398373#32⟩ := by
  show (W8.steps kW (schedW (tb blkA1)) ⟨1779033703#32, 3144134277#32, 1013904242#32, 2773480762#32, 1359893119#32, 2600822924#32, 528734635#32, 1541459225#32⟩ 11).step (kW 11) (schedW (tb blkA1) 11) = _
  rw [stA1_11, schA1_11]; kernel_rfl
theorem stA1_13 : W8.steps kW (schedW (tb blkA1)) ⟨1779033703#32, 3144134277#32, 1013904242#32, 2773480762#32, 1359893119#32, 2600822924#32, 528734635#32, 1541459225#32⟩ 13 = ⟨1627127068#32, 3910579672#32, 2214846990#32, 1721161170#32, 1991736603#32, 667928065#32, 1504295701#32, 2850406680#32⟩ := by
  show (W8.steps kW (schedW (tb blkA1)) ⟨1779033703#32, 3144134277#32, 1013904242#32, 2773480762#32, 1359893119#32, 2600822924#32, 528734635#32, 1541459225#32⟩ 12).step (kW 12) (schedW (tb blkA1) 12) = _
  rw [stA1_12, schA1_12]; kernel_rfl
theorem stA1_14 : W8.steps kW (schedW (tb blkA1)) ⟨1779033703#32, 3144134277#32, 1013904242#32, 2773480762#32, 1359893119#32, 2600822924#32, 528734635#32, 1541459225#32⟩ 14 = ⟨617772072#32, 1627127068#32, 3910579672#32, 2214846990#32, 2351680451#32, 1991736603#32, 667928065#32, 1504295701#32⟩ := by
  show (W8.steps kW (schedW (tb blkA1)) ⟨1779033703#32, 3144134277#32, 1013904242#32, 2773480762#32, 1359893119#32, 2600822924#32, 528734635#32, 1541459225#32⟩ 13).step (kW 13) (schedW (tb blkA1) 13) = _
  rw [stA1_13, schA1_13]; kernel_rfl
theorem stA1_15 : W8.steps kW (schedW (tb blkA1)) ⟨1779033703#32, 3144134277#32, 1013904242#32, 2773480762#32, 1359893119#32, 2600822924#32, 528734635#32, 1541459225#32⟩ 15 = ⟨4190118055#32, 617772072#32, 1627127068#32, 3910579672#32, 994833043#32, 2351680451#32, 1991736603#32, 667928065#32⟩ := by
  show (W8.steps kW (schedW (tb blkA1)) ⟨1779033703#32, 3144134277#32, 1013904242#32, 2773480762#32, 1359893119#32, 2600822924#32, 528734635#32, 1541459225#32⟩ 14).step (kW 14) (schedW (tb blkA1) 14) = _
  rw [stA1_14, schA1_14]; kernel_rfl
theorem stA1_16 : W8.steps kW (schedW (tb blkA1)) ⟨1779033703#32, 3144134277#32, 1013904242#32, 2773480762#32, 1359893119#32, 2600822924#32, 528734635#32, 1541459225#32⟩ 16 = ⟨2222234202#32, 4190118055#32, 617772072#32, 1627127068#32, 283869751#32, 994833043#32, 2351680451#32, 1991736603#32⟩ := by
  show (W8.steps kW (schedW (tb blkA1)) ⟨1779033703#32, 3144134277#32, 1013904242#32, 2773480762#32, 1359893119#32, 2600822924#32, 528734635#32, 1541459225#32⟩ 15).step (kW 15) (schedW (tb blkA1) 15) = _
  rw [stA1_15, schA1_15]; kernel_rfl
theorem stA1_17 : W8.steps kW (schedW (tb blkA1)) ⟨1779033703#32, 3144134277#32, 1013904242#32, 2773480762#32, 1359893119#32, 2600822924#32, 528734635#32, 1541459225#32⟩ 17 = ⟨587262657#32, 2222234202#32, 4190118055#32, 617772072#32, 1032603792#32, 283869751#32, 994833043#32, 2351680451#32⟩ := by
  show (W8.steps kW (schedW (tb blkA1)) ⟨1779033703#32, 3144134277#32, 1013904242#32, 2773480762#32, 1359893119#32, 2600822924#32, 528734635#32, 1541459225#32⟩ 16).step (kW 16) (schedW (tb blkA1) 16) = _
  rw [stA1_16, schA1_16]; kernel_rfl
theorem stA1_18 : W8.steps kW (schedW (tb blkA1)) ⟨1779033703#32, 3144134277#32, 1013904242#32, 2773480762#32, 1359893119#32, 2600822924#32, 528734635#32, 1541459225#32⟩ 18 = ⟨2118799397#32, 587262657#32, 2222234202#32, 4190118055#32, 3833197391#32, 1032603792#32, 283869751#32, 994833043#32⟩ := by
  show (W8.steps kW (schedW (tb blkA1)) ⟨1779033703#32, 3144134277#32, 1013904242#32, 2773480762#32, 1359893119#32, 2600822924#32, 528734635#32, 1541459225#32⟩ 17).step (kW 17) (schedW (tb blkA1) 17) = _
  rw [stA1_17, schA1_17]; kernel_rfl
theorem stA1_19 : W8.steps kW (schedW (tb blkA1)) ⟨1779033703#32, 3144134277#32, 1013904242#32, 2773480762#32, 1359893119#32, 2600822924#32, 528734635#32, 1541459225#32⟩ 19 = ⟨3486077005#32, 2118799397#32, 587262657#32, 2222234202#32, 2874057489#32, 3833197391#32, 1032603792#32, 283869751#32⟩ := by
  show (W8.steps kW (schedW (tb blkA1)) ⟨1779033703#32, 3144134277#32, 1013904242#32, 2773480762#32, 1359893119#32, 2600822924#32, 528734635#32, 1541459225#32⟩ 18).step (kW 18) (schedW (tb blkA1) 18) = _
  rw [stA1_18, schA1_18]; kernel_rfl
theorem stA1_20 : W8.steps kW (schedW (tb blkA1)) ⟨1779033703#32, 3144134277#32, 1013904242#32, 2773480762#32, 1359893119#32, 2600822924#32, 528734635#32, 1541459225#32⟩ 20 = ⟨912192021#32, 3486077005#32, 2118799397#32, 587262657#32, 1991122628#32, 2874057489#32, 3833197391#32, 1032603792#32⟩ := by
  show (W8.steps kW (schedW (tb blkA1)) ⟨1779033703#32, 3144134277#32, 1013904242#32, 2773480762#32, 1359893119#32, 2600822924#32, 528734635#32, 1541459225#32⟩ 19).step (kW 19) (schedW (tb blkA1) 19) = _
  rw [stA1_19, schA1_19]; kernel_rfl
theorem stA1_21 : W8.steps kW (schedW (tb blkA1)) ⟨1779033703#32, 3144134277#32, 1013904242#32, 2773480762#32, 1359893119#32, 2600822924#32, 528734635#32, 1541459225#32⟩ 21 = ⟨3061406714#32, 912192021#32, 3486077005#32, 2118799397#32, 3023674379#32, 1991122628#32, 2874057489#32, 3833197391#32⟩ := by
  show (W8.steps kW (schedW (tb blkA1)) ⟨1779033703#32, 3144134277#32, 1013904242#32, 2773480762#32, 1359893119#32, 2600822924#32, 528734635#32, 1541459225#32⟩ 20).step (kW 20) (schedW (tb blkA1) 20) = _
  rw [stA1_20, schA1_20]; kernel_rfl
theorem stA1_22 : W8.steps kW (schedW (tb blkA1)) ⟨1779033703#32, 3144134277#32, 1013904242#32, 2773480762#32, 1359893119#32, 2600822924#32, 528734635#32, 1541459225#32⟩ 22 = ⟨1652353763#32, 3061406714#32, 912192021#32, 3486077005#32, 2471090366#32, 3023674379#32, 1991122628#32, 2874057489#32⟩ := by
  show (W8.steps kW (schedW (tb blkA1)) ⟨1779033703#32, 3144134277#32, 1013904242#32, 2773480762#32, 1359893119#32, 2600822924#32, 528734635#32, 1541459225#32⟩ 21).step (kW 21) (schedW (tb blkA1) 21) = _
  rw [stA1_21, schA1_21]; kernel_rfl
theorem stA1_23 : W8.steps kW (schedW (tb blkA1)) ⟨1779033703#32, 3144134277#32, 1013904242#32, 2773480762#32, 1359893119#32, 2600822924#32, 528734635#32, 1541459225#32⟩ 23 = ⟨2050112474#32, 1652353763#32, 3061406714#32, 912192021#32, 2538531934#32, 2471090366#32, 3023674379#32, 1991122628#32⟩ := by
  show (W8.steps kW (schedW (tb blkA1)) ⟨1779033703#32, 3144134277#32, 1013904242#32, 2773480762#32, 1359893119#32, 2600822924#32, 528734635#32, 1541459225#32⟩ 22).step (kW 22) (schedW (tb blkA1) 22) = _
  rw [stA1_22, schA1_22]; kernel_rfl
theorem stA1_24 : W8.steps kW (schedW (tb blkA1)) ⟨1779033703#32, 3144134277#32, 1013904242#32, 2773480762#32, 1359893119#32, 2600822924#32, 528734635#32, 1541459225#32⟩ 24 = ⟨2181842432#32, 2050112474#32, 1652353763#32, 3061406714#32, 3175253388#32, 2538531934#32, 2471090366#32, 3023674379#32⟩ := by
  show (W8.steps kW (schedW (tb blkA1)) ⟨1779033703#32, 3144134277#32, 1013904242#32, 2773480762#32, 1359893119#32, 2600822924#32, 528734635#32, 1541459225#32⟩ 23).step (kW 23) (schedW (tb blkA1) 23) = _
  rw [stA1_23, schA1_23]; kernel_rfl
theorem stA1_25 : W8.steps kW (schedW (tb blkA1)) ⟨1779033703#32, 3144134277#32, 1013904242#32, 2773480762#32, 1359893119#32, 2600822924#32, 528734635#32, 1541459225#32⟩ 25 = ⟨4285870924#32, 2181842432#32, 2050112474#32, 1652353763#32, 840114330#32, 3175253388#32, 2538531934#32, 2471090366#32⟩ := by
  show (W8.steps kW (schedW (tb blkA1)) ⟨1779033703#32, 3144134277#32, 1013904242#32, 2773480762#32, 1359893119#32, 2600822924#32, 528734635#32, 1541459225#32⟩ 24).step (kW 24) (schedW (tb blkA1) 24) = _
  rw [stA1_24, schA1_24]; kernel_rfl
theorem stA1_26 : W8.steps kW (schedW (tb blkA1)) ⟨1779033703#32, 3144134277#32, 1013904242#32, 2773480762#32, 1359893119#32, 2600822924#32, 528734635#32, 1541459225#32⟩ 26 = ⟨3171658938#32, 4285870924#32, 2181842432#32, 2050112474#32, 3017596878#32, 840114330#32, 3175253388#32, 2538531934#32⟩ := by
  show (W8.steps kW (schedW (tb blkA1)) ⟨1779033703#32, 3144134277#32, 1013904242#32, 2773480762#32, 1359893119#32, 2600822924#32, 528734635#32, 1541459225#32⟩ 25).step (kW 25) (schedW (tb blkA1) 25) = _
  rw [stA1_25, schA1_25]; kernel_rfl
theorem stA1_27 : W8.steps kW (schedW (tb blkA1)) ⟨1779033703#32, 3144134277#32, 1013904242#32, 2773480762#32, 1359893119#32, 2600822924#32, 528734635#32, 1541459225#32⟩ 27 = ⟨1909490619#32, 3171658938#32, 4285870924#32, 2181842432#32, 1221570566#32, 3017596878#32, 840114330#32, 3175253388#32⟩ := by
  show (W8.steps kW (schedW (tb blkA1)) ⟨1779033703#32, 3144134277#32, 1013904242#32, 2773480762#32, 1359893119#32, 2600822924#32, 528734635#32, 1541459225#32⟩ 26).step (kW 26) (schedW (tb blkA1) 26) = _
  rw [stA1_26, schA1_26]; kernel_rfl
theorem stA1_28 : W8.steps kW (schedW (tb blkA1)) ⟨1779033703#32, 3144134277#32, 1013904242#32, 2773480762#32, 1359893119#32, 2600822924#32, 528734635#32, 1541459225#32⟩ 28 = ⟨4225965992#32, 1909490619#32, 3171658938#32, 4285870924#32, 4244405825#32, 1221570566#32, 3017596878#32, 840114330#32⟩ := by
  show (W8.steps kW (schedW (tb blkA1)) ⟨1779033703#32, 3144134277#32, 1013904242#32, 2773480762#32, 1359893119#32, 2600822924#32, 528734635#32, 1541459225#32⟩ 27).step (kW 27) (schedW (tb blkA1) 27) = _
  rw [stA1_27, schA1_27]; kernel_rfl
theorem stA1_29 : W8.steps kW (schedW (tb blkA1)) ⟨1779033703#32, 3144134277#32, 1013904242#32, 2773480762#32, 1359893119#32, 2600822924#32, 528734635#32, 1541459225#32⟩ 29 = ⟨3405701072#32, 4225965992#32, 1909490619#32, 3171658938#32, 2163132485#32, 4244405825#32, 1221570566#32, 3017596878#32⟩ := by
  show (W8.steps kW (schedW (tb blkA1)) ⟨1779033703#32, 3144134277#32, 1013904242#32, 2773480762#32, 1359893119#32, 2600822924#32, 528734635#32, 1541459225#32⟩ 28).step (kW 28) (schedW (tb blkA1) 28) = _
  rw [stA1_28, schA1_28]; kernel_rfl
theorem stA1_30 : W8.steps kW (schedW (tb blkA1)) ⟨1779033703#32, 3144134277#32, 1013904242#32, 2773480762#32, 1359893119#32, 2600822924#32, 528734635#32, 1541459225#32⟩ 30 = ⟨2668588013#32, 3405701072#32, 4225965992#32, 1909490619#32, 685888966#32, 2163132485#32, 4244405825#32, 1221570566#32⟩ := by
  show (W8.steps kW (schedW (tb blkA1)) ⟨1779033703#32, 3144134277#32, 1013904242#32, 2773480762#32, 1359893119#32, 2600822924#32, 528734635#32, 1541459225#32⟩ 29).step (kW 29) (schedW (tb blkA1) 29) = _
  rw [stA1_29, schA1_29]; kernel_rfl
theorem stA1_31 : W8.steps kW (schedW (tb blkA1)) ⟨1779033703#32, 3144134277#32, 1013904242#32, 2773480762#32, 1359893119#32, 2600822924#32, 528734635#32, 1541459225#32⟩ 31 = ⟨2067530890#32, 2668588013#32, 3405701072#32, 4225965992#32, 203199329#32, 685888966#32, 2163132485#32, 4244405825#32⟩ := by
  show (W8.steps kW (schedW (tb blkA1)) ⟨1779033703#32, 3144134277#32, 1013904242#32, 2773480762#32, 1359893119#32, 2600822924#32, 528734635#32, 1541459225#32⟩ 30).step (kW 30) (schedW (tb blkA1) 30) = _
  rw [stA1_30, schA1_30]; kernel_rfl
theorem stA1_32 : W8.steps kW (schedW (tb blkA1)) ⟨1779033703#32, 3144134277#32, 1013904242#32, 2773480762#32, 1359893119#32, 2600822924#32, 528734635#32, 1541459225#32⟩ 32 = ⟨2881499832#32, 2067530890#32, 2668588013#32, 3405701072#32, 2178290026#32, 203199329#32, 685888966#32, 2163132485#32⟩ := by
  show (W8.steps kW (schedW (tb blkA1)) ⟨1779033703#32, 3144134277#32, 1013904242#32, 2773480762#32, 1359893119#32, 2600822924#32, 528734635#32, 1541459225#32⟩ 31).step (kW 31) (schedW (tb blkA1) 31) = _
  rw [stA1_31, schA1_31]; kernel_rfl
theorem stA1_33 : W8.steps kW (schedW (tb blkA1)) ⟨1779033703#32, 3144134277#32, 1013904242#32, 2773480762#32, 1359893119#32, 2600822924#32, 528734635#32, 1541459225#32⟩ 33 = ⟨3206685380#32, 2881499832#32, 2067530890#32, 2668588013#32, 253046764#32, 2178290026#32, 203199329#32, 685888966#32⟩ := by
  show (W8.steps kW (schedW (tb blkA1)) ⟨1779033703#32, 3144134277#32, 1013904242#32, 2773480762#32, 1359893119#32, 2600822924#32, 528734635#32, 1541459225#32⟩ 32).step (kW 32) (schedW (tb blkA1) 32) = _
  rw [stA1_32, schA1_32]; kernel_rfl
theorem stA1_34 : W8.steps kW (schedW (tb blkA1)) ⟨1779033703#32, 3144134277#32, 1013904242#32, 2773480762#32, 1359893119#32, 2600822924#32, 528734635#32, 1541459225#32⟩ 34 = ⟨936625262#32, 3206685380#32, 2881499832#32, 2067530890#32, 1784457847#32, 253046764#32, 2178290026#32, 203199329#32⟩ := by
  show (W8.steps kW (schedW (tb blkA1)) ⟨1779033703#32, 3144134277#32, 1013904242#32, 2773480762#32, 1359893119#32, 2600822924#32, 528734635#32, 1541459225#32⟩ 33).step (kW 33) (schedW (tb blkA1) 33) = _
  rw [stA1_33, schA1_33]; kernel_rfl
theorem stA1_35 : W8.steps kW (schedW (tb blkA1)) ⟨1779033703#32, 3144134277#32, 1013904242#32, 2773480762#32, 1359893119#32, 2600822924#32, 528734635#32, 1541459225#32⟩ 35 = ⟨2615181037#32, 936625262#32, 3206685380#32, 2881499832#32, 1975871793#32, 1784457847#32, 253046764#32, 2178290026#32⟩ := by
  show (W8.steps kW (schedW (tb blkA1)) ⟨1779033703#32, 3144134277#32, 1013904242#32, 2773480762#32, 1359893119#32, 2600822924#32, 528734635#32, 1541459225#32⟩ 34).step (kW 34) (schedW (tb blkA1) 34) = _
  rw [stA1_34, schA1_34]; kernel_rfl
theorem stA1_36 : W8.steps kW (schedW (tb blkA1)) ⟨1779033703#32, 3144134277#32, 1013904242#32, 2773480762#32, 1359893119#32, 2600822924#32, 528734635#32, 1541459225#32⟩ 36 = ⟨727926109#32, 2615181037#32, 936625262#32, 3206685380#32, 114399826#32, 1975871793#32, 1784457847#32, 253046764#32⟩ := by
  show (W8.steps kW (schedW (tb blkA1)) ⟨1779033703#32, 3144134277#32, 1013904242#32, 2773480762#32, 1359893119#32, 2600822924#32, 528734635#32, 1541459225#32⟩ 35).step (kW 35) (schedW (tb blkA1) 35) = _
  rw [stA1_35, schA1_35]; kernel_rfl
theorem stA1_37 : W8.steps kW (schedW (tb blkA1)) ⟨1779033703#32, 3144134277#32, 1013904242#32, 2773480762#32, 1359893119#32, 2600822924#32, 528734635#32, 1541459225#32⟩ 37 = ⟨703836147#32, 727926109#32, 2615181037#32, 936625262#32, 3222114154#32, 114399826#32, 1975871793#32, 1784457847#32⟩ := by
  show (W8.steps kW (schedW (tb blkA1)) ⟨1779033703#32, 3144134277#32, 1013904242#32, 2773480762#32, 1359893119#32, 2600822924#32, 528734635#32, 1541459225#32⟩ 36).step (kW 36) (schedW (tb blkA1) 36) = _
  rw [stA1_36, schA1_36]; kernel_rfl
theorem stA1_38 : W8.steps kW (schedW (tb blkA1)) ⟨1779033703#32, 3144134277#32, 1013904242#32, 2773480762#32, 1359893119#32, 2600822924#32, 528734635#32, 1541459225#32⟩ 38 = ⟨3361918047#32, 703836147#32, 727926109#32, 2615181037#32, 1492695050#32, 3222114154#32, 114399826#32, 1975871793#32⟩ := by
  show (W8.steps kW (schedW (tb blkA1)) ⟨1779033703#32, 3144134277#32, 1013904242#32, 2773480762#32, 1359893119#32, 2600822924#32, 528734635#32, 1541459225#32⟩ 37).step (kW 37) (schedW (tb blkA1) 37) = _
  rw [stA1_37, schA1_37]; kernel_rfl
theorem stA1_39 : W8.steps kW (schedW (tb blkA1)) ⟨1779033703#32, 3144134277#32, 1013904242#32, 2773480762#32, 1359893119#32, 2600822924#32, 528734635#32, 1541459225#32⟩ 39 = ⟨2589091980#32, 3361918047#32, 703836147#32, 727926109#32, 4042754810#32, 1492695050#32, 3222114154#32, 114399826#32⟩ := by
  show (W8.steps kW (schedW (tb blkA1)) ⟨1779033703#32, 3144134277#32, 1013904242#32, 2773480762#32, 1359893119#32, 2600822924#32, 528734635#32, 1541459225#32⟩ 38).step (kW 38) (schedW (tb blkA1) 38) = _
  rw [stA1_38, schA1_38]; kernel_rfl
theorem stA1_40 : W8.steps kW (schedW (tb blkA1)) ⟨1779033703#32, 3144134277#32, 1013904242#32, 2773480762#32, 1359893119#32, 2600822924#32, 528734635#32, 1541459225#32⟩ 40 = ⟨2808530695#32, 2589091980#32, 3361918047#32, 703836147#32, 520397996#32, 4042754810#32, 1492695050#32, 3222114154#32⟩ := by
  show (W8.steps kW (schedW (tb blkA1)) ⟨1779033703#32, 3144134277#32, 1013904242#32, 2773480762#32, 1359893119#32, 2600822924#32, 528734635#32, 1541459225#32⟩ 39).step (kW 39) (schedW (tb blkA1) 39) = _
  rw [stA1_39, schA1_39]; kernel_rfl
theorem stA1_41 : W8.steps kW (schedW (tb blkA1)) ⟨1779033703#32, 3144134277#32, 1013904242#32, 2773480762#32, 1359893119#32, 2600822924#32, 528734635#32, 1541459225#32⟩ 41 = ⟨2609167795#32, 2808530695#32, 2589091980#32, 3361918047#32, 4028435757#32, 520397996#32, 4042754810#32, 1492695050#32⟩ := by
  show (W8.steps kW (schedW (tb blkA1)) ⟨1779033703#32, 3144134277#32, 1013904242#32, 2773480762#32, 1359893119#32, 2600822924#32, 528734635#32, 1541459225#32⟩ 40).step (kW 40) (schedW (tb blkA1) 40) = _
  rw [stA1_40, schA1_40]; kernel_rfl
theorem stA1_42 : W8.steps kW (schedW (tb blkA1)) ⟨1779033703#32, 3144134277#32, 1013904242#32, 2773480762#32, 1359893119#32, 2600822924#32, 528734635#32, 1541459225#32⟩ 42 = ⟨3234219236#32, 2609167795#32, 2808530695#32, 2589091980#32, 3562464917#32, 4028435757#32, 520397996#32, 4042754810#32⟩ := by
  show (W8.steps kW (schedW (tb blkA1)) ⟨1779033703#32, 3144134277#32, 1013904242#32, 2773480762#32, 1359893119#32, 2600822924#32, 528734635#32, 1541459225#32⟩ 41).step (kW 41) (schedW (tb blkA1) 41) = _
  rw [stA1_41, schA1_41]; kernel_rfl
theorem stA1_43 : W8.steps kW (schedW (tb blkA1)) ⟨1779033703#32, 3144134277#32, 1013904242#32, 2773480762#32, 1359893119#32, 2600822924#32, 528734635#32, 1541459225#32⟩ 43 = ⟨281517804#32, 3234219236#32, 2609167795#32, 2808530695#32, 424623561#32, 3562464917#32, 4028435757#32, 520397996#32⟩ := by
  show (W8.steps kW (schedW (tb blkA1)) ⟨1779033703#32, 3144134277#32, 1013904242#32, 2773480762#32, 1359893119#32, 2600822924#32, 528734635#32, 1541459225#32⟩ 42).step (kW 42) (schedW (tb blkA1) 42) = _
  rw [stA1_42, schA1_42]; kernel_rfl
theorem stA1_44 : W8.steps kW (schedW (tb blkA1)) ⟨1779033703#32, 3144134277#32, 1013904242#32, 2773480762#32, 1359893119#32, 2600822924#32, 528734635#32, 1541459225#32⟩ 44 = ⟨3027942909#32, 281517804#32, 3234219236#32, 2609167795#32, 3723499100#32, 424623561#32, 3562464917#32, 4028435757#32⟩ := by
  show (W8.steps kW (schedW (tb blkA1)) ⟨1779033703#32, 3144134277#32, 1013904242#32, 2773480762#32, 1359893119#32, 2600822924#32, 528734635#32, 1541459225#32⟩ 43).step (kW 43) (schedW (tb blkA1) 43) = _
  rw [stA1_43, schA1_43]; kernel_rfl
theorem stA1_45 : W8.steps kW (schedW (tb blkA1)) ⟨1779033703#32, 3144134277#32, 1013904242#32, 2773480762#32, 1359893119#32, 2600822924#32, 528734635#32, 1541459225#32⟩ 45 = ⟨1485937446#32, 3027942909#32, 281517804#32, 3234219236#32, 4215980402#32, 3723499100#32, 424623561#32, 3562464917#32⟩ := by
  show (W8.steps kW (schedW (tb blkA1)) ⟨1779033703#32, 3144134277#32, 1013904242#32, 2773480762#32, 1359893119#32, 2600822924#32, 528734635#32, 1541459225#32⟩ 44).step (kW 44) (schedW (tb blkA1) 44) = _
  rw [stA1_44, schA1_44]; kernel_rfl
theorem stA1_46 : W8.steps kW (schedW (tb blkA1)) ⟨1779033703#32, 3144134277#32, 1013904242#32, 2773480762#32, 1359893119#32, 2600822924#32, 528734635#32, 1541459225#32⟩ 46 = ⟨3971041726#32, 1485937446#32, 3027942909#32, 281517804#32, 2468983695#32, 4215980402#32, 3723499100#32, 424623561#32⟩ := by
  show (W8.steps kW (schedW (tb blkA1)) ⟨1779033703#32, 3144134277#32, 1013904242#32, 2773480762#32, 1359893119#32, 2600822924#32, 528734635#32, 1541459225#32⟩ 45).step (kW 45) (schedW (tb blkA1) 45) = _
  rw [stA1_45, schA1_45]; kernel_rfl
theorem stA1_47 : W8.steps kW (schedW (tb blkA1)) ⟨1779033703#32, 3144134277#32, 1013904242#32, 2773480762#32, 1359893119#32, 2600822924#32, 528734635#32, 1541459225#32⟩ 47 = ⟨1734974357#32, 3971041726#32, 1485937446#32, 3027942909#32, 1199690860#32, 2468983695#32, 4215980402#32, 3723499100#32⟩ := by
  show (W8.steps kW (schedW (tb blkA1)) ⟨1779033703#32, 3144134277#32, 1013904242#32, 2773480762#32, 1359893119#32, 2600822924#32, 528734635#32, 1541459225#32⟩ 46).step (kW 46) (schedW (tb blkA1) 46) = _
  rw [stA1_46, schA1_46]; kernel_rfl
theorem stA1_48 : W8.steps kW (schedW (tb blkA1)) ⟨1779033703#32, 3144134277#32, 1013904242#32, 2773480762#32, 1359893119#32, 2600822924#32, 528734635#32, 1541459225#32⟩ 48 = ⟨1899472070#32, 1734974357#32, 3971041726#32, 1485937446#32, 2514599641#32, 1199690860#32, 2468983695#32, 4215980402#32⟩ := by
  show (W8.steps kW (schedW (tb blkA1)) ⟨1779033703#32, 3144134277#32, 1013904242#32, 2773480762#32, 1359893119#32, 2600822924#32, 528734635#32, 1541459225#32⟩ 47).step (kW 47) (schedW (tb blkA1) 47) = _
  rw [stA1_47, schA1_47]; kernel_rfl
theorem stA1_49 : W8.steps kW (schedW (tb blkA1)) ⟨1779033703#32, 3144134277#32, 1013904242#32, 2773480762#32, 1359893119#32, 2600822924#32, 528734635#32, 1541459225#32⟩ 49 = ⟨2564901000#32, 1899472070#32, 1734974357#32, 3971041726#32, 659808464#32, 2514599641#32, 1199690860#32, 2468983695#32⟩ := by
  show (W8.steps kW (schedW (tb blkA1)) ⟨1779033703#32, 3144134277#32, 1013904242#32, 2773480762#32, 1359893119#32, 2600822924#32, 528734635#32, 1541459225#32⟩ 48).step (kW 48) (schedW (tb blkA1) 48) = _
  rw [stA1_48, schA1_48]; kernel_rfl
theorem stA1_50 : W8.steps kW (schedW (tb blkA1)) ⟨1779033703#32, 3144134277#32, 1013904242#32, 2773480762#32, 1359893119#32, 2600822924#32, 528734635#32, 1541459225#32⟩ 50 = ⟨2676572744#32, 2564901000#32, 1899472070#32, 1734974357#32, 863652919#32, 659808464#32, 2514599641#32, 1199690860#32⟩ := by
  show (W8.steps kW (schedW (tb blkA1)) ⟨1779033703#32, 3144134277#32, 1013904242#32, 2773480762#32, 1359893119#32, 2600822924#32, 528734635#32, 1541459225#32⟩ 49).step (kW 49) (schedW (tb blkA1) 49) = _
  rw [stA1_49, schA1_49]; kernel_rfl
theorem stA1_51 : W8.steps kW (schedW (tb blkA1)) ⟨1779033703#32, 3144134277#32, 1013904242#32, 2773480762#32, 1359893119#32, 2600822924#32, 528734635#32, 1541459225#32⟩ 51 = ⟨1995090744#32, 2676572744#32, 2564901000#32, 1899472070#32, 872642399#32, 863652919#32, 659808464#32, 2514599641#32⟩ := by
  show (W8.steps kW (schedW (tb blkA1)) ⟨1779033703#32, 3144134277#32, 1013904242#32, 2773480762#32, 1359893119#32, 2600822924#32, 528734635#32, 1541459225#32⟩ 50).step (kW 50) (schedW (tb blkA1) 50) = _
  rw [stA1_50, schA1_50]; kernel_rfl
theorem stA1_52 : W8.steps kW (schedW (tb blkA1)) ⟨1779033703#32, 3144134277#32, 1013904242#32, 2773480762#32, 1359893119#32, 2600822924#32, 528734635#32, 1541459225#32⟩ 52 = ⟨2176901377#32, 1995090744#32, 2676572744#32, 2564901000#32, 1698250623#32, 872642399#32, 863652919#32, 659808464#32⟩ := by
  show (W8.steps kW (schedW (tb blkA1)) ⟨1779033703#32, 3144134277#32, 1013904242#32, 2773480762#32, 1359893119#32, 2600822924#32, 528734635#32, 1541459225#32⟩ 51).step (kW 51) (schedW (tb blkA1) 51) = _
  rw [stA1_51, schA1_51]; kernel_rfl
theorem stA1_53 : W8.steps kW (schedW (tb blkA1)) ⟨1779033703#32, 3144134277#32, 1013904242#32, 2773480762#32, 1359893119#32, 2600822924#32, 528734635#32, 1541459225#32⟩ 53 = ⟨2809905711#32, 2176901377#32, 1995090744#32, 2676572744#32, 1016854383#32, 1698250623#32, 872642399#32, 863652919#32⟩ := by
  show (W8.steps kW (schedW (tb blkA1)) ⟨1779033703#32, 3144134277#32, 1013904242#32, 2773480762#32, 1359893119#32, 2600822924#32, 528734635#32, 1541459225#32⟩ 52).step (kW 52) (schedW (tb blkA1) 52) = _
  rw [stA1_52, schA1_52]; kernel_rfl
theorem stA1_54 : W8.steps kW (schedW (tb blkA1)) ⟨1779033703#32, 3144134277#32, 1013904242#32, 2773480762#32, 1359893119#32, 2600822924#32, 528734635#32, 1541459225#32⟩ 54 = ⟨884235943#32, 2809905711#32, 2176901377#32, 1995090744#32, 346507262#32, 1016854383#32, 1698250623#32, 872642399#32⟩ := by
  show (W8.steps kW (schedW (tb blkA1)) ⟨1779033703#32, 3144134277#32, 1013904242#32, 2773480762#32, 1359893119#32, 2600822924#32, 528734635#32, 1541459225#32⟩ 53).step (kW 53) (schedW (tb blkA1) 53) = _
  rw [stA1_53, schA1_53]; kernel_rfl
theorem stA1_55 : W8.steps kW (schedW (tb blkA1)) ⟨1779033703#32, 3144134277#32, 1013904242#32, 2773480762#32, 1359893119#32, 2600822924#32, 528734635#32, 1541459225#32⟩ 55 = ⟨3268161021#32, 884235943#32, 2809905711#32, 2176901377#32, 2857887797#32, 346507262#32, 1016854383#32, 1698250623#32⟩ := by
  show (W8.steps kW (schedW (tb blkA1)) ⟨1779033703#32, 3144134277#32, 1013904242#32, 2773480762#32, 1359893119#32, 2600822924#32, 528734635#32, 1541459225#32⟩ 54).step (kW 54) (schedW (tb blkA1) 54) = _
  rw [stA1_54, schA1_54]; kernel_rfl
theorem stA1_56 : W8.steps kW (schedW (tb blkA1)) ⟨1779033703#32, 3144134277#32, 1013904242#32, 2773480762#32, 1359893119#32, 2600822924#32, 528734635#32, 1541459225#32⟩ 56 = ⟨2862440451#32, 3268161021#32, 884235943#32, 2809905711#32, 1433864256#32, 2857887797#32, 346507262#32, 1016854383#32⟩ := by
  show (W8.steps kW (schedW (tb blkA1)) ⟨1779033703#32, 3144134277#32, 1013904242#32, 2773480762#32, 1359893119#32, 2600822924#32, 528734635#32, 1541459225#32⟩ 55).step (kW 55) (schedW (tb blkA1) 55) = _
  rw [stA1_55, schA1_55]; kernel_rfl
theorem stA1_57 : W8.steps kW (schedW (tb blkA1)) ⟨1779033703#32, 3144134277#32, 1013904242#32, 2773480762#32, 1359893119#32, 2600822924#32, 528734635#32, 1541459225#32⟩ 57 = ⟨1933968139#32, 2862440451#32, 3268161021#32, 884235943#32, 3639301714#32, 1433864256#32, 2857887797#32, 346507262#32⟩ := by
  show (W8.steps kW (schedW (tb blkA1)) ⟨1779033703#32, 3144134277#32, 1013904242#32, 2773480762#32, 1359893119#32, 2600822924#32, 528734635#32, 1541459225#32⟩ 56).step (kW 56) (schedW (tb blkA1) 56) = _
  rw [stA1_56, schA1_56]; kernel_rfl
theorem stA1_58 : W8.steps kW (schedW (tb blkA1)) ⟨1779033703#32, 3144134277#32, 1013904242#32, 2773480762#32, 1359893119#32, 2600822924#32, 528734635#32, 1541459225#32⟩ 58 = ⟨2237363009#32, 1933968139#32, 2862440451#32, 3268161021#32, 4206721438#32, 3639301714#32, 1433864256#32, 2857887797#32⟩ := by
  show (W8.steps kW (schedW (tb blkA1)) ⟨1779033703#32, 3144134277#32, 1013904242#32, 2773480762#32, 1359893119#32, 2600822924#32, 528734635#32, 1541459225#32⟩ 57).step (kW 57) (schedW (tb blkA1) 57) = _
  rw [stA1_57, schA1_57]; kernel_rfl
theorem stA1_59 : W8.steps kW (schedW (tb blkA1)) ⟨1779033703#32, 3144134277#32, 1013904242#32, 2773480762#32, 1359893119#32, 2600822924#32, 528734635#32, 1541459225#32⟩ 59 = ⟨1928206275#32, 2237363009#32, 1933968139#32, 2862440451#32, 4223857311#32, 4206721438#32, 3639301714#32, 1433864256#32⟩ := by
  show (W8.steps kW (schedW (tb blkA1)) ⟨1779033703#32, 3144134277#32, 1013904242#32, 2773480762#32, 1359893119#32, 2600822924#32, 528734635#32, 1541459225#32⟩ 58).step (kW 58) (schedW (tb blkA1) 58) = _
  rw [stA1_58, schA1_58]; kernel_rfl
theorem stA1_60 : W8.steps kW (schedW (tb blkA1)) ⟨1779033703#32, 3144134277#32, 1013904242#32, 2773480762#32, 1359893119#32, 2600822924#32, 528734635#32, 1541459225#32⟩ 60 = ⟨1539064680#32, 1928206275#32, 2237363009#32, 1933968139#32, 3087823069#32, 4223857311#32, 4206721438#32, 3639301714#32⟩ := by
  show (W8.steps kW (schedW (tb blkA1)) ⟨1779033703#32, 3144134277#32, 1013904242#32, 2773480762#32, 1359893119#32, 2600822924#32, 528734635#32, 1541459225#32⟩ 59).step (kW 59) (schedW (tb blkA1) 59) = _
  rw [stA1_59, schA1_59]; kernel_rfl
theorem stA1_61 : W8.steps kW (schedW (tb blkA1)) ⟨1779033703#32, 3144134277#32, 1013904242#32, 2773480762#32, 1359893119#32, 2600822924#32, 528734635#32, 1541459225#32⟩ 61 = ⟨530289014#32, 1539064680#32, 1928206275#32, 2237363009#32, 1111676138#32, 3087823069#32, 4223857311#32, 4206721438#32⟩ := by
  show (W8.steps kW (schedW (tb blkA1)) ⟨1779033703#32, 3144134277#32, 1013904242#32, 2773480762#32, 1359893119#32, 2600822924#32, 528734635#32, 1541459225#32⟩ 60).step (kW 60) (schedW (tb blkA1) 60) = _
  rw [stA1_60, schA1_60]; kernel_rfl
theorem stA1_62 : W8.steps kW (schedW (tb blkA1)) ⟨1779033703#32, 3144134277#32, 1013904242#32, 2773480762#32, 1359893119#32, 2600822924#32, 528734635#32, 1541459225#32⟩ 62 = ⟨271356967#32, 530289014#32, 1539064680#32, 1928206275#32, 3619042055#32, 1111676138#32, 3087823069#32, 4223857311#32⟩ := by
  show (W8.steps kW (schedW (tb blkA1)) ⟨1779033703#32, 3144134277#32, 1013904242#32, 2773480762#32, 1359893119#32, 2600822924#32, 528734635#32, 1541459225#32⟩ 61).step (kW 61) (schedW (tb blkA1) 61) = _
  rw [stA1_61, schA1_61]; kernel_rfl
theorem stA1_63 : W8.steps kW (schedW (tb blkA1)) ⟨1779033703#32, 3144134277#32, 1013904242#32, 2773480762#32, 1359893119#32, 2600822924#32, 528734635#32, 1541459225#32⟩ 63 = ⟨3043978298#32, 271356967#32, 530289014#32, 1539064680#32, 893237866#32, 3619042055#32, 1111676138#32, 3087823069#32⟩ := by
  show (W8.steps kW (schedW (tb blkA1)) ⟨1779033703#32, 3144134277#32, 1013904242#32, 2773480762#32, 1359893119#32, 2600822924#32, 528734635#32, 1541459225#32⟩ 62).step (kW 62) (schedW (tb blkA1) 62) = _
  rw [stA1_62, schA1_62]; kernel_rfl
theorem stA1_64 : W8.steps kW (schedW (tb blkA1)) ⟨1779033703#32, 3144134277#32, 1013904242#32, 2773480762#32, 1359893119#32, 2600822924#32, 528734635#32, 1541459225#32⟩ 64 = ⟨3277129520#32, 3043978298#32, 271356967#32, 530289014#32, 2560826306#32, 893237866#32, 3619042055#32, 1111676138#32⟩ := by
  show (W8.steps kW (schedW (tb blkA1)) ⟨1779033703#32, 3144134277#32, 1013904242#32, 2773480762#32, 1359893119#32, 2600822924#32, 528734635#32, 1541459225#32⟩ 63).step (kW 63) (schedW (tb blkA1) 63) = _
  rw [stA1_63, schA1_63]; kernel_rfl
theorem turnA1 : W8.turn kW ⟨1779033703#32, 3144134277#32, 1013904242#32, 2773480762#32, 1359893119#32, 2600822924#32, 528734635#32, 1541459225#32⟩ (tb blkA1) = ⟨761195927#32, 1893145279#32, 1285261209#32, 3303769776#32, 3920719425#32, 3494060790#32, 4147776690#32, 2653135363#32⟩ := by
  unfold W8.turn
  rw [stA1_64]; kernel_rfl
def blkA2 : List Nat := [131, 148, 200, 240, 62, 81, 87, 8, 128, 0, 0, 0, 0, 0, 0, 0, 0, 0, 0, 0, 0, 0, 0, 0, 0, 0, 0, 0, 0, 0, 0, 0, 0, 0, 0, 0, 0, 0, 0, 0, 0, 0, 0, 0, 0, 0, 0, 0, 0, 0, 0, 0, 0, 0, 0, 0, 0, 0, 0, 0, 0, 0, 2, 64]
theorem schA2_0 : schedW (tb blkA2) 0 = 2207566064#32 := by rw [schedW_low (tb blkA2) (by omega)]; kernel_rfl
theorem schA2_1 : schedW (tb blkA2) 1 = 1045518088#32 := by rw [schedW_low (tb blkA2) (by omega)]; kernel_rfl
theorem schA2_2 : schedW (tb blkA2) 2 = 2147483648#32 := by rw [schedW_low (tb blkA2) (by omega)]; kernel_rfl
theorem schA2_3 : schedW (tb blkA2) 3 = 0#32 := by rw [schedW_low (tb blkA2) (by omega)]; kernel_rfl
theorem schA2_4 : schedW (tb blkA2) 4 = 0#32 := by rw [schedW_low (tb blkA2) (by omega)]; kernel_rfl
theorem schA2_5 : schedW (tb blkA2) 5 = 0#32 := by rw [schedW_low (tb blkA2) (by omega)]; kernel_rfl
theorem schA2_6 : schedW (tb blkA2) 6 = 0#32 := by rw [schedW_low (tb blkA2) (by omega)]; kernel_rfl
theorem schA2_7 : schedW (tb blkA2) 7 = 0#32 := by rw [schedW_low (tb blkA2) (by omega)]; kernel_rfl
theorem schA2_8 : schedW (tb blkA2) 8 = 0#32 := by rw [schedW_low (tb blkA2) (by omega)]; kernel_rfl
theorem schA2_9 : schedW (tb blkA2) 9 = 0#32 := by rw [schedW_low (tb blkA2) (by omega)]; kernel_rfl
theorem schA2_10 : schedW (tb blkA2) 10 = 0#32 := by rw [schedW_low (tb blkA2) (by omega)]; kernel_rfl
theorem schA2_11 : schedW (tb blkA2) 11 = 0#32 := by rw [schedW_low (tb blkA2) (by omega)]; kernel_rfl
theorem schA2_12 : schedW (tb blkA2) 12 = 0#32 := by rw [schedW_low (tb blkA2) (by omega)]; kernel_rfl
theorem schA2_13 : schedW (tb blkA2) 13 = 0#32 := by rw [schedW_low (tb blkA2) (by omega)]; kernel_rfl
theorem schA2_14 : schedW (tb blkA2) 14 = 0#32 := by rw [schedW_low (tb blkA2) (by omega)]; kernel_rfl
theorem schA2_15 : schedW (tb blkA2) 15 = 576#32 := by rw [schedW_low (tb blkA2) (by omega)]; kernel_rfl
theorem schA2_16 : schedW (tb blkA2) 16 = 3322499275#32 := by
  rw [schedW_high (tb blkA2) (by omega)]
  show sig1 (schedW (tb blkA2) 14) + schedW (tb blkA2) 9 + sig0 (schedW (tb blkA2) 1) + schedW (tb blkA2) 0 = _
  rw [schA2_14, schA2_9, schA2_1, schA2_0]; kernel_rfl
theorem schA2_17 : schedW (tb blkA2) 17 = 1354331912#32 := by
  rw [schedW_high (tb blkA2) (by omega)]
  show sig1 (schedW (tb blkA2) 15) + schedW (tb blkA2) 10 + sig0 (schedW (tb blkA2) 2) + schedW (tb blkA2) 1 = _
  rw [schA2_15, schA2_10, schA2_2, schA2_1]; kernel_rfl
theorem schA2_18 : schedW (tb blkA2) 18 = 38607249#32 := by
  rw [schedW_high (tb blkA2) (by omega)]
  show sig1 (schedW (tb blkA2) 16) + schedW (tb blkA2) 11 + sig0 (schedW (tb blkA2) 3) + schedW (tb blkA2) 2 = _
  rw [schA2_16, schA2_11, schA2_3, schA2_2]; kernel_rfl
theorem schA2_19 : schedW (tb blkA2) 19 = 2507213846#32 := by
  rw [schedW_high (tb blkA2) (by omega)]
  show sig1 (schedW (tb blkA2) 17) + schedW (tb blkA2) 12 + sig0 (schedW (tb blkA2) 4) + schedW (tb blkA2) 3 = _
  rw [schA2_17, schA2_12, schA2_4, schA2_3]; kernel_rfl
theorem schA2_20 : schedW (tb blkA2) 20 = 804925993#32 := by
  rw [schedW_high (tb blkA2) (by omega)]
  show sig1 (schedW (tb blkA2) 18) + schedW (tb blkA2) 13 + sig0 (schedW (tb blkA2) 5) + schedW (tb blkA2) 4 = _
  rw [schA2_18, schA2_13, schA2_5, schA2_4]; kernel_rfl
theorem schA2_21 : schedW (tb blkA2) 21 = 2813117525#32 := by
  rw [schedW_high (tb blkA2) (by omega)]
  show sig1 (schedW (tb blkA2) 19) + schedW (tb blkA2) 14 + sig0 (schedW (tb blkA2) 6) + schedW (tb blkA2) 5 = _
  rw [schA2_19, schA2_14, schA2_6, schA2_5]; kernel_rfl
theorem schA2_22 : schedW (tb blkA2) 22 = 1599753934#32 := by
  rw [schedW_high (tb blkA2) (by omega)]
  show sig1 (schedW (tb blkA2) 20) + schedW (tb blkA2) 15 + sig0 (schedW (tb blkA2) 7) + schedW (tb blkA2) 6 = _
  rw [schA2_20, schA2_15, schA2_7, schA2_6]; kernel_rfl
theorem schA2_23 : schedW (tb blkA2) 23 = 3230850269#32 := by
  rw [schedW_high (tb blkA2) (by omega)]
  show sig1 (schedW (tb blkA2) 21) + schedW (tb blkA2) 16 + sig0 (schedW (tb blkA2) 8) + schedW (tb blkA2) 7 = _
  rw [schA2_21, schA2_16, schA2_8, schA2_7]; kernel_rfl
theorem schA2_24 : schedW (tb blkA2) 24 = 3210914269#32 := by
  rw [schedW_high (tb blkA2) (by omega)]
  show sig1 (schedW (tb blkA2) 22) + schedW (tb blkA2) 17 + sig0 (schedW (tb blkA2) 9) + schedW (tb blkA2) 8 = _
  rw [schA2_22, schA2_17, schA2_9, schA2_8]; kernel_rfl
theorem schA2_25 : schedW (tb blkA2) 25 = 940742269#32 := by
  rw [schedW_high (tb blkA2) (by omega)]
  show sig1 (schedW (tb blkA2) 23) + schedW (tb blkA2) 18 + sig0 (schedW (tb blkA2) 10) + schedW (tb blkA2) 9 = _
  rw [schA2_23, schA2_18, schA2_10, schA2_9]; kernel_rfl
theorem schA2_26 : schedW (tb blkA2) 26 = 2540420365#32 := by
  rw [schedW_high (tb blkA2) (by omega)]
  show sig1 (schedW (tb blkA2) 24) + schedW (tb blkA2) 19 + sig0 (schedW (tb blkA2) 11) + schedW (tb blkA2) 10 = _
  rw [schA2_24, schA2_19, schA2_11, schA2_10]; kernel_rfl
theorem schA2_27 : schedW (tb blkA2) 27 = 1241084375#32 := by
  rw [schedW_high (tb blkA2) (by omega)]
  show sig1 (schedW (tb blkA2) 25) + schedW (tb blkA2) 20 + sig0 (schedW (tb blkA2) 12) + schedW (tb blkA2) 11 = _
  rw [schA2_25, schA2_20, schA2_12, schA2_11]; kernel_rfl
theorem schA2_28 : schedW (tb blkA2) 28 = 1353672716#32 := by
  rw [schedW_high (tb blkA2) (by omega)]
  show sig1 (schedW (tb blkA2) 26) + schedW (tb blkA2) 21 + sig0 (schedW (tb blkA2) 13) + schedW (tb blkA2) 12 = _
  rw [schA2_26, schA2_21, schA2_13, schA2_12]; kernel_rfl
theorem schA2_29 : schedW (tb blkA2) 29 = 4129129069#32 := by
  rw [schedW_high (tb blkA2) (by omega)]
  show sig1 (schedW (tb blkA2) 27) + schedW (tb blkA2) 22 + sig0 (schedW (tb blkA2) 14) + schedW (tb blkA2) 13 = _
  rw [schA2_27, schA2_22, schA2_14, schA2_13]; kernel_rfl
theorem schA2_30 : schedW (tb blkA2) 30 = 2587256513#32 := by
  rw [schedW_high (tb blkA2) (by omega)]
  show sig1 (schedW (tb blkA2) 28) + schedW (tb blkA2) 23 + sig0 (schedW (tb blkA2) 15) + schedW (tb blkA2) 14 = _
  rw [schA2_28, schA2_23, schA2_15, schA2_14]; kernel_rfl
theorem schA2_31 : schedW (tb blkA2) 31 = 204027908#32 := by
  rw [schedW_high (tb blkA2) (by omega)]
  show sig1 (schedW (tb blkA2) 29) + schedW (tb blkA2) 24 + sig0 (schedW (tb blkA2) 16) + schedW (tb blkA2) 15 = _
  rw [schA2_29, schA2_24, schA2_16, schA2_15]; kernel_rfl
theorem schA2_32 : schedW (tb blkA2) 32 = 1160684333#32 := by
  rw [schedW_high (tb blkA2) (by omega)]
  show sig1 (schedW (tb blkA2) 30) + schedW (tb blkA2) 25 + sig0 (schedW (tb blkA2) 17) + schedW (tb blkA2) 16 = _
  rw [schA2_30, schA2_25, schA2_17, schA2_16]; kernel_rfl
theorem schA2_33 : schedW (tb blkA2) 33 = 122698630#32 := by
  rw [schedW_high (tb blkA2) (by omega)]
  show sig1 (schedW (tb blkA2) 31) + schedW (tb blkA2) 26 + sig0 (schedW (tb blkA2) 18) + schedW (tb blkA2) 17 = _
  rw [schA2_31, schA2_26, schA2_18, schA2_17]; kernel_rfl
theorem schA2_34 : schedW (tb blkA2) 34 = 1319777224#32 := by
  rw [schedW_high (tb blkA2) (by omega)]
  show sig1 (schedW (tb blkA2) 32) + schedW (tb blkA2) 27 + sig0 (schedW (tb blkA2) 19) + schedW (tb blkA2) 18 = _
  rw [schA2_32, schA2_27, schA2_19, schA2_18]; kernel_rfl
theorem schA2_35 : schedW (tb blkA2) 35 = 3690825037#32 := by
  rw [schedW_high (tb blkA2) (by omega)]
  show sig1 (schedW (tb blkA2) 33) + schedW (tb blkA2) 28 + sig0 (schedW (tb blkA2) 20) + schedW (tb blkA2) 19 = _
  rw [schA2_33, schA2_28, schA2_20, schA2_19]; kernel_rfl
theorem schA2_36 : schedW (tb blkA2) 36 = 341172619#32 := by
  rw [schedW_high (tb blkA2) (by omega)]
  show sig1 (schedW (tb blkA2) 34) + schedW (tb blkA2) 29 + sig0 (schedW (tb blkA2) 21) + schedW (tb blkA2) 20 = _
  rw [schA2_34, schA2_29, schA2_21, schA2_20]; kernel_rfl
theorem schA2_37 : schedW (tb blkA2) 37 = 3103997832#32 := by
  rw [schedW_high (tb blkA2) (by omega)]
  show sig1 (schedW (tb blkA2) 35) + schedW (tb blkA2) 30 + sig0 (schedW (tb blkA2) 22) + schedW (tb blkA2) 21 = _
  rw [schA2_35, schA2_30, schA2_22, schA2_21]; kernel_rfl
theorem schA2_38 : schedW (tb blkA2) 38 = 3441005232#32 := by
  rw [schedW_high (tb blkA2) (by omega)]
  show sig1 (schedW (tb blkA2) 36) + schedW (tb blkA2) 31 + sig0 (schedW (tb blkA2) 23) + schedW (tb blkA2) 22 = _
  rw [schA2_36, schA2_31, schA2_23, schA2_22]; kernel_rfl
theorem schA2_39 : schedW (tb blkA2) 39 = 79858472#32 := by
  rw [schedW_high (tb blkA2) (by omega)]
  show sig1 (schedW (tb blkA2) 37) + schedW (tb blkA2) 32 + sig0 (schedW (tb blkA2) 24) + schedW (tb blkA2) 23 = _
  rw [schA2_37, schA2_32, schA2_24, schA2_23]; kernel_rfl
theorem schA2_40 : schedW (tb blkA2) 40 = 450713749#32 := by
  rw [schedW_high (tb blkA2) (by omega)]
  show sig1 (schedW (tb blkA2) 38) + schedW (tb blkA2) 33 + sig0 (schedW (tb blkA2) 25) + schedW (tb blkA2) 24 = _
  rw [schA2_38, schA2_33, schA2_25, schA2_24]; kernel_rfl
theorem schA2_41 : schedW (tb blkA2) 41 = 2184036769#32 := by
  rw [schedW_high (tb blkA2) (by omega)]
  show sig1 (schedW (tb blkA2) 39) + schedW (tb blkA2) 34 + sig0 (schedW (tb blkA2) 26) + schedW (tb blkA2) 25 = _
  rw [schA2_39, schA2_34, schA2_26, schA2_25]; kernel_rfl
theorem schA2_42 : schedW (tb blkA2) 42 = 1990257252#32 := by
  rw [schedW_high (tb blkA2) (by omega)]
  show sig1 (schedW (tb blkA2) 40) + schedW (tb blkA2) 35 + sig0 (schedW (tb blkA2) 27) + schedW (tb blkA2) 26 = _
  rw [schA2_40, schA2_35, schA2_27, schA2_26]; kernel_rfl
theorem schA2_43 : schedW (tb blkA2) 43 = 2144040319#32 := by
  rw [schedW_high (tb blkA2) (by omega)]
  show sig1 (schedW (tb blkA2) 41) + schedW (tb blkA2) 36 + sig0 (schedW (tb blkA2) 28) + schedW (tb blkA2) 27 = _
  rw [schA2_41, schA2_36, schA2_28, schA2_27]; kernel_rfl
theorem schA2_44 : schedW (tb blkA2) 44 = 399162400#32 := by
  rw [schedW_high (tb blkA2) (by omega)]
  show sig1 (schedW (tb blkA2) 42) + schedW (tb blkA2) 37 + sig0 (schedW (tb blkA2) 29) + schedW (tb blkA2) 28 = _
  rw [schA2_42, schA2_37, schA2_29, schA2_28]; kernel_rfl
theorem schA2_45 : schedW (tb blkA2) 45 = 2701753974#32 := by
  rw [schedW_high (tb blkA2) (by omega)]
  show sig1 (schedW (tb blkA2) 43) + schedW (tb blkA2) 38 + sig0 (schedW (tb blkA2) 30) + schedW (tb blkA2) 29 = _
  rw [schA2_43, schA2_38, schA2_30, schA2_29]; kernel_rfl
theorem schA2_46 : schedW (tb blkA2) 46 = 4029113366#32 := by
  rw [schedW_high (tb blkA2) (by omega)]
  show sig1 (schedW (tb blkA2) 44) + schedW (tb blkA2) 39 + sig0 (schedW (tb blkA2) 31) + schedW (tb blkA2) 30 = _
  rw [schA2_44, schA2_39, schA2_31, schA2_30]; kernel_rfl
theorem schA2_47 : schedW (tb blkA2) 47 = 2999529467#32 := by
  rw [schedW_high (tb blkA2) (by omega)]
  show sig1 (schedW (tb blkA2) 45) + schedW (tb blkA2) 40 + sig0 (schedW (tb blkA2) 32) + schedW (tb blkA2) 31 = _
  rw [schA2_45, schA2_40, schA2_32, schA2_31]; kernel_rfl
theorem schA2_48 : schedW (tb blkA2) 48 = 672611183#32 := by
  rw [schedW_high (tb blkA2) (by omega)]
  show sig1 (schedW (tb blkA2) 46) + schedW (tb blkA2) 41 + sig0 (schedW (tb blkA2) 33) + schedW (tb blkA2) 32 = _
  rw [schA2_46, schA2_41, schA2_33, schA2_32]; kernel_rfl
theorem schA2_49 : schedW (tb blkA2) 49 = 1171866900#32 := by
  rw [schedW_high (tb blkA2) (by omega)]
  show sig1 (schedW (tb blkA2) 47) + schedW (tb blkA2) 42 + sig0 (schedW (tb blkA2) 34) + schedW (tb blkA2) 33 = _
  rw [schA2_47, schA2_42, schA2_34, schA2_33]; kernel_rfl
theorem schA2_50 : schedW (tb blkA2) 50 = 719412074#32 := by
  rw [schedW_high (tb blkA2) (by omega)]
  show sig1 (schedW (tb blkA2) 48) + schedW (tb blkA2) 43 + sig0 (schedW (tb blkA2) 35) + schedW (tb blkA2) 34 = _
  rw [schA2_48, schA2_43, schA2_35, schA2_34]; kernel_rfl
theorem schA2_51 : schedW (tb blkA2) 51 = 3938644058#32 := by
  rw [schedW_high (tb blkA2) (by omega)]
  show sig1 (schedW (tb blkA2) 49) + schedW (tb blkA2) 44 + sig0 (schedW (tb blkA2) 36) + schedW (tb blkA2) 35 = _
  rw [schA2_49, schA2_44, schA2_36, schA2_35]; kernel_rfl
theorem schA2_52 : schedW (tb blkA2) 52 = 98736201#32 := by
  rw [schedW_high (tb blkA2) (by omega)]
  show sig1 (schedW (tb blkA2) 50) + schedW (tb blkA2) 45 + sig0 (schedW (tb blkA2) 37) + schedW (tb blkA2) 36 = _
  rw [schA2_50, schA2_45, schA2_37, schA2_36]; kernel_rfl
theorem schA2_53 : schedW (tb blkA2) 53 = 3957091928#32 := by
  rw [schedW_high (tb blkA2) (by omega)]
  show sig1 (schedW (tb blkA2) 51) + schedW (tb blkA2) 46 + sig0 (schedW (tb blkA2) 38) + schedW (tb blkA2) 37 = _
  rw [schA2_51, schA2_46, schA2_38, schA2_37]; kernel_rfl
theorem schA2_54 : schedW (tb blkA2) 54 = 2439738073#32 := by
  rw [schedW_high (tb blkA2) (by omega)]
  show sig1 (schedW (tb blkA2) 52) + schedW (tb blkA2) 47 + sig0 (schedW (tb blkA2) 39) + schedW (tb blkA2) 38 = _
  rw [schA2_52, schA2_47, schA2_39, schA2_38]; kernel_rfl
theorem schA2_55 : schedW (tb blkA2) 55 = 1728232761#32 := by
  rw [schedW_high (tb blkA2) (by omega)]
  show sig1 (schedW (tb blkA2) 53) + schedW (tb blkA2) 48 + sig0 (schedW (tb blkA2) 40) + schedW (tb blkA2) 39 = _
  rw [schA2_53, schA2_48, schA2_40, schA2_39]; kernel_rfl
theorem schA2_56 : schedW (tb blkA2) 56 = 1525924137#32 := by
  rw [schedW_high (tb blkA2) (by omega)]
  show sig1 (schedW (tb blkA2) 54) + schedW (tb blkA2) 49 + sig0 (schedW (tb blkA2) 41) + schedW (tb blkA2) 40 = _
  rw [schA2_54, schA2_49, schA2_41, schA2_40]; kernel_rfl
theorem schA2_57 : schedW (tb blkA2) 57 = 3000090121#32 := by
  rw [schedW_high (tb blkA2) (by omega)]
  show sig1 (schedW (tb blkA2) 55) + schedW (tb blkA2) 50 + sig0 (schedW (tb blkA2) 42) + schedW (tb blkA2) 41 = _
  rw [schA2_55, schA2_50, schA2_42, schA2_41]; kernel_rfl
theorem schA2_58 : schedW (tb blkA2) 58 = 644103500#32 := by
  rw [schedW_high (tb blkA2) (by omega)]
  show sig1 (schedW (tb blkA2) 56) + schedW (tb blkA2) 51 + sig0 (schedW (tb blkA2) 43) + schedW (tb blkA2) 42 = _
  rw [schA2_56, schA2_51, schA2_43, schA2_42]; kernel_rfl
theorem schA2_59 : schedW (tb blkA2) 59 = 1551249459#32 := by
  rw [schedW_high (tb blkA2) (by omega)]
  show sig1 (schedW (tb blkA2) 57) + schedW (tb blkA2) 52 + sig0 (schedW (tb blkA2) 44) + schedW (tb blkA2) 43 = _
  rw [schA2_57, schA2_52, schA2_44, schA2_43]; kernel_rfl
theorem schA2_60 : schedW (tb blkA2) 60 = 1135333081#32 := by
  rw [schedW_high (tb blkA2) (by omega)]
  show sig1 (schedW (tb blkA2) 58) + schedW (tb blkA2) 53 + sig0 (schedW (tb blkA2) 45) + schedW (tb blkA2) 44 = _
  rw [schA2_58, schA2_53, schA2_45, schA2_44]; kernel_rfl
theorem schA2_61 : schedW (tb blkA2) 61 = 4217300939#32 := by
  rw [schedW_high (tb blkA2) (by omega)]
  show sig1 (schedW (tb blkA2) 59) + schedW (tb blkA2) 54 + sig0 (schedW (tb blkA2) 46) + schedW (tb blkA2) 45 = _
  rw [schA2_59, schA2_54, schA2_46, schA2_45]; kernel_rfl
theorem schA2_62 : schedW (tb blkA2) 62 = 2694045620#32 := by
  rw [schedW_high (tb blkA2) (by omega)]
  show sig1 (schedW (tb blkA2) 60) + schedW (tb blkA2) 55 + sig0 (schedW (tb blkA2) 47) + schedW (tb blkA2) 46 = _
  rw [schA2_60, schA2_55, schA2_47, schA2_46]; kernel_rfl
theorem schA2_63 : schedW (tb blkA2) 63 = 3530049983#32 := by
  rw [schedW_high (tb blkA2) (by omega)]
  show sig1 (schedW (tb blkA2) 61) + schedW (tb blkA2) 56 + sig0 (schedW (tb blkA2) 48) + schedW (tb blkA2) 47 = _
  rw [schA2_61, schA2_56, schA2_48, schA2_47]; kernel_rfl
theorem stA2_0 : W8.steps kW (schedW (tb blkA2)) ⟨761195927#32, 1893145279#32, 1285261209#32, 3303769776#32, 3920719425#32, 3494060790#32, 4147776690#32, 2653135363#32⟩ 0 = ⟨761195927#32, 1893145279#32, 1285261209#32, 3303769776#32, 3920719425#32, 3494060790#32, 4147776690#32, 2653135363#32⟩ := rfl
theorem stA2_1 : W8.steps kW (schedW (tb blkA2)) ⟨761195927#32, 1893145279#32, 1285261209#32, 3303769776#32, 3920719425#32, 3494060790#32, 4147776690#32, 2653135363#32⟩ 1 = ⟨2595401123#32, 761195927#32, 1893145279#32, 1285261209#32, 375789453#32, 3920719425#32, 3494060790#32, 4147776690#32⟩ := by
  show (W8.steps kW (schedW (tb blkA2)) ⟨761195927#32, 1893145279#32, 1285261209#32, 3303769776#32, 3920719425#32, 3494060790#32, 4147776690#32, 2653135363#32⟩ 0).step (kW 0) (schedW (tb blkA2) 0) = _
  rw [stA2_0, schA2_0]; kernel_rfl
theorem stA2_2 : W8.steps kW (schedW (tb blkA2)) ⟨761195927#32, 1893145279#32, 1285261209#32, 3303769776#32, 3920719425#32, 3494060790#32, 4147776690#32, 2653135363#32⟩ 2 = ⟨3618766627#32, 2595401123#32, 761195927#32, 1893145279#32, 2859460718#32, 375789453#32, 3920719425#32, 3494060790#32⟩ := by
  show (W8.steps kW (schedW (tb blkA2)) ⟨761195927#32, 1893145279#32, 1285261209#32, 3303769776#32, 3920719425#32, 3494060790#32, 4147776690#32, 2653135363#32⟩ 1).step (kW 1) (schedW (tb blkA2) 1) = _
  rw [stA2_1, schA2_1]; kernel_rfl
theorem stA2_3 : W8.steps kW (schedW (tb blkA2)) ⟨761195927#32, 1893145279#32, 1285261209#32, 3303769776#32, 3920719425#32, 3494060790#32, 4147776690#32, 2653135363#32⟩ 3 = ⟨893658263#32, 3618766627#32, 2595401123#32, 761195927#32, 995755162#32, 2859460718#32, 375789453#32, 3920719425#32⟩ := by
  show (W8.steps kW (schedW (tb blkA2)) ⟨761195927#32, 1893145279#32, 1285261209#32, 3303769776#32, 3920719425#32, 3494060790#32, 4147776690#32, 2653135363#32⟩ 2).step (kW 2) (schedW (tb blkA2) 2) = _
  rw [stA2_2, schA2_2]; kernel_rfl
theorem stA2_4 : W8.steps kW (schedW (tb blkA2)) ⟨761195927#32, 1893145279#32, 1285261209#32, 3303769776#32, 3920719425#32, 3494060790#32, 4147776690#32, 2653135363#32⟩ 4 = ⟨3920189624#32, 893658263#32, 3618766627#32, 2595401123#32, 2245826779#32, 995755162#32, 2859460718#32, 375789453#32⟩ := by
  show (W8.steps kW (schedW (tb blkA2)) ⟨761195927#32, 1893145279#32, 1285261209#32, 3303769776#32, 3920719425#32, 3494060790#32, 4147776690#32, 2653135363#32⟩ 3).step (kW 3) (schedW (tb blkA2) 3) = _
  rw [stA2_3, schA2_3]; kernel_rfl
theorem stA2_5 : W8.steps kW (schedW (tb blkA2)) ⟨761195927#32, 1893145279#32, 1285261209#32, 3303769776#32, 3920719425#32, 3494060790#32, 4147776690#32, 2653135363#32⟩ 5 = ⟨1725256781#32, 3920189624#32, 893658263#32, 3618766627#32, 2971044987#32, 2245826779#32, 995755162#32, 2859460718#32⟩ := by
  show (W8.steps kW (schedW (tb blkA2)) ⟨761195927#32, 1893145279#32, 1285261209#32, 3303769776#32, 3920719425#32, 3494060790#32, 4147776690#32, 2653135363#32⟩ 4).step (kW 4) (schedW (tb blkA2) 4) = _
  rw [stA2_4, schA2_4]; kernel_rfl
theorem stA2_6 : W8.steps kW (schedW (tb blkA2)) ⟨761195927#32, 1893145279#32, 1285261209#32, 3303769776#32, 3920719425#32, 3494060790#32, 4147776690#32, 2653135363#32⟩ 6 = ⟨2399564593#32, 1725256781#32, 3920189624#32, 893658263#32, 1382270869#32, 2971044987#32, 2245826779#32, 995755162#32⟩ := by
  show (W8.steps kW (schedW (tb blkA2)) ⟨761195927#32, 1893145279#32, 1285261209#32, 3303769776#32, 3920719425#32, 3494060790#32, 4147776690#32, 2653135363#32⟩ 5).step (kW 5) (schedW (tb blkA2) 5) = _
  rw [stA2_5, schA2_5]; kernel_rfl
theorem stA2_7 : W8.steps kW (schedW (tb blkA2)) ⟨761195927#32, 1893145279#32, 1285261209#32, 3303769776#32, 3920719425#32, 3494060790#32, 4147776690#32, 2653135363#32⟩ 7 = ⟨3426656356#32, 2399564593#32, 1725256781#32, 3920189624#32, 779899391#32, 1382270869#32, 2971044987#32, 2245826779#32⟩ := by
  show (W8.steps kW (schedW (tb blkA2)) ⟨761195927#32, 1893145279#32, 1285261209#32, 3303769776#32, 3920719425#32, 3494060790#32, 4147776690#32, 2653135363#32⟩ 6).step (kW 6) (schedW (tb blkA2) 6) = _
  rw [stA2_6, schA2_6]; kernel_rfl
theorem stA2_8 : W8.steps kW (schedW (tb blkA2)) ⟨761195927#32, 1893145279#32, 1285261209#32, 3303769776#32, 3920719425#32, 3494060790#32, 4147776690#32, 2653135363#32⟩ 8 = ⟨1519342048#32, 3426656356#32, 2399564593#32, 1725256781#32, 2876890967#32, 779899391#32, 1382270869#32, 2971044987#32⟩ := by
  show (W8.steps kW (schedW (tb blkA2)) ⟨761195927#32, 1893145279#32, 1285261209#32, 3303769776#32, 3920719425#32, 3494060790#32, 4147776690#32, 2653135363#32⟩ 7).step (kW 7) (schedW (tb blkA2) 7) = _
  rw [stA2_7, schA2_7]; kernel_rfl
theorem stA2_9 : W8.steps kW (schedW (tb blkA2)) ⟨761195927#32, 1893145279#32, 1285261209#32, 3303769776#32, 3920719425#32, 3494060790#32, 4147776690#32, 2653135363#32⟩ 9 = ⟨2135203653#32, 1519342048#32, 3426656356#32, 2399564593#32, 1931804874#32, 2876890967#32, 779899391#32, 1382270869#32⟩ := by
  show (W8.steps kW (schedW (tb blkA2)) ⟨761195927#32, 1893145279#32, 1285261209#32, 3303769776#32, 3920719425#32, 3494060790#32, 4147776690#32, 2653135363#32⟩ 8).step (kW 8) (schedW (tb blkA2) 8) = _
  rw [stA2_8, schA2_8]; kernel_rfl
theorem stA2_10 : W8.steps kW (schedW (tb blkA2)) ⟨761195927#32, 1893145279#32, 1285261209#32, 3303769776#32, 3920719425#32, 3494060790#32, 4147776690#32, 2653135363#32⟩ 10 = ⟨1274635027#32, 2135203653#32, 1519342048#32, 3426656356#32, 3312024792#32, 1931804874#32, 2876890967#32, 779899391#32⟩ := by
  show (W8.steps kW (schedW (tb blkA2)) ⟨761195927#32, 1893145279#32, 1285261209#32, 3303769776#32, 3920719425#32, 3494060790#32, 4147776690#32, 2653135363#32⟩ 9).step (kW 9) (schedW (tb blkA2) 9) = _
  rw [stA2_9, schA2_9]; kernel_rfl
theorem stA2_11 : W8.steps kW (schedW (tb blkA2)) ⟨761195927#32, 1893145279#32, 1285261209#32, 3303769776#32, 3920719425#32, 3494060790#32, 4147776690#32, 2653135363#32⟩ 11 = ⟨2521324971#32, 1274635027#32, 2135203653#32, 1519342048#32, 3604045998#32, 3312024792#32, 1931804874#32, 2876890967#32⟩ := by
  show (W8.steps kW (schedW (tb blkA2)) ⟨761195927#32, 1893145279#32, 1285261209#32, 3303769776#32, 3920719425#32, 3494060790#32, 4147776690#32, 2653135363#32⟩ 10).step (kW 10) (schedW (tb blkA2) 10) = _
  rw [stA2_10, schA2_10]; kernel_rfl
theorem stA2_12 : W8.steps kW (schedW (tb blkA2)) ⟨761195927#32, 1893145279#32, 1285261209#32, 3303769776#32, 3920719425#32, 3494060790#32, 4147776690#32, 2653135363#32⟩ 12 = ⟨891154715#32, 2521324971#32, 1274635027#32, 2135203653#32, 111990919#32, 3604045998#32, 3312024792#32, 1931804874#32⟩ := by
  show (W8.steps kW (schedW (tb blkA2)) ⟨761195927#32, 1893145279#32, 1285261209#32, 3303769776#32, 3920719425#32, 3494060790#32, 4147776690#32, 2653135363#32⟩ 11).step (kW 11) (schedW (tb blkA2) 11) = _
  rw [stA2_11, schA2_11]; kernel_rfl
theorem stA2_13 : W8.steps kW (schedW (tb blkA2)) ⟨761195927#32, 1893145279#32, 1285261209#32, 3303769776#32, 3920719425#32, 3494060790#32, 4147776690#32, 2653135363#32⟩ 13 = ⟨1374622254#32, 891154715#32, 2521324971#32, 1274635027#32, 2273282011#32, 111990919#32, 3604045998#32, 3312024792#32⟩ := by
  show (W8.steps kW (schedW (tb blkA2)) ⟨761195927#32, 1893145279#32, 1285261209#32, 3303769776#32, 3920719425#32, 3494060790#32, 4147776690#32, 2653135363#32⟩ 12).step (kW 12) (schedW (tb blkA2) 12) = _
  rw [stA2_12, schA2_12]; kernel_rfl
theorem stA2_14 : W8.steps kW (schedW (tb blkA2)) ⟨761195927#32, 1893145279#32, 1285261209#32, 3303769776#32, 3920719425#32, 3494060790#32, 4147776690#32, 2653135363#32⟩ 14 = ⟨2519945096#32, 1374622254#32, 891154715#32, 2521324971#32, 329084604#32, 2273282011#32, 111990919#32, 3604045998#32⟩ := by
  show (W8.steps kW (schedW (tb blkA2)) ⟨761195927#32, 1893145279#32, 1285261209#32, 3303769776#32, 3920719425#32, 3494060790#32, 4147776690#32, 2653135363#32⟩ 13).step (kW 13) (schedW (tb blkA2) 13) = _
  rw [stA2_13, schA2_13]; kernel_rfl
theorem stA2_15 : W8.steps kW (schedW (tb blkA2)) ⟨761195927#32, 1893145279#32, 1285261209#32, 3303769776#32, 3920719425#32, 3494060790#32, 4147776690#32, 2653135363#32⟩ 15 = ⟨228321592#32, 2519945096#32, 1374622254#32, 891154715#32, 4188976057#32, 329084604#32, 2273282011#32, 111990919#32⟩ := by
  show (W8.steps kW (schedW (tb blkA2)) ⟨761195927#32, 1893145279#32, 1285261209#32, 3303769776#32, 3920719425#32, 3494060790#32, 4147776690#32, 2653135363#32⟩ 14).step (kW 14) (schedW (tb blkA2) 14) = _
  rw [stA2_14, schA2_14]; kernel_rfl
theorem stA2_16 : W8.steps kW (schedW (tb blkA2)) ⟨761195927#32, 1893145279#32, 1285261209#32, 3303769776#32, 3920719425#32, 3494060790#32, 4147776690#32, 2653135363#32⟩ 16 = ⟨1650723048#32, 228321592#32, 2519945096#32, 1374622254#32, 1556363316#32, 4188976057#32, 329084604#32, 2273282011#32⟩ := by
  show (W8.steps kW (schedW (tb blkA2)) ⟨761195927#32, 1893145279#32, 1285261209#32, 3303769776#32, 3920719425#32, 3494060790#32, 4147776690#32, 2653135363#32⟩ 15).step (kW 15) (schedW (tb blkA2) 15) = _
  rw [stA2_15, schA2_15]; kernel_rfl
theorem stA2_17 : W8.steps kW (schedW (tb blkA2)) ⟨761195927#32, 1893145279#32, 1285261209#32, 3303769776#32, 3920719425#32, 3494060790#32, 4147776690#32, 2653135363#32⟩ 17 = ⟨433276323#32, 1650723048#32, 228321592#32, 2519945096#32, 2509594006#32, 1556363316#32, 4188976057#32, 329084604#32⟩ := by
  show (W8.steps kW (schedW (tb blkA2)) ⟨761195927#32, 1893145279#32, 1285261209#32, 3303769776#32, 3920719425#32, 3494060790#32, 4147776690#32, 2653135363#32⟩ 16).step (kW 16) (schedW (tb blkA2) 16) = _
  rw [stA2_16, schA2_16]; kernel_rfl
theorem stA2_18 : W8.steps kW (schedW (tb blkA2)) ⟨761195927#32, 1893145279#32, 1285261209#32, 3303769776#32, 3920719425#32, 3494060790#32, 4147776690#32, 2653135363#32⟩ 18 = ⟨2738614619#32, 433276323#32, 1650723048#32, 228321592#32, 2300666790#32, 2509594006#32, 1556363316#32, 4188976057#32⟩ := by
  show (W8.steps kW (schedW (tb blkA2)) ⟨761195927#32, 1893145279#32, 1285261209#32, 3303769776#32, 3920719425#32, 3494060790#32, 4147776690#32, 2653135363#32⟩ 17).step (kW 17) (schedW (tb blkA2) 17) = _
  rw [stA2_17, schA2_17]; kernel_rfl
theorem stA2_19 : W8.steps kW (schedW (tb blkA2)) ⟨761195927#32, 1893145279#32, 1285261209#32, 3303769776#32, 3920719425#32, 3494060790#32, 4147776690#32, 2653135363#32⟩ 19 = ⟨286327932#32, 2738614619#32, 433276323#32, 1650723048#32, 1835212996#32, 2300666790#32, 2509594006#32, 1556363316#32⟩ := by
  show (W8.steps kW (schedW (tb blkA2)) ⟨761195927#32, 1893145279#32, 1285261209#32, 3303769776#32, 3920719425#32, 3494060790#32, 4147776690#32, 2653135363#32⟩ 18).step (kW 18) (schedW (tb blkA2) 18) = _
  rw [stA2_18, schA2_18]; kernel_rfl
theorem stA2_20 : W8.steps kW (schedW (tb blkA2)) ⟨761195927#32, 1893145279#32, 1285261209#32, 3303769776#32, 3920719425#32, 3494060790#32, 4147776690#32, 2653135363#32⟩ 20 = ⟨3714590155#32, 286327932#32, 2738614619#32, 433276323#32, 3406016357#32, 1835212996#32, 2300666790#32, 2509594006#32⟩ := by
  show (W8.steps kW (schedW (tb blkA2)) ⟨761195927#32, 1893145279#32, 1285261209#32, 3303769776#32, 3920719425#32, 3494060790#32, 4147776690#32, 2653135363#32⟩ 19).step (kW 19) (schedW (tb blkA2) 19) = _
  rw [stA2_19, schA2_19]; kernel_rfl
theorem stA2_21 : W8.steps kW (schedW (tb blkA2)) ⟨761195927#32, 1893145279#32, 1285261209#32, 3303769776#32, 3920719425#32, 3494060790#32, 4147776690#32, 2653135363#32⟩ 21 = ⟨1101786050#32, 3714590155#32, 286327932#32, 2738614619#32, 1353858756#32, 3406016357#32, 1835212996#32, 2300666790#32⟩ := by
  show (W8.steps kW (schedW (tb blkA2)) ⟨761195927#32, 1893145279#32, 1285261209#32, 3303769776#32, 3920719425#32, 3494060790#32, 4147776690#32, 2653135363#32⟩ 20).step (kW 20) (schedW (tb blkA2) 20) = _
  rw [stA2_20, schA2_20]; kernel_rfl
theorem stA2_22 : W8.steps kW (schedW (tb blkA2)) ⟨761195927#32, 1893145279#32, 1285261209#32, 3303769776#32, 3920719425#32, 3494060790#32, 4147776690#32, 2653135363#32⟩ 22 = ⟨744406000#32, 1101786050#32, 3714590155#32, 286327932#32, 479824088#32, 1353858756#32, 3406016357#32, 1835212996#32⟩ := by
  show (W8.steps kW (schedW (tb blkA2)) ⟨761195927#32, 1893145279#32, 1285261209#32, 3303769776#32, 3920719425#32, 3494060790#32, 4147776690#32, 2653135363#32⟩ 21).step (kW 21) (schedW (tb blkA2) 21) = _
  rw [stA2_21, schA2_21]; kernel_rfl
theorem stA2_23 : W8.steps kW (schedW (tb blkA2)) ⟨761195927#32, 1893145279#32, 1285261209#32, 3303769776#32, 3920719425#32, 3494060790#32, 4147776690#32, 2653135363#32⟩ 23 = ⟨815373033#32, 744406000#32, 1101786050#32, 3714590155#32, 1170663147#32, 479824088#32, 1353858756#32, 3406016357#32⟩ := by
  show (W8.steps kW (schedW (tb blkA2)) ⟨761195927#32, 1893145279#32, 1285261209#32, 3303769776#32, 3920719425#32, 3494060790#32, 4147776690#32, 2653135363#32⟩ 22).step (kW 22) (schedW (tb blkA2) 22) = _
  rw [stA2_22, schA2_22]; kernel_rfl
theorem stA2_24 : W8.steps kW (schedW (tb blkA2)) ⟨761195927#32, 1893145279#32, 1285261209#32, 3303769776#32, 3920719425#32, 3494060790#32, 4147776690#32, 2653135363#32⟩ 24 = ⟨3354232673#32, 815373033#32, 744406000#32, 1101786050#32, 2276829848#32, 1170663147#32, 479824088#32, 1353858756#32⟩ := by
  show (W8.steps kW (schedW (tb blkA2)) ⟨761195927#32, 1893145279#32, 1285261209#32, 3303769776#32, 3920719425#32, 3494060790#32, 4147776690#32, 2653135363#32⟩ 23).step (kW 23) (schedW (tb blkA2) 23) = _
  rw [stA2_23, schA2_23]; kernel_rfl
theorem stA2_25 : W8.steps kW (schedW (tb blkA2)) ⟨761195927#32, 1893145279#32, 1285261209#32, 3303769776#32, 3920719425#32, 3494060790#32, 4147776690#32, 2653135363#32⟩ 25 = ⟨3548495523#32, 3354232673#32, 815373033#32, 744406000#32, 4083627225#32, 2276829848#32, 1170663147#32, 479824088#32⟩ := by
  show (W8.steps kW (schedW (tb blkA2)) ⟨761195927#32, 1893145279#32, 1285261209#32, 3303769776#32, 3920719425#32, 3494060790#32, 4147776690#32, 2653135363#32⟩ 24).step (kW 24) (schedW (tb blkA2) 24) = _
  rw [stA2_24, schA2_24]; kernel_rfl
theorem stA2_26 : W8.steps kW (schedW (tb blkA2)) ⟨761195927#32, 1893145279#32, 1285261209#32, 3303769776#32, 3920719425#32, 3494060790#32, 4147776690#32, 2653135363#32⟩ 26 = ⟨2927329556#32, 3548495523#32, 3354232673#32, 815373033#32, 4989240#32, 4083627225#32, 2276829848#32, 1170663147#32⟩ := by
  show (W8.steps kW (schedW (tb blkA2)) ⟨761195927#32, 1893145279#32, 1285261209#32, 3303769776#32, 3920719425#32, 3494060790#32, 4147776690#32, 2653135363#32⟩ 25).step (kW 25) (schedW (tb blkA2) 25) = _
  rw [stA2_25, schA2_25]; kernel_rfl
theorem stA2_27 : W8.steps kW (schedW (tb blkA2)) ⟨761195927#32, 1893145279#32, 1285261209#32, 3303769776#32, 3920719425#32, 3494060790#32, 4147776690#32, 2653135363#32⟩ 27 = ⟨2338743193#32, 2927329556#32, 3548495523#32, 3354232673#32, 651605569#32, 4989240#32, 4083627225#32, 2276829848#32⟩ := by
  show (W8.steps kW (schedW (tb blkA2)) ⟨761195927#32, 1893145279#32, 1285261209#32, 3303769776#32, 3920719425#32, 3494060790#32, 4147776690#32, 2653135363#32⟩ 26).step (kW 26) (schedW (tb blkA2) 26) = _
  rw [stA2_26, schA2_26]; kernel_rfl
theorem stA2_28 : W8.steps kW (schedW (tb blkA2)) ⟨761195927#32, 1893145279#32, 1285261209#32, 3303769776#32, 3920719425#32, 3494060790#32, 4147776690#32, 2653135363#32⟩ 28 = ⟨2102503155#32, 2338743193#32, 2927329556#32, 3548495523#32, 3527402699#32, 651605569#32, 4989240#32, 4083627225#32⟩ := by
  show (W8.steps kW (schedW (tb blkA2)) ⟨761195927#32, 1893145279#32, 1285261209#32, 3303769776#32, 3920719425#32, 3494060790#32, 4147776690#32, 2653135363#32⟩ 27).step (kW 27) (schedW (tb blkA2) 27) = _
  rw [stA2_27, schA2_27]; kernel_rfl
theorem stA2_29 : W8.steps kW (schedW (tb blkA2)) ⟨761195927#32, 1893145279#32, 1285261209#32, 3303769776#32, 3920719425#32, 3494060790#32, 4147776690#32, 2653135363#32⟩ 29 = ⟨349576740#32, 2102503155#32, 2338743193#32, 2927329556#32, 2324687474#32, 3527402699#32, 651605569#32, 4989240#32⟩ := by
  show (W8.steps kW (schedW (tb blkA2)) ⟨761195927#32, 1893145279#32, 1285261209#32, 3303769776#32, 3920719425#32, 3494060790#32, 4147776690#32, 2653135363#32⟩ 28).step (kW 28) (schedW (tb blkA2) 28) = _
  rw [stA2_28, schA2_28]; kernel_rfl
theorem stA2_30 : W8.steps kW (schedW (tb blkA2)) ⟨761195927#32, 1893145279#32, 1285261209#32, 3303769776#32, 3920719425#32, 3494060790#32, 4147776690#32, 2653135363#32⟩ 30 = ⟨4290992219#32, 349576740#32, 2102503155#32, 2338743193#32, 3833266516#32, 2324687474#32, 3527402699#32, 651605569#32⟩ := by
  show (W8.steps kW (schedW (tb blkA2)) ⟨761195927#32, 1893145279#32, 1285261209#32, 3303769776#32, 3920719425#32, 3494060790#32, 4147776690#32, 2653135363#32⟩ 29).step (kW 29) (schedW (tb blkA2) 29) = _
  rw [stA2_29, schA2_29]; kernel_rfl
theorem stA2_31 : W8.steps kW (schedW (tb blkA2)) ⟨761195927#32, 1893145279#32, 1285261209#32, 3303769776#32, 3920719425#32, 3494060790#32, 4147776690#32, 2653135363#32⟩ 31 = ⟨1284936875#32, 4290992219#32, 349576740#32, 2102503155#32, 702255582#32, 3833266516#32, 2324687474#32, 3527402699#32⟩ := by
  show (W8.steps kW (schedW (tb blkA2)) ⟨761195927#32, 1893145279#32, 1285261209#32, 3303769776#32, 3920719425#32, 3494060790#32, 4147776690#32, 2653135363#32⟩ 30).step (kW 30) (schedW (tb blkA2) 30) = _
  rw [stA2_30, schA2_30]; kernel_rfl
theorem stA2_32 : W8.steps kW (schedW (tb blkA2)) ⟨761195927#32, 1893145279#32, 1285261209#32, 3303769776#32, 3920719425#32, 3494060790#32, 4147776690#32, 2653135363#32⟩ 32 = ⟨3433034914#32, 1284936875#32, 4290992219#32, 349576740#32, 3236827838#32, 702255582#32, 3833266516#32, 2324687474#32⟩ := by
  show (W8.steps kW (schedW (tb blkA2)) ⟨761195927#32, 1893145279#32, 1285261209#32, 3303769776#32, 3920719425#32, 3494060790#32, 4147776690#32, 2653135363#32⟩ 31).step (kW 31) (schedW (tb blkA2) 31) = _
  rw [stA2_31, schA2_31]; kernel_rfl
theorem stA2_33 : W8.steps kW (schedW (tb blkA2)) ⟨761195927#32, 1893145279#32, 1285261209#32, 3303769776#32, 3920719425#32, 3494060790#32, 4147776690#32, 2653135363#32⟩ 33 = ⟨782142586#32, 3433034914#32, 1284936875#32, 4290992219#32, 217694990#32, 3236827838#32, 702255582#32, 3833266516#32⟩ := by
  show (W8.steps kW (schedW (tb blkA2)) ⟨761195927#32, 1893145279#32, 1285261209#32, 3303769776#32, 3920719425#32, 3494060790#32, 4147776690#32, 2653135363#32⟩ 32).step (kW 32) (schedW (tb blkA2) 32) = _
  rw [stA2_32, schA2_32]; kernel_rfl
theorem stA2_34 : W8.steps kW (schedW (tb blkA2)) ⟨761195927#32, 1893145279#32, 1285261209#32, 3303769776#32, 3920719425#32, 3494060790#32, 4147776690#32, 2653135363#32⟩ 34 = ⟨1070220316#32, 782142586#32, 3433034914#32, 1284936875#32, 1621608573#32, 217694990#32, 3236827838#32, 702255582#32⟩ := by
  show (W8.steps kW (schedW (tb blkA2)) ⟨761195927#32, 1893145279#32, 1285261209#32, 3303769776#32, 3920719425#32, 3494060790#32, 4147776690#32, 2653135363#32⟩ 33).step (kW 33) (schedW (tb blkA2) 33) = _
  rw [stA2_33, schA2_33]; kernel_rfl
theorem stA2_35 : W8.steps kW (schedW (tb blkA2)) ⟨761195927#32, 1893145279#32, 1285261209#32, 3303769776#32, 3920719425#32, 3494060790#32, 4147776690#32, 2653135363#32⟩ 35 = ⟨621322108#32, 1070220316#32, 782142586#32, 3433034914#32, 1023234115#32, 1621608573#32, 217694990#32, 3236827838#32⟩ := by
  show (W8.steps kW (schedW (tb blkA2)) ⟨761195927#32, 1893145279#32, 1285261209#32, 3303769776#32, 3920719425#32, 3494060790#32, 4147776690#32, 2653135363#32⟩ 34).step (kW 34) (schedW (tb blkA2) 34) = _
  rw [stA2_34, schA2_34]; kernel_rfl
theorem stA2_36 : W8.steps kW (schedW (tb blkA2)) ⟨761195927#32, 1893145279#32, 1285261209#32, 3303769776#32, 3920719425#32, 3494060790#32, 4147776690#32, 2653135363#32⟩ 36 = ⟨2339323755#32, 621322108#32, 1070220316#32, 782142586#32, 1470474370#32, 1023234115#32, 1621608573#32, 217694990#32⟩ := by
  show (W8.steps kW (schedW (tb blkA2)) ⟨761195927#32, 1893145279#32, 1285261209#32, 3303769776#32, 3920719425#32, 3494060790#32, 4147776690#32, 2653135363#32⟩ 35).step (kW 35) (schedW (tb blkA2) 35) = _
  rw [stA2_35, schA2_35]; kernel_rfl
theorem stA2_37 : W8.steps kW (schedW (tb blkA2)) ⟨761195927#32, 1893145279#32, 1285261209#32, 3303769776#32, 3920719425#32, 3494060790#32, 4147776690#32, 2653135363#32⟩ 37 = ⟨1535497650#32, 2339323755#32, 621322108#32, 1070220316#32, 3042969634#32, 1470474370#32, 1023234115#32, 1621608573#32⟩ := by
  show (W8.steps kW (schedW (tb blkA2)) ⟨761195927#32, 1893145279#32, 1285261209#32, 3303769776#32, 3920719425#32, 3494060790#32, 4147776690#32, 2653135363#32⟩ 36).step (kW 36) (schedW (tb blkA2) 36) = _
  rw [stA2_36, schA2_36]; kernel_rfl
theorem stA2_38 : W8.steps kW (schedW (tb blkA2)) ⟨761195927#32, 1893145279#32, 1285261209#32, 3303769776#32, 3920719425#32, 3494060790#32, 4147776690#32, 2653135363#32⟩ 38 = ⟨596420644#32, 1535497650#32, 2339323755#32, 621322108#32, 740551834#32, 3042969634#32, 1470474370#32, 1023234115#32⟩ := by
  show (W8.steps kW (schedW (tb blkA2)) ⟨761195927#32, 1893145279#32, 1285261209#32, 3303769776#32, 3920719425#32, 3494060790#32, 4147776690#32, 2653135363#32⟩ 37).step (kW 37) (schedW (tb blkA2) 37) = _
  rw [stA2_37, schA2_37]; kernel_rfl
theorem stA2_39 : W8.steps kW (schedW (tb blkA2)) ⟨761195927#32, 1893145279#32, 1285261209#32, 3303769776#32, 3920719425#32, 3494060790#32, 4147776690#32, 2653135363#32⟩ 39 = ⟨1953586944#32, 596420644#32, 1535497650#32, 2339323755#32, 311007864#32, 740551834#32, 3042969634#32, 1470474370#32⟩ := by
  show (W8.steps kW (schedW (tb blkA2)) ⟨761195927#32, 1893145279#32, 1285261209#32, 3303769776#32, 3920719425#32, 3494060790#32, 4147776690#32, 2653135363#32⟩ 38).step (kW 38) (schedW (tb blkA2) 38) = _
  rw [stA2_38, schA2_38]; kernel_rfl
theorem stA2_40 : W8.steps kW (schedW (tb blkA2)) ⟨761195927#32, 1893145279#32, 1285261209#32, 3303769776#32, 3920719425#32, 3494060790#32, 4147776690#32, 2653135363#32⟩ 40 = ⟨329975383#32, 1953586944#32, 596420644#32, 1535497650#32, 187724551#32, 311007864#32, 740551834#32, 3042969634#32⟩ := by
  show (W8.steps kW (schedW (tb blkA2)) ⟨761195927#32, 1893145279#32, 1285261209#32, 3303769776#32, 3920719425#32, 3494060790#32, 4147776690#32, 2653135363#32⟩ 39).step (kW 39) (schedW (tb blkA2) 39) = _
  rw [stA2_39, schA2_39]; kernel_rfl
theorem stA2_41 : W8.steps kW (schedW (tb blkA2)) ⟨761195927#32, 1893145279#32, 1285261209#32, 3303769776#32, 3920719425#32, 3494060790#32, 4147776690#32, 2653135363#32⟩ 41 = ⟨199826110#32, 329975383#32, 1953586944#32, 596420644#32, 3648709097#32, 187724551#32, 311007864#32, 740551834#32⟩ := by
  show (W8.steps kW (schedW (tb blkA2)) ⟨761195927#32, 1893145279#32, 1285261209#32, 3303769776#32, 3920719425#32, 3494060790#32, 4147776690#32, 2653135363#32⟩ 40).step (kW 40) (schedW (tb blkA2) 40) = _
  rw [stA2_40, schA2_40]; kernel_rfl
theorem stA2_42 : W8.steps kW (schedW (tb blkA2)) ⟨761195927#32, 1893145279#32, 1285261209#32, 3303769776#32, 3920719425#32, 3494060790#32, 4147776690#32, 2653135363#32⟩ 42 = ⟨2425733036#32, 199826110#32, 329975383#32, 1953586944#32, 2899863538#32, 3648709097#32, 187724551#32, 311007864#32⟩ := by
  show (W8.steps kW (schedW (tb blkA2)) ⟨761195927#32, 1893145279#32, 1285261209#32, 3303769776#32, 3920719425#32, 3494060790#32, 4147776690#32, 2653135363#32⟩ 41).step (kW 41) (schedW (tb blkA2) 41) = _
  rw [stA2_41, schA2_41]; kernel_rfl
theorem stA2_43 : W8.steps kW (schedW (tb blkA2)) ⟨761195927#32, 1893145279#32, 1285261209#32, 3303769776#32, 3920719425#32, 3494060790#32, 4147776690#32, 2653135363#32⟩ 43 = ⟨3542875576#32, 2425733036#32, 199826110#32, 329975383#32, 2754929910#32, 2899863538#32, 3648709097#32, 187724551#32⟩ := by
  show (W8.steps kW (schedW (tb blkA2)) ⟨761195927#32, 1893145279#32, 1285261209#32, 3303769776#32, 3920719425#32, 3494060790#32, 4147776690#32, 2653135363#32⟩ 42).step (kW 42) (schedW (tb blkA2) 42) = _
  rw [stA2_42, schA2_42]; kernel_rfl
theorem stA2_44 : W8.steps kW (schedW (tb blkA2)) ⟨761195927#32, 1893145279#32, 1285261209#32, 3303769776#32, 3920719425#32, 3494060790#32, 4147776690#32, 2653135363#32⟩ 44 = ⟨3097301946#32, 3542875576#32, 2425733036#32, 199826110#32, 3248739544#32, 2754929910#32, 2899863538#32, 3648709097#32⟩ := by
  show (W8.steps kW (schedW (tb blkA2)) ⟨761195927#32, 1893145279#32, 1285261209#32, 3303769776#32, 3920719425#32, 3494060790#32, 4147776690#32, 2653135363#32⟩ 43).step (kW 43) (schedW (tb blkA2) 43) = _
  rw [stA2_43, schA2_43]; kernel_rfl
theorem stA2_45 : W8.steps kW (schedW (tb blkA2)) ⟨761195927#32, 1893145279#32, 1285261209#32, 3303769776#32, 3920719425#32, 3494060790#32, 4147776690#32, 2653135363#32⟩ 45 = ⟨1906339833#32, 3097301946#32, 3542875576#32, 2425733036#32, 2771345435#32, 3248739544#32, 2754929910#32, 2899863538#32⟩ := by
  show (W8.steps kW (schedW (tb blkA2)) ⟨761195927#32, 1893145279#32, 1285261209#32, 3303769776#32, 3920719425#32, 3494060790#32, 4147776690#32, 2653135363#32⟩ 44).step (kW 44) (schedW (tb blkA2) 44) = _
  rw [stA2_44, schA2_44]; kernel_rfl
theorem stA2_46 : W8.steps kW (schedW (tb blkA2)) ⟨761195927#32, 1893145279#32, 1285261209#32, 3303769776#32, 3920719425#32, 3494060790#32, 4147776690#32, 2653135363#32⟩ 46 = ⟨868530745#32, 1906339833#32, 3097301946#32, 3542875576#32, 815040242#32, 2771345435#32, 3248739544#32, 2754929910#32⟩ := by
  show (W8.steps kW (schedW (tb blkA2)) ⟨761195927#32, 1893145279#32, 1285261209#32, 3303769776#32, 3920719425#32, 3494060790#32, 4147776690#32, 2653135363#32⟩ 45).step (kW 45) (schedW (tb blkA2) 45) = _
  rw [stA2_45, schA2_45]; kernel_rfl
theorem stA2_47 : W8.steps kW (schedW (tb blkA2)) ⟨761195927#32, 1893145279#32, 1285261209#32, 3303769776#32, 3920719425#32, 3494060790#32, 4147776690#32, 2653135363#32⟩ 47 = ⟨2276300891#32, 868530745#32, 1906339833#32, 3097301946#32, 2575631862#32, 815040242#32, 2771345435#32, 3248739544#32⟩ := by
  show (W8.steps kW (schedW (tb blkA2)) ⟨761195927#32, 1893145279#32, 1285261209#32, 3303769776#32, 3920719425#32, 3494060790#32, 4147776690#32, 2653135363#32⟩ 46).step (kW 46) (schedW (tb blkA2) 46) = _
  rw [stA2_46, schA2_46]; kernel_rfl
theorem stA2_48 : W8.steps kW (schedW (tb blkA2)) ⟨761195927#32, 1893145279#32, 1285261209#32, 3303769776#32, 3920719425#32, 3494060790#32, 4147776690#32, 2653135363#32⟩ 48 = ⟨683203094#32, 2276300891#32, 868530745#32, 1906339833#32, 408616435#32, 2575631862#32, 815040242#32, 2771345435#32⟩ := by
  show (W8.steps kW (schedW (tb blkA2)) ⟨761195927#32, 1893145279#32, 1285261209#32, 3303769776#32, 3920719425#32, 3494060790#32, 4147776690#32, 2653135363#32⟩ 47).step (kW 47) (schedW (tb blkA2) 47) = _
  rw [stA2_47, schA2_47]; kernel_rfl
theorem stA2_49 : W8.steps kW (schedW (tb blkA2)) ⟨761195927#32, 1893145279#32, 1285261209#32, 3303769776#32, 3920719425#32, 3494060790#32, 4147776690#32, 2653135363#32⟩ 49 = ⟨1552925618#32, 683203094#32, 2276300891#32, 868530745#32, 4035734959#32, 408616435#32, 2575631862#32, 815040242#32⟩ := by
  show (W8.steps kW (schedW (tb blkA2)) ⟨761195927#32, 1893145279#32, 1285261209#32, 3303769776#32, 3920719425#32, 3494060790#32, 4147776690#32, 2653135363#32⟩ 48).step (kW 48) (schedW (tb blkA2) 48) = _
  rw [stA2_48, schA2_48]; kernel_rfl
theorem stA2_50 : W8.steps kW (schedW (tb blkA2)) ⟨761195927#32, 1893145279#32, 1285261209#32, 3303769776#32, 3920719425#32, 3494060790#32, 4147776690#32, 2653135363#32⟩ 50 = ⟨3156694454#32, 1552925618#32, 683203094#32, 2276300891#32, 763254781#32, 4035734959#32, 408616435#32, 2575631862#32⟩ := by
  show (W8.steps kW (schedW (tb blkA2)) ⟨761195927#32, 1893145279#32, 1285261209#32, 3303769776#32, 3920719425#32, 3494060790#32, 4147776690#32, 2653135363#32⟩ 49).step (kW 49) (schedW (tb blkA2) 49) = _
  rw [stA2_49, schA2_49]; kernel_rfl
theorem stA2_51 : W8.steps kW (schedW (tb blkA2)) ⟨761195927#32, 1893145279#32, 1285261209#32, 3303769776#32, 3920719425#32, 3494060790#32, 4147776690#32, 2653135363#32⟩ 51 = ⟨2895261883#32, 3156694454#32, 1552925618#32, 683203094#32, 1470432953#32, 763254781#32, 4035734959#32, 408616435#32⟩ := by
  show (W8.steps kW (schedW (tb blkA2)) ⟨761195927#32, 1893145279#32, 1285261209#32, 3303769776#32, 3920719425#32, 3494060790#32, 4147776690#32, 2653135363#32⟩ 50).step (kW 50) (schedW (tb blkA2) 50) = _
  rw [stA2_50, schA2_50]; kernel_rfl
theorem stA2_52 : W8.steps kW (schedW (tb blkA2)) ⟨761195927#32, 1893145279#32, 1285261209#32, 3303769776#32, 3920719425#32, 3494060790#32, 4147776690#32, 2653135363#32⟩ 52 = ⟨2696195729#32, 2895261883#32, 3156694454#32, 1552925618#32, 3869978856#32, 1470432953#32, 763254781#32, 4035734959#32⟩ := by
  show (W8.steps kW (schedW (tb blkA2)) ⟨761195927#32, 1893145279#32, 1285261209#32, 3303769776#32, 3920719425#32, 3494060790#32, 4147776690#32, 2653135363#32⟩ 51).step (kW 51) (schedW (tb blkA2) 51) = _
  rw [stA2_51, schA2_51]; kernel_rfl
theorem stA2_53 : W8.steps kW (schedW (tb blkA2)) ⟨761195927#32, 1893145279#32, 1285261209#32, 3303769776#32, 3920719425#32, 3494060790#32, 4147776690#32, 2653135363#32⟩ 53 = ⟨3849258356#32, 2696195729#32, 2895261883#32, 3156694454#32, 3341691888#32, 3869978856#32, 1470432953#32, 763254781#32⟩ := by
  show (W8.steps kW (schedW (tb blkA2)) ⟨761195927#32, 1893145279#32, 1285261209#32, 3303769776#32, 3920719425#32, 3494060790#32, 4147776690#32, 2653135363#32⟩ 52).step (kW 52) (schedW (tb blkA2) 52) = _
  rw [stA2_52, schA2_52]; kernel_rfl
theorem stA2_54 : W8.steps kW (schedW (tb blkA2)) ⟨761195927#32, 1893145279#32, 1285261209#32, 3303769776#32, 3920719425#32, 3494060790#32, 4147776690#32, 2653135363#32⟩ 54 = ⟨3163527410#32, 3849258356#32, 2696195729#32, 2895261883#32, 622301255#32, 3341691888#32, 3869978856#32, 1470432953#32⟩ := by
  show (W8.steps kW (schedW (tb blkA2)) ⟨761195927#32, 1893145279#32, 1285261209#32, 3303769776#32, 3920719425#32, 3494060790#32, 4147776690#32, 2653135363#32⟩ 53).step (kW 53) (schedW (tb blkA2) 53) = _
  rw [stA2_53, schA2_53]; kernel_rfl
theorem stA2_55 : W8.steps kW (schedW (tb blkA2)) ⟨761195927#32, 1893145279#32, 1285261209#32, 3303769776#32, 3920719425#32, 3494060790#32, 4147776690#32, 2653135363#32⟩ 55 = ⟨2811861388#32, 3163527410#32, 3849258356#32, 2696195729#32, 1487303845#32, 622301255#32, 3341691888#32, 3869978856#32⟩ := by
  show (W8.steps kW (schedW (tb blkA2)) ⟨761195927#32, 1893145279#32, 1285261209#32, 3303769776#32, 3920719425#32, 3494060790#32, 4147776690#32, 2653135363#32⟩ 54).step (kW 54) (schedW (tb blkA2) 54) = _
  rw [stA2_54, schA2_54]; kernel_rfl
theorem stA2_56 : W8.steps kW (schedW (tb blkA2)) ⟨761195927#32, 1893145279#32, 1285261209#32, 3303769776#32, 3920719425#32, 3494060790#32, 4147776690#32, 2653135363#32⟩ 56 = ⟨3109247806#32, 2811861388#32, 3163527410#32, 3849258356#32, 814942122#32, 1487303845#32, 622301255#32, 3341691888#32⟩ := by
  show (W8.steps kW (schedW (tb blkA2)) ⟨761195927#32, 1893145279#32, 1285261209#32, 3303769776#32, 3920719425#32, 3494060790#32, 4147776690#32, 2653135363#32⟩ 55).step (kW 55) (schedW (tb blkA2) 55) = _
  rw [stA2_55, schA2_55]; kernel_rfl
theorem stA2_57 : W8.steps kW (schedW (tb blkA2)) ⟨761195927#32, 1893145279#32, 1285261209#32, 3303769776#32, 3920719425#32, 3494060790#32, 4147776690#32, 2653135363#32⟩ 57 = ⟨3098087616#32, 3109247806#32, 2811861388#32, 3163527410#32, 2779682246#32, 814942122#32, 1487303845#32, 622301255#32⟩ := by
  show (W8.steps kW (schedW (tb blkA2)) ⟨761195927#32, 1893145279#32, 1285261209#32, 3303769776#32, 3920719425#32, 3494060790#32, 4147776690#32, 2653135363#32⟩ 56).step (kW 56) (schedW (tb blkA2) 56) = _
  rw [stA2_56, schA2_56]; kernel_rfl
theorem stA2_58 : W8.steps kW (schedW (tb blkA2)) ⟨761195927#32, 1893145279#32, 1285261209#32, 3303769776#32, 3920719425#32, 3494060790#32, 4147776690#32, 2653135363#32⟩ 58 = ⟨69181791#32, 3098087616#32, 3109247806#32, 2811861388#32, 4205419819#32, 2779682246#32, 814942122#32, 1487303845#32⟩ := by
  show (W8.steps kW (schedW (tb blkA2)) ⟨761195927#32, 1893145279#32, 1285261209#32, 3303769776#32, 3920719425#32, 3494060790#32, 4147776690#32, 2653135363#32⟩ 57).step (kW 57) (schedW (tb blkA2) 57) = _
  rw [stA2_57, schA2_57]; kernel_rfl
theorem stA2_59 : W8.steps kW (schedW (tb blkA2)) ⟨761195927#32, 1893145279#32, 1285261209#32, 3303769776#32, 3920719425#32, 3494060790#32, 4147776690#32, 2653135363#32⟩ 59 = ⟨1887366745#32, 69181791#32, 3098087616#32, 3109247806#32, 2860696013#32, 4205419819#32, 2779682246#32, 814942122#32⟩ := by
  show (W8.steps kW (schedW (tb blkA2)) ⟨761195927#32, 1893145279#32, 1285261209#32, 3303769776#32, 3920719425#32, 3494060790#32, 4147776690#32, 2653135363#32⟩ 58).step (kW 58) (schedW (tb blkA2) 58) = _
  rw [stA2_58, schA2_58]; kernel_rfl
theorem stA2_60 : W8.steps kW (schedW (tb blkA2)) ⟨761195927#32, 1893145279#32, 1285261209#32, 3303769776#32, 3920719425#32, 3494060790#32, 4147776690#32, 2653135363#32⟩ 60 = ⟨497650291#32, 1887366745#32, 69181791#32, 3098087616#32, 3511674808#32, 2860696013#32, 4205419819#32, 2779682246#32⟩ := by
  show (W8.steps kW (schedW (tb blkA2)) ⟨761195927#32, 1893145279#32, 1285261209#32, 3303769776#32, 3920719425#32, 3494060790#32, 4147776690#32, 2653135363#32⟩ 59).step (kW 59) (schedW (tb blkA2) 59) = _
  rw [stA2_59, schA2_59]; kernel_rfl
theorem stA2_61 : W8.steps kW (schedW (tb blkA2)) ⟨761195927#32, 1893145279#32, 1285261209#32, 3303769776#32, 3920719425#32, 3494060790#32, 4147776690#32, 2653135363#32⟩ 61 = ⟨528741935#32, 497650291#32, 1887366745#32, 69181791#32, 2433882350#32, 3511674808#32, 2860696013#32, 4205419819#32⟩ := by
  show (W8.steps kW (schedW (tb blkA2)) ⟨761195927#32, 1893145279#32, 1285261209#32, 3303769776#32, 3920719425#32, 3494060790#32, 4147776690#32, 2653135363#32⟩ 60).step (kW 60) (schedW (tb blkA2) 60) = _
  rw [stA2_60, schA2_60]; kernel_rfl
theorem stA2_62 : W8.steps kW (schedW (tb blkA2)) ⟨761195927#32, 1893145279#32, 1285261209#32, 3303769776#32, 3920719425#32, 3494060790#32, 4147776690#32, 2653135363#32⟩ 62 = ⟨459439447#32, 528741935#32, 497650291#32, 1887366745#32, 2291495505#32, 2433882350#32, 3511674808#32, 2860696013#32⟩ := by
  show (W8.steps kW (schedW (tb blkA2)) ⟨761195927#32, 1893145279#32, 1285261209#32, 3303769776#32, 3920719425#32, 3494060790#32, 4147776690#32, 2653135363#32⟩ 61).step (kW 61) (schedW (tb blkA2) 61) = _
  rw [stA2_61, schA2_61]; kernel_rfl
theorem stA2_63 : W8.steps kW (schedW (tb blkA2)) ⟨761195927#32, 1893145279#32, 1285261209#32, 3303769776#32, 3920719425#32, 3494060790#32, 4147776690#32, 2653135363#32⟩ 63 = ⟨3880673701#32, 459439447#32, 528741935#32, 497650291#32, 2459187548#32, 2291495505#32, 2433882350#32, 3511674808#32⟩ := by
  show (W8.steps kW (schedW (tb blkA2)) ⟨761195927#32, 1893145279#32, 1285261209#32, 3303769776#32, 3920719425#32, 3494060790#32, 4147776690#32, 2653135363#32⟩ 62).step (kW 62) (schedW (tb blkA2) 62) = _
  rw [stA2_62, schA2_62]; kernel_rfl
theorem stA2_64 : W8.steps kW (schedW (tb blkA2)) ⟨761195927#32, 1893145279#32, 1285261209#32, 3303769776#32, 3920719425#32, 3494060790#32, 4147776690#32, 2653135363#32⟩ 64 = ⟨1816212020#32, 3880673701#32, 459439447#32, 528741935#32, 489558521#32, 2459187548#32, 2291495505#32, 2433882350#32⟩ := by
  show (W8.steps kW (schedW (tb blkA2)) ⟨761195927#32, 1893145279#32, 1285261209#32, 3303769776#32, 3920719425#32, 3494060790#32, 4147776690#32, 2653135363#32⟩ 63).step (kW 63) (schedW (tb blkA2) 63) = _
  rw [stA2_63, schA2_63]; kernel_rfl
theorem turnA2 : W8.turn kW ⟨761195927#32, 1893145279#32, 1285261209#32, 3303769776#32, 3920719425#32, 3494060790#32, 4147776690#32, 2653135363#32⟩ (tb blkA2) = ⟨2577407947#32, 1478851684#32, 1744700656#32, 3832511711#32, 115310650#32, 1658281042#32, 2144304899#32, 792050417#32⟩ := by
  unfold W8.turn
  rw [stA2_64]; kernel_rfl
def blkA3 : List Nat := [100, 42, 112, 171, 169, 5, 104, 239, 17, 75, 198, 186, 248, 148, 80, 241, 144, 231, 35, 86, 92, 92, 92, 92, 92, 92, 92, 92, 92, 92, 92, 92, 92, 92, 92, 92, 92, 92, 92, 92, 92, 92, 92, 92, 92, 92, 92, 92, 92, 92, 92, 92, 92, 92, 92, 92, 92, 92, 92, 92, 92, 92, 92, 92]
theorem schA3_0 : schedW (tb blkA3) 0 = 1680502955#32 := by rw [schedW_low (tb blkA3) (by omega)]; kernel_rfl
theorem schA3_1 : schedW (tb blkA3) 1 = 2835704047#32 := by rw [schedW_low (tb blkA3) (by omega)]; kernel_rfl
theorem schA3_2 : schedW (tb blkA3) 2 = 290178746#32 := by rw [schedW_low (tb blkA3) (by omega)]; kernel_rfl
theorem schA3_3 : schedW (tb blkA3) 3 = 4170469617#32 := by rw [schedW_low (tb blkA3) (by omega)]; kernel_rfl
theorem schA3_4 : schedW (tb blkA3) 4 = 2431066966#32 := by rw [schedW_low (tb blkA3) (by omega)]; kernel_rfl
theorem schA3_5 : schedW (tb blkA3) 5 = 1549556828#32 := by rw [schedW_low (tb blkA3) (by omega)]; kernel_rfl
theorem schA3_6 : schedW (tb blkA3) 6 = 1549556828#32 := by rw [schedW_low (tb blkA3) (by omega)]; kernel_rfl
theorem schA3_7 : schedW (tb blkA3) 7 = 1549556828#32 := by rw [schedW_low (tb blkA3) (by omega)]; kernel_rfl
theorem schA3_8 : schedW (tb blkA3) 8 = 1549556828#32 := by rw [schedW_low (tb blkA3) (by omega)]; kernel_rfl
theorem schA3_9 : schedW (tb blkA3) 9 = 1549556828#32 := by rw [schedW_low (tb blkA3) (by omega)]; kernel_rfl
theorem schA3_10 : schedW (tb blkA3) 10 = 1549556828#32 := by rw [schedW_low (tb blkA3) (by omega)]; kernel_rfl
theorem schA3_11 : schedW (tb blkA3) 11 = 1549556828#32 := by rw [schedW_low (tb blkA3) (by omega)]; kernel_rfl
theorem schA3_12 : schedW (tb blkA3) 12 = 1549556828#32 := by rw [schedW_low (tb blkA3) (by omega)]; kernel_rfl
theorem schA3_13 : schedW (tb blkA3) 13 = 1549556828#32 := by rw [schedW_low (tb blkA3) (by omega)]; kernel_rfl
theorem schA3_14 : schedW (tb blkA3) 14 = 1549556828#32 := by rw [schedW_low (tb blkA3) (by omega)]; kernel_rfl
theorem schA3_15 : schedW (tb blkA3) 15 = 1549556828#32 := by rw [schedW_low (tb blkA3) (by omega)]; kernel_rfl
theorem schA3_16 : schedW (tb blkA3) 16 = 4135767366#32 := by
  rw [schedW_high (tb blkA3) (by omega)]
  show sig1 (schedW (tb blkA3) 14) + schedW (tb blkA3) 9 + sig0 (schedW (tb blkA3) 1) + schedW (tb blkA3) 0 = _
  rw [schA3_14, schA3_9, schA3_1, schA3_0]; kernel_rfl
theorem schA3_17 : schedW (tb blkA3) 17 = 851043077#32 := by
  rw [schedW_high (tb blkA3) (by omega)]
  show sig1 (schedW (tb blkA3) 15) + schedW (tb blkA3) 10 + sig0 (schedW (tb blkA3) 2) + schedW (tb blkA3) 1 = _
  rw [schA3_15, schA3_10, schA3_2, schA3_1]; kernel_rfl
theorem schA3_18 : schedW (tb blkA3) 18 = 2512258258#32 := by
  rw [schedW_high (tb blkA3) (by omega)]
  show sig1 (schedW (tb blkA3) 16) + schedW (tb blkA3) 11 + sig0 (schedW (tb blkA3) 3) + schedW (tb blkA3) 2 = _
  rw [schA3_16, schA3_11, schA3_3, schA3_2]; kernel_rfl
theorem schA3_19 : schedW (tb blkA3) 19 = 2596785365#32 := by
  rw [schedW_high (tb blkA3) (by omega)]
  show sig1 (schedW (tb blkA3) 17) + schedW (tb blkA3) 12 + sig0 (schedW (tb blkA3) 4) + schedW (tb blkA3) 3 = _
  rw [schA3_17, schA3_12, schA3_4, schA3_3]; kernel_rfl
theorem schA3_20 : schedW (tb blkA3) 20 = 1413356479#32 := by
  rw [schedW_high (tb blkA3) (by omega)]
  show sig1 (schedW (tb blkA3) 18) + schedW (tb blkA3) 13 + sig0 (schedW (tb blkA3) 5) + schedW (tb blkA3) 4 = _
  rw [schA3_18, schA3_13, schA3_5, schA3_4]; kernel_rfl
theorem schA3_21 : schedW (tb blkA3) 21 = 2092149924#32 := by
  rw [schedW_high (tb blkA3) (by omega)]
  show sig1 (schedW (tb blkA3) 19) + schedW (tb blkA3) 14 + sig0 (schedW (tb blkA3) 6) + schedW (tb blkA3) 5 = _
  rw [schA3_19, schA3_14, schA3_6, schA3_5]; kernel_rfl
theorem schA3_22 : schedW (tb blkA3) 22 = 731524090#32 := by
  rw [schedW_high (tb blkA3) (by omega)]
  show sig1 (schedW (tb blkA3) 20) + schedW (tb blkA3) 15 + sig0 (schedW (tb blkA3) 7) + schedW (tb blkA3) 6 = _
  rw [schA3_20, schA3_15, schA3_7, schA3_6]; kernel_rfl
theorem schA3_23 : schedW (tb blkA3) 23 = 2598169322#32 := by
  rw [schedW_high (tb blkA3) (by omega)]
  show sig1 (schedW (tb blkA3) 21) + schedW (tb blkA3) 16 + sig0 (schedW (tb blkA3) 8) + schedW (tb blkA3) 7 = _
  rw [schA3_21, schA3_16, schA3_8, schA3_7]; kernel_rfl
theorem schA3_24 : schedW (tb blkA3) 24 = 2210601401#32 := by
  rw [schedW_high (tb blkA3) (by omega)]
  show sig1 (schedW (tb blkA3) 22) + schedW (tb blkA3) 17 + sig0 (schedW (tb blkA3) 9) + schedW (tb blkA3) 8 = _
  rw [schA3_22, schA3_17, schA3_9, schA3_8]; kernel_rfl
theorem schA3_25 : schedW (tb blkA3) 25 = 2118987361#32 := by
  rw [schedW_high (tb blkA3) (by omega)]
  show sig1 (schedW (tb blkA3) 23) + schedW (tb blkA3) 18 + sig0 (schedW (tb blkA3) 10) + schedW (tb blkA3) 9 = _
  rw [schA3_23, schA3_18, schA3_10, schA3_9]; kernel_rfl
theorem schA3_26 : schedW (tb blkA3) 26 = 2333298356#32 := by
  rw [schedW_high (tb blkA3) (by omega)]
  show sig1 (schedW (tb blkA3) 24) + schedW (tb blkA3) 19 + sig0 (schedW (tb blkA3) 11) + schedW (tb blkA3) 10 = _
  rw [schA3_24, schA3_19, schA3_11, schA3_10]; kernel_rfl
theorem schA3_27 : schedW (tb blkA3) 27 = 2275516387#32 := by
  rw [schedW_high (tb blkA3) (by omega)]
  show sig1 (schedW (tb blkA3) 25) + schedW (tb blkA3) 20 + sig0 (schedW (tb blkA3) 12) + schedW (tb blkA3) 11 = _
  rw [schA3_25, schA3_20, schA3_12, schA3_11]; kernel_rfl
theorem schA3_28 : schedW (tb blkA3) 28 = 1273118044#32 := by
  rw [schedW_high (tb blkA3) (by omega)]
  show sig1 (schedW (tb blkA3) 26) + schedW (tb blkA3) 21 + sig0 (schedW (tb blkA3) 13) + schedW (tb blkA3) 12 = _
  rw [schA3_26, schA3_21, schA3_13, schA3_12]; kernel_rfl
theorem schA3_29 : schedW (tb blkA3) 29 = 675743677#32 := by
  rw [schedW_high (tb blkA3) (by omega)]
  show sig1 (schedW (tb blkA3) 27) + schedW (tb blkA3) 22 + sig0 (schedW (tb blkA3) 14) + schedW (tb blkA3) 13 = _
  rw [schA3_27, schA3_22, schA3_14, schA3_13]; kernel_rfl
theorem schA3_30 : schedW (tb blkA3) 30 = 4101291884#32 := by
  rw [schedW_high (tb blkA3) (by omega)]
  show sig1 (schedW (tb blkA3) 28) + schedW (tb blkA3) 23 + sig0 (schedW (tb blkA3) 15) + schedW (tb blkA3) 14 = _
  rw [schA3_28, schA3_23, schA3_15, schA3_14]; kernel_rfl
theorem schA3_31 : schedW (tb blkA3) 31 = 1672444049#32 := by
  rw [schedW_high (tb blkA3) (by omega)]
  show sig1 (schedW (tb blkA3) 29) + schedW (tb blkA3) 24 + sig0 (schedW (tb blkA3) 16) + schedW (tb blkA3) 15 = _
  rw [schA3_29, schA3_24, schA3_16, schA3_15]; kernel_rfl
theorem schA3_32 : schedW (tb blkA3) 32 = 2989094986#32 := by
  rw [schedW_high (tb blkA3) (by omega)]
  show sig1 (schedW (tb blkA3) 30) + schedW (tb blkA3) 25 + sig0 (schedW (tb blkA3) 17) + schedW (tb blkA3) 16 = _
  rw [schA3_30, schA3_25, schA3_17, schA3_16]; kernel_rfl
theorem schA3_33 : schedW (tb blkA3) 33 = 1203225137#32 := by
  rw [schedW_high (tb blkA3) (by omega)]
  show sig1 (schedW (tb blkA3) 31) + schedW (tb blkA3) 26 + sig0 (schedW (tb blkA3) 18) + schedW (tb blkA3) 17 = _
  rw [schA3_31, schA3_26, schA3_18, schA3_17]; kernel_rfl
theorem schA3_34 : schedW (tb blkA3) 34 = 733493910#32 := by
  rw [schedW_high (tb blkA3) (by omega)]
  show sig1 (schedW (tb blkA3) 32) + schedW (tb blkA3) 27 + sig0 (schedW (tb blkA3) 19) + schedW (tb blkA3) 18 = _
  rw [schA3_32, schA3_27, schA3_19, schA3_18]; kernel_rfl
theorem schA3_35 : schedW (tb blkA3) 35 = 4072266589#32 := by
  rw [schedW_high (tb blkA3) (by omega)]
  show sig1 (schedW (tb blkA3) 33) + schedW (tb blkA3) 28 + sig0 (schedW (tb blkA3) 20) + schedW (tb blkA3) 19 = _
  rw [schA3_33, schA3_28, schA3_20, schA3_19]; kernel_rfl
theorem schA3_36 : schedW (tb blkA3) 36 = 1121873922#32 := by
  rw [schedW_high (tb blkA3) (by omega)]
  show sig1 (schedW (tb blkA3) 34) + schedW (tb blkA3) 29 + sig0 (schedW (tb blkA3) 21) + schedW (tb blkA3) 20 = _
  rw [schA3_34, schA3_29, schA3_21, schA3_20]; kernel_rfl
theorem schA3_37 : schedW (tb blkA3) 37 = 3288158555#32 := by
  rw [schedW_high (tb blkA3) (by omega)]
  show sig1 (schedW (tb blkA3) 35) + schedW (tb blkA3) 30 + sig0 (schedW (tb blkA3) 22) + schedW (tb blkA3) 21 = _
  rw [schA3_35, schA3_30, schA3_22, schA3_21]; kernel_rfl
theorem schA3_38 : schedW (tb blkA3) 38 = 2184185202#32 := by
  rw [schedW_high (tb blkA3) (by omega)]
  show sig1 (schedW (tb blkA3) 36) + schedW (tb blkA3) 31 + sig0 (schedW (tb blkA3) 23) + schedW (tb blkA3) 22 = _
  rw [schA3_36, schA3_31, schA3_23, schA3_22]; kernel_rfl
theorem schA3_39 : schedW (tb blkA3) 39 = 4107194365#32 := by
  rw [schedW_high (tb blkA3) (by omega)]
  show sig1 (schedW (tb blkA3) 37) + schedW (tb blkA3) 32 + sig0 (schedW (tb blkA3) 24) + schedW (tb blkA3) 23 = _
  rw [schA3_37, schA3_32, schA3_24, schA3_23]; kernel_rfl
theorem schA3_40 : schedW (tb blkA3) 40 = 1415567692#32 := by
  rw [schedW_high (tb blkA3) (by omega)]
  show sig1 (schedW (tb blkA3) 38) + schedW (tb blkA3) 33 + sig0 (schedW (tb blkA3) 25) + schedW (tb blkA3) 24 = _
  rw [schA3_38, schA3_33, schA3_25, schA3_24]; kernel_rfl
theorem schA3_41 : schedW (tb blkA3) 41 = 337333715#32 := by
  rw [schedW_high (tb blkA3) (by omega)]
  show sig1 (schedW (tb blkA3) 39) + schedW (tb blkA3) 34 + sig0 (schedW (tb blkA3) 26) + schedW (tb blkA3) 25 = _
  rw [schA3_39, schA3_34, schA3_26, schA3_25]; kernel_rfl
theorem schA3_42 : schedW (tb blkA3) 42 = 1164669582#32 := by
  rw [schedW_high (tb blkA3) (by omega)]
  show sig1 (schedW (tb blkA3) 40) + schedW (tb blkA3) 35 + sig0 (schedW (tb blkA3) 27) + schedW (tb blkA3) 26 = _
  rw [schA3_40, schA3_35, schA3_27, schA3_26]; kernel_rfl
theorem schA3_43 : schedW (tb blkA3) 43 = 3633549163#32 := by
  rw [schedW_high (tb blkA3) (by omega)]
  show sig1 (schedW (tb blkA3) 41) + schedW (tb blkA3) 36 + sig0 (schedW (tb blkA3) 28) + schedW (tb blkA3) 27 = _
  rw [schA3_41, schA3_36, schA3_28, schA3_27]; kernel_rfl
theorem schA3_44 : schedW (tb blkA3) 44 = 2778621028#32 := by
  rw [schedW_high (tb blkA3) (by omega)]
  show sig1 (schedW (tb blkA3) 42) + schedW (tb blkA3) 37 + sig0 (schedW (tb blkA3) 29) + schedW (tb blkA3) 28 = _
  rw [schA3_42, schA3_37, schA3_29, schA3_28]; kernel_rfl
theorem schA3_45 : schedW (tb blkA3) 45 = 1235420277#32 := by
  rw [schedW_high (tb blkA3) (by omega)]
  show sig1 (schedW (tb blkA3) 43) + schedW (tb blkA3) 38 + sig0 (schedW (tb blkA3) 30) + schedW (tb blkA3) 29 = _
  rw [schA3_43, schA3_38, schA3_30, schA3_29]; kernel_rfl
theorem schA3_46 : schedW (tb blkA3) 46 = 3631356502#32 := by
  rw [schedW_high (tb blkA3) (by omega)]
  show sig1 (schedW (tb blkA3) 44) + schedW (tb blkA3) 39 + sig0 (schedW (tb blkA3) 31) + schedW (tb blkA3) 30 = _
  rw [schA3_44, schA3_39, schA3_31, schA3_30]; kernel_rfl
theorem schA3_47 : schedW (tb blkA3) 47 = 2548660084#32 := by
  rw [schedW_high (tb blkA3) (by omega)]
  show sig1 (schedW (tb blkA3) 45) + schedW (tb blkA3) 40 + sig0 (schedW (tb blkA3) 32) + schedW (tb blkA3) 31 = _
  rw [schA3_45, schA3_40, schA3_32, schA3_31]; kernel_rfl
theorem schA3_48 : schedW (tb blkA3) 48 = 2945628157#32 := by
  rw [schedW_high (tb blkA3) (by omega)]
  show sig1 (schedW (tb blkA3) 46) + schedW (tb blkA3) 41 + sig0 (schedW (tb blkA3) 33) + schedW (tb blkA3) 32 = _
  rw [schA3_46, schA3_41, schA3_33, schA3_32]; kernel_rfl
theorem schA3_49 : schedW (tb blkA3) 49 = 1243239900#32 := by
  rw [schedW_high (tb blkA3) (by omega)]
  show sig1 (schedW (tb blkA3) 47) + schedW (tb blkA3) 42 + sig0 (schedW (tb blkA3) 34) + schedW (tb blkA3) 33 = _
  rw [schA3_47, schA3_42, schA3_34, schA3_33]; kernel_rfl
theorem schA3_50 : schedW (tb blkA3) 50 = 3839591690#32 := by
  rw [schedW_high (tb blkA3) (by omega)]
  show sig1 (schedW (tb blkA3) 48) + schedW (tb blkA3) 43 + sig0 (schedW (tb blkA3) 35) + schedW (tb blkA3) 34 = _
  rw [schA3_48, schA3_43, schA3_35, schA3_34]; kernel_rfl
theorem schA3_51 : schedW (tb blkA3) 51 = 2306755827#32 := by
  rw [schedW_high (tb blkA3) (by omega)]
  show sig1 (schedW (tb blkA3) 49) + schedW (tb blkA3) 44 + sig0 (schedW (tb blkA3) 36) + schedW (tb blkA3) 35 = _
  rw [schA3_49, schA3_44, schA3_36, schA3_35]; kernel_rfl
theorem schA3_52 : schedW (tb blkA3) 52 = 978136324#32 := by
  rw [schedW_high (tb blkA3) (by omega)]
  show sig1 (schedW (tb blkA3) 50) + schedW (tb blkA3) 45 + sig0 (schedW (tb blkA3) 37) + schedW (tb blkA3) 36 = _
  rw [schA3_50, schA3_45, schA3_37, schA3_36]; kernel_rfl
theorem schA3_53 : schedW (tb blkA3) 53 = 2152994268#32 := by
  rw [schedW_high (tb blkA3) (by omega)]
  show sig1 (schedW (tb blkA3) 51) + schedW (tb blkA3) 46 + sig0 (schedW (tb blkA3) 38) + schedW (tb blkA3) 37 = _
  rw [schA3_51, schA3_46, schA3_38, schA3_37]; kernel_rfl
theorem schA3_54 : schedW (tb blkA3) 54 = 2748628829#32 := by
  rw [schedW_high (tb blkA3) (by omega)]
  show sig1 (schedW (tb blkA3) 52) + schedW (tb blkA3) 47 + sig0 (schedW (tb blkA3) 39) + schedW (tb blkA3) 38 = _
  rw [schA3_52, schA3_47, schA3_39, schA3_38]; kernel_rfl
theorem schA3_55 : schedW (tb blkA3) 55 = 2437389995#32 := by
  rw [schedW_high (tb blkA3) (by omega)]
  show sig1 (schedW (tb blkA3) 53) + schedW (tb blkA3) 48 + sig0 (schedW (tb blkA3) 40) + schedW (tb blkA3) 39 = _
  rw [schA3_53, schA3_48, schA3_40, schA3_39]; kernel_rfl
theorem schA3_56 : schedW (tb blkA3) 56 = 3737606670#32 := by
  rw [schedW_high (tb blkA3) (by omega)]
  show sig1 (schedW (tb blkA3) 54) + schedW (tb blkA3) 49 + sig0 (schedW (tb blkA3) 41) + schedW (tb blkA3) 40 = _
  rw [schA3_54, schA3_49, schA3_41, schA3_40]; kernel_rfl
theorem schA3_57 : schedW (tb blkA3) 57 = 4263503927#32 := by
  rw [schedW_high (tb blkA3) (by omega)]
  show sig1 (schedW (tb blkA3) 55) + schedW (tb blkA3) 50 + sig0 (schedW (tb blkA3) 42) + schedW (tb blkA3) 41 = _
  rw [schA3_55, schA3_50, schA3_42, schA3_41]; kernel_rfl
theorem schA3_58 : schedW (tb blkA3) 58 = 1154770373#32 := by
  rw [schedW_high (tb blkA3) (by omega)]
  show sig1 (schedW (tb blkA3) 56) + schedW (tb blkA3) 51 + sig0 (schedW (tb blkA3) 43) + schedW (tb blkA3) 42 = _
  rw [schA3_56, schA3_51, schA3_43, schA3_42]; kernel_rfl
theorem schA3_59 : schedW (tb blkA3) 59 = 1625627848#32 := by
  rw [schedW_high (tb blkA3) (by omega)]
  show sig1 (schedW (tb blkA3) 57) + schedW (tb blkA3) 52 + sig0 (schedW (tb blkA3) 44) + schedW (tb blkA3) 43 = _
  rw [schA3_57, schA3_52, schA3_44, schA3_43]; kernel_rfl
theorem schA3_60 : schedW (tb blkA3) 60 = 116928279#32 := by
  rw [schedW_high (tb blkA3) (by omega)]
  show sig1 (schedW (tb blkA3) 58) + schedW (tb blkA3) 53 + sig0 (schedW (tb blkA3) 45) + schedW (tb blkA3) 44 = _
  rw [schA3_58, schA3_53, schA3_45, schA3_44]; kernel_rfl
theorem schA3_61 : schedW (tb blkA3) 61 = 1267194461#32 := by
  rw [schedW_high (tb blkA3) (by omega)]
  show sig1 (schedW (tb blkA3) 59) + schedW (tb blkA3) 54 + sig0 (schedW (tb blkA3) 46) + schedW (tb blkA3) 45 = _
  rw [schA3_59, schA3_54, schA3_46, schA3_45]; kernel_rfl
theorem schA3_62 : schedW (tb blkA3) 62 = 573730979#32 := by
  rw [schedW_high (tb blkA3) (by omega)]
  show sig1 (schedW (tb blkA3) 60) + schedW (tb blkA3) 55 + sig0 (schedW (tb blkA3) 47) + schedW (tb blkA3) 46 = _
  rw [schA3_60, schA3_55, schA3_47, schA3_46]; kernel_rfl
theorem schA3_63 : schedW (tb blkA3) 63 = 3497711419#32 := by
  rw [schedW_high (tb blkA3) (by omega)]
  show sig1 (schedW (tb blkA3) 61) + schedW (tb blkA3) 56 + sig0 (schedW (tb blkA3) 48) + schedW (tb blkA3) 47 = _
  rw [schA3_61, schA3_56, schA3_48, schA3_47]; kernel_rfl
theorem stA3_0 : W8.steps kW (schedW (tb blkA3)) ⟨1779033703#32, 3144134277#32, 1013904242#32, 2773480762#32, 1359893119#32, 2600822924#32, 528734635#32, 1541459225#32⟩ 0 = ⟨1779033703#32, 3144134277#32, 1013904242#32, 2773480762#32, 1359893119#32, 2600822924#32, 528734635#32, 1541459225#32⟩ := rfl
theorem stA3_1 : W8.steps kW (schedW (tb blkA3)) ⟨1779033703#32, 3144134277#32, 1013904242#32, 2773480762#32, 1359893119#32, 2600822924#32, 528734635#32, 1541459225#32⟩ 1 = ⟨1613953272#32, 1779033703#32, 3144134277#32, 1013904242#32, 4243739469#32, 1359893119#32, 2600822924#32, 528734635#32⟩ := by
  show (W8.steps kW (schedW (tb blkA3)) ⟨1779033703#32, 3144134277#32, 1013904242#32, 2773480762#32, 1359893119#32, 2600822924#32, 528734635#32, 1541459225#32⟩ 0).step (kW 0) (schedW (tb blkA3) 0) = _
  rw [stA3_0, schA3_0]; kernel_rfl
theorem stA3_2 : W8.steps kW (schedW (tb blkA3)) ⟨1779033703#32, 3144134277#32, 1013904242#32, 2773480762#32, 1359893119#32, 2600822924#32, 528734635#32, 1541459225#32⟩ 2 = ⟨847134975#32, 1613953272#32, 1779033703#32, 3144134277#32, 4036814691#32, 4243739469#32, 1359893119#32, 2600822924#32⟩ := by
  show (W8.steps kW (schedW (tb blkA3)) ⟨1779033703#32, 3144134277#32, 1013904242#32, 2773480762#32, 1359893119#32, 2600822924#32, 528734635#32, 1541459225#32⟩ 1).step (kW 1) (schedW (tb blkA3) 1) = _
  rw [stA3_1, schA3_1]; kernel_rfl
theorem stA3_3 : W8.steps kW (schedW (tb blkA3)) ⟨1779033703#32, 3144134277#32, 1013904242#32, 2773480762#32, 1359893119#32, 2600822924#32, 528734635#32, 1541459225#32⟩ 3 = ⟨370487406#32, 847134975#32, 1613953272#32, 1779033703#32, 1021050608#32, 4036814691#32, 4243739469#32, 1359893119#32⟩ := by
  show (W8.steps kW (schedW (tb blkA3)) ⟨1779033703#32, 3144134277#32, 1013904242#32, 2773480762#32, 1359893119#32, 2600822924#32, 528734635#32, 1541459225#32⟩ 2).step (kW 2) (schedW (tb blkA3) 2) = _
  rw [stA3_2, schA3_2]; kernel_rfl
theorem stA3_4 : W8.steps kW (schedW (tb blkA3)) ⟨1779033703#32, 3144134277#32, 1013904242#32, 2773480762#32, 1359893119#32, 2600822924#32, 528734635#32, 1541459225#32⟩ 4 = ⟨461875460#32, 370487406#32, 847134975#32, 1613953272#32, 19323267#32, 1021050608#32, 4036814691#32, 4243739469#32⟩ := by
  show (W8.steps kW (schedW (tb blkA3)) ⟨1779033703#32, 3144134277#32, 1013904242#32, 2773480762#32, 1359893119#32, 2600822924#32, 528734635#32, 1541459225#32⟩ 3).step (kW 3) (schedW (tb blkA3) 3) = _
  rw [stA3_3, schA3_3]; kernel_rfl
theorem stA3_5 : W8.steps kW (schedW (tb blkA3)) ⟨1779033703#32, 3144134277#32, 1013904242#32, 2773480762#32, 1359893119#32, 2600822924#32, 528734635#32, 1541459225#32⟩ 5 = ⟨3377462427#32, 461875460#32, 370487406#32, 847134975#32, 3339104019#32, 19323267#32, 1021050608#32, 4036814691#32⟩ := by
  show (W8.steps kW (schedW (tb blkA3)) ⟨1779033703#32, 3144134277#32, 1013904242#32, 2773480762#32, 1359893119#32, 2600822924#32, 528734635#32, 1541459225#32⟩ 4).step (kW 4) (schedW (tb blkA3) 4) = _
  rw [stA3_4, schA3_4]; kernel_rfl
theorem stA3_6 : W8.steps kW (schedW (tb blkA3)) ⟨1779033703#32, 3144134277#32, 1013904242#32, 2773480762#32, 1359893119#32, 2600822924#32, 528734635#32, 1541459225#32⟩ 6 = ⟨1401238951#32, 3377462427#32, 461875460#32, 370487406#32, 1098638364#32, 3339104019#32, 19323267#32, 1021050608#32⟩ := by
  show (W8.steps kW (schedW (tb blkA3)) ⟨1779033703#32, 3144134277#32, 1013904242#32, 2773480762#32, 1359893119#32, 2600822924#32, 528734635#32, 1541459225#32⟩ 5).step (kW 5) (schedW (tb blkA3) 5) = _
  rw [stA3_5, schA3_5]; kernel_rfl
theorem stA3_7 : W8.steps kW (schedW (tb blkA3)) ⟨1779033703#32, 3144134277#32, 1013904242#32, 2773480762#32, 1359893119#32, 2600822924#32, 528734635#32, 1541459225#32⟩ 7 = ⟨2224255972#32, 1401238951#32, 3377462427#32, 461875460#32, 3524500157#32, 1098638364#32, 3339104019#32, 19323267#32⟩ := by
  show (W8.steps kW (schedW (tb blkA3)) ⟨1779033703#32, 3144134277#32, 1013904242#32, 2773480762#32, 1359893119#32, 2600822924#32, 528734635#32, 1541459225#32⟩ 6).step (kW 6) (schedW (tb blkA3) 6) = _
  rw [stA3_6, schA3_6]; kernel_rfl
theorem stA3_8 : W8.steps kW (schedW (tb blkA3)) ⟨1779033703#32, 3144134277#32, 1013904242#32, 2773480762#32, 1359893119#32, 2600822924#32, 528734635#32, 1541459225#32⟩ 8 = ⟨2890755289#32, 2224255972#32, 1401238951#32, 3377462427#32, 310261190#32, 3524500157#32, 1098638364#32, 3339104019#32⟩ := by
  show (W8.steps kW (schedW (tb blkA3)) ⟨1779033703#32, 3144134277#32, 1013904242#32, 2773480762#32, 1359893119#32, 2600822924#32, 528734635#32, 1541459225#32⟩ 7).step (kW 7) (schedW (tb blkA3) 7) = _
  rw [stA3_7, schA3_7]; kernel_rfl
theorem stA3_9 : W8.steps kW (schedW (tb blkA3)) ⟨1779033703#32, 3144134277#32, 1013904242#32, 2773480762#32, 1359893119#32, 2600822924#32, 528734635#32, 1541459225#32⟩ 9 = ⟨2869080204#32, 2890755289#32, 2224255972#32, 1401238951#32, 3076511574#32, 310261190#32, 3524500157#32, 1098638364#32⟩ := by
  show (W8.steps kW (schedW (tb blkA3)) ⟨1779033703#32, 3144134277#32, 1013904242#32, 2773480762#32, 1359893119#32, 2600822924#32, 528734635#32, 1541459225#32⟩ 8).step (kW 8) (schedW (tb blkA3) 8) = _
  rw [stA3_8, schA3_8]; kernel_rfl
theorem stA3_10 : W8.steps kW (schedW (tb blkA3)) ⟨1779033703#32, 3144134277#32, 1013904242#32, 2773480762#32, 1359893119#32, 2600822924#32, 528734635#32, 1541459225#32⟩ 10 = ⟨1929720010#32, 2869080204#32, 2890755289#32, 2224255972#32, 1981755147#32, 3076511574#32, 310261190#32, 3524500157#32⟩ := by
  show (W8.steps kW (schedW (tb blkA3)) ⟨1779033703#32, 3144134277#32, 1013904242#32, 2773480762#32, 1359893119#32, 2600822924#32, 528734635#32, 1541459225#32⟩ 9).step (kW 9) (schedW (tb blkA3) 9) = _
  rw [stA3_9, schA3_9]; kernel_rfl
theorem stA3_11 : W8.steps kW (schedW (tb blkA3)) ⟨1779033703#32, 3144134277#32, 1013904242#32, 2773480762#32, 1359893119#32, 2600822924#32, 528734635#32, 1541459225#32⟩ 11 = ⟨93912606#32, 1929720010#32, 2869080204#32, 2890755289#32, 3503637347#32, 1981755147#32, 3076511574#32, 310261190#32⟩ := by
  show (W8.steps kW (schedW (tb blkA3)) ⟨1779033703#32, 3144134277#32, 1013904242#32, 2773480762#32, 1359893119#32, 2600822924#32, 528734635#32, 1541459225#32⟩ 10).step (kW 10) (schedW (tb blkA3) 10) = _
  rw [stA3_10, schA3_10]; kernel_rfl
theorem stA3_12 : W8.steps kW (schedW (tb blkA3)) ⟨1779033703#32, 3144134277#32, 1013904242#32, 2773480762#32, 1359893119#32, 2600822924#32, 528734635#32, 1541459225#32⟩ 12 = ⟨4195270957#32, 93912606#32, 1929720010#32, 2869080204#32, 1894584866#32, 3503637347#32, 1981755147#32, 3076511574#32⟩ := by
  show (W8.steps kW (schedW (tb blkA3)) ⟨1779033703#32, 3144134277#32, 1013904242#32, 2773480762#32, 1359893119#32, 2600822924#32, 528734635#32, 1541459225#32⟩ 11).step (kW 11) (schedW (tb blkA3) 11) = _
  rw [stA3_11, schA3_11]; kernel_rfl
theorem stA3_13 : W8.steps kW (schedW (tb blkA3)) ⟨1779033703#32, 3144134277#32, 1013904242#32, 2773480762#32, 1359893119#32, 2600822924#32, 528734635#32, 1541459225#32⟩ 13 = ⟨1481392390#32, 4195270957#32, 93912606#32, 1929720010#32, 1129916847#32, 1894584866#32, 3503637347#32, 1981755147#32⟩ := by
  show (W8.steps kW (schedW (tb blkA3)) ⟨1779033703#32, 3144134277#32, 1013904242#32, 2773480762#32, 1359893119#32, 2600822924#32, 528734635#32, 1541459225#32⟩ 12).step (kW 12) (schedW (tb blkA3) 12) = _
  rw [stA3_12, schA3_12]; kernel_rfl
theorem stA3_14 : W8.steps kW (schedW (tb blkA3)) ⟨1779033703#32, 3144134277#32, 1013904242#32, 2773480762#32, 1359893119#32, 2600822924#32, 528734635#32, 1541459225#32⟩ 14 = ⟨1338762297#32, 1481392390#32, 4195270957#32, 93912606#32, 3147729075#32, 1129916847#32, 1894584866#32, 3503637347#32⟩ := by
  show (W8.steps kW (schedW (tb blkA3)) ⟨1779033703#32, 3144134277#32, 1013904242#32, 2773480762#32, 1359893119#32, 2600822924#32, 528734635#32, 1541459225#32⟩ 13).step (kW 13) (schedW (tb blkA3) 13) = _
  rw [stA3_13, schA3_13]; kernel_rfl
theorem stA3_15 : W8.steps kW (schedW (tb blkA3)) ⟨1779033703#32, 3144134277#32, 1013904242#32, 2773480762#32, 1359893119#32, 2600822924#32, 528734635#32, 1541459225#32⟩ 15 = ⟨3696964818#32, 1338762297#32, 1481392390#32, 4195270957#32, 704450389#32, 3147729075#32, 1129916847#32, 1894584866#32⟩ := by
  show (W8.steps kW (schedW (tb blkA3)) ⟨1779033703#32, 3144134277#32, 1013904242#32, 2773480762#32, 1359893119#32, 2600822924#32, 528734635#32, 1541459225#32⟩ 14).step (kW 14) (schedW (tb blkA3) 14) = _
  rw [stA3_14, schA3_14]; kernel_rfl
theorem stA3_16 : W8.steps kW (schedW (tb blkA3)) ⟨1779033703#32, 3144134277#32, 1013904242#32, 2773480762#32, 1359893119#32, 2600822924#32, 528734635#32, 1541459225#32⟩ 16 = ⟨346403427#32, 3696964818#32, 1338762297#32, 1481392390#32, 890612450#32, 704450389#32, 3147729075#32, 1129916847#32⟩ := by
  show (W8.steps kW (schedW (tb blkA3)) ⟨1779033703#32, 3144134277#32, 1013904242#32, 2773480762#32, 1359893119#32, 2600822924#32, 528734635#32, 1541459225#32⟩ 15).step (kW 15) (schedW (tb blkA3) 15) = _
  rw [stA3_15, schA3_15]; kernel_rfl
theorem stA3_17 : W8.steps kW (schedW (tb blkA3)) ⟨1779033703#32, 3144134277#32, 1013904242#32, 2773480762#32, 1359893119#32, 2600822924#32, 528734635#32, 1541459225#32⟩ 17 = ⟨1176627813#32, 346403427#32, 3696964818#32, 1338762297#32, 2158637329#32, 890612450#32, 704450389#32, 3147729075#32⟩ := by
  show (W8.steps kW (schedW (tb blkA3)) ⟨1779033703#32, 3144134277#32, 1013904242#32, 2773480762#32, 1359893119#32, 2600822924#32, 528734635#32, 1541459225#32⟩ 16).step (kW 16) (schedW (tb blkA3) 16) = _
  rw [stA3_16, schA3_16]; kernel_rfl
theorem stA3_18 : W8.steps kW (schedW (tb blkA3)) ⟨1779033703#32, 3144134277#32, 1013904242#32, 2773480762#32, 1359893119#32, 2600822924#32, 528734635#32, 1541459225#32⟩ 18 = ⟨298035125#32, 1176627813#32, 346403427#32, 3696964818#32, 2288122621#32, 2158637329#32, 890612450#32, 704450389#32⟩ := by
  show (W8.steps kW (schedW (tb blkA3)) ⟨1779033703#32, 3144134277#32, 1013904242#32, 2773480762#32, 1359893119#32, 2600822924#32, 528734635#32, 1541459225#32⟩ 17).step (kW 17) (schedW (tb blkA3) 17) = _
  rw [stA3_17, schA3_17]; kernel_rfl
theorem stA3_19 : W8.steps kW (schedW (tb blkA3)) ⟨1779033703#32, 3144134277#32, 1013904242#32, 2773480762#32, 1359893119#32, 2600822924#32, 528734635#32, 1541459225#32⟩ 19 = ⟨2852597036#32, 298035125#32, 1176627813#32, 346403427#32, 4202302434#32, 2288122621#32, 2158637329#32, 890612450#32⟩ := by
  show (W8.steps kW (schedW (tb blkA3)) ⟨1779033703#32, 3144134277#32, 1013904242#32, 2773480762#32, 1359893119#32, 2600822924#32, 528734635#32, 1541459225#32⟩ 18).step (kW 18) (schedW (tb blkA3) 18) = _
  rw [stA3_18, schA3_18]; kernel_rfl
theorem stA3_20 : W8.steps kW (schedW (tb blkA3)) ⟨1779033703#32, 3144134277#32, 1013904242#32, 2773480762#32, 1359893119#32, 2600822924#32, 528734635#32, 1541459225#32⟩ 20 = ⟨2832302982#32, 2852597036#32, 298035125#32, 1176627813#32, 1545821418#32, 4202302434#32, 2288122621#32, 2158637329#32⟩ := by
  show (W8.steps kW (schedW (tb blkA3)) ⟨1779033703#32, 3144134277#32, 1013904242#32, 2773480762#32, 1359893119#32, 2600822924#32, 528734635#32, 1541459225#32⟩ 19).step (kW 19) (schedW (tb blkA3) 19) = _
  rw [stA3_19, schA3_19]; kernel_rfl
theorem stA3_21 : W8.steps kW (schedW (tb blkA3)) ⟨1779033703#32, 3144134277#32, 1013904242#32, 2773480762#32, 1359893119#32, 2600822924#32, 528734635#32, 1541459225#32⟩ 21 = ⟨2577171678#32, 2832302982#32, 2852597036#32, 298035125#32, 1189841617#32, 1545821418#32, 4202302434#32, 2288122621#32⟩ := by
  show (W8.steps kW (schedW (tb blkA3)) ⟨1779033703#32, 3144134277#32, 1013904242#32, 2773480762#32, 1359893119#32, 2600822924#32, 528734635#32, 1541459225#32⟩ 20).step (kW 20) (schedW (tb blkA3) 20) = _
  rw [stA3_20, schA3_20]; kernel_rfl
theorem stA3_22 : W8.steps kW (schedW (tb blkA3)) ⟨1779033703#32, 3144134277#32, 1013904242#32, 2773480762#32, 1359893119#32, 2600822924#32, 528734635#32, 1541459225#32⟩ 22 = ⟨1372155753#32, 2577171678#32, 2832302982#32, 2852597036#32, 3363240411#32, 1189841617#32, 1545821418#32, 4202302434#32⟩ := by
  show (W8.steps kW (schedW (tb blkA3)) ⟨1779033703#32, 3144134277#32, 1013904242#32, 2773480762#32, 1359893119#32, 2600822924#32, 528734635#32, 1541459225#32⟩ 21).step (kW 21) (schedW (tb blkA3) 21) = _
  rw [stA3_21, schA3_21]; kernel_rfl
theorem stA3_23 : W8.steps kW (schedW (tb blkA3)) ⟨1779033703#32, 3144134277#32, 1013904242#32, 2773480762#32, 1359893119#32, 2600822924#32, 528734635#32, 1541459225#32⟩ 23 = ⟨3937116201#32, 1372155753#32, 2577171678#32, 2832302982#32, 4032025777#32, 3363240411#32, 1189841617#32, 1545821418#32⟩ := by
  show (W8.steps kW (schedW (tb blkA3)) ⟨1779033703#32, 3144134277#32, 1013904242#32, 2773480762#32, 1359893119#32, 2600822924#32, 528734635#32, 1541459225#32⟩ 22).step (kW 22) (schedW (tb blkA3) 22) = _
  rw [stA3_22, schA3_22]; kernel_rfl
theorem stA3_24 : W8.steps kW (schedW (tb blkA3)) ⟨1779033703#32, 3144134277#32, 1013904242#32, 2773480762#32, 1359893119#32, 2600822924#32, 528734635#32, 1541459225#32⟩ 24 = ⟨1543014581#32, 3937116201#32, 1372155753#32, 2577171678#32, 1440435413#32, 4032025777#32, 3363240411#32, 1189841617#32⟩ := by
  show (W8.steps kW (schedW (tb blkA3)) ⟨1779033703#32, 3144134277#32, 1013904242#32, 2773480762#32, 1359893119#32, 2600822924#32, 528734635#32, 1541459225#32⟩ 23).step (kW 23) (schedW (tb blkA3) 23) = _
  rw [stA3_23, schA3_23]; kernel_rfl
theorem stA3_25 : W8.steps kW (schedW (tb blkA3)) ⟨1779033703#32, 3144134277#32, 1013904242#32, 2773480762#32, 1359893119#32, 2600822924#32, 528734635#32, 1541459225#32⟩ 25 = ⟨2871032086#32, 1543014581#32, 3937116201#32, 1372155753#32, 4150078789#32, 1440435413#32, 4032025777#32, 3363240411#32⟩ := by
  show (W8.steps kW (schedW (tb blkA3)) ⟨1779033703#32, 3144134277#32, 1013904242#32, 2773480762#32, 1359893119#32, 2600822924#32, 528734635#32, 1541459225#32⟩ 24).step (kW 24) (schedW (tb blkA3) 24) = _
  rw [stA3_24, schA3_24]; kernel_rfl
theorem stA3_26 : W8.steps kW (schedW (tb blkA3)) ⟨1779033703#32, 3144134277#32, 1013904242#32, 2773480762#32, 1359893119#32, 2600822924#32, 528734635#32, 1541459225#32⟩ 26 = ⟨629723048#32, 2871032086#32, 1543014581#32, 3937116201#32, 2819651826#32, 4150078789#32, 1440435413#32, 4032025777#32⟩ := by
  show (W8.steps kW (schedW (tb blkA3)) ⟨1779033703#32, 3144134277#32, 1013904242#32, 2773480762#32, 1359893119#32, 2600822924#32, 528734635#32, 1541459225#32⟩ 25).step (kW 25) (schedW (tb blkA3) 25) = _
  rw [stA3_25, schA3_25]; kernel_rfl
theorem stA3_27 : W8.steps kW (schedW (tb blkA3)) ⟨1779033703#32, 3144134277#32, 1013904242#32, 2773480762#32, 1359893119#32, 2600822924#32, 528734635#32, 1541459225#32⟩ 27 = ⟨2161457944#32, 629723048#32, 2871032086#32, 1543014581#32, 3904524883#32, 2819651826#32, 4150078789#32, 1440435413#32⟩ := by
  show (W8.steps kW (schedW (tb blkA3)) ⟨1779033703#32, 3144134277#32, 1013904242#32, 2773480762#32, 1359893119#32, 2600822924#32, 528734635#32, 1541459225#32⟩ 26).step (kW 26) (schedW (tb blkA3) 26) = _
  rw [stA3_26, schA3_26]; kernel_rfl
theorem stA3_28 : W8.steps kW (schedW (tb blkA3)) ⟨1779033703#32, 3144134277#32, 1013904242#32, 2773480762#32, 1359893119#32, 2600822924#32, 528734635#32, 1541459225#32⟩ 28 = ⟨46163792#32, 2161457944#32, 629723048#32, 2871032086#32, 287001217#32, 3904524883#32, 2819651826#32, 4150078789#32⟩ := by
  show (W8.steps kW (schedW (tb blkA3)) ⟨1779033703#32, 3144134277#32, 1013904242#32, 2773480762#32, 1359893119#32, 2600822924#32, 528734635#32, 1541459225#32⟩ 27).step (kW 27) (schedW (tb blkA3) 27) = _
  rw [stA3_27, schA3_27]; kernel_rfl
theorem stA3_29 : W8.steps kW (schedW (tb blkA3)) ⟨1779033703#32, 3144134277#32, 1013904242#32, 2773480762#32, 1359893119#32, 2600822924#32, 528734635#32, 1541459225#32⟩ 29 = ⟨3362436806#32, 46163792#32, 2161457944#32, 629723048#32, 924676328#32, 287001217#32, 3904524883#32, 2819651826#32⟩ := by
  show (W8.steps kW (schedW (tb blkA3)) ⟨1779033703#32, 3144134277#32, 1013904242#32, 2773480762#32, 1359893119#32, 2600822924#32, 528734635#32, 1541459225#32⟩ 28).step (kW 28) (schedW (tb blkA3) 28) = _
  rw [stA3_28, schA3_28]; kernel_rfl
theorem stA3_30 : W8.steps kW (schedW (tb blkA3)) ⟨1779033703#32, 3144134277#32, 1013904242#32, 2773480762#32, 1359893119#32, 2600822924#32, 528734635#32, 1541459225#32⟩ 30 = ⟨3805635604#32, 3362436806#32, 46163792#32, 2161457944#32, 3634759335#32, 924676328#32, 287001217#32, 3904524883#32⟩ := by
  show (W8.steps kW (schedW (tb blkA3)) ⟨1779033703#32, 3144134277#32, 1013904242#32, 2773480762#32, 1359893119#32, 2600822924#32, 528734635#32, 1541459225#32⟩ 29).step (kW 29) (schedW (tb blkA3) 29) = _
  rw [stA3_29, schA3_29]; kernel_rfl
theorem stA3_31 : W8.steps kW (schedW (tb blkA3)) ⟨1779033703#32, 3144134277#32, 1013904242#32, 2773480762#32, 1359893119#32, 2600822924#32, 528734635#32, 1541459225#32⟩ 31 = ⟨502538079#32, 3805635604#32, 3362436806#32, 46163792#32, 2391201790#32, 3634759335#32, 924676328#32, 287001217#32⟩ := by
  show (W8.steps kW (schedW (tb blkA3)) ⟨1779033703#32, 3144134277#32, 1013904242#32, 2773480762#32, 1359893119#32, 2600822924#32, 528734635#32, 1541459225#32⟩ 30).step (kW 30) (schedW (tb blkA3) 30) = _
  rw [stA3_30, schA3_30]; kernel_rfl
theorem stA3_32 : W8.steps kW (schedW (tb blkA3)) ⟨1779033703#32, 3144134277#32, 1013904242#32, 2773480762#32, 1359893119#32, 2600822924#32, 528734635#32, 1541459225#32⟩ 32 = ⟨1073746487#32, 502538079#32, 3805635604#32, 3362436806#32, 2345905969#32, 2391201790#32, 3634759335#32, 924676328#32⟩ := by
  show (W8.steps kW (schedW (tb blkA3)) ⟨1779033703#32, 3144134277#32, 1013904242#32, 2773480762#32, 1359893119#32, 2600822924#32, 528734635#32, 1541459225#32⟩ 31).step (kW 31) (schedW (tb blkA3) 31) = _
  rw [stA3_31, schA3_31]; kernel_rfl
theorem stA3_33 : W8.steps kW (schedW (tb blkA3)) ⟨1779033703#32, 3144134277#32, 1013904242#32, 2773480762#32, 1359893119#32, 2600822924#32, 528734635#32, 1541459225#32⟩ 33 = ⟨943036189#32, 1073746487#32, 502538079#32, 3805635604#32, 2111397439#32, 2345905969#32, 2391201790#32, 3634759335#32⟩ := by
  show (W8.steps kW (schedW (tb blkA3)) ⟨1779033703#32, 3144134277#32, 1013904242#32, 2773480762#32, 1359893119#32, 2600822924#32, 528734635#32, 1541459225#32⟩ 32).step (kW 32) (schedW (tb blkA3) 32) = _
  rw [stA3_32, schA3_32]; kernel_rfl
theorem stA3_34 : W8.steps kW (schedW (tb blkA3)) ⟨1779033703#32, 3144134277#32, 1013904242#32, 2773480762#32, 1359893119#32, 2600822924#32, 528734635#32, 1541459225#32⟩ 34 = ⟨3925156760#32, 943036189#32, 1073746487#32, 502538079#32, 2480775170#32, 2111397439#32, 2345905969#32, 2391201790#32⟩ := by
  show (W8.steps kW (schedW (tb blkA3)) ⟨1779033703#32, 3144134277#32, 1013904242#32, 2773480762#32, 1359893119#32, 2600822924#32, 528734635#32, 1541459225#32⟩ 33).step (kW 33) (schedW (tb blkA3) 33) = _
  rw [stA3_33, schA3_33]; kernel_rfl
theorem stA3_35 : W8.steps kW (schedW (tb blkA3)) ⟨1779033703#32, 3144134277#32, 1013904242#32, 2773480762#32, 1359893119#32, 2600822924#32, 528734635#32, 1541459225#32⟩ 35 = ⟨1618809925#32, 3925156760#32, 943036189#32, 1073746487#32, 604486559#32, 2480775170#32, 2111397439#32, 2345905969#32⟩ := by
  show (W8.steps kW (schedW (tb blkA3)) ⟨1779033703#32, 3144134277#32, 1013904242#32, 2773480762#32, 1359893119#32, 2600822924#32, 528734635#32, 1541459225#32⟩ 34).step (kW 34) (schedW (tb blkA3) 34) = _
  rw [stA3_34, schA3_34]; kernel_rfl
theorem stA3_36 : W8.steps kW (schedW (tb blkA3)) ⟨1779033703#32, 3144134277#32, 1013904242#32, 2773480762#32, 1359893119#32, 2600822924#32, 528734635#32, 1541459225#32⟩ 36 = ⟨2938583011#32, 1618809925#32, 3925156760#32, 943036189#32, 2018303877#32, 604486559#32, 2480775170#32, 2111397439#32⟩ := by
  show (W8.steps kW (schedW (tb blkA3)) ⟨1779033703#32, 3144134277#32, 1013904242#32, 2773480762#32, 1359893119#32, 2600822924#32, 528734635#32, 1541459225#32⟩ 35).step (kW 35) (schedW (tb blkA3) 35) = _
  rw [stA3_35, schA3_35]; kernel_rfl
theorem stA3_37 : W8.steps kW (schedW (tb blkA3)) ⟨1779033703#32, 3144134277#32, 1013904242#32, 2773480762#32, 1359893119#32, 2600822924#32, 528734635#32, 1541459225#32⟩ 37 = ⟨1039820723#32, 2938583011#32, 1618809925#32, 3925156760#32, 3299839122#32, 2018303877#32, 604486559#32, 2480775170#32⟩ := by
  show (W8.steps kW (schedW (tb blkA3)) ⟨1779033703#32, 3144134277#32, 1013904242#32, 2773480762#32, 1359893119#32, 2600822924#32, 528734635#32, 1541459225#32⟩ 36).step (kW 36) (schedW (tb blkA3) 36) = _
  rw [stA3_36, schA3_36]; kernel_rfl
theorem stA3_38 : W8.steps kW (schedW (tb blkA3)) ⟨1779033703#32, 3144134277#32, 1013904242#32, 2773480762#32, 1359893119#32, 2600822924#32, 528734635#32, 1541459225#32⟩ 38 = ⟨97980657#32, 1039820723#32, 2938583011#32, 1618809925#32, 2798862814#32, 3299839122#32, 2018303877#32, 604486559#32⟩ := by
  show (W8.steps kW (schedW (tb blkA3)) ⟨1779033703#32, 3144134277#32, 1013904242#32, 2773480762#32, 1359893119#32, 2600822924#32, 528734635#32, 1541459225#32⟩ 37).step (kW 37) (schedW (tb blkA3) 37) = _
  rw [stA3_37, schA3_37]; kernel_rfl
theorem stA3_39 : W8.steps kW (schedW (tb blkA3)) ⟨1779033703#32, 3144134277#32, 1013904242#32, 2773480762#32, 1359893119#32, 2600822924#32, 528734635#32, 1541459225#32⟩ 39 = ⟨4130277268#32, 97980657#32, 1039820723#32, 2938583011#32, 2381755731#32, 2798862814#32, 3299839122#32, 2018303877#32⟩ := by
  show (W8.steps kW (schedW (tb blkA3)) ⟨1779033703#32, 3144134277#32, 1013904242#32, 2773480762#32, 1359893119#32, 2600822924#32, 528734635#32, 1541459225#32⟩ 38).step (kW 38) (schedW (tb blkA3) 38) = _
  rw [stA3_38, schA3_38]; kernel_rfl
theorem stA3_40 : W8.steps kW (schedW (tb blkA3)) ⟨1779033703#32, 3144134277#32, 1013904242#32, 2773480762#32, 1359893119#32, 2600822924#32, 528734635#32, 1541459225#32⟩ 40 = ⟨3602308756#32, 4130277268#32, 97980657#32, 1039820723#32, 2460806017#32, 2381755731#32, 2798862814#32, 3299839122#32⟩ := by
  show (W8.steps kW (schedW (tb blkA3)) ⟨1779033703#32, 3144134277#32, 1013904242#32, 2773480762#32, 1359893119#32, 2600822924#32, 528734635#32, 1541459225#32⟩ 39).step (kW 39) (schedW (tb blkA3) 39) = _
  rw [stA3_39, schA3_39]; kernel_rfl
theorem stA3_41 : W8.steps kW (schedW (tb blkA3)) ⟨1779033703#32, 3144134277#32, 1013904242#32, 2773480762#32, 1359893119#32, 2600822924#32, 528734635#32, 1541459225#32⟩ 41 = ⟨1912372917#32, 3602308756#32, 4130277268#32, 97980657#32, 3201203851#32, 2460806017#32, 2381755731#32, 2798862814#32⟩ := by
  show (W8.steps kW (schedW (tb blkA3)) ⟨1779033703#32, 3144134277#32, 1013904242#32, 2773480762#32, 1359893119#32, 2600822924#32, 528734635#32, 1541459225#32⟩ 40).step (kW 40) (schedW (tb blkA3) 40) = _
  rw [stA3_40, schA3_40]; kernel_rfl
theorem stA3_42 : W8.steps kW (schedW (tb blkA3)) ⟨1779033703#32, 3144134277#32, 1013904242#32, 2773480762#32, 1359893119#32, 2600822924#32, 528734635#32, 1541459225#32⟩ 42 = ⟨3731237844#32, 1912372917#32, 3602308756#32, 4130277268#32, 2505087144#32, 3201203851#32, 2460806017#32, 2381755731#32⟩ := by
  show (W8.steps kW (schedW (tb blkA3)) ⟨1779033703#32, 3144134277#32, 1013904242#32, 2773480762#32, 1359893119#32, 2600822924#32, 528734635#32, 1541459225#32⟩ 41).step (kW 41) (schedW (tb blkA3) 41) = _
  rw [stA3_41, schA3_41]; kernel_rfl
theorem stA3_43 : W8.steps kW (schedW (tb blkA3)) ⟨1779033703#32, 3144134277#32, 1013904242#32, 2773480762#32, 1359893119#32, 2600822924#32, 528734635#32, 1541459225#32⟩ 43 = ⟨338465894#32, 3731237844#32, 1912372917#32, 3602308756#32, 1104474793#32, 2505087144#32, 3201203851#32, 2460806017#32⟩ := by
  show (W8.steps kW (schedW (tb blkA3)) ⟨1779033703#32, 3144134277#32, 1013904242#32, 2773480762#32, 1359893119#32, 2600822924#32, 528734635#32, 1541459225#32⟩ 42).step (kW 42) (schedW (tb blkA3) 42) = _
  rw [stA3_42, schA3_42]; kernel_rfl
theorem stA3_44 : W8.steps kW (schedW (tb blkA3)) ⟨1779033703#32, 3144134277#32, 1013904242#32, 2773480762#32, 1359893119#32, 2600822924#32, 528734635#32, 1541459225#32⟩ 44 = ⟨4113826382#32, 338465894#32, 3731237844#32, 1912372917#32, 3809772993#32, 1104474793#32, 2505087144#32, 3201203851#32⟩ := by
  show (W8.steps kW (schedW (tb blkA3)) ⟨1779033703#32, 3144134277#32, 1013904242#32, 2773480762#32, 1359893119#32, 2600822924#32, 528734635#32, 1541459225#32⟩ 43).step (kW 43) (schedW (tb blkA3) 43) = _
  rw [stA3_43, schA3_43]; kernel_rfl
theorem stA3_45 : W8.steps kW (schedW (tb blkA3)) ⟨1779033703#32, 3144134277#32, 1013904242#32, 2773480762#32, 1359893119#32, 2600822924#32, 528734635#32, 1541459225#32⟩ 45 = ⟨345950548#32, 4113826382#32, 338465894#32, 3731237844#32, 860074716#32, 3809772993#32, 1104474793#32, 2505087144#32⟩ := by
  show (W8.steps kW (schedW (tb blkA3)) ⟨1779033703#32, 3144134277#32, 1013904242#32, 2773480762#32, 1359893119#32, 2600822924#32, 528734635#32, 1541459225#32⟩ 44).step (kW 44) (schedW (tb blkA3) 44) = _
  rw [stA3_44, schA3_44]; kernel_rfl
theorem stA3_46 : W8.steps kW (schedW (tb blkA3)) ⟨1779033703#32, 3144134277#32, 1013904242#32, 2773480762#32, 1359893119#32, 2600822924#32, 528734635#32, 1541459225#32⟩ 46 = ⟨3969004541#32, 345950548#32, 4113826382#32, 338465894#32, 2182715546#32, 860074716#32, 3809772993#32, 1104474793#32⟩ := by
  show (W8.steps kW (schedW (tb blkA3)) ⟨1779033703#32, 3144134277#32, 1013904242#32, 2773480762#32, 1359893119#32, 2600822924#32, 528734635#32, 1541459225#32⟩ 45).step (kW 45) (schedW (tb blkA3) 45) = _
  rw [stA3_45, schA3_45]; kernel_rfl
theorem stA3_47 : W8.steps kW (schedW (tb blkA3)) ⟨1779033703#32, 3144134277#32, 1013904242#32, 2773480762#32, 1359893119#32, 2600822924#32, 528734635#32, 1541459225#32⟩ 47 = ⟨2273928101#32, 3969004541#32, 345950548#32, 4113826382#32, 4212905171#32, 2182715546#32, 860074716#32, 3809772993#32⟩ := by
  show (W8.steps kW (schedW (tb blkA3)) ⟨1779033703#32, 3144134277#32, 1013904242#32, 2773480762#32, 1359893119#32, 2600822924#32, 528734635#32, 1541459225#32⟩ 46).step (kW 46) (schedW (tb blkA3) 46) = _
  rw [stA3_46, schA3_46]; kernel_rfl
theorem stA3_48 : W8.steps kW (schedW (tb blkA3)) ⟨1779033703#32, 3144134277#32, 1013904242#32, 2773480762#32, 1359893119#32, 2600822924#32, 528734635#32, 1541459225#32⟩ 48 = ⟨1142361288#32, 2273928101#32, 3969004541#32, 345950548#32, 1534048357#32, 4212905171#32, 2182715546#32, 860074716#32⟩ := by
  show (W8.steps kW (schedW (tb blkA3)) ⟨1779033703#32, 3144134277#32, 1013904242#32, 2773480762#32, 1359893119#32, 2600822924#32, 528734635#32, 1541459225#32⟩ 47).step (kW 47) (schedW (tb blkA3) 47) = _
  rw [stA3_47, schA3_47]; kernel_rfl
theorem stA3_49 : W8.steps kW (schedW (tb blkA3)) ⟨1779033703#32, 3144134277#32, 1013904242#32, 2773480762#32, 1359893119#32, 2600822924#32, 528734635#32, 1541459225#32⟩ 49 = ⟨4122576140#32, 1142361288#32, 2273928101#32, 3969004541#32, 441477081#32, 1534048357#32, 4212905171#32, 2182715546#32⟩ := by
  show (W8.steps kW (schedW (tb blkA3)) ⟨1779033703#32, 3144134277#32, 1013904242#32, 2773480762#32, 1359893119#32, 2600822924#32, 528734635#32, 1541459225#32⟩ 48).step (kW 48) (schedW (tb blkA3) 48) = _
  rw [stA3_48, schA3_48]; kernel_rfl
theorem stA3_50 : W8.steps kW (schedW (tb blkA3)) ⟨1779033703#32, 3144134277#32, 1013904242#32, 2773480762#32, 1359893119#32, 2600822924#32, 528734635#32, 1541459225#32⟩ 50 = ⟨1441265348#32, 4122576140#32, 1142361288#32, 2273928101#32, 2311267804#32, 441477081#32, 1534048357#32, 4212905171#32⟩ := by
  show (W8.steps kW (schedW (tb blkA3)) ⟨1779033703#32, 3144134277#32, 1013904242#32, 2773480762#32, 1359893119#32, 2600822924#32, 528734635#32, 1541459225#32⟩ 49).step (kW 49) (schedW (tb blkA3) 49) = _
  rw [stA3_49, schA3_49]; kernel_rfl
theorem stA3_51 : W8.steps kW (schedW (tb blkA3)) ⟨1779033703#32, 3144134277#32, 1013904242#32, 2773480762#32, 1359893119#32, 2600822924#32, 528734635#32, 1541459225#32⟩ 51 = ⟨470364798#32, 1441265348#32, 4122576140#32, 1142361288#32, 291163518#32, 2311267804#32, 441477081#32, 1534048357#32⟩ := by
  show (W8.steps kW (schedW (tb blkA3)) ⟨1779033703#32, 3144134277#32, 1013904242#32, 2773480762#32, 1359893119#32, 2600822924#32, 528734635#32, 1541459225#32⟩ 50).step (kW 50) (schedW (tb blkA3) 50) = _
  rw [stA3_50, schA3_50]; kernel_rfl
theorem stA3_52 : W8.steps kW (schedW (tb blkA3)) ⟨1779033703#32, 3144134277#32, 1013904242#32, 2773480762#32, 1359893119#32, 2600822924#32, 528734635#32, 1541459225#32⟩ 52 = ⟨2779247680#32, 470364798#32, 1441265348#32, 4122576140#32, 1675228694#32, 291163518#32, 2311267804#32, 441477081#32⟩ := by
  show (W8.steps kW (schedW (tb blkA3)) ⟨1779033703#32, 3144134277#32, 1013904242#32, 2773480762#32, 1359893119#32, 2600822924#32, 528734635#32, 1541459225#32⟩ 51).step (kW 51) (schedW (tb blkA3) 51) = _
  rw [stA3_51, schA3_51]; kernel_rfl
theorem stA3_53 : W8.steps kW (schedW (tb blkA3)) ⟨1779033703#32, 3144134277#32, 1013904242#32, 2773480762#32, 1359893119#32, 2600822924#32, 528734635#32, 1541459225#32⟩ 53 = ⟨3107080258#32, 2779247680#32, 470364798#32, 1441265348#32, 2223375441#32, 1675228694#32, 291163518#32, 2311267804#32⟩ := by
  show (W8.steps kW (schedW (tb blkA3)) ⟨1779033703#32, 3144134277#32, 1013904242#32, 2773480762#32, 1359893119#32, 2600822924#32, 528734635#32, 1541459225#32⟩ 52).step (kW 52) (schedW (tb blkA3) 52) = _
  rw [stA3_52, schA3_52]; kernel_rfl
theorem stA3_54 : W8.steps kW (schedW (tb blkA3)) ⟨1779033703#32, 3144134277#32, 1013904242#32, 2773480762#32, 1359893119#32, 2600822924#32, 528734635#32, 1541459225#32⟩ 54 = ⟨3699709179#32, 3107080258#32, 2779247680#32, 470364798#32, 1339116055#32, 2223375441#32, 1675228694#32, 291163518#32⟩ := by
  show (W8.steps kW (schedW (tb blkA3)) ⟨1779033703#32, 3144134277#32, 1013904242#32, 2773480762#32, 1359893119#32, 2600822924#32, 528734635#32, 1541459225#32⟩ 53).step (kW 53) (schedW (tb blkA3) 53) = _
  rw [stA3_53, schA3_53]; kernel_rfl
theorem stA3_55 : W8.steps kW (schedW (tb blkA3)) ⟨1779033703#32, 3144134277#32, 1013904242#32, 2773480762#32, 1359893119#32, 2600822924#32, 528734635#32, 1541459225#32⟩ 55 = ⟨790389383#32, 3699709179#32, 3107080258#32, 2779247680#32, 1221718623#32, 1339116055#32, 2223375441#32, 1675228694#32⟩ := by
  show (W8.steps kW (schedW (tb blkA3)) ⟨1779033703#32, 3144134277#32, 1013904242#32, 2773480762#32, 1359893119#32, 2600822924#32, 528734635#32, 1541459225#32⟩ 54).step (kW 54) (schedW (tb blkA3) 54) = _
  rw [stA3_54, schA3_54]; kernel_rfl
theorem stA3_56 : W8.steps kW (schedW (tb blkA3)) ⟨1779033703#32, 3144134277#32, 1013904242#32, 2773480762#32, 1359893119#32, 2600822924#32, 528734635#32, 1541459225#32⟩ 56 = ⟨4091771615#32, 790389383#32, 3699709179#32, 3107080258#32, 771928414#32, 1221718623#32, 1339116055#32, 2223375441#32⟩ := by
  show (W8.steps kW (schedW (tb blkA3)) ⟨1779033703#32, 3144134277#32, 1013904242#32, 2773480762#32, 1359893119#32, 2600822924#32, 528734635#32, 1541459225#32⟩ 55).step (kW 55) (schedW (tb blkA3) 55) = _
  rw [stA3_55, schA3_55]; kernel_rfl
theorem stA3_57 : W8.steps kW (schedW (tb blkA3)) ⟨1779033703#32, 3144134277#32, 1013904242#32, 2773480762#32, 1359893119#32, 2600822924#32, 528734635#32, 1541459225#32⟩ 57 = ⟨457568882#32, 4091771615#32, 790389383#32, 3699709179#32, 755403122#32, 771928414#32, 1221718623#32, 1339116055#32⟩ := by
  show (W8.steps kW (schedW (tb blkA3)) ⟨1779033703#32, 3144134277#32, 1013904242#32, 2773480762#32, 1359893119#32, 2600822924#32, 528734635#32, 1541459225#32⟩ 56).step (kW 56) (schedW (tb blkA3) 56) = _
  rw [stA3_56, schA3_56]; kernel_rfl
theorem stA3_58 : W8.steps kW (schedW (tb blkA3)) ⟨1779033703#32, 3144134277#32, 1013904242#32, 2773480762#32, 1359893119#32, 2600822924#32, 528734635#32, 1541459225#32⟩ 58 = ⟨3605884595#32, 457568882#32, 4091771615#32, 790389383#32, 1973723641#32, 755403122#32, 771928414#32, 1221718623#32⟩ := by
  show (W8.steps kW (schedW (tb blkA3)) ⟨1779033703#32, 3144134277#32, 1013904242#32, 2773480762#32, 1359893119#32, 2600822924#32, 528734635#32, 1541459225#32⟩ 57).step (kW 57) (schedW (tb blkA3) 57) = _
  rw [stA3_57, schA3_57]; kernel_rfl
theorem stA3_59 : W8.steps kW (schedW (tb blkA3)) ⟨1779033703#32, 3144134277#32, 1013904242#32, 2773480762#32, 1359893119#32, 2600822924#32, 528734635#32, 1541459225#32⟩ 59 = ⟨1403181798#32, 3605884595#32, 457568882#32, 4091771615#32, 2033884894#32, 1973723641#32, 755403122#32, 771928414#32⟩ := by
  show (W8.steps kW (schedW (tb blkA3)) ⟨1779033703#32, 3144134277#32, 1013904242#32, 2773480762#32, 1359893119#32, 2600822924#32, 528734635#32, 1541459225#32⟩ 58).step (kW 58) (schedW (tb blkA3) 58) = _
  rw [stA3_58, schA3_58]; kernel_rfl
theorem stA3_60 : W8.steps kW (schedW (tb blkA3)) ⟨1779033703#32, 3144134277#32, 1013904242#32, 2773480762#32, 1359893119#32, 2600822924#32, 528734635#32, 1541459225#32⟩ 60 = ⟨3973030413#32, 1403181798#32, 3605884595#32, 457568882#32, 3290132249#32, 2033884894#32, 1973723641#32, 755403122#32⟩ := by
  show (W8.steps kW (schedW (tb blkA3)) ⟨1779033703#32, 3144134277#32, 1013904242#32, 2773480762#32, 1359893119#32, 2600822924#32, 528734635#32, 1541459225#32⟩ 59).step (kW 59) (schedW (tb blkA3) 59) = _
  rw [stA3_59, schA3_59]; kernel_rfl
theorem stA3_61 : W8.steps kW (schedW (tb blkA3)) ⟨1779033703#32, 3144134277#32, 1013904242#32, 2773480762#32, 1359893119#32, 2600822924#32, 528734635#32, 1541459225#32⟩ 61 = ⟨3974122914#32, 3973030413#32, 1403181798#32, 3605884595#32, 3680607264#32, 3290132249#32, 2033884894#32, 1973723641#32⟩ := by
  show (W8.steps kW (schedW (tb blkA3)) ⟨1779033703#32, 3144134277#32, 1013904242#32, 2773480762#32, 1359893119#32, 2600822924#32, 528734635#32, 1541459225#32⟩ 60).step (kW 60) (schedW (tb blkA3) 60) = _
  rw [stA3_60, schA3_60]; kernel_rfl
theorem stA3_62 : W8.steps kW (schedW (tb blkA3)) ⟨1779033703#32, 3144134277#32, 1013904242#32, 2773480762#32, 1359893119#32, 2600822924#32, 528734635#32, 1541459225#32⟩ 62 = ⟨1095613644#32, 3974122914#32, 3973030413#32, 1403181798#32, 3560857856#32, 3680607264#32, 3290132249#32, 2033884894#32⟩ := by
  show (W8.steps kW (schedW (tb blkA3)) ⟨1779033703#32, 3144134277#32, 1013904242#32, 2773480762#32, 1359893119#32, 2600822924#32, 528734635#32, 1541459225#32⟩ 61).step (kW 61) (schedW (tb blkA3) 61) = _
  rw [stA3_61, schA3_61]; kernel_rfl
theorem stA3_63 : W8.steps kW (schedW (tb blkA3)) ⟨1779033703#32, 3144134277#32, 1013904242#32, 2773480762#32, 1359893119#32, 2600822924#32, 528734635#32, 1541459225#32⟩ 63 = ⟨345161882#32, 1095613644#32, 3974122914#32, 3973030413#32, 3131415193#32, 3560857856#32, 3680607264#32, 3290132249#32⟩ := by
  show (W8.steps kW (schedW (tb blkA3)) ⟨1779033703#32, 3144134277#32, 1013904242#32, 2773480762#32, 1359893119#32, 2600822924#32, 528734635#32, 1541459225#32⟩ 62).step (kW 62) (schedW (tb blkA3) 62) = _
  rw [stA3_62, schA3_62]; kernel_rfl
theorem stA3_64 : W8.steps kW (schedW (tb blkA3)) ⟨1779033703#32, 3144134277#32, 1013904242#32, 2773480762#32, 1359893119#32, 2600822924#32, 528734635#32, 1541459225#32⟩ 64 = ⟨2738068182#32, 345161882#32, 1095613644#32, 3974122914#32, 2152461175#32, 3131415193#32, 3560857856#32, 3680607264#32⟩ := by
  show (W8.steps kW (schedW (tb blkA3)) ⟨1779033703#32, 3144134277#32, 1013904242#32, 2773480762#32, 1359893119#32, 2600822924#32, 528734635#32, 1541459225#32⟩ 63).step (kW 63) (schedW (tb blkA3) 63) = _
  rw [stA3_63, schA3_63]; kernel_rfl
theorem turnA3 : W8.turn kW ⟨1779033703#32, 3144134277#32, 1013904242#32, 2773480762#32, 1359893119#32, 2600822924#32, 528734635#32, 1541459225#32⟩ (tb blkA3) = ⟨222134589#32, 3489296159#32, 2109517886#32, 2452636380#32, 3512354294#32, 1437270821#32, 4089592491#32, 927099193#32⟩ := by
  unfold W8.turn
  rw [stA3_64]; kernel_rfl
def blkA4 : List Nat := [153, 160, 31, 203, 88, 37, 124, 100, 103, 254, 4, 240, 228, 111, 124, 223, 6, 223, 128, 58, 98, 215, 92, 82, 127, 207, 127, 3, 47, 53, 186, 241, 128, 0, 0, 0, 0, 0, 0, 0, 0, 0, 0, 0, 0, 0, 0, 0, 0, 0, 0, 0, 0, 0, 0, 0, 0, 0, 0, 0, 0, 0, 3, 0]
theorem schA4_0 : schedW (tb blkA4) 0 = 2577407947#32 := by rw [schedW_low (tb blkA4) (by omega)]; kernel_rfl
theorem schA4_1 : schedW (tb blkA4) 1 = 1478851684#32 := by rw [schedW_low (tb blkA4) (by omega)]; kernel_rfl
theorem schA4_2 : schedW (tb blkA4) 2 = 1744700656#32 := by rw [schedW_low (tb blkA4) (by omega)]; kernel_rfl
theorem schA4_3 : schedW (tb blkA4) 3 = 3832511711#32 := by rw [schedW_low (tb blkA4) (by omega)]; kernel_rfl
theorem schA4_4 : schedW (tb blkA4) 4 = 115310650#32 := by rw [schedW_low (tb blkA4) (by omega)]; kernel_rfl
theorem schA4_5 : schedW (tb blkA4) 5 = 1658281042#32 := by rw [schedW_low (tb blkA4) (by omega)]; kernel_rfl
theorem schA4_6 : schedW (tb blkA4) 6 = 2144304899#32 := by rw [schedW_low (tb blkA4) (by omega)]; kernel_rfl
theorem schA4_7 : schedW (tb blkA4) 7 = 792050417#32 := by rw [schedW_low (tb blkA4) (by omega)]; kernel_rfl
theorem schA4_8 : schedW (tb blkA4) 8 = 2147483648#32 := by rw [schedW_low (tb blkA4) (by omega)]; kernel_rfl
theorem schA4_9 : schedW (tb blkA4) 9 = 0#32 := by rw [schedW_low (tb blkA4) (by omega)]; kernel_rfl
theorem schA4_10 : schedW (tb blkA4) 10 = 0#32 := by rw [schedW_low (tb blkA4) (by omega)]; kernel_rfl
theorem schA4_11 : schedW (tb blkA4) 11 = 0#32 := by rw [schedW_low (tb blkA4) (by omega)]; kernel_rfl
theorem schA4_12 : schedW (tb blkA4) 12 = 0#32 := by rw [schedW_low (tb blkA4) (by omega)]; kernel_rfl
theorem schA4_13 : schedW (tb blkA4) 13 = 0#32 := by rw [schedW_low (tb blkA4) (by omega)]; kernel_rfl
theorem schA4_14 : schedW (tb blkA4) 14 = 0#32 := by rw [schedW_low (tb blkA4) (by omega)]; kernel_rfl
theorem schA4_15 : schedW (tb blkA4) 15 = 768#32 := by rw [schedW_low (tb blkA4) (by omega)]; kernel_rfl
theorem schA4_16 : schedW (tb blkA4) 16 = 911086408#32 := by
  rw [schedW_high (tb blkA4) (by omega)]
  show sig1 (schedW (tb blkA4) 14) + schedW (tb blkA4) 9 + sig0 (schedW (tb blkA4) 1) + schedW (tb blkA4) 0 = _
  rw [schA4_14, schA4_9, schA4_1, schA4_0]; kernel_rfl
theorem schA4_17 : schedW (tb blkA4) 17 = 3339821516#32 := by
  rw [schedW_high (tb blkA4) (by omega)]
  show sig1 (schedW (tb blkA4) 15) + schedW (tb blkA4) 10 + sig0 (schedW (tb blkA4) 2) + schedW (tb blkA4) 1 = _
  rw [schA4_15, schA4_10, schA4_2, schA4_1]; kernel_rfl
theorem schA4_18 : schedW (tb blkA4) 18 = 2956024787#32 := by
  rw [schedW_high (tb blkA4) (by omega)]
  show sig1 (schedW (tb blkA4) 16) + schedW (tb blkA4) 11 + sig0 (schedW (tb blkA4) 3) + schedW (tb blkA4) 2 = _
  rw [schA4_16, schA4_11, schA4_3, schA4_2]; kernel_rfl
theorem schA4_19 : schedW (tb blkA4) 19 = 1580632721#32 := by
  rw [schedW_high (tb blkA4) (by omega)]
  show sig1 (schedW (tb blkA4) 17) + schedW (tb blkA4) 12 + sig0 (schedW (tb blkA4) 4) + schedW (tb blkA4) 3 = _
  rw [schA4_17, schA4_12, schA4_4, schA4_3]; kernel_rfl
theorem schA4_20 : schedW (tb blkA4) 20 = 220921865#32 := by
  rw [schedW_high (tb blkA4) (by omega)]
  show sig1 (schedW (tb blkA4) 18) + schedW (tb blkA4) 13 + sig0 (schedW (tb blkA4) 5) + schedW (tb blkA4) 4 = _
  rw [schA4_18, schA4_13, schA4_5, schA4_4]; kernel_rfl
theorem schA4_21 : schedW (tb blkA4) 21 = 3450541246#32 := by
  rw [schedW_high (tb blkA4) (by omega)]
  show sig1 (schedW (tb blkA4) 19) + schedW (tb blkA4) 14 + sig0 (schedW (tb blkA4) 6) + schedW (tb blkA4) 5 = _
  rw [schA4_19, schA4_14, schA4_6, schA4_5]; kernel_rfl
theorem schA4_22 : schedW (tb blkA4) 22 = 3906668505#32 := by
  rw [schedW_high (tb blkA4) (by omega)]
  show sig1 (schedW (tb blkA4) 20) + schedW (tb blkA4) 15 + sig0 (schedW (tb blkA4) 7) + schedW (tb blkA4) 6 = _
  rw [schA4_20, schA4_15, schA4_7, schA4_6]; kernel_rfl
theorem schA4_23 : schedW (tb blkA4) 23 = 1602208734#32 := by
  rw [schedW_high (tb blkA4) (by omega)]
  show sig1 (schedW (tb blkA4) 21) + schedW (tb blkA4) 16 + sig0 (schedW (tb blkA4) 8) + schedW (tb blkA4) 7 = _
  rw [schA4_21, schA4_16, schA4_8, schA4_7]; kernel_rfl
theorem schA4_24 : schedW (tb blkA4) 24 = 708813187#32 := by
  rw [schedW_high (tb blkA4) (by omega)]
  show sig1 (schedW (tb blkA4) 22) + schedW (tb blkA4) 17 + sig0 (schedW (tb blkA4) 9) + schedW (tb blkA4) 8 = _
  rw [schA4_22, schA4_17, schA4_9, schA4_8]; kernel_rfl
theorem schA4_25 : schedW (tb blkA4) 25 = 3384055667#32 := by
  rw [schedW_high (tb blkA4) (by omega)]
  show sig1 (schedW (tb blkA4) 23) + schedW (tb blkA4) 18 + sig0 (schedW (tb blkA4) 10) + schedW (tb blkA4) 9 = _
  rw [schA4_23, schA4_18, schA4_10, schA4_9]; kernel_rfl
theorem schA4_26 : schedW (tb blkA4) 26 = 2201094721#32 := by
  rw [schedW_high (tb blkA4) (by omega)]
  show sig1 (schedW (tb blkA4) 24) + schedW (tb blkA4) 19 + sig0 (schedW (tb blkA4) 11) + schedW (tb blkA4) 10 = _
  rw [schA4_24, schA4_19, schA4_11, schA4_10]; kernel_rfl
theorem schA4_27 : schedW (tb blkA4) 27 = 3868258514#32 := by
  rw [schedW_high (tb blkA4) (by omega)]
  show sig1 (schedW (tb blkA4) 25) + schedW (tb blkA4) 20 + sig0 (schedW (tb blkA4) 12) + schedW (tb blkA4) 11 = _
  rw [schA4_25, schA4_20, schA4_12, schA4_11]; kernel_rfl
theorem schA4_28 : schedW (tb blkA4) 28 = 301158971#32 := by
  rw [schedW_high (tb blkA4) (by omega)]
  show sig1 (schedW (tb blkA4) 26) + schedW (tb blkA4) 21 + sig0 (schedW (tb blkA4) 13) + schedW (tb blkA4) 12 = _
  rw [schA4_26, schA4_21, schA4_13, schA4_12]; kernel_rfl
theorem schA4_29 : schedW (tb blkA4) 29 = 1327862655#32 := by
  rw [schedW_high (tb blkA4) (by omega)]
  show sig1 (schedW (tb blkA4) 27) + schedW (tb blkA4) 22 + sig0 (schedW (tb blkA4) 14) + schedW (tb blkA4) 13 = _
  rw [schA4_27, schA4_22, schA4_14, schA4_13]; kernel_rfl
theorem schA4_30 : schedW (tb blkA4) 30 = 597580375#32 := by
  rw [schedW_high (tb blkA4) (by omega)]
  show sig1 (schedW (tb blkA4) 28) + schedW (tb blkA4) 23 + sig0 (schedW (tb blkA4) 15) + schedW (tb blkA4) 14 = _
  rw [schA4_28, schA4_23, schA4_15, schA4_14]; kernel_rfl
theorem schA4_31 : schedW (tb blkA4) 31 = 3095035761#32 := by
  rw [schedW_high (tb blkA4) (by omega)]
  show sig1 (schedW (tb blkA4) 29) + schedW (tb blkA4) 24 + sig0 (schedW (tb blkA4) 16) + schedW (tb blkA4) 15 = _
  rw [schA4_29, schA4_24, schA4_16, schA4_15]; kernel_rfl
theorem schA4_32 : schedW (tb blkA4) 32 = 3482018723#32 := by
  rw [schedW_high (tb blkA4) (by omega)]
  show sig1 (schedW (tb blkA4) 30) + schedW (tb blkA4) 25 + sig0 (schedW (tb blkA4) 17) + schedW (tb blkA4) 16 = _
  rw [schA4_30, schA4_25, schA4_17, schA4_16]; kernel_rfl
theorem schA4_33 : schedW (tb blkA4) 33 = 2723104635#32 := by
  rw [schedW_high (tb blkA4) (by omega)]
  show sig1 (schedW (tb blkA4) 31) + schedW (tb blkA4) 26 + sig0 (schedW (tb blkA4) 18) + schedW (tb blkA4) 17 = _
  rw [schA4_31, schA4_26, schA4_18, schA4_17]; kernel_rfl
theorem schA4_34 : schedW (tb blkA4) 34 = 3650907#32 := by
  rw [schedW_high (tb blkA4) (by omega)]
  show sig1 (schedW (tb blkA4) 32) + schedW (tb blkA4) 27 + sig0 (schedW (tb blkA4) 19) + schedW (tb blkA4) 18 = _
  rw [schA4_32, schA4_27, schA4_19, schA4_18]; kernel_rfl
theorem schA4_35 : schedW (tb blkA4) 35 = 2405533910#32 := by
  rw [schedW_high (tb blkA4) (by omega)]
  show sig1 (schedW (tb blkA4) 33) + schedW (tb blkA4) 28 + sig0 (schedW (tb blkA4) 20) + schedW (tb blkA4) 19 = _
  rw [schA4_33, schA4_28, schA4_20, schA4_19]; kernel_rfl
theorem schA4_36 : schedW (tb blkA4) 36 = 693700940#32 := by
  rw [schedW_high (tb blkA4) (by omega)]
  show sig1 (schedW (tb blkA4) 34) + schedW (tb blkA4) 29 + sig0 (schedW (tb blkA4) 21) + schedW (tb blkA4) 20 = _
  rw [schA4_34, schA4_29, schA4_21, schA4_20]; kernel_rfl
theorem schA4_37 : schedW (tb blkA4) 37 = 1440246293#32 := by
  rw [schedW_high (tb blkA4) (by omega)]
  show sig1 (schedW (tb blkA4) 35) + schedW (tb blkA4) 30 + sig0 (schedW (tb blkA4) 22) + schedW (tb blkA4) 21 = _
  rw [schA4_35, schA4_30, schA4_22, schA4_21]; kernel_rfl
theorem schA4_38 : schedW (tb blkA4) 38 = 2390875954#32 := by
  rw [schedW_high (tb blkA4) (by omega)]
  show sig1 (schedW (tb blkA4) 36) + schedW (tb blkA4) 31 + sig0 (schedW (tb blkA4) 23) + schedW (tb blkA4) 22 = _
  rw [schA4_36, schA4_31, schA4_23, schA4_22]; kernel_rfl
theorem schA4_39 : schedW (tb blkA4) 39 = 1390141386#32 := by
  rw [schedW_high (tb blkA4) (by omega)]
  show sig1 (schedW (tb blkA4) 37) + schedW (tb blkA4) 32 + sig0 (schedW (tb blkA4) 24) + schedW (tb blkA4) 23 = _
  rw [schA4_37, schA4_32, schA4_24, schA4_23]; kernel_rfl
theorem schA4_40 : schedW (tb blkA4) 40 = 2086971794#32 := by
  rw [schedW_high (tb blkA4) (by omega)]
  show sig1 (schedW (tb blkA4) 38) + schedW (tb blkA4) 33 + sig0 (schedW (tb blkA4) 25) + schedW (tb blkA4) 24 = _
  rw [schA4_38, schA4_33, schA4_25, schA4_24]; kernel_rfl
theorem schA4_41 : schedW (tb blkA4) 41 = 1877305375#32 := by
  rw [schedW_high (tb blkA4) (by omega)]
  show sig1 (schedW (tb blkA4) 39) + schedW (tb blkA4) 34 + sig0 (schedW (tb blkA4) 26) + schedW (tb blkA4) 25 = _
  rw [schA4_39, schA4_34, schA4_26, schA4_25]; kernel_rfl
theorem schA4_42 : schedW (tb blkA4) 42 = 1503887882#32 := by
  rw [schedW_high (tb blkA4) (by omega)]
  show sig1 (schedW (tb blkA4) 40) + schedW (tb blkA4) 35 + sig0 (schedW (tb blkA4) 27) + schedW (tb blkA4) 26 = _
  rw [schA4_40, schA4_35, schA4_27, schA4_26]; kernel_rfl
theorem schA4_43 : schedW (tb blkA4) 43 = 3381978641#32 := by
  rw [schedW_high (tb blkA4) (by omega)]
  show sig1 (schedW (tb blkA4) 41) + schedW (tb blkA4) 36 + sig0 (schedW (tb blkA4) 28) + schedW (tb blkA4) 27 = _
  rw [schA4_41, schA4_36, schA4_28, schA4_27]; kernel_rfl
theorem schA4_44 : schedW (tb blkA4) 44 = 2898458069#32 := by
  rw [schedW_high (tb blkA4) (by omega)]
  show sig1 (schedW (tb blkA4) 42) + schedW (tb blkA4) 37 + sig0 (schedW (tb blkA4) 29) + schedW (tb blkA4) 28 = _
  rw [schA4_42, schA4_37, schA4_29, schA4_28]; kernel_rfl
theorem schA4_45 : schedW (tb blkA4) 45 = 172059275#32 := by
  rw [schedW_high (tb blkA4) (by omega)]
  show sig1 (schedW (tb blkA4) 43) + schedW (tb blkA4) 38 + sig0 (schedW (tb blkA4) 30) + schedW (tb blkA4) 29 = _
  rw [schA4_43, schA4_38, schA4_30, schA4_29]; kernel_rfl
theorem schA4_46 : schedW (tb blkA4) 46 = 110715507#32 := by
  rw [schedW_high (tb blkA4) (by omega)]
  show sig1 (schedW (tb blkA4) 44) + schedW (tb blkA4) 39 + sig0 (schedW (tb blkA4) 31) + schedW (tb blkA4) 30 = _
  rw [schA4_44, schA4_39, schA4_31, schA4_30]; kernel_rfl
theorem schA4_47 : schedW (tb blkA4) 47 = 1400645254#32 := by
  rw [schedW_high (tb blkA4) (by omega)]
  show sig1 (schedW (tb blkA4) 45) + schedW (tb blkA4) 40 + sig0 (schedW (tb blkA4) 32) + schedW (tb blkA4) 31 = _
  rw [schA4_45, schA4_40, schA4_32, schA4_31]; kernel_rfl
theorem schA4_48 : schedW (tb blkA4) 48 = 263893115#32 := by
  rw [schedW_high (tb blkA4) (by omega)]
  show sig1 (schedW (tb blkA4) 46) + schedW (tb blkA4) 41 + sig0 (schedW (tb blkA4) 33) + schedW (tb blkA4) 32 = _
  rw [schA4_46, schA4_41, schA4_33, schA4_32]; kernel_rfl
theorem schA4_49 : schedW (tb blkA4) 49 = 4006240297#32 := by
  rw [schedW_high (tb blkA4) (by omega)]
  show sig1 (schedW (tb blkA4) 47) + schedW (tb blkA4) 42 + sig0 (schedW (tb blkA4) 34) + schedW (tb blkA4) 33 = _
  rw [schA4_47, schA4_42, schA4_34, schA4_33]; kernel_rfl
theorem schA4_50 : schedW (tb blkA4) 50 = 3066361285#32 := by
  rw [schedW_high (tb blkA4) (by omega)]
  show sig1 (schedW (tb blkA4) 48) + schedW (tb blkA4) 43 + sig0 (schedW (tb blkA4) 35) + schedW (tb blkA4) 34 = _
  rw [schA4_48, schA4_43, schA4_35, schA4_34]; kernel_rfl
theorem schA4_51 : schedW (tb blkA4) 51 = 2541326396#32 := by
  rw [schedW_high (tb blkA4) (by omega)]
  show sig1 (schedW (tb blkA4) 49) + schedW (tb blkA4) 44 + sig0 (schedW (tb blkA4) 36) + schedW (tb blkA4) 35 = _
  rw [schA4_49, schA4_44, schA4_36, schA4_35]; kernel_rfl
theorem schA4_52 : schedW (tb blkA4) 52 = 1386756414#32 := by
  rw [schedW_high (tb blkA4) (by omega)]
  show sig1 (schedW (tb blkA4) 50) + schedW (tb blkA4) 45 + sig0 (schedW (tb blkA4) 37) + schedW (tb blkA4) 36 = _
  rw [schA4_50, schA4_45, schA4_37, schA4_36]; kernel_rfl
theorem schA4_53 : schedW (tb blkA4) 53 = 1504669623#32 := by
  rw [schedW_high (tb blkA4) (by omega)]
  show sig1 (schedW (tb blkA4) 51) + schedW (tb blkA4) 46 + sig0 (schedW (tb blkA4) 38) + schedW (tb blkA4) 37 = _
  rw [schA4_51, schA4_46, schA4_38, schA4_37]; kernel_rfl
theorem schA4_54 : schedW (tb blkA4) 54 = 1723246519#32 := by
  rw [schedW_high (tb blkA4) (by omega)]
  show sig1 (schedW (tb blkA4) 52) + schedW (tb blkA4) 47 + sig0 (schedW (tb blkA4) 39) + schedW (tb blkA4) 38 = _
  rw [schA4_52, schA4_47, schA4_39, schA4_38]; kernel_rfl
theorem schA4_55 : schedW (tb blkA4) 55 = 3185737718#32 := by
  rw [schedW_high (tb blkA4) (by omega)]
  show sig1 (schedW (tb blkA4) 53) + schedW (tb blkA4) 48 + sig0 (schedW (tb blkA4) 40) + schedW (tb blkA4) 39 = _
  rw [schA4_53, schA4_48, schA4_40, schA4_39]; kernel_rfl
theorem schA4_56 : schedW (tb blkA4) 56 = 1535686665#32 := by
  rw [schedW_high (tb blkA4) (by omega)]
  show sig1 (schedW (tb blkA4) 54) + schedW (tb blkA4) 49 + sig0 (schedW (tb blkA4) 41) + schedW (tb blkA4) 40 = _
  rw [schA4_54, schA4_49, schA4_41, schA4_40]; kernel_rfl
theorem schA4_57 : schedW (tb blkA4) 57 = 2514153699#32 := by
  rw [schedW_high (tb blkA4) (by omega)]
  show sig1 (schedW (tb blkA4) 55) + schedW (tb blkA4) 50 + sig0 (schedW (tb blkA4) 42) + schedW (tb blkA4) 41 = _
  rw [schA4_55, schA4_50, schA4_42, schA4_41]; kernel_rfl
theorem schA4_58 : schedW (tb blkA4) 58 = 1062616652#32 := by
  rw [schedW_high (tb blkA4) (by omega)]
  show sig1 (schedW (tb blkA4) 56) + schedW (tb blkA4) 51 + sig0 (schedW (tb blkA4) 43) + schedW (tb blkA4) 42 = _
  rw [schA4_56, schA4_51, schA4_43, schA4_42]; kernel_rfl
theorem schA4_59 : schedW (tb blkA4) 59 = 1178246810#32 := by
  rw [schedW_high (tb blkA4) (by omega)]
  show sig1 (schedW (tb blkA4) 57) + schedW (tb blkA4) 52 + sig0 (schedW (tb blkA4) 44) + schedW (tb blkA4) 43 = _
  rw [schA4_57, schA4_52, schA4_44, schA4_43]; kernel_rfl
theorem schA4_60 : schedW (tb blkA4) 60 = 760291438#32 := by
  rw [schedW_high (tb blkA4) (by omega)]
  show sig1 (schedW (tb blkA4) 58) + schedW (tb blkA4) 53 + sig0 (schedW (tb blkA4) 45) + schedW (tb blkA4) 44 = _
  rw [schA4_58, schA4_53, schA4_45, schA4_44]; kernel_rfl
theorem schA4_61 : schedW (tb blkA4) 61 = 1271584491#32 := by
  rw [schedW_high (tb blkA4) (by omega)]
  show sig1 (schedW (tb blkA4) 59) + schedW (tb blkA4) 54 + sig0 (schedW (tb blkA4) 46) + schedW (tb blkA4) 45 = _
  rw [schA4_59, schA4_54, schA4_46, schA4_45]; kernel_rfl
theorem schA4_62 : schedW (tb blkA4) 62 = 2283164149#32 := by
  rw [schedW_high (tb blkA4) (by omega)]
  show sig1 (schedW (tb blkA4) 60) + schedW (tb blkA4) 55 + sig0 (schedW (tb blkA4) 47) + schedW (tb blkA4) 46 = _
  rw [schA4_60, schA4_55, schA4_47, schA4_46]; kernel_rfl
theorem schA4_63 : schedW (tb blkA4) 63 = 1018559801#32 := by
  rw [schedW_high (tb blkA4) (by omega)]
  show sig1 (schedW (tb blkA4) 61) + schedW (tb blkA4) 56 + sig0 (schedW (tb blkA4) 48) + schedW (tb blkA4) 47 = _
  rw [schA4_61, schA4_56, schA4_48, schA4_47]; kernel_rfl
theorem stA4_0 : W8.steps kW (schedW (tb blkA4)) ⟨222134589#32, 3489296159#32, 2109517886#32, 2452636380#32, 3512354294#32, 1437270821#32, 4089592491#32, 927099193#32⟩ 0 = ⟨222134589#32, 3489296159#32, 2109517886#32, 2452636380#32, 3512354294#32, 1437270821#32, 4089592491#32, 927099193#32⟩ := rfl
theorem stA4_1 : W8.steps kW (schedW (tb blkA4)) ⟨222134589#32, 3489296159#32, 2109517886#32, 2452636380#32, 3512354294#32, 1437270821#32, 4089592491#32, 927099193#32⟩ 1 = ⟨1511345110#32, 222134589#32, 3489296159#32, 2109517886#32, 3789877212#32, 3512354294#32, 1437270821#32, 4089592491#32⟩ := by
  show (W8.steps kW (schedW (tb blkA4)) ⟨222134589#32, 3489296159#32, 2109517886#32, 2452636380#32, 3512354294#32, 1437270821#32, 4089592491#32, 927099193#32⟩ 0).step (kW 0) (schedW (tb blkA4) 0) = _
  rw [stA4_0, schA4_0]; kernel_rfl
theorem stA4_2 : W8.steps kW (schedW (tb blkA4)) ⟨222134589#32, 3489296159#32, 2109517886#32, 2452636380#32, 3512354294#32, 1437270821#32, 4089592491#32, 927099193#32⟩ 2 = ⟨4180453693#32, 1511345110#32, 222134589#32, 3489296159#32, 2324902693#32, 3789877212#32, 3512354294#32, 1437270821#32⟩ := by
  show (W8.steps kW (schedW (tb blkA4)) ⟨222134589#32, 3489296159#32, 2109517886#32, 2452636380#32, 3512354294#32, 1437270821#32, 4089592491#32, 927099193#32⟩ 1).step (kW 1) (schedW (tb blkA4) 1) = _
  rw [stA4_1, schA4_1]; kernel_rfl
theorem stA4_3 : W8.steps kW (schedW (tb blkA4)) ⟨222134589#32, 3489296159#32, 2109517886#32, 2452636380#32, 3512354294#32, 1437270821#32, 4089592491#32, 927099193#32⟩ 3 = ⟨3732051508#32, 4180453693#32, 1511345110#32, 222134589#32, 3492767560#32, 2324902693#32, 3789877212#32, 3512354294#32⟩ := by
  show (W8.steps kW (schedW (tb blkA4)) ⟨222134589#32, 3489296159#32, 2109517886#32, 2452636380#32, 3512354294#32, 1437270821#32, 4089592491#32, 927099193#32⟩ 2).step (kW 2) (schedW (tb blkA4) 2) = _
  rw [stA4_2, schA4_2]; kernel_rfl
theorem stA4_4 : W8.steps kW (schedW (tb blkA4)) ⟨222134589#32, 3489296159#32, 2109517886#32, 2452636380#32, 3512354294#32, 1437270821#32, 4089592491#32, 927099193#32⟩ 4 = ⟨1170437819#32, 3732051508#32, 4180453693#32, 1511345110#32, 745138020#32, 3492767560#32, 2324902693#32, 3789877212#32⟩ := by
  show (W8.steps kW (schedW (tb blkA4)) ⟨222134589#32, 3489296159#32, 2109517886#32, 2452636380#32, 3512354294#32, 1437270821#32, 4089592491#32, 927099193#32⟩ 3).step (kW 3) (schedW (tb blkA4) 3) = _
  rw [stA4_3, schA4_3]; kernel_rfl
theorem stA4_5 : W8.steps kW (schedW (tb blkA4)) ⟨222134589#32, 3489296159#32, 2109517886#32, 2452636380#32, 3512354294#32, 1437270821#32, 4089592491#32, 927099193#32⟩ 5 = ⟨879826760#32, 1170437819#32, 3732051508#32, 4180453693#32, 1202949695#32, 745138020#32, 3492767560#32, 2324902693#32⟩ := by
  show (W8.steps kW (schedW (tb blkA4)) ⟨222134589#32, 3489296159#32, 2109517886#32, 2452636380#32, 3512354294#32, 1437270821#32, 4089592491#32, 927099193#32⟩ 4).step (kW 4) (schedW (tb blkA4) 4) = _
  rw [stA4_4, schA4_4]; kernel_rfl
theorem stA4_6 : W8.steps kW (schedW (tb blkA4)) ⟨222134589#32, 3489296159#32, 2109517886#32, 2452636380#32, 3512354294#32, 1437270821#32, 4089592491#32, 927099193#32⟩ 6 = ⟨2251197817#32, 879826760#32, 1170437819#32, 3732051508#32, 3085392371#32, 1202949695#32, 745138020#32, 3492767560#32⟩ := by
  show (W8.steps kW (schedW (tb blkA4)) ⟨222134589#32, 3489296159#32, 2109517886#32, 2452636380#32, 3512354294#32, 1437270821#32, 4089592491#32, 927099193#32⟩ 5).step (kW 5) (schedW (tb blkA4) 5) = _
  rw [stA4_5, schA4_5]; kernel_rfl
theorem stA4_7 : W8.steps kW (schedW (tb blkA4)) ⟨222134589#32, 3489296159#32, 2109517886#32, 2452636380#32, 3512354294#32, 1437270821#32, 4089592491#32, 927099193#32⟩ 7 = ⟨2848275240#32, 2251197817#32, 879826760#32, 1170437819#32, 3546432945#32, 3085392371#32, 1202949695#32, 745138020#32⟩ := by
  show (W8.steps kW (schedW (tb blkA4)) ⟨222134589#32, 3489296159#32, 2109517886#32, 2452636380#32, 3512354294#32, 1437270821#32, 4089592491#32, 927099193#32⟩ 6).step (kW 6) (schedW (tb blkA4) 6) = _
  rw [stA4_6, schA4_6]; kernel_rfl
theorem stA4_8 : W8.steps kW (schedW (tb blkA4)) ⟨222134589#32, 3489296159#32, 2109517886#32, 2452636380#32, 3512354294#32, 1437270821#32, 4089592491#32, 927099193#32⟩ 8 = ⟨3947023436#32, 2848275240#32, 2251197817#32, 879826760#32, 2764603739#32, 3546432945#32, 3085392371#32, 1202949695#32⟩ := by
  show (W8.steps kW (schedW (tb blkA4)) ⟨222134589#32, 3489296159#32, 2109517886#32, 2452636380#32, 3512354294#32, 1437270821#32, 4089592491#32, 927099193#32⟩ 7).step (kW 7) (schedW (tb blkA4) 7) = _
  rw [stA4_7, schA4_7]; kernel_rfl
theorem stA4_9 : W8.steps kW (schedW (tb blkA4)) ⟨222134589#32, 3489296159#32, 2109517886#32, 2452636380#32, 3512354294#32, 1437270821#32, 4089592491#32, 927099193#32⟩ 9 = ⟨1402409311#32, 3947023436#32, 2848275240#32, 2251197817#32, 2302328983#32, 2764603739#32, 3546432945#32, 3085392371#32⟩ := by
  show (W8.steps kW (schedW (tb blkA4)) ⟨222134589#32, 3489296159#32, 2109517886#32, 2452636380#32, 3512354294#32, 1437270821#32, 4089592491#32, 927099193#32⟩ 8).step (kW 8) (schedW (tb blkA4) 8) = _
  rw [stA4_8, schA4_8]; kernel_rfl
theorem stA4_10 : W8.steps kW (schedW (tb blkA4)) ⟨222134589#32, 3489296159#32, 2109517886#32, 2452636380#32, 3512354294#32, 1437270821#32, 4089592491#32, 927099193#32⟩ 10 = ⟨1552548018#32, 1402409311#32, 3947023436#32, 2848275240#32, 4103556926#32, 2302328983#32, 2764603739#32, 3546432945#32⟩ := by
  show (W8.steps kW (schedW (tb blkA4)) ⟨222134589#32, 3489296159#32, 2109517886#32, 2452636380#32, 3512354294#32, 1437270821#32, 4089592491#32, 927099193#32⟩ 9).step (kW 9) (schedW (tb blkA4) 9) = _
  rw [stA4_9, schA4_9]; kernel_rfl
theorem stA4_11 : W8.steps kW (schedW (tb blkA4)) ⟨222134589#32, 3489296159#32, 2109517886#32, 2452636380#32, 3512354294#32, 1437270821#32, 4089592491#32, 927099193#32⟩ 11 = ⟨3855518177#32, 1552548018#32, 1402409311#32, 3947023436#32, 2036275101#32, 4103556926#32, 2302328983#32, 2764603739#32⟩ := by
  show (W8.steps kW (schedW (tb blkA4)) ⟨222134589#32, 3489296159#32, 2109517886#32, 2452636380#32, 3512354294#32, 1437270821#32, 4089592491#32, 927099193#32⟩ 10).step (kW 10) (schedW (tb blkA4) 10) = _
  rw [stA4_10, schA4_10]; kernel_rfl
theorem stA4_12 : W8.steps kW (schedW (tb blkA4)) ⟨222134589#32, 3489296159#32, 2109517886#32, 2452636380#32, 3512354294#32, 1437270821#32, 4089592491#32, 927099193#32⟩ 12 = ⟨1974955210#32, 3855518177#32, 1552548018#32, 1402409311#32, 4279315336#32, 2036275101#32, 4103556926#32, 2302328983#32⟩ := by
  show (W8.steps kW (schedW (tb blkA4)) ⟨222134589#32, 3489296159#32, 2109517886#32, 2452636380#32, 3512354294#32, 1437270821#32, 4089592491#32, 927099193#32⟩ 11).step (kW 11) (schedW (tb blkA4) 11) = _
  rw [stA4_11, schA4_11]; kernel_rfl
theorem stA4_13 : W8.steps kW (schedW (tb blkA4)) ⟨222134589#32, 3489296159#32, 2109517886#32, 2452636380#32, 3512354294#32, 1437270821#32, 4089592491#32, 927099193#32⟩ 13 = ⟨3961663742#32, 1974955210#32, 3855518177#32, 1552548018#32, 2745031196#32, 4279315336#32, 2036275101#32, 4103556926#32⟩ := by
  show (W8.steps kW (schedW (tb blkA4)) ⟨222134589#32, 3489296159#32, 2109517886#32, 2452636380#32, 3512354294#32, 1437270821#32, 4089592491#32, 927099193#32⟩ 12).step (kW 12) (schedW (tb blkA4) 12) = _
  rw [stA4_12, schA4_12]; kernel_rfl
theorem stA4_14 : W8.steps kW (schedW (tb blkA4)) ⟨222134589#32, 3489296159#32, 2109517886#32, 2452636380#32, 3512354294#32, 1437270821#32, 4089592491#32, 927099193#32⟩ 14 = ⟨178412239#32, 3961663742#32, 1974955210#32, 3855518177#32, 3444186105#32, 2745031196#32, 4279315336#32, 2036275101#32⟩ := by
  show (W8.steps kW (schedW (tb blkA4)) ⟨222134589#32, 3489296159#32, 2109517886#32, 2452636380#32, 3512354294#32, 1437270821#32, 4089592491#32, 927099193#32⟩ 13).step (kW 13) (schedW (tb blkA4) 13) = _
  rw [stA4_13, schA4_13]; kernel_rfl
theorem stA4_15 : W8.steps kW (schedW (tb blkA4)) ⟨222134589#32, 3489296159#32, 2109517886#32, 2452636380#32, 3512354294#32, 1437270821#32, 4089592491#32, 927099193#32⟩ 15 = ⟨263474815#32, 178412239#32, 3961663742#32, 1974955210#32, 3945029639#32, 3444186105#32, 2745031196#32, 4279315336#32⟩ := by
  show (W8.steps kW (schedW (tb blkA4)) ⟨222134589#32, 3489296159#32, 2109517886#32, 2452636380#32, 3512354294#32, 1437270821#32, 4089592491#32, 927099193#32⟩ 14).step (kW 14) (schedW (tb blkA4) 14) = _
  rw [stA4_14, schA4_14]; kernel_rfl
theorem stA4_16 : W8.steps kW (schedW (tb blkA4)) ⟨222134589#32, 3489296159#32, 2109517886#32, 2452636380#32, 3512354294#32, 1437270821#32, 4089592491#32, 927099193#32⟩ 16 = ⟨2272763408#32, 263474815#32, 178412239#32, 3961663742#32, 2371886552#32, 3945029639#32, 3444186105#32, 2745031196#32⟩ := by
  show (W8.steps kW (schedW (tb blkA4)) ⟨222134589#32, 3489296159#32, 2109517886#32, 2452636380#32, 3512354294#32, 1437270821#32, 4089592491#32, 927099193#32⟩ 15).step (kW 15) (schedW (tb blkA4) 15) = _
  rw [stA4_15, schA4_15]; kernel_rfl
theorem stA4_17 : W8.steps kW (schedW (tb blkA4)) ⟨222134589#32, 3489296159#32, 2109517886#32, 2452636380#32, 3512354294#32, 1437270821#32, 4089592491#32, 927099193#32⟩ 17 = ⟨263460348#32, 2272763408#32, 263474815#32, 178412239#32, 3707652726#32, 2371886552#32, 3945029639#32, 3444186105#32⟩ := by
  show (W8.steps kW (schedW (tb blkA4)) ⟨222134589#32, 3489296159#32, 2109517886#32, 2452636380#32, 3512354294#32, 1437270821#32, 4089592491#32, 927099193#32⟩ 16).step (kW 16) (schedW (tb blkA4) 16) = _
  rw [stA4_16, schA4_16]; kernel_rfl
theorem stA4_18 : W8.steps kW (schedW (tb blkA4)) ⟨222134589#32, 3489296159#32, 2109517886#32, 2452636380#32, 3512354294#32, 1437270821#32, 4089592491#32, 927099193#32⟩ 18 = ⟨2853581447#32, 263460348#32, 2272763408#32, 263474815#32, 682223097#32, 3707652726#32, 2371886552#32, 3945029639#32⟩ := by
  show (W8.steps kW (schedW (tb blkA4)) ⟨222134589#32, 3489296159#32, 2109517886#32, 2452636380#32, 3512354294#32, 1437270821#32, 4089592491#32, 927099193#32⟩ 17).step (kW 17) (schedW (tb blkA4) 17) = _
  rw [stA4_17, schA4_17]; kernel_rfl
theorem stA4_19 : W8.steps kW (schedW (tb blkA4)) ⟨222134589#32, 3489296159#32, 2109517886#32, 2452636380#32, 3512354294#32, 1437270821#32, 4089592491#32, 927099193#32⟩ 19 = ⟨4263369115#32, 2853581447#32, 263460348#32, 2272763408#32, 1479102158#32, 682223097#32, 3707652726#32, 2371886552#32⟩ := by
  show (W8.steps kW (schedW (tb blkA4)) ⟨222134589#32, 3489296159#32, 2109517886#32, 2452636380#32, 3512354294#32, 1437270821#32, 4089592491#32, 927099193#32⟩ 18).step (kW 18) (schedW (tb blkA4) 18) = _
  rw [stA4_18, schA4_18]; kernel_rfl
theorem stA4_20 : W8.steps kW (schedW (tb blkA4)) ⟨222134589#32, 3489296159#32, 2109517886#32, 2452636380#32, 3512354294#32, 1437270821#32, 4089592491#32, 927099193#32⟩ 20 = ⟨2197967226#32, 4263369115#32, 2853581447#32, 263460348#32, 405206139#32, 1479102158#32, 682223097#32, 3707652726#32⟩ := by
  show (W8.steps kW (schedW (tb blkA4)) ⟨222134589#32, 3489296159#32, 2109517886#32, 2452636380#32, 3512354294#32, 1437270821#32, 4089592491#32, 927099193#32⟩ 19).step (kW 19) (schedW (tb blkA4) 19) = _
  rw [stA4_19, schA4_19]; kernel_rfl
theorem stA4_21 : W8.steps kW (schedW (tb blkA4)) ⟨222134589#32, 3489296159#32, 2109517886#32, 2452636380#32, 3512354294#32, 1437270821#32, 4089592491#32, 927099193#32⟩ 21 = ⟨2375882518#32, 2197967226#32, 4263369115#32, 2853581447#32, 3504960823#32, 405206139#32, 1479102158#32, 682223097#32⟩ := by
  show (W8.steps kW (schedW (tb blkA4)) ⟨222134589#32, 3489296159#32, 2109517886#32, 2452636380#32, 3512354294#32, 1437270821#32, 4089592491#32, 927099193#32⟩ 20).step (kW 20) (schedW (tb blkA4) 20) = _
  rw [stA4_20, schA4_20]; kernel_rfl
theorem stA4_22 : W8.steps kW (schedW (tb blkA4)) ⟨222134589#32, 3489296159#32, 2109517886#32, 2452636380#32, 3512354294#32, 1437270821#32, 4089592491#32, 927099193#32⟩ 22 = ⟨1687807395#32, 2375882518#32, 2197967226#32, 4263369115#32, 268653557#32, 3504960823#32, 405206139#32, 1479102158#32⟩ := by
  show (W8.steps kW (schedW (tb blkA4)) ⟨222134589#32, 3489296159#32, 2109517886#32, 2452636380#32, 3512354294#32, 1437270821#32, 4089592491#32, 927099193#32⟩ 21).step (kW 21) (schedW (tb blkA4) 21) = _
  rw [stA4_21, schA4_21]; kernel_rfl
theorem stA4_23 : W8.steps kW (schedW (tb blkA4)) ⟨222134589#32, 3489296159#32, 2109517886#32, 2452636380#32, 3512354294#32, 1437270821#32, 4089592491#32, 927099193#32⟩ 23 = ⟨2053903062#32, 1687807395#32, 2375882518#32, 2197967226#32, 1598342922#32, 268653557#32, 3504960823#32, 405206139#32⟩ := by
  show (W8.steps kW (schedW (tb blkA4)) ⟨222134589#32, 3489296159#32, 2109517886#32, 2452636380#32, 3512354294#32, 1437270821#32, 4089592491#32, 927099193#32⟩ 22).step (kW 22) (schedW (tb blkA4) 22) = _
  rw [stA4_22, schA4_22]; kernel_rfl
theorem stA4_24 : W8.steps kW (schedW (tb blkA4)) ⟨222134589#32, 3489296159#32, 2109517886#32, 2452636380#32, 3512354294#32, 1437270821#32, 4089592491#32, 927099193#32⟩ 24 = ⟨245356773#32, 2053903062#32, 1687807395#32, 2375882518#32, 1822524557#32, 1598342922#32, 268653557#32, 3504960823#32⟩ := by
  show (W8.steps kW (schedW (tb blkA4)) ⟨222134589#32, 3489296159#32, 2109517886#32, 2452636380#32, 3512354294#32, 1437270821#32, 4089592491#32, 927099193#32⟩ 23).step (kW 23) (schedW (tb blkA4) 23) = _
  rw [stA4_23, schA4_23]; kernel_rfl
theorem stA4_25 : W8.steps kW (schedW (tb blkA4)) ⟨222134589#32, 3489296159#32, 2109517886#32, 2452636380#32, 3512354294#32, 1437270821#32, 4089592491#32, 927099193#32⟩ 25 = ⟨1322351612#32, 245356773#32, 2053903062#32, 1687807395#32, 1910811438#32, 1822524557#32, 1598342922#32, 268653557#32⟩ := by
  show (W8.steps kW (schedW (tb blkA4)) ⟨222134589#32, 3489296159#32, 2109517886#32, 2452636380#32, 3512354294#32, 1437270821#32, 4089592491#32, 927099193#32⟩ 24).step (kW 24) (schedW (tb blkA4) 24) = _
  rw [stA4_24, schA4_24]; kernel_rfl
theorem stA4_26 : W8.steps kW (schedW (tb blkA4)) ⟨222134589#32, 3489296159#32, 2109517886#32, 2452636380#32, 3512354294#32, 1437270821#32, 4089592491#32, 927099193#32⟩ 26 = ⟨4152222501#32, 1322351612#32, 245356773#32, 2053903062#32, 2206241925#32, 1910811438#32, 1822524557#32, 1598342922#32⟩ := by
  show (W8.steps kW (schedW (tb blkA4)) ⟨222134589#32, 3489296159#32, 2109517886#32, 2452636380#32, 3512354294#32, 1437270821#32, 4089592491#32, 927099193#32⟩ 25).step (kW 25) (schedW (tb blkA4) 25) = _
  rw [stA4_25, schA4_25]; kernel_rfl
theorem stA4_27 : W8.steps kW (schedW (tb blkA4)) ⟨222134589#32, 3489296159#32, 2109517886#32, 2452636380#32, 3512354294#32, 1437270821#32, 4089592491#32, 927099193#32⟩ 27 = ⟨694811264#32, 4152222501#32, 1322351612#32, 245356773#32, 3246111862#32, 2206241925#32, 1910811438#32, 1822524557#32⟩ := by
  show (W8.steps kW (schedW (tb blkA4)) ⟨222134589#32, 3489296159#32, 2109517886#32, 2452636380#32, 3512354294#32, 1437270821#32, 4089592491#32, 927099193#32⟩ 26).step (kW 26) (schedW (tb blkA4) 26) = _
  rw [stA4_26, schA4_26]; kernel_rfl
theorem stA4_28 : W8.steps kW (schedW (tb blkA4)) ⟨222134589#32, 3489296159#32, 2109517886#32, 2452636380#32, 3512354294#32, 1437270821#32, 4089592491#32, 927099193#32⟩ 28 = ⟨2503981062#32, 694811264#32, 4152222501#32, 1322351612#32, 3132383229#32, 3246111862#32, 2206241925#32, 1910811438#32⟩ := by
  show (W8.steps kW (schedW (tb blkA4)) ⟨222134589#32, 3489296159#32, 2109517886#32, 2452636380#32, 3512354294#32, 1437270821#32, 4089592491#32, 927099193#32⟩ 27).step (kW 27) (schedW (tb blkA4) 27) = _
  rw [stA4_27, schA4_27]; kernel_rfl
theorem stA4_29 : W8.steps kW (schedW (tb blkA4)) ⟨222134589#32, 3489296159#32, 2109517886#32, 2452636380#32, 3512354294#32, 1437270821#32, 4089592491#32, 927099193#32⟩ 29 = ⟨1886680741#32, 2503981062#32, 694811264#32, 4152222501#32, 1848417013#32, 3132383229#32, 3246111862#32, 2206241925#32⟩ := by
  show (W8.steps kW (schedW (tb blkA4)) ⟨222134589#32, 3489296159#32, 2109517886#32, 2452636380#32, 3512354294#32, 1437270821#32, 4089592491#32, 927099193#32⟩ 28).step (kW 28) (schedW (tb blkA4) 28) = _
  rw [stA4_28, schA4_28]; kernel_rfl
theorem stA4_30 : W8.steps kW (schedW (tb blkA4)) ⟨222134589#32, 3489296159#32, 2109517886#32, 2452636380#32, 3512354294#32, 1437270821#32, 4089592491#32, 927099193#32⟩ 30 = ⟨1535577056#32, 1886680741#32, 2503981062#32, 694811264#32, 3902466230#32, 1848417013#32, 3132383229#32, 3246111862#32⟩ := by
  show (W8.steps kW (schedW (tb blkA4)) ⟨222134589#32, 3489296159#32, 2109517886#32, 2452636380#32, 3512354294#32, 1437270821#32, 4089592491#32, 927099193#32⟩ 29).step (kW 29) (schedW (tb blkA4) 29) = _
  rw [stA4_29, schA4_29]; kernel_rfl
theorem stA4_31 : W8.steps kW (schedW (tb blkA4)) ⟨222134589#32, 3489296159#32, 2109517886#32, 2452636380#32, 3512354294#32, 1437270821#32, 4089592491#32, 927099193#32⟩ 31 = ⟨2367690744#32, 1535577056#32, 1886680741#32, 2503981062#32, 260454438#32, 3902466230#32, 1848417013#32, 3132383229#32⟩ := by
  show (W8.steps kW (schedW (tb blkA4)) ⟨222134589#32, 3489296159#32, 2109517886#32, 2452636380#32, 3512354294#32, 1437270821#32, 4089592491#32, 927099193#32⟩ 30).step (kW 30) (schedW (tb blkA4) 30) = _
  rw [stA4_30, schA4_30]; kernel_rfl
theorem stA4_32 : W8.steps kW (schedW (tb blkA4)) ⟨222134589#32, 3489296159#32, 2109517886#32, 2452636380#32, 3512354294#32, 1437270821#32, 4089592491#32, 927099193#32⟩ 32 = ⟨3319682454#32, 2367690744#32, 1535577056#32, 1886680741#32, 3844499186#32, 260454438#32, 3902466230#32, 1848417013#32⟩ := by
  show (W8.steps kW (schedW (tb blkA4)) ⟨222134589#32, 3489296159#32, 2109517886#32, 2452636380#32, 3512354294#32, 1437270821#32, 4089592491#32, 927099193#32⟩ 31).step (kW 31) (schedW (tb blkA4) 31) = _
  rw [stA4_31, schA4_31]; kernel_rfl
theorem stA4_33 : W8.steps kW (schedW (tb blkA4)) ⟨222134589#32, 3489296159#32, 2109517886#32, 2452636380#32, 3512354294#32, 1437270821#32, 4089592491#32, 927099193#32⟩ 33 = ⟨740748760#32, 3319682454#32, 2367690744#32, 1535577056#32, 1786604557#32, 3844499186#32, 260454438#32, 3902466230#32⟩ := by
  show (W8.steps kW (schedW (tb blkA4)) ⟨222134589#32, 3489296159#32, 2109517886#32, 2452636380#32, 3512354294#32, 1437270821#32, 4089592491#32, 927099193#32⟩ 32).step (kW 32) (schedW (tb blkA4) 32) = _
  rw [stA4_32, schA4_32]; kernel_rfl
theorem stA4_34 : W8.steps kW (schedW (tb blkA4)) ⟨222134589#32, 3489296159#32, 2109517886#32, 2452636380#32, 3512354294#32, 1437270821#32, 4089592491#32, 927099193#32⟩ 34 = ⟨889492220#32, 740748760#32, 3319682454#32, 2367690744#32, 82152979#32, 1786604557#32, 3844499186#32, 260454438#32⟩ := by
  show (W8.steps kW (schedW (tb blkA4)) ⟨222134589#32, 3489296159#32, 2109517886#32, 2452636380#32, 3512354294#32, 1437270821#32, 4089592491#32, 927099193#32⟩ 33).step (kW 33) (schedW (tb blkA4) 33) = _
  rw [stA4_33, schA4_33]; kernel_rfl
theorem stA4_35 : W8.steps kW (schedW (tb blkA4)) ⟨222134589#32, 3489296159#32, 2109517886#32, 2452636380#32, 3512354294#32, 1437270821#32, 4089592491#32, 927099193#32⟩ 35 = ⟨3908574612#32, 889492220#32, 740748760#32, 3319682454#32, 3357926241#32, 82152979#32, 1786604557#32, 3844499186#32⟩ := by
  show (W8.steps kW (schedW (tb blkA4)) ⟨222134589#32, 3489296159#32, 2109517886#32, 2452636380#32, 3512354294#32, 1437270821#32, 4089592491#32, 927099193#32⟩ 34).step (kW 34) (schedW (tb blkA4) 34) = _
  rw [stA4_34, schA4_34]; kernel_rfl
theorem stA4_36 : W8.steps kW (schedW (tb blkA4)) ⟨222134589#32, 3489296159#32, 2109517886#32, 2452636380#32, 3512354294#32, 1437270821#32, 4089592491#32, 927099193#32⟩ 36 = ⟨1194942367#32, 3908574612#32, 889492220#32, 740748760#32, 2852389971#32, 3357926241#32, 82152979#32, 1786604557#32⟩ := by
  show (W8.steps kW (schedW (tb blkA4)) ⟨222134589#32, 3489296159#32, 2109517886#32, 2452636380#32, 3512354294#32, 1437270821#32, 4089592491#32, 927099193#32⟩ 35).step (kW 35) (schedW (tb blkA4) 35) = _
  rw [stA4_35, schA4_35]; kernel_rfl
theorem stA4_37 : W8.steps kW (schedW (tb blkA4)) ⟨222134589#32, 3489296159#32, 2109517886#32, 2452636380#32, 3512354294#32, 1437270821#32, 4089592491#32, 927099193#32⟩ 37 = ⟨2049449727#32, 1194942367#32, 3908574612#32, 889492220#32, 2026691082#32, 2852389971#32, 3357926241#32, 82152979#32⟩ := by
  show (W8.steps kW (schedW (tb blkA4)) ⟨222134589#32, 3489296159#32, 2109517886#32, 2452636380#32, 3512354294#32, 1437270821#32, 4089592491#32, 927099193#32⟩ 36).step (kW 36) (schedW (tb blkA4) 36) = _
  rw [stA4_36, schA4_36]; kernel_rfl
theorem stA4_38 : W8.steps kW (schedW (tb blkA4)) ⟨222134589#32, 3489296159#32, 2109517886#32, 2452636380#32, 3512354294#32, 1437270821#32, 4089592491#32, 927099193#32⟩ 38 = ⟨2068881099#32, 2049449727#32, 1194942367#32, 3908574612#32, 3172132625#32, 2026691082#32, 2852389971#32, 3357926241#32⟩ := by
  show (W8.steps kW (schedW (tb blkA4)) ⟨222134589#32, 3489296159#32, 2109517886#32, 2452636380#32, 3512354294#32, 1437270821#32, 4089592491#32, 927099193#32⟩ 37).step (kW 37) (schedW (tb blkA4) 37) = _
  rw [stA4_37, schA4_37]; kernel_rfl
theorem stA4_39 : W8.steps kW (schedW (tb blkA4)) ⟨222134589#32, 3489296159#32, 2109517886#32, 2452636380#32, 3512354294#32, 1437270821#32, 4089592491#32, 927099193#32⟩ 39 = ⟨642555611#32, 2068881099#32, 2049449727#32, 1194942367#32, 689425589#32, 3172132625#32, 2026691082#32, 2852389971#32⟩ := by
  show (W8.steps kW (schedW (tb blkA4)) ⟨222134589#32, 3489296159#32, 2109517886#32, 2452636380#32, 3512354294#32, 1437270821#32, 4089592491#32, 927099193#32⟩ 38).step (kW 38) (schedW (tb blkA4) 38) = _
  rw [stA4_38, schA4_38]; kernel_rfl
theorem stA4_40 : W8.steps kW (schedW (tb blkA4)) ⟨222134589#32, 3489296159#32, 2109517886#32, 2452636380#32, 3512354294#32, 1437270821#32, 4089592491#32, 927099193#32⟩ 40 = ⟨1519265346#32, 642555611#32, 2068881099#32, 2049449727#32, 441281979#32, 689425589#32, 3172132625#32, 2026691082#32⟩ := by
  show (W8.steps kW (schedW (tb blkA4)) ⟨222134589#32, 3489296159#32, 2109517886#32, 2452636380#32, 3512354294#32, 1437270821#32, 4089592491#32, 927099193#32⟩ 39).step (kW 39) (schedW (tb blkA4) 39) = _
  rw [stA4_39, schA4_39]; kernel_rfl
theorem stA4_41 : W8.steps kW (schedW (tb blkA4)) ⟨222134589#32, 3489296159#32, 2109517886#32, 2452636380#32, 3512354294#32, 1437270821#32, 4089592491#32, 927099193#32⟩ 41 = ⟨3644510170#32, 1519265346#32, 642555611#32, 2068881099#32, 1022229379#32, 441281979#32, 689425589#32, 3172132625#32⟩ := by
  show (W8.steps kW (schedW (tb blkA4)) ⟨222134589#32, 3489296159#32, 2109517886#32, 2452636380#32, 3512354294#32, 1437270821#32, 4089592491#32, 927099193#32⟩ 40).step (kW 40) (schedW (tb blkA4) 40) = _
  rw [stA4_40, schA4_40]; kernel_rfl
theorem stA4_42 : W8.steps kW (schedW (tb blkA4)) ⟨222134589#32, 3489296159#32, 2109517886#32, 2452636380#32, 3512354294#32, 1437270821#32, 4089592491#32, 927099193#32⟩ 42 = ⟨1989259039#32, 3644510170#32, 1519265346#32, 642555611#32, 1949085132#32, 1022229379#32, 441281979#32, 689425589#32⟩ := by
  show (W8.steps kW (schedW (tb blkA4)) ⟨222134589#32, 3489296159#32, 2109517886#32, 2452636380#32, 3512354294#32, 1437270821#32, 4089592491#32, 927099193#32⟩ 41).step (kW 41) (schedW (tb blkA4) 41) = _
  rw [stA4_41, schA4_41]; kernel_rfl
theorem stA4_43 : W8.steps kW (schedW (tb blkA4)) ⟨222134589#32, 3489296159#32, 2109517886#32, 2452636380#32, 3512354294#32, 1437270821#32, 4089592491#32, 927099193#32⟩ 43 = ⟨1610344164#32, 1989259039#32, 3644510170#32, 1519265346#32, 1204433877#32, 1949085132#32, 1022229379#32, 441281979#32⟩ := by
  show (W8.steps kW (schedW (tb blkA4)) ⟨222134589#32, 3489296159#32, 2109517886#32, 2452636380#32, 3512354294#32, 1437270821#32, 4089592491#32, 927099193#32⟩ 42).step (kW 42) (schedW (tb blkA4) 42) = _
  rw [stA4_42, schA4_42]; kernel_rfl
theorem stA4_44 : W8.steps kW (schedW (tb blkA4)) ⟨222134589#32, 3489296159#32, 2109517886#32, 2452636380#32, 3512354294#32, 1437270821#32, 4089592491#32, 927099193#32⟩ 44 = ⟨556683606#32, 1610344164#32, 1989259039#32, 3644510170#32, 1287188641#32, 1204433877#32, 1949085132#32, 1022229379#32⟩ := by
  show (W8.steps kW (schedW (tb blkA4)) ⟨222134589#32, 3489296159#32, 2109517886#32, 2452636380#32, 3512354294#32, 1437270821#32, 4089592491#32, 927099193#32⟩ 43).step (kW 43) (schedW (tb blkA4) 43) = _
  rw [stA4_43, schA4_43]; kernel_rfl
theorem stA4_45 : W8.steps kW (schedW (tb blkA4)) ⟨222134589#32, 3489296159#32, 2109517886#32, 2452636380#32, 3512354294#32, 1437270821#32, 4089592491#32, 927099193#32⟩ 45 = ⟨816769201#32, 556683606#32, 1610344164#32, 1989259039#32, 3597536146#32, 1287188641#32, 1204433877#32, 1949085132#32⟩ := by
  show (W8.steps kW (schedW (tb blkA4)) ⟨222134589#32, 3489296159#32, 2109517886#32, 2452636380#32, 3512354294#32, 1437270821#32, 4089592491#32, 927099193#32⟩ 44).step (kW 44) (schedW (tb blkA4) 44) = _
  rw [stA4_44, schA4_44]; kernel_rfl
theorem stA4_46 : W8.steps kW (schedW (tb blkA4)) ⟨222134589#32, 3489296159#32, 2109517886#32, 2452636380#32, 3512354294#32, 1437270821#32, 4089592491#32, 927099193#32⟩ 46 = ⟨2355488849#32, 816769201#32, 556683606#32, 1610344164#32, 524794595#32, 3597536146#32, 1287188641#32, 1204433877#32⟩ := by
  show (W8.steps kW (schedW (tb blkA4)) ⟨222134589#32, 3489296159#32, 2109517886#32, 2452636380#32, 3512354294#32, 1437270821#32, 4089592491#32, 927099193#32⟩ 45).step (kW 45) (schedW (tb blkA4) 45) = _
  rw [stA4_45, schA4_45]; kernel_rfl
theorem stA4_47 : W8.steps kW (schedW (tb blkA4)) ⟨222134589#32, 3489296159#32, 2109517886#32, 2452636380#32, 3512354294#32, 1437270821#32, 4089592491#32, 927099193#32⟩ 47 = ⟨3818317117#32, 2355488849#32, 816769201#32, 556683606#32, 1831830726#32, 524794595#32, 3597536146#32, 1287188641#32⟩ := by
  show (W8.steps kW (schedW (tb blkA4)) ⟨222134589#32, 3489296159#32, 2109517886#32, 2452636380#32, 3512354294#32, 1437270821#32, 4089592491#32, 927099193#32⟩ 46).step (kW 46) (schedW (tb blkA4) 46) = _
  rw [stA4_46, schA4_46]; kernel_rfl
theorem stA4_48 : W8.steps kW (schedW (tb blkA4)) ⟨222134589#32, 3489296159#32, 2109517886#32, 2452636380#32, 3512354294#32, 1437270821#32, 4089592491#32, 927099193#32⟩ 48 = ⟨300414693#32, 3818317117#32, 2355488849#32, 816769201#32, 2278624660#32, 1831830726#32, 524794595#32, 3597536146#32⟩ := by
  show (W8.steps kW (schedW (tb blkA4)) ⟨222134589#32, 3489296159#32, 2109517886#32, 2452636380#32, 3512354294#32, 1437270821#32, 4089592491#32, 927099193#32⟩ 47).step (kW 47) (schedW (tb blkA4) 47) = _
  rw [stA4_47, schA4_47]; kernel_rfl
theorem stA4_49 : W8.steps kW (schedW (tb blkA4)) ⟨222134589#32, 3489296159#32, 2109517886#32, 2452636380#32, 3512354294#32, 1437270821#32, 4089592491#32, 927099193#32⟩ 49 = ⟨324105108#32, 300414693#32, 3818317117#32, 2355488849#32, 1435341071#32, 2278624660#32, 1831830726#32, 524794595#32⟩ := by
  show (W8.steps kW (schedW (tb blkA4)) ⟨222134589#32, 3489296159#32, 2109517886#32, 2452636380#32, 3512354294#32, 1437270821#32, 4089592491#32, 927099193#32⟩ 48).step (kW 48) (schedW (tb blkA4) 48) = _
  rw [stA4_48, schA4_48]; kernel_rfl
theorem stA4_50 : W8.steps kW (schedW (tb blkA4)) ⟨222134589#32, 3489296159#32, 2109517886#32, 2452636380#32, 3512354294#32, 1437270821#32, 4089592491#32, 927099193#32⟩ 50 = ⟨636689164#32, 324105108#32, 300414693#32, 3818317117#32, 3234231685#32, 1435341071#32, 2278624660#32, 1831830726#32⟩ := by
  show (W8.steps kW (schedW (tb blkA4)) ⟨222134589#32, 3489296159#32, 2109517886#32, 2452636380#32, 3512354294#32, 1437270821#32, 4089592491#32, 927099193#32⟩ 49).step (kW 49) (schedW (tb blkA4) 49) = _
  rw [stA4_49, schA4_49]; kernel_rfl
theorem stA4_51 : W8.steps kW (schedW (tb blkA4)) ⟨222134589#32, 3489296159#32, 2109517886#32, 2452636380#32, 3512354294#32, 1437270821#32, 4089592491#32, 927099193#32⟩ 51 = ⟨2260278324#32, 636689164#32, 324105108#32, 300414693#32, 988460065#32, 3234231685#32, 1435341071#32, 2278624660#32⟩ := by
  show (W8.steps kW (schedW (tb blkA4)) ⟨222134589#32, 3489296159#32, 2109517886#32, 2452636380#32, 3512354294#32, 1437270821#32, 4089592491#32, 927099193#32⟩ 50).step (kW 50) (schedW (tb blkA4) 50) = _
  rw [stA4_50, schA4_50]; kernel_rfl
theorem stA4_52 : W8.steps kW (schedW (tb blkA4)) ⟨222134589#32, 3489296159#32, 2109517886#32, 2452636380#32, 3512354294#32, 1437270821#32, 4089592491#32, 927099193#32⟩ 52 = ⟨1002779298#32, 2260278324#32, 636689164#32, 324105108#32, 557936020#32, 988460065#32, 3234231685#32, 1435341071#32⟩ := by
  show (W8.steps kW (schedW (tb blkA4)) ⟨222134589#32, 3489296159#32, 2109517886#32, 2452636380#32, 3512354294#32, 1437270821#32, 4089592491#32, 927099193#32⟩ 51).step (kW 51) (schedW (tb blkA4) 51) = _
  rw [stA4_51, schA4_51]; kernel_rfl
theorem stA4_53 : W8.steps kW (schedW (tb blkA4)) ⟨222134589#32, 3489296159#32, 2109517886#32, 2452636380#32, 3512354294#32, 1437270821#32, 4089592491#32, 927099193#32⟩ 53 = ⟨1005266718#32, 1002779298#32, 2260278324#32, 636689164#32, 404842016#32, 557936020#32, 988460065#32, 3234231685#32⟩ := by
  show (W8.steps kW (schedW (tb blkA4)) ⟨222134589#32, 3489296159#32, 2109517886#32, 2452636380#32, 3512354294#32, 1437270821#32, 4089592491#32, 927099193#32⟩ 52).step (kW 52) (schedW (tb blkA4) 52) = _
  rw [stA4_52, schA4_52]; kernel_rfl
theorem stA4_54 : W8.steps kW (schedW (tb blkA4)) ⟨222134589#32, 3489296159#32, 2109517886#32, 2452636380#32, 3512354294#32, 1437270821#32, 4089592491#32, 927099193#32⟩ 54 = ⟨929806822#32, 1005266718#32, 1002779298#32, 2260278324#32, 115224651#32, 404842016#32, 557936020#32, 988460065#32⟩ := by
  show (W8.steps kW (schedW (tb blkA4)) ⟨222134589#32, 3489296159#32, 2109517886#32, 2452636380#32, 3512354294#32, 1437270821#32, 4089592491#32, 927099193#32⟩ 53).step (kW 53) (schedW (tb blkA4) 53) = _
  rw [stA4_53, schA4_53]; kernel_rfl
theorem stA4_55 : W8.steps kW (schedW (tb blkA4)) ⟨222134589#32, 3489296159#32, 2109517886#32, 2452636380#32, 3512354294#32, 1437270821#32, 4089592491#32, 927099193#32⟩ 55 = ⟨2426084318#32, 929806822#32, 1005266718#32, 1002779298#32, 4015797875#32, 115224651#32, 404842016#32, 557936020#32⟩ := by
  show (W8.steps kW (schedW (tb blkA4)) ⟨222134589#32, 3489296159#32, 2109517886#32, 2452636380#32, 3512354294#32, 1437270821#32, 4089592491#32, 927099193#32⟩ 54).step (kW 54) (schedW (tb blkA4) 54) = _
  rw [stA4_54, schA4_54]; kernel_rfl
theorem stA4_56 : W8.steps kW (schedW (tb blkA4)) ⟨222134589#32, 3489296159#32, 2109517886#32, 2452636380#32, 3512354294#32, 1437270821#32, 4089592491#32, 927099193#32⟩ 56 = ⟨1481893043#32, 2426084318#32, 929806822#32, 1005266718#32, 1232118538#32, 4015797875#32, 115224651#32, 404842016#32⟩ := by
  show (W8.steps kW (schedW (tb blkA4)) ⟨222134589#32, 3489296159#32, 2109517886#32, 2452636380#32, 3512354294#32, 1437270821#32, 4089592491#32, 927099193#32⟩ 55).step (kW 55) (schedW (tb blkA4) 55) = _
  rw [stA4_55, schA4_55]; kernel_rfl
theorem stA4_57 : W8.steps kW (schedW (tb blkA4)) ⟨222134589#32, 3489296159#32, 2109517886#32, 2452636380#32, 3512354294#32, 1437270821#32, 4089592491#32, 927099193#32⟩ 57 = ⟨4107136478#32, 1481893043#32, 2426084318#32, 929806822#32, 1681941556#32, 1232118538#32, 4015797875#32, 115224651#32⟩ := by
  show (W8.steps kW (schedW (tb blkA4)) ⟨222134589#32, 3489296159#32, 2109517886#32, 2452636380#32, 3512354294#32, 1437270821#32, 4089592491#32, 927099193#32⟩ 56).step (kW 56) (schedW (tb blkA4) 56) = _
  rw [stA4_56, schA4_56]; kernel_rfl
theorem stA4_58 : W8.steps kW (schedW (tb blkA4)) ⟨222134589#32, 3489296159#32, 2109517886#32, 2452636380#32, 3512354294#32, 1437270821#32, 4089592491#32, 927099193#32⟩ 58 = ⟨221896503#32, 4107136478#32, 1481893043#32, 2426084318#32, 2404779124#32, 1681941556#32, 1232118538#32, 4015797875#32⟩ := by
  show (W8.steps kW (schedW (tb blkA4)) ⟨222134589#32, 3489296159#32, 2109517886#32, 2452636380#32, 3512354294#32, 1437270821#32, 4089592491#32, 927099193#32⟩ 57).step (kW 57) (schedW (tb blkA4) 57) = _
  rw [stA4_57, schA4_57]; kernel_rfl
theorem stA4_59 : W8.steps kW (schedW (tb blkA4)) ⟨222134589#32, 3489296159#32, 2109517886#32, 2452636380#32, 3512354294#32, 1437270821#32, 4089592491#32, 927099193#32⟩ 59 = ⟨695127189#32, 221896503#32, 4107136478#32, 1481893043#32, 2149922949#32, 2404779124#32, 1681941556#32, 1232118538#32⟩ := by
  show (W8.steps kW (schedW (tb blkA4)) ⟨222134589#32, 3489296159#32, 2109517886#32, 2452636380#32, 3512354294#32, 1437270821#32, 4089592491#32, 927099193#32⟩ 58).step (kW 58) (schedW (tb blkA4) 58) = _
  rw [stA4_58, schA4_58]; kernel_rfl
theorem stA4_60 : W8.steps kW (schedW (tb blkA4)) ⟨222134589#32, 3489296159#32, 2109517886#32, 2452636380#32, 3512354294#32, 1437270821#32, 4089592491#32, 927099193#32⟩ 60 = ⟨3625047282#32, 695127189#32, 221896503#32, 4107136478#32, 1832337176#32, 2149922949#32, 2404779124#32, 1681941556#32⟩ := by
  show (W8.steps kW (schedW (tb blkA4)) ⟨222134589#32, 3489296159#32, 2109517886#32, 2452636380#32, 3512354294#32, 1437270821#32, 4089592491#32, 927099193#32⟩ 59).step (kW 59) (schedW (tb blkA4) 59) = _
  rw [stA4_59, schA4_59]; kernel_rfl
theorem stA4_61 : W8.steps kW (schedW (tb blkA4)) ⟨222134589#32, 3489296159#32, 2109517886#32, 2452636380#32, 3512354294#32, 1437270821#32, 4089592491#32, 927099193#32⟩ 61 = ⟨500698806#32, 3625047282#32, 695127189#32, 221896503#32, 2997526795#32, 1832337176#32, 2149922949#32, 2404779124#32⟩ := by
  show (W8.steps kW (schedW (tb blkA4)) ⟨222134589#32, 3489296159#32, 2109517886#32, 2452636380#32, 3512354294#32, 1437270821#32, 4089592491#32, 927099193#32⟩ 60).step (kW 60) (schedW (tb blkA4) 60) = _
  rw [stA4_60, schA4_60]; kernel_rfl
theorem stA4_62 : W8.steps kW (schedW (tb blkA4)) ⟨222134589#32, 3489296159#32, 2109517886#32, 2452636380#32, 3512354294#32, 1437270821#32, 4089592491#32, 927099193#32⟩ 62 = ⟨2799304111#32, 500698806#32, 3625047282#32, 695127189#32, 129948438#32, 2997526795#32, 1832337176#32, 2149922949#32⟩ := by
  show (W8.steps kW (schedW (tb blkA4)) ⟨222134589#32, 3489296159#32, 2109517886#32, 2452636380#32, 3512354294#32, 1437270821#32, 4089592491#32, 927099193#32⟩ 61).step (kW 61) (schedW (tb blkA4) 61) = _
  rw [stA4_61, schA4_61]; kernel_rfl
theorem stA4_63 : W8.steps kW (schedW (tb blkA4)) ⟨222134589#32, 3489296159#32, 2109517886#32, 2452636380#32, 3512354294#32, 1437270821#32, 4089592491#32, 927099193#32⟩ 63 = ⟨397160228#32, 2799304111#32, 500698806#32, 3625047282#32, 1090725828#32, 129948438#32, 2997526795#32, 1832337176#32⟩ := by
  show (W8.steps kW (schedW (tb blkA4)) ⟨222134589#32, 3489296159#32, 2109517886#32, 2452636380#32, 3512354294#32, 1437270821#32, 4089592491#32, 927099193#32⟩ 62).step (kW 62) (schedW (tb blkA4) 62) = _
  rw [stA4_62, schA4_62]; kernel_rfl
theorem stA4_64 : W8.steps kW (schedW (tb blkA4)) ⟨222134589#32, 3489296159#32, 2109517886#32, 2452636380#32, 3512354294#32, 1437270821#32, 4089592491#32, 927099193#32⟩ 64 = ⟨1886936521#32, 397160228#32, 2799304111#32, 500698806#32, 1681579039#32, 1090725828#32, 129948438#32, 2997526795#32⟩ := by
  show (W8.steps kW (schedW (tb blkA4)) ⟨222134589#32, 3489296159#32, 2109517886#32, 2452636380#32, 3512354294#32, 1437270821#32, 4089592491#32, 927099193#32⟩ 63).step (kW 63) (schedW (tb blkA4) 63) = _
  rw [stA4_63, schA4_63]; kernel_rfl
theorem turnA4 : W8.turn kW ⟨222134589#32, 3489296159#32, 2109517886#32, 2452636380#32, 3512354294#32, 1437270821#32, 4089592491#32, 927099193#32⟩ (tb blkA4) = ⟨2109071110#32, 3886456387#32, 613854701#32, 2953335186#32, 898966037#32, 2527996649#32, 4219540929#32, 3924625988#32⟩ := by
  unfold W8.turn
  rw [stA4_64]; kernel_rfl
def gkeyA : List Nat := [56, 118, 44, 247, 245, 89, 52, 179, 77, 23, 154, 230, 164, 200, 12, 173, 204, 187, 127, 10]
def gdataA : List Nat := [131, 148, 200, 240, 62, 81, 87, 8]
def goutA : List Nat := [125, 181, 223, 6, 231, 166, 158, 67, 36, 150, 173, 237, 176, 8, 81, 146, 53, 149, 34, 21, 150, 174, 42, 233, 251, 129, 21, 193, 233, 237, 10, 68]
theorem gmacA : ∀ i, i < 32 → macB (keyB (tb gkeyA) 20) (tb gdataA) 8 i = tb goutA i := by
  intro i hi
  have h1 : startW.turn kW (xorB (keyB (tb gkeyA) 20) 54#8) = ⟨761195927#32, 1893145279#32, 1285261209#32, 3303769776#32, 3920719425#32, 3494060790#32, 4147776690#32, 2653135363#32⟩ := by
    rw [W8.turn_congr (tb_agree _ blkA1 64 (by kernel_rfl))]; exact turnA1
  have h2 : W8.turn kW ⟨761195927#32, 1893145279#32, 1285261209#32, 3303769776#32, 3920719425#32, 3494060790#32, 4147776690#32, 2653135363#32⟩ (fun i => padded (joinb (xorB (keyB (tb gkeyA) 20) 54#8) 64 (tb gdataA)) (64 + 8) (64 + i)) = ⟨2577407947#32, 1478851684#32, 1744700656#32, 3832511711#32, 115310650#32, 1658281042#32, 2144304899#32, 792050417#32⟩ := by
    rw [W8.turn_congr (tb_agree _ blkA2 64 (by kernel_rfl))]; exact turnA2
  have h3 : startW.turn kW (xorB (keyB (tb gkeyA) 20) 92#8) = ⟨222134589#32, 3489296159#32, 2109517886#32, 2452636380#32, 3512354294#32, 1437270821#32, 4089592491#32, 927099193#32⟩ := by
    rw [W8.turn_congr (tb_agree _ blkA3 64 (by kernel_rfl))]; exact turnA3
  have h4 : W8.turn kW ⟨222134589#32, 3489296159#32, 2109517886#32, 2452636380#32, 3512354294#32, 1437270821#32, 4089592491#32, 927099193#32⟩ (fun i => padded (joinb (xorB (keyB (tb gkeyA) 20) 92#8) 64 (stateB ⟨2577407947#32, 1478851684#32, 1744700656#32, 3832511711#32, 115310650#32, 1658281042#32, 2144304899#32, 792050417#32⟩)) 96 (64 + i)) = ⟨2109071110#32, 3886456387#32, 613854701#32, 2953335186#32, 898966037#32, 2527996649#32, 4219540929#32, 3924625988#32⟩ := by
    rw [W8.turn_congr (tb_agree _ blkA4 64 (by kernel_rfl))]; exact turnA4
  rw [mac_of _ _ 8 (by omega) h1 h2 h3 h4]
  exact tb_agree (stateB ⟨2109071110#32, 3886456387#32, 613854701#32, 2953335186#32, 898966037#32, 2527996649#32, 4219540929#32, 3924625988#32⟩) goutA 32 (by kernel_rfl) i hi
end Go.Proofs.YtebhhonmpoeliaaDoor
