/-
  A Mac, reckoned step by step (B).
-/
import Derived.Test.YtebhhonmpoeliaaDoorGdM
namespace Go.Proofs.YtebhhonmpoeliaaDoor
open Go Go.RowKit
set_option maxRecDepth 100000
def blkB1 : List Nat := [75, 131, 233, 48, 209, 144, 168, 117, 18, 160, 155, 219, 134, 62, 103, 164, 3, 163, 20, 35, 160, 152, 28, 223, 205, 183, 35, 247, 223, 219, 60, 114, 54, 54, 54, 54, 54, 54, 54, 54, 54, 54, 54, 54, 54, 54, 54, 54, 54, 54, 54, 54, 54, 54, 54, 54, 54, 54, 54, 54, 54, 54, 54, 54]
theorem schB1_0 : schedW (tb blkB1) 0 = 1266936112#32 := by rw [schedW_low (tb blkB1) (by omega)]; kernel_rfl
theorem schB1_1 : schedW (tb blkB1) 1 = 3515918453#32 := by rw [schedW_low (tb blkB1) (by omega)]; kernel_rfl
theorem schB1_2 : schedW (tb blkB1) 2 = 312515547#32 := by rw [schedW_low (tb blkB1) (by omega)]; kernel_rfl
theorem schB1_3 : schedW (tb blkB1) 3 = 2252236708#32 := by rw [schedW_low (tb blkB1) (by omega)]; kernel_rfl
theorem schB1_4 : schedW (tb blkB1) 4 = 61019171#32 := by rw [schedW_low (tb blkB1) (by omega)]; kernel_rfl
theorem schB1_5 : schedW (tb blkB1) 5 = 2694323423#32 := by rw [schedW_low (tb blkB1) (by omega)]; kernel_rfl
theorem schB1_6 : schedW (tb blkB1) 6 = 3451331575#32 := by rw [schedW_low (tb blkB1) (by omega)]; kernel_rfl
theorem schB1_7 : schedW (tb blkB1) 7 = 3755687026#32 := by rw [schedW_low (tb blkB1) (by omega)]; kernel_rfl
theorem schB1_8 : schedW (tb blkB1) 8 = 909522486#32 := by rw [schedW_low (tb blkB1) (by omega)]; kernel_rfl
theorem schB1_9 : schedW (tb blkB1) 9 = 909522486#32 := by rw [schedW_low (tb blkB1) (by omega)]; kernel_rfl
theorem schB1_10 : schedW (tb blkB1) 10 = 909522486#32 := by rw [schedW_low (tb blkB1) (by omega)]; kernel_rfl
theorem schB1_11 : schedW (tb blkB1) 11 = 909522486#32 := by rw [schedW_low (tb blkB1) (by omega)]; kernel_rfl
theorem schB1_12 : schedW (tb blkB1) 12 = 909522486#32 := by rw [schedW_low (tb blkB1) (by omega)]; kernel_rfl
theorem schB1_13 : schedW (tb blkB1) 13 = 909522486#32 := by rw [schedW_low (tb blkB1) (by omega)]; kernel_rfl
theorem schB1_14 : schedW (tb blkB1) 14 = 909522486#32 := by rw [schedW_low (tb blkB1) (by omega)]; kernel_rfl
theorem schB1_15 : schedW (tb blkB1) 15 = 909522486#32 := by rw [schedW_low (tb blkB1) (by omega)]; kernel_rfl
theorem schB1_16 : schedW (tb blkB1) 16 = 991342576#32 := by
  rw [schedW_high (tb blkB1) (by omega)]
  show sig1 (schedW (tb blkB1) 14) + schedW (tb blkB1) 9 + sig0 (schedW (tb blkB1) 1) + schedW (tb blkB1) 0 = _
  rw [schB1_14, schB1_9, schB1_1, schB1_0]; kernel_rfl
theorem schB1_17 : schedW (tb blkB1) 17 = 2015282655#32 := by
  rw [schedW_high (tb blkB1) (by omega)]
  show sig1 (schedW (tb blkB1) 15) + schedW (tb blkB1) 10 + sig0 (schedW (tb blkB1) 2) + schedW (tb blkB1) 1 = _
  rw [schB1_15, schB1_10, schB1_2, schB1_1]; kernel_rfl
theorem schB1_18 : schedW (tb blkB1) 18 = 2332181255#32 := by
  rw [schedW_high (tb blkB1) (by omega)]
  show sig1 (schedW (tb blkB1) 16) + schedW (tb blkB1) 11 + sig0 (schedW (tb blkB1) 3) + schedW (tb blkB1) 2 = _
  rw [schB1_16, schB1_11, schB1_3, schB1_2]; kernel_rfl
theorem schB1_19 : schedW (tb blkB1) 19 = 4198160091#32 := by
  rw [schedW_high (tb blkB1) (by omega)]
  show sig1 (schedW (tb blkB1) 17) + schedW (tb blkB1) 12 + sig0 (schedW (tb blkB1) 4) + schedW (tb blkB1) 3 = _
  rw [schB1_17, schB1_12, schB1_4, schB1_3]; kernel_rfl
theorem schB1_20 : schedW (tb blkB1) 20 = 1342249550#32 := by
  rw [schedW_high (tb blkB1) (by omega)]
  show sig1 (schedW (tb blkB1) 18) + schedW (tb blkB1) 13 + sig0 (schedW (tb blkB1) 5) + schedW (tb blkB1) 4 = _
  rw [schB1_18, schB1_13, schB1_5, schB1_4]; kernel_rfl
theorem schB1_21 : schedW (tb blkB1) 21 = 1193728344#32 := by
  rw [schedW_high (tb blkB1) (by omega)]
  show sig1 (schedW (tb blkB1) 19) + schedW (tb blkB1) 14 + sig0 (schedW (tb blkB1) 6) + schedW (tb blkB1) 5 = _
  rw [schB1_19, schB1_14, schB1_6, schB1_5]; kernel_rfl
theorem schB1_22 : schedW (tb blkB1) 22 = 3821052531#32 := by
  rw [schedW_high (tb blkB1) (by omega)]
  show sig1 (schedW (tb blkB1) 20) + schedW (tb blkB1) 15 + sig0 (schedW (tb blkB1) 7) + schedW (tb blkB1) 6 = _
  rw [schB1_20, schB1_15, schB1_7, schB1_6]; kernel_rfl
theorem schB1_23 : schedW (tb blkB1) 23 = 3115316810#32 := by
  rw [schedW_high (tb blkB1) (by omega)]
  show sig1 (schedW (tb blkB1) 21) + schedW (tb blkB1) 16 + sig0 (schedW (tb blkB1) 8) + schedW (tb blkB1) 7 = _
  rw [schB1_21, schB1_16, schB1_8, schB1_7]; kernel_rfl
theorem schB1_24 : schedW (tb blkB1) 24 = 3670778092#32 := by
  rw [schedW_high (tb blkB1) (by omega)]
  show sig1 (schedW (tb blkB1) 22) + schedW (tb blkB1) 17 + sig0 (schedW (tb blkB1) 9) + schedW (tb blkB1) 8 = _
  rw [schB1_22, schB1_17, schB1_9, schB1_8]; kernel_rfl
theorem schB1_25 : schedW (tb blkB1) 25 = 2921463939#32 := by
  rw [schedW_high (tb blkB1) (by omega)]
  show sig1 (schedW (tb blkB1) 23) + schedW (tb blkB1) 18 + sig0 (schedW (tb blkB1) 10) + schedW (tb blkB1) 9 = _
  rw [schB1_23, schB1_18, schB1_10, schB1_9]; kernel_rfl
theorem schB1_26 : schedW (tb blkB1) 26 = 3153426700#32 := by
  rw [schedW_high (tb blkB1) (by omega)]
  show sig1 (schedW (tb blkB1) 24) + schedW (tb blkB1) 19 + sig0 (schedW (tb blkB1) 11) + schedW (tb blkB1) 10 = _
  rw [schB1_24, schB1_19, schB1_11, schB1_10]; kernel_rfl
theorem schB1_27 : schedW (tb blkB1) 27 = 2916655616#32 := by
  rw [schedW_high (tb blkB1) (by omega)]
  show sig1 (schedW (tb blkB1) 25) + schedW (tb blkB1) 20 + sig0 (schedW (tb blkB1) 12) + schedW (tb blkB1) 11 = _
  rw [schB1_25, schB1_20, schB1_12, schB1_11]; kernel_rfl
theorem schB1_28 : schedW (tb blkB1) 28 = 2014146191#32 := by
  rw [schedW_high (tb blkB1) (by omega)]
  show sig1 (schedW (tb blkB1) 26) + schedW (tb blkB1) 21 + sig0 (schedW (tb blkB1) 13) + schedW (tb blkB1) 12 = _
  rw [schB1_26, schB1_21, schB1_13, schB1_12]; kernel_rfl
theorem schB1_29 : schedW (tb blkB1) 29 = 1183397199#32 := by
  rw [schedW_high (tb blkB1) (by omega)]
  show sig1 (schedW (tb blkB1) 27) + schedW (tb blkB1) 22 + sig0 (schedW (tb blkB1) 14) + schedW (tb blkB1) 13 = _
  rw [schB1_27, schB1_22, schB1_14, schB1_13]; kernel_rfl
theorem schB1_30 : schedW (tb blkB1) 30 = 4053115907#32 := by
  rw [schedW_high (tb blkB1) (by omega)]
  show sig1 (schedW (tb blkB1) 28) + schedW (tb blkB1) 23 + sig0 (schedW (tb blkB1) 15) + schedW (tb blkB1) 14 = _
  rw [schB1_28, schB1_23, schB1_15, schB1_14]; kernel_rfl
theorem schB1_31 : schedW (tb blkB1) 31 = 436909918#32 := by
  rw [schedW_high (tb blkB1) (by omega)]
  show sig1 (schedW (tb blkB1) 29) + schedW (tb blkB1) 24 + sig0 (schedW (tb blkB1) 16) + schedW (tb blkB1) 15 = _
  rw [schB1_29, schB1_24, schB1_16, schB1_15]; kernel_rfl
theorem schB1_32 : schedW (tb blkB1) 32 = 1350225723#32 := by
  rw [schedW_high (tb blkB1) (by omega)]
  show sig1 (schedW (tb blkB1) 30) + schedW (tb blkB1) 25 + sig0 (schedW (tb blkB1) 17) + schedW (tb blkB1) 16 = _
  rw [schB1_30, schB1_25, schB1_17, schB1_16]; kernel_rfl
theorem schB1_33 : schedW (tb blkB1) 33 = 3490593274#32 := by
  rw [schedW_high (tb blkB1) (by omega)]
  show sig1 (schedW (tb blkB1) 31) + schedW (tb blkB1) 26 + sig0 (schedW (tb blkB1) 18) + schedW (tb blkB1) 17 = _
  rw [schB1_31, schB1_26, schB1_18, schB1_17]; kernel_rfl
theorem schB1_34 : schedW (tb blkB1) 34 = 2488243072#32 := by
  rw [schedW_high (tb blkB1) (by omega)]
  show sig1 (schedW (tb blkB1) 32) + schedW (tb blkB1) 27 + sig0 (schedW (tb blkB1) 19) + schedW (tb blkB1) 18 = _
  rw [schB1_32, schB1_27, schB1_19, schB1_18]; kernel_rfl
theorem schB1_35 : schedW (tb blkB1) 35 = 510798959#32 := by
  rw [schedW_high (tb blkB1) (by omega)]
  show sig1 (schedW (tb blkB1) 33) + schedW (tb blkB1) 28 + sig0 (schedW (tb blkB1) 20) + schedW (tb blkB1) 19 = _
  rw [schB1_33, schB1_28, schB1_20, schB1_19]; kernel_rfl
theorem schB1_36 : schedW (tb blkB1) 36 = 3764134455#32 := by
  rw [schedW_high (tb blkB1) (by omega)]
  show sig1 (schedW (tb blkB1) 34) + schedW (tb blkB1) 29 + sig0 (schedW (tb blkB1) 21) + schedW (tb blkB1) 20 = _
  rw [schB1_34, schB1_29, schB1_21, schB1_20]; kernel_rfl
theorem schB1_37 : schedW (tb blkB1) 37 = 1604180945#32 := by
  rw [schedW_high (tb blkB1) (by omega)]
  show sig1 (schedW (tb blkB1) 35) + schedW (tb blkB1) 30 + sig0 (schedW (tb blkB1) 22) + schedW (tb blkB1) 21 = _
  rw [schB1_35, schB1_30, schB1_22, schB1_21]; kernel_rfl
theorem schB1_38 : schedW (tb blkB1) 38 = 319063116#32 := by
  rw [schedW_high (tb blkB1) (by omega)]
  show sig1 (schedW (tb blkB1) 36) + schedW (tb blkB1) 31 + sig0 (schedW (tb blkB1) 23) + schedW (tb blkB1) 22 = _
  rw [schB1_36, schB1_31, schB1_23, schB1_22]; kernel_rfl
theorem schB1_39 : schedW (tb blkB1) 39 = 2340945598#32 := by
  rw [schedW_high (tb blkB1) (by omega)]
  show sig1 (schedW (tb blkB1) 37) + schedW (tb blkB1) 32 + sig0 (schedW (tb blkB1) 24) + schedW (tb blkB1) 23 = _
  rw [schB1_37, schB1_32, schB1_24, schB1_23]; kernel_rfl
theorem schB1_40 : schedW (tb blkB1) 40 = 272504130#32 := by
  rw [schedW_high (tb blkB1) (by omega)]
  show sig1 (schedW (tb blkB1) 38) + schedW (tb blkB1) 33 + sig0 (schedW (tb blkB1) 25) + schedW (tb blkB1) 24 = _
  rw [schB1_38, schB1_33, schB1_25, schB1_24]; kernel_rfl
theorem schB1_41 : schedW (tb blkB1) 41 = 2472965245#32 := by
  rw [schedW_high (tb blkB1) (by omega)]
  show sig1 (schedW (tb blkB1) 39) + schedW (tb blkB1) 34 + sig0 (schedW (tb blkB1) 26) + schedW (tb blkB1) 25 = _
  rw [schB1_39, schB1_34, schB1_26, schB1_25]; kernel_rfl
theorem schB1_42 : schedW (tb blkB1) 42 = 3738532234#32 := by
  rw [schedW_high (tb blkB1) (by omega)]
  show sig1 (schedW (tb blkB1) 40) + schedW (tb blkB1) 35 + sig0 (schedW (tb blkB1) 27) + schedW (tb blkB1) 26 = _
  rw [schB1_40, schB1_35, schB1_27, schB1_26]; kernel_rfl
theorem schB1_43 : schedW (tb blkB1) 43 = 3441217416#32 := by
  rw [schedW_high (tb blkB1) (by omega)]
  show sig1 (schedW (tb blkB1) 41) + schedW (tb blkB1) 36 + sig0 (schedW (tb blkB1) 28) + schedW (tb blkB1) 27 = _
  rw [schB1_41, schB1_36, schB1_28, schB1_27]; kernel_rfl
theorem schB1_44 : schedW (tb blkB1) 44 = 3330191791#32 := by
  rw [schedW_high (tb blkB1) (by omega)]
  show sig1 (schedW (tb blkB1) 42) + schedW (tb blkB1) 37 + sig0 (schedW (tb blkB1) 29) + schedW (tb blkB1) 28 = _
  rw [schB1_42, schB1_37, schB1_29, schB1_28]; kernel_rfl
theorem schB1_45 : schedW (tb blkB1) 45 = 3362084198#32 := by
  rw [schedW_high (tb blkB1) (by omega)]
  show sig1 (schedW (tb blkB1) 43) + schedW (tb blkB1) 38 + sig0 (schedW (tb blkB1) 30) + schedW (tb blkB1) 29 = _
  rw [schB1_43, schB1_38, schB1_30, schB1_29]; kernel_rfl
theorem schB1_46 : schedW (tb blkB1) 46 = 513010724#32 := by
  rw [schedW_high (tb blkB1) (by omega)]
  show sig1 (schedW (tb blkB1) 44) + schedW (tb blkB1) 39 + sig0 (schedW (tb blkB1) 31) + schedW (tb blkB1) 30 = _
  rw [schB1_44, schB1_39, schB1_31, schB1_30]; kernel_rfl
theorem schB1_47 : schedW (tb blkB1) 47 = 4191676786#32 := by
  rw [schedW_high (tb blkB1) (by omega)]
  show sig1 (schedW (tb blkB1) 45) + schedW (tb blkB1) 40 + sig0 (schedW (tb blkB1) 32) + schedW (tb blkB1) 31 = _
  rw [schB1_45, schB1_40, schB1_32, schB1_31]; kernel_rfl
theorem schB1_48 : schedW (tb blkB1) 48 = 3511802727#32 := by
  rw [schedW_high (tb blkB1) (by omega)]
  show sig1 (schedW (tb blkB1) 46) + schedW (tb blkB1) 41 + sig0 (schedW (tb blkB1) 33) + schedW (tb blkB1) 32 = _
  rw [schB1_46, schB1_41, schB1_33, schB1_32]; kernel_rfl
theorem schB1_49 : schedW (tb blkB1) 49 = 2949534195#32 := by
  rw [schedW_high (tb blkB1) (by omega)]
  show sig1 (schedW (tb blkB1) 47) + schedW (tb blkB1) 42 + sig0 (schedW (tb blkB1) 34) + schedW (tb blkB1) 33 = _
  rw [schB1_47, schB1_42, schB1_34, schB1_33]; kernel_rfl
theorem schB1_50 : schedW (tb blkB1) 50 = 2403405893#32 := by
  rw [schedW_high (tb blkB1) (by omega)]
  show sig1 (schedW (tb blkB1) 48) + schedW (tb blkB1) 43 + sig0 (schedW (tb blkB1) 35) + schedW (tb blkB1) 34 = _
  rw [schB1_48, schB1_43, schB1_35, schB1_34]; kernel_rfl
theorem schB1_51 : schedW (tb blkB1) 51 = 1126429629#32 := by
  rw [schedW_high (tb blkB1) (by omega)]
  show sig1 (schedW (tb blkB1) 49) + schedW (tb blkB1) 44 + sig0 (schedW (tb blkB1) 36) + schedW (tb blkB1) 35 = _
  rw [schB1_49, schB1_44, schB1_36, schB1_35]; kernel_rfl
theorem schB1_52 : schedW (tb blkB1) 52 = 847508691#32 := by
  rw [schedW_high (tb blkB1) (by omega)]
  show sig1 (schedW (tb blkB1) 50) + schedW (tb blkB1) 45 + sig0 (schedW (tb blkB1) 37) + schedW (tb blkB1) 36 = _
  rw [schB1_50, schB1_45, schB1_37, schB1_36]; kernel_rfl
theorem schB1_53 : schedW (tb blkB1) 53 = 3242272318#32 := by
  rw [schedW_high (tb blkB1) (by omega)]
  show sig1 (schedW (tb blkB1) 51) + schedW (tb blkB1) 46 + sig0 (schedW (tb blkB1) 38) + schedW (tb blkB1) 37 = _
  rw [schB1_51, schB1_46, schB1_38, schB1_37]; kernel_rfl
theorem schB1_54 : schedW (tb blkB1) 54 = 631513205#32 := by
  rw [schedW_high (tb blkB1) (by omega)]
  show sig1 (schedW (tb blkB1) 52) + schedW (tb blkB1) 47 + sig0 (schedW (tb blkB1) 39) + schedW (tb blkB1) 38 = _
  rw [schB1_52, schB1_47, schB1_39, schB1_38]; kernel_rfl
theorem schB1_55 : schedW (tb blkB1) 55 = 406453619#32 := by
  rw [schedW_high (tb blkB1) (by omega)]
  show sig1 (schedW (tb blkB1) 53) + schedW (tb blkB1) 48 + sig0 (schedW (tb blkB1) 40) + schedW (tb blkB1) 39 = _
  rw [schB1_53, schB1_48, schB1_40, schB1_39]; kernel_rfl
theorem schB1_56 : schedW (tb blkB1) 56 = 3365875041#32 := by
  rw [schedW_high (tb blkB1) (by omega)]
  show sig1 (schedW (tb blkB1) 54) + schedW (tb blkB1) 49 + sig0 (schedW (tb blkB1) 41) + schedW (tb blkB1) 40 = _
  rw [schB1_54, schB1_49, schB1_41, schB1_40]; kernel_rfl
theorem schB1_57 : schedW (tb blkB1) 57 = 868161693#32 := by
  rw [schedW_high (tb blkB1) (by omega)]
  show sig1 (schedW (tb blkB1) 55) + schedW (tb blkB1) 50 + sig0 (schedW (tb blkB1) 42) + schedW (tb blkB1) 41 = _
  rw [schB1_55, schB1_50, schB1_42, schB1_41]; kernel_rfl
theorem schB1_58 : schedW (tb blkB1) 58 = 3506699015#32 := by
  rw [schedW_high (tb blkB1) (by omega)]
  show sig1 (schedW (tb blkB1) 56) + schedW (tb blkB1) 51 + sig0 (schedW (tb blkB1) 43) + schedW (tb blkB1) 42 = _
  rw [schB1_56, schB1_51, schB1_43, schB1_42]; kernel_rfl
theorem schB1_59 : schedW (tb blkB1) 59 = 1511747474#32 := by
  rw [schedW_high (tb blkB1) (by omega)]
  show sig1 (schedW (tb blkB1) 57) + schedW (tb blkB1) 52 + sig0 (schedW (tb blkB1) 44) + schedW (tb blkB1) 43 = _
  rw [schB1_57, schB1_52, schB1_44, schB1_43]; kernel_rfl
theorem schB1_60 : schedW (tb blkB1) 60 = 2354904171#32 := by
  rw [schedW_high (tb blkB1) (by omega)]
  show sig1 (schedW (tb blkB1) 58) + schedW (tb blkB1) 53 + sig0 (schedW (tb blkB1) 45) + schedW (tb blkB1) 44 = _
  rw [schB1_58, schB1_53, schB1_45, schB1_44]; kernel_rfl
theorem schB1_61 : schedW (tb blkB1) 61 = 2031989864#32 := by
  rw [schedW_high (tb blkB1) (by omega)]
  show sig1 (schedW (tb blkB1) 59) + schedW (tb blkB1) 54 + sig0 (schedW (tb blkB1) 46) + schedW (tb blkB1) 45 = _
  rw [schB1_59, schB1_54, schB1_46, schB1_45]; kernel_rfl
theorem schB1_62 : schedW (tb blkB1) 62 = 419395258#32 := by
  rw [schedW_high (tb blkB1) (by omega)]
  show sig1 (schedW (tb blkB1) 60) + schedW (tb blkB1) 55 + sig0 (schedW (tb blkB1) 47) + schedW (tb blkB1) 46 = _
  rw [schB1_60, schB1_55, schB1_47, schB1_46]; kernel_rfl
theorem schB1_63 : schedW (tb blkB1) 63 = 3530553377#32 := by
  rw [schedW_high (tb blkB1) (by omega)]
  show sig1 (schedW (tb blkB1) 61) + schedW (tb blkB1) 56 + sig0 (schedW (tb blkB1) 48) + schedW (tb blkB1) 47 = _
  rw [schB1_61, schB1_56, schB1_48, schB1_47]; kernel_rfl
theorem stB1_0 : W8.steps kW (schedW (tb blkB1)) ⟨1779033703#32, 3144134277#32, 1013904242#32, 2773480762#32, 1359893119#32, 2600822924#32, 528734635#32, 1541459225#32⟩ 0 = ⟨1779033703#32, 3144134277#32, 1013904242#32, 2773480762#32, 1359893119#32, 2600822924#32, 528734635#32, 1541459225#32⟩ := rfl
theorem stB1_1 : W8.steps kW (schedW (tb blkB1)) ⟨1779033703#32, 3144134277#32, 1013904242#32, 2773480762#32, 1359893119#32, 2600822924#32, 528734635#32, 1541459225#32⟩ 1 = ⟨1200386429#32, 1779033703#32, 3144134277#32, 1013904242#32, 3830172626#32, 1359893119#32, 2600822924#32, 528734635#32⟩ := by
  show (W8.steps kW (schedW (tb blkB1)) ⟨1779033703#32, 3144134277#32, 1013904242#32, 2773480762#32, 1359893119#32, 2600822924#32, 528734635#32, 1541459225#32⟩ 0).step (kW 0) (schedW (tb blkB1) 0) = _
  rw [stB1_0, schB1_0]; kernel_rfl
theorem stB1_2 : W8.steps kW (schedW (tb blkB1)) ⟨1779033703#32, 3144134277#32, 1013904242#32, 2773480762#32, 1359893119#32, 2600822924#32, 528734635#32, 1541459225#32⟩ 2 = ⟨677196730#32, 1200386429#32, 1779033703#32, 3144134277#32, 233925541#32, 3830172626#32, 1359893119#32, 2600822924#32⟩ := by
  show (W8.steps kW (schedW (tb blkB1)) ⟨1779033703#32, 3144134277#32, 1013904242#32, 2773480762#32, 1359893119#32, 2600822924#32, 528734635#32, 1541459225#32⟩ 1).step (kW 1) (schedW (tb blkB1) 1) = _
  rw [stB1_1, schB1_1]; kernel_rfl
theorem stB1_3 : W8.steps kW (schedW (tb blkB1)) ⟨1779033703#32, 3144134277#32, 1013904242#32, 2773480762#32, 1359893119#32, 2600822924#32, 528734635#32, 1541459225#32⟩ 3 = ⟨2632998714#32, 677196730#32, 1200386429#32, 1779033703#32, 2336338842#32, 233925541#32, 3830172626#32, 1359893119#32⟩ := by
  show (W8.steps kW (schedW (tb blkB1)) ⟨1779033703#32, 3144134277#32, 1013904242#32, 2773480762#32, 1359893119#32, 2600822924#32, 528734635#32, 1541459225#32⟩ 2).step (kW 2) (schedW (tb blkB1) 2) = _
  rw [stB1_2, schB1_2]; kernel_rfl
theorem stB1_4 : W8.steps kW (schedW (tb blkB1)) ⟨1779033703#32, 3144134277#32, 1013904242#32, 2773480762#32, 1359893119#32, 2600822924#32, 528734635#32, 1541459225#32⟩ 4 = ⟨2489594558#32, 2632998714#32, 677196730#32, 1200386429#32, 1375570860#32, 2336338842#32, 233925541#32, 3830172626#32⟩ := by
  show (W8.steps kW (schedW (tb blkB1)) ⟨1779033703#32, 3144134277#32, 1013904242#32, 2773480762#32, 1359893119#32, 2600822924#32, 528734635#32, 1541459225#32⟩ 3).step (kW 3) (schedW (tb blkB1) 3) = _
  rw [stB1_3, schB1_3]; kernel_rfl
theorem stB1_5 : W8.steps kW (schedW (tb blkB1)) ⟨1779033703#32, 3144134277#32, 1013904242#32, 2773480762#32, 1359893119#32, 2600822924#32, 528734635#32, 1541459225#32⟩ 5 = ⟨2771070761#32, 2489594558#32, 2632998714#32, 677196730#32, 2954630925#32, 1375570860#32, 2336338842#32, 233925541#32⟩ := by
  show (W8.steps kW (schedW (tb blkB1)) ⟨1779033703#32, 3144134277#32, 1013904242#32, 2773480762#32, 1359893119#32, 2600822924#32, 528734635#32, 1541459225#32⟩ 4).step (kW 4) (schedW (tb blkB1) 4) = _
  rw [stB1_4, schB1_4]; kernel_rfl
theorem stB1_6 : W8.steps kW (schedW (tb blkB1)) ⟨1779033703#32, 3144134277#32, 1013904242#32, 2773480762#32, 1359893119#32, 2600822924#32, 528734635#32, 1541459225#32⟩ 6 = ⟨1316075098#32, 2771070761#32, 2489594558#32, 2632998714#32, 632514259#32, 2954630925#32, 1375570860#32, 2336338842#32⟩ := by
  show (W8.steps kW (schedW (tb blkB1)) ⟨1779033703#32, 3144134277#32, 1013904242#32, 2773480762#32, 1359893119#32, 2600822924#32, 528734635#32, 1541459225#32⟩ 5).step (kW 5) (schedW (tb blkB1) 5) = _
  rw [stB1_5, schB1_5]; kernel_rfl
theorem stB1_7 : W8.steps kW (schedW (tb blkB1)) ⟨1779033703#32, 3144134277#32, 1013904242#32, 2773480762#32, 1359893119#32, 2600822924#32, 528734635#32, 1541459225#32⟩ 7 = ⟨382642467#32, 1316075098#32, 2771070761#32, 2489594558#32, 1204181761#32, 632514259#32, 2954630925#32, 1375570860#32⟩ := by
  show (W8.steps kW (schedW (tb blkB1)) ⟨1779033703#32, 3144134277#32, 1013904242#32, 2773480762#32, 1359893119#32, 2600822924#32, 528734635#32, 1541459225#32⟩ 6).step (kW 6) (schedW (tb blkB1) 6) = _
  rw [stB1_6, schB1_6]; kernel_rfl
theorem stB1_8 : W8.steps kW (schedW (tb blkB1)) ⟨1779033703#32, 3144134277#32, 1013904242#32, 2773480762#32, 1359893119#32, 2600822924#32, 528734635#32, 1541459225#32⟩ 8 = ⟨3575975317#32, 382642467#32, 1316075098#32, 2771070761#32, 2903376066#32, 1204181761#32, 632514259#32, 2954630925#32⟩ := by
  show (W8.steps kW (schedW (tb blkB1)) ⟨1779033703#32, 3144134277#32, 1013904242#32, 2773480762#32, 1359893119#32, 2600822924#32, 528734635#32, 1541459225#32⟩ 7).step (kW 7) (schedW (tb blkB1) 7) = _
  rw [stB1_7, schB1_7]; kernel_rfl
theorem stB1_9 : W8.steps kW (schedW (tb blkB1)) ⟨1779033703#32, 3144134277#32, 1013904242#32, 2773480762#32, 1359893119#32, 2600822924#32, 528734635#32, 1541459225#32⟩ 9 = ⟨1042989229#32, 3575975317#32, 382642467#32, 1316075098#32, 4280190378#32, 2903376066#32, 1204181761#32, 632514259#32⟩ := by
  show (W8.steps kW (schedW (tb blkB1)) ⟨1779033703#32, 3144134277#32, 1013904242#32, 2773480762#32, 1359893119#32, 2600822924#32, 528734635#32, 1541459225#32⟩ 8).step (kW 8) (schedW (tb blkB1) 8) = _
  rw [stB1_8, schB1_8]; kernel_rfl
theorem stB1_10 : W8.steps kW (schedW (tb blkB1)) ⟨1779033703#32, 3144134277#32, 1013904242#32, 2773480762#32, 1359893119#32, 2600822924#32, 528734635#32, 1541459225#32⟩ 10 = ⟨2787974768#32, 1042989229#32, 3575975317#32, 382642467#32, 4237186464#32, 4280190378#32, 2903376066#32, 1204181761#32⟩ := by
  show (W8.steps kW (schedW (tb blkB1)) ⟨1779033703#32, 3144134277#32, 1013904242#32, 2773480762#32, 1359893119#32, 2600822924#32, 528734635#32, 1541459225#32⟩ 9).step (kW 9) (schedW (tb blkB1) 9) = _
  rw [stB1_9, schB1_9]; kernel_rfl
theorem stB1_11 : W8.steps kW (schedW (tb blkB1)) ⟨1779033703#32, 3144134277#32, 1013904242#32, 2773480762#32, 1359893119#32, 2600822924#32, 528734635#32, 1541459225#32⟩ 11 = ⟨883447514#32, 2787974768#32, 1042989229#32, 3575975317#32, 651312860#32, 4237186464#32, 4280190378#32, 2903376066#32⟩ := by
  show (W8.steps kW (schedW (tb blkB1)) ⟨1779033703#32, 3144134277#32, 1013904242#32, 2773480762#32, 1359893119#32, 2600822924#32, 528734635#32, 1541459225#32⟩ 10).step (kW 10) (schedW (tb blkB1) 10) = _
  rw [stB1_10, schB1_10]; kernel_rfl
theorem stB1_12 : W8.steps kW (schedW (tb blkB1)) ⟨1779033703#32, 3144134277#32, 1013904242#32, 2773480762#32, 1359893119#32, 2600822924#32, 528734635#32, 1541459225#32⟩ 12 = ⟨3366549034#32, 883447514#32, 2787974768#32, 1042989229#32, 3439678625#32, 651312860#32, 4237186464#32, 4280190378#32⟩ := by
  show (W8.steps kW (schedW (tb blkB1)) ⟨1779033703#32, 3144134277#32, 1013904242#32, 2773480762#32, 1359893119#32, 2600822924#32, 528734635#32, 1541459225#32⟩ 11).step (kW 11) (schedW (tb blkB1) 11) = _
  rw [stB1_11, schB1_11]; kernel_rfl
theorem stB1_13 : W8.steps kW (schedW (tb blkB1)) ⟨1779033703#32, 3144134277#32, 1013904242#32, 2773480762#32, 1359893119#32, 2600822924#32, 528734635#32, 1541459225#32⟩ 13 = ⟨3113426511#32, 3366549034#32, 883447514#32, 2787974768#32, 2893010079#32, 3439678625#32, 651312860#32, 4237186464#32⟩ := by
  show (W8.steps kW (schedW (tb blkB1)) ⟨1779033703#32, 3144134277#32, 1013904242#32, 2773480762#32, 1359893119#32, 2600822924#32, 528734635#32, 1541459225#32⟩ 12).step (kW 12) (schedW (tb blkB1) 12) = _
  rw [stB1_12, schB1_12]; kernel_rfl
theorem stB1_14 : W8.steps kW (schedW (tb blkB1)) ⟨1779033703#32, 3144134277#32, 1013904242#32, 2773480762#32, 1359893119#32, 2600822924#32, 528734635#32, 1541459225#32⟩ 14 = ⟨636536394#32, 3113426511#32, 3366549034#32, 883447514#32, 3272890499#32, 2893010079#32, 3439678625#32, 651312860#32⟩ := by
  show (W8.steps kW (schedW (tb blkB1)) ⟨1779033703#32, 3144134277#32, 1013904242#32, 2773480762#32, 1359893119#32, 2600822924#32, 528734635#32, 1541459225#32⟩ 13).step (kW 13) (schedW (tb blkB1) 13) = _
  rw [stB1_13, schB1_13]; kernel_rfl
theorem stB1_15 : W8.steps kW (schedW (tb blkB1)) ⟨1779033703#32, 3144134277#32, 1013904242#32, 2773480762#32, 1359893119#32, 2600822924#32, 528734635#32, 1541459225#32⟩ 15 = ⟨1009241905#32, 636536394#32, 3113426511#32, 3366549034#32, 1323997502#32, 3272890499#32, 2893010079#32, 3439678625#32⟩ := by
  show (W8.steps kW (schedW (tb blkB1)) ⟨1779033703#32, 3144134277#32, 1013904242#32, 2773480762#32, 1359893119#32, 2600822924#32, 528734635#32, 1541459225#32⟩ 14).step (kW 14) (schedW (tb blkB1) 14) = _
  rw [stB1_14, schB1_14]; kernel_rfl
theorem stB1_16 : W8.steps kW (schedW (tb blkB1)) ⟨1779033703#32, 3144134277#32, 1013904242#32, 2773480762#32, 1359893119#32, 2600822924#32, 528734635#32, 1541459225#32⟩ 16 = ⟨973890859#32, 1009241905#32, 636536394#32, 3113426511#32, 457520904#32, 1323997502#32, 3272890499#32, 2893010079#32⟩ := by
  show (W8.steps kW (schedW (tb blkB1)) ⟨1779033703#32, 3144134277#32, 1013904242#32, 2773480762#32, 1359893119#32, 2600822924#32, 528734635#32, 1541459225#32⟩ 15).step (kW 15) (schedW (tb blkB1) 15) = _
  rw [stB1_15, schB1_15]; kernel_rfl
theorem stB1_17 : W8.steps kW (schedW (tb blkB1)) ⟨1779033703#32, 3144134277#32, 1013904242#32, 2773480762#32, 1359893119#32, 2600822924#32, 528734635#32, 1541459225#32⟩ 17 = ⟨215706942#32, 973890859#32, 1009241905#32, 636536394#32, 3019595425#32, 457520904#32, 1323997502#32, 3272890499#32⟩ := by
  show (W8.steps kW (schedW (tb blkB1)) ⟨1779033703#32, 3144134277#32, 1013904242#32, 2773480762#32, 1359893119#32, 2600822924#32, 528734635#32, 1541459225#32⟩ 16).step (kW 16) (schedW (tb blkB1) 16) = _
  rw [stB1_16, schB1_16]; kernel_rfl
theorem stB1_18 : W8.steps kW (schedW (tb blkB1)) ⟨1779033703#32, 3144134277#32, 1013904242#32, 2773480762#32, 1359893119#32, 2600822924#32, 528734635#32, 1541459225#32⟩ 18 = ⟨4245385904#32, 215706942#32, 973890859#32, 1009241905#32, 1601865240#32, 3019595425#32, 457520904#32, 1323997502#32⟩ := by
  show (W8.steps kW (schedW (tb blkB1)) ⟨1779033703#32, 3144134277#32, 1013904242#32, 2773480762#32, 1359893119#32, 2600822924#32, 528734635#32, 1541459225#32⟩ 17).step (kW 17) (schedW (tb blkB1) 17) = _
  rw [stB1_17, schB1_17]; kernel_rfl
theorem stB1_19 : W8.steps kW (schedW (tb blkB1)) ⟨1779033703#32, 3144134277#32, 1013904242#32, 2773480762#32, 1359893119#32, 2600822924#32, 528734635#32, 1541459225#32⟩ 19 = ⟨3749582511#32, 4245385904#32, 215706942#32, 973890859#32, 1485474211#32, 1601865240#32, 3019595425#32, 457520904#32⟩ := by
  show (W8.steps kW (schedW (tb blkB1)) ⟨1779033703#32, 3144134277#32, 1013904242#32, 2773480762#32, 1359893119#32, 2600822924#32, 528734635#32, 1541459225#32⟩ 18).step (kW 18) (schedW (tb blkB1) 18) = _
  rw [stB1_18, schB1_18]; kernel_rfl
theorem stB1_20 : W8.steps kW (schedW (tb blkB1)) ⟨1779033703#32, 3144134277#32, 1013904242#32, 2773480762#32, 1359893119#32, 2600822924#32, 528734635#32, 1541459225#32⟩ 20 = ⟨3383601262#32, 3749582511#32, 4245385904#32, 215706942#32, 1801639349#32, 1485474211#32, 1601865240#32, 3019595425#32⟩ := by
  show (W8.steps kW (schedW (tb blkB1)) ⟨1779033703#32, 3144134277#32, 1013904242#32, 2773480762#32, 1359893119#32, 2600822924#32, 528734635#32, 1541459225#32⟩ 19).step (kW 19) (schedW (tb blkB1) 19) = _
  rw [stB1_19, schB1_19]; kernel_rfl
theorem stB1_21 : W8.steps kW (schedW (tb blkB1)) ⟨1779033703#32, 3144134277#32, 1013904242#32, 2773480762#32, 1359893119#32, 2600822924#32, 528734635#32, 1541459225#32⟩ 21 = ⟨2237019582#32, 3383601262#32, 3749582511#32, 4245385904#32, 1833292798#32, 1801639349#32, 1485474211#32, 1601865240#32⟩ := by
  show (W8.steps kW (schedW (tb blkB1)) ⟨1779033703#32, 3144134277#32, 1013904242#32, 2773480762#32, 1359893119#32, 2600822924#32, 528734635#32, 1541459225#32⟩ 20).step (kW 20) (schedW (tb blkB1) 20) = _
  rw [stB1_20, schB1_20]; kernel_rfl
theorem stB1_22 : W8.steps kW (schedW (tb blkB1)) ⟨1779033703#32, 3144134277#32, 1013904242#32, 2773480762#32, 1359893119#32, 2600822924#32, 528734635#32, 1541459225#32⟩ 22 = ⟨2976354571#32, 2237019582#32, 3383601262#32, 3749582511#32, 2357031234#32, 1833292798#32, 1801639349#32, 1485474211#32⟩ := by
  show (W8.steps kW (schedW (tb blkB1)) ⟨1779033703#32, 3144134277#32, 1013904242#32, 2773480762#32, 1359893119#32, 2600822924#32, 528734635#32, 1541459225#32⟩ 21).step (kW 21) (schedW (tb blkB1) 21) = _
  rw [stB1_21, schB1_21]; kernel_rfl
theorem stB1_23 : W8.steps kW (schedW (tb blkB1)) ⟨1779033703#32, 3144134277#32, 1013904242#32, 2773480762#32, 1359893119#32, 2600822924#32, 528734635#32, 1541459225#32⟩ 23 = ⟨2697230847#32, 2976354571#32, 2237019582#32, 3383601262#32, 77241797#32, 2357031234#32, 1833292798#32, 1801639349#32⟩ := by
  show (W8.steps kW (schedW (tb blkB1)) ⟨1779033703#32, 3144134277#32, 1013904242#32, 2773480762#32, 1359893119#32, 2600822924#32, 528734635#32, 1541459225#32⟩ 22).step (kW 22) (schedW (tb blkB1) 22) = _
  rw [stB1_22, schB1_22]; kernel_rfl
theorem stB1_24 : W8.steps kW (schedW (tb blkB1)) ⟨1779033703#32, 3144134277#32, 1013904242#32, 2773480762#32, 1359893119#32, 2600822924#32, 528734635#32, 1541459225#32⟩ 24 = ⟨3268926615#32, 2697230847#32, 2976354571#32, 2237019582#32, 3037949031#32, 77241797#32, 2357031234#32, 1833292798#32⟩ := by
  show (W8.steps kW (schedW (tb blkB1)) ⟨1779033703#32, 3144134277#32, 1013904242#32, 2773480762#32, 1359893119#32, 2600822924#32, 528734635#32, 1541459225#32⟩ 23).step (kW 23) (schedW (tb blkB1) 23) = _
  rw [stB1_23, schB1_23]; kernel_rfl
theorem stB1_25 : W8.steps kW (schedW (tb blkB1)) ⟨1779033703#32, 3144134277#32, 1013904242#32, 2773480762#32, 1359893119#32, 2600822924#32, 528734635#32, 1541459225#32⟩ 25 = ⟨1956927414#32, 3268926615#32, 2697230847#32, 2976354571#32, 230225221#32, 3037949031#32, 77241797#32, 2357031234#32⟩ := by
  show (W8.steps kW (schedW (tb blkB1)) ⟨1779033703#32, 3144134277#32, 1013904242#32, 2773480762#32, 1359893119#32, 2600822924#32, 528734635#32, 1541459225#32⟩ 24).step (kW 24) (schedW (tb blkB1) 24) = _
  rw [stB1_24, schB1_24]; kernel_rfl
theorem stB1_26 : W8.steps kW (schedW (tb blkB1)) ⟨1779033703#32, 3144134277#32, 1013904242#32, 2773480762#32, 1359893119#32, 2600822924#32, 528734635#32, 1541459225#32⟩ 26 = ⟨3680133656#32, 1956927414#32, 3268926615#32, 2697230847#32, 4198050895#32, 230225221#32, 3037949031#32, 77241797#32⟩ := by
  show (W8.steps kW (schedW (tb blkB1)) ⟨1779033703#32, 3144134277#32, 1013904242#32, 2773480762#32, 1359893119#32, 2600822924#32, 528734635#32, 1541459225#32⟩ 25).step (kW 25) (schedW (tb blkB1) 25) = _
  rw [stB1_25, schB1_25]; kernel_rfl
theorem stB1_27 : W8.steps kW (schedW (tb blkB1)) ⟨1779033703#32, 3144134277#32, 1013904242#32, 2773480762#32, 1359893119#32, 2600822924#32, 528734635#32, 1541459225#32⟩ 27 = ⟨1253941045#32, 3680133656#32, 1956927414#32, 3268926615#32, 3373506918#32, 4198050895#32, 230225221#32, 3037949031#32⟩ := by
  show (W8.steps kW (schedW (tb blkB1)) ⟨1779033703#32, 3144134277#32, 1013904242#32, 2773480762#32, 1359893119#32, 2600822924#32, 528734635#32, 1541459225#32⟩ 26).step (kW 26) (schedW (tb blkB1) 26) = _
  rw [stB1_26, schB1_26]; kernel_rfl
theorem stB1_28 : W8.steps kW (schedW (tb blkB1)) ⟨1779033703#32, 3144134277#32, 1013904242#32, 2773480762#32, 1359893119#32, 2600822924#32, 528734635#32, 1541459225#32⟩ 28 = ⟨3848478793#32, 1253941045#32, 3680133656#32, 1956927414#32, 4026842785#32, 3373506918#32, 4198050895#32, 230225221#32⟩ := by
  show (W8.steps kW (schedW (tb blkB1)) ⟨1779033703#32, 3144134277#32, 1013904242#32, 2773480762#32, 1359893119#32, 2600822924#32, 528734635#32, 1541459225#32⟩ 27).step (kW 27) (schedW (tb blkB1) 27) = _
  rw [stB1_27, schB1_27]; kernel_rfl
theorem stB1_29 : W8.steps kW (schedW (tb blkB1)) ⟨1779033703#32, 3144134277#32, 1013904242#32, 2773480762#32, 1359893119#32, 2600822924#32, 528734635#32, 1541459225#32⟩ 29 = ⟨731068801#32, 3848478793#32, 1253941045#32, 3680133656#32, 3710233216#32, 4026842785#32, 3373506918#32, 4198050895#32⟩ := by
  show (W8.steps kW (schedW (tb blkB1)) ⟨1779033703#32, 3144134277#32, 1013904242#32, 2773480762#32, 1359893119#32, 2600822924#32, 528734635#32, 1541459225#32⟩ 28).step (kW 28) (schedW (tb blkB1) 28) = _
  rw [stB1_28, schB1_28]; kernel_rfl
theorem stB1_30 : W8.steps kW (schedW (tb blkB1)) ⟨1779033703#32, 3144134277#32, 1013904242#32, 2773480762#32, 1359893119#32, 2600822924#32, 528734635#32, 1541459225#32⟩ 30 = ⟨3724140692#32, 731068801#32, 3848478793#32, 1253941045#32, 2207609684#32, 3710233216#32, 4026842785#32, 3373506918#32⟩ := by
  show (W8.steps kW (schedW (tb blkB1)) ⟨1779033703#32, 3144134277#32, 1013904242#32, 2773480762#32, 1359893119#32, 2600822924#32, 528734635#32, 1541459225#32⟩ 29).step (kW 29) (schedW (tb blkB1) 29) = _
  rw [stB1_29, schB1_29]; kernel_rfl
theorem stB1_31 : W8.steps kW (schedW (tb blkB1)) ⟨1779033703#32, 3144134277#32, 1013904242#32, 2773480762#32, 1359893119#32, 2600822924#32, 528734635#32, 1541459225#32⟩ 31 = ⟨1726925211#32, 3724140692#32, 731068801#32, 3848478793#32, 4015948722#32, 2207609684#32, 3710233216#32, 4026842785#32⟩ := by
  show (W8.steps kW (schedW (tb blkB1)) ⟨1779033703#32, 3144134277#32, 1013904242#32, 2773480762#32, 1359893119#32, 2600822924#32, 528734635#32, 1541459225#32⟩ 30).step (kW 30) (schedW (tb blkB1) 30) = _
  rw [stB1_30, schB1_30]; kernel_rfl
theorem stB1_32 : W8.steps kW (schedW (tb blkB1)) ⟨1779033703#32, 3144134277#32, 1013904242#32, 2773480762#32, 1359893119#32, 2600822924#32, 528734635#32, 1541459225#32⟩ 32 = ⟨1649534267#32, 1726925211#32, 3724140692#32, 731068801#32, 2842833768#32, 4015948722#32, 2207609684#32, 3710233216#32⟩ := by
  show (W8.steps kW (schedW (tb blkB1)) ⟨1779033703#32, 3144134277#32, 1013904242#32, 2773480762#32, 1359893119#32, 2600822924#32, 528734635#32, 1541459225#32⟩ 31).step (kW 31) (schedW (tb blkB1) 31) = _
  rw [stB1_31, schB1_31]; kernel_rfl
theorem stB1_33 : W8.steps kW (schedW (tb blkB1)) ⟨1779033703#32, 3144134277#32, 1013904242#32, 2773480762#32, 1359893119#32, 2600822924#32, 528734635#32, 1541459225#32⟩ 33 = ⟨2511176246#32, 1649534267#32, 1726925211#32, 3724140692#32, 2741720020#32, 2842833768#32, 4015948722#32, 2207609684#32⟩ := by
  show (W8.steps kW (schedW (tb blkB1)) ⟨1779033703#32, 3144134277#32, 1013904242#32, 2773480762#32, 1359893119#32, 2600822924#32, 528734635#32, 1541459225#32⟩ 32).step (kW 32) (schedW (tb blkB1) 32) = _
  rw [stB1_32, schB1_32]; kernel_rfl
theorem stB1_34 : W8.steps kW (schedW (tb blkB1)) ⟨1779033703#32, 3144134277#32, 1013904242#32, 2773480762#32, 1359893119#32, 2600822924#32, 528734635#32, 1541459225#32⟩ 34 = ⟨1990878542#32, 2511176246#32, 1649534267#32, 1726925211#32, 3940510960#32, 2741720020#32, 2842833768#32, 4015948722#32⟩ := by
  show (W8.steps kW (schedW (tb blkB1)) ⟨1779033703#32, 3144134277#32, 1013904242#32, 2773480762#32, 1359893119#32, 2600822924#32, 528734635#32, 1541459225#32⟩ 33).step (kW 33) (schedW (tb blkB1) 33) = _
  rw [stB1_33, schB1_33]; kernel_rfl
theorem stB1_35 : W8.steps kW (schedW (tb blkB1)) ⟨1779033703#32, 3144134277#32, 1013904242#32, 2773480762#32, 1359893119#32, 2600822924#32, 528734635#32, 1541459225#32⟩ 35 = ⟨993800777#32, 1990878542#32, 2511176246#32, 1649534267#32, 221577420#32, 3940510960#32, 2741720020#32, 2842833768#32⟩ := by
  show (W8.steps kW (schedW (tb blkB1)) ⟨1779033703#32, 3144134277#32, 1013904242#32, 2773480762#32, 1359893119#32, 2600822924#32, 528734635#32, 1541459225#32⟩ 34).step (kW 34) (schedW (tb blkB1) 34) = _
  rw [stB1_34, schB1_34]; kernel_rfl
theorem stB1_36 : W8.steps kW (schedW (tb blkB1)) ⟨1779033703#32, 3144134277#32, 1013904242#32, 2773480762#32, 1359893119#32, 2600822924#32, 528734635#32, 1541459225#32⟩ 36 = ⟨3702319436#32, 993800777#32, 1990878542#32, 2511176246#32, 3674389146#32, 221577420#32, 3940510960#32, 2741720020#32⟩ := by
  show (W8.steps kW (schedW (tb blkB1)) ⟨1779033703#32, 3144134277#32, 1013904242#32, 2773480762#32, 1359893119#32, 2600822924#32, 528734635#32, 1541459225#32⟩ 35).step (kW 35) (schedW (tb blkB1) 35) = _
  rw [stB1_35, schB1_35]; kernel_rfl
theorem stB1_37 : W8.steps kW (schedW (tb blkB1)) ⟨1779033703#32, 3144134277#32, 1013904242#32, 2773480762#32, 1359893119#32, 2600822924#32, 528734635#32, 1541459225#32⟩ 37 = ⟨430875561#32, 3702319436#32, 993800777#32, 1990878542#32, 1640421453#32, 3674389146#32, 221577420#32, 3940510960#32⟩ := by
  show (W8.steps kW (schedW (tb blkB1)) ⟨1779033703#32, 3144134277#32, 1013904242#32, 2773480762#32, 1359893119#32, 2600822924#32, 528734635#32, 1541459225#32⟩ 36).step (kW 36) (schedW (tb blkB1) 36) = _
  rw [stB1_36, schB1_36]; kernel_rfl
theorem stB1_38 : W8.steps kW (schedW (tb blkB1)) ⟨1779033703#32, 3144134277#32, 1013904242#32, 2773480762#32, 1359893119#32, 2600822924#32, 528734635#32, 1541459225#32⟩ 38 = ⟨3904656976#32, 430875561#32, 3702319436#32, 993800777#32, 1678530140#32, 1640421453#32, 3674389146#32, 221577420#32⟩ := by
  show (W8.steps kW (schedW (tb blkB1)) ⟨1779033703#32, 3144134277#32, 1013904242#32, 2773480762#32, 1359893119#32, 2600822924#32, 528734635#32, 1541459225#32⟩ 37).step (kW 37) (schedW (tb blkB1) 37) = _
  rw [stB1_37, schB1_37]; kernel_rfl
theorem stB1_39 : W8.steps kW (schedW (tb blkB1)) ⟨1779033703#32, 3144134277#32, 1013904242#32, 2773480762#32, 1359893119#32, 2600822924#32, 528734635#32, 1541459225#32⟩ 39 = ⟨2883116305#32, 3904656976#32, 430875561#32, 3702319436#32, 2490832958#32, 1678530140#32, 1640421453#32, 3674389146#32⟩ := by
  show (W8.steps kW (schedW (tb blkB1)) ⟨1779033703#32, 3144134277#32, 1013904242#32, 2773480762#32, 1359893119#32, 2600822924#32, 528734635#32, 1541459225#32⟩ 38).step (kW 38) (schedW (tb blkB1) 38) = _
  rw [stB1_38, schB1_38]; kernel_rfl
theorem stB1_40 : W8.steps kW (schedW (tb blkB1)) ⟨1779033703#32, 3144134277#32, 1013904242#32, 2773480762#32, 1359893119#32, 2600822924#32, 528734635#32, 1541459225#32⟩ 40 = ⟨2942110273#32, 2883116305#32, 3904656976#32, 430875561#32, 20835663#32, 2490832958#32, 1678530140#32, 1640421453#32⟩ := by
  show (W8.steps kW (schedW (tb blkB1)) ⟨1779033703#32, 3144134277#32, 1013904242#32, 2773480762#32, 1359893119#32, 2600822924#32, 528734635#32, 1541459225#32⟩ 39).step (kW 39) (schedW (tb blkB1) 39) = _
  rw [stB1_39, schB1_39]; kernel_rfl
theorem stB1_41 : W8.steps kW (schedW (tb blkB1)) ⟨1779033703#32, 3144134277#32, 1013904242#32, 2773480762#32, 1359893119#32, 2600822924#32, 528734635#32, 1541459225#32⟩ 41 = ⟨2111571180#32, 2942110273#32, 2883116305#32, 3904656976#32, 2646281087#32, 20835663#32, 2490832958#32, 1678530140#32⟩ := by
  show (W8.steps kW (schedW (tb blkB1)) ⟨1779033703#32, 3144134277#32, 1013904242#32, 2773480762#32, 1359893119#32, 2600822924#32, 528734635#32, 1541459225#32⟩ 40).step (kW 40) (schedW (tb blkB1) 40) = _
  rw [stB1_40, schB1_40]; kernel_rfl
theorem stB1_42 : W8.steps kW (schedW (tb blkB1)) ⟨1779033703#32, 3144134277#32, 1013904242#32, 2773480762#32, 1359893119#32, 2600822924#32, 528734635#32, 1541459225#32⟩ 42 = ⟨3840842082#32, 2111571180#32, 2942110273#32, 2883116305#32, 3586622789#32, 2646281087#32, 20835663#32, 2490832958#32⟩ := by
  show (W8.steps kW (schedW (tb blkB1)) ⟨1779033703#32, 3144134277#32, 1013904242#32, 2773480762#32, 1359893119#32, 2600822924#32, 528734635#32, 1541459225#32⟩ 41).step (kW 41) (schedW (tb blkB1) 41) = _
  rw [stB1_41, schB1_41]; kernel_rfl
theorem stB1_43 : W8.steps kW (schedW (tb blkB1)) ⟨1779033703#32, 3144134277#32, 1013904242#32, 2773480762#32, 1359893119#32, 2600822924#32, 528734635#32, 1541459225#32⟩ 43 = ⟨3718749621#32, 3840842082#32, 2111571180#32, 2942110273#32, 3545982887#32, 3586622789#32, 2646281087#32, 20835663#32⟩ := by
  show (W8.steps kW (schedW (tb blkB1)) ⟨1779033703#32, 3144134277#32, 1013904242#32, 2773480762#32, 1359893119#32, 2600822924#32, 528734635#32, 1541459225#32⟩ 42).step (kW 42) (schedW (tb blkB1) 42) = _
  rw [stB1_42, schB1_42]; kernel_rfl
theorem stB1_44 : W8.steps kW (schedW (tb blkB1)) ⟨1779033703#32, 3144134277#32, 1013904242#32, 2773480762#32, 1359893119#32, 2600822924#32, 528734635#32, 1541459225#32⟩ 44 = ⟨1011837949#32, 3718749621#32, 3840842082#32, 2111571180#32, 3909876531#32, 3545982887#32, 3586622789#32, 2646281087#32⟩ := by
  show (W8.steps kW (schedW (tb blkB1)) ⟨1779033703#32, 3144134277#32, 1013904242#32, 2773480762#32, 1359893119#32, 2600822924#32, 528734635#32, 1541459225#32⟩ 43).step (kW 43) (schedW (tb blkB1) 43) = _
  rw [stB1_43, schB1_43]; kernel_rfl
theorem stB1_45 : W8.steps kW (schedW (tb blkB1)) ⟨1779033703#32, 3144134277#32, 1013904242#32, 2773480762#32, 1359893119#32, 2600822924#32, 528734635#32, 1541459225#32⟩ 45 = ⟨1644563071#32, 1011837949#32, 3718749621#32, 3840842082#32, 3046942977#32, 3909876531#32, 3545982887#32, 3586622789#32⟩ := by
  show (W8.steps kW (schedW (tb blkB1)) ⟨1779033703#32, 3144134277#32, 1013904242#32, 2773480762#32, 1359893119#32, 2600822924#32, 528734635#32, 1541459225#32⟩ 44).step (kW 44) (schedW (tb blkB1) 44) = _
  rw [stB1_44, schB1_44]; kernel_rfl
theorem stB1_46 : W8.steps kW (schedW (tb blkB1)) ⟨1779033703#32, 3144134277#32, 1013904242#32, 2773480762#32, 1359893119#32, 2600822924#32, 528734635#32, 1541459225#32⟩ 46 = ⟨1344310661#32, 1644563071#32, 1011837949#32, 3718749621#32, 632597443#32, 3046942977#32, 3909876531#32, 3545982887#32⟩ := by
  show (W8.steps kW (schedW (tb blkB1)) ⟨1779033703#32, 3144134277#32, 1013904242#32, 2773480762#32, 1359893119#32, 2600822924#32, 528734635#32, 1541459225#32⟩ 45).step (kW 45) (schedW (tb blkB1) 45) = _
  rw [stB1_45, schB1_45]; kernel_rfl
theorem stB1_47 : W8.steps kW (schedW (tb blkB1)) ⟨1779033703#32, 3144134277#32, 1013904242#32, 2773480762#32, 1359893119#32, 2600822924#32, 528734635#32, 1541459225#32⟩ 47 = ⟨2891959115#32, 1344310661#32, 1644563071#32, 1011837949#32, 1609344478#32, 632597443#32, 3046942977#32, 3909876531#32⟩ := by
  show (W8.steps kW (schedW (tb blkB1)) ⟨1779033703#32, 3144134277#32, 1013904242#32, 2773480762#32, 1359893119#32, 2600822924#32, 528734635#32, 1541459225#32⟩ 46).step (kW 46) (schedW (tb blkB1) 46) = _
  rw [stB1_46, schB1_46]; kernel_rfl
theorem stB1_48 : W8.steps kW (schedW (tb blkB1)) ⟨1779033703#32, 3144134277#32, 1013904242#32, 2773480762#32, 1359893119#32, 2600822924#32, 528734635#32, 1541459225#32⟩ 48 = ⟨4233631984#32, 2891959115#32, 1344310661#32, 1644563071#32, 171522817#32, 1609344478#32, 632597443#32, 3046942977#32⟩ := by
  show (W8.steps kW (schedW (tb blkB1)) ⟨1779033703#32, 3144134277#32, 1013904242#32, 2773480762#32, 1359893119#32, 2600822924#32, 528734635#32, 1541459225#32⟩ 47).step (kW 47) (schedW (tb blkB1) 47) = _
  rw [stB1_47, schB1_47]; kernel_rfl
theorem stB1_49 : W8.steps kW (schedW (tb blkB1)) ⟨1779033703#32, 3144134277#32, 1013904242#32, 2773480762#32, 1359893119#32, 2600822924#32, 528734635#32, 1541459225#32⟩ 49 = ⟨3726555996#32, 4233631984#32, 2891959115#32, 1344310661#32, 2866418957#32, 171522817#32, 1609344478#32, 632597443#32⟩ := by
  show (W8.steps kW (schedW (tb blkB1)) ⟨1779033703#32, 3144134277#32, 1013904242#32, 2773480762#32, 1359893119#32, 2600822924#32, 528734635#32, 1541459225#32⟩ 48).step (kW 48) (schedW (tb blkB1) 48) = _
  rw [stB1_48, schB1_48]; kernel_rfl
theorem stB1_50 : W8.steps kW (schedW (tb blkB1)) ⟨1779033703#32, 3144134277#32, 1013904242#32, 2773480762#32, 1359893119#32, 2600822924#32, 528734635#32, 1541459225#32⟩ 50 = ⟨3774257670#32, 3726555996#32, 4233631984#32, 2891959115#32, 2636930777#32, 2866418957#32, 171522817#32, 1609344478#32⟩ := by
  show (W8.steps kW (schedW (tb blkB1)) ⟨1779033703#32, 3144134277#32, 1013904242#32, 2773480762#32, 1359893119#32, 2600822924#32, 528734635#32, 1541459225#32⟩ 49).step (kW 49) (schedW (tb blkB1) 49) = _
  rw [stB1_49, schB1_49]; kernel_rfl
theorem stB1_51 : W8.steps kW (schedW (tb blkB1)) ⟨1779033703#32, 3144134277#32, 1013904242#32, 2773480762#32, 1359893119#32, 2600822924#32, 528734635#32, 1541459225#32⟩ 51 = ⟨2058956736#32, 3774257670#32, 3726555996#32, 4233631984#32, 2019010049#32, 2636930777#32, 2866418957#32, 171522817#32⟩ := by
  show (W8.steps kW (schedW (tb blkB1)) ⟨1779033703#32, 3144134277#32, 1013904242#32, 2773480762#32, 1359893119#32, 2600822924#32, 528734635#32, 1541459225#32⟩ 50).step (kW 50) (schedW (tb blkB1) 50) = _
  rw [stB1_50, schB1_50]; kernel_rfl
theorem stB1_52 : W8.steps kW (schedW (tb blkB1)) ⟨1779033703#32, 3144134277#32, 1013904242#32, 2773480762#32, 1359893119#32, 2600822924#32, 528734635#32, 1541459225#32⟩ 52 = ⟨2307437159#32, 2058956736#32, 3774257670#32, 3726555996#32, 118452288#32, 2019010049#32, 2636930777#32, 2866418957#32⟩ := by
  show (W8.steps kW (schedW (tb blkB1)) ⟨1779033703#32, 3144134277#32, 1013904242#32, 2773480762#32, 1359893119#32, 2600822924#32, 528734635#32, 1541459225#32⟩ 51).step (kW 51) (schedW (tb blkB1) 51) = _
  rw [stB1_51, schB1_51]; kernel_rfl
theorem stB1_53 : W8.steps kW (schedW (tb blkB1)) ⟨1779033703#32, 3144134277#32, 1013904242#32, 2773480762#32, 1359893119#32, 2600822924#32, 528734635#32, 1541459225#32⟩ 53 = ⟨2056714904#32, 2307437159#32, 2058956736#32, 3774257670#32, 476380340#32, 118452288#32, 2019010049#32, 2636930777#32⟩ := by
  show (W8.steps kW (schedW (tb blkB1)) ⟨1779033703#32, 3144134277#32, 1013904242#32, 2773480762#32, 1359893119#32, 2600822924#32, 528734635#32, 1541459225#32⟩ 52).step (kW 52) (schedW (tb blkB1) 52) = _
  rw [stB1_52, schB1_52]; kernel_rfl
theorem stB1_54 : W8.steps kW (schedW (tb blkB1)) ⟨1779033703#32, 3144134277#32, 1013904242#32, 2773480762#32, 1359893119#32, 2600822924#32, 528734635#32, 1541459225#32⟩ 54 = ⟨2450435456#32, 2056714904#32, 2307437159#32, 2058956736#32, 1725989067#32, 476380340#32, 118452288#32, 2019010049#32⟩ := by
  show (W8.steps kW (schedW (tb blkB1)) ⟨1779033703#32, 3144134277#32, 1013904242#32, 2773480762#32, 1359893119#32, 2600822924#32, 528734635#32, 1541459225#32⟩ 53).step (kW 53) (schedW (tb blkB1) 53) = _
  rw [stB1_53, schB1_53]; kernel_rfl
theorem stB1_55 : W8.steps kW (schedW (tb blkB1)) ⟨1779033703#32, 3144134277#32, 1013904242#32, 2773480762#32, 1359893119#32, 2600822924#32, 528734635#32, 1541459225#32⟩ 55 = ⟨1350545602#32, 2450435456#32, 2056714904#32, 2307437159#32, 3195595941#32, 1725989067#32, 476380340#32, 118452288#32⟩ := by
  show (W8.steps kW (schedW (tb blkB1)) ⟨1779033703#32, 3144134277#32, 1013904242#32, 2773480762#32, 1359893119#32, 2600822924#32, 528734635#32, 1541459225#32⟩ 54).step (kW 54) (schedW (tb blkB1) 54) = _
  rw [stB1_54, schB1_54]; kernel_rfl
theorem stB1_56 : W8.steps kW (schedW (tb blkB1)) ⟨1779033703#32, 3144134277#32, 1013904242#32, 2773480762#32, 1359893119#32, 2600822924#32, 528734635#32, 1541459225#32⟩ 56 = ⟨721554355#32, 1350545602#32, 2450435456#32, 2056714904#32, 1973264142#32, 3195595941#32, 1725989067#32, 476380340#32⟩ := by
  show (W8.steps kW (schedW (tb blkB1)) ⟨1779033703#32, 3144134277#32, 1013904242#32, 2773480762#32, 1359893119#32, 2600822924#32, 528734635#32, 1541459225#32⟩ 55).step (kW 55) (schedW (tb blkB1) 55) = _
  rw [stB1_55, schB1_55]; kernel_rfl
theorem stB1_57 : W8.steps kW (schedW (tb blkB1)) ⟨1779033703#32, 3144134277#32, 1013904242#32, 2773480762#32, 1359893119#32, 2600822924#32, 528734635#32, 1541459225#32⟩ 57 = ⟨1483291791#32, 721554355#32, 1350545602#32, 2450435456#32, 561674069#32, 1973264142#32, 3195595941#32, 1725989067#32⟩ := by
  show (W8.steps kW (schedW (tb blkB1)) ⟨1779033703#32, 3144134277#32, 1013904242#32, 2773480762#32, 1359893119#32, 2600822924#32, 528734635#32, 1541459225#32⟩ 56).step (kW 56) (schedW (tb blkB1) 56) = _
  rw [stB1_56, schB1_56]; kernel_rfl
theorem stB1_58 : W8.steps kW (schedW (tb blkB1)) ⟨1779033703#32, 3144134277#32, 1013904242#32, 2773480762#32, 1359893119#32, 2600822924#32, 528734635#32, 1541459225#32⟩ 58 = ⟨3296064012#32, 1483291791#32, 721554355#32, 1350545602#32, 1736881662#32, 561674069#32, 1973264142#32, 3195595941#32⟩ := by
  show (W8.steps kW (schedW (tb blkB1)) ⟨1779033703#32, 3144134277#32, 1013904242#32, 2773480762#32, 1359893119#32, 2600822924#32, 528734635#32, 1541459225#32⟩ 57).step (kW 57) (schedW (tb blkB1) 57) = _
  rw [stB1_57, schB1_57]; kernel_rfl
theorem stB1_59 : W8.steps kW (schedW (tb blkB1)) ⟨1779033703#32, 3144134277#32, 1013904242#32, 2773480762#32, 1359893119#32, 2600822924#32, 528734635#32, 1541459225#32⟩ 59 = ⟨2306693906#32, 3296064012#32, 1483291791#32, 721554355#32, 451437832#32, 1736881662#32, 561674069#32, 1973264142#32⟩ := by
  show (W8.steps kW (schedW (tb blkB1)) ⟨1779033703#32, 3144134277#32, 1013904242#32, 2773480762#32, 1359893119#32, 2600822924#32, 528734635#32, 1541459225#32⟩ 58).step (kW 58) (schedW (tb blkB1) 58) = _
  rw [stB1_58, schB1_58]; kernel_rfl
theorem stB1_60 : W8.steps kW (schedW (tb blkB1)) ⟨1779033703#32, 3144134277#32, 1013904242#32, 2773480762#32, 1359893119#32, 2600822924#32, 528734635#32, 1541459225#32⟩ 60 = ⟨3448869299#32, 2306693906#32, 3296064012#32, 1483291791#32, 2691615821#32, 451437832#32, 1736881662#32, 561674069#32⟩ := by
  show (W8.steps kW (schedW (tb blkB1)) ⟨1779033703#32, 3144134277#32, 1013904242#32, 2773480762#32, 1359893119#32, 2600822924#32, 528734635#32, 1541459225#32⟩ 59).step (kW 59) (schedW (tb blkB1) 59) = _
  rw [stB1_59, schB1_59]; kernel_rfl
theorem stB1_61 : W8.steps kW (schedW (tb blkB1)) ⟨1779033703#32, 3144134277#32, 1013904242#32, 2773480762#32, 1359893119#32, 2600822924#32, 528734635#32, 1541459225#32⟩ 61 = ⟨352654484#32, 3448869299#32, 2306693906#32, 3296064012#32, 1731966523#32, 2691615821#32, 451437832#32, 1736881662#32⟩ := by
  show (W8.steps kW (schedW (tb blkB1)) ⟨1779033703#32, 3144134277#32, 1013904242#32, 2773480762#32, 1359893119#32, 2600822924#32, 528734635#32, 1541459225#32⟩ 60).step (kW 60) (schedW (tb blkB1) 60) = _
  rw [stB1_60, schB1_60]; kernel_rfl
theorem stB1_62 : W8.steps kW (schedW (tb blkB1)) ⟨1779033703#32, 3144134277#32, 1013904242#32, 2773480762#32, 1359893119#32, 2600822924#32, 528734635#32, 1541459225#32⟩ 62 = ⟨3084091234#32, 352654484#32, 3448869299#32, 2306693906#32, 964731523#32, 1731966523#32, 2691615821#32, 451437832#32⟩ := by
  show (W8.steps kW (schedW (tb blkB1)) ⟨1779033703#32, 3144134277#32, 1013904242#32, 2773480762#32, 1359893119#32, 2600822924#32, 528734635#32, 1541459225#32⟩ 61).step (kW 61) (schedW (tb blkB1) 61) = _
  rw [stB1_61, schB1_61]; kernel_rfl
theorem stB1_63 : W8.steps kW (schedW (tb blkB1)) ⟨1779033703#32, 3144134277#32, 1013904242#32, 2773480762#32, 1359893119#32, 2600822924#32, 528734635#32, 1541459225#32⟩ 63 = ⟨3788431960#32, 3084091234#32, 352654484#32, 3448869299#32, 3130932252#32, 964731523#32, 1731966523#32, 2691615821#32⟩ := by
  show (W8.steps kW (schedW (tb blkB1)) ⟨1779033703#32, 3144134277#32, 1013904242#32, 2773480762#32, 1359893119#32, 2600822924#32, 528734635#32, 1541459225#32⟩ 62).step (kW 62) (schedW (tb blkB1) 62) = _
  rw [stB1_62, schB1_62]; kernel_rfl
theorem stB1_64 : W8.steps kW (schedW (tb blkB1)) ⟨1779033703#32, 3144134277#32, 1013904242#32, 2773480762#32, 1359893119#32, 2600822924#32, 528734635#32, 1541459225#32⟩ 64 = ⟨1012551843#32, 3788431960#32, 3084091234#32, 352654484#32, 1122408096#32, 3130932252#32, 964731523#32, 1731966523#32⟩ := by
  show (W8.steps kW (schedW (tb blkB1)) ⟨1779033703#32, 3144134277#32, 1013904242#32, 2773480762#32, 1359893119#32, 2600822924#32, 528734635#32, 1541459225#32⟩ 63).step (kW 63) (schedW (tb blkB1) 63) = _
  rw [stB1_63, schB1_63]; kernel_rfl
theorem turnB1 : W8.turn kW ⟨1779033703#32, 3144134277#32, 1013904242#32, 2773480762#32, 1359893119#32, 2600822924#32, 528734635#32, 1541459225#32⟩ (tb blkB1) = ⟨2791585546#32, 2637598941#32, 4097995476#32, 3126135246#32, 2482301215#32, 1436787880#32, 1493466158#32, 3273425748#32⟩ := by
  unfold W8.turn
  rw [stB1_64]; kernel_rfl
def blkB2 : List Nat := [0, 32, 15, 116, 108, 115, 49, 51, 32, 99, 108, 105, 101, 110, 116, 32, 105, 110, 0, 1, 128, 0, 0, 0, 0, 0, 0, 0, 0, 0, 0, 0, 0, 0, 0, 0, 0, 0, 0, 0, 0, 0, 0, 0, 0, 0, 0, 0, 0, 0, 0, 0, 0, 0, 0, 0, 0, 0, 0, 0, 0, 0, 2, 160]
theorem schB2_0 : schedW (tb blkB2) 0 = 2101108#32 := by rw [schedW_low (tb blkB2) (by omega)]; kernel_rfl
theorem schB2_1 : schedW (tb blkB2) 1 = 1819488563#32 := by rw [schedW_low (tb blkB2) (by omega)]; kernel_rfl
theorem schB2_2 : schedW (tb blkB2) 2 = 543386729#32 := by rw [schedW_low (tb blkB2) (by omega)]; kernel_rfl
theorem schB2_3 : schedW (tb blkB2) 3 = 1701737504#32 := by rw [schedW_low (tb blkB2) (by omega)]; kernel_rfl
theorem schB2_4 : schedW (tb blkB2) 4 = 1768816641#32 := by rw [schedW_low (tb blkB2) (by omega)]; kernel_rfl
theorem schB2_5 : schedW (tb blkB2) 5 = 2147483648#32 := by rw [schedW_low (tb blkB2) (by omega)]; kernel_rfl
theorem schB2_6 : schedW (tb blkB2) 6 = 0#32 := by rw [schedW_low (tb blkB2) (by omega)]; kernel_rfl
theorem schB2_7 : schedW (tb blkB2) 7 = 0#32 := by rw [schedW_low (tb blkB2) (by omega)]; kernel_rfl
theorem schB2_8 : schedW (tb blkB2) 8 = 0#32 := by rw [schedW_low (tb blkB2) (by omega)]; kernel_rfl
theorem schB2_9 : schedW (tb blkB2) 9 = 0#32 := by rw [schedW_low (tb blkB2) (by omega)]; kernel_rfl
theorem schB2_10 : schedW (tb blkB2) 10 = 0#32 := by rw [schedW_low (tb blkB2) (by omega)]; kernel_rfl
theorem schB2_11 : schedW (tb blkB2) 11 = 0#32 := by rw [schedW_low (tb blkB2) (by omega)]; kernel_rfl
theorem schB2_12 : schedW (tb blkB2) 12 = 0#32 := by rw [schedW_low (tb blkB2) (by omega)]; kernel_rfl
theorem schB2_13 : schedW (tb blkB2) 13 = 0#32 := by rw [schedW_low (tb blkB2) (by omega)]; kernel_rfl
theorem schB2_14 : schedW (tb blkB2) 14 = 0#32 := by rw [schedW_low (tb blkB2) (by omega)]; kernel_rfl
theorem schB2_15 : schedW (tb blkB2) 15 = 672#32 := by rw [schedW_low (tb blkB2) (by omega)]; kernel_rfl
theorem schB2_16 : schedW (tb blkB2) 16 = 2805623500#32 := by
  rw [schedW_high (tb blkB2) (by omega)]
  show sig1 (schedW (tb blkB2) 14) + schedW (tb blkB2) 9 + sig0 (schedW (tb blkB2) 1) + schedW (tb blkB2) 0 = _
  rw [schB2_14, schB2_9, schB2_1, schB2_0]; kernel_rfl
theorem schB2_17 : schedW (tb blkB2) 17 = 2060326016#32 := by
  rw [schedW_high (tb blkB2) (by omega)]
  show sig1 (schedW (tb blkB2) 15) + schedW (tb blkB2) 10 + sig0 (schedW (tb blkB2) 2) + schedW (tb blkB2) 1 = _
  rw [schB2_15, schB2_10, schB2_2, schB2_1]; kernel_rfl
theorem schB2_18 : schedW (tb blkB2) 18 = 1776845184#32 := by
  rw [schedW_high (tb blkB2) (by omega)]
  show sig1 (schedW (tb blkB2) 16) + schedW (tb blkB2) 11 + sig0 (schedW (tb blkB2) 3) + schedW (tb blkB2) 2 = _
  rw [schB2_16, schB2_11, schB2_3, schB2_2]; kernel_rfl
theorem schB2_19 : schedW (tb blkB2) 19 = 3191618614#32 := by
  rw [schedW_high (tb blkB2) (by omega)]
  show sig1 (schedW (tb blkB2) 17) + schedW (tb blkB2) 12 + sig0 (schedW (tb blkB2) 4) + schedW (tb blkB2) 3 = _
  rw [schB2_17, schB2_12, schB2_4, schB2_3]; kernel_rfl
theorem schB2_20 : schedW (tb blkB2) 20 = 3411567594#32 := by
  rw [schedW_high (tb blkB2) (by omega)]
  show sig1 (schedW (tb blkB2) 18) + schedW (tb blkB2) 13 + sig0 (schedW (tb blkB2) 5) + schedW (tb blkB2) 4 = _
  rw [schB2_18, schB2_13, schB2_5, schB2_4]; kernel_rfl
theorem schB2_21 : schedW (tb blkB2) 21 = 431097814#32 := by
  rw [schedW_high (tb blkB2) (by omega)]
  show sig1 (schedW (tb blkB2) 19) + schedW (tb blkB2) 14 + sig0 (schedW (tb blkB2) 6) + schedW (tb blkB2) 5 = _
  rw [schB2_19, schB2_14, schB2_6, schB2_5]; kernel_rfl
theorem schB2_22 : schedW (tb blkB2) 22 = 1035660671#32 := by
  rw [schedW_high (tb blkB2) (by omega)]
  show sig1 (schedW (tb blkB2) 20) + schedW (tb blkB2) 15 + sig0 (schedW (tb blkB2) 7) + schedW (tb blkB2) 6 = _
  rw [schB2_20, schB2_15, schB2_7, schB2_6]; kernel_rfl
theorem schB2_23 : schedW (tb blkB2) 23 = 3931246138#32 := by
  rw [schedW_high (tb blkB2) (by omega)]
  show sig1 (schedW (tb blkB2) 21) + schedW (tb blkB2) 16 + sig0 (schedW (tb blkB2) 8) + schedW (tb blkB2) 7 = _
  rw [schB2_21, schB2_16, schB2_8, schB2_7]; kernel_rfl
theorem schB2_24 : schedW (tb blkB2) 24 = 2783784017#32 := by
  rw [schedW_high (tb blkB2) (by omega)]
  show sig1 (schedW (tb blkB2) 22) + schedW (tb blkB2) 17 + sig0 (schedW (tb blkB2) 9) + schedW (tb blkB2) 8 = _
  rw [schB2_22, schB2_17, schB2_9, schB2_8]; kernel_rfl
theorem schB2_25 : schedW (tb blkB2) 25 = 2965978720#32 := by
  rw [schedW_high (tb blkB2) (by omega)]
  show sig1 (schedW (tb blkB2) 23) + schedW (tb blkB2) 18 + sig0 (schedW (tb blkB2) 10) + schedW (tb blkB2) 9 = _
  rw [schB2_23, schB2_18, schB2_10, schB2_9]; kernel_rfl
theorem schB2_26 : schedW (tb blkB2) 26 = 4056406326#32 := by
  rw [schedW_high (tb blkB2) (by omega)]
  show sig1 (schedW (tb blkB2) 24) + schedW (tb blkB2) 19 + sig0 (schedW (tb blkB2) 11) + schedW (tb blkB2) 10 = _
  rw [schB2_24, schB2_19, schB2_11, schB2_10]; kernel_rfl
theorem schB2_27 : schedW (tb blkB2) 27 = 2217271324#32 := by
  rw [schedW_high (tb blkB2) (by omega)]
  show sig1 (schedW (tb blkB2) 25) + schedW (tb blkB2) 20 + sig0 (schedW (tb blkB2) 12) + schedW (tb blkB2) 11 = _
  rw [schB2_25, schB2_20, schB2_12, schB2_11]; kernel_rfl
theorem schB2_28 : schedW (tb blkB2) 28 = 825483011#32 := by
  rw [schedW_high (tb blkB2) (by omega)]
  show sig1 (schedW (tb blkB2) 26) + schedW (tb blkB2) 21 + sig0 (schedW (tb blkB2) 13) + schedW (tb blkB2) 12 = _
  rw [schB2_26, schB2_21, schB2_13, schB2_12]; kernel_rfl
theorem schB2_29 : schedW (tb blkB2) 29 = 2850539048#32 := by
  rw [schedW_high (tb blkB2) (by omega)]
  show sig1 (schedW (tb blkB2) 27) + schedW (tb blkB2) 22 + sig0 (schedW (tb blkB2) 14) + schedW (tb blkB2) 13 = _
  rw [schB2_27, schB2_22, schB2_14, schB2_13]; kernel_rfl
theorem schB2_30 : schedW (tb blkB2) 30 = 3211247827#32 := by
  rw [schedW_high (tb blkB2) (by omega)]
  show sig1 (schedW (tb blkB2) 28) + schedW (tb blkB2) 23 + sig0 (schedW (tb blkB2) 15) + schedW (tb blkB2) 14 = _
  rw [schB2_28, schB2_23, schB2_15, schB2_14]; kernel_rfl
theorem schB2_31 : schedW (tb blkB2) 31 = 3640817521#32 := by
  rw [schedW_high (tb blkB2) (by omega)]
  show sig1 (schedW (tb blkB2) 29) + schedW (tb blkB2) 24 + sig0 (schedW (tb blkB2) 16) + schedW (tb blkB2) 15 = _
  rw [schB2_29, schB2_24, schB2_16, schB2_15]; kernel_rfl
theorem schB2_32 : schedW (tb blkB2) 32 = 4209793765#32 := by
  rw [schedW_high (tb blkB2) (by omega)]
  show sig1 (schedW (tb blkB2) 30) + schedW (tb blkB2) 25 + sig0 (schedW (tb blkB2) 17) + schedW (tb blkB2) 16 = _
  rw [schB2_30, schB2_25, schB2_17, schB2_16]; kernel_rfl
theorem schB2_33 : schedW (tb blkB2) 33 = 260399163#32 := by
  rw [schedW_high (tb blkB2) (by omega)]
  show sig1 (schedW (tb blkB2) 31) + schedW (tb blkB2) 26 + sig0 (schedW (tb blkB2) 18) + schedW (tb blkB2) 17 = _
  rw [schB2_31, schB2_26, schB2_18, schB2_17]; kernel_rfl
theorem schB2_34 : schedW (tb blkB2) 34 = 165194570#32 := by
  rw [schedW_high (tb blkB2) (by omega)]
  show sig1 (schedW (tb blkB2) 32) + schedW (tb blkB2) 27 + sig0 (schedW (tb blkB2) 19) + schedW (tb blkB2) 18 = _
  rw [schB2_32, schB2_27, schB2_19, schB2_18]; kernel_rfl
theorem schB2_35 : schedW (tb blkB2) 35 = 3750768911#32 := by
  rw [schedW_high (tb blkB2) (by omega)]
  show sig1 (schedW (tb blkB2) 33) + schedW (tb blkB2) 28 + sig0 (schedW (tb blkB2) 20) + schedW (tb blkB2) 19 = _
  rw [schB2_33, schB2_28, schB2_20, schB2_19]; kernel_rfl
theorem schB2_36 : schedW (tb blkB2) 36 = 3841917096#32 := by
  rw [schedW_high (tb blkB2) (by omega)]
  show sig1 (schedW (tb blkB2) 34) + schedW (tb blkB2) 29 + sig0 (schedW (tb blkB2) 21) + schedW (tb blkB2) 20 = _
  rw [schB2_34, schB2_29, schB2_21, schB2_20]; kernel_rfl
theorem schB2_37 : schedW (tb blkB2) 37 = 977248250#32 := by
  rw [schedW_high (tb blkB2) (by omega)]
  show sig1 (schedW (tb blkB2) 35) + schedW (tb blkB2) 30 + sig0 (schedW (tb blkB2) 22) + schedW (tb blkB2) 21 = _
  rw [schB2_35, schB2_30, schB2_22, schB2_21]; kernel_rfl
theorem schB2_38 : schedW (tb blkB2) 38 = 1648760159#32 := by
  rw [schedW_high (tb blkB2) (by omega)]
  show sig1 (schedW (tb blkB2) 36) + schedW (tb blkB2) 31 + sig0 (schedW (tb blkB2) 23) + schedW (tb blkB2) 22 = _
  rw [schB2_36, schB2_31, schB2_23, schB2_22]; kernel_rfl
theorem schB2_39 : schedW (tb blkB2) 39 = 506287495#32 := by
  rw [schedW_high (tb blkB2) (by omega)]
  show sig1 (schedW (tb blkB2) 37) + schedW (tb blkB2) 32 + sig0 (schedW (tb blkB2) 24) + schedW (tb blkB2) 23 = _
  rw [schB2_37, schB2_32, schB2_24, schB2_23]; kernel_rfl
theorem schB2_40 : schedW (tb blkB2) 40 = 376435452#32 := by
  rw [schedW_high (tb blkB2) (by omega)]
  show sig1 (schedW (tb blkB2) 38) + schedW (tb blkB2) 33 + sig0 (schedW (tb blkB2) 25) + schedW (tb blkB2) 24 = _
  rw [schB2_38, schB2_33, schB2_25, schB2_24]; kernel_rfl
theorem schB2_41 : schedW (tb blkB2) 41 = 1085118997#32 := by
  rw [schedW_high (tb blkB2) (by omega)]
  show sig1 (schedW (tb blkB2) 39) + schedW (tb blkB2) 34 + sig0 (schedW (tb blkB2) 26) + schedW (tb blkB2) 25 = _
  rw [schB2_39, schB2_34, schB2_26, schB2_25]; kernel_rfl
theorem schB2_42 : schedW (tb blkB2) 42 = 3926296852#32 := by
  rw [schedW_high (tb blkB2) (by omega)]
  show sig1 (schedW (tb blkB2) 40) + schedW (tb blkB2) 35 + sig0 (schedW (tb blkB2) 27) + schedW (tb blkB2) 26 = _
  rw [schB2_40, schB2_35, schB2_27, schB2_26]; kernel_rfl
theorem schB2_43 : schedW (tb blkB2) 43 = 3741635579#32 := by
  rw [schedW_high (tb blkB2) (by omega)]
  show sig1 (schedW (tb blkB2) 41) + schedW (tb blkB2) 36 + sig0 (schedW (tb blkB2) 28) + schedW (tb blkB2) 27 = _
  rw [schB2_41, schB2_36, schB2_28, schB2_27]; kernel_rfl
theorem schB2_44 : schedW (tb blkB2) 44 = 3068855822#32 := by
  rw [schedW_high (tb blkB2) (by omega)]
  show sig1 (schedW (tb blkB2) 42) + schedW (tb blkB2) 37 + sig0 (schedW (tb blkB2) 29) + schedW (tb blkB2) 28 = _
  rw [schB2_42, schB2_37, schB2_29, schB2_28]; kernel_rfl
theorem schB2_45 : schedW (tb blkB2) 45 = 1082788127#32 := by
  rw [schedW_high (tb blkB2) (by omega)]
  show sig1 (schedW (tb blkB2) 43) + schedW (tb blkB2) 38 + sig0 (schedW (tb blkB2) 30) + schedW (tb blkB2) 29 = _
  rw [schB2_43, schB2_38, schB2_30, schB2_29]; kernel_rfl
theorem schB2_46 : schedW (tb blkB2) 46 = 651069955#32 := by
  rw [schedW_high (tb blkB2) (by omega)]
  show sig1 (schedW (tb blkB2) 44) + schedW (tb blkB2) 39 + sig0 (schedW (tb blkB2) 31) + schedW (tb blkB2) 30 = _
  rw [schB2_44, schB2_39, schB2_31, schB2_30]; kernel_rfl
theorem schB2_47 : schedW (tb blkB2) 47 = 4148167317#32 := by
  rw [schedW_high (tb blkB2) (by omega)]
  show sig1 (schedW (tb blkB2) 45) + schedW (tb blkB2) 40 + sig0 (schedW (tb blkB2) 32) + schedW (tb blkB2) 31 = _
  rw [schB2_45, schB2_40, schB2_32, schB2_31]; kernel_rfl
theorem schB2_48 : schedW (tb blkB2) 48 = 4291010108#32 := by
  rw [schedW_high (tb blkB2) (by omega)]
  show sig1 (schedW (tb blkB2) 46) + schedW (tb blkB2) 41 + sig0 (schedW (tb blkB2) 33) + schedW (tb blkB2) 32 = _
  rw [schB2_46, schB2_41, schB2_33, schB2_32]; kernel_rfl
theorem schB2_49 : schedW (tb blkB2) 49 = 3131811040#32 := by
  rw [schedW_high (tb blkB2) (by omega)]
  show sig1 (schedW (tb blkB2) 47) + schedW (tb blkB2) 42 + sig0 (schedW (tb blkB2) 34) + schedW (tb blkB2) 33 = _
  rw [schB2_47, schB2_42, schB2_34, schB2_33]; kernel_rfl
theorem schB2_50 : schedW (tb blkB2) 50 = 2916245994#32 := by
  rw [schedW_high (tb blkB2) (by omega)]
  show sig1 (schedW (tb blkB2) 48) + schedW (tb blkB2) 43 + sig0 (schedW (tb blkB2) 35) + schedW (tb blkB2) 34 = _
  rw [schB2_48, schB2_43, schB2_35, schB2_34]; kernel_rfl
theorem schB2_51 : schedW (tb blkB2) 51 = 3401203505#32 := by
  rw [schedW_high (tb blkB2) (by omega)]
  show sig1 (schedW (tb blkB2) 49) + schedW (tb blkB2) 44 + sig0 (schedW (tb blkB2) 36) + schedW (tb blkB2) 35 = _
  rw [schB2_49, schB2_44, schB2_36, schB2_35]; kernel_rfl
theorem schB2_52 : schedW (tb blkB2) 52 = 3073999841#32 := by
  rw [schedW_high (tb blkB2) (by omega)]
  show sig1 (schedW (tb blkB2) 50) + schedW (tb blkB2) 45 + sig0 (schedW (tb blkB2) 37) + schedW (tb blkB2) 36 = _
  rw [schB2_50, schB2_45, schB2_37, schB2_36]; kernel_rfl
theorem schB2_53 : schedW (tb blkB2) 53 = 4046860946#32 := by
  rw [schedW_high (tb blkB2) (by omega)]
  show sig1 (schedW (tb blkB2) 51) + schedW (tb blkB2) 46 + sig0 (schedW (tb blkB2) 38) + schedW (tb blkB2) 37 = _
  rw [schB2_51, schB2_46, schB2_38, schB2_37]; kernel_rfl
theorem schB2_54 : schedW (tb blkB2) 54 = 2747232927#32 := by
  rw [schedW_high (tb blkB2) (by omega)]
  show sig1 (schedW (tb blkB2) 52) + schedW (tb blkB2) 47 + sig0 (schedW (tb blkB2) 39) + schedW (tb blkB2) 38 = _
  rw [schB2_52, schB2_47, schB2_39, schB2_38]; kernel_rfl
theorem schB2_55 : schedW (tb blkB2) 55 = 58098453#32 := by
  rw [schedW_high (tb blkB2) (by omega)]
  show sig1 (schedW (tb blkB2) 53) + schedW (tb blkB2) 48 + sig0 (schedW (tb blkB2) 40) + schedW (tb blkB2) 39 = _
  rw [schB2_53, schB2_48, schB2_40, schB2_39]; kernel_rfl
theorem schB2_56 : schedW (tb blkB2) 56 = 1818368685#32 := by
  rw [schedW_high (tb blkB2) (by omega)]
  show sig1 (schedW (tb blkB2) 54) + schedW (tb blkB2) 49 + sig0 (schedW (tb blkB2) 41) + schedW (tb blkB2) 40 = _
  rw [schB2_54, schB2_49, schB2_41, schB2_40]; kernel_rfl
theorem schB2_57 : schedW (tb blkB2) 57 = 389734181#32 := by
  rw [schedW_high (tb blkB2) (by omega)]
  show sig1 (schedW (tb blkB2) 55) + schedW (tb blkB2) 50 + sig0 (schedW (tb blkB2) 42) + schedW (tb blkB2) 41 = _
  rw [schB2_55, schB2_50, schB2_42, schB2_41]; kernel_rfl
theorem schB2_58 : schedW (tb blkB2) 58 = 3682152345#32 := by
  rw [schedW_high (tb blkB2) (by omega)]
  show sig1 (schedW (tb blkB2) 56) + schedW (tb blkB2) 51 + sig0 (schedW (tb blkB2) 43) + schedW (tb blkB2) 42 = _
  rw [schB2_56, schB2_51, schB2_43, schB2_42]; kernel_rfl
theorem schB2_59 : schedW (tb blkB2) 59 = 2498059040#32 := by
  rw [schedW_high (tb blkB2) (by omega)]
  show sig1 (schedW (tb blkB2) 57) + schedW (tb blkB2) 52 + sig0 (schedW (tb blkB2) 44) + schedW (tb blkB2) 43 = _
  rw [schB2_57, schB2_52, schB2_44, schB2_43]; kernel_rfl
theorem schB2_60 : schedW (tb blkB2) 60 = 251774539#32 := by
  rw [schedW_high (tb blkB2) (by omega)]
  show sig1 (schedW (tb blkB2) 58) + schedW (tb blkB2) 53 + sig0 (schedW (tb blkB2) 45) + schedW (tb blkB2) 44 = _
  rw [schB2_58, schB2_53, schB2_45, schB2_44]; kernel_rfl
theorem schB2_61 : schedW (tb blkB2) 61 = 2335138653#32 := by
  rw [schedW_high (tb blkB2) (by omega)]
  show sig1 (schedW (tb blkB2) 59) + schedW (tb blkB2) 54 + sig0 (schedW (tb blkB2) 46) + schedW (tb blkB2) 45 = _
  rw [schB2_59, schB2_54, schB2_46, schB2_45]; kernel_rfl
theorem schB2_62 : schedW (tb blkB2) 62 = 1004023984#32 := by
  rw [schedW_high (tb blkB2) (by omega)]
  show sig1 (schedW (tb blkB2) 60) + schedW (tb blkB2) 55 + sig0 (schedW (tb blkB2) 47) + schedW (tb blkB2) 46 = _
  rw [schB2_60, schB2_55, schB2_47, schB2_46]; kernel_rfl
theorem schB2_63 : schedW (tb blkB2) 63 = 1125295991#32 := by
  rw [schedW_high (tb blkB2) (by omega)]
  show sig1 (schedW (tb blkB2) 61) + schedW (tb blkB2) 56 + sig0 (schedW (tb blkB2) 48) + schedW (tb blkB2) 47 = _
  rw [schB2_61, schB2_56, schB2_48, schB2_47]; kernel_rfl
theorem stB2_0 : W8.steps kW (schedW (tb blkB2)) ⟨2791585546#32, 2637598941#32, 4097995476#32, 3126135246#32, 2482301215#32, 1436787880#32, 1493466158#32, 3273425748#32⟩ 0 = ⟨2791585546#32, 2637598941#32, 4097995476#32, 3126135246#32, 2482301215#32, 1436787880#32, 1493466158#32, 3273425748#32⟩ := rfl
theorem stB2_1 : W8.steps kW (schedW (tb blkB2)) ⟨2791585546#32, 2637598941#32, 4097995476#32, 3126135246#32, 2482301215#32, 1436787880#32, 1493466158#32, 3273425748#32⟩ 1 = ⟨1017569486#32, 2791585546#32, 2637598941#32, 4097995476#32, 3246760774#32, 2482301215#32, 1436787880#32, 1493466158#32⟩ := by
  show (W8.steps kW (schedW (tb blkB2)) ⟨2791585546#32, 2637598941#32, 4097995476#32, 3126135246#32, 2482301215#32, 1436787880#32, 1493466158#32, 3273425748#32⟩ 0).step (kW 0) (schedW (tb blkB2) 0) = _
  rw [stB2_0, schB2_0]; kernel_rfl
theorem stB2_2 : W8.steps kW (schedW (tb blkB2)) ⟨2791585546#32, 2637598941#32, 4097995476#32, 3126135246#32, 2482301215#32, 1436787880#32, 1493466158#32, 3273425748#32⟩ 2 = ⟨1281831869#32, 1017569486#32, 2791585546#32, 2637598941#32, 1906806733#32, 3246760774#32, 2482301215#32, 1436787880#32⟩ := by
  show (W8.steps kW (schedW (tb blkB2)) ⟨2791585546#32, 2637598941#32, 4097995476#32, 3126135246#32, 2482301215#32, 1436787880#32, 1493466158#32, 3273425748#32⟩ 1).step (kW 1) (schedW (tb blkB2) 1) = _
  rw [stB2_1, schB2_1]; kernel_rfl
theorem stB2_3 : W8.steps kW (schedW (tb blkB2)) ⟨2791585546#32, 2637598941#32, 4097995476#32, 3126135246#32, 2482301215#32, 1436787880#32, 1493466158#32, 3273425748#32⟩ 3 = ⟨2381368097#32, 1281831869#32, 1017569486#32, 2791585546#32, 2894318985#32, 1906806733#32, 3246760774#32, 2482301215#32⟩ := by
  show (W8.steps kW (schedW (tb blkB2)) ⟨2791585546#32, 2637598941#32, 4097995476#32, 3126135246#32, 2482301215#32, 1436787880#32, 1493466158#32, 3273425748#32⟩ 2).step (kW 2) (schedW (tb blkB2) 2) = _
  rw [stB2_2, schB2_2]; kernel_rfl
theorem stB2_4 : W8.steps kW (schedW (tb blkB2)) ⟨2791585546#32, 2637598941#32, 4097995476#32, 3126135246#32, 2482301215#32, 1436787880#32, 1493466158#32, 3273425748#32⟩ 4 = ⟨558236530#32, 2381368097#32, 1281831869#32, 1017569486#32, 3244718934#32, 2894318985#32, 1906806733#32, 3246760774#32⟩ := by
  show (W8.steps kW (schedW (tb blkB2)) ⟨2791585546#32, 2637598941#32, 4097995476#32, 3126135246#32, 2482301215#32, 1436787880#32, 1493466158#32, 3273425748#32⟩ 3).step (kW 3) (schedW (tb blkB2) 3) = _
  rw [stB2_3, schB2_3]; kernel_rfl
theorem stB2_5 : W8.steps kW (schedW (tb blkB2)) ⟨2791585546#32, 2637598941#32, 4097995476#32, 3126135246#32, 2482301215#32, 1436787880#32, 1493466158#32, 3273425748#32⟩ 5 = ⟨820090631#32, 558236530#32, 2381368097#32, 1281831869#32, 3562353211#32, 3244718934#32, 2894318985#32, 1906806733#32⟩ := by
  show (W8.steps kW (schedW (tb blkB2)) ⟨2791585546#32, 2637598941#32, 4097995476#32, 3126135246#32, 2482301215#32, 1436787880#32, 1493466158#32, 3273425748#32⟩ 4).step (kW 4) (schedW (tb blkB2) 4) = _
  rw [stB2_4, schB2_4]; kernel_rfl
theorem stB2_6 : W8.steps kW (schedW (tb blkB2)) ⟨2791585546#32, 2637598941#32, 4097995476#32, 3126135246#32, 2482301215#32, 1436787880#32, 1493466158#32, 3273425748#32⟩ 6 = ⟨3411076613#32, 820090631#32, 558236530#32, 2381368097#32, 58300561#32, 3562353211#32, 3244718934#32, 2894318985#32⟩ := by
  show (W8.steps kW (schedW (tb blkB2)) ⟨2791585546#32, 2637598941#32, 4097995476#32, 3126135246#32, 2482301215#32, 1436787880#32, 1493466158#32, 3273425748#32⟩ 5).step (kW 5) (schedW (tb blkB2) 5) = _
  rw [stB2_5, schB2_5]; kernel_rfl
theorem stB2_7 : W8.steps kW (schedW (tb blkB2)) ⟨2791585546#32, 2637598941#32, 4097995476#32, 3126135246#32, 2482301215#32, 1436787880#32, 1493466158#32, 3273425748#32⟩ 7 = ⟨211779718#32, 3411076613#32, 820090631#32, 558236530#32, 2012041333#32, 58300561#32, 3562353211#32, 3244718934#32⟩ := by
  show (W8.steps kW (schedW (tb blkB2)) ⟨2791585546#32, 2637598941#32, 4097995476#32, 3126135246#32, 2482301215#32, 1436787880#32, 1493466158#32, 3273425748#32⟩ 6).step (kW 6) (schedW (tb blkB2) 6) = _
  rw [stB2_6, schB2_6]; kernel_rfl
theorem stB2_8 : W8.steps kW (schedW (tb blkB2)) ⟨2791585546#32, 2637598941#32, 4097995476#32, 3126135246#32, 2482301215#32, 1436787880#32, 1493466158#32, 3273425748#32⟩ 8 = ⟨532455820#32, 211779718#32, 3411076613#32, 820090631#32, 1058767368#32, 2012041333#32, 58300561#32, 3562353211#32⟩ := by
  show (W8.steps kW (schedW (tb blkB2)) ⟨2791585546#32, 2637598941#32, 4097995476#32, 3126135246#32, 2482301215#32, 1436787880#32, 1493466158#32, 3273425748#32⟩ 7).step (kW 7) (schedW (tb blkB2) 7) = _
  rw [stB2_7, schB2_7]; kernel_rfl
theorem stB2_9 : W8.steps kW (schedW (tb blkB2)) ⟨2791585546#32, 2637598941#32, 4097995476#32, 3126135246#32, 2482301215#32, 1436787880#32, 1493466158#32, 3273425748#32⟩ 9 = ⟨3634824519#32, 532455820#32, 211779718#32, 3411076613#32, 14816722#32, 1058767368#32, 2012041333#32, 58300561#32⟩ := by
  show (W8.steps kW (schedW (tb blkB2)) ⟨2791585546#32, 2637598941#32, 4097995476#32, 3126135246#32, 2482301215#32, 1436787880#32, 1493466158#32, 3273425748#32⟩ 8).step (kW 8) (schedW (tb blkB2) 8) = _
  rw [stB2_8, schB2_8]; kernel_rfl
theorem stB2_10 : W8.steps kW (schedW (tb blkB2)) ⟨2791585546#32, 2637598941#32, 4097995476#32, 3126135246#32, 2482301215#32, 1436787880#32, 1493466158#32, 3273425748#32⟩ 10 = ⟨1830243677#32, 3634824519#32, 532455820#32, 211779718#32, 3685127889#32, 14816722#32, 1058767368#32, 2012041333#32⟩ := by
  show (W8.steps kW (schedW (tb blkB2)) ⟨2791585546#32, 2637598941#32, 4097995476#32, 3126135246#32, 2482301215#32, 1436787880#32, 1493466158#32, 3273425748#32⟩ 9).step (kW 9) (schedW (tb blkB2) 9) = _
  rw [stB2_9, schB2_9]; kernel_rfl
theorem stB2_11 : W8.steps kW (schedW (tb blkB2)) ⟨2791585546#32, 2637598941#32, 4097995476#32, 3126135246#32, 2482301215#32, 1436787880#32, 1493466158#32, 3273425748#32⟩ 11 = ⟨3645588757#32, 1830243677#32, 3634824519#32, 532455820#32, 462942709#32, 3685127889#32, 14816722#32, 1058767368#32⟩ := by
  show (W8.steps kW (schedW (tb blkB2)) ⟨2791585546#32, 2637598941#32, 4097995476#32, 3126135246#32, 2482301215#32, 1436787880#32, 1493466158#32, 3273425748#32⟩ 10).step (kW 10) (schedW (tb blkB2) 10) = _
  rw [stB2_10, schB2_10]; kernel_rfl
theorem stB2_12 : W8.steps kW (schedW (tb blkB2)) ⟨2791585546#32, 2637598941#32, 4097995476#32, 3126135246#32, 2482301215#32, 1436787880#32, 1493466158#32, 3273425748#32⟩ 12 = ⟨506723873#32, 3645588757#32, 1830243677#32, 3634824519#32, 4043378142#32, 462942709#32, 3685127889#32, 14816722#32⟩ := by
  show (W8.steps kW (schedW (tb blkB2)) ⟨2791585546#32, 2637598941#32, 4097995476#32, 3126135246#32, 2482301215#32, 1436787880#32, 1493466158#32, 3273425748#32⟩ 11).step (kW 11) (schedW (tb blkB2) 11) = _
  rw [stB2_11, schB2_11]; kernel_rfl
theorem stB2_13 : W8.steps kW (schedW (tb blkB2)) ⟨2791585546#32, 2637598941#32, 4097995476#32, 3126135246#32, 2482301215#32, 1436787880#32, 1493466158#32, 3273425748#32⟩ 13 = ⟨2792663565#32, 506723873#32, 3645588757#32, 1830243677#32, 2827737040#32, 4043378142#32, 462942709#32, 3685127889#32⟩ := by
  show (W8.steps kW (schedW (tb blkB2)) ⟨2791585546#32, 2637598941#32, 4097995476#32, 3126135246#32, 2482301215#32, 1436787880#32, 1493466158#32, 3273425748#32⟩ 12).step (kW 12) (schedW (tb blkB2) 12) = _
  rw [stB2_12, schB2_12]; kernel_rfl
theorem stB2_14 : W8.steps kW (schedW (tb blkB2)) ⟨2791585546#32, 2637598941#32, 4097995476#32, 3126135246#32, 2482301215#32, 1436787880#32, 1493466158#32, 3273425748#32⟩ 14 = ⟨2529387257#32, 2792663565#32, 506723873#32, 3645588757#32, 2047775378#32, 2827737040#32, 4043378142#32, 462942709#32⟩ := by
  show (W8.steps kW (schedW (tb blkB2)) ⟨2791585546#32, 2637598941#32, 4097995476#32, 3126135246#32, 2482301215#32, 1436787880#32, 1493466158#32, 3273425748#32⟩ 13).step (kW 13) (schedW (tb blkB2) 13) = _
  rw [stB2_13, schB2_13]; kernel_rfl
theorem stB2_15 : W8.steps kW (schedW (tb blkB2)) ⟨2791585546#32, 2637598941#32, 4097995476#32, 3126135246#32, 2482301215#32, 1436787880#32, 1493466158#32, 3273425748#32⟩ 15 = ⟨2480488004#32, 2529387257#32, 2792663565#32, 506723873#32, 1454968882#32, 2047775378#32, 2827737040#32, 4043378142#32⟩ := by
  show (W8.steps kW (schedW (tb blkB2)) ⟨2791585546#32, 2637598941#32, 4097995476#32, 3126135246#32, 2482301215#32, 1436787880#32, 1493466158#32, 3273425748#32⟩ 14).step (kW 14) (schedW (tb blkB2) 14) = _
  rw [stB2_14, schB2_14]; kernel_rfl
theorem stB2_16 : W8.steps kW (schedW (tb blkB2)) ⟨2791585546#32, 2637598941#32, 4097995476#32, 3126135246#32, 2482301215#32, 1436787880#32, 1493466158#32, 3273425748#32⟩ 16 = ⟨2302472561#32, 2480488004#32, 2529387257#32, 2792663565#32, 1584661038#32, 1454968882#32, 2047775378#32, 2827737040#32⟩ := by
  show (W8.steps kW (schedW (tb blkB2)) ⟨2791585546#32, 2637598941#32, 4097995476#32, 3126135246#32, 2482301215#32, 1436787880#32, 1493466158#32, 3273425748#32⟩ 15).step (kW 15) (schedW (tb blkB2) 15) = _
  rw [stB2_15, schB2_15]; kernel_rfl
theorem stB2_17 : W8.steps kW (schedW (tb blkB2)) ⟨2791585546#32, 2637598941#32, 4097995476#32, 3126135246#32, 2482301215#32, 1436787880#32, 1493466158#32, 3273425748#32⟩ 17 = ⟨523201734#32, 2302472561#32, 2480488004#32, 2529387257#32, 398717123#32, 1584661038#32, 1454968882#32, 2047775378#32⟩ := by
  show (W8.steps kW (schedW (tb blkB2)) ⟨2791585546#32, 2637598941#32, 4097995476#32, 3126135246#32, 2482301215#32, 1436787880#32, 1493466158#32, 3273425748#32⟩ 16).step (kW 16) (schedW (tb blkB2) 16) = _
  rw [stB2_16, schB2_16]; kernel_rfl
theorem stB2_18 : W8.steps kW (schedW (tb blkB2)) ⟨2791585546#32, 2637598941#32, 4097995476#32, 3126135246#32, 2482301215#32, 1436787880#32, 1493466158#32, 3273425748#32⟩ 18 = ⟨677264250#32, 523201734#32, 2302472561#32, 2480488004#32, 3348883449#32, 398717123#32, 1584661038#32, 1454968882#32⟩ := by
  show (W8.steps kW (schedW (tb blkB2)) ⟨2791585546#32, 2637598941#32, 4097995476#32, 3126135246#32, 2482301215#32, 1436787880#32, 1493466158#32, 3273425748#32⟩ 17).step (kW 17) (schedW (tb blkB2) 17) = _
  rw [stB2_17, schB2_17]; kernel_rfl
theorem stB2_19 : W8.steps kW (schedW (tb blkB2)) ⟨2791585546#32, 2637598941#32, 4097995476#32, 3126135246#32, 2482301215#32, 1436787880#32, 1493466158#32, 3273425748#32⟩ 19 = ⟨4169797183#32, 677264250#32, 523201734#32, 2302472561#32, 1509535363#32, 3348883449#32, 398717123#32, 1584661038#32⟩ := by
  show (W8.steps kW (schedW (tb blkB2)) ⟨2791585546#32, 2637598941#32, 4097995476#32, 3126135246#32, 2482301215#32, 1436787880#32, 1493466158#32, 3273425748#32⟩ 18).step (kW 18) (schedW (tb blkB2) 18) = _
  rw [stB2_18, schB2_18]; kernel_rfl
theorem stB2_20 : W8.steps kW (schedW (tb blkB2)) ⟨2791585546#32, 2637598941#32, 4097995476#32, 3126135246#32, 2482301215#32, 1436787880#32, 1493466158#32, 3273425748#32⟩ 20 = ⟨2317899215#32, 4169797183#32, 677264250#32, 523201734#32, 863068293#32, 1509535363#32, 3348883449#32, 398717123#32⟩ := by
  show (W8.steps kW (schedW (tb blkB2)) ⟨2791585546#32, 2637598941#32, 4097995476#32, 3126135246#32, 2482301215#32, 1436787880#32, 1493466158#32, 3273425748#32⟩ 19).step (kW 19) (schedW (tb blkB2) 19) = _
  rw [stB2_19, schB2_19]; kernel_rfl
theorem stB2_21 : W8.steps kW (schedW (tb blkB2)) ⟨2791585546#32, 2637598941#32, 4097995476#32, 3126135246#32, 2482301215#32, 1436787880#32, 1493466158#32, 3273425748#32⟩ 21 = ⟨965258212#32, 2317899215#32, 4169797183#32, 677264250#32, 3272376082#32, 863068293#32, 1509535363#32, 3348883449#32⟩ := by
  show (W8.steps kW (schedW (tb blkB2)) ⟨2791585546#32, 2637598941#32, 4097995476#32, 3126135246#32, 2482301215#32, 1436787880#32, 1493466158#32, 3273425748#32⟩ 20).step (kW 20) (schedW (tb blkB2) 20) = _
  rw [stB2_20, schB2_20]; kernel_rfl
theorem stB2_22 : W8.steps kW (schedW (tb blkB2)) ⟨2791585546#32, 2637598941#32, 4097995476#32, 3126135246#32, 2482301215#32, 1436787880#32, 1493466158#32, 3273425748#32⟩ 22 = ⟨2744431701#32, 965258212#32, 2317899215#32, 4169797183#32, 2675861894#32, 3272376082#32, 863068293#32, 1509535363#32⟩ := by
  show (W8.steps kW (schedW (tb blkB2)) ⟨2791585546#32, 2637598941#32, 4097995476#32, 3126135246#32, 2482301215#32, 1436787880#32, 1493466158#32, 3273425748#32⟩ 21).step (kW 21) (schedW (tb blkB2) 21) = _
  rw [stB2_21, schB2_21]; kernel_rfl
theorem stB2_23 : W8.steps kW (schedW (tb blkB2)) ⟨2791585546#32, 2637598941#32, 4097995476#32, 3126135246#32, 2482301215#32, 1436787880#32, 1493466158#32, 3273425748#32⟩ 23 = ⟨1898946824#32, 2744431701#32, 965258212#32, 2317899215#32, 630690372#32, 2675861894#32, 3272376082#32, 863068293#32⟩ := by
  show (W8.steps kW (schedW (tb blkB2)) ⟨2791585546#32, 2637598941#32, 4097995476#32, 3126135246#32, 2482301215#32, 1436787880#32, 1493466158#32, 3273425748#32⟩ 22).step (kW 22) (schedW (tb blkB2) 22) = _
  rw [stB2_22, schB2_22]; kernel_rfl
theorem stB2_24 : W8.steps kW (schedW (tb blkB2)) ⟨2791585546#32, 2637598941#32, 4097995476#32, 3126135246#32, 2482301215#32, 1436787880#32, 1493466158#32, 3273425748#32⟩ 24 = ⟨3419411863#32, 1898946824#32, 2744431701#32, 965258212#32, 2044692775#32, 630690372#32, 2675861894#32, 3272376082#32⟩ := by
  show (W8.steps kW (schedW (tb blkB2)) ⟨2791585546#32, 2637598941#32, 4097995476#32, 3126135246#32, 2482301215#32, 1436787880#32, 1493466158#32, 3273425748#32⟩ 23).step (kW 23) (schedW (tb blkB2) 23) = _
  rw [stB2_23, schB2_23]; kernel_rfl
theorem stB2_25 : W8.steps kW (schedW (tb blkB2)) ⟨2791585546#32, 2637598941#32, 4097995476#32, 3126135246#32, 2482301215#32, 1436787880#32, 1493466158#32, 3273425748#32⟩ 25 = ⟨23948673#32, 3419411863#32, 1898946824#32, 2744431701#32, 960847750#32, 2044692775#32, 630690372#32, 2675861894#32⟩ := by
  show (W8.steps kW (schedW (tb blkB2)) ⟨2791585546#32, 2637598941#32, 4097995476#32, 3126135246#32, 2482301215#32, 1436787880#32, 1493466158#32, 3273425748#32⟩ 24).step (kW 24) (schedW (tb blkB2) 24) = _
  rw [stB2_24, schB2_24]; kernel_rfl
theorem stB2_26 : W8.steps kW (schedW (tb blkB2)) ⟨2791585546#32, 2637598941#32, 4097995476#32, 3126135246#32, 2482301215#32, 1436787880#32, 1493466158#32, 3273425748#32⟩ 26 = ⟨1546743793#32, 23948673#32, 3419411863#32, 1898946824#32, 611560119#32, 960847750#32, 2044692775#32, 630690372#32⟩ := by
  show (W8.steps kW (schedW (tb blkB2)) ⟨2791585546#32, 2637598941#32, 4097995476#32, 3126135246#32, 2482301215#32, 1436787880#32, 1493466158#32, 3273425748#32⟩ 25).step (kW 25) (schedW (tb blkB2) 25) = _
  rw [stB2_25, schB2_25]; kernel_rfl
theorem stB2_27 : W8.steps kW (schedW (tb blkB2)) ⟨2791585546#32, 2637598941#32, 4097995476#32, 3126135246#32, 2482301215#32, 1436787880#32, 1493466158#32, 3273425748#32⟩ 27 = ⟨729458349#32, 1546743793#32, 23948673#32, 3419411863#32, 1711233821#32, 611560119#32, 960847750#32, 2044692775#32⟩ := by
  show (W8.steps kW (schedW (tb blkB2)) ⟨2791585546#32, 2637598941#32, 4097995476#32, 3126135246#32, 2482301215#32, 1436787880#32, 1493466158#32, 3273425748#32⟩ 26).step (kW 26) (schedW (tb blkB2) 26) = _
  rw [stB2_26, schB2_26]; kernel_rfl
theorem stB2_28 : W8.steps kW (schedW (tb blkB2)) ⟨2791585546#32, 2637598941#32, 4097995476#32, 3126135246#32, 2482301215#32, 1436787880#32, 1493466158#32, 3273425748#32⟩ 28 = ⟨2182249034#32, 729458349#32, 1546743793#32, 23948673#32, 2939935085#32, 1711233821#32, 611560119#32, 960847750#32⟩ := by
  show (W8.steps kW (schedW (tb blkB2)) ⟨2791585546#32, 2637598941#32, 4097995476#32, 3126135246#32, 2482301215#32, 1436787880#32, 1493466158#32, 3273425748#32⟩ 27).step (kW 27) (schedW (tb blkB2) 27) = _
  rw [stB2_27, schB2_27]; kernel_rfl
theorem stB2_29 : W8.steps kW (schedW (tb blkB2)) ⟨2791585546#32, 2637598941#32, 4097995476#32, 3126135246#32, 2482301215#32, 1436787880#32, 1493466158#32, 3273425748#32⟩ 29 = ⟨2737215446#32, 2182249034#32, 729458349#32, 1546743793#32, 1596453477#32, 2939935085#32, 1711233821#32, 611560119#32⟩ := by
  show (W8.steps kW (schedW (tb blkB2)) ⟨2791585546#32, 2637598941#32, 4097995476#32, 3126135246#32, 2482301215#32, 1436787880#32, 1493466158#32, 3273425748#32⟩ 28).step (kW 28) (schedW (tb blkB2) 28) = _
  rw [stB2_28, schB2_28]; kernel_rfl
theorem stB2_30 : W8.steps kW (schedW (tb blkB2)) ⟨2791585546#32, 2637598941#32, 4097995476#32, 3126135246#32, 2482301215#32, 1436787880#32, 1493466158#32, 3273425748#32⟩ 30 = ⟨1300480598#32, 2737215446#32, 2182249034#32, 729458349#32, 2053018924#32, 1596453477#32, 2939935085#32, 1711233821#32⟩ := by
  show (W8.steps kW (schedW (tb blkB2)) ⟨2791585546#32, 2637598941#32, 4097995476#32, 3126135246#32, 2482301215#32, 1436787880#32, 1493466158#32, 3273425748#32⟩ 29).step (kW 29) (schedW (tb blkB2) 29) = _
  rw [stB2_29, schB2_29]; kernel_rfl
theorem stB2_31 : W8.steps kW (schedW (tb blkB2)) ⟨2791585546#32, 2637598941#32, 4097995476#32, 3126135246#32, 2482301215#32, 1436787880#32, 1493466158#32, 3273425748#32⟩ 31 = ⟨1482987380#32, 1300480598#32, 2737215446#32, 2182249034#32, 1912645134#32, 2053018924#32, 1596453477#32, 2939935085#32⟩ := by
  show (W8.steps kW (schedW (tb blkB2)) ⟨2791585546#32, 2637598941#32, 4097995476#32, 3126135246#32, 2482301215#32, 1436787880#32, 1493466158#32, 3273425748#32⟩ 30).step (kW 30) (schedW (tb blkB2) 30) = _
  rw [stB2_30, schB2_30]; kernel_rfl
theorem stB2_32 : W8.steps kW (schedW (tb blkB2)) ⟨2791585546#32, 2637598941#32, 4097995476#32, 3126135246#32, 2482301215#32, 1436787880#32, 1493466158#32, 3273425748#32⟩ 32 = ⟨2633065301#32, 1482987380#32, 1300480598#32, 2737215446#32, 2515996337#32, 1912645134#32, 2053018924#32, 1596453477#32⟩ := by
  show (W8.steps kW (schedW (tb blkB2)) ⟨2791585546#32, 2637598941#32, 4097995476#32, 3126135246#32, 2482301215#32, 1436787880#32, 1493466158#32, 3273425748#32⟩ 31).step (kW 31) (schedW (tb blkB2) 31) = _
  rw [stB2_31, schB2_31]; kernel_rfl
theorem stB2_33 : W8.steps kW (schedW (tb blkB2)) ⟨2791585546#32, 2637598941#32, 4097995476#32, 3126135246#32, 2482301215#32, 1436787880#32, 1493466158#32, 3273425748#32⟩ 33 = ⟨4239775085#32, 2633065301#32, 1482987380#32, 1300480598#32, 2329723074#32, 2515996337#32, 1912645134#32, 2053018924#32⟩ := by
  show (W8.steps kW (schedW (tb blkB2)) ⟨2791585546#32, 2637598941#32, 4097995476#32, 3126135246#32, 2482301215#32, 1436787880#32, 1493466158#32, 3273425748#32⟩ 32).step (kW 32) (schedW (tb blkB2) 32) = _
  rw [stB2_32, schB2_32]; kernel_rfl
theorem stB2_34 : W8.steps kW (schedW (tb blkB2)) ⟨2791585546#32, 2637598941#32, 4097995476#32, 3126135246#32, 2482301215#32, 1436787880#32, 1493466158#32, 3273425748#32⟩ 34 = ⟨83527045#32, 4239775085#32, 2633065301#32, 1482987380#32, 1920026975#32, 2329723074#32, 2515996337#32, 1912645134#32⟩ := by
  show (W8.steps kW (schedW (tb blkB2)) ⟨2791585546#32, 2637598941#32, 4097995476#32, 3126135246#32, 2482301215#32, 1436787880#32, 1493466158#32, 3273425748#32⟩ 33).step (kW 33) (schedW (tb blkB2) 33) = _
  rw [stB2_33, schB2_33]; kernel_rfl
theorem stB2_35 : W8.steps kW (schedW (tb blkB2)) ⟨2791585546#32, 2637598941#32, 4097995476#32, 3126135246#32, 2482301215#32, 1436787880#32, 1493466158#32, 3273425748#32⟩ 35 = ⟨3813769942#32, 83527045#32, 4239775085#32, 2633065301#32, 398705247#32, 1920026975#32, 2329723074#32, 2515996337#32⟩ := by
  show (W8.steps kW (schedW (tb blkB2)) ⟨2791585546#32, 2637598941#32, 4097995476#32, 3126135246#32, 2482301215#32, 1436787880#32, 1493466158#32, 3273425748#32⟩ 34).step (kW 34) (schedW (tb blkB2) 34) = _
  rw [stB2_34, schB2_34]; kernel_rfl
theorem stB2_36 : W8.steps kW (schedW (tb blkB2)) ⟨2791585546#32, 2637598941#32, 4097995476#32, 3126135246#32, 2482301215#32, 1436787880#32, 1493466158#32, 3273425748#32⟩ 36 = ⟨114495013#32, 3813769942#32, 83527045#32, 4239775085#32, 3597322753#32, 398705247#32, 1920026975#32, 2329723074#32⟩ := by
  show (W8.steps kW (schedW (tb blkB2)) ⟨2791585546#32, 2637598941#32, 4097995476#32, 3126135246#32, 2482301215#32, 1436787880#32, 1493466158#32, 3273425748#32⟩ 35).step (kW 35) (schedW (tb blkB2) 35) = _
  rw [stB2_35, schB2_35]; kernel_rfl
theorem stB2_37 : W8.steps kW (schedW (tb blkB2)) ⟨2791585546#32, 2637598941#32, 4097995476#32, 3126135246#32, 2482301215#32, 1436787880#32, 1493466158#32, 3273425748#32⟩ 37 = ⟨12076614#32, 114495013#32, 3813769942#32, 83527045#32, 2046178340#32, 3597322753#32, 398705247#32, 1920026975#32⟩ := by
  show (W8.steps kW (schedW (tb blkB2)) ⟨2791585546#32, 2637598941#32, 4097995476#32, 3126135246#32, 2482301215#32, 1436787880#32, 1493466158#32, 3273425748#32⟩ 36).step (kW 36) (schedW (tb blkB2) 36) = _
  rw [stB2_36, schB2_36]; kernel_rfl
theorem stB2_38 : W8.steps kW (schedW (tb blkB2)) ⟨2791585546#32, 2637598941#32, 4097995476#32, 3126135246#32, 2482301215#32, 1436787880#32, 1493466158#32, 3273425748#32⟩ 38 = ⟨3184114992#32, 12076614#32, 114495013#32, 3813769942#32, 1827418142#32, 2046178340#32, 3597322753#32, 398705247#32⟩ := by
  show (W8.steps kW (schedW (tb blkB2)) ⟨2791585546#32, 2637598941#32, 4097995476#32, 3126135246#32, 2482301215#32, 1436787880#32, 1493466158#32, 3273425748#32⟩ 37).step (kW 37) (schedW (tb blkB2) 37) = _
  rw [stB2_37, schB2_37]; kernel_rfl
theorem stB2_39 : W8.steps kW (schedW (tb blkB2)) ⟨2791585546#32, 2637598941#32, 4097995476#32, 3126135246#32, 2482301215#32, 1436787880#32, 1493466158#32, 3273425748#32⟩ 39 = ⟨3891662715#32, 3184114992#32, 12076614#32, 114495013#32, 3865788471#32, 1827418142#32, 2046178340#32, 3597322753#32⟩ := by
  show (W8.steps kW (schedW (tb blkB2)) ⟨2791585546#32, 2637598941#32, 4097995476#32, 3126135246#32, 2482301215#32, 1436787880#32, 1493466158#32, 3273425748#32⟩ 38).step (kW 38) (schedW (tb blkB2) 38) = _
  rw [stB2_38, schB2_38]; kernel_rfl
theorem stB2_40 : W8.steps kW (schedW (tb blkB2)) ⟨2791585546#32, 2637598941#32, 4097995476#32, 3126135246#32, 2482301215#32, 1436787880#32, 1493466158#32, 3273425748#32⟩ 40 = ⟨4058210081#32, 3891662715#32, 3184114992#32, 12076614#32, 4171172323#32, 3865788471#32, 1827418142#32, 2046178340#32⟩ := by
  show (W8.steps kW (schedW (tb blkB2)) ⟨2791585546#32, 2637598941#32, 4097995476#32, 3126135246#32, 2482301215#32, 1436787880#32, 1493466158#32, 3273425748#32⟩ 39).step (kW 39) (schedW (tb blkB2) 39) = _
  rw [stB2_39, schB2_39]; kernel_rfl
theorem stB2_41 : W8.steps kW (schedW (tb blkB2)) ⟨2791585546#32, 2637598941#32, 4097995476#32, 3126135246#32, 2482301215#32, 1436787880#32, 1493466158#32, 3273425748#32⟩ 41 = ⟨295296128#32, 4058210081#32, 3891662715#32, 3184114992#32, 342041728#32, 4171172323#32, 3865788471#32, 1827418142#32⟩ := by
  show (W8.steps kW (schedW (tb blkB2)) ⟨2791585546#32, 2637598941#32, 4097995476#32, 3126135246#32, 2482301215#32, 1436787880#32, 1493466158#32, 3273425748#32⟩ 40).step (kW 40) (schedW (tb blkB2) 40) = _
  rw [stB2_40, schB2_40]; kernel_rfl
theorem stB2_42 : W8.steps kW (schedW (tb blkB2)) ⟨2791585546#32, 2637598941#32, 4097995476#32, 3126135246#32, 2482301215#32, 1436787880#32, 1493466158#32, 3273425748#32⟩ 42 = ⟨1653148922#32, 295296128#32, 4058210081#32, 3891662715#32, 2806673249#32, 342041728#32, 4171172323#32, 3865788471#32⟩ := by
  show (W8.steps kW (schedW (tb blkB2)) ⟨2791585546#32, 2637598941#32, 4097995476#32, 3126135246#32, 2482301215#32, 1436787880#32, 1493466158#32, 3273425748#32⟩ 41).step (kW 41) (schedW (tb blkB2) 41) = _
  rw [stB2_41, schB2_41]; kernel_rfl
theorem stB2_43 : W8.steps kW (schedW (tb blkB2)) ⟨2791585546#32, 2637598941#32, 4097995476#32, 3126135246#32, 2482301215#32, 1436787880#32, 1493466158#32, 3273425748#32⟩ 43 = ⟨201262332#32, 1653148922#32, 295296128#32, 4058210081#32, 2804480219#32, 2806673249#32, 342041728#32, 4171172323#32⟩ := by
  show (W8.steps kW (schedW (tb blkB2)) ⟨2791585546#32, 2637598941#32, 4097995476#32, 3126135246#32, 2482301215#32, 1436787880#32, 1493466158#32, 3273425748#32⟩ 42).step (kW 42) (schedW (tb blkB2) 42) = _
  rw [stB2_42, schB2_42]; kernel_rfl
theorem stB2_44 : W8.steps kW (schedW (tb blkB2)) ⟨2791585546#32, 2637598941#32, 4097995476#32, 3126135246#32, 2482301215#32, 1436787880#32, 1493466158#32, 3273425748#32⟩ 44 = ⟨345326289#32, 201262332#32, 1653148922#32, 295296128#32, 701703698#32, 2804480219#32, 2806673249#32, 342041728#32⟩ := by
  show (W8.steps kW (schedW (tb blkB2)) ⟨2791585546#32, 2637598941#32, 4097995476#32, 3126135246#32, 2482301215#32, 1436787880#32, 1493466158#32, 3273425748#32⟩ 43).step (kW 43) (schedW (tb blkB2) 43) = _
  rw [stB2_43, schB2_43]; kernel_rfl
theorem stB2_45 : W8.steps kW (schedW (tb blkB2)) ⟨2791585546#32, 2637598941#32, 4097995476#32, 3126135246#32, 2482301215#32, 1436787880#32, 1493466158#32, 3273425748#32⟩ 45 = ⟨2963190086#32, 345326289#32, 201262332#32, 1653148922#32, 3103053954#32, 701703698#32, 2804480219#32, 2806673249#32⟩ := by
  show (W8.steps kW (schedW (tb blkB2)) ⟨2791585546#32, 2637598941#32, 4097995476#32, 3126135246#32, 2482301215#32, 1436787880#32, 1493466158#32, 3273425748#32⟩ 44).step (kW 44) (schedW (tb blkB2) 44) = _
  rw [stB2_44, schB2_44]; kernel_rfl
theorem stB2_46 : W8.steps kW (schedW (tb blkB2)) ⟨2791585546#32, 2637598941#32, 4097995476#32, 3126135246#32, 2482301215#32, 1436787880#32, 1493466158#32, 3273425748#32⟩ 46 = ⟨3163840222#32, 2963190086#32, 345326289#32, 201262332#32, 2980526238#32, 3103053954#32, 701703698#32, 2804480219#32⟩ := by
  show (W8.steps kW (schedW (tb blkB2)) ⟨2791585546#32, 2637598941#32, 4097995476#32, 3126135246#32, 2482301215#32, 1436787880#32, 1493466158#32, 3273425748#32⟩ 45).step (kW 45) (schedW (tb blkB2) 45) = _
  rw [stB2_45, schB2_45]; kernel_rfl
theorem stB2_47 : W8.steps kW (schedW (tb blkB2)) ⟨2791585546#32, 2637598941#32, 4097995476#32, 3126135246#32, 2482301215#32, 1436787880#32, 1493466158#32, 3273425748#32⟩ 47 = ⟨4073102079#32, 3163840222#32, 2963190086#32, 345326289#32, 1099285310#32, 2980526238#32, 3103053954#32, 701703698#32⟩ := by
  show (W8.steps kW (schedW (tb blkB2)) ⟨2791585546#32, 2637598941#32, 4097995476#32, 3126135246#32, 2482301215#32, 1436787880#32, 1493466158#32, 3273425748#32⟩ 46).step (kW 46) (schedW (tb blkB2) 46) = _
  rw [stB2_46, schB2_46]; kernel_rfl
theorem stB2_48 : W8.steps kW (schedW (tb blkB2)) ⟨2791585546#32, 2637598941#32, 4097995476#32, 3126135246#32, 2482301215#32, 1436787880#32, 1493466158#32, 3273425748#32⟩ 48 = ⟨694092903#32, 4073102079#32, 3163840222#32, 2963190086#32, 1547164954#32, 1099285310#32, 2980526238#32, 3103053954#32⟩ := by
  show (W8.steps kW (schedW (tb blkB2)) ⟨2791585546#32, 2637598941#32, 4097995476#32, 3126135246#32, 2482301215#32, 1436787880#32, 1493466158#32, 3273425748#32⟩ 47).step (kW 47) (schedW (tb blkB2) 47) = _
  rw [stB2_47, schB2_47]; kernel_rfl
theorem stB2_49 : W8.steps kW (schedW (tb blkB2)) ⟨2791585546#32, 2637598941#32, 4097995476#32, 3126135246#32, 2482301215#32, 1436787880#32, 1493466158#32, 3273425748#32⟩ 49 = ⟨3557696598#32, 694092903#32, 4073102079#32, 3163840222#32, 911712089#32, 1547164954#32, 1099285310#32, 2980526238#32⟩ := by
  show (W8.steps kW (schedW (tb blkB2)) ⟨2791585546#32, 2637598941#32, 4097995476#32, 3126135246#32, 2482301215#32, 1436787880#32, 1493466158#32, 3273425748#32⟩ 48).step (kW 48) (schedW (tb blkB2) 48) = _
  rw [stB2_48, schB2_48]; kernel_rfl
theorem stB2_50 : W8.steps kW (schedW (tb blkB2)) ⟨2791585546#32, 2637598941#32, 4097995476#32, 3126135246#32, 2482301215#32, 1436787880#32, 1493466158#32, 3273425748#32⟩ 50 = ⟨600102276#32, 3557696598#32, 694092903#32, 4073102079#32, 1088863671#32, 911712089#32, 1547164954#32, 1099285310#32⟩ := by
  show (W8.steps kW (schedW (tb blkB2)) ⟨2791585546#32, 2637598941#32, 4097995476#32, 3126135246#32, 2482301215#32, 1436787880#32, 1493466158#32, 3273425748#32⟩ 49).step (kW 49) (schedW (tb blkB2) 49) = _
  rw [stB2_49, schB2_49]; kernel_rfl
theorem stB2_51 : W8.steps kW (schedW (tb blkB2)) ⟨2791585546#32, 2637598941#32, 4097995476#32, 3126135246#32, 2482301215#32, 1436787880#32, 1493466158#32, 3273425748#32⟩ 51 = ⟨612505372#32, 600102276#32, 3557696598#32, 694092903#32, 1047818765#32, 1088863671#32, 911712089#32, 1547164954#32⟩ := by
  show (W8.steps kW (schedW (tb blkB2)) ⟨2791585546#32, 2637598941#32, 4097995476#32, 3126135246#32, 2482301215#32, 1436787880#32, 1493466158#32, 3273425748#32⟩ 50).step (kW 50) (schedW (tb blkB2) 50) = _
  rw [stB2_50, schB2_50]; kernel_rfl
theorem stB2_52 : W8.steps kW (schedW (tb blkB2)) ⟨2791585546#32, 2637598941#32, 4097995476#32, 3126135246#32, 2482301215#32, 1436787880#32, 1493466158#32, 3273425748#32⟩ 52 = ⟨2308281991#32, 612505372#32, 600102276#32, 3557696598#32, 3570447509#32, 1047818765#32, 1088863671#32, 911712089#32⟩ := by
  show (W8.steps kW (schedW (tb blkB2)) ⟨2791585546#32, 2637598941#32, 4097995476#32, 3126135246#32, 2482301215#32, 1436787880#32, 1493466158#32, 3273425748#32⟩ 51).step (kW 51) (schedW (tb blkB2) 51) = _
  rw [stB2_51, schB2_51]; kernel_rfl
theorem stB2_53 : W8.steps kW (schedW (tb blkB2)) ⟨2791585546#32, 2637598941#32, 4097995476#32, 3126135246#32, 2482301215#32, 1436787880#32, 1493466158#32, 3273425748#32⟩ 53 = ⟨173984241#32, 2308281991#32, 612505372#32, 600102276#32, 3169132440#32, 3570447509#32, 1047818765#32, 1088863671#32⟩ := by
  show (W8.steps kW (schedW (tb blkB2)) ⟨2791585546#32, 2637598941#32, 4097995476#32, 3126135246#32, 2482301215#32, 1436787880#32, 1493466158#32, 3273425748#32⟩ 52).step (kW 52) (schedW (tb blkB2) 52) = _
  rw [stB2_52, schB2_52]; kernel_rfl
theorem stB2_54 : W8.steps kW (schedW (tb blkB2)) ⟨2791585546#32, 2637598941#32, 4097995476#32, 3126135246#32, 2482301215#32, 1436787880#32, 1493466158#32, 3273425748#32⟩ 54 = ⟨2046857187#32, 173984241#32, 2308281991#32, 612505372#32, 519481647#32, 3169132440#32, 3570447509#32, 1047818765#32⟩ := by
  show (W8.steps kW (schedW (tb blkB2)) ⟨2791585546#32, 2637598941#32, 4097995476#32, 3126135246#32, 2482301215#32, 1436787880#32, 1493466158#32, 3273425748#32⟩ 53).step (kW 53) (schedW (tb blkB2) 53) = _
  rw [stB2_53, schB2_53]; kernel_rfl
theorem stB2_55 : W8.steps kW (schedW (tb blkB2)) ⟨2791585546#32, 2637598941#32, 4097995476#32, 3126135246#32, 2482301215#32, 1436787880#32, 1493466158#32, 3273425748#32⟩ 55 = ⟨2872733320#32, 2046857187#32, 173984241#32, 2308281991#32, 570652589#32, 519481647#32, 3169132440#32, 3570447509#32⟩ := by
  show (W8.steps kW (schedW (tb blkB2)) ⟨2791585546#32, 2637598941#32, 4097995476#32, 3126135246#32, 2482301215#32, 1436787880#32, 1493466158#32, 3273425748#32⟩ 54).step (kW 54) (schedW (tb blkB2) 54) = _
  rw [stB2_54, schB2_54]; kernel_rfl
theorem stB2_56 : W8.steps kW (schedW (tb blkB2)) ⟨2791585546#32, 2637598941#32, 4097995476#32, 3126135246#32, 2482301215#32, 1436787880#32, 1493466158#32, 3273425748#32⟩ 56 = ⟨20978873#32, 2872733320#32, 2046857187#32, 173984241#32, 2844328578#32, 570652589#32, 519481647#32, 3169132440#32⟩ := by
  show (W8.steps kW (schedW (tb blkB2)) ⟨2791585546#32, 2637598941#32, 4097995476#32, 3126135246#32, 2482301215#32, 1436787880#32, 1493466158#32, 3273425748#32⟩ 55).step (kW 55) (schedW (tb blkB2) 55) = _
  rw [stB2_55, schB2_55]; kernel_rfl
theorem stB2_57 : W8.steps kW (schedW (tb blkB2)) ⟨2791585546#32, 2637598941#32, 4097995476#32, 3126135246#32, 2482301215#32, 1436787880#32, 1493466158#32, 3273425748#32⟩ 57 = ⟨1135326514#32, 20978873#32, 2872733320#32, 2046857187#32, 2099218255#32, 2844328578#32, 570652589#32, 519481647#32⟩ := by
  show (W8.steps kW (schedW (tb blkB2)) ⟨2791585546#32, 2637598941#32, 4097995476#32, 3126135246#32, 2482301215#32, 1436787880#32, 1493466158#32, 3273425748#32⟩ 56).step (kW 56) (schedW (tb blkB2) 56) = _
  rw [stB2_56, schB2_56]; kernel_rfl
theorem stB2_58 : W8.steps kW (schedW (tb blkB2)) ⟨2791585546#32, 2637598941#32, 4097995476#32, 3126135246#32, 2482301215#32, 1436787880#32, 1493466158#32, 3273425748#32⟩ 58 = ⟨3499052687#32, 1135326514#32, 20978873#32, 2872733320#32, 2948163739#32, 2099218255#32, 2844328578#32, 570652589#32⟩ := by
  show (W8.steps kW (schedW (tb blkB2)) ⟨2791585546#32, 2637598941#32, 4097995476#32, 3126135246#32, 2482301215#32, 1436787880#32, 1493466158#32, 3273425748#32⟩ 57).step (kW 57) (schedW (tb blkB2) 57) = _
  rw [stB2_57, schB2_57]; kernel_rfl
theorem stB2_59 : W8.steps kW (schedW (tb blkB2)) ⟨2791585546#32, 2637598941#32, 4097995476#32, 3126135246#32, 2482301215#32, 1436787880#32, 1493466158#32, 3273425748#32⟩ 59 = ⟨1339033107#32, 3499052687#32, 1135326514#32, 20978873#32, 4229427013#32, 2948163739#32, 2099218255#32, 2844328578#32⟩ := by
  show (W8.steps kW (schedW (tb blkB2)) ⟨2791585546#32, 2637598941#32, 4097995476#32, 3126135246#32, 2482301215#32, 1436787880#32, 1493466158#32, 3273425748#32⟩ 58).step (kW 58) (schedW (tb blkB2) 58) = _
  rw [stB2_58, schB2_58]; kernel_rfl
theorem stB2_60 : W8.steps kW (schedW (tb blkB2)) ⟨2791585546#32, 2637598941#32, 4097995476#32, 3126135246#32, 2482301215#32, 1436787880#32, 1493466158#32, 3273425748#32⟩ 60 = ⟨1409843137#32, 1339033107#32, 3499052687#32, 1135326514#32, 1850172460#32, 4229427013#32, 2948163739#32, 2099218255#32⟩ := by
  show (W8.steps kW (schedW (tb blkB2)) ⟨2791585546#32, 2637598941#32, 4097995476#32, 3126135246#32, 2482301215#32, 1436787880#32, 1493466158#32, 3273425748#32⟩ 59).step (kW 59) (schedW (tb blkB2) 59) = _
  rw [stB2_59, schB2_59]; kernel_rfl
theorem stB2_61 : W8.steps kW (schedW (tb blkB2)) ⟨2791585546#32, 2637598941#32, 4097995476#32, 3126135246#32, 2482301215#32, 1436787880#32, 1493466158#32, 3273425748#32⟩ 61 = ⟨27690716#32, 1409843137#32, 1339033107#32, 3499052687#32, 1708274344#32, 1850172460#32, 4229427013#32, 2948163739#32⟩ := by
  show (W8.steps kW (schedW (tb blkB2)) ⟨2791585546#32, 2637598941#32, 4097995476#32, 3126135246#32, 2482301215#32, 1436787880#32, 1493466158#32, 3273425748#32⟩ 60).step (kW 60) (schedW (tb blkB2) 60) = _
  rw [stB2_60, schB2_60]; kernel_rfl
theorem stB2_62 : W8.steps kW (schedW (tb blkB2)) ⟨2791585546#32, 2637598941#32, 4097995476#32, 3126135246#32, 2482301215#32, 1436787880#32, 1493466158#32, 3273425748#32⟩ 62 = ⟨3944132708#32, 27690716#32, 1409843137#32, 1339033107#32, 3381861277#32, 1708274344#32, 1850172460#32, 4229427013#32⟩ := by
  show (W8.steps kW (schedW (tb blkB2)) ⟨2791585546#32, 2637598941#32, 4097995476#32, 3126135246#32, 2482301215#32, 1436787880#32, 1493466158#32, 3273425748#32⟩ 61).step (kW 61) (schedW (tb blkB2) 61) = _
  rw [stB2_61, schB2_61]; kernel_rfl
theorem stB2_63 : W8.steps kW (schedW (tb blkB2)) ⟨2791585546#32, 2637598941#32, 4097995476#32, 3126135246#32, 2482301215#32, 1436787880#32, 1493466158#32, 3273425748#32⟩ 63 = ⟨1341983041#32, 3944132708#32, 27690716#32, 1409843137#32, 2074276240#32, 3381861277#32, 1708274344#32, 1850172460#32⟩ := by
  show (W8.steps kW (schedW (tb blkB2)) ⟨2791585546#32, 2637598941#32, 4097995476#32, 3126135246#32, 2482301215#32, 1436787880#32, 1493466158#32, 3273425748#32⟩ 62).step (kW 62) (schedW (tb blkB2) 62) = _
  rw [stB2_62, schB2_62]; kernel_rfl
theorem stB2_64 : W8.steps kW (schedW (tb blkB2)) ⟨2791585546#32, 2637598941#32, 4097995476#32, 3126135246#32, 2482301215#32, 1436787880#32, 1493466158#32, 3273425748#32⟩ 64 = ⟨2713553085#32, 1341983041#32, 3944132708#32, 27690716#32, 3158265779#32, 2074276240#32, 3381861277#32, 1708274344#32⟩ := by
  show (W8.steps kW (schedW (tb blkB2)) ⟨2791585546#32, 2637598941#32, 4097995476#32, 3126135246#32, 2482301215#32, 1436787880#32, 1493466158#32, 3273425748#32⟩ 63).step (kW 63) (schedW (tb blkB2) 63) = _
  rw [stB2_63, schB2_63]; kernel_rfl
theorem turnB2 : W8.turn kW ⟨2791585546#32, 2637598941#32, 4097995476#32, 3126135246#32, 2482301215#32, 1436787880#32, 1493466158#32, 3273425748#32⟩ (tb blkB2) = ⟨1210171335#32, 3979581982#32, 3747160888#32, 3153825962#32, 1345599698#32, 3511064120#32, 580360139#32, 686732796#32⟩ := by
  unfold W8.turn
  rw [stB2_64]; kernel_rfl
def blkB3 : List Nat := [33, 233, 131, 90, 187, 250, 194, 31, 120, 202, 241, 177, 236, 84, 13, 206, 105, 201, 126, 73, 202, 242, 118, 181, 167, 221, 73, 157, 181, 177, 86, 24, 92, 92, 92, 92, 92, 92, 92, 92, 92, 92, 92, 92, 92, 92, 92, 92, 92, 92, 92, 92, 92, 92, 92, 92, 92, 92, 92, 92, 92, 92, 92, 92]
theorem schB3_0 : schedW (tb blkB3) 0 = 568951642#32 := by rw [schedW_low (tb blkB3) (by omega)]; kernel_rfl
theorem schB3_1 : schedW (tb blkB3) 1 = 3153773087#32 := by rw [schedW_low (tb blkB3) (by omega)]; kernel_rfl
theorem schB3_2 : schedW (tb blkB3) 2 = 2026566065#32 := by rw [schedW_low (tb blkB3) (by omega)]; kernel_rfl
theorem schB3_3 : schedW (tb blkB3) 3 = 3964931534#32 := by rw [schedW_low (tb blkB3) (by omega)]; kernel_rfl
theorem schB3_4 : schedW (tb blkB3) 4 = 1774812745#32 := by rw [schedW_low (tb blkB3) (by omega)]; kernel_rfl
theorem schB3_5 : schedW (tb blkB3) 5 = 3404887733#32 := by rw [schedW_low (tb blkB3) (by omega)]; kernel_rfl
theorem schB3_6 : schedW (tb blkB3) 6 = 2816297373#32 := by rw [schedW_low (tb blkB3) (by omega)]; kernel_rfl
theorem schB3_7 : schedW (tb blkB3) 7 = 3048298008#32 := by rw [schedW_low (tb blkB3) (by omega)]; kernel_rfl
theorem schB3_8 : schedW (tb blkB3) 8 = 1549556828#32 := by rw [schedW_low (tb blkB3) (by omega)]; kernel_rfl
theorem schB3_9 : schedW (tb blkB3) 9 = 1549556828#32 := by rw [schedW_low (tb blkB3) (by omega)]; kernel_rfl
theorem schB3_10 : schedW (tb blkB3) 10 = 1549556828#32 := by rw [schedW_low (tb blkB3) (by omega)]; kernel_rfl
theorem schB3_11 : schedW (tb blkB3) 11 = 1549556828#32 := by rw [schedW_low (tb blkB3) (by omega)]; kernel_rfl
theorem schB3_12 : schedW (tb blkB3) 12 = 1549556828#32 := by rw [schedW_low (tb blkB3) (by omega)]; kernel_rfl
theorem schB3_13 : schedW (tb blkB3) 13 = 1549556828#32 := by rw [schedW_low (tb blkB3) (by omega)]; kernel_rfl
theorem schB3_14 : schedW (tb blkB3) 14 = 1549556828#32 := by rw [schedW_low (tb blkB3) (by omega)]; kernel_rfl
theorem schB3_15 : schedW (tb blkB3) 15 = 1549556828#32 := by rw [schedW_low (tb blkB3) (by omega)]; kernel_rfl
theorem schB3_16 : schedW (tb blkB3) 16 = 3163018657#32 := by
  rw [schedW_high (tb blkB3) (by omega)]
  show sig1 (schedW (tb blkB3) 14) + schedW (tb blkB3) 9 + sig0 (schedW (tb blkB3) 1) + schedW (tb blkB3) 0 = _
  rw [schB3_14, schB3_9, schB3_1, schB3_0]; kernel_rfl
theorem schB3_17 : schedW (tb blkB3) 17 = 2408474388#32 := by
  rw [schedW_high (tb blkB3) (by omega)]
  show sig1 (schedW (tb blkB3) 15) + schedW (tb blkB3) 10 + sig0 (schedW (tb blkB3) 2) + schedW (tb blkB3) 1 = _
  rw [schB3_15, schB3_10, schB3_2, schB3_1]; kernel_rfl
theorem schB3_18 : schedW (tb blkB3) 18 = 1754573034#32 := by
  rw [schedW_high (tb blkB3) (by omega)]
  show sig1 (schedW (tb blkB3) 16) + schedW (tb blkB3) 11 + sig0 (schedW (tb blkB3) 3) + schedW (tb blkB3) 2 = _
  rw [schB3_16, schB3_11, schB3_3, schB3_2]; kernel_rfl
theorem schB3_19 : schedW (tb blkB3) 19 = 141854496#32 := by
  rw [schedW_high (tb blkB3) (by omega)]
  show sig1 (schedW (tb blkB3) 17) + schedW (tb blkB3) 12 + sig0 (schedW (tb blkB3) 4) + schedW (tb blkB3) 3 = _
  rw [schB3_17, schB3_12, schB3_4, schB3_3]; kernel_rfl
theorem schB3_20 : schedW (tb blkB3) 20 = 1996427166#32 := by
  rw [schedW_high (tb blkB3) (by omega)]
  show sig1 (schedW (tb blkB3) 18) + schedW (tb blkB3) 13 + sig0 (schedW (tb blkB3) 5) + schedW (tb blkB3) 4 = _
  rw [schB3_18, schB3_13, schB3_5, schB3_4]; kernel_rfl
theorem schB3_21 : schedW (tb blkB3) 21 = 2023253373#32 := by
  rw [schedW_high (tb blkB3) (by omega)]
  show sig1 (schedW (tb blkB3) 19) + schedW (tb blkB3) 14 + sig0 (schedW (tb blkB3) 6) + schedW (tb blkB3) 5 = _
  rw [schB3_19, schB3_14, schB3_6, schB3_5]; kernel_rfl
theorem schB3_22 : schedW (tb blkB3) 22 = 3702936927#32 := by
  rw [schedW_high (tb blkB3) (by omega)]
  show sig1 (schedW (tb blkB3) 20) + schedW (tb blkB3) 15 + sig0 (schedW (tb blkB3) 7) + schedW (tb blkB3) 6 = _
  rw [schB3_20, schB3_15, schB3_7, schB3_6]; kernel_rfl
theorem schB3_23 : schedW (tb blkB3) 23 = 1416398115#32 := by
  rw [schedW_high (tb blkB3) (by omega)]
  show sig1 (schedW (tb blkB3) 21) + schedW (tb blkB3) 16 + sig0 (schedW (tb blkB3) 8) + schedW (tb blkB3) 7 = _
  rw [schB3_21, schB3_16, schB3_8, schB3_7]; kernel_rfl
theorem schB3_24 : schedW (tb blkB3) 24 = 1883381740#32 := by
  rw [schedW_high (tb blkB3) (by omega)]
  show sig1 (schedW (tb blkB3) 22) + schedW (tb blkB3) 17 + sig0 (schedW (tb blkB3) 9) + schedW (tb blkB3) 8 = _
  rw [schB3_22, schB3_17, schB3_9, schB3_8]; kernel_rfl
theorem schB3_25 : schedW (tb blkB3) 25 = 993395972#32 := by
  rw [schedW_high (tb blkB3) (by omega)]
  show sig1 (schedW (tb blkB3) 23) + schedW (tb blkB3) 18 + sig0 (schedW (tb blkB3) 10) + schedW (tb blkB3) 9 = _
  rw [schB3_23, schB3_18, schB3_10, schB3_9]; kernel_rfl
theorem schB3_26 : schedW (tb blkB3) 26 = 1426894414#32 := by
  rw [schedW_high (tb blkB3) (by omega)]
  show sig1 (schedW (tb blkB3) 24) + schedW (tb blkB3) 19 + sig0 (schedW (tb blkB3) 11) + schedW (tb blkB3) 10 = _
  rw [schB3_24, schB3_19, schB3_11, schB3_10]; kernel_rfl
theorem schB3_27 : schedW (tb blkB3) 27 = 967567258#32 := by
  rw [schedW_high (tb blkB3) (by omega)]
  show sig1 (schedW (tb blkB3) 25) + schedW (tb blkB3) 20 + sig0 (schedW (tb blkB3) 12) + schedW (tb blkB3) 11 = _
  rw [schB3_25, schB3_20, schB3_12, schB3_11]; kernel_rfl
theorem schB3_28 : schedW (tb blkB3) 28 = 1007978761#32 := by
  rw [schedW_high (tb blkB3) (by omega)]
  show sig1 (schedW (tb blkB3) 26) + schedW (tb blkB3) 21 + sig0 (schedW (tb blkB3) 13) + schedW (tb blkB3) 12 = _
  rw [schB3_26, schB3_21, schB3_13, schB3_12]; kernel_rfl
theorem schB3_29 : schedW (tb blkB3) 29 = 1818691320#32 := by
  rw [schedW_high (tb blkB3) (by omega)]
  show sig1 (schedW (tb blkB3) 27) + schedW (tb blkB3) 22 + sig0 (schedW (tb blkB3) 14) + schedW (tb blkB3) 13 = _
  rw [schB3_27, schB3_22, schB3_14, schB3_13]; kernel_rfl
theorem schB3_30 : schedW (tb blkB3) 30 = 714588749#32 := by
  rw [schedW_high (tb blkB3) (by omega)]
  show sig1 (schedW (tb blkB3) 28) + schedW (tb blkB3) 23 + sig0 (schedW (tb blkB3) 15) + schedW (tb blkB3) 14 = _
  rw [schB3_28, schB3_23, schB3_15, schB3_14]; kernel_rfl
theorem schB3_31 : schedW (tb blkB3) 31 = 3520608516#32 := by
  rw [schedW_high (tb blkB3) (by omega)]
  show sig1 (schedW (tb blkB3) 29) + schedW (tb blkB3) 24 + sig0 (schedW (tb blkB3) 16) + schedW (tb blkB3) 15 = _
  rw [schB3_29, schB3_24, schB3_16, schB3_15]; kernel_rfl
theorem schB3_32 : schedW (tb blkB3) 32 = 2991547485#32 := by
  rw [schedW_high (tb blkB3) (by omega)]
  show sig1 (schedW (tb blkB3) 30) + schedW (tb blkB3) 25 + sig0 (schedW (tb blkB3) 17) + schedW (tb blkB3) 16 = _
  rw [schB3_30, schB3_25, schB3_17, schB3_16]; kernel_rfl
theorem schB3_33 : schedW (tb blkB3) 33 = 4096442532#32 := by
  rw [schedW_high (tb blkB3) (by omega)]
  show sig1 (schedW (tb blkB3) 31) + schedW (tb blkB3) 26 + sig0 (schedW (tb blkB3) 18) + schedW (tb blkB3) 17 = _
  rw [schB3_31, schB3_26, schB3_18, schB3_17]; kernel_rfl
theorem schB3_34 : schedW (tb blkB3) 34 = 1637943602#32 := by
  rw [schedW_high (tb blkB3) (by omega)]
  show sig1 (schedW (tb blkB3) 32) + schedW (tb blkB3) 27 + sig0 (schedW (tb blkB3) 19) + schedW (tb blkB3) 18 = _
  rw [schB3_32, schB3_27, schB3_19, schB3_18]; kernel_rfl
theorem schB3_35 : schedW (tb blkB3) 35 = 1859813532#32 := by
  rw [schedW_high (tb blkB3) (by omega)]
  show sig1 (schedW (tb blkB3) 33) + schedW (tb blkB3) 28 + sig0 (schedW (tb blkB3) 20) + schedW (tb blkB3) 19 = _
  rw [schB3_33, schB3_28, schB3_20, schB3_19]; kernel_rfl
theorem schB3_36 : schedW (tb blkB3) 36 = 1976208767#32 := by
  rw [schedW_high (tb blkB3) (by omega)]
  show sig1 (schedW (tb blkB3) 34) + schedW (tb blkB3) 29 + sig0 (schedW (tb blkB3) 21) + schedW (tb blkB3) 20 = _
  rw [schB3_34, schB3_29, schB3_21, schB3_20]; kernel_rfl
theorem schB3_37 : schedW (tb blkB3) 37 = 3840836876#32 := by
  rw [schedW_high (tb blkB3) (by omega)]
  show sig1 (schedW (tb blkB3) 35) + schedW (tb blkB3) 30 + sig0 (schedW (tb blkB3) 22) + schedW (tb blkB3) 21 = _
  rw [schB3_35, schB3_30, schB3_22, schB3_21]; kernel_rfl
theorem schB3_38 : schedW (tb blkB3) 38 = 856248855#32 := by
  rw [schedW_high (tb blkB3) (by omega)]
  show sig1 (schedW (tb blkB3) 36) + schedW (tb blkB3) 31 + sig0 (schedW (tb blkB3) 23) + schedW (tb blkB3) 22 = _
  rw [schB3_36, schB3_31, schB3_23, schB3_22]; kernel_rfl
theorem schB3_39 : schedW (tb blkB3) 39 = 3924728477#32 := by
  rw [schedW_high (tb blkB3) (by omega)]
  show sig1 (schedW (tb blkB3) 37) + schedW (tb blkB3) 32 + sig0 (schedW (tb blkB3) 24) + schedW (tb blkB3) 23 = _
  rw [schB3_37, schB3_32, schB3_24, schB3_23]; kernel_rfl
theorem schB3_40 : schedW (tb blkB3) 40 = 1979990184#32 := by
  rw [schedW_high (tb blkB3) (by omega)]
  show sig1 (schedW (tb blkB3) 38) + schedW (tb blkB3) 33 + sig0 (schedW (tb blkB3) 25) + schedW (tb blkB3) 24 = _
  rw [schB3_38, schB3_33, schB3_25, schB3_24]; kernel_rfl
theorem schB3_41 : schedW (tb blkB3) 41 = 4170603128#32 := by
  rw [schedW_high (tb blkB3) (by omega)]
  show sig1 (schedW (tb blkB3) 39) + schedW (tb blkB3) 34 + sig0 (schedW (tb blkB3) 26) + schedW (tb blkB3) 25 = _
  rw [schB3_39, schB3_34, schB3_26, schB3_25]; kernel_rfl
theorem schB3_42 : schedW (tb blkB3) 42 = 920946962#32 := by
  rw [schedW_high (tb blkB3) (by omega)]
  show sig1 (schedW (tb blkB3) 40) + schedW (tb blkB3) 35 + sig0 (schedW (tb blkB3) 27) + schedW (tb blkB3) 26 = _
  rw [schB3_40, schB3_35, schB3_27, schB3_26]; kernel_rfl
theorem schB3_43 : schedW (tb blkB3) 43 = 3447501598#32 := by
  rw [schedW_high (tb blkB3) (by omega)]
  show sig1 (schedW (tb blkB3) 41) + schedW (tb blkB3) 36 + sig0 (schedW (tb blkB3) 28) + schedW (tb blkB3) 27 = _
  rw [schB3_41, schB3_36, schB3_28, schB3_27]; kernel_rfl
theorem schB3_44 : schedW (tb blkB3) 44 = 865347692#32 := by
  rw [schedW_high (tb blkB3) (by omega)]
  show sig1 (schedW (tb blkB3) 42) + schedW (tb blkB3) 37 + sig0 (schedW (tb blkB3) 29) + schedW (tb blkB3) 28 = _
  rw [schB3_42, schB3_37, schB3_29, schB3_28]; kernel_rfl
theorem schB3_45 : schedW (tb blkB3) 45 = 3739539124#32 := by
  rw [schedW_high (tb blkB3) (by omega)]
  show sig1 (schedW (tb blkB3) 43) + schedW (tb blkB3) 38 + sig0 (schedW (tb blkB3) 30) + schedW (tb blkB3) 29 = _
  rw [schB3_43, schB3_38, schB3_30, schB3_29]; kernel_rfl
theorem schB3_46 : schedW (tb blkB3) 46 = 3281476288#32 := by
  rw [schedW_high (tb blkB3) (by omega)]
  show sig1 (schedW (tb blkB3) 44) + schedW (tb blkB3) 39 + sig0 (schedW (tb blkB3) 31) + schedW (tb blkB3) 30 = _
  rw [schB3_44, schB3_39, schB3_31, schB3_30]; kernel_rfl
theorem schB3_47 : schedW (tb blkB3) 47 = 2916214295#32 := by
  rw [schedW_high (tb blkB3) (by omega)]
  show sig1 (schedW (tb blkB3) 45) + schedW (tb blkB3) 40 + sig0 (schedW (tb blkB3) 32) + schedW (tb blkB3) 31 = _
  rw [schB3_45, schB3_40, schB3_32, schB3_31]; kernel_rfl
theorem schB3_48 : schedW (tb blkB3) 48 = 3627191267#32 := by
  rw [schedW_high (tb blkB3) (by omega)]
  show sig1 (schedW (tb blkB3) 46) + schedW (tb blkB3) 41 + sig0 (schedW (tb blkB3) 33) + schedW (tb blkB3) 32 = _
  rw [schB3_46, schB3_41, schB3_33, schB3_32]; kernel_rfl
theorem schB3_49 : schedW (tb blkB3) 49 = 632134717#32 := by
  rw [schedW_high (tb blkB3) (by omega)]
  show sig1 (schedW (tb blkB3) 47) + schedW (tb blkB3) 42 + sig0 (schedW (tb blkB3) 34) + schedW (tb blkB3) 33 = _
  rw [schB3_47, schB3_42, schB3_34, schB3_33]; kernel_rfl
theorem schB3_50 : schedW (tb blkB3) 50 = 3640350385#32 := by
  rw [schedW_high (tb blkB3) (by omega)]
  show sig1 (schedW (tb blkB3) 48) + schedW (tb blkB3) 43 + sig0 (schedW (tb blkB3) 35) + schedW (tb blkB3) 34 = _
  rw [schB3_48, schB3_43, schB3_35, schB3_34]; kernel_rfl
theorem schB3_51 : schedW (tb blkB3) 51 = 1930174419#32 := by
  rw [schedW_high (tb blkB3) (by omega)]
  show sig1 (schedW (tb blkB3) 49) + schedW (tb blkB3) 44 + sig0 (schedW (tb blkB3) 36) + schedW (tb blkB3) 35 = _
  rw [schB3_49, schB3_44, schB3_36, schB3_35]; kernel_rfl
theorem schB3_52 : schedW (tb blkB3) 52 = 3128918650#32 := by
  rw [schedW_high (tb blkB3) (by omega)]
  show sig1 (schedW (tb blkB3) 50) + schedW (tb blkB3) 45 + sig0 (schedW (tb blkB3) 37) + schedW (tb blkB3) 36 = _
  rw [schB3_50, schB3_45, schB3_37, schB3_36]; kernel_rfl
theorem schB3_53 : schedW (tb blkB3) 53 = 2971134160#32 := by
  rw [schedW_high (tb blkB3) (by omega)]
  show sig1 (schedW (tb blkB3) 51) + schedW (tb blkB3) 46 + sig0 (schedW (tb blkB3) 38) + schedW (tb blkB3) 37 = _
  rw [schB3_51, schB3_46, schB3_38, schB3_37]; kernel_rfl
theorem schB3_54 : schedW (tb blkB3) 54 = 2457944539#32 := by
  rw [schedW_high (tb blkB3) (by omega)]
  show sig1 (schedW (tb blkB3) 52) + schedW (tb blkB3) 47 + sig0 (schedW (tb blkB3) 39) + schedW (tb blkB3) 38 = _
  rw [schB3_52, schB3_47, schB3_39, schB3_38]; kernel_rfl
theorem schB3_55 : schedW (tb blkB3) 55 = 428199656#32 := by
  rw [schedW_high (tb blkB3) (by omega)]
  show sig1 (schedW (tb blkB3) 53) + schedW (tb blkB3) 48 + sig0 (schedW (tb blkB3) 40) + schedW (tb blkB3) 39 = _
  rw [schB3_53, schB3_48, schB3_40, schB3_39]; kernel_rfl
theorem schB3_56 : schedW (tb blkB3) 56 = 2636239363#32 := by
  rw [schedW_high (tb blkB3) (by omega)]
  show sig1 (schedW (tb blkB3) 54) + schedW (tb blkB3) 49 + sig0 (schedW (tb blkB3) 41) + schedW (tb blkB3) 40 = _
  rw [schB3_54, schB3_49, schB3_41, schB3_40]; kernel_rfl
theorem schB3_57 : schedW (tb blkB3) 57 = 825685299#32 := by
  rw [schedW_high (tb blkB3) (by omega)]
  show sig1 (schedW (tb blkB3) 55) + schedW (tb blkB3) 50 + sig0 (schedW (tb blkB3) 42) + schedW (tb blkB3) 41 = _
  rw [schB3_55, schB3_50, schB3_42, schB3_41]; kernel_rfl
theorem schB3_58 : schedW (tb blkB3) 58 = 2253027967#32 := by
  rw [schedW_high (tb blkB3) (by omega)]
  show sig1 (schedW (tb blkB3) 56) + schedW (tb blkB3) 51 + sig0 (schedW (tb blkB3) 43) + schedW (tb blkB3) 42 = _
  rw [schB3_56, schB3_51, schB3_43, schB3_42]; kernel_rfl
theorem schB3_59 : schedW (tb blkB3) 59 = 4098640#32 := by
  rw [schedW_high (tb blkB3) (by omega)]
  show sig1 (schedW (tb blkB3) 57) + schedW (tb blkB3) 52 + sig0 (schedW (tb blkB3) 44) + schedW (tb blkB3) 43 = _
  rw [schB3_57, schB3_52, schB3_44, schB3_43]; kernel_rfl
theorem schB3_60 : schedW (tb blkB3) 60 = 2664044400#32 := by
  rw [schedW_high (tb blkB3) (by omega)]
  show sig1 (schedW (tb blkB3) 58) + schedW (tb blkB3) 53 + sig0 (schedW (tb blkB3) 45) + schedW (tb blkB3) 44 = _
  rw [schB3_58, schB3_53, schB3_45, schB3_44]; kernel_rfl
theorem schB3_61 : schedW (tb blkB3) 61 = 1426988369#32 := by
  rw [schedW_high (tb blkB3) (by omega)]
  show sig1 (schedW (tb blkB3) 59) + schedW (tb blkB3) 54 + sig0 (schedW (tb blkB3) 46) + schedW (tb blkB3) 45 = _
  rw [schB3_59, schB3_54, schB3_46, schB3_45]; kernel_rfl
theorem schB3_62 : schedW (tb blkB3) 62 = 1777568859#32 := by
  rw [schedW_high (tb blkB3) (by omega)]
  show sig1 (schedW (tb blkB3) 60) + schedW (tb blkB3) 55 + sig0 (schedW (tb blkB3) 47) + schedW (tb blkB3) 46 = _
  rw [schB3_60, schB3_55, schB3_47, schB3_46]; kernel_rfl
theorem schB3_63 : schedW (tb blkB3) 63 = 2522496546#32 := by
  rw [schedW_high (tb blkB3) (by omega)]
  show sig1 (schedW (tb blkB3) 61) + schedW (tb blkB3) 56 + sig0 (schedW (tb blkB3) 48) + schedW (tb blkB3) 47 = _
  rw [schB3_61, schB3_56, schB3_48, schB3_47]; kernel_rfl
theorem stB3_0 : W8.steps kW (schedW (tb blkB3)) ⟨1779033703#32, 3144134277#32, 1013904242#32, 2773480762#32, 1359893119#32, 2600822924#32, 528734635#32, 1541459225#32⟩ 0 = ⟨1779033703#32, 3144134277#32, 1013904242#32, 2773480762#32, 1359893119#32, 2600822924#32, 528734635#32, 1541459225#32⟩ := rfl
theorem stB3_1 : W8.steps kW (schedW (tb blkB3)) ⟨1779033703#32, 3144134277#32, 1013904242#32, 2773480762#32, 1359893119#32, 2600822924#32, 528734635#32, 1541459225#32⟩ 1 = ⟨502401959#32, 1779033703#32, 3144134277#32, 1013904242#32, 3132188156#32, 1359893119#32, 2600822924#32, 528734635#32⟩ := by
  show (W8.steps kW (schedW (tb blkB3)) ⟨1779033703#32, 3144134277#32, 1013904242#32, 2773480762#32, 1359893119#32, 2600822924#32, 528734635#32, 1541459225#32⟩ 0).step (kW 0) (schedW (tb blkB3) 0) = _
  rw [stB3_0, schB3_0]; kernel_rfl
theorem stB3_2 : W8.steps kW (schedW (tb blkB3)) ⟨1779033703#32, 3144134277#32, 1013904242#32, 2773480762#32, 1359893119#32, 2600822924#32, 528734635#32, 1541459225#32⟩ 2 = ⟨22558322#32, 502401959#32, 1779033703#32, 3144134277#32, 2952301103#32, 3132188156#32, 1359893119#32, 2600822924#32⟩ := by
  show (W8.steps kW (schedW (tb blkB3)) ⟨1779033703#32, 3144134277#32, 1013904242#32, 2773480762#32, 1359893119#32, 2600822924#32, 528734635#32, 1541459225#32⟩ 1).step (kW 1) (schedW (tb blkB3) 1) = _
  rw [stB3_1, schB3_1]; kernel_rfl
theorem stB3_3 : W8.steps kW (schedW (tb blkB3)) ⟨1779033703#32, 3144134277#32, 1013904242#32, 2773480762#32, 1359893119#32, 2600822924#32, 528734635#32, 1541459225#32⟩ 3 = ⟨667854645#32, 22558322#32, 502401959#32, 1779033703#32, 2260623355#32, 2952301103#32, 3132188156#32, 1359893119#32⟩ := by
  show (W8.steps kW (schedW (tb blkB3)) ⟨1779033703#32, 3144134277#32, 1013904242#32, 2773480762#32, 1359893119#32, 2600822924#32, 528734635#32, 1541459225#32⟩ 2).step (kW 2) (schedW (tb blkB3) 2) = _
  rw [stB3_2, schB3_2]; kernel_rfl
theorem stB3_4 : W8.steps kW (schedW (tb blkB3)) ⟨1779033703#32, 3144134277#32, 1013904242#32, 2773480762#32, 1359893119#32, 2600822924#32, 528734635#32, 1541459225#32⟩ 4 = ⟨2226627574#32, 667854645#32, 22558322#32, 502401959#32, 2652971007#32, 2260623355#32, 2952301103#32, 3132188156#32⟩ := by
  show (W8.steps kW (schedW (tb blkB3)) ⟨1779033703#32, 3144134277#32, 1013904242#32, 2773480762#32, 1359893119#32, 2600822924#32, 528734635#32, 1541459225#32⟩ 3).step (kW 3) (schedW (tb blkB3) 3) = _
  rw [stB3_3, schB3_3]; kernel_rfl
theorem stB3_5 : W8.steps kW (schedW (tb blkB3)) ⟨1779033703#32, 3144134277#32, 1013904242#32, 2773480762#32, 1359893119#32, 2600822924#32, 528734635#32, 1541459225#32⟩ 5 = ⟨2093204726#32, 2226627574#32, 667854645#32, 22558322#32, 885068245#32, 2652971007#32, 2260623355#32, 2952301103#32⟩ := by
  show (W8.steps kW (schedW (tb blkB3)) ⟨1779033703#32, 3144134277#32, 1013904242#32, 2773480762#32, 1359893119#32, 2600822924#32, 528734635#32, 1541459225#32⟩ 4).step (kW 4) (schedW (tb blkB3) 4) = _
  rw [stB3_4, schB3_4]; kernel_rfl
theorem stB3_6 : W8.steps kW (schedW (tb blkB3)) ⟨1779033703#32, 3144134277#32, 1013904242#32, 2773480762#32, 1359893119#32, 2600822924#32, 528734635#32, 1541459225#32⟩ 6 = ⟨1450270873#32, 2093204726#32, 2226627574#32, 667854645#32, 2071011397#32, 885068245#32, 2652971007#32, 2260623355#32⟩ := by
  show (W8.steps kW (schedW (tb blkB3)) ⟨1779033703#32, 3144134277#32, 1013904242#32, 2773480762#32, 1359893119#32, 2600822924#32, 528734635#32, 1541459225#32⟩ 5).step (kW 5) (schedW (tb blkB3) 5) = _
  rw [stB3_5, schB3_5]; kernel_rfl
theorem stB3_7 : W8.steps kW (schedW (tb blkB3)) ⟨1779033703#32, 3144134277#32, 1013904242#32, 2773480762#32, 1359893119#32, 2600822924#32, 528734635#32, 1541459225#32⟩ 7 = ⟨79119421#32, 1450270873#32, 2093204726#32, 2226627574#32, 1119714184#32, 2071011397#32, 885068245#32, 2652971007#32⟩ := by
  show (W8.steps kW (schedW (tb blkB3)) ⟨1779033703#32, 3144134277#32, 1013904242#32, 2773480762#32, 1359893119#32, 2600822924#32, 528734635#32, 1541459225#32⟩ 6).step (kW 6) (schedW (tb blkB3) 6) = _
  rw [stB3_6, schB3_6]; kernel_rfl
theorem stB3_8 : W8.steps kW (schedW (tb blkB3)) ⟨1779033703#32, 3144134277#32, 1013904242#32, 2773480762#32, 1359893119#32, 2600822924#32, 528734635#32, 1541459225#32⟩ 8 = ⟨2531762437#32, 79119421#32, 1450270873#32, 2093204726#32, 148307863#32, 1119714184#32, 2071011397#32, 885068245#32⟩ := by
  show (W8.steps kW (schedW (tb blkB3)) ⟨1779033703#32, 3144134277#32, 1013904242#32, 2773480762#32, 1359893119#32, 2600822924#32, 528734635#32, 1541459225#32⟩ 7).step (kW 7) (schedW (tb blkB3) 7) = _
  rw [stB3_7, schB3_7]; kernel_rfl
theorem stB3_9 : W8.steps kW (schedW (tb blkB3)) ⟨1779033703#32, 3144134277#32, 1013904242#32, 2773480762#32, 1359893119#32, 2600822924#32, 528734635#32, 1541459225#32⟩ 9 = ⟨2896218226#32, 2531762437#32, 79119421#32, 1450270873#32, 526115876#32, 148307863#32, 1119714184#32, 2071011397#32⟩ := by
  show (W8.steps kW (schedW (tb blkB3)) ⟨1779033703#32, 3144134277#32, 1013904242#32, 2773480762#32, 1359893119#32, 2600822924#32, 528734635#32, 1541459225#32⟩ 8).step (kW 8) (schedW (tb blkB3) 8) = _
  rw [stB3_8, schB3_8]; kernel_rfl
theorem stB3_10 : W8.steps kW (schedW (tb blkB3)) ⟨1779033703#32, 3144134277#32, 1013904242#32, 2773480762#32, 1359893119#32, 2600822924#32, 528734635#32, 1541459225#32⟩ 10 = ⟨3701001198#32, 2896218226#32, 2531762437#32, 79119421#32, 1120259754#32, 526115876#32, 148307863#32, 1119714184#32⟩ := by
  show (W8.steps kW (schedW (tb blkB3)) ⟨1779033703#32, 3144134277#32, 1013904242#32, 2773480762#32, 1359893119#32, 2600822924#32, 528734635#32, 1541459225#32⟩ 9).step (kW 9) (schedW (tb blkB3) 9) = _
  rw [stB3_9, schB3_9]; kernel_rfl
theorem stB3_11 : W8.steps kW (schedW (tb blkB3)) ⟨1779033703#32, 3144134277#32, 1013904242#32, 2773480762#32, 1359893119#32, 2600822924#32, 528734635#32, 1541459225#32⟩ 11 = ⟨342074414#32, 3701001198#32, 2896218226#32, 2531762437#32, 4042961334#32, 1120259754#32, 526115876#32, 148307863#32⟩ := by
  show (W8.steps kW (schedW (tb blkB3)) ⟨1779033703#32, 3144134277#32, 1013904242#32, 2773480762#32, 1359893119#32, 2600822924#32, 528734635#32, 1541459225#32⟩ 10).step (kW 10) (schedW (tb blkB3) 10) = _
  rw [stB3_10, schB3_10]; kernel_rfl
theorem stB3_12 : W8.steps kW (schedW (tb blkB3)) ⟨1779033703#32, 3144134277#32, 1013904242#32, 2773480762#32, 1359893119#32, 2600822924#32, 528734635#32, 1541459225#32⟩ 12 = ⟨1642104821#32, 342074414#32, 3701001198#32, 2896218226#32, 825126469#32, 4042961334#32, 1120259754#32, 526115876#32⟩ := by
  show (W8.steps kW (schedW (tb blkB3)) ⟨1779033703#32, 3144134277#32, 1013904242#32, 2773480762#32, 1359893119#32, 2600822924#32, 528734635#32, 1541459225#32⟩ 11).step (kW 11) (schedW (tb blkB3) 11) = _
  rw [stB3_11, schB3_11]; kernel_rfl
theorem stB3_13 : W8.steps kW (schedW (tb blkB3)) ⟨1779033703#32, 3144134277#32, 1013904242#32, 2773480762#32, 1359893119#32, 2600822924#32, 528734635#32, 1541459225#32⟩ 13 = ⟨3882189050#32, 1642104821#32, 342074414#32, 3701001198#32, 1498990080#32, 825126469#32, 4042961334#32, 1120259754#32⟩ := by
  show (W8.steps kW (schedW (tb blkB3)) ⟨1779033703#32, 3144134277#32, 1013904242#32, 2773480762#32, 1359893119#32, 2600822924#32, 528734635#32, 1541459225#32⟩ 12).step (kW 12) (schedW (tb blkB3) 12) = _
  rw [stB3_12, schB3_12]; kernel_rfl
theorem stB3_14 : W8.steps kW (schedW (tb blkB3)) ⟨1779033703#32, 3144134277#32, 1013904242#32, 2773480762#32, 1359893119#32, 2600822924#32, 528734635#32, 1541459225#32⟩ 14 = ⟨3425161843#32, 3882189050#32, 1642104821#32, 342074414#32, 458320084#32, 1498990080#32, 825126469#32, 4042961334#32⟩ := by
  show (W8.steps kW (schedW (tb blkB3)) ⟨1779033703#32, 3144134277#32, 1013904242#32, 2773480762#32, 1359893119#32, 2600822924#32, 528734635#32, 1541459225#32⟩ 13).step (kW 13) (schedW (tb blkB3) 13) = _
  rw [stB3_13, schB3_13]; kernel_rfl
theorem stB3_15 : W8.steps kW (schedW (tb blkB3)) ⟨1779033703#32, 3144134277#32, 1013904242#32, 2773480762#32, 1359893119#32, 2600822924#32, 528734635#32, 1541459225#32⟩ 15 = ⟨3931078082#32, 3425161843#32, 3882189050#32, 1642104821#32, 426722411#32, 458320084#32, 1498990080#32, 825126469#32⟩ := by
  show (W8.steps kW (schedW (tb blkB3)) ⟨1779033703#32, 3144134277#32, 1013904242#32, 2773480762#32, 1359893119#32, 2600822924#32, 528734635#32, 1541459225#32⟩ 14).step (kW 14) (schedW (tb blkB3) 14) = _
  rw [stB3_14, schB3_14]; kernel_rfl
theorem stB3_16 : W8.steps kW (schedW (tb blkB3)) ⟨1779033703#32, 3144134277#32, 1013904242#32, 2773480762#32, 1359893119#32, 2600822924#32, 528734635#32, 1541459225#32⟩ 16 = ⟨2532866910#32, 3931078082#32, 3425161843#32, 3882189050#32, 2700979135#32, 426722411#32, 458320084#32, 1498990080#32⟩ := by
  show (W8.steps kW (schedW (tb blkB3)) ⟨1779033703#32, 3144134277#32, 1013904242#32, 2773480762#32, 1359893119#32, 2600822924#32, 528734635#32, 1541459225#32⟩ 15).step (kW 15) (schedW (tb blkB3) 15) = _
  rw [stB3_15, schB3_15]; kernel_rfl
theorem stB3_17 : W8.steps kW (schedW (tb blkB3)) ⟨1779033703#32, 3144134277#32, 1013904242#32, 2773480762#32, 1359893119#32, 2600822924#32, 528734635#32, 1541459225#32⟩ 17 = ⟨2057489209#32, 2532866910#32, 3931078082#32, 3425161843#32, 4109434258#32, 2700979135#32, 426722411#32, 458320084#32⟩ := by
  show (W8.steps kW (schedW (tb blkB3)) ⟨1779033703#32, 3144134277#32, 1013904242#32, 2773480762#32, 1359893119#32, 2600822924#32, 528734635#32, 1541459225#32⟩ 16).step (kW 16) (schedW (tb blkB3) 16) = _
  rw [stB3_16, schB3_16]; kernel_rfl
theorem stB3_18 : W8.steps kW (schedW (tb blkB3)) ⟨1779033703#32, 3144134277#32, 1013904242#32, 2773480762#32, 1359893119#32, 2600822924#32, 528734635#32, 1541459225#32⟩ 18 = ⟨1305170824#32, 2057489209#32, 2532866910#32, 3931078082#32, 2461608047#32, 4109434258#32, 2700979135#32, 426722411#32⟩ := by
  show (W8.steps kW (schedW (tb blkB3)) ⟨1779033703#32, 3144134277#32, 1013904242#32, 2773480762#32, 1359893119#32, 2600822924#32, 528734635#32, 1541459225#32⟩ 17).step (kW 17) (schedW (tb blkB3) 17) = _
  rw [stB3_17, schB3_17]; kernel_rfl
theorem stB3_19 : W8.steps kW (schedW (tb blkB3)) ⟨1779033703#32, 3144134277#32, 1013904242#32, 2773480762#32, 1359893119#32, 2600822924#32, 528734635#32, 1541459225#32⟩ 19 = ⟨860860833#32, 1305170824#32, 2057489209#32, 2532866910#32, 473315516#32, 2461608047#32, 4109434258#32, 2700979135#32⟩ := by
  show (W8.steps kW (schedW (tb blkB3)) ⟨1779033703#32, 3144134277#32, 1013904242#32, 2773480762#32, 1359893119#32, 2600822924#32, 528734635#32, 1541459225#32⟩ 18).step (kW 18) (schedW (tb blkB3) 18) = _
  rw [stB3_18, schB3_18]; kernel_rfl
theorem stB3_20 : W8.steps kW (schedW (tb blkB3)) ⟨1779033703#32, 3144134277#32, 1013904242#32, 2773480762#32, 1359893119#32, 2600822924#32, 528734635#32, 1541459225#32⟩ 20 = ⟨910657669#32, 860860833#32, 1305170824#32, 2057489209#32, 1381449058#32, 473315516#32, 2461608047#32, 4109434258#32⟩ := by
  show (W8.steps kW (schedW (tb blkB3)) ⟨1779033703#32, 3144134277#32, 1013904242#32, 2773480762#32, 1359893119#32, 2600822924#32, 528734635#32, 1541459225#32⟩ 19).step (kW 19) (schedW (tb blkB3) 19) = _
  rw [stB3_19, schB3_19]; kernel_rfl
theorem stB3_21 : W8.steps kW (schedW (tb blkB3)) ⟨1779033703#32, 3144134277#32, 1013904242#32, 2773480762#32, 1359893119#32, 2600822924#32, 528734635#32, 1541459225#32⟩ 21 = ⟨2283728716#32, 910657669#32, 860860833#32, 1305170824#32, 3017270336#32, 1381449058#32, 473315516#32, 2461608047#32⟩ := by
  show (W8.steps kW (schedW (tb blkB3)) ⟨1779033703#32, 3144134277#32, 1013904242#32, 2773480762#32, 1359893119#32, 2600822924#32, 528734635#32, 1541459225#32⟩ 20).step (kW 20) (schedW (tb blkB3) 20) = _
  rw [stB3_20, schB3_20]; kernel_rfl
theorem stB3_22 : W8.steps kW (schedW (tb blkB3)) ⟨1779033703#32, 3144134277#32, 1013904242#32, 2773480762#32, 1359893119#32, 2600822924#32, 528734635#32, 1541459225#32⟩ 22 = ⟨731301711#32, 2283728716#32, 910657669#32, 860860833#32, 590587982#32, 3017270336#32, 1381449058#32, 473315516#32⟩ := by
  show (W8.steps kW (schedW (tb blkB3)) ⟨1779033703#32, 3144134277#32, 1013904242#32, 2773480762#32, 1359893119#32, 2600822924#32, 528734635#32, 1541459225#32⟩ 21).step (kW 21) (schedW (tb blkB3) 21) = _
  rw [stB3_21, schB3_21]; kernel_rfl
theorem stB3_23 : W8.steps kW (schedW (tb blkB3)) ⟨1779033703#32, 3144134277#32, 1013904242#32, 2773480762#32, 1359893119#32, 2600822924#32, 528734635#32, 1541459225#32⟩ 23 = ⟨1193942580#32, 731301711#32, 2283728716#32, 910657669#32, 2766220989#32, 590587982#32, 3017270336#32, 1381449058#32⟩ := by
  show (W8.steps kW (schedW (tb blkB3)) ⟨1779033703#32, 3144134277#32, 1013904242#32, 2773480762#32, 1359893119#32, 2600822924#32, 528734635#32, 1541459225#32⟩ 22).step (kW 22) (schedW (tb blkB3) 22) = _
  rw [stB3_22, schB3_22]; kernel_rfl
theorem stB3_24 : W8.steps kW (schedW (tb blkB3)) ⟨1779033703#32, 3144134277#32, 1013904242#32, 2773480762#32, 1359893119#32, 2600822924#32, 528734635#32, 1541459225#32⟩ 24 = ⟨4124358917#32, 1193942580#32, 731301711#32, 2283728716#32, 3639411325#32, 2766220989#32, 590587982#32, 3017270336#32⟩ := by
  show (W8.steps kW (schedW (tb blkB3)) ⟨1779033703#32, 3144134277#32, 1013904242#32, 2773480762#32, 1359893119#32, 2600822924#32, 528734635#32, 1541459225#32⟩ 23).step (kW 23) (schedW (tb blkB3) 23) = _
  rw [stB3_23, schB3_23]; kernel_rfl
theorem stB3_25 : W8.steps kW (schedW (tb blkB3)) ⟨1779033703#32, 3144134277#32, 1013904242#32, 2773480762#32, 1359893119#32, 2600822924#32, 528734635#32, 1541459225#32⟩ 25 = ⟨2113588538#32, 4124358917#32, 1193942580#32, 731301711#32, 3066332750#32, 3639411325#32, 2766220989#32, 590587982#32⟩ := by
  show (W8.steps kW (schedW (tb blkB3)) ⟨1779033703#32, 3144134277#32, 1013904242#32, 2773480762#32, 1359893119#32, 2600822924#32, 528734635#32, 1541459225#32⟩ 24).step (kW 24) (schedW (tb blkB3) 24) = _
  rw [stB3_24, schB3_24]; kernel_rfl
theorem stB3_26 : W8.steps kW (schedW (tb blkB3)) ⟨1779033703#32, 3144134277#32, 1013904242#32, 2773480762#32, 1359893119#32, 2600822924#32, 528734635#32, 1541459225#32⟩ 26 = ⟨3160661809#32, 2113588538#32, 4124358917#32, 1193942580#32, 1415992285#32, 3066332750#32, 3639411325#32, 2766220989#32⟩ := by
  show (W8.steps kW (schedW (tb blkB3)) ⟨1779033703#32, 3144134277#32, 1013904242#32, 2773480762#32, 1359893119#32, 2600822924#32, 528734635#32, 1541459225#32⟩ 25).step (kW 25) (schedW (tb blkB3) 25) = _
  rw [stB3_25, schB3_25]; kernel_rfl
theorem stB3_27 : W8.steps kW (schedW (tb blkB3)) ⟨1779033703#32, 3144134277#32, 1013904242#32, 2773480762#32, 1359893119#32, 2600822924#32, 528734635#32, 1541459225#32⟩ 27 = ⟨2624434626#32, 3160661809#32, 2113588538#32, 4124358917#32, 3418038434#32, 1415992285#32, 3066332750#32, 3639411325#32⟩ := by
  show (W8.steps kW (schedW (tb blkB3)) ⟨1779033703#32, 3144134277#32, 1013904242#32, 2773480762#32, 1359893119#32, 2600822924#32, 528734635#32, 1541459225#32⟩ 26).step (kW 26) (schedW (tb blkB3) 26) = _
  rw [stB3_26, schB3_26]; kernel_rfl
theorem stB3_28 : W8.steps kW (schedW (tb blkB3)) ⟨1779033703#32, 3144134277#32, 1013904242#32, 2773480762#32, 1359893119#32, 2600822924#32, 528734635#32, 1541459225#32⟩ 28 = ⟨3849657803#32, 2624434626#32, 3160661809#32, 2113588538#32, 2132112434#32, 3418038434#32, 1415992285#32, 3066332750#32⟩ := by
  show (W8.steps kW (schedW (tb blkB3)) ⟨1779033703#32, 3144134277#32, 1013904242#32, 2773480762#32, 1359893119#32, 2600822924#32, 528734635#32, 1541459225#32⟩ 27).step (kW 27) (schedW (tb blkB3) 27) = _
  rw [stB3_27, schB3_27]; kernel_rfl
theorem stB3_29 : W8.steps kW (schedW (tb blkB3)) ⟨1779033703#32, 3144134277#32, 1013904242#32, 2773480762#32, 1359893119#32, 2600822924#32, 528734635#32, 1541459225#32⟩ 29 = ⟨1242615436#32, 3849657803#32, 2624434626#32, 3160661809#32, 1211153076#32, 2132112434#32, 3418038434#32, 1415992285#32⟩ := by
  show (W8.steps kW (schedW (tb blkB3)) ⟨1779033703#32, 3144134277#32, 1013904242#32, 2773480762#32, 1359893119#32, 2600822924#32, 528734635#32, 1541459225#32⟩ 28).step (kW 28) (schedW (tb blkB3) 28) = _
  rw [stB3_28, schB3_28]; kernel_rfl
theorem stB3_30 : W8.steps kW (schedW (tb blkB3)) ⟨1779033703#32, 3144134277#32, 1013904242#32, 2773480762#32, 1359893119#32, 2600822924#32, 528734635#32, 1541459225#32⟩ 30 = ⟨4099320574#32, 1242615436#32, 3849657803#32, 2624434626#32, 3194526296#32, 1211153076#32, 2132112434#32, 3418038434#32⟩ := by
  show (W8.steps kW (schedW (tb blkB3)) ⟨1779033703#32, 3144134277#32, 1013904242#32, 2773480762#32, 1359893119#32, 2600822924#32, 528734635#32, 1541459225#32⟩ 29).step (kW 29) (schedW (tb blkB3) 29) = _
  rw [stB3_29, schB3_29]; kernel_rfl
theorem stB3_31 : W8.steps kW (schedW (tb blkB3)) ⟨1779033703#32, 3144134277#32, 1013904242#32, 2773480762#32, 1359893119#32, 2600822924#32, 528734635#32, 1541459225#32⟩ 31 = ⟨4170517056#32, 4099320574#32, 1242615436#32, 3849657803#32, 6568281#32, 3194526296#32, 1211153076#32, 2132112434#32⟩ := by
  show (W8.steps kW (schedW (tb blkB3)) ⟨1779033703#32, 3144134277#32, 1013904242#32, 2773480762#32, 1359893119#32, 2600822924#32, 528734635#32, 1541459225#32⟩ 30).step (kW 30) (schedW (tb blkB3) 30) = _
  rw [stB3_30, schB3_30]; kernel_rfl
theorem stB3_32 : W8.steps kW (schedW (tb blkB3)) ⟨1779033703#32, 3144134277#32, 1013904242#32, 2773480762#32, 1359893119#32, 2600822924#32, 528734635#32, 1541459225#32⟩ 32 = ⟨1524937505#32, 4170517056#32, 4099320574#32, 1242615436#32, 272220230#32, 6568281#32, 3194526296#32, 1211153076#32⟩ := by
  show (W8.steps kW (schedW (tb blkB3)) ⟨1779033703#32, 3144134277#32, 1013904242#32, 2773480762#32, 1359893119#32, 2600822924#32, 528734635#32, 1541459225#32⟩ 31).step (kW 31) (schedW (tb blkB3) 31) = _
  rw [stB3_31, schB3_31]; kernel_rfl
theorem stB3_33 : W8.steps kW (schedW (tb blkB3)) ⟨1779033703#32, 3144134277#32, 1013904242#32, 2773480762#32, 1359893119#32, 2600822924#32, 528734635#32, 1541459225#32⟩ 33 = ⟨860762117#32, 1524937505#32, 4170517056#32, 4099320574#32, 655021483#32, 272220230#32, 6568281#32, 3194526296#32⟩ := by
  show (W8.steps kW (schedW (tb blkB3)) ⟨1779033703#32, 3144134277#32, 1013904242#32, 2773480762#32, 1359893119#32, 2600822924#32, 528734635#32, 1541459225#32⟩ 32).step (kW 32) (schedW (tb blkB3) 32) = _
  rw [stB3_32, schB3_32]; kernel_rfl
theorem stB3_34 : W8.steps kW (schedW (tb blkB3)) ⟨1779033703#32, 3144134277#32, 1013904242#32, 2773480762#32, 1359893119#32, 2600822924#32, 528734635#32, 1541459225#32⟩ 34 = ⟨3970676963#32, 860762117#32, 1524937505#32, 4170517056#32, 1912876835#32, 655021483#32, 272220230#32, 6568281#32⟩ := by
  show (W8.steps kW (schedW (tb blkB3)) ⟨1779033703#32, 3144134277#32, 1013904242#32, 2773480762#32, 1359893119#32, 2600822924#32, 528734635#32, 1541459225#32⟩ 33).step (kW 33) (schedW (tb blkB3) 33) = _
  rw [stB3_33, schB3_33]; kernel_rfl
theorem stB3_35 : W8.steps kW (schedW (tb blkB3)) ⟨1779033703#32, 3144134277#32, 1013904242#32, 2773480762#32, 1359893119#32, 2600822924#32, 528734635#32, 1541459225#32⟩ 35 = ⟨1256320102#32, 3970676963#32, 860762117#32, 1524937505#32, 900874670#32, 1912876835#32, 655021483#32, 272220230#32⟩ := by
  show (W8.steps kW (schedW (tb blkB3)) ⟨1779033703#32, 3144134277#32, 1013904242#32, 2773480762#32, 1359893119#32, 2600822924#32, 528734635#32, 1541459225#32⟩ 34).step (kW 34) (schedW (tb blkB3) 34) = _
  rw [stB3_34, schB3_34]; kernel_rfl
theorem stB3_36 : W8.steps kW (schedW (tb blkB3)) ⟨1779033703#32, 3144134277#32, 1013904242#32, 2773480762#32, 1359893119#32, 2600822924#32, 528734635#32, 1541459225#32⟩ 36 = ⟨967637264#32, 1256320102#32, 3970676963#32, 860762117#32, 3010084493#32, 900874670#32, 1912876835#32, 655021483#32⟩ := by
  show (W8.steps kW (schedW (tb blkB3)) ⟨1779033703#32, 3144134277#32, 1013904242#32, 2773480762#32, 1359893119#32, 2600822924#32, 528734635#32, 1541459225#32⟩ 35).step (kW 35) (schedW (tb blkB3) 35) = _
  rw [stB3_35, schB3_35]; kernel_rfl
theorem stB3_37 : W8.steps kW (schedW (tb blkB3)) ⟨1779033703#32, 3144134277#32, 1013904242#32, 2773480762#32, 1359893119#32, 2600822924#32, 528734635#32, 1541459225#32⟩ 37 = ⟨2736981943#32, 967637264#32, 1256320102#32, 3970676963#32, 4172843925#32, 3010084493#32, 900874670#32, 1912876835#32⟩ := by
  show (W8.steps kW (schedW (tb blkB3)) ⟨1779033703#32, 3144134277#32, 1013904242#32, 2773480762#32, 1359893119#32, 2600822924#32, 528734635#32, 1541459225#32⟩ 36).step (kW 36) (schedW (tb blkB3) 36) = _
  rw [stB3_36, schB3_36]; kernel_rfl
theorem stB3_38 : W8.steps kW (schedW (tb blkB3)) ⟨1779033703#32, 3144134277#32, 1013904242#32, 2773480762#32, 1359893119#32, 2600822924#32, 528734635#32, 1541459225#32⟩ 38 = ⟨2158771467#32, 2736981943#32, 967637264#32, 1256320102#32, 3897229887#32, 4172843925#32, 3010084493#32, 900874670#32⟩ := by
  show (W8.steps kW (schedW (tb blkB3)) ⟨1779033703#32, 3144134277#32, 1013904242#32, 2773480762#32, 1359893119#32, 2600822924#32, 528734635#32, 1541459225#32⟩ 37).step (kW 37) (schedW (tb blkB3) 37) = _
  rw [stB3_37, schB3_37]; kernel_rfl
theorem stB3_39 : W8.steps kW (schedW (tb blkB3)) ⟨1779033703#32, 3144134277#32, 1013904242#32, 2773480762#32, 1359893119#32, 2600822924#32, 528734635#32, 1541459225#32⟩ 39 = ⟨3719509848#32, 2158771467#32, 2736981943#32, 967637264#32, 3462775434#32, 3897229887#32, 4172843925#32, 3010084493#32⟩ := by
  show (W8.steps kW (schedW (tb blkB3)) ⟨1779033703#32, 3144134277#32, 1013904242#32, 2773480762#32, 1359893119#32, 2600822924#32, 528734635#32, 1541459225#32⟩ 38).step (kW 38) (schedW (tb blkB3) 38) = _
  rw [stB3_38, schB3_38]; kernel_rfl
theorem stB3_40 : W8.steps kW (schedW (tb blkB3)) ⟨1779033703#32, 3144134277#32, 1013904242#32, 2773480762#32, 1359893119#32, 2600822924#32, 528734635#32, 1541459225#32⟩ 40 = ⟨876587511#32, 3719509848#32, 2158771467#32, 2736981943#32, 2865899699#32, 3462775434#32, 3897229887#32, 4172843925#32⟩ := by
  show (W8.steps kW (schedW (tb blkB3)) ⟨1779033703#32, 3144134277#32, 1013904242#32, 2773480762#32, 1359893119#32, 2600822924#32, 528734635#32, 1541459225#32⟩ 39).step (kW 39) (schedW (tb blkB3) 39) = _
  rw [stB3_39, schB3_39]; kernel_rfl
theorem stB3_41 : W8.steps kW (schedW (tb blkB3)) ⟨1779033703#32, 3144134277#32, 1013904242#32, 2773480762#32, 1359893119#32, 2600822924#32, 528734635#32, 1541459225#32⟩ 41 = ⟨2657146697#32, 876587511#32, 3719509848#32, 2158771467#32, 817039957#32, 2865899699#32, 3462775434#32, 3897229887#32⟩ := by
  show (W8.steps kW (schedW (tb blkB3)) ⟨1779033703#32, 3144134277#32, 1013904242#32, 2773480762#32, 1359893119#32, 2600822924#32, 528734635#32, 1541459225#32⟩ 40).step (kW 40) (schedW (tb blkB3) 40) = _
  rw [stB3_40, schB3_40]; kernel_rfl
theorem stB3_42 : W8.steps kW (schedW (tb blkB3)) ⟨1779033703#32, 3144134277#32, 1013904242#32, 2773480762#32, 1359893119#32, 2600822924#32, 528734635#32, 1541459225#32⟩ 42 = ⟨3128038515#32, 2657146697#32, 876587511#32, 3719509848#32, 1080080760#32, 817039957#32, 2865899699#32, 3462775434#32⟩ := by
  show (W8.steps kW (schedW (tb blkB3)) ⟨1779033703#32, 3144134277#32, 1013904242#32, 2773480762#32, 1359893119#32, 2600822924#32, 528734635#32, 1541459225#32⟩ 41).step (kW 41) (schedW (tb blkB3) 41) = _
  rw [stB3_41, schB3_41]; kernel_rfl
theorem stB3_43 : W8.steps kW (schedW (tb blkB3)) ⟨1779033703#32, 3144134277#32, 1013904242#32, 2773480762#32, 1359893119#32, 2600822924#32, 528734635#32, 1541459225#32⟩ 43 = ⟨3026206857#32, 3128038515#32, 2657146697#32, 876587511#32, 1313884681#32, 1080080760#32, 817039957#32, 2865899699#32⟩ := by
  show (W8.steps kW (schedW (tb blkB3)) ⟨1779033703#32, 3144134277#32, 1013904242#32, 2773480762#32, 1359893119#32, 2600822924#32, 528734635#32, 1541459225#32⟩ 42).step (kW 42) (schedW (tb blkB3) 42) = _
  rw [stB3_42, schB3_42]; kernel_rfl
theorem stB3_44 : W8.steps kW (schedW (tb blkB3)) ⟨1779033703#32, 3144134277#32, 1013904242#32, 2773480762#32, 1359893119#32, 2600822924#32, 528734635#32, 1541459225#32⟩ 44 = ⟨2743840656#32, 3026206857#32, 3128038515#32, 2657146697#32, 823357261#32, 1313884681#32, 1080080760#32, 817039957#32⟩ := by
  show (W8.steps kW (schedW (tb blkB3)) ⟨1779033703#32, 3144134277#32, 1013904242#32, 2773480762#32, 1359893119#32, 2600822924#32, 528734635#32, 1541459225#32⟩ 43).step (kW 43) (schedW (tb blkB3) 43) = _
  rw [stB3_43, schB3_43]; kernel_rfl
theorem stB3_45 : W8.steps kW (schedW (tb blkB3)) ⟨1779033703#32, 3144134277#32, 1013904242#32, 2773480762#32, 1359893119#32, 2600822924#32, 528734635#32, 1541459225#32⟩ 45 = ⟨4166809635#32, 2743840656#32, 3026206857#32, 3128038515#32, 1770100132#32, 823357261#32, 1313884681#32, 1080080760#32⟩ := by
  show (W8.steps kW (schedW (tb blkB3)) ⟨1779033703#32, 3144134277#32, 1013904242#32, 2773480762#32, 1359893119#32, 2600822924#32, 528734635#32, 1541459225#32⟩ 44).step (kW 44) (schedW (tb blkB3) 44) = _
  rw [stB3_44, schB3_44]; kernel_rfl
theorem stB3_46 : W8.steps kW (schedW (tb blkB3)) ⟨1779033703#32, 3144134277#32, 1013904242#32, 2773480762#32, 1359893119#32, 2600822924#32, 528734635#32, 1541459225#32⟩ 46 = ⟨37913912#32, 4166809635#32, 2743840656#32, 3026206857#32, 3179535904#32, 1770100132#32, 823357261#32, 1313884681#32⟩ := by
  show (W8.steps kW (schedW (tb blkB3)) ⟨1779033703#32, 3144134277#32, 1013904242#32, 2773480762#32, 1359893119#32, 2600822924#32, 528734635#32, 1541459225#32⟩ 45).step (kW 45) (schedW (tb blkB3) 45) = _
  rw [stB3_45, schB3_45]; kernel_rfl
theorem stB3_47 : W8.steps kW (schedW (tb blkB3)) ⟨1779033703#32, 3144134277#32, 1013904242#32, 2773480762#32, 1359893119#32, 2600822924#32, 528734635#32, 1541459225#32⟩ 47 = ⟨2082815899#32, 37913912#32, 4166809635#32, 2743840656#32, 1794539425#32, 3179535904#32, 1770100132#32, 823357261#32⟩ := by
  show (W8.steps kW (schedW (tb blkB3)) ⟨1779033703#32, 3144134277#32, 1013904242#32, 2773480762#32, 1359893119#32, 2600822924#32, 528734635#32, 1541459225#32⟩ 46).step (kW 46) (schedW (tb blkB3) 46) = _
  rw [stB3_46, schB3_46]; kernel_rfl
theorem stB3_48 : W8.steps kW (schedW (tb blkB3)) ⟨1779033703#32, 3144134277#32, 1013904242#32, 2773480762#32, 1359893119#32, 2600822924#32, 528734635#32, 1541459225#32⟩ 48 = ⟨1392389110#32, 2082815899#32, 37913912#32, 4166809635#32, 3340294924#32, 1794539425#32, 3179535904#32, 1770100132#32⟩ := by
  show (W8.steps kW (schedW (tb blkB3)) ⟨1779033703#32, 3144134277#32, 1013904242#32, 2773480762#32, 1359893119#32, 2600822924#32, 528734635#32, 1541459225#32⟩ 47).step (kW 47) (schedW (tb blkB3) 47) = _
  rw [stB3_47, schB3_47]; kernel_rfl
theorem stB3_49 : W8.steps kW (schedW (tb blkB3)) ⟨1779033703#32, 3144134277#32, 1013904242#32, 2773480762#32, 1359893119#32, 2600822924#32, 528734635#32, 1541459225#32⟩ 49 = ⟨987642834#32, 1392389110#32, 2082815899#32, 37913912#32, 2905718772#32, 3340294924#32, 1794539425#32, 3179535904#32⟩ := by
  show (W8.steps kW (schedW (tb blkB3)) ⟨1779033703#32, 3144134277#32, 1013904242#32, 2773480762#32, 1359893119#32, 2600822924#32, 528734635#32, 1541459225#32⟩ 48).step (kW 48) (schedW (tb blkB3) 48) = _
  rw [stB3_48, schB3_48]; kernel_rfl
theorem stB3_50 : W8.steps kW (schedW (tb blkB3)) ⟨1779033703#32, 3144134277#32, 1013904242#32, 2773480762#32, 1359893119#32, 2600822924#32, 528734635#32, 1541459225#32⟩ 50 = ⟨570796232#32, 987642834#32, 1392389110#32, 2082815899#32, 2155929920#32, 2905718772#32, 3340294924#32, 1794539425#32⟩ := by
  show (W8.steps kW (schedW (tb blkB3)) ⟨1779033703#32, 3144134277#32, 1013904242#32, 2773480762#32, 1359893119#32, 2600822924#32, 528734635#32, 1541459225#32⟩ 49).step (kW 49) (schedW (tb blkB3) 49) = _
  rw [stB3_49, schB3_49]; kernel_rfl
theorem stB3_51 : W8.steps kW (schedW (tb blkB3)) ⟨1779033703#32, 3144134277#32, 1013904242#32, 2773480762#32, 1359893119#32, 2600822924#32, 528734635#32, 1541459225#32⟩ 51 = ⟨670516012#32, 570796232#32, 987642834#32, 1392389110#32, 417004638#32, 2155929920#32, 2905718772#32, 3340294924#32⟩ := by
  show (W8.steps kW (schedW (tb blkB3)) ⟨1779033703#32, 3144134277#32, 1013904242#32, 2773480762#32, 1359893119#32, 2600822924#32, 528734635#32, 1541459225#32⟩ 50).step (kW 50) (schedW (tb blkB3) 50) = _
  rw [stB3_50, schB3_50]; kernel_rfl
theorem stB3_52 : W8.steps kW (schedW (tb blkB3)) ⟨1779033703#32, 3144134277#32, 1013904242#32, 2773480762#32, 1359893119#32, 2600822924#32, 528734635#32, 1541459225#32⟩ 52 = ⟨2747107020#32, 670516012#32, 570796232#32, 987642834#32, 106178316#32, 417004638#32, 2155929920#32, 2905718772#32⟩ := by
  show (W8.steps kW (schedW (tb blkB3)) ⟨1779033703#32, 3144134277#32, 1013904242#32, 2773480762#32, 1359893119#32, 2600822924#32, 528734635#32, 1541459225#32⟩ 51).step (kW 51) (schedW (tb blkB3) 51) = _
  rw [stB3_51, schB3_51]; kernel_rfl
theorem stB3_53 : W8.steps kW (schedW (tb blkB3)) ⟨1779033703#32, 3144134277#32, 1013904242#32, 2773480762#32, 1359893119#32, 2600822924#32, 528734635#32, 1541459225#32⟩ 53 = ⟨695148837#32, 2747107020#32, 670516012#32, 570796232#32, 1476823898#32, 106178316#32, 417004638#32, 2155929920#32⟩ := by
  show (W8.steps kW (schedW (tb blkB3)) ⟨1779033703#32, 3144134277#32, 1013904242#32, 2773480762#32, 1359893119#32, 2600822924#32, 528734635#32, 1541459225#32⟩ 52).step (kW 52) (schedW (tb blkB3) 52) = _
  rw [stB3_52, schB3_52]; kernel_rfl
theorem stB3_54 : W8.steps kW (schedW (tb blkB3)) ⟨1779033703#32, 3144134277#32, 1013904242#32, 2773480762#32, 1359893119#32, 2600822924#32, 528734635#32, 1541459225#32⟩ 54 = ⟨2796666359#32, 695148837#32, 2747107020#32, 670516012#32, 2764196862#32, 1476823898#32, 106178316#32, 417004638#32⟩ := by
  show (W8.steps kW (schedW (tb blkB3)) ⟨1779033703#32, 3144134277#32, 1013904242#32, 2773480762#32, 1359893119#32, 2600822924#32, 528734635#32, 1541459225#32⟩ 53).step (kW 53) (schedW (tb blkB3) 53) = _
  rw [stB3_53, schB3_53]; kernel_rfl
theorem stB3_55 : W8.steps kW (schedW (tb blkB3)) ⟨1779033703#32, 3144134277#32, 1013904242#32, 2773480762#32, 1359893119#32, 2600822924#32, 528734635#32, 1541459225#32⟩ 55 = ⟨1377161317#32, 2796666359#32, 695148837#32, 2747107020#32, 359196994#32, 2764196862#32, 1476823898#32, 106178316#32⟩ := by
  show (W8.steps kW (schedW (tb blkB3)) ⟨1779033703#32, 3144134277#32, 1013904242#32, 2773480762#32, 1359893119#32, 2600822924#32, 528734635#32, 1541459225#32⟩ 54).step (kW 54) (schedW (tb blkB3) 54) = _
  rw [stB3_54, schB3_54]; kernel_rfl
theorem stB3_56 : W8.steps kW (schedW (tb blkB3)) ⟨1779033703#32, 3144134277#32, 1013904242#32, 2773480762#32, 1359893119#32, 2600822924#32, 528734635#32, 1541459225#32⟩ 56 = ⟨198607959#32, 1377161317#32, 2796666359#32, 695148837#32, 208660415#32, 359196994#32, 2764196862#32, 1476823898#32⟩ := by
  show (W8.steps kW (schedW (tb blkB3)) ⟨1779033703#32, 3144134277#32, 1013904242#32, 2773480762#32, 1359893119#32, 2600822924#32, 528734635#32, 1541459225#32⟩ 55).step (kW 55) (schedW (tb blkB3) 55) = _
  rw [stB3_55, schB3_55]; kernel_rfl
theorem stB3_57 : W8.steps kW (schedW (tb blkB3)) ⟨1779033703#32, 3144134277#32, 1013904242#32, 2773480762#32, 1359893119#32, 2600822924#32, 528734635#32, 1541459225#32⟩ 57 = ⟨129429366#32, 198607959#32, 1377161317#32, 2796666359#32, 1949554838#32, 208660415#32, 359196994#32, 2764196862#32⟩ := by
  show (W8.steps kW (schedW (tb blkB3)) ⟨1779033703#32, 3144134277#32, 1013904242#32, 2773480762#32, 1359893119#32, 2600822924#32, 528734635#32, 1541459225#32⟩ 56).step (kW 56) (schedW (tb blkB3) 56) = _
  rw [stB3_56, schB3_56]; kernel_rfl
theorem stB3_58 : W8.steps kW (schedW (tb blkB3)) ⟨1779033703#32, 3144134277#32, 1013904242#32, 2773480762#32, 1359893119#32, 2600822924#32, 528734635#32, 1541459225#32⟩ 58 = ⟨3430132612#32, 129429366#32, 198607959#32, 1377161317#32, 1303266960#32, 1949554838#32, 208660415#32, 359196994#32⟩ := by
  show (W8.steps kW (schedW (tb blkB3)) ⟨1779033703#32, 3144134277#32, 1013904242#32, 2773480762#32, 1359893119#32, 2600822924#32, 528734635#32, 1541459225#32⟩ 57).step (kW 57) (schedW (tb blkB3) 57) = _
  rw [stB3_57, schB3_57]; kernel_rfl
theorem stB3_59 : W8.steps kW (schedW (tb blkB3)) ⟨1779033703#32, 3144134277#32, 1013904242#32, 2773480762#32, 1359893119#32, 2600822924#32, 528734635#32, 1541459225#32⟩ 59 = ⟨1518816299#32, 3430132612#32, 129429366#32, 198607959#32, 4212249325#32, 1303266960#32, 1949554838#32, 208660415#32⟩ := by
  show (W8.steps kW (schedW (tb blkB3)) ⟨1779033703#32, 3144134277#32, 1013904242#32, 2773480762#32, 1359893119#32, 2600822924#32, 528734635#32, 1541459225#32⟩ 58).step (kW 58) (schedW (tb blkB3) 58) = _
  rw [stB3_58, schB3_58]; kernel_rfl
theorem stB3_60 : W8.steps kW (schedW (tb blkB3)) ⟨1779033703#32, 3144134277#32, 1013904242#32, 2773480762#32, 1359893119#32, 2600822924#32, 528734635#32, 1541459225#32⟩ 60 = ⟨1121299381#32, 1518816299#32, 3430132612#32, 129429366#32, 1428723340#32, 4212249325#32, 1303266960#32, 1949554838#32⟩ := by
  show (W8.steps kW (schedW (tb blkB3)) ⟨1779033703#32, 3144134277#32, 1013904242#32, 2773480762#32, 1359893119#32, 2600822924#32, 528734635#32, 1541459225#32⟩ 59).step (kW 59) (schedW (tb blkB3) 59) = _
  rw [stB3_59, schB3_59]; kernel_rfl
theorem stB3_61 : W8.steps kW (schedW (tb blkB3)) ⟨1779033703#32, 3144134277#32, 1013904242#32, 2773480762#32, 1359893119#32, 2600822924#32, 528734635#32, 1541459225#32⟩ 61 = ⟨409098478#32, 1121299381#32, 1518816299#32, 3430132612#32, 2039477108#32, 1428723340#32, 4212249325#32, 1303266960#32⟩ := by
  show (W8.steps kW (schedW (tb blkB3)) ⟨1779033703#32, 3144134277#32, 1013904242#32, 2773480762#32, 1359893119#32, 2600822924#32, 528734635#32, 1541459225#32⟩ 60).step (kW 60) (schedW (tb blkB3) 60) = _
  rw [stB3_60, schB3_60]; kernel_rfl
theorem stB3_62 : W8.steps kW (schedW (tb blkB3)) ⟨1779033703#32, 3144134277#32, 1013904242#32, 2773480762#32, 1359893119#32, 2600822924#32, 528734635#32, 1541459225#32⟩ 62 = ⟨3045674335#32, 409098478#32, 1121299381#32, 1518816299#32, 1596572396#32, 2039477108#32, 1428723340#32, 4212249325#32⟩ := by
  show (W8.steps kW (schedW (tb blkB3)) ⟨1779033703#32, 3144134277#32, 1013904242#32, 2773480762#32, 1359893119#32, 2600822924#32, 528734635#32, 1541459225#32⟩ 61).step (kW 61) (schedW (tb blkB3) 61) = _
  rw [stB3_61, schB3_61]; kernel_rfl
theorem stB3_63 : W8.steps kW (schedW (tb blkB3)) ⟨1779033703#32, 3144134277#32, 1013904242#32, 2773480762#32, 1359893119#32, 2600822924#32, 528734635#32, 1541459225#32⟩ 63 = ⟨2827671945#32, 3045674335#32, 409098478#32, 1121299381#32, 1336302058#32, 1596572396#32, 2039477108#32, 1428723340#32⟩ := by
  show (W8.steps kW (schedW (tb blkB3)) ⟨1779033703#32, 3144134277#32, 1013904242#32, 2773480762#32, 1359893119#32, 2600822924#32, 528734635#32, 1541459225#32⟩ 62).step (kW 62) (schedW (tb blkB3) 62) = _
  rw [stB3_62, schB3_62]; kernel_rfl
theorem stB3_64 : W8.steps kW (schedW (tb blkB3)) ⟨1779033703#32, 3144134277#32, 1013904242#32, 2773480762#32, 1359893119#32, 2600822924#32, 528734635#32, 1541459225#32⟩ 64 = ⟨3188586380#32, 2827671945#32, 3045674335#32, 409098478#32, 3142546652#32, 1336302058#32, 1596572396#32, 2039477108#32⟩ := by
  show (W8.steps kW (schedW (tb blkB3)) ⟨1779033703#32, 3144134277#32, 1013904242#32, 2773480762#32, 1359893119#32, 2600822924#32, 528734635#32, 1541459225#32⟩ 63).step (kW 63) (schedW (tb blkB3) 63) = _
  rw [stB3_63, schB3_63]; kernel_rfl
theorem turnB3 : W8.turn kW ⟨1779033703#32, 3144134277#32, 1013904242#32, 2773480762#32, 1359893119#32, 2600822924#32, 528734635#32, 1541459225#32⟩ (tb blkB3) = ⟨672652787#32, 1676838926#32, 4059578577#32, 3182579240#32, 207472475#32, 3937124982#32, 2125307031#32, 3580936333#32⟩ := by
  unfold W8.turn
  rw [stB3_64]; kernel_rfl
def blkB4 : List Nat := [72, 33, 191, 199, 237, 51, 154, 30, 223, 89, 35, 56, 187, 251, 144, 170, 80, 52, 56, 210, 209, 70, 150, 56, 34, 151, 151, 203, 40, 238, 181, 252, 128, 0, 0, 0, 0, 0, 0, 0, 0, 0, 0, 0, 0, 0, 0, 0, 0, 0, 0, 0, 0, 0, 0, 0, 0, 0, 0, 0, 0, 0, 3, 0]
theorem schB4_0 : schedW (tb blkB4) 0 = 1210171335#32 := by rw [schedW_low (tb blkB4) (by omega)]; kernel_rfl
theorem schB4_1 : schedW (tb blkB4) 1 = 3979581982#32 := by rw [schedW_low (tb blkB4) (by omega)]; kernel_rfl
theorem schB4_2 : schedW (tb blkB4) 2 = 3747160888#32 := by rw [schedW_low (tb blkB4) (by omega)]; kernel_rfl
theorem schB4_3 : schedW (tb blkB4) 3 = 3153825962#32 := by rw [schedW_low (tb blkB4) (by omega)]; kernel_rfl
theorem schB4_4 : schedW (tb blkB4) 4 = 1345599698#32 := by rw [schedW_low (tb blkB4) (by omega)]; kernel_rfl
theorem schB4_5 : schedW (tb blkB4) 5 = 3511064120#32 := by rw [schedW_low (tb blkB4) (by omega)]; kernel_rfl
theorem schB4_6 : schedW (tb blkB4) 6 = 580360139#32 := by rw [schedW_low (tb blkB4) (by omega)]; kernel_rfl
theorem schB4_7 : schedW (tb blkB4) 7 = 686732796#32 := by rw [schedW_low (tb blkB4) (by omega)]; kernel_rfl
theorem schB4_8 : schedW (tb blkB4) 8 = 2147483648#32 := by rw [schedW_low (tb blkB4) (by omega)]; kernel_rfl
theorem schB4_9 : schedW (tb blkB4) 9 = 0#32 := by rw [schedW_low (tb blkB4) (by omega)]; kernel_rfl
theorem schB4_10 : schedW (tb blkB4) 10 = 0#32 := by rw [schedW_low (tb blkB4) (by omega)]; kernel_rfl
theorem schB4_11 : schedW (tb blkB4) 11 = 0#32 := by rw [schedW_low (tb blkB4) (by omega)]; kernel_rfl
theorem schB4_12 : schedW (tb blkB4) 12 = 0#32 := by rw [schedW_low (tb blkB4) (by omega)]; kernel_rfl
theorem schB4_13 : schedW (tb blkB4) 13 = 0#32 := by rw [schedW_low (tb blkB4) (by omega)]; kernel_rfl
theorem schB4_14 : schedW (tb blkB4) 14 = 0#32 := by rw [schedW_low (tb blkB4) (by omega)]; kernel_rfl
theorem schB4_15 : schedW (tb blkB4) 15 = 768#32 := by rw [schedW_low (tb blkB4) (by omega)]; kernel_rfl
theorem schB4_16 : schedW (tb blkB4) 16 = 253587202#32 := by
  rw [schedW_high (tb blkB4) (by omega)]
  show sig1 (schedW (tb blkB4) 14) + schedW (tb blkB4) 9 + sig0 (schedW (tb blkB4) 1) + schedW (tb blkB4) 0 = _
  rw [schB4_14, schB4_9, schB4_1, schB4_0]; kernel_rfl
theorem schB4_17 : schedW (tb blkB4) 17 = 296696853#32 := by
  rw [schedW_high (tb blkB4) (by omega)]
  show sig1 (schedW (tb blkB4) 15) + schedW (tb blkB4) 10 + sig0 (schedW (tb blkB4) 2) + schedW (tb blkB4) 1 = _
  rw [schB4_15, schB4_10, schB4_2, schB4_1]; kernel_rfl
theorem schB4_18 : schedW (tb blkB4) 18 = 2682114104#32 := by
  rw [schedW_high (tb blkB4) (by omega)]
  show sig1 (schedW (tb blkB4) 16) + schedW (tb blkB4) 11 + sig0 (schedW (tb blkB4) 3) + schedW (tb blkB4) 2 = _
  rw [schB4_16, schB4_11, schB4_3, schB4_2]; kernel_rfl
theorem schB4_19 : schedW (tb blkB4) 19 = 3592047933#32 := by
  rw [schedW_high (tb blkB4) (by omega)]
  show sig1 (schedW (tb blkB4) 17) + schedW (tb blkB4) 12 + sig0 (schedW (tb blkB4) 4) + schedW (tb blkB4) 3 = _
  rw [schB4_17, schB4_12, schB4_4, schB4_3]; kernel_rfl
theorem schB4_20 : schedW (tb blkB4) 20 = 1886736365#32 := by
  rw [schedW_high (tb blkB4) (by omega)]
  show sig1 (schedW (tb blkB4) 18) + schedW (tb blkB4) 13 + sig0 (schedW (tb blkB4) 5) + schedW (tb blkB4) 4 = _
  rw [schB4_18, schB4_13, schB4_5, schB4_4]; kernel_rfl
theorem schB4_21 : schedW (tb blkB4) 21 = 3090711304#32 := by
  rw [schedW_high (tb blkB4) (by omega)]
  show sig1 (schedW (tb blkB4) 19) + schedW (tb blkB4) 14 + sig0 (schedW (tb blkB4) 6) + schedW (tb blkB4) 5 = _
  rw [schB4_19, schB4_14, schB4_6, schB4_5]; kernel_rfl
theorem schB4_22 : schedW (tb blkB4) 22 = 2162272289#32 := by
  rw [schedW_high (tb blkB4) (by omega)]
  show sig1 (schedW (tb blkB4) 20) + schedW (tb blkB4) 15 + sig0 (schedW (tb blkB4) 7) + schedW (tb blkB4) 6 = _
  rw [schB4_20, schB4_15, schB4_7, schB4_6]; kernel_rfl
theorem schB4_23 : schedW (tb blkB4) 23 = 2597816889#32 := by
  rw [schedW_high (tb blkB4) (by omega)]
  show sig1 (schedW (tb blkB4) 21) + schedW (tb blkB4) 16 + sig0 (schedW (tb blkB4) 8) + schedW (tb blkB4) 7 = _
  rw [schB4_21, schB4_16, schB4_8, schB4_7]; kernel_rfl
theorem schB4_24 : schedW (tb blkB4) 24 = 1927545883#32 := by
  rw [schedW_high (tb blkB4) (by omega)]
  show sig1 (schedW (tb blkB4) 22) + schedW (tb blkB4) 17 + sig0 (schedW (tb blkB4) 9) + schedW (tb blkB4) 8 = _
  rw [schB4_22, schB4_17, schB4_9, schB4_8]; kernel_rfl
theorem schB4_25 : schedW (tb blkB4) 25 = 3562740747#32 := by
  rw [schedW_high (tb blkB4) (by omega)]
  show sig1 (schedW (tb blkB4) 23) + schedW (tb blkB4) 18 + sig0 (schedW (tb blkB4) 10) + schedW (tb blkB4) 9 = _
  rw [schB4_23, schB4_18, schB4_10, schB4_9]; kernel_rfl
theorem schB4_26 : schedW (tb blkB4) 26 = 1487715180#32 := by
  rw [schedW_high (tb blkB4) (by omega)]
  show sig1 (schedW (tb blkB4) 24) + schedW (tb blkB4) 19 + sig0 (schedW (tb blkB4) 11) + schedW (tb blkB4) 10 = _
  rw [schB4_24, schB4_19, schB4_11, schB4_10]; kernel_rfl
theorem schB4_27 : schedW (tb blkB4) 27 = 1579603534#32 := by
  rw [schedW_high (tb blkB4) (by omega)]
  show sig1 (schedW (tb blkB4) 25) + schedW (tb blkB4) 20 + sig0 (schedW (tb blkB4) 12) + schedW (tb blkB4) 11 = _
  rw [schB4_25, schB4_20, schB4_12, schB4_11]; kernel_rfl
theorem schB4_28 : schedW (tb blkB4) 28 = 2198212469#32 := by
  rw [schedW_high (tb blkB4) (by omega)]
  show sig1 (schedW (tb blkB4) 26) + schedW (tb blkB4) 21 + sig0 (schedW (tb blkB4) 13) + schedW (tb blkB4) 12 = _
  rw [schB4_26, schB4_21, schB4_13, schB4_12]; kernel_rfl
theorem schB4_29 : schedW (tb blkB4) 29 = 853218691#32 := by
  rw [schedW_high (tb blkB4) (by omega)]
  show sig1 (schedW (tb blkB4) 27) + schedW (tb blkB4) 22 + sig0 (schedW (tb blkB4) 14) + schedW (tb blkB4) 13 = _
  rw [schB4_27, schB4_22, schB4_14, schB4_13]; kernel_rfl
theorem schB4_30 : schedW (tb blkB4) 30 = 1644968703#32 := by
  rw [schedW_high (tb blkB4) (by omega)]
  show sig1 (schedW (tb blkB4) 28) + schedW (tb blkB4) 23 + sig0 (schedW (tb blkB4) 15) + schedW (tb blkB4) 14 = _
  rw [schB4_28, schB4_23, schB4_15, schB4_14]; kernel_rfl
theorem schB4_31 : schedW (tb blkB4) 31 = 3114165767#32 := by
  rw [schedW_high (tb blkB4) (by omega)]
  show sig1 (schedW (tb blkB4) 29) + schedW (tb blkB4) 24 + sig0 (schedW (tb blkB4) 16) + schedW (tb blkB4) 15 = _
  rw [schB4_29, schB4_24, schB4_16, schB4_15]; kernel_rfl
theorem schB4_32 : schedW (tb blkB4) 32 = 1690658535#32 := by
  rw [schedW_high (tb blkB4) (by omega)]
  show sig1 (schedW (tb blkB4) 30) + schedW (tb blkB4) 25 + sig0 (schedW (tb blkB4) 17) + schedW (tb blkB4) 16 = _
  rw [schB4_30, schB4_25, schB4_17, schB4_16]; kernel_rfl
theorem schB4_33 : schedW (tb blkB4) 33 = 2165533238#32 := by
  rw [schedW_high (tb blkB4) (by omega)]
  show sig1 (schedW (tb blkB4) 31) + schedW (tb blkB4) 26 + sig0 (schedW (tb blkB4) 18) + schedW (tb blkB4) 17 = _
  rw [schB4_31, schB4_26, schB4_18, schB4_17]; kernel_rfl
theorem schB4_34 : schedW (tb blkB4) 34 = 266018532#32 := by
  rw [schedW_high (tb blkB4) (by omega)]
  show sig1 (schedW (tb blkB4) 32) + schedW (tb blkB4) 27 + sig0 (schedW (tb blkB4) 19) + schedW (tb blkB4) 18 = _
  rw [schB4_32, schB4_27, schB4_19, schB4_18]; kernel_rfl
theorem schB4_35 : schedW (tb blkB4) 35 = 3098759330#32 := by
  rw [schedW_high (tb blkB4) (by omega)]
  show sig1 (schedW (tb blkB4) 33) + schedW (tb blkB4) 28 + sig0 (schedW (tb blkB4) 20) + schedW (tb blkB4) 19 = _
  rw [schB4_33, schB4_28, schB4_20, schB4_19]; kernel_rfl
theorem schB4_36 : schedW (tb blkB4) 36 = 3065193898#32 := by
  rw [schedW_high (tb blkB4) (by omega)]
  show sig1 (schedW (tb blkB4) 34) + schedW (tb blkB4) 29 + sig0 (schedW (tb blkB4) 21) + schedW (tb blkB4) 20 = _
  rw [schB4_34, schB4_29, schB4_21, schB4_20]; kernel_rfl
theorem schB4_37 : schedW (tb blkB4) 37 = 365263886#32 := by
  rw [schedW_high (tb blkB4) (by omega)]
  show sig1 (schedW (tb blkB4) 35) + schedW (tb blkB4) 30 + sig0 (schedW (tb blkB4) 22) + schedW (tb blkB4) 21 = _
  rw [schB4_35, schB4_30, schB4_22, schB4_21]; kernel_rfl
theorem schB4_38 : schedW (tb blkB4) 38 = 3014584404#32 := by
  rw [schedW_high (tb blkB4) (by omega)]
  show sig1 (schedW (tb blkB4) 36) + schedW (tb blkB4) 31 + sig0 (schedW (tb blkB4) 23) + schedW (tb blkB4) 22 = _
  rw [schB4_36, schB4_31, schB4_23, schB4_22]; kernel_rfl
theorem schB4_39 : schedW (tb blkB4) 39 = 1256210007#32 := by
  rw [schedW_high (tb blkB4) (by omega)]
  show sig1 (schedW (tb blkB4) 37) + schedW (tb blkB4) 32 + sig0 (schedW (tb blkB4) 24) + schedW (tb blkB4) 23 = _
  rw [schB4_37, schB4_32, schB4_24, schB4_23]; kernel_rfl
theorem schB4_40 : schedW (tb blkB4) 40 = 1730458392#32 := by
  rw [schedW_high (tb blkB4) (by omega)]
  show sig1 (schedW (tb blkB4) 38) + schedW (tb blkB4) 33 + sig0 (schedW (tb blkB4) 25) + schedW (tb blkB4) 24 = _
  rw [schB4_38, schB4_33, schB4_25, schB4_24]; kernel_rfl
theorem schB4_41 : schedW (tb blkB4) 41 = 4205446978#32 := by
  rw [schedW_high (tb blkB4) (by omega)]
  show sig1 (schedW (tb blkB4) 39) + schedW (tb blkB4) 34 + sig0 (schedW (tb blkB4) 26) + schedW (tb blkB4) 25 = _
  rw [schB4_39, schB4_34, schB4_26, schB4_25]; kernel_rfl
theorem schB4_42 : schedW (tb blkB4) 42 = 71435092#32 := by
  rw [schedW_high (tb blkB4) (by omega)]
  show sig1 (schedW (tb blkB4) 40) + schedW (tb blkB4) 35 + sig0 (schedW (tb blkB4) 27) + schedW (tb blkB4) 26 = _
  rw [schB4_40, schB4_35, schB4_27, schB4_26]; kernel_rfl
theorem schB4_43 : schedW (tb blkB4) 43 = 3507302826#32 := by
  rw [schedW_high (tb blkB4) (by omega)]
  show sig1 (schedW (tb blkB4) 41) + schedW (tb blkB4) 36 + sig0 (schedW (tb blkB4) 28) + schedW (tb blkB4) 27 = _
  rw [schB4_41, schB4_36, schB4_28, schB4_27]; kernel_rfl
theorem schB4_44 : schedW (tb blkB4) 44 = 2682992089#32 := by
  rw [schedW_high (tb blkB4) (by omega)]
  show sig1 (schedW (tb blkB4) 42) + schedW (tb blkB4) 37 + sig0 (schedW (tb blkB4) 29) + schedW (tb blkB4) 28 = _
  rw [schB4_42, schB4_37, schB4_29, schB4_28]; kernel_rfl
theorem schB4_45 : schedW (tb blkB4) 45 = 563656555#32 := by
  rw [schedW_high (tb blkB4) (by omega)]
  show sig1 (schedW (tb blkB4) 43) + schedW (tb blkB4) 38 + sig0 (schedW (tb blkB4) 30) + schedW (tb blkB4) 29 = _
  rw [schB4_43, schB4_38, schB4_30, schB4_29]; kernel_rfl
theorem schB4_46 : schedW (tb blkB4) 46 = 723361414#32 := by
  rw [schedW_high (tb blkB4) (by omega)]
  show sig1 (schedW (tb blkB4) 44) + schedW (tb blkB4) 39 + sig0 (schedW (tb blkB4) 31) + schedW (tb blkB4) 30 = _
  rw [schB4_44, schB4_39, schB4_31, schB4_30]; kernel_rfl
theorem schB4_47 : schedW (tb blkB4) 47 = 167553809#32 := by
  rw [schedW_high (tb blkB4) (by omega)]
  show sig1 (schedW (tb blkB4) 45) + schedW (tb blkB4) 40 + sig0 (schedW (tb blkB4) 32) + schedW (tb blkB4) 31 = _
  rw [schB4_45, schB4_40, schB4_32, schB4_31]; kernel_rfl
theorem schB4_48 : schedW (tb blkB4) 48 = 2209771913#32 := by
  rw [schedW_high (tb blkB4) (by omega)]
  show sig1 (schedW (tb blkB4) 46) + schedW (tb blkB4) 41 + sig0 (schedW (tb blkB4) 33) + schedW (tb blkB4) 32 = _
  rw [schB4_46, schB4_41, schB4_33, schB4_32]; kernel_rfl
theorem schB4_49 : schedW (tb blkB4) 49 = 1419517580#32 := by
  rw [schedW_high (tb blkB4) (by omega)]
  show sig1 (schedW (tb blkB4) 47) + schedW (tb blkB4) 42 + sig0 (schedW (tb blkB4) 34) + schedW (tb blkB4) 33 = _
  rw [schB4_47, schB4_42, schB4_34, schB4_33]; kernel_rfl
theorem schB4_50 : schedW (tb blkB4) 50 = 1577914200#32 := by
  rw [schedW_high (tb blkB4) (by omega)]
  show sig1 (schedW (tb blkB4) 48) + schedW (tb blkB4) 43 + sig0 (schedW (tb blkB4) 35) + schedW (tb blkB4) 34 = _
  rw [schB4_48, schB4_43, schB4_35, schB4_34]; kernel_rfl
theorem schB4_51 : schedW (tb blkB4) 51 = 1878179239#32 := by
  rw [schedW_high (tb blkB4) (by omega)]
  show sig1 (schedW (tb blkB4) 49) + schedW (tb blkB4) 44 + sig0 (schedW (tb blkB4) 36) + schedW (tb blkB4) 35 = _
  rw [schB4_49, schB4_44, schB4_36, schB4_35]; kernel_rfl
theorem schB4_52 : schedW (tb blkB4) 52 = 1076700321#32 := by
  rw [schedW_high (tb blkB4) (by omega)]
  show sig1 (schedW (tb blkB4) 50) + schedW (tb blkB4) 45 + sig0 (schedW (tb blkB4) 37) + schedW (tb blkB4) 36 = _
  rw [schB4_50, schB4_45, schB4_37, schB4_36]; kernel_rfl
theorem schB4_53 : schedW (tb blkB4) 53 = 1332178285#32 := by
  rw [schedW_high (tb blkB4) (by omega)]
  show sig1 (schedW (tb blkB4) 51) + schedW (tb blkB4) 46 + sig0 (schedW (tb blkB4) 38) + schedW (tb blkB4) 37 = _
  rw [schB4_51, schB4_46, schB4_38, schB4_37]; kernel_rfl
theorem schB4_54 : schedW (tb blkB4) 54 = 2631674829#32 := by
  rw [schedW_high (tb blkB4) (by omega)]
  show sig1 (schedW (tb blkB4) 52) + schedW (tb blkB4) 47 + sig0 (schedW (tb blkB4) 39) + schedW (tb blkB4) 38 = _
  rw [schB4_52, schB4_47, schB4_39, schB4_38]; kernel_rfl
theorem schB4_55 : schedW (tb blkB4) 55 = 982273584#32 := by
  rw [schedW_high (tb blkB4) (by omega)]
  show sig1 (schedW (tb blkB4) 53) + schedW (tb blkB4) 48 + sig0 (schedW (tb blkB4) 40) + schedW (tb blkB4) 39 = _
  rw [schB4_53, schB4_48, schB4_40, schB4_39]; kernel_rfl
theorem schB4_56 : schedW (tb blkB4) 56 = 1743374063#32 := by
  rw [schedW_high (tb blkB4) (by omega)]
  show sig1 (schedW (tb blkB4) 54) + schedW (tb blkB4) 49 + sig0 (schedW (tb blkB4) 41) + schedW (tb blkB4) 40 = _
  rw [schB4_54, schB4_49, schB4_41, schB4_40]; kernel_rfl
theorem schB4_57 : schedW (tb blkB4) 57 = 803050778#32 := by
  rw [schedW_high (tb blkB4) (by omega)]
  show sig1 (schedW (tb blkB4) 55) + schedW (tb blkB4) 50 + sig0 (schedW (tb blkB4) 42) + schedW (tb blkB4) 41 = _
  rw [schB4_55, schB4_50, schB4_42, schB4_41]; kernel_rfl
theorem schB4_58 : schedW (tb blkB4) 58 = 1406234248#32 := by
  rw [schedW_high (tb blkB4) (by omega)]
  show sig1 (schedW (tb blkB4) 56) + schedW (tb blkB4) 51 + sig0 (schedW (tb blkB4) 43) + schedW (tb blkB4) 42 = _
  rw [schB4_56, schB4_51, schB4_43, schB4_42]; kernel_rfl
theorem schB4_59 : schedW (tb blkB4) 59 = 4145337061#32 := by
  rw [schedW_high (tb blkB4) (by omega)]
  show sig1 (schedW (tb blkB4) 57) + schedW (tb blkB4) 52 + sig0 (schedW (tb blkB4) 44) + schedW (tb blkB4) 43 = _
  rw [schB4_57, schB4_52, schB4_44, schB4_43]; kernel_rfl
theorem schB4_60 : schedW (tb blkB4) 60 = 2306829044#32 := by
  rw [schedW_high (tb blkB4) (by omega)]
  show sig1 (schedW (tb blkB4) 58) + schedW (tb blkB4) 53 + sig0 (schedW (tb blkB4) 45) + schedW (tb blkB4) 44 = _
  rw [schB4_58, schB4_53, schB4_45, schB4_44]; kernel_rfl
theorem schB4_61 : schedW (tb blkB4) 61 = 538731966#32 := by
  rw [schedW_high (tb blkB4) (by omega)]
  show sig1 (schedW (tb blkB4) 59) + schedW (tb blkB4) 54 + sig0 (schedW (tb blkB4) 46) + schedW (tb blkB4) 45 = _
  rw [schB4_59, schB4_54, schB4_46, schB4_45]; kernel_rfl
theorem schB4_62 : schedW (tb blkB4) 62 = 3348669771#32 := by
  rw [schedW_high (tb blkB4) (by omega)]
  show sig1 (schedW (tb blkB4) 60) + schedW (tb blkB4) 55 + sig0 (schedW (tb blkB4) 47) + schedW (tb blkB4) 46 = _
  rw [schB4_60, schB4_55, schB4_47, schB4_46]; kernel_rfl
theorem schB4_63 : schedW (tb blkB4) 63 = 3478849363#32 := by
  rw [schedW_high (tb blkB4) (by omega)]
  show sig1 (schedW (tb blkB4) 61) + schedW (tb blkB4) 56 + sig0 (schedW (tb blkB4) 48) + schedW (tb blkB4) 47 = _
  rw [schB4_61, schB4_56, schB4_48, schB4_47]; kernel_rfl
theorem stB4_0 : W8.steps kW (schedW (tb blkB4)) ⟨672652787#32, 1676838926#32, 4059578577#32, 3182579240#32, 207472475#32, 3937124982#32, 2125307031#32, 3580936333#32⟩ 0 = ⟨672652787#32, 1676838926#32, 4059578577#32, 3182579240#32, 207472475#32, 3937124982#32, 2125307031#32, 3580936333#32⟩ := rfl
theorem stB4_1 : W8.steps kW (schedW (tb blkB4)) ⟨672652787#32, 1676838926#32, 4059578577#32, 3182579240#32, 207472475#32, 3937124982#32, 2125307031#32, 3580936333#32⟩ 1 = ⟨1633165338#32, 672652787#32, 1676838926#32, 4059578577#32, 1110190605#32, 207472475#32, 3937124982#32, 2125307031#32⟩ := by
  show (W8.steps kW (schedW (tb blkB4)) ⟨672652787#32, 1676838926#32, 4059578577#32, 3182579240#32, 207472475#32, 3937124982#32, 2125307031#32, 3580936333#32⟩ 0).step (kW 0) (schedW (tb blkB4) 0) = _
  rw [stB4_0, schB4_0]; kernel_rfl
theorem stB4_2 : W8.steps kW (schedW (tb blkB4)) ⟨672652787#32, 1676838926#32, 4059578577#32, 3182579240#32, 207472475#32, 3937124982#32, 2125307031#32, 3580936333#32⟩ 2 = ⟨1102455977#32, 1633165338#32, 672652787#32, 1676838926#32, 3663098398#32, 1110190605#32, 207472475#32, 3937124982#32⟩ := by
  show (W8.steps kW (schedW (tb blkB4)) ⟨672652787#32, 1676838926#32, 4059578577#32, 3182579240#32, 207472475#32, 3937124982#32, 2125307031#32, 3580936333#32⟩ 1).step (kW 1) (schedW (tb blkB4) 1) = _
  rw [stB4_1, schB4_1]; kernel_rfl
theorem stB4_3 : W8.steps kW (schedW (tb blkB4)) ⟨672652787#32, 1676838926#32, 4059578577#32, 3182579240#32, 207472475#32, 3937124982#32, 2125307031#32, 3580936333#32⟩ 3 = ⟨3895061389#32, 1102455977#32, 1633165338#32, 672652787#32, 1028730179#32, 3663098398#32, 1110190605#32, 207472475#32⟩ := by
  show (W8.steps kW (schedW (tb blkB4)) ⟨672652787#32, 1676838926#32, 4059578577#32, 3182579240#32, 207472475#32, 3937124982#32, 2125307031#32, 3580936333#32⟩ 2).step (kW 2) (schedW (tb blkB4) 2) = _
  rw [stB4_2, schB4_2]; kernel_rfl
theorem stB4_4 : W8.steps kW (schedW (tb blkB4)) ⟨672652787#32, 1676838926#32, 4059578577#32, 3182579240#32, 207472475#32, 3937124982#32, 2125307031#32, 3580936333#32⟩ 4 = ⟨4220703067#32, 3895061389#32, 1102455977#32, 1633165338#32, 1084719801#32, 1028730179#32, 3663098398#32, 1110190605#32⟩ := by
  show (W8.steps kW (schedW (tb blkB4)) ⟨672652787#32, 1676838926#32, 4059578577#32, 3182579240#32, 207472475#32, 3937124982#32, 2125307031#32, 3580936333#32⟩ 3).step (kW 3) (schedW (tb blkB4) 3) = _
  rw [stB4_3, schB4_3]; kernel_rfl
theorem stB4_5 : W8.steps kW (schedW (tb blkB4)) ⟨672652787#32, 1676838926#32, 4059578577#32, 3182579240#32, 207472475#32, 3937124982#32, 2125307031#32, 3580936333#32⟩ 5 = ⟨1898271826#32, 4220703067#32, 3895061389#32, 1102455977#32, 2840366005#32, 1084719801#32, 1028730179#32, 3663098398#32⟩ := by
  show (W8.steps kW (schedW (tb blkB4)) ⟨672652787#32, 1676838926#32, 4059578577#32, 3182579240#32, 207472475#32, 3937124982#32, 2125307031#32, 3580936333#32⟩ 4).step (kW 4) (schedW (tb blkB4) 4) = _
  rw [stB4_4, schB4_4]; kernel_rfl
theorem stB4_6 : W8.steps kW (schedW (tb blkB4)) ⟨672652787#32, 1676838926#32, 4059578577#32, 3182579240#32, 207472475#32, 3937124982#32, 2125307031#32, 3580936333#32⟩ 6 = ⟨3299273210#32, 1898271826#32, 4220703067#32, 3895061389#32, 1638901582#32, 2840366005#32, 1084719801#32, 1028730179#32⟩ := by
  show (W8.steps kW (schedW (tb blkB4)) ⟨672652787#32, 1676838926#32, 4059578577#32, 3182579240#32, 207472475#32, 3937124982#32, 2125307031#32, 3580936333#32⟩ 5).step (kW 5) (schedW (tb blkB4) 5) = _
  rw [stB4_5, schB4_5]; kernel_rfl
theorem stB4_7 : W8.steps kW (schedW (tb blkB4)) ⟨672652787#32, 1676838926#32, 4059578577#32, 3182579240#32, 207472475#32, 3937124982#32, 2125307031#32, 3580936333#32⟩ 7 = ⟨1909276021#32, 3299273210#32, 1898271826#32, 4220703067#32, 49800013#32, 1638901582#32, 2840366005#32, 1084719801#32⟩ := by
  show (W8.steps kW (schedW (tb blkB4)) ⟨672652787#32, 1676838926#32, 4059578577#32, 3182579240#32, 207472475#32, 3937124982#32, 2125307031#32, 3580936333#32⟩ 6).step (kW 6) (schedW (tb blkB4) 6) = _
  rw [stB4_6, schB4_6]; kernel_rfl
theorem stB4_8 : W8.steps kW (schedW (tb blkB4)) ⟨672652787#32, 1676838926#32, 4059578577#32, 3182579240#32, 207472475#32, 3937124982#32, 2125307031#32, 3580936333#32⟩ 8 = ⟨3650026971#32, 1909276021#32, 3299273210#32, 1898271826#32, 3763289297#32, 49800013#32, 1638901582#32, 2840366005#32⟩ := by
  show (W8.steps kW (schedW (tb blkB4)) ⟨672652787#32, 1676838926#32, 4059578577#32, 3182579240#32, 207472475#32, 3937124982#32, 2125307031#32, 3580936333#32⟩ 7).step (kW 7) (schedW (tb blkB4) 7) = _
  rw [stB4_7, schB4_7]; kernel_rfl
theorem stB4_9 : W8.steps kW (schedW (tb blkB4)) ⟨672652787#32, 1676838926#32, 4059578577#32, 3182579240#32, 207472475#32, 3937124982#32, 2125307031#32, 3580936333#32⟩ 9 = ⟨4063777250#32, 3650026971#32, 1909276021#32, 3299273210#32, 1854180306#32, 3763289297#32, 49800013#32, 1638901582#32⟩ := by
  show (W8.steps kW (schedW (tb blkB4)) ⟨672652787#32, 1676838926#32, 4059578577#32, 3182579240#32, 207472475#32, 3937124982#32, 2125307031#32, 3580936333#32⟩ 8).step (kW 8) (schedW (tb blkB4) 8) = _
  rw [stB4_8, schB4_8]; kernel_rfl
theorem stB4_10 : W8.steps kW (schedW (tb blkB4)) ⟨672652787#32, 1676838926#32, 4059578577#32, 3182579240#32, 207472475#32, 3937124982#32, 2125307031#32, 3580936333#32⟩ 10 = ⟨180822810#32, 4063777250#32, 3650026971#32, 1909276021#32, 184778927#32, 1854180306#32, 3763289297#32, 49800013#32⟩ := by
  show (W8.steps kW (schedW (tb blkB4)) ⟨672652787#32, 1676838926#32, 4059578577#32, 3182579240#32, 207472475#32, 3937124982#32, 2125307031#32, 3580936333#32⟩ 9).step (kW 9) (schedW (tb blkB4) 9) = _
  rw [stB4_9, schB4_9]; kernel_rfl
theorem stB4_11 : W8.steps kW (schedW (tb blkB4)) ⟨672652787#32, 1676838926#32, 4059578577#32, 3182579240#32, 207472475#32, 3937124982#32, 2125307031#32, 3580936333#32⟩ 11 = ⟨2600454274#32, 180822810#32, 4063777250#32, 3650026971#32, 2874187081#32, 184778927#32, 1854180306#32, 3763289297#32⟩ := by
  show (W8.steps kW (schedW (tb blkB4)) ⟨672652787#32, 1676838926#32, 4059578577#32, 3182579240#32, 207472475#32, 3937124982#32, 2125307031#32, 3580936333#32⟩ 10).step (kW 10) (schedW (tb blkB4) 10) = _
  rw [stB4_10, schB4_10]; kernel_rfl
theorem stB4_12 : W8.steps kW (schedW (tb blkB4)) ⟨672652787#32, 1676838926#32, 4059578577#32, 3182579240#32, 207472475#32, 3937124982#32, 2125307031#32, 3580936333#32⟩ 12 = ⟨1698642713#32, 2600454274#32, 180822810#32, 4063777250#32, 2252720061#32, 2874187081#32, 184778927#32, 1854180306#32⟩ := by
  show (W8.steps kW (schedW (tb blkB4)) ⟨672652787#32, 1676838926#32, 4059578577#32, 3182579240#32, 207472475#32, 3937124982#32, 2125307031#32, 3580936333#32⟩ 11).step (kW 11) (schedW (tb blkB4) 11) = _
  rw [stB4_11, schB4_11]; kernel_rfl
theorem stB4_13 : W8.steps kW (schedW (tb blkB4)) ⟨672652787#32, 1676838926#32, 4059578577#32, 3182579240#32, 207472475#32, 3937124982#32, 2125307031#32, 3580936333#32⟩ 13 = ⟨406265211#32, 1698642713#32, 2600454274#32, 180822810#32, 2181546392#32, 2252720061#32, 2874187081#32, 184778927#32⟩ := by
  show (W8.steps kW (schedW (tb blkB4)) ⟨672652787#32, 1676838926#32, 4059578577#32, 3182579240#32, 207472475#32, 3937124982#32, 2125307031#32, 3580936333#32⟩ 12).step (kW 12) (schedW (tb blkB4) 12) = _
  rw [stB4_12, schB4_12]; kernel_rfl
theorem stB4_14 : W8.steps kW (schedW (tb blkB4)) ⟨672652787#32, 1676838926#32, 4059578577#32, 3182579240#32, 207472475#32, 3937124982#32, 2125307031#32, 3580936333#32⟩ 14 = ⟨2484119526#32, 406265211#32, 1698642713#32, 2600454274#32, 2499266399#32, 2181546392#32, 2252720061#32, 2874187081#32⟩ := by
  show (W8.steps kW (schedW (tb blkB4)) ⟨672652787#32, 1676838926#32, 4059578577#32, 3182579240#32, 207472475#32, 3937124982#32, 2125307031#32, 3580936333#32⟩ 13).step (kW 13) (schedW (tb blkB4) 13) = _
  rw [stB4_13, schB4_13]; kernel_rfl
theorem stB4_15 : W8.steps kW (schedW (tb blkB4)) ⟨672652787#32, 1676838926#32, 4059578577#32, 3182579240#32, 207472475#32, 3937124982#32, 2125307031#32, 3580936333#32⟩ 15 = ⟨2757600894#32, 2484119526#32, 406265211#32, 1698642713#32, 1383537753#32, 2499266399#32, 2181546392#32, 2252720061#32⟩ := by
  show (W8.steps kW (schedW (tb blkB4)) ⟨672652787#32, 1676838926#32, 4059578577#32, 3182579240#32, 207472475#32, 3937124982#32, 2125307031#32, 3580936333#32⟩ 14).step (kW 14) (schedW (tb blkB4) 14) = _
  rw [stB4_14, schB4_14]; kernel_rfl
theorem stB4_16 : W8.steps kW (schedW (tb blkB4)) ⟨672652787#32, 1676838926#32, 4059578577#32, 3182579240#32, 207472475#32, 3937124982#32, 2125307031#32, 3580936333#32⟩ 16 = ⟨785947046#32, 2757600894#32, 2484119526#32, 406265211#32, 327580510#32, 1383537753#32, 2499266399#32, 2181546392#32⟩ := by
  show (W8.steps kW (schedW (tb blkB4)) ⟨672652787#32, 1676838926#32, 4059578577#32, 3182579240#32, 207472475#32, 3937124982#32, 2125307031#32, 3580936333#32⟩ 15).step (kW 15) (schedW (tb blkB4) 15) = _
  rw [stB4_15, schB4_15]; kernel_rfl
theorem stB4_17 : W8.steps kW (schedW (tb blkB4)) ⟨672652787#32, 1676838926#32, 4059578577#32, 3182579240#32, 207472475#32, 3937124982#32, 2125307031#32, 3580936333#32⟩ 17 = ⟨2787405019#32, 785947046#32, 2757600894#32, 2484119526#32, 4112587354#32, 327580510#32, 1383537753#32, 2499266399#32⟩ := by
  show (W8.steps kW (schedW (tb blkB4)) ⟨672652787#32, 1676838926#32, 4059578577#32, 3182579240#32, 207472475#32, 3937124982#32, 2125307031#32, 3580936333#32⟩ 16).step (kW 16) (schedW (tb blkB4) 16) = _
  rw [stB4_16, schB4_16]; kernel_rfl
theorem stB4_18 : W8.steps kW (schedW (tb blkB4)) ⟨672652787#32, 1676838926#32, 4059578577#32, 3182579240#32, 207472475#32, 3937124982#32, 2125307031#32, 3580936333#32⟩ 18 = ⟨520513552#32, 2787405019#32, 785947046#32, 2757600894#32, 3990036075#32, 4112587354#32, 327580510#32, 1383537753#32⟩ := by
  show (W8.steps kW (schedW (tb blkB4)) ⟨672652787#32, 1676838926#32, 4059578577#32, 3182579240#32, 207472475#32, 3937124982#32, 2125307031#32, 3580936333#32⟩ 17).step (kW 17) (schedW (tb blkB4) 17) = _
  rw [stB4_17, schB4_17]; kernel_rfl
theorem stB4_19 : W8.steps kW (schedW (tb blkB4)) ⟨672652787#32, 1676838926#32, 4059578577#32, 3182579240#32, 207472475#32, 3937124982#32, 2125307031#32, 3580936333#32⟩ 19 = ⟨289887358#32, 520513552#32, 2787405019#32, 785947046#32, 683634719#32, 3990036075#32, 4112587354#32, 327580510#32⟩ := by
  show (W8.steps kW (schedW (tb blkB4)) ⟨672652787#32, 1676838926#32, 4059578577#32, 3182579240#32, 207472475#32, 3937124982#32, 2125307031#32, 3580936333#32⟩ 18).step (kW 18) (schedW (tb blkB4) 18) = _
  rw [stB4_18, schB4_18]; kernel_rfl
theorem stB4_20 : W8.steps kW (schedW (tb blkB4)) ⟨672652787#32, 1676838926#32, 4059578577#32, 3182579240#32, 207472475#32, 3937124982#32, 2125307031#32, 3580936333#32⟩ 20 = ⟨2117565990#32, 289887358#32, 520513552#32, 2787405019#32, 1528366098#32, 683634719#32, 3990036075#32, 4112587354#32⟩ := by
  show (W8.steps kW (schedW (tb blkB4)) ⟨672652787#32, 1676838926#32, 4059578577#32, 3182579240#32, 207472475#32, 3937124982#32, 2125307031#32, 3580936333#32⟩ 19).step (kW 19) (schedW (tb blkB4) 19) = _
  rw [stB4_19, schB4_19]; kernel_rfl
theorem stB4_21 : W8.steps kW (schedW (tb blkB4)) ⟨672652787#32, 1676838926#32, 4059578577#32, 3182579240#32, 207472475#32, 3937124982#32, 2125307031#32, 3580936333#32⟩ 21 = ⟨1515057998#32, 2117565990#32, 289887358#32, 520513552#32, 774122537#32, 1528366098#32, 683634719#32, 3990036075#32⟩ := by
  show (W8.steps kW (schedW (tb blkB4)) ⟨672652787#32, 1676838926#32, 4059578577#32, 3182579240#32, 207472475#32, 3937124982#32, 2125307031#32, 3580936333#32⟩ 20).step (kW 20) (schedW (tb blkB4) 20) = _
  rw [stB4_20, schB4_20]; kernel_rfl
theorem stB4_22 : W8.steps kW (schedW (tb blkB4)) ⟨672652787#32, 1676838926#32, 4059578577#32, 3182579240#32, 207472475#32, 3937124982#32, 2125307031#32, 3580936333#32⟩ 22 = ⟨3290089752#32, 1515057998#32, 2117565990#32, 289887358#32, 1303192293#32, 774122537#32, 1528366098#32, 683634719#32⟩ := by
  show (W8.steps kW (schedW (tb blkB4)) ⟨672652787#32, 1676838926#32, 4059578577#32, 3182579240#32, 207472475#32, 3937124982#32, 2125307031#32, 3580936333#32⟩ 21).step (kW 21) (schedW (tb blkB4) 21) = _
  rw [stB4_21, schB4_21]; kernel_rfl
theorem stB4_23 : W8.steps kW (schedW (tb blkB4)) ⟨672652787#32, 1676838926#32, 4059578577#32, 3182579240#32, 207472475#32, 3937124982#32, 2125307031#32, 3580936333#32⟩ 23 = ⟨3029943910#32, 3290089752#32, 1515057998#32, 2117565990#32, 1423683158#32, 1303192293#32, 774122537#32, 1528366098#32⟩ := by
  show (W8.steps kW (schedW (tb blkB4)) ⟨672652787#32, 1676838926#32, 4059578577#32, 3182579240#32, 207472475#32, 3937124982#32, 2125307031#32, 3580936333#32⟩ 22).step (kW 22) (schedW (tb blkB4) 22) = _
  rw [stB4_22, schB4_22]; kernel_rfl
theorem stB4_24 : W8.steps kW (schedW (tb blkB4)) ⟨672652787#32, 1676838926#32, 4059578577#32, 3182579240#32, 207472475#32, 3937124982#32, 2125307031#32, 3580936333#32⟩ 24 = ⟨2836024135#32, 3029943910#32, 3290089752#32, 1515057998#32, 1478334110#32, 1423683158#32, 1303192293#32, 774122537#32⟩ := by
  show (W8.steps kW (schedW (tb blkB4)) ⟨672652787#32, 1676838926#32, 4059578577#32, 3182579240#32, 207472475#32, 3937124982#32, 2125307031#32, 3580936333#32⟩ 23).step (kW 23) (schedW (tb blkB4) 23) = _
  rw [stB4_23, schB4_23]; kernel_rfl
theorem stB4_25 : W8.steps kW (schedW (tb blkB4)) ⟨672652787#32, 1676838926#32, 4059578577#32, 3182579240#32, 207472475#32, 3937124982#32, 2125307031#32, 3580936333#32⟩ 25 = ⟨1892512318#32, 2836024135#32, 3029943910#32, 3290089752#32, 2377012767#32, 1478334110#32, 1423683158#32, 1303192293#32⟩ := by
  show (W8.steps kW (schedW (tb blkB4)) ⟨672652787#32, 1676838926#32, 4059578577#32, 3182579240#32, 207472475#32, 3937124982#32, 2125307031#32, 3580936333#32⟩ 24).step (kW 24) (schedW (tb blkB4) 24) = _
  rw [stB4_24, schB4_24]; kernel_rfl
theorem stB4_26 : W8.steps kW (schedW (tb blkB4)) ⟨672652787#32, 1676838926#32, 4059578577#32, 3182579240#32, 207472475#32, 3937124982#32, 2125307031#32, 3580936333#32⟩ 26 = ⟨1981099164#32, 1892512318#32, 2836024135#32, 3029943910#32, 1369346087#32, 2377012767#32, 1478334110#32, 1423683158#32⟩ := by
  show (W8.steps kW (schedW (tb blkB4)) ⟨672652787#32, 1676838926#32, 4059578577#32, 3182579240#32, 207472475#32, 3937124982#32, 2125307031#32, 3580936333#32⟩ 25).step (kW 25) (schedW (tb blkB4) 25) = _
  rw [stB4_25, schB4_25]; kernel_rfl
theorem stB4_27 : W8.steps kW (schedW (tb blkB4)) ⟨672652787#32, 1676838926#32, 4059578577#32, 3182579240#32, 207472475#32, 3937124982#32, 2125307031#32, 3580936333#32⟩ 27 = ⟨1541469911#32, 1981099164#32, 1892512318#32, 2836024135#32, 1922582729#32, 1369346087#32, 2377012767#32, 1478334110#32⟩ := by
  show (W8.steps kW (schedW (tb blkB4)) ⟨672652787#32, 1676838926#32, 4059578577#32, 3182579240#32, 207472475#32, 3937124982#32, 2125307031#32, 3580936333#32⟩ 26).step (kW 26) (schedW (tb blkB4) 26) = _
  rw [stB4_26, schB4_26]; kernel_rfl
theorem stB4_28 : W8.steps kW (schedW (tb blkB4)) ⟨672652787#32, 1676838926#32, 4059578577#32, 3182579240#32, 207472475#32, 3937124982#32, 2125307031#32, 3580936333#32⟩ 28 = ⟨444305368#32, 1541469911#32, 1981099164#32, 1892512318#32, 1831249060#32, 1922582729#32, 1369346087#32, 2377012767#32⟩ := by
  show (W8.steps kW (schedW (tb blkB4)) ⟨672652787#32, 1676838926#32, 4059578577#32, 3182579240#32, 207472475#32, 3937124982#32, 2125307031#32, 3580936333#32⟩ 27).step (kW 27) (schedW (tb blkB4) 27) = _
  rw [stB4_27, schB4_27]; kernel_rfl
theorem stB4_29 : W8.steps kW (schedW (tb blkB4)) ⟨672652787#32, 1676838926#32, 4059578577#32, 3182579240#32, 207472475#32, 3937124982#32, 2125307031#32, 3580936333#32⟩ 29 = ⟨3479891353#32, 444305368#32, 1541469911#32, 1981099164#32, 1332043960#32, 1831249060#32, 1922582729#32, 1369346087#32⟩ := by
  show (W8.steps kW (schedW (tb blkB4)) ⟨672652787#32, 1676838926#32, 4059578577#32, 3182579240#32, 207472475#32, 3937124982#32, 2125307031#32, 3580936333#32⟩ 28).step (kW 28) (schedW (tb blkB4) 28) = _
  rw [stB4_28, schB4_28]; kernel_rfl
theorem stB4_30 : W8.steps kW (schedW (tb blkB4)) ⟨672652787#32, 1676838926#32, 4059578577#32, 3182579240#32, 207472475#32, 3937124982#32, 2125307031#32, 3580936333#32⟩ 30 = ⟨745479104#32, 3479891353#32, 444305368#32, 1541469911#32, 2457252215#32, 1332043960#32, 1831249060#32, 1922582729#32⟩ := by
  show (W8.steps kW (schedW (tb blkB4)) ⟨672652787#32, 1676838926#32, 4059578577#32, 3182579240#32, 207472475#32, 3937124982#32, 2125307031#32, 3580936333#32⟩ 29).step (kW 29) (schedW (tb blkB4) 29) = _
  rw [stB4_29, schB4_29]; kernel_rfl
theorem stB4_31 : W8.steps kW (schedW (tb blkB4)) ⟨672652787#32, 1676838926#32, 4059578577#32, 3182579240#32, 207472475#32, 3937124982#32, 2125307031#32, 3580936333#32⟩ 31 = ⟨2392289460#32, 745479104#32, 3479891353#32, 444305368#32, 1922511482#32, 2457252215#32, 1332043960#32, 1831249060#32⟩ := by
  show (W8.steps kW (schedW (tb blkB4)) ⟨672652787#32, 1676838926#32, 4059578577#32, 3182579240#32, 207472475#32, 3937124982#32, 2125307031#32, 3580936333#32⟩ 30).step (kW 30) (schedW (tb blkB4) 30) = _
  rw [stB4_30, schB4_30]; kernel_rfl
theorem stB4_32 : W8.steps kW (schedW (tb blkB4)) ⟨672652787#32, 1676838926#32, 4059578577#32, 3182579240#32, 207472475#32, 3937124982#32, 2125307031#32, 3580936333#32⟩ 32 = ⟨3518286934#32, 2392289460#32, 745479104#32, 3479891353#32, 1643997170#32, 1922511482#32, 2457252215#32, 1332043960#32⟩ := by
  show (W8.steps kW (schedW (tb blkB4)) ⟨672652787#32, 1676838926#32, 4059578577#32, 3182579240#32, 207472475#32, 3937124982#32, 2125307031#32, 3580936333#32⟩ 31).step (kW 31) (schedW (tb blkB4) 31) = _
  rw [stB4_31, schB4_31]; kernel_rfl
theorem stB4_33 : W8.steps kW (schedW (tb blkB4)) ⟨672652787#32, 1676838926#32, 4059578577#32, 3182579240#32, 207472475#32, 3937124982#32, 2125307031#32, 3580936333#32⟩ 33 = ⟨714339943#32, 3518286934#32, 2392289460#32, 745479104#32, 1734124855#32, 1643997170#32, 1922511482#32, 2457252215#32⟩ := by
  show (W8.steps kW (schedW (tb blkB4)) ⟨672652787#32, 1676838926#32, 4059578577#32, 3182579240#32, 207472475#32, 3937124982#32, 2125307031#32, 3580936333#32⟩ 32).step (kW 32) (schedW (tb blkB4) 32) = _
  rw [stB4_32, schB4_32]; kernel_rfl
theorem stB4_34 : W8.steps kW (schedW (tb blkB4)) ⟨672652787#32, 1676838926#32, 4059578577#32, 3182579240#32, 207472475#32, 3937124982#32, 2125307031#32, 3580936333#32⟩ 34 = ⟨1233363252#32, 714339943#32, 3518286934#32, 2392289460#32, 3038155474#32, 1734124855#32, 1643997170#32, 1922511482#32⟩ := by
  show (W8.steps kW (schedW (tb blkB4)) ⟨672652787#32, 1676838926#32, 4059578577#32, 3182579240#32, 207472475#32, 3937124982#32, 2125307031#32, 3580936333#32⟩ 33).step (kW 33) (schedW (tb blkB4) 33) = _
  rw [stB4_33, schB4_33]; kernel_rfl
theorem stB4_35 : W8.steps kW (schedW (tb blkB4)) ⟨672652787#32, 1676838926#32, 4059578577#32, 3182579240#32, 207472475#32, 3937124982#32, 2125307031#32, 3580936333#32⟩ 35 = ⟨809668667#32, 1233363252#32, 714339943#32, 3518286934#32, 1610589955#32, 3038155474#32, 1734124855#32, 1643997170#32⟩ := by
  show (W8.steps kW (schedW (tb blkB4)) ⟨672652787#32, 1676838926#32, 4059578577#32, 3182579240#32, 207472475#32, 3937124982#32, 2125307031#32, 3580936333#32⟩ 34).step (kW 34) (schedW (tb blkB4) 34) = _
  rw [stB4_34, schB4_34]; kernel_rfl
theorem stB4_36 : W8.steps kW (schedW (tb blkB4)) ⟨672652787#32, 1676838926#32, 4059578577#32, 3182579240#32, 207472475#32, 3937124982#32, 2125307031#32, 3580936333#32⟩ 36 = ⟨634667958#32, 809668667#32, 1233363252#32, 714339943#32, 2273023226#32, 1610589955#32, 3038155474#32, 1734124855#32⟩ := by
  show (W8.steps kW (schedW (tb blkB4)) ⟨672652787#32, 1676838926#32, 4059578577#32, 3182579240#32, 207472475#32, 3937124982#32, 2125307031#32, 3580936333#32⟩ 35).step (kW 35) (schedW (tb blkB4) 35) = _
  rw [stB4_35, schB4_35]; kernel_rfl
theorem stB4_37 : W8.steps kW (schedW (tb blkB4)) ⟨672652787#32, 1676838926#32, 4059578577#32, 3182579240#32, 207472475#32, 3937124982#32, 2125307031#32, 3580936333#32⟩ 37 = ⟨1789831335#32, 634667958#32, 809668667#32, 1233363252#32, 2914334464#32, 2273023226#32, 1610589955#32, 3038155474#32⟩ := by
  show (W8.steps kW (schedW (tb blkB4)) ⟨672652787#32, 1676838926#32, 4059578577#32, 3182579240#32, 207472475#32, 3937124982#32, 2125307031#32, 3580936333#32⟩ 36).step (kW 36) (schedW (tb blkB4) 36) = _
  rw [stB4_36, schB4_36]; kernel_rfl
theorem stB4_38 : W8.steps kW (schedW (tb blkB4)) ⟨672652787#32, 1676838926#32, 4059578577#32, 3182579240#32, 207472475#32, 3937124982#32, 2125307031#32, 3580936333#32⟩ 38 = ⟨2532537207#32, 1789831335#32, 634667958#32, 809668667#32, 2591961342#32, 2914334464#32, 2273023226#32, 1610589955#32⟩ := by
  show (W8.steps kW (schedW (tb blkB4)) ⟨672652787#32, 1676838926#32, 4059578577#32, 3182579240#32, 207472475#32, 3937124982#32, 2125307031#32, 3580936333#32⟩ 37).step (kW 37) (schedW (tb blkB4) 37) = _
  rw [stB4_37, schB4_37]; kernel_rfl
theorem stB4_39 : W8.steps kW (schedW (tb blkB4)) ⟨672652787#32, 1676838926#32, 4059578577#32, 3182579240#32, 207472475#32, 3937124982#32, 2125307031#32, 3580936333#32⟩ 39 = ⟨3624791457#32, 2532537207#32, 1789831335#32, 634667958#32, 764175624#32, 2591961342#32, 2914334464#32, 2273023226#32⟩ := by
  show (W8.steps kW (schedW (tb blkB4)) ⟨672652787#32, 1676838926#32, 4059578577#32, 3182579240#32, 207472475#32, 3937124982#32, 2125307031#32, 3580936333#32⟩ 38).step (kW 38) (schedW (tb blkB4) 38) = _
  rw [stB4_38, schB4_38]; kernel_rfl
theorem stB4_40 : W8.steps kW (schedW (tb blkB4)) ⟨672652787#32, 1676838926#32, 4059578577#32, 3182579240#32, 207472475#32, 3937124982#32, 2125307031#32, 3580936333#32⟩ 40 = ⟨1006066682#32, 3624791457#32, 2532537207#32, 1789831335#32, 1516272034#32, 764175624#32, 2591961342#32, 2914334464#32⟩ := by
  show (W8.steps kW (schedW (tb blkB4)) ⟨672652787#32, 1676838926#32, 4059578577#32, 3182579240#32, 207472475#32, 3937124982#32, 2125307031#32, 3580936333#32⟩ 39).step (kW 39) (schedW (tb blkB4) 39) = _
  rw [stB4_39, schB4_39]; kernel_rfl
theorem stB4_41 : W8.steps kW (schedW (tb blkB4)) ⟨672652787#32, 1676838926#32, 4059578577#32, 3182579240#32, 207472475#32, 3937124982#32, 2125307031#32, 3580936333#32⟩ 41 = ⟨4094799479#32, 1006066682#32, 3624791457#32, 2532537207#32, 931461504#32, 1516272034#32, 764175624#32, 2591961342#32⟩ := by
  show (W8.steps kW (schedW (tb blkB4)) ⟨672652787#32, 1676838926#32, 4059578577#32, 3182579240#32, 207472475#32, 3937124982#32, 2125307031#32, 3580936333#32⟩ 40).step (kW 40) (schedW (tb blkB4) 40) = _
  rw [stB4_40, schB4_40]; kernel_rfl
theorem stB4_42 : W8.steps kW (schedW (tb blkB4)) ⟨672652787#32, 1676838926#32, 4059578577#32, 3182579240#32, 207472475#32, 3937124982#32, 2125307031#32, 3580936333#32⟩ 42 = ⟨168248360#32, 4094799479#32, 1006066682#32, 3624791457#32, 3772953324#32, 931461504#32, 1516272034#32, 764175624#32⟩ := by
  show (W8.steps kW (schedW (tb blkB4)) ⟨672652787#32, 1676838926#32, 4059578577#32, 3182579240#32, 207472475#32, 3937124982#32, 2125307031#32, 3580936333#32⟩ 41).step (kW 41) (schedW (tb blkB4) 41) = _
  rw [stB4_41, schB4_41]; kernel_rfl
theorem stB4_43 : W8.steps kW (schedW (tb blkB4)) ⟨672652787#32, 1676838926#32, 4059578577#32, 3182579240#32, 207472475#32, 3937124982#32, 2125307031#32, 3580936333#32⟩ 43 = ⟨1187659213#32, 168248360#32, 4094799479#32, 1006066682#32, 2783951836#32, 3772953324#32, 931461504#32, 1516272034#32⟩ := by
  show (W8.steps kW (schedW (tb blkB4)) ⟨672652787#32, 1676838926#32, 4059578577#32, 3182579240#32, 207472475#32, 3937124982#32, 2125307031#32, 3580936333#32⟩ 42).step (kW 42) (schedW (tb blkB4) 42) = _
  rw [stB4_42, schB4_42]; kernel_rfl
theorem stB4_44 : W8.steps kW (schedW (tb blkB4)) ⟨672652787#32, 1676838926#32, 4059578577#32, 3182579240#32, 207472475#32, 3937124982#32, 2125307031#32, 3580936333#32⟩ 44 = ⟨2177799595#32, 1187659213#32, 168248360#32, 4094799479#32, 3767744767#32, 2783951836#32, 3772953324#32, 931461504#32⟩ := by
  show (W8.steps kW (schedW (tb blkB4)) ⟨672652787#32, 1676838926#32, 4059578577#32, 3182579240#32, 207472475#32, 3937124982#32, 2125307031#32, 3580936333#32⟩ 43).step (kW 43) (schedW (tb blkB4) 43) = _
  rw [stB4_43, schB4_43]; kernel_rfl
theorem stB4_45 : W8.steps kW (schedW (tb blkB4)) ⟨672652787#32, 1676838926#32, 4059578577#32, 3182579240#32, 207472475#32, 3937124982#32, 2125307031#32, 3580936333#32⟩ 45 = ⟨1846546052#32, 2177799595#32, 1187659213#32, 168248360#32, 3889865273#32, 3767744767#32, 2783951836#32, 3772953324#32⟩ := by
  show (W8.steps kW (schedW (tb blkB4)) ⟨672652787#32, 1676838926#32, 4059578577#32, 3182579240#32, 207472475#32, 3937124982#32, 2125307031#32, 3580936333#32⟩ 44).step (kW 44) (schedW (tb blkB4) 44) = _
  rw [stB4_44, schB4_44]; kernel_rfl
theorem stB4_46 : W8.steps kW (schedW (tb blkB4)) ⟨672652787#32, 1676838926#32, 4059578577#32, 3182579240#32, 207472475#32, 3937124982#32, 2125307031#32, 3580936333#32⟩ 46 = ⟨2116401101#32, 1846546052#32, 2177799595#32, 1187659213#32, 298154959#32, 3889865273#32, 3767744767#32, 2783951836#32⟩ := by
  show (W8.steps kW (schedW (tb blkB4)) ⟨672652787#32, 1676838926#32, 4059578577#32, 3182579240#32, 207472475#32, 3937124982#32, 2125307031#32, 3580936333#32⟩ 45).step (kW 45) (schedW (tb blkB4) 45) = _
  rw [stB4_45, schB4_45]; kernel_rfl
theorem stB4_47 : W8.steps kW (schedW (tb blkB4)) ⟨672652787#32, 1676838926#32, 4059578577#32, 3182579240#32, 207472475#32, 3937124982#32, 2125307031#32, 3580936333#32⟩ 47 = ⟨860405147#32, 2116401101#32, 1846546052#32, 2177799595#32, 2496707253#32, 298154959#32, 3889865273#32, 3767744767#32⟩ := by
  show (W8.steps kW (schedW (tb blkB4)) ⟨672652787#32, 1676838926#32, 4059578577#32, 3182579240#32, 207472475#32, 3937124982#32, 2125307031#32, 3580936333#32⟩ 46).step (kW 46) (schedW (tb blkB4) 46) = _
  rw [stB4_46, schB4_46]; kernel_rfl
theorem stB4_48 : W8.steps kW (schedW (tb blkB4)) ⟨672652787#32, 1676838926#32, 4059578577#32, 3182579240#32, 207472475#32, 3937124982#32, 2125307031#32, 3580936333#32⟩ 48 = ⟨3632257727#32, 860405147#32, 2116401101#32, 1846546052#32, 3645888239#32, 2496707253#32, 298154959#32, 3889865273#32⟩ := by
  show (W8.steps kW (schedW (tb blkB4)) ⟨672652787#32, 1676838926#32, 4059578577#32, 3182579240#32, 207472475#32, 3937124982#32, 2125307031#32, 3580936333#32⟩ 47).step (kW 47) (schedW (tb blkB4) 47) = _
  rw [stB4_47, schB4_47]; kernel_rfl
theorem stB4_49 : W8.steps kW (schedW (tb blkB4)) ⟨672652787#32, 1676838926#32, 4059578577#32, 3182579240#32, 207472475#32, 3937124982#32, 2125307031#32, 3580936333#32⟩ 49 = ⟨845511577#32, 3632257727#32, 860405147#32, 2116401101#32, 1232863310#32, 3645888239#32, 2496707253#32, 298154959#32⟩ := by
  show (W8.steps kW (schedW (tb blkB4)) ⟨672652787#32, 1676838926#32, 4059578577#32, 3182579240#32, 207472475#32, 3937124982#32, 2125307031#32, 3580936333#32⟩ 48).step (kW 48) (schedW (tb blkB4) 48) = _
  rw [stB4_48, schB4_48]; kernel_rfl
theorem stB4_50 : W8.steps kW (schedW (tb blkB4)) ⟨672652787#32, 1676838926#32, 4059578577#32, 3182579240#32, 207472475#32, 3937124982#32, 2125307031#32, 3580936333#32⟩ 50 = ⟨696213158#32, 845511577#32, 3632257727#32, 860405147#32, 1870164436#32, 1232863310#32, 3645888239#32, 2496707253#32⟩ := by
  show (W8.steps kW (schedW (tb blkB4)) ⟨672652787#32, 1676838926#32, 4059578577#32, 3182579240#32, 207472475#32, 3937124982#32, 2125307031#32, 3580936333#32⟩ 49).step (kW 49) (schedW (tb blkB4) 49) = _
  rw [stB4_49, schB4_49]; kernel_rfl
theorem stB4_51 : W8.steps kW (schedW (tb blkB4)) ⟨672652787#32, 1676838926#32, 4059578577#32, 3182579240#32, 207472475#32, 3937124982#32, 2125307031#32, 3580936333#32⟩ 51 = ⟨2235698299#32, 696213158#32, 845511577#32, 3632257727#32, 4260850273#32, 1870164436#32, 1232863310#32, 3645888239#32⟩ := by
  show (W8.steps kW (schedW (tb blkB4)) ⟨672652787#32, 1676838926#32, 4059578577#32, 3182579240#32, 207472475#32, 3937124982#32, 2125307031#32, 3580936333#32⟩ 50).step (kW 50) (schedW (tb blkB4) 50) = _
  rw [stB4_50, schB4_50]; kernel_rfl
theorem stB4_52 : W8.steps kW (schedW (tb blkB4)) ⟨672652787#32, 1676838926#32, 4059578577#32, 3182579240#32, 207472475#32, 3937124982#32, 2125307031#32, 3580936333#32⟩ 52 = ⟨3356338985#32, 2235698299#32, 696213158#32, 845511577#32, 4100513810#32, 4260850273#32, 1870164436#32, 1232863310#32⟩ := by
  show (W8.steps kW (schedW (tb blkB4)) ⟨672652787#32, 1676838926#32, 4059578577#32, 3182579240#32, 207472475#32, 3937124982#32, 2125307031#32, 3580936333#32⟩ 51).step (kW 51) (schedW (tb blkB4) 51) = _
  rw [stB4_51, schB4_51]; kernel_rfl
theorem stB4_53 : W8.steps kW (schedW (tb blkB4)) ⟨672652787#32, 1676838926#32, 4059578577#32, 3182579240#32, 207472475#32, 3937124982#32, 2125307031#32, 3580936333#32⟩ 53 = ⟨3882182398#32, 3356338985#32, 2235698299#32, 696213158#32, 1922713317#32, 4100513810#32, 4260850273#32, 1870164436#32⟩ := by
  show (W8.steps kW (schedW (tb blkB4)) ⟨672652787#32, 1676838926#32, 4059578577#32, 3182579240#32, 207472475#32, 3937124982#32, 2125307031#32, 3580936333#32⟩ 52).step (kW 52) (schedW (tb blkB4) 52) = _
  rw [stB4_52, schB4_52]; kernel_rfl
theorem stB4_54 : W8.steps kW (schedW (tb blkB4)) ⟨672652787#32, 1676838926#32, 4059578577#32, 3182579240#32, 207472475#32, 3937124982#32, 2125307031#32, 3580936333#32⟩ 54 = ⟨4033348089#32, 3882182398#32, 3356338985#32, 2235698299#32, 955029787#32, 1922713317#32, 4100513810#32, 4260850273#32⟩ := by
  show (W8.steps kW (schedW (tb blkB4)) ⟨672652787#32, 1676838926#32, 4059578577#32, 3182579240#32, 207472475#32, 3937124982#32, 2125307031#32, 3580936333#32⟩ 53).step (kW 53) (schedW (tb blkB4) 53) = _
  rw [stB4_53, schB4_53]; kernel_rfl
theorem stB4_55 : W8.steps kW (schedW (tb blkB4)) ⟨672652787#32, 1676838926#32, 4059578577#32, 3182579240#32, 207472475#32, 3937124982#32, 2125307031#32, 3580936333#32⟩ 55 = ⟨3640683489#32, 4033348089#32, 3882182398#32, 3356338985#32, 2852319076#32, 955029787#32, 1922713317#32, 4100513810#32⟩ := by
  show (W8.steps kW (schedW (tb blkB4)) ⟨672652787#32, 1676838926#32, 4059578577#32, 3182579240#32, 207472475#32, 3937124982#32, 2125307031#32, 3580936333#32⟩ 54).step (kW 54) (schedW (tb blkB4) 54) = _
  rw [stB4_54, schB4_54]; kernel_rfl
theorem stB4_56 : W8.steps kW (schedW (tb blkB4)) ⟨672652787#32, 1676838926#32, 4059578577#32, 3182579240#32, 207472475#32, 3937124982#32, 2125307031#32, 3580936333#32⟩ 56 = ⟨2840124163#32, 3640683489#32, 4033348089#32, 3882182398#32, 1460980884#32, 2852319076#32, 955029787#32, 1922713317#32⟩ := by
  show (W8.steps kW (schedW (tb blkB4)) ⟨672652787#32, 1676838926#32, 4059578577#32, 3182579240#32, 207472475#32, 3937124982#32, 2125307031#32, 3580936333#32⟩ 55).step (kW 55) (schedW (tb blkB4) 55) = _
  rw [stB4_55, schB4_55]; kernel_rfl
theorem stB4_57 : W8.steps kW (schedW (tb blkB4)) ⟨672652787#32, 1676838926#32, 4059578577#32, 3182579240#32, 207472475#32, 3937124982#32, 2125307031#32, 3580936333#32⟩ 57 = ⟨3457754965#32, 2840124163#32, 3640683489#32, 4033348089#32, 2870136911#32, 1460980884#32, 2852319076#32, 955029787#32⟩ := by
  show (W8.steps kW (schedW (tb blkB4)) ⟨672652787#32, 1676838926#32, 4059578577#32, 3182579240#32, 207472475#32, 3937124982#32, 2125307031#32, 3580936333#32⟩ 56).step (kW 56) (schedW (tb blkB4) 56) = _
  rw [stB4_56, schB4_56]; kernel_rfl
theorem stB4_58 : W8.steps kW (schedW (tb blkB4)) ⟨672652787#32, 1676838926#32, 4059578577#32, 3182579240#32, 207472475#32, 3937124982#32, 2125307031#32, 3580936333#32⟩ 58 = ⟨2574215419#32, 3457754965#32, 2840124163#32, 3640683489#32, 2467926415#32, 2870136911#32, 1460980884#32, 2852319076#32⟩ := by
  show (W8.steps kW (schedW (tb blkB4)) ⟨672652787#32, 1676838926#32, 4059578577#32, 3182579240#32, 207472475#32, 3937124982#32, 2125307031#32, 3580936333#32⟩ 57).step (kW 57) (schedW (tb blkB4) 57) = _
  rw [stB4_57, schB4_57]; kernel_rfl
theorem stB4_59 : W8.steps kW (schedW (tb blkB4)) ⟨672652787#32, 1676838926#32, 4059578577#32, 3182579240#32, 207472475#32, 3937124982#32, 2125307031#32, 3580936333#32⟩ 59 = ⟨1922490191#32, 2574215419#32, 3457754965#32, 2840124163#32, 2787696829#32, 2467926415#32, 2870136911#32, 1460980884#32⟩ := by
  show (W8.steps kW (schedW (tb blkB4)) ⟨672652787#32, 1676838926#32, 4059578577#32, 3182579240#32, 207472475#32, 3937124982#32, 2125307031#32, 3580936333#32⟩ 58).step (kW 58) (schedW (tb blkB4) 58) = _
  rw [stB4_58, schB4_58]; kernel_rfl
theorem stB4_60 : W8.steps kW (schedW (tb blkB4)) ⟨672652787#32, 1676838926#32, 4059578577#32, 3182579240#32, 207472475#32, 3937124982#32, 2125307031#32, 3580936333#32⟩ 60 = ⟨3005872299#32, 1922490191#32, 2574215419#32, 3457754965#32, 78661024#32, 2787696829#32, 2467926415#32, 2870136911#32⟩ := by
  show (W8.steps kW (schedW (tb blkB4)) ⟨672652787#32, 1676838926#32, 4059578577#32, 3182579240#32, 207472475#32, 3937124982#32, 2125307031#32, 3580936333#32⟩ 59).step (kW 59) (schedW (tb blkB4) 59) = _
  rw [stB4_59, schB4_59]; kernel_rfl
theorem stB4_61 : W8.steps kW (schedW (tb blkB4)) ⟨672652787#32, 1676838926#32, 4059578577#32, 3182579240#32, 207472475#32, 3937124982#32, 2125307031#32, 3580936333#32⟩ 61 = ⟨173069724#32, 3005872299#32, 1922490191#32, 2574215419#32, 2529475165#32, 78661024#32, 2787696829#32, 2467926415#32⟩ := by
  show (W8.steps kW (schedW (tb blkB4)) ⟨672652787#32, 1676838926#32, 4059578577#32, 3182579240#32, 207472475#32, 3937124982#32, 2125307031#32, 3580936333#32⟩ 60).step (kW 60) (schedW (tb blkB4) 60) = _
  rw [stB4_60, schB4_60]; kernel_rfl
theorem stB4_62 : W8.steps kW (schedW (tb blkB4)) ⟨672652787#32, 1676838926#32, 4059578577#32, 3182579240#32, 207472475#32, 3937124982#32, 2125307031#32, 3580936333#32⟩ 62 = ⟨4212555492#32, 173069724#32, 3005872299#32, 1922490191#32, 1968370312#32, 2529475165#32, 78661024#32, 2787696829#32⟩ := by
  show (W8.steps kW (schedW (tb blkB4)) ⟨672652787#32, 1676838926#32, 4059578577#32, 3182579240#32, 207472475#32, 3937124982#32, 2125307031#32, 3580936333#32⟩ 61).step (kW 61) (schedW (tb blkB4) 61) = _
  rw [stB4_61, schB4_61]; kernel_rfl
theorem stB4_63 : W8.steps kW (schedW (tb blkB4)) ⟨672652787#32, 1676838926#32, 4059578577#32, 3182579240#32, 207472475#32, 3937124982#32, 2125307031#32, 3580936333#32⟩ 63 = ⟨1718179943#32, 4212555492#32, 173069724#32, 3005872299#32, 2379572772#32, 1968370312#32, 2529475165#32, 78661024#32⟩ := by
  show (W8.steps kW (schedW (tb blkB4)) ⟨672652787#32, 1676838926#32, 4059578577#32, 3182579240#32, 207472475#32, 3937124982#32, 2125307031#32, 3580936333#32⟩ 62).step (kW 62) (schedW (tb blkB4) 62) = _
  rw [stB4_62, schB4_62]; kernel_rfl
theorem stB4_64 : W8.steps kW (schedW (tb blkB4)) ⟨672652787#32, 1676838926#32, 4059578577#32, 3182579240#32, 207472475#32, 3937124982#32, 2125307031#32, 3580936333#32⟩ 64 = ⟨2549420894#32, 1718179943#32, 4212555492#32, 173069724#32, 554546779#32, 2379572772#32, 1968370312#32, 2529475165#32⟩ := by
  show (W8.steps kW (schedW (tb blkB4)) ⟨672652787#32, 1676838926#32, 4059578577#32, 3182579240#32, 207472475#32, 3937124982#32, 2125307031#32, 3580936333#32⟩ 63).step (kW 63) (schedW (tb blkB4) 63) = _
  rw [stB4_63, schB4_63]; kernel_rfl
theorem turnB4 : W8.turn kW ⟨672652787#32, 1676838926#32, 4059578577#32, 3182579240#32, 207472475#32, 3937124982#32, 2125307031#32, 3580936333#32⟩ (tb blkB4) = ⟨3222073681#32, 3395018869#32, 3977166773#32, 3355648964#32, 762019254#32, 2021730458#32, 4093677343#32, 1815444202#32⟩ := by
  unfold W8.turn
  rw [stB4_64]; kernel_rfl
def gkeyB : List Nat := [125, 181, 223, 6, 231, 166, 158, 67, 36, 150, 173, 237, 176, 8, 81, 146, 53, 149, 34, 21, 150, 174, 42, 233, 251, 129, 21, 193, 233, 237, 10, 68]
def gdataB : List Nat := [0, 32, 15, 116, 108, 115, 49, 51, 32, 99, 108, 105, 101, 110, 116, 32, 105, 110, 0, 1]
def goutB : List Nat := [192, 12, 241, 81, 202, 91, 224, 117, 237, 14, 191, 181, 200, 3, 35, 196, 45, 107, 125, 182, 120, 129, 40, 154, 244, 0, 143, 31, 108, 53, 122, 234]
theorem gmacB : ∀ i, i < 32 → macB (keyB (tb gkeyB) 32) (tb gdataB) 20 i = tb goutB i := by
  intro i hi
  have h1 : startW.turn kW (xorB (keyB (tb gkeyB) 32) 54#8) = ⟨2791585546#32, 2637598941#32, 4097995476#32, 3126135246#32, 2482301215#32, 1436787880#32, 1493466158#32, 3273425748#32⟩ := by
    rw [W8.turn_congr (tb_agree _ blkB1 64 (by kernel_rfl))]; exact turnB1
  have h2 : W8.turn kW ⟨2791585546#32, 2637598941#32, 4097995476#32, 3126135246#32, 2482301215#32, 1436787880#32, 1493466158#32, 3273425748#32⟩ (fun i => padded (joinb (xorB (keyB (tb gkeyB) 32) 54#8) 64 (tb gdataB)) (64 + 20) (64 + i)) = ⟨1210171335#32, 3979581982#32, 3747160888#32, 3153825962#32, 1345599698#32, 3511064120#32, 580360139#32, 686732796#32⟩ := by
    rw [W8.turn_congr (tb_agree _ blkB2 64 (by kernel_rfl))]; exact turnB2
  have h3 : startW.turn kW (xorB (keyB (tb gkeyB) 32) 92#8) = ⟨672652787#32, 1676838926#32, 4059578577#32, 3182579240#32, 207472475#32, 3937124982#32, 2125307031#32, 3580936333#32⟩ := by
    rw [W8.turn_congr (tb_agree _ blkB3 64 (by kernel_rfl))]; exact turnB3
  have h4 : W8.turn kW ⟨672652787#32, 1676838926#32, 4059578577#32, 3182579240#32, 207472475#32, 3937124982#32, 2125307031#32, 3580936333#32⟩ (fun i => padded (joinb (xorB (keyB (tb gkeyB) 32) 92#8) 64 (stateB ⟨1210171335#32, 3979581982#32, 3747160888#32, 3153825962#32, 1345599698#32, 3511064120#32, 580360139#32, 686732796#32⟩)) 96 (64 + i)) = ⟨3222073681#32, 3395018869#32, 3977166773#32, 3355648964#32, 762019254#32, 2021730458#32, 4093677343#32, 1815444202#32⟩ := by
    rw [W8.turn_congr (tb_agree _ blkB4 64 (by kernel_rfl))]; exact turnB4
  rw [mac_of _ _ 20 (by omega) h1 h2 h3 h4]
  exact tb_agree (stateB ⟨3222073681#32, 3395018869#32, 3977166773#32, 3355648964#32, 762019254#32, 2021730458#32, 4093677343#32, 1815444202#32⟩) goutB 32 (by kernel_rfl) i hi
end Go.Proofs.YtebhhonmpoeliaaDoor
