/-
  A Mac, reckoned step by step (C).
-/
import Derived.Test.YtebhhonmpoeliaaDoorGdM
namespace Go.Proofs.YtebhhonmpoeliaaDoor
open Go Go.RowKit
set_option maxRecDepth 100000
def blkC1 : List Nat := [246, 58, 199, 103, 252, 109, 214, 67, 219, 56, 137, 131, 254, 53, 21, 242, 27, 93, 75, 128, 78, 183, 30, 172, 194, 54, 185, 41, 90, 3, 76, 220, 54, 54, 54, 54, 54, 54, 54, 54, 54, 54, 54, 54, 54, 54, 54, 54, 54, 54, 54, 54, 54, 54, 54, 54, 54, 54, 54, 54, 54, 54, 54, 54]
theorem schC1_0 : schedW (tb blkC1) 0 = 4131047271#32 := by rw [schedW_low (tb blkC1) (by omega)]; kernel_rfl
theorem schC1_1 : schedW (tb blkC1) 1 = 4235056707#32 := by rw [schedW_low (tb blkC1) (by omega)]; kernel_rfl
theorem schC1_2 : schedW (tb blkC1) 2 = 3677915523#32 := by rw [schedW_low (tb blkC1) (by omega)]; kernel_rfl
theorem schC1_3 : schedW (tb blkC1) 3 = 4264891890#32 := by rw [schedW_low (tb blkC1) (by omega)]; kernel_rfl
theorem schC1_4 : schedW (tb blkC1) 4 = 459099008#32 := by rw [schedW_low (tb blkC1) (by omega)]; kernel_rfl
theorem schC1_5 : schedW (tb blkC1) 5 = 1320623788#32 := by rw [schedW_low (tb blkC1) (by omega)]; kernel_rfl
theorem schC1_6 : schedW (tb blkC1) 6 = 3258366249#32 := by rw [schedW_low (tb blkC1) (by omega)]; kernel_rfl
theorem schC1_7 : schedW (tb blkC1) 7 = 1510165724#32 := by rw [schedW_low (tb blkC1) (by omega)]; kernel_rfl
theorem schC1_8 : schedW (tb blkC1) 8 = 909522486#32 := by rw [schedW_low (tb blkC1) (by omega)]; kernel_rfl
theorem schC1_9 : schedW (tb blkC1) 9 = 909522486#32 := by rw [schedW_low (tb blkC1) (by omega)]; kernel_rfl
theorem schC1_10 : schedW (tb blkC1) 10 = 909522486#32 := by rw [schedW_low (tb blkC1) (by omega)]; kernel_rfl
theorem schC1_11 : schedW (tb blkC1) 11 = 909522486#32 := by rw [schedW_low (tb blkC1) (by omega)]; kernel_rfl
theorem schC1_12 : schedW (tb blkC1) 12 = 909522486#32 := by rw [schedW_low (tb blkC1) (by omega)]; kernel_rfl
theorem schC1_13 : schedW (tb blkC1) 13 = 909522486#32 := by rw [schedW_low (tb blkC1) (by omega)]; kernel_rfl
theorem schC1_14 : schedW (tb blkC1) 14 = 909522486#32 := by rw [schedW_low (tb blkC1) (by omega)]; kernel_rfl
theorem schC1_15 : schedW (tb blkC1) 15 = 909522486#32 := by rw [schedW_low (tb blkC1) (by omega)]; kernel_rfl
theorem schC1_16 : schedW (tb blkC1) 16 = 4163300460#32 := by
  rw [schedW_high (tb blkC1) (by omega)]
  show sig1 (schedW (tb blkC1) 14) + schedW (tb blkC1) 9 + sig0 (schedW (tb blkC1) 1) + schedW (tb blkC1) 0 = _
  rw [schC1_14, schC1_9, schC1_1, schC1_0]; kernel_rfl
theorem schC1_17 : schedW (tb blkC1) 17 = 1327887286#32 := by
  rw [schedW_high (tb blkC1) (by omega)]
  show sig1 (schedW (tb blkC1) 15) + schedW (tb blkC1) 10 + sig0 (schedW (tb blkC1) 2) + schedW (tb blkC1) 1 = _
  rw [schC1_15, schC1_10, schC1_2, schC1_1]; kernel_rfl
theorem schC1_18 : schedW (tb blkC1) 18 = 2084249981#32 := by
  rw [schedW_high (tb blkC1) (by omega)]
  show sig1 (schedW (tb blkC1) 16) + schedW (tb blkC1) 11 + sig0 (schedW (tb blkC1) 3) + schedW (tb blkC1) 2 = _
  rw [schC1_16, schC1_11, schC1_3, schC1_2]; kernel_rfl
theorem schC1_19 : schedW (tb blkC1) 19 = 3454437474#32 := by
  rw [schedW_high (tb blkC1) (by omega)]
  show sig1 (schedW (tb blkC1) 17) + schedW (tb blkC1) 12 + sig0 (schedW (tb blkC1) 4) + schedW (tb blkC1) 3 = _
  rw [schC1_17, schC1_12, schC1_4, schC1_3]; kernel_rfl
theorem schC1_20 : schedW (tb blkC1) 20 = 3707912013#32 := by
  rw [schedW_high (tb blkC1) (by omega)]
  show sig1 (schedW (tb blkC1) 18) + schedW (tb blkC1) 13 + sig0 (schedW (tb blkC1) 5) + schedW (tb blkC1) 4 = _
  rw [schC1_18, schC1_13, schC1_5, schC1_4]; kernel_rfl
theorem schC1_21 : schedW (tb blkC1) 21 = 4286867113#32 := by
  rw [schedW_high (tb blkC1) (by omega)]
  show sig1 (schedW (tb blkC1) 19) + schedW (tb blkC1) 14 + sig0 (schedW (tb blkC1) 6) + schedW (tb blkC1) 5 = _
  rw [schC1_19, schC1_14, schC1_6, schC1_5]; kernel_rfl
theorem schC1_22 : schedW (tb blkC1) 22 = 2980609679#32 := by
  rw [schedW_high (tb blkC1) (by omega)]
  show sig1 (schedW (tb blkC1) 20) + schedW (tb blkC1) 15 + sig0 (schedW (tb blkC1) 7) + schedW (tb blkC1) 6 = _
  rw [schC1_20, schC1_15, schC1_7, schC1_6]; kernel_rfl
theorem schC1_23 : schedW (tb blkC1) 23 = 4178543002#32 := by
  rw [schedW_high (tb blkC1) (by omega)]
  show sig1 (schedW (tb blkC1) 21) + schedW (tb blkC1) 16 + sig0 (schedW (tb blkC1) 8) + schedW (tb blkC1) 7 = _
  rw [schC1_21, schC1_16, schC1_8, schC1_7]; kernel_rfl
theorem schC1_24 : schedW (tb blkC1) 24 = 2638059025#32 := by
  rw [schedW_high (tb blkC1) (by omega)]
  show sig1 (schedW (tb blkC1) 22) + schedW (tb blkC1) 17 + sig0 (schedW (tb blkC1) 9) + schedW (tb blkC1) 8 = _
  rw [schC1_22, schC1_17, schC1_9, schC1_8]; kernel_rfl
theorem schC1_25 : schedW (tb blkC1) 25 = 3394821920#32 := by
  rw [schedW_high (tb blkC1) (by omega)]
  show sig1 (schedW (tb blkC1) 23) + schedW (tb blkC1) 18 + sig0 (schedW (tb blkC1) 10) + schedW (tb blkC1) 9 = _
  rw [schC1_23, schC1_18, schC1_10, schC1_9]; kernel_rfl
theorem schC1_26 : schedW (tb blkC1) 26 = 1697749019#32 := by
  rw [schedW_high (tb blkC1) (by omega)]
  show sig1 (schedW (tb blkC1) 24) + schedW (tb blkC1) 19 + sig0 (schedW (tb blkC1) 11) + schedW (tb blkC1) 10 = _
  rw [schC1_24, schC1_19, schC1_11, schC1_10]; kernel_rfl
theorem schC1_27 : schedW (tb blkC1) 27 = 1856407290#32 := by
  rw [schedW_high (tb blkC1) (by omega)]
  show sig1 (schedW (tb blkC1) 25) + schedW (tb blkC1) 20 + sig0 (schedW (tb blkC1) 12) + schedW (tb blkC1) 11 = _
  rw [schC1_25, schC1_20, schC1_12, schC1_11]; kernel_rfl
theorem schC1_28 : schedW (tb blkC1) 28 = 469325406#32 := by
  rw [schedW_high (tb blkC1) (by omega)]
  show sig1 (schedW (tb blkC1) 26) + schedW (tb blkC1) 21 + sig0 (schedW (tb blkC1) 13) + schedW (tb blkC1) 12 = _
  rw [schC1_26, schC1_21, schC1_13, schC1_12]; kernel_rfl
theorem schC1_29 : schedW (tb blkC1) 29 = 1656729362#32 := by
  rw [schedW_high (tb blkC1) (by omega)]
  show sig1 (schedW (tb blkC1) 27) + schedW (tb blkC1) 22 + sig0 (schedW (tb blkC1) 14) + schedW (tb blkC1) 13 = _
  rw [schC1_27, schC1_22, schC1_14, schC1_13]; kernel_rfl
theorem schC1_30 : schedW (tb blkC1) 30 = 2555318221#32 := by
  rw [schedW_high (tb blkC1) (by omega)]
  show sig1 (schedW (tb blkC1) 28) + schedW (tb blkC1) 23 + sig0 (schedW (tb blkC1) 15) + schedW (tb blkC1) 14 = _
  rw [schC1_28, schC1_23, schC1_15, schC1_14]; kernel_rfl
theorem schC1_31 : schedW (tb blkC1) 31 = 1943489926#32 := by
  rw [schedW_high (tb blkC1) (by omega)]
  show sig1 (schedW (tb blkC1) 29) + schedW (tb blkC1) 24 + sig0 (schedW (tb blkC1) 16) + schedW (tb blkC1) 15 = _
  rw [schC1_29, schC1_24, schC1_16, schC1_15]; kernel_rfl
theorem schC1_32 : schedW (tb blkC1) 32 = 1112579793#32 := by
  rw [schedW_high (tb blkC1) (by omega)]
  show sig1 (schedW (tb blkC1) 30) + schedW (tb blkC1) 25 + sig0 (schedW (tb blkC1) 17) + schedW (tb blkC1) 16 = _
  rw [schC1_30, schC1_25, schC1_17, schC1_16]; kernel_rfl
theorem schC1_33 : schedW (tb blkC1) 33 = 1088871286#32 := by
  rw [schedW_high (tb blkC1) (by omega)]
  show sig1 (schedW (tb blkC1) 31) + schedW (tb blkC1) 26 + sig0 (schedW (tb blkC1) 18) + schedW (tb blkC1) 17 = _
  rw [schC1_31, schC1_26, schC1_18, schC1_17]; kernel_rfl
theorem schC1_34 : schedW (tb blkC1) 34 = 3317921057#32 := by
  rw [schedW_high (tb blkC1) (by omega)]
  show sig1 (schedW (tb blkC1) 32) + schedW (tb blkC1) 27 + sig0 (schedW (tb blkC1) 19) + schedW (tb blkC1) 18 = _
  rw [schC1_32, schC1_27, schC1_19, schC1_18]; kernel_rfl
theorem schC1_35 : schedW (tb blkC1) 35 = 2960057712#32 := by
  rw [schedW_high (tb blkC1) (by omega)]
  show sig1 (schedW (tb blkC1) 33) + schedW (tb blkC1) 28 + sig0 (schedW (tb blkC1) 20) + schedW (tb blkC1) 19 = _
  rw [schC1_33, schC1_28, schC1_20, schC1_19]; kernel_rfl
theorem schC1_36 : schedW (tb blkC1) 36 = 1768789212#32 := by
  rw [schedW_high (tb blkC1) (by omega)]
  show sig1 (schedW (tb blkC1) 34) + schedW (tb blkC1) 29 + sig0 (schedW (tb blkC1) 21) + schedW (tb blkC1) 20 = _
  rw [schC1_34, schC1_29, schC1_21, schC1_20]; kernel_rfl
theorem schC1_37 : schedW (tb blkC1) 37 = 1560510271#32 := by
  rw [schedW_high (tb blkC1) (by omega)]
  show sig1 (schedW (tb blkC1) 35) + schedW (tb blkC1) 30 + sig0 (schedW (tb blkC1) 22) + schedW (tb blkC1) 21 = _
  rw [schC1_35, schC1_30, schC1_22, schC1_21]; kernel_rfl
theorem schC1_38 : schedW (tb blkC1) 38 = 1764032646#32 := by
  rw [schedW_high (tb blkC1) (by omega)]
  show sig1 (schedW (tb blkC1) 36) + schedW (tb blkC1) 31 + sig0 (schedW (tb blkC1) 23) + schedW (tb blkC1) 22 = _
  rw [schC1_36, schC1_31, schC1_23, schC1_22]; kernel_rfl
theorem schC1_39 : schedW (tb blkC1) 39 = 1625871626#32 := by
  rw [schedW_high (tb blkC1) (by omega)]
  show sig1 (schedW (tb blkC1) 37) + schedW (tb blkC1) 32 + sig0 (schedW (tb blkC1) 24) + schedW (tb blkC1) 23 = _
  rw [schC1_37, schC1_32, schC1_24, schC1_23]; kernel_rfl
theorem schC1_40 : schedW (tb blkC1) 40 = 1837480777#32 := by
  rw [schedW_high (tb blkC1) (by omega)]
  show sig1 (schedW (tb blkC1) 38) + schedW (tb blkC1) 33 + sig0 (schedW (tb blkC1) 25) + schedW (tb blkC1) 24 = _
  rw [schC1_38, schC1_33, schC1_25, schC1_24]; kernel_rfl
theorem schC1_41 : schedW (tb blkC1) 41 = 1556292636#32 := by
  rw [schedW_high (tb blkC1) (by omega)]
  show sig1 (schedW (tb blkC1) 39) + schedW (tb blkC1) 34 + sig0 (schedW (tb blkC1) 26) + schedW (tb blkC1) 25 = _
  rw [schC1_39, schC1_34, schC1_26, schC1_25]; kernel_rfl
theorem schC1_42 : schedW (tb blkC1) 42 = 3643702818#32 := by
  rw [schedW_high (tb blkC1) (by omega)]
  show sig1 (schedW (tb blkC1) 40) + schedW (tb blkC1) 35 + sig0 (schedW (tb blkC1) 27) + schedW (tb blkC1) 26 = _
  rw [schC1_40, schC1_35, schC1_27, schC1_26]; kernel_rfl
theorem schC1_43 : schedW (tb blkC1) 43 = 3113095071#32 := by
  rw [schedW_high (tb blkC1) (by omega)]
  show sig1 (schedW (tb blkC1) 41) + schedW (tb blkC1) 36 + sig0 (schedW (tb blkC1) 28) + schedW (tb blkC1) 27 = _
  rw [schC1_41, schC1_36, schC1_28, schC1_27]; kernel_rfl
theorem schC1_44 : schedW (tb blkC1) 44 = 758539229#32 := by
  rw [schedW_high (tb blkC1) (by omega)]
  show sig1 (schedW (tb blkC1) 42) + schedW (tb blkC1) 37 + sig0 (schedW (tb blkC1) 29) + schedW (tb blkC1) 28 = _
  rw [schC1_42, schC1_37, schC1_29, schC1_28]; kernel_rfl
theorem schC1_45 : schedW (tb blkC1) 45 = 3720417794#32 := by
  rw [schedW_high (tb blkC1) (by omega)]
  show sig1 (schedW (tb blkC1) 43) + schedW (tb blkC1) 38 + sig0 (schedW (tb blkC1) 30) + schedW (tb blkC1) 29 = _
  rw [schC1_43, schC1_38, schC1_30, schC1_29]; kernel_rfl
theorem schC1_46 : schedW (tb blkC1) 46 = 3369287514#32 := by
  rw [schedW_high (tb blkC1) (by omega)]
  show sig1 (schedW (tb blkC1) 44) + schedW (tb blkC1) 39 + sig0 (schedW (tb blkC1) 31) + schedW (tb blkC1) 30 = _
  rw [schC1_44, schC1_39, schC1_31, schC1_30]; kernel_rfl
theorem schC1_47 : schedW (tb blkC1) 47 = 441331806#32 := by
  rw [schedW_high (tb blkC1) (by omega)]
  show sig1 (schedW (tb blkC1) 45) + schedW (tb blkC1) 40 + sig0 (schedW (tb blkC1) 32) + schedW (tb blkC1) 31 = _
  rw [schC1_45, schC1_40, schC1_32, schC1_31]; kernel_rfl
theorem schC1_48 : schedW (tb blkC1) 48 = 3922219914#32 := by
  rw [schedW_high (tb blkC1) (by omega)]
  show sig1 (schedW (tb blkC1) 46) + schedW (tb blkC1) 41 + sig0 (schedW (tb blkC1) 33) + schedW (tb blkC1) 32 = _
  rw [schC1_46, schC1_41, schC1_33, schC1_32]; kernel_rfl
theorem schC1_49 : schedW (tb blkC1) 49 = 2125680824#32 := by
  rw [schedW_high (tb blkC1) (by omega)]
  show sig1 (schedW (tb blkC1) 47) + schedW (tb blkC1) 42 + sig0 (schedW (tb blkC1) 34) + schedW (tb blkC1) 33 = _
  rw [schC1_47, schC1_42, schC1_34, schC1_33]; kernel_rfl
theorem schC1_50 : schedW (tb blkC1) 50 = 4044426760#32 := by
  rw [schedW_high (tb blkC1) (by omega)]
  show sig1 (schedW (tb blkC1) 48) + schedW (tb blkC1) 43 + sig0 (schedW (tb blkC1) 35) + schedW (tb blkC1) 34 = _
  rw [schC1_48, schC1_43, schC1_35, schC1_34]; kernel_rfl
theorem schC1_51 : schedW (tb blkC1) 51 = 1891785105#32 := by
  rw [schedW_high (tb blkC1) (by omega)]
  show sig1 (schedW (tb blkC1) 49) + schedW (tb blkC1) 44 + sig0 (schedW (tb blkC1) 36) + schedW (tb blkC1) 35 = _
  rw [schC1_49, schC1_44, schC1_36, schC1_35]; kernel_rfl
theorem schC1_52 : schedW (tb blkC1) 52 = 2566752288#32 := by
  rw [schedW_high (tb blkC1) (by omega)]
  show sig1 (schedW (tb blkC1) 50) + schedW (tb blkC1) 45 + sig0 (schedW (tb blkC1) 37) + schedW (tb blkC1) 36 = _
  rw [schC1_50, schC1_45, schC1_37, schC1_36]; kernel_rfl
theorem schC1_53 : schedW (tb blkC1) 53 = 3482637792#32 := by
  rw [schedW_high (tb blkC1) (by omega)]
  show sig1 (schedW (tb blkC1) 51) + schedW (tb blkC1) 46 + sig0 (schedW (tb blkC1) 38) + schedW (tb blkC1) 37 = _
  rw [schC1_51, schC1_46, schC1_38, schC1_37]; kernel_rfl
theorem schC1_54 : schedW (tb blkC1) 54 = 641983512#32 := by
  rw [schedW_high (tb blkC1) (by omega)]
  show sig1 (schedW (tb blkC1) 52) + schedW (tb blkC1) 47 + sig0 (schedW (tb blkC1) 39) + schedW (tb blkC1) 38 = _
  rw [schC1_52, schC1_47, schC1_39, schC1_38]; kernel_rfl
theorem schC1_55 : schedW (tb blkC1) 55 = 753576735#32 := by
  rw [schedW_high (tb blkC1) (by omega)]
  show sig1 (schedW (tb blkC1) 53) + schedW (tb blkC1) 48 + sig0 (schedW (tb blkC1) 40) + schedW (tb blkC1) 39 = _
  rw [schC1_53, schC1_48, schC1_40, schC1_39]; kernel_rfl
theorem schC1_56 : schedW (tb blkC1) 56 = 1961265420#32 := by
  rw [schedW_high (tb blkC1) (by omega)]
  show sig1 (schedW (tb blkC1) 54) + schedW (tb blkC1) 49 + sig0 (schedW (tb blkC1) 41) + schedW (tb blkC1) 40 = _
  rw [schC1_54, schC1_49, schC1_41, schC1_40]; kernel_rfl
theorem schC1_57 : schedW (tb blkC1) 57 = 265986265#32 := by
  rw [schedW_high (tb blkC1) (by omega)]
  show sig1 (schedW (tb blkC1) 55) + schedW (tb blkC1) 50 + sig0 (schedW (tb blkC1) 42) + schedW (tb blkC1) 41 = _
  rw [schC1_55, schC1_50, schC1_42, schC1_41]; kernel_rfl
theorem schC1_58 : schedW (tb blkC1) 58 = 2337314959#32 := by
  rw [schedW_high (tb blkC1) (by omega)]
  show sig1 (schedW (tb blkC1) 56) + schedW (tb blkC1) 51 + sig0 (schedW (tb blkC1) 43) + schedW (tb blkC1) 42 = _
  rw [schC1_56, schC1_51, schC1_43, schC1_42]; kernel_rfl
theorem schC1_59 : schedW (tb blkC1) 59 = 2114704494#32 := by
  rw [schedW_high (tb blkC1) (by omega)]
  show sig1 (schedW (tb blkC1) 57) + schedW (tb blkC1) 52 + sig0 (schedW (tb blkC1) 44) + schedW (tb blkC1) 43 = _
  rw [schC1_57, schC1_52, schC1_44, schC1_43]; kernel_rfl
theorem schC1_60 : schedW (tb blkC1) 60 = 3066245557#32 := by
  rw [schedW_high (tb blkC1) (by omega)]
  show sig1 (schedW (tb blkC1) 58) + schedW (tb blkC1) 53 + sig0 (schedW (tb blkC1) 45) + schedW (tb blkC1) 44 = _
  rw [schC1_58, schC1_53, schC1_45, schC1_44]; kernel_rfl
theorem schC1_61 : schedW (tb blkC1) 61 = 4161264620#32 := by
  rw [schedW_high (tb blkC1) (by omega)]
  show sig1 (schedW (tb blkC1) 59) + schedW (tb blkC1) 54 + sig0 (schedW (tb blkC1) 46) + schedW (tb blkC1) 45 = _
  rw [schC1_59, schC1_54, schC1_46, schC1_45]; kernel_rfl
theorem schC1_62 : schedW (tb blkC1) 62 = 669689062#32 := by
  rw [schedW_high (tb blkC1) (by omega)]
  show sig1 (schedW (tb blkC1) 60) + schedW (tb blkC1) 55 + sig0 (schedW (tb blkC1) 47) + schedW (tb blkC1) 46 = _
  rw [schC1_60, schC1_55, schC1_47, schC1_46]; kernel_rfl
theorem schC1_63 : schedW (tb blkC1) 63 = 3253910787#32 := by
  rw [schedW_high (tb blkC1) (by omega)]
  show sig1 (schedW (tb blkC1) 61) + schedW (tb blkC1) 56 + sig0 (schedW (tb blkC1) 48) + schedW (tb blkC1) 47 = _
  rw [schC1_61, schC1_56, schC1_48, schC1_47]; kernel_rfl
theorem stC1_0 : W8.steps kW (schedW (tb blkC1)) ⟨1779033703#32, 3144134277#32, 1013904242#32, 2773480762#32, 1359893119#32, 2600822924#32, 528734635#32, 1541459225#32⟩ 0 = ⟨1779033703#32, 3144134277#32, 1013904242#32, 2773480762#32, 1359893119#32, 2600822924#32, 528734635#32, 1541459225#32⟩ := rfl
theorem stC1_1 : W8.steps kW (schedW (tb blkC1)) ⟨1779033703#32, 3144134277#32, 1013904242#32, 2773480762#32, 1359893119#32, 2600822924#32, 528734635#32, 1541459225#32⟩ 1 = ⟨4064497588#32, 1779033703#32, 3144134277#32, 1013904242#32, 2399316489#32, 1359893119#32, 2600822924#32, 528734635#32⟩ := by
  show (W8.steps kW (schedW (tb blkC1)) ⟨1779033703#32, 3144134277#32, 1013904242#32, 2773480762#32, 1359893119#32, 2600822924#32, 528734635#32, 1541459225#32⟩ 0).step (kW 0) (schedW (tb blkC1) 0) = _
  rw [stC1_0, schC1_0]; kernel_rfl
theorem stC1_2 : W8.steps kW (schedW (tb blkC1)) ⟨1779033703#32, 3144134277#32, 1013904242#32, 2773480762#32, 1359893119#32, 2600822924#32, 528734635#32, 1541459225#32⟩ 2 = ⟨3403064873#32, 4064497588#32, 1779033703#32, 3144134277#32, 3237484728#32, 2399316489#32, 1359893119#32, 2600822924#32⟩ := by
  show (W8.steps kW (schedW (tb blkC1)) ⟨1779033703#32, 3144134277#32, 1013904242#32, 2773480762#32, 1359893119#32, 2600822924#32, 528734635#32, 1541459225#32⟩ 1).step (kW 1) (schedW (tb blkC1) 1) = _
  rw [stC1_1, schC1_1]; kernel_rfl
theorem stC1_3 : W8.steps kW (schedW (tb blkC1)) ⟨1779033703#32, 3144134277#32, 1013904242#32, 2773480762#32, 1359893119#32, 2600822924#32, 528734635#32, 1541459225#32⟩ 3 = ⟨1220811111#32, 3403064873#32, 4064497588#32, 1779033703#32, 8686003#32, 3237484728#32, 2399316489#32, 1359893119#32⟩ := by
  show (W8.steps kW (schedW (tb blkC1)) ⟨1779033703#32, 3144134277#32, 1013904242#32, 2773480762#32, 1359893119#32, 2600822924#32, 528734635#32, 1541459225#32⟩ 2).step (kW 2) (schedW (tb blkC1) 2) = _
  rw [stC1_2, schC1_2]; kernel_rfl
theorem stC1_4 : W8.steps kW (schedW (tb blkC1)) ⟨1779033703#32, 3144134277#32, 1013904242#32, 2773480762#32, 1359893119#32, 2600822924#32, 528734635#32, 1541459225#32⟩ 4 = ⟨1423390340#32, 1220811111#32, 3403064873#32, 4064497588#32, 3937153132#32, 8686003#32, 3237484728#32, 2399316489#32⟩ := by
  show (W8.steps kW (schedW (tb blkC1)) ⟨1779033703#32, 3144134277#32, 1013904242#32, 2773480762#32, 1359893119#32, 2600822924#32, 528734635#32, 1541459225#32⟩ 3).step (kW 3) (schedW (tb blkC1) 3) = _
  rw [stC1_3, schC1_3]; kernel_rfl
theorem stC1_5 : W8.steps kW (schedW (tb blkC1)) ⟨1779033703#32, 3144134277#32, 1013904242#32, 2773480762#32, 1359893119#32, 2600822924#32, 528734635#32, 1541459225#32⟩ 5 = ⟨324944950#32, 1423390340#32, 1220811111#32, 3403064873#32, 3204309882#32, 3937153132#32, 8686003#32, 3237484728#32⟩ := by
  show (W8.steps kW (schedW (tb blkC1)) ⟨1779033703#32, 3144134277#32, 1013904242#32, 2773480762#32, 1359893119#32, 2600822924#32, 528734635#32, 1541459225#32⟩ 4).step (kW 4) (schedW (tb blkC1) 4) = _
  rw [stC1_4, schC1_4]; kernel_rfl
theorem stC1_6 : W8.steps kW (schedW (tb blkC1)) ⟨1779033703#32, 3144134277#32, 1013904242#32, 2773480762#32, 1359893119#32, 2600822924#32, 528734635#32, 1541459225#32⟩ 6 = ⟨1022881668#32, 324944950#32, 1423390340#32, 1220811111#32, 3665866197#32, 3204309882#32, 3937153132#32, 8686003#32⟩ := by
  show (W8.steps kW (schedW (tb blkC1)) ⟨1779033703#32, 3144134277#32, 1013904242#32, 2773480762#32, 1359893119#32, 2600822924#32, 528734635#32, 1541459225#32⟩ 5).step (kW 5) (schedW (tb blkC1) 5) = _
  rw [stC1_5, schC1_5]; kernel_rfl
theorem stC1_7 : W8.steps kW (schedW (tb blkC1)) ⟨1779033703#32, 3144134277#32, 1013904242#32, 2773480762#32, 1359893119#32, 2600822924#32, 528734635#32, 1541459225#32⟩ 7 = ⟨2124980856#32, 1022881668#32, 324944950#32, 1423390340#32, 99829934#32, 3665866197#32, 3204309882#32, 3937153132#32⟩ := by
  show (W8.steps kW (schedW (tb blkC1)) ⟨1779033703#32, 3144134277#32, 1013904242#32, 2773480762#32, 1359893119#32, 2600822924#32, 528734635#32, 1541459225#32⟩ 6).step (kW 6) (schedW (tb blkC1) 6) = _
  rw [stC1_6, schC1_6]; kernel_rfl
theorem stC1_8 : W8.steps kW (schedW (tb blkC1)) ⟨1779033703#32, 3144134277#32, 1013904242#32, 2773480762#32, 1359893119#32, 2600822924#32, 528734635#32, 1541459225#32⟩ 8 = ⟨3970616975#32, 2124980856#32, 1022881668#32, 324944950#32, 1403183806#32, 99829934#32, 3665866197#32, 3204309882#32⟩ := by
  show (W8.steps kW (schedW (tb blkC1)) ⟨1779033703#32, 3144134277#32, 1013904242#32, 2773480762#32, 1359893119#32, 2600822924#32, 528734635#32, 1541459225#32⟩ 7).step (kW 7) (schedW (tb blkC1) 7) = _
  rw [stC1_7, schC1_7]; kernel_rfl
theorem stC1_9 : W8.steps kW (schedW (tb blkC1)) ⟨1779033703#32, 3144134277#32, 1013904242#32, 2773480762#32, 1359893119#32, 2600822924#32, 528734635#32, 1541459225#32⟩ 9 = ⟨2012121865#32, 3970616975#32, 2124980856#32, 1022881668#32, 3929143148#32, 1403183806#32, 99829934#32, 3665866197#32⟩ := by
  show (W8.steps kW (schedW (tb blkC1)) ⟨1779033703#32, 3144134277#32, 1013904242#32, 2773480762#32, 1359893119#32, 2600822924#32, 528734635#32, 1541459225#32⟩ 8).step (kW 8) (schedW (tb blkC1) 8) = _
  rw [stC1_8, schC1_8]; kernel_rfl
theorem stC1_10 : W8.steps kW (schedW (tb blkC1)) ⟨1779033703#32, 3144134277#32, 1013904242#32, 2773480762#32, 1359893119#32, 2600822924#32, 528734635#32, 1541459225#32⟩ 10 = ⟨4029817794#32, 2012121865#32, 3970616975#32, 2124980856#32, 4007874772#32, 3929143148#32, 1403183806#32, 99829934#32⟩ := by
  show (W8.steps kW (schedW (tb blkC1)) ⟨1779033703#32, 3144134277#32, 1013904242#32, 2773480762#32, 1359893119#32, 2600822924#32, 528734635#32, 1541459225#32⟩ 9).step (kW 9) (schedW (tb blkC1) 9) = _
  rw [stC1_9, schC1_9]; kernel_rfl
theorem stC1_11 : W8.steps kW (schedW (tb blkC1)) ⟨1779033703#32, 3144134277#32, 1013904242#32, 2773480762#32, 1359893119#32, 2600822924#32, 528734635#32, 1541459225#32⟩ 11 = ⟨4081696922#32, 4029817794#32, 2012121865#32, 3970616975#32, 313775334#32, 4007874772#32, 3929143148#32, 1403183806#32⟩ := by
  show (W8.steps kW (schedW (tb blkC1)) ⟨1779033703#32, 3144134277#32, 1013904242#32, 2773480762#32, 1359893119#32, 2600822924#32, 528734635#32, 1541459225#32⟩ 10).step (kW 10) (schedW (tb blkC1) 10) = _
  rw [stC1_10, schC1_10]; kernel_rfl
theorem stC1_12 : W8.steps kW (schedW (tb blkC1)) ⟨1779033703#32, 3144134277#32, 1013904242#32, 2773480762#32, 1359893119#32, 2600822924#32, 528734635#32, 1541459225#32⟩ 12 = ⟨3109943762#32, 4081696922#32, 4029817794#32, 2012121865#32, 328647474#32, 313775334#32, 4007874772#32, 3929143148#32⟩ := by
  show (W8.steps kW (schedW (tb blkC1)) ⟨1779033703#32, 3144134277#32, 1013904242#32, 2773480762#32, 1359893119#32, 2600822924#32, 528734635#32, 1541459225#32⟩ 11).step (kW 11) (schedW (tb blkC1) 11) = _
  rw [stC1_11, schC1_11]; kernel_rfl
theorem stC1_13 : W8.steps kW (schedW (tb blkC1)) ⟨1779033703#32, 3144134277#32, 1013904242#32, 2773480762#32, 1359893119#32, 2600822924#32, 528734635#32, 1541459225#32⟩ 13 = ⟨519465#32, 3109943762#32, 4081696922#32, 4029817794#32, 1870043106#32, 328647474#32, 313775334#32, 4007874772#32⟩ := by
  show (W8.steps kW (schedW (tb blkC1)) ⟨1779033703#32, 3144134277#32, 1013904242#32, 2773480762#32, 1359893119#32, 2600822924#32, 528734635#32, 1541459225#32⟩ 12).step (kW 12) (schedW (tb blkC1) 12) = _
  rw [stC1_12, schC1_12]; kernel_rfl
theorem stC1_14 : W8.steps kW (schedW (tb blkC1)) ⟨1779033703#32, 3144134277#32, 1013904242#32, 2773480762#32, 1359893119#32, 2600822924#32, 528734635#32, 1541459225#32⟩ 14 = ⟨1888946935#32, 519465#32, 3109943762#32, 4081696922#32, 2021516714#32, 1870043106#32, 328647474#32, 313775334#32⟩ := by
  show (W8.steps kW (schedW (tb blkC1)) ⟨1779033703#32, 3144134277#32, 1013904242#32, 2773480762#32, 1359893119#32, 2600822924#32, 528734635#32, 1541459225#32⟩ 13).step (kW 13) (schedW (tb blkC1) 13) = _
  rw [stC1_13, schC1_13]; kernel_rfl
theorem stC1_15 : W8.steps kW (schedW (tb blkC1)) ⟨1779033703#32, 3144134277#32, 1013904242#32, 2773480762#32, 1359893119#32, 2600822924#32, 528734635#32, 1541459225#32⟩ 15 = ⟨2061913157#32, 1888946935#32, 519465#32, 3109943762#32, 1717733157#32, 2021516714#32, 1870043106#32, 328647474#32⟩ := by
  show (W8.steps kW (schedW (tb blkC1)) ⟨1779033703#32, 3144134277#32, 1013904242#32, 2773480762#32, 1359893119#32, 2600822924#32, 528734635#32, 1541459225#32⟩ 14).step (kW 14) (schedW (tb blkC1) 14) = _
  rw [stC1_14, schC1_14]; kernel_rfl
theorem stC1_16 : W8.steps kW (schedW (tb blkC1)) ⟨1779033703#32, 3144134277#32, 1013904242#32, 2773480762#32, 1359893119#32, 2600822924#32, 528734635#32, 1541459225#32⟩ 16 = ⟨3414094826#32, 2061913157#32, 1888946935#32, 519465#32, 1857179535#32, 1717733157#32, 2021516714#32, 1870043106#32⟩ := by
  show (W8.steps kW (schedW (tb blkC1)) ⟨1779033703#32, 3144134277#32, 1013904242#32, 2773480762#32, 1359893119#32, 2600822924#32, 528734635#32, 1541459225#32⟩ 15).step (kW 15) (schedW (tb blkC1) 15) = _
  rw [stC1_15, schC1_15]; kernel_rfl
theorem stC1_17 : W8.steps kW (schedW (tb blkC1)) ⟨1779033703#32, 3144134277#32, 1013904242#32, 2773480762#32, 1359893119#32, 2600822924#32, 528734635#32, 1541459225#32⟩ 17 = ⟨2840986875#32, 3414094826#32, 2061913157#32, 1888946935#32, 1478581021#32, 1857179535#32, 1717733157#32, 2021516714#32⟩ := by
  show (W8.steps kW (schedW (tb blkC1)) ⟨1779033703#32, 3144134277#32, 1013904242#32, 2773480762#32, 1359893119#32, 2600822924#32, 528734635#32, 1541459225#32⟩ 16).step (kW 16) (schedW (tb blkC1) 16) = _
  rw [stC1_16, schC1_16]; kernel_rfl
theorem stC1_18 : W8.steps kW (schedW (tb blkC1)) ⟨1779033703#32, 3144134277#32, 1013904242#32, 2773480762#32, 1359893119#32, 2600822924#32, 528734635#32, 1541459225#32⟩ 18 = ⟨2906417684#32, 2840986875#32, 3414094826#32, 2061913157#32, 2629962485#32, 1478581021#32, 1857179535#32, 1717733157#32⟩ := by
  show (W8.steps kW (schedW (tb blkC1)) ⟨1779033703#32, 3144134277#32, 1013904242#32, 2773480762#32, 1359893119#32, 2600822924#32, 528734635#32, 1541459225#32⟩ 17).step (kW 17) (schedW (tb blkC1) 17) = _
  rw [stC1_17, schC1_17]; kernel_rfl
theorem stC1_19 : W8.steps kW (schedW (tb blkC1)) ⟨1779033703#32, 3144134277#32, 1013904242#32, 2773480762#32, 1359893119#32, 2600822924#32, 528734635#32, 1541459225#32⟩ 19 = ⟨2316698871#32, 2906417684#32, 2840986875#32, 3414094826#32, 3510357104#32, 2629962485#32, 1478581021#32, 1857179535#32⟩ := by
  show (W8.steps kW (schedW (tb blkC1)) ⟨1779033703#32, 3144134277#32, 1013904242#32, 2773480762#32, 1359893119#32, 2600822924#32, 528734635#32, 1541459225#32⟩ 18).step (kW 18) (schedW (tb blkC1) 18) = _
  rw [stC1_18, schC1_18]; kernel_rfl
theorem stC1_20 : W8.steps kW (schedW (tb blkC1)) ⟨1779033703#32, 3144134277#32, 1013904242#32, 2773480762#32, 1359893119#32, 2600822924#32, 528734635#32, 1541459225#32⟩ 20 = ⟨262183414#32, 2316698871#32, 2906417684#32, 2840986875#32, 2497673540#32, 3510357104#32, 2629962485#32, 1478581021#32⟩ := by
  show (W8.steps kW (schedW (tb blkC1)) ⟨1779033703#32, 3144134277#32, 1013904242#32, 2773480762#32, 1359893119#32, 2600822924#32, 528734635#32, 1541459225#32⟩ 19).step (kW 19) (schedW (tb blkC1) 19) = _
  rw [stC1_19, schC1_19]; kernel_rfl
theorem stC1_21 : W8.steps kW (schedW (tb blkC1)) ⟨1779033703#32, 3144134277#32, 1013904242#32, 2773480762#32, 1359893119#32, 2600822924#32, 528734635#32, 1541459225#32⟩ 21 = ⟨2920866375#32, 262183414#32, 2316698871#32, 2906417684#32, 4193999621#32, 2497673540#32, 3510357104#32, 2629962485#32⟩ := by
  show (W8.steps kW (schedW (tb blkC1)) ⟨1779033703#32, 3144134277#32, 1013904242#32, 2773480762#32, 1359893119#32, 2600822924#32, 528734635#32, 1541459225#32⟩ 20).step (kW 20) (schedW (tb blkC1) 20) = _
  rw [stC1_20, schC1_20]; kernel_rfl
theorem stC1_22 : W8.steps kW (schedW (tb blkC1)) ⟨1779033703#32, 3144134277#32, 1013904242#32, 2773480762#32, 1359893119#32, 2600822924#32, 528734635#32, 1541459225#32⟩ 22 = ⟨718208156#32, 2920866375#32, 262183414#32, 2316698871#32, 2949156555#32, 4193999621#32, 2497673540#32, 3510357104#32⟩ := by
  show (W8.steps kW (schedW (tb blkC1)) ⟨1779033703#32, 3144134277#32, 1013904242#32, 2773480762#32, 1359893119#32, 2600822924#32, 528734635#32, 1541459225#32⟩ 21).step (kW 21) (schedW (tb blkC1) 21) = _
  rw [stC1_21, schC1_21]; kernel_rfl
theorem stC1_23 : W8.steps kW (schedW (tb blkC1)) ⟨1779033703#32, 3144134277#32, 1013904242#32, 2773480762#32, 1359893119#32, 2600822924#32, 528734635#32, 1541459225#32⟩ 23 = ⟨2972434862#32, 718208156#32, 2920866375#32, 262183414#32, 924333012#32, 2949156555#32, 4193999621#32, 2497673540#32⟩ := by
  show (W8.steps kW (schedW (tb blkC1)) ⟨1779033703#32, 3144134277#32, 1013904242#32, 2773480762#32, 1359893119#32, 2600822924#32, 528734635#32, 1541459225#32⟩ 22).step (kW 22) (schedW (tb blkC1) 22) = _
  rw [stC1_22, schC1_22]; kernel_rfl
theorem stC1_24 : W8.steps kW (schedW (tb blkC1)) ⟨1779033703#32, 3144134277#32, 1013904242#32, 2773480762#32, 1359893119#32, 2600822924#32, 528734635#32, 1541459225#32⟩ 24 = ⟨1398529226#32, 2972434862#32, 718208156#32, 2920866375#32, 2864173633#32, 924333012#32, 2949156555#32, 4193999621#32⟩ := by
  show (W8.steps kW (schedW (tb blkC1)) ⟨1779033703#32, 3144134277#32, 1013904242#32, 2773480762#32, 1359893119#32, 2600822924#32, 528734635#32, 1541459225#32⟩ 23).step (kW 23) (schedW (tb blkC1) 23) = _
  rw [stC1_23, schC1_23]; kernel_rfl
theorem stC1_25 : W8.steps kW (schedW (tb blkC1)) ⟨1779033703#32, 3144134277#32, 1013904242#32, 2773480762#32, 1359893119#32, 2600822924#32, 528734635#32, 1541459225#32⟩ 25 = ⟨3179883463#32, 1398529226#32, 2972434862#32, 718208156#32, 442428639#32, 2864173633#32, 924333012#32, 2949156555#32⟩ := by
  show (W8.steps kW (schedW (tb blkC1)) ⟨1779033703#32, 3144134277#32, 1013904242#32, 2773480762#32, 1359893119#32, 2600822924#32, 528734635#32, 1541459225#32⟩ 24).step (kW 24) (schedW (tb blkC1) 24) = _
  rw [stC1_24, schC1_24]; kernel_rfl
theorem stC1_26 : W8.steps kW (schedW (tb blkC1)) ⟨1779033703#32, 3144134277#32, 1013904242#32, 2773480762#32, 1359893119#32, 2600822924#32, 528734635#32, 1541459225#32⟩ 26 = ⟨1633872280#32, 3179883463#32, 1398529226#32, 2972434862#32, 1161126936#32, 442428639#32, 2864173633#32, 924333012#32⟩ := by
  show (W8.steps kW (schedW (tb blkC1)) ⟨1779033703#32, 3144134277#32, 1013904242#32, 2773480762#32, 1359893119#32, 2600822924#32, 528734635#32, 1541459225#32⟩ 25).step (kW 25) (schedW (tb blkC1) 25) = _
  rw [stC1_25, schC1_25]; kernel_rfl
theorem stC1_27 : W8.steps kW (schedW (tb blkC1)) ⟨1779033703#32, 3144134277#32, 1013904242#32, 2773480762#32, 1359893119#32, 2600822924#32, 528734635#32, 1541459225#32⟩ 27 = ⟨3223069676#32, 1633872280#32, 3179883463#32, 1398529226#32, 549333724#32, 1161126936#32, 442428639#32, 2864173633#32⟩ := by
  show (W8.steps kW (schedW (tb blkC1)) ⟨1779033703#32, 3144134277#32, 1013904242#32, 2773480762#32, 1359893119#32, 2600822924#32, 528734635#32, 1541459225#32⟩ 26).step (kW 26) (schedW (tb blkC1) 26) = _
  rw [stC1_26, schC1_26]; kernel_rfl
theorem stC1_28 : W8.steps kW (schedW (tb blkC1)) ⟨1779033703#32, 3144134277#32, 1013904242#32, 2773480762#32, 1359893119#32, 2600822924#32, 528734635#32, 1541459225#32⟩ 28 = ⟨2822186369#32, 3223069676#32, 1633872280#32, 3179883463#32, 3130792805#32, 549333724#32, 1161126936#32, 442428639#32⟩ := by
  show (W8.steps kW (schedW (tb blkC1)) ⟨1779033703#32, 3144134277#32, 1013904242#32, 2773480762#32, 1359893119#32, 2600822924#32, 528734635#32, 1541459225#32⟩ 27).step (kW 27) (schedW (tb blkC1) 27) = _
  rw [stC1_27, schC1_27]; kernel_rfl
theorem stC1_29 : W8.steps kW (schedW (tb blkC1)) ⟨1779033703#32, 3144134277#32, 1013904242#32, 2773480762#32, 1359893119#32, 2600822924#32, 528734635#32, 1541459225#32⟩ 29 = ⟨2450718400#32, 2822186369#32, 3223069676#32, 1633872280#32, 3570367110#32, 3130792805#32, 549333724#32, 1161126936#32⟩ := by
  show (W8.steps kW (schedW (tb blkC1)) ⟨1779033703#32, 3144134277#32, 1013904242#32, 2773480762#32, 1359893119#32, 2600822924#32, 528734635#32, 1541459225#32⟩ 28).step (kW 28) (schedW (tb blkC1) 28) = _
  rw [stC1_28, schC1_28]; kernel_rfl
theorem stC1_30 : W8.steps kW (schedW (tb blkC1)) ⟨1779033703#32, 3144134277#32, 1013904242#32, 2773480762#32, 1359893119#32, 2600822924#32, 528734635#32, 1541459225#32⟩ 30 = ⟨1948187499#32, 2450718400#32, 2822186369#32, 3223069676#32, 3153104852#32, 3570367110#32, 3130792805#32, 549333724#32⟩ := by
  show (W8.steps kW (schedW (tb blkC1)) ⟨1779033703#32, 3144134277#32, 1013904242#32, 2773480762#32, 1359893119#32, 2600822924#32, 528734635#32, 1541459225#32⟩ 29).step (kW 29) (schedW (tb blkC1) 29) = _
  rw [stC1_29, schC1_29]; kernel_rfl
theorem stC1_31 : W8.steps kW (schedW (tb blkC1)) ⟨1779033703#32, 3144134277#32, 1013904242#32, 2773480762#32, 1359893119#32, 2600822924#32, 528734635#32, 1541459225#32⟩ 31 = ⟨3467363024#32, 1948187499#32, 2450718400#32, 2822186369#32, 1627337470#32, 3153104852#32, 3570367110#32, 3130792805#32⟩ := by
  show (W8.steps kW (schedW (tb blkC1)) ⟨1779033703#32, 3144134277#32, 1013904242#32, 2773480762#32, 1359893119#32, 2600822924#32, 528734635#32, 1541459225#32⟩ 30).step (kW 30) (schedW (tb blkC1) 30) = _
  rw [stC1_30, schC1_30]; kernel_rfl
theorem stC1_32 : W8.steps kW (schedW (tb blkC1)) ⟨1779033703#32, 3144134277#32, 1013904242#32, 2773480762#32, 1359893119#32, 2600822924#32, 528734635#32, 1541459225#32⟩ 32 = ⟨832977619#32, 3467363024#32, 1948187499#32, 2450718400#32, 2040176324#32, 1627337470#32, 3153104852#32, 3570367110#32⟩ := by
  show (W8.steps kW (schedW (tb blkC1)) ⟨1779033703#32, 3144134277#32, 1013904242#32, 2773480762#32, 1359893119#32, 2600822924#32, 528734635#32, 1541459225#32⟩ 31).step (kW 31) (schedW (tb blkC1) 31) = _
  rw [stC1_31, schC1_31]; kernel_rfl
theorem stC1_33 : W8.steps kW (schedW (tb blkC1)) ⟨1779033703#32, 3144134277#32, 1013904242#32, 2773480762#32, 1359893119#32, 2600822924#32, 528734635#32, 1541459225#32⟩ 33 = ⟨482458842#32, 832977619#32, 3467363024#32, 1948187499#32, 3087692164#32, 2040176324#32, 1627337470#32, 3153104852#32⟩ := by
  show (W8.steps kW (schedW (tb blkC1)) ⟨1779033703#32, 3144134277#32, 1013904242#32, 2773480762#32, 1359893119#32, 2600822924#32, 528734635#32, 1541459225#32⟩ 32).step (kW 32) (schedW (tb blkC1) 32) = _
  rw [stC1_32, schC1_32]; kernel_rfl
theorem stC1_34 : W8.steps kW (schedW (tb blkC1)) ⟨1779033703#32, 3144134277#32, 1013904242#32, 2773480762#32, 1359893119#32, 2600822924#32, 528734635#32, 1541459225#32⟩ 34 = ⟨1324951150#32, 482458842#32, 832977619#32, 3467363024#32, 1063290303#32, 3087692164#32, 2040176324#32, 1627337470#32⟩ := by
  show (W8.steps kW (schedW (tb blkC1)) ⟨1779033703#32, 3144134277#32, 1013904242#32, 2773480762#32, 1359893119#32, 2600822924#32, 528734635#32, 1541459225#32⟩ 33).step (kW 33) (schedW (tb blkC1) 33) = _
  rw [stC1_33, schC1_33]; kernel_rfl
theorem stC1_35 : W8.steps kW (schedW (tb blkC1)) ⟨1779033703#32, 3144134277#32, 1013904242#32, 2773480762#32, 1359893119#32, 2600822924#32, 528734635#32, 1541459225#32⟩ 35 = ⟨1226353083#32, 1324951150#32, 482458842#32, 832977619#32, 3062736456#32, 1063290303#32, 3087692164#32, 2040176324#32⟩ := by
  show (W8.steps kW (schedW (tb blkC1)) ⟨1779033703#32, 3144134277#32, 1013904242#32, 2773480762#32, 1359893119#32, 2600822924#32, 528734635#32, 1541459225#32⟩ 34).step (kW 34) (schedW (tb blkC1) 34) = _
  rw [stC1_34, schC1_34]; kernel_rfl
theorem stC1_36 : W8.steps kW (schedW (tb blkC1)) ⟨1779033703#32, 3144134277#32, 1013904242#32, 2773480762#32, 1359893119#32, 2600822924#32, 528734635#32, 1541459225#32⟩ 36 = ⟨2994235090#32, 1226353083#32, 1324951150#32, 482458842#32, 2584372508#32, 3062736456#32, 1063290303#32, 3087692164#32⟩ := by
  show (W8.steps kW (schedW (tb blkC1)) ⟨1779033703#32, 3144134277#32, 1013904242#32, 2773480762#32, 1359893119#32, 2600822924#32, 528734635#32, 1541459225#32⟩ 35).step (kW 35) (schedW (tb blkC1) 35) = _
  rw [stC1_35, schC1_35]; kernel_rfl
theorem stC1_37 : W8.steps kW (schedW (tb blkC1)) ⟨1779033703#32, 3144134277#32, 1013904242#32, 2773480762#32, 1359893119#32, 2600822924#32, 528734635#32, 1541459225#32⟩ 37 = ⟨3636325548#32, 2994235090#32, 1226353083#32, 1324951150#32, 796312014#32, 2584372508#32, 3062736456#32, 1063290303#32⟩ := by
  show (W8.steps kW (schedW (tb blkC1)) ⟨1779033703#32, 3144134277#32, 1013904242#32, 2773480762#32, 1359893119#32, 2600822924#32, 528734635#32, 1541459225#32⟩ 36).step (kW 36) (schedW (tb blkC1) 36) = _
  rw [stC1_36, schC1_36]; kernel_rfl
theorem stC1_38 : W8.steps kW (schedW (tb blkC1)) ⟨1779033703#32, 3144134277#32, 1013904242#32, 2773480762#32, 1359893119#32, 2600822924#32, 528734635#32, 1541459225#32⟩ 38 = ⟨3836101613#32, 3636325548#32, 2994235090#32, 1226353083#32, 3060494331#32, 796312014#32, 2584372508#32, 3062736456#32⟩ := by
  show (W8.steps kW (schedW (tb blkC1)) ⟨1779033703#32, 3144134277#32, 1013904242#32, 2773480762#32, 1359893119#32, 2600822924#32, 528734635#32, 1541459225#32⟩ 37).step (kW 37) (schedW (tb blkC1) 37) = _
  rw [stC1_37, schC1_37]; kernel_rfl
theorem stC1_39 : W8.steps kW (schedW (tb blkC1)) ⟨1779033703#32, 3144134277#32, 1013904242#32, 2773480762#32, 1359893119#32, 2600822924#32, 528734635#32, 1541459225#32⟩ 39 = ⟨3824531482#32, 3836101613#32, 3636325548#32, 2994235090#32, 1023998094#32, 3060494331#32, 796312014#32, 2584372508#32⟩ := by
  show (W8.steps kW (schedW (tb blkC1)) ⟨1779033703#32, 3144134277#32, 1013904242#32, 2773480762#32, 1359893119#32, 2600822924#32, 528734635#32, 1541459225#32⟩ 38).step (kW 38) (schedW (tb blkC1) 38) = _
  rw [stC1_38, schC1_38]; kernel_rfl
theorem stC1_40 : W8.steps kW (schedW (tb blkC1)) ⟨1779033703#32, 3144134277#32, 1013904242#32, 2773480762#32, 1359893119#32, 2600822924#32, 528734635#32, 1541459225#32⟩ 40 = ⟨11770152#32, 3824531482#32, 3836101613#32, 3636325548#32, 598474026#32, 1023998094#32, 3060494331#32, 796312014#32⟩ := by
  show (W8.steps kW (schedW (tb blkC1)) ⟨1779033703#32, 3144134277#32, 1013904242#32, 2773480762#32, 1359893119#32, 2600822924#32, 528734635#32, 1541459225#32⟩ 39).step (kW 39) (schedW (tb blkC1) 39) = _
  rw [stC1_39, schC1_39]; kernel_rfl
theorem stC1_41 : W8.steps kW (schedW (tb blkC1)) ⟨1779033703#32, 3144134277#32, 1013904242#32, 2773480762#32, 1359893119#32, 2600822924#32, 528734635#32, 1541459225#32⟩ 41 = ⟨3036253481#32, 11770152#32, 3824531482#32, 3836101613#32, 2784468185#32, 598474026#32, 1023998094#32, 3060494331#32⟩ := by
  show (W8.steps kW (schedW (tb blkC1)) ⟨1779033703#32, 3144134277#32, 1013904242#32, 2773480762#32, 1359893119#32, 2600822924#32, 528734635#32, 1541459225#32⟩ 40).step (kW 40) (schedW (tb blkC1) 40) = _
  rw [stC1_40, schC1_40]; kernel_rfl
theorem stC1_42 : W8.steps kW (schedW (tb blkC1)) ⟨1779033703#32, 3144134277#32, 1013904242#32, 2773480762#32, 1359893119#32, 2600822924#32, 528734635#32, 1541459225#32⟩ 42 = ⟨2124086847#32, 3036253481#32, 11770152#32, 3824531482#32, 3758638767#32, 2784468185#32, 598474026#32, 1023998094#32⟩ := by
  show (W8.steps kW (schedW (tb blkC1)) ⟨1779033703#32, 3144134277#32, 1013904242#32, 2773480762#32, 1359893119#32, 2600822924#32, 528734635#32, 1541459225#32⟩ 41).step (kW 41) (schedW (tb blkC1) 41) = _
  rw [stC1_41, schC1_41]; kernel_rfl
theorem stC1_43 : W8.steps kW (schedW (tb blkC1)) ⟨1779033703#32, 3144134277#32, 1013904242#32, 2773480762#32, 1359893119#32, 2600822924#32, 528734635#32, 1541459225#32⟩ 43 = ⟨1692896086#32, 2124086847#32, 3036253481#32, 11770152#32, 3464228773#32, 3758638767#32, 2784468185#32, 598474026#32⟩ := by
  show (W8.steps kW (schedW (tb blkC1)) ⟨1779033703#32, 3144134277#32, 1013904242#32, 2773480762#32, 1359893119#32, 2600822924#32, 528734635#32, 1541459225#32⟩ 42).step (kW 42) (schedW (tb blkC1) 42) = _
  rw [stC1_42, schC1_42]; kernel_rfl
theorem stC1_44 : W8.steps kW (schedW (tb blkC1)) ⟨1779033703#32, 3144134277#32, 1013904242#32, 2773480762#32, 1359893119#32, 2600822924#32, 528734635#32, 1541459225#32⟩ 44 = ⟨3075330886#32, 1692896086#32, 2124086847#32, 3036253481#32, 3848159413#32, 3464228773#32, 3758638767#32, 2784468185#32⟩ := by
  show (W8.steps kW (schedW (tb blkC1)) ⟨1779033703#32, 3144134277#32, 1013904242#32, 2773480762#32, 1359893119#32, 2600822924#32, 528734635#32, 1541459225#32⟩ 43).step (kW 43) (schedW (tb blkC1) 43) = _
  rw [stC1_43, schC1_43]; kernel_rfl
theorem stC1_45 : W8.steps kW (schedW (tb blkC1)) ⟨1779033703#32, 3144134277#32, 1013904242#32, 2773480762#32, 1359893119#32, 2600822924#32, 528734635#32, 1541459225#32⟩ 45 = ⟨1319135086#32, 3075330886#32, 1692896086#32, 2124086847#32, 2350793951#32, 3848159413#32, 3464228773#32, 3758638767#32⟩ := by
  show (W8.steps kW (schedW (tb blkC1)) ⟨1779033703#32, 3144134277#32, 1013904242#32, 2773480762#32, 1359893119#32, 2600822924#32, 528734635#32, 1541459225#32⟩ 44).step (kW 44) (schedW (tb blkC1) 44) = _
  rw [stC1_44, schC1_44]; kernel_rfl
theorem stC1_46 : W8.steps kW (schedW (tb blkC1)) ⟨1779033703#32, 3144134277#32, 1013904242#32, 2773480762#32, 1359893119#32, 2600822924#32, 528734635#32, 1541459225#32⟩ 46 = ⟨3589503183#32, 1319135086#32, 3075330886#32, 1692896086#32, 3294682598#32, 2350793951#32, 3848159413#32, 3464228773#32⟩ := by
  show (W8.steps kW (schedW (tb blkC1)) ⟨1779033703#32, 3144134277#32, 1013904242#32, 2773480762#32, 1359893119#32, 2600822924#32, 528734635#32, 1541459225#32⟩ 45).step (kW 45) (schedW (tb blkC1) 45) = _
  rw [stC1_45, schC1_45]; kernel_rfl
theorem stC1_47 : W8.steps kW (schedW (tb blkC1)) ⟨1779033703#32, 3144134277#32, 1013904242#32, 2773480762#32, 1359893119#32, 2600822924#32, 528734635#32, 1541459225#32⟩ 47 = ⟨518416310#32, 3589503183#32, 1319135086#32, 3075330886#32, 2903191743#32, 3294682598#32, 2350793951#32, 3848159413#32⟩ := by
  show (W8.steps kW (schedW (tb blkC1)) ⟨1779033703#32, 3144134277#32, 1013904242#32, 2773480762#32, 1359893119#32, 2600822924#32, 528734635#32, 1541459225#32⟩ 46).step (kW 46) (schedW (tb blkC1) 46) = _
  rw [stC1_46, schC1_46]; kernel_rfl
theorem stC1_48 : W8.steps kW (schedW (tb blkC1)) ⟨1779033703#32, 3144134277#32, 1013904242#32, 2773480762#32, 1359893119#32, 2600822924#32, 528734635#32, 1541459225#32⟩ 48 = ⟨2206160750#32, 518416310#32, 3589503183#32, 1319135086#32, 3092450337#32, 2903191743#32, 3294682598#32, 2350793951#32⟩ := by
  show (W8.steps kW (schedW (tb blkC1)) ⟨1779033703#32, 3144134277#32, 1013904242#32, 2773480762#32, 1359893119#32, 2600822924#32, 528734635#32, 1541459225#32⟩ 47).step (kW 47) (schedW (tb blkC1) 47) = _
  rw [stC1_47, schC1_47]; kernel_rfl
theorem stC1_49 : W8.steps kW (schedW (tb blkC1)) ⟨1779033703#32, 3144134277#32, 1013904242#32, 2773480762#32, 1359893119#32, 2600822924#32, 528734635#32, 1541459225#32⟩ 49 = ⟨636317197#32, 2206160750#32, 518416310#32, 3589503183#32, 4120897889#32, 3092450337#32, 2903191743#32, 3294682598#32⟩ := by
  show (W8.steps kW (schedW (tb blkC1)) ⟨1779033703#32, 3144134277#32, 1013904242#32, 2773480762#32, 1359893119#32, 2600822924#32, 528734635#32, 1541459225#32⟩ 48).step (kW 48) (schedW (tb blkC1) 48) = _
  rw [stC1_48, schC1_48]; kernel_rfl
theorem stC1_50 : W8.steps kW (schedW (tb blkC1)) ⟨1779033703#32, 3144134277#32, 1013904242#32, 2773480762#32, 1359893119#32, 2600822924#32, 528734635#32, 1541459225#32⟩ 50 = ⟨303355828#32, 636317197#32, 2206160750#32, 518416310#32, 1399761110#32, 4120897889#32, 3092450337#32, 2903191743#32⟩ := by
  show (W8.steps kW (schedW (tb blkC1)) ⟨1779033703#32, 3144134277#32, 1013904242#32, 2773480762#32, 1359893119#32, 2600822924#32, 528734635#32, 1541459225#32⟩ 49).step (kW 49) (schedW (tb blkC1) 49) = _
  rw [stC1_49, schC1_49]; kernel_rfl
theorem stC1_51 : W8.steps kW (schedW (tb blkC1)) ⟨1779033703#32, 3144134277#32, 1013904242#32, 2773480762#32, 1359893119#32, 2600822924#32, 528734635#32, 1541459225#32⟩ 51 = ⟨2706434818#32, 303355828#32, 636317197#32, 2206160750#32, 3527313033#32, 1399761110#32, 4120897889#32, 3092450337#32⟩ := by
  show (W8.steps kW (schedW (tb blkC1)) ⟨1779033703#32, 3144134277#32, 1013904242#32, 2773480762#32, 1359893119#32, 2600822924#32, 528734635#32, 1541459225#32⟩ 50).step (kW 50) (schedW (tb blkC1) 50) = _
  rw [stC1_50, schC1_50]; kernel_rfl
theorem stC1_52 : W8.steps kW (schedW (tb blkC1)) ⟨1779033703#32, 3144134277#32, 1013904242#32, 2773480762#32, 1359893119#32, 2600822924#32, 528734635#32, 1541459225#32⟩ 52 = ⟨2481598256#32, 2706434818#32, 303355828#32, 636317197#32, 1109875928#32, 3527313033#32, 1399761110#32, 4120897889#32⟩ := by
  show (W8.steps kW (schedW (tb blkC1)) ⟨1779033703#32, 3144134277#32, 1013904242#32, 2773480762#32, 1359893119#32, 2600822924#32, 528734635#32, 1541459225#32⟩ 51).step (kW 51) (schedW (tb blkC1) 51) = _
  rw [stC1_51, schC1_51]; kernel_rfl
theorem stC1_53 : W8.steps kW (schedW (tb blkC1)) ⟨1779033703#32, 3144134277#32, 1013904242#32, 2773480762#32, 1359893119#32, 2600822924#32, 528734635#32, 1541459225#32⟩ 53 = ⟨2380963453#32, 2481598256#32, 2706434818#32, 303355828#32, 717506184#32, 1109875928#32, 3527313033#32, 1399761110#32⟩ := by
  show (W8.steps kW (schedW (tb blkC1)) ⟨1779033703#32, 3144134277#32, 1013904242#32, 2773480762#32, 1359893119#32, 2600822924#32, 528734635#32, 1541459225#32⟩ 52).step (kW 52) (schedW (tb blkC1) 52) = _
  rw [stC1_52, schC1_52]; kernel_rfl
theorem stC1_54 : W8.steps kW (schedW (tb blkC1)) ⟨1779033703#32, 3144134277#32, 1013904242#32, 2773480762#32, 1359893119#32, 2600822924#32, 528734635#32, 1541459225#32⟩ 54 = ⟨2491541820#32, 2380963453#32, 2481598256#32, 2706434818#32, 3921466052#32, 717506184#32, 1109875928#32, 3527313033#32⟩ := by
  show (W8.steps kW (schedW (tb blkC1)) ⟨1779033703#32, 3144134277#32, 1013904242#32, 2773480762#32, 1359893119#32, 2600822924#32, 528734635#32, 1541459225#32⟩ 53).step (kW 53) (schedW (tb blkC1) 53) = _
  rw [stC1_53, schC1_53]; kernel_rfl
theorem stC1_55 : W8.steps kW (schedW (tb blkC1)) ⟨1779033703#32, 3144134277#32, 1013904242#32, 2773480762#32, 1359893119#32, 2600822924#32, 528734635#32, 1541459225#32⟩ 55 = ⟨356779387#32, 2491541820#32, 2380963453#32, 2481598256#32, 3041531183#32, 3921466052#32, 717506184#32, 1109875928#32⟩ := by
  show (W8.steps kW (schedW (tb blkC1)) ⟨1779033703#32, 3144134277#32, 1013904242#32, 2773480762#32, 1359893119#32, 2600822924#32, 528734635#32, 1541459225#32⟩ 54).step (kW 54) (schedW (tb blkC1) 54) = _
  rw [stC1_54, schC1_54]; kernel_rfl
theorem stC1_56 : W8.steps kW (schedW (tb blkC1)) ⟨1779033703#32, 3144134277#32, 1013904242#32, 2773480762#32, 1359893119#32, 2600822924#32, 528734635#32, 1541459225#32⟩ 56 = ⟨3578967522#32, 356779387#32, 2491541820#32, 2380963453#32, 3571454058#32, 3041531183#32, 3921466052#32, 717506184#32⟩ := by
  show (W8.steps kW (schedW (tb blkC1)) ⟨1779033703#32, 3144134277#32, 1013904242#32, 2773480762#32, 1359893119#32, 2600822924#32, 528734635#32, 1541459225#32⟩ 55).step (kW 55) (schedW (tb blkC1) 55) = _
  rw [stC1_55, schC1_55]; kernel_rfl
theorem stC1_57 : W8.steps kW (schedW (tb blkC1)) ⟨1779033703#32, 3144134277#32, 1013904242#32, 2773480762#32, 1359893119#32, 2600822924#32, 528734635#32, 1541459225#32⟩ 57 = ⟨2372829323#32, 3578967522#32, 356779387#32, 2491541820#32, 897772758#32, 3571454058#32, 3041531183#32, 3921466052#32⟩ := by
  show (W8.steps kW (schedW (tb blkC1)) ⟨1779033703#32, 3144134277#32, 1013904242#32, 2773480762#32, 1359893119#32, 2600822924#32, 528734635#32, 1541459225#32⟩ 56).step (kW 56) (schedW (tb blkC1) 56) = _
  rw [stC1_56, schC1_56]; kernel_rfl
theorem stC1_58 : W8.steps kW (schedW (tb blkC1)) ⟨1779033703#32, 3144134277#32, 1013904242#32, 2773480762#32, 1359893119#32, 2600822924#32, 528734635#32, 1541459225#32⟩ 58 = ⟨4239926457#32, 2372829323#32, 3578967522#32, 356779387#32, 2666373799#32, 897772758#32, 3571454058#32, 3041531183#32⟩ := by
  show (W8.steps kW (schedW (tb blkC1)) ⟨1779033703#32, 3144134277#32, 1013904242#32, 2773480762#32, 1359893119#32, 2600822924#32, 528734635#32, 1541459225#32⟩ 57).step (kW 57) (schedW (tb blkC1) 57) = _
  rw [stC1_57, schC1_57]; kernel_rfl
theorem stC1_59 : W8.steps kW (schedW (tb blkC1)) ⟨1779033703#32, 3144134277#32, 1013904242#32, 2773480762#32, 1359893119#32, 2600822924#32, 528734635#32, 1541459225#32⟩ 59 = ⟨1848295257#32, 4239926457#32, 2372829323#32, 3578967522#32, 3951105292#32, 2666373799#32, 897772758#32, 3571454058#32⟩ := by
  show (W8.steps kW (schedW (tb blkC1)) ⟨1779033703#32, 3144134277#32, 1013904242#32, 2773480762#32, 1359893119#32, 2600822924#32, 528734635#32, 1541459225#32⟩ 58).step (kW 58) (schedW (tb blkC1) 58) = _
  rw [stC1_58, schC1_58]; kernel_rfl
theorem stC1_60 : W8.steps kW (schedW (tb blkC1)) ⟨1779033703#32, 3144134277#32, 1013904242#32, 2773480762#32, 1359893119#32, 2600822924#32, 528734635#32, 1541459225#32⟩ 60 = ⟨3369607565#32, 1848295257#32, 4239926457#32, 2372829323#32, 2789439387#32, 3951105292#32, 2666373799#32, 897772758#32⟩ := by
  show (W8.steps kW (schedW (tb blkC1)) ⟨1779033703#32, 3144134277#32, 1013904242#32, 2773480762#32, 1359893119#32, 2600822924#32, 528734635#32, 1541459225#32⟩ 59).step (kW 59) (schedW (tb blkC1) 59) = _
  rw [stC1_59, schC1_59]; kernel_rfl
theorem stC1_61 : W8.steps kW (schedW (tb blkC1)) ⟨1779033703#32, 3144134277#32, 1013904242#32, 2773480762#32, 1359893119#32, 2600822924#32, 528734635#32, 1541459225#32⟩ 61 = ⟨4288633646#32, 3369607565#32, 1848295257#32, 4239926457#32, 2172075167#32, 2789439387#32, 3951105292#32, 2666373799#32⟩ := by
  show (W8.steps kW (schedW (tb blkC1)) ⟨1779033703#32, 3144134277#32, 1013904242#32, 2773480762#32, 1359893119#32, 2600822924#32, 528734635#32, 1541459225#32⟩ 60).step (kW 60) (schedW (tb blkC1) 60) = _
  rw [stC1_60, schC1_60]; kernel_rfl
theorem stC1_62 : W8.steps kW (schedW (tb blkC1)) ⟨1779033703#32, 3144134277#32, 1013904242#32, 2773480762#32, 1359893119#32, 2600822924#32, 528734635#32, 1541459225#32⟩ 62 = ⟨2265689034#32, 4288633646#32, 3369607565#32, 1848295257#32, 2032993191#32, 2172075167#32, 2789439387#32, 3951105292#32⟩ := by
  show (W8.steps kW (schedW (tb blkC1)) ⟨1779033703#32, 3144134277#32, 1013904242#32, 2773480762#32, 1359893119#32, 2600822924#32, 528734635#32, 1541459225#32⟩ 61).step (kW 61) (schedW (tb blkC1) 61) = _
  rw [stC1_61, schC1_61]; kernel_rfl
theorem stC1_63 : W8.steps kW (schedW (tb blkC1)) ⟨1779033703#32, 3144134277#32, 1013904242#32, 2773480762#32, 1359893119#32, 2600822924#32, 528734635#32, 1541459225#32⟩ 63 = ⟨2049718491#32, 2265689034#32, 4288633646#32, 3369607565#32, 1199690739#32, 2032993191#32, 2172075167#32, 2789439387#32⟩ := by
  show (W8.steps kW (schedW (tb blkC1)) ⟨1779033703#32, 3144134277#32, 1013904242#32, 2773480762#32, 1359893119#32, 2600822924#32, 528734635#32, 1541459225#32⟩ 62).step (kW 62) (schedW (tb blkC1) 62) = _
  rw [stC1_62, schC1_62]; kernel_rfl
theorem stC1_64 : W8.steps kW (schedW (tb blkC1)) ⟨1779033703#32, 3144134277#32, 1013904242#32, 2773480762#32, 1359893119#32, 2600822924#32, 528734635#32, 1541459225#32⟩ 64 = ⟨192993950#32, 2049718491#32, 2265689034#32, 4288633646#32, 748031394#32, 1199690739#32, 2032993191#32, 2172075167#32⟩ := by
  show (W8.steps kW (schedW (tb blkC1)) ⟨1779033703#32, 3144134277#32, 1013904242#32, 2773480762#32, 1359893119#32, 2600822924#32, 528734635#32, 1541459225#32⟩ 63).step (kW 63) (schedW (tb blkC1) 63) = _
  rw [stC1_63, schC1_63]; kernel_rfl
theorem turnC1 : W8.turn kW ⟨1779033703#32, 3144134277#32, 1013904242#32, 2773480762#32, 1359893119#32, 2600822924#32, 528734635#32, 1541459225#32⟩ (tb blkC1) = ⟨1972027653#32, 898885472#32, 3279593276#32, 2767147112#32, 2107924513#32, 3800513663#32, 2561727826#32, 3713534392#32⟩ := by
  unfold W8.turn
  rw [stC1_64]; kernel_rfl
def blkC2 : List Nat := [0, 16, 14, 116, 108, 115, 49, 51, 32, 113, 117, 105, 99, 32, 107, 101, 121, 0, 1, 128, 0, 0, 0, 0, 0, 0, 0, 0, 0, 0, 0, 0, 0, 0, 0, 0, 0, 0, 0, 0, 0, 0, 0, 0, 0, 0, 0, 0, 0, 0, 0, 0, 0, 0, 0, 0, 0, 0, 0, 0, 0, 0, 2, 152]
theorem schC2_0 : schedW (tb blkC2) 0 = 1052276#32 := by rw [schedW_low (tb blkC2) (by omega)]; kernel_rfl
theorem schC2_1 : schedW (tb blkC2) 1 = 1819488563#32 := by rw [schedW_low (tb blkC2) (by omega)]; kernel_rfl
theorem schC2_2 : schedW (tb blkC2) 2 = 544306537#32 := by rw [schedW_low (tb blkC2) (by omega)]; kernel_rfl
theorem schC2_3 : schedW (tb blkC2) 3 = 1663069029#32 := by rw [schedW_low (tb blkC2) (by omega)]; kernel_rfl
theorem schC2_4 : schedW (tb blkC2) 4 = 2030043520#32 := by rw [schedW_low (tb blkC2) (by omega)]; kernel_rfl
theorem schC2_5 : schedW (tb blkC2) 5 = 0#32 := by rw [schedW_low (tb blkC2) (by omega)]; kernel_rfl
theorem schC2_6 : schedW (tb blkC2) 6 = 0#32 := by rw [schedW_low (tb blkC2) (by omega)]; kernel_rfl
theorem schC2_7 : schedW (tb blkC2) 7 = 0#32 := by rw [schedW_low (tb blkC2) (by omega)]; kernel_rfl
theorem schC2_8 : schedW (tb blkC2) 8 = 0#32 := by rw [schedW_low (tb blkC2) (by omega)]; kernel_rfl
theorem schC2_9 : schedW (tb blkC2) 9 = 0#32 := by rw [schedW_low (tb blkC2) (by omega)]; kernel_rfl
theorem schC2_10 : schedW (tb blkC2) 10 = 0#32 := by rw [schedW_low (tb blkC2) (by omega)]; kernel_rfl
theorem schC2_11 : schedW (tb blkC2) 11 = 0#32 := by rw [schedW_low (tb blkC2) (by omega)]; kernel_rfl
theorem schC2_12 : schedW (tb blkC2) 12 = 0#32 := by rw [schedW_low (tb blkC2) (by omega)]; kernel_rfl
theorem schC2_13 : schedW (tb blkC2) 13 = 0#32 := by rw [schedW_low (tb blkC2) (by omega)]; kernel_rfl
theorem schC2_14 : schedW (tb blkC2) 14 = 0#32 := by rw [schedW_low (tb blkC2) (by omega)]; kernel_rfl
theorem schC2_15 : schedW (tb blkC2) 15 = 664#32 := by rw [schedW_low (tb blkC2) (by omega)]; kernel_rfl
theorem schC2_16 : schedW (tb blkC2) 16 = 2804574668#32 := by
  rw [schedW_high (tb blkC2) (by omega)]
  show sig1 (schedW (tb blkC2) 14) + schedW (tb blkC2) 9 + sig0 (schedW (tb blkC2) 1) + schedW (tb blkC2) 0 = _
  rw [schC2_14, schC2_9, schC2_1, schC2_0]; kernel_rfl
theorem schC2_17 : schedW (tb blkC2) 17 = 4171675022#32 := by
  rw [schedW_high (tb blkC2) (by omega)]
  show sig1 (schedW (tb blkC2) 15) + schedW (tb blkC2) 10 + sig0 (schedW (tb blkC2) 2) + schedW (tb blkC2) 1 = _
  rw [schC2_15, schC2_10, schC2_2, schC2_1]; kernel_rfl
theorem schC2_18 : schedW (tb blkC2) 18 = 1994561733#32 := by
  rw [schedW_high (tb blkC2) (by omega)]
  show sig1 (schedW (tb blkC2) 16) + schedW (tb blkC2) 11 + sig0 (schedW (tb blkC2) 3) + schedW (tb blkC2) 2 = _
  rw [schC2_16, schC2_11, schC2_3, schC2_2]; kernel_rfl
theorem schC2_19 : schedW (tb blkC2) 19 = 4279964866#32 := by
  rw [schedW_high (tb blkC2) (by omega)]
  show sig1 (schedW (tb blkC2) 17) + schedW (tb blkC2) 12 + sig0 (schedW (tb blkC2) 4) + schedW (tb blkC2) 3 = _
  rw [schC2_17, schC2_12, schC2_4, schC2_3]; kernel_rfl
theorem schC2_20 : schedW (tb blkC2) 20 = 2556931723#32 := by
  rw [schedW_high (tb blkC2) (by omega)]
  show sig1 (schedW (tb blkC2) 18) + schedW (tb blkC2) 13 + sig0 (schedW (tb blkC2) 5) + schedW (tb blkC2) 4 = _
  rw [schC2_18, schC2_13, schC2_5, schC2_4]; kernel_rfl
theorem schC2_21 : schedW (tb blkC2) 21 = 3905349291#32 := by
  rw [schedW_high (tb blkC2) (by omega)]
  show sig1 (schedW (tb blkC2) 19) + schedW (tb blkC2) 14 + sig0 (schedW (tb blkC2) 6) + schedW (tb blkC2) 5 = _
  rw [schC2_19, schC2_14, schC2_6, schC2_5]; kernel_rfl
theorem schC2_22 : schedW (tb blkC2) 22 = 582134124#32 := by
  rw [schedW_high (tb blkC2) (by omega)]
  show sig1 (schedW (tb blkC2) 20) + schedW (tb blkC2) 15 + sig0 (schedW (tb blkC2) 7) + schedW (tb blkC2) 6 = _
  rw [schC2_20, schC2_15, schC2_7, schC2_6]; kernel_rfl
theorem schC2_23 : schedW (tb blkC2) 23 = 1457857166#32 := by
  rw [schedW_high (tb blkC2) (by omega)]
  show sig1 (schedW (tb blkC2) 21) + schedW (tb blkC2) 16 + sig0 (schedW (tb blkC2) 8) + schedW (tb blkC2) 7 = _
  rw [schC2_21, schC2_16, schC2_8, schC2_7]; kernel_rfl
theorem schC2_24 : schedW (tb blkC2) 24 = 4198100787#32 := by
  rw [schedW_high (tb blkC2) (by omega)]
  show sig1 (schedW (tb blkC2) 22) + schedW (tb blkC2) 17 + sig0 (schedW (tb blkC2) 9) + schedW (tb blkC2) 8 = _
  rw [schC2_22, schC2_17, schC2_9, schC2_8]; kernel_rfl
theorem schC2_25 : schedW (tb blkC2) 25 = 2883973547#32 := by
  rw [schedW_high (tb blkC2) (by omega)]
  show sig1 (schedW (tb blkC2) 23) + schedW (tb blkC2) 18 + sig0 (schedW (tb blkC2) 10) + schedW (tb blkC2) 9 = _
  rw [schC2_23, schC2_18, schC2_10, schC2_9]; kernel_rfl
theorem schC2_26 : schedW (tb blkC2) 26 = 3378258146#32 := by
  rw [schedW_high (tb blkC2) (by omega)]
  show sig1 (schedW (tb blkC2) 24) + schedW (tb blkC2) 19 + sig0 (schedW (tb blkC2) 11) + schedW (tb blkC2) 10 = _
  rw [schC2_24, schC2_19, schC2_11, schC2_10]; kernel_rfl
theorem schC2_27 : schedW (tb blkC2) 27 = 3744598141#32 := by
  rw [schedW_high (tb blkC2) (by omega)]
  show sig1 (schedW (tb blkC2) 25) + schedW (tb blkC2) 20 + sig0 (schedW (tb blkC2) 12) + schedW (tb blkC2) 11 = _
  rw [schC2_25, schC2_20, schC2_12, schC2_11]; kernel_rfl
theorem schC2_28 : schedW (tb blkC2) 28 = 2099663160#32 := by
  rw [schedW_high (tb blkC2) (by omega)]
  show sig1 (schedW (tb blkC2) 26) + schedW (tb blkC2) 21 + sig0 (schedW (tb blkC2) 13) + schedW (tb blkC2) 12 = _
  rw [schC2_26, schC2_21, schC2_13, schC2_12]; kernel_rfl
theorem schC2_29 : schedW (tb blkC2) 29 = 1740194409#32 := by
  rw [schedW_high (tb blkC2) (by omega)]
  show sig1 (schedW (tb blkC2) 27) + schedW (tb blkC2) 22 + sig0 (schedW (tb blkC2) 14) + schedW (tb blkC2) 13 = _
  rw [schC2_27, schC2_22, schC2_14, schC2_13]; kernel_rfl
theorem schC2_30 : schedW (tb blkC2) 30 = 1781504903#32 := by
  rw [schedW_high (tb blkC2) (by omega)]
  show sig1 (schedW (tb blkC2) 28) + schedW (tb blkC2) 23 + sig0 (schedW (tb blkC2) 15) + schedW (tb blkC2) 14 = _
  rw [schC2_28, schC2_23, schC2_15, schC2_14]; kernel_rfl
theorem schC2_31 : schedW (tb blkC2) 31 = 2607977318#32 := by
  rw [schedW_high (tb blkC2) (by omega)]
  show sig1 (schedW (tb blkC2) 29) + schedW (tb blkC2) 24 + sig0 (schedW (tb blkC2) 16) + schedW (tb blkC2) 15 = _
  rw [schC2_29, schC2_24, schC2_16, schC2_15]; kernel_rfl
theorem schC2_32 : schedW (tb blkC2) 32 = 1094735134#32 := by
  rw [schedW_high (tb blkC2) (by omega)]
  show sig1 (schedW (tb blkC2) 30) + schedW (tb blkC2) 25 + sig0 (schedW (tb blkC2) 17) + schedW (tb blkC2) 16 = _
  rw [schC2_30, schC2_25, schC2_17, schC2_16]; kernel_rfl
theorem schC2_33 : schedW (tb blkC2) 33 = 4294763636#32 := by
  rw [schedW_high (tb blkC2) (by omega)]
  show sig1 (schedW (tb blkC2) 31) + schedW (tb blkC2) 26 + sig0 (schedW (tb blkC2) 18) + schedW (tb blkC2) 17 = _
  rw [schC2_31, schC2_26, schC2_18, schC2_17]; kernel_rfl
theorem schC2_34 : schedW (tb blkC2) 34 = 3581887830#32 := by
  rw [schedW_high (tb blkC2) (by omega)]
  show sig1 (schedW (tb blkC2) 32) + schedW (tb blkC2) 27 + sig0 (schedW (tb blkC2) 19) + schedW (tb blkC2) 18 = _
  rw [schC2_32, schC2_27, schC2_19, schC2_18]; kernel_rfl
theorem schC2_35 : schedW (tb blkC2) 35 = 1516986823#32 := by
  rw [schedW_high (tb blkC2) (by omega)]
  show sig1 (schedW (tb blkC2) 33) + schedW (tb blkC2) 28 + sig0 (schedW (tb blkC2) 20) + schedW (tb blkC2) 19 = _
  rw [schC2_33, schC2_28, schC2_20, schC2_19]; kernel_rfl
theorem schC2_36 : schedW (tb blkC2) 36 = 1035570142#32 := by
  rw [schedW_high (tb blkC2) (by omega)]
  show sig1 (schedW (tb blkC2) 34) + schedW (tb blkC2) 29 + sig0 (schedW (tb blkC2) 21) + schedW (tb blkC2) 20 = _
  rw [schC2_34, schC2_29, schC2_21, schC2_20]; kernel_rfl
theorem schC2_37 : schedW (tb blkC2) 37 = 2785843109#32 := by
  rw [schedW_high (tb blkC2) (by omega)]
  show sig1 (schedW (tb blkC2) 35) + schedW (tb blkC2) 30 + sig0 (schedW (tb blkC2) 22) + schedW (tb blkC2) 21 = _
  rw [schC2_35, schC2_30, schC2_22, schC2_21]; kernel_rfl
theorem schC2_38 : schedW (tb blkC2) 38 = 294907784#32 := by
  rw [schedW_high (tb blkC2) (by omega)]
  show sig1 (schedW (tb blkC2) 36) + schedW (tb blkC2) 31 + sig0 (schedW (tb blkC2) 23) + schedW (tb blkC2) 22 = _
  rw [schC2_36, schC2_31, schC2_23, schC2_22]; kernel_rfl
theorem schC2_39 : schedW (tb blkC2) 39 = 1958022468#32 := by
  rw [schedW_high (tb blkC2) (by omega)]
  show sig1 (schedW (tb blkC2) 37) + schedW (tb blkC2) 32 + sig0 (schedW (tb blkC2) 24) + schedW (tb blkC2) 23 = _
  rw [schC2_37, schC2_32, schC2_24, schC2_23]; kernel_rfl
theorem schC2_40 : schedW (tb blkC2) 40 = 3265913046#32 := by
  rw [schedW_high (tb blkC2) (by omega)]
  show sig1 (schedW (tb blkC2) 38) + schedW (tb blkC2) 33 + sig0 (schedW (tb blkC2) 25) + schedW (tb blkC2) 24 = _
  rw [schC2_38, schC2_33, schC2_25, schC2_24]; kernel_rfl
theorem schC2_41 : schedW (tb blkC2) 41 = 2097045146#32 := by
  rw [schedW_high (tb blkC2) (by omega)]
  show sig1 (schedW (tb blkC2) 39) + schedW (tb blkC2) 34 + sig0 (schedW (tb blkC2) 26) + schedW (tb blkC2) 25 = _
  rw [schC2_39, schC2_34, schC2_26, schC2_25]; kernel_rfl
theorem schC2_42 : schedW (tb blkC2) 42 = 1380968693#32 := by
  rw [schedW_high (tb blkC2) (by omega)]
  show sig1 (schedW (tb blkC2) 40) + schedW (tb blkC2) 35 + sig0 (schedW (tb blkC2) 27) + schedW (tb blkC2) 26 = _
  rw [schC2_40, schC2_35, schC2_27, schC2_26]; kernel_rfl
theorem schC2_43 : schedW (tb blkC2) 43 = 3967646878#32 := by
  rw [schedW_high (tb blkC2) (by omega)]
  show sig1 (schedW (tb blkC2) 41) + schedW (tb blkC2) 36 + sig0 (schedW (tb blkC2) 28) + schedW (tb blkC2) 27 = _
  rw [schC2_41, schC2_36, schC2_28, schC2_27]; kernel_rfl
theorem schC2_44 : schedW (tb blkC2) 44 = 3141893272#32 := by
  rw [schedW_high (tb blkC2) (by omega)]
  show sig1 (schedW (tb blkC2) 42) + schedW (tb blkC2) 37 + sig0 (schedW (tb blkC2) 29) + schedW (tb blkC2) 28 = _
  rw [schC2_42, schC2_37, schC2_29, schC2_28]; kernel_rfl
theorem schC2_45 : schedW (tb blkC2) 45 = 1889885611#32 := by
  rw [schedW_high (tb blkC2) (by omega)]
  show sig1 (schedW (tb blkC2) 43) + schedW (tb blkC2) 38 + sig0 (schedW (tb blkC2) 30) + schedW (tb blkC2) 29 = _
  rw [schC2_43, schC2_38, schC2_30, schC2_29]; kernel_rfl
theorem schC2_46 : schedW (tb blkC2) 46 = 1800885750#32 := by
  rw [schedW_high (tb blkC2) (by omega)]
  show sig1 (schedW (tb blkC2) 44) + schedW (tb blkC2) 39 + sig0 (schedW (tb blkC2) 31) + schedW (tb blkC2) 30 = _
  rw [schC2_44, schC2_39, schC2_31, schC2_30]; kernel_rfl
theorem schC2_47 : schedW (tb blkC2) 47 = 2240187814#32 := by
  rw [schedW_high (tb blkC2) (by omega)]
  show sig1 (schedW (tb blkC2) 45) + schedW (tb blkC2) 40 + sig0 (schedW (tb blkC2) 32) + schedW (tb blkC2) 31 = _
  rw [schC2_45, schC2_40, schC2_32, schC2_31]; kernel_rfl
theorem schC2_48 : schedW (tb blkC2) 48 = 3451599749#32 := by
  rw [schedW_high (tb blkC2) (by omega)]
  show sig1 (schedW (tb blkC2) 46) + schedW (tb blkC2) 41 + sig0 (schedW (tb blkC2) 33) + schedW (tb blkC2) 32 = _
  rw [schC2_46, schC2_41, schC2_33, schC2_32]; kernel_rfl
theorem schC2_49 : schedW (tb blkC2) 49 = 1340368056#32 := by
  rw [schedW_high (tb blkC2) (by omega)]
  show sig1 (schedW (tb blkC2) 47) + schedW (tb blkC2) 42 + sig0 (schedW (tb blkC2) 34) + schedW (tb blkC2) 33 = _
  rw [schC2_47, schC2_42, schC2_34, schC2_33]; kernel_rfl
theorem schC2_50 : schedW (tb blkC2) 50 = 436625401#32 := by
  rw [schedW_high (tb blkC2) (by omega)]
  show sig1 (schedW (tb blkC2) 48) + schedW (tb blkC2) 43 + sig0 (schedW (tb blkC2) 35) + schedW (tb blkC2) 34 = _
  rw [schC2_48, schC2_43, schC2_35, schC2_34]; kernel_rfl
theorem schC2_51 : schedW (tb blkC2) 51 = 2915402360#32 := by
  rw [schedW_high (tb blkC2) (by omega)]
  show sig1 (schedW (tb blkC2) 49) + schedW (tb blkC2) 44 + sig0 (schedW (tb blkC2) 36) + schedW (tb blkC2) 35 = _
  rw [schC2_49, schC2_44, schC2_36, schC2_35]; kernel_rfl
theorem schC2_52 : schedW (tb blkC2) 52 = 214498229#32 := by
  rw [schedW_high (tb blkC2) (by omega)]
  show sig1 (schedW (tb blkC2) 50) + schedW (tb blkC2) 45 + sig0 (schedW (tb blkC2) 37) + schedW (tb blkC2) 36 = _
  rw [schC2_50, schC2_45, schC2_37, schC2_36]; kernel_rfl
theorem schC2_53 : schedW (tb blkC2) 53 = 1823440415#32 := by
  rw [schedW_high (tb blkC2) (by omega)]
  show sig1 (schedW (tb blkC2) 51) + schedW (tb blkC2) 46 + sig0 (schedW (tb blkC2) 38) + schedW (tb blkC2) 37 = _
  rw [schC2_51, schC2_46, schC2_38, schC2_37]; kernel_rfl
theorem schC2_54 : schedW (tb blkC2) 54 = 3203950992#32 := by
  rw [schedW_high (tb blkC2) (by omega)]
  show sig1 (schedW (tb blkC2) 52) + schedW (tb blkC2) 47 + sig0 (schedW (tb blkC2) 39) + schedW (tb blkC2) 38 = _
  rw [schC2_52, schC2_47, schC2_39, schC2_38]; kernel_rfl
theorem schC2_55 : schedW (tb blkC2) 55 = 1630378071#32 := by
  rw [schedW_high (tb blkC2) (by omega)]
  show sig1 (schedW (tb blkC2) 53) + schedW (tb blkC2) 48 + sig0 (schedW (tb blkC2) 40) + schedW (tb blkC2) 39 = _
  rw [schC2_53, schC2_48, schC2_40, schC2_39]; kernel_rfl
theorem schC2_56 : schedW (tb blkC2) 56 = 4179944600#32 := by
  rw [schedW_high (tb blkC2) (by omega)]
  show sig1 (schedW (tb blkC2) 54) + schedW (tb blkC2) 49 + sig0 (schedW (tb blkC2) 41) + schedW (tb blkC2) 40 = _
  rw [schC2_54, schC2_49, schC2_41, schC2_40]; kernel_rfl
theorem schC2_57 : schedW (tb blkC2) 57 = 823004356#32 := by
  rw [schedW_high (tb blkC2) (by omega)]
  show sig1 (schedW (tb blkC2) 55) + schedW (tb blkC2) 50 + sig0 (schedW (tb blkC2) 42) + schedW (tb blkC2) 41 = _
  rw [schC2_55, schC2_50, schC2_42, schC2_41]; kernel_rfl
theorem schC2_58 : schedW (tb blkC2) 58 = 1852277873#32 := by
  rw [schedW_high (tb blkC2) (by omega)]
  show sig1 (schedW (tb blkC2) 56) + schedW (tb blkC2) 51 + sig0 (schedW (tb blkC2) 43) + schedW (tb blkC2) 42 = _
  rw [schC2_56, schC2_51, schC2_43, schC2_42]; kernel_rfl
theorem schC2_59 : schedW (tb blkC2) 59 = 980771123#32 := by
  rw [schedW_high (tb blkC2) (by omega)]
  show sig1 (schedW (tb blkC2) 57) + schedW (tb blkC2) 52 + sig0 (schedW (tb blkC2) 44) + schedW (tb blkC2) 43 = _
  rw [schC2_57, schC2_52, schC2_44, schC2_43]; kernel_rfl
theorem schC2_60 : schedW (tb blkC2) 60 = 1782659836#32 := by
  rw [schedW_high (tb blkC2) (by omega)]
  show sig1 (schedW (tb blkC2) 58) + schedW (tb blkC2) 53 + sig0 (schedW (tb blkC2) 45) + schedW (tb blkC2) 44 = _
  rw [schC2_58, schC2_53, schC2_45, schC2_44]; kernel_rfl
theorem schC2_61 : schedW (tb blkC2) 61 = 2165378343#32 := by
  rw [schedW_high (tb blkC2) (by omega)]
  show sig1 (schedW (tb blkC2) 59) + schedW (tb blkC2) 54 + sig0 (schedW (tb blkC2) 46) + schedW (tb blkC2) 45 = _
  rw [schC2_59, schC2_54, schC2_46, schC2_45]; kernel_rfl
theorem schC2_62 : schedW (tb blkC2) 62 = 2240975937#32 := by
  rw [schedW_high (tb blkC2) (by omega)]
  show sig1 (schedW (tb blkC2) 60) + schedW (tb blkC2) 55 + sig0 (schedW (tb blkC2) 47) + schedW (tb blkC2) 46 = _
  rw [schC2_60, schC2_55, schC2_47, schC2_46]; kernel_rfl
theorem schC2_63 : schedW (tb blkC2) 63 = 43010448#32 := by
  rw [schedW_high (tb blkC2) (by omega)]
  show sig1 (schedW (tb blkC2) 61) + schedW (tb blkC2) 56 + sig0 (schedW (tb blkC2) 48) + schedW (tb blkC2) 47 = _
  rw [schC2_61, schC2_56, schC2_48, schC2_47]; kernel_rfl
theorem stC2_0 : W8.steps kW (schedW (tb blkC2)) ⟨1972027653#32, 898885472#32, 3279593276#32, 2767147112#32, 2107924513#32, 3800513663#32, 2561727826#32, 3713534392#32⟩ 0 = ⟨1972027653#32, 898885472#32, 3279593276#32, 2767147112#32, 2107924513#32, 3800513663#32, 2561727826#32, 3713534392#32⟩ := rfl
theorem stC2_1 : W8.steps kW (schedW (tb blkC2)) ⟨1972027653#32, 898885472#32, 3279593276#32, 2767147112#32, 2107924513#32, 3800513663#32, 2561727826#32, 3713534392#32⟩ 1 = ⟨1213729742#32, 1972027653#32, 898885472#32, 3279593276#32, 4183788369#32, 2107924513#32, 3800513663#32, 2561727826#32⟩ := by
  show (W8.steps kW (schedW (tb blkC2)) ⟨1972027653#32, 898885472#32, 3279593276#32, 2767147112#32, 2107924513#32, 3800513663#32, 2561727826#32, 3713534392#32⟩ 0).step (kW 0) (schedW (tb blkC2) 0) = _
  rw [stC2_0, schC2_0]; kernel_rfl
theorem stC2_2 : W8.steps kW (schedW (tb blkC2)) ⟨1972027653#32, 898885472#32, 3279593276#32, 2767147112#32, 2107924513#32, 3800513663#32, 2561727826#32, 3713534392#32⟩ 2 = ⟨2514862267#32, 1213729742#32, 1972027653#32, 898885472#32, 930751393#32, 4183788369#32, 2107924513#32, 3800513663#32⟩ := by
  show (W8.steps kW (schedW (tb blkC2)) ⟨1972027653#32, 898885472#32, 3279593276#32, 2767147112#32, 2107924513#32, 3800513663#32, 2561727826#32, 3713534392#32⟩ 1).step (kW 1) (schedW (tb blkC2) 1) = _
  rw [stC2_1, schC2_1]; kernel_rfl
theorem stC2_3 : W8.steps kW (schedW (tb blkC2)) ⟨1972027653#32, 898885472#32, 3279593276#32, 2767147112#32, 2107924513#32, 3800513663#32, 2561727826#32, 3713534392#32⟩ 3 = ⟨1307753199#32, 2514862267#32, 1213729742#32, 1972027653#32, 3054940009#32, 930751393#32, 4183788369#32, 2107924513#32⟩ := by
  show (W8.steps kW (schedW (tb blkC2)) ⟨1972027653#32, 898885472#32, 3279593276#32, 2767147112#32, 2107924513#32, 3800513663#32, 2561727826#32, 3713534392#32⟩ 2).step (kW 2) (schedW (tb blkC2) 2) = _
  rw [stC2_2, schC2_2]; kernel_rfl
theorem stC2_4 : W8.steps kW (schedW (tb blkC2)) ⟨1972027653#32, 898885472#32, 3279593276#32, 2767147112#32, 2107924513#32, 3800513663#32, 2561727826#32, 3713534392#32⟩ 4 = ⟨2808938007#32, 1307753199#32, 2514862267#32, 1213729742#32, 1685524#32, 3054940009#32, 930751393#32, 4183788369#32⟩ := by
  show (W8.steps kW (schedW (tb blkC2)) ⟨1972027653#32, 898885472#32, 3279593276#32, 2767147112#32, 2107924513#32, 3800513663#32, 2561727826#32, 3713534392#32⟩ 3).step (kW 3) (schedW (tb blkC2) 3) = _
  rw [stC2_3, schC2_3]; kernel_rfl
theorem stC2_5 : W8.steps kW (schedW (tb blkC2)) ⟨1972027653#32, 898885472#32, 3279593276#32, 2767147112#32, 2107924513#32, 3800513663#32, 2561727826#32, 3713534392#32⟩ 5 = ⟨1913176034#32, 2808938007#32, 1307753199#32, 2514862267#32, 2312992370#32, 1685524#32, 3054940009#32, 930751393#32⟩ := by
  show (W8.steps kW (schedW (tb blkC2)) ⟨1972027653#32, 898885472#32, 3279593276#32, 2767147112#32, 2107924513#32, 3800513663#32, 2561727826#32, 3713534392#32⟩ 4).step (kW 4) (schedW (tb blkC2) 4) = _
  rw [stC2_4, schC2_4]; kernel_rfl
theorem stC2_6 : W8.steps kW (schedW (tb blkC2)) ⟨1972027653#32, 898885472#32, 3279593276#32, 2767147112#32, 2107924513#32, 3800513663#32, 2561727826#32, 3713534392#32⟩ 6 = ⟨1529568058#32, 1913176034#32, 2808938007#32, 1307753199#32, 1211770521#32, 2312992370#32, 1685524#32, 3054940009#32⟩ := by
  show (W8.steps kW (schedW (tb blkC2)) ⟨1972027653#32, 898885472#32, 3279593276#32, 2767147112#32, 2107924513#32, 3800513663#32, 2561727826#32, 3713534392#32⟩ 5).step (kW 5) (schedW (tb blkC2) 5) = _
  rw [stC2_5, schC2_5]; kernel_rfl
theorem stC2_7 : W8.steps kW (schedW (tb blkC2)) ⟨1972027653#32, 898885472#32, 3279593276#32, 2767147112#32, 2107924513#32, 3800513663#32, 2561727826#32, 3713534392#32⟩ 7 = ⟨1361607109#32, 1529568058#32, 1913176034#32, 2808938007#32, 1232948874#32, 1211770521#32, 2312992370#32, 1685524#32⟩ := by
  show (W8.steps kW (schedW (tb blkC2)) ⟨1972027653#32, 898885472#32, 3279593276#32, 2767147112#32, 2107924513#32, 3800513663#32, 2561727826#32, 3713534392#32⟩ 6).step (kW 6) (schedW (tb blkC2) 6) = _
  rw [stC2_6, schC2_6]; kernel_rfl
theorem stC2_8 : W8.steps kW (schedW (tb blkC2)) ⟨1972027653#32, 898885472#32, 3279593276#32, 2767147112#32, 2107924513#32, 3800513663#32, 2561727826#32, 3713534392#32⟩ 8 = ⟨1231678448#32, 1361607109#32, 1529568058#32, 1913176034#32, 1646717871#32, 1232948874#32, 1211770521#32, 2312992370#32⟩ := by
  show (W8.steps kW (schedW (tb blkC2)) ⟨1972027653#32, 898885472#32, 3279593276#32, 2767147112#32, 2107924513#32, 3800513663#32, 2561727826#32, 3713534392#32⟩ 7).step (kW 7) (schedW (tb blkC2) 7) = _
  rw [stC2_7, schC2_7]; kernel_rfl
theorem stC2_9 : W8.steps kW (schedW (tb blkC2)) ⟨1972027653#32, 898885472#32, 3279593276#32, 2767147112#32, 2107924513#32, 3800513663#32, 2561727826#32, 3713534392#32⟩ 9 = ⟨3369329900#32, 1231678448#32, 1361607109#32, 1529568058#32, 4147853384#32, 1646717871#32, 1232948874#32, 1211770521#32⟩ := by
  show (W8.steps kW (schedW (tb blkC2)) ⟨1972027653#32, 898885472#32, 3279593276#32, 2767147112#32, 2107924513#32, 3800513663#32, 2561727826#32, 3713534392#32⟩ 8).step (kW 8) (schedW (tb blkC2) 8) = _
  rw [stC2_8, schC2_8]; kernel_rfl
theorem stC2_10 : W8.steps kW (schedW (tb blkC2)) ⟨1972027653#32, 898885472#32, 3279593276#32, 2767147112#32, 2107924513#32, 3800513663#32, 2561727826#32, 3713534392#32⟩ 10 = ⟨548214412#32, 3369329900#32, 1231678448#32, 1361607109#32, 3618470747#32, 4147853384#32, 1646717871#32, 1232948874#32⟩ := by
  show (W8.steps kW (schedW (tb blkC2)) ⟨1972027653#32, 898885472#32, 3279593276#32, 2767147112#32, 2107924513#32, 3800513663#32, 2561727826#32, 3713534392#32⟩ 9).step (kW 9) (schedW (tb blkC2) 9) = _
  rw [stC2_9, schC2_9]; kernel_rfl
theorem stC2_11 : W8.steps kW (schedW (tb blkC2)) ⟨1972027653#32, 898885472#32, 3279593276#32, 2767147112#32, 2107924513#32, 3800513663#32, 2561727826#32, 3713534392#32⟩ 11 = ⟨2288964114#32, 548214412#32, 3369329900#32, 1231678448#32, 2291987618#32, 3618470747#32, 4147853384#32, 1646717871#32⟩ := by
  show (W8.steps kW (schedW (tb blkC2)) ⟨1972027653#32, 898885472#32, 3279593276#32, 2767147112#32, 2107924513#32, 3800513663#32, 2561727826#32, 3713534392#32⟩ 10).step (kW 10) (schedW (tb blkC2) 10) = _
  rw [stC2_10, schC2_10]; kernel_rfl
theorem stC2_12 : W8.steps kW (schedW (tb blkC2)) ⟨1972027653#32, 898885472#32, 3279593276#32, 2767147112#32, 2107924513#32, 3800513663#32, 2561727826#32, 3713534392#32⟩ 12 = ⟨295937827#32, 2288964114#32, 548214412#32, 3369329900#32, 1213595316#32, 2291987618#32, 3618470747#32, 4147853384#32⟩ := by
  show (W8.steps kW (schedW (tb blkC2)) ⟨1972027653#32, 898885472#32, 3279593276#32, 2767147112#32, 2107924513#32, 3800513663#32, 2561727826#32, 3713534392#32⟩ 11).step (kW 11) (schedW (tb blkC2) 11) = _
  rw [stC2_11, schC2_11]; kernel_rfl
theorem stC2_13 : W8.steps kW (schedW (tb blkC2)) ⟨1972027653#32, 898885472#32, 3279593276#32, 2767147112#32, 2107924513#32, 3800513663#32, 2561727826#32, 3713534392#32⟩ 13 = ⟨2880049565#32, 295937827#32, 2288964114#32, 548214412#32, 4292966388#32, 1213595316#32, 2291987618#32, 3618470747#32⟩ := by
  show (W8.steps kW (schedW (tb blkC2)) ⟨1972027653#32, 898885472#32, 3279593276#32, 2767147112#32, 2107924513#32, 3800513663#32, 2561727826#32, 3713534392#32⟩ 12).step (kW 12) (schedW (tb blkC2) 12) = _
  rw [stC2_12, schC2_12]; kernel_rfl
theorem stC2_14 : W8.steps kW (schedW (tb blkC2)) ⟨1972027653#32, 898885472#32, 3279593276#32, 2767147112#32, 2107924513#32, 3800513663#32, 2561727826#32, 3713534392#32⟩ 14 = ⟨1454500425#32, 2880049565#32, 295937827#32, 2288964114#32, 2675097129#32, 4292966388#32, 1213595316#32, 2291987618#32⟩ := by
  show (W8.steps kW (schedW (tb blkC2)) ⟨1972027653#32, 898885472#32, 3279593276#32, 2767147112#32, 2107924513#32, 3800513663#32, 2561727826#32, 3713534392#32⟩ 13).step (kW 13) (schedW (tb blkC2) 13) = _
  rw [stC2_13, schC2_13]; kernel_rfl
theorem stC2_15 : W8.steps kW (schedW (tb blkC2)) ⟨1972027653#32, 898885472#32, 3279593276#32, 2767147112#32, 2107924513#32, 3800513663#32, 2561727826#32, 3713534392#32⟩ 15 = ⟨2984456109#32, 1454500425#32, 2880049565#32, 295937827#32, 1717466223#32, 2675097129#32, 4292966388#32, 1213595316#32⟩ := by
  show (W8.steps kW (schedW (tb blkC2)) ⟨1972027653#32, 898885472#32, 3279593276#32, 2767147112#32, 2107924513#32, 3800513663#32, 2561727826#32, 3713534392#32⟩ 14).step (kW 14) (schedW (tb blkC2) 14) = _
  rw [stC2_14, schC2_14]; kernel_rfl
theorem stC2_16 : W8.steps kW (schedW (tb blkC2)) ⟨1972027653#32, 898885472#32, 3279593276#32, 2767147112#32, 2107924513#32, 3800513663#32, 2561727826#32, 3713534392#32⟩ 16 = ⟨444845543#32, 2984456109#32, 1454500425#32, 2880049565#32, 3671611208#32, 1717466223#32, 2675097129#32, 4292966388#32⟩ := by
  show (W8.steps kW (schedW (tb blkC2)) ⟨1972027653#32, 898885472#32, 3279593276#32, 2767147112#32, 2107924513#32, 3800513663#32, 2561727826#32, 3713534392#32⟩ 15).step (kW 15) (schedW (tb blkC2) 15) = _
  rw [stC2_15, schC2_15]; kernel_rfl
theorem stC2_17 : W8.steps kW (schedW (tb blkC2)) ⟨1972027653#32, 898885472#32, 3279593276#32, 2767147112#32, 2107924513#32, 3800513663#32, 2561727826#32, 3713534392#32⟩ 17 = ⟨852594974#32, 444845543#32, 2984456109#32, 1454500425#32, 623376321#32, 3671611208#32, 1717466223#32, 2675097129#32⟩ := by
  show (W8.steps kW (schedW (tb blkC2)) ⟨1972027653#32, 898885472#32, 3279593276#32, 2767147112#32, 2107924513#32, 3800513663#32, 2561727826#32, 3713534392#32⟩ 16).step (kW 16) (schedW (tb blkC2) 16) = _
  rw [stC2_16, schC2_16]; kernel_rfl
theorem stC2_18 : W8.steps kW (schedW (tb blkC2)) ⟨1972027653#32, 898885472#32, 3279593276#32, 2767147112#32, 2107924513#32, 3800513663#32, 2561727826#32, 3713534392#32⟩ 18 = ⟨2923496973#32, 852594974#32, 444845543#32, 2984456109#32, 2418923687#32, 623376321#32, 3671611208#32, 1717466223#32⟩ := by
  show (W8.steps kW (schedW (tb blkC2)) ⟨1972027653#32, 898885472#32, 3279593276#32, 2767147112#32, 2107924513#32, 3800513663#32, 2561727826#32, 3713534392#32⟩ 17).step (kW 17) (schedW (tb blkC2) 17) = _
  rw [stC2_17, schC2_17]; kernel_rfl
theorem stC2_19 : W8.steps kW (schedW (tb blkC2)) ⟨1972027653#32, 898885472#32, 3279593276#32, 2767147112#32, 2107924513#32, 3800513663#32, 2561727826#32, 3713534392#32⟩ 19 = ⟨1862135317#32, 2923496973#32, 852594974#32, 444845543#32, 2251985793#32, 2418923687#32, 623376321#32, 3671611208#32⟩ := by
  show (W8.steps kW (schedW (tb blkC2)) ⟨1972027653#32, 898885472#32, 3279593276#32, 2767147112#32, 2107924513#32, 3800513663#32, 2561727826#32, 3713534392#32⟩ 18).step (kW 18) (schedW (tb blkC2) 18) = _
  rw [stC2_18, schC2_18]; kernel_rfl
theorem stC2_20 : W8.steps kW (schedW (tb blkC2)) ⟨1972027653#32, 898885472#32, 3279593276#32, 2767147112#32, 2107924513#32, 3800513663#32, 2561727826#32, 3713534392#32⟩ 20 = ⟨370004068#32, 1862135317#32, 2923496973#32, 852594974#32, 622050909#32, 2251985793#32, 2418923687#32, 623376321#32⟩ := by
  show (W8.steps kW (schedW (tb blkC2)) ⟨1972027653#32, 898885472#32, 3279593276#32, 2767147112#32, 2107924513#32, 3800513663#32, 2561727826#32, 3713534392#32⟩ 19).step (kW 19) (schedW (tb blkC2) 19) = _
  rw [stC2_19, schC2_19]; kernel_rfl
theorem stC2_21 : W8.steps kW (schedW (tb blkC2)) ⟨1972027653#32, 898885472#32, 3279593276#32, 2767147112#32, 2107924513#32, 3800513663#32, 2561727826#32, 3713534392#32⟩ 21 = ⟨2530705838#32, 370004068#32, 1862135317#32, 2923496973#32, 3917019288#32, 622050909#32, 2251985793#32, 2418923687#32⟩ := by
  show (W8.steps kW (schedW (tb blkC2)) ⟨1972027653#32, 898885472#32, 3279593276#32, 2767147112#32, 2107924513#32, 3800513663#32, 2561727826#32, 3713534392#32⟩ 20).step (kW 20) (schedW (tb blkC2) 20) = _
  rw [stC2_20, schC2_20]; kernel_rfl
theorem stC2_22 : W8.steps kW (schedW (tb blkC2)) ⟨1972027653#32, 898885472#32, 3279593276#32, 2767147112#32, 2107924513#32, 3800513663#32, 2561727826#32, 3713534392#32⟩ 22 = ⟨3303418958#32, 2530705838#32, 370004068#32, 1862135317#32, 1702987179#32, 3917019288#32, 622050909#32, 2251985793#32⟩ := by
  show (W8.steps kW (schedW (tb blkC2)) ⟨1972027653#32, 898885472#32, 3279593276#32, 2767147112#32, 2107924513#32, 3800513663#32, 2561727826#32, 3713534392#32⟩ 21).step (kW 21) (schedW (tb blkC2) 21) = _
  rw [stC2_21, schC2_21]; kernel_rfl
theorem stC2_23 : W8.steps kW (schedW (tb blkC2)) ⟨1972027653#32, 898885472#32, 3279593276#32, 2767147112#32, 2107924513#32, 3800513663#32, 2561727826#32, 3713534392#32⟩ 23 = ⟨565124312#32, 3303418958#32, 2530705838#32, 370004068#32, 2917593934#32, 1702987179#32, 3917019288#32, 622050909#32⟩ := by
  show (W8.steps kW (schedW (tb blkC2)) ⟨1972027653#32, 898885472#32, 3279593276#32, 2767147112#32, 2107924513#32, 3800513663#32, 2561727826#32, 3713534392#32⟩ 22).step (kW 22) (schedW (tb blkC2) 22) = _
  rw [stC2_22, schC2_22]; kernel_rfl
theorem stC2_24 : W8.steps kW (schedW (tb blkC2)) ⟨1972027653#32, 898885472#32, 3279593276#32, 2767147112#32, 2107924513#32, 3800513663#32, 2561727826#32, 3713534392#32⟩ 24 = ⟨3496422202#32, 565124312#32, 3303418958#32, 2530705838#32, 246694920#32, 2917593934#32, 1702987179#32, 3917019288#32⟩ := by
  show (W8.steps kW (schedW (tb blkC2)) ⟨1972027653#32, 898885472#32, 3279593276#32, 2767147112#32, 2107924513#32, 3800513663#32, 2561727826#32, 3713534392#32⟩ 23).step (kW 23) (schedW (tb blkC2) 23) = _
  rw [stC2_23, schC2_23]; kernel_rfl
theorem stC2_25 : W8.steps kW (schedW (tb blkC2)) ⟨1972027653#32, 898885472#32, 3279593276#32, 2767147112#32, 2107924513#32, 3800513663#32, 2561727826#32, 3713534392#32⟩ 25 = ⟨385535351#32, 3496422202#32, 565124312#32, 3303418958#32, 2072477717#32, 246694920#32, 2917593934#32, 1702987179#32⟩ := by
  show (W8.steps kW (schedW (tb blkC2)) ⟨1972027653#32, 898885472#32, 3279593276#32, 2767147112#32, 2107924513#32, 3800513663#32, 2561727826#32, 3713534392#32⟩ 24).step (kW 24) (schedW (tb blkC2) 24) = _
  rw [stC2_24, schC2_24]; kernel_rfl
theorem stC2_26 : W8.steps kW (schedW (tb blkC2)) ⟨1972027653#32, 898885472#32, 3279593276#32, 2767147112#32, 2107924513#32, 3800513663#32, 2561727826#32, 3713534392#32⟩ 26 = ⟨857865124#32, 385535351#32, 3496422202#32, 565124312#32, 2716156328#32, 2072477717#32, 246694920#32, 2917593934#32⟩ := by
  show (W8.steps kW (schedW (tb blkC2)) ⟨1972027653#32, 898885472#32, 3279593276#32, 2767147112#32, 2107924513#32, 3800513663#32, 2561727826#32, 3713534392#32⟩ 25).step (kW 25) (schedW (tb blkC2) 25) = _
  rw [stC2_25, schC2_25]; kernel_rfl
theorem stC2_27 : W8.steps kW (schedW (tb blkC2)) ⟨1972027653#32, 898885472#32, 3279593276#32, 2767147112#32, 2107924513#32, 3800513663#32, 2561727826#32, 3713534392#32⟩ 27 = ⟨611983446#32, 857865124#32, 385535351#32, 3496422202#32, 3720207054#32, 2716156328#32, 2072477717#32, 246694920#32⟩ := by
  show (W8.steps kW (schedW (tb blkC2)) ⟨1972027653#32, 898885472#32, 3279593276#32, 2767147112#32, 2107924513#32, 3800513663#32, 2561727826#32, 3713534392#32⟩ 26).step (kW 26) (schedW (tb blkC2) 26) = _
  rw [stC2_26, schC2_26]; kernel_rfl
theorem stC2_28 : W8.steps kW (schedW (tb blkC2)) ⟨1972027653#32, 898885472#32, 3279593276#32, 2767147112#32, 2107924513#32, 3800513663#32, 2561727826#32, 3713534392#32⟩ 28 = ⟨2798719342#32, 611983446#32, 857865124#32, 385535351#32, 3717095389#32, 3720207054#32, 2716156328#32, 2072477717#32⟩ := by
  show (W8.steps kW (schedW (tb blkC2)) ⟨1972027653#32, 898885472#32, 3279593276#32, 2767147112#32, 2107924513#32, 3800513663#32, 2561727826#32, 3713534392#32⟩ 27).step (kW 27) (schedW (tb blkC2) 27) = _
  rw [stC2_27, schC2_27]; kernel_rfl
theorem stC2_29 : W8.steps kW (schedW (tb blkC2)) ⟨1972027653#32, 898885472#32, 3279593276#32, 2767147112#32, 2107924513#32, 3800513663#32, 2561727826#32, 3713534392#32⟩ 29 = ⟨2522060852#32, 2798719342#32, 611983446#32, 857865124#32, 542665725#32, 3717095389#32, 3720207054#32, 2716156328#32⟩ := by
  show (W8.steps kW (schedW (tb blkC2)) ⟨1972027653#32, 898885472#32, 3279593276#32, 2767147112#32, 2107924513#32, 3800513663#32, 2561727826#32, 3713534392#32⟩ 28).step (kW 28) (schedW (tb blkC2) 28) = _
  rw [stC2_28, schC2_28]; kernel_rfl
theorem stC2_30 : W8.steps kW (schedW (tb blkC2)) ⟨1972027653#32, 898885472#32, 3279593276#32, 2767147112#32, 2107924513#32, 3800513663#32, 2561727826#32, 3713534392#32⟩ 30 = ⟨3030916263#32, 2522060852#32, 2798719342#32, 611983446#32, 2535883021#32, 542665725#32, 3717095389#32, 3720207054#32⟩ := by
  show (W8.steps kW (schedW (tb blkC2)) ⟨1972027653#32, 898885472#32, 3279593276#32, 2767147112#32, 2107924513#32, 3800513663#32, 2561727826#32, 3713534392#32⟩ 29).step (kW 29) (schedW (tb blkC2) 29) = _
  rw [stC2_29, schC2_29]; kernel_rfl
theorem stC2_31 : W8.steps kW (schedW (tb blkC2)) ⟨1972027653#32, 898885472#32, 3279593276#32, 2767147112#32, 2107924513#32, 3800513663#32, 2561727826#32, 3713534392#32⟩ 31 = ⟨2066056835#32, 3030916263#32, 2522060852#32, 2798719342#32, 1080644088#32, 2535883021#32, 542665725#32, 3717095389#32⟩ := by
  show (W8.steps kW (schedW (tb blkC2)) ⟨1972027653#32, 898885472#32, 3279593276#32, 2767147112#32, 2107924513#32, 3800513663#32, 2561727826#32, 3713534392#32⟩ 30).step (kW 30) (schedW (tb blkC2) 30) = _
  rw [stC2_30, schC2_30]; kernel_rfl
theorem stC2_32 : W8.steps kW (schedW (tb blkC2)) ⟨1972027653#32, 898885472#32, 3279593276#32, 2767147112#32, 2107924513#32, 3800513663#32, 2561727826#32, 3713534392#32⟩ 32 = ⟨3404066315#32, 2066056835#32, 3030916263#32, 2522060852#32, 1053601138#32, 1080644088#32, 2535883021#32, 542665725#32⟩ := by
  show (W8.steps kW (schedW (tb blkC2)) ⟨1972027653#32, 898885472#32, 3279593276#32, 2767147112#32, 2107924513#32, 3800513663#32, 2561727826#32, 3713534392#32⟩ 31).step (kW 31) (schedW (tb blkC2) 31) = _
  rw [stC2_31, schC2_31]; kernel_rfl
theorem stC2_33 : W8.steps kW (schedW (tb blkC2)) ⟨1972027653#32, 898885472#32, 3279593276#32, 2767147112#32, 2107924513#32, 3800513663#32, 2561727826#32, 3713534392#32⟩ 33 = ⟨464040293#32, 3404066315#32, 2066056835#32, 3030916263#32, 2717366160#32, 1053601138#32, 1080644088#32, 2535883021#32⟩ := by
  show (W8.steps kW (schedW (tb blkC2)) ⟨1972027653#32, 898885472#32, 3279593276#32, 2767147112#32, 2107924513#32, 3800513663#32, 2561727826#32, 3713534392#32⟩ 32).step (kW 32) (schedW (tb blkC2) 32) = _
  rw [stC2_32, schC2_32]; kernel_rfl
theorem stC2_34 : W8.steps kW (schedW (tb blkC2)) ⟨1972027653#32, 898885472#32, 3279593276#32, 2767147112#32, 2107924513#32, 3800513663#32, 2561727826#32, 3713534392#32⟩ 34 = ⟨1006673950#32, 464040293#32, 3404066315#32, 2066056835#32, 637251920#32, 2717366160#32, 1053601138#32, 1080644088#32⟩ := by
  show (W8.steps kW (schedW (tb blkC2)) ⟨1972027653#32, 898885472#32, 3279593276#32, 2767147112#32, 2107924513#32, 3800513663#32, 2561727826#32, 3713534392#32⟩ 33).step (kW 33) (schedW (tb blkC2) 33) = _
  rw [stC2_33, schC2_33]; kernel_rfl
theorem stC2_35 : W8.steps kW (schedW (tb blkC2)) ⟨1972027653#32, 898885472#32, 3279593276#32, 2767147112#32, 2107924513#32, 3800513663#32, 2561727826#32, 3713534392#32⟩ 35 = ⟨3731557662#32, 1006673950#32, 464040293#32, 3404066315#32, 2977841824#32, 637251920#32, 2717366160#32, 1053601138#32⟩ := by
  show (W8.steps kW (schedW (tb blkC2)) ⟨1972027653#32, 898885472#32, 3279593276#32, 2767147112#32, 2107924513#32, 3800513663#32, 2561727826#32, 3713534392#32⟩ 34).step (kW 34) (schedW (tb blkC2) 34) = _
  rw [stC2_34, schC2_34]; kernel_rfl
theorem stC2_36 : W8.steps kW (schedW (tb blkC2)) ⟨1972027653#32, 898885472#32, 3279593276#32, 2767147112#32, 2107924513#32, 3800513663#32, 2561727826#32, 3713534392#32⟩ 36 = ⟨165627002#32, 3731557662#32, 1006673950#32, 464040293#32, 1128547841#32, 2977841824#32, 637251920#32, 2717366160#32⟩ := by
  show (W8.steps kW (schedW (tb blkC2)) ⟨1972027653#32, 898885472#32, 3279593276#32, 2767147112#32, 2107924513#32, 3800513663#32, 2561727826#32, 3713534392#32⟩ 35).step (kW 35) (schedW (tb blkC2) 35) = _
  rw [stC2_35, schC2_35]; kernel_rfl
theorem stC2_37 : W8.steps kW (schedW (tb blkC2)) ⟨1972027653#32, 898885472#32, 3279593276#32, 2767147112#32, 2107924513#32, 3800513663#32, 2561727826#32, 3713534392#32⟩ 37 = ⟨3401817892#32, 165627002#32, 3731557662#32, 1006673950#32, 3983201448#32, 1128547841#32, 2977841824#32, 637251920#32⟩ := by
  show (W8.steps kW (schedW (tb blkC2)) ⟨1972027653#32, 898885472#32, 3279593276#32, 2767147112#32, 2107924513#32, 3800513663#32, 2561727826#32, 3713534392#32⟩ 36).step (kW 36) (schedW (tb blkC2) 36) = _
  rw [stC2_36, schC2_36]; kernel_rfl
theorem stC2_38 : W8.steps kW (schedW (tb blkC2)) ⟨1972027653#32, 898885472#32, 3279593276#32, 2767147112#32, 2107924513#32, 3800513663#32, 2561727826#32, 3713534392#32⟩ 38 = ⟨2822642794#32, 3401817892#32, 165627002#32, 3731557662#32, 1401523276#32, 3983201448#32, 1128547841#32, 2977841824#32⟩ := by
  show (W8.steps kW (schedW (tb blkC2)) ⟨1972027653#32, 898885472#32, 3279593276#32, 2767147112#32, 2107924513#32, 3800513663#32, 2561727826#32, 3713534392#32⟩ 37).step (kW 37) (schedW (tb blkC2) 37) = _
  rw [stC2_37, schC2_37]; kernel_rfl
theorem stC2_39 : W8.steps kW (schedW (tb blkC2)) ⟨1972027653#32, 898885472#32, 3279593276#32, 2767147112#32, 2107924513#32, 3800513663#32, 2561727826#32, 3713534392#32⟩ 39 = ⟨1009695548#32, 2822642794#32, 3401817892#32, 165627002#32, 3767484326#32, 1401523276#32, 3983201448#32, 1128547841#32⟩ := by
  show (W8.steps kW (schedW (tb blkC2)) ⟨1972027653#32, 898885472#32, 3279593276#32, 2767147112#32, 2107924513#32, 3800513663#32, 2561727826#32, 3713534392#32⟩ 38).step (kW 38) (schedW (tb blkC2) 38) = _
  rw [stC2_38, schC2_38]; kernel_rfl
theorem stC2_40 : W8.steps kW (schedW (tb blkC2)) ⟨1972027653#32, 898885472#32, 3279593276#32, 2767147112#32, 2107924513#32, 3800513663#32, 2561727826#32, 3713534392#32⟩ 40 = ⟨3578570933#32, 1009695548#32, 2822642794#32, 3401817892#32, 3405156025#32, 3767484326#32, 1401523276#32, 3983201448#32⟩ := by
  show (W8.steps kW (schedW (tb blkC2)) ⟨1972027653#32, 898885472#32, 3279593276#32, 2767147112#32, 2107924513#32, 3800513663#32, 2561727826#32, 3713534392#32⟩ 39).step (kW 39) (schedW (tb blkC2) 39) = _
  rw [stC2_39, schC2_39]; kernel_rfl
theorem stC2_41 : W8.steps kW (schedW (tb blkC2)) ⟨1972027653#32, 898885472#32, 3279593276#32, 2767147112#32, 2107924513#32, 3800513663#32, 2561727826#32, 3713534392#32⟩ 41 = ⟨776442986#32, 3578570933#32, 1009695548#32, 2822642794#32, 981279797#32, 3405156025#32, 3767484326#32, 1401523276#32⟩ := by
  show (W8.steps kW (schedW (tb blkC2)) ⟨1972027653#32, 898885472#32, 3279593276#32, 2767147112#32, 2107924513#32, 3800513663#32, 2561727826#32, 3713534392#32⟩ 40).step (kW 40) (schedW (tb blkC2) 40) = _
  rw [stC2_40, schC2_40]; kernel_rfl
theorem stC2_42 : W8.steps kW (schedW (tb blkC2)) ⟨1972027653#32, 898885472#32, 3279593276#32, 2767147112#32, 2107924513#32, 3800513663#32, 2561727826#32, 3713534392#32⟩ 42 = ⟨592775784#32, 776442986#32, 3578570933#32, 1009695548#32, 1488137975#32, 981279797#32, 3405156025#32, 3767484326#32⟩ := by
  show (W8.steps kW (schedW (tb blkC2)) ⟨1972027653#32, 898885472#32, 3279593276#32, 2767147112#32, 2107924513#32, 3800513663#32, 2561727826#32, 3713534392#32⟩ 41).step (kW 41) (schedW (tb blkC2) 41) = _
  rw [stC2_41, schC2_41]; kernel_rfl
theorem stC2_43 : W8.steps kW (schedW (tb blkC2)) ⟨1972027653#32, 898885472#32, 3279593276#32, 2767147112#32, 2107924513#32, 3800513663#32, 2561727826#32, 3713534392#32⟩ 43 = ⟨549616353#32, 592775784#32, 776442986#32, 3578570933#32, 636335350#32, 1488137975#32, 981279797#32, 3405156025#32⟩ := by
  show (W8.steps kW (schedW (tb blkC2)) ⟨1972027653#32, 898885472#32, 3279593276#32, 2767147112#32, 2107924513#32, 3800513663#32, 2561727826#32, 3713534392#32⟩ 42).step (kW 42) (schedW (tb blkC2) 42) = _
  rw [stC2_42, schC2_42]; kernel_rfl
theorem stC2_44 : W8.steps kW (schedW (tb blkC2)) ⟨1972027653#32, 898885472#32, 3279593276#32, 2767147112#32, 2107924513#32, 3800513663#32, 2561727826#32, 3713534392#32⟩ 44 = ⟨53750008#32, 549616353#32, 592775784#32, 776442986#32, 526883613#32, 636335350#32, 1488137975#32, 981279797#32⟩ := by
  show (W8.steps kW (schedW (tb blkC2)) ⟨1972027653#32, 898885472#32, 3279593276#32, 2767147112#32, 2107924513#32, 3800513663#32, 2561727826#32, 3713534392#32⟩ 43).step (kW 43) (schedW (tb blkC2) 43) = _
  rw [stC2_43, schC2_43]; kernel_rfl
theorem stC2_45 : W8.steps kW (schedW (tb blkC2)) ⟨1972027653#32, 898885472#32, 3279593276#32, 2767147112#32, 2107924513#32, 3800513663#32, 2561727826#32, 3713534392#32⟩ 45 = ⟨1818384487#32, 53750008#32, 549616353#32, 592775784#32, 3752250966#32, 526883613#32, 636335350#32, 1488137975#32⟩ := by
  show (W8.steps kW (schedW (tb blkC2)) ⟨1972027653#32, 898885472#32, 3279593276#32, 2767147112#32, 2107924513#32, 3800513663#32, 2561727826#32, 3713534392#32⟩ 44).step (kW 44) (schedW (tb blkC2) 44) = _
  rw [stC2_44, schC2_44]; kernel_rfl
theorem stC2_46 : W8.steps kW (schedW (tb blkC2)) ⟨1972027653#32, 898885472#32, 3279593276#32, 2767147112#32, 2107924513#32, 3800513663#32, 2561727826#32, 3713534392#32⟩ 46 = ⟨3553129380#32, 1818384487#32, 53750008#32, 549616353#32, 1165532273#32, 3752250966#32, 526883613#32, 636335350#32⟩ := by
  show (W8.steps kW (schedW (tb blkC2)) ⟨1972027653#32, 898885472#32, 3279593276#32, 2767147112#32, 2107924513#32, 3800513663#32, 2561727826#32, 3713534392#32⟩ 45).step (kW 45) (schedW (tb blkC2) 45) = _
  rw [stC2_45, schC2_45]; kernel_rfl
theorem stC2_47 : W8.steps kW (schedW (tb blkC2)) ⟨1972027653#32, 898885472#32, 3279593276#32, 2767147112#32, 2107924513#32, 3800513663#32, 2561727826#32, 3713534392#32⟩ 47 = ⟨2808664150#32, 3553129380#32, 1818384487#32, 53750008#32, 4239442030#32, 1165532273#32, 3752250966#32, 526883613#32⟩ := by
  show (W8.steps kW (schedW (tb blkC2)) ⟨1972027653#32, 898885472#32, 3279593276#32, 2767147112#32, 2107924513#32, 3800513663#32, 2561727826#32, 3713534392#32⟩ 46).step (kW 46) (schedW (tb blkC2) 46) = _
  rw [stC2_46, schC2_46]; kernel_rfl
theorem stC2_48 : W8.steps kW (schedW (tb blkC2)) ⟨1972027653#32, 898885472#32, 3279593276#32, 2767147112#32, 2107924513#32, 3800513663#32, 2561727826#32, 3713534392#32⟩ 48 = ⟨1517510718#32, 2808664150#32, 3553129380#32, 1818384487#32, 3994084098#32, 4239442030#32, 1165532273#32, 3752250966#32⟩ := by
  show (W8.steps kW (schedW (tb blkC2)) ⟨1972027653#32, 898885472#32, 3279593276#32, 2767147112#32, 2107924513#32, 3800513663#32, 2561727826#32, 3713534392#32⟩ 47).step (kW 47) (schedW (tb blkC2) 47) = _
  rw [stC2_47, schC2_47]; kernel_rfl
theorem stC2_49 : W8.steps kW (schedW (tb blkC2)) ⟨1972027653#32, 898885472#32, 3279593276#32, 2767147112#32, 2107924513#32, 3800513663#32, 2561727826#32, 3713534392#32⟩ 49 = ⟨1181420414#32, 1517510718#32, 2808664150#32, 3553129380#32, 2222325938#32, 3994084098#32, 4239442030#32, 1165532273#32⟩ := by
  show (W8.steps kW (schedW (tb blkC2)) ⟨1972027653#32, 898885472#32, 3279593276#32, 2767147112#32, 2107924513#32, 3800513663#32, 2561727826#32, 3713534392#32⟩ 48).step (kW 48) (schedW (tb blkC2) 48) = _
  rw [stC2_48, schC2_48]; kernel_rfl
theorem stC2_50 : W8.steps kW (schedW (tb blkC2)) ⟨1972027653#32, 898885472#32, 3279593276#32, 2767147112#32, 2107924513#32, 3800513663#32, 2561727826#32, 3713534392#32⟩ 50 = ⟨1142326811#32, 1181420414#32, 1517510718#32, 2808664150#32, 1798221987#32, 2222325938#32, 3994084098#32, 4239442030#32⟩ := by
  show (W8.steps kW (schedW (tb blkC2)) ⟨1972027653#32, 898885472#32, 3279593276#32, 2767147112#32, 2107924513#32, 3800513663#32, 2561727826#32, 3713534392#32⟩ 49).step (kW 49) (schedW (tb blkC2) 49) = _
  rw [stC2_49, schC2_49]; kernel_rfl
theorem stC2_51 : W8.steps kW (schedW (tb blkC2)) ⟨1972027653#32, 898885472#32, 3279593276#32, 2767147112#32, 2107924513#32, 3800513663#32, 2561727826#32, 3713534392#32⟩ 51 = ⟨3540670550#32, 1142326811#32, 1181420414#32, 1517510718#32, 2016950860#32, 1798221987#32, 2222325938#32, 3994084098#32⟩ := by
  show (W8.steps kW (schedW (tb blkC2)) ⟨1972027653#32, 898885472#32, 3279593276#32, 2767147112#32, 2107924513#32, 3800513663#32, 2561727826#32, 3713534392#32⟩ 50).step (kW 50) (schedW (tb blkC2) 50) = _
  rw [stC2_50, schC2_50]; kernel_rfl
theorem stC2_52 : W8.steps kW (schedW (tb blkC2)) ⟨1972027653#32, 898885472#32, 3279593276#32, 2767147112#32, 2107924513#32, 3800513663#32, 2561727826#32, 3713534392#32⟩ 52 = ⟨3330765852#32, 3540670550#32, 1142326811#32, 1181420414#32, 2077979889#32, 2016950860#32, 1798221987#32, 2222325938#32⟩ := by
  show (W8.steps kW (schedW (tb blkC2)) ⟨1972027653#32, 898885472#32, 3279593276#32, 2767147112#32, 2107924513#32, 3800513663#32, 2561727826#32, 3713534392#32⟩ 51).step (kW 51) (schedW (tb blkC2) 51) = _
  rw [stC2_51, schC2_51]; kernel_rfl
theorem stC2_53 : W8.steps kW (schedW (tb blkC2)) ⟨1972027653#32, 898885472#32, 3279593276#32, 2767147112#32, 2107924513#32, 3800513663#32, 2561727826#32, 3713534392#32⟩ 53 = ⟨1269831072#32, 3330765852#32, 3540670550#32, 1142326811#32, 1065169626#32, 2077979889#32, 2016950860#32, 1798221987#32⟩ := by
  show (W8.steps kW (schedW (tb blkC2)) ⟨1972027653#32, 898885472#32, 3279593276#32, 2767147112#32, 2107924513#32, 3800513663#32, 2561727826#32, 3713534392#32⟩ 52).step (kW 52) (schedW (tb blkC2) 52) = _
  rw [stC2_52, schC2_52]; kernel_rfl
theorem stC2_54 : W8.steps kW (schedW (tb blkC2)) ⟨1972027653#32, 898885472#32, 3279593276#32, 2767147112#32, 2107924513#32, 3800513663#32, 2561727826#32, 3713534392#32⟩ 54 = ⟨1919858220#32, 1269831072#32, 3330765852#32, 3540670550#32, 1934233197#32, 1065169626#32, 2077979889#32, 2016950860#32⟩ := by
  show (W8.steps kW (schedW (tb blkC2)) ⟨1972027653#32, 898885472#32, 3279593276#32, 2767147112#32, 2107924513#32, 3800513663#32, 2561727826#32, 3713534392#32⟩ 53).step (kW 53) (schedW (tb blkC2) 53) = _
  rw [stC2_53, schC2_53]; kernel_rfl
theorem stC2_55 : W8.steps kW (schedW (tb blkC2)) ⟨1972027653#32, 898885472#32, 3279593276#32, 2767147112#32, 2107924513#32, 3800513663#32, 2561727826#32, 3713534392#32⟩ 55 = ⟨97655847#32, 1919858220#32, 1269831072#32, 3330765852#32, 2132128026#32, 1934233197#32, 1065169626#32, 2077979889#32⟩ := by
  show (W8.steps kW (schedW (tb blkC2)) ⟨1972027653#32, 898885472#32, 3279593276#32, 2767147112#32, 2107924513#32, 3800513663#32, 2561727826#32, 3713534392#32⟩ 54).step (kW 54) (schedW (tb blkC2) 54) = _
  rw [stC2_54, schC2_54]; kernel_rfl
theorem stC2_56 : W8.steps kW (schedW (tb blkC2)) ⟨1972027653#32, 898885472#32, 3279593276#32, 2767147112#32, 2107924513#32, 3800513663#32, 2561727826#32, 3713534392#32⟩ 56 = ⟨624493314#32, 97655847#32, 1919858220#32, 1269831072#32, 1066544492#32, 2132128026#32, 1934233197#32, 1065169626#32⟩ := by
  show (W8.steps kW (schedW (tb blkC2)) ⟨1972027653#32, 898885472#32, 3279593276#32, 2767147112#32, 2107924513#32, 3800513663#32, 2561727826#32, 3713534392#32⟩ 55).step (kW 55) (schedW (tb blkC2) 55) = _
  rw [stC2_55, schC2_55]; kernel_rfl
theorem stC2_57 : W8.steps kW (schedW (tb blkC2)) ⟨1972027653#32, 898885472#32, 3279593276#32, 2767147112#32, 2107924513#32, 3800513663#32, 2561727826#32, 3713534392#32⟩ 57 = ⟨2613461530#32, 624493314#32, 97655847#32, 1919858220#32, 1286135800#32, 1066544492#32, 2132128026#32, 1934233197#32⟩ := by
  show (W8.steps kW (schedW (tb blkC2)) ⟨1972027653#32, 898885472#32, 3279593276#32, 2767147112#32, 2107924513#32, 3800513663#32, 2561727826#32, 3713534392#32⟩ 56).step (kW 56) (schedW (tb blkC2) 56) = _
  rw [stC2_56, schC2_56]; kernel_rfl
theorem stC2_58 : W8.steps kW (schedW (tb blkC2)) ⟨1972027653#32, 898885472#32, 3279593276#32, 2767147112#32, 2107924513#32, 3800513663#32, 2561727826#32, 3713534392#32⟩ 58 = ⟨1541840169#32, 2613461530#32, 624493314#32, 97655847#32, 425077880#32, 1286135800#32, 1066544492#32, 2132128026#32⟩ := by
  show (W8.steps kW (schedW (tb blkC2)) ⟨1972027653#32, 898885472#32, 3279593276#32, 2767147112#32, 2107924513#32, 3800513663#32, 2561727826#32, 3713534392#32⟩ 57).step (kW 57) (schedW (tb blkC2) 57) = _
  rw [stC2_57, schC2_57]; kernel_rfl
theorem stC2_59 : W8.steps kW (schedW (tb blkC2)) ⟨1972027653#32, 898885472#32, 3279593276#32, 2767147112#32, 2107924513#32, 3800513663#32, 2561727826#32, 3713534392#32⟩ 59 = ⟨2799954350#32, 1541840169#32, 2613461530#32, 624493314#32, 1795696058#32, 425077880#32, 1286135800#32, 1066544492#32⟩ := by
  show (W8.steps kW (schedW (tb blkC2)) ⟨1972027653#32, 898885472#32, 3279593276#32, 2767147112#32, 2107924513#32, 3800513663#32, 2561727826#32, 3713534392#32⟩ 58).step (kW 58) (schedW (tb blkC2) 58) = _
  rw [stC2_58, schC2_58]; kernel_rfl
theorem stC2_60 : W8.steps kW (schedW (tb blkC2)) ⟨1972027653#32, 898885472#32, 3279593276#32, 2767147112#32, 2107924513#32, 3800513663#32, 2561727826#32, 3713534392#32⟩ 60 = ⟨4139085023#32, 2799954350#32, 1541840169#32, 2613461530#32, 345779912#32, 1795696058#32, 425077880#32, 1286135800#32⟩ := by
  show (W8.steps kW (schedW (tb blkC2)) ⟨1972027653#32, 898885472#32, 3279593276#32, 2767147112#32, 2107924513#32, 3800513663#32, 2561727826#32, 3713534392#32⟩ 59).step (kW 59) (schedW (tb blkC2) 59) = _
  rw [stC2_59, schC2_59]; kernel_rfl
theorem stC2_61 : W8.steps kW (schedW (tb blkC2)) ⟨1972027653#32, 898885472#32, 3279593276#32, 2767147112#32, 2107924513#32, 3800513663#32, 2561727826#32, 3713534392#32⟩ 61 = ⟨1308902863#32, 4139085023#32, 2799954350#32, 1541840169#32, 2751531252#32, 345779912#32, 1795696058#32, 425077880#32⟩ := by
  show (W8.steps kW (schedW (tb blkC2)) ⟨1972027653#32, 898885472#32, 3279593276#32, 2767147112#32, 2107924513#32, 3800513663#32, 2561727826#32, 3713534392#32⟩ 60).step (kW 60) (schedW (tb blkC2) 60) = _
  rw [stC2_60, schC2_60]; kernel_rfl
theorem stC2_62 : W8.steps kW (schedW (tb blkC2)) ⟨1972027653#32, 898885472#32, 3279593276#32, 2767147112#32, 2107924513#32, 3800513663#32, 2561727826#32, 3713534392#32⟩ 62 = ⟨768777436#32, 1308902863#32, 4139085023#32, 2799954350#32, 3056037837#32, 2751531252#32, 345779912#32, 1795696058#32⟩ := by
  show (W8.steps kW (schedW (tb blkC2)) ⟨1972027653#32, 898885472#32, 3279593276#32, 2767147112#32, 2107924513#32, 3800513663#32, 2561727826#32, 3713534392#32⟩ 61).step (kW 61) (schedW (tb blkC2) 61) = _
  rw [stC2_61, schC2_61]; kernel_rfl
theorem stC2_63 : W8.steps kW (schedW (tb blkC2)) ⟨1972027653#32, 898885472#32, 3279593276#32, 2767147112#32, 2107924513#32, 3800513663#32, 2561727826#32, 3713534392#32⟩ 63 = ⟨1199713330#32, 768777436#32, 1308902863#32, 4139085023#32, 3622506477#32, 3056037837#32, 2751531252#32, 345779912#32⟩ := by
  show (W8.steps kW (schedW (tb blkC2)) ⟨1972027653#32, 898885472#32, 3279593276#32, 2767147112#32, 2107924513#32, 3800513663#32, 2561727826#32, 3713534392#32⟩ 62).step (kW 62) (schedW (tb blkC2) 62) = _
  rw [stC2_62, schC2_62]; kernel_rfl
theorem stC2_64 : W8.steps kW (schedW (tb blkC2)) ⟨1972027653#32, 898885472#32, 3279593276#32, 2767147112#32, 2107924513#32, 3800513663#32, 2561727826#32, 3713534392#32⟩ 64 = ⟨2607297469#32, 1199713330#32, 768777436#32, 1308902863#32, 1238963643#32, 3622506477#32, 3056037837#32, 2751531252#32⟩ := by
  show (W8.steps kW (schedW (tb blkC2)) ⟨1972027653#32, 898885472#32, 3279593276#32, 2767147112#32, 2107924513#32, 3800513663#32, 2561727826#32, 3713534392#32⟩ 63).step (kW 63) (schedW (tb blkC2) 63) = _
  rw [stC2_63, schC2_63]; kernel_rfl
theorem turnC2 : W8.turn kW ⟨1972027653#32, 898885472#32, 3279593276#32, 2767147112#32, 2107924513#32, 3800513663#32, 2561727826#32, 3713534392#32⟩ (tb blkC2) = ⟨284357826#32, 2098598802#32, 4048370712#32, 4076049975#32, 3346888156#32, 3128052844#32, 1322798367#32, 2170098348#32⟩ := by
  unfold W8.turn
  rw [stC2_64]; kernel_rfl
def blkC3 : List Nat := [156, 80, 173, 13, 150, 7, 188, 41, 177, 82, 227, 233, 148, 95, 127, 152, 113, 55, 33, 234, 36, 221, 116, 198, 168, 92, 211, 67, 48, 105, 38, 182, 92, 92, 92, 92, 92, 92, 92, 92, 92, 92, 92, 92, 92, 92, 92, 92, 92, 92, 92, 92, 92, 92, 92, 92, 92, 92, 92, 92, 92, 92, 92, 92]
theorem schC3_0 : schedW (tb blkC3) 0 = 2622532877#32 := by rw [schedW_low (tb blkC3) (by omega)]; kernel_rfl
theorem schC3_1 : schedW (tb blkC3) 1 = 2517089321#32 := by rw [schedW_low (tb blkC3) (by omega)]; kernel_rfl
theorem schC3_2 : schedW (tb blkC3) 2 = 2974999529#32 := by rw [schedW_low (tb blkC3) (by omega)]; kernel_rfl
theorem schC3_3 : schedW (tb blkC3) 3 = 2489286552#32 := by rw [schedW_low (tb blkC3) (by omega)]; kernel_rfl
theorem schC3_4 : schedW (tb blkC3) 4 = 1899438570#32 := by rw [schedW_low (tb blkC3) (by omega)]; kernel_rfl
theorem schC3_5 : schedW (tb blkC3) 5 = 618493126#32 := by rw [schedW_low (tb blkC3) (by omega)]; kernel_rfl
theorem schC3_6 : schedW (tb blkC3) 6 = 2824655683#32 := by rw [schedW_low (tb blkC3) (by omega)]; kernel_rfl
theorem schC3_7 : schedW (tb blkC3) 7 = 812197558#32 := by rw [schedW_low (tb blkC3) (by omega)]; kernel_rfl
theorem schC3_8 : schedW (tb blkC3) 8 = 1549556828#32 := by rw [schedW_low (tb blkC3) (by omega)]; kernel_rfl
theorem schC3_9 : schedW (tb blkC3) 9 = 1549556828#32 := by rw [schedW_low (tb blkC3) (by omega)]; kernel_rfl
theorem schC3_10 : schedW (tb blkC3) 10 = 1549556828#32 := by rw [schedW_low (tb blkC3) (by omega)]; kernel_rfl
theorem schC3_11 : schedW (tb blkC3) 11 = 1549556828#32 := by rw [schedW_low (tb blkC3) (by omega)]; kernel_rfl
theorem schC3_12 : schedW (tb blkC3) 12 = 1549556828#32 := by rw [schedW_low (tb blkC3) (by omega)]; kernel_rfl
theorem schC3_13 : schedW (tb blkC3) 13 = 1549556828#32 := by rw [schedW_low (tb blkC3) (by omega)]; kernel_rfl
theorem schC3_14 : schedW (tb blkC3) 14 = 1549556828#32 := by rw [schedW_low (tb blkC3) (by omega)]; kernel_rfl
theorem schC3_15 : schedW (tb blkC3) 15 = 1549556828#32 := by rw [schedW_low (tb blkC3) (by omega)]; kernel_rfl
theorem schC3_16 : schedW (tb blkC3) 16 = 1296456087#32 := by
  rw [schedW_high (tb blkC3) (by omega)]
  show sig1 (schedW (tb blkC3) 14) + schedW (tb blkC3) 9 + sig0 (schedW (tb blkC3) 1) + schedW (tb blkC3) 0 = _
  rw [schC3_14, schC3_9, schC3_1, schC3_0]; kernel_rfl
theorem schC3_17 : schedW (tb blkC3) 17 = 365519141#32 := by
  rw [schedW_high (tb blkC3) (by omega)]
  show sig1 (schedW (tb blkC3) 15) + schedW (tb blkC3) 10 + sig0 (schedW (tb blkC3) 2) + schedW (tb blkC3) 1 = _
  rw [schC3_15, schC3_10, schC3_2, schC3_1]; kernel_rfl
theorem schC3_18 : schedW (tb blkC3) 18 = 4057912061#32 := by
  rw [schedW_high (tb blkC3) (by omega)]
  show sig1 (schedW (tb blkC3) 16) + schedW (tb blkC3) 11 + sig0 (schedW (tb blkC3) 3) + schedW (tb blkC3) 2 = _
  rw [schC3_16, schC3_11, schC3_3, schC3_2]; kernel_rfl
theorem schC3_19 : schedW (tb blkC3) 19 = 2687323180#32 := by
  rw [schedW_high (tb blkC3) (by omega)]
  show sig1 (schedW (tb blkC3) 17) + schedW (tb blkC3) 12 + sig0 (schedW (tb blkC3) 4) + schedW (tb blkC3) 3 = _
  rw [schC3_17, schC3_12, schC3_4, schC3_3]; kernel_rfl
theorem schC3_20 : schedW (tb blkC3) 20 = 1452559596#32 := by
  rw [schedW_high (tb blkC3) (by omega)]
  show sig1 (schedW (tb blkC3) 18) + schedW (tb blkC3) 13 + sig0 (schedW (tb blkC3) 5) + schedW (tb blkC3) 4 = _
  rw [schC3_18, schC3_13, schC3_5, schC3_4]; kernel_rfl
theorem schC3_21 : schedW (tb blkC3) 21 = 931228219#32 := by
  rw [schedW_high (tb blkC3) (by omega)]
  show sig1 (schedW (tb blkC3) 19) + schedW (tb blkC3) 14 + sig0 (schedW (tb blkC3) 6) + schedW (tb blkC3) 5 = _
  rw [schC3_19, schC3_14, schC3_6, schC3_5]; kernel_rfl
theorem schC3_22 : schedW (tb blkC3) 22 = 3631722155#32 := by
  rw [schedW_high (tb blkC3) (by omega)]
  show sig1 (schedW (tb blkC3) 20) + schedW (tb blkC3) 15 + sig0 (schedW (tb blkC3) 7) + schedW (tb blkC3) 6 = _
  rw [schC3_20, schC3_15, schC3_7, schC3_6]; kernel_rfl
theorem schC3_23 : schedW (tb blkC3) 23 = 3123364315#32 := by
  rw [schedW_high (tb blkC3) (by omega)]
  show sig1 (schedW (tb blkC3) 21) + schedW (tb blkC3) 16 + sig0 (schedW (tb blkC3) 8) + schedW (tb blkC3) 7 = _
  rw [schC3_21, schC3_16, schC3_8, schC3_7]; kernel_rfl
theorem schC3_24 : schedW (tb blkC3) 24 = 956329091#32 := by
  rw [schedW_high (tb blkC3) (by omega)]
  show sig1 (schedW (tb blkC3) 22) + schedW (tb blkC3) 17 + sig0 (schedW (tb blkC3) 9) + schedW (tb blkC3) 8 = _
  rw [schC3_22, schC3_17, schC3_9, schC3_8]; kernel_rfl
theorem schC3_25 : schedW (tb blkC3) 25 = 727151709#32 := by
  rw [schedW_high (tb blkC3) (by omega)]
  show sig1 (schedW (tb blkC3) 23) + schedW (tb blkC3) 18 + sig0 (schedW (tb blkC3) 10) + schedW (tb blkC3) 9 = _
  rw [schC3_23, schC3_18, schC3_10, schC3_9]; kernel_rfl
theorem schC3_26 : schedW (tb blkC3) 26 = 3700263015#32 := by
  rw [schedW_high (tb blkC3) (by omega)]
  show sig1 (schedW (tb blkC3) 24) + schedW (tb blkC3) 19 + sig0 (schedW (tb blkC3) 11) + schedW (tb blkC3) 10 = _
  rw [schC3_24, schC3_19, schC3_11, schC3_10]; kernel_rfl
theorem schC3_27 : schedW (tb blkC3) 27 = 2881794696#32 := by
  rw [schedW_high (tb blkC3) (by omega)]
  show sig1 (schedW (tb blkC3) 25) + schedW (tb blkC3) 20 + sig0 (schedW (tb blkC3) 12) + schedW (tb blkC3) 11 = _
  rw [schC3_25, schC3_20, schC3_12, schC3_11]; kernel_rfl
theorem schC3_28 : schedW (tb blkC3) 28 = 2903122288#32 := by
  rw [schedW_high (tb blkC3) (by omega)]
  show sig1 (schedW (tb blkC3) 26) + schedW (tb blkC3) 21 + sig0 (schedW (tb blkC3) 13) + schedW (tb blkC3) 12 = _
  rw [schC3_26, schC3_21, schC3_13, schC3_12]; kernel_rfl
theorem schC3_29 : schedW (tb blkC3) 29 = 2822234337#32 := by
  rw [schedW_high (tb blkC3) (by omega)]
  show sig1 (schedW (tb blkC3) 27) + schedW (tb blkC3) 22 + sig0 (schedW (tb blkC3) 14) + schedW (tb blkC3) 13 = _
  rw [schC3_27, schC3_22, schC3_14, schC3_13]; kernel_rfl
theorem schC3_30 : schedW (tb blkC3) 30 = 258491399#32 := by
  rw [schedW_high (tb blkC3) (by omega)]
  show sig1 (schedW (tb blkC3) 28) + schedW (tb blkC3) 23 + sig0 (schedW (tb blkC3) 15) + schedW (tb blkC3) 14 = _
  rw [schC3_28, schC3_23, schC3_15, schC3_14]; kernel_rfl
theorem schC3_31 : schedW (tb blkC3) 31 = 1392200340#32 := by
  rw [schedW_high (tb blkC3) (by omega)]
  show sig1 (schedW (tb blkC3) 29) + schedW (tb blkC3) 24 + sig0 (schedW (tb blkC3) 16) + schedW (tb blkC3) 15 = _
  rw [schC3_29, schC3_24, schC3_16, schC3_15]; kernel_rfl
theorem schC3_32 : schedW (tb blkC3) 32 = 3019539920#32 := by
  rw [schedW_high (tb blkC3) (by omega)]
  show sig1 (schedW (tb blkC3) 30) + schedW (tb blkC3) 25 + sig0 (schedW (tb blkC3) 17) + schedW (tb blkC3) 16 = _
  rw [schC3_30, schC3_25, schC3_17, schC3_16]; kernel_rfl
theorem schC3_33 : schedW (tb blkC3) 33 = 264905481#32 := by
  rw [schedW_high (tb blkC3) (by omega)]
  show sig1 (schedW (tb blkC3) 31) + schedW (tb blkC3) 26 + sig0 (schedW (tb blkC3) 18) + schedW (tb blkC3) 17 = _
  rw [schC3_31, schC3_26, schC3_18, schC3_17]; kernel_rfl
theorem schC3_34 : schedW (tb blkC3) 34 = 3463516606#32 := by
  rw [schedW_high (tb blkC3) (by omega)]
  show sig1 (schedW (tb blkC3) 32) + schedW (tb blkC3) 27 + sig0 (schedW (tb blkC3) 19) + schedW (tb blkC3) 18 = _
  rw [schC3_32, schC3_27, schC3_19, schC3_18]; kernel_rfl
theorem schC3_35 : schedW (tb blkC3) 35 = 1684174545#32 := by
  rw [schedW_high (tb blkC3) (by omega)]
  show sig1 (schedW (tb blkC3) 33) + schedW (tb blkC3) 28 + sig0 (schedW (tb blkC3) 20) + schedW (tb blkC3) 19 = _
  rw [schC3_33, schC3_28, schC3_20, schC3_19]; kernel_rfl
theorem schC3_36 : schedW (tb blkC3) 36 = 3552129778#32 := by
  rw [schedW_high (tb blkC3) (by omega)]
  show sig1 (schedW (tb blkC3) 34) + schedW (tb blkC3) 29 + sig0 (schedW (tb blkC3) 21) + schedW (tb blkC3) 20 = _
  rw [schC3_34, schC3_29, schC3_21, schC3_20]; kernel_rfl
theorem schC3_37 : schedW (tb blkC3) 37 = 1672093943#32 := by
  rw [schedW_high (tb blkC3) (by omega)]
  show sig1 (schedW (tb blkC3) 35) + schedW (tb blkC3) 30 + sig0 (schedW (tb blkC3) 22) + schedW (tb blkC3) 21 = _
  rw [schC3_35, schC3_30, schC3_22, schC3_21]; kernel_rfl
theorem schC3_38 : schedW (tb blkC3) 38 = 4207852120#32 := by
  rw [schedW_high (tb blkC3) (by omega)]
  show sig1 (schedW (tb blkC3) 36) + schedW (tb blkC3) 31 + sig0 (schedW (tb blkC3) 23) + schedW (tb blkC3) 22 = _
  rw [schC3_36, schC3_31, schC3_23, schC3_22]; kernel_rfl
theorem schC3_39 : schedW (tb blkC3) 39 = 3709190620#32 := by
  rw [schedW_high (tb blkC3) (by omega)]
  show sig1 (schedW (tb blkC3) 37) + schedW (tb blkC3) 32 + sig0 (schedW (tb blkC3) 24) + schedW (tb blkC3) 23 = _
  rw [schC3_37, schC3_32, schC3_24, schC3_23]; kernel_rfl
theorem schC3_40 : schedW (tb blkC3) 40 = 894397394#32 := by
  rw [schedW_high (tb blkC3) (by omega)]
  show sig1 (schedW (tb blkC3) 38) + schedW (tb blkC3) 33 + sig0 (schedW (tb blkC3) 25) + schedW (tb blkC3) 24 = _
  rw [schC3_38, schC3_33, schC3_25, schC3_24]; kernel_rfl
theorem schC3_41 : schedW (tb blkC3) 41 = 148673458#32 := by
  rw [schedW_high (tb blkC3) (by omega)]
  show sig1 (schedW (tb blkC3) 39) + schedW (tb blkC3) 34 + sig0 (schedW (tb blkC3) 26) + schedW (tb blkC3) 25 = _
  rw [schC3_39, schC3_34, schC3_26, schC3_25]; kernel_rfl
theorem schC3_42 : schedW (tb blkC3) 42 = 3256566993#32 := by
  rw [schedW_high (tb blkC3) (by omega)]
  show sig1 (schedW (tb blkC3) 40) + schedW (tb blkC3) 35 + sig0 (schedW (tb blkC3) 27) + schedW (tb blkC3) 26 = _
  rw [schC3_40, schC3_35, schC3_27, schC3_26]; kernel_rfl
theorem schC3_43 : schedW (tb blkC3) 43 = 3620918009#32 := by
  rw [schedW_high (tb blkC3) (by omega)]
  show sig1 (schedW (tb blkC3) 41) + schedW (tb blkC3) 36 + sig0 (schedW (tb blkC3) 28) + schedW (tb blkC3) 27 = _
  rw [schC3_41, schC3_36, schC3_28, schC3_27]; kernel_rfl
theorem schC3_44 : schedW (tb blkC3) 44 = 166042582#32 := by
  rw [schedW_high (tb blkC3) (by omega)]
  show sig1 (schedW (tb blkC3) 42) + schedW (tb blkC3) 37 + sig0 (schedW (tb blkC3) 29) + schedW (tb blkC3) 28 = _
  rw [schC3_42, schC3_37, schC3_29, schC3_28]; kernel_rfl
theorem schC3_45 : schedW (tb blkC3) 45 = 4111391922#32 := by
  rw [schedW_high (tb blkC3) (by omega)]
  show sig1 (schedW (tb blkC3) 43) + schedW (tb blkC3) 38 + sig0 (schedW (tb blkC3) 30) + schedW (tb blkC3) 29 = _
  rw [schC3_43, schC3_38, schC3_30, schC3_29]; kernel_rfl
theorem schC3_46 : schedW (tb blkC3) 46 = 1534152196#32 := by
  rw [schedW_high (tb blkC3) (by omega)]
  show sig1 (schedW (tb blkC3) 44) + schedW (tb blkC3) 39 + sig0 (schedW (tb blkC3) 31) + schedW (tb blkC3) 30 = _
  rw [schC3_44, schC3_39, schC3_31, schC3_30]; kernel_rfl
theorem schC3_47 : schedW (tb blkC3) 47 = 1420404550#32 := by
  rw [schedW_high (tb blkC3) (by omega)]
  show sig1 (schedW (tb blkC3) 45) + schedW (tb blkC3) 40 + sig0 (schedW (tb blkC3) 32) + schedW (tb blkC3) 31 = _
  rw [schC3_45, schC3_40, schC3_32, schC3_31]; kernel_rfl
theorem schC3_48 : schedW (tb blkC3) 48 = 3872401372#32 := by
  rw [schedW_high (tb blkC3) (by omega)]
  show sig1 (schedW (tb blkC3) 46) + schedW (tb blkC3) 41 + sig0 (schedW (tb blkC3) 33) + schedW (tb blkC3) 32 = _
  rw [schC3_46, schC3_41, schC3_33, schC3_32]; kernel_rfl
theorem schC3_49 : schedW (tb blkC3) 49 = 3649152522#32 := by
  rw [schedW_high (tb blkC3) (by omega)]
  show sig1 (schedW (tb blkC3) 47) + schedW (tb blkC3) 42 + sig0 (schedW (tb blkC3) 34) + schedW (tb blkC3) 33 = _
  rw [schC3_47, schC3_42, schC3_34, schC3_33]; kernel_rfl
theorem schC3_50 : schedW (tb blkC3) 50 = 4049671073#32 := by
  rw [schedW_high (tb blkC3) (by omega)]
  show sig1 (schedW (tb blkC3) 48) + schedW (tb blkC3) 43 + sig0 (schedW (tb blkC3) 35) + schedW (tb blkC3) 34 = _
  rw [schC3_48, schC3_43, schC3_35, schC3_34]; kernel_rfl
theorem schC3_51 : schedW (tb blkC3) 51 = 161958677#32 := by
  rw [schedW_high (tb blkC3) (by omega)]
  show sig1 (schedW (tb blkC3) 49) + schedW (tb blkC3) 44 + sig0 (schedW (tb blkC3) 36) + schedW (tb blkC3) 35 = _
  rw [schC3_49, schC3_44, schC3_36, schC3_35]; kernel_rfl
theorem schC3_52 : schedW (tb blkC3) 52 = 3740301105#32 := by
  rw [schedW_high (tb blkC3) (by omega)]
  show sig1 (schedW (tb blkC3) 50) + schedW (tb blkC3) 45 + sig0 (schedW (tb blkC3) 37) + schedW (tb blkC3) 36 = _
  rw [schC3_50, schC3_45, schC3_37, schC3_36]; kernel_rfl
theorem schC3_53 : schedW (tb blkC3) 53 = 205533116#32 := by
  rw [schedW_high (tb blkC3) (by omega)]
  show sig1 (schedW (tb blkC3) 51) + schedW (tb blkC3) 46 + sig0 (schedW (tb blkC3) 38) + schedW (tb blkC3) 37 = _
  rw [schC3_51, schC3_46, schC3_38, schC3_37]; kernel_rfl
theorem schC3_54 : schedW (tb blkC3) 54 = 1462857558#32 := by
  rw [schedW_high (tb blkC3) (by omega)]
  show sig1 (schedW (tb blkC3) 52) + schedW (tb blkC3) 47 + sig0 (schedW (tb blkC3) 39) + schedW (tb blkC3) 38 = _
  rw [schC3_52, schC3_47, schC3_39, schC3_38]; kernel_rfl
theorem schC3_55 : schedW (tb blkC3) 55 = 1313374297#32 := by
  rw [schedW_high (tb blkC3) (by omega)]
  show sig1 (schedW (tb blkC3) 53) + schedW (tb blkC3) 48 + sig0 (schedW (tb blkC3) 40) + schedW (tb blkC3) 39 = _
  rw [schC3_53, schC3_48, schC3_40, schC3_39]; kernel_rfl
theorem schC3_56 : schedW (tb blkC3) 56 = 3943426151#32 := by
  rw [schedW_high (tb blkC3) (by omega)]
  show sig1 (schedW (tb blkC3) 54) + schedW (tb blkC3) 49 + sig0 (schedW (tb blkC3) 41) + schedW (tb blkC3) 40 = _
  rw [schC3_54, schC3_49, schC3_41, schC3_40]; kernel_rfl
theorem schC3_57 : schedW (tb blkC3) 57 = 3043291829#32 := by
  rw [schedW_high (tb blkC3) (by omega)]
  show sig1 (schedW (tb blkC3) 55) + schedW (tb blkC3) 50 + sig0 (schedW (tb blkC3) 42) + schedW (tb blkC3) 41 = _
  rw [schC3_55, schC3_50, schC3_42, schC3_41]; kernel_rfl
theorem schC3_58 : schedW (tb blkC3) 58 = 2998133778#32 := by
  rw [schedW_high (tb blkC3) (by omega)]
  show sig1 (schedW (tb blkC3) 56) + schedW (tb blkC3) 51 + sig0 (schedW (tb blkC3) 43) + schedW (tb blkC3) 42 = _
  rw [schC3_56, schC3_51, schC3_43, schC3_42]; kernel_rfl
theorem schC3_59 : schedW (tb blkC3) 59 = 1774156160#32 := by
  rw [schedW_high (tb blkC3) (by omega)]
  show sig1 (schedW (tb blkC3) 57) + schedW (tb blkC3) 52 + sig0 (schedW (tb blkC3) 44) + schedW (tb blkC3) 43 = _
  rw [schC3_57, schC3_52, schC3_44, schC3_43]; kernel_rfl
theorem schC3_60 : schedW (tb blkC3) 60 = 1899293428#32 := by
  rw [schedW_high (tb blkC3) (by omega)]
  show sig1 (schedW (tb blkC3) 58) + schedW (tb blkC3) 53 + sig0 (schedW (tb blkC3) 45) + schedW (tb blkC3) 44 = _
  rw [schC3_58, schC3_53, schC3_45, schC3_44]; kernel_rfl
theorem schC3_61 : schedW (tb blkC3) 61 = 4035215294#32 := by
  rw [schedW_high (tb blkC3) (by omega)]
  show sig1 (schedW (tb blkC3) 59) + schedW (tb blkC3) 54 + sig0 (schedW (tb blkC3) 46) + schedW (tb blkC3) 45 = _
  rw [schC3_59, schC3_54, schC3_46, schC3_45]; kernel_rfl
theorem schC3_62 : schedW (tb blkC3) 62 = 2178989167#32 := by
  rw [schedW_high (tb blkC3) (by omega)]
  show sig1 (schedW (tb blkC3) 60) + schedW (tb blkC3) 55 + sig0 (schedW (tb blkC3) 47) + schedW (tb blkC3) 46 = _
  rw [schC3_60, schC3_55, schC3_47, schC3_46]; kernel_rfl
theorem schC3_63 : schedW (tb blkC3) 63 = 2628432890#32 := by
  rw [schedW_high (tb blkC3) (by omega)]
  show sig1 (schedW (tb blkC3) 61) + schedW (tb blkC3) 56 + sig0 (schedW (tb blkC3) 48) + schedW (tb blkC3) 47 = _
  rw [schC3_61, schC3_56, schC3_48, schC3_47]; kernel_rfl
theorem stC3_0 : W8.steps kW (schedW (tb blkC3)) ⟨1779033703#32, 3144134277#32, 1013904242#32, 2773480762#32, 1359893119#32, 2600822924#32, 528734635#32, 1541459225#32⟩ 0 = ⟨1779033703#32, 3144134277#32, 1013904242#32, 2773480762#32, 1359893119#32, 2600822924#32, 528734635#32, 1541459225#32⟩ := rfl
theorem stC3_1 : W8.steps kW (schedW (tb blkC3)) ⟨1779033703#32, 3144134277#32, 1013904242#32, 2773480762#32, 1359893119#32, 2600822924#32, 528734635#32, 1541459225#32⟩ 1 = ⟨2555983194#32, 1779033703#32, 3144134277#32, 1013904242#32, 890802095#32, 1359893119#32, 2600822924#32, 528734635#32⟩ := by
  show (W8.steps kW (schedW (tb blkC3)) ⟨1779033703#32, 3144134277#32, 1013904242#32, 2773480762#32, 1359893119#32, 2600822924#32, 528734635#32, 1541459225#32⟩ 0).step (kW 0) (schedW (tb blkC3) 0) = _
  rw [stC3_0, schC3_0]; kernel_rfl
theorem stC3_2 : W8.steps kW (schedW (tb blkC3)) ⟨1779033703#32, 3144134277#32, 1013904242#32, 2773480762#32, 1359893119#32, 2600822924#32, 528734635#32, 1541459225#32⟩ 2 = ⟨2846285710#32, 2555983194#32, 1779033703#32, 3144134277#32, 3283371707#32, 890802095#32, 1359893119#32, 2600822924#32⟩ := by
  show (W8.steps kW (schedW (tb blkC3)) ⟨1779033703#32, 3144134277#32, 1013904242#32, 2773480762#32, 1359893119#32, 2600822924#32, 528734635#32, 1541459225#32⟩ 1).step (kW 1) (schedW (tb blkC3) 1) = _
  rw [stC3_1, schC3_1]; kernel_rfl
theorem stC3_3 : W8.steps kW (schedW (tb blkC3)) ⟨1779033703#32, 3144134277#32, 1013904242#32, 2773480762#32, 1359893119#32, 2600822924#32, 528734635#32, 1541459225#32⟩ 3 = ⟨1794511207#32, 2846285710#32, 2555983194#32, 1779033703#32, 2968586283#32, 3283371707#32, 890802095#32, 1359893119#32⟩ := by
  show (W8.steps kW (schedW (tb blkC3)) ⟨1779033703#32, 3144134277#32, 1013904242#32, 2773480762#32, 1359893119#32, 2600822924#32, 528734635#32, 1541459225#32⟩ 2).step (kW 2) (schedW (tb blkC3) 2) = _
  rw [stC3_2, schC3_2]; kernel_rfl
theorem stC3_4 : W8.steps kW (schedW (tb blkC3)) ⟨1779033703#32, 3144134277#32, 1013904242#32, 2773480762#32, 1359893119#32, 2600822924#32, 528734635#32, 1541459225#32⟩ 4 = ⟨1523017940#32, 1794511207#32, 2846285710#32, 2555983194#32, 2451041195#32, 2968586283#32, 3283371707#32, 890802095#32⟩ := by
  show (W8.steps kW (schedW (tb blkC3)) ⟨1779033703#32, 3144134277#32, 1013904242#32, 2773480762#32, 1359893119#32, 2600822924#32, 528734635#32, 1541459225#32⟩ 3).step (kW 3) (schedW (tb blkC3) 3) = _
  rw [stC3_3, schC3_3]; kernel_rfl
theorem stC3_5 : W8.steps kW (schedW (tb blkC3)) ⟨1779033703#32, 3144134277#32, 1013904242#32, 2773480762#32, 1359893119#32, 2600822924#32, 528734635#32, 1541459225#32⟩ 5 = ⟨985530356#32, 1523017940#32, 1794511207#32, 2846285710#32, 444628515#32, 2451041195#32, 2968586283#32, 3283371707#32⟩ := by
  show (W8.steps kW (schedW (tb blkC3)) ⟨1779033703#32, 3144134277#32, 1013904242#32, 2773480762#32, 1359893119#32, 2600822924#32, 528734635#32, 1541459225#32⟩ 4).step (kW 4) (schedW (tb blkC3) 4) = _
  rw [stC3_4, schC3_4]; kernel_rfl
theorem stC3_6 : W8.steps kW (schedW (tb blkC3)) ⟨1779033703#32, 3144134277#32, 1013904242#32, 2773480762#32, 1359893119#32, 2600822924#32, 528734635#32, 1541459225#32⟩ 6 = ⟨2131979523#32, 985530356#32, 1523017940#32, 1794511207#32, 2798737317#32, 444628515#32, 2451041195#32, 2968586283#32⟩ := by
  show (W8.steps kW (schedW (tb blkC3)) ⟨1779033703#32, 3144134277#32, 1013904242#32, 2773480762#32, 1359893119#32, 2600822924#32, 528734635#32, 1541459225#32⟩ 5).step (kW 5) (schedW (tb blkC3) 5) = _
  rw [stC3_5, schC3_5]; kernel_rfl
theorem stC3_7 : W8.steps kW (schedW (tb blkC3)) ⟨1779033703#32, 3144134277#32, 1013904242#32, 2773480762#32, 1359893119#32, 2600822924#32, 528734635#32, 1541459225#32⟩ 7 = ⟨2107327967#32, 2131979523#32, 985530356#32, 1523017940#32, 1938733899#32, 2798737317#32, 444628515#32, 2451041195#32⟩ := by
  show (W8.steps kW (schedW (tb blkC3)) ⟨1779033703#32, 3144134277#32, 1013904242#32, 2773480762#32, 1359893119#32, 2600822924#32, 528734635#32, 1541459225#32⟩ 6).step (kW 6) (schedW (tb blkC3) 6) = _
  rw [stC3_6, schC3_6]; kernel_rfl
theorem stC3_8 : W8.steps kW (schedW (tb blkC3)) ⟨1779033703#32, 3144134277#32, 1013904242#32, 2773480762#32, 1359893119#32, 2600822924#32, 528734635#32, 1541459225#32⟩ 8 = ⟨943809804#32, 2107327967#32, 2131979523#32, 985530356#32, 1994596270#32, 1938733899#32, 2798737317#32, 444628515#32⟩ := by
  show (W8.steps kW (schedW (tb blkC3)) ⟨1779033703#32, 3144134277#32, 1013904242#32, 2773480762#32, 1359893119#32, 2600822924#32, 528734635#32, 1541459225#32⟩ 7).step (kW 7) (schedW (tb blkC3) 7) = _
  rw [stC3_7, schC3_7]; kernel_rfl
theorem stC3_9 : W8.steps kW (schedW (tb blkC3)) ⟨1779033703#32, 3144134277#32, 1013904242#32, 2773480762#32, 1359893119#32, 2600822924#32, 528734635#32, 1541459225#32⟩ 9 = ⟨537556992#32, 943809804#32, 2107327967#32, 2131979523#32, 3117377340#32, 1994596270#32, 1938733899#32, 2798737317#32⟩ := by
  show (W8.steps kW (schedW (tb blkC3)) ⟨1779033703#32, 3144134277#32, 1013904242#32, 2773480762#32, 1359893119#32, 2600822924#32, 528734635#32, 1541459225#32⟩ 8).step (kW 8) (schedW (tb blkC3) 8) = _
  rw [stC3_8, schC3_8]; kernel_rfl
theorem stC3_10 : W8.steps kW (schedW (tb blkC3)) ⟨1779033703#32, 3144134277#32, 1013904242#32, 2773480762#32, 1359893119#32, 2600822924#32, 528734635#32, 1541459225#32⟩ 10 = ⟨2502380668#32, 537556992#32, 943809804#32, 2107327967#32, 4199265696#32, 3117377340#32, 1994596270#32, 1938733899#32⟩ := by
  show (W8.steps kW (schedW (tb blkC3)) ⟨1779033703#32, 3144134277#32, 1013904242#32, 2773480762#32, 1359893119#32, 2600822924#32, 528734635#32, 1541459225#32⟩ 9).step (kW 9) (schedW (tb blkC3) 9) = _
  rw [stC3_9, schC3_9]; kernel_rfl
theorem stC3_11 : W8.steps kW (schedW (tb blkC3)) ⟨1779033703#32, 3144134277#32, 1013904242#32, 2773480762#32, 1359893119#32, 2600822924#32, 528734635#32, 1541459225#32⟩ 11 = ⟨3470031085#32, 2502380668#32, 537556992#32, 943809804#32, 1087359567#32, 4199265696#32, 3117377340#32, 1994596270#32⟩ := by
  show (W8.steps kW (schedW (tb blkC3)) ⟨1779033703#32, 3144134277#32, 1013904242#32, 2773480762#32, 1359893119#32, 2600822924#32, 528734635#32, 1541459225#32⟩ 10).step (kW 10) (schedW (tb blkC3) 10) = _
  rw [stC3_10, schC3_10]; kernel_rfl
theorem stC3_12 : W8.steps kW (schedW (tb blkC3)) ⟨1779033703#32, 3144134277#32, 1013904242#32, 2773480762#32, 1359893119#32, 2600822924#32, 528734635#32, 1541459225#32⟩ 12 = ⟨2649028732#32, 3470031085#32, 2502380668#32, 537556992#32, 1827079545#32, 1087359567#32, 4199265696#32, 3117377340#32⟩ := by
  show (W8.steps kW (schedW (tb blkC3)) ⟨1779033703#32, 3144134277#32, 1013904242#32, 2773480762#32, 1359893119#32, 2600822924#32, 528734635#32, 1541459225#32⟩ 11).step (kW 11) (schedW (tb blkC3) 11) = _
  rw [stC3_11, schC3_11]; kernel_rfl
theorem stC3_13 : W8.steps kW (schedW (tb blkC3)) ⟨1779033703#32, 3144134277#32, 1013904242#32, 2773480762#32, 1359893119#32, 2600822924#32, 528734635#32, 1541459225#32⟩ 13 = ⟨2855741923#32, 2649028732#32, 3470031085#32, 2502380668#32, 3034646040#32, 1827079545#32, 1087359567#32, 4199265696#32⟩ := by
  show (W8.steps kW (schedW (tb blkC3)) ⟨1779033703#32, 3144134277#32, 1013904242#32, 2773480762#32, 1359893119#32, 2600822924#32, 528734635#32, 1541459225#32⟩ 12).step (kW 12) (schedW (tb blkC3) 12) = _
  rw [stC3_12, schC3_12]; kernel_rfl
theorem stC3_14 : W8.steps kW (schedW (tb blkC3)) ⟨1779033703#32, 3144134277#32, 1013904242#32, 2773480762#32, 1359893119#32, 2600822924#32, 528734635#32, 1541459225#32⟩ 14 = ⟨367538961#32, 2855741923#32, 2649028732#32, 3470031085#32, 2732847415#32, 3034646040#32, 1827079545#32, 1087359567#32⟩ := by
  show (W8.steps kW (schedW (tb blkC3)) ⟨1779033703#32, 3144134277#32, 1013904242#32, 2773480762#32, 1359893119#32, 2600822924#32, 528734635#32, 1541459225#32⟩ 13).step (kW 13) (schedW (tb blkC3) 13) = _
  rw [stC3_13, schC3_13]; kernel_rfl
theorem stC3_15 : W8.steps kW (schedW (tb blkC3)) ⟨1779033703#32, 3144134277#32, 1013904242#32, 2773480762#32, 1359893119#32, 2600822924#32, 528734635#32, 1541459225#32⟩ 15 = ⟨3398933336#32, 367538961#32, 2855741923#32, 2649028732#32, 2118710018#32, 2732847415#32, 3034646040#32, 1827079545#32⟩ := by
  show (W8.steps kW (schedW (tb blkC3)) ⟨1779033703#32, 3144134277#32, 1013904242#32, 2773480762#32, 1359893119#32, 2600822924#32, 528734635#32, 1541459225#32⟩ 14).step (kW 14) (schedW (tb blkC3) 14) = _
  rw [stC3_14, schC3_14]; kernel_rfl
theorem stC3_16 : W8.steps kW (schedW (tb blkC3)) ⟨1779033703#32, 3144134277#32, 1013904242#32, 2773480762#32, 1359893119#32, 2600822924#32, 528734635#32, 1541459225#32⟩ 16 = ⟨3159802081#32, 3398933336#32, 367538961#32, 2855741923#32, 427142348#32, 2118710018#32, 2732847415#32, 3034646040#32⟩ := by
  show (W8.steps kW (schedW (tb blkC3)) ⟨1779033703#32, 3144134277#32, 1013904242#32, 2773480762#32, 1359893119#32, 2600822924#32, 528734635#32, 1541459225#32⟩ 15).step (kW 15) (schedW (tb blkC3) 15) = _
  rw [stC3_15, schC3_15]; kernel_rfl
theorem stC3_17 : W8.steps kW (schedW (tb blkC3)) ⟨1779033703#32, 3144134277#32, 1013904242#32, 2773480762#32, 1359893119#32, 2600822924#32, 528734635#32, 1541459225#32⟩ 17 = ⟨2225651837#32, 3159802081#32, 3398933336#32, 367538961#32, 1592623760#32, 427142348#32, 2118710018#32, 2732847415#32⟩ := by
  show (W8.steps kW (schedW (tb blkC3)) ⟨1779033703#32, 3144134277#32, 1013904242#32, 2773480762#32, 1359893119#32, 2600822924#32, 528734635#32, 1541459225#32⟩ 16).step (kW 16) (schedW (tb blkC3) 16) = _
  rw [stC3_16, schC3_16]; kernel_rfl
theorem stC3_18 : W8.steps kW (schedW (tb blkC3)) ⟨1779033703#32, 3144134277#32, 1013904242#32, 2773480762#32, 1359893119#32, 2600822924#32, 528734635#32, 1541459225#32⟩ 18 = ⟨2497794749#32, 2225651837#32, 3159802081#32, 3398933336#32, 1550508554#32, 1592623760#32, 427142348#32, 2118710018#32⟩ := by
  show (W8.steps kW (schedW (tb blkC3)) ⟨1779033703#32, 3144134277#32, 1013904242#32, 2773480762#32, 1359893119#32, 2600822924#32, 528734635#32, 1541459225#32⟩ 17).step (kW 17) (schedW (tb blkC3) 17) = _
  rw [stC3_17, schC3_17]; kernel_rfl
theorem stC3_19 : W8.steps kW (schedW (tb blkC3)) ⟨1779033703#32, 3144134277#32, 1013904242#32, 2773480762#32, 1359893119#32, 2600822924#32, 528734635#32, 1541459225#32⟩ 19 = ⟨1160830326#32, 2497794749#32, 2225651837#32, 3159802081#32, 88715739#32, 1550508554#32, 1592623760#32, 427142348#32⟩ := by
  show (W8.steps kW (schedW (tb blkC3)) ⟨1779033703#32, 3144134277#32, 1013904242#32, 2773480762#32, 1359893119#32, 2600822924#32, 528734635#32, 1541459225#32⟩ 18).step (kW 18) (schedW (tb blkC3) 18) = _
  rw [stC3_18, schC3_18]; kernel_rfl
theorem stC3_20 : W8.steps kW (schedW (tb blkC3)) ⟨1779033703#32, 3144134277#32, 1013904242#32, 2773480762#32, 1359893119#32, 2600822924#32, 528734635#32, 1541459225#32⟩ 20 = ⟨1853241229#32, 1160830326#32, 2497794749#32, 2225651837#32, 3969933346#32, 88715739#32, 1550508554#32, 1592623760#32⟩ := by
  show (W8.steps kW (schedW (tb blkC3)) ⟨1779033703#32, 3144134277#32, 1013904242#32, 2773480762#32, 1359893119#32, 2600822924#32, 528734635#32, 1541459225#32⟩ 19).step (kW 19) (schedW (tb blkC3) 19) = _
  rw [stC3_19, schC3_19]; kernel_rfl
theorem stC3_21 : W8.steps kW (schedW (tb blkC3)) ⟨1779033703#32, 3144134277#32, 1013904242#32, 2773480762#32, 1359893119#32, 2600822924#32, 528734635#32, 1541459225#32⟩ 21 = ⟨1529726615#32, 1853241229#32, 1160830326#32, 2497794749#32, 1547527020#32, 3969933346#32, 88715739#32, 1550508554#32⟩ := by
  show (W8.steps kW (schedW (tb blkC3)) ⟨1779033703#32, 3144134277#32, 1013904242#32, 2773480762#32, 1359893119#32, 2600822924#32, 528734635#32, 1541459225#32⟩ 20).step (kW 20) (schedW (tb blkC3) 20) = _
  rw [stC3_20, schC3_20]; kernel_rfl
theorem stC3_22 : W8.steps kW (schedW (tb blkC3)) ⟨1779033703#32, 3144134277#32, 1013904242#32, 2773480762#32, 1359893119#32, 2600822924#32, 528734635#32, 1541459225#32⟩ 22 = ⟨2460832495#32, 1529726615#32, 1853241229#32, 1160830326#32, 2196625518#32, 1547527020#32, 3969933346#32, 88715739#32⟩ := by
  show (W8.steps kW (schedW (tb blkC3)) ⟨1779033703#32, 3144134277#32, 1013904242#32, 2773480762#32, 1359893119#32, 2600822924#32, 528734635#32, 1541459225#32⟩ 21).step (kW 21) (schedW (tb blkC3) 21) = _
  rw [stC3_21, schC3_21]; kernel_rfl
theorem stC3_23 : W8.steps kW (schedW (tb blkC3)) ⟨1779033703#32, 3144134277#32, 1013904242#32, 2773480762#32, 1359893119#32, 2600822924#32, 528734635#32, 1541459225#32⟩ 23 = ⟨2292260499#32, 2460832495#32, 1529726615#32, 1853241229#32, 2902992351#32, 2196625518#32, 1547527020#32, 3969933346#32⟩ := by
  show (W8.steps kW (schedW (tb blkC3)) ⟨1779033703#32, 3144134277#32, 1013904242#32, 2773480762#32, 1359893119#32, 2600822924#32, 528734635#32, 1541459225#32⟩ 22).step (kW 22) (schedW (tb blkC3) 22) = _
  rw [stC3_22, schC3_22]; kernel_rfl
theorem stC3_24 : W8.steps kW (schedW (tb blkC3)) ⟨1779033703#32, 3144134277#32, 1013904242#32, 2773480762#32, 1359893119#32, 2600822924#32, 528734635#32, 1541459225#32⟩ 24 = ⟨1557200559#32, 2292260499#32, 2460832495#32, 1529726615#32, 2647364375#32, 2902992351#32, 2196625518#32, 1547527020#32⟩ := by
  show (W8.steps kW (schedW (tb blkC3)) ⟨1779033703#32, 3144134277#32, 1013904242#32, 2773480762#32, 1359893119#32, 2600822924#32, 528734635#32, 1541459225#32⟩ 23).step (kW 23) (schedW (tb blkC3) 23) = _
  rw [stC3_23, schC3_23]; kernel_rfl
theorem stC3_25 : W8.steps kW (schedW (tb blkC3)) ⟨1779033703#32, 3144134277#32, 1013904242#32, 2773480762#32, 1359893119#32, 2600822924#32, 528734635#32, 1541459225#32⟩ 25 = ⟨2420853438#32, 1557200559#32, 2292260499#32, 2460832495#32, 4045622855#32, 2647364375#32, 2902992351#32, 2196625518#32⟩ := by
  show (W8.steps kW (schedW (tb blkC3)) ⟨1779033703#32, 3144134277#32, 1013904242#32, 2773480762#32, 1359893119#32, 2600822924#32, 528734635#32, 1541459225#32⟩ 24).step (kW 24) (schedW (tb blkC3) 24) = _
  rw [stC3_24, schC3_24]; kernel_rfl
theorem stC3_26 : W8.steps kW (schedW (tb blkC3)) ⟨1779033703#32, 3144134277#32, 1013904242#32, 2773480762#32, 1359893119#32, 2600822924#32, 528734635#32, 1541459225#32⟩ 26 = ⟨2947402482#32, 2420853438#32, 1557200559#32, 2292260499#32, 3435992174#32, 4045622855#32, 2647364375#32, 2902992351#32⟩ := by
  show (W8.steps kW (schedW (tb blkC3)) ⟨1779033703#32, 3144134277#32, 1013904242#32, 2773480762#32, 1359893119#32, 2600822924#32, 528734635#32, 1541459225#32⟩ 25).step (kW 25) (schedW (tb blkC3) 25) = _
  rw [stC3_25, schC3_25]; kernel_rfl
theorem stC3_27 : W8.steps kW (schedW (tb blkC3)) ⟨1779033703#32, 3144134277#32, 1013904242#32, 2773480762#32, 1359893119#32, 2600822924#32, 528734635#32, 1541459225#32⟩ 27 = ⟨1125943332#32, 2947402482#32, 2420853438#32, 1557200559#32, 3818788493#32, 3435992174#32, 4045622855#32, 2647364375#32⟩ := by
  show (W8.steps kW (schedW (tb blkC3)) ⟨1779033703#32, 3144134277#32, 1013904242#32, 2773480762#32, 1359893119#32, 2600822924#32, 528734635#32, 1541459225#32⟩ 26).step (kW 26) (schedW (tb blkC3) 26) = _
  rw [stC3_26, schC3_26]; kernel_rfl
theorem stC3_28 : W8.steps kW (schedW (tb blkC3)) ⟨1779033703#32, 3144134277#32, 1013904242#32, 2773480762#32, 1359893119#32, 2600822924#32, 528734635#32, 1541459225#32⟩ 28 = ⟨2846090676#32, 1125943332#32, 2947402482#32, 2420853438#32, 1604414924#32, 3818788493#32, 3435992174#32, 4045622855#32⟩ := by
  show (W8.steps kW (schedW (tb blkC3)) ⟨1779033703#32, 3144134277#32, 1013904242#32, 2773480762#32, 1359893119#32, 2600822924#32, 528734635#32, 1541459225#32⟩ 27).step (kW 27) (schedW (tb blkC3) 27) = _
  rw [stC3_27, schC3_27]; kernel_rfl
theorem stC3_29 : W8.steps kW (schedW (tb blkC3)) ⟨1779033703#32, 3144134277#32, 1013904242#32, 2773480762#32, 1359893119#32, 2600822924#32, 528734635#32, 1541459225#32⟩ 29 = ⟨3039188885#32, 2846090676#32, 1125943332#32, 2947402482#32, 292057803#32, 1604414924#32, 3818788493#32, 3435992174#32⟩ := by
  show (W8.steps kW (schedW (tb blkC3)) ⟨1779033703#32, 3144134277#32, 1013904242#32, 2773480762#32, 1359893119#32, 2600822924#32, 528734635#32, 1541459225#32⟩ 28).step (kW 28) (schedW (tb blkC3) 28) = _
  rw [stC3_28, schC3_28]; kernel_rfl
theorem stC3_30 : W8.steps kW (schedW (tb blkC3)) ⟨1779033703#32, 3144134277#32, 1013904242#32, 2773480762#32, 1359893119#32, 2600822924#32, 528734635#32, 1541459225#32⟩ 30 = ⟨3915580518#32, 3039188885#32, 2846090676#32, 1125943332#32, 2939133857#32, 292057803#32, 1604414924#32, 3818788493#32⟩ := by
  show (W8.steps kW (schedW (tb blkC3)) ⟨1779033703#32, 3144134277#32, 1013904242#32, 2773480762#32, 1359893119#32, 2600822924#32, 528734635#32, 1541459225#32⟩ 29).step (kW 29) (schedW (tb blkC3) 29) = _
  rw [stC3_29, schC3_29]; kernel_rfl
theorem stC3_31 : W8.steps kW (schedW (tb blkC3)) ⟨1779033703#32, 3144134277#32, 1013904242#32, 2773480762#32, 1359893119#32, 2600822924#32, 528734635#32, 1541459225#32⟩ 31 = ⟨4016116580#32, 3915580518#32, 3039188885#32, 2846090676#32, 1943815216#32, 2939133857#32, 292057803#32, 1604414924#32⟩ := by
  show (W8.steps kW (schedW (tb blkC3)) ⟨1779033703#32, 3144134277#32, 1013904242#32, 2773480762#32, 1359893119#32, 2600822924#32, 528734635#32, 1541459225#32⟩ 30).step (kW 30) (schedW (tb blkC3) 30) = _
  rw [stC3_30, schC3_30]; kernel_rfl
theorem stC3_32 : W8.steps kW (schedW (tb blkC3)) ⟨1779033703#32, 3144134277#32, 1013904242#32, 2773480762#32, 1359893119#32, 2600822924#32, 528734635#32, 1541459225#32⟩ 32 = ⟨2783637283#32, 4016116580#32, 3915580518#32, 3039188885#32, 1031344391#32, 1943815216#32, 2939133857#32, 292057803#32⟩ := by
  show (W8.steps kW (schedW (tb blkC3)) ⟨1779033703#32, 3144134277#32, 1013904242#32, 2773480762#32, 1359893119#32, 2600822924#32, 528734635#32, 1541459225#32⟩ 31).step (kW 31) (schedW (tb blkC3) 31) = _
  rw [stC3_31, schC3_31]; kernel_rfl
theorem stC3_33 : W8.steps kW (schedW (tb blkC3)) ⟨1779033703#32, 3144134277#32, 1013904242#32, 2773480762#32, 1359893119#32, 2600822924#32, 528734635#32, 1541459225#32⟩ 33 = ⟨1246854182#32, 2783637283#32, 4016116580#32, 3915580518#32, 3594105421#32, 1031344391#32, 1943815216#32, 2939133857#32⟩ := by
  show (W8.steps kW (schedW (tb blkC3)) ⟨1779033703#32, 3144134277#32, 1013904242#32, 2773480762#32, 1359893119#32, 2600822924#32, 528734635#32, 1541459225#32⟩ 32).step (kW 32) (schedW (tb blkC3) 32) = _
  rw [stC3_32, schC3_32]; kernel_rfl
theorem stC3_34 : W8.steps kW (schedW (tb blkC3)) ⟨1779033703#32, 3144134277#32, 1013904242#32, 2773480762#32, 1359893119#32, 2600822924#32, 528734635#32, 1541459225#32⟩ 34 = ⟨2869252860#32, 1246854182#32, 2783637283#32, 4016116580#32, 1857045393#32, 3594105421#32, 1031344391#32, 1943815216#32⟩ := by
  show (W8.steps kW (schedW (tb blkC3)) ⟨1779033703#32, 3144134277#32, 1013904242#32, 2773480762#32, 1359893119#32, 2600822924#32, 528734635#32, 1541459225#32⟩ 33).step (kW 33) (schedW (tb blkC3) 33) = _
  rw [stC3_33, schC3_33]; kernel_rfl
theorem stC3_35 : W8.steps kW (schedW (tb blkC3)) ⟨1779033703#32, 3144134277#32, 1013904242#32, 2773480762#32, 1359893119#32, 2600822924#32, 528734635#32, 1541459225#32⟩ 35 = ⟨2858103297#32, 2869252860#32, 1246854182#32, 2783637283#32, 1175111942#32, 1857045393#32, 3594105421#32, 1031344391#32⟩ := by
  show (W8.steps kW (schedW (tb blkC3)) ⟨1779033703#32, 3144134277#32, 1013904242#32, 2773480762#32, 1359893119#32, 2600822924#32, 528734635#32, 1541459225#32⟩ 34).step (kW 34) (schedW (tb blkC3) 34) = _
  rw [stC3_34, schC3_34]; kernel_rfl
theorem stC3_36 : W8.steps kW (schedW (tb blkC3)) ⟨1779033703#32, 3144134277#32, 1013904242#32, 2773480762#32, 1359893119#32, 2600822924#32, 528734635#32, 1541459225#32⟩ 36 = ⟨1218346150#32, 2858103297#32, 2869252860#32, 1246854182#32, 2917425333#32, 1175111942#32, 1857045393#32, 3594105421#32⟩ := by
  show (W8.steps kW (schedW (tb blkC3)) ⟨1779033703#32, 3144134277#32, 1013904242#32, 2773480762#32, 1359893119#32, 2600822924#32, 528734635#32, 1541459225#32⟩ 35).step (kW 35) (schedW (tb blkC3) 35) = _
  rw [stC3_35, schC3_35]; kernel_rfl
theorem stC3_37 : W8.steps kW (schedW (tb blkC3)) ⟨1779033703#32, 3144134277#32, 1013904242#32, 2773480762#32, 1359893119#32, 2600822924#32, 528734635#32, 1541459225#32⟩ 37 = ⟨1078380811#32, 1218346150#32, 2858103297#32, 2869252860#32, 3515977621#32, 2917425333#32, 1175111942#32, 1857045393#32⟩ := by
  show (W8.steps kW (schedW (tb blkC3)) ⟨1779033703#32, 3144134277#32, 1013904242#32, 2773480762#32, 1359893119#32, 2600822924#32, 528734635#32, 1541459225#32⟩ 36).step (kW 36) (schedW (tb blkC3) 36) = _
  rw [stC3_36, schC3_36]; kernel_rfl
theorem stC3_38 : W8.steps kW (schedW (tb blkC3)) ⟨1779033703#32, 3144134277#32, 1013904242#32, 2773480762#32, 1359893119#32, 2600822924#32, 528734635#32, 1541459225#32⟩ 38 = ⟨156795961#32, 1078380811#32, 1218346150#32, 2858103297#32, 3901735357#32, 3515977621#32, 2917425333#32, 1175111942#32⟩ := by
  show (W8.steps kW (schedW (tb blkC3)) ⟨1779033703#32, 3144134277#32, 1013904242#32, 2773480762#32, 1359893119#32, 2600822924#32, 528734635#32, 1541459225#32⟩ 37).step (kW 37) (schedW (tb blkC3) 37) = _
  rw [stC3_37, schC3_37]; kernel_rfl
theorem stC3_39 : W8.steps kW (schedW (tb blkC3)) ⟨1779033703#32, 3144134277#32, 1013904242#32, 2773480762#32, 1359893119#32, 2600822924#32, 528734635#32, 1541459225#32⟩ 39 = ⟨1516976709#32, 156795961#32, 1078380811#32, 1218346150#32, 3134787628#32, 3901735357#32, 3515977621#32, 2917425333#32⟩ := by
  show (W8.steps kW (schedW (tb blkC3)) ⟨1779033703#32, 3144134277#32, 1013904242#32, 2773480762#32, 1359893119#32, 2600822924#32, 528734635#32, 1541459225#32⟩ 38).step (kW 38) (schedW (tb blkC3) 38) = _
  rw [stC3_38, schC3_38]; kernel_rfl
theorem stC3_40 : W8.steps kW (schedW (tb blkC3)) ⟨1779033703#32, 3144134277#32, 1013904242#32, 2773480762#32, 1359893119#32, 2600822924#32, 528734635#32, 1541459225#32⟩ 40 = ⟨1401788604#32, 1516976709#32, 156795961#32, 1078380811#32, 730367160#32, 3134787628#32, 3901735357#32, 3515977621#32⟩ := by
  show (W8.steps kW (schedW (tb blkC3)) ⟨1779033703#32, 3144134277#32, 1013904242#32, 2773480762#32, 1359893119#32, 2600822924#32, 528734635#32, 1541459225#32⟩ 39).step (kW 39) (schedW (tb blkC3) 39) = _
  rw [stC3_39, schC3_39]; kernel_rfl
theorem stC3_41 : W8.steps kW (schedW (tb blkC3)) ⟨1779033703#32, 3144134277#32, 1013904242#32, 2773480762#32, 1359893119#32, 2600822924#32, 528734635#32, 1541459225#32⟩ 41 = ⟨2328221590#32, 1401788604#32, 1516976709#32, 156795961#32, 2287992151#32, 730367160#32, 3134787628#32, 3901735357#32⟩ := by
  show (W8.steps kW (schedW (tb blkC3)) ⟨1779033703#32, 3144134277#32, 1013904242#32, 2773480762#32, 1359893119#32, 2600822924#32, 528734635#32, 1541459225#32⟩ 40).step (kW 40) (schedW (tb blkC3) 40) = _
  rw [stC3_40, schC3_40]; kernel_rfl
theorem stC3_42 : W8.steps kW (schedW (tb blkC3)) ⟨1779033703#32, 3144134277#32, 1013904242#32, 2773480762#32, 1359893119#32, 2600822924#32, 528734635#32, 1541459225#32⟩ 42 = ⟨325530676#32, 2328221590#32, 1401788604#32, 1516976709#32, 3096880121#32, 2287992151#32, 730367160#32, 3134787628#32⟩ := by
  show (W8.steps kW (schedW (tb blkC3)) ⟨1779033703#32, 3144134277#32, 1013904242#32, 2773480762#32, 1359893119#32, 2600822924#32, 528734635#32, 1541459225#32⟩ 41).step (kW 41) (schedW (tb blkC3) 41) = _
  rw [stC3_41, schC3_41]; kernel_rfl
theorem stC3_43 : W8.steps kW (schedW (tb blkC3)) ⟨1779033703#32, 3144134277#32, 1013904242#32, 2773480762#32, 1359893119#32, 2600822924#32, 528734635#32, 1541459225#32⟩ 43 = ⟨3931264370#32, 325530676#32, 2328221590#32, 1401788604#32, 4149113994#32, 3096880121#32, 2287992151#32, 730367160#32⟩ := by
  show (W8.steps kW (schedW (tb blkC3)) ⟨1779033703#32, 3144134277#32, 1013904242#32, 2773480762#32, 1359893119#32, 2600822924#32, 528734635#32, 1541459225#32⟩ 42).step (kW 42) (schedW (tb blkC3) 42) = _
  rw [stC3_42, schC3_42]; kernel_rfl
theorem stC3_44 : W8.steps kW (schedW (tb blkC3)) ⟨1779033703#32, 3144134277#32, 1013904242#32, 2773480762#32, 1359893119#32, 2600822924#32, 528734635#32, 1541459225#32⟩ 44 = ⟨2201373237#32, 3931264370#32, 325530676#32, 2328221590#32, 4096164180#32, 4149113994#32, 3096880121#32, 2287992151#32⟩ := by
  show (W8.steps kW (schedW (tb blkC3)) ⟨1779033703#32, 3144134277#32, 1013904242#32, 2773480762#32, 1359893119#32, 2600822924#32, 528734635#32, 1541459225#32⟩ 43).step (kW 43) (schedW (tb blkC3) 43) = _
  rw [stC3_43, schC3_43]; kernel_rfl
theorem stC3_45 : W8.steps kW (schedW (tb blkC3)) ⟨1779033703#32, 3144134277#32, 1013904242#32, 2773480762#32, 1359893119#32, 2600822924#32, 528734635#32, 1541459225#32⟩ 45 = ⟨909969925#32, 2201373237#32, 3931264370#32, 325530676#32, 1430466612#32, 4096164180#32, 4149113994#32, 3096880121#32⟩ := by
  show (W8.steps kW (schedW (tb blkC3)) ⟨1779033703#32, 3144134277#32, 1013904242#32, 2773480762#32, 1359893119#32, 2600822924#32, 528734635#32, 1541459225#32⟩ 44).step (kW 44) (schedW (tb blkC3) 44) = _
  rw [stC3_44, schC3_44]; kernel_rfl
theorem stC3_46 : W8.steps kW (schedW (tb blkC3)) ⟨1779033703#32, 3144134277#32, 1013904242#32, 2773480762#32, 1359893119#32, 2600822924#32, 528734635#32, 1541459225#32⟩ 46 = ⟨2086255583#32, 909969925#32, 2201373237#32, 3931264370#32, 66829869#32, 1430466612#32, 4096164180#32, 4149113994#32⟩ := by
  show (W8.steps kW (schedW (tb blkC3)) ⟨1779033703#32, 3144134277#32, 1013904242#32, 2773480762#32, 1359893119#32, 2600822924#32, 528734635#32, 1541459225#32⟩ 45).step (kW 45) (schedW (tb blkC3) 45) = _
  rw [stC3_45, schC3_45]; kernel_rfl
theorem stC3_47 : W8.steps kW (schedW (tb blkC3)) ⟨1779033703#32, 3144134277#32, 1013904242#32, 2773480762#32, 1359893119#32, 2600822924#32, 528734635#32, 1541459225#32⟩ 47 = ⟨1707453557#32, 2086255583#32, 909969925#32, 2201373237#32, 3000501767#32, 66829869#32, 1430466612#32, 4096164180#32⟩ := by
  show (W8.steps kW (schedW (tb blkC3)) ⟨1779033703#32, 3144134277#32, 1013904242#32, 2773480762#32, 1359893119#32, 2600822924#32, 528734635#32, 1541459225#32⟩ 46).step (kW 46) (schedW (tb blkC3) 46) = _
  rw [stC3_46, schC3_46]; kernel_rfl
theorem stC3_48 : W8.steps kW (schedW (tb blkC3)) ⟨1779033703#32, 3144134277#32, 1013904242#32, 2773480762#32, 1359893119#32, 2600822924#32, 528734635#32, 1541459225#32⟩ 48 = ⟨4095570684#32, 1707453557#32, 2086255583#32, 909969925#32, 3599401525#32, 3000501767#32, 66829869#32, 1430466612#32⟩ := by
  show (W8.steps kW (schedW (tb blkC3)) ⟨1779033703#32, 3144134277#32, 1013904242#32, 2773480762#32, 1359893119#32, 2600822924#32, 528734635#32, 1541459225#32⟩ 47).step (kW 47) (schedW (tb blkC3) 47) = _
  rw [stC3_47, schC3_47]; kernel_rfl
theorem stC3_49 : W8.steps kW (schedW (tb blkC3)) ⟨1779033703#32, 3144134277#32, 1013904242#32, 2773480762#32, 1359893119#32, 2600822924#32, 528734635#32, 1541459225#32⟩ 49 = ⟨299631463#32, 4095570684#32, 1707453557#32, 2086255583#32, 4103095019#32, 3599401525#32, 3000501767#32, 66829869#32⟩ := by
  show (W8.steps kW (schedW (tb blkC3)) ⟨1779033703#32, 3144134277#32, 1013904242#32, 2773480762#32, 1359893119#32, 2600822924#32, 528734635#32, 1541459225#32⟩ 48).step (kW 48) (schedW (tb blkC3) 48) = _
  rw [stC3_48, schC3_48]; kernel_rfl
theorem stC3_50 : W8.steps kW (schedW (tb blkC3)) ⟨1779033703#32, 3144134277#32, 1013904242#32, 2773480762#32, 1359893119#32, 2600822924#32, 528734635#32, 1541459225#32⟩ 50 = ⟨2989077072#32, 299631463#32, 4095570684#32, 1707453557#32, 157563196#32, 4103095019#32, 3599401525#32, 3000501767#32⟩ := by
  show (W8.steps kW (schedW (tb blkC3)) ⟨1779033703#32, 3144134277#32, 1013904242#32, 2773480762#32, 1359893119#32, 2600822924#32, 528734635#32, 1541459225#32⟩ 49).step (kW 49) (schedW (tb blkC3) 49) = _
  rw [stC3_49, schC3_49]; kernel_rfl
theorem stC3_51 : W8.steps kW (schedW (tb blkC3)) ⟨1779033703#32, 3144134277#32, 1013904242#32, 2773480762#32, 1359893119#32, 2600822924#32, 528734635#32, 1541459225#32⟩ 51 = ⟨3500680969#32, 2989077072#32, 299631463#32, 4095570684#32, 1837752825#32, 157563196#32, 4103095019#32, 3599401525#32⟩ := by
  show (W8.steps kW (schedW (tb blkC3)) ⟨1779033703#32, 3144134277#32, 1013904242#32, 2773480762#32, 1359893119#32, 2600822924#32, 528734635#32, 1541459225#32⟩ 50).step (kW 50) (schedW (tb blkC3) 50) = _
  rw [stC3_50, schC3_50]; kernel_rfl
theorem stC3_52 : W8.steps kW (schedW (tb blkC3)) ⟨1779033703#32, 3144134277#32, 1013904242#32, 2773480762#32, 1359893119#32, 2600822924#32, 528734635#32, 1541459225#32⟩ 52 = ⟨1241441864#32, 3500680969#32, 2989077072#32, 299631463#32, 3229321794#32, 1837752825#32, 157563196#32, 4103095019#32⟩ := by
  show (W8.steps kW (schedW (tb blkC3)) ⟨1779033703#32, 3144134277#32, 1013904242#32, 2773480762#32, 1359893119#32, 2600822924#32, 528734635#32, 1541459225#32⟩ 51).step (kW 51) (schedW (tb blkC3) 51) = _
  rw [stC3_51, schC3_51]; kernel_rfl
theorem stC3_53 : W8.steps kW (schedW (tb blkC3)) ⟨1779033703#32, 3144134277#32, 1013904242#32, 2773480762#32, 1359893119#32, 2600822924#32, 528734635#32, 1541459225#32⟩ 53 = ⟨2157229581#32, 1241441864#32, 3500680969#32, 2989077072#32, 3861068778#32, 3229321794#32, 1837752825#32, 157563196#32⟩ := by
  show (W8.steps kW (schedW (tb blkC3)) ⟨1779033703#32, 3144134277#32, 1013904242#32, 2773480762#32, 1359893119#32, 2600822924#32, 528734635#32, 1541459225#32⟩ 52).step (kW 52) (schedW (tb blkC3) 52) = _
  rw [stC3_52, schC3_52]; kernel_rfl
theorem stC3_54 : W8.steps kW (schedW (tb blkC3)) ⟨1779033703#32, 3144134277#32, 1013904242#32, 2773480762#32, 1359893119#32, 2600822924#32, 528734635#32, 1541459225#32⟩ 54 = ⟨953180349#32, 2157229581#32, 1241441864#32, 3500680969#32, 2813087200#32, 3861068778#32, 3229321794#32, 1837752825#32⟩ := by
  show (W8.steps kW (schedW (tb blkC3)) ⟨1779033703#32, 3144134277#32, 1013904242#32, 2773480762#32, 1359893119#32, 2600822924#32, 528734635#32, 1541459225#32⟩ 53).step (kW 53) (schedW (tb blkC3) 53) = _
  rw [stC3_53, schC3_53]; kernel_rfl
theorem stC3_55 : W8.steps kW (schedW (tb blkC3)) ⟨1779033703#32, 3144134277#32, 1013904242#32, 2773480762#32, 1359893119#32, 2600822924#32, 528734635#32, 1541459225#32⟩ 55 = ⟨44854473#32, 953180349#32, 2157229581#32, 1241441864#32, 3223356278#32, 2813087200#32, 3861068778#32, 3229321794#32⟩ := by
  show (W8.steps kW (schedW (tb blkC3)) ⟨1779033703#32, 3144134277#32, 1013904242#32, 2773480762#32, 1359893119#32, 2600822924#32, 528734635#32, 1541459225#32⟩ 54).step (kW 54) (schedW (tb blkC3) 54) = _
  rw [stC3_54, schC3_54]; kernel_rfl
theorem stC3_56 : W8.steps kW (schedW (tb blkC3)) ⟨1779033703#32, 3144134277#32, 1013904242#32, 2773480762#32, 1359893119#32, 2600822924#32, 528734635#32, 1541459225#32⟩ 56 = ⟨1519616219#32, 44854473#32, 953180349#32, 2157229581#32, 212719675#32, 3223356278#32, 2813087200#32, 3861068778#32⟩ := by
  show (W8.steps kW (schedW (tb blkC3)) ⟨1779033703#32, 3144134277#32, 1013904242#32, 2773480762#32, 1359893119#32, 2600822924#32, 528734635#32, 1541459225#32⟩ 55).step (kW 55) (schedW (tb blkC3) 55) = _
  rw [stC3_55, schC3_55]; kernel_rfl
theorem stC3_57 : W8.steps kW (schedW (tb blkC3)) ⟨1779033703#32, 3144134277#32, 1013904242#32, 2773480762#32, 1359893119#32, 2600822924#32, 528734635#32, 1541459225#32⟩ 57 = ⟨1605117735#32, 1519616219#32, 44854473#32, 953180349#32, 657662619#32, 212719675#32, 3223356278#32, 2813087200#32⟩ := by
  show (W8.steps kW (schedW (tb blkC3)) ⟨1779033703#32, 3144134277#32, 1013904242#32, 2773480762#32, 1359893119#32, 2600822924#32, 528734635#32, 1541459225#32⟩ 56).step (kW 56) (schedW (tb blkC3) 56) = _
  rw [stC3_56, schC3_56]; kernel_rfl
theorem stC3_58 : W8.steps kW (schedW (tb blkC3)) ⟨1779033703#32, 3144134277#32, 1013904242#32, 2773480762#32, 1359893119#32, 2600822924#32, 528734635#32, 1541459225#32⟩ 58 = ⟨4181400481#32, 1605117735#32, 1519616219#32, 44854473#32, 2031218109#32, 657662619#32, 212719675#32, 3223356278#32⟩ := by
  show (W8.steps kW (schedW (tb blkC3)) ⟨1779033703#32, 3144134277#32, 1013904242#32, 2773480762#32, 1359893119#32, 2600822924#32, 528734635#32, 1541459225#32⟩ 57).step (kW 57) (schedW (tb blkC3) 57) = _
  rw [stC3_57, schC3_57]; kernel_rfl
theorem stC3_59 : W8.steps kW (schedW (tb blkC3)) ⟨1779033703#32, 3144134277#32, 1013904242#32, 2773480762#32, 1359893119#32, 2600822924#32, 528734635#32, 1541459225#32⟩ 59 = ⟨2466404325#32, 4181400481#32, 1605117735#32, 1519616219#32, 3938727991#32, 2031218109#32, 657662619#32, 212719675#32⟩ := by
  show (W8.steps kW (schedW (tb blkC3)) ⟨1779033703#32, 3144134277#32, 1013904242#32, 2773480762#32, 1359893119#32, 2600822924#32, 528734635#32, 1541459225#32⟩ 58).step (kW 58) (schedW (tb blkC3) 58) = _
  rw [stC3_58, schC3_58]; kernel_rfl
theorem stC3_60 : W8.steps kW (schedW (tb blkC3)) ⟨1779033703#32, 3144134277#32, 1013904242#32, 2773480762#32, 1359893119#32, 2600822924#32, 528734635#32, 1541459225#32⟩ 60 = ⟨3650061662#32, 2466404325#32, 4181400481#32, 1605117735#32, 2252690157#32, 3938727991#32, 2031218109#32, 657662619#32⟩ := by
  show (W8.steps kW (schedW (tb blkC3)) ⟨1779033703#32, 3144134277#32, 1013904242#32, 2773480762#32, 1359893119#32, 2600822924#32, 528734635#32, 1541459225#32⟩ 59).step (kW 59) (schedW (tb blkC3) 59) = _
  rw [stC3_59, schC3_59]; kernel_rfl
theorem stC3_61 : W8.steps kW (schedW (tb blkC3)) ⟨1779033703#32, 3144134277#32, 1013904242#32, 2773480762#32, 1359893119#32, 2600822924#32, 528734635#32, 1541459225#32⟩ 61 = ⟨1762124818#32, 3650061662#32, 2466404325#32, 4181400481#32, 1294507271#32, 2252690157#32, 3938727991#32, 2031218109#32⟩ := by
  show (W8.steps kW (schedW (tb blkC3)) ⟨1779033703#32, 3144134277#32, 1013904242#32, 2773480762#32, 1359893119#32, 2600822924#32, 528734635#32, 1541459225#32⟩ 60).step (kW 60) (schedW (tb blkC3) 60) = _
  rw [stC3_60, schC3_60]; kernel_rfl
theorem stC3_62 : W8.steps kW (schedW (tb blkC3)) ⟨1779033703#32, 3144134277#32, 1013904242#32, 2773480762#32, 1359893119#32, 2600822924#32, 528734635#32, 1541459225#32⟩ 62 = ⟨1552502097#32, 1762124818#32, 3650061662#32, 2466404325#32, 3615075069#32, 1294507271#32, 2252690157#32, 3938727991#32⟩ := by
  show (W8.steps kW (schedW (tb blkC3)) ⟨1779033703#32, 3144134277#32, 1013904242#32, 2773480762#32, 1359893119#32, 2600822924#32, 528734635#32, 1541459225#32⟩ 61).step (kW 61) (schedW (tb blkC3) 61) = _
  rw [stC3_61, schC3_61]; kernel_rfl
theorem stC3_63 : W8.steps kW (schedW (tb blkC3)) ⟨1779033703#32, 3144134277#32, 1013904242#32, 2773480762#32, 1359893119#32, 2600822924#32, 528734635#32, 1541459225#32⟩ 63 = ⟨4146831317#32, 1552502097#32, 1762124818#32, 3650061662#32, 402669564#32, 3615075069#32, 1294507271#32, 2252690157#32⟩ := by
  show (W8.steps kW (schedW (tb blkC3)) ⟨1779033703#32, 3144134277#32, 1013904242#32, 2773480762#32, 1359893119#32, 2600822924#32, 528734635#32, 1541459225#32⟩ 62).step (kW 62) (schedW (tb blkC3) 62) = _
  rw [stC3_62, schC3_62]; kernel_rfl
theorem stC3_64 : W8.steps kW (schedW (tb blkC3)) ⟨1779033703#32, 3144134277#32, 1013904242#32, 2773480762#32, 1359893119#32, 2600822924#32, 528734635#32, 1541459225#32⟩ 64 = ⟨4172087442#32, 4146831317#32, 1552502097#32, 1762124818#32, 672575274#32, 402669564#32, 3615075069#32, 1294507271#32⟩ := by
  show (W8.steps kW (schedW (tb blkC3)) ⟨1779033703#32, 3144134277#32, 1013904242#32, 2773480762#32, 1359893119#32, 2600822924#32, 528734635#32, 1541459225#32⟩ 63).step (kW 63) (schedW (tb blkC3) 63) = _
  rw [stC3_63, schC3_63]; kernel_rfl
theorem turnC3 : W8.turn kW ⟨1779033703#32, 3144134277#32, 1013904242#32, 2773480762#32, 1359893119#32, 2600822924#32, 528734635#32, 1541459225#32⟩ (tb blkC3) = ⟨1656153849#32, 2995998298#32, 2566406339#32, 240638284#32, 2032468393#32, 3003492488#32, 4143809704#32, 2835966496#32⟩ := by
  unfold W8.turn
  rw [stC3_64]; kernel_rfl
def blkC4 : List Nat := [16, 242, 244, 194, 125, 22, 19, 146, 241, 77, 60, 24, 242, 243, 150, 55, 199, 125, 117, 220, 186, 114, 76, 108, 78, 216, 77, 31, 129, 89, 18, 172, 128, 0, 0, 0, 0, 0, 0, 0, 0, 0, 0, 0, 0, 0, 0, 0, 0, 0, 0, 0, 0, 0, 0, 0, 0, 0, 0, 0, 0, 0, 3, 0]
theorem schC4_0 : schedW (tb blkC4) 0 = 284357826#32 := by rw [schedW_low (tb blkC4) (by omega)]; kernel_rfl
theorem schC4_1 : schedW (tb blkC4) 1 = 2098598802#32 := by rw [schedW_low (tb blkC4) (by omega)]; kernel_rfl
theorem schC4_2 : schedW (tb blkC4) 2 = 4048370712#32 := by rw [schedW_low (tb blkC4) (by omega)]; kernel_rfl
theorem schC4_3 : schedW (tb blkC4) 3 = 4076049975#32 := by rw [schedW_low (tb blkC4) (by omega)]; kernel_rfl
theorem schC4_4 : schedW (tb blkC4) 4 = 3346888156#32 := by rw [schedW_low (tb blkC4) (by omega)]; kernel_rfl
theorem schC4_5 : schedW (tb blkC4) 5 = 3128052844#32 := by rw [schedW_low (tb blkC4) (by omega)]; kernel_rfl
theorem schC4_6 : schedW (tb blkC4) 6 = 1322798367#32 := by rw [schedW_low (tb blkC4) (by omega)]; kernel_rfl
theorem schC4_7 : schedW (tb blkC4) 7 = 2170098348#32 := by rw [schedW_low (tb blkC4) (by omega)]; kernel_rfl
theorem schC4_8 : schedW (tb blkC4) 8 = 2147483648#32 := by rw [schedW_low (tb blkC4) (by omega)]; kernel_rfl
theorem schC4_9 : schedW (tb blkC4) 9 = 0#32 := by rw [schedW_low (tb blkC4) (by omega)]; kernel_rfl
theorem schC4_10 : schedW (tb blkC4) 10 = 0#32 := by rw [schedW_low (tb blkC4) (by omega)]; kernel_rfl
theorem schC4_11 : schedW (tb blkC4) 11 = 0#32 := by rw [schedW_low (tb blkC4) (by omega)]; kernel_rfl
theorem schC4_12 : schedW (tb blkC4) 12 = 0#32 := by rw [schedW_low (tb blkC4) (by omega)]; kernel_rfl
theorem schC4_13 : schedW (tb blkC4) 13 = 0#32 := by rw [schedW_low (tb blkC4) (by omega)]; kernel_rfl
theorem schC4_14 : schedW (tb blkC4) 14 = 0#32 := by rw [schedW_low (tb blkC4) (by omega)]; kernel_rfl
theorem schC4_15 : schedW (tb blkC4) 15 = 768#32 := by rw [schedW_low (tb blkC4) (by omega)]; kernel_rfl
theorem schC4_16 : schedW (tb blkC4) 16 = 3232720338#32 := by
  rw [schedW_high (tb blkC4) (by omega)]
  show sig1 (schedW (tb blkC4) 14) + schedW (tb blkC4) 9 + sig0 (schedW (tb blkC4) 1) + schedW (tb blkC4) 0 = _
  rw [schC4_14, schC4_9, schC4_1, schC4_0]; kernel_rfl
theorem schC4_17 : schedW (tb blkC4) 17 = 3754104122#32 := by
  rw [schedW_high (tb blkC4) (by omega)]
  show sig1 (schedW (tb blkC4) 15) + schedW (tb blkC4) 10 + sig0 (schedW (tb blkC4) 2) + schedW (tb blkC4) 1 = _
  rw [schC4_15, schC4_10, schC4_2, schC4_1]; kernel_rfl
theorem schC4_18 : schedW (tb blkC4) 18 = 3823548681#32 := by
  rw [schedW_high (tb blkC4) (by omega)]
  show sig1 (schedW (tb blkC4) 16) + schedW (tb blkC4) 11 + sig0 (schedW (tb blkC4) 3) + schedW (tb blkC4) 2 = _
  rw [schC4_16, schC4_11, schC4_3, schC4_2]; kernel_rfl
theorem schC4_19 : schedW (tb blkC4) 19 = 3608658082#32 := by
  rw [schedW_high (tb blkC4) (by omega)]
  show sig1 (schedW (tb blkC4) 17) + schedW (tb blkC4) 12 + sig0 (schedW (tb blkC4) 4) + schedW (tb blkC4) 3 = _
  rw [schC4_17, schC4_12, schC4_4, schC4_3]; kernel_rfl
theorem schC4_20 : schedW (tb blkC4) 20 = 2956733830#32 := by
  rw [schedW_high (tb blkC4) (by omega)]
  show sig1 (schedW (tb blkC4) 18) + schedW (tb blkC4) 13 + sig0 (schedW (tb blkC4) 5) + schedW (tb blkC4) 4 = _
  rw [schC4_18, schC4_13, schC4_5, schC4_4]; kernel_rfl
theorem schC4_21 : schedW (tb blkC4) 21 = 4142181268#32 := by
  rw [schedW_high (tb blkC4) (by omega)]
  show sig1 (schedW (tb blkC4) 19) + schedW (tb blkC4) 14 + sig0 (schedW (tb blkC4) 6) + schedW (tb blkC4) 5 = _
  rw [schC4_19, schC4_14, schC4_6, schC4_5]; kernel_rfl
theorem schC4_22 : schedW (tb blkC4) 22 = 4021977431#32 := by
  rw [schedW_high (tb blkC4) (by omega)]
  show sig1 (schedW (tb blkC4) 20) + schedW (tb blkC4) 15 + sig0 (schedW (tb blkC4) 7) + schedW (tb blkC4) 6 = _
  rw [schC4_20, schC4_15, schC4_7, schC4_6]; kernel_rfl
theorem schC4_23 : schedW (tb blkC4) 23 = 328070402#32 := by
  rw [schedW_high (tb blkC4) (by omega)]
  show sig1 (schedW (tb blkC4) 21) + schedW (tb blkC4) 16 + sig0 (schedW (tb blkC4) 8) + schedW (tb blkC4) 7 = _
  rw [schC4_21, schC4_16, schC4_8, schC4_7]; kernel_rfl
theorem schC4_24 : schedW (tb blkC4) 24 = 1887304132#32 := by
  rw [schedW_high (tb blkC4) (by omega)]
  show sig1 (schedW (tb blkC4) 22) + schedW (tb blkC4) 17 + sig0 (schedW (tb blkC4) 9) + schedW (tb blkC4) 8 = _
  rw [schC4_22, schC4_17, schC4_9, schC4_8]; kernel_rfl
theorem schC4_25 : schedW (tb blkC4) 25 = 671900115#32 := by
  rw [schedW_high (tb blkC4) (by omega)]
  show sig1 (schedW (tb blkC4) 23) + schedW (tb blkC4) 18 + sig0 (schedW (tb blkC4) 10) + schedW (tb blkC4) 9 = _
  rw [schC4_23, schC4_18, schC4_10, schC4_9]; kernel_rfl
theorem schC4_26 : schedW (tb blkC4) 26 = 450783729#32 := by
  rw [schedW_high (tb blkC4) (by omega)]
  show sig1 (schedW (tb blkC4) 24) + schedW (tb blkC4) 19 + sig0 (schedW (tb blkC4) 11) + schedW (tb blkC4) 10 = _
  rw [schC4_24, schC4_19, schC4_11, schC4_10]; kernel_rfl
theorem schC4_27 : schedW (tb blkC4) 27 = 1830166437#32 := by
  rw [schedW_high (tb blkC4) (by omega)]
  show sig1 (schedW (tb blkC4) 25) + schedW (tb blkC4) 20 + sig0 (schedW (tb blkC4) 12) + schedW (tb blkC4) 11 = _
  rw [schC4_25, schC4_20, schC4_12, schC4_11]; kernel_rfl
theorem schC4_28 : schedW (tb blkC4) 28 = 4037330242#32 := by
  rw [schedW_high (tb blkC4) (by omega)]
  show sig1 (schedW (tb blkC4) 26) + schedW (tb blkC4) 21 + sig0 (schedW (tb blkC4) 13) + schedW (tb blkC4) 12 = _
  rw [schC4_26, schC4_21, schC4_13, schC4_12]; kernel_rfl
theorem schC4_29 : schedW (tb blkC4) 29 = 3153584133#32 := by
  rw [schedW_high (tb blkC4) (by omega)]
  show sig1 (schedW (tb blkC4) 27) + schedW (tb blkC4) 22 + sig0 (schedW (tb blkC4) 14) + schedW (tb blkC4) 13 = _
  rw [schC4_27, schC4_22, schC4_14, schC4_13]; kernel_rfl
theorem schC4_30 : schedW (tb blkC4) 30 = 243467487#32 := by
  rw [schedW_high (tb blkC4) (by omega)]
  show sig1 (schedW (tb blkC4) 28) + schedW (tb blkC4) 23 + sig0 (schedW (tb blkC4) 15) + schedW (tb blkC4) 14 = _
  rw [schC4_28, schC4_23, schC4_15, schC4_14]; kernel_rfl
theorem schC4_31 : schedW (tb blkC4) 31 = 3783956123#32 := by
  rw [schedW_high (tb blkC4) (by omega)]
  show sig1 (schedW (tb blkC4) 29) + schedW (tb blkC4) 24 + sig0 (schedW (tb blkC4) 16) + schedW (tb blkC4) 15 = _
  rw [schC4_29, schC4_24, schC4_16, schC4_15]; kernel_rfl
theorem schC4_32 : schedW (tb blkC4) 32 = 1992089970#32 := by
  rw [schedW_high (tb blkC4) (by omega)]
  show sig1 (schedW (tb blkC4) 30) + schedW (tb blkC4) 25 + sig0 (schedW (tb blkC4) 17) + schedW (tb blkC4) 16 = _
  rw [schC4_30, schC4_25, schC4_17, schC4_16]; kernel_rfl
theorem schC4_33 : schedW (tb blkC4) 33 = 3057766438#32 := by
  rw [schedW_high (tb blkC4) (by omega)]
  show sig1 (schedW (tb blkC4) 31) + schedW (tb blkC4) 26 + sig0 (schedW (tb blkC4) 18) + schedW (tb blkC4) 17 = _
  rw [schC4_31, schC4_26, schC4_18, schC4_17]; kernel_rfl
theorem schC4_34 : schedW (tb blkC4) 34 = 3974895023#32 := by
  rw [schedW_high (tb blkC4) (by omega)]
  show sig1 (schedW (tb blkC4) 32) + schedW (tb blkC4) 27 + sig0 (schedW (tb blkC4) 19) + schedW (tb blkC4) 18 = _
  rw [schC4_32, schC4_27, schC4_19, schC4_18]; kernel_rfl
theorem schC4_35 : schedW (tb blkC4) 35 = 2851927396#32 := by
  rw [schedW_high (tb blkC4) (by omega)]
  show sig1 (schedW (tb blkC4) 33) + schedW (tb blkC4) 28 + sig0 (schedW (tb blkC4) 20) + schedW (tb blkC4) 19 = _
  rw [schC4_33, schC4_28, schC4_20, schC4_19]; kernel_rfl
theorem schC4_36 : schedW (tb blkC4) 36 = 308387861#32 := by
  rw [schedW_high (tb blkC4) (by omega)]
  show sig1 (schedW (tb blkC4) 34) + schedW (tb blkC4) 29 + sig0 (schedW (tb blkC4) 21) + schedW (tb blkC4) 20 = _
  rw [schC4_34, schC4_29, schC4_21, schC4_20]; kernel_rfl
theorem schC4_37 : schedW (tb blkC4) 37 = 4229582389#32 := by
  rw [schedW_high (tb blkC4) (by omega)]
  show sig1 (schedW (tb blkC4) 35) + schedW (tb blkC4) 30 + sig0 (schedW (tb blkC4) 22) + schedW (tb blkC4) 21 = _
  rw [schC4_35, schC4_30, schC4_22, schC4_21]; kernel_rfl
theorem schC4_38 : schedW (tb blkC4) 38 = 812117167#32 := by
  rw [schedW_high (tb blkC4) (by omega)]
  show sig1 (schedW (tb blkC4) 36) + schedW (tb blkC4) 31 + sig0 (schedW (tb blkC4) 23) + schedW (tb blkC4) 22 = _
  rw [schC4_36, schC4_31, schC4_23, schC4_22]; kernel_rfl
theorem schC4_39 : schedW (tb blkC4) 39 = 4056708709#32 := by
  rw [schedW_high (tb blkC4) (by omega)]
  show sig1 (schedW (tb blkC4) 37) + schedW (tb blkC4) 32 + sig0 (schedW (tb blkC4) 24) + schedW (tb blkC4) 23 = _
  rw [schC4_37, schC4_32, schC4_24, schC4_23]; kernel_rfl
theorem schC4_40 : schedW (tb blkC4) 40 = 3987968168#32 := by
  rw [schedW_high (tb blkC4) (by omega)]
  show sig1 (schedW (tb blkC4) 38) + schedW (tb blkC4) 33 + sig0 (schedW (tb blkC4) 25) + schedW (tb blkC4) 24 = _
  rw [schC4_38, schC4_33, schC4_25, schC4_24]; kernel_rfl
theorem schC4_41 : schedW (tb blkC4) 41 = 1171055774#32 := by
  rw [schedW_high (tb blkC4) (by omega)]
  show sig1 (schedW (tb blkC4) 39) + schedW (tb blkC4) 34 + sig0 (schedW (tb blkC4) 26) + schedW (tb blkC4) 25 = _
  rw [schC4_39, schC4_34, schC4_26, schC4_25]; kernel_rfl
theorem schC4_42 : schedW (tb blkC4) 42 = 1072110446#32 := by
  rw [schedW_high (tb blkC4) (by omega)]
  show sig1 (schedW (tb blkC4) 40) + schedW (tb blkC4) 35 + sig0 (schedW (tb blkC4) 27) + schedW (tb blkC4) 26 = _
  rw [schC4_40, schC4_35, schC4_27, schC4_26]; kernel_rfl
theorem schC4_43 : schedW (tb blkC4) 43 = 418039339#32 := by
  rw [schedW_high (tb blkC4) (by omega)]
  show sig1 (schedW (tb blkC4) 41) + schedW (tb blkC4) 36 + sig0 (schedW (tb blkC4) 28) + schedW (tb blkC4) 27 = _
  rw [schC4_41, schC4_36, schC4_28, schC4_27]; kernel_rfl
theorem schC4_44 : schedW (tb blkC4) 44 = 1067233917#32 := by
  rw [schedW_high (tb blkC4) (by omega)]
  show sig1 (schedW (tb blkC4) 42) + schedW (tb blkC4) 37 + sig0 (schedW (tb blkC4) 29) + schedW (tb blkC4) 28 = _
  rw [schC4_42, schC4_37, schC4_29, schC4_28]; kernel_rfl
theorem schC4_45 : schedW (tb blkC4) 45 = 2805024703#32 := by
  rw [schedW_high (tb blkC4) (by omega)]
  show sig1 (schedW (tb blkC4) 43) + schedW (tb blkC4) 38 + sig0 (schedW (tb blkC4) 30) + schedW (tb blkC4) 29 = _
  rw [schC4_43, schC4_38, schC4_30, schC4_29]; kernel_rfl
theorem schC4_46 : schedW (tb blkC4) 46 = 1579358705#32 := by
  rw [schedW_high (tb blkC4) (by omega)]
  show sig1 (schedW (tb blkC4) 44) + schedW (tb blkC4) 39 + sig0 (schedW (tb blkC4) 31) + schedW (tb blkC4) 30 = _
  rw [schC4_44, schC4_39, schC4_31, schC4_30]; kernel_rfl
theorem schC4_47 : schedW (tb blkC4) 47 = 749111989#32 := by
  rw [schedW_high (tb blkC4) (by omega)]
  show sig1 (schedW (tb blkC4) 45) + schedW (tb blkC4) 40 + sig0 (schedW (tb blkC4) 32) + schedW (tb blkC4) 31 = _
  rw [schC4_45, schC4_40, schC4_32, schC4_31]; kernel_rfl
theorem schC4_48 : schedW (tb blkC4) 48 = 3691505239#32 := by
  rw [schedW_high (tb blkC4) (by omega)]
  show sig1 (schedW (tb blkC4) 46) + schedW (tb blkC4) 41 + sig0 (schedW (tb blkC4) 33) + schedW (tb blkC4) 32 = _
  rw [schC4_46, schC4_41, schC4_33, schC4_32]; kernel_rfl
theorem schC4_49 : schedW (tb blkC4) 49 = 3512706974#32 := by
  rw [schedW_high (tb blkC4) (by omega)]
  show sig1 (schedW (tb blkC4) 47) + schedW (tb blkC4) 42 + sig0 (schedW (tb blkC4) 34) + schedW (tb blkC4) 33 = _
  rw [schC4_47, schC4_42, schC4_34, schC4_33]; kernel_rfl
theorem schC4_50 : schedW (tb blkC4) 50 = 4142022029#32 := by
  rw [schedW_high (tb blkC4) (by omega)]
  show sig1 (schedW (tb blkC4) 48) + schedW (tb blkC4) 43 + sig0 (schedW (tb blkC4) 35) + schedW (tb blkC4) 34 = _
  rw [schC4_48, schC4_43, schC4_35, schC4_34]; kernel_rfl
theorem schC4_51 : schedW (tb blkC4) 51 = 1360019752#32 := by
  rw [schedW_high (tb blkC4) (by omega)]
  show sig1 (schedW (tb blkC4) 49) + schedW (tb blkC4) 44 + sig0 (schedW (tb blkC4) 36) + schedW (tb blkC4) 35 = _
  rw [schC4_49, schC4_44, schC4_36, schC4_35]; kernel_rfl
theorem schC4_52 : schedW (tb blkC4) 52 = 4208191314#32 := by
  rw [schedW_high (tb blkC4) (by omega)]
  show sig1 (schedW (tb blkC4) 50) + schedW (tb blkC4) 45 + sig0 (schedW (tb blkC4) 37) + schedW (tb blkC4) 36 = _
  rw [schC4_50, schC4_45, schC4_37, schC4_36]; kernel_rfl
theorem schC4_53 : schedW (tb blkC4) 53 = 640339253#32 := by
  rw [schedW_high (tb blkC4) (by omega)]
  show sig1 (schedW (tb blkC4) 51) + schedW (tb blkC4) 46 + sig0 (schedW (tb blkC4) 38) + schedW (tb blkC4) 37 = _
  rw [schC4_51, schC4_46, schC4_38, schC4_37]; kernel_rfl
theorem schC4_54 : schedW (tb blkC4) 54 = 3033495681#32 := by
  rw [schedW_high (tb blkC4) (by omega)]
  show sig1 (schedW (tb blkC4) 52) + schedW (tb blkC4) 47 + sig0 (schedW (tb blkC4) 39) + schedW (tb blkC4) 38 = _
  rw [schC4_52, schC4_47, schC4_39, schC4_38]; kernel_rfl
theorem schC4_55 : schedW (tb blkC4) 55 = 3042003063#32 := by
  rw [schedW_high (tb blkC4) (by omega)]
  show sig1 (schedW (tb blkC4) 53) + schedW (tb blkC4) 48 + sig0 (schedW (tb blkC4) 40) + schedW (tb blkC4) 39 = _
  rw [schC4_53, schC4_48, schC4_40, schC4_39]; kernel_rfl
theorem schC4_56 : schedW (tb blkC4) 56 = 531016591#32 := by
  rw [schedW_high (tb blkC4) (by omega)]
  show sig1 (schedW (tb blkC4) 54) + schedW (tb blkC4) 49 + sig0 (schedW (tb blkC4) 41) + schedW (tb blkC4) 40 = _
  rw [schC4_54, schC4_49, schC4_41, schC4_40]; kernel_rfl
theorem schC4_57 : schedW (tb blkC4) 57 = 3877649693#32 := by
  rw [schedW_high (tb blkC4) (by omega)]
  show sig1 (schedW (tb blkC4) 55) + schedW (tb blkC4) 50 + sig0 (schedW (tb blkC4) 42) + schedW (tb blkC4) 41 = _
  rw [schC4_55, schC4_50, schC4_42, schC4_41]; kernel_rfl
theorem schC4_58 : schedW (tb blkC4) 58 = 4132384150#32 := by
  rw [schedW_high (tb blkC4) (by omega)]
  show sig1 (schedW (tb blkC4) 56) + schedW (tb blkC4) 51 + sig0 (schedW (tb blkC4) 43) + schedW (tb blkC4) 42 = _
  rw [schC4_56, schC4_51, schC4_43, schC4_42]; kernel_rfl
theorem schC4_59 : schedW (tb blkC4) 59 = 4259780036#32 := by
  rw [schedW_high (tb blkC4) (by omega)]
  show sig1 (schedW (tb blkC4) 57) + schedW (tb blkC4) 52 + sig0 (schedW (tb blkC4) 44) + schedW (tb blkC4) 43 = _
  rw [schC4_57, schC4_52, schC4_44, schC4_43]; kernel_rfl
theorem schC4_60 : schedW (tb blkC4) 60 = 324229515#32 := by
  rw [schedW_high (tb blkC4) (by omega)]
  show sig1 (schedW (tb blkC4) 58) + schedW (tb blkC4) 53 + sig0 (schedW (tb blkC4) 45) + schedW (tb blkC4) 44 = _
  rw [schC4_58, schC4_53, schC4_45, schC4_44]; kernel_rfl
theorem schC4_61 : schedW (tb blkC4) 61 = 4083862351#32 := by
  rw [schedW_high (tb blkC4) (by omega)]
  show sig1 (schedW (tb blkC4) 59) + schedW (tb blkC4) 54 + sig0 (schedW (tb blkC4) 46) + schedW (tb blkC4) 45 = _
  rw [schC4_59, schC4_54, schC4_46, schC4_45]; kernel_rfl
theorem schC4_62 : schedW (tb blkC4) 62 = 2831513831#32 := by
  rw [schedW_high (tb blkC4) (by omega)]
  show sig1 (schedW (tb blkC4) 60) + schedW (tb blkC4) 55 + sig0 (schedW (tb blkC4) 47) + schedW (tb blkC4) 46 = _
  rw [schC4_60, schC4_55, schC4_47, schC4_46]; kernel_rfl
theorem schC4_63 : schedW (tb blkC4) 63 = 3605862325#32 := by
  rw [schedW_high (tb blkC4) (by omega)]
  show sig1 (schedW (tb blkC4) 61) + schedW (tb blkC4) 56 + sig0 (schedW (tb blkC4) 48) + schedW (tb blkC4) 47 = _
  rw [schC4_61, schC4_56, schC4_48, schC4_47]; kernel_rfl
theorem stC4_0 : W8.steps kW (schedW (tb blkC4)) ⟨1656153849#32, 2995998298#32, 2566406339#32, 240638284#32, 2032468393#32, 3003492488#32, 4143809704#32, 2835966496#32⟩ 0 = ⟨1656153849#32, 2995998298#32, 2566406339#32, 240638284#32, 2032468393#32, 3003492488#32, 4143809704#32, 2835966496#32⟩ := rfl
theorem stC4_1 : W8.steps kW (schedW (tb blkC4)) ⟨1656153849#32, 2995998298#32, 2566406339#32, 240638284#32, 2032468393#32, 3003492488#32, 4143809704#32, 2835966496#32⟩ 1 = ⟨509544314#32, 1656153849#32, 2995998298#32, 2566406339#32, 3305590888#32, 2032468393#32, 3003492488#32, 4143809704#32⟩ := by
  show (W8.steps kW (schedW (tb blkC4)) ⟨1656153849#32, 2995998298#32, 2566406339#32, 240638284#32, 2032468393#32, 3003492488#32, 4143809704#32, 2835966496#32⟩ 0).step (kW 0) (schedW (tb blkC4) 0) = _
  rw [stC4_0, schC4_0]; kernel_rfl
theorem stC4_2 : W8.steps kW (schedW (tb blkC4)) ⟨1656153849#32, 2995998298#32, 2566406339#32, 240638284#32, 2032468393#32, 3003492488#32, 4143809704#32, 2835966496#32⟩ 2 = ⟨2028417301#32, 509544314#32, 1656153849#32, 2995998298#32, 518868991#32, 3305590888#32, 2032468393#32, 3003492488#32⟩ := by
  show (W8.steps kW (schedW (tb blkC4)) ⟨1656153849#32, 2995998298#32, 2566406339#32, 240638284#32, 2032468393#32, 3003492488#32, 4143809704#32, 2835966496#32⟩ 1).step (kW 1) (schedW (tb blkC4) 1) = _
  rw [stC4_1, schC4_1]; kernel_rfl
theorem stC4_3 : W8.steps kW (schedW (tb blkC4)) ⟨1656153849#32, 2995998298#32, 2566406339#32, 240638284#32, 2032468393#32, 3003492488#32, 4143809704#32, 2835966496#32⟩ 3 = ⟨4188421640#32, 2028417301#32, 509544314#32, 1656153849#32, 3874227786#32, 518868991#32, 3305590888#32, 2032468393#32⟩ := by
  show (W8.steps kW (schedW (tb blkC4)) ⟨1656153849#32, 2995998298#32, 2566406339#32, 240638284#32, 2032468393#32, 3003492488#32, 4143809704#32, 2835966496#32⟩ 2).step (kW 2) (schedW (tb blkC4) 2) = _
  rw [stC4_2, schC4_2]; kernel_rfl
theorem stC4_4 : W8.steps kW (schedW (tb blkC4)) ⟨1656153849#32, 2995998298#32, 2566406339#32, 240638284#32, 2032468393#32, 3003492488#32, 4143809704#32, 2835966496#32⟩ 4 = ⟨3258952518#32, 4188421640#32, 2028417301#32, 509544314#32, 1429797330#32, 3874227786#32, 518868991#32, 3305590888#32⟩ := by
  show (W8.steps kW (schedW (tb blkC4)) ⟨1656153849#32, 2995998298#32, 2566406339#32, 240638284#32, 2032468393#32, 3003492488#32, 4143809704#32, 2835966496#32⟩ 3).step (kW 3) (schedW (tb blkC4) 3) = _
  rw [stC4_3, schC4_3]; kernel_rfl
theorem stC4_5 : W8.steps kW (schedW (tb blkC4)) ⟨1656153849#32, 2995998298#32, 2566406339#32, 240638284#32, 2032468393#32, 3003492488#32, 4143809704#32, 2835966496#32⟩ 5 = ⟨283596808#32, 3258952518#32, 4188421640#32, 2028417301#32, 579486810#32, 1429797330#32, 3874227786#32, 518868991#32⟩ := by
  show (W8.steps kW (schedW (tb blkC4)) ⟨1656153849#32, 2995998298#32, 2566406339#32, 240638284#32, 2032468393#32, 3003492488#32, 4143809704#32, 2835966496#32⟩ 4).step (kW 4) (schedW (tb blkC4) 4) = _
  rw [stC4_4, schC4_4]; kernel_rfl
theorem stC4_6 : W8.steps kW (schedW (tb blkC4)) ⟨1656153849#32, 2995998298#32, 2566406339#32, 240638284#32, 2032468393#32, 3003492488#32, 4143809704#32, 2835966496#32⟩ 6 = ⟨3362386297#32, 283596808#32, 3258952518#32, 4188421640#32, 395343627#32, 579486810#32, 1429797330#32, 3874227786#32⟩ := by
  show (W8.steps kW (schedW (tb blkC4)) ⟨1656153849#32, 2995998298#32, 2566406339#32, 240638284#32, 2032468393#32, 3003492488#32, 4143809704#32, 2835966496#32⟩ 5).step (kW 5) (schedW (tb blkC4) 5) = _
  rw [stC4_5, schC4_5]; kernel_rfl
theorem stC4_7 : W8.steps kW (schedW (tb blkC4)) ⟨1656153849#32, 2995998298#32, 2566406339#32, 240638284#32, 2032468393#32, 3003492488#32, 4143809704#32, 2835966496#32⟩ 7 = ⟨775269048#32, 3362386297#32, 283596808#32, 3258952518#32, 156899144#32, 395343627#32, 579486810#32, 1429797330#32⟩ := by
  show (W8.steps kW (schedW (tb blkC4)) ⟨1656153849#32, 2995998298#32, 2566406339#32, 240638284#32, 2032468393#32, 3003492488#32, 4143809704#32, 2835966496#32⟩ 6).step (kW 6) (schedW (tb blkC4) 6) = _
  rw [stC4_6, schC4_6]; kernel_rfl
theorem stC4_8 : W8.steps kW (schedW (tb blkC4)) ⟨1656153849#32, 2995998298#32, 2566406339#32, 240638284#32, 2032468393#32, 3003492488#32, 4143809704#32, 2835966496#32⟩ 8 = ⟨2595986811#32, 775269048#32, 3362386297#32, 283596808#32, 3417199822#32, 156899144#32, 395343627#32, 579486810#32⟩ := by
  show (W8.steps kW (schedW (tb blkC4)) ⟨1656153849#32, 2995998298#32, 2566406339#32, 240638284#32, 2032468393#32, 3003492488#32, 4143809704#32, 2835966496#32⟩ 7).step (kW 7) (schedW (tb blkC4) 7) = _
  rw [stC4_7, schC4_7]; kernel_rfl
theorem stC4_9 : W8.steps kW (schedW (tb blkC4)) ⟨1656153849#32, 2995998298#32, 2566406339#32, 240638284#32, 2032468393#32, 3003492488#32, 4143809704#32, 2835966496#32⟩ 9 = ⟨2060150936#32, 2595986811#32, 775269048#32, 3362386297#32, 510732863#32, 3417199822#32, 156899144#32, 395343627#32⟩ := by
  show (W8.steps kW (schedW (tb blkC4)) ⟨1656153849#32, 2995998298#32, 2566406339#32, 240638284#32, 2032468393#32, 3003492488#32, 4143809704#32, 2835966496#32⟩ 8).step (kW 8) (schedW (tb blkC4) 8) = _
  rw [stC4_8, schC4_8]; kernel_rfl
theorem stC4_10 : W8.steps kW (schedW (tb blkC4)) ⟨1656153849#32, 2995998298#32, 2566406339#32, 240638284#32, 2032468393#32, 3003492488#32, 4143809704#32, 2835966496#32⟩ 10 = ⟨1792807594#32, 2060150936#32, 2595986811#32, 775269048#32, 2159472085#32, 510732863#32, 3417199822#32, 156899144#32⟩ := by
  show (W8.steps kW (schedW (tb blkC4)) ⟨1656153849#32, 2995998298#32, 2566406339#32, 240638284#32, 2032468393#32, 3003492488#32, 4143809704#32, 2835966496#32⟩ 9).step (kW 9) (schedW (tb blkC4) 9) = _
  rw [stC4_9, schC4_9]; kernel_rfl
theorem stC4_11 : W8.steps kW (schedW (tb blkC4)) ⟨1656153849#32, 2995998298#32, 2566406339#32, 240638284#32, 2032468393#32, 3003492488#32, 4143809704#32, 2835966496#32⟩ 11 = ⟨722604394#32, 1792807594#32, 2060150936#32, 2595986811#32, 1589487495#32, 2159472085#32, 510732863#32, 3417199822#32⟩ := by
  show (W8.steps kW (schedW (tb blkC4)) ⟨1656153849#32, 2995998298#32, 2566406339#32, 240638284#32, 2032468393#32, 3003492488#32, 4143809704#32, 2835966496#32⟩ 10).step (kW 10) (schedW (tb blkC4) 10) = _
  rw [stC4_10, schC4_10]; kernel_rfl
theorem stC4_12 : W8.steps kW (schedW (tb blkC4)) ⟨1656153849#32, 2995998298#32, 2566406339#32, 240638284#32, 2032468393#32, 3003492488#32, 4143809704#32, 2835966496#32⟩ 12 = ⟨2308761571#32, 722604394#32, 1792807594#32, 2060150936#32, 1873674318#32, 1589487495#32, 2159472085#32, 510732863#32⟩ := by
  show (W8.steps kW (schedW (tb blkC4)) ⟨1656153849#32, 2995998298#32, 2566406339#32, 240638284#32, 2032468393#32, 3003492488#32, 4143809704#32, 2835966496#32⟩ 11).step (kW 11) (schedW (tb blkC4) 11) = _
  rw [stC4_11, schC4_11]; kernel_rfl
theorem stC4_13 : W8.steps kW (schedW (tb blkC4)) ⟨1656153849#32, 2995998298#32, 2566406339#32, 240638284#32, 2032468393#32, 3003492488#32, 4143809704#32, 2835966496#32⟩ 13 = ⟨568389475#32, 2308761571#32, 722604394#32, 1792807594#32, 3257616600#32, 1873674318#32, 1589487495#32, 2159472085#32⟩ := by
  show (W8.steps kW (schedW (tb blkC4)) ⟨1656153849#32, 2995998298#32, 2566406339#32, 240638284#32, 2032468393#32, 3003492488#32, 4143809704#32, 2835966496#32⟩ 12).step (kW 12) (schedW (tb blkC4) 12) = _
  rw [stC4_12, schC4_12]; kernel_rfl
theorem stC4_14 : W8.steps kW (schedW (tb blkC4)) ⟨1656153849#32, 2995998298#32, 2566406339#32, 240638284#32, 2032468393#32, 3003492488#32, 4143809704#32, 2835966496#32⟩ 14 = ⟨678849288#32, 568389475#32, 2308761571#32, 722604394#32, 954523127#32, 3257616600#32, 1873674318#32, 1589487495#32⟩ := by
  show (W8.steps kW (schedW (tb blkC4)) ⟨1656153849#32, 2995998298#32, 2566406339#32, 240638284#32, 2032468393#32, 3003492488#32, 4143809704#32, 2835966496#32⟩ 13).step (kW 13) (schedW (tb blkC4) 13) = _
  rw [stC4_13, schC4_13]; kernel_rfl
theorem stC4_15 : W8.steps kW (schedW (tb blkC4)) ⟨1656153849#32, 2995998298#32, 2566406339#32, 240638284#32, 2032468393#32, 3003492488#32, 4143809704#32, 2835966496#32⟩ 15 = ⟨135550121#32, 678849288#32, 568389475#32, 2308761571#32, 2101378272#32, 954523127#32, 3257616600#32, 1873674318#32⟩ := by
  show (W8.steps kW (schedW (tb blkC4)) ⟨1656153849#32, 2995998298#32, 2566406339#32, 240638284#32, 2032468393#32, 3003492488#32, 4143809704#32, 2835966496#32⟩ 14).step (kW 14) (schedW (tb blkC4) 14) = _
  rw [stC4_14, schC4_14]; kernel_rfl
theorem stC4_16 : W8.steps kW (schedW (tb blkC4)) ⟨1656153849#32, 2995998298#32, 2566406339#32, 240638284#32, 2032468393#32, 3003492488#32, 4143809704#32, 2835966496#32⟩ 16 = ⟨2282654797#32, 135550121#32, 678849288#32, 568389475#32, 857150303#32, 2101378272#32, 954523127#32, 3257616600#32⟩ := by
  show (W8.steps kW (schedW (tb blkC4)) ⟨1656153849#32, 2995998298#32, 2566406339#32, 240638284#32, 2032468393#32, 3003492488#32, 4143809704#32, 2835966496#32⟩ 15).step (kW 15) (schedW (tb blkC4) 15) = _
  rw [stC4_15, schC4_15]; kernel_rfl
theorem stC4_17 : W8.steps kW (schedW (tb blkC4)) ⟨1656153849#32, 2995998298#32, 2566406339#32, 240638284#32, 2032468393#32, 3003492488#32, 4143809704#32, 2835966496#32⟩ 17 = ⟨2154801105#32, 2282654797#32, 135550121#32, 678849288#32, 1608218084#32, 857150303#32, 2101378272#32, 954523127#32⟩ := by
  show (W8.steps kW (schedW (tb blkC4)) ⟨1656153849#32, 2995998298#32, 2566406339#32, 240638284#32, 2032468393#32, 3003492488#32, 4143809704#32, 2835966496#32⟩ 16).step (kW 16) (schedW (tb blkC4) 16) = _
  rw [stC4_16, schC4_16]; kernel_rfl
theorem stC4_18 : W8.steps kW (schedW (tb blkC4)) ⟨1656153849#32, 2995998298#32, 2566406339#32, 240638284#32, 2032468393#32, 3003492488#32, 4143809704#32, 2835966496#32⟩ 18 = ⟨1675553250#32, 2154801105#32, 2282654797#32, 135550121#32, 608052121#32, 1608218084#32, 857150303#32, 2101378272#32⟩ := by
  show (W8.steps kW (schedW (tb blkC4)) ⟨1656153849#32, 2995998298#32, 2566406339#32, 240638284#32, 2032468393#32, 3003492488#32, 4143809704#32, 2835966496#32⟩ 17).step (kW 17) (schedW (tb blkC4) 17) = _
  rw [stC4_17, schC4_17]; kernel_rfl
theorem stC4_19 : W8.steps kW (schedW (tb blkC4)) ⟨1656153849#32, 2995998298#32, 2566406339#32, 240638284#32, 2032468393#32, 3003492488#32, 4143809704#32, 2835966496#32⟩ 19 = ⟨3174798350#32, 1675553250#32, 2154801105#32, 2282654797#32, 2562592246#32, 608052121#32, 1608218084#32, 857150303#32⟩ := by
  show (W8.steps kW (schedW (tb blkC4)) ⟨1656153849#32, 2995998298#32, 2566406339#32, 240638284#32, 2032468393#32, 3003492488#32, 4143809704#32, 2835966496#32⟩ 18).step (kW 18) (schedW (tb blkC4) 18) = _
  rw [stC4_18, schC4_18]; kernel_rfl
theorem stC4_20 : W8.steps kW (schedW (tb blkC4)) ⟨1656153849#32, 2995998298#32, 2566406339#32, 240638284#32, 2032468393#32, 3003492488#32, 4143809704#32, 2835966496#32⟩ 20 = ⟨878499844#32, 3174798350#32, 1675553250#32, 2154801105#32, 964724836#32, 2562592246#32, 608052121#32, 1608218084#32⟩ := by
  show (W8.steps kW (schedW (tb blkC4)) ⟨1656153849#32, 2995998298#32, 2566406339#32, 240638284#32, 2032468393#32, 3003492488#32, 4143809704#32, 2835966496#32⟩ 19).step (kW 19) (schedW (tb blkC4) 19) = _
  rw [stC4_19, schC4_19]; kernel_rfl
theorem stC4_21 : W8.steps kW (schedW (tb blkC4)) ⟨1656153849#32, 2995998298#32, 2566406339#32, 240638284#32, 2032468393#32, 3003492488#32, 4143809704#32, 2835966496#32⟩ 21 = ⟨2862176318#32, 878499844#32, 3174798350#32, 1675553250#32, 928228307#32, 964724836#32, 2562592246#32, 608052121#32⟩ := by
  show (W8.steps kW (schedW (tb blkC4)) ⟨1656153849#32, 2995998298#32, 2566406339#32, 240638284#32, 2032468393#32, 3003492488#32, 4143809704#32, 2835966496#32⟩ 20).step (kW 20) (schedW (tb blkC4) 20) = _
  rw [stC4_20, schC4_20]; kernel_rfl
theorem stC4_22 : W8.steps kW (schedW (tb blkC4)) ⟨1656153849#32, 2995998298#32, 2566406339#32, 240638284#32, 2032468393#32, 3003492488#32, 4143809704#32, 2835966496#32⟩ 22 = ⟨2298215960#32, 2862176318#32, 878499844#32, 3174798350#32, 579671933#32, 928228307#32, 964724836#32, 2562592246#32⟩ := by
  show (W8.steps kW (schedW (tb blkC4)) ⟨1656153849#32, 2995998298#32, 2566406339#32, 240638284#32, 2032468393#32, 3003492488#32, 4143809704#32, 2835966496#32⟩ 21).step (kW 21) (schedW (tb blkC4) 21) = _
  rw [stC4_21, schC4_21]; kernel_rfl
theorem stC4_23 : W8.steps kW (schedW (tb blkC4)) ⟨1656153849#32, 2995998298#32, 2566406339#32, 240638284#32, 2032468393#32, 3003492488#32, 4143809704#32, 2835966496#32⟩ 23 = ⟨1672303230#32, 2298215960#32, 2862176318#32, 878499844#32, 990655478#32, 579671933#32, 928228307#32, 964724836#32⟩ := by
  show (W8.steps kW (schedW (tb blkC4)) ⟨1656153849#32, 2995998298#32, 2566406339#32, 240638284#32, 2032468393#32, 3003492488#32, 4143809704#32, 2835966496#32⟩ 22).step (kW 22) (schedW (tb blkC4) 22) = _
  rw [stC4_22, schC4_22]; kernel_rfl
theorem stC4_24 : W8.steps kW (schedW (tb blkC4)) ⟨1656153849#32, 2995998298#32, 2566406339#32, 240638284#32, 2032468393#32, 3003492488#32, 4143809704#32, 2835966496#32⟩ 24 = ⟨1940213442#32, 1672303230#32, 2298215960#32, 2862176318#32, 1056381965#32, 990655478#32, 579671933#32, 928228307#32⟩ := by
  show (W8.steps kW (schedW (tb blkC4)) ⟨1656153849#32, 2995998298#32, 2566406339#32, 240638284#32, 2032468393#32, 3003492488#32, 4143809704#32, 2835966496#32⟩ 23).step (kW 23) (schedW (tb blkC4) 23) = _
  rw [stC4_23, schC4_23]; kernel_rfl
theorem stC4_25 : W8.steps kW (schedW (tb blkC4)) ⟨1656153849#32, 2995998298#32, 2566406339#32, 240638284#32, 2032468393#32, 3003492488#32, 4143809704#32, 2835966496#32⟩ 25 = ⟨744303639#32, 1940213442#32, 1672303230#32, 2298215960#32, 4085735079#32, 1056381965#32, 990655478#32, 579671933#32⟩ := by
  show (W8.steps kW (schedW (tb blkC4)) ⟨1656153849#32, 2995998298#32, 2566406339#32, 240638284#32, 2032468393#32, 3003492488#32, 4143809704#32, 2835966496#32⟩ 24).step (kW 24) (schedW (tb blkC4) 24) = _
  rw [stC4_24, schC4_24]; kernel_rfl
theorem stC4_26 : W8.steps kW (schedW (tb blkC4)) ⟨1656153849#32, 2995998298#32, 2566406339#32, 240638284#32, 2032468393#32, 3003492488#32, 4143809704#32, 2835966496#32⟩ 26 = ⟨4173692717#32, 744303639#32, 1940213442#32, 1672303230#32, 1056291218#32, 4085735079#32, 1056381965#32, 990655478#32⟩ := by
  show (W8.steps kW (schedW (tb blkC4)) ⟨1656153849#32, 2995998298#32, 2566406339#32, 240638284#32, 2032468393#32, 3003492488#32, 4143809704#32, 2835966496#32⟩ 25).step (kW 25) (schedW (tb blkC4) 25) = _
  rw [stC4_25, schC4_25]; kernel_rfl
theorem stC4_27 : W8.steps kW (schedW (tb blkC4)) ⟨1656153849#32, 2995998298#32, 2566406339#32, 240638284#32, 2032468393#32, 3003492488#32, 4143809704#32, 2835966496#32⟩ 27 = ⟨1144864662#32, 4173692717#32, 744303639#32, 1940213442#32, 2625828362#32, 1056291218#32, 4085735079#32, 1056381965#32⟩ := by
  show (W8.steps kW (schedW (tb blkC4)) ⟨1656153849#32, 2995998298#32, 2566406339#32, 240638284#32, 2032468393#32, 3003492488#32, 4143809704#32, 2835966496#32⟩ 26).step (kW 26) (schedW (tb blkC4) 26) = _
  rw [stC4_26, schC4_26]; kernel_rfl
theorem stC4_28 : W8.steps kW (schedW (tb blkC4)) ⟨1656153849#32, 2995998298#32, 2566406339#32, 240638284#32, 2032468393#32, 3003492488#32, 4143809704#32, 2835966496#32⟩ 28 = ⟨2598865179#32, 1144864662#32, 4173692717#32, 744303639#32, 149709226#32, 2625828362#32, 1056291218#32, 4085735079#32⟩ := by
  show (W8.steps kW (schedW (tb blkC4)) ⟨1656153849#32, 2995998298#32, 2566406339#32, 240638284#32, 2032468393#32, 3003492488#32, 4143809704#32, 2835966496#32⟩ 27).step (kW 27) (schedW (tb blkC4) 27) = _
  rw [stC4_27, schC4_27]; kernel_rfl
theorem stC4_29 : W8.steps kW (schedW (tb blkC4)) ⟨1656153849#32, 2995998298#32, 2566406339#32, 240638284#32, 2032468393#32, 3003492488#32, 4143809704#32, 2835966496#32⟩ 29 = ⟨3726064436#32, 2598865179#32, 1144864662#32, 4173692717#32, 21875995#32, 149709226#32, 2625828362#32, 1056291218#32⟩ := by
  show (W8.steps kW (schedW (tb blkC4)) ⟨1656153849#32, 2995998298#32, 2566406339#32, 240638284#32, 2032468393#32, 3003492488#32, 4143809704#32, 2835966496#32⟩ 28).step (kW 28) (schedW (tb blkC4) 28) = _
  rw [stC4_28, schC4_28]; kernel_rfl
theorem stC4_30 : W8.steps kW (schedW (tb blkC4)) ⟨1656153849#32, 2995998298#32, 2566406339#32, 240638284#32, 2032468393#32, 3003492488#32, 4143809704#32, 2835966496#32⟩ 30 = ⟨1743673623#32, 3726064436#32, 2598865179#32, 1144864662#32, 3484200994#32, 21875995#32, 149709226#32, 2625828362#32⟩ := by
  show (W8.steps kW (schedW (tb blkC4)) ⟨1656153849#32, 2995998298#32, 2566406339#32, 240638284#32, 2032468393#32, 3003492488#32, 4143809704#32, 2835966496#32⟩ 29).step (kW 29) (schedW (tb blkC4) 29) = _
  rw [stC4_29, schC4_29]; kernel_rfl
theorem stC4_31 : W8.steps kW (schedW (tb blkC4)) ⟨1656153849#32, 2995998298#32, 2566406339#32, 240638284#32, 2032468393#32, 3003492488#32, 4143809704#32, 2835966496#32⟩ 31 = ⟨2473100212#32, 1743673623#32, 3726064436#32, 2598865179#32, 1352250763#32, 3484200994#32, 21875995#32, 149709226#32⟩ := by
  show (W8.steps kW (schedW (tb blkC4)) ⟨1656153849#32, 2995998298#32, 2566406339#32, 240638284#32, 2032468393#32, 3003492488#32, 4143809704#32, 2835966496#32⟩ 30).step (kW 30) (schedW (tb blkC4) 30) = _
  rw [stC4_30, schC4_30]; kernel_rfl
theorem stC4_32 : W8.steps kW (schedW (tb blkC4)) ⟨1656153849#32, 2995998298#32, 2566406339#32, 240638284#32, 2032468393#32, 3003492488#32, 4143809704#32, 2835966496#32⟩ 32 = ⟨2218675998#32, 2473100212#32, 1743673623#32, 3726064436#32, 2890355489#32, 1352250763#32, 3484200994#32, 21875995#32⟩ := by
  show (W8.steps kW (schedW (tb blkC4)) ⟨1656153849#32, 2995998298#32, 2566406339#32, 240638284#32, 2032468393#32, 3003492488#32, 4143809704#32, 2835966496#32⟩ 31).step (kW 31) (schedW (tb blkC4) 31) = _
  rw [stC4_31, schC4_31]; kernel_rfl
theorem stC4_33 : W8.steps kW (schedW (tb blkC4)) ⟨1656153849#32, 2995998298#32, 2566406339#32, 240638284#32, 2032468393#32, 3003492488#32, 4143809704#32, 2835966496#32⟩ 33 = ⟨1288602304#32, 2218675998#32, 2473100212#32, 1743673623#32, 2192550585#32, 2890355489#32, 1352250763#32, 3484200994#32⟩ := by
  show (W8.steps kW (schedW (tb blkC4)) ⟨1656153849#32, 2995998298#32, 2566406339#32, 240638284#32, 2032468393#32, 3003492488#32, 4143809704#32, 2835966496#32⟩ 32).step (kW 32) (schedW (tb blkC4) 32) = _
  rw [stC4_32, schC4_32]; kernel_rfl
theorem stC4_34 : W8.steps kW (schedW (tb blkC4)) ⟨1656153849#32, 2995998298#32, 2566406339#32, 240638284#32, 2032468393#32, 3003492488#32, 4143809704#32, 2835966496#32⟩ 34 = ⟨783924172#32, 1288602304#32, 2218675998#32, 2473100212#32, 3539913048#32, 2192550585#32, 2890355489#32, 1352250763#32⟩ := by
  show (W8.steps kW (schedW (tb blkC4)) ⟨1656153849#32, 2995998298#32, 2566406339#32, 240638284#32, 2032468393#32, 3003492488#32, 4143809704#32, 2835966496#32⟩ 33).step (kW 33) (schedW (tb blkC4) 33) = _
  rw [stC4_33, schC4_33]; kernel_rfl
theorem stC4_35 : W8.steps kW (schedW (tb blkC4)) ⟨1656153849#32, 2995998298#32, 2566406339#32, 240638284#32, 2032468393#32, 3003492488#32, 4143809704#32, 2835966496#32⟩ 35 = ⟨2960495444#32, 783924172#32, 1288602304#32, 2218675998#32, 67067832#32, 3539913048#32, 2192550585#32, 2890355489#32⟩ := by
  show (W8.steps kW (schedW (tb blkC4)) ⟨1656153849#32, 2995998298#32, 2566406339#32, 240638284#32, 2032468393#32, 3003492488#32, 4143809704#32, 2835966496#32⟩ 34).step (kW 34) (schedW (tb blkC4) 34) = _
  rw [stC4_34, schC4_34]; kernel_rfl
theorem stC4_36 : W8.steps kW (schedW (tb blkC4)) ⟨1656153849#32, 2995998298#32, 2566406339#32, 240638284#32, 2032468393#32, 3003492488#32, 4143809704#32, 2835966496#32⟩ 36 = ⟨2735662785#32, 2960495444#32, 783924172#32, 1288602304#32, 2572807267#32, 67067832#32, 3539913048#32, 2192550585#32⟩ := by
  show (W8.steps kW (schedW (tb blkC4)) ⟨1656153849#32, 2995998298#32, 2566406339#32, 240638284#32, 2032468393#32, 3003492488#32, 4143809704#32, 2835966496#32⟩ 35).step (kW 35) (schedW (tb blkC4) 35) = _
  rw [stC4_35, schC4_35]; kernel_rfl
theorem stC4_37 : W8.steps kW (schedW (tb blkC4)) ⟨1656153849#32, 2995998298#32, 2566406339#32, 240638284#32, 2032468393#32, 3003492488#32, 4143809704#32, 2835966496#32⟩ 37 = ⟨4103005097#32, 2735662785#32, 2960495444#32, 783924172#32, 969542490#32, 2572807267#32, 67067832#32, 3539913048#32⟩ := by
  show (W8.steps kW (schedW (tb blkC4)) ⟨1656153849#32, 2995998298#32, 2566406339#32, 240638284#32, 2032468393#32, 3003492488#32, 4143809704#32, 2835966496#32⟩ 36).step (kW 36) (schedW (tb blkC4) 36) = _
  rw [stC4_36, schC4_36]; kernel_rfl
theorem stC4_38 : W8.steps kW (schedW (tb blkC4)) ⟨1656153849#32, 2995998298#32, 2566406339#32, 240638284#32, 2032468393#32, 3003492488#32, 4143809704#32, 2835966496#32⟩ 38 = ⟨1402460842#32, 4103005097#32, 2735662785#32, 2960495444#32, 1986000742#32, 969542490#32, 2572807267#32, 67067832#32⟩ := by
  show (W8.steps kW (schedW (tb blkC4)) ⟨1656153849#32, 2995998298#32, 2566406339#32, 240638284#32, 2032468393#32, 3003492488#32, 4143809704#32, 2835966496#32⟩ 37).step (kW 37) (schedW (tb blkC4) 37) = _
  rw [stC4_37, schC4_37]; kernel_rfl
theorem stC4_39 : W8.steps kW (schedW (tb blkC4)) ⟨1656153849#32, 2995998298#32, 2566406339#32, 240638284#32, 2032468393#32, 3003492488#32, 4143809704#32, 2835966496#32⟩ 39 = ⟨3704409587#32, 1402460842#32, 4103005097#32, 2735662785#32, 2060827460#32, 1986000742#32, 969542490#32, 2572807267#32⟩ := by
  show (W8.steps kW (schedW (tb blkC4)) ⟨1656153849#32, 2995998298#32, 2566406339#32, 240638284#32, 2032468393#32, 3003492488#32, 4143809704#32, 2835966496#32⟩ 38).step (kW 38) (schedW (tb blkC4) 38) = _
  rw [stC4_38, schC4_38]; kernel_rfl
theorem stC4_40 : W8.steps kW (schedW (tb blkC4)) ⟨1656153849#32, 2995998298#32, 2566406339#32, 240638284#32, 2032468393#32, 3003492488#32, 4143809704#32, 2835966496#32⟩ 40 = ⟨618321702#32, 3704409587#32, 1402460842#32, 4103005097#32, 1203820499#32, 2060827460#32, 1986000742#32, 969542490#32⟩ := by
  show (W8.steps kW (schedW (tb blkC4)) ⟨1656153849#32, 2995998298#32, 2566406339#32, 240638284#32, 2032468393#32, 3003492488#32, 4143809704#32, 2835966496#32⟩ 39).step (kW 39) (schedW (tb blkC4) 39) = _
  rw [stC4_39, schC4_39]; kernel_rfl
theorem stC4_41 : W8.steps kW (schedW (tb blkC4)) ⟨1656153849#32, 2995998298#32, 2566406339#32, 240638284#32, 2032468393#32, 3003492488#32, 4143809704#32, 2835966496#32⟩ 41 = ⟨1148401179#32, 618321702#32, 3704409587#32, 1402460842#32, 2294820502#32, 1203820499#32, 2060827460#32, 1986000742#32⟩ := by
  show (W8.steps kW (schedW (tb blkC4)) ⟨1656153849#32, 2995998298#32, 2566406339#32, 240638284#32, 2032468393#32, 3003492488#32, 4143809704#32, 2835966496#32⟩ 40).step (kW 40) (schedW (tb blkC4) 40) = _
  rw [stC4_40, schC4_40]; kernel_rfl
theorem stC4_42 : W8.steps kW (schedW (tb blkC4)) ⟨1656153849#32, 2995998298#32, 2566406339#32, 240638284#32, 2032468393#32, 3003492488#32, 4143809704#32, 2835966496#32⟩ 42 = ⟨3053168477#32, 1148401179#32, 618321702#32, 3704409587#32, 395978694#32, 2294820502#32, 1203820499#32, 2060827460#32⟩ := by
  show (W8.steps kW (schedW (tb blkC4)) ⟨1656153849#32, 2995998298#32, 2566406339#32, 240638284#32, 2032468393#32, 3003492488#32, 4143809704#32, 2835966496#32⟩ 41).step (kW 41) (schedW (tb blkC4) 41) = _
  rw [stC4_41, schC4_41]; kernel_rfl
theorem stC4_43 : W8.steps kW (schedW (tb blkC4)) ⟨1656153849#32, 2995998298#32, 2566406339#32, 240638284#32, 2032468393#32, 3003492488#32, 4143809704#32, 2835966496#32⟩ 43 = ⟨3379214725#32, 3053168477#32, 1148401179#32, 618321702#32, 3358433148#32, 395978694#32, 2294820502#32, 1203820499#32⟩ := by
  show (W8.steps kW (schedW (tb blkC4)) ⟨1656153849#32, 2995998298#32, 2566406339#32, 240638284#32, 2032468393#32, 3003492488#32, 4143809704#32, 2835966496#32⟩ 42).step (kW 42) (schedW (tb blkC4) 42) = _
  rw [stC4_42, schC4_42]; kernel_rfl
theorem stC4_44 : W8.steps kW (schedW (tb blkC4)) ⟨1656153849#32, 2995998298#32, 2566406339#32, 240638284#32, 2032468393#32, 3003492488#32, 4143809704#32, 2835966496#32⟩ 44 = ⟨224710207#32, 3379214725#32, 3053168477#32, 1148401179#32, 1479605303#32, 3358433148#32, 395978694#32, 2294820502#32⟩ := by
  show (W8.steps kW (schedW (tb blkC4)) ⟨1656153849#32, 2995998298#32, 2566406339#32, 240638284#32, 2032468393#32, 3003492488#32, 4143809704#32, 2835966496#32⟩ 43).step (kW 43) (schedW (tb blkC4) 43) = _
  rw [stC4_43, schC4_43]; kernel_rfl
theorem stC4_45 : W8.steps kW (schedW (tb blkC4)) ⟨1656153849#32, 2995998298#32, 2566406339#32, 240638284#32, 2032468393#32, 3003492488#32, 4143809704#32, 2835966496#32⟩ 45 = ⟨3701250844#32, 224710207#32, 3379214725#32, 3053168477#32, 1913355646#32, 1479605303#32, 3358433148#32, 395978694#32⟩ := by
  show (W8.steps kW (schedW (tb blkC4)) ⟨1656153849#32, 2995998298#32, 2566406339#32, 240638284#32, 2032468393#32, 3003492488#32, 4143809704#32, 2835966496#32⟩ 44).step (kW 44) (schedW (tb blkC4) 44) = _
  rw [stC4_44, schC4_44]; kernel_rfl
theorem stC4_46 : W8.steps kW (schedW (tb blkC4)) ⟨1656153849#32, 2995998298#32, 2566406339#32, 240638284#32, 2032468393#32, 3003492488#32, 4143809704#32, 2835966496#32⟩ 46 = ⟨744264688#32, 3701250844#32, 224710207#32, 3379214725#32, 2000547551#32, 1913355646#32, 1479605303#32, 3358433148#32⟩ := by
  show (W8.steps kW (schedW (tb blkC4)) ⟨1656153849#32, 2995998298#32, 2566406339#32, 240638284#32, 2032468393#32, 3003492488#32, 4143809704#32, 2835966496#32⟩ 45).step (kW 45) (schedW (tb blkC4) 45) = _
  rw [stC4_45, schC4_45]; kernel_rfl
theorem stC4_47 : W8.steps kW (schedW (tb blkC4)) ⟨1656153849#32, 2995998298#32, 2566406339#32, 240638284#32, 2032468393#32, 3003492488#32, 4143809704#32, 2835966496#32⟩ 47 = ⟨3227782418#32, 744264688#32, 3701250844#32, 224710207#32, 2526586034#32, 2000547551#32, 1913355646#32, 1479605303#32⟩ := by
  show (W8.steps kW (schedW (tb blkC4)) ⟨1656153849#32, 2995998298#32, 2566406339#32, 240638284#32, 2032468393#32, 3003492488#32, 4143809704#32, 2835966496#32⟩ 46).step (kW 46) (schedW (tb blkC4) 46) = _
  rw [stC4_46, schC4_46]; kernel_rfl
theorem stC4_48 : W8.steps kW (schedW (tb blkC4)) ⟨1656153849#32, 2995998298#32, 2566406339#32, 240638284#32, 2032468393#32, 3003492488#32, 4143809704#32, 2835966496#32⟩ 48 = ⟨819000444#32, 3227782418#32, 744264688#32, 3701250844#32, 689822790#32, 2526586034#32, 2000547551#32, 1913355646#32⟩ := by
  show (W8.steps kW (schedW (tb blkC4)) ⟨1656153849#32, 2995998298#32, 2566406339#32, 240638284#32, 2032468393#32, 3003492488#32, 4143809704#32, 2835966496#32⟩ 47).step (kW 47) (schedW (tb blkC4) 47) = _
  rw [stC4_47, schC4_47]; kernel_rfl
theorem stC4_49 : W8.steps kW (schedW (tb blkC4)) ⟨1656153849#32, 2995998298#32, 2566406339#32, 240638284#32, 2032468393#32, 3003492488#32, 4143809704#32, 2835966496#32⟩ 49 = ⟨3906544687#32, 819000444#32, 3227782418#32, 744264688#32, 3105676928#32, 689822790#32, 2526586034#32, 2000547551#32⟩ := by
  show (W8.steps kW (schedW (tb blkC4)) ⟨1656153849#32, 2995998298#32, 2566406339#32, 240638284#32, 2032468393#32, 3003492488#32, 4143809704#32, 2835966496#32⟩ 48).step (kW 48) (schedW (tb blkC4) 48) = _
  rw [stC4_48, schC4_48]; kernel_rfl
theorem stC4_50 : W8.steps kW (schedW (tb blkC4)) ⟨1656153849#32, 2995998298#32, 2566406339#32, 240638284#32, 2032468393#32, 3003492488#32, 4143809704#32, 2835966496#32⟩ 50 = ⟨2478302227#32, 3906544687#32, 819000444#32, 3227782418#32, 527082340#32, 3105676928#32, 689822790#32, 2526586034#32⟩ := by
  show (W8.steps kW (schedW (tb blkC4)) ⟨1656153849#32, 2995998298#32, 2566406339#32, 240638284#32, 2032468393#32, 3003492488#32, 4143809704#32, 2835966496#32⟩ 49).step (kW 49) (schedW (tb blkC4) 49) = _
  rw [stC4_49, schC4_49]; kernel_rfl
theorem stC4_51 : W8.steps kW (schedW (tb blkC4)) ⟨1656153849#32, 2995998298#32, 2566406339#32, 240638284#32, 2032468393#32, 3003492488#32, 4143809704#32, 2835966496#32⟩ 51 = ⟨71580823#32, 2478302227#32, 3906544687#32, 819000444#32, 4160043637#32, 527082340#32, 3105676928#32, 689822790#32⟩ := by
  show (W8.steps kW (schedW (tb blkC4)) ⟨1656153849#32, 2995998298#32, 2566406339#32, 240638284#32, 2032468393#32, 3003492488#32, 4143809704#32, 2835966496#32⟩ 50).step (kW 50) (schedW (tb blkC4) 50) = _
  rw [stC4_50, schC4_50]; kernel_rfl
theorem stC4_52 : W8.steps kW (schedW (tb blkC4)) ⟨1656153849#32, 2995998298#32, 2566406339#32, 240638284#32, 2032468393#32, 3003492488#32, 4143809704#32, 2835966496#32⟩ 52 = ⟨3899942632#32, 71580823#32, 2478302227#32, 3906544687#32, 1662305848#32, 4160043637#32, 527082340#32, 3105676928#32⟩ := by
  show (W8.steps kW (schedW (tb blkC4)) ⟨1656153849#32, 2995998298#32, 2566406339#32, 240638284#32, 2032468393#32, 3003492488#32, 4143809704#32, 2835966496#32⟩ 51).step (kW 51) (schedW (tb blkC4) 51) = _
  rw [stC4_51, schC4_51]; kernel_rfl
theorem stC4_53 : W8.steps kW (schedW (tb blkC4)) ⟨1656153849#32, 2995998298#32, 2566406339#32, 240638284#32, 2032468393#32, 3003492488#32, 4143809704#32, 2835966496#32⟩ 53 = ⟨1990492661#32, 3899942632#32, 71580823#32, 2478302227#32, 38225881#32, 1662305848#32, 4160043637#32, 527082340#32⟩ := by
  show (W8.steps kW (schedW (tb blkC4)) ⟨1656153849#32, 2995998298#32, 2566406339#32, 240638284#32, 2032468393#32, 3003492488#32, 4143809704#32, 2835966496#32⟩ 52).step (kW 52) (schedW (tb blkC4) 52) = _
  rw [stC4_52, schC4_52]; kernel_rfl
theorem stC4_54 : W8.steps kW (schedW (tb blkC4)) ⟨1656153849#32, 2995998298#32, 2566406339#32, 240638284#32, 2032468393#32, 3003492488#32, 4143809704#32, 2835966496#32⟩ 54 = ⟨1830205453#32, 1990492661#32, 3899942632#32, 71580823#32, 3697620648#32, 38225881#32, 1662305848#32, 4160043637#32⟩ := by
  show (W8.steps kW (schedW (tb blkC4)) ⟨1656153849#32, 2995998298#32, 2566406339#32, 240638284#32, 2032468393#32, 3003492488#32, 4143809704#32, 2835966496#32⟩ 53).step (kW 53) (schedW (tb blkC4) 53) = _
  rw [stC4_53, schC4_53]; kernel_rfl
theorem stC4_55 : W8.steps kW (schedW (tb blkC4)) ⟨1656153849#32, 2995998298#32, 2566406339#32, 240638284#32, 2032468393#32, 3003492488#32, 4143809704#32, 2835966496#32⟩ 55 = ⟨2662081502#32, 1830205453#32, 1990492661#32, 3899942632#32, 1961675910#32, 3697620648#32, 38225881#32, 1662305848#32⟩ := by
  show (W8.steps kW (schedW (tb blkC4)) ⟨1656153849#32, 2995998298#32, 2566406339#32, 240638284#32, 2032468393#32, 3003492488#32, 4143809704#32, 2835966496#32⟩ 54).step (kW 54) (schedW (tb blkC4) 54) = _
  rw [stC4_54, schC4_54]; kernel_rfl
theorem stC4_56 : W8.steps kW (schedW (tb blkC4)) ⟨1656153849#32, 2995998298#32, 2566406339#32, 240638284#32, 2032468393#32, 3003492488#32, 4143809704#32, 2835966496#32⟩ 56 = ⟨1592532437#32, 2662081502#32, 1830205453#32, 1990492661#32, 3203095284#32, 1961675910#32, 3697620648#32, 38225881#32⟩ := by
  show (W8.steps kW (schedW (tb blkC4)) ⟨1656153849#32, 2995998298#32, 2566406339#32, 240638284#32, 2032468393#32, 3003492488#32, 4143809704#32, 2835966496#32⟩ 55).step (kW 55) (schedW (tb blkC4) 55) = _
  rw [stC4_55, schC4_55]; kernel_rfl
theorem stC4_57 : W8.steps kW (schedW (tb blkC4)) ⟨1656153849#32, 2995998298#32, 2566406339#32, 240638284#32, 2032468393#32, 3003492488#32, 4143809704#32, 2835966496#32⟩ 57 = ⟨1832766604#32, 1592532437#32, 2662081502#32, 1830205453#32, 2077191990#32, 3203095284#32, 1961675910#32, 3697620648#32⟩ := by
  show (W8.steps kW (schedW (tb blkC4)) ⟨1656153849#32, 2995998298#32, 2566406339#32, 240638284#32, 2032468393#32, 3003492488#32, 4143809704#32, 2835966496#32⟩ 56).step (kW 56) (schedW (tb blkC4) 56) = _
  rw [stC4_56, schC4_56]; kernel_rfl
theorem stC4_58 : W8.steps kW (schedW (tb blkC4)) ⟨1656153849#32, 2995998298#32, 2566406339#32, 240638284#32, 2032468393#32, 3003492488#32, 4143809704#32, 2835966496#32⟩ 58 = ⟨980990633#32, 1832766604#32, 1592532437#32, 2662081502#32, 3234150753#32, 2077191990#32, 3203095284#32, 1961675910#32⟩ := by
  show (W8.steps kW (schedW (tb blkC4)) ⟨1656153849#32, 2995998298#32, 2566406339#32, 240638284#32, 2032468393#32, 3003492488#32, 4143809704#32, 2835966496#32⟩ 57).step (kW 57) (schedW (tb blkC4) 57) = _
  rw [stC4_57, schC4_57]; kernel_rfl
theorem stC4_59 : W8.steps kW (schedW (tb blkC4)) ⟨1656153849#32, 2995998298#32, 2566406339#32, 240638284#32, 2032468393#32, 3003492488#32, 4143809704#32, 2835966496#32⟩ 59 = ⟨810913945#32, 980990633#32, 1832766604#32, 1592532437#32, 3611803236#32, 3234150753#32, 2077191990#32, 3203095284#32⟩ := by
  show (W8.steps kW (schedW (tb blkC4)) ⟨1656153849#32, 2995998298#32, 2566406339#32, 240638284#32, 2032468393#32, 3003492488#32, 4143809704#32, 2835966496#32⟩ 58).step (kW 58) (schedW (tb blkC4) 58) = _
  rw [stC4_58, schC4_58]; kernel_rfl
theorem stC4_60 : W8.steps kW (schedW (tb blkC4)) ⟨1656153849#32, 2995998298#32, 2566406339#32, 240638284#32, 2032468393#32, 3003492488#32, 4143809704#32, 2835966496#32⟩ 60 = ⟨94096235#32, 810913945#32, 980990633#32, 1832766604#32, 2372652652#32, 3611803236#32, 3234150753#32, 2077191990#32⟩ := by
  show (W8.steps kW (schedW (tb blkC4)) ⟨1656153849#32, 2995998298#32, 2566406339#32, 240638284#32, 2032468393#32, 3003492488#32, 4143809704#32, 2835966496#32⟩ 59).step (kW 59) (schedW (tb blkC4) 59) = _
  rw [stC4_59, schC4_59]; kernel_rfl
theorem stC4_61 : W8.steps kW (schedW (tb blkC4)) ⟨1656153849#32, 2995998298#32, 2566406339#32, 240638284#32, 2032468393#32, 3003492488#32, 4143809704#32, 2835966496#32⟩ 61 = ⟨3579431137#32, 94096235#32, 810913945#32, 980990633#32, 489326770#32, 2372652652#32, 3611803236#32, 3234150753#32⟩ := by
  show (W8.steps kW (schedW (tb blkC4)) ⟨1656153849#32, 2995998298#32, 2566406339#32, 240638284#32, 2032468393#32, 3003492488#32, 4143809704#32, 2835966496#32⟩ 60).step (kW 60) (schedW (tb blkC4) 60) = _
  rw [stC4_60, schC4_60]; kernel_rfl
theorem stC4_62 : W8.steps kW (schedW (tb blkC4)) ⟨1656153849#32, 2995998298#32, 2566406339#32, 240638284#32, 2032468393#32, 3003492488#32, 4143809704#32, 2835966496#32⟩ 62 = ⟨3728256776#32, 3579431137#32, 94096235#32, 810913945#32, 2916892965#32, 489326770#32, 2372652652#32, 3611803236#32⟩ := by
  show (W8.steps kW (schedW (tb blkC4)) ⟨1656153849#32, 2995998298#32, 2566406339#32, 240638284#32, 2032468393#32, 3003492488#32, 4143809704#32, 2835966496#32⟩ 61).step (kW 61) (schedW (tb blkC4) 61) = _
  rw [stC4_61, schC4_61]; kernel_rfl
theorem stC4_63 : W8.steps kW (schedW (tb blkC4)) ⟨1656153849#32, 2995998298#32, 2566406339#32, 240638284#32, 2032468393#32, 3003492488#32, 4143809704#32, 2835966496#32⟩ 63 = ⟨719554284#32, 3728256776#32, 3579431137#32, 94096235#32, 3635040925#32, 2916892965#32, 489326770#32, 2372652652#32⟩ := by
  show (W8.steps kW (schedW (tb blkC4)) ⟨1656153849#32, 2995998298#32, 2566406339#32, 240638284#32, 2032468393#32, 3003492488#32, 4143809704#32, 2835966496#32⟩ 62).step (kW 62) (schedW (tb blkC4) 62) = _
  rw [stC4_62, schC4_62]; kernel_rfl
theorem stC4_64 : W8.steps kW (schedW (tb blkC4)) ⟨1656153849#32, 2995998298#32, 2566406339#32, 240638284#32, 2032468393#32, 3003492488#32, 4143809704#32, 2835966496#32⟩ 64 = ⟨3162484506#32, 719554284#32, 3728256776#32, 3579431137#32, 803202449#32, 3635040925#32, 2916892965#32, 489326770#32⟩ := by
  show (W8.steps kW (schedW (tb blkC4)) ⟨1656153849#32, 2995998298#32, 2566406339#32, 240638284#32, 2032468393#32, 3003492488#32, 4143809704#32, 2835966496#32⟩ 63).step (kW 63) (schedW (tb blkC4) 63) = _
  rw [stC4_63, schC4_63]; kernel_rfl
theorem turnC4 : W8.turn kW ⟨1656153849#32, 2995998298#32, 2566406339#32, 240638284#32, 2032468393#32, 3003492488#32, 4143809704#32, 2835966496#32⟩ (tb blkC4) = ⟨523671059#32, 3715552582#32, 1999695819#32, 3820069421#32, 2835670842#32, 2343566117#32, 2765735373#32, 3325293266#32⟩ := by
  unfold W8.turn
  rw [stC4_64]; kernel_rfl
def gkeyC : List Nat := [192, 12, 241, 81, 202, 91, 224, 117, 237, 14, 191, 181, 200, 3, 35, 196, 45, 107, 125, 182, 120, 129, 40, 154, 244, 0, 143, 31, 108, 53, 122, 234]
def gdataC : List Nat := [0, 16, 14, 116, 108, 115, 49, 51, 32, 113, 117, 105, 99, 32, 107, 101, 121, 0, 1]
def goutC : List Nat := [31, 54, 150, 19, 221, 118, 213, 70, 119, 48, 239, 203, 227, 177, 162, 45, 169, 4, 231, 58, 139, 175, 251, 37, 164, 217, 197, 205, 198, 51, 242, 210]
theorem gmacC : ∀ i, i < 32 → macB (keyB (tb gkeyC) 32) (tb gdataC) 19 i = tb goutC i := by
  intro i hi
  have h1 : startW.turn kW (xorB (keyB (tb gkeyC) 32) 54#8) = ⟨1972027653#32, 898885472#32, 3279593276#32, 2767147112#32, 2107924513#32, 3800513663#32, 2561727826#32, 3713534392#32⟩ := by
    rw [W8.turn_congr (tb_agree _ blkC1 64 (by kernel_rfl))]; exact turnC1
  have h2 : W8.turn kW ⟨1972027653#32, 898885472#32, 3279593276#32, 2767147112#32, 2107924513#32, 3800513663#32, 2561727826#32, 3713534392#32⟩ (fun i => padded (joinb (xorB (keyB (tb gkeyC) 32) 54#8) 64 (tb gdataC)) (64 + 19) (64 + i)) = ⟨284357826#32, 2098598802#32, 4048370712#32, 4076049975#32, 3346888156#32, 3128052844#32, 1322798367#32, 2170098348#32⟩ := by
    rw [W8.turn_congr (tb_agree _ blkC2 64 (by kernel_rfl))]; exact turnC2
  have h3 : startW.turn kW (xorB (keyB (tb gkeyC) 32) 92#8) = ⟨1656153849#32, 2995998298#32, 2566406339#32, 240638284#32, 2032468393#32, 3003492488#32, 4143809704#32, 2835966496#32⟩ := by
    rw [W8.turn_congr (tb_agree _ blkC3 64 (by kernel_rfl))]; exact turnC3
  have h4 : W8.turn kW ⟨1656153849#32, 2995998298#32, 2566406339#32, 240638284#32, 2032468393#32, 3003492488#32, 4143809704#32, 2835966496#32⟩ (fun i => padded (joinb (xorB (keyB (tb gkeyC) 32) 92#8) 64 (stateB ⟨284357826#32, 2098598802#32, 4048370712#32, 4076049975#32, 3346888156#32, 3128052844#32, 1322798367#32, 2170098348#32⟩)) 96 (64 + i)) = ⟨523671059#32, 3715552582#32, 1999695819#32, 3820069421#32, 2835670842#32, 2343566117#32, 2765735373#32, 3325293266#32⟩ := by
    rw [W8.turn_congr (tb_agree _ blkC4 64 (by kernel_rfl))]; exact turnC4
  rw [mac_of _ _ 19 (by omega) h1 h2 h3 h4]
  exact tb_agree (stateB ⟨523671059#32, 3715552582#32, 1999695819#32, 3820069421#32, 2835670842#32, 2343566117#32, 2765735373#32, 3325293266#32⟩) goutC 32 (by kernel_rfl) i hi
end Go.Proofs.YtebhhonmpoeliaaDoor
