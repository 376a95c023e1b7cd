/-
  FRAMES: THE DOCUMENT's Put, OF MOST KINDS.
  FRAMES: THE DOCUMENT's Put, WHAT IS REFUSED; NOUGHTS.
  FRAMES: THE DOCUMENT's Put, OF ACKS.
-/
import Derived.Test.YtcgbhcmgddgheabDoorFrPc
import Derived.Test.YtcgbhcmgddgheabDoorFrI
namespace Go.Proofs.YtcgbhcmgddgheabDoor
open Go Go.RowKit Go.BigFrame
set_option linter.unusedSimpArgs false
set_option linter.unusedVariables false
set_option maxRecDepth 100000
theorem conv_kind (k : Nat) (hk : k < 256) (w : World) : (convert 28 9 (.slice (some ⟨w.heap.size, 0, none⟩) 1 1)).run Tryd.prog (w.alloc (.cells #[.int .u8 (k : Int)] 5)) = .ok (.string (byteT k)) (w.alloc (.cells #[.int .u8 (k : Int)] 5)) := by
  have hrow := heap_alloc_last w (.cells #[.int .u8 (k : Int)] 5)
  refine conv_in (fun _ => BitVec.ofNat 8 k) (some ⟨w.heap.size, 0, none⟩) 1 1 _ ⟨by unfold maxLen; omega, .inr ⟨w.heap.size, 0, rfl, lt_row hrow, fun i hi => ?_⟩⟩
  obtain rfl : i = 0 := by omega
  rw [cell_of_row _ _ _ _ _ _ hrow, n8_nat, BitVec.toNat_ofNat, Nat.mod_eq_of_lt hk]
  rfl
theorem ret_str {a b : ByteArray} (h : b = a) : Ending.returned (.tuple #[.string a, .int .i64 0]) = .returned (.tuple #[.string b, .int .i64 0]) := by rw [h]
theorem text_size (d : Nat) (D : ByteArray) (h : D.size = d) : (numT (d : Int) ++ D).size ≤ 8 + d := by
  rw [size_append, h]
  have := (numT_size (d : Int)).2
  omega
theorem okD_of {f : Fr} {S : ByteArray} (h : putF f = some S) : numsD f := ((ok_iff f).1 (by rw [h]; rfl)).2.1
theorem put_bytes {f : Fr} {S : ByteArray} (h : putF f = some S) {k : Nat} {ps : List Nat} (hk : firstF f = (k : Int)) (hp : partsL (k : Int) = some ps) : S = byteT k ++ partsT f ps := by
  obtain ⟨ps', hp', e, _⟩ := put_shape f S h
  rw [hk, hp] at hp'
  injection hp' with hp'
  rw [e, hk, ← hp', Int.toNat_natCast]
set_option maxHeartbeats 16000000 in
theorem docPut_4 (S O N C : Int) (F : Bool) (D X : ByteArray) (A : List (Int × Int)) (u : Value) (w : World) (hu : SpansIn w u A) (hDm : D.size ≤ maxLen) (hXm : X.size ≤ maxLen) (SS : ByteArray) (hp : putF ⟨4, S, O, N, C, F, D, X, A⟩ = some SS) :
    Calls Tryd.prog 7 #[.agg (frC 4 S O N C F D X u)] w fun e w' => e = .returned (.tuple #[.string SS, .int .i64 0]) ∧ Below w.heap.size w w' := by
  obtain ⟨a, c, rfl, _, _⟩ := hu.at_
  have RT := Lib.hid (fun (w' : World) (hb : Below w.heap.size w w') => (show Calls Tryd.prog 16 #[.agg (frC 4 S O N C F D X (.slice a A.length c))] w' fun e w'' => e = .returned (.bool true) ∧ Below w'.heap.size w' w'' from by
    have h := right_front 4 S O N C F D X A (.slice a A.length c) w' (hu.later hb) hDm hXm
    rw [hp] at h
    exact h))
  obtain ⟨⟨s1, s2⟩, ⟨o1, o2⟩, ⟨n1, n2⟩, ⟨c1, c2⟩, hd⟩ := okD_of hp
  dsimp only at s1 s2 o1 o2 n1 n2 c1 c2 hd
  have BND := Lib.hid (And.intro (And.intro s1 s2) (And.intro (And.intro o1 o2) (And.intro (And.intro n1 n2) (And.intro c1 c2))))
  have hS := put_bytes (k := 4) (ps := [0, 3, 1]) hp rfl rfl
  have TX := Lib.hid (fun (w' : World) => docText_at D w' hd)
  obtain ⟨d, hdd⟩ : ∃ d, D.size = d := ⟨_, rfl⟩
  rw [hdd] at TX hd
  have hT8 := text_size d D hdd
  have HDD := Lib.hid hdd
  obtain ⟨TT, hTT⟩ : ∃ T, numT (d : Int) ++ D = T := ⟨_, rfl⟩
  rw [hTT] at TX hT8
  have HTT := Lib.hid hTT
  obtain ⟨tz, htz⟩ : ∃ z, TT.size = z := ⟨_, rfl⟩
  rw [htz] at hT8
  obtain ⟨m, hm⟩ : ∃ m, A.length = m := ⟨_, rfl⟩
  rw [hm] at RT ⊢
  have HS := Lib.hid hS
  obtain ⟨BK, hBK⟩ : ∃ b, byteT 4 = b := ⟨_, rfl⟩
  have hBz : BK.size = 1 := by rw [← hBK]; exact strOf_size _ _
  have HBK := Lib.hid hBK
  clear hp hS hTT hdd s1 s2 o1 o2 n1 n2 c1 c2 hu hDm hXm hm hBK
  unfold frC at RT ⊢
  have row := heap_alloc_last w (.cells #[.int .i64 4, .int .i64 S, .int .i64 O, .int .i64 N, .int .i64 C, .bool F, .string D, .string X, .slice a m c] 24)
  have bel := (Below.refl w.heap.size w).alloc (Nat.le_refl _) (.cells #[.int .i64 4, .int .i64 S, .int .i64 O, .int .i64 N, .int .i64 C, .bool F, .string D, .string X, .slice a m c] 24)
  go_enter Tryd.func7, Tryd.ntmps7
  go_upto_region 1 with (fail)
  generalize w.alloc _ = wa at *
  generalize hq : w.heap.size = q at *
  have HQ := Lib.hid hq
  have ROW := Lib.hid row
  have B := Lib.hid bel
  obtain ⟨c0, c1', c2', c3, c4, c5, c6, c7, c8⟩ := cells9 row
  clear row bel hq
  go_wp2_with fail
  with_reducible refine (RT.out wa B.out).mono ?_
  rintro e w2 ⟨rfl, hb2⟩
  have R2 := Lib.hid ((hb2.block _ (lt_row ROW.out)).trans ROW.out)
  have B2 := Lib.hid (show Below q w w2 from B.out.trans (hb2.mono (by rw [← HQ.out]; exact B.out.size)))
  clear hb2 RT c0 c1' c2' c3 c4 c5 c6 c7 c8 ROW
  obtain ⟨c0, c1', c2', c3, c4, c5, c6, c7, c8⟩ := cells9 R2.out
  go_wp2_with fail
  with_reducible refine (TX.out w2).mono ?_
  rintro e w3 ⟨rfl, hb3⟩
  have QS := Lib.hid (show q ≤ w2.heap.size by rw [← HQ.out]; exact B2.out.size)
  have R3 := Lib.hid ((hb3.block _ (lt_row R2.out)).trans R2.out)
  have B3 := Lib.hid (B2.out.trans (hb3.mono QS.out))
  have QS3 := Lib.hid (Nat.le_trans QS.out hb3.size)
  clear hb3 TX c0 c1' c2' c3 c4 c5 c6 c7 c8
  obtain ⟨c0, c1', c2', c3, c4, c5, c6, c7, c8⟩ := cells9 R3.out
  have ck := conv_kind 4 (by decide) w3
  rw [show ((4 : Nat) : Int) = 4 from rfl, HBK.out] at ck
  have bel4 := (Below.refl w3.heap.size w3).alloc (Nat.le_refl _) (.cells #[.int .u8 4] 5)
  have R4 := Lib.hid ((bel4.block _ (lt_row R3.out)).trans R3.out)
  have B4 := Lib.hid (B3.out.trans (bel4.mono QS3.out))
  have QS4 := Lib.hid (Nat.le_trans QS3.out bel4.size)
  clear bel4
  go_upto_region 5 with (fail)
  clear ck c0 c1' c2' c3 c4 c5 c6 c7 c8
  generalize w3.alloc _ = w4 at *
  obtain ⟨c0, c1', c2', c3, c4, c5, c6, c7, c8⟩ := cells9 R4.out
  have hl : ∀ (i : Nat) (hi : i < ([S, C, O] : List Int).length), 0 ≤ ([S, C, O] : List Int)[i] ∧ ([S, C, O] : List Int)[i] ≤ MX := fun i hi => by
      match i, hi with
      | 0, _ => exact BND.out.1
      | 1, _ => exact BND.out.2.2.2
      | 2, _ => exact BND.out.2.1

  have row5 := heap_alloc_last w4 (.cells #[.int .i64 S, .int .i64 C, .int .i64 O] 3)
  have bel5 := (Below.refl w4.heap.size w4).alloc (Nat.le_refl _) (.cells #[.int .i64 S, .int .i64 C, .int .i64 O] 3)
  have PN := Lib.hid (put_nums [S, C, O] hl (by simp) w4.heap.size (w4.alloc (.cells #[.int .i64 S, .int .i64 C, .int .i64 O] 3)) row5)
  have hz5 : (numsT [S, C, O]).size ≤ 24 := numsT_size [S, C, O]
  have R5 := Lib.hid ((bel5.block _ (lt_row R4.out)).trans R4.out)
  have B5 := Lib.hid (B4.out.trans (bel5.mono QS4.out))
  have QS5 := Lib.hid (Nat.le_trans QS4.out bel5.size)
  obtain ⟨NX, hNX⟩ : ∃ T, numsT [S, C, O] = T := ⟨_, rfl⟩
  rw [hNX] at hz5 PN
  have HNX := Lib.hid hNX
  obtain ⟨nz, hnz⟩ : ∃ z, NX.size = z := ⟨_, rfl⟩
  rw [hnz] at hz5
  have q1 : ¬ 9223372036854775807 < 1 + nz := by omega
  have q2 : ¬ 9223372036854775807 < 1 + nz + tz := by omega
  clear hl row5 bel5 hNX
  go_wp2_with fail
  refine PN.out.mono ?_
  rintro e w6 ⟨rfl, hb6⟩
  have R6 := Lib.hid ((hb6.block _ (lt_row R5.out)).trans R5.out)
  have B6 := Lib.hid (B5.out.trans (hb6.mono QS5.out))
  clear hb6 PN c0 c1' c2' c3 c4 c5 c6 c7 c8
  obtain ⟨c0, c1', c2', c3, c4, c5, c6, c7, c8⟩ := cells9 R6.out
  go_wp2_with fail
  go_ret2
  exact ⟨ret_str (show SS = BK ++ NX from by rw [HS.out, HBK.out, ← HNX.out]; rfl), by rw [HQ.out]; exact B6.out⟩
set_option maxHeartbeats 16000000 in
theorem docPut_5 (S O N C : Int) (F : Bool) (D X : ByteArray) (A : List (Int × Int)) (u : Value) (w : World) (hu : SpansIn w u A) (hDm : D.size ≤ maxLen) (hXm : X.size ≤ maxLen) (SS : ByteArray) (hp : putF ⟨5, S, O, N, C, F, D, X, A⟩ = some SS) :
    Calls Tryd.prog 7 #[.agg (frC 5 S O N C F D X u)] w fun e w' => e = .returned (.tuple #[.string SS, .int .i64 0]) ∧ Below w.heap.size w w' := by
  obtain ⟨a, c, rfl, _, _⟩ := hu.at_
  have RT := Lib.hid (fun (w' : World) (hb : Below w.heap.size w w') => (show Calls Tryd.prog 16 #[.agg (frC 5 S O N C F D X (.slice a A.length c))] w' fun e w'' => e = .returned (.bool true) ∧ Below w'.heap.size w' w'' from by
    have h := right_front 5 S O N C F D X A (.slice a A.length c) w' (hu.later hb) hDm hXm
    rw [hp] at h
    exact h))
  obtain ⟨⟨s1, s2⟩, ⟨o1, o2⟩, ⟨n1, n2⟩, ⟨c1, c2⟩, hd⟩ := okD_of hp
  dsimp only at s1 s2 o1 o2 n1 n2 c1 c2 hd
  have BND := Lib.hid (And.intro (And.intro s1 s2) (And.intro (And.intro o1 o2) (And.intro (And.intro n1 n2) (And.intro c1 c2))))
  have hS := put_bytes (k := 5) (ps := [0, 3]) hp rfl rfl
  have TX := Lib.hid (fun (w' : World) => docText_at D w' hd)
  obtain ⟨d, hdd⟩ : ∃ d, D.size = d := ⟨_, rfl⟩
  rw [hdd] at TX hd
  have hT8 := text_size d D hdd
  have HDD := Lib.hid hdd
  obtain ⟨TT, hTT⟩ : ∃ T, numT (d : Int) ++ D = T := ⟨_, rfl⟩
  rw [hTT] at TX hT8
  have HTT := Lib.hid hTT
  obtain ⟨tz, htz⟩ : ∃ z, TT.size = z := ⟨_, rfl⟩
  rw [htz] at hT8
  obtain ⟨m, hm⟩ : ∃ m, A.length = m := ⟨_, rfl⟩
  rw [hm] at RT ⊢
  have HS := Lib.hid hS
  obtain ⟨BK, hBK⟩ : ∃ b, byteT 5 = b := ⟨_, rfl⟩
  have hBz : BK.size = 1 := by rw [← hBK]; exact strOf_size _ _
  have HBK := Lib.hid hBK
  clear hp hS hTT hdd s1 s2 o1 o2 n1 n2 c1 c2 hu hDm hXm hm hBK
  unfold frC at RT ⊢
  have row := heap_alloc_last w (.cells #[.int .i64 5, .int .i64 S, .int .i64 O, .int .i64 N, .int .i64 C, .bool F, .string D, .string X, .slice a m c] 24)
  have bel := (Below.refl w.heap.size w).alloc (Nat.le_refl _) (.cells #[.int .i64 5, .int .i64 S, .int .i64 O, .int .i64 N, .int .i64 C, .bool F, .string D, .string X, .slice a m c] 24)
  go_enter Tryd.func7, Tryd.ntmps7
  go_upto_region 1 with (fail)
  generalize w.alloc _ = wa at *
  generalize hq : w.heap.size = q at *
  have HQ := Lib.hid hq
  have ROW := Lib.hid row
  have B := Lib.hid bel
  obtain ⟨c0, c1', c2', c3, c4, c5, c6, c7, c8⟩ := cells9 row
  clear row bel hq
  go_wp2_with fail
  with_reducible refine (RT.out wa B.out).mono ?_
  rintro e w2 ⟨rfl, hb2⟩
  have R2 := Lib.hid ((hb2.block _ (lt_row ROW.out)).trans ROW.out)
  have B2 := Lib.hid (show Below q w w2 from B.out.trans (hb2.mono (by rw [← HQ.out]; exact B.out.size)))
  clear hb2 RT c0 c1' c2' c3 c4 c5 c6 c7 c8 ROW
  obtain ⟨c0, c1', c2', c3, c4, c5, c6, c7, c8⟩ := cells9 R2.out
  go_wp2_with fail
  with_reducible refine (TX.out w2).mono ?_
  rintro e w3 ⟨rfl, hb3⟩
  have QS := Lib.hid (show q ≤ w2.heap.size by rw [← HQ.out]; exact B2.out.size)
  have R3 := Lib.hid ((hb3.block _ (lt_row R2.out)).trans R2.out)
  have B3 := Lib.hid (B2.out.trans (hb3.mono QS.out))
  have QS3 := Lib.hid (Nat.le_trans QS.out hb3.size)
  clear hb3 TX c0 c1' c2' c3 c4 c5 c6 c7 c8
  obtain ⟨c0, c1', c2', c3, c4, c5, c6, c7, c8⟩ := cells9 R3.out
  have ck := conv_kind 5 (by decide) w3
  rw [show ((5 : Nat) : Int) = 5 from rfl, HBK.out] at ck
  have bel4 := (Below.refl w3.heap.size w3).alloc (Nat.le_refl _) (.cells #[.int .u8 5] 5)
  have R4 := Lib.hid ((bel4.block _ (lt_row R3.out)).trans R3.out)
  have B4 := Lib.hid (B3.out.trans (bel4.mono QS3.out))
  have QS4 := Lib.hid (Nat.le_trans QS3.out bel4.size)
  clear bel4
  go_upto_region 5 with (fail)
  clear ck c0 c1' c2' c3 c4 c5 c6 c7 c8
  generalize w3.alloc _ = w4 at *
  obtain ⟨c0, c1', c2', c3, c4, c5, c6, c7, c8⟩ := cells9 R4.out
  have hl : ∀ (i : Nat) (hi : i < ([S, C] : List Int).length), 0 ≤ ([S, C] : List Int)[i] ∧ ([S, C] : List Int)[i] ≤ MX := fun i hi => by
      match i, hi with
      | 0, _ => exact BND.out.1
      | 1, _ => exact BND.out.2.2.2

  have row5 := heap_alloc_last w4 (.cells #[.int .i64 S, .int .i64 C] 3)
  have bel5 := (Below.refl w4.heap.size w4).alloc (Nat.le_refl _) (.cells #[.int .i64 S, .int .i64 C] 3)
  have PN := Lib.hid (put_nums [S, C] hl (by simp) w4.heap.size (w4.alloc (.cells #[.int .i64 S, .int .i64 C] 3)) row5)
  have hz5 : (numsT [S, C]).size ≤ 16 := numsT_size [S, C]
  have R5 := Lib.hid ((bel5.block _ (lt_row R4.out)).trans R4.out)
  have B5 := Lib.hid (B4.out.trans (bel5.mono QS4.out))
  have QS5 := Lib.hid (Nat.le_trans QS4.out bel5.size)
  obtain ⟨NX, hNX⟩ : ∃ T, numsT [S, C] = T := ⟨_, rfl⟩
  rw [hNX] at hz5 PN
  have HNX := Lib.hid hNX
  obtain ⟨nz, hnz⟩ : ∃ z, NX.size = z := ⟨_, rfl⟩
  rw [hnz] at hz5
  have q1 : ¬ 9223372036854775807 < 1 + nz := by omega
  have q2 : ¬ 9223372036854775807 < 1 + nz + tz := by omega
  clear hl row5 bel5 hNX
  go_wp2_with fail
  refine PN.out.mono ?_
  rintro e w6 ⟨rfl, hb6⟩
  have R6 := Lib.hid ((hb6.block _ (lt_row R5.out)).trans R5.out)
  have B6 := Lib.hid (B5.out.trans (hb6.mono QS5.out))
  clear hb6 PN c0 c1' c2' c3 c4 c5 c6 c7 c8
  obtain ⟨c0, c1', c2', c3, c4, c5, c6, c7, c8⟩ := cells9 R6.out
  go_wp2_with fail
  go_ret2
  exact ⟨ret_str (show SS = BK ++ NX from by rw [HS.out, HBK.out, ← HNX.out]; rfl), by rw [HQ.out]; exact B6.out⟩
set_option maxHeartbeats 16000000 in
theorem docPut_6 (S O N C : Int) (F : Bool) (D X : ByteArray) (A : List (Int × Int)) (u : Value) (w : World) (hu : SpansIn w u A) (hDm : D.size ≤ maxLen) (hXm : X.size ≤ maxLen) (SS : ByteArray) (hp : putF ⟨6, S, O, N, C, F, D, X, A⟩ = some SS) :
    Calls Tryd.prog 7 #[.agg (frC 6 S O N C F D X u)] w fun e w' => e = .returned (.tuple #[.string SS, .int .i64 0]) ∧ Below w.heap.size w w' := by
  obtain ⟨a, c, rfl, _, _⟩ := hu.at_
  have RT := Lib.hid (fun (w' : World) (hb : Below w.heap.size w w') => (show Calls Tryd.prog 16 #[.agg (frC 6 S O N C F D X (.slice a A.length c))] w' fun e w'' => e = .returned (.bool true) ∧ Below w'.heap.size w' w'' from by
    have h := right_front 6 S O N C F D X A (.slice a A.length c) w' (hu.later hb) hDm hXm
    rw [hp] at h
    exact h))
  obtain ⟨⟨s1, s2⟩, ⟨o1, o2⟩, ⟨n1, n2⟩, ⟨c1, c2⟩, hd⟩ := okD_of hp
  dsimp only at s1 s2 o1 o2 n1 n2 c1 c2 hd
  have BND := Lib.hid (And.intro (And.intro s1 s2) (And.intro (And.intro o1 o2) (And.intro (And.intro n1 n2) (And.intro c1 c2))))
  have hS := put_bytes (k := 6) (ps := [1, 4]) hp rfl rfl
  have TX := Lib.hid (fun (w' : World) => docText_at D w' hd)
  obtain ⟨d, hdd⟩ : ∃ d, D.size = d := ⟨_, rfl⟩
  rw [hdd] at TX hd
  have hT8 := text_size d D hdd
  have HDD := Lib.hid hdd
  obtain ⟨TT, hTT⟩ : ∃ T, numT (d : Int) ++ D = T := ⟨_, rfl⟩
  rw [hTT] at TX hT8
  have HTT := Lib.hid hTT
  obtain ⟨tz, htz⟩ : ∃ z, TT.size = z := ⟨_, rfl⟩
  rw [htz] at hT8
  obtain ⟨m, hm⟩ : ∃ m, A.length = m := ⟨_, rfl⟩
  rw [hm] at RT ⊢
  have HS := Lib.hid hS
  obtain ⟨BK, hBK⟩ : ∃ b, byteT 6 = b := ⟨_, rfl⟩
  have hBz : BK.size = 1 := by rw [← hBK]; exact strOf_size _ _
  have HBK := Lib.hid hBK
  clear hp hS hTT hdd s1 s2 o1 o2 n1 n2 c1 c2 hu hDm hXm hm hBK
  unfold frC at RT ⊢
  have row := heap_alloc_last w (.cells #[.int .i64 6, .int .i64 S, .int .i64 O, .int .i64 N, .int .i64 C, .bool F, .string D, .string X, .slice a m c] 24)
  have bel := (Below.refl w.heap.size w).alloc (Nat.le_refl _) (.cells #[.int .i64 6, .int .i64 S, .int .i64 O, .int .i64 N, .int .i64 C, .bool F, .string D, .string X, .slice a m c] 24)
  go_enter Tryd.func7, Tryd.ntmps7
  go_upto_region 1 with (fail)
  generalize w.alloc _ = wa at *
  generalize hq : w.heap.size = q at *
  have HQ := Lib.hid hq
  have ROW := Lib.hid row
  have B := Lib.hid bel
  obtain ⟨c0, c1', c2', c3, c4, c5, c6, c7, c8⟩ := cells9 row
  clear row bel hq
  go_wp2_with fail
  with_reducible refine (RT.out wa B.out).mono ?_
  rintro e w2 ⟨rfl, hb2⟩
  have R2 := Lib.hid ((hb2.block _ (lt_row ROW.out)).trans ROW.out)
  have B2 := Lib.hid (show Below q w w2 from B.out.trans (hb2.mono (by rw [← HQ.out]; exact B.out.size)))
  clear hb2 RT c0 c1' c2' c3 c4 c5 c6 c7 c8 ROW
  obtain ⟨c0, c1', c2', c3, c4, c5, c6, c7, c8⟩ := cells9 R2.out
  go_wp2_with fail
  with_reducible refine (TX.out w2).mono ?_
  rintro e w3 ⟨rfl, hb3⟩
  have QS := Lib.hid (show q ≤ w2.heap.size by rw [← HQ.out]; exact B2.out.size)
  have R3 := Lib.hid ((hb3.block _ (lt_row R2.out)).trans R2.out)
  have B3 := Lib.hid (B2.out.trans (hb3.mono QS.out))
  have QS3 := Lib.hid (Nat.le_trans QS.out hb3.size)
  clear hb3 TX c0 c1' c2' c3 c4 c5 c6 c7 c8
  obtain ⟨c0, c1', c2', c3, c4, c5, c6, c7, c8⟩ := cells9 R3.out
  have ck := conv_kind 6 (by decide) w3
  rw [show ((6 : Nat) : Int) = 6 from rfl, HBK.out] at ck
  have bel4 := (Below.refl w3.heap.size w3).alloc (Nat.le_refl _) (.cells #[.int .u8 6] 5)
  have R4 := Lib.hid ((bel4.block _ (lt_row R3.out)).trans R3.out)
  have B4 := Lib.hid (B3.out.trans (bel4.mono QS3.out))
  have QS4 := Lib.hid (Nat.le_trans QS3.out bel4.size)
  clear bel4
  go_upto_region 5 with (fail)
  clear ck c0 c1' c2' c3 c4 c5 c6 c7 c8
  generalize w3.alloc _ = w4 at *
  obtain ⟨c0, c1', c2', c3, c4, c5, c6, c7, c8⟩ := cells9 R4.out
  have hl : ∀ (i : Nat) (hi : i < ([O] : List Int).length), 0 ≤ ([O] : List Int)[i] ∧ ([O] : List Int)[i] ≤ MX := fun i hi => by
      match i, hi with
      | 0, _ => exact BND.out.2.1

  have row5 := heap_alloc_last w4 (.cells #[.int .i64 O] 3)
  have bel5 := (Below.refl w4.heap.size w4).alloc (Nat.le_refl _) (.cells #[.int .i64 O] 3)
  have PN := Lib.hid (put_nums [O] hl (by simp) w4.heap.size (w4.alloc (.cells #[.int .i64 O] 3)) row5)
  have hz5 : (numsT [O]).size ≤ 8 := numsT_size [O]
  have R5 := Lib.hid ((bel5.block _ (lt_row R4.out)).trans R4.out)
  have B5 := Lib.hid (B4.out.trans (bel5.mono QS4.out))
  have QS5 := Lib.hid (Nat.le_trans QS4.out bel5.size)
  obtain ⟨NX, hNX⟩ : ∃ T, numsT [O] = T := ⟨_, rfl⟩
  rw [hNX] at hz5 PN
  have HNX := Lib.hid hNX
  obtain ⟨nz, hnz⟩ : ∃ z, NX.size = z := ⟨_, rfl⟩
  rw [hnz] at hz5
  have q1 : ¬ 9223372036854775807 < 1 + nz := by omega
  have q2 : ¬ 9223372036854775807 < 1 + nz + tz := by omega
  clear hl row5 bel5 hNX
  go_wp2_with fail
  refine PN.out.mono ?_
  rintro e w6 ⟨rfl, hb6⟩
  have R6 := Lib.hid ((hb6.block _ (lt_row R5.out)).trans R5.out)
  have B6 := Lib.hid (B5.out.trans (hb6.mono QS5.out))
  clear hb6 PN c0 c1' c2' c3 c4 c5 c6 c7 c8
  obtain ⟨c0, c1', c2', c3, c4, c5, c6, c7, c8⟩ := cells9 R6.out
  go_wp2_with fail
  go_ret2
  exact ⟨ret_str (show SS = BK ++ NX ++ TT from by
    rw [HS.out, HBK.out, ← HNX.out, ← HTT.out, ← HDD.out]
    show BK ++ (numT O ++ ((numT (D.size : Int) ++ D) ++ (⟨#[]⟩ : ByteArray))) = BK ++ (numsT [O]) ++ (numT (D.size : Int) ++ D)
    simp only [numsT, app_nil, ByteArray.append_assoc]), by rw [HQ.out]; exact B6.out⟩
set_option maxHeartbeats 16000000 in
theorem docPut_7 (S O N C : Int) (F : Bool) (D X : ByteArray) (A : List (Int × Int)) (u : Value) (w : World) (hu : SpansIn w u A) (hDm : D.size ≤ maxLen) (hXm : X.size ≤ maxLen) (SS : ByteArray) (hp : putF ⟨7, S, O, N, C, F, D, X, A⟩ = some SS) :
    Calls Tryd.prog 7 #[.agg (frC 7 S O N C F D X u)] w fun e w' => e = .returned (.tuple #[.string SS, .int .i64 0]) ∧ Below w.heap.size w w' := by
  obtain ⟨a, c, rfl, _, _⟩ := hu.at_
  have RT := Lib.hid (fun (w' : World) (hb : Below w.heap.size w w') => (show Calls Tryd.prog 16 #[.agg (frC 7 S O N C F D X (.slice a A.length c))] w' fun e w'' => e = .returned (.bool true) ∧ Below w'.heap.size w' w'' from by
    have h := right_front 7 S O N C F D X A (.slice a A.length c) w' (hu.later hb) hDm hXm
    rw [hp] at h
    exact h))
  obtain ⟨⟨s1, s2⟩, ⟨o1, o2⟩, ⟨n1, n2⟩, ⟨c1, c2⟩, hd⟩ := okD_of hp
  dsimp only at s1 s2 o1 o2 n1 n2 c1 c2 hd
  have BND := Lib.hid (And.intro (And.intro s1 s2) (And.intro (And.intro o1 o2) (And.intro (And.intro n1 n2) (And.intro c1 c2))))
  have hS := put_bytes (k := 7) (ps := [4]) hp rfl rfl
  have TX := Lib.hid (fun (w' : World) => docText_at D w' hd)
  obtain ⟨d, hdd⟩ : ∃ d, D.size = d := ⟨_, rfl⟩
  rw [hdd] at TX hd
  have hT8 := text_size d D hdd
  have HDD := Lib.hid hdd
  obtain ⟨TT, hTT⟩ : ∃ T, numT (d : Int) ++ D = T := ⟨_, rfl⟩
  rw [hTT] at TX hT8
  have HTT := Lib.hid hTT
  obtain ⟨tz, htz⟩ : ∃ z, TT.size = z := ⟨_, rfl⟩
  rw [htz] at hT8
  obtain ⟨m, hm⟩ : ∃ m, A.length = m := ⟨_, rfl⟩
  rw [hm] at RT ⊢
  have HS := Lib.hid hS
  obtain ⟨BK, hBK⟩ : ∃ b, byteT 7 = b := ⟨_, rfl⟩
  have hBz : BK.size = 1 := by rw [← hBK]; exact strOf_size _ _
  have HBK := Lib.hid hBK
  clear hp hS hTT hdd s1 s2 o1 o2 n1 n2 c1 c2 hu hDm hXm hm hBK
  unfold frC at RT ⊢
  have row := heap_alloc_last w (.cells #[.int .i64 7, .int .i64 S, .int .i64 O, .int .i64 N, .int .i64 C, .bool F, .string D, .string X, .slice a m c] 24)
  have bel := (Below.refl w.heap.size w).alloc (Nat.le_refl _) (.cells #[.int .i64 7, .int .i64 S, .int .i64 O, .int .i64 N, .int .i64 C, .bool F, .string D, .string X, .slice a m c] 24)
  go_enter Tryd.func7, Tryd.ntmps7
  go_upto_region 1 with (fail)
  generalize w.alloc _ = wa at *
  generalize hq : w.heap.size = q at *
  have HQ := Lib.hid hq
  have ROW := Lib.hid row
  have B := Lib.hid bel
  obtain ⟨c0, c1', c2', c3, c4, c5, c6, c7, c8⟩ := cells9 row
  clear row bel hq
  go_wp2_with fail
  with_reducible refine (RT.out wa B.out).mono ?_
  rintro e w2 ⟨rfl, hb2⟩
  have R2 := Lib.hid ((hb2.block _ (lt_row ROW.out)).trans ROW.out)
  have B2 := Lib.hid (show Below q w w2 from B.out.trans (hb2.mono (by rw [← HQ.out]; exact B.out.size)))
  clear hb2 RT c0 c1' c2' c3 c4 c5 c6 c7 c8 ROW
  obtain ⟨c0, c1', c2', c3, c4, c5, c6, c7, c8⟩ := cells9 R2.out
  go_wp2_with fail
  with_reducible refine (TX.out w2).mono ?_
  rintro e w3 ⟨rfl, hb3⟩
  have QS := Lib.hid (show q ≤ w2.heap.size by rw [← HQ.out]; exact B2.out.size)
  have R3 := Lib.hid ((hb3.block _ (lt_row R2.out)).trans R2.out)
  have B3 := Lib.hid (B2.out.trans (hb3.mono QS.out))
  have QS3 := Lib.hid (Nat.le_trans QS.out hb3.size)
  clear hb3 TX c0 c1' c2' c3 c4 c5 c6 c7 c8
  obtain ⟨c0, c1', c2', c3, c4, c5, c6, c7, c8⟩ := cells9 R3.out
  have ck := conv_kind 7 (by decide) w3
  rw [show ((7 : Nat) : Int) = 7 from rfl, HBK.out] at ck
  have bel4 := (Below.refl w3.heap.size w3).alloc (Nat.le_refl _) (.cells #[.int .u8 7] 5)
  have R4 := Lib.hid ((bel4.block _ (lt_row R3.out)).trans R3.out)
  have B4 := Lib.hid (B3.out.trans (bel4.mono QS3.out))
  have QS4 := Lib.hid (Nat.le_trans QS3.out bel4.size)
  clear bel4
  go_upto_region 5 with (fail)
  clear ck c0 c1' c2' c3 c4 c5 c6 c7 c8
  generalize w3.alloc _ = w4 at *
  obtain ⟨c0, c1', c2', c3, c4, c5, c6, c7, c8⟩ := cells9 R4.out
  have q1 : ¬ 9223372036854775807 < 1 + tz := by omega
  go_wp2_with fail
  go_ret2
  exact ⟨ret_str (show SS = BK ++ TT from by rw [HS.out, HBK.out, ← HTT.out, ← HDD.out]; show BK ++ ((numT (D.size : Int) ++ D) ++ (⟨#[]⟩ : ByteArray)) = _; rw [app_nil]), by rw [HQ.out]; exact B4.out⟩
set_option maxHeartbeats 16000000 in
theorem docPut_16 (S O N C : Int) (F : Bool) (D X : ByteArray) (A : List (Int × Int)) (u : Value) (w : World) (hu : SpansIn w u A) (hDm : D.size ≤ maxLen) (hXm : X.size ≤ maxLen) (SS : ByteArray) (hp : putF ⟨16, S, O, N, C, F, D, X, A⟩ = some SS) :
    Calls Tryd.prog 7 #[.agg (frC 16 S O N C F D X u)] w fun e w' => e = .returned (.tuple #[.string SS, .int .i64 0]) ∧ Below w.heap.size w w' := by
  obtain ⟨a, c, rfl, _, _⟩ := hu.at_
  have RT := Lib.hid (fun (w' : World) (hb : Below w.heap.size w w') => (show Calls Tryd.prog 16 #[.agg (frC 16 S O N C F D X (.slice a A.length c))] w' fun e w'' => e = .returned (.bool true) ∧ Below w'.heap.size w' w'' from by
    have h := right_front 16 S O N C F D X A (.slice a A.length c) w' (hu.later hb) hDm hXm
    rw [hp] at h
    exact h))
  obtain ⟨⟨s1, s2⟩, ⟨o1, o2⟩, ⟨n1, n2⟩, ⟨c1, c2⟩, hd⟩ := okD_of hp
  dsimp only at s1 s2 o1 o2 n1 n2 c1 c2 hd
  have BND := Lib.hid (And.intro (And.intro s1 s2) (And.intro (And.intro o1 o2) (And.intro (And.intro n1 n2) (And.intro c1 c2))))
  have hS := put_bytes (k := 16) (ps := [2]) hp rfl rfl
  have TX := Lib.hid (fun (w' : World) => docText_at D w' hd)
  obtain ⟨d, hdd⟩ : ∃ d, D.size = d := ⟨_, rfl⟩
  rw [hdd] at TX hd
  have hT8 := text_size d D hdd
  have HDD := Lib.hid hdd
  obtain ⟨TT, hTT⟩ : ∃ T, numT (d : Int) ++ D = T := ⟨_, rfl⟩
  rw [hTT] at TX hT8
  have HTT := Lib.hid hTT
  obtain ⟨tz, htz⟩ : ∃ z, TT.size = z := ⟨_, rfl⟩
  rw [htz] at hT8
  obtain ⟨m, hm⟩ : ∃ m, A.length = m := ⟨_, rfl⟩
  rw [hm] at RT ⊢
  have HS := Lib.hid hS
  obtain ⟨BK, hBK⟩ : ∃ b, byteT 16 = b := ⟨_, rfl⟩
  have hBz : BK.size = 1 := by rw [← hBK]; exact strOf_size _ _
  have HBK := Lib.hid hBK
  clear hp hS hTT hdd s1 s2 o1 o2 n1 n2 c1 c2 hu hDm hXm hm hBK
  unfold frC at RT ⊢
  have row := heap_alloc_last w (.cells #[.int .i64 16, .int .i64 S, .int .i64 O, .int .i64 N, .int .i64 C, .bool F, .string D, .string X, .slice a m c] 24)
  have bel := (Below.refl w.heap.size w).alloc (Nat.le_refl _) (.cells #[.int .i64 16, .int .i64 S, .int .i64 O, .int .i64 N, .int .i64 C, .bool F, .string D, .string X, .slice a m c] 24)
  go_enter Tryd.func7, Tryd.ntmps7
  go_upto_region 1 with (fail)
  generalize w.alloc _ = wa at *
  generalize hq : w.heap.size = q at *
  have HQ := Lib.hid hq
  have ROW := Lib.hid row
  have B := Lib.hid bel
  obtain ⟨c0, c1', c2', c3, c4, c5, c6, c7, c8⟩ := cells9 row
  clear row bel hq
  go_wp2_with fail
  with_reducible refine (RT.out wa B.out).mono ?_
  rintro e w2 ⟨rfl, hb2⟩
  have R2 := Lib.hid ((hb2.block _ (lt_row ROW.out)).trans ROW.out)
  have B2 := Lib.hid (show Below q w w2 from B.out.trans (hb2.mono (by rw [← HQ.out]; exact B.out.size)))
  clear hb2 RT c0 c1' c2' c3 c4 c5 c6 c7 c8 ROW
  obtain ⟨c0, c1', c2', c3, c4, c5, c6, c7, c8⟩ := cells9 R2.out
  go_wp2_with fail
  with_reducible refine (TX.out w2).mono ?_
  rintro e w3 ⟨rfl, hb3⟩
  have QS := Lib.hid (show q ≤ w2.heap.size by rw [← HQ.out]; exact B2.out.size)
  have R3 := Lib.hid ((hb3.block _ (lt_row R2.out)).trans R2.out)
  have B3 := Lib.hid (B2.out.trans (hb3.mono QS.out))
  have QS3 := Lib.hid (Nat.le_trans QS.out hb3.size)
  clear hb3 TX c0 c1' c2' c3 c4 c5 c6 c7 c8
  obtain ⟨c0, c1', c2', c3, c4, c5, c6, c7, c8⟩ := cells9 R3.out
  have ck := conv_kind 16 (by decide) w3
  rw [show ((16 : Nat) : Int) = 16 from rfl, HBK.out] at ck
  have bel4 := (Below.refl w3.heap.size w3).alloc (Nat.le_refl _) (.cells #[.int .u8 16] 5)
  have R4 := Lib.hid ((bel4.block _ (lt_row R3.out)).trans R3.out)
  have B4 := Lib.hid (B3.out.trans (bel4.mono QS3.out))
  have QS4 := Lib.hid (Nat.le_trans QS3.out bel4.size)
  clear bel4
  go_upto_region 5 with (fail)
  clear ck c0 c1' c2' c3 c4 c5 c6 c7 c8
  generalize w3.alloc _ = w4 at *
  obtain ⟨c0, c1', c2', c3, c4, c5, c6, c7, c8⟩ := cells9 R4.out
  have hl : ∀ (i : Nat) (hi : i < ([N] : List Int).length), 0 ≤ ([N] : List Int)[i] ∧ ([N] : List Int)[i] ≤ MX := fun i hi => by
      match i, hi with
      | 0, _ => exact BND.out.2.2.1

  have row5 := heap_alloc_last w4 (.cells #[.int .i64 N] 3)
  have bel5 := (Below.refl w4.heap.size w4).alloc (Nat.le_refl _) (.cells #[.int .i64 N] 3)
  have PN := Lib.hid (put_nums [N] hl (by simp) w4.heap.size (w4.alloc (.cells #[.int .i64 N] 3)) row5)
  have hz5 : (numsT [N]).size ≤ 8 := numsT_size [N]
  have R5 := Lib.hid ((bel5.block _ (lt_row R4.out)).trans R4.out)
  have B5 := Lib.hid (B4.out.trans (bel5.mono QS4.out))
  have QS5 := Lib.hid (Nat.le_trans QS4.out bel5.size)
  obtain ⟨NX, hNX⟩ : ∃ T, numsT [N] = T := ⟨_, rfl⟩
  rw [hNX] at hz5 PN
  have HNX := Lib.hid hNX
  obtain ⟨nz, hnz⟩ : ∃ z, NX.size = z := ⟨_, rfl⟩
  rw [hnz] at hz5
  have q1 : ¬ 9223372036854775807 < 1 + nz := by omega
  have q2 : ¬ 9223372036854775807 < 1 + nz + tz := by omega
  clear hl row5 bel5 hNX
  go_wp2_with fail
  refine PN.out.mono ?_
  rintro e w6 ⟨rfl, hb6⟩
  have R6 := Lib.hid ((hb6.block _ (lt_row R5.out)).trans R5.out)
  have B6 := Lib.hid (B5.out.trans (hb6.mono QS5.out))
  clear hb6 PN c0 c1' c2' c3 c4 c5 c6 c7 c8
  obtain ⟨c0, c1', c2', c3, c4, c5, c6, c7, c8⟩ := cells9 R6.out
  go_wp2_with fail
  go_ret2
  exact ⟨ret_str (show SS = BK ++ NX from by rw [HS.out, HBK.out, ← HNX.out]; rfl), by rw [HQ.out]; exact B6.out⟩
set_option maxHeartbeats 16000000 in
theorem docPut_20 (S O N C : Int) (F : Bool) (D X : ByteArray) (A : List (Int × Int)) (u : Value) (w : World) (hu : SpansIn w u A) (hDm : D.size ≤ maxLen) (hXm : X.size ≤ maxLen) (SS : ByteArray) (hp : putF ⟨20, S, O, N, C, F, D, X, A⟩ = some SS) :
    Calls Tryd.prog 7 #[.agg (frC 20 S O N C F D X u)] w fun e w' => e = .returned (.tuple #[.string SS, .int .i64 0]) ∧ Below w.heap.size w w' := by
  obtain ⟨a, c, rfl, _, _⟩ := hu.at_
  have RT := Lib.hid (fun (w' : World) (hb : Below w.heap.size w w') => (show Calls Tryd.prog 16 #[.agg (frC 20 S O N C F D X (.slice a A.length c))] w' fun e w'' => e = .returned (.bool true) ∧ Below w'.heap.size w' w'' from by
    have h := right_front 20 S O N C F D X A (.slice a A.length c) w' (hu.later hb) hDm hXm
    rw [hp] at h
    exact h))
  obtain ⟨⟨s1, s2⟩, ⟨o1, o2⟩, ⟨n1, n2⟩, ⟨c1, c2⟩, hd⟩ := okD_of hp
  dsimp only at s1 s2 o1 o2 n1 n2 c1 c2 hd
  have BND := Lib.hid (And.intro (And.intro s1 s2) (And.intro (And.intro o1 o2) (And.intro (And.intro n1 n2) (And.intro c1 c2))))
  have hS := put_bytes (k := 20) (ps := [2]) hp rfl rfl
  have TX := Lib.hid (fun (w' : World) => docText_at D w' hd)
  obtain ⟨d, hdd⟩ : ∃ d, D.size = d := ⟨_, rfl⟩
  rw [hdd] at TX hd
  have hT8 := text_size d D hdd
  have HDD := Lib.hid hdd
  obtain ⟨TT, hTT⟩ : ∃ T, numT (d : Int) ++ D = T := ⟨_, rfl⟩
  rw [hTT] at TX hT8
  have HTT := Lib.hid hTT
  obtain ⟨tz, htz⟩ : ∃ z, TT.size = z := ⟨_, rfl⟩
  rw [htz] at hT8
  obtain ⟨m, hm⟩ : ∃ m, A.length = m := ⟨_, rfl⟩
  rw [hm] at RT ⊢
  have HS := Lib.hid hS
  obtain ⟨BK, hBK⟩ : ∃ b, byteT 20 = b := ⟨_, rfl⟩
  have hBz : BK.size = 1 := by rw [← hBK]; exact strOf_size _ _
  have HBK := Lib.hid hBK
  clear hp hS hTT hdd s1 s2 o1 o2 n1 n2 c1 c2 hu hDm hXm hm hBK
  unfold frC at RT ⊢
  have row := heap_alloc_last w (.cells #[.int .i64 20, .int .i64 S, .int .i64 O, .int .i64 N, .int .i64 C, .bool F, .string D, .string X, .slice a m c] 24)
  have bel := (Below.refl w.heap.size w).alloc (Nat.le_refl _) (.cells #[.int .i64 20, .int .i64 S, .int .i64 O, .int .i64 N, .int .i64 C, .bool F, .string D, .string X, .slice a m c] 24)
  go_enter Tryd.func7, Tryd.ntmps7
  go_upto_region 1 with (fail)
  generalize w.alloc _ = wa at *
  generalize hq : w.heap.size = q at *
  have HQ := Lib.hid hq
  have ROW := Lib.hid row
  have B := Lib.hid bel
  obtain ⟨c0, c1', c2', c3, c4, c5, c6, c7, c8⟩ := cells9 row
  clear row bel hq
  go_wp2_with fail
  with_reducible refine (RT.out wa B.out).mono ?_
  rintro e w2 ⟨rfl, hb2⟩
  have R2 := Lib.hid ((hb2.block _ (lt_row ROW.out)).trans ROW.out)
  have B2 := Lib.hid (show Below q w w2 from B.out.trans (hb2.mono (by rw [← HQ.out]; exact B.out.size)))
  clear hb2 RT c0 c1' c2' c3 c4 c5 c6 c7 c8 ROW
  obtain ⟨c0, c1', c2', c3, c4, c5, c6, c7, c8⟩ := cells9 R2.out
  go_wp2_with fail
  with_reducible refine (TX.out w2).mono ?_
  rintro e w3 ⟨rfl, hb3⟩
  have QS := Lib.hid (show q ≤ w2.heap.size by rw [← HQ.out]; exact B2.out.size)
  have R3 := Lib.hid ((hb3.block _ (lt_row R2.out)).trans R2.out)
  have B3 := Lib.hid (B2.out.trans (hb3.mono QS.out))
  have QS3 := Lib.hid (Nat.le_trans QS.out hb3.size)
  clear hb3 TX c0 c1' c2' c3 c4 c5 c6 c7 c8
  obtain ⟨c0, c1', c2', c3, c4, c5, c6, c7, c8⟩ := cells9 R3.out
  have ck := conv_kind 20 (by decide) w3
  rw [show ((20 : Nat) : Int) = 20 from rfl, HBK.out] at ck
  have bel4 := (Below.refl w3.heap.size w3).alloc (Nat.le_refl _) (.cells #[.int .u8 20] 5)
  have R4 := Lib.hid ((bel4.block _ (lt_row R3.out)).trans R3.out)
  have B4 := Lib.hid (B3.out.trans (bel4.mono QS3.out))
  have QS4 := Lib.hid (Nat.le_trans QS3.out bel4.size)
  clear bel4
  go_upto_region 5 with (fail)
  clear ck c0 c1' c2' c3 c4 c5 c6 c7 c8
  generalize w3.alloc _ = w4 at *
  obtain ⟨c0, c1', c2', c3, c4, c5, c6, c7, c8⟩ := cells9 R4.out
  have hl : ∀ (i : Nat) (hi : i < ([N] : List Int).length), 0 ≤ ([N] : List Int)[i] ∧ ([N] : List Int)[i] ≤ MX := fun i hi => by
      match i, hi with
      | 0, _ => exact BND.out.2.2.1

  have row5 := heap_alloc_last w4 (.cells #[.int .i64 N] 3)
  have bel5 := (Below.refl w4.heap.size w4).alloc (Nat.le_refl _) (.cells #[.int .i64 N] 3)
  have PN := Lib.hid (put_nums [N] hl (by simp) w4.heap.size (w4.alloc (.cells #[.int .i64 N] 3)) row5)
  have hz5 : (numsT [N]).size ≤ 8 := numsT_size [N]
  have R5 := Lib.hid ((bel5.block _ (lt_row R4.out)).trans R4.out)
  have B5 := Lib.hid (B4.out.trans (bel5.mono QS4.out))
  have QS5 := Lib.hid (Nat.le_trans QS4.out bel5.size)
  obtain ⟨NX, hNX⟩ : ∃ T, numsT [N] = T := ⟨_, rfl⟩
  rw [hNX] at hz5 PN
  have HNX := Lib.hid hNX
  obtain ⟨nz, hnz⟩ : ∃ z, NX.size = z := ⟨_, rfl⟩
  rw [hnz] at hz5
  have q1 : ¬ 9223372036854775807 < 1 + nz := by omega
  have q2 : ¬ 9223372036854775807 < 1 + nz + tz := by omega
  clear hl row5 bel5 hNX
  go_wp2_with fail
  refine PN.out.mono ?_
  rintro e w6 ⟨rfl, hb6⟩
  have R6 := Lib.hid ((hb6.block _ (lt_row R5.out)).trans R5.out)
  have B6 := Lib.hid (B5.out.trans (hb6.mono QS5.out))
  clear hb6 PN c0 c1' c2' c3 c4 c5 c6 c7 c8
  obtain ⟨c0, c1', c2', c3, c4, c5, c6, c7, c8⟩ := cells9 R6.out
  go_wp2_with fail
  go_ret2
  exact ⟨ret_str (show SS = BK ++ NX from by rw [HS.out, HBK.out, ← HNX.out]; rfl), by rw [HQ.out]; exact B6.out⟩
set_option maxHeartbeats 16000000 in
theorem docPut_25 (S O N C : Int) (F : Bool) (D X : ByteArray) (A : List (Int × Int)) (u : Value) (w : World) (hu : SpansIn w u A) (hDm : D.size ≤ maxLen) (hXm : X.size ≤ maxLen) (SS : ByteArray) (hp : putF ⟨25, S, O, N, C, F, D, X, A⟩ = some SS) :
    Calls Tryd.prog 7 #[.agg (frC 25 S O N C F D X u)] w fun e w' => e = .returned (.tuple #[.string SS, .int .i64 0]) ∧ Below w.heap.size w w' := by
  obtain ⟨a, c, rfl, _, _⟩ := hu.at_
  have RT := Lib.hid (fun (w' : World) (hb : Below w.heap.size w w') => (show Calls Tryd.prog 16 #[.agg (frC 25 S O N C F D X (.slice a A.length c))] w' fun e w'' => e = .returned (.bool true) ∧ Below w'.heap.size w' w'' from by
    have h := right_front 25 S O N C F D X A (.slice a A.length c) w' (hu.later hb) hDm hXm
    rw [hp] at h
    exact h))
  obtain ⟨⟨s1, s2⟩, ⟨o1, o2⟩, ⟨n1, n2⟩, ⟨c1, c2⟩, hd⟩ := okD_of hp
  dsimp only at s1 s2 o1 o2 n1 n2 c1 c2 hd
  have BND := Lib.hid (And.intro (And.intro s1 s2) (And.intro (And.intro o1 o2) (And.intro (And.intro n1 n2) (And.intro c1 c2))))
  have hS := put_bytes (k := 25) (ps := [2]) hp rfl rfl
  have TX := Lib.hid (fun (w' : World) => docText_at D w' hd)
  obtain ⟨d, hdd⟩ : ∃ d, D.size = d := ⟨_, rfl⟩
  rw [hdd] at TX hd
  have hT8 := text_size d D hdd
  have HDD := Lib.hid hdd
  obtain ⟨TT, hTT⟩ : ∃ T, numT (d : Int) ++ D = T := ⟨_, rfl⟩
  rw [hTT] at TX hT8
  have HTT := Lib.hid hTT
  obtain ⟨tz, htz⟩ : ∃ z, TT.size = z := ⟨_, rfl⟩
  rw [htz] at hT8
  obtain ⟨m, hm⟩ : ∃ m, A.length = m := ⟨_, rfl⟩
  rw [hm] at RT ⊢
  have HS := Lib.hid hS
  obtain ⟨BK, hBK⟩ : ∃ b, byteT 25 = b := ⟨_, rfl⟩
  have hBz : BK.size = 1 := by rw [← hBK]; exact strOf_size _ _
  have HBK := Lib.hid hBK
  clear hp hS hTT hdd s1 s2 o1 o2 n1 n2 c1 c2 hu hDm hXm hm hBK
  unfold frC at RT ⊢
  have row := heap_alloc_last w (.cells #[.int .i64 25, .int .i64 S, .int .i64 O, .int .i64 N, .int .i64 C, .bool F, .string D, .string X, .slice a m c] 24)
  have bel := (Below.refl w.heap.size w).alloc (Nat.le_refl _) (.cells #[.int .i64 25, .int .i64 S, .int .i64 O, .int .i64 N, .int .i64 C, .bool F, .string D, .string X, .slice a m c] 24)
  go_enter Tryd.func7, Tryd.ntmps7
  go_upto_region 1 with (fail)
  generalize w.alloc _ = wa at *
  generalize hq : w.heap.size = q at *
  have HQ := Lib.hid hq
  have ROW := Lib.hid row
  have B := Lib.hid bel
  obtain ⟨c0, c1', c2', c3, c4, c5, c6, c7, c8⟩ := cells9 row
  clear row bel hq
  go_wp2_with fail
  with_reducible refine (RT.out wa B.out).mono ?_
  rintro e w2 ⟨rfl, hb2⟩
  have R2 := Lib.hid ((hb2.block _ (lt_row ROW.out)).trans ROW.out)
  have B2 := Lib.hid (show Below q w w2 from B.out.trans (hb2.mono (by rw [← HQ.out]; exact B.out.size)))
  clear hb2 RT c0 c1' c2' c3 c4 c5 c6 c7 c8 ROW
  obtain ⟨c0, c1', c2', c3, c4, c5, c6, c7, c8⟩ := cells9 R2.out
  go_wp2_with fail
  with_reducible refine (TX.out w2).mono ?_
  rintro e w3 ⟨rfl, hb3⟩
  have QS := Lib.hid (show q ≤ w2.heap.size by rw [← HQ.out]; exact B2.out.size)
  have R3 := Lib.hid ((hb3.block _ (lt_row R2.out)).trans R2.out)
  have B3 := Lib.hid (B2.out.trans (hb3.mono QS.out))
  have QS3 := Lib.hid (Nat.le_trans QS.out hb3.size)
  clear hb3 TX c0 c1' c2' c3 c4 c5 c6 c7 c8
  obtain ⟨c0, c1', c2', c3, c4, c5, c6, c7, c8⟩ := cells9 R3.out
  have ck := conv_kind 25 (by decide) w3
  rw [show ((25 : Nat) : Int) = 25 from rfl, HBK.out] at ck
  have bel4 := (Below.refl w3.heap.size w3).alloc (Nat.le_refl _) (.cells #[.int .u8 25] 5)
  have R4 := Lib.hid ((bel4.block _ (lt_row R3.out)).trans R3.out)
  have B4 := Lib.hid (B3.out.trans (bel4.mono QS3.out))
  have QS4 := Lib.hid (Nat.le_trans QS3.out bel4.size)
  clear bel4
  go_upto_region 5 with (fail)
  clear ck c0 c1' c2' c3 c4 c5 c6 c7 c8
  generalize w3.alloc _ = w4 at *
  obtain ⟨c0, c1', c2', c3, c4, c5, c6, c7, c8⟩ := cells9 R4.out
  have hl : ∀ (i : Nat) (hi : i < ([N] : List Int).length), 0 ≤ ([N] : List Int)[i] ∧ ([N] : List Int)[i] ≤ MX := fun i hi => by
      match i, hi with
      | 0, _ => exact BND.out.2.2.1

  have row5 := heap_alloc_last w4 (.cells #[.int .i64 N] 3)
  have bel5 := (Below.refl w4.heap.size w4).alloc (Nat.le_refl _) (.cells #[.int .i64 N] 3)
  have PN := Lib.hid (put_nums [N] hl (by simp) w4.heap.size (w4.alloc (.cells #[.int .i64 N] 3)) row5)
  have hz5 : (numsT [N]).size ≤ 8 := numsT_size [N]
  have R5 := Lib.hid ((bel5.block _ (lt_row R4.out)).trans R4.out)
  have B5 := Lib.hid (B4.out.trans (bel5.mono QS4.out))
  have QS5 := Lib.hid (Nat.le_trans QS4.out bel5.size)
  obtain ⟨NX, hNX⟩ : ∃ T, numsT [N] = T := ⟨_, rfl⟩
  rw [hNX] at hz5 PN
  have HNX := Lib.hid hNX
  obtain ⟨nz, hnz⟩ : ∃ z, NX.size = z := ⟨_, rfl⟩
  rw [hnz] at hz5
  have q1 : ¬ 9223372036854775807 < 1 + nz := by omega
  have q2 : ¬ 9223372036854775807 < 1 + nz + tz := by omega
  clear hl row5 bel5 hNX
  go_wp2_with fail
  refine PN.out.mono ?_
  rintro e w6 ⟨rfl, hb6⟩
  have R6 := Lib.hid ((hb6.block _ (lt_row R5.out)).trans R5.out)
  have B6 := Lib.hid (B5.out.trans (hb6.mono QS5.out))
  clear hb6 PN c0 c1' c2' c3 c4 c5 c6 c7 c8
  obtain ⟨c0, c1', c2', c3, c4, c5, c6, c7, c8⟩ := cells9 R6.out
  go_wp2_with fail
  go_ret2
  exact ⟨ret_str (show SS = BK ++ NX from by rw [HS.out, HBK.out, ← HNX.out]; rfl), by rw [HQ.out]; exact B6.out⟩
set_option maxHeartbeats 16000000 in
theorem docPut_18 (S O N C : Int) (F : Bool) (D X : ByteArray) (A : List (Int × Int)) (u : Value) (w : World) (hu : SpansIn w u A) (hDm : D.size ≤ maxLen) (hXm : X.size ≤ maxLen) (SS : ByteArray) (hp : putF ⟨18, S, O, N, C, F, D, X, A⟩ = some SS) :
    Calls Tryd.prog 7 #[.agg (frC 18 S O N C F D X u)] w fun e w' => e = .returned (.tuple #[.string SS, .int .i64 0]) ∧ Below w.heap.size w w' := by
  obtain ⟨a, c, rfl, _, _⟩ := hu.at_
  have RT := Lib.hid (fun (w' : World) (hb : Below w.heap.size w w') => (show Calls Tryd.prog 16 #[.agg (frC 18 S O N C F D X (.slice a A.length c))] w' fun e w'' => e = .returned (.bool true) ∧ Below w'.heap.size w' w'' from by
    have h := right_front 18 S O N C F D X A (.slice a A.length c) w' (hu.later hb) hDm hXm
    rw [hp] at h
    exact h))
  obtain ⟨⟨s1, s2⟩, ⟨o1, o2⟩, ⟨n1, n2⟩, ⟨c1, c2⟩, hd⟩ := okD_of hp
  dsimp only at s1 s2 o1 o2 n1 n2 c1 c2 hd
  have BND := Lib.hid (And.intro (And.intro s1 s2) (And.intro (And.intro o1 o2) (And.intro (And.intro n1 n2) (And.intro c1 c2))))
  have hS := put_bytes (k := 18) (ps := [2]) hp rfl rfl
  have TX := Lib.hid (fun (w' : World) => docText_at D w' hd)
  obtain ⟨d, hdd⟩ : ∃ d, D.size = d := ⟨_, rfl⟩
  rw [hdd] at TX hd
  have hT8 := text_size d D hdd
  have HDD := Lib.hid hdd
  obtain ⟨TT, hTT⟩ : ∃ T, numT (d : Int) ++ D = T := ⟨_, rfl⟩
  rw [hTT] at TX hT8
  have HTT := Lib.hid hTT
  obtain ⟨tz, htz⟩ : ∃ z, TT.size = z := ⟨_, rfl⟩
  rw [htz] at hT8
  obtain ⟨m, hm⟩ : ∃ m, A.length = m := ⟨_, rfl⟩
  rw [hm] at RT ⊢
  have HS := Lib.hid hS
  obtain ⟨BK, hBK⟩ : ∃ b, byteT 18 = b := ⟨_, rfl⟩
  have hBz : BK.size = 1 := by rw [← hBK]; exact strOf_size _ _
  have HBK := Lib.hid hBK
  clear hp hS hTT hdd s1 s2 o1 o2 n1 n2 c1 c2 hu hDm hXm hm hBK
  unfold frC at RT ⊢
  have row := heap_alloc_last w (.cells #[.int .i64 18, .int .i64 S, .int .i64 O, .int .i64 N, .int .i64 C, .bool F, .string D, .string X, .slice a m c] 24)
  have bel := (Below.refl w.heap.size w).alloc (Nat.le_refl _) (.cells #[.int .i64 18, .int .i64 S, .int .i64 O, .int .i64 N, .int .i64 C, .bool F, .string D, .string X, .slice a m c] 24)
  go_enter Tryd.func7, Tryd.ntmps7
  go_upto_region 1 with (fail)
  generalize w.alloc _ = wa at *
  generalize hq : w.heap.size = q at *
  have HQ := Lib.hid hq
  have ROW := Lib.hid row
  have B := Lib.hid bel
  obtain ⟨c0, c1', c2', c3, c4, c5, c6, c7, c8⟩ := cells9 row
  clear row bel hq
  go_wp2_with fail
  with_reducible refine (RT.out wa B.out).mono ?_
  rintro e w2 ⟨rfl, hb2⟩
  have R2 := Lib.hid ((hb2.block _ (lt_row ROW.out)).trans ROW.out)
  have B2 := Lib.hid (show Below q w w2 from B.out.trans (hb2.mono (by rw [← HQ.out]; exact B.out.size)))
  clear hb2 RT c0 c1' c2' c3 c4 c5 c6 c7 c8 ROW
  obtain ⟨c0, c1', c2', c3, c4, c5, c6, c7, c8⟩ := cells9 R2.out
  go_wp2_with fail
  with_reducible refine (TX.out w2).mono ?_
  rintro e w3 ⟨rfl, hb3⟩
  have QS := Lib.hid (show q ≤ w2.heap.size by rw [← HQ.out]; exact B2.out.size)
  have R3 := Lib.hid ((hb3.block _ (lt_row R2.out)).trans R2.out)
  have B3 := Lib.hid (B2.out.trans (hb3.mono QS.out))
  have QS3 := Lib.hid (Nat.le_trans QS.out hb3.size)
  clear hb3 TX c0 c1' c2' c3 c4 c5 c6 c7 c8
  obtain ⟨c0, c1', c2', c3, c4, c5, c6, c7, c8⟩ := cells9 R3.out
  have ck := conv_kind 18 (by decide) w3
  rw [show ((18 : Nat) : Int) = 18 from rfl, HBK.out] at ck
  have bel4 := (Below.refl w3.heap.size w3).alloc (Nat.le_refl _) (.cells #[.int .u8 18] 5)
  have R4 := Lib.hid ((bel4.block _ (lt_row R3.out)).trans R3.out)
  have B4 := Lib.hid (B3.out.trans (bel4.mono QS3.out))
  have QS4 := Lib.hid (Nat.le_trans QS3.out bel4.size)
  clear bel4
  go_upto_region 5 with (fail)
  clear ck c0 c1' c2' c3 c4 c5 c6 c7 c8
  generalize w3.alloc _ = w4 at *
  obtain ⟨c0, c1', c2', c3, c4, c5, c6, c7, c8⟩ := cells9 R4.out
  have hl : ∀ (i : Nat) (hi : i < ([N] : List Int).length), 0 ≤ ([N] : List Int)[i] ∧ ([N] : List Int)[i] ≤ MX := fun i hi => by
      match i, hi with
      | 0, _ => exact BND.out.2.2.1

  have row5 := heap_alloc_last w4 (.cells #[.int .i64 N] 3)
  have bel5 := (Below.refl w4.heap.size w4).alloc (Nat.le_refl _) (.cells #[.int .i64 N] 3)
  have PN := Lib.hid (put_nums [N] hl (by simp) w4.heap.size (w4.alloc (.cells #[.int .i64 N] 3)) row5)
  have hz5 : (numsT [N]).size ≤ 8 := numsT_size [N]
  have R5 := Lib.hid ((bel5.block _ (lt_row R4.out)).trans R4.out)
  have B5 := Lib.hid (B4.out.trans (bel5.mono QS4.out))
  have QS5 := Lib.hid (Nat.le_trans QS4.out bel5.size)
  obtain ⟨NX, hNX⟩ : ∃ T, numsT [N] = T := ⟨_, rfl⟩
  rw [hNX] at hz5 PN
  have HNX := Lib.hid hNX
  obtain ⟨nz, hnz⟩ : ∃ z, NX.size = z := ⟨_, rfl⟩
  rw [hnz] at hz5
  have q1 : ¬ 9223372036854775807 < 1 + nz := by omega
  have q2 : ¬ 9223372036854775807 < 1 + nz + tz := by omega
  clear hl row5 bel5 hNX
  go_wp2_with fail
  refine PN.out.mono ?_
  rintro e w6 ⟨rfl, hb6⟩
  have R6 := Lib.hid ((hb6.block _ (lt_row R5.out)).trans R5.out)
  have B6 := Lib.hid (B5.out.trans (hb6.mono QS5.out))
  clear hb6 PN c0 c1' c2' c3 c4 c5 c6 c7 c8
  obtain ⟨c0, c1', c2', c3, c4, c5, c6, c7, c8⟩ := cells9 R6.out
  go_wp2_with fail
  go_ret2
  exact ⟨ret_str (show SS = BK ++ NX from by rw [HS.out, HBK.out, ← HNX.out]; rfl), by rw [HQ.out]; exact B6.out⟩
set_option maxHeartbeats 16000000 in
theorem docPut_22 (S O N C : Int) (F : Bool) (D X : ByteArray) (A : List (Int × Int)) (u : Value) (w : World) (hu : SpansIn w u A) (hDm : D.size ≤ maxLen) (hXm : X.size ≤ maxLen) (SS : ByteArray) (hp : putF ⟨22, S, O, N, C, F, D, X, A⟩ = some SS) :
    Calls Tryd.prog 7 #[.agg (frC 22 S O N C F D X u)] w fun e w' => e = .returned (.tuple #[.string SS, .int .i64 0]) ∧ Below w.heap.size w w' := by
  obtain ⟨a, c, rfl, _, _⟩ := hu.at_
  have RT := Lib.hid (fun (w' : World) (hb : Below w.heap.size w w') => (show Calls Tryd.prog 16 #[.agg (frC 22 S O N C F D X (.slice a A.length c))] w' fun e w'' => e = .returned (.bool true) ∧ Below w'.heap.size w' w'' from by
    have h := right_front 22 S O N C F D X A (.slice a A.length c) w' (hu.later hb) hDm hXm
    rw [hp] at h
    exact h))
  obtain ⟨⟨s1, s2⟩, ⟨o1, o2⟩, ⟨n1, n2⟩, ⟨c1, c2⟩, hd⟩ := okD_of hp
  dsimp only at s1 s2 o1 o2 n1 n2 c1 c2 hd
  have BND := Lib.hid (And.intro (And.intro s1 s2) (And.intro (And.intro o1 o2) (And.intro (And.intro n1 n2) (And.intro c1 c2))))
  have hS := put_bytes (k := 22) (ps := [2]) hp rfl rfl
  have TX := Lib.hid (fun (w' : World) => docText_at D w' hd)
  obtain ⟨d, hdd⟩ : ∃ d, D.size = d := ⟨_, rfl⟩
  rw [hdd] at TX hd
  have hT8 := text_size d D hdd
  have HDD := Lib.hid hdd
  obtain ⟨TT, hTT⟩ : ∃ T, numT (d : Int) ++ D = T := ⟨_, rfl⟩
  rw [hTT] at TX hT8
  have HTT := Lib.hid hTT
  obtain ⟨tz, htz⟩ : ∃ z, TT.size = z := ⟨_, rfl⟩
  rw [htz] at hT8
  obtain ⟨m, hm⟩ : ∃ m, A.length = m := ⟨_, rfl⟩
  rw [hm] at RT ⊢
  have HS := Lib.hid hS
  obtain ⟨BK, hBK⟩ : ∃ b, byteT 22 = b := ⟨_, rfl⟩
  have hBz : BK.size = 1 := by rw [← hBK]; exact strOf_size _ _
  have HBK := Lib.hid hBK
  clear hp hS hTT hdd s1 s2 o1 o2 n1 n2 c1 c2 hu hDm hXm hm hBK
  unfold frC at RT ⊢
  have row := heap_alloc_last w (.cells #[.int .i64 22, .int .i64 S, .int .i64 O, .int .i64 N, .int .i64 C, .bool F, .string D, .string X, .slice a m c] 24)
  have bel := (Below.refl w.heap.size w).alloc (Nat.le_refl _) (.cells #[.int .i64 22, .int .i64 S, .int .i64 O, .int .i64 N, .int .i64 C, .bool F, .string D, .string X, .slice a m c] 24)
  go_enter Tryd.func7, Tryd.ntmps7
  go_upto_region 1 with (fail)
  generalize w.alloc _ = wa at *
  generalize hq : w.heap.size = q at *
  have HQ := Lib.hid hq
  have ROW := Lib.hid row
  have B := Lib.hid bel
  obtain ⟨c0, c1', c2', c3, c4, c5, c6, c7, c8⟩ := cells9 row
  clear row bel hq
  go_wp2_with fail
  with_reducible refine (RT.out wa B.out).mono ?_
  rintro e w2 ⟨rfl, hb2⟩
  have R2 := Lib.hid ((hb2.block _ (lt_row ROW.out)).trans ROW.out)
  have B2 := Lib.hid (show Below q w w2 from B.out.trans (hb2.mono (by rw [← HQ.out]; exact B.out.size)))
  clear hb2 RT c0 c1' c2' c3 c4 c5 c6 c7 c8 ROW
  obtain ⟨c0, c1', c2', c3, c4, c5, c6, c7, c8⟩ := cells9 R2.out
  go_wp2_with fail
  with_reducible refine (TX.out w2).mono ?_
  rintro e w3 ⟨rfl, hb3⟩
  have QS := Lib.hid (show q ≤ w2.heap.size by rw [← HQ.out]; exact B2.out.size)
  have R3 := Lib.hid ((hb3.block _ (lt_row R2.out)).trans R2.out)
  have B3 := Lib.hid (B2.out.trans (hb3.mono QS.out))
  have QS3 := Lib.hid (Nat.le_trans QS.out hb3.size)
  clear hb3 TX c0 c1' c2' c3 c4 c5 c6 c7 c8
  obtain ⟨c0, c1', c2', c3, c4, c5, c6, c7, c8⟩ := cells9 R3.out
  have ck := conv_kind 22 (by decide) w3
  rw [show ((22 : Nat) : Int) = 22 from rfl, HBK.out] at ck
  have bel4 := (Below.refl w3.heap.size w3).alloc (Nat.le_refl _) (.cells #[.int .u8 22] 5)
  have R4 := Lib.hid ((bel4.block _ (lt_row R3.out)).trans R3.out)
  have B4 := Lib.hid (B3.out.trans (bel4.mono QS3.out))
  have QS4 := Lib.hid (Nat.le_trans QS3.out bel4.size)
  clear bel4
  go_upto_region 5 with (fail)
  clear ck c0 c1' c2' c3 c4 c5 c6 c7 c8
  generalize w3.alloc _ = w4 at *
  obtain ⟨c0, c1', c2', c3, c4, c5, c6, c7, c8⟩ := cells9 R4.out
  have hl : ∀ (i : Nat) (hi : i < ([N] : List Int).length), 0 ≤ ([N] : List Int)[i] ∧ ([N] : List Int)[i] ≤ MX := fun i hi => by
      match i, hi with
      | 0, _ => exact BND.out.2.2.1

  have row5 := heap_alloc_last w4 (.cells #[.int .i64 N] 3)
  have bel5 := (Below.refl w4.heap.size w4).alloc (Nat.le_refl _) (.cells #[.int .i64 N] 3)
  have PN := Lib.hid (put_nums [N] hl (by simp) w4.heap.size (w4.alloc (.cells #[.int .i64 N] 3)) row5)
  have hz5 : (numsT [N]).size ≤ 8 := numsT_size [N]
  have R5 := Lib.hid ((bel5.block _ (lt_row R4.out)).trans R4.out)
  have B5 := Lib.hid (B4.out.trans (bel5.mono QS4.out))
  have QS5 := Lib.hid (Nat.le_trans QS4.out bel5.size)
  obtain ⟨NX, hNX⟩ : ∃ T, numsT [N] = T := ⟨_, rfl⟩
  rw [hNX] at hz5 PN
  have HNX := Lib.hid hNX
  obtain ⟨nz, hnz⟩ : ∃ z, NX.size = z := ⟨_, rfl⟩
  rw [hnz] at hz5
  have q1 : ¬ 9223372036854775807 < 1 + nz := by omega
  have q2 : ¬ 9223372036854775807 < 1 + nz + tz := by omega
  clear hl row5 bel5 hNX
  go_wp2_with fail
  refine PN.out.mono ?_
  rintro e w6 ⟨rfl, hb6⟩
  have R6 := Lib.hid ((hb6.block _ (lt_row R5.out)).trans R5.out)
  have B6 := Lib.hid (B5.out.trans (hb6.mono QS5.out))
  clear hb6 PN c0 c1' c2' c3 c4 c5 c6 c7 c8
  obtain ⟨c0, c1', c2', c3, c4, c5, c6, c7, c8⟩ := cells9 R6.out
  go_wp2_with fail
  go_ret2
  exact ⟨ret_str (show SS = BK ++ NX from by rw [HS.out, HBK.out, ← HNX.out]; rfl), by rw [HQ.out]; exact B6.out⟩
set_option maxHeartbeats 16000000 in
theorem docPut_17 (S O N C : Int) (F : Bool) (D X : ByteArray) (A : List (Int × Int)) (u : Value) (w : World) (hu : SpansIn w u A) (hDm : D.size ≤ maxLen) (hXm : X.size ≤ maxLen) (SS : ByteArray) (hp : putF ⟨17, S, O, N, C, F, D, X, A⟩ = some SS) :
    Calls Tryd.prog 7 #[.agg (frC 17 S O N C F D X u)] w fun e w' => e = .returned (.tuple #[.string SS, .int .i64 0]) ∧ Below w.heap.size w w' := by
  obtain ⟨a, c, rfl, _, _⟩ := hu.at_
  have RT := Lib.hid (fun (w' : World) (hb : Below w.heap.size w w') => (show Calls Tryd.prog 16 #[.agg (frC 17 S O N C F D X (.slice a A.length c))] w' fun e w'' => e = .returned (.bool true) ∧ Below w'.heap.size w' w'' from by
    have h := right_front 17 S O N C F D X A (.slice a A.length c) w' (hu.later hb) hDm hXm
    rw [hp] at h
    exact h))
  obtain ⟨⟨s1, s2⟩, ⟨o1, o2⟩, ⟨n1, n2⟩, ⟨c1, c2⟩, hd⟩ := okD_of hp
  dsimp only at s1 s2 o1 o2 n1 n2 c1 c2 hd
  have BND := Lib.hid (And.intro (And.intro s1 s2) (And.intro (And.intro o1 o2) (And.intro (And.intro n1 n2) (And.intro c1 c2))))
  have hS := put_bytes (k := 17) (ps := [0, 2]) hp rfl rfl
  have TX := Lib.hid (fun (w' : World) => docText_at D w' hd)
  obtain ⟨d, hdd⟩ : ∃ d, D.size = d := ⟨_, rfl⟩
  rw [hdd] at TX hd
  have hT8 := text_size d D hdd
  have HDD := Lib.hid hdd
  obtain ⟨TT, hTT⟩ : ∃ T, numT (d : Int) ++ D = T := ⟨_, rfl⟩
  rw [hTT] at TX hT8
  have HTT := Lib.hid hTT
  obtain ⟨tz, htz⟩ : ∃ z, TT.size = z := ⟨_, rfl⟩
  rw [htz] at hT8
  obtain ⟨m, hm⟩ : ∃ m, A.length = m := ⟨_, rfl⟩
  rw [hm] at RT ⊢
  have HS := Lib.hid hS
  obtain ⟨BK, hBK⟩ : ∃ b, byteT 17 = b := ⟨_, rfl⟩
  have hBz : BK.size = 1 := by rw [← hBK]; exact strOf_size _ _
  have HBK := Lib.hid hBK
  clear hp hS hTT hdd s1 s2 o1 o2 n1 n2 c1 c2 hu hDm hXm hm hBK
  unfold frC at RT ⊢
  have row := heap_alloc_last w (.cells #[.int .i64 17, .int .i64 S, .int .i64 O, .int .i64 N, .int .i64 C, .bool F, .string D, .string X, .slice a m c] 24)
  have bel := (Below.refl w.heap.size w).alloc (Nat.le_refl _) (.cells #[.int .i64 17, .int .i64 S, .int .i64 O, .int .i64 N, .int .i64 C, .bool F, .string D, .string X, .slice a m c] 24)
  go_enter Tryd.func7, Tryd.ntmps7
  go_upto_region 1 with (fail)
  generalize w.alloc _ = wa at *
  generalize hq : w.heap.size = q at *
  have HQ := Lib.hid hq
  have ROW := Lib.hid row
  have B := Lib.hid bel
  obtain ⟨c0, c1', c2', c3, c4, c5, c6, c7, c8⟩ := cells9 row
  clear row bel hq
  go_wp2_with fail
  with_reducible refine (RT.out wa B.out).mono ?_
  rintro e w2 ⟨rfl, hb2⟩
  have R2 := Lib.hid ((hb2.block _ (lt_row ROW.out)).trans ROW.out)
  have B2 := Lib.hid (show Below q w w2 from B.out.trans (hb2.mono (by rw [← HQ.out]; exact B.out.size)))
  clear hb2 RT c0 c1' c2' c3 c4 c5 c6 c7 c8 ROW
  obtain ⟨c0, c1', c2', c3, c4, c5, c6, c7, c8⟩ := cells9 R2.out
  go_wp2_with fail
  with_reducible refine (TX.out w2).mono ?_
  rintro e w3 ⟨rfl, hb3⟩
  have QS := Lib.hid (show q ≤ w2.heap.size by rw [← HQ.out]; exact B2.out.size)
  have R3 := Lib.hid ((hb3.block _ (lt_row R2.out)).trans R2.out)
  have B3 := Lib.hid (B2.out.trans (hb3.mono QS.out))
  have QS3 := Lib.hid (Nat.le_trans QS.out hb3.size)
  clear hb3 TX c0 c1' c2' c3 c4 c5 c6 c7 c8
  obtain ⟨c0, c1', c2', c3, c4, c5, c6, c7, c8⟩ := cells9 R3.out
  have ck := conv_kind 17 (by decide) w3
  rw [show ((17 : Nat) : Int) = 17 from rfl, HBK.out] at ck
  have bel4 := (Below.refl w3.heap.size w3).alloc (Nat.le_refl _) (.cells #[.int .u8 17] 5)
  have R4 := Lib.hid ((bel4.block _ (lt_row R3.out)).trans R3.out)
  have B4 := Lib.hid (B3.out.trans (bel4.mono QS3.out))
  have QS4 := Lib.hid (Nat.le_trans QS3.out bel4.size)
  clear bel4
  go_upto_region 5 with (fail)
  clear ck c0 c1' c2' c3 c4 c5 c6 c7 c8
  generalize w3.alloc _ = w4 at *
  obtain ⟨c0, c1', c2', c3, c4, c5, c6, c7, c8⟩ := cells9 R4.out
  have hl : ∀ (i : Nat) (hi : i < ([S, N] : List Int).length), 0 ≤ ([S, N] : List Int)[i] ∧ ([S, N] : List Int)[i] ≤ MX := fun i hi => by
      match i, hi with
      | 0, _ => exact BND.out.1
      | 1, _ => exact BND.out.2.2.1

  have row5 := heap_alloc_last w4 (.cells #[.int .i64 S, .int .i64 N] 3)
  have bel5 := (Below.refl w4.heap.size w4).alloc (Nat.le_refl _) (.cells #[.int .i64 S, .int .i64 N] 3)
  have PN := Lib.hid (put_nums [S, N] hl (by simp) w4.heap.size (w4.alloc (.cells #[.int .i64 S, .int .i64 N] 3)) row5)
  have hz5 : (numsT [S, N]).size ≤ 16 := numsT_size [S, N]
  have R5 := Lib.hid ((bel5.block _ (lt_row R4.out)).trans R4.out)
  have B5 := Lib.hid (B4.out.trans (bel5.mono QS4.out))
  have QS5 := Lib.hid (Nat.le_trans QS4.out bel5.size)
  obtain ⟨NX, hNX⟩ : ∃ T, numsT [S, N] = T := ⟨_, rfl⟩
  rw [hNX] at hz5 PN
  have HNX := Lib.hid hNX
  obtain ⟨nz, hnz⟩ : ∃ z, NX.size = z := ⟨_, rfl⟩
  rw [hnz] at hz5
  have q1 : ¬ 9223372036854775807 < 1 + nz := by omega
  have q2 : ¬ 9223372036854775807 < 1 + nz + tz := by omega
  clear hl row5 bel5 hNX
  go_wp2_with fail
  refine PN.out.mono ?_
  rintro e w6 ⟨rfl, hb6⟩
  have R6 := Lib.hid ((hb6.block _ (lt_row R5.out)).trans R5.out)
  have B6 := Lib.hid (B5.out.trans (hb6.mono QS5.out))
  clear hb6 PN c0 c1' c2' c3 c4 c5 c6 c7 c8
  obtain ⟨c0, c1', c2', c3, c4, c5, c6, c7, c8⟩ := cells9 R6.out
  go_wp2_with fail
  go_ret2
  exact ⟨ret_str (show SS = BK ++ NX from by rw [HS.out, HBK.out, ← HNX.out]; rfl), by rw [HQ.out]; exact B6.out⟩
set_option maxHeartbeats 16000000 in
theorem docPut_21 (S O N C : Int) (F : Bool) (D X : ByteArray) (A : List (Int × Int)) (u : Value) (w : World) (hu : SpansIn w u A) (hDm : D.size ≤ maxLen) (hXm : X.size ≤ maxLen) (SS : ByteArray) (hp : putF ⟨21, S, O, N, C, F, D, X, A⟩ = some SS) :
    Calls Tryd.prog 7 #[.agg (frC 21 S O N C F D X u)] w fun e w' => e = .returned (.tuple #[.string SS, .int .i64 0]) ∧ Below w.heap.size w w' := by
  obtain ⟨a, c, rfl, _, _⟩ := hu.at_
  have RT := Lib.hid (fun (w' : World) (hb : Below w.heap.size w w') => (show Calls Tryd.prog 16 #[.agg (frC 21 S O N C F D X (.slice a A.length c))] w' fun e w'' => e = .returned (.bool true) ∧ Below w'.heap.size w' w'' from by
    have h := right_front 21 S O N C F D X A (.slice a A.length c) w' (hu.later hb) hDm hXm
    rw [hp] at h
    exact h))
  obtain ⟨⟨s1, s2⟩, ⟨o1, o2⟩, ⟨n1, n2⟩, ⟨c1, c2⟩, hd⟩ := okD_of hp
  dsimp only at s1 s2 o1 o2 n1 n2 c1 c2 hd
  have BND := Lib.hid (And.intro (And.intro s1 s2) (And.intro (And.intro o1 o2) (And.intro (And.intro n1 n2) (And.intro c1 c2))))
  have hS := put_bytes (k := 21) (ps := [0, 2]) hp rfl rfl
  have TX := Lib.hid (fun (w' : World) => docText_at D w' hd)
  obtain ⟨d, hdd⟩ : ∃ d, D.size = d := ⟨_, rfl⟩
  rw [hdd] at TX hd
  have hT8 := text_size d D hdd
  have HDD := Lib.hid hdd
  obtain ⟨TT, hTT⟩ : ∃ T, numT (d : Int) ++ D = T := ⟨_, rfl⟩
  rw [hTT] at TX hT8
  have HTT := Lib.hid hTT
  obtain ⟨tz, htz⟩ : ∃ z, TT.size = z := ⟨_, rfl⟩
  rw [htz] at hT8
  obtain ⟨m, hm⟩ : ∃ m, A.length = m := ⟨_, rfl⟩
  rw [hm] at RT ⊢
  have HS := Lib.hid hS
  obtain ⟨BK, hBK⟩ : ∃ b, byteT 21 = b := ⟨_, rfl⟩
  have hBz : BK.size = 1 := by rw [← hBK]; exact strOf_size _ _
  have HBK := Lib.hid hBK
  clear hp hS hTT hdd s1 s2 o1 o2 n1 n2 c1 c2 hu hDm hXm hm hBK
  unfold frC at RT ⊢
  have row := heap_alloc_last w (.cells #[.int .i64 21, .int .i64 S, .int .i64 O, .int .i64 N, .int .i64 C, .bool F, .string D, .string X, .slice a m c] 24)
  have bel := (Below.refl w.heap.size w).alloc (Nat.le_refl _) (.cells #[.int .i64 21, .int .i64 S, .int .i64 O, .int .i64 N, .int .i64 C, .bool F, .string D, .string X, .slice a m c] 24)
  go_enter Tryd.func7, Tryd.ntmps7
  go_upto_region 1 with (fail)
  generalize w.alloc _ = wa at *
  generalize hq : w.heap.size = q at *
  have HQ := Lib.hid hq
  have ROW := Lib.hid row
  have B := Lib.hid bel
  obtain ⟨c0, c1', c2', c3, c4, c5, c6, c7, c8⟩ := cells9 row
  clear row bel hq
  go_wp2_with fail
  with_reducible refine (RT.out wa B.out).mono ?_
  rintro e w2 ⟨rfl, hb2⟩
  have R2 := Lib.hid ((hb2.block _ (lt_row ROW.out)).trans ROW.out)
  have B2 := Lib.hid (show Below q w w2 from B.out.trans (hb2.mono (by rw [← HQ.out]; exact B.out.size)))
  clear hb2 RT c0 c1' c2' c3 c4 c5 c6 c7 c8 ROW
  obtain ⟨c0, c1', c2', c3, c4, c5, c6, c7, c8⟩ := cells9 R2.out
  go_wp2_with fail
  with_reducible refine (TX.out w2).mono ?_
  rintro e w3 ⟨rfl, hb3⟩
  have QS := Lib.hid (show q ≤ w2.heap.size by rw [← HQ.out]; exact B2.out.size)
  have R3 := Lib.hid ((hb3.block _ (lt_row R2.out)).trans R2.out)
  have B3 := Lib.hid (B2.out.trans (hb3.mono QS.out))
  have QS3 := Lib.hid (Nat.le_trans QS.out hb3.size)
  clear hb3 TX c0 c1' c2' c3 c4 c5 c6 c7 c8
  obtain ⟨c0, c1', c2', c3, c4, c5, c6, c7, c8⟩ := cells9 R3.out
  have ck := conv_kind 21 (by decide) w3
  rw [show ((21 : Nat) : Int) = 21 from rfl, HBK.out] at ck
  have bel4 := (Below.refl w3.heap.size w3).alloc (Nat.le_refl _) (.cells #[.int .u8 21] 5)
  have R4 := Lib.hid ((bel4.block _ (lt_row R3.out)).trans R3.out)
  have B4 := Lib.hid (B3.out.trans (bel4.mono QS3.out))
  have QS4 := Lib.hid (Nat.le_trans QS3.out bel4.size)
  clear bel4
  go_upto_region 5 with (fail)
  clear ck c0 c1' c2' c3 c4 c5 c6 c7 c8
  generalize w3.alloc _ = w4 at *
  obtain ⟨c0, c1', c2', c3, c4, c5, c6, c7, c8⟩ := cells9 R4.out
  have hl : ∀ (i : Nat) (hi : i < ([S, N] : List Int).length), 0 ≤ ([S, N] : List Int)[i] ∧ ([S, N] : List Int)[i] ≤ MX := fun i hi => by
      match i, hi with
      | 0, _ => exact BND.out.1
      | 1, _ => exact BND.out.2.2.1

  have row5 := heap_alloc_last w4 (.cells #[.int .i64 S, .int .i64 N] 3)
  have bel5 := (Below.refl w4.heap.size w4).alloc (Nat.le_refl _) (.cells #[.int .i64 S, .int .i64 N] 3)
  have PN := Lib.hid (put_nums [S, N] hl (by simp) w4.heap.size (w4.alloc (.cells #[.int .i64 S, .int .i64 N] 3)) row5)
  have hz5 : (numsT [S, N]).size ≤ 16 := numsT_size [S, N]
  have R5 := Lib.hid ((bel5.block _ (lt_row R4.out)).trans R4.out)
  have B5 := Lib.hid (B4.out.trans (bel5.mono QS4.out))
  have QS5 := Lib.hid (Nat.le_trans QS4.out bel5.size)
  obtain ⟨NX, hNX⟩ : ∃ T, numsT [S, N] = T := ⟨_, rfl⟩
  rw [hNX] at hz5 PN
  have HNX := Lib.hid hNX
  obtain ⟨nz, hnz⟩ : ∃ z, NX.size = z := ⟨_, rfl⟩
  rw [hnz] at hz5
  have q1 : ¬ 9223372036854775807 < 1 + nz := by omega
  have q2 : ¬ 9223372036854775807 < 1 + nz + tz := by omega
  clear hl row5 bel5 hNX
  go_wp2_with fail
  refine PN.out.mono ?_
  rintro e w6 ⟨rfl, hb6⟩
  have R6 := Lib.hid ((hb6.block _ (lt_row R5.out)).trans R5.out)
  have B6 := Lib.hid (B5.out.trans (hb6.mono QS5.out))
  clear hb6 PN c0 c1' c2' c3 c4 c5 c6 c7 c8
  obtain ⟨c0, c1', c2', c3, c4, c5, c6, c7, c8⟩ := cells9 R6.out
  go_wp2_with fail
  go_ret2
  exact ⟨ret_str (show SS = BK ++ NX from by rw [HS.out, HBK.out, ← HNX.out]; rfl), by rw [HQ.out]; exact B6.out⟩
set_option maxHeartbeats 16000000 in
theorem docPut_26 (S O N C : Int) (F : Bool) (D X : ByteArray) (A : List (Int × Int)) (u : Value) (w : World) (hu : SpansIn w u A) (hDm : D.size ≤ maxLen) (hXm : X.size ≤ maxLen) (SS : ByteArray) (hp : putF ⟨26, S, O, N, C, F, D, X, A⟩ = some SS) :
    Calls Tryd.prog 7 #[.agg (frC 26 S O N C F D X u)] w fun e w' => e = .returned (.tuple #[.string SS, .int .i64 0]) ∧ Below w.heap.size w w' := by
  obtain ⟨a, c, rfl, _, _⟩ := hu.at_
  have RT := Lib.hid (fun (w' : World) (hb : Below w.heap.size w w') => (show Calls Tryd.prog 16 #[.agg (frC 26 S O N C F D X (.slice a A.length c))] w' fun e w'' => e = .returned (.bool true) ∧ Below w'.heap.size w' w'' from by
    have h := right_front 26 S O N C F D X A (.slice a A.length c) w' (hu.later hb) hDm hXm
    rw [hp] at h
    exact h))
  obtain ⟨⟨s1, s2⟩, ⟨o1, o2⟩, ⟨n1, n2⟩, ⟨c1, c2⟩, hd⟩ := okD_of hp
  dsimp only at s1 s2 o1 o2 n1 n2 c1 c2 hd
  have BND := Lib.hid (And.intro (And.intro s1 s2) (And.intro (And.intro o1 o2) (And.intro (And.intro n1 n2) (And.intro c1 c2))))
  have hS := put_bytes (k := 26) (ps := [7]) hp rfl rfl
  have TX := Lib.hid (fun (w' : World) => docText_at D w' hd)
  obtain ⟨d, hdd⟩ : ∃ d, D.size = d := ⟨_, rfl⟩
  rw [hdd] at TX hd
  have hT8 := text_size d D hdd
  have HDD := Lib.hid hdd
  obtain ⟨TT, hTT⟩ : ∃ T, numT (d : Int) ++ D = T := ⟨_, rfl⟩
  rw [hTT] at TX hT8
  have HTT := Lib.hid hTT
  obtain ⟨tz, htz⟩ : ∃ z, TT.size = z := ⟨_, rfl⟩
  rw [htz] at hT8
  obtain ⟨m, hm⟩ : ∃ m, A.length = m := ⟨_, rfl⟩
  rw [hm] at RT ⊢
  have HS := Lib.hid hS
  obtain ⟨BK, hBK⟩ : ∃ b, byteT 26 = b := ⟨_, rfl⟩
  have hBz : BK.size = 1 := by rw [← hBK]; exact strOf_size _ _
  have HBK := Lib.hid hBK
  clear hp hS hTT hdd s1 s2 o1 o2 n1 n2 c1 c2 hu hDm hXm hm hBK
  unfold frC at RT ⊢
  have row := heap_alloc_last w (.cells #[.int .i64 26, .int .i64 S, .int .i64 O, .int .i64 N, .int .i64 C, .bool F, .string D, .string X, .slice a m c] 24)
  have bel := (Below.refl w.heap.size w).alloc (Nat.le_refl _) (.cells #[.int .i64 26, .int .i64 S, .int .i64 O, .int .i64 N, .int .i64 C, .bool F, .string D, .string X, .slice a m c] 24)
  go_enter Tryd.func7, Tryd.ntmps7
  go_upto_region 1 with (fail)
  generalize w.alloc _ = wa at *
  generalize hq : w.heap.size = q at *
  have HQ := Lib.hid hq
  have ROW := Lib.hid row
  have B := Lib.hid bel
  obtain ⟨c0, c1', c2', c3, c4, c5, c6, c7, c8⟩ := cells9 row
  clear row bel hq
  go_wp2_with fail
  with_reducible refine (RT.out wa B.out).mono ?_
  rintro e w2 ⟨rfl, hb2⟩
  have R2 := Lib.hid ((hb2.block _ (lt_row ROW.out)).trans ROW.out)
  have B2 := Lib.hid (show Below q w w2 from B.out.trans (hb2.mono (by rw [← HQ.out]; exact B.out.size)))
  clear hb2 RT c0 c1' c2' c3 c4 c5 c6 c7 c8 ROW
  obtain ⟨c0, c1', c2', c3, c4, c5, c6, c7, c8⟩ := cells9 R2.out
  go_wp2_with fail
  with_reducible refine (TX.out w2).mono ?_
  rintro e w3 ⟨rfl, hb3⟩
  have QS := Lib.hid (show q ≤ w2.heap.size by rw [← HQ.out]; exact B2.out.size)
  have R3 := Lib.hid ((hb3.block _ (lt_row R2.out)).trans R2.out)
  have B3 := Lib.hid (B2.out.trans (hb3.mono QS.out))
  have QS3 := Lib.hid (Nat.le_trans QS.out hb3.size)
  clear hb3 TX c0 c1' c2' c3 c4 c5 c6 c7 c8
  obtain ⟨c0, c1', c2', c3, c4, c5, c6, c7, c8⟩ := cells9 R3.out
  have ck := conv_kind 26 (by decide) w3
  rw [show ((26 : Nat) : Int) = 26 from rfl, HBK.out] at ck
  have bel4 := (Below.refl w3.heap.size w3).alloc (Nat.le_refl _) (.cells #[.int .u8 26] 5)
  have R4 := Lib.hid ((bel4.block _ (lt_row R3.out)).trans R3.out)
  have B4 := Lib.hid (B3.out.trans (bel4.mono QS3.out))
  have QS4 := Lib.hid (Nat.le_trans QS3.out bel4.size)
  clear bel4
  go_upto_region 5 with (fail)
  clear ck c0 c1' c2' c3 c4 c5 c6 c7 c8
  generalize w3.alloc _ = w4 at *
  obtain ⟨c0, c1', c2', c3, c4, c5, c6, c7, c8⟩ := cells9 R4.out
  have q1 : ¬ 9223372036854775807 < 1 + d := by omega
  have hdd := HDD.out
  go_wp2_with fail
  go_ret2
  exact ⟨ret_str (show SS = BK ++ D from by rw [HS.out, HBK.out]; show BK ++ (D ++ (⟨#[]⟩ : ByteArray)) = _; rw [app_nil]), by rw [HQ.out]; exact B4.out⟩
set_option maxHeartbeats 16000000 in
theorem docPut_27 (S O N C : Int) (F : Bool) (D X : ByteArray) (A : List (Int × Int)) (u : Value) (w : World) (hu : SpansIn w u A) (hDm : D.size ≤ maxLen) (hXm : X.size ≤ maxLen) (SS : ByteArray) (hp : putF ⟨27, S, O, N, C, F, D, X, A⟩ = some SS) :
    Calls Tryd.prog 7 #[.agg (frC 27 S O N C F D X u)] w fun e w' => e = .returned (.tuple #[.string SS, .int .i64 0]) ∧ Below w.heap.size w w' := by
  obtain ⟨a, c, rfl, _, _⟩ := hu.at_
  have RT := Lib.hid (fun (w' : World) (hb : Below w.heap.size w w') => (show Calls Tryd.prog 16 #[.agg (frC 27 S O N C F D X (.slice a A.length c))] w' fun e w'' => e = .returned (.bool true) ∧ Below w'.heap.size w' w'' from by
    have h := right_front 27 S O N C F D X A (.slice a A.length c) w' (hu.later hb) hDm hXm
    rw [hp] at h
    exact h))
  obtain ⟨⟨s1, s2⟩, ⟨o1, o2⟩, ⟨n1, n2⟩, ⟨c1, c2⟩, hd⟩ := okD_of hp
  dsimp only at s1 s2 o1 o2 n1 n2 c1 c2 hd
  have BND := Lib.hid (And.intro (And.intro s1 s2) (And.intro (And.intro o1 o2) (And.intro (And.intro n1 n2) (And.intro c1 c2))))
  have hS := put_bytes (k := 27) (ps := [7]) hp rfl rfl
  have TX := Lib.hid (fun (w' : World) => docText_at D w' hd)
  obtain ⟨d, hdd⟩ : ∃ d, D.size = d := ⟨_, rfl⟩
  rw [hdd] at TX hd
  have hT8 := text_size d D hdd
  have HDD := Lib.hid hdd
  obtain ⟨TT, hTT⟩ : ∃ T, numT (d : Int) ++ D = T := ⟨_, rfl⟩
  rw [hTT] at TX hT8
  have HTT := Lib.hid hTT
  obtain ⟨tz, htz⟩ : ∃ z, TT.size = z := ⟨_, rfl⟩
  rw [htz] at hT8
  obtain ⟨m, hm⟩ : ∃ m, A.length = m := ⟨_, rfl⟩
  rw [hm] at RT ⊢
  have HS := Lib.hid hS
  obtain ⟨BK, hBK⟩ : ∃ b, byteT 27 = b := ⟨_, rfl⟩
  have hBz : BK.size = 1 := by rw [← hBK]; exact strOf_size _ _
  have HBK := Lib.hid hBK
  clear hp hS hTT hdd s1 s2 o1 o2 n1 n2 c1 c2 hu hDm hXm hm hBK
  unfold frC at RT ⊢
  have row := heap_alloc_last w (.cells #[.int .i64 27, .int .i64 S, .int .i64 O, .int .i64 N, .int .i64 C, .bool F, .string D, .string X, .slice a m c] 24)
  have bel := (Below.refl w.heap.size w).alloc (Nat.le_refl _) (.cells #[.int .i64 27, .int .i64 S, .int .i64 O, .int .i64 N, .int .i64 C, .bool F, .string D, .string X, .slice a m c] 24)
  go_enter Tryd.func7, Tryd.ntmps7
  go_upto_region 1 with (fail)
  generalize w.alloc _ = wa at *
  generalize hq : w.heap.size = q at *
  have HQ := Lib.hid hq
  have ROW := Lib.hid row
  have B := Lib.hid bel
  obtain ⟨c0, c1', c2', c3, c4, c5, c6, c7, c8⟩ := cells9 row
  clear row bel hq
  go_wp2_with fail
  with_reducible refine (RT.out wa B.out).mono ?_
  rintro e w2 ⟨rfl, hb2⟩
  have R2 := Lib.hid ((hb2.block _ (lt_row ROW.out)).trans ROW.out)
  have B2 := Lib.hid (show Below q w w2 from B.out.trans (hb2.mono (by rw [← HQ.out]; exact B.out.size)))
  clear hb2 RT c0 c1' c2' c3 c4 c5 c6 c7 c8 ROW
  obtain ⟨c0, c1', c2', c3, c4, c5, c6, c7, c8⟩ := cells9 R2.out
  go_wp2_with fail
  with_reducible refine (TX.out w2).mono ?_
  rintro e w3 ⟨rfl, hb3⟩
  have QS := Lib.hid (show q ≤ w2.heap.size by rw [← HQ.out]; exact B2.out.size)
  have R3 := Lib.hid ((hb3.block _ (lt_row R2.out)).trans R2.out)
  have B3 := Lib.hid (B2.out.trans (hb3.mono QS.out))
  have QS3 := Lib.hid (Nat.le_trans QS.out hb3.size)
  clear hb3 TX c0 c1' c2' c3 c4 c5 c6 c7 c8
  obtain ⟨c0, c1', c2', c3, c4, c5, c6, c7, c8⟩ := cells9 R3.out
  have ck := conv_kind 27 (by decide) w3
  rw [show ((27 : Nat) : Int) = 27 from rfl, HBK.out] at ck
  have bel4 := (Below.refl w3.heap.size w3).alloc (Nat.le_refl _) (.cells #[.int .u8 27] 5)
  have R4 := Lib.hid ((bel4.block _ (lt_row R3.out)).trans R3.out)
  have B4 := Lib.hid (B3.out.trans (bel4.mono QS3.out))
  have QS4 := Lib.hid (Nat.le_trans QS3.out bel4.size)
  clear bel4
  go_upto_region 5 with (fail)
  clear ck c0 c1' c2' c3 c4 c5 c6 c7 c8
  generalize w3.alloc _ = w4 at *
  obtain ⟨c0, c1', c2', c3, c4, c5, c6, c7, c8⟩ := cells9 R4.out
  have q1 : ¬ 9223372036854775807 < 1 + d := by omega
  have hdd := HDD.out
  go_wp2_with fail
  go_ret2
  exact ⟨ret_str (show SS = BK ++ D from by rw [HS.out, HBK.out]; show BK ++ (D ++ (⟨#[]⟩ : ByteArray)) = _; rw [app_nil]), by rw [HQ.out]; exact B4.out⟩
set_option maxHeartbeats 16000000 in
theorem docPut_28 (S O N C : Int) (F : Bool) (D X : ByteArray) (A : List (Int × Int)) (u : Value) (w : World) (hu : SpansIn w u A) (hDm : D.size ≤ maxLen) (hXm : X.size ≤ maxLen) (SS : ByteArray) (hp : putF ⟨28, S, O, N, C, F, D, X, A⟩ = some SS) :
    Calls Tryd.prog 7 #[.agg (frC 28 S O N C F D X u)] w fun e w' => e = .returned (.tuple #[.string SS, .int .i64 0]) ∧ Below w.heap.size w w' := by
  obtain ⟨a, c, rfl, _, _⟩ := hu.at_
  have RT := Lib.hid (fun (w' : World) (hb : Below w.heap.size w w') => (show Calls Tryd.prog 16 #[.agg (frC 28 S O N C F D X (.slice a A.length c))] w' fun e w'' => e = .returned (.bool true) ∧ Below w'.heap.size w' w'' from by
    have h := right_front 28 S O N C F D X A (.slice a A.length c) w' (hu.later hb) hDm hXm
    rw [hp] at h
    exact h))
  obtain ⟨⟨s1, s2⟩, ⟨o1, o2⟩, ⟨n1, n2⟩, ⟨c1, c2⟩, hd⟩ := okD_of hp
  dsimp only at s1 s2 o1 o2 n1 n2 c1 c2 hd
  have BND := Lib.hid (And.intro (And.intro s1 s2) (And.intro (And.intro o1 o2) (And.intro (And.intro n1 n2) (And.intro c1 c2))))
  have hS := put_bytes (k := 28) (ps := [3, 2, 4]) hp rfl rfl
  have TX := Lib.hid (fun (w' : World) => docText_at D w' hd)
  obtain ⟨d, hdd⟩ : ∃ d, D.size = d := ⟨_, rfl⟩
  rw [hdd] at TX hd
  have hT8 := text_size d D hdd
  have HDD := Lib.hid hdd
  obtain ⟨TT, hTT⟩ : ∃ T, numT (d : Int) ++ D = T := ⟨_, rfl⟩
  rw [hTT] at TX hT8
  have HTT := Lib.hid hTT
  obtain ⟨tz, htz⟩ : ∃ z, TT.size = z := ⟨_, rfl⟩
  rw [htz] at hT8
  obtain ⟨m, hm⟩ : ∃ m, A.length = m := ⟨_, rfl⟩
  rw [hm] at RT ⊢
  have HS := Lib.hid hS
  obtain ⟨BK, hBK⟩ : ∃ b, byteT 28 = b := ⟨_, rfl⟩
  have hBz : BK.size = 1 := by rw [← hBK]; exact strOf_size _ _
  have HBK := Lib.hid hBK
  clear hp hS hTT hdd s1 s2 o1 o2 n1 n2 c1 c2 hu hDm hXm hm hBK
  unfold frC at RT ⊢
  have row := heap_alloc_last w (.cells #[.int .i64 28, .int .i64 S, .int .i64 O, .int .i64 N, .int .i64 C, .bool F, .string D, .string X, .slice a m c] 24)
  have bel := (Below.refl w.heap.size w).alloc (Nat.le_refl _) (.cells #[.int .i64 28, .int .i64 S, .int .i64 O, .int .i64 N, .int .i64 C, .bool F, .string D, .string X, .slice a m c] 24)
  go_enter Tryd.func7, Tryd.ntmps7
  go_upto_region 1 with (fail)
  generalize w.alloc _ = wa at *
  generalize hq : w.heap.size = q at *
  have HQ := Lib.hid hq
  have ROW := Lib.hid row
  have B := Lib.hid bel
  obtain ⟨c0, c1', c2', c3, c4, c5, c6, c7, c8⟩ := cells9 row
  clear row bel hq
  go_wp2_with fail
  with_reducible refine (RT.out wa B.out).mono ?_
  rintro e w2 ⟨rfl, hb2⟩
  have R2 := Lib.hid ((hb2.block _ (lt_row ROW.out)).trans ROW.out)
  have B2 := Lib.hid (show Below q w w2 from B.out.trans (hb2.mono (by rw [← HQ.out]; exact B.out.size)))
  clear hb2 RT c0 c1' c2' c3 c4 c5 c6 c7 c8 ROW
  obtain ⟨c0, c1', c2', c3, c4, c5, c6, c7, c8⟩ := cells9 R2.out
  go_wp2_with fail
  with_reducible refine (TX.out w2).mono ?_
  rintro e w3 ⟨rfl, hb3⟩
  have QS := Lib.hid (show q ≤ w2.heap.size by rw [← HQ.out]; exact B2.out.size)
  have R3 := Lib.hid ((hb3.block _ (lt_row R2.out)).trans R2.out)
  have B3 := Lib.hid (B2.out.trans (hb3.mono QS.out))
  have QS3 := Lib.hid (Nat.le_trans QS.out hb3.size)
  clear hb3 TX c0 c1' c2' c3 c4 c5 c6 c7 c8
  obtain ⟨c0, c1', c2', c3, c4, c5, c6, c7, c8⟩ := cells9 R3.out
  have ck := conv_kind 28 (by decide) w3
  rw [show ((28 : Nat) : Int) = 28 from rfl, HBK.out] at ck
  have bel4 := (Below.refl w3.heap.size w3).alloc (Nat.le_refl _) (.cells #[.int .u8 28] 5)
  have R4 := Lib.hid ((bel4.block _ (lt_row R3.out)).trans R3.out)
  have B4 := Lib.hid (B3.out.trans (bel4.mono QS3.out))
  have QS4 := Lib.hid (Nat.le_trans QS3.out bel4.size)
  clear bel4
  go_upto_region 5 with (fail)
  clear ck c0 c1' c2' c3 c4 c5 c6 c7 c8
  generalize w3.alloc _ = w4 at *
  obtain ⟨c0, c1', c2', c3, c4, c5, c6, c7, c8⟩ := cells9 R4.out
  have hl : ∀ (i : Nat) (hi : i < ([C, N] : List Int).length), 0 ≤ ([C, N] : List Int)[i] ∧ ([C, N] : List Int)[i] ≤ MX := fun i hi => by
      match i, hi with
      | 0, _ => exact BND.out.2.2.2
      | 1, _ => exact BND.out.2.2.1

  have row5 := heap_alloc_last w4 (.cells #[.int .i64 C, .int .i64 N] 3)
  have bel5 := (Below.refl w4.heap.size w4).alloc (Nat.le_refl _) (.cells #[.int .i64 C, .int .i64 N] 3)
  have PN := Lib.hid (put_nums [C, N] hl (by simp) w4.heap.size (w4.alloc (.cells #[.int .i64 C, .int .i64 N] 3)) row5)
  have hz5 : (numsT [C, N]).size ≤ 16 := numsT_size [C, N]
  have R5 := Lib.hid ((bel5.block _ (lt_row R4.out)).trans R4.out)
  have B5 := Lib.hid (B4.out.trans (bel5.mono QS4.out))
  have QS5 := Lib.hid (Nat.le_trans QS4.out bel5.size)
  obtain ⟨NX, hNX⟩ : ∃ T, numsT [C, N] = T := ⟨_, rfl⟩
  rw [hNX] at hz5 PN
  have HNX := Lib.hid hNX
  obtain ⟨nz, hnz⟩ : ∃ z, NX.size = z := ⟨_, rfl⟩
  rw [hnz] at hz5
  have q1 : ¬ 9223372036854775807 < 1 + nz := by omega
  have q2 : ¬ 9223372036854775807 < 1 + nz + tz := by omega
  clear hl row5 bel5 hNX
  go_wp2_with fail
  refine PN.out.mono ?_
  rintro e w6 ⟨rfl, hb6⟩
  have R6 := Lib.hid ((hb6.block _ (lt_row R5.out)).trans R5.out)
  have B6 := Lib.hid (B5.out.trans (hb6.mono QS5.out))
  clear hb6 PN c0 c1' c2' c3 c4 c5 c6 c7 c8
  obtain ⟨c0, c1', c2', c3, c4, c5, c6, c7, c8⟩ := cells9 R6.out
  go_wp2_with fail
  go_ret2
  exact ⟨ret_str (show SS = BK ++ NX ++ TT from by
    rw [HS.out, HBK.out, ← HNX.out, ← HTT.out, ← HDD.out]
    show BK ++ (numT C ++ (numT N ++ ((numT (D.size : Int) ++ D) ++ (⟨#[]⟩ : ByteArray)))) = BK ++ (numsT [C, N]) ++ (numT (D.size : Int) ++ D)
    simp only [numsT, app_nil, ByteArray.append_assoc]), by rw [HQ.out]; exact B6.out⟩
set_option maxHeartbeats 16000000 in
theorem docPut_29 (S O N C : Int) (F : Bool) (D X : ByteArray) (A : List (Int × Int)) (u : Value) (w : World) (hu : SpansIn w u A) (hDm : D.size ≤ maxLen) (hXm : X.size ≤ maxLen) (SS : ByteArray) (hp : putF ⟨29, S, O, N, C, F, D, X, A⟩ = some SS) :
    Calls Tryd.prog 7 #[.agg (frC 29 S O N C F D X u)] w fun e w' => e = .returned (.tuple #[.string SS, .int .i64 0]) ∧ Below w.heap.size w w' := by
  obtain ⟨a, c, rfl, _, _⟩ := hu.at_
  have RT := Lib.hid (fun (w' : World) (hb : Below w.heap.size w w') => (show Calls Tryd.prog 16 #[.agg (frC 29 S O N C F D X (.slice a A.length c))] w' fun e w'' => e = .returned (.bool true) ∧ Below w'.heap.size w' w'' from by
    have h := right_front 29 S O N C F D X A (.slice a A.length c) w' (hu.later hb) hDm hXm
    rw [hp] at h
    exact h))
  obtain ⟨⟨s1, s2⟩, ⟨o1, o2⟩, ⟨n1, n2⟩, ⟨c1, c2⟩, hd⟩ := okD_of hp
  dsimp only at s1 s2 o1 o2 n1 n2 c1 c2 hd
  have BND := Lib.hid (And.intro (And.intro s1 s2) (And.intro (And.intro o1 o2) (And.intro (And.intro n1 n2) (And.intro c1 c2))))
  have hS := put_bytes (k := 29) (ps := [3, 4]) hp rfl rfl
  have TX := Lib.hid (fun (w' : World) => docText_at D w' hd)
  obtain ⟨d, hdd⟩ : ∃ d, D.size = d := ⟨_, rfl⟩
  rw [hdd] at TX hd
  have hT8 := text_size d D hdd
  have HDD := Lib.hid hdd
  obtain ⟨TT, hTT⟩ : ∃ T, numT (d : Int) ++ D = T := ⟨_, rfl⟩
  rw [hTT] at TX hT8
  have HTT := Lib.hid hTT
  obtain ⟨tz, htz⟩ : ∃ z, TT.size = z := ⟨_, rfl⟩
  rw [htz] at hT8
  obtain ⟨m, hm⟩ : ∃ m, A.length = m := ⟨_, rfl⟩
  rw [hm] at RT ⊢
  have HS := Lib.hid hS
  obtain ⟨BK, hBK⟩ : ∃ b, byteT 29 = b := ⟨_, rfl⟩
  have hBz : BK.size = 1 := by rw [← hBK]; exact strOf_size _ _
  have HBK := Lib.hid hBK
  clear hp hS hTT hdd s1 s2 o1 o2 n1 n2 c1 c2 hu hDm hXm hm hBK
  unfold frC at RT ⊢
  have row := heap_alloc_last w (.cells #[.int .i64 29, .int .i64 S, .int .i64 O, .int .i64 N, .int .i64 C, .bool F, .string D, .string X, .slice a m c] 24)
  have bel := (Below.refl w.heap.size w).alloc (Nat.le_refl _) (.cells #[.int .i64 29, .int .i64 S, .int .i64 O, .int .i64 N, .int .i64 C, .bool F, .string D, .string X, .slice a m c] 24)
  go_enter Tryd.func7, Tryd.ntmps7
  go_upto_region 1 with (fail)
  generalize w.alloc _ = wa at *
  generalize hq : w.heap.size = q at *
  have HQ := Lib.hid hq
  have ROW := Lib.hid row
  have B := Lib.hid bel
  obtain ⟨c0, c1', c2', c3, c4, c5, c6, c7, c8⟩ := cells9 row
  clear row bel hq
  go_wp2_with fail
  with_reducible refine (RT.out wa B.out).mono ?_
  rintro e w2 ⟨rfl, hb2⟩
  have R2 := Lib.hid ((hb2.block _ (lt_row ROW.out)).trans ROW.out)
  have B2 := Lib.hid (show Below q w w2 from B.out.trans (hb2.mono (by rw [← HQ.out]; exact B.out.size)))
  clear hb2 RT c0 c1' c2' c3 c4 c5 c6 c7 c8 ROW
  obtain ⟨c0, c1', c2', c3, c4, c5, c6, c7, c8⟩ := cells9 R2.out
  go_wp2_with fail
  with_reducible refine (TX.out w2).mono ?_
  rintro e w3 ⟨rfl, hb3⟩
  have QS := Lib.hid (show q ≤ w2.heap.size by rw [← HQ.out]; exact B2.out.size)
  have R3 := Lib.hid ((hb3.block _ (lt_row R2.out)).trans R2.out)
  have B3 := Lib.hid (B2.out.trans (hb3.mono QS.out))
  have QS3 := Lib.hid (Nat.le_trans QS.out hb3.size)
  clear hb3 TX c0 c1' c2' c3 c4 c5 c6 c7 c8
  obtain ⟨c0, c1', c2', c3, c4, c5, c6, c7, c8⟩ := cells9 R3.out
  have ck := conv_kind 29 (by decide) w3
  rw [show ((29 : Nat) : Int) = 29 from rfl, HBK.out] at ck
  have bel4 := (Below.refl w3.heap.size w3).alloc (Nat.le_refl _) (.cells #[.int .u8 29] 5)
  have R4 := Lib.hid ((bel4.block _ (lt_row R3.out)).trans R3.out)
  have B4 := Lib.hid (B3.out.trans (bel4.mono QS3.out))
  have QS4 := Lib.hid (Nat.le_trans QS3.out bel4.size)
  clear bel4
  go_upto_region 5 with (fail)
  clear ck c0 c1' c2' c3 c4 c5 c6 c7 c8
  generalize w3.alloc _ = w4 at *
  obtain ⟨c0, c1', c2', c3, c4, c5, c6, c7, c8⟩ := cells9 R4.out
  have hl : ∀ (i : Nat) (hi : i < ([C] : List Int).length), 0 ≤ ([C] : List Int)[i] ∧ ([C] : List Int)[i] ≤ MX := fun i hi => by
      match i, hi with
      | 0, _ => exact BND.out.2.2.2

  have row5 := heap_alloc_last w4 (.cells #[.int .i64 C] 3)
  have bel5 := (Below.refl w4.heap.size w4).alloc (Nat.le_refl _) (.cells #[.int .i64 C] 3)
  have PN := Lib.hid (put_nums [C] hl (by simp) w4.heap.size (w4.alloc (.cells #[.int .i64 C] 3)) row5)
  have hz5 : (numsT [C]).size ≤ 8 := numsT_size [C]
  have R5 := Lib.hid ((bel5.block _ (lt_row R4.out)).trans R4.out)
  have B5 := Lib.hid (B4.out.trans (bel5.mono QS4.out))
  have QS5 := Lib.hid (Nat.le_trans QS4.out bel5.size)
  obtain ⟨NX, hNX⟩ : ∃ T, numsT [C] = T := ⟨_, rfl⟩
  rw [hNX] at hz5 PN
  have HNX := Lib.hid hNX
  obtain ⟨nz, hnz⟩ : ∃ z, NX.size = z := ⟨_, rfl⟩
  rw [hnz] at hz5
  have q1 : ¬ 9223372036854775807 < 1 + nz := by omega
  have q2 : ¬ 9223372036854775807 < 1 + nz + tz := by omega
  clear hl row5 bel5 hNX
  go_wp2_with fail
  refine PN.out.mono ?_
  rintro e w6 ⟨rfl, hb6⟩
  have R6 := Lib.hid ((hb6.block _ (lt_row R5.out)).trans R5.out)
  have B6 := Lib.hid (B5.out.trans (hb6.mono QS5.out))
  clear hb6 PN c0 c1' c2' c3 c4 c5 c6 c7 c8
  obtain ⟨c0, c1', c2', c3, c4, c5, c6, c7, c8⟩ := cells9 R6.out
  go_wp2_with fail
  go_ret2
  exact ⟨ret_str (show SS = BK ++ NX ++ TT from by
    rw [HS.out, HBK.out, ← HNX.out, ← HTT.out, ← HDD.out]
    show BK ++ (numT C ++ ((numT (D.size : Int) ++ D) ++ (⟨#[]⟩ : ByteArray))) = BK ++ (numsT [C]) ++ (numT (D.size : Int) ++ D)
    simp only [numsT, app_nil, ByteArray.append_assoc]), by rw [HQ.out]; exact B6.out⟩
set_option maxHeartbeats 16000000 in
theorem docPut_1 (S O N C : Int) (F : Bool) (D X : ByteArray) (A : List (Int × Int)) (u : Value) (w : World) (hu : SpansIn w u A) (hDm : D.size ≤ maxLen) (hXm : X.size ≤ maxLen) (SS : ByteArray) (hp : putF ⟨1, S, O, N, C, F, D, X, A⟩ = some SS) :
    Calls Tryd.prog 7 #[.agg (frC 1 S O N C F D X u)] w fun e w' => e = .returned (.tuple #[.string SS, .int .i64 0]) ∧ Below w.heap.size w w' := by
  obtain ⟨a, c, rfl, _, _⟩ := hu.at_
  have RT := Lib.hid (fun (w' : World) (hb : Below w.heap.size w w') => (show Calls Tryd.prog 16 #[.agg (frC 1 S O N C F D X (.slice a A.length c))] w' fun e w'' => e = .returned (.bool true) ∧ Below w'.heap.size w' w'' from by
    have h := right_front 1 S O N C F D X A (.slice a A.length c) w' (hu.later hb) hDm hXm
    rw [hp] at h
    exact h))
  obtain ⟨⟨s1, s2⟩, ⟨o1, o2⟩, ⟨n1, n2⟩, ⟨c1, c2⟩, hd⟩ := okD_of hp
  dsimp only at s1 s2 o1 o2 n1 n2 c1 c2 hd
  have BND := Lib.hid (And.intro (And.intro s1 s2) (And.intro (And.intro o1 o2) (And.intro (And.intro n1 n2) (And.intro c1 c2))))
  have hS := put_bytes (k := 1) (ps := []) hp rfl rfl
  have TX := Lib.hid (fun (w' : World) => docText_at D w' hd)
  obtain ⟨d, hdd⟩ : ∃ d, D.size = d := ⟨_, rfl⟩
  rw [hdd] at TX hd
  have hT8 := text_size d D hdd
  have HDD := Lib.hid hdd
  obtain ⟨TT, hTT⟩ : ∃ T, numT (d : Int) ++ D = T := ⟨_, rfl⟩
  rw [hTT] at TX hT8
  have HTT := Lib.hid hTT
  obtain ⟨tz, htz⟩ : ∃ z, TT.size = z := ⟨_, rfl⟩
  rw [htz] at hT8
  obtain ⟨m, hm⟩ : ∃ m, A.length = m := ⟨_, rfl⟩
  rw [hm] at RT ⊢
  have HS := Lib.hid hS
  obtain ⟨BK, hBK⟩ : ∃ b, byteT 1 = b := ⟨_, rfl⟩
  have hBz : BK.size = 1 := by rw [← hBK]; exact strOf_size _ _
  have HBK := Lib.hid hBK
  clear hp hS hTT hdd s1 s2 o1 o2 n1 n2 c1 c2 hu hDm hXm hm hBK
  unfold frC at RT ⊢
  have row := heap_alloc_last w (.cells #[.int .i64 1, .int .i64 S, .int .i64 O, .int .i64 N, .int .i64 C, .bool F, .string D, .string X, .slice a m c] 24)
  have bel := (Below.refl w.heap.size w).alloc (Nat.le_refl _) (.cells #[.int .i64 1, .int .i64 S, .int .i64 O, .int .i64 N, .int .i64 C, .bool F, .string D, .string X, .slice a m c] 24)
  go_enter Tryd.func7, Tryd.ntmps7
  go_upto_region 1 with (fail)
  generalize w.alloc _ = wa at *
  generalize hq : w.heap.size = q at *
  have HQ := Lib.hid hq
  have ROW := Lib.hid row
  have B := Lib.hid bel
  obtain ⟨c0, c1', c2', c3, c4, c5, c6, c7, c8⟩ := cells9 row
  clear row bel hq
  go_wp2_with fail
  with_reducible refine (RT.out wa B.out).mono ?_
  rintro e w2 ⟨rfl, hb2⟩
  have R2 := Lib.hid ((hb2.block _ (lt_row ROW.out)).trans ROW.out)
  have B2 := Lib.hid (show Below q w w2 from B.out.trans (hb2.mono (by rw [← HQ.out]; exact B.out.size)))
  clear hb2 RT c0 c1' c2' c3 c4 c5 c6 c7 c8 ROW
  obtain ⟨c0, c1', c2', c3, c4, c5, c6, c7, c8⟩ := cells9 R2.out
  go_wp2_with fail
  with_reducible refine (TX.out w2).mono ?_
  rintro e w3 ⟨rfl, hb3⟩
  have QS := Lib.hid (show q ≤ w2.heap.size by rw [← HQ.out]; exact B2.out.size)
  have R3 := Lib.hid ((hb3.block _ (lt_row R2.out)).trans R2.out)
  have B3 := Lib.hid (B2.out.trans (hb3.mono QS.out))
  have QS3 := Lib.hid (Nat.le_trans QS.out hb3.size)
  clear hb3 TX c0 c1' c2' c3 c4 c5 c6 c7 c8
  obtain ⟨c0, c1', c2', c3, c4, c5, c6, c7, c8⟩ := cells9 R3.out
  have ck := conv_kind 1 (by decide) w3
  rw [show ((1 : Nat) : Int) = 1 from rfl, HBK.out] at ck
  have bel4 := (Below.refl w3.heap.size w3).alloc (Nat.le_refl _) (.cells #[.int .u8 1] 5)
  have R4 := Lib.hid ((bel4.block _ (lt_row R3.out)).trans R3.out)
  have B4 := Lib.hid (B3.out.trans (bel4.mono QS3.out))
  have QS4 := Lib.hid (Nat.le_trans QS3.out bel4.size)
  clear bel4
  go_upto_region 5 with (fail)
  clear ck c0 c1' c2' c3 c4 c5 c6 c7 c8
  generalize w3.alloc _ = w4 at *
  obtain ⟨c0, c1', c2', c3, c4, c5, c6, c7, c8⟩ := cells9 R4.out
  go_wp2_with fail
  go_ret2
  exact ⟨ret_str (show SS = BK from by rw [HS.out, HBK.out]; exact app_nil _), by rw [HQ.out]; exact B4.out⟩
set_option maxHeartbeats 16000000 in
theorem docPut_30 (S O N C : Int) (F : Bool) (D X : ByteArray) (A : List (Int × Int)) (u : Value) (w : World) (hu : SpansIn w u A) (hDm : D.size ≤ maxLen) (hXm : X.size ≤ maxLen) (SS : ByteArray) (hp : putF ⟨30, S, O, N, C, F, D, X, A⟩ = some SS) :
    Calls Tryd.prog 7 #[.agg (frC 30 S O N C F D X u)] w fun e w' => e = .returned (.tuple #[.string SS, .int .i64 0]) ∧ Below w.heap.size w w' := by
  obtain ⟨a, c, rfl, _, _⟩ := hu.at_
  have RT := Lib.hid (fun (w' : World) (hb : Below w.heap.size w w') => (show Calls Tryd.prog 16 #[.agg (frC 30 S O N C F D X (.slice a A.length c))] w' fun e w'' => e = .returned (.bool true) ∧ Below w'.heap.size w' w'' from by
    have h := right_front 30 S O N C F D X A (.slice a A.length c) w' (hu.later hb) hDm hXm
    rw [hp] at h
    exact h))
  obtain ⟨⟨s1, s2⟩, ⟨o1, o2⟩, ⟨n1, n2⟩, ⟨c1, c2⟩, hd⟩ := okD_of hp
  dsimp only at s1 s2 o1 o2 n1 n2 c1 c2 hd
  have BND := Lib.hid (And.intro (And.intro s1 s2) (And.intro (And.intro o1 o2) (And.intro (And.intro n1 n2) (And.intro c1 c2))))
  have hS := put_bytes (k := 30) (ps := []) hp rfl rfl
  have TX := Lib.hid (fun (w' : World) => docText_at D w' hd)
  obtain ⟨d, hdd⟩ : ∃ d, D.size = d := ⟨_, rfl⟩
  rw [hdd] at TX hd
  have hT8 := text_size d D hdd
  have HDD := Lib.hid hdd
  obtain ⟨TT, hTT⟩ : ∃ T, numT (d : Int) ++ D = T := ⟨_, rfl⟩
  rw [hTT] at TX hT8
  have HTT := Lib.hid hTT
  obtain ⟨tz, htz⟩ : ∃ z, TT.size = z := ⟨_, rfl⟩
  rw [htz] at hT8
  obtain ⟨m, hm⟩ : ∃ m, A.length = m := ⟨_, rfl⟩
  rw [hm] at RT ⊢
  have HS := Lib.hid hS
  obtain ⟨BK, hBK⟩ : ∃ b, byteT 30 = b := ⟨_, rfl⟩
  have hBz : BK.size = 1 := by rw [← hBK]; exact strOf_size _ _
  have HBK := Lib.hid hBK
  clear hp hS hTT hdd s1 s2 o1 o2 n1 n2 c1 c2 hu hDm hXm hm hBK
  unfold frC at RT ⊢
  have row := heap_alloc_last w (.cells #[.int .i64 30, .int .i64 S, .int .i64 O, .int .i64 N, .int .i64 C, .bool F, .string D, .string X, .slice a m c] 24)
  have bel := (Below.refl w.heap.size w).alloc (Nat.le_refl _) (.cells #[.int .i64 30, .int .i64 S, .int .i64 O, .int .i64 N, .int .i64 C, .bool F, .string D, .string X, .slice a m c] 24)
  go_enter Tryd.func7, Tryd.ntmps7
  go_upto_region 1 with (fail)
  generalize w.alloc _ = wa at *
  generalize hq : w.heap.size = q at *
  have HQ := Lib.hid hq
  have ROW := Lib.hid row
  have B := Lib.hid bel
  obtain ⟨c0, c1', c2', c3, c4, c5, c6, c7, c8⟩ := cells9 row
  clear row bel hq
  go_wp2_with fail
  with_reducible refine (RT.out wa B.out).mono ?_
  rintro e w2 ⟨rfl, hb2⟩
  have R2 := Lib.hid ((hb2.block _ (lt_row ROW.out)).trans ROW.out)
  have B2 := Lib.hid (show Below q w w2 from B.out.trans (hb2.mono (by rw [← HQ.out]; exact B.out.size)))
  clear hb2 RT c0 c1' c2' c3 c4 c5 c6 c7 c8 ROW
  obtain ⟨c0, c1', c2', c3, c4, c5, c6, c7, c8⟩ := cells9 R2.out
  go_wp2_with fail
  with_reducible refine (TX.out w2).mono ?_
  rintro e w3 ⟨rfl, hb3⟩
  have QS := Lib.hid (show q ≤ w2.heap.size by rw [← HQ.out]; exact B2.out.size)
  have R3 := Lib.hid ((hb3.block _ (lt_row R2.out)).trans R2.out)
  have B3 := Lib.hid (B2.out.trans (hb3.mono QS.out))
  have QS3 := Lib.hid (Nat.le_trans QS.out hb3.size)
  clear hb3 TX c0 c1' c2' c3 c4 c5 c6 c7 c8
  obtain ⟨c0, c1', c2', c3, c4, c5, c6, c7, c8⟩ := cells9 R3.out
  have ck := conv_kind 30 (by decide) w3
  rw [show ((30 : Nat) : Int) = 30 from rfl, HBK.out] at ck
  have bel4 := (Below.refl w3.heap.size w3).alloc (Nat.le_refl _) (.cells #[.int .u8 30] 5)
  have R4 := Lib.hid ((bel4.block _ (lt_row R3.out)).trans R3.out)
  have B4 := Lib.hid (B3.out.trans (bel4.mono QS3.out))
  have QS4 := Lib.hid (Nat.le_trans QS3.out bel4.size)
  clear bel4
  go_upto_region 5 with (fail)
  clear ck c0 c1' c2' c3 c4 c5 c6 c7 c8
  generalize w3.alloc _ = w4 at *
  obtain ⟨c0, c1', c2', c3, c4, c5, c6, c7, c8⟩ := cells9 R4.out
  go_wp2_with fail
  go_ret2
  exact ⟨ret_str (show SS = BK from by rw [HS.out, HBK.out]; exact app_nil _), by rw [HQ.out]; exact B4.out⟩
end Go.Proofs.YtcgbhcmgddgheabDoor
namespace Go.Proofs.YtcgbhcmgddgheabDoor
open Go Go.RowKit Go.BigFrame
set_option linter.unusedSimpArgs false
set_option linter.unusedVariables false
set_option maxRecDepth 100000
set_option maxHeartbeats 4000000 in
theorem docPut_none (K S O N C : Int) (F : Bool) (D X : ByteArray) (A : List (Int × Int)) (u : Value) (w : World) (hu : SpansIn w u A) (hDm : D.size ≤ maxLen) (hXm : X.size ≤ maxLen) (hp : putF ⟨K, S, O, N, C, F, D, X, A⟩ = none) :
    Calls Tryd.prog 7 #[.agg (frC K S O N C F D X u)] w fun e w' => e = .returned (.tuple #[.string ⟨#[]⟩, .int .i64 2]) ∧ Below w.heap.size w w' := by
  obtain ⟨a, c, rfl, _, _⟩ := hu.at_
  have RT := Lib.hid (fun (w' : World) (hb : Below w.heap.size w w') => (show Calls Tryd.prog 16 #[.agg (frC K S O N C F D X (.slice a A.length c))] w' fun e w'' => e = .returned (.bool false) ∧ Below w'.heap.size w' w'' from by
    have h := right_front K S O N C F D X A (.slice a A.length c) w' (hu.later hb) hDm hXm
    rw [hp] at h
    exact h))
  obtain ⟨m, hm⟩ : ∃ m, A.length = m := ⟨_, rfl⟩
  rw [hm] at RT ⊢
  clear hp hu hDm hXm hm
  unfold frC at RT ⊢
  have row := heap_alloc_last w (.cells #[.int .i64 K, .int .i64 S, .int .i64 O, .int .i64 N, .int .i64 C, .bool F, .string D, .string X, .slice a m c] 24)
  have bel := (Below.refl w.heap.size w).alloc (Nat.le_refl _) (.cells #[.int .i64 K, .int .i64 S, .int .i64 O, .int .i64 N, .int .i64 C, .bool F, .string D, .string X, .slice a m c] 24)
  go_enter Tryd.func7, Tryd.ntmps7
  go_upto_region 1 with (fail)
  generalize w.alloc _ = wa at *
  have B := Lib.hid bel
  obtain ⟨c0, c1', c2', c3, c4, c5, c6, c7, c8⟩ := cells9 row
  clear row bel
  go_wp2_with fail
  with_reducible refine (RT.out wa B.out).mono ?_
  rintro e w2 ⟨rfl, hb2⟩
  have B2 := Lib.hid (B.out.trans (hb2.mono B.out.size))
  clear hb2 RT c0 c1' c2' c3 c4 c5 c6 c7 c8
  go_wp2_with fail
  go_ret2
  exact ⟨rfl, B2.out⟩
set_option maxHeartbeats 16000000 in
theorem docPut_0 (S O N C : Int) (F : Bool) (D X : ByteArray) (A : List (Int × Int)) (u : Value) (w : World) (hu : SpansIn w u A) (hDm : D.size ≤ maxLen) (hXm : X.size ≤ maxLen) (SS : ByteArray) (hp : putF ⟨0, S, O, N, C, F, D, X, A⟩ = some SS) :
    Calls Tryd.prog 7 #[.agg (frC 0 S O N C F D X u)] w fun e w' => e = .returned (.tuple #[.string SS, .int .i64 0]) ∧ Below w.heap.size w w' := by
  obtain ⟨a, c, rfl, _, _⟩ := hu.at_
  have RT := Lib.hid (fun (w' : World) (hb : Below w.heap.size w w') => (show Calls Tryd.prog 16 #[.agg (frC 0 S O N C F D X (.slice a A.length c))] w' fun e w'' => e = .returned (.bool true) ∧ Below w'.heap.size w' w'' from by
    have h := right_front 0 S O N C F D X A (.slice a A.length c) w' (hu.later hb) hDm hXm
    rw [hp] at h
    exact h))
  obtain ⟨⟨s1, s2⟩, ⟨o1, o2⟩, ⟨n1, n2⟩, ⟨c1, c2⟩, hd⟩ := okD_of hp
  dsimp only at s1 s2 o1 o2 n1 n2 c1 c2 hd
  have BND := Lib.hid (And.intro (And.intro s1 s2) (And.intro (And.intro o1 o2) (And.intro (And.intro n1 n2) (And.intro c1 c2))))
  have LASTD := Lib.hid (show 1 ≤ N ∧ N ≤ 65535 from by
    have h := ((ok_iff _).1 (by rw [hp]; rfl)).2.2.2
    unfold lastD at h
    exact h)
  have hS := put_bytes (k := 0) (ps := [10]) hp rfl rfl
  have TX := Lib.hid (fun (w' : World) => docText_at D w' hd)
  obtain ⟨d, hdd⟩ : ∃ d, D.size = d := ⟨_, rfl⟩
  rw [hdd] at TX hd
  have hT8 := text_size d D hdd
  have HDD := Lib.hid hdd
  obtain ⟨TT, hTT⟩ : ∃ T, numT (d : Int) ++ D = T := ⟨_, rfl⟩
  rw [hTT] at TX hT8
  have HTT := Lib.hid hTT
  obtain ⟨tz, htz⟩ : ∃ z, TT.size = z := ⟨_, rfl⟩
  rw [htz] at hT8
  obtain ⟨m, hm⟩ : ∃ m, A.length = m := ⟨_, rfl⟩
  rw [hm] at RT ⊢
  have HS := Lib.hid hS
  obtain ⟨BK, hBK⟩ : ∃ b, byteT 0 = b := ⟨_, rfl⟩
  have hBz : BK.size = 1 := by rw [← hBK]; exact strOf_size _ _
  have HBK := Lib.hid hBK
  clear hp hS hTT hdd s1 s2 o1 o2 n1 n2 c1 c2 hu hDm hXm hm hBK
  unfold frC at RT ⊢
  have row := heap_alloc_last w (.cells #[.int .i64 0, .int .i64 S, .int .i64 O, .int .i64 N, .int .i64 C, .bool F, .string D, .string X, .slice a m c] 24)
  have bel := (Below.refl w.heap.size w).alloc (Nat.le_refl _) (.cells #[.int .i64 0, .int .i64 S, .int .i64 O, .int .i64 N, .int .i64 C, .bool F, .string D, .string X, .slice a m c] 24)
  go_enter Tryd.func7, Tryd.ntmps7
  go_upto_region 1 with (fail)
  generalize w.alloc _ = wa at *
  generalize hq : w.heap.size = q at *
  have HQ := Lib.hid hq
  have ROW := Lib.hid row
  have B := Lib.hid bel
  obtain ⟨c0, c1', c2', c3, c4, c5, c6, c7, c8⟩ := cells9 row
  clear row bel hq
  go_wp2_with fail
  with_reducible refine (RT.out wa B.out).mono ?_
  rintro e w2 ⟨rfl, hb2⟩
  have R2 := Lib.hid ((hb2.block _ (lt_row ROW.out)).trans ROW.out)
  have B2 := Lib.hid (show Below q w w2 from B.out.trans (hb2.mono (by rw [← HQ.out]; exact B.out.size)))
  clear hb2 RT c0 c1' c2' c3 c4 c5 c6 c7 c8 ROW
  obtain ⟨c0, c1', c2', c3, c4, c5, c6, c7, c8⟩ := cells9 R2.out
  go_wp2_with fail
  with_reducible refine (TX.out w2).mono ?_
  rintro e w3 ⟨rfl, hb3⟩
  have QS := Lib.hid (show q ≤ w2.heap.size by rw [← HQ.out]; exact B2.out.size)
  have R3 := Lib.hid ((hb3.block _ (lt_row R2.out)).trans R2.out)
  have B3 := Lib.hid (B2.out.trans (hb3.mono QS.out))
  have QS3 := Lib.hid (Nat.le_trans QS.out hb3.size)
  clear hb3 TX c0 c1' c2' c3 c4 c5 c6 c7 c8
  obtain ⟨c0, c1', c2', c3, c4, c5, c6, c7, c8⟩ := cells9 R3.out
  have ck := conv_kind 0 (by decide) w3
  rw [show ((0 : Nat) : Int) = 0 from rfl, HBK.out] at ck
  have bel4 := (Below.refl w3.heap.size w3).alloc (Nat.le_refl _) (.cells #[.int .u8 0] 5)
  have R4 := Lib.hid ((bel4.block _ (lt_row R3.out)).trans R3.out)
  have B4 := Lib.hid (B3.out.trans (bel4.mono QS3.out))
  have QS4 := Lib.hid (Nat.le_trans QS3.out bel4.size)
  clear bel4
  go_upto_region 5 with (fail)
  clear ck c0 c1' c2' c3 c4 c5 c6 c7 c8
  generalize w3.alloc _ = w4 at *
  obtain ⟨c0, c1', c2', c3, c4, c5, c6, c7, c8⟩ := cells9 R4.out
  obtain ⟨n, rfl⟩ : ∃ n : Nat, N = (n : Int) := ⟨N.toNat, by have := BND.out.2.2.1; omega⟩
  have hN := LASTD.out
  have hn1 : 1 ≤ n := by omega
  have hn2 : n ≤ 65535 := by omega
  have mk := run_make_bytes n (by omega) w4
  have rowz := heap_alloc_last w4 (.cells (bytesArr (fun _ => 0#8) n) 5)
  have belz := (Below.refl w4.heap.size w4).alloc (Nat.le_refl _) (.cells (bytesArr (fun _ => 0#8) n) 5)
  have cv := conv_in (fun _ => 0#8) (some ⟨w4.heap.size, 0, none⟩) n n (w4.alloc (.cells (bytesArr (fun _ => 0#8) n) 5)) ⟨by unfold maxLen; omega, .inr ⟨w4.heap.size, 0, rfl, lt_row rowz, fun i hi => by rw [cell_of_row _ _ _ _ _ _ rowz, Nat.zero_add]; exact bytesArr_get _ _ _ hi⟩⟩
  obtain ⟨ZS, hZS⟩ : ∃ z, strOf (fun _ => 0#8) n = z := ⟨_, rfl⟩
  rw [hZS] at cv
  have HZS := Lib.hid hZS
  have B5 := Lib.hid (B4.out.trans (belz.mono QS4.out))
  have hn0 : (0 : Int) ≤ (n : Int) := by omega
  clear rowz belz hZS
  go_wp2_with fail
  go_ret2
  refine ⟨ret_str (show SS = ZS from ?_), by rw [HQ.out]; exact B5.out⟩
  rw [HS.out, ← HZS.out]
  show strOf (fun _ => BitVec.ofNat 8 0) 1 ++ (strOf (fun _ => 0#8) (((n : Nat) : Int).toNat - 1) ++ (⟨#[]⟩ : ByteArray)) = _
  rw [app_nil, joined, Int.toNat_natCast, show 1 + (n - 1) = n by omega]
  congr 1
  funext i
  unfold joinb
  split <;> rfl
end Go.Proofs.YtcgbhcmgddgheabDoor
namespace Go.Proofs.YtcgbhcmgddgheabDoor
open Go Go.RowKit Go.BigFrame
set_option linter.unusedSimpArgs false
set_option linter.unusedVariables false
set_option maxRecDepth 100000
set_option maxHeartbeats 16000000 in
theorem docPut_2 (S O N C : Int) (F : Bool) (D X : ByteArray) (A : List (Int × Int)) (u : Value) (w : World) (hu : SpansIn w u A) (hDm : D.size ≤ maxLen) (hXm : X.size ≤ maxLen) (SS : ByteArray) (hp : putF ⟨2, S, O, N, C, F, D, X, A⟩ = some SS) :
    Calls Tryd.prog 7 #[.agg (frC 2 S O N C F D X u)] w fun e w' => e = .returned (.tuple #[.string SS, .int .i64 0]) ∧ Below w.heap.size w w' := by
  obtain ⟨a, c, rfl, lz1, lz2⟩ := hu.at_
  clear lz1 lz2
  have RT := Lib.hid (fun (w' : World) (hb : Below w.heap.size w w') => (show Calls Tryd.prog 16 #[.agg (frC 2 S O N C F D X (.slice a A.length c))] w' fun e w'' => e = .returned (.bool true) ∧ Below w'.heap.size w' w'' from by
    have h := right_front 2 S O N C F D X A (.slice a A.length c) w' (hu.later hb) hDm hXm
    rw [hp] at h
    exact h))
  obtain ⟨⟨s1, s2⟩, ⟨o1, o2⟩, ⟨n1, n2⟩, ⟨c1, c2⟩, hd⟩ := okD_of hp
  dsimp only at s1 s2 o1 o2 n1 n2 c1 c2 hd
  have BND := Lib.hid (And.intro (And.intro s1 s2) (And.intro (And.intro o1 o2) (And.intro (And.intro n1 n2) (And.intro c1 c2))))
  have LASTD := Lib.hid (show falling A from by
    have h := ((ok_iff _).1 (by rw [hp]; rfl)).2.2.2
    unfold lastD at h
    exact h)
  have SPN := Lib.hid hu
  have hS := put_bytes (k := 2) (ps := [9]) hp rfl rfl
  have TX := Lib.hid (fun (w' : World) => docText_at D w' hd)
  obtain ⟨d, hdd⟩ : ∃ d, D.size = d := ⟨_, rfl⟩
  rw [hdd] at TX hd
  have hT8 := text_size d D hdd
  have HDD := Lib.hid hdd
  obtain ⟨TT, hTT⟩ : ∃ T, numT (d : Int) ++ D = T := ⟨_, rfl⟩
  rw [hTT] at TX hT8
  have HTT := Lib.hid hTT
  obtain ⟨tz, htz⟩ : ∃ z, TT.size = z := ⟨_, rfl⟩
  rw [htz] at hT8
  obtain ⟨m, hm⟩ : ∃ m, A.length = m := ⟨_, rfl⟩
  have HM := Lib.hid hm
  rw [hm] at RT SPN ⊢
  have HSQ := Lib.hid hS
  obtain ⟨BK, hBK⟩ : ∃ b, byteT 2 = b := ⟨_, rfl⟩
  have hBz : BK.size = 1 := by rw [← hBK]; exact strOf_size _ _
  have HBK := Lib.hid hBK
  clear hp hS hTT hdd s1 s2 o1 o2 n1 n2 c1 c2 hu hDm hXm hm hBK
  unfold frC at RT ⊢
  have row := heap_alloc_last w (.cells #[.int .i64 2, .int .i64 S, .int .i64 O, .int .i64 N, .int .i64 C, .bool F, .string D, .string X, .slice a m c] 24)
  have bel := (Below.refl w.heap.size w).alloc (Nat.le_refl _) (.cells #[.int .i64 2, .int .i64 S, .int .i64 O, .int .i64 N, .int .i64 C, .bool F, .string D, .string X, .slice a m c] 24)
  go_enter Tryd.func7, Tryd.ntmps7
  go_upto_region 1 with (fail)
  generalize w.alloc _ = wa at *
  generalize hq : w.heap.size = q at *
  have HQ := Lib.hid hq
  have ROW := Lib.hid row
  have B := Lib.hid bel
  obtain ⟨c0, c1', c2', c3, c4, c5, c6, c7, c8⟩ := cells9 row
  clear row bel hq
  go_wp2_with fail
  with_reducible refine (RT.out wa B.out).mono ?_
  rintro e w2 ⟨rfl, hb2⟩
  have R2 := Lib.hid ((hb2.block _ (lt_row ROW.out)).trans ROW.out)
  have B2 := Lib.hid (show Below q w w2 from B.out.trans (hb2.mono (by rw [← HQ.out]; exact B.out.size)))
  clear hb2 RT c0 c1' c2' c3 c4 c5 c6 c7 c8 ROW
  obtain ⟨c0, c1', c2', c3, c4, c5, c6, c7, c8⟩ := cells9 R2.out
  go_wp2_with fail
  with_reducible refine (TX.out w2).mono ?_
  rintro e w3 ⟨rfl, hb3⟩
  have QS := Lib.hid (show q ≤ w2.heap.size by rw [← HQ.out]; exact B2.out.size)
  have R3 := Lib.hid ((hb3.block _ (lt_row R2.out)).trans R2.out)
  have B3 := Lib.hid (B2.out.trans (hb3.mono QS.out))
  have QS3 := Lib.hid (Nat.le_trans QS.out hb3.size)
  clear hb3 TX c0 c1' c2' c3 c4 c5 c6 c7 c8
  obtain ⟨c0, c1', c2', c3, c4, c5, c6, c7, c8⟩ := cells9 R3.out
  have ck := conv_kind 2 (by decide) w3
  rw [show ((2 : Nat) : Int) = 2 from rfl, HBK.out] at ck
  have bel4 := (Below.refl w3.heap.size w3).alloc (Nat.le_refl _) (.cells #[.int .u8 2] 5)
  have R4 := Lib.hid ((bel4.block _ (lt_row R3.out)).trans R3.out)
  have B4 := Lib.hid (B3.out.trans (bel4.mono QS3.out))
  have QS4 := Lib.hid (Nat.le_trans QS3.out bel4.size)
  clear bel4
  go_upto_region 5 with (fail)
  clear ck c0 c1' c2' c3 c4 c5 c6 c7 c8
  generalize w3.alloc _ = w4 at *
  obtain ⟨c0, c1', c2', c3, c4, c5, c6, c7, c8⟩ := cells9 R4.out
  obtain ⟨a', c', e1, hc', hat⟩ := SPN.out.at_
  injection e1 with e1 e2 e3
  clear e2
  subst e1 e3
  rw [HM.out] at hc'
  obtain ⟨⟨hm1, hm64⟩, hfa⟩ := LASTD.out
  rw [HM.out] at hm1 hm64
  obtain h0' | ⟨b, o, rfl, hbl, hcell⟩ := hat
  · rw [h0'] at HM; have := HM.out; simp at this; omega
  have HC := Lib.hid hcell
  have hbq : b < q := by rw [← HQ.out]; exact hbl
  have FA := Lib.hid (fallF_at A MX hfa)
  have FN := Lib.hid (fallF_next A MX hfa)
  obtain ⟨p0x, p0y⟩ := hcell 0 (by rw [HM.out]; omega)
  have hg0 : A.getD 0 (0, 0) = A[0]'(by rw [HM.out]; omega) := by rw [List.getD_eq_getElem?_getD, List.getElem?_eq_getElem (by rw [HM.out]; omega)]; rfl
  have fa0 := FA.out 0 (by rw [HM.out]; omega)
  rw [hg0] at fa0
  obtain ⟨x0, hx0⟩ : ∃ x, (A[0]'(by rw [HM.out]; omega)).1 = x := ⟨_, rfl⟩
  obtain ⟨y0, hy0⟩ : ∃ x, (A[0]'(by rw [HM.out]; omega)).2 = x := ⟨_, rfl⟩
  rw [hx0] at p0x fa0
  rw [hy0] at p0y fa0
  have HX0 := Lib.hid hx0
  have HY0 := Lib.hid hy0
  have HG0 := Lib.hid hg0
  rw [Nat.zero_mul, Nat.add_zero] at p0x p0y
  obtain ⟨f01, f02, f03⟩ := fa0
  have FB := Lib.hid (And.intro f01 (And.intro f02 f03))
  have hmw : IntKind.i64.wrap ((m : Int) - 1) = (m : Int) - 1 := by rw [IntKind.wrap_i64]; omega
  have hxw : IntKind.i64.wrap (y0 - x0) = y0 - x0 := by unfold MX at f03; rw [IntKind.wrap_i64]; omega
  have hm0I : (0 : Int) < (m : Int) := by omega
  have hm0n : ¬ m = 0 := by omega
  have hmc : m ≤ c := hc'.1
  have hc63 : c ≤ 9223372036854775807 := by have := hc'.2; unfold maxLen at this; omega
  have d1 := (B4.out.cell (p := ⟨b, o, none⟩) hbq).trans p0x
  have d2 := (B4.out.cell (p := ⟨b, o + 1, none⟩) hbq).trans p0y
  have SS0 := Lib.hid (show w4.drew.cell? ⟨q, 3, none⟩ = some (.int .i64 N) ∧ w4.drew.cell? ⟨b, o, none⟩ = some (.int .i64 x0) ∧ w4.drew.cell? ⟨b, o + 1, none⟩ = some (.int .i64 y0) from ⟨c3, d1, d2⟩)
  have hb0w : b < w4.heap.size := by have := QS4.out; omega
  have hqw : q < w4.heap.size := lt_row R4.out
  obtain ⟨NX, hNX⟩ : ∃ T, numsT [y0, N, (m : Int) - 1, y0 - x0] = T := ⟨_, rfl⟩
  have hz5 : (numsT [y0, N, (m : Int) - 1, y0 - x0]).size ≤ 32 := numsT_size [y0, N, (m : Int) - 1, y0 - x0]
  rw [hNX] at hz5
  have HNX := Lib.hid hNX
  obtain ⟨nz, hnz⟩ : ∃ z, NX.size = z := ⟨_, rfl⟩
  rw [hnz] at hz5
  have q1 : ¬ 9223372036854775807 < 1 + nz := by omega
  have hMX : MX = 4611686018427387903 := rfl
  clear hNX hx0 hy0 hg0 p0x p0y hcell hfa hbl d1 d2 f01 f02 f03
  go_upto_region 10 with (fail)
  clear c0 c1' c2' c3 c4 c5 c6 c7 c8
  have HS : Hid ((fun w' : World => w'.cell? ⟨q, 3, none⟩ = some (.int .i64 N) ∧ w'.cell? ⟨b, o, none⟩ = some (.int .i64 x0) ∧ w'.cell? ⟨b, o + 1, none⟩ = some (.int .i64 y0)) w4.drew) := Lib.hid SS0.out
  refine wp_region_held_drew (S := fun w' : World => w'.cell? ⟨q, 3, none⟩ = some (.int .i64 N) ∧ w'.cell? ⟨b, o, none⟩ = some (.int .i64 x0) ∧ w'.cell? ⟨b, o + 1, none⟩ = some (.int .i64 y0)) mixedOrders HS.out (fun hHeld => ?_)
  clear hHeld
  refine wpAnyH_take (i := 0) (oi := ⟨some 38, _, _, _, _, _⟩) (v := .string BK) rfl (by kernel_rfl) (by kernel_rfl) (by kernel_rfl) (fun _ _ _ h => h) (Or.inl ⟨by rfl, fun w' hSw => ?_⟩) HS.out ?_
  · clear hSw
    go_simp
  try simp only [Act.put, List.setIfInBounds_toArray, List.set_cons_zero, List.set_cons_succ]
  refine wpAnyH_take (i := 1) (oi := ⟨some 39, _, _, _, _, _⟩) (v := .slice (some ⟨b, o, none⟩) m c) rfl (by kernel_rfl) (by kernel_rfl) (by kernel_rfl) (fun _ _ _ h => h) (Or.inl ⟨by rfl, fun w' hSw => ?_⟩) HS.out ?_
  · clear hSw
    go_simp
  try simp only [Act.put, List.setIfInBounds_toArray, List.set_cons_zero, List.set_cons_succ]
  refine wpAnyH_take (i := 2) (oi := ⟨some 40, _, _, _, _, _⟩) (v := .pointer (some ⟨b, o, none⟩)) rfl (by kernel_rfl) (by kernel_rfl) (by kernel_rfl) (fun _ _ _ h => h) (Or.inl ⟨by rfl, fun w' hSw => ?_⟩) HS.out ?_
  · clear hSw
    go_simp
  try simp only [Act.put, List.setIfInBounds_toArray, List.set_cons_zero, List.set_cons_succ]
  refine wpAnyH_take (i := 3) (oi := ⟨some 41, _, _, _, _, _⟩) (v := .pointer (some ⟨b, o + 1, none⟩)) rfl (by kernel_rfl) (by kernel_rfl) (by kernel_rfl) (fun _ _ _ h => h) (Or.inl ⟨by rfl, fun w' hSw => ?_⟩) HS.out ?_
  · clear hSw
    go_simp
  try simp only [Act.put, List.setIfInBounds_toArray, List.set_cons_zero, List.set_cons_succ]
  refine wpAnyH_take (i := 4) (oi := ⟨some 42, _, _, _, _, _⟩) (v := .int .i64 y0) rfl (by kernel_rfl) (by kernel_rfl) (by kernel_rfl) (fun _ _ _ h => h) (Or.inl ⟨by rfl, fun w' hSw => ?_⟩) HS.out ?_
  · obtain ⟨s1, s2, s3⟩ := hSw
    go_simp
  try simp only [Act.put, List.setIfInBounds_toArray, List.set_cons_zero, List.set_cons_succ]
  refine wpAnyH_take (i := 5) (oi := ⟨some 43, _, _, _, _, _⟩) (v := .pointer (some ⟨q, 3, none⟩)) rfl (by kernel_rfl) (by kernel_rfl) (by kernel_rfl) (fun _ _ _ h => h) (Or.inl ⟨by rfl, fun w' hSw => ?_⟩) HS.out ?_
  · clear hSw
    go_simp
  try simp only [Act.put, List.setIfInBounds_toArray, List.set_cons_zero, List.set_cons_succ]
  refine wpAnyH_take (i := 6) (oi := ⟨some 44, _, _, _, _, _⟩) (v := .int .i64 N) rfl (by kernel_rfl) (by kernel_rfl) (by kernel_rfl) (fun _ _ _ h => h) (Or.inl ⟨by rfl, fun w' hSw => ?_⟩) HS.out ?_
  · obtain ⟨s1, s2, s3⟩ := hSw
    go_simp
  try simp only [Act.put, List.setIfInBounds_toArray, List.set_cons_zero, List.set_cons_succ]
  refine wpAnyH_take (i := 7) (oi := ⟨some 45, _, _, _, _, _⟩) (v := .slice (some ⟨b, o, none⟩) m c) rfl (by kernel_rfl) (by kernel_rfl) (by kernel_rfl) (fun _ _ _ h => h) (Or.inl ⟨by rfl, fun w' hSw => ?_⟩) HS.out ?_
  · clear hSw
    go_simp
  try simp only [Act.put, List.setIfInBounds_toArray, List.set_cons_zero, List.set_cons_succ]
  refine wpAnyH_take (i := 8) (oi := ⟨some 46, _, _, _, _, _⟩) (v := .int .i64 (m : Int)) rfl (by kernel_rfl) (by kernel_rfl) (by kernel_rfl) (fun _ _ _ h => h) (Or.inl ⟨by rfl, fun w' hSw => ?_⟩) HS.out ?_
  · clear hSw
    go_simp
  try simp only [Act.put, List.setIfInBounds_toArray, List.set_cons_zero, List.set_cons_succ]
  refine wpAnyH_take (i := 9) (oi := ⟨some 47, _, _, _, _, _⟩) (v := .int .i64 ((m : Int) - 1)) rfl (by kernel_rfl) (by kernel_rfl) (by kernel_rfl) (fun _ _ _ h => h) (Or.inl ⟨by rfl, fun w' hSw => ?_⟩) HS.out ?_
  · clear hSw
    go_simp
  try simp only [Act.put, List.setIfInBounds_toArray, List.set_cons_zero, List.set_cons_succ]
  refine wpAnyH_take (i := 10) (oi := ⟨some 48, _, _, _, _, _⟩) (v := .slice (some ⟨b, o, none⟩) m c) rfl (by kernel_rfl) (by kernel_rfl) (by kernel_rfl) (fun _ _ _ h => h) (Or.inl ⟨by rfl, fun w' hSw => ?_⟩) HS.out ?_
  · clear hSw
    go_simp
  try simp only [Act.put, List.setIfInBounds_toArray, List.set_cons_zero, List.set_cons_succ]
  refine wpAnyH_take (i := 11) (oi := ⟨some 49, _, _, _, _, _⟩) (v := .pointer (some ⟨b, o, none⟩)) rfl (by kernel_rfl) (by kernel_rfl) (by kernel_rfl) (fun _ _ _ h => h) (Or.inl ⟨by rfl, fun w' hSw => ?_⟩) HS.out ?_
  · clear hSw
    go_simp
  try simp only [Act.put, List.setIfInBounds_toArray, List.set_cons_zero, List.set_cons_succ]
  refine wpAnyH_take (i := 12) (oi := ⟨some 50, _, _, _, _, _⟩) (v := .pointer (some ⟨b, o + 1, none⟩)) rfl (by kernel_rfl) (by kernel_rfl) (by kernel_rfl) (fun _ _ _ h => h) (Or.inl ⟨by rfl, fun w' hSw => ?_⟩) HS.out ?_
  · clear hSw
    go_simp
  try simp only [Act.put, List.setIfInBounds_toArray, List.set_cons_zero, List.set_cons_succ]
  refine wpAnyH_take (i := 13) (oi := ⟨some 51, _, _, _, _, _⟩) (v := .int .i64 y0) rfl (by kernel_rfl) (by kernel_rfl) (by kernel_rfl) (fun _ _ _ h => h) (Or.inl ⟨by rfl, fun w' hSw => ?_⟩) HS.out ?_
  · obtain ⟨s1, s2, s3⟩ := hSw
    go_simp
  try simp only [Act.put, List.setIfInBounds_toArray, List.set_cons_zero, List.set_cons_succ]
  refine wpAnyH_take (i := 14) (oi := ⟨some 52, _, _, _, _, _⟩) (v := .slice (some ⟨b, o, none⟩) m c) rfl (by kernel_rfl) (by kernel_rfl) (by kernel_rfl) (fun _ _ _ h => h) (Or.inl ⟨by rfl, fun w' hSw => ?_⟩) HS.out ?_
  · clear hSw
    go_simp
  try simp only [Act.put, List.setIfInBounds_toArray, List.set_cons_zero, List.set_cons_succ]
  refine wpAnyH_take (i := 15) (oi := ⟨some 53, _, _, _, _, _⟩) (v := .pointer (some ⟨b, o, none⟩)) rfl (by kernel_rfl) (by kernel_rfl) (by kernel_rfl) (fun _ _ _ h => h) (Or.inl ⟨by rfl, fun w' hSw => ?_⟩) HS.out ?_
  · clear hSw
    go_simp
  try simp only [Act.put, List.setIfInBounds_toArray, List.set_cons_zero, List.set_cons_succ]
  refine wpAnyH_take (i := 16) (oi := ⟨some 54, _, _, _, _, _⟩) (v := .pointer (some ⟨b, o, none⟩)) rfl (by kernel_rfl) (by kernel_rfl) (by kernel_rfl) (fun _ _ _ h => h) (Or.inl ⟨by rfl, fun w' hSw => ?_⟩) HS.out ?_
  · clear hSw
    go_simp
  try simp only [Act.put, List.setIfInBounds_toArray, List.set_cons_zero, List.set_cons_succ]
  refine wpAnyH_take (i := 17) (oi := ⟨some 55, _, _, _, _, _⟩) (v := .int .i64 x0) rfl (by kernel_rfl) (by kernel_rfl) (by kernel_rfl) (fun _ _ _ h => h) (Or.inl ⟨by rfl, fun w' hSw => ?_⟩) HS.out ?_
  · obtain ⟨s1, s2, s3⟩ := hSw
    go_simp
  try simp only [Act.put, List.setIfInBounds_toArray, List.set_cons_zero, List.set_cons_succ]
  refine wpAnyH_take (i := 18) (oi := ⟨some 56, _, _, _, _, _⟩) (v := .int .i64 (y0 - x0)) rfl (by kernel_rfl) (by kernel_rfl) (by kernel_rfl) (fun _ _ _ h => h) (Or.inl ⟨by rfl, fun w' hSw => ?_⟩) HS.out ?_
  · clear hSw
    go_simp
  try simp only [Act.put, List.setIfInBounds_toArray, List.set_cons_zero, List.set_cons_succ]
  refine wpAnyH_ready (rs := [19]) (by kernel_rfl) (by simp) ?_
  refine AllReadyH.cons (i := 19) rfl (fun K hK => ?_) AllReadyH.nil
  rw [if_pos (by rfl)]
  go_simp
  have hl : (w4.alloc (.cells #[.int .i64 (y0), .int .i64 (N), .int .i64 ((m : Int) - 1), .int .i64 (y0 - x0)] 3)).drew.heap[w4.heap.size]? = some (.cells #[.int .i64 (y0), .int .i64 (N), .int .i64 ((m : Int) - 1), .int .i64 (y0 - x0)] 3 (0, 0)) := heap_alloc_last w4 (.cells #[.int .i64 (y0), .int .i64 (N), .int .i64 ((m : Int) - 1), .int .i64 (y0 - x0)] 3)
  have al0 := (Below.refl w4.heap.size w4).alloc (Nat.le_refl _) (.cells #[.int .i64 (y0), .int .i64 (N), .int .i64 ((m : Int) - 1), .int .i64 (y0 - x0)] 3)
  have al : Below w4.heap.size w4.drew (w4.alloc (.cells #[.int .i64 (y0), .int .i64 (N), .int .i64 ((m : Int) - 1), .int .i64 (y0 - x0)] 3)).drew := ⟨al0.os, al0.tape, al0.output, al0.size, al0.block⟩
  clear al0
  generalize (World.alloc _ _).drew = w5 at *
  have AL := Lib.hid al
  have HL := Lib.hid hl
  have SB := Lib.hid (And.intro ((al.cell (p := ⟨q, 3, none⟩) hqw).trans SS0.out.1) (And.intro ((al.cell (p := ⟨b, o, none⟩) hb0w).trans SS0.out.2.1) ((al.cell (p := ⟨b, o + 1, none⟩) hb0w).trans SS0.out.2.2)))
  clear hl al
  refine hK.out _ _ SB.out (fun _ => ?_)
  clear hK K
  try simp only [Act.put, List.setIfInBounds_toArray, List.set_cons_zero, List.set_cons_succ]
  refine wpAnyH_ready (rs := [20]) (by kernel_rfl) (by simp) ?_
  refine AllReadyH.cons (i := 20) rfl (fun K hK => ?_) AllReadyH.nil
  rw [if_pos (by rfl)]
  go_simp
  have hl : ∀ (i : Nat) (hi : i < ([y0, N, (m : Int) - 1, y0 - x0] : List Int).length), 0 ≤ ([y0, N, (m : Int) - 1, y0 - x0] : List Int)[i] ∧ ([y0, N, (m : Int) - 1, y0 - x0] : List Int)[i] ≤ MX := fun i hi => by
      match i, hi with
      | 0, _ => exact ⟨Int.le_trans FB.out.1 FB.out.2.1, FB.out.2.2⟩
      | 1, _ => exact BND.out.2.2.1
      | 2, _ => exact ⟨by show 0 ≤ (m : Int) - 1; omega, by show (m : Int) - 1 ≤ MX; omega⟩
      | 3, _ => exact ⟨by show 0 ≤ y0 - x0; have := FB.out; omega, by show y0 - x0 ≤ MX; have := FB.out; omega⟩

  have pn := put_nums [y0, N, (m : Int) - 1, y0 - x0] hl (by simp) _ w5 HL.out
  clear hl
  go_at_call 18
  refine pn.mono ?_
  rintro e w6 ⟨rfl, hb6⟩
  dsimp only
  have AL6 := Lib.hid hb6
  have SC := Lib.hid (And.intro ((hb6.cell (p := ⟨q, 3, none⟩) (Nat.lt_of_lt_of_le hqw AL.out.size)).trans SB.out.1) (And.intro ((hb6.cell (p := ⟨b, o, none⟩) (Nat.lt_of_lt_of_le hb0w AL.out.size)).trans SB.out.2.1) ((hb6.cell (p := ⟨b, o + 1, none⟩) (Nat.lt_of_lt_of_le hb0w AL.out.size)).trans SB.out.2.2)))
  clear pn hb6
  rw [HNX.out]
  refine hK.out _ _ SC.out (fun _ => ?_)
  clear hK K
  try simp only [Act.put, List.setIfInBounds_toArray, List.set_cons_zero, List.set_cons_succ]
  refine wpAnyH_take (i := 21) (oi := ⟨some 59, _, _, _, _, _⟩) (v := .string (BK ++ NX)) rfl (by kernel_rfl) (by kernel_rfl) (by kernel_rfl) (fun _ _ _ h => h) (Or.inl ⟨by rfl, fun w' hSw => ?_⟩) SC.out ?_
  · clear hSw
    go_simp
  try simp only [Act.put, List.setIfInBounds_toArray, List.set_cons_zero, List.set_cons_succ]
  refine wpAnyH_take (i := 22) (oi := ⟨some 8, _, _, _, _, _⟩) (v := .string (BK ++ NX)) rfl (by kernel_rfl) (by kernel_rfl) (by kernel_rfl) (fun _ _ _ h => h) (Or.inl ⟨by rfl, fun w' hSw => ?_⟩) SC.out ?_
  · clear hSw
    go_simp
  try simp only [Act.put, List.setIfInBounds_toArray, List.set_cons_zero, List.set_cons_succ]
  refine wpAnyH_done (by kernel_rfl) ?_ _
  have B6 := Lib.hid (B4.out.drew.trans ((AL.out.mono QS4.out).trans (AL6.out.mono (Nat.le_trans QS4.out AL.out.size))))
  have R6 := Lib.hid ((AL6.out.block _ (Nat.lt_of_lt_of_le hqw AL.out.size)).trans ((AL.out.block _ hqw).trans (show w4.drew.heap[q]? = _ from R4.out)))
  have QS6 := Lib.hid (Nat.le_trans QS4.out (Nat.le_trans AL.out.size AL6.out.size))
  have BZ := Lib.hid (show BK ++ NX = BK ++ numsT (headL N A ++ gapL A 0) from by
    rw [← HNX.out]
    unfold headL
    rw [HG0.out, HX0.out, HY0.out, HM.out]
    rfl)
  clear HS SS0 SB SC hmw hxw q1 hz5 hnz
  go_upto_region 12 with (fail)
  go_loopw [8, 9] (fun s8 s9 wr => ∃ (i : Nat), 1 ≤ i ∧ i ≤ m ∧ s9 = .int .i64 (i : Int) ∧ s8 = .string (BK ++ numsT (headL N A ++ gapL A (i - 1))) ∧ Below w6.heap.size w6 wr) (fun _ s9 _ => m - (intOf s9).toNat)
  case atStart => exact ⟨1, by omega, by omega, rfl, by rw [BZ.out], Below.refl _ _⟩
  case round =>
    obtain ⟨i, hi1, him, rfl, rfl, hbw⟩ := hrel
    have BW := Lib.hid hbw
    clear hbw
    by_cases him2 : i < m
    rotate_left
    · obtain rfl : i = m := by omega
      have hiI : ¬ (i : Int) < (i : Int) := by omega
      obtain ⟨RS, hRS⟩ : ∃ T, BK ++ numsT (headL N A ++ gapL A (i - 1)) = T := ⟨_, rfl⟩
      rw [hRS]
      have HRS := Lib.hid hRS
      clear hRS
      go_wp2_with fail
      go_ret2
      refine ⟨ret_str (show SS = RS from ?_), by rw [HQ.out]; exact B6.out.trans (BW.out.mono QS6.out)⟩
      rw [HSQ.out, HBK.out, ← HRS.out]
      show BK ++ (numsT (acksL N A) ++ (⟨#[]⟩ : ByteArray)) = _
      rw [app_nil]
      unfold acksL
      rw [HM.out]
    obtain ⟨k, rfl⟩ : ∃ k, i = k + 1 := ⟨i - 1, by omega⟩
    have hkA : k < A.length := by rw [HM.out]; omega
    have hkA1 : k + 1 < A.length := by rw [HM.out]; exact him2
    obtain ⟨pp, _⟩ := HC.out k hkA
    obtain ⟨px, py⟩ := HC.out (k + 1) hkA1
    have BQ := Lib.hid (B6.out.trans (BW.out.mono QS6.out))
    have dp := (BQ.out.cell (p := ⟨b, o + k * 2, none⟩) hbq).trans pp
    have dx := (BQ.out.cell (p := ⟨b, o + (k + 1) * 2, none⟩) hbq).trans px
    have dy := (BQ.out.cell (p := ⟨b, o + (k + 1) * 2 + 1, none⟩) hbq).trans py
    have gk : A.getD k (0, 0) = A[k]'hkA := by rw [List.getD_eq_getElem?_getD, List.getElem?_eq_getElem hkA]; rfl
    have gk1 : A.getD (k + 1) (0, 0) = A[k + 1]'hkA1 := by rw [List.getD_eq_getElem?_getD, List.getElem?_eq_getElem hkA1]; rfl
    have fk := FA.out k hkA
    have fk1 := FA.out (k + 1) hkA1
    have fn := FN.out k hkA1
    have gs := gapL_succ A k
    rw [gk, gk1] at gs
    rw [gk] at fk
    rw [gk1] at fk1
    rw [gk, gk1] at fn
    obtain ⟨pv, hpv⟩ : ∃ z, (A[k]'hkA).1 = z := ⟨_, rfl⟩
    obtain ⟨pw, hpw⟩ : ∃ z, (A[k]'hkA).2 = z := ⟨_, rfl⟩
    obtain ⟨x, hx⟩ : ∃ z, (A[k + 1]'hkA1).1 = z := ⟨_, rfl⟩
    obtain ⟨y, hy⟩ : ∃ z, (A[k + 1]'hkA1).2 = z := ⟨_, rfl⟩
    rw [hpv] at dp fk fn gs
    rw [hx] at dx fk1 gs
    rw [hy] at dy fk1 fn gs
    rw [hpw] at fk
    obtain ⟨_, fk2, fk3⟩ := fk
    obtain ⟨fx1, fx2, fx3⟩ := fk1
    have GS := Lib.hid gs
    have FX := Lib.hid (And.intro (And.intro fx1 fx2) (And.intro fx3 (And.intro fn (And.intro fk2 fk3))))
    have w1' : IntKind.i64.wrap (pv - y) = pv - y := by rw [IntKind.wrap_i64]; omega
    have w2' : IntKind.i64.wrap (pv - y - 2) = pv - y - 2 := by rw [IntKind.wrap_i64]; omega
    have w3' : IntKind.i64.wrap (y - x) = y - x := by rw [IntKind.wrap_i64]; omega
    have w4' : IntKind.i64.wrap (k : Int) = (k : Int) := by rw [IntKind.wrap_i64]; omega
    have hk1 : ((k + 1 : Nat) : Int) - 1 = (k : Int) := by omega
    have hiI : ((k + 1 : Nat) : Int) < (m : Int) := by omega
    have hi0 : (0 : Int) ≤ ((k + 1 : Nat) : Int) := by omega
    have hkI : (k : Int) < (m : Int) := by omega
    have hi0n : ¬ (k : Int) + 1 < 0 := by omega
    have hi1n : (k : Int) + 1 < (m : Int) := by omega
    have hk0 : (0 : Int) ≤ (k : Int) := by omega
    have az := acks_size N A (k + 1 - 1) (by omega)
    obtain ⟨NP, hNP⟩ : ∃ T, numsT (headL N A ++ gapL A (k + 1 - 1)) = T := ⟨_, rfl⟩
    rw [hNP] at az
    have HNP := Lib.hid hNP
    rw [hNP]
    obtain ⟨pz, hpz⟩ : ∃ z, NP.size = z := ⟨_, rfl⟩
    rw [hpz] at az
    obtain ⟨SV, hSV⟩ : ∃ T, BK ++ NP = T := ⟨_, rfl⟩
    have hsv : SV.size = 1 + pz := by rw [← hSV, size_append, hBz, hpz]
    rw [hSV]
    have HSV := Lib.hid hSV
    obtain ⟨NY, hNY⟩ : ∃ T, numsT [pv - y - 2, y - x] = T := ⟨_, rfl⟩
    have hy5 : (numsT [pv - y - 2, y - x]).size ≤ 16 := numsT_size [pv - y - 2, y - x]
    rw [hNY] at hy5
    have HNY := Lib.hid hNY
    obtain ⟨yz, hyz⟩ : ∃ z, NY.size = z := ⟨_, rfl⟩
    rw [hyz] at hy5
    have q3 : ¬ 9223372036854775807 < 1 + pz + yz := by omega
    have SS2 := Lib.hid (show wr.drew.cell? ⟨b, o + k * 2, none⟩ = some (.int .i64 pv) ∧ wr.drew.cell? ⟨b, o + (k + 1) * 2, none⟩ = some (.int .i64 x) ∧ wr.drew.cell? ⟨b, o + (k + 1) * 2 + 1, none⟩ = some (.int .i64 y) from ⟨dp, dx, dy⟩)
    have hbwr : b < wr.heap.size := by have h1 := BW.out.size; have h2 := QS6.out; omega
    clear pp px py dp dx dy gk gk1 fn gs hpv hpw hx hy hNP hSV hNY fk2 fk3 fx1 fx2 fx3
    go_upto_region 14 with (fail)
    have HS2 : Hid ((fun w' : World => w'.cell? ⟨b, o + k * 2, none⟩ = some (.int .i64 pv) ∧ w'.cell? ⟨b, o + (k + 1) * 2, none⟩ = some (.int .i64 x) ∧ w'.cell? ⟨b, o + (k + 1) * 2 + 1, none⟩ = some (.int .i64 y)) wr.drew) := Lib.hid SS2.out
    refine wp_region_held_drew (S := fun w' : World => w'.cell? ⟨b, o + k * 2, none⟩ = some (.int .i64 pv) ∧ w'.cell? ⟨b, o + (k + 1) * 2, none⟩ = some (.int .i64 x) ∧ w'.cell? ⟨b, o + (k + 1) * 2 + 1, none⟩ = some (.int .i64 y)) mixedOrders HS2.out (fun hHeld => ?_)
    clear hHeld
    refine wpAnyH_take (i := 0) (oi := ⟨some 66, _, _, _, _, _⟩) (v := .string SV) rfl (by kernel_rfl) (by kernel_rfl) (by kernel_rfl) (fun _ _ _ h => h) (Or.inl ⟨by rfl, fun w' hSw => ?_⟩) HS2.out ?_
    · clear hSw
      go_simp
    try simp only [Act.put, List.setIfInBounds_toArray, List.set_cons_zero, List.set_cons_succ]
    refine wpAnyH_take (i := 1) (oi := ⟨some 67, _, _, _, _, _⟩) (v := .slice (some ⟨b, o, none⟩) m c) rfl (by kernel_rfl) (by kernel_rfl) (by kernel_rfl) (fun _ _ _ h => h) (Or.inl ⟨by rfl, fun w' hSw => ?_⟩) HS2.out ?_
    · clear hSw
      go_simp
    try simp only [Act.put, List.setIfInBounds_toArray, List.set_cons_zero, List.set_cons_succ]
    refine wpAnyH_take (i := 2) (oi := ⟨some 68, _, _, _, _, _⟩) (v := .int .i64 ((k + 1 : Nat) : Int)) rfl (by kernel_rfl) (by kernel_rfl) (by kernel_rfl) (fun _ _ _ h => h) (Or.inl ⟨by rfl, fun w' hSw => ?_⟩) HS2.out ?_
    · clear hSw
      go_simp
    try simp only [Act.put, List.setIfInBounds_toArray, List.set_cons_zero, List.set_cons_succ]
    refine wpAnyH_take (i := 3) (oi := ⟨some 69, _, _, _, _, _⟩) (v := .int .i64 (k : Int)) rfl (by kernel_rfl) (by kernel_rfl) (by kernel_rfl) (fun _ _ _ h => h) (Or.inl ⟨by rfl, fun w' hSw => ?_⟩) HS2.out ?_
    · clear hSw
      go_simp
    try simp only [Act.put, List.setIfInBounds_toArray, List.set_cons_zero, List.set_cons_succ]
    refine wpAnyH_take (i := 4) (oi := ⟨some 70, _, _, _, _, _⟩) (v := .pointer (some ⟨b, o + k * 2, none⟩)) rfl (by kernel_rfl) (by kernel_rfl) (by kernel_rfl) (fun _ _ _ h => h) (Or.inl ⟨by rfl, fun w' hSw => ?_⟩) HS2.out ?_
    · clear hSw
      go_simp
    try simp only [Act.put, List.setIfInBounds_toArray, List.set_cons_zero, List.set_cons_succ]
    refine wpAnyH_take (i := 5) (oi := ⟨some 71, _, _, _, _, _⟩) (v := .pointer (some ⟨b, o + k * 2, none⟩)) rfl (by kernel_rfl) (by kernel_rfl) (by kernel_rfl) (fun _ _ _ h => h) (Or.inl ⟨by rfl, fun w' hSw => ?_⟩) HS2.out ?_
    · clear hSw
      go_simp
    try simp only [Act.put, List.setIfInBounds_toArray, List.set_cons_zero, List.set_cons_succ]
    refine wpAnyH_take (i := 6) (oi := ⟨some 72, _, _, _, _, _⟩) (v := .int .i64 pv) rfl (by kernel_rfl) (by kernel_rfl) (by kernel_rfl) (fun _ _ _ h => h) (Or.inl ⟨by rfl, fun w' hSw => ?_⟩) HS2.out ?_
    · obtain ⟨s1, s2, s3⟩ := hSw
      go_simp
    try simp only [Act.put, List.setIfInBounds_toArray, List.set_cons_zero, List.set_cons_succ]
    refine wpAnyH_take (i := 7) (oi := ⟨some 73, _, _, _, _, _⟩) (v := .slice (some ⟨b, o, none⟩) m c) rfl (by kernel_rfl) (by kernel_rfl) (by kernel_rfl) (fun _ _ _ h => h) (Or.inl ⟨by rfl, fun w' hSw => ?_⟩) HS2.out ?_
    · clear hSw
      go_simp
    try simp only [Act.put, List.setIfInBounds_toArray, List.set_cons_zero, List.set_cons_succ]
    refine wpAnyH_take (i := 8) (oi := ⟨some 74, _, _, _, _, _⟩) (v := .int .i64 ((k + 1 : Nat) : Int)) rfl (by kernel_rfl) (by kernel_rfl) (by kernel_rfl) (fun _ _ _ h => h) (Or.inl ⟨by rfl, fun w' hSw => ?_⟩) HS2.out ?_
    · clear hSw
      go_simp
    try simp only [Act.put, List.setIfInBounds_toArray, List.set_cons_zero, List.set_cons_succ]
    refine wpAnyH_take (i := 9) (oi := ⟨some 75, _, _, _, _, _⟩) (v := .pointer (some ⟨b, o + (k + 1) * 2, none⟩)) rfl (by kernel_rfl) (by kernel_rfl) (by kernel_rfl) (fun _ _ _ h => h) (Or.inl ⟨by rfl, fun w' hSw => ?_⟩) HS2.out ?_
    · clear hSw
      go_simp
    try simp only [Act.put, List.setIfInBounds_toArray, List.set_cons_zero, List.set_cons_succ]
    refine wpAnyH_take (i := 10) (oi := ⟨some 76, _, _, _, _, _⟩) (v := .pointer (some ⟨b, o + (k + 1) * 2 + 1, none⟩)) rfl (by kernel_rfl) (by kernel_rfl) (by kernel_rfl) (fun _ _ _ h => h) (Or.inl ⟨by rfl, fun w' hSw => ?_⟩) HS2.out ?_
    · clear hSw
      go_simp
    try simp only [Act.put, List.setIfInBounds_toArray, List.set_cons_zero, List.set_cons_succ]
    refine wpAnyH_take (i := 11) (oi := ⟨some 77, _, _, _, _, _⟩) (v := .int .i64 y) rfl (by kernel_rfl) (by kernel_rfl) (by kernel_rfl) (fun _ _ _ h => h) (Or.inl ⟨by rfl, fun w' hSw => ?_⟩) HS2.out ?_
    · obtain ⟨s1, s2, s3⟩ := hSw
      go_simp
    try simp only [Act.put, List.setIfInBounds_toArray, List.set_cons_zero, List.set_cons_succ]
    refine wpAnyH_take (i := 12) (oi := ⟨some 78, _, _, _, _, _⟩) (v := .int .i64 (pv - y)) rfl (by kernel_rfl) (by kernel_rfl) (by kernel_rfl) (fun _ _ _ h => h) (Or.inl ⟨by rfl, fun w' hSw => ?_⟩) HS2.out ?_
    · clear hSw
      go_simp
    try simp only [Act.put, List.setIfInBounds_toArray, List.set_cons_zero, List.set_cons_succ]
    refine wpAnyH_take (i := 13) (oi := ⟨some 79, _, _, _, _, _⟩) (v := .int .i64 (pv - y - 2)) rfl (by kernel_rfl) (by kernel_rfl) (by kernel_rfl) (fun _ _ _ h => h) (Or.inl ⟨by rfl, fun w' hSw => ?_⟩) HS2.out ?_
    · clear hSw
      go_simp
    try simp only [Act.put, List.setIfInBounds_toArray, List.set_cons_zero, List.set_cons_succ]
    refine wpAnyH_take (i := 14) (oi := ⟨some 80, _, _, _, _, _⟩) (v := .slice (some ⟨b, o, none⟩) m c) rfl (by kernel_rfl) (by kernel_rfl) (by kernel_rfl) (fun _ _ _ h => h) (Or.inl ⟨by rfl, fun w' hSw => ?_⟩) HS2.out ?_
    · clear hSw
      go_simp
    try simp only [Act.put, List.setIfInBounds_toArray, List.set_cons_zero, List.set_cons_succ]
    refine wpAnyH_take (i := 15) (oi := ⟨some 81, _, _, _, _, _⟩) (v := .int .i64 ((k + 1 : Nat) : Int)) rfl (by kernel_rfl) (by kernel_rfl) (by kernel_rfl) (fun _ _ _ h => h) (Or.inl ⟨by rfl, fun w' hSw => ?_⟩) HS2.out ?_
    · clear hSw
      go_simp
    try simp only [Act.put, List.setIfInBounds_toArray, List.set_cons_zero, List.set_cons_succ]
    refine wpAnyH_take (i := 16) (oi := ⟨some 82, _, _, _, _, _⟩) (v := .pointer (some ⟨b, o + (k + 1) * 2, none⟩)) rfl (by kernel_rfl) (by kernel_rfl) (by kernel_rfl) (fun _ _ _ h => h) (Or.inl ⟨by rfl, fun w' hSw => ?_⟩) HS2.out ?_
    · clear hSw
      go_simp
    try simp only [Act.put, List.setIfInBounds_toArray, List.set_cons_zero, List.set_cons_succ]
    refine wpAnyH_take (i := 17) (oi := ⟨some 83, _, _, _, _, _⟩) (v := .pointer (some ⟨b, o + (k + 1) * 2 + 1, none⟩)) rfl (by kernel_rfl) (by kernel_rfl) (by kernel_rfl) (fun _ _ _ h => h) (Or.inl ⟨by rfl, fun w' hSw => ?_⟩) HS2.out ?_
    · clear hSw
      go_simp
    try simp only [Act.put, List.setIfInBounds_toArray, List.set_cons_zero, List.set_cons_succ]
    refine wpAnyH_take (i := 18) (oi := ⟨some 84, _, _, _, _, _⟩) (v := .int .i64 y) rfl (by kernel_rfl) (by kernel_rfl) (by kernel_rfl) (fun _ _ _ h => h) (Or.inl ⟨by rfl, fun w' hSw => ?_⟩) HS2.out ?_
    · obtain ⟨s1, s2, s3⟩ := hSw
      go_simp
    try simp only [Act.put, List.setIfInBounds_toArray, List.set_cons_zero, List.set_cons_succ]
    refine wpAnyH_take (i := 19) (oi := ⟨some 85, _, _, _, _, _⟩) (v := .slice (some ⟨b, o, none⟩) m c) rfl (by kernel_rfl) (by kernel_rfl) (by kernel_rfl) (fun _ _ _ h => h) (Or.inl ⟨by rfl, fun w' hSw => ?_⟩) HS2.out ?_
    · clear hSw
      go_simp
    try simp only [Act.put, List.setIfInBounds_toArray, List.set_cons_zero, List.set_cons_succ]
    refine wpAnyH_take (i := 20) (oi := ⟨some 86, _, _, _, _, _⟩) (v := .int .i64 ((k + 1 : Nat) : Int)) rfl (by kernel_rfl) (by kernel_rfl) (by kernel_rfl) (fun _ _ _ h => h) (Or.inl ⟨by rfl, fun w' hSw => ?_⟩) HS2.out ?_
    · clear hSw
      go_simp
    try simp only [Act.put, List.setIfInBounds_toArray, List.set_cons_zero, List.set_cons_succ]
    refine wpAnyH_take (i := 21) (oi := ⟨some 87, _, _, _, _, _⟩) (v := .pointer (some ⟨b, o + (k + 1) * 2, none⟩)) rfl (by kernel_rfl) (by kernel_rfl) (by kernel_rfl) (fun _ _ _ h => h) (Or.inl ⟨by rfl, fun w' hSw => ?_⟩) HS2.out ?_
    · clear hSw
      go_simp
    try simp only [Act.put, List.setIfInBounds_toArray, List.set_cons_zero, List.set_cons_succ]
    refine wpAnyH_take (i := 22) (oi := ⟨some 88, _, _, _, _, _⟩) (v := .pointer (some ⟨b, o + (k + 1) * 2, none⟩)) rfl (by kernel_rfl) (by kernel_rfl) (by kernel_rfl) (fun _ _ _ h => h) (Or.inl ⟨by rfl, fun w' hSw => ?_⟩) HS2.out ?_
    · clear hSw
      go_simp
    try simp only [Act.put, List.setIfInBounds_toArray, List.set_cons_zero, List.set_cons_succ]
    refine wpAnyH_take (i := 23) (oi := ⟨some 89, _, _, _, _, _⟩) (v := .int .i64 x) rfl (by kernel_rfl) (by kernel_rfl) (by kernel_rfl) (fun _ _ _ h => h) (Or.inl ⟨by rfl, fun w' hSw => ?_⟩) HS2.out ?_
    · obtain ⟨s1, s2, s3⟩ := hSw
      go_simp
    try simp only [Act.put, List.setIfInBounds_toArray, List.set_cons_zero, List.set_cons_succ]
    refine wpAnyH_take (i := 24) (oi := ⟨some 90, _, _, _, _, _⟩) (v := .int .i64 (y - x)) rfl (by kernel_rfl) (by kernel_rfl) (by kernel_rfl) (fun _ _ _ h => h) (Or.inl ⟨by rfl, fun w' hSw => ?_⟩) HS2.out ?_
    · clear hSw
      go_simp
    try simp only [Act.put, List.setIfInBounds_toArray, List.set_cons_zero, List.set_cons_succ]
    refine wpAnyH_ready (rs := [25]) (by kernel_rfl) (by simp) ?_
    refine AllReadyH.cons (i := 25) rfl (fun K hK => ?_) AllReadyH.nil
    rw [if_pos (by rfl)]
    go_simp
    have hl : (wr.alloc (.cells #[.int .i64 (pv - y - 2), .int .i64 (y - x)] 3)).drew.heap[wr.heap.size]? = some (.cells #[.int .i64 (pv - y - 2), .int .i64 (y - x)] 3 (0, 0)) := heap_alloc_last wr (.cells #[.int .i64 (pv - y - 2), .int .i64 (y - x)] 3)
    have al0 := (Below.refl wr.heap.size wr).alloc (Nat.le_refl _) (.cells #[.int .i64 (pv - y - 2), .int .i64 (y - x)] 3)
    have al : Below wr.heap.size wr.drew (wr.alloc (.cells #[.int .i64 (pv - y - 2), .int .i64 (y - x)] 3)).drew := ⟨al0.os, al0.tape, al0.output, al0.size, al0.block⟩
    clear al0
    generalize (World.alloc _ _).drew = w7 at *
    have AL := Lib.hid al
    have HL := Lib.hid hl
    have SB := Lib.hid (And.intro ((al.cell (p := ⟨b, o + k * 2, none⟩) hbwr).trans SS2.out.1) (And.intro ((al.cell (p := ⟨b, o + (k + 1) * 2, none⟩) hbwr).trans SS2.out.2.1) ((al.cell (p := ⟨b, o + (k + 1) * 2 + 1, none⟩) hbwr).trans SS2.out.2.2)))
    clear hl al
    refine hK.out _ _ SB.out (fun _ => ?_)
    clear hK K
    try simp only [Act.put, List.setIfInBounds_toArray, List.set_cons_zero, List.set_cons_succ]
    refine wpAnyH_ready (rs := [26]) (by kernel_rfl) (by simp) ?_
    refine AllReadyH.cons (i := 26) rfl (fun K hK => ?_) AllReadyH.nil
    rw [if_pos (by rfl)]
    go_simp
    have hl : ∀ (i : Nat) (hi : i < ([pv - y - 2, y - x] : List Int).length), 0 ≤ ([pv - y - 2, y - x] : List Int)[i] ∧ ([pv - y - 2, y - x] : List Int)[i] ≤ MX := fun i hi => by
        match i, hi with
        | 0, _ => exact ⟨by show 0 ≤ pv - y - 2; have := FX.out; omega, by show pv - y - 2 ≤ MX; have := FX.out; omega⟩
        | 1, _ => exact ⟨by show 0 ≤ y - x; have := FX.out; omega, by show y - x ≤ MX; have := FX.out; omega⟩

    have pn := put_nums [pv - y - 2, y - x] hl (by simp) _ w7 HL.out
    clear hl
    go_at_call 18
    refine pn.mono ?_
    rintro e w8 ⟨rfl, hb6⟩
    dsimp only
    have AL8 := Lib.hid hb6
    have SC := Lib.hid (And.intro ((hb6.cell (p := ⟨b, o + k * 2, none⟩) (Nat.lt_of_lt_of_le hbwr AL.out.size)).trans SB.out.1) (And.intro ((hb6.cell (p := ⟨b, o + (k + 1) * 2, none⟩) (Nat.lt_of_lt_of_le hbwr AL.out.size)).trans SB.out.2.1) ((hb6.cell (p := ⟨b, o + (k + 1) * 2 + 1, none⟩) (Nat.lt_of_lt_of_le hbwr AL.out.size)).trans SB.out.2.2)))
    clear pn hb6
    rw [HNY.out]
    refine hK.out _ _ SC.out (fun _ => ?_)
    clear hK K
    try simp only [Act.put, List.setIfInBounds_toArray, List.set_cons_zero, List.set_cons_succ]
    refine wpAnyH_take (i := 27) (oi := ⟨some 93, _, _, _, _, _⟩) (v := .string (SV ++ NY)) rfl (by kernel_rfl) (by kernel_rfl) (by kernel_rfl) (fun _ _ _ h => h) (Or.inl ⟨by rfl, fun w' hSw => ?_⟩) SC.out ?_
    · clear hSw
      go_simp
    try simp only [Act.put, List.setIfInBounds_toArray, List.set_cons_zero, List.set_cons_succ]
    refine wpAnyH_take (i := 28) (oi := ⟨some 8, _, _, _, _, _⟩) (v := .string (SV ++ NY)) rfl (by kernel_rfl) (by kernel_rfl) (by kernel_rfl) (fun _ _ _ h => h) (Or.inl ⟨by rfl, fun w' hSw => ?_⟩) SC.out ?_
    · clear hSw
      go_simp
    try simp only [Act.put, List.setIfInBounds_toArray, List.set_cons_zero, List.set_cons_succ]
    refine wpAnyH_done (by kernel_rfl) ?_ _
    have B8 := Lib.hid (BW.out.drew.trans ((AL.out.mono BW.out.size).trans (AL8.out.mono (Nat.le_trans BW.out.size AL.out.size))))
    have NXT := Lib.hid (show SV ++ NY = BK ++ numsT (headL N A ++ gapL A (k + 1 + 1 - 1)) from by
      rw [← HSV.out, ← HNP.out, ← HNY.out, show k + 1 + 1 - 1 = k + 1 by omega, GS.out, show k + 1 - 1 = k by omega, ByteArray.append_assoc, ← numsT_append, List.append_assoc])
    clear HS2 SS2 SB SC w1' w2' w3' w4' q3
    go_wp2_with fail
    go_roundw
    case rel => exact ⟨k + 1 + 1, by omega, by omega, by go_num, by first | (rw [NXT.out]; done) | (rw [NXT.out]; rfl), B8.out⟩
    case measure => (simp [intOf] <;> omega)
end Go.Proofs.YtcgbhcmgddgheabDoor
