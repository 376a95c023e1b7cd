/-
  FRAMES: THE DOCUMENT's Put, OF KINDS 24 AND 8.
  FRAMES: THE DOCUMENT's Put, OF KIND 8.
  FRAMES: THE DOCUMENT's Put, OF EVERY FRAME.
  THE LAW FramesPut.
-/
import Derived.Test.YtcgbhcmgddgheabDoorFrPy
import Derived.Test.YtcgbhcmgddgheabDoorFrI
import Derived.Test.YtcgbhcmgddgheabDoorFrT
import Derived.Test.YtcgbhcmgddgheabDoorFrVz
import Derived.Test.YtcgbhcmgddgheabDoorFrYz
namespace Go.Proofs.YtcgbhcmgddgheabDoor
open Go Go.RowKit Go.BigFrame
set_option linter.unusedSimpArgs false
set_option linter.unusedVariables false
set_option maxRecDepth 100000
theorem conv_row (k : Nat) (hk : k < 256) (w : World) (b : Nat) (hrow : w.heap[b]? = some (.cells #[.int .u8 (k : Int)] 5 (0, 0))) : (convert 28 9 (.slice (some ⟨b, 0, none⟩) 1 1)).run Tryd.prog w = .ok (.string (byteT k)) w := by
  refine conv_in (fun _ => BitVec.ofNat 8 k) (some ⟨b, 0, none⟩) 1 1 _ ⟨by unfold maxLen; omega, .inr ⟨b, 0, rfl, lt_row hrow, fun i hi => ?_⟩⟩
  obtain rfl : i = 0 := by omega
  rw [cell_of_row _ _ _ _ _ _ hrow, n8_nat, BitVec.toNat_ofNat, Nat.mod_eq_of_lt hk]
  rfl
theorem numT_10 : numT 10 = byteT 10 := by unfold numT byteT; rfl
theorem numT_11 : numT 11 = byteT 11 := by unfold numT byteT; rfl
theorem numT_14 : numT 14 = byteT 14 := by unfold numT byteT; rfl
theorem numT_15 : numT 15 = byteT 15 := by unfold numT byteT; rfl
set_option maxHeartbeats 16000000 in
theorem docPut_24 (S O N C : Int) (F : Bool) (D X : ByteArray) (A : List (Int × Int)) (u : Value) (w : World) (hu : SpansIn w u A) (hDm : D.size ≤ maxLen) (hXm : X.size ≤ maxLen) (SS : ByteArray) (hp : putF ⟨24, S, O, N, C, F, D, X, A⟩ = some SS) :
    Calls Tryd.prog 7 #[.agg (frC 24 S O N C F D X u)] w fun e w' => e = .returned (.tuple #[.string SS, .int .i64 0]) ∧ Below w.heap.size w w' := by
  obtain ⟨a, c, rfl, _, _⟩ := hu.at_
  have RT := Lib.hid (fun (w' : World) (hb : Below w.heap.size w w') => (show Calls Tryd.prog 16 #[.agg (frC 24 S O N C F D X (.slice a A.length c))] w' fun e w'' => e = .returned (.bool true) ∧ Below w'.heap.size w' w'' from by
    have h := right_front 24 S O N C F D X A (.slice a A.length c) w' (hu.later hb) hDm hXm
    rw [hp] at h
    exact h))
  obtain ⟨⟨s1, s2⟩, ⟨o1, o2⟩, ⟨n1, n2⟩, ⟨c1, c2⟩, hd⟩ := okD_of hp
  dsimp only at s1 s2 o1 o2 n1 n2 c1 c2 hd
  have BND := Lib.hid (And.intro (And.intro s1 s2) (And.intro (And.intro o1 o2) (And.intro (And.intro n1 n2) (And.intro c1 c2))))
  have LASTD := Lib.hid (show O ≤ N ∧ 1 ≤ D.size ∧ D.size ≤ 20 ∧ X.size = 16 from by
    have h := ((ok_iff _).1 (by rw [hp]; rfl)).2.2.2
    unfold lastD at h
    exact h)
  have hS := put_bytes (k := 24) (ps := [2, 1, 6, 8]) hp rfl rfl
  have TX := Lib.hid (fun (w' : World) => docText_at D w' hd)
  obtain ⟨d, hdd⟩ : ∃ d, D.size = d := ⟨_, rfl⟩
  rw [hdd] at TX hd
  have hT8 := text_size d D hdd
  have HDD := Lib.hid hdd
  obtain ⟨TT, hTT⟩ : ∃ T, numT (d : Int) ++ D = T := ⟨_, rfl⟩
  rw [hTT] at TX hT8
  have HTT := Lib.hid hTT
  obtain ⟨tz, htz⟩ : ∃ z, TT.size = z := ⟨_, rfl⟩
  rw [htz] at hT8
  obtain ⟨m, hm⟩ : ∃ m, A.length = m := ⟨_, rfl⟩
  rw [hm] at RT ⊢
  have HS := Lib.hid hS
  obtain ⟨BK, hBK⟩ : ∃ b, byteT 24 = b := ⟨_, rfl⟩
  have hBz : BK.size = 1 := by rw [← hBK]; exact strOf_size _ _
  have HBK := Lib.hid hBK
  clear hp hS hTT hdd s1 s2 o1 o2 n1 n2 c1 c2 hu hDm hXm hm hBK
  unfold frC at RT ⊢
  have row := heap_alloc_last w (.cells #[.int .i64 24, .int .i64 S, .int .i64 O, .int .i64 N, .int .i64 C, .bool F, .string D, .string X, .slice a m c] 24)
  have bel := (Below.refl w.heap.size w).alloc (Nat.le_refl _) (.cells #[.int .i64 24, .int .i64 S, .int .i64 O, .int .i64 N, .int .i64 C, .bool F, .string D, .string X, .slice a m c] 24)
  go_enter Tryd.func7, Tryd.ntmps7
  go_upto_region 1 with (fail)
  generalize w.alloc _ = wa at *
  generalize hq : w.heap.size = q at *
  have HQ := Lib.hid hq
  have ROW := Lib.hid row
  have B := Lib.hid bel
  obtain ⟨c0, c1', c2', c3, c4, c5, c6, c7, c8⟩ := cells9 row
  clear row bel hq
  go_wp2_with fail
  with_reducible refine (RT.out wa B.out).mono ?_
  rintro e w2 ⟨rfl, hb2⟩
  have R2 := Lib.hid ((hb2.block _ (lt_row ROW.out)).trans ROW.out)
  have B2 := Lib.hid (show Below q w w2 from B.out.trans (hb2.mono (by rw [← HQ.out]; exact B.out.size)))
  clear hb2 RT c0 c1' c2' c3 c4 c5 c6 c7 c8 ROW
  obtain ⟨c0, c1', c2', c3, c4, c5, c6, c7, c8⟩ := cells9 R2.out
  go_wp2_with fail
  with_reducible refine (TX.out w2).mono ?_
  rintro e w3 ⟨rfl, hb3⟩
  have QS := Lib.hid (show q ≤ w2.heap.size by rw [← HQ.out]; exact B2.out.size)
  have R3 := Lib.hid ((hb3.block _ (lt_row R2.out)).trans R2.out)
  have B3 := Lib.hid (B2.out.trans (hb3.mono QS.out))
  have QS3 := Lib.hid (Nat.le_trans QS.out hb3.size)
  clear hb3 TX c0 c1' c2' c3 c4 c5 c6 c7 c8
  obtain ⟨c0, c1', c2', c3, c4, c5, c6, c7, c8⟩ := cells9 R3.out
  have ck := conv_kind 24 (by decide) w3
  rw [show ((24 : Nat) : Int) = 24 from rfl, HBK.out] at ck
  have bel4 := (Below.refl w3.heap.size w3).alloc (Nat.le_refl _) (.cells #[.int .u8 24] 5)
  have R4 := Lib.hid ((bel4.block _ (lt_row R3.out)).trans R3.out)
  have B4 := Lib.hid (B3.out.trans (bel4.mono QS3.out))
  have QS4 := Lib.hid (Nat.le_trans QS3.out bel4.size)
  clear bel4
  go_upto_region 5 with (fail)
  clear ck c0 c1' c2' c3 c4 c5 c6 c7 c8
  generalize w3.alloc _ = w4 at *
  obtain ⟨c0, c1', c2', c3, c4, c5, c6, c7, c8⟩ := cells9 R4.out
  have hd20 := LASTD.out.2.2.1
  have hxz := LASTD.out.2.2.2
  have hdd := HDD.out
  rw [hdd] at hd20
  obtain ⟨xz, hxz'⟩ : ∃ z, X.size = z := ⟨_, rfl⟩
  have hx16 : xz ≤ 16 := by omega
  have CVD := Lib.hid (show d < 256 by omega)
  have hw8 : IntKind.u8.wrap (d : Int) = (d : Int) := by rw [IntKind.wrap_u8]; omega
  obtain ⟨BD, hBD⟩ : ∃ b, byteT d = b := ⟨_, rfl⟩
  have hbd1 : BD.size = 1 := by rw [← hBD]; exact strOf_size _ _
  obtain ⟨bz, hbz⟩ : ∃ z, BD.size = z := ⟨_, rfl⟩
  have hb1 : bz ≤ 1 := by omega
  have HBD := Lib.hid hBD
  obtain ⟨NX, hNX⟩ : ∃ T, numsT [N, O] = T := ⟨_, rfl⟩
  have hz5 : (numsT [N, O]).size ≤ 16 := numsT_size [N, O]
  rw [hNX] at hz5
  have HNX := Lib.hid hNX
  obtain ⟨nz, hnz⟩ : ∃ z, NX.size = z := ⟨_, rfl⟩
  rw [hnz] at hz5
  have q1 : ¬ 9223372036854775807 < 1 + nz := by omega
  have q2 : ¬ 9223372036854775807 < 1 + nz + bz := by omega
  have q3 : ¬ 9223372036854775807 < 1 + nz + bz + d := by omega
  have q4 : ¬ 9223372036854775807 < 1 + nz + bz + d + xz := by omega
  have RES := Lib.hid (show SS = BK ++ NX ++ BD ++ D ++ X from by
    rw [HS.out, HBK.out, ← HNX.out, ← HBD.out, ← HDD.out]
    show BK ++ (numT N ++ (numT O ++ ((byteT D.size ++ D) ++ (X ++ (⟨#[]⟩ : ByteArray))))) = BK ++ numsT [N, O] ++ byteT D.size ++ D ++ X
    simp only [numsT, app_nil, ByteArray.append_assoc])
  clear hxz hbd1 hBD hNX
  go_upto_region 43 with (fail)
  have S_v0 : Hid (w4.drew.heap[q]? = some (.cells #[.int .i64 24, .int .i64 S, .int .i64 O, .int .i64 N, .int .i64 C, .bool F, .string D, .string X, .slice a m c] 24 (0, 0))) := Lib.hid R4.out
  have B_v0 := Lib.hid B4.out.drew
  have Q_v0 := Lib.hid (show q ≤ w4.drew.heap.size from QS4.out)
  clear c0 c1' c2' c3 c4 c5 c6 c7 c8
  refine wp_region_held_drew (S := fun w' : World => w'.heap[q]? = some (.cells #[.int .i64 24, .int .i64 S, .int .i64 O, .int .i64 N, .int .i64 C, .bool F, .string D, .string X, .slice a m c] 24 (0, 0))) mixedOrders S_v0.out (fun hHeld => ?_)
  clear hHeld
  generalize w4.drew = v0 at *
  refine wpAnyH_take (i := 0) (oi := ⟨some 184, _, _, _, _, _⟩) (v := .string BK) rfl (by kernel_rfl) (by kernel_rfl) (by kernel_rfl) (fun _ _ _ h => h) (Or.inl ⟨by rfl, fun w' hSw => ?_⟩) S_v0.out ?_
  · clear hSw
    go_simp
  try simp only [Act.put, List.setIfInBounds_toArray, List.set_cons_zero, List.set_cons_succ]
  refine wpAnyH_take (i := 1) (oi := ⟨some 185, _, _, _, _, _⟩) (v := .pointer (some ⟨q, 3, none⟩)) rfl (by kernel_rfl) (by kernel_rfl) (by kernel_rfl) (fun _ _ _ h => h) (Or.inl ⟨by rfl, fun w' hSw => ?_⟩) S_v0.out ?_
  · clear hSw
    go_simp
  try simp only [Act.put, List.setIfInBounds_toArray, List.set_cons_zero, List.set_cons_succ]
  refine wpAnyH_take (i := 2) (oi := ⟨some 186, _, _, _, _, _⟩) (v := .int .i64 N) rfl (by kernel_rfl) (by kernel_rfl) (by kernel_rfl) (fun _ _ _ h => h) (Or.inl ⟨by rfl, fun w' hSw => ?_⟩) S_v0.out ?_
  · obtain ⟨s0, s1, s2, s3, s4, s5, s6, s7, s8⟩ := cells9 hSw
    go_simp
  try simp only [Act.put, List.setIfInBounds_toArray, List.set_cons_zero, List.set_cons_succ]
  refine wpAnyH_take (i := 3) (oi := ⟨some 187, _, _, _, _, _⟩) (v := .pointer (some ⟨q, 2, none⟩)) rfl (by kernel_rfl) (by kernel_rfl) (by kernel_rfl) (fun _ _ _ h => h) (Or.inl ⟨by rfl, fun w' hSw => ?_⟩) S_v0.out ?_
  · clear hSw
    go_simp
  try simp only [Act.put, List.setIfInBounds_toArray, List.set_cons_zero, List.set_cons_succ]
  refine wpAnyH_take (i := 4) (oi := ⟨some 188, _, _, _, _, _⟩) (v := .int .i64 O) rfl (by kernel_rfl) (by kernel_rfl) (by kernel_rfl) (fun _ _ _ h => h) (Or.inl ⟨by rfl, fun w' hSw => ?_⟩) S_v0.out ?_
  · obtain ⟨s0, s1, s2, s3, s4, s5, s6, s7, s8⟩ := cells9 hSw
    go_simp
  try simp only [Act.put, List.setIfInBounds_toArray, List.set_cons_zero, List.set_cons_succ]
  refine wpAnyH_take (i := 8) (oi := ⟨some 192, _, _, _, _, _⟩) (v := .pointer (some ⟨q, 6, none⟩)) rfl (by kernel_rfl) (by kernel_rfl) (by kernel_rfl) (fun _ _ _ h => h) (Or.inl ⟨by rfl, fun w' hSw => ?_⟩) S_v0.out ?_
  · clear hSw
    go_simp
  try simp only [Act.put, List.setIfInBounds_toArray, List.set_cons_zero, List.set_cons_succ]
  refine wpAnyH_take (i := 9) (oi := ⟨some 193, _, _, _, _, _⟩) (v := .string D) rfl (by kernel_rfl) (by kernel_rfl) (by kernel_rfl) (fun _ _ _ h => h) (Or.inl ⟨by rfl, fun w' hSw => ?_⟩) S_v0.out ?_
  · obtain ⟨s0, s1, s2, s3, s4, s5, s6, s7, s8⟩ := cells9 hSw
    go_simp
  try simp only [Act.put, List.setIfInBounds_toArray, List.set_cons_zero, List.set_cons_succ]
  refine wpAnyH_take (i := 10) (oi := ⟨some 194, _, _, _, _, _⟩) (v := .int .i64 (d : Int)) rfl (by kernel_rfl) (by kernel_rfl) (by kernel_rfl) (fun _ _ _ h => h) (Or.inl ⟨by rfl, fun w' hSw => ?_⟩) S_v0.out ?_
  · clear hSw
    go_simp
  try simp only [Act.put, List.setIfInBounds_toArray, List.set_cons_zero, List.set_cons_succ]
  refine wpAnyH_take (i := 11) (oi := ⟨some 195, _, _, _, _, _⟩) (v := .int .u8 (d : Int)) rfl (by kernel_rfl) (by kernel_rfl) (by kernel_rfl) (fun _ _ _ h => h) (Or.inl ⟨by rfl, fun w' hSw => ?_⟩) S_v0.out ?_
  · clear hSw
    go_simp
  try simp only [Act.put, List.setIfInBounds_toArray, List.set_cons_zero, List.set_cons_succ]
  refine wpAnyH_take (i := 15) (oi := ⟨some 199, _, _, _, _, _⟩) (v := .pointer (some ⟨q, 6, none⟩)) rfl (by kernel_rfl) (by kernel_rfl) (by kernel_rfl) (fun _ _ _ h => h) (Or.inl ⟨by rfl, fun w' hSw => ?_⟩) S_v0.out ?_
  · clear hSw
    go_simp
  try simp only [Act.put, List.setIfInBounds_toArray, List.set_cons_zero, List.set_cons_succ]
  refine wpAnyH_take (i := 16) (oi := ⟨some 200, _, _, _, _, _⟩) (v := .string D) rfl (by kernel_rfl) (by kernel_rfl) (by kernel_rfl) (fun _ _ _ h => h) (Or.inl ⟨by rfl, fun w' hSw => ?_⟩) S_v0.out ?_
  · obtain ⟨s0, s1, s2, s3, s4, s5, s6, s7, s8⟩ := cells9 hSw
    go_simp
  try simp only [Act.put, List.setIfInBounds_toArray, List.set_cons_zero, List.set_cons_succ]
  refine wpAnyH_take (i := 18) (oi := ⟨some 202, _, _, _, _, _⟩) (v := .pointer (some ⟨q, 7, none⟩)) rfl (by kernel_rfl) (by kernel_rfl) (by kernel_rfl) (fun _ _ _ h => h) (Or.inl ⟨by rfl, fun w' hSw => ?_⟩) S_v0.out ?_
  · clear hSw
    go_simp
  try simp only [Act.put, List.setIfInBounds_toArray, List.set_cons_zero, List.set_cons_succ]
  refine wpAnyH_take (i := 19) (oi := ⟨some 203, _, _, _, _, _⟩) (v := .string X) rfl (by kernel_rfl) (by kernel_rfl) (by kernel_rfl) (fun _ _ _ h => h) (Or.inl ⟨by rfl, fun w' hSw => ?_⟩) S_v0.out ?_
  · obtain ⟨s0, s1, s2, s3, s4, s5, s6, s7, s8⟩ := cells9 hSw
    go_simp
  try simp only [Act.put, List.setIfInBounds_toArray, List.set_cons_zero, List.set_cons_succ]
  refine wpAnyH_ready (rs := [5, 12]) (by kernel_rfl) (by simp) ?_
  refine AllReadyH.cons (i := 5) rfl (fun K hK => ?_) (AllReadyH.cons (i := 12) rfl (fun K hK => ?_) AllReadyH.nil)
  · rw [if_pos (by rfl)]
    go_simp
    have hl : (v0.alloc (.cells #[.int .i64 N, .int .i64 O] 3)).heap[v0.heap.size]? = some (.cells #[.int .i64 N, .int .i64 O] 3 (0, 0)) := heap_alloc_last v0 (.cells #[.int .i64 N, .int .i64 O] 3)
    have al := (Below.refl v0.heap.size v0).alloc (Nat.le_refl _) (.cells #[.int .i64 N, .int .i64 O] 3)
    generalize (World.alloc _ _) = v1 at *
    have S_v1 := Lib.hid ((al.block _ (lt_row S_v0.out)).trans S_v0.out)
    have B_v1 := Lib.hid (B_v0.out.trans (al.mono Q_v0.out))
    have Q_v1 := Lib.hid (Nat.le_trans Q_v0.out al.size)
    have RA_v1 := Lib.hid hl
    clear hl al
    refine hK.out _ _ S_v1.out (fun _ => ?_)
    clear hK K
    try simp only [Act.put, List.setIfInBounds_toArray, List.set_cons_zero, List.set_cons_succ]
    refine wpAnyH_ready (rs := [6, 12]) (by kernel_rfl) (by simp) ?_
    refine AllReadyH.cons (i := 6) rfl (fun K hK => ?_) (AllReadyH.cons (i := 12) rfl (fun K hK => ?_) AllReadyH.nil)
    · rw [if_pos (by rfl)]
      go_simp
      have hl : ∀ (i : Nat) (hi : i < ([N, O] : List Int).length), 0 ≤ ([N, O] : List Int)[i] ∧ ([N, O] : List Int)[i] ≤ MX := fun i hi => by
          match i, hi with
          | 0, _ => exact BND.out.2.2.1
          | 1, _ => exact BND.out.2.1
      have pn := put_nums [N, O] hl (by simp) _ v1 RA_v1.out
      clear hl
      go_at_call 18
      refine pn.mono ?_
      rintro e v2 ⟨rfl, hb6⟩
      dsimp only
      have S_v2 := Lib.hid ((hb6.block _ (lt_row S_v1.out)).trans S_v1.out)
      have B_v2 := Lib.hid (B_v1.out.trans (hb6.mono Q_v1.out))
      have Q_v2 := Lib.hid (Nat.le_trans Q_v1.out hb6.size)
      clear pn hb6
      rw [HNX.out]
      refine hK.out _ _ S_v2.out (fun _ => ?_)
      clear hK K
      try simp only [Act.put, List.setIfInBounds_toArray, List.set_cons_zero, List.set_cons_succ]
      refine wpAnyH_take (i := 7) (oi := ⟨some 191, _, _, _, _, _⟩) (v := .string (BK ++ NX)) rfl (by kernel_rfl) (by kernel_rfl) (by kernel_rfl) (fun _ _ _ h => h) (Or.inl ⟨by rfl, fun w' hSw => ?_⟩) S_v2.out ?_
      · clear hSw
        go_simp
      try simp only [Act.put, List.setIfInBounds_toArray, List.set_cons_zero, List.set_cons_succ]
      refine wpAnyH_ready (rs := [12]) (by kernel_rfl) (by simp) ?_
      refine AllReadyH.cons (i := 12) rfl (fun K hK => ?_) AllReadyH.nil
      · rw [if_pos (by rfl)]
        go_simp
        have hl : (v2.alloc (.cells #[.int .u8 (d : Int)] 5)).heap[v2.heap.size]? = some (.cells #[.int .u8 (d : Int)] 5 (0, 0)) := heap_alloc_last v2 (.cells #[.int .u8 (d : Int)] 5)
        have al := (Below.refl v2.heap.size v2).alloc (Nat.le_refl _) (.cells #[.int .u8 (d : Int)] 5)
        generalize (World.alloc _ _) = v3 at *
        have S_v3 := Lib.hid ((al.block _ (lt_row S_v2.out)).trans S_v2.out)
        have B_v3 := Lib.hid (B_v2.out.trans (al.mono Q_v2.out))
        have Q_v3 := Lib.hid (Nat.le_trans Q_v2.out al.size)
        have RB_v3 := Lib.hid hl
        clear hl al
        refine hK.out _ _ S_v3.out (fun _ => ?_)
        clear hK K
        try simp only [Act.put, List.setIfInBounds_toArray, List.set_cons_zero, List.set_cons_succ]
        refine wpAnyH_ready (rs := [13]) (by kernel_rfl) (by simp) ?_
        refine AllReadyH.cons (i := 13) rfl (fun K hK => ?_) AllReadyH.nil
        · rw [if_pos (by rfl)]
          have cv := conv_row d CVD.out v3 _ RB_v3.out
          rw [HBD.out] at cv
          go_simp
          clear cv
          refine hK.out _ _ S_v3.out (fun _ => ?_)
          clear hK K
          try simp only [Act.put, List.setIfInBounds_toArray, List.set_cons_zero, List.set_cons_succ]
          refine wpAnyH_take (i := 14) (oi := ⟨some 198, _, _, _, _, _⟩) (v := .string (BK ++ NX ++ BD)) rfl (by kernel_rfl) (by kernel_rfl) (by kernel_rfl) (fun _ _ _ h => h) (Or.inl ⟨by rfl, fun w' hSw => ?_⟩) S_v3.out ?_
          · clear hSw
            go_simp
          try simp only [Act.put, List.setIfInBounds_toArray, List.set_cons_zero, List.set_cons_succ]
          refine wpAnyH_take (i := 17) (oi := ⟨some 201, _, _, _, _, _⟩) (v := .string (BK ++ NX ++ BD ++ D)) rfl (by kernel_rfl) (by kernel_rfl) (by kernel_rfl) (fun _ _ _ h => h) (Or.inl ⟨by rfl, fun w' hSw => ?_⟩) S_v3.out ?_
          · clear hSw
            go_simp
          try simp only [Act.put, List.setIfInBounds_toArray, List.set_cons_zero, List.set_cons_succ]
          refine wpAnyH_take (i := 20) (oi := ⟨some 204, _, _, _, _, _⟩) (v := .string (BK ++ NX ++ BD ++ D ++ X)) rfl (by kernel_rfl) (by kernel_rfl) (by kernel_rfl) (fun _ _ _ h => h) (Or.inl ⟨by rfl, fun w' hSw => ?_⟩) S_v3.out ?_
          · clear hSw
            go_simp
          try simp only [Act.put, List.setIfInBounds_toArray, List.set_cons_zero, List.set_cons_succ]
          refine wpAnyH_take (i := 21) (oi := ⟨some 2, _, _, _, _, _⟩) (v := .string (BK ++ NX ++ BD ++ D ++ X)) rfl (by kernel_rfl) (by kernel_rfl) (by kernel_rfl) (fun _ _ _ h => h) (Or.inl ⟨by rfl, fun w' hSw => ?_⟩) S_v3.out ?_
          · clear hSw
            go_simp
          try simp only [Act.put, List.setIfInBounds_toArray, List.set_cons_zero, List.set_cons_succ]
          refine wpAnyH_take (i := 22) (oi := ⟨some 3, _, _, _, _, _⟩) (v := .int .i64 0) rfl (by kernel_rfl) (by kernel_rfl) (by kernel_rfl) (fun _ _ _ h => h) (Or.inl ⟨by rfl, fun w' hSw => ?_⟩) S_v3.out ?_
          · clear hSw
            go_simp
          try simp only [Act.put, List.setIfInBounds_toArray, List.set_cons_zero, List.set_cons_succ]
          refine wpAnyH_done (by kernel_rfl) ?_ _
          go_wp2_with fail
          go_ret2
          exact ⟨ret_str RES.out, by rw [HQ.out]; exact B_v3.out⟩
    · rw [if_pos (by rfl)]
      go_simp
      have hl : (v1.alloc (.cells #[.int .u8 (d : Int)] 5)).heap[v1.heap.size]? = some (.cells #[.int .u8 (d : Int)] 5 (0, 0)) := heap_alloc_last v1 (.cells #[.int .u8 (d : Int)] 5)
      have al := (Below.refl v1.heap.size v1).alloc (Nat.le_refl _) (.cells #[.int .u8 (d : Int)] 5)
      generalize (World.alloc _ _) = v5 at *
      have S_v5 := Lib.hid ((al.block _ (lt_row S_v1.out)).trans S_v1.out)
      have B_v5 := Lib.hid (B_v1.out.trans (al.mono Q_v1.out))
      have Q_v5 := Lib.hid (Nat.le_trans Q_v1.out al.size)
      have RA_v5 := Lib.hid ((al.block _ (lt_row RA_v1.out)).trans RA_v1.out)
      have RB_v5 := Lib.hid hl
      clear hl al
      refine hK.out _ _ S_v5.out (fun _ => ?_)
      clear hK K
      try simp only [Act.put, List.setIfInBounds_toArray, List.set_cons_zero, List.set_cons_succ]
      refine wpAnyH_ready (rs := [6, 13]) (by kernel_rfl) (by simp) ?_
      refine AllReadyH.cons (i := 6) rfl (fun K hK => ?_) (AllReadyH.cons (i := 13) rfl (fun K hK => ?_) AllReadyH.nil)
      · rw [if_pos (by rfl)]
        go_simp
        have hl : ∀ (i : Nat) (hi : i < ([N, O] : List Int).length), 0 ≤ ([N, O] : List Int)[i] ∧ ([N, O] : List Int)[i] ≤ MX := fun i hi => by
            match i, hi with
            | 0, _ => exact BND.out.2.2.1
            | 1, _ => exact BND.out.2.1
        have pn := put_nums [N, O] hl (by simp) _ v5 RA_v5.out
        clear hl
        go_at_call 18
        refine pn.mono ?_
        rintro e v6 ⟨rfl, hb6⟩
        dsimp only
        have S_v6 := Lib.hid ((hb6.block _ (lt_row S_v5.out)).trans S_v5.out)
        have B_v6 := Lib.hid (B_v5.out.trans (hb6.mono Q_v5.out))
        have Q_v6 := Lib.hid (Nat.le_trans Q_v5.out hb6.size)
        have RB_v6 := Lib.hid ((hb6.block _ (lt_row RB_v5.out)).trans RB_v5.out)
        clear pn hb6
        rw [HNX.out]
        refine hK.out _ _ S_v6.out (fun _ => ?_)
        clear hK K
        try simp only [Act.put, List.setIfInBounds_toArray, List.set_cons_zero, List.set_cons_succ]
        refine wpAnyH_take (i := 7) (oi := ⟨some 191, _, _, _, _, _⟩) (v := .string (BK ++ NX)) rfl (by kernel_rfl) (by kernel_rfl) (by kernel_rfl) (fun _ _ _ h => h) (Or.inl ⟨by rfl, fun w' hSw => ?_⟩) S_v6.out ?_
        · clear hSw
          go_simp
        try simp only [Act.put, List.setIfInBounds_toArray, List.set_cons_zero, List.set_cons_succ]
        refine wpAnyH_ready (rs := [13]) (by kernel_rfl) (by simp) ?_
        refine AllReadyH.cons (i := 13) rfl (fun K hK => ?_) AllReadyH.nil
        · rw [if_pos (by rfl)]
          have cv := conv_row d CVD.out v6 _ RB_v6.out
          rw [HBD.out] at cv
          go_simp
          clear cv
          refine hK.out _ _ S_v6.out (fun _ => ?_)
          clear hK K
          try simp only [Act.put, List.setIfInBounds_toArray, List.set_cons_zero, List.set_cons_succ]
          refine wpAnyH_take (i := 14) (oi := ⟨some 198, _, _, _, _, _⟩) (v := .string (BK ++ NX ++ BD)) rfl (by kernel_rfl) (by kernel_rfl) (by kernel_rfl) (fun _ _ _ h => h) (Or.inl ⟨by rfl, fun w' hSw => ?_⟩) S_v6.out ?_
          · clear hSw
            go_simp
          try simp only [Act.put, List.setIfInBounds_toArray, List.set_cons_zero, List.set_cons_succ]
          refine wpAnyH_take (i := 17) (oi := ⟨some 201, _, _, _, _, _⟩) (v := .string (BK ++ NX ++ BD ++ D)) rfl (by kernel_rfl) (by kernel_rfl) (by kernel_rfl) (fun _ _ _ h => h) (Or.inl ⟨by rfl, fun w' hSw => ?_⟩) S_v6.out ?_
          · clear hSw
            go_simp
          try simp only [Act.put, List.setIfInBounds_toArray, List.set_cons_zero, List.set_cons_succ]
          refine wpAnyH_take (i := 20) (oi := ⟨some 204, _, _, _, _, _⟩) (v := .string (BK ++ NX ++ BD ++ D ++ X)) rfl (by kernel_rfl) (by kernel_rfl) (by kernel_rfl) (fun _ _ _ h => h) (Or.inl ⟨by rfl, fun w' hSw => ?_⟩) S_v6.out ?_
          · clear hSw
            go_simp
          try simp only [Act.put, List.setIfInBounds_toArray, List.set_cons_zero, List.set_cons_succ]
          refine wpAnyH_take (i := 21) (oi := ⟨some 2, _, _, _, _, _⟩) (v := .string (BK ++ NX ++ BD ++ D ++ X)) rfl (by kernel_rfl) (by kernel_rfl) (by kernel_rfl) (fun _ _ _ h => h) (Or.inl ⟨by rfl, fun w' hSw => ?_⟩) S_v6.out ?_
          · clear hSw
            go_simp
          try simp only [Act.put, List.setIfInBounds_toArray, List.set_cons_zero, List.set_cons_succ]
          refine wpAnyH_take (i := 22) (oi := ⟨some 3, _, _, _, _, _⟩) (v := .int .i64 0) rfl (by kernel_rfl) (by kernel_rfl) (by kernel_rfl) (fun _ _ _ h => h) (Or.inl ⟨by rfl, fun w' hSw => ?_⟩) S_v6.out ?_
          · clear hSw
            go_simp
          try simp only [Act.put, List.setIfInBounds_toArray, List.set_cons_zero, List.set_cons_succ]
          refine wpAnyH_done (by kernel_rfl) ?_ _
          go_wp2_with fail
          go_ret2
          exact ⟨ret_str RES.out, by rw [HQ.out]; exact B_v6.out⟩
      · rw [if_pos (by rfl)]
        have cv := conv_row d CVD.out v5 _ RB_v5.out
        rw [HBD.out] at cv
        go_simp
        clear cv
        refine hK.out _ _ S_v5.out (fun _ => ?_)
        clear hK K
        try simp only [Act.put, List.setIfInBounds_toArray, List.set_cons_zero, List.set_cons_succ]
        refine wpAnyH_ready (rs := [6]) (by kernel_rfl) (by simp) ?_
        refine AllReadyH.cons (i := 6) rfl (fun K hK => ?_) AllReadyH.nil
        · rw [if_pos (by rfl)]
          go_simp
          have hl : ∀ (i : Nat) (hi : i < ([N, O] : List Int).length), 0 ≤ ([N, O] : List Int)[i] ∧ ([N, O] : List Int)[i] ≤ MX := fun i hi => by
              match i, hi with
              | 0, _ => exact BND.out.2.2.1
              | 1, _ => exact BND.out.2.1
          have pn := put_nums [N, O] hl (by simp) _ v5 RA_v5.out
          clear hl
          go_at_call 18
          refine pn.mono ?_
          rintro e v9 ⟨rfl, hb6⟩
          dsimp only
          have S_v9 := Lib.hid ((hb6.block _ (lt_row S_v5.out)).trans S_v5.out)
          have B_v9 := Lib.hid (B_v5.out.trans (hb6.mono Q_v5.out))
          have Q_v9 := Lib.hid (Nat.le_trans Q_v5.out hb6.size)
          clear pn hb6
          rw [HNX.out]
          refine hK.out _ _ S_v9.out (fun _ => ?_)
          clear hK K
          try simp only [Act.put, List.setIfInBounds_toArray, List.set_cons_zero, List.set_cons_succ]
          refine wpAnyH_take (i := 7) (oi := ⟨some 191, _, _, _, _, _⟩) (v := .string (BK ++ NX)) rfl (by kernel_rfl) (by kernel_rfl) (by kernel_rfl) (fun _ _ _ h => h) (Or.inl ⟨by rfl, fun w' hSw => ?_⟩) S_v9.out ?_
          · clear hSw
            go_simp
          try simp only [Act.put, List.setIfInBounds_toArray, List.set_cons_zero, List.set_cons_succ]
          refine wpAnyH_take (i := 14) (oi := ⟨some 198, _, _, _, _, _⟩) (v := .string (BK ++ NX ++ BD)) rfl (by kernel_rfl) (by kernel_rfl) (by kernel_rfl) (fun _ _ _ h => h) (Or.inl ⟨by rfl, fun w' hSw => ?_⟩) S_v9.out ?_
          · clear hSw
            go_simp
          try simp only [Act.put, List.setIfInBounds_toArray, List.set_cons_zero, List.set_cons_succ]
          refine wpAnyH_take (i := 17) (oi := ⟨some 201, _, _, _, _, _⟩) (v := .string (BK ++ NX ++ BD ++ D)) rfl (by kernel_rfl) (by kernel_rfl) (by kernel_rfl) (fun _ _ _ h => h) (Or.inl ⟨by rfl, fun w' hSw => ?_⟩) S_v9.out ?_
          · clear hSw
            go_simp
          try simp only [Act.put, List.setIfInBounds_toArray, List.set_cons_zero, List.set_cons_succ]
          refine wpAnyH_take (i := 20) (oi := ⟨some 204, _, _, _, _, _⟩) (v := .string (BK ++ NX ++ BD ++ D ++ X)) rfl (by kernel_rfl) (by kernel_rfl) (by kernel_rfl) (fun _ _ _ h => h) (Or.inl ⟨by rfl, fun w' hSw => ?_⟩) S_v9.out ?_
          · clear hSw
            go_simp
          try simp only [Act.put, List.setIfInBounds_toArray, List.set_cons_zero, List.set_cons_succ]
          refine wpAnyH_take (i := 21) (oi := ⟨some 2, _, _, _, _, _⟩) (v := .string (BK ++ NX ++ BD ++ D ++ X)) rfl (by kernel_rfl) (by kernel_rfl) (by kernel_rfl) (fun _ _ _ h => h) (Or.inl ⟨by rfl, fun w' hSw => ?_⟩) S_v9.out ?_
          · clear hSw
            go_simp
          try simp only [Act.put, List.setIfInBounds_toArray, List.set_cons_zero, List.set_cons_succ]
          refine wpAnyH_take (i := 22) (oi := ⟨some 3, _, _, _, _, _⟩) (v := .int .i64 0) rfl (by kernel_rfl) (by kernel_rfl) (by kernel_rfl) (fun _ _ _ h => h) (Or.inl ⟨by rfl, fun w' hSw => ?_⟩) S_v9.out ?_
          · clear hSw
            go_simp
          try simp only [Act.put, List.setIfInBounds_toArray, List.set_cons_zero, List.set_cons_succ]
          refine wpAnyH_done (by kernel_rfl) ?_ _
          go_wp2_with fail
          go_ret2
          exact ⟨ret_str RES.out, by rw [HQ.out]; exact B_v9.out⟩
  · rw [if_pos (by rfl)]
    go_simp
    have hl : (v0.alloc (.cells #[.int .u8 (d : Int)] 5)).heap[v0.heap.size]? = some (.cells #[.int .u8 (d : Int)] 5 (0, 0)) := heap_alloc_last v0 (.cells #[.int .u8 (d : Int)] 5)
    have al := (Below.refl v0.heap.size v0).alloc (Nat.le_refl _) (.cells #[.int .u8 (d : Int)] 5)
    generalize (World.alloc _ _) = v10 at *
    have S_v10 := Lib.hid ((al.block _ (lt_row S_v0.out)).trans S_v0.out)
    have B_v10 := Lib.hid (B_v0.out.trans (al.mono Q_v0.out))
    have Q_v10 := Lib.hid (Nat.le_trans Q_v0.out al.size)
    have RB_v10 := Lib.hid hl
    clear hl al
    refine hK.out _ _ S_v10.out (fun _ => ?_)
    clear hK K
    try simp only [Act.put, List.setIfInBounds_toArray, List.set_cons_zero, List.set_cons_succ]
    refine wpAnyH_ready (rs := [5, 13]) (by kernel_rfl) (by simp) ?_
    refine AllReadyH.cons (i := 5) rfl (fun K hK => ?_) (AllReadyH.cons (i := 13) rfl (fun K hK => ?_) AllReadyH.nil)
    · rw [if_pos (by rfl)]
      go_simp
      have hl : (v10.alloc (.cells #[.int .i64 N, .int .i64 O] 3)).heap[v10.heap.size]? = some (.cells #[.int .i64 N, .int .i64 O] 3 (0, 0)) := heap_alloc_last v10 (.cells #[.int .i64 N, .int .i64 O] 3)
      have al := (Below.refl v10.heap.size v10).alloc (Nat.le_refl _) (.cells #[.int .i64 N, .int .i64 O] 3)
      generalize (World.alloc _ _) = v11 at *
      have S_v11 := Lib.hid ((al.block _ (lt_row S_v10.out)).trans S_v10.out)
      have B_v11 := Lib.hid (B_v10.out.trans (al.mono Q_v10.out))
      have Q_v11 := Lib.hid (Nat.le_trans Q_v10.out al.size)
      have RB_v11 := Lib.hid ((al.block _ (lt_row RB_v10.out)).trans RB_v10.out)
      have RA_v11 := Lib.hid hl
      clear hl al
      refine hK.out _ _ S_v11.out (fun _ => ?_)
      clear hK K
      try simp only [Act.put, List.setIfInBounds_toArray, List.set_cons_zero, List.set_cons_succ]
      refine wpAnyH_ready (rs := [6, 13]) (by kernel_rfl) (by simp) ?_
      refine AllReadyH.cons (i := 6) rfl (fun K hK => ?_) (AllReadyH.cons (i := 13) rfl (fun K hK => ?_) AllReadyH.nil)
      · rw [if_pos (by rfl)]
        go_simp
        have hl : ∀ (i : Nat) (hi : i < ([N, O] : List Int).length), 0 ≤ ([N, O] : List Int)[i] ∧ ([N, O] : List Int)[i] ≤ MX := fun i hi => by
            match i, hi with
            | 0, _ => exact BND.out.2.2.1
            | 1, _ => exact BND.out.2.1
        have pn := put_nums [N, O] hl (by simp) _ v11 RA_v11.out
        clear hl
        go_at_call 18
        refine pn.mono ?_
        rintro e v12 ⟨rfl, hb6⟩
        dsimp only
        have S_v12 := Lib.hid ((hb6.block _ (lt_row S_v11.out)).trans S_v11.out)
        have B_v12 := Lib.hid (B_v11.out.trans (hb6.mono Q_v11.out))
        have Q_v12 := Lib.hid (Nat.le_trans Q_v11.out hb6.size)
        have RB_v12 := Lib.hid ((hb6.block _ (lt_row RB_v11.out)).trans RB_v11.out)
        clear pn hb6
        rw [HNX.out]
        refine hK.out _ _ S_v12.out (fun _ => ?_)
        clear hK K
        try simp only [Act.put, List.setIfInBounds_toArray, List.set_cons_zero, List.set_cons_succ]
        refine wpAnyH_take (i := 7) (oi := ⟨some 191, _, _, _, _, _⟩) (v := .string (BK ++ NX)) rfl (by kernel_rfl) (by kernel_rfl) (by kernel_rfl) (fun _ _ _ h => h) (Or.inl ⟨by rfl, fun w' hSw => ?_⟩) S_v12.out ?_
        · clear hSw
          go_simp
        try simp only [Act.put, List.setIfInBounds_toArray, List.set_cons_zero, List.set_cons_succ]
        refine wpAnyH_ready (rs := [13]) (by kernel_rfl) (by simp) ?_
        refine AllReadyH.cons (i := 13) rfl (fun K hK => ?_) AllReadyH.nil
        · rw [if_pos (by rfl)]
          have cv := conv_row d CVD.out v12 _ RB_v12.out
          rw [HBD.out] at cv
          go_simp
          clear cv
          refine hK.out _ _ S_v12.out (fun _ => ?_)
          clear hK K
          try simp only [Act.put, List.setIfInBounds_toArray, List.set_cons_zero, List.set_cons_succ]
          refine wpAnyH_take (i := 14) (oi := ⟨some 198, _, _, _, _, _⟩) (v := .string (BK ++ NX ++ BD)) rfl (by kernel_rfl) (by kernel_rfl) (by kernel_rfl) (fun _ _ _ h => h) (Or.inl ⟨by rfl, fun w' hSw => ?_⟩) S_v12.out ?_
          · clear hSw
            go_simp
          try simp only [Act.put, List.setIfInBounds_toArray, List.set_cons_zero, List.set_cons_succ]
          refine wpAnyH_take (i := 17) (oi := ⟨some 201, _, _, _, _, _⟩) (v := .string (BK ++ NX ++ BD ++ D)) rfl (by kernel_rfl) (by kernel_rfl) (by kernel_rfl) (fun _ _ _ h => h) (Or.inl ⟨by rfl, fun w' hSw => ?_⟩) S_v12.out ?_
          · clear hSw
            go_simp
          try simp only [Act.put, List.setIfInBounds_toArray, List.set_cons_zero, List.set_cons_succ]
          refine wpAnyH_take (i := 20) (oi := ⟨some 204, _, _, _, _, _⟩) (v := .string (BK ++ NX ++ BD ++ D ++ X)) rfl (by kernel_rfl) (by kernel_rfl) (by kernel_rfl) (fun _ _ _ h => h) (Or.inl ⟨by rfl, fun w' hSw => ?_⟩) S_v12.out ?_
          · clear hSw
            go_simp
          try simp only [Act.put, List.setIfInBounds_toArray, List.set_cons_zero, List.set_cons_succ]
          refine wpAnyH_take (i := 21) (oi := ⟨some 2, _, _, _, _, _⟩) (v := .string (BK ++ NX ++ BD ++ D ++ X)) rfl (by kernel_rfl) (by kernel_rfl) (by kernel_rfl) (fun _ _ _ h => h) (Or.inl ⟨by rfl, fun w' hSw => ?_⟩) S_v12.out ?_
          · clear hSw
            go_simp
          try simp only [Act.put, List.setIfInBounds_toArray, List.set_cons_zero, List.set_cons_succ]
          refine wpAnyH_take (i := 22) (oi := ⟨some 3, _, _, _, _, _⟩) (v := .int .i64 0) rfl (by kernel_rfl) (by kernel_rfl) (by kernel_rfl) (fun _ _ _ h => h) (Or.inl ⟨by rfl, fun w' hSw => ?_⟩) S_v12.out ?_
          · clear hSw
            go_simp
          try simp only [Act.put, List.setIfInBounds_toArray, List.set_cons_zero, List.set_cons_succ]
          refine wpAnyH_done (by kernel_rfl) ?_ _
          go_wp2_with fail
          go_ret2
          exact ⟨ret_str RES.out, by rw [HQ.out]; exact B_v12.out⟩
      · rw [if_pos (by rfl)]
        have cv := conv_row d CVD.out v11 _ RB_v11.out
        rw [HBD.out] at cv
        go_simp
        clear cv
        refine hK.out _ _ S_v11.out (fun _ => ?_)
        clear hK K
        try simp only [Act.put, List.setIfInBounds_toArray, List.set_cons_zero, List.set_cons_succ]
        refine wpAnyH_ready (rs := [6]) (by kernel_rfl) (by simp) ?_
        refine AllReadyH.cons (i := 6) rfl (fun K hK => ?_) AllReadyH.nil
        · rw [if_pos (by rfl)]
          go_simp
          have hl : ∀ (i : Nat) (hi : i < ([N, O] : List Int).length), 0 ≤ ([N, O] : List Int)[i] ∧ ([N, O] : List Int)[i] ≤ MX := fun i hi => by
              match i, hi with
              | 0, _ => exact BND.out.2.2.1
              | 1, _ => exact BND.out.2.1
          have pn := put_nums [N, O] hl (by simp) _ v11 RA_v11.out
          clear hl
          go_at_call 18
          refine pn.mono ?_
          rintro e v15 ⟨rfl, hb6⟩
          dsimp only
          have S_v15 := Lib.hid ((hb6.block _ (lt_row S_v11.out)).trans S_v11.out)
          have B_v15 := Lib.hid (B_v11.out.trans (hb6.mono Q_v11.out))
          have Q_v15 := Lib.hid (Nat.le_trans Q_v11.out hb6.size)
          clear pn hb6
          rw [HNX.out]
          refine hK.out _ _ S_v15.out (fun _ => ?_)
          clear hK K
          try simp only [Act.put, List.setIfInBounds_toArray, List.set_cons_zero, List.set_cons_succ]
          refine wpAnyH_take (i := 7) (oi := ⟨some 191, _, _, _, _, _⟩) (v := .string (BK ++ NX)) rfl (by kernel_rfl) (by kernel_rfl) (by kernel_rfl) (fun _ _ _ h => h) (Or.inl ⟨by rfl, fun w' hSw => ?_⟩) S_v15.out ?_
          · clear hSw
            go_simp
          try simp only [Act.put, List.setIfInBounds_toArray, List.set_cons_zero, List.set_cons_succ]
          refine wpAnyH_take (i := 14) (oi := ⟨some 198, _, _, _, _, _⟩) (v := .string (BK ++ NX ++ BD)) rfl (by kernel_rfl) (by kernel_rfl) (by kernel_rfl) (fun _ _ _ h => h) (Or.inl ⟨by rfl, fun w' hSw => ?_⟩) S_v15.out ?_
          · clear hSw
            go_simp
          try simp only [Act.put, List.setIfInBounds_toArray, List.set_cons_zero, List.set_cons_succ]
          refine wpAnyH_take (i := 17) (oi := ⟨some 201, _, _, _, _, _⟩) (v := .string (BK ++ NX ++ BD ++ D)) rfl (by kernel_rfl) (by kernel_rfl) (by kernel_rfl) (fun _ _ _ h => h) (Or.inl ⟨by rfl, fun w' hSw => ?_⟩) S_v15.out ?_
          · clear hSw
            go_simp
          try simp only [Act.put, List.setIfInBounds_toArray, List.set_cons_zero, List.set_cons_succ]
          refine wpAnyH_take (i := 20) (oi := ⟨some 204, _, _, _, _, _⟩) (v := .string (BK ++ NX ++ BD ++ D ++ X)) rfl (by kernel_rfl) (by kernel_rfl) (by kernel_rfl) (fun _ _ _ h => h) (Or.inl ⟨by rfl, fun w' hSw => ?_⟩) S_v15.out ?_
          · clear hSw
            go_simp
          try simp only [Act.put, List.setIfInBounds_toArray, List.set_cons_zero, List.set_cons_succ]
          refine wpAnyH_take (i := 21) (oi := ⟨some 2, _, _, _, _, _⟩) (v := .string (BK ++ NX ++ BD ++ D ++ X)) rfl (by kernel_rfl) (by kernel_rfl) (by kernel_rfl) (fun _ _ _ h => h) (Or.inl ⟨by rfl, fun w' hSw => ?_⟩) S_v15.out ?_
          · clear hSw
            go_simp
          try simp only [Act.put, List.setIfInBounds_toArray, List.set_cons_zero, List.set_cons_succ]
          refine wpAnyH_take (i := 22) (oi := ⟨some 3, _, _, _, _, _⟩) (v := .int .i64 0) rfl (by kernel_rfl) (by kernel_rfl) (by kernel_rfl) (fun _ _ _ h => h) (Or.inl ⟨by rfl, fun w' hSw => ?_⟩) S_v15.out ?_
          · clear hSw
            go_simp
          try simp only [Act.put, List.setIfInBounds_toArray, List.set_cons_zero, List.set_cons_succ]
          refine wpAnyH_done (by kernel_rfl) ?_ _
          go_wp2_with fail
          go_ret2
          exact ⟨ret_str RES.out, by rw [HQ.out]; exact B_v15.out⟩
    · rw [if_pos (by rfl)]
      have cv := conv_row d CVD.out v10 _ RB_v10.out
      rw [HBD.out] at cv
      go_simp
      clear cv
      refine hK.out _ _ S_v10.out (fun _ => ?_)
      clear hK K
      try simp only [Act.put, List.setIfInBounds_toArray, List.set_cons_zero, List.set_cons_succ]
      refine wpAnyH_ready (rs := [5]) (by kernel_rfl) (by simp) ?_
      refine AllReadyH.cons (i := 5) rfl (fun K hK => ?_) AllReadyH.nil
      · rw [if_pos (by rfl)]
        go_simp
        have hl : (v10.alloc (.cells #[.int .i64 N, .int .i64 O] 3)).heap[v10.heap.size]? = some (.cells #[.int .i64 N, .int .i64 O] 3 (0, 0)) := heap_alloc_last v10 (.cells #[.int .i64 N, .int .i64 O] 3)
        have al := (Below.refl v10.heap.size v10).alloc (Nat.le_refl _) (.cells #[.int .i64 N, .int .i64 O] 3)
        generalize (World.alloc _ _) = v17 at *
        have S_v17 := Lib.hid ((al.block _ (lt_row S_v10.out)).trans S_v10.out)
        have B_v17 := Lib.hid (B_v10.out.trans (al.mono Q_v10.out))
        have Q_v17 := Lib.hid (Nat.le_trans Q_v10.out al.size)
        have RA_v17 := Lib.hid hl
        clear hl al
        refine hK.out _ _ S_v17.out (fun _ => ?_)
        clear hK K
        try simp only [Act.put, List.setIfInBounds_toArray, List.set_cons_zero, List.set_cons_succ]
        refine wpAnyH_ready (rs := [6]) (by kernel_rfl) (by simp) ?_
        refine AllReadyH.cons (i := 6) rfl (fun K hK => ?_) AllReadyH.nil
        · rw [if_pos (by rfl)]
          go_simp
          have hl : ∀ (i : Nat) (hi : i < ([N, O] : List Int).length), 0 ≤ ([N, O] : List Int)[i] ∧ ([N, O] : List Int)[i] ≤ MX := fun i hi => by
              match i, hi with
              | 0, _ => exact BND.out.2.2.1
              | 1, _ => exact BND.out.2.1
          have pn := put_nums [N, O] hl (by simp) _ v17 RA_v17.out
          clear hl
          go_at_call 18
          refine pn.mono ?_
          rintro e v18 ⟨rfl, hb6⟩
          dsimp only
          have S_v18 := Lib.hid ((hb6.block _ (lt_row S_v17.out)).trans S_v17.out)
          have B_v18 := Lib.hid (B_v17.out.trans (hb6.mono Q_v17.out))
          have Q_v18 := Lib.hid (Nat.le_trans Q_v17.out hb6.size)
          clear pn hb6
          rw [HNX.out]
          refine hK.out _ _ S_v18.out (fun _ => ?_)
          clear hK K
          try simp only [Act.put, List.setIfInBounds_toArray, List.set_cons_zero, List.set_cons_succ]
          refine wpAnyH_take (i := 7) (oi := ⟨some 191, _, _, _, _, _⟩) (v := .string (BK ++ NX)) rfl (by kernel_rfl) (by kernel_rfl) (by kernel_rfl) (fun _ _ _ h => h) (Or.inl ⟨by rfl, fun w' hSw => ?_⟩) S_v18.out ?_
          · clear hSw
            go_simp
          try simp only [Act.put, List.setIfInBounds_toArray, List.set_cons_zero, List.set_cons_succ]
          refine wpAnyH_take (i := 14) (oi := ⟨some 198, _, _, _, _, _⟩) (v := .string (BK ++ NX ++ BD)) rfl (by kernel_rfl) (by kernel_rfl) (by kernel_rfl) (fun _ _ _ h => h) (Or.inl ⟨by rfl, fun w' hSw => ?_⟩) S_v18.out ?_
          · clear hSw
            go_simp
          try simp only [Act.put, List.setIfInBounds_toArray, List.set_cons_zero, List.set_cons_succ]
          refine wpAnyH_take (i := 17) (oi := ⟨some 201, _, _, _, _, _⟩) (v := .string (BK ++ NX ++ BD ++ D)) rfl (by kernel_rfl) (by kernel_rfl) (by kernel_rfl) (fun _ _ _ h => h) (Or.inl ⟨by rfl, fun w' hSw => ?_⟩) S_v18.out ?_
          · clear hSw
            go_simp
          try simp only [Act.put, List.setIfInBounds_toArray, List.set_cons_zero, List.set_cons_succ]
          refine wpAnyH_take (i := 20) (oi := ⟨some 204, _, _, _, _, _⟩) (v := .string (BK ++ NX ++ BD ++ D ++ X)) rfl (by kernel_rfl) (by kernel_rfl) (by kernel_rfl) (fun _ _ _ h => h) (Or.inl ⟨by rfl, fun w' hSw => ?_⟩) S_v18.out ?_
          · clear hSw
            go_simp
          try simp only [Act.put, List.setIfInBounds_toArray, List.set_cons_zero, List.set_cons_succ]
          refine wpAnyH_take (i := 21) (oi := ⟨some 2, _, _, _, _, _⟩) (v := .string (BK ++ NX ++ BD ++ D ++ X)) rfl (by kernel_rfl) (by kernel_rfl) (by kernel_rfl) (fun _ _ _ h => h) (Or.inl ⟨by rfl, fun w' hSw => ?_⟩) S_v18.out ?_
          · clear hSw
            go_simp
          try simp only [Act.put, List.setIfInBounds_toArray, List.set_cons_zero, List.set_cons_succ]
          refine wpAnyH_take (i := 22) (oi := ⟨some 3, _, _, _, _, _⟩) (v := .int .i64 0) rfl (by kernel_rfl) (by kernel_rfl) (by kernel_rfl) (fun _ _ _ h => h) (Or.inl ⟨by rfl, fun w' hSw => ?_⟩) S_v18.out ?_
          · clear hSw
            go_simp
          try simp only [Act.put, List.setIfInBounds_toArray, List.set_cons_zero, List.set_cons_succ]
          refine wpAnyH_done (by kernel_rfl) ?_ _
          go_wp2_with fail
          go_ret2
          exact ⟨ret_str RES.out, by rw [HQ.out]; exact B_v18.out⟩
end Go.Proofs.YtcgbhcmgddgheabDoor
namespace Go.Proofs.YtcgbhcmgddgheabDoor
open Go Go.RowKit Go.BigFrame
set_option linter.unusedSimpArgs false
set_option linter.unusedVariables false
set_option maxRecDepth 100000
set_option maxHeartbeats 16000000 in
theorem docPut_8_10 (S O N C : Int) (D X : ByteArray) (A : List (Int × Int)) (u : Value) (w : World) (hO : O = 0) (hu : SpansIn w u A) (hDm : D.size ≤ maxLen) (hXm : X.size ≤ maxLen) (SS : ByteArray) (hp : putF ⟨8, S, O, N, C, false, D, X, A⟩ = some SS) :
    Calls Tryd.prog 7 #[.agg (frC 8 S O N C false D X u)] w fun e w' => e = .returned (.tuple #[.string SS, .int .i64 0]) ∧ Below w.heap.size w w' := by
  obtain ⟨a, c, rfl, _, _⟩ := hu.at_
  have RT := Lib.hid (fun (w' : World) (hb : Below w.heap.size w w') => (show Calls Tryd.prog 16 #[.agg (frC 8 S O N C false D X (.slice a A.length c))] w' fun e w'' => e = .returned (.bool true) ∧ Below w'.heap.size w' w'' from by
    have h := right_front 8 S O N C false D X A (.slice a A.length c) w' (hu.later hb) hDm hXm
    rw [hp] at h
    exact h))
  obtain ⟨⟨s1, s2⟩, ⟨o1, o2⟩, ⟨n1, n2⟩, ⟨c1, c2⟩, hd⟩ := okD_of hp
  dsimp only at s1 s2 o1 o2 n1 n2 c1 c2 hd
  have BND := Lib.hid (And.intro (And.intro s1 s2) (And.intro (And.intro o1 o2) (And.intro (And.intro n1 n2) (And.intro c1 c2))))
  have hS := put_bytes (k := 10) (ps := [0, 4]) hp (by unfold firstF; simp [hO]) rfl
  have HO := Lib.hid hO
  clear hO
  have TX := Lib.hid (fun (w' : World) => docText_at D w' hd)
  obtain ⟨d, hdd⟩ : ∃ d, D.size = d := ⟨_, rfl⟩
  rw [hdd] at TX hd
  have hT8 := text_size d D hdd
  have HDD := Lib.hid hdd
  obtain ⟨TT, hTT⟩ : ∃ T, numT (d : Int) ++ D = T := ⟨_, rfl⟩
  rw [hTT] at TX hT8
  have HTT := Lib.hid hTT
  obtain ⟨tz, htz⟩ : ∃ z, TT.size = z := ⟨_, rfl⟩
  rw [htz] at hT8
  obtain ⟨m, hm⟩ : ∃ m, A.length = m := ⟨_, rfl⟩
  rw [hm] at RT ⊢
  have HS := Lib.hid hS
  obtain ⟨BK, hBK⟩ : ∃ b, byteT 8 = b := ⟨_, rfl⟩
  have hBz : BK.size = 1 := by rw [← hBK]; exact strOf_size _ _
  have HBK := Lib.hid hBK
  clear hp hS hTT hdd s1 s2 o1 o2 n1 n2 c1 c2 hu hDm hXm hm hBK
  unfold frC at RT ⊢
  have row := heap_alloc_last w (.cells #[.int .i64 8, .int .i64 S, .int .i64 O, .int .i64 N, .int .i64 C, .bool false, .string D, .string X, .slice a m c] 24)
  have bel := (Below.refl w.heap.size w).alloc (Nat.le_refl _) (.cells #[.int .i64 8, .int .i64 S, .int .i64 O, .int .i64 N, .int .i64 C, .bool false, .string D, .string X, .slice a m c] 24)
  go_enter Tryd.func7, Tryd.ntmps7
  go_upto_region 1 with (fail)
  generalize w.alloc _ = wa at *
  generalize hq : w.heap.size = q at *
  have HQ := Lib.hid hq
  have ROW := Lib.hid row
  have B := Lib.hid bel
  obtain ⟨c0, c1', c2', c3, c4, c5, c6, c7, c8⟩ := cells9 row
  clear row bel hq
  go_wp2_with fail
  with_reducible refine (RT.out wa B.out).mono ?_
  rintro e w2 ⟨rfl, hb2⟩
  have R2 := Lib.hid ((hb2.block _ (lt_row ROW.out)).trans ROW.out)
  have B2 := Lib.hid (show Below q w w2 from B.out.trans (hb2.mono (by rw [← HQ.out]; exact B.out.size)))
  clear hb2 RT c0 c1' c2' c3 c4 c5 c6 c7 c8 ROW
  obtain ⟨c0, c1', c2', c3, c4, c5, c6, c7, c8⟩ := cells9 R2.out
  go_wp2_with fail
  with_reducible refine (TX.out w2).mono ?_
  rintro e w3 ⟨rfl, hb3⟩
  have QS := Lib.hid (show q ≤ w2.heap.size by rw [← HQ.out]; exact B2.out.size)
  have R3 := Lib.hid ((hb3.block _ (lt_row R2.out)).trans R2.out)
  have B3 := Lib.hid (B2.out.trans (hb3.mono QS.out))
  have QS3 := Lib.hid (Nat.le_trans QS.out hb3.size)
  clear hb3 TX c0 c1' c2' c3 c4 c5 c6 c7 c8
  obtain ⟨c0, c1', c2', c3, c4, c5, c6, c7, c8⟩ := cells9 R3.out
  have ck := conv_kind 8 (by decide) w3
  rw [show ((8 : Nat) : Int) = 8 from rfl, HBK.out] at ck
  have bel4 := (Below.refl w3.heap.size w3).alloc (Nat.le_refl _) (.cells #[.int .u8 8] 5)
  have R4 := Lib.hid ((bel4.block _ (lt_row R3.out)).trans R3.out)
  have B4 := Lib.hid (B3.out.trans (bel4.mono QS3.out))
  have QS4 := Lib.hid (Nat.le_trans QS3.out bel4.size)
  clear bel4
  go_upto_region 5 with (fail)
  clear ck c0 c1' c2' c3 c4 c5 c6 c7 c8
  generalize w3.alloc _ = w4 at *
  obtain ⟨c0, c1', c2', c3, c4, c5, c6, c7, c8⟩ := cells9 R4.out
  have hOn : ¬ 0 < O := by have := HO.out; omega
  obtain ⟨BC, hBC⟩ : ∃ b, byteT 10 = b := ⟨_, rfl⟩
  have hbc1 : BC.size = 1 := by rw [← hBC]; exact strOf_size _ _
  obtain ⟨cz, hcz⟩ : ∃ z, BC.size = z := ⟨_, rfl⟩
  have hc1 : cz ≤ 1 := by omega
  have HBC := Lib.hid hBC
  have HNC := Lib.hid (show numsT [10] = BC from by rw [numsT_one, numT_10, hBC])
  obtain ⟨NS, hNS⟩ : ∃ T, numsT [S] = T := ⟨_, rfl⟩
  have hs8 : (numsT [S]).size ≤ 8 := numsT_size [S]
  rw [hNS] at hs8
  have HNS := Lib.hid hNS
  obtain ⟨sz, hsz⟩ : ∃ z, NS.size = z := ⟨_, rfl⟩
  rw [hsz] at hs8
  have q1 : ¬ 9223372036854775807 < cz + sz := by omega
  have q3 : ¬ 9223372036854775807 < cz + sz + tz := by omega
  have RES := Lib.hid (show SS = BC ++ NS ++ (⟨#[]⟩ : ByteArray) ++ TT from by
    rw [HS.out, HBC.out, ← HNS.out, ← HTT.out, ← HDD.out]
    show BC ++ (numT S ++ (((numT (D.size : Int) ++ D) ++ (⟨#[]⟩ : ByteArray)))) = BC ++ numsT [S] ++ (⟨#[]⟩ : ByteArray) ++ (numT (D.size : Int) ++ D)
    simp only [numsT, app_nil, ByteArray.append_assoc])
  clear hbc1 hBC hNS
  go_upto_region 32 with (fail)
  have S_v0 : Hid (w4.drew.heap[q]? = some (.cells #[.int .i64 8, .int .i64 S, .int .i64 O, .int .i64 N, .int .i64 C, .bool false, .string D, .string X, .slice a m c] 24 (0, 0))) := Lib.hid R4.out
  have B_v0 := Lib.hid B4.out.drew
  have Q_v0 := Lib.hid (show q ≤ w4.drew.heap.size from QS4.out)
  clear c0 c1' c2' c3 c4 c5 c6 c7 c8
  refine wp_region_held_drew (S := fun w' : World => w'.heap[q]? = some (.cells #[.int .i64 8, .int .i64 S, .int .i64 O, .int .i64 N, .int .i64 C, .bool false, .string D, .string X, .slice a m c] 24 (0, 0))) mixedOrders S_v0.out (fun hHeld => ?_)
  clear hHeld
  generalize w4.drew = v0 at *
  refine wpAnyH_take (i := 0) (oi := ⟨some 147, _, _, _, _, _⟩) (v := .int .i64 10) rfl (by kernel_rfl) (by kernel_rfl) (by kernel_rfl) (fun _ _ _ h => h) (Or.inl ⟨by rfl, fun w' hSw => ?_⟩) S_v0.out ?_
  · clear hSw
    go_simp
  try simp only [Act.put, List.setIfInBounds_toArray, List.set_cons_zero, List.set_cons_succ]
  refine wpAnyH_take (i := 3) (oi := ⟨some 150, _, _, _, _, _⟩) (v := .pointer (some ⟨q, 1, none⟩)) rfl (by kernel_rfl) (by kernel_rfl) (by kernel_rfl) (fun _ _ _ h => h) (Or.inl ⟨by rfl, fun w' hSw => ?_⟩) S_v0.out ?_
  · clear hSw
    go_simp
  try simp only [Act.put, List.setIfInBounds_toArray, List.set_cons_zero, List.set_cons_succ]
  refine wpAnyH_take (i := 4) (oi := ⟨some 151, _, _, _, _, _⟩) (v := .int .i64 S) rfl (by kernel_rfl) (by kernel_rfl) (by kernel_rfl) (fun _ _ _ h => h) (Or.inl ⟨by rfl, fun w' hSw => ?_⟩) S_v0.out ?_
  · obtain ⟨s0, s1, s2, s3, s4, s5, s6, s7, s8⟩ := cells9 hSw
    go_simp
  try simp only [Act.put, List.setIfInBounds_toArray, List.set_cons_zero, List.set_cons_succ]
  refine wpAnyH_take (i := 8) (oi := ⟨some 155, _, _, _, _, _⟩) (v := .string (⟨#[]⟩ : ByteArray)) rfl (by kernel_rfl) (by kernel_rfl) (by kernel_rfl) (fun _ _ _ h => h) (Or.inl ⟨by rfl, fun w' hSw => ?_⟩) S_v0.out ?_
  · clear hSw
    go_simp
  try simp only [Act.put, List.setIfInBounds_toArray, List.set_cons_zero, List.set_cons_succ]
  refine wpAnyH_take (i := 10) (oi := ⟨some 157, _, _, _, _, _⟩) (v := .string TT) rfl (by kernel_rfl) (by kernel_rfl) (by kernel_rfl) (fun _ _ _ h => h) (Or.inl ⟨by rfl, fun w' hSw => ?_⟩) S_v0.out ?_
  · clear hSw
    go_simp
  try simp only [Act.put, List.setIfInBounds_toArray, List.set_cons_zero, List.set_cons_succ]
  refine wpAnyH_ready (rs := [1, 5]) (by kernel_rfl) (by simp) ?_
  refine AllReadyH.cons (i := 1) rfl (fun K hK => ?_) (AllReadyH.cons (i := 5) rfl (fun K hK => ?_) AllReadyH.nil)
  · rw [if_pos (by rfl)]
    go_simp
    have hl : (v0.alloc (.cells #[.int .i64 10] 3)).heap[v0.heap.size]? = some (.cells #[.int .i64 10] 3 (0, 0)) := heap_alloc_last v0 (.cells #[.int .i64 10] 3)
    have al := (Below.refl v0.heap.size v0).alloc (Nat.le_refl _) (.cells #[.int .i64 10] 3)
    generalize v0.alloc (.cells #[.int .i64 10] 3) = v1 at *
    have S_v1 := Lib.hid ((al.block _ (lt_row S_v0.out)).trans S_v0.out)
    have B_v1 := Lib.hid (B_v0.out.trans (al.mono Q_v0.out))
    have Q_v1 := Lib.hid (Nat.le_trans Q_v0.out al.size)
    have RA_v1 := Lib.hid hl
    clear hl al
    refine hK.out _ _ S_v1.out (fun _ => ?_)
    clear hK K
    try simp only [Act.put, List.setIfInBounds_toArray, List.set_cons_zero, List.set_cons_succ]
    refine wpAnyH_ready (rs := [2, 5]) (by kernel_rfl) (by simp) ?_
    refine AllReadyH.cons (i := 2) rfl (fun K hK => ?_) (AllReadyH.cons (i := 5) rfl (fun K hK => ?_) AllReadyH.nil)
    · rw [if_pos (by rfl)]
      go_simp
      have hl : ∀ (i : Nat) (hi : i < ([10] : List Int).length), 0 ≤ ([10] : List Int)[i] ∧ ([10] : List Int)[i] ≤ MX := fun i hi => by
          match i, hi with
          | 0, _ => exact ⟨by show (0 : Int) ≤ 10; omega, by unfold MX; show (10 : Int) ≤ _; omega⟩
      have pn := put_nums [10] hl (by simp) _ v1 RA_v1.out
      clear hl
      go_at_call 18
      refine pn.mono ?_
      rintro e v2 ⟨rfl, hb6⟩
      dsimp only
      have S_v2 := Lib.hid ((hb6.block _ (lt_row S_v1.out)).trans S_v1.out)
      have B_v2 := Lib.hid (B_v1.out.trans (hb6.mono Q_v1.out))
      have Q_v2 := Lib.hid (Nat.le_trans Q_v1.out hb6.size)
      clear pn hb6
      rw [HNC.out]
      refine hK.out _ _ S_v2.out (fun _ => ?_)
      clear hK K
      try simp only [Act.put, List.setIfInBounds_toArray, List.set_cons_zero, List.set_cons_succ]
      refine wpAnyH_ready (rs := [5]) (by kernel_rfl) (by simp) ?_
      refine AllReadyH.cons (i := 5) rfl (fun K hK => ?_) AllReadyH.nil
      · rw [if_pos (by rfl)]
        go_simp
        have hl : (v2.alloc (.cells #[.int .i64 S] 3)).heap[v2.heap.size]? = some (.cells #[.int .i64 S] 3 (0, 0)) := heap_alloc_last v2 (.cells #[.int .i64 S] 3)
        have al := (Below.refl v2.heap.size v2).alloc (Nat.le_refl _) (.cells #[.int .i64 S] 3)
        generalize v2.alloc (.cells #[.int .i64 S] 3) = v3 at *
        have S_v3 := Lib.hid ((al.block _ (lt_row S_v2.out)).trans S_v2.out)
        have B_v3 := Lib.hid (B_v2.out.trans (al.mono Q_v2.out))
        have Q_v3 := Lib.hid (Nat.le_trans Q_v2.out al.size)
        have RB_v3 := Lib.hid hl
        clear hl al
        refine hK.out _ _ S_v3.out (fun _ => ?_)
        clear hK K
        try simp only [Act.put, List.setIfInBounds_toArray, List.set_cons_zero, List.set_cons_succ]
        refine wpAnyH_ready (rs := [6]) (by kernel_rfl) (by simp) ?_
        refine AllReadyH.cons (i := 6) rfl (fun K hK => ?_) AllReadyH.nil
        · rw [if_pos (by rfl)]
          go_simp
          have hl : ∀ (i : Nat) (hi : i < ([S] : List Int).length), 0 ≤ ([S] : List Int)[i] ∧ ([S] : List Int)[i] ≤ MX := fun i hi => by
              match i, hi with
              | 0, _ => exact BND.out.1
          have pn := put_nums [S] hl (by simp) _ v3 RB_v3.out
          clear hl
          go_at_call 18
          refine pn.mono ?_
          rintro e v4 ⟨rfl, hb6⟩
          dsimp only
          have S_v4 := Lib.hid ((hb6.block _ (lt_row S_v3.out)).trans S_v3.out)
          have B_v4 := Lib.hid (B_v3.out.trans (hb6.mono Q_v3.out))
          have Q_v4 := Lib.hid (Nat.le_trans Q_v3.out hb6.size)
          clear pn hb6
          rw [HNS.out]
          refine hK.out _ _ S_v4.out (fun _ => ?_)
          clear hK K
          try simp only [Act.put, List.setIfInBounds_toArray, List.set_cons_zero, List.set_cons_succ]
          refine wpAnyH_take (i := 7) (oi := ⟨some 154, _, _, _, _, _⟩) (v := .string (BC ++ NS)) rfl (by kernel_rfl) (by kernel_rfl) (by kernel_rfl) (fun _ _ _ h => h) (Or.inl ⟨by rfl, fun w' hSw => ?_⟩) S_v4.out ?_
          · clear hSw
            go_simp
          try simp only [Act.put, List.setIfInBounds_toArray, List.set_cons_zero, List.set_cons_succ]
          refine wpAnyH_take (i := 9) (oi := ⟨some 156, _, _, _, _, _⟩) (v := .string (BC ++ NS ++ (⟨#[]⟩ : ByteArray))) rfl (by kernel_rfl) (by kernel_rfl) (by kernel_rfl) (fun _ _ _ h => h) (Or.inl ⟨by rfl, fun w' hSw => ?_⟩) S_v4.out ?_
          · clear hSw
            go_simp
          try simp only [Act.put, List.setIfInBounds_toArray, List.set_cons_zero, List.set_cons_succ]
          refine wpAnyH_take (i := 11) (oi := ⟨some 158, _, _, _, _, _⟩) (v := .string (BC ++ NS ++ (⟨#[]⟩ : ByteArray) ++ TT)) rfl (by kernel_rfl) (by kernel_rfl) (by kernel_rfl) (fun _ _ _ h => h) (Or.inl ⟨by rfl, fun w' hSw => ?_⟩) S_v4.out ?_
          · clear hSw
            go_simp
          try simp only [Act.put, List.setIfInBounds_toArray, List.set_cons_zero, List.set_cons_succ]
          refine wpAnyH_take (i := 12) (oi := ⟨some 2, _, _, _, _, _⟩) (v := .string (BC ++ NS ++ (⟨#[]⟩ : ByteArray) ++ TT)) rfl (by kernel_rfl) (by kernel_rfl) (by kernel_rfl) (fun _ _ _ h => h) (Or.inl ⟨by rfl, fun w' hSw => ?_⟩) S_v4.out ?_
          · clear hSw
            go_simp
          try simp only [Act.put, List.setIfInBounds_toArray, List.set_cons_zero, List.set_cons_succ]
          refine wpAnyH_take (i := 13) (oi := ⟨some 3, _, _, _, _, _⟩) (v := .int .i64 0) rfl (by kernel_rfl) (by kernel_rfl) (by kernel_rfl) (fun _ _ _ h => h) (Or.inl ⟨by rfl, fun w' hSw => ?_⟩) S_v4.out ?_
          · clear hSw
            go_simp
          try simp only [Act.put, List.setIfInBounds_toArray, List.set_cons_zero, List.set_cons_succ]
          refine wpAnyH_done (by kernel_rfl) ?_ _
          go_wp2_with fail
          go_ret2
          exact ⟨ret_str RES.out, by rw [HQ.out]; exact B_v4.out⟩
    · rw [if_pos (by rfl)]
      go_simp
      have hl : (v1.alloc (.cells #[.int .i64 S] 3)).heap[v1.heap.size]? = some (.cells #[.int .i64 S] 3 (0, 0)) := heap_alloc_last v1 (.cells #[.int .i64 S] 3)
      have al := (Below.refl v1.heap.size v1).alloc (Nat.le_refl _) (.cells #[.int .i64 S] 3)
      generalize v1.alloc (.cells #[.int .i64 S] 3) = v5 at *
      have S_v5 := Lib.hid ((al.block _ (lt_row S_v1.out)).trans S_v1.out)
      have B_v5 := Lib.hid (B_v1.out.trans (al.mono Q_v1.out))
      have Q_v5 := Lib.hid (Nat.le_trans Q_v1.out al.size)
      have RA_v5 := Lib.hid ((al.block _ (lt_row RA_v1.out)).trans RA_v1.out)
      have RB_v5 := Lib.hid hl
      clear hl al
      refine hK.out _ _ S_v5.out (fun _ => ?_)
      clear hK K
      try simp only [Act.put, List.setIfInBounds_toArray, List.set_cons_zero, List.set_cons_succ]
      refine wpAnyH_ready (rs := [2]) (by kernel_rfl) (by simp) ?_
      refine AllReadyH.cons (i := 2) rfl (fun K hK => ?_) AllReadyH.nil
      · rw [if_pos (by rfl)]
        go_simp
        have hl : ∀ (i : Nat) (hi : i < ([10] : List Int).length), 0 ≤ ([10] : List Int)[i] ∧ ([10] : List Int)[i] ≤ MX := fun i hi => by
            match i, hi with
            | 0, _ => exact ⟨by show (0 : Int) ≤ 10; omega, by unfold MX; show (10 : Int) ≤ _; omega⟩
        have pn := put_nums [10] hl (by simp) _ v5 RA_v5.out
        clear hl
        go_at_call 18
        refine pn.mono ?_
        rintro e v6 ⟨rfl, hb6⟩
        dsimp only
        have S_v6 := Lib.hid ((hb6.block _ (lt_row S_v5.out)).trans S_v5.out)
        have B_v6 := Lib.hid (B_v5.out.trans (hb6.mono Q_v5.out))
        have Q_v6 := Lib.hid (Nat.le_trans Q_v5.out hb6.size)
        have RB_v6 := Lib.hid ((hb6.block _ (lt_row RB_v5.out)).trans RB_v5.out)
        clear pn hb6
        rw [HNC.out]
        refine hK.out _ _ S_v6.out (fun _ => ?_)
        clear hK K
        try simp only [Act.put, List.setIfInBounds_toArray, List.set_cons_zero, List.set_cons_succ]
        refine wpAnyH_ready (rs := [6]) (by kernel_rfl) (by simp) ?_
        refine AllReadyH.cons (i := 6) rfl (fun K hK => ?_) AllReadyH.nil
        · rw [if_pos (by rfl)]
          go_simp
          have hl : ∀ (i : Nat) (hi : i < ([S] : List Int).length), 0 ≤ ([S] : List Int)[i] ∧ ([S] : List Int)[i] ≤ MX := fun i hi => by
              match i, hi with
              | 0, _ => exact BND.out.1
          have pn := put_nums [S] hl (by simp) _ v6 RB_v6.out
          clear hl
          go_at_call 18
          refine pn.mono ?_
          rintro e v7 ⟨rfl, hb6⟩
          dsimp only
          have S_v7 := Lib.hid ((hb6.block _ (lt_row S_v6.out)).trans S_v6.out)
          have B_v7 := Lib.hid (B_v6.out.trans (hb6.mono Q_v6.out))
          have Q_v7 := Lib.hid (Nat.le_trans Q_v6.out hb6.size)
          clear pn hb6
          rw [HNS.out]
          refine hK.out _ _ S_v7.out (fun _ => ?_)
          clear hK K
          try simp only [Act.put, List.setIfInBounds_toArray, List.set_cons_zero, List.set_cons_succ]
          refine wpAnyH_take (i := 7) (oi := ⟨some 154, _, _, _, _, _⟩) (v := .string (BC ++ NS)) rfl (by kernel_rfl) (by kernel_rfl) (by kernel_rfl) (fun _ _ _ h => h) (Or.inl ⟨by rfl, fun w' hSw => ?_⟩) S_v7.out ?_
          · clear hSw
            go_simp
          try simp only [Act.put, List.setIfInBounds_toArray, List.set_cons_zero, List.set_cons_succ]
          refine wpAnyH_take (i := 9) (oi := ⟨some 156, _, _, _, _, _⟩) (v := .string (BC ++ NS ++ (⟨#[]⟩ : ByteArray))) rfl (by kernel_rfl) (by kernel_rfl) (by kernel_rfl) (fun _ _ _ h => h) (Or.inl ⟨by rfl, fun w' hSw => ?_⟩) S_v7.out ?_
          · clear hSw
            go_simp
          try simp only [Act.put, List.setIfInBounds_toArray, List.set_cons_zero, List.set_cons_succ]
          refine wpAnyH_take (i := 11) (oi := ⟨some 158, _, _, _, _, _⟩) (v := .string (BC ++ NS ++ (⟨#[]⟩ : ByteArray) ++ TT)) rfl (by kernel_rfl) (by kernel_rfl) (by kernel_rfl) (fun _ _ _ h => h) (Or.inl ⟨by rfl, fun w' hSw => ?_⟩) S_v7.out ?_
          · clear hSw
            go_simp
          try simp only [Act.put, List.setIfInBounds_toArray, List.set_cons_zero, List.set_cons_succ]
          refine wpAnyH_take (i := 12) (oi := ⟨some 2, _, _, _, _, _⟩) (v := .string (BC ++ NS ++ (⟨#[]⟩ : ByteArray) ++ TT)) rfl (by kernel_rfl) (by kernel_rfl) (by kernel_rfl) (fun _ _ _ h => h) (Or.inl ⟨by rfl, fun w' hSw => ?_⟩) S_v7.out ?_
          · clear hSw
            go_simp
          try simp only [Act.put, List.setIfInBounds_toArray, List.set_cons_zero, List.set_cons_succ]
          refine wpAnyH_take (i := 13) (oi := ⟨some 3, _, _, _, _, _⟩) (v := .int .i64 0) rfl (by kernel_rfl) (by kernel_rfl) (by kernel_rfl) (fun _ _ _ h => h) (Or.inl ⟨by rfl, fun w' hSw => ?_⟩) S_v7.out ?_
          · clear hSw
            go_simp
          try simp only [Act.put, List.setIfInBounds_toArray, List.set_cons_zero, List.set_cons_succ]
          refine wpAnyH_done (by kernel_rfl) ?_ _
          go_wp2_with fail
          go_ret2
          exact ⟨ret_str RES.out, by rw [HQ.out]; exact B_v7.out⟩
  · rw [if_pos (by rfl)]
    go_simp
    have hl : (v0.alloc (.cells #[.int .i64 S] 3)).heap[v0.heap.size]? = some (.cells #[.int .i64 S] 3 (0, 0)) := heap_alloc_last v0 (.cells #[.int .i64 S] 3)
    have al := (Below.refl v0.heap.size v0).alloc (Nat.le_refl _) (.cells #[.int .i64 S] 3)
    generalize v0.alloc (.cells #[.int .i64 S] 3) = v8 at *
    have S_v8 := Lib.hid ((al.block _ (lt_row S_v0.out)).trans S_v0.out)
    have B_v8 := Lib.hid (B_v0.out.trans (al.mono Q_v0.out))
    have Q_v8 := Lib.hid (Nat.le_trans Q_v0.out al.size)
    have RB_v8 := Lib.hid hl
    clear hl al
    refine hK.out _ _ S_v8.out (fun _ => ?_)
    clear hK K
    try simp only [Act.put, List.setIfInBounds_toArray, List.set_cons_zero, List.set_cons_succ]
    refine wpAnyH_ready (rs := [1]) (by kernel_rfl) (by simp) ?_
    refine AllReadyH.cons (i := 1) rfl (fun K hK => ?_) AllReadyH.nil
    · rw [if_pos (by rfl)]
      go_simp
      have hl : (v8.alloc (.cells #[.int .i64 10] 3)).heap[v8.heap.size]? = some (.cells #[.int .i64 10] 3 (0, 0)) := heap_alloc_last v8 (.cells #[.int .i64 10] 3)
      have al := (Below.refl v8.heap.size v8).alloc (Nat.le_refl _) (.cells #[.int .i64 10] 3)
      generalize v8.alloc (.cells #[.int .i64 10] 3) = v9 at *
      have S_v9 := Lib.hid ((al.block _ (lt_row S_v8.out)).trans S_v8.out)
      have B_v9 := Lib.hid (B_v8.out.trans (al.mono Q_v8.out))
      have Q_v9 := Lib.hid (Nat.le_trans Q_v8.out al.size)
      have RB_v9 := Lib.hid ((al.block _ (lt_row RB_v8.out)).trans RB_v8.out)
      have RA_v9 := Lib.hid hl
      clear hl al
      refine hK.out _ _ S_v9.out (fun _ => ?_)
      clear hK K
      try simp only [Act.put, List.setIfInBounds_toArray, List.set_cons_zero, List.set_cons_succ]
      refine wpAnyH_ready (rs := [2]) (by kernel_rfl) (by simp) ?_
      refine AllReadyH.cons (i := 2) rfl (fun K hK => ?_) AllReadyH.nil
      · rw [if_pos (by rfl)]
        go_simp
        have hl : ∀ (i : Nat) (hi : i < ([10] : List Int).length), 0 ≤ ([10] : List Int)[i] ∧ ([10] : List Int)[i] ≤ MX := fun i hi => by
            match i, hi with
            | 0, _ => exact ⟨by show (0 : Int) ≤ 10; omega, by unfold MX; show (10 : Int) ≤ _; omega⟩
        have pn := put_nums [10] hl (by simp) _ v9 RA_v9.out
        clear hl
        go_at_call 18
        refine pn.mono ?_
        rintro e v10 ⟨rfl, hb6⟩
        dsimp only
        have S_v10 := Lib.hid ((hb6.block _ (lt_row S_v9.out)).trans S_v9.out)
        have B_v10 := Lib.hid (B_v9.out.trans (hb6.mono Q_v9.out))
        have Q_v10 := Lib.hid (Nat.le_trans Q_v9.out hb6.size)
        have RB_v10 := Lib.hid ((hb6.block _ (lt_row RB_v9.out)).trans RB_v9.out)
        clear pn hb6
        rw [HNC.out]
        refine hK.out _ _ S_v10.out (fun _ => ?_)
        clear hK K
        try simp only [Act.put, List.setIfInBounds_toArray, List.set_cons_zero, List.set_cons_succ]
        refine wpAnyH_ready (rs := [6]) (by kernel_rfl) (by simp) ?_
        refine AllReadyH.cons (i := 6) rfl (fun K hK => ?_) AllReadyH.nil
        · rw [if_pos (by rfl)]
          go_simp
          have hl : ∀ (i : Nat) (hi : i < ([S] : List Int).length), 0 ≤ ([S] : List Int)[i] ∧ ([S] : List Int)[i] ≤ MX := fun i hi => by
              match i, hi with
              | 0, _ => exact BND.out.1
          have pn := put_nums [S] hl (by simp) _ v10 RB_v10.out
          clear hl
          go_at_call 18
          refine pn.mono ?_
          rintro e v11 ⟨rfl, hb6⟩
          dsimp only
          have S_v11 := Lib.hid ((hb6.block _ (lt_row S_v10.out)).trans S_v10.out)
          have B_v11 := Lib.hid (B_v10.out.trans (hb6.mono Q_v10.out))
          have Q_v11 := Lib.hid (Nat.le_trans Q_v10.out hb6.size)
          clear pn hb6
          rw [HNS.out]
          refine hK.out _ _ S_v11.out (fun _ => ?_)
          clear hK K
          try simp only [Act.put, List.setIfInBounds_toArray, List.set_cons_zero, List.set_cons_succ]
          refine wpAnyH_take (i := 7) (oi := ⟨some 154, _, _, _, _, _⟩) (v := .string (BC ++ NS)) rfl (by kernel_rfl) (by kernel_rfl) (by kernel_rfl) (fun _ _ _ h => h) (Or.inl ⟨by rfl, fun w' hSw => ?_⟩) S_v11.out ?_
          · clear hSw
            go_simp
          try simp only [Act.put, List.setIfInBounds_toArray, List.set_cons_zero, List.set_cons_succ]
          refine wpAnyH_take (i := 9) (oi := ⟨some 156, _, _, _, _, _⟩) (v := .string (BC ++ NS ++ (⟨#[]⟩ : ByteArray))) rfl (by kernel_rfl) (by kernel_rfl) (by kernel_rfl) (fun _ _ _ h => h) (Or.inl ⟨by rfl, fun w' hSw => ?_⟩) S_v11.out ?_
          · clear hSw
            go_simp
          try simp only [Act.put, List.setIfInBounds_toArray, List.set_cons_zero, List.set_cons_succ]
          refine wpAnyH_take (i := 11) (oi := ⟨some 158, _, _, _, _, _⟩) (v := .string (BC ++ NS ++ (⟨#[]⟩ : ByteArray) ++ TT)) rfl (by kernel_rfl) (by kernel_rfl) (by kernel_rfl) (fun _ _ _ h => h) (Or.inl ⟨by rfl, fun w' hSw => ?_⟩) S_v11.out ?_
          · clear hSw
            go_simp
          try simp only [Act.put, List.setIfInBounds_toArray, List.set_cons_zero, List.set_cons_succ]
          refine wpAnyH_take (i := 12) (oi := ⟨some 2, _, _, _, _, _⟩) (v := .string (BC ++ NS ++ (⟨#[]⟩ : ByteArray) ++ TT)) rfl (by kernel_rfl) (by kernel_rfl) (by kernel_rfl) (fun _ _ _ h => h) (Or.inl ⟨by rfl, fun w' hSw => ?_⟩) S_v11.out ?_
          · clear hSw
            go_simp
          try simp only [Act.put, List.setIfInBounds_toArray, List.set_cons_zero, List.set_cons_succ]
          refine wpAnyH_take (i := 13) (oi := ⟨some 3, _, _, _, _, _⟩) (v := .int .i64 0) rfl (by kernel_rfl) (by kernel_rfl) (by kernel_rfl) (fun _ _ _ h => h) (Or.inl ⟨by rfl, fun w' hSw => ?_⟩) S_v11.out ?_
          · clear hSw
            go_simp
          try simp only [Act.put, List.setIfInBounds_toArray, List.set_cons_zero, List.set_cons_succ]
          refine wpAnyH_done (by kernel_rfl) ?_ _
          go_wp2_with fail
          go_ret2
          exact ⟨ret_str RES.out, by rw [HQ.out]; exact B_v11.out⟩
set_option maxHeartbeats 16000000 in
theorem docPut_8_11 (S O N C : Int) (D X : ByteArray) (A : List (Int × Int)) (u : Value) (w : World) (hO : O = 0) (hu : SpansIn w u A) (hDm : D.size ≤ maxLen) (hXm : X.size ≤ maxLen) (SS : ByteArray) (hp : putF ⟨8, S, O, N, C, true, D, X, A⟩ = some SS) :
    Calls Tryd.prog 7 #[.agg (frC 8 S O N C true D X u)] w fun e w' => e = .returned (.tuple #[.string SS, .int .i64 0]) ∧ Below w.heap.size w w' := by
  obtain ⟨a, c, rfl, _, _⟩ := hu.at_
  have RT := Lib.hid (fun (w' : World) (hb : Below w.heap.size w w') => (show Calls Tryd.prog 16 #[.agg (frC 8 S O N C true D X (.slice a A.length c))] w' fun e w'' => e = .returned (.bool true) ∧ Below w'.heap.size w' w'' from by
    have h := right_front 8 S O N C true D X A (.slice a A.length c) w' (hu.later hb) hDm hXm
    rw [hp] at h
    exact h))
  obtain ⟨⟨s1, s2⟩, ⟨o1, o2⟩, ⟨n1, n2⟩, ⟨c1, c2⟩, hd⟩ := okD_of hp
  dsimp only at s1 s2 o1 o2 n1 n2 c1 c2 hd
  have BND := Lib.hid (And.intro (And.intro s1 s2) (And.intro (And.intro o1 o2) (And.intro (And.intro n1 n2) (And.intro c1 c2))))
  have hS := put_bytes (k := 11) (ps := [0, 4]) hp (by unfold firstF; simp [hO]) rfl
  have HO := Lib.hid hO
  clear hO
  have TX := Lib.hid (fun (w' : World) => docText_at D w' hd)
  obtain ⟨d, hdd⟩ : ∃ d, D.size = d := ⟨_, rfl⟩
  rw [hdd] at TX hd
  have hT8 := text_size d D hdd
  have HDD := Lib.hid hdd
  obtain ⟨TT, hTT⟩ : ∃ T, numT (d : Int) ++ D = T := ⟨_, rfl⟩
  rw [hTT] at TX hT8
  have HTT := Lib.hid hTT
  obtain ⟨tz, htz⟩ : ∃ z, TT.size = z := ⟨_, rfl⟩
  rw [htz] at hT8
  obtain ⟨m, hm⟩ : ∃ m, A.length = m := ⟨_, rfl⟩
  rw [hm] at RT ⊢
  have HS := Lib.hid hS
  obtain ⟨BK, hBK⟩ : ∃ b, byteT 8 = b := ⟨_, rfl⟩
  have hBz : BK.size = 1 := by rw [← hBK]; exact strOf_size _ _
  have HBK := Lib.hid hBK
  clear hp hS hTT hdd s1 s2 o1 o2 n1 n2 c1 c2 hu hDm hXm hm hBK
  unfold frC at RT ⊢
  have row := heap_alloc_last w (.cells #[.int .i64 8, .int .i64 S, .int .i64 O, .int .i64 N, .int .i64 C, .bool true, .string D, .string X, .slice a m c] 24)
  have bel := (Below.refl w.heap.size w).alloc (Nat.le_refl _) (.cells #[.int .i64 8, .int .i64 S, .int .i64 O, .int .i64 N, .int .i64 C, .bool true, .string D, .string X, .slice a m c] 24)
  go_enter Tryd.func7, Tryd.ntmps7
  go_upto_region 1 with (fail)
  generalize w.alloc _ = wa at *
  generalize hq : w.heap.size = q at *
  have HQ := Lib.hid hq
  have ROW := Lib.hid row
  have B := Lib.hid bel
  obtain ⟨c0, c1', c2', c3, c4, c5, c6, c7, c8⟩ := cells9 row
  clear row bel hq
  go_wp2_with fail
  with_reducible refine (RT.out wa B.out).mono ?_
  rintro e w2 ⟨rfl, hb2⟩
  have R2 := Lib.hid ((hb2.block _ (lt_row ROW.out)).trans ROW.out)
  have B2 := Lib.hid (show Below q w w2 from B.out.trans (hb2.mono (by rw [← HQ.out]; exact B.out.size)))
  clear hb2 RT c0 c1' c2' c3 c4 c5 c6 c7 c8 ROW
  obtain ⟨c0, c1', c2', c3, c4, c5, c6, c7, c8⟩ := cells9 R2.out
  go_wp2_with fail
  with_reducible refine (TX.out w2).mono ?_
  rintro e w3 ⟨rfl, hb3⟩
  have QS := Lib.hid (show q ≤ w2.heap.size by rw [← HQ.out]; exact B2.out.size)
  have R3 := Lib.hid ((hb3.block _ (lt_row R2.out)).trans R2.out)
  have B3 := Lib.hid (B2.out.trans (hb3.mono QS.out))
  have QS3 := Lib.hid (Nat.le_trans QS.out hb3.size)
  clear hb3 TX c0 c1' c2' c3 c4 c5 c6 c7 c8
  obtain ⟨c0, c1', c2', c3, c4, c5, c6, c7, c8⟩ := cells9 R3.out
  have ck := conv_kind 8 (by decide) w3
  rw [show ((8 : Nat) : Int) = 8 from rfl, HBK.out] at ck
  have bel4 := (Below.refl w3.heap.size w3).alloc (Nat.le_refl _) (.cells #[.int .u8 8] 5)
  have R4 := Lib.hid ((bel4.block _ (lt_row R3.out)).trans R3.out)
  have B4 := Lib.hid (B3.out.trans (bel4.mono QS3.out))
  have QS4 := Lib.hid (Nat.le_trans QS3.out bel4.size)
  clear bel4
  go_upto_region 5 with (fail)
  clear ck c0 c1' c2' c3 c4 c5 c6 c7 c8
  generalize w3.alloc _ = w4 at *
  obtain ⟨c0, c1', c2', c3, c4, c5, c6, c7, c8⟩ := cells9 R4.out
  have hOn : ¬ 0 < O := by have := HO.out; omega
  obtain ⟨BC, hBC⟩ : ∃ b, byteT 11 = b := ⟨_, rfl⟩
  have hbc1 : BC.size = 1 := by rw [← hBC]; exact strOf_size _ _
  obtain ⟨cz, hcz⟩ : ∃ z, BC.size = z := ⟨_, rfl⟩
  have hc1 : cz ≤ 1 := by omega
  have HBC := Lib.hid hBC
  have HNC := Lib.hid (show numsT [11] = BC from by rw [numsT_one, numT_11, hBC])
  obtain ⟨NS, hNS⟩ : ∃ T, numsT [S] = T := ⟨_, rfl⟩
  have hs8 : (numsT [S]).size ≤ 8 := numsT_size [S]
  rw [hNS] at hs8
  have HNS := Lib.hid hNS
  obtain ⟨sz, hsz⟩ : ∃ z, NS.size = z := ⟨_, rfl⟩
  rw [hsz] at hs8
  have q1 : ¬ 9223372036854775807 < cz + sz := by omega
  have q3 : ¬ 9223372036854775807 < cz + sz + tz := by omega
  have RES := Lib.hid (show SS = BC ++ NS ++ (⟨#[]⟩ : ByteArray) ++ TT from by
    rw [HS.out, HBC.out, ← HNS.out, ← HTT.out, ← HDD.out]
    show BC ++ (numT S ++ (((numT (D.size : Int) ++ D) ++ (⟨#[]⟩ : ByteArray)))) = BC ++ numsT [S] ++ (⟨#[]⟩ : ByteArray) ++ (numT (D.size : Int) ++ D)
    simp only [numsT, app_nil, ByteArray.append_assoc])
  clear hbc1 hBC hNS
  go_upto_region 32 with (fail)
  have S_v0 : Hid (w4.drew.heap[q]? = some (.cells #[.int .i64 8, .int .i64 S, .int .i64 O, .int .i64 N, .int .i64 C, .bool true, .string D, .string X, .slice a m c] 24 (0, 0))) := Lib.hid R4.out
  have B_v0 := Lib.hid B4.out.drew
  have Q_v0 := Lib.hid (show q ≤ w4.drew.heap.size from QS4.out)
  clear c0 c1' c2' c3 c4 c5 c6 c7 c8
  refine wp_region_held_drew (S := fun w' : World => w'.heap[q]? = some (.cells #[.int .i64 8, .int .i64 S, .int .i64 O, .int .i64 N, .int .i64 C, .bool true, .string D, .string X, .slice a m c] 24 (0, 0))) mixedOrders S_v0.out (fun hHeld => ?_)
  clear hHeld
  generalize w4.drew = v0 at *
  refine wpAnyH_take (i := 0) (oi := ⟨some 147, _, _, _, _, _⟩) (v := .int .i64 11) rfl (by kernel_rfl) (by kernel_rfl) (by kernel_rfl) (fun _ _ _ h => h) (Or.inl ⟨by rfl, fun w' hSw => ?_⟩) S_v0.out ?_
  · clear hSw
    go_simp
  try simp only [Act.put, List.setIfInBounds_toArray, List.set_cons_zero, List.set_cons_succ]
  refine wpAnyH_take (i := 3) (oi := ⟨some 150, _, _, _, _, _⟩) (v := .pointer (some ⟨q, 1, none⟩)) rfl (by kernel_rfl) (by kernel_rfl) (by kernel_rfl) (fun _ _ _ h => h) (Or.inl ⟨by rfl, fun w' hSw => ?_⟩) S_v0.out ?_
  · clear hSw
    go_simp
  try simp only [Act.put, List.setIfInBounds_toArray, List.set_cons_zero, List.set_cons_succ]
  refine wpAnyH_take (i := 4) (oi := ⟨some 151, _, _, _, _, _⟩) (v := .int .i64 S) rfl (by kernel_rfl) (by kernel_rfl) (by kernel_rfl) (fun _ _ _ h => h) (Or.inl ⟨by rfl, fun w' hSw => ?_⟩) S_v0.out ?_
  · obtain ⟨s0, s1, s2, s3, s4, s5, s6, s7, s8⟩ := cells9 hSw
    go_simp
  try simp only [Act.put, List.setIfInBounds_toArray, List.set_cons_zero, List.set_cons_succ]
  refine wpAnyH_take (i := 8) (oi := ⟨some 155, _, _, _, _, _⟩) (v := .string (⟨#[]⟩ : ByteArray)) rfl (by kernel_rfl) (by kernel_rfl) (by kernel_rfl) (fun _ _ _ h => h) (Or.inl ⟨by rfl, fun w' hSw => ?_⟩) S_v0.out ?_
  · clear hSw
    go_simp
  try simp only [Act.put, List.setIfInBounds_toArray, List.set_cons_zero, List.set_cons_succ]
  refine wpAnyH_take (i := 10) (oi := ⟨some 157, _, _, _, _, _⟩) (v := .string TT) rfl (by kernel_rfl) (by kernel_rfl) (by kernel_rfl) (fun _ _ _ h => h) (Or.inl ⟨by rfl, fun w' hSw => ?_⟩) S_v0.out ?_
  · clear hSw
    go_simp
  try simp only [Act.put, List.setIfInBounds_toArray, List.set_cons_zero, List.set_cons_succ]
  refine wpAnyH_ready (rs := [1, 5]) (by kernel_rfl) (by simp) ?_
  refine AllReadyH.cons (i := 1) rfl (fun K hK => ?_) (AllReadyH.cons (i := 5) rfl (fun K hK => ?_) AllReadyH.nil)
  · rw [if_pos (by rfl)]
    go_simp
    have hl : (v0.alloc (.cells #[.int .i64 11] 3)).heap[v0.heap.size]? = some (.cells #[.int .i64 11] 3 (0, 0)) := heap_alloc_last v0 (.cells #[.int .i64 11] 3)
    have al := (Below.refl v0.heap.size v0).alloc (Nat.le_refl _) (.cells #[.int .i64 11] 3)
    generalize v0.alloc (.cells #[.int .i64 11] 3) = v1 at *
    have S_v1 := Lib.hid ((al.block _ (lt_row S_v0.out)).trans S_v0.out)
    have B_v1 := Lib.hid (B_v0.out.trans (al.mono Q_v0.out))
    have Q_v1 := Lib.hid (Nat.le_trans Q_v0.out al.size)
    have RA_v1 := Lib.hid hl
    clear hl al
    refine hK.out _ _ S_v1.out (fun _ => ?_)
    clear hK K
    try simp only [Act.put, List.setIfInBounds_toArray, List.set_cons_zero, List.set_cons_succ]
    refine wpAnyH_ready (rs := [2, 5]) (by kernel_rfl) (by simp) ?_
    refine AllReadyH.cons (i := 2) rfl (fun K hK => ?_) (AllReadyH.cons (i := 5) rfl (fun K hK => ?_) AllReadyH.nil)
    · rw [if_pos (by rfl)]
      go_simp
      have hl : ∀ (i : Nat) (hi : i < ([11] : List Int).length), 0 ≤ ([11] : List Int)[i] ∧ ([11] : List Int)[i] ≤ MX := fun i hi => by
          match i, hi with
          | 0, _ => exact ⟨by show (0 : Int) ≤ 11; omega, by unfold MX; show (11 : Int) ≤ _; omega⟩
      have pn := put_nums [11] hl (by simp) _ v1 RA_v1.out
      clear hl
      go_at_call 18
      refine pn.mono ?_
      rintro e v2 ⟨rfl, hb6⟩
      dsimp only
      have S_v2 := Lib.hid ((hb6.block _ (lt_row S_v1.out)).trans S_v1.out)
      have B_v2 := Lib.hid (B_v1.out.trans (hb6.mono Q_v1.out))
      have Q_v2 := Lib.hid (Nat.le_trans Q_v1.out hb6.size)
      clear pn hb6
      rw [HNC.out]
      refine hK.out _ _ S_v2.out (fun _ => ?_)
      clear hK K
      try simp only [Act.put, List.setIfInBounds_toArray, List.set_cons_zero, List.set_cons_succ]
      refine wpAnyH_ready (rs := [5]) (by kernel_rfl) (by simp) ?_
      refine AllReadyH.cons (i := 5) rfl (fun K hK => ?_) AllReadyH.nil
      · rw [if_pos (by rfl)]
        go_simp
        have hl : (v2.alloc (.cells #[.int .i64 S] 3)).heap[v2.heap.size]? = some (.cells #[.int .i64 S] 3 (0, 0)) := heap_alloc_last v2 (.cells #[.int .i64 S] 3)
        have al := (Below.refl v2.heap.size v2).alloc (Nat.le_refl _) (.cells #[.int .i64 S] 3)
        generalize v2.alloc (.cells #[.int .i64 S] 3) = v3 at *
        have S_v3 := Lib.hid ((al.block _ (lt_row S_v2.out)).trans S_v2.out)
        have B_v3 := Lib.hid (B_v2.out.trans (al.mono Q_v2.out))
        have Q_v3 := Lib.hid (Nat.le_trans Q_v2.out al.size)
        have RB_v3 := Lib.hid hl
        clear hl al
        refine hK.out _ _ S_v3.out (fun _ => ?_)
        clear hK K
        try simp only [Act.put, List.setIfInBounds_toArray, List.set_cons_zero, List.set_cons_succ]
        refine wpAnyH_ready (rs := [6]) (by kernel_rfl) (by simp) ?_
        refine AllReadyH.cons (i := 6) rfl (fun K hK => ?_) AllReadyH.nil
        · rw [if_pos (by rfl)]
          go_simp
          have hl : ∀ (i : Nat) (hi : i < ([S] : List Int).length), 0 ≤ ([S] : List Int)[i] ∧ ([S] : List Int)[i] ≤ MX := fun i hi => by
              match i, hi with
              | 0, _ => exact BND.out.1
          have pn := put_nums [S] hl (by simp) _ v3 RB_v3.out
          clear hl
          go_at_call 18
          refine pn.mono ?_
          rintro e v4 ⟨rfl, hb6⟩
          dsimp only
          have S_v4 := Lib.hid ((hb6.block _ (lt_row S_v3.out)).trans S_v3.out)
          have B_v4 := Lib.hid (B_v3.out.trans (hb6.mono Q_v3.out))
          have Q_v4 := Lib.hid (Nat.le_trans Q_v3.out hb6.size)
          clear pn hb6
          rw [HNS.out]
          refine hK.out _ _ S_v4.out (fun _ => ?_)
          clear hK K
          try simp only [Act.put, List.setIfInBounds_toArray, List.set_cons_zero, List.set_cons_succ]
          refine wpAnyH_take (i := 7) (oi := ⟨some 154, _, _, _, _, _⟩) (v := .string (BC ++ NS)) rfl (by kernel_rfl) (by kernel_rfl) (by kernel_rfl) (fun _ _ _ h => h) (Or.inl ⟨by rfl, fun w' hSw => ?_⟩) S_v4.out ?_
          · clear hSw
            go_simp
          try simp only [Act.put, List.setIfInBounds_toArray, List.set_cons_zero, List.set_cons_succ]
          refine wpAnyH_take (i := 9) (oi := ⟨some 156, _, _, _, _, _⟩) (v := .string (BC ++ NS ++ (⟨#[]⟩ : ByteArray))) rfl (by kernel_rfl) (by kernel_rfl) (by kernel_rfl) (fun _ _ _ h => h) (Or.inl ⟨by rfl, fun w' hSw => ?_⟩) S_v4.out ?_
          · clear hSw
            go_simp
          try simp only [Act.put, List.setIfInBounds_toArray, List.set_cons_zero, List.set_cons_succ]
          refine wpAnyH_take (i := 11) (oi := ⟨some 158, _, _, _, _, _⟩) (v := .string (BC ++ NS ++ (⟨#[]⟩ : ByteArray) ++ TT)) rfl (by kernel_rfl) (by kernel_rfl) (by kernel_rfl) (fun _ _ _ h => h) (Or.inl ⟨by rfl, fun w' hSw => ?_⟩) S_v4.out ?_
          · clear hSw
            go_simp
          try simp only [Act.put, List.setIfInBounds_toArray, List.set_cons_zero, List.set_cons_succ]
          refine wpAnyH_take (i := 12) (oi := ⟨some 2, _, _, _, _, _⟩) (v := .string (BC ++ NS ++ (⟨#[]⟩ : ByteArray) ++ TT)) rfl (by kernel_rfl) (by kernel_rfl) (by kernel_rfl) (fun _ _ _ h => h) (Or.inl ⟨by rfl, fun w' hSw => ?_⟩) S_v4.out ?_
          · clear hSw
            go_simp
          try simp only [Act.put, List.setIfInBounds_toArray, List.set_cons_zero, List.set_cons_succ]
          refine wpAnyH_take (i := 13) (oi := ⟨some 3, _, _, _, _, _⟩) (v := .int .i64 0) rfl (by kernel_rfl) (by kernel_rfl) (by kernel_rfl) (fun _ _ _ h => h) (Or.inl ⟨by rfl, fun w' hSw => ?_⟩) S_v4.out ?_
          · clear hSw
            go_simp
          try simp only [Act.put, List.setIfInBounds_toArray, List.set_cons_zero, List.set_cons_succ]
          refine wpAnyH_done (by kernel_rfl) ?_ _
          go_wp2_with fail
          go_ret2
          exact ⟨ret_str RES.out, by rw [HQ.out]; exact B_v4.out⟩
    · rw [if_pos (by rfl)]
      go_simp
      have hl : (v1.alloc (.cells #[.int .i64 S] 3)).heap[v1.heap.size]? = some (.cells #[.int .i64 S] 3 (0, 0)) := heap_alloc_last v1 (.cells #[.int .i64 S] 3)
      have al := (Below.refl v1.heap.size v1).alloc (Nat.le_refl _) (.cells #[.int .i64 S] 3)
      generalize v1.alloc (.cells #[.int .i64 S] 3) = v5 at *
      have S_v5 := Lib.hid ((al.block _ (lt_row S_v1.out)).trans S_v1.out)
      have B_v5 := Lib.hid (B_v1.out.trans (al.mono Q_v1.out))
      have Q_v5 := Lib.hid (Nat.le_trans Q_v1.out al.size)
      have RA_v5 := Lib.hid ((al.block _ (lt_row RA_v1.out)).trans RA_v1.out)
      have RB_v5 := Lib.hid hl
      clear hl al
      refine hK.out _ _ S_v5.out (fun _ => ?_)
      clear hK K
      try simp only [Act.put, List.setIfInBounds_toArray, List.set_cons_zero, List.set_cons_succ]
      refine wpAnyH_ready (rs := [2]) (by kernel_rfl) (by simp) ?_
      refine AllReadyH.cons (i := 2) rfl (fun K hK => ?_) AllReadyH.nil
      · rw [if_pos (by rfl)]
        go_simp
        have hl : ∀ (i : Nat) (hi : i < ([11] : List Int).length), 0 ≤ ([11] : List Int)[i] ∧ ([11] : List Int)[i] ≤ MX := fun i hi => by
            match i, hi with
            | 0, _ => exact ⟨by show (0 : Int) ≤ 11; omega, by unfold MX; show (11 : Int) ≤ _; omega⟩
        have pn := put_nums [11] hl (by simp) _ v5 RA_v5.out
        clear hl
        go_at_call 18
        refine pn.mono ?_
        rintro e v6 ⟨rfl, hb6⟩
        dsimp only
        have S_v6 := Lib.hid ((hb6.block _ (lt_row S_v5.out)).trans S_v5.out)
        have B_v6 := Lib.hid (B_v5.out.trans (hb6.mono Q_v5.out))
        have Q_v6 := Lib.hid (Nat.le_trans Q_v5.out hb6.size)
        have RB_v6 := Lib.hid ((hb6.block _ (lt_row RB_v5.out)).trans RB_v5.out)
        clear pn hb6
        rw [HNC.out]
        refine hK.out _ _ S_v6.out (fun _ => ?_)
        clear hK K
        try simp only [Act.put, List.setIfInBounds_toArray, List.set_cons_zero, List.set_cons_succ]
        refine wpAnyH_ready (rs := [6]) (by kernel_rfl) (by simp) ?_
        refine AllReadyH.cons (i := 6) rfl (fun K hK => ?_) AllReadyH.nil
        · rw [if_pos (by rfl)]
          go_simp
          have hl : ∀ (i : Nat) (hi : i < ([S] : List Int).length), 0 ≤ ([S] : List Int)[i] ∧ ([S] : List Int)[i] ≤ MX := fun i hi => by
              match i, hi with
              | 0, _ => exact BND.out.1
          have pn := put_nums [S] hl (by simp) _ v6 RB_v6.out
          clear hl
          go_at_call 18
          refine pn.mono ?_
          rintro e v7 ⟨rfl, hb6⟩
          dsimp only
          have S_v7 := Lib.hid ((hb6.block _ (lt_row S_v6.out)).trans S_v6.out)
          have B_v7 := Lib.hid (B_v6.out.trans (hb6.mono Q_v6.out))
          have Q_v7 := Lib.hid (Nat.le_trans Q_v6.out hb6.size)
          clear pn hb6
          rw [HNS.out]
          refine hK.out _ _ S_v7.out (fun _ => ?_)
          clear hK K
          try simp only [Act.put, List.setIfInBounds_toArray, List.set_cons_zero, List.set_cons_succ]
          refine wpAnyH_take (i := 7) (oi := ⟨some 154, _, _, _, _, _⟩) (v := .string (BC ++ NS)) rfl (by kernel_rfl) (by kernel_rfl) (by kernel_rfl) (fun _ _ _ h => h) (Or.inl ⟨by rfl, fun w' hSw => ?_⟩) S_v7.out ?_
          · clear hSw
            go_simp
          try simp only [Act.put, List.setIfInBounds_toArray, List.set_cons_zero, List.set_cons_succ]
          refine wpAnyH_take (i := 9) (oi := ⟨some 156, _, _, _, _, _⟩) (v := .string (BC ++ NS ++ (⟨#[]⟩ : ByteArray))) rfl (by kernel_rfl) (by kernel_rfl) (by kernel_rfl) (fun _ _ _ h => h) (Or.inl ⟨by rfl, fun w' hSw => ?_⟩) S_v7.out ?_
          · clear hSw
            go_simp
          try simp only [Act.put, List.setIfInBounds_toArray, List.set_cons_zero, List.set_cons_succ]
          refine wpAnyH_take (i := 11) (oi := ⟨some 158, _, _, _, _, _⟩) (v := .string (BC ++ NS ++ (⟨#[]⟩ : ByteArray) ++ TT)) rfl (by kernel_rfl) (by kernel_rfl) (by kernel_rfl) (fun _ _ _ h => h) (Or.inl ⟨by rfl, fun w' hSw => ?_⟩) S_v7.out ?_
          · clear hSw
            go_simp
          try simp only [Act.put, List.setIfInBounds_toArray, List.set_cons_zero, List.set_cons_succ]
          refine wpAnyH_take (i := 12) (oi := ⟨some 2, _, _, _, _, _⟩) (v := .string (BC ++ NS ++ (⟨#[]⟩ : ByteArray) ++ TT)) rfl (by kernel_rfl) (by kernel_rfl) (by kernel_rfl) (fun _ _ _ h => h) (Or.inl ⟨by rfl, fun w' hSw => ?_⟩) S_v7.out ?_
          · clear hSw
            go_simp
          try simp only [Act.put, List.setIfInBounds_toArray, List.set_cons_zero, List.set_cons_succ]
          refine wpAnyH_take (i := 13) (oi := ⟨some 3, _, _, _, _, _⟩) (v := .int .i64 0) rfl (by kernel_rfl) (by kernel_rfl) (by kernel_rfl) (fun _ _ _ h => h) (Or.inl ⟨by rfl, fun w' hSw => ?_⟩) S_v7.out ?_
          · clear hSw
            go_simp
          try simp only [Act.put, List.setIfInBounds_toArray, List.set_cons_zero, List.set_cons_succ]
          refine wpAnyH_done (by kernel_rfl) ?_ _
          go_wp2_with fail
          go_ret2
          exact ⟨ret_str RES.out, by rw [HQ.out]; exact B_v7.out⟩
  · rw [if_pos (by rfl)]
    go_simp
    have hl : (v0.alloc (.cells #[.int .i64 S] 3)).heap[v0.heap.size]? = some (.cells #[.int .i64 S] 3 (0, 0)) := heap_alloc_last v0 (.cells #[.int .i64 S] 3)
    have al := (Below.refl v0.heap.size v0).alloc (Nat.le_refl _) (.cells #[.int .i64 S] 3)
    generalize v0.alloc (.cells #[.int .i64 S] 3) = v8 at *
    have S_v8 := Lib.hid ((al.block _ (lt_row S_v0.out)).trans S_v0.out)
    have B_v8 := Lib.hid (B_v0.out.trans (al.mono Q_v0.out))
    have Q_v8 := Lib.hid (Nat.le_trans Q_v0.out al.size)
    have RB_v8 := Lib.hid hl
    clear hl al
    refine hK.out _ _ S_v8.out (fun _ => ?_)
    clear hK K
    try simp only [Act.put, List.setIfInBounds_toArray, List.set_cons_zero, List.set_cons_succ]
    refine wpAnyH_ready (rs := [1]) (by kernel_rfl) (by simp) ?_
    refine AllReadyH.cons (i := 1) rfl (fun K hK => ?_) AllReadyH.nil
    · rw [if_pos (by rfl)]
      go_simp
      have hl : (v8.alloc (.cells #[.int .i64 11] 3)).heap[v8.heap.size]? = some (.cells #[.int .i64 11] 3 (0, 0)) := heap_alloc_last v8 (.cells #[.int .i64 11] 3)
      have al := (Below.refl v8.heap.size v8).alloc (Nat.le_refl _) (.cells #[.int .i64 11] 3)
      generalize v8.alloc (.cells #[.int .i64 11] 3) = v9 at *
      have S_v9 := Lib.hid ((al.block _ (lt_row S_v8.out)).trans S_v8.out)
      have B_v9 := Lib.hid (B_v8.out.trans (al.mono Q_v8.out))
      have Q_v9 := Lib.hid (Nat.le_trans Q_v8.out al.size)
      have RB_v9 := Lib.hid ((al.block _ (lt_row RB_v8.out)).trans RB_v8.out)
      have RA_v9 := Lib.hid hl
      clear hl al
      refine hK.out _ _ S_v9.out (fun _ => ?_)
      clear hK K
      try simp only [Act.put, List.setIfInBounds_toArray, List.set_cons_zero, List.set_cons_succ]
      refine wpAnyH_ready (rs := [2]) (by kernel_rfl) (by simp) ?_
      refine AllReadyH.cons (i := 2) rfl (fun K hK => ?_) AllReadyH.nil
      · rw [if_pos (by rfl)]
        go_simp
        have hl : ∀ (i : Nat) (hi : i < ([11] : List Int).length), 0 ≤ ([11] : List Int)[i] ∧ ([11] : List Int)[i] ≤ MX := fun i hi => by
            match i, hi with
            | 0, _ => exact ⟨by show (0 : Int) ≤ 11; omega, by unfold MX; show (11 : Int) ≤ _; omega⟩
        have pn := put_nums [11] hl (by simp) _ v9 RA_v9.out
        clear hl
        go_at_call 18
        refine pn.mono ?_
        rintro e v10 ⟨rfl, hb6⟩
        dsimp only
        have S_v10 := Lib.hid ((hb6.block _ (lt_row S_v9.out)).trans S_v9.out)
        have B_v10 := Lib.hid (B_v9.out.trans (hb6.mono Q_v9.out))
        have Q_v10 := Lib.hid (Nat.le_trans Q_v9.out hb6.size)
        have RB_v10 := Lib.hid ((hb6.block _ (lt_row RB_v9.out)).trans RB_v9.out)
        clear pn hb6
        rw [HNC.out]
        refine hK.out _ _ S_v10.out (fun _ => ?_)
        clear hK K
        try simp only [Act.put, List.setIfInBounds_toArray, List.set_cons_zero, List.set_cons_succ]
        refine wpAnyH_ready (rs := [6]) (by kernel_rfl) (by simp) ?_
        refine AllReadyH.cons (i := 6) rfl (fun K hK => ?_) AllReadyH.nil
        · rw [if_pos (by rfl)]
          go_simp
          have hl : ∀ (i : Nat) (hi : i < ([S] : List Int).length), 0 ≤ ([S] : List Int)[i] ∧ ([S] : List Int)[i] ≤ MX := fun i hi => by
              match i, hi with
              | 0, _ => exact BND.out.1
          have pn := put_nums [S] hl (by simp) _ v10 RB_v10.out
          clear hl
          go_at_call 18
          refine pn.mono ?_
          rintro e v11 ⟨rfl, hb6⟩
          dsimp only
          have S_v11 := Lib.hid ((hb6.block _ (lt_row S_v10.out)).trans S_v10.out)
          have B_v11 := Lib.hid (B_v10.out.trans (hb6.mono Q_v10.out))
          have Q_v11 := Lib.hid (Nat.le_trans Q_v10.out hb6.size)
          clear pn hb6
          rw [HNS.out]
          refine hK.out _ _ S_v11.out (fun _ => ?_)
          clear hK K
          try simp only [Act.put, List.setIfInBounds_toArray, List.set_cons_zero, List.set_cons_succ]
          refine wpAnyH_take (i := 7) (oi := ⟨some 154, _, _, _, _, _⟩) (v := .string (BC ++ NS)) rfl (by kernel_rfl) (by kernel_rfl) (by kernel_rfl) (fun _ _ _ h => h) (Or.inl ⟨by rfl, fun w' hSw => ?_⟩) S_v11.out ?_
          · clear hSw
            go_simp
          try simp only [Act.put, List.setIfInBounds_toArray, List.set_cons_zero, List.set_cons_succ]
          refine wpAnyH_take (i := 9) (oi := ⟨some 156, _, _, _, _, _⟩) (v := .string (BC ++ NS ++ (⟨#[]⟩ : ByteArray))) rfl (by kernel_rfl) (by kernel_rfl) (by kernel_rfl) (fun _ _ _ h => h) (Or.inl ⟨by rfl, fun w' hSw => ?_⟩) S_v11.out ?_
          · clear hSw
            go_simp
          try simp only [Act.put, List.setIfInBounds_toArray, List.set_cons_zero, List.set_cons_succ]
          refine wpAnyH_take (i := 11) (oi := ⟨some 158, _, _, _, _, _⟩) (v := .string (BC ++ NS ++ (⟨#[]⟩ : ByteArray) ++ TT)) rfl (by kernel_rfl) (by kernel_rfl) (by kernel_rfl) (fun _ _ _ h => h) (Or.inl ⟨by rfl, fun w' hSw => ?_⟩) S_v11.out ?_
          · clear hSw
            go_simp
          try simp only [Act.put, List.setIfInBounds_toArray, List.set_cons_zero, List.set_cons_succ]
          refine wpAnyH_take (i := 12) (oi := ⟨some 2, _, _, _, _, _⟩) (v := .string (BC ++ NS ++ (⟨#[]⟩ : ByteArray) ++ TT)) rfl (by kernel_rfl) (by kernel_rfl) (by kernel_rfl) (fun _ _ _ h => h) (Or.inl ⟨by rfl, fun w' hSw => ?_⟩) S_v11.out ?_
          · clear hSw
            go_simp
          try simp only [Act.put, List.setIfInBounds_toArray, List.set_cons_zero, List.set_cons_succ]
          refine wpAnyH_take (i := 13) (oi := ⟨some 3, _, _, _, _, _⟩) (v := .int .i64 0) rfl (by kernel_rfl) (by kernel_rfl) (by kernel_rfl) (fun _ _ _ h => h) (Or.inl ⟨by rfl, fun w' hSw => ?_⟩) S_v11.out ?_
          · clear hSw
            go_simp
          try simp only [Act.put, List.setIfInBounds_toArray, List.set_cons_zero, List.set_cons_succ]
          refine wpAnyH_done (by kernel_rfl) ?_ _
          go_wp2_with fail
          go_ret2
          exact ⟨ret_str RES.out, by rw [HQ.out]; exact B_v11.out⟩
set_option maxHeartbeats 16000000 in
theorem docPut_8_14 (S O N C : Int) (D X : ByteArray) (A : List (Int × Int)) (u : Value) (w : World) (hO : 0 < O) (hu : SpansIn w u A) (hDm : D.size ≤ maxLen) (hXm : X.size ≤ maxLen) (SS : ByteArray) (hp : putF ⟨8, S, O, N, C, false, D, X, A⟩ = some SS) :
    Calls Tryd.prog 7 #[.agg (frC 8 S O N C false D X u)] w fun e w' => e = .returned (.tuple #[.string SS, .int .i64 0]) ∧ Below w.heap.size w w' := by
  obtain ⟨a, c, rfl, _, _⟩ := hu.at_
  have RT := Lib.hid (fun (w' : World) (hb : Below w.heap.size w w') => (show Calls Tryd.prog 16 #[.agg (frC 8 S O N C false D X (.slice a A.length c))] w' fun e w'' => e = .returned (.bool true) ∧ Below w'.heap.size w' w'' from by
    have h := right_front 8 S O N C false D X A (.slice a A.length c) w' (hu.later hb) hDm hXm
    rw [hp] at h
    exact h))
  obtain ⟨⟨s1, s2⟩, ⟨o1, o2⟩, ⟨n1, n2⟩, ⟨c1, c2⟩, hd⟩ := okD_of hp
  dsimp only at s1 s2 o1 o2 n1 n2 c1 c2 hd
  have BND := Lib.hid (And.intro (And.intro s1 s2) (And.intro (And.intro o1 o2) (And.intro (And.intro n1 n2) (And.intro c1 c2))))
  have hS := put_bytes (k := 14) (ps := [0, 1, 4]) hp (by unfold firstF; simp [show ¬ O = 0 by omega]) rfl
  have HO := Lib.hid hO
  clear hO
  have TX := Lib.hid (fun (w' : World) => docText_at D w' hd)
  obtain ⟨d, hdd⟩ : ∃ d, D.size = d := ⟨_, rfl⟩
  rw [hdd] at TX hd
  have hT8 := text_size d D hdd
  have HDD := Lib.hid hdd
  obtain ⟨TT, hTT⟩ : ∃ T, numT (d : Int) ++ D = T := ⟨_, rfl⟩
  rw [hTT] at TX hT8
  have HTT := Lib.hid hTT
  obtain ⟨tz, htz⟩ : ∃ z, TT.size = z := ⟨_, rfl⟩
  rw [htz] at hT8
  obtain ⟨m, hm⟩ : ∃ m, A.length = m := ⟨_, rfl⟩
  rw [hm] at RT ⊢
  have HS := Lib.hid hS
  obtain ⟨BK, hBK⟩ : ∃ b, byteT 8 = b := ⟨_, rfl⟩
  have hBz : BK.size = 1 := by rw [← hBK]; exact strOf_size _ _
  have HBK := Lib.hid hBK
  clear hp hS hTT hdd s1 s2 o1 o2 n1 n2 c1 c2 hu hDm hXm hm hBK
  unfold frC at RT ⊢
  have row := heap_alloc_last w (.cells #[.int .i64 8, .int .i64 S, .int .i64 O, .int .i64 N, .int .i64 C, .bool false, .string D, .string X, .slice a m c] 24)
  have bel := (Below.refl w.heap.size w).alloc (Nat.le_refl _) (.cells #[.int .i64 8, .int .i64 S, .int .i64 O, .int .i64 N, .int .i64 C, .bool false, .string D, .string X, .slice a m c] 24)
  go_enter Tryd.func7, Tryd.ntmps7
  go_upto_region 1 with (fail)
  generalize w.alloc _ = wa at *
  generalize hq : w.heap.size = q at *
  have HQ := Lib.hid hq
  have ROW := Lib.hid row
  have B := Lib.hid bel
  obtain ⟨c0, c1', c2', c3, c4, c5, c6, c7, c8⟩ := cells9 row
  clear row bel hq
  go_wp2_with fail
  with_reducible refine (RT.out wa B.out).mono ?_
  rintro e w2 ⟨rfl, hb2⟩
  have R2 := Lib.hid ((hb2.block _ (lt_row ROW.out)).trans ROW.out)
  have B2 := Lib.hid (show Below q w w2 from B.out.trans (hb2.mono (by rw [← HQ.out]; exact B.out.size)))
  clear hb2 RT c0 c1' c2' c3 c4 c5 c6 c7 c8 ROW
  obtain ⟨c0, c1', c2', c3, c4, c5, c6, c7, c8⟩ := cells9 R2.out
  go_wp2_with fail
  with_reducible refine (TX.out w2).mono ?_
  rintro e w3 ⟨rfl, hb3⟩
  have QS := Lib.hid (show q ≤ w2.heap.size by rw [← HQ.out]; exact B2.out.size)
  have R3 := Lib.hid ((hb3.block _ (lt_row R2.out)).trans R2.out)
  have B3 := Lib.hid (B2.out.trans (hb3.mono QS.out))
  have QS3 := Lib.hid (Nat.le_trans QS.out hb3.size)
  clear hb3 TX c0 c1' c2' c3 c4 c5 c6 c7 c8
  obtain ⟨c0, c1', c2', c3, c4, c5, c6, c7, c8⟩ := cells9 R3.out
  have ck := conv_kind 8 (by decide) w3
  rw [show ((8 : Nat) : Int) = 8 from rfl, HBK.out] at ck
  have bel4 := (Below.refl w3.heap.size w3).alloc (Nat.le_refl _) (.cells #[.int .u8 8] 5)
  have R4 := Lib.hid ((bel4.block _ (lt_row R3.out)).trans R3.out)
  have B4 := Lib.hid (B3.out.trans (bel4.mono QS3.out))
  have QS4 := Lib.hid (Nat.le_trans QS3.out bel4.size)
  clear bel4
  go_upto_region 5 with (fail)
  clear ck c0 c1' c2' c3 c4 c5 c6 c7 c8
  generalize w3.alloc _ = w4 at *
  obtain ⟨c0, c1', c2', c3, c4, c5, c6, c7, c8⟩ := cells9 R4.out
  have hOp : 0 < O := HO.out
  have hl : ∀ (i : Nat) (hi : i < ([O] : List Int).length), 0 ≤ ([O] : List Int)[i] ∧ ([O] : List Int)[i] ≤ MX := fun i hi => by
      match i, hi with
      | 0, _ => exact BND.out.2.1

  have row5 := heap_alloc_last w4 (.cells #[.int .i64 O] 3)
  have bel5 := (Below.refl w4.heap.size w4).alloc (Nat.le_refl _) (.cells #[.int .i64 O] 3)
  have PN := Lib.hid (put_nums [O] hl (by simp) w4.heap.size (w4.alloc (.cells #[.int .i64 O] 3)) row5)
  have hz5 : (numsT [O]).size ≤ 8 := numsT_size [O]
  have R5 := Lib.hid ((bel5.block _ (lt_row R4.out)).trans R4.out)
  have B5 := Lib.hid (B4.out.trans (bel5.mono QS4.out))
  have QS5 := Lib.hid (Nat.le_trans QS4.out bel5.size)
  obtain ⟨NX, hNX⟩ : ∃ T, numsT [O] = T := ⟨_, rfl⟩
  rw [hNX] at hz5 PN
  have HNX := Lib.hid hNX
  obtain ⟨nz, hnz⟩ : ∃ z, NX.size = z := ⟨_, rfl⟩
  rw [hnz] at hz5
  clear hl row5 bel5 hNX
  go_wp2_with fail
  refine PN.out.mono ?_
  rintro e w6 ⟨rfl, hb6⟩
  have R6 := Lib.hid ((hb6.block _ (lt_row R5.out)).trans R5.out)
  have B6 := Lib.hid (B5.out.trans (hb6.mono QS5.out))
  have QS6 := Lib.hid (Nat.le_trans QS5.out hb6.size)
  clear hb6 PN c0 c1' c2' c3 c4 c5 c6 c7 c8
  obtain ⟨c0, c1', c2', c3, c4, c5, c6, c7, c8⟩ := cells9 R6.out
  obtain ⟨BC, hBC⟩ : ∃ b, byteT 14 = b := ⟨_, rfl⟩
  have hbc1 : BC.size = 1 := by rw [← hBC]; exact strOf_size _ _
  obtain ⟨cz, hcz⟩ : ∃ z, BC.size = z := ⟨_, rfl⟩
  have hc1 : cz ≤ 1 := by omega
  have HBC := Lib.hid hBC
  have HNC := Lib.hid (show numsT [14] = BC from by rw [numsT_one, numT_14, hBC])
  obtain ⟨NS, hNS⟩ : ∃ T, numsT [S] = T := ⟨_, rfl⟩
  have hs8 : (numsT [S]).size ≤ 8 := numsT_size [S]
  rw [hNS] at hs8
  have HNS := Lib.hid hNS
  obtain ⟨sz, hsz⟩ : ∃ z, NS.size = z := ⟨_, rfl⟩
  rw [hsz] at hs8
  have q1 : ¬ 9223372036854775807 < cz + sz := by omega
  have q2 : ¬ 9223372036854775807 < cz + sz + nz := by omega
  have q3 : ¬ 9223372036854775807 < cz + sz + nz + tz := by omega
  have RES := Lib.hid (show SS = BC ++ NS ++ NX ++ TT from by
    rw [HS.out, HBC.out, ← HNS.out, ← HNX.out, ← HTT.out, ← HDD.out]
    show BC ++ (numT S ++ (numT O ++ (((numT (D.size : Int) ++ D) ++ (⟨#[]⟩ : ByteArray))))) = BC ++ numsT [S] ++ numsT [O] ++ (numT (D.size : Int) ++ D)
    simp only [numsT, app_nil, ByteArray.append_assoc])
  clear hbc1 hBC hNS
  go_upto_region 32 with (fail)
  have S_v0 : Hid (w6.drew.heap[q]? = some (.cells #[.int .i64 8, .int .i64 S, .int .i64 O, .int .i64 N, .int .i64 C, .bool false, .string D, .string X, .slice a m c] 24 (0, 0))) := Lib.hid R6.out
  have B_v0 := Lib.hid B6.out.drew
  have Q_v0 := Lib.hid (show q ≤ w6.drew.heap.size from QS6.out)
  clear c0 c1' c2' c3 c4 c5 c6 c7 c8
  refine wp_region_held_drew (S := fun w' : World => w'.heap[q]? = some (.cells #[.int .i64 8, .int .i64 S, .int .i64 O, .int .i64 N, .int .i64 C, .bool false, .string D, .string X, .slice a m c] 24 (0, 0))) mixedOrders S_v0.out (fun hHeld => ?_)
  clear hHeld
  generalize w6.drew = v0 at *
  refine wpAnyH_take (i := 0) (oi := ⟨some 147, _, _, _, _, _⟩) (v := .int .i64 14) rfl (by kernel_rfl) (by kernel_rfl) (by kernel_rfl) (fun _ _ _ h => h) (Or.inl ⟨by rfl, fun w' hSw => ?_⟩) S_v0.out ?_
  · clear hSw
    go_simp
  try simp only [Act.put, List.setIfInBounds_toArray, List.set_cons_zero, List.set_cons_succ]
  refine wpAnyH_take (i := 3) (oi := ⟨some 150, _, _, _, _, _⟩) (v := .pointer (some ⟨q, 1, none⟩)) rfl (by kernel_rfl) (by kernel_rfl) (by kernel_rfl) (fun _ _ _ h => h) (Or.inl ⟨by rfl, fun w' hSw => ?_⟩) S_v0.out ?_
  · clear hSw
    go_simp
  try simp only [Act.put, List.setIfInBounds_toArray, List.set_cons_zero, List.set_cons_succ]
  refine wpAnyH_take (i := 4) (oi := ⟨some 151, _, _, _, _, _⟩) (v := .int .i64 S) rfl (by kernel_rfl) (by kernel_rfl) (by kernel_rfl) (fun _ _ _ h => h) (Or.inl ⟨by rfl, fun w' hSw => ?_⟩) S_v0.out ?_
  · obtain ⟨s0, s1, s2, s3, s4, s5, s6, s7, s8⟩ := cells9 hSw
    go_simp
  try simp only [Act.put, List.setIfInBounds_toArray, List.set_cons_zero, List.set_cons_succ]
  refine wpAnyH_take (i := 8) (oi := ⟨some 155, _, _, _, _, _⟩) (v := .string NX) rfl (by kernel_rfl) (by kernel_rfl) (by kernel_rfl) (fun _ _ _ h => h) (Or.inl ⟨by rfl, fun w' hSw => ?_⟩) S_v0.out ?_
  · clear hSw
    go_simp
  try simp only [Act.put, List.setIfInBounds_toArray, List.set_cons_zero, List.set_cons_succ]
  refine wpAnyH_take (i := 10) (oi := ⟨some 157, _, _, _, _, _⟩) (v := .string TT) rfl (by kernel_rfl) (by kernel_rfl) (by kernel_rfl) (fun _ _ _ h => h) (Or.inl ⟨by rfl, fun w' hSw => ?_⟩) S_v0.out ?_
  · clear hSw
    go_simp
  try simp only [Act.put, List.setIfInBounds_toArray, List.set_cons_zero, List.set_cons_succ]
  refine wpAnyH_ready (rs := [1, 5]) (by kernel_rfl) (by simp) ?_
  refine AllReadyH.cons (i := 1) rfl (fun K hK => ?_) (AllReadyH.cons (i := 5) rfl (fun K hK => ?_) AllReadyH.nil)
  · rw [if_pos (by rfl)]
    go_simp
    have hl : (v0.alloc (.cells #[.int .i64 14] 3)).heap[v0.heap.size]? = some (.cells #[.int .i64 14] 3 (0, 0)) := heap_alloc_last v0 (.cells #[.int .i64 14] 3)
    have al := (Below.refl v0.heap.size v0).alloc (Nat.le_refl _) (.cells #[.int .i64 14] 3)
    generalize v0.alloc (.cells #[.int .i64 14] 3) = v1 at *
    have S_v1 := Lib.hid ((al.block _ (lt_row S_v0.out)).trans S_v0.out)
    have B_v1 := Lib.hid (B_v0.out.trans (al.mono Q_v0.out))
    have Q_v1 := Lib.hid (Nat.le_trans Q_v0.out al.size)
    have RA_v1 := Lib.hid hl
    clear hl al
    refine hK.out _ _ S_v1.out (fun _ => ?_)
    clear hK K
    try simp only [Act.put, List.setIfInBounds_toArray, List.set_cons_zero, List.set_cons_succ]
    refine wpAnyH_ready (rs := [2, 5]) (by kernel_rfl) (by simp) ?_
    refine AllReadyH.cons (i := 2) rfl (fun K hK => ?_) (AllReadyH.cons (i := 5) rfl (fun K hK => ?_) AllReadyH.nil)
    · rw [if_pos (by rfl)]
      go_simp
      have hl : ∀ (i : Nat) (hi : i < ([14] : List Int).length), 0 ≤ ([14] : List Int)[i] ∧ ([14] : List Int)[i] ≤ MX := fun i hi => by
          match i, hi with
          | 0, _ => exact ⟨by show (0 : Int) ≤ 14; omega, by unfold MX; show (14 : Int) ≤ _; omega⟩
      have pn := put_nums [14] hl (by simp) _ v1 RA_v1.out
      clear hl
      go_at_call 18
      refine pn.mono ?_
      rintro e v2 ⟨rfl, hb6⟩
      dsimp only
      have S_v2 := Lib.hid ((hb6.block _ (lt_row S_v1.out)).trans S_v1.out)
      have B_v2 := Lib.hid (B_v1.out.trans (hb6.mono Q_v1.out))
      have Q_v2 := Lib.hid (Nat.le_trans Q_v1.out hb6.size)
      clear pn hb6
      rw [HNC.out]
      refine hK.out _ _ S_v2.out (fun _ => ?_)
      clear hK K
      try simp only [Act.put, List.setIfInBounds_toArray, List.set_cons_zero, List.set_cons_succ]
      refine wpAnyH_ready (rs := [5]) (by kernel_rfl) (by simp) ?_
      refine AllReadyH.cons (i := 5) rfl (fun K hK => ?_) AllReadyH.nil
      · rw [if_pos (by rfl)]
        go_simp
        have hl : (v2.alloc (.cells #[.int .i64 S] 3)).heap[v2.heap.size]? = some (.cells #[.int .i64 S] 3 (0, 0)) := heap_alloc_last v2 (.cells #[.int .i64 S] 3)
        have al := (Below.refl v2.heap.size v2).alloc (Nat.le_refl _) (.cells #[.int .i64 S] 3)
        generalize v2.alloc (.cells #[.int .i64 S] 3) = v3 at *
        have S_v3 := Lib.hid ((al.block _ (lt_row S_v2.out)).trans S_v2.out)
        have B_v3 := Lib.hid (B_v2.out.trans (al.mono Q_v2.out))
        have Q_v3 := Lib.hid (Nat.le_trans Q_v2.out al.size)
        have RB_v3 := Lib.hid hl
        clear hl al
        refine hK.out _ _ S_v3.out (fun _ => ?_)
        clear hK K
        try simp only [Act.put, List.setIfInBounds_toArray, List.set_cons_zero, List.set_cons_succ]
        refine wpAnyH_ready (rs := [6]) (by kernel_rfl) (by simp) ?_
        refine AllReadyH.cons (i := 6) rfl (fun K hK => ?_) AllReadyH.nil
        · rw [if_pos (by rfl)]
          go_simp
          have hl : ∀ (i : Nat) (hi : i < ([S] : List Int).length), 0 ≤ ([S] : List Int)[i] ∧ ([S] : List Int)[i] ≤ MX := fun i hi => by
              match i, hi with
              | 0, _ => exact BND.out.1
          have pn := put_nums [S] hl (by simp) _ v3 RB_v3.out
          clear hl
          go_at_call 18
          refine pn.mono ?_
          rintro e v4 ⟨rfl, hb6⟩
          dsimp only
          have S_v4 := Lib.hid ((hb6.block _ (lt_row S_v3.out)).trans S_v3.out)
          have B_v4 := Lib.hid (B_v3.out.trans (hb6.mono Q_v3.out))
          have Q_v4 := Lib.hid (Nat.le_trans Q_v3.out hb6.size)
          clear pn hb6
          rw [HNS.out]
          refine hK.out _ _ S_v4.out (fun _ => ?_)
          clear hK K
          try simp only [Act.put, List.setIfInBounds_toArray, List.set_cons_zero, List.set_cons_succ]
          refine wpAnyH_take (i := 7) (oi := ⟨some 154, _, _, _, _, _⟩) (v := .string (BC ++ NS)) rfl (by kernel_rfl) (by kernel_rfl) (by kernel_rfl) (fun _ _ _ h => h) (Or.inl ⟨by rfl, fun w' hSw => ?_⟩) S_v4.out ?_
          · clear hSw
            go_simp
          try simp only [Act.put, List.setIfInBounds_toArray, List.set_cons_zero, List.set_cons_succ]
          refine wpAnyH_take (i := 9) (oi := ⟨some 156, _, _, _, _, _⟩) (v := .string (BC ++ NS ++ NX)) rfl (by kernel_rfl) (by kernel_rfl) (by kernel_rfl) (fun _ _ _ h => h) (Or.inl ⟨by rfl, fun w' hSw => ?_⟩) S_v4.out ?_
          · clear hSw
            go_simp
          try simp only [Act.put, List.setIfInBounds_toArray, List.set_cons_zero, List.set_cons_succ]
          refine wpAnyH_take (i := 11) (oi := ⟨some 158, _, _, _, _, _⟩) (v := .string (BC ++ NS ++ NX ++ TT)) rfl (by kernel_rfl) (by kernel_rfl) (by kernel_rfl) (fun _ _ _ h => h) (Or.inl ⟨by rfl, fun w' hSw => ?_⟩) S_v4.out ?_
          · clear hSw
            go_simp
          try simp only [Act.put, List.setIfInBounds_toArray, List.set_cons_zero, List.set_cons_succ]
          refine wpAnyH_take (i := 12) (oi := ⟨some 2, _, _, _, _, _⟩) (v := .string (BC ++ NS ++ NX ++ TT)) rfl (by kernel_rfl) (by kernel_rfl) (by kernel_rfl) (fun _ _ _ h => h) (Or.inl ⟨by rfl, fun w' hSw => ?_⟩) S_v4.out ?_
          · clear hSw
            go_simp
          try simp only [Act.put, List.setIfInBounds_toArray, List.set_cons_zero, List.set_cons_succ]
          refine wpAnyH_take (i := 13) (oi := ⟨some 3, _, _, _, _, _⟩) (v := .int .i64 0) rfl (by kernel_rfl) (by kernel_rfl) (by kernel_rfl) (fun _ _ _ h => h) (Or.inl ⟨by rfl, fun w' hSw => ?_⟩) S_v4.out ?_
          · clear hSw
            go_simp
          try simp only [Act.put, List.setIfInBounds_toArray, List.set_cons_zero, List.set_cons_succ]
          refine wpAnyH_done (by kernel_rfl) ?_ _
          go_wp2_with fail
          go_ret2
          exact ⟨ret_str RES.out, by rw [HQ.out]; exact B_v4.out⟩
    · rw [if_pos (by rfl)]
      go_simp
      have hl : (v1.alloc (.cells #[.int .i64 S] 3)).heap[v1.heap.size]? = some (.cells #[.int .i64 S] 3 (0, 0)) := heap_alloc_last v1 (.cells #[.int .i64 S] 3)
      have al := (Below.refl v1.heap.size v1).alloc (Nat.le_refl _) (.cells #[.int .i64 S] 3)
      generalize v1.alloc (.cells #[.int .i64 S] 3) = v5 at *
      have S_v5 := Lib.hid ((al.block _ (lt_row S_v1.out)).trans S_v1.out)
      have B_v5 := Lib.hid (B_v1.out.trans (al.mono Q_v1.out))
      have Q_v5 := Lib.hid (Nat.le_trans Q_v1.out al.size)
      have RA_v5 := Lib.hid ((al.block _ (lt_row RA_v1.out)).trans RA_v1.out)
      have RB_v5 := Lib.hid hl
      clear hl al
      refine hK.out _ _ S_v5.out (fun _ => ?_)
      clear hK K
      try simp only [Act.put, List.setIfInBounds_toArray, List.set_cons_zero, List.set_cons_succ]
      refine wpAnyH_ready (rs := [2]) (by kernel_rfl) (by simp) ?_
      refine AllReadyH.cons (i := 2) rfl (fun K hK => ?_) AllReadyH.nil
      · rw [if_pos (by rfl)]
        go_simp
        have hl : ∀ (i : Nat) (hi : i < ([14] : List Int).length), 0 ≤ ([14] : List Int)[i] ∧ ([14] : List Int)[i] ≤ MX := fun i hi => by
            match i, hi with
            | 0, _ => exact ⟨by show (0 : Int) ≤ 14; omega, by unfold MX; show (14 : Int) ≤ _; omega⟩
        have pn := put_nums [14] hl (by simp) _ v5 RA_v5.out
        clear hl
        go_at_call 18
        refine pn.mono ?_
        rintro e v6 ⟨rfl, hb6⟩
        dsimp only
        have S_v6 := Lib.hid ((hb6.block _ (lt_row S_v5.out)).trans S_v5.out)
        have B_v6 := Lib.hid (B_v5.out.trans (hb6.mono Q_v5.out))
        have Q_v6 := Lib.hid (Nat.le_trans Q_v5.out hb6.size)
        have RB_v6 := Lib.hid ((hb6.block _ (lt_row RB_v5.out)).trans RB_v5.out)
        clear pn hb6
        rw [HNC.out]
        refine hK.out _ _ S_v6.out (fun _ => ?_)
        clear hK K
        try simp only [Act.put, List.setIfInBounds_toArray, List.set_cons_zero, List.set_cons_succ]
        refine wpAnyH_ready (rs := [6]) (by kernel_rfl) (by simp) ?_
        refine AllReadyH.cons (i := 6) rfl (fun K hK => ?_) AllReadyH.nil
        · rw [if_pos (by rfl)]
          go_simp
          have hl : ∀ (i : Nat) (hi : i < ([S] : List Int).length), 0 ≤ ([S] : List Int)[i] ∧ ([S] : List Int)[i] ≤ MX := fun i hi => by
              match i, hi with
              | 0, _ => exact BND.out.1
          have pn := put_nums [S] hl (by simp) _ v6 RB_v6.out
          clear hl
          go_at_call 18
          refine pn.mono ?_
          rintro e v7 ⟨rfl, hb6⟩
          dsimp only
          have S_v7 := Lib.hid ((hb6.block _ (lt_row S_v6.out)).trans S_v6.out)
          have B_v7 := Lib.hid (B_v6.out.trans (hb6.mono Q_v6.out))
          have Q_v7 := Lib.hid (Nat.le_trans Q_v6.out hb6.size)
          clear pn hb6
          rw [HNS.out]
          refine hK.out _ _ S_v7.out (fun _ => ?_)
          clear hK K
          try simp only [Act.put, List.setIfInBounds_toArray, List.set_cons_zero, List.set_cons_succ]
          refine wpAnyH_take (i := 7) (oi := ⟨some 154, _, _, _, _, _⟩) (v := .string (BC ++ NS)) rfl (by kernel_rfl) (by kernel_rfl) (by kernel_rfl) (fun _ _ _ h => h) (Or.inl ⟨by rfl, fun w' hSw => ?_⟩) S_v7.out ?_
          · clear hSw
            go_simp
          try simp only [Act.put, List.setIfInBounds_toArray, List.set_cons_zero, List.set_cons_succ]
          refine wpAnyH_take (i := 9) (oi := ⟨some 156, _, _, _, _, _⟩) (v := .string (BC ++ NS ++ NX)) rfl (by kernel_rfl) (by kernel_rfl) (by kernel_rfl) (fun _ _ _ h => h) (Or.inl ⟨by rfl, fun w' hSw => ?_⟩) S_v7.out ?_
          · clear hSw
            go_simp
          try simp only [Act.put, List.setIfInBounds_toArray, List.set_cons_zero, List.set_cons_succ]
          refine wpAnyH_take (i := 11) (oi := ⟨some 158, _, _, _, _, _⟩) (v := .string (BC ++ NS ++ NX ++ TT)) rfl (by kernel_rfl) (by kernel_rfl) (by kernel_rfl) (fun _ _ _ h => h) (Or.inl ⟨by rfl, fun w' hSw => ?_⟩) S_v7.out ?_
          · clear hSw
            go_simp
          try simp only [Act.put, List.setIfInBounds_toArray, List.set_cons_zero, List.set_cons_succ]
          refine wpAnyH_take (i := 12) (oi := ⟨some 2, _, _, _, _, _⟩) (v := .string (BC ++ NS ++ NX ++ TT)) rfl (by kernel_rfl) (by kernel_rfl) (by kernel_rfl) (fun _ _ _ h => h) (Or.inl ⟨by rfl, fun w' hSw => ?_⟩) S_v7.out ?_
          · clear hSw
            go_simp
          try simp only [Act.put, List.setIfInBounds_toArray, List.set_cons_zero, List.set_cons_succ]
          refine wpAnyH_take (i := 13) (oi := ⟨some 3, _, _, _, _, _⟩) (v := .int .i64 0) rfl (by kernel_rfl) (by kernel_rfl) (by kernel_rfl) (fun _ _ _ h => h) (Or.inl ⟨by rfl, fun w' hSw => ?_⟩) S_v7.out ?_
          · clear hSw
            go_simp
          try simp only [Act.put, List.setIfInBounds_toArray, List.set_cons_zero, List.set_cons_succ]
          refine wpAnyH_done (by kernel_rfl) ?_ _
          go_wp2_with fail
          go_ret2
          exact ⟨ret_str RES.out, by rw [HQ.out]; exact B_v7.out⟩
  · rw [if_pos (by rfl)]
    go_simp
    have hl : (v0.alloc (.cells #[.int .i64 S] 3)).heap[v0.heap.size]? = some (.cells #[.int .i64 S] 3 (0, 0)) := heap_alloc_last v0 (.cells #[.int .i64 S] 3)
    have al := (Below.refl v0.heap.size v0).alloc (Nat.le_refl _) (.cells #[.int .i64 S] 3)
    generalize v0.alloc (.cells #[.int .i64 S] 3) = v8 at *
    have S_v8 := Lib.hid ((al.block _ (lt_row S_v0.out)).trans S_v0.out)
    have B_v8 := Lib.hid (B_v0.out.trans (al.mono Q_v0.out))
    have Q_v8 := Lib.hid (Nat.le_trans Q_v0.out al.size)
    have RB_v8 := Lib.hid hl
    clear hl al
    refine hK.out _ _ S_v8.out (fun _ => ?_)
    clear hK K
    try simp only [Act.put, List.setIfInBounds_toArray, List.set_cons_zero, List.set_cons_succ]
    refine wpAnyH_ready (rs := [1]) (by kernel_rfl) (by simp) ?_
    refine AllReadyH.cons (i := 1) rfl (fun K hK => ?_) AllReadyH.nil
    · rw [if_pos (by rfl)]
      go_simp
      have hl : (v8.alloc (.cells #[.int .i64 14] 3)).heap[v8.heap.size]? = some (.cells #[.int .i64 14] 3 (0, 0)) := heap_alloc_last v8 (.cells #[.int .i64 14] 3)
      have al := (Below.refl v8.heap.size v8).alloc (Nat.le_refl _) (.cells #[.int .i64 14] 3)
      generalize v8.alloc (.cells #[.int .i64 14] 3) = v9 at *
      have S_v9 := Lib.hid ((al.block _ (lt_row S_v8.out)).trans S_v8.out)
      have B_v9 := Lib.hid (B_v8.out.trans (al.mono Q_v8.out))
      have Q_v9 := Lib.hid (Nat.le_trans Q_v8.out al.size)
      have RB_v9 := Lib.hid ((al.block _ (lt_row RB_v8.out)).trans RB_v8.out)
      have RA_v9 := Lib.hid hl
      clear hl al
      refine hK.out _ _ S_v9.out (fun _ => ?_)
      clear hK K
      try simp only [Act.put, List.setIfInBounds_toArray, List.set_cons_zero, List.set_cons_succ]
      refine wpAnyH_ready (rs := [2]) (by kernel_rfl) (by simp) ?_
      refine AllReadyH.cons (i := 2) rfl (fun K hK => ?_) AllReadyH.nil
      · rw [if_pos (by rfl)]
        go_simp
        have hl : ∀ (i : Nat) (hi : i < ([14] : List Int).length), 0 ≤ ([14] : List Int)[i] ∧ ([14] : List Int)[i] ≤ MX := fun i hi => by
            match i, hi with
            | 0, _ => exact ⟨by show (0 : Int) ≤ 14; omega, by unfold MX; show (14 : Int) ≤ _; omega⟩
        have pn := put_nums [14] hl (by simp) _ v9 RA_v9.out
        clear hl
        go_at_call 18
        refine pn.mono ?_
        rintro e v10 ⟨rfl, hb6⟩
        dsimp only
        have S_v10 := Lib.hid ((hb6.block _ (lt_row S_v9.out)).trans S_v9.out)
        have B_v10 := Lib.hid (B_v9.out.trans (hb6.mono Q_v9.out))
        have Q_v10 := Lib.hid (Nat.le_trans Q_v9.out hb6.size)
        have RB_v10 := Lib.hid ((hb6.block _ (lt_row RB_v9.out)).trans RB_v9.out)
        clear pn hb6
        rw [HNC.out]
        refine hK.out _ _ S_v10.out (fun _ => ?_)
        clear hK K
        try simp only [Act.put, List.setIfInBounds_toArray, List.set_cons_zero, List.set_cons_succ]
        refine wpAnyH_ready (rs := [6]) (by kernel_rfl) (by simp) ?_
        refine AllReadyH.cons (i := 6) rfl (fun K hK => ?_) AllReadyH.nil
        · rw [if_pos (by rfl)]
          go_simp
          have hl : ∀ (i : Nat) (hi : i < ([S] : List Int).length), 0 ≤ ([S] : List Int)[i] ∧ ([S] : List Int)[i] ≤ MX := fun i hi => by
              match i, hi with
              | 0, _ => exact BND.out.1
          have pn := put_nums [S] hl (by simp) _ v10 RB_v10.out
          clear hl
          go_at_call 18
          refine pn.mono ?_
          rintro e v11 ⟨rfl, hb6⟩
          dsimp only
          have S_v11 := Lib.hid ((hb6.block _ (lt_row S_v10.out)).trans S_v10.out)
          have B_v11 := Lib.hid (B_v10.out.trans (hb6.mono Q_v10.out))
          have Q_v11 := Lib.hid (Nat.le_trans Q_v10.out hb6.size)
          clear pn hb6
          rw [HNS.out]
          refine hK.out _ _ S_v11.out (fun _ => ?_)
          clear hK K
          try simp only [Act.put, List.setIfInBounds_toArray, List.set_cons_zero, List.set_cons_succ]
          refine wpAnyH_take (i := 7) (oi := ⟨some 154, _, _, _, _, _⟩) (v := .string (BC ++ NS)) rfl (by kernel_rfl) (by kernel_rfl) (by kernel_rfl) (fun _ _ _ h => h) (Or.inl ⟨by rfl, fun w' hSw => ?_⟩) S_v11.out ?_
          · clear hSw
            go_simp
          try simp only [Act.put, List.setIfInBounds_toArray, List.set_cons_zero, List.set_cons_succ]
          refine wpAnyH_take (i := 9) (oi := ⟨some 156, _, _, _, _, _⟩) (v := .string (BC ++ NS ++ NX)) rfl (by kernel_rfl) (by kernel_rfl) (by kernel_rfl) (fun _ _ _ h => h) (Or.inl ⟨by rfl, fun w' hSw => ?_⟩) S_v11.out ?_
          · clear hSw
            go_simp
          try simp only [Act.put, List.setIfInBounds_toArray, List.set_cons_zero, List.set_cons_succ]
          refine wpAnyH_take (i := 11) (oi := ⟨some 158, _, _, _, _, _⟩) (v := .string (BC ++ NS ++ NX ++ TT)) rfl (by kernel_rfl) (by kernel_rfl) (by kernel_rfl) (fun _ _ _ h => h) (Or.inl ⟨by rfl, fun w' hSw => ?_⟩) S_v11.out ?_
          · clear hSw
            go_simp
          try simp only [Act.put, List.setIfInBounds_toArray, List.set_cons_zero, List.set_cons_succ]
          refine wpAnyH_take (i := 12) (oi := ⟨some 2, _, _, _, _, _⟩) (v := .string (BC ++ NS ++ NX ++ TT)) rfl (by kernel_rfl) (by kernel_rfl) (by kernel_rfl) (fun _ _ _ h => h) (Or.inl ⟨by rfl, fun w' hSw => ?_⟩) S_v11.out ?_
          · clear hSw
            go_simp
          try simp only [Act.put, List.setIfInBounds_toArray, List.set_cons_zero, List.set_cons_succ]
          refine wpAnyH_take (i := 13) (oi := ⟨some 3, _, _, _, _, _⟩) (v := .int .i64 0) rfl (by kernel_rfl) (by kernel_rfl) (by kernel_rfl) (fun _ _ _ h => h) (Or.inl ⟨by rfl, fun w' hSw => ?_⟩) S_v11.out ?_
          · clear hSw
            go_simp
          try simp only [Act.put, List.setIfInBounds_toArray, List.set_cons_zero, List.set_cons_succ]
          refine wpAnyH_done (by kernel_rfl) ?_ _
          go_wp2_with fail
          go_ret2
          exact ⟨ret_str RES.out, by rw [HQ.out]; exact B_v11.out⟩
set_option maxHeartbeats 16000000 in
theorem docPut_8_15 (S O N C : Int) (D X : ByteArray) (A : List (Int × Int)) (u : Value) (w : World) (hO : 0 < O) (hu : SpansIn w u A) (hDm : D.size ≤ maxLen) (hXm : X.size ≤ maxLen) (SS : ByteArray) (hp : putF ⟨8, S, O, N, C, true, D, X, A⟩ = some SS) :
    Calls Tryd.prog 7 #[.agg (frC 8 S O N C true D X u)] w fun e w' => e = .returned (.tuple #[.string SS, .int .i64 0]) ∧ Below w.heap.size w w' := by
  obtain ⟨a, c, rfl, _, _⟩ := hu.at_
  have RT := Lib.hid (fun (w' : World) (hb : Below w.heap.size w w') => (show Calls Tryd.prog 16 #[.agg (frC 8 S O N C true D X (.slice a A.length c))] w' fun e w'' => e = .returned (.bool true) ∧ Below w'.heap.size w' w'' from by
    have h := right_front 8 S O N C true D X A (.slice a A.length c) w' (hu.later hb) hDm hXm
    rw [hp] at h
    exact h))
  obtain ⟨⟨s1, s2⟩, ⟨o1, o2⟩, ⟨n1, n2⟩, ⟨c1, c2⟩, hd⟩ := okD_of hp
  dsimp only at s1 s2 o1 o2 n1 n2 c1 c2 hd
  have BND := Lib.hid (And.intro (And.intro s1 s2) (And.intro (And.intro o1 o2) (And.intro (And.intro n1 n2) (And.intro c1 c2))))
  have hS := put_bytes (k := 15) (ps := [0, 1, 4]) hp (by unfold firstF; simp [show ¬ O = 0 by omega]) rfl
  have HO := Lib.hid hO
  clear hO
  have TX := Lib.hid (fun (w' : World) => docText_at D w' hd)
  obtain ⟨d, hdd⟩ : ∃ d, D.size = d := ⟨_, rfl⟩
  rw [hdd] at TX hd
  have hT8 := text_size d D hdd
  have HDD := Lib.hid hdd
  obtain ⟨TT, hTT⟩ : ∃ T, numT (d : Int) ++ D = T := ⟨_, rfl⟩
  rw [hTT] at TX hT8
  have HTT := Lib.hid hTT
  obtain ⟨tz, htz⟩ : ∃ z, TT.size = z := ⟨_, rfl⟩
  rw [htz] at hT8
  obtain ⟨m, hm⟩ : ∃ m, A.length = m := ⟨_, rfl⟩
  rw [hm] at RT ⊢
  have HS := Lib.hid hS
  obtain ⟨BK, hBK⟩ : ∃ b, byteT 8 = b := ⟨_, rfl⟩
  have hBz : BK.size = 1 := by rw [← hBK]; exact strOf_size _ _
  have HBK := Lib.hid hBK
  clear hp hS hTT hdd s1 s2 o1 o2 n1 n2 c1 c2 hu hDm hXm hm hBK
  unfold frC at RT ⊢
  have row := heap_alloc_last w (.cells #[.int .i64 8, .int .i64 S, .int .i64 O, .int .i64 N, .int .i64 C, .bool true, .string D, .string X, .slice a m c] 24)
  have bel := (Below.refl w.heap.size w).alloc (Nat.le_refl _) (.cells #[.int .i64 8, .int .i64 S, .int .i64 O, .int .i64 N, .int .i64 C, .bool true, .string D, .string X, .slice a m c] 24)
  go_enter Tryd.func7, Tryd.ntmps7
  go_upto_region 1 with (fail)
  generalize w.alloc _ = wa at *
  generalize hq : w.heap.size = q at *
  have HQ := Lib.hid hq
  have ROW := Lib.hid row
  have B := Lib.hid bel
  obtain ⟨c0, c1', c2', c3, c4, c5, c6, c7, c8⟩ := cells9 row
  clear row bel hq
  go_wp2_with fail
  with_reducible refine (RT.out wa B.out).mono ?_
  rintro e w2 ⟨rfl, hb2⟩
  have R2 := Lib.hid ((hb2.block _ (lt_row ROW.out)).trans ROW.out)
  have B2 := Lib.hid (show Below q w w2 from B.out.trans (hb2.mono (by rw [← HQ.out]; exact B.out.size)))
  clear hb2 RT c0 c1' c2' c3 c4 c5 c6 c7 c8 ROW
  obtain ⟨c0, c1', c2', c3, c4, c5, c6, c7, c8⟩ := cells9 R2.out
  go_wp2_with fail
  with_reducible refine (TX.out w2).mono ?_
  rintro e w3 ⟨rfl, hb3⟩
  have QS := Lib.hid (show q ≤ w2.heap.size by rw [← HQ.out]; exact B2.out.size)
  have R3 := Lib.hid ((hb3.block _ (lt_row R2.out)).trans R2.out)
  have B3 := Lib.hid (B2.out.trans (hb3.mono QS.out))
  have QS3 := Lib.hid (Nat.le_trans QS.out hb3.size)
  clear hb3 TX c0 c1' c2' c3 c4 c5 c6 c7 c8
  obtain ⟨c0, c1', c2', c3, c4, c5, c6, c7, c8⟩ := cells9 R3.out
  have ck := conv_kind 8 (by decide) w3
  rw [show ((8 : Nat) : Int) = 8 from rfl, HBK.out] at ck
  have bel4 := (Below.refl w3.heap.size w3).alloc (Nat.le_refl _) (.cells #[.int .u8 8] 5)
  have R4 := Lib.hid ((bel4.block _ (lt_row R3.out)).trans R3.out)
  have B4 := Lib.hid (B3.out.trans (bel4.mono QS3.out))
  have QS4 := Lib.hid (Nat.le_trans QS3.out bel4.size)
  clear bel4
  go_upto_region 5 with (fail)
  clear ck c0 c1' c2' c3 c4 c5 c6 c7 c8
  generalize w3.alloc _ = w4 at *
  obtain ⟨c0, c1', c2', c3, c4, c5, c6, c7, c8⟩ := cells9 R4.out
  have hOp : 0 < O := HO.out
  have hl : ∀ (i : Nat) (hi : i < ([O] : List Int).length), 0 ≤ ([O] : List Int)[i] ∧ ([O] : List Int)[i] ≤ MX := fun i hi => by
      match i, hi with
      | 0, _ => exact BND.out.2.1

  have row5 := heap_alloc_last w4 (.cells #[.int .i64 O] 3)
  have bel5 := (Below.refl w4.heap.size w4).alloc (Nat.le_refl _) (.cells #[.int .i64 O] 3)
  have PN := Lib.hid (put_nums [O] hl (by simp) w4.heap.size (w4.alloc (.cells #[.int .i64 O] 3)) row5)
  have hz5 : (numsT [O]).size ≤ 8 := numsT_size [O]
  have R5 := Lib.hid ((bel5.block _ (lt_row R4.out)).trans R4.out)
  have B5 := Lib.hid (B4.out.trans (bel5.mono QS4.out))
  have QS5 := Lib.hid (Nat.le_trans QS4.out bel5.size)
  obtain ⟨NX, hNX⟩ : ∃ T, numsT [O] = T := ⟨_, rfl⟩
  rw [hNX] at hz5 PN
  have HNX := Lib.hid hNX
  obtain ⟨nz, hnz⟩ : ∃ z, NX.size = z := ⟨_, rfl⟩
  rw [hnz] at hz5
  clear hl row5 bel5 hNX
  go_wp2_with fail
  refine PN.out.mono ?_
  rintro e w6 ⟨rfl, hb6⟩
  have R6 := Lib.hid ((hb6.block _ (lt_row R5.out)).trans R5.out)
  have B6 := Lib.hid (B5.out.trans (hb6.mono QS5.out))
  have QS6 := Lib.hid (Nat.le_trans QS5.out hb6.size)
  clear hb6 PN c0 c1' c2' c3 c4 c5 c6 c7 c8
  obtain ⟨c0, c1', c2', c3, c4, c5, c6, c7, c8⟩ := cells9 R6.out
  obtain ⟨BC, hBC⟩ : ∃ b, byteT 15 = b := ⟨_, rfl⟩
  have hbc1 : BC.size = 1 := by rw [← hBC]; exact strOf_size _ _
  obtain ⟨cz, hcz⟩ : ∃ z, BC.size = z := ⟨_, rfl⟩
  have hc1 : cz ≤ 1 := by omega
  have HBC := Lib.hid hBC
  have HNC := Lib.hid (show numsT [15] = BC from by rw [numsT_one, numT_15, hBC])
  obtain ⟨NS, hNS⟩ : ∃ T, numsT [S] = T := ⟨_, rfl⟩
  have hs8 : (numsT [S]).size ≤ 8 := numsT_size [S]
  rw [hNS] at hs8
  have HNS := Lib.hid hNS
  obtain ⟨sz, hsz⟩ : ∃ z, NS.size = z := ⟨_, rfl⟩
  rw [hsz] at hs8
  have q1 : ¬ 9223372036854775807 < cz + sz := by omega
  have q2 : ¬ 9223372036854775807 < cz + sz + nz := by omega
  have q3 : ¬ 9223372036854775807 < cz + sz + nz + tz := by omega
  have RES := Lib.hid (show SS = BC ++ NS ++ NX ++ TT from by
    rw [HS.out, HBC.out, ← HNS.out, ← HNX.out, ← HTT.out, ← HDD.out]
    show BC ++ (numT S ++ (numT O ++ (((numT (D.size : Int) ++ D) ++ (⟨#[]⟩ : ByteArray))))) = BC ++ numsT [S] ++ numsT [O] ++ (numT (D.size : Int) ++ D)
    simp only [numsT, app_nil, ByteArray.append_assoc])
  clear hbc1 hBC hNS
  go_upto_region 32 with (fail)
  have S_v0 : Hid (w6.drew.heap[q]? = some (.cells #[.int .i64 8, .int .i64 S, .int .i64 O, .int .i64 N, .int .i64 C, .bool true, .string D, .string X, .slice a m c] 24 (0, 0))) := Lib.hid R6.out
  have B_v0 := Lib.hid B6.out.drew
  have Q_v0 := Lib.hid (show q ≤ w6.drew.heap.size from QS6.out)
  clear c0 c1' c2' c3 c4 c5 c6 c7 c8
  refine wp_region_held_drew (S := fun w' : World => w'.heap[q]? = some (.cells #[.int .i64 8, .int .i64 S, .int .i64 O, .int .i64 N, .int .i64 C, .bool true, .string D, .string X, .slice a m c] 24 (0, 0))) mixedOrders S_v0.out (fun hHeld => ?_)
  clear hHeld
  generalize w6.drew = v0 at *
  refine wpAnyH_take (i := 0) (oi := ⟨some 147, _, _, _, _, _⟩) (v := .int .i64 15) rfl (by kernel_rfl) (by kernel_rfl) (by kernel_rfl) (fun _ _ _ h => h) (Or.inl ⟨by rfl, fun w' hSw => ?_⟩) S_v0.out ?_
  · clear hSw
    go_simp
  try simp only [Act.put, List.setIfInBounds_toArray, List.set_cons_zero, List.set_cons_succ]
  refine wpAnyH_take (i := 3) (oi := ⟨some 150, _, _, _, _, _⟩) (v := .pointer (some ⟨q, 1, none⟩)) rfl (by kernel_rfl) (by kernel_rfl) (by kernel_rfl) (fun _ _ _ h => h) (Or.inl ⟨by rfl, fun w' hSw => ?_⟩) S_v0.out ?_
  · clear hSw
    go_simp
  try simp only [Act.put, List.setIfInBounds_toArray, List.set_cons_zero, List.set_cons_succ]
  refine wpAnyH_take (i := 4) (oi := ⟨some 151, _, _, _, _, _⟩) (v := .int .i64 S) rfl (by kernel_rfl) (by kernel_rfl) (by kernel_rfl) (fun _ _ _ h => h) (Or.inl ⟨by rfl, fun w' hSw => ?_⟩) S_v0.out ?_
  · obtain ⟨s0, s1, s2, s3, s4, s5, s6, s7, s8⟩ := cells9 hSw
    go_simp
  try simp only [Act.put, List.setIfInBounds_toArray, List.set_cons_zero, List.set_cons_succ]
  refine wpAnyH_take (i := 8) (oi := ⟨some 155, _, _, _, _, _⟩) (v := .string NX) rfl (by kernel_rfl) (by kernel_rfl) (by kernel_rfl) (fun _ _ _ h => h) (Or.inl ⟨by rfl, fun w' hSw => ?_⟩) S_v0.out ?_
  · clear hSw
    go_simp
  try simp only [Act.put, List.setIfInBounds_toArray, List.set_cons_zero, List.set_cons_succ]
  refine wpAnyH_take (i := 10) (oi := ⟨some 157, _, _, _, _, _⟩) (v := .string TT) rfl (by kernel_rfl) (by kernel_rfl) (by kernel_rfl) (fun _ _ _ h => h) (Or.inl ⟨by rfl, fun w' hSw => ?_⟩) S_v0.out ?_
  · clear hSw
    go_simp
  try simp only [Act.put, List.setIfInBounds_toArray, List.set_cons_zero, List.set_cons_succ]
  refine wpAnyH_ready (rs := [1, 5]) (by kernel_rfl) (by simp) ?_
  refine AllReadyH.cons (i := 1) rfl (fun K hK => ?_) (AllReadyH.cons (i := 5) rfl (fun K hK => ?_) AllReadyH.nil)
  · rw [if_pos (by rfl)]
    go_simp
    have hl : (v0.alloc (.cells #[.int .i64 15] 3)).heap[v0.heap.size]? = some (.cells #[.int .i64 15] 3 (0, 0)) := heap_alloc_last v0 (.cells #[.int .i64 15] 3)
    have al := (Below.refl v0.heap.size v0).alloc (Nat.le_refl _) (.cells #[.int .i64 15] 3)
    generalize v0.alloc (.cells #[.int .i64 15] 3) = v1 at *
    have S_v1 := Lib.hid ((al.block _ (lt_row S_v0.out)).trans S_v0.out)
    have B_v1 := Lib.hid (B_v0.out.trans (al.mono Q_v0.out))
    have Q_v1 := Lib.hid (Nat.le_trans Q_v0.out al.size)
    have RA_v1 := Lib.hid hl
    clear hl al
    refine hK.out _ _ S_v1.out (fun _ => ?_)
    clear hK K
    try simp only [Act.put, List.setIfInBounds_toArray, List.set_cons_zero, List.set_cons_succ]
    refine wpAnyH_ready (rs := [2, 5]) (by kernel_rfl) (by simp) ?_
    refine AllReadyH.cons (i := 2) rfl (fun K hK => ?_) (AllReadyH.cons (i := 5) rfl (fun K hK => ?_) AllReadyH.nil)
    · rw [if_pos (by rfl)]
      go_simp
      have hl : ∀ (i : Nat) (hi : i < ([15] : List Int).length), 0 ≤ ([15] : List Int)[i] ∧ ([15] : List Int)[i] ≤ MX := fun i hi => by
          match i, hi with
          | 0, _ => exact ⟨by show (0 : Int) ≤ 15; omega, by unfold MX; show (15 : Int) ≤ _; omega⟩
      have pn := put_nums [15] hl (by simp) _ v1 RA_v1.out
      clear hl
      go_at_call 18
      refine pn.mono ?_
      rintro e v2 ⟨rfl, hb6⟩
      dsimp only
      have S_v2 := Lib.hid ((hb6.block _ (lt_row S_v1.out)).trans S_v1.out)
      have B_v2 := Lib.hid (B_v1.out.trans (hb6.mono Q_v1.out))
      have Q_v2 := Lib.hid (Nat.le_trans Q_v1.out hb6.size)
      clear pn hb6
      rw [HNC.out]
      refine hK.out _ _ S_v2.out (fun _ => ?_)
      clear hK K
      try simp only [Act.put, List.setIfInBounds_toArray, List.set_cons_zero, List.set_cons_succ]
      refine wpAnyH_ready (rs := [5]) (by kernel_rfl) (by simp) ?_
      refine AllReadyH.cons (i := 5) rfl (fun K hK => ?_) AllReadyH.nil
      · rw [if_pos (by rfl)]
        go_simp
        have hl : (v2.alloc (.cells #[.int .i64 S] 3)).heap[v2.heap.size]? = some (.cells #[.int .i64 S] 3 (0, 0)) := heap_alloc_last v2 (.cells #[.int .i64 S] 3)
        have al := (Below.refl v2.heap.size v2).alloc (Nat.le_refl _) (.cells #[.int .i64 S] 3)
        generalize v2.alloc (.cells #[.int .i64 S] 3) = v3 at *
        have S_v3 := Lib.hid ((al.block _ (lt_row S_v2.out)).trans S_v2.out)
        have B_v3 := Lib.hid (B_v2.out.trans (al.mono Q_v2.out))
        have Q_v3 := Lib.hid (Nat.le_trans Q_v2.out al.size)
        have RB_v3 := Lib.hid hl
        clear hl al
        refine hK.out _ _ S_v3.out (fun _ => ?_)
        clear hK K
        try simp only [Act.put, List.setIfInBounds_toArray, List.set_cons_zero, List.set_cons_succ]
        refine wpAnyH_ready (rs := [6]) (by kernel_rfl) (by simp) ?_
        refine AllReadyH.cons (i := 6) rfl (fun K hK => ?_) AllReadyH.nil
        · rw [if_pos (by rfl)]
          go_simp
          have hl : ∀ (i : Nat) (hi : i < ([S] : List Int).length), 0 ≤ ([S] : List Int)[i] ∧ ([S] : List Int)[i] ≤ MX := fun i hi => by
              match i, hi with
              | 0, _ => exact BND.out.1
          have pn := put_nums [S] hl (by simp) _ v3 RB_v3.out
          clear hl
          go_at_call 18
          refine pn.mono ?_
          rintro e v4 ⟨rfl, hb6⟩
          dsimp only
          have S_v4 := Lib.hid ((hb6.block _ (lt_row S_v3.out)).trans S_v3.out)
          have B_v4 := Lib.hid (B_v3.out.trans (hb6.mono Q_v3.out))
          have Q_v4 := Lib.hid (Nat.le_trans Q_v3.out hb6.size)
          clear pn hb6
          rw [HNS.out]
          refine hK.out _ _ S_v4.out (fun _ => ?_)
          clear hK K
          try simp only [Act.put, List.setIfInBounds_toArray, List.set_cons_zero, List.set_cons_succ]
          refine wpAnyH_take (i := 7) (oi := ⟨some 154, _, _, _, _, _⟩) (v := .string (BC ++ NS)) rfl (by kernel_rfl) (by kernel_rfl) (by kernel_rfl) (fun _ _ _ h => h) (Or.inl ⟨by rfl, fun w' hSw => ?_⟩) S_v4.out ?_
          · clear hSw
            go_simp
          try simp only [Act.put, List.setIfInBounds_toArray, List.set_cons_zero, List.set_cons_succ]
          refine wpAnyH_take (i := 9) (oi := ⟨some 156, _, _, _, _, _⟩) (v := .string (BC ++ NS ++ NX)) rfl (by kernel_rfl) (by kernel_rfl) (by kernel_rfl) (fun _ _ _ h => h) (Or.inl ⟨by rfl, fun w' hSw => ?_⟩) S_v4.out ?_
          · clear hSw
            go_simp
          try simp only [Act.put, List.setIfInBounds_toArray, List.set_cons_zero, List.set_cons_succ]
          refine wpAnyH_take (i := 11) (oi := ⟨some 158, _, _, _, _, _⟩) (v := .string (BC ++ NS ++ NX ++ TT)) rfl (by kernel_rfl) (by kernel_rfl) (by kernel_rfl) (fun _ _ _ h => h) (Or.inl ⟨by rfl, fun w' hSw => ?_⟩) S_v4.out ?_
          · clear hSw
            go_simp
          try simp only [Act.put, List.setIfInBounds_toArray, List.set_cons_zero, List.set_cons_succ]
          refine wpAnyH_take (i := 12) (oi := ⟨some 2, _, _, _, _, _⟩) (v := .string (BC ++ NS ++ NX ++ TT)) rfl (by kernel_rfl) (by kernel_rfl) (by kernel_rfl) (fun _ _ _ h => h) (Or.inl ⟨by rfl, fun w' hSw => ?_⟩) S_v4.out ?_
          · clear hSw
            go_simp
          try simp only [Act.put, List.setIfInBounds_toArray, List.set_cons_zero, List.set_cons_succ]
          refine wpAnyH_take (i := 13) (oi := ⟨some 3, _, _, _, _, _⟩) (v := .int .i64 0) rfl (by kernel_rfl) (by kernel_rfl) (by kernel_rfl) (fun _ _ _ h => h) (Or.inl ⟨by rfl, fun w' hSw => ?_⟩) S_v4.out ?_
          · clear hSw
            go_simp
          try simp only [Act.put, List.setIfInBounds_toArray, List.set_cons_zero, List.set_cons_succ]
          refine wpAnyH_done (by kernel_rfl) ?_ _
          go_wp2_with fail
          go_ret2
          exact ⟨ret_str RES.out, by rw [HQ.out]; exact B_v4.out⟩
    · rw [if_pos (by rfl)]
      go_simp
      have hl : (v1.alloc (.cells #[.int .i64 S] 3)).heap[v1.heap.size]? = some (.cells #[.int .i64 S] 3 (0, 0)) := heap_alloc_last v1 (.cells #[.int .i64 S] 3)
      have al := (Below.refl v1.heap.size v1).alloc (Nat.le_refl _) (.cells #[.int .i64 S] 3)
      generalize v1.alloc (.cells #[.int .i64 S] 3) = v5 at *
      have S_v5 := Lib.hid ((al.block _ (lt_row S_v1.out)).trans S_v1.out)
      have B_v5 := Lib.hid (B_v1.out.trans (al.mono Q_v1.out))
      have Q_v5 := Lib.hid (Nat.le_trans Q_v1.out al.size)
      have RA_v5 := Lib.hid ((al.block _ (lt_row RA_v1.out)).trans RA_v1.out)
      have RB_v5 := Lib.hid hl
      clear hl al
      refine hK.out _ _ S_v5.out (fun _ => ?_)
      clear hK K
      try simp only [Act.put, List.setIfInBounds_toArray, List.set_cons_zero, List.set_cons_succ]
      refine wpAnyH_ready (rs := [2]) (by kernel_rfl) (by simp) ?_
      refine AllReadyH.cons (i := 2) rfl (fun K hK => ?_) AllReadyH.nil
      · rw [if_pos (by rfl)]
        go_simp
        have hl : ∀ (i : Nat) (hi : i < ([15] : List Int).length), 0 ≤ ([15] : List Int)[i] ∧ ([15] : List Int)[i] ≤ MX := fun i hi => by
            match i, hi with
            | 0, _ => exact ⟨by show (0 : Int) ≤ 15; omega, by unfold MX; show (15 : Int) ≤ _; omega⟩
        have pn := put_nums [15] hl (by simp) _ v5 RA_v5.out
        clear hl
        go_at_call 18
        refine pn.mono ?_
        rintro e v6 ⟨rfl, hb6⟩
        dsimp only
        have S_v6 := Lib.hid ((hb6.block _ (lt_row S_v5.out)).trans S_v5.out)
        have B_v6 := Lib.hid (B_v5.out.trans (hb6.mono Q_v5.out))
        have Q_v6 := Lib.hid (Nat.le_trans Q_v5.out hb6.size)
        have RB_v6 := Lib.hid ((hb6.block _ (lt_row RB_v5.out)).trans RB_v5.out)
        clear pn hb6
        rw [HNC.out]
        refine hK.out _ _ S_v6.out (fun _ => ?_)
        clear hK K
        try simp only [Act.put, List.setIfInBounds_toArray, List.set_cons_zero, List.set_cons_succ]
        refine wpAnyH_ready (rs := [6]) (by kernel_rfl) (by simp) ?_
        refine AllReadyH.cons (i := 6) rfl (fun K hK => ?_) AllReadyH.nil
        · rw [if_pos (by rfl)]
          go_simp
          have hl : ∀ (i : Nat) (hi : i < ([S] : List Int).length), 0 ≤ ([S] : List Int)[i] ∧ ([S] : List Int)[i] ≤ MX := fun i hi => by
              match i, hi with
              | 0, _ => exact BND.out.1
          have pn := put_nums [S] hl (by simp) _ v6 RB_v6.out
          clear hl
          go_at_call 18
          refine pn.mono ?_
          rintro e v7 ⟨rfl, hb6⟩
          dsimp only
          have S_v7 := Lib.hid ((hb6.block _ (lt_row S_v6.out)).trans S_v6.out)
          have B_v7 := Lib.hid (B_v6.out.trans (hb6.mono Q_v6.out))
          have Q_v7 := Lib.hid (Nat.le_trans Q_v6.out hb6.size)
          clear pn hb6
          rw [HNS.out]
          refine hK.out _ _ S_v7.out (fun _ => ?_)
          clear hK K
          try simp only [Act.put, List.setIfInBounds_toArray, List.set_cons_zero, List.set_cons_succ]
          refine wpAnyH_take (i := 7) (oi := ⟨some 154, _, _, _, _, _⟩) (v := .string (BC ++ NS)) rfl (by kernel_rfl) (by kernel_rfl) (by kernel_rfl) (fun _ _ _ h => h) (Or.inl ⟨by rfl, fun w' hSw => ?_⟩) S_v7.out ?_
          · clear hSw
            go_simp
          try simp only [Act.put, List.setIfInBounds_toArray, List.set_cons_zero, List.set_cons_succ]
          refine wpAnyH_take (i := 9) (oi := ⟨some 156, _, _, _, _, _⟩) (v := .string (BC ++ NS ++ NX)) rfl (by kernel_rfl) (by kernel_rfl) (by kernel_rfl) (fun _ _ _ h => h) (Or.inl ⟨by rfl, fun w' hSw => ?_⟩) S_v7.out ?_
          · clear hSw
            go_simp
          try simp only [Act.put, List.setIfInBounds_toArray, List.set_cons_zero, List.set_cons_succ]
          refine wpAnyH_take (i := 11) (oi := ⟨some 158, _, _, _, _, _⟩) (v := .string (BC ++ NS ++ NX ++ TT)) rfl (by kernel_rfl) (by kernel_rfl) (by kernel_rfl) (fun _ _ _ h => h) (Or.inl ⟨by rfl, fun w' hSw => ?_⟩) S_v7.out ?_
          · clear hSw
            go_simp
          try simp only [Act.put, List.setIfInBounds_toArray, List.set_cons_zero, List.set_cons_succ]
          refine wpAnyH_take (i := 12) (oi := ⟨some 2, _, _, _, _, _⟩) (v := .string (BC ++ NS ++ NX ++ TT)) rfl (by kernel_rfl) (by kernel_rfl) (by kernel_rfl) (fun _ _ _ h => h) (Or.inl ⟨by rfl, fun w' hSw => ?_⟩) S_v7.out ?_
          · clear hSw
            go_simp
          try simp only [Act.put, List.setIfInBounds_toArray, List.set_cons_zero, List.set_cons_succ]
          refine wpAnyH_take (i := 13) (oi := ⟨some 3, _, _, _, _, _⟩) (v := .int .i64 0) rfl (by kernel_rfl) (by kernel_rfl) (by kernel_rfl) (fun _ _ _ h => h) (Or.inl ⟨by rfl, fun w' hSw => ?_⟩) S_v7.out ?_
          · clear hSw
            go_simp
          try simp only [Act.put, List.setIfInBounds_toArray, List.set_cons_zero, List.set_cons_succ]
          refine wpAnyH_done (by kernel_rfl) ?_ _
          go_wp2_with fail
          go_ret2
          exact ⟨ret_str RES.out, by rw [HQ.out]; exact B_v7.out⟩
  · rw [if_pos (by rfl)]
    go_simp
    have hl : (v0.alloc (.cells #[.int .i64 S] 3)).heap[v0.heap.size]? = some (.cells #[.int .i64 S] 3 (0, 0)) := heap_alloc_last v0 (.cells #[.int .i64 S] 3)
    have al := (Below.refl v0.heap.size v0).alloc (Nat.le_refl _) (.cells #[.int .i64 S] 3)
    generalize v0.alloc (.cells #[.int .i64 S] 3) = v8 at *
    have S_v8 := Lib.hid ((al.block _ (lt_row S_v0.out)).trans S_v0.out)
    have B_v8 := Lib.hid (B_v0.out.trans (al.mono Q_v0.out))
    have Q_v8 := Lib.hid (Nat.le_trans Q_v0.out al.size)
    have RB_v8 := Lib.hid hl
    clear hl al
    refine hK.out _ _ S_v8.out (fun _ => ?_)
    clear hK K
    try simp only [Act.put, List.setIfInBounds_toArray, List.set_cons_zero, List.set_cons_succ]
    refine wpAnyH_ready (rs := [1]) (by kernel_rfl) (by simp) ?_
    refine AllReadyH.cons (i := 1) rfl (fun K hK => ?_) AllReadyH.nil
    · rw [if_pos (by rfl)]
      go_simp
      have hl : (v8.alloc (.cells #[.int .i64 15] 3)).heap[v8.heap.size]? = some (.cells #[.int .i64 15] 3 (0, 0)) := heap_alloc_last v8 (.cells #[.int .i64 15] 3)
      have al := (Below.refl v8.heap.size v8).alloc (Nat.le_refl _) (.cells #[.int .i64 15] 3)
      generalize v8.alloc (.cells #[.int .i64 15] 3) = v9 at *
      have S_v9 := Lib.hid ((al.block _ (lt_row S_v8.out)).trans S_v8.out)
      have B_v9 := Lib.hid (B_v8.out.trans (al.mono Q_v8.out))
      have Q_v9 := Lib.hid (Nat.le_trans Q_v8.out al.size)
      have RB_v9 := Lib.hid ((al.block _ (lt_row RB_v8.out)).trans RB_v8.out)
      have RA_v9 := Lib.hid hl
      clear hl al
      refine hK.out _ _ S_v9.out (fun _ => ?_)
      clear hK K
      try simp only [Act.put, List.setIfInBounds_toArray, List.set_cons_zero, List.set_cons_succ]
      refine wpAnyH_ready (rs := [2]) (by kernel_rfl) (by simp) ?_
      refine AllReadyH.cons (i := 2) rfl (fun K hK => ?_) AllReadyH.nil
      · rw [if_pos (by rfl)]
        go_simp
        have hl : ∀ (i : Nat) (hi : i < ([15] : List Int).length), 0 ≤ ([15] : List Int)[i] ∧ ([15] : List Int)[i] ≤ MX := fun i hi => by
            match i, hi with
            | 0, _ => exact ⟨by show (0 : Int) ≤ 15; omega, by unfold MX; show (15 : Int) ≤ _; omega⟩
        have pn := put_nums [15] hl (by simp) _ v9 RA_v9.out
        clear hl
        go_at_call 18
        refine pn.mono ?_
        rintro e v10 ⟨rfl, hb6⟩
        dsimp only
        have S_v10 := Lib.hid ((hb6.block _ (lt_row S_v9.out)).trans S_v9.out)
        have B_v10 := Lib.hid (B_v9.out.trans (hb6.mono Q_v9.out))
        have Q_v10 := Lib.hid (Nat.le_trans Q_v9.out hb6.size)
        have RB_v10 := Lib.hid ((hb6.block _ (lt_row RB_v9.out)).trans RB_v9.out)
        clear pn hb6
        rw [HNC.out]
        refine hK.out _ _ S_v10.out (fun _ => ?_)
        clear hK K
        try simp only [Act.put, List.setIfInBounds_toArray, List.set_cons_zero, List.set_cons_succ]
        refine wpAnyH_ready (rs := [6]) (by kernel_rfl) (by simp) ?_
        refine AllReadyH.cons (i := 6) rfl (fun K hK => ?_) AllReadyH.nil
        · rw [if_pos (by rfl)]
          go_simp
          have hl : ∀ (i : Nat) (hi : i < ([S] : List Int).length), 0 ≤ ([S] : List Int)[i] ∧ ([S] : List Int)[i] ≤ MX := fun i hi => by
              match i, hi with
              | 0, _ => exact BND.out.1
          have pn := put_nums [S] hl (by simp) _ v10 RB_v10.out
          clear hl
          go_at_call 18
          refine pn.mono ?_
          rintro e v11 ⟨rfl, hb6⟩
          dsimp only
          have S_v11 := Lib.hid ((hb6.block _ (lt_row S_v10.out)).trans S_v10.out)
          have B_v11 := Lib.hid (B_v10.out.trans (hb6.mono Q_v10.out))
          have Q_v11 := Lib.hid (Nat.le_trans Q_v10.out hb6.size)
          clear pn hb6
          rw [HNS.out]
          refine hK.out _ _ S_v11.out (fun _ => ?_)
          clear hK K
          try simp only [Act.put, List.setIfInBounds_toArray, List.set_cons_zero, List.set_cons_succ]
          refine wpAnyH_take (i := 7) (oi := ⟨some 154, _, _, _, _, _⟩) (v := .string (BC ++ NS)) rfl (by kernel_rfl) (by kernel_rfl) (by kernel_rfl) (fun _ _ _ h => h) (Or.inl ⟨by rfl, fun w' hSw => ?_⟩) S_v11.out ?_
          · clear hSw
            go_simp
          try simp only [Act.put, List.setIfInBounds_toArray, List.set_cons_zero, List.set_cons_succ]
          refine wpAnyH_take (i := 9) (oi := ⟨some 156, _, _, _, _, _⟩) (v := .string (BC ++ NS ++ NX)) rfl (by kernel_rfl) (by kernel_rfl) (by kernel_rfl) (fun _ _ _ h => h) (Or.inl ⟨by rfl, fun w' hSw => ?_⟩) S_v11.out ?_
          · clear hSw
            go_simp
          try simp only [Act.put, List.setIfInBounds_toArray, List.set_cons_zero, List.set_cons_succ]
          refine wpAnyH_take (i := 11) (oi := ⟨some 158, _, _, _, _, _⟩) (v := .string (BC ++ NS ++ NX ++ TT)) rfl (by kernel_rfl) (by kernel_rfl) (by kernel_rfl) (fun _ _ _ h => h) (Or.inl ⟨by rfl, fun w' hSw => ?_⟩) S_v11.out ?_
          · clear hSw
            go_simp
          try simp only [Act.put, List.setIfInBounds_toArray, List.set_cons_zero, List.set_cons_succ]
          refine wpAnyH_take (i := 12) (oi := ⟨some 2, _, _, _, _, _⟩) (v := .string (BC ++ NS ++ NX ++ TT)) rfl (by kernel_rfl) (by kernel_rfl) (by kernel_rfl) (fun _ _ _ h => h) (Or.inl ⟨by rfl, fun w' hSw => ?_⟩) S_v11.out ?_
          · clear hSw
            go_simp
          try simp only [Act.put, List.setIfInBounds_toArray, List.set_cons_zero, List.set_cons_succ]
          refine wpAnyH_take (i := 13) (oi := ⟨some 3, _, _, _, _, _⟩) (v := .int .i64 0) rfl (by kernel_rfl) (by kernel_rfl) (by kernel_rfl) (fun _ _ _ h => h) (Or.inl ⟨by rfl, fun w' hSw => ?_⟩) S_v11.out ?_
          · clear hSw
            go_simp
          try simp only [Act.put, List.setIfInBounds_toArray, List.set_cons_zero, List.set_cons_succ]
          refine wpAnyH_done (by kernel_rfl) ?_ _
          go_wp2_with fail
          go_ret2
          exact ⟨ret_str RES.out, by rw [HQ.out]; exact B_v11.out⟩
end Go.Proofs.YtcgbhcmgddgheabDoor
namespace Go.Proofs.YtcgbhcmgddgheabDoor
open Go Go.RowKit Go.BigFrame
set_option linter.unusedSimpArgs false
set_option linter.unusedVariables false
set_option maxRecDepth 100000
theorem parts_kinds (k : Int) (ps : List Nat) (hk : partsL k = some ps) (hr : ¬ (8 ≤ k ∧ k ≤ 15)) : k = 0 ∨ k = 1 ∨ k = 30 ∨ k = 2 ∨ k = 4 ∨ k = 5 ∨ k = 6 ∨ k = 7 ∨ k = 16 ∨ k = 20 ∨ k = 25 ∨ k = 18 ∨ k = 22 ∨ k = 17 ∨ k = 21 ∨ k = 24 ∨ k = 26 ∨ k = 27 ∨ k = 28 ∨ k = 29 := by
  apply Classical.byContradiction
  intro h
  simp only [not_or] at h
  obtain ⟨h0, h1, h2, h3, h4, h5, h6, h7, h8, h9, h10, h11, h12, h13, h14, h15, h16, h17, h18, h19⟩ := h
  unfold partsL at hk
  rw [if_neg h0, if_neg h1, if_neg h2, if_neg h3, if_neg h4, if_neg h5, if_neg h6, if_neg h7, if_neg h8, if_neg h9, if_neg h10, if_neg h11, if_neg h12, if_neg h13, if_neg h14, if_neg h15, if_neg h16, if_neg h17, if_neg h18, if_neg h19, if_neg hr] at hk
  cases hk
theorem kind_of {f : Fr} {S : ByteArray} (h : putF f = some S) : f.K = 8 ∨ f.K = 0 ∨ f.K = 1 ∨ f.K = 30 ∨ f.K = 2 ∨ f.K = 4 ∨ f.K = 5 ∨ f.K = 6 ∨ f.K = 7 ∨ f.K = 16 ∨ f.K = 20 ∨ f.K = 25 ∨ f.K = 18 ∨ f.K = 22 ∨ f.K = 17 ∨ f.K = 21 ∨ f.K = 24 ∨ f.K = 26 ∨ f.K = 27 ∨ f.K = 28 ∨ f.K = 29 := by
  obtain ⟨ps, hp, _⟩ := put_shape f S h
  unfold firstF at hp
  by_cases h8 : f.K = 8
  · exact .inl h8
  · rw [if_neg h8] at hp
    by_cases hr : 8 ≤ f.K ∧ f.K ≤ 15
    · rw [if_pos hr] at hp
      have : partsL (-1) = none := by rfl
      rw [this] at hp; cases hp
    · rw [if_neg hr] at hp
      exact .inr (parts_kinds _ ps hp hr)
theorem docPut_any (f : Fr) (u : Value) (w : World) (hu : SpansIn w u f.A) (hDm : f.D.size ≤ maxLen) (hXm : f.X.size ≤ maxLen) :
    Calls Tryd.prog 7 #[.agg (f.cells u)] w fun e w' => e = .returned (.tuple #[.string ((putF f).getD ⟨#[]⟩), .int .i64 (if (putF f).isSome then 0 else 2)]) ∧ Below w.heap.size w w' := by
  obtain ⟨K, S, O, N, C, F, D, X, A⟩ := f
  obtain ⟨r, hr⟩ : ∃ r, putF ⟨K, S, O, N, C, F, D, X, A⟩ = r := ⟨_, rfl⟩
  rw [hr]
  cases r with
  | none => exact docPut_none K S O N C F D X A u w hu hDm hXm hr
  | some SS =>
    have hk := kind_of hr
    dsimp only at hk hu hDm hXm
    show Calls Tryd.prog 7 #[.agg (frC K S O N C F D X u)] w fun e w' => e = .returned (.tuple #[.string SS, .int .i64 0]) ∧ Below w.heap.size w w'
    rcases hk with rfl | rfl | rfl | rfl | rfl | rfl | rfl | rfl | rfl | rfl | rfl | rfl | rfl | rfl | rfl | rfl | rfl | rfl | rfl | rfl | rfl
    · have hb := (okD_of hr).2.1.1
      dsimp only at hb
      by_cases hO : O = 0
      · cases F
        · exact docPut_8_10 S O N C D X A u w hO hu hDm hXm SS hr
        · exact docPut_8_11 S O N C D X A u w hO hu hDm hXm SS hr
      · have hO1 : 0 < O := by omega
        cases F
        · exact docPut_8_14 S O N C D X A u w hO1 hu hDm hXm SS hr
        · exact docPut_8_15 S O N C D X A u w hO1 hu hDm hXm SS hr
    · exact docPut_0 S O N C F D X A u w hu hDm hXm SS hr
    · exact docPut_1 S O N C F D X A u w hu hDm hXm SS hr
    · exact docPut_30 S O N C F D X A u w hu hDm hXm SS hr
    · exact docPut_2 S O N C F D X A u w hu hDm hXm SS hr
    · exact docPut_4 S O N C F D X A u w hu hDm hXm SS hr
    · exact docPut_5 S O N C F D X A u w hu hDm hXm SS hr
    · exact docPut_6 S O N C F D X A u w hu hDm hXm SS hr
    · exact docPut_7 S O N C F D X A u w hu hDm hXm SS hr
    · exact docPut_16 S O N C F D X A u w hu hDm hXm SS hr
    · exact docPut_20 S O N C F D X A u w hu hDm hXm SS hr
    · exact docPut_25 S O N C F D X A u w hu hDm hXm SS hr
    · exact docPut_18 S O N C F D X A u w hu hDm hXm SS hr
    · exact docPut_22 S O N C F D X A u w hu hDm hXm SS hr
    · exact docPut_17 S O N C F D X A u w hu hDm hXm SS hr
    · exact docPut_21 S O N C F D X A u w hu hDm hXm SS hr
    · exact docPut_24 S O N C F D X A u w hu hDm hXm SS hr
    · exact docPut_26 S O N C F D X A u w hu hDm hXm SS hr
    · exact docPut_27 S O N C F D X A u w hu hDm hXm SS hr
    · exact docPut_28 S O N C F D X A u w hu hDm hXm SS hr
    · exact docPut_29 S O N C F D X A u w hu hDm hXm SS hr
end Go.Proofs.YtcgbhcmgddgheabDoor
namespace Go.Proofs.YtcgbhcmgddgheabDoor
open Go Go.RowKit Go.BigFrame
set_option linter.unusedSimpArgs false
set_option linter.unusedVariables false
set_option maxRecDepth 100000
theorem put_text (f : Fr) (v : Value) (w : World) (hA : SpansIn w v f.A) (hD : f.D.size ≤ maxLen) (hX : f.X.size ≤ maxLen) (h1 : -9223372036854775808 ≤ f.K) (h2 : f.K ≤ 9223372036854775807) (tab : Tab w) (SR : ByteArray) (er : Int) (hs : (putF f).getD ⟨#[]⟩ = SR) (he : (if (putF f).isSome then 0 else 2) = er) :
    Calls Tryd.prog 8 #[.agg (f.cells v)] w fun e w' => ∃ a n c, e = .returned (.tuple #[.slice a n c, .int .i64 er]) ∧ (∀ w'', Below w'.heap.size w' w'' → (convert 28 9 (.slice a n c)).run Tryd.prog w'' = .ok (.string SR) w'') ∧ Below w.heap.size w w' := by
  refine (put_any f v w hA hD hX h1 h2 tab).mono ?_
  rintro e w1 h
  unfold PutPost at h
  obtain ⟨r, hr⟩ : ∃ r, putF f = r := ⟨_, rfl⟩
  rw [hr] at h hs he
  cases r with
  | none =>
    obtain ⟨rfl, hb⟩ := h
    refine ⟨none, 0, 0, ?_, fun w'' _ => ?_, hb⟩
    · rw [← he]; rfl
    · rw [← hs]
      exact conv_in (fun _ => 0#8) none 0 0 _ ⟨Nat.zero_le _, .inl rfl⟩
  | some S =>
    obtain ⟨⟨u, rfl, ho⟩, hb⟩ := h
    obtain ⟨a, c, rfl, _, _, _, cv⟩ := ho.asText
    refine ⟨a, S.size, c, ?_, fun w'' hw => ?_, hb⟩
    · rw [← he]; rfl
    · rw [← hs]; exact cv _ hw
theorem open_frame1 {H : Type} {enc : TypeId × Value → H} {w : World} {base : Nat} {v : Value} {d : DataW H} {p : List MemPlace} (hk : Value.okWide Tryd.prog w .any base 24 v)
    (h : DataW.Trod enc Tryd.prog w 0 (fun _ => true) true 24 v d p) (hz : ∀ n ∈ DataW.weights Tryd.prog 24 d, n ≤ reachBytes) :
    ∃ (f : Fr) (u : Value), v = .agg (f.cells u) ∧ SpansIn w u f.A ∧ f.D.size ≤ maxLen ∧ f.X.size ≤ maxLen ∧ -9223372036854775808 ≤ f.K ∧ f.K ≤ 9223372036854775807 ∧ f.A.length ≤ 10000000000000 := by
  obtain ⟨cs, rfl, hs⟩ := okWide_agg (by kernel_rfl) hk
  have hs9 : cs.size = 9 := hs.trans (by kernel_rfl)
  obtain ⟨fuel, hf⟩ := h
  obtain ⟨f, a, c, hc, hI, ⟨hD, hX, h1, h2⟩, hR⟩ := open_frame_at (cs := cs.toList) (by rw [Array.length_toList]; exact hs9) hf
  have hb := hR reachBytes hz
  unfold reachBytes at hb
  exact ⟨f, _, by rw [← Array.toList_inj.1 hc], hI, hD, hX, h1, h2, by omega⟩
set_option maxHeartbeats 16000000 in
theorem put_law_0 (S O N C : Int) (F : Bool) (D X : ByteArray) (A : List (Int × Int)) (u : Value) (w : World) (hu : SpansIn w u A) (hDm : D.size ≤ maxLen) (hXm : X.size ≤ maxLen) (h1 : -9223372036854775808 ≤ (0 : Int)) (h2 : (0 : Int) ≤ 9223372036854775807) (hn : A.length ≤ 10000000000000) (tab : Tab w) :
    Calls Tryd.prog 3 #[.agg (frC 0 S O N C F D X u)] w fun e w' => e = .returned (.bool true) ∧ Below w.heap.size w w' := by
  obtain ⟨a, c, rfl, _, _⟩ := hu.at_
  obtain ⟨SR, hSR⟩ : ∃ x, (putF ⟨0, S, O, N, C, F, D, X, A⟩).getD ⟨#[]⟩ = x := ⟨_, rfl⟩
  obtain ⟨er, her⟩ : ∃ x : Int, (if (putF ⟨0, S, O, N, C, F, D, X, A⟩).isSome then 0 else 2) = x := ⟨_, rfl⟩
  obtain ⟨m, hm⟩ : ∃ m, A.length = m := ⟨_, rfl⟩
  have DP := Lib.hid (fun (w' : World) (hb : Below w.heap.size w w') => (show Calls Tryd.prog 7 #[.agg (frC 0 S O N C F D X (.slice a m c))] w' fun e w'' => e = .returned (.tuple #[.string SR, .int .i64 er]) ∧ Below w'.heap.size w' w'' from by
    have h := docPut_any ⟨0, S, O, N, C, F, D, X, A⟩ (.slice a A.length c) w' (hu.later hb) hDm hXm
    rw [hSR, her, hm] at h
    exact h))
  have TO := Lib.hid (fun (w' : World) (hb : Below w.heap.size w w') => (show Calls Tryd.prog 9 #[.agg (frC 0 S O N C F D X (.slice a m c))] w' fun e w'' => ∃ v, e = .returned (.agg (frC 0 S O N C F D X v)) ∧ SpansIn w'' v A ∧ Below w'.heap.size w' w'' from by
    have h := to_any 0 S O N C F D X (.slice a A.length c) A w' (hu.later hb) hn
    rw [hm] at h
    exact h))
  have PU := Lib.hid (fun (w' : World) (v : Value) (hv : SpansIn w' v A) (tb : Tab w') => (show Calls Tryd.prog 8 #[.agg (frC 0 S O N C F D X v)] w' fun e w'' => ∃ a n c, e = .returned (.tuple #[.slice a n c, .int .i64 er]) ∧ (∀ w3, Below w''.heap.size w'' w3 → (convert 28 9 (.slice a n c)).run Tryd.prog w3 = .ok (.string SR) w3) ∧ Below w'.heap.size w' w'' from put_text ⟨0, S, O, N, C, F, D, X, A⟩ v w' hv hDm hXm h1 h2 tb SR er hSR her))
  have AS := Lib.hid (fun (w' : World) (v : Value) => (show Calls Tryd.prog 11 #[.agg (frC 0 S O N C F D X v)] w' fun e w'' => e = .returned (.bool false) ∧ Below w'.heap.size w' w'' from by
    have h := asks_any 0 S O N C F D X v w'
    rw [show (!((0 : Int) == 0 || (0 : Int) == 2 || (0 : Int) == 28 || (0 : Int) == 29)) = false from by decide] at h
    exact h))
  have TB := Lib.hid tab
  rw [hm]
  clear hu hDm hXm h1 h2 hn tab hSR her hm
  unfold frC at DP TO PU AS ⊢
  have row := heap_alloc_last w (.cells #[.int .i64 0, .int .i64 S, .int .i64 O, .int .i64 N, .int .i64 C, .bool F, .string D, .string X, .slice a m c] 24)
  have bel := (Below.refl w.heap.size w).alloc (Nat.le_refl _) (.cells #[.int .i64 0, .int .i64 S, .int .i64 O, .int .i64 N, .int .i64 C, .bool F, .string D, .string X, .slice a m c] 24)
  go_enter Tryd.func3, Tryd.ntmps3
  go_upto_region 1 with (fail)
  generalize w.alloc _ = wa at *
  generalize hq : w.heap.size = q at *
  have HQ := Lib.hid hq
  have ROW := Lib.hid row
  have B := Lib.hid bel
  obtain ⟨c0, c1', c2', c3, c4, c5, c6, c7, c8⟩ := cells9 row
  clear row bel hq
  go_wp2_with fail
  with_reducible refine (DP.out wa B.out).mono ?_
  rintro e w2 ⟨rfl, hb2⟩
  have R2 := Lib.hid ((hb2.block _ (lt_row ROW.out)).trans ROW.out)
  have Q1 := Lib.hid (show q ≤ wa.heap.size by rw [← HQ.out]; exact B.out.size)
  have B2 := Lib.hid (B.out.trans (hb2.mono Q1.out))
  have Q2 := Lib.hid (Nat.le_trans Q1.out hb2.size)
  clear hb2 DP c0 c1' c2' c3 c4 c5 c6 c7 c8 ROW
  obtain ⟨c0, c1', c2', c3, c4, c5, c6, c7, c8⟩ := cells9 R2.out
  go_wp2_with fail
  with_reducible refine (TO.out w2 B2.out).mono ?_
  rintro e w3 ⟨v3, rfl, sp3, hb3⟩
  have R3 := Lib.hid ((hb3.block _ (lt_row R2.out)).trans R2.out)
  have B3 := Lib.hid (B2.out.trans (hb3.mono Q2.out))
  have Q3 := Lib.hid (Nat.le_trans Q2.out hb3.size)
  have SP3 := Lib.hid sp3
  clear hb3 sp3 c0 c1' c2' c3 c4 c5 c6 c7 c8
  obtain ⟨c0, c1', c2', c3, c4, c5, c6, c7, c8⟩ := cells9 R3.out
  go_wp2_with fail
  with_reducible refine (PU.out w3 v3 SP3.out (TB.out.later (by rw [HQ.out]; exact B3.out))).mono ?_
  rintro e w4 ⟨a4, n4, c44, rfl, cv4, hb4⟩
  have R4 := Lib.hid ((hb4.block _ (lt_row R3.out)).trans R3.out)
  have B4 := Lib.hid (B3.out.trans (hb4.mono Q3.out))
  have Q4 := Lib.hid (Nat.le_trans Q3.out hb4.size)
  have CV := Lib.hid cv4
  clear hb4 cv4 PU c0 c1' c2' c3 c4 c5 c6 c7 c8
  obtain ⟨c0, c1', c2', c3, c4, c5, c6, c7, c8⟩ := cells9 R4.out
  go_wp2_with fail
  with_reducible refine (framed_any w4 (TB.out.later (by rw [HQ.out]; exact B4.out))).mono ?_
  rintro e w5 ⟨rfl, hb5⟩
  have R5 := Lib.hid ((hb5.block _ (lt_row R4.out)).trans R4.out)
  have B5 := Lib.hid (B4.out.trans (hb5.mono Q4.out))
  have Q5 := Lib.hid (Nat.le_trans Q4.out hb5.size)
  have cv5 := CV.out w5 hb5
  clear hb5 c0 c1' c2' c3 c4 c5 c6 c7 c8
  obtain ⟨c0, c1', c2', c3, c4, c5, c6, c7, c8⟩ := cells9 R5.out
  go_wp2_with fail
  with_reducible refine (TO.out w5 B5.out).mono ?_
  rintro e w6 ⟨v6, rfl, sp6, hb6⟩
  have B6 := Lib.hid (B5.out.trans (hb6.mono Q5.out))
  have Q6 := Lib.hid (Nat.le_trans Q5.out hb6.size)
  clear hb6 sp6 cv5 c0 c1' c2' c3 c4 c5 c6 c7 c8
  go_wp2_with fail
  with_reducible refine (AS.out w6 v6).mono ?_
  rintro e w7 ⟨rfl, hb7⟩
  have B7 := Lib.hid (B6.out.trans (hb7.mono Q6.out))
  clear hb7
  go_wp2_with fail
  go_ret
  exact ⟨rfl, by rw [HQ.out]; exact B7.out⟩
set_option maxHeartbeats 16000000 in
theorem put_law_2 (S O N C : Int) (F : Bool) (D X : ByteArray) (A : List (Int × Int)) (u : Value) (w : World) (hu : SpansIn w u A) (hDm : D.size ≤ maxLen) (hXm : X.size ≤ maxLen) (h1 : -9223372036854775808 ≤ (2 : Int)) (h2 : (2 : Int) ≤ 9223372036854775807) (hn : A.length ≤ 10000000000000) (tab : Tab w) :
    Calls Tryd.prog 3 #[.agg (frC 2 S O N C F D X u)] w fun e w' => e = .returned (.bool true) ∧ Below w.heap.size w w' := by
  obtain ⟨a, c, rfl, _, _⟩ := hu.at_
  obtain ⟨SR, hSR⟩ : ∃ x, (putF ⟨2, S, O, N, C, F, D, X, A⟩).getD ⟨#[]⟩ = x := ⟨_, rfl⟩
  obtain ⟨er, her⟩ : ∃ x : Int, (if (putF ⟨2, S, O, N, C, F, D, X, A⟩).isSome then 0 else 2) = x := ⟨_, rfl⟩
  obtain ⟨m, hm⟩ : ∃ m, A.length = m := ⟨_, rfl⟩
  have DP := Lib.hid (fun (w' : World) (hb : Below w.heap.size w w') => (show Calls Tryd.prog 7 #[.agg (frC 2 S O N C F D X (.slice a m c))] w' fun e w'' => e = .returned (.tuple #[.string SR, .int .i64 er]) ∧ Below w'.heap.size w' w'' from by
    have h := docPut_any ⟨2, S, O, N, C, F, D, X, A⟩ (.slice a A.length c) w' (hu.later hb) hDm hXm
    rw [hSR, her, hm] at h
    exact h))
  have TO := Lib.hid (fun (w' : World) (hb : Below w.heap.size w w') => (show Calls Tryd.prog 9 #[.agg (frC 2 S O N C F D X (.slice a m c))] w' fun e w'' => ∃ v, e = .returned (.agg (frC 2 S O N C F D X v)) ∧ SpansIn w'' v A ∧ Below w'.heap.size w' w'' from by
    have h := to_any 2 S O N C F D X (.slice a A.length c) A w' (hu.later hb) hn
    rw [hm] at h
    exact h))
  have PU := Lib.hid (fun (w' : World) (v : Value) (hv : SpansIn w' v A) (tb : Tab w') => (show Calls Tryd.prog 8 #[.agg (frC 2 S O N C F D X v)] w' fun e w'' => ∃ a n c, e = .returned (.tuple #[.slice a n c, .int .i64 er]) ∧ (∀ w3, Below w''.heap.size w'' w3 → (convert 28 9 (.slice a n c)).run Tryd.prog w3 = .ok (.string SR) w3) ∧ Below w'.heap.size w' w'' from put_text ⟨2, S, O, N, C, F, D, X, A⟩ v w' hv hDm hXm h1 h2 tb SR er hSR her))
  have AS := Lib.hid (fun (w' : World) (v : Value) => (show Calls Tryd.prog 11 #[.agg (frC 2 S O N C F D X v)] w' fun e w'' => e = .returned (.bool false) ∧ Below w'.heap.size w' w'' from by
    have h := asks_any 2 S O N C F D X v w'
    rw [show (!((2 : Int) == 0 || (2 : Int) == 2 || (2 : Int) == 28 || (2 : Int) == 29)) = false from by decide] at h
    exact h))
  have TB := Lib.hid tab
  rw [hm]
  clear hu hDm hXm h1 h2 hn tab hSR her hm
  unfold frC at DP TO PU AS ⊢
  have row := heap_alloc_last w (.cells #[.int .i64 2, .int .i64 S, .int .i64 O, .int .i64 N, .int .i64 C, .bool F, .string D, .string X, .slice a m c] 24)
  have bel := (Below.refl w.heap.size w).alloc (Nat.le_refl _) (.cells #[.int .i64 2, .int .i64 S, .int .i64 O, .int .i64 N, .int .i64 C, .bool F, .string D, .string X, .slice a m c] 24)
  go_enter Tryd.func3, Tryd.ntmps3
  go_upto_region 1 with (fail)
  generalize w.alloc _ = wa at *
  generalize hq : w.heap.size = q at *
  have HQ := Lib.hid hq
  have ROW := Lib.hid row
  have B := Lib.hid bel
  obtain ⟨c0, c1', c2', c3, c4, c5, c6, c7, c8⟩ := cells9 row
  clear row bel hq
  go_wp2_with fail
  with_reducible refine (DP.out wa B.out).mono ?_
  rintro e w2 ⟨rfl, hb2⟩
  have R2 := Lib.hid ((hb2.block _ (lt_row ROW.out)).trans ROW.out)
  have Q1 := Lib.hid (show q ≤ wa.heap.size by rw [← HQ.out]; exact B.out.size)
  have B2 := Lib.hid (B.out.trans (hb2.mono Q1.out))
  have Q2 := Lib.hid (Nat.le_trans Q1.out hb2.size)
  clear hb2 DP c0 c1' c2' c3 c4 c5 c6 c7 c8 ROW
  obtain ⟨c0, c1', c2', c3, c4, c5, c6, c7, c8⟩ := cells9 R2.out
  go_wp2_with fail
  with_reducible refine (TO.out w2 B2.out).mono ?_
  rintro e w3 ⟨v3, rfl, sp3, hb3⟩
  have R3 := Lib.hid ((hb3.block _ (lt_row R2.out)).trans R2.out)
  have B3 := Lib.hid (B2.out.trans (hb3.mono Q2.out))
  have Q3 := Lib.hid (Nat.le_trans Q2.out hb3.size)
  have SP3 := Lib.hid sp3
  clear hb3 sp3 c0 c1' c2' c3 c4 c5 c6 c7 c8
  obtain ⟨c0, c1', c2', c3, c4, c5, c6, c7, c8⟩ := cells9 R3.out
  go_wp2_with fail
  with_reducible refine (PU.out w3 v3 SP3.out (TB.out.later (by rw [HQ.out]; exact B3.out))).mono ?_
  rintro e w4 ⟨a4, n4, c44, rfl, cv4, hb4⟩
  have R4 := Lib.hid ((hb4.block _ (lt_row R3.out)).trans R3.out)
  have B4 := Lib.hid (B3.out.trans (hb4.mono Q3.out))
  have Q4 := Lib.hid (Nat.le_trans Q3.out hb4.size)
  have CV := Lib.hid cv4
  clear hb4 cv4 PU c0 c1' c2' c3 c4 c5 c6 c7 c8
  obtain ⟨c0, c1', c2', c3, c4, c5, c6, c7, c8⟩ := cells9 R4.out
  go_wp2_with fail
  with_reducible refine (framed_any w4 (TB.out.later (by rw [HQ.out]; exact B4.out))).mono ?_
  rintro e w5 ⟨rfl, hb5⟩
  have R5 := Lib.hid ((hb5.block _ (lt_row R4.out)).trans R4.out)
  have B5 := Lib.hid (B4.out.trans (hb5.mono Q4.out))
  have Q5 := Lib.hid (Nat.le_trans Q4.out hb5.size)
  have cv5 := CV.out w5 hb5
  clear hb5 c0 c1' c2' c3 c4 c5 c6 c7 c8
  obtain ⟨c0, c1', c2', c3, c4, c5, c6, c7, c8⟩ := cells9 R5.out
  go_wp2_with fail
  with_reducible refine (TO.out w5 B5.out).mono ?_
  rintro e w6 ⟨v6, rfl, sp6, hb6⟩
  have B6 := Lib.hid (B5.out.trans (hb6.mono Q5.out))
  have Q6 := Lib.hid (Nat.le_trans Q5.out hb6.size)
  clear hb6 sp6 cv5 c0 c1' c2' c3 c4 c5 c6 c7 c8
  go_wp2_with fail
  with_reducible refine (AS.out w6 v6).mono ?_
  rintro e w7 ⟨rfl, hb7⟩
  have B7 := Lib.hid (B6.out.trans (hb7.mono Q6.out))
  clear hb7
  go_wp2_with fail
  go_ret
  exact ⟨rfl, by rw [HQ.out]; exact B7.out⟩
set_option maxHeartbeats 16000000 in
theorem put_law_28 (S O N C : Int) (F : Bool) (D X : ByteArray) (A : List (Int × Int)) (u : Value) (w : World) (hu : SpansIn w u A) (hDm : D.size ≤ maxLen) (hXm : X.size ≤ maxLen) (h1 : -9223372036854775808 ≤ (28 : Int)) (h2 : (28 : Int) ≤ 9223372036854775807) (hn : A.length ≤ 10000000000000) (tab : Tab w) :
    Calls Tryd.prog 3 #[.agg (frC 28 S O N C F D X u)] w fun e w' => e = .returned (.bool true) ∧ Below w.heap.size w w' := by
  obtain ⟨a, c, rfl, _, _⟩ := hu.at_
  obtain ⟨SR, hSR⟩ : ∃ x, (putF ⟨28, S, O, N, C, F, D, X, A⟩).getD ⟨#[]⟩ = x := ⟨_, rfl⟩
  obtain ⟨er, her⟩ : ∃ x : Int, (if (putF ⟨28, S, O, N, C, F, D, X, A⟩).isSome then 0 else 2) = x := ⟨_, rfl⟩
  obtain ⟨m, hm⟩ : ∃ m, A.length = m := ⟨_, rfl⟩
  have DP := Lib.hid (fun (w' : World) (hb : Below w.heap.size w w') => (show Calls Tryd.prog 7 #[.agg (frC 28 S O N C F D X (.slice a m c))] w' fun e w'' => e = .returned (.tuple #[.string SR, .int .i64 er]) ∧ Below w'.heap.size w' w'' from by
    have h := docPut_any ⟨28, S, O, N, C, F, D, X, A⟩ (.slice a A.length c) w' (hu.later hb) hDm hXm
    rw [hSR, her, hm] at h
    exact h))
  have TO := Lib.hid (fun (w' : World) (hb : Below w.heap.size w w') => (show Calls Tryd.prog 9 #[.agg (frC 28 S O N C F D X (.slice a m c))] w' fun e w'' => ∃ v, e = .returned (.agg (frC 28 S O N C F D X v)) ∧ SpansIn w'' v A ∧ Below w'.heap.size w' w'' from by
    have h := to_any 28 S O N C F D X (.slice a A.length c) A w' (hu.later hb) hn
    rw [hm] at h
    exact h))
  have PU := Lib.hid (fun (w' : World) (v : Value) (hv : SpansIn w' v A) (tb : Tab w') => (show Calls Tryd.prog 8 #[.agg (frC 28 S O N C F D X v)] w' fun e w'' => ∃ a n c, e = .returned (.tuple #[.slice a n c, .int .i64 er]) ∧ (∀ w3, Below w''.heap.size w'' w3 → (convert 28 9 (.slice a n c)).run Tryd.prog w3 = .ok (.string SR) w3) ∧ Below w'.heap.size w' w'' from put_text ⟨28, S, O, N, C, F, D, X, A⟩ v w' hv hDm hXm h1 h2 tb SR er hSR her))
  have AS := Lib.hid (fun (w' : World) (v : Value) => (show Calls Tryd.prog 11 #[.agg (frC 28 S O N C F D X v)] w' fun e w'' => e = .returned (.bool false) ∧ Below w'.heap.size w' w'' from by
    have h := asks_any 28 S O N C F D X v w'
    rw [show (!((28 : Int) == 0 || (28 : Int) == 2 || (28 : Int) == 28 || (28 : Int) == 29)) = false from by decide] at h
    exact h))
  have TB := Lib.hid tab
  rw [hm]
  clear hu hDm hXm h1 h2 hn tab hSR her hm
  unfold frC at DP TO PU AS ⊢
  have row := heap_alloc_last w (.cells #[.int .i64 28, .int .i64 S, .int .i64 O, .int .i64 N, .int .i64 C, .bool F, .string D, .string X, .slice a m c] 24)
  have bel := (Below.refl w.heap.size w).alloc (Nat.le_refl _) (.cells #[.int .i64 28, .int .i64 S, .int .i64 O, .int .i64 N, .int .i64 C, .bool F, .string D, .string X, .slice a m c] 24)
  go_enter Tryd.func3, Tryd.ntmps3
  go_upto_region 1 with (fail)
  generalize w.alloc _ = wa at *
  generalize hq : w.heap.size = q at *
  have HQ := Lib.hid hq
  have ROW := Lib.hid row
  have B := Lib.hid bel
  obtain ⟨c0, c1', c2', c3, c4, c5, c6, c7, c8⟩ := cells9 row
  clear row bel hq
  go_wp2_with fail
  with_reducible refine (DP.out wa B.out).mono ?_
  rintro e w2 ⟨rfl, hb2⟩
  have R2 := Lib.hid ((hb2.block _ (lt_row ROW.out)).trans ROW.out)
  have Q1 := Lib.hid (show q ≤ wa.heap.size by rw [← HQ.out]; exact B.out.size)
  have B2 := Lib.hid (B.out.trans (hb2.mono Q1.out))
  have Q2 := Lib.hid (Nat.le_trans Q1.out hb2.size)
  clear hb2 DP c0 c1' c2' c3 c4 c5 c6 c7 c8 ROW
  obtain ⟨c0, c1', c2', c3, c4, c5, c6, c7, c8⟩ := cells9 R2.out
  go_wp2_with fail
  with_reducible refine (TO.out w2 B2.out).mono ?_
  rintro e w3 ⟨v3, rfl, sp3, hb3⟩
  have R3 := Lib.hid ((hb3.block _ (lt_row R2.out)).trans R2.out)
  have B3 := Lib.hid (B2.out.trans (hb3.mono Q2.out))
  have Q3 := Lib.hid (Nat.le_trans Q2.out hb3.size)
  have SP3 := Lib.hid sp3
  clear hb3 sp3 c0 c1' c2' c3 c4 c5 c6 c7 c8
  obtain ⟨c0, c1', c2', c3, c4, c5, c6, c7, c8⟩ := cells9 R3.out
  go_wp2_with fail
  with_reducible refine (PU.out w3 v3 SP3.out (TB.out.later (by rw [HQ.out]; exact B3.out))).mono ?_
  rintro e w4 ⟨a4, n4, c44, rfl, cv4, hb4⟩
  have R4 := Lib.hid ((hb4.block _ (lt_row R3.out)).trans R3.out)
  have B4 := Lib.hid (B3.out.trans (hb4.mono Q3.out))
  have Q4 := Lib.hid (Nat.le_trans Q3.out hb4.size)
  have CV := Lib.hid cv4
  clear hb4 cv4 PU c0 c1' c2' c3 c4 c5 c6 c7 c8
  obtain ⟨c0, c1', c2', c3, c4, c5, c6, c7, c8⟩ := cells9 R4.out
  go_wp2_with fail
  with_reducible refine (framed_any w4 (TB.out.later (by rw [HQ.out]; exact B4.out))).mono ?_
  rintro e w5 ⟨rfl, hb5⟩
  have R5 := Lib.hid ((hb5.block _ (lt_row R4.out)).trans R4.out)
  have B5 := Lib.hid (B4.out.trans (hb5.mono Q4.out))
  have Q5 := Lib.hid (Nat.le_trans Q4.out hb5.size)
  have cv5 := CV.out w5 hb5
  clear hb5 c0 c1' c2' c3 c4 c5 c6 c7 c8
  obtain ⟨c0, c1', c2', c3, c4, c5, c6, c7, c8⟩ := cells9 R5.out
  go_wp2_with fail
  with_reducible refine (TO.out w5 B5.out).mono ?_
  rintro e w6 ⟨v6, rfl, sp6, hb6⟩
  have B6 := Lib.hid (B5.out.trans (hb6.mono Q5.out))
  have Q6 := Lib.hid (Nat.le_trans Q5.out hb6.size)
  clear hb6 sp6 cv5 c0 c1' c2' c3 c4 c5 c6 c7 c8
  go_wp2_with fail
  with_reducible refine (AS.out w6 v6).mono ?_
  rintro e w7 ⟨rfl, hb7⟩
  have B7 := Lib.hid (B6.out.trans (hb7.mono Q6.out))
  clear hb7
  go_wp2_with fail
  go_ret
  exact ⟨rfl, by rw [HQ.out]; exact B7.out⟩
set_option maxHeartbeats 16000000 in
theorem put_law_29 (S O N C : Int) (F : Bool) (D X : ByteArray) (A : List (Int × Int)) (u : Value) (w : World) (hu : SpansIn w u A) (hDm : D.size ≤ maxLen) (hXm : X.size ≤ maxLen) (h1 : -9223372036854775808 ≤ (29 : Int)) (h2 : (29 : Int) ≤ 9223372036854775807) (hn : A.length ≤ 10000000000000) (tab : Tab w) :
    Calls Tryd.prog 3 #[.agg (frC 29 S O N C F D X u)] w fun e w' => e = .returned (.bool true) ∧ Below w.heap.size w w' := by
  obtain ⟨a, c, rfl, _, _⟩ := hu.at_
  obtain ⟨SR, hSR⟩ : ∃ x, (putF ⟨29, S, O, N, C, F, D, X, A⟩).getD ⟨#[]⟩ = x := ⟨_, rfl⟩
  obtain ⟨er, her⟩ : ∃ x : Int, (if (putF ⟨29, S, O, N, C, F, D, X, A⟩).isSome then 0 else 2) = x := ⟨_, rfl⟩
  obtain ⟨m, hm⟩ : ∃ m, A.length = m := ⟨_, rfl⟩
  have DP := Lib.hid (fun (w' : World) (hb : Below w.heap.size w w') => (show Calls Tryd.prog 7 #[.agg (frC 29 S O N C F D X (.slice a m c))] w' fun e w'' => e = .returned (.tuple #[.string SR, .int .i64 er]) ∧ Below w'.heap.size w' w'' from by
    have h := docPut_any ⟨29, S, O, N, C, F, D, X, A⟩ (.slice a A.length c) w' (hu.later hb) hDm hXm
    rw [hSR, her, hm] at h
    exact h))
  have TO := Lib.hid (fun (w' : World) (hb : Below w.heap.size w w') => (show Calls Tryd.prog 9 #[.agg (frC 29 S O N C F D X (.slice a m c))] w' fun e w'' => ∃ v, e = .returned (.agg (frC 29 S O N C F D X v)) ∧ SpansIn w'' v A ∧ Below w'.heap.size w' w'' from by
    have h := to_any 29 S O N C F D X (.slice a A.length c) A w' (hu.later hb) hn
    rw [hm] at h
    exact h))
  have PU := Lib.hid (fun (w' : World) (v : Value) (hv : SpansIn w' v A) (tb : Tab w') => (show Calls Tryd.prog 8 #[.agg (frC 29 S O N C F D X v)] w' fun e w'' => ∃ a n c, e = .returned (.tuple #[.slice a n c, .int .i64 er]) ∧ (∀ w3, Below w''.heap.size w'' w3 → (convert 28 9 (.slice a n c)).run Tryd.prog w3 = .ok (.string SR) w3) ∧ Below w'.heap.size w' w'' from put_text ⟨29, S, O, N, C, F, D, X, A⟩ v w' hv hDm hXm h1 h2 tb SR er hSR her))
  have AS := Lib.hid (fun (w' : World) (v : Value) => (show Calls Tryd.prog 11 #[.agg (frC 29 S O N C F D X v)] w' fun e w'' => e = .returned (.bool false) ∧ Below w'.heap.size w' w'' from by
    have h := asks_any 29 S O N C F D X v w'
    rw [show (!((29 : Int) == 0 || (29 : Int) == 2 || (29 : Int) == 28 || (29 : Int) == 29)) = false from by decide] at h
    exact h))
  have TB := Lib.hid tab
  rw [hm]
  clear hu hDm hXm h1 h2 hn tab hSR her hm
  unfold frC at DP TO PU AS ⊢
  have row := heap_alloc_last w (.cells #[.int .i64 29, .int .i64 S, .int .i64 O, .int .i64 N, .int .i64 C, .bool F, .string D, .string X, .slice a m c] 24)
  have bel := (Below.refl w.heap.size w).alloc (Nat.le_refl _) (.cells #[.int .i64 29, .int .i64 S, .int .i64 O, .int .i64 N, .int .i64 C, .bool F, .string D, .string X, .slice a m c] 24)
  go_enter Tryd.func3, Tryd.ntmps3
  go_upto_region 1 with (fail)
  generalize w.alloc _ = wa at *
  generalize hq : w.heap.size = q at *
  have HQ := Lib.hid hq
  have ROW := Lib.hid row
  have B := Lib.hid bel
  obtain ⟨c0, c1', c2', c3, c4, c5, c6, c7, c8⟩ := cells9 row
  clear row bel hq
  go_wp2_with fail
  with_reducible refine (DP.out wa B.out).mono ?_
  rintro e w2 ⟨rfl, hb2⟩
  have R2 := Lib.hid ((hb2.block _ (lt_row ROW.out)).trans ROW.out)
  have Q1 := Lib.hid (show q ≤ wa.heap.size by rw [← HQ.out]; exact B.out.size)
  have B2 := Lib.hid (B.out.trans (hb2.mono Q1.out))
  have Q2 := Lib.hid (Nat.le_trans Q1.out hb2.size)
  clear hb2 DP c0 c1' c2' c3 c4 c5 c6 c7 c8 ROW
  obtain ⟨c0, c1', c2', c3, c4, c5, c6, c7, c8⟩ := cells9 R2.out
  go_wp2_with fail
  with_reducible refine (TO.out w2 B2.out).mono ?_
  rintro e w3 ⟨v3, rfl, sp3, hb3⟩
  have R3 := Lib.hid ((hb3.block _ (lt_row R2.out)).trans R2.out)
  have B3 := Lib.hid (B2.out.trans (hb3.mono Q2.out))
  have Q3 := Lib.hid (Nat.le_trans Q2.out hb3.size)
  have SP3 := Lib.hid sp3
  clear hb3 sp3 c0 c1' c2' c3 c4 c5 c6 c7 c8
  obtain ⟨c0, c1', c2', c3, c4, c5, c6, c7, c8⟩ := cells9 R3.out
  go_wp2_with fail
  with_reducible refine (PU.out w3 v3 SP3.out (TB.out.later (by rw [HQ.out]; exact B3.out))).mono ?_
  rintro e w4 ⟨a4, n4, c44, rfl, cv4, hb4⟩
  have R4 := Lib.hid ((hb4.block _ (lt_row R3.out)).trans R3.out)
  have B4 := Lib.hid (B3.out.trans (hb4.mono Q3.out))
  have Q4 := Lib.hid (Nat.le_trans Q3.out hb4.size)
  have CV := Lib.hid cv4
  clear hb4 cv4 PU c0 c1' c2' c3 c4 c5 c6 c7 c8
  obtain ⟨c0, c1', c2', c3, c4, c5, c6, c7, c8⟩ := cells9 R4.out
  go_wp2_with fail
  with_reducible refine (framed_any w4 (TB.out.later (by rw [HQ.out]; exact B4.out))).mono ?_
  rintro e w5 ⟨rfl, hb5⟩
  have R5 := Lib.hid ((hb5.block _ (lt_row R4.out)).trans R4.out)
  have B5 := Lib.hid (B4.out.trans (hb5.mono Q4.out))
  have Q5 := Lib.hid (Nat.le_trans Q4.out hb5.size)
  have cv5 := CV.out w5 hb5
  clear hb5 c0 c1' c2' c3 c4 c5 c6 c7 c8
  obtain ⟨c0, c1', c2', c3, c4, c5, c6, c7, c8⟩ := cells9 R5.out
  go_wp2_with fail
  with_reducible refine (TO.out w5 B5.out).mono ?_
  rintro e w6 ⟨v6, rfl, sp6, hb6⟩
  have B6 := Lib.hid (B5.out.trans (hb6.mono Q5.out))
  have Q6 := Lib.hid (Nat.le_trans Q5.out hb6.size)
  clear hb6 sp6 cv5 c0 c1' c2' c3 c4 c5 c6 c7 c8
  go_wp2_with fail
  with_reducible refine (AS.out w6 v6).mono ?_
  rintro e w7 ⟨rfl, hb7⟩
  have B7 := Lib.hid (B6.out.trans (hb7.mono Q6.out))
  clear hb7
  go_wp2_with fail
  go_ret
  exact ⟨rfl, by rw [HQ.out]; exact B7.out⟩
set_option maxHeartbeats 16000000 in
theorem put_law_x (K S O N C : Int) (F : Bool) (D X : ByteArray) (A : List (Int × Int)) (u : Value) (w : World) (k0 : ¬ K = 0) (k2 : ¬ K = 2) (k28 : ¬ K = 28) (k29 : ¬ K = 29) (hu : SpansIn w u A) (hDm : D.size ≤ maxLen) (hXm : X.size ≤ maxLen) (h1 : -9223372036854775808 ≤ (K : Int)) (h2 : (K : Int) ≤ 9223372036854775807) (hn : A.length ≤ 10000000000000) (tab : Tab w) :
    Calls Tryd.prog 3 #[.agg (frC K S O N C F D X u)] w fun e w' => e = .returned (.bool true) ∧ Below w.heap.size w w' := by
  obtain ⟨a, c, rfl, _, _⟩ := hu.at_
  obtain ⟨SR, hSR⟩ : ∃ x, (putF ⟨K, S, O, N, C, F, D, X, A⟩).getD ⟨#[]⟩ = x := ⟨_, rfl⟩
  obtain ⟨er, her⟩ : ∃ x : Int, (if (putF ⟨K, S, O, N, C, F, D, X, A⟩).isSome then 0 else 2) = x := ⟨_, rfl⟩
  obtain ⟨m, hm⟩ : ∃ m, A.length = m := ⟨_, rfl⟩
  have DP := Lib.hid (fun (w' : World) (hb : Below w.heap.size w w') => (show Calls Tryd.prog 7 #[.agg (frC K S O N C F D X (.slice a m c))] w' fun e w'' => e = .returned (.tuple #[.string SR, .int .i64 er]) ∧ Below w'.heap.size w' w'' from by
    have h := docPut_any ⟨K, S, O, N, C, F, D, X, A⟩ (.slice a A.length c) w' (hu.later hb) hDm hXm
    rw [hSR, her, hm] at h
    exact h))
  have TO := Lib.hid (fun (w' : World) (hb : Below w.heap.size w w') => (show Calls Tryd.prog 9 #[.agg (frC K S O N C F D X (.slice a m c))] w' fun e w'' => ∃ v, e = .returned (.agg (frC K S O N C F D X v)) ∧ SpansIn w'' v A ∧ Below w'.heap.size w' w'' from by
    have h := to_any K S O N C F D X (.slice a A.length c) A w' (hu.later hb) hn
    rw [hm] at h
    exact h))
  have PU := Lib.hid (fun (w' : World) (v : Value) (hv : SpansIn w' v A) (tb : Tab w') => (show Calls Tryd.prog 8 #[.agg (frC K S O N C F D X v)] w' fun e w'' => ∃ a n c, e = .returned (.tuple #[.slice a n c, .int .i64 er]) ∧ (∀ w3, Below w''.heap.size w'' w3 → (convert 28 9 (.slice a n c)).run Tryd.prog w3 = .ok (.string SR) w3) ∧ Below w'.heap.size w' w'' from put_text ⟨K, S, O, N, C, F, D, X, A⟩ v w' hv hDm hXm h1 h2 tb SR er hSR her))
  have AS := Lib.hid (fun (w' : World) (v : Value) => (show Calls Tryd.prog 11 #[.agg (frC K S O N C F D X v)] w' fun e w'' => e = .returned (.bool true) ∧ Below w'.heap.size w' w'' from by
    have h := asks_any K S O N C F D X v w'
    rw [show (!((K : Int) == 0 || (K : Int) == 2 || (K : Int) == 28 || (K : Int) == 29)) = true from by simp [k0, k2, k28, k29]] at h
    exact h))
  have TB := Lib.hid tab
  rw [hm]
  have e0 : (K == 0) = false := by simp [k0]
  have e2 : (K == 2) = false := by simp [k2]
  have e28 : (K == 28) = false := by simp [k28]
  have e29 : (K == 29) = false := by simp [k29]
  clear hu hDm hXm h1 h2 hn tab hSR her hm
  unfold frC at DP TO PU AS ⊢
  have row := heap_alloc_last w (.cells #[.int .i64 K, .int .i64 S, .int .i64 O, .int .i64 N, .int .i64 C, .bool F, .string D, .string X, .slice a m c] 24)
  have bel := (Below.refl w.heap.size w).alloc (Nat.le_refl _) (.cells #[.int .i64 K, .int .i64 S, .int .i64 O, .int .i64 N, .int .i64 C, .bool F, .string D, .string X, .slice a m c] 24)
  go_enter Tryd.func3, Tryd.ntmps3
  go_upto_region 1 with (fail)
  generalize w.alloc _ = wa at *
  generalize hq : w.heap.size = q at *
  have HQ := Lib.hid hq
  have ROW := Lib.hid row
  have B := Lib.hid bel
  obtain ⟨c0, c1', c2', c3, c4, c5, c6, c7, c8⟩ := cells9 row
  clear row bel hq
  go_wp2_with fail
  with_reducible refine (DP.out wa B.out).mono ?_
  rintro e w2 ⟨rfl, hb2⟩
  have R2 := Lib.hid ((hb2.block _ (lt_row ROW.out)).trans ROW.out)
  have Q1 := Lib.hid (show q ≤ wa.heap.size by rw [← HQ.out]; exact B.out.size)
  have B2 := Lib.hid (B.out.trans (hb2.mono Q1.out))
  have Q2 := Lib.hid (Nat.le_trans Q1.out hb2.size)
  clear hb2 DP c0 c1' c2' c3 c4 c5 c6 c7 c8 ROW
  obtain ⟨c0, c1', c2', c3, c4, c5, c6, c7, c8⟩ := cells9 R2.out
  go_wp2_with fail
  with_reducible refine (TO.out w2 B2.out).mono ?_
  rintro e w3 ⟨v3, rfl, sp3, hb3⟩
  have R3 := Lib.hid ((hb3.block _ (lt_row R2.out)).trans R2.out)
  have B3 := Lib.hid (B2.out.trans (hb3.mono Q2.out))
  have Q3 := Lib.hid (Nat.le_trans Q2.out hb3.size)
  have SP3 := Lib.hid sp3
  clear hb3 sp3 c0 c1' c2' c3 c4 c5 c6 c7 c8
  obtain ⟨c0, c1', c2', c3, c4, c5, c6, c7, c8⟩ := cells9 R3.out
  go_wp2_with fail
  with_reducible refine (PU.out w3 v3 SP3.out (TB.out.later (by rw [HQ.out]; exact B3.out))).mono ?_
  rintro e w4 ⟨a4, n4, c44, rfl, cv4, hb4⟩
  have R4 := Lib.hid ((hb4.block _ (lt_row R3.out)).trans R3.out)
  have B4 := Lib.hid (B3.out.trans (hb4.mono Q3.out))
  have Q4 := Lib.hid (Nat.le_trans Q3.out hb4.size)
  have CV := Lib.hid cv4
  clear hb4 cv4 PU c0 c1' c2' c3 c4 c5 c6 c7 c8
  obtain ⟨c0, c1', c2', c3, c4, c5, c6, c7, c8⟩ := cells9 R4.out
  go_wp2_with fail
  with_reducible refine (framed_any w4 (TB.out.later (by rw [HQ.out]; exact B4.out))).mono ?_
  rintro e w5 ⟨rfl, hb5⟩
  have R5 := Lib.hid ((hb5.block _ (lt_row R4.out)).trans R4.out)
  have B5 := Lib.hid (B4.out.trans (hb5.mono Q4.out))
  have Q5 := Lib.hid (Nat.le_trans Q4.out hb5.size)
  have cv5 := CV.out w5 hb5
  clear hb5 c0 c1' c2' c3 c4 c5 c6 c7 c8
  obtain ⟨c0, c1', c2', c3, c4, c5, c6, c7, c8⟩ := cells9 R5.out
  go_wp2_with fail
  with_reducible refine (TO.out w5 B5.out).mono ?_
  rintro e w6 ⟨v6, rfl, sp6, hb6⟩
  have B6 := Lib.hid (B5.out.trans (hb6.mono Q5.out))
  have Q6 := Lib.hid (Nat.le_trans Q5.out hb6.size)
  clear hb6 sp6 cv5 c0 c1' c2' c3 c4 c5 c6 c7 c8
  go_wp2_with fail
  with_reducible refine (AS.out w6 v6).mono ?_
  rintro e w7 ⟨rfl, hb7⟩
  have B7 := Lib.hid (B6.out.trans (hb7.mono Q6.out))
  clear hb7
  go_wp2_with fail
  go_ret
  exact ⟨rfl, by rw [HQ.out]; exact B7.out⟩
theorem put_law (f : Fr) (u : Value) (w : World) (hu : SpansIn w u f.A) (hDm : f.D.size ≤ maxLen) (hXm : f.X.size ≤ maxLen) (h1 : -9223372036854775808 ≤ f.K) (h2 : f.K ≤ 9223372036854775807) (hn : f.A.length ≤ 10000000000000) (tab : Tab w) :
    Calls Tryd.prog 3 #[.agg (f.cells u)] w fun e w' => e = .returned (.bool true) ∧ Below w.heap.size w w' := by
  obtain ⟨K, S, O, N, C, F, D, X, A⟩ := f
  dsimp only at hu hDm hXm h1 h2 hn
  show Calls Tryd.prog 3 #[.agg (frC K S O N C F D X u)] w _
  by_cases k0 : K = 0
  · subst k0; exact put_law_0 S O N C F D X A u w hu hDm hXm h1 h2 hn tab
  by_cases k2 : K = 2
  · subst k2; exact put_law_2 S O N C F D X A u w hu hDm hXm h1 h2 hn tab
  by_cases k28 : K = 28
  · subst k28; exact put_law_28 S O N C F D X A u w hu hDm hXm h1 h2 hn tab
  by_cases k29 : K = 29
  · subst k29; exact put_law_29 S O N C F D X A u w hu hDm hXm h1 h2 hn tab
  exact put_law_x K S O N C F D X A u w k0 k2 k28 k29 hu hDm hXm h1 h2 hn tab
end Go.Proofs.YtcgbhcmgddgheabDoor
