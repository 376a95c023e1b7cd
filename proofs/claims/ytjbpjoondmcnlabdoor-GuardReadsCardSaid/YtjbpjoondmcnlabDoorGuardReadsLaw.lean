/-
  Of all keys, bytes, places and expected numbers Open tells what the chapter does; the table of sha's constants holds what the program's text lays.
-/
import Derived.Test.YtjbpjoondmcnlabDoorRows
import Derived.Test.YtjbpjoondmcnlabDoorCards
import Derived.Test.YtjbpjoondmcnlabDoorTie
import Derived.Test.YtjbpjoondmcnlabDoorMg01
import Derived.Test.YtjbpjoondmcnlabDoorGoE
import Derived.Test.YtjbpjoondmcnlabDoorMg07
import Derived.WalkKit
import Derived.ProofKit
import Derived.OpenShut
import Derived.ShutString
import Derived.ChangeOld
import Derived.Below
import Derived.Deep.DeepCutAuto
import Derived.Deep.Upon
import Derived.Deep.AppendSrc
import Derived.SevenTiedAt
import Derived.LaidMore
import Derived.SizedLaws
import Derived.Lib.SmallJoins
namespace Go.Proofs.YtjbpjoondmcnlabDoor.guardReads
open Go Go.ChangeShapes Go.WideShapes Go.ChangeAt Go.RowKit Go.BigFrame
set_option linter.unusedVariables false
set_option maxRecDepth 100000 in
set_option maxHeartbeats 16000000 in
theorem law_any (K I M : ByteArray) (a : Option Addr) (n c : Nat) (f : Nat → BitVec 8) (P E : Int) (hP : P ≤ 9223372036854775807) (w : World) (hf : BytesIn w a n f) (hnc : n ≤ c) (hcm : c ≤ maxLen) (T : TabK w) :
    Calls Tryd.prog 4 #[.agg (slC K I M a n c P E)] w fun e w' => e = .returned (.bool true) ∧ Below w.heap.size w w' := by
  have R0 : (w.alloc (.cells (slC K I M a n c P E) 38)).heap[w.heap.size]? = some (.cells (slC K I M a n c P E) 38 (0, 0)) := heap_alloc_last _ _
  have hb1 : Below w.heap.size w (w.alloc (.cells (slC K I M a n c P E) 38)) := (Below.refl w.heap.size w).alloc (Nat.le_refl _) _
  have HL := Lib.hid (show w.heap.size < (w.alloc (.cells (slC K I M a n c P E) 38)).heap.size by simp)
  have CC := Lib.hid (sl_cells R0)
  have GD := Lib.hid (guards_any (w.alloc (.cells (slC K I M a n c P E) 38)) (T.later hb1))
  have HB := Lib.hid hb1
  obtain ⟨m, hm⟩ : ∃ m, min n 200 = m := ⟨_, rfl⟩
  have hmn : m ≤ n := by omega
  have hm2 : m ≤ 200 := by omega
  have su := fun w' => run_upto_at w' a m n c (m : Int) rfl hmn hnc
  have hE : (if (200 : Int) < (n : Int) then (200 : Int) else (n : Int)) = (m : Int) := by split <;> omega
  have HF := Lib.hid (bytesIn_upto hf hmn)
  have HMC := Lib.hid (show m ≤ c by omega)
  have HCM := Lib.hid hcm
  have OB := Lib.hid (fun w' => opens_both K I M f m (by omega) P E hP w')
  clear R0 hb1 T hf hcm hm
  unfold slC kysC at *
  go_enter Tryd.func4, Tryd.ntmps4
  go_upto_region 3 with (go_at_call 8; refine GD.out.mono ?_; rintro e w1 ⟨rfl, hb⟩; have B1 := Lib.hid (HB.out.trans (hb.mono HB.out.size)); have L1 := Lib.hid (Nat.lt_of_lt_of_le HL.out hb.size); have K1 := Lib.hid (fun (i : Nat) => hb.cell (p := ⟨w.heap.size, i, none⟩) HL.out); clear hb)
  have C1 := Lib.hid (fun (w' : World) (h : Below w1.heap.size w1 w') => show w'.cell? ⟨w.heap.size, 0, none⟩ = some (.string K) ∧ w'.cell? ⟨w.heap.size, 1, none⟩ = some (.string I) ∧ w'.cell? ⟨w.heap.size, 2, none⟩ = some (.string M) ∧ w'.cell? ⟨w.heap.size, 3, none⟩ = some (.slice a n c) ∧ w'.cell? ⟨w.heap.size, 4, none⟩ = some (.int .i64 P) ∧ w'.cell? ⟨w.heap.size, 5, none⟩ = some (.int .i64 E) from
    ⟨(h.cell (p := ⟨w.heap.size, 0, none⟩) L1.out).trans ((K1.out 0).trans CC.out.1), (h.cell (p := ⟨w.heap.size, 1, none⟩) L1.out).trans ((K1.out 1).trans CC.out.2.1), (h.cell (p := ⟨w.heap.size, 2, none⟩) L1.out).trans ((K1.out 2).trans CC.out.2.2.1), (h.cell (p := ⟨w.heap.size, 3, none⟩) L1.out).trans ((K1.out 3).trans CC.out.2.2.2.1), (h.cell (p := ⟨w.heap.size, 4, none⟩) L1.out).trans ((K1.out 4).trans CC.out.2.2.2.2.1), (h.cell (p := ⟨w.heap.size, 5, none⟩) L1.out).trans ((K1.out 5).trans CC.out.2.2.2.2.2)⟩)
  clear GD HB HL CC K1
  obtain ⟨c0, c1, c2, c3, c4, c5⟩ := C1.out w1 (Below.refl _ _)
  have IN1 := Lib.hid (bytesIn_later HF.out B1.out)
  have CV := Lib.hid (fun (w' : World) (h : Below w1.heap.size w1 w') => conv_in f a m c w' (bytesIn_later IN1.out h))
  have OP := Lib.hid (fun (T1 : ByteArray) (N : Int) (T2 : ByteArray) (r : Int) (h : OpensTo K I M f m P E T1 N T2 r) (w' : World) (hb : Below w1.heap.size w1 w') => h w' a c HMC.out HCM.out (bytesIn_later IN1.out hb))
  unfold kysC at OP
  clear IN1 HF
  generalize strOf f m = SX at *
  have cv := CV.out w1 (Below.refl _ _)
  go_upto_region 5 with (go_at_call 13; refine (OB.out _).mono ?_; rintro e wd ⟨T1, N, T2, r, rfl, hb2, ho⟩; have b2 := Lib.hid hb2; have HO := Lib.hid ho; clear hb2 ho)
  clear cv OB c0 c1 c2 c3 c4 c5 hE su
  have OP2 := Lib.hid (OP.out T1 N T2 r HO.out)
  clear HO OP
  refine region_anyM mixedOrders ?_
  refine anyM_take (i := 0) (oi := ⟨some 36, _, _, _, _, _⟩) (v := .pointer (some ⟨w.heap.size, 0, none⟩)) rfl (by kernel_rfl) (by kernel_rfl) (by kernel_rfl) (fun _ _ _ h => h) (.inl ⟨by rfl, fun w2 hw2 => ?_⟩) ?_
  · clear hw2
    go_simp
  simp only [Act.put, List.setIfInBounds_toArray, List.set_cons_succ, List.set_cons_zero]
  refine anyM_take (i := 1) (oi := ⟨some 37, _, _, _, _, _⟩) (v := .agg #[.string K, .string I, .string M]) rfl (by kernel_rfl) (by kernel_rfl) (by kernel_rfl) (fun _ _ _ h => h) (.inl ⟨by rfl, fun w2 hw2 => ?_⟩) ?_
  · have hx : Below wd.drew.heap.size wd.drew w2 := hw2
    obtain ⟨d0, d1, d2, d3, d4, d5⟩ := C1.out w2 ((b2.out.drew).trans (hx.mono b2.out.drew.size))
    clear hw2 hx d3 d4 d5
    go_simp
  simp only [Act.put, List.setIfInBounds_toArray, List.set_cons_succ, List.set_cons_zero]
  refine anyM_take (i := 2) (oi := ⟨some 38, _, _, _, _, _⟩) (v := .agg #[.string K, .string I, .string M]) rfl (by kernel_rfl) (by kernel_rfl) (by kernel_rfl) (fun _ _ _ h => h) (.inl ⟨by rfl, fun w2 hw2 => ?_⟩) ?_
  · go_simp
    go_at_call 12
    refine (to_any K I M w2).mono ?_
    rintro e w6 ⟨rfl, hb6⟩
    exact ⟨rfl, hb6⟩
  simp only [Act.put, List.setIfInBounds_toArray, List.set_cons_succ, List.set_cons_zero]
  refine anyM_take (i := 3) (oi := ⟨some 39, _, _, _, _, _⟩) (v := .slice a m c) rfl (by kernel_rfl) (by kernel_rfl) (by kernel_rfl) (fun _ _ _ h => h) (.inl ⟨by rfl, fun w2 hw2 => ?_⟩) ?_
  · clear hw2
    go_simp
  simp only [Act.put, List.setIfInBounds_toArray, List.set_cons_succ, List.set_cons_zero]
  refine anyM_take (i := 4) (oi := ⟨some 40, _, _, _, _, _⟩) (v := .pointer (some ⟨w.heap.size, 4, none⟩)) rfl (by kernel_rfl) (by kernel_rfl) (by kernel_rfl) (fun _ _ _ h => h) (.inl ⟨by rfl, fun w2 hw2 => ?_⟩) ?_
  · clear hw2
    go_simp
  simp only [Act.put, List.setIfInBounds_toArray, List.set_cons_succ, List.set_cons_zero]
  refine anyM_take (i := 5) (oi := ⟨some 41, _, _, _, _, _⟩) (v := .int .i64 P) rfl (by kernel_rfl) (by kernel_rfl) (by kernel_rfl) (fun _ _ _ h => h) (.inl ⟨by rfl, fun w2 hw2 => ?_⟩) ?_
  · have hx : Below wd.drew.heap.size wd.drew w2 := hw2
    obtain ⟨d0, d1, d2, d3, d4, d5⟩ := C1.out w2 ((b2.out.drew).trans (hx.mono b2.out.drew.size))
    clear hw2 hx d0 d1 d2 d3 d5
    go_simp
  simp only [Act.put, List.setIfInBounds_toArray, List.set_cons_succ, List.set_cons_zero]
  refine anyM_take (i := 6) (oi := ⟨some 42, _, _, _, _, _⟩) (v := .pointer (some ⟨w.heap.size, 5, none⟩)) rfl (by kernel_rfl) (by kernel_rfl) (by kernel_rfl) (fun _ _ _ h => h) (.inl ⟨by rfl, fun w2 hw2 => ?_⟩) ?_
  · clear hw2
    go_simp
  simp only [Act.put, List.setIfInBounds_toArray, List.set_cons_succ, List.set_cons_zero]
  refine anyM_take (i := 7) (oi := ⟨some 43, _, _, _, _, _⟩) (v := .int .i64 E) rfl (by kernel_rfl) (by kernel_rfl) (by kernel_rfl) (fun _ _ _ h => h) (.inl ⟨by rfl, fun w2 hw2 => ?_⟩) ?_
  · have hx : Below wd.drew.heap.size wd.drew w2 := hw2
    obtain ⟨d0, d1, d2, d3, d4, d5⟩ := C1.out w2 ((b2.out.drew).trans (hx.mono b2.out.drew.size))
    clear hw2 hx d0 d1 d2 d3 d4
    go_simp
  simp only [Act.put, List.setIfInBounds_toArray, List.set_cons_succ, List.set_cons_zero]
  refine anyM_call (i := 8) (o := ⟨some 44, _, _, _, _, _⟩) 14 #[.agg #[.string K, .string I, .string M], .slice a m c, .int .i64 P, .int .i64 E] (by kernel_rfl) rfl (by rfl) (fun w2 => by go_simp) (fun w8 hw8 => ?_)
  have b8 := Lib.hid ((b2.out.drew).trans (Below.mono (show Below wd.drew.heap.size wd.drew w8 from hw8) b2.out.drew.size))
  refine (OP2.out w8 b8.out).mono ?_
  rintro e w9 ⟨g1, m1, c1, h1, g2, m2, c2, h2, rfl, i1, t1, i2, t2, hb9⟩
  refine ⟨_, rfl, hb9, ?_⟩
  have I1 := Lib.hid i1
  have I2 := Lib.hid i2
  have E1 := Lib.hid t1
  have E2 := Lib.hid t2
  have B9 := Lib.hid (B1.out.trans ((b8.out.trans (hb9.mono b8.out.size)).mono B1.out.size))
  clear hw8 b8 hb9 i1 i2 t1 t2 OP2 C1
  simp only [Act.put, List.setIfInBounds_toArray, List.set_cons_succ, List.set_cons_zero]
  refine anyM_take (i := 9) (oi := ⟨some 35, _, _, _, _, _⟩) (v := .tuple #[.slice g1 m1 c1, .int .i64 N, .slice g2 m2 c2, .int .i64 r]) rfl (by kernel_rfl) (by kernel_rfl) (by kernel_rfl) (fun _ _ _ h => h) (.inl ⟨by rfl, fun w2 hw2 => ?_⟩) ?_
  · clear hw2
    go_simp
  simp only [Act.put, List.setIfInBounds_toArray, List.set_cons_succ, List.set_cons_zero]
  refine anyM_take (i := 10) (oi := ⟨some 45, _, _, _, _, _⟩) (v := .slice g1 m1 c1) rfl (by kernel_rfl) (by kernel_rfl) (by kernel_rfl) (fun _ _ _ h => h) (.inl ⟨by rfl, fun w2 hw2 => ?_⟩) ?_
  · clear hw2
    go_simp
  simp only [Act.put, List.setIfInBounds_toArray, List.set_cons_succ, List.set_cons_zero]
  refine anyM_take (i := 11) (oi := ⟨some 46, _, _, _, _, _⟩) (v := .int .i64 N) rfl (by kernel_rfl) (by kernel_rfl) (by kernel_rfl) (fun _ _ _ h => h) (.inl ⟨by rfl, fun w2 hw2 => ?_⟩) ?_
  · clear hw2
    go_simp
  simp only [Act.put, List.setIfInBounds_toArray, List.set_cons_succ, List.set_cons_zero]
  refine anyM_take (i := 12) (oi := ⟨some 47, _, _, _, _, _⟩) (v := .slice g2 m2 c2) rfl (by kernel_rfl) (by kernel_rfl) (by kernel_rfl) (fun _ _ _ h => h) (.inl ⟨by rfl, fun w2 hw2 => ?_⟩) ?_
  · clear hw2
    go_simp
  simp only [Act.put, List.setIfInBounds_toArray, List.set_cons_succ, List.set_cons_zero]
  refine anyM_take (i := 13) (oi := ⟨some 48, _, _, _, _, _⟩) (v := .int .i64 r) rfl (by kernel_rfl) (by kernel_rfl) (by kernel_rfl) (fun _ _ _ h => h) (.inl ⟨by rfl, fun w2 hw2 => ?_⟩) ?_
  · clear hw2
    go_simp
  simp only [Act.put, List.setIfInBounds_toArray, List.set_cons_succ, List.set_cons_zero]
  refine anyM_take (i := 14) (oi := ⟨some 8, _, _, _, _, _⟩) (v := .slice g1 m1 c1) rfl (by kernel_rfl) (by kernel_rfl) (by kernel_rfl) (fun _ _ _ h => h) (.inl ⟨by rfl, fun w2 hw2 => ?_⟩) ?_
  · clear hw2
    go_simp
  simp only [Act.put, List.setIfInBounds_toArray, List.set_cons_succ, List.set_cons_zero]
  refine anyM_take (i := 15) (oi := ⟨some 9, _, _, _, _, _⟩) (v := .int .i64 N) rfl (by kernel_rfl) (by kernel_rfl) (by kernel_rfl) (fun _ _ _ h => h) (.inl ⟨by rfl, fun w2 hw2 => ?_⟩) ?_
  · clear hw2
    go_simp
  simp only [Act.put, List.setIfInBounds_toArray, List.set_cons_succ, List.set_cons_zero]
  refine anyM_take (i := 16) (oi := ⟨some 10, _, _, _, _, _⟩) (v := .slice g2 m2 c2) rfl (by kernel_rfl) (by kernel_rfl) (by kernel_rfl) (fun _ _ _ h => h) (.inl ⟨by rfl, fun w2 hw2 => ?_⟩) ?_
  · clear hw2
    go_simp
  simp only [Act.put, List.setIfInBounds_toArray, List.set_cons_succ, List.set_cons_zero]
  refine anyM_take (i := 17) (oi := ⟨some 11, _, _, _, _, _⟩) (v := .int .i64 r) rfl (by kernel_rfl) (by kernel_rfl) (by kernel_rfl) (fun _ _ _ h => h) (.inl ⟨by rfl, fun w2 hw2 => ?_⟩) ?_
  · clear hw2
    go_simp
  simp only [Act.put, List.setIfInBounds_toArray, List.set_cons_succ, List.set_cons_zero]
  refine anyM_done (by kernel_rfl) (fun wc hwc => ?_)
  have bc : Below w9.heap.size w9 wc := hwc
  have BC := Lib.hid (B9.out.trans (bc.mono B9.out.size))
  have cv1 := conv_in _ g1 m1 c1 wc (bytesIn_later I1.out bc)
  have cv2 := conv_in _ g2 m2 c2 wc (bytesIn_later I2.out bc)
  rw [← E1.out] at cv1
  rw [← E2.out] at cv2
  clear hwc bc
  go_wp2_with fail
  all_goals
    go_ret
    exact ⟨by simp, BC.out⟩
set_option maxRecDepth 100000 in
theorem walk {H : Type} {enc : TypeId × Value → H} (w : World) (base : Nat) (v0 : Value) (d0 : DataW H) (p0 : List MemPlace)
    (k0 : Value.okWide Tryd.prog w .any base 38 v0)
    (h0 : DataW.Trod enc Tryd.prog w 0 (fun _ => true) true 38 v0 d0 p0) (tab : TabK w) :
    Calls Tryd.prog 4 #[v0] w fun e w' => e = .returned (.bool true) ∧ Below w.heap.size w w' := by
  obtain ⟨K, I, M, a, n, c, f, P, E, rfl, hf, hnc, hcm, hP⟩ := open_sealed k0 h0
  exact law_any K I M a n c f P E hP w hf hnc hcm tab
set_option maxRecDepth 100000 in
theorem lifted (os : Os) (started : os.Started) (H : Type) (enc : TypeId × Value → H) :
    ReturnsInHanded {} Tryd.checked os 4 .any (fun w args => (Rows.guardReadsSpec.pre enc Tryd.prog Tryd.f4 [] false w args ∧ laidMetH Tryd.prog laids w) ∧ sizedMet enc Tryd.prog Tryd.f4 (OpenSpec.ofChange Rows.guardReadsSpec) false w args)
      (Rows.guardReadsSpec.post enc Tryd.prog Tryd.f4 false true false false) := by
  refine returnsInHanded_of_change_and (C := Tryd.checked) (X := fun w _ => laidMetH Tryd.prog laids w) (fun _ _ _ hh h => h.of_heap hh) own started (by kernel_rfl) Tryd.func4
    (ChangeSpec.witness_shaped (enc := enc) (C := Tryd.checked) (os := os) (X := fun w _ => laidMetH Tryd.prog laids w) false (World.doorLaid Tryd.prog 14 os) #[.agg #[.string ⟨#[]⟩, .string ⟨#[]⟩, .string ⟨#[]⟩, .slice none 0 0, .int .i64 0, .int .i64 0]] 8 rfl (World.shaped_of_RefB (by kernel_rfl) (by kernel_rfl)) (by kernel_rfl) (by kernel_rfl) (by kernel_rfl) (door_met os _)) ?_
  intro W base args ds gs before hval0 hW _ _ hL _
  have hval : ∀ (j : Nat) t v, Tryd.f4.params[j]? = some t → args[j]? = some v → Value.okWide Tryd.prog W .any base t v := hval0
  have hW' := hW
  obtain ⟨p, q, hA0, hV, rfl, hfz, hnd⟩ := hW
  have hA : DataW.TrodAll enc Tryd.prog W 0 (fun _ => true) true Tryd.f4.params.toList args.toList ds p := hA0
  rw [Tryd.params4] at hA hval
  obtain ⟨v0, vs0, d0, ds0, p0, q0, hargs, rfl, rfl, h0, r0⟩ := trodAll_cons hA
  obtain ⟨rfl, rfl, rfl⟩ := trodAll_nil r0
  obtain rfl : args = #[v0] := by cases args; simp_all
  obtain ⟨rfl, rfl⟩ := trodVars_none hV
  have k0 := h0
  have lt0 : ∀ x ∈ p0, x.block < W.heap.size := by obtain ⟨m, hm⟩ := k0; exact DataW.trod_lt m _ _ _ hm
  clear hA0 hval0
  refine (walk W base v0 d0 p0 (hval 0 38 v0 rfl rfl) k0 (tabK_of_laid hL)).mono fun e W' ⟨he, bel⟩ => ?_
  subst he
  exact ⟨_, rfl, _, _, _, [], _, [], hW', trodAll_mk1 (shut_bool Tryd.underlying4 _), (trodAll_cons_mk (Below.trod laidOut (by kernel_rfl) (of_decide_eq_true (by kernel_rfl)) k0 bel lt0) trodAll_mk0), rfl, bel.frame _, fun h => by cases h⟩
theorem over : Rows.GuardReadsSaid :=
  OpenClaim.holds_of_wide 4 Tryd.f4 rfl rfl rfl rfl rfl rfl rfl ⟨rfl, rfl, rfl, rfl, rfl⟩ rfl rfl rfl rfl rfl (by kernel_rfl) Tryd.func4 (by kernel_rfl)
    (of_decide_eq_true (by kernel_rfl)) (by unfold Func.isWrapper; first | (rw [if_pos (by decide +kernel)]; kernel_rfl) | (rw [if_neg (by decide +kernel)]; exact ⟨rfl, rfl⟩))
    (fun os started H enc _ => lifted os started H enc)
theorem proved : Rows.GuardReadsCardSaid :=
  Claim7.holds_tied_plain_at .later [] [.data] true (true, "05149650663bb601fe4f72ae54034949c2a6c1852fc749e9b877e7204368164d") false
    over (fun _ h => by cases h) (by kernel_rfl) (fun _ h => by cases h) guardReads_row_tie rfl ⟨rfl, rfl⟩ (by kernel_rfl) rfl
    (fun f fn hf hfn => by
      obtain rfl : f = 4 := Option.some.inj ((show Tryd.prog.funcNamed "rhyne/rhynelaw10.GuardReads" = some 4 by kernel_rfl).symm.trans hf) |>.symm
      obtain rfl : fn = Tryd.f4 := (Option.some.inj (Tryd.func4.symm.trans hfn)).symm
      exact ⟨by kernel_rfl, fun j t ht => by
        rw [Tryd.params4] at ht
        have hm : t ∈ [38] := by simpa using Array.mem_of_getElem? ht
        have hall : ([38].all fun u => !Tryd.prog.wantsStandIn u) = true := by kernel_rfl
        exact (show Tryd.prog.wantsStandIn t = false by simpa using List.all_eq_true.1 hall t hm)⟩)
    (by kernel_rfl)
end Go.Proofs.YtjbpjoondmcnlabDoor.guardReads
