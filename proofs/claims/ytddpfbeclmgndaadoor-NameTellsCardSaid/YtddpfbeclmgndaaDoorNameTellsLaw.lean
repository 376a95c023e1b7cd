/-
  Of all texts Labels, Wire and Up tell what the chapter does, at the commit of COMMIT; the two tables of unicode/utf8 hold what the library's text lays.
-/
import Derived.Test.YtddpfbeclmgndaaDoorRows
import Derived.Test.YtddpfbeclmgndaaDoorCards
import Derived.Test.YtddpfbeclmgndaaDoorTie
import Derived.Test.YtddpfbeclmgndaaDoorNmDoor
import Derived.Test.YtddpfbeclmgndaaDoorNmZ
import Derived.Test.YtddpfbeclmgndaaDoorOpenB
import Derived.Test.YtddpfbeclmgndaaDoorOpen
import Derived.Test.YtddpfbeclmgndaaDoorEq
import Derived.WalkKit
import Derived.ProofKit
import Derived.OpenShut
import Derived.ShutString
import Derived.ChangeOld
import Derived.Below
import Derived.Deep.DeepCutAuto
import Derived.Deep.Upon
import Derived.Deep.AppendSrc
import Derived.SevenTiedAt
import Derived.LaidMore
import Derived.SizedLaws
import Derived.Lib.SmallJoins
namespace Go.Proofs.YtddpfbeclmgndaaDoor.nameTells
open Go Go.ChangeShapes Go.WideShapes Go.ChangeAt Go.RowKit Go.BigFrame
set_option linter.unusedVariables false
theorem conv_nil (w : World) : (convert 29 9 (.slice none 0 0)).run Tryd.prog w = .ok (.string ⟨#[]⟩) w := by
  have h1 : Tryd.prog.underlying 29 = some (.slice 5) := by kernel_rfl
  have h2 : Tryd.prog.underlying 9 = some .string := by kernel_rfl
  have h3 : Tryd.prog.underlying 5 = some (.int .u8) := by kernel_rfl
  simp [convert, run_underlying h1, run_underlying h2, run_underlying h3, Sem.run_bind]
  rfl
set_option maxHeartbeats 8000000 in
set_option maxRecDepth 100000 in
theorem tells (L : List (BitVec 8)) (w : World) :
    Calls Tryd.prog 3 #[.string (sL L)] w fun e w' => e = .returned (.bool true) ∧ Below w.heap.size w w' := by
  have NA := Lib.hid named_any
  have hz := sL_size L
  by_cases hn : 3000 < L.length
  · have hn' : (3000 : Int) < (L.length : Int) := by omega
    generalize L.length = N at *
    generalize sL L = S at *
    go_enter Tryd.func3, Tryd.ntmps3
    go_wp2_with (go_at_call 10; refine (NA.out _).mono ?_; rintro e w1 ⟨rfl, B1⟩)
    go_ret
    exact ⟨rfl, B1⟩
  · have hn' : ¬ (3000 : Int) < (L.length : Int) := by omega
    have DL := Lib.hid (fun w => docLabels_any L w (by omega))
    have PL := Lib.hid (fun w => labels_any L w (by omega))
    have DU := Lib.hid (fun w => docUp_any L w (by omega))
    have PU := Lib.hid (fun w => up_any L w (by omega))
    have hEu := sL_beq (upF L).2 (upF L).2
    rw [decide_eq_true rfl] at hEu
    generalize upF L = UF at *
    obtain ⟨uc, ut⟩ := UF
    dsimp only at DU PU hEu
    have huc : (uc == uc) = true := beq_self_eq_true _
    cases hr : rightB L with
    | false =>
      have DW := Lib.hid (fun w => docWire_bad L w (by omega) hr)
      have PW := Lib.hid (fun w => wire_bad L w (by omega) hr)
      have DP : Hid (∀ B v c w, DlPost B L v c w → v = .slice none 0 0 ∧ c = 14) := by
        intro B v c w h
        rcases h with h | h
        · exact h.2
        · rw [hr] at h; cases h.1
      have LP : Hid (∀ B v c w, LabPost B L v c w → v = .slice none 0 0 ∧ c = 14) := by
        intro B v c w h
        rcases h with h | h
        · exact h.2
        · rw [hr] at h; cases h.1
      have TX := Lib.hid (fun w : World => texts_any (OwnT.nil w.heap.size w (Nat.le_refl _)) (show RowS 0 (.slice none 0 0) [] w from ⟨none, rfl, .inl rfl⟩) (by decide))
      have cn := conv_nil
      clear hr
      generalize L.length = N at *
      generalize sL ut = U at *
      generalize sL L = S at *
      go_enter Tryd.func3, Tryd.ntmps3
      go_upto_region 9 with (first
        | (go_at_call 11; refine (DL.out _).mono ?_; rintro e w1 ⟨v1, c1, rfl, hp1, B1⟩; obtain ⟨rfl, rfl⟩ := DP.out _ _ _ _ hp1; clear hp1)
        | (go_at_call 12; refine (PL.out _).mono ?_; rintro e w2 ⟨v2, c2, rfl, hp2, B2⟩; obtain ⟨rfl, rfl⟩ := LP.out _ _ _ _ hp2; clear hp2)
        | (go_at_call 13; refine (DW.out _).mono ?_; rintro e w3 ⟨rfl, B3⟩)
        | (go_at_call 14; refine (PW.out _).mono ?_; rintro e w4 ⟨rfl, B4⟩)
        | (go_at_call 15; refine (DU.out _).mono ?_; rintro e w5 ⟨rfl, B5⟩)
        | (go_at_call 16; refine (PU.out _).mono ?_; rintro e w6 ⟨rfl, B6⟩))
      have C2 := B1.trans (B2.mono B1.size)
      have C3 := C2.trans (B3.mono C2.size)
      have C4 := C3.trans (B4.mono C3.size)
      have C5 := C4.trans (B5.mono C4.size)
      have C6 := Lib.hid (C5.trans (B6.mono C5.size))
      clear B1 B2 B3 B4 B5 B6 C2 C3 C4 C5
      go_wp2_with (first
        | (go_at_call 10; refine (NA.out _).mono ?_; rintro e w7 ⟨rfl, B7⟩)
        | (go_at_call 17; refine (TX.out _).mono ?_; rintro e w8 ⟨rfl, B8⟩))
      go_ret
      have C7 := C6.out.trans (B7.mono C6.out.size)
      exact ⟨rfl, C7.trans (B8.mono C7.size)⟩
    | true =>
      have DW := Lib.hid (fun w => docWire_ok L w hr)
      have PW := Lib.hid (fun w => wire_ok L w hr)
      have DP : Hid (∀ B v c w, DlPost B L v c w → c = 0 ∧ OwnT B v (labF L) w) := by
        intro B v c w h
        rcases h with h | h
        · rw [hr] at h; cases h.1
        · exact h.2
      have LP : Hid (∀ B v c w, LabPost B L v c w → c = 0 ∧ RowS B v (labF L) w) := by
        intro B v c w h
        rcases h with h | h
        · rw [hr] at h; cases h.1
        · exact h.2
      have hll := lab_le hr
      have hwn : wireF L ≠ [] := by unfold wireF; simp
      have HWN := Lib.hid hwn
      have hEw := sL_beq (wireF L) (wireF L)
      rw [decide_eq_true rfl] at hEw
      clear hr hwn
      generalize wireF L = WF at *
      generalize labF L = P at *
      generalize L.length = N at *
      generalize sL ut = U at *
      generalize hWS : sL WF = WS at *
      generalize sL L = S at *
      have HWS := Lib.hid hWS
      clear hWS
      go_enter Tryd.func3, Tryd.ntmps3
      go_upto_region 9 with (first
        | (go_at_call 11; refine (DL.out _).mono ?_; rintro e w1 ⟨v1, c1, rfl, hp1, B1⟩; obtain ⟨rfl, R1⟩ := DP.out _ _ _ _ hp1; clear hp1; obtain ⟨oa, oc, hv1⟩ := R1.shape; subst hv1)
        | (go_at_call 12; refine (PL.out _).mono ?_; rintro e w2 ⟨v2, c2, rfl, hp2, B2⟩; obtain ⟨rfl, R2⟩ := LP.out _ _ _ _ hp2; clear hp2; have R2' := Lib.hid R2; obtain ⟨ad, hv2, -⟩ := R2; subst hv2)
        | (go_at_call 13; refine (DW.out _).mono ?_; rintro e w3 ⟨rfl, B3⟩)
        | (go_at_call 14; refine (PW.out _).mono ?_; rintro e w4 ⟨v4, rfl, O4, B4⟩; have O4' := Lib.hid O4; obtain ⟨g4, p4, hv4, -⟩ := O4.slice HWN.out; subst hv4; clear O4)
        | (go_at_call 15; refine (DU.out _).mono ?_; rintro e w5 ⟨rfl, B5⟩)
        | (go_at_call 16; refine (PU.out _).mono ?_; rintro e w6 ⟨rfl, B6⟩))
      have C3 := B2.trans (B3.mono B2.size)
      have C4 := C3.trans (B4.mono C3.size)
      have C5 := C4.trans (B5.mono C4.size)
      have C6 := C5.trans (B6.mono C5.size)
      have D6 := Lib.hid (B1.trans (C6.mono B1.size))
      have E6 := B5.trans (B6.mono B5.size)
      have TR1 := Lib.hid (R1.later C6)
      have TR2 := Lib.hid (R2'.out.later (((B3.trans (B4.mono B3.size)).trans (B5.mono (B3.trans (B4.mono B3.size)).size)).trans (B6.mono ((B3.trans (B4.mono B3.size)).trans (B5.mono (B3.trans (B4.mono B3.size)).size)).size)))
      have TX := Lib.hid (fun (w7 : World) (hb : Below w6.heap.size w6 w7) => texts_any (TR1.out.later hb) (TR2.out.later hb) (by omega))
      have CV := Lib.hid (fun (w8 : World) (hb : Below w6.heap.size w6 w8) => O4'.out.conv HWN.out (E6.trans (hb.mono E6.size)))
      rw [HWS.out] at CV
      clear B1 B2 B3 B4 B5 B6 C3 C4 C5 C6 E6 R1 R2' O4'
      go_wp2_with (first
        | (go_at_call 10; refine (NA.out _).mono ?_; rintro e w7 ⟨rfl, B7⟩)
        | (go_at_call 17; refine (TX.out _ B7).mono ?_; rintro e w8 ⟨rfl, B8⟩; have cv := CV.out w8 (B7.trans (B8.mono B7.size))))
      go_ret
      have C7 := D6.out.trans (B7.mono D6.out.size)
      exact ⟨rfl, C7.trans (B8.mono C7.size)⟩
theorem walk {H : Type} {enc : TypeId × Value → H} (w : World) (base : Nat) (v0 : Value) (d0 : DataW H) (p0 : List MemPlace)
    (k0 : Value.okWide Tryd.prog w .any base 9 v0)
    (h0 : DataW.Trod enc Tryd.prog w 0 (fun _ => true) true 9 v0 d0 p0) (tab : Tab w) :
    Calls Tryd.prog 3 #[v0] w fun e w' => e = .returned (.bool true) ∧ Below w.heap.size w w' := by
  obtain ⟨f, n, rfl, hn⟩ := open_text k0 h0
  rw [of_sL]
  exact tells _ w
set_option maxRecDepth 100000 in
theorem lifted (os : Os) (started : os.Started) (H : Type) (enc : TypeId × Value → H) :
    ReturnsInHanded {} Tryd.checked os 3 .any (fun w args => (Rows.nameTellsSpec.pre enc Tryd.prog Tryd.f3 [] false w args ∧ laidMetH Tryd.prog laids w) ∧ sizedMet enc Tryd.prog Tryd.f3 (OpenSpec.ofChange Rows.nameTellsSpec) false w args)
      (Rows.nameTellsSpec.post enc Tryd.prog Tryd.f3 false true false false) := by
  refine returnsInHanded_of_change_and (C := Tryd.checked) (X := fun w _ => laidMetH Tryd.prog laids w) (fun _ _ _ hh h => h.of_heap hh) own started (by kernel_rfl) Tryd.func3
    (ChangeSpec.witness_shaped (enc := enc) (C := Tryd.checked) (os := os) (X := fun w _ => laidMetH Tryd.prog laids w) false (World.laidAll Tryd.prog os laids) #[.string ⟨#[]⟩] 8 (World.laidAll_os _ _ _) (start_shaped os) (by kernel_rfl) (by kernel_rfl) (by kernel_rfl) (start_met os _)) ?_
  intro W base args ds gs before hval0 hW _ _ hL _
  have hval : ∀ (j : Nat) t v, Tryd.f3.params[j]? = some t → args[j]? = some v → Value.okWide Tryd.prog W .any base t v := hval0
  have hW' := hW
  obtain ⟨p, q, hA0, hV, rfl, hfz, hnd⟩ := hW
  have hA : DataW.TrodAll enc Tryd.prog W 0 (fun _ => true) true Tryd.f3.params.toList args.toList ds p := hA0
  rw [Tryd.params3] at hA hval
  obtain ⟨v0, vs0, d0, ds0, p0, q0, hargs, rfl, rfl, h0, r0⟩ := trodAll_cons hA
  obtain ⟨rfl, rfl, rfl⟩ := trodAll_nil r0
  obtain rfl : args = #[v0] := by cases args; simp_all
  obtain ⟨rfl, rfl⟩ := trodVars_none hV
  have k0 := h0
  have lt0 : ∀ x ∈ p0, x.block < W.heap.size := by obtain ⟨m, hm⟩ := k0; exact DataW.trod_lt m _ _ _ hm
  clear hA0 hval0
  refine (walk W base v0 d0 p0 (hval 0 9 v0 rfl rfl) k0 (tab_of_laid hL)).mono fun e W' ⟨he, bel⟩ => ?_
  subst he
  exact ⟨_, rfl, _, _, _, [], _, [], hW', trodAll_mk1 (shut_bool Tryd.underlying4 _), (trodAll_cons_mk (Below.trod laidOut (by kernel_rfl) (of_decide_eq_true (by kernel_rfl)) k0 bel lt0) trodAll_mk0), rfl, bel.frame _, fun h => by cases h⟩
theorem over : Rows.NameTellsSaid :=
  OpenClaim.holds_of_wide 3 Tryd.f3 rfl rfl rfl rfl rfl rfl rfl ⟨rfl, rfl, rfl, rfl, rfl⟩ rfl rfl rfl rfl rfl (by kernel_rfl) Tryd.func3 (by kernel_rfl)
    (of_decide_eq_true (by kernel_rfl)) (by unfold Func.isWrapper; first | (rw [if_pos (by decide +kernel)]; kernel_rfl) | (rw [if_neg (by decide +kernel)]; exact ⟨rfl, rfl⟩))
    (fun os started H enc _ => lifted os started H enc)
theorem proved : Rows.NameTellsCardSaid :=
  Claim7.holds_tied_plain_at .later [] [.data, .pinned] true (true, "a336e95820cb47316d908a953aeda393682601dff52183cff9eb8b64e99883a2") false
    over (fun _ h => by cases h) (by kernel_rfl) (fun _ h => by cases h) nameTells_row_tie rfl ⟨rfl, rfl⟩ (by kernel_rfl) rfl
    (fun f fn hf hfn => by
      obtain rfl : f = 3 := Option.some.inj ((show Tryd.prog.funcNamed "rhyne/rhynelaw17.NameTells" = some 3 by kernel_rfl).symm.trans hf) |>.symm
      obtain rfl : fn = Tryd.f3 := (Option.some.inj (Tryd.func3.symm.trans hfn)).symm
      exact ⟨by kernel_rfl, fun j t ht => by
        rw [Tryd.params3] at ht
        have hm : t ∈ [9] := by simpa using Array.mem_of_getElem? ht
        have hall : ([9].all fun u => !Tryd.prog.wantsStandIn u) = true := by kernel_rfl
        exact (show Tryd.prog.wantsStandIn t = false by simpa using List.all_eq_true.1 hall t hm)⟩)
    (by kernel_rfl)
end Go.Proofs.YtddpfbeclmgndaaDoor.nameTells
