/-
  Of all secrets, names and contexts Label tells what the chapter does, at the commit of COMMIT; the table of sha's constants holds what the program's text lays.
-/
import Derived.Test.YtbadcknchamimabDoorRows
import Derived.Test.YtbadcknchamimabDoorCards
import Derived.Test.YtbadcknchamimabDoorTie
import Derived.Test.YtbadcknchamimabDoorShaDoor
import Derived.Test.YtbadcknchamimabDoorHkdfF
import Derived.Test.YtbadcknchamimabDoorOpenB
import Derived.WalkKit
import Derived.ProofKit
import Derived.OpenShut
import Derived.ShutString
import Derived.ChangeOld
import Derived.Below
import Derived.Deep.DeepCutAuto
import Derived.Deep.Upon
import Derived.Deep.AppendSrc
import Derived.SevenTiedAt
import Derived.LaidMore
import Derived.SizedLaws
import Derived.Lib.SmallJoins
namespace Go.Proofs.YtbadcknchamimabDoor.hkdfLabel
open Go Go.ChangeShapes Go.WideShapes Go.ChangeAt Go.RowKit Go.BigFrame
set_option linter.unusedVariables false
set_option maxRecDepth 100000 in
set_option maxHeartbeats 16000000 in
theorem law_any (a a' : Option Addr) (n c n' c' l : Nat) (f g s : Nat → BitVec 8) (w : World) (T : TabK w) (hx : BytesIn w a n f) (hc : n ≤ c) (hcm : c ≤ maxLen) (hy : BytesIn w a' n' g) (hc' : n' ≤ c') (hcm' : c' ≤ maxLen) :
    Calls Tryd.prog 4 #[.slice a n c, .string (strOf s l), .slice a' n' c'] w fun e w' => e = .returned (.bool true) ∧ Below w.heap.size w w' := by
  have HX := Lib.hid hx
  have HY := Lib.hid hy
  have TK := Lib.hid T
  have zl := strOf_size s l
  clear hx hy T
  obtain ⟨SL, hSL⟩ : ∃ SL, strOf s l = SL := ⟨_, rfl⟩
  rw [hSL] at zl ⊢
  have HSL := Lib.hid hSL
  clear hSL
  go_enter Tryd.func4, Tryd.ntmps4
  go_wp2_with fail
  with_reducible refine (expands_any w TK.out).mono ?_
  rintro e w1 ⟨rfl, hb1⟩
  have zlI : (SL.size : Int) = (l : Int) := by rw [zl]
  by_cases hl : n ≤ 3000 ∧ l ≤ 400 ∧ n' ≤ 400
  · obtain ⟨hl1, hl2, hl3⟩ := hl
    have hI1 : ¬ (3000 : Int) < (n : Int) := by omega
    have hI2 : ¬ (400 : Int) < (l : Int) := by omega
    have hI3 : ¬ (400 : Int) < (n' : Int) := by omega
    have XA := Lib.hid (fun (w' : World) (hb : Below w1.heap.size w1 w') => bytesIn_ext HX.out (hb1.trans (hb.mono hb1.size)))
    have YA := Lib.hid (fun (w' : World) (hb : Below w1.heap.size w1 w') => bytesIn_ext HY.out (hb1.trans (hb.mono hb1.size)))
    have TA := Lib.hid (fun (w' : World) (hb : Below w1.heap.size w1 w') => TK.out.later (hb1.trans (hb.mono hb1.size)))
    have CX := Lib.hid (fun (w' : World) (hb : Below w1.heap.size w1 w') => conv_in f a n c w' (XA.out w' hb))
    have CY := Lib.hid (fun (w' : World) (hb : Below w1.heap.size w1 w') => conv_in g a' n' c' w' (YA.out w' hb))
    have B1 := Lib.hid hb1
    have PA : ∀ N : Nat, N ≤ 8160 → ∃ (y : Nat) (err : Int) (SE : ByteArray),
        (∀ w', Calls Tryd.prog 13 #[.string (strOf f n), .string SL, .string (strOf g n'), .int .i64 (N : Int)] w' fun e w'' => e = .returned (.tuple #[.string SE, .int .i64 err]) ∧ Below w'.heap.size w' w'') ∧
        (∀ w', Below w1.heap.size w1 w' → Calls Tryd.prog 14 #[.slice a n c, .string SL, .slice a' n' c', .int .i64 (N : Int)] w' fun e w'' => ∃ a5 c5, e = .returned (.tuple #[.slice a5 y c5, .int .i64 err]) ∧ (∀ w3, Below w''.heap.size w'' w3 → (convert 22 9 (.slice a5 y c5)).run Tryd.prog w3 = .ok (.string SE) w3) ∧ Below w'.heap.size w' w'') := by
      intro N hN
      by_cases hr : 249 < l ∨ 255 < n'
      · refine ⟨0, 5, strOf (fun _ => 0#8) 0, fun w' => (refLabel_big _ SL _ N hN (by rw [zl, strOf_size]; exact hr) w').mono ?_, fun w' hb => (label_big n c n' c' N a a' SL hN (by rw [zl]; exact hr) w').mono ?_⟩
        · rintro e w'' ⟨rfl, rfl⟩
          exact ⟨rfl, Below.refl _ _⟩
        · rintro e w'' ⟨rfl, rfl⟩
          exact ⟨none, 0, rfl, fun w3 _ => conv_in (fun _ => 0#8) none 0 0 w3 (nil_in _ _), Below.refl _ _⟩
      · refine ⟨N, 0, strOf (expB (keyB f n) (infoB N l s n' g) (9 + l + 1 + n')) N, fun w' => ?_, fun w' hb => ?_⟩
        · have h := refLabel_ok n n' N l f g s w' (by omega) (by omega) (by omega) hN
          rw [HSL.out] at h
          exact h
        · have h := label_ok n c n' c' N l f g s a a' w' (TA.out w' hb) (XA.out w' hb) hc hcm (by omega) (YA.out w' hb) hc' hcm' (by omega) (by omega) hN
          rw [HSL.out] at h
          refine h.mono ?_
          rintro e w'' ⟨v, rfl, o, hb2⟩
          obtain ⟨a5, c5, rfl, hc5, hm5, bi5, _, hg5⟩ := o.asMine
          exact ⟨a5, c5, rfl, fun w3 h3 => conv_in _ a5 N c5 w3 (bytesIn_ext bi5 h3), hb2⟩
    have P := Lib.hid PA
    generalize strOf f n = SF at *
    generalize strOf g n' = SG at *
    clear PA hb1 XA YA TA HX HY TK HSL
    go_wp2_with fail
    go_loopw [7] (fun s7 wr => ∃ i : Nat, i ≤ 4 ∧ s7 = .int .i64 (16 * (i : Int)) ∧ Below w1.heap.size w1 wr) (fun s7 _ => 64 - (intOf s7).toNat)
    case atStart => exact ⟨0, by omega, rfl, Below.refl _ _⟩
    case round =>
      obtain ⟨i, hi, rfl, bel⟩ := hrel
      have BEL := Lib.hid bel
      clear bel
      by_cases hlt : i < 4
      · obtain ⟨y, err, SE, DE, PE⟩ := P.out (16 * i) (by omega)
        have eI : ((16 * i : Nat) : Int) = 16 * (i : Int) := by omega
        rw [eI] at DE PE
        have D := Lib.hid DE
        have P2 := Lib.hid PE
        have hlI : 16 * (i : Int) < 50 := by omega
        have cx := CX.out wr BEL.out
        have cy := CY.out wr BEL.out
        clear DE PE eI
        go_wp2_with fail
        clear cx cy
        with_reducible refine (D.out wr).mono ?_
        rintro e w2 ⟨rfl, hb2⟩
        have B2 := Lib.hid (BEL.out.trans (hb2.mono BEL.out.size))
        clear hb2
        go_wp2_with fail
        with_reducible refine (P2.out w2 B2.out).mono ?_
        rintro e w3 ⟨a5, c5, rfl, hcv, hb3⟩
        have B3 := Lib.hid (B2.out.trans (hb3.mono B2.out.size))
        have cv := hcv w3 (Below.refl _ _)
        clear hcv hb3 D P2
        go_wp2_with fail
        go_roundw
        case rel => exact ⟨i + 1, by omega, by go_num, B3.out⟩
        case measure => (simp [intOf] <;> omega)
      · obtain rfl : i = 4 := by omega
        have E1 := Lib.hid (fun w' => label_bad n c n' c' a a' SL (-1) (by omega) w')
        have E2 := Lib.hid (fun w' => label_bad n c n' c' a a' SL 8161 (by omega) w')
        clear hlt hi P CX CY
        go_wp2_with fail
        with_reducible refine (E1.out wr).mono ?_
        rintro e w2 ⟨rfl, rfl⟩
        go_wp2_with fail
        with_reducible refine (E2.out wr).mono ?_
        rintro e w2 ⟨rfl, rfl⟩
        go_wp2_with fail
        go_ret
        exact ⟨rfl, B1.out.trans (BEL.out.mono B1.out.size)⟩
  · have hI : (3000 : Int) < (n : Int) ∨ (¬ (3000 : Int) < (n : Int) ∧ (400 : Int) < (l : Int)) ∨ (¬ (3000 : Int) < (n : Int) ∧ ¬ (400 : Int) < (l : Int) ∧ (400 : Int) < (n' : Int)) := by omega
    clear hl
    rcases hI with h1 | ⟨h1, h2⟩ | ⟨h1, h2, h3⟩
    all_goals
      go_wp2_with fail
      with_reducible refine (expands_any w1 (TK.out.later hb1)).mono ?_
      rintro e w2 ⟨rfl, hb2⟩
      go_wp2_with fail
      go_ret
      exact ⟨rfl, hb1.trans (hb2.mono hb1.size)⟩
set_option maxRecDepth 100000 in
theorem walk {H : Type} {enc : TypeId × Value → H} (w : World) (base : Nat) (v0 v1 v2 : Value) (d0 d1 d2 : DataW H) (p0 p1 p2 : List MemPlace)
    (k0 : Value.okWide Tryd.prog w .any base 22 v0) (k1 : Value.okWide Tryd.prog w .any base 9 v1) (k2 : Value.okWide Tryd.prog w .any base 22 v2)
    (h0 : DataW.Trod enc Tryd.prog w 0 (fun _ => true) true 22 v0 d0 p0) (h1 : DataW.Trod enc Tryd.prog w 0 (fun _ => true) true 9 v1 d1 p1) (h2 : DataW.Trod enc Tryd.prog w 0 (fun _ => true) true 22 v2 d2 p2) (tab : TabK w) :
    Calls Tryd.prog 4 #[v0, v1, v2] w fun e w' => e = .returned (.bool true) ∧ Below w.heap.size w w' := by
  obtain ⟨a, n, c, f, rfl, hb, hlc, hm⟩ := open_bytes k0 h0
  obtain ⟨s, l, rfl, hl⟩ := open_text k1 h1
  obtain ⟨a', n', c', g, rfl, hb', hlc', hm'⟩ := open_bytes k2 h2
  exact law_any a a' n c n' c' l f g s w tab hb hlc hm hb' hlc' hm'
set_option maxRecDepth 100000 in
theorem lifted (os : Os) (started : os.Started) (H : Type) (enc : TypeId × Value → H) :
    ReturnsInHanded {} Tryd.checked os 4 .any (fun w args => (Rows.hkdfLabelSpec.pre enc Tryd.prog Tryd.f4 [] false w args ∧ laidMetH Tryd.prog laids w) ∧ sizedMet enc Tryd.prog Tryd.f4 (OpenSpec.ofChange Rows.hkdfLabelSpec) false w args)
      (Rows.hkdfLabelSpec.post enc Tryd.prog Tryd.f4 false true false false) := by
  refine returnsInHanded_of_change_and (C := Tryd.checked) (X := fun w _ => laidMetH Tryd.prog laids w) (fun _ _ _ hh h => h.of_heap hh) own started (by kernel_rfl) Tryd.func4
    (ChangeSpec.witness_shaped (enc := enc) (C := Tryd.checked) (os := os) (X := fun w _ => laidMetH Tryd.prog laids w) false (World.doorLaid Tryd.prog 14 os) #[.slice none 0 0, .string ⟨#[]⟩, .slice none 0 0] 8 rfl (World.shaped_of_RefB (by kernel_rfl) (by kernel_rfl)) (by kernel_rfl) (by kernel_rfl) (by kernel_rfl) (door_met os _)) ?_
  intro W base args ds gs before hval0 hW _ _ hL _
  have hval : ∀ (j : Nat) t v, Tryd.f4.params[j]? = some t → args[j]? = some v → Value.okWide Tryd.prog W .any base t v := hval0
  have hW' := hW
  obtain ⟨p, q, hA0, hV, rfl, hfz, hnd⟩ := hW
  have hA : DataW.TrodAll enc Tryd.prog W 0 (fun _ => true) true Tryd.f4.params.toList args.toList ds p := hA0
  rw [Tryd.params4] at hA hval
  obtain ⟨v0, vs0, d0, ds0, p0, q0, hargs, rfl, rfl, h0, r0⟩ := trodAll_cons hA
  obtain ⟨v1, vs1, d1, ds1, p1, q1, rfl, rfl, rfl, h1, r1⟩ := trodAll_cons r0
  obtain ⟨v2, vs2, d2, ds2, p2, q2, rfl, rfl, rfl, h2, r2⟩ := trodAll_cons r1
  obtain ⟨rfl, rfl, rfl⟩ := trodAll_nil r2
  obtain rfl : args = #[v0, v1, v2] := by cases args; simp_all
  obtain ⟨rfl, rfl⟩ := trodVars_none hV
  have k0 := h0
  have lt0 : ∀ x ∈ p0, x.block < W.heap.size := by obtain ⟨m, hm⟩ := k0; exact DataW.trod_lt m _ _ _ hm
  have k1 := h1
  have lt1 : ∀ x ∈ p1, x.block < W.heap.size := by obtain ⟨m, hm⟩ := k1; exact DataW.trod_lt m _ _ _ hm
  have k2 := h2
  have lt2 : ∀ x ∈ p2, x.block < W.heap.size := by obtain ⟨m, hm⟩ := k2; exact DataW.trod_lt m _ _ _ hm
  clear hA0 hval0
  refine (walk W base v0 v1 v2 d0 d1 d2 p0 p1 p2 (hval 0 22 v0 rfl rfl) (hval 1 9 v1 rfl rfl) (hval 2 22 v2 rfl rfl) k0 k1 k2 (tabK_of_laid hL)).mono fun e W' ⟨he, bel⟩ => ?_
  subst he
  exact ⟨_, rfl, _, _, _, [], _, [], hW', trodAll_mk1 (shut_bool Tryd.underlying4 _), (trodAll_cons_mk (Below.trod laidOut (by kernel_rfl) (of_decide_eq_true (by kernel_rfl)) k0 bel lt0) (trodAll_cons_mk (Below.trod laidOut (by kernel_rfl) (of_decide_eq_true (by kernel_rfl)) k1 bel lt1) (trodAll_cons_mk (Below.trod laidOut (by kernel_rfl) (of_decide_eq_true (by kernel_rfl)) k2 bel lt2) trodAll_mk0))), rfl, bel.frame _, fun h => by cases h⟩
theorem over : Rows.HkdfLabelSaid :=
  OpenClaim.holds_of_wide 4 Tryd.f4 rfl rfl rfl rfl rfl rfl rfl ⟨rfl, rfl, rfl, rfl, rfl⟩ rfl rfl rfl rfl rfl (by kernel_rfl) Tryd.func4 (by kernel_rfl)
    (of_decide_eq_true (by kernel_rfl)) (by unfold Func.isWrapper; first | (rw [if_pos (by decide +kernel)]; kernel_rfl) | (rw [if_neg (by decide +kernel)]; exact ⟨rfl, rfl⟩))
    (fun os started H enc _ => lifted os started H enc)
theorem proved : Rows.HkdfLabelCardSaid :=
  Claim7.holds_tied_plain_at .later [] [.data] true (true, "51514c4db4b86ac38101e61a085df83b691a39fd7844e7ee45d3e83372f213d6") false
    over (fun _ h => by cases h) (by kernel_rfl) (fun _ h => by cases h) hkdfLabel_row_tie rfl ⟨rfl, rfl⟩ (by kernel_rfl) rfl
    (fun f fn hf hfn => by
      obtain rfl : f = 4 := Option.some.inj ((show Tryd.prog.funcNamed "rhyne/rhynelaw02.HkdfLabel" = some 4 by kernel_rfl).symm.trans hf) |>.symm
      obtain rfl : fn = Tryd.f4 := (Option.some.inj (Tryd.func4.symm.trans hfn)).symm
      exact ⟨by kernel_rfl, fun j t ht => by
        rw [Tryd.params4] at ht
        have hm : t ∈ [22, 9, 22] := by simpa using Array.mem_of_getElem? ht
        have hall : ([22, 9, 22].all fun u => !Tryd.prog.wantsStandIn u) = true := by kernel_rfl
        exact (show Tryd.prog.wantsStandIn t = false by simpa using List.all_eq_true.1 hall t hm)⟩)
    (by kernel_rfl)
end Go.Proofs.YtbadcknchamimabDoor.hkdfLabel
