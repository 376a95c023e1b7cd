/-
  Of all names and Retries RetryTag tells what the chapter does, and it has sixteen bytes; the table of sha's constants holds what the program's text lays.
-/
import Derived.Test.YtekgclpmbidphaaDoorRows
import Derived.Test.YtekgclpmbidphaaDoorCards
import Derived.Test.YtekgclpmbidphaaDoorTie
import Derived.Test.YtekgclpmbidphaaDoorMg01
import Derived.Test.YtekgclpmbidphaaDoorGrA
import Derived.Test.YtekgclpmbidphaaDoorMg07
import Derived.WalkKit
import Derived.ProofKit
import Derived.OpenShut
import Derived.ShutString
import Derived.ChangeOld
import Derived.Below
import Derived.Deep.DeepCutAuto
import Derived.Deep.Upon
import Derived.Deep.AppendSrc
import Derived.SevenTiedAt
import Derived.LaidMore
import Derived.SizedLaws
import Derived.Lib.SmallJoins
namespace Go.Proofs.YtekgclpmbidphaaDoor.guardRetries
open Go Go.ChangeShapes Go.WideShapes Go.ChangeAt Go.RowKit Go.BigFrame
set_option linter.unusedVariables false
set_option maxRecDepth 100000 in
set_option maxHeartbeats 16000000 in
theorem law_any (f r : Nat → BitVec 8) (n m c : Nat) (a : Option Addr) (w : World) (T : TabK w) (hr : BytesIn w a m r) (hc : m ≤ c) (hcm : c ≤ maxLen) :
    Calls Tryd.prog 6 #[.string (strOf f n), .slice a m c] w fun e w' => e = .returned (.bool true) ∧ Below w.heap.size w w' := by
  have TK := Lib.hid T
  have HR := Lib.hid hr
  clear T hr
  have zf := strOf_size f n
  have GD := Lib.hid (fun (w' : World) (hb : Below w.heap.size w w') => guards_any w' (TK.out.later hb))
  have BEL := Lib.hid (Below.refl w.heap.size w)
  by_cases hl : n ≤ 2000
  · have hI : ¬ (2000 : Int) < (n : Int) := by omega
    have hk : min m 150 ≤ m := by omega
    have su := fun w' => run_upto w' a (min m 150) m c hk hc
    have hE : (if (150 : Int) < (m : Int) then (150 : Int) else (m : Int)) = ((min m 150 : Nat) : Int) := by split <;> omega
    have hk2 : min m 150 ≤ 1000 := by omega
    have hki : BytesIn w a (min m 150) r := bytesIn_upto HR.out hk
    have HK := Lib.hid hki
    clear hki hc hcm
    generalize min m 150 = k at *
    have RB := Lib.hid (fun (w' : World) (hb : Below w.heap.size w w') => retry_both f r n k hk2 a c w' (bytesIn_later HK.out hb))
    have cv := fun (w' : World) (hb : Below w.heap.size w w') => conv_in r a k c w' (bytesIn_later HK.out hb)
    have CV := Lib.hid cv
    clear cv
    generalize strOf f n = SF at *
    generalize strOf r k = SR at *
    go_enter Tryd.func6, Tryd.ntmps6
    go_upto_region 3 with (go_at_call 8; refine (GD.out _ BEL.out).mono ?_; rintro e w1 ⟨rfl, hb⟩; have BEL := Lib.hid (BEL.out.trans (hb.mono BEL.out.size)); clear hb)
    go_upto_region 4 with (fail)
    have cv1 := CV.out _ BEL.out
    go_upto_region 5 with (go_at_call 16; refine (RB.out _ BEL.out).mono ?_; rintro e w2 ⟨T2, x2, rfl, hb, hx, hf⟩; have BEL := Lib.hid (BEL.out.trans (hb.mono BEL.out.size)); have HX := Lib.hid hx; have HF := Lib.hid hf; clear hb hx hf)
    go_upto_region 6 with (go_at_call 17; refine (HF.out).mono ?_; rintro e w3 ⟨rfl, hb⟩; have BEL := Lib.hid (BEL.out.trans (hb.mono BEL.out.size)); clear hb)
    rcases HX.out with ⟨rfl, hT⟩ | rfl
    · go_wp2_with fail
      go_ret
      exact ⟨rfl, BEL.out⟩
    · go_wp2_with fail
      go_ret
      exact ⟨rfl, BEL.out⟩
  · have hI : (2000 : Int) < (n : Int) := by omega
    generalize strOf f n = SF at *
    go_enter Tryd.func6, Tryd.ntmps6
    go_wp2_with (go_at_call 8; refine (GD.out _ BEL.out).mono ?_; rintro e w1 ⟨rfl, hb⟩; have BEL := Lib.hid (BEL.out.trans (hb.mono BEL.out.size)); clear hb)
    go_ret
    exact ⟨rfl, BEL.out⟩
set_option maxRecDepth 100000 in
theorem walk {H : Type} {enc : TypeId × Value → H} (w : World) (base : Nat) (v0 v1 : Value) (d0 d1 : DataW H) (p0 p1 : List MemPlace)
    (k0 : Value.okWide Tryd.prog w .any base 9 v0) (k1 : Value.okWide Tryd.prog w .any base 31 v1)
    (h0 : DataW.Trod enc Tryd.prog w 0 (fun _ => true) true 9 v0 d0 p0) (h1 : DataW.Trod enc Tryd.prog w 0 (fun _ => true) true 31 v1 d1 p1) (tab : TabK w) :
    Calls Tryd.prog 6 #[v0, v1] w fun e w' => e = .returned (.bool true) ∧ Below w.heap.size w w' := by
  obtain ⟨f, n, rfl, hn⟩ := open_text k0 h0
  obtain ⟨a, m, c, r, rfl, hr, hc, hcm⟩ := open_bytes k1 h1
  exact law_any f r n m c a w tab hr hc hcm
set_option maxRecDepth 100000 in
theorem lifted (os : Os) (started : os.Started) (H : Type) (enc : TypeId × Value → H) :
    ReturnsInHanded {} Tryd.checked os 6 .any (fun w args => (Rows.guardRetriesSpec.pre enc Tryd.prog Tryd.f6 [] false w args ∧ laidMetH Tryd.prog laids w) ∧ sizedMet enc Tryd.prog Tryd.f6 (OpenSpec.ofChange Rows.guardRetriesSpec) false w args)
      (Rows.guardRetriesSpec.post enc Tryd.prog Tryd.f6 false true false false) := by
  refine returnsInHanded_of_change_and (C := Tryd.checked) (X := fun w _ => laidMetH Tryd.prog laids w) (fun _ _ _ hh h => h.of_heap hh) own started (by kernel_rfl) Tryd.func6
    (ChangeSpec.witness_shaped (enc := enc) (C := Tryd.checked) (os := os) (X := fun w _ => laidMetH Tryd.prog laids w) false (World.doorLaid Tryd.prog 14 os) #[.string ⟨#[]⟩, .slice none 0 0] 8 rfl (World.shaped_of_RefB (by kernel_rfl) (by kernel_rfl)) (by kernel_rfl) (by kernel_rfl) (by kernel_rfl) (door_met os _)) ?_
  intro W base args ds gs before hval0 hW _ _ hL _
  have hval : ∀ (j : Nat) t v, Tryd.f6.params[j]? = some t → args[j]? = some v → Value.okWide Tryd.prog W .any base t v := hval0
  have hW' := hW
  obtain ⟨p, q, hA0, hV, rfl, hfz, hnd⟩ := hW
  have hA : DataW.TrodAll enc Tryd.prog W 0 (fun _ => true) true Tryd.f6.params.toList args.toList ds p := hA0
  rw [Tryd.params6] at hA hval
  obtain ⟨v0, vs0, d0, ds0, p0, q0, hargs, rfl, rfl, h0, r0⟩ := trodAll_cons hA
  obtain ⟨v1, vs1, d1, ds1, p1, q1, rfl, rfl, rfl, h1, r1⟩ := trodAll_cons r0
  obtain ⟨rfl, rfl, rfl⟩ := trodAll_nil r1
  obtain rfl : args = #[v0, v1] := by cases args; simp_all
  obtain ⟨rfl, rfl⟩ := trodVars_none hV
  have k0 := h0
  have lt0 : ∀ x ∈ p0, x.block < W.heap.size := by obtain ⟨m, hm⟩ := k0; exact DataW.trod_lt m _ _ _ hm
  have k1 := h1
  have lt1 : ∀ x ∈ p1, x.block < W.heap.size := by obtain ⟨m, hm⟩ := k1; exact DataW.trod_lt m _ _ _ hm
  clear hA0 hval0
  refine (walk W base v0 v1 d0 d1 p0 p1 (hval 0 9 v0 rfl rfl) (hval 1 31 v1 rfl rfl) k0 k1 (tabK_of_laid hL)).mono fun e W' ⟨he, bel⟩ => ?_
  subst he
  exact ⟨_, rfl, _, _, _, [], _, [], hW', trodAll_mk1 (shut_bool Tryd.underlying4 _), (trodAll_cons_mk (Below.trod laidOut (by kernel_rfl) (of_decide_eq_true (by kernel_rfl)) k0 bel lt0) (trodAll_cons_mk (Below.trod laidOut (by kernel_rfl) (of_decide_eq_true (by kernel_rfl)) k1 bel lt1) trodAll_mk0)), rfl, bel.frame _, fun h => by cases h⟩
theorem over : Rows.GuardRetriesSaid :=
  OpenClaim.holds_of_wide 6 Tryd.f6 rfl rfl rfl rfl rfl rfl rfl ⟨rfl, rfl, rfl, rfl, rfl⟩ rfl rfl rfl rfl rfl (by kernel_rfl) Tryd.func6 (by kernel_rfl)
    (of_decide_eq_true (by kernel_rfl)) (by unfold Func.isWrapper; first | (rw [if_pos (by decide +kernel)]; kernel_rfl) | (rw [if_neg (by decide +kernel)]; exact ⟨rfl, rfl⟩))
    (fun os started H enc _ => lifted os started H enc)
theorem proved : Rows.GuardRetriesCardSaid :=
  Claim7.holds_tied_plain_at .later [] [.data] true (true, "05149650663bb601fe4f72ae54034949c2a6c1852fc749e9b877e7204368164d") false
    over (fun _ h => by cases h) (by kernel_rfl) (fun _ h => by cases h) guardRetries_row_tie rfl ⟨rfl, rfl⟩ (by kernel_rfl) rfl
    (fun f fn hf hfn => by
      obtain rfl : f = 6 := Option.some.inj ((show Tryd.prog.funcNamed "rhyne/rhynelaw10.GuardRetries" = some 6 by kernel_rfl).symm.trans hf) |>.symm
      obtain rfl : fn = Tryd.f6 := (Option.some.inj (Tryd.func6.symm.trans hfn)).symm
      exact ⟨by kernel_rfl, fun j t ht => by
        rw [Tryd.params6] at ht
        have hm : t ∈ [9, 31] := by simpa using Array.mem_of_getElem? ht
        have hall : ([9, 31].all fun u => !Tryd.prog.wantsStandIn u) = true := by kernel_rfl
        exact (show Tryd.prog.wantsStandIn t = false by simpa using List.all_eq_true.1 hall t hm)⟩)
    (by kernel_rfl)
end Go.Proofs.YtekgclpmbidphaaDoor.guardRetries
