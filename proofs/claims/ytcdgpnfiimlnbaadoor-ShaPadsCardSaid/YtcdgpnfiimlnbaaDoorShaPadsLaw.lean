/-
  A text and the same with noughts behind it have unlike sums, unless two unlike texts with one sum have been found, at the commit of COMMIT; the table of sha's constants holds what the program's text lays.
-/
import Derived.Test.YtcdgpnfiimlnbaaDoorRows
import Derived.Test.YtcdgpnfiimlnbaaDoorCards
import Derived.Test.YtcdgpnfiimlnbaaDoorTie
import Derived.Test.YtcdgpnfiimlnbaaDoorShaDoor
import Derived.Test.YtcdgpnfiimlnbaaDoorShaS
import Derived.Test.YtcdgpnfiimlnbaaDoorNoughts
import Derived.WalkKit
import Derived.ProofKit
import Derived.OpenShut
import Derived.ShutString
import Derived.ChangeOld
import Derived.Below
import Derived.Deep.DeepCutAuto
import Derived.Deep.Upon
import Derived.Deep.AppendSrc
import Derived.SevenTiedAt
import Derived.LaidMore
import Derived.SizedLaws
import Derived.Lib.SmallJoins
namespace Go.Proofs.YtcdgpnfiimlnbaaDoor.shaPads
open Go Go.ChangeShapes Go.WideShapes Go.ChangeAt Go.RowKit Go.BigFrame
set_option linter.unusedVariables false
/-- '!=' of two arrays, by the run of their comparison. -/
theorem run_neq_arr (AF AG : Array Value) (D : Bool) (w : World) (h : (Op.equalIn 10000 24 (.agg AF) (.agg AG)).run Tryd.prog w = .ok D w) :
    (do eqGuard .neq 24 (.tmp 33) (.tmp 35) (.agg AF) (.agg AG); (binOp .neq 24 (.agg AF) (.agg AG) >>= fun v => pure (Next.value v)) : Sem Next).run Tryd.prog w = .ok (.value (.bool (!D))) w := by
  go_simp
set_option maxRecDepth 100000 in
set_option maxHeartbeats 16000000 in
theorem law_any (a : Option Addr) (n c : Nat) (f : Nat → BitVec 8) (cut : Int) (w : World) (T : TabK w) (hx : BytesIn w a n f) (hc : n ≤ c) (hcm : c ≤ maxLen) :
    Calls Tryd.prog 7 #[.slice a n c, .int .i64 cut] w fun e w' => e = .returned (.bool true) ∧ Below w.heap.size w w' := by
  have HX := Lib.hid hx
  have TK := Lib.hid T
  clear hx T
  obtain ⟨z, hz⟩ : ∃ z : Nat, IntKind.u64.wrap cut = (z : Int) := ⟨(BitVec.ofInt 64 cut).toNat, by rw [wrap_n64, n64_nat]⟩
  have HZ := Lib.hid hz
  clear hz
  go_enter Tryd.func7, Tryd.ntmps7
  by_cases hl : n ≤ 2000
  · have hlI : ¬ (2000 : Int) < (n : Int) := by omega
    go_wp2_with fail
    with_reducible refine (digests_any w TK.out).mono ?_
    rintro e w1 ⟨rfl, hb1⟩
    go_upto_region 3 with fail
    obtain ⟨r, hr⟩ : ∃ r : Nat, z % 130 = r := ⟨_, rfl⟩
    have hr130 : r < 130 := by omega
    have hrI : (z : Int) % 130 = (r : Int) := by omega
    have HRI := Lib.hid hrI
    obtain ⟨k, hk⟩ : ∃ k : Nat, 1 + r = k := ⟨_, rfl⟩
    have hk1 : 1 ≤ k := by omega
    have hk2 : k ≤ 130 := by omega
    have hkI : 1 + (r : Int) = (k : Int) := by omega
    have HKI := Lib.hid hkI
    have HR130 := Lib.hid hr130
    have HK1 := Lib.hid hk1
    have HK2 := Lib.hid hk2
    clear hk hkI hr hrI hr130 hk1 hk2
    go_cut [5] (fun v5 wx => v5 = .int .i64 (k : Int) ∧ wx = w1)
    case first =>
      have hz := HZ.out
      go_wp2_with fail
      go_meet
      exact ⟨by rw [HRI.out, HKI.out], rfl⟩
    obtain ⟨rfl, ewc⟩ := hcut
    rw [ewc]
    clear ewc
    have hk1 := HK1.out
    have hk2 := HK2.out
    -- the longer text
    have hal : Below w1.heap.size w1 (w1.alloc (.cells #[] 5)) := (Below.refl _ _).alloc (Nat.le_refl _) _
    have O0 := Lib.hid (Own.empty (B := w1.heap.size) f w1 (Nat.le_refl _))
    have S0 := Lib.hid (src_in (bytesIn_ext HX.out (hb1.trans (hal.mono hb1.size))) c)
    have HAL := Lib.hid hal
    have B1 := Lib.hid hb1
    clear hal hb1
    go_upto_region 5 with (first
      | (at_builtin; refine wpList_append_bytes_g (o := ⟨some 22, _, _, _, _, _⟩) (by rfl) _ _ 22 (by rfl) (by rfl) (by rfl) O0.out S0.out (by omega) ?_; intro v2 w2 o2 g2; have b2 := Lib.hid (HAL.out.trans (g2.below O0.out)); have O2 := Lib.hid o2; clear o2 g2)
      | (at_builtin; refine wpList_append_noughts (o := ⟨some 24, _, _, _, _, _⟩) k (by omega) hk1 (by rfl) _ _ (by rfl) (by rfl) (by rfl) O2.out (by omega) ?_; intro v3 w3 o3 g3; have b3 := Lib.hid (b2.out.trans (g3.below O2.out)); have O3 := Lib.hid o3; clear o3 g3)
      | fail)
    obtain ⟨a3, c3, rfl, hc3, hm3, bi3⟩ := O3.out.asBytes
    obtain ⟨g3, hg3⟩ : ∃ g3, joinb (joinb f 0 f) (0 + n) (fun _ => 0#8) = g3 := ⟨_, rfl⟩
    rw [hg3] at bi3
    obtain ⟨m, hm⟩ : ∃ m, 0 + n + k = m := ⟨_, rfl⟩
    rw [hm] at bi3 hc3
    simp only [hm]
    have hmk : m ≤ 3000 := by omega
    have B3 := Lib.hid (B1.out.trans (b3.out.mono B1.out.size))
    have BI3 := Lib.hid bi3
    have X3 := Lib.hid (bytesIn_ext HX.out B3.out)
    clear bi3 O0 S0 HAL O2 b2 O3 b3 hg3 hm B1
    have RF := Lib.hid (fun w' => refSum_any f n (by omega) w')
    have RG := Lib.hid (fun w' => refSum_any g3 m (by omega) w')
    have CF := Lib.hid (fun (w' : World) (hb : Below w3.heap.size w3 w') => conv_in f a n c w' (bytesIn_ext X3.out hb))
    have CG := Lib.hid (fun (w' : World) (hb : Below w3.heap.size w3 w') => conv_in g3 a3 m c3 w' (bytesIn_ext BI3.out hb))
    have SF := Lib.hid (fun (w' : World) (hb : Below w3.heap.size w3 w') => shaSum_any n c f a w' (TK.out.later (B3.out.trans (hb.mono B3.out.size))) (bytesIn_ext X3.out hb) hc hcm (by omega))
    have SG := Lib.hid (fun (w' : World) (hb : Below w3.heap.size w3 w') => shaSum_any m c3 g3 a3 w' (TK.out.later (B3.out.trans (hb.mono B3.out.size))) (bytesIn_ext BI3.out hb) hc3 hm3 (by omega))
    have e1 := strOf_allEq (sumS f n) (sumS g3 m) 32
    have e2 := strOf_list_allEq (sumS f n) (sumS g3 m) 32
    have e3 := fun w' => eq32 (sumS f n) (sumS g3 m) w'
    generalize strOf (sumS f n) 32 = ZF at *
    generalize strOf (sumS g3 m) 32 = ZG at *
    generalize sumS f n = pf at *
    generalize sumS g3 m = pg at *
    generalize strOf f n = TF at *
    generalize strOf g3 m = TG at *
    generalize bytesA pf 32 = AF at *
    generalize bytesA pg 32 = AG at *
    obtain ⟨D2, hD2⟩ : ∃ D2, allEq pf pg 32 = D2 := ⟨_, rfl⟩
    obtain ⟨D, hD⟩ : ∃ D, allEq pf pg 32 = D := ⟨_, rfl⟩
    rw [hD] at e1 e2
    simp only [hD2] at e3
    have HDD := Lib.hid (hD2.symm.trans hD)
    have E1 := Lib.hid e1
    have E2 := Lib.hid e2
    have E3 := Lib.hid e3
    clear hD hD2 e1 e2 e3 X3 BI3
    refine region_class1 6 (fun w' => Below w3.heap.size w3 w') mixedOrders (by kernel_rfl) (Below.refl _ _).drew rfl ?_
    refine wpQuiet_take (by rfl) (fun K hK => ⟨.slice a n c, fun w2' hw2 => ?_, hK _ ?_⟩)
    · clear hw2; go_simp
    clear hK K
    simp only [Act.put, List.setIfInBounds_toArray, List.set_cons_succ, List.set_cons_zero]
    refine wpQuiet_take (by rfl) (fun K hK => ⟨.string TF, fun w2' hw2 => ?_, hK _ ?_⟩)
    · have cf := CF.out w2' hw2
      clear hw2; go_simp
    clear hK K
    simp only [Act.put, List.setIfInBounds_toArray, List.set_cons_succ, List.set_cons_zero]
    refine wpQuiet_take (by rfl) (fun K hK => ⟨.string ZF, fun w2' hw2 => ?_, hK _ ?_⟩)
    · go_simp
      go_at_call 11
      with_reducible refine (RF.out w2').mono ?_
      rintro e w5 ⟨rfl, hb5⟩
      exact ⟨rfl, hw2.trans (hb5.mono hw2.size)⟩
    clear hK K
    simp only [Act.put, List.setIfInBounds_toArray, List.set_cons_succ, List.set_cons_zero]
    refine wpQuiet_take (by rfl) (fun K hK => ⟨.slice a3 m c3, fun w2' hw2 => ?_, hK _ ?_⟩)
    · clear hw2; go_simp
    clear hK K
    simp only [Act.put, List.setIfInBounds_toArray, List.set_cons_succ, List.set_cons_zero]
    refine wpQuiet_take (by rfl) (fun K hK => ⟨.string TG, fun w2' hw2 => ?_, hK _ ?_⟩)
    · have cg := CG.out w2' hw2
      clear hw2; go_simp
    clear hK K
    simp only [Act.put, List.setIfInBounds_toArray, List.set_cons_succ, List.set_cons_zero]
    refine wpQuiet_take (by rfl) (fun K hK => ⟨.string ZG, fun w2' hw2 => ?_, hK _ ?_⟩)
    · go_simp
      go_at_call 11
      with_reducible refine (RG.out w2').mono ?_
      rintro e w5 ⟨rfl, hb5⟩
      exact ⟨rfl, hw2.trans (hb5.mono hw2.size)⟩
    clear hK K
    simp only [Act.put, List.setIfInBounds_toArray, List.set_cons_succ, List.set_cons_zero]
    refine wpQuiet_take0 ?_
    intro w6 hb6
    have B6 := Lib.hid (B3.out.trans (hb6.mono B3.out.size))
    have HB6 := Lib.hid hb6
    have q1 := E1.out
    have q2 := E2.out
    clear hb6 CF CG RF RG
    cases D with
    | true =>
      go_wp2_with fail
      go_ret
      exact ⟨rfl, B6.out⟩
    | false =>
      go_wp2_with fail
      with_reducible refine (SF.out w6 HB6.out).mono ?_
      rintro e w7 ⟨rfl, hb7'⟩
      have hb7 := HB6.out.trans (hb7'.mono HB6.out.size)
      go_wp2_with fail
      with_reducible refine (SG.out w7 hb7).mono ?_
      rintro e w8 ⟨rfl, hb8'⟩
      have hb8 := hb7.trans (hb8'.mono hb7.size)
      dsimp only
      go_step
      refine wpList_run rfl (run_neq_arr AF AG D2 w8 (E3.out w8)) ?_
      simp only [Act.put, List.setIfInBounds_toArray, List.set_cons_succ, List.set_cons_zero]
      rw [HDD.out]
      go_wp2_with fail
      go_ret
      exact ⟨rfl, B3.out.trans (hb8.mono B3.out.size)⟩
  · have hlI : (2000 : Int) < (n : Int) := by omega
    go_wp2_with fail
    with_reducible refine (digests_any w TK.out).mono ?_
    rintro e w1 ⟨rfl, hb1⟩
    go_wp2_with fail
    with_reducible refine (digests_any w1 (TK.out.later hb1)).mono ?_
    rintro e w2 ⟨rfl, hb2⟩
    go_wp2_with fail
    go_ret
    exact ⟨rfl, hb1.trans (hb2.mono hb1.size)⟩
set_option maxRecDepth 100000 in
theorem walk {H : Type} {enc : TypeId × Value → H} (w : World) (base : Nat) (v0 v1 : Value) (d0 d1 : DataW H) (p0 p1 : List MemPlace)
    (k0 : Value.okWide Tryd.prog w .any base 22 v0) (k1 : Value.okWide Tryd.prog w .any base 3 v1) (h0 : DataW.Trod enc Tryd.prog w 0 (fun _ => true) true 22 v0 d0 p0) (h1 : DataW.Trod enc Tryd.prog w 0 (fun _ => true) true 3 v1 d1 p1) (tab : TabK w) :
    Calls Tryd.prog 7 #[v0, v1] w fun e w' => e = .returned (.bool true) ∧ Below w.heap.size w w' := by
  obtain ⟨a, n, c, f, rfl, hb, hlc, hm⟩ := open_bytes k0 h0
  obtain ⟨x, rfl, rfl, rfl, wx⟩ := open_int Tryd.underlying3 k1 h1
  exact law_any a n c f x w tab hb hlc hm
set_option maxRecDepth 100000 in
theorem lifted (os : Os) (started : os.Started) (H : Type) (enc : TypeId × Value → H) :
    ReturnsInHanded {} Tryd.checked os 7 .any (fun w args => (Rows.shaPadsSpec.pre enc Tryd.prog Tryd.f7 [] false w args ∧ laidMetH Tryd.prog laids w) ∧ sizedMet enc Tryd.prog Tryd.f7 (OpenSpec.ofChange Rows.shaPadsSpec) false w args)
      (Rows.shaPadsSpec.post enc Tryd.prog Tryd.f7 false true false false) := by
  refine returnsInHanded_of_change_and (C := Tryd.checked) (X := fun w _ => laidMetH Tryd.prog laids w) (fun _ _ _ hh h => h.of_heap hh) own started (by kernel_rfl) Tryd.func7
    (ChangeSpec.witness_shaped (enc := enc) (C := Tryd.checked) (os := os) (X := fun w _ => laidMetH Tryd.prog laids w) false (World.doorLaid Tryd.prog 14 os) #[.slice none 0 0, .int .i64 0] 8 rfl (World.shaped_of_RefB (by kernel_rfl) (by kernel_rfl)) (by kernel_rfl) (by kernel_rfl) (by kernel_rfl) (door_met os _)) ?_
  intro W base args ds gs before hval0 hW _ _ hL _
  have hval : ∀ (j : Nat) t v, Tryd.f7.params[j]? = some t → args[j]? = some v → Value.okWide Tryd.prog W .any base t v := hval0
  have hW' := hW
  obtain ⟨p, q, hA0, hV, rfl, hfz, hnd⟩ := hW
  have hA : DataW.TrodAll enc Tryd.prog W 0 (fun _ => true) true Tryd.f7.params.toList args.toList ds p := hA0
  rw [Tryd.params7] at hA hval
  obtain ⟨v0, vs0, d0, ds0, p0, q0, hargs, rfl, rfl, h0, r0⟩ := trodAll_cons hA
  obtain ⟨v1, vs1, d1, ds1, p1, q1, rfl, rfl, rfl, h1, r1⟩ := trodAll_cons r0
  obtain ⟨rfl, rfl, rfl⟩ := trodAll_nil r1
  obtain rfl : args = #[v0, v1] := by cases args; simp_all
  obtain ⟨rfl, rfl⟩ := trodVars_none hV
  have k0 := h0
  have lt0 : ∀ x ∈ p0, x.block < W.heap.size := by obtain ⟨m, hm⟩ := k0; exact DataW.trod_lt m _ _ _ hm
  have k1 := h1
  have lt1 : ∀ x ∈ p1, x.block < W.heap.size := by obtain ⟨m, hm⟩ := k1; exact DataW.trod_lt m _ _ _ hm
  clear hA0 hval0
  refine (walk W base v0 v1 d0 d1 p0 p1 (hval 0 22 v0 rfl rfl) (hval 1 3 v1 rfl rfl) k0 k1 (tabK_of_laid hL)).mono fun e W' ⟨he, bel⟩ => ?_
  subst he
  exact ⟨_, rfl, _, _, _, [], _, [], hW', trodAll_mk1 (shut_bool Tryd.underlying4 _), (trodAll_cons_mk (Below.trod laidOut (by kernel_rfl) (of_decide_eq_true (by kernel_rfl)) k0 bel lt0) (trodAll_cons_mk (Below.trod laidOut (by kernel_rfl) (of_decide_eq_true (by kernel_rfl)) k1 bel lt1) trodAll_mk0)), rfl, bel.frame _, fun h => by cases h⟩
theorem over : Rows.ShaPadsSaid :=
  OpenClaim.holds_of_wide 7 Tryd.f7 rfl rfl rfl rfl rfl rfl rfl ⟨rfl, rfl, rfl, rfl, rfl⟩ rfl rfl rfl rfl rfl (by kernel_rfl) Tryd.func7 (by kernel_rfl)
    (of_decide_eq_true (by kernel_rfl)) (by unfold Func.isWrapper; first | (rw [if_pos (by decide +kernel)]; kernel_rfl) | (rw [if_neg (by decide +kernel)]; exact ⟨rfl, rfl⟩))
    (fun os started H enc _ => lifted os started H enc)
theorem proved : Rows.ShaPadsCardSaid :=
  Claim7.holds_tied_plain_at .later [] [.data] true (true, "087e57aef0719291e6b76ce2e7e1cc2c8340e26022a027d6faef561ff8c63583") false
    over (fun _ h => by cases h) (by kernel_rfl) (fun _ h => by cases h) shaPads_row_tie rfl ⟨rfl, rfl⟩ (by kernel_rfl) rfl
    (fun f fn hf hfn => by
      obtain rfl : f = 7 := Option.some.inj ((show Tryd.prog.funcNamed "rhyne/rhynelaw01.ShaPads" = some 7 by kernel_rfl).symm.trans hf) |>.symm
      obtain rfl : fn = Tryd.f7 := (Option.some.inj (Tryd.func7.symm.trans hfn)).symm
      exact ⟨by kernel_rfl, fun j t ht => by
        rw [Tryd.params7] at ht
        have hm : t ∈ [22, 3] := by simpa using Array.mem_of_getElem? ht
        have hall : ([22, 3].all fun u => !Tryd.prog.wantsStandIn u) = true := by kernel_rfl
        exact (show Tryd.prog.wantsStandIn t = false by simpa using List.all_eq_true.1 hall t hm)⟩)
    (by kernel_rfl)
end Go.Proofs.YtcdgpnfiimlnbaaDoor.shaPads
