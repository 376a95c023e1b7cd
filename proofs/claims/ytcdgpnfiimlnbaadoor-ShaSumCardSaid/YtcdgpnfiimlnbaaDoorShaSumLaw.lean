/-
  Of all bytes Sum tells SHA-256, at the commit of COMMIT; the table of sha's constants holds what the program's text lays.
-/
import Derived.Test.YtcdgpnfiimlnbaaDoorRows
import Derived.Test.YtcdgpnfiimlnbaaDoorCards
import Derived.Test.YtcdgpnfiimlnbaaDoorTie
import Derived.Test.YtcdgpnfiimlnbaaDoorShaDoor
import Derived.Test.YtcdgpnfiimlnbaaDoorShaS
import Derived.WalkKit
import Derived.ProofKit
import Derived.OpenShut
import Derived.ShutString
import Derived.ChangeOld
import Derived.Below
import Derived.Deep.DeepCutAuto
import Derived.Deep.Upon
import Derived.Deep.AppendSrc
import Derived.SevenTiedAt
import Derived.LaidMore
import Derived.SizedLaws
import Derived.Lib.SmallJoins
namespace Go.Proofs.YtcdgpnfiimlnbaaDoor.shaSum
open Go Go.ChangeShapes Go.WideShapes Go.ChangeAt Go.RowKit Go.BigFrame
set_option linter.unusedVariables false
set_option maxRecDepth 100000 in
set_option maxHeartbeats 16000000 in
theorem law_any (a : Option Addr) (n c : Nat) (f : Nat → BitVec 8) (w : World) (T : TabK w) (hx : BytesIn w a n f) (hc : n ≤ c) (hcm : c ≤ maxLen) :
    Calls Tryd.prog 3 #[.slice a n c] w fun e w' => e = .returned (.bool true) ∧ Below w.heap.size w w' := by
  have HX := Lib.hid hx
  have TK := Lib.hid T
  clear hx T
  go_enter Tryd.func3, Tryd.ntmps3
  by_cases hl : n ≤ 5000
  · have hlI : ¬ (5000 : Int) < (n : Int) := by omega
    go_wp2_with fail
    with_reducible refine (digests_any w TK.out).mono ?_
    rintro e w1 ⟨rfl, hb1⟩
    have X1 := bytesIn_ext HX.out hb1
    have SM := Lib.hid (shaSum_any n c f a w1 (TK.out.later hb1) X1 hc hcm (by omega))
    have RS := Lib.hid (fun w' => refSum_any f n (by omega) w')
    have B1 := Lib.hid hb1
    have X1' := Lib.hid X1
    obtain ⟨sm, hsm⟩ : ∃ sm, sumS f n = sm := ⟨_, rfl⟩
    rw [hsm] at SM RS
    have CB := Lib.hid (fun (w' : World) (hb : Below w1.heap.size w1 w') => conv_in f a n c w' (bytesIn_ext X1 hb))
    have CS := Lib.hid (fun (w' : World) (g : Nat) (h : w'.heap[g]? = some (.cells (bytesA sm 32) 24 (0, 0))) => conv_in sm (some ⟨g, 0, none⟩) 32 32 w' (row_bytesIn h 32 (Nat.le_refl _) (by unfold maxLen; omega)))
    generalize strOf f n = SF at *
    generalize strOf sm 32 = SS at *
    clear hsm X1 hb1
    go_wp2_with fail
    with_reducible refine SM.out.mono ?_
    rintro e w3 ⟨rfl, hb3⟩
    have hal : Below w3.heap.size w3 (w3.alloc (.cells (bytesA sm 32) 24)) := (Below.refl _ _).alloc (Nat.le_refl _) _
    have hal2 : (w3.alloc (.cells (bytesA sm 32) 24)).heap[w3.heap.size]? = some (.cells (bytesA sm 32) 24 (0, 0)) := heap_alloc_last _ _
    go_upto_region 4 with (first
      | (refine wpList_alloc_row (o := ⟨some 3, .alloc 24, _, _, _, _⟩) rfl 24 rfl _ zero_32 ?_)
      | (refine wpList_store_new (o := ⟨none, .store 24 (.tmp 3) (.tmp 13), _, _, _, _⟩) rfl 24 _ _ rfl (bytesA (fun _ => 0#8) 32) (bytesA sm 32) _ rfl rfl rfl (by rw [bytesA_size]; kernel_rfl) (by rw [bytesA_size, bytesA_size]) (bytesA_one _ _) ?_))
    obtain ⟨w4, hw4⟩ : ∃ w4, w3.alloc (.cells (bytesA sm 32) 24) = w4 := ⟨_, rfl⟩
    rw [hw4] at hal hal2
    simp only [hw4]
    have B4 := Lib.hid (hb3.trans (hal.mono hb3.size))
    generalize w3.heap.size = s at *
    have RW := Lib.hid hal2
    clear hal hal2 hw4 hb3 SM
    refine region_class1 6 (fun w' => Below w4.heap.size w4 w') mixedOrders (by kernel_rfl) (Below.refl _ _).drew rfl ?_
    refine wpQuiet_take (by rfl) (fun K hK => ⟨.slice (some ⟨s, 0, none⟩) 32 32, fun w2' hw2 => ?_, hK _ ?_⟩)
    · have hall := run_arr32_all w2' s
      clear hw2; go_simp
    clear hK K
    simp only [Act.put, List.setIfInBounds_toArray, List.set_cons_succ, List.set_cons_zero]
    refine wpQuiet_take (by rfl) (fun K hK => ⟨.string SS, fun w2' hw2 => ?_, hK _ ?_⟩)
    · have cs := CS.out w2' s ((hw2.block s (lt_row RW.out)).trans RW.out)
      clear hw2; go_simp
    clear hK K
    simp only [Act.put, List.setIfInBounds_toArray, List.set_cons_succ, List.set_cons_zero]
    refine wpQuiet_take (by rfl) (fun K hK => ⟨.slice a n c, fun w2' hw2 => ?_, hK _ ?_⟩)
    · clear hw2; go_simp
    clear hK K
    simp only [Act.put, List.setIfInBounds_toArray, List.set_cons_succ, List.set_cons_zero]
    refine wpQuiet_take (by rfl) (fun K hK => ⟨.string SF, fun w2' hw2 => ?_, hK _ ?_⟩)
    · have cb := CB.out w2' (B4.out.trans (hw2.mono B4.out.size))
      clear hw2; go_simp
    clear hK K
    simp only [Act.put, List.setIfInBounds_toArray, List.set_cons_succ, List.set_cons_zero]
    refine wpQuiet_take (by rfl) (fun K hK => ⟨.string SS, fun w2' hw2 => ?_, hK _ ?_⟩)
    · go_simp
      go_at_call 11
      with_reducible refine (RS.out w2').mono ?_
      rintro e w5 ⟨rfl, hb5⟩
      exact ⟨rfl, hw2.trans (hb5.mono hw2.size)⟩
    clear hK K
    simp only [Act.put, List.setIfInBounds_toArray, List.set_cons_succ, List.set_cons_zero]
    refine wpQuiet_take (by rfl) (fun K hK => ⟨.bool true, fun w2' hw2 => ?_, hK _ ?_⟩)
    · clear hw2; go_simp
    clear hK K
    simp only [Act.put, List.setIfInBounds_toArray, List.set_cons_succ, List.set_cons_zero]
    refine wpQuiet_take0 ?_
    intro w6 hb6
    have B6 := Lib.hid (B1.out.trans ((B4.out.trans (hb6.mono B4.out.size)).mono B1.out.size))
    clear hb6
    go_wp2_with fail
    go_ret
    exact ⟨rfl, B6.out⟩
  · have hlI : (5000 : Int) < (n : Int) := by omega
    go_wp2_with fail
    with_reducible refine (digests_any w TK.out).mono ?_
    rintro e w1 ⟨rfl, hb1⟩
    go_wp2_with fail
    with_reducible refine (digests_any w1 (TK.out.later hb1)).mono ?_
    rintro e w2 ⟨rfl, hb2⟩
    go_wp2_with fail
    go_ret
    exact ⟨rfl, hb1.trans (hb2.mono hb1.size)⟩
set_option maxRecDepth 100000 in
theorem walk {H : Type} {enc : TypeId × Value → H} (w : World) (base : Nat) (v0 : Value) (d0 : DataW H) (p0 : List MemPlace)
    (k0 : Value.okWide Tryd.prog w .any base 22 v0) (h0 : DataW.Trod enc Tryd.prog w 0 (fun _ => true) true 22 v0 d0 p0) (tab : TabK w) :
    Calls Tryd.prog 3 #[v0] w fun e w' => e = .returned (.bool true) ∧ Below w.heap.size w w' := by
  obtain ⟨a, n, c, f, rfl, hb, hlc, hm⟩ := open_bytes k0 h0
  exact law_any a n c f w tab hb hlc hm
set_option maxRecDepth 100000 in
theorem lifted (os : Os) (started : os.Started) (H : Type) (enc : TypeId × Value → H) :
    ReturnsInHanded {} Tryd.checked os 3 .any (fun w args => (Rows.shaSumSpec.pre enc Tryd.prog Tryd.f3 [] false w args ∧ laidMetH Tryd.prog laids w) ∧ sizedMet enc Tryd.prog Tryd.f3 (OpenSpec.ofChange Rows.shaSumSpec) false w args)
      (Rows.shaSumSpec.post enc Tryd.prog Tryd.f3 false true false false) := by
  refine returnsInHanded_of_change_and (C := Tryd.checked) (X := fun w _ => laidMetH Tryd.prog laids w) (fun _ _ _ hh h => h.of_heap hh) own started (by kernel_rfl) Tryd.func3
    (ChangeSpec.witness_shaped (enc := enc) (C := Tryd.checked) (os := os) (X := fun w _ => laidMetH Tryd.prog laids w) false (World.doorLaid Tryd.prog 14 os) #[.slice none 0 0] 8 rfl (World.shaped_of_RefB (by kernel_rfl) (by kernel_rfl)) (by kernel_rfl) (by kernel_rfl) (by kernel_rfl) (door_met os _)) ?_
  intro W base args ds gs before hval0 hW _ _ hL _
  have hval : ∀ (j : Nat) t v, Tryd.f3.params[j]? = some t → args[j]? = some v → Value.okWide Tryd.prog W .any base t v := hval0
  have hW' := hW
  obtain ⟨p, q, hA0, hV, rfl, hfz, hnd⟩ := hW
  have hA : DataW.TrodAll enc Tryd.prog W 0 (fun _ => true) true Tryd.f3.params.toList args.toList ds p := hA0
  rw [Tryd.params3] at hA hval
  obtain ⟨v0, vs0, d0, ds0, p0, q0, hargs, rfl, rfl, h0, r0⟩ := trodAll_cons hA
  obtain ⟨rfl, rfl, rfl⟩ := trodAll_nil r0
  obtain rfl : args = #[v0] := by cases args; simp_all
  obtain ⟨rfl, rfl⟩ := trodVars_none hV
  have k0 := h0
  have lt0 : ∀ x ∈ p0, x.block < W.heap.size := by obtain ⟨m, hm⟩ := k0; exact DataW.trod_lt m _ _ _ hm
  clear hA0 hval0
  refine (walk W base v0 d0 p0 (hval 0 22 v0 rfl rfl) k0 (tabK_of_laid hL)).mono fun e W' ⟨he, bel⟩ => ?_
  subst he
  exact ⟨_, rfl, _, _, _, [], _, [], hW', trodAll_mk1 (shut_bool Tryd.underlying4 _), (trodAll_cons_mk (Below.trod laidOut (by kernel_rfl) (of_decide_eq_true (by kernel_rfl)) k0 bel lt0) trodAll_mk0), rfl, bel.frame _, fun h => by cases h⟩
theorem over : Rows.ShaSumSaid :=
  OpenClaim.holds_of_wide 3 Tryd.f3 rfl rfl rfl rfl rfl rfl rfl ⟨rfl, rfl, rfl, rfl, rfl⟩ rfl rfl rfl rfl rfl (by kernel_rfl) Tryd.func3 (by kernel_rfl)
    (of_decide_eq_true (by kernel_rfl)) (by unfold Func.isWrapper; first | (rw [if_pos (by decide +kernel)]; kernel_rfl) | (rw [if_neg (by decide +kernel)]; exact ⟨rfl, rfl⟩))
    (fun os started H enc _ => lifted os started H enc)
theorem proved : Rows.ShaSumCardSaid :=
  Claim7.holds_tied_plain_at .later [] [.data] true (true, "087e57aef0719291e6b76ce2e7e1cc2c8340e26022a027d6faef561ff8c63583") false
    over (fun _ h => by cases h) (by kernel_rfl) (fun _ h => by cases h) shaSum_row_tie rfl ⟨rfl, rfl⟩ (by kernel_rfl) rfl
    (fun f fn hf hfn => by
      obtain rfl : f = 3 := Option.some.inj ((show Tryd.prog.funcNamed "rhyne/rhynelaw01.ShaSum" = some 3 by kernel_rfl).symm.trans hf) |>.symm
      obtain rfl : fn = Tryd.f3 := (Option.some.inj (Tryd.func3.symm.trans hfn)).symm
      exact ⟨by kernel_rfl, fun j t ht => by
        rw [Tryd.params3] at ht
        have hm : t ∈ [22] := by simpa using Array.mem_of_getElem? ht
        have hall : ([22].all fun u => !Tryd.prog.wantsStandIn u) = true := by kernel_rfl
        exact (show Tryd.prog.wantsStandIn t = false by simpa using List.all_eq_true.1 hall t hm)⟩)
    (by kernel_rfl)
end Go.Proofs.YtcdgpnfiimlnbaaDoor.shaSum
