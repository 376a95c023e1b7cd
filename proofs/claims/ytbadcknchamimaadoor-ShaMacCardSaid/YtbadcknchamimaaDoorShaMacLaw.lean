/-
  Of all keys and bytes Mac tells HMAC, and a key and its Sum, if it is longer than a block, make the same, at the commit of COMMIT; the table of sha's constants holds what the program's text lays.
-/
import Derived.Test.YtbadcknchamimaaDoorRows
import Derived.Test.YtbadcknchamimaaDoorCards
import Derived.Test.YtbadcknchamimaaDoorTie
import Derived.Test.YtbadcknchamimaaDoorShaDoor
import Derived.Test.YtbadcknchamimaaDoorShaT
import Derived.Test.YtbadcknchamimaaDoorShaL
import Derived.WalkKit
import Derived.ProofKit
import Derived.OpenShut
import Derived.ShutString
import Derived.ChangeOld
import Derived.Below
import Derived.Deep.DeepCutAuto
import Derived.Deep.Upon
import Derived.Deep.AppendSrc
import Derived.SevenTiedAt
import Derived.LaidMore
import Derived.SizedLaws
import Derived.Lib.SmallJoins
namespace Go.Proofs.YtbadcknchamimaaDoor.shaMac
open Go Go.ChangeShapes Go.WideShapes Go.ChangeAt Go.RowKit Go.BigFrame
set_option linter.unusedVariables false
theorem wpList_load_row_g {P : Program} {ops : Array Oper} {rest : List Oper} {o : Oper} {a : Act} {w : World} {Q : Exit → Act → World → Prop} (hw : Region.wanted o (yielded ops a.tmps) = true) (ty : TypeId) (x : Operand) (ho : o.op = .load ty x)
    (g : Nat) (hx : a.eval x = .pointer (some ⟨g, 0, none⟩)) (t : TypeId) (cs : Array Value) (fr : Nat × Nat) (d : TypeDesc) (hg : w.heap[g]? = some (.cells cs t fr))
    (hu : P.underlying ty = some d) (hd : (match d with | .struct _ | .array _ _ => true | _ => false) = true) (hi : (P.info? ty).map (·.size) = some cs.size)
    (h : wpList P ops Q rest (a.put o.dst (.agg cs)) w) : wpList P ops Q (o :: rest) a w :=
  wpList_step fun K hK => by rw [if_pos hw]; exact wp_load_row ty x ho g hx t cs fr d hg hu hd hi (hK _ _ h)
set_option maxRecDepth 100000 in
set_option maxHeartbeats 16000000 in
theorem law_any (a a' : Option Addr) (n c n' c' : Nat) (f g : Nat → BitVec 8) (w : World) (T : TabK w) (hx : BytesIn w a n f) (hc : n ≤ c) (hcm : c ≤ maxLen) (hy : BytesIn w a' n' g) (hc' : n' ≤ c') (hcm' : c' ≤ maxLen) :
    Calls Tryd.prog 4 #[.slice a n c, .slice a' n' c'] w fun e w' => e = .returned (.bool true) ∧ Below w.heap.size w w' := by
  have HX := Lib.hid hx
  have HY := Lib.hid hy
  have TK := Lib.hid T
  clear hx hy T
  go_enter Tryd.func4, Tryd.ntmps4
  by_cases hl : n ≤ 5000
  · have hlI : ¬ (5000 : Int) < (n : Int) := by omega
    by_cases hl' : n' ≤ 5000
    · have hlI' : ¬ (5000 : Int) < (n' : Int) := by omega
      go_wp2_with fail
      with_reducible refine (digests_any w TK.out).mono ?_
      rintro e w1 ⟨rfl, hb1⟩
      have X1 := bytesIn_ext HX.out hb1
      have Y1 := bytesIn_ext HY.out hb1
      have T1 := TK.out.later hb1
      have SM := Lib.hid (mac_any n c n' c' f g a a' w1 T1 X1 hc hcm (by omega) Y1 hc' hcm' (by omega))
      have RS := Lib.hid (fun w' => refMac_any f g n n' (by omega) (by omega) w')
      have KS := Lib.hid (fun (w' : World) (hb : Below w1.heap.size w1 w') => shaSum_any n c f a w' (T1.later hb) (bytesIn_ext X1 hb) hc hcm (by omega))
      have KM := Lib.hid (fun (w' : World) (k : Nat) (hb : Below w1.heap.size w1 w') (h : w'.heap[k]? = some (.cells (bytesA (sumS f n) 32) 24 (0, 0))) =>
        mac_any 32 32 n' c' (sumS f n) g (some ⟨k, 0, none⟩) a' w' (T1.later hb) (row_bytesIn h 32 (Nat.le_refl _) (by unfold maxLen; omega)) (Nat.le_refl _) (by unfold maxLen; omega) (by omega) (bytesIn_ext Y1 hb) hc' hcm' (by omega))
      have B1 := Lib.hid hb1
      have CX := Lib.hid (fun (w' : World) (hb : Below w1.heap.size w1 w') => conv_in f a n c w' (bytesIn_ext X1 hb))
      have CY := Lib.hid (fun (w' : World) (hb : Below w1.heap.size w1 w') => conv_in g a' n' c' w' (bytesIn_ext Y1 hb))
      have KL : Hid (¬ n ≤ 64 → macB (keyB (sumS f n) 32) g n' = macB (keyB f n) g n') := Lib.hid (fun h => by rw [keyB_long f n h])
      obtain ⟨mc, hmc⟩ : ∃ mc, macB (keyB f n) g n' = mc := ⟨_, rfl⟩
      obtain ⟨md, hmd⟩ : ∃ md, macB (keyB (sumS f n) 32) g n' = md := ⟨_, rfl⟩
      obtain ⟨sm, hsm⟩ : ∃ sm, sumS f n = sm := ⟨_, rfl⟩
      rw [hmc] at SM RS KL
      rw [hmd] at KM KL
      rw [hsm] at KS KM
      have CS := Lib.hid (fun (w' : World) (k : Nat) (h : w'.heap[k]? = some (.cells (bytesA mc 32) 24 (0, 0))) => conv_in mc (some ⟨k, 0, none⟩) 32 32 w' (row_bytesIn h 32 (Nat.le_refl _) (by unfold maxLen; omega)))
      generalize strOf f n = SF at *
      generalize strOf g n' = SG at *
      generalize strOf mc 32 = SS at *
      clear hmc hmd hsm X1 Y1 T1 hb1
      go_wp2_with fail
      with_reducible refine SM.out.mono ?_
      rintro e w3 ⟨rfl, hb3⟩
      have hal : Below w3.heap.size w3 (w3.alloc (.cells (bytesA mc 32) 24)) := (Below.refl _ _).alloc (Nat.le_refl _) _
      have hal2 : (w3.alloc (.cells (bytesA mc 32) 24)).heap[w3.heap.size]? = some (.cells (bytesA mc 32) 24 (0, 0)) := heap_alloc_last _ _
      go_upto_region 4 with (first
        | (refine wpList_alloc_row (o := ⟨some 5, .alloc 24, _, _, _, _⟩) rfl 24 rfl _ zero_32 ?_)
        | (refine wpList_store_new (o := ⟨none, .store 24 (.tmp 5) (.tmp 23), _, _, _, _⟩) rfl 24 _ _ rfl (bytesA (fun _ => 0#8) 32) (bytesA mc 32) _ rfl rfl rfl (by rw [bytesA_size]; kernel_rfl) (by rw [bytesA_size, bytesA_size]) (bytesA_one _ _) ?_))
      obtain ⟨w4, hw4⟩ : ∃ w4, w3.alloc (.cells (bytesA mc 32) 24) = w4 := ⟨_, rfl⟩
      rw [hw4] at hal hal2
      simp only [hw4]
      have B4 := Lib.hid (hb3.trans (hal.mono hb3.size))
      generalize w3.heap.size = s at *
      have RW := Lib.hid hal2
      clear hal hal2 hw4 hb3 SM
      refine region_class1 7 (fun w' => Below w4.heap.size w4 w') mixedOrders (by kernel_rfl) (Below.refl _ _).drew rfl ?_
      refine wpQuiet_take (by rfl) (fun K hK => ⟨.slice (some ⟨s, 0, none⟩) 32 32, fun w2' hw2 => ?_, hK _ ?_⟩)
      · have hall := run_arr32_all w2' s
        clear hw2; go_simp
      clear hK K
      simp only [Act.put, List.setIfInBounds_toArray, List.set_cons_succ, List.set_cons_zero]
      refine wpQuiet_take (by rfl) (fun K hK => ⟨.string SS, fun w2' hw2 => ?_, hK _ ?_⟩)
      · have cs := CS.out w2' s ((hw2.block s (lt_row RW.out)).trans RW.out)
        clear hw2; go_simp
      clear hK K
      simp only [Act.put, List.setIfInBounds_toArray, List.set_cons_succ, List.set_cons_zero]
      refine wpQuiet_take (by rfl) (fun K hK => ⟨.slice a n c, fun w2' hw2 => ?_, hK _ ?_⟩)
      · clear hw2; go_simp
      clear hK K
      simp only [Act.put, List.setIfInBounds_toArray, List.set_cons_succ, List.set_cons_zero]
      refine wpQuiet_take (by rfl) (fun K hK => ⟨.string SF, fun w2' hw2 => ?_, hK _ ?_⟩)
      · have cb := CX.out w2' (B4.out.trans (hw2.mono B4.out.size))
        clear hw2; go_simp
      clear hK K
      simp only [Act.put, List.setIfInBounds_toArray, List.set_cons_succ, List.set_cons_zero]
      refine wpQuiet_take (by rfl) (fun K hK => ⟨.slice a' n' c', fun w2' hw2 => ?_, hK _ ?_⟩)
      · clear hw2; go_simp
      clear hK K
      simp only [Act.put, List.setIfInBounds_toArray, List.set_cons_succ, List.set_cons_zero]
      refine wpQuiet_take (by rfl) (fun K hK => ⟨.string SG, fun w2' hw2 => ?_, hK _ ?_⟩)
      · have cb := CY.out w2' (B4.out.trans (hw2.mono B4.out.size))
        clear hw2; go_simp
      clear hK K
      simp only [Act.put, List.setIfInBounds_toArray, List.set_cons_succ, List.set_cons_zero]
      refine wpQuiet_take (by rfl) (fun K hK => ⟨.string SS, fun w2' hw2 => ?_, hK _ ?_⟩)
      · go_simp
        go_at_call 13
        with_reducible refine (RS.out w2').mono ?_
        rintro e w5 ⟨rfl, hb5⟩
        exact ⟨rfl, hw2.trans (hb5.mono hw2.size)⟩
      clear hK K
      simp only [Act.put, List.setIfInBounds_toArray, List.set_cons_succ, List.set_cons_zero]
      refine wpQuiet_take0 ?_
      intro w6 hb6
      have B6 := Lib.hid (B4.out.trans (hb6.mono B4.out.size))
      have RW6 := Lib.hid ((hb6.block s (lt_row RW.out)).trans RW.out)
      clear hb6 RW B4 RS CS CX CY
      -- the key's sum
      go_wp2_with fail
      with_reducible refine (KS.out w6 B6.out).mono ?_
      rintro e w7 ⟨rfl, hb7⟩
      have B7 := B6.out.trans (hb7.mono B6.out.size)
      have RW7 := (hb7.block s (lt_row RW6.out)).trans RW6.out
      have hal : Below w7.heap.size w7 (w7.alloc (.cells (bytesA sm 32) 24)) := (Below.refl _ _).alloc (Nat.le_refl _) _
      have hal2 : (w7.alloc (.cells (bytesA sm 32) 24)).heap[w7.heap.size]? = some (.cells (bytesA sm 32) 24 (0, 0)) := heap_alloc_last _ _
      have RW8 := Lib.hid ((hal.block s (lt_row RW7)).trans RW7)
      have B8 := Lib.hid (B7.trans (hal.mono B7.size))
      go_upto_region 7 with (first
        | (refine wpList_alloc_row (o := ⟨some 6, .alloc 24, _, _, _, _⟩) rfl 24 rfl _ zero_32 ?_)
        | (refine wpList_store_new (o := ⟨none, .store 24 (.tmp 6) (.tmp 33), _, _, _, _⟩) rfl 24 _ _ rfl (bytesA (fun _ => 0#8) 32) (bytesA sm 32) _ rfl rfl rfl (by rw [bytesA_size]; kernel_rfl) (by rw [bytesA_size, bytesA_size]) (bytesA_one _ _) ?_))
      obtain ⟨w8, hw8⟩ : ∃ w8, w7.alloc (.cells (bytesA sm 32) 24) = w8 := ⟨_, rfl⟩
      rw [hw8] at hal2 B8 RW8
      simp only [hw8]
      generalize w7.heap.size = k at *
      have MM := Lib.hid (KM.out w8 k B8.out hal2)
      clear hal hal2 hw8 hb7 B7 RW7 KM KS
      have hall := fun w' => run_arr32_all w' k
      go_wp2_with fail
      with_reducible refine MM.out.mono ?_
      rintro e w9 ⟨rfl, hb9⟩
      have B9 := B8.out.trans (hb9.mono B8.out.size)
      have RW9 := (hb9.block s (lt_row RW8.out)).trans RW8.out
      have hal : Below w9.heap.size w9 (w9.alloc (.cells (bytesA md 32) 24)) := (Below.refl _ _).alloc (Nat.le_refl _) _
      have hal2 : (w9.alloc (.cells (bytesA md 32) 24)).heap[w9.heap.size]? = some (.cells (bytesA md 32) 24 (0, 0)) := heap_alloc_last _ _
      have RW10 := (hal.block s (lt_row RW9)).trans RW9
      have B10 := Lib.hid (B9.trans (hal.mono B9.size))
      clear hall
      go_upto_region 8 with (first
        | (refine wpList_alloc_row (o := ⟨some 7, .alloc 24, _, _, _, _⟩) rfl 24 rfl _ zero_32 ?_)
        | (refine wpList_store_new (o := ⟨none, .store 24 (.tmp 7) (.tmp 36), _, _, _, _⟩) rfl 24 _ _ rfl (bytesA (fun _ => 0#8) 32) (bytesA md 32) _ rfl rfl rfl (by rw [bytesA_size]; kernel_rfl) (by rw [bytesA_size, bytesA_size]) (bytesA_one _ _) ?_))
      obtain ⟨w10, hw10⟩ : ∃ w10, w9.alloc (.cells (bytesA md 32) 24) = w10 := ⟨_, rfl⟩
      rw [hw10] at hal2 B10 RW10
      simp only [hw10]
      generalize w9.heap.size = t at *
      clear hal hw10 hb9 B9 RW9 MM
      by_cases h64 : n ≤ 64
      · have h64I : (n : Int) ≤ 64 := by omega
        clear hal2 RW10
        go_wp2_with fail
        go_ret
        exact ⟨rfl, B1.out.trans (B10.out.mono B1.out.size)⟩
      · have h64I : ¬ (n : Int) ≤ 64 := by omega
        obtain rfl := KL.out h64
        have eq1 := eq32_same md w10
        have L1 := Lib.hid RW10
        have L2 := Lib.hid hal2
        clear hal2 RW10
        go_wp2_with (first
          | (refine wpList_load_row_g (o := ⟨some 41, .load 24 _, _, _, _, _⟩) (by rfl) 24 _ rfl s rfl _ (bytesA md 32) (0, 0) _ L1.out Tryd.underlying24 rfl (by rw [bytesA_size]; kernel_rfl) ?_)
          | (refine wpList_load_row_g (o := ⟨some 42, .load 24 _, _, _, _, _⟩) (by rfl) 24 _ rfl t rfl _ (bytesA md 32) (0, 0) _ L2.out Tryd.underlying24 rfl (by rw [bytesA_size]; kernel_rfl) ?_))
        go_ret
        exact ⟨rfl, B1.out.trans (B10.out.mono B1.out.size)⟩
    · have hlI' : (5000 : Int) < (n' : Int) := by omega
      go_wp2_with fail
      with_reducible refine (digests_any w TK.out).mono ?_
      rintro e w1 ⟨rfl, hb1⟩
      go_wp2_with fail
      with_reducible refine (digests_any w1 (TK.out.later hb1)).mono ?_
      rintro e w2 ⟨rfl, hb2⟩
      go_wp2_with fail
      go_ret
      exact ⟨rfl, hb1.trans (hb2.mono hb1.size)⟩
  · have hlI : (5000 : Int) < (n : Int) := by omega
    go_wp2_with fail
    with_reducible refine (digests_any w TK.out).mono ?_
    rintro e w1 ⟨rfl, hb1⟩
    go_wp2_with fail
    with_reducible refine (digests_any w1 (TK.out.later hb1)).mono ?_
    rintro e w2 ⟨rfl, hb2⟩
    go_wp2_with fail
    go_ret
    exact ⟨rfl, hb1.trans (hb2.mono hb1.size)⟩
set_option maxRecDepth 100000 in
theorem walk {H : Type} {enc : TypeId × Value → H} (w : World) (base : Nat) (v0 v1 : Value) (d0 d1 : DataW H) (p0 p1 : List MemPlace)
    (k0 : Value.okWide Tryd.prog w .any base 22 v0) (k1 : Value.okWide Tryd.prog w .any base 22 v1) (h0 : DataW.Trod enc Tryd.prog w 0 (fun _ => true) true 22 v0 d0 p0) (h1 : DataW.Trod enc Tryd.prog w 0 (fun _ => true) true 22 v1 d1 p1) (tab : TabK w) :
    Calls Tryd.prog 4 #[v0, v1] w fun e w' => e = .returned (.bool true) ∧ Below w.heap.size w w' := by
  obtain ⟨a, n, c, f, rfl, hb, hlc, hm⟩ := open_bytes k0 h0
  obtain ⟨a', n', c', g, rfl, hb', hlc', hm'⟩ := open_bytes k1 h1
  exact law_any a a' n c n' c' f g w tab hb hlc hm hb' hlc' hm'
set_option maxRecDepth 100000 in
theorem lifted (os : Os) (started : os.Started) (H : Type) (enc : TypeId × Value → H) :
    ReturnsInHanded {} Tryd.checked os 4 .any (fun w args => (Rows.shaMacSpec.pre enc Tryd.prog Tryd.f4 [] false w args ∧ laidMetH Tryd.prog laids w) ∧ sizedMet enc Tryd.prog Tryd.f4 (OpenSpec.ofChange Rows.shaMacSpec) false w args)
      (Rows.shaMacSpec.post enc Tryd.prog Tryd.f4 false true false false) := by
  refine returnsInHanded_of_change_and (C := Tryd.checked) (X := fun w _ => laidMetH Tryd.prog laids w) (fun _ _ _ hh h => h.of_heap hh) own started (by kernel_rfl) Tryd.func4
    (ChangeSpec.witness_shaped (enc := enc) (C := Tryd.checked) (os := os) (X := fun w _ => laidMetH Tryd.prog laids w) false (World.doorLaid Tryd.prog 14 os) #[.slice none 0 0, .slice none 0 0] 8 rfl (World.shaped_of_RefB (by kernel_rfl) (by kernel_rfl)) (by kernel_rfl) (by kernel_rfl) (by kernel_rfl) (door_met os _)) ?_
  intro W base args ds gs before hval0 hW _ _ hL _
  have hval : ∀ (j : Nat) t v, Tryd.f4.params[j]? = some t → args[j]? = some v → Value.okWide Tryd.prog W .any base t v := hval0
  have hW' := hW
  obtain ⟨p, q, hA0, hV, rfl, hfz, hnd⟩ := hW
  have hA : DataW.TrodAll enc Tryd.prog W 0 (fun _ => true) true Tryd.f4.params.toList args.toList ds p := hA0
  rw [Tryd.params4] at hA hval
  obtain ⟨v0, vs0, d0, ds0, p0, q0, hargs, rfl, rfl, h0, r0⟩ := trodAll_cons hA
  obtain ⟨v1, vs1, d1, ds1, p1, q1, rfl, rfl, rfl, h1, r1⟩ := trodAll_cons r0
  obtain ⟨rfl, rfl, rfl⟩ := trodAll_nil r1
  obtain rfl : args = #[v0, v1] := by cases args; simp_all
  obtain ⟨rfl, rfl⟩ := trodVars_none hV
  have k0 := h0
  have lt0 : ∀ x ∈ p0, x.block < W.heap.size := by obtain ⟨m, hm⟩ := k0; exact DataW.trod_lt m _ _ _ hm
  have k1 := h1
  have lt1 : ∀ x ∈ p1, x.block < W.heap.size := by obtain ⟨m, hm⟩ := k1; exact DataW.trod_lt m _ _ _ hm
  clear hA0 hval0
  refine (walk W base v0 v1 d0 d1 p0 p1 (hval 0 22 v0 rfl rfl) (hval 1 22 v1 rfl rfl) k0 k1 (tabK_of_laid hL)).mono fun e W' ⟨he, bel⟩ => ?_
  subst he
  exact ⟨_, rfl, _, _, _, [], _, [], hW', trodAll_mk1 (shut_bool Tryd.underlying4 _), (trodAll_cons_mk (Below.trod laidOut (by kernel_rfl) (of_decide_eq_true (by kernel_rfl)) k0 bel lt0) (trodAll_cons_mk (Below.trod laidOut (by kernel_rfl) (of_decide_eq_true (by kernel_rfl)) k1 bel lt1) trodAll_mk0)), rfl, bel.frame _, fun h => by cases h⟩
theorem over : Rows.ShaMacSaid :=
  OpenClaim.holds_of_wide 4 Tryd.f4 rfl rfl rfl rfl rfl rfl rfl ⟨rfl, rfl, rfl, rfl, rfl⟩ rfl rfl rfl rfl rfl (by kernel_rfl) Tryd.func4 (by kernel_rfl)
    (of_decide_eq_true (by kernel_rfl)) (by unfold Func.isWrapper; first | (rw [if_pos (by decide +kernel)]; kernel_rfl) | (rw [if_neg (by decide +kernel)]; exact ⟨rfl, rfl⟩))
    (fun os started H enc _ => lifted os started H enc)
theorem proved : Rows.ShaMacCardSaid :=
  Claim7.holds_tied_plain_at .later [] [.data] true (true, "087e57aef0719291e6b76ce2e7e1cc2c8340e26022a027d6faef561ff8c63583") false
    over (fun _ h => by cases h) (by kernel_rfl) (fun _ h => by cases h) shaMac_row_tie rfl ⟨rfl, rfl⟩ (by kernel_rfl) rfl
    (fun f fn hf hfn => by
      obtain rfl : f = 4 := Option.some.inj ((show Tryd.prog.funcNamed "rhyne/rhynelaw01.ShaMac" = some 4 by kernel_rfl).symm.trans hf) |>.symm
      obtain rfl : fn = Tryd.f4 := (Option.some.inj (Tryd.func4.symm.trans hfn)).symm
      exact ⟨by kernel_rfl, fun j t ht => by
        rw [Tryd.params4] at ht
        have hm : t ∈ [22, 22] := by simpa using Array.mem_of_getElem? ht
        have hall : ([22, 22].all fun u => !Tryd.prog.wantsStandIn u) = true := by kernel_rfl
        exact (show Tryd.prog.wantsStandIn t = false by simpa using List.all_eq_true.1 hall t hm)⟩)
    (by kernel_rfl)
end Go.Proofs.YtbadcknchamimaaDoor.shaMac
