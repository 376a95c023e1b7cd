/-
  Of all secrets, uses and counts Extract and Expand tell what the chapter does, at the commit of COMMIT; the table of sha's constants holds what the program's text lays.
-/
import Derived.Test.YtbadcknchamimabDoorRows
import Derived.Test.YtbadcknchamimabDoorCards
import Derived.Test.YtbadcknchamimabDoorTie
import Derived.Test.YtbadcknchamimabDoorShaDoor
import Derived.Test.YtbadcknchamimabDoorHkdfD
import Derived.Test.YtbadcknchamimabDoorOpenB
import Derived.WalkKit
import Derived.ProofKit
import Derived.OpenShut
import Derived.ShutString
import Derived.ChangeOld
import Derived.Below
import Derived.Deep.DeepCutAuto
import Derived.Deep.Upon
import Derived.Deep.AppendSrc
import Derived.SevenTiedAt
import Derived.LaidMore
import Derived.SizedLaws
import Derived.Lib.SmallJoins
namespace Go.Proofs.YtbadcknchamimabDoor.hkdfExpand
open Go Go.ChangeShapes Go.WideShapes Go.ChangeAt Go.RowKit Go.BigFrame
set_option linter.unusedVariables false
set_option maxRecDepth 100000 in
set_option maxHeartbeats 16000000 in
theorem law_any (a a' : Option Addr) (n c n' c' : Nat) (f g : Nat → BitVec 8) (x : Int) (w : World) (T : TabK w) (hx : BytesIn w a n f) (hc : n ≤ c) (hcm : c ≤ maxLen) (hy : BytesIn w a' n' g) (hc' : n' ≤ c') (hcm' : c' ≤ maxLen) :
    Calls Tryd.prog 3 #[.slice a n c, .slice a' n' c', .int .i64 x] w fun e w' => e = .returned (.bool true) ∧ Below w.heap.size w w' := by
  have HX := Lib.hid hx
  have HY := Lib.hid hy
  have TK := Lib.hid T
  clear hx hy T
  go_enter Tryd.func3, Tryd.ntmps3
  go_wp2_with fail
  with_reducible refine (expands_any w TK.out).mono ?_
  rintro e w1 ⟨rfl, hb1⟩
  by_cases hl : n ≤ 3000
  · have hlI : ¬ (3000 : Int) < (n : Int) := by omega
    by_cases hl' : n' ≤ 300
    · have hlI' : ¬ (300 : Int) < (n' : Int) := by omega
      have XA := Lib.hid (fun (w' : World) (hb : Below w1.heap.size w1 w') => bytesIn_ext HX.out (hb1.trans (hb.mono hb1.size)))
      have YA := Lib.hid (fun (w' : World) (hb : Below w1.heap.size w1 w') => bytesIn_ext HY.out (hb1.trans (hb.mono hb1.size)))
      have TA := Lib.hid (fun (w' : World) (hb : Below w1.heap.size w1 w') => TK.out.later (hb1.trans (hb.mono hb1.size)))
      have CX := Lib.hid (fun (w' : World) (hb : Below w1.heap.size w1 w') => conv_in f a n c w' (XA.out w' hb))
      have CY := Lib.hid (fun (w' : World) (hb : Below w1.heap.size w1 w') => conv_in g a' n' c' w' (YA.out w' hb))
      have B1 := Lib.hid hb1
      have EX := Lib.hid (fun (w' : World) (hb : Below w1.heap.size w1 w') => extract_any n c n' c' f g a a' w' (TA.out w' hb) (XA.out w' hb) hc hcm (by omega) (YA.out w' hb) hc' hcm' (by omega))
      have RM := Lib.hid (fun (w' : World) => refMac_any f g n n' (by omega) (by omega) w')
      obtain ⟨mc, hmc⟩ : ∃ mc, macB (keyB f n) g n' = mc := ⟨_, rfl⟩
      rw [hmc] at EX RM
      have CM := Lib.hid (fun (w' : World) (b : Nat) (h : w'.heap[b]? = some (.cells (bytesA mc 32) 49 (0, 0))) => conv_in mc (some ⟨b, 0, none⟩) 32 32 w' (row_bytesIn h 32 (Nat.le_refl _) (by unfold maxLen; omega)))
      obtain ⟨E, hE⟩ : ∃ E, expB (keyB f n) g n' = E := ⟨_, rfl⟩
      obtain ⟨y, err, SE, DE, PE⟩ : ∃ (y : Nat) (err : Int) (SE : ByteArray),
          (∀ w', Calls Tryd.prog 9 #[.string (strOf f n), .string (strOf g n'), .int .i64 x] w' fun e w'' => e = .returned (.tuple #[.string SE, .int .i64 err]) ∧ Below w'.heap.size w' w'') ∧
          (∀ w', Below w1.heap.size w1 w' → Calls Tryd.prog 10 #[.slice a n c, .slice a' n' c', .int .i64 x] w' fun e w'' => ∃ a5 c5, e = .returned (.tuple #[.slice a5 y c5, .int .i64 err]) ∧ (∀ w3, Below w''.heap.size w'' w3 → (convert 22 9 (.slice a5 y c5)).run Tryd.prog w3 = .ok (.string SE) w3) ∧ Below w'.heap.size w' w'') := by
        by_cases hr : x < 0 ∨ 8160 < x
        · refine ⟨0, 1, strOf (fun _ => 0#8) 0, fun w' => (refExpand_bad _ _ x hr w').mono ?_, fun w' hb => (expand_bad n c n' c' a a' x hr w').mono ?_⟩
          · rintro e w'' ⟨rfl, rfl⟩
            exact ⟨rfl, Below.refl _ _⟩
          · rintro e w'' ⟨rfl, rfl⟩
            exact ⟨none, 0, rfl, fun w3 _ => conv_in (fun _ => 0#8) none 0 0 w3 (nil_in _ _), Below.refl _ _⟩
        · obtain ⟨N, rfl⟩ : ∃ N : Nat, x = (N : Int) := ⟨x.toNat, by omega⟩
          refine ⟨N, 0, strOf (expB (keyB f n) g n') N, fun w' => refExpand_ok f g n n' N (by omega) (by omega) (by omega) w', fun w' hb => (expand_ok n c n' c' N f g a a' w' (TA.out w' hb) (XA.out w' hb) hc hcm (by omega) (YA.out w' hb) hc' hcm' (by omega) (by omega)).mono ?_⟩
          rintro e w'' ⟨v, rfl, o, hb2⟩
          obtain ⟨a5, c5, rfl, hc5, hm5, bi5, _, hg5⟩ := o.asMine
          exact ⟨a5, c5, rfl, fun w3 h3 => conv_in _ a5 N c5 w3 (bytesIn_ext bi5 h3), hb2⟩
      have D := Lib.hid DE
      have P := Lib.hid PE
      generalize strOf f n = SF at *
      generalize strOf g n' = SG at *
      generalize strOf mc 32 = SM at *
      clear DE PE hE hmc hb1 XA YA TA HX HY TK
      have cx := CX.out w1 (Below.refl _ _)
      have cy := CY.out w1 (Below.refl _ _)
      go_wp2_with fail
      clear cx cy
      with_reducible refine (D.out w1).mono ?_
      rintro e w2 ⟨rfl, hb2⟩
      have B2 := Lib.hid hb2
      clear hb2
      go_wp2_with fail
      with_reducible refine (P.out w2 B2.out).mono ?_
      rintro e w3 ⟨a5, c5, rfl, hcv, hb3⟩
      have B3 := Lib.hid (B2.out.trans (hb3.mono B2.out.size))
      have CV := Lib.hid hcv
      clear hcv hb3 D P
      go_upto_region 5 with fail
      refine region_anyM mixedOrders ?_
      refine anyM_take (i := 0) (oi := ⟨some 40, _, _, _, _, _⟩) (v := .string SE) rfl (by kernel_rfl) (by kernel_rfl) (by kernel_rfl) (fun _ _ _ h => h) (.inl ⟨by rfl, fun w2 hw2 => ?_⟩) ?_
      · clear hw2
        go_simp
      simp only [Act.put, List.setIfInBounds_toArray, List.set_cons_succ, List.set_cons_zero]
      refine anyM_take (i := 1) (oi := ⟨some 41, _, _, _, _, _⟩) (v := .slice a5 y c5) rfl (by kernel_rfl) (by kernel_rfl) (by kernel_rfl) (fun _ _ _ h => h) (.inl ⟨by rfl, fun w2 hw2 => ?_⟩) ?_
      · clear hw2
        go_simp
      simp only [Act.put, List.setIfInBounds_toArray, List.set_cons_succ, List.set_cons_zero]
      refine anyM_take (i := 2) (oi := ⟨some 42, _, _, _, _, _⟩) (v := .string SE) rfl (by kernel_rfl) (by kernel_rfl) (by kernel_rfl) (fun _ _ _ h => h) (.inl ⟨by rfl, fun w2 hw2 => ?_⟩) ?_
      · have cv := CV.out w2 (ext_below hw2 (Below.refl _ _).drew (Nat.le_refl _))
        clear hw2
        go_simp
      simp only [Act.put, List.setIfInBounds_toArray, List.set_cons_succ, List.set_cons_zero]
      refine anyM_take (i := 3) (oi := ⟨some 43, _, _, _, _, _⟩) (v := .bool true) rfl (by kernel_rfl) (by kernel_rfl) (by kernel_rfl) (fun _ _ _ h => h) (.inl ⟨by rfl, fun w2 hw2 => ?_⟩) ?_
      · clear hw2
        go_simp
      simp only [Act.put, List.setIfInBounds_toArray, List.set_cons_succ, List.set_cons_zero]
      refine anyM_take (i := 4) (oi := ⟨some 44, _, _, _, _, _⟩) (v := .bool true) rfl (by kernel_rfl) (by kernel_rfl) (by kernel_rfl) (fun _ _ _ h => h) (.inl ⟨by rfl, fun w2 hw2 => ?_⟩) ?_
      · clear hw2
        go_simp
      simp only [Act.put, List.setIfInBounds_toArray, List.set_cons_succ, List.set_cons_zero]
      refine anyM_take (i := 5) (oi := ⟨some 45, _, _, _, _, _⟩) (v := .int .i64 err) rfl (by kernel_rfl) (by kernel_rfl) (by kernel_rfl) (fun _ _ _ h => h) (.inl ⟨by rfl, fun w2 hw2 => ?_⟩) ?_
      · clear hw2
        go_simp
      simp only [Act.put, List.setIfInBounds_toArray, List.set_cons_succ, List.set_cons_zero]
      refine anyM_take (i := 6) (oi := ⟨some 46, _, _, _, _, _⟩) (v := .int .i64 err) rfl (by kernel_rfl) (by kernel_rfl) (by kernel_rfl) (fun _ _ _ h => h) (.inl ⟨by rfl, fun w2 hw2 => ?_⟩) ?_
      · clear hw2
        go_simp
      simp only [Act.put, List.setIfInBounds_toArray, List.set_cons_succ, List.set_cons_zero]
      refine anyM_take (i := 7) (oi := ⟨some 47, _, _, _, _, _⟩) (v := .bool true) rfl (by kernel_rfl) (by kernel_rfl) (by kernel_rfl) (fun _ _ _ h => h) (.inl ⟨by rfl, fun w2 hw2 => ?_⟩) ?_
      · clear hw2
        go_simp
      simp only [Act.put, List.setIfInBounds_toArray, List.set_cons_succ, List.set_cons_zero]
      refine anyM_take (i := 8) (oi := ⟨some 48, _, _, _, _, _⟩) (v := .bool true) rfl (by kernel_rfl) (by kernel_rfl) (by kernel_rfl) (fun _ _ _ h => h) (.inl ⟨by rfl, fun w2 hw2 => ?_⟩) ?_
      · clear hw2
        go_simp
      simp only [Act.put, List.setIfInBounds_toArray, List.set_cons_succ, List.set_cons_zero]
      refine anyM_take (i := 9) (oi := ⟨some 49, _, _, _, _, _⟩) (v := .bool true) rfl (by kernel_rfl) (by kernel_rfl) (by kernel_rfl) (fun _ _ _ h => h) (.inl ⟨by rfl, fun w2 hw2 => ?_⟩) ?_
      · clear hw2
        go_simp
      simp only [Act.put, List.setIfInBounds_toArray, List.set_cons_succ, List.set_cons_zero]
      refine anyM_take (i := 10) (oi := ⟨some 50, _, _, _, _, _⟩) (v := .slice a n c) rfl (by kernel_rfl) (by kernel_rfl) (by kernel_rfl) (fun _ _ _ h => h) (.inl ⟨by rfl, fun w2 hw2 => ?_⟩) ?_
      · clear hw2
        go_simp
      simp only [Act.put, List.setIfInBounds_toArray, List.set_cons_succ, List.set_cons_zero]
      refine anyM_take (i := 11) (oi := ⟨some 51, _, _, _, _, _⟩) (v := .slice a' n' c') rfl (by kernel_rfl) (by kernel_rfl) (by kernel_rfl) (fun _ _ _ h => h) (.inl ⟨by rfl, fun w2 hw2 => ?_⟩) ?_
      · clear hw2
        go_simp
      simp only [Act.put, List.setIfInBounds_toArray, List.set_cons_succ, List.set_cons_zero]
      refine anyM_take (i := 14) (oi := ⟨some 54, _, _, _, _, _⟩) (v := .slice a n c) rfl (by kernel_rfl) (by kernel_rfl) (by kernel_rfl) (fun _ _ _ h => h) (.inl ⟨by rfl, fun w2 hw2 => ?_⟩) ?_
      · clear hw2
        go_simp
      simp only [Act.put, List.setIfInBounds_toArray, List.set_cons_succ, List.set_cons_zero]
      refine anyM_take (i := 15) (oi := ⟨some 55, _, _, _, _, _⟩) (v := .string SF) rfl (by kernel_rfl) (by kernel_rfl) (by kernel_rfl) (fun _ _ _ h => h) (.inl ⟨by rfl, fun w2 hw2 => ?_⟩) ?_
      · have cv := CX.out w2 (ext_below hw2 B3.out.drew B3.out.drew.size)
        clear hw2
        go_simp
      simp only [Act.put, List.setIfInBounds_toArray, List.set_cons_succ, List.set_cons_zero]
      refine anyM_take (i := 16) (oi := ⟨some 56, _, _, _, _, _⟩) (v := .slice a' n' c') rfl (by kernel_rfl) (by kernel_rfl) (by kernel_rfl) (fun _ _ _ h => h) (.inl ⟨by rfl, fun w2 hw2 => ?_⟩) ?_
      · clear hw2
        go_simp
      simp only [Act.put, List.setIfInBounds_toArray, List.set_cons_succ, List.set_cons_zero]
      refine anyM_take (i := 17) (oi := ⟨some 57, _, _, _, _, _⟩) (v := .string SG) rfl (by kernel_rfl) (by kernel_rfl) (by kernel_rfl) (fun _ _ _ h => h) (.inl ⟨by rfl, fun w2 hw2 => ?_⟩) ?_
      · have cv := CY.out w2 (ext_below hw2 B3.out.drew B3.out.drew.size)
        clear hw2
        go_simp
      simp only [Act.put, List.setIfInBounds_toArray, List.set_cons_succ, List.set_cons_zero]
      refine anyM_call (i := 12) (o := ⟨some 52, _, _, _, _, _⟩) 11 #[.slice a n c, .slice a' n' c'] (by kernel_rfl) rfl (by rfl) (fun w2 => by go_simp) (fun w4 hw4 => ?_)
      have b4 := ext_below hw4 B3.out.drew B3.out.drew.size
      refine (EX.out w4 b4).mono ?_
      rintro e w5 ⟨b, rfl, hbs, hrow, hb5⟩
      refine ⟨_, rfl, hb5, ?_⟩
      have B5 := Lib.hid (b4.trans (hb5.mono b4.size))
      have RW := Lib.hid hrow
      clear hrow hb5 hbs hw4 b4
      simp only [Act.put, List.setIfInBounds_toArray, List.set_cons_succ, List.set_cons_zero]
      refine anyM_take (i := 13) (oi := ⟨some 53, _, _, _, _, _⟩) (v := .string SM) rfl (by kernel_rfl) (by kernel_rfl) (by kernel_rfl) (fun _ _ _ h => h) (.inl ⟨by rfl, fun w2 hw2 => ?_⟩) ?_
      · have cv := CM.out w2 b ((Below.block (show Below w5.heap.size w5 w2 from hw2) b (lt_row RW.out)).trans RW.out)
        clear hw2
        go_simp
      simp only [Act.put, List.setIfInBounds_toArray, List.set_cons_succ, List.set_cons_zero]
      refine anyM_take (i := 18) (oi := ⟨some 58, _, _, _, _, _⟩) (v := .string SM) rfl (by kernel_rfl) (by kernel_rfl) (by kernel_rfl) (fun _ _ _ h => h) (.inl ⟨by rfl, fun w2 hw2 => ?_⟩) ?_
      · go_simp
        go_at_call 12
        refine (RM.out w2).mono ?_
        rintro e w6 ⟨rfl, hb6⟩
        exact ⟨rfl, hb6⟩
      simp only [Act.put, List.setIfInBounds_toArray, List.set_cons_succ, List.set_cons_zero]
      refine anyM_take (i := 19) (oi := ⟨some 59, _, _, _, _, _⟩) (v := .bool true) rfl (by kernel_rfl) (by kernel_rfl) (by kernel_rfl) (fun _ _ _ h => h) (.inl ⟨by rfl, fun w2 hw2 => ?_⟩) ?_
      · clear hw2
        go_simp
      simp only [Act.put, List.setIfInBounds_toArray, List.set_cons_succ, List.set_cons_zero]
      refine anyM_take (i := 20) (oi := ⟨some 60, _, _, _, _, _⟩) (v := .bool true) rfl (by kernel_rfl) (by kernel_rfl) (by kernel_rfl) (fun _ _ _ h => h) (.inl ⟨by rfl, fun w2 hw2 => ?_⟩) ?_
      · clear hw2
        go_simp
      simp only [Act.put, List.setIfInBounds_toArray, List.set_cons_succ, List.set_cons_zero]
      refine anyM_take (i := 21) (oi := ⟨some 6, _, _, _, _, _⟩) (v := .bool true) rfl (by kernel_rfl) (by kernel_rfl) (by kernel_rfl) (fun _ _ _ h => h) (.inl ⟨by rfl, fun w2 hw2 => ?_⟩) ?_
      · clear hw2
        go_simp
      simp only [Act.put, List.setIfInBounds_toArray, List.set_cons_succ, List.set_cons_zero]
      refine anyM_done (by kernel_rfl) (fun w7 hw7 => ?_)
      have B7 := Lib.hid (B1.out.trans ((ext_below hw7 B5.out B5.out.size).mono B1.out.size))
      clear hw7
      go_wp2_with fail
      go_ret
      exact ⟨rfl, B7.out⟩
    · have hlI' : (300 : Int) < (n' : Int) := by omega
      go_wp2_with fail
      with_reducible refine (expands_any w1 (TK.out.later hb1)).mono ?_
      rintro e w2 ⟨rfl, hb2⟩
      go_wp2_with fail
      go_ret
      exact ⟨rfl, hb1.trans (hb2.mono hb1.size)⟩
  · have hlI : (3000 : Int) < (n : Int) := by omega
    go_wp2_with fail
    with_reducible refine (expands_any w1 (TK.out.later hb1)).mono ?_
    rintro e w2 ⟨rfl, hb2⟩
    go_wp2_with fail
    go_ret
    exact ⟨rfl, hb1.trans (hb2.mono hb1.size)⟩
set_option maxRecDepth 100000 in
theorem walk {H : Type} {enc : TypeId × Value → H} (w : World) (base : Nat) (v0 v1 v2 : Value) (d0 d1 d2 : DataW H) (p0 p1 p2 : List MemPlace)
    (k0 : Value.okWide Tryd.prog w .any base 22 v0) (k1 : Value.okWide Tryd.prog w .any base 22 v1) (k2 : Value.okWide Tryd.prog w .any base 3 v2)
    (h0 : DataW.Trod enc Tryd.prog w 0 (fun _ => true) true 22 v0 d0 p0) (h1 : DataW.Trod enc Tryd.prog w 0 (fun _ => true) true 22 v1 d1 p1) (h2 : DataW.Trod enc Tryd.prog w 0 (fun _ => true) true 3 v2 d2 p2) (tab : TabK w) :
    Calls Tryd.prog 3 #[v0, v1, v2] w fun e w' => e = .returned (.bool true) ∧ Below w.heap.size w w' := by
  obtain ⟨a, n, c, f, rfl, hb, hlc, hm⟩ := open_bytes k0 h0
  obtain ⟨a', n', c', g, rfl, hb', hlc', hm'⟩ := open_bytes k1 h1
  obtain ⟨x, rfl, rfl, rfl, wx⟩ := open_int Tryd.underlying3 k2 h2
  exact law_any a a' n c n' c' f g x w tab hb hlc hm hb' hlc' hm'
set_option maxRecDepth 100000 in
theorem lifted (os : Os) (started : os.Started) (H : Type) (enc : TypeId × Value → H) :
    ReturnsInHanded {} Tryd.checked os 3 .any (fun w args => (Rows.hkdfExpandSpec.pre enc Tryd.prog Tryd.f3 [] false w args ∧ laidMetH Tryd.prog laids w) ∧ sizedMet enc Tryd.prog Tryd.f3 (OpenSpec.ofChange Rows.hkdfExpandSpec) false w args)
      (Rows.hkdfExpandSpec.post enc Tryd.prog Tryd.f3 false true false false) := by
  refine returnsInHanded_of_change_and (C := Tryd.checked) (X := fun w _ => laidMetH Tryd.prog laids w) (fun _ _ _ hh h => h.of_heap hh) own started (by kernel_rfl) Tryd.func3
    (ChangeSpec.witness_shaped (enc := enc) (C := Tryd.checked) (os := os) (X := fun w _ => laidMetH Tryd.prog laids w) false (World.doorLaid Tryd.prog 14 os) #[.slice none 0 0, .slice none 0 0, .int .i64 0] 8 rfl (World.shaped_of_RefB (by kernel_rfl) (by kernel_rfl)) (by kernel_rfl) (by kernel_rfl) (by kernel_rfl) (door_met os _)) ?_
  intro W base args ds gs before hval0 hW _ _ hL _
  have hval : ∀ (j : Nat) t v, Tryd.f3.params[j]? = some t → args[j]? = some v → Value.okWide Tryd.prog W .any base t v := hval0
  have hW' := hW
  obtain ⟨p, q, hA0, hV, rfl, hfz, hnd⟩ := hW
  have hA : DataW.TrodAll enc Tryd.prog W 0 (fun _ => true) true Tryd.f3.params.toList args.toList ds p := hA0
  rw [Tryd.params3] at hA hval
  obtain ⟨v0, vs0, d0, ds0, p0, q0, hargs, rfl, rfl, h0, r0⟩ := trodAll_cons hA
  obtain ⟨v1, vs1, d1, ds1, p1, q1, rfl, rfl, rfl, h1, r1⟩ := trodAll_cons r0
  obtain ⟨v2, vs2, d2, ds2, p2, q2, rfl, rfl, rfl, h2, r2⟩ := trodAll_cons r1
  obtain ⟨rfl, rfl, rfl⟩ := trodAll_nil r2
  obtain rfl : args = #[v0, v1, v2] := by cases args; simp_all
  obtain ⟨rfl, rfl⟩ := trodVars_none hV
  have k0 := h0
  have lt0 : ∀ x ∈ p0, x.block < W.heap.size := by obtain ⟨m, hm⟩ := k0; exact DataW.trod_lt m _ _ _ hm
  have k1 := h1
  have lt1 : ∀ x ∈ p1, x.block < W.heap.size := by obtain ⟨m, hm⟩ := k1; exact DataW.trod_lt m _ _ _ hm
  have k2 := h2
  have lt2 : ∀ x ∈ p2, x.block < W.heap.size := by obtain ⟨m, hm⟩ := k2; exact DataW.trod_lt m _ _ _ hm
  clear hA0 hval0
  refine (walk W base v0 v1 v2 d0 d1 d2 p0 p1 p2 (hval 0 22 v0 rfl rfl) (hval 1 22 v1 rfl rfl) (hval 2 3 v2 rfl rfl) k0 k1 k2 (tabK_of_laid hL)).mono fun e W' ⟨he, bel⟩ => ?_
  subst he
  exact ⟨_, rfl, _, _, _, [], _, [], hW', trodAll_mk1 (shut_bool Tryd.underlying4 _), (trodAll_cons_mk (Below.trod laidOut (by kernel_rfl) (of_decide_eq_true (by kernel_rfl)) k0 bel lt0) (trodAll_cons_mk (Below.trod laidOut (by kernel_rfl) (of_decide_eq_true (by kernel_rfl)) k1 bel lt1) (trodAll_cons_mk (Below.trod laidOut (by kernel_rfl) (of_decide_eq_true (by kernel_rfl)) k2 bel lt2) trodAll_mk0))), rfl, bel.frame _, fun h => by cases h⟩
theorem over : Rows.HkdfExpandSaid :=
  OpenClaim.holds_of_wide 3 Tryd.f3 rfl rfl rfl rfl rfl rfl rfl ⟨rfl, rfl, rfl, rfl, rfl⟩ rfl rfl rfl rfl rfl (by kernel_rfl) Tryd.func3 (by kernel_rfl)
    (of_decide_eq_true (by kernel_rfl)) (by unfold Func.isWrapper; first | (rw [if_pos (by decide +kernel)]; kernel_rfl) | (rw [if_neg (by decide +kernel)]; exact ⟨rfl, rfl⟩))
    (fun os started H enc _ => lifted os started H enc)
theorem proved : Rows.HkdfExpandCardSaid :=
  Claim7.holds_tied_plain_at .later [] [.data] true (true, "51514c4db4b86ac38101e61a085df83b691a39fd7844e7ee45d3e83372f213d6") false
    over (fun _ h => by cases h) (by kernel_rfl) (fun _ h => by cases h) hkdfExpand_row_tie rfl ⟨rfl, rfl⟩ (by kernel_rfl) rfl
    (fun f fn hf hfn => by
      obtain rfl : f = 3 := Option.some.inj ((show Tryd.prog.funcNamed "rhyne/rhynelaw02.HkdfExpand" = some 3 by kernel_rfl).symm.trans hf) |>.symm
      obtain rfl : fn = Tryd.f3 := (Option.some.inj (Tryd.func3.symm.trans hfn)).symm
      exact ⟨by kernel_rfl, fun j t ht => by
        rw [Tryd.params3] at ht
        have hm : t ∈ [22, 22, 3] := by simpa using Array.mem_of_getElem? ht
        have hall : ([22, 22, 3].all fun u => !Tryd.prog.wantsStandIn u) = true := by kernel_rfl
        exact (show Tryd.prog.wantsStandIn t = false by simpa using List.all_eq_true.1 hall t hm)⟩)
    (by kernel_rfl)
end Go.Proofs.YtbadcknchamimabDoor.hkdfExpand
