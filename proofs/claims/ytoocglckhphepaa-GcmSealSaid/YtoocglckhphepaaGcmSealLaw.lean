/-
  GcmSeal holds: of all keys, nonces and bytes Seal and Open tell what the chapter does. No conditions.
-/
import Derived.Test.YtoocglckhphepaaRows
import Derived.Test.YtoocglckhphepaaGcmX
import Derived.WalkKit
import Derived.ProofKit
import Derived.OpenShut
import Derived.ShutString
import Derived.ChangeOld
import Derived.Below
import Derived.Deep.DeepCutAuto
import Derived.Deep.Upon
import Derived.Deep.AppendSrc
import Derived.SizedLaws
namespace Go.Proofs.Ytoocglckhphepaa.gcmSeal
open Go Go.ChangeShapes Go.WideShapes Go.ChangeAt Go.RowKit Go.BigFrame
set_option linter.unusedVariables false
theorem own : ownKnob Try.prog.godebug = none := by kernel_rfl
theorem laidOut : laidOutB Try.prog = true := by kernel_rfl
set_option linter.unusedSimpArgs false
set_option maxHeartbeats 16000000 in
set_option maxRecDepth 100000 in
theorem law_any (key f1 f2 f3 : Nat → BitVec 8) (a1 a2 a3 : Option Addr) (n1 c1 n2 c2 n3 c3 : Nat) (w : World) (h1 : BytesIn w a1 n1 f1) (hc1 : n1 ≤ c1) (hm1 : c1 ≤ maxLen) (hz1 : n1 ≤ 140737488355328)
    (h2 : BytesIn w a2 n2 f2) (hc2 : n2 ≤ c2) (hm2 : c2 ≤ maxLen) (h3 : BytesIn w a3 n3 f3) (hc3 : n3 ≤ c3) (hm3 : c3 ≤ maxLen) :
    Calls Try.prog 4 #[.agg (letterC key (.slice a1 n1 c1) (.slice a2 n2 c2) (.slice a3 n3 c3))] w fun e w' => e = .returned (.bool true) ∧ Below w.heap.size w w' := by
  obtain ⟨k2, hk2, hkn2, C2⟩ := cut_any a2 n2 c2 w hc2 hm2
  obtain ⟨k3, hk3, hkn3, C3⟩ := cut_any a3 n3 c3 w hc3 hm3
  have H1 := Lib.hid h1
  have H2 := Lib.hid (in_less h2 hkn2)
  have H3 := Lib.hid (in_less h3 hkn3)
  have C2' := Lib.hid C2
  have C3' := Lib.hid C3
  have L2 := Lib.hid (Nat.le_trans hkn2 hc2)
  have L3 := Lib.hid (Nat.le_trans hkn3 hc3)
  have M2 := Lib.hid hm2
  have M3 := Lib.hid hm3
  clear h1 h2 h3 C2 C3 hm1 hm2 hm3 hc1 hc2 hc3 hkn2 hkn3
  go_enter Try.func4, Try.ntmps4
  go_wp2_with fail
  have row := heap_alloc_last w (.cells (letterC key (.slice a1 n1 c1) (.slice a2 n2 c2) (.slice a3 n3 c3)) 29)
  have bel := (Below.refl w.heap.size w).alloc (Nat.le_refl _) (.cells (letterC key (.slice a1 n1 c1) (.slice a2 n2 c2) (.slice a3 n3 c3)) 29)
  generalize hW : w.alloc _ = wc at *
  clear hW
  have RowC := Lib.hid row
  have BelC := Lib.hid bel
  clear row bel
  have cellsX := Lib.hid (fun (w' : World) (hb : Below wc.heap.size wc w') => (show w'.cell? ⟨w.heap.size, 16, none⟩ = some (.slice a1 n1 c1) ∧ w'.cell? ⟨w.heap.size, 17, none⟩ = some (.slice a2 n2 c2) ∧ w'.cell? ⟨w.heap.size, 18, none⟩ = some (.slice a3 n3 c3) from by
    have r := (hb.block _ (lt_of_heap RowC.out)).trans RowC.out
    refine ⟨?_, ?_, ?_⟩
    · rw [cell_of_row _ _ _ _ _ _ r]; exact letter_1 _ _ _ _
    · rw [cell_of_row _ _ _ _ _ _ r]; exact letter_2 _ _ _ _
    · rw [cell_of_row _ _ _ _ _ _ r]; exact letter_3 _ _ _ _))
  have CK := Lib.hid (fun (w' : World) (hb : Below wc.heap.size wc w') => conv_str key w.heap.size 0 16 16 w' (fun i hi => by
    have r := (hb.block _ (lt_of_heap RowC.out)).trans RowC.out
    rw [cell_of_row _ _ _ _ _ _ r, Nat.zero_add]; exact letter_key _ _ _ _ i hi))
  have CV1 := Lib.hid (fun (w' : World) (hb : Below wc.heap.size wc w') => conv_in f1 a1 n1 c1 w' (bytesIn_later H1.out (BelC.out.trans (hb.mono BelC.out.size))))
  have CV2 := Lib.hid (fun (w' : World) (hb : Below wc.heap.size wc w') => conv_in f2 a2 k2 c2 w' (bytesIn_later H2.out (BelC.out.trans (hb.mono BelC.out.size))))
  have CV3 := Lib.hid (fun (w' : World) (hb : Below wc.heap.size wc w') => conv_in f3 a3 k3 c3 w' (bytesIn_later H3.out (BelC.out.trans (hb.mono BelC.out.size))))
  refine (gnew_ok key w.heap.size 0 16 wc (fun i hi => by rw [cell_of_row _ _ _ _ _ _ RowC.out, Nat.zero_add]; exact letter_key _ _ _ _ i hi) (lt_of_heap RowC.out)).mono ?_
  rintro e w1 ⟨p, q, rfl, _, hb1, bx1⟩
  have HB1 := Lib.hid hb1
  have BX1 := Lib.hid bx1
  clear hb1 bx1
  go_wp2_with fail
  with_reducible refine (none_any _).mono ?_
  rintro e w' ⟨rfl, rfl⟩
  go_wp2_with fail
  with_reducible refine (gseal_nil none none none 0 0 0 0 0 0 _).mono ?_
  rintro e w' ⟨rfl, rfl⟩
  go_wp2_with fail
  refine (sealed_any _).mono ?_
  rintro e w2 ⟨rfl, hb2⟩
  have HB2 := Lib.hid (HB1.out.trans (hb2.mono HB1.out.size))
  have BX2 := Lib.hid (BX1.out.later hb2)
  clear hb2 HB1 BX1
  go_upto_region 5 with (fail)
  obtain ⟨KT, hKT⟩ : ∃ KT, strOf key 16 = KT := ⟨_, rfl⟩
  have HKT := Lib.hid hKT
  rw [hKT] at CK
  clear hKT
  have EX := Lib.hid (fun (w' : World) (hb : Below w2.heap.size w2 w') => HB2.out.trans (hb.mono HB2.out.size))
  refine region_class 9 (fun w' => Below w2.heap.size w2 w') mixedOrders (by kernel_rfl) (Below.refl _ _).drew ?_
  refine wpQuiet_take (by rfl) (fun K hK => ⟨.pointer (some ⟨w.heap.size, 0, none⟩), fun w2' hw2 => ?_, hK _ ?_⟩)
  · clear hw2; go_simp
  clear hK K
  simp only [Act.put, List.setIfInBounds_toArray, List.set_cons_succ, List.set_cons_zero]
  refine wpQuiet_take (by rfl) (fun K hK => ⟨.slice (some ⟨w.heap.size, 0, none⟩) 16 16, fun w2' hw2 => ?_, hK _ ?_⟩)
  · clear hw2; go_simp
  clear hK K
  simp only [Act.put, List.setIfInBounds_toArray, List.set_cons_succ, List.set_cons_zero]
  refine wpQuiet_take (by rfl) (fun K hK => ⟨.string KT, fun w2' hw2 => ?_, hK _ ?_⟩)
  · have cv := CK.out w2' (EX.out w2' hw2)
    clear hw2; go_simp
  clear hK K
  simp only [Act.put, List.setIfInBounds_toArray, List.set_cons_succ, List.set_cons_zero]
  refine wpQuiet_take (by rfl) (fun K hK => ⟨.pointer (some ⟨w.heap.size, 17, none⟩), fun w2' hw2 => ?_, hK _ ?_⟩)
  · clear hw2; go_simp
  clear hK K
  simp only [Act.put, List.setIfInBounds_toArray, List.set_cons_succ, List.set_cons_zero]
  refine wpQuiet_take (by rfl) (fun K hK => ⟨.slice a2 n2 c2, fun w2' hw2 => ?_, hK _ ?_⟩)
  · have cc := (cellsX.out w2' (EX.out w2' hw2)).2.1
    clear hw2; go_simp
  clear hK K
  simp only [Act.put, List.setIfInBounds_toArray, List.set_cons_succ, List.set_cons_zero]
  refine wpQuiet_take (by rfl) (fun K hK => ⟨.slice a2 k2 c2, fun w2' hw2 => ?_, hK _ ?_⟩)
  · go_simp
    go_at_call 12
    with_reducible refine (C2'.out _).mono ?_
    rintro e w' ⟨rfl, rfl⟩
    exact ⟨rfl, hw2⟩
  clear hK K
  simp only [Act.put, List.setIfInBounds_toArray, List.set_cons_succ, List.set_cons_zero]
  refine wpQuiet_take (by rfl) (fun K hK => ⟨.pointer (some ⟨w.heap.size, 18, none⟩), fun w2' hw2 => ?_, hK _ ?_⟩)
  · clear hw2; go_simp
  clear hK K
  simp only [Act.put, List.setIfInBounds_toArray, List.set_cons_succ, List.set_cons_zero]
  refine wpQuiet_take (by rfl) (fun K hK => ⟨.slice a3 n3 c3, fun w2' hw2 => ?_, hK _ ?_⟩)
  · have cc := (cellsX.out w2' (EX.out w2' hw2)).2.2
    clear hw2; go_simp
  clear hK K
  simp only [Act.put, List.setIfInBounds_toArray, List.set_cons_succ, List.set_cons_zero]
  refine wpQuiet_take (by rfl) (fun K hK => ⟨.slice a3 k3 c3, fun w2' hw2 => ?_, hK _ ?_⟩)
  · go_simp
    go_at_call 12
    with_reducible refine (C3'.out _).mono ?_
    rintro e w' ⟨rfl, rfl⟩
    exact ⟨rfl, hw2⟩
  clear hK K
  simp only [Act.put, List.setIfInBounds_toArray, List.set_cons_succ, List.set_cons_zero]
  refine wpQuiet_take0 ?_
  intro w3 hb3
  have HB3 := Lib.hid (EX.out w3 hb3)
  have BX3 := Lib.hid (BX2.out.later hb3)
  clear hb3 BX2 HB2 EX C2' C3'
  go_upto_region 6 with (fail)
  by_cases h12 : n1 = 12
  · subst h12
    obtain h0 | ⟨kb, ko, rfl, hkb, hkc⟩ := H1.out.2
    · omega
    have NC := Lib.hid (fun (w' : World) (hb : Below wc.heap.size wc w') (i : Nat) (hi : i < 12) => (show w'.cell? ⟨kb, ko + i, none⟩ = some (.int .u8 (n8 (f1 i))) by rw [(BelC.out.trans (hb.mono BelC.out.size)).cell (p := ⟨kb, ko + i, none⟩) hkb]; exact hkc i hi))
    have NL := Lib.hid (fun (w' : World) (hb : Below wc.heap.size wc w') => Nat.lt_of_lt_of_le hkb (BelC.out.trans (hb.mono BelC.out.size)).size)
    have I2 := Lib.hid (fun (w' : World) (hb : Below wc.heap.size wc w') => bytesIn_later H2.out (BelC.out.trans (hb.mono BelC.out.size)))
    have I3 := Lib.hid (fun (w' : World) (hb : Below wc.heap.size wc w') => bytesIn_later H3.out (BelC.out.trans (hb.mono BelC.out.size)))
    clear hkc hkb
    have SD := Lib.hid (fun w' => sealD_ok key f1 f2 f3 k2 k3 w' (by omega) (by omega))
    have GS := Lib.hid (fun (w' : World) (hb : Below wc.heap.size wc w') (bx : BoxAt w' p q (sched key) (hOf (sched key))) => gseal_ok p q (sched key) (hOf (sched key)) f1 f2 f3 kb ko c1 a2 a3 k2 c2 k3 c3 w' bx (NC.out w' hb) (NL.out w' hb) (I2.out w' hb) L2.out M2.out (I3.out w' hb) (by omega))
    have COW := Lib.hid (fun (v : Value) (B : Nat) (w' : World) (h : Own B v (k3 + 16) (sealF (sched key) (hOf (sched key)) f1 f2 k2 f3 k3) w') => conv_ownB v (k3 + 16) B _ w' h)
    obtain ⟨OT, hOT⟩ : ∃ OT, strOf (sealF (sched key) (hOf (sched key)) f1 f2 k2 f3 k3) (k3 + 16) = OT := ⟨_, rfl⟩
    rw [HKT.out, hOT] at SD
    rw [hOT] at COW
    clear hOT
    obtain ⟨T1, hT1⟩ : ∃ T, strOf f1 12 = T := ⟨_, rfl⟩
    obtain ⟨T2, hT2⟩ : ∃ T, strOf f2 k2 = T := ⟨_, rfl⟩
    obtain ⟨T3, hT3⟩ : ∃ T, strOf f3 k3 = T := ⟨_, rfl⟩
    have HT := Lib.hid (And.intro hT1 (And.intro hT2 hT3))
    have z1 : T1.size = 12 := by rw [← hT1]; exact strOf_size _ _
    have z3 : T3.size = k3 := by rw [← hT3]; exact strOf_size _ _
    rw [hT1, hT2, hT3] at SD
    rw [hT1] at CV1
    rw [hT2] at CV2
    rw [hT3] at CV3
    clear hT1 hT2 hT3
    have x1 := (cellsX.out w3 HB3.out).1
    have cv1 := CV1.out w3 HB3.out
    have cv2 := CV2.out w3 HB3.out
    have cv3 := CV3.out w3 HB3.out
    go_wp2_with fail
    with_reducible refine (SD.out _).mono ?_
    rintro e w4 ⟨rfl, hb4⟩
    have HB4 := Lib.hid (HB3.out.trans (hb4.mono HB3.out.size))
    have BX4 := Lib.hid (BX3.out.later hb4)
    clear hb4 x1 cv1 cv2 cv3 BX3 HB3 SD
    have x1 := (cellsX.out w4 HB4.out).1
    go_wp2_with fail
    with_reducible refine (GS.out w4 HB4.out BX4.out).mono ?_
    rintro e w5 ⟨v5, rfl, own5, hb5⟩
    have HB5 := Lib.hid (HB4.out.trans (hb5.mono HB4.out.size))
    have BX5 := Lib.hid (BX4.out.later hb5)
    have OW5 := Lib.hid own5
    clear hb5 x1 own5 BX4 HB4 GS
    have x1 := (cellsX.out w5 HB5.out).1
    have cv1 := CV1.out w5 HB5.out
    have cv2 := CV2.out w5 HB5.out
    have cv3 := CV3.out w5 HB5.out
    by_cases h16 : k3 < 16
    · have OD := Lib.hid (fun w' => openD_short KT T1 T2 T3 k3 z1 z3 h16 w')
      have GO := Lib.hid (gopen_short p q (sched key) (hOf (sched key)) (some ⟨kb, ko, none⟩) a2 a3 c1 k2 c2 k3 c3 w5 BX5.out h16)
      have cvo := COW.out v5 _ w5 OW5.out
      have cvn : (convert 25 9 (.slice none 0 0)).run Try.prog w5 = .ok (.string ⟨#[]⟩) w5 := conv_in f1 none 0 0 w5 (in_none _ _)
      go_wp2_with fail
      with_reducible refine (OD.out _).mono ?_
      rintro e w' ⟨rfl, rfl⟩
      go_wp2_with fail
      with_reducible refine (GO.out).mono ?_
      rintro e w' ⟨rfl, rfl⟩
      go_wp2_with fail
      go_ret
      exact ⟨rfl, BelC.out.trans (HB5.out.mono BelC.out.size)⟩
    · obtain ⟨m, rfl⟩ : ∃ m, k3 = m + 16 := ⟨k3 - 16, by omega⟩
      have OD := Lib.hid (fun w' => openD_ok key f1 f2 f3 k2 m w' (by omega) (by omega))
      rw [HKT.out, HT.out.1, HT.out.2.1, HT.out.2.2] at OD
      have GO := Lib.hid (fun (w' : World) (hb : Below wc.heap.size wc w') (bx : BoxAt w' p q (sched key) (hOf (sched key))) => gopen_ok p q (sched key) (hOf (sched key)) f1 f2 f3 kb ko c1 a2 a3 k2 c2 m c3 w' bx (NC.out w' hb) (NL.out w' hb) (I2.out w' hb) L2.out M2.out (I3.out w' hb) L3.out (by omega) M3.out)
      have CR := Lib.hid (fun (r : Nat) (w' : World) (h : w'.heap[r]? = some (.cells (bytesArr (hid (sched key) f1 f3) m) 5 (0, 0))) => conv_str (hid (sched key) f1 f3) r 0 m m w' (fun i hi => by rw [cell_of_row _ _ _ _ _ _ h, Nat.zero_add]; exact bytesArr_get _ _ _ hi))
      generalize strOf (hid (sched key) f1 f3) m = HX at *
      generalize openE (sched key) (hOf (sched key)) f1 f2 k2 f3 m = E at *
      go_wp2_with fail
      with_reducible refine (OD.out _).mono ?_
      rintro e w6 ⟨hb6, hres⟩
      have HB6 := Lib.hid (HB5.out.trans (hb6.mono HB5.out.size))
      have BX6 := Lib.hid (BX5.out.later hb6)
      have OW6 := Lib.hid (OW5.out.later hb6)
      clear hb6 x1 cv1 cv2 cv3 BX5 HB5 OW5 OD
      have x1 := (cellsX.out w6 HB6.out).1
      rcases hres with ⟨rfl, rfl⟩ | ⟨rfl, rfl⟩
      · go_wp2_with fail
        with_reducible refine (GO.out w6 HB6.out BX6.out).mono ?_
        rintro e w7 ⟨hb7, ⟨_, r, rfl, _, row7⟩ | ⟨h, _⟩⟩
        · have cvr := CR.out r w7 row7
          have cvo := COW.out v5 _ w7 (OW6.out.later hb7)
          have HB7 := Lib.hid (HB6.out.trans (hb7.mono HB6.out.size))
          clear hb7 row7
          go_wp2_with fail
          go_ret
          exact ⟨rfl, BelC.out.trans (HB7.out.mono BelC.out.size)⟩
        · cases h
      · go_wp2_with fail
        with_reducible refine (GO.out w6 HB6.out BX6.out).mono ?_
        rintro e w7 ⟨hb7, ⟨h, _⟩ | ⟨_, rfl⟩⟩
        · cases h
        · have cvn : (convert 25 9 (.slice none 0 0)).run Try.prog w7 = .ok (.string ⟨#[]⟩) w7 := conv_in f1 none 0 0 w7 (in_none _ _)
          have cvo := COW.out v5 _ w7 (OW6.out.later hb7)
          have HB7 := Lib.hid (HB6.out.trans (hb7.mono HB6.out.size))
          clear hb7
          go_wp2_with fail
          go_ret
          exact ⟨rfl, BelC.out.trans (HB7.out.mono BelC.out.size)⟩
  · have z1 := strOf_size f1 n1
    have cvn : ∀ w' : World, (convert 25 9 (.slice none 0 0)).run Try.prog w' = .ok (.string ⟨#[]⟩) w' := fun w' => conv_in f1 none 0 0 w' (in_none _ _)
    have SD := Lib.hid (fun w' => sealD_bad KT (strOf f1 n1) (strOf f2 k2) (strOf f3 k3) n1 z1 h12 w')
    have OD := Lib.hid (fun w' => openD_bad KT (strOf f1 n1) (strOf f2 k2) (strOf f3 k3) n1 z1 h12 w')
    have GS := Lib.hid (gseal_bad p q (sched key) (hOf (sched key)) a1 a2 a3 n1 c1 k2 c2 k3 c3 w3 BX3.out h12)
    have GO := Lib.hid (gopen_bad p q (sched key) (hOf (sched key)) a1 a2 a3 n1 c1 k2 c2 k3 c3 w3 BX3.out h12)
    have x1 := (cellsX.out w3 HB3.out).1
    have cv1 := CV1.out w3 HB3.out
    have cv2 := CV2.out w3 HB3.out
    have cv3 := CV3.out w3 HB3.out
    generalize strOf f1 n1 = T1 at *
    generalize strOf f2 k2 = T2 at *
    generalize strOf f3 k3 = T3 at *
    go_wp2_with fail
    with_reducible refine (SD.out _).mono ?_
    rintro e w' ⟨rfl, rfl⟩
    go_wp2_with fail
    with_reducible refine (GS.out).mono ?_
    rintro e w' ⟨rfl, rfl⟩
    go_wp2_with fail
    with_reducible refine (OD.out _).mono ?_
    rintro e w' ⟨rfl, rfl⟩
    go_wp2_with fail
    with_reducible refine (GO.out).mono ?_
    rintro e w' ⟨rfl, rfl⟩
    go_wp2_with fail
    go_ret
    exact ⟨rfl, BelC.out.trans (HB3.out.mono BelC.out.size)⟩
theorem walk {H : Type} {enc : TypeId × Value → H} (w : World) (base : Nat) (v0 : Value) (d0 : DataW H) (p0 : List MemPlace)
    (k0 : Value.okWide Try.prog w .any base 29 v0)
    (h0 : DataW.Trod enc Try.prog w 0 (fun _ => true) true 29 v0 d0 p0) (z0 : ∀ n ∈ DataW.weights Try.prog 29 d0, n ≤ reachBytes) :
    Calls Try.prog 4 #[v0] w fun e w' => e = .returned (.bool true) ∧ Below w.heap.size w w' := by
  obtain ⟨key, a1, n1, c1, f1, a2, n2, c2, f2, a3, n3, c3, f3, rfl, ⟨b1, b2, b3, b4⟩, ⟨b5, b6, b7⟩, b8, b9, b10⟩ := open_letter k0 h0 z0
  exact law_any key f1 f2 f3 a1 a2 a3 n1 c1 n2 c2 n3 c3 w b1 b2 b3 b4 b5 b6 b7 b8 b9 b10
set_option maxRecDepth 100000 in
theorem lifted (os : Os) (started : os.Started) (H : Type) (enc : TypeId × Value → H) :
    ReturnsInHanded {} Try.checked os 4 .any (Rows.gcmSealSpec.pre6 enc Try.prog Try.f4 Rows.gcmSealRow.domain false) (Rows.gcmSealSpec.post enc Try.prog Try.f4 false true false false) := by
  refine returnsInHanded_of_change_sized (C := Try.checked) own started (by kernel_rfl) Try.func4
    (ChangeSpec.witness6 (enc := enc) (C := Try.checked) false ⟨#[], #[.agg #[.int .u8 0, .int .u8 0, .int .u8 0, .int .u8 0, .int .u8 0, .int .u8 0, .int .u8 0, .int .u8 0, .int .u8 0, .int .u8 0, .int .u8 0, .int .u8 0, .int .u8 0, .int .u8 0, .int .u8 0, .int .u8 0, .slice none 0 0, .slice none 0 0, .slice none 0 0]], []⟩ 8 (by kernel_rfl) (by kernel_rfl) (by kernel_rfl) (by kernel_rfl)) ?_
  intro W base args ds gs before hval0 hW hcnd hsz0 _
  have hval : ∀ (j : Nat) t v, Try.f4.params[j]? = some t → args[j]? = some v → Value.okWide Try.prog W .any base t v := hval0
  have hW' := hW
  obtain ⟨p, q, hA0, hV, rfl, hfz, hnd⟩ := hW
  have hA : DataW.TrodAll enc Try.prog W 0 (fun _ => true) true Try.f4.params.toList args.toList ds p := hA0
  rw [Try.params4] at hA hval
  obtain ⟨v0, vs0, d0, ds0, p0, q0, hargs, rfl, rfl, h0, r0⟩ := trodAll_cons hA
  obtain ⟨rfl, rfl, rfl⟩ := trodAll_nil r0
  obtain rfl : args = #[v0] := by cases args; simp_all
  obtain ⟨rfl, rfl⟩ := trodVars_none hV
  have k0 := h0
  have lt0 : ∀ x ∈ p0, x.block < W.heap.size := by obtain ⟨m, hm⟩ := k0; exact DataW.trod_lt m _ _ _ hm
  have z0 : ∀ n ∈ DataW.weights Try.prog 29 d0, n ≤ reachBytes := fun n hn => by
    have h1 := List.all_eq_true.1 hsz0 n
    have h2 := h1 (by
      refine DataW.weights_mem_each (j := 0) (t := 29) (d := d0) ?_ ?_ n hn
      · rw [Try.params4]; rfl
      · rfl)
    simpa using h2
  clear hA0 hval0
  refine (walk W base v0 d0 p0 (hval 0 29 v0 rfl rfl) k0 z0).mono fun e W' ⟨he, bel⟩ => ?_
  subst he
  exact ⟨_, rfl, _, _, _, [], _, [], hW', trodAll_mk1 (shut_bool Try.underlying4 _), (trodAll_cons_mk (Below.trod laidOut (by kernel_rfl) (of_decide_eq_true (by kernel_rfl)) k0 bel lt0) trodAll_mk0), rfl, bel.frame _, fun h => by cases h⟩
theorem over : Rows.gcmSealRow.holds Try.pinned (OpenSpec.ofChange Rows.gcmSealSpec) :=
  OpenClaim.holds_of_wide 4 Try.f4 rfl rfl rfl rfl rfl rfl rfl ⟨rfl, rfl, rfl, rfl, rfl⟩ rfl rfl rfl rfl rfl (by kernel_rfl) Try.func4 (by kernel_rfl)
    (of_decide_eq_true (by kernel_rfl)) (by unfold Func.isWrapper; first | (rw [if_pos (by decide +kernel)]; kernel_rfl) | (rw [if_neg (by decide +kernel)]; exact ⟨rfl, rfl⟩))
    (fun os started H enc _ => lifted os started H enc)
theorem proved : Rows.GcmSealSaid := over
end Go.Proofs.Ytoocglckhphepaa.gcmSeal
