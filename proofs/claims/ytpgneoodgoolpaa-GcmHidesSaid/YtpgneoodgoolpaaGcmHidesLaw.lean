/-
  GcmHides holds: what is hidden hangs on the key, the nonce and the bytes alone; put together with the bytes it is the same row for all of one count. No conditions.
-/
import Derived.Test.YtpgneoodgoolpaaRows
import Derived.Test.YtpgneoodgoolpaaLetter
import Derived.WalkKit
import Derived.ProofKit
import Derived.OpenShut
import Derived.ShutString
import Derived.ChangeOld
import Derived.Below
import Derived.Deep.DeepCutAuto
import Derived.Deep.Upon
import Derived.Deep.AppendSrc
import Derived.SizedLaws
namespace Go.Proofs.Ytpgneoodgoolpaa.gcmHides
open Go Go.ChangeShapes Go.WideShapes Go.ChangeAt Go.RowKit Go.BigFrame
set_option linter.unusedVariables false
theorem own : ownKnob Try.prog.godebug = none := by kernel_rfl
theorem laidOut : laidOutB Try.prog = true := by kernel_rfl
set_option linter.unusedSimpArgs false
set_option maxHeartbeats 1000000 in
theorem cut_any (a : Option Addr) (n c : Nat) (w : World) (hc : n ≤ c) (hm : c ≤ maxLen) : ∃ k, k ≤ 120 ∧ k ≤ n ∧ ∀ w' : World, Calls Try.prog 24 #[.slice a n c] w' fun e w'' => e = .returned (.slice a k c) ∧ w' = w'' := by
  have hm' : c ≤ 9223372036854775807 := by unfold maxLen at hm; omega
  by_cases hl : n ≤ 120
  · refine ⟨n, hl, Nat.le_refl _, fun w' => ?_⟩
    have hl5 : ¬ (120 : Int) < (n : Int) := by omega
    have hl6 : (n : Int) ≤ 120 := by omega
    have su := fun w' => run_upto_b w' a n n c (Nat.le_refl _) hc
    clear hm
    go_enter Try.func24, Try.ntmps24
    go_wp2_with fail
    go_ret
    exact ⟨rfl, rfl⟩
  · refine ⟨120, by omega, by omega, fun w' => ?_⟩
    have hl5 : (120 : Int) < (n : Int) := by omega
    have hl6 : ¬ (n : Int) ≤ 120 := by omega
    have su : ∀ w', (Instr.sliceAt 27 (.slice a n c) none (some (.int .i64 120)) none).run Try.prog w' = .ok (.slice a 120 c) w' := fun w' => run_upto_b w' a 120 n c (by omega) hc
    clear hm
    go_enter Try.func24, Try.ntmps24
    go_wp2_with fail
    go_ret
    exact ⟨rfl, rfl⟩
theorem in_less {w : World} {a : Option Addr} {n k : Nat} {f : Nat → BitVec 8} (h : BytesIn w a n f) (hk : k ≤ n) : BytesIn w a k f :=
  ⟨Nat.le_trans hk h.1, by
    rcases h.2 with h0 | ⟨b, o, e, hl, hc⟩
    · exact .inl (by omega)
    · exact .inr ⟨b, o, e, hl, fun i hi => hc i (by omega)⟩⟩
set_option maxHeartbeats 8000000 in
set_option maxRecDepth 100000 in
theorem hides_any (key f1 f2 f3 g : Nat → BitVec 8) (a1 a2 a3 a : Option Addr) (n1 c1 n2 c2 n3 c3 n c : Nat) (w : World) (h1 : BytesIn w a1 n1 f1) (hc1 : n1 ≤ c1) (hm1 : c1 ≤ maxLen) (hz1 : n1 ≤ 140737488355328)
    (h2 : BytesIn w a2 n2 f2) (hc2 : n2 ≤ c2) (hm2 : c2 ≤ maxLen) (h3 : BytesIn w a3 n3 f3) (hc3 : n3 ≤ c3) (hm3 : c3 ≤ maxLen) (h : BytesIn w a n g) (hc : n ≤ c) (hm : c ≤ maxLen) :
    Calls Try.prog 10 #[.agg (letterC key (.slice a1 n1 c1) (.slice a2 n2 c2) (.slice a3 n3 c3)), .slice a n c] w fun e w' => e = .returned (.bool true) ∧ Below w.heap.size w w' := by
  obtain ⟨k2, hk2, hkn2, C2⟩ := cut_any a2 n2 c2 w hc2 hm2
  obtain ⟨k3, hk3, hkn3, C3⟩ := cut_any a3 n3 c3 w hc3 hm3
  obtain ⟨k, hk, hkn, CC⟩ := cut_any a n c w hc hm
  have H1 := Lib.hid h1
  have H2 := Lib.hid (in_less h2 hkn2)
  have H3 := Lib.hid (in_less h3 hkn3)
  have H := Lib.hid (in_less h hkn)
  have C2' := Lib.hid C2
  have C3' := Lib.hid C3
  have CC' := Lib.hid CC
  have L2 := Lib.hid (Nat.le_trans hkn2 hc2)
  have L3 := Lib.hid (Nat.le_trans hkn3 hc3)
  have LL := Lib.hid (Nat.le_trans hkn hc)
  have M2 := Lib.hid hm2
  have M3 := Lib.hid hm3
  have MM := Lib.hid hm
  clear h1 h2 h3 h C2 C3 CC hm1 hm2 hm3 hm hc1 hc2 hc3 hc hkn2 hkn3 hkn
  go_enter Try.func10, Try.ntmps10
  go_wp2_with fail
  have row := heap_alloc_last w (.cells (letterC key (.slice a1 n1 c1) (.slice a2 n2 c2) (.slice a3 n3 c3)) 44)
  have bel := (Below.refl w.heap.size w).alloc (Nat.le_refl _) (.cells (letterC key (.slice a1 n1 c1) (.slice a2 n2 c2) (.slice a3 n3 c3)) 44)
  generalize hW : w.alloc _ = wc at *
  clear hW
  have RowC := Lib.hid row
  have BelC := Lib.hid bel
  clear row bel
  have cellsX := Lib.hid (fun (w' : World) (hb : Below wc.heap.size wc w') => (show w'.cell? ⟨w.heap.size, 16, none⟩ = some (.slice a1 n1 c1) ∧ w'.cell? ⟨w.heap.size, 17, none⟩ = some (.slice a2 n2 c2) ∧ w'.cell? ⟨w.heap.size, 18, none⟩ = some (.slice a3 n3 c3) from by
    have r := (hb.block _ (lt_of_heap RowC.out)).trans RowC.out
    refine ⟨?_, ?_, ?_⟩
    · rw [cell_of_row _ _ _ _ _ _ r]; exact letter_1 _ _ _ _
    · rw [cell_of_row _ _ _ _ _ _ r]; exact letter_2 _ _ _ _
    · rw [cell_of_row _ _ _ _ _ _ r]; exact letter_3 _ _ _ _))
  refine (gnew_ok key w.heap.size 0 16 wc (fun i hi => by rw [cell_of_row _ _ _ _ _ _ RowC.out, Nat.zero_add]; exact letter_key _ _ _ _ i hi) (lt_of_heap RowC.out)).mono ?_
  rintro e w1 ⟨p, q, rfl, _, hb1, bx1⟩
  have HB1 := Lib.hid hb1
  have BX1 := Lib.hid bx1
  clear hb1 bx1
  go_wp2_with fail
  refine (sealed_any _).mono ?_
  rintro e w2 ⟨rfl, hb2⟩
  have HB2 := Lib.hid (HB1.out.trans (hb2.mono HB1.out.size))
  have BX2 := Lib.hid (BX1.out.later hb2)
  clear hb2 HB1 BX1
  have hE := Own.empty (B := w2.heap.size) f1 w2 (Nat.le_refl _)
  have hb3 := HB2.out.alloc HB2.out.size (.cells #[] 5)
  have S1 := Lib.hid (src_in (bytesIn_later H1.out (BelC.out.trans (hb3.mono BelC.out.size))) c1)
  have E1 := Lib.hid hE
  obtain ⟨d1, d2, d3⟩ := cellsX.out _ hb3
  clear hE hb3
  go_upto_region 5 with (first
    | (at_builtin; refine wpList_append_bytes (o := ⟨some 30, _, _, _, _, _⟩) rfl _ _ 27 rfl rfl rfl E1.out S1.out (by omega) ?_; intro v3 w3 ho3 hg3; rw [Nat.zero_add] at ho3)
    | (at_builtin; refine wpList_append_zeros (o := ⟨some 31, _, _, _, _, _⟩) rfl _ _ rfl rfl rfl ho3 (by omega) ?_; intro v4 w4 ho4 hg4; obtain ⟨gb, gc, rfl, hgc, hgm, hgin⟩ := ho4.bytesIn (by omega); have su : ∀ w', (Instr.sliceAt 27 (.slice (some ⟨gb, 0, none⟩) (n1 + 12) gc) none (some (.int .i64 12)) none).run Try.prog w' = .ok (.slice (some ⟨gb, 0, none⟩) 12 gc) w' := fun w' => run_upto_b w' (some ⟨gb, 0, none⟩) 12 (n1 + 12) gc (by omega) hgc))
  have hb24 : Below w2.heap.size w2 w4 := (((Below.refl w2.heap.size w2).alloc (Nat.le_refl _) (.cells #[] 5)).trans (hg3.below E1.out)).trans (hg4.below ho3)
  obtain h0 | ⟨gb', go', he, hgl, hgc'⟩ := hgin.2
  · omega
  cases he
  generalize joinb (joinb f1 0 f1) n1 (fun _ => 0#8) = F at *
  have NC := Lib.hid (fun (i : Nat) (hi : i < 12) => hgc' i (by omega))
  have NL := Lib.hid hgl
  have HB4 := Lib.hid (HB2.out.trans (hb24.mono HB2.out.size))
  have BX4 := Lib.hid (BX2.out.later hb24)
  clear hb24 hgin hgc' hgl ho4 hg4 ho3 hg3 su S1 E1 d1 d2 d3 hgc hgm BX2 HB2
  obtain ⟨d1, d2, d3⟩ := cellsX.out w4 HB4.out
  have hbw4 := BelC.out.trans (HB4.out.mono BelC.out.size)
  have SK1 := Lib.hid (gseal_ok p q (sched key) (hOf (sched key)) F f2 f3 gb 0 gc a2 a3 k2 c2 k3 c3 w4 BX4.out NC.out NL.out (bytesIn_later H2.out hbw4) L2.out M2.out (bytesIn_later H3.out hbw4) (by omega))
  have HW4 := Lib.hid hbw4
  clear hbw4
  go_wp2_with (first
    | (go_at_call 24; with_reducible refine (C3'.out _).mono ?_; rintro e w' ⟨rfl, rfl⟩)
    | (go_at_call 24; with_reducible refine (C2'.out _).mono ?_; rintro e w' ⟨rfl, rfl⟩))
  with_reducible refine SK1.out.mono ?_
  rintro e w5 ⟨v5, rfl, own5, hb5⟩
  obtain ⟨g5, q5, rfl, _, _, hin5⟩ := own5.bytesIn (by omega)
  have HB5 := Lib.hid hb5
  have I5 := Lib.hid hin5
  have HW5 := Lib.hid (HW4.out.trans (hb5.mono HW4.out.size))
  clear own5 hb5 hin5 SK1 d1 d2 d3
  have SK2 := Lib.hid (gseal_ok p q (sched key) (hOf (sched key)) F g f3 gb 0 gc a a3 k c k3 c3 w5 (BX4.out.later HB5.out) (fun i hi => by rw [HB5.out.cell (p := ⟨gb, 0 + i, none⟩) NL.out]; exact NC.out i hi) (Nat.lt_of_lt_of_le NL.out HB5.out.size) (bytesIn_later H.out HW5.out) LL.out MM.out (bytesIn_later H3.out HW5.out) (by omega))
  go_wp2_with (go_at_call 24; with_reducible refine (CC'.out _).mono ?_; rintro e w' ⟨rfl, rfl⟩)
  with_reducible refine SK2.out.mono ?_
  rintro e w6 ⟨v6, rfl, own6, hb6⟩
  obtain ⟨g6, q6, rfl, _, _, hin6⟩ := own6.bytesIn (by omega)
  have hb46 := HB5.out.trans (hb6.mono HB5.out.size)
  have hba := (Below.refl w6.heap.size w6).alloc (Nat.le_refl _) (.cells (bytesArr (fun _ => 0#8) k3) 5)
  have hb4a := hb46.trans (hba.mono hb46.size)
  have SK3 := Lib.hid (gseal_ok p q (sched key) (hOf (sched key)) F (fun _ => 0#8) (fun _ => 0#8) gb 0 gc none (some ⟨w6.heap.size, 0, none⟩) 0 0 k3 k3 _ (BX4.out.later hb4a) (fun i hi => by rw [hb4a.cell (p := ⟨gb, 0 + i, none⟩) NL.out]; exact NC.out i hi) (Nat.lt_of_lt_of_le NL.out hb4a.size) (in_none _ _) (Nat.le_refl _) (Nat.zero_le _) (in_row (by unfold maxLen; omega) (heap_alloc_last w6 _)) (by omega))
  have HB6 := Lib.hid hb6
  have HB4A := Lib.hid hb4a
  have HBA := Lib.hid hba
  have I6 := Lib.hid hin6
  clear own6 hb6 hin6 hb46 hba hb4a SK2
  have mk := run_make_bytes k3 (by omega)
  go_wp2_with fail
  with_reducible refine SK3.out.mono ?_
  rintro e w7 ⟨v7, rfl, own7, hb7⟩
  obtain ⟨g7, q7, rfl, _, _, hin7⟩ := own7.bytesIn (by omega)
  have I7 := Lib.hid hin7
  have HB67 := Lib.hid (HBA.out.trans (hb7.mono HBA.out.size))
  have I6' := Lib.hid (bytesIn_later I6.out HB67.out)
  have I5' := Lib.hid (bytesIn_later (bytesIn_later I5.out HB6.out) HB67.out)
  have HB7 := Lib.hid (HB4A.out.trans (hb7.mono HB4A.out.size))
  have HW7 := Lib.hid (HW4.out.trans (HB7.out.mono HW4.out.size))
  have I3' := Lib.hid (bytesIn_later H3.out HW7.out)
  clear own7 hb7 hin7 SK3 mk I5 I6 HB67 HB6 HBA HB4A HB5 HW5
  go_wp2_with fail
  go_loopw [14] (fun s14 wr => ∃ i : Nat, i ≤ k3 ∧ s14 = .int .i64 (i : Int) ∧ Below w7.heap.size w7 wr)
    (fun s14 _ => k3 - (intOf s14).toNat)
  case atStart => exact ⟨0, by omega, rfl, Below.refl _ _⟩
  case round =>
    obtain ⟨i, hi, rfl, hbr⟩ := hrel
    by_cases hik : i < k3
    · have hiI : (i : Int) < (k3 : Int) := by omega
      have hiJ : (i : Int) < (k3 : Int) + 16 := by omega
      obtain h0 | ⟨x5, o5, he5, hl5, hc5⟩ := I5'.out.2
      · omega
      obtain h0 | ⟨x6, o6, he6, hl6, hc6⟩ := I6'.out.2
      · omega
      obtain h0 | ⟨x7, o7, he7, hl7, hc7⟩ := I7.out.2
      · omega
      obtain h0 | ⟨bb, bo, rfl, hl3, hcc3⟩ := I3'.out.2
      · omega
      cases he5
      cases he6
      cases he7
      have e5 := hc5 i (by omega)
      have e6 := hc6 i (by omega)
      have e7 := hc7 i (by omega)
      have e3 := hcc3 i (by omega)
      unfold sealF joinb at e5 e6 e7
      rw [if_pos hik] at e5 e6 e7
      have hxy : hid (sched key) F f3 i ^^^ f3 i = hid (sched key) F (fun _ => 0#8) i := by
        unfold hid
        rw [BitVec.xor_comm (f3 i), BitVec.xor_assoc, BitVec.xor_self, BitVec.xor_zero, BitVec.zero_xor]
      generalize hid (sched key) F f3 i = X at *
      generalize hid (sched key) F (fun _ => 0#8) i = Z at *
      generalize f3 i = Y at *
      rw [Nat.zero_add] at e5 e6 e7
      have k5 : wr.drew.cell? ⟨g5, i, none⟩ = some (.int .u8 (n8 X)) := by show wr.cell? _ = _; rw [hbr.cell (p := ⟨g5, i, none⟩) hl5]; exact e5
      have k6 : wr.drew.cell? ⟨g6, i, none⟩ = some (.int .u8 (n8 X)) := by show wr.cell? _ = _; rw [hbr.cell (p := ⟨g6, i, none⟩) hl6]; exact e6
      have k7 : wr.drew.cell? ⟨g7, i, none⟩ = some (.int .u8 (n8 Z)) := by show wr.cell? _ = _; rw [hbr.cell (p := ⟨g7, i, none⟩) hl7]; exact e7
      have k8 : wr.drew.cell? ⟨bb, bo + i, none⟩ = some (.int .u8 (n8 Y)) := by show wr.cell? _ = _; rw [hbr.cell (p := ⟨bb, bo + i, none⟩) hl3]; exact e3
      clear e5 e6 e7 e3 hc5 hc6 hc7 hcc3
      have HBR := Lib.hid hbr
      clear hbr
      go_wp2_with fail
      refine region_quiet mixedOrders (by kernel_rfl) ?_
      repeat (go_big_quiet_step (fail))
      refine wpQuiet_nil ?_
      go_wp2_with fail
      go_roundw
      case rel => exact ⟨i + 1, by omega, by go_num, HBR.out.drew⟩
      case measure => simp [intOf]; omega
    · obtain rfl : i = k3 := by omega
      go_wp2_with fail
      go_ret
      exact ⟨by simp, HW7.out.trans (hbr.mono HW7.out.size)⟩
theorem walk {H : Type} {enc : TypeId × Value → H} (w : World) (base : Nat) (v0 v1 : Value) (d0 d1 : DataW H) (p0 p1 : List MemPlace)
    (k0 : Value.okWide Try.prog w .any base 44 v0) (k1 : Value.okWide Try.prog w .any base 27 v1)
    (h0 : DataW.Trod enc Try.prog w 0 (fun _ => true) true 44 v0 d0 p0) (h1 : DataW.Trod enc Try.prog w 0 (fun _ => true) true 27 v1 d1 p1)
    (z0 : ∀ n ∈ DataW.weights Try.prog 44 d0, n ≤ reachBytes) (z1 : ∀ n ∈ DataW.weights Try.prog 27 d1, n ≤ reachBytes) :
    Calls Try.prog 10 #[v0, v1] w fun e w' => e = .returned (.bool true) ∧ Below w.heap.size w w' := by
  obtain ⟨a, n, c, g, rfl, h, hc, hm⟩ := open_bytes k1 h1
  obtain ⟨key, a1, n1, c1, f1, a2, n2, c2, f2, a3, n3, c3, f3, rfl, ⟨h1, hc1, hm1, hz1⟩, ⟨h2, hc2, hm2⟩, ⟨h3, hc3, hm3⟩⟩ := open_letter k0 h0 z0
  exact hides_any key f1 f2 f3 g a1 a2 a3 a n1 c1 n2 c2 n3 c3 n c w h1 hc1 hm1 hz1 h2 hc2 hm2 h3 hc3 hm3 h hc hm
set_option maxRecDepth 100000 in
theorem lifted (os : Os) (started : os.Started) (H : Type) (enc : TypeId × Value → H) :
    ReturnsInHanded {} Try.checked os 10 .any (Rows.gcmHidesSpec.pre6 enc Try.prog Try.f10 Rows.gcmHidesRow.domain false) (Rows.gcmHidesSpec.post enc Try.prog Try.f10 false true false false) := by
  refine returnsInHanded_of_change_sized (C := Try.checked) own started (by kernel_rfl) Try.func10
    (ChangeSpec.witness6 (enc := enc) (C := Try.checked) false ⟨#[], #[.agg #[.int .u8 0, .int .u8 0, .int .u8 0, .int .u8 0, .int .u8 0, .int .u8 0, .int .u8 0, .int .u8 0, .int .u8 0, .int .u8 0, .int .u8 0, .int .u8 0, .int .u8 0, .int .u8 0, .int .u8 0, .int .u8 0, .slice none 0 0, .slice none 0 0, .slice none 0 0], .slice none 0 0], []⟩ 8 (by kernel_rfl) (by kernel_rfl) (by kernel_rfl) (by kernel_rfl)) ?_
  intro W base args ds gs before hval0 hW hcnd hsz0 _
  have hval : ∀ (j : Nat) t v, Try.f10.params[j]? = some t → args[j]? = some v → Value.okWide Try.prog W .any base t v := hval0
  have hW' := hW
  obtain ⟨p, q, hA0, hV, rfl, hfz, hnd⟩ := hW
  have hA : DataW.TrodAll enc Try.prog W 0 (fun _ => true) true Try.f10.params.toList args.toList ds p := hA0
  rw [Try.params10] at hA hval
  obtain ⟨v0, vs0, d0, ds0, p0, q0, hargs, rfl, rfl, h0, r0⟩ := trodAll_cons hA
  obtain ⟨v1, vs1, d1, ds1, p1, q1, rfl, rfl, rfl, h1, r1⟩ := trodAll_cons r0
  obtain ⟨rfl, rfl, rfl⟩ := trodAll_nil r1
  obtain rfl : args = #[v0, v1] := by cases args; simp_all
  obtain ⟨rfl, rfl⟩ := trodVars_none hV
  have k0 := h0
  have lt0 : ∀ x ∈ p0, x.block < W.heap.size := by obtain ⟨m, hm⟩ := k0; exact DataW.trod_lt m _ _ _ hm
  have k1 := h1
  have lt1 : ∀ x ∈ p1, x.block < W.heap.size := by obtain ⟨m, hm⟩ := k1; exact DataW.trod_lt m _ _ _ hm
  have z0 : ∀ n ∈ DataW.weights Try.prog 44 d0, n ≤ reachBytes := fun n hn => by
    have h1 := List.all_eq_true.1 hsz0 n
    have h2 := h1 (by
      refine DataW.weights_mem_each (j := 0) (t := 44) (d := d0) ?_ ?_ n hn
      · rw [Try.params10]; rfl
      · rfl)
    simpa using h2
  have z1 : ∀ n ∈ DataW.weights Try.prog 27 d1, n ≤ reachBytes := fun n hn => by
    have h1 := List.all_eq_true.1 hsz0 n
    have h2 := h1 (by
      refine DataW.weights_mem_each (j := 1) (t := 27) (d := d1) ?_ ?_ n hn
      · rw [Try.params10]; rfl
      · rfl)
    simpa using h2
  clear hA0 hval0
  refine (walk W base v0 v1 d0 d1 p0 p1 (hval 0 44 v0 rfl rfl) (hval 1 27 v1 rfl rfl) k0 k1 z0 z1).mono fun e W' ⟨he, bel⟩ => ?_
  subst he
  exact ⟨_, rfl, _, _, _, [], _, [], hW', trodAll_mk1 (shut_bool Try.underlying4 _), (trodAll_cons_mk (Below.trod laidOut (by kernel_rfl) (of_decide_eq_true (by kernel_rfl)) k0 bel lt0) (trodAll_cons_mk (Below.trod laidOut (by kernel_rfl) (of_decide_eq_true (by kernel_rfl)) k1 bel lt1) trodAll_mk0)), rfl, bel.frame _, fun h => by cases h⟩
theorem over : Rows.gcmHidesRow.holds Try.pinned (OpenSpec.ofChange Rows.gcmHidesSpec) :=
  OpenClaim.holds_of_wide 10 Try.f10 rfl rfl rfl rfl rfl rfl rfl ⟨rfl, rfl, rfl, rfl, rfl⟩ rfl rfl rfl rfl rfl (by kernel_rfl) Try.func10 (by kernel_rfl)
    (of_decide_eq_true (by kernel_rfl)) (by unfold Func.isWrapper; first | (rw [if_pos (by decide +kernel)]; kernel_rfl) | (rw [if_neg (by decide +kernel)]; exact ⟨rfl, rfl⟩))
    (fun os started H enc _ => lifted os started H enc)
theorem proved : Rows.GcmHidesSaid := over
end Go.Proofs.Ytpgneoodgoolpaa.gcmHides
