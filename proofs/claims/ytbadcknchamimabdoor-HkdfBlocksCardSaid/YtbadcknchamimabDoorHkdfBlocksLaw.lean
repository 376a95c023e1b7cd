/-
  The bytes of a secret, block by block, are Macs by it, each of the block ahead, the use, and its number, at the commit of COMMIT; the table of sha's constants holds what the program's text lays.
-/
import Derived.Test.YtbadcknchamimabDoorRows
import Derived.Test.YtbadcknchamimabDoorCards
import Derived.Test.YtbadcknchamimabDoorTie
import Derived.Test.YtbadcknchamimabDoorShaDoor
import Derived.Test.YtbadcknchamimabDoorHkdfD
import Derived.Test.YtbadcknchamimabDoorOpenB
import Derived.WalkKit
import Derived.ProofKit
import Derived.OpenShut
import Derived.ShutString
import Derived.ChangeOld
import Derived.Below
import Derived.Deep.DeepCutAuto
import Derived.Deep.Upon
import Derived.Deep.AppendSrc
import Derived.SevenTiedAt
import Derived.LaidMore
import Derived.SizedLaws
import Derived.Lib.SmallJoins
namespace Go.Proofs.YtbadcknchamimabDoor.hkdfBlocks
open Go Go.ChangeShapes Go.WideShapes Go.ChangeAt Go.RowKit Go.BigFrame
set_option linter.unusedVariables false
theorem u64_mod (x : Int) : ∃ z k : Nat, IntKind.u64.wrap x = (z : Int) ∧ z % 12 = k ∧ k < 12 :=
  ⟨(BitVec.ofInt 64 x).toNat, _, by rw [wrap_n64, n64_nat], rfl, Nat.mod_lt _ (by omega)⟩
theorem bytesIn_mid {w : World} {q N lo k : Nat} {f : Nat → BitVec 8} (h : BytesIn w (some ⟨q, 0, none⟩) N f) (hk : lo + k ≤ N) (h0 : 0 < N) : BytesIn w (some ⟨q, lo, none⟩) k (fun j => f (lo + j)) := by
  refine ⟨by have := h.1; omega, .inr ?_⟩
  rcases h.2 with e | ⟨bb, bo, e, hb, hc⟩
  · omega
  · injection e with e
    injection e with e1 e2 e3
    subst e1; subst e2
    exact ⟨q, lo, rfl, hb, fun i hi => by have := hc (lo + i) (by omega); rw [Nat.zero_add] at this; exact this⟩
theorem expB_block (K g : Nat → BitVec 8) (n i j : Nat) (hj : j < 32) : expB K g n (32 * i + j) = tB K g n (i + 1) j := by
  unfold expB
  rw [show (32 * i + j) / 32 = i by omega, show (32 * i + j) % 32 = j by omega]
theorem bytesIn_congr {w : World} {a : Option Addr} {n : Nat} {f g : Nat → BitVec 8} (h : BytesIn w a n f) (hfg : ∀ i, i < n → f i = g i) : BytesIn w a n g :=
  ⟨h.1, h.2.imp id fun ⟨b, o, e, hb, hc⟩ => ⟨b, o, e, hb, fun i hi => by rw [hc i hi, hfg i hi]⟩⟩
set_option maxRecDepth 100000 in
set_option maxHeartbeats 16000000 in
theorem law_any (a a' : Option Addr) (n c n' c' : Nat) (f g : Nat → BitVec 8) (x : Int) (w : World) (T : TabK w) (hx : BytesIn w a n f) (hc : n ≤ c) (hcm : c ≤ maxLen) (hy : BytesIn w a' n' g) (hc' : n' ≤ c') (hcm' : c' ≤ maxLen) :
    Calls Tryd.prog 7 #[.slice a n c, .slice a' n' c', .int .i64 x] w fun e w' => e = .returned (.bool true) ∧ Below w.heap.size w w' := by
  have HX := Lib.hid hx
  have HY := Lib.hid hy
  have TK := Lib.hid T
  clear hx hy T
  obtain ⟨z, k, hz, hk, hk12⟩ := u64_mod x
  have HK := Lib.hid hk
  have HZ := Lib.hid hz
  clear hk hz
  go_enter Tryd.func7, Tryd.ntmps7
  go_wp2_with fail
  with_reducible refine (expands_any w TK.out).mono ?_
  rintro e w1 ⟨rfl, hb1⟩
  by_cases hl : n ≤ 3000
  · have hlI : ¬ (3000 : Int) < (n : Int) := by omega
    by_cases hl' : n' ≤ 300
    · have hlI' : ¬ (300 : Int) < (n' : Int) := by omega
      have XA := Lib.hid (fun (w' : World) (hb : Below w1.heap.size w1 w') => bytesIn_ext HX.out (hb1.trans (hb.mono hb1.size)))
      have YA := Lib.hid (fun (w' : World) (hb : Below w1.heap.size w1 w') => bytesIn_ext HY.out (hb1.trans (hb.mono hb1.size)))
      have TA := Lib.hid (fun (w' : World) (hb : Below w1.heap.size w1 w') => TK.out.later (hb1.trans (hb.mono hb1.size)))
      have B1 := Lib.hid hb1
      clear hb1 HX HY TK
      go_upto_region 3 with fail
      obtain ⟨cnt, hcnt⟩ : ∃ cnt, k + 1 = cnt := ⟨_, rfl⟩
      have hc1 : 1 ≤ cnt := by omega
      have hc2 : cnt ≤ 12 := by omega
      have hcI : 1 + (k : Int) = (cnt : Int) := by rw [← hcnt]; exact Int.add_comm 1 _
      have HCI := Lib.hid hcI
      clear hcnt hcI
      go_cut [2] (fun v2 wx => v2 = .int .i64 (cnt : Int) ∧ wx = w1)
      case first =>
        have hz := HZ.out
        have hkI : (z : Int) % 12 = (k : Int) := by have := HK.out; omega
        have hw : wrap64 (k : Int) = (k : Int) := IntWalk.wrap64_in _ (by omega)
        have HKI := Lib.hid hkI
        have HW := Lib.hid hw
        clear hkI hw
        go_wp2_with fail
        go_meet
        exact ⟨by first | rw [HKI.out, HW.out, HCI.out] | rw [HKI.out, HCI.out] | (simp only [HKI.out, HW.out, HCI.out]), rfl⟩
      obtain ⟨rfl, ewc⟩ := hcut
      rw [ewc]
      clear ewc HZ HK HCI hk12
      obtain ⟨K, hK⟩ : ∃ K, keyB f n = K := ⟨_, rfl⟩
      have EX := Lib.hid (expand_ok n c n' c' (32 * cnt) f g a a' w1 (TA.out w1 (Below.refl _ _)) (XA.out w1 (Below.refl _ _)) hc hcm (by omega) (YA.out w1 (Below.refl _ _)) hc' hcm' (by omega) (by omega))
      have e32 : ((32 * cnt : Nat) : Int) = 32 * (cnt : Int) := by omega
      rw [hK, e32] at EX
      have HKK := Lib.hid hK
      clear hK
      go_wp2_with fail
      with_reducible refine EX.out.mono ?_
      rintro e w2 ⟨v2, rfl, o2, hb2⟩
      obtain ⟨a2, c2, rfl, hc2', hm2, bi2, _, hg2⟩ := o2.asMine
      obtain ⟨q, cur, rfl, hqc⟩ := hg2 (by omega)
      clear hqc hg2
      have B2 := Lib.hid hb2
      have X2 := Lib.hid bi2
      clear o2 hb2 bi2 EX
      go_wp2_with fail
      go_loopw [9, 10] (fun s9 s10 wr => ∃ i : Nat, i ≤ cnt ∧ s10 = .int .i64 (i : Int) ∧ (∃ al cl, s9 = .slice al (tl i) cl ∧ tl i ≤ cl ∧ BytesIn wr al (tl i) (tB K g n' i)) ∧ Below w2.heap.size w2 wr) (fun _ s10 _ => cnt - (intOf s10).toNat)
      case atStart => exact ⟨0, by omega, rfl, ⟨none, 0, rfl, Nat.le_refl _, nil_in _ _⟩, Below.refl _ _⟩
      case round =>
        obtain ⟨i, hi, rfl, ⟨al, cl, rfl, hcl, bil⟩, bel⟩ := hrel
        have BEL := Lib.hid (B2.out.trans (bel.mono B2.out.size))
        have BE2 := Lib.hid bel
        have XL := Lib.hid bil
        clear bel bil
        by_cases hlt : i < cnt
        · have hlI2 : (i : Int) < (cnt : Int) := by omega
          have htl := tl_le i
          have o3 : Own wr.heap.size (.slice (some ⟨wr.heap.size, 0, none⟩) 0 0) 0 (fun _ => 0#8) (wr.alloc (.cells #[] 5)) := Own.empty _ wr (Nat.le_refl _)
          have al3 : Below wr.heap.size wr (wr.alloc (.cells #[] 5)) := (Below.refl _ _).alloc (Nat.le_refl _) _
          obtain ⟨w3, hw3⟩ : ∃ w3, wr.alloc (.cells #[] 5) = w3 := ⟨_, rfl⟩
          rw [hw3] at o3 al3
          have O3 := Lib.hid o3
          have B3 := Lib.hid al3
          have HW3 := Lib.hid hw3
          have S3 := Lib.hid (src_in (bytesIn_ext XL.out al3) cl)
          clear o3 al3 hw3
          have hby : (i : Int) + 1 = n8 (BitVec.ofNat 8 (i + 1)) := by rw [n8_nat, BitVec.toNat_ofNat]; omega
          have HBY := Lib.hid (fun (w' : World) => (show Src Tryd.prog 1 22 (.slice (some ⟨w'.heap.size, 0, none⟩) 1 1) 1 (firsts (fun _ => BitVec.ofNat 8 (i + 1)) 1) (w'.alloc (.cells #[.int .u8 ((i : Int) + 1)] 5)) by rw [hby]; exact src_one_new _ _))
          clear hby
          go_wp2_with (first
            | (at_builtin; simp only [HW3.out]; refine wpList_append_bytes (o := ⟨some 55, _, _, _, _, _⟩) rfl _ _ 22 rfl rfl rfl O3.out S3.out (by omega) ?_; intro v4 w4 o4 g4; have B4 := Lib.hid (B3.out.trans (g4.below O3.out)); have O4 := Lib.hid o4; have S4 := Lib.hid (src_in (YA.out w4 (BEL.out.trans (B4.out.mono BEL.out.size))) c'); clear o4 g4)
            | (at_builtin; refine wpList_append_bytes (o := ⟨some 57, _, _, _, _, _⟩) rfl _ _ 22 rfl rfl rfl O4.out S4.out (by omega) ?_; intro v5 w5 o5 g5; have B5 := Lib.hid (B4.out.trans (g5.below O4.out)); have O5 := Lib.hid o5; clear o5 g5)
            | (at_builtin; refine wpList_append_bytes (o := ⟨some 62, _, _, _, _, _⟩) rfl _ _ 22 rfl rfl rfl (O5.out.later ((Below.refl _ _).alloc (Nat.le_refl _) _)) (HBY.out w5) (by omega) ?_; intro v6 w6 o6 g6; have B6 := Lib.hid ((B5.out.trans (((Below.refl w5.heap.size w5).alloc (Nat.le_refl _) (.cells #[.int .u8 ((i : Int) + 1)] 5)).mono B5.out.size)).trans (g6.below (O5.out.later ((Below.refl _ _).alloc (Nat.le_refl _) _)))); have O6 := Lib.hid o6; clear o6 g6)
            | fail)
          have o6 := O6.out
          rw [Nat.zero_add, joinb_zero] at o6
          obtain ⟨a6, c6, rfl, hc6, hm6, bi6, _, hg6⟩ := o6.asMine
          clear hg6 o6
          have B7 := Lib.hid (BEL.out.trans (B6.out.mono BEL.out.size))
          have MC := Lib.hid (mac_any n c (tl i + n' + 1) c6 f (joinb (joinb (tB K g n' i) (tl i) g) (tl i + n') (fun _ => BitVec.ofNat 8 (i + 1))) a a6 w6 (TA.out w6 B7.out) (XA.out w6 B7.out) hc hcm (by omega) bi6 hc6 hm6 (by omega))
          rw [HKK.out] at MC
          have et : macB K (joinb (joinb (tB K g n' i) (tl i) g) (tl i + n') (fun _ => BitVec.ofNat 8 (i + 1))) (tl i + n' + 1) = tB K g n' (i + 1) := rfl
          rw [et] at MC
          obtain ⟨t, ht⟩ : ∃ t, tB K g n' (i + 1) = t := ⟨_, rfl⟩
          rw [ht] at MC
          have HT := Lib.hid ht
          have BE6 := Lib.hid (BE2.out.trans (B6.out.mono BE2.out.size))
          clear et ht bi6 hc6 hm6 O6 B6 O5 B5 O4 B4 S4 S3 O3 B3 HW3 HBY XL hcl
          with_reducible refine MC.out.mono ?_
          rintro e w7 ⟨rfl, hb7⟩
          have hal : Below w7.heap.size w7 (w7.alloc (.cells (bytesA t 32) 49)) := (Below.refl _ _).alloc (Nat.le_refl _) _
          have hal2 : (w7.alloc (.cells (bytesA t 32) 49)).heap[w7.heap.size]? = some (.cells (bytesA t 32) 49 (0, 0)) := heap_alloc_last _ _
          go_upto_region 12 with (first
            | (refine wpList_alloc_row (o := ⟨some 11, .alloc 49, _, _, _, _⟩) rfl 49 rfl _ zero_32 ?_)
            | (refine wpList_store_new (o := ⟨none, .store 49 (.tmp 11) (.tmp 63), _, _, _, _⟩) rfl 49 _ _ rfl (bytesA (fun _ => 0#8) 32) (bytesA t 32) _ rfl rfl rfl (by rw [bytesA_size]; kernel_rfl) (by rw [bytesA_size, bytesA_size]) (bytesA_one _ _) ?_))
          have B8 := Lib.hid (BE6.out.trans ((hb7.trans (hal.mono hb7.size)).mono BE6.out.size))
          obtain ⟨w8, hw8⟩ : ∃ w8, w7.alloc (.cells (bytesA t 32) 49) = w8 := ⟨_, rfl⟩
          rw [hw8] at hal2 B8
          simp only [hw8]
          generalize w7.heap.size = r at *
          have RW := Lib.hid hal2
          clear hal hal2 hw8 hb7 MC BE6 B7
          have hsl := run_mid w8 q (32 * i) (32 * i + 32) (32 * cnt) c2 (by omega) (by omega) hc2' (by omega)
          have ea : ((32 * i : Nat) : Int) = 32 * (i : Int) := by omega
          have eb : ((32 * i + 32 : Nat) : Int) = 32 * (i : Int) + 32 := by omega
          rw [ea, eb, show 32 * i + 32 - 32 * i = 32 by omega] at hsl
          clear ea eb
          have XN : Hid (BytesIn w8 (some ⟨q, 32 * i, none⟩) 32 t) := Lib.hid (bytesIn_congr (bytesIn_mid (bytesIn_ext X2.out B8.out) (by omega) (by omega)) (fun j hj => by rw [expB_block K g n' i j hj, HT.out]))
          have CS := Lib.hid (fun (w' : World) (hb : Below w8.heap.size w8 w') => conv_in t (some ⟨r, 0, none⟩) 32 32 w' (row_bytesIn ((hb.block r (lt_row RW.out)).trans RW.out) 32 (Nat.le_refl _) (by unfold maxLen; omega)))
          have CL := Lib.hid (fun (w' : World) (hb : Below w8.heap.size w8 w') => conv_in t (some ⟨q, 32 * i, none⟩) 32 (c2 - 32 * i) w' (bytesIn_ext XN.out hb))
          generalize strOf t 32 = ST at *
          go_upto_region 13 with fail
          clear hsl
          refine region_class1 4 (fun w' => Below w8.heap.size w8 w') mixedOrders (by kernel_rfl) (Below.refl _ _).drew rfl ?_
          refine wpQuiet_take (by rfl) (fun K hK => ⟨.slice (some ⟨r, 0, none⟩) 32 32, fun w2' hw2 => ?_, hK _ ?_⟩)
          · have hall := run_arr32_all w2' r
            clear hw2
            go_simp
          clear hK K
          simp only [Act.put, List.setIfInBounds_toArray, List.set_cons_succ, List.set_cons_zero]
          refine wpQuiet_take (by rfl) (fun K hK => ⟨.string ST, fun w2' hw2 => ?_, hK _ ?_⟩)
          · have cs := CS.out w2' hw2
            clear hw2
            go_simp
          clear hK K
          simp only [Act.put, List.setIfInBounds_toArray, List.set_cons_succ, List.set_cons_zero]
          refine wpQuiet_take (by rfl) (fun K hK => ⟨.slice (some ⟨q, 32 * i, none⟩) 32 (c2 - 32 * i), fun w2' hw2 => ?_, hK _ ?_⟩)
          · clear hw2; go_simp
          clear hK K
          simp only [Act.put, List.setIfInBounds_toArray, List.set_cons_succ, List.set_cons_zero]
          refine wpQuiet_take (by rfl) (fun K hK => ⟨.string ST, fun w2' hw2 => ?_, hK _ ?_⟩)
          · have cs := CL.out w2' hw2
            clear hw2
            go_simp
          clear hK K
          simp only [Act.put, List.setIfInBounds_toArray, List.set_cons_succ, List.set_cons_zero]
          refine wpQuiet_take0 ?_
          intro w9 hb9
          have B9 := Lib.hid (B8.out.trans (hb9.mono B8.out.size))
          have X9 := Lib.hid (bytesIn_ext XN.out hb9)
          clear hb9 CS CL B8 RW XN
          go_wp2_with fail
          go_roundw
          case rel =>
            refine ⟨i + 1, by omega, by go_num, ⟨some ⟨q, 32 * i, none⟩, c2 - 32 * i, by rw [tl_succ], by rw [tl_succ]; omega, ?_⟩, B9.out⟩
            rw [tl_succ, HT.out]
            exact X9.out
          case measure => (simp [intOf] <;> omega)
        · obtain rfl : i = cnt := by omega
          clear hlt hi XL hcl
          go_wp2_with fail
          go_ret
          exact ⟨rfl, B1.out.trans (BEL.out.mono B1.out.size)⟩
    · have hlI' : (300 : Int) < (n' : Int) := by omega
      go_wp2_with fail
      with_reducible refine (expands_any w1 (TK.out.later hb1)).mono ?_
      rintro e w2 ⟨rfl, hb2⟩
      go_wp2_with fail
      go_ret
      exact ⟨rfl, hb1.trans (hb2.mono hb1.size)⟩
  · have hlI : (3000 : Int) < (n : Int) := by omega
    go_wp2_with fail
    with_reducible refine (expands_any w1 (TK.out.later hb1)).mono ?_
    rintro e w2 ⟨rfl, hb2⟩
    go_wp2_with fail
    go_ret
    exact ⟨rfl, hb1.trans (hb2.mono hb1.size)⟩
set_option maxRecDepth 100000 in
theorem walk {H : Type} {enc : TypeId × Value → H} (w : World) (base : Nat) (v0 v1 v2 : Value) (d0 d1 d2 : DataW H) (p0 p1 p2 : List MemPlace)
    (k0 : Value.okWide Tryd.prog w .any base 22 v0) (k1 : Value.okWide Tryd.prog w .any base 22 v1) (k2 : Value.okWide Tryd.prog w .any base 3 v2)
    (h0 : DataW.Trod enc Tryd.prog w 0 (fun _ => true) true 22 v0 d0 p0) (h1 : DataW.Trod enc Tryd.prog w 0 (fun _ => true) true 22 v1 d1 p1) (h2 : DataW.Trod enc Tryd.prog w 0 (fun _ => true) true 3 v2 d2 p2) (tab : TabK w) :
    Calls Tryd.prog 7 #[v0, v1, v2] w fun e w' => e = .returned (.bool true) ∧ Below w.heap.size w w' := by
  obtain ⟨a, n, c, f, rfl, hb, hlc, hm⟩ := open_bytes k0 h0
  obtain ⟨a', n', c', g, rfl, hb', hlc', hm'⟩ := open_bytes k1 h1
  obtain ⟨x, rfl, rfl, rfl, wx⟩ := open_int Tryd.underlying3 k2 h2
  exact law_any a a' n c n' c' f g x w tab hb hlc hm hb' hlc' hm'
set_option maxRecDepth 100000 in
theorem lifted (os : Os) (started : os.Started) (H : Type) (enc : TypeId × Value → H) :
    ReturnsInHanded {} Tryd.checked os 7 .any (fun w args => (Rows.hkdfBlocksSpec.pre enc Tryd.prog Tryd.f7 [] false w args ∧ laidMetH Tryd.prog laids w) ∧ sizedMet enc Tryd.prog Tryd.f7 (OpenSpec.ofChange Rows.hkdfBlocksSpec) false w args)
      (Rows.hkdfBlocksSpec.post enc Tryd.prog Tryd.f7 false true false false) := by
  refine returnsInHanded_of_change_and (C := Tryd.checked) (X := fun w _ => laidMetH Tryd.prog laids w) (fun _ _ _ hh h => h.of_heap hh) own started (by kernel_rfl) Tryd.func7
    (ChangeSpec.witness_shaped (enc := enc) (C := Tryd.checked) (os := os) (X := fun w _ => laidMetH Tryd.prog laids w) false (World.doorLaid Tryd.prog 14 os) #[.slice none 0 0, .slice none 0 0, .int .i64 0] 8 rfl (World.shaped_of_RefB (by kernel_rfl) (by kernel_rfl)) (by kernel_rfl) (by kernel_rfl) (by kernel_rfl) (door_met os _)) ?_
  intro W base args ds gs before hval0 hW _ _ hL _
  have hval : ∀ (j : Nat) t v, Tryd.f7.params[j]? = some t → args[j]? = some v → Value.okWide Tryd.prog W .any base t v := hval0
  have hW' := hW
  obtain ⟨p, q, hA0, hV, rfl, hfz, hnd⟩ := hW
  have hA : DataW.TrodAll enc Tryd.prog W 0 (fun _ => true) true Tryd.f7.params.toList args.toList ds p := hA0
  rw [Tryd.params7] at hA hval
  obtain ⟨v0, vs0, d0, ds0, p0, q0, hargs, rfl, rfl, h0, r0⟩ := trodAll_cons hA
  obtain ⟨v1, vs1, d1, ds1, p1, q1, rfl, rfl, rfl, h1, r1⟩ := trodAll_cons r0
  obtain ⟨v2, vs2, d2, ds2, p2, q2, rfl, rfl, rfl, h2, r2⟩ := trodAll_cons r1
  obtain ⟨rfl, rfl, rfl⟩ := trodAll_nil r2
  obtain rfl : args = #[v0, v1, v2] := by cases args; simp_all
  obtain ⟨rfl, rfl⟩ := trodVars_none hV
  have k0 := h0
  have lt0 : ∀ x ∈ p0, x.block < W.heap.size := by obtain ⟨m, hm⟩ := k0; exact DataW.trod_lt m _ _ _ hm
  have k1 := h1
  have lt1 : ∀ x ∈ p1, x.block < W.heap.size := by obtain ⟨m, hm⟩ := k1; exact DataW.trod_lt m _ _ _ hm
  have k2 := h2
  have lt2 : ∀ x ∈ p2, x.block < W.heap.size := by obtain ⟨m, hm⟩ := k2; exact DataW.trod_lt m _ _ _ hm
  clear hA0 hval0
  refine (walk W base v0 v1 v2 d0 d1 d2 p0 p1 p2 (hval 0 22 v0 rfl rfl) (hval 1 22 v1 rfl rfl) (hval 2 3 v2 rfl rfl) k0 k1 k2 (tabK_of_laid hL)).mono fun e W' ⟨he, bel⟩ => ?_
  subst he
  exact ⟨_, rfl, _, _, _, [], _, [], hW', trodAll_mk1 (shut_bool Tryd.underlying4 _), (trodAll_cons_mk (Below.trod laidOut (by kernel_rfl) (of_decide_eq_true (by kernel_rfl)) k0 bel lt0) (trodAll_cons_mk (Below.trod laidOut (by kernel_rfl) (of_decide_eq_true (by kernel_rfl)) k1 bel lt1) (trodAll_cons_mk (Below.trod laidOut (by kernel_rfl) (of_decide_eq_true (by kernel_rfl)) k2 bel lt2) trodAll_mk0))), rfl, bel.frame _, fun h => by cases h⟩
theorem over : Rows.HkdfBlocksSaid :=
  OpenClaim.holds_of_wide 7 Tryd.f7 rfl rfl rfl rfl rfl rfl rfl ⟨rfl, rfl, rfl, rfl, rfl⟩ rfl rfl rfl rfl rfl (by kernel_rfl) Tryd.func7 (by kernel_rfl)
    (of_decide_eq_true (by kernel_rfl)) (by unfold Func.isWrapper; first | (rw [if_pos (by decide +kernel)]; kernel_rfl) | (rw [if_neg (by decide +kernel)]; exact ⟨rfl, rfl⟩))
    (fun os started H enc _ => lifted os started H enc)
theorem proved : Rows.HkdfBlocksCardSaid :=
  Claim7.holds_tied_plain_at .later [] [.data] true (true, "51514c4db4b86ac38101e61a085df83b691a39fd7844e7ee45d3e83372f213d6") false
    over (fun _ h => by cases h) (by kernel_rfl) (fun _ h => by cases h) hkdfBlocks_row_tie rfl ⟨rfl, rfl⟩ (by kernel_rfl) rfl
    (fun f fn hf hfn => by
      obtain rfl : f = 7 := Option.some.inj ((show Tryd.prog.funcNamed "rhyne/rhynelaw02.HkdfBlocks" = some 7 by kernel_rfl).symm.trans hf) |>.symm
      obtain rfl : fn = Tryd.f7 := (Option.some.inj (Tryd.func7.symm.trans hfn)).symm
      exact ⟨by kernel_rfl, fun j t ht => by
        rw [Tryd.params7] at ht
        have hm : t ∈ [22, 22, 3] := by simpa using Array.mem_of_getElem? ht
        have hall : ([22, 22, 3].all fun u => !Tryd.prog.wantsStandIn u) = true := by kernel_rfl
        exact (show Tryd.prog.wantsStandIn t = false by simpa using List.all_eq_true.1 hall t hm)⟩)
    (by kernel_rfl)
end Go.Proofs.YtbadcknchamimabDoor.hkdfBlocks
