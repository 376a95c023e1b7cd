/-
  Two hashes do not know of one another; written the same bytes, in other parts, they tell the same sum, at the commit of COMMIT; the table of sha's constants holds what the program's text lays.
-/
import Derived.Test.YtcdgpnfiimlnbaaDoorRows
import Derived.Test.YtcdgpnfiimlnbaaDoorCards
import Derived.Test.YtcdgpnfiimlnbaaDoorTie
import Derived.Test.YtcdgpnfiimlnbaaDoorShaDoor
import Derived.Test.YtcdgpnfiimlnbaaDoorShaM
import Derived.WalkKit
import Derived.ProofKit
import Derived.OpenShut
import Derived.ShutString
import Derived.ChangeOld
import Derived.Below
import Derived.Deep.DeepCutAuto
import Derived.Deep.Upon
import Derived.Deep.AppendSrc
import Derived.SevenTiedAt
import Derived.LaidMore
import Derived.SizedLaws
import Derived.Lib.SmallJoins
namespace Go.Proofs.YtcdgpnfiimlnbaaDoor.shaTwo
open Go Go.ChangeShapes Go.WideShapes Go.ChangeAt Go.RowKit Go.BigFrame
set_option linter.unusedVariables false
set_option maxRecDepth 100000 in
set_option maxHeartbeats 16000000 in
theorem two_any (a a' : Option Addr) (n c n' c' : Nat) (f g : Nat → BitVec 8) (cut : Int) (w : World) (T : TabK w) (hx : BytesIn w a n f) (hc : n ≤ c) (hcm : c ≤ maxLen) (hy : BytesIn w a' n' g) (hc' : n' ≤ c') (hcm' : c' ≤ maxLen) :
    Calls Tryd.prog 6 #[.slice a n c, .int .i64 cut, .slice a' n' c'] w fun e w' => e = .returned (.bool true) ∧ Below w.heap.size w w' := by
  have HX := Lib.hid hx
  have HY := Lib.hid hy
  have TK := Lib.hid T
  have TL := T.lt
  clear hx hy T
  obtain ⟨z, hz⟩ : ∃ z : Nat, IntKind.u64.wrap cut = (z : Int) := ⟨(BitVec.ofInt 64 cut).toNat, by rw [wrap_n64, n64_nat]⟩
  go_enter Tryd.func6, Tryd.ntmps6
  have DG := Lib.hid (fun (w' : World) (hb : Below w.heap.size w w') => digests_any w' (TK.out.later hb))
  by_cases hbig : n ≤ 3000 ∧ n' ≤ 3000
  · obtain ⟨hl, hl'⟩ := hbig
    have hlI : ¬ (3000 : Int) < (n : Int) := by omega
    have hlI' : ¬ (3000 : Int) < (n' : Int) := by omega
    go_wp2_with fail
    with_reducible refine (DG.out w (Below.refl _ _)).mono ?_
    rintro e w1 ⟨rfl, hb1⟩
    obtain ⟨k, hk⟩ : ∃ k : Nat, z % (n + 1) = k := ⟨_, rfl⟩
    have hkn : k ≤ n := by have := Nat.mod_lt z (show 0 < n + 1 by omega); omega
    have hkI : (z : Int) % ((n : Int) + 1) = (k : Int) := by rw [← hk, Int.natCast_emod]; rfl
    have hw : wrap64 (k : Int) = (k : Int) := IntWalk.wrap64_in _ (by omega)
    have HW := Lib.hid hw
    have HKI := Lib.hid hkI
    clear hk hw hkI
    go_upto_region 3 with fail
    go_cut [1] (fun v1 wx => v1 = .int .i64 (k : Int) ∧ wx = w1)
    case first =>
      go_wp2_with fail
      go_meet
      exact ⟨by rw [HKI.out, HW.out], rfl⟩
    obtain ⟨rfl, ewc⟩ := hcut
    rw [ewc]
    clear hz ewc
    go_wp2_with fail
    with_reducible refine (new_any w1).mono ?_
    rintro e w2 ⟨rfl, hr1, hb2, hz2⟩
    go_wp2_with fail
    with_reducible refine (new_any w2).mono ?_
    rintro e w3 ⟨rfl, hr2, hb3, hz3⟩
    go_wp2_with fail
    with_reducible refine (new_any w3).mono ?_
    rintro e w4 ⟨rfl, hr3, hb4, hz4⟩
    rw [hz2] at hr2 hz3
    rw [hz3] at hr3 hz4 ⊢
    have E4 : Below w1.heap.size w1 w4 := (hb2.trans (hb3.mono (by omega))).trans (hb4.mono (by omega))
    have B4 : Below w.heap.size w w4 := hb1.trans (E4.mono hb1.size)
    have R1 := hashSt_zero f ((hr1.later hb3).later hb4)
    have R2 := hashSt_zero f (hr2.later hb4)
    have R3 := hashSt_zero g hr3
    have hs1 : w.heap.size ≤ w1.heap.size := hb1.size
    obtain ⟨x, hxd⟩ : ∃ x, w1.heap.size = x := ⟨_, rfl⟩
    rw [hxd] at R1 R2 R3 hz4 hs1 ⊢
    clear hr1 hr2 hr3 hb2 hb3 hb4 hz2 hz3 hxd E4 hb1
    clear w2 w3
    have hsu := fun w' => run_upto w' a k n c hkn hc
    obtain ⟨a2, hfr, ha2, ha3⟩ := run_from a k n c hkn
    have A2 := Lib.hid ha2
    have A3 := Lib.hid ha3
    have T4 := Lib.hid (TK.out.later B4)
    have S4 : Hid (HashSt w4 x f 0 ∧ HashSt w4 (x + 1) f 0 ∧ HashSt w4 (x + 1 + 1) g 0 ∧ Below w.heap.size w w4) := Lib.hid ⟨R1, R2, R3, B4⟩
    have hTx : 0 < x := by omega
    clear ha2 ha3 R1 R2 R3 B4
    -- x takes all
    have W1 := Lib.hid (write_any x 0 n c f f a w4 T4.out (by omega) S4.out.1 (bytesIn_ext HX.out S4.out.2.2.2) hc hcm (fun hm y hy => by have := bytesIn_lt HX.out hm y hy; omega) (by omega))
    go_wp2_with fail
    with_reducible refine W1.out.mono ?_
    rintro e w5 ⟨rfl, st5, ch5⟩
    rw [joinb_zero, Nat.zero_add] at st5
    have T5 := Lib.hid (T4.out.chg ch5 (by omega))
    have S5 : Hid (HashSt w5 x f n ∧ HashSt w5 (x + 1) f 0 ∧ HashSt w5 (x + 1 + 1) g 0 ∧ Below w.heap.size w w5) := Lib.hid ⟨st5, S4.out.2.1.chg ch5 (by omega), S4.out.2.2.1.chg ch5 (by omega), S4.out.2.2.2.trans (ch5.below hs1 S4.out.2.2.2.size)⟩
    clear st5 ch5 W1 T4 S4 hz4
    clear w4
    -- z takes more
    have W2 := Lib.hid (write_any (x + 1 + 1) 0 n' c' g g a' w5 T5.out (by omega) S5.out.2.2.1 (bytesIn_ext HY.out S5.out.2.2.2) hc' hcm' (fun hm y hy => by have := bytesIn_lt HY.out hm y hy; omega) (by omega))
    go_wp2_with fail
    with_reducible refine W2.out.mono ?_
    rintro e w6 ⟨rfl, st6, ch6⟩
    rw [joinb_zero, Nat.zero_add] at st6
    have T6 := Lib.hid (T5.out.chg ch6 (by omega))
    have S6 : Hid (HashSt w6 x f n ∧ HashSt w6 (x + 1) f 0 ∧ HashSt w6 (x + 1 + 1) g n' ∧ Below w.heap.size w w6) := Lib.hid ⟨S5.out.1.chg ch6 (by omega), S5.out.2.1.chg ch6 (by omega), st6, S5.out.2.2.2.trans (ch6.below (by omega) S5.out.2.2.2.size)⟩
    clear st6 ch6 W2 T5 S5
    clear w5
    -- y takes the first part
    have W3 := Lib.hid (write_any (x + 1) 0 k c f f a w6 T6.out (by omega) S6.out.2.1 (bytesIn_upto (bytesIn_ext HX.out S6.out.2.2.2) hkn) (by omega) hcm (fun hm y hy => by have := bytesIn_lt HX.out (by omega) y hy; omega) (by omega))
    go_wp2_with fail
    with_reducible refine W3.out.mono ?_
    rintro e w7 ⟨rfl, st7, ch7⟩
    rw [joinb_zero, Nat.zero_add] at st7
    have T7 := Lib.hid (T6.out.chg ch7 (by omega))
    have S7 : Hid (HashSt w7 x f n ∧ HashSt w7 (x + 1) f k ∧ HashSt w7 (x + 1 + 1) g n' ∧ Below w.heap.size w w7) := Lib.hid ⟨S6.out.1.chg ch7 (by omega), st7, S6.out.2.2.1.chg ch7 (by omega), S6.out.2.2.2.trans (ch7.below (by omega) S6.out.2.2.2.size)⟩
    clear st7 ch7 W3 T6 S6
    clear w6
    -- z takes all
    have W4 := Lib.hid (write_any (x + 1 + 1) n' n c g f a w7 T7.out (by omega) S7.out.2.2.1 (bytesIn_ext HX.out S7.out.2.2.2) hc hcm (fun hm y hy => by have := bytesIn_lt HX.out hm y hy; omega) (by omega))
    go_wp2_with fail
    with_reducible refine W4.out.mono ?_
    rintro e w8 ⟨rfl, st8, ch8⟩
    have T8 := Lib.hid (T7.out.chg ch8 (by omega))
    have S8 : Hid (HashSt w8 x f n ∧ HashSt w8 (x + 1) f k ∧ HashSt w8 (x + 1 + 1) (joinb g n' f) (n' + n) ∧ Below w.heap.size w w8) := Lib.hid ⟨S7.out.1.chg ch8 (by omega), S7.out.2.1.chg ch8 (by omega), st8, S7.out.2.2.2.trans (ch8.below (by omega) S7.out.2.2.2.size)⟩
    clear st8 ch8 W4 T7 S7
    clear w7
    -- y takes the rest
    have W5 := Lib.hid (write_any (x + 1) k (n - k) (c - k) f (fun i => f (k + i)) a2 w8 T8.out (by omega) S8.out.2.1 (bytesIn_from (bytesIn_ext HX.out S8.out.2.2.2) hkn hc A2.out) (by omega) (by omega)
      (apart_from (fun hm y hy => by have := bytesIn_lt HX.out hm y hy; omega) A2.out A3.out) (by omega))
    go_wp2_with fail
    with_reducible refine W5.out.mono ?_
    rintro e w9 ⟨rfl, st9, ch9⟩
    rw [joinb_parts, Nat.add_sub_cancel' hkn] at st9
    have T9 := Lib.hid (T8.out.chg ch9 (by omega))
    have S9 : Hid (HashSt w9 x f n ∧ HashSt w9 (x + 1) f n ∧ HashSt w9 (x + 1 + 1) (joinb g n' f) (n' + n) ∧ Below w.heap.size w w9) := Lib.hid ⟨S8.out.1.chg ch9 (by omega), st9, S8.out.2.2.1.chg ch9 (by omega), S8.out.2.2.2.trans (ch9.below (by omega) S8.out.2.2.2.size)⟩
    clear st9 ch9 W5 T8 S8
    clear w8
    go_wp2_with fail
    have SX := Lib.hid (fun (w' : World) (hb : Below w9.heap.size w9 w') => sum_any (some ⟨x, 0, none⟩) n f w' (T9.out.later hb) (.inr ⟨x, rfl, S9.out.1.later hb⟩) (by omega))
    have SY := Lib.hid (fun (w' : World) (hb : Below w9.heap.size w9 w') => sum_any (some ⟨x + 1, 0, none⟩) n f w' (T9.out.later hb) (.inr ⟨x + 1, rfl, S9.out.2.1.later hb⟩) (by omega))
    have SZ := Lib.hid (fun (w' : World) (hb : Below w9.heap.size w9 w') => sum_any (some ⟨x + 1 + 1, 0, none⟩) (n' + n) (joinb g n' f) w' (T9.out.later hb) (.inr ⟨x + 1 + 1, rfl, S9.out.2.2.1.later hb⟩) (by omega))
    have SU := Lib.hid (fun (w' : World) (hb : Below w9.heap.size w9 w') => shaSum_any n c f a w' (T9.out.later hb) (bytesIn_ext HX.out (S9.out.2.2.2.trans (hb.mono S9.out.2.2.2.size))) hc hcm (by omega))
    have LX := Lib.hid (fun (w' : World) (hb : Below w9.heap.size w9 w') => len_any x n f w' (S9.out.1.later hb) (by omega))
    have LZ := Lib.hid (fun (w' : World) (hb : Below w9.heap.size w9 w') => len_any (x + 1 + 1) (n' + n) _ w' (S9.out.2.2.1.later hb) (by omega))
    have LZ2 := Lib.hid (fun (w' : World) (hb : Below w9.heap.size w9 w') => show Calls Tryd.prog 16 #[.pointer (some ⟨x + 1 + 1, 0, none⟩)] w' fun e w'' => e = .returned (.int .i64 ((n : Int) + (n' : Int))) ∧ w' = w'' by
      have h := LZ.out w' hb
      rwa [show ((n' + n : Nat) : Int) = (n : Int) + (n' : Int) by omega] at h)
    clear LZ
    have B9 := Lib.hid S9.out.2.2.2
    have HX9 := Lib.hid (bytesIn_ext HX.out B9.out)
    have HY9 := Lib.hid (bytesIn_ext HY.out B9.out)
    have TS := Lib.hid (fun (w' : World) (hb : Below w9.heap.size w9 w') => T9.out.later hb)
    clear S9 T9 HX HY
    have es : sumB kW startW f n = sumS f n := rfl
    obtain ⟨sm, hsm⟩ : ∃ sm, sumS f n = sm := ⟨_, rfl⟩
    obtain ⟨sz, hsz⟩ : ∃ sz, sumB kW startW (joinb g n' f) (n' + n) = sz := ⟨_, rfl⟩
    have HSZ := Lib.hid hsz
    have HSM := Lib.hid hsm
    rw [es, hsm] at SX SY
    rw [hsm] at SU
    rw [hsz] at SZ
    have EQ := Lib.hid (fun w' => eq32_same sm w')
    have EZ := Lib.hid (fun w' => eq32_same sz w')
    clear es hsm hsz
    have eq1 := EQ.out
    with_reducible refine (SX.out w9 (Below.refl _ _)).mono ?_
    rintro e w10 ⟨rfl, hb10⟩
    go_wp2_with fail
    with_reducible refine (SY.out w10 hb10).mono ?_
    rintro e w11 ⟨rfl, hb11'⟩
    have hb11 := hb10.trans (hb11'.mono hb10.size)
    clear hb11' hb10
    go_wp2_with fail
    with_reducible refine (SX.out w11 hb11).mono ?_
    rintro e w12 ⟨rfl, hb12'⟩
    have hb12 := hb11.trans (hb12'.mono hb11.size)
    clear hb12' hb11
    go_wp2_with fail
    with_reducible refine (SU.out w12 hb12).mono ?_
    rintro e w13 ⟨rfl, hb13'⟩
    have hb13 := hb12.trans (hb13'.mono hb12.size)
    clear hb13' hb12
    go_wp2_with fail
    with_reducible refine (SZ.out w13 hb13).mono ?_
    rintro e w14 ⟨rfl, hb14'⟩
    have hb14 := hb13.trans (hb14'.mono hb13.size)
    clear hb14' hb13
    -- the two, put together anew
    have hal : Below w14.heap.size w14 (w14.alloc (.cells #[] 5)) := (Below.refl _ _).alloc (Nat.le_refl _) _
    have o0 := Own.empty (B := w14.heap.size) g w14 (Nat.le_refl _)
    have HAL := Lib.hid hal
    have O0 := Lib.hid o0
    have S0 := Lib.hid (src_in (bytesIn_ext HY9.out (hb14.trans (hal.mono hb14.size))) c')
    have HB14 := Lib.hid hb14
    clear hal o0 hb14
    go_wp2_with (first
      | (at_builtin; refine wpList_append_bytes_g (o := ⟨some 70, _, _, _, _, _⟩) (by rfl) _ _ 22 (by rfl) (by rfl) (by rfl) O0.out S0.out (by omega) ?_; intro v1 w15 o15 g15; have b15 := Lib.hid (HAL.out.trans (g15.below O0.out)); have O15 := Lib.hid o15; have S15 := Lib.hid (src_in (bytesIn_ext HX9.out (HB14.out.trans (b15.out.mono HB14.out.size))) c); clear o15 g15)
      | (at_builtin; refine wpList_append_bytes_g (o := ⟨some 72, _, _, _, _, _⟩) (by rfl) _ _ 22 (by rfl) (by rfl) (by rfl) O15.out S15.out (by omega) ?_; intro v2 w16 o16 g16; have b16 := Lib.hid (b15.out.trans (g16.below O15.out)); have O16 := Lib.hid o16; clear o16 g16)
      | fail)
    obtain ⟨a6, c6, rfl, hc6, hm6, bi6⟩ := O16.out.asBytes
    have hb16 := HB14.out.trans (b16.out.mono HB14.out.size)
    have SJ := shaSum_any (0 + n' + n) c6 _ a6 w16 (TS.out w16 hb16) bi6 hc6 hm6 (by omega)
    have ej : sumS (joinb (joinb g 0 g) (0 + n') f) (0 + n' + n) = sz := by rw [joinb_zero, Nat.zero_add]; exact HSZ.out
    rw [ej] at SJ
    have SJH := Lib.hid SJ
    have HB16 := Lib.hid hb16
    clear O0 S0 HAL HB14 O15 S15 b15 O16 b16 hc6 hm6 bi6 hb16 SJ ej
    with_reducible refine SJH.out.mono ?_
    rintro e w17 ⟨rfl, hb17'⟩
    have hb17 := HB16.out.trans (hb17'.mono HB16.out.size)
    have eq2 := EZ.out
    clear hb17' HB16 SJH
    go_wp2_with fail
    with_reducible refine (LX.out w17 hb17).mono ?_
    rintro e w18 ⟨rfl, rfl⟩
    go_wp2_with fail
    with_reducible refine (LZ2.out w17 hb17).mono ?_
    rintro e w18 ⟨rfl, rfl⟩
    go_wp2_with fail
    go_ret
    exact ⟨rfl, B9.out.trans (hb17.mono B9.out.size)⟩
  · by_cases hl : n ≤ 3000
    · have hlI : ¬ (3000 : Int) < (n : Int) := by omega
      have hlI' : (3000 : Int) < (n' : Int) := by omega
      go_wp2_with fail
      with_reducible refine (DG.out w (Below.refl _ _)).mono ?_
      rintro e w1 ⟨rfl, hb1⟩
      go_wp2_with fail
      with_reducible refine (DG.out w1 hb1).mono ?_
      rintro e w2 ⟨rfl, hb2⟩
      go_wp2_with fail
      go_ret
      exact ⟨rfl, hb1.trans (hb2.mono hb1.size)⟩
    · have hlI : (3000 : Int) < (n : Int) := by omega
      go_wp2_with fail
      with_reducible refine (DG.out w (Below.refl _ _)).mono ?_
      rintro e w1 ⟨rfl, hb1⟩
      go_wp2_with fail
      with_reducible refine (DG.out w1 hb1).mono ?_
      rintro e w2 ⟨rfl, hb2⟩
      go_wp2_with fail
      go_ret
      exact ⟨rfl, hb1.trans (hb2.mono hb1.size)⟩
set_option maxRecDepth 100000 in
theorem walk {H : Type} {enc : TypeId × Value → H} (w : World) (base : Nat) (v0 v1 v2 : Value) (d0 d1 d2 : DataW H) (p0 p1 p2 : List MemPlace)
    (k0 : Value.okWide Tryd.prog w .any base 22 v0) (k1 : Value.okWide Tryd.prog w .any base 3 v1) (k2 : Value.okWide Tryd.prog w .any base 22 v2)
    (h0 : DataW.Trod enc Tryd.prog w 0 (fun _ => true) true 22 v0 d0 p0) (h1 : DataW.Trod enc Tryd.prog w 0 (fun _ => true) true 3 v1 d1 p1) (h2 : DataW.Trod enc Tryd.prog w 0 (fun _ => true) true 22 v2 d2 p2) (tab : TabK w) :
    Calls Tryd.prog 6 #[v0, v1, v2] w fun e w' => e = .returned (.bool true) ∧ Below w.heap.size w w' := by
  obtain ⟨a, n, c, f, rfl, hb, hlc, hm⟩ := open_bytes k0 h0
  obtain ⟨x, rfl, rfl, rfl, wx⟩ := open_int Tryd.underlying3 k1 h1
  obtain ⟨a', n', c', g, rfl, hb', hlc', hm'⟩ := open_bytes k2 h2
  exact two_any a a' n c n' c' f g x w tab hb hlc hm hb' hlc' hm'
set_option maxRecDepth 100000 in
theorem lifted (os : Os) (started : os.Started) (H : Type) (enc : TypeId × Value → H) :
    ReturnsInHanded {} Tryd.checked os 6 .any (fun w args => (Rows.shaTwoSpec.pre enc Tryd.prog Tryd.f6 [] false w args ∧ laidMetH Tryd.prog laids w) ∧ sizedMet enc Tryd.prog Tryd.f6 (OpenSpec.ofChange Rows.shaTwoSpec) false w args)
      (Rows.shaTwoSpec.post enc Tryd.prog Tryd.f6 false true false false) := by
  refine returnsInHanded_of_change_and (C := Tryd.checked) (X := fun w _ => laidMetH Tryd.prog laids w) (fun _ _ _ hh h => h.of_heap hh) own started (by kernel_rfl) Tryd.func6
    (ChangeSpec.witness_shaped (enc := enc) (C := Tryd.checked) (os := os) (X := fun w _ => laidMetH Tryd.prog laids w) false (World.doorLaid Tryd.prog 14 os) #[.slice none 0 0, .int .i64 0, .slice none 0 0] 8 rfl (World.shaped_of_RefB (by kernel_rfl) (by kernel_rfl)) (by kernel_rfl) (by kernel_rfl) (by kernel_rfl) (door_met os _)) ?_
  intro W base args ds gs before hval0 hW _ _ hL _
  have hval : ∀ (j : Nat) t v, Tryd.f6.params[j]? = some t → args[j]? = some v → Value.okWide Tryd.prog W .any base t v := hval0
  have hW' := hW
  obtain ⟨p, q, hA0, hV, rfl, hfz, hnd⟩ := hW
  have hA : DataW.TrodAll enc Tryd.prog W 0 (fun _ => true) true Tryd.f6.params.toList args.toList ds p := hA0
  rw [Tryd.params6] at hA hval
  obtain ⟨v0, vs0, d0, ds0, p0, q0, hargs, rfl, rfl, h0, r0⟩ := trodAll_cons hA
  obtain ⟨v1, vs1, d1, ds1, p1, q1, rfl, rfl, rfl, h1, r1⟩ := trodAll_cons r0
  obtain ⟨v2, vs2, d2, ds2, p2, q2, rfl, rfl, rfl, h2, r2⟩ := trodAll_cons r1
  obtain ⟨rfl, rfl, rfl⟩ := trodAll_nil r2
  obtain rfl : args = #[v0, v1, v2] := by cases args; simp_all
  obtain ⟨rfl, rfl⟩ := trodVars_none hV
  have k0 := h0
  have lt0 : ∀ x ∈ p0, x.block < W.heap.size := by obtain ⟨m, hm⟩ := k0; exact DataW.trod_lt m _ _ _ hm
  have k1 := h1
  have lt1 : ∀ x ∈ p1, x.block < W.heap.size := by obtain ⟨m, hm⟩ := k1; exact DataW.trod_lt m _ _ _ hm
  have k2 := h2
  have lt2 : ∀ x ∈ p2, x.block < W.heap.size := by obtain ⟨m, hm⟩ := k2; exact DataW.trod_lt m _ _ _ hm
  clear hA0 hval0
  refine (walk W base v0 v1 v2 d0 d1 d2 p0 p1 p2 (hval 0 22 v0 rfl rfl) (hval 1 3 v1 rfl rfl) (hval 2 22 v2 rfl rfl) k0 k1 k2 (tabK_of_laid hL)).mono fun e W' ⟨he, bel⟩ => ?_
  subst he
  exact ⟨_, rfl, _, _, _, [], _, [], hW', trodAll_mk1 (shut_bool Tryd.underlying4 _), (trodAll_cons_mk (Below.trod laidOut (by kernel_rfl) (of_decide_eq_true (by kernel_rfl)) k0 bel lt0) (trodAll_cons_mk (Below.trod laidOut (by kernel_rfl) (of_decide_eq_true (by kernel_rfl)) k1 bel lt1) (trodAll_cons_mk (Below.trod laidOut (by kernel_rfl) (of_decide_eq_true (by kernel_rfl)) k2 bel lt2) trodAll_mk0))), rfl, bel.frame _, fun h => by cases h⟩
theorem over : Rows.ShaTwoSaid :=
  OpenClaim.holds_of_wide 6 Tryd.f6 rfl rfl rfl rfl rfl rfl rfl ⟨rfl, rfl, rfl, rfl, rfl⟩ rfl rfl rfl rfl rfl (by kernel_rfl) Tryd.func6 (by kernel_rfl)
    (of_decide_eq_true (by kernel_rfl)) (by unfold Func.isWrapper; first | (rw [if_pos (by decide +kernel)]; kernel_rfl) | (rw [if_neg (by decide +kernel)]; exact ⟨rfl, rfl⟩))
    (fun os started H enc _ => lifted os started H enc)
theorem proved : Rows.ShaTwoCardSaid :=
  Claim7.holds_tied_plain_at .later [] [.data] true (true, "087e57aef0719291e6b76ce2e7e1cc2c8340e26022a027d6faef561ff8c63583") false
    over (fun _ h => by cases h) (by kernel_rfl) (fun _ h => by cases h) shaTwo_row_tie rfl ⟨rfl, rfl⟩ (by kernel_rfl) rfl
    (fun f fn hf hfn => by
      obtain rfl : f = 6 := Option.some.inj ((show Tryd.prog.funcNamed "rhyne/rhynelaw01.ShaTwo" = some 6 by kernel_rfl).symm.trans hf) |>.symm
      obtain rfl : fn = Tryd.f6 := (Option.some.inj (Tryd.func6.symm.trans hfn)).symm
      exact ⟨by kernel_rfl, fun j t ht => by
        rw [Tryd.params6] at ht
        have hm : t ∈ [22, 3, 22] := by simpa using Array.mem_of_getElem? ht
        have hall : ([22, 3, 22].all fun u => !Tryd.prog.wantsStandIn u) = true := by kernel_rfl
        exact (show Tryd.prog.wantsStandIn t = false by simpa using List.all_eq_true.1 hall t hm)⟩)
    (by kernel_rfl)
end Go.Proofs.YtcdgpnfiimlnbaaDoor.shaTwo
