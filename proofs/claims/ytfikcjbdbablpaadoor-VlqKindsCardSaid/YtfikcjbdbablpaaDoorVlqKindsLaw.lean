/-
  One number of any kind has the same bytes, at the commit of COMMIT; the tables of math/bits hold what the program's text lays.
-/
import Derived.Test.YtfikcjbdbablpaaDoorRows
import Derived.Test.YtfikcjbdbablpaaDoorCards
import Derived.Test.YtfikcjbdbablpaaDoorTie
import Derived.Test.YtfikcjbdbablpaaDoorDoor
import Derived.Test.YtfikcjbdbablpaaDoorVlqD
import Derived.WalkKit
import Derived.ProofKit
import Derived.OpenShut
import Derived.ShutString
import Derived.ChangeOld
import Derived.Below
import Derived.Deep.DeepCutAuto
import Derived.Deep.Upon
import Derived.Deep.AppendSrc
import Derived.SevenTiedAt
import Derived.LaidMore
namespace Go.Proofs.YtfikcjbdbablpaaDoor.vlqKinds
open Go Go.ChangeShapes Go.WideShapes Go.ChangeAt Go.RowKit Go.BigFrame
set_option linter.unusedVariables false
theorem putE_small (y : BitVec 8) : putE (y.setWidth 64) = 0 := by
  unfold putE
  rw [if_pos (by rw [BitVec.toNat_setWidth]; omega)]
theorem putE_pos (m : Int) (h0 : 0 ≤ m) (h1 : m < 2147483648) : putE (BitVec.ofInt 64 m) = 0 := by
  unfold putE
  rw [if_pos]
  rw [BitVec.toNat_ofInt]
  omega
theorem putE_neg (m : Int) (h0 : m < 0) (h1 : -2147483648 ≤ m) : putE (BitVec.ofInt 64 m) = 5 := by
  unfold putE
  rw [if_neg]
  rw [BitVec.toNat_ofInt]
  omega
theorem ret_bool {a b : Bool} (h : a = b) : Ending.returned (.bool a) = .returned (.bool b) := by rw [h]
theorem conv_pos (m : Int) (h0 : 0 ≤ m) (h1 : m < 2147483648) : IntKind.i64.wrap m = m := by rw [IntKind.wrap_i64]; omega
set_option maxRecDepth 100000 in
set_option maxHeartbeats 8000000 in
theorem kinds_start (y : BitVec 8) (m : Int) (X : BitVec 64) (hm : IntKind.u64.wrap m = n64 X) (c : Int) (hc : putE X = c) (h0 : -2147483648 ≤ m) (h1 : m < 2147483648) (hs : m < 0 ∧ c = 5 ∨ 0 ≤ m ∧ c = 0) (w : World) (tab : Tab w) :
    Calls Tryd.prog 4 #[.int .u8 (n8 y), .int .i32 m] w fun e w' => e = .returned (.bool true) ∧ Below w.heap.size w w' := by
  have T0 := Lib.hid tab
  have C1 := Lib.hid (put_uint8_any y)
  have C2 := Lib.hid (put_int_any (n8 y) (y.setWidth 64) (conv_8_64 y))
  have C3 := Lib.hid (put_uint64_any (y.setWidth 64))
  have C4 := Lib.hid (put_int32_any m X hm)
  have C5 := Lib.hid (put_Ticks_any m X hm)
  have C6 := Lib.hid (put_int64_any m X hm)
  rw [putE_small] at C1 C2 C3
  rw [hc] at C4 C5 C6
  generalize putS (y.setWidth 64) = s1 at C1 C2 C3
  generalize putS X = s2 at C4 C5 C6
  clear tab hm hc
  have hy0 := n8_nonneg y
  have hy1 := n8_lt y
  rcases hs with ⟨hn, rfl⟩ | ⟨hp, rfl⟩
  all_goals
    go_enter Tryd.func4, Tryd.ntmps4
    go_wp2_with fail
    with_reducible refine (C1.out w T0.out).mono ?_
    rintro e w1 ⟨v1, rfl, b1, s1⟩
    have B1 := Lib.hid b1
    have S1 := Lib.hid s1
    clear b1 s1
    go_wp2_with fail
    with_reducible refine (C2.out w1 (T0.out.later B1.out)).mono ?_
    rintro e w2 ⟨v2, rfl, b2, s2⟩
    have B2 := Lib.hid (B1.out.trans (b2.mono B1.out.size))
    have S2 := Lib.hid (S1.out.later b2)
    have R2 := Lib.hid s2
    clear b2 s2 B1 S1
    go_wp2_with fail
    with_reducible refine (C3.out w2 (T0.out.later B2.out)).mono ?_
    rintro e w3 ⟨v3, rfl, b3, s3⟩
    have B3 := Lib.hid (B2.out.trans (b3.mono B2.out.size))
    have S3 := Lib.hid (S2.out.later b3)
    have R3 := Lib.hid (R2.out.later b3)
    have Q3 := Lib.hid s3
    clear b3 s3 B2 S2 R2
    go_wp2_with fail
    refine (counts_any w3 (T0.out.later B3.out)).mono ?_
    rintro e w4 ⟨rfl, b4⟩
    have B4 := Lib.hid (B3.out.trans (b4.mono B3.out.size))
    have c1 := (S3.out.later b4).now
    have c2 := (R3.out.later b4).now
    have c3 := (Q3.out.later b4).now
    clear b4 B3 S3 R3 Q3
    go_wp2_with fail
    clear c1 c2 c3
    with_reducible refine (C4.out w4 (T0.out.later B4.out)).mono ?_
    rintro e w5 ⟨v5, rfl, b5, s5⟩
    have B5 := Lib.hid (B4.out.trans (b5.mono B4.out.size))
    have S5 := Lib.hid s5
    clear b5 s5 B4
    go_wp2_with fail
    with_reducible refine (C5.out w5 (T0.out.later B5.out)).mono ?_
    rintro e w6 ⟨v6, rfl, b6, s6⟩
    have B6 := Lib.hid (B5.out.trans (b6.mono B5.out.size))
    have S6 := Lib.hid (S5.out.later b6)
    have R6 := Lib.hid s6
    clear b6 s6 B5 S5
    go_wp2_with fail
    with_reducible refine (C6.out w6 (T0.out.later B6.out)).mono ?_
    rintro e w7 ⟨v7, rfl, b7, s7⟩
    have B7 := Lib.hid (B6.out.trans (b7.mono B6.out.size))
    have c5 := (S6.out.later b7).now
    have c6 := (R6.out.later b7).now
    have c7 := s7.now
    clear b7 s7 B6 S6 R6
    go_wp2_with fail
    go_ret
    exact ⟨ret_bool (by simp; omega), B7.out⟩
set_option maxRecDepth 100000 in
theorem walk {H : Type} {enc : TypeId × Value → H} (w : World) (base : Nat) (v0 v1 : Value) (d0 d1 : DataW H) (p0 p1 : List MemPlace)
    (k0 : Value.okWide Tryd.prog w .any base 5 v0) (k1 : Value.okWide Tryd.prog w .any base 21 v1)
    (h0 : DataW.Trod enc Tryd.prog w 0 (fun _ => true) true 5 v0 d0 p0) (h1 : DataW.Trod enc Tryd.prog w 0 (fun _ => true) true 21 v1 d1 p1) (tab : Tab w) :
    Calls Tryd.prog 4 #[v0, v1] w fun e w' => e = .returned (.bool true) ∧ Below w.heap.size w w' := by
  obtain ⟨x, rfl, rfl, rfl, wx⟩ := open_int Tryd.underlying5 k0 h0
  obtain ⟨m, rfl, rfl, rfl, wm⟩ := open_int Tryd.underlying21 k1 h1
  have hm : -2147483648 ≤ m ∧ m ≤ 2147483647 := by simpa [Lit.wf, IntKind.min, IntKind.max, IntKind.signed, IntKind.bits] using wm
  rw [n8_of_wf' x wx]
  by_cases h : m < 0
  · exact kinds_start _ m (BitVec.ofInt 64 m) (wrap_n64 m) 5 (putE_neg m h hm.1) hm.1 (by omega) (.inl ⟨h, rfl⟩) w tab
  · exact kinds_start _ m (BitVec.ofInt 64 m) (wrap_n64 m) 0 (putE_pos m (by omega) (by omega)) hm.1 (by omega) (.inr ⟨by omega, rfl⟩) w tab
set_option maxRecDepth 100000 in
theorem lifted (os : Os) (started : os.Started) (H : Type) (enc : TypeId × Value → H) :
    ReturnsInHanded {} Tryd.checked os 4 .any (fun w args => (Rows.vlqKindsSpec.pre enc Tryd.prog Tryd.f4 [] false w args ∧ laidMetH Tryd.prog laids w) ∧ sizedMet enc Tryd.prog Tryd.f4 (OpenSpec.ofChange Rows.vlqKindsSpec) false w args)
      (Rows.vlqKindsSpec.post enc Tryd.prog Tryd.f4 false true false false) := by
  refine returnsInHanded_of_change_and (C := Tryd.checked) (X := fun w _ => laidMetH Tryd.prog laids w) (fun _ _ _ hh h => h.of_heap hh) own started (by kernel_rfl) Tryd.func4
    (ChangeSpec.witness_shaped (enc := enc) (C := Tryd.checked) (os := os) (X := fun w _ => laidMetH Tryd.prog laids w) false (World.doorLaid Tryd.prog 19 os) #[.int .u8 0, .int .i32 0] 8 rfl (World.shaped_of_RefB (by kernel_rfl) (by kernel_rfl)) (by kernel_rfl) (by kernel_rfl) (by kernel_rfl) (door_met os _)) ?_
  intro W base args ds gs before hval0 hW _ _ hL _
  have hval : ∀ (j : Nat) t v, Tryd.f4.params[j]? = some t → args[j]? = some v → Value.okWide Tryd.prog W .any base t v := hval0
  have hW' := hW
  obtain ⟨p, q, hA0, hV, rfl, hfz, hnd⟩ := hW
  have hA : DataW.TrodAll enc Tryd.prog W 0 (fun _ => true) true Tryd.f4.params.toList args.toList ds p := hA0
  rw [Tryd.params4] at hA hval
  obtain ⟨v0, vs0, d0, ds0, p0, q0, hargs, rfl, rfl, h0, r0⟩ := trodAll_cons hA
  obtain ⟨v1, vs1, d1, ds1, p1, q1, rfl, rfl, rfl, h1, r1⟩ := trodAll_cons r0
  obtain ⟨rfl, rfl, rfl⟩ := trodAll_nil r1
  obtain rfl : args = #[v0, v1] := by cases args; simp_all
  obtain ⟨rfl, rfl⟩ := trodVars_none hV
  have k0 := h0
  have lt0 : ∀ x ∈ p0, x.block < W.heap.size := by obtain ⟨m, hm⟩ := k0; exact DataW.trod_lt m _ _ _ hm
  have k1 := h1
  have lt1 : ∀ x ∈ p1, x.block < W.heap.size := by obtain ⟨m, hm⟩ := k1; exact DataW.trod_lt m _ _ _ hm
  clear hA0 hval0
  refine (walk W base v0 v1 d0 d1 p0 p1 (hval 0 5 v0 rfl rfl) (hval 1 21 v1 rfl rfl) k0 k1 (tab_of_laid hL)).mono fun e W' ⟨he, bel⟩ => ?_
  subst he
  exact ⟨_, rfl, _, _, _, [], _, [], hW', trodAll_mk1 (shut_bool Tryd.underlying4 _), (trodAll_cons_mk (Below.trod laidOut (by kernel_rfl) (of_decide_eq_true (by kernel_rfl)) k0 bel lt0) (trodAll_cons_mk (Below.trod laidOut (by kernel_rfl) (of_decide_eq_true (by kernel_rfl)) k1 bel lt1) trodAll_mk0)), rfl, bel.frame _, fun h => by cases h⟩
theorem over : Rows.VlqKindsSaid :=
  OpenClaim.holds_of_wide 4 Tryd.f4 rfl rfl rfl rfl rfl rfl rfl ⟨rfl, rfl, rfl, rfl, rfl⟩ rfl rfl rfl rfl rfl (by kernel_rfl) Tryd.func4 (by kernel_rfl)
    (of_decide_eq_true (by kernel_rfl)) (by unfold Func.isWrapper; first | (rw [if_pos (by decide +kernel)]; kernel_rfl) | (rw [if_neg (by decide +kernel)]; exact ⟨rfl, rfl⟩))
    (fun os started H enc _ => lifted os started H enc)
theorem proved : Rows.VlqKindsCardSaid :=
  Claim7.holds_tied_plain_at .later [] [.data, .data] true (true, "e64395a9766b199dc9aae543bb771f0a2c891cedd0dc0b094b7c817878d5574e") false
    over (fun _ h => by cases h) (by kernel_rfl) (fun _ h => by cases h) vlqKinds_row_tie rfl ⟨rfl, rfl⟩ (by kernel_rfl) rfl
    (fun f fn hf hfn => by
      obtain rfl : f = 4 := Option.some.inj ((show Tryd.prog.funcNamed "rhyne/rhynelaw07.VlqKinds" = some 4 by kernel_rfl).symm.trans hf) |>.symm
      obtain rfl : fn = Tryd.f4 := (Option.some.inj (Tryd.func4.symm.trans hfn)).symm
      exact ⟨by kernel_rfl, fun j t ht => by
        rw [Tryd.params4] at ht
        have hm : t ∈ [5, 21] := by simpa using Array.mem_of_getElem? ht
        have hall : ([5, 21].all fun u => !Tryd.prog.wantsStandIn u) = true := by kernel_rfl
        exact (show Tryd.prog.wantsStandIn t = false by simpa using List.all_eq_true.1 hall t hm)⟩)
    (by kernel_rfl)
end Go.Proofs.YtfikcjbdbablpaaDoor.vlqKinds
