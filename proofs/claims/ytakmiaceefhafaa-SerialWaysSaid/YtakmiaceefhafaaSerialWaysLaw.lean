/-
  Of three serials within a quarter of the round the order is one; a serial and what is half the round away are in no order; adding goes round. No conditions.
-/
import Derived.Test.YtakmiaceefhafaaRows
import Derived.Test.YtakmiaceefhafaaSerA
import Derived.WalkKit
import Derived.ProofKit
import Derived.OpenShut
import Derived.ShutString
import Derived.ChangeOld
import Derived.Below
import Derived.Deep.DeepCutAuto
import Derived.Deep.Upon
import Derived.Deep.AppendSrc
import Derived.SizedLaws
namespace Go.Proofs.Ytakmiaceefhafaa.serialWays
open Go Go.ChangeShapes Go.WideShapes Go.ChangeAt Go.RowKit Go.BigFrame
set_option linter.unusedVariables false
theorem own : ownKnob Try.prog.godebug = none := by kernel_rfl
theorem laidOut : laidOutB Try.prog = true := by kernel_rfl
open SerA
theorem add_ok (a n x : Int) (hx : (a + n) % 4294967296 = x) (w : World) (h0 : 0 ≤ a) (h1 : a < 4294967296) (h2 : 0 ≤ n) (h3 : n < 2147483648) :
    Calls Try.prog 6 #[.int .i64 a, .int .i64 n] w fun e w' => e = .returned (.tuple #[.int .i64 x, .int .i64 0]) ∧ w' = w := by
  subst hx
  refine (add_any a n w).mono ?_
  unfold addN addE
  rw [if_pos (by omega), if_pos (by omega)]
  exact fun _ _ h => h
theorem less_is (a b : Int) (x : Bool) (hx : decide (SerA.ahead a b) = x) (w : World) :
    Calls Try.prog 8 #[.int .i64 a, .int .i64 b] w fun e w' => e = .returned (.bool x) ∧ w' = w := by
  subst hx
  exact less_any a b w
theorem facts (A B C : Int) (ha0 : 0 ≤ A) (ha1 : A < 4294967296) (hb0 : 0 ≤ B) (hb1 : B < 1073741824) (hc0 : 0 ≤ C) (hc1 : C < 1073741824) :
    ((A + B) % 4294967296 + C) % 4294967296 = (A + (B + C)) % 4294967296 ∧ decide (SerA.ahead A ((A + B) % 4294967296)) = decide (0 < B) ∧
    decide (SerA.ahead ((A + B) % 4294967296) ((A + (B + C)) % 4294967296)) = decide (0 < C) ∧ decide (SerA.ahead A ((A + (B + C)) % 4294967296)) = decide (0 < B + C) ∧
    decide (SerA.ahead A (((A + 2147483647) % 4294967296 + 1) % 4294967296)) = false ∧ decide (SerA.ahead (((A + 2147483647) % 4294967296 + 1) % 4294967296) A) = false ∧
    decide (SerA.ahead A ((A + 2147483647) % 4294967296)) = true ∧ ¬ (((A + 2147483647) % 4294967296 + 1) % 4294967296 = A) := by
  refine ⟨by omega, ?_, ?_, ?_, ?_, ?_, ?_, by omega⟩
  · exact decide_eq_decide.2 (by unfold SerA.ahead; omega)
  · exact decide_eq_decide.2 (by unfold SerA.ahead; omega)
  · exact decide_eq_decide.2 (by unfold SerA.ahead; omega)
  · exact decide_eq_false (by unfold SerA.ahead; omega)
  · exact decide_eq_false (by unfold SerA.ahead; omega)
  · exact decide_eq_true (by unfold SerA.ahead; omega)
theorem low (x M : Int) (h0 : 0 < M) (h1 : M ≤ 4294967296) : ∃ A, wrap64 ((IntKind.u64.wrap x).tmod M) = A ∧ 0 ≤ A ∧ A < M := by
  have h2 : 0 ≤ IntKind.u64.wrap x := by rw [wrap_n64]; exact n64_nonneg _
  refine ⟨_, rfl, ?_⟩
  generalize IntKind.u64.wrap x = y at *
  have h3 : y.tmod M = y % M := Int.tmod_eq_emod_of_nonneg h2
  rw [h3]
  have h4 := Int.emod_nonneg y (b := M) (by omega)
  have h5 := Int.emod_lt_of_pos y h0
  have h6 : wrap64 (y % M) = y % M := by unfold wrap64; omega
  rw [h6]; exact ⟨h4, h5⟩
set_option maxRecDepth 100000 in
theorem walk {H : Type} {enc : TypeId × Value → H} (w : World) (base : Nat) (v0 v1 v2 : Value) (d0 d1 d2 : DataW H) (p0 p1 p2 : List MemPlace)
    (k0 : Value.okWide Try.prog w .any base 3 v0) (k1 : Value.okWide Try.prog w .any base 3 v1) (k2 : Value.okWide Try.prog w .any base 3 v2)
    (h0 : DataW.Trod enc Try.prog w 0 (fun _ => true) true 3 v0 d0 p0) (h1 : DataW.Trod enc Try.prog w 0 (fun _ => true) true 3 v1 d1 p1) (h2 : DataW.Trod enc Try.prog w 0 (fun _ => true) true 3 v2 d2 p2) :
    Calls Try.prog 4 #[v0, v1, v2] w fun e w' => e = .returned (.bool true) ∧ Below w.heap.size w w' := by
  obtain ⟨a, rfl, rfl, rfl, wx⟩ := open_int Try.underlying3 k0 h0
  obtain ⟨b, rfl, rfl, rfl, wy⟩ := open_int Try.underlying3 k1 h1
  obtain ⟨c, rfl, rfl, rfl, wz⟩ := open_int Try.underlying3 k2 h2
  obtain ⟨A, hA, ha0, ha1⟩ := low a 4294967296 (by omega) (by omega)
  obtain ⟨B, hB, hb0, hb1⟩ := low b 1073741824 (by omega) (by omega)
  obtain ⟨C, hC, hc0, hc1⟩ := low c 1073741824 (by omega) (by omega)
  obtain ⟨f0, f1, f2, f3, f4, f5, f6, f7⟩ := facts A B C ha0 ha1 hb0 hb1 hc0 hc1
  obtain ⟨X, hX⟩ : ∃ X, (A + B) % 4294967296 = X := ⟨_, rfl⟩
  obtain ⟨Y, hY⟩ : ∃ Y, (A + (B + C)) % 4294967296 = Y := ⟨_, rfl⟩
  obtain ⟨U, hU⟩ : ∃ U, (A + 2147483647) % 4294967296 = U := ⟨_, rfl⟩
  obtain ⟨V, hV⟩ : ∃ V, (U + 1) % 4294967296 = V := ⟨_, rfl⟩
  obtain ⟨b1, hb⟩ : ∃ b1, decide (0 < B) = b1 := ⟨_, rfl⟩
  obtain ⟨b2, hc⟩ : ∃ b2, decide (0 < C) = b2 := ⟨_, rfl⟩
  obtain ⟨b3, hd⟩ : ∃ b3, decide (0 < B + C) = b3 := ⟨_, rfl⟩
  rw [hX, hY] at f0
  rw [hX] at f1
  rw [hX, hY] at f2
  rw [hY] at f3
  rw [hU, hV] at f4 f5 f7
  rw [hU] at f6
  have x0 : 0 ≤ X ∧ X < 4294967296 ∧ 0 ≤ U ∧ U < 4294967296 := by omega
  have F0 := Lib.hid f0
  have F1 := Lib.hid f1
  have F2 := Lib.hid f2
  have F3 := Lib.hid f3
  have F4 := Lib.hid f4
  have F5 := Lib.hid f5
  have F6 := Lib.hid f6
  have HX := Lib.hid hX
  have HY := Lib.hid hY
  have HU := Lib.hid hU
  have HV := Lib.hid hV
  obtain ⟨x0, x1, x2, x3⟩ := x0
  have s0 : 0 ≤ B + C := by omega
  have s1 : B + C < 2147483648 := by omega
  clear f0 f1 f2 f3 f4 f5 f6 hX hY hU hV wx wy wz
  go_enter Try.func4, Try.ntmps4
  go_wp2_with fail
  with_reducible refine (add_ok A B X HX.out w ha0 ha1 hb0 (by omega)).mono ?_
  rintro e w' ⟨rfl, rfl⟩
  go_wp2_with fail
  with_reducible refine (add_ok X C Y F0.out _ x0 x1 hc0 (by omega)).mono ?_
  rintro e w' ⟨rfl, rfl⟩
  go_wp2_with fail
  with_reducible refine (add_ok A (B + C) Y HY.out _ ha0 ha1 s0 s1).mono ?_
  rintro e w' ⟨rfl, rfl⟩
  go_wp2_with fail
  with_reducible refine (add_ok A 2147483647 U HU.out _ ha0 ha1 (by omega) (by omega)).mono ?_
  rintro e w' ⟨rfl, rfl⟩
  go_wp2_with fail
  with_reducible refine (add_ok U 1 V HV.out _ x2 x3 (by omega) (by omega)).mono ?_
  rintro e w' ⟨rfl, rfl⟩
  go_wp2_with fail
  with_reducible refine (rounds_any _).mono ?_
  rintro e w' ⟨rfl, rfl⟩
  go_wp2_with fail
  with_reducible refine (less_is A X _ (F1.out.trans hb) _).mono ?_
  rintro e w' ⟨rfl, rfl⟩
  go_wp2_with fail
  with_reducible refine (less_is X Y _ (F2.out.trans hc) _).mono ?_
  rintro e w' ⟨rfl, rfl⟩
  go_wp2_with fail
  with_reducible refine (less_is A Y _ (F3.out.trans hd) _).mono ?_
  rintro e w' ⟨rfl, rfl⟩
  go_wp2_with fail
  with_reducible refine (less_is A V _ F4.out _).mono ?_
  rintro e w' ⟨rfl, rfl⟩
  go_wp2_with fail
  with_reducible refine (less_is V A _ F5.out _).mono ?_
  rintro e w' ⟨rfl, rfl⟩
  go_wp2_with fail
  with_reducible refine (less_is A U _ F6.out _).mono ?_
  rintro e w' ⟨rfl, rfl⟩
  go_wp2_with fail
  go_ret
  exact ⟨by simpa using f7, Below.refl _ _⟩
set_option maxRecDepth 100000 in
theorem lifted (os : Os) (started : os.Started) (H : Type) (enc : TypeId × Value → H) :
    ReturnsInHanded {} Try.checked os 4 .any (Rows.serialWaysSpec.pre6 enc Try.prog Try.f4 Rows.serialWaysRow.domain false) (Rows.serialWaysSpec.post enc Try.prog Try.f4 false true false false) := by
  refine returnsInHanded_of_change (C := Try.checked) own started (by kernel_rfl) Try.func4
    (ChangeSpec.witness6 (enc := enc) (C := Try.checked) false ⟨#[], #[.int .i64 0, .int .i64 0, .int .i64 0], []⟩ 8 (by kernel_rfl) (by kernel_rfl) (by kernel_rfl) (by kernel_rfl)) ?_
  intro W base args ds gs before hval0 hW hcnd _
  have hval : ∀ (j : Nat) t v, Try.f4.params[j]? = some t → args[j]? = some v → Value.okWide Try.prog W .any base t v := hval0
  have hW' := hW
  obtain ⟨p, q, hA0, hV, rfl, hfz, hnd⟩ := hW
  have hA : DataW.TrodAll enc Try.prog W 0 (fun _ => true) true Try.f4.params.toList args.toList ds p := hA0
  rw [Try.params4] at hA hval
  obtain ⟨v0, vs0, d0, ds0, p0, q0, hargs, rfl, rfl, h0, r0⟩ := trodAll_cons hA
  obtain ⟨v1, vs1, d1, ds1, p1, q1, rfl, rfl, rfl, h1, r1⟩ := trodAll_cons r0
  obtain ⟨v2, vs2, d2, ds2, p2, q2, rfl, rfl, rfl, h2, r2⟩ := trodAll_cons r1
  obtain ⟨rfl, rfl, rfl⟩ := trodAll_nil r2
  obtain rfl : args = #[v0, v1, v2] := by cases args; simp_all
  obtain ⟨rfl, rfl⟩ := trodVars_none hV
  have k0 := h0
  have lt0 : ∀ x ∈ p0, x.block < W.heap.size := by obtain ⟨m, hm⟩ := k0; exact DataW.trod_lt m _ _ _ hm
  have k1 := h1
  have lt1 : ∀ x ∈ p1, x.block < W.heap.size := by obtain ⟨m, hm⟩ := k1; exact DataW.trod_lt m _ _ _ hm
  have k2 := h2
  have lt2 : ∀ x ∈ p2, x.block < W.heap.size := by obtain ⟨m, hm⟩ := k2; exact DataW.trod_lt m _ _ _ hm
  clear hA0 hval0
  refine (walk W base v0 v1 v2 d0 d1 d2 p0 p1 p2 (hval 0 3 v0 rfl rfl) (hval 1 3 v1 rfl rfl) (hval 2 3 v2 rfl rfl) k0 k1 k2).mono fun e W' ⟨he, bel⟩ => ?_
  subst he
  exact ⟨_, rfl, _, _, _, [], _, [], hW', trodAll_mk1 (shut_bool Try.underlying4 _), (trodAll_cons_mk (Below.trod laidOut (by kernel_rfl) (of_decide_eq_true (by kernel_rfl)) k0 bel lt0) (trodAll_cons_mk (Below.trod laidOut (by kernel_rfl) (of_decide_eq_true (by kernel_rfl)) k1 bel lt1) (trodAll_cons_mk (Below.trod laidOut (by kernel_rfl) (of_decide_eq_true (by kernel_rfl)) k2 bel lt2) trodAll_mk0))), rfl, bel.frame _, fun h => by cases h⟩
theorem over : Rows.serialWaysRow.holds Try.pinned (OpenSpec.ofChange Rows.serialWaysSpec) :=
  OpenClaim.holds_of_wide 4 Try.f4 rfl rfl rfl rfl rfl rfl rfl ⟨rfl, rfl, rfl, rfl, rfl⟩ rfl rfl rfl rfl rfl (by kernel_rfl) Try.func4 (by kernel_rfl)
    (of_decide_eq_true (by kernel_rfl)) (by unfold Func.isWrapper; first | (rw [if_pos (by decide +kernel)]; kernel_rfl) | (rw [if_neg (by decide +kernel)]; exact ⟨rfl, rfl⟩))
    (fun os started H enc _ => lifted os started H enc)
theorem proved : Rows.SerialWaysSaid := over
end Go.Proofs.Ytakmiaceefhafaa.serialWays
