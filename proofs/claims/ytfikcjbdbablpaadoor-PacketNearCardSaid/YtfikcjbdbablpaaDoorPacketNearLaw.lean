/-
  A number's lowest bytes, as many as Bytes says, tell it to whoever got one from the acked one on, up to the one ahead of it, at the commit of COMMIT; the tables of math/bits hold what the program's text lays.
-/
import Derived.Test.YtfikcjbdbablpaaDoorRows
import Derived.Test.YtfikcjbdbablpaaDoorCards
import Derived.Test.YtfikcjbdbablpaaDoorTie
import Derived.Test.YtfikcjbdbablpaaDoorDoor
import Derived.Test.YtfikcjbdbablpaaDoorPackC
import Derived.Test.YtfikcjbdbablpaaDoorVlqG
import Derived.WalkKit
import Derived.ProofKit
import Derived.OpenShut
import Derived.ShutString
import Derived.ChangeOld
import Derived.Below
import Derived.Deep.DeepCutAuto
import Derived.Deep.Upon
import Derived.Deep.AppendSrc
import Derived.SevenTiedAt
import Derived.LaidMore
namespace Go.Proofs.YtfikcjbdbablpaaDoor.packetNear
open Go Go.ChangeShapes Go.WideShapes Go.ChangeAt Go.RowKit Go.BigFrame
set_option linter.unusedVariables false
set_option maxRecDepth 100000 in
set_option maxHeartbeats 8000000 in
theorem near_any (number far got : Int) (x z g : BitVec 64) (h1 : IntKind.u64.wrap number = n64 x) (h2 : IntKind.u64.wrap far = n64 z) (h3 : IntKind.u64.wrap got = n64 g) (w : World) :
    Calls Tryd.prog 12 #[.int .i64 number, .int .i64 far, .int .i64 got] w fun e w' => e = .returned (.bool true) ∧ Below w.heap.size w w' := by
  have hy0 := n64_nonneg (x &&& 4611686018427387903#64)
  have hy1 : n64 (x &&& 4611686018427387903#64) < 4611686018427387904 := by rw [n64_nat]; have := top_lt x; omega
  have hz0 := n64_nonneg z
  have hg0 := n64_nonneg g
  go_enter Tryd.func12, Tryd.ntmps12
  have acked : ∀ A F : Int, 1 ≤ F → F ≤ 2147483647 → (A = n64 (x &&& 4611686018427387903#64) - F ∧ -1 ≤ n64 (x &&& 4611686018427387903#64) - F ∨ A = -1 ∧ n64 (x &&& 4611686018427387903#64) - F ≤ -1) →
      -1 ≤ A ∧ A < n64 (x &&& 4611686018427387903#64) ∧ n64 (x &&& 4611686018427387903#64) - A ≤ 2147483647 := by omega
  have hf1 : 1 ≤ 1 + n64 z % 2147483647 := by omega
  have hf2 : 1 + n64 z % 2147483647 ≤ 2147483647 := by omega
  have Ack := Lib.hid acked
  clear acked hf1 hf2
  go_wp2_with fail
  · have hz := Ack.out (-1) (1 + n64 z % 2147483647) (by omega) (by omega) (by exact .inr ⟨rfl, by omega⟩)
    clear Ack
    obtain ⟨ha1, ha2, ha3⟩ := hz
    generalize n64 (x &&& 4611686018427387903#64) = N at *
    have gm0 : 0 ≤ n64 g % (N + 1) := Int.emod_nonneg _ (by omega)
    have gm1 : n64 g % (N + 1) < N + 1 := Int.emod_lt_of_pos _ (by omega)
    obtain hd | hd | hd | hd : N + 1 < 128 ∨ (128 ≤ N + 1 ∧ N + 1 < 32768) ∨ (32768 ≤ N + 1 ∧ N + 1 < 8388608) ∨ (8388608 ≤ N + 1 ∧ N + 1 < 2147483648) := by omega
    · with_reducible refine (bytes_1 N _ (by omega) (by omega) (by omega) (by omega) _).mono ?_
      rintro e w' ⟨rfl, rfl⟩
      go_wp2_with fail
      refine (heads_any w).mono ?_
      rintro e w1 ⟨rfl, b1⟩
      have B := Lib.hid b1
      clear b1
      go_wp2_with fail
      with_reducible refine (whole_1 N _ (by omega) (by omega) (by omega) (by omega) _).mono ?_
      rintro e w' ⟨rfl, rfl⟩
      go_wp2_with fail
      go_ret
      exact ⟨by first | rfl | simp, B.out⟩
    · with_reducible refine (bytes_2 N _ (by omega) (by omega) (by omega) (by omega) _).mono ?_
      rintro e w' ⟨rfl, rfl⟩
      go_wp2_with fail
      refine (heads_any w).mono ?_
      rintro e w1 ⟨rfl, b1⟩
      have B := Lib.hid b1
      clear b1
      go_wp2_with fail
      with_reducible refine (whole_2 N _ (by omega) (by omega) (by omega) (by omega) _).mono ?_
      rintro e w' ⟨rfl, rfl⟩
      go_wp2_with fail
      go_ret
      exact ⟨by first | rfl | simp, B.out⟩
    · with_reducible refine (bytes_3 N _ (by omega) (by omega) (by omega) (by omega) _).mono ?_
      rintro e w' ⟨rfl, rfl⟩
      go_wp2_with fail
      refine (heads_any w).mono ?_
      rintro e w1 ⟨rfl, b1⟩
      have B := Lib.hid b1
      clear b1
      go_wp2_with fail
      with_reducible refine (whole_3 N _ (by omega) (by omega) (by omega) (by omega) _).mono ?_
      rintro e w' ⟨rfl, rfl⟩
      go_wp2_with fail
      go_ret
      exact ⟨by first | rfl | simp, B.out⟩
    · with_reducible refine (bytes_4 N _ (by omega) (by omega) (by omega) (by omega) _).mono ?_
      rintro e w' ⟨rfl, rfl⟩
      go_wp2_with fail
      refine (heads_any w).mono ?_
      rintro e w1 ⟨rfl, b1⟩
      have B := Lib.hid b1
      clear b1
      go_wp2_with fail
      with_reducible refine (whole_4 N _ (by omega) (by omega) (by omega) (by omega) _).mono ?_
      rintro e w' ⟨rfl, rfl⟩
      go_wp2_with fail
      go_ret
      exact ⟨by first | rfl | simp, B.out⟩
  · have hz := Ack.out (n64 (x &&& 4611686018427387903#64) - (1 + n64 z % 2147483647)) (1 + n64 z % 2147483647) (by omega) (by omega) (by exact .inl ⟨rfl, by omega⟩)
    clear Ack
    generalize n64 (x &&& 4611686018427387903#64) - (1 + n64 z % 2147483647) = A at *
    obtain ⟨ha1, ha2, ha3⟩ := hz
    generalize n64 (x &&& 4611686018427387903#64) = N at *
    have gm0 : 0 ≤ n64 g % (N - A) := Int.emod_nonneg _ (by omega)
    have gm1 : n64 g % (N - A) < N - A := Int.emod_lt_of_pos _ (by omega)
    obtain hd | hd | hd | hd : N - A < 128 ∨ (128 ≤ N - A ∧ N - A < 32768) ∨ (32768 ≤ N - A ∧ N - A < 8388608) ∨ (8388608 ≤ N - A ∧ N - A < 2147483648) := by omega
    · with_reducible refine (bytes_1 N _ (by omega) (by omega) (by omega) (by omega) _).mono ?_
      rintro e w' ⟨rfl, rfl⟩
      go_wp2_with fail
      refine (heads_any w).mono ?_
      rintro e w1 ⟨rfl, b1⟩
      have B := Lib.hid b1
      clear b1
      go_wp2_with fail
      with_reducible refine (whole_1 N _ (by omega) (by omega) (by omega) (by omega) _).mono ?_
      rintro e w' ⟨rfl, rfl⟩
      go_wp2_with fail
      go_ret
      exact ⟨by first | rfl | simp, B.out⟩
    · with_reducible refine (bytes_2 N _ (by omega) (by omega) (by omega) (by omega) _).mono ?_
      rintro e w' ⟨rfl, rfl⟩
      go_wp2_with fail
      refine (heads_any w).mono ?_
      rintro e w1 ⟨rfl, b1⟩
      have B := Lib.hid b1
      clear b1
      go_wp2_with fail
      with_reducible refine (whole_2 N _ (by omega) (by omega) (by omega) (by omega) _).mono ?_
      rintro e w' ⟨rfl, rfl⟩
      go_wp2_with fail
      go_ret
      exact ⟨by first | rfl | simp, B.out⟩
    · with_reducible refine (bytes_3 N _ (by omega) (by omega) (by omega) (by omega) _).mono ?_
      rintro e w' ⟨rfl, rfl⟩
      go_wp2_with fail
      refine (heads_any w).mono ?_
      rintro e w1 ⟨rfl, b1⟩
      have B := Lib.hid b1
      clear b1
      go_wp2_with fail
      with_reducible refine (whole_3 N _ (by omega) (by omega) (by omega) (by omega) _).mono ?_
      rintro e w' ⟨rfl, rfl⟩
      go_wp2_with fail
      go_ret
      exact ⟨by first | rfl | simp, B.out⟩
    · with_reducible refine (bytes_4 N _ (by omega) (by omega) (by omega) (by omega) _).mono ?_
      rintro e w' ⟨rfl, rfl⟩
      go_wp2_with fail
      refine (heads_any w).mono ?_
      rintro e w1 ⟨rfl, b1⟩
      have B := Lib.hid b1
      clear b1
      go_wp2_with fail
      with_reducible refine (whole_4 N _ (by omega) (by omega) (by omega) (by omega) _).mono ?_
      rintro e w' ⟨rfl, rfl⟩
      go_wp2_with fail
      go_ret
      exact ⟨by first | rfl | simp, B.out⟩
set_option maxRecDepth 100000 in
theorem walk {H : Type} {enc : TypeId × Value → H} (w : World) (base : Nat) (v0 v1 v2 : Value) (d0 d1 d2 : DataW H) (p0 p1 p2 : List MemPlace)
    (k0 : Value.okWide Tryd.prog w .any base 3 v0) (k1 : Value.okWide Tryd.prog w .any base 3 v1) (k2 : Value.okWide Tryd.prog w .any base 3 v2)
    (h0 : DataW.Trod enc Tryd.prog w 0 (fun _ => true) true 3 v0 d0 p0) (h1 : DataW.Trod enc Tryd.prog w 0 (fun _ => true) true 3 v1 d1 p1) (h2 : DataW.Trod enc Tryd.prog w 0 (fun _ => true) true 3 v2 d2 p2) (tab : Tab w) :
    Calls Tryd.prog 12 #[v0, v1, v2] w fun e w' => e = .returned (.bool true) ∧ Below w.heap.size w w' := by
  obtain ⟨x, rfl, rfl, rfl, wx⟩ := open_int Tryd.underlying3 k0 h0
  obtain ⟨y, rfl, rfl, rfl, wy⟩ := open_int Tryd.underlying3 k1 h1
  obtain ⟨z, rfl, rfl, rfl, wz⟩ := open_int Tryd.underlying3 k2 h2
  exact near_any x y z _ _ _ (wrap_n64 x) (wrap_n64 y) (wrap_n64 z) w
set_option maxRecDepth 100000 in
theorem lifted (os : Os) (started : os.Started) (H : Type) (enc : TypeId × Value → H) :
    ReturnsInHanded {} Tryd.checked os 12 .any (fun w args => (Rows.packetNearSpec.pre enc Tryd.prog Tryd.f12 [] false w args ∧ laidMetH Tryd.prog laids w) ∧ sizedMet enc Tryd.prog Tryd.f12 (OpenSpec.ofChange Rows.packetNearSpec) false w args)
      (Rows.packetNearSpec.post enc Tryd.prog Tryd.f12 false true false false) := by
  refine returnsInHanded_of_change_and (C := Tryd.checked) (X := fun w _ => laidMetH Tryd.prog laids w) (fun _ _ _ hh h => h.of_heap hh) own started (by kernel_rfl) Tryd.func12
    (ChangeSpec.witness_shaped (enc := enc) (C := Tryd.checked) (os := os) (X := fun w _ => laidMetH Tryd.prog laids w) false (World.doorLaid Tryd.prog 19 os) #[.int .i64 0, .int .i64 0, .int .i64 0] 8 rfl (World.shaped_of_RefB (by kernel_rfl) (by kernel_rfl)) (by kernel_rfl) (by kernel_rfl) (by kernel_rfl) (door_met os _)) ?_
  intro W base args ds gs before hval0 hW _ _ hL _
  have hval : ∀ (j : Nat) t v, Tryd.f12.params[j]? = some t → args[j]? = some v → Value.okWide Tryd.prog W .any base t v := hval0
  have hW' := hW
  obtain ⟨p, q, hA0, hV, rfl, hfz, hnd⟩ := hW
  have hA : DataW.TrodAll enc Tryd.prog W 0 (fun _ => true) true Tryd.f12.params.toList args.toList ds p := hA0
  rw [Tryd.params12] at hA hval
  obtain ⟨v0, vs0, d0, ds0, p0, q0, hargs, rfl, rfl, h0, r0⟩ := trodAll_cons hA
  obtain ⟨v1, vs1, d1, ds1, p1, q1, rfl, rfl, rfl, h1, r1⟩ := trodAll_cons r0
  obtain ⟨v2, vs2, d2, ds2, p2, q2, rfl, rfl, rfl, h2, r2⟩ := trodAll_cons r1
  obtain ⟨rfl, rfl, rfl⟩ := trodAll_nil r2
  obtain rfl : args = #[v0, v1, v2] := by cases args; simp_all
  obtain ⟨rfl, rfl⟩ := trodVars_none hV
  have k0 := h0
  have lt0 : ∀ x ∈ p0, x.block < W.heap.size := by obtain ⟨m, hm⟩ := k0; exact DataW.trod_lt m _ _ _ hm
  have k1 := h1
  have lt1 : ∀ x ∈ p1, x.block < W.heap.size := by obtain ⟨m, hm⟩ := k1; exact DataW.trod_lt m _ _ _ hm
  have k2 := h2
  have lt2 : ∀ x ∈ p2, x.block < W.heap.size := by obtain ⟨m, hm⟩ := k2; exact DataW.trod_lt m _ _ _ hm
  clear hA0 hval0
  refine (walk W base v0 v1 v2 d0 d1 d2 p0 p1 p2 (hval 0 3 v0 rfl rfl) (hval 1 3 v1 rfl rfl) (hval 2 3 v2 rfl rfl) k0 k1 k2 (tab_of_laid hL)).mono fun e W' ⟨he, bel⟩ => ?_
  subst he
  exact ⟨_, rfl, _, _, _, [], _, [], hW', trodAll_mk1 (shut_bool Tryd.underlying4 _), (trodAll_cons_mk (Below.trod laidOut (by kernel_rfl) (of_decide_eq_true (by kernel_rfl)) k0 bel lt0) (trodAll_cons_mk (Below.trod laidOut (by kernel_rfl) (of_decide_eq_true (by kernel_rfl)) k1 bel lt1) (trodAll_cons_mk (Below.trod laidOut (by kernel_rfl) (of_decide_eq_true (by kernel_rfl)) k2 bel lt2) trodAll_mk0))), rfl, bel.frame _, fun h => by cases h⟩
theorem over : Rows.PacketNearSaid :=
  OpenClaim.holds_of_wide 12 Tryd.f12 rfl rfl rfl rfl rfl rfl rfl ⟨rfl, rfl, rfl, rfl, rfl⟩ rfl rfl rfl rfl rfl (by kernel_rfl) Tryd.func12 (by kernel_rfl)
    (of_decide_eq_true (by kernel_rfl)) (by unfold Func.isWrapper; first | (rw [if_pos (by decide +kernel)]; kernel_rfl) | (rw [if_neg (by decide +kernel)]; exact ⟨rfl, rfl⟩))
    (fun os started H enc _ => lifted os started H enc)
theorem proved : Rows.PacketNearCardSaid :=
  Claim7.holds_tied_plain_at .later [] [.data, .data] true (true, "e64395a9766b199dc9aae543bb771f0a2c891cedd0dc0b094b7c817878d5574e") false
    over (fun _ h => by cases h) (by kernel_rfl) (fun _ h => by cases h) packetNear_row_tie rfl ⟨rfl, rfl⟩ (by kernel_rfl) rfl
    (fun f fn hf hfn => by
      obtain rfl : f = 12 := Option.some.inj ((show Tryd.prog.funcNamed "rhyne/rhynelaw08.PacketNear" = some 12 by kernel_rfl).symm.trans hf) |>.symm
      obtain rfl : fn = Tryd.f12 := (Option.some.inj (Tryd.func12.symm.trans hfn)).symm
      exact ⟨by kernel_rfl, fun j t ht => by
        rw [Tryd.params12] at ht
        have hm : t ∈ [3, 3, 3] := by simpa using Array.mem_of_getElem? ht
        have hall : ([3, 3, 3].all fun u => !Tryd.prog.wantsStandIn u) = true := by kernel_rfl
        exact (show Tryd.prog.wantsStandIn t = false by simpa using List.all_eq_true.1 hall t hm)⟩)
    (by kernel_rfl)
end Go.Proofs.YtfikcjbdbablpaaDoor.packetNear
