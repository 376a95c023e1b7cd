/-
  Of all bytes and places Get tells what the chapter does, at the commit of COMMIT; the two tables of unicode/utf8 hold what the library's text lays.
-/
import Derived.Test.YtddpfbeclmgndaaDoorRows
import Derived.Test.YtddpfbeclmgndaaDoorCards
import Derived.Test.YtddpfbeclmgndaaDoorTie
import Derived.Test.YtddpfbeclmgndaaDoorNmDoor
import Derived.Test.YtddpfbeclmgndaaDoorNmT
import Derived.Test.YtddpfbeclmgndaaDoorOpenB
import Derived.Test.YtddpfbeclmgndaaDoorOpen
import Derived.Test.YtddpfbeclmgndaaDoorEq
import Derived.WalkKit
import Derived.ProofKit
import Derived.OpenShut
import Derived.ShutString
import Derived.ChangeOld
import Derived.Below
import Derived.Deep.DeepCutAuto
import Derived.Deep.Upon
import Derived.Deep.AppendSrc
import Derived.SevenTiedAt
import Derived.LaidMore
import Derived.SizedLaws
import Derived.Lib.SmallJoins
namespace Go.Proofs.YtddpfbeclmgndaaDoor.nameGets
open Go Go.ChangeShapes Go.WideShapes Go.ChangeAt Go.RowKit Go.BigFrame
set_option linter.unusedVariables false
theorem conv_in (f : Nat → BitVec 8) (a : Option Addr) (m c : Nat) (w : World) (h : BytesIn w a m f) :
    (convert 29 9 (.slice a m c)).run Tryd.prog w = .ok (.string (strOf f m)) w := by
  rcases h.2 with rfl | ⟨b, o, rfl, _, hc⟩
  · have h1 : Tryd.prog.underlying 29 = some (.slice 5) := by kernel_rfl
    have h2 : Tryd.prog.underlying 9 = some .string := by kernel_rfl
    have h3 : Tryd.prog.underlying 5 = some (.int .u8) := by kernel_rfl
    cases a with
    | none =>
      simp [convert, run_underlying h1, run_underlying h2, run_underlying h3, Sem.run_bind]
      rfl
    | some x =>
      have h := run_convert_bytes_back (P := Tryd.prog) w 29 9 5 x c [] (by kernel_rfl) (by kernel_rfl) (by kernel_rfl) (fun j hj => by simp at hj)
      exact h
  · exact conv_str f b o m c w hc
theorem docGet_arg (n : Nat) (f : Nat → BitVec 8) (p : Int) (w : World) (hp : p < 0 ∨ (n : Int) < p) :
    Calls Tryd.prog 18 #[.string (strOf f n), .int .i64 p] w fun e w' => e = .returned (.tuple #[.string ⟨#[]⟩, .int .i64 0, .int .i64 1]) ∧ w = w' := by
  have hz := strOf_size f n
  generalize strOf f n = S at *
  by_cases h0 : p < 0
  · clear hp
    go_enter Tryd.func18, Tryd.ntmps18
    go_wp2_with fail
    go_ret3
    exact ⟨rfl, rfl⟩
  · have h1 : (n : Int) < p := by omega
    clear hp
    go_enter Tryd.func18, Tryd.ntmps18
    go_wp2_with fail
    go_ret3
    exact ⟨rfl, rfl⟩
/-- What both answer. -/
def ans (f : Nat → BitVec 8) (n : Nat) (x : Int) : Nat × Nat × List (BitVec 8) := if 0 ≤ x ∧ x ≤ (n : Int) then getF f n x.toNat else (1, 0, [])
theorem doc_any (n : Nat) (f : Nat → BitVec 8) (x : Int) (w : World) (hn : n ≤ 100000) :
    Calls Tryd.prog 18 #[.string (strOf f n), .int .i64 x] w fun e w' => e = .returned (.tuple #[.string (sL (ans f n x).2.2), .int .i64 ((ans f n x).2.1 : Int), .int .i64 ((ans f n x).1 : Int)]) ∧ Below w.heap.size w w' := by
  by_cases h : 0 ≤ x ∧ x ≤ (n : Int)
  · obtain ⟨p, rfl⟩ : ∃ p : Nat, x = (p : Int) := ⟨x.toNat, by omega⟩
    have e : ans f n (p : Int) = getF f n p := by unfold ans; rw [if_pos h]; rfl
    rw [e]
    exact docGet_ok n f p w hn (by omega)
  · have e : ans f n x = (1, 0, []) := by unfold ans; rw [if_neg h]
    rw [e]
    refine (docGet_arg n f x w (by omega)).mono ?_
    rintro e w' ⟨rfl, rfl⟩
    exact ⟨rfl, Below.refl _ _⟩
theorem get_any (a : Option Addr) (n cap : Nat) (f : Nat → BitVec 8) (x : Int) (w : World) (hI : InQ w.heap.size a n cap f w) :
    Calls Tryd.prog 19 #[.slice a n cap, .int .i64 x] w fun e w' => e = .returned (.tuple #[.string (sL (ans f n x).2.2), .int .i64 ((ans f n x).2.1 : Int), .int .i64 ((ans f n x).1 : Int)]) ∧ Below w.heap.size w w' := by
  by_cases h : 0 ≤ x ∧ x ≤ (n : Int)
  · obtain ⟨p, rfl⟩ : ∃ p : Nat, x = (p : Int) := ⟨x.toNat, by omega⟩
    have e : ans f n (p : Int) = getF f n p := by unfold ans; rw [if_pos h]; rfl
    rw [e]
    exact get_ok a n cap f p w hI (by omega)
  · have e : ans f n x = (1, 0, []) := by unfold ans; rw [if_neg h]
    rw [e]
    refine (get_arg a n cap x w hI.nc (by omega)).mono ?_
    rintro e w' ⟨rfl, rfl⟩
    exact ⟨rfl, Below.refl _ _⟩
set_option maxHeartbeats 4000000 in
set_option maxRecDepth 100000 in
theorem walk {H : Type} {enc : TypeId × Value → H} (w : World) (base : Nat) (v0 v1 : Value) (d0 d1 : DataW H) (p0 p1 : List MemPlace)
    (k0 : Value.okWide Tryd.prog w .any base 29 v0) (k1 : Value.okWide Tryd.prog w .any base 3 v1)
    (h0 : DataW.Trod enc Tryd.prog w 0 (fun _ => true) true 29 v0 d0 p0) (h1 : DataW.Trod enc Tryd.prog w 0 (fun _ => true) true 3 v1 d1 p1) (tab : Tab w) :
    Calls Tryd.prog 4 #[v0, v1] w fun e w' => e = .returned (.bool true) ∧ Below w.heap.size w w' := by
  obtain ⟨a, n, c, f, rfl, hB, hc, hcm⟩ := open_bytes k0 h0
  obtain ⟨x, rfl, rfl, rfl, wx⟩ := open_int Tryd.underlying3 k1 h1
  have NA := Lib.hid named_any
  by_cases hn : 3000 < n
  · have hn' : (3000 : Int) < (n : Int) := by omega
    clear hB
    go_enter Tryd.func4, Tryd.ntmps4
    go_wp2_with (go_at_call 10; refine (NA.out _).mono ?_; rintro e w1 ⟨rfl, B1⟩)
    go_ret
    exact ⟨rfl, B1⟩
  · have hn' : ¬ (3000 : Int) < (n : Int) := by omega
    have hI : InQ w.heap.size a n c f w := ⟨hB, hc, hcm, fun y hy hp => by
      rcases hB.2 with h | ⟨b, o, rfl, hb, _⟩
      · omega
      · cases hy; exact hb⟩
    have CV : Hid (∀ w1, Below w.heap.size w w1 → (convert 29 9 (.slice a n c)).run Tryd.prog w1 = .ok (.string (strOf f n)) w1) := by
      intro w1 hb
      exact conv_in f a n c w1 (bytesIn_later hB hb)
    have DG := Lib.hid (fun w1 => doc_any n f x w1 (by omega))
    have GG := Lib.hid (fun (w1 : World) (hb : Below w.heap.size w w1) => get_any a n c f x w1 ⟨(hI.keep hb).inB, hc, hcm, fun y hy hp => Nat.lt_of_lt_of_le (hI.off y hy hp) hb.size⟩)
    have cv := CV.out w (Below.refl _ _)
    generalize ans f n x = A at *
    obtain ⟨re, rd, rt⟩ := A
    dsimp only at DG GG
    have hE := sL_beq rt rt
    rw [decide_eq_true rfl] at hE
    generalize sL rt = R at *
    generalize strOf f n = S at *
    clear hB hI CV
    go_enter Tryd.func4, Tryd.ntmps4
    go_wp2_with (first | (go_at_call 18; refine (DG.out _).mono ?_; rintro e w1 ⟨rfl, B1⟩) | (go_at_call 19; refine (GG.out _ B1).mono ?_; rintro e w2 ⟨rfl, B2⟩) | (go_at_call 10; refine (NA.out _).mono ?_; rintro e w3 ⟨rfl, B3⟩))
    go_ret
    exact ⟨rfl, (B1.trans (B2.mono B1.size)).trans (B3.mono (Nat.le_trans B1.size B2.size))⟩
set_option maxRecDepth 100000 in
theorem lifted (os : Os) (started : os.Started) (H : Type) (enc : TypeId × Value → H) :
    ReturnsInHanded {} Tryd.checked os 4 .any (fun w args => (Rows.nameGetsSpec.pre enc Tryd.prog Tryd.f4 [] false w args ∧ laidMetH Tryd.prog laids w) ∧ sizedMet enc Tryd.prog Tryd.f4 (OpenSpec.ofChange Rows.nameGetsSpec) false w args)
      (Rows.nameGetsSpec.post enc Tryd.prog Tryd.f4 false true false false) := by
  refine returnsInHanded_of_change_and (C := Tryd.checked) (X := fun w _ => laidMetH Tryd.prog laids w) (fun _ _ _ hh h => h.of_heap hh) own started (by kernel_rfl) Tryd.func4
    (ChangeSpec.witness_shaped (enc := enc) (C := Tryd.checked) (os := os) (X := fun w _ => laidMetH Tryd.prog laids w) false (World.laidAll Tryd.prog os laids) #[.slice none 0 0, .int .i64 0] 8 (World.laidAll_os _ _ _) (start_shaped os) (by kernel_rfl) (by kernel_rfl) (by kernel_rfl) (start_met os _)) ?_
  intro W base args ds gs before hval0 hW _ _ hL _
  have hval : ∀ (j : Nat) t v, Tryd.f4.params[j]? = some t → args[j]? = some v → Value.okWide Tryd.prog W .any base t v := hval0
  have hW' := hW
  obtain ⟨p, q, hA0, hV, rfl, hfz, hnd⟩ := hW
  have hA : DataW.TrodAll enc Tryd.prog W 0 (fun _ => true) true Tryd.f4.params.toList args.toList ds p := hA0
  rw [Tryd.params4] at hA hval
  obtain ⟨v0, vs0, d0, ds0, p0, q0, hargs, rfl, rfl, h0, r0⟩ := trodAll_cons hA
  obtain ⟨v1, vs1, d1, ds1, p1, q1, rfl, rfl, rfl, h1, r1⟩ := trodAll_cons r0
  obtain ⟨rfl, rfl, rfl⟩ := trodAll_nil r1
  obtain rfl : args = #[v0, v1] := by cases args; simp_all
  obtain ⟨rfl, rfl⟩ := trodVars_none hV
  have k0 := h0
  have lt0 : ∀ x ∈ p0, x.block < W.heap.size := by obtain ⟨m, hm⟩ := k0; exact DataW.trod_lt m _ _ _ hm
  have k1 := h1
  have lt1 : ∀ x ∈ p1, x.block < W.heap.size := by obtain ⟨m, hm⟩ := k1; exact DataW.trod_lt m _ _ _ hm
  clear hA0 hval0
  refine (walk W base v0 v1 d0 d1 p0 p1 (hval 0 29 v0 rfl rfl) (hval 1 3 v1 rfl rfl) k0 k1 (tab_of_laid hL)).mono fun e W' ⟨he, bel⟩ => ?_
  subst he
  exact ⟨_, rfl, _, _, _, [], _, [], hW', trodAll_mk1 (shut_bool Tryd.underlying4 _), (trodAll_cons_mk (Below.trod laidOut (by kernel_rfl) (of_decide_eq_true (by kernel_rfl)) k0 bel lt0) (trodAll_cons_mk (Below.trod laidOut (by kernel_rfl) (of_decide_eq_true (by kernel_rfl)) k1 bel lt1) trodAll_mk0)), rfl, bel.frame _, fun h => by cases h⟩
theorem over : Rows.NameGetsSaid :=
  OpenClaim.holds_of_wide 4 Tryd.f4 rfl rfl rfl rfl rfl rfl rfl ⟨rfl, rfl, rfl, rfl, rfl⟩ rfl rfl rfl rfl rfl (by kernel_rfl) Tryd.func4 (by kernel_rfl)
    (of_decide_eq_true (by kernel_rfl)) (by unfold Func.isWrapper; first | (rw [if_pos (by decide +kernel)]; kernel_rfl) | (rw [if_neg (by decide +kernel)]; exact ⟨rfl, rfl⟩))
    (fun os started H enc _ => lifted os started H enc)
theorem proved : Rows.NameGetsCardSaid :=
  Claim7.holds_tied_plain_at .later [] [.data, .pinned] true (true, "a336e95820cb47316d908a953aeda393682601dff52183cff9eb8b64e99883a2") false
    over (fun _ h => by cases h) (by kernel_rfl) (fun _ h => by cases h) nameGets_row_tie rfl ⟨rfl, rfl⟩ (by kernel_rfl) rfl
    (fun f fn hf hfn => by
      obtain rfl : f = 4 := Option.some.inj ((show Tryd.prog.funcNamed "rhyne/rhynelaw17.NameGets" = some 4 by kernel_rfl).symm.trans hf) |>.symm
      obtain rfl : fn = Tryd.f4 := (Option.some.inj (Tryd.func4.symm.trans hfn)).symm
      exact ⟨by kernel_rfl, fun j t ht => by
        rw [Tryd.params4] at ht
        have hm : t ∈ [29, 3] := by simpa using Array.mem_of_getElem? ht
        have hall : ([29, 3].all fun u => !Tryd.prog.wantsStandIn u) = true := by kernel_rfl
        exact (show Tryd.prog.wantsStandIn t = false by simpa using List.all_eq_true.1 hall t hm)⟩)
    (by kernel_rfl)
end Go.Proofs.YtddpfbeclmgndaaDoor.nameGets
