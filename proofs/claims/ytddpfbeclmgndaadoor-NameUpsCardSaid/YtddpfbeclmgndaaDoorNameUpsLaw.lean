/-
  Of all texts the names above a name, one after another, are what the chapter says, each ahead of the one below and none below itself, and the root has none, at the commit of COMMIT; the two tables of unicode/utf8 hold what the library's text lays.
-/
import Derived.Test.YtddpfbeclmgndaaDoorRows
import Derived.Test.YtddpfbeclmgndaaDoorCards
import Derived.Test.YtddpfbeclmgndaaDoorTie
import Derived.Test.YtddpfbeclmgndaaDoorNmDoor
import Derived.Test.YtddpfbeclmgndaaDoorNnF
import Derived.Test.YtddpfbeclmgndaaDoorNnB
import Derived.Test.YtddpfbeclmgndaaDoorOpenB
import Derived.Test.YtddpfbeclmgndaaDoorOpen
import Derived.Test.YtddpfbeclmgndaaDoorEq
import Derived.WalkKit
import Derived.ProofKit
import Derived.OpenShut
import Derived.ShutString
import Derived.ChangeOld
import Derived.Below
import Derived.Deep.DeepCutAuto
import Derived.Deep.Upon
import Derived.Deep.AppendSrc
import Derived.SevenTiedAt
import Derived.LaidMore
import Derived.SizedLaws
import Derived.Lib.SmallJoins
namespace Go.Proofs.YtddpfbeclmgndaaDoor.nameUps
open Go Go.ChangeShapes Go.WideShapes Go.ChangeAt Go.RowKit Go.BigFrame
set_option linter.unusedVariables false
set_option maxHeartbeats 4000000 in
set_option maxRecDepth 100000 in
theorem ups_bad (L : List (BitVec 8)) (w : World) (hL : L.length ≤ 4611686018427387904) (hr : rightB L = false) :
    Calls Tryd.prog 9 #[.string (sL L)] w fun e w' => e = .returned (.bool true) ∧ Below w.heap.size w w' := by
  have NA := Lib.hid named_any
  have PL := Lib.hid (fun w => labels_bad L w hL hr)
  clear hr hL
  generalize sL L = S at *
  go_enter Tryd.func9, Tryd.ntmps9
  go_upto_region 3 with (first
    | (go_at_call 12; refine (PL.out _).mono ?_; clear PL; rintro e w1 ⟨rfl, B1⟩)
    | (go_at_call 10; refine (NA.out _).mono ?_; rintro e w2 ⟨rfl, B2⟩))
  have C2 := Lib.hid (B1.trans (B2.mono B1.size))
  clear B1 B2
  go_wp2_with (go_at_call 10; refine (NA.out _).mono ?_; rintro e w3 ⟨rfl, B3⟩)
  go_ret
  exact ⟨rfl, C2.out.trans (B3.mono C2.out.size)⟩
theorem take_full {P : List (List (BitVec 8))} {k n : Nat} (h : P.length = n) (hk : n ≤ k) : P.take k = P := List.take_of_length_le (by omega)
theorem take_next {P : List (List (BitVec 8))} {j k : Nat} (hk : k < P.length) (hj : j ≤ k) : flatD ((P.take (k + 1)).drop j) = flatD ((P.take k).drop j) ++ P[k] ++ [46#8] := by
  rw [← List.take_append_getElem hk, List.drop_append_of_le_length (by rw [List.length_take]; omega), flatD_snoc]
theorem take_none (P : List (List (BitVec 8))) (k : Nat) : flatD ((P.take k).drop k) = [] := by
  rw [List.drop_eq_nil_of_le (by rw [List.length_take]; omega)]
  rfl
theorem flat_take (P : List (List (BitVec 8))) (j k : Nat) : (flatD ((P.take k).drop j)).length ≤ (flatD P).length := by
  have h1 := flat_drop (P.take k) j
  have h : flatD P = flatD (P.take k) ++ flatD (P.drop k) := by rw [← flatD_app, List.take_append_drop]
  have h2 := congrArg List.length h
  rw [List.length_append] at h2
  omega
set_option maxHeartbeats 8000000 in
set_option maxRecDepth 100000 in
theorem ups_ok (L : List (BitVec 8)) (w : World) (hr : rightB L = true) :
    Calls Tryd.prog 9 #[.string (sL L)] w fun e w' => e = .returned (.bool true) ∧ Below w.heap.size w w' := by
  have NA := Lib.hid named_any
  have hL := right_le hr
  have PL : Hid (∀ w, Calls Tryd.prog 12 #[.string (sL L)] w fun e w' => ∃ v, e = .returned (.tuple #[v, .int .i64 0]) ∧ RowS w.heap.size v (labF L) w' ∧ Below w.heap.size w w') := by
    intro w
    refine (labels_any L w (by omega)).mono ?_
    rintro e w' ⟨v, c, rfl, h, hb⟩
    rcases h with h | h
    · rw [hr] at h; cases h.1
    · obtain ⟨-, rfl, h⟩ := h
      exact ⟨v, rfl, h, hb⟩
  have hll := lab_le hr
  have HP := Lib.hid (lab_part hr)
  have hnm := nm_of hr
  have HF : Hid ((flatD (labF L)).length ≤ 254) := by
    show (flatD (labF L)).length ≤ 254
    unfold nmF at hnm
    split at hnm
    · rename_i e; rw [e]; decide
    · rw [hnm]; exact hL
  have HNM := Lib.hid hnm
  clear hr hnm
  obtain ⟨P, hP⟩ : ∃ P, labF L = P := ⟨_, rfl⟩
  rw [hP] at PL HP HF HNM hll
  clear hP
  have HUR := Lib.hid (fun i (hi : i < P.length) => ups_round (i := i) HP.out HF.out hi)
  have HNL : Hid (∀ i, (nmF (P.drop i)).length ≤ 254) := fun i => right_le (nm_right (P.drop i) (fun p h => HP.out p (List.mem_of_mem_drop h)) (by have := flat_drop P i; have := HF.out; omega)).1
  have UPZ := Lib.hid (fun w => up_any [46#8] w (by decide))
  rw [up_root] at UPZ
  dsimp only at UPZ
  rw [sL_dot, sL_none] at UPZ
  rw [← HNM.out] at PL ⊢
  clear HNM
  have hl0 : Hid ((nmF P).length ≤ 254) := HNL.out 0
  obtain ⟨S, hS⟩ : ∃ S, sL (nmF P) = S := ⟨_, rfl⟩
  have HS := Lib.hid hS
  rw [hS] at PL ⊢
  clear hS hL
  go_enter Tryd.func9, Tryd.ntmps9
  go_upto_region 3 with (first
    | (go_at_call 12; refine (PL.out _).mono ?_; clear PL; rintro e w1 ⟨v1, rfl, R1, B1⟩; have R1' := Lib.hid R1; obtain ⟨ad, hv1, -⟩ := R1; subst hv1)
    | (go_at_call 10; refine (NA.out _).mono ?_; rintro e w2 ⟨rfl, B2⟩))
  have C2 := Lib.hid (B1.trans (B2.mono B1.size))
  have R2 := Lib.hid (R1'.out.later B2)
  clear B1 B2 R1' NA
  obtain ⟨n, hn⟩ : ∃ n, P.length = n := ⟨_, rfl⟩
  have HN := Lib.hid hn
  rw [hn] at hll R2 ⊢
  clear hn
  go_wp2_with fail
  go_loopw [5, 6] (fun s5 s6 wr => ∃ i : Nat, i ≤ n ∧ s6 = .int .i64 (i : Int) ∧ s5 = .string (sL (nmF (P.drop i))) ∧ Hid (Below w2.heap.size w2 wr)) (fun _ s6 _ => n - (intOf s6).toNat)
  case atStart => exact ⟨0, by omega, rfl, by rw [List.drop_zero, HS.out], Below.refl _ _⟩
  case round =>
    obtain ⟨i, hi, rfl, rfl, BR⟩ := hrel
    by_cases hin : i < n
    · have hinI : (i : Int) < (n : Int) := by omega
      have hiP : i < P.length := by rw [HN.out]; exact hin
      obtain ⟨u1, u2, u3, u4, u5, u6⟩ := HUR.out i hiP
      have lA := HNL.out i
      have lB := HNL.out (i + 1)
      have l0 := hl0.out
      have UP := Lib.hid (fun w => up_any (nmF (P.drop i)) w (by omega))
      rw [u1] at UP
      dsimp only at UP
      have UA := Lib.hid (fun w => under_any (nmF (P.drop i)) (nmF (P.drop (i + 1))) w (by omega) (by omega))
      have US := Lib.hid (fun w => under_any (nmF P) (nmF (P.drop (i + 1))) w (by omega) (by omega))
      have UB := Lib.hid (fun w => under_any (nmF (P.drop (i + 1))) (nmF (P.drop i)) w (by omega) (by omega))
      have LB := Lib.hid (fun w => less_any (nmF (P.drop (i + 1))) (nmF (P.drop i)) w (by omega) (by omega))
      have LA := Lib.hid (fun w => less_any (nmF (P.drop i)) (nmF (P.drop (i + 1))) w (by omega) (by omega))
      rw [u2] at UA
      rw [u3, HS.out] at US
      rw [u4] at UB
      rw [u5] at LB
      rw [u6] at LA
      clear u1 u2 u3 u4 u5 u6 lA lB l0
      have hE := sL_beq (nmF (P.drop (i + 1))) (nmF (P.drop (i + 1)))
      rw [decide_eq_true rfl] at hE
      obtain ⟨SA, hSA⟩ : ∃ SA, sL (nmF (P.drop i)) = SA := ⟨_, rfl⟩
      rw [hSA] at UP UA UB LB LA ⊢
      clear hSA
      obtain ⟨SB, hSB⟩ : ∃ SB, sL (nmF (P.drop (i + 1))) = SB := ⟨_, rfl⟩
      rw [hSB] at UP UA US UB LB LA hE
      have HB := Lib.hid hSB
      clear hSB
      go_upto_region 9 with (go_at_call 16; refine (UP.out _).mono ?_; clear UP; rintro e w3 ⟨rfl, B3⟩)
      have D3 := Lib.hid (BR.out.trans (B3.mono BR.out.size))
      clear B3 BR
      go_upto_region 11 with (first
        | (go_at_call 22; refine (UA.out _).mono ?_; clear UA; rintro e w4 ⟨rfl, B4⟩)
        | (go_at_call 22; refine (US.out _).mono ?_; clear US; rintro e w5 ⟨rfl, B5⟩)
        | (go_at_call 22; refine (UB.out _).mono ?_; clear UB; rintro e w6 ⟨rfl, B6⟩)
        | (go_at_call 20; refine (LB.out _).mono ?_; clear LB; rintro e w7 ⟨rfl, B7⟩)
        | (go_at_call 20; refine (LA.out _).mono ?_; clear LA; rintro e w8 ⟨rfl, B8⟩))
      have D4 := D3.out.trans (B4.mono D3.out.size)
      have D5 := D4.trans (B5.mono D4.size)
      have D6 := D5.trans (B6.mono D5.size)
      have D7 := D6.trans (B7.mono D6.size)
      have D8 := Lib.hid (D7.trans (B8.mono D7.size))
      clear B4 B5 B6 B7 B8 D4 D5 D6 D7 D3
      have RR := Lib.hid (R2.out.later D8.out)
      go_wp2_with fail
      go_loopw [9, 10] (fun s9 s10 wr => ∃ k : Nat, i + 1 ≤ k ∧ k ≤ n ∧ s10 = .int .i64 (k : Int) ∧ s9 = .string (sL (flatD ((P.take k).drop (i + 1)))) ∧ w8 = wr) (fun _ s10 _ => n - (intOf s10).toNat)
      case atStart => exact ⟨i + 1, by omega, by omega, by rw [Int.natCast_add]; rfl, by rw [take_none, sL_none], by first | exact rfl | trivial⟩
      case round =>
        obtain ⟨k, hik, hk, rfl, rfl, rfl⟩ := hrel
        by_cases hkn : k < n
        · have hkn' : (k : Int) < (n : Int) := by omega
          have hkl : k < P.length := by rw [HN.out]; exact hkn
          obtain ⟨g, hv, hc, -, -⟩ := RR.out.at k hkl
          rw [HN.out] at hv
          injection hv with hv
          subst hv
          have hpl : (P[k]).length ≤ 63 := part_le (HP.out _ (List.getElem_mem hkl))
          have htl := flat_take P (i + 1) k
          have hfl := HF.out
          have hfl2 : (flatD ((P.take k).drop (i + 1))).length ≤ 254 := by omega
          have hsn : Hid (sL (flatD ((P.take k).drop (i + 1))) ++ sL P[k] ++ ⟨#[46]⟩ = sL (flatD ((P.take (k + 1)).drop (i + 1)))) := by
            rw [take_next hkl hik, sL_app, ← sL_dot, sL_app]
            exact rfl
          have zA := sL_size (flatD ((P.take k).drop (i + 1)))
          have zP := sL_size P[k]
          clear htl hfl
          generalize (flatD ((P.take k).drop (i + 1))).length = NA at *
          generalize (P[k]).length = NP at *
          generalize sL (flatD ((P.take k).drop (i + 1))) = AS at *
          generalize sL P[k] = PS at *
          have hs1 : ¬ 9223372036854775807 < NA + NP := by omega
          have hs2 : ¬ 9223372036854775807 < NA + NP + 1 := by omega
          go_wp2_with fail
          go_roundw
          case rel => exact ⟨k + 1, by omega, by omega, by rw [Int.natCast_add]; rfl, by rw [hsn.out], by first | exact rfl | trivial⟩
          case measure => simp only [intOf]; omega
        · have hkn' : ¬ (k : Int) < (n : Int) := by omega
          by_cases hlast : i + 1 < n
          · have hlI : (i : Int) + 1 < (n : Int) := by omega
            have hrest : sL (flatD ((P.take k).drop (i + 1))) = SB := by
              rw [take_full HN.out (by omega), ← HB.out]
              congr 1
              unfold nmF
              rw [if_neg]
              intro e
              have := congrArg List.length e
              rw [List.length_drop, HN.out] at this
              simp at this
              omega
            rw [hrest]
            clear hrest
            go_wp2_with fail
            go_roundw
            case rel => exact ⟨i + 1, by omega, by rw [Int.natCast_add]; rfl, by rw [HB.out], D8⟩
            case measure => simp only [intOf]; omega
          · have hlI : ¬ (i : Int) + 1 < (n : Int) := by omega
            generalize sL (flatD ((P.take k).drop (i + 1))) = AS at *
            go_wp2_with fail
            go_roundw
            case rel => exact ⟨i + 1, by omega, by rw [Int.natCast_add]; rfl, by rw [HB.out], D8⟩
            case measure => simp only [intOf]; omega
    · have hinI : ¬ (i : Int) < (n : Int) := by omega
      have hend : sL (nmF (P.drop i)) = ⟨#[46]⟩ := by
        rw [List.drop_of_length_le (by rw [HN.out]; omega)]
        rfl
      rw [hend]
      clear hend
      go_wp2_with (go_at_call 16; refine (UPZ.out _).mono ?_; clear UPZ; rintro e w3 ⟨rfl, B3⟩)
      go_ret
      have D3 := BR.out.trans (B3.mono BR.out.size)
      exact ⟨rfl, C2.out.trans (D3.mono C2.out.size)⟩
theorem walk {H : Type} {enc : TypeId × Value → H} (w : World) (base : Nat) (v0 : Value) (d0 : DataW H) (p0 : List MemPlace)
    (k0 : Value.okWide Tryd.prog w .any base 9 v0)
    (h0 : DataW.Trod enc Tryd.prog w 0 (fun _ => true) true 9 v0 d0 p0) (z0 : ∀ n ∈ DataW.weights Tryd.prog 9 d0, n ≤ reachBytes) (tab : Tab w) :
    Calls Tryd.prog 9 #[v0] w fun e w' => e = .returned (.bool true) ∧ Below w.heap.size w w' := by
  obtain ⟨s, hs, hd, -, -⟩ := Go.ChangeMaps.open_string Tryd.underlying9 k0 h0
  obtain ⟨f, n, hv, hn⟩ := open_text k0 h0
  rw [hv] at hs
  injection hs with hs
  have hz := z0 s.data.toList.length (by rw [hd]; simp [DataW.weights])
  have hn2 : n ≤ 140737488351232 := by
    have h1 : s.data.toList.length = n := by
      rw [← hs, Array.length_toList]
      exact strOf_size f n
    rw [h1] at hz
    exact hz
  rw [hv, of_sL]
  have hl : ((List.range n).map f).length ≤ 4611686018427387904 := by rw [List.length_map, List.length_range]; omega
  cases hr : rightB ((List.range n).map f) with
  | false => exact ups_bad _ w hl hr
  | true => exact ups_ok _ w hr
set_option maxRecDepth 100000 in
theorem lifted (os : Os) (started : os.Started) (H : Type) (enc : TypeId × Value → H) :
    ReturnsInHanded {} Tryd.checked os 9 .any (fun w args => (Rows.nameUpsSpec.pre enc Tryd.prog Tryd.f9 [] false w args ∧ laidMetH Tryd.prog laids w) ∧ sizedMet enc Tryd.prog Tryd.f9 (OpenSpec.ofChange Rows.nameUpsSpec) false w args)
      (Rows.nameUpsSpec.post enc Tryd.prog Tryd.f9 false true false false) := by
  refine returnsInHanded_of_change_and (C := Tryd.checked) (X := fun w _ => laidMetH Tryd.prog laids w) (fun _ _ _ hh h => h.of_heap hh) own started (by kernel_rfl) Tryd.func9
    (ChangeSpec.witness_shaped (enc := enc) (C := Tryd.checked) (os := os) (X := fun w _ => laidMetH Tryd.prog laids w) false (World.laidAll Tryd.prog os laids) #[.string ⟨#[]⟩] 8 (World.laidAll_os _ _ _) (start_shaped os) (by kernel_rfl) (by kernel_rfl) (by kernel_rfl) (start_met os _)) ?_
  intro W base args ds gs before hval0 hW _ hsz0 hL _
  have hval : ∀ (j : Nat) t v, Tryd.f9.params[j]? = some t → args[j]? = some v → Value.okWide Tryd.prog W .any base t v := hval0
  have hW' := hW
  obtain ⟨p, q, hA0, hV, rfl, hfz, hnd⟩ := hW
  have hA : DataW.TrodAll enc Tryd.prog W 0 (fun _ => true) true Tryd.f9.params.toList args.toList ds p := hA0
  rw [Tryd.params9] at hA hval
  obtain ⟨v0, vs0, d0, ds0, p0, q0, hargs, rfl, rfl, h0, r0⟩ := trodAll_cons hA
  obtain ⟨rfl, rfl, rfl⟩ := trodAll_nil r0
  obtain rfl : args = #[v0] := by cases args; simp_all
  obtain ⟨rfl, rfl⟩ := trodVars_none hV
  have k0 := h0
  have lt0 : ∀ x ∈ p0, x.block < W.heap.size := by obtain ⟨m, hm⟩ := k0; exact DataW.trod_lt m _ _ _ hm
  have z0 : ∀ n ∈ DataW.weights Tryd.prog 9 d0, n ≤ reachBytes := fun n hn => by
    have h1 := List.all_eq_true.1 hsz0 n (DataW.weights_mem_each (j := 0) (by rw [Tryd.params9]; rfl) rfl n hn)
    simpa using h1
  clear hA0 hval0
  refine (walk W base v0 d0 p0 (hval 0 9 v0 rfl rfl) k0 z0 (tab_of_laid hL)).mono fun e W' ⟨he, bel⟩ => ?_
  subst he
  exact ⟨_, rfl, _, _, _, [], _, [], hW', trodAll_mk1 (shut_bool Tryd.underlying4 _), (trodAll_cons_mk (Below.trod laidOut (by kernel_rfl) (of_decide_eq_true (by kernel_rfl)) k0 bel lt0) trodAll_mk0), rfl, bel.frame _, fun h => by cases h⟩
theorem over : Rows.NameUpsSaid :=
  OpenClaim.holds_of_wide 9 Tryd.f9 rfl rfl rfl rfl rfl rfl rfl ⟨rfl, rfl, rfl, rfl, rfl⟩ rfl rfl rfl rfl rfl (by kernel_rfl) Tryd.func9 (by kernel_rfl)
    (of_decide_eq_true (by kernel_rfl)) (by unfold Func.isWrapper; first | (rw [if_pos (by decide +kernel)]; kernel_rfl) | (rw [if_neg (by decide +kernel)]; exact ⟨rfl, rfl⟩))
    (fun os started H enc _ => lifted os started H enc)
theorem proved : Rows.NameUpsCardSaid :=
  Claim7.holds_tied_plain_at .later [] [.data, .pinned] true (true, "a336e95820cb47316d908a953aeda393682601dff52183cff9eb8b64e99883a2") false
    over (fun _ h => by cases h) (by kernel_rfl) (fun _ h => by cases h) nameUps_row_tie rfl ⟨rfl, rfl⟩ (by kernel_rfl) rfl
    (fun f fn hf hfn => by
      obtain rfl : f = 9 := Option.some.inj ((show Tryd.prog.funcNamed "rhyne/rhynelaw17.NameUps" = some 9 by kernel_rfl).symm.trans hf) |>.symm
      obtain rfl : fn = Tryd.f9 := (Option.some.inj (Tryd.func9.symm.trans hfn)).symm
      exact ⟨by kernel_rfl, fun j t ht => by
        rw [Tryd.params9] at ht
        have hm : t ∈ [9] := by simpa using Array.mem_of_getElem? ht
        have hall : ([9].all fun u => !Tryd.prog.wantsStandIn u) = true := by kernel_rfl
        exact (show Tryd.prog.wantsStandIn t = false by simpa using List.all_eq_true.1 hall t hm)⟩)
    (by kernel_rfl)
end Go.Proofs.YtddpfbeclmgndaaDoor.nameUps
