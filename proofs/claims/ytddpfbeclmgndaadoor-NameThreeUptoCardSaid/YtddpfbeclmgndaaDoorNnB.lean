/-
  name: Under; the document's Less and Under.
-/
import Derived.Test.YtddpfbeclmgndaaDoorNnA
namespace Go.Proofs.YtddpfbeclmgndaaDoor
open Go Go.RowKit Go.BigFrame
set_option linter.unusedSimpArgs false
set_option linter.unusedVariables false
set_option maxHeartbeats 4000000 in
set_option maxRecDepth 100000 in
theorem under_left (A B : List (BitVec 8)) (w : World) (hA : A.length ≤ 4611686018427387904) (hr : rightB A = false) : Calls Tryd.prog 22 #[.string (sL A), .string (sL B)] w fun e w' => e = .returned (.bool false) ∧ Below w.heap.size w w' := by
  have H1 := Lib.hid (fun w => isName_any A w hA)
  rw [hr] at H1
  generalize sL A = S at *
  generalize sL B = T at *
  go_enter Tryd.func22, Tryd.ntmps22
  go_wp2_with (go_at_call 29; refine (H1.out _).mono ?_; rintro e w1 ⟨rfl, B1⟩)
  go_ret
  exact ⟨rfl, B1⟩
set_option maxHeartbeats 4000000 in
set_option maxRecDepth 100000 in
theorem under_right (A B : List (BitVec 8)) (w : World) (hB : B.length ≤ 4611686018427387904) (hr : rightB A = true) (hs : rightB B = false) : Calls Tryd.prog 22 #[.string (sL A), .string (sL B)] w fun e w' => e = .returned (.bool false) ∧ Below w.heap.size w w' := by
  have hA := right_le hr
  have H1 := Lib.hid (fun w => isName_any A w (by omega))
  have H2 := Lib.hid (fun w => isName_any B w hB)
  rw [hr] at H1
  rw [hs] at H2
  obtain ⟨S, hS⟩ : ∃ S, sL A = S := ⟨_, rfl⟩
  obtain ⟨T, hT⟩ : ∃ T, sL B = T := ⟨_, rfl⟩
  rw [hS] at H1 ⊢
  rw [hT] at H2 ⊢
  clear hS hT
  go_enter Tryd.func22, Tryd.ntmps22
  go_wp2_with (first | (go_at_call 29; refine (H1.out _).mono ?_; clear H1; rintro e w1 ⟨rfl, B1⟩) | (go_at_call 29; refine (H2.out _).mono ?_; rintro e w2 ⟨rfl, B2⟩))
  go_ret
  exact ⟨rfl, B1.trans (B2.mono B1.size)⟩
set_option maxHeartbeats 4000000 in
set_option maxRecDepth 100000 in
theorem under_ok (A B : List (BitVec 8)) (w : World) (hr : rightB A = true) (hs : rightB B = true) : Calls Tryd.prog 22 #[.string (sL A), .string (sL B)] w fun e w' => e = .returned (.bool (decide (labF B <:+ labF A))) ∧ Below w.heap.size w w' := by
  have hA := right_le hr
  have hB := right_le hs
  have H1 := Lib.hid (fun w => isName_any A w (by omega))
  have H2 := Lib.hid (fun w => isName_any B w (by omega))
  rw [hr] at H1
  rw [hs] at H2
  have hE : ((sL B).toList == [46]) = decide (B = [46#8]) := by
    have := sL_beq B [46#8]
    rw [sL_list [46#8]] at this
    exact this
  have hE2 := sL_beq A B
  have HX := Lib.hid (fun w => hasSuffix_any A (46#8 :: B) w (by omega))
  have hJ : sL (46#8 :: B) = ⟨#[46]⟩ ++ sL B := by rw [← sL_dot, sL_app]; rfl
  rw [hJ] at HX
  have z2 := sL_size B
  obtain ⟨R, hR⟩ : ∃ R, decide (labF B <:+ labF A) = R := ⟨_, rfl⟩
  rw [hR]
  by_cases h1 : B = [46#8]
  · rw [decide_eq_true h1] at hE
    have hv : R = true := by rw [← hR, h1, lab_root]; exact decide_eq_true List.nil_suffix
    subst hv
    clear hR HX hJ h1 hr hs hE2
    obtain ⟨S, hS⟩ : ∃ S, sL A = S := ⟨_, rfl⟩
    obtain ⟨T, hT⟩ : ∃ T, sL B = T := ⟨_, rfl⟩
    rw [hS] at H1 ⊢
    rw [hT] at H2 hE z2 ⊢
    clear hS hT
    go_enter Tryd.func22, Tryd.ntmps22
    go_wp2_with (first | (go_at_call 29; refine (H1.out _).mono ?_; clear H1; rintro e w1 ⟨rfl, B1⟩) | (go_at_call 29; refine (H2.out _).mono ?_; clear H2; rintro e w2 ⟨rfl, B2⟩))
    go_ret
    exact ⟨rfl, B1.trans (B2.mono B1.size)⟩
  · rw [decide_eq_false h1] at hE
    by_cases h2 : A = B
    · rw [decide_eq_true h2] at hE2
      have hv : R = true := by rw [← hR, h2]; exact decide_eq_true (List.suffix_refl _)
      subst hv
      clear hR HX hJ h1 hr hs h2
      obtain ⟨S, hS⟩ : ∃ S, sL A = S := ⟨_, rfl⟩
      obtain ⟨T, hT⟩ : ∃ T, sL B = T := ⟨_, rfl⟩
      rw [hS] at H1 hE2 ⊢
      rw [hT] at H2 hE hE2 z2 ⊢
      clear hS hT
      go_enter Tryd.func22, Tryd.ntmps22
      go_wp2_with (first | (go_at_call 29; refine (H1.out _).mono ?_; clear H1; rintro e w1 ⟨rfl, B1⟩) | (go_at_call 29; refine (H2.out _).mono ?_; clear H2; rintro e w2 ⟨rfl, B2⟩))
      go_ret
      exact ⟨rfl, B1.trans (B2.mono B1.size)⟩
    · rw [decide_eq_false h2] at hE2
      rw [under_suf hr hs h1 h2, hR] at HX
      have hN : ¬ 9223372036854775807 < 1 + B.length := by omega
      clear hR hJ h1 hr hs h2
      generalize B.length = NB at *
      obtain ⟨S, hS⟩ : ∃ S, sL A = S := ⟨_, rfl⟩
      obtain ⟨T, hT⟩ : ∃ T, sL B = T := ⟨_, rfl⟩
      rw [hS] at H1 hE2 HX ⊢
      rw [hT] at H2 hE hE2 HX z2 ⊢
      clear hS hT
      go_enter Tryd.func22, Tryd.ntmps22
      go_wp2_with (first | (go_at_call 29; refine (H1.out _).mono ?_; clear H1; rintro e w1 ⟨rfl, B1⟩) | (go_at_call 29; refine (H2.out _).mono ?_; clear H2; rintro e w2 ⟨rfl, B2⟩) | (go_at_call 37; refine (HX.out _).mono ?_; rintro e w' ⟨rfl, rfl⟩))
      go_ret
      exact ⟨rfl, B1.trans (B2.mono B1.size)⟩
theorem under_any (A B : List (BitVec 8)) (w : World) (hA : A.length ≤ 4611686018427387904) (hB : B.length ≤ 4611686018427387904) : Calls Tryd.prog 22 #[.string (sL A), .string (sL B)] w fun e w' => e = .returned (.bool (underF A B)) ∧ Below w.heap.size w w' := by
  unfold underF
  cases hr : rightB A with
  | false => exact under_left A B w hA hr
  | true =>
    cases hs : rightB B with
    | false => exact under_right A B w hB hr hs
    | true =>
      have := under_ok A B w hr hs
      simpa using this
end Go.Proofs.YtddpfbeclmgndaaDoor
