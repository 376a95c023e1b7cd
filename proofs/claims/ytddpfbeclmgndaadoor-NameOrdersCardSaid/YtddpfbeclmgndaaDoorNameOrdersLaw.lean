/-
  Of all pairs of texts Less and Under tell what the chapter does, of two unlike names just one comes ahead, and what is below a name comes behind it, at the commit of COMMIT; the two tables of unicode/utf8 hold what the library's text lays.
-/
import Derived.Test.YtddpfbeclmgndaaDoorRows
import Derived.Test.YtddpfbeclmgndaaDoorCards
import Derived.Test.YtddpfbeclmgndaaDoorTie
import Derived.Test.YtddpfbeclmgndaaDoorNmDoor
import Derived.Test.YtddpfbeclmgndaaDoorNnD
import Derived.Test.YtddpfbeclmgndaaDoorOpenB
import Derived.Test.YtddpfbeclmgndaaDoorOpen
import Derived.Test.YtddpfbeclmgndaaDoorEq
import Derived.WalkKit
import Derived.ProofKit
import Derived.OpenShut
import Derived.ShutString
import Derived.ChangeOld
import Derived.Below
import Derived.Deep.DeepCutAuto
import Derived.Deep.Upon
import Derived.Deep.AppendSrc
import Derived.SevenTiedAt
import Derived.LaidMore
import Derived.SizedLaws
import Derived.Lib.SmallJoins
namespace Go.Proofs.YtddpfbeclmgndaaDoor.nameOrders
open Go Go.ChangeShapes Go.WideShapes Go.ChangeAt Go.RowKit Go.BigFrame
set_option linter.unusedVariables false
theorem under_self {A : List (BitVec 8)} (h : rightB A = true) : underF A A = true := by
  unfold underF
  rw [h, Bool.true_and, Bool.true_and]
  exact decide_eq_true (List.suffix_refl _)
/-- What is below a name comes behind it. -/
theorem under_less {A B : List (BitVec 8)} (ha : rightB A = true) (hb : rightB B = true) (h : A ≠ B) (hu : underF A B = true) : lessF B A = true := by
  unfold underF at hu
  rw [ha, hb, Bool.true_and, Bool.true_and, decide_eq_true_eq] at hu
  unfold lessF
  rw [ha, hb, Bool.true_and, Bool.true_and]
  obtain ⟨ys, hy⟩ := hu
  rw [← hy, List.reverse_append]
  cases e : ys.reverse with
  | nil =>
    have e2 : ys = [] := List.reverse_eq_nil_iff.1 e
    rw [e2, List.nil_append] at hy
    exact absurd (lab_inj ha hb hy.symm) h
  | cons r rs => exact lr_pre _ r rs
theorem less_self (A : List (BitVec 8)) : lessF A A = false := by
  unfold lessF
  rw [lr_irr, Bool.and_false]
theorem less_tri {A B : List (BitVec 8)} (ha : rightB A = true) (hb : rightB B = true) (h : A ≠ B) : lessF B A = !lessF A B := by
  unfold lessF
  rw [ha, hb, Bool.true_and, Bool.true_and, Bool.true_and]
  exact lr_tri _ _ fun e => h (lab_inj ha hb (List.reverse_inj.1 e))
set_option maxHeartbeats 8000000 in
set_option maxRecDepth 100000 in
theorem orders (A B : List (BitVec 8)) (w : World) :
    Calls Tryd.prog 5 #[.string (sL A), .string (sL B)] w fun e w' => e = .returned (.bool true) ∧ Below w.heap.size w w' := by
  have NA := Lib.hid named_any
  have zA := sL_size A
  have zB := sL_size B
  by_cases h1 : 3000 < A.length
  · have h1' : (3000 : Int) < (A.length : Int) := by omega
    generalize A.length = N at *
    generalize sL A = S at *
    generalize sL B = T at *
    go_enter Tryd.func5, Tryd.ntmps5
    go_wp2_with (go_at_call 10; refine (NA.out _).mono ?_; rintro e w1 ⟨rfl, B1⟩)
    go_ret
    exact ⟨rfl, B1⟩
  have h1' : ¬ (3000 : Int) < (A.length : Int) := by omega
  by_cases h2 : 3000 < B.length
  · have h2' : (3000 : Int) < (B.length : Int) := by omega
    generalize A.length = N at *
    generalize B.length = M at *
    obtain ⟨S, hS⟩ : ∃ S, sL A = S := ⟨_, rfl⟩
    obtain ⟨T, hT⟩ : ∃ T, sL B = T := ⟨_, rfl⟩
    rw [hS] at zA ⊢
    rw [hT] at zB ⊢
    clear hS hT
    go_enter Tryd.func5, Tryd.ntmps5
    go_wp2_with (go_at_call 10; refine (NA.out _).mono ?_; rintro e w1 ⟨rfl, B1⟩)
    go_ret
    exact ⟨rfl, B1⟩
  have h2' : ¬ (3000 : Int) < (B.length : Int) := by omega
  have L1 := Lib.hid (fun w => less_any A B w (by omega) (by omega))
  have L2 := Lib.hid (fun w => less_any B A w (by omega) (by omega))
  have D1 := Lib.hid (fun w => docLess_any A B w (by omega) (by omega))
  have D2 := Lib.hid (fun w => docLess_any B A w (by omega) (by omega))
  have U1 := Lib.hid (fun w => under_any A B w (by omega) (by omega))
  have U2 := Lib.hid (fun w => under_any A A w (by omega) (by omega))
  have V1 := Lib.hid (fun w => docUnder_any A B w (by omega) (by omega))
  have R1 := Lib.hid (fun w => right_any A w (by omega))
  have R2 := Lib.hid (fun w => right_any B w (by omega))
  have hE := sL_beq A B
  cases hr : rightB A with
  | false =>
    have hX : lessF A B = false := by unfold lessF; rw [hr]; rfl
    have hY : lessF B A = false := by unfold lessF; rw [hr]; simp
    have hU : underF A B = false := by unfold underF; rw [hr]; rfl
    rw [hX] at L1 D1
    rw [hY] at L2 D2
    rw [hU] at U1 V1
    rw [hr] at R1
    clear hE
    clear hX hY hU hr
    obtain ⟨S, hS⟩ : ∃ S, sL A = S := ⟨_, rfl⟩
    obtain ⟨T, hT⟩ : ∃ T, sL B = T := ⟨_, rfl⟩
    rw [hS] at L1 L2 D1 D2 U1 U2 V1 R1 zA ⊢
    rw [hT] at L1 L2 D1 D2 U1 V1 R2 zB ⊢
    clear hS hT
    generalize A.length = N at *
    generalize B.length = M at *
    go_enter Tryd.func5, Tryd.ntmps5
    go_upto_region 4 with (first
      | (go_at_call 20; refine (L1.out _).mono ?_; clear L1; rintro e w1 ⟨rfl, B1⟩)
      | (go_at_call 20; refine (L2.out _).mono ?_; clear L2; rintro e w2 ⟨rfl, B2⟩))
    have C2 := Lib.hid (B1.trans (B2.mono B1.size))
    clear B1 B2
    go_upto_region 6 with (first
      | (go_at_call 10; refine (NA.out _).mono ?_; rintro e w3 ⟨rfl, B3⟩)
      | (go_at_call 21; refine (D1.out _).mono ?_; clear D1; rintro e w4 ⟨rfl, B4⟩)
      | (go_at_call 21; refine (D2.out _).mono ?_; clear D2; rintro e w5 ⟨rfl, B5⟩)
      | (go_at_call 22; refine (U1.out _).mono ?_; rintro e w6 ⟨rfl, B6⟩)
      | (go_at_call 23; refine (V1.out _).mono ?_; rintro e w7 ⟨rfl, B7⟩))
    have C3 := C2.out.trans (B3.mono C2.out.size)
    have C4 := C3.trans (B4.mono C3.size)
    have C5 := C4.trans (B5.mono C4.size)
    have C6 := C5.trans (B6.mono C5.size)
    have C7 := Lib.hid (C6.trans (B7.mono C6.size))
    clear B3 B4 B5 B6 B7 C3 C4 C5 C6 C2
    go_wp2_with (go_at_call 24; refine (R1.out _).mono ?_; clear R1; rintro e w8 ⟨rfl, B8⟩)
    go_ret
    exact ⟨rfl, C7.out.trans (B8.mono C7.out.size)⟩
  | true =>
    cases hs : rightB B with
    | false =>
      have hX : lessF A B = false := by unfold lessF; rw [hs]; simp
      have hY : lessF B A = false := by unfold lessF; rw [hs]; rfl
      have hU : underF A B = false := by unfold underF; rw [hs]; simp
      rw [hX] at L1 D1
      rw [hY] at L2 D2
      rw [hU] at U1 V1
      rw [hr] at R1
      rw [hs] at R2
      clear hE
      clear hX hY hU hr hs
      obtain ⟨S, hS⟩ : ∃ S, sL A = S := ⟨_, rfl⟩
      obtain ⟨T, hT⟩ : ∃ T, sL B = T := ⟨_, rfl⟩
      rw [hS] at L1 L2 D1 D2 U1 U2 V1 R1 zA ⊢
      rw [hT] at L1 L2 D1 D2 U1 V1 R2 zB ⊢
      clear hS hT
      generalize A.length = N at *
      generalize B.length = M at *
      go_enter Tryd.func5, Tryd.ntmps5
      go_upto_region 4 with (first
        | (go_at_call 20; refine (L1.out _).mono ?_; clear L1; rintro e w1 ⟨rfl, B1⟩)
        | (go_at_call 20; refine (L2.out _).mono ?_; clear L2; rintro e w2 ⟨rfl, B2⟩))
      have C2 := Lib.hid (B1.trans (B2.mono B1.size))
      clear B1 B2
      go_upto_region 6 with (first
        | (go_at_call 10; refine (NA.out _).mono ?_; rintro e w3 ⟨rfl, B3⟩)
        | (go_at_call 21; refine (D1.out _).mono ?_; clear D1; rintro e w4 ⟨rfl, B4⟩)
        | (go_at_call 21; refine (D2.out _).mono ?_; clear D2; rintro e w5 ⟨rfl, B5⟩)
        | (go_at_call 22; refine (U1.out _).mono ?_; rintro e w6 ⟨rfl, B6⟩)
        | (go_at_call 23; refine (V1.out _).mono ?_; rintro e w7 ⟨rfl, B7⟩))
      have C3 := C2.out.trans (B3.mono C2.out.size)
      have C4 := C3.trans (B4.mono C3.size)
      have C5 := C4.trans (B5.mono C4.size)
      have C6 := C5.trans (B6.mono C5.size)
      have C7 := Lib.hid (C6.trans (B7.mono C6.size))
      clear B3 B4 B5 B6 B7 C3 C4 C5 C6 C2
      go_wp2_with (first
        | (go_at_call 24; refine (R1.out _).mono ?_; clear R1; rintro e w8 ⟨rfl, B8⟩)
        | (go_at_call 24; refine (R2.out _).mono ?_; clear R2; rintro e w9 ⟨rfl, B9⟩))
      go_ret
      have C8 := C7.out.trans (B8.mono C7.out.size)
      exact ⟨rfl, C8.trans (B9.mono C8.size)⟩
    | true =>
      by_cases hAB : A = B
      · have hE2 : decide (A = B) = true := decide_eq_true hAB
        have hX : lessF A B = false := by rw [hAB]; exact less_self B
        have hY : lessF B A = false := by rw [hAB]; exact less_self B
        have hU : underF A B = true := by rw [← hAB]; exact under_self hr
        rw [hX] at L1 D1
        rw [hY] at L2 D2
        rw [hU] at U1 V1
        rw [hr] at R1
        rw [hs] at R2
        rw [under_self hr] at U2
        rw [hE2] at hE
        clear hX hY hU hr hs hAB hE2
        obtain ⟨S, hS⟩ : ∃ S, sL A = S := ⟨_, rfl⟩
        obtain ⟨T, hT⟩ : ∃ T, sL B = T := ⟨_, rfl⟩
        rw [hS] at L1 L2 D1 D2 U1 U2 V1 R1 zA hE ⊢
        rw [hT] at L1 L2 D1 D2 U1 V1 R2 zB hE ⊢
        clear hS hT
        generalize A.length = N at *
        generalize B.length = M at *
        go_enter Tryd.func5, Tryd.ntmps5
        go_upto_region 4 with (first
          | (go_at_call 20; refine (L1.out _).mono ?_; clear L1; rintro e w1 ⟨rfl, B1⟩)
          | (go_at_call 20; refine (L2.out _).mono ?_; clear L2; rintro e w2 ⟨rfl, B2⟩))
        have C2 := Lib.hid (B1.trans (B2.mono B1.size))
        clear B1 B2
        go_upto_region 6 with (first
          | (go_at_call 10; refine (NA.out _).mono ?_; rintro e w3 ⟨rfl, B3⟩)
          | (go_at_call 21; refine (D1.out _).mono ?_; clear D1; rintro e w4 ⟨rfl, B4⟩)
          | (go_at_call 21; refine (D2.out _).mono ?_; clear D2; rintro e w5 ⟨rfl, B5⟩)
          | (go_at_call 22; refine (U1.out _).mono ?_; rintro e w6 ⟨rfl, B6⟩)
          | (go_at_call 23; refine (V1.out _).mono ?_; rintro e w7 ⟨rfl, B7⟩))
        have C3 := C2.out.trans (B3.mono C2.out.size)
        have C4 := C3.trans (B4.mono C3.size)
        have C5 := C4.trans (B5.mono C4.size)
        have C6 := C5.trans (B6.mono C5.size)
        have C7 := Lib.hid (C6.trans (B7.mono C6.size))
        clear B3 B4 B5 B6 B7 C3 C4 C5 C6 C2
        go_wp2_with (first
          | (go_at_call 24; refine (R1.out _).mono ?_; clear R1; rintro e w8 ⟨rfl, B8⟩)
          | (go_at_call 24; refine (R2.out _).mono ?_; clear R2; rintro e w9 ⟨rfl, B9⟩)
          | (go_at_call 22; refine (U1.out _).mono ?_; clear U1; rintro e w10 ⟨rfl, B10⟩)
          | (go_at_call 22; refine (U2.out _).mono ?_; clear U2; rintro e w11 ⟨rfl, B11⟩))
        go_ret
        have C8 := C7.out.trans (B8.mono C7.out.size)
        have C9 := C8.trans (B9.mono C8.size)
        have C10 := C9.trans (B10.mono C9.size)
        exact ⟨rfl, C10.trans (B11.mono C10.size)⟩
      · have hE2 : decide (A = B) = false := decide_eq_false hAB
        have ht := less_tri hr hs hAB
        cases hx : lessF A B with
        | true =>
          rw [hx] at ht
          have hnu : underF A B = false := by
            cases hu : underF A B with
            | false => rfl
            | true =>
              have := under_less hr hs hAB hu
              rw [ht] at this
              cases this
          have hX : lessF A B = true := by exact hx
          have hY : lessF B A = false := by exact ht
          have hU : underF A B = false := by exact hnu
          rw [hX] at L1 D1
          rw [hY] at L2 D2
          rw [hU] at U1 V1
          rw [hr] at R1
          rw [hs] at R2
          rw [under_self hr] at U2
          rw [hE2] at hE
          clear hX hY hU hr hs hAB hE2 ht hx hnu
          obtain ⟨S, hS⟩ : ∃ S, sL A = S := ⟨_, rfl⟩
          obtain ⟨T, hT⟩ : ∃ T, sL B = T := ⟨_, rfl⟩
          rw [hS] at L1 L2 D1 D2 U1 U2 V1 R1 zA hE ⊢
          rw [hT] at L1 L2 D1 D2 U1 V1 R2 zB hE ⊢
          clear hS hT
          generalize A.length = N at *
          generalize B.length = M at *
          go_enter Tryd.func5, Tryd.ntmps5
          go_upto_region 4 with (first
            | (go_at_call 20; refine (L1.out _).mono ?_; clear L1; rintro e w1 ⟨rfl, B1⟩)
            | (go_at_call 20; refine (L2.out _).mono ?_; clear L2; rintro e w2 ⟨rfl, B2⟩))
          have C2 := Lib.hid (B1.trans (B2.mono B1.size))
          clear B1 B2
          go_upto_region 6 with (first
            | (go_at_call 10; refine (NA.out _).mono ?_; rintro e w3 ⟨rfl, B3⟩)
            | (go_at_call 21; refine (D1.out _).mono ?_; clear D1; rintro e w4 ⟨rfl, B4⟩)
            | (go_at_call 21; refine (D2.out _).mono ?_; clear D2; rintro e w5 ⟨rfl, B5⟩)
            | (go_at_call 22; refine (U1.out _).mono ?_; rintro e w6 ⟨rfl, B6⟩)
            | (go_at_call 23; refine (V1.out _).mono ?_; rintro e w7 ⟨rfl, B7⟩))
          have C3 := C2.out.trans (B3.mono C2.out.size)
          have C4 := C3.trans (B4.mono C3.size)
          have C5 := C4.trans (B5.mono C4.size)
          have C6 := C5.trans (B6.mono C5.size)
          have C7 := Lib.hid (C6.trans (B7.mono C6.size))
          clear B3 B4 B5 B6 B7 C3 C4 C5 C6 C2
          go_wp2_with (first
            | (go_at_call 24; refine (R1.out _).mono ?_; clear R1; rintro e w8 ⟨rfl, B8⟩)
            | (go_at_call 24; refine (R2.out _).mono ?_; clear R2; rintro e w9 ⟨rfl, B9⟩)
            | (go_at_call 22; refine (U1.out _).mono ?_; clear U1; rintro e w10 ⟨rfl, B10⟩)
            | (go_at_call 22; refine (U2.out _).mono ?_; clear U2; rintro e w11 ⟨rfl, B11⟩))
          go_ret
          have C8 := C7.out.trans (B8.mono C7.out.size)
          have C9 := C8.trans (B9.mono C8.size)
          have C10 := C9.trans (B10.mono C9.size)
          exact ⟨rfl, C10.trans (B11.mono C10.size)⟩
        | false =>
          rw [hx] at ht
          cases hu : underF A B with
          | false =>
            have hX : lessF A B = false := by exact hx
            have hY : lessF B A = true := by exact ht
            have hU : underF A B = false := by exact hu
            rw [hX] at L1 D1
            rw [hY] at L2 D2
            rw [hU] at U1 V1
            rw [hr] at R1
            rw [hs] at R2
            rw [under_self hr] at U2
            rw [hE2] at hE
            clear hX hY hU hr hs hAB hE2 ht hx hu
            obtain ⟨S, hS⟩ : ∃ S, sL A = S := ⟨_, rfl⟩
            obtain ⟨T, hT⟩ : ∃ T, sL B = T := ⟨_, rfl⟩
            rw [hS] at L1 L2 D1 D2 U1 U2 V1 R1 zA hE ⊢
            rw [hT] at L1 L2 D1 D2 U1 V1 R2 zB hE ⊢
            clear hS hT
            generalize A.length = N at *
            generalize B.length = M at *
            go_enter Tryd.func5, Tryd.ntmps5
            go_upto_region 4 with (first
              | (go_at_call 20; refine (L1.out _).mono ?_; clear L1; rintro e w1 ⟨rfl, B1⟩)
              | (go_at_call 20; refine (L2.out _).mono ?_; clear L2; rintro e w2 ⟨rfl, B2⟩))
            have C2 := Lib.hid (B1.trans (B2.mono B1.size))
            clear B1 B2
            go_upto_region 6 with (first
              | (go_at_call 10; refine (NA.out _).mono ?_; rintro e w3 ⟨rfl, B3⟩)
              | (go_at_call 21; refine (D1.out _).mono ?_; clear D1; rintro e w4 ⟨rfl, B4⟩)
              | (go_at_call 21; refine (D2.out _).mono ?_; clear D2; rintro e w5 ⟨rfl, B5⟩)
              | (go_at_call 22; refine (U1.out _).mono ?_; rintro e w6 ⟨rfl, B6⟩)
              | (go_at_call 23; refine (V1.out _).mono ?_; rintro e w7 ⟨rfl, B7⟩))
            have C3 := C2.out.trans (B3.mono C2.out.size)
            have C4 := C3.trans (B4.mono C3.size)
            have C5 := C4.trans (B5.mono C4.size)
            have C6 := C5.trans (B6.mono C5.size)
            have C7 := Lib.hid (C6.trans (B7.mono C6.size))
            clear B3 B4 B5 B6 B7 C3 C4 C5 C6 C2
            go_wp2_with (first
              | (go_at_call 24; refine (R1.out _).mono ?_; clear R1; rintro e w8 ⟨rfl, B8⟩)
              | (go_at_call 24; refine (R2.out _).mono ?_; clear R2; rintro e w9 ⟨rfl, B9⟩)
              | (go_at_call 22; refine (U1.out _).mono ?_; clear U1; rintro e w10 ⟨rfl, B10⟩)
              | (go_at_call 22; refine (U2.out _).mono ?_; clear U2; rintro e w11 ⟨rfl, B11⟩))
            go_ret
            have C8 := C7.out.trans (B8.mono C7.out.size)
            have C9 := C8.trans (B9.mono C8.size)
            have C10 := C9.trans (B10.mono C9.size)
            exact ⟨rfl, C10.trans (B11.mono C10.size)⟩
          | true =>
            have hX : lessF A B = false := by exact hx
            have hY : lessF B A = true := by exact ht
            have hU : underF A B = true := by exact hu
            rw [hX] at L1 D1
            rw [hY] at L2 D2
            rw [hU] at U1 V1
            rw [hr] at R1
            rw [hs] at R2
            rw [under_self hr] at U2
            rw [hE2] at hE
            clear hX hY hU hr hs hAB hE2 ht hx hu
            obtain ⟨S, hS⟩ : ∃ S, sL A = S := ⟨_, rfl⟩
            obtain ⟨T, hT⟩ : ∃ T, sL B = T := ⟨_, rfl⟩
            rw [hS] at L1 L2 D1 D2 U1 U2 V1 R1 zA hE ⊢
            rw [hT] at L1 L2 D1 D2 U1 V1 R2 zB hE ⊢
            clear hS hT
            generalize A.length = N at *
            generalize B.length = M at *
            go_enter Tryd.func5, Tryd.ntmps5
            go_upto_region 4 with (first
              | (go_at_call 20; refine (L1.out _).mono ?_; clear L1; rintro e w1 ⟨rfl, B1⟩)
              | (go_at_call 20; refine (L2.out _).mono ?_; clear L2; rintro e w2 ⟨rfl, B2⟩))
            have C2 := Lib.hid (B1.trans (B2.mono B1.size))
            clear B1 B2
            go_upto_region 6 with (first
              | (go_at_call 10; refine (NA.out _).mono ?_; rintro e w3 ⟨rfl, B3⟩)
              | (go_at_call 21; refine (D1.out _).mono ?_; clear D1; rintro e w4 ⟨rfl, B4⟩)
              | (go_at_call 21; refine (D2.out _).mono ?_; clear D2; rintro e w5 ⟨rfl, B5⟩)
              | (go_at_call 22; refine (U1.out _).mono ?_; rintro e w6 ⟨rfl, B6⟩)
              | (go_at_call 23; refine (V1.out _).mono ?_; rintro e w7 ⟨rfl, B7⟩))
            have C3 := C2.out.trans (B3.mono C2.out.size)
            have C4 := C3.trans (B4.mono C3.size)
            have C5 := C4.trans (B5.mono C4.size)
            have C6 := C5.trans (B6.mono C5.size)
            have C7 := Lib.hid (C6.trans (B7.mono C6.size))
            clear B3 B4 B5 B6 B7 C3 C4 C5 C6 C2
            go_wp2_with (first
              | (go_at_call 24; refine (R1.out _).mono ?_; clear R1; rintro e w8 ⟨rfl, B8⟩)
              | (go_at_call 24; refine (R2.out _).mono ?_; clear R2; rintro e w9 ⟨rfl, B9⟩)
              | (go_at_call 22; refine (U1.out _).mono ?_; clear U1; rintro e w10 ⟨rfl, B10⟩)
              | (go_at_call 22; refine (U2.out _).mono ?_; clear U2; rintro e w11 ⟨rfl, B11⟩))
            go_ret
            have C8 := C7.out.trans (B8.mono C7.out.size)
            have C9 := C8.trans (B9.mono C8.size)
            have C10 := C9.trans (B10.mono C9.size)
            exact ⟨rfl, C10.trans (B11.mono C10.size)⟩
theorem walk {H : Type} {enc : TypeId × Value → H} (w : World) (base : Nat) (v0 v1 : Value) (d0 d1 : DataW H) (p0 p1 : List MemPlace)
    (k0 : Value.okWide Tryd.prog w .any base 9 v0) (k1 : Value.okWide Tryd.prog w .any base 9 v1)
    (h0 : DataW.Trod enc Tryd.prog w 0 (fun _ => true) true 9 v0 d0 p0) (h1 : DataW.Trod enc Tryd.prog w 0 (fun _ => true) true 9 v1 d1 p1) (tab : Tab w) :
    Calls Tryd.prog 5 #[v0, v1] w fun e w' => e = .returned (.bool true) ∧ Below w.heap.size w w' := by
  obtain ⟨f, n, rfl, hn⟩ := open_text k0 h0
  obtain ⟨g, m, rfl, hm⟩ := open_text k1 h1
  rw [of_sL, of_sL]
  exact orders _ _ w
set_option maxRecDepth 100000 in
theorem lifted (os : Os) (started : os.Started) (H : Type) (enc : TypeId × Value → H) :
    ReturnsInHanded {} Tryd.checked os 5 .any (fun w args => (Rows.nameOrdersSpec.pre enc Tryd.prog Tryd.f5 [] false w args ∧ laidMetH Tryd.prog laids w) ∧ sizedMet enc Tryd.prog Tryd.f5 (OpenSpec.ofChange Rows.nameOrdersSpec) false w args)
      (Rows.nameOrdersSpec.post enc Tryd.prog Tryd.f5 false true false false) := by
  refine returnsInHanded_of_change_and (C := Tryd.checked) (X := fun w _ => laidMetH Tryd.prog laids w) (fun _ _ _ hh h => h.of_heap hh) own started (by kernel_rfl) Tryd.func5
    (ChangeSpec.witness_shaped (enc := enc) (C := Tryd.checked) (os := os) (X := fun w _ => laidMetH Tryd.prog laids w) false (World.laidAll Tryd.prog os laids) #[.string ⟨#[]⟩, .string ⟨#[]⟩] 8 (World.laidAll_os _ _ _) (start_shaped os) (by kernel_rfl) (by kernel_rfl) (by kernel_rfl) (start_met os _)) ?_
  intro W base args ds gs before hval0 hW _ _ hL _
  have hval : ∀ (j : Nat) t v, Tryd.f5.params[j]? = some t → args[j]? = some v → Value.okWide Tryd.prog W .any base t v := hval0
  have hW' := hW
  obtain ⟨p, q, hA0, hV, rfl, hfz, hnd⟩ := hW
  have hA : DataW.TrodAll enc Tryd.prog W 0 (fun _ => true) true Tryd.f5.params.toList args.toList ds p := hA0
  rw [Tryd.params5] at hA hval
  obtain ⟨v0, vs0, d0, ds0, p0, q0, hargs, rfl, rfl, h0, r0⟩ := trodAll_cons hA
  obtain ⟨v1, vs1, d1, ds1, p1, q1, rfl, rfl, rfl, h1, r1⟩ := trodAll_cons r0
  obtain ⟨rfl, rfl, rfl⟩ := trodAll_nil r1
  obtain rfl : args = #[v0, v1] := by cases args; simp_all
  obtain ⟨rfl, rfl⟩ := trodVars_none hV
  have k0 := h0
  have lt0 : ∀ x ∈ p0, x.block < W.heap.size := by obtain ⟨m, hm⟩ := k0; exact DataW.trod_lt m _ _ _ hm
  have k1 := h1
  have lt1 : ∀ x ∈ p1, x.block < W.heap.size := by obtain ⟨m, hm⟩ := k1; exact DataW.trod_lt m _ _ _ hm
  clear hA0 hval0
  refine (walk W base v0 v1 d0 d1 p0 p1 (hval 0 9 v0 rfl rfl) (hval 1 9 v1 rfl rfl) k0 k1 (tab_of_laid hL)).mono fun e W' ⟨he, bel⟩ => ?_
  subst he
  exact ⟨_, rfl, _, _, _, [], _, [], hW', trodAll_mk1 (shut_bool Tryd.underlying4 _), (trodAll_cons_mk (Below.trod laidOut (by kernel_rfl) (of_decide_eq_true (by kernel_rfl)) k0 bel lt0) (trodAll_cons_mk (Below.trod laidOut (by kernel_rfl) (of_decide_eq_true (by kernel_rfl)) k1 bel lt1) trodAll_mk0)), rfl, bel.frame _, fun h => by cases h⟩
theorem over : Rows.NameOrdersSaid :=
  OpenClaim.holds_of_wide 5 Tryd.f5 rfl rfl rfl rfl rfl rfl rfl ⟨rfl, rfl, rfl, rfl, rfl⟩ rfl rfl rfl rfl rfl (by kernel_rfl) Tryd.func5 (by kernel_rfl)
    (of_decide_eq_true (by kernel_rfl)) (by unfold Func.isWrapper; first | (rw [if_pos (by decide +kernel)]; kernel_rfl) | (rw [if_neg (by decide +kernel)]; exact ⟨rfl, rfl⟩))
    (fun os started H enc _ => lifted os started H enc)
theorem proved : Rows.NameOrdersCardSaid :=
  Claim7.holds_tied_plain_at .later [] [.data, .pinned] true (true, "a336e95820cb47316d908a953aeda393682601dff52183cff9eb8b64e99883a2") false
    over (fun _ h => by cases h) (by kernel_rfl) (fun _ h => by cases h) nameOrders_row_tie rfl ⟨rfl, rfl⟩ (by kernel_rfl) rfl
    (fun f fn hf hfn => by
      obtain rfl : f = 5 := Option.some.inj ((show Tryd.prog.funcNamed "rhyne/rhynelaw17.NameOrders" = some 5 by kernel_rfl).symm.trans hf) |>.symm
      obtain rfl : fn = Tryd.f5 := (Option.some.inj (Tryd.func5.symm.trans hfn)).symm
      exact ⟨by kernel_rfl, fun j t ht => by
        rw [Tryd.params5] at ht
        have hm : t ∈ [9, 9] := by simpa using Array.mem_of_getElem? ht
        have hall : ([9, 9].all fun u => !Tryd.prog.wantsStandIn u) = true := by kernel_rfl
        exact (show Tryd.prog.wantsStandIn t = false by simpa using List.all_eq_true.1 hall t hm)⟩)
    (by kernel_rfl)
end Go.Proofs.YtddpfbeclmgndaaDoor.nameOrders
