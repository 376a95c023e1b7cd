/-
  name: Less.
-/
import Derived.Test.YtddpfbeclmgndaaDoorNmK
namespace Go.Proofs.YtddpfbeclmgndaaDoor
open Go Go.RowKit Go.BigFrame
set_option linter.unusedSimpArgs false
set_option linter.unusedVariables false
set_option maxHeartbeats 4000000 in
set_option maxRecDepth 100000 in
theorem less_left (A B : List (BitVec 8)) (w : World) (hA : A.length ≤ 4611686018427387904) (hr : rightB A = false) : Calls Tryd.prog 20 #[.string (sL A), .string (sL B)] w fun e w' => e = .returned (.bool false) ∧ Below w.heap.size w w' := by
  have H1 := Lib.hid (fun w => isName_any A w hA)
  rw [hr] at H1
  generalize sL A = S at *
  generalize sL B = T at *
  go_enter Tryd.func20, Tryd.ntmps20
  go_wp2_with (go_at_call 29; refine (H1.out _).mono ?_; rintro e w1 ⟨rfl, B1⟩)
  go_ret
  exact ⟨rfl, B1⟩
set_option maxHeartbeats 4000000 in
set_option maxRecDepth 100000 in
theorem less_right (A B : List (BitVec 8)) (w : World) (hB : B.length ≤ 4611686018427387904) (hr : rightB A = true) (hs : rightB B = false) : Calls Tryd.prog 20 #[.string (sL A), .string (sL B)] w fun e w' => e = .returned (.bool false) ∧ Below w.heap.size w w' := by
  have hA := right_le hr
  have H1 := Lib.hid (fun w => isName_any A w (by omega))
  have H2 := Lib.hid (fun w => isName_any B w hB)
  rw [hr] at H1
  rw [hs] at H2
  obtain ⟨S, hS⟩ : ∃ S, sL A = S := ⟨_, rfl⟩
  obtain ⟨T, hT⟩ : ∃ T, sL B = T := ⟨_, rfl⟩
  rw [hS] at H1 ⊢
  rw [hT] at H2 ⊢
  clear hS hT
  go_enter Tryd.func20, Tryd.ntmps20
  go_upto_region 2 with (first | (go_at_call 29; refine (H1.out _).mono ?_; clear H1; rintro e w1 ⟨rfl, B1⟩) | (go_at_call 29; refine (H2.out _).mono ?_; rintro e w2 ⟨rfl, B2⟩))
  go_wp2_with fail
  go_ret
  exact ⟨rfl, B1.trans (B2.mono B1.size)⟩
/-- How long a text is. -/
def strLen : Value → Nat
  | .string s => s.size
  | _ => 0
set_option maxHeartbeats 4000000 in
set_option maxRecDepth 100000 in
theorem less_ok (A B : List (BitVec 8)) (w : World) (hr : rightB A = true) (hs : rightB B = true) : Calls Tryd.prog 20 #[.string (sL A), .string (sL B)] w fun e w' => e = .returned (.bool (lessR (labF A).reverse (labF B).reverse)) ∧ Below w.heap.size w w' := by
  have hA := right_le hr
  have hB := right_le hs
  have H1 := Lib.hid (fun w => isName_any A w (by omega))
  have H2 := Lib.hid (fun w => isName_any B w (by omega))
  rw [hr] at H1
  rw [hs] at H2
  have T1 := Lib.hid (fun w => trimSuffix_any A [46#8] w (by omega))
  have T2 := Lib.hid (fun w => trimSuffix_any B [46#8] w (by omega))
  rw [sL_dot, trim_join hr] at T1
  rw [sL_dot, trim_join hs] at T2
  have PA := Lib.hid (lab_part hr)
  have PB := Lib.hid (lab_part hs)
  have lA := trim_le A [46#8]
  have lB := trim_le B [46#8]
  rw [trim_join hr] at lA
  rw [trim_join hs] at lB
  have LA := Lib.hid (show (joinD (labF A)).length ≤ 255 by omega)
  have LB := Lib.hid (show (joinD (labF B)).length ≤ 255 by omega)
  clear lA lB hr hs
  obtain ⟨S, hS⟩ : ∃ S, sL A = S := ⟨_, rfl⟩
  obtain ⟨T, hT⟩ : ∃ T, sL B = T := ⟨_, rfl⟩
  rw [hS] at H1 T1 ⊢
  rw [hT] at H2 T2 ⊢
  clear hS hT
  generalize labF A = P at *
  generalize labF B = Q at *
  obtain ⟨R, hR⟩ : ∃ R, lessR P.reverse Q.reverse = R := ⟨_, rfl⟩
  rw [hR]
  have HR := Lib.hid hR
  clear hR
  go_enter Tryd.func20, Tryd.ntmps20
  go_upto_region 2 with (first | (go_at_call 29; refine (H1.out _).mono ?_; clear H1; rintro e w1 ⟨rfl, B1⟩) | (go_at_call 29; refine (H2.out _).mono ?_; clear H2; rintro e w2 ⟨rfl, B2⟩))
  have BB : Hid (Below w.heap.size w w2) := B1.trans (B2.mono B1.size)
  clear B1 B2
  go_wp2_with (first | (go_at_call 31; refine (T1.out _).mono ?_; clear T1; rintro e w' ⟨rfl, rfl⟩) | (go_at_call 31; refine (T2.out _).mono ?_; clear T2; rintro e w' ⟨rfl, rfl⟩))
  go_loopw [0, 1] (fun s0 s1 wr => ∃ ps qs : List (List (BitVec 8)), s0 = .string (sL (joinD ps)) ∧ s1 = .string (sL (joinD qs)) ∧ Hid (∀ p ∈ ps, isPartB p = true) ∧ Hid (∀ p ∈ qs, isPartB p = true) ∧ Hid ((joinD ps).length ≤ 255) ∧ Hid ((joinD qs).length ≤ 255) ∧ Hid (lessR ps.reverse qs.reverse = R) ∧ Hid (Below w.heap.size w wr)) (fun s0 _ _ => strLen s0)
  case atStart => exact ⟨P, Q, rfl, rfl, PA, PB, LA, LB, HR, BB⟩
  case round =>
    clear PA PB LA LB HR BB
    obtain ⟨ps, qs, rfl, rfl, PA, PB, LA, LB, HR, BB⟩ := hrel
    rcases List.eq_nil_or_concat ps with rfl | ⟨ps, p, rfl⟩
    · have hv : R = decide (qs ≠ []) := by rw [← HR.out]; simp only [List.reverse_nil, lessR, ne_eq, List.reverse_eq_nil_iff]
      have HV := Lib.hid hv
      have e1 : (sL (joinD [])).toList.isEmpty = true := by rw [sL_list]; rfl
      by_cases hq : qs = []
      · have e2 : (sL (joinD qs)).toList.isEmpty = true := by rw [hq]; exact e1
        have HQ := Lib.hid hq
        clear hv hq
        generalize sL (joinD []) = X at *
        generalize sL (joinD qs) = Y at *
        go_wp2_with fail
        go_ret
        exact ⟨by rw [HV.out, HQ.out]; rfl, BB.out⟩
      · have e2 : (sL (joinD qs)).toList.isEmpty = false := by
          rw [sL_list]
          have := mt (join_nil PB.out).1 hq
          simp [this]
        have HQ := Lib.hid hq
        clear hv hq
        generalize sL (joinD []) = X at *
        generalize sL (joinD qs) = Y at *
        go_wp2_with fail
        go_ret
        exact ⟨by rw [HV.out, decide_eq_true HQ.out]; rfl, BB.out⟩
    · rw [List.concat_eq_append] at *
      have hne : joinD (ps ++ [p]) ≠ [] := mt (join_nil PA.out).1 (by simp)
      have e1 : (sL (joinD (ps ++ [p]))).toList.isEmpty = false := by
        rw [sL_list]
        simp [hne]
      have HN := Lib.hid hne
      clear hne
      rcases List.eq_nil_or_concat qs with rfl | ⟨qs, q, rfl⟩
      · have hv : R = false := by rw [← HR.out, List.reverse_append]; rfl
        have HV := Lib.hid hv
        have e2 : (sL (joinD [])).toList.isEmpty = true := by rw [sL_list]; rfl
        clear hv
        generalize sL (joinD []) = Y at *
        generalize sL (joinD (ps ++ [p])) = X at *
        go_wp2_with fail
        go_ret
        exact ⟨by rw [HV.out]; rfl, BB.out⟩
      · rw [List.concat_eq_append] at *
        have hne : joinD (qs ++ [q]) ≠ [] := mt (join_nil PB.out).1 (by simp)
        have e2 : (sL (joinD (qs ++ [q]))).toList.isEmpty = false := by
          rw [sL_list]
          simp [hne]
        clear hne
        have hp := dot_part (PA.out p (by simp))
        have hq := dot_part (PB.out q (by simp))
        have C1 := Lib.hid (fun w => cutHighest_any (joinD (ps ++ [p])) w (by have := LA.out; omega))
        have C2 := Lib.hid (fun w => cutHighest_any (joinD (qs ++ [q])) w (by have := LB.out; omega))
        rw [cutH_join ps p hp] at C1
        rw [cutH_join qs q hq] at C2
        have hE := sL_beq p q
        have hv : (if p = q then lessR ps.reverse qs.reverse else ltB p q) = R := by rw [← HR.out, List.reverse_append, List.reverse_append]; rfl
        have HL : Hid ((joinD ps).length < (joinD (ps ++ [p])).length) := join_lt ps p (part_ne (PA.out p (by simp)))
        have HX : Hid ((joinD (ps ++ [p])).length = (sL (joinD (ps ++ [p]))).size) := (sL_size _).symm
        by_cases hpq : p = q
        · rw [decide_eq_true hpq] at hE
          rw [if_pos hpq] at hv
          have HV := Lib.hid hv
          clear hv hpq hp hq
          generalize sL (joinD (ps ++ [p])) = X at *
          generalize sL (joinD (qs ++ [q])) = Y at *
          generalize sL p = X1 at *
          generalize sL q = Y1 at *
          go_wp2_with (first | (go_at_call 36; refine (C1.out _).mono ?_; clear C1; rintro e w3 ⟨rfl, B3⟩) | (go_at_call 36; refine (C2.out _).mono ?_; clear C2; rintro e w4 ⟨rfl, B4⟩))
          have le : (joinD qs).length ≤ 255 := by
            have h1 := join_lt qs q (part_ne (PB.out q (by simp)))
            have h2 := LB.out
            omega
          refine ⟨⟨ps, qs, rfl, rfl, fun r hr => PA.out r (by simp [hr]), fun r hr => PB.out r (by simp [hr]), by have h1 := HL.out; have h2 := LA.out; exact (by omega : (joinD ps).length ≤ 255), le, HV.out, BB.out.trans ((B3.trans (B4.mono B3.size)).mono BB.out.size)⟩, ?_⟩
          show (sL (joinD ps)).size < X.size
          rw [← HX.out, sL_size]
          exact HL.out
        · rw [decide_eq_false hpq] at hE
          rw [if_neg hpq] at hv
          have HV := Lib.hid hv
          clear hv hpq hp hq
          generalize sL (joinD (ps ++ [p])) = X at *
          generalize sL (joinD (qs ++ [q])) = Y at *
          generalize hX1 : sL p = X1 at *
          generalize hY1 : sL q = Y1 at *
          go_wp2_with (first | (go_at_call 36; refine (C1.out _).mono ?_; clear C1; rintro e w3 ⟨rfl, B3⟩) | (go_at_call 36; refine (C2.out _).mono ?_; clear C2; rintro e w4 ⟨rfl, B4⟩))
          go_ret
          have hb : Op.bytesLess X1.toList Y1.toList = R := by
            rw [← HV.out, ← hX1, ← hY1, sL_list, sL_list]
            rfl
          exact ⟨by rw [← hb]; rfl, BB.out.trans ((B3.trans (B4.mono B3.size)).mono BB.out.size)⟩
theorem less_any (A B : List (BitVec 8)) (w : World) (hA : A.length ≤ 4611686018427387904) (hB : B.length ≤ 4611686018427387904) : Calls Tryd.prog 20 #[.string (sL A), .string (sL B)] w fun e w' => e = .returned (.bool (lessF A B)) ∧ Below w.heap.size w w' := by
  unfold lessF
  cases hr : rightB A with
  | false => exact less_left A B w hA hr
  | true =>
    cases hs : rightB B with
    | false => exact less_right A B w hB hr hs
    | true => exact less_ok A B w hr hs
end Go.Proofs.YtddpfbeclmgndaaDoor
