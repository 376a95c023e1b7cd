/-
  name: the document's Under.
-/
import Derived.Test.YtddpfbeclmgndaaDoorNnC
namespace Go.Proofs.YtddpfbeclmgndaaDoor
open Go Go.RowKit Go.BigFrame
set_option linter.unusedSimpArgs false
set_option linter.unusedVariables false
theorem suf_of_at {P Q : List (List (BitVec 8))} (hl : Q.length ≤ P.length) (h : ∀ j, j < Q.length → P[P.length - Q.length + j]? = Q[j]?) : Q <:+ P := by
  refine ⟨P.take (P.length - Q.length), ?_⟩
  have e : P.drop (P.length - Q.length) = Q := by
    apply List.ext_getElem?
    intro j
    rw [List.getElem?_drop]
    by_cases hj : j < Q.length
    · exact h j hj
    · rw [List.getElem?_eq_none (by omega), List.getElem?_eq_none (by omega)]
  conv => lhs; rhs; rw [← e]
  exact List.take_append_drop _ _
theorem at_of_suf {P Q : List (List (BitVec 8))} (h : Q <:+ P) (j : Nat) (hj : j < Q.length) : P[P.length - Q.length + j]? = Q[j]? := by
  obtain ⟨M, rfl⟩ := h
  rw [List.length_append, Nat.add_sub_cancel, List.getElem?_append_right (by omega)]
  congr 1
  omega
set_option maxHeartbeats 4000000 in
set_option maxRecDepth 100000 in
theorem docUnder_ok (A B : List (BitVec 8)) (w : World) (hr : rightB A = true) (hs : rightB B = true) : Calls Tryd.prog 23 #[.string (sL A), .string (sL B)] w fun e w' => e = .returned (.bool (decide (labF B <:+ labF A))) ∧ Below w.heap.size w w' := by
  have hA := right_le hr
  have hB := right_le hs
  have D1 := Lib.hid (fun w => docLabels_any A w (by omega))
  have D2 := Lib.hid (fun w => docLabels_any B w (by omega))
  have P1 := Lib.hid (dl_ok hr)
  have P2 := Lib.hid (dl_ok hs)
  have nA := lab_le hr
  have nB := lab_le hs
  obtain ⟨S, hS⟩ : ∃ S, sL A = S := ⟨_, rfl⟩
  obtain ⟨T, hT⟩ : ∃ T, sL B = T := ⟨_, rfl⟩
  rw [hS] at D1 ⊢
  rw [hT] at D2 ⊢
  clear hS hT hr hs
  obtain ⟨P, hP⟩ : ∃ P, labF A = P := ⟨_, rfl⟩
  obtain ⟨Q, hQ⟩ : ∃ Q, labF B = Q := ⟨_, rfl⟩
  rw [hP] at P1 nA ⊢
  rw [hQ] at P2 nB ⊢
  clear hP hQ
  obtain ⟨R, hR⟩ : ∃ R, decide (Q <:+ P) = R := ⟨_, rfl⟩
  rw [hR]
  have HR := Lib.hid hR
  clear hR
  obtain ⟨n, hn⟩ : ∃ n, P.length = n := ⟨_, rfl⟩
  obtain ⟨m, hm⟩ : ∃ m, Q.length = m := ⟨_, rfl⟩
  rw [hn] at nA
  rw [hm] at nB
  have HN := Lib.hid hn
  have HM := Lib.hid hm
  clear hn hm
  go_enter Tryd.func23, Tryd.ntmps23
  go_upto_region 3 with (first | (go_at_call 11; refine (D1.out _).mono ?_; clear D1; rintro e w1 ⟨v1, c1, rfl, hp1, B1⟩) | (go_at_call 11; refine (D2.out _).mono ?_; clear D2; rintro e w2 ⟨v2, c2, rfl, hp2, B2⟩))
  have BB := Lib.hid (B1.trans (B2.mono B1.size))
  obtain ⟨rfl, R1⟩ := P1.out _ _ _ _ hp1
  obtain ⟨rfl, R2⟩ := P2.out _ _ _ _ hp2
  have R1' := R1.later B2
  obtain ⟨oa, oc, hv⟩ := R1.shape
  obtain ⟨ob, od, hu⟩ := R2.shape
  subst hv hu
  rw [HN.out] at R1' ⊢
  rw [HM.out] at R2 ⊢
  have T1 := Lib.hid R1'
  have T2 := Lib.hid R2
  clear hp1 hp2 B1 B2 R1 R1' R2 P1 P2
  by_cases hmn : n < m
  · have hmn' : (n : Int) < (m : Int) := by omega
    have hv : R = false := by
      rw [← HR.out, decide_eq_false_iff_not]
      intro h
      have := h.length_le
      rw [HN.out, HM.out] at this
      omega
    have HV := Lib.hid hv
    clear hv
    go_wp2_with fail
    go_ret
    exact ⟨by rw [HV.out]; rfl, BB.out⟩
  · have hmn' : ¬ (n : Int) < (m : Int) := by omega
    go_wp2_with fail
    go_loopw [9] (fun s9 wr => ∃ i : Nat, i ≤ m ∧ s9 = .int .i64 (i : Int) ∧ Hid (∀ j, j < i → P[n - m + j]? = Q[j]?) ∧ Hid (Below w2.heap.size w2 wr)) (fun s9 _ => m - (intOf s9).toNat)
    case atStart => exact ⟨0, by omega, rfl, fun j hj => absurd hj (Nat.not_lt_zero j), Below.refl _ _⟩
    case round =>
      obtain ⟨i, hi, rfl, HA, HB⟩ := hrel
      by_cases him : i < m
      · have him' : (i : Int) < (m : Int) := by omega
        obtain ⟨x, hx⟩ : ∃ x, n - m + i = x := ⟨_, rfl⟩
        have hxl : x < P.length := by rw [HN.out]; omega
        have hil : i < Q.length := by rw [HM.out]; exact him
        obtain ⟨g, cp, hv, hnc, hcm, hc, -, hg⟩ := T1.out.at x hxl
        obtain ⟨g2, cp2, hu, hnc2, hcm2, hc2, -, hg2⟩ := T2.out.at i hil
        rw [HN.out] at hv hnc
        rw [HM.out] at hu hnc2
        injection hv with hv hv2 hv3
        injection hu with hu hu2 hu3
        subst hv hv3 hu hu3
        have hE := sL_beq P[x] Q[i]
        have hxi : (n : Int) - (m : Int) + (i : Int) = (x : Int) := by omega
        have hx1 : (x : Int) < (n : Int) := by rw [HN.out] at hxl; omega
        have gx : P[x]? = some P[x] := List.getElem?_eq_getElem hxl
        have gi : Q[i]? = some Q[i] := List.getElem?_eq_getElem hil
        have d1 : wr.drew.cell? ⟨g, x, none⟩ = some (.string (sL P[x])) := (HB.out.cell (p := ⟨g, x, none⟩) hg).trans hc
        have d2 : wr.drew.cell? ⟨g2, i, none⟩ = some (.string (sL Q[i])) := (HB.out.cell (p := ⟨g2, i, none⟩) hg2).trans hc2
        have HX := Lib.hid hx
        clear hc hc2 hv2 hu2 hx
        by_cases hpq : P[x] = Q[i]
        · rw [decide_eq_true hpq] at hE
          have hnext : ∀ j, j < i + 1 → P[n - m + j]? = Q[j]? := fun j hj => by
            by_cases e : j = i
            · rw [e, HX.out, gx, gi, hpq]
            · exact HA.out j (by omega)
          have HNX := Lib.hid hnext
          clear hnext hpq gx gi
          generalize sL P[x] = D at *
          generalize sL Q[i] = D2 at *
          go_upto_region 8 with fail
          go_region
          go_wp2_with fail
          go_roundw
          case rel => exact ⟨i + 1, by omega, by rw [Int.natCast_add]; rfl, HNX.out, HB.out.drew⟩
          case measure => simp only [intOf]; omega
        · rw [decide_eq_false hpq] at hE
          have hv : R = false := by
            rw [← HR.out, decide_eq_false_iff_not]
            intro h
            have h2 := at_of_suf h i hil
            rw [HN.out, HM.out, HX.out, gx, gi] at h2
            exact hpq (Option.some.inj h2)
          have HV := Lib.hid hv
          clear hv hpq gx gi
          generalize sL P[x] = D at *
          generalize sL Q[i] = D2 at *
          go_upto_region 8 with fail
          go_region
          go_wp2_with fail
          go_ret
          exact ⟨by rw [HV.out]; rfl, BB.out.trans (HB.out.drew.mono BB.out.size)⟩
      · have him' : ¬ (i : Int) < (m : Int) := by omega
        have ei : i = m := by omega
        subst ei
        have hv : R = true := by
          rw [← HR.out, decide_eq_true_eq]
          refine suf_of_at (by rw [HN.out, HM.out]; omega) fun j hj => ?_
          rw [HN.out, HM.out]
          exact HA.out j (by rw [HM.out] at hj; exact hj)
        have HV := Lib.hid hv
        clear hv
        go_wp2_with fail
        go_ret
        exact ⟨by rw [HV.out]; rfl, BB.out.trans (HB.out.mono BB.out.size)⟩
theorem docUnder_any (A B : List (BitVec 8)) (w : World) (hA : A.length ≤ 100000) (hB : B.length ≤ 100000) : Calls Tryd.prog 23 #[.string (sL A), .string (sL B)] w fun e w' => e = .returned (.bool (underF A B)) ∧ Below w.heap.size w w' := by
  unfold underF
  cases hr : rightB A with
  | false => exact docUnder_bad A B w hA hB (.inl hr)
  | true =>
    cases hs : rightB B with
    | false => exact docUnder_bad A B w hA hB (.inr hs)
    | true =>
      have := docUnder_ok A B w hr hs
      simpa using this
end Go.Proofs.YtddpfbeclmgndaaDoor
