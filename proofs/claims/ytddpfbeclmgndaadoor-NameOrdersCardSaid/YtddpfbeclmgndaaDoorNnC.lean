/-
  name: the document's Less and Under.
-/
import Derived.Test.YtddpfbeclmgndaaDoorNnB
namespace Go.Proofs.YtddpfbeclmgndaaDoor
open Go Go.RowKit Go.BigFrame
set_option linter.unusedSimpArgs false
set_option linter.unusedVariables false
theorem dl_bad {L : List (BitVec 8)} (hr : rightB L = false) : ∀ B v c w, DlPost B L v c w → v = .slice none 0 0 ∧ c = 14 := by
  intro B v c w h
  rcases h with h | h
  · exact h.2
  · rw [hr] at h; cases h.1
theorem dl_ok {L : List (BitVec 8)} (hr : rightB L = true) : ∀ B v c w, DlPost B L v c w → c = 0 ∧ OwnT B v (labF L) w := by
  intro B v c w h
  rcases h with h | h
  · rw [hr] at h; cases h.1
  · exact h.2
theorem dl_shape {L : List (BitVec 8)} {B : Nat} {v : Value} {c : Int} {w : World} (h : DlPost B L v c w) : ∃ a n cp, v = .slice a n cp := by
  rcases h with h | h
  · exact ⟨none, 0, 0, h.2.1⟩
  · obtain ⟨a, cp, e⟩ := h.2.2.shape
    exact ⟨a, _, cp, e⟩
set_option maxHeartbeats 4000000 in
set_option maxRecDepth 100000 in
theorem docLess_bad (A B : List (BitVec 8)) (w : World) (hA : A.length ≤ 100000) (hB : B.length ≤ 100000) (hr : rightB A = false ∨ rightB B = false) : Calls Tryd.prog 21 #[.string (sL A), .string (sL B)] w fun e w' => e = .returned (.bool false) ∧ Below w.heap.size w w' := by
  have D1 := Lib.hid (fun w => docLabels_any A w hA)
  have D2 := Lib.hid (fun w => docLabels_any B w hB)
  obtain ⟨S, hS⟩ : ∃ S, sL A = S := ⟨_, rfl⟩
  obtain ⟨T, hT⟩ : ∃ T, sL B = T := ⟨_, rfl⟩
  rw [hS] at D1 ⊢
  rw [hT] at D2 ⊢
  clear hS hT
  go_enter Tryd.func21, Tryd.ntmps21
  go_upto_region 3 with (first | (go_at_call 11; refine (D1.out _).mono ?_; clear D1; rintro e w1 ⟨v1, c1, rfl, hp1, B1⟩) | (go_at_call 11; refine (D2.out _).mono ?_; clear D2; rintro e w2 ⟨v2, c2, rfl, hp2, B2⟩))
  have BB := Lib.hid (B1.trans (B2.mono B1.size))
  by_cases h1 : rightB A = false
  · obtain ⟨rfl, rfl⟩ := dl_bad h1 _ _ _ _ hp1
    clear hp1 hp2 B1 B2 hr h1
    go_wp2_with fail
    go_ret
    exact ⟨rfl, BB.out⟩
  · have h1' : rightB A = true := by simpa using h1
    have h2 : rightB B = false := by rcases hr with h | h; exact absurd h h1; exact h
    obtain ⟨rfl, R1⟩ := dl_ok h1' _ _ _ _ hp1
    obtain ⟨rfl, rfl⟩ := dl_bad h2 _ _ _ _ hp2
    obtain ⟨oa, oc, hv⟩ := R1.shape
    subst hv
    clear hp1 hp2 B1 B2 hr h1 h2 h1' R1
    go_wp2_with fail
    go_ret
    exact ⟨rfl, BB.out⟩
set_option maxHeartbeats 4000000 in
set_option maxRecDepth 100000 in
theorem docUnder_bad (A B : List (BitVec 8)) (w : World) (hA : A.length ≤ 100000) (hB : B.length ≤ 100000) (hr : rightB A = false ∨ rightB B = false) : Calls Tryd.prog 23 #[.string (sL A), .string (sL B)] w fun e w' => e = .returned (.bool false) ∧ Below w.heap.size w w' := by
  have D1 := Lib.hid (fun w => docLabels_any A w hA)
  have D2 := Lib.hid (fun w => docLabels_any B w hB)
  obtain ⟨S, hS⟩ : ∃ S, sL A = S := ⟨_, rfl⟩
  obtain ⟨T, hT⟩ : ∃ T, sL B = T := ⟨_, rfl⟩
  rw [hS] at D1 ⊢
  rw [hT] at D2 ⊢
  clear hS hT
  go_enter Tryd.func23, Tryd.ntmps23
  go_upto_region 3 with (first | (go_at_call 11; refine (D1.out _).mono ?_; clear D1; rintro e w1 ⟨v1, c1, rfl, hp1, B1⟩) | (go_at_call 11; refine (D2.out _).mono ?_; clear D2; rintro e w2 ⟨v2, c2, rfl, hp2, B2⟩))
  have BB := Lib.hid (B1.trans (B2.mono B1.size))
  by_cases h1 : rightB A = false
  · obtain ⟨rfl, rfl⟩ := dl_bad h1 _ _ _ _ hp1
    clear hp1 hp2 B1 B2 hr h1
    go_wp2_with fail
    go_ret
    exact ⟨rfl, BB.out⟩
  · have h1' : rightB A = true := by simpa using h1
    have h2 : rightB B = false := by rcases hr with h | h; exact absurd h h1; exact h
    obtain ⟨rfl, R1⟩ := dl_ok h1' _ _ _ _ hp1
    obtain ⟨rfl, rfl⟩ := dl_bad h2 _ _ _ _ hp2
    obtain ⟨oa, oc, hv⟩ := R1.shape
    subst hv
    clear hp1 hp2 B1 B2 hr h1 h2 h1' R1
    go_wp2_with fail
    go_ret
    exact ⟨rfl, BB.out⟩
theorem take_rev (P : List (List (BitVec 8))) (i : Nat) (h : i < P.length) : (P.take (i + 1)).reverse = P[i] :: (P.take i).reverse := by
  rw [← List.take_append_getElem h, List.reverse_append]
  rfl
set_option maxHeartbeats 4000000 in
set_option maxRecDepth 100000 in
theorem docLess_ok (A B : List (BitVec 8)) (w : World) (hr : rightB A = true) (hs : rightB B = true) : Calls Tryd.prog 21 #[.string (sL A), .string (sL B)] w fun e w' => e = .returned (.bool (lessR (labF A).reverse (labF B).reverse)) ∧ Below w.heap.size w w' := by
  have hA := right_le hr
  have hB := right_le hs
  have D1 := Lib.hid (fun w => docLabels_any A w (by omega))
  have D2 := Lib.hid (fun w => docLabels_any B w (by omega))
  have P1 := Lib.hid (dl_ok hr)
  have P2 := Lib.hid (dl_ok hs)
  have nA := lab_le hr
  have nB := lab_le hs
  obtain ⟨S, hS⟩ : ∃ S, sL A = S := ⟨_, rfl⟩
  obtain ⟨T, hT⟩ : ∃ T, sL B = T := ⟨_, rfl⟩
  rw [hS] at D1 ⊢
  rw [hT] at D2 ⊢
  clear hS hT hr hs
  obtain ⟨P, hP⟩ : ∃ P, labF A = P := ⟨_, rfl⟩
  obtain ⟨Q, hQ⟩ : ∃ Q, labF B = Q := ⟨_, rfl⟩
  rw [hP] at P1 nA ⊢
  rw [hQ] at P2 nB ⊢
  clear hP hQ
  obtain ⟨R, hR⟩ : ∃ R, lessR P.reverse Q.reverse = R := ⟨_, rfl⟩
  rw [hR]
  have HR := Lib.hid hR
  clear hR
  obtain ⟨n, hn⟩ : ∃ n, P.length = n := ⟨_, rfl⟩
  obtain ⟨m, hm⟩ : ∃ m, Q.length = m := ⟨_, rfl⟩
  rw [hn] at nA
  rw [hm] at nB
  have HN := Lib.hid hn
  have HM := Lib.hid hm
  clear hn hm
  go_enter Tryd.func21, Tryd.ntmps21
  go_upto_region 3 with (first | (go_at_call 11; refine (D1.out _).mono ?_; clear D1; rintro e w1 ⟨v1, c1, rfl, hp1, B1⟩) | (go_at_call 11; refine (D2.out _).mono ?_; clear D2; rintro e w2 ⟨v2, c2, rfl, hp2, B2⟩))
  have BB := Lib.hid (B1.trans (B2.mono B1.size))
  obtain ⟨rfl, R1⟩ := P1.out _ _ _ _ hp1
  obtain ⟨rfl, R2⟩ := P2.out _ _ _ _ hp2
  have R1' := R1.later B2
  obtain ⟨oa, oc, hv⟩ := R1.shape
  obtain ⟨ob, od, hu⟩ := R2.shape
  subst hv hu
  rw [HN.out] at R1' ⊢
  rw [HM.out] at R2 ⊢
  have T1 := Lib.hid R1'
  have T2 := Lib.hid R2
  clear hp1 hp2 B1 B2 R1 R1' R2 P1 P2
  go_wp2_with fail
  go_loopw [9, 10] (fun s9 s10 wr => ∃ i k : Nat, i ≤ n ∧ k ≤ m ∧ s9 = .int .i64 (i : Int) ∧ s10 = .int .i64 (k : Int) ∧ Hid (lessR (P.take i).reverse (Q.take k).reverse = R) ∧ Hid (Below w2.heap.size w2 wr)) (fun s9 _ _ => (intOf s9).toNat)
  case atStart => exact ⟨n, m, by omega, by omega, rfl, rfl, by rw [← HN.out, ← HM.out, List.take_length, List.take_length]; exact HR.out, Below.refl _ _⟩
  case round =>
    obtain ⟨i, k, hi, hk, rfl, rfl, HL, HB⟩ := hrel
    cases i with
    | zero =>
      have h0 : ¬ (0 : Int) < ((0 : Nat) : Int) := by omega
      have hv : R = decide (0 < k) := by
        rw [← HL.out]
        cases k with
        | zero => rfl
        | succ k => rw [take_rev Q k (by rw [HM.out]; omega)]; simp [lessR]
      have HV := Lib.hid hv
      clear hv
      by_cases hk0 : 0 < k
      · have hk' : (0 : Int) < (k : Int) := by omega
        have HK := Lib.hid hk0
        clear hk0
        go_wp2_with fail
        go_ret
        exact ⟨by rw [HV.out, decide_eq_true HK.out]; rfl, BB.out.trans (HB.out.mono BB.out.size)⟩
      · have hk' : ¬ (0 : Int) < (k : Int) := by omega
        have HK := Lib.hid hk0
        clear hk0
        go_wp2_with fail
        go_ret
        exact ⟨by rw [HV.out, decide_eq_false HK.out]; rfl, BB.out.trans (HB.out.mono BB.out.size)⟩
    | succ i =>
      have h0 : (0 : Int) < ((i + 1 : Nat) : Int) := by omega
      have hil : i < P.length := by rw [HN.out]; omega
      have hz : (((i + 1 : Nat) : Int) == 0) = false := beq_eq_false_iff_ne.2 (by omega)
      cases k with
      | zero =>
        have hk' : ¬ (0 : Int) < ((0 : Nat) : Int) := by omega
        have hv : R = false := by
          rw [← HL.out, take_rev P i hil]
          simp [lessR]
        have HV := Lib.hid hv
        clear hv
        go_wp2_with fail
        go_ret
        exact ⟨by rw [HV.out]; rfl, BB.out.trans (HB.out.mono BB.out.size)⟩
      | succ k =>
        have hk' : (0 : Int) < ((k + 1 : Nat) : Int) := by omega
        have hkl : k < Q.length := by rw [HM.out]; omega
        obtain ⟨g, cp, hv, hnc, hcm, hc, -, hg⟩ := T1.out.at i hil
        obtain ⟨g2, cp2, hu, hnc2, hcm2, hc2, -, hg2⟩ := T2.out.at k hkl
        rw [HN.out] at hv hnc
        rw [HM.out] at hu hnc2
        injection hv with hv hv2 hv3
        injection hu with hu hu2 hu3
        subst hv hv3 hu hu3
        have hl := HL.out
        rw [take_rev P i hil, take_rev Q k hkl, lessR] at hl
        have hE := sL_beq P[i] Q[k]
        have hlt : Op.bytesLess (sL P[i]).toList (sL Q[k]).toList = ltB P[i] Q[k] := by rw [sL_list, sL_list]; rfl
        have d1 : wr.drew.cell? ⟨g, i, none⟩ = some (.string (sL P[i])) := (HB.out.cell (p := ⟨g, i, none⟩) hg).trans hc
        have d2 : wr.drew.cell? ⟨g2, k, none⟩ = some (.string (sL Q[k])) := (HB.out.cell (p := ⟨g2, k, none⟩) hg2).trans hc2
        have f1 : wr.drew.drew.cell? ⟨g, i, none⟩ = some (.string (sL P[i])) := d1
        have f2 : wr.drew.drew.cell? ⟨g2, k, none⟩ = some (.string (sL Q[k])) := d2
        have ei : ((i + 1 : Nat) : Int) - 1 = (i : Int) := by omega
        have ek : ((k + 1 : Nat) : Int) - 1 = (k : Int) := by omega
        clear hc hc2 hv2 hu2 HL
        by_cases hpq : P[i] = Q[k]
        · rw [decide_eq_true hpq] at hE
          rw [if_pos hpq] at hl
          have HL2 := Lib.hid hl
          clear hl hpq hlt
          generalize sL P[i] = D at *
          generalize sL Q[k] = D2 at *
          go_upto_region 7 with fail
          go_region
          go_wp2_with fail
          go_roundw
          case rel => exact ⟨i, k, by omega, by omega, rfl, rfl, HL2.out, HB.out.drew⟩
          case measure => simp only [intOf]; omega
        · rw [decide_eq_false hpq] at hE
          rw [if_neg hpq] at hl
          have HL2 := Lib.hid hl
          have HLT := Lib.hid hlt
          clear hl hpq hlt
          generalize sL P[i] = D at *
          generalize sL Q[k] = D2 at *
          go_upto_region 7 with fail
          go_region
          go_upto_region 8 with fail
          go_region
          go_wp2_with fail
          go_ret
          exact ⟨by rw [← HL2.out, ← HLT.out]; rfl, BB.out.trans (HB.out.drew.drew.mono BB.out.size)⟩
theorem docLess_any (A B : List (BitVec 8)) (w : World) (hA : A.length ≤ 100000) (hB : B.length ≤ 100000) : Calls Tryd.prog 21 #[.string (sL A), .string (sL B)] w fun e w' => e = .returned (.bool (lessF A B)) ∧ Below w.heap.size w w' := by
  unfold lessF
  cases hr : rightB A with
  | false => exact docLess_bad A B w hA hB (.inl hr)
  | true =>
    cases hs : rightB B with
    | false => exact docLess_bad A B w hA hB (.inr hs)
    | true => exact docLess_ok A B w hr hs
end Go.Proofs.YtddpfbeclmgndaaDoor
