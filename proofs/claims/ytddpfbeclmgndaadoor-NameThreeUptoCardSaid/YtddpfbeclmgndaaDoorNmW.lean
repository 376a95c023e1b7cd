/-
  name: the document's parts of a name.
-/
import Derived.Test.YtddpfbeclmgndaaDoorNmV
namespace Go.Proofs.YtddpfbeclmgndaaDoor
open Go Go.RowKit Go.BigFrame
set_option linter.unusedSimpArgs false
set_option linter.unusedVariables false
/-- What the document's Labels answers. -/
def DlPost (B : Nat) (L : List (BitVec 8)) (v : Value) (c : Int) (w : World) : Prop := (rightB L = false ∧ v = .slice none 0 0 ∧ c = 14) ∨ (rightB L = true ∧ c = 0 ∧ OwnT B v (labF L) w)
set_option maxHeartbeats 8000000 in
set_option maxRecDepth 100000 in
theorem docLabels_ok (L : List (BitVec 8)) (w : World) (hL : L.length ≤ 2000000) (hd : L ≠ [46#8]) : Calls Tryd.prog 11 #[.string (sL L)] w fun e w' =>
    ∃ v c, e = .returned (.tuple #[v, .int .i64 c]) ∧ DlPost w.heap.size L v c w' ∧ Below w.heap.size w w' := by
  have hz := sL_size L
  have hE : ((sL L).toList == [46]) = false := by
    have := sL_beq L [46#8]
    rw [sL_list [46#8], decide_eq_false hd] at this
    exact this
  have hem : (sL L).toList.isEmpty = decide (L = []) := by
    rw [sL_list]
    cases L <;> simp
  have IX := Lib.hid (fun (i : Nat) (hi : i < L.length) => sL_at L i hi)
  have MX := Lib.hid (fun (lo hi : Nat) (h1 : lo ≤ hi) (h2 : hi ≤ L.length) => run_mid_s L lo hi (lo : Int) (hi : Int) rfl rfl h1 h2)
  obtain ⟨n, hn⟩ : ∃ n, L.length = n := ⟨_, rfl⟩
  have HN := Lib.hid hn
  have HD := Lib.hid hd
  obtain ⟨S, hS⟩ : ∃ S, sL L = S := ⟨_, rfl⟩
  rw [hS] at hz hE hem IX MX ⊢
  rw [hn] at hz hL
  clear hn hd hS
  go_enter Tryd.func11, Tryd.ntmps11
  go_wp2_with fail
  go_loopw [4, 5, 6] (fun s4 s5 s6 wr => ∃ (i fr : Nat) (ps : List (List (BitVec 8))) (cur : List (BitVec 8)), i ≤ n ∧ s6 = .int .i64 (i : Int) ∧ s5 = .int .i64 (fr : Int) ∧ Hid (DL L i fr ps cur) ∧ Hid (OwnT w.heap.size s4 ps wr) ∧ Hid (Below w.heap.size w wr)) (fun _ _ s6 _ => n - (intOf s6).toNat)
  case atStart => exact ⟨0, 0, [], [], by omega, rfl, rfl, ⟨rfl, rfl, by simp, fun c h => (by cases h), fun p h => (by cases h), by simp⟩, OwnT.nil _ _ (Nat.le_refl _), Below.refl _ _⟩
  case round =>
    obtain ⟨i, fr, ps, cur, hi, rfl, rfl, HL, HO, HB⟩ := hrel
    obtain ⟨cl, hcl⟩ : ∃ cl, cur.length = cl := ⟨_, rfl⟩
    have hfc := HL.out.fc
    rw [hcl] at hfc
    have HCL := Lib.hid hcl
    clear hcl
    by_cases hin : i < n
    · have hin' : (i : Int) < (n : Int) := by omega
      have hiL : Hid (i < L.length) := by rw [HN.out]; exact hin
      have i0 := IX.out i hiL.out
      have hx := n8_dot (bx L i)
      have HDR := Lib.hid (drop_bx L i hiL.out)
      by_cases hc : bx L i = 46#8
      · rw [decide_eq_true hc] at hx
        have HC := Lib.hid hc
        clear hc
        generalize n8 (bx L i) = X at *
        by_cases hbad : cl = 0 ∨ 63 < cl
        · have hrt : rightB L = false := bad_dot HD.out (by rw [HL.out.sp, HDR.out, HC.out]) HL.out.ok (by rw [HCL.out]; exact hbad)
          have HR := Lib.hid hrt
          clear hrt
          by_cases h0 : cl = 0
          · have e0 : ((i : Int) == (fr : Int)) = true := by rw [beq_iff_eq]; omega
            clear hbad h0
            go_wp2_with fail
            go_ret2
            exact ⟨_, _, rfl, .inl ⟨HR.out, rfl, rfl⟩, HB.out⟩
          · have e0 : ((i : Int) == (fr : Int)) = false := by rw [beq_eq_false_iff_ne]; omega
            have e1 : (63 : Int) < (i : Int) - (fr : Int) := by omega
            clear hbad
            go_wp2_with fail
            go_ret2
            exact ⟨_, _, rfl, .inl ⟨HR.out, rfl, rfl⟩, HB.out⟩
        · have e0 : ((i : Int) == (fr : Int)) = false := by rw [beq_eq_false_iff_ne]; omega
          have e1 : ¬ (63 : Int) < (i : Int) - (fr : Int) := by omega
          have m1 := MX.out fr i (by omega) (by have := hiL.out; omega)
          have ecur : (L.drop fr).take (i - fr) = cur := by
            have h1 := HL.out.cu
            rw [HCL.out] at h1
            have e : i - fr = cl := by omega
            rw [e]
            exact h1.symm
          rw [ecur] at m1
          have hnx := HL.out.dot hiL.out HC.out (by rw [HCL.out]; omega) (by rw [HCL.out]; omega)
          have HNX := Lib.hid hnx
          have hps := HL.out.pl
          have hps2 : ps.length ≤ 2000000 := by omega
          have OW := HO.out.1
          have OB := HO.out.2
          have HS : Hid ((ps.map fun p => Value.string (sL p)) ++ [.string (sL cur)] = (ps ++ [cur]).map fun p => Value.string (sL p)) := by rw [List.map_append]; exact rfl
          have hlp : Hid ((ps ++ [cur]).length = ps.length + 1) := by rw [List.length_append]; exact rfl
          clear hbad ecur hnx hps
          generalize sL cur = CT at *
          go_upto_region 11 with fail
          go_upto_region 12 with (refine wpList_append_str (o := ⟨some 34, _, _, _, _, _⟩) (S := CT) (g := wr.heap.size) rfl _ _ rfl rfl rfl (OW.alloc _) (by exact (box_new wr (.string CT) 9).1) (by omega) (by simp; omega) ?_; intro v2 w2 ho2 hb2)
          have HO2 : Hid (OwnT w.heap.size v2 (ps ++ [cur]) w2) := by
            refine ⟨?_, by have h1 := HB.out.size; have h2 := hb2.size; simp at h2; omega⟩
            rw [hlp.out, ← HS.out]
            exact ho2
          have HB2 : Hid (Below w.heap.size w w2) := (HB.out.alloc HB.out.size _).trans hb2
          clear ho2 hb2 OW OB
          go_wp2_with fail
          go_roundw
          case rel => exact ⟨i + 1, i + 1, ps ++ [cur], [], by omega, by rw [Int.natCast_add]; rfl, by rw [Int.natCast_add]; rfl, HNX.out, HO2.out, HB2.out⟩
          case measure => simp only [intOf]; omega
      · rw [decide_eq_false hc] at hx
        have HC := Lib.hid hc
        have LT := Lib.hid (letter_any (bx L i))
        clear hc
        cases hk : okc (bx L i) with
        | false =>
          have hrt : rightB L = false := bad_byte HD.out (by rw [HL.out.sp, HDR.out]) HL.out.ok HC.out hk
          have HR := Lib.hid hrt
          rw [hk] at LT
          clear hrt hk
          generalize n8 (bx L i) = X at *
          go_wp2_with (go_at_call 28; refine (LT.out _).mono ?_; rintro e w' ⟨rfl, rfl⟩)
          go_ret2
          exact ⟨_, _, rfl, .inl ⟨HR.out, rfl, rfl⟩, HB.out⟩
        | true =>
          have HNX := Lib.hid (HL.out.letter hiL.out hk)
          rw [hk] at LT
          clear hk
          generalize n8 (bx L i) = X at *
          go_wp2_with (go_at_call 28; refine (LT.out _).mono ?_; rintro e w' ⟨rfl, rfl⟩)
          go_roundw
          case rel => exact ⟨i + 1, fr, ps, cur ++ [bx L i], by omega, by rw [Int.natCast_add]; rfl, rfl, HNX.out, HO.out, HB.out⟩
          case measure => simp only [intOf]; omega
    · have hin' : ¬ (i : Int) < (n : Int) := by omega
      have ei : i = n := by omega
      subst ei
      have hdr : L.drop i = [] := List.drop_of_length_le (by rw [HN.out]; exact Nat.le_refl _)
      have hsp := HL.out.sp
      rw [hdr, List.append_nil] at hsp
      have HSP := Lib.hid hsp
      clear hsp hdr
      obtain ⟨oa, oc, hos⟩ := HO.out.shape
      subst hos
      by_cases h0 : cl = 0
      · have hcn : cur = [] := List.length_eq_zero_iff.1 (by rw [HCL.out]; exact h0)
        have e0 : ((fr : Int) == (i : Int)) = true := by rw [beq_iff_eq]; omega
        have HCN := Lib.hid hcn
        clear hcn
        by_cases hl0 : L = []
        · have hR : Hid (rightB L = false) := by rw [hl0]; exact bad_none
          rw [decide_eq_true hl0] at hem
          clear hl0
          go_wp2_with fail
          go_ret2
          exact ⟨_, _, rfl, .inl ⟨hR.out, rfl, rfl⟩, HB.out⟩
        · rw [decide_eq_false hl0] at hem
          by_cases h255 : i + 1 ≤ 255
          · have h255' : ¬ (255 : Int) < (i : Int) + 1 := by omega
            have hsp := HSP.out
            rw [HCN.out] at hsp
            have hpn : ps ≠ [] := by
              rintro rfl
              have := join_split L
              rw [hsp] at this
              exact hl0 this.symm
            have hR := right_of_split HD.out hsp hpn HL.out.pa (by rw [HN.out]; exact h255)
            have HR := Lib.hid hR
            clear hR hsp hpn hl0
            go_wp2_with fail
            go_ret2
            exact ⟨_, _, rfl, .inr ⟨HR.out.1, rfl, by rw [HR.out.2]; exact HO.out⟩, HB.out⟩
          · have h255' : (255 : Int) < (i : Int) + 1 := by omega
            have hR := Lib.hid (bad_len HD.out (by rw [HN.out]; exact h255))
            clear hl0
            go_wp2_with fail
            go_ret2
            exact ⟨_, _, rfl, .inl ⟨hR.out, rfl, rfl⟩, HB.out⟩
      · have hcn : cur ≠ [] := by rintro rfl; exact h0 HCL.out.symm
        have e0 : ((fr : Int) == (i : Int)) = false := by rw [beq_eq_false_iff_ne]; omega
        have hR := Lib.hid (bad_end HD.out HSP.out HL.out.ok hcn)
        clear hcn
        go_wp2_with fail
        go_ret2
        exact ⟨_, _, rfl, .inl ⟨hR.out, rfl, rfl⟩, HB.out⟩
theorem docLabels_any (L : List (BitVec 8)) (w : World) (hL : L.length ≤ 2000000) : Calls Tryd.prog 11 #[.string (sL L)] w fun e w' =>
    ∃ v c, e = .returned (.tuple #[v, .int .i64 c]) ∧ DlPost w.heap.size L v c w' ∧ Below w.heap.size w w' := by
  by_cases hd : L = [46#8]
  · subst hd
    refine (docLabels_dot w).mono ?_
    rintro e w' ⟨rfl, rfl⟩
    exact ⟨_, _, rfl, .inr ⟨by decide, rfl, OwnT.nil _ _ (Nat.le_refl _)⟩, Below.refl _ _⟩
  · exact docLabels_ok L w hL hd
/-- Is it a name? (the document's) -/
theorem right_any (L : List (BitVec 8)) (w : World) (hL : L.length ≤ 2000000) : Calls Tryd.prog 24 #[.string (sL L)] w fun e w' => e = .returned (.bool (rightB L)) ∧ Below w.heap.size w w' := by
  have HD := Lib.hid (fun w => docLabels_any L w hL)
  cases hr : rightB L with
  | false =>
    have HP : Hid (∀ B v c w, DlPost B L v c w → c = 14) := by
      intro B v c w h
      rcases h with h | h
      · exact h.2.2
      · rw [hr] at h; cases h.1
    clear hr
    generalize sL L = S at *
    go_enter Tryd.func24, Tryd.ntmps24
    go_wp2_with (go_at_call 11; refine (HD.out _).mono ?_; rintro e w1 ⟨v, c, rfl, hp, B1⟩; obtain rfl := HP.out _ _ _ _ hp; clear hp)
    go_ret
    exact ⟨rfl, B1⟩
  | true =>
    have HP : Hid (∀ B v c w, DlPost B L v c w → c = 0) := by
      intro B v c w h
      rcases h with h | h
      · rw [hr] at h; cases h.1
      · exact h.2.1
    clear hr
    generalize sL L = S at *
    go_enter Tryd.func24, Tryd.ntmps24
    go_wp2_with (go_at_call 11; refine (HD.out _).mono ?_; rintro e w1 ⟨v, c, rfl, hp, B1⟩; obtain rfl := HP.out _ _ _ _ hp; clear hp)
    go_ret
    exact ⟨rfl, B1⟩
end Go.Proofs.YtddpfbeclmgndaaDoor
