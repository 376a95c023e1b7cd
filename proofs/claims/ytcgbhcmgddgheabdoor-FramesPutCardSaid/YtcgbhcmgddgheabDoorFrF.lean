/-
  FRAMES, SIXTH PART: has a frame just these parts?
-/
import Derived.Test.YtcgbhcmgddgheabDoorFrE
namespace Go.Proofs.YtcgbhcmgddgheabDoor
open Go Go.RowKit Go.BigFrame
set_option linter.unusedSimpArgs false
set_option linter.unusedVariables false
set_option maxRecDepth 100000
def clearsF (f : Fr) (ps : List Nat) : Fr := ps.foldl clearF f
theorem clearsF_take (f : Fr) (ps : List Nat) (i : Nat) (h : i < ps.length) : clearsF f (ps.take (i + 1)) = clearF (clearsF f (ps.take i)) ps[i] := by
  unfold clearsF
  rw [List.take_succ_eq_append_getElem h, List.foldl_append]
  rfl
def zeroF (f : Fr) : Prop := f.S = 0 ∧ f.O = 0 ∧ f.N = 0 ∧ f.C = 0 ∧ f.F = false ∧ f.D.size = 0 ∧ f.X.size = 0 ∧ f.A.length = 0
instance (f : Fr) : Decidable (zeroF f) := by unfold zeroF; infer_instance
def unfin (f : Fr) (k : Int) : Fr := if k = 8 then { f with F := false } else f
def justF (f : Fr) (ps : List Nat) : Prop := (∀ p ∈ ps, fitsF f p) ∧ zeroF (unfin (clearsF f ps) f.K)
instance (f : Fr) (ps : List Nat) : Decidable (justF f ps) := by unfold justF; infer_instance
theorem isEmpty_of {S : ByteArray} {n : Nat} (h : S.size = n) : S.toList.isEmpty = decide (n = 0) := by
  have e : S.toList.length = n := by rw [ByteArray.toList_eq]; simpa using h
  cases hS : S.toList with
  | nil => rw [hS] at e; simp at e; subst e; rfl
  | cons x l => rw [hS] at e; simp at e; subst e; rfl
theorem clearV_len {v : Value} {g : Fr} {p : Nat} (h : ∃ a c, v = .slice a g.A.length c) : ∃ a c, clearV v p = .slice a (clearF g p).A.length c := by
  unfold clearV
  by_cases hp : p = 9
  · subst hp; exact ⟨none, 0, rfl⟩
  · rw [if_neg hp]
    obtain ⟨a, c, rfl⟩ := h
    refine ⟨a, c, ?_⟩
    unfold clearF
    split <;> first | rfl | (exfalso; exact hp rfl)
set_option maxHeartbeats 16000000 in
theorem hasJust_any (f : Fr) (v pv : Value) (ps : List Nat) (hps : ∀ p ∈ ps, p ≤ 10) (w : World) (hA : SpansIn w v f.A) (hP : PartsIn w pv ps) (hD : f.D.size ≤ maxLen) (hX : f.X.size ≤ maxLen) :
    Calls Tryd.prog 21 #[.agg (f.cells v), pv] w fun e w' => e = .returned (.bool (decide (justF f ps))) ∧ Below w.heap.size w w' := by
  obtain ⟨a0, q0, rfl, _⟩ := hA.at_
  obtain ⟨m, hm⟩ : ∃ m, decide (justF f ps) = m := ⟨_, rfl⟩
  rw [hm]
  have NO := Lib.hid (fun (i : Nat) (hi : i < ps.length) (h : ¬ fitsF f ps[i]) => hm.symm.trans (decide_eq_false (fun x : justF f ps => h (x.1 _ (List.getElem_mem hi)))))
  have YES := Lib.hid (fun (h : ∀ p ∈ ps, fitsF f p) => (hm.symm.trans (decide_eq_decide.2 ⟨fun x => x.2, fun x => ⟨h, x⟩⟩) : m = decide (zeroF (unfin (clearsF f ps) f.K))))
  have FITS := Lib.hid (fun (p : Nat) (hp : p ≤ 10) (w' : World) (h : SpansIn w' (.slice a0 f.A.length q0) f.A) => fits_any f _ p hp w' h hD hX)
  have HA := Lib.hid hA
  have HPS := Lib.hid (fun (i : Nat) (hi : i < ps.length) => hps _ (List.getElem_mem hi))
  have CT := Lib.hid (fun (i : Nat) (hi : i < ps.length) => clearsF_take f ps i hi)
  have C0 := Lib.hid (show clearsF f (ps.take 0) = f from rfl)
  have CE := Lib.hid (show clearsF f (ps.take ps.length) = clearsF f ps by rw [List.take_length])
  obtain ⟨a, c, rfl, hc, hat⟩ := hP.at_
  have HAT := Lib.hid hat
  have ALL := Lib.hid (fun (h : ∀ (i : Nat) (hi : i < ps.length), fitsF f ps[i]) (p : Nat) (hp : p ∈ ps) => (by
    obtain ⟨i, hi, rfl⟩ := List.getElem_of_mem hp
    exact h i hi : fitsF f p))
  obtain ⟨n, hn⟩ : ∃ n, ps.length = n := ⟨_, rfl⟩
  have hn63 : n ≤ 9223372036854775807 := by have := hc.1; have := hc.2; unfold maxLen at *; omega
  have HN := Lib.hid hn
  rw [hn]
  clear hm hat hP hps hA hD hX hc hn
  obtain ⟨fc, hfc⟩ : ∃ x, f.cells (.slice a0 f.A.length q0) = x := ⟨_, rfl⟩
  have row0 := heap_alloc_last w (.cells (f.cells (.slice a0 f.A.length q0)) 33)
  have bel0 := (Below.refl w.heap.size w).alloc (Nat.le_refl _) (.cells (f.cells (.slice a0 f.A.length q0)) 33)
  obtain ⟨K, S, O, N, C, F, D, X, A⟩ := f
  dsimp only [Fr.cells] at *
  unfold frC at *
  subst hfc
  go_enter Tryd.func21, Tryd.ntmps21
  go_upto_region 1 with (fail)
  generalize w.alloc _ = w1 at *
  have BEL0 := Lib.hid bel0
  have CX := Lib.hid (fun (w' : World) (hb : Below w1.heap.size w1 w') => cells9 ((hb.block _ (lt_row row0)).trans row0))
  obtain ⟨c0, c1, c2, c3, c4, c5, c6, c7, c8⟩ := cells9 row0
  clear row0 bel0
  have row := heap_alloc_last w1 (.cells #[.int .i64 K, .int .i64 S, .int .i64 O, .int .i64 N, .int .i64 C, .bool F, .string D, .string X, .slice a0 A.length q0] 33)
  have bel := (Below.refl w1.heap.size w1).alloc (Nat.le_refl _) (.cells #[.int .i64 K, .int .i64 S, .int .i64 O, .int .i64 N, .int .i64 C, .bool F, .string D, .string X, .slice a0 A.length q0] 33)
  go_upto_region 3 with (fail)
  generalize w1.alloc _ = w2 at *
  clear c0 c1 c2 c3 c4 c5 c6 c7 c8
  go_loopw [11] (fun s11 wr => ∃ (i : Nat) (v' : Value), i ≤ n ∧ s11 = .int .i64 (i : Int) ∧ (∀ (j : Nat) (hj : j < ps.length), j < i → fitsF ⟨K, S, O, N, C, F, D, X, A⟩ ps[j]) ∧ wr.heap[w1.heap.size]? = some (.cells ((clearsF ⟨K, S, O, N, C, F, D, X, A⟩ (ps.take i)).cells v') 33 (0, 0)) ∧ (∃ a c, v' = .slice a (clearsF ⟨K, S, O, N, C, F, D, X, A⟩ (ps.take i)).A.length c) ∧ Below w1.heap.size w1 wr) (fun s11 _ => n - (intOf s11).toNat)
  case atStart => exact ⟨0, .slice a0 A.length q0, by omega, rfl, fun j _ hj => absurd hj (Nat.not_lt_zero _), by rw [C0.out]; exact row, by rw [C0.out]; exact ⟨_, _, rfl⟩, bel⟩
  case round =>
    obtain ⟨i, v', hi, rfl, hfit, hrow, hv', hbel⟩ := hrel
    have FIT := Lib.hid hfit
    have ROW := Lib.hid hrow
    have HV := Lib.hid hv'
    have BEL := Lib.hid hbel
    clear hfit hrow hv' hbel
    by_cases hin : i < n
    · have hinI : (i : Int) < (n : Int) := by omega
      have hip : i < ps.length := by rw [HN.out]; exact hin
      obtain h0 | ⟨b, o, rfl, hbl, hcell⟩ := HAT.out
      · rw [h0] at hip; exact absurd hip (Nat.not_lt_zero _)
      have cp := ((BEL0.out.trans (BEL.out.mono BEL0.out.size)).cell (p := ⟨b, o + i, none⟩) hbl).trans (hcell i hip)
      obtain ⟨p, hp⟩ : ∃ p, ps[i] = p := ⟨_, rfl⟩
      have hp10 := HPS.out i hip
      have ct := CT.out i hip
      have NOi := NO.out i hip
      rw [hp] at cp hp10 ct NOi
      have CTI := Lib.hid ct
      have NOI := Lib.hid NOi
      have HPi := Lib.hid hp
      have FT := Lib.hid (FITS.out p hp10 wr (HA.out.later (BEL0.out.trans (BEL.out.mono BEL0.out.size))))
      obtain ⟨c0, c1, c2, c3, c4, c5, c6, c7, c8⟩ := CX.out wr BEL.out
      clear hcell hbl ct NOi hp
      by_cases hf : fitsF ⟨K, S, O, N, C, F, D, X, A⟩ p
      · have DF := Lib.hid (decide_eq_true hf)
        go_upto_region 5 with (fail)
        go_wp2_with fail
        with_reducible refine FT.out.mono ?_
        rintro e w3 ⟨rfl, hb3⟩
        rw [DF.out]
        have H3 := Lib.hid (BEL.out.trans (hb3.mono BEL.out.size))
        have R3 := Lib.hid ((hb3.block _ (lt_row ROW.out)).trans ROW.out)
        have CL := Lib.hid (clear_any _ v' p hp10 w3 w1.heap.size R3.out)
        have HF := Lib.hid hf
        clear hb3 c0 c1 c2 c3 c4 c5 c6 c7 c8 cp hf
        go_wp2_with fail
        with_reducible refine CL.out.mono ?_
        rintro e w4 ⟨rfl, rs⟩
        have R4 := Lib.hid rs.row
        have H4 := Lib.hid (H3.out.trans (rs.below _ (Nat.le_refl _)))
        clear rs
        go_upto_region 9 with (fail)
        case roundEnd =>
          refine ⟨⟨i + 1, clearV v' p, by omega, by first | rfl | (congr 1), fun j hj hji => ?_, by rw [CTI.out]; exact R4.out, by rw [CTI.out]; exact clearV_len HV.out, H4.out⟩, by simp only [intOf]; omega⟩
          by_cases hjj : j < i
          · exact FIT.out j hj hjj
          · obtain rfl : j = i := by omega
            rw [HPi.out]; exact HF.out
      · have DF := Lib.hid (decide_eq_false hf)
        have R := Lib.hid (NOI.out hf)
        go_upto_region 5 with (fail)
        go_wp2_with fail
        with_reducible refine FT.out.mono ?_
        rintro e w3 ⟨rfl, hb3⟩
        rw [DF.out]
        have H3 := Lib.hid (BEL.out.trans (hb3.mono BEL.out.size))
        clear hb3 c0 c1 c2 c3 c4 c5 c6 c7 c8 cp hf
        go_wp2_with fail
        go_ret
        exact ⟨ret_bool R.out, BEL0.out.trans (H3.out.mono BEL0.out.size)⟩
    · obtain rfl : i = n := by omega
      have e : clearsF ⟨K, S, O, N, C, F, D, X, A⟩ (ps.take i) = clearsF ⟨K, S, O, N, C, F, D, X, A⟩ ps := by rw [← HN.out]; exact CE.out
      have R0 := Lib.hid (YES.out (ALL.out (fun j hj => FIT.out j hj (by rw [← HN.out]; exact hj))))
      obtain ⟨g, hg⟩ : ∃ g, clearsF ⟨K, S, O, N, C, F, D, X, A⟩ ps = g := ⟨_, rfl⟩
      rw [e, hg] at ROW HV
      rw [hg] at R0
      obtain ⟨aa, cc, rfl⟩ := HV.out
      obtain ⟨K2, S2, O2, N2, C2, F2, D2, X2, A2⟩ := g
      have row2 := ROW.out
      dsimp only [Fr.cells] at row2
      unfold frC at row2
      obtain ⟨c0, c1, c2, c3, c4, c5, c6, c7, c8⟩ := CX.out wr BEL.out
      obtain ⟨d0, d1, d2, d3, d4, d5, d6, d7, d8⟩ := cells9 row2
      have fr5 : wr.frozen? ⟨w1.heap.size, 5, none⟩ = false := frozen_of_row _ _ _ _ _ row2
      clear NO YES FITS HA HPS CT C0 CE HAT ALL FIT ROW HV hg e c1 c2 c3 c4 c5 c6 c7 c8
      have hin' : ¬ (i : Int) < (i : Int) := by omega
      by_cases hk : K = 8
      · have R : Hid (m = decide (zeroF ⟨K2, S2, O2, N2, C2, false, D2, X2, A2⟩)) := Lib.hid (R0.out.trans (by unfold unfin; rw [if_pos hk]))
        subst hk
        clear R0
        go_upto_region 11 with (fail)
        have rs := rowSet_cell wr w1.heap.size 5 _ _ (.bool false) row2
        generalize wr.setCell _ _ = w5 at *
        have END := Lib.hid (BEL0.out.trans ((BEL.out.trans (rs.below _ (Nat.le_refl _))).mono BEL0.out.size))
        have row5 := rs.row
        clear rs d0 d1 d2 d3 d4 d5 d6 d7 d8 c0 row2 fr5
        obtain ⟨d0, d1, d2, d3, d4, d5, d6, d7, d8⟩ := cells9 (show w5.heap[w1.heap.size]? = some (.cells #[.int .i64 K2, .int .i64 S2, .int .i64 O2, .int .i64 N2, .int .i64 C2, .bool false, .string D2, .string X2, .slice aa A2.length cc] 33 (0, 0)) from row5)
        clear row5
        by_cases hS : S2 = 0
        rotate_left
        · have eS : (S2 == 0) = false := by have h := hS; simp [h]
          have R2 : Hid (m = false) := Lib.hid (R.out.trans (decide_eq_false (fun z => hS (z.1))))
          go_wp2_with fail
          go_ret
          exact ⟨ret_bool R2.out, END.out⟩
        subst hS
        by_cases hO : O2 = 0
        rotate_left
        · have eO : (O2 == 0) = false := by have h := hO; simp [h]
          have R2 : Hid (m = false) := Lib.hid (R.out.trans (decide_eq_false (fun z => hO (z.2.1))))
          go_wp2_with fail
          go_ret
          exact ⟨ret_bool R2.out, END.out⟩
        subst hO
        by_cases hN : N2 = 0
        rotate_left
        · have eN : (N2 == 0) = false := by have h := hN; simp [h]
          have R2 : Hid (m = false) := Lib.hid (R.out.trans (decide_eq_false (fun z => hN (z.2.2.1))))
          go_wp2_with fail
          go_ret
          exact ⟨ret_bool R2.out, END.out⟩
        subst hN
        by_cases hC : C2 = 0
        rotate_left
        · have eC : (C2 == 0) = false := by have h := hC; simp [h]
          have R2 : Hid (m = false) := Lib.hid (R.out.trans (decide_eq_false (fun z => hC (z.2.2.2.1))))
          go_wp2_with fail
          go_ret
          exact ⟨ret_bool R2.out, END.out⟩
        subst hC
        by_cases hD : D2.size = 0
        rotate_left
        · have eD : D2.toList.isEmpty = false := by have h := hD; rw [isEmpty_of rfl]; simp [h]
          have R2 : Hid (m = false) := Lib.hid (R.out.trans (decide_eq_false (fun z => hD (z.2.2.2.2.2.1))))
          go_wp2_with fail
          go_ret
          exact ⟨ret_bool R2.out, END.out⟩
        have eD : D2.toList.isEmpty = true := by have h := hD; rw [isEmpty_of rfl]; simp [h]
        by_cases hX : X2.size = 0
        rotate_left
        · have eX : X2.toList.isEmpty = false := by have h := hX; rw [isEmpty_of rfl]; simp [h]
          have R2 : Hid (m = false) := Lib.hid (R.out.trans (decide_eq_false (fun z => hX (z.2.2.2.2.2.2.1))))
          go_wp2_with fail
          go_ret
          exact ⟨ret_bool R2.out, END.out⟩
        have eX : X2.toList.isEmpty = true := by have h := hX; rw [isEmpty_of rfl]; simp [h]
        by_cases hA : A2.length = 0
        rotate_left
        · have eA : ((A2.length : Int) == 0) = false := by have h := hA; first | (rw [beq_eq_false_iff_ne]; omega) | (rw [beq_iff_eq]; omega)
          have R2 : Hid (m = false) := Lib.hid (R.out.trans (decide_eq_false (fun z => hA (z.2.2.2.2.2.2.2))))
          go_wp2_with fail
          go_ret
          exact ⟨ret_bool R2.out, END.out⟩
        have eA : ((A2.length : Int) == 0) = true := by have h := hA; first | (rw [beq_eq_false_iff_ne]; omega) | (rw [beq_iff_eq]; omega)
        have R2 : Hid (m = true) := Lib.hid (R.out.trans (decide_eq_true ⟨rfl, rfl, rfl, rfl, rfl, hD, hX, hA⟩))
        go_wp2_with fail
        go_ret
        exact ⟨ret_bool R2.out, END.out⟩
      · have R : Hid (m = decide (zeroF ⟨K2, S2, O2, N2, C2, F2, D2, X2, A2⟩)) := Lib.hid (R0.out.trans (by unfold unfin; rw [if_neg hk]))
        have END := Lib.hid (BEL0.out.trans (BEL.out.mono BEL0.out.size))
        have ek : (K == 8) = false := by simp [hk]
        clear R0 row2
        go_upto_region 11 with (fail)
        by_cases hS : S2 = 0
        rotate_left
        · have eS : (S2 == 0) = false := by have h := hS; simp [h]
          have R2 : Hid (m = false) := Lib.hid (R.out.trans (decide_eq_false (fun z => hS (z.1))))
          go_wp2_with fail
          go_ret
          exact ⟨ret_bool R2.out, END.out⟩
        subst hS
        by_cases hO : O2 = 0
        rotate_left
        · have eO : (O2 == 0) = false := by have h := hO; simp [h]
          have R2 : Hid (m = false) := Lib.hid (R.out.trans (decide_eq_false (fun z => hO (z.2.1))))
          go_wp2_with fail
          go_ret
          exact ⟨ret_bool R2.out, END.out⟩
        subst hO
        by_cases hN : N2 = 0
        rotate_left
        · have eN : (N2 == 0) = false := by have h := hN; simp [h]
          have R2 : Hid (m = false) := Lib.hid (R.out.trans (decide_eq_false (fun z => hN (z.2.2.1))))
          go_wp2_with fail
          go_ret
          exact ⟨ret_bool R2.out, END.out⟩
        subst hN
        by_cases hC : C2 = 0
        rotate_left
        · have eC : (C2 == 0) = false := by have h := hC; simp [h]
          have R2 : Hid (m = false) := Lib.hid (R.out.trans (decide_eq_false (fun z => hC (z.2.2.2.1))))
          go_wp2_with fail
          go_ret
          exact ⟨ret_bool R2.out, END.out⟩
        subst hC
        by_cases hF : F2 = true
        · subst hF
          have R2 : Hid (m = false) := Lib.hid (R.out.trans (decide_eq_false (fun z => Bool.noConfusion (z.2.2.2.2.1))))
          go_wp2_with fail
          go_ret
          exact ⟨ret_bool R2.out, END.out⟩
        obtain rfl : F2 = false := by simpa using hF
        by_cases hD : D2.size = 0
        rotate_left
        · have eD : D2.toList.isEmpty = false := by have h := hD; rw [isEmpty_of rfl]; simp [h]
          have R2 : Hid (m = false) := Lib.hid (R.out.trans (decide_eq_false (fun z => hD (z.2.2.2.2.2.1))))
          go_wp2_with fail
          go_ret
          exact ⟨ret_bool R2.out, END.out⟩
        have eD : D2.toList.isEmpty = true := by have h := hD; rw [isEmpty_of rfl]; simp [h]
        by_cases hX : X2.size = 0
        rotate_left
        · have eX : X2.toList.isEmpty = false := by have h := hX; rw [isEmpty_of rfl]; simp [h]
          have R2 : Hid (m = false) := Lib.hid (R.out.trans (decide_eq_false (fun z => hX (z.2.2.2.2.2.2.1))))
          go_wp2_with fail
          go_ret
          exact ⟨ret_bool R2.out, END.out⟩
        have eX : X2.toList.isEmpty = true := by have h := hX; rw [isEmpty_of rfl]; simp [h]
        by_cases hA : A2.length = 0
        rotate_left
        · have eA : ((A2.length : Int) == 0) = false := by have h := hA; first | (rw [beq_eq_false_iff_ne]; omega) | (rw [beq_iff_eq]; omega)
          have R2 : Hid (m = false) := Lib.hid (R.out.trans (decide_eq_false (fun z => hA (z.2.2.2.2.2.2.2))))
          go_wp2_with fail
          go_ret
          exact ⟨ret_bool R2.out, END.out⟩
        have eA : ((A2.length : Int) == 0) = true := by have h := hA; first | (rw [beq_eq_false_iff_ne]; omega) | (rw [beq_iff_eq]; omega)
        have R2 : Hid (m = true) := Lib.hid (R.out.trans (decide_eq_true ⟨rfl, rfl, rfl, rfl, rfl, hD, hX, hA⟩))
        go_wp2_with fail
        go_ret
        exact ⟨ret_bool R2.out, END.out⟩
end Go.Proofs.YtcgbhcmgddgheabDoor
