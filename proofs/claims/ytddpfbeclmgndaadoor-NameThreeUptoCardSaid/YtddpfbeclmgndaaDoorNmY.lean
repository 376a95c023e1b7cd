/-
  name: the name above one.
-/
import Derived.Test.YtddpfbeclmgndaaDoorNmX
namespace Go.Proofs.YtddpfbeclmgndaaDoor
open Go Go.RowKit Go.BigFrame
set_option linter.unusedSimpArgs false
set_option linter.unusedVariables false
theorem dotAt_free (p r : List (BitVec 8)) (h : 46#8 ∉ p) : dotAt (p ++ 46#8 :: r) = some p.length := by
  induction p with
  | nil => rw [List.nil_append, dotAt, if_pos rfl]; rfl
  | cons c l ih =>
    have hc : c ≠ 46#8 := fun e => h (by rw [e]; exact List.mem_cons_self ..)
    rw [List.cons_append, dotAt, if_neg hc, ih (fun hm => h (List.mem_cons_of_mem _ hm))]
    rfl
/-- A name that isn't the root, part by part. -/
theorem right_head {L : List (BitVec 8)} (h : rightB L = true) (hd : L ≠ [46#8]) : ∃ p ps r, labF L = p :: ps ∧ L = p ++ 46#8 :: r ∧ 46#8 ∉ p ∧ (r = [] ↔ ps = []) := by
  obtain ⟨h1, h2, h3, _⟩ := right_split hd h
  cases e : labF L with
  | nil => exact absurd e h2
  | cons p ps =>
    rw [e] at h1 h3
    have hj := join_split L
    rw [h1, join_snoc (p :: ps) [] (by simp)] at hj
    have hp := dot_part (h3 p (List.mem_cons_self ..))
    cases ps with
    | nil => exact ⟨p, [], [], rfl, hj.symm, hp, by simp⟩
    | cons q qs =>
      refine ⟨p, q :: qs, joinD (q :: qs) ++ [46#8], rfl, ?_, hp, by simp⟩
      rw [← hj, joinD_cons _ _ (by simp), List.append_assoc]
      rfl
/-- The name above: the error, the text. -/
def upF (L : List (BitVec 8)) : Int × List (BitVec 8) :=
  if rightB L = false then (14, []) else if L = [46#8] then (15, []) else
    match dotAt L with
    | none => (0, [])
    | some k => (0, if L.drop (k + 1) = [] then [46#8] else L.drop (k + 1))
theorem upF_head {L p r : List (BitVec 8)} (h : rightB L = true) (hd : L ≠ [46#8]) (hL : L = p ++ 46#8 :: r) (hp : 46#8 ∉ p) : upF L = (0, if r = [] then [46#8] else r) := by
  unfold upF
  rw [if_neg (by rw [h]; simp), if_neg hd]
  have e : dotAt L = some p.length := by rw [hL]; exact dotAt_free p r hp
  have e2 : L.drop (p.length + 1) = r := by rw [hL]; simp
  rw [e]
  dsimp only
  rw [e2]
set_option maxHeartbeats 4000000 in
set_option maxRecDepth 100000 in
theorem cut_some (L : List (BitVec 8)) (k : Nat) (w : World) (hL : L.length ≤ 100000) (h : dotAt L = some k) : Calls Tryd.prog 44 #[.string (sL L), .string ⟨#[46]⟩] w fun e w' => e = .returned (.tuple #[.string (sL (L.take k)), .string (sL (L.drop (k + 1))), .bool true]) ∧ Below w.heap.size w w' := by
  have HI := Lib.hid (index_any L)
  have hk := dotAt_lt h
  have hI : dotI L = (k : Int) := by unfold dotI; rw [h]
  rw [hI] at HI
  have i1 : ∀ w' : World, (Instr.sliceAt 9 (.string (sL L)) none (some (.int .i64 (k : Int))) none).run Tryd.prog w' = .ok (.string (sL (L.take k))) w' := run_upto_s L k _ rfl (by omega)
  have i2 : ∀ w' : World, (Instr.sliceAt 9 (.string (sL L)) (some (.int .i64 ((k : Int) + 1))) none none).run Tryd.prog w' = .ok (.string (sL (L.drop (k + 1)))) w' := run_from_s L (k + 1) _ (by omega) (by omega)
  clear hI h
  generalize sL (L.take k) = T at *
  generalize sL (L.drop (k + 1)) = U at *
  generalize sL L = S at *
  go_enter Tryd.func44, Tryd.ntmps44
  go_upto_region 3 with (go_at_call 57; refine (HI.out _).mono ?_; rintro e w' ⟨rfl, rfl⟩)
  go_region
  go_wp2_with fail
  go_ret3
  exact ⟨rfl, (Below.refl _ _).drew⟩
set_option maxHeartbeats 4000000 in
set_option maxRecDepth 100000 in
theorem scut_some (L : List (BitVec 8)) (k : Nat) (w : World) (hL : L.length ≤ 100000) (h : dotAt L = some k) : Calls Tryd.prog 33 #[.string (sL L), .string ⟨#[46]⟩] w fun e w' => e = .returned (.tuple #[.string (sL (L.take k)), .string (sL (L.drop (k + 1))), .bool true]) ∧ Below w.heap.size w w' := by
  have HC := Lib.hid (fun w => cut_some L k w hL h)
  clear h
  generalize sL (L.take k) = T at *
  generalize sL (L.drop (k + 1)) = U at *
  generalize sL L = S at *
  go_enter Tryd.func33, Tryd.ntmps33
  go_wp2_with (go_at_call 44; refine (HC.out _).mono ?_; rintro e w1 ⟨rfl, B1⟩)
  go_ret3
  exact ⟨rfl, B1⟩
theorem up_ret {a b : Int × List (BitVec 8)} (h : a = b) : Ending.returned (.tuple #[.string (sL a.2), .int .i64 a.1]) = .returned (.tuple #[.string (sL b.2), .int .i64 b.1]) := by rw [h]
set_option maxHeartbeats 4000000 in
set_option maxRecDepth 100000 in
theorem up_any (L : List (BitVec 8)) (w : World) (hL : L.length ≤ 4611686018427387904) : Calls Tryd.prog 16 #[.string (sL L)] w fun e w' => e = .returned (.tuple #[.string (sL (upF L).2), .int .i64 (upF L).1]) ∧ Below w.heap.size w w' := by
  have HN := Lib.hid (fun w => isName_any L w hL)
  have hE : ((sL L).toList == [46]) = decide (L = [46#8]) := by
    have := sL_beq L [46#8]
    rw [sL_list [46#8]] at this
    exact this
  cases hr : rightB L with
  | false =>
    have hu : upF L = (14, []) := by unfold upF; rw [if_pos hr]
    rw [hu]
    dsimp only
    rw [sL_none]
    rw [hr] at HN
    clear hE hr hu
    generalize sL L = S at *
    go_enter Tryd.func16, Tryd.ntmps16
    go_wp2_with (go_at_call 29; refine (HN.out _).mono ?_; rintro e w1 ⟨rfl, B1⟩)
    go_ret2
    exact ⟨rfl, B1⟩
  | true =>
    rw [hr] at HN
    by_cases hd : L = [46#8]
    · have hu : upF L = (15, []) := by unfold upF; rw [if_neg (by rw [hr]; simp), if_pos hd]
      rw [hu]
      dsimp only
      rw [sL_none]
      rw [decide_eq_true hd] at hE
      clear hr hu hd
      generalize sL L = S at *
      go_enter Tryd.func16, Tryd.ntmps16
      go_wp2_with (go_at_call 29; refine (HN.out _).mono ?_; rintro e w1 ⟨rfl, B1⟩)
      go_ret2
      exact ⟨rfl, B1⟩
    · rw [decide_eq_false hd] at hE
      have hl := right_le hr
      obtain ⟨p, ps, r, h1, h2, h3, h4⟩ := right_head hr hd
      have hu := upF_head hr hd h2 h3
      have e : dotAt L = some p.length := by rw [h2]; exact dotAt_free p r h3
      have e2 : L.drop (p.length + 1) = r := by rw [h2]; simp
      have CT := Lib.hid (fun w => scut_some L p.length w (by omega) e)
      rw [e2] at CT
      rw [hu]
      dsimp only
      by_cases hrn : r = []
      · rw [if_pos hrn]
        have e3 : (sL r).toList.isEmpty = true := by rw [hrn, sL_list]; rfl
        rw [sL_dot]
        clear hr hu hd h1 h2 h3 h4 e e2 hrn
        generalize sL r = R at *
        generalize sL L = S at *
        go_enter Tryd.func16, Tryd.ntmps16
        go_wp2_with (first | (go_at_call 29; refine (HN.out _).mono ?_; rintro e w1 ⟨rfl, B1⟩) | (go_at_call 33; refine (CT.out _).mono ?_; rintro e w2 ⟨rfl, B2⟩))
        go_ret2
        exact ⟨rfl, B1.trans (B2.mono B1.size)⟩
      · rw [if_neg hrn]
        have e3 : (sL r).toList.isEmpty = false := by rw [sL_list]; simp [hrn]
        clear hr hu hd h1 h2 h3 h4 e e2 hrn
        generalize sL r = R at *
        generalize sL L = S at *
        go_enter Tryd.func16, Tryd.ntmps16
        go_wp2_with (first | (go_at_call 29; refine (HN.out _).mono ?_; rintro e w1 ⟨rfl, B1⟩) | (go_at_call 33; refine (CT.out _).mono ?_; rintro e w2 ⟨rfl, B2⟩))
        go_ret2
        exact ⟨rfl, B1.trans (B2.mono B1.size)⟩
set_option maxHeartbeats 4000000 in
set_option maxRecDepth 100000 in
theorem docUp_any (L : List (BitVec 8)) (w : World) (hL : L.length ≤ 2000000) : Calls Tryd.prog 15 #[.string (sL L)] w fun e w' => e = .returned (.tuple #[.string (sL (upF L).2), .int .i64 (upF L).1]) ∧ Below w.heap.size w w' := by
  have HD := Lib.hid (fun w => docLabels_any L w hL)
  cases hr : rightB L with
  | false =>
    have hu : upF L = (14, []) := by unfold upF; rw [if_pos hr]
    rw [hu]
    dsimp only
    rw [sL_none]
    have HP : Hid (∀ B v c w, DlPost B L v c w → v = .slice none 0 0 ∧ c = 14) := by
      intro B v c w h
      rcases h with h | h
      · exact h.2
      · rw [hr] at h; cases h.1
    clear hr hu
    generalize sL L = S at *
    go_enter Tryd.func15, Tryd.ntmps15
    go_wp2_with (go_at_call 11; refine (HD.out _).mono ?_; rintro e w1 ⟨v, c, rfl, hp, B1⟩; obtain ⟨rfl, rfl⟩ := HP.out _ _ _ _ hp; clear hp)
    go_ret2
    exact ⟨rfl, B1⟩
  | true =>
    have HP : Hid (∀ B v c w, DlPost B L v c w → c = 0 ∧ OwnT B v (labF L) w) := by
      intro B v c w h
      rcases h with h | h
      · rw [hr] at h; cases h.1
      · exact h.2
    by_cases hd : L = [46#8]
    · have hu : upF L = (15, []) := by unfold upF; rw [if_neg (by rw [hr]; simp), if_pos hd]
      rw [hu]
      dsimp only
      rw [sL_none]
      have hl0 : labF L = [] := by unfold labF; rw [if_pos hd]
      rw [hl0] at HP
      clear hr hu hd hl0
      generalize sL L = S at *
      go_enter Tryd.func15, Tryd.ntmps15
      go_wp2_with (go_at_call 11; refine (HD.out _).mono ?_; rintro e w1 ⟨v, c, rfl, hp, B1⟩; obtain ⟨rfl, R1⟩ := HP.out _ _ _ _ hp; clear hp; obtain ⟨oa, oc, hv⟩ := R1.shape; subst hv; clear R1)
      go_ret2
      exact ⟨rfl, B1⟩
    · have hl := right_le hr
      obtain ⟨p, ps, r, h1, h2, h3, h4⟩ := right_head hr hd
      have hu := upF_head hr hd h2 h3
      rw [hu]
      dsimp only
      rw [h1] at HP
      have e2 : L.drop (p.length + 1) = r := by rw [h2]; simp
      have hpl : p.length + 1 ≤ L.length := by rw [h2]; simp
      have zp := sL_size p
      have i2 : ∀ w' : World, (Instr.sliceAt 9 (.string (sL L)) (some (.int .i64 ((p.length : Int) + 1))) none none).run Tryd.prog w' = .ok (.string (sL r)) w' := by
        have h := run_from_s L (p.length + 1) ((p.length : Int) + 1) (by omega) hpl
        rw [e2] at h
        exact h
      by_cases hps : ps = []
      · rw [if_pos (h4.2 hps), sL_dot]
        rw [hps] at HP
        clear hr hu hd h1 h2 h3 h4 e2 hps i2
        generalize sL L = S at *
        go_enter Tryd.func15, Tryd.ntmps15
        go_wp2_with (go_at_call 11; refine (HD.out _).mono ?_; rintro e w1 ⟨v, c, rfl, hp, B1⟩; obtain ⟨rfl, R1⟩ := HP.out _ _ _ _ hp; clear hp; obtain ⟨oa, oc, hv⟩ := R1.shape; subst hv; clear R1)
        go_ret2
        exact ⟨rfl, B1⟩
      · rw [if_neg (fun h => hps (h4.1 h))]
        obtain ⟨N, hN⟩ : ∃ N, (p :: ps).length = N := ⟨_, rfl⟩
        have hN2 : 2 ≤ N := by
          rw [← hN, List.length_cons]
          have := List.length_pos_iff.2 hps
          omega
        have HNN := Lib.hid hN
        have q1 : ((N : Int) == 0) = false := beq_eq_false_iff_ne.2 (by omega)
        have q2 : ((N : Int) == 1) = false := beq_eq_false_iff_ne.2 (by omega)
        clear hr hu hd h1 h2 h3 h4 e2 hps hN
        generalize p.length = M at *
        generalize hD : sL p = D at *
        generalize sL r = R at *
        generalize sL L = S at *
        go_enter Tryd.func15, Tryd.ntmps15
        go_wp2_with (go_at_call 11; refine (HD.out _).mono ?_; rintro e w1 ⟨v, c, rfl, hp, B1⟩; obtain ⟨rfl, R1⟩ := HP.out _ _ _ _ hp; clear hp; obtain ⟨g, oc, hv, hnc, hcm, hc, -, -⟩ := R1.at 0 (by simp); rw [HNN.out] at hv hnc; subst hv; clear R1; rw [List.getElem_cons_zero, hD] at hc)
        go_ret2
        exact ⟨rfl, B1⟩
end Go.Proofs.YtddpfbeclmgndaaDoor
