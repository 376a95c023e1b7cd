/-
  name: the names above a name, one after another, as plain functions.
-/
import Derived.Test.YtddpfbeclmgndaaDoorNnE
namespace Go.Proofs.YtddpfbeclmgndaaDoor
open Go Go.RowKit Go.BigFrame
set_option linter.unusedSimpArgs false
set_option linter.unusedVariables false
theorem split_nodot (p : List (BitVec 8)) (h : 46#8 ∉ p) : splitDot p = [p] := by
  induction p with
  | nil => rfl
  | cons c l ih =>
    have hc : c ≠ 46#8 := fun e => h (by rw [e]; exact List.mem_cons_self ..)
    rw [splitDot, if_neg hc, ih fun hm => h (List.mem_cons_of_mem _ hm)]
theorem split_flat (ps : List (List (BitVec 8))) (h : ∀ p ∈ ps, isPartB p = true) : splitDot (flatD ps) = ps ++ [[]] := by
  induction ps with
  | nil => rfl
  | cons p ps ih =>
    rw [flatD_cons, split_app, split_nodot p (dot_part (h p (List.mem_cons_self ..))), ih fun q hq => h q (List.mem_cons_of_mem _ hq)]
    rfl
theorem flat_drop (ps : List (List (BitVec 8))) (i : Nat) : (flatD (ps.drop i)).length ≤ (flatD ps).length := by
  have h : flatD ps = flatD (ps.take i) ++ flatD (ps.drop i) := by rw [← flatD_app, List.take_append_drop]
  have h2 := congrArg List.length h
  rw [List.length_append] at h2
  omega
theorem flat_ne (p : List (BitVec 8)) (ps : List (List (BitVec 8))) (h : isPartB p = true) : flatD (p :: ps) ≠ [46#8] := by
  intro e
  have h2 := congrArg List.length e
  have h3 := List.length_pos_iff.2 (part_ne h)
  rw [flatD_cons, List.length_append, List.length_cons] at h2
  simp at h2
  omega
/-- Parts that are few enough are a name's. -/
theorem nm_right (ps : List (List (BitVec 8))) (h : ∀ p ∈ ps, isPartB p = true) (hl : (flatD ps).length ≤ 254) : rightB (nmF ps) = true ∧ labF (nmF ps) = ps := by
  cases ps with
  | nil => exact ⟨by decide, by unfold nmF; rw [if_pos rfl, lab_root]⟩
  | cons p ps =>
    have e : nmF (p :: ps) = flatD (p :: ps) := by unfold nmF; rw [if_neg (by simp)]
    rw [e]
    exact right_of_split (flat_ne p ps (h p (List.mem_cons_self ..))) (split_flat _ h) (by simp) h (by omega)
/-- The name above one that isn't the root. -/
theorem up_nm (p : List (BitVec 8)) (ps : List (List (BitVec 8))) (h : ∀ q ∈ p :: ps, isPartB q = true) (hl : (flatD (p :: ps)).length ≤ 254) : upF (nmF (p :: ps)) = (0, nmF ps) := by
  have e : nmF (p :: ps) = flatD (p :: ps) := by unfold nmF; rw [if_neg (by simp)]
  have hr := (nm_right _ h hl).1
  rw [e] at hr ⊢
  have hp := h p (List.mem_cons_self ..)
  rw [upF_head hr (flat_ne p ps hp) (flatD_cons p ps) (dot_part hp)]
  have e2 : (flatD ps = []) ↔ ps = [] := by
    cases ps with
    | nil => simp [flatD]
    | cons q qs => rw [flatD_cons]; simp
  unfold nmF
  by_cases hps : ps = []
  · rw [if_pos (e2.2 hps), if_pos hps]
  · rw [if_neg (fun x => hps (e2.1 x)), if_neg hps]
theorem up_root : upF [46#8] = (15, []) := by
  unfold upF
  rw [if_neg (by decide), if_pos rfl]
/-- One step above. -/
theorem ups_round {P : List (List (BitVec 8))} {i : Nat} (hp : ∀ p ∈ P, isPartB p = true) (hl : (flatD P).length ≤ 254) (hi : i < P.length) :
    upF (nmF (P.drop i)) = (0, nmF (P.drop (i + 1))) ∧ underF (nmF (P.drop i)) (nmF (P.drop (i + 1))) = true ∧ underF (nmF P) (nmF (P.drop (i + 1))) = true ∧ underF (nmF (P.drop (i + 1))) (nmF (P.drop i)) = false
      ∧ lessF (nmF (P.drop (i + 1))) (nmF (P.drop i)) = true ∧ lessF (nmF (P.drop i)) (nmF (P.drop (i + 1))) = false := by
  have hd : P.drop i = P[i] :: P.drop (i + 1) := List.drop_eq_getElem_cons hi
  have hpd : ∀ j, ∀ p ∈ P.drop j, isPartB p = true := fun j p h => hp p (List.mem_of_mem_drop h)
  obtain ⟨r0, l0⟩ := nm_right P hp hl
  obtain ⟨r1, l1⟩ := nm_right (P.drop i) (hpd i) (by have := flat_drop P i; omega)
  obtain ⟨r2, l2⟩ := nm_right (P.drop (i + 1)) (hpd (i + 1)) (by have := flat_drop P (i + 1); omega)
  have hlt : lessR (P.drop (i + 1)).reverse (P.drop i).reverse = true := by
    rw [hd, List.reverse_cons]
    exact lr_pre _ _ []
  have hne : (P.drop (i + 1)).reverse ≠ (P.drop i).reverse := by
    intro e
    have h2 := congrArg List.length e
    rw [List.length_reverse, List.length_reverse, List.length_drop, List.length_drop] at h2
    omega
  refine ⟨?_, ?_, ?_, ?_, ?_, ?_⟩
  · have h1 := hpd i
    have h2 := flat_drop P i
    rw [hd] at h1 h2 ⊢
    exact up_nm _ _ h1 (by omega)
  · unfold underF
    rw [r1, r2, l1, l2, Bool.true_and, Bool.true_and, decide_eq_true_eq, hd]
    exact List.suffix_cons _ _
  · unfold underF
    rw [r0, r2, l0, l2, Bool.true_and, Bool.true_and, decide_eq_true_eq]
    exact List.drop_suffix _ _
  · unfold underF
    rw [r1, r2, l1, l2, Bool.true_and, Bool.true_and, decide_eq_false_iff_not]
    intro h
    have := h.length_le
    rw [List.length_drop, List.length_drop] at this
    omega
  · unfold lessF
    rw [r1, r2, l1, l2, Bool.true_and, Bool.true_and]
    exact hlt
  · unfold lessF
    rw [r1, r2, l1, l2, Bool.true_and, Bool.true_and, lr_tri _ _ hne, hlt]
    rfl
end Go.Proofs.YtddpfbeclmgndaaDoor
