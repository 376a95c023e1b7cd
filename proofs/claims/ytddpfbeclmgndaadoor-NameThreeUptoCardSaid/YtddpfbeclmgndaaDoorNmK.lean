/-
  name: parts put together and taken apart; the order of names; Less.
-/
import Derived.Test.YtddpfbeclmgndaaDoorNmJ
namespace Go.Proofs.YtddpfbeclmgndaaDoor
open Go Go.RowKit Go.BigFrame
set_option linter.unusedSimpArgs false
set_option linter.unusedVariables false
/-- Parts with dots between them. -/
def joinD : List (List (BitVec 8)) → List (BitVec 8)
  | [] => []
  | [p] => p
  | p :: q :: ps => p ++ 46#8 :: joinD (q :: ps)
theorem joinD_cons (p : List (BitVec 8)) (ps : List (List (BitVec 8))) (h : ps ≠ []) : joinD (p :: ps) = p ++ 46#8 :: joinD ps := by
  cases ps with
  | nil => exact absurd rfl h
  | cons q ps => rfl
theorem join_split (l : List (BitVec 8)) : joinD (splitDot l) = l := by
  induction l with
  | nil => rfl
  | cons c l ih =>
    rw [splitDot]
    by_cases hc : c = 46#8
    · rw [if_pos hc, joinD_cons _ _ (splitDot_ne l), ih, hc]; rfl
    · rw [if_neg hc]
      cases e : splitDot l with
      | nil => exact absurd e (splitDot_ne l)
      | cons p ps =>
        rw [e] at ih
        dsimp only
        cases ps with
        | nil => rw [← ih]; rfl
        | cons q ps => rw [← ih]; rfl
theorem split_free (l : List (BitVec 8)) : ∀ p ∈ splitDot l, 46#8 ∉ p := by
  induction l with
  | nil => intro p hp; simp [splitDot] at hp; rw [hp]; simp
  | cons c l ih =>
    rw [splitDot]
    by_cases hc : c = 46#8
    · rw [if_pos hc]
      intro p hp
      rcases List.mem_cons.1 hp with h | h
      · rw [h]; simp
      · exact ih p h
    · rw [if_neg hc]
      cases e : splitDot l with
      | nil => exact absurd e (splitDot_ne l)
      | cons q qs =>
        rw [e] at ih
        dsimp only
        intro p hp
        rcases List.mem_cons.1 hp with h | h
        · rw [h]
          intro hm
          rcases List.mem_cons.1 hm with h2 | h2
          · exact hc h2.symm
          · exact ih q (List.mem_cons_self ..) h2
        · exact ih p (List.mem_cons_of_mem _ h)
theorem join_snoc (ps : List (List (BitVec 8))) (p : List (BitVec 8)) (h : ps ≠ []) : joinD (ps ++ [p]) = joinD ps ++ 46#8 :: p := by
  induction ps with
  | nil => exact absurd rfl h
  | cons q qs ih =>
    cases qs with
    | nil => rfl
    | cons r rs =>
      rw [List.cons_append, joinD_cons _ _ (by simp), ih (by simp), joinD_cons q (r :: rs) (by simp), List.append_assoc]
      rfl
theorem bx_mem {L : List (BitVec 8)} {i : Nat} (h : i < L.length) : bx L i ∈ L := by
  unfold bx
  rw [List.getD_eq_getElem?_getD, List.getElem?_eq_getElem h]
  exact List.getElem_mem h
theorem lastTo_none (L : List (BitVec 8)) (h : 46#8 ∉ L) : ∀ n, n ≤ L.length → lastTo L n = none := by
  intro n
  induction n with
  | zero => intro _; rfl
  | succ n ih =>
    intro hn
    rw [lastTo, if_neg (by intro e; have hm := bx_mem (L := L) (i := n) (by omega); rw [e] at hm; exact h hm), ih (by omega)]
theorem lastTo_some (A p : List (BitVec 8)) (h : 46#8 ∉ p) : ∀ n, n ≤ p.length → lastTo (A ++ 46#8 :: p) (A.length + 1 + n) = some A.length := by
  intro n
  induction n with
  | zero =>
    intro _
    have : bx (A ++ 46#8 :: p) A.length = 46#8 := by unfold bx; simp
    rw [Nat.add_zero, lastTo, if_pos this]
  | succ n ih =>
    intro hn
    have e : A.length + 1 + (n + 1) = (A.length + 1 + n) + 1 := by omega
    have hb : bx (A ++ 46#8 :: p) (A.length + 1 + n) = bx p n := by
      unfold bx
      rw [List.getD_eq_getElem?_getD, List.getElem?_append_right (by omega), show A.length + 1 + n - A.length = n + 1 by omega, List.getElem?_cons_succ, List.getD_eq_getElem?_getD]
    rw [e, lastTo, hb, if_neg (by intro e2; have hm := bx_mem (L := p) (i := n) (by omega); rw [e2] at hm; exact h hm), ih (by omega)]
theorem cutH_join (ps : List (List (BitVec 8))) (p : List (BitVec 8)) (h : 46#8 ∉ p) : cutH (joinD (ps ++ [p])) = (joinD ps, p) := by
  cases ps with
  | nil =>
    have := lastTo_none p h p.length (Nat.le_refl _)
    unfold cutH
    rw [List.nil_append]
    show (match lastTo p p.length with | none => ([], p) | some k => (p.take k, p.drop (k + 1))) = ([], p)
    rw [this]
  | cons q qs =>
    have e := join_snoc (q :: qs) p (by simp)
    have h1 := lastTo_some (joinD (q :: qs)) p h p.length (Nat.le_refl _)
    unfold cutH
    rw [e]
    have hl : (joinD (q :: qs) ++ 46#8 :: p).length = (joinD (q :: qs)).length + 1 + p.length := by simp; omega
    rw [hl, h1]
    simp
/-- Byte by byte. -/
def ltB (p q : List (BitVec 8)) : Bool := Op.bytesLess (p.map UInt8.ofBitVec) (q.map UInt8.ofBitVec)
/-- The order of parts, the highest first. -/
def lessR : List (List (BitVec 8)) → List (List (BitVec 8)) → Bool
  | [], qs => decide (qs ≠ [])
  | _ :: _, [] => false
  | p :: ps, q :: qs => if p = q then lessR ps qs else ltB p q
/-- Does a name come ahead of another? -/
def lessF (A B : List (BitVec 8)) : Bool := rightB A && rightB B && lessR (labF A).reverse (labF B).reverse
theorem dot_part {p : List (BitVec 8)} (h : isPartB p = true) : 46#8 ∉ p := by
  intro hm
  unfold isPartB at h
  rw [Bool.and_eq_true] at h
  have := List.all_eq_true.1 h.2 _ hm
  revert this
  decide
theorem part_ne {p : List (BitVec 8)} (h : isPartB p = true) : p ≠ [] := by
  rintro rfl
  revert h
  decide
theorem trim_dot : trimF [46#8] [46#8] = [] := by decide
theorem trim_join {L : List (BitVec 8)} (h : rightB L = true) : trimF L [46#8] = joinD (labF L) := by
  unfold labF
  split
  · rename_i e; rw [e, trim_dot]; rfl
  · rw [join_split]
theorem join_nil {ps : List (List (BitVec 8))} (h : ∀ p ∈ ps, isPartB p = true) : joinD ps = [] ↔ ps = [] := by
  constructor
  · intro e
    cases ps with
    | nil => rfl
    | cons p qs =>
      have hp := part_ne (h p (List.mem_cons_self ..))
      cases qs with
      | nil => exact absurd e hp
      | cons q qs => simp [joinD] at e
  · rintro rfl; rfl
theorem join_lt (ps : List (List (BitVec 8))) (p : List (BitVec 8)) (h : p ≠ []) : (joinD ps).length < (joinD (ps ++ [p])).length := by
  cases ps with
  | nil =>
    have := List.length_pos_iff.2 h
    exact this
  | cons q qs =>
    rw [join_snoc (q :: qs) p (by simp)]
    simp
end Go.Proofs.YtddpfbeclmgndaaDoor
