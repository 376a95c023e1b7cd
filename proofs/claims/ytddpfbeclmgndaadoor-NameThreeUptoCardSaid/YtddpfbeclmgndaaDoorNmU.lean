/-
  name: how the document reads a name's parts, as plain functions.
-/
import Derived.Test.YtddpfbeclmgndaaDoorNmM
namespace Go.Proofs.YtddpfbeclmgndaaDoor
open Go Go.RowKit Go.BigFrame
set_option linter.unusedSimpArgs false
set_option linter.unusedVariables false
theorem split_at_dot (cur r : List (BitVec 8)) (h : 46#8 ∉ cur) : splitDot (cur ++ 46#8 :: r) = cur :: splitDot r := by
  induction cur with
  | nil => rw [List.nil_append, splitDot, if_pos rfl]
  | cons c l ih =>
    have hc : c ≠ 46#8 := fun e => h (by rw [e]; exact List.mem_cons_self ..)
    rw [List.cons_append, splitDot, if_neg hc, ih (fun hm => h (List.mem_cons_of_mem _ hm))]
theorem split_free_one (cur : List (BitVec 8)) (h : 46#8 ∉ cur) : splitDot cur = [cur] := by
  induction cur with
  | nil => rfl
  | cons c l ih =>
    have hc : c ≠ 46#8 := fun e => h (by rw [e]; exact List.mem_cons_self ..)
    rw [splitDot, if_neg hc, ih (fun hm => h (List.mem_cons_of_mem _ hm))]
theorem split_first (cur : List (BitVec 8)) (c : BitVec 8) (r : List (BitVec 8)) (h : 46#8 ∉ cur) (hc : c ≠ 46#8) : ∃ q t, splitDot (cur ++ c :: r) = q :: t ∧ c ∈ q := by
  induction cur with
  | nil =>
    rw [List.nil_append, splitDot, if_neg hc]
    cases e : splitDot r with
    | nil => exact ⟨[c], [], rfl, by simp⟩
    | cons p ps => exact ⟨c :: p, ps, rfl, by simp⟩
  | cons d l ih =>
    have hd : d ≠ 46#8 := fun e => h (by rw [e]; exact List.mem_cons_self ..)
    obtain ⟨q, t, e, hm⟩ := ih (fun hm => h (List.mem_cons_of_mem _ hm))
    rw [List.cons_append, splitDot, if_neg hd, e]
    exact ⟨d :: q, t, rfl, List.mem_cons_of_mem _ hm⟩
theorem split_snoc (M : List (BitVec 8)) : splitDot (M ++ [46#8]) = splitDot M ++ [[]] := by
  induction M with
  | nil => rfl
  | cons c l ih =>
    rw [List.cons_append, splitDot, splitDot, ih]
    by_cases hc : c = 46#8
    · rw [if_pos hc, if_pos hc]; rfl
    · rw [if_neg hc, if_neg hc]
      cases e : splitDot l with
      | nil => exact absurd e (splitDot_ne l)
      | cons p ps => rfl
theorem suf_iff (L : List (BitVec 8)) : sufB L [46#8] = true ↔ ∃ M, L = M ++ [46#8] := by
  unfold sufB
  rw [Bool.and_eq_true, decide_eq_true_eq, decide_eq_true_eq]
  constructor
  · rintro ⟨h1, h2⟩
    exact ⟨L.take (L.length - 1), by conv => lhs; rw [← List.take_append_drop (L.length - 1) L]
                                     exact congrArg (L.take (L.length - 1) ++ ·) h2⟩
  · rintro ⟨M, rfl⟩
    refine ⟨by simp, ?_⟩
    simp
theorem trim_snoc (M : List (BitVec 8)) : trimF (M ++ [46#8]) [46#8] = M := by
  unfold trimF
  rw [if_pos ((suf_iff _).2 ⟨M, rfl⟩)]
  simp
theorem right_split {L : List (BitVec 8)} (hd : L ≠ [46#8]) (h : rightB L = true) : splitDot L = labF L ++ [[]] ∧ labF L ≠ [] ∧ (∀ p ∈ labF L, isPartB p = true) ∧ L.length + 1 ≤ 255 := by
  have hp := lab_part h
  unfold rightB at h
  rw [decide_eq_false hd, Bool.false_or, Bool.and_eq_true, Bool.and_eq_true, decide_eq_true_eq] at h
  obtain ⟨⟨h1, h2⟩, h3⟩ := h
  obtain ⟨M, rfl⟩ := (suf_iff L).1 h2
  have hl : labF (M ++ [46#8]) = splitDot M := by unfold labF; rw [if_neg hd, trim_snoc]
  rw [hl] at hp ⊢
  exact ⟨split_snoc M, splitDot_ne M, hp, h1⟩
theorem right_of_split {L : List (BitVec 8)} {ps : List (List (BitVec 8))} (hd : L ≠ [46#8]) (hs : splitDot L = ps ++ [[]]) (hn : ps ≠ []) (hp : ∀ p ∈ ps, isPartB p = true) (hl : L.length + 1 ≤ 255) : rightB L = true ∧ labF L = ps := by
  have e : L = joinD ps ++ [46#8] := by
    conv => lhs; rw [← join_split L, hs, join_snoc ps [] hn]
  have h2 : splitDot (joinD ps) = ps := by
    have h3 := split_snoc (joinD ps)
    rw [← e, hs] at h3
    exact (List.append_cancel_right h3).symm
  have hlab : labF L = ps := by unfold labF; rw [if_neg hd, e, trim_snoc, h2]
  refine ⟨?_, hlab⟩
  unfold rightB
  rw [decide_eq_false hd, Bool.false_or, decide_eq_true hl, (suf_iff L).2 ⟨_, e⟩, Bool.true_and, Bool.true_and]
  rw [e, trim_snoc, h2]
  exact List.all_eq_true.2 hp
/-- What stands ahead of the last one is a part. -/
theorem right_mid {L : List (BitVec 8)} (hd : L ≠ [46#8]) (h : rightB L = true) {ps ts : List (List (BitVec 8))} {q : List (BitVec 8)} (hs : splitDot L = ps ++ q :: ts) (ht : ts ≠ []) : isPartB q = true := by
  obtain ⟨h1, _, hp, _⟩ := right_split hd h
  rw [h1] at hs
  obtain ⟨us, u, rfl⟩ : ∃ us u, ts = us ++ [u] := ⟨ts.dropLast, ts.getLast ht, (List.dropLast_concat_getLast ht).symm⟩
  have e : labF L ++ [[]] = (ps ++ q :: us) ++ [u] := by rw [hs]; simp
  have e2 := (List.append_inj' e rfl).1
  exact hp q (by rw [e2]; simp)
theorem right_last {L : List (BitVec 8)} (hd : L ≠ [46#8]) (h : rightB L = true) {ps : List (List (BitVec 8))} {q : List (BitVec 8)} (hs : splitDot L = ps ++ [q]) : q = [] := by
  obtain ⟨h1, _, _, _⟩ := right_split hd h
  rw [h1] at hs
  have := (List.append_inj' hs rfl).2
  injection this with e
  exact e.symm
theorem part_iff {q : List (BitVec 8)} : isPartB q = true ↔ 0 < q.length ∧ q.length ≤ 63 ∧ ∀ c ∈ q, okc c = true := by
  unfold isPartB
  rw [Bool.and_eq_true, Bool.and_eq_true, decide_eq_true_eq, decide_eq_true_eq, List.all_eq_true]
  exact ⟨fun h => ⟨h.1.1, h.1.2, h.2⟩, fun h => ⟨⟨h.1, h.2.1⟩, h.2.2⟩⟩
theorem okc_dot {cur : List (BitVec 8)} (h : ∀ c ∈ cur, okc c = true) : 46#8 ∉ cur := fun hm => by
  have := h _ hm
  revert this
  decide
/-- A dot behind too few or too many bytes. -/
theorem bad_dot {L cur r : List (BitVec 8)} {ps : List (List (BitVec 8))} (hd : L ≠ [46#8]) (hs : splitDot L = ps ++ splitDot (cur ++ 46#8 :: r)) (hc : ∀ c ∈ cur, okc c = true) (hl : cur.length = 0 ∨ 63 < cur.length) : rightB L = false := by
  cases h : rightB L with
  | false => rfl
  | true =>
    rw [split_at_dot cur r (okc_dot hc)] at hs
    have := part_iff.1 (right_mid hd h hs (splitDot_ne r))
    omega
theorem bad_byte {L cur r : List (BitVec 8)} {c : BitVec 8} {ps : List (List (BitVec 8))} (hd : L ≠ [46#8]) (hs : splitDot L = ps ++ splitDot (cur ++ c :: r)) (hc : ∀ c ∈ cur, okc c = true) (h1 : c ≠ 46#8) (h2 : okc c = false) : rightB L = false := by
  cases h : rightB L with
  | false => rfl
  | true =>
    obtain ⟨q, t, e, hm⟩ := split_first cur c r (okc_dot hc) h1
    rw [e] at hs
    by_cases ht : t = []
    · subst ht
      have := right_last hd h hs
      rw [this] at hm
      cases hm
    · have := (part_iff.1 (right_mid hd h hs ht)).2.2 c hm
      rw [h2] at this
      cases this
theorem bad_end {L cur : List (BitVec 8)} {ps : List (List (BitVec 8))} (hd : L ≠ [46#8]) (hs : splitDot L = ps ++ splitDot cur) (hc : ∀ c ∈ cur, okc c = true) (h : cur ≠ []) : rightB L = false := by
  cases hr : rightB L with
  | false => rfl
  | true =>
    rw [split_free_one cur (okc_dot hc)] at hs
    exact absurd (right_last hd hr hs) h
theorem bad_len {L : List (BitVec 8)} (hd : L ≠ [46#8]) (h : ¬ L.length + 1 ≤ 255) : rightB L = false := by
  cases hr : rightB L with
  | false => rfl
  | true => exact absurd (right_split hd hr).2.2.2 h
theorem bad_none : rightB [] = false := by decide
end Go.Proofs.YtddpfbeclmgndaaDoor
