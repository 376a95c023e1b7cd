/-
  A LARGE REGION THAT DRAWS ITS ORDER, each operation of its head with a slot of its own, one behind the other: the question that the region's law asks of it, in so many steps as there are operands and edges.
-/
import Derived.Test.YtmfiabkhnoimhaaRowKit
namespace Go.Proofs.Ytmfiabkhnoimhaa
open Go Go.RowKit Go.BigFrame
/-- Which are listed: the first k. -/
def canon (size k : Nat) : Array Bool := ((List.range size).map fun i => decide (i < k)).toArray
theorem canon_size (size k : Nat) : (canon size k).size = size := by simp [canon]
theorem canon_getD (size k i : Nat) (b : Bool) (h : i < size) : (canon size k).getD i b = decide (i < k) := by
  simp [canon, Array.getD, h]
theorem canon_out (size k i : Nat) (b : Bool) (h : size ≤ i) : (canon size k).getD i b = b := by
  have : ¬ i < size := by omega
  simp [canon, Array.getD, this]
theorem canon_set (size k : Nat) : (canon size k).setIfInBounds k true = canon size (k + 1) := by
  apply Array.ext_getElem?
  intro i
  rw [Array.getElem?_setIfInBounds]
  by_cases hi : i < size
  · by_cases hk : k = i
    · subst hk; simp [canon, hi]
    · rw [if_neg hk]
      have : (decide (i < k)) = decide (i < k + 1) := by rw [Bool.eq_iff_iff]; simp; omega
      simp [canon, hi, this]
  · by_cases hk : k = i
    · subst hk; simp [canon, hi]
    · rw [if_neg hk]; simp [canon, hi]
theorem canon_zero (size : Nat) : Array.replicate size false = canon size 0 := by
  apply Array.ext_getElem?
  intro i
  by_cases hi : i < size
  · simp [canon, hi]
  · simp [canon, hi]
/-- One operation, number j of a head of n: its edges go back; what it looks at was there ahead of the region, or is ordered by an edge; its slot is the next one. -/
def fastOp (ops : Array Oper) (base n j : Nat) (o : Oper) : Bool :=
  (o.after.all fun e => !Region.binds .any e || decide (e.on < j)) && ((o.looksAt ops).all fun t => decide (t < base) || (o.after.any fun e => Region.binds .any e && e.on + base == t)) &&
    (if j < n then o.dst == some (base + j) else match o.dst with | none => true | some d => decide (d < base) && ops.all fun x => !(x.looksAt ops).contains d)
def fastL (ops : Array Oper) (base n : Nat) : Nat → List Oper → Bool
  | _, [] => true
  | j, o :: l => fastOp ops base n j o && fastL ops base n (j + 1) l
theorem fastL_get {ops : Array Oper} {base n : Nat} : ∀ (l : List Oper) (j : Nat), fastL ops base n j l = true → ∀ i o, l[i]? = some o → fastOp ops base n (j + i) o = true
  | [], _, _, i, o, h => by simp at h
  | x :: l, j, hf, i, o, h => by
    simp only [fastL, Bool.and_eq_true] at hf
    match i with
    | 0 => simp at h; subst h; simpa using hf.1
    | i + 1 =>
      have := fastL_get l (j + 1) hf.2 i o (by simpa using h)
      rwa [show j + 1 + i = j + (i + 1) by omega] at this
def fastB (l : List Oper) (base n : Nat) : Bool :=
  Region.noSelect l.toArray && decide (n + 1 = l.length) && Region.sinkB .any l.toArray n && Region.chainB .any l.toArray n && Region.seqB .any l.toArray 1 n (canon l.length n) && fastL l.toArray base n 0 l
theorem lexHead_fast {l : List Oper} {base n : Nat} (hn : n + 1 = l.length) (hs : Region.seqB .any l.toArray 1 n (canon l.length n) = true) (hf : fastL l.toArray base n 0 l = true) :
    ∀ f k, f + k = n → Region.lexHead .any l.toArray 1 f k (canon l.length k) = true := by
  have get : ∀ i o, l[i]? = some o → fastOp l.toArray base n i o = true := fun i o h => by simpa using fastL_get l 0 hf i o h
  have fwd : ∀ i o, l[i]? = some o → ∀ e ∈ o.after, Region.binds .any e = true → e.on < i := fun i o h e he hb => by
    have h1 := get i o h
    simp only [fastOp, Bool.and_eq_true] at h1
    have h2 := (Array.all_eq_true_iff_forall_mem.1 h1.1.1) e he
    simpa [hb] using h2
  have look : ∀ (i : Nat) (o : Oper), l[i]? = some o → ∀ t ∈ o.looksAt l.toArray, t < base ∨ ∃ e ∈ o.after, Region.binds .any e = true ∧ e.on + base = t := fun i o h t ht => by
    have h1 := get i o h
    simp only [fastOp, Bool.and_eq_true] at h1
    have h2 := (List.all_eq_true.1 h1.1.2) t ht
    simp only [Bool.or_eq_true, decide_eq_true_eq] at h2
    rcases h2 with h2 | h2
    · exact .inl h2
    · obtain ⟨e, he, hb⟩ := Array.any_eq_true'.1 h2
      simp only [Bool.and_eq_true, beq_iff_eq] at hb
      exact .inr ⟨e, he, hb.1, hb.2⟩
  have dst : ∀ (i : Nat) (o : Oper), l[i]? = some o → i < n → o.dst = some (base + i) := fun i o h hi => by
    have h1 := get i o h
    simp only [fastOp, Bool.and_eq_true] at h1
    have h2 := h1.2
    rw [if_pos hi] at h2
    simpa using h2
  have dstn : ∀ (i : Nat) (o : Oper) (d : Nat), l[i]? = some o → ¬ i < n → o.dst = some d → d < base ∧ ∀ (j : Nat) (x : Oper), l[j]? = some x → d ∉ x.looksAt l.toArray := fun i o d h hi hd => by
    have h1 := get i o h
    simp only [fastOp, Bool.and_eq_true] at h1
    have h2 := h1.2
    rw [if_neg hi, hd] at h2
    simp only [Bool.and_eq_true, decide_eq_true_eq] at h2
    refine ⟨h2.1, fun j x hx hm => ?_⟩
    have h3 := (Array.all_eq_true_iff_forall_mem.1 h2.2) x (by simpa using List.mem_of_getElem? hx)
    simp only [Bool.not_eq_true'] at h3
    rw [Bool.eq_false_iff] at h3
    exact h3 (List.contains_iff_mem.2 hm)
  intro f
  induction f with
  | zero =>
    intro k hk
    have : k = n := by omega
    subst this
    exact hs
  | succ f ih =>
    intro k hk
    have hkl : k < l.length := by omega
    obtain ⟨o, ho⟩ : ∃ o, l[k]? = some o := ⟨l[k], List.getElem?_eq_getElem hkl⟩
    have hoa : l.toArray[k]? = some o := by simpa using ho
    unfold Region.lexHead
    simp only [Bool.and_eq_true]
    refine ⟨⟨?_, ?_⟩, ?_⟩
    · rw [List.contains_iff_mem]
      unfold Region.ready
      rw [List.mem_filter]
      refine ⟨by simpa using hkl, ?_⟩
      rw [hoa, canon_getD _ _ _ _ hkl]
      simp only [Option.map_some, Option.getD_some, Bool.and_eq_true]
      refine ⟨by simp, ?_⟩
      rw [Array.all_eq_true_iff_forall_mem]
      intro e he
      cases hb : Region.binds .any e with
      | false => rfl
      | true =>
        have := fwd k o ho e he hb
        rw [canon_getD _ _ _ _ (by omega)]
        simp [this]
    · unfold Region.free
      rw [hoa]
      simp only [List.all_eq_true, List.mem_range]
      intro j hj
      have hjl : j < l.length := by simpa using hj
      obtain ⟨oj, hoj⟩ : ∃ o, l[j]? = some o := ⟨l[j], List.getElem?_eq_getElem hjl⟩
      have hoja : l.toArray[j]? = some oj := by simpa using hoj
      rw [hoja, canon_getD _ _ _ _ hjl]
      simp only [Bool.or_eq_true, beq_iff_eq, decide_eq_true_eq]
      rcases Nat.lt_trichotomy j k with h | h | h
      · exact .inl (.inr h)
      · exact .inl (.inl h)
      · right
        by_cases hany : (oj.after.any fun e => Region.binds .any e && e.on == k) = true
        · exact .inl hany
        right
        have hno : ∀ e ∈ oj.after, Region.binds .any e = true → e.on ≠ k := fun e he hb hk2 => by
          apply hany
          rw [Array.any_eq_true']
          exact ⟨e, he, by simp [hb, hk2]⟩
        have dk := dst k o ho (by omega)
        unfold Oper.apart
        rw [dk]
        simp only [Bool.and_eq_true, Bool.not_eq_true', bne_iff_ne, ne_eq]
        refine ⟨⟨?_, ?_⟩, ?_⟩
        · rw [Bool.eq_false_iff]
          intro hc
          rw [List.contains_iff_mem] at hc
          rcases look j oj hoj _ hc with h1 | ⟨e, he, hb, h1⟩
          · have h2 : (base : Nat) + k < base := h1
            omega
          · have h2 : (e.on : Nat) + base = base + k := h1
            exact hno e he hb (by omega)
        · by_cases hjn : j < n
          · rw [dst j oj hoj hjn]
            intro h1; injection h1 with h1; omega
          · intro h1
            have h2 : (base : Nat) + k < base := (dstn j oj (base + k) hoj hjn h1).1
            omega
        · cases hdj : oj.dst with
          | none => rfl
          | some d =>
            simp only [Bool.not_eq_true']
            rw [Bool.eq_false_iff]
            intro hc
            rw [List.contains_iff_mem] at hc
            by_cases hjn : j < n
            · rw [dst j oj hoj hjn] at hdj
              injection hdj with hdj
              subst hdj
              rcases look k o ho _ hc with h1 | ⟨e, he, hb, h1⟩
              · have h2 : (base : Nat) + j < base := h1
                omega
              · have h2 : (e.on : Nat) + base = base + j := h1
                have := fwd k o ho e he hb
                omega
            · exact (dstn j oj d hoj hjn hdj).2 k o ho hc
    · rw [canon_set]
      exact ih (k + 1) (by omega)
theorem lexTailB_fast {l : List Oper} {base n : Nat} (h : fastB l base n = true) : Region.lexTailB .any l.toArray n = true := by
  simp only [fastB, Bool.and_eq_true, decide_eq_true_eq] at h
  obtain ⟨⟨⟨⟨⟨h1, h2⟩, h3⟩, h4⟩, h5⟩, h6⟩ := h
  simp only [Region.lexTailB, Bool.and_eq_true, decide_eq_true_eq]
  have hsz : l.toArray.size = l.length := by simp
  refine ⟨⟨⟨⟨h1, by omega⟩, h3⟩, h4⟩, ?_⟩
  rw [hsz, show l.length - n = 1 by omega, canon_zero]
  exact lexHead_fast h2 h5 h6 n 0 (by omega)
end Go.Proofs.Ytmfiabkhnoimhaa
