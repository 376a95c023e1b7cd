/-
  BYTES OF ONE'S OWN IN A ROW THAT MAY BEAR THE MARK OF '[]byte(text)': made, appended to, read.
-/
import Derived.Test.YtjbpjoondmcnlabDoorMg07
import Derived.Test.YtjbpjoondmcnlabDoorMg01
import Derived.Lib.BufferMore
set_option maxRecDepth 100000
namespace Go.Proofs.YtjbpjoondmcnlabDoor
open Go Go.RowKit
set_option maxRecDepth 100000
structure OwnZ (B : Nat) (v : Value) (n : Nat) (f : Nat → BitVec 8) (w : World) : Prop where
  row : (v = .slice none 0 0 ∧ n = 0) ∨ ∃ g cap cur fr, v = .slice (some ⟨g, 0, none⟩) n cap ∧ B ≤ g ∧ w.heap[g]? = some (.cells cur 5 fr) ∧ (fr.2 = 0 ∨ cur.size ≤ fr.1) ∧ n ≤ cap ∧ cap ≤ maxLen ∧ cur.size = cap ∧ ∀ j, j < n → cur[j]? = some (.int .u8 (n8 (f j)))
  base : B ≤ w.heap.size
theorem OwnZ.nil (B : Nat) (f : Nat → BitVec 8) (w : World) (hB : B ≤ w.heap.size) : OwnZ B (.slice none 0 0) 0 f w := ⟨.inl ⟨rfl, rfl⟩, hB⟩
theorem OwnZ.congr {B n : Nat} {v : Value} {f g : Nat → BitVec 8} {w : World} (h : OwnZ B v n f w) (hfg : ∀ i, i < n → f i = g i) : OwnZ B v n g w := by
  refine ⟨?_, h.base⟩
  rcases h.row with h1 | ⟨b, cap, cur, fr, h1, h2, h3, h4, h5, h6, h7, h8⟩
  · exact .inl h1
  · exact .inr ⟨b, cap, cur, fr, h1, h2, h3, h4, h5, h6, h7, fun j hj => by rw [h8 j hj, hfg j hj]⟩
theorem OwnZ.later {B n : Nat} {v : Value} {f : Nat → BitVec 8} {w w' : World} (h : OwnZ B v n f w) (hb : Below w.heap.size w w') : OwnZ B v n f w' := by
  refine ⟨?_, Nat.le_trans h.base hb.size⟩
  rcases h.row with h1 | ⟨b, cap, cur, fr, h1, h2, h3, h4, h5, h6, h7, h8⟩
  · exact .inl h1
  · exact .inr ⟨b, cap, cur, fr, h1, h2, by rw [hb.block _ (lt_of_heap h3)]; exact h3, h4, h5, h6, h7, h8⟩
/-- A block below B changes. -/
theorem OwnZ.beside {B n : Nat} {v : Value} {f : Nat → BitVec 8} {w w' : World} (h : OwnZ B v n f w) (hs : w.heap.size ≤ w'.heap.size) (hk : ∀ k, B ≤ k → k < w.heap.size → w'.heap[k]? = w.heap[k]?) : OwnZ B v n f w' := by
  refine ⟨?_, Nat.le_trans h.base hs⟩
  rcases h.row with h1 | ⟨b, cap, cur, fr, h1, h2, h3, h4, h5, h6, h7, h8⟩
  · exact .inl h1
  · exact .inr ⟨b, cap, cur, fr, h1, h2, by rw [hk b h2 (lt_of_heap h3)]; exact h3, h4, h5, h6, h7, h8⟩
theorem OwnZ.asBytes {B n : Nat} {v : Value} {f : Nat → BitVec 8} {w : World} (h : OwnZ B v n f w) : ∃ a c, v = .slice a n c ∧ n ≤ c ∧ c ≤ maxLen ∧ BytesIn w a n f ∧ (0 < n → ∃ g, a = some ⟨g, 0, none⟩ ∧ B ≤ g) := by
  rcases h.row with ⟨rfl, rfl⟩ | ⟨b, cap, cur, fr, rfl, h2, h3, h4, h5, h6, h7, h8⟩
  · exact ⟨none, 0, rfl, Nat.le_refl _, Nat.zero_le _, ⟨Nat.zero_le _, .inl rfl⟩, fun h => by omega⟩
  · exact ⟨some ⟨b, 0, none⟩, cap, rfl, h5, h6, ⟨Nat.le_trans h5 h6, .inr ⟨b, 0, rfl, lt_of_heap h3, fun i hi => by rw [Nat.zero_add, cell_of_row _ _ _ _ _ _ h3]; exact h8 i hi⟩⟩, fun _ => ⟨b, rfl, h2⟩⟩
theorem setCells_rowF (B : Nat) (T : TypeId) (fr : Nat × Nat) : ∀ (vs : List Value) (o : Nat) (w : World) (cs : Array Value), w.heap[B]? = some (.cells cs T fr) →
    ∃ cs' : Array Value, (w.setCells B o vs).heap[B]? = some (.cells cs' T fr) ∧ cs'.size = cs.size ∧ ∀ j, cs'[j]? = if o ≤ j ∧ j < o + vs.length ∧ j < cs.size then vs[j - o]? else cs[j]?
  | [], o, w, cs, hg => ⟨cs, hg, rfl, fun j => by rw [if_neg (by simp; omega)]⟩
  | v :: vs, o, w, cs, hg => by
    have hg1 : (w.setCell ⟨B, o, none⟩ v).heap[B]? = some (.cells (cs.setIfInBounds o v) T fr) := by simp [World.setCell, Array.getElem?_modify, hg]
    obtain ⟨cs', h1, h2, h3⟩ := setCells_rowF B T fr vs (o + 1) _ _ hg1
    refine ⟨cs', h1, by simpa using h2, fun j => ?_⟩
    rw [h3]
    by_cases hj : o + 1 ≤ j ∧ j < o + 1 + vs.length ∧ j < cs.size
    · rw [if_pos (by simpa using hj), if_pos (by simp; omega)]
      rw [show j - o = (j - (o + 1)) + 1 by omega]
      rfl
    · rw [if_neg (by simpa using hj), Array.getElem?_setIfInBounds]
      by_cases hoj : o = j
      · subst hoj
        by_cases hs : o < cs.size
        · rw [if_pos rfl, if_pos hs, if_pos (by simp; omega)]; simp
        · rw [if_pos rfl, if_neg hs, if_neg (by omega), Array.getElem?_eq_none (by omega)]
      · rw [if_neg hoj, if_neg (by simp at hj ⊢; omega)]
theorem frozenF {w : World} {g j : Nat} {cur : Array Value} {T : TypeId} {fr : Nat × Nat} (h : w.heap[g]? = some (.cells cur T fr)) (hf : fr.2 = 0 ∨ cur.size ≤ fr.1) (hj : j < cur.size) : w.frozen? ⟨g, j, none⟩ = false := by
  obtain ⟨lo, hi⟩ := fr
  unfold World.frozen?
  simp only [h]
  simp only at hf
  have : ¬ (lo ≤ j ∧ j < hi) := by omega
  simp only [Bool.and_eq_false_iff, decide_eq_false_iff_not]
  omega
/-- Append onto such a row. -/
theorem run_append_z {B n m : Nat} {v x : Value} {f g : Nat → BitVec 8} {w : World} {tx : TypeId} (ty : TypeId) (h : OwnZ B v n f w) (hs : Src Tryd.prog 1 tx x m (firsts g m) w) (hnm : n + m ≤ 200000000000000) :
    ∃ v' w', (Builtin.append_ #[31, tx] ty #[v, x]).run Tryd.prog w = .ok v' w' ∧ OwnZ B v' (n + m) (joinb f n g) w' ∧ Below B w w' := by
  obtain ⟨i, hi, hz, hsz, hby⟩ := info_u8'
  have hs' : Src Tryd.prog i.size tx x m (firsts g m) w := by rw [hsz]; exact hs
  have hm63 : n + m ≤ maxLen := by unfold maxLen; omega
  have grown : ∀ (base : Option Addr) (sCap : Nat), sCap < n + m → (Builtin.firstCells i.size n (.slice base n sCap)).run Tryd.prog w.drew = .ok (firsts f n).toArray w.drew → v = .slice base n sCap →
      ∃ v' w', (Builtin.append_ #[31, tx] ty #[v, x]).run Tryd.prog w = .ok v' w' ∧ OwnZ B v' (n + m) (joinb f n g) w' ∧ Below B w w' := by
    intro base sCap hlt hold hv
    subst hv
    have hr := run_append_grow_src (P := Tryd.prog) w 31 tx ty 5 i _ under_bytes hi hz base n sCap (firsts f n) hold x m (firsts g m) hs' hlt (by omega) (growslice_fits_wide hlt (by rw [hby]; omega))
    refine ⟨_, _, hr, ⟨.inr ⟨w.heap.size, _, _, (0, 0), rfl, h.base, heap_alloc_new w.drew _, .inl rfl, grownCap_ge _ _ _ _, grownCap_le_maxLen _ _ _ _ hm63, ?_, ?_⟩, by simp; exact Nat.le_succ_of_le h.base⟩, ?_⟩
    · have hge := grownCap_ge w (n + m) sCap 5
      simp only [Array.size_append, List.size_toArray, size_zeroCells, List.length_append, firsts_len, Value.cells]
      simp
      omega
    · intro j hj
      rw [firsts_append, Array.getElem?_append_left (by simp [firsts_len]; exact hj)]
      simpa using firsts_get (joinb f n g) (n + m) j hj
    · exact (Below.refl B w).drew.alloc h.base _
  rcases h.row with ⟨rfl, rfl⟩ | ⟨b, cap, cur, fr, rfl, hB, hg, hfr, hnc, hcm, hcs, ht⟩
  · by_cases hm : m = 0
    · subst hm
      exact ⟨_, _, run_append_nothing (P := Tryd.prog) w 31 tx ty 5 i under_bytes hi none 0 0 (Nat.le_refl _) x hs', OwnZ.nil _ _ _ h.base, Below.refl _ _⟩
    · exact grown none 0 (by omega) (run_firstCells_none w.drew _ _ _ _) rfl
  · by_cases hroom : n + m ≤ cap
    · have hr := run_append_room_src (P := Tryd.prog) w 31 tx ty 5 i under_bytes hi b 0 n cap x m (firsts g m) hs' hroom
        (fun j hj => by rw [firsts_len] at hj; rw [cell_of_row _ _ _ _ _ _ hg, hsz, Array.getElem?_eq_getElem (by omega)]; rfl) (fun j hj => frozenF hg hfr (by rw [firsts_len] at hj; rw [hsz]; omega))
      rw [hsz] at hr
      simp only [Nat.zero_add, Nat.mul_one] at hr
      obtain ⟨cs', h1, h2, h3⟩ := setCells_rowF b 5 fr (firsts g m) n w cur hg
      refine ⟨_, _, hr, ⟨.inr ⟨b, cap, cs', fr, rfl, hB, h1, by rw [h2]; exact hfr, hroom, hcm, by rw [h2, hcs], ?_⟩, ?_⟩, ?_⟩
      · intro j hj
        rw [h3, firsts_len]
        by_cases hjn : n ≤ j
        · rw [if_pos ⟨hjn, hj, by omega⟩, firsts_get _ _ _ (by omega)]
          simp [joinb, show ¬ j < n by omega]
        · rw [if_neg (by omega), ht j (by omega)]
          simp [joinb, show j < n by omega]
      · exact Nat.le_trans h.base (Nat.le_of_eq (setCells_size b _ _ _).symm)
      · exact setCells_below B b hB _ _ _ _ (Below.refl _ _)
    · refine grown (some ⟨b, 0, none⟩) cap (by omega) ?_ rfl
      rw [hsz]
      exact run_firstCells_some w.drew 1 n ⟨b, 0, none⟩ n cap (firsts f n) (by rw [firsts_len, Nat.mul_one]) (fun j u hj => by
        have hj' : j < n := by have := (List.getElem?_eq_some_iff.1 hj).1; rwa [firsts_len] at this
        rw [firsts_get _ _ _ hj'] at hj
        have e : ((⟨b, 0, none⟩ : Addr).add j) = ⟨b, j, none⟩ := by unfold Addr.add; split <;> simp_all
        rw [e]
        show w.cell? _ = _
        rw [cell_of_row _ _ _ _ _ _ hg, ht j hj', ← hj])
end Go.Proofs.YtjbpjoondmcnlabDoor
