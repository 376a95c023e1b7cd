/-
  WHOLE ROWS IN BLOCKS THAT ARE KNOWN BY WHAT THEY HOLD: a store of a whole array or struct, a return of one.
-/
import Derived.Test.YtddpfbeclmgndaaDoorKit
import Derived.Test.YtddpfbeclmgndaaDoorRegion
import Derived.Laws.Rows
import Derived.Laws.IdiomCopy
namespace Go.Proofs.YtddpfbeclmgndaaDoor
open Go Go.RowKit Go.BigFrame
theorem setCells_row (B : Nat) (T : TypeId) : ∀ (vs : List Value) (o : Nat) (w : World) (cs : Array Value), w.heap[B]? = some (.cells cs T (0, 0)) →
    ∃ cs' : Array Value, (w.setCells B o vs).heap[B]? = some (.cells cs' T (0, 0)) ∧ cs'.size = cs.size ∧ ∀ j, cs'[j]? = if o ≤ j ∧ j < o + vs.length ∧ j < cs.size then vs[j - o]? else cs[j]?
  | [], o, w, cs, hg => ⟨cs, hg, rfl, fun j => by rw [if_neg (by simp; omega)]⟩
  | v :: vs, o, w, cs, hg => by
    obtain ⟨cs', h1, h2, h3⟩ := setCells_row B T vs (o + 1) _ _ (heap_setCell_same w B o cs T v hg)
    refine ⟨cs', h1, by simpa using h2, fun j => ?_⟩
    rw [h3]
    by_cases hj : o + 1 ≤ j ∧ j < o + 1 + vs.length ∧ j < cs.size
    · rw [if_pos (by simpa using hj), if_pos (by simp; omega)]
      rw [show j - o = (j - (o + 1)) + 1 by omega]
      rfl
    · rw [if_neg (by simpa using hj), Array.getElem?_setIfInBounds]
      by_cases hoj : o = j
      · subst hoj
        by_cases hs : o < cs.size
        · rw [if_pos rfl, if_pos hs, if_pos (by simp; omega)]; simp
        · rw [if_pos rfl, if_neg hs, if_neg (by omega), Array.getElem?_eq_none (by omega)]
      · rw [if_neg hoj, if_neg (by simp at hj ⊢; omega)]
theorem setCells_all (w : World) (B : Nat) (T : TypeId) (cs cs' : Array Value) (hg : w.heap[B]? = some (.cells cs T (0, 0))) (hs : cs.size = cs'.size) :
    (w.setCells B 0 cs'.toList).heap[B]? = some (.cells cs' T (0, 0)) := by
  obtain ⟨c, h1, h2, h3⟩ := setCells_row B T cs'.toList 0 w cs hg
  rw [h1]
  congr 2
  apply Array.ext_getElem?
  intro j
  rw [h3]
  by_cases hj : j < cs'.size
  · rw [if_pos (by simp; omega)]; simp
  · rw [if_neg (by simp; omega), Array.getElem?_eq_none (by omega), Array.getElem?_eq_none (by omega)]
theorem setCells_below (b B : Nat) (hb : b ≤ B) : ∀ (vs : List Value) (o : Nat) (w0 w : World), Below b w0 w → Below b w0 (w.setCells B o vs)
  | [], _, _, _, h => h
  | v :: vs, o, _, _, h => setCells_below b B hb vs (o + 1) _ _ (h.setCell hb v)
theorem setCells_other (B k : Nat) (hk : k ≠ B) : ∀ (vs : List Value) (o : Nat) (w : World), (w.setCells B o vs).heap[k]? = w.heap[k]?
  | [], _, _ => rfl
  | v :: vs, o, w => by rw [World.setCells, setCells_other B k hk vs (o + 1), heap_setCell_other _ _ _ _ hk]
theorem setCells_size (B : Nat) : ∀ (vs : List Value) (o : Nat) (w : World), (w.setCells B o vs).heap.size = w.heap.size
  | [], _, _ => rfl
  | v :: vs, o, w => by rw [World.setCells, setCells_size B vs (o + 1)]; simp [World.setCell]
/-- What a store into block B leaves: B's new row; all else as it was. -/
structure RowSet (w : World) (B : Nat) (T : TypeId) (c : Array Value) (w' : World) : Prop where
  row : w'.heap[B]? = some (.cells c T (0, 0))
  other : ∀ k, k ≠ B → w'.heap[k]? = w.heap[k]?
  size : w'.heap.size = w.heap.size
  below : ∀ b, b ≤ B → Below b w w'
theorem rowSet_store (w : World) (B : Nat) (T : TypeId) (cs cs' : Array Value) (hg : w.heap[B]? = some (.cells cs T (0, 0))) (hs : cs.size = cs'.size) : RowSet w B T cs' (w.setCells B 0 cs'.toList) :=
  ⟨setCells_all w B T cs cs' hg hs, fun k hk => setCells_other B k hk _ _ _, setCells_size B _ _ _, fun b hb => setCells_below b B hb _ _ _ _ (Below.refl _ _)⟩
theorem rowSet_cell (w : World) (B j : Nat) (T : TypeId) (cs : Array Value) (v : Value) (hg : w.heap[B]? = some (.cells cs T (0, 0))) : RowSet w B T (cs.setIfInBounds j v) (w.setCell ⟨B, j, none⟩ v) :=
  ⟨heap_setCell_same w B j cs T v hg, fun k hk => heap_setCell_other _ _ _ _ hk, by simp [World.setCell], fun b hb => (Below.refl _ _).setCell hb v⟩
theorem wpList_store_row {P : Program} {ops : Array Oper} {rest : List Oper} {op : Oper} {a : Act} {w : World} {Q : Exit → Act → World → Prop} (hgd : op.guard = none) (ty : TypeId) (x y : Operand) (ho : op.op = .store ty x y)
    (B : Nat) (T : TypeId) (cs cells : Array Value) (hx : a.eval x = .pointer (some ⟨B, 0, none⟩)) (hy : a.eval y = .agg cells)
    (hg : w.heap[B]? = some (.cells cs T (0, 0))) (hs : cs.size = cells.size) (hi : (P.info? ty).map (·.size) = some cells.size) (h1 : cells.all (·.oneCell') = true)
    (h : ∀ w', RowSet w B T cells w' → wpList P ops Q rest (a.put op.dst undef) w') : wpList P ops Q (op :: rest) a w := by
  refine wpList_store_mid hgd ty x y ho B 0 cells hx hy (fun j hj => ?_) hi h1 (h _ (rowSet_store w B T cs cells hg hs))
  rw [Nat.zero_add]
  refine ⟨?_, frozen_of_row _ _ _ _ _ hg⟩
  rw [cell_of_row _ _ _ _ _ _ hg, Array.getElem?_eq_getElem (by omega)]
  rfl
theorem ret_row {P : Program} {fn : Func} {R : Ending → World → Prop} {a : Act} {w : World} (B : Nat) (T ty : TypeId) (cs : Array Value) {p : Tmp} (h : fn.results = #[.cell p ty]) (d : TypeDesc)
    (hp : a.tmps.getD p undef = .pointer (some ⟨B, 0, none⟩)) (hg : w.heap[B]? = some (.cells cs T (0, 0)))
    (hu : P.underlying ty = some d) (hd : (match d with | .struct _ | .array _ _ => true | _ => false) = true) (hi : (P.info? ty).map (·.size) = some cs.size)
    (hdf : a.defers = []) (hR : R (.returned (.agg cs)) w) : bodyPost P fn R .ret a w :=
  bodyPost_ret (results_cell_row h a.tmps w B T cs (0, 0) d hp hg hu hd hi) hdf hR
theorem RowSet.keep {w w' : World} {B k : Nat} {T : TypeId} {c : Array Value} (h : RowSet w B T c w') (hk : k ≠ B) {o : Option Obj} (e : w.heap[k]? = o) : w'.heap[k]? = o := by rw [h.other k hk, e]
theorem below_row {w w' : World} {B k : Nat} (h : Below B w w') (hk : k < B) {o : Option Obj} (e : w.heap[k]? = o) : w'.heap[k]? = o := by rw [h.block k hk, e]
theorem alloc_heap (w : World) (o : Obj) : (w.alloc o).heap = w.heap.push o := rfl
theorem heap_foldl : ∀ (l : List Obj) (w : World), (l.foldl World.alloc w).heap = w.heap ++ l.toArray
  | [], w => by simp
  | o :: l, w => by rw [List.foldl_cons, heap_foldl l]; simp [alloc_heap]
/-- What new variables hold, one behind the other. -/
theorem rows_alloc (w : World) (l : List Obj) (i : Nat) : (l.foldl World.alloc w).heap[w.heap.size + i]? = l[i]? := by
  rw [heap_foldl, Array.getElem?_append_right (by omega)]; simp
theorem lt_row {w : World} {k : Nat} {o : Obj} (h : w.heap[k]? = some o) : k < w.heap.size := by
  rcases Nat.lt_or_ge k w.heap.size with h1 | h1
  · exact h1
  · rw [Array.getElem?_eq_none h1] at h; cases h
/-- A region that draws its order: a head in a class of worlds, and one last operation. -/
theorem region_class1 {P : Program} {id : Nat} {Q : Exit → Act → World → Prop} {a : Act} {w : World} {l : List Oper} (n : Nat) (C : World → Prop) {o : Oper} (hm : P.follows .mixedOrders = true) (hB : Region.lexTailB .any l.toArray n = true) (hC : C w.drew)
    (hd : l.drop n = [o])
    (h : wpQuiet P l.toArray C (fun a' => ∀ w', C w' → wpList P l.toArray Q [o] a' w') (l.take n) a) : (Code.region id l.toArray true).wp P Q a w := by
  refine region_class n C hm hB hC ?_
  rw [hd]
  exact h
theorem wpQuiet_take {P : Program} {ops : Array Oper} {C : World → Prop} {Q : Act → Prop} {a : Act} {o : Oper} {rest : List Oper} {n : Nat} (hw : Region.wanted o (yielded ops a.tmps) = true)
    (h : ∀ K : Act → Prop, (∀ a, wpQuiet P ops C Q (rest.take n) a → K a) → o.quiet P a C K) : wpQuiet P ops C Q ((o :: rest).take (n + 1)) a := by
  rw [List.take_succ_cons]
  exact wpQuiet_want hw h
theorem wpQuiet_take0 {P : Program} {ops : Array Oper} {C : World → Prop} {Q : Act → Prop} {a : Act} {l : List Oper} (h : Q a) : wpQuiet P ops C Q (l.take 0) a := by
  rw [List.take_zero]
  exact h
end Go.Proofs.YtddpfbeclmgndaaDoor
