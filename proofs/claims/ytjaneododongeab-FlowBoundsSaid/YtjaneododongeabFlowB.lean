/-
  THE DOORS OF flow: the row of nine cells and the map of the streams that are there; NewDoors, ready, Grant, Leave.
-/
import Derived.Test.YtjaneododongeabFlowA
import Derived.Maps.OwnSet
import Derived.Maps.OwnOps
import Derived.Carry
import Derived.Laws.Rows
import Derived.Deep.WholeRow
namespace Go.Proofs.Ytjaneododongeab
open Go Go.RowKit Go.BigFrame Go.Maps Go.WideElems Go.ChangeMaps Go.MapKept Go.WideShapes
set_option linter.unusedSimpArgs false
set_option linter.unusedVariables false
theorem below_new {w : World} (c : Obj) : Below w.heap.size w (w.alloc c) := (Below.refl _ _).alloc (Nat.le_refl _) _
def DT : TypeId := 62
structure Nums where
  own : Int
  other : Int
  opened : Int
  allowed : Int
  most : Int
  spoken : Int
  through : Int
  count : Int
def doorsC (m : Nat) (d : Nums) : Array Value := #[.int .i64 d.own, .int .i64 d.other, .map (some m), .int .i64 d.opened, .int .i64 d.allowed, .int .i64 d.most, .int .i64 d.spoken, .int .i64 d.through, .int .i64 d.count]
theorem doors_cells {w : World} {b m : Nat} {T : TypeId} {d : Nums} (h : w.heap[b]? = some (.cells (doorsC m d) T (0, 0))) :
    w.cell? ⟨b, 0, none⟩ = some (.int .i64 d.own) ∧ w.cell? ⟨b, 1, none⟩ = some (.int .i64 d.other) ∧ w.cell? ⟨b, 2, none⟩ = some (.map (some m)) ∧ w.cell? ⟨b, 3, none⟩ = some (.int .i64 d.opened) ∧ w.cell? ⟨b, 4, none⟩ = some (.int .i64 d.allowed)
    ∧ w.cell? ⟨b, 5, none⟩ = some (.int .i64 d.most) ∧ w.cell? ⟨b, 6, none⟩ = some (.int .i64 d.spoken) ∧ w.cell? ⟨b, 7, none⟩ = some (.int .i64 d.through) ∧ w.cell? ⟨b, 8, none⟩ = some (.int .i64 d.count) :=
  ⟨by rw [cell_of_row _ _ _ _ _ _ h]; rfl, by rw [cell_of_row _ _ _ _ _ _ h]; rfl, by rw [cell_of_row _ _ _ _ _ _ h]; rfl, by rw [cell_of_row _ _ _ _ _ _ h]; rfl, by rw [cell_of_row _ _ _ _ _ _ h]; rfl, by rw [cell_of_row _ _ _ _ _ _ h]; rfl, by rw [cell_of_row _ _ _ _ _ _ h]; rfl, by rw [cell_of_row _ _ _ _ _ _ h]; rfl, by rw [cell_of_row _ _ _ _ _ _ h]; rfl⟩
def MT : TypeId := 60
/-- Doors in block b, their map in block m, of at most n entries. -/
structure DoorsAt (w : World) (b m n : Nat) (d : Nums) (D : DataW Unit) : Prop where
  row : w.heap[b]? = some (.cells (doorsC m d) DT (0, 0))
  map : w.ownsMap Try.prog 3 unitElem m n D
  ne : b ≠ m
/-- But for doors' two blocks all that was there is as it was. -/
structure Turned (b m : Nat) (w w' : World) : Prop where
  below : ∀ B, B ≤ b → B ≤ m → Below B w w'
  other : ∀ k, k < w.heap.size → k ≠ b → k ≠ m → w'.heap[k]? = w.heap[k]?
theorem Turned.refl (b m : Nat) (w : World) : Turned b m w w := ⟨fun _ _ _ => Below.refl _ _, fun _ _ _ _ => rfl⟩
theorem Turned.size {b m : Nat} {w w' : World} (h : Turned b m w w') : w.heap.size ≤ w'.heap.size := (h.below 0 (Nat.zero_le _) (Nat.zero_le _)).size
theorem Turned.trans {b m : Nat} {w w' w'' : World} (h : Turned b m w w') (h' : Turned b m w' w'') : Turned b m w w'' :=
  ⟨fun B h1 h2 => (h.below B h1 h2).trans (h'.below B h1 h2), fun k hk h1 h2 => (h'.other k (Nat.lt_of_lt_of_le hk h.size) h1 h2).trans (h.other k hk h1 h2)⟩
theorem Turned.drew {b m : Nat} {w w' : World} (h : Turned b m w w') : Turned b m w w'.drew := ⟨fun B h1 h2 => (h.below B h1 h2).drew, h.other⟩
theorem Turned.drewN {b m : Nat} {w w' : World} (h : Turned b m w w') (k : Nat) : Turned b m w (w'.drewN k) := ⟨fun B h1 h2 => below_drewN (h.below B h1 h2) k, h.other⟩
theorem Turned.cell {b m : Nat} {w w' : World} (h : Turned b m w w') (j : Nat) (v : Value) : Turned b m w (w'.setCell ⟨b, j, none⟩ v) :=
  ⟨fun B h1 h2 => (h.below B h1 h2).setCell h1 v, fun k hk h1 h2 => by rw [heap_setCell_other _ _ _ _ h1]; exact h.other k hk h1 h2⟩
theorem Turned.map {b m : Nat} {w w' w'' : World} (h : Turned b m w w') (ht : w'.mapTurned w'' m) : Turned b m w w'' := by
  obtain ⟨es, c, es', c', hb, rfl⟩ := ht
  refine h.trans ⟨fun B h1 h2 => ⟨rfl, rfl, rfl, ?_, fun k hk => ?_⟩, fun k hk h1 h2 => ?_⟩
  · show _ ≤ (w'.heap.setIfInBounds m _).size; simp
  · show (w'.heap.setIfInBounds m _)[k]? = _; rw [Array.getElem?_setIfInBounds, if_neg (by omega)]
  · show (w'.heap.setIfInBounds m _)[k]? = _; rw [Array.getElem?_setIfInBounds, if_neg (by omega)]
theorem mapTurned_other {w w' : World} {m : Nat} (ht : w.mapTurned w' m) (k : Nat) (hk : k ≠ m) : w'.heap[k]? = w.heap[k]? := by
  obtain ⟨es, c, es', c', hb, rfl⟩ := ht
  show (w.heap.setIfInBounds m _)[k]? = _; rw [Array.getElem?_setIfInBounds, if_neg (by omega)]
/-- New memory, or a store above all that was there. -/
theorem Turned.fresh {b m : Nat} {w w' w'' : World} (h : Turned b m w w') (hb : b < w.heap.size) (hm : m < w.heap.size) (hn : Below w.heap.size w' w'') : Turned b m w w'' :=
  ⟨fun B h1 h2 => (h.below B h1 h2).trans (hn.mono (by omega)), fun k hk h1 h2 => (hn.block k hk).trans (h.other k hk h1 h2)⟩
theorem owns_heap {w w' : World} {m n : Nat} {D : DataW Unit} (h : w.ownsMap Try.prog 3 unitElem m n D) (e : w'.heap[m]? = w.heap[m]?) : w'.ownsMap Try.prog 3 unitElem m n D := by
  obtain ⟨es, c, hb, r⟩ := h
  exact ⟨es, c, e.trans hb, r⟩
theorem owns_empty {w : World} {m : Nat} (h : w.heap[m]? = some (.map #[] 0)) : w.ownsMap Try.prog 3 unitElem m 0 (.map [] : DataW Unit) := by
  obtain ⟨es, c, hb, r⟩ := World.ownsMap_made (H := Unit) w Try.prog 3 unitElem
  have e : some (Obj.map #[] 0) = some (Obj.map es c) := (heap_alloc_last w (.map #[] 0)).symm.trans hb
  injection e with e
  injection e with e1 e2
  subst e1 e2
  exact ⟨#[], 0, h, r⟩
theorem lawK : Keyed Try.prog 3 := int_keyed Try.underlying3
theorem zeroU (w : World) : (zeroValue 64).run Try.prog w = .ok (.agg #[]) w := by kernel_rfl
def newNums (srv : Bool) (most : Int) : Nums := ⟨if srv then 1 else 0, if srv then 0 else 1, 0, 0, most, 0, 0, most⟩
set_option maxHeartbeats 1000000 in
theorem newDoors_any (srv : Bool) (most : Int) (h1 : 1 ≤ most) (h2 : most ≤ 32) (w : World) :
    Calls Try.prog 25 #[.bool srv, .int .i64 most] w fun e w' => e = .returned (.tuple #[.pointer (some ⟨w.heap.size + 1, 0, none⟩), .int .i64 0]) ∧ Below w.heap.size w w' ∧ w'.heap[w.heap.size]? = some (.map #[] 0) ∧ w'.heap[w.heap.size + 1]? = some (.cells (doorsC w.heap.size (newNums srv most)) DT (0, 0)) := by
  have hmm := @run_makeMap Try.prog
  cases srv
  · go_enter Try.func25, Try.ntmps25
    go_wp2_with fail
    have hB := ((Below.refl w.heap.size w).alloc (Nat.le_refl _) (.map #[] 0)).alloc (by simp) (.cells (doorsC w.heap.size (newNums false most)) DT)
    go_ret2
    exact ⟨rfl, hB, heap_alloc2_old _ _ _, heap_alloc2_new _ _ _⟩
  · go_enter Try.func25, Try.ntmps25
    go_wp2_with fail
    go_region
    go_wp2_with fail
    have hB := ((Below.refl w.heap.size w).alloc (Nat.le_refl _) (.map #[] 0)).alloc (by simp) (.cells (doorsC w.heap.size (newNums true most)) DT)
    go_ret2
    refine ⟨rfl, ?_, heap_alloc2_old _ _ _, heap_alloc2_new _ _ _⟩
    first | exact hB | exact hB.drew
theorem readyD_nil (w : World) : Calls Try.prog 35 #[.pointer none] w fun e w' => e = .returned (.bool false) ∧ w = w' := by
  go_enter Try.func35, Try.ntmps35
  go_wp2_with fail
  go_ret
  exact ⟨rfl, rfl⟩
theorem readyD_ok (b : Nat) (M : Int) (hM : 0 < M) (w : World) (h : w.cell? ⟨b, 5, none⟩ = some (.int .i64 M)) : Calls Try.prog 35 #[.pointer (some ⟨b, 0, none⟩)] w fun e w' => e = .returned (.bool true) ∧ w = w' := by
  go_enter Try.func35, Try.ntmps35
  go_wp2_with fail
  go_ret
  exact ⟨rfl, rfl⟩
set_option maxHeartbeats 1000000 in
theorem grantD_any (b m : Nat) (d : Nums) (hm : 0 < d.most) (hm1 : d.most ≤ 32) (ht : 0 ≤ d.through) (ht1 : d.through ≤ 1099511627776) (hc : 0 ≤ d.count) (hc1 : d.count ≤ 1125899906842624) (w : World) (h : w.heap[b]? = some (.cells (doorsC m d) DT (0, 0))) :
    Calls Try.prog 31 #[.pointer (some ⟨b, 0, none⟩)] w fun e w' => e = .returned (.tuple #[.int .i64 (if d.most ≤ d.count - d.through then d.count else d.through + d.most), .bool (if d.most ≤ d.count - d.through then false else true)])
      ∧ RowSet w b DT (doorsC m { d with count := if d.most ≤ d.count - d.through then d.count else d.through + d.most }) w' := by
  obtain ⟨c0, c1, c2, c3, c4, c5, c6, c7, c8⟩ := doors_cells h
  have f8 : w.frozen? ⟨b, 8, none⟩ = false := frozen_of_row _ _ _ _ _ h
  by_cases h0 : d.most ≤ d.count - d.through
  · rw [if_pos h0, if_pos h0]
    go_enter Try.func31, Try.ntmps31
    go_wp2_with (go_at_call 35; refine (readyD_ok b d.most hm _ c5).mono ?_; rintro e w' ⟨rfl, rfl⟩)
    go_region
    go_wp2_with fail
    go_ret2
    first | exact ⟨rfl, rowSet_same h⟩ | exact ⟨rfl, rowSet_drew (rowSet_same h)⟩ | exact ⟨rfl, rowSet_drewN _ (rowSet_same h)⟩
  · rw [if_neg h0, if_neg h0]
    go_enter Try.func31, Try.ntmps31
    go_wp2_with (go_at_call 35; refine (readyD_ok b d.most hm _ c5).mono ?_; rintro e w' ⟨rfl, rfl⟩)
    go_region
    go_wp2_with fail
    go_region
    go_wp2_with fail
    go_ret2
    first | exact ⟨rfl, rowSet_via _ (rowSet_cell (w.drewN _) b 8 DT (doorsC m d) (.int .i64 (d.through + d.most)) h)⟩ | exact ⟨rfl, rowSet_drew (rowSet_via _ (rowSet_cell (w.drewN _) b 8 DT (doorsC m d) (.int .i64 (d.through + d.most)) h))⟩ | exact ⟨rfl, rowSet_drewN _ (rowSet_via _ (rowSet_cell (w.drewN _) b 8 DT (doorsC m d) (.int .i64 (d.through + d.most)) h))⟩ | exact ⟨rfl, rowSet_drew (rowSet_cell w b 8 DT (doorsC m d) (.int .i64 (d.through + d.most)) h)⟩
set_option maxHeartbeats 1000000 in
/-- A stream that is there goes. -/
theorem leave_hit (b m n : Nat) (d : Nums) (D : DataW Unit) (id : Int) (hm : 0 < d.most) (ht : 0 ≤ d.through) (ht1 : d.through ≤ 1099511627776) (hi : 0 ≤ id) (hi1 : id ≤ 4503599627370496) (hh : Maps.has D (.int .i64 id) = true) (w : World) (h : DoorsAt w b m n d D) :
    Calls Try.prog 24 #[.pointer (some ⟨b, 0, none⟩), .int .i64 id] w fun e w' => e = .returned (.int .i64 0) ∧ DoorsAt w' b m n { d with through := if id % 4 = d.other then d.through + 1 else d.through } (D.del (.int .i64 id)) ∧ Turned b m w w' := by
  obtain ⟨c0, c1, c2, c3, c4, c5, c6, c7, c8⟩ := doors_cells h.row
  have hb := lt_row h.row
  have hmm : m < w.heap.size := by obtain ⟨es, c, hq, _⟩ := h.map; exact lt_row hq
  have f7 : w.frozen? ⟨b, 7, none⟩ = false := frozen_of_row _ _ _ _ _ h.row
  have hkey := keyOf_int_mk (P := Try.prog) Try.underlying3 (a := id) (WalkArith.wf_i64 (by omega))
  by_cases h0 : id % 4 = d.other
  · rw [if_pos h0]
    go_enter Try.func24, Try.ntmps24
    go_wp2_with (first
      | (go_at_call 35; refine (readyD_ok b d.most hm _ c5).mono ?_; rintro e w' ⟨rfl, rfl⟩)
      | (at_lookup; refine wpList_lookup_own_unit _ rfl _ _ MT rfl 3 64 lawK Try.underlying60 (zeroU _) m n D rfl h.map _ _ rfl hkey ?_; rw [hh])
      | (at_delete; refine wpList_delete_own _ rfl _ _ MT 3 rfl 64 lawK Try.underlying60 unitElem m n D rfl (h.map.alloc _) _ _ rfl hkey ?_; intro w1 hown1 hturn1; have r1 := ((mapTurned_other hturn1 b h.ne).trans (heap_alloc_old w _ hb)).trans h.row; have T1 := ((Turned.refl b m w).fresh hb hmm (below_new (w := w) (.cells #[] 64))).map hturn1; obtain ⟨e0, e1, e2, e3, e4, e5, e6, e7, e8⟩ := doors_cells r1; have g7 : w1.frozen? ⟨b, 7, none⟩ = false := frozen_of_row _ _ _ _ _ r1))
    go_ret
    have q := rowSet_cell w1 b 7 DT (doorsC m d) (.int .i64 (d.through + 1)) r1
    exact ⟨rfl, ⟨q.row, owns_heap hown1 (q.other m (Ne.symm h.ne)), h.ne⟩, T1.cell 7 _⟩
  · rw [if_neg h0]
    go_enter Try.func24, Try.ntmps24
    go_wp2_with (first
      | (go_at_call 35; refine (readyD_ok b d.most hm _ c5).mono ?_; rintro e w' ⟨rfl, rfl⟩)
      | (at_lookup; refine wpList_lookup_own_unit _ rfl _ _ MT rfl 3 64 lawK Try.underlying60 (zeroU _) m n D rfl h.map _ _ rfl hkey ?_; rw [hh])
      | (at_delete; refine wpList_delete_own _ rfl _ _ MT 3 rfl 64 lawK Try.underlying60 unitElem m n D rfl (h.map.alloc _) _ _ rfl hkey ?_; intro w1 hown1 hturn1; have r1 := ((mapTurned_other hturn1 b h.ne).trans (heap_alloc_old w _ hb)).trans h.row; have T1 := ((Turned.refl b m w).fresh hb hmm (below_new (w := w) (.cells #[] 64))).map hturn1; obtain ⟨e0, e1, e2, e3, e4, e5, e6, e7, e8⟩ := doors_cells r1; have g7 : w1.frozen? ⟨b, 7, none⟩ = false := frozen_of_row _ _ _ _ _ r1))
    go_ret
    exact ⟨rfl, ⟨r1, hown1, h.ne⟩, T1⟩
/-- One that isn't there. -/
theorem leave_miss (b m n : Nat) (d : Nums) (D : DataW Unit) (id : Int) (hm : 0 < d.most) (hi : -4503599627370496 ≤ id) (hi1 : id ≤ 4503599627370496) (hh : Maps.has D (.int .i64 id) = false) (w : World) (h : DoorsAt w b m n d D) :
    Calls Try.prog 24 #[.pointer (some ⟨b, 0, none⟩), .int .i64 id] w fun e w' => e = .returned (.int .i64 8) ∧ DoorsAt w' b m n d D ∧ Turned b m w w' := by
  obtain ⟨c0, c1, c2, c3, c4, c5, c6, c7, c8⟩ := doors_cells h.row
  have hb := lt_row h.row
  have hmm : m < w.heap.size := by obtain ⟨es, c, hq, _⟩ := h.map; exact lt_row hq
  have hkey := keyOf_int_mk (P := Try.prog) Try.underlying3 (a := id) (WalkArith.wf_i64 (by omega))
  go_enter Try.func24, Try.ntmps24
  go_wp2_with (first
    | (go_at_call 35; refine (readyD_ok b d.most hm _ c5).mono ?_; rintro e w' ⟨rfl, rfl⟩)
    | (at_lookup; refine wpList_lookup_own_unit _ rfl _ _ MT rfl 3 64 lawK Try.underlying60 (zeroU _) m n D rfl h.map _ _ rfl hkey ?_; rw [hh]))
  go_ret
  exact ⟨rfl, ⟨(heap_alloc_old w _ hb).trans h.row, h.map.alloc _, h.ne⟩, (Turned.refl b m w).fresh hb hmm (below_new (w := w) (.cells #[] 64))⟩
end Go.Proofs.Ytjaneododongeab
