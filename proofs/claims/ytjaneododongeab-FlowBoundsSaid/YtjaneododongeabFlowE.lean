/-
  ONE's OWN STREAMS: Open, Allow, Come of one's own; which numbers are there.
-/
import Derived.Test.YtjaneododongeabFlowD
namespace Go.Proofs.Ytjaneododongeab
open Go Go.RowKit Go.BigFrame Go.Maps Go.WideElems Go.ChangeMaps Go.MapKept Go.WideShapes
set_option linter.unusedSimpArgs false
set_option linter.unusedVariables false
theorem key_lit (x : Int) (h : -9223372036854775808 ≤ x ∧ x ≤ 9223372036854775807) : WideAt.IsKeyLit (.int .i64 x) := trivial
theorem has_put (D : DataW Unit) (hD : IsMap D) (x y : Int) (h : -9223372036854775808 ≤ x ∧ x ≤ 9223372036854775807) : Maps.has (D.put (.int .i64 x) (.agg [])) (.int .i64 y) = true ↔ y = x ∨ Maps.has D (.int .i64 y) = true := by
  by_cases e : y = x
  · subst e
    rw [Maps.has_put_same hD (key_lit y h)]
    simp
  · rw [Maps.has_put_other (by intro hh; injection hh with _ h2; exact e h2)]
    simp [e]
theorem has_del (D : DataW Unit) (x y : Int) : Maps.has (D.del (.int .i64 x)) (.int .i64 y) = true ↔ y ≠ x ∧ Maps.has D (.int .i64 y) = true := by
  by_cases e : y = x
  · subst e
    rw [Maps.has_del_same]
    simp
  · rw [Maps.has_del_other (by intro hh; injection hh with _ h2; exact e h2)]
    simp [e]
theorem allowD_any (b m : Nat) (d : Nums) (hM : 0 < d.most) (n : Int) (w : World) (h : w.heap[b]? = some (.cells (doorsC m d) DT (0, 0))) :
    Calls Try.prog 22 #[.pointer (some ⟨b, 0, none⟩), .int .i64 n] w fun e w' => e = .returned (.tuple #[]) ∧ RowSet w b DT (doorsC m { d with allowed := max d.allowed (min n 1099511627776) }) w' := by
  obtain ⟨c0, c1, c2, c3, c4, c5, c6, c7, c8⟩ := doors_cells h
  have f4 : w.frozen? ⟨b, 4, none⟩ = false := frozen_of_row _ _ _ _ _ h
  go_enter Try.func22, Try.ntmps22
  go_wp2_with (first | (go_at_call 35; refine (readyD_ok b d.most hM _ c5).mono ?_; rintro e w' ⟨rfl, rfl⟩) | (go_at_call 34; refine (raised_any _ _ _).mono ?_; rintro e w' ⟨rfl, rfl⟩))
  go_end0
  exact ⟨rfl, rowSet_cell w b 4 DT (doorsC m d) (.int .i64 (max d.allowed (min n 1099511627776))) h⟩
theorem open_full (b m : Nat) (d : Nums) (hM : 0 < d.most) (ho : d.allowed ≤ d.opened) (w : World) (h : w.heap[b]? = some (.cells (doorsC m d) DT (0, 0))) :
    Calls Try.prog 26 #[.pointer (some ⟨b, 0, none⟩)] w fun e w' => e = .returned (.tuple #[.int .i64 0, .int .i64 6]) ∧ RowSet w b DT (doorsC m d) w' := by
  obtain ⟨c0, c1, c2, c3, c4, c5, c6, c7, c8⟩ := doors_cells h
  go_enter Try.func26, Try.ntmps26
  go_wp2_with (go_at_call 35; refine (readyD_ok b d.most hM _ c5).mono ?_; rintro e w' ⟨rfl, rfl⟩)
  go_region
  go_wp2_with fail
  go_ret2
  first | exact ⟨rfl, rowSet_same h⟩ | exact ⟨rfl, rowSet_drew (rowSet_same h)⟩ | exact ⟨rfl, rowSet_drewN _ (rowSet_same h)⟩
set_option maxHeartbeats 1000000 in
theorem open_ok (b m n : Nat) (d : Nums) (D : DataW Unit) (hM : 0 < d.most) (ho : d.opened < d.allowed) (h0 : 0 ≤ d.opened) (ha : d.allowed ≤ 1099511627776) (hw0 : 0 ≤ d.own) (hw1 : d.own ≤ 3) (hn : n ≤ 1099511627776) (w : World) (h : DoorsAt w b m n d D) :
    Calls Try.prog 26 #[.pointer (some ⟨b, 0, none⟩)] w fun e w' => e = .returned (.tuple #[.int .i64 (4 * d.opened + d.own), .int .i64 0]) ∧ DoorsAt w' b m (n + 1) { d with opened := d.opened + 1 } (D.put (.int .i64 (4 * d.opened + d.own)) (.agg [])) ∧ Turned b m w w' := by
  obtain ⟨c0, c1, c2, c3, c4, c5, c6, c7, c8⟩ := doors_cells h.row
  have hb := lt_row h.row
  have hmm : m < w.heap.size := by obtain ⟨es, c, hq, _⟩ := h.map; exact lt_row hq
  have hkey := keyOf_int_mk (P := Try.prog) Try.underlying3 (a := 4 * d.opened + d.own) (WalkArith.wf_i64 (by omega))
  go_enter Try.func26, Try.ntmps26
  go_wp2_with (go_at_call 35; refine (readyD_ok b d.most hM _ c5).mono ?_; rintro e w' ⟨rfl, rfl⟩)
  go_region
  go_wp2_with fail
  go_region
  go_wp2_with (at_mapUpdate; refine wpList_mapUpdate_in _ rfl _ _ _ MT rfl 3 64 lawK Try.underlying60 unitElem m n D rfl (owns_heap h.map rfl) (by unfold maxLen; omega) _ _ _ rfl rfl hkey (.agg []) [] unitElem_mk ?_; intro w1 hown1 hturn1; have r1 : w1.heap[b]? = some (.cells (doorsC m d) DT (0, 0)) := (mapTurned_other hturn1 b h.ne).trans h.row; obtain ⟨e0, e1, e2, e3, e4, e5, e6, e7, e8⟩ := doors_cells r1; have g3 : w1.frozen? ⟨b, 3, none⟩ = false := frozen_of_row _ _ _ _ _ r1)
  go_ret2
  have q := rowSet_cell w1 b 3 DT (doorsC m d) (.int .i64 (d.opened + 1)) r1
  refine ⟨rfl, ⟨q.row, owns_heap hown1 (q.other m (Ne.symm h.ne)), h.ne⟩, ?_⟩
  first | exact ((Turned.refl b m w).drew.drew.map hturn1).cell 3 _ | exact (((Turned.refl b m w).drewN _).map hturn1).cell 3 _ | exact ((((Turned.refl b m w).drewN _).drew).map hturn1).cell 3 _ | exact ((((Turned.refl b m w).drewN _).drewN _).map hturn1).cell 3 _
theorem come_own (b m : Nat) (d : Nums) (id : Int) (hid : 0 ≤ id) (hid1 : id ≤ 4398046511104) (hM : 0 < d.most) (hr : id % 4 = d.own) (hc : id / 4 < d.opened) (w : World) (h : w.heap[b]? = some (.cells (doorsC m d) DT (0, 0))) :
    Calls Try.prog 23 #[.pointer (some ⟨b, 0, none⟩), .int .i64 id] w fun e w' => e = .returned (.tuple #[.slice none 0 0, .int .i64 0]) ∧ w = w' := by
  obtain ⟨c0, c1, c2, c3, c4, c5, c6, c7, c8⟩ := doors_cells h
  go_enter Try.func23, Try.ntmps23
  go_wp2_with (go_at_call 35; refine (readyD_ok b d.most hM _ c5).mono ?_; rintro e w' ⟨rfl, rfl⟩)
  go_ret2
  exact ⟨rfl, rfl⟩
end Go.Proofs.Ytjaneododongeab
