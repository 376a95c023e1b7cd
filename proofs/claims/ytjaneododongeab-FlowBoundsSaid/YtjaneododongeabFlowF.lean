/-
  THE DOCUMENT's DOORS; the other answers of flow's own ones; rows of the same numbers, of any count.
-/
import Derived.Test.YtjaneododongeabFlowE
namespace Go.Proofs.Ytjaneododongeab
open Go Go.RowKit Go.BigFrame Go.Maps Go.WideElems Go.ChangeMaps Go.MapKept Go.WideShapes
set_option linter.unusedSimpArgs false
set_option linter.unusedVariables false
theorem closed_any (w : World) : Calls Try.prog 21 #[] w fun e w' => e = .returned (.pointer none) ∧ w = w' := by
  go_enter Try.func21, Try.ntmps21
  go_wp2_with fail
  go_ret
  exact ⟨rfl, rfl⟩
theorem allowD_nil (n : Int) (w : World) : Calls Try.prog 22 #[.pointer none, .int .i64 n] w fun e w' => e = .returned (.tuple #[]) ∧ w = w' := by
  go_enter Try.func22, Try.ntmps22
  go_wp2_with (go_at_call 35; refine (readyD_nil _).mono ?_; rintro e w' ⟨rfl, rfl⟩)
  go_end0
  exact ⟨rfl, rfl⟩
theorem come_nil (n : Int) (w : World) : Calls Try.prog 23 #[.pointer none, .int .i64 n] w fun e w' => e = .returned (.tuple #[.slice none 0 0, .int .i64 1]) ∧ w = w' := by
  go_enter Try.func23, Try.ntmps23
  go_wp2_with (go_at_call 35; refine (readyD_nil _).mono ?_; rintro e w' ⟨rfl, rfl⟩)
  go_ret2
  exact ⟨rfl, rfl⟩
theorem leave_nil (n : Int) (w : World) : Calls Try.prog 24 #[.pointer none, .int .i64 n] w fun e w' => e = .returned (.int .i64 1) ∧ w = w' := by
  go_enter Try.func24, Try.ntmps24
  go_wp2_with (go_at_call 35; refine (readyD_nil _).mono ?_; rintro e w' ⟨rfl, rfl⟩)
  go_ret
  exact ⟨rfl, rfl⟩
theorem newDoors_bad (srv : Bool) (W : Int) (h : W < 1 ∨ 32 < W) (w : World) : Calls Try.prog 25 #[.bool srv, .int .i64 W] w fun e w' => e = .returned (.tuple #[.pointer none, .int .i64 1]) ∧ w = w' := by
  rcases h with h | h
  · go_enter Try.func25, Try.ntmps25
    go_wp2_with fail
    go_ret2
    exact ⟨rfl, rfl⟩
  · have h2 : ¬ W < 1 := by omega
    go_enter Try.func25, Try.ntmps25
    go_wp2_with fail
    go_ret2
    exact ⟨rfl, rfl⟩
/-- A number that is none. -/
theorem come_arg (b m : Nat) (d : Nums) (id : Int) (hM : 0 < d.most) (hid : id < 0 ∨ 4398046511104 < id) (w : World) (h : w.heap[b]? = some (.cells (doorsC m d) DT (0, 0))) :
    Calls Try.prog 23 #[.pointer (some ⟨b, 0, none⟩), .int .i64 id] w fun e w' => e = .returned (.tuple #[.slice none 0 0, .int .i64 1]) ∧ w = w' := by
  obtain ⟨c0, c1, c2, c3, c4, c5, c6, c7, c8⟩ := doors_cells h
  have hid2 : id < 0 ∨ (¬ id < 0 ∧ 4398046511104 < id) := by omega
  rcases hid2 with h2 | ⟨h2, h3⟩
  all_goals
    go_enter Try.func23, Try.ntmps23
    go_wp2_with (go_at_call 35; refine (readyD_ok b d.most hM _ c5).mono ?_; rintro e w' ⟨rfl, rfl⟩)
    go_ret2
    exact ⟨rfl, rfl⟩
/-- .. of a stream of one direction. -/
theorem come_form (b m : Nat) (d : Nums) (id : Int) (hid : 0 ≤ id) (hid1 : id ≤ 4398046511104) (hM : 0 < d.most) (hr : 1 < id % 4) (h0 : d.own ≤ 1) (h1 : d.other ≤ 1) (w : World) (h : w.heap[b]? = some (.cells (doorsC m d) DT (0, 0))) :
    Calls Try.prog 23 #[.pointer (some ⟨b, 0, none⟩), .int .i64 id] w fun e w' => e = .returned (.tuple #[.slice none 0 0, .int .i64 2]) ∧ w = w' := by
  obtain ⟨c0, c1, c2, c3, c4, c5, c6, c7, c8⟩ := doors_cells h
  have hno : ¬ id % 4 = d.own := by omega
  have hno1 : ¬ id % 4 = d.other := by omega
  go_enter Try.func23, Try.ntmps23
  go_wp2_with (go_at_call 35; refine (readyD_ok b d.most hM _ c5).mono ?_; rintro e w' ⟨rfl, rfl⟩)
  go_ret2
  exact ⟨rfl, rfl⟩
/-- .. of one's own that wasn't opened. -/
theorem come_state (b m : Nat) (d : Nums) (id : Int) (hid : 0 ≤ id) (hid1 : id ≤ 4398046511104) (hM : 0 < d.most) (hr : id % 4 = d.own) (hc : d.opened ≤ id / 4) (w : World) (h : w.heap[b]? = some (.cells (doorsC m d) DT (0, 0))) :
    Calls Try.prog 23 #[.pointer (some ⟨b, 0, none⟩), .int .i64 id] w fun e w' => e = .returned (.tuple #[.slice none 0 0, .int .i64 7]) ∧ w = w' := by
  obtain ⟨c0, c1, c2, c3, c4, c5, c6, c7, c8⟩ := doors_cells h
  go_enter Try.func23, Try.ntmps23
  go_wp2_with (go_at_call 35; refine (readyD_ok b d.most hM _ c5).mono ?_; rintro e w' ⟨rfl, rfl⟩)
  go_ret2
  exact ⟨rfl, rfl⟩
/-- One that isn't there, of any number. -/
theorem leave_miss' (b m n : Nat) (d : Nums) (D : DataW Unit) (id : Int) (hm : 0 < d.most) (hi : -9223372036854775808 ≤ id) (hi1 : id ≤ 9223372036854775807) (hh : Maps.has D (.int .i64 id) = false) (w : World) (h : DoorsAt w b m n d D) :
    Calls Try.prog 24 #[.pointer (some ⟨b, 0, none⟩), .int .i64 id] w fun e w' => e = .returned (.int .i64 8) ∧ DoorsAt w' b m n d D ∧ Turned b m w w' := by
  obtain ⟨c0, c1, c2, c3, c4, c5, c6, c7, c8⟩ := doors_cells h.row
  have hb := lt_row h.row
  have hmm : m < w.heap.size := by obtain ⟨es, c, hq, _⟩ := h.map; exact lt_row hq
  have hkey := keyOf_int_mk (P := Try.prog) Try.underlying3 (a := id) (WalkArith.wf_i64 (by omega))
  go_enter Try.func24, Try.ntmps24
  go_wp2_with (first
    | (go_at_call 35; refine (readyD_ok b d.most hm _ c5).mono ?_; rintro e w' ⟨rfl, rfl⟩)
    | (at_lookup; refine wpList_lookup_own_unit _ rfl _ _ MT rfl 3 64 lawK Try.underlying60 (zeroU _) m n D rfl h.map _ _ rfl hkey ?_; rw [hh]))
  go_ret
  exact ⟨rfl, ⟨(heap_alloc_old w _ hb).trans h.row, h.map.alloc _, h.ne⟩, (Turned.refl b m w).fresh hb hmm (below_new (w := w) (.cells #[] 64))⟩
/-- Rows of no numbers. -/
theorem ints_none (a1 a2 : Option Addr) (c1 c2 : Nat) (w : World) :
    Calls Try.prog 29 #[.slice a1 0 c1, .slice a2 0 c2] w fun e w' => e = .returned (.bool true) ∧ w = w' := by
  go_enter Try.func29, Try.ntmps29
  go_wp2_with fail
  go_loopw [5] (fun s wr => s = .int .i64 0 ∧ w = wr) (fun s _ => 0)
  case atStart => exact ⟨rfl, rfl⟩
  case round =>
    obtain ⟨rfl, rfl⟩ := hrel
    go_wp2_with fail
    go_ret
    exact ⟨rfl, rfl⟩
theorem own_cells {w : World} {B n : Nat} {v : Value} {xs : List Value} (h : w.ownsRow B 3 1 v n xs) : ∃ a cap, v = .slice a n cap ∧ (n = 0 ∨ ∃ g, a = some ⟨g, 0, none⟩ ∧ B ≤ g ∧ g < w.heap.size ∧ ∀ i (hi : i < n), w.cell? ⟨g, 0 + i, none⟩ = xs[i]?) := by
  obtain ⟨hl, ⟨rfl, h0⟩ | ⟨g, cap, cur, rfl, hg, hr, h2, hm, hs, ht⟩⟩ := h
  · subst h0; exact ⟨_, _, rfl, .inl rfl⟩
  · refine ⟨_, _, rfl, .inr ⟨g, rfl, hg, lt_row hr, fun i hi => ?_⟩⟩
    rw [cell_of_row _ _ _ _ _ _ hr, ← ht, List.getElem?_take_of_lt (by omega), Nat.zero_add]; simp
theorem idsL_at (o s : Int) (k : Nat) : ∀ i, i < k → (idsL o s k)[i]? = some (.int .i64 (4 * (s + (i : Int)) + o)) := by
  induction k with
  | zero => intro i hi; omega
  | succ k ih =>
    intro i hi
    show (idsL o s k ++ [_])[i]? = _
    by_cases e : i = k
    · subst e; rw [List.getElem?_append_right (by rw [idsL_len]; omega)]; simp [idsL_len]
    · rw [List.getElem?_append_left (by rw [idsL_len]; omega)]; exact ih i (by omega)
theorem ints_ids (o s : Int) (k B1 B2 : Nat) (hk : k ≤ 1099511627776) (v1 v2 : Value) (w : World) (h1 : w.ownsRow B1 3 1 v1 k (idsL o s k)) (h2 : w.ownsRow B2 3 1 v2 k (idsL o s k)) :
    Calls Try.prog 29 #[v1, v2] w fun e w' => e = .returned (.bool true) ∧ ∀ B, Below B w w' := by
  obtain ⟨a1, c1, rfl, r1⟩ := own_cells h1
  obtain ⟨a2, c2, rfl, r2⟩ := own_cells h2
  by_cases h0 : k = 0
  · subst h0
    exact (ints_none a1 a2 c1 c2 w).mono (fun e w' ⟨he, hw⟩ => ⟨he, fun B => by subst hw; exact Below.refl _ _⟩)
  · obtain ⟨g1, rfl, _, _, k1⟩ := r1.resolve_left h0
    obtain ⟨g2, rfl, _, _, k2⟩ := r2.resolve_left h0
    exact ints_same g1 0 g2 0 k c1 c2 (fun i => 4 * (s + (i : Int)) + o) hk w (fun i hi => (k1 i hi).trans (idsL_at o s k i hi)) (fun i hi => (k2 i hi).trans (idsL_at o s k i hi))
def RD : TypeId := 49
structure RNums where
  srv : Bool
  most : Int
  own : Int
  may : Int
  theirs : Int
  count : Int
  left : Int
def rdC (v : Value) (d : RNums) : Array Value := #[.bool d.srv, .int .i64 d.most, .int .i64 d.own, .int .i64 d.may, .int .i64 d.theirs, .int .i64 d.count, v, .int .i64 d.left]
theorem rd_cells {w : World} {b : Nat} {v : Value} {T : TypeId} {d : RNums} (h : w.heap[b]? = some (.cells (rdC v d) T (0, 0))) :
    w.cell? ⟨b, 0, none⟩ = some (.bool d.srv) ∧ w.cell? ⟨b, 1, none⟩ = some (.int .i64 d.most) ∧ w.cell? ⟨b, 2, none⟩ = some (.int .i64 d.own) ∧ w.cell? ⟨b, 3, none⟩ = some (.int .i64 d.may) ∧ w.cell? ⟨b, 4, none⟩ = some (.int .i64 d.theirs)
    ∧ w.cell? ⟨b, 5, none⟩ = some (.int .i64 d.count) ∧ w.cell? ⟨b, 6, none⟩ = some v ∧ w.cell? ⟨b, 7, none⟩ = some (.int .i64 d.left) :=
  ⟨by rw [cell_of_row _ _ _ _ _ _ h]; rfl, by rw [cell_of_row _ _ _ _ _ _ h]; rfl, by rw [cell_of_row _ _ _ _ _ _ h]; rfl, by rw [cell_of_row _ _ _ _ _ _ h]; rfl, by rw [cell_of_row _ _ _ _ _ _ h]; rfl, by rw [cell_of_row _ _ _ _ _ _ h]; rfl, by rw [cell_of_row _ _ _ _ _ _ h]; rfl, by rw [cell_of_row _ _ _ _ _ _ h]; rfl⟩
def ownOf (srv : Bool) : Int := if srv then 1 else 0
def otherOf (srv : Bool) : Int := if srv then 0 else 1
theorem ref_own_t (b : Nat) (v : Value) (d : RNums) (id : Int) (hi : 0 ≤ id) (hr : id % 4 = ownOf d.srv) (w : World) (h : w.heap[b]? = some (.cells (rdC v d) RD (0, 0))) :
    Calls Try.prog 37 #[.pointer (some ⟨b, 0, none⟩), .int .i64 id] w fun e w' => e = .returned (.bool true) ∧ w = w' := by
  obtain ⟨c0, c1, c2, c3, c4, c5, c6, c7⟩ := rd_cells h
  obtain ⟨srv, most, own, may, theirs, count, left⟩ := d
  cases srv
  · have h1 : ¬ id % 4 = 1 := by simp [ownOf] at hr; omega
    go_enter Try.func37, Try.ntmps37
    go_wp2_with fail
    go_ret
    exact ⟨rfl, rfl⟩
  · have h1 : id % 4 = 1 := by simp [ownOf] at hr; omega
    go_enter Try.func37, Try.ntmps37
    go_wp2_with fail
    go_ret
    exact ⟨rfl, rfl⟩
theorem ref_own_f (b : Nat) (v : Value) (d : RNums) (id : Int) (hi : 0 ≤ id) (hr : id % 4 = otherOf d.srv) (w : World) (h : w.heap[b]? = some (.cells (rdC v d) RD (0, 0))) :
    Calls Try.prog 37 #[.pointer (some ⟨b, 0, none⟩), .int .i64 id] w fun e w' => e = .returned (.bool false) ∧ w = w' := by
  obtain ⟨c0, c1, c2, c3, c4, c5, c6, c7⟩ := rd_cells h
  obtain ⟨srv, most, own, may, theirs, count, left⟩ := d
  cases srv
  · have h1 : id % 4 = 1 := by simp [otherOf] at hr; omega
    go_enter Try.func37, Try.ntmps37
    go_wp2_with fail
    go_ret
    exact ⟨rfl, rfl⟩
  · have h1 : ¬ id % 4 = 1 := by simp [otherOf] at hr; omega
    go_enter Try.func37, Try.ntmps37
    go_wp2_with fail
    go_ret
    exact ⟨rfl, rfl⟩
end Go.Proofs.Ytjaneododongeab
