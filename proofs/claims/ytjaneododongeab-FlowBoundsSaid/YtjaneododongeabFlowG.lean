/-
  THE DOCUMENT's DOORS: Open, Come, Leave, Grant.
-/
import Derived.Test.YtjaneododongeabFlowF
namespace Go.Proofs.Ytjaneododongeab
open Go Go.RowKit Go.BigFrame Go.Maps Go.WideElems Go.ChangeMaps Go.MapKept Go.WideShapes
set_option linter.unusedSimpArgs false
set_option linter.unusedVariables false
theorem ref_open_full (b : Nat) (v : Value) (d : RNums) (ho : d.may ≤ d.own) (w : World) (h : w.heap[b]? = some (.cells (rdC v d) RD (0, 0))) :
    Calls Try.prog 27 #[.pointer (some ⟨b, 0, none⟩)] w fun e w' => e = .returned (.tuple #[.int .i64 0, .int .i64 6]) ∧ RowSet w b RD (rdC v d) w' := by
  obtain ⟨c0, c1, c2, c3, c4, c5, c6, c7⟩ := rd_cells h
  go_enter Try.func27, Try.ntmps27
  go_wp2_with fail
  go_region
  go_wp2_with fail
  go_ret2
  first | exact ⟨rfl, rowSet_same h⟩ | exact ⟨rfl, rowSet_drew (rowSet_same h)⟩ | exact ⟨rfl, rowSet_drewN _ (rowSet_same h)⟩
set_option maxHeartbeats 1000000 in
theorem ref_open_ok (b : Nat) (v : Value) (d : RNums) (ho : d.own < d.may) (h0 : 0 ≤ d.own) (h1 : d.own ≤ 1099511627776) (w : World) (h : w.heap[b]? = some (.cells (rdC v d) RD (0, 0))) :
    Calls Try.prog 27 #[.pointer (some ⟨b, 0, none⟩)] w fun e w' => e = .returned (.tuple #[.int .i64 (4 * d.own + ownOf d.srv), .int .i64 0]) ∧ RowSet w b RD (rdC v { d with own := d.own + 1 }) w' := by
  have f2 : w.frozen? ⟨b, 2, none⟩ = false := frozen_of_row _ _ _ _ _ h
  obtain ⟨srv, most, own, may, theirs, count, left⟩ := d
  have hno : ¬ may ≤ own := by simp at ho; omega
  cases srv
  all_goals
    obtain ⟨c0, c1, c2, c3, c4, c5, c6, c7⟩ := rd_cells h
    simp only at h0 h1 ho c0 c1 c2 c3 c4 c5 c6 c7
    go_enter Try.func27, Try.ntmps27
    go_wp2_with fail
    go_region
    go_wp2_with fail
    go_ret2
    refine ⟨by simp [ownOf], ?_⟩
    first | exact rowSet_cell w b 2 RD _ (.int .i64 (own + 1)) h | exact rowSet_drew (rowSet_cell w b 2 RD _ (.int .i64 (own + 1)) h) | exact rowSet_via _ (rowSet_cell (w.drewN _) b 2 RD _ (.int .i64 (own + 1)) h) | exact rowSet_drew (rowSet_via _ (rowSet_cell (w.drewN _) b 2 RD _ (.int .i64 (own + 1)) h)) | exact rowSet_drewN _ (rowSet_via _ (rowSet_cell (w.drewN _) b 2 RD _ (.int .i64 (own + 1)) h))
set_option maxHeartbeats 1000000 in
theorem refD_grant (b : Nat) (v : Value) (d : RNums) (hm : 0 < d.most) (hm1 : d.most ≤ 32) (ht : 0 ≤ d.left) (ht1 : d.left ≤ 1099511627776) (hc : 0 ≤ d.count) (hc1 : d.count ≤ 1125899906842624) (w : World) (h : w.heap[b]? = some (.cells (rdC v d) RD (0, 0))) :
    Calls Try.prog 32 #[.pointer (some ⟨b, 0, none⟩)] w fun e w' => e = .returned (.tuple #[.int .i64 (if d.most ≤ d.count - d.left then d.count else d.left + d.most), .bool (if d.most ≤ d.count - d.left then false else true)])
      ∧ RowSet w b RD (rdC v { d with count := if d.most ≤ d.count - d.left then d.count else d.left + d.most }) w' := by
  obtain ⟨c0, c1, c2, c3, c4, c5, c6, c7⟩ := rd_cells h
  have f5 : w.frozen? ⟨b, 5, none⟩ = false := frozen_of_row _ _ _ _ _ h
  by_cases h0 : d.most ≤ d.count - d.left
  · rw [if_pos h0, if_pos h0]
    go_enter Try.func32, Try.ntmps32
    go_wp2_with fail
    go_region
    go_wp2_with fail
    go_ret2
    first | exact ⟨rfl, rowSet_same h⟩ | exact ⟨rfl, rowSet_drew (rowSet_same h)⟩ | exact ⟨rfl, rowSet_drewN _ (rowSet_same h)⟩
  · rw [if_neg h0, if_neg h0]
    go_enter Try.func32, Try.ntmps32
    go_wp2_with fail
    go_region
    go_wp2_with fail
    go_region
    go_wp2_with fail
    go_ret2
    first | exact ⟨rfl, rowSet_via _ (rowSet_cell (w.drewN _) b 5 RD (rdC v d) (.int .i64 (d.left + d.most)) h)⟩ | exact ⟨rfl, rowSet_drew (rowSet_via _ (rowSet_cell (w.drewN _) b 5 RD (rdC v d) (.int .i64 (d.left + d.most)) h))⟩ | exact ⟨rfl, rowSet_drewN _ (rowSet_via _ (rowSet_cell (w.drewN _) b 5 RD (rdC v d) (.int .i64 (d.left + d.most)) h))⟩ | exact ⟨rfl, rowSet_drew (rowSet_cell w b 5 RD (rdC v d) (.int .i64 (d.left + d.most)) h)⟩
theorem ref_come_arg (b : Nat) (v : Value) (d : RNums) (id : Int) (hid : id < 0 ∨ 4398046511104 < id) (w : World) (h : w.heap[b]? = some (.cells (rdC v d) RD (0, 0))) :
    Calls Try.prog 28 #[.pointer (some ⟨b, 0, none⟩), .int .i64 id] w fun e w' => e = .returned (.tuple #[.slice none 0 0, .int .i64 1]) ∧ w = w' := by
  have hid2 : id < 0 ∨ (¬ id < 0 ∧ 4398046511104 < id) := by omega
  rcases hid2 with h2 | ⟨h2, h3⟩
  all_goals
    go_enter Try.func28, Try.ntmps28
    go_wp2_with fail
    go_ret2
    exact ⟨rfl, rfl⟩
theorem ref_come_form (b : Nat) (v : Value) (d : RNums) (id : Int) (hid : 0 ≤ id) (hid1 : id ≤ 4398046511104) (hr : 1 < id % 4) (w : World) (h : w.heap[b]? = some (.cells (rdC v d) RD (0, 0))) :
    Calls Try.prog 28 #[.pointer (some ⟨b, 0, none⟩), .int .i64 id] w fun e w' => e = .returned (.tuple #[.slice none 0 0, .int .i64 2]) ∧ w = w' := by
  go_enter Try.func28, Try.ntmps28
  go_wp2_with fail
  go_ret2
  exact ⟨rfl, rfl⟩
theorem own_le (srv : Bool) : 0 ≤ ownOf srv ∧ ownOf srv ≤ 1 ∧ 0 ≤ otherOf srv ∧ otherOf srv ≤ 1 ∧ ownOf srv ≠ otherOf srv := by cases srv <;> simp [ownOf, otherOf]
theorem ref_come_own (b : Nat) (v : Value) (d : RNums) (id : Int) (hid : 0 ≤ id) (hid1 : id ≤ 4398046511104) (hr : id % 4 = ownOf d.srv) (w : World) (h : w.heap[b]? = some (.cells (rdC v d) RD (0, 0))) :
    Calls Try.prog 28 #[.pointer (some ⟨b, 0, none⟩), .int .i64 id] w fun e w' => e = .returned (.tuple #[.slice none 0 0, .int .i64 (if d.own ≤ id / 4 then 7 else 0)]) ∧ w = w' := by
  obtain ⟨c0, c1, c2, c3, c4, c5, c6, c7⟩ := rd_cells h
  have hl := own_le d.srv
  have h1 : ¬ 1 < id % 4 := by omega
  have HR := Lib.hid hr
  clear hr
  by_cases h0 : d.own ≤ id / 4
  · rw [if_pos h0]
    go_enter Try.func28, Try.ntmps28
    go_wp2_with (go_at_call 37; refine (ref_own_t b v d id hid HR.out _ h).mono ?_; rintro e w' ⟨rfl, rfl⟩)
    go_ret2
    exact ⟨rfl, rfl⟩
  · rw [if_neg h0]
    go_enter Try.func28, Try.ntmps28
    go_wp2_with (go_at_call 37; refine (ref_own_t b v d id hid HR.out _ h).mono ?_; rintro e w' ⟨rfl, rfl⟩)
    go_ret2
    exact ⟨rfl, rfl⟩
theorem ref_come_flow (b : Nat) (v : Value) (d : RNums) (id : Int) (hid : 0 ≤ id) (hid1 : id ≤ 4398046511104) (hr : id % 4 = otherOf d.srv) (hc : d.count ≤ id / 4) (w : World) (h : w.heap[b]? = some (.cells (rdC v d) RD (0, 0))) :
    Calls Try.prog 28 #[.pointer (some ⟨b, 0, none⟩), .int .i64 id] w fun e w' => e = .returned (.tuple #[.slice none 0 0, .int .i64 11]) ∧ w = w' := by
  obtain ⟨c0, c1, c2, c3, c4, c5, c6, c7⟩ := rd_cells h
  have hl := own_le d.srv
  have h1 : ¬ 1 < id % 4 := by omega
  have HR := Lib.hid hr
  clear hr
  go_enter Try.func28, Try.ntmps28
  go_wp2_with (go_at_call 37; refine (ref_own_f b v d id hid HR.out _ h).mono ?_; rintro e w' ⟨rfl, rfl⟩)
  go_ret2
  exact ⟨rfl, rfl⟩
theorem theirs_cell {w : World} {b : Nat} {v : Value} {T : TypeId} {d : RNums} {s : Int} (h : w.heap[b]? = some (.cells (rdC v { d with theirs := s }) T (0, 0))) : w.cell? ⟨b, 4, none⟩ = some (.int .i64 s) := (rd_cells h).2.2.2.2.1
set_option maxHeartbeats 2000000 in
/-- The document's: all streams up to one are there. -/
theorem ref_come_enter (b k : Nat) (v : Value) (d : RNums) (s id : Int) (hid : 0 ≤ id) (hid1 : id ≤ 4398046511104) (hr : id % 4 = otherOf d.srv) (hc : id / 4 < d.count) (hs : 0 ≤ s) (hs1 : s ≤ 1099511627777) (hk : s + (k : Int) = id / 4 + 1 ∨ k = 0 ∧ id / 4 < s)
    (w : World) (h : w.heap[b]? = some (.cells (rdC v { d with theirs := s }) RD (0, 0))) :
    Calls Try.prog 28 #[.pointer (some ⟨b, 0, none⟩), .int .i64 id] w fun e w' => ∃ u, e = .returned (.tuple #[u, .int .i64 0]) ∧ w'.ownsRow w.heap.size 3 1 u k (idsL (id % 4) s k) ∧ w'.heap[b]? = some (.cells (rdC v { d with theirs := s + (k : Int) }) RD (0, 0)) ∧ Turned b b w w' := by
  obtain ⟨i0, hi, hz0, hz1, hz2⟩ := info_int
  obtain ⟨c0, c1, c2, c3, c4, c5, c6, c7⟩ := rd_cells h
  replace c5 : w.cell? ⟨b, 5, none⟩ = some (.int .i64 d.count) := c5
  have hb := lt_row h
  have hkk : (k : Int) ≤ 1099511627777 := by omega
  have hl := own_le d.srv
  have h1 : ¬ 1 < id % 4 := by omega
  have hnc : ¬ d.count ≤ id / 4 := by omega
  have HR := Lib.hid hr
  clear hr
  go_enter Try.func28, Try.ntmps28
  go_wp2_with (go_at_call 37; refine (ref_own_f b v { d with theirs := s } id hid HR.out _ h).mono ?_; rintro e w' ⟨rfl, rfl⟩)
  go_loopw [6] (fun s5 wr => ∃ j : Nat, j ≤ k ∧ wr.ownsRow w.heap.size 3 1 s5 j (idsL (id % 4) s j) ∧ wr.heap[b]? = some (.cells (rdC v { d with theirs := s + (j : Int) }) RD (0, 0)) ∧ Turned b b w wr)
    (fun _ wr => match wr.cell? ⟨b, 4, none⟩ with | some v => (id / 4 + 1 - intOf v).toNat | none => 0)
  case atStart => exact ⟨0, by omega, ⟨rfl, .inl ⟨rfl, rfl⟩⟩, by simpa using h, Turned.refl _ _ _⟩
  case round =>
    obtain ⟨j, hj, hown, hA, hT⟩ := hrel
    have c4 := theirs_cell hA
    clear c0 c1 c2 c3 c5 c6 c7
    have HW := Lib.hid hown
    have HA := Lib.hid hA
    have HT := Lib.hid hT
    have HD := Lib.hid h
    clear hown hA hT h
    by_cases hlt : j < k
    · have hle : s + (j : Int) ≤ id / 4 := by omega
      have sz1 := HT.out.size
      go_wp2_with (first
        | (at_builtin; refine wpList_append_own _ rfl _ _ 42 rfl w.heap.size 3 i0 (.int .i64 0) 1 8 Try.underlying42 hi hz0 hz1 hz2 rfl (by decide) _ j _ rfl (HW.out.alloc _) ⟨wr.heap.size, 0, none⟩ 1 1 [.int .i64 (4 * (s + (j : Int)) + id % 4)] rfl rfl (one_new wr _ _) (by intro u hu; simp at hu; subst hu; rfl) (by unfold maxLen; omega) (by omega) (by simp; omega) ?_; intro v' w2 hown2 hgrow2 hnil; have bel2 : Below w.heap.size wr w2 := ((Below.refl w.heap.size wr).alloc HT.out.size _).grown hgrow2 (by simp; omega) (own_ge HW.out); have T2 := HT.out.fresh hb hb bel2; have r2 := (bel2.block b hb).trans HA.out; have e4 := theirs_cell r2; have g4 : w2.frozen? ⟨b, 4, none⟩ = false := frozen_of_row _ _ _ _ _ r2))
      have q := rowSet_cell w2 b 4 RD _ (.int .i64 (s + (j : Int) + 1)) r2
      have z1 : (w2.setCell ⟨b, 4, none⟩ (.int .i64 (s + (j : Int) + 1))).cell? ⟨b, 4, none⟩ = some (.int .i64 (s + (j : Int) + 1)) := by rw [cell_of_row _ _ _ _ _ _ q.row]; rfl
      go_roundw
      case rel =>
        refine ⟨j + 1, by omega, own_keep hown2 (fun g hg hl => q.other g (by omega)), ?_, T2.cell 4 _⟩
        rw [show s + ((j + 1 : Nat) : Int) = s + (j : Int) + 1 by omega]
        exact q.row
      case measure =>
        rw [c4, z1]
        simp only [intOf]
        omega
    · obtain rfl : j = k := by omega
      have hle : ¬ s + (j : Int) ≤ id / 4 := by omega
      go_wp2_with fail
      go_ret2
      exact ⟨_, rfl, HW.out, HA.out, HT.out⟩
def intsL (G : List Int) : List Value := G.map (Value.int .i64)
theorem intsL_at (G : List Int) (i : Nat) : (intsL G)[i]? = (G[i]?).map (Value.int .i64) := by unfold intsL; simp
/-- Behind what Leave leaves: but for the doors' block, and that of those that are through, all is as it was. -/
structure LeftBy (b base : Nat) (v : Value) (w w' : World) : Prop where
  below : ∀ B, B ≤ b → B ≤ base → Below B w w'
  other : ∀ k, k < w.heap.size → k ≠ b → v.ownBlock ≠ some k → w'.heap[k]? = w.heap[k]?
  size : w.heap.size ≤ w'.heap.size
end Go.Proofs.Ytjaneododongeab
