/-
  enter AND Come OF flow's DOORS.
-/
import Derived.Test.YtjaneododongeabFlowB
import Derived.Laws.AppendOwn
namespace Go.Proofs.Ytjaneododongeab
open Go Go.RowKit Go.BigFrame Go.Maps Go.WideElems Go.ChangeMaps Go.MapKept Go.WideShapes
set_option linter.unusedSimpArgs false
set_option linter.unusedVariables false
/-- The numbers of streams from one on. -/
def idsL (o s : Int) : Nat → List Value
  | 0 => []
  | k + 1 => idsL o s k ++ [.int .i64 (4 * (s + (k : Int)) + o)]
theorem idsL_len (o s : Int) (k : Nat) : (idsL o s k).length = k := by
  induction k with
  | zero => rfl
  | succ k ih => simp [idsL, ih]
def putsD (D : DataW Unit) (o s : Int) : Nat → DataW Unit
  | 0 => D
  | k + 1 => (putsD D o s k).put (.int .i64 (4 * (s + (k : Int)) + o)) (.agg [])
theorem spoken_cells {w : World} {b m : Nat} {T : TypeId} {d : Nums} {s : Int} (h : w.heap[b]? = some (.cells (doorsC m { d with spoken := s }) T (0, 0))) :
    w.cell? ⟨b, 1, none⟩ = some (.int .i64 d.other) ∧ w.cell? ⟨b, 2, none⟩ = some (.map (some m)) ∧ w.cell? ⟨b, 6, none⟩ = some (.int .i64 s) := by
  obtain ⟨_, c1, c2, _, _, _, c6, _, _⟩ := doors_cells h
  exact ⟨c1, c2, c6⟩
theorem own_ge {w : World} {B : Nat} {e : TypeId} {z n : Nat} {v : Value} {xs : List Value} (h : w.ownsRow B e z v n xs) : ∀ k, v.ownBlock = some k → B ≤ k := by
  obtain ⟨_, ⟨rfl, _⟩ | ⟨g, cap, cur, rfl, hg, _⟩⟩ := h
  · intro k hk; cases hk
  · intro k hk; cases hk; exact hg
theorem own_keep {w w' : World} {B : Nat} {e : TypeId} {z n : Nat} {v : Value} {xs : List Value} (h : w.ownsRow B e z v n xs) (hk : ∀ g, B ≤ g → g < w.heap.size → w'.heap[g]? = w.heap[g]?) : w'.ownsRow B e z v n xs := by
  obtain ⟨hl, ⟨rfl, h0⟩ | ⟨g, cap, cur, rfl, hg, hr, rest⟩⟩ := h
  · exact ⟨hl, .inl ⟨rfl, h0⟩⟩
  · exact ⟨hl, .inr ⟨g, cap, cur, rfl, hg, (hk g hg (lt_row hr)).trans hr, rest⟩⟩
theorem info_int : ∃ i0, Try.prog.info? 3 = some i0 ∧ i0.zero = some (.int .i64 0) ∧ i0.size = 1 ∧ i0.bytes = 8 := by
  have h : (Try.prog.info? 3).map (fun i => (i.zero, i.size, i.bytes)) = some (some (.int .i64 0), 1, 8) := by kernel_rfl
  cases hq : Try.prog.info? 3 with
  | none => rw [hq] at h; cases h
  | some i =>
    rw [hq] at h
    simp only [Option.map_some, Option.some.injEq, Prod.mk.injEq] at h
    exact ⟨i, rfl, h.1, h.2.1, h.2.2⟩
theorem one_new (w : World) (v : Value) (T : TypeId) : ∀ (q : Nat) (u : Value), [v][q]? = some u → (w.alloc (.cells #[v] T)).cell? ((⟨w.heap.size, 0, none⟩ : Addr).add q) = some u := by
  intro q u hq
  cases q with
  | zero =>
    have e : ((⟨w.heap.size, 0, none⟩ : Addr).add 0) = ⟨w.heap.size, 0, none⟩ := by unfold Addr.add; split <;> simp_all
    rw [e, cell_of_row _ _ _ _ _ _ (heap_alloc_last w (.cells #[v] T))]
    simpa using hq
  | succ q => simp at hq
set_option maxHeartbeats 2000000 in
/-- All streams up to a place are there. -/
theorem enter_any (b m n k : Nat) (d : Nums) (D : DataW Unit) (s at_ : Int) (hs : 0 ≤ s) (ha : -1 ≤ at_) (ha1 : at_ ≤ 1099511627776) (hs1 : s ≤ 1099511627777) (ho : 0 ≤ d.other) (ho1 : d.other ≤ 3) (hk : s + (k : Int) = at_ + 1 ∨ k = 0 ∧ at_ < s) (hn : n ≤ 1099511627776) (w : World)
    (h : DoorsAt w b m n { d with spoken := s } D) :
    Calls Try.prog 36 #[.pointer (some ⟨b, 0, none⟩), .int .i64 at_] w fun e w' => ∃ v, e = .returned v ∧ w'.ownsRow w.heap.size 3 1 v k (idsL d.other s k) ∧ DoorsAt w' b m (n + k) { d with spoken := s + (k : Int) } (putsD D d.other s k) ∧ Turned b m w w' := by
  obtain ⟨i0, hi, hz0, hz1, hz2⟩ := info_int
  have hb := lt_row h.row
  have hmm : m < w.heap.size := by obtain ⟨es, c, hq, _⟩ := h.map; exact lt_row hq
  have hkk : (k : Int) ≤ 1099511627777 := by omega
  go_enter Try.func36, Try.ntmps36
  go_wp2_with fail
  go_loopw [5] (fun s5 wr => ∃ j : Nat, j ≤ k ∧ wr.ownsRow w.heap.size 3 1 s5 j (idsL d.other s j) ∧ DoorsAt wr b m (n + j) { d with spoken := s + (j : Int) } (putsD D d.other s j) ∧ Turned b m w wr)
    (fun _ wr => match wr.cell? ⟨b, 6, none⟩ with | some v => (at_ + 1 - intOf v).toNat | none => 0)
  case atStart => exact ⟨0, by omega, ⟨rfl, .inl ⟨rfl, rfl⟩⟩, by simpa [putsD] using h, Turned.refl _ _ _⟩
  case round =>
    obtain ⟨j, hj, hown, hA, hT⟩ := hrel
    obtain ⟨c1, c2, c6⟩ := spoken_cells hA.row
    have HW := Lib.hid hown
    have HA := Lib.hid hA
    have HT := Lib.hid hT
    have HD := Lib.hid h
    clear hown hA hT h
    by_cases hlt : j < k
    · have hle : s + (j : Int) ≤ at_ := by omega
      have hkey := keyOf_int_mk (P := Try.prog) Try.underlying3 (a := 4 * (s + (j : Int)) + d.other) (WalkArith.wf_i64 (by omega))
      go_wp2_with fail
      go_region
      go_wp2_with (first
        | (at_mapUpdate; refine wpList_mapUpdate_in _ rfl _ _ _ MT rfl 3 64 lawK Try.underlying60 unitElem m (n + j) (putsD D d.other s j) rfl HA.out.map (by unfold maxLen; omega) _ _ _ rfl rfl hkey (.agg []) [] unitElem_mk ?_; intro w1 hown1 hturn1; have o1 := own_keep HW.out (fun g hg hl => mapTurned_other hturn1 g (by omega)); have T1 := HT.out.drew.map hturn1; have r1 := (mapTurned_other hturn1 b HA.out.ne).trans HA.out.row; have sz1 := T1.size)
        | (at_builtin; refine wpList_append_own _ rfl _ _ 42 rfl w.heap.size 3 i0 (.int .i64 0) 1 8 Try.underlying42 hi hz0 hz1 hz2 rfl (by decide) _ j _ rfl (o1.alloc _) ⟨w1.heap.size, 0, none⟩ 1 1 [.int .i64 (4 * (s + (j : Int)) + d.other)] rfl rfl (one_new w1 _ _) (by intro u hu; simp at hu; subst hu; rfl) (by unfold maxLen; omega) (by omega) (by simp; omega) ?_; intro v' w2 hown2 hgrow2 hnil; have bel2 : Below w.heap.size w1 w2 := ((Below.refl w.heap.size w1).alloc sz1 _).grown hgrow2 (by simp; omega) (own_ge o1); have T2 := T1.fresh hb hmm bel2; have r2 := (bel2.block b hb).trans r1; have m2 := owns_heap hown1 (bel2.block m hmm); obtain ⟨e1, e2, e6⟩ := spoken_cells r2; have g6 : w2.frozen? ⟨b, 6, none⟩ = false := frozen_of_row _ _ _ _ _ r2))
      have q := rowSet_cell w2 b 6 DT _ (.int .i64 (s + (j : Int) + 1)) r2
      have z1 : (w2.setCell ⟨b, 6, none⟩ (.int .i64 (s + (j : Int) + 1))).cell? ⟨b, 6, none⟩ = some (.int .i64 (s + (j : Int) + 1)) := by rw [cell_of_row _ _ _ _ _ _ q.row]; rfl
      go_roundw
      case rel =>
        refine ⟨j + 1, by omega, own_keep hown2 (fun g hg hl => q.other g (by omega)), ⟨?_, owns_heap m2 (q.other m (Ne.symm HA.out.ne)), HA.out.ne⟩, T2.cell 6 _⟩
        rw [show s + ((j + 1 : Nat) : Int) = s + (j : Int) + 1 by omega]
        exact q.row
      case measure =>
        rw [c6, z1]
        simp only [intOf]
        omega
    · obtain rfl : j = k := by omega
      have hle : ¬ s + (j : Int) ≤ at_ := by omega
      go_wp2_with fail
      go_ret
      exact ⟨_, rfl, HW.out, HA.out, HT.out⟩
/-- The other end speaks of a stream that may be there. -/
theorem come_enter (b m n k : Nat) (d : Nums) (D : DataW Unit) (s id : Int) (hs : 0 ≤ s) (hs1 : s ≤ 1099511627777) (hid : 0 ≤ id) (hid1 : id ≤ 4398046511104) (ho : 0 ≤ d.other) (ho1 : d.other ≤ 3) (hM : 0 < d.most) (hr : id % 4 = d.other) (hne : d.own ≠ d.other) (hc : id / 4 < d.count)
    (hk : s + (k : Int) = id / 4 + 1 ∨ k = 0 ∧ id / 4 < s) (hn : n ≤ 1099511627776) (w : World) (h : DoorsAt w b m n { d with spoken := s } D) :
    Calls Try.prog 23 #[.pointer (some ⟨b, 0, none⟩), .int .i64 id] w fun e w' => ∃ v, e = .returned (.tuple #[v, .int .i64 0]) ∧ w'.ownsRow w.heap.size 3 1 v k (idsL d.other s k) ∧ DoorsAt w' b m (n + k) { d with spoken := s + (k : Int) } (putsD D d.other s k) ∧ Turned b m w w' := by
  obtain ⟨c0, c1, c2, c3, c4, c5, c6, c7, c8⟩ := doors_cells h.row
  replace c0 : w.cell? ⟨b, 0, none⟩ = some (.int .i64 d.own) := c0
  replace c1 : w.cell? ⟨b, 1, none⟩ = some (.int .i64 d.other) := c1
  replace c5 : w.cell? ⟨b, 5, none⟩ = some (.int .i64 d.most) := c5
  replace c8 : w.cell? ⟨b, 8, none⟩ = some (.int .i64 d.count) := c8
  have hno : ¬ id % 4 = d.own := by omega
  have hnc : ¬ d.count ≤ id / 4 := by omega
  go_enter Try.func23, Try.ntmps23
  go_wp2_with (first
    | (go_at_call 35; refine (readyD_ok b d.most hM _ c5).mono ?_; rintro e w' ⟨rfl, rfl⟩)
    | (go_at_call 36; refine (enter_any b m n k d D s (id / 4) hs (by omega) (by omega) hs1 ho ho1 hk hn _ h).mono ?_; rintro e w' ⟨v, rfl, ho, hA, hT⟩))
  go_ret2
  exact ⟨v, rfl, ho, hA, hT⟩
/-- .. of one beyond its count. -/
theorem come_flow (b m n : Nat) (d : Nums) (D : DataW Unit) (id : Int) (hid : 0 ≤ id) (hid1 : id ≤ 4398046511104) (hM : 0 < d.most) (hr : id % 4 = d.other) (hne : d.own ≠ d.other) (hc : d.count ≤ id / 4) (w : World) (h : DoorsAt w b m n d D) :
    Calls Try.prog 23 #[.pointer (some ⟨b, 0, none⟩), .int .i64 id] w fun e w' => e = .returned (.tuple #[.slice none 0 0, .int .i64 11]) ∧ w = w' := by
  obtain ⟨c0, c1, c2, c3, c4, c5, c6, c7, c8⟩ := doors_cells h.row
  have hno : ¬ id % 4 = d.own := by omega
  go_enter Try.func23, Try.ntmps23
  go_wp2_with (go_at_call 35; refine (readyD_ok b d.most hM _ c5).mono ?_; rintro e w' ⟨rfl, rfl⟩)
  go_ret2
  exact ⟨rfl, rfl⟩
/-- Rows of the same numbers. -/
theorem ints_same (g1 o1 g2 o2 n c1 c2 : Nat) (f : Nat → Int) (hn : n ≤ 1099511627776) (w : World) (h1 : ∀ i, i < n → w.cell? ⟨g1, o1 + i, none⟩ = some (.int .i64 (f i))) (h2 : ∀ i, i < n → w.cell? ⟨g2, o2 + i, none⟩ = some (.int .i64 (f i))) :
    Calls Try.prog 29 #[.slice (some ⟨g1, o1, none⟩) n c1, .slice (some ⟨g2, o2, none⟩) n c2] w fun e w' => e = .returned (.bool true) ∧ ∀ B, Below B w w' := by
  have H1 := Lib.hid h1
  have H2 := Lib.hid h2
  clear h1 h2
  go_enter Try.func29, Try.ntmps29
  go_wp2_with fail
  go_loopw [5] (fun s wr => ∃ i : Nat, i ≤ n ∧ s = .int .i64 (i : Int) ∧ ∀ B, Below B w wr) (fun s _ => n - (intOf s).toNat)
  case atStart => exact ⟨0, by omega, rfl, fun B => Below.refl _ _⟩
  case round =>
    obtain ⟨i, hi, rfl, hB⟩ := hrel
    have HB := Lib.hid hB
    clear hB
    by_cases hlt : i < n
    · have hlI : (i : Int) < (n : Int) := by omega
      have k1 : wr.cell? ⟨g1, o1 + i, none⟩ = some (.int .i64 (f i)) := by rw [(HB.out (g1 + 1)).cell (by simp)]; exact H1.out i hlt
      have k2 : wr.cell? ⟨g2, o2 + i, none⟩ = some (.int .i64 (f i)) := by rw [(HB.out (g2 + 1)).cell (by simp)]; exact H2.out i hlt
      go_wp2_with fail
      go_region
      go_wp2_with fail
      go_roundw
      case rel => exact ⟨i + 1, by omega, by go_num, fun B => by first | exact (HB.out B).drew | exact below_drewN (HB.out B) _⟩
      case measure => (simp [intOf] <;> omega)
    · obtain rfl : i = n := by omega
      go_wp2_with fail
      go_ret
      exact ⟨rfl, HB.out⟩
theorem own_two {w : World} {B : Nat} {v : Value} {a c : Int} (h : w.ownsRow B 3 1 v 2 [.int .i64 a, .int .i64 c]) : ∃ g cap, v = .slice (some ⟨g, 0, none⟩) 2 cap ∧ B ≤ g ∧ g < w.heap.size ∧ w.cell? ⟨g, 0, none⟩ = some (.int .i64 a) ∧ w.cell? ⟨g, 1, none⟩ = some (.int .i64 c) := by
  obtain ⟨_, ⟨_, h0⟩ | ⟨g, cap, cur, rfl, hg, hr, h2, hm, hs, ht⟩⟩ := h
  · omega
  · have e : ∀ i, i < 2 → cur[i]? = ([.int .i64 a, .int .i64 c] : List Value)[i]? := fun i hi => by
      rw [← ht, List.getElem?_take_of_lt (by omega)]; simp
    exact ⟨g, cap, rfl, hg, lt_row hr, by rw [cell_of_row _ _ _ _ _ _ hr, e 0 (by omega)]; rfl, by rw [cell_of_row _ _ _ _ _ _ hr, e 1 (by omega)]; rfl⟩
set_option maxHeartbeats 2000000 in
theorem counts_any (w : World) : Calls Try.prog 11 #[] w fun e w' => e = .returned (.bool true) ∧ Below w.heap.size w w' := by
  go_enter Try.func11, Try.ntmps11
  go_wp2_with fail
  refine (newDoors_any true 2 (by omega) (by omega) _).mono ?_
  rintro e w1 ⟨rfl, B1, hm1, hr1⟩
  have A1 : DoorsAt w1 (w.heap.size + 1) w.heap.size 0 { newNums true 2 with spoken := 0 } (.map []) := ⟨hr1, owns_empty hm1, by omega⟩
  clear hm1 hr1
  generalize hA : w.heap.size = A at *
  go_wp2_with fail
  refine (come_enter (A + 1) A 0 2 (newNums true 2) (.map []) 0 4 (by omega) (by omega) (by omega) (by omega) (by decide) (by decide) (by decide) (by decide) (by decide) (by decide) (.inl (by decide)) (by omega) _ A1).mono ?_
  rintro e w2 ⟨v, rfl, o2, A2, T2⟩
  have B2 := B1.trans (T2.below A (by omega) (by omega))
  have l1 := lt_row A1.row
  clear A1 B1 T2
  go_wp2_with fail
  refine (come_flow (A + 1) A _ _ _ 8 (by omega) (by omega) (by decide) (by decide) (by decide) (by decide) _ A2).mono ?_
  rintro e w3 ⟨rfl, rfl⟩
  obtain ⟨g, cap, rfl, hg, hgl, k0, k1⟩ := own_two (a := 0) (c := 4) o2
  go_wp2_with fail
  refine (leave_hit (A + 1) A _ _ _ 0 (by decide) (by decide) (by decide) (by omega) (by omega) (by kernel_rfl) _ A2).mono ?_
  rintro e w4 ⟨rfl, A4, T4⟩
  have B4 := B2.trans (T4.below A (by omega) (by omega))
  have k0 : w4.cell? ⟨g, 0, none⟩ = some (.int .i64 0) := (World.cell?_of_block (w := w2) (T4.other g hgl (by omega) (by omega))).trans k0
  have k1 : w4.cell? ⟨g, 1, none⟩ = some (.int .i64 4) := (World.cell?_of_block (w := w2) (T4.other g hgl (by omega) (by omega))).trans k1
  have hgl := Nat.lt_of_lt_of_le hgl T4.size
  have r4 : w4.heap[A + 1]? = some (.cells (doorsC A ⟨1, 0, 0, 0, 2, 2, 1, 2⟩) DT (0, 0)) := A4.row
  clear A2 A4 T4 B2 o2
  have G := grantD_any (A + 1) A ⟨1, 0, 0, 0, 2, 2, 1, 2⟩ (by decide) (by decide) (by decide) (by decide) (by decide) (by decide) w4 r4
  rw [if_neg (by decide), if_neg (by decide)] at G
  go_wp2_with fail
  refine G.mono ?_
  rintro e w5 ⟨rfl, R5⟩
  have B5 := B4.trans (R5.below A (by omega))
  have k0 : w5.cell? ⟨g, 0, none⟩ = some (.int .i64 0) := (World.cell?_of_block (w := w4) (R5.other g (by omega))).trans k0
  have k1 : w5.cell? ⟨g, 1, none⟩ = some (.int .i64 4) := (World.cell?_of_block (w := w4) (R5.other g (by omega))).trans k1
  have hgl : g < w5.heap.size := by rw [R5.size]; exact hgl
  clear R5 G r4 B4
  have nb := below_new (w := w5) (.cells #[.int .i64 0, .int .i64 4] 3)
  have B6 := B5.trans (nb.mono (by have := B5.size; omega))
  have I := ints_same g 0 w5.heap.size 0 2 cap 2 (fun i => if i = 0 then 0 else 4) (by omega) (w5.alloc (.cells #[.int .i64 0, .int .i64 4] 3))
    (fun i hi => by
      rw [nb.cell (by exact hgl)]
      rcases (by omega : i = 0 ∨ i = 1) with rfl | rfl
      · exact k0
      · exact k1)
    (fun i hi => by
      rw [cell_of_row _ _ _ _ _ _ (heap_alloc_last _ _)]
      rcases (by omega : i = 0 ∨ i = 1) with rfl | rfl <;> rfl)
  clear nb k0 k1
  go_wp2_with (go_at_call 29; refine I.mono ?_; rintro e w6 ⟨rfl, hB6⟩)
  go_ret
  exact ⟨rfl, by rw [hA]; exact B6.trans (hB6 A)⟩
end Go.Proofs.Ytjaneododongeab
