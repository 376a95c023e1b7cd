/-
  FRAMES, EIGHTH PART: the first byte; an Ack's numbers.
-/
import Derived.Test.YtcgbhcmgddgheabDoorFrG
namespace Go.Proofs.YtcgbhcmgddgheabDoor
open Go Go.RowKit Go.BigFrame
set_option linter.unusedSimpArgs false
set_option linter.unusedVariables false
set_option maxRecDepth 100000
def firstF (f : Fr) : Int := if f.K = 8 then (if f.O = 0 then (if f.F = true then 11 else 10) else (if f.F = true then 15 else 14)) else if 8 ≤ f.K ∧ f.K ≤ 15 then -1 else f.K
theorem firstByte_any (f : Fr) (v : Value) (w : World) (h1 : -9223372036854775808 ≤ f.K) (h2 : f.K ≤ 9223372036854775807) : Calls Tryd.prog 19 #[.agg (f.cells v)] w fun e w' => e = .returned (.int .i64 (firstF f)) ∧ Below w.heap.size w w' := by
  obtain ⟨m, hm⟩ : ∃ m, firstF f = m := ⟨_, rfl⟩
  rw [hm]
  unfold firstF at hm
  have B7 := Lib.hid (bits7 f.K h1 h2)
  obtain ⟨K, S, O, N, C, F, D, X, A⟩ := f
  dsimp only [Fr.cells] at *
  unfold frC
  have HM := Lib.hid hm
  clear hm
  have row := heap_alloc_last w (.cells #[.int .i64 K, .int .i64 S, .int .i64 O, .int .i64 N, .int .i64 C, .bool F, .string D, .string X, v] 33)
  have bel := (Below.refl w.heap.size w).alloc (Nat.le_refl _) (.cells #[.int .i64 K, .int .i64 S, .int .i64 O, .int .i64 N, .int .i64 C, .bool F, .string D, .string X, v] 33)
  go_enter Tryd.func19, Tryd.ntmps19
  go_upto_region 1 with (fail)
  generalize w.alloc _ = wa at *
  obtain ⟨c0, c1, c2, c3, c4, c5, c6, c7, c8⟩ := cells9 row
  clear row h1 h2
  by_cases hK : K = 8
  · have R := Lib.hid (HM.out.symm.trans (if_pos hK))
    subst hK
    have b1 : bits .or .i64 10 4 = 14 := by decide
    have b2 : bits .or .i64 14 1 = 15 := by decide
    have b3 : bits .or .i64 10 1 = 11 := by decide
    clear HM B7
    by_cases hO : O = 0
    · have R2 := Lib.hid (R.out.trans (if_pos hO))
      subst hO
      cases F with
      | true =>
        have R3 := Lib.hid (R2.out.trans (if_pos rfl))
        go_wp2_with fail
        go_ret
        exact ⟨ret_int R3.out, bel⟩
      | false =>
        have R3 := Lib.hid (R2.out.trans (if_neg (by decide)))
        go_wp2_with fail
        go_ret
        exact ⟨ret_int R3.out, bel⟩
    · have R2 := Lib.hid (R.out.trans (if_neg hO))
      have eO : (O != 0) = true := by simp [hO]
      cases F with
      | true =>
        have R3 := Lib.hid (R2.out.trans (if_pos rfl))
        go_wp2_with fail
        go_ret
        exact ⟨ret_int R3.out, bel⟩
      | false =>
        have R3 := Lib.hid (R2.out.trans (if_neg (by decide)))
        go_wp2_with fail
        go_ret
        exact ⟨ret_int R3.out, bel⟩
  · have R := Lib.hid (HM.out.symm.trans (if_neg hK))
    have eK : (K != 8) = true := by simp [hK]
    clear HM
    by_cases h8 : 8 ≤ K ∧ K ≤ 15
    · have R2 := Lib.hid (R.out.trans (if_pos h8))
      have e7 : (bits .andNot .i64 K 7 == 8) = true := by rw [B7.out.2 h8]; rfl
      clear h8 hK B7 R
      go_wp2_with fail
      go_ret
      exact ⟨ret_int R2.out, bel⟩
    · have R2 := Lib.hid (R.out.trans (if_neg h8))
      have e7 : (bits .andNot .i64 K 7 == 8) = false := by rw [beq_eq_false_iff_ne]; exact fun e => h8 (B7.out.1 e)
      clear h8 hK B7 R
      go_wp2_with fail
      go_ret
      exact ⟨ret_int R2.out, bel⟩
theorem appendN1 {B : Nat} {v : Value} {S : ByteArray} (x : Int) (hx : 0 ≤ x ∧ x ≤ MX) (w : World) (h : OwnS B v S w) (hS : S.size ≤ 50000000000) (tab : ∀ w', Below B w w' → Tab w') :
    Calls Tryd.prog 33 #[v, .slice (some ⟨w.heap.size, 0, none⟩) 1 1] (w.alloc (.cells #[.int .i64 x] 3)) fun e w' => ∃ v', e = .returned v' ∧ OwnS B v' (S ++ numsT [x]) w' ∧ GrownV w w' v v' := by
  have hB : B ≤ w.heap.size := by obtain ⟨n, f, ho, _⟩ := h; exact ho.base
  have ha : Below B w (w.alloc (.cells #[.int .i64 x] 3)) := (Below.refl B w).alloc hB _
  have hw : Below w.heap.size w (w.alloc (.cells #[.int .i64 x] 3)) := (Below.refl _ w).alloc (Nat.le_refl _) _
  have h1 : v.ownBlock ≠ some w.heap.size := by
    obtain ⟨n, f, ho, _⟩ := h
    intro e
    exact Nat.lt_irrefl _ (ho.lt e).2
  have hl : ∀ (i : Nat) (hi : i < ([x] : List Int).length), 0 ≤ ([x] : List Int)[i] ∧ ([x] : List Int)[i] ≤ MX := fun i hi => by
    match i, hi with
    | 0, _ => exact hx
  exact (appendNumbers_any [x] hl _ (heap_alloc_last w _) h1 (h.later hw) (by simp only [List.length_cons, List.length_nil]; omega) (fun w' hb => tab w' (ha.trans hb))).mono (fun e w' ⟨v', h2, h3, h4⟩ => ⟨v', h2, h3, (GrownV.of_below v hw).trans h4⟩)
theorem appendN2 {B : Nat} {v : Value} {S : ByteArray} (x y : Int) (hx : 0 ≤ x ∧ x ≤ MX) (hy : 0 ≤ y ∧ y ≤ MX) (w : World) (h : OwnS B v S w) (hS : S.size ≤ 50000000000) (tab : ∀ w', Below B w w' → Tab w') :
    Calls Tryd.prog 33 #[v, .slice (some ⟨w.heap.size, 0, none⟩) 2 2] (w.alloc (.cells #[.int .i64 x, .int .i64 y] 3)) fun e w' => ∃ v', e = .returned v' ∧ OwnS B v' (S ++ numsT [x, y]) w' ∧ GrownV w w' v v' := by
  have hB : B ≤ w.heap.size := by obtain ⟨n, f, ho, _⟩ := h; exact ho.base
  have ha : Below B w (w.alloc (.cells #[.int .i64 x, .int .i64 y] 3)) := (Below.refl B w).alloc hB _
  have hw : Below w.heap.size w (w.alloc (.cells #[.int .i64 x, .int .i64 y] 3)) := (Below.refl _ w).alloc (Nat.le_refl _) _
  have h1 : v.ownBlock ≠ some w.heap.size := by
    obtain ⟨n, f, ho, _⟩ := h
    intro e
    exact Nat.lt_irrefl _ (ho.lt e).2
  have hl : ∀ (i : Nat) (hi : i < ([x, y] : List Int).length), 0 ≤ ([x, y] : List Int)[i] ∧ ([x, y] : List Int)[i] ≤ MX := fun i hi => by
    match i, hi with
    | 0, _ => exact hx
    | 1, _ => exact hy
  exact (appendNumbers_any [x, y] hl _ (heap_alloc_last w _) h1 (h.later hw) (by simp only [List.length_cons, List.length_nil]; omega) (fun w' hb => tab w' (ha.trans hb))).mono (fun e w' ⟨v', h2, h3, h4⟩ => ⟨v', h2, h3, (GrownV.of_below v hw).trans h4⟩)
theorem appendN4 {B : Nat} {v : Value} {S : ByteArray} (x y z u : Int) (hx : 0 ≤ x ∧ x ≤ MX) (hy : 0 ≤ y ∧ y ≤ MX) (hz : 0 ≤ z ∧ z ≤ MX) (hu : 0 ≤ u ∧ u ≤ MX) (w : World) (h : OwnS B v S w) (hS : S.size ≤ 50000000000) (tab : ∀ w', Below B w w' → Tab w') :
    Calls Tryd.prog 33 #[v, .slice (some ⟨w.heap.size, 0, none⟩) 4 4] (w.alloc (.cells #[.int .i64 x, .int .i64 y, .int .i64 z, .int .i64 u] 3)) fun e w' => ∃ v', e = .returned v' ∧ OwnS B v' (S ++ numsT [x, y, z, u]) w' ∧ GrownV w w' v v' := by
  have hB : B ≤ w.heap.size := by obtain ⟨n, f, ho, _⟩ := h; exact ho.base
  have ha : Below B w (w.alloc (.cells #[.int .i64 x, .int .i64 y, .int .i64 z, .int .i64 u] 3)) := (Below.refl B w).alloc hB _
  have hw : Below w.heap.size w (w.alloc (.cells #[.int .i64 x, .int .i64 y, .int .i64 z, .int .i64 u] 3)) := (Below.refl _ w).alloc (Nat.le_refl _) _
  have h1 : v.ownBlock ≠ some w.heap.size := by
    obtain ⟨n, f, ho, _⟩ := h
    intro e
    exact Nat.lt_irrefl _ (ho.lt e).2
  have hl : ∀ (i : Nat) (hi : i < ([x, y, z, u] : List Int).length), 0 ≤ ([x, y, z, u] : List Int)[i] ∧ ([x, y, z, u] : List Int)[i] ≤ MX := fun i hi => by
    match i, hi with
    | 0, _ => exact hx
    | 1, _ => exact hy
    | 2, _ => exact hz
    | 3, _ => exact hu
  exact (appendNumbers_any [x, y, z, u] hl _ (heap_alloc_last w _) h1 (h.later hw) (by simp only [List.length_cons, List.length_nil]; omega) (fun w' hb => tab w' (ha.trans hb))).mono (fun e w' ⟨v', h2, h3, h4⟩ => ⟨v', h2, h3, (GrownV.of_below v hw).trans h4⟩)
/-- The gap ahead of each span behind the first one, and how many numbers it has beside its first. -/
def gapL (A : List (Int × Int)) (n : Nat) : List Int := (List.range n).flatMap fun i => [(A.getD i (0, 0)).1 - (A.getD (i + 1) (0, 0)).2 - 2, (A.getD (i + 1) (0, 0)).2 - (A.getD (i + 1) (0, 0)).1]
theorem gapL_succ (A : List (Int × Int)) (n : Nat) : gapL A (n + 1) = gapL A n ++ [(A.getD n (0, 0)).1 - (A.getD (n + 1) (0, 0)).2 - 2, (A.getD (n + 1) (0, 0)).2 - (A.getD (n + 1) (0, 0)).1] := by
  unfold gapL
  rw [List.range_succ, List.flatMap_append]
  simp
def headL (N : Int) (A : List (Int × Int)) : List Int := [(A.getD 0 (0, 0)).2, N, (A.length : Int) - 1, (A.getD 0 (0, 0)).2 - (A.getD 0 (0, 0)).1]
def acksL (N : Int) (A : List (Int × Int)) : List Int := headL N A ++ gapL A (A.length - 1)
theorem fallF_at : ∀ (A : List (Int × Int)) (most : Int), fallF most A → ∀ (i : Nat), i < A.length → 0 ≤ (A.getD i (0, 0)).1 ∧ (A.getD i (0, 0)).1 ≤ (A.getD i (0, 0)).2 ∧ (A.getD i (0, 0)).2 ≤ most
  | [], _, _, i, hi => absurd hi (Nat.not_lt_zero _)
  | (a, b) :: l, most, h, 0, _ => h.1
  | (a, b) :: l, most, h, i + 1, hi => by
    have h1 := fallF_at l (a - 2) h.2 i (by simpa using hi)
    have h2 := h.1
    show 0 ≤ (l.getD i (0, 0)).1 ∧ (l.getD i (0, 0)).1 ≤ (l.getD i (0, 0)).2 ∧ (l.getD i (0, 0)).2 ≤ most
    omega
theorem fallF_next : ∀ (A : List (Int × Int)) (most : Int), fallF most A → ∀ (i : Nat), i + 1 < A.length → (A.getD (i + 1) (0, 0)).2 ≤ (A.getD i (0, 0)).1 - 2
  | [], _, _, i, hi => absurd hi (Nat.not_lt_zero _)
  | [(a, b)], _, _, i, hi => by simp at hi
  | (a, b) :: (c, d) :: l, most, h, 0, _ => h.2.1.2.2
  | (a, b) :: (c, d) :: l, most, h, i + 1, hi => fallF_next ((c, d) :: l) (a - 2) h.2 i (by simpa using hi)
end Go.Proofs.YtcgbhcmgddgheabDoor
