/-
  FRAMES, FOURTH PART: which parts stand behind a first byte.
-/
import Derived.Test.YtcgbhcmgddgheabDoorFrC
import Derived.Test.YtcgbhcmgddgheabDoorPtI
namespace Go.Proofs.YtcgbhcmgddgheabDoor
open Go Go.RowKit Go.BigFrame
set_option linter.unusedSimpArgs false
set_option linter.unusedVariables false
set_option maxRecDepth 100000
/-- Parts that lie somewhere, as a slice. -/
structure PartsIn (w : World) (L : Value) (ps : List Nat) : Prop where
  at_ : ∃ a c, L = .slice a ps.length c ∧ (ps.length ≤ c ∧ c ≤ maxLen) ∧ (ps = [] ∨ ∃ b o, a = some ⟨b, o, none⟩ ∧ b < w.heap.size ∧ ∀ (i : Nat) (hi : i < ps.length), w.cell? ⟨b, o + i, none⟩ = some (.int .i64 ((ps[i] : Nat) : Int)))
theorem PartsIn.later {w w' : World} {L : Value} {ps : List Nat} (h : PartsIn w L ps) (hb : Below w.heap.size w w') : PartsIn w' L ps := by
  obtain ⟨a, c, e, hc, hat⟩ := h.at_
  refine ⟨a, c, e, hc, ?_⟩
  rcases hat with h0 | ⟨b, o, ea, hl, hcell⟩
  · exact .inl h0
  · exact .inr ⟨b, o, ea, Nat.lt_of_lt_of_le hl hb.size, fun i hi => (hb.cell (p := ⟨b, o + i, none⟩) hl).trans (hcell i hi)⟩
theorem PartsIn.none (w : World) : PartsIn w (.slice none 0 0) [] := ⟨⟨_, _, rfl, ⟨Nat.le_refl _, Nat.zero_le _⟩, .inl rfl⟩⟩
/-- Parts in a row that was laid just now. -/
theorem parts_new (w : World) (ps : List Nat) (T : TypeId) (hn : ps.length ≤ maxLen) : PartsIn (w.alloc (.cells (ps.map (fun p => Value.int .i64 ((p : Nat) : Int))).toArray T)) (.slice (some ⟨w.heap.size, 0, none⟩) ps.length ps.length) ps :=
  ⟨⟨_, _, rfl, ⟨Nat.le_refl _, hn⟩, .inr ⟨_, _, rfl, by simp, fun i hi => by
    rw [cell_of_row _ _ _ _ _ _ (heap_alloc_last w _), Nat.zero_add]
    simp [hi]⟩⟩⟩
theorem OwnI.parts {B : Nat} {v : Value} {ps : List Nat} {w : World} (h : OwnI B v (ps.map (fun p => ((p : Nat) : Int))) w) : PartsIn w v ps := by
  rcases h.row with ⟨rfl, h0⟩ | ⟨g, o, cap, cur, rfl, hB, hg, h1, h2, h3, h4⟩
  · obtain rfl : ps = [] := by simpa using h0
    exact PartsIn.none w
  · rw [List.length_map] at *
    exact ⟨⟨_, _, rfl, ⟨h1, h2⟩, .inr ⟨g, o, rfl, lt_row hg, fun i hi => by
      rw [cell_of_row _ _ _ _ _ _ hg]
      exact h4 i _ (by simp [hi])⟩⟩⟩
theorem OwnI.made (x : Int) (w : World) : OwnI w.heap.size (.slice (some ⟨w.heap.size, 0, none⟩) 1 1) [x] (w.alloc (.cells #[.int .i64 x] 60)) :=
  ⟨.inr ⟨w.heap.size, 0, 1, _, rfl, Nat.le_refl _, heap_alloc_last w _, Nat.le_refl _, by decide, Nat.le_refl _, fun i y hy => by
    cases i with
    | zero => simpa using hy
    | succ i => simp at hy⟩, by simp⟩
def streamP (first : Int) : List Nat := if first = 8 then [0, 5] else if first = 9 then [0, 5] else if first = 10 then [0, 4] else if first = 11 then [0, 4] else if first = 12 then [0, 1, 5] else if first = 13 then [0, 1, 5] else if first = 14 then [0, 1, 4] else [0, 1, 4]
def partsL (k : Int) : Option (List Nat) :=
  if k = 0 then some [10] else if k = 1 then some [] else if k = 30 then some [] else if k = 2 then some [9] else if k = 4 then some [0, 3, 1] else if k = 5 then some [0, 3] else if k = 6 then some [1, 4] else if k = 7 then some [4]
  else if k = 16 then some [2] else if k = 20 then some [2] else if k = 25 then some [2] else if k = 18 then some [2] else if k = 22 then some [2] else if k = 17 then some [0, 2] else if k = 21 then some [0, 2] else if k = 24 then some [2, 1, 6, 8]
  else if k = 26 then some [7] else if k = 27 then some [7] else if k = 28 then some [3, 2, 4] else if k = 29 then some [3, 4] else if 8 ≤ k ∧ k ≤ 15 then some (streamP k) else none
def PartsPost (k : Int) (w : World) (e : Ending) (w' : World) : Prop :=
  (match partsL k with
    | some ps => ∃ v, e = .returned (.tuple #[v, .bool true]) ∧ PartsIn w' v ps
    | none => e = .returned (.tuple #[.slice none 0 0, .bool false])) ∧ Below w.heap.size w w'
theorem not7 (x : BitVec 64) : x &&& ~~~(7#64) = (x >>> 3) <<< 3 := by
  have h7 : ∀ i, i < 64 → (7#64).getLsbD i = decide (i < 3) := by decide
  apply BitVec.eq_of_getLsbD_eq
  intro i hi
  rw [BitVec.getLsbD_and, BitVec.getLsbD_not, h7 i hi, BitVec.getLsbD_shiftLeft, BitVec.getLsbD_ushiftRight]
  by_cases h : i < 3
  · simp [h]
  · simp [h, hi, show 3 + (i - 3) = i by omega]
theorem bits7 (k : Int) (h1 : -9223372036854775808 ≤ k) (h2 : k ≤ 9223372036854775807) : (bits .andNot .i64 k 7 = 8) ↔ (8 ≤ k ∧ k ≤ 15) := by
  have e : bits .andNot .i64 k 7 = IntKind.i64.wrap ((BitVec.ofInt 64 k &&& ~~~(7#64)).toNat : Int) := rfl
  rw [e, not7, BitVec.toNat_shiftLeft, BitVec.toNat_ushiftRight, BitVec.toNat_ofInt, IntKind.wrap_i64, Nat.shiftLeft_eq, Nat.shiftRight_eq_div_pow]
  omega
set_option maxHeartbeats 8000000 in
theorem parts_8 (w : World) : Calls Tryd.prog 31 #[.int .i64 8] w fun e w' => (∃ v, e = .returned (.tuple #[v, .bool true]) ∧ PartsIn w' v [0, 5]) ∧ Below w.heap.size w w' := by
  have b1 : bits .andNot .i64 8 7 = 8 := by decide
  have b2 : bits .and .i64 8 4 = 0 := by decide
  have b3 : bits .and .i64 8 2 = 0 := by decide
  go_enter Tryd.func31, Tryd.ntmps31
  have O1 := Lib.hid (show OwnI w.heap.size (.slice (some ⟨w.heap.size, 0, none⟩) 1 1) [0] (w.alloc (.cells #[.int .i64 0] 60)) from OwnI.made 0 w)
  have bel := (Below.refl w.heap.size w).alloc (Nat.le_refl _) (.cells #[.int .i64 0] 60)
  go_upto_region 4 with (fail)
  generalize w.alloc _ = w1 at *
  have B1 := Lib.hid bel
  clear bel
  have A3 := Lib.hid (O1.out.kept (w' := w1.alloc (.cells #[.int .i64 5] 60)) (by simp) (fun k _ hk => heap_alloc_old _ _ hk))
  have C3 := Lib.hid (show Src Tryd.prog 1 56 _ [(5 : Int)].length _ _ from src_int_new w1 5)
  go_wp2_with (first
    | (at_builtin; refine wpList_append_ints (o := ⟨some 23, _, _, _, _, _⟩) rfl _ _ rfl rfl rfl A3.out C3.out (by decide) ?_; intro v3 w3 ho3 hg3; have O3 := Lib.hid ho3; have B3 := Lib.hid ((B1.out.alloc B1.out.size _).trans (hg3.below w.heap.size (by have := B1.out.size; simp; omega) (fun k hk => (O1.out.lt hk).1))); clear ho3 hg3)
    | fail)
  go_ret2
  exact ⟨⟨_, rfl, OwnI.parts (ps := [0, 5]) O3.out⟩, B3.out⟩
set_option maxHeartbeats 8000000 in
theorem parts_9 (w : World) : Calls Tryd.prog 31 #[.int .i64 9] w fun e w' => (∃ v, e = .returned (.tuple #[v, .bool true]) ∧ PartsIn w' v [0, 5]) ∧ Below w.heap.size w w' := by
  have b1 : bits .andNot .i64 9 7 = 8 := by decide
  have b2 : bits .and .i64 9 4 = 0 := by decide
  have b3 : bits .and .i64 9 2 = 0 := by decide
  go_enter Tryd.func31, Tryd.ntmps31
  have O1 := Lib.hid (show OwnI w.heap.size (.slice (some ⟨w.heap.size, 0, none⟩) 1 1) [0] (w.alloc (.cells #[.int .i64 0] 60)) from OwnI.made 0 w)
  have bel := (Below.refl w.heap.size w).alloc (Nat.le_refl _) (.cells #[.int .i64 0] 60)
  go_upto_region 4 with (fail)
  generalize w.alloc _ = w1 at *
  have B1 := Lib.hid bel
  clear bel
  have A3 := Lib.hid (O1.out.kept (w' := w1.alloc (.cells #[.int .i64 5] 60)) (by simp) (fun k _ hk => heap_alloc_old _ _ hk))
  have C3 := Lib.hid (show Src Tryd.prog 1 56 _ [(5 : Int)].length _ _ from src_int_new w1 5)
  go_wp2_with (first
    | (at_builtin; refine wpList_append_ints (o := ⟨some 23, _, _, _, _, _⟩) rfl _ _ rfl rfl rfl A3.out C3.out (by decide) ?_; intro v3 w3 ho3 hg3; have O3 := Lib.hid ho3; have B3 := Lib.hid ((B1.out.alloc B1.out.size _).trans (hg3.below w.heap.size (by have := B1.out.size; simp; omega) (fun k hk => (O1.out.lt hk).1))); clear ho3 hg3)
    | fail)
  go_ret2
  exact ⟨⟨_, rfl, OwnI.parts (ps := [0, 5]) O3.out⟩, B3.out⟩
set_option maxHeartbeats 8000000 in
theorem parts_10 (w : World) : Calls Tryd.prog 31 #[.int .i64 10] w fun e w' => (∃ v, e = .returned (.tuple #[v, .bool true]) ∧ PartsIn w' v [0, 4]) ∧ Below w.heap.size w w' := by
  have b1 : bits .andNot .i64 10 7 = 8 := by decide
  have b2 : bits .and .i64 10 4 = 0 := by decide
  have b3 : bits .and .i64 10 2 = 2 := by decide
  go_enter Tryd.func31, Tryd.ntmps31
  have O1 := Lib.hid (show OwnI w.heap.size (.slice (some ⟨w.heap.size, 0, none⟩) 1 1) [0] (w.alloc (.cells #[.int .i64 0] 60)) from OwnI.made 0 w)
  have bel := (Below.refl w.heap.size w).alloc (Nat.le_refl _) (.cells #[.int .i64 0] 60)
  go_upto_region 4 with (fail)
  generalize w.alloc _ = w1 at *
  have B1 := Lib.hid bel
  clear bel
  have A3 := Lib.hid (O1.out.kept (w' := w1.alloc (.cells #[.int .i64 4] 60)) (by simp) (fun k _ hk => heap_alloc_old _ _ hk))
  have C3 := Lib.hid (show Src Tryd.prog 1 56 _ [(4 : Int)].length _ _ from src_int_new w1 4)
  go_wp2_with (first
    | (at_builtin; refine wpList_append_ints (o := ⟨some 20, _, _, _, _, _⟩) rfl _ _ rfl rfl rfl A3.out C3.out (by decide) ?_; intro v3 w3 ho3 hg3; have O3 := Lib.hid ho3; have B3 := Lib.hid ((B1.out.alloc B1.out.size _).trans (hg3.below w.heap.size (by have := B1.out.size; simp; omega) (fun k hk => (O1.out.lt hk).1))); clear ho3 hg3)
    | fail)
  go_ret2
  exact ⟨⟨_, rfl, OwnI.parts (ps := [0, 4]) O3.out⟩, B3.out⟩
set_option maxHeartbeats 8000000 in
theorem parts_11 (w : World) : Calls Tryd.prog 31 #[.int .i64 11] w fun e w' => (∃ v, e = .returned (.tuple #[v, .bool true]) ∧ PartsIn w' v [0, 4]) ∧ Below w.heap.size w w' := by
  have b1 : bits .andNot .i64 11 7 = 8 := by decide
  have b2 : bits .and .i64 11 4 = 0 := by decide
  have b3 : bits .and .i64 11 2 = 2 := by decide
  go_enter Tryd.func31, Tryd.ntmps31
  have O1 := Lib.hid (show OwnI w.heap.size (.slice (some ⟨w.heap.size, 0, none⟩) 1 1) [0] (w.alloc (.cells #[.int .i64 0] 60)) from OwnI.made 0 w)
  have bel := (Below.refl w.heap.size w).alloc (Nat.le_refl _) (.cells #[.int .i64 0] 60)
  go_upto_region 4 with (fail)
  generalize w.alloc _ = w1 at *
  have B1 := Lib.hid bel
  clear bel
  have A3 := Lib.hid (O1.out.kept (w' := w1.alloc (.cells #[.int .i64 4] 60)) (by simp) (fun k _ hk => heap_alloc_old _ _ hk))
  have C3 := Lib.hid (show Src Tryd.prog 1 56 _ [(4 : Int)].length _ _ from src_int_new w1 4)
  go_wp2_with (first
    | (at_builtin; refine wpList_append_ints (o := ⟨some 20, _, _, _, _, _⟩) rfl _ _ rfl rfl rfl A3.out C3.out (by decide) ?_; intro v3 w3 ho3 hg3; have O3 := Lib.hid ho3; have B3 := Lib.hid ((B1.out.alloc B1.out.size _).trans (hg3.below w.heap.size (by have := B1.out.size; simp; omega) (fun k hk => (O1.out.lt hk).1))); clear ho3 hg3)
    | fail)
  go_ret2
  exact ⟨⟨_, rfl, OwnI.parts (ps := [0, 4]) O3.out⟩, B3.out⟩
set_option maxHeartbeats 8000000 in
theorem parts_12 (w : World) : Calls Tryd.prog 31 #[.int .i64 12] w fun e w' => (∃ v, e = .returned (.tuple #[v, .bool true]) ∧ PartsIn w' v [0, 1, 5]) ∧ Below w.heap.size w w' := by
  have b1 : bits .andNot .i64 12 7 = 8 := by decide
  have b2 : bits .and .i64 12 4 = 4 := by decide
  have b3 : bits .and .i64 12 2 = 0 := by decide
  go_enter Tryd.func31, Tryd.ntmps31
  have O1 := Lib.hid (show OwnI w.heap.size (.slice (some ⟨w.heap.size, 0, none⟩) 1 1) [0] (w.alloc (.cells #[.int .i64 0] 60)) from OwnI.made 0 w)
  have bel := (Below.refl w.heap.size w).alloc (Nat.le_refl _) (.cells #[.int .i64 0] 60)
  go_upto_region 4 with (fail)
  generalize w.alloc _ = w1 at *
  have B1 := Lib.hid bel
  clear bel
  have A2 := Lib.hid (O1.out.kept (w' := w1.alloc (.cells #[.int .i64 1] 60)) (by simp) (fun k _ hk => heap_alloc_old _ _ hk))
  have C2 := Lib.hid (show Src Tryd.prog 1 56 _ [(1 : Int)].length _ _ from src_int_new w1 1)
  go_upto_region 6 with (first
    | (at_builtin; refine wpList_append_ints (o := ⟨some 14, _, _, _, _, _⟩) rfl _ _ rfl rfl rfl A2.out C2.out (by decide) ?_; intro v2 w2 ho2 hg2; have O2 := Lib.hid ho2; have B2 := Lib.hid ((B1.out.alloc B1.out.size _).trans (hg2.below w.heap.size (by have := B1.out.size; simp; omega) (fun k hk => (O1.out.lt hk).1))); clear ho2 hg2)
    | fail)
  have A3 := Lib.hid (O2.out.kept (w' := w2.alloc (.cells #[.int .i64 5] 60)) (by simp) (fun k _ hk => heap_alloc_old _ _ hk))
  have C3 := Lib.hid (show Src Tryd.prog 1 56 _ [(5 : Int)].length _ _ from src_int_new w2 5)
  go_wp2_with (first
    | (at_builtin; refine wpList_append_ints (o := ⟨some 23, _, _, _, _, _⟩) rfl _ _ rfl rfl rfl A3.out C3.out (by decide) ?_; intro v3 w3 ho3 hg3; have O3 := Lib.hid ho3; have B3 := Lib.hid ((B2.out.alloc B2.out.size _).trans (hg3.below w.heap.size (by have := B2.out.size; simp; omega) (fun k hk => (O2.out.lt hk).1))); clear ho3 hg3)
    | fail)
  go_ret2
  exact ⟨⟨_, rfl, OwnI.parts (ps := [0, 1, 5]) O3.out⟩, B3.out⟩
set_option maxHeartbeats 8000000 in
theorem parts_13 (w : World) : Calls Tryd.prog 31 #[.int .i64 13] w fun e w' => (∃ v, e = .returned (.tuple #[v, .bool true]) ∧ PartsIn w' v [0, 1, 5]) ∧ Below w.heap.size w w' := by
  have b1 : bits .andNot .i64 13 7 = 8 := by decide
  have b2 : bits .and .i64 13 4 = 4 := by decide
  have b3 : bits .and .i64 13 2 = 0 := by decide
  go_enter Tryd.func31, Tryd.ntmps31
  have O1 := Lib.hid (show OwnI w.heap.size (.slice (some ⟨w.heap.size, 0, none⟩) 1 1) [0] (w.alloc (.cells #[.int .i64 0] 60)) from OwnI.made 0 w)
  have bel := (Below.refl w.heap.size w).alloc (Nat.le_refl _) (.cells #[.int .i64 0] 60)
  go_upto_region 4 with (fail)
  generalize w.alloc _ = w1 at *
  have B1 := Lib.hid bel
  clear bel
  have A2 := Lib.hid (O1.out.kept (w' := w1.alloc (.cells #[.int .i64 1] 60)) (by simp) (fun k _ hk => heap_alloc_old _ _ hk))
  have C2 := Lib.hid (show Src Tryd.prog 1 56 _ [(1 : Int)].length _ _ from src_int_new w1 1)
  go_upto_region 6 with (first
    | (at_builtin; refine wpList_append_ints (o := ⟨some 14, _, _, _, _, _⟩) rfl _ _ rfl rfl rfl A2.out C2.out (by decide) ?_; intro v2 w2 ho2 hg2; have O2 := Lib.hid ho2; have B2 := Lib.hid ((B1.out.alloc B1.out.size _).trans (hg2.below w.heap.size (by have := B1.out.size; simp; omega) (fun k hk => (O1.out.lt hk).1))); clear ho2 hg2)
    | fail)
  have A3 := Lib.hid (O2.out.kept (w' := w2.alloc (.cells #[.int .i64 5] 60)) (by simp) (fun k _ hk => heap_alloc_old _ _ hk))
  have C3 := Lib.hid (show Src Tryd.prog 1 56 _ [(5 : Int)].length _ _ from src_int_new w2 5)
  go_wp2_with (first
    | (at_builtin; refine wpList_append_ints (o := ⟨some 23, _, _, _, _, _⟩) rfl _ _ rfl rfl rfl A3.out C3.out (by decide) ?_; intro v3 w3 ho3 hg3; have O3 := Lib.hid ho3; have B3 := Lib.hid ((B2.out.alloc B2.out.size _).trans (hg3.below w.heap.size (by have := B2.out.size; simp; omega) (fun k hk => (O2.out.lt hk).1))); clear ho3 hg3)
    | fail)
  go_ret2
  exact ⟨⟨_, rfl, OwnI.parts (ps := [0, 1, 5]) O3.out⟩, B3.out⟩
set_option maxHeartbeats 8000000 in
theorem parts_14 (w : World) : Calls Tryd.prog 31 #[.int .i64 14] w fun e w' => (∃ v, e = .returned (.tuple #[v, .bool true]) ∧ PartsIn w' v [0, 1, 4]) ∧ Below w.heap.size w w' := by
  have b1 : bits .andNot .i64 14 7 = 8 := by decide
  have b2 : bits .and .i64 14 4 = 4 := by decide
  have b3 : bits .and .i64 14 2 = 2 := by decide
  go_enter Tryd.func31, Tryd.ntmps31
  have O1 := Lib.hid (show OwnI w.heap.size (.slice (some ⟨w.heap.size, 0, none⟩) 1 1) [0] (w.alloc (.cells #[.int .i64 0] 60)) from OwnI.made 0 w)
  have bel := (Below.refl w.heap.size w).alloc (Nat.le_refl _) (.cells #[.int .i64 0] 60)
  go_upto_region 4 with (fail)
  generalize w.alloc _ = w1 at *
  have B1 := Lib.hid bel
  clear bel
  have A2 := Lib.hid (O1.out.kept (w' := w1.alloc (.cells #[.int .i64 1] 60)) (by simp) (fun k _ hk => heap_alloc_old _ _ hk))
  have C2 := Lib.hid (show Src Tryd.prog 1 56 _ [(1 : Int)].length _ _ from src_int_new w1 1)
  go_upto_region 6 with (first
    | (at_builtin; refine wpList_append_ints (o := ⟨some 14, _, _, _, _, _⟩) rfl _ _ rfl rfl rfl A2.out C2.out (by decide) ?_; intro v2 w2 ho2 hg2; have O2 := Lib.hid ho2; have B2 := Lib.hid ((B1.out.alloc B1.out.size _).trans (hg2.below w.heap.size (by have := B1.out.size; simp; omega) (fun k hk => (O1.out.lt hk).1))); clear ho2 hg2)
    | fail)
  have A3 := Lib.hid (O2.out.kept (w' := w2.alloc (.cells #[.int .i64 4] 60)) (by simp) (fun k _ hk => heap_alloc_old _ _ hk))
  have C3 := Lib.hid (show Src Tryd.prog 1 56 _ [(4 : Int)].length _ _ from src_int_new w2 4)
  go_wp2_with (first
    | (at_builtin; refine wpList_append_ints (o := ⟨some 20, _, _, _, _, _⟩) rfl _ _ rfl rfl rfl A3.out C3.out (by decide) ?_; intro v3 w3 ho3 hg3; have O3 := Lib.hid ho3; have B3 := Lib.hid ((B2.out.alloc B2.out.size _).trans (hg3.below w.heap.size (by have := B2.out.size; simp; omega) (fun k hk => (O2.out.lt hk).1))); clear ho3 hg3)
    | fail)
  go_ret2
  exact ⟨⟨_, rfl, OwnI.parts (ps := [0, 1, 4]) O3.out⟩, B3.out⟩
set_option maxHeartbeats 8000000 in
theorem parts_15 (w : World) : Calls Tryd.prog 31 #[.int .i64 15] w fun e w' => (∃ v, e = .returned (.tuple #[v, .bool true]) ∧ PartsIn w' v [0, 1, 4]) ∧ Below w.heap.size w w' := by
  have b1 : bits .andNot .i64 15 7 = 8 := by decide
  have b2 : bits .and .i64 15 4 = 4 := by decide
  have b3 : bits .and .i64 15 2 = 2 := by decide
  go_enter Tryd.func31, Tryd.ntmps31
  have O1 := Lib.hid (show OwnI w.heap.size (.slice (some ⟨w.heap.size, 0, none⟩) 1 1) [0] (w.alloc (.cells #[.int .i64 0] 60)) from OwnI.made 0 w)
  have bel := (Below.refl w.heap.size w).alloc (Nat.le_refl _) (.cells #[.int .i64 0] 60)
  go_upto_region 4 with (fail)
  generalize w.alloc _ = w1 at *
  have B1 := Lib.hid bel
  clear bel
  have A2 := Lib.hid (O1.out.kept (w' := w1.alloc (.cells #[.int .i64 1] 60)) (by simp) (fun k _ hk => heap_alloc_old _ _ hk))
  have C2 := Lib.hid (show Src Tryd.prog 1 56 _ [(1 : Int)].length _ _ from src_int_new w1 1)
  go_upto_region 6 with (first
    | (at_builtin; refine wpList_append_ints (o := ⟨some 14, _, _, _, _, _⟩) rfl _ _ rfl rfl rfl A2.out C2.out (by decide) ?_; intro v2 w2 ho2 hg2; have O2 := Lib.hid ho2; have B2 := Lib.hid ((B1.out.alloc B1.out.size _).trans (hg2.below w.heap.size (by have := B1.out.size; simp; omega) (fun k hk => (O1.out.lt hk).1))); clear ho2 hg2)
    | fail)
  have A3 := Lib.hid (O2.out.kept (w' := w2.alloc (.cells #[.int .i64 4] 60)) (by simp) (fun k _ hk => heap_alloc_old _ _ hk))
  have C3 := Lib.hid (show Src Tryd.prog 1 56 _ [(4 : Int)].length _ _ from src_int_new w2 4)
  go_wp2_with (first
    | (at_builtin; refine wpList_append_ints (o := ⟨some 20, _, _, _, _, _⟩) rfl _ _ rfl rfl rfl A3.out C3.out (by decide) ?_; intro v3 w3 ho3 hg3; have O3 := Lib.hid ho3; have B3 := Lib.hid ((B2.out.alloc B2.out.size _).trans (hg3.below w.heap.size (by have := B2.out.size; simp; omega) (fun k hk => (O2.out.lt hk).1))); clear ho3 hg3)
    | fail)
  go_ret2
  exact ⟨⟨_, rfl, OwnI.parts (ps := [0, 1, 4]) O3.out⟩, B3.out⟩
set_option maxHeartbeats 4000000 in
theorem parts_none (k : Int) (h1 : -9223372036854775808 ≤ k) (h2 : k ≤ 9223372036854775807) (h : ¬ (8 ≤ k ∧ k ≤ 15)) (w : World) : Calls Tryd.prog 31 #[.int .i64 k] w fun e w' => e = .returned (.tuple #[.slice none 0 0, .bool false]) ∧ w = w' := by
  have hb : ¬ bits .andNot .i64 k 7 = 8 := fun e => h ((bits7 k h1 h2).1 e)
  have e1 : (bits .andNot .i64 k 7 != 8) = true := by simp [hb]
  clear h hb
  go_enter Tryd.func31, Tryd.ntmps31
  go_wp2_with fail
  go_ret2
  exact ⟨rfl, rfl⟩
set_option maxHeartbeats 4000000 in
theorem partsOf_0 (w : World) : Calls Tryd.prog 20 #[.int .i64 0] w (PartsPost 0 w) := by
  go_enter Tryd.func20, Tryd.ntmps20
  go_wp2_with fail
  go_ret2
  exact ⟨⟨_, rfl, parts_new w [10] 60 (by decide)⟩, (Below.refl _ _).alloc (Nat.le_refl _) _⟩
set_option maxHeartbeats 4000000 in
theorem partsOf_1 (w : World) : Calls Tryd.prog 20 #[.int .i64 1] w (PartsPost 1 w) := by
  go_enter Tryd.func20, Tryd.ntmps20
  go_wp2_with fail
  go_ret2
  exact ⟨⟨_, rfl, PartsIn.none w⟩, Below.refl _ _⟩
set_option maxHeartbeats 4000000 in
theorem partsOf_30 (w : World) : Calls Tryd.prog 20 #[.int .i64 30] w (PartsPost 30 w) := by
  go_enter Tryd.func20, Tryd.ntmps20
  go_wp2_with fail
  go_ret2
  exact ⟨⟨_, rfl, PartsIn.none w⟩, Below.refl _ _⟩
set_option maxHeartbeats 4000000 in
theorem partsOf_2 (w : World) : Calls Tryd.prog 20 #[.int .i64 2] w (PartsPost 2 w) := by
  go_enter Tryd.func20, Tryd.ntmps20
  go_wp2_with fail
  go_ret2
  exact ⟨⟨_, rfl, parts_new w [9] 60 (by decide)⟩, (Below.refl _ _).alloc (Nat.le_refl _) _⟩
set_option maxHeartbeats 4000000 in
theorem partsOf_4 (w : World) : Calls Tryd.prog 20 #[.int .i64 4] w (PartsPost 4 w) := by
  go_enter Tryd.func20, Tryd.ntmps20
  go_wp2_with fail
  go_ret2
  exact ⟨⟨_, rfl, parts_new w [0, 3, 1] 60 (by decide)⟩, (Below.refl _ _).alloc (Nat.le_refl _) _⟩
set_option maxHeartbeats 4000000 in
theorem partsOf_5 (w : World) : Calls Tryd.prog 20 #[.int .i64 5] w (PartsPost 5 w) := by
  go_enter Tryd.func20, Tryd.ntmps20
  go_wp2_with fail
  go_ret2
  exact ⟨⟨_, rfl, parts_new w [0, 3] 60 (by decide)⟩, (Below.refl _ _).alloc (Nat.le_refl _) _⟩
set_option maxHeartbeats 4000000 in
theorem partsOf_6 (w : World) : Calls Tryd.prog 20 #[.int .i64 6] w (PartsPost 6 w) := by
  go_enter Tryd.func20, Tryd.ntmps20
  go_wp2_with fail
  go_ret2
  exact ⟨⟨_, rfl, parts_new w [1, 4] 60 (by decide)⟩, (Below.refl _ _).alloc (Nat.le_refl _) _⟩
set_option maxHeartbeats 4000000 in
theorem partsOf_7 (w : World) : Calls Tryd.prog 20 #[.int .i64 7] w (PartsPost 7 w) := by
  go_enter Tryd.func20, Tryd.ntmps20
  go_wp2_with fail
  go_ret2
  exact ⟨⟨_, rfl, parts_new w [4] 60 (by decide)⟩, (Below.refl _ _).alloc (Nat.le_refl _) _⟩
set_option maxHeartbeats 4000000 in
theorem partsOf_16 (w : World) : Calls Tryd.prog 20 #[.int .i64 16] w (PartsPost 16 w) := by
  go_enter Tryd.func20, Tryd.ntmps20
  go_wp2_with fail
  go_ret2
  exact ⟨⟨_, rfl, parts_new w [2] 60 (by decide)⟩, (Below.refl _ _).alloc (Nat.le_refl _) _⟩
set_option maxHeartbeats 4000000 in
theorem partsOf_20 (w : World) : Calls Tryd.prog 20 #[.int .i64 20] w (PartsPost 20 w) := by
  go_enter Tryd.func20, Tryd.ntmps20
  go_wp2_with fail
  go_ret2
  exact ⟨⟨_, rfl, parts_new w [2] 60 (by decide)⟩, (Below.refl _ _).alloc (Nat.le_refl _) _⟩
set_option maxHeartbeats 4000000 in
theorem partsOf_25 (w : World) : Calls Tryd.prog 20 #[.int .i64 25] w (PartsPost 25 w) := by
  go_enter Tryd.func20, Tryd.ntmps20
  go_wp2_with fail
  go_ret2
  exact ⟨⟨_, rfl, parts_new w [2] 60 (by decide)⟩, (Below.refl _ _).alloc (Nat.le_refl _) _⟩
set_option maxHeartbeats 4000000 in
theorem partsOf_18 (w : World) : Calls Tryd.prog 20 #[.int .i64 18] w (PartsPost 18 w) := by
  go_enter Tryd.func20, Tryd.ntmps20
  go_wp2_with fail
  go_ret2
  exact ⟨⟨_, rfl, parts_new w [2] 60 (by decide)⟩, (Below.refl _ _).alloc (Nat.le_refl _) _⟩
set_option maxHeartbeats 4000000 in
theorem partsOf_22 (w : World) : Calls Tryd.prog 20 #[.int .i64 22] w (PartsPost 22 w) := by
  go_enter Tryd.func20, Tryd.ntmps20
  go_wp2_with fail
  go_ret2
  exact ⟨⟨_, rfl, parts_new w [2] 60 (by decide)⟩, (Below.refl _ _).alloc (Nat.le_refl _) _⟩
set_option maxHeartbeats 4000000 in
theorem partsOf_17 (w : World) : Calls Tryd.prog 20 #[.int .i64 17] w (PartsPost 17 w) := by
  go_enter Tryd.func20, Tryd.ntmps20
  go_wp2_with fail
  go_ret2
  exact ⟨⟨_, rfl, parts_new w [0, 2] 60 (by decide)⟩, (Below.refl _ _).alloc (Nat.le_refl _) _⟩
set_option maxHeartbeats 4000000 in
theorem partsOf_21 (w : World) : Calls Tryd.prog 20 #[.int .i64 21] w (PartsPost 21 w) := by
  go_enter Tryd.func20, Tryd.ntmps20
  go_wp2_with fail
  go_ret2
  exact ⟨⟨_, rfl, parts_new w [0, 2] 60 (by decide)⟩, (Below.refl _ _).alloc (Nat.le_refl _) _⟩
set_option maxHeartbeats 4000000 in
theorem partsOf_24 (w : World) : Calls Tryd.prog 20 #[.int .i64 24] w (PartsPost 24 w) := by
  go_enter Tryd.func20, Tryd.ntmps20
  go_wp2_with fail
  go_ret2
  exact ⟨⟨_, rfl, parts_new w [2, 1, 6, 8] 60 (by decide)⟩, (Below.refl _ _).alloc (Nat.le_refl _) _⟩
set_option maxHeartbeats 4000000 in
theorem partsOf_26 (w : World) : Calls Tryd.prog 20 #[.int .i64 26] w (PartsPost 26 w) := by
  go_enter Tryd.func20, Tryd.ntmps20
  go_wp2_with fail
  go_ret2
  exact ⟨⟨_, rfl, parts_new w [7] 60 (by decide)⟩, (Below.refl _ _).alloc (Nat.le_refl _) _⟩
set_option maxHeartbeats 4000000 in
theorem partsOf_27 (w : World) : Calls Tryd.prog 20 #[.int .i64 27] w (PartsPost 27 w) := by
  go_enter Tryd.func20, Tryd.ntmps20
  go_wp2_with fail
  go_ret2
  exact ⟨⟨_, rfl, parts_new w [7] 60 (by decide)⟩, (Below.refl _ _).alloc (Nat.le_refl _) _⟩
set_option maxHeartbeats 4000000 in
theorem partsOf_28 (w : World) : Calls Tryd.prog 20 #[.int .i64 28] w (PartsPost 28 w) := by
  go_enter Tryd.func20, Tryd.ntmps20
  go_wp2_with fail
  go_ret2
  exact ⟨⟨_, rfl, parts_new w [3, 2, 4] 60 (by decide)⟩, (Below.refl _ _).alloc (Nat.le_refl _) _⟩
set_option maxHeartbeats 4000000 in
theorem partsOf_29 (w : World) : Calls Tryd.prog 20 #[.int .i64 29] w (PartsPost 29 w) := by
  go_enter Tryd.func20, Tryd.ntmps20
  go_wp2_with fail
  go_ret2
  exact ⟨⟨_, rfl, parts_new w [3, 4] 60 (by decide)⟩, (Below.refl _ _).alloc (Nat.le_refl _) _⟩
set_option maxHeartbeats 4000000 in
theorem partsOf_8 (w : World) : Calls Tryd.prog 20 #[.int .i64 8] w (PartsPost 8 w) := by
  go_enter Tryd.func20, Tryd.ntmps20
  go_wp2_with fail
  with_reducible refine (parts_8 w).mono ?_
  rintro e w' ⟨⟨v, rfl, hp⟩, hb⟩
  have HP := Lib.hid hp
  have HB := Lib.hid hb
  clear hp hb
  go_wp2_with fail
  go_ret2
  exact ⟨⟨_, rfl, HP.out⟩, HB.out⟩
set_option maxHeartbeats 4000000 in
theorem partsOf_9 (w : World) : Calls Tryd.prog 20 #[.int .i64 9] w (PartsPost 9 w) := by
  go_enter Tryd.func20, Tryd.ntmps20
  go_wp2_with fail
  with_reducible refine (parts_9 w).mono ?_
  rintro e w' ⟨⟨v, rfl, hp⟩, hb⟩
  have HP := Lib.hid hp
  have HB := Lib.hid hb
  clear hp hb
  go_wp2_with fail
  go_ret2
  exact ⟨⟨_, rfl, HP.out⟩, HB.out⟩
set_option maxHeartbeats 4000000 in
theorem partsOf_10 (w : World) : Calls Tryd.prog 20 #[.int .i64 10] w (PartsPost 10 w) := by
  go_enter Tryd.func20, Tryd.ntmps20
  go_wp2_with fail
  with_reducible refine (parts_10 w).mono ?_
  rintro e w' ⟨⟨v, rfl, hp⟩, hb⟩
  have HP := Lib.hid hp
  have HB := Lib.hid hb
  clear hp hb
  go_wp2_with fail
  go_ret2
  exact ⟨⟨_, rfl, HP.out⟩, HB.out⟩
set_option maxHeartbeats 4000000 in
theorem partsOf_11 (w : World) : Calls Tryd.prog 20 #[.int .i64 11] w (PartsPost 11 w) := by
  go_enter Tryd.func20, Tryd.ntmps20
  go_wp2_with fail
  with_reducible refine (parts_11 w).mono ?_
  rintro e w' ⟨⟨v, rfl, hp⟩, hb⟩
  have HP := Lib.hid hp
  have HB := Lib.hid hb
  clear hp hb
  go_wp2_with fail
  go_ret2
  exact ⟨⟨_, rfl, HP.out⟩, HB.out⟩
set_option maxHeartbeats 4000000 in
theorem partsOf_12 (w : World) : Calls Tryd.prog 20 #[.int .i64 12] w (PartsPost 12 w) := by
  go_enter Tryd.func20, Tryd.ntmps20
  go_wp2_with fail
  with_reducible refine (parts_12 w).mono ?_
  rintro e w' ⟨⟨v, rfl, hp⟩, hb⟩
  have HP := Lib.hid hp
  have HB := Lib.hid hb
  clear hp hb
  go_wp2_with fail
  go_ret2
  exact ⟨⟨_, rfl, HP.out⟩, HB.out⟩
set_option maxHeartbeats 4000000 in
theorem partsOf_13 (w : World) : Calls Tryd.prog 20 #[.int .i64 13] w (PartsPost 13 w) := by
  go_enter Tryd.func20, Tryd.ntmps20
  go_wp2_with fail
  with_reducible refine (parts_13 w).mono ?_
  rintro e w' ⟨⟨v, rfl, hp⟩, hb⟩
  have HP := Lib.hid hp
  have HB := Lib.hid hb
  clear hp hb
  go_wp2_with fail
  go_ret2
  exact ⟨⟨_, rfl, HP.out⟩, HB.out⟩
set_option maxHeartbeats 4000000 in
theorem partsOf_14 (w : World) : Calls Tryd.prog 20 #[.int .i64 14] w (PartsPost 14 w) := by
  go_enter Tryd.func20, Tryd.ntmps20
  go_wp2_with fail
  with_reducible refine (parts_14 w).mono ?_
  rintro e w' ⟨⟨v, rfl, hp⟩, hb⟩
  have HP := Lib.hid hp
  have HB := Lib.hid hb
  clear hp hb
  go_wp2_with fail
  go_ret2
  exact ⟨⟨_, rfl, HP.out⟩, HB.out⟩
set_option maxHeartbeats 4000000 in
theorem partsOf_15 (w : World) : Calls Tryd.prog 20 #[.int .i64 15] w (PartsPost 15 w) := by
  go_enter Tryd.func20, Tryd.ntmps20
  go_wp2_with fail
  with_reducible refine (parts_15 w).mono ?_
  rintro e w' ⟨⟨v, rfl, hp⟩, hb⟩
  have HP := Lib.hid hp
  have HB := Lib.hid hb
  clear hp hb
  go_wp2_with fail
  go_ret2
  exact ⟨⟨_, rfl, HP.out⟩, HB.out⟩
set_option maxHeartbeats 8000000 in
theorem partsOf_none (k : Int) (h1 : -9223372036854775808 ≤ k) (h2 : k ≤ 9223372036854775807) (h : ¬ (8 ≤ k ∧ k ≤ 15)) (hn : k ≠ 0 ∧ k ≠ 1 ∧ k ≠ 2 ∧ k ≠ 4 ∧ k ≠ 5 ∧ k ≠ 6 ∧ k ≠ 7 ∧ k ≠ 16 ∧ k ≠ 17 ∧ k ≠ 18 ∧ k ≠ 20 ∧ k ≠ 21 ∧ k ≠ 22 ∧ k ≠ 24 ∧ k ≠ 25 ∧ k ≠ 26 ∧ k ≠ 27 ∧ k ≠ 28 ∧ k ≠ 29 ∧ k ≠ 30) (w : World) : Calls Tryd.prog 20 #[.int .i64 k] w fun e w' => e = .returned (.tuple #[.slice none 0 0, .bool false]) ∧ w = w' := by
  have PN := Lib.hid (parts_none k h1 h2 h w)
  have e0 : (k == 0) = false := by simp; omega
  have e1 : (k == 1) = false := by simp; omega
  have e2 : (k == 2) = false := by simp; omega
  have e3 : (k == 4) = false := by simp; omega
  have e4 : (k == 5) = false := by simp; omega
  have e5 : (k == 6) = false := by simp; omega
  have e6 : (k == 7) = false := by simp; omega
  have e7 : (k == 16) = false := by simp; omega
  have e8 : (k == 17) = false := by simp; omega
  have e9 : (k == 18) = false := by simp; omega
  have e10 : (k == 20) = false := by simp; omega
  have e11 : (k == 21) = false := by simp; omega
  have e12 : (k == 22) = false := by simp; omega
  have e13 : (k == 24) = false := by simp; omega
  have e14 : (k == 25) = false := by simp; omega
  have e15 : (k == 26) = false := by simp; omega
  have e16 : (k == 27) = false := by simp; omega
  have e17 : (k == 28) = false := by simp; omega
  have e18 : (k == 29) = false := by simp; omega
  have e19 : (k == 30) = false := by simp; omega
  clear h hn
  go_enter Tryd.func20, Tryd.ntmps20
  go_wp2_with fail
  with_reducible refine PN.out.mono ?_
  rintro e w' ⟨rfl, rfl⟩
  go_wp2_with fail
  go_ret2
  exact ⟨rfl, rfl⟩
theorem partsOf_any (k : Int) (h1 : -9223372036854775808 ≤ k) (h2 : k ≤ 9223372036854775807) (w : World) : Calls Tryd.prog 20 #[.int .i64 k] w (PartsPost k w) := by
  by_cases h0 : k = 0
  · subst h0; exact partsOf_0 w
  by_cases hk1 : k = 1
  · subst hk1; exact partsOf_1 w
  by_cases hk2 : k = 2
  · subst hk2; exact partsOf_2 w
  by_cases h4 : k = 4
  · subst h4; exact partsOf_4 w
  by_cases h5 : k = 5
  · subst h5; exact partsOf_5 w
  by_cases h6 : k = 6
  · subst h6; exact partsOf_6 w
  by_cases h7 : k = 7
  · subst h7; exact partsOf_7 w
  by_cases h8 : k = 8
  · subst h8; exact partsOf_8 w
  by_cases h9 : k = 9
  · subst h9; exact partsOf_9 w
  by_cases h10 : k = 10
  · subst h10; exact partsOf_10 w
  by_cases h11 : k = 11
  · subst h11; exact partsOf_11 w
  by_cases h12 : k = 12
  · subst h12; exact partsOf_12 w
  by_cases h13 : k = 13
  · subst h13; exact partsOf_13 w
  by_cases h14 : k = 14
  · subst h14; exact partsOf_14 w
  by_cases h15 : k = 15
  · subst h15; exact partsOf_15 w
  by_cases h16 : k = 16
  · subst h16; exact partsOf_16 w
  by_cases h17 : k = 17
  · subst h17; exact partsOf_17 w
  by_cases h18 : k = 18
  · subst h18; exact partsOf_18 w
  by_cases h20 : k = 20
  · subst h20; exact partsOf_20 w
  by_cases h21 : k = 21
  · subst h21; exact partsOf_21 w
  by_cases h22 : k = 22
  · subst h22; exact partsOf_22 w
  by_cases h24 : k = 24
  · subst h24; exact partsOf_24 w
  by_cases h25 : k = 25
  · subst h25; exact partsOf_25 w
  by_cases h26 : k = 26
  · subst h26; exact partsOf_26 w
  by_cases h27 : k = 27
  · subst h27; exact partsOf_27 w
  by_cases h28 : k = 28
  · subst h28; exact partsOf_28 w
  by_cases h29 : k = 29
  · subst h29; exact partsOf_29 w
  by_cases h30 : k = 30
  · subst h30; exact partsOf_30 w
  refine (partsOf_none k h1 h2 (by omega) (by omega) w).mono ?_
  rintro e w' ⟨rfl, rfl⟩
  refine ⟨?_, Below.refl _ _⟩
  have hp : partsL k = none := by
    unfold partsL
    simp only [h0, hk1, hk2, h4, h5, h6, h7, h16, h17, h18, h20, h21, h22, h24, h25, h26, h27, h28, h29, h30, if_false]
    rw [if_neg (by omega)]
  rw [hp]
end Go.Proofs.YtcgbhcmgddgheabDoor
