/-
  FRAMES: the laws' to, from, Same of frames without spans.
  FRAMES: THE LAW's CONVERSIONS, SPANS AND ALL.
  FRAMES: THE DOCUMENT's Same, OF TWO FRAMES THAT ARE THE SAME.
-/
import Derived.Test.YtcgbhcmgddgheabDoorFrT
namespace Go.Proofs.YtcgbhcmgddgheabDoor
open Go Go.RowKit Go.BigFrame
set_option linter.unusedSimpArgs false
set_option linter.unusedVariables false
set_option maxRecDepth 100000
theorem rfr_zero : (Tryd.prog.info? 24).map (·.zero) = some (some (.agg (frC 0 0 0 0 0 false ⟨#[]⟩ ⟨#[]⟩ (.slice none 0 0)))) := by kernel_rfl
set_option maxHeartbeats 8000000 in
theorem to_nil (K S O N C : Int) (F : Bool) (D X : ByteArray) (a : Option Addr) (c : Nat) (w : World) :
    Calls Tryd.prog 9 #[.agg (frC K S O N C F D X (.slice a 0 c))] w fun e w' => e = .returned (.agg (frC K S O N C F D X (.slice none 0 0))) ∧ Below w.heap.size w w' := by
  unfold frC
  go_enter Tryd.func9, Tryd.ntmps9
  go_upto_region 1 with (first
    | (refine wpList_alloc_row (o := ⟨some 2, .alloc 33, _, _, _, _⟩) rfl 33 rfl _ fr_zero ?_)
    | fail)
  have r0 := rows_alloc w [.cells (frC K S O N C F D X (.slice a 0 c)) 24, .cells (frC 0 0 0 0 0 false ⟨#[]⟩ ⟨#[]⟩ (.slice none 0 0)) 33] 0
  have r1 := rows_alloc w [.cells (frC K S O N C F D X (.slice a 0 c)) 24, .cells (frC 0 0 0 0 0 false ⟨#[]⟩ ⟨#[]⟩ (.slice none 0 0)) 33] 1
  have bel : Below w.heap.size w ((w.alloc (.cells (frC K S O N C F D X (.slice a 0 c)) 24)).alloc (.cells (frC 0 0 0 0 0 false ⟨#[]⟩ ⟨#[]⟩ (.slice none 0 0)) 33)) := ((Below.refl w.heap.size w).alloc (Nat.le_refl _) _).alloc (by simp) _
  have hs1 : (w.alloc (.cells (frC K S O N C F D X (.slice a 0 c)) 24)).heap.size = w.heap.size + 1 := by simp
  simp only [List.foldl_cons, List.foldl_nil, Nat.add_zero] at r0 r1
  have RB := Lib.hid bel
  rw [show (w.alloc (.cells #[.int .i64 K, .int .i64 S, .int .i64 O, .int .i64 N, .int .i64 C, .bool F, .string D, .string X, .slice a 0 c] 24)) = (w.alloc (.cells (frC K S O N C F D X (.slice a 0 c)) 24)) from rfl]
  try rw [hs1]
  generalize World.alloc _ _ = w1 at *
  obtain ⟨c0, c1, c2, c3, c4, c5, c6, c7, c8⟩ := cells9 r0
  have R1 := Lib.hid r1
  clear r1 bel hs1
  have row2 := heap_alloc_last w1 (.cells #[.int .i64 K, .int .i64 S, .int .i64 O, .int .i64 N, .int .i64 C, .bool F, .string D, .string X, .slice none 0 0] 33)
  have bel2 := (Below.refl w1.heap.size w1).alloc (Nat.le_refl _) (.cells #[.int .i64 K, .int .i64 S, .int .i64 O, .int .i64 N, .int .i64 C, .bool F, .string D, .string X, .slice none 0 0] 33)
  go_upto_region 3 with (fail)
  generalize w1.alloc _ = w2 at *
  have B2 := Lib.hid bel2
  have X2 := Lib.hid ((bel2.block _ (lt_row R1.out)).trans R1.out)
  have R2 := Lib.hid row2
  obtain ⟨d0, d1, d2, d3, d4, d5, d6, d7, d8⟩ := cells9 ((bel2.block _ (lt_row r0)).trans r0)
  clear c0 c1 c2 c3 c4 c5 c6 c7 c8 bel2 r0
  go_loopw [4] (fun s4 wr => s4 = .int .i64 0 ∧ wr = w2) (fun _ _ => 0)
  case atStart => exact ⟨rfl, rfl⟩
  case round =>
    obtain ⟨rfl, rfl⟩ := hrel
    obtain ⟨c0, c1, c2, c3, c4, c5, c6, c7, c8⟩ := cells9 row2
    clear row2
    go_wp2_with (first
      | (refine wpList_store_row (op := ⟨none, .store 33 _ _, _, _, _, _⟩) rfl 33 _ _ rfl (w.heap.size + 1) 33 _ (frC K S O N C F D X (.slice none 0 0)) rfl rfl X2.out rfl (by kernel_rfl) (frC_one _ _ _ _ _ _ _ _ _ _ _) ?_
         intro w9 rs
         have RS9 := Lib.hid rs
         clear rs)
      | fail)
    refine ret_row (w.heap.size + 1) 33 33 (frC K S O N C F D X (.slice none 0 0)) rfl _ rfl RS9.out.row Tryd.underlying33 rfl (by kernel_rfl) rfl ?_
    exact ⟨rfl, (RB.out.trans (B2.out.mono RB.out.size)).trans (RS9.out.below _ (Nat.le_succ _))⟩
set_option maxHeartbeats 8000000 in
theorem from_nil (K S O N C : Int) (F : Bool) (D X : ByteArray) (a : Option Addr) (c : Nat) (w : World) :
    Calls Tryd.prog 15 #[.agg (frC K S O N C F D X (.slice a 0 c))] w fun e w' => e = .returned (.agg (frC K S O N C F D X (.slice none 0 0))) ∧ Below w.heap.size w w' := by
  unfold frC
  go_enter Tryd.func15, Tryd.ntmps15
  go_upto_region 1 with (first
    | (refine wpList_alloc_row (o := ⟨some 2, .alloc 24, _, _, _, _⟩) rfl 24 rfl _ rfr_zero ?_)
    | fail)
  have r0 := rows_alloc w [.cells (frC K S O N C F D X (.slice a 0 c)) 33, .cells (frC 0 0 0 0 0 false ⟨#[]⟩ ⟨#[]⟩ (.slice none 0 0)) 24] 0
  have r1 := rows_alloc w [.cells (frC K S O N C F D X (.slice a 0 c)) 33, .cells (frC 0 0 0 0 0 false ⟨#[]⟩ ⟨#[]⟩ (.slice none 0 0)) 24] 1
  have bel : Below w.heap.size w ((w.alloc (.cells (frC K S O N C F D X (.slice a 0 c)) 33)).alloc (.cells (frC 0 0 0 0 0 false ⟨#[]⟩ ⟨#[]⟩ (.slice none 0 0)) 24)) := ((Below.refl w.heap.size w).alloc (Nat.le_refl _) _).alloc (by simp) _
  have hs1 : (w.alloc (.cells (frC K S O N C F D X (.slice a 0 c)) 33)).heap.size = w.heap.size + 1 := by simp
  simp only [List.foldl_cons, List.foldl_nil, Nat.add_zero] at r0 r1
  have RB := Lib.hid bel
  rw [show (w.alloc (.cells #[.int .i64 K, .int .i64 S, .int .i64 O, .int .i64 N, .int .i64 C, .bool F, .string D, .string X, .slice a 0 c] 33)) = (w.alloc (.cells (frC K S O N C F D X (.slice a 0 c)) 33)) from rfl]
  try rw [hs1]
  generalize World.alloc _ _ = w1 at *
  obtain ⟨c0, c1, c2, c3, c4, c5, c6, c7, c8⟩ := cells9 r0
  have R1 := Lib.hid r1
  clear r1 bel hs1
  have row2 := heap_alloc_last w1 (.cells #[.int .i64 K, .int .i64 S, .int .i64 O, .int .i64 N, .int .i64 C, .bool F, .string D, .string X, .slice none 0 0] 24)
  have bel2 := (Below.refl w1.heap.size w1).alloc (Nat.le_refl _) (.cells #[.int .i64 K, .int .i64 S, .int .i64 O, .int .i64 N, .int .i64 C, .bool F, .string D, .string X, .slice none 0 0] 24)
  go_upto_region 3 with (fail)
  generalize w1.alloc _ = w2 at *
  have B2 := Lib.hid bel2
  have X2 := Lib.hid ((bel2.block _ (lt_row R1.out)).trans R1.out)
  have R2 := Lib.hid row2
  obtain ⟨d0, d1, d2, d3, d4, d5, d6, d7, d8⟩ := cells9 ((bel2.block _ (lt_row r0)).trans r0)
  clear c0 c1 c2 c3 c4 c5 c6 c7 c8 bel2 r0
  go_loopw [4] (fun s4 wr => s4 = .int .i64 0 ∧ wr = w2) (fun _ _ => 0)
  case atStart => exact ⟨rfl, rfl⟩
  case round =>
    obtain ⟨rfl, rfl⟩ := hrel
    obtain ⟨c0, c1, c2, c3, c4, c5, c6, c7, c8⟩ := cells9 row2
    clear row2
    go_wp2_with (first
      | (refine wpList_store_row (op := ⟨none, .store 24 _ _, _, _, _, _⟩) rfl 24 _ _ rfl (w.heap.size + 1) 24 _ (frC K S O N C F D X (.slice none 0 0)) rfl rfl X2.out rfl (by kernel_rfl) (frC_one _ _ _ _ _ _ _ _ _ _ _) ?_
         intro w9 rs
         have RS9 := Lib.hid rs
         clear rs)
      | fail)
    refine ret_row (w.heap.size + 1) 24 24 (frC K S O N C F D X (.slice none 0 0)) rfl _ rfl RS9.out.row Tryd.underlying24 rfl (by kernel_rfl) rfl ?_
    exact ⟨rfl, (RB.out.trans (B2.out.mono RB.out.size)).trans (RS9.out.below _ (Nat.le_succ _))⟩
set_option maxHeartbeats 8000000 in
theorem same_nil (K S O N C : Int) (F : Bool) (D X : ByteArray) (w : World) :
    Calls Tryd.prog 14 #[.agg (frC K S O N C F D X (.slice none 0 0)), .agg (frC K S O N C F D X (.slice none 0 0))] w fun e w' => e = .returned (.bool true) ∧ Below w.heap.size w w' := by
  unfold frC
  have bel : Below w.heap.size w ((w.alloc (.cells #[.int .i64 K, .int .i64 S, .int .i64 O, .int .i64 N, .int .i64 C, .bool F, .string D, .string X, .slice none 0 0] 24)).alloc (.cells #[.int .i64 K, .int .i64 S, .int .i64 O, .int .i64 N, .int .i64 C, .bool F, .string D, .string X, .slice none 0 0] 24)) := ((Below.refl w.heap.size w).alloc (Nat.le_refl _) _).alloc (by simp) _
  have r0 := rows_alloc w [.cells #[.int .i64 K, .int .i64 S, .int .i64 O, .int .i64 N, .int .i64 C, .bool F, .string D, .string X, .slice none 0 0] 24, .cells #[.int .i64 K, .int .i64 S, .int .i64 O, .int .i64 N, .int .i64 C, .bool F, .string D, .string X, .slice none 0 0] 24] 0
  have r1 := rows_alloc w [.cells #[.int .i64 K, .int .i64 S, .int .i64 O, .int .i64 N, .int .i64 C, .bool F, .string D, .string X, .slice none 0 0] 24, .cells #[.int .i64 K, .int .i64 S, .int .i64 O, .int .i64 N, .int .i64 C, .bool F, .string D, .string X, .slice none 0 0] 24] 1
  simp only [List.foldl_cons, List.foldl_nil, Nat.add_zero] at r0 r1
  have hs1 : (w.alloc (.cells #[.int .i64 K, .int .i64 S, .int .i64 O, .int .i64 N, .int .i64 C, .bool F, .string D, .string X, .slice none 0 0] 24)).heap.size = w.heap.size + 1 := by simp
  go_enter Tryd.func14, Tryd.ntmps14
  go_upto_region 1 with (fail)
  try rw [hs1]
  generalize World.alloc _ _ = w1 at *
  obtain ⟨c0, c1, c2, c3, c4, c5, c6, c7, c8⟩ := cells9 r0
  obtain ⟨d0, d1, d2, d3, d4, d5, d6, d7, d8⟩ := cells9 r1
  clear r0 r1 hs1
  go_upto_region 4 with (fail)
  go_loopw [5] (fun s5 wr => s5 = .int .i64 0 ∧ wr = w1) (fun _ _ => 0)
  case atStart => exact ⟨rfl, rfl⟩
  case round =>
    obtain ⟨rfl, rfl⟩ := hrel
    go_wp2_with fail
    go_ret
    exact ⟨rfl, bel⟩
end Go.Proofs.YtcgbhcmgddgheabDoor
namespace Go.Proofs.YtcgbhcmgddgheabDoor
open Go Go.RowKit Go.BigFrame
set_option linter.unusedSimpArgs false
set_option linter.unusedVariables false
set_option maxRecDepth 100000
theorem spC_take (A : List (Int × Int)) (j : Nat) (h : j < A.length) : A.take (j + 1) = A.take j ++ [A[j]] := List.take_succ_eq_append_getElem h
theorem spans_of {w : World} {B j : Nat} {T : TypeId} {v : Value} {A : List (Int × Int)} (hj : j = A.length) (h : w.ownsRow B T 2 v j (spC A)) : SpansIn w v A := by
  subst hj
  rcases h.2 with ⟨hv, h0⟩ | ⟨g, cap, cur, hv, hb', hg, h1, h2, h3, h4⟩
  · obtain rfl : A = [] := List.length_eq_zero_iff.1 h0
    rw [hv]; exact SpansIn.none w
  · rw [hv]
    refine ⟨⟨_, _, rfl, ⟨h1, h2⟩, .inr ⟨g, 0, rfl, lt_row hg, fun i hi => ?_⟩⟩⟩
    obtain ⟨q1, q2⟩ := spC_at A i hi
    rw [cell_of_row _ _ _ _ _ _ hg, cell_of_row _ _ _ _ _ _ hg, Nat.zero_add, ← q1, ← q2, ← h4, List.getElem?_take, if_pos (by omega), List.getElem?_take, if_pos (by omega)]
    simp
/-- The first n cells of a slice's row that is one's own lie in a block from B on. -/
theorem own_lt {w : World} {B k n z : Nat} {T : TypeId} {v : Value} {xs : List Value} (h : w.ownsRow B T z v n xs) (hk : v.ownBlock = some k) : B ≤ k := by
  rcases h.2 with ⟨hv, h0⟩ | ⟨g, cap, cur, hv, hb', hg, _⟩
  · rw [hv] at hk; cases hk
  · rw [hv] at hk
    have : g = k := own_eq hk
    omega
theorem info_to : ∃ i0, Tryd.prog.info? 50 = some i0 ∧ i0.zero = some (.agg #[.int .i64 0, .int .i64 0]) ∧ i0.size = 2 ∧ i0.bytes = 16 := by
  have h : (Tryd.prog.info? 50).map (fun i => (i.zero, i.size, i.bytes)) = some (some (.agg #[.int .i64 0, .int .i64 0]), 2, 16) := by kernel_rfl
  cases hq : Tryd.prog.info? 50 with
  | none => rw [hq] at h; cases h
  | some i =>
    rw [hq] at h
    simp only [Option.map_some, Option.some.injEq, Prod.mk.injEq] at h
    exact ⟨i, rfl, h.1, h.2.1, h.2.2⟩
theorem step_append_to {o : Oper} {a : Act} {w : World} {K : Act → World → Prop} {Q : Exit → Act → World → Prop} (s x : Operand)
    (ho : o.op = .call { callee := .builtin .append, args := #[s, x], argTypes := #[31, 31] })
    (B : Nat) (v : Value) (A : List (Int × Int)) (n : Nat) (hs : a.eval s = v) (hown : w.ownsRow B 50 2 v n (spC A)) (g : Nat) (y1 y2 : Int) (hx : a.eval x = .slice (some ⟨g, 0, none⟩) 1 1)
    (hg : w.heap[g]? = some (.cells #[.int .i64 y1, .int .i64 y2] 50 (0, 0))) (hA : n ≤ 10000000000000) (hbase : B ≤ w.heap.size)
    (h : ∀ v' w', w'.ownsRow B 50 2 v' (n + 1) (spC (A ++ [(y1, y2)])) → w.grownBy w' v.ownBlock → K (a.put o.dst v') w') : o.wp Tryd.prog a w K Q := by
  obtain ⟨i0, hi0, hz0, hz1, hz2⟩ := info_to
  have news : ∀ j u, ([.int .i64 y1, .int .i64 y2] : List Value)[j]? = some u → w.cell? (Addr.add ⟨g, 0, none⟩ j) = some u := fun j u hj => by
    rw [show Addr.add ⟨g, 0, none⟩ j = ⟨g, j, none⟩ by simp [Addr.add]; exact fun h => h.symm]
    rw [cell_of_row _ _ _ _ _ _ hg]
    simpa using hj
  refine wp_append_own_wide w s x 31 ho B 50 i0 _ 2 16 Tryd.underlying31 hi0 hz0 hz1 hz2 rfl (by decide) v n _ hs hown ⟨g, 0, none⟩ 1 1 _ hx rfl news (List.all_eq_true.mp rfl) (by unfold maxLen; omega) (by omega) hbase ?_
  intro v' w' h1 h2 _
  exact h v' w' (by rw [spC_snoc]; exact h1) h2
set_option maxHeartbeats 16000000 in
theorem to_any (K S O N C : Int) (F : Bool) (D X : ByteArray) (u : Value) (A : List (Int × Int)) (w : World) (hu : SpansIn w u A) (hn : A.length ≤ 10000000000000) :
    Calls Tryd.prog 9 #[.agg (frC K S O N C F D X u)] w fun e w' => ∃ v, e = .returned (.agg (frC K S O N C F D X v)) ∧ SpansIn w' v A ∧ Below w.heap.size w w' := by
  obtain ⟨a, c, rfl, hc, hat⟩ := hu.at_
  obtain ⟨m, hm⟩ : ∃ m, A.length = m := ⟨_, rfl⟩
  rw [hm] at hn hc ⊢
  have HM := Lib.hid hm
  have HAT := Lib.hid hat
  have hm63 : m ≤ 9223372036854775807 := by omega
  clear hm hat hu hc
  unfold frC
  go_enter Tryd.func9, Tryd.ntmps9
  go_upto_region 1 with (first
    | (refine wpList_alloc_row (o := ⟨some 2, .alloc 33, _, _, _, _⟩) rfl 33 rfl _ fr_zero ?_)
    | fail)
  have r0 := rows_alloc w [.cells (frC K S O N C F D X (.slice a m c)) 24, .cells (frC 0 0 0 0 0 false ⟨#[]⟩ ⟨#[]⟩ (.slice none 0 0)) 33] 0
  have r1 := rows_alloc w [.cells (frC K S O N C F D X (.slice a m c)) 24, .cells (frC 0 0 0 0 0 false ⟨#[]⟩ ⟨#[]⟩ (.slice none 0 0)) 33] 1
  have bel : Below w.heap.size w ((w.alloc (.cells (frC K S O N C F D X (.slice a m c)) 24)).alloc (.cells (frC 0 0 0 0 0 false ⟨#[]⟩ ⟨#[]⟩ (.slice none 0 0)) 33)) := ((Below.refl w.heap.size w).alloc (Nat.le_refl _) _).alloc (by simp) _
  have hs1 : (w.alloc (.cells (frC K S O N C F D X (.slice a m c)) 24)).heap.size = w.heap.size + 1 := by simp
  have hs2 : ((w.alloc (.cells (frC K S O N C F D X (.slice a m c)) 24)).alloc (.cells (frC 0 0 0 0 0 false ⟨#[]⟩ ⟨#[]⟩ (.slice none 0 0)) 33)).heap.size = w.heap.size + 2 := by simp
  simp only [List.foldl_cons, List.foldl_nil, Nat.add_zero] at r0 r1
  have RB := Lib.hid bel
  rw [show (w.alloc (.cells #[.int .i64 K, .int .i64 S, .int .i64 O, .int .i64 N, .int .i64 C, .bool F, .string D, .string X, .slice a m c] 24)) = (w.alloc (.cells (frC K S O N C F D X (.slice a m c)) 24)) from rfl]
  try rw [hs1]
  generalize World.alloc _ _ = w1 at *
  obtain ⟨c0, c1, c2, c3, c4, c5, c6, c7, c8⟩ := cells9 r0
  have R1 := Lib.hid r1
  clear r1 bel hs1
  have row2 := heap_alloc_last w1 (.cells #[.int .i64 K, .int .i64 S, .int .i64 O, .int .i64 N, .int .i64 C, .bool F, .string D, .string X, .slice none 0 0] 33)
  have bel2 := (Below.refl w1.heap.size w1).alloc (Nat.le_refl _) (.cells #[.int .i64 K, .int .i64 S, .int .i64 O, .int .i64 N, .int .i64 C, .bool F, .string D, .string X, .slice none 0 0] 33)
  have hs3 : (w1.alloc (.cells #[.int .i64 K, .int .i64 S, .int .i64 O, .int .i64 N, .int .i64 C, .bool F, .string D, .string X, .slice none 0 0] 33)).heap.size = w1.heap.size + 1 := by simp
  go_upto_region 3 with (fail)
  rw [hs2] at row2 hs3
  try rw [hs2]
  generalize w1.alloc _ = w2 at *
  obtain ⟨q, hq⟩ : ∃ q, w.heap.size = q := ⟨_, rfl⟩
  rw [hq] at r0 RB R1 row2 hs2 hs3 ⊢
  have HQ := Lib.hid hq
  have hb2 : Below q w w2 := RB.out.trans (bel2.mono (by omega))
  have I0 := Lib.hid (show w2.ownsRow (q + 3) 50 2 (.slice none 0 0) 0 (spC (A.take 0)) from World.ownsRow_nil w2 (q + 3) 50 2)
  have J0 := Lib.hid (And.intro ((bel2.block _ (lt_row r0)).trans r0) (And.intro ((bel2.block _ (lt_row R1.out)).trans R1.out) (And.intro row2 (And.intro hb2 (show q + 3 ≤ w2.heap.size by omega)))))
  clear c0 c1 c2 c3 c4 c5 c6 c7 c8 bel2 r0 R1 RB row2 hs2 hs3 hb2 hq
  go_loopw [4] (fun s4 wr => ∃ (j : Nat) (v : Value), j ≤ m ∧ s4 = .int .i64 (j : Int) ∧ wr.ownsRow (q + 3) 50 2 v j (spC (A.take j)) ∧ wr.heap[q]? = some (.cells (frC K S O N C F D X (.slice a m c)) 24 (0, 0)) ∧ wr.heap[q + 1]? = some (.cells (frC 0 0 0 0 0 false ⟨#[]⟩ ⟨#[]⟩ (.slice none 0 0)) 33 (0, 0)) ∧ wr.heap[q + 2]? = some (.cells (frC K S O N C F D X v) 33 (0, 0)) ∧ Below q w wr ∧ q + 3 ≤ wr.heap.size) (fun s4 _ => m - (intOf s4).toNat)
  case atStart => exact ⟨0, .slice none 0 0, by omega, rfl, I0.out, J0.out⟩
  case round =>
    obtain ⟨j, v, hj, rfl, hown, h0, h1, h2, hbel, hsz⟩ := hrel
    obtain ⟨av, cv, rfl⟩ := own_form hown
    have OWN := Lib.hid hown
    have R0 := Lib.hid h0
    have R1 := Lib.hid h1
    have R2 := Lib.hid h2
    have BEL := Lib.hid hbel
    clear hown h0 h1 h2 hbel I0 J0
    by_cases hjm : j < m
    · have hjI : (j : Int) < (m : Int) := by omega
      have hj0 : (0 : Int) ≤ (j : Int) := by omega
      obtain h0 | ⟨b, o, rfl, hbl, hcell⟩ := HAT.out
      · rw [h0] at HM; have := HM.out; simp at this; omega
      obtain ⟨hx, hy⟩ := hcell j (by rw [HM.out]; exact hjm)
      have tk := spC_take A j (by rw [HM.out]; exact hjm)
      obtain ⟨x, hxe⟩ : ∃ x, (A[j]'(by rw [HM.out]; exact hjm)).1 = x := ⟨_, rfl⟩
      obtain ⟨y, hye⟩ : ∃ y, (A[j]'(by rw [HM.out]; exact hjm)).2 = y := ⟨_, rfl⟩
      rw [hxe] at hx
      rw [hye] at hy
      rw [show A[j]'(by rw [HM.out]; exact hjm) = (x, y) from by rw [← hxe, ← hye]] at tk
      have TK := Lib.hid tk
      rw [HQ.out] at hbl
      have cx := (BEL.out.cell (p := ⟨b, o + j * 2, none⟩) hbl).trans hx
      have cy := (BEL.out.cell (p := ⟨b, o + j * 2 + 1, none⟩) hbl).trans hy
      have c8 := (cells9 R0.out).2.2.2.2.2.2.2.2
      have hbq : b < q := hbl
      have SS := Lib.hid (show wr.drew.cell? ⟨q, 8, none⟩ = some (.slice (some ⟨b, o, none⟩) m c) ∧ wr.drew.cell? ⟨b, o + j * 2, none⟩ = some (.int .i64 x) ∧ wr.drew.cell? ⟨b, o + j * 2 + 1, none⟩ = some (.int .i64 y) from ⟨c8, cx, cy⟩)
      clear hx hy tk hxe hye hcell cx cy
      go_upto_region 5 with (fail)
      clear c8
      have HS : Hid ((fun w' : World => w'.cell? ⟨q, 8, none⟩ = some (.slice (some ⟨b, o, none⟩) m c) ∧ w'.cell? ⟨b, o + j * 2, none⟩ = some (.int .i64 x) ∧ w'.cell? ⟨b, o + j * 2 + 1, none⟩ = some (.int .i64 y)) wr.drew) := Lib.hid SS.out
      refine wp_region_held_drew (S := fun w' : World => w'.cell? ⟨q, 8, none⟩ = some (.slice (some ⟨b, o, none⟩) m c) ∧ w'.cell? ⟨b, o + j * 2, none⟩ = some (.int .i64 x) ∧ w'.cell? ⟨b, o + j * 2 + 1, none⟩ = some (.int .i64 y)) mixedOrders HS.out (fun hHeld => ?_)
      clear hHeld
      refine wpAnyH_take (i := 0) (oi := ⟨some 29, _, _, _, _, _⟩) (v := .pointer (some ⟨q + 2, 8, none⟩)) rfl (by kernel_rfl) (by kernel_rfl) (by kernel_rfl) (fun _ _ _ h => h) (Or.inl ⟨by rfl, fun w' hSw => ?_⟩) HS.out ?_
      · obtain ⟨s1, s2, s3⟩ := hSw
        go_simp
      try simp only [Act.put, List.setIfInBounds_toArray, List.set_cons_succ, List.set_cons_zero]
      refine wpAnyH_take (i := 2) (oi := ⟨some 31, _, _, _, _, _⟩) (v := .pointer (some ⟨q, 8, none⟩)) rfl (by kernel_rfl) (by kernel_rfl) (by kernel_rfl) (fun _ _ _ h => h) (Or.inl ⟨by rfl, fun w' hSw => ?_⟩) HS.out ?_
      · obtain ⟨s1, s2, s3⟩ := hSw
        go_simp
      try simp only [Act.put, List.setIfInBounds_toArray, List.set_cons_succ, List.set_cons_zero]
      refine wpAnyH_take (i := 3) (oi := ⟨some 32, _, _, _, _, _⟩) (v := .slice (some ⟨b, o, none⟩) m c) rfl (by kernel_rfl) (by kernel_rfl) (by kernel_rfl) (fun _ _ _ h => h) (Or.inl ⟨by rfl, fun w' hSw => ?_⟩) HS.out ?_
      · obtain ⟨s1, s2, s3⟩ := hSw
        go_simp
      try simp only [Act.put, List.setIfInBounds_toArray, List.set_cons_succ, List.set_cons_zero]
      refine wpAnyH_take (i := 4) (oi := ⟨some 33, _, _, _, _, _⟩) (v := .int .i64 (j : Int)) rfl (by kernel_rfl) (by kernel_rfl) (by kernel_rfl) (fun _ _ _ h => h) (Or.inl ⟨by rfl, fun w' hSw => ?_⟩) HS.out ?_
      · obtain ⟨s1, s2, s3⟩ := hSw
        go_simp
      try simp only [Act.put, List.setIfInBounds_toArray, List.set_cons_succ, List.set_cons_zero]
      refine wpAnyH_take (i := 5) (oi := ⟨some 34, _, _, _, _, _⟩) (v := .pointer (some ⟨b, o + j * 2, none⟩)) rfl (by kernel_rfl) (by kernel_rfl) (by kernel_rfl) (fun _ _ _ h => h) (Or.inl ⟨by rfl, fun w' hSw => ?_⟩) HS.out ?_
      · obtain ⟨s1, s2, s3⟩ := hSw
        go_simp
      try simp only [Act.put, List.setIfInBounds_toArray, List.set_cons_succ, List.set_cons_zero]
      refine wpAnyH_take (i := 6) (oi := ⟨some 35, _, _, _, _, _⟩) (v := .pointer (some ⟨b, o + j * 2, none⟩)) rfl (by kernel_rfl) (by kernel_rfl) (by kernel_rfl) (fun _ _ _ h => h) (Or.inl ⟨by rfl, fun w' hSw => ?_⟩) HS.out ?_
      · obtain ⟨s1, s2, s3⟩ := hSw
        go_simp
      try simp only [Act.put, List.setIfInBounds_toArray, List.set_cons_succ, List.set_cons_zero]
      refine wpAnyH_take (i := 7) (oi := ⟨some 36, _, _, _, _, _⟩) (v := .int .i64 x) rfl (by kernel_rfl) (by kernel_rfl) (by kernel_rfl) (fun _ _ _ h => h) (Or.inl ⟨by rfl, fun w' hSw => ?_⟩) HS.out ?_
      · obtain ⟨s1, s2, s3⟩ := hSw
        go_simp
      try simp only [Act.put, List.setIfInBounds_toArray, List.set_cons_succ, List.set_cons_zero]
      refine wpAnyH_take (i := 8) (oi := ⟨some 37, _, _, _, _, _⟩) (v := .pointer (some ⟨q, 8, none⟩)) rfl (by kernel_rfl) (by kernel_rfl) (by kernel_rfl) (fun _ _ _ h => h) (Or.inl ⟨by rfl, fun w' hSw => ?_⟩) HS.out ?_
      · obtain ⟨s1, s2, s3⟩ := hSw
        go_simp
      try simp only [Act.put, List.setIfInBounds_toArray, List.set_cons_succ, List.set_cons_zero]
      refine wpAnyH_take (i := 9) (oi := ⟨some 38, _, _, _, _, _⟩) (v := .slice (some ⟨b, o, none⟩) m c) rfl (by kernel_rfl) (by kernel_rfl) (by kernel_rfl) (fun _ _ _ h => h) (Or.inl ⟨by rfl, fun w' hSw => ?_⟩) HS.out ?_
      · obtain ⟨s1, s2, s3⟩ := hSw
        go_simp
      try simp only [Act.put, List.setIfInBounds_toArray, List.set_cons_succ, List.set_cons_zero]
      refine wpAnyH_take (i := 10) (oi := ⟨some 39, _, _, _, _, _⟩) (v := .int .i64 (j : Int)) rfl (by kernel_rfl) (by kernel_rfl) (by kernel_rfl) (fun _ _ _ h => h) (Or.inl ⟨by rfl, fun w' hSw => ?_⟩) HS.out ?_
      · obtain ⟨s1, s2, s3⟩ := hSw
        go_simp
      try simp only [Act.put, List.setIfInBounds_toArray, List.set_cons_succ, List.set_cons_zero]
      refine wpAnyH_take (i := 11) (oi := ⟨some 40, _, _, _, _, _⟩) (v := .pointer (some ⟨b, o + j * 2, none⟩)) rfl (by kernel_rfl) (by kernel_rfl) (by kernel_rfl) (fun _ _ _ h => h) (Or.inl ⟨by rfl, fun w' hSw => ?_⟩) HS.out ?_
      · obtain ⟨s1, s2, s3⟩ := hSw
        go_simp
      try simp only [Act.put, List.setIfInBounds_toArray, List.set_cons_succ, List.set_cons_zero]
      refine wpAnyH_take (i := 12) (oi := ⟨some 41, _, _, _, _, _⟩) (v := .pointer (some ⟨b, o + j * 2 + 1, none⟩)) rfl (by kernel_rfl) (by kernel_rfl) (by kernel_rfl) (fun _ _ _ h => h) (Or.inl ⟨by rfl, fun w' hSw => ?_⟩) HS.out ?_
      · obtain ⟨s1, s2, s3⟩ := hSw
        go_simp
      try simp only [Act.put, List.setIfInBounds_toArray, List.set_cons_succ, List.set_cons_zero]
      refine wpAnyH_take (i := 13) (oi := ⟨some 42, _, _, _, _, _⟩) (v := .int .i64 y) rfl (by kernel_rfl) (by kernel_rfl) (by kernel_rfl) (fun _ _ _ h => h) (Or.inl ⟨by rfl, fun w' hSw => ?_⟩) HS.out ?_
      · obtain ⟨s1, s2, s3⟩ := hSw
        go_simp
      try simp only [Act.put, List.setIfInBounds_toArray, List.set_cons_succ, List.set_cons_zero]
      refine wpAnyH_take (i := 14) (oi := ⟨some 43, _, _, _, _, _⟩) (v := .agg #[.int .i64 x, .int .i64 y]) rfl (by kernel_rfl) (by kernel_rfl) (by kernel_rfl) (fun _ _ _ h => h) (Or.inl ⟨by rfl, fun w' hSw => ?_⟩) HS.out ?_
      · obtain ⟨s1, s2, s3⟩ := hSw
        go_simp
      try simp only [Act.put, List.setIfInBounds_toArray, List.set_cons_succ, List.set_cons_zero]
      refine wpAnyH_ready (rs := [1, 15]) (by kernel_rfl) (by simp) ?_
      refine AllReadyH.cons (i := 1) rfl (fun K hK => ?_) (AllReadyH.cons (i := 15) rfl (fun K hK => ?_) AllReadyH.nil)
      · rw [if_pos (by rfl)]
        have c8 := (cells9 (show (World.heap wr.drew)[q + 2]? = _ from R2.out)).2.2.2.2.2.2.2.2
        go_simp
        clear c8
        refine hK.out _ _ SS.out (fun _ => ?_)
        clear hK K
        try simp only [Act.put, List.setIfInBounds_toArray, List.set_cons_succ, List.set_cons_zero]
        refine wpAnyH_ready (rs := [15]) (by kernel_rfl) (by simp) ?_
        refine AllReadyH.cons (i := 15) rfl (fun K hK => ?_) AllReadyH.nil
        rw [if_pos (by rfl)]
        go_simp
        have hl : (wr.alloc (.cells #[.int .i64 x, .int .i64 y] 50)).drew.heap[wr.heap.size]? = some (.cells #[.int .i64 x, .int .i64 y] 50 (0, 0)) := heap_alloc_last wr (.cells #[.int .i64 x, .int .i64 y] 50)
        have al0 := (Below.refl wr.heap.size wr).alloc (Nat.le_refl _) (.cells #[.int .i64 x, .int .i64 y] 50)
        have al : Below wr.heap.size wr.drew (wr.alloc (.cells #[.int .i64 x, .int .i64 y] 50)).drew := ⟨al0.os, al0.tape, al0.output, al0.size, al0.block⟩
        have ow := ownsRow_keep (w := wr.alloc (.cells #[.int .i64 x, .int .i64 y] 50)) (w' := (wr.alloc (.cells #[.int .i64 x, .int .i64 y] 50)).drew) (OWN.out.alloc (.cells #[.int .i64 x, .int .i64 y] 50)) (fun k hk hlt => rfl)
        clear al0
        generalize (World.alloc _ _).drew = w10 at *
        have AL := Lib.hid al
        have HL := Lib.hid hl
        have OW10 := Lib.hid ow
        have F10 := Lib.hid ((al.block _ (lt_row R2.out)).trans R2.out)
        have SA := Lib.hid (And.intro ((al.cell (p := ⟨q, 8, none⟩) (lt_row R0.out)).trans SS.out.1) (And.intro ((al.cell (p := ⟨b, o + j * 2, none⟩) (show b < wr.heap.size by omega)).trans SS.out.2.1) ((al.cell (p := ⟨b, o + j * 2 + 1, none⟩) (show b < wr.heap.size by omega)).trans SS.out.2.2)))
        clear al hl ow
        refine hK.out _ _ SA.out (fun _ => ?_)
        clear hK K
        try simp only [Act.put, List.setIfInBounds_toArray, List.set_cons_succ, List.set_cons_zero]
        refine wpAnyH_ready (rs := [16]) (by kernel_rfl) (by simp) ?_
        refine AllReadyH.cons (i := 16) rfl (fun K hK => ?_) AllReadyH.nil
        rw [if_pos (by rfl)]
        refine step_append_to (o := ⟨some 45, _, _, _, _, _⟩) _ _ rfl (q + 3) (.slice av j cv) (A.take j) j rfl OW10.out wr.heap.size x y rfl HL.out (by omega) (Nat.le_trans hsz AL.out.size) ?_
        intro v11 w11 ho11 hg11
        obtain ⟨ga, gc, hv11⟩ := own_form ho11
        subst hv11
        have nb : ∀ k, k < q + 3 → some k ≠ (Value.slice av j cv).ownBlock := fun k hk e => by have := own_lt OWN.out e.symm; omega
        have ne2 : ∀ k, k < q + 3 → (Value.slice ga (j + 1) gc).ownBlock ≠ some k := fun k hk e => by have := own_lt ho11 e; omega
        have f11 := (hg11.block (q + 2) (lt_row F10.out) (nb _ (by omega))).trans F10.out
        have e0 := (hg11.block q (by have := AL.out.size; have h : q < wr.heap.size := lt_row R0.out; exact Nat.lt_of_lt_of_le h this) (nb _ (by omega))).trans ((AL.out.block q (lt_row R0.out)).trans R0.out)
        have e1 := (hg11.block (q + 1) (by have := AL.out.size; have h : q + 1 < wr.heap.size := lt_row R1.out; exact Nat.lt_of_lt_of_le h this) (nb _ (by omega))).trans ((AL.out.block (q + 1) (lt_row R1.out)).trans R1.out)
        have hbw10 : b < w10.heap.size := by have h : wr.heap.size ≤ w10.heap.size := AL.out.size; omega
        have s11a : w11.cell? ⟨b, o + j * 2, none⟩ = some (.int .i64 x) := (World.cell?_of_block (w := w10) (h := hg11.block b hbw10 (nb _ (by omega)))).trans SA.out.2.1
        have s11b : w11.cell? ⟨b, o + j * 2 + 1, none⟩ = some (.int .i64 y) := (World.cell?_of_block (w := w10) (h := hg11.block b hbw10 (nb _ (by omega)))).trans SA.out.2.2
        have c8q : w11.cell? ⟨q, 8, none⟩ = some (.slice (some ⟨b, o, none⟩) m c) := (cells9 e0).2.2.2.2.2.2.2.2
        have hsz11 : w10.heap.size ≤ w11.heap.size := hg11.size
        have hsz10 : wr.heap.size ≤ w10.heap.size := AL.out.size
        have c11 : Below q w w11 := (BEL.out.drew.trans ((AL.out.mono (show q ≤ wr.heap.size by omega) : Below q wr.drew w10))).trans ⟨hg11.os, hg11.tape, hg11.output, hg11.size, fun k hk => hg11.block k (by omega) (nb _ (by omega))⟩
        have FZ : w11.frozen? ⟨q + 2, 8, none⟩ = false := frozen_of_row _ _ _ _ _ f11
        have c8 := (cells9 f11).2.2.2.2.2.2.2.2
        have rs := rowSet_cell w11 (q + 2) 8 _ _ (.slice ga (j + 1) gc) f11
        have O12 := Lib.hid (ownsRow_keep ho11 (fun k hk hlt => rs.chg.block k hlt (fun e => ne2 k (by omega) hk)))
        have S11 := Lib.hid (And.intro c8q (And.intro s11a s11b))
        have S12 := Lib.hid (And.intro ((rs.chg.cell (p := ⟨q, 8, none⟩) (show q < w11.heap.size by omega) (show q ≠ q + 2 by omega)).trans c8q) (And.intro ((rs.chg.cell (p := ⟨b, o + j * 2, none⟩) (show b < w11.heap.size by omega) (show b ≠ q + 2 by omega)).trans s11a) ((rs.chg.cell (p := ⟨b, o + j * 2 + 1, none⟩) (show b < w11.heap.size by omega) (show b ≠ q + 2 by omega)).trans s11b)))
        have Z12 := Lib.hid (And.intro (rs.keep (show q ≠ q + 2 by omega) e0) (And.intro (rs.keep (show q + 1 ≠ q + 2 by omega) e1) (And.intro rs.row (And.intro (c11.trans (rs.below q (by omega))) (show q + 3 ≤ (w11.setCell ⟨q + 2, 8, none⟩ (.slice ga (j + 1) gc)).heap.size by rw [rs.size]; omega)))))
        clear f11 e0 e1 s11a s11b c8q hsz11 hsz10 c11 rs ho11 hg11
        refine hK.out _ _ S11.out (fun _ => ?_)
        clear hK K
        try simp only [Act.put, List.setIfInBounds_toArray, List.set_cons_succ, List.set_cons_zero]
        refine wpAnyH_take (i := 17) (oi := ⟨some 46, _, _, _, _, _⟩) (v := .pointer (some ⟨q + 2, 8, none⟩)) rfl (by kernel_rfl) (by kernel_rfl) (by kernel_rfl) (fun _ _ _ h => h) (Or.inl ⟨by rfl, fun w' hSw => ?_⟩) S11.out ?_
        · obtain ⟨s1, s2, s3⟩ := hSw
          go_simp
        try simp only [Act.put, List.setIfInBounds_toArray, List.set_cons_succ, List.set_cons_zero]
        refine wpAnyH_ready (rs := [18]) (by kernel_rfl) (by simp) ?_
        refine AllReadyH.cons (i := 18) rfl (fun K hK => ?_) AllReadyH.nil
        rw [if_pos (by rfl)]
        go_simp
        clear FZ c8
        generalize World.setCell _ _ _ = w12 at *
        refine hK.out _ _ S12.out (fun _ => ?_)
        clear hK K
        try simp only [Act.put, List.setIfInBounds_toArray, List.set_cons_succ, List.set_cons_zero]
        refine wpAnyH_done (by kernel_rfl) ?_ _
        clear S11 S12 SA SS
        go_wp2_with fail
        exact ⟨⟨j + 1, _, by omega, rfl, by rw [TK.out]; exact O12.out, Z12.out⟩, by simp [intOf]; omega⟩
      · rw [if_pos (by rfl)]
        go_simp
        have hl : (wr.alloc (.cells #[.int .i64 x, .int .i64 y] 50)).drew.heap[wr.heap.size]? = some (.cells #[.int .i64 x, .int .i64 y] 50 (0, 0)) := heap_alloc_last wr (.cells #[.int .i64 x, .int .i64 y] 50)
        have al0 := (Below.refl wr.heap.size wr).alloc (Nat.le_refl _) (.cells #[.int .i64 x, .int .i64 y] 50)
        have al : Below wr.heap.size wr.drew (wr.alloc (.cells #[.int .i64 x, .int .i64 y] 50)).drew := ⟨al0.os, al0.tape, al0.output, al0.size, al0.block⟩
        have ow := ownsRow_keep (w := wr.alloc (.cells #[.int .i64 x, .int .i64 y] 50)) (w' := (wr.alloc (.cells #[.int .i64 x, .int .i64 y] 50)).drew) (OWN.out.alloc (.cells #[.int .i64 x, .int .i64 y] 50)) (fun k hk hlt => rfl)
        clear al0
        generalize (World.alloc _ _).drew = w10 at *
        have AL := Lib.hid al
        have HL := Lib.hid hl
        have OW10 := Lib.hid ow
        have F10 := Lib.hid ((al.block _ (lt_row R2.out)).trans R2.out)
        have SA := Lib.hid (And.intro ((al.cell (p := ⟨q, 8, none⟩) (lt_row R0.out)).trans SS.out.1) (And.intro ((al.cell (p := ⟨b, o + j * 2, none⟩) (show b < wr.heap.size by omega)).trans SS.out.2.1) ((al.cell (p := ⟨b, o + j * 2 + 1, none⟩) (show b < wr.heap.size by omega)).trans SS.out.2.2)))
        clear al hl ow
        refine hK.out _ _ SA.out (fun _ => ?_)
        clear hK K
        try simp only [Act.put, List.setIfInBounds_toArray, List.set_cons_succ, List.set_cons_zero]
        refine wpAnyH_ready (rs := [1]) (by kernel_rfl) (by simp) ?_
        refine AllReadyH.cons (i := 1) rfl (fun K hK => ?_) AllReadyH.nil
        rw [if_pos (by rfl)]
        have c8 := (cells9 (show (World.heap w10)[q + 2]? = _ from F10.out)).2.2.2.2.2.2.2.2
        go_simp
        clear c8
        refine hK.out _ _ SA.out (fun _ => ?_)
        clear hK K
        try simp only [Act.put, List.setIfInBounds_toArray, List.set_cons_succ, List.set_cons_zero]
        refine wpAnyH_ready (rs := [16]) (by kernel_rfl) (by simp) ?_
        refine AllReadyH.cons (i := 16) rfl (fun K hK => ?_) AllReadyH.nil
        rw [if_pos (by rfl)]
        refine step_append_to (o := ⟨some 45, _, _, _, _, _⟩) _ _ rfl (q + 3) (.slice av j cv) (A.take j) j rfl OW10.out wr.heap.size x y rfl HL.out (by omega) (Nat.le_trans hsz AL.out.size) ?_
        intro v11 w11 ho11 hg11
        obtain ⟨ga, gc, hv11⟩ := own_form ho11
        subst hv11
        have nb : ∀ k, k < q + 3 → some k ≠ (Value.slice av j cv).ownBlock := fun k hk e => by have := own_lt OWN.out e.symm; omega
        have ne2 : ∀ k, k < q + 3 → (Value.slice ga (j + 1) gc).ownBlock ≠ some k := fun k hk e => by have := own_lt ho11 e; omega
        have f11 := (hg11.block (q + 2) (lt_row F10.out) (nb _ (by omega))).trans F10.out
        have e0 := (hg11.block q (by have := AL.out.size; have h : q < wr.heap.size := lt_row R0.out; exact Nat.lt_of_lt_of_le h this) (nb _ (by omega))).trans ((AL.out.block q (lt_row R0.out)).trans R0.out)
        have e1 := (hg11.block (q + 1) (by have := AL.out.size; have h : q + 1 < wr.heap.size := lt_row R1.out; exact Nat.lt_of_lt_of_le h this) (nb _ (by omega))).trans ((AL.out.block (q + 1) (lt_row R1.out)).trans R1.out)
        have hbw10 : b < w10.heap.size := by have h : wr.heap.size ≤ w10.heap.size := AL.out.size; omega
        have s11a : w11.cell? ⟨b, o + j * 2, none⟩ = some (.int .i64 x) := (World.cell?_of_block (w := w10) (h := hg11.block b hbw10 (nb _ (by omega)))).trans SA.out.2.1
        have s11b : w11.cell? ⟨b, o + j * 2 + 1, none⟩ = some (.int .i64 y) := (World.cell?_of_block (w := w10) (h := hg11.block b hbw10 (nb _ (by omega)))).trans SA.out.2.2
        have c8q : w11.cell? ⟨q, 8, none⟩ = some (.slice (some ⟨b, o, none⟩) m c) := (cells9 e0).2.2.2.2.2.2.2.2
        have hsz11 : w10.heap.size ≤ w11.heap.size := hg11.size
        have hsz10 : wr.heap.size ≤ w10.heap.size := AL.out.size
        have c11 : Below q w w11 := (BEL.out.drew.trans ((AL.out.mono (show q ≤ wr.heap.size by omega) : Below q wr.drew w10))).trans ⟨hg11.os, hg11.tape, hg11.output, hg11.size, fun k hk => hg11.block k (by omega) (nb _ (by omega))⟩
        have FZ : w11.frozen? ⟨q + 2, 8, none⟩ = false := frozen_of_row _ _ _ _ _ f11
        have c8 := (cells9 f11).2.2.2.2.2.2.2.2
        have rs := rowSet_cell w11 (q + 2) 8 _ _ (.slice ga (j + 1) gc) f11
        have O12 := Lib.hid (ownsRow_keep ho11 (fun k hk hlt => rs.chg.block k hlt (fun e => ne2 k (by omega) hk)))
        have S11 := Lib.hid (And.intro c8q (And.intro s11a s11b))
        have S12 := Lib.hid (And.intro ((rs.chg.cell (p := ⟨q, 8, none⟩) (show q < w11.heap.size by omega) (show q ≠ q + 2 by omega)).trans c8q) (And.intro ((rs.chg.cell (p := ⟨b, o + j * 2, none⟩) (show b < w11.heap.size by omega) (show b ≠ q + 2 by omega)).trans s11a) ((rs.chg.cell (p := ⟨b, o + j * 2 + 1, none⟩) (show b < w11.heap.size by omega) (show b ≠ q + 2 by omega)).trans s11b)))
        have Z12 := Lib.hid (And.intro (rs.keep (show q ≠ q + 2 by omega) e0) (And.intro (rs.keep (show q + 1 ≠ q + 2 by omega) e1) (And.intro rs.row (And.intro (c11.trans (rs.below q (by omega))) (show q + 3 ≤ (w11.setCell ⟨q + 2, 8, none⟩ (.slice ga (j + 1) gc)).heap.size by rw [rs.size]; omega)))))
        clear f11 e0 e1 s11a s11b c8q hsz11 hsz10 c11 rs ho11 hg11
        refine hK.out _ _ S11.out (fun _ => ?_)
        clear hK K
        try simp only [Act.put, List.setIfInBounds_toArray, List.set_cons_succ, List.set_cons_zero]
        refine wpAnyH_take (i := 17) (oi := ⟨some 46, _, _, _, _, _⟩) (v := .pointer (some ⟨q + 2, 8, none⟩)) rfl (by kernel_rfl) (by kernel_rfl) (by kernel_rfl) (fun _ _ _ h => h) (Or.inl ⟨by rfl, fun w' hSw => ?_⟩) S11.out ?_
        · obtain ⟨s1, s2, s3⟩ := hSw
          go_simp
        try simp only [Act.put, List.setIfInBounds_toArray, List.set_cons_succ, List.set_cons_zero]
        refine wpAnyH_ready (rs := [18]) (by kernel_rfl) (by simp) ?_
        refine AllReadyH.cons (i := 18) rfl (fun K hK => ?_) AllReadyH.nil
        rw [if_pos (by rfl)]
        go_simp
        clear FZ c8
        generalize World.setCell _ _ _ = w12 at *
        refine hK.out _ _ S12.out (fun _ => ?_)
        clear hK K
        try simp only [Act.put, List.setIfInBounds_toArray, List.set_cons_succ, List.set_cons_zero]
        refine wpAnyH_done (by kernel_rfl) ?_ _
        clear S11 S12 SA SS
        go_wp2_with fail
        exact ⟨⟨j + 1, _, by omega, rfl, by rw [TK.out]; exact O12.out, Z12.out⟩, by simp [intOf]; omega⟩
    · obtain rfl : j = m := by omega
      have hjI : ¬ (j : Int) < (j : Int) := by omega
      obtain ⟨c0, c1, c2, c3, c4, c5, c6, c7, c8⟩ := cells9 R0.out
      obtain ⟨d0, d1, d2, d3, d4, d5, d6, d7, d8⟩ := cells9 R2.out
      have SP := Lib.hid (spans_of HM.out.symm (by have h := OWN.out; rw [List.take_of_length_le (Nat.le_of_eq HM.out)] at h; exact h) : SpansIn wr (.slice av j cv) A)
      go_wp2_with (first
        | (refine wpList_store_row (op := ⟨none, .store 33 _ _, _, _, _, _⟩) rfl 33 _ _ rfl (q + 1) 33 _ (frC K S O N C F D X (.slice av j cv)) rfl rfl R1.out rfl (by kernel_rfl) (frC_one _ _ _ _ _ _ _ _ _ _ _) ?_
           intro w9 rs
           have RS9 := Lib.hid rs
           clear rs)
        | fail)
      refine ret_row (q + 1) 33 33 (frC K S O N C F D X (.slice av j cv)) rfl _ rfl RS9.out.row Tryd.underlying33 rfl (by kernel_rfl) rfl ?_
      refine ⟨_, rfl, ?_, by rw [HQ.out]; exact BEL.out.trans (RS9.out.below _ (Nat.le_succ _))⟩
      have ne1 : (Value.slice av j cv).ownBlock ≠ some (q + 1) := fun e => by have := own_lt OWN.out e; omega
      have h := OWN.out
      rw [List.take_of_length_le (Nat.le_of_eq HM.out)] at h
      refine spans_of (B := q + 3) (T := 50) HM.out.symm ?_
      exact ownsRow_keep h (fun k hk hlt => RS9.out.chg.block k hlt (fun e => ne1 (e ▸ hk)))
theorem info_from : ∃ i0, Tryd.prog.info? 54 = some i0 ∧ i0.zero = some (.agg #[.int .i64 0, .int .i64 0]) ∧ i0.size = 2 ∧ i0.bytes = 16 := by
  have h : (Tryd.prog.info? 54).map (fun i => (i.zero, i.size, i.bytes)) = some (some (.agg #[.int .i64 0, .int .i64 0]), 2, 16) := by kernel_rfl
  cases hq : Tryd.prog.info? 54 with
  | none => rw [hq] at h; cases h
  | some i =>
    rw [hq] at h
    simp only [Option.map_some, Option.some.injEq, Prod.mk.injEq] at h
    exact ⟨i, rfl, h.1, h.2.1, h.2.2⟩
theorem step_append_from {o : Oper} {a : Act} {w : World} {K : Act → World → Prop} {Q : Exit → Act → World → Prop} (s x : Operand)
    (ho : o.op = .call { callee := .builtin .append, args := #[s, x], argTypes := #[22, 22] })
    (B : Nat) (v : Value) (A : List (Int × Int)) (n : Nat) (hs : a.eval s = v) (hown : w.ownsRow B 54 2 v n (spC A)) (g : Nat) (y1 y2 : Int) (hx : a.eval x = .slice (some ⟨g, 0, none⟩) 1 1)
    (hg : w.heap[g]? = some (.cells #[.int .i64 y1, .int .i64 y2] 54 (0, 0))) (hA : n ≤ 10000000000000) (hbase : B ≤ w.heap.size)
    (h : ∀ v' w', w'.ownsRow B 54 2 v' (n + 1) (spC (A ++ [(y1, y2)])) → w.grownBy w' v.ownBlock → K (a.put o.dst v') w') : o.wp Tryd.prog a w K Q := by
  obtain ⟨i0, hi0, hz0, hz1, hz2⟩ := info_from
  have news : ∀ j u, ([.int .i64 y1, .int .i64 y2] : List Value)[j]? = some u → w.cell? (Addr.add ⟨g, 0, none⟩ j) = some u := fun j u hj => by
    rw [show Addr.add ⟨g, 0, none⟩ j = ⟨g, j, none⟩ by simp [Addr.add]; exact fun h => h.symm]
    rw [cell_of_row _ _ _ _ _ _ hg]
    simpa using hj
  refine wp_append_own_wide w s x 22 ho B 54 i0 _ 2 16 Tryd.underlying22 hi0 hz0 hz1 hz2 rfl (by decide) v n _ hs hown ⟨g, 0, none⟩ 1 1 _ hx rfl news (List.all_eq_true.mp rfl) (by unfold maxLen; omega) (by omega) hbase ?_
  intro v' w' h1 h2 _
  exact h v' w' (by rw [spC_snoc]; exact h1) h2
set_option maxHeartbeats 16000000 in
theorem from_any (K S O N C : Int) (F : Bool) (D X : ByteArray) (u : Value) (A : List (Int × Int)) (w : World) (hu : SpansIn w u A) (hn : A.length ≤ 10000000000000) :
    Calls Tryd.prog 15 #[.agg (frC K S O N C F D X u)] w fun e w' => ∃ v, e = .returned (.agg (frC K S O N C F D X v)) ∧ SpansIn w' v A ∧ Below w.heap.size w w' := by
  obtain ⟨a, c, rfl, hc, hat⟩ := hu.at_
  obtain ⟨m, hm⟩ : ∃ m, A.length = m := ⟨_, rfl⟩
  rw [hm] at hn hc ⊢
  have HM := Lib.hid hm
  have HAT := Lib.hid hat
  have hm63 : m ≤ 9223372036854775807 := by omega
  clear hm hat hu hc
  unfold frC
  go_enter Tryd.func15, Tryd.ntmps15
  go_upto_region 1 with (first
    | (refine wpList_alloc_row (o := ⟨some 2, .alloc 24, _, _, _, _⟩) rfl 24 rfl _ rfr_zero ?_)
    | fail)
  have r0 := rows_alloc w [.cells (frC K S O N C F D X (.slice a m c)) 33, .cells (frC 0 0 0 0 0 false ⟨#[]⟩ ⟨#[]⟩ (.slice none 0 0)) 24] 0
  have r1 := rows_alloc w [.cells (frC K S O N C F D X (.slice a m c)) 33, .cells (frC 0 0 0 0 0 false ⟨#[]⟩ ⟨#[]⟩ (.slice none 0 0)) 24] 1
  have bel : Below w.heap.size w ((w.alloc (.cells (frC K S O N C F D X (.slice a m c)) 33)).alloc (.cells (frC 0 0 0 0 0 false ⟨#[]⟩ ⟨#[]⟩ (.slice none 0 0)) 24)) := ((Below.refl w.heap.size w).alloc (Nat.le_refl _) _).alloc (by simp) _
  have hs1 : (w.alloc (.cells (frC K S O N C F D X (.slice a m c)) 33)).heap.size = w.heap.size + 1 := by simp
  have hs2 : ((w.alloc (.cells (frC K S O N C F D X (.slice a m c)) 33)).alloc (.cells (frC 0 0 0 0 0 false ⟨#[]⟩ ⟨#[]⟩ (.slice none 0 0)) 24)).heap.size = w.heap.size + 2 := by simp
  simp only [List.foldl_cons, List.foldl_nil, Nat.add_zero] at r0 r1
  have RB := Lib.hid bel
  rw [show (w.alloc (.cells #[.int .i64 K, .int .i64 S, .int .i64 O, .int .i64 N, .int .i64 C, .bool F, .string D, .string X, .slice a m c] 33)) = (w.alloc (.cells (frC K S O N C F D X (.slice a m c)) 33)) from rfl]
  try rw [hs1]
  generalize World.alloc _ _ = w1 at *
  obtain ⟨c0, c1, c2, c3, c4, c5, c6, c7, c8⟩ := cells9 r0
  have R1 := Lib.hid r1
  clear r1 bel hs1
  have row2 := heap_alloc_last w1 (.cells #[.int .i64 K, .int .i64 S, .int .i64 O, .int .i64 N, .int .i64 C, .bool F, .string D, .string X, .slice none 0 0] 24)
  have bel2 := (Below.refl w1.heap.size w1).alloc (Nat.le_refl _) (.cells #[.int .i64 K, .int .i64 S, .int .i64 O, .int .i64 N, .int .i64 C, .bool F, .string D, .string X, .slice none 0 0] 24)
  have hs3 : (w1.alloc (.cells #[.int .i64 K, .int .i64 S, .int .i64 O, .int .i64 N, .int .i64 C, .bool F, .string D, .string X, .slice none 0 0] 24)).heap.size = w1.heap.size + 1 := by simp
  go_upto_region 3 with (fail)
  rw [hs2] at row2 hs3
  try rw [hs2]
  generalize w1.alloc _ = w2 at *
  obtain ⟨q, hq⟩ : ∃ q, w.heap.size = q := ⟨_, rfl⟩
  rw [hq] at r0 RB R1 row2 hs2 hs3 ⊢
  have HQ := Lib.hid hq
  have hb2 : Below q w w2 := RB.out.trans (bel2.mono (by omega))
  have I0 := Lib.hid (show w2.ownsRow (q + 3) 54 2 (.slice none 0 0) 0 (spC (A.take 0)) from World.ownsRow_nil w2 (q + 3) 54 2)
  have J0 := Lib.hid (And.intro ((bel2.block _ (lt_row r0)).trans r0) (And.intro ((bel2.block _ (lt_row R1.out)).trans R1.out) (And.intro row2 (And.intro hb2 (show q + 3 ≤ w2.heap.size by omega)))))
  clear c0 c1 c2 c3 c4 c5 c6 c7 c8 bel2 r0 R1 RB row2 hs2 hs3 hb2 hq
  go_loopw [4] (fun s4 wr => ∃ (j : Nat) (v : Value), j ≤ m ∧ s4 = .int .i64 (j : Int) ∧ wr.ownsRow (q + 3) 54 2 v j (spC (A.take j)) ∧ wr.heap[q]? = some (.cells (frC K S O N C F D X (.slice a m c)) 33 (0, 0)) ∧ wr.heap[q + 1]? = some (.cells (frC 0 0 0 0 0 false ⟨#[]⟩ ⟨#[]⟩ (.slice none 0 0)) 24 (0, 0)) ∧ wr.heap[q + 2]? = some (.cells (frC K S O N C F D X v) 24 (0, 0)) ∧ Below q w wr ∧ q + 3 ≤ wr.heap.size) (fun s4 _ => m - (intOf s4).toNat)
  case atStart => exact ⟨0, .slice none 0 0, by omega, rfl, I0.out, J0.out⟩
  case round =>
    obtain ⟨j, v, hj, rfl, hown, h0, h1, h2, hbel, hsz⟩ := hrel
    obtain ⟨av, cv, rfl⟩ := own_form hown
    have OWN := Lib.hid hown
    have R0 := Lib.hid h0
    have R1 := Lib.hid h1
    have R2 := Lib.hid h2
    have BEL := Lib.hid hbel
    clear hown h0 h1 h2 hbel I0 J0
    by_cases hjm : j < m
    · have hjI : (j : Int) < (m : Int) := by omega
      have hj0 : (0 : Int) ≤ (j : Int) := by omega
      obtain h0 | ⟨b, o, rfl, hbl, hcell⟩ := HAT.out
      · rw [h0] at HM; have := HM.out; simp at this; omega
      obtain ⟨hx, hy⟩ := hcell j (by rw [HM.out]; exact hjm)
      have tk := spC_take A j (by rw [HM.out]; exact hjm)
      obtain ⟨x, hxe⟩ : ∃ x, (A[j]'(by rw [HM.out]; exact hjm)).1 = x := ⟨_, rfl⟩
      obtain ⟨y, hye⟩ : ∃ y, (A[j]'(by rw [HM.out]; exact hjm)).2 = y := ⟨_, rfl⟩
      rw [hxe] at hx
      rw [hye] at hy
      rw [show A[j]'(by rw [HM.out]; exact hjm) = (x, y) from by rw [← hxe, ← hye]] at tk
      have TK := Lib.hid tk
      rw [HQ.out] at hbl
      have cx := (BEL.out.cell (p := ⟨b, o + j * 2, none⟩) hbl).trans hx
      have cy := (BEL.out.cell (p := ⟨b, o + j * 2 + 1, none⟩) hbl).trans hy
      have c8 := (cells9 R0.out).2.2.2.2.2.2.2.2
      have hbq : b < q := hbl
      have SS := Lib.hid (show wr.drew.cell? ⟨q, 8, none⟩ = some (.slice (some ⟨b, o, none⟩) m c) ∧ wr.drew.cell? ⟨b, o + j * 2, none⟩ = some (.int .i64 x) ∧ wr.drew.cell? ⟨b, o + j * 2 + 1, none⟩ = some (.int .i64 y) from ⟨c8, cx, cy⟩)
      clear hx hy tk hxe hye hcell cx cy
      go_upto_region 5 with (fail)
      clear c8
      have HS : Hid ((fun w' : World => w'.cell? ⟨q, 8, none⟩ = some (.slice (some ⟨b, o, none⟩) m c) ∧ w'.cell? ⟨b, o + j * 2, none⟩ = some (.int .i64 x) ∧ w'.cell? ⟨b, o + j * 2 + 1, none⟩ = some (.int .i64 y)) wr.drew) := Lib.hid SS.out
      refine wp_region_held_drew (S := fun w' : World => w'.cell? ⟨q, 8, none⟩ = some (.slice (some ⟨b, o, none⟩) m c) ∧ w'.cell? ⟨b, o + j * 2, none⟩ = some (.int .i64 x) ∧ w'.cell? ⟨b, o + j * 2 + 1, none⟩ = some (.int .i64 y)) mixedOrders HS.out (fun hHeld => ?_)
      clear hHeld
      refine wpAnyH_take (i := 0) (oi := ⟨some 29, _, _, _, _, _⟩) (v := .pointer (some ⟨q + 2, 8, none⟩)) rfl (by kernel_rfl) (by kernel_rfl) (by kernel_rfl) (fun _ _ _ h => h) (Or.inl ⟨by rfl, fun w' hSw => ?_⟩) HS.out ?_
      · obtain ⟨s1, s2, s3⟩ := hSw
        go_simp
      try simp only [Act.put, List.setIfInBounds_toArray, List.set_cons_succ, List.set_cons_zero]
      refine wpAnyH_take (i := 2) (oi := ⟨some 31, _, _, _, _, _⟩) (v := .pointer (some ⟨q, 8, none⟩)) rfl (by kernel_rfl) (by kernel_rfl) (by kernel_rfl) (fun _ _ _ h => h) (Or.inl ⟨by rfl, fun w' hSw => ?_⟩) HS.out ?_
      · obtain ⟨s1, s2, s3⟩ := hSw
        go_simp
      try simp only [Act.put, List.setIfInBounds_toArray, List.set_cons_succ, List.set_cons_zero]
      refine wpAnyH_take (i := 3) (oi := ⟨some 32, _, _, _, _, _⟩) (v := .slice (some ⟨b, o, none⟩) m c) rfl (by kernel_rfl) (by kernel_rfl) (by kernel_rfl) (fun _ _ _ h => h) (Or.inl ⟨by rfl, fun w' hSw => ?_⟩) HS.out ?_
      · obtain ⟨s1, s2, s3⟩ := hSw
        go_simp
      try simp only [Act.put, List.setIfInBounds_toArray, List.set_cons_succ, List.set_cons_zero]
      refine wpAnyH_take (i := 4) (oi := ⟨some 33, _, _, _, _, _⟩) (v := .int .i64 (j : Int)) rfl (by kernel_rfl) (by kernel_rfl) (by kernel_rfl) (fun _ _ _ h => h) (Or.inl ⟨by rfl, fun w' hSw => ?_⟩) HS.out ?_
      · obtain ⟨s1, s2, s3⟩ := hSw
        go_simp
      try simp only [Act.put, List.setIfInBounds_toArray, List.set_cons_succ, List.set_cons_zero]
      refine wpAnyH_take (i := 5) (oi := ⟨some 34, _, _, _, _, _⟩) (v := .pointer (some ⟨b, o + j * 2, none⟩)) rfl (by kernel_rfl) (by kernel_rfl) (by kernel_rfl) (fun _ _ _ h => h) (Or.inl ⟨by rfl, fun w' hSw => ?_⟩) HS.out ?_
      · obtain ⟨s1, s2, s3⟩ := hSw
        go_simp
      try simp only [Act.put, List.setIfInBounds_toArray, List.set_cons_succ, List.set_cons_zero]
      refine wpAnyH_take (i := 6) (oi := ⟨some 35, _, _, _, _, _⟩) (v := .pointer (some ⟨b, o + j * 2, none⟩)) rfl (by kernel_rfl) (by kernel_rfl) (by kernel_rfl) (fun _ _ _ h => h) (Or.inl ⟨by rfl, fun w' hSw => ?_⟩) HS.out ?_
      · obtain ⟨s1, s2, s3⟩ := hSw
        go_simp
      try simp only [Act.put, List.setIfInBounds_toArray, List.set_cons_succ, List.set_cons_zero]
      refine wpAnyH_take (i := 7) (oi := ⟨some 36, _, _, _, _, _⟩) (v := .int .i64 x) rfl (by kernel_rfl) (by kernel_rfl) (by kernel_rfl) (fun _ _ _ h => h) (Or.inl ⟨by rfl, fun w' hSw => ?_⟩) HS.out ?_
      · obtain ⟨s1, s2, s3⟩ := hSw
        go_simp
      try simp only [Act.put, List.setIfInBounds_toArray, List.set_cons_succ, List.set_cons_zero]
      refine wpAnyH_take (i := 8) (oi := ⟨some 37, _, _, _, _, _⟩) (v := .pointer (some ⟨q, 8, none⟩)) rfl (by kernel_rfl) (by kernel_rfl) (by kernel_rfl) (fun _ _ _ h => h) (Or.inl ⟨by rfl, fun w' hSw => ?_⟩) HS.out ?_
      · obtain ⟨s1, s2, s3⟩ := hSw
        go_simp
      try simp only [Act.put, List.setIfInBounds_toArray, List.set_cons_succ, List.set_cons_zero]
      refine wpAnyH_take (i := 9) (oi := ⟨some 38, _, _, _, _, _⟩) (v := .slice (some ⟨b, o, none⟩) m c) rfl (by kernel_rfl) (by kernel_rfl) (by kernel_rfl) (fun _ _ _ h => h) (Or.inl ⟨by rfl, fun w' hSw => ?_⟩) HS.out ?_
      · obtain ⟨s1, s2, s3⟩ := hSw
        go_simp
      try simp only [Act.put, List.setIfInBounds_toArray, List.set_cons_succ, List.set_cons_zero]
      refine wpAnyH_take (i := 10) (oi := ⟨some 39, _, _, _, _, _⟩) (v := .int .i64 (j : Int)) rfl (by kernel_rfl) (by kernel_rfl) (by kernel_rfl) (fun _ _ _ h => h) (Or.inl ⟨by rfl, fun w' hSw => ?_⟩) HS.out ?_
      · obtain ⟨s1, s2, s3⟩ := hSw
        go_simp
      try simp only [Act.put, List.setIfInBounds_toArray, List.set_cons_succ, List.set_cons_zero]
      refine wpAnyH_take (i := 11) (oi := ⟨some 40, _, _, _, _, _⟩) (v := .pointer (some ⟨b, o + j * 2, none⟩)) rfl (by kernel_rfl) (by kernel_rfl) (by kernel_rfl) (fun _ _ _ h => h) (Or.inl ⟨by rfl, fun w' hSw => ?_⟩) HS.out ?_
      · obtain ⟨s1, s2, s3⟩ := hSw
        go_simp
      try simp only [Act.put, List.setIfInBounds_toArray, List.set_cons_succ, List.set_cons_zero]
      refine wpAnyH_take (i := 12) (oi := ⟨some 41, _, _, _, _, _⟩) (v := .pointer (some ⟨b, o + j * 2 + 1, none⟩)) rfl (by kernel_rfl) (by kernel_rfl) (by kernel_rfl) (fun _ _ _ h => h) (Or.inl ⟨by rfl, fun w' hSw => ?_⟩) HS.out ?_
      · obtain ⟨s1, s2, s3⟩ := hSw
        go_simp
      try simp only [Act.put, List.setIfInBounds_toArray, List.set_cons_succ, List.set_cons_zero]
      refine wpAnyH_take (i := 13) (oi := ⟨some 42, _, _, _, _, _⟩) (v := .int .i64 y) rfl (by kernel_rfl) (by kernel_rfl) (by kernel_rfl) (fun _ _ _ h => h) (Or.inl ⟨by rfl, fun w' hSw => ?_⟩) HS.out ?_
      · obtain ⟨s1, s2, s3⟩ := hSw
        go_simp
      try simp only [Act.put, List.setIfInBounds_toArray, List.set_cons_succ, List.set_cons_zero]
      refine wpAnyH_take (i := 14) (oi := ⟨some 43, _, _, _, _, _⟩) (v := .agg #[.int .i64 x, .int .i64 y]) rfl (by kernel_rfl) (by kernel_rfl) (by kernel_rfl) (fun _ _ _ h => h) (Or.inl ⟨by rfl, fun w' hSw => ?_⟩) HS.out ?_
      · obtain ⟨s1, s2, s3⟩ := hSw
        go_simp
      try simp only [Act.put, List.setIfInBounds_toArray, List.set_cons_succ, List.set_cons_zero]
      refine wpAnyH_ready (rs := [1, 15]) (by kernel_rfl) (by simp) ?_
      refine AllReadyH.cons (i := 1) rfl (fun K hK => ?_) (AllReadyH.cons (i := 15) rfl (fun K hK => ?_) AllReadyH.nil)
      · rw [if_pos (by rfl)]
        have c8 := (cells9 (show (World.heap wr.drew)[q + 2]? = _ from R2.out)).2.2.2.2.2.2.2.2
        go_simp
        clear c8
        refine hK.out _ _ SS.out (fun _ => ?_)
        clear hK K
        try simp only [Act.put, List.setIfInBounds_toArray, List.set_cons_succ, List.set_cons_zero]
        refine wpAnyH_ready (rs := [15]) (by kernel_rfl) (by simp) ?_
        refine AllReadyH.cons (i := 15) rfl (fun K hK => ?_) AllReadyH.nil
        rw [if_pos (by rfl)]
        go_simp
        have hl : (wr.alloc (.cells #[.int .i64 x, .int .i64 y] 54)).drew.heap[wr.heap.size]? = some (.cells #[.int .i64 x, .int .i64 y] 54 (0, 0)) := heap_alloc_last wr (.cells #[.int .i64 x, .int .i64 y] 54)
        have al0 := (Below.refl wr.heap.size wr).alloc (Nat.le_refl _) (.cells #[.int .i64 x, .int .i64 y] 54)
        have al : Below wr.heap.size wr.drew (wr.alloc (.cells #[.int .i64 x, .int .i64 y] 54)).drew := ⟨al0.os, al0.tape, al0.output, al0.size, al0.block⟩
        have ow := ownsRow_keep (w := wr.alloc (.cells #[.int .i64 x, .int .i64 y] 54)) (w' := (wr.alloc (.cells #[.int .i64 x, .int .i64 y] 54)).drew) (OWN.out.alloc (.cells #[.int .i64 x, .int .i64 y] 54)) (fun k hk hlt => rfl)
        clear al0
        generalize (World.alloc _ _).drew = w10 at *
        have AL := Lib.hid al
        have HL := Lib.hid hl
        have OW10 := Lib.hid ow
        have F10 := Lib.hid ((al.block _ (lt_row R2.out)).trans R2.out)
        have SA := Lib.hid (And.intro ((al.cell (p := ⟨q, 8, none⟩) (lt_row R0.out)).trans SS.out.1) (And.intro ((al.cell (p := ⟨b, o + j * 2, none⟩) (show b < wr.heap.size by omega)).trans SS.out.2.1) ((al.cell (p := ⟨b, o + j * 2 + 1, none⟩) (show b < wr.heap.size by omega)).trans SS.out.2.2)))
        clear al hl ow
        refine hK.out _ _ SA.out (fun _ => ?_)
        clear hK K
        try simp only [Act.put, List.setIfInBounds_toArray, List.set_cons_succ, List.set_cons_zero]
        refine wpAnyH_ready (rs := [16]) (by kernel_rfl) (by simp) ?_
        refine AllReadyH.cons (i := 16) rfl (fun K hK => ?_) AllReadyH.nil
        rw [if_pos (by rfl)]
        refine step_append_from (o := ⟨some 45, _, _, _, _, _⟩) _ _ rfl (q + 3) (.slice av j cv) (A.take j) j rfl OW10.out wr.heap.size x y rfl HL.out (by omega) (Nat.le_trans hsz AL.out.size) ?_
        intro v11 w11 ho11 hg11
        obtain ⟨ga, gc, hv11⟩ := own_form ho11
        subst hv11
        have nb : ∀ k, k < q + 3 → some k ≠ (Value.slice av j cv).ownBlock := fun k hk e => by have := own_lt OWN.out e.symm; omega
        have ne2 : ∀ k, k < q + 3 → (Value.slice ga (j + 1) gc).ownBlock ≠ some k := fun k hk e => by have := own_lt ho11 e; omega
        have f11 := (hg11.block (q + 2) (lt_row F10.out) (nb _ (by omega))).trans F10.out
        have e0 := (hg11.block q (by have := AL.out.size; have h : q < wr.heap.size := lt_row R0.out; exact Nat.lt_of_lt_of_le h this) (nb _ (by omega))).trans ((AL.out.block q (lt_row R0.out)).trans R0.out)
        have e1 := (hg11.block (q + 1) (by have := AL.out.size; have h : q + 1 < wr.heap.size := lt_row R1.out; exact Nat.lt_of_lt_of_le h this) (nb _ (by omega))).trans ((AL.out.block (q + 1) (lt_row R1.out)).trans R1.out)
        have hbw10 : b < w10.heap.size := by have h : wr.heap.size ≤ w10.heap.size := AL.out.size; omega
        have s11a : w11.cell? ⟨b, o + j * 2, none⟩ = some (.int .i64 x) := (World.cell?_of_block (w := w10) (h := hg11.block b hbw10 (nb _ (by omega)))).trans SA.out.2.1
        have s11b : w11.cell? ⟨b, o + j * 2 + 1, none⟩ = some (.int .i64 y) := (World.cell?_of_block (w := w10) (h := hg11.block b hbw10 (nb _ (by omega)))).trans SA.out.2.2
        have c8q : w11.cell? ⟨q, 8, none⟩ = some (.slice (some ⟨b, o, none⟩) m c) := (cells9 e0).2.2.2.2.2.2.2.2
        have hsz11 : w10.heap.size ≤ w11.heap.size := hg11.size
        have hsz10 : wr.heap.size ≤ w10.heap.size := AL.out.size
        have c11 : Below q w w11 := (BEL.out.drew.trans ((AL.out.mono (show q ≤ wr.heap.size by omega) : Below q wr.drew w10))).trans ⟨hg11.os, hg11.tape, hg11.output, hg11.size, fun k hk => hg11.block k (by omega) (nb _ (by omega))⟩
        have FZ : w11.frozen? ⟨q + 2, 8, none⟩ = false := frozen_of_row _ _ _ _ _ f11
        have c8 := (cells9 f11).2.2.2.2.2.2.2.2
        have rs := rowSet_cell w11 (q + 2) 8 _ _ (.slice ga (j + 1) gc) f11
        have O12 := Lib.hid (ownsRow_keep ho11 (fun k hk hlt => rs.chg.block k hlt (fun e => ne2 k (by omega) hk)))
        have S11 := Lib.hid (And.intro c8q (And.intro s11a s11b))
        have S12 := Lib.hid (And.intro ((rs.chg.cell (p := ⟨q, 8, none⟩) (show q < w11.heap.size by omega) (show q ≠ q + 2 by omega)).trans c8q) (And.intro ((rs.chg.cell (p := ⟨b, o + j * 2, none⟩) (show b < w11.heap.size by omega) (show b ≠ q + 2 by omega)).trans s11a) ((rs.chg.cell (p := ⟨b, o + j * 2 + 1, none⟩) (show b < w11.heap.size by omega) (show b ≠ q + 2 by omega)).trans s11b)))
        have Z12 := Lib.hid (And.intro (rs.keep (show q ≠ q + 2 by omega) e0) (And.intro (rs.keep (show q + 1 ≠ q + 2 by omega) e1) (And.intro rs.row (And.intro (c11.trans (rs.below q (by omega))) (show q + 3 ≤ (w11.setCell ⟨q + 2, 8, none⟩ (.slice ga (j + 1) gc)).heap.size by rw [rs.size]; omega)))))
        clear f11 e0 e1 s11a s11b c8q hsz11 hsz10 c11 rs ho11 hg11
        refine hK.out _ _ S11.out (fun _ => ?_)
        clear hK K
        try simp only [Act.put, List.setIfInBounds_toArray, List.set_cons_succ, List.set_cons_zero]
        refine wpAnyH_take (i := 17) (oi := ⟨some 46, _, _, _, _, _⟩) (v := .pointer (some ⟨q + 2, 8, none⟩)) rfl (by kernel_rfl) (by kernel_rfl) (by kernel_rfl) (fun _ _ _ h => h) (Or.inl ⟨by rfl, fun w' hSw => ?_⟩) S11.out ?_
        · obtain ⟨s1, s2, s3⟩ := hSw
          go_simp
        try simp only [Act.put, List.setIfInBounds_toArray, List.set_cons_succ, List.set_cons_zero]
        refine wpAnyH_ready (rs := [18]) (by kernel_rfl) (by simp) ?_
        refine AllReadyH.cons (i := 18) rfl (fun K hK => ?_) AllReadyH.nil
        rw [if_pos (by rfl)]
        go_simp
        clear FZ c8
        generalize World.setCell _ _ _ = w12 at *
        refine hK.out _ _ S12.out (fun _ => ?_)
        clear hK K
        try simp only [Act.put, List.setIfInBounds_toArray, List.set_cons_succ, List.set_cons_zero]
        refine wpAnyH_done (by kernel_rfl) ?_ _
        clear S11 S12 SA SS
        go_wp2_with fail
        exact ⟨⟨j + 1, _, by omega, rfl, by rw [TK.out]; exact O12.out, Z12.out⟩, by simp [intOf]; omega⟩
      · rw [if_pos (by rfl)]
        go_simp
        have hl : (wr.alloc (.cells #[.int .i64 x, .int .i64 y] 54)).drew.heap[wr.heap.size]? = some (.cells #[.int .i64 x, .int .i64 y] 54 (0, 0)) := heap_alloc_last wr (.cells #[.int .i64 x, .int .i64 y] 54)
        have al0 := (Below.refl wr.heap.size wr).alloc (Nat.le_refl _) (.cells #[.int .i64 x, .int .i64 y] 54)
        have al : Below wr.heap.size wr.drew (wr.alloc (.cells #[.int .i64 x, .int .i64 y] 54)).drew := ⟨al0.os, al0.tape, al0.output, al0.size, al0.block⟩
        have ow := ownsRow_keep (w := wr.alloc (.cells #[.int .i64 x, .int .i64 y] 54)) (w' := (wr.alloc (.cells #[.int .i64 x, .int .i64 y] 54)).drew) (OWN.out.alloc (.cells #[.int .i64 x, .int .i64 y] 54)) (fun k hk hlt => rfl)
        clear al0
        generalize (World.alloc _ _).drew = w10 at *
        have AL := Lib.hid al
        have HL := Lib.hid hl
        have OW10 := Lib.hid ow
        have F10 := Lib.hid ((al.block _ (lt_row R2.out)).trans R2.out)
        have SA := Lib.hid (And.intro ((al.cell (p := ⟨q, 8, none⟩) (lt_row R0.out)).trans SS.out.1) (And.intro ((al.cell (p := ⟨b, o + j * 2, none⟩) (show b < wr.heap.size by omega)).trans SS.out.2.1) ((al.cell (p := ⟨b, o + j * 2 + 1, none⟩) (show b < wr.heap.size by omega)).trans SS.out.2.2)))
        clear al hl ow
        refine hK.out _ _ SA.out (fun _ => ?_)
        clear hK K
        try simp only [Act.put, List.setIfInBounds_toArray, List.set_cons_succ, List.set_cons_zero]
        refine wpAnyH_ready (rs := [1]) (by kernel_rfl) (by simp) ?_
        refine AllReadyH.cons (i := 1) rfl (fun K hK => ?_) AllReadyH.nil
        rw [if_pos (by rfl)]
        have c8 := (cells9 (show (World.heap w10)[q + 2]? = _ from F10.out)).2.2.2.2.2.2.2.2
        go_simp
        clear c8
        refine hK.out _ _ SA.out (fun _ => ?_)
        clear hK K
        try simp only [Act.put, List.setIfInBounds_toArray, List.set_cons_succ, List.set_cons_zero]
        refine wpAnyH_ready (rs := [16]) (by kernel_rfl) (by simp) ?_
        refine AllReadyH.cons (i := 16) rfl (fun K hK => ?_) AllReadyH.nil
        rw [if_pos (by rfl)]
        refine step_append_from (o := ⟨some 45, _, _, _, _, _⟩) _ _ rfl (q + 3) (.slice av j cv) (A.take j) j rfl OW10.out wr.heap.size x y rfl HL.out (by omega) (Nat.le_trans hsz AL.out.size) ?_
        intro v11 w11 ho11 hg11
        obtain ⟨ga, gc, hv11⟩ := own_form ho11
        subst hv11
        have nb : ∀ k, k < q + 3 → some k ≠ (Value.slice av j cv).ownBlock := fun k hk e => by have := own_lt OWN.out e.symm; omega
        have ne2 : ∀ k, k < q + 3 → (Value.slice ga (j + 1) gc).ownBlock ≠ some k := fun k hk e => by have := own_lt ho11 e; omega
        have f11 := (hg11.block (q + 2) (lt_row F10.out) (nb _ (by omega))).trans F10.out
        have e0 := (hg11.block q (by have := AL.out.size; have h : q < wr.heap.size := lt_row R0.out; exact Nat.lt_of_lt_of_le h this) (nb _ (by omega))).trans ((AL.out.block q (lt_row R0.out)).trans R0.out)
        have e1 := (hg11.block (q + 1) (by have := AL.out.size; have h : q + 1 < wr.heap.size := lt_row R1.out; exact Nat.lt_of_lt_of_le h this) (nb _ (by omega))).trans ((AL.out.block (q + 1) (lt_row R1.out)).trans R1.out)
        have hbw10 : b < w10.heap.size := by have h : wr.heap.size ≤ w10.heap.size := AL.out.size; omega
        have s11a : w11.cell? ⟨b, o + j * 2, none⟩ = some (.int .i64 x) := (World.cell?_of_block (w := w10) (h := hg11.block b hbw10 (nb _ (by omega)))).trans SA.out.2.1
        have s11b : w11.cell? ⟨b, o + j * 2 + 1, none⟩ = some (.int .i64 y) := (World.cell?_of_block (w := w10) (h := hg11.block b hbw10 (nb _ (by omega)))).trans SA.out.2.2
        have c8q : w11.cell? ⟨q, 8, none⟩ = some (.slice (some ⟨b, o, none⟩) m c) := (cells9 e0).2.2.2.2.2.2.2.2
        have hsz11 : w10.heap.size ≤ w11.heap.size := hg11.size
        have hsz10 : wr.heap.size ≤ w10.heap.size := AL.out.size
        have c11 : Below q w w11 := (BEL.out.drew.trans ((AL.out.mono (show q ≤ wr.heap.size by omega) : Below q wr.drew w10))).trans ⟨hg11.os, hg11.tape, hg11.output, hg11.size, fun k hk => hg11.block k (by omega) (nb _ (by omega))⟩
        have FZ : w11.frozen? ⟨q + 2, 8, none⟩ = false := frozen_of_row _ _ _ _ _ f11
        have c8 := (cells9 f11).2.2.2.2.2.2.2.2
        have rs := rowSet_cell w11 (q + 2) 8 _ _ (.slice ga (j + 1) gc) f11
        have O12 := Lib.hid (ownsRow_keep ho11 (fun k hk hlt => rs.chg.block k hlt (fun e => ne2 k (by omega) hk)))
        have S11 := Lib.hid (And.intro c8q (And.intro s11a s11b))
        have S12 := Lib.hid (And.intro ((rs.chg.cell (p := ⟨q, 8, none⟩) (show q < w11.heap.size by omega) (show q ≠ q + 2 by omega)).trans c8q) (And.intro ((rs.chg.cell (p := ⟨b, o + j * 2, none⟩) (show b < w11.heap.size by omega) (show b ≠ q + 2 by omega)).trans s11a) ((rs.chg.cell (p := ⟨b, o + j * 2 + 1, none⟩) (show b < w11.heap.size by omega) (show b ≠ q + 2 by omega)).trans s11b)))
        have Z12 := Lib.hid (And.intro (rs.keep (show q ≠ q + 2 by omega) e0) (And.intro (rs.keep (show q + 1 ≠ q + 2 by omega) e1) (And.intro rs.row (And.intro (c11.trans (rs.below q (by omega))) (show q + 3 ≤ (w11.setCell ⟨q + 2, 8, none⟩ (.slice ga (j + 1) gc)).heap.size by rw [rs.size]; omega)))))
        clear f11 e0 e1 s11a s11b c8q hsz11 hsz10 c11 rs ho11 hg11
        refine hK.out _ _ S11.out (fun _ => ?_)
        clear hK K
        try simp only [Act.put, List.setIfInBounds_toArray, List.set_cons_succ, List.set_cons_zero]
        refine wpAnyH_take (i := 17) (oi := ⟨some 46, _, _, _, _, _⟩) (v := .pointer (some ⟨q + 2, 8, none⟩)) rfl (by kernel_rfl) (by kernel_rfl) (by kernel_rfl) (fun _ _ _ h => h) (Or.inl ⟨by rfl, fun w' hSw => ?_⟩) S11.out ?_
        · obtain ⟨s1, s2, s3⟩ := hSw
          go_simp
        try simp only [Act.put, List.setIfInBounds_toArray, List.set_cons_succ, List.set_cons_zero]
        refine wpAnyH_ready (rs := [18]) (by kernel_rfl) (by simp) ?_
        refine AllReadyH.cons (i := 18) rfl (fun K hK => ?_) AllReadyH.nil
        rw [if_pos (by rfl)]
        go_simp
        clear FZ c8
        generalize World.setCell _ _ _ = w12 at *
        refine hK.out _ _ S12.out (fun _ => ?_)
        clear hK K
        try simp only [Act.put, List.setIfInBounds_toArray, List.set_cons_succ, List.set_cons_zero]
        refine wpAnyH_done (by kernel_rfl) ?_ _
        clear S11 S12 SA SS
        go_wp2_with fail
        exact ⟨⟨j + 1, _, by omega, rfl, by rw [TK.out]; exact O12.out, Z12.out⟩, by simp [intOf]; omega⟩
    · obtain rfl : j = m := by omega
      have hjI : ¬ (j : Int) < (j : Int) := by omega
      obtain ⟨c0, c1, c2, c3, c4, c5, c6, c7, c8⟩ := cells9 R0.out
      obtain ⟨d0, d1, d2, d3, d4, d5, d6, d7, d8⟩ := cells9 R2.out
      have SP := Lib.hid (spans_of HM.out.symm (by have h := OWN.out; rw [List.take_of_length_le (Nat.le_of_eq HM.out)] at h; exact h) : SpansIn wr (.slice av j cv) A)
      go_wp2_with (first
        | (refine wpList_store_row (op := ⟨none, .store 24 _ _, _, _, _, _⟩) rfl 24 _ _ rfl (q + 1) 24 _ (frC K S O N C F D X (.slice av j cv)) rfl rfl R1.out rfl (by kernel_rfl) (frC_one _ _ _ _ _ _ _ _ _ _ _) ?_
           intro w9 rs
           have RS9 := Lib.hid rs
           clear rs)
        | fail)
      refine ret_row (q + 1) 24 24 (frC K S O N C F D X (.slice av j cv)) rfl _ rfl RS9.out.row Tryd.underlying24 rfl (by kernel_rfl) rfl ?_
      refine ⟨_, rfl, ?_, by rw [HQ.out]; exact BEL.out.trans (RS9.out.below _ (Nat.le_succ _))⟩
      have ne1 : (Value.slice av j cv).ownBlock ≠ some (q + 1) := fun e => by have := own_lt OWN.out e; omega
      have h := OWN.out
      rw [List.take_of_length_le (Nat.le_of_eq HM.out)] at h
      refine spans_of (B := q + 3) (T := 54) HM.out.symm ?_
      exact ownsRow_keep h (fun k hk hlt => RS9.out.chg.block k hlt (fun e => ne1 (e ▸ hk)))
end Go.Proofs.YtcgbhcmgddgheabDoor
namespace Go.Proofs.YtcgbhcmgddgheabDoor
open Go Go.RowKit Go.BigFrame
set_option linter.unusedSimpArgs false
set_option linter.unusedVariables false
set_option maxRecDepth 100000
set_option maxHeartbeats 8000000 in
theorem same_spans (K S O N C : Int) (F : Bool) (D X : ByteArray) (v1 v2 : Value) (A : List (Int × Int)) (w : World) (h1 : SpansIn w v1 A) (h2 : SpansIn w v2 A) :
    Calls Tryd.prog 14 #[.agg (frC K S O N C F D X v1), .agg (frC K S O N C F D X v2)] w fun e w' => e = .returned (.bool true) ∧ Below w.heap.size w w' := by
  obtain ⟨a1, e1, rfl, hc1, hat1⟩ := h1.at_
  obtain ⟨a2, e2, rfl, hc2, hat2⟩ := h2.at_
  have H1 := Lib.hid hat1
  have H2 := Lib.hid hat2
  have hn63 : A.length ≤ 9223372036854775807 := by have := hc1.1; have := hc1.2; unfold maxLen at *; omega
  clear hat1 hat2 h1 h2 hc1 hc2
  obtain ⟨n, hn⟩ : ∃ n, A.length = n := ⟨_, rfl⟩
  rw [hn] at hn63 ⊢
  have HN := Lib.hid hn
  clear hn
  unfold frC
  have bel : Below w.heap.size w ((w.alloc (.cells #[.int .i64 K, .int .i64 S, .int .i64 O, .int .i64 N, .int .i64 C, .bool F, .string D, .string X, .slice a1 n e1] 24)).alloc (.cells #[.int .i64 K, .int .i64 S, .int .i64 O, .int .i64 N, .int .i64 C, .bool F, .string D, .string X, .slice a2 n e2] 24)) := ((Below.refl w.heap.size w).alloc (Nat.le_refl _) _).alloc (by simp) _
  have r0 := rows_alloc w [.cells #[.int .i64 K, .int .i64 S, .int .i64 O, .int .i64 N, .int .i64 C, .bool F, .string D, .string X, .slice a1 n e1] 24, .cells #[.int .i64 K, .int .i64 S, .int .i64 O, .int .i64 N, .int .i64 C, .bool F, .string D, .string X, .slice a2 n e2] 24] 0
  have r1 := rows_alloc w [.cells #[.int .i64 K, .int .i64 S, .int .i64 O, .int .i64 N, .int .i64 C, .bool F, .string D, .string X, .slice a1 n e1] 24, .cells #[.int .i64 K, .int .i64 S, .int .i64 O, .int .i64 N, .int .i64 C, .bool F, .string D, .string X, .slice a2 n e2] 24] 1
  simp only [List.foldl_cons, List.foldl_nil, Nat.add_zero] at r0 r1
  have hs1 : (w.alloc (.cells #[.int .i64 K, .int .i64 S, .int .i64 O, .int .i64 N, .int .i64 C, .bool F, .string D, .string X, .slice a1 n e1] 24)).heap.size = w.heap.size + 1 := by simp
  go_enter Tryd.func14, Tryd.ntmps14
  go_upto_region 1 with (fail)
  try rw [hs1]
  generalize World.alloc _ _ = w1 at *
  obtain ⟨c0, c1, c2, c3, c4, c5, c6, c7, c8⟩ := cells9 r0
  obtain ⟨d0, d1, d2, d3, d4, d5, d6, d7, d8⟩ := cells9 r1
  have BEL := Lib.hid bel
  clear r0 r1 hs1 bel
  go_upto_region 4 with (fail)
  clear c0 c1 c2 c3 c4 c5 c6 c7 d0 d1 d2 d3 d4 d5 d6 d7
  have C8 := Lib.hid c8
  have D8 := Lib.hid d8
  have SZ := Lib.hid (show w.heap.size ≤ w1.heap.size from BEL.out.size)
  clear c8 d8
  go_loopw [5] (fun s5 wr => ∃ j : Nat, j ≤ n ∧ s5 = .int .i64 (j : Int) ∧ Below w1.heap.size w1 wr) (fun s5 _ => n - (intOf s5).toNat)
  case atStart => exact ⟨0, Nat.zero_le _, rfl, Below.refl _ _⟩
  case round =>
    obtain ⟨j, hj, rfl, hbj⟩ := hrel
    have BJ := Lib.hid hbj
    clear hbj
    have hl0 : w.heap.size < w1.heap.size := World.block_lt_of_cell? w1 ⟨w.heap.size, 8, none⟩ C8.out
    have hl1 : w.heap.size + 1 < w1.heap.size := World.block_lt_of_cell? w1 ⟨w.heap.size + 1, 8, none⟩ D8.out
    have k8 : wr.cell? ⟨w.heap.size, 8, none⟩ = some (.slice a1 n e1) := (BJ.out.cell (p := ⟨w.heap.size, 8, none⟩) hl0).trans C8.out
    have k9 : wr.cell? ⟨w.heap.size + 1, 8, none⟩ = some (.slice a2 n e2) := (BJ.out.cell (p := ⟨w.heap.size + 1, 8, none⟩) hl1).trans D8.out
    by_cases hjk : j < n
    · have hjI : (j : Int) < (n : Int) := by omega
      have hj0 : (0 : Int) ≤ (j : Int) := by omega
      have hjA : j < A.length := by rw [HN.out]; exact hjk
      obtain h0 | ⟨b4, o4, rfl, hb4, hc4⟩ := H1.out
      · rw [h0] at hjA; exact absurd hjA (Nat.not_lt_zero _)
      obtain h0 | ⟨b3, o3, rfl, hb3, hc3⟩ := H2.out
      · rw [h0] at hjA; exact absurd hjA (Nat.not_lt_zero _)
      obtain ⟨p1, p2⟩ := hc4 j hjA
      obtain ⟨q1, q2⟩ := hc3 j hjA
      obtain ⟨x, hx⟩ : ∃ x, A[j].1 = x := ⟨_, rfl⟩
      obtain ⟨y, hy⟩ : ∃ y, A[j].2 = y := ⟨_, rfl⟩
      rw [hx] at p1 q1
      rw [hy] at p2 q2
      have BB := Lib.hid (BEL.out.trans (BJ.out.mono SZ.out))
      have d1 : wr.drew.cell? ⟨b4, o4 + j * 2, none⟩ = some (.int .i64 x) := (BB.out.cell (p := ⟨b4, o4 + j * 2, none⟩) hb4).trans p1
      have d2 : wr.drew.cell? ⟨b4, o4 + j * 2 + 1, none⟩ = some (.int .i64 y) := (BB.out.cell (p := ⟨b4, o4 + j * 2 + 1, none⟩) hb4).trans p2
      have d3 : wr.drew.cell? ⟨b3, o3 + j * 2, none⟩ = some (.int .i64 x) := (BB.out.cell (p := ⟨b3, o3 + j * 2, none⟩) hb3).trans q1
      have d4 : wr.drew.cell? ⟨b3, o3 + j * 2 + 1, none⟩ = some (.int .i64 y) := (BB.out.cell (p := ⟨b3, o3 + j * 2 + 1, none⟩) hb3).trans q2
      have d5 : wr.drew.cell? ⟨w.heap.size, 8, none⟩ = some (.slice (some ⟨b4, o4, none⟩) n e1) := k8
      have d6 : wr.drew.cell? ⟨w.heap.size + 1, 8, none⟩ = some (.slice (some ⟨b3, o3, none⟩) n e2) := k9
      clear hx hy p1 p2 q1 q2 hc3 hc4
      go_upto_region 6 with (fail)
      clear k8 k9
      go_region
      go_wp2_with fail
      go_roundw
      case rel => exact ⟨j + 1, by omega, by go_num, BJ.out.drew⟩
      case measure => (simp [intOf] <;> omega)
    · obtain rfl : j = n := by omega
      have hjI : ¬ (j : Int) < (j : Int) := by omega
      have END := Lib.hid (BEL.out.trans (BJ.out.mono SZ.out))
      go_wp2_with fail
      go_ret
      exact ⟨rfl, END.out⟩
end Go.Proofs.YtcgbhcmgddgheabDoor
