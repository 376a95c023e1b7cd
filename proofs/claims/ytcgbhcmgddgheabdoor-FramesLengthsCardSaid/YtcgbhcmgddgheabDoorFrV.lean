/-
  FRAMES: the laws' to, from, Same of frames without spans.
-/
import Derived.Test.YtcgbhcmgddgheabDoorFrT
namespace Go.Proofs.YtcgbhcmgddgheabDoor
open Go Go.RowKit Go.BigFrame
set_option linter.unusedSimpArgs false
set_option linter.unusedVariables false
set_option maxRecDepth 100000
theorem rfr_zero : (Tryd.prog.info? 24).map (·.zero) = some (some (.agg (frC 0 0 0 0 0 false ⟨#[]⟩ ⟨#[]⟩ (.slice none 0 0)))) := by kernel_rfl
set_option maxHeartbeats 8000000 in
theorem to_nil (K S O N C : Int) (F : Bool) (D X : ByteArray) (a : Option Addr) (c : Nat) (w : World) :
    Calls Tryd.prog 9 #[.agg (frC K S O N C F D X (.slice a 0 c))] w fun e w' => e = .returned (.agg (frC K S O N C F D X (.slice none 0 0))) ∧ Below w.heap.size w w' := by
  unfold frC
  go_enter Tryd.func9, Tryd.ntmps9
  go_upto_region 1 with (first
    | (refine wpList_alloc_row (o := ⟨some 2, .alloc 33, _, _, _, _⟩) rfl 33 rfl _ fr_zero ?_)
    | fail)
  have r0 := rows_alloc w [.cells (frC K S O N C F D X (.slice a 0 c)) 24, .cells (frC 0 0 0 0 0 false ⟨#[]⟩ ⟨#[]⟩ (.slice none 0 0)) 33] 0
  have r1 := rows_alloc w [.cells (frC K S O N C F D X (.slice a 0 c)) 24, .cells (frC 0 0 0 0 0 false ⟨#[]⟩ ⟨#[]⟩ (.slice none 0 0)) 33] 1
  have bel : Below w.heap.size w ((w.alloc (.cells (frC K S O N C F D X (.slice a 0 c)) 24)).alloc (.cells (frC 0 0 0 0 0 false ⟨#[]⟩ ⟨#[]⟩ (.slice none 0 0)) 33)) := ((Below.refl w.heap.size w).alloc (Nat.le_refl _) _).alloc (by simp) _
  have hs1 : (w.alloc (.cells (frC K S O N C F D X (.slice a 0 c)) 24)).heap.size = w.heap.size + 1 := by simp
  simp only [List.foldl_cons, List.foldl_nil, Nat.add_zero] at r0 r1
  have RB := Lib.hid bel
  rw [show (w.alloc (.cells #[.int .i64 K, .int .i64 S, .int .i64 O, .int .i64 N, .int .i64 C, .bool F, .string D, .string X, .slice a 0 c] 24)) = (w.alloc (.cells (frC K S O N C F D X (.slice a 0 c)) 24)) from rfl]
  try rw [hs1]
  generalize World.alloc _ _ = w1 at *
  obtain ⟨c0, c1, c2, c3, c4, c5, c6, c7, c8⟩ := cells9 r0
  have R1 := Lib.hid r1
  clear r1 bel hs1
  have row2 := heap_alloc_last w1 (.cells #[.int .i64 K, .int .i64 S, .int .i64 O, .int .i64 N, .int .i64 C, .bool F, .string D, .string X, .slice none 0 0] 33)
  have bel2 := (Below.refl w1.heap.size w1).alloc (Nat.le_refl _) (.cells #[.int .i64 K, .int .i64 S, .int .i64 O, .int .i64 N, .int .i64 C, .bool F, .string D, .string X, .slice none 0 0] 33)
  go_upto_region 3 with (fail)
  generalize w1.alloc _ = w2 at *
  have B2 := Lib.hid bel2
  have X2 := Lib.hid ((bel2.block _ (lt_row R1.out)).trans R1.out)
  have R2 := Lib.hid row2
  obtain ⟨d0, d1, d2, d3, d4, d5, d6, d7, d8⟩ := cells9 ((bel2.block _ (lt_row r0)).trans r0)
  clear c0 c1 c2 c3 c4 c5 c6 c7 c8 bel2 r0
  go_loopw [4] (fun s4 wr => s4 = .int .i64 0 ∧ wr = w2) (fun _ _ => 0)
  case atStart => exact ⟨rfl, rfl⟩
  case round =>
    obtain ⟨rfl, rfl⟩ := hrel
    obtain ⟨c0, c1, c2, c3, c4, c5, c6, c7, c8⟩ := cells9 row2
    clear row2
    go_wp2_with (first
      | (refine wpList_store_row (op := ⟨none, .store 33 _ _, _, _, _, _⟩) rfl 33 _ _ rfl (w.heap.size + 1) 33 _ (frC K S O N C F D X (.slice none 0 0)) rfl rfl X2.out rfl (by kernel_rfl) (frC_one _ _ _ _ _ _ _ _ _ _ _) ?_
         intro w9 rs
         have RS9 := Lib.hid rs
         clear rs)
      | fail)
    refine ret_row (w.heap.size + 1) 33 33 (frC K S O N C F D X (.slice none 0 0)) rfl _ rfl RS9.out.row Tryd.underlying33 rfl (by kernel_rfl) rfl ?_
    exact ⟨rfl, (RB.out.trans (B2.out.mono RB.out.size)).trans (RS9.out.below _ (Nat.le_succ _))⟩
set_option maxHeartbeats 8000000 in
theorem from_nil (K S O N C : Int) (F : Bool) (D X : ByteArray) (a : Option Addr) (c : Nat) (w : World) :
    Calls Tryd.prog 15 #[.agg (frC K S O N C F D X (.slice a 0 c))] w fun e w' => e = .returned (.agg (frC K S O N C F D X (.slice none 0 0))) ∧ Below w.heap.size w w' := by
  unfold frC
  go_enter Tryd.func15, Tryd.ntmps15
  go_upto_region 1 with (first
    | (refine wpList_alloc_row (o := ⟨some 2, .alloc 24, _, _, _, _⟩) rfl 24 rfl _ rfr_zero ?_)
    | fail)
  have r0 := rows_alloc w [.cells (frC K S O N C F D X (.slice a 0 c)) 33, .cells (frC 0 0 0 0 0 false ⟨#[]⟩ ⟨#[]⟩ (.slice none 0 0)) 24] 0
  have r1 := rows_alloc w [.cells (frC K S O N C F D X (.slice a 0 c)) 33, .cells (frC 0 0 0 0 0 false ⟨#[]⟩ ⟨#[]⟩ (.slice none 0 0)) 24] 1
  have bel : Below w.heap.size w ((w.alloc (.cells (frC K S O N C F D X (.slice a 0 c)) 33)).alloc (.cells (frC 0 0 0 0 0 false ⟨#[]⟩ ⟨#[]⟩ (.slice none 0 0)) 24)) := ((Below.refl w.heap.size w).alloc (Nat.le_refl _) _).alloc (by simp) _
  have hs1 : (w.alloc (.cells (frC K S O N C F D X (.slice a 0 c)) 33)).heap.size = w.heap.size + 1 := by simp
  simp only [List.foldl_cons, List.foldl_nil, Nat.add_zero] at r0 r1
  have RB := Lib.hid bel
  rw [show (w.alloc (.cells #[.int .i64 K, .int .i64 S, .int .i64 O, .int .i64 N, .int .i64 C, .bool F, .string D, .string X, .slice a 0 c] 33)) = (w.alloc (.cells (frC K S O N C F D X (.slice a 0 c)) 33)) from rfl]
  try rw [hs1]
  generalize World.alloc _ _ = w1 at *
  obtain ⟨c0, c1, c2, c3, c4, c5, c6, c7, c8⟩ := cells9 r0
  have R1 := Lib.hid r1
  clear r1 bel hs1
  have row2 := heap_alloc_last w1 (.cells #[.int .i64 K, .int .i64 S, .int .i64 O, .int .i64 N, .int .i64 C, .bool F, .string D, .string X, .slice none 0 0] 24)
  have bel2 := (Below.refl w1.heap.size w1).alloc (Nat.le_refl _) (.cells #[.int .i64 K, .int .i64 S, .int .i64 O, .int .i64 N, .int .i64 C, .bool F, .string D, .string X, .slice none 0 0] 24)
  go_upto_region 3 with (fail)
  generalize w1.alloc _ = w2 at *
  have B2 := Lib.hid bel2
  have X2 := Lib.hid ((bel2.block _ (lt_row R1.out)).trans R1.out)
  have R2 := Lib.hid row2
  obtain ⟨d0, d1, d2, d3, d4, d5, d6, d7, d8⟩ := cells9 ((bel2.block _ (lt_row r0)).trans r0)
  clear c0 c1 c2 c3 c4 c5 c6 c7 c8 bel2 r0
  go_loopw [4] (fun s4 wr => s4 = .int .i64 0 ∧ wr = w2) (fun _ _ => 0)
  case atStart => exact ⟨rfl, rfl⟩
  case round =>
    obtain ⟨rfl, rfl⟩ := hrel
    obtain ⟨c0, c1, c2, c3, c4, c5, c6, c7, c8⟩ := cells9 row2
    clear row2
    go_wp2_with (first
      | (refine wpList_store_row (op := ⟨none, .store 24 _ _, _, _, _, _⟩) rfl 24 _ _ rfl (w.heap.size + 1) 24 _ (frC K S O N C F D X (.slice none 0 0)) rfl rfl X2.out rfl (by kernel_rfl) (frC_one _ _ _ _ _ _ _ _ _ _ _) ?_
         intro w9 rs
         have RS9 := Lib.hid rs
         clear rs)
      | fail)
    refine ret_row (w.heap.size + 1) 24 24 (frC K S O N C F D X (.slice none 0 0)) rfl _ rfl RS9.out.row Tryd.underlying24 rfl (by kernel_rfl) rfl ?_
    exact ⟨rfl, (RB.out.trans (B2.out.mono RB.out.size)).trans (RS9.out.below _ (Nat.le_succ _))⟩
set_option maxHeartbeats 8000000 in
theorem same_nil (K S O N C : Int) (F : Bool) (D X : ByteArray) (w : World) :
    Calls Tryd.prog 14 #[.agg (frC K S O N C F D X (.slice none 0 0)), .agg (frC K S O N C F D X (.slice none 0 0))] w fun e w' => e = .returned (.bool true) ∧ Below w.heap.size w w' := by
  unfold frC
  have bel : Below w.heap.size w ((w.alloc (.cells #[.int .i64 K, .int .i64 S, .int .i64 O, .int .i64 N, .int .i64 C, .bool F, .string D, .string X, .slice none 0 0] 24)).alloc (.cells #[.int .i64 K, .int .i64 S, .int .i64 O, .int .i64 N, .int .i64 C, .bool F, .string D, .string X, .slice none 0 0] 24)) := ((Below.refl w.heap.size w).alloc (Nat.le_refl _) _).alloc (by simp) _
  have r0 := rows_alloc w [.cells #[.int .i64 K, .int .i64 S, .int .i64 O, .int .i64 N, .int .i64 C, .bool F, .string D, .string X, .slice none 0 0] 24, .cells #[.int .i64 K, .int .i64 S, .int .i64 O, .int .i64 N, .int .i64 C, .bool F, .string D, .string X, .slice none 0 0] 24] 0
  have r1 := rows_alloc w [.cells #[.int .i64 K, .int .i64 S, .int .i64 O, .int .i64 N, .int .i64 C, .bool F, .string D, .string X, .slice none 0 0] 24, .cells #[.int .i64 K, .int .i64 S, .int .i64 O, .int .i64 N, .int .i64 C, .bool F, .string D, .string X, .slice none 0 0] 24] 1
  simp only [List.foldl_cons, List.foldl_nil, Nat.add_zero] at r0 r1
  have hs1 : (w.alloc (.cells #[.int .i64 K, .int .i64 S, .int .i64 O, .int .i64 N, .int .i64 C, .bool F, .string D, .string X, .slice none 0 0] 24)).heap.size = w.heap.size + 1 := by simp
  go_enter Tryd.func14, Tryd.ntmps14
  go_upto_region 1 with (fail)
  try rw [hs1]
  generalize World.alloc _ _ = w1 at *
  obtain ⟨c0, c1, c2, c3, c4, c5, c6, c7, c8⟩ := cells9 r0
  obtain ⟨d0, d1, d2, d3, d4, d5, d6, d7, d8⟩ := cells9 r1
  clear r0 r1 hs1
  go_upto_region 4 with (fail)
  go_loopw [5] (fun s5 wr => s5 = .int .i64 0 ∧ wr = w1) (fun _ _ => 0)
  case atStart => exact ⟨rfl, rfl⟩
  case round =>
    obtain ⟨rfl, rfl⟩ := hrel
    go_wp2_with fail
    go_ret
    exact ⟨rfl, bel⟩
end Go.Proofs.YtcgbhcmgddgheabDoor
