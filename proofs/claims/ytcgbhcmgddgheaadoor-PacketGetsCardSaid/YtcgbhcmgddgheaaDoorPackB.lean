/-
  THE CALLS OF PACKAGE packet, SECOND PART: a short header's bytes; a whole number by its lowest bytes.
-/
import Derived.Test.YtcgbhcmgddgheaaDoorPackA
namespace Go.Proofs.YtcgbhcmgddgheaaDoor
open Go Go.RowKit Go.BigFrame
def headC : Value := .agg #[.int .i64 4, .int .i64 0, .string ⟨#[97, 98]⟩, .string ⟨#[]⟩, .string ⟨#[]⟩, .int .i64 0, .int .i64 258, .int .i64 1, .bool false, .slice none 0 0]
set_option maxHeartbeats 4000000 in
theorem inBoundsC (w : World) : Calls Tryd.prog 58 #[headC] w fun e w' => e = .returned (.bool true) ∧ Below w.heap.size w w' := by
  unfold headC
  go_enter Tryd.func58, Tryd.ntmps58
  go_wp2_with fail
  refine wp_loop_rounds 1 ?_
  rw [rounds_succ]
  go_wp2_with (go_at_call 66; refine (within_yes _ _ (by omega) (by omega) _).mono ?_; rintro e w' ⟨rfl, rfl⟩)
  go_ret
  exact ⟨rfl, (Below.refl _ _).alloc (Nat.le_refl _) _⟩
set_option maxHeartbeats 4000000 in
theorem inFormC (w : World) : Calls Tryd.prog 59 #[headC] w fun e w' => e = .returned (.bool true) ∧ Below w.heap.size w w' := by
  unfold headC
  go_enter Tryd.func59, Tryd.ntmps59
  go_wp2_with fail
  go_ret
  exact ⟨rfl, (Below.refl _ _).alloc (Nat.le_refl _) _⟩
set_option maxHeartbeats 4000000 in
theorem firstByteC (w : World) : Calls Tryd.prog 60 #[headC] w fun e w' => e = .returned (.int .u8 (n8 64#8)) ∧ Below w.heap.size w w' := by
  rw [show n8 64#8 = 64 from by rw [n8_nat]; rfl]
  unfold headC
  go_enter Tryd.func60, Tryd.ntmps60
  go_wp2_with fail
  go_ret
  exact ⟨rfl, (Below.refl _ _).alloc (Nat.le_refl _) _⟩
def cellsC : Array Value := #[.int .i64 4, .int .i64 0, .string ⟨#[97, 98]⟩, .string ⟨#[]⟩, .string ⟨#[]⟩, .int .i64 0, .int .i64 258, .int .i64 1, .bool false, .slice none 0 0]
theorem cellsC_at {w : World} {B : Nat} (h : w.heap[B]? = some (.cells cellsC 66 (0, 0))) :
    w.cell? ⟨B, 0, none⟩ = some (.int .i64 4) ∧ w.cell? ⟨B, 1, none⟩ = some (.int .i64 0) ∧ w.cell? ⟨B, 2, none⟩ = some (.string ⟨#[97, 98]⟩) ∧ w.cell? ⟨B, 3, none⟩ = some (.string ⟨#[]⟩) ∧ w.cell? ⟨B, 4, none⟩ = some (.string ⟨#[]⟩) ∧ w.cell? ⟨B, 5, none⟩ = some (.int .i64 0) ∧ w.cell? ⟨B, 6, none⟩ = some (.int .i64 258) ∧ w.cell? ⟨B, 7, none⟩ = some (.int .i64 1) ∧ w.cell? ⟨B, 8, none⟩ = some (.bool false) ∧ w.cell? ⟨B, 9, none⟩ = some (.slice none 0 0) := by
  refine ⟨?_, ?_, ?_, ?_, ?_, ?_, ?_, ?_, ?_, ?_⟩ <;> rw [cell_of_row _ _ _ _ _ _ h] <;> rfl
def abF (i : Nat) : BitVec 8 := if i = 0 then 97#8 else 98#8
theorem src_ab (w : World) : Src Tryd.prog 1 9 (.string ⟨#[97, 98]⟩) 2 (firsts abF 2) w := src_str abF 2 w
set_option maxRecDepth 100000 in
set_option maxHeartbeats 4000000 in
theorem putC (w : World) : Calls Tryd.prog 33 #[headC] w fun e w' => ∃ v f, e = .returned (.tuple #[v, .int .i64 0]) ∧ Own w.heap.size v 4 f w' ∧ Below w.heap.size w w' ∧ f 0 = 64#8 ∧ f 1 = 97#8 ∧ f 2 = 98#8 ∧ f 3 = 2#8 := by
  have ib := inBoundsC
  have if_ := inFormC
  have fb := firstByteC
  unfold headC at ib if_ fb ⊢
  have IB := Lib.hid ib
  have IF := Lib.hid if_
  have FB := Lib.hid fb
  clear ib if_ fb
  go_enter Tryd.func33, Tryd.ntmps33
  go_wp2_with fail
  have row0 : (w.alloc (.cells cellsC 66)).heap[w.heap.size]? = some (.cells cellsC 66 (0, 0)) := heap_alloc_last _ _
  have bel0 : Below w.heap.size w (w.alloc (.cells cellsC 66)) := (Below.refl _ _).alloc (Nat.le_refl _) _
  unfold cellsC at bel0
  have ea : w.alloc (.cells cellsC 66) = w.alloc (.cells #[.int .i64 4, .int .i64 0, .string ⟨#[97, 98]⟩, .string ⟨#[]⟩, .string ⟨#[]⟩, .int .i64 0, .int .i64 258, .int .i64 1, .bool false, .slice none 0 0] 66) := rfl
  rw [ea] at row0
  clear ea
  generalize w.alloc _ = wa at *
  refine (IB.out _).mono ?_
  rintro e w1 ⟨rfl, b1⟩
  have R1 := Lib.hid (below_row b1 (lt_of_heap row0) row0)
  have B1 := Lib.hid (bel0.trans (b1.mono bel0.size))
  obtain ⟨c0, c1, c2, c3, c4, c5, c6, c7, c8, c9⟩ := cellsC_at R1.out
  clear b1 row0 bel0
  go_wp2_with fail
  refine (IF.out _).mono ?_
  rintro e w2 ⟨rfl, b2⟩
  have R2 := Lib.hid (below_row b2 (lt_of_heap R1.out) R1.out)
  have B2 := Lib.hid (B1.out.trans (b2.mono B1.out.size))
  clear b2 B1 R1 c0 c1 c2 c3 c4 c5 c6 c7 c8 c9
  obtain ⟨c0, c1, c2, c3, c4, c5, c6, c7, c8, c9⟩ := cellsC_at R2.out
  go_wp2_with fail
  refine (FB.out _).mono ?_
  rintro e w3 ⟨rfl, b3⟩
  have R3 := Lib.hid (below_row b3 (lt_of_heap R2.out) R2.out)
  have B3 := Lib.hid (B2.out.trans (b3.mono B2.out.size))
  clear b3 B2 R2 c0 c1 c2 c3 c4 c5 c6 c7 c8 c9
  obtain ⟨c0, c1, c2, c3, c4, c5, c6, c7, c8, c9⟩ := cellsC_at R3.out
  have hw3 := lt_of_heap R3.out
  go_wp2_with (refine wpList_append_bytes (o := ⟨some 24, _, _, _, _, _⟩) rfl _ _ 9 rfl rfl rfl (Own.made (B := w.heap.size) 64#8 w3 (Nat.le_of_lt hw3)) (src_ab _) (by omega) ?_)
  intro v4 w4 ho4 hg4
  have row4 : w4.heap[w.heap.size]? = some (.cells cellsC 66 (0, 0)) := by
    rw [hg4.block (by simp; omega) (by simp [Value.ownBlock]; omega), Below.heap_alloc _ _ _ hw3]
    exact R3.out
  have hb4 : Below w.heap.size w w4 := (B3.out.alloc B3.out.size _).trans (hg4.below (Own.made (B := w.heap.size) 64#8 w3 (Nat.le_of_lt hw3)))
  have R4 := Lib.hid row4
  have B4 := Lib.hid hb4
  have O4 := Lib.hid ho4
  clear row4 hb4 ho4 hg4 B3 R3 c0 c1 c2 c3 c4 c5 c6 c7 c8 c9 hw3
  obtain ⟨c0, c1, c2, c3, c4, c5, c6, c7, c8, c9⟩ := cellsC_at R4.out
  go_wp2_with fail
  have an := appendNumber_any 258 1 w4 O4.out (by omega) (by omega)
  have An := Lib.hid an
  clear an
  refine An.out.mono ?_
  rintro e w5 ⟨v5, rfl, ho5, hg5⟩
  have O5 := Lib.hid ho5
  have B5 := Lib.hid (B4.out.trans (hg5.below O4.out))
  clear ho5 hg5 O4 B4 R4 c0 c1 c2 c3 c4 c5 c6 c7 c8 c9
  go_wp2_with fail
  go_ret2
  exact ⟨v5, _, rfl, O5.out, B5.out, rfl, rfl, rfl, by unfold joinb numB; decide +kernel⟩
end Go.Proofs.YtcgbhcmgddgheaaDoor
