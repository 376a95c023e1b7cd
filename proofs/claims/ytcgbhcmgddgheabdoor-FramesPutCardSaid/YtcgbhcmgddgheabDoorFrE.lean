/-
  FRAMES, FIFTH PART: a part made nought.
-/
import Derived.Test.YtcgbhcmgddgheabDoorFrD
namespace Go.Proofs.YtcgbhcmgddgheabDoor
open Go Go.RowKit Go.BigFrame
set_option linter.unusedSimpArgs false
set_option linter.unusedVariables false
set_option maxRecDepth 100000
def clearF (f : Fr) (p : Nat) : Fr :=
  match p with
  | 0 => { f with S := 0 }
  | 1 => { f with O := 0 }
  | 2 => { f with N := 0 }
  | 10 => { f with N := 0 }
  | 3 => { f with C := 0 }
  | 4 => { f with D := ⟨#[]⟩ }
  | 6 => { f with D := ⟨#[]⟩ }
  | 7 => { f with D := ⟨#[]⟩ }
  | 8 => { f with X := ⟨#[]⟩ }
  | 9 => { f with N := 0, A := [] }
  | _ => f
def clearV (v : Value) (p : Nat) : Value := if p = 9 then .slice none 0 0 else v
set_option maxHeartbeats 4000000 in
theorem clear_0 (f : Fr) (v : Value) (w : World) (B : Nat) (h : w.heap[B]? = some (.cells (f.cells v) 33 (0, 0))) :
    Calls Tryd.prog 32 #[.pointer (some ⟨B, 0, none⟩), .int .i64 0] w fun e w' => e = .returned (.tuple #[]) ∧ RowSet w B 33 ((clearF f 0).cells (clearV v 0)) w' := by
  obtain ⟨K, S, O, N, C, F, D, X, A⟩ := f
  dsimp only [Fr.cells] at h
  unfold frC at h
  have H := Lib.hid h
  have fr : w.frozen? ⟨B, 1, none⟩ = false := frozen_of_row _ _ _ _ _ h
  obtain ⟨c0, c1, c2, c3, c4, c5, c6, c7, c8⟩ := cells9 h
  clear h
  go_enter Tryd.func32, Tryd.ntmps32
  go_wp2_with fail
  go_end0
  exact ⟨rfl, rowSet_cell w B 1 _ _ (.int .i64 0) H.out⟩
set_option maxHeartbeats 4000000 in
theorem clear_1 (f : Fr) (v : Value) (w : World) (B : Nat) (h : w.heap[B]? = some (.cells (f.cells v) 33 (0, 0))) :
    Calls Tryd.prog 32 #[.pointer (some ⟨B, 0, none⟩), .int .i64 1] w fun e w' => e = .returned (.tuple #[]) ∧ RowSet w B 33 ((clearF f 1).cells (clearV v 1)) w' := by
  obtain ⟨K, S, O, N, C, F, D, X, A⟩ := f
  dsimp only [Fr.cells] at h
  unfold frC at h
  have H := Lib.hid h
  have fr : w.frozen? ⟨B, 2, none⟩ = false := frozen_of_row _ _ _ _ _ h
  obtain ⟨c0, c1, c2, c3, c4, c5, c6, c7, c8⟩ := cells9 h
  clear h
  go_enter Tryd.func32, Tryd.ntmps32
  go_wp2_with fail
  go_end0
  exact ⟨rfl, rowSet_cell w B 2 _ _ (.int .i64 0) H.out⟩
set_option maxHeartbeats 4000000 in
theorem clear_2 (f : Fr) (v : Value) (w : World) (B : Nat) (h : w.heap[B]? = some (.cells (f.cells v) 33 (0, 0))) :
    Calls Tryd.prog 32 #[.pointer (some ⟨B, 0, none⟩), .int .i64 2] w fun e w' => e = .returned (.tuple #[]) ∧ RowSet w B 33 ((clearF f 2).cells (clearV v 2)) w' := by
  obtain ⟨K, S, O, N, C, F, D, X, A⟩ := f
  dsimp only [Fr.cells] at h
  unfold frC at h
  have H := Lib.hid h
  have fr : w.frozen? ⟨B, 3, none⟩ = false := frozen_of_row _ _ _ _ _ h
  obtain ⟨c0, c1, c2, c3, c4, c5, c6, c7, c8⟩ := cells9 h
  clear h
  go_enter Tryd.func32, Tryd.ntmps32
  go_wp2_with fail
  go_end0
  exact ⟨rfl, rowSet_cell w B 3 _ _ (.int .i64 0) H.out⟩
set_option maxHeartbeats 4000000 in
theorem clear_3 (f : Fr) (v : Value) (w : World) (B : Nat) (h : w.heap[B]? = some (.cells (f.cells v) 33 (0, 0))) :
    Calls Tryd.prog 32 #[.pointer (some ⟨B, 0, none⟩), .int .i64 3] w fun e w' => e = .returned (.tuple #[]) ∧ RowSet w B 33 ((clearF f 3).cells (clearV v 3)) w' := by
  obtain ⟨K, S, O, N, C, F, D, X, A⟩ := f
  dsimp only [Fr.cells] at h
  unfold frC at h
  have H := Lib.hid h
  have fr : w.frozen? ⟨B, 4, none⟩ = false := frozen_of_row _ _ _ _ _ h
  obtain ⟨c0, c1, c2, c3, c4, c5, c6, c7, c8⟩ := cells9 h
  clear h
  go_enter Tryd.func32, Tryd.ntmps32
  go_wp2_with fail
  go_end0
  exact ⟨rfl, rowSet_cell w B 4 _ _ (.int .i64 0) H.out⟩
set_option maxHeartbeats 4000000 in
theorem clear_4 (f : Fr) (v : Value) (w : World) (B : Nat) (h : w.heap[B]? = some (.cells (f.cells v) 33 (0, 0))) :
    Calls Tryd.prog 32 #[.pointer (some ⟨B, 0, none⟩), .int .i64 4] w fun e w' => e = .returned (.tuple #[]) ∧ RowSet w B 33 ((clearF f 4).cells (clearV v 4)) w' := by
  obtain ⟨K, S, O, N, C, F, D, X, A⟩ := f
  dsimp only [Fr.cells] at h
  unfold frC at h
  have H := Lib.hid h
  have fr : w.frozen? ⟨B, 6, none⟩ = false := frozen_of_row _ _ _ _ _ h
  obtain ⟨c0, c1, c2, c3, c4, c5, c6, c7, c8⟩ := cells9 h
  clear h
  go_enter Tryd.func32, Tryd.ntmps32
  go_wp2_with fail
  go_end0
  exact ⟨rfl, rowSet_cell w B 6 _ _ (.string ⟨#[]⟩) H.out⟩
set_option maxHeartbeats 4000000 in
theorem clear_5 (f : Fr) (v : Value) (w : World) (B : Nat) (h : w.heap[B]? = some (.cells (f.cells v) 33 (0, 0))) :
    Calls Tryd.prog 32 #[.pointer (some ⟨B, 0, none⟩), .int .i64 5] w fun e w' => e = .returned (.tuple #[]) ∧ RowSet w B 33 ((clearF f 5).cells (clearV v 5)) w' := by
  obtain ⟨K, S, O, N, C, F, D, X, A⟩ := f
  dsimp only [Fr.cells] at h
  unfold frC at h
  have H := Lib.hid h
  clear h
  go_enter Tryd.func32, Tryd.ntmps32
  go_wp2_with fail
  go_end0
  exact ⟨rfl, ⟨H.out, fun k hk => rfl, rfl, fun b hb => Below.refl _ _⟩⟩
set_option maxHeartbeats 4000000 in
theorem clear_6 (f : Fr) (v : Value) (w : World) (B : Nat) (h : w.heap[B]? = some (.cells (f.cells v) 33 (0, 0))) :
    Calls Tryd.prog 32 #[.pointer (some ⟨B, 0, none⟩), .int .i64 6] w fun e w' => e = .returned (.tuple #[]) ∧ RowSet w B 33 ((clearF f 6).cells (clearV v 6)) w' := by
  obtain ⟨K, S, O, N, C, F, D, X, A⟩ := f
  dsimp only [Fr.cells] at h
  unfold frC at h
  have H := Lib.hid h
  have fr : w.frozen? ⟨B, 6, none⟩ = false := frozen_of_row _ _ _ _ _ h
  obtain ⟨c0, c1, c2, c3, c4, c5, c6, c7, c8⟩ := cells9 h
  clear h
  go_enter Tryd.func32, Tryd.ntmps32
  go_wp2_with fail
  go_end0
  exact ⟨rfl, rowSet_cell w B 6 _ _ (.string ⟨#[]⟩) H.out⟩
set_option maxHeartbeats 4000000 in
theorem clear_7 (f : Fr) (v : Value) (w : World) (B : Nat) (h : w.heap[B]? = some (.cells (f.cells v) 33 (0, 0))) :
    Calls Tryd.prog 32 #[.pointer (some ⟨B, 0, none⟩), .int .i64 7] w fun e w' => e = .returned (.tuple #[]) ∧ RowSet w B 33 ((clearF f 7).cells (clearV v 7)) w' := by
  obtain ⟨K, S, O, N, C, F, D, X, A⟩ := f
  dsimp only [Fr.cells] at h
  unfold frC at h
  have H := Lib.hid h
  have fr : w.frozen? ⟨B, 6, none⟩ = false := frozen_of_row _ _ _ _ _ h
  obtain ⟨c0, c1, c2, c3, c4, c5, c6, c7, c8⟩ := cells9 h
  clear h
  go_enter Tryd.func32, Tryd.ntmps32
  go_wp2_with fail
  go_end0
  exact ⟨rfl, rowSet_cell w B 6 _ _ (.string ⟨#[]⟩) H.out⟩
set_option maxHeartbeats 4000000 in
theorem clear_8 (f : Fr) (v : Value) (w : World) (B : Nat) (h : w.heap[B]? = some (.cells (f.cells v) 33 (0, 0))) :
    Calls Tryd.prog 32 #[.pointer (some ⟨B, 0, none⟩), .int .i64 8] w fun e w' => e = .returned (.tuple #[]) ∧ RowSet w B 33 ((clearF f 8).cells (clearV v 8)) w' := by
  obtain ⟨K, S, O, N, C, F, D, X, A⟩ := f
  dsimp only [Fr.cells] at h
  unfold frC at h
  have H := Lib.hid h
  have fr : w.frozen? ⟨B, 7, none⟩ = false := frozen_of_row _ _ _ _ _ h
  obtain ⟨c0, c1, c2, c3, c4, c5, c6, c7, c8⟩ := cells9 h
  clear h
  go_enter Tryd.func32, Tryd.ntmps32
  go_wp2_with fail
  go_end0
  exact ⟨rfl, rowSet_cell w B 7 _ _ (.string ⟨#[]⟩) H.out⟩
set_option maxHeartbeats 4000000 in
theorem clear_9 (f : Fr) (v : Value) (w : World) (B : Nat) (h : w.heap[B]? = some (.cells (f.cells v) 33 (0, 0))) :
    Calls Tryd.prog 32 #[.pointer (some ⟨B, 0, none⟩), .int .i64 9] w fun e w' => e = .returned (.tuple #[]) ∧ RowSet w B 33 ((clearF f 9).cells (clearV v 9)) w' := by
  obtain ⟨K, S, O, N, C, F, D, X, A⟩ := f
  dsimp only [Fr.cells] at h
  unfold frC at h
  have H := Lib.hid h
  have fr : w.frozen? ⟨B, 3, none⟩ = false := frozen_of_row _ _ _ _ _ h
  have fr8 : w.frozen? ⟨B, 8, none⟩ = false := frozen_of_row _ _ _ _ _ h
  obtain ⟨c0, c1, c2, c3, c4, c5, c6, c7, c8⟩ := cells9 h
  clear h
  go_enter Tryd.func32, Tryd.ntmps32
  go_wp2_with fail
  go_end0
  have s1 := rowSet_cell w B 3 _ _ (.int .i64 0) H.out
  have s2 := rowSet_cell _ B 8 _ _ (.slice none 0 0) s1.row
  exact ⟨rfl, ⟨s2.row, fun k hk => (s2.other k hk).trans (s1.other k hk), s2.size.trans s1.size, fun b hb => (s1.below b hb).trans (s2.below b hb)⟩⟩
set_option maxHeartbeats 4000000 in
theorem clear_10 (f : Fr) (v : Value) (w : World) (B : Nat) (h : w.heap[B]? = some (.cells (f.cells v) 33 (0, 0))) :
    Calls Tryd.prog 32 #[.pointer (some ⟨B, 0, none⟩), .int .i64 10] w fun e w' => e = .returned (.tuple #[]) ∧ RowSet w B 33 ((clearF f 10).cells (clearV v 10)) w' := by
  obtain ⟨K, S, O, N, C, F, D, X, A⟩ := f
  dsimp only [Fr.cells] at h
  unfold frC at h
  have H := Lib.hid h
  have fr : w.frozen? ⟨B, 3, none⟩ = false := frozen_of_row _ _ _ _ _ h
  obtain ⟨c0, c1, c2, c3, c4, c5, c6, c7, c8⟩ := cells9 h
  clear h
  go_enter Tryd.func32, Tryd.ntmps32
  go_wp2_with fail
  go_end0
  exact ⟨rfl, rowSet_cell w B 3 _ _ (.int .i64 0) H.out⟩
theorem clear_any (f : Fr) (v : Value) (p : Nat) (hp : p ≤ 10) (w : World) (B : Nat) (h : w.heap[B]? = some (.cells (f.cells v) 33 (0, 0))) :
    Calls Tryd.prog 32 #[.pointer (some ⟨B, 0, none⟩), .int .i64 (p : Int)] w fun e w' => e = .returned (.tuple #[]) ∧ RowSet w B 33 ((clearF f p).cells (clearV v p)) w' := by
  match p, hp with
  | 0, _ => exact clear_0 f v w B h
  | 1, _ => exact clear_1 f v w B h
  | 2, _ => exact clear_2 f v w B h
  | 3, _ => exact clear_3 f v w B h
  | 4, _ => exact clear_4 f v w B h
  | 5, _ => exact clear_5 f v w B h
  | 6, _ => exact clear_6 f v w B h
  | 7, _ => exact clear_7 f v w B h
  | 8, _ => exact clear_8 f v w B h
  | 9, _ => exact clear_9 f v w B h
  | 10, _ => exact clear_10 f v w B h
end Go.Proofs.YtcgbhcmgddgheabDoor
