/-
  sha: Len (left out of a seat whose program doesn't ask for it).
-/
import Derived.Test.YtbadcknchamimaaDoorShaH
namespace Go.Proofs.YtbadcknchamimaaDoor
open Go Go.RowKit Go.BigFrame
set_option linter.unusedSimpArgs false
set_option linter.unusedVariables false
theorem len_nil (w : World) : Calls Tryd.prog 16 #[.pointer none] w fun e w' => e = .returned (.int .i64 0) ∧ w = w' := by
  go_enter Tryd.func16, Tryd.ntmps16
  go_wp2_with fail
  go_ret
  exact ⟨rfl, rfl⟩
theorem len_any (b n : Nat) (f : Nat → BitVec 8) (w : World) (H : HashSt w b f n) (hn : n < 576460752303423488) : Calls Tryd.prog 16 #[.pointer (some ⟨b, 0, none⟩)] w fun e w' => e = .returned (.int .i64 (n : Int)) ∧ w = w' := by
  obtain ⟨v, g, row, _, _⟩ := H
  have cl := row.len
  clear row
  go_enter Tryd.func16, Tryd.ntmps16
  go_wp2_with fail
  go_ret
  exact ⟨rfl, rfl⟩
end Go.Proofs.YtbadcknchamimaaDoor
