/-
  SERIALS: Less and Add, the program's and the document's, as statements on numbers.
-/
import Derived.Test.YtakmiaceefhafaaChecked
import Derived.Test.YtakmiaceefhafaaWords
import Derived.Test.YtakmiaceefhafaaKit
namespace Go.Proofs.Ytakmiaceefhafaa.SerA
open Go Go.RowKit Go.Proofs.Ytakmiaceefhafaa
set_option maxRecDepth 100000
def ser (n : Int) : Prop := 0 ≤ n ∧ n ≤ 4294967295
def ahead (a b : Int) : Prop := 0 ≤ a ∧ a ≤ 4294967295 ∧ 0 ≤ b ∧ b ≤ 4294967295 ∧ 1 ≤ (b - a) % 4294967296 ∧ (b - a) % 4294967296 ≤ 2147483647
instance (a b : Int) : Decidable (ahead a b) := by unfold ahead; infer_instance
theorem less_any (a b : Int) (w : World) :
    Calls Try.prog 8 #[.int .i64 a, .int .i64 b] w fun e w' => e = .returned (.bool (decide (ahead a b))) ∧ w' = w := by
  go_enter Try.func8, Try.ntmps8
  go_wp2
  all_goals (go_ret; refine ⟨?_, rfl⟩)
  all_goals (unfold ahead; simp_all; try first | omega | (intros; omega) | (exact decide_eq_false (by omega)) | (rw [Bool.eq_iff_iff]; simp only [Bool.and_eq_true, decide_eq_true_eq, Bool.false_eq_true]; omega))
theorem refLess_any (a b : Int) (w : World) :
    Calls Try.prog 9 #[.int .i64 a, .int .i64 b] w fun e w' => e = .returned (.bool (decide (ahead a b))) ∧ w' = w := by
  go_enter Try.func9, Try.ntmps9
  go_wp2
  all_goals (go_ret; refine ⟨?_, rfl⟩)
  all_goals (unfold ahead; simp_all; try first | omega | (intros; omega) | (exact decide_eq_false (by omega)) | (rw [Bool.eq_iff_iff]; simp only [Bool.and_eq_true, decide_eq_true_eq]; omega))
/-- What Add answers. -/
def addN (a n : Int) : Int := if 0 ≤ a ∧ a ≤ 4294967295 ∧ 0 ≤ n ∧ n ≤ 2147483647 then (a + n) % 4294967296 else 0
def addE (a n : Int) : Int := if 0 ≤ a ∧ a ≤ 4294967295 ∧ 0 ≤ n ∧ n ≤ 2147483647 then 0 else 1
theorem add_any (a n : Int) (w : World) :
    Calls Try.prog 6 #[.int .i64 a, .int .i64 n] w fun e w' => e = .returned (.tuple #[.int .i64 (addN a n), .int .i64 (addE a n)]) ∧ w' = w := by
  go_enter Try.func6, Try.ntmps6
  go_wp2
  all_goals (go_ret2; refine ⟨?_, rfl⟩)
  all_goals (unfold addN addE; simp_all; try first | omega | (intros; omega))
theorem refAdd_any (a n : Int) (w : World) :
    Calls Try.prog 5 #[.int .i64 a, .int .i64 n] w fun e w' => e = .returned (.tuple #[.int .i64 (addN a n), .int .i64 (addE a n)]) ∧ w' = w := by
  go_enter Try.func5, Try.ntmps5
  go_wp2
  all_goals (go_ret2; refine ⟨?_, rfl⟩)
  all_goals (unfold addN addE; simp_all; try first | omega | (intros; omega))
theorem rounds_any (w : World) : Calls Try.prog 7 #[] w fun e w' => e = .returned (.bool true) ∧ w' = w := by
  go_enter Try.func7, Try.ntmps7
  go_wp2
  all_goals (go_ret; exact ⟨rfl, rfl⟩)
end Go.Proofs.Ytakmiaceefhafaa.SerA
