/-
  THE LISTED TABLES of unicode/utf8, one of them pinned: the start that lays them. No walk here reads them.
-/
import Derived.Test.YtddpfbeclmgndaaDoorRows
import Derived.Test.YtddpfbeclmgndaaDoorTie
import Derived.ProofKit
import Derived.LaidMore
import Derived.Lay
import Derived.OpenShut
import Derived.Stop.Joined
import Derived.SevenTiedAt
import Derived.Below
namespace Go.Proofs.YtddpfbeclmgndaaDoor
open Go Go.ChangeShapes Go.WideShapes Go.ChangeAt Go.RowKit
theorem own : ownKnob Tryd.prog.godebug = none := by kernel_rfl
theorem laidOut : laidOutB Tryd.prog = true := by kernel_rfl
def laids : List (String × DataW Unit) := [("unicode/utf8.acceptRanges", Rows.laid_unicode_utf8_acceptRanges), ("unicode/utf8.first", Rows.laid_unicode_utf8_first)]
/-- Nothing is read of them. -/
def Tab (_ : World) : Prop := True
theorem tab_of_laid {W : World} (_ : laidMetH Tryd.prog laids W) : Tab W := trivial
set_option maxRecDepth 100000 in
theorem start_shaped (os : Os) : (World.laidAll Tryd.prog os laids).Shaped Tryd.prog := World.shaped_of_ZipB (by kernel_rfl) (by kernel_rfl)
set_option maxRecDepth 100000 in
theorem start_met (os : Os) (args : Array Value) : laidMetH Tryd.prog laids ((World.laidAll Tryd.prog os laids).forCall (fun _ _ => 0) ⟨#[], args, []⟩).memory := by
  rw [MakeChecks.laidMetH_plain _ _ _ (by kernel_rfl)]
  exact laidMet_laidAll _ (by kernel_rfl) (by kernel_rfl)
end Go.Proofs.YtddpfbeclmgndaaDoor
