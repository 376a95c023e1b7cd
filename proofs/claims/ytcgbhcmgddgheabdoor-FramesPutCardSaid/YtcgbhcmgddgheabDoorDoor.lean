/-
  THE LISTED TABLES OF math/bits: what the row's condition says of them, in the walk's words; the start that meets it.
-/
import Derived.Test.YtcgbhcmgddgheabDoorRows
import Derived.Test.YtcgbhcmgddgheabDoorTie
import Derived.ProofKit
import Derived.LaidMore
import Derived.OpenShut
import Derived.Stop.Joined
import Derived.Lib.LaidTab
import Derived.Lib.TrailingZeros
import Derived.Below
namespace Go.Proofs.YtcgbhcmgddgheabDoor
open Go Go.ChangeShapes Go.WideShapes Go.ChangeAt Go.RowKit
theorem own : ownKnob Tryd.prog.godebug = none := by kernel_rfl
theorem laidOut : laidOutB Tryd.prog = true := by kernel_rfl
def laids : List (String × DataW Unit) := [("math/bits.deBruijn32tab", Rows.laid_math_bits_deBruijn32tab), ("math/bits.deBruijn64tab", Rows.laid_math_bits_deBruijn64tab)]
theorem g64 : Tryd.prog.globalNamed "math/bits.deBruijn64tab" = some 1 := by kernel_rfl
theorem ty64 : (Tryd.prog.globals[1]?).map (·.type) = some 95 := by kernel_rfl
theorem under64 : Tryd.prog.underlying 95 = some (.array 64 5) := by kernel_rfl
theorem under8 : Tryd.prog.underlying 5 = some (.int .u8) := by kernel_rfl
theorem cells8 : Tryd.prog.cellsOf 5 = 1 := by kernel_rfl
theorem cells64 : Tryd.prog.cellsOf 95 = 64 := by kernel_rfl
def tab64 : List Int := Lib.deBruijn64tab.map fun n : Nat => (n : Int)
theorem data64 : (Rows.laid_math_bits_deBruijn64tab : DataW Unit) = Lib.tabData .u8 tab64 := rfl
/-- The door's own heap meets the condition. -/
theorem door_met (os : Os) (args : Array Value) : laidMetH Tryd.prog laids ((World.doorLaid Tryd.prog 19 os).forCall (fun _ _ => 0) ⟨#[], args, []⟩).memory :=
  laidMetH_of_parts3 (fuel := 8) (laidMet_of_run' 8 (by kernel_rfl) (by kernel_rfl)) (by kernel_rfl) (by kernel_rfl)
/-- The table of 64 bytes in its variable: the cells that are read. -/
structure Tab (w : World) : Prop where
  c0 : w.cell? ⟨1, 0, none⟩ = some (.int .u8 0)
  c1 : w.cell? ⟨1, 1, none⟩ = some (.int .u8 1)
  c3 : w.cell? ⟨1, 3, none⟩ = some (.int .u8 2)
  c7 : w.cell? ⟨1, 7, none⟩ = some (.int .u8 3)
theorem Tab.lt {w : World} (h : Tab w) : 1 < w.heap.size := World.block_lt_of_cell? w _ h.c0
theorem Tab.later {w w1 : World} (h : Tab w) (hb : Below w.heap.size w w1) : Tab w1 :=
  ⟨by rw [hb.cell (p := ⟨1, 0, none⟩) h.lt]; exact h.c0, by rw [hb.cell (p := ⟨1, 1, none⟩) h.lt]; exact h.c1,
   by rw [hb.cell (p := ⟨1, 3, none⟩) h.lt]; exact h.c3, by rw [hb.cell (p := ⟨1, 7, none⟩) h.lt]; exact h.c7⟩
theorem tab_of_laid {W : World} (h : laidMetH Tryd.prog laids W) : Tab W := by
  rw [MakeChecks.laidMetH_plain _ _ _ (by kernel_rfl)] at h
  obtain ⟨ps, ⟨g0, t0, cs0, f0, p0, q0, hg0, ht0, hv0, hd0, ⟨g1, t1, cs1, f1, p1, q1, hg1, ht1, hv1, hd1, _, _⟩, _⟩, _, _⟩ := h
  obtain rfl := Option.some.inj (g64.symm.trans hg1)
  obtain rfl := Option.some.inj (ty64.symm.trans ht1)
  rw [data64] at hd1
  have hc := Lib.cells_of_tab under64 under8 cells8 cells64 hd1
  have key : ∀ i, i < 64 → W.cell? ⟨1, i, none⟩ = some (.int .u8 (tab64.getD i 0)) := fun i hi => by
    have h1 := World.var?_cell hg1 hv1 i
    rw [h1, ← Array.getElem?_toList, hc]
    have hl : i < tab64.length := by rw [show tab64.length = 64 from rfl]; exact hi
    simp [hl]
  exact ⟨key 0 (by omega), key 1 (by omega), key 3 (by omega), key 7 (by omega)⟩
end Go.Proofs.YtcgbhcmgddgheabDoor
