/-
  THE CONSTANTS OF sha, A LISTED TABLE: what the row's condition says of it; the start that meets it.
-/
import Derived.Test.YtebhhonmpoeliaaDoorRows
import Derived.Test.YtebhhonmpoeliaaDoorTie
import Derived.Test.YtebhhonmpoeliaaDoorKit
import Derived.Test.YtebhhonmpoeliaaDoorShaMath
import Derived.ProofKit
import Derived.LaidMore
import Derived.OpenShut
import Derived.Stop.Joined
import Derived.Lib.LaidTab
import Derived.Below
namespace Go.Proofs.YtebhhonmpoeliaaDoor
open Go Go.ChangeShapes Go.WideShapes Go.ChangeAt Go.RowKit
theorem own : ownKnob Tryd.prog.godebug = none := by kernel_rfl
theorem laidOut : laidOutB Tryd.prog = true := by kernel_rfl
def laids : List (String × DataW Unit) := [("rhyne/sha.constants", Rows.laid_rhyne_sha_constants)]
theorem gK : Tryd.prog.globalNamed "rhyne/sha.constants" = some 0 := by kernel_rfl
theorem tyK : (Tryd.prog.globals[0]?).map (·.type) = some 71 := by kernel_rfl
theorem underK : Tryd.prog.underlying 71 = some (.array 64 56) := by kernel_rfl
theorem under32 : Tryd.prog.underlying 56 = some (.int .u32) := by kernel_rfl
theorem cells32 : Tryd.prog.cellsOf 56 = 1 := by kernel_rfl
theorem cellsK : Tryd.prog.cellsOf 71 = 64 := by kernel_rfl
def tabN : List Nat := [1116352408, 1899447441, 3049323471, 3921009573, 961987163, 1508970993, 2453635748, 2870763221, 3624381080, 310598401, 607225278, 1426881987, 1925078388, 2162078206, 2614888103, 3248222580, 3835390401, 4022224774, 264347078, 604807628, 770255983, 1249150122, 1555081692, 1996064986, 2554220882, 2821834349, 2952996808, 3210313671, 3336571891, 3584528711, 113926993, 338241895, 666307205, 773529912, 1294757372, 1396182291, 1695183700, 1986661051, 2177026350, 2456956037, 2730485921, 2820302411, 3259730800, 3345764771, 3516065817, 3600352804, 4094571909, 275423344, 430227734, 506948616, 659060556, 883997877, 958139571, 1322822218, 1537002063, 1747873779, 1955562222, 2024104815, 2227730452, 2361852424, 2428436474, 2756734187, 3204031479, 3329325298]
def tabK : List Int := tabN.map fun n : Nat => (n : Int)
theorem dataK : (Rows.laid_rhyne_sha_constants : DataW Unit) = Lib.tabData .u32 tabK := rfl
/-- A step's constant. -/
def kW (i : Nat) : BitVec 32 := BitVec.ofNat 32 (tabN.getD i 0)
theorem tabN_lt : ∀ i, i < 64 → tabN.getD i 0 < 4294967296 := by decide
theorem kW_n (i : Nat) (h : i < 64) : n32 (kW i) = tabK.getD i 0 := by
  have h1 := tabN_lt i h
  have e : tabK.getD i 0 = ((tabN.getD i 0 : Nat) : Int) := by
    unfold tabK
    simp only [List.getD_eq_getElem?_getD, List.getElem?_map]
    cases tabN[i]? <;> rfl
  rw [e]
  have q : (kW i).toNat = tabN.getD i 0 := by
    unfold kW
    rw [BitVec.toNat_ofNat]
    exact Nat.mod_eq_of_lt h1
  rw [← q]
  unfold n32
  rfl
/-- The door's own heap meets the condition. -/
theorem door_met (os : Os) (args : Array Value) : laidMetH Tryd.prog laids ((World.doorLaid Tryd.prog 14 os).forCall (fun _ _ => 0) ⟨#[], args, []⟩).memory :=
  laidMetH_of_parts3 (fuel := 8) (laidMet_of_run' 8 (by kernel_rfl) (by kernel_rfl)) (by kernel_rfl) (by kernel_rfl)
/-- The table's cells. -/
structure TabK (w : World) : Prop where
  cell : ∀ i, i < 64 → w.cell? ⟨0, i, none⟩ = some (.int .u32 (n32 (kW i)))
theorem TabK.lt {w : World} (h : TabK w) : 0 < w.heap.size := World.block_lt_of_cell? w _ (h.cell 0 (by omega))
theorem TabK.later {w w1 : World} (h : TabK w) (hb : Below w.heap.size w w1) : TabK w1 :=
  ⟨fun i hi => by rw [hb.cell (p := ⟨0, i, none⟩) h.lt]; exact h.cell i hi⟩
theorem tabK_of_laid {W : World} (h : laidMetH Tryd.prog laids W) : TabK W := by
  rw [MakeChecks.laidMetH_plain _ _ _ (by kernel_rfl)] at h
  obtain ⟨ps, ⟨g1, t1, cs1, f1, p1, q1, hg1, ht1, hv1, hd1, _, _⟩, _, _⟩ := h
  obtain rfl := Option.some.inj (gK.symm.trans hg1)
  obtain rfl := Option.some.inj (tyK.symm.trans ht1)
  rw [dataK] at hd1
  have hc := Lib.cells_of_tab underK under32 cells32 cellsK hd1
  refine ⟨fun i hi => ?_⟩
  have h1 := World.var?_cell hg1 hv1 i
  rw [h1, ← Array.getElem?_toList, hc, kW_n i hi]
  have hl : i < tabK.length := by rw [show tabK.length = 64 from rfl]; exact hi
  simp [hl]
end Go.Proofs.YtebhhonmpoeliaaDoor
