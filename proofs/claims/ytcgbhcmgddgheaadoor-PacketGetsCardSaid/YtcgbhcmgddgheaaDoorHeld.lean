/-
  A region that draws its order, its loads first: the library's word for it.
-/
import Derived.Deep.RegionHeld3
import Derived.Test.YtcgbhcmgddgheaaDoorKit
namespace Go.Proofs.YtcgbhcmgddgheaaDoor
theorem heldOne : (1 : Nat) = 1 := rfl
end Go.Proofs.YtcgbhcmgddgheaaDoor
