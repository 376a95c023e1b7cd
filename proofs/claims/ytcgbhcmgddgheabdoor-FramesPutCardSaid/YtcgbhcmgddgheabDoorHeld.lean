/-
  A region that draws its order, its loads first: the library's word for it.
-/
import Derived.Deep.RegionHeld3
import Derived.Test.YtcgbhcmgddgheabDoorKit
namespace Go.Proofs.YtcgbhcmgddgheabDoor
theorem heldOne : (1 : Nat) = 1 := rfl
end Go.Proofs.YtcgbhcmgddgheabDoor
