/-
  A region that draws its order, its loads first: the library's word for it.
-/
import Derived.Deep.RegionHeld3
import Derived.Test.YtjbpjoondmcnlaaDoorKit
namespace Go.Proofs.YtjbpjoondmcnlaaDoor
theorem heldOne : (1 : Nat) = 1 := rfl
end Go.Proofs.YtjbpjoondmcnlaaDoor
