/-
  A region that draws its order and holds a call, all orders: the library's word for it.
-/
import Derived.Deep.RegionWith
import Derived.Test.YtfikcjbdbablpaaDoorKit
namespace Go.Proofs.YtfikcjbdbablpaaDoor
theorem withOne : (1 : Nat) = 1 := rfl
end Go.Proofs.YtfikcjbdbablpaaDoor
