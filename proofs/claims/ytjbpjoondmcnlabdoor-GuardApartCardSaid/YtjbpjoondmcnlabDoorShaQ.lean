/-
  THE DOCUMENT's turn and keys (rhyneref01).
-/
import Derived.Test.YtjbpjoondmcnlabDoorMg03
import Derived.Test.YtjbpjoondmcnlabDoorMg04
set_option maxRecDepth 100000
namespace Go.Proofs.YtjbpjoondmcnlabDoor
open Go Go.RowKit Go.BigFrame
set_option linter.unusedSimpArgs false
set_option linter.unusedVariables false
end Go.Proofs.YtjbpjoondmcnlabDoor
