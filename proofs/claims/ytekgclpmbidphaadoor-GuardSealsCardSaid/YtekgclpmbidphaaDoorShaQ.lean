/-
  THE DOCUMENT's turn and keys (rhyneref01).
-/
import Derived.Test.YtekgclpmbidphaaDoorMg03
import Derived.Test.YtekgclpmbidphaaDoorMg04
set_option maxRecDepth 100000
namespace Go.Proofs.YtekgclpmbidphaaDoor
open Go Go.RowKit Go.BigFrame
set_option linter.unusedSimpArgs false
set_option linter.unusedVariables false
end Go.Proofs.YtekgclpmbidphaaDoor
