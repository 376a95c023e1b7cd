/-
  What CurveBits wants besides: regions that hold a fact of the world while their order is drawn.
-/
import Derived.Test.YtakjpkdpcmnpgaaCurveH
import Derived.Test.YtakjpkdpcmnpgaaBytes
import Derived.Deep.RegionHeld
namespace Go.Proofs.Ytakjpkdpcmnpgaa
end Go.Proofs.Ytakjpkdpcmnpgaa
