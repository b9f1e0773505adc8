/-
  The walk of heldByteS: the marks are found again.
-/
import Derived.Test.YtmmembhicnpocajMark
namespace Go.Proofs.Ytmmembhicnpocaj
open Go.RowKit

end Go.Proofs.Ytmmembhicnpocaj
