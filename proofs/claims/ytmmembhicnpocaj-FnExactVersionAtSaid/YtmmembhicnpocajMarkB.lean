/-
  The walk of markByteS over whatever slice.
-/
import Derived.Test.YtmmembhicnpocajMark
namespace Go.Proofs.Ytmmembhicnpocaj
open Go.RowKit

end Go.Proofs.Ytmmembhicnpocaj
