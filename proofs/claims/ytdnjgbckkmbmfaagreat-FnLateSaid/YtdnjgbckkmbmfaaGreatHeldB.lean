/-
  The walk of heldByteS: the marks are found again.
-/
import Derived.Test.YtdnjgbckkmbmfaaGreatMark
namespace Go.Proofs.YtdnjgbckkmbmfaaGreat
open Go.RowKit

end Go.Proofs.YtdnjgbckkmbmfaaGreat
