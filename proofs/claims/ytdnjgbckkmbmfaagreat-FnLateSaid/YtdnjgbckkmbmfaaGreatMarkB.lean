/-
  The walk of markByteS over whatever slice.
-/
import Derived.Test.YtdnjgbckkmbmfaaGreatMark
namespace Go.Proofs.YtdnjgbckkmbmfaaGreat
open Go.RowKit

end Go.Proofs.YtdnjgbckkmbmfaaGreat
