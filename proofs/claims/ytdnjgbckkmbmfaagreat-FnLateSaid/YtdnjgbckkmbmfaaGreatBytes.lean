/-
  The walk of eqByteS.
-/
import Derived.Test.YtdnjgbckkmbmfaaGreatOwn
namespace Go.Proofs.YtdnjgbckkmbmfaaGreat
open Go.RowKit

end Go.Proofs.YtdnjgbckkmbmfaaGreat
