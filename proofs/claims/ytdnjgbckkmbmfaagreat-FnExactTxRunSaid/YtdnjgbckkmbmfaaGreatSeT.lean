/-
  Lists of Session: the walks of to.., eq.. .
-/
import Derived.Test.YtdnjgbckkmbmfaaGreatSeU
import Derived.Test.YtdnjgbckkmbmfaaGreatSeA
import Derived.Test.YtdnjgbckkmbmfaaGreatWrT
import Derived.Deep.WholeRow
namespace Go.Proofs.YtdnjgbckkmbmfaaGreat
open Go.RowKit

end Go.Proofs.YtdnjgbckkmbmfaaGreat
