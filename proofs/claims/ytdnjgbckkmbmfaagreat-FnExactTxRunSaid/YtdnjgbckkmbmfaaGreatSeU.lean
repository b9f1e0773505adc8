/-
  Rows of versions within records: laid anew.
-/
import Derived.Test.YtdnjgbckkmbmfaaGreatVnC
import Derived.Test.YtdnjgbckkmbmfaaGreatVrT
namespace Go.Proofs.YtdnjgbckkmbmfaaGreat
open Go.RowKit

end Go.Proofs.YtdnjgbckkmbmfaaGreat
