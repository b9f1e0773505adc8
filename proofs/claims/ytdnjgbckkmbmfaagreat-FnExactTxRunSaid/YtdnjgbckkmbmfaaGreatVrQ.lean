/-
  The program's test of a list of versions.
-/
import Derived.Test.YtdnjgbckkmbmfaaGreatVrP
import Derived.Test.YtdnjgbckkmbmfaaGreatTakes
namespace Go.Proofs.YtdnjgbckkmbmfaaGreat
open Go.RowKit

end Go.Proofs.YtdnjgbckkmbmfaaGreat
