/-
  The specification's test of a list of versions.
-/
import Derived.Test.YtdnjgbckkmbmfaaGreatVsA
import Derived.Deep.Cut
namespace Go.Proofs.YtdnjgbckkmbmfaaGreat
open Go.RowKit

end Go.Proofs.YtdnjgbckkmbmfaaGreat
