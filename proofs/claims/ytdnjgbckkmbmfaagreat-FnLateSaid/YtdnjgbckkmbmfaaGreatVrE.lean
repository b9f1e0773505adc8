/-
  The walks of eqVersion, eqVersionS where both sides hold the same.
-/
import Derived.Test.YtdnjgbckkmbmfaaGreatVrC
import Derived.Deep.RegionWith
namespace Go.Proofs.YtdnjgbckkmbmfaaGreat
open Go.RowKit

end Go.Proofs.YtdnjgbckkmbmfaaGreat
