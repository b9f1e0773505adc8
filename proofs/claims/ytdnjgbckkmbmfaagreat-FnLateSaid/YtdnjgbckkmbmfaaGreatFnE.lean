/-
  The walks of eqFence, eqFenceS where both sides hold the same.
-/
import Derived.Test.YtdnjgbckkmbmfaaGreatFnC
import Derived.Deep.RegionWith
namespace Go.Proofs.YtdnjgbckkmbmfaaGreat
open Go.RowKit

end Go.Proofs.YtdnjgbckkmbmfaaGreat
