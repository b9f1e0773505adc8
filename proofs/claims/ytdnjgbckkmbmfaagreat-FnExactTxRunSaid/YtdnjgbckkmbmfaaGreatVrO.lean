/-
  The program's tests of versions: one, how two stand, a list.
-/
import Derived.Test.YtdnjgbckkmbmfaaGreatVrL
import Derived.Test.YtdnjgbckkmbmfaaGreatPageA
import Derived.Lib.Bytealg
import Derived.Deep.RegionWith
import Derived.Deep.RegionHeld3
import Derived.Deep.Cut
namespace Go.Proofs.YtdnjgbckkmbmfaaGreat
open Go.RowKit

end Go.Proofs.YtdnjgbckkmbmfaaGreat
