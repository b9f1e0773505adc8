/-
  The walks of eqVersion, eqVersionS where both sides hold the same.
-/
import Derived.Test.YtodmkbnoljilpaaVrC
import Derived.Deep.RegionWith
namespace Go.Proofs.Ytodmkbnoljilpaa
open Go.RowKit

end Go.Proofs.Ytodmkbnoljilpaa
