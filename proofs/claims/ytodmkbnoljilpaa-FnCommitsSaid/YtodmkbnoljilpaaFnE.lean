/-
  The walks of eqFence, eqFenceS where both sides hold the same.
-/
import Derived.Test.YtodmkbnoljilpaaFnC
import Derived.Deep.RegionWith
namespace Go.Proofs.Ytodmkbnoljilpaa
open Go.RowKit

end Go.Proofs.Ytodmkbnoljilpaa
