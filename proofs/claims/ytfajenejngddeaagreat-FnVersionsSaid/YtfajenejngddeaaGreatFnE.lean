/-
  The walks of eqFence, eqFenceS where both sides hold the same.
-/
import Derived.Test.YtfajenejngddeaaGreatFnC
import Derived.Deep.RegionWith
namespace Go.Proofs.YtfajenejngddeaaGreat
open Go.RowKit

end Go.Proofs.YtfajenejngddeaaGreat
