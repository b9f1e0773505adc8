/-
  The walks of eqVersion, eqVersionS where both sides hold the same.
-/
import Derived.Test.YtfajenejngddeaaGreatVrC
import Derived.Deep.RegionWith
namespace Go.Proofs.YtfajenejngddeaaGreat
open Go.RowKit

end Go.Proofs.YtfajenejngddeaaGreat
