/-
  Changes as values.
-/
import Derived.Test.YtfajenejngddeaaGreatPageC
import Derived.Deep.RegionWith
namespace Go.Proofs.YtfajenejngddeaaGreat
open Go.RowKit

end Go.Proofs.YtfajenejngddeaaGreat
