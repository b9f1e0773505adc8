/-
  A change done to what a page is.
-/
import Derived.Test.YtfajenejngddeaaGreatPageE
import Derived.Test.YtfajenejngddeaaGreatPageF
import Derived.Deep.DeepCutAuto
namespace Go.Proofs.YtfajenejngddeaaGreat
open Go.RowKit

end Go.Proofs.YtfajenejngddeaaGreat
