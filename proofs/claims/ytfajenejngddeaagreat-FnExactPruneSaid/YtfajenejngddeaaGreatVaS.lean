/-
  spec.l06At.
-/
import Derived.Test.YtfajenejngddeaaGreatVaL
import Derived.Test.YtfajenejngddeaaGreatWrT
namespace Go.Proofs.YtfajenejngddeaaGreat
open Go.RowKit Go.Maps

end Go.Proofs.YtfajenejngddeaaGreat
