/-
  The walk of eqByteS.
-/
import Derived.Test.YtfajenejngddeaaGreatOwn
namespace Go.Proofs.YtfajenejngddeaaGreat
open Go.RowKit

end Go.Proofs.YtfajenejngddeaaGreat
