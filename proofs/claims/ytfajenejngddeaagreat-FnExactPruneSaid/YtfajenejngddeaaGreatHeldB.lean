/-
  The walk of heldByteS: the marks are found again.
-/
import Derived.Test.YtfajenejngddeaaGreatMark
namespace Go.Proofs.YtfajenejngddeaaGreat
open Go.RowKit

end Go.Proofs.YtfajenejngddeaaGreat
