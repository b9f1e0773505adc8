/-
  The walk of markByteS over whatever slice.
-/
import Derived.Test.YtfajenejngddeaaGreatMark
namespace Go.Proofs.YtfajenejngddeaaGreat
open Go.RowKit

end Go.Proofs.YtfajenejngddeaaGreat
