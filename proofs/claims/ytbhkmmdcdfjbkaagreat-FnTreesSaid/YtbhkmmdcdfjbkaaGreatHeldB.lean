/-
  The walk of heldByteS: the marks are found again.
-/
import Derived.Test.YtbhkmmdcdfjbkaaGreatMark
namespace Go.Proofs.YtbhkmmdcdfjbkaaGreat
open Go.RowKit

end Go.Proofs.YtbhkmmdcdfjbkaaGreat
