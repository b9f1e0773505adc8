/-
  The walk of heldByteS: the marks are found again.
-/
import Derived.Test.YtbhkmmdcdfjbkaaMark
namespace Go.Proofs.Ytbhkmmdcdfjbkaa
open Go.RowKit

end Go.Proofs.Ytbhkmmdcdfjbkaa
