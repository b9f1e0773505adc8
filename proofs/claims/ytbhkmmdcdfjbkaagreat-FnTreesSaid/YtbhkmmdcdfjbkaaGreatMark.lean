/-
  The walk of markByteS: the marks are laid, and nothing else is written.
-/
import Derived.Test.YtbhkmmdcdfjbkaaGreatBytes
namespace Go.Proofs.YtbhkmmdcdfjbkaaGreat
open Go.RowKit

end Go.Proofs.YtbhkmmdcdfjbkaaGreat
