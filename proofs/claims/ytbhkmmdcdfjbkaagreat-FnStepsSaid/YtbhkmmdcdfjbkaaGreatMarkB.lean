/-
  The walk of markByteS over whatever slice.
-/
import Derived.Test.YtbhkmmdcdfjbkaaGreatMark
namespace Go.Proofs.YtbhkmmdcdfjbkaaGreat
open Go.RowKit

end Go.Proofs.YtbhkmmdcdfjbkaaGreat
