/-
  The walk of eqByteS.
-/
import Derived.Test.YtbhkmmdcdfjbkaaGreatOwn
namespace Go.Proofs.YtbhkmmdcdfjbkaaGreat
open Go.RowKit

end Go.Proofs.YtbhkmmdcdfjbkaaGreat
