/-
  The walk of eqByteS.
-/
import Derived.Test.YtbhkmmdcdfjbkaaOwn
namespace Go.Proofs.Ytbhkmmdcdfjbkaa
open Go.RowKit

end Go.Proofs.Ytbhkmmdcdfjbkaa
