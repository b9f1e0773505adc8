/-
  The walk of markByteS over whatever slice.
-/
import Derived.Test.YtbhkmmdcdfjbkaaMark
namespace Go.Proofs.Ytbhkmmdcdfjbkaa
open Go.RowKit

end Go.Proofs.Ytbhkmmdcdfjbkaa
