/-
  The walk of heldByteS: the marks are found again.
-/
import Derived.Test.YtbboigidkimkmaaMark
namespace Go.Proofs.Ytbboigidkimkmaa
open Go.RowKit

end Go.Proofs.Ytbboigidkimkmaa
