/-
  The walk of markByteS over whatever slice.
-/
import Derived.Test.YtbboigidkimkmaaMark
namespace Go.Proofs.Ytbboigidkimkmaa
open Go.RowKit

end Go.Proofs.Ytbboigidkimkmaa
