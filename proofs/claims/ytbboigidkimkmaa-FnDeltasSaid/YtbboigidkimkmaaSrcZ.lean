/-
  How large a drawn thing may be.
-/
import Derived.Test.YtbboigidkimkmaaSrcN
namespace Go.Proofs.Ytbboigidkimkmaa
open Go.RowKit

end Go.Proofs.Ytbboigidkimkmaa
