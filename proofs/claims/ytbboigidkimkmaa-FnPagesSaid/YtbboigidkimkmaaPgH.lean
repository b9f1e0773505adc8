/-
  Marks found again; pages as data with lists of the call's own; markPage, heldPage, eqPage over them.
-/
import Derived.Test.YtbboigidkimkmaaPgM
namespace Go.Proofs.Ytbboigidkimkmaa
open Go.RowKit

end Go.Proofs.Ytbboigidkimkmaa
