/-
  What a change behind a page's chain does to what is found, as plain data.
-/
import Derived.Test.YtbboigidkimkmaaLkE
import Derived.Test.YtbboigidkimkmaaPageS
namespace Go.Proofs.Ytbboigidkimkmaa
open Go.RowKit

end Go.Proofs.Ytbboigidkimkmaa
