/-
  A change done to what a page is.
-/
import Derived.Test.YtodmkbnoljilpaaPageE
import Derived.Test.YtodmkbnoljilpaaPageF
import Derived.Deep.DeepCutAuto
namespace Go.Proofs.Ytodmkbnoljilpaa
open Go.RowKit

end Go.Proofs.Ytodmkbnoljilpaa
