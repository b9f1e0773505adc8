/-
  Changes as values.
-/
import Derived.Test.YtodmkbnoljilpaaPageC
import Derived.Deep.RegionWith
namespace Go.Proofs.Ytodmkbnoljilpaa
open Go.RowKit

end Go.Proofs.Ytodmkbnoljilpaa
