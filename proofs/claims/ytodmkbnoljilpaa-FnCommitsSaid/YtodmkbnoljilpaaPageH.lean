/-
  A drop and a split done to what a page is.
-/
import Derived.Test.YtodmkbnoljilpaaPageG
namespace Go.Proofs.Ytodmkbnoljilpaa
open Go.RowKit

end Go.Proofs.Ytodmkbnoljilpaa
