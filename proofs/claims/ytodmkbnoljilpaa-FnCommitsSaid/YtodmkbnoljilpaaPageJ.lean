/-
  What a page is behind all its changes: settle.
-/
import Derived.Test.YtodmkbnoljilpaaPageI
namespace Go.Proofs.Ytodmkbnoljilpaa
open Go.RowKit

end Go.Proofs.Ytodmkbnoljilpaa
