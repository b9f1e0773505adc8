/-
  The walk of heldByteS: the marks are found again.
-/
import Derived.Test.YtkggpapmhopaeabMark
namespace Go.Proofs.Ytkggpapmhopaeab
open Go.RowKit

end Go.Proofs.Ytkggpapmhopaeab
