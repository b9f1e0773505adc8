/-
  The walk of heldByteS: the marks are found again.
-/
import Derived.Test.YtnnanffjgoncgaaGreatMark
namespace Go.Proofs.YtnnanffjgoncgaaGreat
open Go.RowKit

end Go.Proofs.YtnnanffjgoncgaaGreat
