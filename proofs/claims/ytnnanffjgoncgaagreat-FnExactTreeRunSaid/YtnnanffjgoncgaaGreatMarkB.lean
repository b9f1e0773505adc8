/-
  The walk of markByteS over whatever slice.
-/
import Derived.Test.YtnnanffjgoncgaaGreatMark
namespace Go.Proofs.YtnnanffjgoncgaaGreat
open Go.RowKit

end Go.Proofs.YtnnanffjgoncgaaGreat
