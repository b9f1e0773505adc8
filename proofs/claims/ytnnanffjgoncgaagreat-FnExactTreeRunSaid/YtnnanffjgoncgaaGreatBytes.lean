/-
  The walk of eqByteS.
-/
import Derived.Test.YtnnanffjgoncgaaGreatOwn
namespace Go.Proofs.YtnnanffjgoncgaaGreat
open Go.RowKit

end Go.Proofs.YtnnanffjgoncgaaGreat
