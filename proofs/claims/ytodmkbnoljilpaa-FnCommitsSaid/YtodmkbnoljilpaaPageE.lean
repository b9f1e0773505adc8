/-
  slices.Delete of one entry, over entries of the call's own.
-/
import Derived.Test.YtodmkbnoljilpaaPageD
namespace Go.Proofs.Ytodmkbnoljilpaa
open Go.RowKit

end Go.Proofs.Ytodmkbnoljilpaa
