/-
  The search in entries, and what may follow them.
-/
import Derived.Test.YtodmkbnoljilpaaPageB
namespace Go.Proofs.Ytodmkbnoljilpaa
open Go.RowKit

end Go.Proofs.Ytodmkbnoljilpaa
