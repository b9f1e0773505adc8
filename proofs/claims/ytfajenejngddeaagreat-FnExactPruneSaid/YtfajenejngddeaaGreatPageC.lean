/-
  The search in entries, and what may follow them.
-/
import Derived.Test.YtfajenejngddeaaGreatPageB
namespace Go.Proofs.YtfajenejngddeaaGreat
open Go.RowKit

end Go.Proofs.YtfajenejngddeaaGreat
