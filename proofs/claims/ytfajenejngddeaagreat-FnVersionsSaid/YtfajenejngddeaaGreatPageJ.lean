/-
  What a page is behind all its changes: settle.
-/
import Derived.Test.YtfajenejngddeaaGreatPageI
namespace Go.Proofs.YtfajenejngddeaaGreat
open Go.RowKit

end Go.Proofs.YtfajenejngddeaaGreat
