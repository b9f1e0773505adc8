/-
  A drop and a split done to what a page is.
-/
import Derived.Test.YtfajenejngddeaaGreatPageG
namespace Go.Proofs.YtfajenejngddeaaGreat
open Go.RowKit

end Go.Proofs.YtfajenejngddeaaGreat
