/-
  slices.Delete of one entry, over entries of the call's own.
-/
import Derived.Test.YtfajenejngddeaaGreatPageD
namespace Go.Proofs.YtfajenejngddeaaGreat
open Go.RowKit

end Go.Proofs.YtfajenejngddeaaGreat
