/-
  The walk of heldByteS: the marks are found again.
-/
import Derived.Test.YtcflepnckjappaaGreatMark
namespace Go.Proofs.YtcflepnckjappaaGreat
open Go.RowKit

end Go.Proofs.YtcflepnckjappaaGreat
