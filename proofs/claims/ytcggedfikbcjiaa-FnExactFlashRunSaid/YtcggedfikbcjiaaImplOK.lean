/-
  The walk of impl.FlashOK.
-/
import Derived.Test.YtcggedfikbcjiaaFlashOK
namespace Go.Proofs.Ytcggedfikbcjiaa
open Go.RowKit

end Go.Proofs.Ytcggedfikbcjiaa
