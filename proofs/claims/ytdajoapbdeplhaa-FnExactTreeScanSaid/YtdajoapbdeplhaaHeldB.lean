/-
  The walk of heldByteS: the marks are found again.
-/
import Derived.Test.YtdajoapbdeplhaaMark
namespace Go.Proofs.Ytdajoapbdeplhaa
open Go.RowKit

end Go.Proofs.Ytdajoapbdeplhaa
