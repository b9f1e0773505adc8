/-
  The walk of markByteS over whatever slice.
-/
import Derived.Test.YtdajoapbdeplhaaMark
namespace Go.Proofs.Ytdajoapbdeplhaa
open Go.RowKit

end Go.Proofs.Ytdajoapbdeplhaa
