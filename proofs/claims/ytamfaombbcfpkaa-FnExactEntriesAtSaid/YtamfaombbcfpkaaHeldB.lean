/-
  The walk of heldByteS: the marks are found again.
-/
import Derived.Test.YtamfaombbcfpkaaMark
namespace Go.Proofs.Ytamfaombbcfpkaa
open Go.RowKit

end Go.Proofs.Ytamfaombbcfpkaa
