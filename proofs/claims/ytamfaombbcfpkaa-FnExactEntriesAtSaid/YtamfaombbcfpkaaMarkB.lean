/-
  The walk of markByteS over whatever slice.
-/
import Derived.Test.YtamfaombbcfpkaaMark
namespace Go.Proofs.Ytamfaombbcfpkaa
open Go.RowKit

end Go.Proofs.Ytamfaombbcfpkaa
