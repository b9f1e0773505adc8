/-
  A whole number's bits, its highest one turned.
-/
import Derived.Test.YtgifcaeemfaihaaOwn
set_option maxRecDepth 100000
namespace Go.Proofs.Ytgifcaeemfaihaa
open Go.RowKit

/-- The number of 64 bits that a whole number's bits are, its highest one turned. -/
def rank (n : Int) : Int := bits BinOp.xor IntKind.u64 (IntKind.u64.wrap n) 9223372036854775808

end Go.Proofs.Ytgifcaeemfaihaa
