/-
  Bytes that are marked, beside those that are copied.
-/
import Derived.Test.YtmnijhjlindfbaaTo
import Derived.Test.YtmnijhjlindfbaaMarkB
namespace Go.Proofs.Ytmnijhjlindfbaa
end Go.Proofs.Ytmnijhjlindfbaa
