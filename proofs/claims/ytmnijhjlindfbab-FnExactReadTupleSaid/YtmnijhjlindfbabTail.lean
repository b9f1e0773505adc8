/-
  Bytes that are marked, beside those that are copied.
-/
import Derived.Test.YtmnijhjlindfbabTo
import Derived.Test.YtmnijhjlindfbabMarkB
namespace Go.Proofs.Ytmnijhjlindfbab
end Go.Proofs.Ytmnijhjlindfbab
