/-
  The program's test of the writes of a session.
-/
import Derived.Test.YtdnjgbckkmbmfaaGreatVrQ
namespace Go.Proofs.YtdnjgbckkmbmfaaGreat
open Go.RowKit

end Go.Proofs.YtdnjgbckkmbmfaaGreat
