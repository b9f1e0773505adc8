/-
  The program's tests of versions: one, a list, the writes of a session.
-/
import Derived.Test.YtdnjgbckkmbmfaaGreatVrO
namespace Go.Proofs.YtdnjgbckkmbmfaaGreat
open Go.RowKit

end Go.Proofs.YtdnjgbckkmbmfaaGreat
