/-
  The walk of markByteS: the marks are laid, and nothing else is written.
-/
import Derived.Test.YtdnjgbckkmbmfaaGreatBytes
namespace Go.Proofs.YtdnjgbckkmbmfaaGreat
open Go.RowKit

end Go.Proofs.YtdnjgbckkmbmfaaGreat
