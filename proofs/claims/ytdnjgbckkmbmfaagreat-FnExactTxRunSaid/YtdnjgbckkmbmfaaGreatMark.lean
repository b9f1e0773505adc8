/-
  The walk of markByteS: the marks are laid, and nothing else is written.
-/
import Derived.Test.YtdnjgbckkmbmfaaGreatBytes
namespace Go.Proofs.YtdnjgbckkmbmfaaGreat
open Go.RowKit

def marks (k0 : Int) (n : Nat) : List Int := (List.range n).map fun (i : Nat) => (k0 + (i : Int)) % 256
end Go.Proofs.YtdnjgbckkmbmfaaGreat
