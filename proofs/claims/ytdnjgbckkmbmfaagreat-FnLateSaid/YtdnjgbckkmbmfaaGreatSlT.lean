/-
  A slice as it is held in a cell.
-/
import Derived.Test.YtdnjgbckkmbmfaaGreatRowB
namespace Go.Proofs.YtdnjgbckkmbmfaaGreat
open Go.RowKit

structure Sl where
 a : Option Addr
 n : Nat
 c : Nat
end Go.Proofs.YtdnjgbckkmbmfaaGreat
