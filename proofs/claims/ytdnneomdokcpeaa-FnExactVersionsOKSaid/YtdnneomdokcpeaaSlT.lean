/-
  A slice as it is held in a cell.
-/
import Derived.Test.YtdnneomdokcpeaaRowB
namespace Go.Proofs.Ytdnneomdokcpeaa
open Go.RowKit

/-- A slice: where it lies, how long it is, how long it may become. -/
structure Sl where
  a : Option Addr
  n : Nat
  c : Nat
end Go.Proofs.Ytdnneomdokcpeaa
