/-
  Versions as plain data: when they are right; the program's small tests of them.
-/
import Derived.Test.YtdnjgbckkmbmfaaGreatVvA
import Derived.Test.YtdnjgbckkmbmfaaGreatVrW
namespace Go.Proofs.YtdnjgbckkmbmfaaGreat
open Go.RowKit

def fenK (next : Int) (f : FenD) : Bool := decide (f.f.size ≤ 40) && (decide (f.u.size ≤ 41) && (decide (1 ≤ f.t) && decide (f.t < next)))
def sesK (next : Int) (s : SesD) : Bool := if s.o = true then decide (1 ≤ s.t) && (decide (s.t < next) && wrV s.ws s.t) else decide (s.t = 0) && decide (s.ws.length = 0)
end Go.Proofs.YtdnjgbckkmbmfaaGreat
