/-
  The sizes of Versions: what was counted in all.
-/
import Derived.Test.YtdnjgbckkmbmfaaGreatVvA
import Derived.Test.YtdnjgbckkmbmfaaGreatPageL
namespace Go.Proofs.YtdnjgbckkmbmfaaGreat
open Go.RowKit

def vsN (d : VsD) : Nat := d.list.length + d.fen.length + d.ses.length + (d.ses.map (fun s => s.ws.length)).sum
end Go.Proofs.YtdnjgbckkmbmfaaGreat
