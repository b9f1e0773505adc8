/-
  Sessions: the walks of toSessionS, eqSession, eqSessionS.
-/
import Derived.Test.YtdnjgbckkmbmfaaGreatSsA
namespace Go.Proofs.YtdnjgbckkmbmfaaGreat
open Go.RowKit

theorem Tryz.infoSession : (Tryz.prog.info? 55).map (fun i => (i.zero, i.size, i.bytes)) = some (some (.agg #[.bool false, .int .i64 0, .slice none 0 0]), 3, 40) := by kernel_rfl
end Go.Proofs.YtdnjgbckkmbmfaaGreat
