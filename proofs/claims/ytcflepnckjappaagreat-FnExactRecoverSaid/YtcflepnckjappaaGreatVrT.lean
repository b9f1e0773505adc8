/-
  The walks of szVersion, szVersionS, toVersion, toVersionS.
-/
import Derived.Test.YtcflepnckjappaaGreatVrC
namespace Go.Proofs.YtcflepnckjappaaGreat
open Go.RowKit

theorem Tryz.infoVersion : (Tryz.prog.info? 51).map (fun i => (i.zero, i.size, i.bytes)) = some (some (.agg #[.string ByteArray.empty, .int .i64 0, .string ByteArray.empty, .bool false]), 4, 48) := by kernel_rfl
end Go.Proofs.YtcflepnckjappaaGreat
