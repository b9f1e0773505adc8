/-
  The walks of szFence, szFenceS, toFence, toFenceS.
-/
import Derived.Test.YtcflepnckjappaaGreatFnC
namespace Go.Proofs.YtcflepnckjappaaGreat
open Go.RowKit

theorem Tryz.infoFence : (Tryz.prog.info? 232).map (fun i => (i.zero, i.size, i.bytes)) = some (some (.agg #[.string ByteArray.empty, .string ByteArray.empty, .int .i64 0]), 3, 40) := by kernel_rfl
end Go.Proofs.YtcflepnckjappaaGreat
