/-
  The walks of szFence, szFenceS, toFence, toFenceS.
-/
import Derived.Test.YtodmkbnoljilpaaFnC
namespace Go.Proofs.Ytodmkbnoljilpaa
open Go.RowKit

theorem Try.infoFence : (Try.prog.info? 74).map (fun i => (i.zero, i.size, i.bytes)) = some (some (.agg #[.string ByteArray.empty, .string ByteArray.empty, .int .i64 0]), 3, 40) := by kernel_rfl
end Go.Proofs.Ytodmkbnoljilpaa
