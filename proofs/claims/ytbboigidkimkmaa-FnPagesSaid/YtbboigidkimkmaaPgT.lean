/-
  The walks of szEntry, szEntryS, szDelta, szDeltaS, szPage, toEntry, toEntryS, toDelta, toDeltaS, toPage.
-/
import Derived.Test.YtbboigidkimkmaaPgC
namespace Go.Proofs.Ytbboigidkimkmaa
open Go.RowKit

theorem Try.infoDelta : (Try.prog.info? 41).map (fun i => (i.zero, i.size, i.bytes)) = some (some (.agg #[.int .i64 0, .string ByteArray.empty, .string ByteArray.empty, .int .i64 0]), 4, 48) := by kernel_rfl
end Go.Proofs.Ytbboigidkimkmaa
