/-
  The walks of szEntry, szEntryS, szDelta, szDeltaS, szPage, toEntry, toEntryS, toDelta, toDeltaS, toPage.
-/
import Derived.Test.YtbhkmmdcdfjbkaaGreatPgC
namespace Go.Proofs.YtbhkmmdcdfjbkaaGreat
open Go.RowKit

theorem Tryz.infoDelta : (Tryz.prog.info? 90).map (fun i => (i.zero, i.size, i.bytes)) = some (some (.agg #[.int .i64 0, .string ByteArray.empty, .string ByteArray.empty, .int .i64 0]), 4, 48) := by kernel_rfl
end Go.Proofs.YtbhkmmdcdfjbkaaGreat
