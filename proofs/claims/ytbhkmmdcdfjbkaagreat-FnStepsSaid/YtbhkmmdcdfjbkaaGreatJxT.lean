/-
  The walks of szRef, szRefS, toRef, toRefS.
-/
import Derived.Test.YtbhkmmdcdfjbkaaGreatJxC
namespace Go.Proofs.YtbhkmmdcdfjbkaaGreat
open Go.RowKit

theorem Tryz.infoRef : (Tryz.prog.info? 69).map (fun i => (i.zero, i.size, i.bytes)) = some (some (.agg #[.string ByteArray.empty, .int .i64 0]), 2, 24) := by kernel_rfl
end Go.Proofs.YtbhkmmdcdfjbkaaGreat
