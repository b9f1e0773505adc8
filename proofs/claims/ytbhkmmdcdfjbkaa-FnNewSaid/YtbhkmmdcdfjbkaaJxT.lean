/-
  The walks of szRef, szRefS, toRef, toRefS.
-/
import Derived.Test.YtbhkmmdcdfjbkaaJxC
namespace Go.Proofs.Ytbhkmmdcdfjbkaa
open Go.RowKit

theorem Try.infoRef : (Try.prog.info? 53).map (fun i => (i.zero, i.size, i.bytes)) = some (some (.agg #[.string ByteArray.empty, .int .i64 0]), 2, 24) := by kernel_rfl
end Go.Proofs.Ytbhkmmdcdfjbkaa
