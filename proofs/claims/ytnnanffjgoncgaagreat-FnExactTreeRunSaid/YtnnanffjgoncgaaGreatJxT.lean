/-
  The walks of szRef, szRefS, toRef, toRefS.
-/
import Derived.Test.YtnnanffjgoncgaaGreatJxC
namespace Go.Proofs.YtnnanffjgoncgaaGreat
open Go.RowKit

theorem Tryz.infoRef : (Tryz.prog.info? 77).map (fun i => (i.zero, i.size, i.bytes)) = some (some (.agg #[.string ByteArray.empty, .int .i64 0]), 2, 24) := by kernel_rfl
end Go.Proofs.YtnnanffjgoncgaaGreat
