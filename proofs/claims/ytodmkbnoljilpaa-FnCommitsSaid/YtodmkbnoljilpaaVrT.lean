/-
  The walks of szVersion, szVersionS, toVersion, toVersionS.
-/
import Derived.Test.YtodmkbnoljilpaaVrC
namespace Go.Proofs.Ytodmkbnoljilpaa
open Go.RowKit

theorem Try.infoVersion : (Try.prog.info? 55).map (fun i => (i.zero, i.size, i.bytes)) = some (some (.agg #[.string ByteArray.empty, .int .i64 0, .string ByteArray.empty, .bool false]), 4, 48) := by kernel_rfl
end Go.Proofs.Ytodmkbnoljilpaa
