/-
  slices.Insert and slices.Delete over entries of the call's own.
-/
import Derived.Test.YtodmkbnoljilpaaPageC
import Derived.Laws.CopyRow
import Derived.Laws.Externs
import Derived.Laws.IdiomCopy
import Derived.Lib.Overlaps
import Derived.Lib.AppendZerosOnto
import Derived.Deep.RegionLaw
import Derived.Lib.SliceRun
namespace Go.Proofs.Ytodmkbnoljilpaa
open Go.RowKit

theorem Try.infoEntry : (Try.prog.info? 71).map (fun i => (i.zero, i.size, i.bytes)) = some (some (.agg #[.string ByteArray.empty, .string ByteArray.empty]), 2, 32) := by kernel_rfl
end Go.Proofs.Ytodmkbnoljilpaa
