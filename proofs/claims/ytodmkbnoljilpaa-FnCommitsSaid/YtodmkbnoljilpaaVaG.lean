/-
  The versions of a key, as plain data.
-/
import Derived.Test.YtodmkbnoljilpaaVrL
namespace Go.Proofs.Ytodmkbnoljilpaa
open Go.RowKit

/-- The versions of a key. -/
def grp (ds : List VerD) (k : ByteArray) : List VerD := ds.filter fun d => decide (d.k = k)
theorem grp_snoc_same (ds : List VerD) (d : VerD) : grp (ds ++ [d]) d.k = grp ds d.k ++ [d] := by simp [grp]
theorem grp_snoc_other (ds : List VerD) (d : VerD) {k : ByteArray} (h : k ≠ d.k) : grp (ds ++ [d]) k = grp ds k := by simp [grp, h.symm]
end Go.Proofs.Ytodmkbnoljilpaa
