/-
  The versions of a key, as plain data.
-/
import Derived.Test.YtdnneomdokcpeaaVrL
namespace Go.Proofs.Ytdnneomdokcpeaa
open Go.RowKit

/-- The versions of a key. -/
def grp (ds : List VerD) (k : ByteArray) : List VerD := ds.filter fun d => decide (d.k = k)
theorem grp_nil (k : ByteArray) : grp [] k = [] := rfl
theorem grp_snoc_same (ds : List VerD) (d : VerD) : grp (ds ++ [d]) d.k = grp ds d.k ++ [d] := by simp [grp]
theorem grp_snoc_other (ds : List VerD) (d : VerD) {k : ByteArray} (h : k ≠ d.k) : grp (ds ++ [d]) k = grp ds k := by simp [grp, h.symm]
theorem grp_len (ds : List VerD) (k : ByteArray) : (grp ds k).length ≤ ds.length := List.length_filter_le _ _
end Go.Proofs.Ytdnneomdokcpeaa
