/-
  The walk of eqByteS.
-/
import Derived.Test.YtbboigidkimkmaaOwn
namespace Go.Proofs.Ytbboigidkimkmaa
open Go.RowKit

theorem take_eq_snoc {xs ys : List Int} {k : Nat} (h1 : k < xs.length) (h2 : k < ys.length) (h : xs.take k = ys.take k) (he : xs.getD k 0 = ys.getD k 0) : xs.take (k + 1) = ys.take (k + 1) := by
  rw [List.take_succ_eq_append_getElem h1, List.take_succ_eq_append_getElem h2, h]
  simp [List.getD, h1, h2] at he
  rw [he]
theorem ne_of_getD {xs ys : List Int} {k : Nat} (he : xs.getD k 0 ≠ ys.getD k 0) : decide (xs = ys) = false := by
  simp; intro h; exact he (by rw [h])
end Go.Proofs.Ytbboigidkimkmaa
