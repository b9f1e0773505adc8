/-
  The walk of IntKey, the specification's.
-/
import Derived.Test.YtmnijhjlindfbabRank
import Derived.Test.YtmnijhjlindfbabEightS
namespace Go.Proofs.Ytmnijhjlindfbab
open Go.RowKit

theorem specIntKey_any (n : Int) (w : World) :
    Calls Try.prog 38 #[.int .i64 n] w fun e w' => ∃ v, e = .returned v ∧ Mine w' w.heap.size v (eights (rank n) 8) ∧ Below w.heap.size w w' := by
  go_enter Try.func38, Try.ntmps38
  go_wp2_with fail
  refine (l01Eight_any (rank n) w).mono ?_
  rintro e w1 ⟨v, rfl, hm, hb⟩
  go_wp2_with fail
  go_ret
  exact ⟨_, rfl, hm, hb⟩
end Go.Proofs.Ytmnijhjlindfbab
