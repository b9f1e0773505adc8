/-
  The walk of intRank.
-/
import Derived.Test.YtmnijhjlindfbabRank
namespace Go.Proofs.Ytmnijhjlindfbab
open Go.RowKit

theorem intRank_any (n : Int) (w : World) :
    Calls Try.prog 43 #[.int .i64 n] w fun e w' => e = .returned (.int .u64 (rank n)) ∧ w' = w := by
  go_enter Try.func43, Try.ntmps43
  go_wp2_with fail
  go_ret
  exact ⟨rfl, rfl⟩
end Go.Proofs.Ytmnijhjlindfbab
