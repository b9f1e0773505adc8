/-
  The walk of FloatKey, the specification's.
-/
import Derived.Test.YtmnijhjlindfbabFloatRankS
import Derived.Test.YtmnijhjlindfbabEightS
namespace Go.Proofs.Ytmnijhjlindfbab
open Go.RowKit

theorem specFloatKey_any (f : Nat) (w : World) (h : f < 18446744073709551616) :
    Calls Try.prog 39 #[.float .f64 f] w fun e w' => ∃ v, e = .returned v ∧ Mine w' w.heap.size v (eights (frank f) 8) ∧ Below w.heap.size w w' := by
  go_enter Try.func39, Try.ntmps39
  go_wp2_with (go_at_call 60; refine (l01Order_any _ _ h).mono ?_; rintro e w1 ⟨rfl, rfl⟩)
  refine (l01Eight_any (frank f) _).mono ?_
  rintro e w2 ⟨v, rfl, hm, hb⟩
  go_wp2_with fail
  go_ret
  exact ⟨_, rfl, hm, hb⟩
end Go.Proofs.Ytmnijhjlindfbab
