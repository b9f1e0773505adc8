/-
  The walk of SameFloats where both are the same.
-/
import Derived.Test.YtgifcaeemfaihaaCmpF
set_option maxRecDepth 100000
namespace Go.Proofs.Ytgifcaeemfaihaa
open Go.RowKit

theorem same_any (f : Nat) (w : World) (h : f < 18446744073709551616) :
    Calls Try.prog 14 #[.float .f64 f, .float .f64 f] w fun e w' => e = .returned (.bool true) ∧ w' = w := by
  have H := hide (show cmpI (frank f) (frank f) = 0 by simp [cmpI])
  go_enter Try.func14, Try.ntmps14
  go_wp2_with fail
  refine (specCmpF_any f f w h h).mono ?_
  rintro e w1 ⟨rfl, rfl⟩
  rw [unhide H]
  go_wp2_with fail
  go_ret
  exact ⟨rfl, rfl⟩
end Go.Proofs.Ytgifcaeemfaihaa
