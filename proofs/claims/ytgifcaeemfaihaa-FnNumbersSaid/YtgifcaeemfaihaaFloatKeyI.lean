/-
  The walk of FloatKey, the program's.
-/
import Derived.Test.YtgifcaeemfaihaaFloatRankI
import Derived.Test.YtgifcaeemfaihaaEightI
set_option maxRecDepth 100000
namespace Go.Proofs.Ytgifcaeemfaihaa
open Go.RowKit

theorem floatKey_any (f : Nat) (w : World) (h : f < 18446744073709551616) :
    Calls Try.prog 8 #[.float .f64 f] w fun e w' => ∃ v, e = .returned v ∧ Mine w' w.heap.size v (eights (frank f) 8) ∧ Below w.heap.size w w' := by
  go_enter Try.func8, Try.ntmps8
  go_wp2_with (first | (go_at_call 35; refine (floatRank_any _ _ h).mono ?_; rintro e w1 ⟨rfl, rfl⟩) | (go_at_call 34; refine (eightOf_lit _ _).mono ?_; rintro e w1 ⟨b0, b1, b2, b3, b4, b5, b6, b7, rfl, he, hb⟩))
  go_ret
  refine ⟨_, rfl, ?_, hb.alloc hb.size _⟩
  have hm := unhide he
  exact mine_alloc hb.size (by rw [hm]; rfl) (by rw [hm]; rfl)
end Go.Proofs.Ytgifcaeemfaihaa
