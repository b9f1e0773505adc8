/-
  The walk of IntKey, the program's.
-/
import Derived.Test.YtgifcaeemfaihaaRankI
import Derived.Test.YtgifcaeemfaihaaEightI
set_option maxRecDepth 100000
namespace Go.Proofs.Ytgifcaeemfaihaa
open Go.RowKit

theorem intKey_any (n : Int) (w : World) :
    Calls Try.prog 12 #[.int .i64 n] w fun e w' => ∃ v, e = .returned v ∧ Mine w' w.heap.size v (eights (rank n) 8) ∧ Below w.heap.size w w' := by
  go_enter Try.func12, Try.ntmps12
  go_wp2_with (first | (go_at_call 40; refine (intRank_any _ _).mono ?_; rintro e w1 ⟨rfl, rfl⟩) | (go_at_call 34; refine (eightOf_lit _ _).mono ?_; rintro e w1 ⟨b0, b1, b2, b3, b4, b5, b6, b7, rfl, he, hb⟩))
  go_ret
  refine ⟨_, rfl, ?_, hb.alloc hb.size _⟩
  have hm := unhide he
  exact mine_alloc hb.size (by rw [hm]; rfl) (by rw [hm]; rfl)
end Go.Proofs.Ytgifcaeemfaihaa
