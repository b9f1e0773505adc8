/-
  The walks of FloatKey, the program's and the specification's.
-/
import Derived.Test.YtgbfhofkkookcaeFloatRank
namespace Go.Proofs.Ytgbfhofkkookcae
open Go.RowKit

theorem specFloatKey_any (f : Nat) (w : World) (h : f < 18446744073709551616) :
    Calls Try.prog 9 #[.float .f64 f] w fun e w' => ∃ v, e = .returned v ∧ Mine w' w.heap.size v (eights (frank f) 8) ∧ Below w.heap.size w w' := by
  go_enter Try.func9, Try.ntmps9
  go_wp2_with (go_at_call 31; refine (l01Order_any _ _ h).mono ?_; rintro e w1 ⟨rfl, rfl⟩)
  refine (l01Eight_any (frank f) _).mono ?_
  rintro e w2 ⟨v, rfl, hm, hb⟩
  go_wp2_with fail
  go_ret
  exact ⟨_, rfl, hm, hb⟩
theorem floatKey_any (f : Nat) (w : World) (h : f < 18446744073709551616) :
    Calls Try.prog 10 #[.float .f64 f] w fun e w' => ∃ v, e = .returned v ∧ Mine w' w.heap.size v (eights (frank f) 8) ∧ Below w.heap.size w w' := by
  go_enter Try.func10, Try.ntmps10
  go_wp2_with (first | (go_at_call 33; refine (floatRank_any _ _ h).mono ?_; rintro e w1 ⟨rfl, rfl⟩) | (go_at_call 32; refine (eightOf_lit _ _).mono ?_; rintro e w1 ⟨b0, b1, b2, b3, b4, b5, b6, b7, rfl, he, hb⟩))
  go_ret
  refine ⟨_, rfl, ?_, hb.alloc hb.size _⟩
  have hm := unhide he
  exact mine_alloc hb.size (by rw [hm]; rfl) (by rw [hm]; rfl)
end Go.Proofs.Ytgbfhofkkookcae
