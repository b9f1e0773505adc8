/-
  The walks of IntKey, the program's and the specification's, and of its law.
-/
import Derived.Test.YtgbfhofkkookcadEight
namespace Go.Proofs.Ytgbfhofkkookcad
open Go.RowKit

/-- The number of 64 bits that a whole number's bits are, its highest one turned. -/
def rank (n : Int) : Int := bits BinOp.xor IntKind.u64 (IntKind.u64.wrap n) 9223372036854775808

theorem intRank_any (n : Int) (w : World) :
    Calls Try.prog 21 #[.int .i64 n] w fun e w' => e = .returned (.int .u64 (rank n)) ∧ w' = w := by
  go_enter Try.func21, Try.ntmps21
  go_wp2_with fail
  go_ret
  exact ⟨rfl, rfl⟩
theorem specIntKey_any (n : Int) (w : World) :
    Calls Try.prog 8 #[.int .i64 n] w fun e w' => ∃ v, e = .returned v ∧ Mine w' w.heap.size v (eights (rank n) 8) ∧ Below w.heap.size w w' := by
  go_enter Try.func8, Try.ntmps8
  go_wp2_with fail
  refine (l01Eight_any (rank n) w).mono ?_
  rintro e w1 ⟨v, rfl, hm, hb⟩
  go_wp2_with fail
  go_ret
  exact ⟨_, rfl, hm, hb⟩
theorem intKey_any (n : Int) (w : World) :
    Calls Try.prog 9 #[.int .i64 n] w fun e w' => ∃ v, e = .returned v ∧ Mine w' w.heap.size v (eights (rank n) 8) ∧ Below w.heap.size w w' := by
  go_enter Try.func9, Try.ntmps9
  go_wp2_with (first | (go_at_call 21; refine (intRank_any _ _).mono ?_; rintro e w1 ⟨rfl, rfl⟩) | (go_at_call 20; refine (eightOf_lit _ _).mono ?_; rintro e w1 ⟨b0, b1, b2, b3, b4, b5, b6, b7, rfl, he, hb⟩))
  go_ret
  refine ⟨_, rfl, ?_, hb.alloc hb.size _⟩
  have hm := unhide he
  exact mine_alloc hb.size (by rw [hm]; rfl) (by rw [hm]; rfl)
end Go.Proofs.Ytgbfhofkkookcad
