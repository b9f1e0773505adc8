/-
  The walks of CompareFloats, the program's and the specification's, and of its law.
-/
import Derived.Test.YtgifcaeemfaihaaFloatRankS
import Derived.Test.YtgifcaeemfaihaaFloatRankI
set_option maxRecDepth 100000
namespace Go.Proofs.Ytgifcaeemfaihaa
open Go.RowKit

/-- How two numbers stand: -1, 0 or 1. -/
def cmpI (x y : Int) : Int := if x < y then -1 else if y < x then 1 else 0

theorem isNaNu_any (x : Int) (w : World) : Calls Try.prog 72 #[.int .u64 x] w fun e w' => e = .returned (.bool false) ∧ w' = w := by
  go_enter Try.func72, Try.ntmps72
  go_wp2
  all_goals go_ret
  all_goals exact ⟨ret_bool (by simp), rfl⟩
set_option maxHeartbeats 400000 in
theorem cmpU_any (x y : Int) (w : World) : Calls Try.prog 39 #[.int .u64 x, .int .u64 y] w fun e w' => e = .returned (.int .i64 (cmpI x y)) ∧ w' = w := by
  rcases (show x < y ∨ x = y ∨ y < x from by omega) with h | h | h
  · have H := hide (show cmpI x y = -1 by simp [cmpI, h])
    go_enter Try.func39, Try.ntmps39
    go_wp2_with (go_at_call 72; refine (isNaNu_any _ _).mono ?_; rintro e w' ⟨rfl, rfl⟩)
    all_goals go_ret
    all_goals exact ⟨ret_int (unhide H).symm, rfl⟩
  · subst h
    have H := hide (show cmpI x x = 0 by simp [cmpI])
    go_enter Try.func39, Try.ntmps39
    go_wp2_with (go_at_call 72; refine (isNaNu_any _ _).mono ?_; rintro e w' ⟨rfl, rfl⟩)
    all_goals go_ret
    all_goals exact ⟨ret_int (unhide H).symm, rfl⟩
  · have H := hide (show cmpI x y = 1 by simp [cmpI, h]; omega)
    go_enter Try.func39, Try.ntmps39
    go_wp2_with (go_at_call 72; refine (isNaNu_any _ _).mono ?_; rintro e w' ⟨rfl, rfl⟩)
    all_goals go_ret
    all_goals exact ⟨ret_int (unhide H).symm, rfl⟩

theorem implCmpF_any (f g : Nat) (w : World) (hf : f < 18446744073709551616) (hg : g < 18446744073709551616) :
    Calls Try.prog 10 #[.float .f64 f, .float .f64 g] w fun e w' => e = .returned (.int .i64 (cmpI (frank f) (frank g))) ∧ w' = w := by
  go_enter Try.func10, Try.ntmps10
  go_wp2_with fail
  refine (floatRank_any f _ hf).mono ?_
  rintro e w1 ⟨rfl, rfl⟩
  go_wp2_with fail
  refine (floatRank_any g _ hg).mono ?_
  rintro e w1 ⟨rfl, rfl⟩
  go_wp2_with fail
  refine (cmpU_any _ _ _).mono ?_
  rintro e w1 ⟨rfl, rfl⟩
  go_wp2_with fail
  go_ret
  exact ⟨rfl, rfl⟩
set_option maxHeartbeats 400000 in
theorem specCmpF_any (f g : Nat) (w : World) (hf : f < 18446744073709551616) (hg : g < 18446744073709551616) :
    Calls Try.prog 15 #[.float .f64 f, .float .f64 g] w fun e w' => e = .returned (.int .i64 (cmpI (frank f) (frank g))) ∧ w' = w := by
  go_enter Try.func15, Try.ntmps15
  go_wp2_with fail
  refine (l01Order_any f _ hf).mono ?_
  rintro e w1 ⟨rfl, rfl⟩
  go_wp2_with fail
  refine (l01Order_any g _ hg).mono ?_
  rintro e w1 ⟨rfl, rfl⟩
  rcases (show frank f < frank g ∨ frank f = frank g ∨ frank g < frank f from by omega) with h | h | h
  · have H := hide (show cmpI (frank f) (frank g) = -1 by simp [cmpI, h])
    go_wp2_with fail
    all_goals go_ret
    all_goals exact ⟨ret_int (unhide H).symm, rfl⟩
  · have H := hide (show cmpI (frank f) (frank g) = 0 by simp [cmpI, h])
    go_wp2_with fail
    all_goals go_ret
    all_goals exact ⟨ret_int (unhide H).symm, rfl⟩
  · have H := hide (show cmpI (frank f) (frank g) = 1 by simp [cmpI, h]; omega)
    go_wp2_with fail
    all_goals go_ret
    all_goals exact ⟨ret_int (unhide H).symm, rfl⟩
end Go.Proofs.Ytgifcaeemfaihaa
