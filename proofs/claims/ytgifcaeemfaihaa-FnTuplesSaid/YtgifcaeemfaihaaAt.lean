/-
  The walk of the laws' 'at' at the choice 0.
-/
import Derived.Test.YtgifcaeemfaihaaOwn
set_option maxRecDepth 100000
namespace Go.Proofs.Ytgifcaeemfaihaa
open Go.RowKit

set_option maxHeartbeats 1000000 in
theorem at_any (a : Option Addr) (n c : Nat) (xs : List Int) (m : Int) (w : World) (hr : Row w a n xs) (hby : ∀ i, i < n → 0 ≤ xs.getD i 0 ∧ xs.getD i 0 ≤ 255) (hn : n ≤ 1048576) (hm : 2 ≤ m) (hm2 : m ≤ 100000) :
    Calls Try.prog 11 #[.slice a n c, .int .i64 0, .int .i64 m] w fun e w' => ∃ r : Int, e = .returned (.int .i64 r) ∧ 0 ≤ r ∧ r < m ∧ ∃ d, w' = w.drewN d := by
  have R := hide hr
  have BY := hide hby
  clear hr hby
  by_cases h0 : n = 0
  · subst h0
    clear R BY
    go_enter Try.func11, Try.ntmps11
    go_wp2_with fail
    go_ret
    exact ⟨0, rfl, by omega, by omega, 0, rfl⟩
  have q0 : ((n : Int) == 0) = false := by simp; omega
  obtain ⟨b, off, rfl, e0⟩ := (unhide R).2 0 (by omega)
  obtain ⟨x0, x1⟩ := unhide BY 0 (by omega)
  by_cases h1 : n = 1
  · subst h1
    generalize xs.getD 0 0 = x at *
    simp only [Nat.add_zero] at e0
    go_enter Try.func11, Try.ntmps11
    go_wp2_with fail
    go_quiet (fail)
    go_wp2_with fail
    go_ret
    refine ⟨_, rfl, ?_, ?_, _, rfl⟩
    · first | exact Int.emod_nonneg _ (by omega) | (simp; omega)
    · first | exact Int.emod_lt_of_pos _ (by omega) | (simp; omega)
  · obtain ⟨b', off', e, e1⟩ := (unhide R).2 1 (by omega)
    cases e
    obtain ⟨y0, y1⟩ := unhide BY 1 (by omega)
    generalize xs.getD 0 0 = x at *
    generalize xs.getD 1 0 = y at *
    simp only [Nat.add_zero] at e0
    have hmod : (1 : Int) % (n : Int) = 1 := Int.emod_eq_of_lt (by omega) (by omega)
    have hdiv : (0 : Int) / (n : Int) = 0 := Int.zero_ediv _
    go_enter Try.func11, Try.ntmps11
    go_wp2_with fail
    go_quiet (fail)
    go_wp2_with fail
    go_ret
    refine ⟨_, rfl, ?_, ?_, _, rfl⟩
    · first | exact Int.emod_nonneg _ (by omega) | (simp; omega)
    · first | exact Int.emod_lt_of_pos _ (by omega) | (simp; omega)
end Go.Proofs.Ytgifcaeemfaihaa
