/-
  The walk of FloatOf.
-/
import Derived.Test.YtgifcaeemfaihaaFloatD
set_option maxRecDepth 100000
namespace Go.Proofs.Ytgifcaeemfaihaa
open Go.RowKit

set_option maxHeartbeats 1000000 in
theorem floatOf_any (a : Option Addr) (n c : Nat) (xs : List Int) (w : World) (hr : Row w a n xs) (hby : ∀ i, i < n → 0 ≤ xs.getD i 0 ∧ xs.getD i 0 ≤ 255) (hn : n ≤ 1048576) :
    Calls Try.prog 7 #[.slice a n c] w fun e w' => ∃ f : Nat, e = .returned (.float .f64 f) ∧ f < 18446744073709551616 ∧ Below w.heap.size w w' := by
  have R := hide hr
  have BY := hide hby
  clear hr hby
  go_enter Try.func7, Try.ntmps7
  go_wp2_with fail
  refine (source_any a n c xs w (unhide R) (unhide BY) hn).mono ?_
  rintro e w1 ⟨rfl, hs1, hb1, hz1⟩
  clear hz1
  go_wp2_with fail
  refine (float_any w.heap.size a n c xs 0 w1 hs1 (by omega)).mono ?_
  rintro e w2 ⟨f, rfl, hf, hb2, hs2⟩
  have bA := hb1.trans (hb2.below (Nat.le_refl _) hb1.size)
  clear hb1 hb2 hs1 hs2
  go_wp2_with fail
  go_ret
  exact ⟨f, rfl, hf, bA⟩
end Go.Proofs.Ytgifcaeemfaihaa
