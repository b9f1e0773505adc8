/-
  spec.KeyOf.
-/
import Derived.Test.YtbboigidkimkmaaFdD
import Derived.Test.YtbboigidkimkmaaFdE
import Derived.Test.YtbboigidkimkmaaSrcZ
namespace Go.Proofs.Ytbboigidkimkmaa
open Go.RowKit

theorem src_below {w w1 w2 : World} (h1 : Below w.heap.size w w1) (hw : Wrote w.heap.size w1 w2) : Below w.heap.size w w2 := h1.trans (hw.below (Nat.le_refl _) h1.size)
set_option maxHeartbeats 1000000 in
theorem keyOfD_any (a : Option Addr) (n c : Nat) (xs : List Int) (w : World) (hr : Row w a n xs) (hby : ∀ i, i < n → 0 ≤ xs.getD i 0 ∧ xs.getD i 0 ≤ 255) (hn : n ≤ 1048576) :
    Calls Try.prog 6 #[.slice a n c] w fun e w' => ∃ t : ByteArray, e = .returned (.string t) ∧ keyK t = true ∧ Below w.heap.size w w' := by
  have R := hide hr
  have BY := hide hby
  clear hr hby
  go_enter Try.func6, Try.ntmps6
  go_wp2_with fail
  refine (source_any a n c xs w (unhide R) (unhide BY) hn).mono ?_
  rintro e w1 ⟨rfl, hs1, hb1, hz1⟩
  go_wp2_with fail
  refine (longKeyD_any w.heap.size a n c xs 0 w1 hs1 (by omega)).mono ?_
  rintro e w2 ⟨t, rfl, hk, hw, _⟩
  have bA := hide (src_below hb1 hw)
  clear hb1 hw hs1 hz1
  go_wp2_with fail
  go_ret
  exact ⟨t, rfl, hk, unhide bA⟩
end Go.Proofs.Ytbboigidkimkmaa
