/-
  The walk of l01Order.
-/
import Derived.Test.YtgifcaeemfaihaaFloatRank
set_option maxRecDepth 100000
namespace Go.Proofs.Ytgifcaeemfaihaa
open Go.RowKit

set_option maxHeartbeats 400000 in
theorem l01Order_any (f : Nat) (w : World) (h : f < 18446744073709551616) :
    Calls Try.prog 42 #[.float .f64 f] w fun e w' => e = .returned (.int .u64 (frank f)) ∧ w' = w := by
  have hbits := run_bits f
  by_cases hf : f < 9223372036854775808
  · have H := hide (frank_lo' hf)
    have hd : decide ((9223372036854775808 : Int) ≤ (f : Int)) = false := by simp; omega
    clear hf h
    go_enter Try.func42, Try.ntmps42
    go_wp2
    go_ret
    exact ⟨ret_int (unhide H).symm, rfl⟩
  · have hf : 9223372036854775808 ≤ f := by omega
    have H := hide (frank_hi hf h)
    have hd : decide ((9223372036854775808 : Int) ≤ (f : Int)) = true := by simp; omega
    clear hf h
    have hs : IntKind.u64.signed = false := rfl
    go_enter Try.func42, Try.ntmps42
    go_wp2
    go_ret
    exact ⟨ret_int (unhide H).symm, rfl⟩
end Go.Proofs.Ytgifcaeemfaihaa
