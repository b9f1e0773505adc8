/-
  The walk of floatRank.
-/
import Derived.Test.YtgifcaeemfaihaaFloatRank
set_option maxRecDepth 100000
namespace Go.Proofs.Ytgifcaeemfaihaa
open Go.RowKit

set_option maxHeartbeats 400000 in
theorem floatRank_any (f : Nat) (w : World) (h : f < 18446744073709551616) :
    Calls Try.prog 35 #[.float .f64 f] w fun e w' => e = .returned (.int .u64 (frank f)) ∧ w' = w := by
  have hbits := run_bits f
  by_cases hf : f < 9223372036854775808
  · have ht := top_lo hf
    have H := hide (frank_lo hf)
    clear hf h
    go_enter Try.func35, Try.ntmps35
    go_wp2
    go_ret
    exact ⟨ret_int (unhide H).symm, rfl⟩
  · have hf : 9223372036854775808 ≤ f := by omega
    have ht := top_hi hf h
    have H := hide (frank_hi hf h)
    clear hf h
    have hs : IntKind.u64.signed = false := rfl
    go_enter Try.func35, Try.ntmps35
    go_wp2
    go_ret
    exact ⟨ret_int (unhide H).symm, rfl⟩
end Go.Proofs.Ytgifcaeemfaihaa
