/-
  A float's bits, so turned that they rise as floats do: plain facts, and the run of math.Float64bits.
-/
import Derived.Test.YtgifcaeemfaihaaOwn
import Derived.Test.YtgifcaeemfaihaaBits
set_option maxRecDepth 100000
namespace Go.Proofs.Ytgifcaeemfaihaa
open Go.RowKit

theorem run_bits (f : Nat) (w : World) : (callFunc 70 #[.float .f64 f]).run Try.prog w = .ok (.value (.int .u64 f)) w := by kernel_rfl

/-- A float's bits, all turned if the highest is set, else that one turned. -/
def frank (f : Nat) : Int := if f < 9223372036854775808 then (f : Int) + 9223372036854775808 else 18446744073709551615 - (f : Int)
theorem frank_lo {f : Nat} (h : f < 9223372036854775808) : frank f = bits .or .u64 (f : Int) 9223372036854775808 := by
  unfold frank; rw [if_pos h, u64_or_top f h]
theorem frank_lo' {f : Nat} (h : f < 9223372036854775808) : frank f = bits .xor .u64 (f : Int) 9223372036854775808 := by
  unfold frank; rw [if_pos h, u64_xor_top f (by omega), if_pos h]
theorem frank_hi {f : Nat} (h : 9223372036854775808 ≤ f) (h1 : f < 18446744073709551616) : frank f = bits .xor .u64 IntKind.u64.max (f : Int) := by
  unfold frank; rw [if_neg (by omega), u64_not f h1]
theorem top_lo {f : Nat} (h : f < 9223372036854775808) : (bits .and .u64 (f : Int) 9223372036854775808 != 0) = false := by
  rw [u64_and_top f (by omega), if_pos h]; rfl
theorem top_hi {f : Nat} (h : 9223372036854775808 ≤ f) (h1 : f < 18446744073709551616) : (bits .and .u64 (f : Int) 9223372036854775808 != 0) = true := by
  rw [u64_and_top f h1, if_neg (by omega)]; rfl

end Go.Proofs.Ytgifcaeemfaihaa
