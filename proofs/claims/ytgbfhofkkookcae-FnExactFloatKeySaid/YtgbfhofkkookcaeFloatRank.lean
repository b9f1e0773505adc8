/-
  The walks of floatRank and l01Order: both answer the float's bits so turned that they rise as floats do.
-/
import Derived.Test.YtgbfhofkkookcaeEight
import Derived.Test.YtgbfhofkkookcaeBits
namespace Go.Proofs.Ytgbfhofkkookcae
open Go.RowKit

theorem run_bits (f : Nat) (w : World) : (callFunc 52 #[.float .f64 f]).run Try.prog w = .ok (.value (.int .u64 f)) w := by kernel_rfl

/-- A float's bits, all turned if the highest is set, else that one turned. -/
def frank (f : Nat) : Int := if f < 9223372036854775808 then (f : Int) + 9223372036854775808 else 18446744073709551615 - (f : Int)
theorem frank_lo {f : Nat} (h : f < 9223372036854775808) : frank f = bits .or .u64 (f : Int) 9223372036854775808 := by
  unfold frank; rw [if_pos h, u64_or_top f h]
theorem frank_lo' {f : Nat} (h : f < 9223372036854775808) : frank f = bits .xor .u64 (f : Int) 9223372036854775808 := by
  unfold frank; rw [if_pos h, u64_xor_top f (by omega), if_pos h]
theorem frank_hi {f : Nat} (h : 9223372036854775808 ≤ f) (h1 : f < 18446744073709551616) : frank f = bits .xor .u64 IntKind.u64.max (f : Int) := by
  unfold frank; rw [if_neg (by omega), u64_not f h1]
theorem top_lo {f : Nat} (h : f < 9223372036854775808) : (bits .and .u64 (f : Int) 9223372036854775808 != 0) = false := by
  rw [u64_and_top f (by omega), if_pos h]; rfl
theorem top_hi {f : Nat} (h : 9223372036854775808 ≤ f) (h1 : f < 18446744073709551616) : (bits .and .u64 (f : Int) 9223372036854775808 != 0) = true := by
  rw [u64_and_top f h1, if_neg (by omega)]; rfl

set_option maxHeartbeats 400000 in
theorem floatRank_any (f : Nat) (w : World) (h : f < 18446744073709551616) :
    Calls Try.prog 33 #[.float .f64 f] w fun e w' => e = .returned (.int .u64 (frank f)) ∧ w' = w := by
  have hbits := run_bits f
  by_cases hf : f < 9223372036854775808
  · have ht := top_lo hf
    have H := hide (frank_lo hf)
    clear hf h
    go_enter Try.func33, Try.ntmps33
    go_wp2
    go_ret
    exact ⟨ret_int (unhide H).symm, rfl⟩
  · have hf : 9223372036854775808 ≤ f := by omega
    have ht := top_hi hf h
    have H := hide (frank_hi hf h)
    clear hf h
    have hs : IntKind.u64.signed = false := rfl
    go_enter Try.func33, Try.ntmps33
    go_wp2
    go_ret
    exact ⟨ret_int (unhide H).symm, rfl⟩
set_option maxHeartbeats 400000 in
theorem l01Order_any (f : Nat) (w : World) (h : f < 18446744073709551616) :
    Calls Try.prog 31 #[.float .f64 f] w fun e w' => e = .returned (.int .u64 (frank f)) ∧ w' = w := by
  have hbits := run_bits f
  by_cases hf : f < 9223372036854775808
  · have H := hide (frank_lo' hf)
    have hd : decide ((9223372036854775808 : Int) ≤ (f : Int)) = false := by simp; omega
    clear hf h
    go_enter Try.func31, Try.ntmps31
    go_wp2
    go_ret
    exact ⟨ret_int (unhide H).symm, rfl⟩
  · have hf : 9223372036854775808 ≤ f := by omega
    have H := hide (frank_hi hf h)
    have hd : decide ((9223372036854775808 : Int) ≤ (f : Int)) = true := by simp; omega
    clear hf h
    have hs : IntKind.u64.signed = false := rfl
    go_enter Try.func31, Try.ntmps31
    go_wp2
    go_ret
    exact ⟨ret_int (unhide H).symm, rfl⟩
end Go.Proofs.Ytgbfhofkkookcae
