/-
  The walks of rankFloat and rankInt.
-/
import Derived.Test.YtgifcaeemfaihaaFloatRank
import Derived.Test.YtgifcaeemfaihaaRank
import Derived.Test.YtgifcaeemfaihaaBits
set_option maxRecDepth 100000
namespace Go.Proofs.Ytgifcaeemfaihaa
open Go.RowKit

theorem run_frombits (n : Int) (w : World) : (callFunc 68 #[.int .u64 n]).run Try.prog w = .ok (.value (.float .f64 n.toNat)) w := by kernel_rfl

theorem frank_range {f : Nat} (h : f < 18446744073709551616) : 0 ≤ frank f ∧ frank f < 18446744073709551616 := by unfold frank; split <;> omega
set_option maxHeartbeats 400000 in
theorem rankFloat_any (f : Nat) (w : World) (h : f < 18446744073709551616) :
    Calls Try.prog 37 #[.int .u64 (frank f)] w fun e w' => e = .returned (.float .f64 f) ∧ w' = w := by
  by_cases hf : f < 9223372036854775808
  · have e : frank f = ((f + 9223372036854775808 : Nat) : Int) := by unfold frank; rw [if_pos hf]; omega
    have ht : (bits .and .u64 (frank f) 9223372036854775808 != 0) = true := by rw [e]; exact top_hi (by omega) (by omega)
    have hq : bits .andNot .u64 (frank f) 9223372036854775808 = (f : Int) := by rw [e, u64_andNot_top _ (by omega) (by omega)]; omega
    have hfb : ∀ w, (callFunc 68 #[.int .u64 (bits .andNot .u64 (frank f) 9223372036854775808)]).run Try.prog w = .ok (.value (.float .f64 f)) w := fun w => by rw [hq, run_frombits]; rfl
    clear hq e hf h
    generalize frank f = r at *
    go_enter Try.func37, Try.ntmps37
    go_wp2
    go_ret
    exact ⟨rfl, rfl⟩
  · have e : frank f = ((18446744073709551615 - f : Nat) : Int) := by unfold frank; rw [if_neg hf]; omega
    have ht : (bits .and .u64 (frank f) 9223372036854775808 != 0) = false := by rw [e]; exact top_lo (by omega)
    have hq : bits .xor .u64 IntKind.u64.max (frank f) = (f : Int) := by rw [e, u64_not _ (by omega)]; omega
    have hfb : ∀ w, (callFunc 68 #[.int .u64 (bits .xor .u64 IntKind.u64.max (frank f))]).run Try.prog w = .ok (.value (.float .f64 f)) w := fun w => by rw [hq, run_frombits]; rfl
    have hs : IntKind.u64.signed = false := rfl
    clear hq e hf h
    generalize frank f = r at *
    go_enter Try.func37, Try.ntmps37
    go_wp2
    go_ret
    exact ⟨rfl, rfl⟩

theorem rank_nat {n : Int} (h : -9223372036854775808 ≤ n) (h1 : n < 9223372036854775808) : rank n = n + 9223372036854775808 := by
  unfold rank
  by_cases hn : 0 ≤ n
  · obtain ⟨k, rfl⟩ := Int.eq_ofNat_of_zero_le hn
    rw [IntKind.wrap_u64, show ((k : Int) % 18446744073709551616) = (k : Int) by omega, u64_xor_top k (by omega), if_pos (by omega)]
  · rw [IntKind.wrap_u64, show (n % 18446744073709551616) = (((n + 18446744073709551616).toNat : Nat) : Int) by omega, u64_xor_top _ (by omega), if_neg (by omega)]
    omega
set_option maxHeartbeats 400000 in
theorem rankInt_any (n : Int) (w : World) (h : -9223372036854775808 ≤ n) (h1 : n < 9223372036854775808) :
    Calls Try.prog 41 #[.int .u64 (rank n)] w fun e w' => e = .returned (.int .i64 n) ∧ w' = w := by
  have hq : wrap64 (bits .xor .u64 (rank n) 9223372036854775808) = n := by
    rw [rank_nat h h1, show n + 9223372036854775808 = (((n + 9223372036854775808).toNat : Nat) : Int) by omega, u64_xor_top _ (by omega)]
    unfold wrap64
    split <;> omega
  have Q := hide hq
  clear hq
  generalize rank n = r at *
  go_enter Try.func41, Try.ntmps41
  go_wp2
  go_ret
  exact ⟨ret_int (unhide Q), rfl⟩
end Go.Proofs.Ytgifcaeemfaihaa
