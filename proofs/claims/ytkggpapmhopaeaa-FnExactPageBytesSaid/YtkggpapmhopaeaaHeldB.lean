/-
  The walk of heldByteS: the marks are found again.
-/
import Derived.Test.YtkggpapmhopaeaaMark
namespace Go.Proofs.Ytkggpapmhopaeaa
open Go.RowKit

set_option maxHeartbeats 400000 in
theorem heldByteS_any (a : Option Addr) (n c : Nat) (k0 : Int) (w : World) (hn : n ≤ 4611686018427387904) (hk : 0 ≤ k0) (hk2 : k0 ≤ 4000000000000000000) (h1 : Row w a n (marks k0 n)) :
    Calls Try.prog 30 #[.slice a n c, .int .i64 k0] w fun e w' => e = .returned (.int .i64 (k0 + n)) ∧ w' = w := by
  have H1 := hide h1.2
  clear h1
  go_enter Try.func30, Try.ntmps30
  go_wp2_with fail
  go_loop [1, 5] (fun q i => ∃ k : Nat, k ≤ n ∧ i = .int .i64 k ∧ q = .int .i64 (k0 + k)) (fun _ i => n - (intOf i).toNat)
  case atStart => exact ⟨0, Nat.zero_le _, rfl, by simp⟩
  case round =>
    obtain ⟨k, hk, rfl, rfl⟩ := hrel
    by_cases hlt : k < n
    · obtain ⟨b, off, rfl, e1⟩ := unhide H1 k hlt
      rw [marks_getD _ _ _ hlt] at e1
      go_wp2_with fail
      go_round
      case rel => exact ⟨k + 1, by omega, by go_num, by go_num⟩
      case measure => simp [intOf]; omega
    · obtain rfl : k = n := by omega
      go_wp2_with fail
      go_ret
      exact ⟨rfl, rfl⟩
end Go.Proofs.Ytkggpapmhopaeaa
