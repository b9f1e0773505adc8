/-
  The walk of eightOf.
-/
import Derived.Test.YtgifcaeemfaihaaEightL
set_option maxRecDepth 100000
namespace Go.Proofs.Ytgifcaeemfaihaa
open Go.RowKit

set_option maxHeartbeats 400000 in
theorem eightOf_any (n : Int) (w : World) :
    Calls Try.prog 34 #[.int .u64 n] w fun e w' => e = .returned (.agg ((eights n 8).map (Value.int .u8)).toArray) ∧ Below w.heap.size w w' := by
  go_enter Try.func34, Try.ntmps34
  go_wp2_with fail
  go_loopw [0, 4] (fun r i wr => ∃ k : Nat, k ≤ 8 ∧ r = .int .u64 (n / 2 ^ (8 * k)) ∧ i = .int .i64 (7 - k) ∧ wr = (w.alloc (.cells #[.int .u8 0, .int .u8 0, .int .u8 0, .int .u8 0, .int .u8 0, .int .u8 0, .int .u8 0, .int .u8 0] 61)).alloc (.cells ((filled n k).map (Value.int .u8)).toArray 61)) (fun _ i _ => ((intOf i) + 1).toNat)
  case atStart => exact ⟨0, by omega, by simp, rfl, rfl⟩
  case round =>
    obtain ⟨k, hk, rfl, rfl, rfl⟩ := hrel
    by_cases hlt : k < 8
    · have hat := filled_at n k hlt
      go_wp2_with fail
      go_roundw
      case rel => exact ⟨k + 1, by omega, congrArg _ (div_step n k), by go_num, by rw [filled_set n k hlt]⟩
      case measure => simp [intOf]; omega
    · obtain rfl : k = 8 := by omega
      rw [filled_lit]
      have E8 := hide (eights_lit n)
      generalize byteAt n 0 = b0 at *
      generalize byteAt n 1 = b1 at *
      generalize byteAt n 2 = b2 at *
      generalize byteAt n 3 = b3 at *
      generalize byteAt n 4 = b4 at *
      generalize byteAt n 5 = b5 at *
      generalize byteAt n 6 = b6 at *
      generalize byteAt n 7 = b7 at *
      go_wp2_with fail
      refine bodyPost_ret (v := .agg #[.int .u8 b0, .int .u8 b1, .int .u8 b2, .int .u8 b3, .int .u8 b4, .int .u8 b5, .int .u8 b6, .int .u8 b7]) (by simp [results, Try.results34, go_sem]) rfl ⟨by rw [unhide E8], ?_⟩
      exact ((Below.refl _ _).alloc (Nat.le_refl _) _).alloc (by simp) _
theorem eightOf_lit (n : Int) (w : World) :
    Calls Try.prog 34 #[.int .u64 n] w fun e w' => ∃ b0 b1 b2 b3 b4 b5 b6 b7, e = .returned (.agg #[.int .u8 b0, .int .u8 b1, .int .u8 b2, .int .u8 b3, .int .u8 b4, .int .u8 b5, .int .u8 b6, .int .u8 b7]) ∧ Hid (eights n 8 = [b0, b1, b2, b3, b4, b5, b6, b7]) ∧ Below w.heap.size w w' := by
  refine (eightOf_any n w).mono ?_
  rintro e w' ⟨rfl, hb⟩
  exact ⟨byteAt n 0, byteAt n 1, byteAt n 2, byteAt n 3, byteAt n 4, byteAt n 5, byteAt n 6, byteAt n 7, rfl, rfl, hb⟩
end Go.Proofs.Ytgifcaeemfaihaa
