/-
  The walk of l01Eight.
-/
import Derived.Test.YtmnijhjlindfbabEightL
namespace Go.Proofs.Ytmnijhjlindfbab
open Go.RowKit

set_option maxHeartbeats 400000 in
theorem l01Eight_any (n : Int) (w : World) :
    Calls Try.prog 59 #[.int .u64 n] w fun e w' => ∃ v, e = .returned v ∧ Mine w' w.heap.size v (eights n 8) ∧ Below w.heap.size w w' := by
  obtain ⟨i0, hi, hz0, hz1, hz2⟩ := info_parts Try.infoU8
  go_enter Try.func59, Try.ntmps59
  go_wp2_with fail
  go_loopw [3, 4] (fun v i wr => ∃ k : Nat, k ≤ 8 ∧ i = .int .i64 (7 - k) ∧ wr.ownsRow w.heap.size 5 1 v k ((eights n k).map (Value.int .u8)) ∧ Below w.heap.size w wr) (fun _ i _ => ((intOf i) + 1).toNat)
  case atStart => exact ⟨0, by omega, rfl, World.ownsRow_lit _ _ _ (Nat.le_refl _) (by unfold maxLen; omega) rfl, (Below.refl _ _).alloc (Nat.le_refl _) _⟩
  case round =>
    obtain ⟨k, hk, rfl, hown, hb⟩ := hrel
    by_cases hlt : k < 8
    · go_wp2_with (at_builtin; go_must (refine wpList_append_own _ rfl _ _ 24 rfl w.heap.size 5 i0 (.int .u8 0) 1 1 Try.underlying24 hi hz0 hz1 hz2 rfl (by decide) _ _ _ rfl (hown.alloc _) ⟨wr.heap.size, 0, none⟩ 1 1 [.int .u8 (n / 2 ^ (8 * (7 - k)) % 256)] rfl rfl (cell_one_new _ _ _) (one_u8 _) (by unfold maxLen; omega) (by omega) (by have := hb.size; simp; omega) ?_))
      intro v' w1 hown' hgrow _
      have R1 := hide hown'
      rw [← eights_succ] at R1
      have R2 := hide (below_append hb hown hgrow)
      clear hown hown' hgrow hb
      go_wp2_with fail
      go_roundw
      case rel => exact ⟨k + 1, by omega, by go_num, unhide R1, unhide R2⟩
      case measure => simp [intOf]; omega
    · obtain rfl : k = 8 := by omega
      have M := hide (mine_of_owns (xs := eights n 8) (by rw [eights_length]; exact hown))
      clear hown
      go_wp2_with fail
      go_ret
      exact ⟨_, rfl, unhide M, hb⟩
end Go.Proofs.Ytmnijhjlindfbab
