/-
  The eight bytes of a whole number of 64 bits, as the specification and the program lay them.
-/
import Derived.Test.YtgbfhofkkookcaeTail
namespace Go.Proofs.Ytgbfhofkkookcae
open Go.RowKit

/-- Byte k of a number's eight, the highest first. -/
def byteAt (n : Int) (k : Nat) : Int := n / 2 ^ (8 * (7 - k)) % 256
def eights (n : Int) (k : Nat) : List Int := (List.range k).map (byteAt n)
theorem eights_succ (n : Int) (k : Nat) : (eights n (k + 1)).map (Value.int .u8) = (eights n k).map (Value.int .u8) ++ [.int .u8 (n / 2 ^ (8 * (7 - k)) % 256)] := by
  simp [eights, List.range_succ, byteAt]
theorem eights_length (n : Int) (k : Nat) : (eights n k).length = k := by simp [eights]

theorem below_append {w wr w1 : World} {e n : Nat} {v x : Value} {t : TypeId} {xs : List Value} (hb : Below w.heap.size w wr) (hown : wr.ownsRow w.heap.size e 1 v n xs) (hg : (wr.alloc (.cells #[x] t)).grownBy w1 v.ownBlock) : Below w.heap.size w w1 := by
  have hs := hb.size
  exact (hb.alloc hs _).grown hg (by simp; omega) (fun k hk => (hown.lt k hk).1)
theorem one_u8 (x : Int) : ∀ u ∈ [Value.int .u8 x], u.oneCell' = true := by intro u hu; simp at hu; subst hu; rfl

set_option maxHeartbeats 400000 in
theorem l01Eight_any (n : Int) (w : World) :
    Calls Try.prog 30 #[.int .u64 n] w fun e w' => ∃ v, e = .returned v ∧ Mine w' w.heap.size v (eights n 8) ∧ Below w.heap.size w w' := by
  obtain ⟨i0, hi, hz0, hz1, hz2⟩ := info_parts Try.infoU8
  go_enter Try.func30, Try.ntmps30
  go_wp2_with fail
  go_loopw [3, 4] (fun v i wr => ∃ k : Nat, k ≤ 8 ∧ i = .int .i64 (7 - k) ∧ wr.ownsRow w.heap.size 5 1 v k ((eights n k).map (Value.int .u8)) ∧ Below w.heap.size w wr) (fun _ i _ => ((intOf i) + 1).toNat)
  case atStart => exact ⟨0, by omega, rfl, World.ownsRow_lit _ _ _ (Nat.le_refl _) (by unfold maxLen; omega) rfl, (Below.refl _ _).alloc (Nat.le_refl _) _⟩
  case round =>
    obtain ⟨k, hk, rfl, hown, hb⟩ := hrel
    by_cases hlt : k < 8
    · go_wp2_with (at_builtin; go_must (refine wpList_append_own _ rfl _ _ 23 rfl w.heap.size 5 i0 (.int .u8 0) 1 1 Try.underlying23 hi hz0 hz1 hz2 rfl (by decide) _ _ _ rfl (hown.alloc _) ⟨wr.heap.size, 0, none⟩ 1 1 [.int .u8 (n / 2 ^ (8 * (7 - k)) % 256)] rfl rfl (cell_one_new _ _ _) (one_u8 _) (by unfold maxLen; omega) (by omega) (by have := hb.size; simp; omega) ?_))
      intro v' w1 hown' hgrow _
      have R1 := hide hown'
      rw [← eights_succ] at R1
      have R2 := hide (below_append hb hown hgrow)
      clear hown hown' hgrow hb
      go_wp2_with fail
      go_roundw
      case rel => exact ⟨k + 1, by omega, by go_num, unhide R1, unhide R2⟩
      case measure => simp [intOf]; omega
    · obtain rfl : k = 8 := by omega
      have M := hide (mine_of_owns (xs := eights n 8) (by rw [eights_length]; exact hown))
      clear hown
      go_wp2_with fail
      go_ret
      exact ⟨_, rfl, unhide M, hb⟩
/-- The array behind k rounds: its last k bytes laid. -/
def filled (n : Int) (k : Nat) : List Int := (List.range 8).map fun j => if 8 - k ≤ j then byteAt n j else 0
theorem filled_set (n : Int) (k : Nat) (hk : k < 8) : ((filled n k).map (Value.int .u8)).set (7 - k) (.int .u8 (n / 2 ^ (8 * k) % 256)) = (filled n (k + 1)).map (Value.int .u8) := by
  match k, hk with
  | 0, _ => rfl
  | 1, _ => rfl
  | 2, _ => rfl
  | 3, _ => rfl
  | 4, _ => rfl
  | 5, _ => rfl
  | 6, _ => rfl
  | 7, _ => rfl
theorem filled_at (n : Int) (k : Nat) (hk : k < 8) : (filled n k)[7 - k]? = some 0 := by
  match k, hk with
  | 0, _ => rfl
  | 1, _ => rfl
  | 2, _ => rfl
  | 3, _ => rfl
  | 4, _ => rfl
  | 5, _ => rfl
  | 6, _ => rfl
  | 7, _ => rfl
theorem filled_lit (n : Int) : ((filled n 8).map (Value.int .u8)).toArray = #[.int .u8 (byteAt n 0), .int .u8 (byteAt n 1), .int .u8 (byteAt n 2), .int .u8 (byteAt n 3), .int .u8 (byteAt n 4), .int .u8 (byteAt n 5), .int .u8 (byteAt n 6), .int .u8 (byteAt n 7)] := rfl
theorem eights_lit (n : Int) : ((eights n 8).map (Value.int .u8)).toArray = #[.int .u8 (byteAt n 0), .int .u8 (byteAt n 1), .int .u8 (byteAt n 2), .int .u8 (byteAt n 3), .int .u8 (byteAt n 4), .int .u8 (byteAt n 5), .int .u8 (byteAt n 6), .int .u8 (byteAt n 7)] := rfl
theorem div_step (n : Int) (k : Nat) : n / 2 ^ (8 * k) / 256 = n / 2 ^ (8 * (k + 1)) := by
  rw [Int.ediv_ediv_of_nonneg (by exact Int.pow_nonneg (by decide)), show 8 * (k + 1) = 8 * k + 8 from by omega, Int.pow_add]
  rfl
theorem filled_all (n : Int) : filled n 8 = eights n 8 := rfl

set_option maxHeartbeats 400000 in
theorem eightOf_any (n : Int) (w : World) :
    Calls Try.prog 32 #[.int .u64 n] w fun e w' => e = .returned (.agg ((eights n 8).map (Value.int .u8)).toArray) ∧ Below w.heap.size w w' := by
  go_enter Try.func32, Try.ntmps32
  go_wp2_with fail
  go_loopw [0, 4] (fun r i wr => ∃ k : Nat, k ≤ 8 ∧ r = .int .u64 (n / 2 ^ (8 * k)) ∧ i = .int .i64 (7 - k) ∧ wr = (w.alloc (.cells #[.int .u8 0, .int .u8 0, .int .u8 0, .int .u8 0, .int .u8 0, .int .u8 0, .int .u8 0, .int .u8 0] 51)).alloc (.cells ((filled n k).map (Value.int .u8)).toArray 51)) (fun _ i _ => ((intOf i) + 1).toNat)
  case atStart => exact ⟨0, by omega, by simp, rfl, rfl⟩
  case round =>
    obtain ⟨k, hk, rfl, rfl, rfl⟩ := hrel
    by_cases hlt : k < 8
    · have hat := filled_at n k hlt
      go_wp2_with fail
      go_roundw
      case rel => exact ⟨k + 1, by omega, congrArg _ (div_step n k), by go_num, by rw [filled_set n k hlt]⟩
      case measure => simp [intOf]; omega
    · obtain rfl : k = 8 := by omega
      rw [filled_lit]
      have E8 := hide (eights_lit n)
      generalize byteAt n 0 = b0 at *
      generalize byteAt n 1 = b1 at *
      generalize byteAt n 2 = b2 at *
      generalize byteAt n 3 = b3 at *
      generalize byteAt n 4 = b4 at *
      generalize byteAt n 5 = b5 at *
      generalize byteAt n 6 = b6 at *
      generalize byteAt n 7 = b7 at *
      go_wp2_with fail
      refine bodyPost_ret (v := .agg #[.int .u8 b0, .int .u8 b1, .int .u8 b2, .int .u8 b3, .int .u8 b4, .int .u8 b5, .int .u8 b6, .int .u8 b7]) (by simp [results, Try.results32, go_sem]) rfl ⟨by rw [unhide E8], ?_⟩
      exact ((Below.refl _ _).alloc (Nat.le_refl _) _).alloc (by simp) _
theorem eightOf_lit (n : Int) (w : World) :
    Calls Try.prog 32 #[.int .u64 n] w fun e w' => ∃ b0 b1 b2 b3 b4 b5 b6 b7, e = .returned (.agg #[.int .u8 b0, .int .u8 b1, .int .u8 b2, .int .u8 b3, .int .u8 b4, .int .u8 b5, .int .u8 b6, .int .u8 b7]) ∧ Hid (eights n 8 = [b0, b1, b2, b3, b4, b5, b6, b7]) ∧ Below w.heap.size w w' := by
  refine (eightOf_any n w).mono ?_
  rintro e w' ⟨rfl, hb⟩
  exact ⟨byteAt n 0, byteAt n 1, byteAt n 2, byteAt n 3, byteAt n 4, byteAt n 5, byteAt n 6, byteAt n 7, rfl, rfl, hb⟩
theorem mine_alloc {w1 w2 : World} {t : TypeId} {B : Nat} {xs : List Int} (hB : B ≤ w1.heap.size) (hw : w2 = w1.alloc (.cells (xs.map (Value.int .u8)).toArray t)) (hl : xs.length = 8) : Mine w2 B (.slice (some ⟨w1.heap.size, 0, none⟩) 8 8) xs := by
  subst hw
  refine ⟨some ⟨w1.heap.size, 0, none⟩, 8, by rw [hl], by omega, by unfold maxLen; omega, ⟨rfl, fun i hi => ⟨_, 0, rfl, ?_⟩⟩, ?_⟩
  · simp [List.getD, hi]
  · intro x hx
    cases hx
    refine ⟨hB, by simp, fun j => by simp⟩
end Go.Proofs.Ytgbfhofkkookcae
