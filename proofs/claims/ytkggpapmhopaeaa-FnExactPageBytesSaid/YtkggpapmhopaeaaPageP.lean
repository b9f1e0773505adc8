/-
  spec.PageOK.
-/
import Derived.Test.YtkggpapmhopaeaaPageO
namespace Go.Proofs.Ytkggpapmhopaeaa
open Go.RowKit

theorem bounds_bad {lo hi : ByteArray} {r : Int} (h : okBounds lo hi r = false) : 40 < lo.size ∨ (lo.size ≤ 40 ∧ 40 < hi.size) ∨ (lo.size ≤ 40 ∧ hi.size ≤ 40 ∧ hi.toList.isEmpty = true ∧ r < -1) ∨ (lo.size ≤ 40 ∧ hi.size ≤ 40 ∧ hi.toList.isEmpty = true ∧ 0 ≤ r) ∨
    (lo.size ≤ 40 ∧ hi.size ≤ 40 ∧ hi.toList.isEmpty = false ∧ Op.bytesLess lo.toList hi.toList = false) ∨ (lo.size ≤ 40 ∧ hi.size ≤ 40 ∧ hi.toList.isEmpty = false ∧ Op.bytesLess lo.toList hi.toList = true ∧ 1000 < r) ∨ (lo.size ≤ 40 ∧ hi.size ≤ 40 ∧ hi.toList.isEmpty = false ∧ Op.bytesLess lo.toList hi.toList = true ∧ r < 0) := by
  unfold okBounds ltK idK at h
  by_cases h1 : lo.size ≤ 40
  · by_cases h2 : hi.size ≤ 40
    · rw [decide_eq_true h1, decide_eq_true h2] at h
      cases h3 : hi.toList.isEmpty with
      | true =>
        rw [h3] at h
        have : r ≠ -1 := by simpa using h
        by_cases h4 : r < -1
        · exact .inr (.inr (.inl ⟨h1, h2, rfl, h4⟩))
        · exact .inr (.inr (.inr (.inl ⟨h1, h2, rfl, by omega⟩)))
      | false =>
        rw [h3] at h
        cases h5 : Op.bytesLess lo.toList hi.toList with
        | false => exact .inr (.inr (.inr (.inr (.inl ⟨h1, h2, rfl, rfl⟩))))
        | true =>
          rw [h5] at h
          have : ¬ (0 ≤ r ∧ r ≤ 1000) := by simpa using h
          by_cases h4 : r < 0
          · exact .inr (.inr (.inr (.inr (.inr (.inr ⟨h1, h2, rfl, rfl, h4⟩)))))
          · exact .inr (.inr (.inr (.inr (.inr (.inl ⟨h1, h2, rfl, rfl, by omega⟩)))))
    · exact .inr (.inl ⟨h1, by omega⟩)
  · exact .inl (by omega)
theorem bounds_good {lo hi : ByteArray} {r : Int} (h : okBounds lo hi r = true) : lo.size ≤ 40 ∧ hi.size ≤ 40 ∧ ((hi.toList.isEmpty = true ∧ r = -1) ∨ (hi.toList.isEmpty = false ∧ Op.bytesLess lo.toList hi.toList = true ∧ 0 ≤ r ∧ r ≤ 1000)) := by
  unfold okBounds ltK idK at h
  cases h3 : hi.toList.isEmpty with
  | true =>
    rw [h3] at h
    simp at h
    exact ⟨h.1.1, h.1.2, .inl ⟨rfl, h.2⟩⟩
  | false =>
    rw [h3] at h
    simp at h
    exact ⟨h.1.1, h.1.2, .inr ⟨rfl, h.2.1, h.2.2.1, h.2.2.2⟩⟩
/-- Outside the bounds it answers no. -/
def inB (r : Int) : Bool := decide (-1 ≤ r) && decide (r ≤ 1000)
theorem l01In_r (r : Int) (w : World) : Calls Try.prog 33 #[.int .i64 r, .int .i64 (-1), .int .i64 1000] w fun e w' => e = .returned (.bool (inB r)) ∧ w' = w := l01In_any r (-1) 1000 w
set_option maxRecDepth 100000 in
set_option maxHeartbeats 4000000 in
theorem specPageOK_bounds (lo hi : ByteArray) (r : Int) (vb vc : Value) (w : World) (h : okBounds lo hi r = false) :
    Calls Try.prog 10 #[.agg #[.string lo, .string hi, .int .i64 r, vb, vc]] w fun e w' => e = .returned (.bool false) ∧ Below w.heap.size w w' := by
  have b0 := hide (show Below w.heap.size w (w.alloc (.cells #[.string lo, .string hi, .int .i64 r, vb, vc] 31)) from (Below.refl _ _).alloc (Nat.le_refl _) _)
  rcases bounds_bad h with h1 | ⟨h1, h2⟩ | ⟨h1, h2, h3, h4⟩ | ⟨h1, h2, h3, h4⟩ | ⟨h1, h2, h3, h4⟩ | ⟨h1, h2, h3, h4, h5⟩ | ⟨h1, h2, h3, h4, h5⟩
  · go_enter Try.func10, Try.ntmps10
    go_wp2_with fail
    go_ret
    exact ⟨rfl, unhide b0⟩
  · go_enter Try.func10, Try.ntmps10
    go_wp2_with fail
    go_ret
    exact ⟨rfl, unhide b0⟩
  · have hq : inB r = false := by unfold inB; rw [decide_eq_false (by omega)]; rfl
    go_enter Try.func10, Try.ntmps10
    go_wp2_with (go_at_call 33; refine (l01In_r r _).mono ?_; rintro e w1 ⟨rfl, rfl⟩)
    go_ret
    exact ⟨rfl, unhide b0⟩
  · have hd : decide (r < 0) = false := decide_eq_false (by omega)
    cases hq : inB r
    · go_enter Try.func10, Try.ntmps10
      go_wp2_with (go_at_call 33; refine (l01In_r r _).mono ?_; rintro e w1 ⟨rfl, rfl⟩)
      go_ret
      exact ⟨rfl, unhide b0⟩
    · go_enter Try.func10, Try.ntmps10
      go_wp2_with (go_at_call 33; refine (l01In_r r _).mono ?_; rintro e w1 ⟨rfl, rfl⟩)
      go_ret
      exact ⟨rfl, unhide b0⟩
  · go_enter Try.func10, Try.ntmps10
    go_wp2_with fail
    go_ret
    exact ⟨rfl, unhide b0⟩
  · have hq : inB r = false := by unfold inB; rw [decide_eq_false (show ¬ r ≤ 1000 by omega)]; simp
    go_enter Try.func10, Try.ntmps10
    go_wp2_with (go_at_call 33; refine (l01In_r r _).mono ?_; rintro e w1 ⟨rfl, rfl⟩)
    go_ret
    exact ⟨rfl, unhide b0⟩
  · have hd : decide (r < 0) = true := decide_eq_true (by omega)
    cases hq : inB r
    · go_enter Try.func10, Try.ntmps10
      go_wp2_with (go_at_call 33; refine (l01In_r r _).mono ?_; rintro e w1 ⟨rfl, rfl⟩)
      go_ret
      exact ⟨rfl, unhide b0⟩
    · go_enter Try.func10, Try.ntmps10
      go_wp2_with (go_at_call 33; refine (l01In_r r _).mono ?_; rintro e w1 ⟨rfl, rfl⟩)
      go_ret
      exact ⟨rfl, unhide b0⟩
end Go.Proofs.Ytkggpapmhopaeaa
