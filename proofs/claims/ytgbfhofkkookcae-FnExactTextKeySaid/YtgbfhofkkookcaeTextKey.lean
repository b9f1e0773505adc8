/-
  The walks of TextKey, the program's and the specification's.
-/
import Derived.Test.YtgbfhofkkookcaeText
namespace Go.Proofs.Ytgbfhofkkookcae
open Go.RowKit

/-- A text's key, and the code. -/
def textKeyL (s : ByteArray) : List Int := if 100 < s.size then [] else esc s.data.toList ++ [0, 1]
def textKeyC (s : ByteArray) : Int := if 65536 < s.size then 2 else if 100 < s.size then 11 else 0
theorem mine_nil (w : World) (B : Nat) : Mine w B (.slice none 0 0) [] :=
  ⟨none, 0, rfl, Nat.le_refl _, by unfold maxLen; omega, ⟨rfl, fun i hi => absurd hi (Nat.not_lt_zero _)⟩, fun x hx => by cases hx⟩
theorem mine_empty {w : World} {B : Nat} (t : TypeId) (h : B ≤ w.heap.size) : Mine (w.alloc (.cells #[] t)) B (.slice (some ⟨w.heap.size, 0, none⟩) 0 0) [] :=
  mine_of_owns (e := t) (World.ownsRow_lit _ _ _ h (by unfold maxLen; simp) rfl)

set_option maxHeartbeats 400000 in
theorem specTextKey_any (s : ByteArray) (w : World) (hs : s.size ≤ 1048576) :
    Calls Try.prog 20 #[.string s] w fun e w' => ∃ v, e = .returned (.tuple #[v, .int .i64 (textKeyC s)]) ∧ Mine w' w.heap.size v (textKeyL s) ∧ Below w.heap.size w w' := by
  by_cases h1 : 65536 < s.size
  · have HC := hide (show textKeyC s = 2 by simp [textKeyC, h1])
    have HL := hide (show textKeyL s = [] by simp [textKeyL]; omega)
    go_enter Try.func20, Try.ntmps20
    go_wp2_with fail
    go_ret2
    exact ⟨_, by rw [unhide HC]; rfl, by rw [unhide HL]; exact mine_empty _ (Nat.le_refl _), (Below.refl _ _).alloc (Nat.le_refl _) _⟩
  by_cases h2 : 100 < s.size
  · have HC := hide (show textKeyC s = 11 by simp [textKeyC, h1, h2])
    have HL := hide (show textKeyL s = [] by simp [textKeyL]; omega)
    go_enter Try.func20, Try.ntmps20
    go_wp2_with fail
    go_ret2
    exact ⟨_, by rw [unhide HC]; rfl, by rw [unhide HL]; exact mine_empty _ (Nat.le_refl _), (Below.refl _ _).alloc (Nat.le_refl _) _⟩
  have HC := hide (show textKeyC s = 0 by simp [textKeyC, h1, h2])
  have HL := hide (show textKeyL s = esc s.data.toList ++ [0, 1] by simp [textKeyL]; omega)
  go_enter Try.func20, Try.ntmps20
  go_wp2_with (go_at_call 39; refine (l01Text_any _ _ (by omega)).mono ?_; rintro e w1 ⟨v, rfl, ho, hb⟩)
  go_ret2
  exact ⟨_, by rw [unhide HC]; rfl, by rw [unhide HL]; exact mine_of_owns ho, hb⟩

set_option maxHeartbeats 400000 in
theorem textKey_any (s : ByteArray) (w : World) (hs : s.size ≤ 1048576) :
    Calls Try.prog 21 #[.string s] w fun e w' => ∃ v, e = .returned (.tuple #[v, .int .i64 (textKeyC s)]) ∧ Mine w' w.heap.size v (textKeyL s) ∧ Below w.heap.size w w' := by
  by_cases h1 : 65536 < s.size
  · have HC := hide (show textKeyC s = 2 by simp [textKeyC, h1])
    have HL := hide (show textKeyL s = [] by simp [textKeyL]; omega)
    go_enter Try.func21, Try.ntmps21
    go_wp2_with fail
    go_ret2
    exact ⟨_, by rw [unhide HC]; rfl, by rw [unhide HL]; exact mine_nil _ _, Below.refl _ _⟩
  by_cases h2 : 100 < s.size
  · have HC := hide (show textKeyC s = 11 by simp [textKeyC, h1, h2])
    have HL := hide (show textKeyL s = [] by simp [textKeyL]; omega)
    go_enter Try.func21, Try.ntmps21
    go_wp2_with fail
    go_ret2
    exact ⟨_, by rw [unhide HC]; rfl, by rw [unhide HL]; exact mine_nil _ _, Below.refl _ _⟩
  have HC := hide (show textKeyC s = 0 by simp [textKeyC, h1, h2])
  have HL := hide (show textKeyL s = esc s.data.toList ++ [0, 1] by simp [textKeyL]; omega)
  go_enter Try.func21, Try.ntmps21
  go_wp2_with (go_at_call 40; refine (appendText_any w.heap.size (.slice none 0 0) [] _ _ (by omega) (Nat.le_refl _) (by simp) (World.ownsRow_nil _ _ _ _)).mono ?_; rintro e w1 ⟨v, rfl, ho, hb⟩)
  go_ret2
  exact ⟨_, by rw [unhide HC]; rfl, by rw [unhide HL]; exact mine_of_owns ho, hb⟩
end Go.Proofs.Ytgbfhofkkookcae
