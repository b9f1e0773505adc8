/-
  impl.PageOK, impl.Bounds; the small tests of the specification's pages.
-/
import Derived.Test.YtfajenejngddeaaGreatPageJ
namespace Go.Proofs.YtfajenejngddeaaGreat
open Go.RowKit

theorem l01In_any (n a b : Int) (w : World) : Calls Tryz.prog 55 #[.int .i64 n, .int .i64 a, .int .i64 b] w fun e w' => e = .returned (.bool (decide (a ≤ n) && decide (n ≤ b))) ∧ w' = w := by
  by_cases h : a ≤ n
  · have E := hide (show decide (n ≤ b) = (decide (a ≤ n) && decide (n ≤ b)) by rw [decide_eq_true h]; rfl)
    go_enter Tryz.func55, Tryz.ntmps55
    go_wp2_with fail
    go_ret
    exact ⟨ret_bool (unhide E), rfl⟩
  · have E := hide (show false = (decide (a ≤ n) && decide (n ≤ b)) by rw [decide_eq_false h]; rfl)
    go_enter Tryz.func55, Tryz.ntmps55
    go_wp2_with fail
    go_ret
    exact ⟨ret_bool (unhide E), rfl⟩
theorem l04Key_any (k : ByteArray) (w : World) : Calls Tryz.prog 56 #[.string k] w fun e w' => e = .returned (.bool (keyK k)) ∧ w' = w := by
  by_cases h : 0 < k.size
  · have E := hide (show decide ((k.size : Int) ≤ 40) = keyK k by unfold keyK; rw [decide_eq_decide]; omega)
    go_enter Tryz.func56, Tryz.ntmps56
    go_wp2_with fail
    go_ret
    exact ⟨ret_bool (unhide E), rfl⟩
  · have E := hide (show false = keyK k by unfold keyK; rw [decide_eq_false]; omega)
    go_enter Tryz.func56, Tryz.ntmps56
    go_wp2_with fail
    go_ret
    exact ⟨ret_bool (unhide E), rfl⟩
/-- Below a bound. -/
def underK (k hi : ByteArray) : Bool := hi.toList.isEmpty || ltK k hi
theorem l04Under_any (k hi : ByteArray) (w : World) : Calls Tryz.prog 96 #[.string k, .string hi] w fun e w' => e = .returned (.bool (underK k hi)) ∧ w' = w := by
  by_cases h : hi.toList.isEmpty = true
  · have E := hide (show true = underK k hi by unfold underK; rw [h]; rfl)
    go_enter Tryz.func96, Tryz.ntmps96
    go_wp2_with fail
    go_ret
    exact ⟨ret_bool (unhide E), rfl⟩
  · have h' : hi.toList.isEmpty = false := by simpa using h
    have E := hide (show Op.bytesLess k.toList hi.toList = underK k hi by unfold underK ltK; rw [h']; rfl)
    go_enter Tryz.func96, Tryz.ntmps96
    go_wp2_with fail
    go_ret
    exact ⟨ret_bool (unhide E), rfl⟩
end Go.Proofs.YtfajenejngddeaaGreat
