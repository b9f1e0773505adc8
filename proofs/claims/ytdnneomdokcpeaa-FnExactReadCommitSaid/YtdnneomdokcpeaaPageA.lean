/-
  The small tests of impl's pages.
-/
import Derived.Test.YtdnneomdokcpeaaPageL
namespace Go.Proofs.Ytdnneomdokcpeaa
open Go.RowKit

theorem keyOK_any (k : ByteArray) (w : World) : Calls Try.prog 77 #[.string k] w fun e w' => e = .returned (.bool (keyK k)) ∧ w' = w := by
  by_cases h : 1 ≤ k.size
  · have E := hide (show decide ((k.size : Int) ≤ 40) = keyK k by unfold keyK; rw [decide_eq_decide]; omega)
    go_enter Try.func77, Try.ntmps77
    go_wp2_with fail
    go_ret
    exact ⟨ret_bool (unhide E), rfl⟩
  · have E := hide (show false = keyK k by unfold keyK; rw [decide_eq_false]; omega)
    go_enter Try.func77, Try.ntmps77
    go_wp2_with fail
    go_ret
    exact ⟨ret_bool (unhide E), rfl⟩
theorem valueOK_any (v : ByteArray) (w : World) : Calls Try.prog 78 #[.string v] w fun e w' => e = .returned (.bool (valK v)) ∧ w' = w := by
  go_enter Try.func78, Try.ntmps78
  go_wp2_with fail
  go_ret
  exact ⟨ret_bool (by unfold valK; rw [decide_eq_decide]; omega), rfl⟩
theorem idOK_any (n : Int) (w : World) : Calls Try.prog 37 #[.int .i64 n] w fun e w' => e = .returned (.bool (idK n)) ∧ w' = w := by
  by_cases h : 0 ≤ n
  · have E := hide (show decide (n ≤ 1000) = idK n by unfold idK; rw [decide_eq_decide]; omega)
    go_enter Try.func37, Try.ntmps37
    go_wp2_with fail
    go_ret
    exact ⟨ret_bool (unhide E), rfl⟩
  · have E := hide (show false = idK n by unfold idK; rw [decide_eq_false]; omega)
    go_enter Try.func37, Try.ntmps37
    go_wp2_with fail
    go_ret
    exact ⟨ret_bool (unhide E), rfl⟩
end Go.Proofs.Ytdnneomdokcpeaa
