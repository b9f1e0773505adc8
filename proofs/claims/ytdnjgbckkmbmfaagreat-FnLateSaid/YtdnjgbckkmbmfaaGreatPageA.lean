/-
  The small tests of impl's pages.
-/
import Derived.Test.YtdnjgbckkmbmfaaGreatPageL
namespace Go.Proofs.YtdnjgbckkmbmfaaGreat
open Go.RowKit

theorem keyOK_any (k : ByteArray) (w : World) : Calls Tryz.prog 102 #[.string k] w fun e w' => e = .returned (.bool (keyK k)) ∧ w' = w := by
 by_cases h : 1 ≤ k.size
 ·have E := hide (show decide ((k.size : Int) ≤ 40) = keyK k by unfold keyK; rw [decide_eq_decide]; omega)
  go_enter Tryz.func102, Tryz.ntmps102
  go_wp2_with fail
  go_ret
  exact ⟨ret_bool (unhide E), rfl⟩
 ·have E := hide (show false = keyK k by unfold keyK; rw [decide_eq_false]; omega)
  go_enter Tryz.func102, Tryz.ntmps102
  go_wp2_with fail
  go_ret
  exact ⟨ret_bool (unhide E), rfl⟩
theorem valueOK_any (v : ByteArray) (w : World) : Calls Tryz.prog 103 #[.string v] w fun e w' => e = .returned (.bool (valK v)) ∧ w' = w := by
 go_enter Tryz.func103, Tryz.ntmps103
 go_wp2_with fail
 go_ret
 exact ⟨ret_bool (by unfold valK; rw [decide_eq_decide]; omega), rfl⟩
theorem idOK_any (n : Int) (w : World) : Calls Tryz.prog 113 #[.int .i64 n] w fun e w' => e = .returned (.bool (idK n)) ∧ w' = w := by
 by_cases h : 0 ≤ n
 ·have E := hide (show decide (n ≤ 1000) = idK n by unfold idK; rw [decide_eq_decide]; omega)
  go_enter Tryz.func113, Tryz.ntmps113
  go_wp2_with fail
  go_ret
  exact ⟨ret_bool (unhide E), rfl⟩
 ·have E := hide (show false = idK n by unfold idK; rw [decide_eq_false]; omega)
  go_enter Tryz.func113, Tryz.ntmps113
  go_wp2_with fail
  go_ret
  exact ⟨ret_bool (unhide E), rfl⟩
end Go.Proofs.YtdnjgbckkmbmfaaGreat
