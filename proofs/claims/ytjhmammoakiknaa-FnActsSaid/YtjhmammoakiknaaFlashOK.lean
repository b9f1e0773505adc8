/-
  The walks of l02Size, sectorNumberOK and of both FlashOK.
-/
import Derived.Test.YtjhmammoakiknaaFlashD
import Derived.Deep.RegionWith
namespace Go.Proofs.Ytjhmammoakiknaa
open Go.RowKit

def okW (d : WD) : Bool := decide (0 ≤ d.at_ ∧ d.at_ ≤ 127 ∧ d.xs.length = 16)
def okD (nh : Nat) (ws : List WD) : Bool := decide (nh % 16 = 0 ∧ nh ≤ 2048 ∧ ws.length ≤ 4096) && ws.all okW
theorem okD_bad {nh : Nat} {ws : List WD} (h : ¬ (nh % 16 = 0 ∧ nh ≤ 2048 ∧ ws.length ≤ 4096)) : okD nh ws = false := by unfold okD; rw [decide_eq_false h]; rfl
theorem okD_all {nh : Nat} {ws : List WD} (h : nh % 16 = 0 ∧ nh ≤ 2048 ∧ ws.length ≤ 4096) : okD nh ws = ws.all okW := by unfold okD; rw [decide_eq_true h]; rfl
theorem all_of {ws : List WD} (h : ∀ i (hi : i < ws.length), okW ws[i] = true) : ws.all okW = true := by
  rw [List.all_eq_true]
  intro x hx
  obtain ⟨i, hi, rfl⟩ := List.mem_iff_getElem.1 hx
  exact h i hi
theorem not_all {ws : List WD} {k : Nat} (hk : k < ws.length) (h : okW ws[k] = false) : ws.all okW = false := by
  rw [List.all_eq_false]
  exact ⟨_, List.getElem_mem hk, by simp [h]⟩
theorem l01In_f (p lo hi : Int) (w : World) : Calls Try.prog 58 #[.int .i64 p, .int .i64 lo, .int .i64 hi] w fun e w' => e = .returned (.bool (decide (lo ≤ p) && decide (p ≤ hi))) ∧ w' = w := by
  go_enter Try.func58, Try.ntmps58
  go_wp2_with fail
  all_goals go_ret
  all_goals exact ⟨ret_bool (by simp_all; try omega), rfl⟩
theorem l02Size_any (w : World) : Calls Try.prog 71 #[] w fun e w' => e = .returned (.int .i64 2048) ∧ w' = w := by
  go_enter Try.func71, Try.ntmps71
  go_wp2_with fail
  go_ret
  exact ⟨rfl, rfl⟩
theorem sectorNumberOK_any (p : Int) (w : World) : Calls Try.prog 60 #[.int .i64 p] w fun e w' => e = .returned (.bool (decide (0 ≤ p ∧ p ≤ 127))) ∧ w' = w := by
  by_cases h : 0 ≤ p ∧ p ≤ 127
  · have h1 := h.1
    have h2 : p < 128 := by omega
    go_enter Try.func60, Try.ntmps60
    go_wp2_with fail
    go_ret
    exact ⟨ret_bool (by simp [h]), rfl⟩
  · by_cases h1 : 0 ≤ p
    · have h2 : ¬ p < 128 := by omega
      go_enter Try.func60, Try.ntmps60
      go_wp2_with fail
      go_ret
      exact ⟨ret_bool (by simp; omega), rfl⟩
    · go_enter Try.func60, Try.ntmps60
      go_wp2_with fail
      go_ret
      exact ⟨ret_bool (by simp), rfl⟩

end Go.Proofs.Ytjhmammoakiknaa
