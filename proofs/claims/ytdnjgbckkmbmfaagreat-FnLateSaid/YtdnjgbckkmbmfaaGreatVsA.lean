/-
  The specification's tests of versions: one, how two stand.
-/
import Derived.Test.YtdnjgbckkmbmfaaGreatVrL
import Derived.Test.YtdnjgbckkmbmfaaGreatTakes
namespace Go.Proofs.YtdnjgbckkmbmfaaGreat
open Go.RowKit

theorem vs_ne {a b : ByteArray} (h : ¬ a = b) : (a.toList == b.toList) = false := by
 cases hq : (a.toList == b.toList) with
 | false => rfl
 | true =>
  refine absurd ?_ h
  have e : a.toList = b.toList := by simpa using hq
  rw [ByteArray.toList_eq, ByteArray.toList_eq] at e
  cases a
  cases b
  simp_all
set_option maxHeartbeats 2000000 in
theorem l06Before_any (a b : VerD) (w : World) : Calls Tryz.prog 87 #[vv a, vv b] w fun e w' => e = .returned (.bool (ltV a b)) ∧ Below w.heap.size w w' := by
 obtain ⟨k, t, v, g⟩ := a
 obtain ⟨k', t', v', g'⟩ := b
 unfold vv
 have B0 := hide (show Below w.heap.size w ((w.alloc (.cells #[.string k, .int .i64 t, .string v, .bool g] 43)).alloc (.cells #[.string k', .int .i64 t', .string v', .bool g'] 43)) from ((Below.refl _ _).alloc (Nat.le_refl _) _).alloc (by simp) _)
 by_cases h : k = k'
 ·subst h
  have F := hide (show decide (t < t') = ltV ⟨k, t, v, g⟩ ⟨k, t', v', g'⟩ by unfold ltV; rw [ltK_irr]; simp)
  generalize ltV ⟨k, t, v, g⟩ ⟨k, t', v', g'⟩ = R at *
  go_enter Tryz.func87, Tryz.ntmps87
  go_wp2_with fail
  go_ret
  exact ⟨ret_bool (unhide F), unhide B0⟩
 ·have F := hide (show Op.bytesLess k.toList k'.toList = ltV ⟨k, t, v, g⟩ ⟨k', t', v', g'⟩ by unfold ltV ltK; simp [h])
  generalize ltV ⟨k, t, v, g⟩ ⟨k', t', v', g'⟩ = R at *
  have hne := vs_ne h
  go_enter Tryz.func87, Tryz.ntmps87
  go_wp2_with fail
  go_ret
  exact ⟨ret_bool (unhide F), unhide B0⟩
end Go.Proofs.YtdnjgbckkmbmfaaGreat
