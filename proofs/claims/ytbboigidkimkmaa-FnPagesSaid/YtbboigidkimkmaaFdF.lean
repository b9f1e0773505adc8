/-
  l04Put into a list that is nil.
-/
import Derived.Test.YtbboigidkimkmaaPgG
namespace Go.Proofs.Ytbboigidkimkmaa
open Go.RowKit

set_option maxRecDepth 100000 in
set_option maxHeartbeats 4000000 in
theorem l04Put_nil (e : EntD) (w : World) :
    Calls Try.prog 49 #[.slice none 0 0, .agg #[.string e.k, .string e.v], .bool false] w fun x w' => ∃ g cap, x = .returned (.slice (some ⟨g, 0, none⟩) 1 cap) ∧ EOwns w' w.heap.size (.slice (some ⟨g, 0, none⟩) 1 cap) [e] ∧ Below w.heap.size w w' := by
  obtain ⟨i0, hi0, hz0, hz1, hz2⟩ := info_parts Try.infoEntry
  have b1 : Below w.heap.size w ((w.alloc (.cells #[.string e.k, .string e.v] 57)).alloc (.cells #[] 57)) := ((Below.refl _ _).alloc (Nat.le_refl _) _).alloc (by simp) _
  have O0 := hide (show EOwns ((w.alloc (.cells #[.string e.k, .string e.v] 57)).alloc (.cells #[] 57)) (w.heap.size + 1) (.slice (some ⟨w.heap.size + 1, 0, none⟩) 0 0) [] by
    have := World.ownsRow_lit (base := w.heap.size + 1) (e := 57) (size := 2) (w.alloc (.cells #[.string e.k, .string e.v] 57)) #[] 0 (by simp) (by unfold maxLen; simp) rfl
    simp at this
    exact this)
  go_enter Try.func49, Try.ntmps49
  go_wp2_with fail
  refine wp_loop_rounds 1 ?_
  rw [rounds_succ]
  have e0 : ((w.alloc (.cells #[.string e.k, .string e.v] 57)).alloc (.cells #[] 57)).cell? ⟨w.heap.size, 0, none⟩ = some (.string e.k) := by simp
  have e1 : ((w.alloc (.cells #[.string e.k, .string e.v] 57)).alloc (.cells #[] 57)).cell? ⟨w.heap.size, 1, none⟩ = some (.string e.v) := by simp
  have hsz : w.heap.size + 1 ≤ ((w.alloc (.cells #[.string e.k, .string e.v] 57)).alloc (.cells #[] 57)).heap.size := by simp
  have B2 := hide b1
  generalize (w.alloc (.cells #[.string e.k, .string e.v] 57)).alloc (.cells #[] 57) = wr at *
  clear b1
  go_wp2_with fail
  go_quiet (fail)
  have O2 : (wr.drewN nq).ownsRow (w.heap.size + 1) 57 2 (.slice (some ⟨w.heap.size + 1, 0, none⟩) 0 0) 0 (ecs []) := unhide O0
  have B2q := hide (bel_drewN (unhide B2) nq)
  have e0q : (wr.drewN nq).cell? ⟨w.heap.size, 0, none⟩ = some (.string e.k) := e0
  have e1q : (wr.drewN nq).cell? ⟨w.heap.size, 1, none⟩ = some (.string e.v) := e1
  have hszq : w.heap.size + 1 ≤ (wr.drewN nq).heap.size := hsz
  have O2q := hide O2
  clear O2 O0 B2 e0 e1 hsz
  generalize wr.drewN nq = wq at *
  go_wp2_with (at_builtin; refine wpList_append_own _ rfl _ _ 23 rfl (w.heap.size + 1) 57 i0 (.agg #[.string ByteArray.empty, .string ByteArray.empty]) 2 32 Try.underlying23 hi0 hz0 hz1 hz2 rfl (by decide) _ _ _ rfl (World.ownsRow.alloc (unhide O2q) _) ⟨wq.heap.size, 0, none⟩ 1 1 [.string e.k, .string e.v] rfl rfl (cells_new (vs := [.string e.k, .string e.v])) (by intro u hu; simp at hu; rcases hu with rfl | rfl <;> rfl) (by unfold maxLen; omega) (by omega) (by simp; omega) ?_)
  intro v3 w3 h1 h2 h3
  have O3 : EOwns w3 (w.heap.size + 1) v3 ([] ++ [e]) := eapp h1
  obtain ⟨g3, cap3, rfl, hg3⟩ := eowns_some O3 (fun h => by subst h; simp at h3)
  have bZ : Below (w.heap.size + 1) wq w3 := ((Below.refl _ _).alloc hszq _).grown h2 (by simp; omega) (fun k hk => ((unhide O2q).lt k hk).1)
  have BX := hide ((unhide B2q).trans (bZ.mono (by omega)))
  have O3h := hide O3
  have e0r := (bZ.cell (p := ⟨w.heap.size, 0, none⟩) (by show w.heap.size < w.heap.size + 1; omega)).trans e0q
  have hs3 : w.heap.size + 1 ≤ w3.heap.size := Nat.le_trans hszq bZ.size
  clear h1 h2 h3 O3 bZ O2q B2q e0q e1q
  go_wp2_with fail
  go_quiet (fail)
  have BX2 := hide (bel_drewN (unhide BX) nq)
  have O4 := hide (show EOwns (w3.drewN nq) (w.heap.size + 1) (.slice (some ⟨g3, 0, none⟩) 1 cap3) [e] from unhide O3h)
  have hs4 : w.heap.size + 1 ≤ (w3.drewN nq).heap.size := hs3
  clear O3h BX e0r hs3
  generalize w3.drewN nq = wz at *
  obtain ⟨v5, w5, hr5, ho5, hg5, hv5⟩ := run_appE (es := []) 23 (unhide O4) (⟨rfl, fun i hi => absurd hi (Nat.not_lt_zero _)⟩ : ERow wz none 0 []) (by simp) (by omega) (fun _ => rfl) hs4
  rw [List.append_nil] at ho5
  have hv5' := hv5 (by simp)
  obtain ⟨g5, cap5, rfl, _⟩ := eowns_some ho5 hv5'
  have O6 := hide (ownsRow_base2 ho5 (Nat.le_succ w.heap.size))
  have B6 := hide ((unhide BX2).grown hg5 (Nat.le_trans (Nat.le_succ _) hs4) (fun k hk => Nat.le_trans (Nat.le_succ _) ((unhide O4).lt k hk).1))
  clear ho5 hg5 hv5 hv5'
  go_wp2_with (at_builtin; refine wpAppE rfl (.tmp 55) (.tmp 58) 23 rfl _ _ _ w5 rfl rfl hr5 ?_)
  go_wp2_with fail
  go_ret
  exact ⟨g5, cap5, rfl, unhide O6, unhide B6⟩
end Go.Proofs.Ytbboigidkimkmaa
