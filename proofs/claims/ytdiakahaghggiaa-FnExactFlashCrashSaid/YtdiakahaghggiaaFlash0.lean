/-
  The walk of a device's method flash where nothing waits.
-/
import Derived.Test.YtdiakahaghggiaaDevC
import Derived.Test.YtdiakahaghggiaaDevD
namespace Go.Proofs.Ytdiakahaghggiaa
open Go.RowKit Go.Maps

set_option maxRecDepth 100000 in
set_option maxHeartbeats 2000000 in
theorem flash0_any (base p N : Nat) (S : DS) (w : World) (hD : Dev w base p N S) (h0 : S.ws = []) :
    Calls Try.prog 47 #[.pointer (some ⟨p, 0, none⟩)] w fun e w' => ∃ g, e = .returned (fv (some ⟨g, 0, none⟩) (S.hc * 16) (S.hc * 16) none 0 0) ∧ Mine w' w.heap.size (.slice (some ⟨g, 0, none⟩) (S.hc * 16) (S.hc * 16)) (secBytes S.hc S.hf) ∧ Below w.heap.size w w' := by
  obtain ⟨mh, mr, v, hd⟩ := hD
  obtain ⟨a, cap, rfl⟩ : ∃ a cap, v = .slice a 0 cap := by
    have := hd.wait
    rw [h0] at this
    rcases this.2 with ⟨e, _⟩ | ⟨g, cap, _, e, _⟩
    · exact ⟨none, 0, e⟩
    · exact ⟨_, cap, e⟩
  have hpl : p < w.heap.size := cell_lt hd.c0
  have c4 := hd.c4
  have B0 : ∀ o, Below w.heap.size w (w.alloc o) := fun o => (Below.refl _ _).alloc (Nat.le_refl _) _
  have HB := hide (fun o => bytes_any p 0 mh N S.hc S.hf (w.alloc o) (hd.below (B0 o)).held hd.hok.2.1 hd.hok.1 (hd.below (B0 o)).c0 (hd.below (B0 o)).c1)
  clear hd
  go_enter Try.func47, Try.ntmps47
  go_wp2_with fail
  refine (unhide HB _).mono ?_
  rintro e w1 ⟨rfl, hM, hb1⟩
  have hz : (w.alloc (.cells #[.slice none 0 0, .slice none 0 0] 30)).heap.size = w.heap.size + 1 := by simp
  rw [hz] at hM hb1 ⊢
  have c4 : w1.cell? ⟨p, 4, none⟩ = some (.slice a 0 cap) := (hb1.cell (p := ⟨p, 4, none⟩) (by simp; omega)).trans ((cell_old hpl).trans c4)
  have r0 : w1.cell? ⟨w.heap.size, 0, none⟩ = some (.slice none 0 0) := (hb1.cell (p := ⟨w.heap.size, 0, none⟩) (by simp)).trans ((cell_new rfl).trans rfl)
  have r1 : w1.cell? ⟨w.heap.size, 1, none⟩ = some (.slice none 0 0) := (hb1.cell (p := ⟨w.heap.size, 1, none⟩) (by simp)).trans ((cell_new rfl).trans rfl)
  have f0 : w1.frozen? ⟨w.heap.size, 0, none⟩ = false := (hb1.frozen (p := ⟨w.heap.size, 0, none⟩) (by simp)).trans (frozen_new rfl)
  have f1 : w1.frozen? ⟨w.heap.size, 1, none⟩ = false := (hb1.frozen (p := ⟨w.heap.size, 1, none⟩) (by simp)).trans (frozen_new rfl)
  have BB := hide ((B0 (.cells #[.slice none 0 0, .slice none 0 0] 30)).trans (hb1.mono (by omega)))
  have hs1 : w.heap.size + 1 ≤ w1.heap.size := by have := hb1.size; rw [hz] at this; exact this
  have HM := hide hM
  clear hM hb1 hz HB B0
  have hp1 : p < w1.heap.size := by omega
  have hw1 : w.heap.size < w1.heap.size := by omega
  go_wp2_with fail
  refine wp_loop_rounds 1 ?_
  rw [rounds_succ]
  go_wp2_with fail
  have B3 := hide ((((unhide BB).setCell (p := ⟨w.heap.size, 0, none⟩) (Nat.le_refl _) (.slice (some ⟨w.heap.size + 1, 0, none⟩) (S.hc * 16) (S.hc * 16))).setCell (p := ⟨w.heap.size, 1, none⟩) (Nat.le_refl _) (.slice none 0 0)).alloc (by simp [World.setCell]; omega) (.cells #[.slice (some ⟨w.heap.size + 1, 0, none⟩) (S.hc * 16) (S.hc * 16), .slice none 0 0] 30))
  refine bodyPost_ret (v := fv (some ⟨w.heap.size + 1, 0, none⟩) (S.hc * 16) (S.hc * 16) none 0 0) (by simp [results, Try.results47, go_sem, r0, r1, hw1]) rfl ⟨w.heap.size + 1, rfl, ?_, unhide B3⟩
  obtain ⟨a1, c1, e, m1, m2, m3, m4⟩ := unhide HM
  injection e with e1 _ e3
  subst e1 e3
  have hgl := (m4 _ rfl).2.1
  simp only at hgl
  refine ⟨_, _, by rw [‹S.hc * 16 = _›], m1, m2, m3.of_cells fun y hy p hp => ?_, fun y hy => ?_⟩
  · cases hy
    simp only at hp
    rw [cell_old (by simp [World.setCell]; omega), World.cell?_setCell_other _ _ _ _ (by intro e; rw [← e] at hp; simp at hp), World.cell?_setCell_other _ _ _ _ (by intro e; rw [← e] at hp; simp at hp)]
  · cases hy
    refine ⟨by simp, by simp; omega, fun j => ?_⟩
    rw [frozen_old (by simp [World.setCell]; omega), World.frozen?_setCell, World.frozen?_setCell]
    exact (m4 _ rfl).2.2 j
end Go.Proofs.Ytdiakahaghggiaa
