/-
  The program's reader along bytes: an entry, a change.
-/
import Derived.Test.YtbboigidkimkmaaRpJ
namespace Go.Proofs.Ytbboigidkimkmaa
open Go.RowKit

set_option maxHeartbeats 1000000 in
theorem done_any (rb D : Nat) (s : Rs) (w : World) (h : RdAt w rb D s) :
    Calls Try.prog 32 #[.pointer (some ⟨rb, 0, none⟩)] w fun e w' => e = .returned (.bool (!s.2 && decide (s.1 = []))) ∧ w' = w := by
  obtain ⟨a, n, c, h1, h2, _, _, _⟩ := h
  obtain ⟨c0, c1, _, _⟩ := rd_cells h1
  have hl := h2.1
  cases hs : s.2 with
  | true =>
    rw [hs] at c1
    clear h1 h2 hl
    go_enter Try.func32, Try.ntmps32
    go_wp2_with fail
    go_ret
    exact ⟨by simp, rfl⟩
  | false =>
    rw [hs] at c1
    have E := hide (show decide ((n : Int) = 0) = decide (s.1 = []) by
      rw [decide_eq_decide, ← List.length_eq_zero_iff, hl]; omega)
    clear h1 h2 hl
    by_cases hn : n = 0
    · have e2 := unhide E
      rw [decide_eq_true (by omega)] at e2
      have E2 := hide e2
      subst hn
      clear e2
      go_enter Try.func32, Try.ntmps32
      go_wp2_with fail
      go_ret
      exact ⟨by rw [← unhide E2]; simp, rfl⟩
    · have e2 := unhide E
      rw [decide_eq_false (by omega)] at e2
      have E2 := hide e2
      have hz : ((n : Int) == 0) = false := by rw [beq_eq_false_iff_ne]; omega
      clear e2
      go_enter Try.func32, Try.ntmps32
      go_wp2_with fail
      go_ret
      exact ⟨by rw [← unhide E2]; simp, rfl⟩
/-- A local block of a function's own beside the reader. -/
theorem heap_other {w : World} {b p : Nat} {cs : Array Value} {t : TypeId} (h : w.heap[b]? = some (.cells cs t (0, 0))) (hne : b ≠ p) (j : Nat) (v : Value) : (w.setCell ⟨p, j, none⟩ v).heap[b]? = some (.cells cs t (0, 0)) :=
  (Below.heap_setCell _ _ _ _ hne).trans h
theorem two_allocs (w : World) (cs ds : Array Value) (t u : TypeId) : ∃ W, W = (w.alloc (.cells cs t)).alloc (.cells ds u) ∧ Below w.heap.size w W ∧ W.heap[w.heap.size]? = some (.cells cs t (0, 0)) ∧ W.heap[w.heap.size + 1]? = some (.cells ds u (0, 0)) ∧ W.heap.size = w.heap.size + 2 := by
  refine ⟨_, rfl, ((Below.refl _ _).alloc (Nat.le_refl _) _).alloc (by simp) _, ?_, ?_, by simp⟩
  · have b2 : Below (w.heap.size + 1) (w.alloc (.cells cs t)) ((w.alloc (.cells cs t)).alloc (.cells ds u)) := (Below.refl _ _).alloc (by simp) _
    exact (b2.block w.heap.size (by omega)).trans (heap_alloc_new w _)
  · have := heap_alloc_new (w.alloc (.cells cs t)) (.cells ds u)
    simpa using this
theorem rEnt_eq (s : Rs) : rEnt s = (⟨(rText s).1, (rText (rText s).2).1⟩, (rText (rText s).2).2) := rfl
theorem rDel_eq (s : Rs) : rDel s = (⟨(rOne s).1, (rText (rOne s).2).1, (rText (rText (rOne s).2).2).1, (rTwo (rText (rText (rOne s).2).2).2).1⟩, (rTwo (rText (rText (rOne s).2).2).2).2) := rfl
theorem Wr.store {P : Nat → Prop} {w w' : World} (h : Wr P w w') {b : Nat} (hb : w.heap.size ≤ b) (j : Nat) (v : Value) : Wr P w (w'.setCell ⟨b, j, none⟩ v) :=
  ⟨h.os, h.tape, h.output, by simpa [World.setCell] using h.size, fun k hk hp => (Below.heap_setCell _ _ _ _ (by simp; omega)).trans (h.block k hk hp)⟩
set_option maxRecDepth 100000 in
set_option maxHeartbeats 1000000 in
theorem entry_any (rb D : Nat) (s : Rs) (w : World) (h : RdAt w rb D s) (hb : By s.1) (hD : D ≤ w.heap.size) :
    Calls Try.prog 60 #[.pointer (some ⟨rb, 0, none⟩)] w fun e w' => Rds w rb D (.agg #[.string (rEnt s).1.k, .string (rEnt s).1.v]) (rEnt s).2 e w' := by
  have hlt := h.lt
  obtain ⟨W0, hW0, hB0, k1, k2, hz⟩ := two_allocs w #[.string ⟨#[]⟩, .string ⟨#[]⟩] #[.string ⟨#[]⟩, .string ⟨#[]⟩] 57 57
  have R := hide (h.below hB0)
  have HW := hide (show Wr (fun i => i = rb) w W0 from Wr.of_below hB0)
  have FIN := hide (show ∀ e w', e = .returned (.agg #[.string (rEnt s).1.k, .string (rEnt s).1.v]) → RdAt w' rb D (rEnt s).2 → Wr (fun i => i = rb) w w' → Rds w rb D (.agg #[.string (rEnt s).1.k, .string (rEnt s).1.v]) (rEnt s).2 e w' from fun e w' h1 h2 h3 => ⟨h1, h2, h3⟩)
  clear h
  go_enter Try.func60, Try.ntmps60
  go_wp2_with fail
  rw [← hW0]
  clear hW0
  refine (textR_any rb D s W0 (unhide R) hb).mono ?_
  rintro e w1 ⟨rfl, hR, hw⟩
  replace hb := good_text.by_ _ hb
  replace k1 := loc_wr k1 hw (by omega)
  replace k2 := loc_wr k2 hw (by omega)
  replace HW := hide ((unhide HW).trans hw)
  have z0 := hw.size
  replace R := hide hR
  clear hR hw
  obtain ⟨x0, hx0⟩ : ∃ x, x = (rText s).1 := ⟨_, rfl⟩
  rw [← hx0]
  have X0 := hide hx0
  clear hx0
  obtain ⟨s0, hs0⟩ : ∃ x, x = (rText s).2 := ⟨_, rfl⟩
  rw [← hs0] at R hb
  have Y0 := hide hs0
  clear hs0
  have c0 : w1.cell? ⟨w.heap.size + 1, 0, none⟩ = some (.string ⟨#[]⟩) := (heap_at k2 0).1
  have f0 := (heap_at k2 0).2
  go_wp2_with fail
  clear c0 f0
  replace HW := hide ((unhide HW).store (show w.heap.size ≤ w.heap.size + 1 by omega) 0 (.string x0))
  replace R := hide ((unhide R).wr (wr_cell w1 (w.heap.size + 1) 0 (.string x0)) (fun i hi => by omega))
  replace k1 := heap_other k1 (show w.heap.size ≠ w.heap.size + 1 by omega) 0 (.string x0)
  replace k2 : (w1.setCell ⟨w.heap.size + 1, 0, none⟩ (.string x0)).heap[w.heap.size + 1]? = some (.cells #[.string x0, .string ⟨#[]⟩] 57 (0, 0)) := by simpa using heap_set k2 0 (.string x0)
  have y0 : (w1.setCell ⟨w.heap.size + 1, 0, none⟩ (.string x0)).heap.size = w1.heap.size := by simp [World.setCell]
  replace y0 : w1.heap.size ≤ (w1.setCell ⟨w.heap.size + 1, 0, none⟩ (.string x0)).heap.size := by omega
  generalize w1.setCell ⟨w.heap.size + 1, 0, none⟩ (.string x0) = w2 at *
  refine (textR_any rb D s0 w2 (unhide R) hb).mono ?_
  rintro e w3 ⟨rfl, hR, hw⟩
  replace hb := good_text.by_ _ hb
  replace k1 := loc_wr k1 hw (by omega)
  replace k2 := loc_wr k2 hw (by omega)
  replace HW := hide ((unhide HW).trans hw)
  have z1 := hw.size
  replace R := hide hR
  clear hR hw
  obtain ⟨x1, hx1⟩ : ∃ x, x = (rText s0).1 := ⟨_, rfl⟩
  rw [← hx1]
  have X1 := hide hx1
  clear hx1
  obtain ⟨s1, hs1⟩ : ∃ x, x = (rText s0).2 := ⟨_, rfl⟩
  rw [← hs1] at R hb
  have Y1 := hide hs1
  clear hs1
  replace HW := hide ((unhide HW).store (show w.heap.size ≤ w.heap.size + 1 by omega) 1 (.string x1))
  replace R := hide ((unhide R).wr (wr_cell w3 (w.heap.size + 1) 1 (.string x1)) (fun i hi => by omega))
  have c0 : w3.cell? ⟨w.heap.size + 1, 0, none⟩ = some (.string x0) := (heap_at k2 0).1
  have d0 : w3.cell? ⟨w.heap.size, 0, none⟩ = some (.string ⟨#[]⟩) := (heap_at k1 0).1
  have f0 := (heap_at k1 0).2
  have c1 : w3.cell? ⟨w.heap.size + 1, 1, none⟩ = some (.string ⟨#[]⟩) := (heap_at k2 1).1
  have d1 : w3.cell? ⟨w.heap.size, 1, none⟩ = some (.string ⟨#[]⟩) := (heap_at k1 1).1
  have f1 := (heap_at k1 1).2
  have g0 := (heap_at k2 1).2
  replace HW := hide ((unhide HW).store (Nat.le_refl w.heap.size) 0 (.string x0))
  replace R := hide ((unhide R).wr (wr_cell _ w.heap.size 0 (.string x0)) (fun i hi => by omega))
  replace HW := hide ((unhide HW).store (Nat.le_refl w.heap.size) 1 (.string x1))
  replace R := hide ((unhide R).wr (wr_cell _ w.heap.size 1 (.string x1)) (fun i hi => by omega))
  clear k1 k2
  go_wp2_with fail
  refine bodyPost_ret (v := .agg #[.string x0, .string x1]) (by simp [results, Try.results60, go_sem, *]) rfl ?_
  refine unhide FIN _ _ ?_ ?_ (unhide HW)
  · rw [rEnt_eq, unhide X0, unhide X1, unhide Y0]
  · rw [show (rEnt s).2 = s1 by rw [rEnt_eq, unhide Y1, unhide Y0]]
    exact unhide R
set_option maxRecDepth 100000 in
set_option maxHeartbeats 1000000 in
theorem delta_any (rb D : Nat) (s : Rs) (w : World) (h : RdAt w rb D s) (hb : By s.1) (hD : D ≤ w.heap.size) :
    Calls Try.prog 61 #[.pointer (some ⟨rb, 0, none⟩)] w fun e w' => Rds w rb D (.agg #[.int .i64 (rDel s).1.kind, .string (rDel s).1.k, .string (rDel s).1.v, .int .i64 (rDel s).1.to]) (rDel s).2 e w' := by
  have hlt := h.lt
  obtain ⟨W0, hW0, hB0, k1, k2, hz⟩ := two_allocs w #[.int .i64 0, .string ⟨#[]⟩, .string ⟨#[]⟩, .int .i64 0] #[.int .i64 0, .string ⟨#[]⟩, .string ⟨#[]⟩, .int .i64 0] 41 41
  have R := hide (h.below hB0)
  have HW := hide (show Wr (fun i => i = rb) w W0 from Wr.of_below hB0)
  have FIN := hide (show ∀ e w', e = .returned (.agg #[.int .i64 (rDel s).1.kind, .string (rDel s).1.k, .string (rDel s).1.v, .int .i64 (rDel s).1.to]) → RdAt w' rb D (rDel s).2 → Wr (fun i => i = rb) w w' → Rds w rb D (.agg #[.int .i64 (rDel s).1.kind, .string (rDel s).1.k, .string (rDel s).1.v, .int .i64 (rDel s).1.to]) (rDel s).2 e w' from fun e w' h1 h2 h3 => ⟨h1, h2, h3⟩)
  clear h
  go_enter Try.func61, Try.ntmps61
  go_wp2_with fail
  rw [← hW0]
  clear hW0
  refine (one_any rb D s W0 (unhide R) hb).mono ?_
  rintro e w1 ⟨rfl, hR, hw⟩
  replace hb := good_one.by_ _ hb
  replace k1 := loc_wr k1 hw (by omega)
  replace k2 := loc_wr k2 hw (by omega)
  replace HW := hide ((unhide HW).trans hw)
  have z0 := hw.size
  replace R := hide hR
  clear hR hw
  obtain ⟨x0, hx0⟩ : ∃ x, x = (rOne s).1 := ⟨_, rfl⟩
  rw [← hx0]
  have X0 := hide hx0
  clear hx0
  obtain ⟨s0, hs0⟩ : ∃ x, x = (rOne s).2 := ⟨_, rfl⟩
  rw [← hs0] at R hb
  have Y0 := hide hs0
  clear hs0
  have c0 : w1.cell? ⟨w.heap.size + 1, 0, none⟩ = some (.int .i64 0) := (heap_at k2 0).1
  have f0 := (heap_at k2 0).2
  go_wp2_with fail
  clear c0 f0
  replace HW := hide ((unhide HW).store (show w.heap.size ≤ w.heap.size + 1 by omega) 0 (.int .i64 x0))
  replace R := hide ((unhide R).wr (wr_cell w1 (w.heap.size + 1) 0 (.int .i64 x0)) (fun i hi => by omega))
  replace k1 := heap_other k1 (show w.heap.size ≠ w.heap.size + 1 by omega) 0 (.int .i64 x0)
  replace k2 : (w1.setCell ⟨w.heap.size + 1, 0, none⟩ (.int .i64 x0)).heap[w.heap.size + 1]? = some (.cells #[.int .i64 x0, .string ⟨#[]⟩, .string ⟨#[]⟩, .int .i64 0] 41 (0, 0)) := by simpa using heap_set k2 0 (.int .i64 x0)
  have y0 : (w1.setCell ⟨w.heap.size + 1, 0, none⟩ (.int .i64 x0)).heap.size = w1.heap.size := by simp [World.setCell]
  replace y0 : w1.heap.size ≤ (w1.setCell ⟨w.heap.size + 1, 0, none⟩ (.int .i64 x0)).heap.size := by omega
  generalize w1.setCell ⟨w.heap.size + 1, 0, none⟩ (.int .i64 x0) = w2 at *
  refine (textR_any rb D s0 w2 (unhide R) hb).mono ?_
  rintro e w3 ⟨rfl, hR, hw⟩
  replace hb := good_text.by_ _ hb
  replace k1 := loc_wr k1 hw (by omega)
  replace k2 := loc_wr k2 hw (by omega)
  replace HW := hide ((unhide HW).trans hw)
  have z1 := hw.size
  replace R := hide hR
  clear hR hw
  obtain ⟨x1, hx1⟩ : ∃ x, x = (rText s0).1 := ⟨_, rfl⟩
  rw [← hx1]
  have X1 := hide hx1
  clear hx1
  obtain ⟨s1, hs1⟩ : ∃ x, x = (rText s0).2 := ⟨_, rfl⟩
  rw [← hs1] at R hb
  have Y1 := hide hs1
  clear hs1
  have c0 : w3.cell? ⟨w.heap.size + 1, 1, none⟩ = some (.string ⟨#[]⟩) := (heap_at k2 1).1
  have f0 := (heap_at k2 1).2
  go_wp2_with fail
  clear c0 f0
  replace HW := hide ((unhide HW).store (show w.heap.size ≤ w.heap.size + 1 by omega) 1 (.string x1))
  replace R := hide ((unhide R).wr (wr_cell w3 (w.heap.size + 1) 1 (.string x1)) (fun i hi => by omega))
  replace k1 := heap_other k1 (show w.heap.size ≠ w.heap.size + 1 by omega) 1 (.string x1)
  replace k2 : (w3.setCell ⟨w.heap.size + 1, 1, none⟩ (.string x1)).heap[w.heap.size + 1]? = some (.cells #[.int .i64 x0, .string x1, .string ⟨#[]⟩, .int .i64 0] 41 (0, 0)) := by simpa using heap_set k2 1 (.string x1)
  have y1 : (w3.setCell ⟨w.heap.size + 1, 1, none⟩ (.string x1)).heap.size = w3.heap.size := by simp [World.setCell]
  replace y1 : w3.heap.size ≤ (w3.setCell ⟨w.heap.size + 1, 1, none⟩ (.string x1)).heap.size := by omega
  generalize w3.setCell ⟨w.heap.size + 1, 1, none⟩ (.string x1) = w4 at *
  refine (textR_any rb D s1 w4 (unhide R) hb).mono ?_
  rintro e w5 ⟨rfl, hR, hw⟩
  replace hb := good_text.by_ _ hb
  replace k1 := loc_wr k1 hw (by omega)
  replace k2 := loc_wr k2 hw (by omega)
  replace HW := hide ((unhide HW).trans hw)
  have z2 := hw.size
  replace R := hide hR
  clear hR hw
  obtain ⟨x2, hx2⟩ : ∃ x, x = (rText s1).1 := ⟨_, rfl⟩
  rw [← hx2]
  have X2 := hide hx2
  clear hx2
  obtain ⟨s2, hs2⟩ : ∃ x, x = (rText s1).2 := ⟨_, rfl⟩
  rw [← hs2] at R hb
  have Y2 := hide hs2
  clear hs2
  have c0 : w5.cell? ⟨w.heap.size + 1, 2, none⟩ = some (.string ⟨#[]⟩) := (heap_at k2 2).1
  have f0 := (heap_at k2 2).2
  go_wp2_with fail
  clear c0 f0
  replace HW := hide ((unhide HW).store (show w.heap.size ≤ w.heap.size + 1 by omega) 2 (.string x2))
  replace R := hide ((unhide R).wr (wr_cell w5 (w.heap.size + 1) 2 (.string x2)) (fun i hi => by omega))
  replace k1 := heap_other k1 (show w.heap.size ≠ w.heap.size + 1 by omega) 2 (.string x2)
  replace k2 : (w5.setCell ⟨w.heap.size + 1, 2, none⟩ (.string x2)).heap[w.heap.size + 1]? = some (.cells #[.int .i64 x0, .string x1, .string x2, .int .i64 0] 41 (0, 0)) := by simpa using heap_set k2 2 (.string x2)
  have y2 : (w5.setCell ⟨w.heap.size + 1, 2, none⟩ (.string x2)).heap.size = w5.heap.size := by simp [World.setCell]
  replace y2 : w5.heap.size ≤ (w5.setCell ⟨w.heap.size + 1, 2, none⟩ (.string x2)).heap.size := by omega
  generalize w5.setCell ⟨w.heap.size + 1, 2, none⟩ (.string x2) = w6 at *
  refine (two_any rb D s2 w6 (unhide R) hb).mono ?_
  rintro e w7 ⟨rfl, hR, hw⟩
  replace hb := good_two.by_ _ hb
  replace k1 := loc_wr k1 hw (by omega)
  replace k2 := loc_wr k2 hw (by omega)
  replace HW := hide ((unhide HW).trans hw)
  have z3 := hw.size
  replace R := hide hR
  clear hR hw
  obtain ⟨x3, hx3⟩ : ∃ x, x = (rTwo s2).1 := ⟨_, rfl⟩
  rw [← hx3]
  have X3 := hide hx3
  clear hx3
  obtain ⟨s3, hs3⟩ : ∃ x, x = (rTwo s2).2 := ⟨_, rfl⟩
  rw [← hs3] at R hb
  have Y3 := hide hs3
  clear hs3
  replace HW := hide ((unhide HW).store (show w.heap.size ≤ w.heap.size + 1 by omega) 3 (.int .i64 x3))
  replace R := hide ((unhide R).wr (wr_cell w7 (w.heap.size + 1) 3 (.int .i64 x3)) (fun i hi => by omega))
  have c0 : w7.cell? ⟨w.heap.size + 1, 0, none⟩ = some (.int .i64 x0) := (heap_at k2 0).1
  have d0 : w7.cell? ⟨w.heap.size, 0, none⟩ = some (.int .i64 0) := (heap_at k1 0).1
  have f0 := (heap_at k1 0).2
  have c1 : w7.cell? ⟨w.heap.size + 1, 1, none⟩ = some (.string x1) := (heap_at k2 1).1
  have d1 : w7.cell? ⟨w.heap.size, 1, none⟩ = some (.string ⟨#[]⟩) := (heap_at k1 1).1
  have f1 := (heap_at k1 1).2
  have c2 : w7.cell? ⟨w.heap.size + 1, 2, none⟩ = some (.string x2) := (heap_at k2 2).1
  have d2 : w7.cell? ⟨w.heap.size, 2, none⟩ = some (.string ⟨#[]⟩) := (heap_at k1 2).1
  have f2 := (heap_at k1 2).2
  have c3 : w7.cell? ⟨w.heap.size + 1, 3, none⟩ = some (.int .i64 0) := (heap_at k2 3).1
  have d3 : w7.cell? ⟨w.heap.size, 3, none⟩ = some (.int .i64 0) := (heap_at k1 3).1
  have f3 := (heap_at k1 3).2
  have g0 := (heap_at k2 3).2
  replace HW := hide ((unhide HW).store (Nat.le_refl w.heap.size) 0 (.int .i64 x0))
  replace R := hide ((unhide R).wr (wr_cell _ w.heap.size 0 (.int .i64 x0)) (fun i hi => by omega))
  replace HW := hide ((unhide HW).store (Nat.le_refl w.heap.size) 1 (.string x1))
  replace R := hide ((unhide R).wr (wr_cell _ w.heap.size 1 (.string x1)) (fun i hi => by omega))
  replace HW := hide ((unhide HW).store (Nat.le_refl w.heap.size) 2 (.string x2))
  replace R := hide ((unhide R).wr (wr_cell _ w.heap.size 2 (.string x2)) (fun i hi => by omega))
  replace HW := hide ((unhide HW).store (Nat.le_refl w.heap.size) 3 (.int .i64 x3))
  replace R := hide ((unhide R).wr (wr_cell _ w.heap.size 3 (.int .i64 x3)) (fun i hi => by omega))
  clear k1 k2
  go_wp2_with fail
  refine bodyPost_ret (v := .agg #[.int .i64 x0, .string x1, .string x2, .int .i64 x3]) (by simp [results, Try.results61, go_sem, *]) rfl ?_
  refine unhide FIN _ _ ?_ ?_ (unhide HW)
  · rw [rDel_eq, unhide X0, unhide X1, unhide X2, unhide X3, unhide Y2, unhide Y1, unhide Y0]
  · rw [show (rDel s).2 = s3 by rw [rDel_eq, unhide Y3, unhide Y2, unhide Y1, unhide Y0]]
    exact unhide R
end Go.Proofs.Ytbboigidkimkmaa
