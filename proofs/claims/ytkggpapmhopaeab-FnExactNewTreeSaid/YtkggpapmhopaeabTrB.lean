/-
  Trees of one page without lists: markTree, heldTree over them.
-/
import Derived.Test.YtkggpapmhopaeabTrA
namespace Go.Proofs.Ytkggpapmhopaeab
open Go.RowKit

theorem PB.set0 {w : World} {b : Nat} {lo hi : ByteArray} {r : Int} (h : PB w b lo hi r) (x : ByteArray) : PB (w.setCell ⟨b, 0, none⟩ (.string x)) b x hi r := by
  have := heap_set h 0 (.string x)
  simpa [PB] using this
theorem PB.set1 {w : World} {b : Nat} {lo hi : ByteArray} {r : Int} (h : PB w b lo hi r) (x : ByteArray) : PB (w.setCell ⟨b, 1, none⟩ (.string x)) b lo x r := by
  have := heap_set h 1 (.string x)
  simpa [PB] using this
theorem PB.set2 {w : World} {b : Nat} {lo hi : ByteArray} {r : Int} (h : PB w b lo hi r) (x : Int) : PB (w.setCell ⟨b, 2, none⟩ (.int .i64 x)) b lo hi x := by
  have := heap_set h 2 (.int .i64 x)
  simpa [PB] using this
theorem BB.set {w : World} {b : Nat} {y : Bool} (h : BB w b y) (x : Bool) : BB (w.setCell ⟨b, 0, none⟩ (.bool x)) b x := by
  have := heap_set h 0 (.bool x)
  simpa [BB] using this
theorem RB.set0 {w : World} {b : Nat} {lo : ByteArray} {id : Int} (h : RB w b lo id) (x : ByteArray) : RB (w.setCell ⟨b, 0, none⟩ (.string x)) b x id := by
  have := heap_set h 0 (.string x)
  simpa [RB] using this
theorem RB.set1 {w : World} {b : Nat} {lo : ByteArray} {id : Int} (h : RB w b lo id) (x : Int) : RB (w.setCell ⟨b, 1, none⟩ (.int .i64 x)) b lo x := by
  have := heap_set h 1 (.int .i64 x)
  simpa [RB] using this
theorem wr_set (w : World) (b o : Nat) (v : Value) : Wr (fun i => i = b) w (w.setCell ⟨b, o, none⟩ v) :=
  ⟨rfl, rfl, rfl, by simp [World.setCell], fun k _ hk => Below.heap_setCell _ _ _ _ hk⟩
/-- The n-th mark as a text. -/
abbrev mk (n : Nat) : ByteArray := mt n ByteArray.empty

set_option maxRecDepth 100000 in
set_option maxHeartbeats 4000000 in
theorem markPage1 (b : Nat) (lo hi : ByteArray) (r : Int) (w : World) (h : PB w b lo hi r) :
    Calls Try.prog 35 #[.slice (some ⟨b, 0, none⟩) 1 1, .int .i64 1] w fun e w' => e = .returned (.int .i64 4) ∧ PB w' b (mk 1) (mk 2) 3 ∧ Wr (fun i => i = b) w w' := by
  have H := hide h
  clear h
  go_enter Try.func35, Try.ntmps35
  go_wp2_with fail
  refine wp_loop_rounds 2 ?_
  rw [rounds_succ]
  go_wp2_with fail
  refine (markText_at 1 _ w rfl (by omega) (by omega)).mono ?_
  rintro e w1 ⟨rfl, hb⟩
  replace H := hide ((unhide H).below hb)
  have W1 := hide (Wr.of_below (P := fun i => i = b) hb)
  clear hb
  obtain ⟨c0, _, _, _, _⟩ := (unhide H).cells
  have f0 := heap_frozen (unhide H) 0
  have X1 := hide ((unhide H).set0 (mk 1))
  have W2 := hide ((unhide W1).trans (wr_set w1 b 0 (.string (mk 1))))
  clear H W1
  go_wp2_with fail
  generalize w1.setCell ⟨b, 0, none⟩ (.string (mk 1)) = w2 at *
  refine (markText_at 2 _ w2 rfl (by omega) (by omega)).mono ?_
  rintro e w3 ⟨rfl, hb⟩
  replace X1 := hide ((unhide X1).below hb)
  replace W2 := hide ((unhide W2).trans (Wr.of_below hb))
  clear hb c0 f0
  obtain ⟨_, c1, _, _, _⟩ := (unhide X1).cells
  have f1 := heap_frozen (unhide X1) 1
  have X2 := hide ((unhide X1).set1 (mk 2))
  have f2 := heap_frozen (unhide X2) 2
  obtain ⟨_, _, c2, _, _⟩ := (unhide X2).cells
  have X3 := hide ((unhide X2).set2 3)
  have W3 := hide (((unhide W2).trans (wr_set w3 b 1 (.string (mk 2)))).trans (wr_set _ b 2 (.int .i64 3)))
  obtain ⟨_, _, _, c3, c4⟩ := (unhide X3).cells
  clear X1 X2 W2
  go_wp2_with fail
  generalize (w3.setCell ⟨b, 1, none⟩ (.string (mk 2))).setCell ⟨b, 2, none⟩ (.int .i64 3) = w4 at *
  refine (markEntryS_none none 0 4 w4).mono ?_
  rintro e w5 ⟨rfl, h5⟩
  subst w5
  go_wp2_with fail
  refine (markDeltaS_none none 0 4 w4).mono ?_
  rintro e w5 ⟨rfl, h5⟩
  subst w5
  go_wp2_with fail
  rw [rounds_succ]
  go_wp2_with fail
  go_ret
  exact ⟨rfl, unhide X3, unhide W3⟩
set_option maxRecDepth 100000 in
set_option maxHeartbeats 4000000 in
theorem markBool1 (b : Nat) (x : Bool) (w : World) (h : BB w b x) :
    Calls Try.prog 36 #[.slice (some ⟨b, 0, none⟩) 1 1, .int .i64 4] w fun e w' => e = .returned (.int .i64 5) ∧ BB w' b false ∧ Wr (fun i => i = b) w w' := by
  have c0 := h.cell
  have f0 := heap_frozen h 0
  have X := hide (h.set false)
  have W := hide (wr_set w b 0 (.bool false))
  clear h
  go_enter Try.func36, Try.ntmps36
  go_wp2_with fail
  refine wp_loop_rounds 2 ?_
  rw [rounds_succ]
  go_wp2_with fail
  rw [rounds_succ]
  go_wp2_with fail
  go_ret
  exact ⟨rfl, unhide X, unhide W⟩
set_option maxRecDepth 100000 in
set_option maxHeartbeats 4000000 in
theorem markRef1 (b : Nat) (lo : ByteArray) (id : Int) (w : World) (h : RB w b lo id) :
    Calls Try.prog 37 #[.slice (some ⟨b, 0, none⟩) 1 1, .int .i64 5] w fun e w' => e = .returned (.int .i64 7) ∧ RB w' b (mk 5) 6 ∧ Wr (fun i => i = b) w w' := by
  have H := hide h
  clear h
  go_enter Try.func37, Try.ntmps37
  go_wp2_with fail
  refine wp_loop_rounds 2 ?_
  rw [rounds_succ]
  go_wp2_with fail
  refine (markText_at 5 _ w rfl (by omega) (by omega)).mono ?_
  rintro e w1 ⟨rfl, hb⟩
  replace H := hide ((unhide H).below hb)
  have W1 := hide (Wr.of_below (P := fun i => i = b) hb)
  clear hb
  obtain ⟨c0, c1⟩ := (unhide H).cells
  have f0 := heap_frozen (unhide H) 0
  have X1 := hide ((unhide H).set0 (mk 5))
  have f1 := heap_frozen (unhide X1) 1
  obtain ⟨_, c2⟩ := (unhide X1).cells
  have X2 := hide ((unhide X1).set1 6)
  have W2 := hide (((unhide W1).trans (wr_set w1 b 0 (.string (mk 5)))).trans (wr_set _ b 1 (.int .i64 6)))
  clear H W1 X1
  go_wp2_with fail
  rw [rounds_succ]
  go_wp2_with fail
  go_ret
  exact ⟨rfl, unhide X2, unhide W2⟩
set_option maxRecDepth 100000 in
set_option maxHeartbeats 4000000 in
theorem markTree1 (p g i : Nat) (lo hi : ByteArray) (r : Int) (x : Bool) (l2 : ByteArray) (id : Int) (w : World) (h : T1 w p g i lo hi r x l2 id) :
    Calls Try.prog 16 #[tv p g i, .int .i64 1] w fun e w' => e = .returned (.int .i64 7) ∧ T1 w' p g i (mk 1) (mk 2) 3 false (mk 5) 6 ∧ Wr (fun j => j = p ∨ j = g ∨ j = i) w w' := by
  have b0 : Below w.heap.size w (w.alloc (.cells #[.slice (some ⟨p, 0, none⟩) 1 1, .slice (some ⟨g, 0, none⟩) 1 1, .slice (some ⟨i, 0, none⟩) 1 1] 39)) := (Below.refl _ _).alloc (Nat.le_refl _) _
  have k := hide (heap_new (w := w) rfl #[.slice (some ⟨p, 0, none⟩) 1 1, .slice (some ⟨g, 0, none⟩) 1 1, .slice (some ⟨i, 0, none⟩) 1 1] 39)
  have z : (w.alloc (.cells #[.slice (some ⟨p, 0, none⟩) 1 1, .slice (some ⟨g, 0, none⟩) 1 1, .slice (some ⟨i, 0, none⟩) 1 1] 39)).heap.size = w.heap.size + 1 := by simp
  have H := hide (h.below b0)
  have hp : p < w.heap.size := hlt h.pg
  have hg : g < w.heap.size := hlt h.gn
  have hi' : i < w.heap.size := hlt h.ix
  have n1 := h.pg_gn
  have n2 := h.pg_ix
  have n3 := h.gn_ix
  have W0 := hide (Wr.of_below (P := fun j => j = p ∨ j = g ∨ j = i) b0)
  clear h
  go_enter Try.func16, Try.ntmps16
  go_wp2_with fail
  generalize w.alloc (.cells #[.slice (some ⟨p, 0, none⟩) 1 1, .slice (some ⟨g, 0, none⟩) 1 1, .slice (some ⟨i, 0, none⟩) 1 1] 39) = W at *
  refine (markPage1 p lo hi r W (unhide H).pg).mono ?_
  rintro e w1 ⟨rfl, hx, hw⟩
  have X := hide hx
  have Y := hide (show BB w1 g x from (hw.block g (by omega) (by omega)).trans (unhide H).gn)
  have Z := hide (show RB w1 i l2 id from (hw.block i (by omega) (by omega)).trans (unhide H).ix)
  replace k := hide ((hw.block w.heap.size (by omega) (by omega)).trans (unhide k))
  have W1 := hide ((unhide W0).trans (hw.mono (fun j hj => .inl hj)))
  have s1 := hw.size
  clear hw hx H W0
  have q1 : w1.cell? ⟨w.heap.size, 1, none⟩ = some (.slice (some ⟨g, 0, none⟩) 1 1) := heap_cell (unhide k) 1
  go_wp2_with fail
  refine (markBool1 g x w1 (unhide Y)).mono ?_
  rintro e w2 ⟨rfl, hx, hw⟩
  replace X := hide (show PB w2 p (mk 1) (mk 2) 3 from (hw.block p (by omega) (by omega)).trans (unhide X))
  replace Y := hide hx
  replace Z := hide (show RB w2 i l2 id from (hw.block i (by omega) (by omega)).trans (unhide Z))
  replace k := hide ((hw.block w.heap.size (by omega) (by omega)).trans (unhide k))
  have W2 := hide ((unhide W1).trans (hw.mono (fun j hj => .inr (.inl hj))))
  have s2 := hw.size
  clear hw hx W1 q1
  have q1 : w2.cell? ⟨w.heap.size, 2, none⟩ = some (.slice (some ⟨i, 0, none⟩) 1 1) := heap_cell (unhide k) 2
  go_wp2_with fail
  refine (markRef1 i l2 id w2 (unhide Z)).mono ?_
  rintro e w3 ⟨rfl, hx, hw⟩
  replace X := hide (show PB w3 p (mk 1) (mk 2) 3 from (hw.block p (by omega) (by omega)).trans (unhide X))
  replace Y := hide (show BB w3 g false from (hw.block g (by omega) (by omega)).trans (unhide Y))
  replace Z := hide hx
  have W3 := hide ((unhide W2).trans (hw.mono (fun j hj => .inr (.inr hj))))
  clear hw hx W2 q1 k
  go_wp2_with fail
  go_ret
  exact ⟨rfl, ⟨unhide X, unhide Y, unhide Z, n1, n2, n3⟩, unhide W3⟩
set_option maxRecDepth 100000 in
set_option maxHeartbeats 4000000 in
theorem heldPage1 (b : Nat) (w : World) (h : PB w b (mk 1) (mk 2) 3) :
    Calls Try.prog 38 #[.slice (some ⟨b, 0, none⟩) 1 1, .int .i64 1] w fun e w' => e = .returned (.int .i64 4) ∧ Below w.heap.size w w' := by
  have H := hide h
  obtain ⟨c0, c1, c2, c3, c4⟩ := h.cells
  clear h
  go_enter Try.func38, Try.ntmps38
  go_wp2_with fail
  refine wp_loop_rounds 2 ?_
  rw [rounds_succ]
  go_wp2_with fail
  go_region_with (go_at_call 54; refine (markText_at 1 _ _ rfl (by omega) (by omega)).mono ?_; rintro e w1 ⟨rfl, hb⟩; replace hb : Below w.heap.size w w1 := (by first | exact hb | exact bel_of_drew hb | exact bel_of_drewN hb); obtain ⟨x0, x1, x2, x3, x4⟩ := ((unhide H).below hb).cells)
  all_goals
    have B1 := hb
    have H1 := hide ((unhide H).below hb)
    replace H := H1
    clear hb c0 c1 c2 c3 c4 H1
    go_wp2_with fail
    go_region_with (go_at_call 54; refine (markText_at 2 _ _ rfl (by omega) (by omega)).mono ?_; rintro e w2 ⟨rfl, hb⟩; replace hb : Below w1.heap.size w1 w2 := (by first | exact hb | exact bel_of_drew hb | exact bel_of_drewN hb); obtain ⟨y0, y1, y2, y3, y4⟩ := ((unhide H).below hb).cells)
    all_goals
      have B2 := B1.trans (hb.mono B1.size)
      clear hb x0 x1 x2 x3 x4 H B1
      go_wp2_with fail
      refine (heldEntryS_any none 0 0 4 w2 (by omega) (by omega) (erow_nil _ _)).mono ?_
      rintro e w3 ⟨rfl, hb⟩
      have d4 := (hb.cell (p := ⟨b, 4, none⟩) (cell_lt y4)).trans y4
      have B3 := B2.trans (hb.mono B2.size)
      clear hb B2 y0 y1 y2 y3
      go_wp2_with fail
      refine (heldDeltaS_any none 0 0 4 w3 (by omega) (by omega) (drow_nil _ _)).mono ?_
      rintro e w4 ⟨rfl, hb⟩
      have B4 := B3.trans (hb.mono B3.size)
      clear hb B3 d4 y4
      go_wp2_with fail
      rw [rounds_succ]
      go_wp2_with fail
      go_ret
      exact ⟨rfl, B4⟩
set_option maxRecDepth 100000 in
set_option maxHeartbeats 4000000 in
theorem heldBool1 (b : Nat) (w : World) (h : BB w b false) :
    Calls Try.prog 39 #[.slice (some ⟨b, 0, none⟩) 1 1, .int .i64 4] w fun e w' => e = .returned (.int .i64 5) ∧ Below w.heap.size w w' := by
  have c0 := h.cell
  clear h
  go_enter Try.func39, Try.ntmps39
  go_wp2_with fail
  refine wp_loop_rounds 2 ?_
  rw [rounds_succ]
  go_wp2_with fail
  first | (go_quiet (fail); go_wp2_with fail) | skip
  rw [rounds_succ]
  go_wp2_with fail
  go_ret
  exact ⟨rfl, by first | exact Below.refl _ _ | exact bel_drewN (Below.refl _ _) _⟩
set_option maxRecDepth 100000 in
set_option maxHeartbeats 4000000 in
theorem heldRef1 (b : Nat) (w : World) (h : RB w b (mk 5) 6) :
    Calls Try.prog 40 #[.slice (some ⟨b, 0, none⟩) 1 1, .int .i64 5] w fun e w' => e = .returned (.int .i64 7) ∧ Below w.heap.size w w' := by
  have H := hide h
  obtain ⟨c0, c1⟩ := h.cells
  clear h
  go_enter Try.func40, Try.ntmps40
  go_wp2_with fail
  refine wp_loop_rounds 2 ?_
  rw [rounds_succ]
  go_wp2_with fail
  go_region_with (go_at_call 54; refine (markText_at 5 _ _ rfl (by omega) (by omega)).mono ?_; rintro e w1 ⟨rfl, hb⟩; replace hb : Below w.heap.size w w1 := (by first | exact hb | exact bel_of_drew hb | exact bel_of_drewN hb); obtain ⟨x0, x1⟩ := ((unhide H).below hb).cells)
  all_goals
    clear c0 c1
    go_wp2_with fail
    rw [rounds_succ]
    go_wp2_with fail
    go_ret
    exact ⟨rfl, hb⟩
set_option maxRecDepth 100000 in
set_option maxHeartbeats 4000000 in
theorem heldTree1 (p g i : Nat) (w : World) (h : T1 w p g i (mk 1) (mk 2) 3 false (mk 5) 6) :
    Calls Try.prog 17 #[tv p g i, .int .i64 1] w fun e w' => e = .returned (.int .i64 7) ∧ Below w.heap.size w w' := by
  have b0 : Below w.heap.size w (w.alloc (.cells #[.slice (some ⟨p, 0, none⟩) 1 1, .slice (some ⟨g, 0, none⟩) 1 1, .slice (some ⟨i, 0, none⟩) 1 1] 39)) := (Below.refl _ _).alloc (Nat.le_refl _) _
  have k := hide (heap_new (w := w) rfl #[.slice (some ⟨p, 0, none⟩) 1 1, .slice (some ⟨g, 0, none⟩) 1 1, .slice (some ⟨i, 0, none⟩) 1 1] 39)
  have z : (w.alloc (.cells #[.slice (some ⟨p, 0, none⟩) 1 1, .slice (some ⟨g, 0, none⟩) 1 1, .slice (some ⟨i, 0, none⟩) 1 1] 39)).heap.size = w.heap.size + 1 := by simp
  have H := hide (h.below b0)
  clear h
  go_enter Try.func17, Try.ntmps17
  go_wp2_with fail
  generalize w.alloc (.cells #[.slice (some ⟨p, 0, none⟩) 1 1, .slice (some ⟨g, 0, none⟩) 1 1, .slice (some ⟨i, 0, none⟩) 1 1] 39) = W at *
  refine (heldPage1 p W (unhide H).pg).mono ?_
  rintro e w1 ⟨rfl, hb⟩
  replace H := hide ((unhide H).below hb)
  replace k := hide ((hb.block w.heap.size (by omega)).trans (unhide k))
  replace b0 := b0.trans (hb.mono b0.size)
  have s1 := hb.size
  clear hb
  have q1 : w1.cell? ⟨w.heap.size, 1, none⟩ = some (.slice (some ⟨g, 0, none⟩) 1 1) := heap_cell (unhide k) 1
  go_wp2_with fail
  refine (heldBool1 g w1 (unhide H).gn).mono ?_
  rintro e w2 ⟨rfl, hb⟩
  replace H := hide ((unhide H).below hb)
  replace k := hide ((hb.block w.heap.size (by omega)).trans (unhide k))
  replace b0 := b0.trans (hb.mono b0.size)
  have s2 := hb.size
  clear hb q1
  have q1 : w2.cell? ⟨w.heap.size, 2, none⟩ = some (.slice (some ⟨i, 0, none⟩) 1 1) := heap_cell (unhide k) 2
  go_wp2_with fail
  refine (heldRef1 i w2 (unhide H).ix).mono ?_
  rintro e w3 ⟨rfl, hb⟩
  replace b0 := b0.trans (hb.mono b0.size)
  clear hb q1
  go_wp2_with fail
  go_ret
  exact ⟨rfl, b0⟩
end Go.Proofs.Ytkggpapmhopaeab
