/-
  NewTree, of both sides.
-/
import Derived.Test.YtkggpapmhopaeabTrB
namespace Go.Proofs.Ytkggpapmhopaeab
open Go.RowKit

/-- What a call of NewTree leaves. -/
def NewRes (w : World) (e : Ending) (w' : World) : Prop := ∃ p g i, e = .returned (tv p g i) ∧ T1 w' p g i ⟨#[]⟩ ⟨#[]⟩ (-1) false ⟨#[]⟩ 0 ∧ (w.heap.size ≤ p ∧ w.heap.size ≤ g ∧ w.heap.size ≤ i) ∧ Below w.heap.size w w'
/-- Three cells of a block stored anew. -/
abbrev set3 (w : World) (b : Nat) (v0 v1 v2 : Value) : World := ((w.setCell ⟨b, 0, none⟩ v0).setCell ⟨b, 1, none⟩ v1).setCell ⟨b, 2, none⟩ v2
theorem set3_wr (w : World) (b : Nat) (v0 v1 v2 : Value) : Wr (fun i => i = b) w (set3 w b v0 v1 v2) := ((wr_set w b 0 v0).trans (wr_set _ b 1 v1)).trans (wr_set _ b 2 v2)
theorem T1.wr {w w' : World} {p g i b : Nat} {lo hi : ByteArray} {r : Int} {x : Bool} {l2 : ByteArray} {id : Int} (h : T1 w p g i lo hi r x l2 id) (hw : Wr (fun j => j = b) w w') (h1 : p ≠ b) (h2 : g ≠ b) (h3 : i ≠ b) : T1 w' p g i lo hi r x l2 id :=
  ⟨(hw.block p (hlt h.pg) h1).trans h.pg, (hw.block g (hlt h.gn) h2).trans h.gn, (hw.block i (hlt h.ix) h3).trans h.ix, h.pg_gn, h.pg_ix, h.gn_ix⟩
/-- The four blocks of a new tree. -/
theorem four_new (w : World) (v0 v1 v2 : Value) : ∃ W, W = (((w.alloc (.cells #[v0, v1, v2] 39)).alloc (.cells #[.string ⟨#[]⟩, .string ⟨#[]⟩, .int .i64 (-1), .slice none 0 0, .slice none 0 0] 26)).alloc (.cells #[.bool false] 4)).alloc (.cells #[.string ⟨#[]⟩, .int .i64 0] 62) ∧
    T1 W (w.heap.size + 1) (w.heap.size + 1 + 1) (w.heap.size + 1 + 1 + 1) ⟨#[]⟩ ⟨#[]⟩ (-1) false ⟨#[]⟩ 0 ∧ Below w.heap.size w W := by
  obtain ⟨W1, h1⟩ : ∃ W1, W1 = w.alloc (.cells #[v0, v1, v2] 39) := ⟨_, rfl⟩
  have z1 : W1.heap.size = w.heap.size + 1 := by rw [h1]; simp
  have b1 : Below w.heap.size w W1 := by rw [h1]; exact (Below.refl _ _).alloc (Nat.le_refl _) _
  obtain ⟨W2, h2⟩ : ∃ W2, W2 = W1.alloc (.cells #[.string ⟨#[]⟩, .string ⟨#[]⟩, .int .i64 (-1), .slice none 0 0, .slice none 0 0] 26) := ⟨_, rfl⟩
  have z2 : W2.heap.size = w.heap.size + 1 + 1 := by rw [h2]; simp [z1]
  have k2 : PB W2 (w.heap.size + 1) ⟨#[]⟩ ⟨#[]⟩ (-1) := by rw [h2]; exact heap_new z1 _ _
  have b2 : Below W1.heap.size W1 W2 := by rw [h2]; exact (Below.refl _ _).alloc (Nat.le_refl _) _
  obtain ⟨W3, h3⟩ : ∃ W3, W3 = W2.alloc (.cells #[.bool false] 4) := ⟨_, rfl⟩
  have z3 : W3.heap.size = w.heap.size + 1 + 1 + 1 := by rw [h3]; simp [z2]
  have k3 : BB W3 (w.heap.size + 1 + 1) false := by rw [h3]; exact heap_new z2 _ _
  have b3 : Below W2.heap.size W2 W3 := by rw [h3]; exact (Below.refl _ _).alloc (Nat.le_refl _) _
  obtain ⟨W4, h4⟩ : ∃ W4, W4 = W3.alloc (.cells #[.string ⟨#[]⟩, .int .i64 0] 62) := ⟨_, rfl⟩
  have k4 : RB W4 (w.heap.size + 1 + 1 + 1) ⟨#[]⟩ 0 := by rw [h4]; exact heap_new z3 _ _
  have b4 : Below W3.heap.size W3 W4 := by rw [h4]; exact (Below.refl _ _).alloc (Nat.le_refl _) _
  refine ⟨W4, by rw [h4, h3, h2, h1], ⟨(k2.below b3).below b4, k3.below b4, k4, by omega, by omega, by omega⟩, ?_⟩
  exact b1.trans ((b2.mono (by omega)).trans ((b3.mono (by omega)).trans (b4.mono (by omega))))
set_option maxRecDepth 100000 in
set_option maxHeartbeats 4000000 in
theorem implNewTree_any (w : World) : Calls Try.prog 14 #[] w fun e w' => NewRes w e w' := by
  obtain ⟨W, hW, hT, b0⟩ := four_new w (.slice (some ⟨w.heap.size + 1, 0, none⟩) 1 1) (.slice (some ⟨w.heap.size + 1 + 1, 0, none⟩) 1 1) (.slice (some ⟨w.heap.size + 1 + 1 + 1, 0, none⟩) 1 1)
  have HT := hide hT
  have HW := hide hW
  clear hT hW
  go_enter Try.func14, Try.ntmps14
  go_wp2_with fail
  refine bodyPost_ret (v := tv (w.heap.size + 1) (w.heap.size + 1 + 1) (w.heap.size + 1 + 1 + 1)) (by simp [results, Try.results14, go_sem]) rfl ?_
  rw [← unhide HW]
  exact ⟨_, _, _, rfl, unhide HT, ⟨by omega, by omega, by omega⟩, b0⟩
set_option maxRecDepth 100000 in
set_option maxHeartbeats 4000000 in
theorem l05New_any (w : World) : Calls Try.prog 31 #[] w fun e w' => NewRes w e w' := by
  obtain ⟨W, hW, hT, b0⟩ := four_new w (.slice (some ⟨w.heap.size + 1, 0, none⟩) 1 1) (.slice (some ⟨w.heap.size + 1 + 1, 0, none⟩) 1 1) (.slice (some ⟨w.heap.size + 1 + 1 + 1, 0, none⟩) 1 1)
  have HT := hide hT
  have HW := hide hW
  clear hT hW
  go_enter Try.func31, Try.ntmps31
  go_wp2_with fail
  refine bodyPost_ret (v := tv (w.heap.size + 1) (w.heap.size + 1 + 1) (w.heap.size + 1 + 1 + 1)) (by simp [results, Try.results31, go_sem]) rfl ?_
  rw [← unhide HW]
  exact ⟨_, _, _, rfl, unhide HT, ⟨by omega, by omega, by omega⟩, b0⟩
set_option maxRecDepth 100000 in
set_option maxHeartbeats 4000000 in
theorem specNewTree_any (w : World) : Calls Try.prog 13 #[] w fun e w' => NewRes w e w' := by
  have b0 : Below w.heap.size w (w.alloc (.cells #[.slice none 0 0, .slice none 0 0, .slice none 0 0] 39)) := (Below.refl _ _).alloc (Nat.le_refl _) _
  have k := hide (heap_new (w := w) rfl #[.slice none 0 0, .slice none 0 0, .slice none 0 0] 39)
  have z : (w.alloc (.cells #[.slice none 0 0, .slice none 0 0, .slice none 0 0] 39)).heap.size = w.heap.size + 1 := by simp
  go_enter Try.func13, Try.ntmps13
  go_wp2_with fail
  generalize w.alloc (.cells #[.slice none 0 0, .slice none 0 0, .slice none 0 0] 39) = W at *
  refine (l05New_any W).mono ?_
  rintro e w1 ⟨p, g, i, rfl, hT, ⟨h1, h2, h3⟩, hb⟩
  have k1 := (hb.block w.heap.size (by omega)).trans (unhide k)
  have c0 : w1.cell? ⟨w.heap.size, 0, none⟩ = some (.slice none 0 0) := heap_cell k1 0
  have c1 : w1.cell? ⟨w.heap.size, 1, none⟩ = some (.slice none 0 0) := heap_cell k1 1
  have c2 : w1.cell? ⟨w.heap.size, 2, none⟩ = some (.slice none 0 0) := heap_cell k1 2
  have f0 := heap_frozen k1 0
  have f1 := heap_frozen k1 1
  have f2 := heap_frozen k1 2
  have B1 := b0.trans (hb.mono b0.size)
  have w3 := set3_wr w1 w.heap.size (.slice (some ⟨p, 0, none⟩) 1 1) (.slice (some ⟨g, 0, none⟩) 1 1) (.slice (some ⟨i, 0, none⟩) 1 1)
  have HT := hide (hT.wr w3 (by omega) (by omega) (by omega))
  have B3 := hide (B1.trans (w3.below (fun j hj => by have : j = w.heap.size := hj; omega) B1.size))
  clear hT hb k k1 w3 B1 b0
  go_wp2_with fail
  refine bodyPost_ret (v := tv p g i) (by simp [results, Try.results13, go_sem, *]) rfl ?_
  exact ⟨_, _, _, rfl, unhide HT, ⟨by omega, by omega, by omega⟩, unhide B3⟩
set_option maxRecDepth 100000 in
set_option maxHeartbeats 8000000 in
theorem lawNewTree_any (w : World) : Calls Try.prog 4 #[] w fun e w' => e = .returned (.bool true) ∧ Below w.heap.size w w' := by
  go_enter Try.func4, Try.ntmps4
  go_wp2_with fail
  refine (specNewTree_any w).mono ?_
  rintro e w1 ⟨pw, gw, iw, rfl, hT, ⟨l1, l2, l3⟩, hb⟩
  have a1 : Below w1.heap.size w1 (w1.alloc (.cells #[.slice (some ⟨pw, 0, none⟩) 1 1, .slice (some ⟨gw, 0, none⟩) 1 1, .slice (some ⟨iw, 0, none⟩) 1 1] 39)) := (Below.refl _ _).alloc (Nat.le_refl _) _
  have u1 := hlt hT.pg
  have u2 := hlt hT.gn
  have u3 := hlt hT.ix
  have T_w := hide (hT.below a1)
  have K_w := hide (heap_new (w := w1) rfl #[.slice (some ⟨pw, 0, none⟩) 1 1, .slice (some ⟨gw, 0, none⟩) 1 1, .slice (some ⟨iw, 0, none⟩) 1 1] 39)
  have z1 : (w1.alloc (.cells #[.slice (some ⟨pw, 0, none⟩) 1 1, .slice (some ⟨gw, 0, none⟩) 1 1, .slice (some ⟨iw, 0, none⟩) 1 1] 39)).heap.size = w1.heap.size + 1 := by simp
  have B := hb.trans (a1.mono hb.size)
  have s1 := hb.size
  clear hT hb a1
  go_wp2_with fail
  generalize w1.alloc (.cells #[.slice (some ⟨pw, 0, none⟩) 1 1, .slice (some ⟨gw, 0, none⟩) 1 1, .slice (some ⟨iw, 0, none⟩) 1 1] 39) = w2 at *
  generalize w1.heap.size = bw at *
  refine (implNewTree_any w2).mono ?_
  rintro e w3 ⟨pg, gg, ig, rfl, hT, ⟨m1, m2, m3⟩, hb⟩
  have a1 : Below w3.heap.size w3 (w3.alloc (.cells #[.slice (some ⟨pg, 0, none⟩) 1 1, .slice (some ⟨gg, 0, none⟩) 1 1, .slice (some ⟨ig, 0, none⟩) 1 1] 39)) := (Below.refl _ _).alloc (Nat.le_refl _) _
  have v1 := hlt hT.pg
  have v2 := hlt hT.gn
  have v3 := hlt hT.ix
  replace T_w := hide (((unhide T_w).below hb).below a1)
  replace K_w := hide ((a1.block bw (by have := hb.size; omega)).trans ((hb.block bw (by omega)).trans (unhide K_w)))
  have T_g := hide (hT.below a1)
  have K_g := hide (heap_new (w := w3) rfl #[.slice (some ⟨pg, 0, none⟩) 1 1, .slice (some ⟨gg, 0, none⟩) 1 1, .slice (some ⟨ig, 0, none⟩) 1 1] 39)
  have z3 : (w3.alloc (.cells #[.slice (some ⟨pg, 0, none⟩) 1 1, .slice (some ⟨gg, 0, none⟩) 1 1, .slice (some ⟨ig, 0, none⟩) 1 1] 39)).heap.size = w3.heap.size + 1 := by simp
  replace B := (B.trans (hb.mono B.size)).trans (a1.mono (by have := (B.trans (hb.mono B.size)).size; omega))
  have s3 := hb.size
  clear hT hb a1
  have q0 := heap_cell (unhide K_w) 0
  have q1 := heap_cell (unhide K_w) 1
  have q2 := heap_cell (unhide K_w) 2
  have y0 := heap_cell (unhide K_g) 0
  have y1 := heap_cell (unhide K_g) 1
  have y2 := heap_cell (unhide K_g) 2
  simp at q0 q1 q2 y0 y1 y2
  go_wp2_with fail
  generalize w3.alloc (.cells #[.slice (some ⟨pg, 0, none⟩) 1 1, .slice (some ⟨gg, 0, none⟩) 1 1, .slice (some ⟨ig, 0, none⟩) 1 1] 39) = w4 at *
  generalize w3.heap.size = bg at *
  refine (eqTree1 pg gg ig pw gw iw _ _ _ _ _ _ w4 (unhide T_g) (unhide T_w)).mono ?_
  rintro e w5 ⟨rfl, hb⟩
  replace T_w := hide ((unhide T_w).below hb)
  replace T_g := hide ((unhide T_g).below hb)
  replace K_w := hide ((hb.block bw (by omega)).trans (unhide K_w))
  replace K_g := hide ((hb.block bg (by omega)).trans (unhide K_g))
  replace B := B.trans (hb.mono B.size)
  have s5 := hb.size
  clear hb q0 q1 q2 y0 y1 y2
  have y0 := heap_cell (unhide K_g) 0
  have y1 := heap_cell (unhide K_g) 1
  have y2 := heap_cell (unhide K_g) 2
  simp at y0 y1 y2
  go_wp2_with fail
  refine (markTree1 pg gg ig _ _ _ _ _ _ w5 (unhide T_g)).mono ?_
  rintro e w6 ⟨rfl, hx, hw⟩
  have NW : ∀ j, j < bg → j < w2.heap.size → ¬ (j = pg ∨ j = gg ∨ j = ig) := fun j _ h2 h => by omega
  replace T_w := hide (show T1 w6 pw gw iw ⟨#[]⟩ ⟨#[]⟩ (-1) false ⟨#[]⟩ 0 from ⟨(hw.block pw (hlt (unhide T_w).pg) (by omega)).trans (unhide T_w).pg, (hw.block gw (hlt (unhide T_w).gn) (by omega)).trans (unhide T_w).gn, (hw.block iw (hlt (unhide T_w).ix) (by omega)).trans (unhide T_w).ix, (unhide T_w).pg_gn, (unhide T_w).pg_ix, (unhide T_w).gn_ix⟩)
  replace T_g := hide hx
  replace K_w := hide ((hw.block bw (by omega) (by omega)).trans (unhide K_w))
  replace K_g := hide ((hw.block bg (by omega) (by omega)).trans (unhide K_g))
  replace B := B.trans (hw.below (fun j hj => by have : j = pg ∨ j = gg ∨ j = ig := hj; omega) B.size)
  have s6 := hw.size
  clear hw hx y0 y1 y2 NW
  have y0 := heap_cell (unhide K_g) 0
  have y1 := heap_cell (unhide K_g) 1
  have y2 := heap_cell (unhide K_g) 2
  simp at y0 y1 y2
  go_wp2_with fail
  refine (heldTree1 pg gg ig w6 (unhide T_g)).mono ?_
  rintro e w7 ⟨rfl, hb⟩
  replace T_w := hide ((unhide T_w).below hb)
  replace T_g := hide ((unhide T_g).below hb)
  replace K_w := hide ((hb.block bw (by omega)).trans (unhide K_w))
  replace K_g := hide ((hb.block bg (by omega)).trans (unhide K_g))
  replace B := B.trans (hb.mono B.size)
  have s7 := hb.size
  clear hb y0 y1 y2
  go_wp2_with fail
  refine (implNewTree_any w7).mono ?_
  rintro e w8 ⟨ph, gh, ih, rfl, hT, ⟨m4, m5, m6⟩, hb⟩
  replace T_w := hide ((unhide T_w).below hb)
  replace T_g := hide ((unhide T_g).below hb)
  replace K_w := hide ((hb.block bw (by omega)).trans (unhide K_w))
  replace K_g := hide ((hb.block bg (by omega)).trans (unhide K_g))
  replace B := B.trans (hb.mono B.size)
  have s8 := hb.size
  clear hb
  have hb : Below w8.heap.size w8 (w8.alloc (.cells #[.slice (some ⟨ph, 0, none⟩) 1 1, .slice (some ⟨gh, 0, none⟩) 1 1, .slice (some ⟨ih, 0, none⟩) 1 1] 39)) := (Below.refl _ _).alloc (Nat.le_refl _) _
  have T_h := hide (hT.below hb)
  have K_h := hide (heap_new (w := w8) rfl #[.slice (some ⟨ph, 0, none⟩) 1 1, .slice (some ⟨gh, 0, none⟩) 1 1, .slice (some ⟨ih, 0, none⟩) 1 1] 39)
  have z8 : (w8.alloc (.cells #[.slice (some ⟨ph, 0, none⟩) 1 1, .slice (some ⟨gh, 0, none⟩) 1 1, .slice (some ⟨ih, 0, none⟩) 1 1] 39)).heap.size = w8.heap.size + 1 := by simp
  replace T_w := hide ((unhide T_w).below hb)
  replace T_g := hide ((unhide T_g).below hb)
  replace K_w := hide ((hb.block bw (by omega)).trans (unhide K_w))
  replace K_g := hide ((hb.block bg (by omega)).trans (unhide K_g))
  replace B := B.trans (hb.mono B.size)
  clear hb hT
  have q0 := heap_cell (unhide K_h) 0
  have q1 := heap_cell (unhide K_h) 1
  have q2 := heap_cell (unhide K_h) 2
  simp at q0 q1 q2
  have y0 := heap_cell (unhide K_w) 0
  have y1 := heap_cell (unhide K_w) 1
  have y2 := heap_cell (unhide K_w) 2
  simp at y0 y1 y2
  go_wp2_with fail
  generalize w8.alloc (.cells #[.slice (some ⟨ph, 0, none⟩) 1 1, .slice (some ⟨gh, 0, none⟩) 1 1, .slice (some ⟨ih, 0, none⟩) 1 1] 39) = w9 at *
  generalize w8.heap.size = bh at *
  refine (eqTree1 ph gh ih pw gw iw _ _ _ _ _ _ w9 (unhide T_h) (unhide T_w)).mono ?_
  rintro e w10 ⟨rfl, hb⟩
  replace T_g := hide ((unhide T_g).below hb)
  replace K_g := hide ((hb.block bg (by omega)).trans (unhide K_g))
  replace B := B.trans (hb.mono B.size)
  clear hb q0 q1 q2 y0 y1 y2 T_h K_h T_w K_w
  have y0 := heap_cell (unhide K_g) 0
  have y1 := heap_cell (unhide K_g) 1
  have y2 := heap_cell (unhide K_g) 2
  simp at y0 y1 y2
  go_wp2_with fail
  refine (heldTree1 pg gg ig w10 (unhide T_g)).mono ?_
  rintro e w11 ⟨rfl, hb⟩
  replace B := B.trans (hb.mono B.size)
  clear hb y0 y1 y2 T_g K_g
  go_wp2_with fail
  go_ret
  exact ⟨rfl, B⟩
end Go.Proofs.Ytkggpapmhopaeab
