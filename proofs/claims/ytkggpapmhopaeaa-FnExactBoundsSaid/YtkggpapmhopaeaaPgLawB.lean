/-
  The walk of the law of Bounds.
-/
import Derived.Test.YtkggpapmhopaeaaPageS
import Derived.Test.YtkggpapmhopaeaaPgLaw
import Derived.Deep.RegionWith
namespace Go.Proofs.Ytkggpapmhopaeaa
open Go.RowKit

set_option maxRecDepth 100000 in
set_option maxHeartbeats 8000000 in
theorem lawBounds_any (lo hi : ByteArray) (r : Int) (ab : Option Addr) (nb cb : Nat) (es : List EntD) (ac : Option Addr) (nc cc : Nat) (ds : List DelD) (w : World) (hP : IsPage w lo hi ab nb es ac nc ds) :
    Calls Try.prog 4 #[pgv lo hi r ab nb cb ac nc cc] w fun e w' => e = .returned (.bool true) ∧ Below w.heap.size w w' := by
  have b0 : Below w.heap.size w (w.alloc (.cells #[.string lo, .string hi, .int .i64 r, .slice ab nb cb, .slice ac nc cc] 25)) := (Below.refl _ _).alloc (Nat.le_refl _) _
  have P := hide hP
  have P0 := hide (hP.below b0)
  have k0 := hide (heap_alloc_new w (.cells #[.string lo, .string hi, .int .i64 r, .slice ab nb cb, .slice ac nc cc] 25))
  have z0 : (w.alloc (.cells #[.string lo, .string hi, .int .i64 r, .slice ab nb cb, .slice ac nc cc] 25)).heap.size = w.heap.size + 1 := by simp
  clear hP
  go_enter Try.func4, Try.ntmps4
  go_wp2_with fail
  generalize w.alloc (.cells #[.string lo, .string hi, .int .i64 r, .slice ab nb cb, .slice ac nc cc] 25) = W0 at *
  refine (szPage_any lo hi r ab nb cb es ac nc cc ds 1048576 W0 (by omega) (by omega) (unhide P0)).mono ?_
  rintro e w1 ⟨q, rfl, hq, b1⟩
  have k1 := hide ((b1.block w.heap.size (by omega)).trans (unhide k0))
  have B1 := b0.trans (b1.mono b0.size)
  have z1 : w.heap.size + 1 ≤ w1.heap.size := by have := b1.size; omega
  clear b0 b1 P0 k0 z0
  rcases hq with rfl | ⟨q0, q1, hnb, hnc⟩
  · go_wp2_with fail
    go_ret
    exact ⟨rfl, B1⟩
  have hnb : nb ≤ 1048576 := by omega
  have hnc : nc ≤ 1048576 := by omega
  obtain ⟨p0, p1, p2, p3, p4⟩ := pg_cells (unhide k1)
  have P1 := hide ((unhide P).below B1)
  go_wp2_with fail
  refine (toPage_any lo hi r ab nb cb es ac nc cc ds w1 hnb hnc (unhide P1)).mono ?_
  rintro e w2 ⟨g, h, rfl, hO, b2⟩
  have k2 := hide ((b2.block w.heap.size (by omega)).trans (unhide k1))
  have B2 := B1.trans (b2.mono B1.size)
  have z2 : w.heap.size + 1 ≤ w2.heap.size := by have := b2.size; omega
  have O2 := hide hO
  clear b2 P1 k1 p0 p1 p2 p3 p4 hO
  go_wp2_with fail
  refine (specBounds_any lo hi r _ nb nb es _ nc nc ds w2 (erow_of_owns (unhide O2).1) (drow_of_owns (unhide O2).2.1) (fun h => by cases h)).mono ?_
  rintro e w3 ⟨rfl, b3⟩
  have k3 := hide ((b3.block w.heap.size (by omega)).trans (unhide k2))
  have B3 := B2.trans (b3.mono B2.size)
  have z3 : w.heap.size + 1 ≤ w3.heap.size := by have := b3.size; omega
  have P3 := hide ((unhide P).below B3)
  clear b3 k2 O2 B2 B1
  obtain ⟨p0, p1, p2, p3, p4⟩ := pg_cells (unhide k3)
  obtain ⟨t0, t1, t2, hv⟩ : ∃ t0 t1 t2, boundsV lo hi r es ds = .tuple #[.string t0, .int .i64 t1, .int .i64 t2] := by
    unfold boundsV
    repeat' split
    all_goals exact ⟨_, _, _, rfl⟩
  have HV := hide hv
  rw [hv]
  clear hv
  go_wp2_with fail
  refine (toPage_any lo hi r ab nb cb es ac nc cc ds w3 hnb hnc (unhide P3)).mono ?_
  rintro e w4 ⟨g, h, rfl, hO, b4⟩
  have k4 := hide ((b4.block w.heap.size (by omega)).trans (unhide k3))
  have B4 := B3.trans (b4.mono B3.size)
  have z4 : w.heap.size + 1 ≤ w4.heap.size := by have := b4.size; omega
  clear b4 k3 P3 B3 p0 p1 p2 p3 p4
  have b5 : Below w4.heap.size w4 (w4.alloc (.cells #[.string lo, .string hi, .int .i64 r, .slice (some ⟨g, 0, none⟩) nb nb, .slice (some ⟨h, 0, none⟩) nc nc] 31)) := (Below.refl _ _).alloc (Nat.le_refl _) _
  have x5 := hide (heap_alloc_new w4 (.cells #[.string lo, .string hi, .int .i64 r, .slice (some ⟨g, 0, none⟩) nb nb, .slice (some ⟨h, 0, none⟩) nc nc] 31))
  have k5 := hide ((b5.block w.heap.size (by omega)).trans (unhide k4))
  have O5 := hide (hO.below b5)
  have B5 := B4.trans (b5.mono B4.size)
  have z5 : (w4.alloc (.cells #[.string lo, .string hi, .int .i64 r, .slice (some ⟨g, 0, none⟩) nb nb, .slice (some ⟨h, 0, none⟩) nc nc] 31)).heap.size = w4.heap.size + 1 := by simp
  clear b5 k4 hO B4
  go_wp2_with fail
  generalize w4.alloc (.cells #[.string lo, .string hi, .int .i64 r, .slice (some ⟨g, 0, none⟩) nb nb, .slice (some ⟨h, 0, none⟩) nc nc] 31) = w5 at *
  generalize w4.heap.size = xb at *
  refine (implBounds_any lo hi r _ nb nb es _ nc nc ds w5 (erow_of_owns (unhide O5).1) (drow_of_owns (unhide O5).2.1)).mono ?_
  rintro e w6 ⟨rfl, b6⟩
  have k6 := hide ((b6.block w.heap.size (by omega)).trans (unhide k5))
  have x6 := hide ((b6.block xb (by omega)).trans (unhide x5))
  have O6 := hide ((unhide O5).below b6)
  have B6 := B5.trans (b6.mono B5.size)
  have z6 : xb + 1 ≤ w6.heap.size := by have := b6.size; omega
  have P6 := hide ((unhide P).below B6)
  clear b6 k5 x5 O5 B5
  obtain ⟨p0, p1, p2, p3, p4⟩ := pg_cells (unhide k6)
  obtain ⟨y0, y1, y2, y3, y4⟩ := pg_cells (unhide x6)
  rw [show (if okPage lo hi r es ds = true then Value.tuple #[.string (highE hi ds), .int .i64 (rightE r ds), .int .i64 0] else .tuple #[.string ByteArray.empty, .int .i64 0, .int .i64 1]) = .tuple #[.string t0, .int .i64 t1, .int .i64 t2] from unhide HV]
  have KP := hide (show ∀ w', w' = w6 ∨ w' = w6.drew ∨ (∃ n, w' = w6.drewN n) → Calls Try.prog 11 #[pgv lo hi r ab nb cb ac nc cc] w' fun e w7 => ∃ g' h', e = .returned (pgv lo hi r (some ⟨g', 0, none⟩) nb nb (some ⟨h', 0, none⟩) nc nc) ∧ OwnPage w7 w6.heap.size g' h' nb nc es ds ∧ Below w6.heap.size w6 w7 from fun w' h' => by
    rcases h' with rfl | rfl | ⟨n, rfl⟩
    · exact toPage_any lo hi r ab nb cb es ac nc cc ds _ hnb hnc (unhide P6)
    · refine (toPage_any lo hi r ab nb cb es ac nc cc ds w6.drew hnb hnc (unhide P6)).mono ?_
      rintro e w7 ⟨g', h', e, o, b⟩
      exact ⟨g', h', e, o, bel_of_drew b⟩
    · refine (toPage_any lo hi r ab nb cb es ac nc cc ds (w6.drewN n) hnb hnc (unhide P6)).mono ?_
      rintro e w7 ⟨g', h', e, o, b⟩
      exact ⟨g', h', e, o, bel_of_drewN b⟩)
  have YP := hide (show ∀ w7, Below w6.heap.size w6 w7 → (w7.cell? ⟨xb, 0, none⟩ = some (.string lo) ∧ w7.cell? ⟨xb, 1, none⟩ = some (.string hi) ∧ w7.cell? ⟨xb, 2, none⟩ = some (.int .i64 r) ∧ w7.cell? ⟨xb, 3, none⟩ = some (.slice (some ⟨g, 0, none⟩) nb nb) ∧ w7.cell? ⟨xb, 4, none⟩ = some (.slice (some ⟨h, 0, none⟩) nc nc)) ∧ OwnPage w7 w3.heap.size g h nb nc es ds ∧ Below w.heap.size w w7 from fun w7 hb => ⟨pg_cells ((hb.block xb (by omega)).trans (unhide x6)), (unhide O6).below hb, B6.trans (hb.mono B6.size)⟩)
  go_wp2_with fail
  go_region_with (first
    | (go_at_call 11; refine (unhide KP _ (by first | exact .inl rfl | exact .inr (.inl rfl) | exact .inr (.inr ⟨_, rfl⟩))).mono ?_; rintro e w7 ⟨g', h', rfl, o7, b7⟩; obtain ⟨⟨t0', t1', t2', t3', t4'⟩, o7', B7⟩ := unhide YP w7 b7; have H7 := hide o7; have H7' := hide o7'; clear o7 o7')
    | (go_at_call 13; refine (eqPage_any lo hi r _ _ nb nb nb es _ _ nc nc nc ds _ hnb hnc (erow_of_owns (unhide H7').1) (erow_of_owns (unhide H7).1) (drow_of_owns (unhide H7').2.1) (drow_of_owns (unhide H7).2.1)).mono ?_; rintro e w8 ⟨rfl, b8⟩; have B8 := hide (B7.trans (b8.mono B7.size)); clear b8))
  all_goals
    go_wp2_with fail
    go_ret
    exact ⟨rfl, unhide B8⟩
end Go.Proofs.Ytkggpapmhopaeaa
