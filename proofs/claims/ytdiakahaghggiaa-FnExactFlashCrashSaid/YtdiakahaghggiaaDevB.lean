/-
  The walk of the method clone of sectors.
-/
import Derived.Test.YtdiakahaghggiaaDevA
namespace Go.Proofs.Ytdiakahaghggiaa
open Go.RowKit Go.Maps

set_option maxHeartbeats 1000000 in
theorem secs_clone_any (p o m N c : Nat) (f : Nat → List Int) (w : World) (hm : SecMap w m N f) (c0 : w.cell? ⟨p, o, none⟩ = some (.int .i64 (c : Int))) (c1 : w.cell? ⟨p, o + 1, none⟩ = some (.map (some m))) :
    Calls Try.prog 61 #[.pointer (some ⟨p, o, none⟩)] w fun e w' => ∃ g, e = .returned (.agg #[.int .i64 (c : Int), .map (some g)]) ∧ w.heap.size ≤ g ∧ SecMap w' g N f ∧ Below w.heap.size w w' := by
  have hl : p < w.heap.size := cell_lt c0
  have hbx : ∀ o, Below w.heap.size w (w.alloc o) := fun o => (Below.refl _ _).alloc (Nat.le_refl _) _
  have HB := hide hbx
  have d0 : ∀ ob, (w.alloc ob).cell? ⟨p, o, none⟩ = some (.int .i64 (c : Int)) := fun ob => ((hbx ob).cell (p := ⟨p, o, none⟩) hl).trans c0
  have d1 : ∀ ob, (w.alloc ob).cell? ⟨p, o + 1, none⟩ = some (.map (some m)) := fun ob => ((hbx ob).cell (p := ⟨p, o + 1, none⟩) hl).trans c1
  have HM := hide fun ob => hm.below (hbx ob) hm.lt
  clear hbx hm
  go_enter Try.func61, Try.ntmps61
  go_wp2_with fail
  generalize hwx : w.alloc (.cells #[.int .i64 0, .map none] 69) = wx at *
  have e0 : wx.cell? ⟨p, o, none⟩ = some (.int .i64 (c : Int)) := by rw [← hwx]; exact d0 _
  have e1 : wx.cell? ⟨p, o + 1, none⟩ = some (.map (some m)) := by rw [← hwx]; exact d1 _
  have k0 : wx.cell? ⟨w.heap.size, 0, none⟩ = some (.int .i64 0) := by rw [← hwx]; exact (cell_new rfl).trans rfl
  have k1 : wx.cell? ⟨w.heap.size, 1, none⟩ = some (.map none) := by rw [← hwx]; exact (cell_new rfl).trans rfl
  have q : ∀ j, wx.frozen? ⟨w.heap.size, j, none⟩ = false := fun j => by rw [← hwx]; exact frozen_new rfl
  have hsz : wx.heap.size = w.heap.size + 1 := by rw [← hwx]; simp
  have M := hide (show SecMap wx m N f by rw [← hwx]; exact unhide HM _)
  have B := hide (show Below w.heap.size w wx by rw [← hwx]; exact unhide HB _)
  clear hwx d0 d1 HM HB
  go_region_with (go_at_call 67; (first | refine (mapsClone_any m N f wx.drew (unhide M)).mono ?_ | refine (mapsClone_any m N f wx (unhide M)).mono ?_); rintro e w1 ⟨rfl, hm1, hb1⟩; replace hb1 : Below wx.heap.size wx w1 := ⟨hb1.os, hb1.tape, hb1.output, hb1.size, hb1.block⟩; have y0 := (hb1.cell (p := ⟨p, o, none⟩) (show p < wx.heap.size by omega)).trans e0; have y1 := (hb1.cell (p := ⟨w.heap.size, 0, none⟩) (show w.heap.size < wx.heap.size by omega)).trans k0; have y2 := (hb1.cell (p := ⟨w.heap.size, 1, none⟩) (show w.heap.size < wx.heap.size by omega)).trans k1; have z1 := (hb1.frozen (p := ⟨w.heap.size, 0, none⟩) (show w.heap.size < wx.heap.size by omega)).trans (q 0); have z2 := (hb1.frozen (p := ⟨w.heap.size, 1, none⟩) (show w.heap.size < wx.heap.size by omega)).trans (q 1))
  all_goals
    have M1 := hide (show SecMap w1 (w.heap.size + 1) N f from hsz ▸ hm1)
    have B1 := hide ((((unhide B).trans (hb1.mono (by omega))).setCell (p := ⟨w.heap.size, 0, none⟩) (Nat.le_refl _) (.int .i64 (c : Int))).setCell (p := ⟨w.heap.size, 1, none⟩) (Nat.le_refl _) (.map (some (w.heap.size + 1))))
    have hlt : w.heap.size < w1.heap.size := by have := hb1.size; omega
    clear hm1 hb1 e0 e1 k0 k1 q M B
    go_wp2_with fail
    refine bodyPost_ret (v := .agg #[.int .i64 (c : Int), .map (some (w.heap.size + 1))]) (by simp [results, Try.results61, go_sem, y1, y2]) rfl ⟨w.heap.size + 1, rfl, by omega, ?_, unhide B1⟩
    exact (unhide M1).block (by rw [Below.heap_setCell _ _ _ _ (by simp), Below.heap_setCell _ _ _ _ (by simp)])
end Go.Proofs.Ytdiakahaghggiaa
