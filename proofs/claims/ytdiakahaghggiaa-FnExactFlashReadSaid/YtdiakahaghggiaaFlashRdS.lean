/-
  The walk of spec.FlashRead.
-/
import Derived.Test.YtdiakahaghggiaaReadD
import Derived.Test.YtdiakahaghggiaaImplOK
namespace Go.Proofs.Ytdiakahaghggiaa
open Go.RowKit Go.Maps

set_option maxRecDepth 100000 in
set_option maxHeartbeats 2000000 in
theorem specFlashRead_any (b off n c : Nat) (aw : Option Addr) (nw cw : Nat) (xs : List Int) (ws : List WD) (w : World) (hR : Row w (some ⟨b, off, none⟩) n xs) (hW : WRow w aw nw ws) (hn : n ≤ 1048576) (hnw : nw ≤ 1048576) :
    Calls Try.prog 13 #[fv (some ⟨b, off, none⟩) n c aw nw cw] w fun e w' => ∃ a cap, e = .returned (.tuple #[.slice a (rdB xs ws).length cap, .int .i64 (rdC xs ws)]) ∧ Mine w' w.heap.size (.slice a (rdB xs ws).length cap) (rdB xs ws) ∧ Below w.heap.size w w' := by
  have hxl := hR.1
  have hwl := hW.1
  have b0 : Below w.heap.size w (w.alloc (.cells #[.slice (some ⟨b, off, none⟩) n c, .slice aw nw cw] 30)) := (Below.refl _ _).alloc (Nat.le_refl _) _
  have HW := hide (hW.below b0)
  have HR := hide (row_grow hR b0)
  have B0 := hide b0
  have x0 : (w.alloc (.cells #[.slice (some ⟨b, off, none⟩) n c, .slice aw nw cw] 30)).cell? ⟨w.heap.size, 0, none⟩ = some (.slice (some ⟨b, off, none⟩) n c) := (cell_new rfl).trans rfl
  have x1 : (w.alloc (.cells #[.slice (some ⟨b, off, none⟩) n c, .slice aw nw cw] 30)).cell? ⟨w.heap.size, 1, none⟩ = some (.slice aw nw cw) := (cell_new rfl).trans rfl
  have hz : (w.alloc (.cells #[.slice (some ⟨b, off, none⟩) n c, .slice aw nw cw] 30)).heap.size = w.heap.size + 1 := by simp
  clear hR hW b0
  go_enter Try.func13, Try.ntmps13
  go_wp2_with fail
  generalize w.alloc (.cells #[.slice (some ⟨b, off, none⟩) n c, .slice aw nw cw] 30) = w0 at *
  refine (specFlashOK_any (some ⟨b, off, none⟩) n c aw nw cw ws w0 (by unfold maxLen; omega) (by unfold maxLen; omega) (unhide HW)).mono ?_
  rintro e w1 ⟨rfl, hb1⟩
  have y0 := (hb1.cell (p := ⟨w.heap.size, 0, none⟩) (show w.heap.size < w0.heap.size by omega)).trans x0
  have y1 := (hb1.cell (p := ⟨w.heap.size, 1, none⟩) (show w.heap.size < w0.heap.size by omega)).trans x1
  have hs1 := hb1.size
  have W1 := hide ((unhide HW).below hb1)
  have R1 := hide (row_grow (unhide HR) hb1)
  have B1 := hide ((unhide B0).trans (hb1.mono (by omega)))
  clear HW HR B0 hb1 x0 x1
  by_cases ho : okD n ws = true
  · rw [ho]
    obtain ⟨k1, k2, k3, k4⟩ := okD_parts ho
    have HE := hide (show rdB xs ws = readD xs ws ∧ rdC xs ws = 0 by unfold rdB rdC; rw [hxl, ho]; exact ⟨rfl, rfl⟩)
    have HP := hide (fun c => l02Read_any b off n c aw nw cw xs ws w1 (unhide R1) (unhide W1) k2 k1 (by omega) k4)
    clear k1 k2 k3 k4 ho
    go_wp2_with fail
    refine (unhide HP _).mono ?_
    rintro e w2 ⟨g, cap, rfl, hO, hb2⟩
    have M2 := hide (mine_mono (mine_of_owns hO) (show w.heap.size ≤ w1.heap.size by omega))
    have B2 := hide ((unhide B1).trans (hb2.mono (by omega)))
    clear hO hb2 y0 y1 HP
    go_wp2_with fail
    go_ret2
    rw [(unhide HE).1, (unhide HE).2]
    exact ⟨_, cap, rfl, unhide M2, unhide B2⟩
  · have ho : okD n ws = false := by simpa using ho
    rw [ho]
    have HE := hide (show rdB xs ws = [] ∧ rdC xs ws = 1 by unfold rdB rdC; rw [hxl, ho]; exact ⟨rfl, rfl⟩)
    clear ho
    go_wp2_with fail
    go_ret2
    rw [(unhide HE).1, (unhide HE).2]
    exact ⟨_, 0, rfl, mine_empty _ (by omega), (unhide B1).alloc (by omega) _⟩
end Go.Proofs.Ytdiakahaghggiaa
