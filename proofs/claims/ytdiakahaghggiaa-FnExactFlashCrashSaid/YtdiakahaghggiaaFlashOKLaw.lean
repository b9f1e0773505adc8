/-
  The walk of FnExactFlashOK.
-/
import Derived.Test.YtdiakahaghggiaaImplOK
import Derived.Test.YtdiakahaghggiaaFlashS
import Derived.Test.YtdiakahaghggiaaFlashE
import Derived.Test.YtdiakahaghggiaaFlashIn
namespace Go.Proofs.Ytdiakahaghggiaa
open Go.RowKit

/-- The law's argument as it lies in its own block, and behind it. -/
structure Args (w wr : World) (ah : Option Addr) (nh ch : Nat) (aw : Option Addr) (nw cw : Nat) (xs : List Int) (ws : List WD) : Prop where
  bel : Below w.heap.size w wr
  size : w.heap.size + 1 ≤ wr.heap.size
  c0 : wr.cell? ⟨w.heap.size, 0, none⟩ = some (.slice ah nh ch)
  c1 : wr.cell? ⟨w.heap.size, 1, none⟩ = some (.slice aw nw cw)
  row : Row wr ah nh xs
  wrow : WRow wr aw nw ws
theorem Args.start {w : World} {ah : Option Addr} {nh ch : Nat} {aw : Option Addr} {nw cw : Nat} {xs : List Int} {ws : List WD} (hr : Row w ah nh xs) (hw : WRow w aw nw ws) (t : TypeId) :
    Args w (w.alloc (.cells #[.slice ah nh ch, .slice aw nw cw] t)) ah nh ch aw nw cw xs ws :=
  have b : Below w.heap.size w (w.alloc (.cells #[.slice ah nh ch, .slice aw nw cw] t)) := (Below.refl _ _).alloc (Nat.le_refl _) _
  ⟨b, by simp, (cell_new rfl).trans rfl, (cell_new rfl).trans rfl, row_grow hr b, hw.below b⟩
theorem Args.step {w wr w2 : World} {ah : Option Addr} {nh ch : Nat} {aw : Option Addr} {nw cw : Nat} {xs : List Int} {ws : List WD} (h : Args w wr ah nh ch aw nw cw xs ws) (hb : Below wr.heap.size wr w2) : Args w w2 ah nh ch aw nw cw xs ws :=
  have hs := h.size
  ⟨h.bel.trans (hb.mono h.bel.size), Nat.le_trans h.size hb.size, (hb.cell (p := ⟨w.heap.size, 0, none⟩) (by simp; omega)).trans h.c0, (hb.cell (p := ⟨w.heap.size, 1, none⟩) (by simp; omega)).trans h.c1, row_grow h.row hb, h.wrow.below hb⟩

set_option maxHeartbeats 2000000 in
theorem flashOK_law (ah : Option Addr) (nh ch : Nat) (aw : Option Addr) (nw cw : Nat) (xs : List Int) (ws : List WD) (w : World) (h : IsFlash w ah nh aw nw xs ws) :
    Calls Try.prog 3 #[fv ah nh ch aw nw cw] w fun e w' => e = .returned (.bool true) ∧ Below w.heap.size w w' := by
  obtain ⟨hR, hnh, hW, hnw⟩ := h
  have A0 := hide (Args.start (ch := ch) (cw := cw) hR hW 25)
  clear hR hW
  go_enter Try.func3, Try.ntmps3
  go_wp2_with fail
  refine (szFlash_any ah nh ch aw nw cw ws 1048576 _ (by omega) (by omega) hnh (unhide A0).wrow hnw).mono ?_
  rintro e w1 ⟨r, rfl, hr, hb1⟩
  have A1 := hide ((unhide A0).step hb1)
  clear A0 hb1
  rcases hr with rfl | ⟨r0, r1, n1, n2, n3⟩
  · go_wp2_with fail
    go_ret
    exact ⟨rfl, (unhide A1).bel⟩
  have N3 := hide (show ∀ i (hi : i < ws.length), ws[i].xs.length ≤ 1048576 from fun i hi => by have := n3 i hi; omega)
  clear n3
  have p0 := (unhide A1).c0
  have p1 := (unhide A1).c1
  go_wp2_with fail
  clear p0 p1
  refine (toFlash_any ah nh ch aw nw cw xs ws w1 (by omega) (by omega) (unhide N3) (unhide A1).row (unhide A1).wrow).mono ?_
  rintro e w2 ⟨ah2, ch2, g2, rfl, hF2, hb2⟩
  have A2 := hide ((unhide A1).step hb2)
  have F2 := hide hF2.wrow
  clear A1 hF2 hb2
  go_wp2_with fail
  refine (specFlashOK_any ah2 nh ch2 _ nw nw ws w2 hnh hnw (unhide F2)).mono ?_
  rintro e w3 ⟨rfl, hb3⟩
  have A3 := hide ((unhide A2).step hb3)
  clear A2 F2 hb3
  have p0 := (unhide A3).c0
  have p1 := (unhide A3).c1
  go_wp2_with fail
  clear p0 p1
  refine (toFlash_any ah nh ch aw nw cw xs ws w3 (by omega) (by omega) (unhide N3) (unhide A3).row (unhide A3).wrow).mono ?_
  rintro e w4 ⟨ah4, ch4, g4, rfl, hF4, hb4⟩
  have A4 := hide ((unhide A3).step hb4)
  have F4 := hide hF4
  clear A3 hF4 hb4
  have b5 : Below w4.heap.size w4 (w4.alloc (.cells #[.slice ah4 nh ch4, .slice (some ⟨g4, 0, none⟩) nw nw] 30)) := (Below.refl _ _).alloc (Nat.le_refl _) _
  have A5 := hide ((unhide A4).step b5)
  have F5 := hide ((unhide F4).below b5)
  have x0 : (w4.alloc (.cells #[.slice ah4 nh ch4, .slice (some ⟨g4, 0, none⟩) nw nw] 30)).cell? ⟨w4.heap.size, 0, none⟩ = some (.slice ah4 nh ch4) := (cell_new rfl).trans rfl
  have x1 : (w4.alloc (.cells #[.slice ah4 nh ch4, .slice (some ⟨g4, 0, none⟩) nw nw] 30)).cell? ⟨w4.heap.size, 1, none⟩ = some (.slice (some ⟨g4, 0, none⟩) nw nw) := (cell_new rfl).trans rfl
  have hz : (w4.alloc (.cells #[.slice ah4 nh ch4, .slice (some ⟨g4, 0, none⟩) nw nw] 30)).heap.size = w4.heap.size + 1 := by simp
  clear b5 A4 F4
  go_wp2_with fail
  generalize w4.alloc (.cells #[.slice ah4 nh ch4, .slice (some ⟨g4, 0, none⟩) nw nw] 30) = w5 at *
  have hlt5 : w4.heap.size < w5.heap.size := by omega
  refine (implFlashOK_any ah4 nh ch4 _ nw nw ws w5 hnh hnw (unhide F5).wrow).mono ?_
  rintro e w6 ⟨rfl, hb6⟩
  have A6 := hide ((unhide A5).step hb6)
  have F6 := hide ((unhide F5).below hb6)
  have x0 := (hb6.cell (p := ⟨w4.heap.size, 0, none⟩) hlt5).trans x0
  have x1 := (hb6.cell (p := ⟨w4.heap.size, 1, none⟩) hlt5).trans x1
  have hlt6 : w4.heap.size < w6.heap.size := Nat.lt_of_lt_of_le hlt5 hb6.size
  have p0 := (unhide A6).c0
  have p1 := (unhide A6).c1
  clear A5 F5 hb6 hz hlt5
  have hq : (okD nh ws != okD nh ws) = false := by simp
  generalize okD nh ws = ok at *
  go_wp2_with fail
  go_region_with (first
    | (go_at_call 10
       (first | refine (toFlash_any ah nh ch aw nw cw xs ws w6.drew (by omega) (by omega) (unhide N3) (unhide A6).row (unhide A6).wrow).mono ?_ | refine (toFlash_any ah nh ch aw nw cw xs ws w6 (by omega) (by omega) (unhide N3) (unhide A6).row (unhide A6).wrow).mono ?_)
       rintro e w7 ⟨ah7, ch7, g7, rfl, hF7, hb7⟩
       replace hb7 : Below w6.heap.size w6 w7 := ⟨hb7.os, hb7.tape, hb7.output, hb7.size, hb7.block⟩
       have y0 := (hb7.cell (p := ⟨w4.heap.size, 0, none⟩) hlt6).trans x0
       have y1 := (hb7.cell (p := ⟨w4.heap.size, 1, none⟩) hlt6).trans x1)
    | (go_at_call 12
       refine (eqFlash_any ah4 ah7 nh ch4 ch7 _ _ nw nw nw xs ws w7 hnh hnw (row_grow (unhide F6).row hb7) hF7.row ((unhide F6).wrow.below hb7) hF7.wrow).mono ?_
       rintro e w8 ⟨rfl, hb8⟩))
  all_goals
    have B8 : Below w.heap.size w w8 := (((unhide A6).bel).trans (hb7.mono (by have := (unhide A6).size; omega))).trans (hb8.mono (by have := (unhide A6).size; have := hb7.size; omega))
    go_wp2_with fail
    go_ret
    exact ⟨rfl, B8⟩
end Go.Proofs.Ytdiakahaghggiaa
