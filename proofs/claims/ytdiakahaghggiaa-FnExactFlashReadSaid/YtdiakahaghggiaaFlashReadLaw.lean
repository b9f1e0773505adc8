/-
  The walk of FnExactFlashRead.
-/
import Derived.Test.YtdiakahaghggiaaFlashRdS
import Derived.Test.YtdiakahaghggiaaFlashRdI
import Derived.Test.YtdiakahaghggiaaFlashOKLaw
import Derived.Test.YtdiakahaghggiaaFlashM
import Derived.Test.YtdiakahaghggiaaHeldB
namespace Go.Proofs.Ytdiakahaghggiaa
open Go.RowKit

theorem rdB_len (xs : List Int) (ws : List WD) : (rdB xs ws).length ≤ 2048 := by
  unfold rdB
  by_cases h : okD xs.length ws = true
  · rw [if_pos h]
    obtain ⟨k1, k2, k3, k4⟩ := okD_parts h
    exact (readD_bounds xs ws k1 k2 k4).2
  · rw [if_neg h]; simp
theorem Args.band {S : Nat → Prop} {w wr w2 : World} {ah : Option Addr} {nh ch : Nat} {aw : Option Addr} {nw cw : Nat} {xs : List Int} {ws : List WD} (hr : Row w ah nh xs) (hw : WRow w aw nw ws) (h : Args w wr ah nh ch aw nw cw xs ws) (hb : Band S wr w2) (hS : ∀ k, k < w.heap.size + 1 → S k) : Args w w2 ah nh ch aw nw cw xs ws :=
  have hs := h.size
  have b : Below w.heap.size w w2 := h.bel.trans (hb.below (by omega) (fun k hk => hS k (by omega)))
  ⟨b, Nat.le_trans h.size hb.kept.1, (hb.kept.cell (p := ⟨w.heap.size, 0, none⟩) (hS _ (by simp)) (by simp; omega)).trans h.c0, (hb.kept.cell (p := ⟨w.heap.size, 1, none⟩) (hS _ (by simp)) (by simp; omega)).trans h.c1, row_grow hr b, hw.below b⟩
theorem mine_row {w : World} {B n cap : Nat} {a : Option Addr} {xs : List Int} (h : Mine w B (.slice a n cap) xs) : Row w a n xs ∧ n = xs.length ∧ n ≤ cap ∧ cap ≤ maxLen ∧ ∀ x, a = some x → B ≤ x.block ∧ x.block < w.heap.size ∧ ∀ j, w.frozen? ⟨x.block, j, none⟩ = false := by
  obtain ⟨a', c', e, h1, h2, h3, h4⟩ := h
  injection e with e1 e2 e3
  subst e1 e2 e3
  exact ⟨h3, rfl, h1, h2, h4⟩

set_option maxRecDepth 100000 in
set_option maxHeartbeats 4000000 in
theorem flashRead_law (ah : Option Addr) (nh ch : Nat) (aw : Option Addr) (nw cw : Nat) (xs : List Int) (ws : List WD) (w : World) (h : IsFlash w ah nh aw nw xs ws) :
    Calls Try.prog 4 #[fv ah nh ch aw nw cw] w fun e w' => e = .returned (.bool true) ∧ Below w.heap.size w w' := by
  obtain ⟨hR, hnh, hW, hnw⟩ := h
  have A0 := hide (Args.start (ch := ch) (cw := cw) hR hW 25)
  have HR := hide hR
  have HW := hide hW
  clear hR hW
  go_enter Try.func4, Try.ntmps4
  go_wp2_with fail
  refine (szFlash_any ah nh ch aw nw cw ws 1048576 _ (by omega) (by omega) hnh (unhide A0).wrow hnw).mono ?_
  rintro e w1 ⟨r, rfl, hr, hb1⟩
  have A1 := hide ((unhide A0).step hb1)
  clear A0 hb1
  rcases hr with rfl | ⟨r0, r1, n1, n2, n3⟩
  · go_wp2_with fail
    go_ret
    exact ⟨rfl, (unhide A1).bel⟩
  have N3 := hide (show ∀ i (hi : i < ws.length), ws[i].xs.length ≤ 1048576 from fun i hi => by have := n3 i hi; omega)
  clear n3
  have p0 := (unhide A1).c0
  have p1 := (unhide A1).c1
  go_wp2_with fail
  clear p0 p1
  refine (toFlash_any ah nh ch aw nw cw xs ws w1 (by omega) (by omega) (unhide N3) (unhide A1).row (unhide A1).wrow).mono ?_
  rintro e w2 ⟨ah2, ch2, g2, rfl, hF2, hb2⟩
  have A2 := hide ((unhide A1).step hb2)
  obtain ⟨b2, rfl⟩ := hF2.1
  have F2 := hide hF2
  clear A1 hF2 hb2
  go_wp2_with fail
  have L0 := hide (rdB_len xs ws)
  refine (specFlashRead_any b2 0 nh ch2 _ nw nw xs ws w2 (unhide F2).row (unhide F2).wrow (by omega) (by omega)).mono ?_
  rintro e w3 ⟨a3, c3, rfl, hM3, hb3⟩
  have A3 := hide ((unhide A2).step hb3)
  obtain ⟨z3, _, _, _, o3⟩ := mine_row hM3
  have Z3 := hide z3
  have O3 := hide o3
  have s23 := (unhide A2).size
  have s3 := hb3.size
  clear A2 F2 hb3 hM3 z3 o3
  have p0 := (unhide A3).c0
  have p1 := (unhide A3).c1
  go_wp2_with fail
  clear p0 p1
  refine (toFlash_any ah nh ch aw nw cw xs ws w3 (by omega) (by omega) (unhide N3) (unhide A3).row (unhide A3).wrow).mono ?_
  rintro e w4 ⟨ah4, ch4, g4, rfl, hF4, hb4⟩
  have A4 := hide ((unhide A3).step hb4)
  have F4 := hide hF4.fin
  have M4 := hide (mine_row hF4.2.2.2.1)
  have Z4 := hide (row_grow (unhide Z3) hb4)
  have s4 := hb4.size
  clear A3 hF4 hb4 Z3
  have b5 : Below w4.heap.size w4 (w4.alloc (.cells #[.slice ah4 nh ch4, .slice (some ⟨g4, 0, none⟩) nw nw] 30)) := (Below.refl _ _).alloc (Nat.le_refl _) _
  have A5 := hide ((unhide A4).step b5)
  have F5 := hide ((unhide F4).below b5)
  have Z5 := hide (row_grow (unhide Z4) b5)
  have x0 : (w4.alloc (.cells #[.slice ah4 nh ch4, .slice (some ⟨g4, 0, none⟩) nw nw] 30)).cell? ⟨w4.heap.size, 0, none⟩ = some (.slice ah4 nh ch4) := (cell_new rfl).trans rfl
  have x1 : (w4.alloc (.cells #[.slice ah4 nh ch4, .slice (some ⟨g4, 0, none⟩) nw nw] 30)).cell? ⟨w4.heap.size, 1, none⟩ = some (.slice (some ⟨g4, 0, none⟩) nw nw) := (cell_new rfl).trans rfl
  have hz : (w4.alloc (.cells #[.slice ah4 nh ch4, .slice (some ⟨g4, 0, none⟩) nw nw] 30)).heap.size = w4.heap.size + 1 := by simp
  clear b5 A4 F4 Z4
  go_wp2_with fail
  generalize w4.alloc (.cells #[.slice ah4 nh ch4, .slice (some ⟨g4, 0, none⟩) nw nw] 30) = w5 at *
  have hlt5 : w4.heap.size < w5.heap.size := by omega
  refine (implFlashRead_any ah4 nh ch4 _ nw nw xs ws w5 (unhide F5).mine.row (unhide F5).mine.wrow (by omega) (by omega) (unhide M4).2.2.1 (unhide M4).2.2.2.1).mono ?_
  rintro e w6 ⟨a6, c6, rfl, hM6, hb6⟩
  have A6 := hide ((unhide A5).step hb6)
  have F6 := hide ((unhide F5).below hb6)
  have Z6 := hide (row_grow (unhide Z5) hb6)
  have x0 := (hb6.cell (p := ⟨w4.heap.size, 0, none⟩) hlt5).trans x0
  have x1 := (hb6.cell (p := ⟨w4.heap.size, 1, none⟩) hlt5).trans x1
  have s6 := hb6.size
  obtain ⟨z6, _, _, _, o6⟩ := mine_row hM6
  have G6 := hide z6
  have O6 := hide o6
  clear A5 F5 Z5 hb6 hM6 z6 o6 M4
  have hq : (rdC xs ws != rdC xs ws) = false := by simp
  have HI := hide (fun (a : Option Addr) (c : Nat) (b : Option Addr) (x : World) (h1 : Row x a nh xs) (h2 : WRow x b nw ws) (h3 : nh ≤ c) (h4 : c ≤ maxLen) => implFlashRead_any a nh c b nw nw xs ws x h1 h2 (by omega) (by omega) h3 h4)
  generalize rdC xs ws = C at *
  generalize rdB xs ws = R at *
  have hRl := unhide L0
  have hRm : R.length ≤ maxLen := by unfold maxLen; omega
  go_wp2_with fail
  refine (eqBytes_same a6 a3 R.length c6 c3 R w6 hRm (unhide G6) (unhide Z6)).mono ?_
  rintro e w7 ⟨rfl, hb7⟩
  have hlt6 : w4.heap.size < w6.heap.size := by omega
  have A7 := hide ((unhide A6).step hb7)
  have F7 := hide ((unhide F6).below hb7)
  have Z7 := hide (row_grow (unhide Z6) hb7)
  have G7 := hide (row_grow (unhide G6) hb7)
  have x0 := (hb7.cell (p := ⟨w4.heap.size, 0, none⟩) hlt6).trans x0
  have x1 := (hb7.cell (p := ⟨w4.heap.size, 1, none⟩) hlt6).trans x1
  have P7 := hide (show ∀ x, a6 = some x → w5.heap.size ≤ x.block ∧ x.block < w7.heap.size ∧ ∀ j, w7.frozen? ⟨x.block, j, none⟩ = false from fun x hx => ⟨(unhide O6 x hx).1, Nat.lt_of_lt_of_le (unhide O6 x hx).2.1 hb7.size, fun j => (hb7.frozen (p := ⟨x.block, j, none⟩) (unhide O6 x hx).2.1).trans ((unhide O6 x hx).2.2 j)⟩)
  have s7 := hb7.size
  have p0 := (unhide A7).c0
  have p1 := (unhide A7).c1
  clear A6 F6 Z6 G6 O6 hb7
  go_wp2_with fail
  go_region_with (first
    | (go_at_call 10
       (first | refine (toFlash_any ah nh ch aw nw cw xs ws w7.drew (by omega) (by omega) (unhide N3) (unhide A7).row (unhide A7).wrow).mono ?_ | refine (toFlash_any ah nh ch aw nw cw xs ws w7 (by omega) (by omega) (unhide N3) (unhide A7).row (unhide A7).wrow).mono ?_)
       rintro e w8 ⟨ah8, ch8, g8, rfl, hF8, hb8⟩
       replace hb8 : Below w7.heap.size w7 w8 := ⟨hb8.os, hb8.tape, hb8.output, hb8.size, hb8.block⟩
       have y0 := (hb8.cell (p := ⟨w4.heap.size, 0, none⟩) (show w4.heap.size < w7.heap.size by omega)).trans x0
       have y1 := (hb8.cell (p := ⟨w4.heap.size, 1, none⟩) (show w4.heap.size < w7.heap.size by omega)).trans x1)
    | (go_at_call 12
       refine (eqFlash_any ah4 ah8 nh ch4 ch8 _ _ nw nw nw xs ws w8 hnh hnw (row_grow (unhide F7).mine.row hb8) hF8.row ((unhide F7).mine.wrow.below hb8) hF8.wrow).mono ?_
       rintro e w9 ⟨rfl, hb9⟩))
  all_goals
    have hb79 : Below w7.heap.size w7 w9 := hb8.trans (hb9.mono hb8.size)
    have A9 := hide ((unhide A7).step hb79)
    have F9 := hide ((unhide F7).below hb79)
    have Z9 := hide (row_grow (unhide Z7) hb79)
    have G9 := hide (row_grow (unhide G7) hb79)
    have v0 := (hb79.cell (p := ⟨w4.heap.size, 0, none⟩) (show w4.heap.size < w7.heap.size by omega)).trans x0
    have v1 := (hb79.cell (p := ⟨w4.heap.size, 1, none⟩) (show w4.heap.size < w7.heap.size by omega)).trans x1
    have P9 := hide (show ∀ x, a6 = some x → w5.heap.size ≤ x.block ∧ x.block < w9.heap.size ∧ ∀ j, w9.frozen? ⟨x.block, j, none⟩ = false from fun x hx => ⟨(unhide P7 x hx).1, Nat.lt_of_lt_of_le (unhide P7 x hx).2.1 hb79.size, fun j => (hb79.frozen (p := ⟨x.block, j, none⟩) (unhide P7 x hx).2.1).trans ((unhide P7 x hx).2.2 j)⟩)
    have s9 := hb79.size
    clear A7 F7 Z7 G7 P7 hb79 hb8 hb9 hF8 x0 x1 y0 y1 p0 p1
    go_wp2_with fail
    refine (markFlash_any w3.heap.size w4.heap.size ah4 nh ch4 g4 nw nw xs ws w9 (by omega) (by omega) (unhide N3) (unhide F9) (by omega)).mono ?_
    rintro e w10 ⟨k10, rfl, hB, _⟩
    have s10 := hB.kept.1
    have A10 := hide (Args.band (unhide HR) (unhide HW) (unhide A9) hB (fun k hk => by omega))
    have Z10 := hide (hB.kept.row (unhide Z9) (fun x hx => .inl (unhide O3 x hx).2.1))
    have G10 := hide (hB.kept.row (unhide G9) (fun x hx => .inr (by have := (unhide P9 x hx).1; omega)))
    have P10 := hide (show ∀ x, a6 = some x → w5.heap.size ≤ x.block ∧ x.block < w10.heap.size ∧ ∀ j, w10.frozen? ⟨x.block, j, none⟩ = false from fun x hx => ⟨(unhide P9 x hx).1, Nat.lt_of_lt_of_le (unhide P9 x hx).2.1 s10, fun j => (hB.kept.frozen (p := ⟨x.block, j, none⟩) (.inr (by have := (unhide P9 x hx).1; simp; omega)) (unhide P9 x hx).2.1).trans ((unhide P9 x hx).2.2 j)⟩)
    clear A9 F9 Z9 G9 P9 hB v0 v1
    go_wp2_with fail
    refine (eqBytes_same a6 a3 R.length c6 c3 R w10 hRm (unhide G10) (unhide Z10)).mono ?_
    rintro e w11 ⟨rfl, hb11⟩
    have A11 := hide ((unhide A10).step hb11)
    have Z11 := hide (row_grow (unhide Z10) hb11)
    have G11 := hide (row_grow (unhide G10) hb11)
    have P11 := hide (show ∀ x, a6 = some x → w5.heap.size ≤ x.block ∧ ∀ j, w11.frozen? ⟨x.block, j, none⟩ = false from fun x hx => ⟨(unhide P10 x hx).1, fun j => (hb11.frozen (p := ⟨x.block, j, none⟩) (unhide P10 x hx).2.1).trans ((unhide P10 x hx).2.2 j)⟩)
    have s11 := hb11.size
    clear A10 Z10 G10 P10 hb11
    go_wp2_with fail
    refine (markByteS_any a6 R.length c6 R 1 w11 (by omega) (by omega) (by omega) (unhide G11) (fun x hx => (unhide P11 x hx).2)).mono ?_
    rintro e w12 ⟨rfl, r12, t12⟩
    have A12 := hide (Args.band (S := fun b => b < w5.heap.size) (unhide HR) (unhide HW) (unhide A11) (Band.touch t12 (fun x hx => by have := (unhide P11 x hx).1; omega)) (fun k hk => by omega))
    have Z12 := hide ((unhide Z11).touch t12 (fun x y hx hy => by have h1 := (unhide O3 x hx).2.1; have h2 := (unhide P11 y hy).1; omega))
    have s12 := t12.size
    have G12 := hide r12
    clear A11 Z11 G11 P11 t12 r12
    go_wp2_with fail
    refine (heldByteS_any a6 R.length c6 1 w12 (by omega) (by omega) (by omega) (unhide G12)).mono ?_
    rintro e w12' ⟨rfl, rfl⟩
    have p0 := (unhide A12).c0
    have p1 := (unhide A12).c1
    go_wp2_with fail
    clear p0 p1
    refine (toFlash_any ah nh ch aw nw cw xs ws w12' (by omega) (by omega) (unhide N3) (unhide A12).row (unhide A12).wrow).mono ?_
    rintro e w13 ⟨ah13, ch13, g13, rfl, hF13, hb13⟩
    have A13 := hide ((unhide A12).step hb13)
    have Z13 := hide (row_grow (unhide Z12) hb13)
    have G13 := hide (row_grow (unhide G12) hb13)
    have M13 := hide (mine_row hF13.2.2.2.1)
    have F13 := hide hF13
    clear A12 Z12 G12 hb13 hF13
    go_wp2_with fail
    refine ((unhide HI) ah13 ch13 _ w13 (unhide F13).row (unhide F13).wrow (unhide M13).2.2.1 (unhide M13).2.2.2.1).mono ?_
    rintro e w14 ⟨a14, c14, rfl, hM14, hb14⟩
    have A14 := hide ((unhide A13).step hb14)
    have Z14 := hide (row_grow (unhide Z13) hb14)
    have G14 := hide (row_grow (unhide G13) hb14)
    obtain ⟨z14, _, _, _, _⟩ := mine_row hM14
    have H14 := hide z14
    clear A13 Z13 G13 F13 M13 hM14 hb14 z14
    go_wp2_with fail
    refine (eqBytes_same a14 a3 R.length c14 c3 R w14 hRm (unhide H14) (unhide Z14)).mono ?_
    rintro e w15 ⟨rfl, hb15⟩
    have A15 := hide ((unhide A14).step hb15)
    have G15 := hide (row_grow (unhide G14) hb15)
    clear A14 Z14 G14 H14 hb15
    go_wp2_with fail
    refine (heldByteS_any a6 R.length c6 1 w15 (by omega) (by omega) (by omega) (unhide G15)).mono ?_
    rintro e w16 ⟨rfl, rfl⟩
    go_wp2_with fail
    go_ret
    exact ⟨rfl, (unhide A15).bel⟩
end Go.Proofs.Ytdiakahaghggiaa
