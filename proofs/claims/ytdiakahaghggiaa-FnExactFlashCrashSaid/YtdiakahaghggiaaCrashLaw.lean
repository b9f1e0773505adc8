/-
  The walk of FnExactFlashCrash.
-/
import Derived.Test.YtdiakahaghggiaaCrashI
import Derived.Test.YtdiakahaghggiaaCrashM
import Derived.Test.YtdiakahaghggiaaFlashOKLaw
import Derived.Test.YtdiakahaghggiaaFlashM
import Derived.Deep.RegionWith
namespace Go.Proofs.Ytdiakahaghggiaa
open Go.RowKit

theorem Args.band' {S : Nat → Prop} {w wr w2 : World} {ah : Option Addr} {nh ch : Nat} {aw : Option Addr} {nw cw : Nat} {xs : List Int} {ws : List WD} (hr : Row w ah nh xs) (hw : WRow w aw nw ws) (h : Args w wr ah nh ch aw nw cw xs ws) (hb : Band S wr w2) (hS : ∀ k, k < w.heap.size + 1 → S k) : Args w w2 ah nh ch aw nw cw xs ws :=
  have hs := h.size
  have b : Below w.heap.size w w2 := h.bel.trans (hb.below (by omega) (fun k hk => hS k (by omega)))
  ⟨b, Nat.le_trans h.size hb.kept.1, (hb.kept.cell (p := ⟨w.heap.size, 0, none⟩) (hS _ (by simp)) (by simp; omega)).trans h.c0, (hb.kept.cell (p := ⟨w.heap.size, 1, none⟩) (hS _ (by simp)) (by simp; omega)).trans h.c1, row_grow hr b, hw.below b⟩
theorem mine_row'' {w : World} {B n cap : Nat} {a : Option Addr} {xs : List Int} (h : Mine w B (.slice a n cap) xs) : Row w a n xs ∧ n = xs.length ∧ n ≤ cap ∧ cap ≤ maxLen ∧ ∀ x, a = some x → B ≤ x.block ∧ x.block < w.heap.size ∧ ∀ j, w.frozen? ⟨x.block, j, none⟩ = false := by
  obtain ⟨a', c', e, h1, h2, h3, h4⟩ := h
  injection e with e1 e2 e3
  subst e1 e2 e3
  exact ⟨h3, rfl, h1, h2, h4⟩
theorem wrow_nil (w : World) : WRow w none 0 [] := ⟨rfl, fun _ hi => absurd hi (Nat.not_lt_zero _)⟩
/-- The box of a device that is a local. -/
def Bx (w : World) (b : Nat) (a : Option Addr) (n c : Nat) (a' : Option Addr) (n' c' : Nat) : Prop := w.cell? ⟨b, 0, none⟩ = some (.slice a n c) ∧ w.cell? ⟨b, 1, none⟩ = some (.slice a' n' c')
theorem Bx.new (w : World) (a : Option Addr) (n c : Nat) (a' : Option Addr) (n' c' : Nat) (t : TypeId) : Bx (w.alloc (.cells #[.slice a n c, .slice a' n' c'] t)) w.heap.size a n c a' n' c' := ⟨(cell_new rfl).trans rfl, (cell_new rfl).trans rfl⟩
theorem Bx.step {w w2 : World} {b : Nat} {a : Option Addr} {n c : Nat} {a' : Option Addr} {n' c' : Nat} (h : Bx w b a n c a' n' c') (hb : Below w.heap.size w w2) : Bx w2 b a n c a' n' c' :=
  ⟨(hb.cell (p := ⟨b, 0, none⟩) (cell_lt h.1)).trans h.1, (hb.cell (p := ⟨b, 1, none⟩) (cell_lt h.2)).trans h.2⟩
theorem Bx.band {S : Nat → Prop} {w w2 : World} {b : Nat} {a : Option Addr} {n c : Nat} {a' : Option Addr} {n' c' : Nat} (h : Bx w b a n c a' n' c') (hb : Band S w w2) (hS : S b) : Bx w2 b a n c a' n' c' :=
  ⟨(hb.kept.cell (p := ⟨b, 0, none⟩) hS (cell_lt h.1)).trans h.1, (hb.kept.cell (p := ⟨b, 1, none⟩) hS (cell_lt h.2)).trans h.2⟩
/-- Memory of the call's own, between two blocks. -/
def Ow (w : World) (lo hi : Nat) (a : Option Addr) : Prop := ∀ x, a = some x → lo ≤ x.block ∧ x.block < hi ∧ x.block < w.heap.size ∧ ∀ j, w.frozen? ⟨x.block, j, none⟩ = false
theorem Ow.step {w w2 : World} {lo hi : Nat} {a : Option Addr} (h : Ow w lo hi a) (hb : Below w.heap.size w w2) : Ow w2 lo hi a :=
  fun x hx => ⟨(h x hx).1, (h x hx).2.1, Nat.lt_of_lt_of_le (h x hx).2.2.1 hb.size, fun j => (hb.frozen (p := ⟨x.block, j, none⟩) (h x hx).2.2.1).trans ((h x hx).2.2.2 j)⟩
theorem Ow.band {S : Nat → Prop} {w w2 : World} {lo hi : Nat} {a : Option Addr} (h : Ow w lo hi a) (hb : Band S w w2) (hS : ∀ k, lo ≤ k → k < hi → S k) : Ow w2 lo hi a :=
  fun x hx => ⟨(h x hx).1, (h x hx).2.1, Nat.lt_of_lt_of_le (h x hx).2.2.1 hb.kept.1, fun j => (hb.kept.frozen (p := ⟨x.block, j, none⟩) (hS _ (h x hx).1 (h x hx).2.1) (h x hx).2.2.1).trans ((h x hx).2.2.2 j)⟩
theorem Band.row {S : Nat → Prop} {w w2 : World} {lo hi : Nat} {a : Option Addr} {n : Nat} {xs : List Int} (hb : Band S w w2) (h : Row w a n xs) (ho : Ow w lo hi a) (hS : ∀ k, lo ≤ k → k < hi → S k) : Row w2 a n xs :=
  hb.kept.row h (fun x hx => hS _ (ho x hx).1 (ho x hx).2.1)
def BIn (w : World) (g n : Nat) (bs : List Bool) : Prop := BMine w g n bs ∧ g < w.heap.size
theorem BIn.step {w w2 : World} {g n : Nat} {bs : List Bool} (h : BIn w g n bs) (hb : Below w.heap.size w w2) : BIn w2 g n bs := ⟨h.1.grow h.2 hb, Nat.lt_of_lt_of_le h.2 hb.size⟩
theorem BIn.band {S : Nat → Prop} {w w2 : World} {g n : Nat} {bs : List Bool} (h : BIn w g n bs) (hb : Band S w w2) (hS : S g) : BIn w2 g n bs :=
  ⟨⟨h.1.1.kept hb.kept (fun x hx => by cases hx; exact hS), fun j => (hb.kept.frozen (p := ⟨g, j, none⟩) hS h.2).trans (h.1.2 j)⟩, Nat.lt_of_lt_of_le h.2 hb.kept.1⟩
theorem Mine.ow {w : World} {B n cap : Nat} {a : Option Addr} {xs : List Int} (h : Mine w B (.slice a n cap) xs) : Row w a n xs ∧ Ow w B w.heap.size a := by
  obtain ⟨r, _, _, _, o⟩ := mine_row'' h
  exact ⟨r, fun x hx => ⟨(o x hx).1, (o x hx).2.1, (o x hx).2.1, (o x hx).2.2⟩⟩
set_option maxRecDepth 100000 in
set_option maxHeartbeats 4000000 in
theorem flashCrash_law (ah : Option Addr) (nh ch : Nat) (aw : Option Addr) (nw cw : Nat) (xs : List Int) (ws : List WD) (ak : Option Addr) (nk ck : Nat) (ks : List Bool) (t : Int) (w : World) (h : IsFlash w ah nh aw nw xs ws) (hk : IsBools w ak nk ks) (_ : (Lit.int .i64 t).wf = true) :
    Calls Try.prog 5 #[fv ah nh ch aw nw cw, .slice ak nk ck, .int .i64 t] w fun e w' => e = .returned (.bool true) ∧ Below w.heap.size w w' := by
  obtain ⟨hR, hnh, hW, hnw⟩ := h
  obtain ⟨hK, hnk⟩ := hk
  unfold maxLen at hnk
  have A0 := hide (Args.start (ch := ch) (cw := cw) hR hW 25)
  have HR := hide hR
  have HW := hide hW
  have HK := hide hK
  clear hR hW hK
  by_cases hbig : 1048576 < nk
  · go_enter Try.func5, Try.ntmps5
    go_wp2_with fail
    go_ret
    exact ⟨rfl, (unhide A0).bel⟩
  have hnk2 : nk ≤ 1048576 := by omega
  go_enter Try.func5, Try.ntmps5
  go_wp2_with fail
  refine (szFlash_any ah nh ch aw nw cw ws 1048576 _ (by omega) (by omega) hnh (unhide A0).wrow hnw).mono ?_
  rintro e w1 ⟨r, rfl, hr, hb1⟩
  have A1 := hide ((unhide A0).step hb1)
  clear A0 hb1
  rcases hr with rfl | ⟨r0, r1, n1, n2, n3⟩
  · go_wp2_with fail
    go_ret
    exact ⟨rfl, (unhide A1).bel⟩
  have N3 := hide (show ∀ i (hi : i < ws.length), ws[i].xs.length ≤ 1048576 from fun i hi => by have := n3 i hi; omega)
  clear n3
  have p0 := (unhide A1).c0
  have p1 := (unhide A1).c1
  have hnh2 : nh ≤ 1048576 := by omega
  have hnw2 : nw ≤ 1048576 := by omega
  go_wp2_with fail
  clear p0 p1
  refine (toFlash_any ah nh ch aw nw cw xs ws w1 hnh2 hnw2 (unhide N3) (unhide A1).row (unhide A1).wrow).mono ?_
  rintro e w2 ⟨ah2, ch2, g2, rfl, hF2, hb2⟩
  have A2 := hide ((unhide A1).step hb2)
  obtain ⟨b2, rfl⟩ := hF2.1
  have F2 := hide hF2
  clear A1 hF2 hb2
  go_wp2_with fail
  refine (toBoolS_any ak nk ck ks w2 hnk2 ((unhide HK).grow (unhide A2).bel)).mono ?_
  rintro e w3 ⟨rfl, hB3, hl3, hb3⟩
  have A3 := hide ((unhide A2).step hb3)
  have F3 := hide ((unhide F2).below hb3)
  have s23 := (unhide A2).size
  clear A2 F2 hb3
  generalize hgk : w2.heap.size = gk at *
  clear hgk
  go_wp2_with fail
  refine (specFlashCrash_any b2 0 nh ch2 _ nw nw (some ⟨gk, 0, none⟩) nk nk ks t xs ws w3 (unhide F3).row (unhide F3).wrow hB3.1 hnh2 hnw2 hnk2).mono ?_
  rintro e w4 ⟨a4, c4, rfl, hM4, hb4⟩
  have A := hide ((unhide A3).step hb4)
  obtain ⟨z4, o4⟩ := hM4.ow
  have ZW := hide z4
  have OW := hide o4
  have L0 := hide (fcH_len xs ws ks t)
  have s4 := hb4.size
  have s34 := (unhide A3).size
  clear A3 F3 hb4 hM4 z4 o4 hB3
  have HI := hide (fun (a : Option Addr) (c g : Nat) (k : Nat) (x : World) (h1 : Row x a nh xs) (h2 : WRow x (some ⟨g, 0, none⟩) nw ws) (h3 : BRow x (some ⟨k, 0, none⟩) nk ks) (h4 : nh ≤ c) (h5 : c ≤ maxLen) => implFlashCrash_any a nh c (some ⟨g, 0, none⟩) nw nw (some ⟨k, 0, none⟩) nk nk ks t xs ws x h1 h2 h3 hnh2 hnw2 hnk2 h4 h5)
  have hq : (fcC xs ws ks t != fcC xs ws ks t) = false := by simp
  generalize fcC xs ws ks t = C at *
  generalize fcH xs ws ks t = R at *
  have hRl := unhide L0
  have hRm : R.length ≤ maxLen := by unfold maxLen; omega
  have hR1 : R.length ≤ 1048576 := by omega
  have b5 : Below w4.heap.size w4 (w4.alloc (.cells #[.slice a4 R.length c4, .slice none 0 0] 30)) := (Below.refl _ _).alloc (Nat.le_refl _) _
  have XW := hide (Bx.new w4 a4 R.length c4 none 0 0 30)
  replace A := hide ((unhide A).step b5)
  replace OW := hide ((unhide OW).step b5)
  replace ZW := hide (row_grow (unhide ZW) b5)
  have hz5 : (w4.alloc (.cells #[.slice a4 R.length c4, .slice none 0 0] 30)).heap.size = w4.heap.size + 1 := by simp
  clear b5
  have p0 := (unhide A).c0
  have p1 := (unhide A).c1
  go_wp2_with fail
  clear p0 p1
  generalize w4.alloc (.cells #[.slice a4 R.length c4, .slice none 0 0] 30) = w5 at *
  have s45 : w4.heap.size < w5.heap.size := by omega
  have HZ5 := hide hz5
  clear hz5
  refine (toFlash_any ah nh ch aw nw cw xs ws w5 hnh2 hnw2 (unhide N3) (unhide A).row (unhide A).wrow).mono ?_
  rintro e w6 ⟨ah6, ch6, g6, rfl, hF6, hb6⟩
  have FX := hide hF6.fin
  have M6 := hide (mine_row'' hF6.2.2.2.1)
  have s6 := hb6.size
  replace A := hide ((unhide A).step hb6)
  replace OW := hide ((unhide OW).step hb6)
  replace XW := hide ((unhide XW).step hb6)
  replace ZW := hide (row_grow (unhide ZW) hb6)
  clear hF6 hb6
  have b7 : Below w6.heap.size w6 (w6.alloc (.cells #[.slice ah6 nh ch6, .slice (some ⟨g6, 0, none⟩) nw nw] 30)) := (Below.refl _ _).alloc (Nat.le_refl _) _
  have XX := hide (Bx.new w6 ah6 nh ch6 (some ⟨g6, 0, none⟩) nw nw 30)
  replace A := hide ((unhide A).step b7)
  replace OW := hide ((unhide OW).step b7)
  replace XW := hide ((unhide XW).step b7)
  replace ZW := hide (row_grow (unhide ZW) b7)
  replace FX := hide ((unhide FX).below b7)
  have hz7 : (w6.alloc (.cells #[.slice ah6 nh ch6, .slice (some ⟨g6, 0, none⟩) nw nw] 30)).heap.size = w6.heap.size + 1 := by simp
  clear b7
  go_wp2_with fail
  generalize w6.alloc (.cells #[.slice ah6 nh ch6, .slice (some ⟨g6, 0, none⟩) nw nw] 30) = w7 at *
  have s67 : w6.heap.size < w7.heap.size := by omega
  clear hz7
  refine (toBoolS_any ak nk ck ks w7 hnk2 ((unhide HK).grow (unhide A).bel)).mono ?_
  rintro e w8 ⟨rfl, hB8, hl8, hb8⟩
  have KX := hide (show BIn w8 w7.heap.size nk ks from ⟨hB8, hl8⟩)
  have s8 := hb8.size
  replace A := hide ((unhide A).step hb8)
  replace OW := hide ((unhide OW).step hb8)
  replace XW := hide ((unhide XW).step hb8)
  replace XX := hide ((unhide XX).step hb8)
  replace ZW := hide (row_grow (unhide ZW) hb8)
  replace FX := hide ((unhide FX).below hb8)
  clear hB8 hb8
  generalize hgx : w7.heap.size = gx at *
  clear hgx
  have x0 := (unhide XX).1
  have x1 := (unhide XX).2
  go_wp2_with fail
  clear x0 x1
  refine (unhide HI ah6 ch6 g6 gx w8 (unhide FX).mine.row (unhide FX).mine.wrow (unhide KX).1.1 (unhide M6).2.2.1 (unhide M6).2.2.2.1).mono ?_
  rintro e w9 ⟨a9, c9, rfl, hM9, hb9⟩
  obtain ⟨z9, o9⟩ := hM9.ow
  have ZG := hide z9
  have OG := hide o9
  have s9 := hb9.size
  replace A := hide ((unhide A).step hb9)
  replace OW := hide ((unhide OW).step hb9)
  replace XW := hide ((unhide XW).step hb9)
  replace XX := hide ((unhide XX).step hb9)
  replace KX := hide ((unhide KX).step hb9)
  replace ZW := hide (row_grow (unhide ZW) hb9)
  replace FX := hide ((unhide FX).below hb9)
  clear hb9 hM9 z9 o9 M6
  have b10 : Below w9.heap.size w9 (w9.alloc (.cells #[.slice a9 R.length c9, .slice none 0 0] 30)) := (Below.refl _ _).alloc (Nat.le_refl _) _
  have XG := hide (Bx.new w9 a9 R.length c9 none 0 0 30)
  replace A := hide ((unhide A).step b10)
  replace OW := hide ((unhide OW).step b10)
  replace XW := hide ((unhide XW).step b10)
  replace XX := hide ((unhide XX).step b10)
  replace KX := hide ((unhide KX).step b10)
  replace OG := hide ((unhide OG).step b10)
  replace ZW := hide (row_grow (unhide ZW) b10)
  replace ZG := hide (row_grow (unhide ZG) b10)
  replace FX := hide ((unhide FX).below b10)
  have hz10 : (w9.alloc (.cells #[.slice a9 R.length c9, .slice none 0 0] 30)).heap.size = w9.heap.size + 1 := by simp
  clear b10
  have u0 := (unhide XW).1
  have u1 := (unhide XW).2
  have v0 := (unhide XG).1
  have v1 := (unhide XG).2
  go_wp2_with fail
  generalize w9.alloc (.cells #[.slice a9 R.length c9, .slice none 0 0] 30) = w10 at *
  have s910 : w9.heap.size < w10.heap.size := by omega
  clear hz10 u0 u1 v0 v1
  refine (eqFlash_any a9 a4 R.length c9 c4 none none 0 0 0 R [] w10 hRm (by unfold maxLen; omega) (unhide ZG) (unhide ZW) (wrow_nil _) (wrow_nil _)).mono ?_
  rintro e w11 ⟨rfl, hb11⟩
  have s11 := hb11.size
  replace A := hide ((unhide A).step hb11)
  replace OW := hide ((unhide OW).step hb11)
  replace XW := hide ((unhide XW).step hb11)
  replace XX := hide ((unhide XX).step hb11)
  replace KX := hide ((unhide KX).step hb11)
  replace OG := hide ((unhide OG).step hb11)
  replace XG := hide ((unhide XG).step hb11)
  replace ZW := hide (row_grow (unhide ZW) hb11)
  replace ZG := hide (row_grow (unhide ZG) hb11)
  replace FX := hide ((unhide FX).below hb11)
  clear hb11
  have p0 := (unhide A).c0
  have p1 := (unhide A).c1
  have x0 := (unhide XX).1
  have x1 := (unhide XX).2
  have hbx : w6.heap.size < w11.heap.size := by omega
  go_wp2_with fail
  go_region_with (first
    | (go_at_call 10
       (first | refine (toFlash_any ah nh ch aw nw cw xs ws w11.drew hnh2 hnw2 (unhide N3) (unhide A).row (unhide A).wrow).mono ?_ | refine (toFlash_any ah nh ch aw nw cw xs ws w11 hnh2 hnw2 (unhide N3) (unhide A).row (unhide A).wrow).mono ?_)
       rintro e w12 ⟨ah12, ch12, g12, rfl, hF12, hb12⟩
       replace hb12 : Below w11.heap.size w11 w12 := ⟨hb12.os, hb12.tape, hb12.output, hb12.size, hb12.block⟩
       have y0 := (hb12.cell (p := ⟨w6.heap.size, 0, none⟩) hbx).trans x0
       have y1 := (hb12.cell (p := ⟨w6.heap.size, 1, none⟩) hbx).trans x1)
    | (go_at_call 12
       refine (eqFlash_any ah6 ah12 nh ch6 ch12 _ _ nw nw nw xs ws w12 hnh hnw (row_grow (unhide FX).mine.row hb12) hF12.row ((unhide FX).mine.wrow.below hb12) hF12.wrow).mono ?_
       rintro e w13 ⟨rfl, hb13⟩))
  all_goals
    have hb14 : Below w11.heap.size w11 w13 := hb12.trans (hb13.mono hb12.size)
    have s13 := hb14.size
    replace A := hide ((unhide A).step hb14)
    replace OW := hide ((unhide OW).step hb14)
    replace XW := hide ((unhide XW).step hb14)
    replace XX := hide ((unhide XX).step hb14)
    replace KX := hide ((unhide KX).step hb14)
    replace OG := hide ((unhide OG).step hb14)
    replace XG := hide ((unhide XG).step hb14)
    replace ZW := hide (row_grow (unhide ZW) hb14)
    replace ZG := hide (row_grow (unhide ZG) hb14)
    replace FX := hide ((unhide FX).below hb14)
    clear hb12 hb13 hb14 hF12 y0 y1 x0 x1 p0 p1
    go_wp2_with fail
    refine (toBoolS_any ak nk ck ks w13 hnk2 ((unhide HK).grow (unhide A).bel)).mono ?_
    rintro e w14 ⟨rfl, hB14, _, hb14⟩
    have s14 := hb14.size
    have KB := hide hB14
    replace A := hide ((unhide A).step hb14)
    replace OW := hide ((unhide OW).step hb14)
    replace XW := hide ((unhide XW).step hb14)
    replace XX := hide ((unhide XX).step hb14)
    replace KX := hide ((unhide KX).step hb14)
    replace OG := hide ((unhide OG).step hb14)
    replace XG := hide ((unhide XG).step hb14)
    replace ZW := hide (row_grow (unhide ZW) hb14)
    replace ZG := hide (row_grow (unhide ZG) hb14)
    replace FX := hide ((unhide FX).below hb14)
    clear hb14 hB14
    go_wp2_with fail
    refine (eqBoolS_same (some ⟨gx, 0, none⟩) (some ⟨w13.heap.size, 0, none⟩) nk nk nk ks w14 (by unfold maxLen; omega) (unhide KX).1.1 (unhide KB).1).mono ?_
    rintro e w15 ⟨rfl, hb15⟩
    have s15 := hb15.size
    replace A := hide ((unhide A).step hb15)
    replace OW := hide ((unhide OW).step hb15)
    replace XW := hide ((unhide XW).step hb15)
    replace XX := hide ((unhide XX).step hb15)
    replace KX := hide ((unhide KX).step hb15)
    replace OG := hide ((unhide OG).step hb15)
    replace XG := hide ((unhide XG).step hb15)
    replace ZW := hide (row_grow (unhide ZW) hb15)
    replace ZG := hide (row_grow (unhide ZG) hb15)
    replace FX := hide ((unhide FX).below hb15)
    clear hb15 KB
    have x0 := (unhide XX).1
    have x1 := (unhide XX).2
    go_wp2_with fail
    clear x0 x1
    refine (markFlash_any w5.heap.size w6.heap.size ah6 nh ch6 g6 nw nw xs ws w15 hnh2 hnw2 (unhide N3) (unhide FX) (by omega)).mono ?_
    rintro e w16 ⟨k16, rfl, hB16, hk16⟩
    have s16 := hB16.kept.1
    replace A := hide (Args.band' (unhide HR) (unhide HW) (unhide A) hB16 (fun k hk => by omega))
    replace ZW := hide (hB16.row (unhide ZW) (unhide OW) (fun k _ hk => .inl (by omega)))
    replace OW := hide ((unhide OW).band hB16 (fun k _ hk => .inl (by omega)))
    replace XW := hide ((unhide XW).band hB16 (.inl s45))
    replace KX := hide ((unhide KX).band hB16 (.inr (by omega)))
    replace ZG := hide (hB16.row (unhide ZG) (unhide OG) (fun k hk _ => .inr (by omega)))
    replace OG := hide ((unhide OG).band hB16 (fun k hk _ => .inr (by omega)))
    replace XG := hide ((unhide XG).band hB16 (.inr (by omega)))
    clear hB16 FX XX
    go_wp2_with fail
    refine (markBoolS_any (fun b => b ≠ gx) gx nk nk k16 ks w16 hnk2 hk16 (unhide KX).1 (by simp)).mono ?_
    rintro e w17 ⟨k17, rfl, hB17⟩
    have s17 := hB17.kept.1
    replace A := hide (Args.band' (unhide HR) (unhide HW) (unhide A) hB17 (fun k hk => by omega))
    replace ZW := hide (hB17.row (unhide ZW) (unhide OW) (fun k _ hk => by omega))
    replace OW := hide ((unhide OW).band hB17 (fun k _ hk => by omega))
    replace XW := hide ((unhide XW).band hB17 (by omega))
    replace ZG := hide (hB17.row (unhide ZG) (unhide OG) (fun k hk _ => by omega))
    replace OG := hide ((unhide OG).band hB17 (fun k hk _ => by omega))
    replace XG := hide ((unhide XG).band hB17 (by omega))
    clear hB17 KX
    have u0 := (unhide XW).1
    have u1 := (unhide XW).2
    have v0 := (unhide XG).1
    have v1 := (unhide XG).2
    go_wp2_with fail
    refine (eqFlash_any a9 a4 R.length c9 c4 none none 0 0 0 R [] w17 hRm (by unfold maxLen; omega) (unhide ZG) (unhide ZW) (wrow_nil _) (wrow_nil _)).mono ?_
    rintro e w18 ⟨rfl, hb18⟩
    have s18 := hb18.size
    replace A := hide ((unhide A).step hb18)
    replace OW := hide ((unhide OW).step hb18)
    replace XW := hide ((unhide XW).step hb18)
    replace OG := hide ((unhide OG).step hb18)
    replace XG := hide ((unhide XG).step hb18)
    replace ZW := hide (row_grow (unhide ZW) hb18)
    replace ZG := hide (row_grow (unhide ZG) hb18)
    clear hb18 u0 u1 v0 v1
    have v0 := (unhide XG).1
    have v1 := (unhide XG).2
    go_wp2_with fail
    refine (markFlash0_any (fun b => b < w8.heap.size ∨ w9.heap.size ≤ b) a9 R.length c9 1 R w18 hR1 (by omega) (unhide ZG) (fun x hx => ⟨(unhide OG x hx).2.2.1, (unhide OG x hx).2.2.2⟩) (fun x hx => by have := unhide OG x hx; omega)).mono ?_
    rintro e w19 ⟨rfl, r19, hB19⟩
    have s19 := hB19.kept.1
    replace A := hide (Args.band' (unhide HR) (unhide HW) (unhide A) hB19 (fun k hk => by omega))
    replace ZW := hide (hB19.row (unhide ZW) (unhide OW) (fun k _ hk => .inl (by omega)))
    replace OW := hide ((unhide OW).band hB19 (fun k _ hk => .inl (by omega)))
    replace XW := hide ((unhide XW).band hB19 (.inl (by omega)))
    replace XG := hide ((unhide XG).band hB19 (.inr (Nat.le_refl _)))
    replace ZG := hide r19
    clear hB19 r19 v0 v1 OG
    have v0 := (unhide XG).1
    have v1 := (unhide XG).2
    go_wp2_with fail
    refine (heldFlash0_any a9 R.length c9 1 w19 hR1 (by omega) (unhide ZG)).mono ?_
    rintro e w20 ⟨rfl, hb20⟩
    replace A := hide ((unhide A).step hb20)
    replace OW := hide ((unhide OW).step hb20)
    replace XW := hide ((unhide XW).step hb20)
    replace XG := hide ((unhide XG).step hb20)
    replace ZW := hide (row_grow (unhide ZW) hb20)
    replace ZG := hide (row_grow (unhide ZG) hb20)
    have s20 := hb20.size
    clear hb20 v0 v1
    have p0 := (unhide A).c0
    have p1 := (unhide A).c1
    go_wp2_with fail
    clear p0 p1
    refine (toFlash_any ah nh ch aw nw cw xs ws w20 hnh2 hnw2 (unhide N3) (unhide A).row (unhide A).wrow).mono ?_
    rintro e w21 ⟨ah21, ch21, g21, rfl, hF21, hb21⟩
    have F21 := hide hF21
    have M21 := hide (mine_row'' hF21.2.2.2.1)
    replace A := hide ((unhide A).step hb21)
    replace OW := hide ((unhide OW).step hb21)
    replace XW := hide ((unhide XW).step hb21)
    replace XG := hide ((unhide XG).step hb21)
    replace ZW := hide (row_grow (unhide ZW) hb21)
    replace ZG := hide (row_grow (unhide ZG) hb21)
    clear hb21 hF21
    go_wp2_with fail
    refine (toBoolS_any ak nk ck ks w21 hnk2 ((unhide HK).grow (unhide A).bel)).mono ?_
    rintro e w22 ⟨rfl, hB22, _, hb22⟩
    replace A := hide ((unhide A).step hb22)
    replace OW := hide ((unhide OW).step hb22)
    replace XW := hide ((unhide XW).step hb22)
    replace XG := hide ((unhide XG).step hb22)
    replace ZW := hide (row_grow (unhide ZW) hb22)
    replace ZG := hide (row_grow (unhide ZG) hb22)
    replace F21 := hide ((unhide F21).below hb22)
    have KB := hide hB22
    clear hb22 hB22
    go_wp2_with fail
    refine (unhide HI ah21 ch21 g21 _ w22 (unhide F21).row (unhide F21).wrow (unhide KB).1 (unhide M21).2.2.1 (unhide M21).2.2.2.1).mono ?_
    rintro e w23 ⟨a23, c23, rfl, hM23, hb23⟩
    obtain ⟨z23, o23⟩ := hM23.ow
    have ZH := hide z23
    replace A := hide ((unhide A).step hb23)
    replace OW := hide ((unhide OW).step hb23)
    replace XW := hide ((unhide XW).step hb23)
    replace XG := hide ((unhide XG).step hb23)
    replace ZW := hide (row_grow (unhide ZW) hb23)
    replace ZG := hide (row_grow (unhide ZG) hb23)
    have s23' := hb23.size
    clear hb23 hM23 z23 o23 F21 KB M21
    have b24 : Below w23.heap.size w23 (w23.alloc (.cells #[.slice a23 R.length c23, .slice none 0 0] 30)) := (Below.refl _ _).alloc (Nat.le_refl _) _
    have XH := hide (Bx.new w23 a23 R.length c23 none 0 0 30)
    replace A := hide ((unhide A).step b24)
    replace OW := hide ((unhide OW).step b24)
    replace XW := hide ((unhide XW).step b24)
    replace XG := hide ((unhide XG).step b24)
    replace ZW := hide (row_grow (unhide ZW) b24)
    replace ZG := hide (row_grow (unhide ZG) b24)
    replace ZH := hide (row_grow (unhide ZH) b24)
    clear b24
    have u0 := (unhide XW).1
    have u1 := (unhide XW).2
    have v0 := (unhide XH).1
    have v1 := (unhide XH).2
    go_wp2_with fail
    clear u0 u1 v0 v1
    generalize w23.alloc (.cells #[.slice a23 R.length c23, .slice none 0 0] 30) = w24 at *
    refine (eqFlash_any a23 a4 R.length c23 c4 none none 0 0 0 R [] w24 hRm (by unfold maxLen; omega) (unhide ZH) (unhide ZW) (wrow_nil _) (wrow_nil _)).mono ?_
    rintro e w25 ⟨rfl, hb25⟩
    replace A := hide ((unhide A).step hb25)
    replace XG := hide ((unhide XG).step hb25)
    replace ZG := hide (row_grow (unhide ZG) hb25)
    clear hb25 ZW ZH XH OW XW
    have v0 := (unhide XG).1
    have v1 := (unhide XG).2
    go_wp2_with fail
    refine (heldFlash0_any a9 R.length c9 1 w25 hR1 (by omega) (unhide ZG)).mono ?_
    rintro e w26 ⟨rfl, hb26⟩
    replace A := hide ((unhide A).step hb26)
    clear hb26 v0 v1
    go_wp2_with fail
    go_ret
    exact ⟨rfl, (unhide A).bel⟩
end Go.Proofs.Ytdiakahaghggiaa
