/-
  A drawn device.
-/
import Derived.Test.YtgifcaeemfaihaaWriteS
import Derived.Test.YtgifcaeemfaihaaSrcH
import Derived.Deep.RegionWith
import Derived.Deep.WholeRow
set_option maxRecDepth 100000
namespace Go.Proofs.Ytgifcaeemfaihaa
open Go.RowKit

theorem heap_set2 {w : World} {ob : Nat} {v0 v1 u0 u1 : Value} {t : TypeId} {fr : Nat × Nat} (hk : w.heap[ob]? = some (.cells #[v0, v1] t fr)) : ((w.setCell ⟨ob, 0, none⟩ u0).setCell ⟨ob, 1, none⟩ u1).heap[ob]? = some (.cells #[u0, u1] t fr) := by
  rw [setCell_eq_setRow w ob 0 _ t fr u0 hk]
  have h1 := setRow_heap w ob _ (#[v0, v1].setIfInBounds 0 u0) t fr hk
  rw [setCell_eq_setRow _ ob 1 _ t fr u1 h1]
  exact setRow_heap _ ob _ _ t fr h1
theorem src_u8 {w : World} {p : Nat} {a : Option Addr} {n c : Nat} {xs : List Int} {t s : Int} (h : SrcF w p a n c xs t s) {j : Nat} {x : Int} (hc : w.cell? ⟨p, j, none⟩ = some (.int .u8 x)) : False := by
  have h0 := h.code
  have h1 := h.place
  have h2 := h.seed
  obtain ⟨v0, v1, v2, fr, hk⟩ := h.shape
  simp only [World.cell?, hk] at hc h0 h1 h2
  match j, hc with
  | 0, hc => rw [h0] at hc; cases hc
  | 1, hc => rw [h1] at hc; cases hc
  | 2, hc => rw [h2] at hc; cases hc
  | j + 3, hc => simp at hc
theorem src_pair {w : World} {p : Nat} {a : Option Addr} {n c : Nat} {xs : List Int} {t s : Int} (h : SrcF w p a n c xs t s) {j : Nat} {x : Int} {a' : Option Addr} {n' c' : Nat} (hc : w.cell? ⟨p, j, none⟩ = some (.int .i64 x)) (hd : w.cell? ⟨p, j + 1, none⟩ = some (.slice a' n' c')) : False := by
  have h0 := h.code
  have h1 := h.place
  have h2 := h.seed
  obtain ⟨v0, v1, v2, fr, hk⟩ := h.shape
  simp only [World.cell?, hk] at hc hd h0 h1 h2
  match j, hc, hd with
  | 0, hc, _ => rw [h0] at hc; cases hc
  | 1, _, hd => rw [h2] at hd; cases hd
  | 2, _, hd => simp at hd
  | j + 3, hc, _ => simp at hc
theorem row_wrote3 {w w' : World} {p : Nat} {a : Option Addr} {n c : Nat} {xs : List Int} {t s : Int} (h : SrcF w p a n c xs t s) (hw : Wrote p w w') {b : Option Addr} {m : Nat} {ys : List Int} (hr : Row w b m ys) : Row w' b m ys := by
  refine ⟨hr.1, fun i hi => ?_⟩
  obtain ⟨b', off, e, hc⟩ := hr.2 i hi
  have hne : b' ≠ p := fun e => by subst e; exact src_u8 h hc
  exact ⟨b', off, e, (hw.cell (p := ⟨b', off + i, none⟩) hne (cell_lt hc)).trans hc⟩
theorem wrow_wrote3 {w w' : World} {p : Nat} {a : Option Addr} {n c : Nat} {xs : List Int} {t s : Int} (h : SrcF w p a n c xs t s) (hw : Wrote p w w') {aw : Option Addr} {nw : Nat} {ws : List WD} (hr : WRow w aw nw ws) : WRow w' aw nw ws := by
  refine ⟨hr.1, fun i hi => ?_⟩
  obtain ⟨b, off, e, c0, a', c', c1, hm, hrow⟩ := hr.2 i hi
  have hne : b ≠ p := fun e => by subst e; exact src_pair h c0 c1
  exact ⟨b, off, e, (hw.cell (p := ⟨b, off + i * 2, none⟩) hne (cell_lt c0)).trans c0, a', c', (hw.cell (p := ⟨b, off + i * 2 + 1, none⟩) hne (cell_lt c1)).trans c1, hm, row_wrote3 h hw hrow⟩
/-- A device while it is drawn: its box, and the result's. -/
structure FDr (w wr : World) (p fb b m : Nat) (aw : Option Addr) (nw cw : Nat) (ys : List Int) (ws : List WD) : Prop where
  fbox : wr.heap[fb]? = some (.cells #[.slice (some ⟨b, 0, none⟩) m m, .slice aw nw cw] 50 (0, 0))
  rbox : wr.heap[w.heap.size]? = some (.cells #[.slice none 0 0, .slice none 0 0] 50 (0, 0))
  row : Row wr (some ⟨b, 0, none⟩) m ys
  wrow : WRow wr aw nw ws
  ok : ∀ d ∈ ws, okW d = true
  haw : aw = none → nw = 0 ∧ cw = 0
  low : w.heap.size < fb
theorem FDr.below {w wr w2 : World} {p fb b m : Nat} {aw : Option Addr} {nw cw : Nat} {ys : List Int} {ws : List WD} (h : FDr w wr p fb b m aw nw cw ys ws) (hb : Below wr.heap.size wr w2) : FDr w w2 p fb b m aw nw cw ys ws :=
  ⟨(hb.block fb (Array.getElem?_eq_some_iff.1 h.fbox).1).trans h.fbox, (hb.block _ (Array.getElem?_eq_some_iff.1 h.rbox).1).trans h.rbox, row_grow h.row hb, h.wrow.below hb, h.ok, h.haw, h.low⟩
theorem FDr.wrote {w wr w2 : World} {p fb b m : Nat} {aw : Option Addr} {nw cw : Nat} {ys : List Int} {ws : List WD} {a : Option Addr} {n c : Nat} {xs : List Int} {t s : Int} (h : FDr w wr p fb b m aw nw cw ys ws) (hs : SrcF wr p a n c xs t s) (hp : p < w.heap.size) (hw : Wrote p wr w2) : FDr w w2 p fb b m aw nw cw ys ws :=
  ⟨(hw.block fb (by have := h.low; omega) (Array.getElem?_eq_some_iff.1 h.fbox).1).trans h.fbox, (hw.block _ (by omega) (Array.getElem?_eq_some_iff.1 h.rbox).1).trans h.rbox, row_wrote3 hs hw h.row, wrow_wrote3 hs hw h.wrow, h.ok, h.haw, h.low⟩
theorem FDr.cell {w wr : World} {p fb b m : Nat} {aw : Option Addr} {nw cw : Nat} {ys : List Int} {ws : List WD} (h : FDr w wr p fb b m aw nw cw ys ws) : wr.cell? ⟨fb, 0, none⟩ = some (.slice (some ⟨b, 0, none⟩) m m) ∧ wr.cell? ⟨fb, 1, none⟩ = some (.slice aw nw cw) ∧ wr.frozen? ⟨fb, 0, none⟩ = false ∧ wr.frozen? ⟨fb, 1, none⟩ = false ∧ fb < wr.heap.size := by
  have hk := h.fbox
  refine ⟨by simp [World.cell?, hk], by simp [World.cell?, hk], by simp [World.frozen?, hk], by simp [World.frozen?, hk], (Array.getElem?_eq_some_iff.1 hk).1⟩
theorem FDr.cellR {w wr : World} {p fb b m : Nat} {aw : Option Addr} {nw cw : Nat} {ys : List Int} {ws : List WD} (h : FDr w wr p fb b m aw nw cw ys ws) : wr.cell? ⟨w.heap.size, 0, none⟩ = some (.slice none 0 0) ∧ wr.cell? ⟨w.heap.size, 1, none⟩ = some (.slice none 0 0) ∧ wr.frozen? ⟨w.heap.size, 0, none⟩ = false ∧ wr.frozen? ⟨w.heap.size, 1, none⟩ = false := by
  have hk := h.rbox
  refine ⟨by simp [World.cell?, hk], by simp [World.cell?, hk], by simp [World.frozen?, hk], by simp [World.frozen?, hk]⟩
theorem l02Write_draw (b n c : Nat) (aw : Option Addr) (nw cw at_ : Nat) (gd cd : Nat) (ds xs : List Int) (ws : List WD) (w : World) (hR : Row w (some ⟨b, 0, none⟩) n xs) (hW : WRow w aw nw ws) (hn : n ≤ 2048) (h16 : n % 16 = 0) (hnw : ws.length ≤ 1000) (hall : ∀ d ∈ ws, okW d = true) (hds : Row w (some ⟨gd, 0, none⟩) ds.length ds) (hl : ds.length ≤ 20) (hat : at_ ≤ 59) (haw : aw = none → nw = 0 ∧ cw = 0) :
    Calls Try.prog 79 #[fv (some ⟨b, 0, none⟩) n c aw nw cw, .int .i64 (at_ : Int), .slice (some ⟨gd, 0, none⟩) ds.length cd] w fun e w' => ∃ (aw' : Option Addr) (nw' cw' : Nat) (ws' : List WD), e = .returned (fv (some ⟨b, 0, none⟩) n c aw' nw' cw') ∧ WRow w' aw' nw' ws' ∧ (∀ d ∈ ws', okW d = true) ∧ ws'.length ≤ ws.length + 100 ∧ (aw' = none → nw' = 0 ∧ cw' = 0) ∧ Below w.heap.size w w' := by
  have hwl := hW.1
  by_cases h0 : ds.length = 0
  · rw [h0]
    refine (l02Write_none b 0 n c aw nw cw at_ (some ⟨gd, 0, none⟩) cd w).mono ?_
    rintro e w' ⟨rfl, hb⟩
    exact ⟨aw, nw, cw, ws, rfl, hW.below hb, hall, by omega, haw, hb⟩
  · refine (l02Write_some b 0 n c aw nw cw at_ gd 0 cd ds xs ws w hR hW hn h16 (by omega) hall hds (by omega) (by omega) haw).mono ?_
    rintro e w' ⟨g, cw', rfl, hW', hb⟩
    have hxl := hR.1
    have hbd := readD_bounds xs ws (by rw [hxl]; exact h16) (by rw [hxl]; exact hn) hall
    refine ⟨_, _, cw', writeD xs ws at_ ds, rfl, hW', fun d hd => ?_, ?_, (fun e => by cases e), hb⟩
    · rcases List.mem_append.1 hd with h | h
      · exact hall d h
      · exact newW_ok _ _ _ hbd.1 (by omega) d h
    · unfold writeD
      rw [List.length_append, newW_len]
      unfold touchN
      rw [if_neg h0]
      omega
theorem row_box {w : World} {ob : Nat} {a a' : Option Addr} {n c n' c' : Nat} {t : TypeId} {fr : Nat × Nat} {b : Option Addr} {m : Nat} {ys : List Int} (h : Row w b m ys) (hk : w.heap[ob]? = some (.cells #[.slice a n c, .slice a' n' c'] t fr)) (u v : Value) : Row ((w.setCell ⟨ob, 0, none⟩ u).setCell ⟨ob, 1, none⟩ v) b m ys := by
  refine ⟨h.1, fun j hj => ?_⟩
  obtain ⟨b3, o3, e3, c3⟩ := h.2 j hj
  have hb3 : b3 ≠ ob := fun e => by subst e; exact box_int hk c3
  exact ⟨b3, o3, e3, (World.cell?_of_block (w := w) (a := ⟨b3, o3 + j, none⟩) (by rw [Below.heap_setCell _ _ _ _ hb3, Below.heap_setCell _ _ _ _ hb3])).trans c3⟩
/-- Behind a write. -/
theorem FDr.next {w wr : World} {p fb b m : Nat} {aw : Option Addr} {nw cw : Nat} {ys : List Int} {ws : List WD} {aw' : Option Addr} {nw' cw' : Nat} {ws' : List WD} (h : FDr w wr p fb b m aw nw cw ys ws) (hW : WRow wr aw' nw' ws') (hok : ∀ d ∈ ws', okW d = true) (haw : aw' = none → nw' = 0 ∧ cw' = 0) :
    FDr w ((wr.setCell ⟨fb, 0, none⟩ (.slice (some ⟨b, 0, none⟩) m m)).setCell ⟨fb, 1, none⟩ (.slice aw' nw' cw')) p fb b m aw' nw' cw' ys ws' :=
  ⟨heap_set2 h.fbox, (by rw [Below.heap_setCell _ _ _ _ (by have := h.low; simp; omega), Below.heap_setCell _ _ _ _ (by have := h.low; simp; omega)]; exact h.rbox), row_box h.row h.fbox _ _, hW.box h.fbox _ _, hok, haw, h.low⟩
theorem wrote_set2 {p fb : Nat} {w w1 : World} (h : Wrote p w w1) (hb : w.heap.size ≤ fb) (u v : Value) : Wrote p w ((w1.setCell ⟨fb, 0, none⟩ u).setCell ⟨fb, 1, none⟩ v) :=
  ⟨h.os, h.tape, h.output, by simp [World.setCell]; exact h.size, fun k hk hl => by rw [Below.heap_setCell _ _ _ _ (by simp; omega), Below.heap_setCell _ _ _ _ (by simp; omega)]; exact h.block k hk hl⟩
theorem srcF_set2 {w : World} {p fb : Nat} {a : Option Addr} {n c : Nat} {xs : List Int} {t s : Int} (h : SrcF w p a n c xs t s) (hp : p ≠ fb) (ha : ∀ x, a = some x → 0 < n → x.block ≠ fb) (u v : Value) : SrcF ((w.setCell ⟨fb, 0, none⟩ u).setCell ⟨fb, 1, none⟩ v) p a n c xs t s :=
  h.of_blocks (by rw [Below.heap_setCell _ _ _ _ hp, Below.heap_setCell _ _ _ _ hp]) (fun x hx hn => by rw [Below.heap_setCell _ _ _ _ (ha x hx hn), Below.heap_setCell _ _ _ _ (ha x hx hn)])
set_option maxRecDepth 100000 in
set_option maxHeartbeats 4000000 in
theorem flash_draw (p : Nat) (a : Option Addr) (n c : Nat) (xs : List Int) (w : World) (s : Int) (h : SrcF w p a n c xs 0 s) :
    Calls Try.prog 56 #[.pointer (some ⟨p, 0, none⟩)] w fun e w' => ∃ (b m cb : Nat) (aw : Option Addr) (nw cw : Nat) (ys : List Int) (ws : List WD), e = .returned (fv (some ⟨b, 0, none⟩) m cb aw nw cw) ∧ Row w' (some ⟨b, 0, none⟩) m ys ∧ WRow w' aw nw ws ∧ okD m ws = true ∧ m ≤ cb ∧ cb ≤ maxLen ∧ Wrote p w w' := by
  obtain ⟨i0, hi, hz0, hz1, hz2⟩ := info_parts Try.infoU8
  have hp := cell_lt h.code
  have hac := hide (srcF_code h)
  have H := hide (fun o => h.below ((Below.refl _ _).alloc (Nat.le_refl _) o))
  clear h
  go_enter Try.func56, Try.ntmps56
  go_wp2_with fail
  refine (nextF_any p a n c xs 0 s 4 _ (unhide H _) (by omega) (by omega) (by omega)).mono ?_
  rintro e w1 ⟨rfl, hr0, hr1, ho1, hs1⟩
  generalize nextV xs 0 s 4 = r at *
  generalize (byteV xs 0 s).2 = s1 at *
  obtain ⟨r, rfl⟩ := Int.eq_ofNat_of_zero_le hr0
  have hz1' : w1.heap.size = w.heap.size + 1 := by rw [ho1.size]; simp
  have W1 := hide ((Wrote.alloc w p _).trans ho1.wrote)
  have rb : w1.heap[w.heap.size]? = some (.cells #[.slice none 0 0, .slice none 0 0] 50 (0, 0)) := by
    rw [ho1.block w.heap.size (by omega)]; exact heap_alloc_last _ _
  have S1 := hide hs1
  clear ho1 hs1 H
  have hsz1 : w.heap.size < w1.heap.size := by omega
  clear hz1'
  go_wp2_with (at_make; refine wpList_make_full _ rfl _ _ 22 rfl w1.heap.size 5 i0 (.int .u8 0) 1 Try.underlying22 hi hz0 hz1 _ _ _ _ (16 * r) rfl rfl (by go_num) rfl (by rw [hz2]; omega) (by unfold maxLen; omega) (Nat.le_refl _) ?_)
  intro w2 hown hgrow
  rw [toList_madeCells_one] at hown
  have hb2 : Below w1.heap.size w1 w2 := (Below.refl _ _).grown hgrow (Nat.le_refl _) (fun k hk => by cases hk)
  have R2 := hide (show Row w2 (some ⟨w1.heap.size, 0, none⟩) (16 * r) (List.replicate (16 * r) 0) from ⟨by simp, fun i hi => ⟨_, 0, rfl, by
    have := hown.cellAt i (by omega)
    rw [Nat.zero_add, this]
    simp [List.getD, hi]⟩⟩)
  have W2 := hide ((unhide W1).trans (Wrote.of_below hb2))
  have S2 := hide ((unhide S1).below hb2)
  have rb2 := (hb2.block w.heap.size hsz1).trans rb
  have s2 := hb2.size
  clear hown hgrow hb2 W1 S1 rb
  generalize hg1 : w1.heap.size = g1 at *
  clear hg1
  have b3 : Below w2.heap.size w2 (w2.alloc (.cells #[.slice (some ⟨g1, 0, none⟩) (16 * r) (16 * r), .slice none 0 0] 50)) := (Below.refl _ _).alloc (Nat.le_refl _) _
  have F3 := hide (show FDr w (w2.alloc (.cells #[.slice (some ⟨g1, 0, none⟩) (16 * r) (16 * r), .slice none 0 0] 50)) p w2.heap.size g1 (16 * r) none 0 0 (List.replicate (16 * r) 0) [] from ⟨heap_alloc_last _ _, (b3.block _ (by omega)).trans rb2, row_grow (unhide R2) b3, ⟨rfl, fun i hi => absurd hi (Nat.not_lt_zero _)⟩, fun d hd => (by cases hd), fun _ => ⟨rfl, rfl⟩, by omega⟩)
  have W3 := hide ((unhide W2).trans (Wrote.of_below b3))
  have S3 := hide ((unhide S2).below b3)
  have s3 : w2.heap.size < (w2.alloc (.cells #[.slice (some ⟨g1, 0, none⟩) (16 * r) (16 * r), .slice none 0 0] 50)).heap.size := by simp
  clear b3 R2 W2 S2 rb2
  go_wp2_with fail
  generalize hw3 : w2.alloc (.cells #[.slice (some ⟨g1, 0, none⟩) (16 * r) (16 * r), .slice none 0 0] 50) = w3 at *
  clear hw3
  generalize hfb : w2.heap.size = fb at *
  clear hfb
  refine (nextF_any p a n c xs (0 + 1) s1 4 w3 (unhide S3) (by omega) (by omega) (by omega)).mono ?_
  rintro e w4 ⟨rfl, hq0, hq1, ho4, hs4⟩
  generalize nextV xs (0 + 1) s1 4 = q at *
  generalize (byteV xs (0 + 1) s1).2 = s4 at *
  obtain ⟨q, rfl⟩ := Int.eq_ofNat_of_zero_le hq0
  have F4 := hide ((unhide F3).wrote (unhide S3) hp ho4.wrote)
  have W4 := hide ((unhide W3).trans ho4.wrote)
  have S4 := hide hs4
  clear F3 W3 S3 ho4 hs4
  go_wp2_with fail
  go_loopw [4] (fun i wr => ∃ (q : Nat) (aw : Option Addr) (nw cw : Nat) (ws : List WD) (t1 s1 : Int), i = .int .i64 (q : Int) ∧ q ≤ 3 ∧ ws.length + q * 100 ≤ 300 ∧ t1 ≤ 1000 - q * 100 ∧ Hid (FDr w wr p fb g1 (16 * r) aw nw cw (List.replicate (16 * r) 0) ws) ∧ Hid (Wrote p w wr) ∧ Hid (SrcF wr p a n c xs t1 s1)) (fun i _ => (intOf i).toNat)
  case atStart => exact ⟨q, none, 0, 0, [], 0 + 1 + 1, s4, rfl, by omega, by simp; omega, by omega, unhide F4, unhide W4, unhide S4⟩
  case round =>
    clear F4 W4 S4
    obtain ⟨q, aw, nw, cw, ws, t1, s5, rfl, hq3, hwl, ht1, hF, hW, hS⟩ := hrel
    by_cases hlt : 0 < q
    · have hSd := (unhide hS).below (bel_drewN (n := 1) (Below.refl _ _))
      have HN := hide (nextF_any p a n c xs t1 s5 60 wr.drew hSd (by omega) (by omega) (by omega))
      obtain ⟨x0, x1, f0, f1, hfl⟩ := (unhide hF).cell
      have hwl2 : ws.length ≤ 1000 := by omega
      have hpf : p < fb := by have := (unhide hF).low; omega
      have FD := hide (show FDr w wr.drew p fb g1 (16 * r) aw nw cw (List.replicate (16 * r) 0) ws from (unhide hF).below (bel_drewN (n := 1) (Below.refl _ _)))
      clear hSd
      go_wp2_with fail
      have SD := hide (show SrcF wr.drew p a n c xs t1 s5 from (unhide hS).below (bel_drewN (n := 1) (Below.refl _ _)))
      have h16r : 16 * r ≤ 2048 := by omega
      have h16m : 16 * r % 16 = 0 := by omega
      go_region_with (first
        | (go_at_call 67
           refine (unhide HN).mono ?_
           rintro e w5 ⟨rfl, hr50, hr51, ho5, hs5⟩
           have F5 := (unhide FD).wrote (unhide SD) hp ho5.wrote
           have y0 := F5.cell.1
           have y1 := F5.cell.2.1
           have hat : ((nextV xs t1 s5 60).toNat : Int) = nextV xs t1 s5 60 := Int.toNat_of_nonneg hr50)
        | (go_at_call 80
           refine (bytesF_any p a n c xs (t1 + 1) _ 20 w5 hs5 (by omega) (by omega) (by omega)).mono ?_
           rintro e w6 ⟨gd, cd, ds, rfl, hdl, hod, hdb, hw6, t6, s6, ht6, hs6⟩
           have F6 := F5.wrote hs5 hp hw6
           have z0 := F6.cell.1
           have z1 := F6.cell.2.1)
        | (go_at_call 79
           rw [← hat]
           refine (l02Write_draw g1 (16 * r) (16 * r) aw nw cw (nextV xs t1 s5 60).toNat gd cd ds _ ws w6 F6.row F6.wrow h16r h16m hwl2 F6.ok (row_of_owns hod) hdl (by omega) F6.haw).mono ?_
           rintro e w7 ⟨aw7, nw7, cw7, ws7, rfl, hW7, hok7, hl7, haw7, hb7⟩
           have F7 := F6.below hb7
           obtain ⟨v0, v1, e0, e1, hl77⟩ := F7.cell))
      all_goals
        have R := hide (F7.next hW7 hok7 haw7)
        have WW := hide (wrote_set2 (((unhide hW).trans ((show Wrote p wr w5 from ⟨ho5.os, ho5.tape, ho5.output, Nat.le_of_eq ho5.size.symm, fun k hk _ => ho5.block k hk⟩).trans hw6)).trans (Wrote.of_below hb7)) (show w.heap.size ≤ fb by have := F7.low; omega) (.slice (some ⟨g1, 0, none⟩) (16 * r) (16 * r)) (.slice aw7 nw7 cw7))
        have SS := hide (srcF_set2 (hs6.below hb7) (show p ≠ fb by omega) (fun x hx hn => by have := unhide hac x hx hn; have := F7.low; omega) (.slice (some ⟨g1, 0, none⟩) (16 * r) (16 * r)) (.slice aw7 nw7 cw7))
        clear F5 F6 F7 hs5 hs6 hw6 hb7 ho5 hod hW7 hok7 y0 y1 z0 z1
        go_wp2_with fail
        go_roundw
        case rel => exact ⟨q - 1, aw7, nw7, cw7, ws7, t6, s6, by go_num, by omega, by omega, by omega, unhide R, unhide WW, unhide SS⟩
        case measure => simp [intOf]; omega
    · obtain rfl : q = 0 := by omega
      obtain ⟨x0, x1, f0, f1, hfl⟩ := (unhide hF).cell
      obtain ⟨r0, r1, k0, k1⟩ := (unhide hF).cellR
      have hrl : w.heap.size < wr.heap.size := (Array.getElem?_eq_some_iff.1 (unhide hF).rbox).1
      have RW := hide (wrote_set2 (unhide hW) (Nat.le_refl _) (.slice (some ⟨g1, 0, none⟩) (16 * r) (16 * r)) (.slice aw nw cw))
      have RR := hide (row_box (unhide hF).row (unhide hF).rbox (.slice (some ⟨g1, 0, none⟩) (16 * r) (16 * r)) (.slice aw nw cw))
      have RWW := hide ((unhide hF).wrow.box (unhide hF).rbox (.slice (some ⟨g1, 0, none⟩) (16 * r) (16 * r)) (.slice aw nw cw))
      have OK := hide (show okD (16 * r) ws = true by
        rw [okD_all ⟨by omega, by omega, by omega⟩]
        exact all_of (fun i hi => (unhide hF).ok _ (List.getElem_mem hi)))
      clear hF hW hS
      go_wp2_with fail
      refine bodyPost_ret (v := fv (some ⟨g1, 0, none⟩) (16 * r) (16 * r) aw nw cw) (by simp [results, Try.results56, go_sem, r0, r1]) rfl ⟨g1, 16 * r, 16 * r, aw, nw, cw, _, ws, rfl, unhide RR, unhide RWW, unhide OK, Nat.le_refl _, by unfold maxLen; omega, unhide RW⟩
end Go.Proofs.Ytgifcaeemfaihaa
