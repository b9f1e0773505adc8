/-
  StLaw, FiK, FiP in one.
-/
import Derived.Test.YtocdbijmpecdgaaFiAll4
import Derived.Deep.RegionWith
import Derived.Deep.DeepCutAuto
import Derived.Deep.RegionHeld3
import Derived.BigQuiet
import Derived.ProofKit
import Derived.OpenShut
import Derived.ShutString
import Derived.ChangeOld
import Derived.Below
namespace Go.Proofs.Ytocdbijmpecdgaa
open Go.RowKit

/-- The box of an image. -/
structure IB (W : World) (B : Nat) (id : Int) (gone : Bool) (a : Option Addr) (n c : Nat) : Prop where
  c0 : W.cell? ⟨B, 0, none⟩ = some (.int .i64 id)
  c1 : W.cell? ⟨B, 1, none⟩ = some (.bool gone)
  c2 : W.cell? ⟨B, 2, none⟩ = some (.slice a n c)
theorem IB.new (w : World) (id : Int) (gone : Bool) (a : Option Addr) (n c : Nat) (t : TypeId) : IB (w.alloc (.cells #[.int .i64 id, .bool gone, .slice a n c] t)) w.heap.size id gone a n c := ⟨(cell_new rfl).trans rfl, (cell_new rfl).trans rfl, (cell_new rfl).trans rfl⟩
theorem IB.step {W W2 : World} {B : Nat} {id : Int} {gone : Bool} {a : Option Addr} {n c : Nat} (h : IB W B id gone a n c) (hb : Below W.heap.size W W2) : IB W2 B id gone a n c :=
  ⟨(hb.cell (p := ⟨B, 0, none⟩) (cell_lt h.c0)).trans h.c0, (hb.cell (p := ⟨B, 1, none⟩) (cell_lt h.c1)).trans h.c1, (hb.cell (p := ⟨B, 2, none⟩) (cell_lt h.c2)).trans h.c2⟩
theorem IB.band {S : Nat → Prop} {W W2 : World} {B : Nat} {id : Int} {gone : Bool} {a : Option Addr} {n c : Nat} (h : IB W B id gone a n c) (hb : Band S W W2) (hS : S B) : IB W2 B id gone a n c :=
  ⟨(hb.kept.cell (p := ⟨B, 0, none⟩) hS (cell_lt h.c0)).trans h.c0, (hb.kept.cell (p := ⟨B, 1, none⟩) hS (cell_lt h.c1)).trans h.c1, (hb.kept.cell (p := ⟨B, 2, none⟩) hS (cell_lt h.c2)).trans h.c2⟩
theorem Ow.base {w : World} {lo lo' hi : Nat} {a : Option Addr} (h : Ow w lo hi a) (hl : lo' ≤ lo) : Ow w lo' hi a := fun x hx => ⟨Nat.le_trans hl (h x hx).1, (h x hx).2⟩
theorem Ow.top {w : World} {lo hi hi' : Nat} {a : Option Addr} (h : Ow w lo hi a) (hl : hi ≤ hi') : Ow w lo hi' a := fun x hx => ⟨(h x hx).1, Nat.lt_of_lt_of_le (h x hx).2.1 hl, (h x hx).2.2⟩
/-- An image's bytes are marked, from any number on. -/
theorem markImage_k (S : Nat → Prop) (id : Int) (gone : Bool) (a : Option Addr) (n c k0 : Nat) (xs : List Int) (w : World) (hn : n ≤ 1048576) (hk : k0 ≤ 2000000000000) (h1 : Row w a n xs) (h2 : ∀ x, a = some x → x.block < w.heap.size ∧ ∀ j, w.frozen? ⟨x.block, j, none⟩ = false) (hS : ∀ x, a = some x → ¬ S x.block) :
    Calls Try.prog 41 #[iv id gone a n c, .int .i64 (k0 : Int)] w fun e w' => ∃ k : Nat, e = .returned (.int .i64 (k : Int)) ∧ Band S w w' := by
  have hb0 : ∀ o, Below w.heap.size w (w.alloc o) := fun o => (Below.refl _ _).alloc (Nat.le_refl _) _
  have HC := hide (fun o => markByteS_any a n c xs (k0 : Int) (w.alloc o) (by omega) (by omega) (by omega) (row_grow h1 (hb0 o)) (fun x hx j => ((hb0 o).frozen (p := ⟨x.block, j, none⟩) (h2 x hx).1).trans ((h2 x hx).2 j)))
  have H0 := hide hb0
  clear h1 h2 hb0
  go_enter Try.func41, Try.ntmps41
  go_wp2_with fail
  refine (unhide HC _).mono ?_
  rintro e w1 ⟨rfl, r1, t1⟩
  have hcast : (k0 : Int) + (n : Int) = ((k0 + n : Nat) : Int) := by omega
  rw [hcast]
  have B1 := hide ((Band.grow (S := S) (unhide H0 (.cells #[.int .i64 id, .bool gone, .slice a n c] 45))).trans (Band.touch t1 hS))
  clear HC H0 r1 t1 hcast
  go_wp2_with fail
  go_ret
  exact ⟨_, rfl, unhide B1⟩
theorem st_heap_lt {w : World} {b : Nat} {o : Obj} (h : w.heap[b]? = some o) : b < w.heap.size := (Array.getElem?_eq_some_iff.1 h).1
/-- A box of a device that has been made and not filled yet. -/
def FK (u : World) (B b : Nat) : Prop := B ≤ b ∧ u.heap[b]? = some (.cells #[.slice none 0 0, .slice none 0 0] 28 (0, 0))
theorem st_alloc {X u : World} {o : Obj} (hb : Below (X.alloc o).heap.size (X.alloc o) u) : u.heap[X.heap.size]? = some o := (hb.block X.heap.size (by simp)).trans (heap_alloc_last X o)
theorem st_allocD {X u : World} {o : Obj} (hb : Below (X.alloc o).drew.heap.size (X.alloc o).drew u) : u.heap[X.heap.size]? = some o := st_alloc (X := X) (o := o) ⟨hb.os, hb.tape, hb.output, hb.size, hb.block⟩
theorem fk_of {u : World} {B b : Nat} (h : u.heap[b]? = some (.cells #[.slice none 0 0, .slice none 0 0] 28 (0, 0))) (hB : B ≤ b) : FK u B b := ⟨hB, h⟩
theorem FK.ge {u : World} {B b : Nat} (h : FK u B b) : B ≤ b := h.1
theorem FK.step {u u' : World} {B b : Nat} (h : FK u B b) (hb : Below u.heap.size u u') : FK u' B b := ⟨h.1, (hb.block b (st_heap_lt h.2)).trans h.2⟩
theorem FK.cells {u : World} {B b : Nat} (h : FK u B b) : u.cell? ⟨b, 0, none⟩ = some (.slice none 0 0) ∧ u.cell? ⟨b, 1, none⟩ = some (.slice none 0 0) := by
  have := h.2
  exact ⟨by simp [World.cell?, this], by simp [World.cell?, this]⟩
theorem FK.free {u : World} {B b : Nat} (h : FK u B b) : u.frozen? ⟨b, 0, none⟩ = false ∧ u.frozen? ⟨b, 1, none⟩ = false := by
  have := h.2
  exact ⟨by simp [World.frozen?, this], by simp [World.frozen?, this]⟩
def FB (a : Option Addr) (i : Nat) : Prop := ∃ x, a = some x ∧ x.block = i
theorem fb_new {X u : World} {o : Obj} {hi : Nat} {a : Option Addr} (h : Ow u (X.alloc o).heap.size hi a) : ¬ FB a X.heap.size := fun ⟨x, hx, e⟩ => by
  have := (h x hx).1
  simp at this
  omega
theorem fb_newD {X u : World} {o : Obj} {hi : Nat} {a : Option Addr} (h : Ow u (X.alloc o).drew.heap.size hi a) : ¬ FB a X.heap.size := fb_new (X := X) (o := o) h
theorem fb_old {u u' : World} {B b hi : Nat} {a : Option Addr} (k : FK u B b) (h : Ow u' u.heap.size hi a) : ¬ FB a b := fun ⟨x, hx, e⟩ => by
  have := (h x hx).1
  have := st_heap_lt k.2
  omega
/-- What a region leaves that makes a device and its box. -/
def LeftF (w0 : World) (R : List Int) (C : Int) (v6 v7 : Value) (wc : World) : Prop :=
  ∃ b a c, v6 = .pointer (some ⟨b, 0, none⟩) ∧ v7 = .int .i64 C ∧ Bx wc b a R.length c none 0 0 ∧ Row wc a R.length R ∧ Ow wc w0.heap.size wc.heap.size a ∧ (w0.heap.size ≤ b ∧ b < wc.heap.size) ∧ Below w0.heap.size w0 wc
theorem leftF_last {w0 X : World} {R : List Int} {C : Int} {B c : Nat} {a : Option Addr} (hr : Row X a R.length R) (ho : Ow X B X.heap.size a) (hB : w0.heap.size ≤ B) (hb : Below w0.heap.size w0 X) : LeftF w0 R C (.pointer (some ⟨X.heap.size, 0, none⟩)) (.int .i64 C) (X.alloc (.cells #[.slice a R.length c, .slice none 0 0] 28)) :=
  have b : Below X.heap.size X (X.alloc (.cells #[.slice a R.length c, .slice none 0 0] 28)) := (Below.refl _ _).alloc (Nat.le_refl _) _
  ⟨_, a, c, rfl, rfl, Bx.new X a R.length c none 0 0 _, row_grow hr b, ((ho.step b).base hB).top b.size, ⟨hb.size, by simp⟩, hb.alloc hb.size _⟩
theorem st_set2 {w0 X : World} {b : Nat} (hb : Below w0.heap.size w0 X) (hg : w0.heap.size ≤ b) (v0 v1 : Value) : Below w0.heap.size w0 ((X.setCell ⟨b, 0, none⟩ v0).setCell ⟨b, 1, none⟩ v1) :=
  (hb.setCell (p := ⟨b, 0, none⟩) hg v0).setCell (p := ⟨b, 1, none⟩) hg v1
theorem leftF_box {w0 X : World} {R : List Int} {C : Int} {B b c : Nat} {a : Option Addr} (hk : FK X w0.heap.size b) (hn : ¬ FB a b) (hr : Row X a R.length R) (ho : Ow X B X.heap.size a) (hB : w0.heap.size ≤ B) (hb : Below w0.heap.size w0 X) : LeftF w0 R C (.pointer (some ⟨b, 0, none⟩)) (.int .i64 C) ((X.setCell ⟨b, 0, none⟩ (.slice a R.length c)).setCell ⟨b, 1, none⟩ (.slice none 0 0)) := by
  have hs : ((X.setCell ⟨b, 0, none⟩ (.slice a R.length c)).setCell ⟨b, 1, none⟩ (.slice none 0 0)).heap.size = X.heap.size := by simp [World.setCell]
  refine ⟨b, a, c, rfl, rfl, ⟨?_, ?_⟩, hr.of_cells fun x hx p hp => ?_, fun x hx => ?_, ⟨hk.1, by rw [hs]; exact st_heap_lt hk.2⟩, st_set2 hb hk.1 _ _⟩
  · rw [World.cell?_setCell_other _ _ _ _ (by intro e; injection e; omega)]
    exact World.cell?_setCell_same _ _ _ hk.cells.1
  · exact World.cell?_setCell_same _ _ _ ((World.cell?_setCell_other _ _ _ _ (by intro e; injection e; omega)).trans hk.cells.2)
  · have : p.block ≠ b := fun e => hn ⟨x, hx, by rw [← hp]; exact e⟩
    exact World.cell?_of_block (w := X) ((Below.heap_setCell _ _ _ _ this).trans (Below.heap_setCell _ _ _ _ this))
  · have h := ho x hx
    exact ⟨Nat.le_trans hB h.1, by rw [hs]; exact h.2.1, by rw [hs]; exact h.2.1, fun j => by rw [World.frozen?_setCell, World.frozen?_setCell]; exact h.2.2.2 j⟩
set_option maxRecDepth 100000 in
set_option maxHeartbeats 100000000 in
theorem store_law (ah : Option Addr) (nh ch : Nat) (aw : Option Addr) (nw cw : Nat) (xs : List Int) (ws : List WD) (id : Int) (gone : Bool) (ai : Option Addr) (ci : Nat) (ds : List Int) (w : World) (h0 : IsFlash8 w ah nh aw nw xs ws) (hi : IsImage w ai ds) :
    Calls Try.prog 6 #[fv ah nh ch aw nw cw, iv id gone ai ds.length ci] w fun e w' => e = .returned (.bool true) ∧ Below w.heap.size w w' := by
  obtain ⟨⟨hR, hnh, hW, hnw⟩, h8, h8w⟩ := h0
  obtain ⟨hI, hni, h8d⟩ := hi
  have E8 := hide h8
  have E8W := hide h8w
  have E8D := hide h8d
  have HR := hide hR
  have HW := hide hW
  have HI := hide hI
  have b0 : Below w.heap.size w (w.alloc (.cells #[.slice ah nh ch, .slice aw nw cw] 66)) := (Below.refl _ _).alloc (Nat.le_refl _) _
  have hz1 : (w.alloc (.cells #[.slice ah nh ch, .slice aw nw cw] 66)).heap.size = w.heap.size + 1 := by simp
  have b1 : Below (w.heap.size + 1) (w.alloc (.cells #[.slice ah nh ch, .slice aw nw cw] 66)) ((w.alloc (.cells #[.slice ah nh ch, .slice aw nw cw] 66)).alloc (.cells #[.int .i64 id, .bool gone, .slice ai ds.length ci] 67)) := (Below.refl _ _).alloc (by omega) _
  have B := hide (b0.trans (b1.mono (by omega)))
  have XF := hide ((Bx.new w ah nh ch aw nw cw 66).step (w2 := (w.alloc (.cells #[.slice ah nh ch, .slice aw nw cw] 66)).alloc (.cells #[.int .i64 id, .bool gone, .slice ai ds.length ci] 67)) ((Below.refl _ _).alloc (Nat.le_refl _) _))
  have XA : IB ((w.alloc (.cells #[.slice ah nh ch, .slice aw nw cw] 66)).alloc (.cells #[.int .i64 id, .bool gone, .slice ai ds.length ci] 67)) (w.heap.size + 1) id gone ai ds.length ci := by
    have := IB.new (w.alloc (.cells #[.slice ah nh ch, .slice aw nw cw] 66)) id gone ai ds.length ci 67
    rw [hz1] at this
    exact this
  replace XA := hide XA
  have z0 : ((w.alloc (.cells #[.slice ah nh ch, .slice aw nw cw] 66)).alloc (.cells #[.int .i64 id, .bool gone, .slice ai ds.length ci] 67)).heap.size = w.heap.size + 2 := by simp
  clear hR hW hI h8 h8w h8d b0 b1 hz1
  go_enter Try.func6, Try.ntmps6
  go_wp2_with fail
  generalize (w.alloc (.cells #[.slice ah nh ch, .slice aw nw cw] 66)).alloc (.cells #[.int .i64 id, .bool gone, .slice ai ds.length ci] 67) = W0 at *
  have zz : w.heap.size + 2 ≤ W0.heap.size := by omega
  clear z0
  refine (szFlash_any ah nh ch aw nw cw ws 1048576 _ (by omega) (by omega) hnh ((unhide HW).below (unhide B)) hnw).mono ?_
  rintro e w1 ⟨r, rfl, hr, hb⟩
  replace B := hide ((unhide B).trans (hb.mono (by omega)))
  replace XF := hide ((unhide XF).step hb)
  replace XA := hide ((unhide XA).step hb)
  have zz_w1 : W0.heap.size ≤ w1.heap.size := hb.size
  clear hb
  rcases hr with rfl | ⟨r0, r1, n1, n2, n3⟩
  · go_wp2_with fail
    go_ret
    exact ⟨rfl, unhide B⟩
  have N3 := hide (show ∀ i (hi : i < ws.length), ws[i].xs.length ≤ 1048576 from fun i hi => by have := n3 i hi; omega)
  clear n3
  have q0 := (unhide XA).c0
  have q1 := (unhide XA).c1
  have q2 := (unhide XA).c2
  have hnh2 : nh ≤ 1048576 := by omega
  have hnw2 : nw ≤ 1048576 := by omega
  go_wp2_with fail
  clear q0 q1 q2
  refine (szImage_any id gone ai ds.length ci r w1 r0 (by omega) hni).mono ?_
  rintro e w2 ⟨r', rfl, hr, hb⟩
  replace B := hide ((unhide B).trans (hb.mono (by omega)))
  replace XF := hide ((unhide XF).step hb)
  replace XA := hide ((unhide XA).step hb)
  have zz_w2 : w1.heap.size ≤ w2.heap.size := hb.size
  clear hb
  rcases hr with rfl | ⟨r0', r1', n1'⟩
  · go_wp2_with fail
    go_ret
    exact ⟨rfl, unhide B⟩
  have hnd : ds.length ≤ 1048576 := by omega
  obtain ⟨R, hR⟩ : ∃ x, x = stH xs ws id gone ds := ⟨_, rfl⟩
  obtain ⟨C, hC⟩ : ∃ x, x = stC xs ws id gone ds := ⟨_, rfl⟩
  have CON := hide (show ∀ W e W', StRes xs ws id gone ds W e W' → ∃ a c, e = .returned (.tuple #[fv a R.length c none 0 0, .int .i64 C]) ∧ (Row W' a R.length R ∧ Ow W' W.heap.size W'.heap.size a) ∧ Below W.heap.size W W' from fun W e W' h => by
    obtain ⟨a, c, e, m, b⟩ := h
    rw [← hR, ← hC] at e
    rw [← hR] at m
    exact ⟨a, c, e, m.ow, b⟩)
  have hRl : R.length ≤ 2048 := by rw [hR]; exact stH_len _ _ _ _ _
  have hq : (C != C) = false := by simp
  have hRm : R.length ≤ maxLen := by unfold maxLen; omega
  have hR1 : R.length ≤ 1048576 := by omega
  clear hR hC
  have CT := hide (fun (u : World) (hb : Below w2.heap.size w2 u) => (toFlash_any ah nh ch aw nw cw xs ws u hnh2 hnw2 (unhide N3) (row_grow (unhide HR) ((unhide B).trans (hb.mono (by omega)))) ((unhide HW).below ((unhide B).trans (hb.mono (by omega))))).mono fun e u' h => show ∃ bt ct gt, e = .returned (fv (some ⟨bt, 0, none⟩) nh ct (some ⟨gt, 0, none⟩) nw nw) ∧ FMine u' w2.heap.size (some ⟨bt, 0, none⟩) nh ct gt nw xs ws ∧ Below u.heap.size u u' ∧ Below w2.heap.size w2 u' by
    obtain ⟨a, c, gt, e, m, b⟩ := h
    obtain ⟨bt, rfl⟩ := m.1
    exact ⟨bt, c, gt, e, m.mono hb.size, b, hb.trans (b.mono hb.size)⟩)
  have CI := hide (fun (u : World) (hb : Below w2.heap.size w2 u) => (toImage_any id gone ai ci ds u hnd (row_grow (unhide HI) ((unhide B).trans (hb.mono (by omega))))).mono fun e u' h => show ∃ gi cj, e = .returned (iv id gone (some ⟨gi, 0, none⟩) ds.length cj) ∧ (Row u' (some ⟨gi, 0, none⟩) ds.length ds ∧ ds.length ≤ cj) ∧ Below u.heap.size u u' ∧ Below w2.heap.size w2 u' by
    obtain ⟨gi, cj, e, m, _, _, b⟩ := h
    exact ⟨gi, cj, e, ⟨(mine_row'' m).1, (mine_row'' m).2.2.1⟩, b, hb.trans (b.mono hb.size)⟩)
  have CX := hide (fun (u : World) (hb : Below w2.heap.size w2 u) (bt ct gt gi cj : Nat) (ho : FMine u w2.heap.size (some ⟨bt, 0, none⟩) nh ct gt nw xs ws) (hi : Row u (some ⟨gi, 0, none⟩) ds.length ds ∧ ds.length ≤ cj) => (specStore_any bt 0 nh ct (some ⟨gt, 0, none⟩) nw nw xs ws id gone gi 0 cj ds u ho.row ho.wrow hnh2 hnw2 (fun h => by cases h) (unhide E8) (unhide E8W) hi.1 hnd hi.2 (unhide E8D)).mono fun e u' hx => show ∃ a c, e = .returned (.tuple #[fv a R.length c none 0 0, .int .i64 C]) ∧ (Row u' a R.length R ∧ Ow u' u.heap.size u'.heap.size a) ∧ w2.heap.size ≤ u.heap.size ∧ Below u.heap.size u u' ∧ Below w2.heap.size w2 u' by
    obtain ⟨a, c, e, o, b⟩ := unhide CON _ _ _ hx
    exact ⟨a, c, e, o, hb.size, b, hb.trans (b.mono hb.size)⟩)
  go_upto_region 8 with fail
  go_cut [6, 7] (fun v6 v7 wc => LeftF w2 R C v6 v7 wc)
  case first =>
    have hb00 := Below.refl w2.heap.size w2
    have hbf : Below w2.heap.size w2 w2.drew := hb00.drew
    have SK := hide (show ∀ u, Below w2.heap.size w2 u → (fun u => Below w2.heap.size w2 u ∧ u.cell? ⟨w.heap.size, 0, none⟩ = some (.slice ah nh ch) ∧ u.cell? ⟨w.heap.size, 1, none⟩ = some (.slice aw nw cw) ∧ u.cell? ⟨w.heap.size + 1, 0, none⟩ = some (.int .i64 id) ∧ u.cell? ⟨w.heap.size + 1, 1, none⟩ = some (.bool gone) ∧ u.cell? ⟨w.heap.size + 1, 2, none⟩ = some (.slice ai ds.length ci)) u from fun u hb => by
      have h1 := (unhide XF).step hb
      have h2 := (unhide XA).step hb
      exact ⟨hb, h1.1, h1.2, h2.c0, h2.c1, h2.c2⟩)
    go_region_held3 (fun u => Below w2.heap.size w2 u ∧ u.cell? ⟨w.heap.size, 0, none⟩ = some (.slice ah nh ch) ∧ u.cell? ⟨w.heap.size, 1, none⟩ = some (.slice aw nw cw) ∧ u.cell? ⟨w.heap.size + 1, 0, none⟩ = some (.int .i64 id) ∧ u.cell? ⟨w.heap.size + 1, 1, none⟩ = some (.bool gone) ∧ u.cell? ⟨w.heap.size + 1, 2, none⟩ = some (.slice ai ds.length ci)) (with_reducible first | exact unhide SK _ hbf | exact unhide SK _ (hbf.alloc hbf.size _) | exact unhide SK _ (hb00.alloc hb00.size _).drew | exact unhide SK _ (bel_drewN (hb00.alloc hb00.size _) 1) | exact unhide SK _ (st_set2 hbf (unhide BK).ge _ _)) (first
      | (go_at_call 38; have zbf := hbf.size; refine (unhide CT _ (by first | (with_reducible exact hbf) | (with_reducible exact hbf.alloc hbf.size _) | (with_reducible exact (hb00.alloc hb00.size _).drew) | (with_reducible exact bel_drewN (hb00.alloc hb00.size _) 1))).mono ?_; rintro e wt ⟨bt, ct, gt, rfl, ot, hbu, hbf⟩; have OT := hide ot; clear ot; (first | ((with_reducible have hAl := st_alloc hbu); have BK := hide (fk_of (B := w2.heap.size) hAl zbf); clear hAl) | ((with_reducible have hAl := st_allocD hbu); have BK := hide (fk_of (B := w2.heap.size) hAl zbf); clear hAl) | (replace BK := hide ((unhide BK).step hbu)) | skip))
      | (go_at_call 39; have zbf := hbf.size; refine (unhide CI _ (by first | (with_reducible exact hbf) | (with_reducible exact hbf.alloc hbf.size _) | (with_reducible exact (hb00.alloc hb00.size _).drew) | (with_reducible exact bel_drewN (hb00.alloc hb00.size _) 1))).mono ?_; rintro e wi ⟨gi, cj, rfl, oi, hbu, hbf⟩; have OI := hide oi; clear oi; (first | ((with_reducible have hAl := st_alloc hbu); have BK := hide (fk_of (B := w2.heap.size) hAl zbf); clear hAl) | ((with_reducible have hAl := st_allocD hbu); have BK := hide (fk_of (B := w2.heap.size) hAl zbf); clear hAl) | (replace BK := hide ((unhide BK).step hbu)) | skip); (first | (with_reducible replace OT := hide ((unhide OT).below hbu)) | (replace OT := hide (((unhide OT).below ((Below.refl _ _).alloc (Nat.le_refl _) _)).below hbu)) | skip))
      | (go_at_call 37; have zbf := hbf.size; (refine (unhide CX _ (by first | (with_reducible exact hbf) | (with_reducible exact hbf.alloc hbf.size _) | (with_reducible exact (hb00.alloc hb00.size _).drew) | (with_reducible exact bel_drewN (hb00.alloc hb00.size _) 1)) bt ct gt gi cj (by first | (with_reducible exact unhide OT) | exact (unhide OT).below ((Below.refl _ _).alloc (Nat.le_refl _) _)) (by first | (with_reducible exact unhide OI) | exact ⟨row_grow (unhide OI).1 ((Below.refl _ _).alloc (Nat.le_refl _) _), (unhide OI).2⟩)).mono ?_); (rintro e w10 ⟨a10, c10, rfl, o10, hle, hbu, hbf⟩); ((first | (with_reducible have NBK := hide (fb_new o10.2)) | (with_reducible have NBK := hide (fb_newD o10.2)) | (have NBK := hide (fb_old (unhide BK) o10.2)) | skip)); ((first | ((with_reducible have hAl := st_alloc hbu); have BK := hide (fk_of (B := w2.heap.size) hAl zbf); clear hAl; obtain ⟨y0, y1⟩ := (unhide BK).cells; obtain ⟨f0, f1⟩ := (unhide BK).free) | ((with_reducible have hAl := st_allocD hbu); have BK := hide (fk_of (B := w2.heap.size) hAl zbf); clear hAl; obtain ⟨y0, y1⟩ := (unhide BK).cells; obtain ⟨f0, f1⟩ := (unhide BK).free) | (replace BK := hide ((unhide BK).step hbu); obtain ⟨y0, y1⟩ := (unhide BK).cells; obtain ⟨f0, f1⟩ := (unhide BK).free) | skip)); (have O10 := hide o10; clear o10)))
    all_goals
      go_wp2_with fail
      go_meet
      case rel => first | (with_reducible exact leftF_box (unhide BK) (unhide NBK) (unhide O10).1 (unhide O10).2 hle hbf) | exact leftF_last (unhide O10).1 (unhide O10).2 hle hbf
  case rest =>
    clear CT CI CX
    obtain ⟨b_w, a_w, c_w, rfl, rfl, hX, hZ, hO, ⟨hb1, hb2⟩, hb⟩ := hcut
    obtain ⟨w_w, hwr⟩ : ∃ x : World, x = wc := ⟨_, rfl⟩
    rw [← hwr] at hX hZ hO hb2 hb ⊢
    clear hwr
    replace B := hide ((unhide B).trans (hb.mono (by omega)))
    replace XF := hide ((unhide XF).step hb)
    replace XA := hide ((unhide XA).step hb)
    have zz_w_w : w2.heap.size ≤ w_w.heap.size := hb.size
    clear hb
    have X_w := hide hX
    have Z_w := hide hZ
    have O_w := hide hO
    clear hX hZ hO
    have l1_w := hb1
    have l2_w := hb2
    clear hb1 hb2
    have p0 := (unhide XF).1
    have p1 := (unhide XF).2
    go_wp2_with fail
    clear p0 p1
    refine (toFlash_any ah nh ch aw nw cw xs ws w_w hnh2 hnw2 (unhide N3) (row_grow (unhide HR) (unhide B)) ((unhide HW).below (unhide B))).mono ?_
    rintro e w6 ⟨ah6, ch6, g6, rfl, hF6, hb⟩
    replace B := hide ((unhide B).trans (hb.mono (by omega)))
    replace XF := hide ((unhide XF).step hb)
    replace XA := hide ((unhide XA).step hb)
    replace X_w := hide ((unhide X_w).step hb)
    replace Z_w := hide (row_grow (unhide Z_w) hb)
    replace O_w := hide ((unhide O_w).step hb)
    have zz_w6 : w_w.heap.size ≤ w6.heap.size := hb.size
    clear hb
    have FX := hide hF6.fin
    have M6 := hide (mine_row'' hF6.2.2.2.1)
    clear hF6
    have hb : Below w6.heap.size w6 (w6.alloc (.cells #[.slice ah6 nh ch6, .slice (some ⟨g6, 0, none⟩) nw nw] 28)) := (Below.refl _ _).alloc (Nat.le_refl _) _
    have XX := hide (Bx.new w6 ah6 nh ch6 (some ⟨g6, 0, none⟩) nw nw 28)
    have hz : (w6.alloc (.cells #[.slice ah6 nh ch6, .slice (some ⟨g6, 0, none⟩) nw nw] 28)).heap.size = w6.heap.size + 1 := by simp
    replace B := hide ((unhide B).trans (hb.mono (by omega)))
    replace XF := hide ((unhide XF).step hb)
    replace XA := hide ((unhide XA).step hb)
    replace X_w := hide ((unhide X_w).step hb)
    replace Z_w := hide (row_grow (unhide Z_w) hb)
    replace O_w := hide ((unhide O_w).step hb)
    replace FX := hide ((unhide FX).below hb)
    clear hb
    have q0 := (unhide XA).c0
    have q1 := (unhide XA).c1
    have q2 := (unhide XA).c2
    go_wp2_with fail
    clear q0 q1 q2
    generalize w6.alloc (.cells #[.slice ah6 nh ch6, .slice (some ⟨g6, 0, none⟩) nw nw] 28) = w7 at *
    have zz_w7 : w6.heap.size < w7.heap.size := by omega
    clear hz
    refine (toImage_any id gone ai ci ds w7 hnd (row_grow (unhide HI) (unhide B))).mono ?_
    rintro e w8 ⟨g8, c8, rfl, hM, _, _, hb⟩
    replace B := hide ((unhide B).trans (hb.mono (by omega)))
    replace XF := hide ((unhide XF).step hb)
    replace XA := hide ((unhide XA).step hb)
    replace X_w := hide ((unhide X_w).step hb)
    replace Z_w := hide (row_grow (unhide Z_w) hb)
    replace O_w := hide ((unhide O_w).step hb)
    replace FX := hide ((unhide FX).below hb)
    replace XX := hide ((unhide XX).step hb)
    have zz_w8 : w7.heap.size ≤ w8.heap.size := hb.size
    clear hb
    obtain ⟨z8, _, hc8, _, _⟩ := mine_row'' hM
    have Z_i := hide z8
    have O_i := hide hM.ow.2
    clear hM z8
    have hb : Below w8.heap.size w8 (w8.alloc (.cells #[.int .i64 id, .bool gone, .slice (some ⟨g8, 0, none⟩) ds.length c8] 45)) := (Below.refl _ _).alloc (Nat.le_refl _) _
    have X_i := hide (IB.new w8 id gone (some ⟨g8, 0, none⟩) ds.length c8 45)
    have hz : (w8.alloc (.cells #[.int .i64 id, .bool gone, .slice (some ⟨g8, 0, none⟩) ds.length c8] 45)).heap.size = w8.heap.size + 1 := by simp
    replace B := hide ((unhide B).trans (hb.mono (by omega)))
    replace XF := hide ((unhide XF).step hb)
    replace XA := hide ((unhide XA).step hb)
    replace X_w := hide ((unhide X_w).step hb)
    replace Z_w := hide (row_grow (unhide Z_w) hb)
    replace O_w := hide ((unhide O_w).step hb)
    replace FX := hide ((unhide FX).below hb)
    replace XX := hide ((unhide XX).step hb)
    replace Z_i := hide (row_grow (unhide Z_i) hb)
    replace O_i := hide ((unhide O_i).step hb)
    clear hb
    have x0 := (unhide XX).1
    have x1 := (unhide XX).2
    have y0 := (unhide X_i).c0
    have y1 := (unhide X_i).c1
    have y2 := (unhide X_i).c2
    go_wp2_with fail
    clear x0 x1 y0 y1 y2
    generalize w8.alloc (.cells #[.int .i64 id, .bool gone, .slice (some ⟨g8, 0, none⟩) ds.length c8] 45) = w9 at *
    have zz_w9 : w8.heap.size < w9.heap.size := by omega
    clear hz
    have HI2 := hide (fun (a : Option Addr) (c g b cj : Nat) (x : World) (h1 : Row x a nh xs) (h2 : WRow x (some ⟨g, 0, none⟩) nw ws) (h3 : nh ≤ c) (h4 : c ≤ maxLen) (h5 : Row x (some ⟨b, 0, none⟩) ds.length ds) (h6 : ds.length ≤ cj) => implStore_any a nh c (some ⟨g, 0, none⟩) nw nw xs ws id gone b 0 cj ds x h1 h2 hnh2 hnw2 h3 h4 (unhide E8) (unhide E8W) h5 hnd h6 (unhide E8D))
    refine (unhide HI2 ah6 ch6 g6 g8 c8 w9 (unhide FX).mine.row (unhide FX).mine.wrow (unhide M6).2.2.1 (unhide M6).2.2.2.1 (unhide Z_i) hc8).mono ?_
    intro e w10 hcon
    obtain ⟨a_g, c_g, rfl, ⟨z10, o10⟩, hb⟩ := unhide CON _ _ _ hcon
    clear hcon M6
    replace B := hide ((unhide B).trans (hb.mono (by omega)))
    replace XF := hide ((unhide XF).step hb)
    replace XA := hide ((unhide XA).step hb)
    replace X_w := hide ((unhide X_w).step hb)
    replace Z_w := hide (row_grow (unhide Z_w) hb)
    replace O_w := hide ((unhide O_w).step hb)
    replace FX := hide ((unhide FX).below hb)
    replace XX := hide ((unhide XX).step hb)
    replace Z_i := hide (row_grow (unhide Z_i) hb)
    replace O_i := hide ((unhide O_i).step hb)
    replace X_i := hide ((unhide X_i).step hb)
    have zz_w10 : w9.heap.size ≤ w10.heap.size := hb.size
    clear hb
    have Z_g := hide z10
    have O_g := hide o10
    clear z10 o10
    have hb : Below w10.heap.size w10 (w10.alloc (.cells #[.slice a_g R.length c_g, .slice none 0 0] 28)) := (Below.refl _ _).alloc (Nat.le_refl _) _
    have X_g := hide (Bx.new w10 a_g R.length c_g none 0 0 28)
    have hz : (w10.alloc (.cells #[.slice a_g R.length c_g, .slice none 0 0] 28)).heap.size = w10.heap.size + 1 := by simp
    replace B := hide ((unhide B).trans (hb.mono (by omega)))
    replace XF := hide ((unhide XF).step hb)
    replace XA := hide ((unhide XA).step hb)
    replace X_w := hide ((unhide X_w).step hb)
    replace Z_w := hide (row_grow (unhide Z_w) hb)
    replace O_w := hide ((unhide O_w).step hb)
    replace FX := hide ((unhide FX).below hb)
    replace XX := hide ((unhide XX).step hb)
    replace Z_i := hide (row_grow (unhide Z_i) hb)
    replace O_i := hide ((unhide O_i).step hb)
    replace X_i := hide ((unhide X_i).step hb)
    replace Z_g := hide (row_grow (unhide Z_g) hb)
    replace O_g := hide ((unhide O_g).step hb)
    clear hb
    have u0 := (unhide X_w).1
    have u1 := (unhide X_w).2
    have v0 := (unhide X_g).1
    have v1 := (unhide X_g).2
    go_wp2_with fail
    clear u0 u1 v0 v1
    generalize w10.alloc (.cells #[.slice a_g R.length c_g, .slice none 0 0] 28) = w11 at *
    have zz_w11 : w10.heap.size < w11.heap.size := by omega
    clear hz
    refine (eqFlash_any a_g a_w R.length c_g c_w none none 0 0 0 R [] w11 hRm (by unfold maxLen; omega) (unhide Z_g) (unhide Z_w) (wrow_nil _) (wrow_nil _)).mono ?_
    rintro e w12 ⟨rfl, hb⟩
    replace B := hide ((unhide B).trans (hb.mono (by omega)))
    replace XF := hide ((unhide XF).step hb)
    replace XA := hide ((unhide XA).step hb)
    replace X_w := hide ((unhide X_w).step hb)
    replace Z_w := hide (row_grow (unhide Z_w) hb)
    replace O_w := hide ((unhide O_w).step hb)
    replace FX := hide ((unhide FX).below hb)
    replace XX := hide ((unhide XX).step hb)
    replace Z_i := hide (row_grow (unhide Z_i) hb)
    replace O_i := hide ((unhide O_i).step hb)
    replace X_i := hide ((unhide X_i).step hb)
    replace Z_g := hide (row_grow (unhide Z_g) hb)
    replace O_g := hide ((unhide O_g).step hb)
    replace X_g := hide ((unhide X_g).step hb)
    have zz_w12 : w11.heap.size ≤ w12.heap.size := hb.size
    clear hb
    go_upto_region 14 with fail
    go_cut [58] (fun v wc => v = .bool false ∧ Below w12.heap.size w12 wc)
    case first =>
      have x0 := (unhide XX).1
      have x1 := (unhide XX).2
      have RWx := hide (row_grow (unhide HR) (unhide B))
      have WWx := hide ((unhide HW).below (unhide B))
      have p0 := (unhide XF).1
      have p1 := (unhide XF).2
      go_region_with (first
        | (go_at_call 38
           (first | refine (toFlash_any ah nh ch aw nw cw xs ws w12.drew hnh2 hnw2 (unhide N3) (unhide RWx) (unhide WWx)).mono ?_ | refine (toFlash_any ah nh ch aw nw cw xs ws w12 hnh2 hnw2 (unhide N3) (unhide RWx) (unhide WWx)).mono ?_)
           rintro e wa ⟨aha, cha, ga, rfl, hFa, hba⟩
           replace hba : Below w12.heap.size w12 wa := ⟨hba.os, hba.tape, hba.output, hba.size, hba.block⟩
           have y0 := ((unhide XX).step hba).1
           have y1 := ((unhide XX).step hba).2)
        | (go_at_call 28
           refine (eqFlash_any ah6 aha nh ch6 cha _ _ nw nw nw xs ws wa hnh hnw (row_grow (unhide FX).mine.row hba) hFa.row ((unhide FX).mine.wrow.below hba) hFa.wrow).mono ?_
           rintro e wb ⟨rfl, hbb⟩))
      all_goals
        have hbc : Below w12.heap.size w12 wb := hba.trans (hbb.mono hba.size)
        clear hba hbb hFa
        go_wp2_with fail
        go_meet
        case rel => exact ⟨rfl, hbc⟩
    case rest =>
      obtain ⟨rfl, hb⟩ := hcut
      obtain ⟨w13, hwr⟩ : ∃ x : World, x = wc := ⟨_, rfl⟩
      rw [← hwr] at hb ⊢
      clear hwr
      replace B := hide ((unhide B).trans (hb.mono (by omega)))
      replace XF := hide ((unhide XF).step hb)
      replace XA := hide ((unhide XA).step hb)
      replace X_w := hide ((unhide X_w).step hb)
      replace Z_w := hide (row_grow (unhide Z_w) hb)
      replace O_w := hide ((unhide O_w).step hb)
      replace FX := hide ((unhide FX).below hb)
      replace XX := hide ((unhide XX).step hb)
      replace Z_i := hide (row_grow (unhide Z_i) hb)
      replace O_i := hide ((unhide O_i).step hb)
      replace X_i := hide ((unhide X_i).step hb)
      replace Z_g := hide (row_grow (unhide Z_g) hb)
      replace O_g := hide ((unhide O_g).step hb)
      replace X_g := hide ((unhide X_g).step hb)
      have zz_w13 : w12.heap.size ≤ w13.heap.size := hb.size
      clear hb
      go_upto_region 16 with fail
      go_cut [63] (fun v wc => v = .bool false ∧ Below w13.heap.size w13 wc)
      case first =>
        have x0 := (unhide X_i).c0
        have x1 := (unhide X_i).c1
        have x2 := (unhide X_i).c2
        have RWx := hide (row_grow (unhide HI) (unhide B))
        have q0 := (unhide XA).c0
        have q1 := (unhide XA).c1
        have q2 := (unhide XA).c2
        go_region_with (first
          | (go_at_call 39
             (first | refine (toImage_any id gone ai ci ds w13.drew hnd (unhide RWx)).mono ?_ | refine (toImage_any id gone ai ci ds w13 hnd (unhide RWx)).mono ?_)
             rintro e wa ⟨ga, ca, rfl, hFa, _, _, hba⟩
             replace hba : Below w13.heap.size w13 wa := ⟨hba.os, hba.tape, hba.output, hba.size, hba.block⟩
             have y0 := ((unhide X_i).step hba).c0
             have y1 := ((unhide X_i).step hba).c1
             have y2 := ((unhide X_i).step hba).c2)
          | (go_at_call 40
             refine (eqImage_any id gone (some ⟨g8, 0, none⟩) (some ⟨ga, 0, none⟩) ds.length c8 ca ds wa hni (row_grow (unhide Z_i) hba) (mine_row'' hFa).1).mono ?_
             rintro e wb ⟨rfl, hbb⟩))
        all_goals
          have hbc : Below w13.heap.size w13 wb := hba.trans (hbb.mono hba.size)
          clear hba hbb hFa
          go_wp2_with fail
          go_meet
          case rel => exact ⟨rfl, hbc⟩
      case rest =>
        obtain ⟨rfl, hb⟩ := hcut
        obtain ⟨w14, hwr⟩ : ∃ x : World, x = wc := ⟨_, rfl⟩
        rw [← hwr] at hb ⊢
        clear hwr
        replace B := hide ((unhide B).trans (hb.mono (by omega)))
        replace XF := hide ((unhide XF).step hb)
        replace XA := hide ((unhide XA).step hb)
        replace X_w := hide ((unhide X_w).step hb)
        replace Z_w := hide (row_grow (unhide Z_w) hb)
        replace O_w := hide ((unhide O_w).step hb)
        replace FX := hide ((unhide FX).below hb)
        replace XX := hide ((unhide XX).step hb)
        replace Z_i := hide (row_grow (unhide Z_i) hb)
        replace O_i := hide ((unhide O_i).step hb)
        replace X_i := hide ((unhide X_i).step hb)
        replace Z_g := hide (row_grow (unhide Z_g) hb)
        replace O_g := hide ((unhide O_g).step hb)
        replace X_g := hide ((unhide X_g).step hb)
        have zz_w14 : w13.heap.size ≤ w14.heap.size := hb.size
        clear hb
        have x0 := (unhide XX).1
        have x1 := (unhide XX).2
        go_wp2_with fail
        clear x0 x1
        refine (markFlash_any w_w.heap.size w6.heap.size ah6 nh ch6 g6 nw nw xs ws w14 hnh2 hnw2 (unhide N3) (unhide FX) (by omega)).mono ?_
        rintro e w15 ⟨k15, rfl, hB, hk15⟩
        clear FX
        replace B := hide ((unhide B).trans (hB.below (by omega) (fun k hk => by omega)))
        replace XF := hide ((unhide XF).band hB (by omega))
        replace XA := hide ((unhide XA).band hB (by omega))
        replace X_w := hide ((unhide X_w).band hB (by omega))
        replace Z_w := hide (hB.row (unhide Z_w) (unhide O_w) (fun k h1 h2 => by omega))
        replace O_w := hide ((unhide O_w).band hB (fun k h1 h2 => by omega))
        replace XX := hide ((unhide XX).band hB (by omega))
        replace Z_i := hide (hB.row (unhide Z_i) (unhide O_i) (fun k h1 h2 => by omega))
        replace O_i := hide ((unhide O_i).band hB (fun k h1 h2 => by omega))
        replace X_i := hide ((unhide X_i).band hB (by omega))
        replace Z_g := hide (hB.row (unhide Z_g) (unhide O_g) (fun k h1 h2 => by omega))
        replace O_g := hide ((unhide O_g).band hB (fun k h1 h2 => by omega))
        replace X_g := hide ((unhide X_g).band hB (by omega))
        have zz_w15 : w14.heap.size ≤ w15.heap.size := hB.kept.1
        clear hB
        clear XX
        have y0 := (unhide X_i).c0
        have y1 := (unhide X_i).c1
        have y2 := (unhide X_i).c2
        go_wp2_with fail
        clear y0 y1 y2
        refine (markImage_k (fun b => b < w7.heap.size ∨ w8.heap.size ≤ b) id gone (some ⟨g8, 0, none⟩) ds.length c8 k15 ds w15 hnd hk15 (unhide Z_i) (fun x hx => ⟨(unhide O_i x hx).2.2.1, (unhide O_i x hx).2.2.2⟩) (fun x hx => by have := unhide O_i x hx; omega)).mono ?_
        rintro e w16 ⟨k16, rfl, hB⟩
        clear Z_i O_i X_i
        replace B := hide ((unhide B).trans (hB.below (by omega) (fun k hk => by omega)))
        replace XF := hide ((unhide XF).band hB (by omega))
        replace XA := hide ((unhide XA).band hB (by omega))
        replace X_w := hide ((unhide X_w).band hB (by omega))
        replace Z_w := hide (hB.row (unhide Z_w) (unhide O_w) (fun k h1 h2 => by omega))
        replace O_w := hide ((unhide O_w).band hB (fun k h1 h2 => by omega))
        replace Z_g := hide (hB.row (unhide Z_g) (unhide O_g) (fun k h1 h2 => by omega))
        replace O_g := hide ((unhide O_g).band hB (fun k h1 h2 => by omega))
        replace X_g := hide ((unhide X_g).band hB (by omega))
        have zz_w16 : w15.heap.size ≤ w16.heap.size := hB.kept.1
        clear hB
        have u0 := (unhide X_w).1
        have u1 := (unhide X_w).2
        have v0 := (unhide X_g).1
        have v1 := (unhide X_g).2
        go_wp2_with fail
        clear u0 u1 v0 v1
        refine (eqFlash_any a_g a_w R.length c_g c_w none none 0 0 0 R [] w16 hRm (by unfold maxLen; omega) (unhide Z_g) (unhide Z_w) (wrow_nil _) (wrow_nil _)).mono ?_
        rintro e w17 ⟨rfl, hb⟩
        replace B := hide ((unhide B).trans (hb.mono (by omega)))
        replace XF := hide ((unhide XF).step hb)
        replace XA := hide ((unhide XA).step hb)
        replace X_w := hide ((unhide X_w).step hb)
        replace Z_w := hide (row_grow (unhide Z_w) hb)
        replace O_w := hide ((unhide O_w).step hb)
        replace Z_g := hide (row_grow (unhide Z_g) hb)
        replace O_g := hide ((unhide O_g).step hb)
        replace X_g := hide ((unhide X_g).step hb)
        have zz_w17 : w16.heap.size ≤ w17.heap.size := hb.size
        clear hb
        have v0 := (unhide X_g).1
        have v1 := (unhide X_g).2
        go_wp2_with fail
        clear v0 v1
        refine (markFlash0_any (fun b => b < w9.heap.size ∨ w10.heap.size ≤ b) a_g R.length c_g 1 R w17 hR1 (by omega) (unhide Z_g) (fun x hx => ⟨(unhide O_g x hx).2.2.1, (unhide O_g x hx).2.2.2⟩) (fun x hx => by have := unhide O_g x hx; omega)).mono ?_
        rintro e w18 ⟨rfl, r18, hB⟩
        replace B := hide ((unhide B).trans (hB.below (by omega) (fun k hk => by omega)))
        replace XF := hide ((unhide XF).band hB (by omega))
        replace XA := hide ((unhide XA).band hB (by omega))
        replace X_w := hide ((unhide X_w).band hB (by omega))
        replace Z_w := hide (hB.row (unhide Z_w) (unhide O_w) (fun k h1 h2 => by omega))
        replace O_w := hide ((unhide O_w).band hB (fun k h1 h2 => by omega))
        replace X_g := hide ((unhide X_g).band hB (by omega))
        have zz_w18 : w17.heap.size ≤ w18.heap.size := hB.kept.1
        clear hB
        replace Z_g := hide r18
        clear r18 O_g
        have v0 := (unhide X_g).1
        have v1 := (unhide X_g).2
        go_wp2_with fail
        clear v0 v1
        refine (heldFlash0_any a_g R.length c_g 1 w18 hR1 (by omega) (unhide Z_g)).mono ?_
        rintro e w19 ⟨rfl, hb⟩
        replace B := hide ((unhide B).trans (hb.mono (by omega)))
        replace XF := hide ((unhide XF).step hb)
        replace XA := hide ((unhide XA).step hb)
        replace X_w := hide ((unhide X_w).step hb)
        replace Z_w := hide (row_grow (unhide Z_w) hb)
        replace O_w := hide ((unhide O_w).step hb)
        replace Z_g := hide (row_grow (unhide Z_g) hb)
        replace X_g := hide ((unhide X_g).step hb)
        have zz_w19 : w18.heap.size ≤ w19.heap.size := hb.size
        clear hb
        have CT := hide (fun (u : World) (hb : Below w19.heap.size w19 u) => (toFlash_any ah nh ch aw nw cw xs ws u hnh2 hnw2 (unhide N3) (row_grow (unhide HR) ((unhide B).trans (hb.mono (by omega)))) ((unhide HW).below ((unhide B).trans (hb.mono (by omega))))).mono fun e u' h => show ∃ bt ct gt, e = .returned (fv (some ⟨bt, 0, none⟩) nh ct (some ⟨gt, 0, none⟩) nw nw) ∧ FMine u' w19.heap.size (some ⟨bt, 0, none⟩) nh ct gt nw xs ws ∧ Below u.heap.size u u' ∧ Below w19.heap.size w19 u' by
          obtain ⟨a, c, gt, e, m, b⟩ := h
          obtain ⟨bt, rfl⟩ := m.1
          exact ⟨bt, c, gt, e, m.mono hb.size, b, hb.trans (b.mono hb.size)⟩)
        have CI := hide (fun (u : World) (hb : Below w19.heap.size w19 u) => (toImage_any id gone ai ci ds u hnd (row_grow (unhide HI) ((unhide B).trans (hb.mono (by omega))))).mono fun e u' h => show ∃ gi cj, e = .returned (iv id gone (some ⟨gi, 0, none⟩) ds.length cj) ∧ (Row u' (some ⟨gi, 0, none⟩) ds.length ds ∧ ds.length ≤ cj) ∧ Below u.heap.size u u' ∧ Below w19.heap.size w19 u' by
          obtain ⟨gi, cj, e, m, _, _, b⟩ := h
          exact ⟨gi, cj, e, ⟨(mine_row'' m).1, (mine_row'' m).2.2.1⟩, b, hb.trans (b.mono hb.size)⟩)
        have CX := hide (fun (u : World) (hb : Below w19.heap.size w19 u) (bt ct gt gi cj : Nat) (ho : FMine u w19.heap.size (some ⟨bt, 0, none⟩) nh ct gt nw xs ws) (hi : Row u (some ⟨gi, 0, none⟩) ds.length ds ∧ ds.length ≤ cj) => (unhide HI2 (some ⟨bt, 0, none⟩) ct gt gi cj u ho.row ho.wrow (mine_row'' ho.2.2.2.1).2.2.1 (mine_row'' ho.2.2.2.1).2.2.2.1 hi.1 hi.2).mono fun e u' hx => show ∃ a c, e = .returned (.tuple #[fv a R.length c none 0 0, .int .i64 C]) ∧ (Row u' a R.length R ∧ Ow u' u.heap.size u'.heap.size a) ∧ w19.heap.size ≤ u.heap.size ∧ Below u.heap.size u u' ∧ Below w19.heap.size w19 u' by
          obtain ⟨a, c, e, o, b⟩ := unhide CON _ _ _ hx
          exact ⟨a, c, e, o, hb.size, b, hb.trans (b.mono hb.size)⟩)
        go_upto_region 31 with fail
        go_cut [15, 16] (fun v6 v7 wc => LeftF w19 R C v6 v7 wc)
        case first =>
          have hb00 := Below.refl w19.heap.size w19
          have hbf : Below w19.heap.size w19 w19.drew := hb00.drew
          have SK := hide (show ∀ u, Below w19.heap.size w19 u → (fun u => Below w19.heap.size w19 u ∧ u.cell? ⟨w.heap.size, 0, none⟩ = some (.slice ah nh ch) ∧ u.cell? ⟨w.heap.size, 1, none⟩ = some (.slice aw nw cw) ∧ u.cell? ⟨w.heap.size + 1, 0, none⟩ = some (.int .i64 id) ∧ u.cell? ⟨w.heap.size + 1, 1, none⟩ = some (.bool gone) ∧ u.cell? ⟨w.heap.size + 1, 2, none⟩ = some (.slice ai ds.length ci)) u from fun u hb => by
            have h1 := (unhide XF).step hb
            have h2 := (unhide XA).step hb
            exact ⟨hb, h1.1, h1.2, h2.c0, h2.c1, h2.c2⟩)
          go_region_held3 (fun u => Below w19.heap.size w19 u ∧ u.cell? ⟨w.heap.size, 0, none⟩ = some (.slice ah nh ch) ∧ u.cell? ⟨w.heap.size, 1, none⟩ = some (.slice aw nw cw) ∧ u.cell? ⟨w.heap.size + 1, 0, none⟩ = some (.int .i64 id) ∧ u.cell? ⟨w.heap.size + 1, 1, none⟩ = some (.bool gone) ∧ u.cell? ⟨w.heap.size + 1, 2, none⟩ = some (.slice ai ds.length ci)) (with_reducible first | exact unhide SK _ hbf | exact unhide SK _ (hbf.alloc hbf.size _) | exact unhide SK _ (hb00.alloc hb00.size _).drew | exact unhide SK _ (bel_drewN (hb00.alloc hb00.size _) 1) | exact unhide SK _ (st_set2 hbf (unhide BK).ge _ _)) (first
            | (go_at_call 38; have zbf := hbf.size; refine (unhide CT _ (by first | (with_reducible exact hbf) | (with_reducible exact hbf.alloc hbf.size _) | (with_reducible exact (hb00.alloc hb00.size _).drew) | (with_reducible exact bel_drewN (hb00.alloc hb00.size _) 1))).mono ?_; rintro e wt ⟨bt, ct, gt, rfl, ot, hbu, hbf⟩; have OT := hide ot; clear ot; (first | ((with_reducible have hAl := st_alloc hbu); have BK := hide (fk_of (B := w19.heap.size) hAl zbf); clear hAl) | ((with_reducible have hAl := st_allocD hbu); have BK := hide (fk_of (B := w19.heap.size) hAl zbf); clear hAl) | (replace BK := hide ((unhide BK).step hbu)) | skip))
            | (go_at_call 39; have zbf := hbf.size; refine (unhide CI _ (by first | (with_reducible exact hbf) | (with_reducible exact hbf.alloc hbf.size _) | (with_reducible exact (hb00.alloc hb00.size _).drew) | (with_reducible exact bel_drewN (hb00.alloc hb00.size _) 1))).mono ?_; rintro e wi ⟨gi, cj, rfl, oi, hbu, hbf⟩; have OI := hide oi; clear oi; (first | ((with_reducible have hAl := st_alloc hbu); have BK := hide (fk_of (B := w19.heap.size) hAl zbf); clear hAl) | ((with_reducible have hAl := st_allocD hbu); have BK := hide (fk_of (B := w19.heap.size) hAl zbf); clear hAl) | (replace BK := hide ((unhide BK).step hbu)) | skip); (first | (with_reducible replace OT := hide ((unhide OT).below hbu)) | (replace OT := hide (((unhide OT).below ((Below.refl _ _).alloc (Nat.le_refl _) _)).below hbu)) | skip))
            | (go_at_call 16; have zbf := hbf.size; (refine (unhide CX _ (by first | (with_reducible exact hbf) | (with_reducible exact hbf.alloc hbf.size _) | (with_reducible exact (hb00.alloc hb00.size _).drew) | (with_reducible exact bel_drewN (hb00.alloc hb00.size _) 1)) bt ct gt gi cj (by first | (with_reducible exact unhide OT) | exact (unhide OT).below ((Below.refl _ _).alloc (Nat.le_refl _) _)) (by first | (with_reducible exact unhide OI) | exact ⟨row_grow (unhide OI).1 ((Below.refl _ _).alloc (Nat.le_refl _) _), (unhide OI).2⟩)).mono ?_); (rintro e w10 ⟨a10, c10, rfl, o10, hle, hbu, hbf⟩); ((first | (with_reducible have NBK := hide (fb_new o10.2)) | (with_reducible have NBK := hide (fb_newD o10.2)) | (have NBK := hide (fb_old (unhide BK) o10.2)) | skip)); ((first | ((with_reducible have hAl := st_alloc hbu); have BK := hide (fk_of (B := w19.heap.size) hAl zbf); clear hAl; obtain ⟨y0, y1⟩ := (unhide BK).cells; obtain ⟨f0, f1⟩ := (unhide BK).free) | ((with_reducible have hAl := st_allocD hbu); have BK := hide (fk_of (B := w19.heap.size) hAl zbf); clear hAl; obtain ⟨y0, y1⟩ := (unhide BK).cells; obtain ⟨f0, f1⟩ := (unhide BK).free) | (replace BK := hide ((unhide BK).step hbu); obtain ⟨y0, y1⟩ := (unhide BK).cells; obtain ⟨f0, f1⟩ := (unhide BK).free) | skip)); (have O10 := hide o10; clear o10)))
          all_goals
            go_wp2_with fail
            go_meet
            case rel => first | (with_reducible exact leftF_box (unhide BK) (unhide NBK) (unhide O10).1 (unhide O10).2 hle hbf) | exact leftF_last (unhide O10).1 (unhide O10).2 hle hbf
        case rest =>
          clear CT CI CX
          obtain ⟨b_h, a_h, c_h, rfl, rfl, hX, hZ, hO, ⟨hb1, hb2⟩, hb⟩ := hcut
          obtain ⟨w_h, hwr⟩ : ∃ x : World, x = wc := ⟨_, rfl⟩
          rw [← hwr] at hX hZ hO hb2 hb ⊢
          clear hwr
          replace B := hide ((unhide B).trans (hb.mono (by omega)))
          replace XF := hide ((unhide XF).step hb)
          replace XA := hide ((unhide XA).step hb)
          replace X_w := hide ((unhide X_w).step hb)
          replace Z_w := hide (row_grow (unhide Z_w) hb)
          replace O_w := hide ((unhide O_w).step hb)
          replace Z_g := hide (row_grow (unhide Z_g) hb)
          replace X_g := hide ((unhide X_g).step hb)
          have zz_w_h : w19.heap.size ≤ w_h.heap.size := hb.size
          clear hb
          have X_h := hide hX
          have Z_h := hide hZ
          have O_h := hide hO
          clear hX hZ hO
          have l1_h := hb1
          have l2_h := hb2
          clear hb1 hb2
          have u0 := (unhide X_w).1
          have u1 := (unhide X_w).2
          have v0 := (unhide X_h).1
          have v1 := (unhide X_h).2
          go_wp2_with fail
          clear u0 u1 v0 v1
          refine (eqFlash_any a_h a_w R.length c_h c_w none none 0 0 0 R [] w_h hRm (by unfold maxLen; omega) (unhide Z_h) (unhide Z_w) (wrow_nil _) (wrow_nil _)).mono ?_
          rintro e w22 ⟨rfl, hb⟩
          replace B := hide ((unhide B).trans (hb.mono (by omega)))
          replace XF := hide ((unhide XF).step hb)
          replace XA := hide ((unhide XA).step hb)
          replace X_w := hide ((unhide X_w).step hb)
          replace Z_w := hide (row_grow (unhide Z_w) hb)
          replace O_w := hide ((unhide O_w).step hb)
          replace Z_g := hide (row_grow (unhide Z_g) hb)
          replace X_g := hide ((unhide X_g).step hb)
          replace X_h := hide ((unhide X_h).step hb)
          replace Z_h := hide (row_grow (unhide Z_h) hb)
          replace O_h := hide ((unhide O_h).step hb)
          have zz_w22 : w_h.heap.size ≤ w22.heap.size := hb.size
          clear hb
          have v0 := (unhide X_g).1
          have v1 := (unhide X_g).2
          go_wp2_with fail
          clear v0 v1
          refine (heldFlash0_any a_g R.length c_g 1 w22 hR1 (by omega) (unhide Z_g)).mono ?_
          rintro e w23 ⟨rfl, hb⟩
          replace B := hide ((unhide B).trans (hb.mono (by omega)))
          clear hb
          go_wp2_with fail
          go_ret
          exact ⟨rfl, unhide B⟩
end Go.Proofs.Ytocdbijmpecdgaa

namespace Go.Proofs.Ytocdbijmpecdgaa
open Go.RowKit

/-- Bytes appended to a row of the call's own, and where it lies then. -/
theorem fi_app {w : World} {B g so c m gv n cv : Nat} {xs ys : List Int} (h : Owns w B (.slice (some ⟨gv, 0, none⟩) n cv) xs) (hr : Row w (some ⟨g, so, none⟩) m ys) (hz : xs.length + m ≤ 100000) (hm : 0 < m) (hB : B ≤ w.heap.size) :
    ∃ gn cn w', (Builtin.append_ #[22, 22] 22 #[.slice (some ⟨gv, 0, none⟩) n cv, .slice (some ⟨g, so, none⟩) m c]).run Try.prog w = .ok (.slice (some ⟨gn, 0, none⟩) (xs ++ ys).length cn) w' ∧ Owns w' B (.slice (some ⟨gn, 0, none⟩) (xs ++ ys).length cn) (xs ++ ys) ∧ w.grownBy w' (some gv) ∧ (gn = gv ∨ gn = w.heap.size) := by
  obtain ⟨i0, hi0, hz0, hz1, hz2⟩ := info_parts Try.infoU8
  obtain rfl := hr.1
  have hs : ∀ j u, (ys.map (Value.int .u8))[j]? = some u → w.cell? ((⟨g, so, none⟩ : Addr).add j) = some u := fun j u hu => by
    have hj : j < ys.length := by simpa using (List.getElem?_eq_some_iff.1 hu).1
    obtain ⟨b', off', e, hc⟩ := hr.2 j hj
    cases e
    have e2 : (⟨g, so, none⟩ : Addr).add j = ⟨g, so + j, none⟩ := by unfold Addr.add; split <;> simp_all
    rw [e2, hc]
    rw [List.getElem?_map] at hu
    rw [← hu]
    simp [List.getD, hj]
  obtain ⟨v', w', hrun, ho, hg, hv, hloc⟩ := app_at (P := Try.prog) (w := w) (B := B) 22 22 5 Try.underlying22 hi0 hz0 hz1 hz2 rfl (by decide) h ⟨g, so, none⟩ ys.length c (ys.map (Value.int .u8)) (by simp) hs (all_u8 _) (by unfold maxLen; omega) (by omega) hB (fun _ => by omega)
  have ho' : Owns w' B v' (xs ++ ys) := by
    unfold Owns
    rw [List.length_append, List.map_append]
    exact ho
  obtain ⟨gn, cn, rfl, _, _, _, _⟩ := owns_form ho' hv
  exact ⟨gn, cn, w', hrun, ho', hg, by simpa [Value.ownBlock] using hloc⟩
/-- The device that images are stored on, in its box p, and all bytes so far. -/
structure FiSt (w1 W : World) (p gv cv : Nat) (d R : List Int) (a : Option Addr) (m c : Nat) : Prop where
  bel : Below w1.heap.size w1 W
  low : w1.heap.size ≤ p
  box : Bx W p a m c none 0 0
  kind : ∃ cur, W.heap[p]? = some (.cells cur 28 (0, 0))
  row : Row W a m R
  cap : m ≤ c ∧ c ≤ maxLen ∧ (m = 0 → a = none ∧ c = 0)
  far : ∀ x, a = some x → p < x.block ∧ x.block < W.heap.size ∧ gv ≠ x.block
  own : Owns W (p + 1) (.slice (some ⟨gv, 0, none⟩) d.length cv) d
theorem FiSt.step {w1 W W2 : World} {p gv cv : Nat} {d R : List Int} {a : Option Addr} {m c : Nat} (h : FiSt w1 W p gv cv d R a m c) (hb : Below W.heap.size W W2) : FiSt w1 W2 p gv cv d R a m c := by
  obtain ⟨cur, hk⟩ := h.kind
  exact ⟨h.bel.trans (hb.mono h.bel.size), h.low, h.box.step hb, ⟨cur, (hb.block p (st_heap_lt hk)).trans hk⟩, row_grow h.row hb, h.cap, fun x hx => ⟨(h.far x hx).1, Nat.lt_of_lt_of_le (h.far x hx).2.1 hb.size, (h.far x hx).2.2⟩, owns_below h.own hb⟩
theorem FiSt.free {w1 W : World} {p gv cv : Nat} {d R : List Int} {a : Option Addr} {m c : Nat} (h : FiSt w1 W p gv cv d R a m c) (j : Nat) : W.frozen? ⟨p, j, none⟩ = false := by
  obtain ⟨cur, hk⟩ := h.kind
  simp [World.frozen?, hk]
theorem FiSt.gv {w1 W : World} {p gv cv : Nat} {d R : List Int} {a : Option Addr} {m c : Nat} (h : FiSt w1 W p gv cv d R a m c) : p < gv ∧ gv < W.heap.size := by
  have := World.ownsRow.lt h.own gv rfl
  omega
theorem FiSt.set {w1 W : World} {p gv cv : Nat} {d R R' : List Int} {a a' : Option Addr} {m c m' c' : Nat} (h : FiSt w1 W p gv cv d R a m c) (hr : Row W a' m' R') (hc : m' ≤ c' ∧ c' ≤ maxLen ∧ (m' = 0 → a' = none ∧ c' = 0)) (hf : ∀ x, a' = some x → p < x.block ∧ x.block < W.heap.size ∧ gv ≠ x.block) :
    FiSt w1 ((W.setCell ⟨p, 0, none⟩ (.slice a' m' c')).setCell ⟨p, 1, none⟩ (.slice none 0 0)) p gv cv d R' a' m' c' := by
  have hs : ((W.setCell ⟨p, 0, none⟩ (.slice a' m' c')).setCell ⟨p, 1, none⟩ (.slice none 0 0)).heap.size = W.heap.size := by simp [World.setCell]
  have bl : ∀ k, k ≠ p → ((W.setCell ⟨p, 0, none⟩ (.slice a' m' c')).setCell ⟨p, 1, none⟩ (.slice none 0 0)).heap[k]? = W.heap[k]? := fun k hk => (Below.heap_setCell _ _ _ _ hk).trans (Below.heap_setCell _ _ _ _ hk)
  have hg := h.gv
  obtain ⟨cur, hk⟩ := h.kind
  obtain ⟨cur1, hk1⟩ := setCell_kind (o := 0) (v := .slice a' m' c') hk
  refine ⟨(h.bel.setCell (p := ⟨p, 0, none⟩) h.low _).setCell (p := ⟨p, 1, none⟩) h.low _, h.low, ⟨?_, ?_⟩, setCell_kind hk1, hr.of_cells fun x hx q hq => ?_, hc, fun x hx => ?_, ?_⟩
  · rw [World.cell?_setCell_other _ _ _ _ (by intro e; injection e; omega)]
    exact World.cell?_setCell_same _ _ _ h.box.1
  · exact World.cell?_setCell_same _ _ _ ((World.cell?_setCell_other _ _ _ _ (by intro e; injection e; omega)).trans h.box.2)
  · have := hf x hx
    exact World.cell?_of_block (w := W) (bl _ (by omega))
  · rw [hs]; exact hf x hx
  · exact World.ownsRow.kept (row := some p) h.own ⟨rfl, rfl, rfl, by rw [hs]; exact Nat.le_refl _, fun i _ hne => bl i (fun e => hne (by rw [e]))⟩ (.inr fun e => absurd (show gv = p by simpa [Value.ownBlock] using e) (by omega))
theorem FiSt.app {w1 W W' : World} {p gv cv gn cn : Nat} {d d' R : List Int} {a : Option Addr} {m c : Nat} (h : FiSt w1 W p gv cv d R a m c) (hg : W.grownBy W' (some gv)) (ho : Owns W' (p + 1) (.slice (some ⟨gn, 0, none⟩) d'.length cn) d') (hl : gn = gv ∨ gn = W.heap.size) : FiSt w1 W' p gn cn d' R a m c := by
  have hv := h.gv
  have hlow := h.low
  have bl : ∀ k, k < W.heap.size → k ≠ gv → W'.heap[k]? = W.heap[k]? := fun k hk hne => hg.block k hk (fun e => hne (by injection e))
  obtain ⟨cur, hk⟩ := h.kind
  have hp := st_heap_lt hk
  have ep := bl p hp (by omega)
  refine ⟨h.bel.grown hg h.bel.size (fun k hk => by injection hk; omega), h.low, ⟨(World.cell?_of_block (w := W) (a := ⟨p, 0, none⟩) ep).trans h.box.1, (World.cell?_of_block (w := W) (a := ⟨p, 1, none⟩) ep).trans h.box.2⟩, ⟨cur, ep.trans hk⟩, h.row.of_cells fun x hx q hq => ?_, h.cap, fun x hx => ?_, ho⟩
  · have := h.far x hx
    exact World.cell?_of_block (w := W) (by rw [hq]; exact bl _ this.2.1 (by omega))
  · have := h.far x hx
    have h2 := hg.size
    refine ⟨this.1, by omega, ?_⟩
    rcases hl with e | e <;> omega
/-- What storing one image leaves. -/
def LeftG (w0 : World) (R : List Int) (v6 v7 : Value) (wc : World) : Prop :=
  ∃ b a c, v6 = .pointer (some ⟨b, 0, none⟩) ∧ v7 = .int .i64 0 ∧ Bx wc b a R.length c none 0 0 ∧ Row wc a R.length R ∧ (R.length ≤ c ∧ c ≤ maxLen) ∧ Ow wc w0.heap.size wc.heap.size a ∧ Below w0.heap.size w0 wc
theorem leftG_of {w0 wc : World} {R : List Int} {v6 v7 : Value} {b c : Nat} {a : Option Addr} (hc : R.length ≤ c ∧ c ≤ maxLen) (h : LeftF w0 R 0 v6 v7 wc) (hb : Bx wc b a R.length c none 0 0) (hv : v6 = .pointer (some ⟨b, 0, none⟩)) : LeftG w0 R v6 v7 wc := by
  obtain ⟨b', a', c', h1, h2, h3, h4, h5, h6, h7⟩ := h
  rw [hv] at h1
  injection h1 with h1
  injection h1 with h1
  injection h1 with h1
  subst h1
  have e1 := h3.1.symm.trans hb.1
  injection e1 with e1
  injection e1 with e1 e2 e3
  subst e1 e3
  exact ⟨b, a', c', hv, h2, hb, h4, hc, h5, h7⟩
theorem leftG_last {w0 X : World} {R : List Int} {B c : Nat} {a : Option Addr} (hc : R.length ≤ c ∧ c ≤ maxLen) (hr : Row X a R.length R) (ho : Ow X B X.heap.size a) (hB : w0.heap.size ≤ B) (hb : Below w0.heap.size w0 X) : LeftG w0 R (.pointer (some ⟨X.heap.size, 0, none⟩)) (.int .i64 0) (X.alloc (.cells #[.slice a R.length c, .slice none 0 0] 28)) :=
  leftG_of hc (leftF_last hr ho hB hb) (Bx.new X a R.length c none 0 0 _) rfl
theorem leftG_box {w0 X : World} {R : List Int} {B b c : Nat} {a : Option Addr} (hk : FK X w0.heap.size b) (hn : ¬ FB a b) (hc : R.length ≤ c ∧ c ≤ maxLen) (hr : Row X a R.length R) (ho : Ow X B X.heap.size a) (hB : w0.heap.size ≤ B) (hb : Below w0.heap.size w0 X) : LeftG w0 R (.pointer (some ⟨b, 0, none⟩)) (.int .i64 0) ((X.setCell ⟨b, 0, none⟩ (.slice a R.length c)).setCell ⟨b, 1, none⟩ (.slice none 0 0)) := by
  refine leftG_of (a := a) hc (leftF_box hk hn hr ho hB hb) ⟨?_, ?_⟩ rfl
  · rw [World.cell?_setCell_other _ _ _ _ (by intro e; injection e; omega)]
    exact World.cell?_setCell_same _ _ _ hk.cells.1
  · exact World.cell?_setCell_same _ _ _ ((World.cell?_setCell_other _ _ _ _ (by intro e; injection e; omega)).trans hk.cells.2)
theorem pad_pos {d : List Int} (h : 0 < d.length) : 0 < (padB d).length := by
  have := (fillN_ge 0 d.length).2
  rw [padB_len]
  omega
theorem pad_room2 (d : List Int) : (padB d).length ≤ d.length + 15 := by
  rw [padB_len]
  unfold fillN
  split <;> omega
theorem flat_pos (L : List ImD) (x : ImD) : 0 < (flatI (L ++ [x])).length := by
  rw [flatI_snoc, List.length_append, ImD.by_len]
  omega
theorem flat_small (hs : List ImG) (h : ∀ i (hi : i < hs.length), gOK hs[i])   : (flatI (hs.map (·.X))).length ≤ 29 * hs.length := by
  have key : ∀ l : List ImG, (∀ x ∈ l, x.X.xs.length ≤ 20) → (flatI (l.map (·.X))).length ≤ 29 * l.length := by
    intro l
    induction l with
    | nil => intro _; simp [flatI]
    | cons x l ih =>
      intro hx
      have h1 := ih (fun y hy => hx y (List.mem_cons_of_mem _ hy))
      have h2 := hx x (List.mem_cons_self ..)
      have e : flatI ((x :: l).map (·.X)) = x.X.by ++ flatI (l.map (·.X)) := rfl
      rw [e, List.length_append, ImD.by_len]
      simp only [List.length_cons]
      omega
  exact key hs (fun x hx => by obtain ⟨i, hi, rfl⟩ := List.getElem_of_mem hx; exact (h i hi).2.2)
theorem flat_bytes {L : List ImD} (h : ∀ x ∈ L, x.ok = true ∧ Bytes8 x.xs) : Bytes8 (flatI L) := by
  rw [bytes8_mem]
  intro y hy
  obtain ⟨x, hx, hy⟩ := List.mem_flatMap.1 hy
  obtain ⟨h1, h2⟩ := h x hx
  obtain ⟨g0, g1, g2, _⟩ := of_decide_eq_true h1
  exact bytes8_mem.1 (imgL_bytes (gone := x.gone) h2 g0 (by omega) (by omega)) y hy
theorem pad_bytes {d : List Int} (h : Bytes8 d) : Bytes8 (padB d) := by
  rw [bytes8_mem] at h ⊢
  intro y hy
  rcases List.mem_append.1 hy with hy | hy
  · exact h y hy
  · rw [List.eq_of_mem_replicate hy]
    omega
theorem ok_pad {d : List Int} (h : d.length ≤ 2048) : okD (padB d).length [] = true := by
  have h1 := pad16 d
  have h2 : (padB d).length ≤ 2048 := by rw [padB_len]; unfold fillN; split <;> omega
  unfold okD
  simp [h1, h2]
theorem laS_pad {L : List ImD} (hok : ∀ x ∈ L, x.ok = true) (h : (flatI L).length ≤ 2048) : laS (padB (flatI L)) [] = L := by
  unfold laS
  rw [if_pos (ok_pad h), show readD (padB (flatI L)) [] = padB (flatI L) from rfl, scan_pad L hok]
theorem rdC_pad {d : List Int} (h : d.length ≤ 2048) : rdC (padB d) [] = 0 := by
  unfold rdC
  rw [if_pos (ok_pad h)]
set_option maxRecDepth 100000 in
set_option maxHeartbeats 100000000 in
theorem fnImages_law (a1 : Option Addr) (n1 c1 : Nat) (zs1 : List Int) (w : World) (h1 : IsRow .u8 w a1 n1 c1 zs1) :
    Calls Try.prog 4 #[.slice a1 n1 c1] w fun e w' => e = .returned (.bool true) ∧ Below w.heap.size w w' := by
  obtain ⟨hr1, hm1, _⟩ := row_of_isRow h1
  have hby1 := bytes_of_isRow h1
  clear h1
  unfold maxLen at hm1
  by_cases hbig : 1048576 < n1
  · go_enter Try.func4, Try.ntmps4
    go_wp2_with fail
    go_ret
    exact ⟨rfl, Below.refl _ _⟩
  have HIO := hide (imagesOf_any a1 n1 c1 _ w hr1 hby1 (by omega))
  clear hr1 hby1
  go_enter Try.func4, Try.ntmps4
  go_wp2_with fail
  refine (unhide HIO).mono ?_
  rintro e w1 ⟨al, cl, hs, rfl, hG, hl9, hb1⟩
  have GS := hide hG
  have B1 := hide hb1
  have HOK := hide hG.ok
  have FS := hide (flat_small hs hG.ok)
  clear hG hb1 HIO
  obtain ⟨n, hn⟩ : ∃ n, n = hs.length := ⟨_, rfl⟩
  rw [← hn] at GS hl9 ⊢
  have HN := hide hn
  clear hn
  have hzl : (w1.alloc (.cells #[.slice none 0 0, .slice none 0 0] 28)).heap.size = w1.heap.size + 1 := by simp
  have S0 := hide (show FiSt w1 ((w1.alloc (.cells #[.slice none 0 0, .slice none 0 0] 28)).alloc (.cells #[] 5)) w1.heap.size (w1.heap.size + 1) 0 [] (padB []) none 0 0 from
    ⟨((Below.refl _ _).alloc (Nat.le_refl _) _).alloc (by simp) _, Nat.le_refl _, (Bx.new w1 none 0 0 none 0 0 _).step ((Below.refl _ _).alloc (Nat.le_refl _) _), ⟨_, (((Below.refl (w1.heap.size + 1) (w1.alloc (.cells #[.slice none 0 0, .slice none 0 0] 28))).alloc (by omega) (.cells #[] 5)).block w1.heap.size (by omega)).trans (heap_alloc_last _ _)⟩, ⟨rfl, fun i hi => absurd hi (Nat.not_lt_zero _)⟩, ⟨Nat.le_refl _, by unfold maxLen; omega, fun _ => ⟨rfl, rfl⟩⟩, fun x hx => (by cases hx), by
      have := World.ownsRow_lit (base := w1.heap.size + 1) (e := 5) (size := 1) (w1.alloc (.cells #[.slice none 0 0, .slice none 0 0] 28)) #[] 0 (by simp) (by unfold maxLen; simp) rfl
      unfold Owns
      simpa using this⟩)
  clear hzl
  go_wp2_with fail
  generalize w1.heap.size = p at *
  go_loopw [5, 6] (fun v i wr => ∃ (k gv cv m c : Nat) (a : Option Addr) (d : List Int), k ≤ n ∧ i = .int .i64 (k : Int) ∧ v = .slice (some ⟨gv, 0, none⟩) d.length cv ∧ Hid (d = flatI ((hs.take k).map (·.X))) ∧ Hid (FiSt w1 wr p gv cv d (padB d) a m c)) (fun _ i _ => n - (intOf i).toNat)
  case atStart => exact ⟨0, p + 1, 0, 0, 0, none, [], Nat.zero_le _, rfl, rfl, rfl, unhide S0⟩
  case round =>
    clear S0
    obtain ⟨k, gv, cv, m, c, a, d, hk, rfl, rfl, hd, hST⟩ := hrel
    by_cases hlt : k < n
    · have hkh : k < hs.length := by rw [← unhide HN]; exact hlt
      have hG := (unhide GS).below (unhide hST).bel
      obtain ⟨b, off, ha, x0, x1, x2⟩ := hG.row.2 k (by simpa using hkh)
      subst ha
      have DT := hide (hG.dat k hkh)
      have OK := hide (hG.ok k hkh)
      have FT : flatI ((hs.take (k + 1)).map (·.X)) = flatI ((hs.take k).map (·.X) ++ [hs[k].X]) := by rw [List.take_succ_eq_append_getElem hkh, List.map_append]; rfl
      have hroom : (flatI ((hs.take k).map (·.X) ++ [hs[k].X])).length ≤ 2048 := by
        rw [← FT]
        have h1 : (flatI ((hs.take (k + 1)).map (·.X))).length ≤ (flatI (hs.map (·.X))).length := by
          have e : flatI (hs.map (·.X)) = flatI ((hs.take (k + 1)).map (·.X)) ++ flatI ((hs.drop (k + 1)).map (·.X)) := by
            have := congrArg (fun l : List ImG => flatI (l.map (·.X))) (List.take_append_drop (k + 1) hs).symm
            simp only [List.map_append, flatI, List.flatMap_append] at this ⊢
            exact this
          rw [e, List.length_append]
          omega
        have h2 := unhide FS
        have h3 := unhide HN
        omega
      have SS := hide (show stC (padB d) [] hs[k].X.id hs[k].X.gone hs[k].X.xs = 0 ∧ stH (padB d) [] hs[k].X.id hs[k].X.gone hs[k].X.xs = padB (d ++ imgL hs[k].X.id hs[k].X.gone hs[k].X.xs) from by
        have q := store_step ((hs.take k).map (·.X)) hs[k].X (fun y hy => by
          obtain ⟨q, hq, rfl⟩ := List.mem_map.1 hy
          obtain ⟨i, hi, rfl⟩ := List.getElem_of_mem (List.mem_of_mem_take hq)
          exact (unhide HOK i hi).1) (hG.ok k hkh).1 hroom
        rw [flatI_snoc, ← unhide hd] at q
        exact q)
      have hdl : d.length + (hs[k].X.xs.length + 9) ≤ 2048 := by rw [unhide hd]; rw [flatI_snoc, List.length_append, ImD.by_len] at hroom; exact hroom
      have HD1 := hide (show d ++ imgL hs[k].X.id hs[k].X.gone hs[k].X.xs = flatI ((hs.take (k + 1)).map (·.X)) by rw [FT, flatI_snoc, ← unhide hd]; rfl)
      simp only [List.getElem_map, gr] at x0 x1 x2
      have hd8 : Bytes8 (padB d) := by
        rw [unhide hd]
        exact pad_bytes (flat_bytes (fun y hy => by
          obtain ⟨q, hq, rfl⟩ := List.mem_map.1 hy
          obtain ⟨i, hi, rfl⟩ := List.getElem_of_mem (List.mem_of_mem_take hq)
          exact ⟨(unhide HOK i hi).1, (unhide HOK i hi).2.1⟩))
      have D8 := hide hd8
      clear hG FT hroom hd8
      generalize hs[k] = x at *
      have hpd : (padB d).length ≤ 2063 := by have := pad_room2 d; omega
      have hml := (unhide hST).row.1
      have hm2 : m ≤ 1048576 := by omega
      have hxl : x.X.xs.length ≤ 20 := (unhide OK).2.2
      clear hml
      obtain ⟨d', hd'⟩ : ∃ d', d' = d ++ imgL x.X.id x.X.gone x.X.xs := ⟨_, rfl⟩
      have hd'l : d'.length = d.length + (x.X.xs.length + 9) := by rw [hd', List.length_append, imgL_length]
      rw [← hd'] at SS HD1
      obtain ⟨R', hR'⟩ : ∃ R', R' = padB d' := ⟨_, rfl⟩
      rw [← hR'] at SS
      have hRp : 0 < R'.length := by rw [hR']; exact pad_pos (by omega)
      have HD' := hide hd'
      have HR' := hide hR'
      have HDL := hide hd'l
      clear hd' hR' hd'l
      have CX := hide (fun (u : World) (hb : Below wr.heap.size wr u) => (implStore_gen a m c none 0 0 (padB d) [] x.X.id x.X.gone x.a x.c x.X.xs u (row_grow (unhide hST).row hb) (wrow_nil _) hm2 (by omega) (unhide hST).cap.1 (unhide hST).cap.2.1 (unhide D8) (fun y hy => by cases hy) (by omega) (fun h W hW => drawn_bytes (unhide DT) (unhide OK) h W (hb.trans (hW.mono hb.size)))).mono fun e u' hx => show ∃ a' c', e = .returned (.tuple #[fv a' R'.length c' none 0 0, .int .i64 0]) ∧ (Row u' a' R'.length R' ∧ Ow u' u.heap.size u'.heap.size a') ∧ (R'.length ≤ c' ∧ c' ≤ maxLen) ∧ wr.heap.size ≤ u.heap.size ∧ Below u.heap.size u u' ∧ Below wr.heap.size wr u' by
        obtain ⟨a', c', e, m, b⟩ := hx
        rw [(unhide SS).1, (unhide SS).2] at e
        rw [(unhide SS).2] at m
        obtain ⟨_, _, h3, h4, _⟩ := mine_row'' m
        exact ⟨a', c', e, m.ow, ⟨h3, h4⟩, hb.size, b, hb.trans (b.mono hb.size)⟩)
      have f0 := (unhide hST).box.1
      have f1 := (unhide hST).box.2
      have hpl : p < wr.heap.size := cell_lt f0
      have hbl : b < wr.heap.size := cell_lt x0
      have SK := hide (show ∀ u, Below wr.heap.size wr u → (fun u => Below wr.heap.size wr u ∧ u.cell? ⟨p, 0, none⟩ = some (.slice a m c) ∧ u.cell? ⟨p, 1, none⟩ = some (.slice none 0 0) ∧ u.cell? ⟨b, off + k * 3, none⟩ = some (.int .i64 x.X.id) ∧ u.cell? ⟨b, off + k * 3 + 1, none⟩ = some (.bool x.X.gone) ∧ u.cell? ⟨b, off + k * 3 + 2, none⟩ = some (.slice x.a x.X.xs.length x.c)) u from fun u hb => ⟨hb, (hb.cell (p := ⟨p, 0, none⟩) hpl).trans f0, (hb.cell (p := ⟨p, 1, none⟩) hpl).trans f1, (hb.cell (p := ⟨b, off + k * 3, none⟩) hbl).trans x0, (hb.cell (p := ⟨b, off + k * 3 + 1, none⟩) hbl).trans x1, (hb.cell (p := ⟨b, off + k * 3 + 2, none⟩) hbl).trans x2⟩)
      have hkI : (k : Int) < (n : Int) := by omega
      have XC := hide (And.intro x0 (And.intro x1 x2))
      go_upto_region 9 with fail
      go_cut [7, 8] (fun v6 v7 wc => LeftG wr R' v6 v7 wc)
      case first =>
        have hb00 := Below.refl wr.heap.size wr
        have hbf : Below wr.heap.size wr wr.drew := hb00.drew
        go_region_held3 (fun u => Below wr.heap.size wr u ∧ u.cell? ⟨p, 0, none⟩ = some (.slice a m c) ∧ u.cell? ⟨p, 1, none⟩ = some (.slice none 0 0) ∧ u.cell? ⟨b, off + k * 3, none⟩ = some (.int .i64 x.X.id) ∧ u.cell? ⟨b, off + k * 3 + 1, none⟩ = some (.bool x.X.gone) ∧ u.cell? ⟨b, off + k * 3 + 2, none⟩ = some (.slice x.a x.X.xs.length x.c)) (with_reducible first | exact unhide SK _ hbf | exact unhide SK _ (hbf.alloc hbf.size _) | exact unhide SK _ (hb00.alloc hb00.size _).drew | exact unhide SK _ (bel_drewN (hb00.alloc hb00.size _) 1) | exact unhide SK _ (st_set2 hbf (unhide BK).ge _ _)) (first | (go_at_call 16; have zbf := hbf.size; (refine (unhide CX _ (by first | (with_reducible exact hbf) | (with_reducible exact hbf.alloc hbf.size _) | (with_reducible exact (hb00.alloc hb00.size _).drew) | (with_reducible exact bel_drewN (hb00.alloc hb00.size _) 1))).mono ?_); (rintro e w10 ⟨a10, c10, rfl, o10, k10, hle, hbu, hbf⟩); ((first | (with_reducible have NBK := hide (fb_new o10.2)) | (with_reducible have NBK := hide (fb_newD o10.2)) | (have NBK := hide (fb_old (unhide BK) o10.2)) | skip)); ((first | ((with_reducible have hAl := st_alloc hbu); have BK := hide (fk_of (B := wr.heap.size) hAl zbf); clear hAl; obtain ⟨y0, y1⟩ := (unhide BK).cells; obtain ⟨f0, f1⟩ := (unhide BK).free) | ((with_reducible have hAl := st_allocD hbu); have BK := hide (fk_of (B := wr.heap.size) hAl zbf); clear hAl; obtain ⟨y0, y1⟩ := (unhide BK).cells; obtain ⟨f0, f1⟩ := (unhide BK).free) | (replace BK := hide ((unhide BK).step hbu); obtain ⟨y0, y1⟩ := (unhide BK).cells; obtain ⟨f0, f1⟩ := (unhide BK).free) | skip)); (have O10 := hide o10; have K10 := hide k10; clear o10 k10)))
        all_goals
          go_wp2_with fail
          go_meet
          case rel => first | (with_reducible exact leftG_box (unhide BK) (unhide NBK) (unhide K10) (unhide O10).1 (unhide O10).2 hle hbf) | exact leftG_last (unhide K10) (unhide O10).1 (unhide O10).2 hle hbf
      case rest =>
        clear SK CX f0 f1 x0 x1 x2
        obtain ⟨b2, a2, c2, rfl, rfl, hX, hZ, hK2, hO2, hb2⟩ := hcut
        obtain ⟨W2, hwr⟩ : ∃ x : World, x = wc := ⟨_, rfl⟩
        rw [← hwr] at hX hZ hO2 hb2 ⊢
        clear hwr
        have ST2 := hide ((unhide hST).step hb2)
        have x0' := (hb2.cell (p := ⟨b, off + k * 3, none⟩) hbl).trans (unhide XC).1
        have x1' := (hb2.cell (p := ⟨b, off + k * 3 + 1, none⟩) hbl).trans (unhide XC).2.1
        have x2' := (hb2.cell (p := ⟨b, off + k * 3 + 2, none⟩) hbl).trans (unhide XC).2.2
        have HX := hide hX
        have HZ := hide hZ
        have HO2 := hide hO2
        have HB2 := hide hb2
        have hs2 := hb2.size
        clear hX hZ hO2 hb2
        go_wp2_with fail
        clear x0' x1' x2'
        refine (implImageBytes_gen x.X.id x.X.gone x.a x.c x.X.xs W2 (by omega) (unhide OK).1 (fun W hW => drawn_bytes (unhide DT) (unhide OK) (unhide OK).1 W ((unhide HB2).trans (hW.mono (unhide HB2).size)))).mono ?_
        rintro e W3 ⟨g9, cap9, rfl, hO9, hb3⟩
        have hgv := (unhide hST).gv
        have ST3 := hide ((unhide ST2).step hb3)
        have HX3 := hide ((unhide HX).step hb3)
        have hs3 := hb3.size
        have hg9 := (World.ownsRow.lt hO9 g9 rfl).1
        have SET := hide ((unhide ST3).set (row_grow (unhide HZ) hb3) ⟨hK2.1, hK2.2, fun h => by omega⟩ (fun y hy => by have := unhide HO2 y hy; omega))
        have R9 : Row ((W3.setCell ⟨p, 0, none⟩ (.slice a2 R'.length c2)).setCell ⟨p, 1, none⟩ (.slice none 0 0)) (some ⟨g9, 0, none⟩) (imgL x.X.id x.X.gone x.X.xs).length (imgL x.X.id x.X.gone x.X.xs) := (row_of_owns hO9).of_cells fun y hy q hq => by
          cases hy
          exact World.cell?_of_block (w := W3) ((Below.heap_setCell _ _ _ _ (by rw [hq]; simp; omega)).trans (Below.heap_setCell _ _ _ _ (by rw [hq]; simp; omega)))
        have hil := imgL_length x.X.id x.X.gone x.X.xs
        obtain ⟨gn, cn, W5, hrun, hO5, hg5, hl5⟩ := fi_app (c := cap9) (unhide SET).own R9 (by omega) (by omega) (by have := (unhide SET).gv; omega)
        rw [← unhide HD'] at hrun hO5
        have ST5 := hide ((unhide SET).app hg5 hO5 hl5)
        rw [unhide HR'] at ST5
        have u0 := (unhide HX3).1
        have u1 := (unhide HX3).2
        have q0 := (unhide ST3).box.1
        have q1 := (unhide ST3).box.2
        have z0 := (unhide ST3).free 0
        have z1 := (unhide ST3).free 1
        have hb2l : b2 < W3.heap.size := cell_lt u0
        have hp3 : p < W3.heap.size := cell_lt q0
        clear hil R9 SET hO9 hb3 hO5 hg5 hl5 ST2 HX HZ HO2 HB2 HX3 hST DT OK SS
        generalize imgL x.X.id x.X.gone x.X.xs = ys at *
        go_wp2_with (at_builtin; refine sc_wpApp rfl (.tmp 66) (.tmp 67) 22 rfl _ _ _ W5 rfl rfl hrun ?_)
        go_roundw
        case rel => exact ⟨k + 1, gn, cn, (padB d').length, c2, a2, d', by omega, by go_num, rfl, unhide HD1, unhide ST5⟩
        case measure => simp [intOf]; omega
    · obtain rfl : k = n := by omega
      obtain ⟨L, hL⟩ : ∃ L, L = hs.map (·.X) := ⟨_, rfl⟩
      have HDL := hide (show d = flatI L by rw [unhide hd, hL, List.take_of_length_le (by rw [← unhide HN]; exact Nat.le_refl _)])
      have LOK := hide (show ∀ x ∈ L, x.ok = true ∧ Bytes8 x.xs from fun x hx => by
        rw [hL] at hx
        obtain ⟨q, hq, rfl⟩ := List.mem_map.1 hx
        obtain ⟨i, hi, rfl⟩ := List.getElem_of_mem hq
        exact ⟨(unhide HOK i hi).1, (unhide HOK i hi).2.1⟩)
      have hdl : d.length ≤ 300 := by
        have h1 := unhide FS
        have h2 := unhide HN
        rw [← hL, ← unhide HDL] at h1
        omega
      have LS := hide (show laS (padB d) [] = L by rw [unhide HDL]; exact laS_pad (fun x hx => (unhide LOK x hx).1) (by rw [← unhide HDL]; omega))
      have D8 := hide (show Bytes8 d by rw [unhide HDL]; exact flat_bytes (unhide LOK))
      have P8 := hide (pad_bytes (unhide D8))
      have IL := hide (show ImsAt wr al k L by rw [hL]; exact ((unhide GS).below (unhide hST).bel).ims)
      have SI := hide (show siE d = d.length ∧ siC d = 0 ∧ siL d = L by
        have h := scan_flat L 0 (fun x hx => (unhide LOK x hx).1)
        rw [List.replicate_zero, List.append_nil, ← unhide HDL] at h
        unfold siE siC siL
        rw [if_pos (by omega), if_pos (by omega), if_pos (by omega), h]
        exact ⟨rfl, rfl, rfl⟩)
      have HLn := hide (show L.length = k by rw [hL, List.length_map, ← unhide HN])
      have RC0 := hide (rdC_pad (d := d) (by omega))
      have ML := hide (unhide hST).row.1
      have hpd : (padB d).length ≤ 315 := by have := pad_room2 d; omega
      have hml : m ≤ 315 := by have := unhide ML; omega
      obtain ⟨RA, _, hcv1, hcv2⟩ := mine_row8 (mine_of_owns (unhide hST).own)
      have ST := hST
      clear hL hd hST GS HOK FS
      have HSL := hide (fun (W : World) (hb : FiSt w1 W p gv cv d (padB d) a m c) => show Calls Try.prog 20 #[fv a m c none 0 0] W fun e w' => LaRes (padB d) [] W e w' from by
        by_cases h0 : m = 0
        · obtain ⟨e1, e2⟩ := hb.cap.2.2 h0
          have e3 : padB d = [] := List.eq_nil_of_length_eq_zero (by rw [unhide ML]; exact h0)
          rw [e1, e2, h0, e3]
          exact specLatest_nil W
        · obtain ⟨b, off, e, _⟩ := hb.row.2 0 (by omega)
          have hr := hb.row
          rw [e] at hr ⊢
          exact specLatest_any b off m c none 0 0 (padB d) [] W hr (wrow_nil _) (by omega) (by omega) (unhide P8) (fun y hy => by cases hy))
      have HRA := hide RA
      clear RA
      go_wp2_with fail
      refine (implScanImages_any (some ⟨gv, 0, none⟩) d.length cv d wr (unhide HRA) (unhide D8) (by omega) hcv1 hcv2 (fun e => by cases e)).mono ?_
      rintro e w17 ⟨v11, h11, rfl, hI, hX, hb⟩
      obtain ⟨a11, c11, rfl, _, hr11⟩ := im_cap hI
      have I11 := imsAt_own hI hr11
      rw [hX, (unhide SI).2.2] at I11
      have n11 := I11.1
      rw [unhide HLn] at n11
      rw [← n11] at I11 ⊢
      rw [(unhide SI).1, (unhide SI).2.1]
      replace I11 := hide I11
      clear hI hX hr11 n11
      replace ST := hide ((unhide ST).step hb)
      replace IL := hide ((unhide IL).below hb)
      have zz_w17 : wr.heap.size ≤ w17.heap.size := hb.size
      clear hb
      have q0 := (unhide ST).box.1
      have q1 := (unhide ST).box.2
      go_wp2_with fail
      clear q0 q1
      refine (implLatest_any a m c none 0 0 (padB d) [] w17 (unhide ST).row (wrow_nil _) (by omega) (by omega) (unhide ST).cap.1 (unhide ST).cap.2.1 (unhide P8) (fun y hy => by cases hy)).mono ?_
      rintro e w18 ⟨v14, h14, rfl, hI, hLt, hb, hl14⟩
      obtain ⟨a14, c14, rfl, _, hr14⟩ := im_cap hI
      have I14 := imsAt_own hI hr14
      rw [unhide LS] at hLt
      rw [unhide RC0]
      obtain ⟨V, hV⟩ : ∃ V, V = h14.map (·.X) := ⟨_, rfl⟩
      obtain ⟨nv, hnv⟩ : ∃ nv, nv = h14.length := ⟨_, rfl⟩
      rw [← hV] at hLt I14
      rw [← hnv] at I14 hl14 ⊢
      have LT := hide hLt
      replace I14 := hide I14
      clear hI hLt hr14 hV hnv
      replace ST := hide ((unhide ST).step hb)
      replace IL := hide ((unhide IL).below hb)
      replace I11 := hide ((unhide I11).below hb)
      have zz_w18 : w17.heap.size ≤ w18.heap.size := hb.size
      clear hb
      have VOK := hide (show ∀ x ∈ V, x.ok = true ∧ Bytes8 x.xs from fun x hx => unhide LOK x (lat_in (unhide LT) hx))
      have hfv : (flatI V).length ≤ 300 := by have := lat_len_le (unhide LT); rw [← unhide HDL] at this; omega
      have hVn := (unhide I14).1
      have HVN := hide hVn
      clear hVn
      have q0 := (unhide ST).box.1
      have q1 := (unhide ST).box.2
      go_wp2_with fail
      clear q0 q1
      refine (unhide HSL w18 (unhide ST)).mono ?_
      rintro e w19 ⟨v16, h16, rfl, hI, hLt, hb, hl16⟩
      obtain ⟨a16, c16, rfl, _, hr16⟩ := im_cap hI
      have I16 := imsAt_own hI hr16
      rw [unhide LS] at hLt
      rw [unhide RC0]
      have e16 := hLt.one (unhide LT)
      have n16 : h16.length = nv := by have := congrArg List.length e16; rw [List.length_map, unhide HVN] at this; exact this
      rw [e16] at I16
      rw [n16] at I16 ⊢
      replace I16 := hide I16
      clear hI hLt hr16 e16 n16 hl16
      replace ST := hide ((unhide ST).step hb)
      replace IL := hide ((unhide IL).below hb)
      replace I11 := hide ((unhide I11).below hb)
      replace I14 := hide ((unhide I14).below hb)
      have zz_w19 : w18.heap.size ≤ w19.heap.size := hb.size
      clear hb
      have q0 := (unhide ST).box.1
      have q1 := (unhide ST).box.2
      go_wp2_with fail
      clear q0 q1
      refine (implClean_any a m c none 0 0 (padB d) [] w19 (unhide ST).row (wrow_nil _) (by omega) (by omega) (unhide ST).cap.1 (unhide ST).cap.2.1 (unhide P8) (fun y hy => by cases hy)).mono ?_
      rintro e w20 ⟨L20, a_g, c_g, hLt, rfl, hM, hb⟩
      rw [unhide LS] at hLt
      have e20 := hLt.one (unhide LT)
      rw [e20] at hM ⊢
      rw [unhide RC0]
      obtain ⟨Rg, hRg⟩ : ∃ Rg, Rg = padB (flatI V) := ⟨_, rfl⟩
      rw [← hRg] at hM ⊢
      obtain ⟨z20, _, hcg1, hcg2, o20⟩ := mine_row'' hM
      have Z_g := hide z20
      have HRG := hide hRg
      have hRgl : Rg.length ≤ 315 := by rw [hRg]; have := pad_room2 (flatI V); omega
      have RGM := hide (show Rg.length ≤ m by rw [hRg, ← unhide ML]; exact pad_mono (by have := lat_len_le (unhide LT); rw [← unhide HDL] at this; exact this))
      have G8 := hide (show Bytes8 Rg by rw [hRg]; exact pad_bytes (flat_bytes (unhide VOK)))
      have LSG := hide (show laS Rg [] = V by rw [hRg]; exact laS_pad (fun x hx => (unhide VOK x hx).1) (by omega))
      have RCG := hide (show rdC Rg [] = 0 by rw [hRg]; exact rdC_pad (by omega))
      have SELF := hide (show Lat ImD.id ImD.gone V V from Lat.self (unhide LT).up (lat_gone (unhide LT)))
      clear hM z20 hLt e20 o20 hRg
      replace ST := hide ((unhide ST).step hb)
      replace IL := hide ((unhide IL).below hb)
      replace I11 := hide ((unhide I11).below hb)
      replace I14 := hide ((unhide I14).below hb)
      replace I16 := hide ((unhide I16).below hb)
      have zz_w20 : w19.heap.size ≤ w20.heap.size := hb.size
      clear hb
      have hb : Below w20.heap.size w20 (w20.alloc (.cells #[.slice a_g Rg.length c_g, .slice none 0 0] 28)) := (Below.refl _ _).alloc (Nat.le_refl _) _
      have X_g := hide (Bx.new w20 a_g Rg.length c_g none 0 0 28)
      have hz : (w20.alloc (.cells #[.slice a_g Rg.length c_g, .slice none 0 0] 28)).heap.size = w20.heap.size + 1 := by simp
      replace ST := hide ((unhide ST).step hb)
      replace IL := hide ((unhide IL).below hb)
      replace I11 := hide ((unhide I11).below hb)
      replace I14 := hide ((unhide I14).below hb)
      replace I16 := hide ((unhide I16).below hb)
      replace Z_g := hide (row_grow (unhide Z_g) hb)
      clear hb
      have q0 := (unhide X_g).1
      have q1 := (unhide X_g).2
      go_wp2_with fail
      clear q0 q1
      obtain ⟨bg, hbg⟩ : ∃ x, x = w20.heap.size := ⟨_, rfl⟩
      rw [← hbg] at X_g ⊢
      have HBG := hide hbg
      clear hbg
      generalize w20.alloc (.cells #[.slice a_g Rg.length c_g, .slice none 0 0] 28) = w21 at *
      have zz_w21 : w20.heap.size < w21.heap.size := by omega
      clear hz
      refine (implLatest_any a_g Rg.length c_g none 0 0 Rg [] w21 (unhide Z_g) (wrow_nil _) (by omega) (by omega) hcg1 hcg2 (unhide G8) (fun y hy => by cases hy)).mono ?_
      rintro e w22 ⟨v20, h20, rfl, hI, hLt, hb, hl20⟩
      obtain ⟨a20, c20, rfl, _, hr20⟩ := im_cap hI
      have I20 := imsAt_own hI hr20
      rw [unhide LSG] at hLt
      rw [unhide RCG]
      have e20 := hLt.one (unhide SELF)
      have n20 : h20.length = nv := by have := congrArg List.length e20; rw [List.length_map, unhide HVN] at this; exact this
      rw [e20] at I20
      rw [n20] at I20 ⊢
      replace I20 := hide I20
      clear hI hLt hr20 e20 n20 hl20
      replace ST := hide ((unhide ST).step hb)
      replace IL := hide ((unhide IL).below hb)
      replace I11 := hide ((unhide I11).below hb)
      replace I14 := hide ((unhide I14).below hb)
      replace I16 := hide ((unhide I16).below hb)
      replace Z_g := hide (row_grow (unhide Z_g) hb)
      replace X_g := hide ((unhide X_g).step hb)
      have zz_w22 : w21.heap.size ≤ w22.heap.size := hb.size
      clear hb
      have q0 := (unhide X_g).1
      have q1 := (unhide X_g).2
      go_wp2_with fail
      clear q0 q1
      refine (implClean_any a_g Rg.length c_g none 0 0 Rg [] w22 (unhide Z_g) (wrow_nil _) (by omega) (by omega) hcg1 hcg2 (unhide G8) (fun y hy => by cases hy)).mono ?_
      rintro e w23 ⟨L23, a_t, c_t, hLt, rfl, hM, hb⟩
      rw [unhide LSG] at hLt
      have e23 := hLt.one (unhide SELF)
      rw [e23, ← unhide HRG] at hM ⊢
      rw [unhide RCG]
      have Z_t := hide (mine_row'' hM).1
      clear hM hLt e23
      replace ST := hide ((unhide ST).step hb)
      replace IL := hide ((unhide IL).below hb)
      replace I11 := hide ((unhide I11).below hb)
      replace I14 := hide ((unhide I14).below hb)
      replace I16 := hide ((unhide I16).below hb)
      replace Z_g := hide (row_grow (unhide Z_g) hb)
      replace X_g := hide ((unhide X_g).step hb)
      replace I20 := hide ((unhide I20).below hb)
      have zz_w23 : w22.heap.size ≤ w23.heap.size := hb.size
      clear hb
      have hb : Below w23.heap.size w23 (w23.alloc (.cells #[.slice a_t Rg.length c_t, .slice none 0 0] 28)) := (Below.refl _ _).alloc (Nat.le_refl _) _
      have X_t := hide (Bx.new w23 a_t Rg.length c_t none 0 0 28)
      have hz : (w23.alloc (.cells #[.slice a_t Rg.length c_t, .slice none 0 0] 28)).heap.size = w23.heap.size + 1 := by simp
      replace ST := hide ((unhide ST).step hb)
      replace IL := hide ((unhide IL).below hb)
      replace I11 := hide ((unhide I11).below hb)
      replace I14 := hide ((unhide I14).below hb)
      replace I16 := hide ((unhide I16).below hb)
      replace Z_g := hide (row_grow (unhide Z_g) hb)
      replace X_g := hide ((unhide X_g).step hb)
      replace I20 := hide ((unhide I20).below hb)
      replace Z_t := hide (row_grow (unhide Z_t) hb)
      clear hb
      have hq1 : ((d.length : Int) != (d.length : Int)) = false := by simp
      go_wp2_with fail
      obtain ⟨bt, hbt⟩ : ∃ x, x = w23.heap.size := ⟨_, rfl⟩
      rw [← hbt] at X_t ⊢
      have HBT := hide hbt
      clear hbt
      generalize w23.alloc (.cells #[.slice a_t Rg.length c_t, .slice none 0 0] 28) = w24 at *
      have zz_w24 : w23.heap.size < w24.heap.size := by omega
      clear hz
      refine (sameImages_any a11 al k c11 cl L w24 (unhide I11) (unhide IL) (by omega)).mono ?_
      rintro e w25 ⟨rfl, hb⟩
      replace ST := hide ((unhide ST).step hb)
      replace IL := hide ((unhide IL).below hb)
      replace I11 := hide ((unhide I11).below hb)
      replace I14 := hide ((unhide I14).below hb)
      replace I16 := hide ((unhide I16).below hb)
      replace Z_g := hide (row_grow (unhide Z_g) hb)
      replace X_g := hide ((unhide X_g).step hb)
      replace I20 := hide ((unhide I20).below hb)
      replace Z_t := hide (row_grow (unhide Z_t) hb)
      replace X_t := hide ((unhide X_t).step hb)
      have zz_w25 : w24.heap.size ≤ w25.heap.size := hb.size
      clear hb
      go_wp2_with fail
      refine (sameImages_any a14 a16 nv c14 c16 V w25 (unhide I14) (unhide I16) (by omega)).mono ?_
      rintro e w26 ⟨rfl, hb⟩
      replace ST := hide ((unhide ST).step hb)
      replace IL := hide ((unhide IL).below hb)
      replace I11 := hide ((unhide I11).below hb)
      replace I14 := hide ((unhide I14).below hb)
      replace I16 := hide ((unhide I16).below hb)
      replace Z_g := hide (row_grow (unhide Z_g) hb)
      replace X_g := hide ((unhide X_g).step hb)
      replace I20 := hide ((unhide I20).below hb)
      replace Z_t := hide (row_grow (unhide Z_t) hb)
      replace X_t := hide ((unhide X_t).step hb)
      have zz_w26 : w25.heap.size ≤ w26.heap.size := hb.size
      clear hb
      go_wp2_with fail
      refine (sameImages_any a20 a14 nv c20 c14 V w26 (unhide I20) (unhide I14) (by omega)).mono ?_
      rintro e w27 ⟨rfl, hb⟩
      replace ST := hide ((unhide ST).step hb)
      replace IL := hide ((unhide IL).below hb)
      replace I11 := hide ((unhide I11).below hb)
      replace I14 := hide ((unhide I14).below hb)
      replace I16 := hide ((unhide I16).below hb)
      replace Z_g := hide (row_grow (unhide Z_g) hb)
      replace X_g := hide ((unhide X_g).step hb)
      replace I20 := hide ((unhide I20).below hb)
      replace Z_t := hide (row_grow (unhide Z_t) hb)
      replace X_t := hide ((unhide X_t).step hb)
      have zz_w27 : w26.heap.size ≤ w27.heap.size := hb.size
      clear hb
      have t1 := conv_any (c := c_t) (unhide Z_t)
      have t2 := conv_any (c := c_g) (unhide Z_g)
      have u0 := (unhide X_t).1
      have v0 := (unhide X_g).1
      have q0 := (unhide ST).box.1
      have hgm : ¬ (m < Rg.length) := by have := unhide RGM; omega
      have hgd : decide (m < Rg.length) = false := decide_eq_false hgm
      go_wp2_with fail
      clear t1 t2 u0 v0 q0 hgm hgd
      go_loopw [24] (fun i wq => ∃ q : Nat, q ≤ nv ∧ i = .int .i64 ((q : Int) + 1) ∧ Hid (Below w27.heap.size w27 wq)) (fun i _ => nv + 1 - (intOf i).toNat)
      case atStart => exact ⟨0, Nat.zero_le _, rfl, Below.refl _ _⟩
      case round =>
        obtain ⟨q, hq, rfl, hB⟩ := hrel
        by_cases hlt : q + 1 < nv
        · have hVl := unhide HVN
          obtain ⟨b, off, _, _, e1, c0, _⟩ := ((unhide I14).below (unhide hB)).2 q (by omega)
          obtain ⟨b', off', _, _, e2, c1, _⟩ := ((unhide I14).below (unhide hB)).2 (q + 1) (by omega)
          have hup := (List.pairwise_iff_getElem.1 (unhide LT).up) q (q + 1) (by omega) (by omega) (by omega)
          subst e1
          injection e2 with e2
          injection e2 with e2 e3
          subst e2 e3
          generalize V[q]'(by omega) = X0 at *
          generalize V[q + 1]'(by omega) = X1 at *
          have hng : ¬ (X1.id ≤ X0.id) := by omega
          have hqI : (q : Int) + 1 < (nv : Int) := by omega
          have hqI0 : (q : Int) < (nv : Int) := by omega
          have w1q : IntKind.i64.wrap ((q : Int) + 1 - 1) = (q : Int) := by rw [IntKind.wrap_i64]; omega
          have e3 : ((q : Int) + 1).toNat = q + 1 := by omega
          clear hup hVl
          go_wp2_with fail
          go_quiet (fail)
          go_wp2_with fail
          go_roundw
          case rel => exact ⟨q + 1, by omega, by go_num, bel_drewN (unhide hB) _⟩
          case measure => simp [intOf]; omega
        · have hqI : ¬ ((q : Int) + 1 < (nv : Int)) := by omega
          have ST9 := (unhide ST).step (unhide hB)
          obtain ⟨RA, _, _, _⟩ := mine_row8 (mine_of_owns ST9.own)
          have HRA2 := hide RA
          have Z := hide ((unhide B1).trans (ST9.bel.mono (unhide B1).size))
          clear RA ST9 hB
          go_wp2_with fail
          refine (implCrc_any (some ⟨gv, 0, none⟩) d.length cv d _ (by omega) (unhide HRA2) (unhide D8)).mono ?_
          rintro e wx ⟨rfl, hw⟩
          subst wx
          go_wp2_with fail
          refine (specCrc_any (some ⟨gv, 0, none⟩) d.length cv d _ (by omega) (unhide HRA2) (unhide D8)).mono ?_
          rintro e wx ⟨rfl, hw⟩
          subst wx
          have hcr : (crcR d == crcR d) = true := by simp
          go_wp2_with fail
          go_ret
          exact ⟨by simp, unhide Z⟩
end Go.Proofs.Ytocdbijmpecdgaa

namespace Go.Proofs.Ytocdbijmpecdgaa.fnImagesFrame
open Go.ChangeShapes Go.WideShapes Go.ChangeAt Go.RowKit
open Go.ChangeMaps (open_string shut_string)
set_option linter.unusedVariables false

theorem own : ownKnob Try.prog.godebug = none := by kernel_rfl
theorem laidOut : laidOutB Try.prog = true := by kernel_rfl

set_option maxRecDepth 100000 in
theorem lifted (os : Os) (started : os.Started) (H : Type) (enc : TypeId × Value → H) :
    ReturnsInHanded {} Try.checked os 4 .any (Rows.fnImagesSpec.pre6 enc Try.prog Try.f4 Rows.fnImagesRow.domain false) (Rows.fnImagesSpec.post enc Try.prog Try.f4 false true false false) := by
  refine returnsInHanded_of_change (C := Try.checked) own started (by kernel_rfl) Try.func4
    (ChangeSpec.witness6 (enc := enc) (C := Try.checked) false ⟨#[], #[.slice none 0 0], []⟩ 8 (by kernel_rfl) (by kernel_rfl) (by kernel_rfl) (by kernel_rfl)) ?_
  intro W base args ds gs before hval0 hW _ _
  have hval : ∀ (j : Nat) t v, Try.f4.params[j]? = some t → args[j]? = some v → Value.okWide Try.prog W .any base t v := hval0
  have hW' := hW
  obtain ⟨p, q, hA0, hV, rfl, _, _⟩ := hW
  have hA : DataW.TrodAll enc Try.prog W 0 (fun _ => true) true Try.f4.params.toList args.toList ds p := hA0
  rw [Try.params4] at hA hval
  obtain ⟨v0, vs0, d0, ds0, p0, q0, hargs, rfl, rfl, h0, r0⟩ := trodAll_cons hA
  obtain ⟨rfl, rfl, rfl⟩ := trodAll_nil r0
  obtain rfl : args = #[v0] := by cases args; simp_all
  obtain ⟨rfl, rfl⟩ := trodVars_none hV
  have k0 := h0
  have lt0 : ∀ x ∈ p0, x.block < W.heap.size := by obtain ⟨m, hm⟩ := k0; exact DataW.trod_lt m _ _ _ hm
  obtain ⟨a0, len0, cap0, rfl⟩ := okWide_slice Try.underlying22 (hval 0 22 v0 rfl rfl)
  obtain ⟨z0, w0⟩ : ∃ zs, IsRow .u8 W a0 len0 cap0 zs := by
    obtain ⟨fuel, hf⟩ := h0
    rcases open_ints Try.underlying22 Try.underlying5 (by kernel_rfl) hf with ⟨hcs, _⟩ | ⟨x, l, c, zs, hcs, _, hl, hm, hz, _, hcell, hwz⟩
    · simp [Value.cells] at hcs
      obtain ⟨rfl, rfl, rfl⟩ := hcs
      exact ⟨[], .inl ⟨rfl, rfl, rfl, rfl⟩⟩
    · simp [Value.cells] at hcs
      obtain ⟨rfl, rfl, rfl⟩ := hcs
      exact ⟨zs, .inr ⟨_, rfl, hl, hm, by simpa using hz, hcell, hwz⟩⟩
  clear hA0 hval0
  refine (fnImages_law a0 len0 cap0 z0 W w0).mono fun e W' ⟨he, bel⟩ => ?_
  subst he
  exact ⟨_, rfl, _, _, _, [], _, [], hW', trodAll_mk1 (shut_bool Try.underlying4 _), (trodAll_cons_mk (Below.trod laidOut (by kernel_rfl) (of_decide_eq_true (by kernel_rfl)) k0 bel lt0) trodAll_mk0), rfl, bel.frame _, fun h => by cases h⟩

theorem over : Rows.fnImagesRow.holds Try.pinned (OpenSpec.ofChange Rows.fnImagesSpec) :=
  OpenClaim.holds_of_wide 4 Try.f4 rfl rfl rfl rfl rfl rfl rfl ⟨rfl, rfl, rfl, rfl, rfl⟩ rfl rfl rfl rfl rfl (by kernel_rfl) Try.func4 (by kernel_rfl)
    (of_decide_eq_true (by kernel_rfl)) (by unfold Func.isWrapper; first | (rw [if_pos (by decide +kernel)]; kernel_rfl) | (rw [if_neg (by decide +kernel)]; exact ⟨rfl, rfl⟩))
    (fun os started H enc _ => lifted os started H enc)

end Go.Proofs.Ytocdbijmpecdgaa.fnImagesFrame
namespace Go.Proofs.Ytocdbijmpecdgaa
/-- THE STATEMENT. -/
theorem fnImages_proved : Rows.FnImagesSaid := fnImagesFrame.over
#print axioms fnImages_proved
end Go.Proofs.Ytocdbijmpecdgaa
