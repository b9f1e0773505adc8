/-
  The walk of the law of PageBytes.
-/
import Derived.Test.YtkggpapmhopaeaaPbT
import Derived.Test.YtkggpapmhopaeaaPbB
import Derived.Test.YtkggpapmhopaeaaPgK
import Derived.Test.YtkggpapmhopaeaaPgIn
import Derived.Deep.RegionHeld3
namespace Go.Proofs.Ytkggpapmhopaeaa
open Go.RowKit

theorem heap_ltB {w : World} {b : Nat} {o : Obj} (h : w.heap[b]? = some o) : b < w.heap.size := (Array.getElem?_eq_some_iff.1 h).1
theorem pbL_len (lo hi : ByteArray) (r : Int) (es : List EntD) (ds : List DelD) : (pbL lo hi r es ds).length ≤ 10000 := by
  unfold pbL
  split
  · rename_i h; exact pageL_length (ok_small h)
  · simp
theorem ByR.wr {P : Nat → Prop} {w w' : World} {B n : Nat} {a : Option Addr} {xs : List Int} (h : ByR w B a n xs) (hw : Wr P w w') (hp : ∀ x, a = some x → ¬ P x.block) : ByR w' B a n xs :=
  h.of_blocks hw.size (fun x hx => hw.block x.block (h.own x hx).2.1 (hp x hx))
set_option maxRecDepth 100000 in
set_option maxHeartbeats 32000000 in
theorem lawPageBytes_any (lo hi : ByteArray) (r : Int) (ab : Option Addr) (nb cb : Nat) (es : List EntD) (ac : Option Addr) (nc cc : Nat) (ds : List DelD) (w : World) (hP : IsPage w lo hi ab nb es ac nc ds) :
    Calls Try.prog 8 #[pgv lo hi r ab nb cb ac nc cc] w fun e w' => e = .returned (.bool true) ∧ Below w.heap.size w w' := by
  have B : Below w.heap.size w (w.alloc (.cells #[.string lo, .string hi, .int .i64 r, .slice ab nb cb, .slice ac nc cc] 25)) := (Below.refl _ _).alloc (Nat.le_refl _) _
  have P := hide hP
  have K_a := hide (heap_alloc_new w (.cells #[.string lo, .string hi, .int .i64 r, .slice ab nb cb, .slice ac nc cc] 25))
  have z0 : (w.alloc (.cells #[.string lo, .string hi, .int .i64 r, .slice ab nb cb, .slice ac nc cc] 25)).heap.size = w.heap.size + 1 := by simp
  clear hP
  go_enter Try.func8, Try.ntmps8
  go_wp2_with fail
  generalize w.alloc (.cells #[.string lo, .string hi, .int .i64 r, .slice ab nb cb, .slice ac nc cc] 25) = W0 at *
  refine (szPage_any lo hi r ab nb cb es ac nc cc ds 1048576 W0 (by omega) (by omega) ((unhide P).below B)).mono ?_
  rintro e w1 ⟨q, rfl, hq, hb⟩
  replace K_a := hide ((hb.block w.heap.size (heap_ltB (unhide K_a))).trans (unhide K_a))
  replace B := B.trans (hb.mono B.size)
  have zz_w1 := hb.size
  clear hb
  rcases hq with rfl | ⟨q0, q1, hnb, hnc⟩
  · go_wp2_with fail
    go_ret
    exact ⟨rfl, B⟩
  have hnb : nb ≤ 1048576 := by omega
  have hnc : nc ≤ 1048576 := by omega
  have hln : es.length ≤ 1048576 := by rw [(unhide P).1.1]; exact hnb
  have hlc : ds.length ≤ 1048576 := by rw [(unhide P).2.1.1]; exact hnc
  obtain ⟨R, hR⟩ : ∃ x, x = pbL lo hi r es ds := ⟨_, rfl⟩
  obtain ⟨C, hC⟩ : ∃ x, x = pbC lo hi r es ds := ⟨_, rfl⟩
  have hRl : R.length ≤ 10000 := by rw [hR]; exact pbL_len lo hi r es ds
  have CON := hide (show ∀ W e W', PbRes lo hi r es ds W e W' → ∃ a c, e = .returned (.tuple #[.slice a R.length c, .int .i64 C]) ∧ ByR W' W.heap.size a R.length R ∧ Below W.heap.size W W' from fun W e W' h => by
    obtain ⟨v, e, o, b⟩ := h
    rw [← hR] at o
    obtain ⟨a, c, rfl, _, _, h3, h4⟩ := mine_of_owns o
    exact ⟨a, c, by rw [e, hC], ⟨h3, h4⟩, b⟩)
  have hq : (C != C) = false := by simp
  have hRm : R.length ≤ maxLen := by unfold maxLen; omega
  clear hR hC
  obtain ⟨p_a0, p_a1, p_a2, p_a3, p_a4⟩ := pg_c5 (unhide K_a)
  go_wp2_with fail
  refine (toPage_any lo hi r ab nb cb es ac nc cc ds w1 hnb hnc ((unhide P).below B)).mono ?_
  rintro e w_t ⟨g_t, h_t, rfl, oo, hb⟩
  have O_t := hide (pgown_of oo)
  have I_t := fun i (h : PgBlk (some ⟨g_t, 0, none⟩) nb nb (some ⟨h_t, 0, none⟩) nc nc i) => (unhide O_t).blk h
  replace K_a := hide ((hb.block w.heap.size (heap_ltB (unhide K_a))).trans (unhide K_a))
  replace B := B.trans (hb.mono B.size)
  have zz_w_t := hb.size
  clear hb oo
  clear p_a0 p_a1 p_a2 p_a3 p_a4
  go_wp2_with fail
  refine (specPageBytes_any lo hi r _ nb nb es _ nc nc ds w_t (erow_of_owns (unhide O_t).1) (drow_of_owns (unhide O_t).2.1) (fun h => by cases h)).mono ?_
  intro e w_w hcon
  obtain ⟨a_w, c_w, rfl, rr, hb⟩ := unhide CON _ _ _ hcon
  clear hcon
  have R_w := hide rr
  have J_w := rr.own'
  replace K_a := hide ((hb.block w.heap.size (heap_ltB (unhide K_a))).trans (unhide K_a))
  replace O_t := hide ((unhide O_t).below hb)
  replace B := B.trans (hb.mono B.size)
  have zz_w_w := hb.size
  clear hb rr
  clear O_t I_t
  obtain ⟨p_a0, p_a1, p_a2, p_a3, p_a4⟩ := pg_c5 (unhide K_a)
  go_wp2_with fail
  refine (toPage_any lo hi r ab nb cb es ac nc cc ds w_w hnb hnc ((unhide P).below B)).mono ?_
  rintro e w_x ⟨g_x, h_x, rfl, oo, hb⟩
  have O_x := hide (pgown_of oo)
  have I_x := fun i (h : PgBlk (some ⟨g_x, 0, none⟩) nb nb (some ⟨h_x, 0, none⟩) nc nc i) => (unhide O_x).blk h
  replace R_w := hide ((unhide R_w).below hb)
  replace K_a := hide ((hb.block w.heap.size (heap_ltB (unhide K_a))).trans (unhide K_a))
  replace B := B.trans (hb.mono B.size)
  have zz_w_x := hb.size
  clear hb oo
  clear p_a0 p_a1 p_a2 p_a3 p_a4
  have hb : Below w_x.heap.size w_x (w_x.alloc (.cells #[.string lo, .string hi, .int .i64 r, .slice (some ⟨g_x, 0, none⟩) nb nb, .slice (some ⟨h_x, 0, none⟩) nc nc] 31)) := (Below.refl _ _).alloc (Nat.le_refl _) _
  replace R_w := hide ((unhide R_w).below hb)
  replace K_a := hide ((hb.block w.heap.size (heap_ltB (unhide K_a))).trans (unhide K_a))
  replace O_x := hide ((unhide O_x).below hb)
  replace B := B.trans (hb.mono B.size)
  have zz_zbx_x := hb.size
  have K_x := hide (heap_alloc_new w_x (.cells #[.string lo, .string hi, .int .i64 r, .slice (some ⟨g_x, 0, none⟩) nb nb, .slice (some ⟨h_x, 0, none⟩) nc nc] 31))
  have zb_x : (w_x.alloc (.cells #[.string lo, .string hi, .int .i64 r, .slice (some ⟨g_x, 0, none⟩) nb nb, .slice (some ⟨h_x, 0, none⟩) nc nc] 31)).heap.size = w_x.heap.size + 1 := by simp
  clear hb
  obtain ⟨p_x0, p_x1, p_x2, p_x3, p_x4⟩ := pg_c5 (unhide K_x)
  go_wp2_with fail
  generalize w_x.alloc (.cells #[.string lo, .string hi, .int .i64 r, .slice (some ⟨g_x, 0, none⟩) nb nb, .slice (some ⟨h_x, 0, none⟩) nc nc] 31) = v_x at *
  generalize w_x.heap.size = b_x at *
  refine (implPageBytes_any lo hi r _ nb nb es _ nc nc ds v_x (erow_of_owns (unhide O_x).1) (drow_of_owns (unhide O_x).2.1)).mono ?_
  intro e w_g hcon
  obtain ⟨a_g, c_g, rfl, rr, hb⟩ := unhide CON _ _ _ hcon
  clear hcon
  have R_g := hide rr
  have J_g := rr.own'
  replace R_w := hide ((unhide R_w).below hb)
  replace K_a := hide ((hb.block w.heap.size (heap_ltB (unhide K_a))).trans (unhide K_a))
  replace K_x := hide ((hb.block b_x (heap_ltB (unhide K_x))).trans (unhide K_x))
  replace O_x := hide ((unhide O_x).below hb)
  replace B := B.trans (hb.mono B.size)
  have zz_w_g := hb.size
  clear hb rr
  clear p_x0 p_x1 p_x2 p_x3 p_x4
  go_wp2_with fail
  refine (eqBytes_sameP a_g a_w R.length c_g c_w R w_g hRm (unhide R_g).row (unhide R_w).row).mono ?_
  rintro e e0 ⟨rfl, hb⟩
  replace R_w := hide ((unhide R_w).below hb)
  replace R_g := hide ((unhide R_g).below hb)
  replace K_a := hide ((hb.block w.heap.size (heap_ltB (unhide K_a))).trans (unhide K_a))
  replace K_x := hide ((hb.block b_x (heap_ltB (unhide K_x))).trans (unhide K_x))
  replace O_x := hide ((unhide O_x).below hb)
  replace B := B.trans (hb.mono B.size)
  have zz_e0 := hb.size
  clear hb
  have SK := hide (show ∀ u, Below e0.heap.size e0 u → (fun u => Below e0.heap.size e0 u ∧ u.cell? ⟨w.heap.size, 0, none⟩ = some (.string lo) ∧ u.cell? ⟨w.heap.size, 1, none⟩ = some (.string hi) ∧ u.cell? ⟨w.heap.size, 2, none⟩ = some (.int .i64 r) ∧ u.cell? ⟨w.heap.size, 3, none⟩ = some (.slice ab nb cb) ∧ u.cell? ⟨w.heap.size, 4, none⟩ = some (.slice ac nc cc) ∧ u.cell? ⟨b_x, 0, none⟩ = some (.string lo) ∧ u.cell? ⟨b_x, 1, none⟩ = some (.string hi) ∧ u.cell? ⟨b_x, 2, none⟩ = some (.int .i64 r) ∧ u.cell? ⟨b_x, 3, none⟩ = some (.slice (some ⟨g_x, 0, none⟩) nb nb) ∧ u.cell? ⟨b_x, 4, none⟩ = some (.slice (some ⟨h_x, 0, none⟩) nc nc)) u from fun u hb => by
    obtain ⟨m0, m1, m2, m3, m4⟩ := pg_c5 ((hb.block w.heap.size (heap_ltB (unhide K_a))).trans (unhide K_a))
    obtain ⟨i0, i1, i2, i3, i4⟩ := pg_c5 ((hb.block b_x (heap_ltB (unhide K_x))).trans (unhide K_x))
    exact ⟨hb, m0, m1, m2, m3, m4, i0, i1, i2, i3, i4⟩)
  have CT := hide (fun (u : World) (hb : Below e0.heap.size e0 u) => (toPage_any lo hi r ab nb cb es ac nc cc ds u hnb hnc ((unhide P).below (B.trans (hb.mono B.size)))).mono fun e u' h => show ∃ g h, e = .returned (pgv lo hi r (some ⟨g, 0, none⟩) nb nb (some ⟨h, 0, none⟩) nc nc) ∧ PgOwn u' u.heap.size (some ⟨g, 0, none⟩) nb nb (some ⟨h, 0, none⟩) nc nc es ds ∧ Below e0.heap.size e0 u' by
    obtain ⟨g, h, e, o, b⟩ := h
    exact ⟨g, h, e, pgown_of o, hb.trans (b.mono hb.size)⟩)
  have CE := hide (fun (u : World) (hb : Below e0.heap.size e0 u) (B' g h : Nat) (ho : PgOwn u B' (some ⟨g, 0, none⟩) nb nb (some ⟨h, 0, none⟩) nc nc es ds) => (eqPage_own lo hi r _ _ (some ⟨g_x, 0, none⟩) nb nb (some ⟨h_x, 0, none⟩) nc nc (some ⟨g, 0, none⟩) nb nb (some ⟨h, 0, none⟩) nc nc es ds u ((unhide O_x).below hb) ho hln hlc).mono fun e u' h => show e = .returned (.bool true) ∧ Below e0.heap.size e0 u' from ⟨h.1, hb.trans (h.2.mono hb.size)⟩)
  have G0 : Below e0.heap.size e0 e0.drew := (Below.refl _ _).drew
  go_wp2_with fail
  go_region_held3 (fun u => Below e0.heap.size e0 u ∧ u.cell? ⟨w.heap.size, 0, none⟩ = some (.string lo) ∧ u.cell? ⟨w.heap.size, 1, none⟩ = some (.string hi) ∧ u.cell? ⟨w.heap.size, 2, none⟩ = some (.int .i64 r) ∧ u.cell? ⟨w.heap.size, 3, none⟩ = some (.slice ab nb cb) ∧ u.cell? ⟨w.heap.size, 4, none⟩ = some (.slice ac nc cc) ∧ u.cell? ⟨b_x, 0, none⟩ = some (.string lo) ∧ u.cell? ⟨b_x, 1, none⟩ = some (.string hi) ∧ u.cell? ⟨b_x, 2, none⟩ = some (.int .i64 r) ∧ u.cell? ⟨b_x, 3, none⟩ = some (.slice (some ⟨g_x, 0, none⟩) nb nb) ∧ u.cell? ⟨b_x, 4, none⟩ = some (.slice (some ⟨h_x, 0, none⟩) nc nc)) (exact unhide SK _ (by assumption)) (first
    | (go_at_call 11; refine (unhide CT _ (by assumption)).mono ?_; rintro e w7 ⟨g', h', rfl, o7, b7⟩; have H7 := hide o7; clear o7)
    | (go_at_call 13; refine (unhide CE _ (by assumption) _ _ _ (unhide H7)).mono ?_; rintro e w8 ⟨rfl, b8⟩))
  clear b7 H7 G0 CT CE SK
  replace R_w := hide ((unhide R_w).below b8)
  replace R_g := hide ((unhide R_g).below b8)
  replace K_a := hide ((b8.block w.heap.size (heap_ltB (unhide K_a))).trans (unhide K_a))
  replace K_x := hide ((b8.block b_x (heap_ltB (unhide K_x))).trans (unhide K_x))
  replace O_x := hide ((unhide O_x).below b8)
  replace B := B.trans (b8.mono B.size)
  have zz_w8 := b8.size
  clear b8
  obtain ⟨p_x0, p_x1, p_x2, p_x3, p_x4⟩ := pg_c5 (unhide K_x)
  go_wp2_with fail
  refine (markPage_own lo hi r _ 1 _ nb nb _ nc nc es ds w8 (unhide O_x) (by omega) (by omega)).mono ?_
  rintro e wm ⟨rfl, oo, hw⟩
  clear p_x0 p_x1 p_x2 p_x3 p_x4
  clear O_x
  replace R_w := hide ((unhide R_w).wr hw (fun i hi h => by have h1 := J_w _ hi; have h2 := I_x _ h; omega))
  replace R_g := hide ((unhide R_g).wr hw (fun i hi h => by have h1 := J_g _ hi; have h2 := I_x _ h; omega))
  replace K_a := hide ((hw.block w.heap.size (heap_ltB (unhide K_a)) (fun h => by have := I_x _ h; omega)).trans (unhide K_a))
  replace K_x := hide ((hw.block b_x (heap_ltB (unhide K_x)) (fun h => by have := I_x _ h; omega)).trans (unhide K_x))
  replace B := B.trans (hw.below (fun i h => by have := I_x _ h; omega) B.size)
  have zz_wm := hw.size
  clear hw oo
  have hk0 : ¬ (((1 + 2 * nb + 4 * nc : Nat) : Int) < 0) := by omega
  generalize (1 + 2 * nb + 4 * nc : Nat) = km at *
  go_wp2_with fail
  refine (eqBytes_sameP a_g a_w R.length c_g c_w R wm hRm (unhide R_g).row (unhide R_w).row).mono ?_
  rintro e e1 ⟨rfl, hb⟩
  replace R_w := hide ((unhide R_w).below hb)
  replace R_g := hide ((unhide R_g).below hb)
  replace K_a := hide ((hb.block w.heap.size (heap_ltB (unhide K_a))).trans (unhide K_a))
  replace K_x := hide ((hb.block b_x (heap_ltB (unhide K_x))).trans (unhide K_x))
  replace B := B.trans (hb.mono B.size)
  have zz_e1 := hb.size
  clear hb
  go_wp2_with fail
  refine (markByteS_any a_g R.length c_g R 1 e1 (by omega) (by omega) (by omega) (unhide R_g).row (fun x hx => ((unhide R_g).own x hx).2.2)).mono ?_
  rintro e wn ⟨rfl, rr, ht⟩
  have hw := wr_touch ht
  replace R_g := hide ((unhide R_g).marked rr ht)
  replace K_a := hide ((hw.block w.heap.size (heap_ltB (unhide K_a)) (fun ⟨x, hx, e⟩ => by have := J_g x hx; omega)).trans (unhide K_a))
  replace K_x := hide ((hw.block b_x (heap_ltB (unhide K_x)) (fun ⟨x, hx, e⟩ => by have := J_g x hx; omega)).trans (unhide K_x))
  replace R_w := hide ((unhide R_w).wr hw (fun x hx ⟨y, hy, e⟩ => by have h1 := J_w x hx; have h2 := J_g y hy; omega))
  replace B := B.trans (hw.below (fun i ⟨x, hx, e⟩ => by have := J_g x hx; omega) B.size)
  have zz_wn := hw.size
  clear hw rr ht
  go_wp2_with fail
  refine (heldByteS_any a_g R.length c_g 1 wn (by omega) (by omega) (by omega) (unhide R_g).row).mono ?_
  rintro e wz ⟨rfl, hw⟩
  subst wz
  obtain ⟨p_a0, p_a1, p_a2, p_a3, p_a4⟩ := pg_c5 (unhide K_a)
  go_wp2_with fail
  refine (toPage_any lo hi r ab nb cb es ac nc cc ds wn hnb hnc ((unhide P).below B)).mono ?_
  rintro e w_y ⟨g_y, h_y, rfl, oo, hb⟩
  have O_y := hide (pgown_of oo)
  have I_y := fun i (h : PgBlk (some ⟨g_y, 0, none⟩) nb nb (some ⟨h_y, 0, none⟩) nc nc i) => (unhide O_y).blk h
  replace R_w := hide ((unhide R_w).below hb)
  replace R_g := hide ((unhide R_g).below hb)
  replace K_a := hide ((hb.block w.heap.size (heap_ltB (unhide K_a))).trans (unhide K_a))
  replace K_x := hide ((hb.block b_x (heap_ltB (unhide K_x))).trans (unhide K_x))
  replace B := B.trans (hb.mono B.size)
  have zz_w_y := hb.size
  clear hb oo
  clear p_a0 p_a1 p_a2 p_a3 p_a4
  go_wp2_with fail
  refine (implPageBytes_any lo hi r _ nb nb es _ nc nc ds w_y (erow_of_owns (unhide O_y).1) (drow_of_owns (unhide O_y).2.1)).mono ?_
  intro e w_h hcon
  obtain ⟨a_h, c_h, rfl, rr, hb⟩ := unhide CON _ _ _ hcon
  clear hcon
  have R_h := hide rr
  have J_h := rr.own'
  replace R_w := hide ((unhide R_w).below hb)
  replace R_g := hide ((unhide R_g).below hb)
  replace K_a := hide ((hb.block w.heap.size (heap_ltB (unhide K_a))).trans (unhide K_a))
  replace K_x := hide ((hb.block b_x (heap_ltB (unhide K_x))).trans (unhide K_x))
  replace O_y := hide ((unhide O_y).below hb)
  replace B := B.trans (hb.mono B.size)
  have zz_w_h := hb.size
  clear hb rr
  clear O_y I_y
  go_wp2_with fail
  refine (eqBytes_sameP a_h a_w R.length c_h c_w R w_h hRm (unhide R_h).row (unhide R_w).row).mono ?_
  rintro e e2 ⟨rfl, hb⟩
  replace R_w := hide ((unhide R_w).below hb)
  replace R_g := hide ((unhide R_g).below hb)
  replace R_h := hide ((unhide R_h).below hb)
  replace K_a := hide ((hb.block w.heap.size (heap_ltB (unhide K_a))).trans (unhide K_a))
  replace K_x := hide ((hb.block b_x (heap_ltB (unhide K_x))).trans (unhide K_x))
  replace B := B.trans (hb.mono B.size)
  have zz_e2 := hb.size
  clear hb
  go_wp2_with fail
  refine (heldByteS_any a_g R.length c_g 1 e2 (by omega) (by omega) (by omega) (unhide R_g).row).mono ?_
  rintro e wz ⟨rfl, hw⟩
  subst wz
  go_wp2_with fail
  go_ret
  exact ⟨rfl, B⟩
end Go.Proofs.Ytkggpapmhopaeaa
