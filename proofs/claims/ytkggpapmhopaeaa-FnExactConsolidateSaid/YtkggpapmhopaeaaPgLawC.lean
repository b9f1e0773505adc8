/-
  The walk of the law of Consolidate.
-/
import Derived.Test.YtkggpapmhopaeaaPageU
import Derived.Test.YtkggpapmhopaeaaPgIn
import Derived.Deep.RegionWith
namespace Go.Proofs.Ytkggpapmhopaeaa
open Go.RowKit

theorem heap_lt {w : World} {b : Nat} {o : Obj} (h : w.heap[b]? = some o) : b < w.heap.size := (Array.getElem?_eq_some_iff.1 h).1
set_option maxRecDepth 100000 in
set_option maxHeartbeats 32000000 in
theorem lawConsolidate_any (lo hi : ByteArray) (r : Int) (ab : Option Addr) (nb cb : Nat) (es : List EntD) (ac : Option Addr) (nc cc : Nat) (ds : List DelD) (w : World) (hP : IsPage w lo hi ab nb es ac nc ds) :
    Calls Try.prog 7 #[pgv lo hi r ab nb cb ac nc cc] w fun e w' => e = .returned (.bool true) ∧ Below w.heap.size w w' := by
  have B : Below w.heap.size w (w.alloc (.cells #[.string lo, .string hi, .int .i64 r, .slice ab nb cb, .slice ac nc cc] 25)) := (Below.refl _ _).alloc (Nat.le_refl _) _
  have P := hide hP
  have K_a := hide (heap_alloc_new w (.cells #[.string lo, .string hi, .int .i64 r, .slice ab nb cb, .slice ac nc cc] 25))
  have z0 : (w.alloc (.cells #[.string lo, .string hi, .int .i64 r, .slice ab nb cb, .slice ac nc cc] 25)).heap.size = w.heap.size + 1 := by simp
  clear hP
  go_enter Try.func7, Try.ntmps7
  go_wp2_with fail
  generalize w.alloc (.cells #[.string lo, .string hi, .int .i64 r, .slice ab nb cb, .slice ac nc cc] 25) = W0 at *
  refine (szPage_any lo hi r ab nb cb es ac nc cc ds 1048576 W0 (by omega) (by omega) ((unhide P).below B)).mono ?_
  rintro e w1 ⟨q, rfl, hq, hb⟩
  replace K_a := hide ((hb.block w.heap.size (heap_lt (unhide K_a))).trans (unhide K_a))
  replace B := B.trans (hb.mono B.size)
  have zz_w1 := hb.size
  clear hb
  rcases hq with rfl | ⟨q0, q1, hnb, hnc⟩
  · go_wp2_with fail
    go_ret
    exact ⟨rfl, B⟩
  have hnb : nb ≤ 1048576 := by omega
  have hnc : nc ≤ 1048576 := by omega
  have hln : es.length ≤ 1048576 := by rw [(unhide P).1.1]; exact hnb
  have hlc : ds.length ≤ 1048576 := by rw [(unhide P).2.1.1]; exact hnc
  obtain ⟨p_a0, p_a1, p_a2, p_a3, p_a4⟩ := pg_cells5 (unhide K_a)
  go_wp2_with fail
  refine (toPage_any lo hi r ab nb cb es ac nc cc ds w1 hnb hnc ((unhide P).below B)).mono ?_
  rintro e w_t ⟨g_t, h_t, rfl, oo, hb⟩
  have O_t := hide (pgown_of oo)
  have I_t := fun i (h : PgBlk (some ⟨g_t, 0, none⟩) nb nb (some ⟨h_t, 0, none⟩) nc nc i) => (unhide O_t).blk h
  replace K_a := hide ((hb.block w.heap.size (heap_lt (unhide K_a))).trans (unhide K_a))
  replace B := B.trans (hb.mono B.size)
  have zz_w_t := hb.size
  clear hb oo
  clear p_a0 p_a1 p_a2 p_a3 p_a4
  go_wp2_with fail
  refine (specConsolidate_any lo hi r _ nb nb es _ nc nc ds w_t (erow_of_owns (unhide O_t).1) (drow_of_owns (unhide O_t).2.1) (fun h => by cases h)).mono ?_
  rintro e w3 ⟨a_w, n_w, c_w, rfl, oo, hb⟩
  clear O_t I_t
  have O_w := hide (show PgOwn w3 w_t.heap.size a_w n_w c_w none 0 0 (conP lo hi r es ds).es [] from ⟨oo, World.ownsRow_nil _ _ _ _, fun i _ h => by cases h⟩)
  have I_w := fun i (h : PgBlk a_w n_w c_w none 0 0 i) => (unhide O_w).blk h
  have hcl := conP_len lo hi r es ds
  have hnw : n_w = (conP lo hi r es ds).es.length := (unhide O_w).len.1
  have hnw2 : n_w ≤ 32 := by omega
  obtain ⟨cl, hcl1⟩ : ∃ x, x = (conP lo hi r es ds).lo := ⟨_, rfl⟩
  obtain ⟨ch, hch1⟩ : ∃ x, x = (conP lo hi r es ds).hi := ⟨_, rfl⟩
  obtain ⟨cr, hcr1⟩ : ∃ x, x = (conP lo hi r es ds).r := ⟨_, rfl⟩
  obtain ⟨ce, hce1⟩ : ∃ x, x = (conP lo hi r es ds).es := ⟨_, rfl⟩
  obtain ⟨ck, hck1⟩ : ∃ x, x = conC lo hi r es ds := ⟨_, rfl⟩
  rw [← hce1] at O_w hcl hnw
  rw [← hcl1, ← hch1, ← hcr1, ← hck1]
  have CON := hide (show ∀ W e W', ConRes lo hi r es ds W e W' → ∃ a n c, e = .returned (.tuple #[pgv cl ch cr a n c none 0 0, .int .i64 ck]) ∧ EOwns W' W.heap.size (.slice a n c) ce ∧ Below W.heap.size W W' from fun W e W' h => by rw [hcl1, hch1, hcr1, hce1, hck1]; exact h)
  clear hcl1 hch1 hcr1 hce1 hck1 oo
  have HNW := hide hnw
  clear hnw
  replace K_a := hide ((hb.block w.heap.size (heap_lt (unhide K_a))).trans (unhide K_a))
  replace B := B.trans (hb.mono B.size)
  have zz_w3 := hb.size
  clear hb
  have hb : Below w3.heap.size w3 (w3.alloc (.cells #[.string cl, .string ch, .int .i64 cr, .slice a_w n_w c_w, .slice none 0 0] 31)) := (Below.refl _ _).alloc (Nat.le_refl _) _
  replace K_a := hide ((hb.block w.heap.size (heap_lt (unhide K_a))).trans (unhide K_a))
  replace O_w := hide ((unhide O_w).below hb)
  replace B := B.trans (hb.mono B.size)
  have zz_zbx_w := hb.size
  have K_w := hide (heap_alloc_new w3 (.cells #[.string cl, .string ch, .int .i64 cr, .slice a_w n_w c_w, .slice none 0 0] 31))
  have zb_w : (w3.alloc (.cells #[.string cl, .string ch, .int .i64 cr, .slice a_w n_w c_w, .slice none 0 0] 31)).heap.size = w3.heap.size + 1 := by simp
  clear hb
  obtain ⟨p_a0, p_a1, p_a2, p_a3, p_a4⟩ := pg_cells5 (unhide K_a)
  go_wp2_with fail
  generalize w3.alloc (.cells #[.string cl, .string ch, .int .i64 cr, .slice a_w n_w c_w, .slice none 0 0] 31) = v_w at *
  generalize w3.heap.size = b_w at *
  refine (toPage_any lo hi r ab nb cb es ac nc cc ds v_w hnb hnc ((unhide P).below B)).mono ?_
  rintro e w_x ⟨g_x, h_x, rfl, oo, hb⟩
  have O_x := hide (pgown_of oo)
  have I_x := fun i (h : PgBlk (some ⟨g_x, 0, none⟩) nb nb (some ⟨h_x, 0, none⟩) nc nc i) => (unhide O_x).blk h
  replace K_a := hide ((hb.block w.heap.size (heap_lt (unhide K_a))).trans (unhide K_a))
  replace K_w := hide ((hb.block b_w (heap_lt (unhide K_w))).trans (unhide K_w))
  replace O_w := hide ((unhide O_w).below hb)
  replace B := B.trans (hb.mono B.size)
  have zz_w_x := hb.size
  clear hb oo
  clear p_a0 p_a1 p_a2 p_a3 p_a4
  have hb : Below w_x.heap.size w_x (w_x.alloc (.cells #[.string lo, .string hi, .int .i64 r, .slice (some ⟨g_x, 0, none⟩) nb nb, .slice (some ⟨h_x, 0, none⟩) nc nc] 31)) := (Below.refl _ _).alloc (Nat.le_refl _) _
  replace K_a := hide ((hb.block w.heap.size (heap_lt (unhide K_a))).trans (unhide K_a))
  replace K_w := hide ((hb.block b_w (heap_lt (unhide K_w))).trans (unhide K_w))
  replace O_w := hide ((unhide O_w).below hb)
  replace O_x := hide ((unhide O_x).below hb)
  replace B := B.trans (hb.mono B.size)
  have zz_zbx_x := hb.size
  have K_x := hide (heap_alloc_new w_x (.cells #[.string lo, .string hi, .int .i64 r, .slice (some ⟨g_x, 0, none⟩) nb nb, .slice (some ⟨h_x, 0, none⟩) nc nc] 31))
  have zb_x : (w_x.alloc (.cells #[.string lo, .string hi, .int .i64 r, .slice (some ⟨g_x, 0, none⟩) nb nb, .slice (some ⟨h_x, 0, none⟩) nc nc] 31)).heap.size = w_x.heap.size + 1 := by simp
  clear hb
  obtain ⟨p_x0, p_x1, p_x2, p_x3, p_x4⟩ := pg_cells5 (unhide K_x)
  go_wp2_with fail
  generalize w_x.alloc (.cells #[.string lo, .string hi, .int .i64 r, .slice (some ⟨g_x, 0, none⟩) nb nb, .slice (some ⟨h_x, 0, none⟩) nc nc] 31) = v_x at *
  generalize w_x.heap.size = b_x at *
  refine (implConsolidate_any lo hi r _ nb nb es _ nc nc ds v_x (erow_of_owns (unhide O_x).1) (drow_of_owns (unhide O_x).2.1)).mono ?_
  intro e w_g hcon
  obtain ⟨a_g, n_g, c_g, rfl, oo, hb⟩ := unhide CON _ _ _ hcon
  clear hcon
  have O_g := hide (show PgOwn w_g v_x.heap.size a_g n_g c_g none 0 0 ce [] from ⟨oo, World.ownsRow_nil _ _ _ _, fun i _ h => by cases h⟩)
  have I_g := fun i (h : PgBlk a_g n_g c_g none 0 0 i) => (unhide O_g).blk h
  have N_g := hide (unhide O_g).len.1
  have n32_g : n_g ≤ 32 := by have := unhide N_g; omega
  clear oo
  replace K_a := hide ((hb.block w.heap.size (heap_lt (unhide K_a))).trans (unhide K_a))
  replace K_w := hide ((hb.block b_w (heap_lt (unhide K_w))).trans (unhide K_w))
  replace K_x := hide ((hb.block b_x (heap_lt (unhide K_x))).trans (unhide K_x))
  replace O_w := hide ((unhide O_w).below hb)
  replace O_x := hide ((unhide O_x).below hb)
  replace B := B.trans (hb.mono B.size)
  have zz_w_g := hb.size
  clear hb
  clear p_x0 p_x1 p_x2 p_x3 p_x4
  have hb : Below w_g.heap.size w_g (w_g.alloc (.cells #[.string cl, .string ch, .int .i64 cr, .slice a_g n_g c_g, .slice none 0 0] 31)) := (Below.refl _ _).alloc (Nat.le_refl _) _
  replace K_a := hide ((hb.block w.heap.size (heap_lt (unhide K_a))).trans (unhide K_a))
  replace K_w := hide ((hb.block b_w (heap_lt (unhide K_w))).trans (unhide K_w))
  replace K_x := hide ((hb.block b_x (heap_lt (unhide K_x))).trans (unhide K_x))
  replace O_w := hide ((unhide O_w).below hb)
  replace O_x := hide ((unhide O_x).below hb)
  replace O_g := hide ((unhide O_g).below hb)
  replace B := B.trans (hb.mono B.size)
  have zz_zbx_g := hb.size
  have K_g := hide (heap_alloc_new w_g (.cells #[.string cl, .string ch, .int .i64 cr, .slice a_g n_g c_g, .slice none 0 0] 31))
  have zb_g : (w_g.alloc (.cells #[.string cl, .string ch, .int .i64 cr, .slice a_g n_g c_g, .slice none 0 0] 31)).heap.size = w_g.heap.size + 1 := by simp
  clear hb
  obtain ⟨p_g0, p_g1, p_g2, p_g3, p_g4⟩ := pg_cells5 (unhide K_g)
  obtain ⟨p_w0, p_w1, p_w2, p_w3, p_w4⟩ := pg_cells5 (unhide K_w)
  go_wp2_with fail
  generalize w_g.alloc (.cells #[.string cl, .string ch, .int .i64 cr, .slice a_g n_g c_g, .slice none 0 0] 31) = v_g at *
  generalize w_g.heap.size = b_g at *
  refine (eqPage_own cl ch cr _ _ a_g n_g c_g none 0 0 a_w n_w c_w none 0 0 ce [] v_g (unhide O_g) (unhide O_w) (by omega) (by simp)).mono ?_
  rintro e e0 ⟨rfl, hb⟩
  replace K_a := hide ((hb.block w.heap.size (heap_lt (unhide K_a))).trans (unhide K_a))
  replace K_w := hide ((hb.block b_w (heap_lt (unhide K_w))).trans (unhide K_w))
  replace K_x := hide ((hb.block b_x (heap_lt (unhide K_x))).trans (unhide K_x))
  replace K_g := hide ((hb.block b_g (heap_lt (unhide K_g))).trans (unhide K_g))
  replace O_w := hide ((unhide O_w).below hb)
  replace O_x := hide ((unhide O_x).below hb)
  replace O_g := hide ((unhide O_g).below hb)
  replace B := B.trans (hb.mono B.size)
  have zz_e0 := hb.size
  clear hb
  clear p_g0 p_g1 p_g2 p_g3 p_g4
  clear p_w0 p_w1 p_w2 p_w3 p_w4
  obtain ⟨p_a0, p_a1, p_a2, p_a3, p_a4⟩ := pg_cells5 (unhide K_a)
  obtain ⟨p_x0, p_x1, p_x2, p_x3, p_x4⟩ := pg_cells5 (unhide K_x)
  have KP := hide (show ∀ w', w' = e0 ∨ w' = e0.drew ∨ (∃ n, w' = e0.drewN n) → Calls Try.prog 11 #[pgv lo hi r ab nb cb ac nc cc] w' fun e w7 => ∃ g' h', e = .returned (pgv lo hi r (some ⟨g', 0, none⟩) nb nb (some ⟨h', 0, none⟩) nc nc) ∧ OwnPage w7 e0.heap.size g' h' nb nc es ds ∧ Below e0.heap.size e0 w7 from fun w' h' => by
    rcases h' with rfl | rfl | ⟨n, rfl⟩
    · exact toPage_any lo hi r ab nb cb es ac nc cc ds _ hnb hnc ((unhide P).below B)
    · refine (toPage_any lo hi r ab nb cb es ac nc cc ds e0.drew hnb hnc ((unhide P).below B.drew)).mono ?_
      rintro e w7 ⟨g', h', e, o, b⟩
      exact ⟨g', h', e, o, bel_of_drew b⟩
    · refine (toPage_any lo hi r ab nb cb es ac nc cc ds (e0.drewN n) hnb hnc ((unhide P).below (bel_drewN B n))).mono ?_
      rintro e w7 ⟨g', h', e, o, b⟩
      exact ⟨g', h', e, o, bel_of_drewN b⟩)
  have YP := hide (show ∀ w7, Below e0.heap.size e0 w7 → _ ∧ PgOwn w7 _ (some ⟨g_x, 0, none⟩) nb nb (some ⟨h_x, 0, none⟩) nc nc es ds from fun w7 hb => ⟨pg_cells5 ((hb.block b_x (heap_lt (unhide K_x))).trans (unhide K_x)), (unhide O_x).below hb⟩)
  go_wp2_with fail
  go_region_with (first
    | (go_at_call 11; refine (unhide KP _ (by first | exact .inl rfl | exact .inr (.inl rfl) | exact .inr (.inr ⟨_, rfl⟩))).mono ?_; rintro e w7 ⟨g', h', rfl, o7, b7⟩; obtain ⟨⟨t0', t1', t2', t3', t4'⟩, o7'⟩ := unhide YP w7 b7; have H7 := hide (pgown_of o7); have H7' := hide o7'; clear o7 o7')
    | (go_at_call 13; refine (eqPage_own lo hi r _ _ _ _ _ _ _ _ _ _ _ _ _ _ es ds _ (unhide H7') (unhide H7) hln hlc).mono ?_; rintro e w8 ⟨rfl, b8⟩; have b78 := b7.trans (b8.mono b7.size); clear b8))
  all_goals
    clear t0' t1' t2' t3' t4' H7 H7' b7 KP YP
    clear p_a0 p_a1 p_a2 p_a3 p_a4
    clear p_x0 p_x1 p_x2 p_x3 p_x4
    replace K_a := hide ((b78.block w.heap.size (heap_lt (unhide K_a))).trans (unhide K_a))
    replace K_w := hide ((b78.block b_w (heap_lt (unhide K_w))).trans (unhide K_w))
    replace K_x := hide ((b78.block b_x (heap_lt (unhide K_x))).trans (unhide K_x))
    replace K_g := hide ((b78.block b_g (heap_lt (unhide K_g))).trans (unhide K_g))
    replace O_w := hide ((unhide O_w).below b78)
    replace O_x := hide ((unhide O_x).below b78)
    replace O_g := hide ((unhide O_g).below b78)
    replace B := B.trans (b78.mono B.size)
    have zz_w8 := b78.size
    clear b78
    obtain ⟨p_x0, p_x1, p_x2, p_x3, p_x4⟩ := pg_cells5 (unhide K_x)
    go_wp2_with fail
    refine (markPage_own lo hi r _ 1 _ nb nb _ nc nc es ds w8 (unhide O_x) (by omega) (by omega)).mono ?_
    rintro e wm ⟨rfl, oo, hw⟩
    clear p_x0 p_x1 p_x2 p_x3 p_x4
    clear O_x
    replace K_a := hide ((hw.block w.heap.size (heap_lt (unhide K_a)) (fun h => by have := I_x _ h; omega)).trans (unhide K_a))
    replace K_w := hide ((hw.block b_w (heap_lt (unhide K_w)) (fun h => by have := I_x _ h; omega)).trans (unhide K_w))
    replace K_x := hide ((hw.block b_x (heap_lt (unhide K_x)) (fun h => by have := I_x _ h; omega)).trans (unhide K_x))
    replace K_g := hide ((hw.block b_g (heap_lt (unhide K_g)) (fun h => by have := I_x _ h; omega)).trans (unhide K_g))
    replace O_w := hide ((unhide O_w).wr hw (fun i hi h => by have h1 := I_w _ hi; have h2 := I_x _ h; omega))
    replace O_g := hide ((unhide O_g).wr hw (fun i hi h => by have h1 := I_g _ hi; have h2 := I_x _ h; omega))
    replace B := B.trans (hw.below (fun i h => by have := I_x _ h; omega) B.size)
    have zz_wm := hw.size
    clear hw oo
    have hk0 : ¬ (((1 + 2 * nb + 4 * nc : Nat) : Int) < 0) := by omega
    generalize (1 + 2 * nb + 4 * nc : Nat) = km at *
    obtain ⟨p_g0, p_g1, p_g2, p_g3, p_g4⟩ := pg_cells5 (unhide K_g)
    obtain ⟨p_w0, p_w1, p_w2, p_w3, p_w4⟩ := pg_cells5 (unhide K_w)
    go_wp2_with fail
    refine (eqPage_own cl ch cr _ _ a_g n_g c_g none 0 0 a_w n_w c_w none 0 0 ce [] wm (unhide O_g) (unhide O_w) (by omega) (by simp)).mono ?_
    rintro e e1 ⟨rfl, hb⟩
    replace K_a := hide ((hb.block w.heap.size (heap_lt (unhide K_a))).trans (unhide K_a))
    replace K_w := hide ((hb.block b_w (heap_lt (unhide K_w))).trans (unhide K_w))
    replace K_x := hide ((hb.block b_x (heap_lt (unhide K_x))).trans (unhide K_x))
    replace K_g := hide ((hb.block b_g (heap_lt (unhide K_g))).trans (unhide K_g))
    replace O_w := hide ((unhide O_w).below hb)
    replace O_g := hide ((unhide O_g).below hb)
    replace B := B.trans (hb.mono B.size)
    have zz_e1 := hb.size
    clear hb
    clear p_g0 p_g1 p_g2 p_g3 p_g4
    clear p_w0 p_w1 p_w2 p_w3 p_w4
    obtain ⟨p_g0, p_g1, p_g2, p_g3, p_g4⟩ := pg_cells5 (unhide K_g)
    go_wp2_with fail
    refine (markPage_own cl ch cr _ 1 a_g n_g c_g none 0 0 ce [] e1 (unhide O_g) (by omega) (by omega)).mono ?_
    rintro e wn ⟨rfl, oo, hw⟩
    clear p_g0 p_g1 p_g2 p_g3 p_g4
    replace O_g := hide oo
    replace K_a := hide ((hw.block w.heap.size (heap_lt (unhide K_a)) (fun h => by have := I_g _ h; omega)).trans (unhide K_a))
    replace K_w := hide ((hw.block b_w (heap_lt (unhide K_w)) (fun h => by have := I_g _ h; omega)).trans (unhide K_w))
    replace K_x := hide ((hw.block b_x (heap_lt (unhide K_x)) (fun h => by have := I_g _ h; omega)).trans (unhide K_x))
    replace K_g := hide ((hw.block b_g (heap_lt (unhide K_g)) (fun h => by have := I_g _ h; omega)).trans (unhide K_g))
    replace O_w := hide ((unhide O_w).wr hw (fun i hi h => by have h1 := I_w _ hi; have h2 := I_g _ h; omega))
    replace B := B.trans (hw.below (fun i h => by have := I_g _ h; omega) B.size)
    have zz_wn := hw.size
    clear hw oo
    obtain ⟨p_g0, p_g1, p_g2, p_g3, p_g4⟩ := pg_cells5 (unhide K_g)
    go_wp2_with fail
    refine (heldPage_own cl ch cr _ 1 a_g n_g c_g none 0 0 wn (unhide O_g) (by omega) (by omega)).mono ?_
    rintro e h2 ⟨rfl, hb⟩
    replace K_a := hide ((hb.block w.heap.size (heap_lt (unhide K_a))).trans (unhide K_a))
    replace K_w := hide ((hb.block b_w (heap_lt (unhide K_w))).trans (unhide K_w))
    replace K_x := hide ((hb.block b_x (heap_lt (unhide K_x))).trans (unhide K_x))
    replace K_g := hide ((hb.block b_g (heap_lt (unhide K_g))).trans (unhide K_g))
    replace O_w := hide ((unhide O_w).below hb)
    replace O_g := hide ((unhide O_g).below hb)
    replace B := B.trans (hb.mono B.size)
    have zz_h2 := hb.size
    clear hb
    clear p_g0 p_g1 p_g2 p_g3 p_g4
    obtain ⟨p_a0, p_a1, p_a2, p_a3, p_a4⟩ := pg_cells5 (unhide K_a)
    go_wp2_with fail
    refine (toPage_any lo hi r ab nb cb es ac nc cc ds h2 hnb hnc ((unhide P).below B)).mono ?_
    rintro e w_y ⟨g_y, h_y, rfl, oo, hb⟩
    have O_y := hide (pgown_of oo)
    have I_y := fun i (h : PgBlk (some ⟨g_y, 0, none⟩) nb nb (some ⟨h_y, 0, none⟩) nc nc i) => (unhide O_y).blk h
    replace K_a := hide ((hb.block w.heap.size (heap_lt (unhide K_a))).trans (unhide K_a))
    replace K_w := hide ((hb.block b_w (heap_lt (unhide K_w))).trans (unhide K_w))
    replace K_x := hide ((hb.block b_x (heap_lt (unhide K_x))).trans (unhide K_x))
    replace K_g := hide ((hb.block b_g (heap_lt (unhide K_g))).trans (unhide K_g))
    replace O_w := hide ((unhide O_w).below hb)
    replace O_g := hide ((unhide O_g).below hb)
    replace B := B.trans (hb.mono B.size)
    have zz_w_y := hb.size
    clear hb oo
    clear p_a0 p_a1 p_a2 p_a3 p_a4
    go_wp2_with fail
    refine (implConsolidate_any lo hi r _ nb nb es _ nc nc ds w_y (erow_of_owns (unhide O_y).1) (drow_of_owns (unhide O_y).2.1)).mono ?_
    intro e w_h hcon
    obtain ⟨a_h, n_h, c_h, rfl, oo, hb⟩ := unhide CON _ _ _ hcon
    clear hcon
    have O_h := hide (show PgOwn w_h w_y.heap.size a_h n_h c_h none 0 0 ce [] from ⟨oo, World.ownsRow_nil _ _ _ _, fun i _ h => by cases h⟩)
    have I_h := fun i (h : PgBlk a_h n_h c_h none 0 0 i) => (unhide O_h).blk h
    have N_h := hide (unhide O_h).len.1
    have n32_h : n_h ≤ 32 := by have := unhide N_h; omega
    clear oo
    replace K_a := hide ((hb.block w.heap.size (heap_lt (unhide K_a))).trans (unhide K_a))
    replace K_w := hide ((hb.block b_w (heap_lt (unhide K_w))).trans (unhide K_w))
    replace K_x := hide ((hb.block b_x (heap_lt (unhide K_x))).trans (unhide K_x))
    replace K_g := hide ((hb.block b_g (heap_lt (unhide K_g))).trans (unhide K_g))
    replace O_w := hide ((unhide O_w).below hb)
    replace O_g := hide ((unhide O_g).below hb)
    replace O_y := hide ((unhide O_y).below hb)
    replace B := B.trans (hb.mono B.size)
    have zz_w_h := hb.size
    clear hb
    have hb : Below w_h.heap.size w_h (w_h.alloc (.cells #[.string cl, .string ch, .int .i64 cr, .slice a_h n_h c_h, .slice none 0 0] 31)) := (Below.refl _ _).alloc (Nat.le_refl _) _
    replace K_a := hide ((hb.block w.heap.size (heap_lt (unhide K_a))).trans (unhide K_a))
    replace K_w := hide ((hb.block b_w (heap_lt (unhide K_w))).trans (unhide K_w))
    replace K_x := hide ((hb.block b_x (heap_lt (unhide K_x))).trans (unhide K_x))
    replace K_g := hide ((hb.block b_g (heap_lt (unhide K_g))).trans (unhide K_g))
    replace O_w := hide ((unhide O_w).below hb)
    replace O_g := hide ((unhide O_g).below hb)
    replace O_y := hide ((unhide O_y).below hb)
    replace O_h := hide ((unhide O_h).below hb)
    replace B := B.trans (hb.mono B.size)
    have zz_zbx_h := hb.size
    have K_h := hide (heap_alloc_new w_h (.cells #[.string cl, .string ch, .int .i64 cr, .slice a_h n_h c_h, .slice none 0 0] 31))
    have zb_h : (w_h.alloc (.cells #[.string cl, .string ch, .int .i64 cr, .slice a_h n_h c_h, .slice none 0 0] 31)).heap.size = w_h.heap.size + 1 := by simp
    clear hb
    obtain ⟨p_h0, p_h1, p_h2, p_h3, p_h4⟩ := pg_cells5 (unhide K_h)
    obtain ⟨p_w0, p_w1, p_w2, p_w3, p_w4⟩ := pg_cells5 (unhide K_w)
    go_wp2_with fail
    generalize w_h.alloc (.cells #[.string cl, .string ch, .int .i64 cr, .slice a_h n_h c_h, .slice none 0 0] 31) = v_h at *
    generalize w_h.heap.size = b_h at *
    clear O_y I_y
    refine (eqPage_own cl ch cr _ _ a_h n_h c_h none 0 0 a_w n_w c_w none 0 0 ce [] v_h (unhide O_h) (unhide O_w) (by omega) (by simp)).mono ?_
    rintro e e3 ⟨rfl, hb⟩
    replace K_a := hide ((hb.block w.heap.size (heap_lt (unhide K_a))).trans (unhide K_a))
    replace K_w := hide ((hb.block b_w (heap_lt (unhide K_w))).trans (unhide K_w))
    replace K_x := hide ((hb.block b_x (heap_lt (unhide K_x))).trans (unhide K_x))
    replace K_g := hide ((hb.block b_g (heap_lt (unhide K_g))).trans (unhide K_g))
    replace K_h := hide ((hb.block b_h (heap_lt (unhide K_h))).trans (unhide K_h))
    replace O_w := hide ((unhide O_w).below hb)
    replace O_g := hide ((unhide O_g).below hb)
    replace O_h := hide ((unhide O_h).below hb)
    replace B := B.trans (hb.mono B.size)
    have zz_e3 := hb.size
    clear hb
    clear p_h0 p_h1 p_h2 p_h3 p_h4
    clear p_w0 p_w1 p_w2 p_w3 p_w4
    obtain ⟨p_g0, p_g1, p_g2, p_g3, p_g4⟩ := pg_cells5 (unhide K_g)
    go_wp2_with fail
    refine (heldPage_own cl ch cr _ 1 a_g n_g c_g none 0 0 e3 (unhide O_g) (by omega) (by omega)).mono ?_
    rintro e h4 ⟨rfl, hb⟩
    replace K_a := hide ((hb.block w.heap.size (heap_lt (unhide K_a))).trans (unhide K_a))
    replace K_w := hide ((hb.block b_w (heap_lt (unhide K_w))).trans (unhide K_w))
    replace K_x := hide ((hb.block b_x (heap_lt (unhide K_x))).trans (unhide K_x))
    replace K_g := hide ((hb.block b_g (heap_lt (unhide K_g))).trans (unhide K_g))
    replace K_h := hide ((hb.block b_h (heap_lt (unhide K_h))).trans (unhide K_h))
    replace O_w := hide ((unhide O_w).below hb)
    replace O_g := hide ((unhide O_g).below hb)
    replace O_h := hide ((unhide O_h).below hb)
    replace B := B.trans (hb.mono B.size)
    have zz_h4 := hb.size
    clear hb
    clear p_g0 p_g1 p_g2 p_g3 p_g4
    go_wp2_with fail
    go_ret
    exact ⟨rfl, B⟩
end Go.Proofs.Ytkggpapmhopaeaa
