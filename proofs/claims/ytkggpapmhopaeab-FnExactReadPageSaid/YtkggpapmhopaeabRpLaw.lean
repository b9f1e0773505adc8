/-
  The walk of the law of ReadPage.
-/
import Derived.Test.YtkggpapmhopaeabRpV
import Derived.Test.YtkggpapmhopaeabPbB
import Derived.Test.YtkggpapmhopaeabTo
namespace Go.Proofs.Ytkggpapmhopaeab
open Go.RowKit

theorem row_growR {w w' : World} {a : Option Addr} {n : Nat} {xs : List Int} (h : Row w a n xs) (hb : Below w.heap.size w w') : Row w' a n xs := by
  refine ⟨h.1, fun i hi => ?_⟩
  obtain ⟨b, off, e, c⟩ := h.2 i hi
  exact ⟨b, off, e, (hb.cell (p := ⟨b, off + i, none⟩) (cell_lt c)).trans c⟩
theorem ByR.wr {P : Nat → Prop} {w w' : World} {B n : Nat} {a : Option Addr} {xs : List Int} (h : ByR w B a n xs) (hw : Wr P w w') (hp : ∀ x, a = some x → ¬ P x.block) : ByR w' B a n xs :=
  h.of_blocks hw.size (fun x hx => hw.block x.block (h.own x hx).2.1 (hp x hx))
theorem rdP_len (xs : List Int) : (rdP xs).es.length ≤ 32 ∧ (rdP xs).ds.length ≤ 12 := by
  unfold rdP
  split
  · exact ⟨by simp [noPg], by simp [noPg]⟩
  · split
    · rename_i h
      unfold rdOK at h
      have h2 : okPage (rPage (xs, false)).1.lo (rPage (xs, false)).1.hi (rPage (xs, false)).1.r (rPage (xs, false)).1.es (rPage (xs, false)).1.ds = true := by
        generalize okPage _ _ _ _ _ = b at *
        generalize rPage (xs, false) = q at *
        cases b with
        | true => rfl
        | false => simp at h
      unfold okPage at h2
      simp at h2
      exact ⟨by omega, by omega⟩
    · exact ⟨by simp [noPg], by simp [noPg]⟩
set_option maxRecDepth 100000 in
set_option maxHeartbeats 1500000 in
theorem lawReadPage_any (a : Option Addr) (n c : Nat) (zs : List Int) (w : World) (h : IsRow .u8 w a n c zs) :
    Calls Try.prog 3 #[.slice a n c] w fun e w' => e = .returned (.bool true) ∧ Below w.heap.size w w' := by
  obtain ⟨hR, hn, _⟩ := row_of_isRow h
  have hby := bytes_of_isRow h
  obtain ⟨xs, hxs⟩ : ∃ xs, xs = zs.take n := ⟨_, rfl⟩
  rw [← hxs] at hR hby
  have BY := hide (show By xs from fun x hx => by
    obtain ⟨i, hi, e⟩ := List.getElem_of_mem hx
    have := hby i (by rw [← hR.1]; exact hi)
    simpa [List.getD_eq_getElem?_getD, hi, e] using this)
  have P := hide hR
  clear h hby hxs hR
  by_cases hlong : 1048576 < n
  · have hi : (1048576 : Int) < (n : Int) := by omega
    go_enter Try.func3, Try.ntmps3
    go_wp2_with fail
    go_ret
    exact ⟨rfl, Below.refl _ _⟩
  have hi : ¬ ((1048576 : Int) < (n : Int)) := by omega
  have hn2 : n ≤ 1048576 := by omega
  have B := Below.refl w.heap.size w
  have hLx := (unhide P).1
  have LX := hide hLx
  clear hLx
  obtain ⟨q, hq⟩ : ∃ q, q = rdP xs := ⟨_, rfl⟩
  obtain ⟨C, hC⟩ : ∃ x, x = rdC xs := ⟨_, rfl⟩
  have hql : q.es.length ≤ 32 ∧ q.ds.length ≤ 12 := by rw [hq]; exact rdP_len xs
  have CON := hide (show ∀ W e W', RpRes xs W e W' → ∃ a n c a2 n2 c2, e = .returned (.tuple #[pgv q.lo q.hi q.r a n c a2 n2 c2, .int .i64 C]) ∧ PgOwn W' W.heap.size a n c a2 n2 c2 q.es q.ds ∧ Below W.heap.size W W' from fun W e W' h => by rw [hq, hC]; exact h)
  have hCC : (C != C) = false := by simp
  clear hq hC
  go_enter Try.func3, Try.ntmps3
  go_wp2_with fail
  refine (toByteS_at a n c xs w hn2 (row_growR (unhide P) B)).mono ?_
  rintro e w_t ⟨rfl, hM, hb⟩
  obtain ⟨a_t, ha_t⟩ : ∃ x, x = some (⟨w.heap.size, 0, none⟩ : Addr) := ⟨_, rfl⟩
  rw [← ha_t] at hM ⊢
  have R_t := hide (show ByR w_t w.heap.size a_t n xs from by_of_mine hM (unhide LX))
  have J_t := (unhide R_t).own'
  clear hM ha_t
  replace B := B.trans (hb.mono B.size)
  have zz_w_t := hb.size
  clear hb
  go_wp2_with fail
  refine (specReadPage_any a_t n n xs w_t (unhide R_t).row (unhide BY) (Nat.le_refl _) (fun x hx => ((unhide R_t).own x hx).2.1)).mono ?_
  intro e w_w hcon
  obtain ⟨a_w, n_w, c_w, u_w, v_w, x_w, rfl, oo, hb⟩ := unhide CON _ _ _ hcon
  clear hcon
  have O_w := hide oo
  have I_w := fun i (h : PgBlk a_w n_w c_w u_w v_w x_w i) => oo.blk h
  have N_w := hide oo.len
  have n32_w : n_w ≤ 32 ∧ v_w ≤ 12 := by have := unhide N_w; omega
  clear oo
  replace R_t := hide ((unhide R_t).below hb)
  replace B := B.trans (hb.mono B.size)
  have zz_w_w := hb.size
  clear hb
  have hb : Below w_w.heap.size w_w (w_w.alloc (.cells #[.string q.lo, .string q.hi, .int .i64 q.r, .slice a_w n_w c_w, .slice u_w v_w x_w] 26)) := (Below.refl _ _).alloc (Nat.le_refl _) _
  replace R_t := hide ((unhide R_t).below hb)
  replace O_w := hide ((unhide O_w).below hb)
  replace B := B.trans (hb.mono B.size)
  have zz_zbx_w := hb.size
  have K_w := hide (heap_alloc_new w_w (.cells #[.string q.lo, .string q.hi, .int .i64 q.r, .slice a_w n_w c_w, .slice u_w v_w x_w] 26))
  have zb_w : (w_w.alloc (.cells #[.string q.lo, .string q.hi, .int .i64 q.r, .slice a_w n_w c_w, .slice u_w v_w x_w] 26)).heap.size = w_w.heap.size + 1 := by simp
  clear hb
  clear R_t J_t
  go_wp2_with fail
  generalize w_w.alloc (.cells #[.string q.lo, .string q.hi, .int .i64 q.r, .slice a_w n_w c_w, .slice u_w v_w x_w] 26) = y_w at *
  generalize w_w.heap.size = b_w at *
  replace zb_w : b_w < y_w.heap.size := by omega
  refine (toByteS_at a n c xs y_w hn2 (row_growR (unhide P) B)).mono ?_
  rintro e w_x ⟨rfl, hM, hb⟩
  obtain ⟨a_x, ha_x⟩ : ∃ x, x = some (⟨y_w.heap.size, 0, none⟩ : Addr) := ⟨_, rfl⟩
  rw [← ha_x] at hM ⊢
  have R_x := hide (show ByR w_x y_w.heap.size a_x n xs from by_of_mine hM (unhide LX))
  have J_x := (unhide R_x).own'
  clear hM ha_x
  replace K_w := hide ((hb.block b_w (heap_lt1 (unhide K_w))).trans (unhide K_w))
  replace O_w := hide ((unhide O_w).below hb)
  replace B := B.trans (hb.mono B.size)
  have zz_w_x := hb.size
  clear hb
  go_wp2_with fail
  refine (implReadPage_any a_x n n xs w_x (unhide R_x).row (unhide BY) (Nat.le_refl _) (fun x hx => ((unhide R_x).own x hx).2.1)).mono ?_
  intro e w_g hcon
  obtain ⟨a_g, n_g, c_g, u_g, v_g, x_g, rfl, oo, hb⟩ := unhide CON _ _ _ hcon
  clear hcon
  have O_g := hide oo
  have I_g := fun i (h : PgBlk a_g n_g c_g u_g v_g x_g i) => oo.blk h
  have N_g := hide oo.len
  have n32_g : n_g ≤ 32 ∧ v_g ≤ 12 := by have := unhide N_g; omega
  clear oo
  replace R_x := hide ((unhide R_x).below hb)
  replace K_w := hide ((hb.block b_w (heap_lt1 (unhide K_w))).trans (unhide K_w))
  replace O_w := hide ((unhide O_w).below hb)
  replace B := B.trans (hb.mono B.size)
  have zz_w_g := hb.size
  clear hb
  have hb : Below w_g.heap.size w_g (w_g.alloc (.cells #[.string q.lo, .string q.hi, .int .i64 q.r, .slice a_g n_g c_g, .slice u_g v_g x_g] 26)) := (Below.refl _ _).alloc (Nat.le_refl _) _
  replace R_x := hide ((unhide R_x).below hb)
  replace K_w := hide ((hb.block b_w (heap_lt1 (unhide K_w))).trans (unhide K_w))
  replace O_w := hide ((unhide O_w).below hb)
  replace O_g := hide ((unhide O_g).below hb)
  replace B := B.trans (hb.mono B.size)
  have zz_zbx_g := hb.size
  have K_g := hide (heap_alloc_new w_g (.cells #[.string q.lo, .string q.hi, .int .i64 q.r, .slice a_g n_g c_g, .slice u_g v_g x_g] 26))
  have zb_g : (w_g.alloc (.cells #[.string q.lo, .string q.hi, .int .i64 q.r, .slice a_g n_g c_g, .slice u_g v_g x_g] 26)).heap.size = w_g.heap.size + 1 := by simp
  clear hb
  obtain ⟨p_g0, p_g1, p_g2, p_g3, p_g4⟩ := five_at (unhide K_g)
  obtain ⟨p_w0, p_w1, p_w2, p_w3, p_w4⟩ := five_at (unhide K_w)
  go_wp2_with fail
  generalize w_g.alloc (.cells #[.string q.lo, .string q.hi, .int .i64 q.r, .slice a_g n_g c_g, .slice u_g v_g x_g] 26) = y_g at *
  generalize w_g.heap.size = b_g at *
  replace zb_g : b_g < y_g.heap.size := by omega
  refine (eqPage_own q.lo q.hi q.r _ _ a_g n_g c_g u_g v_g x_g a_w n_w c_w u_w v_w x_w q.es q.ds y_g (unhide O_g) (unhide O_w) (by omega) (by omega)).mono ?_
  rintro e e0 ⟨rfl, hb⟩
  replace R_x := hide ((unhide R_x).below hb)
  replace K_w := hide ((hb.block b_w (heap_lt1 (unhide K_w))).trans (unhide K_w))
  replace K_g := hide ((hb.block b_g (heap_lt1 (unhide K_g))).trans (unhide K_g))
  replace O_w := hide ((unhide O_w).below hb)
  replace O_g := hide ((unhide O_g).below hb)
  replace B := B.trans (hb.mono B.size)
  have zz_e0 := hb.size
  clear hb
  clear p_g0 p_g1 p_g2 p_g3 p_g4
  clear p_w0 p_w1 p_w2 p_w3 p_w4
  go_wp2_with fail
  refine (toByteS_at a n c xs e0 hn2 (row_growR (unhide P) B)).mono ?_
  rintro e w_y ⟨rfl, hM, hb⟩
  obtain ⟨a_y, ha_y⟩ : ∃ x, x = some (⟨e0.heap.size, 0, none⟩ : Addr) := ⟨_, rfl⟩
  rw [← ha_y] at hM ⊢
  have R_y := hide (show ByR w_y e0.heap.size a_y n xs from by_of_mine hM (unhide LX))
  have J_y := (unhide R_y).own'
  clear hM ha_y
  replace R_x := hide ((unhide R_x).below hb)
  replace K_w := hide ((hb.block b_w (heap_lt1 (unhide K_w))).trans (unhide K_w))
  replace K_g := hide ((hb.block b_g (heap_lt1 (unhide K_g))).trans (unhide K_g))
  replace O_w := hide ((unhide O_w).below hb)
  replace O_g := hide ((unhide O_g).below hb)
  replace B := B.trans (hb.mono B.size)
  have zz_w_y := hb.size
  clear hb
  go_wp2_with fail
  refine (eqBytes_sameP a_x a_y n n n xs w_y hn (unhide R_x).row (unhide R_y).row).mono ?_
  rintro e e9 ⟨rfl, hb⟩
  replace R_x := hide ((unhide R_x).below hb)
  replace R_y := hide ((unhide R_y).below hb)
  replace K_w := hide ((hb.block b_w (heap_lt1 (unhide K_w))).trans (unhide K_w))
  replace K_g := hide ((hb.block b_g (heap_lt1 (unhide K_g))).trans (unhide K_g))
  replace O_w := hide ((unhide O_w).below hb)
  replace O_g := hide ((unhide O_g).below hb)
  replace B := B.trans (hb.mono B.size)
  have zz_e9 := hb.size
  clear hb R_y J_y
  go_wp2_with fail
  refine (markByteS_any a_x n n xs 1 e9 (by omega) (by omega) (by omega) (unhide R_x).row (fun x hx => ((unhide R_x).own x hx).2.2)).mono ?_
  rintro e wm ⟨rfl, rr, ht⟩
  replace R_x := hide ((unhide R_x).marked rr ht)
  have hw := wr_touch ht
  replace K_w := hide ((hw.block b_w (heap_lt1 (unhide K_w)) (fun ⟨x, hx, e⟩ => by have := J_x x hx; omega)).trans (unhide K_w))
  replace K_g := hide ((hw.block b_g (heap_lt1 (unhide K_g)) (fun ⟨x, hx, e⟩ => by have := J_x x hx; omega)).trans (unhide K_g))
  replace O_w := hide ((unhide O_w).wr hw (fun i hi ⟨x, hx, e⟩ => by have h1 := I_w _ hi; have h2 := J_x x hx; omega))
  replace O_g := hide ((unhide O_g).wr hw (fun i hi ⟨x, hx, e⟩ => by have h1 := I_g _ hi; have h2 := J_x x hx; omega))
  replace B := B.trans (hw.below (fun i ⟨x, hx, e⟩ => by have := J_x x hx; omega) B.size)
  have zz_wm := hw.size
  clear hw
  clear rr ht R_x
  have hk0 : ¬ ((1 : Int) + (n : Int) < 0) := by omega
  obtain ⟨p_g0, p_g1, p_g2, p_g3, p_g4⟩ := five_at (unhide K_g)
  obtain ⟨p_w0, p_w1, p_w2, p_w3, p_w4⟩ := five_at (unhide K_w)
  go_wp2_with fail
  refine (eqPage_own q.lo q.hi q.r _ _ a_g n_g c_g u_g v_g x_g a_w n_w c_w u_w v_w x_w q.es q.ds wm (unhide O_g) (unhide O_w) (by omega) (by omega)).mono ?_
  rintro e e1 ⟨rfl, hb⟩
  replace K_w := hide ((hb.block b_w (heap_lt1 (unhide K_w))).trans (unhide K_w))
  replace K_g := hide ((hb.block b_g (heap_lt1 (unhide K_g))).trans (unhide K_g))
  replace O_w := hide ((unhide O_w).below hb)
  replace O_g := hide ((unhide O_g).below hb)
  replace B := B.trans (hb.mono B.size)
  have zz_e1 := hb.size
  clear hb
  clear p_g0 p_g1 p_g2 p_g3 p_g4
  clear p_w0 p_w1 p_w2 p_w3 p_w4
  obtain ⟨p_g0, p_g1, p_g2, p_g3, p_g4⟩ := five_at (unhide K_g)
  go_wp2_with fail
  refine (markPage_own q.lo q.hi q.r _ 1 a_g n_g c_g u_g v_g x_g q.es q.ds e1 (unhide O_g) (by omega) (by omega)).mono ?_
  rintro e wn ⟨rfl, oo, hw⟩
  clear p_g0 p_g1 p_g2 p_g3 p_g4
  replace O_g := hide oo
  replace K_w := hide ((hw.block b_w (heap_lt1 (unhide K_w)) (fun h => by have := I_g _ h; omega)).trans (unhide K_w))
  replace K_g := hide ((hw.block b_g (heap_lt1 (unhide K_g)) (fun h => by have := I_g _ h; omega)).trans (unhide K_g))
  replace O_w := hide ((unhide O_w).wr hw (fun i hi h => by have h1 := I_w _ hi; have h2 := I_g _ h; omega))
  replace B := B.trans (hw.below (fun i h => by have := I_g _ h; omega) B.size)
  have zz_wn := hw.size
  clear hw oo
  obtain ⟨p_g0, p_g1, p_g2, p_g3, p_g4⟩ := five_at (unhide K_g)
  go_wp2_with fail
  refine (heldPage_own q.lo q.hi q.r _ 1 a_g n_g c_g u_g v_g x_g wn (unhide O_g) (by omega) (by omega)).mono ?_
  rintro e h2 ⟨rfl, hb⟩
  replace K_w := hide ((hb.block b_w (heap_lt1 (unhide K_w))).trans (unhide K_w))
  replace K_g := hide ((hb.block b_g (heap_lt1 (unhide K_g))).trans (unhide K_g))
  replace O_w := hide ((unhide O_w).below hb)
  replace O_g := hide ((unhide O_g).below hb)
  replace B := B.trans (hb.mono B.size)
  have zz_h2 := hb.size
  clear hb
  clear p_g0 p_g1 p_g2 p_g3 p_g4
  have hk1 : ¬ (((1 + 2 * n_g + 4 * v_g : Nat) : Int) < 0) := by omega
  go_wp2_with fail
  refine (toByteS_at a n c xs h2 hn2 (row_growR (unhide P) B)).mono ?_
  rintro e w_z ⟨rfl, hM, hb⟩
  obtain ⟨a_z, ha_z⟩ : ∃ x, x = some (⟨h2.heap.size, 0, none⟩ : Addr) := ⟨_, rfl⟩
  rw [← ha_z] at hM ⊢
  have R_z := hide (show ByR w_z h2.heap.size a_z n xs from by_of_mine hM (unhide LX))
  have J_z := (unhide R_z).own'
  clear hM ha_z
  replace K_w := hide ((hb.block b_w (heap_lt1 (unhide K_w))).trans (unhide K_w))
  replace K_g := hide ((hb.block b_g (heap_lt1 (unhide K_g))).trans (unhide K_g))
  replace O_w := hide ((unhide O_w).below hb)
  replace O_g := hide ((unhide O_g).below hb)
  replace B := B.trans (hb.mono B.size)
  have zz_w_z := hb.size
  clear hb
  go_wp2_with fail
  refine (implReadPage_any a_z n n xs w_z (unhide R_z).row (unhide BY) (Nat.le_refl _) (fun x hx => ((unhide R_z).own x hx).2.1)).mono ?_
  intro e w_h hcon
  obtain ⟨a_h, n_h, c_h, u_h, v_h, x_h, rfl, oo, hb⟩ := unhide CON _ _ _ hcon
  clear hcon
  have O_h := hide oo
  have I_h := fun i (h : PgBlk a_h n_h c_h u_h v_h x_h i) => oo.blk h
  have N_h := hide oo.len
  have n32_h : n_h ≤ 32 ∧ v_h ≤ 12 := by have := unhide N_h; omega
  clear oo
  replace R_z := hide ((unhide R_z).below hb)
  replace K_w := hide ((hb.block b_w (heap_lt1 (unhide K_w))).trans (unhide K_w))
  replace K_g := hide ((hb.block b_g (heap_lt1 (unhide K_g))).trans (unhide K_g))
  replace O_w := hide ((unhide O_w).below hb)
  replace O_g := hide ((unhide O_g).below hb)
  replace B := B.trans (hb.mono B.size)
  have zz_w_h := hb.size
  clear hb
  have hb : Below w_h.heap.size w_h (w_h.alloc (.cells #[.string q.lo, .string q.hi, .int .i64 q.r, .slice a_h n_h c_h, .slice u_h v_h x_h] 26)) := (Below.refl _ _).alloc (Nat.le_refl _) _
  replace R_z := hide ((unhide R_z).below hb)
  replace K_w := hide ((hb.block b_w (heap_lt1 (unhide K_w))).trans (unhide K_w))
  replace K_g := hide ((hb.block b_g (heap_lt1 (unhide K_g))).trans (unhide K_g))
  replace O_w := hide ((unhide O_w).below hb)
  replace O_g := hide ((unhide O_g).below hb)
  replace O_h := hide ((unhide O_h).below hb)
  replace B := B.trans (hb.mono B.size)
  have zz_zbx_h := hb.size
  have K_h := hide (heap_alloc_new w_h (.cells #[.string q.lo, .string q.hi, .int .i64 q.r, .slice a_h n_h c_h, .slice u_h v_h x_h] 26))
  have zb_h : (w_h.alloc (.cells #[.string q.lo, .string q.hi, .int .i64 q.r, .slice a_h n_h c_h, .slice u_h v_h x_h] 26)).heap.size = w_h.heap.size + 1 := by simp
  clear hb
  clear R_z J_z
  obtain ⟨p_h0, p_h1, p_h2, p_h3, p_h4⟩ := five_at (unhide K_h)
  obtain ⟨p_w0, p_w1, p_w2, p_w3, p_w4⟩ := five_at (unhide K_w)
  go_wp2_with fail
  generalize w_h.alloc (.cells #[.string q.lo, .string q.hi, .int .i64 q.r, .slice a_h n_h c_h, .slice u_h v_h x_h] 26) = y_h at *
  generalize w_h.heap.size = b_h at *
  replace zb_h : b_h < y_h.heap.size := by omega
  refine (eqPage_own q.lo q.hi q.r _ _ a_h n_h c_h u_h v_h x_h a_w n_w c_w u_w v_w x_w q.es q.ds y_h (unhide O_h) (unhide O_w) (by omega) (by omega)).mono ?_
  rintro e e3 ⟨rfl, hb⟩
  replace K_w := hide ((hb.block b_w (heap_lt1 (unhide K_w))).trans (unhide K_w))
  replace K_g := hide ((hb.block b_g (heap_lt1 (unhide K_g))).trans (unhide K_g))
  replace K_h := hide ((hb.block b_h (heap_lt1 (unhide K_h))).trans (unhide K_h))
  replace O_w := hide ((unhide O_w).below hb)
  replace O_g := hide ((unhide O_g).below hb)
  replace O_h := hide ((unhide O_h).below hb)
  replace B := B.trans (hb.mono B.size)
  have zz_e3 := hb.size
  clear hb
  clear p_h0 p_h1 p_h2 p_h3 p_h4
  clear p_w0 p_w1 p_w2 p_w3 p_w4
  obtain ⟨p_g0, p_g1, p_g2, p_g3, p_g4⟩ := five_at (unhide K_g)
  go_wp2_with fail
  refine (heldPage_own q.lo q.hi q.r _ 1 a_g n_g c_g u_g v_g x_g e3 (unhide O_g) (by omega) (by omega)).mono ?_
  rintro e h4 ⟨rfl, hb⟩
  replace K_w := hide ((hb.block b_w (heap_lt1 (unhide K_w))).trans (unhide K_w))
  replace K_g := hide ((hb.block b_g (heap_lt1 (unhide K_g))).trans (unhide K_g))
  replace K_h := hide ((hb.block b_h (heap_lt1 (unhide K_h))).trans (unhide K_h))
  replace O_w := hide ((unhide O_w).below hb)
  replace O_g := hide ((unhide O_g).below hb)
  replace O_h := hide ((unhide O_h).below hb)
  replace B := B.trans (hb.mono B.size)
  have zz_h4 := hb.size
  clear hb
  clear p_g0 p_g1 p_g2 p_g3 p_g4
  go_wp2_with fail
  go_ret
  exact ⟨rfl, B⟩
end Go.Proofs.Ytkggpapmhopaeab
