/-
  The walk of the law of ReadCommit.
-/
import Derived.Test.YtdnneomdokcpeaaRcS
import Derived.Test.YtdnneomdokcpeaaRowR
import Derived.Test.YtdnneomdokcpeaaVrE
import Derived.Test.YtdnneomdokcpeaaVrH
import Derived.Test.YtdnneomdokcpeaaTo
namespace Go.Proofs.Ytdnneomdokcpeaa
open Go.RowKit

theorem rr_row {w w' : World} {a : Option Addr} {n : Nat} {xs : List Int} (h : Row w a n xs) (hb : Below w.heap.size w w') : Row w' a n xs := by
  refine ⟨h.1, fun i hi => ?_⟩
  obtain ⟨b, off, e, c⟩ := h.2 i hi
  exact ⟨b, off, e, (hb.cell (p := ⟨b, off + i, none⟩) (cell_lt c)).trans c⟩
theorem br_of_mine {w : World} {B n c : Nat} {a : Option Addr} {xs : List Int} (h : Mine w B (.slice a n c) xs) (hl : xs.length = n) : BR w B a n xs := by
  obtain ⟨a', c', e, _, _, h3, h4⟩ := h
  injection e with e1 e2 e3
  subst e1
  rw [hl] at h3
  exact ⟨h3, h4⟩
theorem rcA_len (t : Int) (xs : List Int) : (rcA t xs).length ≤ 8 := by
  unfold rcA
  split
  · rename_i h
    unfold rcC at h
    have h3 : rcOK t xs = true := by
      cases hq : rcOK t xs with
      | true => rfl
      | false => rw [hq] at h; split at h <;> (try split at h) <;> simp at h
    unfold rcOK at h3
    exact (wrV_ok (Bool.and_eq_true_iff.1 h3).1).1
  · simp
set_option maxRecDepth 100000 in
set_option maxHeartbeats 8000000 in
theorem lawReadCommit_any (a : Option Addr) (n c : Nat) (zs : List Int) (t : Int) (w : World) (h : IsRow .u8 w a n c zs) (_ : (Lit.int .i64 t).wf = true) :
    Calls Try.prog 4 #[.slice a n c, .int .i64 t] w fun e w' => e = .returned (.bool true) ∧ Below w.heap.size w w' := by
  obtain ⟨hR, hn, _⟩ := row_of_isRow h
  have hby := bytes_of_isRow h
  obtain ⟨xs, hxs⟩ : ∃ xs, xs = zs.take n := ⟨_, rfl⟩
  rw [← hxs] at hR hby
  have BY := hide (show By xs from fun x hx => by
    obtain ⟨i, hi, e⟩ := List.getElem_of_mem hx
    have := hby i (by rw [← hR.1]; exact hi)
    simpa [List.getD_eq_getElem?_getD, hi, e] using this)
  have P := hide hR
  clear h hby hxs hR
  by_cases hlong : 1048576 < n
  · have hi : (1048576 : Int) < (n : Int) := by omega
    go_enter Try.func4, Try.ntmps4
    go_wp2_with fail
    go_ret
    exact ⟨rfl, Below.refl _ _⟩
  have hi : ¬ ((1048576 : Int) < (n : Int)) := by omega
  have hn2 : n ≤ 1048576 := by omega
  have B := Below.refl w.heap.size w
  have LX := hide (unhide P).1
  obtain ⟨Q, hQ⟩ : ∃ q, q = rcA t xs := ⟨_, rfl⟩
  obtain ⟨C, hC⟩ : ∃ x, x = rcC t xs := ⟨_, rfl⟩
  have hql : Q.length ≤ 8 := by rw [hQ]; exact rcA_len t xs
  have CON := hide (show ∀ W e W', RcRes t xs W e W' → ∃ a c, e = .returned (.tuple #[.slice a Q.length c, .int .i64 C]) ∧ VOwns W' W.heap.size (.slice a Q.length c) Q ∧ Below W.heap.size W W' from fun W e W' h => by
    obtain ⟨v, e, o, b⟩ := h
    rw [← hQ] at o
    obtain ⟨a, c, rfl⟩ := vowns_slice o
    exact ⟨a, c, by rw [e, hC], o, b⟩)
  have hCC : (C != C) = false := by simp
  clear hQ hC hn
  go_enter Try.func4, Try.ntmps4
  go_wp2_with fail
  refine (toByteS_at a n c xs w hn2 (rr_row (unhide P) B)).mono ?_
  rintro e w_t ⟨rfl, hM, hb⟩
  obtain ⟨a_t, ha_t⟩ : ∃ x, x = some (⟨w.heap.size, 0, none⟩ : Addr) := ⟨_, rfl⟩
  rw [← ha_t] at hM ⊢
  replace B := B.trans (hb.mono B.size)
  have zz_w_t := hb.size
  clear hb
  have R_t := hide (show BR w_t w.heap.size a_t n xs from br_of_mine hM (unhide LX))
  have J_t := (unhide R_t).own'
  clear hM ha_t
  go_wp2_with fail
  refine (specReadCommit_any a_t n n xs t w_t (unhide R_t).row (unhide BY) (Nat.le_refl _) hn2 (fun x hx => ((unhide R_t).own x hx).2.1)).mono ?_
  intro e w_w hcon
  obtain ⟨a_w, c_w, rfl, oo, hb⟩ := unhide CON _ _ _ hcon
  clear hcon
  replace R_t := hide ((unhide R_t).below hb)
  replace B := B.trans (hb.mono B.size)
  have zz_w_w := hb.size
  clear hb
  have O_w := hide oo
  have I_w := fun i (h : (Value.slice a_w Q.length c_w).ownBlock = some i) => (unhide O_w).lt i h
  clear oo
  clear R_t J_t
  go_wp2_with fail
  refine (toByteS_at a n c xs w_w hn2 (rr_row (unhide P) B)).mono ?_
  rintro e w_x ⟨rfl, hM, hb⟩
  obtain ⟨a_x, ha_x⟩ : ∃ x, x = some (⟨w_w.heap.size, 0, none⟩ : Addr) := ⟨_, rfl⟩
  rw [← ha_x] at hM ⊢
  replace O_w := hide (rb_ownsRow_below (unhide O_w) hb)
  replace B := B.trans (hb.mono B.size)
  have zz_w_x := hb.size
  clear hb
  have R_x := hide (show BR w_x w_w.heap.size a_x n xs from br_of_mine hM (unhide LX))
  have J_x := (unhide R_x).own'
  clear hM ha_x
  go_wp2_with fail
  refine (implReadCommit_any a_x n n xs t w_x (unhide R_x).row (unhide BY) (Nat.le_refl _) hn2 (fun x hx => ((unhide R_x).own x hx).2.1)).mono ?_
  intro e w_g hcon
  obtain ⟨a_g, c_g, rfl, oo, hb⟩ := unhide CON _ _ _ hcon
  clear hcon
  replace O_w := hide (rb_ownsRow_below (unhide O_w) hb)
  replace R_x := hide ((unhide R_x).below hb)
  replace B := B.trans (hb.mono B.size)
  have zz_w_g := hb.size
  clear hb
  have O_g := hide oo
  have I_g := fun i (h : (Value.slice a_g Q.length c_g).ownBlock = some i) => (unhide O_g).lt i h
  clear oo
  go_wp2_with fail
  refine (eqVersionS_any a_g a_w Q.length c_g c_w Q w_g (by omega) (vrow_of_owns (unhide O_g)) (vrow_of_owns (unhide O_w))).mono ?_
  rintro e e0 ⟨rfl, hb⟩
  replace O_w := hide (rb_ownsRow_below (unhide O_w) hb)
  replace R_x := hide ((unhide R_x).below hb)
  replace O_g := hide (rb_ownsRow_below (unhide O_g) hb)
  replace B := B.trans (hb.mono B.size)
  have zz_e0 := hb.size
  clear hb
  go_wp2_with fail
  refine (toByteS_at a n c xs e0 hn2 (rr_row (unhide P) B)).mono ?_
  rintro e w_s ⟨rfl, hM, hb⟩
  obtain ⟨a_s, ha_s⟩ : ∃ x, x = some (⟨e0.heap.size, 0, none⟩ : Addr) := ⟨_, rfl⟩
  rw [← ha_s] at hM ⊢
  replace O_w := hide (rb_ownsRow_below (unhide O_w) hb)
  replace R_x := hide ((unhide R_x).below hb)
  replace O_g := hide (rb_ownsRow_below (unhide O_g) hb)
  replace B := B.trans (hb.mono B.size)
  have zz_w_s := hb.size
  clear hb
  have R_s := hide (show BR w_s e0.heap.size a_s n xs from br_of_mine hM (unhide LX))
  have J_s := (unhide R_s).own'
  clear hM ha_s
  go_wp2_with fail
  refine (rr_eqBytes a_x a_s n n n xs w_s (by unfold maxLen; omega) (unhide R_x).row (unhide R_s).row).mono ?_
  rintro e e1 ⟨rfl, hb⟩
  replace O_w := hide (rb_ownsRow_below (unhide O_w) hb)
  replace R_x := hide ((unhide R_x).below hb)
  replace O_g := hide (rb_ownsRow_below (unhide O_g) hb)
  replace R_s := hide ((unhide R_s).below hb)
  replace B := B.trans (hb.mono B.size)
  have zz_e1 := hb.size
  clear hb
  clear R_s J_s
  go_wp2_with fail
  refine (markByteS_any a_x n n xs 1 e1 (by omega) (by omega) (by omega) (unhide R_x).row (fun x hx => ((unhide R_x).own x hx).2.2)).mono ?_
  rintro e wn ⟨rfl, rr, ht⟩
  have hw := WrB.of_touch ht
  clear rr ht
  replace O_w := hide (rr_owns_wr (unhide O_w) hw (fun i hi ⟨y, hy, e⟩ => by have h1 := I_w i hi; have h2 := J_x y hy; omega))
  replace O_g := hide (rr_owns_wr (unhide O_g) hw (fun i hi ⟨y, hy, e⟩ => by have h1 := I_g i hi; have h2 := J_x y hy; omega))
  replace B := B.trans (hw.below (fun i ⟨y, hy, e⟩ => by have := J_x y hy; omega) B.size)
  have zz_wn := hw.size
  clear hw
  clear R_x J_x
  have hk0 : ¬ ((1 + (n : Int)) < 0) := by omega
  generalize (1 + (n : Int)) = km at *
  go_wp2_with fail
  refine (eqVersionS_any a_g a_w Q.length c_g c_w Q wn (by omega) (vrow_of_owns (unhide O_g)) (vrow_of_owns (unhide O_w))).mono ?_
  rintro e e2 ⟨rfl, hb⟩
  replace O_w := hide (rb_ownsRow_below (unhide O_w) hb)
  replace O_g := hide (rb_ownsRow_below (unhide O_g) hb)
  replace B := B.trans (hb.mono B.size)
  have zz_e2 := hb.size
  clear hb
  go_wp2_with fail
  refine (markVersionS_any _ a_g Q.length c_g 1 Q e2 (by omega) (by omega) (unhide O_g)).mono ?_
  rintro e wm ⟨rfl, oo, hg⟩
  have hw := WrB.of_grown hg
  replace O_g := hide oo
  clear oo hg
  replace O_w := hide (rr_owns_wr (unhide O_w) hw (fun i hi h => by have h1 := I_w i hi; have h2 := I_g _ h; omega))
  replace B := B.trans (hw.below (fun i h => by have := I_g i h; omega) B.size)
  have zz_wm := hw.size
  clear hw
  have hm0 : ¬ (((1 + 4 * Q.length : Nat) : Int) < 0) := by omega
  have hmm : ((((1 + 4 * Q.length : Nat) : Int)) != (((1 + 4 * Q.length : Nat) : Int))) = false := by simp
  go_wp2_with fail
  refine (heldVersionS_any a_g Q.length c_g 1 wm (by omega) (by omega) (vrow_of_owns (unhide O_g))).mono ?_
  rintro e e3 ⟨rfl, hb⟩
  replace O_w := hide (rb_ownsRow_below (unhide O_w) hb)
  replace O_g := hide (rb_ownsRow_below (unhide O_g) hb)
  replace B := B.trans (hb.mono B.size)
  have zz_e3 := hb.size
  clear hb
  go_wp2_with fail
  refine (toByteS_at a n c xs e3 hn2 (rr_row (unhide P) B)).mono ?_
  rintro e w_y ⟨rfl, hM, hb⟩
  obtain ⟨a_y, ha_y⟩ : ∃ x, x = some (⟨e3.heap.size, 0, none⟩ : Addr) := ⟨_, rfl⟩
  rw [← ha_y] at hM ⊢
  replace O_w := hide (rb_ownsRow_below (unhide O_w) hb)
  replace O_g := hide (rb_ownsRow_below (unhide O_g) hb)
  replace B := B.trans (hb.mono B.size)
  have zz_w_y := hb.size
  clear hb
  have R_y := hide (show BR w_y e3.heap.size a_y n xs from br_of_mine hM (unhide LX))
  have J_y := (unhide R_y).own'
  clear hM ha_y
  go_wp2_with fail
  refine (implReadCommit_any a_y n n xs t w_y (unhide R_y).row (unhide BY) (Nat.le_refl _) hn2 (fun x hx => ((unhide R_y).own x hx).2.1)).mono ?_
  intro e w_h hcon
  obtain ⟨a_h, c_h, rfl, oo, hb⟩ := unhide CON _ _ _ hcon
  clear hcon
  replace O_w := hide (rb_ownsRow_below (unhide O_w) hb)
  replace O_g := hide (rb_ownsRow_below (unhide O_g) hb)
  replace R_y := hide ((unhide R_y).below hb)
  replace B := B.trans (hb.mono B.size)
  have zz_w_h := hb.size
  clear hb
  have O_h := hide oo
  have I_h := fun i (h : (Value.slice a_h Q.length c_h).ownBlock = some i) => (unhide O_h).lt i h
  clear oo
  clear R_y J_y
  go_wp2_with fail
  refine (eqVersionS_any a_h a_w Q.length c_h c_w Q w_h (by omega) (vrow_of_owns (unhide O_h)) (vrow_of_owns (unhide O_w))).mono ?_
  rintro e e4 ⟨rfl, hb⟩
  replace O_w := hide (rb_ownsRow_below (unhide O_w) hb)
  replace O_g := hide (rb_ownsRow_below (unhide O_g) hb)
  replace O_h := hide (rb_ownsRow_below (unhide O_h) hb)
  replace B := B.trans (hb.mono B.size)
  have zz_e4 := hb.size
  clear hb
  go_wp2_with fail
  refine (heldVersionS_any a_g Q.length c_g 1 e4 (by omega) (by omega) (vrow_of_owns (unhide O_g))).mono ?_
  rintro e e5 ⟨rfl, hb⟩
  replace O_w := hide (rb_ownsRow_below (unhide O_w) hb)
  replace O_g := hide (rb_ownsRow_below (unhide O_g) hb)
  replace O_h := hide (rb_ownsRow_below (unhide O_h) hb)
  replace B := B.trans (hb.mono B.size)
  have zz_e5 := hb.size
  clear hb
  go_wp2_with fail
  go_ret
  exact ⟨rfl, B⟩
end Go.Proofs.Ytdnneomdokcpeaa
