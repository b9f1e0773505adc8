/-
  The walk of the law of CommitBytes.
-/
import Derived.Test.YtdnneomdokcpeaaCbS
import Derived.Test.YtdnneomdokcpeaaRowR
import Derived.Test.YtdnneomdokcpeaaVrT
import Derived.Test.YtdnneomdokcpeaaVrE
import Derived.Test.YtdnneomdokcpeaaVrM
namespace Go.Proofs.Ytdnneomdokcpeaa
open Go.RowKit

theorem cbL_len (ds : List VerD) : (cbL ds).length ≤ 10000 := by
  unfold cbL
  split
  · rename_i h
    obtain ⟨h1, h2⟩ := comV_small h.2
    have := cbAll_le ds h2
    omega
  · simp
set_option maxRecDepth 100000 in
set_option maxHeartbeats 32000000 in
theorem lawCommitBytes_any (a : Option Addr) (n c : Nat) (ds : List VerD) (w : World) (hr : VRow w a n ds) (hn : n ≤ maxLen) (ht : ∀ i (hi : i < ds.length), ds[i].k.size ≤ maxLen ∧ ds[i].v.size ≤ maxLen) :
    Calls Try.prog 3 #[.slice a n c] w fun e w' => e = .returned (.bool true) ∧ Below w.heap.size w w' := by
  have P := hide hr
  have SZ := hide (szVersionS_any a n c ds 1048576 w (by omega) (by omega) hr hn ht)
  clear hr ht
  go_enter Try.func3, Try.ntmps3
  go_wp2_with fail
  refine (unhide SZ).mono ?_
  rintro e w1 ⟨q, rfl, hq, B⟩
  have zz_w1 := B.size
  clear SZ
  rcases hq with rfl | ⟨q0, q1, hnn⟩
  · go_wp2_with fail
    go_ret
    exact ⟨rfl, B⟩
  have hn1 : n ≤ 1048576 := by omega
  clear hn
  obtain ⟨R, hR⟩ : ∃ x, x = cbL ds := ⟨_, rfl⟩
  obtain ⟨C, hC⟩ : ∃ x, x = cbC ds := ⟨_, rfl⟩
  have hRl : R.length ≤ 10000 := by rw [hR]; exact cbL_len ds
  have CON := hide (show ∀ W e W', CbRes ds W e W' → ∃ a c, e = .returned (.tuple #[.slice a R.length c, .int .i64 C]) ∧ BR W' W.heap.size a R.length R ∧ Below W.heap.size W W' from fun W e W' h => by
    obtain ⟨v, e, o, b⟩ := h
    rw [← hR] at o
    obtain ⟨a, c, rfl, hb⟩ := br_of_owns o
    exact ⟨a, c, by rw [e, hC], hb, b⟩)
  have hq : (C != C) = false := by simp
  have hRm : R.length ≤ maxLen := by unfold maxLen; omega
  clear hR hC
  go_wp2_with fail
  refine (toVersionS_any a n c ds w1 hn1 ((unhide P).below B)).mono ?_
  rintro e w_t ⟨g_t, rfl, oo, hb⟩
  replace B := B.trans (hb.mono B.size)
  have zz_w_t := hb.size
  clear hb
  have O_t := hide oo
  have I_t := fun i (h : (Value.slice (some ⟨g_t, 0, none⟩) n n).ownBlock = some i) => (unhide O_t).lt i h
  clear oo
  go_wp2_with fail
  refine (specCommitBytes_any (some ⟨g_t, 0, none⟩) n n ds w_t hn1 (vrow_of_owns (unhide O_t))).mono ?_
  intro e w_w hcon
  obtain ⟨a_w, c_w, rfl, rr, hb⟩ := unhide CON _ _ _ hcon
  clear hcon
  replace O_t := hide (rb_ownsRow_below (unhide O_t) hb)
  replace B := B.trans (hb.mono B.size)
  have zz_w_w := hb.size
  clear hb
  have R_w := hide rr
  have J_w := rr.own'
  clear rr
  clear O_t I_t
  go_wp2_with fail
  refine (toVersionS_any a n c ds w_w hn1 ((unhide P).below B)).mono ?_
  rintro e w_x ⟨g_x, rfl, oo, hb⟩
  replace R_w := hide ((unhide R_w).below hb)
  replace B := B.trans (hb.mono B.size)
  have zz_w_x := hb.size
  clear hb
  have O_x := hide oo
  have I_x := fun i (h : (Value.slice (some ⟨g_x, 0, none⟩) n n).ownBlock = some i) => (unhide O_x).lt i h
  clear oo
  go_wp2_with fail
  refine (implCommitBytes_any (some ⟨g_x, 0, none⟩) n n ds w_x hn1 (vrow_of_owns (unhide O_x))).mono ?_
  intro e w_g hcon
  obtain ⟨a_g, c_g, rfl, rr, hb⟩ := unhide CON _ _ _ hcon
  clear hcon
  replace R_w := hide ((unhide R_w).below hb)
  replace O_x := hide (rb_ownsRow_below (unhide O_x) hb)
  replace B := B.trans (hb.mono B.size)
  have zz_w_g := hb.size
  clear hb
  have R_g := hide rr
  have J_g := rr.own'
  clear rr
  go_wp2_with fail
  refine (rr_eqBytes a_g a_w R.length c_g c_w R w_g hRm (unhide R_g).row (unhide R_w).row).mono ?_
  rintro e e0 ⟨rfl, hb⟩
  replace R_w := hide ((unhide R_w).below hb)
  replace O_x := hide (rb_ownsRow_below (unhide O_x) hb)
  replace R_g := hide ((unhide R_g).below hb)
  replace B := B.trans (hb.mono B.size)
  have zz_e0 := hb.size
  clear hb
  go_wp2_with fail
  refine (toVersionS_any a n c ds e0 hn1 ((unhide P).below B)).mono ?_
  rintro e w_s ⟨g_s, rfl, oo, hb⟩
  replace R_w := hide ((unhide R_w).below hb)
  replace O_x := hide (rb_ownsRow_below (unhide O_x) hb)
  replace R_g := hide ((unhide R_g).below hb)
  replace B := B.trans (hb.mono B.size)
  have zz_w_s := hb.size
  clear hb
  have O_s := hide oo
  have I_s := fun i (h : (Value.slice (some ⟨g_s, 0, none⟩) n n).ownBlock = some i) => (unhide O_s).lt i h
  clear oo
  go_wp2_with fail
  refine (eqVersionS_any (some ⟨g_x, 0, none⟩) (some ⟨g_s, 0, none⟩) n n n ds w_s hn1 (vrow_of_owns (unhide O_x)) (vrow_of_owns (unhide O_s))).mono ?_
  rintro e e1 ⟨rfl, hb⟩
  replace R_w := hide ((unhide R_w).below hb)
  replace O_x := hide (rb_ownsRow_below (unhide O_x) hb)
  replace R_g := hide ((unhide R_g).below hb)
  replace O_s := hide (rb_ownsRow_below (unhide O_s) hb)
  replace B := B.trans (hb.mono B.size)
  have zz_e1 := hb.size
  clear hb
  clear O_s I_s
  go_wp2_with fail
  refine (markVersionS_any _ (some ⟨g_x, 0, none⟩) n n 1 ds e1 (by omega) (by omega) (unhide O_x)).mono ?_
  rintro e wm ⟨rfl, oo, hg⟩
  have hw := WrB.of_grown hg
  clear oo hg
  replace R_w := hide ((unhide R_w).wr hw (fun i hi h => by have h1 := J_w i hi; have h2 := I_x _ h; omega))
  replace R_g := hide ((unhide R_g).wr hw (fun i hi h => by have h1 := J_g i hi; have h2 := I_x _ h; omega))
  replace B := B.trans (hw.below (fun i h => by have := I_x i h; omega) B.size)
  have zz_wm := hw.size
  clear hw
  clear O_x I_x
  have hk0 : ¬ (((1 + 4 * n : Nat) : Int) < 0) := by omega
  generalize (1 + 4 * n : Nat) = km at *
  go_wp2_with fail
  refine (rr_eqBytes a_g a_w R.length c_g c_w R wm hRm (unhide R_g).row (unhide R_w).row).mono ?_
  rintro e e2 ⟨rfl, hb⟩
  replace R_w := hide ((unhide R_w).below hb)
  replace R_g := hide ((unhide R_g).below hb)
  replace B := B.trans (hb.mono B.size)
  have zz_e2 := hb.size
  clear hb
  go_wp2_with fail
  refine (markByteS_any a_g R.length c_g R 1 e2 (by omega) (by omega) (by omega) (unhide R_g).row (fun x hx => ((unhide R_g).own x hx).2.2)).mono ?_
  rintro e wn ⟨rfl, rr, ht⟩
  have hw := WrB.of_touch ht
  replace R_g := hide ((unhide R_g).marked rr ht)
  clear rr ht
  replace R_w := hide ((unhide R_w).wr hw (fun i hi ⟨y, hy, e⟩ => by have h1 := J_w i hi; have h2 := J_g y hy; omega))
  replace B := B.trans (hw.below (fun i ⟨y, hy, e⟩ => by have := J_g y hy; omega) B.size)
  have zz_wn := hw.size
  clear hw
  go_wp2_with fail
  refine (heldByteS_any a_g R.length c_g 1 wn (by omega) (by omega) (by omega) (unhide R_g).row).mono ?_
  rintro e wz ⟨rfl, hw⟩
  subst wz
  go_wp2_with fail
  refine (toVersionS_any a n c ds wn hn1 ((unhide P).below B)).mono ?_
  rintro e w_y ⟨g_y, rfl, oo, hb⟩
  replace R_w := hide ((unhide R_w).below hb)
  replace R_g := hide ((unhide R_g).below hb)
  replace B := B.trans (hb.mono B.size)
  have zz_w_y := hb.size
  clear hb
  have O_y := hide oo
  have I_y := fun i (h : (Value.slice (some ⟨g_y, 0, none⟩) n n).ownBlock = some i) => (unhide O_y).lt i h
  clear oo
  go_wp2_with fail
  refine (implCommitBytes_any (some ⟨g_y, 0, none⟩) n n ds w_y hn1 (vrow_of_owns (unhide O_y))).mono ?_
  intro e w_h hcon
  obtain ⟨a_h, c_h, rfl, rr, hb⟩ := unhide CON _ _ _ hcon
  clear hcon
  replace R_w := hide ((unhide R_w).below hb)
  replace R_g := hide ((unhide R_g).below hb)
  replace O_y := hide (rb_ownsRow_below (unhide O_y) hb)
  replace B := B.trans (hb.mono B.size)
  have zz_w_h := hb.size
  clear hb
  have R_h := hide rr
  have J_h := rr.own'
  clear rr
  clear O_y I_y
  go_wp2_with fail
  refine (rr_eqBytes a_h a_w R.length c_h c_w R w_h hRm (unhide R_h).row (unhide R_w).row).mono ?_
  rintro e e3 ⟨rfl, hb⟩
  replace R_w := hide ((unhide R_w).below hb)
  replace R_g := hide ((unhide R_g).below hb)
  replace R_h := hide ((unhide R_h).below hb)
  replace B := B.trans (hb.mono B.size)
  have zz_e3 := hb.size
  clear hb
  go_wp2_with fail
  refine (heldByteS_any a_g R.length c_g 1 e3 (by omega) (by omega) (by omega) (unhide R_g).row).mono ?_
  rintro e wz ⟨rfl, hw⟩
  subst wz
  go_wp2_with fail
  go_ret
  exact ⟨rfl, B⟩
end Go.Proofs.Ytdnneomdokcpeaa
