/-
  The walk of the law of EntriesAt.
-/
import Derived.Test.YtamfaombbcfpkaaVeJ
import Derived.Test.YtamfaombbcfpkaaRowR
import Derived.Test.YtamfaombbcfpkaaVrT
import Derived.Test.YtamfaombbcfpkaaVrE
import Derived.Test.YtamfaombbcfpkaaVrM
import Derived.Test.YtamfaombbcfpkaaKyE
import Derived.Test.YtamfaombbcfpkaaKyH
namespace Go.Proofs.Ytamfaombbcfpkaa
open Go.RowKit

theorem kowns_slice {w : World} {B : Nat} {v : Value} {ds : List KvD} (h : KOwns w B v ds) : ∃ a c, v = .slice a ds.length c := by
  rcases h.2 with ⟨rfl, hn⟩ | ⟨g, cap, cur, rfl, _⟩
  · exact ⟨none, 0, by rw [hn]⟩
  · exact ⟨_, _, rfl⟩
set_option maxRecDepth 100000 in
set_option maxHeartbeats 32000000 in
theorem lawEntriesAt_any (a : Option Addr) (n c : Nat) (ds : List VerD) (t : Int) (w : World) (hr : VRow w a n ds) (hn : n ≤ maxLen) (ht : ∀ i (hi : i < ds.length), ds[i].k.size ≤ maxLen ∧ ds[i].v.size ≤ maxLen) (_ : (Lit.int .i64 t).wf = true) :
    Calls Try.prog 3 #[.slice a n c, .int .i64 t] w fun e w' => e = .returned (.bool true) ∧ Below w.heap.size w w' := by
  have P := hide hr
  have SZ := hide (szVersionS_any a n c ds 1048576 w (by omega) (by omega) hr hn ht)
  clear hr ht
  go_enter Try.func3, Try.ntmps3
  go_wp2_with fail
  refine (unhide SZ).mono ?_
  rintro e w1 ⟨q, rfl, hq, B⟩
  have zz_w1 := B.size
  clear SZ
  rcases hq with rfl | ⟨q0, q1, hnn⟩
  · go_wp2_with fail
    go_ret
    exact ⟨rfl, B⟩
  have hn1 : n ≤ 1048576 := by omega
  clear hn
  obtain ⟨R, hR⟩ : ∃ x, x = eeL ds t := ⟨_, rfl⟩
  obtain ⟨C, hC⟩ : ∃ x, x = eeC ds := ⟨_, rfl⟩
  obtain ⟨nR, hN⟩ : ∃ x, x = R.length := ⟨_, rfl⟩
  have hRl : nR ≤ 4096 := by rw [hN, hR]; exact eeL_len ds t
  have CON := hide (show ∀ W e W', EeRes ds t W e W' → ∃ a c, e = .returned (.tuple #[.slice a nR c, .int .i64 C]) ∧ KOwns W' W.heap.size (.slice a nR c) R ∧ Below W.heap.size W W' from fun W e W' h => by
    obtain ⟨v, e, o, b⟩ := h
    rw [← hR] at o
    obtain ⟨a, c, rfl⟩ := kowns_slice o
    rw [← hN] at o e
    exact ⟨a, c, by rw [e, hC], o, b⟩)
  have hq : (C != C) = false := by simp
  clear hR hC hN
  go_wp2_with fail
  refine (toVersionS_any a n c ds w1 hn1 ((unhide P).below B)).mono ?_
  rintro e w_t ⟨g_t, rfl, oo, hb⟩
  replace B := B.trans (hb.mono B.size)
  have zz_w_t := hb.size
  clear hb
  have O_t := hide oo
  have I_t := fun i (h : (Value.slice (some ⟨g_t, 0, none⟩) n n).ownBlock = some i) => (unhide O_t).lt i h
  clear oo
  go_wp2_with fail
  refine (specEntriesAt_any (some ⟨g_t, 0, none⟩) n n ds t w_t hn1 (vrow_of_owns (unhide O_t))).mono ?_
  intro e w_w hcon
  obtain ⟨a_w, c_w, rfl, oo, hb⟩ := unhide CON _ _ _ hcon
  clear hcon
  replace O_t := hide (rb_ownsRow_below (unhide O_t) hb)
  replace B := B.trans (hb.mono B.size)
  have zz_w_w := hb.size
  clear hb
  have O_w := hide oo
  have I_w := fun i (h : (Value.slice a_w nR c_w).ownBlock = some i) => (unhide O_w).lt i h
  clear oo
  clear O_t I_t
  go_wp2_with fail
  refine (toVersionS_any a n c ds w_w hn1 ((unhide P).below B)).mono ?_
  rintro e w_x ⟨g_x, rfl, oo, hb⟩
  replace O_w := hide (rb_ownsRow_below (unhide O_w) hb)
  replace B := B.trans (hb.mono B.size)
  have zz_w_x := hb.size
  clear hb
  have O_x := hide oo
  have I_x := fun i (h : (Value.slice (some ⟨g_x, 0, none⟩) n n).ownBlock = some i) => (unhide O_x).lt i h
  clear oo
  go_wp2_with fail
  refine (implEntriesAt_any (some ⟨g_x, 0, none⟩) n n ds t w_x hn1 (vrow_of_owns (unhide O_x))).mono ?_
  intro e w_g hcon
  obtain ⟨a_g, c_g, rfl, oo, hb⟩ := unhide CON _ _ _ hcon
  clear hcon
  replace O_w := hide (rb_ownsRow_below (unhide O_w) hb)
  replace O_x := hide (rb_ownsRow_below (unhide O_x) hb)
  replace B := B.trans (hb.mono B.size)
  have zz_w_g := hb.size
  clear hb
  have O_g := hide oo
  have I_g := fun i (h : (Value.slice a_g nR c_g).ownBlock = some i) => (unhide O_g).lt i h
  clear oo
  go_wp2_with fail
  refine (eqEntryS_any a_g a_w nR c_g c_w R w_g (by omega) (krow_of_owns (unhide O_g)) (krow_of_owns (unhide O_w))).mono ?_
  rintro e e0 ⟨rfl, hb⟩
  replace O_w := hide (rb_ownsRow_below (unhide O_w) hb)
  replace O_x := hide (rb_ownsRow_below (unhide O_x) hb)
  replace O_g := hide (rb_ownsRow_below (unhide O_g) hb)
  replace B := B.trans (hb.mono B.size)
  have zz_e0 := hb.size
  clear hb
  go_wp2_with fail
  refine (toVersionS_any a n c ds e0 hn1 ((unhide P).below B)).mono ?_
  rintro e w_s ⟨g_s, rfl, oo, hb⟩
  replace O_w := hide (rb_ownsRow_below (unhide O_w) hb)
  replace O_x := hide (rb_ownsRow_below (unhide O_x) hb)
  replace O_g := hide (rb_ownsRow_below (unhide O_g) hb)
  replace B := B.trans (hb.mono B.size)
  have zz_w_s := hb.size
  clear hb
  have O_s := hide oo
  have I_s := fun i (h : (Value.slice (some ⟨g_s, 0, none⟩) n n).ownBlock = some i) => (unhide O_s).lt i h
  clear oo
  go_wp2_with fail
  refine (eqVersionS_any (some ⟨g_x, 0, none⟩) (some ⟨g_s, 0, none⟩) n n n ds w_s hn1 (vrow_of_owns (unhide O_x)) (vrow_of_owns (unhide O_s))).mono ?_
  rintro e e1 ⟨rfl, hb⟩
  replace O_w := hide (rb_ownsRow_below (unhide O_w) hb)
  replace O_x := hide (rb_ownsRow_below (unhide O_x) hb)
  replace O_g := hide (rb_ownsRow_below (unhide O_g) hb)
  replace O_s := hide (rb_ownsRow_below (unhide O_s) hb)
  replace B := B.trans (hb.mono B.size)
  have zz_e1 := hb.size
  clear hb
  clear O_s I_s
  go_wp2_with fail
  refine (markVersionS_any _ (some ⟨g_x, 0, none⟩) n n 1 ds e1 (by omega) (by omega) (unhide O_x)).mono ?_
  rintro e wm ⟨rfl, oo, hg⟩
  have hw := WrB.of_grown hg
  clear oo hg
  replace O_w := hide (rr_owns_wr (unhide O_w) hw (fun i hi h => by have h1 := I_w i hi; have h2 := I_x _ h; omega))
  replace O_g := hide (rr_owns_wr (unhide O_g) hw (fun i hi h => by have h1 := I_g i hi; have h2 := I_x _ h; omega))
  replace B := B.trans (hw.below (fun i h => by have := I_x i h; omega) B.size)
  have zz_wm := hw.size
  clear hw
  clear O_x I_x
  have hk0 : ¬ (((1 + 4 * n : Nat) : Int) < 0) := by omega
  generalize (1 + 4 * n : Nat) = km at *
  go_wp2_with fail
  refine (eqEntryS_any a_g a_w nR c_g c_w R wm (by omega) (krow_of_owns (unhide O_g)) (krow_of_owns (unhide O_w))).mono ?_
  rintro e e2 ⟨rfl, hb⟩
  replace O_w := hide (rb_ownsRow_below (unhide O_w) hb)
  replace O_g := hide (rb_ownsRow_below (unhide O_g) hb)
  replace B := B.trans (hb.mono B.size)
  have zz_e2 := hb.size
  clear hb
  go_wp2_with fail
  refine (markEntryS_any _ a_g nR c_g 1 R e2 (by omega) (by omega) (unhide O_g)).mono ?_
  rintro e wn ⟨rfl, oo, hg⟩
  have hw := WrB.of_grown hg
  replace O_w := hide (rr_owns_wr (unhide O_w) hw (fun i hi h => by have h1 := I_w i hi; have h2 := I_g _ h; omega))
  replace B := B.trans (hw.below (fun i h => by have := I_g i h; omega) B.size)
  have zz_wn := hw.size
  clear hw
  replace O_g := hide oo
  replace I_g := fun i (h : (Value.slice a_g nR c_g).ownBlock = some i) => (unhide O_g).lt i h
  clear oo hg
  have hk1 : ¬ (((1 + 2 * nR : Nat) : Int) < 0) := by omega
  go_wp2_with fail
  refine (heldEntryS_any a_g nR c_g 1 wn (by omega) (by omega) (krow_of_owns (unhide O_g))).mono ?_
  rintro e h0 ⟨rfl, hb⟩
  replace O_w := hide (rb_ownsRow_below (unhide O_w) hb)
  replace O_g := hide (rb_ownsRow_below (unhide O_g) hb)
  replace B := B.trans (hb.mono B.size)
  have zz_h0 := hb.size
  clear hb
  generalize hkn : (1 + 2 * nR : Nat) = kn at *
  have hkn2 : ((kn : Int) != (kn : Int)) = false := by simp
  go_wp2_with fail
  refine (toVersionS_any a n c ds h0 hn1 ((unhide P).below B)).mono ?_
  rintro e w_y ⟨g_y, rfl, oo, hb⟩
  replace O_w := hide (rb_ownsRow_below (unhide O_w) hb)
  replace O_g := hide (rb_ownsRow_below (unhide O_g) hb)
  replace B := B.trans (hb.mono B.size)
  have zz_w_y := hb.size
  clear hb
  have O_y := hide oo
  have I_y := fun i (h : (Value.slice (some ⟨g_y, 0, none⟩) n n).ownBlock = some i) => (unhide O_y).lt i h
  clear oo
  go_wp2_with fail
  refine (implEntriesAt_any (some ⟨g_y, 0, none⟩) n n ds t w_y hn1 (vrow_of_owns (unhide O_y))).mono ?_
  intro e w_h hcon
  obtain ⟨a_h, c_h, rfl, oo, hb⟩ := unhide CON _ _ _ hcon
  clear hcon
  replace O_w := hide (rb_ownsRow_below (unhide O_w) hb)
  replace O_g := hide (rb_ownsRow_below (unhide O_g) hb)
  replace O_y := hide (rb_ownsRow_below (unhide O_y) hb)
  replace B := B.trans (hb.mono B.size)
  have zz_w_h := hb.size
  clear hb
  have O_h := hide oo
  have I_h := fun i (h : (Value.slice a_h nR c_h).ownBlock = some i) => (unhide O_h).lt i h
  clear oo
  clear O_y I_y
  go_wp2_with fail
  refine (eqEntryS_any a_h a_w nR c_h c_w R w_h (by omega) (krow_of_owns (unhide O_h)) (krow_of_owns (unhide O_w))).mono ?_
  rintro e e3 ⟨rfl, hb⟩
  replace O_w := hide (rb_ownsRow_below (unhide O_w) hb)
  replace O_g := hide (rb_ownsRow_below (unhide O_g) hb)
  replace O_h := hide (rb_ownsRow_below (unhide O_h) hb)
  replace B := B.trans (hb.mono B.size)
  have zz_e3 := hb.size
  clear hb
  go_wp2_with fail
  refine (heldEntryS_any a_g nR c_g 1 e3 (by omega) (by omega) (krow_of_owns (unhide O_g))).mono ?_
  rintro e h1 ⟨rfl, hb⟩
  replace O_w := hide (rb_ownsRow_below (unhide O_w) hb)
  replace O_g := hide (rb_ownsRow_below (unhide O_g) hb)
  replace O_h := hide (rb_ownsRow_below (unhide O_h) hb)
  replace B := B.trans (hb.mono B.size)
  have zz_h1 := hb.size
  clear hb
  rw [hkn]
  go_wp2_with fail
  go_ret
  exact ⟨rfl, B⟩
end Go.Proofs.Ytamfaombbcfpkaa
