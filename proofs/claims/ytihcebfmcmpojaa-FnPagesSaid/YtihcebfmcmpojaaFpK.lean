/-
  The walk of FnPages.
-/
import Derived.Test.YtihcebfmcmpojaaFpC
import Derived.Test.YtihcebfmcmpojaaFdJ
import Derived.Test.YtihcebfmcmpojaaPageU
namespace Go.Proofs.Ytihcebfmcmpojaa
open Go.RowKit

set_option maxRecDepth 100000 in
set_option maxHeartbeats 8000000 in
theorem fnPages_law (a1 : Option Addr) (n1 c1 : Nat) (zs1 : List Int) (a2 : Option Addr) (n2 c2 : Nat) (zs2 : List Int) (w : World) (h1 : IsRow .u8 w a1 n1 c1 zs1) (h2 : IsRow .u8 w a2 n2 c2 zs2) :
    Calls Try.prog 3 #[.slice a1 n1 c1, .slice a2 n2 c2] w fun e w' => e = .returned (.bool true) ∧ Below w.heap.size w w' := by
  obtain ⟨hr1, hm1, _⟩ := row_of_isRow h1
  obtain ⟨hr2, hm2, _⟩ := row_of_isRow h2
  have by1 := hide (bytes_of_isRow h1)
  have by2 := hide (bytes_of_isRow h2)
  clear h1 h2
  unfold maxLen at hm1 hm2
  by_cases hbig : 1048576 < n1 ∨ 1048576 < n2
  · clear hr1 hr2 by1 by2
    by_cases hb1 : 1048576 < n1
    all_goals
      go_enter Try.func3, Try.ntmps3
      go_wp2_with fail
      go_ret
      exact ⟨rfl, Below.refl _ _⟩
  have hn1 : n1 ≤ 1048576 := by omega
  have hn2 : n2 ≤ 1048576 := by omega
  clear hbig hm1 hm2
  generalize zs1.take n1 = xs1 at *
  generalize zs2.take n2 = xs2 at *
  have R1 := hide hr1
  have R2 := hide hr2
  clear hr1 hr2
  go_enter Try.func3, Try.ntmps3
  go_wp2_with fail
  refine (pageOf_any a1 n1 c1 xs1 w (unhide R1) (unhide by1) hn1).mono ?_
  rintro e w1 ⟨lo, hi, r, b1, m1, d1, b2, m2, d2, es, ds, rfl, ho, hok, hb⟩
  obtain ⟨rfl, rfl⟩ := ho.len
  have bN : Below w1.heap.size w1 (w1.alloc (.cells #[.string lo, .string hi, .int .i64 r, .slice b1 es.length d1, .slice b2 ds.length d2] 26)) := (Below.refl _ _).alloc (Nat.le_refl _) _
  have P := hide (PgAt.new (lo := lo) (hi := hi) (r := r) ho)
  have BW := hide (hb.trans (bN.mono hb.size))
  replace R2 := hide (row_growF (unhide R2) (unhide BW))
  have OK := hide hok
  clear ho hok hb bN R1 by1
  go_wp2_with fail
  generalize w1.alloc (.cells #[.string lo, .string hi, .int .i64 r, .slice b1 es.length d1, .slice b2 ds.length d2] 26) = wA at *
  generalize w1.heap.size = bp at *
  refine (keyOfD_any a2 n2 c2 xs2 _ (unhide R2) (unhide by2) hn2).mono ?_
  rintro e w2 ⟨k, rfl, _, bT⟩
  replace P := hide ((unhide P).below bT)
  replace BW := hide ((unhide BW).trans (bT.mono (unhide BW).size))
  clear bT R2 by2
  obtain ⟨H, hH⟩ : ∃ H, H = highE hi ds := ⟨_, rfl⟩
  obtain ⟨R, hR⟩ : ∃ R, R = rightE r ds := ⟨_, rfl⟩
  obtain ⟨E, hE⟩ : ∃ E, E = entsE es ds := ⟨_, rfl⟩
  obtain ⟨X, hX⟩ : ∃ X, X = pageL lo hi r es ds := ⟨_, rfl⟩
  obtain ⟨⟨t1, t2, t3⟩, hT⟩ : ∃ T, findT lo hi r es ds k = T := ⟨_, rfl⟩
  have ok := (unhide OK).1
  have qk : okPage lo H R E [] = true := by rw [hH, hR, hE]; exact conPage_ok ok
  have hQ : findT lo H R E [] k = (t1, t2, t3) := by rw [hH, hR, hE, con_find ok, hT]
  have sm := ok_small ok
  have rb := rd_back ok (by have := pageL_length sm; omega)
  have CC := hide (show ∀ (u : World), PgAt u bp lo hi r b1 es.length d1 b2 ds.length d2 es ds → Calls Try.prog 8 #[pgv lo hi r b1 es.length d1 b2 ds.length d2] u fun e w' => ∃ a c, e = .returned (.tuple #[pgv lo H R a E.length c none 0 0, .int .i64 0]) ∧ PgOwn w' u.heap.size a E.length c none 0 0 E [] ∧ Below u.heap.size u w' from fun u h => (implConsolidate_any lo hi r b1 es.length d1 es b2 ds.length d2 ds u h.er h.dr).mono fun e w' ⟨a, n, c, h1, h2, h3⟩ => by
    have e1 : conP lo hi r es ds = ⟨lo, H, R, E, []⟩ := by rw [hH, hR, hE]; unfold conP; rw [if_pos ok]
    have e2 : conC lo hi r es ds = 0 := by unfold conC; rw [if_pos ok]
    rw [e1, e2] at h1
    rw [e1] at h2
    obtain rfl : n = E.length := (erow_of_owns h2).1.symm
    exact ⟨a, c, h1, ⟨h2, World.ownsRow_nil _ _ _ _, fun i hi hj => by cases hj⟩, h3⟩)
  have CF := hide (show ∀ (u : World), PgAt u bp lo hi r b1 es.length d1 b2 ds.length d2 es ds → Calls Try.prog 9 #[pgv lo hi r b1 es.length d1 b2 ds.length d2, .string k] u fun e w' => e = .returned (.tuple #[.string t1, .int .i64 t2, .int .i64 t3]) ∧ Below u.heap.size u w' from fun u h => (implFind_any lo hi r b1 es.length d1 es b2 ds.length d2 ds k u h.er h.dr).mono fun e w' ⟨h1, h2⟩ => ⟨by rw [h1, findA_eq, hT], h2⟩)
  have CW := hide (show ∀ (u : World), PgAt u bp lo hi r b1 es.length d1 b2 ds.length d2 es ds → Calls Try.prog 10 #[pgv lo hi r b1 es.length d1 b2 ds.length d2, .string k] u fun e w' => e = .returned (.tuple #[.string t1, .int .i64 t2, .int .i64 t3]) ∧ Below u.heap.size u w' from fun u h => (specFind_any lo hi r b1 es.length d1 es b2 ds.length d2 ds k u h.er h.dr h.ce).mono fun e w' ⟨h1, h2⟩ => ⟨by rw [h1, findA_eq, hT], h2⟩)
  have CB := hide (show ∀ (u : World), PgAt u bp lo hi r b1 es.length d1 b2 ds.length d2 es ds → Calls Try.prog 11 #[pgv lo hi r b1 es.length d1 b2 ds.length d2] u fun e w' => e = .returned (.tuple #[.string H, .int .i64 R, .int .i64 0]) ∧ Below u.heap.size u w' from fun u h => (implBounds_any lo hi r b1 es.length d1 es b2 ds.length d2 ds u h.er h.dr).mono fun e w' ⟨h1, h2⟩ => ⟨by rw [h1, if_pos ok, hH, hR], h2⟩)
  have CP := hide (show ∀ (u : World), PgAt u bp lo hi r b1 es.length d1 b2 ds.length d2 es ds → Calls Try.prog 12 #[pgv lo hi r b1 es.length d1 b2 ds.length d2] u fun e w' => ∃ a n c, e = .returned (.tuple #[.slice a n c, .int .i64 0]) ∧ (Row w' a n X ∧ n ≤ c ∧ ∀ x, a = some x → x.block < w'.heap.size) ∧ Below u.heap.size u w' from fun u h => (implPageBytes_any lo hi r b1 es.length d1 es b2 ds.length d2 ds u h.er h.dr).mono fun e w' ⟨v, h1, h2, h3⟩ => by
    have e1 : pbC lo hi r es ds = 0 := by unfold pbC; rw [if_pos ok]
    have e2 : pbL lo hi r es ds = X := by unfold pbL; rw [if_pos ok, hX]
    rw [e1] at h1
    rw [e2] at h2
    obtain ⟨a, n, c, rfl, g⟩ := row_own h2
    exact ⟨a, n, c, h1, g, h3⟩)
  have CQ := hide (show ∀ (u : World) (bq : Nat) (a : Option Addr) (c : Nat), PgAt u bq lo H R a E.length c none 0 0 E [] → Calls Try.prog 9 #[pgv lo H R a E.length c none 0 0, .string k] u fun e w' => e = .returned (.tuple #[.string t1, .int .i64 t2, .int .i64 t3]) ∧ Below u.heap.size u w' from fun u bq a c h => (implFind_any lo H R a E.length c E none 0 0 [] k u h.er h.dr).mono fun e w' ⟨h1, h2⟩ => ⟨by rw [h1, findA_eq, hQ], h2⟩)
  have CR := hide (show ∀ (u : World) (bq : Nat) (a : Option Addr) (c : Nat), PgAt u bq lo H R a E.length c none 0 0 E [] → Calls Try.prog 11 #[pgv lo H R a E.length c none 0 0] u fun e w' => e = .returned (.tuple #[.string H, .int .i64 R, .int .i64 0]) ∧ Below u.heap.size u w' from fun u bq a c h => (implBounds_any lo H R a E.length c E none 0 0 [] u h.er h.dr).mono fun e w' ⟨h1, h2⟩ => ⟨by rw [h1, if_pos qk]; rfl, h2⟩)
  have CO := hide (show ∀ (u : World) (bq : Nat) (a : Option Addr) (c : Nat), PgAt u bq lo H R a E.length c none 0 0 E [] → Calls Try.prog 14 #[pgv lo H R a E.length c none 0 0] u fun e w' => e = .returned (.bool true) ∧ Below u.heap.size u w' from fun u bq a c h => (implPageOK_any lo H R a E.length c E none 0 0 [] u h.er h.dr).mono fun e w' ⟨h1, h2⟩ => ⟨by rw [h1, qk], h2⟩)
  have CD := hide (show ∀ (u : World) (a : Option Addr) (n c : Nat), (Row u a n X ∧ n ≤ c ∧ ∀ x, a = some x → x.block < u.heap.size) → Calls Try.prog 13 #[.slice a n c] u fun e w' => ∃ a1 c1 a2 c2, e = .returned (.tuple #[pgv lo hi r a1 es.length c1 a2 ds.length c2, .int .i64 0]) ∧ PgOwn w' u.heap.size a1 es.length c1 a2 ds.length c2 es ds ∧ Below u.heap.size u w' from fun u a n c h => (implReadPage_any a n c X u h.1 (by rw [hX]; exact by_page sm) h.2.1 h.2.2).mono fun e w' ⟨a1, m1, c1, a2, m2, c2, h1, h2, h3⟩ => by
    have e1 : rdP X = ⟨lo, hi, r, es, ds⟩ := by rw [hX]; exact rb.1
    have e2 : rdC X = 0 := by rw [hX]; exact rb.2
    rw [e1, e2] at h1
    rw [e1] at h2
    obtain ⟨rfl, rfl⟩ := h2.len
    exact ⟨a1, c1, a2, c2, h1, h2, h3⟩)
  have LN := hide (unhide OK).2
  clear hH hR hE hX hT ok qk hQ sm rb OK
  obtain ⟨⟨p0, p1, p2, p3, p4⟩, _⟩ := five_of (unhide P).k
  go_wp2_with fail
  clear p0 p1 p2 p3 p4
  refine (unhide CC _ (unhide P)).mono ?_
  rintro e w3 ⟨e1, f1, rfl, ho, hb⟩
  have bN : Below w3.heap.size w3 (w3.alloc (.cells #[.string lo, .string H, .int .i64 R, .slice e1 E.length f1, .slice none 0 0] 26)) := (Below.refl _ _).alloc (Nat.le_refl _) _
  have bT := hb.trans (bN.mono hb.size)
  replace P := hide ((unhide P).below bT)
  replace BW := hide ((unhide BW).trans (bT.mono (unhide BW).size))
  have Q := hide (PgAt.new (lo := lo) (hi := H) (r := R) ho)
  clear hb bN bT ho CC
  go_upto_region 6 with fail
  generalize w3.alloc (.cells #[.string lo, .string H, .int .i64 R, .slice e1 E.length f1, .slice none 0 0] 26) = wC at *
  generalize w3.heap.size = bq at *
  obtain ⟨⟨p0, p1, p2, p3, p4⟩, _⟩ := five_of (unhide P).k
  go_wp2_with fail
  clear p0 p1 p2 p3 p4
  refine (unhide CF _ (unhide P)).mono ?_
  rintro e w4 ⟨rfl, bT⟩
  replace P := hide ((unhide P).below bT)
  replace BW := hide ((unhide BW).trans (bT.mono (unhide BW).size))
  replace Q := hide ((unhide Q).below bT)
  clear bT CF
  obtain ⟨⟨p0, p1, p2, p3, p4⟩, _⟩ := five_of (unhide Q).k
  go_wp2_with fail
  clear p0 p1 p2 p3 p4
  refine (unhide CQ _ bq _ _ (unhide Q)).mono ?_
  rintro e w5 ⟨rfl, bT⟩
  replace P := hide ((unhide P).below bT)
  replace BW := hide ((unhide BW).trans (bT.mono (unhide BW).size))
  replace Q := hide ((unhide Q).below bT)
  clear bT CQ
  obtain ⟨⟨p0, p1, p2, p3, p4⟩, _⟩ := five_of (unhide P).k
  go_wp2_with fail
  clear p0 p1 p2 p3 p4
  refine (unhide CW _ (unhide P)).mono ?_
  rintro e w6 ⟨rfl, bT⟩
  replace P := hide ((unhide P).below bT)
  replace BW := hide ((unhide BW).trans (bT.mono (unhide BW).size))
  replace Q := hide ((unhide Q).below bT)
  clear bT CW
  obtain ⟨⟨p0, p1, p2, p3, p4⟩, _⟩ := five_of (unhide P).k
  go_wp2_with fail
  clear p0 p1 p2 p3 p4
  refine (unhide CB _ (unhide P)).mono ?_
  rintro e w7 ⟨rfl, bT⟩
  replace P := hide ((unhide P).below bT)
  replace BW := hide ((unhide BW).trans (bT.mono (unhide BW).size))
  replace Q := hide ((unhide Q).below bT)
  clear bT CB
  obtain ⟨⟨p0, p1, p2, p3, p4⟩, _⟩ := five_of (unhide Q).k
  go_wp2_with fail
  clear p0 p1 p2 p3 p4
  refine (unhide CR _ bq _ _ (unhide Q)).mono ?_
  rintro e w8 ⟨rfl, bT⟩
  replace P := hide ((unhide P).below bT)
  replace BW := hide ((unhide BW).trans (bT.mono (unhide BW).size))
  replace Q := hide ((unhide Q).below bT)
  clear bT CR
  obtain ⟨⟨p0, p1, p2, p3, p4⟩, _⟩ := five_of (unhide P).k
  go_wp2_with fail
  clear p0 p1 p2 p3 p4
  refine (unhide CP _ (unhide P)).mono ?_
  rintro e w9 ⟨ab, nb, cb, rfl, hx, bT⟩
  replace P := hide ((unhide P).below bT)
  replace BW := hide ((unhide BW).trans (bT.mono (unhide BW).size))
  replace Q := hide ((unhide Q).below bT)
  have XX := hide hx
  clear bT CP hx
  go_wp2_with fail
  refine (unhide CD _ ab nb cb (unhide XX)).mono ?_
  rintro e wa ⟨e2, f2, e3, f3, rfl, ho, hb⟩
  have bN : Below wa.heap.size wa (wa.alloc (.cells #[.string lo, .string hi, .int .i64 r, .slice e2 es.length f2, .slice e3 ds.length f3] 26)) := (Below.refl _ _).alloc (Nat.le_refl _) _
  have bT := hb.trans (bN.mono hb.size)
  replace P := hide ((unhide P).below bT)
  replace BW := hide ((unhide BW).trans (bT.mono (unhide BW).size))
  replace Q := hide ((unhide Q).below bT)
  have V := hide (PgAt.new (lo := lo) (hi := hi) (r := r) ho)
  clear hb bN bT ho CD XX
  go_upto_region 13 with fail
  generalize wa.alloc (.cells #[.string lo, .string hi, .int .i64 r, .slice e2 es.length f2, .slice e3 ds.length f3] 26) = wE at *
  generalize wa.heap.size = bv at *
  obtain ⟨⟨p0, p1, p2, p3, p4⟩, _⟩ := five_of (unhide Q).k
  go_wp2_with fail
  clear p0 p1 p2 p3 p4
  refine (unhide CO _ bq _ _ (unhide Q)).mono ?_
  rintro e wf ⟨rfl, bT⟩
  replace P := hide ((unhide P).below bT)
  replace BW := hide ((unhide BW).trans (bT.mono (unhide BW).size))
  replace Q := hide ((unhide Q).below bT)
  replace V := hide ((unhide V).below bT)
  clear bT CO
  obtain ⟨⟨p0, p1, p2, p3, p4⟩, _⟩ := five_of (unhide V).k
  obtain ⟨⟨q0, q1, q2, q3, q4⟩, _⟩ := five_of (unhide P).k
  go_wp2_with fail
  clear p0 p1 p2 p3 p4 q0 q1 q2 q3 q4
  refine (samePage_any lo hi r e2 b1 es.length f2 d1 es e3 b2 ds.length f3 d2 ds _ (unhide V).er (unhide P).er (unhide V).dr (unhide P).dr (by have := (unhide LN).1; omega) (by have := (unhide LN).2; omega)).mono ?_
  rintro e wg ⟨rfl, bT⟩
  replace BW := hide ((unhide BW).trans (bT.mono (unhide BW).size))
  clear bT
  go_wp2_with fail
  go_ret
  exact ⟨rfl, unhide BW⟩
end Go.Proofs.Ytihcebfmcmpojaa
