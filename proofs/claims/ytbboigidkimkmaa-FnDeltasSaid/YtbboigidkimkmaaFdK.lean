/-
  The walk of FnDeltas.
-/
import Derived.Test.YtbboigidkimkmaaFdJ
import Derived.Test.YtbboigidkimkmaaPageX
namespace Go.Proofs.Ytbboigidkimkmaa
open Go.RowKit

set_option maxRecDepth 100000 in
set_option maxHeartbeats 8000000 in
theorem fnDeltas_law (a1 : Option Addr) (n1 c1 : Nat) (zs1 : List Int) (a2 : Option Addr) (n2 c2 : Nat) (zs2 : List Int) (w : World) (h1 : IsRow .u8 w a1 n1 c1 zs1) (h2 : IsRow .u8 w a2 n2 c2 zs2) :
    Calls Try.prog 4 #[.slice a1 n1 c1, .slice a2 n2 c2] w fun e w' => e = .returned (.bool true) ∧ Below w.heap.size w w' := by
  obtain ⟨hr1, hm1, _⟩ := row_of_isRow h1
  obtain ⟨hr2, hm2, _⟩ := row_of_isRow h2
  have by1 := hide (bytes_of_isRow h1)
  have by2 := hide (bytes_of_isRow h2)
  clear h1 h2
  unfold maxLen at hm1 hm2
  by_cases hbig : 1048576 < n1 ∨ 1048576 < n2
  · clear hr1 hr2 by1 by2
    by_cases hb1 : 1048576 < n1
    all_goals
      go_enter Try.func4, Try.ntmps4
      go_wp2_with fail
      go_ret
      exact ⟨rfl, Below.refl _ _⟩
  have hn1 : n1 ≤ 1048576 := by omega
  have hn2 : n2 ≤ 1048576 := by omega
  clear hbig hm1 hm2
  generalize zs1.take n1 = xs1 at *
  generalize zs2.take n2 = xs2 at *
  have R1 := hide hr1
  have R2 := hide hr2
  clear hr1 hr2
  go_enter Try.func4, Try.ntmps4
  go_wp2_with fail
  refine (pageOf_any a1 n1 c1 xs1 w (unhide R1) (unhide by1) hn1).mono ?_
  rintro e w1 ⟨lo, hi, r, b1, m1, d1, b2, m2, d2, es, ds, rfl, ho, hok, hb⟩
  have bN : Below w1.heap.size w1 (w1.alloc (.cells #[.string lo, .string hi, .int .i64 r, .slice b1 m1 d1, .slice b2 m2 d2] 26)) := (Below.refl _ _).alloc (Nat.le_refl _) _
  have P := hide (PgAt.new (lo := lo) (hi := hi) (r := r) ho)
  have BW := hide (hb.trans (bN.mono hb.size))
  replace R2 := hide (row_growF (unhide R2) (unhide BW))
  have OK := hide hok
  clear ho hok hb bN R1 by1
  go_wp2_with fail
  generalize w1.alloc (.cells #[.string lo, .string hi, .int .i64 r, .slice b1 m1 d1, .slice b2 m2 d2] 26) = wA at *
  generalize w1.heap.size = bp at *
  refine (deltaOf_any a2 n2 c2 xs2 _ (unhide R2) (unhide by2) hn2).mono ?_
  rintro e w2 ⟨d, rfl, hb⟩
  unfold dV
  have bN : Below w2.heap.size w2 (w2.alloc (.cells #[.int .i64 d.kind, .string d.k, .string d.v, .int .i64 d.to] 41)) := (Below.refl _ _).alloc (Nat.le_refl _) _
  have bT := hb.trans (bN.mono hb.size)
  replace P := hide ((unhide P).below bT)
  replace R2 := hide (row_growF (unhide R2) bT)
  replace BW := hide ((unhide BW).trans (bT.mono (unhide BW).size))
  have KD := hide (heap_alloc_new w2 (.cells #[.int .i64 d.kind, .string d.k, .string d.v, .int .i64 d.to] 41))
  -- REST
  clear hb bN bT
  go_upto_region 5 with fail
  generalize w2.alloc (.cells #[.int .i64 d.kind, .string d.k, .string d.v, .int .i64 d.to] 41) = wB at *
  generalize w2.heap.size = bd at *
  obtain ⟨X, hX⟩ : ∃ X, X = extP lo hi r es ds d := ⟨_, rfl⟩
  obtain ⟨C, hC⟩ : ∃ C, C = extC lo hi r es ds d := ⟨_, rfl⟩
  have HL := hide (show X.es.length ≤ 6 ∧ X.ds.length ≤ 7 by
    have := (unhide OK).2
    rw [hX]
    unfold extP
    split
    · simp
      omega
    · simp)
  have HC := hide hC
  have HX := hide (show C = 0 → X = ⟨lo, hi, r, es, ds ++ [d]⟩ from fun h => by rw [hX]; unfold extP; rw [if_pos (hC.symm.trans h)])
  have CE := hide (show ∀ u : World, PgAt u bp lo hi r b1 m1 d1 b2 m2 d2 es ds → Calls Try.prog 16 #[pgv lo hi r b1 m1 d1 b2 m2 d2, dv d] u fun e w' => ∃ a c a2 c2, e = .returned (.tuple #[pgv X.lo X.hi X.r a X.es.length c a2 X.ds.length c2, .int .i64 C]) ∧ PgOwn w' u.heap.size a X.es.length c a2 X.ds.length c2 X.es X.ds ∧ Below u.heap.size u w' from fun u h => (implExtend_any lo hi r b1 m1 d1 es b2 m2 d2 ds d u h.er h.dr h.ce h.cd).mono fun e w' ⟨a, n, c, a2, n2, c2, h1, h2, h3⟩ => by
    rw [← hX, ← hC] at h1
    rw [← hX] at h2
    obtain ⟨rfl, rfl⟩ := h2.len
    exact ⟨a, c, a2, c2, h1, h2, h3⟩)
  have CS := hide (show ∀ u : World, PgAt u bp lo hi r b1 m1 d1 b2 m2 d2 es ds → Calls Try.prog 17 #[pgv lo hi r b1 m1 d1 b2 m2 d2, dv d] u fun e w' => ∃ a c a2 c2, e = .returned (.tuple #[pgv X.lo X.hi X.r a X.es.length c a2 X.ds.length c2, .int .i64 C]) ∧ PgOwn w' u.heap.size a X.es.length c a2 X.ds.length c2 X.es X.ds ∧ Below u.heap.size u w' from fun u h => (specExtend_any lo hi r b1 m1 d1 es b2 m2 d2 ds d u h.er h.dr h.ce h.cd).mono fun e w' ⟨a, n, c, a2, n2, c2, h1, h2, h3⟩ => by
    rw [← hX, ← hC] at h1
    rw [← hX] at h2
    obtain ⟨rfl, rfl⟩ := h2.len
    exact ⟨a, c, a2, c2, h1, h2, h3⟩)
  clear hX hC
  obtain ⟨⟨p0, p1, p2, p3, p4⟩, _⟩ := five_of (unhide P).k
  obtain ⟨k0, k1, k2, k3⟩ := d_cells (unhide KD)
  go_wp2_with fail
  clear p0 p1 p2 p3 p4 k0 k1 k2 k3
  refine (unhide CE _ (unhide P)).mono ?_
  rintro e w3 ⟨e1, f1, e2, f2, rfl, ho, hb⟩
  have bN : Below w3.heap.size w3 (w3.alloc (.cells #[.string X.lo, .string X.hi, .int .i64 X.r, .slice e1 X.es.length f1, .slice e2 X.ds.length f2] 26)) := (Below.refl _ _).alloc (Nat.le_refl _) _
  have bT := hb.trans (bN.mono hb.size)
  replace P := hide ((unhide P).below bT)
  replace KD := hide ((bT.block bd (heap_ltD (unhide KD))).trans (unhide KD))
  replace R2 := hide (row_growF (unhide R2) bT)
  replace BW := hide ((unhide BW).trans (bT.mono (unhide BW).size))
  have Q := hide (PgAt.new (lo := X.lo) (hi := X.hi) (r := X.r) ho)
  clear hb bN bT ho CE
  go_upto_region 6 with fail
  generalize w3.alloc (.cells #[.string X.lo, .string X.hi, .int .i64 X.r, .slice e1 X.es.length f1, .slice e2 X.ds.length f2] 26) = wC at *
  generalize w3.heap.size = bq at *
  obtain ⟨⟨p0, p1, p2, p3, p4⟩, _⟩ := five_of (unhide P).k
  obtain ⟨k0, k1, k2, k3⟩ := d_cells (unhide KD)
  go_wp2_with fail
  clear p0 p1 p2 p3 p4 k0 k1 k2 k3
  refine (unhide CS _ (unhide P)).mono ?_
  rintro e w4 ⟨e3, f3, e4, f4, rfl, ho, hb⟩
  have bN : Below w4.heap.size w4 (w4.alloc (.cells #[.string X.lo, .string X.hi, .int .i64 X.r, .slice e3 X.es.length f3, .slice e4 X.ds.length f4] 26)) := (Below.refl _ _).alloc (Nat.le_refl _) _
  have bT := hb.trans (bN.mono hb.size)
  replace P := hide ((unhide P).below bT)
  replace KD := hide ((bT.block bd (heap_ltD (unhide KD))).trans (unhide KD))
  replace R2 := hide (row_growF (unhide R2) bT)
  replace BW := hide ((unhide BW).trans (bT.mono (unhide BW).size))
  replace Q := hide ((unhide Q).below bT)
  have V := hide (PgAt.new (lo := X.lo) (hi := X.hi) (r := X.r) ho)
  clear hb bN bT ho CS
  go_upto_region 7 with fail
  generalize w4.alloc (.cells #[.string X.lo, .string X.hi, .int .i64 X.r, .slice e3 X.es.length f3, .slice e4 X.ds.length f4] 26) = wD at *
  generalize w4.heap.size = bv at *
  obtain ⟨⟨p0, p1, p2, p3, p4⟩, _⟩ := five_of (unhide Q).k
  obtain ⟨⟨q0, q1, q2, q3, q4⟩, _⟩ := five_of (unhide V).k
  go_wp2_with fail
  clear p0 p1 p2 p3 p4 q0 q1 q2 q3 q4
  refine (samePage_any X.lo X.hi X.r e1 e3 X.es.length f1 f3 X.es e2 e4 X.ds.length f2 f4 X.ds _ (unhide Q).er (unhide V).er (unhide Q).dr (unhide V).dr (by have := (unhide HL).1; omega) (by have := (unhide HL).2; omega)).mono ?_
  rintro e w5 ⟨rfl, bT⟩
  clear V
  replace P := hide ((unhide P).below bT)
  replace KD := hide ((bT.block bd (heap_ltD (unhide KD))).trans (unhide KD))
  replace R2 := hide (row_growF (unhide R2) bT)
  replace BW := hide ((unhide BW).trans (bT.mono (unhide BW).size))
  replace Q := hide ((unhide Q).below bT)
  clear bT
  by_cases h0 : C = 0
  · have hx := unhide HX h0
    have hc : extC lo hi r es ds d = 0 := (unhide HC).symm.trans h0
    clear HX HC HL
    have FO := hide (show (d.kind = 1 → findT X.lo X.hi X.r X.es X.ds d.k = (d.v, 0, 0)) ∧ (d.kind = 2 → findT X.lo X.hi X.r X.es X.ds d.k = (ByteArray.empty, 0, 5)) ∧ (d.kind = 3 → findT X.lo X.hi X.r X.es X.ds d.k = (ByteArray.empty, d.to, 12)) by rw [hx]; exact find_own hc)
    have KK := hide (okDel_parts (ext_facts hc).2.1).2.2.2
    have FX := hide (show ∀ o : ByteArray, o ≠ d.k → (d.kind = 3 → ltK o d.k = true) → (findT lo hi r es ds o).1 = (findT X.lo X.hi X.r X.es X.ds o).1 ∧ (findT lo hi r es ds o).2.2 = (findT X.lo X.hi X.r X.es X.ds o).2.2 by rw [hx]; exact fun o h1 h2 => find_other hc h1 h2)
    subst h0
    clear hx
    clear hc
    obtain ⟨⟨p0, p1, p2, p3, p4⟩, _⟩ := five_of (unhide Q).k
    obtain ⟨k0, k1, k2, k3⟩ := d_cells (unhide KD)
    go_wp2_with fail
    clear p0 p1 p2 p3 p4 k0 k1 k2 k3
    refine (implFind_any X.lo X.hi X.r e1 _ f1 X.es e2 _ f2 X.ds d.k _ (unhide Q).er (unhide Q).dr).mono ?_
    rintro e w6 ⟨rfl, bT⟩
    replace P := hide ((unhide P).below bT)
    replace KD := hide ((bT.block bd (heap_ltD (unhide KD))).trans (unhide KD))
    replace R2 := hide (row_growF (unhide R2) bT)
    replace BW := hide ((unhide BW).trans (bT.mono (unhide BW).size))
    replace Q := hide ((unhide Q).below bT)
    clear bT
    rw [findA_eq]
    rcases unhide KK with hk | hk | hk
    · rw [(unhide FO).1 hk]
      have hn3 : d.kind ≠ 3 := by omega
      obtain ⟨k0, k1, k2, k3⟩ := d_cells (unhide KD)
      go_wp2_with fail
      clear k0 k1 k2 k3
      refine (keyOfD_any a2 n2 c2 xs2 _ (unhide R2) (unhide by2) hn2).mono ?_
      rintro e w7 ⟨o, rfl, _, bT⟩
      replace P := hide ((unhide P).below bT)
      replace KD := hide ((bT.block bd (heap_ltD (unhide KD))).trans (unhide KD))
      replace R2 := hide (row_growF (unhide R2) bT)
      replace BW := hide ((unhide BW).trans (bT.mono (unhide BW).size))
      replace Q := hide ((unhide Q).below bT)
      clear bT
      obtain ⟨k0, k1, k2, k3⟩ := d_cells (unhide KD)
      by_cases ho : o = d.k
      · go_wp2_with fail
        go_ret
        exact ⟨rfl, unhide BW⟩
      have hol : ¬ o.toList = d.k.toList := fun e => ho (toList_inj e)
      have hob : (o.toList == d.k.toList) = false := by simpa using hol
      have fx := hide (unhide FX o ho (fun h => absurd h hn3))
      obtain ⟨⟨p0, p1, p2, p3, p4⟩, _⟩ := five_of (unhide P).k
      go_wp2_with fail
      clear p0 p1 p2 p3 p4 k0 k1 k2 k3
      refine (implFind_any lo hi r b1 _ d1 es b2 _ d2 ds o _ (unhide P).er (unhide P).dr).mono ?_
      rintro e w8 ⟨rfl, bT⟩
      replace P := hide ((unhide P).below bT)
      replace KD := hide ((bT.block bd (heap_ltD (unhide KD))).trans (unhide KD))
      replace R2 := hide (row_growF (unhide R2) bT)
      replace BW := hide ((unhide BW).trans (bT.mono (unhide BW).size))
      replace Q := hide ((unhide Q).below bT)
      clear bT
      rw [findA_eq]
      obtain ⟨⟨p0, p1, p2, p3, p4⟩, _⟩ := five_of (unhide Q).k
      go_wp2_with fail
      clear p0 p1 p2 p3 p4
      refine (implFind_any X.lo X.hi X.r e1 _ f1 X.es e2 _ f2 X.ds o _ (unhide Q).er (unhide Q).dr).mono ?_
      rintro e w9 ⟨rfl, bT⟩
      replace P := hide ((unhide P).below bT)
      replace KD := hide ((bT.block bd (heap_ltD (unhide KD))).trans (unhide KD))
      replace R2 := hide (row_growF (unhide R2) bT)
      replace BW := hide ((unhide BW).trans (bT.mono (unhide BW).size))
      replace Q := hide ((unhide Q).below bT)
      clear bT
      rw [findA_eq]
      generalize findT lo hi r es ds o = T1 at *
      generalize findT X.lo X.hi X.r X.es X.ds o = T2 at *
      obtain ⟨x1, x2, x3⟩ := T1
      obtain ⟨y1, y2, y3⟩ := T2
      obtain ⟨rfl, rfl⟩ : x1 = y1 ∧ x3 = y3 := unhide fx
      clear fx
      go_wp2_with fail
      go_ret
      exact ⟨rfl, unhide BW⟩
    · rw [(unhide FO).2.1 hk]
      have hn3 : d.kind ≠ 3 := by omega
      obtain ⟨k0, k1, k2, k3⟩ := d_cells (unhide KD)
      go_wp2_with fail
      clear k0 k1 k2 k3
      refine (keyOfD_any a2 n2 c2 xs2 _ (unhide R2) (unhide by2) hn2).mono ?_
      rintro e w7 ⟨o, rfl, _, bT⟩
      replace P := hide ((unhide P).below bT)
      replace KD := hide ((bT.block bd (heap_ltD (unhide KD))).trans (unhide KD))
      replace R2 := hide (row_growF (unhide R2) bT)
      replace BW := hide ((unhide BW).trans (bT.mono (unhide BW).size))
      replace Q := hide ((unhide Q).below bT)
      clear bT
      obtain ⟨k0, k1, k2, k3⟩ := d_cells (unhide KD)
      by_cases ho : o = d.k
      · go_wp2_with fail
        go_ret
        exact ⟨rfl, unhide BW⟩
      have hol : ¬ o.toList = d.k.toList := fun e => ho (toList_inj e)
      have hob : (o.toList == d.k.toList) = false := by simpa using hol
      have fx := hide (unhide FX o ho (fun h => absurd h hn3))
      obtain ⟨⟨p0, p1, p2, p3, p4⟩, _⟩ := five_of (unhide P).k
      go_wp2_with fail
      clear p0 p1 p2 p3 p4 k0 k1 k2 k3
      refine (implFind_any lo hi r b1 _ d1 es b2 _ d2 ds o _ (unhide P).er (unhide P).dr).mono ?_
      rintro e w8 ⟨rfl, bT⟩
      replace P := hide ((unhide P).below bT)
      replace KD := hide ((bT.block bd (heap_ltD (unhide KD))).trans (unhide KD))
      replace R2 := hide (row_growF (unhide R2) bT)
      replace BW := hide ((unhide BW).trans (bT.mono (unhide BW).size))
      replace Q := hide ((unhide Q).below bT)
      clear bT
      rw [findA_eq]
      obtain ⟨⟨p0, p1, p2, p3, p4⟩, _⟩ := five_of (unhide Q).k
      go_wp2_with fail
      clear p0 p1 p2 p3 p4
      refine (implFind_any X.lo X.hi X.r e1 _ f1 X.es e2 _ f2 X.ds o _ (unhide Q).er (unhide Q).dr).mono ?_
      rintro e w9 ⟨rfl, bT⟩
      replace P := hide ((unhide P).below bT)
      replace KD := hide ((bT.block bd (heap_ltD (unhide KD))).trans (unhide KD))
      replace R2 := hide (row_growF (unhide R2) bT)
      replace BW := hide ((unhide BW).trans (bT.mono (unhide BW).size))
      replace Q := hide ((unhide Q).below bT)
      clear bT
      rw [findA_eq]
      generalize findT lo hi r es ds o = T1 at *
      generalize findT X.lo X.hi X.r X.es X.ds o = T2 at *
      obtain ⟨x1, x2, x3⟩ := T1
      obtain ⟨y1, y2, y3⟩ := T2
      obtain ⟨rfl, rfl⟩ : x1 = y1 ∧ x3 = y3 := unhide fx
      clear fx
      go_wp2_with fail
      go_ret
      exact ⟨rfl, unhide BW⟩
    · rw [(unhide FO).2.2 hk]
      obtain ⟨k0, k1, k2, k3⟩ := d_cells (unhide KD)
      go_wp2_with fail
      clear k0 k1 k2 k3
      refine (keyOfD_any a2 n2 c2 xs2 _ (unhide R2) (unhide by2) hn2).mono ?_
      rintro e w7 ⟨o, rfl, _, bT⟩
      replace P := hide ((unhide P).below bT)
      replace KD := hide ((bT.block bd (heap_ltD (unhide KD))).trans (unhide KD))
      replace R2 := hide (row_growF (unhide R2) bT)
      replace BW := hide ((unhide BW).trans (bT.mono (unhide BW).size))
      replace Q := hide ((unhide Q).below bT)
      clear bT
      obtain ⟨k0, k1, k2, k3⟩ := d_cells (unhide KD)
      by_cases ho : o = d.k
      · go_wp2_with fail
        go_ret
        exact ⟨rfl, unhide BW⟩
      have hol : ¬ o.toList = d.k.toList := fun e => ho (toList_inj e)
      have hob : (o.toList == d.k.toList) = false := by simpa using hol
      by_cases hl : Op.bytesLess o.toList d.k.toList = true
      · have fx := hide (unhide FX o ho (fun _ => hl))
        obtain ⟨⟨p0, p1, p2, p3, p4⟩, _⟩ := five_of (unhide P).k
        go_wp2_with fail
        clear p0 p1 p2 p3 p4 k0 k1 k2 k3
        refine (implFind_any lo hi r b1 _ d1 es b2 _ d2 ds o _ (unhide P).er (unhide P).dr).mono ?_
        rintro e w8 ⟨rfl, bT⟩
        replace P := hide ((unhide P).below bT)
        replace KD := hide ((bT.block bd (heap_ltD (unhide KD))).trans (unhide KD))
        replace R2 := hide (row_growF (unhide R2) bT)
        replace BW := hide ((unhide BW).trans (bT.mono (unhide BW).size))
        replace Q := hide ((unhide Q).below bT)
        clear bT
        rw [findA_eq]
        obtain ⟨⟨p0, p1, p2, p3, p4⟩, _⟩ := five_of (unhide Q).k
        go_wp2_with fail
        clear p0 p1 p2 p3 p4
        refine (implFind_any X.lo X.hi X.r e1 _ f1 X.es e2 _ f2 X.ds o _ (unhide Q).er (unhide Q).dr).mono ?_
        rintro e w9 ⟨rfl, bT⟩
        replace P := hide ((unhide P).below bT)
        replace KD := hide ((bT.block bd (heap_ltD (unhide KD))).trans (unhide KD))
        replace R2 := hide (row_growF (unhide R2) bT)
        replace BW := hide ((unhide BW).trans (bT.mono (unhide BW).size))
        replace Q := hide ((unhide Q).below bT)
        clear bT
        rw [findA_eq]
        generalize findT lo hi r es ds o = T1 at *
        generalize findT X.lo X.hi X.r X.es X.ds o = T2 at *
        obtain ⟨x1, x2, x3⟩ := T1
        obtain ⟨y1, y2, y3⟩ := T2
        obtain ⟨rfl, rfl⟩ : x1 = y1 ∧ x3 = y3 := unhide fx
        clear fx
        go_wp2_with fail
        go_ret
        exact ⟨rfl, unhide BW⟩
      · have hl : Op.bytesLess o.toList d.k.toList = false := by simpa using hl
        go_wp2_with fail
        go_ret
        exact ⟨rfl, unhide BW⟩
  · go_wp2_with fail
    go_ret
    exact ⟨rfl, unhide BW⟩
end Go.Proofs.Ytbboigidkimkmaa
