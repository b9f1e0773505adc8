/-
  The law of ReadAct.
-/
import Derived.Test.YtmogcfiioajaeaaDoorRaA
namespace Go.Proofs.YtmogcfiioajaeaaDoor
open Go.RowKit

theorem act_keep {ws : List ByteArray} {d : AlD} (h : acW ws = some d) (hz : ∀ x ∈ ws, x.size ≤ 65536) : d.keep.length ≤ 65536 := by
  unfold acW at h
  cases ht : txW ws with
  | some d' =>
    rw [ht] at h
    injection h with h
    rw [← h, tx_keep ht]
    exact Nat.zero_le _
  | none =>
    rw [ht] at h
    match ws, h with
    | [x], h =>
      simp only at h
      split at h
      · injection h with h; rw [← h]; exact Nat.zero_le _
      · split at h
        · injection h with h; rw [← h]; exact Nat.zero_le _
        · cases h
    | [x, y], h =>
      simp only at h
      split at h
      · obtain ⟨v, _, h⟩ := Option.map_eq_some_iff.1 h
        rw [← h]; exact Nat.zero_le _
      · cases h
    | [x, y, z], h =>
      simp only at h
      split at h
      · split at h
        · obtain ⟨v, _, h⟩ := Option.map_eq_some_iff.1 h
          rw [← h]
          show (flL z.data.toList).length ≤ 65536
          rw [flL_len]
          have h1 := hz z (by simp)
          have h2 : z.data.toList.length = z.size := Array.length_toList
          omega
        · cases h
      · cases h
theorem ra_keep {s : ByteArray} {d : AlD} {code : Int} (h : (d, code) = raD s) : d.keep.length ≤ 65536 := by
  unfold raD at h
  split at h
  · injection h with h _; rw [h]; exact Nat.zero_le _
  · rename_i hl
    split at h
    · rename_i d' hd
      injection h with h _
      rw [h]
      exact act_keep hd (words_sz s (by omega))
    · injection h with h _; rw [h]; exact Nat.zero_le _
theorem keep_below {w w' : World} {B : Nat} {v : Value} {fs : List Bool} (h : KeepOwns w B v fs) (hb : Below w.heap.size w w') : KeepOwns w' B v fs :=
  ownsRow_heap h (fun g hg => hb.block g (World.ownsRow.lt h g hg).2)
theorem keep_wr {P : Nat → Prop} {w w' : World} {B : Nat} {v : Value} {fs : List Bool} (h : KeepOwns w B v fs) (hw : Wr P w w') (hp : ∀ g, v.ownBlock = some g → ¬ P g) : KeepOwns w' B v fs :=
  ownsRow_heap h (fun g hg => hw.block g (World.ownsRow.lt h g hg).2 (hp g hg))
set_option maxRecDepth 100000 in
set_option maxHeartbeats 8000000 in
theorem walkReadAct (s : ByteArray) (w : World) (hL : LibW w) (h8 : 8 ≤ w.heap.size) :
    Calls Tryd.prog 3 #[.string s] w fun e w' => e = .returned (.bool true) ∧ Below w.heap.size w w' := by
  by_cases hbig : 1048576 < s.size
  · have hl2 : (1048576 : Int) < (s.size : Int) := by omega
    have BB := hide (Below.refl w.heap.size w)
    clear hbig hL
    go_enter Tryd.func3, Tryd.ntmps3
    go_wp2_with fail
    go_ret
    exact ⟨rfl, unhide BB⟩
  have hs : s.size ≤ 1048576 := by omega
  have hl2 : (s.size : Int) ≤ 1048576 := by omega
  have C := hide (specReadAct_any s w hs)
  have LW := hide hL
  clear hbig hL
  go_enter Tryd.func3, Tryd.ntmps3
  go_wp2_with fail
  refine (unhide C).mono ?_
  rintro e w1 ⟨⟨d1, d2, d3, d4, d5, d6, d7, d8⟩, a, m, c, code, rfl, hd, hso, hb⟩
  simp only [alC]
  have HD := hide hd
  have hkl := hide (show d8.length ≤ 65536 from ra_keep hd)
  have SO := hide hso
  have BB := hide hb
  clear C hd hso hb
  obtain ⟨w2, hw2⟩ : ∃ w2, w2 = w1.alloc (.cells #[.int .i64 d1, .int .i64 d2, .int .i64 d3, .int .i64 d4, .string d5, .string d6, .string d7, .slice a m c] 26) := ⟨_, rfl⟩
  have b2 : Below w1.heap.size w1 w2 := by rw [hw2]; exact (Below.refl _ _).alloc (Nat.le_refl _) _
  have s2 := hide (show w2.heap.size = w1.heap.size + 1 by rw [hw2]; simp)
  have K3 := hide (show w2.heap[w1.heap.size]? = some (.cells #[.int .i64 d1, .int .i64 d2, .int .i64 d3, .int .i64 d4, .string d5, .string d6, .string d7, .slice a m c] 26 (0, 0)) from by rw [hw2]; exact heap_alloc_new _ _)
  have SOlt := hide (show ∀ g, (Value.slice a m c).ownBlock = some g → g < w1.heap.size from fun g hg => (World.ownsRow.lt (unhide SO) g hg).2)
  replace SO := hide (keep_below (unhide SO) b2)
  replace BB := hide ((unhide BB).trans (b2.mono (unhide BB).size))
  have C := hide (implReadAct_any s w2 hs ((unhide LW).wrote (R := w.heap.size) (Wrote.of_below (unhide BB)) h8 h8) (by have := (unhide BB).size; omega))
  have hw02 := hide (unhide BB).size
  clear b2
  go_upto_region 4 with fail
  rw [← hw2]
  clear hw2
  have hx := hide (show w1.heap.size < w2.heap.size from al_lt (unhide K3))
  clear s2
  generalize w1.heap.size = x3 at *
  go_wp2_with fail
  refine (unhide C).mono ?_
  rintro e w3 ⟨⟨e1, e2, e3, e4, e5, e6, e7, e8⟩, a2, m2, c2, code2, rfl, hd, hgo, hb⟩
  have hdd := hd.trans (unhide HD).symm
  injection hdd with hdd hcc
  injection hdd with q1 q2 q3 q4 q5 q6 q7 q8
  subst q1 q2 q3 q4 q5 q6 q7 q8 hcc
  simp only [alC]
  replace K3 := hide ((hb.block _ (al_lt (unhide K3))).trans (unhide K3))
  replace SO := hide (keep_below (unhide SO) hb)
  replace BB := hide ((unhide BB).trans (hb.mono (unhide BB).size))
  have GO := hide hgo
  have GOlo := hide (show ∀ g, (Value.slice a2 m2 c2).ownBlock = some g → w2.heap.size ≤ g ∧ g < w3.heap.size from fun g hg => World.ownsRow.lt (unhide GO) g hg)
  have hwx := hide (show w.heap.size ≤ w2.heap.size from unhide hw02)
  clear C hd hgo hb
  obtain ⟨w4, hw4⟩ : ∃ w4, w4 = w3.alloc (.cells #[.int .i64 e1, .int .i64 e2, .int .i64 e3, .int .i64 e4, .string e5, .string e6, .string e7, .slice a2 m2 c2] 26) := ⟨_, rfl⟩
  have b4 : Below w3.heap.size w3 w4 := by rw [hw4]; exact (Below.refl _ _).alloc (Nat.le_refl _) _
  have K5 := hide (show w4.heap[w3.heap.size]? = some (.cells #[.int .i64 e1, .int .i64 e2, .int .i64 e3, .int .i64 e4, .string e5, .string e6, .string e7, .slice a2 m2 c2] 26 (0, 0)) from by rw [hw4]; exact heap_alloc_new _ _)
  replace K3 := hide ((b4.block _ (al_lt (unhide K3))).trans (unhide K3))
  replace SO := hide (keep_below (unhide SO) b4)
  replace GO := hide (keep_below (unhide GO) b4)
  replace BB := hide ((unhide BB).trans (b4.mono (unhide BB).size))
  clear b4
  go_upto_region 5 with fail
  rw [← hw4]
  clear hw4
  generalize w3.heap.size = x5 at *
  have x0 := (heap_at (unhide K3) 0).1
  have x1 := (heap_at (unhide K3) 1).1
  have x2 := (heap_at (unhide K3) 2).1
  have x3 := (heap_at (unhide K3) 3).1
  have x4 := (heap_at (unhide K3) 4).1
  have x5 := (heap_at (unhide K3) 5).1
  have x6 := (heap_at (unhide K3) 6).1
  have x7 := (heap_at (unhide K3) 7).1
  have y0 := (heap_at (unhide K5) 0).1
  have y1 := (heap_at (unhide K5) 1).1
  have y2 := (heap_at (unhide K5) 2).1
  have y3 := (heap_at (unhide K5) 3).1
  have y4 := (heap_at (unhide K5) 4).1
  have y5 := (heap_at (unhide K5) 5).1
  have y6 := (heap_at (unhide K5) 6).1
  have y7 := (heap_at (unhide K5) 7).1
  have C := hide (eqAct_any _ _ ⟨e1, e2, e3, e4, e5, e6, e7, e8⟩ a2 a m2 m c2 c w4 (unhide GO) (unhide SO) (by have := unhide hkl; show e8.length ≤ 1000000; omega))
  simp only [alC] at C
  go_wp2_with fail
  refine (unhide C).mono ?_
  rintro e w5 ⟨rfl, hb⟩
  replace K3 := hide ((hb.block _ (al_lt (unhide K3))).trans (unhide K3))
  replace K5 := hide ((hb.block _ (al_lt (unhide K5))).trans (unhide K5))
  replace SO := hide (keep_below (unhide SO) hb)
  replace GO := hide (keep_below (unhide GO) hb)
  replace BB := hide ((unhide BB).trans (hb.mono (unhide BB).size))
  clear C hb x0 x1 x2 x3 x4 x5 x6 x7 y0 y1 y2 y3 y4 y5 y6 y7
  have y0 := (heap_at (unhide K5) 0).1
  have y1 := (heap_at (unhide K5) 1).1
  have y2 := (heap_at (unhide K5) 2).1
  have y3 := (heap_at (unhide K5) 3).1
  have y4 := (heap_at (unhide K5) 4).1
  have y5 := (heap_at (unhide K5) 5).1
  have y6 := (heap_at (unhide K5) 6).1
  have y7 := (heap_at (unhide K5) 7).1
  have hm2 := hide (keep_n (unhide GO))
  have C := hide (markAct_any _ e1 e2 e3 e4 e5 e6 e7 a2 m2 c2 1 e8 w5 (unhide GO) (by have := unhide hkl; omega) (by decide))
  go_wp2_with fail
  refine (unhide C).mono ?_
  rintro e w6 ⟨rfl, hgo, wx, hb, hw⟩
  replace GO := hide hgo
  replace K3 := hide (loc_wr ((hb.block _ (al_lt (unhide K3))).trans (unhide K3)) hw (fun e => by have := (unhide GOlo _ e).1; have := unhide hx; omega))
  replace K5 := hide (loc_wr ((hb.block _ (al_lt (unhide K5))).trans (unhide K5)) hw (fun e => by have := (unhide GOlo _ e).2; omega))
  replace SO := hide (keep_wr (keep_below (unhide SO) hb) hw (fun g hg e => by have := (unhide GOlo _ e).1; have := unhide SOlt g hg; have := unhide hx; omega))
  replace BB := hide (((unhide BB).trans (hb.mono (unhide BB).size)).trans (hw.below (fun i e => by have := (unhide GOlo _ e).1; have := unhide hwx; omega) (Nat.le_trans (unhide BB).size hb.size)))
  clear C hgo hb hw y0 y1 y2 y3 y4 y5 y6 y7
  have y0 := (heap_at (unhide K5) 0).1
  have y1 := (heap_at (unhide K5) 1).1
  have y2 := (heap_at (unhide K5) 2).1
  have y3 := (heap_at (unhide K5) 3).1
  have y4 := (heap_at (unhide K5) 4).1
  have y5 := (heap_at (unhide K5) 5).1
  have y6 := (heap_at (unhide K5) 6).1
  have y7 := (heap_at (unhide K5) 7).1
  have C := hide (heldAct_any _ e1 e2 e3 e4 e5 e6 e7 a2 m2 c2 1 w6 (unhide GO) (by have := unhide hkl; have := unhide hm2; omega) (by decide))
  go_wp2_with fail
  refine (unhide C).mono ?_
  rintro e w7 ⟨rfl, hb⟩
  replace K3 := hide ((hb.block _ (al_lt (unhide K3))).trans (unhide K3))
  replace K5 := hide ((hb.block _ (al_lt (unhide K5))).trans (unhide K5))
  replace SO := hide (keep_below (unhide SO) hb)
  replace GO := hide (keep_below (unhide GO) hb)
  replace BB := hide ((unhide BB).trans (hb.mono (unhide BB).size))
  clear C hb y0 y1 y2 y3 y4 y5 y6 y7
  have hm3 := hide (show m2 ≤ 65536 from by have := unhide hkl; have := unhide hm2; omega)
  have hq0 : ¬ ((1 + m2 : Nat) : Int) < 0 := by omega
  have C := hide (implReadAct_any s w7 hs ((unhide LW).wrote (R := w.heap.size) (Wrote.of_below (unhide BB)) h8 h8) (by have := (unhide BB).size; omega))
  go_wp2_with fail
  refine (unhide C).mono ?_
  rintro e w8 ⟨⟨f1, f2, f3, f4, f5, f6, f7, f8⟩, a3, m3, c3, code3, rfl, hd, hho, hb⟩
  have hdd := hd.trans (unhide HD).symm
  injection hdd with hdd hcc
  injection hdd with q1 q2 q3 q4 q5 q6 q7 q8
  subst q1 q2 q3 q4 q5 q6 q7 q8 hcc
  simp only [alC]
  replace K3 := hide ((hb.block _ (al_lt (unhide K3))).trans (unhide K3))
  replace K5 := hide ((hb.block _ (al_lt (unhide K5))).trans (unhide K5))
  replace SO := hide (keep_below (unhide SO) hb)
  replace GO := hide (keep_below (unhide GO) hb)
  replace BB := hide ((unhide BB).trans (hb.mono (unhide BB).size))
  have HO := hide hho
  clear C hd hho hb
  obtain ⟨w9, hw9⟩ : ∃ w9, w9 = w8.alloc (.cells #[.int .i64 f1, .int .i64 f2, .int .i64 f3, .int .i64 f4, .string f5, .string f6, .string f7, .slice a3 m3 c3] 26) := ⟨_, rfl⟩
  have hb : Below w8.heap.size w8 w9 := by rw [hw9]; exact (Below.refl _ _).alloc (Nat.le_refl _) _
  have K9 := hide (show w9.heap[w8.heap.size]? = some (.cells #[.int .i64 f1, .int .i64 f2, .int .i64 f3, .int .i64 f4, .string f5, .string f6, .string f7, .slice a3 m3 c3] 26 (0, 0)) from by rw [hw9]; exact heap_alloc_new _ _)
  replace K3 := hide ((hb.block _ (al_lt (unhide K3))).trans (unhide K3))
  replace K5 := hide ((hb.block _ (al_lt (unhide K5))).trans (unhide K5))
  replace SO := hide (keep_below (unhide SO) hb)
  replace GO := hide (keep_below (unhide GO) hb)
  replace HO := hide (keep_below (unhide HO) hb)
  replace BB := hide ((unhide BB).trans (hb.mono (unhide BB).size))
  clear hb
  go_upto_region 16 with fail
  rw [← hw9]
  clear hw9
  generalize w8.heap.size = x9 at *
  have x0 := (heap_at (unhide K3) 0).1
  have x1 := (heap_at (unhide K3) 1).1
  have x2 := (heap_at (unhide K3) 2).1
  have x3 := (heap_at (unhide K3) 3).1
  have x4 := (heap_at (unhide K3) 4).1
  have x5 := (heap_at (unhide K3) 5).1
  have x6 := (heap_at (unhide K3) 6).1
  have x7 := (heap_at (unhide K3) 7).1
  have y0 := (heap_at (unhide K9) 0).1
  have y1 := (heap_at (unhide K9) 1).1
  have y2 := (heap_at (unhide K9) 2).1
  have y3 := (heap_at (unhide K9) 3).1
  have y4 := (heap_at (unhide K9) 4).1
  have y5 := (heap_at (unhide K9) 5).1
  have y6 := (heap_at (unhide K9) 6).1
  have y7 := (heap_at (unhide K9) 7).1
  have C := hide (eqAct_any _ _ ⟨f1, f2, f3, f4, f5, f6, f7, f8⟩ a3 a m3 m c3 c w9 (unhide HO) (unhide SO) (by have := unhide hkl; show f8.length ≤ 1000000; omega))
  simp only [alC] at C
  go_wp2_with fail
  refine (unhide C).mono ?_
  rintro e w10 ⟨rfl, hb⟩
  replace K5 := hide ((hb.block _ (al_lt (unhide K5))).trans (unhide K5))
  replace GO := hide (keep_below (unhide GO) hb)
  replace BB := hide ((unhide BB).trans (hb.mono (unhide BB).size))
  clear C hb HO SO K3 K9 x0 x1 x2 x3 x4 x5 x6 x7 y0 y1 y2 y3 y4 y5 y6 y7
  have z0 := (heap_at (unhide K5) 0).1
  have z1 := (heap_at (unhide K5) 1).1
  have z2 := (heap_at (unhide K5) 2).1
  have z3 := (heap_at (unhide K5) 3).1
  have z4 := (heap_at (unhide K5) 4).1
  have z5 := (heap_at (unhide K5) 5).1
  have z6 := (heap_at (unhide K5) 6).1
  have z7 := (heap_at (unhide K5) 7).1
  have C := hide (heldAct_any _ f1 f2 f3 f4 f5 f6 f7 a2 m2 c2 1 w10 (unhide GO) (by have := unhide hm3; omega) (by decide))
  go_wp2_with fail
  refine (unhide C).mono ?_
  rintro e w11 ⟨rfl, hb⟩
  replace BB := hide ((unhide BB).trans (hb.mono (unhide BB).size))
  clear C hb K5 GO z0 z1 z2 z3 z4 z5 z6 z7
  go_wp2_with fail
  go_ret
  exact ⟨rfl, unhide BB⟩
end Go.Proofs.YtmogcfiioajaeaaDoor
