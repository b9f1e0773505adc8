/-
  The walk of FnNumbers.
-/
import Derived.Test.YtgifcaeemfaihaaFloatOf
import Derived.Test.YtgifcaeemfaihaaAt
import Derived.Test.YtgifcaeemfaihaaFOrder
import Derived.Test.YtgifcaeemfaihaaSame
import Derived.Test.YtgifcaeemfaihaaFloatKeyI
import Derived.Test.YtgifcaeemfaihaaIntKeyI
import Derived.Test.YtgifcaeemfaihaaBackF
set_option maxRecDepth 100000
namespace Go.Proofs.Ytgifcaeemfaihaa
open Go.RowKit

theorem conv_row8 {w : World} {a : Option Addr} {c : Nat} {xs : List Int} (h : Row w a 8 xs) : (convert 22 9 (.slice a 8 c)).run Try.prog w = .ok (.string (strOfNums xs)) w := by
  obtain ⟨b, off, rfl, _⟩ := h.2 0 (by omega)
  exact run_convert_bytes_arg _ 22 5 Try.underlying22 Try.underlying5 b off 8 c xs h.1 (fun i hi => by
    obtain ⟨b', off', e, hc⟩ := h.2 i hi
    cases e
    exact hc) 9 Try.underlying9
/-- A slice of eight bytes at some address. -/
theorem mine_eight {w : World} {B : Nat} {v : Value} {n : Int} (h : Mine w B v (eights n 8)) : ∃ b off c, v = .slice (some ⟨b, off, none⟩) 8 c ∧ 8 ≤ c ∧ c ≤ maxLen ∧ Row w (some ⟨b, off, none⟩) 8 (eights n 8) ∧ B ≤ b ∧ b < w.heap.size := by
  obtain ⟨a, c, rfl, h1, h2, hr, hf⟩ := h
  rw [eights_length] at h1 hr ⊢
  obtain ⟨b, off, rfl, _⟩ := hr.2 0 (by omega)
  exact ⟨b, off, c, rfl, h1, h2, hr, (hf _ rfl).1, (hf _ rfl).2.1⟩

/-- The tests on floats that the three ways of their order leave. -/
theorem not_gt {f g : Nat} (hf : f < 18446744073709551616) (hg : g < 18446744073709551616) (h : ¬ frank g < frank f) : (FloatKind.f64.format.order f g == some Ordering.gt) = false := by
  rw [beq_eq_false_iff_ne]; exact fun e => h (order_gt hf hg e)
theorem not_lt {f g : Nat} (hf : f < 18446744073709551616) (hg : g < 18446744073709551616) (h : ¬ frank f < frank g) : (FloatKind.f64.format.order f g == some Ordering.lt) = false := by
  rw [beq_eq_false_iff_ne]; exact fun e => h (order_lt hf hg e)

set_option maxHeartbeats 4000000 in
theorem lawNumbers_any (a1 : Option Addr) (n1 c1 : Nat) (z1 : List Int) (a2 : Option Addr) (n2 c2 : Nat) (z2 : List Int) (w : World) (h1 : IsRow .u8 w a1 n1 c1 z1) (h2 : IsRow .u8 w a2 n2 c2 z2) :
    Calls Try.prog 3 #[.slice a1 n1 c1, .slice a2 n2 c2] w fun e w' => e = .returned (.bool true) ∧ Below w.heap.size w w' := by
  obtain ⟨hr1, hm1, hlt1⟩ := row_of_isRow h1
  obtain ⟨hr2, hm2, hlt2⟩ := row_of_isRow h2
  unfold maxLen at hm1 hm2
  by_cases hb1 : 1048576 < n1
  · clear hr1 hlt1 hr2 hlt2 h1 h2
    go_enter Try.func3, Try.ntmps3
    go_wp2_with fail
    go_ret
    exact ⟨rfl, Below.refl _ _⟩
  by_cases hb2 : 1048576 < n2
  · clear hr1 hlt1 hr2 hlt2 h1 h2
    go_enter Try.func3, Try.ntmps3
    go_wp2_with fail
    go_ret
    exact ⟨rfl, Below.refl _ _⟩
  have hs1 : n1 ≤ 1048576 := by omega
  have hs2 : n2 ≤ 1048576 := by omega
  clear hb1 hb2
  have by1 := hide (bytes_of_isRow h1)
  have by2 := hide (bytes_of_isRow h2)
  generalize z1.take n1 = xs1 at *
  generalize z2.take n2 = xs2 at *
  have B1 := hide (show ∀ w', Below w.heap.size w w' → Row w' a1 n1 xs1 from fun w' hb => by
    by_cases h : 0 < n1
    · exact hr1.below hb (fun x hx => hlt1 x hx h)
    · exact ⟨hr1.1, fun i hi => absurd hi (by omega)⟩)
  have B2 := hide (show ∀ w', Below w.heap.size w w' → Row w' a2 n2 xs2 from fun w' hb => by
    by_cases h : 0 < n2
    · exact hr2.below hb (fun x hx => hlt2 x hx h)
    · exact ⟨hr2.1, fun i hi => absurd hi (by omega)⟩)
  clear hr1 hr2 hlt1 hlt2 h1 h2
  go_enter Try.func3, Try.ntmps3
  go_wp2_with fail
  refine (floatOf_any a1 n1 c1 xs1 w (unhide B1 w (Below.refl _ _)) (unhide by1) hs1).mono ?_
  rintro e w1 ⟨f, rfl, hf, bb1⟩
  go_wp2_with fail
  refine (floatOf_any a2 n2 c2 xs2 w1 (unhide B2 w1 bb1) (unhide by2) hs2).mono ?_
  rintro e w2 ⟨g, rfl, hg, bb2⟩
  have b2 := bb1.trans (bb2.mono bb1.size)
  clear bb1 bb2
  go_wp2_with fail
  refine (floatKey_any f w2 hf).mono ?_
  rintro e w3 ⟨v3, rfl, hm3, bb3⟩
  obtain ⟨p3, o3, c3, rfl, hc3, hd3, hr3, g3, l3⟩ := mine_eight hm3
  have b3 := b2.trans (bb3.mono b2.size)
  clear hm3 bb3 b2
  go_wp2_with fail
  refine (floatKey_any g w3 hg).mono ?_
  rintro e w4 ⟨v4, rfl, hm4, bb4⟩
  obtain ⟨p4, o4, c4, rfl, hc4, hd4, hr4, g4, l4⟩ := mine_eight hm4
  have b4 := b3.trans (bb4.mono b3.size)
  have hr3a := hr3.below bb4 (fun x hx => by cases hx; exact l3)
  have z4 := bb4.size
  clear hm4 bb4 b3 hr3
  go_wp2_with fail
  refine (keyFloat_any p3 o3 c3 f w4 hc3 hd3 hf hr3a).mono ?_
  rintro e w5 ⟨rfl, bb5⟩
  have b5 := b4.trans (bb5.mono b4.size)
  have hr3b := hr3a.below bb5 (fun x hx => by cases hx; exact Nat.lt_of_lt_of_le l3 z4)
  have hr4b := hr4.below bb5 (fun x hx => by cases hx; exact l4)
  have z5 := bb5.size
  clear bb5 b4 hr3a hr4
  go_wp2_with fail
  refine (implCmpF_any f g w5 hf hg).mono ?_
  rintro e w5' ⟨rfl, rfl⟩
  go_wp2_with fail
  refine (at_any a1 n1 c1 xs1 1000 _ (unhide B1 _ b5) (unhide by1) hs1 (by omega) (by omega)).mono ?_
  rintro e w6 ⟨r, rfl, hr0, hr1, d6, rfl⟩
  go_wp2_with fail
  refine (at_any a2 n2 c2 xs2 1000 _ (unhide B2 _ (bel_drewN b5 d6)) (unhide by2) hs2 (by omega) (by omega)).mono ?_
  rintro e w7 ⟨s, rfl, hs0, hs1', d7, rfl⟩
  go_wp2_with fail
  have b8 := bel_drewN b5 (d6 + d7)
  have hr3c := hr3b.drewN (k := d6 + d7)
  have hr4c := hr4b.drewN (k := d6 + d7)
  have l3c : p3 < (w5'.drewN (d6 + d7)).heap.size := by show p3 < w5'.heap.size; omega
  have l4c : p4 < (w5'.drewN (d6 + d7)).heap.size := by show p4 < w5'.heap.size; omega
  clear b5 hr3b hr4b z4 z5 l3 l4 g3 g4
  generalize w5'.drewN (d6 + d7) = w8 at *
  obtain ⟨n, hn⟩ : ∃ n, n = r - 500 := ⟨_, rfl⟩
  obtain ⟨m, hm⟩ : ∃ m, m = s - 500 := ⟨_, rfl⟩
  rw [← hn, ← hm]
  have n0 : -9223372036854775808 ≤ n := by omega
  have n1' : n < 9223372036854775808 := by omega
  have m0 : -9223372036854775808 ≤ m := by omega
  have m1' : m < 9223372036854775808 := by omega
  clear hn hm hr0 hr1 hs0 hs1'
  refine (intKey_any n w8).mono ?_
  rintro e w9 ⟨v9, rfl, hm9, bb9⟩
  obtain ⟨p9, o9, c9, rfl, hc9, hd9, hr9, g9, l9⟩ := mine_eight hm9
  have b9 := b8.trans (bb9.mono b8.size)
  have hr3d := hr3c.below bb9 (fun x hx => by cases hx; exact l3c)
  have hr4d := hr4c.below bb9 (fun x hx => by cases hx; exact l4c)
  have z9 := bb9.size
  clear hm9 bb9 b8 hr3c hr4c
  go_wp2_with fail
  refine (intKey_any m w9).mono ?_
  rintro e w10 ⟨v10, rfl, hm10, bb10⟩
  obtain ⟨p10, o10, c10, rfl, hc10, hd10, hr10, g10, l10⟩ := mine_eight hm10
  have b10 := b9.trans (bb10.mono b9.size)
  have hr3e := hr3d.below bb10 (fun x hx => by cases hx; exact Nat.lt_of_lt_of_le l3c z9)
  have hr4e := hr4d.below bb10 (fun x hx => by cases hx; exact Nat.lt_of_lt_of_le l4c z9)
  have hr9e := hr9.below bb10 (fun x hx => by cases hx; exact l9)
  have z10 := bb10.size
  clear hm10 bb10 b9 hr3d hr4d hr9
  go_wp2_with fail
  refine (keyInt_any p9 o9 c9 n w10 hc9 hd9 n0 n1' hr9e).mono ?_
  rintro e w11 ⟨rfl, bb11⟩
  have b11 := b10.trans (bb11.mono b10.size)
  have hr3f := hr3e.below bb11 (fun x hx => by cases hx; show p3 < w10.heap.size; omega)
  have hr4f := hr4e.below bb11 (fun x hx => by cases hx; show p4 < w10.heap.size; omega)
  have hr9f := hr9e.below bb11 (fun x hx => by cases hx; show p9 < w10.heap.size; omega)
  have hr10f := hr10.below bb11 (fun x hx => by cases hx; exact l10)
  have v3 := fun k => conv_row8 (c := c3) (hr3f.drewN (k := k))
  have v4 := fun k => conv_row8 (c := c4) (hr4f.drewN (k := k))
  have v9 := fun k => conv_row8 (c := c9) (hr9f.drewN (k := k))
  have v10 := fun k => conv_row8 (c := c10) (hr10f.drewN (k := k))
  have u3 := v3 0
  have u4 := v4 0
  have u9 := v9 0
  have u10 := v10 0
  rw [World.drewN_zero] at u3 u4 u9 u10
  have LI := less_eights (rank n) (rank m) (by rw [rank_nat n0 n1']; omega) (by rw [rank_nat n0 n1']; omega) (by rw [rank_nat m0 m1']; omega) (by rw [rank_nat m0 m1']; omega)
  rw [rank_nat n0 n1', rank_nat m0 m1', show decide (n + 9223372036854775808 < m + 9223372036854775808) = decide (n < m) by rw [Bool.eq_iff_iff]; simp] at LI
  rw [rank_nat n0 n1'] at u9 v9
  rw [rank_nat m0 m1'] at u10 v10
  have LF := less_eights (frank f) (frank g) (frank_range hf).1 (frank_range hf).2 (frank_range hg).1 (frank_range hg).2
  have SF := same_eights (frank f) (frank g) (frank_range hf).1 (frank_range hf).2 (frank_range hg).1 (frank_range hg).2
  generalize strOfNums (eights (n + 9223372036854775808) 8) = tn at *
  generalize strOfNums (eights (m + 9223372036854775808) 8) = tm at *
  generalize strOfNums (eights (frank f) 8) = tf at *
  generalize strOfNums (eights (frank g) 8) = tg at *
  clear hr3e hr4e hr9e hr10 hr3f hr4f hr9f hr10f bb11 b10 z9 z10 hc3 hd3 hc4 hd4 hc9 hd9 hc10 hd10 l3c l4c g9 l9 g10 l10 n0 n1' m0 m1'
  go_wp2_with fail
  rcases (show frank f < frank g ∨ frank f = frank g ∨ frank g < frank f by omega) with hord | hord | hord
  · have CF := hide (show cmpI (frank f) (frank g) = -1 by simp [cmpI, hord])
    have CG := hide (show cmpI (frank g) (frank f) = 1 by simp [cmpI, hord]; omega)
    rw [show decide (frank f < frank g) = true by simp; omega] at LF
    rw [show decide (frank f = frank g) = false by simp; omega] at SF
    have qg := not_gt hf hg (by omega)
    rw [unhide CF]
    refine (same_any f w11 hf).mono ?_
    rintro e w12 ⟨rfl, rfl⟩
    clear hord
    go_wp2_with fail
    all_goals
      refine (implCmpF_any g f _ hg hf).mono ?_
      rintro e w13 ⟨rfl, rfl⟩
      rw [unhide CG]
      go_wp2_with fail
      refine (specCmpF_any f g _ hf hg).mono ?_
      rintro e w14 ⟨rfl, rfl⟩
      rw [unhide CF]
      go_wp2_with fail
      go_ret
      exact ⟨rfl, b11⟩
  · have CF := hide (show cmpI (frank f) (frank g) = 0 by simp [cmpI, hord])
    have CG := hide (show cmpI (frank g) (frank f) = 0 by simp [cmpI, hord])
    rw [show decide (frank f < frank g) = false by simp; omega] at LF
    rw [show decide (frank f = frank g) = true by simp; omega] at SF
    have qg := not_gt hf hg (by omega)
    have ql := not_lt hf hg (by omega)
    rw [unhide CF]
    refine (same_any f w11 hf).mono ?_
    rintro e w12 ⟨rfl, rfl⟩
    clear hord
    go_wp2_with fail
    all_goals
      refine (implCmpF_any g f _ hg hf).mono ?_
      rintro e w13 ⟨rfl, rfl⟩
      rw [unhide CG]
      go_wp2_with fail
      refine (specCmpF_any f g _ hf hg).mono ?_
      rintro e w14 ⟨rfl, rfl⟩
      rw [unhide CF]
      go_wp2_with fail
      go_ret
      exact ⟨rfl, b11⟩
  · have CF := hide (show cmpI (frank f) (frank g) = 1 by simp [cmpI, hord]; omega)
    have CG := hide (show cmpI (frank g) (frank f) = -1 by simp [cmpI, hord])
    rw [show decide (frank f < frank g) = false by simp; omega] at LF
    rw [show decide (frank f = frank g) = false by simp; omega] at SF
    have ql := not_lt hf hg (by omega)
    rw [unhide CF]
    refine (same_any f w11 hf).mono ?_
    rintro e w12 ⟨rfl, rfl⟩
    clear hord
    go_wp2_with fail
    all_goals
      refine (implCmpF_any g f _ hg hf).mono ?_
      rintro e w13 ⟨rfl, rfl⟩
      rw [unhide CG]
      go_wp2_with fail
      refine (specCmpF_any f g _ hf hg).mono ?_
      rintro e w14 ⟨rfl, rfl⟩
      rw [unhide CF]
      go_wp2_with fail
      go_ret
      exact ⟨rfl, b11⟩
end Go.Proofs.Ytgifcaeemfaihaa
