/-
  The walk of FnExactReadTuple.
-/
import Derived.Test.YtmnijhjlindfbabReadTI
import Derived.Test.YtmnijhjlindfbabReadTS
import Derived.Test.YtmnijhjlindfbabPartEq
import Derived.Test.YtmnijhjlindfbabHeldP
import Derived.Test.YtmnijhjlindfbabTail
namespace Go.Proofs.Ytmnijhjlindfbab
open Go.RowKit

theorem rdT_length : ∀ (f : Nat) (xs : List Int) (k : Nat) (acc : List PartD), acc.length ≤ 6 → (rdT f xs k acc).1.length ≤ 6
  | 0, _, _, acc, h => h
  | f + 1, xs, k, acc, h => by
    rw [rdT]
    split
    · cases rdP xs k with
      | none => simp
      | some x =>
        obtain ⟨d, q⟩ := x
        simp only
        split
        · simp
        · exact rdT_length f xs q (acc ++ [d]) (by simp; omega)
    · exact h
theorem rtA_length (xs : List Int) : (rtA xs).1.length ≤ 6 := by
  unfold rtA
  split
  · simp
  · exact rdT_length _ _ _ _ (by simp)
theorem PRow.touch {w w' : World} {a a1 : Option Addr} {n : Nat} {ps : List PartD} (h : PRow w a n ps) (ht : Touch a1 w w') (ha : ∀ x y, a = some x → a1 = some y → x.block ≠ y.block) : PRow w' a n ps := by
  rcases ht with rfl | ⟨y, hy, ho⟩
  · exact h
  · refine ⟨h.1, fun i hi => ?_⟩
    obtain ⟨b, off, e, c0, c1, c2, c3⟩ := h.2 i hi
    have hne : b ≠ y.block := ha _ _ e hy
    exact ⟨b, off, e, (ho.cell (p := ⟨b, off + i * 4, none⟩) hne).trans c0, (ho.cell (p := ⟨b, off + i * 4 + 1, none⟩) hne).trans c1, (ho.cell (p := ⟨b, off + i * 4 + 2, none⟩) hne).trans c2, (ho.cell (p := ⟨b, off + i * 4 + 3, none⟩) hne).trans c3⟩
theorem Blk.touch {w w' : World} {a1 : Option Addr} {g N : Nat} {F : Nat → Value} (h : Blk w g N F) (ht : Touch a1 w w') (ha : ∀ y, a1 = some y → g ≠ y.block) : Blk w' g N F := by
  rcases ht with rfl | ⟨y, hy, ho⟩
  · exact h
  · exact ⟨fun j hj => (ho.cell (p := ⟨g, j, none⟩) (ha y hy)).trans (h.cell j hj), fun j => (ho.frozen _).trans (h.free j), by rw [ho.size]; exact h.lt⟩
theorem markPartS_none (a : Option Addr) (c : Nat) (k0 : Int) (w : World) :
    Calls Try.prog 12 #[.slice a 0 c, .int .i64 k0] w fun e w' => e = .returned (.int .i64 k0) ∧ w' = w := by
  go_enter Try.func12, Try.ntmps12
  go_wp2_with fail
  refine wp_loop_rounds 1 ?_
  rw [rounds_succ]
  go_wp2_with fail
  go_ret
  exact ⟨rfl, rfl⟩
/-- Of what was there, only the block behind an address may hold otherwise. -/
def WTouch (a : Option Addr) (w w' : World) : Prop := w' = w ∨ ∃ g, a = some ⟨g, 0, none⟩ ∧ Wrote g w w'
theorem markPartS_any (a : Option Addr) (c : Nat) (ps : List PartD) (w : World) (hn : ps.length ≤ 6) (h : (a = none ∧ ps = []) ∨ ∃ g F, a = some ⟨g, 0, none⟩ ∧ Blk w g (ps.length * 4) F) :
    Calls Try.prog 12 #[.slice a ps.length c, .int .i64 1] w fun e w' => e = .returned (.int .i64 (1 + 4 * ps.length)) ∧ PRow w' a ps.length (markDs 1 ps.length) ∧ WTouch a w w' := by
  rcases h with ⟨rfl, rfl⟩ | ⟨g, F, rfl, hB⟩
  · refine (markPartS_none none c 1 w).mono ?_
    rintro e w' ⟨rfl, rfl⟩
    exact ⟨rfl, ⟨rfl, fun i hi => absurd hi (Nat.not_lt_zero _)⟩, .inl rfl⟩
  · refine (markPartS_some g ps.length c 1 F w (by omega) hB).mono ?_
    rintro e w' ⟨rfl, h1, h2⟩
    exact ⟨rfl, h1, .inr ⟨g, rfl, h2⟩⟩
theorem PRow.wtouch {w w' : World} {a a1 : Option Addr} {n : Nat} {ps : List PartD} (h : PRow w a n ps) (ht : WTouch a1 w w') (ha : ∀ x y, a = some x → a1 = some y → x.block ≠ y.block) : PRow w' a n ps := by
  rcases ht with rfl | ⟨g, hy, ho⟩
  · exact h
  · exact h.wrote ho (fun x hx => ha x _ hx hy)
theorem WTouch.below {a : Option Addr} {w w' : World} {B : Nat} (h : WTouch a w w') (ha : ∀ x, a = some x → B ≤ x.block) (hs : B ≤ w.heap.size) : Below B w w' := by
  rcases h with rfl | ⟨g, hx, ho⟩
  · exact Below.refl _ _
  · exact ho.below (ha _ hx) hs
theorem WTouch.size {a : Option Addr} {w w' : World} (h : WTouch a w w') : w.heap.size ≤ w'.heap.size := by
  rcases h with rfl | ⟨g, hx, ho⟩
  · exact Nat.le_refl _
  · exact ho.size

set_option maxHeartbeats 2000000 in
theorem lawReadTuple_any (a : Option Addr) (len cap : Nat) (zs : List Int) (w : World) (h0 : IsRow .u8 w a len cap zs) :
    Calls Try.prog 4 #[.slice a len cap] w fun e w' => e = .returned (.bool true) ∧ Below w.heap.size w w' := by
  obtain ⟨hr, hm, hlt⟩ := row_of_isRow h0
  have hby := bytes_of_isRow h0
  clear h0
  unfold maxLen at hm
  by_cases hbig : 1048576 < len
  · clear hr hlt hby
    go_enter Try.func4, Try.ntmps4
    go_wp2_with fail
    go_ret
    exact ⟨rfl, Below.refl _ _⟩
  have hn : len ≤ 1048576 := by omega
  generalize zs.take len = xs at *
  have HL := hide hr.1
  have hmx : len ≤ maxLen := by unfold maxLen; omega
  have BY := hide hby
  have B := hide (show ∀ w', Below w.heap.size w w' → Row w' a len xs from fun w' hb => by
    by_cases h : 0 < len
    · exact hr.below hb (fun x hx => hlt x hx h)
    · exact ⟨hr.1, fun i hi => absurd hi (by omega)⟩)
  have R := hide hr
  clear hr hlt hby
  generalize hps : (rtA xs).1 = ps
  generalize hcd : (rtA xs).2 = cd
  have hpl : ps.length ≤ 6 := by rw [← hps]; exact rtA_length xs
  have PS := hide hps
  have CD := hide hcd
  have hP : ps.length ≤ 1048576 := by omega
  clear hps hcd
  go_enter Try.func4, Try.ntmps4
  go_wp2_with fail
  refine (toByteS_any a len cap xs w hn (unhide R)).mono ?_
  rintro e w1 ⟨v1, rfl, hm1, b1⟩
  obtain ⟨a1, c1, rfl, hc1, hc1', hr1, hf1⟩ := hm1
  rw [unhide HL] at hr1 hc1
  rw [unhide HL]
  go_wp2_with fail
  refine (specReadTuple_any a1 len c1 xs w1 hn hc1 hc1' hr1 (unhide BY)).mono ?_
  rintro e w2 ⟨v2, rfl, hO2, b2⟩
  rw [unhide PS] at hO2
  rw [unhide CD]
  obtain ⟨a0, c0, rfl, r0, d0⟩ := powns_row hO2
  have bA : Below w.heap.size w w2 := b1.trans (b2.mono b1.size)
  have R0 := hide r0
  have F0 := hide (show ∀ x, a0 = some x → x.block < w2.heap.size from fun x hx => by
    rcases d0 with ⟨h, _⟩ | ⟨g, F, h, _, hB⟩
    · rw [h] at hx; cases hx
    · rw [h] at hx; cases hx; exact hB.lt)
  have RA := hide (unhide B w2 bA)
  have s2 := bA.size
  clear b1 b2 hr1 hf1 hO2 r0 d0 hc1 hc1'
  go_wp2_with fail
  refine (toByteS_any a len cap xs w2 hn (unhide RA)).mono ?_
  rintro e w3 ⟨v3, rfl, hm3, b3⟩
  obtain ⟨a3, c3, rfl, hc3, hc3', hr3, hf3⟩ := hm3
  rw [unhide HL] at hr3 hc3
  rw [unhide HL]
  have bB : Below w.heap.size w w3 := bA.trans (b3.mono s2)
  have s3 := b3.size
  have R0b := hide ((unhide R0).below b3)
  have R3 := hide hr3
  have F3 := hide (show ∀ x, a3 = some x → w2.heap.size ≤ x.block ∧ x.block < w3.heap.size from fun x hx => ⟨(hf3 x hx).1, (hf3 x hx).2.1⟩)
  have Z3 := hide (show ∀ x, a3 = some x → ∀ j, w3.frozen? ⟨x.block, j, none⟩ = false from fun x hx => (hf3 x hx).2.2)
  clear bA b3 hr3 hf3 RA R0
  go_wp2_with fail
  refine (readTuple_any a3 len c3 xs w3 hn hc3 hc3' (unhide R3) (unhide BY)).mono ?_
  rintro e w4 ⟨v4, rfl, hO4, b4⟩
  rw [unhide PS] at hO4
  rw [unhide CD]
  obtain ⟨a4, c4, rfl, r4, d4⟩ := powns_row hO4
  have bC : Below w.heap.size w w4 := bB.trans (b4.mono bB.size)
  have s4 := b4.size
  have R0c := hide ((unhide R0b).below b4)
  have R3c := hide ((unhide R3).below b4 (fun x hx => (unhide F3 x hx).2))
  have Z3c := hide (show ∀ x, a3 = some x → ∀ j, w4.frozen? ⟨x.block, j, none⟩ = false from fun x hx j => (b4.frozen (p := ⟨x.block, j, none⟩) (unhide F3 x hx).2).trans (unhide Z3 x hx j))
  have R4 := hide r4
  have D4 := hide d4
  have F4 := hide (show ∀ x, a4 = some x → w3.heap.size ≤ x.block ∧ x.block < w4.heap.size from fun x hx => by
    rcases d4 with ⟨h, _⟩ | ⟨g, F, h, hg, hB⟩
    · rw [h] at hx; cases hx
    · rw [h] at hx; cases hx; exact ⟨hg, hB.lt⟩)
  clear bB b4 hO4 r4 d4 R0b R3 Z3
  go_wp2_with fail
  refine (eqPartS_any a4 a0 ps.length c4 c0 ps w4 hP (unhide R4) (unhide R0c)).mono ?_
  rintro e w5 ⟨rfl, b5⟩
  have bD : Below w.heap.size w w5 := bC.trans (b5.mono bC.size)
  have RA := hide (unhide B w5 bD)
  go_wp2_with fail
  refine (toByteS_any a len cap xs w5 hn (unhide RA)).mono ?_
  rintro e w6 ⟨v6, rfl, hm6, b6⟩
  obtain ⟨a6, c6, rfl, _, _, hr6, _⟩ := hm6
  rw [unhide HL] at hr6
  rw [unhide HL]
  have b46 : Below w4.heap.size w4 w6 := b5.trans (b6.mono b5.size)
  have bE : Below w.heap.size w w6 := bD.trans (b6.mono bD.size)
  have s6 := b46.size
  have R6 := hide hr6
  have R0d := hide ((unhide R0c).below b46)
  have R3d := hide ((unhide R3c).below b46 (fun x hx => by have := (unhide F3 x hx).2; omega))
  have Z3d := hide (show ∀ x, a3 = some x → ∀ j, w6.frozen? ⟨x.block, j, none⟩ = false from fun x hx j => (b46.frozen (p := ⟨x.block, j, none⟩) (by have := (unhide F3 x hx).2; show x.block < _; omega)).trans (unhide Z3c x hx j))
  have R4d := hide ((unhide R4).below b46)
  have D4d : Hid ((a4 = none ∧ ps = []) ∨ ∃ g F, a4 = some ⟨g, 0, none⟩ ∧ Blk w6 g (ps.length * 4) F) := by
    rcases unhide D4 with h | ⟨g, F, h, _, hB⟩
    · exact .inl h
    · exact .inr ⟨g, F, h, hB.below b46 hB.lt⟩
  clear b5 b6 b46 hr6 bC bD R0c R3c Z3c R4 D4 RA
  go_wp2_with fail
  refine (eqByteS_any a3 a6 len len c3 c6 xs xs w6 hmx hmx (unhide R3d) (unhide R6)).mono ?_
  rintro e w7 ⟨rfl, k7, rfl⟩
  rw [show decide (xs = xs) = true from by simp]
  go_wp2_with fail
  refine (markByteS_any a3 len c3 xs 1 _ (by omega) (by omega) (by omega) (unhide R3d).drewN (unhide Z3d)).mono ?_
  rintro e w8 ⟨rfl, _, ht8⟩
  have R0e := hide (show PRow w8 a0 ps.length ps from PRow.touch (w := w6.drewN k7) (unhide R0d) ht8 (fun x y hx hy => by have h1 := unhide F0 x hx; have h2 := unhide F3 y hy; omega))
  have R4e := hide (show PRow w8 a4 ps.length ps from PRow.touch (w := w6.drewN k7) (unhide R4d) ht8 (fun x y hx hy => by have h1 := unhide F4 x hx; have h2 := unhide F3 y hy; omega))
  have D4e : Hid ((a4 = none ∧ ps = []) ∨ ∃ g F, a4 = some ⟨g, 0, none⟩ ∧ Blk w8 g (ps.length * 4) F) := by
    rcases unhide D4d with h | ⟨g, F, h, hB⟩
    · exact .inl h
    · exact .inr ⟨g, F, h, Blk.touch (w := w6.drewN k7) ⟨hB.cell, hB.free, hB.lt⟩ ht8 (fun y hy => by have h1 := unhide F4 _ h; have h2 := unhide F3 y hy; show g ≠ _; simp only at h1; omega)⟩
  have s8 : w6.heap.size ≤ w8.heap.size := by rw [ht8.size]; exact Nat.le_refl _
  have bF : Below w.heap.size w w8 := (bel_drewN bE k7).trans (ht8.below (fun x hx => by have := unhide F3 x hx; omega))
  clear ht8 bE R0d R4d D4d Z3d R3d R6
  go_wp2_with fail
  refine (eqPartS_any a4 a0 ps.length c4 c0 ps w8 hP (unhide R4e) (unhide R0e)).mono ?_
  rintro e w9 ⟨rfl, b9⟩
  have R0f := hide ((unhide R0e).below b9)
  have s9 := b9.size
  have D4f : Hid ((a4 = none ∧ ps = []) ∨ ∃ g F, a4 = some ⟨g, 0, none⟩ ∧ Blk w9 g (ps.length * 4) F) := by
    rcases unhide D4e with h | ⟨g, F, h, hB⟩
    · exact .inl h
    · exact .inr ⟨g, F, h, hB.below b9 hB.lt⟩
  have bG : Below w.heap.size w w9 := bF.trans (b9.mono bF.size)
  clear b9 bF R0e R4e D4e
  go_wp2_with fail
  refine (markPartS_any a4 c4 ps w9 hpl (unhide D4f)).mono ?_
  rintro e w10 ⟨rfl, r10, ht10⟩
  have R0g := hide ((unhide R0f).wtouch ht10 (fun x y hx hy => by have h1 := unhide F0 x hx; have h2 := unhide F4 y hy; omega))
  have M10 := hide r10
  have bH : Below w.heap.size w w10 := bG.trans (ht10.below (fun x hx => by have := unhide F4 x hx; omega) bG.size)
  have s10 := ht10.size
  clear ht10 r10 bG R0f D4f
  go_wp2_with fail
  refine (heldPartS_any a4 ps.length c4 1 w10 hpl (by omega) (by omega) (unhide M10)).mono ?_
  rintro e w11 ⟨rfl, b11⟩
  have bI : Below w.heap.size w w11 := bH.trans (b11.mono bH.size)
  have R0h := hide ((unhide R0g).below b11)
  have M11 := hide ((unhide M10).below b11)
  have RA := hide (unhide B w11 bI)
  clear b11 bH R0g M10
  go_wp2_with fail
  refine (toByteS_any a len cap xs w11 hn (unhide RA)).mono ?_
  rintro e w12 ⟨v12, rfl, hm12, b12⟩
  obtain ⟨a12, c12, rfl, hc12, hc12', hr12, _⟩ := hm12
  rw [unhide HL] at hr12 hc12
  rw [unhide HL]
  have bJ : Below w.heap.size w w12 := bI.trans (b12.mono bI.size)
  have R0i := hide ((unhide R0h).below b12)
  have M12 := hide ((unhide M11).below b12)
  have R12 := hide hr12
  clear b12 bI R0h M11 hr12 RA
  go_wp2_with fail
  refine (readTuple_any a12 len c12 xs w12 hn hc12 hc12' (unhide R12) (unhide BY)).mono ?_
  rintro e w13 ⟨v13, rfl, hO13, b13⟩
  rw [unhide PS] at hO13
  rw [unhide CD]
  obtain ⟨a13, c13, rfl, r13, _⟩ := powns_row hO13
  have bK : Below w.heap.size w w13 := bJ.trans (b13.mono bJ.size)
  have R0j := hide ((unhide R0i).below b13)
  have M13 := hide ((unhide M12).below b13)
  have R13 := hide r13
  clear b13 bJ R0i M12 hO13 r13 R12
  go_wp2_with fail
  refine (eqPartS_any a13 a0 ps.length c13 c0 ps w13 hP (unhide R13) (unhide R0j)).mono ?_
  rintro e w14 ⟨rfl, b14⟩
  have bL : Below w.heap.size w w14 := bK.trans (b14.mono bK.size)
  have M14 := hide ((unhide M13).below b14)
  clear b14 bK M13 R13 R0j
  go_wp2_with fail
  refine (heldPartS_any a4 ps.length c4 1 w14 hpl (by omega) (by omega) (unhide M14)).mono ?_
  rintro e w15 ⟨rfl, b15⟩
  have bM := hide (bL.trans (b15.mono bL.size))
  clear b15 bL M14
  go_wp2_with fail
  go_ret
  exact ⟨rfl, unhide bM⟩
end Go.Proofs.Ytmnijhjlindfbab
