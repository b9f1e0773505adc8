/-
  The walk of FnExactTupleKey.
-/
import Derived.Test.YtmnijhjlindfbabTupS
import Derived.Test.YtmnijhjlindfbabPartEq
import Derived.Test.YtmnijhjlindfbabPartIn
import Derived.Test.YtmnijhjlindfbabMarkP
import Derived.Test.YtmnijhjlindfbabTail
import Derived.Test.YtmnijhjlindfbabHeldB
namespace Go.Proofs.Ytmnijhjlindfbab
open Go.RowKit

theorem blk_laid {w : World} {g n k : Nat} {ps : List PartD} (h : Laid w g n ps k) : Blk w g (n * 4) (fun j => pcell (slotD ps k (j / 4)) (j % 4)) := ⟨h.1, h.2.1, h.2.2⟩

set_option maxHeartbeats 2000000 in
theorem lawTupleKey_any (a : Option Addr) (n cap : Nat) (ps : List PartD) (w : World) (h0 : IsParts w a n ps) :
    Calls Try.prog 3 #[.slice a n cap] w fun e w' => e = .returned (.bool true) ∧ Below w.heap.size w w' := by
  obtain ⟨p1, hn, f1⟩ := h0
  have P1 := hide p1
  have T := hide (show ∀ i (hi : i < ps.length), ps[i].t.size ≤ maxLen ∧ ps[i].f < 18446744073709551616 from fun i hi => ⟨(f1 i hi).2.2.2, (f1 i hi).2.2.1⟩)
  have L := hide p1.1
  clear p1 f1
  generalize hxs : tupL ps = xs
  have hl : xs.length ≤ 1218 := by rw [← hxs]; exact tupL_length ps
  have hX : xs.length ≤ 4611686018427387904 := by omega
  have hN : xs.length ≤ maxLen := by unfold maxLen; omega
  have X := hide hxs
  clear hxs
  go_enter Try.func3, Try.ntmps3
  go_wp2_with fail
  refine (szPartS_any a n cap ps 1048576 _ (by omega) (by omega) (unhide P1) hn (fun i hi => (unhide T i hi).1)).mono ?_
  rintro e w1 ⟨r1, rfl, hr1, b1⟩
  rcases hr1 with rfl | ⟨r10, r11, hn1⟩
  · go_wp2_with fail
    go_ret
    exact ⟨rfl, b1⟩
  have hM : n ≤ 1048576 := by omega
  have Q := hide ((unhide P1).below b1)
  clear hn hn1
  go_wp2_with fail
  refine (toPartS_any a n cap ps w1 hM (unhide Q)).mono ?_
  rintro e w2 ⟨g1, rfl, hg1, hla1, b2⟩
  have bA : Below w.heap.size w w2 := b1.trans (b2.mono b1.size)
  have Y := hide (prow_laid hla1 (unhide L))
  clear b1 b2 hla1 hg1 Q
  go_wp2_with fail
  refine (specTupleKey_any _ n n ps w2 hM (unhide Y) (unhide T)).mono ?_
  rintro e w3 ⟨v0, rfl, hm0, b3⟩
  rw [unhide X] at hm0
  obtain ⟨a0, c0, rfl, _, _, hr0, hf0⟩ := hm0
  have bB : Below w.heap.size w w3 := bA.trans (b3.mono bA.size)
  have R0 := hide hr0
  have F0 := hide (show ∀ x, a0 = some x → x.block < w3.heap.size from fun x hx => (hf0 x hx).2.1)
  have Q := hide ((unhide P1).below bB)
  clear bA b3 hr0 hf0 Y
  go_wp2_with fail
  refine (toPartS_any a n cap ps w3 hM (unhide Q)).mono ?_
  rintro e w4 ⟨g, rfl, hg, hla, b4⟩
  have bC : Below w.heap.size w w4 := bB.trans (b4.mono bB.size)
  have s3 := bB.size
  have R0a := hide ((unhide R0).below b4 (unhide F0))
  have Y := hide (prow_laid hla (unhide L))
  have LA := hide hla
  have hg4 := hla.2.2
  have s4 := b4.size
  clear bB b4 hla Q R0
  go_wp2_with fail
  refine (tupleKey_any _ n n ps w4 hM (unhide Y) (unhide T)).mono ?_
  rintro e w5 ⟨v1, rfl, hm1, b5⟩
  rw [unhide X] at hm1
  obtain ⟨a1, c1, rfl, _, _, hr1, hf1⟩ := hm1
  have bD : Below w.heap.size w w5 := bC.trans (b5.mono bC.size)
  have s5 := b5.size
  have R0b := hide ((unhide R0a).below b5 (fun x hx => by have := unhide F0 x hx; omega))
  have R1 := hide hr1
  have F1 := hide (show ∀ x, a1 = some x → w4.heap.size ≤ x.block ∧ x.block < w5.heap.size from fun x hx => ⟨(hf1 x hx).1, (hf1 x hx).2.1⟩)
  have Z1 := hide (show ∀ x, a1 = some x → ∀ j, w5.frozen? ⟨x.block, j, none⟩ = false from fun x hx => (hf1 x hx).2.2)
  have LB := hide (laid_below (unhide LA) b5 hg4)
  have sC := bC.size
  clear bC b5 hr1 hf1 R0a Y LA
  go_wp2_with fail
  refine (eqByteS_any a1 a0 xs.length xs.length c1 c0 xs xs w5 hN hN (unhide R1) (unhide R0b)).mono ?_
  rintro e w6 ⟨rfl, k6, rfl⟩
  rw [show decide (xs = xs) = true from by simp]
  have Q := hide ((unhide P1).below (bel_drewN bD k6))
  go_wp2_with fail
  refine (toPartS_any a n cap ps _ hM (unhide Q)).mono ?_
  rintro e w7 ⟨g2, rfl, hg2, hla2, b7⟩
  have b57 : Below w5.heap.size w5 w7 := (bel_drewN (Below.refl _ _) k6).trans b7
  have YX := hide (prow_laid (laid_below (unhide LB) b57 (by omega)) (unhide L))
  have Y2 := hide (prow_laid hla2 (unhide L))
  clear b7 hla2 Q hg2
  go_wp2_with fail
  refine (eqPartS_any _ _ n n n ps w7 hM (unhide YX) (unhide Y2)).mono ?_
  rintro e w8 ⟨rfl, b8⟩
  have b58 : Below w5.heap.size w5 w8 := b57.trans (b8.mono b57.size)
  have BK := hide (blk_laid (laid_below (unhide LB) b58 (by omega)))
  have s8 := b58.size
  have R0c := hide ((unhide R0b).below b58 (fun x hx => by have := unhide F0 x hx; omega))
  have R1c := hide ((unhide R1).below b58 (fun x hx => (unhide F1 x hx).2))
  have Z1c := hide (show ∀ x, a1 = some x → ∀ j, w8.frozen? ⟨x.block, j, none⟩ = false from fun x hx j => (b58.frozen (p := ⟨x.block, j, none⟩) (unhide F1 x hx).2).trans (unhide Z1 x hx j))
  have bE : Below w.heap.size w w8 := bD.trans (b58.mono bD.size)
  have sD := bD.size
  clear b8 b57 b58 YX Y2 LB R0b R1 Z1 bD
  go_wp2_with fail
  refine (markPartS_some g n n 1 _ w8 (by omega) (unhide BK)).mono ?_
  rintro e w9 ⟨rfl, _, hw9⟩
  have R0d := hide ((unhide R0c).wrote hw9 (fun x hx => by have := unhide F0 x hx; omega))
  have R1d := hide ((unhide R1c).wrote hw9 (fun x hx => by have := unhide F1 x hx; omega))
  have Z1d := hide (show ∀ x, a1 = some x → ∀ j, w9.frozen? ⟨x.block, j, none⟩ = false from fun x hx j => (hw9.frozen (p := ⟨x.block, j, none⟩) (by have := unhide F1 x hx; show x.block ≠ g; omega) (by have := unhide F1 x hx; show x.block < _; omega)).trans (unhide Z1c x hx j))
  have bF : Below w.heap.size w w9 := bE.trans (hw9.below (by omega) (by omega))
  have s9 := hw9.size
  clear hw9 BK R0c R1c Z1c bE
  go_wp2_with fail
  refine (eqByteS_any a1 a0 xs.length xs.length c1 c0 xs xs w9 hN hN (unhide R1d) (unhide R0d)).mono ?_
  rintro e w10 ⟨rfl, k10, rfl⟩
  rw [show decide (xs = xs) = true from by simp]
  go_wp2_with fail
  refine (markByteS_any a1 xs.length c1 xs 1 _ hX (by omega) (by omega) (unhide R1d).drewN (unhide Z1d)).mono ?_
  rintro e w11 ⟨rfl, hr11, ht11⟩
  have R11 := hide hr11
  have R0e := hide (((unhide R0d).drewN (k := k10)).touch ht11 (fun x y hx hy => by have h1 := unhide F0 x hx; have h2 := unhide F1 y hy; omega))
  have bG : Below w.heap.size w w11 := (bel_drewN bF k10).trans (ht11.below (fun x hx => by have := unhide F1 x hx; omega))
  have s11 : w9.heap.size ≤ w11.heap.size := by rw [ht11.size]; exact Nat.le_refl _
  clear hr11 ht11 R0d R1d Z1d bF
  go_wp2_with fail
  refine (heldByteS_any a1 xs.length c1 1 _ hX (by omega) (by omega) (unhide R11)).mono ?_
  rintro e w12 ⟨rfl, rfl⟩
  have Q := hide ((unhide P1).below bG)
  go_wp2_with fail
  refine (toPartS_any a n cap ps _ hM (unhide Q)).mono ?_
  rintro e w13 ⟨g3, rfl, hg3, hla3, b13⟩
  have bH : Below w.heap.size w w13 := bG.trans (b13.mono bG.size)
  have Y3 := hide (prow_laid hla3 (unhide L))
  have s13 := b13.size
  have R0f := hide ((unhide R0e).below b13 (fun x hx => by have := unhide F0 x hx; omega))
  have R1f := hide ((unhide R11).below b13 (fun x hx => by have := unhide F1 x hx; omega))
  clear b13 hla3 Q R0e R11 bG hg3
  go_wp2_with fail
  refine (tupleKey_any _ n n ps w13 hM (unhide Y3) (unhide T)).mono ?_
  rintro e w14 ⟨v5, rfl, hm5, b14⟩
  rw [unhide X] at hm5
  obtain ⟨a5, c5, rfl, _, _, hr5, _⟩ := hm5
  have R5 := hide hr5
  have R0g := hide ((unhide R0f).below b14 (fun x hx => by have := unhide F0 x hx; omega))
  have R1g := hide ((unhide R1f).below b14 (fun x hx => by have := unhide F1 x hx; omega))
  have bI := hide (bH.trans (b14.mono bH.size))
  clear b14 hr5 R0f R1f Y3 bH
  go_wp2_with fail
  refine (eqByteS_any a5 a0 xs.length xs.length c5 c0 xs xs w14 hN hN (unhide R5) (unhide R0g)).mono ?_
  rintro e w15 ⟨rfl, k15, rfl⟩
  rw [show decide (xs = xs) = true from by simp]
  go_wp2_with fail
  refine (heldByteS_any a1 xs.length c1 1 _ hX (by omega) (by omega) (unhide R1g).drewN).mono ?_
  rintro e w16 ⟨rfl, rfl⟩
  go_wp2_with fail
  go_ret
  exact ⟨rfl, bel_drewN (unhide bI) k15⟩
end Go.Proofs.Ytmnijhjlindfbab
