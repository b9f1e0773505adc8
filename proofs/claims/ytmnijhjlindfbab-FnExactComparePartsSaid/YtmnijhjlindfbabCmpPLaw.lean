/-
  The walk of FnExactCompareParts.
-/
import Derived.Test.YtmnijhjlindfbabCmpL
import Derived.Test.YtmnijhjlindfbabPartEq
import Derived.Test.YtmnijhjlindfbabPartIn
namespace Go.Proofs.Ytmnijhjlindfbab
open Go.RowKit

set_option maxHeartbeats 2000000 in
theorem lawCompareParts_any (a1 : Option Addr) (n c1 : Nat) (p : List PartD) (a2 : Option Addr) (m c2 : Nat) (q : List PartD) (w : World) (h1 : IsParts w a1 n p) (h2 : IsParts w a2 m q) :
    Calls Try.prog 5 #[.slice a1 n c1, .slice a2 m c2] w fun e w' => e = .returned (.bool true) ∧ Below w.heap.size w w' := by
  obtain ⟨p1, hn, f1⟩ := h1
  obtain ⟨p2, hm, f2⟩ := h2
  have P1 := hide p1
  have P2 := hide p2
  have T1 := hide (show ∀ i (hi : i < p.length), p[i].t.size ≤ maxLen ∧ p[i].f < 18446744073709551616 from fun i hi => ⟨(f1 i hi).2.2.2, (f1 i hi).2.2.1⟩)
  have T2 := hide (show ∀ i (hi : i < q.length), q[i].t.size ≤ maxLen ∧ q[i].f < 18446744073709551616 from fun i hi => ⟨(f2 i hi).2.2.2, (f2 i hi).2.2.1⟩)
  have L1 := hide p1.1
  have L2 := hide p2.1
  clear p1 p2 f1 f2
  go_enter Try.func5, Try.ntmps5
  go_wp2_with fail
  refine (szPartS_any a1 n c1 p 1048576 _ (by omega) (by omega) (unhide P1) hn (fun i hi => (unhide T1 i hi).1)).mono ?_
  rintro e w1 ⟨r1, rfl, hr1, b1⟩
  rcases hr1 with rfl | ⟨r10, r11, hn1⟩
  · go_wp2_with fail
    go_ret
    exact ⟨rfl, b1⟩
  have P2a := hide ((unhide P2).below b1)
  go_wp2_with fail
  refine (szPartS_any a2 m c2 q r1 w1 r10 r11 (unhide P2a) hm (fun i hi => (unhide T2 i hi).1)).mono ?_
  rintro e w2 ⟨r2, rfl, hr2, b2⟩
  have bA : Below w.heap.size w w2 := b1.trans (b2.mono b1.size)
  clear P2a b1 b2
  rcases hr2 with rfl | ⟨r20, r21, hm1⟩
  · go_wp2_with fail
    go_ret
    exact ⟨rfl, bA⟩
  have hN : n ≤ 1048576 := by omega
  have hM : m ≤ 1048576 := by omega
  clear hn hm hn1 hm1
  have Q1 := hide ((unhide P1).below bA)
  go_wp2_with fail
  refine (toPartS_any a1 n c1 p w2 hN (unhide Q1)).mono ?_
  rintro e w3 ⟨g, rfl, hg, hla, b3⟩
  have bB : Below w.heap.size w w3 := bA.trans (b3.mono bA.size)
  have X := hide (prow_laid hla (unhide L1))
  have Q2 := hide ((unhide P2).below bB)
  clear bA b3 hla Q1 hg
  go_wp2_with fail
  refine (toPartS_any a2 m c2 q w3 hM (unhide Q2)).mono ?_
  rintro e w4 ⟨g', rfl, hg', hla', b4⟩
  have bC : Below w.heap.size w w4 := bB.trans (b4.mono bB.size)
  have X' := hide ((unhide X).below b4)
  have Y := hide (prow_laid hla' (unhide L2))
  clear bB b4 hla' X Q2 hg'
  go_wp2_with fail
  refine (specCompareParts_any _ _ n m n m p q w4 hN hM (unhide X') (unhide Y) (unhide T1) (unhide T2)).mono ?_
  rintro e w5 ⟨rfl, b5⟩
  have bD : Below w.heap.size w w5 := bC.trans (b5.mono bC.size)
  have Q1 := hide ((unhide P1).below bD)
  clear bC b5 X' Y
  go_wp2_with fail
  refine (toPartS_any a1 n c1 p w5 hN (unhide Q1)).mono ?_
  rintro e w6 ⟨x0, rfl, hg, hla, b6⟩
  have bE : Below w.heap.size w w6 := bD.trans (b6.mono bD.size)
  have X := hide (prow_laid hla (unhide L1))
  have Q2 := hide ((unhide P2).below bE)
  clear bD b6 hla Q1 hg
  go_wp2_with fail
  refine (toPartS_any a2 m c2 q w6 hM (unhide Q2)).mono ?_
  rintro e w7 ⟨x1, rfl, hg', hla', b7⟩
  have bF : Below w.heap.size w w7 := bE.trans (b7.mono bE.size)
  have X' := hide ((unhide X).below b7)
  have Y := hide (prow_laid hla' (unhide L2))
  clear bE b7 hla' X Q2 hg'
  go_wp2_with fail
  refine (implCompareParts_any _ _ n m n m p q w7 hN hM (unhide X') (unhide Y) (unhide T1) (unhide T2)).mono ?_
  rintro e w8 ⟨rfl, b8⟩
  have bG : Below w.heap.size w w8 := bF.trans (b8.mono bF.size)
  have X8 := hide ((unhide X').below b8)
  have Y8 := hide ((unhide Y).below b8)
  have Q1 := hide ((unhide P1).below bG)
  clear bF b8 X' Y
  go_wp2_with fail
  refine (toPartS_any a1 n c1 p w8 hN (unhide Q1)).mono ?_
  rintro e w9 ⟨x2, rfl, hg, hla, b9⟩
  have bH : Below w.heap.size w w9 := bG.trans (b9.mono bG.size)
  have X9 := hide ((unhide X8).below b9)
  have Y9 := hide ((unhide Y8).below b9)
  have Z := hide (prow_laid hla (unhide L1))
  clear bG b9 hla Q1 X8 Y8 hg
  go_wp2_with fail
  refine (eqPartS_any _ _ n n n p w9 hN (unhide X9) (unhide Z)).mono ?_
  rintro e w10 ⟨rfl, b10⟩
  have bI : Below w.heap.size w w10 := bH.trans (b10.mono bH.size)
  have Y10 := hide ((unhide Y9).below b10)
  have Q2 := hide ((unhide P2).below bI)
  clear bH b10 X9 Y9 Z
  go_wp2_with fail
  refine (toPartS_any a2 m c2 q w10 hM (unhide Q2)).mono ?_
  rintro e w11 ⟨x3, rfl, hg, hla, b11⟩
  have bJ : Below w.heap.size w w11 := bI.trans (b11.mono bI.size)
  have Y11 := hide ((unhide Y10).below b11)
  have Z := hide (prow_laid hla (unhide L2))
  clear bI b11 hla Q2 Y10 hg
  go_wp2_with fail
  refine (eqPartS_any _ _ m m m q w11 hM (unhide Y11) (unhide Z)).mono ?_
  rintro e w12 ⟨rfl, b12⟩
  have bK : Below w.heap.size w w12 := bJ.trans (b12.mono bJ.size)
  clear bJ b12 Y11 Z
  go_wp2_with fail
  go_ret
  exact ⟨rfl, bK⟩
end Go.Proofs.Ytmnijhjlindfbab
