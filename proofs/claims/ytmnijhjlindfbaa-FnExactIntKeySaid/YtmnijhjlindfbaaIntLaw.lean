/-
  The walk of FnExactIntKey.
-/
import Derived.Test.YtmnijhjlindfbaaIntKeyS
import Derived.Test.YtmnijhjlindfbaaIntKeyI
import Derived.Test.YtmnijhjlindfbaaTail
import Derived.Test.YtmnijhjlindfbaaHeldB
namespace Go.Proofs.Ytmnijhjlindfbaa
open Go.RowKit

set_option maxHeartbeats 1000000 in
theorem lawIntKey_any (n : Int) (w : World) (_ : (Lit.int .i64 n).wf = true) :
    Calls Try.prog 4 #[.int .i64 n] w fun e w' => e = .returned (.bool true) ∧ Below w.heap.size w w' := by
  generalize hxs : eights (rank n) 8 = xs
  have hn : xs.length ≤ 4611686018427387904 := by rw [← hxs, eights_length]; omega
  have hN : xs.length ≤ maxLen := by unfold maxLen; omega
  have X := hide hxs
  clear hxs
  go_enter Try.func4, Try.ntmps4
  go_wp2_with fail
  refine (specIntKey_any n w).mono ?_
  rintro e wA ⟨v0, rfl, hm0, hb0⟩
  rw [unhide X] at hm0
  obtain ⟨a0, c0, rfl, _, _, hr0, hf0⟩ := hm0
  go_wp2_with fail
  refine (intKey_any n wA).mono ?_
  rintro e wB ⟨v1, rfl, hm1, hb1⟩
  rw [unhide X] at hm1
  obtain ⟨a1, c1, rfl, _, _, hr1, hf1⟩ := hm1
  have hr0B := hr0.below hb1 (fun x hx => (hf0 x hx).2.1)
  have D := hide (show ∀ x y, a0 = some x → a1 = some y → x.block ≠ y.block from fun x y hx hy => by have h1 := (hf0 x hx).2.1; have h2 := (hf1 y hy).1; omega)
  have F0 := hide hf0
  have F1 := hide hf1
  clear hr0 hf0 hf1
  go_wp2_with fail
  refine (eqByteS_any a1 a0 xs.length xs.length c1 c0 xs xs wB hN hN hr1 hr0B).mono ?_
  rintro e w2 ⟨rfl, k2, rfl⟩
  rw [show decide (xs = xs) = true from by simp]
  go_wp2_with fail
  refine (markByteS_any a1 xs.length c1 xs 1 _ hn (by omega) (by omega) hr1.drewN (fun x hx => (unhide F1 x hx).2.2)).mono ?_
  rintro e w3 ⟨rfl, hr3, ht3⟩
  go_wp2_with fail
  refine (heldByteS_any a1 xs.length c1 1 _ hn (by omega) (by omega) hr3).mono ?_
  rintro e w4 ⟨rfl, rfl⟩
  have SZ := hide ht3.size
  have hr0C := (hr0B.drewN (k := k2)).touch ht3 (unhide D)
  have hbC := ht3.below (B := wA.heap.size) (fun x hx => (unhide F1 x hx).1)
  have T3 := hide ht3
  clear ht3
  go_wp2_with fail
  refine (intKey_any n _).mono ?_
  rintro e w5 ⟨v5, rfl, hm5, hb5⟩
  rw [unhide X] at hm5
  obtain ⟨a5, c5, rfl, _, _, hr5, hf5⟩ := hm5
  have hs1 := hb1.size
  have hlt : wA.heap.size ≤ w4.heap.size := by rw [unhide SZ]; exact hs1
  have hr0D := hr0C.below hb5 (fun x hx => by have := (unhide F0 x hx).2.1; omega)
  have hr3D := hr3.below hb5 (fun x hx => by have := (unhide F1 x hx).2.1; rw [unhide SZ]; exact this)
  have hbD : Below w.heap.size w w5 := hb0.trans ((bel_drewN (hb1.mono hb0.size) k2).trans ((hbC.mono hb0.size).trans (hb5.mono (Nat.le_trans hb0.size hlt))))
  clear hr0C hr3 hr1 hr0B hbC hb5 hb1 hb0 hs1 hlt hf5
  go_wp2_with fail
  refine (eqByteS_any a5 a0 xs.length xs.length c5 c0 xs xs w5 hN hN hr5 hr0D).mono ?_
  rintro e w6 ⟨rfl, k6, rfl⟩
  rw [show decide (xs = xs) = true from by simp]
  go_wp2_with fail
  refine (heldByteS_any a1 xs.length c1 1 _ hn (by omega) (by omega) hr3D.drewN).mono ?_
  rintro e w7 ⟨rfl, rfl⟩
  go_wp2_with fail
  go_ret
  exact ⟨rfl, bel_drewN hbD k6⟩
end Go.Proofs.Ytmnijhjlindfbaa
