/-
  The walk of FnExactKeyText.
-/
import Derived.Test.YtmnijhjlindfbaaReadS
import Derived.Test.YtmnijhjlindfbaaReadI
import Derived.Test.YtmnijhjlindfbaaTail
namespace Go.Proofs.Ytmnijhjlindfbaa
open Go.RowKit

theorem ktV_shape (xs : List Int) (p : Int) : ∃ t q c, ktV xs p = .tuple #[.string t, .int .i64 q, .int .i64 c] := by
  unfold ktV
  split
  · exact ⟨_, _, _, rfl⟩
  · split
    · exact ⟨_, _, _, rfl⟩
    · cases short (rd (xs.drop p.toNat) [] p.toNat) with
      | none => exact ⟨_, _, _, rfl⟩
      | some x => exact ⟨_, _, _, rfl⟩

set_option maxHeartbeats 1000000 in
theorem lawKeyText_any (a : Option Addr) (len cap : Nat) (zs : List Int) (p : Int) (w : World) (h0 : IsRow .u8 w a len cap zs) (_ : (Lit.int .i64 p).wf = true) :
    Calls Try.prog 8 #[.slice a len cap, .int .i64 p] w fun e w' => e = .returned (.bool true) ∧ Below w.heap.size w w' := by
  obtain ⟨hr, hm, hlt⟩ := row_of_isRow h0
  clear h0
  unfold maxLen at hm
  by_cases hbig : 1048576 < len
  · clear hr hlt
    go_enter Try.func8, Try.ntmps8
    go_wp2_with fail
    go_ret
    exact ⟨rfl, Below.refl _ _⟩
  have hn : len ≤ 1048576 := by omega
  generalize zs.take len = xs at *
  have hl : xs.length = len := hr.1
  obtain ⟨t, q, cc, hkt⟩ := ktV_shape xs p
  have K := hide hkt
  have HL := hide hl
  have hmx : len ≤ maxLen := by unfold maxLen; omega
  clear hkt hl
  have B := hide (show ∀ w', Below w.heap.size w w' → Row w' a len xs from fun w' hb => by
    by_cases h : 0 < len
    · exact hr.below hb (fun x hx => hlt x hx h)
    · exact ⟨hr.1, fun i hi => absurd hi (by omega)⟩)
  have R := hide hr
  clear hr hlt
  go_enter Try.func8, Try.ntmps8
  go_wp2_with fail
  refine (toByteS_any a len cap xs w hn (unhide R)).mono ?_
  rintro e w1 ⟨v1, rfl, hm1, hb1⟩
  obtain ⟨a1, c1, rfl, _, _, hr1, hf1⟩ := hm1
  rw [unhide HL] at hr1
  rw [unhide HL]
  go_wp2_with fail
  refine (specKeyText_any a1 len c1 p xs w1 hn hr1).mono ?_
  rintro e w2 ⟨rfl, hb2⟩
  rw [unhide K]
  have bA : Below w.heap.size w w2 := hb1.trans (hb2.mono hb1.size)
  have hrA := unhide B w2 bA
  clear hb1 hb2 hr1 hf1
  go_wp2_with fail
  refine (toByteS_any a len cap xs w2 hn hrA).mono ?_
  rintro e w3 ⟨v3, rfl, hm3, hb3⟩
  obtain ⟨a3, c3, rfl, _, _, hr3, hf3⟩ := hm3
  rw [unhide HL] at hr3
  rw [unhide HL]
  go_wp2_with fail
  refine (keyText_any a3 len c3 p xs w3 hn hr3).mono ?_
  rintro e w4 ⟨rfl, hb4⟩
  rw [unhide K]
  have hr3' := hr3.below hb4 (fun x hx => (hf3 x hx).2.1)
  have hs3 := hb3.size
  have hs4 := hb4.size
  have hsA := bA.size
  have bB : Below w.heap.size w w4 := bA.trans ((hb3.mono hsA).trans (hb4.mono (by omega)))
  have hrB := unhide B w4 bB
  have F3 := hide (show ∀ x, a3 = some x → x.block < w4.heap.size from fun x hx => by have := (hf3 x hx).2.1; omega)
  clear hb3 hb4 hr3 hf3 hrA bA
  go_wp2_with fail
  refine (toByteS_any a len cap xs w4 hn hrB).mono ?_
  rintro e w5 ⟨v5, rfl, hm5, hb5⟩
  obtain ⟨a5, c5, rfl, _, _, hr5, hf5⟩ := hm5
  rw [unhide HL] at hr5
  rw [unhide HL]
  have hr3D := hr3'.below hb5 (unhide F3)
  have bC : Below w.heap.size w w5 := bB.trans (hb5.mono bB.size)
  clear hb5 hf5 hrB hr3' bB
  go_wp2_with fail
  refine (eqByteS_any a3 a5 len len c3 c5 xs xs w5 hmx hmx hr3D hr5).mono ?_
  rintro e w6 ⟨rfl, k6, rfl⟩
  rw [show decide (xs = xs) = true from by simp]
  go_wp2_with fail
  go_ret
  exact ⟨rfl, bel_drewN bC k6⟩
end Go.Proofs.Ytmnijhjlindfbaa
