/-
  The walk of markByteS over whatever slice.
-/
import Derived.Test.YtkggpapmhopaeaaMark
namespace Go.Proofs.Ytkggpapmhopaeaa
open Go.RowKit

theorem markByteS_any (a : Option Addr) (n c : Nat) (xs : List Int) (k0 : Int) (w : World) (hn : n ≤ 4611686018427387904) (hk : 0 ≤ k0) (hk2 : k0 ≤ 4000000000000000000) (h1 : Row w a n xs) (h2 : ∀ x, a = some x → ∀ j, w.frozen? ⟨x.block, j, none⟩ = false) :
    Calls Try.prog 29 #[.slice a n c, .int .i64 k0] w fun e w' => e = .returned (.int .i64 (k0 + n)) ∧ Row w' a n (marks k0 n) ∧ Touch a w w' := by
  by_cases h0 : n = 0
  · subst h0
    refine (markByteS_none a c k0 w).mono ?_
    rintro e w' ⟨rfl, rfl⟩
    exact ⟨ret_int (by simp), ⟨rfl, fun i hi => absurd hi (Nat.not_lt_zero _)⟩, .inl rfl⟩
  · obtain ⟨b, off, rfl, _⟩ := h1.2 0 (by omega)
    refine (markByteS_some b off n c xs k0 w hn hk hk2 (fun i hi => ?_) (fun i hi => h2 _ rfl _)).mono ?_
    · obtain ⟨b', off', e, h⟩ := h1.2 i hi
      cases e
      exact h
    · rintro e w' ⟨rfl, hr, ho⟩
      exact ⟨rfl, hr, .inr ⟨_, rfl, ho⟩⟩
end Go.Proofs.Ytkggpapmhopaeaa
