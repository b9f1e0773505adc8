/-
  The walk of markByteS: the marks are laid, and nothing else is written.
-/
import Derived.Test.YtbboigidkimkmaaBytes
namespace Go.Proofs.Ytbboigidkimkmaa
open Go.RowKit

def marks (k0 : Int) (n : Nat) : List Int := (List.range n).map fun (i : Nat) => (k0 + (i : Int)) % 256
theorem marks_length (k0 : Int) (n : Nat) : (marks k0 n).length = n := by simp [marks]
theorem marks_getD (k0 : Int) (n i : Nat) (h : i < n) : (marks k0 n).getD i 0 = (k0 + (i : Int)) % 256 := by
  simp [marks, List.getD, h]
theorem mark_step {b off n k : Nat} {k0 : Int} {w wr : World} {xs : List Int} (hk : k < n)
    (h1 : ∀ i, i < k → wr.cell? ⟨b, off + i, none⟩ = some (.int .u8 ((k0 + (i : Int)) % 256))) (h2 : ∀ i, k ≤ i → i < n → wr.cell? ⟨b, off + i, none⟩ = some (.int .u8 (xs.getD i 0))) (ho : Only b w wr) :
    (∀ i, i < k + 1 → (wr.setCell ⟨b, off + k, none⟩ (.int .u8 ((k0 + (k : Int)) % 256))).cell? ⟨b, off + i, none⟩ = some (.int .u8 ((k0 + (i : Int)) % 256))) ∧
    (∀ i, k + 1 ≤ i → i < n → (wr.setCell ⟨b, off + k, none⟩ (.int .u8 ((k0 + (k : Int)) % 256))).cell? ⟨b, off + i, none⟩ = some (.int .u8 (xs.getD i 0))) ∧
    Only b w (wr.setCell ⟨b, off + k, none⟩ (.int .u8 ((k0 + (k : Int)) % 256))) := by
  refine ⟨fun i hi => ?_, fun i hi hin => ?_, ho.trans (Only.setCell _ _ _ _)⟩
  · by_cases e : i = k
    · subst e
      exact World.cell?_setCell_same _ _ _ (h2 i (Nat.le_refl _) hk)
    · exact (World.cell?_setCell_other _ _ _ _ (by intro h; simp only [Addr.mk.injEq] at h; omega)).trans (h1 i (by omega))
  · exact (World.cell?_setCell_other _ _ _ _ (by intro h; simp only [Addr.mk.injEq] at h; omega)).trans (h2 i (by omega) hin)
end Go.Proofs.Ytbboigidkimkmaa
