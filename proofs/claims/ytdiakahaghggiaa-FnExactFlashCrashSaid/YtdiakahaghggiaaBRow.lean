/-
  Slices of bools, as they read.
-/
import Derived.Test.YtdiakahaghggiaaFlashD
namespace Go.Proofs.Ytdiakahaghggiaa
open Go.RowKit

/-- A slice of bools as it reads. -/
def BRow (w : World) (a : Option Addr) (n : Nat) (bs : List Bool) : Prop :=
  bs.length = n ∧ ∀ i, i < n → ∃ b off, a = some ⟨b, off, none⟩ ∧ w.cell? ⟨b, off + i, none⟩ = some (.bool (bs.getD i false))
theorem BRow.grow {w w' : World} {a : Option Addr} {n : Nat} {bs : List Bool} (h : BRow w a n bs) (hb : Below w.heap.size w w') : BRow w' a n bs := by
  refine ⟨h.1, fun i hi => ?_⟩
  obtain ⟨b, off, e, hc⟩ := h.2 i hi
  exact ⟨b, off, e, (hb.cell (p := ⟨b, off + i, none⟩) (cell_lt hc)).trans hc⟩
theorem BRow.kept {S : Nat → Prop} {w w' : World} {a : Option Addr} {n : Nat} {bs : List Bool} (h : BRow w a n bs) (hk : Kept S w w') (ha : ∀ x, a = some x → S x.block) : BRow w' a n bs := by
  refine ⟨h.1, fun i hi => ?_⟩
  obtain ⟨b, off, e, hc⟩ := h.2 i hi
  exact ⟨b, off, e, (hk.cell (p := ⟨b, off + i, none⟩) (ha ⟨b, off, none⟩ e) (cell_lt hc)).trans hc⟩
end Go.Proofs.Ytdiakahaghggiaa
