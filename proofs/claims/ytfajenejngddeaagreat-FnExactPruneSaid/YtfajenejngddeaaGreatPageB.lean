/-
  Entries in memory; what a page is behind changes, as it lies in memory; its bounds; a search in it.
-/
import Derived.Test.YtfajenejngddeaaGreatPageA
namespace Go.Proofs.YtfajenejngddeaaGreat
open Go.RowKit

/-- A slice of entries as it reads. -/
def ERow (w : World) (a : Option Addr) (n : Nat) (es : List EntD) : Prop :=
  es.length = n ∧ ∀ i (hi : i < es.length), ∃ b off, a = some ⟨b, off, none⟩ ∧ w.cell? ⟨b, off + i * 2, none⟩ = some (.string es[i].k) ∧ w.cell? ⟨b, off + i * 2 + 1, none⟩ = some (.string es[i].v)
theorem ERow.below {w w' : World} {a : Option Addr} {n : Nat} {es : List EntD} (h : ERow w a n es) (hb : Below w.heap.size w w') : ERow w' a n es := by
  refine ⟨h.1, fun i hi => ?_⟩
  obtain ⟨b, off, e, c0, c1⟩ := h.2 i hi
  have hbl : b < w.heap.size := cell_lt c0
  exact ⟨b, off, e, (hb.cell (p := ⟨b, off + i * 2, none⟩) hbl).trans c0, (hb.cell (p := ⟨b, off + i * 2 + 1, none⟩) hbl).trans c1⟩
end Go.Proofs.YtfajenejngddeaaGreat
