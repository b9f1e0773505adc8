/-
  Rows of records: their cells, rows that the call owns, filled one by one (Entry).
-/
import Derived.Test.YtfajenejngddeaaGreatRowB
namespace Go.Proofs.YtfajenejngddeaaGreat
open Go.RowKit

structure KvD where
  k : ByteArray
  v : ByteArray
/-- The record as it lies in memory. -/
def kv (d : KvD) : Value := .agg #[.string d.k, .string d.v]
/-- A slice of records as it reads. -/
def KRow (w : World) (a : Option Addr) (n : Nat) (ds : List KvD) : Prop :=
  ds.length = n ∧ ∀ i (hi : i < ds.length), ∃ b off, a = some ⟨b, off, none⟩ ∧ w.cell? ⟨b, off + i * 2, none⟩ = some (.string ds[i].k) ∧ w.cell? ⟨b, off + i * 2 + 1, none⟩ = some (.string ds[i].v)
theorem KRow.below {w w' : World} {a : Option Addr} {n : Nat} {ds : List KvD} (h : KRow w a n ds) (hb : Below w.heap.size w w') : KRow w' a n ds := by
  refine ⟨h.1, fun i hi => ?_⟩
  obtain ⟨b, off, e, c0, c1⟩ := h.2 i hi
  have hbl : b < w.heap.size := cell_lt c0
  exact ⟨b, off, e, (hb.cell (p := ⟨b, off + i * 2, none⟩) hbl).trans c0, (hb.cell (p := ⟨b, off + i * 2 + 1, none⟩) hbl).trans c1⟩
end Go.Proofs.YtfajenejngddeaaGreat
