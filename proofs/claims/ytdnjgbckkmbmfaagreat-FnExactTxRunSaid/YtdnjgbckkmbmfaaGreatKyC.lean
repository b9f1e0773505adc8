/-
  Rows of records: their cells, rows that the call owns, filled one by one (Entry).
-/
import Derived.Test.YtdnjgbckkmbmfaaGreatRowB
namespace Go.Proofs.YtdnjgbckkmbmfaaGreat
open Go.RowKit

structure KvD where
  k : ByteArray
  v : ByteArray
def kv (d : KvD) : Value := .agg #[.string d.k, .string d.v]
def KRow (w : World) (a : Option Addr) (n : Nat) (ds : List KvD) : Prop :=
  ds.length = n ∧ ∀ i (hi : i < ds.length), ∃ b off, a = some ⟨b, off, none⟩ ∧ w.cell? ⟨b, off + i * 2, none⟩ = some (.string ds[i].k) ∧ w.cell? ⟨b, off + i * 2 + 1, none⟩ = some (.string ds[i].v)
theorem KRow.below {w w' : World} {a : Option Addr} {n : Nat} {ds : List KvD} (h : KRow w a n ds) (hb : Below w.heap.size w w') : KRow w' a n ds := by
  refine ⟨h.1, fun i hi => ?_⟩
  obtain ⟨b, off, e, c0, c1⟩ := h.2 i hi
  have hbl : b < w.heap.size := cell_lt c0
  exact ⟨b, off, e, (hb.cell (p := ⟨b, off + i * 2, none⟩) hbl).trans c0, (hb.cell (p := ⟨b, off + i * 2 + 1, none⟩) hbl).trans c1⟩
def kcs : List KvD → List Value
  | [] => []
  | d :: r => .string d.k :: .string d.v :: kcs r
theorem kcs_append : ∀ a b : List KvD, kcs (a ++ b) = kcs a ++ kcs b
  | [], _ => rfl
  | d :: r, b => by simp only [List.cons_append, kcs, kcs_append r b]
theorem kcs_one (ds : List KvD) : ∀ u ∈ kcs ds, u.oneCell' = true := by
  induction ds with
  | nil => intro u hu; simp [kcs] at hu
  | cons e r ih =>
    intro u hu
    simp only [kcs, List.mem_cons] at hu
    rcases hu with rfl | rfl | hu
    · rfl
    · rfl
    · exact ih u hu
abbrev KOwns (w : World) (B : Nat) (v : Value) (ds : List KvD) : Prop := w.ownsRow B 48 2 v ds.length (kcs ds)
theorem kowns_below {w w' : World} {B : Nat} {v : Value} {ds : List KvD} (h : KOwns w B v ds) (hb : Below w.heap.size w w') : KOwns w' B v ds := rb_ownsRow_below h hb
end Go.Proofs.YtdnjgbckkmbmfaaGreat
