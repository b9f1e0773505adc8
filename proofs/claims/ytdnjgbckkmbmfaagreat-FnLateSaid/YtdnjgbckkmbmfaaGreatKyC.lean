/-
  Rows of records: their cells, rows that the call owns, filled one by one (Entry).
-/
import Derived.Test.YtdnjgbckkmbmfaaGreatRowB
namespace Go.Proofs.YtdnjgbckkmbmfaaGreat
open Go.RowKit

structure KvD where
 k : ByteArray
 v : ByteArray
def kcs : List KvD → List Value
 | [] => []
 | d :: r => .string d.k :: .string d.v :: kcs r
theorem kcs_append : ∀ a b : List KvD, kcs (a ++ b) = kcs a ++ kcs b
 | [], _ => rfl
 | d :: r, b => by simp only [List.cons_append, kcs, kcs_append r b]
theorem kcs_one (ds : List KvD) : ∀ u ∈ kcs ds, u.oneCell' = true := by
 induction ds with
 | nil => intro u hu; simp [kcs] at hu
 | cons e r ih =>
  intro u hu
  simp only [kcs, List.mem_cons] at hu
  rcases hu with rfl | rfl | hu
  ·rfl
  ·rfl
  ·exact ih u hu
abbrev KOwns (w : World) (B : Nat) (v : Value) (ds : List KvD) : Prop := w.ownsRow B 48 2 v ds.length (kcs ds)
theorem kowns_below {w w' : World} {B : Nat} {v : Value} {ds : List KvD} (h : KOwns w B v ds) (hb : Below w.heap.size w w') : KOwns w' B v ds := rb_ownsRow_below h hb
end Go.Proofs.YtdnjgbckkmbmfaaGreat
