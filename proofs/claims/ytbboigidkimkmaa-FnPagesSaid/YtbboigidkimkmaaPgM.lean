/-
  The walks of markEntryS, markDeltaS, markPage: the marks are laid in the call's own rows, and nothing else is written.
-/
import Derived.Test.YtbboigidkimkmaaPgP
import Derived.Test.YtbboigidkimkmaaMkT
import Derived.Deep.RegionWith
namespace Go.Proofs.Ytbboigidkimkmaa
open Go.RowKit

def markE (k0 i : Nat) : EntD := ⟨mt (k0 + 2 * i) ByteArray.empty, mt (k0 + 2 * i + 1) ByteArray.empty⟩
def markEs (k0 n : Nat) : List EntD := (List.range n).map (markE k0)
def markDl (k0 i : Nat) : DelD := ⟨k0 + 4 * i, mt (k0 + 4 * i + 1) ByteArray.empty, mt (k0 + 4 * i + 2) ByteArray.empty, k0 + 4 * i + 3⟩
def markDls (k0 n : Nat) : List DelD := (List.range n).map (markDl k0)
theorem markEs_len (k0 n : Nat) : (markEs k0 n).length = n := by simp [markEs]
theorem markDls_len (k0 n : Nat) : (markDls k0 n).length = n := by simp [markDls]
theorem set_mark {α : Type} (f : Nat → α) (l : List α) (k : Nat) (h : k < l.length) : ((List.range k).map f ++ l.drop k).set k (f k) = (List.range (k + 1)).map f ++ l.drop (k + 1) := by
  rw [List.set_append_right _ _ (by simp), List.length_map, List.length_range, Nat.sub_self, List.drop_eq_getElem_cons h, List.set_cons_zero, List.range_succ, List.map_append, List.append_assoc]
  rfl
theorem eowns_set1 {w : World} {B g n c : Nat} {es : List EntD} (h : EOwns w B (.slice (some ⟨g, 0, none⟩) n c) es) (j : Nat) (v : Value) : (w.setCell ⟨g, j, none⟩ v).ownsRow B 57 2 (.slice (some ⟨g, 0, none⟩) n c) n ((ecs es).set j v) ∧ w.grownBy (w.setCell ⟨g, j, none⟩ v) (some g) := by
  obtain rfl := (erow_of_owns h).1
  exact World.ownsRow.stored h j v
theorem grownBy_below {w w' : World} {r : Option Nat} (h : Below w.heap.size w w') : w.grownBy w' r := ⟨h.os, h.tape, h.output, h.size, fun i hi _ => h.block i hi⟩
theorem ownsRow_below {w w' : World} {B e s n : Nat} {v : Value} {vs : List Value} (h : w.ownsRow B e s v n vs) (hb : Below w.heap.size w w') : w'.ownsRow B e s v n vs :=
  World.ownsRow.kept (row := none) h (grownBy_below hb) (by cases hv : v.ownBlock <;> simp)
theorem downs_set1 {w : World} {B g n c : Nat} {ds : List DelD} (h : DOwns w B (.slice (some ⟨g, 0, none⟩) n c) ds) (j : Nat) (v : Value) : (w.setCell ⟨g, j, none⟩ v).ownsRow B 41 4 (.slice (some ⟨g, 0, none⟩) n c) n ((dcs ds).set j v) ∧ w.grownBy (w.setCell ⟨g, j, none⟩ v) (some g) := by
  obtain rfl := (drow_of_owns h).1
  exact World.ownsRow.stored h j v
theorem ownsRow_some {w : World} {B e s g n c : Nat} {vs : List Value} (h : w.ownsRow B e s (.slice (some ⟨g, 0, none⟩) n c) n vs) {j : Nat} (hj : j < n * s) : ∃ u, w.cell? ⟨g, j, none⟩ = some u :=
  ⟨_, (h.cellAt j hj).trans (List.getElem?_eq_getElem (by rw [h.1]; exact hj))⟩
end Go.Proofs.Ytbboigidkimkmaa
