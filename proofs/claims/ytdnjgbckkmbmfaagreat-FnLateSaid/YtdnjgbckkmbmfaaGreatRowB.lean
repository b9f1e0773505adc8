/-
  Plain facts on rows of records that a call owns.
-/
import Derived.Test.YtdnjgbckkmbmfaaGreatOwn
namespace Go.Proofs.YtdnjgbckkmbmfaaGreat
open Go.RowKit

theorem rb_take_snoc {α : Type} (l : List α) (i : Nat) (h : i < l.length) : l.take (i + 1) = l.take i ++ [l[i]] := List.take_succ_eq_append_getElem h
theorem rb_grownBy_below {w w' : World} {r : Option Nat} (h : Below w.heap.size w w') : w.grownBy w' r := ⟨h.os, h.tape, h.output, h.size, fun i hi _ => h.block i hi⟩
theorem rb_ownsRow_below {w w' : World} {B e s n : Nat} {v : Value} {vs : List Value} (h : w.ownsRow B e s v n vs) (hb : Below w.heap.size w w') : w'.ownsRow B e s v n vs :=
 World.ownsRow.kept (row := none) h (rb_grownBy_below hb) (by cases hv : v.ownBlock <;> simp)
theorem rb_grown_trans {w w1 w2 : World} {r : Option Nat} (h : w.grownBy w1 r) (k : w1.grownBy w2 r) : w.grownBy w2 r :=
 ⟨k.os.trans h.os, k.tape.trans h.tape, k.output.trans h.output, Nat.le_trans h.size k.size, fun i hi hne => (k.block i (Nat.lt_of_lt_of_le hi h.size) hne).trans (h.block i hi hne)⟩
theorem rb_bel_of_drewN {B q : Nat} {w w' : World} (h : Below B (w.drewN q) w') : Below B w w' := ⟨h.os, h.tape, h.output, h.size, h.block⟩
theorem rb_cell_new {W : World} {n j : Nat} {cs : Array Value} {t : TypeId} {u : Value} (hn : n = W.heap.size) (hj : cs[j]? = some u) : (W.alloc (.cells cs t)).cell? ⟨n, j, none⟩ = some u := by
 subst hn
 simp [hj]
end Go.Proofs.YtdnjgbckkmbmfaaGreat
