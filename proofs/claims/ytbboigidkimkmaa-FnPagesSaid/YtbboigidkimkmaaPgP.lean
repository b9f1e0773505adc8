/-
  The walk of toPage.
-/
import Derived.Test.YtbboigidkimkmaaPgE
import Derived.Test.YtbboigidkimkmaaWrT
namespace Go.Proofs.Ytbboigidkimkmaa
open Go.RowKit

theorem new_cell {w : World} {n : Nat} (e : w.heap.size = n) (cs : Array Value) (t : TypeId) (j : Nat) : (w.alloc (.cells cs t)).cell? ⟨n, j, none⟩ = cs[j]? := by
  subst e
  simp
theorem new_frozen {w : World} {n : Nat} (e : w.heap.size = n) (cs : Array Value) (t : TypeId) (j : Nat) : (w.alloc (.cells cs t)).frozen? ⟨n, j, none⟩ = false := by
  subst e
  simp
theorem heap_cell {w : World} {b : Nat} {cs : Array Value} {t : TypeId} (h : w.heap[b]? = some (.cells cs t (0, 0))) (j : Nat) : w.cell? ⟨b, j, none⟩ = cs[j]? := by simp [World.cell?, h]
theorem heap_frozen {w : World} {b : Nat} {cs : Array Value} {t : TypeId} (h : w.heap[b]? = some (.cells cs t (0, 0))) (j : Nat) : w.frozen? ⟨b, j, none⟩ = false := by simp [World.frozen?, h]
theorem heap_new {w : World} {n : Nat} (e : w.heap.size = n) (cs : Array Value) (t : TypeId) : (w.alloc (.cells cs t)).heap[n]? = some (.cells cs t (0, 0)) := by
  subst e
  exact heap_alloc_new _ _
theorem ownsRow_set {w : World} {B sb e s n : Nat} {v : Value} {vs : List Value} (h : w.ownsRow B e s v n vs) (hs : sb < B) (o : Nat) (x : Value) : (w.setCell ⟨sb, o, none⟩ x).ownsRow B e s v n vs := by
  refine World.ownsRow.kept (row := some sb) h ⟨rfl, rfl, rfl, by simp [World.setCell], fun i _ hi => Below.heap_setCell _ _ _ _ (fun e => hi (by rw [e]))⟩ ?_
  cases hv : v.ownBlock with
  | none => exact .inl rfl
  | some k => exact .inr (fun e => by have := (h.lt k hv).1; injection e with e; omega)
end Go.Proofs.Ytbboigidkimkmaa
