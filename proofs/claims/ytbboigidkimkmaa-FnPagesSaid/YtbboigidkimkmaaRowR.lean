/-
  What a law keeps along its walk: what is written, rows of one's own, rows of bytes.
-/
import Derived.Test.YtbboigidkimkmaaRowB
import Derived.Test.YtbboigidkimkmaaBytes
import Derived.Test.YtbboigidkimkmaaMarkB
import Derived.Test.YtbboigidkimkmaaHeldB
namespace Go.Proofs.Ytbboigidkimkmaa
open Go.RowKit

/-- Blocks of which P does not hold stay. -/
structure WrB (P : Nat → Prop) (w w' : World) : Prop where
  os : w'.os = w.os
  tape : w'.tape = w.tape
  output : w'.output = w.output
  size : w.heap.size ≤ w'.heap.size
  block : ∀ k, k < w.heap.size → ¬ P k → w'.heap[k]? = w.heap[k]?
theorem WrB.of_grown {w w' : World} {r : Option Nat} (h : w.grownBy w' r) : WrB (fun i => r = some i) w w' :=
  ⟨h.os, h.tape, h.output, h.size, fun k hk hp => h.block k hk (fun e => hp e.symm)⟩
theorem WrB.of_touch {a : Option Addr} {w w' : World} (h : Touch a w w') : WrB (fun i => ∃ x, a = some x ∧ i = x.block) w w' := by
  rcases h with rfl | ⟨x, hx, ho⟩
  · exact ⟨rfl, rfl, rfl, Nat.le_refl _, fun _ _ _ => rfl⟩
  · exact ⟨ho.os, ho.tape, ho.output, Nat.le_of_eq ho.size.symm, fun k _ hk => ho.block k (fun e => hk ⟨x, hx, e⟩)⟩
theorem WrB.below {P : Nat → Prop} {w w' : World} {B : Nat} (h : WrB P w w') (hB : ∀ i, P i → B ≤ i) (hs : B ≤ w.heap.size) : Below B w w' :=
  ⟨h.os, h.tape, h.output, h.size, fun k hk => h.block k (by omega) (fun hp => by have := hB k hp; omega)⟩
theorem rr_owns_wr {P : Nat → Prop} {w w' : World} {B e s n : Nat} {v : Value} {vs : List Value} (h : w.ownsRow B e s v n vs) (hw : WrB P w w') (hp : ∀ i, v.ownBlock = some i → ¬ P i) : w'.ownsRow B e s v n vs := by
  have hlt := fun i hi => (h.lt i hi).2
  obtain ⟨hl, h⟩ := h
  refine ⟨hl, ?_⟩
  rcases h with h | ⟨g, cap, cur, e, hb, hh, r⟩
  · exact .inl h
  · subst e
    exact .inr ⟨g, cap, cur, rfl, hb, (hw.block g (hlt g rfl) (hp g rfl)).trans hh, r⟩
/-- A row of bytes of one's own. -/
structure BR (w : World) (B : Nat) (a : Option Addr) (n : Nat) (xs : List Int) : Prop where
  row : Row w a n xs
  own : ∀ x, a = some x → B ≤ x.block ∧ x.block < w.heap.size ∧ ∀ j, w.frozen? ⟨x.block, j, none⟩ = false
theorem BR.own' {w : World} {B n : Nat} {a : Option Addr} {xs : List Int} (h : BR w B a n xs) (x : Addr) (hx : a = some x) : B ≤ x.block ∧ x.block < w.heap.size := ⟨(h.own x hx).1, (h.own x hx).2.1⟩
theorem BR.of_blocks {w w' : World} {B n : Nat} {a : Option Addr} {xs : List Int} (h : BR w B a n xs) (hs : w.heap.size ≤ w'.heap.size) (hb : ∀ x, a = some x → w'.heap[x.block]? = w.heap[x.block]?) : BR w' B a n xs :=
  ⟨h.row.of_cells fun x hx p hp => World.cell?_of_block (w := w) (by rw [hp]; exact hb x hx), fun x hx => ⟨(h.own x hx).1, Nat.lt_of_lt_of_le (h.own x hx).2.1 hs, fun j => (show w'.frozen? ⟨x.block, j, none⟩ = w.frozen? ⟨x.block, j, none⟩ from World.frozen?_of_block (w := w) (hb x hx)).trans ((h.own x hx).2.2 j)⟩⟩
theorem BR.below {w w' : World} {B n : Nat} {a : Option Addr} {xs : List Int} (h : BR w B a n xs) (hb : Below w.heap.size w w') : BR w' B a n xs :=
  h.of_blocks hb.size (fun x hx => hb.block _ (h.own x hx).2.1)
theorem BR.wr {P : Nat → Prop} {w w' : World} {B n : Nat} {a : Option Addr} {xs : List Int} (h : BR w B a n xs) (hw : WrB P w w') (hp : ∀ x, a = some x → ¬ P x.block) : BR w' B a n xs :=
  h.of_blocks hw.size (fun x hx => hw.block x.block (h.own x hx).2.1 (hp x hx))
theorem BR.marked {w w' : World} {B n : Nat} {a : Option Addr} {xs ys : List Int} (h : BR w B a n xs) (hr : Row w' a n ys) (ht : Touch a w w') : BR w' B a n ys := by
  refine ⟨hr, fun x hx => ?_⟩
  rcases ht with rfl | ⟨y, _, ho⟩
  · exact h.own x hx
  · exact ⟨(h.own x hx).1, by rw [ho.size]; exact (h.own x hx).2.1, fun j => (ho.frozen _).trans ((h.own x hx).2.2 j)⟩
theorem br_of_owns {w : World} {B : Nat} {v : Value} {xs : List Int} (h : Owns w B v xs) : ∃ a c, v = .slice a xs.length c ∧ BR w B a xs.length xs := by
  obtain ⟨a, c, e, _, _, h3, h4⟩ := mine_of_owns h
  exact ⟨a, c, e, h3, h4⟩
end Go.Proofs.Ytbboigidkimkmaa
