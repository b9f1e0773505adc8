/-
  What a law keeps along its walk: what is written, rows of one's own, rows of bytes.
-/
import Derived.Test.YtdnjgbckkmbmfaaGreatRowB
import Derived.Test.YtdnjgbckkmbmfaaGreatMarkB
import Derived.Test.YtdnjgbckkmbmfaaGreatHeldB
namespace Go.Proofs.YtdnjgbckkmbmfaaGreat
open Go.RowKit

structure WrB (P : Nat → Prop) (w w' : World) : Prop where
 os : w'.os = w.os
 tape : w'.tape = w.tape
 output : w'.output = w.output
 size : w.heap.size ≤ w'.heap.size
 block : ∀ k, k < w.heap.size → ¬ P k → w'.heap[k]? = w.heap[k]?
theorem WrB.of_grown {w w' : World} {r : Option Nat} (h : w.grownBy w' r) : WrB (fun i => r = some i) w w' :=
 ⟨h.os, h.tape, h.output, h.size, fun k hk hp => h.block k hk (fun e => hp e.symm)⟩
theorem WrB.below {P : Nat → Prop} {w w' : World} {B : Nat} (h : WrB P w w') (hB : ∀ i, P i → B ≤ i) (hs : B ≤ w.heap.size) : Below B w w' :=
 ⟨h.os, h.tape, h.output, h.size, fun k hk => h.block k (by omega) (fun hp => by have := hB k hp; omega)⟩
theorem rr_owns_wr {P : Nat → Prop} {w w' : World} {B e s n : Nat} {v : Value} {vs : List Value} (h : w.ownsRow B e s v n vs) (hw : WrB P w w') (hp : ∀ i, v.ownBlock = some i → ¬ P i) : w'.ownsRow B e s v n vs := by
 have hlt := fun i hi => (h.lt i hi).2
 obtain ⟨hl, h⟩ := h
 refine ⟨hl, ?_⟩
 rcases h with h | ⟨g, cap, cur, e, hb, hh, r⟩
 ·exact .inl h
 ·subst e
  exact .inr ⟨g, cap, cur, rfl, hb, (hw.block g (hlt g rfl) (hp g rfl)).trans hh, r⟩
end Go.Proofs.YtdnjgbckkmbmfaaGreat
