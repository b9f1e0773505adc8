/-
  A row of bytes that a law keeps.
-/
import Derived.Test.YtkggpapmhopaeaaMarkB
import Derived.Test.YtkggpapmhopaeaaHeldB
import Derived.Test.YtkggpapmhopaeaaPgK
namespace Go.Proofs.Ytkggpapmhopaeaa
open Go.RowKit

theorem eqBytes_sameP (a1 a2 : Option Addr) (n c1 c2 : Nat) (xs : List Int) (w : World) (hn : n ≤ maxLen) (h1 : Row w a1 n xs) (h2 : Row w a2 n xs) :
    Calls Try.prog 28 #[.slice a1 n c1, .slice a2 n c2] w fun e w' => e = .returned (.bool true) ∧ Below w.heap.size w w' := by
  refine (eqByteS_any a1 a2 n n c1 c2 xs xs w hn hn h1 h2).mono ?_
  rintro e w' ⟨rfl, k, rfl⟩
  exact ⟨ret_bool (by simp), bel_drewN (Below.refl _ _) _⟩
/-- A row of bytes of one's own. -/
structure ByR (w : World) (B : Nat) (a : Option Addr) (n : Nat) (xs : List Int) : Prop where
  row : Row w a n xs
  own : ∀ x, a = some x → B ≤ x.block ∧ x.block < w.heap.size ∧ ∀ j, w.frozen? ⟨x.block, j, none⟩ = false
theorem by_of_mine {w : World} {B n c : Nat} {a : Option Addr} {xs : List Int} (h : Mine w B (.slice a n c) xs) (hl : xs.length = n) : ByR w B a n xs := by
  obtain ⟨a', c', e, _, _, h3, h4⟩ := h
  injection e with e1 e2 e3
  subst e1
  rw [hl] at h3
  exact ⟨h3, h4⟩
theorem ByR.own' {w : World} {B n : Nat} {a : Option Addr} {xs : List Int} (h : ByR w B a n xs) (x : Addr) (hx : a = some x) : B ≤ x.block ∧ x.block < w.heap.size := ⟨(h.own x hx).1, (h.own x hx).2.1⟩
theorem ByR.of_blocks {w w' : World} {B n : Nat} {a : Option Addr} {xs : List Int} (h : ByR w B a n xs) (hs : w.heap.size ≤ w'.heap.size) (hb : ∀ x, a = some x → w'.heap[x.block]? = w.heap[x.block]?) : ByR w' B a n xs :=
  ⟨h.row.of_cells fun x hx p hp => World.cell?_of_block (w := w) (by rw [hp]; exact hb x hx), fun x hx => ⟨(h.own x hx).1, Nat.lt_of_lt_of_le (h.own x hx).2.1 hs, fun j => (show w'.frozen? ⟨x.block, j, none⟩ = w.frozen? ⟨x.block, j, none⟩ from World.frozen?_of_block (w := w) (hb x hx)).trans ((h.own x hx).2.2 j)⟩⟩
theorem ByR.below {w w' : World} {B n : Nat} {a : Option Addr} {xs : List Int} (h : ByR w B a n xs) (hb : Below w.heap.size w w') : ByR w' B a n xs :=
  h.of_blocks hb.size (fun x hx => hb.block _ (h.own x hx).2.1)
theorem wr_touch {a : Option Addr} {w w' : World} (h : Touch a w w') : Wr (fun i => ∃ x, a = some x ∧ i = x.block) w w' := by
  rcases h with rfl | ⟨x, hx, ho⟩
  · exact Wr.of_below (Below.refl _ _)
  · exact ⟨ho.os, ho.tape, ho.output, Nat.le_of_eq ho.size.symm, fun k _ hk => ho.block k (fun e => hk ⟨x, hx, e⟩)⟩
theorem ByR.marked {w w' : World} {B n : Nat} {a : Option Addr} {xs ys : List Int} (h : ByR w B a n xs) (hr : Row w' a n ys) (ht : Touch a w w') : ByR w' B a n ys := by
  refine ⟨hr, fun x hx => ?_⟩
  rcases ht with rfl | ⟨y, _, ho⟩
  · exact h.own x hx
  · exact ⟨(h.own x hx).1, by rw [ho.size]; exact (h.own x hx).2.1, fun j => (ho.frozen _).trans ((h.own x hx).2.2 j)⟩
end Go.Proofs.Ytkggpapmhopaeaa
