/-
  Drawn bytes and drawn flags.
-/
import Derived.Test.YtbboigidkimkmaaSrcN
import Derived.Deep.RegionWith
namespace Go.Proofs.Ytbboigidkimkmaa
open Go.RowKit

theorem Src.of_blocks' {w w' : World} {p : Nat} {a : Option Addr} {n c : Nat} {xs : List Int} {K : Int} (h : Src w p a n c xs K) (hp : w'.heap[p]? = w.heap[p]?) (ha : ∀ x, a = some x → 0 < n → w'.heap[x.block]? = w.heap[x.block]?) : Src w' p a n c xs K := by
  obtain ⟨h1, ⟨t, ht, ht0, htK⟩, ⟨s, hs, hs0, hs1⟩, h4, h5, h6, h7, h8⟩ := h
  refine ⟨(World.cell?_of_block (w := w) (a := ⟨p, 0, none⟩) hp).trans h1, ⟨t, (World.cell?_of_block (w := w) (a := ⟨p, 1, none⟩) hp).trans ht, ht0, htK⟩, ⟨s, (World.cell?_of_block (w := w) (a := ⟨p, 2, none⟩) hp).trans hs, hs0, hs1⟩, fun j => (World.frozen?_of_block (w := w) (a := ⟨p, j, none⟩) hp).trans (h4 j), ⟨h5.1, fun i hi => ?_⟩, h6, h7, h8⟩
  obtain ⟨b, off, e, hc⟩ := h5.2 i hi
  have hb : w'.heap[b]? = w.heap[b]? := ha _ e (by omega)
  exact ⟨b, off, e, (World.cell?_of_block (w := w) (a := ⟨b, off + i, none⟩) hb).trans hc⟩
theorem src_code' {w : World} {p : Nat} {a : Option Addr} {n c : Nat} {xs : List Int} {K : Int} (h : Src w p a n c xs K) : ∀ x, a = some x → 0 < n → x.block < w.heap.size := fun x hx hn => by
  obtain ⟨b, off, e, hc⟩ := h.row.2 0 hn
  rw [hx] at e
  cases e
  exact cell_lt hc
theorem Src.below {w w' : World} {p : Nat} {a : Option Addr} {n c : Nat} {xs : List Int} {K : Int} (h : Src w p a n c xs K) (hb : Below w.heap.size w w') : Src w' p a n c xs K :=
  h.of_blocks' (hb.block _ (cell_lt h.code)) (fun x hx hn => hb.block _ (src_code' h x hx hn))
theorem Src.grown {w w' : World} {p B : Nat} {a : Option Addr} {n c : Nat} {xs : List Int} {K : Int} {row : Option Nat} (h : Src w p a n c xs K) (hg : w.grownBy w' row) (hr : ∀ k, row = some k → B ≤ k) (hp : p < B) (ha : ∀ x, a = some x → 0 < n → x.block < B) : Src w' p a n c xs K :=
  h.of_blocks' (hg.block p (cell_lt h.code) (fun e => by have := hr p e.symm; omega)) (fun x hx hn => hg.block _ (src_code' h x hx hn) (fun e => by have := hr _ e.symm; have := ha x hx hn; omega))
theorem wrote_grown' {p : Nat} {w w1 w2 : World} {row : Option Nat} (h : Wrote p w w1) (hg : w1.grownBy w2 row) (hr : ∀ k, row = some k → w.heap.size ≤ k) : Wrote p w w2 :=
  ⟨hg.os.trans h.os, hg.tape.trans h.tape, hg.output.trans h.output, Nat.le_trans h.size hg.size, fun k hk hl => (hg.block k (Nat.lt_of_lt_of_le hl h.size) (fun e => by have := hr k e.symm; omega)).trans (h.block k hk hl)⟩
theorem owns_wrote {w w' : World} {B p : Nat} {v : Value} {xs : List Int} (h : Owns w B v xs) (hw : Wrote p w w') (hp : p < B) : Owns w' B v xs :=
  World.ownsRow.kept (row := some p) h ⟨hw.os, hw.tape, hw.output, hw.size, fun i hi hne => hw.block i (fun e => hne (by rw [e])) hi⟩ (.inr fun e => by have := (h.lt _ e).1; omega)
theorem owns_row_form {w : World} {B : Nat} {v : Value} {xs : List Int} (h : Owns w B v xs) (hv : v ≠ .slice none 0 0) : ∃ g cap, v = .slice (some ⟨g, 0, none⟩) xs.length cap ∧ B ≤ g := by
  rcases h.2 with ⟨e, _⟩ | ⟨g, cap, cur, e, hb, _⟩
  · exact absurd e hv
  · exact ⟨g, cap, e, hb⟩
end Go.Proofs.Ytbboigidkimkmaa
