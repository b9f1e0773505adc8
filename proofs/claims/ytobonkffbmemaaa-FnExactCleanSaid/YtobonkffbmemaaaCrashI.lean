/-
  The walk of impl.FlashCrash.
-/
import Derived.Test.YtobonkffbmemaaaCrashF
import Derived.Test.YtobonkffbmemaaaCrash
import Derived.Test.YtobonkffbmemaaaFlash0
namespace Go.Proofs.Ytobonkffbmemaaa
open Go.RowKit Go.Maps

theorem mine_set {w : World} {B b : Nat} {v : Value} {xs : List Int} (h : Mine w B v xs) (hb : b < B) (o : Nat) (u : Value) : Mine (w.setCell ⟨b, o, none⟩ u) B v xs := by
  obtain ⟨a, c, e, h1, h2, h3, h4⟩ := h
  refine ⟨a, c, e, h1, h2, h3.of_cells fun x hx p hp => World.cell?_of_block (w := w) (Below.heap_setCell _ _ _ _ (by have := (h4 x hx).1; simp; omega)), fun x hx => ⟨(h4 x hx).1, by simpa [World.setCell] using (h4 x hx).2.1, fun j => by rw [World.frozen?_setCell]; exact (h4 x hx).2.2 j⟩⟩
end Go.Proofs.Ytobonkffbmemaaa
