/-
  Plain facts on memory: rows of bytes, what a call owns, what it leaves alone.
-/
import Derived.Test.YtdnjgbckkmbmfaaGreatBase
namespace Go.Proofs.YtdnjgbckkmbmfaaGreat
open Go.RowKit

def Row (w : World) (a : Option Addr) (n : Nat) (xs : List Int) : Prop :=
  xs.length = n ∧ ∀ i, i < n → ∃ b off, a = some ⟨b, off, none⟩ ∧ w.cell? ⟨b, off + i, none⟩ = some (.int .u8 (xs.getD i 0))
structure Only (b : Nat) (w w' : World) : Prop where
  os : w'.os = w.os
  tape : w'.tape = w.tape
  output : w'.output = w.output
  size : w'.heap.size = w.heap.size
  block : ∀ k, k ≠ b → w'.heap[k]? = w.heap[k]?
  frozen : ∀ a, w'.frozen? a = w.frozen? a
theorem Only.refl (b : Nat) (w : World) : Only b w w := ⟨rfl, rfl, rfl, rfl, fun _ _ => rfl, fun _ => rfl⟩
theorem Only.trans {b : Nat} {w1 w2 w3 : World} (h : Only b w1 w2) (k : Only b w2 w3) : Only b w1 w3 :=
  ⟨k.os.trans h.os, k.tape.trans h.tape, k.output.trans h.output, k.size.trans h.size, fun i hi => (k.block i hi).trans (h.block i hi), fun a => (k.frozen a).trans (h.frozen a)⟩
theorem Only.setCell (w : World) (b o : Nat) (v : Value) : Only b w (w.setCell ⟨b, o, none⟩ v) :=
  ⟨rfl, rfl, rfl, by simp [World.setCell], fun k hk => Below.heap_setCell _ _ _ _ hk, fun a => by simp⟩
theorem Only.below {b B : Nat} {w w' : World} (h : Only b w w') (hB : B ≤ b) : Below B w w' :=
  ⟨h.os, h.tape, h.output, by rw [h.size]; exact Nat.le_refl _, fun k hk => h.block k (by omega)⟩
theorem Only.cell {b : Nat} {w w' : World} (h : Only b w w') {p : Addr} (hp : p.block ≠ b) : w'.cell? p = w.cell? p := World.cell?_of_block (w := w) (h.block p.block hp)
theorem Row.of_cells {w w' : World} {a : Option Addr} {n : Nat} {xs : List Int} (h : Row w a n xs) (hc : ∀ x, a = some x → ∀ p : Addr, p.block = x.block → w'.cell? p = w.cell? p) : Row w' a n xs := by
  refine ⟨h.1, fun i hi => ?_⟩
  obtain ⟨b, off, rfl, e⟩ := h.2 i hi
  exact ⟨b, off, rfl, (hc _ rfl ⟨b, off + i, none⟩ rfl).trans e⟩
theorem cell_lt {w : World} {p : Addr} {v : Value} (h : w.cell? p = some v) : p.block < w.heap.size := by
  cases hh : w.heap[p.block]? with
  | none => simp [World.cell?, hh] at h
  | some o => exact (Array.getElem?_eq_some_iff.1 hh).1
theorem Row.below {w w' : World} {B : Nat} {a : Option Addr} {n : Nat} {xs : List Int} (h : Row w a n xs) (hb : Below B w w') (ha : ∀ x, a = some x → x.block < B) : Row w' a n xs :=
  h.of_cells fun x hx p hp => hb.cell (by rw [hp]; exact ha x hx)
theorem Row.drewN {w : World} {k : Nat} {a : Option Addr} {n : Nat} {xs : List Int} (h : Row w a n xs) : Row (w.drewN k) a n xs := h
theorem bel_drewN {B : Nat} {a w : World} (h : Below B a w) (n : Nat) : Below B a (w.drewN n) := h.trans ⟨rfl, rfl, rfl, Nat.le_refl _, fun _ _ => rfl⟩
def Touch (a : Option Addr) (w w' : World) : Prop := w' = w ∨ ∃ x, a = some x ∧ Only x.block w w'
theorem Touch.below {a : Option Addr} {w w' : World} {B : Nat} (h : Touch a w w') (ha : ∀ x, a = some x → B ≤ x.block) : Below B w w' := by
  rcases h with rfl | ⟨x, hx, ho⟩
  · exact Below.refl _ _
  · exact ho.below (ha x hx)
theorem Touch.size {a : Option Addr} {w w' : World} (h : Touch a w w') : w'.heap.size = w.heap.size := by
  rcases h with rfl | ⟨x, hx, ho⟩
  · rfl
  · exact ho.size
structure Wrote (g : Nat) (w w' : World) : Prop where
  os : w'.os = w.os
  tape : w'.tape = w.tape
  output : w'.output = w.output
  size : w.heap.size ≤ w'.heap.size
  block : ∀ k, k ≠ g → k < w.heap.size → w'.heap[k]? = w.heap[k]?
theorem Wrote.refl (g : Nat) (w : World) : Wrote g w w := ⟨rfl, rfl, rfl, Nat.le_refl _, fun _ _ _ => rfl⟩
theorem Wrote.trans {g : Nat} {w1 w2 w3 : World} (h : Wrote g w1 w2) (k : Wrote g w2 w3) : Wrote g w1 w3 :=
  ⟨k.os.trans h.os, k.tape.trans h.tape, k.output.trans h.output, Nat.le_trans h.size k.size, fun i hi hl => (k.block i hi (Nat.lt_of_lt_of_le hl h.size)).trans (h.block i hi hl)⟩
theorem Wrote.of_below {g : Nat} {w w' : World} (h : Below w.heap.size w w') : Wrote g w w' := ⟨h.os, h.tape, h.output, h.size, fun k _ hl => h.block k hl⟩
theorem Wrote.set (w : World) (g p : Nat) (v : Value) : Wrote g w (w.setCell ⟨g, p, none⟩ v) :=
  ⟨rfl, rfl, rfl, by simp [World.setCell], fun k hk _ => Below.heap_setCell _ _ _ _ hk⟩
theorem Wrote.below {g B : Nat} {w w' : World} (h : Wrote g w w') (hB : B ≤ g) (hs : B ≤ w.heap.size) : Below B w w' :=
  ⟨h.os, h.tape, h.output, h.size, fun k hk => h.block k (by omega) (by omega)⟩
theorem Wrote.cell {g : Nat} {w w' : World} (h : Wrote g w w') {p : Addr} (hp : p.block ≠ g) (hl : p.block < w.heap.size) : w'.cell? p = w.cell? p := World.cell?_of_block (w := w) (h.block p.block hp hl)
theorem Wrote.frozen {g : Nat} {w w' : World} (h : Wrote g w w') {p : Addr} (hp : p.block ≠ g) (hl : p.block < w.heap.size) : w'.frozen? p = w.frozen? p := by
  simp [World.frozen?, h.block p.block hp hl]
theorem Wrote.alloc (w : World) (g : Nat) (o : Obj) : Wrote g w (w.alloc o) := Wrote.of_below ((Below.refl _ _).alloc (Nat.le_refl _) _)
theorem cells_new {w : World} {vs : List Value} {t : TypeId} : ∀ j u, vs[j]? = some u → (w.alloc (.cells vs.toArray t)).cell? ((⟨w.heap.size, 0, none⟩ : Addr).add j) = some u := by
  intro j u hj
  have e : (⟨w.heap.size, 0, none⟩ : Addr).add j = ⟨w.heap.size, j, none⟩ := by unfold Addr.add; split <;> simp_all
  rw [e]; simp [hj]
end Go.Proofs.YtdnjgbckkmbmfaaGreat
