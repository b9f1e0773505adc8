/-
  Plain facts on memory: rows of bytes, what a call owns, what it leaves alone.
-/
import Derived.Test.YtdnjgbckkmbmfaaGreatBase
namespace Go.Proofs.YtdnjgbckkmbmfaaGreat
open Go.RowKit

def Row (w : World) (a : Option Addr) (n : Nat) (xs : List Int) : Prop :=
 xs.length = n ∧ ∀ i, i < n → ∃ b off, a = some ⟨b, off, none⟩ ∧ w.cell? ⟨b, off + i, none⟩ = some (.int .u8 (xs.getD i 0))
structure Only (b : Nat) (w w' : World) : Prop where
 os : w'.os = w.os
 tape : w'.tape = w.tape
 output : w'.output = w.output
 size : w'.heap.size = w.heap.size
 block : ∀ k, k ≠ b → w'.heap[k]? = w.heap[k]?
 frozen : ∀ a, w'.frozen? a = w.frozen? a
theorem Only.refl (b : Nat) (w : World) : Only b w w := ⟨rfl, rfl, rfl, rfl, fun _ _ => rfl, fun _ => rfl⟩
theorem Only.trans {b : Nat} {w1 w2 w3 : World} (h : Only b w1 w2) (k : Only b w2 w3) : Only b w1 w3 :=
 ⟨k.os.trans h.os, k.tape.trans h.tape, k.output.trans h.output, k.size.trans h.size, fun i hi => (k.block i hi).trans (h.block i hi), fun a => (k.frozen a).trans (h.frozen a)⟩
theorem Only.setCell (w : World) (b o : Nat) (v : Value) : Only b w (w.setCell ⟨b, o, none⟩ v) :=
 ⟨rfl, rfl, rfl, by simp [World.setCell], fun k hk => Below.heap_setCell _ _ _ _ hk, fun a => by simp⟩
theorem Only.cell {b : Nat} {w w' : World} (h : Only b w w') {p : Addr} (hp : p.block ≠ b) : w'.cell? p = w.cell? p := World.cell?_of_block (w := w) (h.block p.block hp)
theorem Row.of_cells {w w' : World} {a : Option Addr} {n : Nat} {xs : List Int} (h : Row w a n xs) (hc : ∀ x, a = some x → ∀ p : Addr, p.block = x.block → w'.cell? p = w.cell? p) : Row w' a n xs := by
 refine ⟨h.1, fun i hi => ?_⟩
 obtain ⟨b, off, rfl, e⟩ := h.2 i hi
 exact ⟨b, off, rfl, (hc _ rfl ⟨b, off + i, none⟩ rfl).trans e⟩
theorem cell_lt {w : World} {p : Addr} {v : Value} (h : w.cell? p = some v) : p.block < w.heap.size := by
 cases hh : w.heap[p.block]? with
 | none => simp [World.cell?, hh] at h
 | some o => exact (Array.getElem?_eq_some_iff.1 hh).1
theorem Row.below {w w' : World} {B : Nat} {a : Option Addr} {n : Nat} {xs : List Int} (h : Row w a n xs) (hb : Below B w w') (ha : ∀ x, a = some x → x.block < B) : Row w' a n xs :=
 h.of_cells fun x hx p hp => hb.cell (by rw [hp]; exact ha x hx)
theorem bel_drewN {B : Nat} {a w : World} (h : Below B a w) (n : Nat) : Below B a (w.drewN n) := h.trans ⟨rfl, rfl, rfl, Nat.le_refl _, fun _ _ => rfl⟩
def IsRow (k : IntKind) (w : World) (a : Option Addr) (len cap : Nat) (zs : List Int) : Prop :=
 (a = none ∧ len = 0 ∧ cap = 0 ∧ zs = []) ∨
 ∃ x, a = some x ∧ len ≤ cap ∧ cap ≤ maxLen ∧ zs.length = cap ∧ (∀ i, i < zs.length → w.cell? (x.add i) = some (.int k (zs.getD i 0))) ∧ ∀ n ∈ zs, (Lit.int k n).wf = true
theorem row_of_isRow {w : World} {a : Option Addr} {len cap : Nat} {zs : List Int} (h : IsRow .u8 w a len cap zs) : Row w a len (zs.take len) ∧ len ≤ maxLen ∧ ∀ x, a = some x → 0 < len → x.block < w.heap.size := by
 rcases h with ⟨rfl, rfl, rfl, rfl⟩ | ⟨x, rfl, hl, hm, hz, hcell, _⟩
 ·exact ⟨⟨rfl, fun i hi => absurd hi (Nat.not_lt_zero _)⟩, by unfold maxLen; omega, fun x hx => by cases hx⟩
 ·have key : ∀ i, i < len → ∃ b off, some x = some ⟨b, off, none⟩ ∧ w.cell? ⟨b, off + i, none⟩ = some (.int .u8 ((zs.take len).getD i 0)) := fun i hi => by
   have h0 := hcell i (by omega)
   obtain ⟨b, off, spot⟩ := x
   have hs : spot = none := by simpa [Addr.add] using World.cell?_spot (hcell 0 (by omega))
   subst hs
   refine ⟨b, off, rfl, ?_⟩
   have e : (⟨b, off, none⟩ : Addr).add i = ⟨b, off + i, none⟩ := by unfold Addr.add; split <;> simp_all
   rw [e] at h0
   rw [h0]
   simp [List.getD, hi]
  refine ⟨⟨by simp; omega, key⟩, by omega, fun y hy hp => ?_⟩
  cases hy
  obtain ⟨b, off, e, hc⟩ := key 0 hp
  cases e
  exact cell_lt hc
theorem bytes_of_isRow {w : World} {a : Option Addr} {len cap : Nat} {zs : List Int} (h : IsRow .u8 w a len cap zs) : ∀ i, i < len → 0 ≤ (zs.take len).getD i 0 ∧ (zs.take len).getD i 0 ≤ 255 := by
 intro i hi
 rcases h with ⟨rfl, rfl, rfl, rfl⟩ | ⟨x, rfl, hl, hm, hz, _, hw⟩
 ·exact absurd hi (Nat.not_lt_zero _)
 ·have hi2 : i < zs.length := by omega
  have e : (zs.take len).getD i 0 = zs[i] := by simp [List.getD, hi, hi2]
  rw [e]
  have := hw zs[i] (List.getElem_mem hi2)
  simpa [Lit.wf, IntKind.min, IntKind.max, IntKind.signed, IntKind.bits] using this
structure Wrote (g : Nat) (w w' : World) : Prop where
 os : w'.os = w.os
 tape : w'.tape = w.tape
 output : w'.output = w.output
 size : w.heap.size ≤ w'.heap.size
 block : ∀ k, k ≠ g → k < w.heap.size → w'.heap[k]? = w.heap[k]?
theorem Wrote.refl (g : Nat) (w : World) : Wrote g w w := ⟨rfl, rfl, rfl, Nat.le_refl _, fun _ _ _ => rfl⟩
theorem Wrote.trans {g : Nat} {w1 w2 w3 : World} (h : Wrote g w1 w2) (k : Wrote g w2 w3) : Wrote g w1 w3 :=
 ⟨k.os.trans h.os, k.tape.trans h.tape, k.output.trans h.output, Nat.le_trans h.size k.size, fun i hi hl => (k.block i hi (Nat.lt_of_lt_of_le hl h.size)).trans (h.block i hi hl)⟩
theorem Wrote.of_below {g : Nat} {w w' : World} (h : Below w.heap.size w w') : Wrote g w w' := ⟨h.os, h.tape, h.output, h.size, fun k _ hl => h.block k hl⟩
theorem Wrote.below {g B : Nat} {w w' : World} (h : Wrote g w w') (hB : B ≤ g) (hs : B ≤ w.heap.size) : Below B w w' :=
 ⟨h.os, h.tape, h.output, h.size, fun k hk => h.block k (by omega) (by omega)⟩
theorem Only.wrote {g : Nat} {w w' : World} (h : Only g w w') : Wrote g w w' := ⟨h.os, h.tape, h.output, by rw [h.size]; exact Nat.le_refl _, fun k hk _ => h.block k hk⟩
theorem Wrote.alloc (w : World) (g : Nat) (o : Obj) : Wrote g w (w.alloc o) := Wrote.of_below ((Below.refl _ _).alloc (Nat.le_refl _) _)
theorem cells_new {w : World} {vs : List Value} {t : TypeId} : ∀ j u, vs[j]? = some u → (w.alloc (.cells vs.toArray t)).cell? ((⟨w.heap.size, 0, none⟩ : Addr).add j) = some u := by
 intro j u hj
 have e : (⟨w.heap.size, 0, none⟩ : Addr).add j = ⟨w.heap.size, j, none⟩ := by unfold Addr.add; split <;> simp_all
 rw [e]; simp [hj]
end Go.Proofs.YtdnjgbckkmbmfaaGreat
