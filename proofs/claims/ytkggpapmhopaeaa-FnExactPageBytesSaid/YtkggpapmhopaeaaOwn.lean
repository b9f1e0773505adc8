/-
  Plain facts on memory: rows of bytes, what a call owns, what it leaves alone.
-/
import Derived.Test.YtkggpapmhopaeaaBase
namespace Go.Proofs.Ytkggpapmhopaeaa
open Go.RowKit

/-- A slice of bytes as it reads: n bytes, the numbers xs; its address matters only where it holds something. -/
def Row (w : World) (a : Option Addr) (n : Nat) (xs : List Int) : Prop :=
  xs.length = n ∧ ∀ i, i < n → ∃ b off, a = some ⟨b, off, none⟩ ∧ w.cell? ⟨b, off + i, none⟩ = some (.int .u8 (xs.getD i 0))
/-- Block b alone may hold otherwise; no cell has been frozen or let go. -/
structure Only (b : Nat) (w w' : World) : Prop where
  os : w'.os = w.os
  tape : w'.tape = w.tape
  output : w'.output = w.output
  size : w'.heap.size = w.heap.size
  block : ∀ k, k ≠ b → w'.heap[k]? = w.heap[k]?
  frozen : ∀ a, w'.frozen? a = w.frozen? a
theorem Only.refl (b : Nat) (w : World) : Only b w w := ⟨rfl, rfl, rfl, rfl, fun _ _ => rfl, fun _ => rfl⟩
theorem Only.trans {b : Nat} {w1 w2 w3 : World} (h : Only b w1 w2) (k : Only b w2 w3) : Only b w1 w3 :=
  ⟨k.os.trans h.os, k.tape.trans h.tape, k.output.trans h.output, k.size.trans h.size, fun i hi => (k.block i hi).trans (h.block i hi), fun a => (k.frozen a).trans (h.frozen a)⟩
theorem Only.setCell (w : World) (b o : Nat) (v : Value) : Only b w (w.setCell ⟨b, o, none⟩ v) :=
  ⟨rfl, rfl, rfl, by simp [World.setCell], fun k hk => Below.heap_setCell _ _ _ _ hk, fun a => by simp⟩
theorem Only.below {b B : Nat} {w w' : World} (h : Only b w w') (hB : B ≤ b) : Below B w w' :=
  ⟨h.os, h.tape, h.output, by rw [h.size]; exact Nat.le_refl _, fun k hk => h.block k (by omega)⟩
theorem Only.cell {b : Nat} {w w' : World} (h : Only b w w') {p : Addr} (hp : p.block ≠ b) : w'.cell? p = w.cell? p := World.cell?_of_block (w := w) (h.block p.block hp)
theorem Row.of_cells {w w' : World} {a : Option Addr} {n : Nat} {xs : List Int} (h : Row w a n xs) (hc : ∀ x, a = some x → ∀ p : Addr, p.block = x.block → w'.cell? p = w.cell? p) : Row w' a n xs := by
  refine ⟨h.1, fun i hi => ?_⟩
  obtain ⟨b, off, rfl, e⟩ := h.2 i hi
  exact ⟨b, off, rfl, (hc _ rfl ⟨b, off + i, none⟩ rfl).trans e⟩
theorem Try.infoU8 : (Try.prog.info? 5).map (fun i => (i.zero, i.size, i.bytes)) = some (some (.int .u8 0), 1, 1) := by kernel_rfl
/-- A slice of bytes that the call itself made, from block 'base' on: its bytes xs, none of them frozen. -/
def Mine (w : World) (base : Nat) (v : Value) (xs : List Int) : Prop :=
  ∃ a c, v = .slice a xs.length c ∧ xs.length ≤ c ∧ c ≤ maxLen ∧ Row w a xs.length xs ∧ (∀ x, a = some x → base ≤ x.block ∧ x.block < w.heap.size ∧ ∀ j, w.frozen? ⟨x.block, j, none⟩ = false)
theorem mine_of_owns {w : World} {base e : Nat} {v : Value} {xs : List Int} (h : w.ownsRow base e 1 v xs.length (xs.map (Value.int .u8))) : Mine w base v xs := by
  obtain ⟨_, h⟩ := h
  rcases h with ⟨rfl, hn⟩ | ⟨g, cap, cur, rfl, hb, hh, hc, hm, hs, ht⟩
  · obtain rfl : xs = [] := List.eq_nil_of_length_eq_zero hn
    exact ⟨none, 0, rfl, Nat.le_refl _, by unfold maxLen; omega, ⟨rfl, fun i hi => absurd hi (Nat.not_lt_zero _)⟩, fun x hx => by cases hx⟩
  · have hown : w.ownsRow base e 1 (.slice (some ⟨g, 0, none⟩) xs.length cap) xs.length (xs.map (Value.int .u8)) := ⟨by simp, .inr ⟨g, cap, cur, rfl, hb, hh, hc, hm, hs, ht⟩⟩
    refine ⟨_, cap, rfl, hc, hm, ⟨rfl, fun i hi => ⟨g, 0, rfl, ?_⟩⟩, fun x hx => ?_⟩
    · have := hown.cellAt i (by omega)
      rw [Nat.zero_add, this]
      simp [List.getD, hi]
    · cases hx
      refine ⟨hb, ?_, fun j => hown.frozenAt j⟩
      exact (Array.getElem?_eq_some_iff.1 hh).1
theorem mine_mono {w : World} {B C : Nat} {v : Value} {xs : List Int} (h : Mine w B v xs) (hc : C ≤ B) : Mine w C v xs := by
  obtain ⟨a, c, e, h1, h2, h3, h4⟩ := h
  exact ⟨a, c, e, h1, h2, h3, fun x hx => ⟨Nat.le_trans hc (h4 x hx).1, (h4 x hx).2⟩⟩
theorem cell_lt {w : World} {p : Addr} {v : Value} (h : w.cell? p = some v) : p.block < w.heap.size := by
  cases hh : w.heap[p.block]? with
  | none => simp [World.cell?, hh] at h
  | some o => exact (Array.getElem?_eq_some_iff.1 hh).1
theorem Row.below {w w' : World} {B : Nat} {a : Option Addr} {n : Nat} {xs : List Int} (h : Row w a n xs) (hb : Below B w w') (ha : ∀ x, a = some x → x.block < B) : Row w' a n xs :=
  h.of_cells fun x hx p hp => hb.cell (by rw [hp]; exact ha x hx)
theorem Row.drewN {w : World} {k : Nat} {a : Option Addr} {n : Nat} {xs : List Int} (h : Row w a n xs) : Row (w.drewN k) a n xs := h
theorem bel_drewN {B : Nat} {a w : World} (h : Below B a w) (n : Nat) : Below B a (w.drewN n) := h.trans ⟨rfl, rfl, rfl, Nat.le_refl _, fun _ _ => rfl⟩
/-- Nothing is written but in the block that an address leads to. -/
def Touch (a : Option Addr) (w w' : World) : Prop := w' = w ∨ ∃ x, a = some x ∧ Only x.block w w'
theorem Touch.below {a : Option Addr} {w w' : World} {B : Nat} (h : Touch a w w') (ha : ∀ x, a = some x → B ≤ x.block) : Below B w w' := by
  rcases h with rfl | ⟨x, hx, ho⟩
  · exact Below.refl _ _
  · exact ho.below (ha x hx)
theorem Touch.size {a : Option Addr} {w w' : World} (h : Touch a w w') : w'.heap.size = w.heap.size := by
  rcases h with rfl | ⟨x, hx, ho⟩
  · rfl
  · exact ho.size
theorem Row.touch {w w' : World} {a a1 : Option Addr} {n : Nat} {xs : List Int} (h : Row w a n xs) (ht : Touch a1 w w') (ha : ∀ x y, a = some x → a1 = some y → x.block ≠ y.block) : Row w' a n xs := by
  rcases ht with rfl | ⟨y, hy, ho⟩
  · exact h
  · exact h.of_cells fun x hx p hp => ho.cell (by rw [hp]; exact ha x y hx hy)
/-- A slice of integers that came in: nil, or a row of 'cap' cells whose first 'len' are its elements. -/
def IsRow (k : IntKind) (w : World) (a : Option Addr) (len cap : Nat) (zs : List Int) : Prop :=
  (a = none ∧ len = 0 ∧ cap = 0 ∧ zs = []) ∨
  ∃ x, a = some x ∧ len ≤ cap ∧ cap ≤ maxLen ∧ zs.length = cap ∧ (∀ i, i < zs.length → w.cell? (x.add i) = some (.int k (zs.getD i 0))) ∧ ∀ n ∈ zs, (Lit.int k n).wf = true
theorem row_of_isRow {w : World} {a : Option Addr} {len cap : Nat} {zs : List Int} (h : IsRow .u8 w a len cap zs) : Row w a len (zs.take len) ∧ len ≤ maxLen ∧ ∀ x, a = some x → 0 < len → x.block < w.heap.size := by
  rcases h with ⟨rfl, rfl, rfl, rfl⟩ | ⟨x, rfl, hl, hm, hz, hcell, _⟩
  · exact ⟨⟨rfl, fun i hi => absurd hi (Nat.not_lt_zero _)⟩, by unfold maxLen; omega, fun x hx => by cases hx⟩
  · have key : ∀ i, i < len → ∃ b off, some x = some ⟨b, off, none⟩ ∧ w.cell? ⟨b, off + i, none⟩ = some (.int .u8 ((zs.take len).getD i 0)) := fun i hi => by
      have h0 := hcell i (by omega)
      obtain ⟨b, off, spot⟩ := x
      have hs : spot = none := by simpa [Addr.add] using World.cell?_spot (hcell 0 (by omega))
      subst hs
      refine ⟨b, off, rfl, ?_⟩
      have e : (⟨b, off, none⟩ : Addr).add i = ⟨b, off + i, none⟩ := by unfold Addr.add; split <;> simp_all
      rw [e] at h0
      rw [h0]
      simp [List.getD, hi]
    refine ⟨⟨by simp; omega, key⟩, by omega, fun y hy hp => ?_⟩
    cases hy
    obtain ⟨b, off, e, hc⟩ := key 0 hp
    cases e
    exact cell_lt hc
theorem bytes_of_isRow {w : World} {a : Option Addr} {len cap : Nat} {zs : List Int} (h : IsRow .u8 w a len cap zs) : ∀ i, i < len → 0 ≤ (zs.take len).getD i 0 ∧ (zs.take len).getD i 0 ≤ 255 := by
  intro i hi
  rcases h with ⟨rfl, rfl, rfl, rfl⟩ | ⟨x, rfl, hl, hm, hz, _, hw⟩
  · exact absurd hi (Nat.not_lt_zero _)
  · have hi2 : i < zs.length := by omega
    have e : (zs.take len).getD i 0 = zs[i] := by simp [List.getD, hi, hi2]
    rw [e]
    have := hw zs[i] (List.getElem_mem hi2)
    simpa [Lit.wf, IntKind.min, IntKind.max, IntKind.signed, IntKind.bits] using this
theorem row_alloc {w : World} {o : Obj} {a : Option Addr} {n : Nat} {xs : List Int} (h : Row w a n xs) : Row (w.alloc o) a n xs := by
  refine ⟨h.1, fun i hi => ?_⟩
  obtain ⟨b, off, e, hc⟩ := h.2 i hi
  have hb : Below w.heap.size w (w.alloc o) := (Below.refl _ _).alloc (Nat.le_refl _) _
  exact ⟨b, off, e, (hb.cell (p := ⟨b, off + i, none⟩) (cell_lt hc)).trans hc⟩
theorem one_u8 (x : Int) : ∀ u ∈ [Value.int .u8 x], u.oneCell' = true := by intro u hu; simp at hu; subst hu; rfl
/-- A slice of bytes that the call owns from block B on. -/
abbrev Owns (w : World) (B : Nat) (v : Value) (xs : List Int) : Prop := w.ownsRow B 5 1 v xs.length (xs.map (Value.int .u8))
theorem below_app {B : Nat} {w wr w1 : World} {n : Nat} {v : Value} {c : Array Value} {t : TypeId} {xs : List Value} (hb : Below B w wr) (hB : B ≤ wr.heap.size) (hown : wr.ownsRow B 5 1 v n xs) (hg : (wr.alloc (.cells c t)).grownBy w1 v.ownBlock) : Below B w w1 :=
  (hb.alloc hB _).grown hg (by simp; omega) (fun k hk => (hown.lt k hk).1)
theorem size_app {B : Nat} {wr w1 : World} {v : Value} {c : Array Value} {t : TypeId} (hB : B ≤ wr.heap.size) (hg : (wr.alloc (.cells c t)).grownBy w1 v.ownBlock) : B ≤ w1.heap.size := by
  have := hg.size; simp at this; omega
theorem owns_app {w : World} {B : Nat} {v : Value} {xs : List Int} {x : Int} (h : w.ownsRow B 5 1 v (xs.length + 1) (xs.map (Value.int .u8) ++ [.int .u8 x])) : Owns w B v (xs ++ [x]) := by
  unfold Owns
  rw [List.length_append, List.map_append]; exact h
theorem owns_app2 {w : World} {B : Nat} {v : Value} {xs : List Int} {x y : Int} (h : w.ownsRow B 5 1 v (xs.length + 2) (xs.map (Value.int .u8) ++ [.int .u8 x, .int .u8 y])) : Owns w B v (xs ++ [x, y]) := by
  unfold Owns
  rw [List.length_append, List.map_append]; exact h
theorem cell_two {w : World} {x y : Value} {t : TypeId} : ∀ j u, [x, y][j]? = some u → (w.alloc (.cells #[x, y] t)).cell? ((⟨w.heap.size, 0, none⟩ : Addr).add j) = some u := by
  intro j u hj
  match j, hj with
  | 0, hj => simp at hj; subst hj; simp [Addr.add]
  | 1, hj => simp at hj; subst hj; simp [Addr.add]
theorem two_u8 (x y : Int) : ∀ u ∈ [Value.int .u8 x, Value.int .u8 y], u.oneCell' = true := by
  intro u hu
  simp at hu
  rcases hu with rfl | rfl <;> rfl
theorem mine_nil (w : World) (B : Nat) : Mine w B (.slice none 0 0) [] :=
  ⟨none, 0, rfl, Nat.le_refl _, by unfold maxLen; omega, ⟨rfl, fun i hi => absurd hi (Nat.not_lt_zero _)⟩, fun x hx => by cases hx⟩
theorem mine_empty {w : World} {B : Nat} (t : TypeId) (h : B ≤ w.heap.size) : Mine (w.alloc (.cells #[] t)) B (.slice (some ⟨w.heap.size, 0, none⟩) 0 0) [] :=
  mine_of_owns (e := t) (World.ownsRow_lit _ _ _ h (by unfold maxLen; simp) rfl)
theorem mine_alloc {w1 w2 : World} {t : TypeId} {B : Nat} {xs : List Int} (hB : B ≤ w1.heap.size) (hw : w2 = w1.alloc (.cells (xs.map (Value.int .u8)).toArray t)) (hl : xs.length = 8) : Mine w2 B (.slice (some ⟨w1.heap.size, 0, none⟩) 8 8) xs := by
  subst hw
  refine ⟨some ⟨w1.heap.size, 0, none⟩, 8, by rw [hl], by omega, by unfold maxLen; omega, ⟨rfl, fun i hi => ⟨_, 0, rfl, ?_⟩⟩, ?_⟩
  · simp [List.getD, hi]
  · intro x hx
    cases hx
    refine ⟨hB, by simp, fun j => by simp⟩
theorem below_append {w wr w1 : World} {e n : Nat} {v x : Value} {t : TypeId} {xs : List Value} (hb : Below w.heap.size w wr) (hown : wr.ownsRow w.heap.size e 1 v n xs) (hg : (wr.alloc (.cells #[x] t)).grownBy w1 v.ownBlock) : Below w.heap.size w w1 := by
  have hs := hb.size
  exact (hb.alloc hs _).grown hg (by simp; omega) (fun k hk => (hown.lt k hk).1)
/-- Of what was there, block g alone may hold otherwise. -/
structure Wrote (g : Nat) (w w' : World) : Prop where
  os : w'.os = w.os
  tape : w'.tape = w.tape
  output : w'.output = w.output
  size : w.heap.size ≤ w'.heap.size
  block : ∀ k, k ≠ g → k < w.heap.size → w'.heap[k]? = w.heap[k]?
theorem Wrote.refl (g : Nat) (w : World) : Wrote g w w := ⟨rfl, rfl, rfl, Nat.le_refl _, fun _ _ _ => rfl⟩
theorem Wrote.trans {g : Nat} {w1 w2 w3 : World} (h : Wrote g w1 w2) (k : Wrote g w2 w3) : Wrote g w1 w3 :=
  ⟨k.os.trans h.os, k.tape.trans h.tape, k.output.trans h.output, Nat.le_trans h.size k.size, fun i hi hl => (k.block i hi (Nat.lt_of_lt_of_le hl h.size)).trans (h.block i hi hl)⟩
theorem Wrote.of_below {g : Nat} {w w' : World} (h : Below w.heap.size w w') : Wrote g w w' := ⟨h.os, h.tape, h.output, h.size, fun k _ hl => h.block k hl⟩
theorem Wrote.set (w : World) (g p : Nat) (v : Value) : Wrote g w (w.setCell ⟨g, p, none⟩ v) :=
  ⟨rfl, rfl, rfl, by simp [World.setCell], fun k hk _ => Below.heap_setCell _ _ _ _ hk⟩
theorem Wrote.below {g B : Nat} {w w' : World} (h : Wrote g w w') (hB : B ≤ g) (hs : B ≤ w.heap.size) : Below B w w' :=
  ⟨h.os, h.tape, h.output, h.size, fun k hk => h.block k (by omega) (by omega)⟩
theorem Wrote.cell {g : Nat} {w w' : World} (h : Wrote g w w') {p : Addr} (hp : p.block ≠ g) (hl : p.block < w.heap.size) : w'.cell? p = w.cell? p := World.cell?_of_block (w := w) (h.block p.block hp hl)
theorem Row.wrote {w w' : World} {g : Nat} {a : Option Addr} {n : Nat} {xs : List Int} (h : Row w a n xs) (hw : Wrote g w w') (ha : ∀ x, a = some x → x.block ≠ g) : Row w' a n xs := by
  refine ⟨h.1, fun i hi => ?_⟩
  obtain ⟨b, off, e, hc⟩ := h.2 i hi
  have hne : b ≠ g := ha _ e
  exact ⟨b, off, e, (hw.cell (p := ⟨b, off + i, none⟩) hne (cell_lt hc)).trans hc⟩
theorem Wrote.frozen {g : Nat} {w w' : World} (h : Wrote g w w') {p : Addr} (hp : p.block ≠ g) (hl : p.block < w.heap.size) : w'.frozen? p = w.frozen? p := by
  simp [World.frozen?, h.block p.block hp hl]
theorem Only.wrote {g : Nat} {w w' : World} (h : Only g w w') : Wrote g w w' := ⟨h.os, h.tape, h.output, by rw [h.size]; exact Nat.le_refl _, fun k hk _ => h.block k hk⟩
theorem Wrote.alloc (w : World) (g : Nat) (o : Obj) : Wrote g w (w.alloc o) := Wrote.of_below ((Below.refl _ _).alloc (Nat.le_refl _) _)
theorem cells_new {w : World} {vs : List Value} {t : TypeId} : ∀ j u, vs[j]? = some u → (w.alloc (.cells vs.toArray t)).cell? ((⟨w.heap.size, 0, none⟩ : Addr).add j) = some u := by
  intro j u hj
  have e : (⟨w.heap.size, 0, none⟩ : Addr).add j = ⟨w.heap.size, j, none⟩ := by unfold Addr.add; split <;> simp_all
  rw [e]; simp [hj]
theorem cells_new1 {w : World} {o : Obj} {vs : List Value} {t : TypeId} : ∀ j u, vs[j]? = some u → ((w.alloc o).alloc (.cells vs.toArray t)).cell? ((⟨w.heap.size + 1, 0, none⟩ : Addr).add j) = some u := by
  have e : (w.alloc o).heap.size = w.heap.size + 1 := by simp
  rw [← e]; exact cells_new
theorem all_u8 (xs : List Int) : ∀ u ∈ xs.map (Value.int .u8), u.oneCell' = true := by
  intro u hu
  obtain ⟨x, _, rfl⟩ := List.mem_map.1 hu
  rfl
theorem owns_below {w w' : World} {B : Nat} {v : Value} {xs : List Int} (h : Owns w B v xs) (hb : Below w.heap.size w w') : Owns w' B v xs :=
  World.ownsRow.kept (row := none) h ⟨hb.os, hb.tape, hb.output, hb.size, fun i hi _ => hb.block i hi⟩ (by cases hv : v.ownBlock <;> simp)
theorem owns_apps {w : World} {B m : Nat} {v : Value} {xs ys : List Int} (hm : ys.length = m) (h : w.ownsRow B 5 1 v (xs.length + m) (xs.map (Value.int .u8) ++ ys.map (Value.int .u8))) : Owns w B v (xs ++ ys) := by
  subst hm
  unfold Owns
  rw [List.length_append, List.map_append]; exact h
theorem own_far {w : World} {B : Nat} {v : Value} {xs : List Int} (h : Owns w B v xs) : some w.heap.size ≠ v.ownBlock := by
  intro e
  have := (h.lt _ e.symm).2
  omega
end Go.Proofs.Ytkggpapmhopaeaa
