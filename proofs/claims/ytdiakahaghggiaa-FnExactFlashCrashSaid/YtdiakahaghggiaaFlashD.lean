/-
  Devices as they lie in memory: what is held, and the sectors that wait.
-/
import Derived.Test.YtdiakahaghggiaaOwn
import Derived.Test.YtdiakahaghggiaaSec
namespace Go.Proofs.Ytdiakahaghggiaa
open Go.RowKit

theorem row_grow {w w' : World} {a : Option Addr} {n : Nat} {xs : List Int} (h : Row w a n xs) (hb : Below w.heap.size w w') : Row w' a n xs := by
  refine ⟨h.1, fun i hi => ?_⟩
  obtain ⟨b, off, e, hc⟩ := h.2 i hi
  exact ⟨b, off, e, (hb.cell (p := ⟨b, off + i, none⟩) (cell_lt hc)).trans hc⟩
theorem cell_new {w : World} {cs : Array Value} {t : TypeId} {g j : Nat} (hg : g = w.heap.size) : (w.alloc (.cells cs t)).cell? ⟨g, j, none⟩ = cs[j]? := by subst hg; simp
theorem cell_old {w : World} {o : Obj} {p : Addr} (h : p.block < w.heap.size) : (w.alloc o).cell? p = w.cell? p := World.cell?_alloc_lt _ _ _ h
theorem frozen_new {w : World} {cs : Array Value} {t : TypeId} {g j : Nat} (hg : g = w.heap.size) : (w.alloc (.cells cs t)).frozen? ⟨g, j, none⟩ = false := by subst hg; simp
theorem frozen_old {w : World} {o : Obj} {p : Addr} (h : p.block < w.heap.size) : (w.alloc o).frozen? p = w.frozen? p := World.frozen?_alloc_past _ _ _ h
/-- A slice of sectors with their numbers, as it reads. -/
def WRow (w : World) (a : Option Addr) (n : Nat) (ws : List WD) : Prop :=
  ws.length = n ∧ ∀ i (hi : i < ws.length), ∃ b off, a = some ⟨b, off, none⟩ ∧ w.cell? ⟨b, off + i * 2, none⟩ = some (.int .i64 ws[i].at_) ∧
    ∃ a' c', w.cell? ⟨b, off + i * 2 + 1, none⟩ = some (.slice a' ws[i].xs.length c') ∧ (ws[i].xs.length ≤ maxLen ∧ ws[i].xs.length ≤ c') ∧ Row w a' ws[i].xs.length ws[i].xs
theorem WRow.below {w w' : World} {a : Option Addr} {n : Nat} {ws : List WD} (h : WRow w a n ws) (hb : Below w.heap.size w w') : WRow w' a n ws := by
  refine ⟨h.1, fun i hi => ?_⟩
  obtain ⟨b, off, e, c0, a', c', c1, hm, hr⟩ := h.2 i hi
  have hbl : b < w.heap.size := cell_lt c0
  exact ⟨b, off, e, (hb.cell (p := ⟨b, off + i * 2, none⟩) hbl).trans c0, a', c', (hb.cell (p := ⟨b, off + i * 2 + 1, none⟩) hbl).trans c1, hm, row_grow hr hb⟩
/-- A sector with its number as a value. -/
abbrev wv (x : Int) (a : Option Addr) (n c : Nat) : Value := .agg #[.int .i64 x, .slice a n c]
abbrev fv (ah : Option Addr) (nh ch : Nat) (aw : Option Addr) (nw cw : Nat) : Value := .agg #[.slice ah nh ch, .slice aw nw cw]
theorem Try.infoWrite : (Try.prog.info? 62).map (fun i => (i.zero, i.size, i.bytes)) = some (some (.agg #[.int .i64 0, .slice none 0 0]), 2, 32) := by kernel_rfl

/-- A block of n sectors that the call itself laid: their numbers and bytes (W), where each lies (A), each in a block of its own. -/
structure WOwn (w : World) (g n : Nat) (W : Nat → WD) (A : Nat → Option Addr) (C : Nat → Nat) : Prop where
  lt : g < w.heap.size
  free : ∀ j, w.frozen? ⟨g, j, none⟩ = false
  at_ : ∀ i, i < n → w.cell? ⟨g, i * 2, none⟩ = some (.int .i64 (W i).at_)
  data : ∀ i, i < n → w.cell? ⟨g, i * 2 + 1, none⟩ = some (.slice (A i) (W i).xs.length (C i))
  len : ∀ i, i < n → (W i).xs.length ≤ maxLen ∧ (W i).xs.length ≤ C i
  row : ∀ i, i < n → Row w (A i) (W i).xs.length (W i).xs
  own : ∀ i, i < n → ∀ x, A i = some x → x.block ≠ g ∧ x.block < w.heap.size ∧ ∀ j, w.frozen? ⟨x.block, j, none⟩ = false
  apart : ∀ i j, i < n → j < n → i ≠ j → ∀ x y, A i = some x → A j = some y → x.block ≠ y.block
theorem WOwn.below {w w' : World} {g n : Nat} {W : Nat → WD} {A : Nat → Option Addr} {C : Nat → Nat} (h : WOwn w g n W A C) (hb : Below w.heap.size w w') : WOwn w' g n W A C :=
  ⟨Nat.lt_of_lt_of_le h.lt hb.size, fun j => (hb.frozen (p := ⟨g, j, none⟩) h.lt).trans (h.free j), fun i hi => (hb.cell (p := ⟨g, i * 2, none⟩) h.lt).trans (h.at_ i hi),
    fun i hi => (hb.cell (p := ⟨g, i * 2 + 1, none⟩) h.lt).trans (h.data i hi), h.len, fun i hi => row_grow (h.row i hi) hb,
    fun i hi x hx => ⟨(h.own i hi x hx).1, Nat.lt_of_lt_of_le (h.own i hi x hx).2.1 hb.size, fun j => (hb.frozen (p := ⟨x.block, j, none⟩) (h.own i hi x hx).2.1).trans ((h.own i hi x hx).2.2 j)⟩, h.apart⟩
/-- The blocks of S hold what they held. -/
def Kept (S : Nat → Prop) (w w' : World) : Prop := w.heap.size ≤ w'.heap.size ∧ ∀ k, S k → k < w.heap.size → w'.heap[k]? = w.heap[k]?
theorem Kept.refl (S : Nat → Prop) (w : World) : Kept S w w := ⟨Nat.le_refl _, fun _ _ _ => rfl⟩
theorem Kept.trans {S : Nat → Prop} {w1 w2 w3 : World} (h : Kept S w1 w2) (k : Kept S w2 w3) : Kept S w1 w3 := ⟨Nat.le_trans h.1 k.1, fun i hi hl => (k.2 i hi (Nat.lt_of_lt_of_le hl h.1)).trans (h.2 i hi hl)⟩
theorem Kept.set {S : Nat → Prop} {b : Nat} (h : ¬ S b) (w : World) (o : Nat) (v : Value) : Kept S w (w.setCell ⟨b, o, none⟩ v) := ⟨by simp [World.setCell], fun k hk _ => Below.heap_setCell _ _ _ _ (fun e => h (by simp only at e; rw [← e]; exact hk))⟩
theorem Kept.of_below {S : Nat → Prop} {B : Nat} {w w' : World} (h : Below B w w') (hS : ∀ k, S k → k < w.heap.size → k < B) : Kept S w w' := ⟨h.size, fun k hk hl => h.block k (hS k hk hl)⟩
theorem Kept.grow {S : Nat → Prop} {w w' : World} (h : Below w.heap.size w w') : Kept S w w' := Kept.of_below h (fun _ _ hl => hl)
theorem Kept.mono {S T : Nat → Prop} {w w' : World} (h : Kept S w w') (hS : ∀ k, T k → S k) : Kept T w w' := ⟨h.1, fun k hk hl => h.2 k (hS k hk) hl⟩
theorem Kept.cell {S : Nat → Prop} {w w' : World} (h : Kept S w w') {p : Addr} (hp : S p.block) (hl : p.block < w.heap.size) : w'.cell? p = w.cell? p := World.cell?_of_block (w := w) (h.2 p.block hp hl)
theorem Kept.frozen {S : Nat → Prop} {w w' : World} (h : Kept S w w') {p : Addr} (hp : S p.block) (hl : p.block < w.heap.size) : w'.frozen? p = w.frozen? p := by
  simp [World.frozen?, h.2 p.block hp hl]
theorem Kept.row {S : Nat → Prop} {w w' : World} {a : Option Addr} {n : Nat} {xs : List Int} (hk : Kept S w w') (h : Row w a n xs) (ha : ∀ x, a = some x → S x.block) : Row w' a n xs := by
  refine ⟨h.1, fun i hi => ?_⟩
  obtain ⟨b, off, e, hc⟩ := h.2 i hi
  have hb : S b := ha ⟨b, off, none⟩ e
  exact ⟨b, off, e, (hk.cell (p := ⟨b, off + i, none⟩) hb (cell_lt hc)).trans hc⟩
theorem WOwn.kept {S : Nat → Prop} {w w' : World} {g n : Nat} {W : Nat → WD} {A : Nat → Option Addr} {C : Nat → Nat} (h : WOwn w g n W A C) (hk : Kept S w w') (hg : S g) (hA : ∀ i, i < n → ∀ x, A i = some x → S x.block) : WOwn w' g n W A C :=
  ⟨Nat.lt_of_lt_of_le h.lt hk.1, fun j => (hk.frozen (p := ⟨g, j, none⟩) hg h.lt).trans (h.free j), fun i hi => (hk.cell (p := ⟨g, i * 2, none⟩) hg h.lt).trans (h.at_ i hi),
    fun i hi => (hk.cell (p := ⟨g, i * 2 + 1, none⟩) hg h.lt).trans (h.data i hi), h.len, fun i hi => hk.row (h.row i hi) (hA i hi),
    fun i hi x hx => ⟨(h.own i hi x hx).1, Nat.lt_of_lt_of_le (h.own i hi x hx).2.1 hk.1, fun j => (hk.frozen (p := ⟨x.block, j, none⟩) (hA i hi x hx) (h.own i hi x hx).2.1).trans ((h.own i hi x hx).2.2 j)⟩, h.apart⟩
theorem WOwn.wrow {w : World} {g n : Nat} {W : Nat → WD} {A : Nat → Option Addr} {C : Nat → Nat} {ws : List WD} (h : WOwn w g n W A C) (hl : ws.length = n) (hW : ∀ i (hi : i < ws.length), W i = ws[i]) : WRow w (some ⟨g, 0, none⟩) n ws := by
  refine ⟨hl, fun i hi => ⟨g, 0, rfl, ?_⟩⟩
  have hi' : i < n := by omega
  have e := hW i hi
  rw [← e, Nat.zero_add]
  exact ⟨h.at_ i hi', A i, C i, h.data i hi', h.len i hi', h.row i hi'⟩
def updW (W : Nat → WD) (k : Nat) (d : WD) : Nat → WD := fun i => if i = k then d else W i
def updA (A : Nat → Option Addr) (k : Nat) (a : Option Addr) : Nat → Option Addr := fun i => if i = k then a else A i
def updC (A : Nat → Nat) (k : Nat) (a : Nat) : Nat → Nat := fun i => if i = k then a else A i
/-- One more is laid: a new row of bytes. -/
theorem WOwn.lay {w : World} {g n k B : Nat} {W : Nat → WD} {A : Nat → Option Addr} {C : Nat → Nat} (h : WOwn w g n W A C) (hk : k < n) (hg : g < B) (hA : ∀ i, i < n → ∀ x, A i = some x → x.block < B) {d : WD} {a : Option Addr} {c : Nat} (hm : Mine w B (.slice a d.xs.length c) d.xs) :
    WOwn ((w.setCell ⟨g, k * 2, none⟩ (.int .i64 d.at_)).setCell ⟨g, k * 2 + 1, none⟩ (.slice a d.xs.length c)) g n (updW W k d) (updA A k a) (updC C k c) := by
  obtain ⟨a1, c1, e, hc1, hc2, hr, ho⟩ := hm
  injection e with e1 e2 e3
  subst e1 e3
  have s0 : w.cell? ⟨g, k * 2, none⟩ = some (.int .i64 (W k).at_) := h.at_ k hk
  have s1 : w.cell? ⟨g, k * 2 + 1, none⟩ = some (.slice (A k) (W k).xs.length (C k)) := h.data k hk
  have ne : ∀ p q : Nat, p ≠ q → (⟨g, p, none⟩ : Addr) ≠ ⟨g, q, none⟩ := fun p q hpq e => hpq (by injection e)
  have nb : ∀ p : Addr, p.block ≠ g → ((w.setCell ⟨g, k * 2, none⟩ (.int .i64 d.at_)).setCell ⟨g, k * 2 + 1, none⟩ (.slice a d.xs.length c)).cell? p = w.cell? p := fun p hp => by
    rw [World.cell?_setCell_other _ _ _ _ (by intro e; rw [← e] at hp; exact hp rfl), World.cell?_setCell_other _ _ _ _ (by intro e; rw [← e] at hp; exact hp rfl)]
  refine ⟨by simpa using h.lt, fun j => by simpa using h.free j, fun i hi => ?_, fun i hi => ?_, fun i hi => ?_, fun i hi => ?_, fun i hi x hx => ?_, fun i j hi hj hij x y hx hy => ?_⟩
  · unfold updW
    by_cases e : i = k
    · subst e
      rw [if_pos rfl, World.cell?_setCell_other _ _ _ _ (ne _ _ (by omega))]
      exact World.cell?_setCell_same _ _ _ s0
    · rw [if_neg e, World.cell?_setCell_other _ _ _ _ (ne _ _ (by omega)), World.cell?_setCell_other _ _ _ _ (ne _ _ (by omega))]
      exact h.at_ i hi
  · unfold updW updA updC
    by_cases e : i = k
    · subst e
      rw [if_pos rfl, if_pos rfl, if_pos rfl]
      exact World.cell?_setCell_same _ _ _ ((World.cell?_setCell_other _ _ _ _ (ne _ _ (by omega))).trans s1)
    · rw [if_neg e, if_neg e, if_neg e, World.cell?_setCell_other _ _ _ _ (ne _ _ (by omega)), World.cell?_setCell_other _ _ _ _ (ne _ _ (by omega))]
      exact h.data i hi
  · unfold updW updC
    by_cases e : i = k
    · rw [if_pos e, if_pos e]; omega
    · rw [if_neg e, if_neg e]; exact h.len i hi
  · unfold updW updA
    by_cases e : i = k
    · rw [if_pos e, if_pos e]
      exact hr.of_cells fun x hx p hp => nb p (by rw [hp]; have := (ho x hx).1; omega)
    · rw [if_neg e, if_neg e]
      exact (h.row i hi).of_cells fun x hx p hp => nb p (by rw [hp]; exact (h.own i hi x hx).1)
  · unfold updA at hx
    by_cases e : i = k
    · rw [if_pos e] at hx
      have := ho x hx
      exact ⟨by omega, by simpa using this.2.1, fun j => by simpa using this.2.2 j⟩
    · rw [if_neg e] at hx
      have := h.own i hi x hx
      exact ⟨this.1, by simpa using this.2.1, fun j => by simpa using this.2.2 j⟩
  · unfold updA at hx hy
    by_cases e : i = k
    · rw [if_pos e] at hx
      rw [if_neg (by omega)] at hy
      have h1 := (ho x hx).1
      have h2 := hA j hj y hy
      omega
    · rw [if_neg e] at hx
      by_cases e2 : j = k
      · rw [if_pos e2] at hy
        have h1 := (ho y hy).1
        have h2 := hA i hi x hx
        omega
      · rw [if_neg e2] at hy
        exact h.apart i j hi hj hij x y hx hy
end Go.Proofs.Ytdiakahaghggiaa
