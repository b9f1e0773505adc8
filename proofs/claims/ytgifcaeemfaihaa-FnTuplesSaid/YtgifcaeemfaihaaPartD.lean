/-
  Parts as they lie in memory.
-/
import Derived.Test.YtgifcaeemfaihaaOwn
import Derived.WalkLawsBesides
set_option maxRecDepth 100000
namespace Go.Proofs.Ytgifcaeemfaihaa
open Go.RowKit

theorem run_store_float (P : Program) (w : World) (a : Addr) (m : Mode) (k : FloatKind) (b : Nat) : (store a (.float k b) m).run P w = stored P w a (.float k b) m := run_store P w a _ m rfl

/-- A part: its Kind, its number, its float's bits, its text. -/
structure PartD where
  k : Int
  n : Int
  f : Nat
  t : ByteArray

/-- A slice of parts as it reads. -/
def PRow (w : World) (a : Option Addr) (n : Nat) (ps : List PartD) : Prop :=
  ps.length = n ∧ ∀ i (hi : i < ps.length), ∃ b off, a = some ⟨b, off, none⟩ ∧ w.cell? ⟨b, off + i * 4, none⟩ = some (.int .i64 ps[i].k) ∧ w.cell? ⟨b, off + i * 4 + 1, none⟩ = some (.int .i64 ps[i].n) ∧
    w.cell? ⟨b, off + i * 4 + 2, none⟩ = some (.float .f64 ps[i].f) ∧ w.cell? ⟨b, off + i * 4 + 3, none⟩ = some (.string ps[i].t)

theorem PRow.below {w w' : World} {a : Option Addr} {n : Nat} {ps : List PartD} (h : PRow w a n ps) (hb : Below w.heap.size w w') : PRow w' a n ps := by
  refine ⟨h.1, fun i hi => ?_⟩
  obtain ⟨b, off, e, c0, c1, c2, c3⟩ := h.2 i hi
  have hbl : b < w.heap.size := cell_lt c0
  exact ⟨b, off, e, (hb.cell (p := ⟨b, off + i * 4, none⟩) hbl).trans c0, (hb.cell (p := ⟨b, off + i * 4 + 1, none⟩) hbl).trans c1, (hb.cell (p := ⟨b, off + i * 4 + 2, none⟩) hbl).trans c2, (hb.cell (p := ⟨b, off + i * 4 + 3, none⟩) hbl).trans c3⟩
/-- A part as a value. -/
abbrev pv (d : PartD) : Value := .agg #[.int .i64 d.k, .int .i64 d.n, .float .f64 d.f, .string d.t]

theorem Try.infoPart : (Try.prog.info? 47).map (fun i => (i.zero, i.size, i.bytes)) = some (some (.agg #[.int .i64 0, .int .i64 0, .float .f64 0, .string ByteArray.empty]), 4, 40) := by kernel_rfl

/-- N cells of a block, none of them frozen. -/
structure Blk (w : World) (g N : Nat) (F : Nat → Value) : Prop where
  cell : ∀ j, j < N → w.cell? ⟨g, j, none⟩ = some (F j)
  free : ∀ j, w.frozen? ⟨g, j, none⟩ = false
  lt : g < w.heap.size
theorem Blk.below {w w' : World} {g N : Nat} {F : Nat → Value} {B : Nat} (h : Blk w g N F) (hb : Below B w w') (hg : g < B) : Blk w' g N F :=
  ⟨fun j hj => (hb.cell (p := ⟨g, j, none⟩) hg).trans (h.cell j hj), fun j => (hb.frozen (p := ⟨g, j, none⟩) hg).trans (h.free j), Nat.lt_of_lt_of_le h.lt hb.size⟩
theorem Blk.set {w : World} {g N p : Nat} {F : Nat → Value} (h : Blk w g N F) (hp : p < N) (v : Value) : Blk (w.setCell ⟨g, p, none⟩ v) g N (fun j => if j = p then v else F j) := by
  refine ⟨fun j hj => ?_, fun j => by simpa using h.free j, by simpa using h.lt⟩
  by_cases e : j = p
  · subst e
    rw [if_pos rfl]
    exact World.cell?_setCell_same _ _ _ (h.cell j hj)
  · rw [if_neg e]
    exact (World.cell?_setCell_other _ _ _ _ (by intro h; simp only [Addr.mk.injEq] at h; omega)).trans (h.cell j hj)
theorem PRow.wrote {w w' : World} {g : Nat} {a : Option Addr} {n : Nat} {ps : List PartD} (h : PRow w a n ps) (hw : Wrote g w w') (ha : ∀ x, a = some x → x.block ≠ g) : PRow w' a n ps := by
  refine ⟨h.1, fun i hi => ?_⟩
  obtain ⟨b, off, e, c0, c1, c2, c3⟩ := h.2 i hi
  have hbl : b < w.heap.size := cell_lt c0
  have hne : b ≠ g := ha _ e
  exact ⟨b, off, e, (hw.cell (p := ⟨b, off + i * 4, none⟩) hne hbl).trans c0, (hw.cell (p := ⟨b, off + i * 4 + 1, none⟩) hne hbl).trans c1, (hw.cell (p := ⟨b, off + i * 4 + 2, none⟩) hne hbl).trans c2, (hw.cell (p := ⟨b, off + i * 4 + 3, none⟩) hne hbl).trans c3⟩
end Go.Proofs.Ytgifcaeemfaihaa
