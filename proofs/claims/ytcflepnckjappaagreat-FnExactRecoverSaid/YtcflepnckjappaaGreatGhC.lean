/-
  Rows of records: their cells, rows that the call owns, filled one by one (Image).
-/
import Derived.Test.YtcflepnckjappaaGreatSlT
namespace Go.Proofs.YtcflepnckjappaaGreat
open Go.RowKit

structure ImR where
  id : Int
  gone : Bool
  d : Sl
/-- The record as it lies in memory. -/
def gv (d : ImR) : Value := .agg #[.int .i64 d.id, .bool d.gone, .slice d.d.a d.d.n d.d.c]
/-- A slice of records as it reads. -/
def GRow (w : World) (a : Option Addr) (n : Nat) (ds : List ImR) : Prop :=
  ds.length = n ∧ ∀ i (hi : i < ds.length), ∃ b off, a = some ⟨b, off, none⟩ ∧ w.cell? ⟨b, off + i * 3, none⟩ = some (.int .i64 ds[i].id) ∧ w.cell? ⟨b, off + i * 3 + 1, none⟩ = some (.bool ds[i].gone) ∧ w.cell? ⟨b, off + i * 3 + 2, none⟩ = some (.slice ds[i].d.a ds[i].d.n ds[i].d.c)
theorem GRow.below {w w' : World} {a : Option Addr} {n : Nat} {ds : List ImR} (h : GRow w a n ds) (hb : Below w.heap.size w w') : GRow w' a n ds := by
  refine ⟨h.1, fun i hi => ?_⟩
  obtain ⟨b, off, e, c0, c1, c2⟩ := h.2 i hi
  have hbl : b < w.heap.size := cell_lt c0
  exact ⟨b, off, e, (hb.cell (p := ⟨b, off + i * 3, none⟩) hbl).trans c0, (hb.cell (p := ⟨b, off + i * 3 + 1, none⟩) hbl).trans c1, (hb.cell (p := ⟨b, off + i * 3 + 2, none⟩) hbl).trans c2⟩
/-- The cells of records. -/
def gcs : List ImR → List Value
  | [] => []
  | d :: r => .int .i64 d.id :: .bool d.gone :: .slice d.d.a d.d.n d.d.c :: gcs r
theorem gcs_len : ∀ ds : List ImR, (gcs ds).length = ds.length * 3
  | [] => rfl
  | d :: r => by simp only [gcs, List.length_cons, gcs_len r]; omega
theorem gcs_append : ∀ a b : List ImR, gcs (a ++ b) = gcs a ++ gcs b
  | [], _ => rfl
  | d :: r, b => by simp only [List.cons_append, gcs, gcs_append r b]
theorem gcs_at : ∀ (ds : List ImR) (i : Nat) (hi : i < ds.length), (gcs ds)[i * 3]? = some (.int .i64 ds[i].id) ∧ (gcs ds)[i * 3 + 1]? = some (.bool ds[i].gone) ∧ (gcs ds)[i * 3 + 2]? = some (.slice ds[i].d.a ds[i].d.n ds[i].d.c)
  | [], _, hi => by simp at hi
  | d :: r, 0, _ => ⟨rfl, rfl, rfl⟩
  | d :: r, i + 1, hi => by
    have h := gcs_at r i (by simpa using hi)
    rw [show (i + 1) * 3 = i * 3 + 1 + 1 + 1 by omega, show i * 3 + 1 + 1 + 1 + 2 = i * 3 + 2 + 1 + 1 + 1 by omega]
    simp only [gcs, List.getElem?_cons_succ, List.getElem_cons_succ]
    exact h
theorem gcs_set (ds : List ImR) (i : Nat) (d : ImR) : gcs (ds.set i d) = ((((gcs ds).set (i * 3) (.int .i64 d.id)).set (i * 3 + 1) (.bool d.gone)).set (i * 3 + 2) (.slice d.d.a d.d.n d.d.c)) := by
  induction ds generalizing i with
  | nil => rfl
  | cons x r ih =>
    cases i with
    | zero => rfl
    | succ i =>
      rw [List.set_cons_succ, show (i + 1) * 3 = i * 3 + 1 + 1 + 1 by omega, show i * 3 + 1 + 1 + 1 + 2 = i * 3 + 2 + 1 + 1 + 1 by omega]
      simp only [gcs, List.set_cons_succ, ih]
theorem gcs_one (ds : List ImR) : ∀ u ∈ gcs ds, u.oneCell' = true := by
  induction ds with
  | nil => intro u hu; simp [gcs] at hu
  | cons e r ih =>
    intro u hu
    simp only [gcs, List.mem_cons] at hu
    rcases hu with rfl | rfl | rfl | hu
    · rfl
    · rfl
    · rfl
    · exact ih u hu
/-- A slice of records that the call owns from block B on. -/
abbrev GOwns (w : World) (B : Nat) (v : Value) (ds : List ImR) : Prop := w.ownsRow B 72 3 v ds.length (gcs ds)
theorem grow_of_owns {w : World} {B n c : Nat} {a : Option Addr} {ds : List ImR} (h : GOwns w B (.slice a n c) ds) : GRow w a n ds := by
  have h' := h
  obtain ⟨hl, h⟩ := h
  rcases h with ⟨e, hn⟩ | ⟨g, cap, cur, e, hb, hh, hc, hm, hs, ht⟩
  · injection e with e1 e2 e3
    subst e1 e2 e3
    exact ⟨hn, fun i hi => absurd hi (by omega)⟩
  · injection e with e1 e2 e3
    subst e1 e2 e3
    refine ⟨rfl, fun i hi => ⟨g, 0, rfl, ?_, ?_, ?_⟩⟩
    · rw [Nat.zero_add, h'.cellAt (i * 3) (by omega), (gcs_at ds i hi).1]
    · rw [Nat.zero_add, h'.cellAt (i * 3 + 1) (by omega), (gcs_at ds i hi).2.1]
    · rw [Nat.zero_add, h'.cellAt (i * 3 + 2) (by omega), (gcs_at ds i hi).2.2]
theorem gowns_at {w : World} {B g n c : Nat} {ds : List ImR} (h : GOwns w B (.slice (some ⟨g, 0, none⟩) n c) ds) (i : Nat) (hi : i < ds.length) : w.cell? ⟨g, i * 3, none⟩ = some (.int .i64 ds[i].id) ∧ w.cell? ⟨g, i * 3 + 1, none⟩ = some (.bool ds[i].gone) ∧ w.cell? ⟨g, i * 3 + 2, none⟩ = some (.slice ds[i].d.a ds[i].d.n ds[i].d.c) := by
  obtain rfl := (grow_of_owns h).1
  exact ⟨(h.cellAt (i * 3) (by omega)).trans (gcs_at _ i hi).1, (h.cellAt (i * 3 + 1) (by omega)).trans (gcs_at _ i hi).2.1, (h.cellAt (i * 3 + 2) (by omega)).trans (gcs_at _ i hi).2.2⟩
end Go.Proofs.YtcflepnckjappaaGreat
