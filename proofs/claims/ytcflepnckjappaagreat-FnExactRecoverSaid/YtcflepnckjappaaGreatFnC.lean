/-
  Rows of records: their cells, rows that the call owns, filled one by one (Fence).
-/
import Derived.Test.YtcflepnckjappaaGreatRowB
namespace Go.Proofs.YtcflepnckjappaaGreat
open Go.RowKit

structure FenD where
  f : ByteArray
  u : ByteArray
  t : Int
/-- The record as it lies in memory. -/
def fncV (d : FenD) : Value := .agg #[.string d.f, .string d.u, .int .i64 d.t]
/-- A slice of records as it reads. -/
def FRow (w : World) (a : Option Addr) (n : Nat) (ds : List FenD) : Prop :=
  ds.length = n ∧ ∀ i (hi : i < ds.length), ∃ b off, a = some ⟨b, off, none⟩ ∧ w.cell? ⟨b, off + i * 3, none⟩ = some (.string ds[i].f) ∧ w.cell? ⟨b, off + i * 3 + 1, none⟩ = some (.string ds[i].u) ∧ w.cell? ⟨b, off + i * 3 + 2, none⟩ = some (.int .i64 ds[i].t)
theorem FRow.below {w w' : World} {a : Option Addr} {n : Nat} {ds : List FenD} (h : FRow w a n ds) (hb : Below w.heap.size w w') : FRow w' a n ds := by
  refine ⟨h.1, fun i hi => ?_⟩
  obtain ⟨b, off, e, c0, c1, c2⟩ := h.2 i hi
  have hbl : b < w.heap.size := cell_lt c0
  exact ⟨b, off, e, (hb.cell (p := ⟨b, off + i * 3, none⟩) hbl).trans c0, (hb.cell (p := ⟨b, off + i * 3 + 1, none⟩) hbl).trans c1, (hb.cell (p := ⟨b, off + i * 3 + 2, none⟩) hbl).trans c2⟩
/-- The cells of records. -/
def fcs : List FenD → List Value
  | [] => []
  | d :: r => .string d.f :: .string d.u :: .int .i64 d.t :: fcs r
theorem fcs_len : ∀ ds : List FenD, (fcs ds).length = ds.length * 3
  | [] => rfl
  | d :: r => by simp only [fcs, List.length_cons, fcs_len r]; omega
theorem fcs_append : ∀ a b : List FenD, fcs (a ++ b) = fcs a ++ fcs b
  | [], _ => rfl
  | d :: r, b => by simp only [List.cons_append, fcs, fcs_append r b]
theorem fcs_at : ∀ (ds : List FenD) (i : Nat) (hi : i < ds.length), (fcs ds)[i * 3]? = some (.string ds[i].f) ∧ (fcs ds)[i * 3 + 1]? = some (.string ds[i].u) ∧ (fcs ds)[i * 3 + 2]? = some (.int .i64 ds[i].t)
  | [], _, hi => by simp at hi
  | d :: r, 0, _ => ⟨rfl, rfl, rfl⟩
  | d :: r, i + 1, hi => by
    have h := fcs_at r i (by simpa using hi)
    rw [show (i + 1) * 3 = i * 3 + 1 + 1 + 1 by omega, show i * 3 + 1 + 1 + 1 + 2 = i * 3 + 2 + 1 + 1 + 1 by omega]
    simp only [fcs, List.getElem?_cons_succ, List.getElem_cons_succ]
    exact h
theorem fcs_set (ds : List FenD) (i : Nat) (d : FenD) : fcs (ds.set i d) = ((((fcs ds).set (i * 3) (.string d.f)).set (i * 3 + 1) (.string d.u)).set (i * 3 + 2) (.int .i64 d.t)) := by
  induction ds generalizing i with
  | nil => rfl
  | cons x r ih =>
    cases i with
    | zero => rfl
    | succ i =>
      rw [List.set_cons_succ, show (i + 1) * 3 = i * 3 + 1 + 1 + 1 by omega, show i * 3 + 1 + 1 + 1 + 2 = i * 3 + 2 + 1 + 1 + 1 by omega]
      simp only [fcs, List.set_cons_succ, ih]
theorem fcs_one (ds : List FenD) : ∀ u ∈ fcs ds, u.oneCell' = true := by
  induction ds with
  | nil => intro u hu; simp [fcs] at hu
  | cons e r ih =>
    intro u hu
    simp only [fcs, List.mem_cons] at hu
    rcases hu with rfl | rfl | rfl | hu
    · rfl
    · rfl
    · rfl
    · exact ih u hu
/-- A slice of records that the call owns from block B on. -/
abbrev FOwns (w : World) (B : Nat) (v : Value) (ds : List FenD) : Prop := w.ownsRow B 232 3 v ds.length (fcs ds)
theorem frow_of_owns {w : World} {B n c : Nat} {a : Option Addr} {ds : List FenD} (h : FOwns w B (.slice a n c) ds) : FRow w a n ds := by
  have h' := h
  obtain ⟨hl, h⟩ := h
  rcases h with ⟨e, hn⟩ | ⟨g, cap, cur, e, hb, hh, hc, hm, hs, ht⟩
  · injection e with e1 e2 e3
    subst e1 e2 e3
    exact ⟨hn, fun i hi => absurd hi (by omega)⟩
  · injection e with e1 e2 e3
    subst e1 e2 e3
    refine ⟨rfl, fun i hi => ⟨g, 0, rfl, ?_, ?_, ?_⟩⟩
    · rw [Nat.zero_add, h'.cellAt (i * 3) (by omega), (fcs_at ds i hi).1]
    · rw [Nat.zero_add, h'.cellAt (i * 3 + 1) (by omega), (fcs_at ds i hi).2.1]
    · rw [Nat.zero_add, h'.cellAt (i * 3 + 2) (by omega), (fcs_at ds i hi).2.2]
theorem fowns_below {w w' : World} {B : Nat} {v : Value} {ds : List FenD} (h : FOwns w B v ds) (hb : Below w.heap.size w w') : FOwns w' B v ds := rb_ownsRow_below h hb
end Go.Proofs.YtcflepnckjappaaGreat
