/-
  Rows of records: their cells, rows that the call owns, filled one by one (Ref).
-/
import Derived.Test.YtbhkmmdcdfjbkaaRowB
namespace Go.Proofs.Ytbhkmmdcdfjbkaa
open Go.RowKit

structure RefD where
  low : ByteArray
  id : Int
/-- The record as it lies in memory. -/
def jv (d : RefD) : Value := .agg #[.string d.low, .int .i64 d.id]
/-- A slice of records as it reads. -/
def JRow (w : World) (a : Option Addr) (n : Nat) (ds : List RefD) : Prop :=
  ds.length = n ∧ ∀ i (hi : i < ds.length), ∃ b off, a = some ⟨b, off, none⟩ ∧ w.cell? ⟨b, off + i * 2, none⟩ = some (.string ds[i].low) ∧ w.cell? ⟨b, off + i * 2 + 1, none⟩ = some (.int .i64 ds[i].id)
theorem JRow.below {w w' : World} {a : Option Addr} {n : Nat} {ds : List RefD} (h : JRow w a n ds) (hb : Below w.heap.size w w') : JRow w' a n ds := by
  refine ⟨h.1, fun i hi => ?_⟩
  obtain ⟨b, off, e, c0, c1⟩ := h.2 i hi
  have hbl : b < w.heap.size := cell_lt c0
  exact ⟨b, off, e, (hb.cell (p := ⟨b, off + i * 2, none⟩) hbl).trans c0, (hb.cell (p := ⟨b, off + i * 2 + 1, none⟩) hbl).trans c1⟩
/-- The cells of records. -/
def jcs : List RefD → List Value
  | [] => []
  | d :: r => .string d.low :: .int .i64 d.id :: jcs r
theorem jcs_len : ∀ ds : List RefD, (jcs ds).length = ds.length * 2
  | [] => rfl
  | d :: r => by simp only [jcs, List.length_cons, jcs_len r]; omega
theorem jcs_append : ∀ a b : List RefD, jcs (a ++ b) = jcs a ++ jcs b
  | [], _ => rfl
  | d :: r, b => by simp only [List.cons_append, jcs, jcs_append r b]
theorem jcs_at : ∀ (ds : List RefD) (i : Nat) (hi : i < ds.length), (jcs ds)[i * 2]? = some (.string ds[i].low) ∧ (jcs ds)[i * 2 + 1]? = some (.int .i64 ds[i].id)
  | [], _, hi => by simp at hi
  | d :: r, 0, _ => ⟨rfl, rfl⟩
  | d :: r, i + 1, hi => by
    have h := jcs_at r i (by simpa using hi)
    rw [show (i + 1) * 2 = i * 2 + 1 + 1 by omega]
    simp only [jcs, List.getElem?_cons_succ, List.getElem_cons_succ]
    exact h
theorem jcs_set (ds : List RefD) (i : Nat) (d : RefD) : jcs (ds.set i d) = (((jcs ds).set (i * 2) (.string d.low)).set (i * 2 + 1) (.int .i64 d.id)) := by
  induction ds generalizing i with
  | nil => rfl
  | cons x r ih =>
    cases i with
    | zero => rfl
    | succ i =>
      rw [List.set_cons_succ, show (i + 1) * 2 = i * 2 + 1 + 1 by omega]
      simp only [jcs, List.set_cons_succ, ih]
theorem jcs_one (ds : List RefD) : ∀ u ∈ jcs ds, u.oneCell' = true := by
  induction ds with
  | nil => intro u hu; simp [jcs] at hu
  | cons e r ih =>
    intro u hu
    simp only [jcs, List.mem_cons] at hu
    rcases hu with rfl | rfl | hu
    · rfl
    · rfl
    · exact ih u hu
/-- A slice of records that the call owns from block B on. -/
abbrev JOwns (w : World) (B : Nat) (v : Value) (ds : List RefD) : Prop := w.ownsRow B 53 2 v ds.length (jcs ds)
theorem jrow_of_owns {w : World} {B n c : Nat} {a : Option Addr} {ds : List RefD} (h : JOwns w B (.slice a n c) ds) : JRow w a n ds := by
  have h' := h
  obtain ⟨hl, h⟩ := h
  rcases h with ⟨e, hn⟩ | ⟨g, cap, cur, e, hb, hh, hc, hm, hs, ht⟩
  · injection e with e1 e2 e3
    subst e1 e2 e3
    exact ⟨hn, fun i hi => absurd hi (by omega)⟩
  · injection e with e1 e2 e3
    subst e1 e2 e3
    refine ⟨rfl, fun i hi => ⟨g, 0, rfl, ?_, ?_⟩⟩
    · rw [Nat.zero_add, h'.cellAt (i * 2) (by omega), (jcs_at ds i hi).1]
    · rw [Nat.zero_add, h'.cellAt (i * 2 + 1) (by omega), (jcs_at ds i hi).2]
theorem jowns_at {w : World} {B g n c : Nat} {ds : List RefD} (h : JOwns w B (.slice (some ⟨g, 0, none⟩) n c) ds) (i : Nat) (hi : i < ds.length) : w.cell? ⟨g, i * 2, none⟩ = some (.string ds[i].low) ∧ w.cell? ⟨g, i * 2 + 1, none⟩ = some (.int .i64 ds[i].id) := by
  obtain rfl := (jrow_of_owns h).1
  exact ⟨(h.cellAt (i * 2) (by omega)).trans (jcs_at _ i hi).1, (h.cellAt (i * 2 + 1) (by omega)).trans (jcs_at _ i hi).2⟩
theorem jowns_fz {w : World} {B g n c : Nat} {ds : List RefD} (h : JOwns w B (.slice (some ⟨g, 0, none⟩) n c) ds) (j : Nat) : w.frozen? ⟨g, j, none⟩ = false := by
  obtain rfl := (jrow_of_owns h).1
  exact h.frozenAt j
/-- A record stored at a place. -/
theorem jowns_store {w : World} {B g n c : Nat} {ds : List RefD} (h : JOwns w B (.slice (some ⟨g, 0, none⟩) n c) ds) (i : Nat) (d : RefD) :
    JOwns ((w.setCell ⟨g, i * 2, none⟩ (.string d.low)).setCell ⟨g, i * 2 + 1, none⟩ (.int .i64 d.id)) B (.slice (some ⟨g, 0, none⟩) n c) (ds.set i d) := by
  obtain rfl := (jrow_of_owns h).1
  obtain ⟨o1, _⟩ := World.ownsRow.stored h (i * 2) (.string d.low)
  obtain ⟨o2, _⟩ := World.ownsRow.stored o1 (i * 2 + 1) (.int .i64 d.id)
  unfold JOwns
  rw [jcs_set, List.length_set]
  exact o2
end Go.Proofs.Ytbhkmmdcdfjbkaa
