/-
  Rows of records: their cells, rows that the call owns, filled one by one (Session).
-/
import Derived.Test.YtfajenejngddeaaGreatSlT
namespace Go.Proofs.YtfajenejngddeaaGreat
open Go.RowKit

structure SesR where
  o : Bool
  t : Int
  ws : Sl
/-- The record as it lies in memory. -/
def sv (d : SesR) : Value := .agg #[.bool d.o, .int .i64 d.t, .slice d.ws.a d.ws.n d.ws.c]
/-- A slice of records as it reads. -/
def SRow (w : World) (a : Option Addr) (n : Nat) (ds : List SesR) : Prop :=
  ds.length = n ∧ ∀ i (hi : i < ds.length), ∃ b off, a = some ⟨b, off, none⟩ ∧ w.cell? ⟨b, off + i * 3, none⟩ = some (.bool ds[i].o) ∧ w.cell? ⟨b, off + i * 3 + 1, none⟩ = some (.int .i64 ds[i].t) ∧ w.cell? ⟨b, off + i * 3 + 2, none⟩ = some (.slice ds[i].ws.a ds[i].ws.n ds[i].ws.c)
theorem SRow.below {w w' : World} {a : Option Addr} {n : Nat} {ds : List SesR} (h : SRow w a n ds) (hb : Below w.heap.size w w') : SRow w' a n ds := by
  refine ⟨h.1, fun i hi => ?_⟩
  obtain ⟨b, off, e, c0, c1, c2⟩ := h.2 i hi
  have hbl : b < w.heap.size := cell_lt c0
  exact ⟨b, off, e, (hb.cell (p := ⟨b, off + i * 3, none⟩) hbl).trans c0, (hb.cell (p := ⟨b, off + i * 3 + 1, none⟩) hbl).trans c1, (hb.cell (p := ⟨b, off + i * 3 + 2, none⟩) hbl).trans c2⟩
/-- The cells of records. -/
def scs : List SesR → List Value
  | [] => []
  | d :: r => .bool d.o :: .int .i64 d.t :: .slice d.ws.a d.ws.n d.ws.c :: scs r
theorem scs_len : ∀ ds : List SesR, (scs ds).length = ds.length * 3
  | [] => rfl
  | d :: r => by simp only [scs, List.length_cons, scs_len r]; omega
theorem scs_append : ∀ a b : List SesR, scs (a ++ b) = scs a ++ scs b
  | [], _ => rfl
  | d :: r, b => by simp only [List.cons_append, scs, scs_append r b]
theorem scs_at : ∀ (ds : List SesR) (i : Nat) (hi : i < ds.length), (scs ds)[i * 3]? = some (.bool ds[i].o) ∧ (scs ds)[i * 3 + 1]? = some (.int .i64 ds[i].t) ∧ (scs ds)[i * 3 + 2]? = some (.slice ds[i].ws.a ds[i].ws.n ds[i].ws.c)
  | [], _, hi => by simp at hi
  | d :: r, 0, _ => ⟨rfl, rfl, rfl⟩
  | d :: r, i + 1, hi => by
    have h := scs_at r i (by simpa using hi)
    rw [show (i + 1) * 3 = i * 3 + 1 + 1 + 1 by omega, show i * 3 + 1 + 1 + 1 + 2 = i * 3 + 2 + 1 + 1 + 1 by omega]
    simp only [scs, List.getElem?_cons_succ, List.getElem_cons_succ]
    exact h
theorem scs_one (ds : List SesR) : ∀ u ∈ scs ds, u.oneCell' = true := by
  induction ds with
  | nil => intro u hu; simp [scs] at hu
  | cons e r ih =>
    intro u hu
    simp only [scs, List.mem_cons] at hu
    rcases hu with rfl | rfl | rfl | hu
    · rfl
    · rfl
    · rfl
    · exact ih u hu
/-- A slice of records that the call owns from block B on. -/
abbrev SOwns (w : World) (B : Nat) (v : Value) (ds : List SesR) : Prop := w.ownsRow B 93 3 v ds.length (scs ds)
theorem srow_of_owns {w : World} {B n c : Nat} {a : Option Addr} {ds : List SesR} (h : SOwns w B (.slice a n c) ds) : SRow w a n ds := by
  have h' := h
  obtain ⟨hl, h⟩ := h
  rcases h with ⟨e, hn⟩ | ⟨g, cap, cur, e, hb, hh, hc, hm, hs, ht⟩
  · injection e with e1 e2 e3
    subst e1 e2 e3
    exact ⟨hn, fun i hi => absurd hi (by omega)⟩
  · injection e with e1 e2 e3
    subst e1 e2 e3
    refine ⟨rfl, fun i hi => ⟨g, 0, rfl, ?_, ?_, ?_⟩⟩
    · rw [Nat.zero_add, h'.cellAt (i * 3) (by omega), (scs_at ds i hi).1]
    · rw [Nat.zero_add, h'.cellAt (i * 3 + 1) (by omega), (scs_at ds i hi).2.1]
    · rw [Nat.zero_add, h'.cellAt (i * 3 + 2) (by omega), (scs_at ds i hi).2.2]
theorem sowns_below {w w' : World} {B : Nat} {v : Value} {ds : List SesR} (h : SOwns w B v ds) (hb : Below w.heap.size w w') : SOwns w' B v ds := rb_ownsRow_below h hb
def noS : SesR := ⟨false, 0, ⟨none, 0, 0⟩⟩
end Go.Proofs.YtfajenejngddeaaGreat
