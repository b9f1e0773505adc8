/-
  Rows of records: their cells, rows that the call owns, filled one by one (TxAct).
-/
import Derived.Test.YtfajenejngddeaaGreatRowB
namespace Go.Proofs.YtfajenejngddeaaGreat
open Go.RowKit

structure TxD where
  kind : Int
  ses : Int
  key : ByteArray
  to : ByteArray
  val : ByteArray
/-- The record as it lies in memory. -/
def xv (d : TxD) : Value := .agg #[.int .i64 d.kind, .int .i64 d.ses, .string d.key, .string d.to, .string d.val]
/-- A slice of records as it reads. -/
def XRow (w : World) (a : Option Addr) (n : Nat) (ds : List TxD) : Prop :=
  ds.length = n ∧ ∀ i (hi : i < ds.length), ∃ b off, a = some ⟨b, off, none⟩ ∧ w.cell? ⟨b, off + i * 5, none⟩ = some (.int .i64 ds[i].kind) ∧ w.cell? ⟨b, off + i * 5 + 1, none⟩ = some (.int .i64 ds[i].ses) ∧ w.cell? ⟨b, off + i * 5 + 2, none⟩ = some (.string ds[i].key) ∧ w.cell? ⟨b, off + i * 5 + 3, none⟩ = some (.string ds[i].to) ∧ w.cell? ⟨b, off + i * 5 + 4, none⟩ = some (.string ds[i].val)
theorem XRow.below {w w' : World} {a : Option Addr} {n : Nat} {ds : List TxD} (h : XRow w a n ds) (hb : Below w.heap.size w w') : XRow w' a n ds := by
  refine ⟨h.1, fun i hi => ?_⟩
  obtain ⟨b, off, e, c0, c1, c2, c3, c4⟩ := h.2 i hi
  have hbl : b < w.heap.size := cell_lt c0
  exact ⟨b, off, e, (hb.cell (p := ⟨b, off + i * 5, none⟩) hbl).trans c0, (hb.cell (p := ⟨b, off + i * 5 + 1, none⟩) hbl).trans c1, (hb.cell (p := ⟨b, off + i * 5 + 2, none⟩) hbl).trans c2, (hb.cell (p := ⟨b, off + i * 5 + 3, none⟩) hbl).trans c3, (hb.cell (p := ⟨b, off + i * 5 + 4, none⟩) hbl).trans c4⟩
/-- The cells of records. -/
def xcs : List TxD → List Value
  | [] => []
  | d :: r => .int .i64 d.kind :: .int .i64 d.ses :: .string d.key :: .string d.to :: .string d.val :: xcs r
theorem xcs_append : ∀ a b : List TxD, xcs (a ++ b) = xcs a ++ xcs b
  | [], _ => rfl
  | d :: r, b => by simp only [List.cons_append, xcs, xcs_append r b]
theorem xcs_at : ∀ (ds : List TxD) (i : Nat) (hi : i < ds.length), (xcs ds)[i * 5]? = some (.int .i64 ds[i].kind) ∧ (xcs ds)[i * 5 + 1]? = some (.int .i64 ds[i].ses) ∧ (xcs ds)[i * 5 + 2]? = some (.string ds[i].key) ∧ (xcs ds)[i * 5 + 3]? = some (.string ds[i].to) ∧ (xcs ds)[i * 5 + 4]? = some (.string ds[i].val)
  | [], _, hi => by simp at hi
  | d :: r, 0, _ => ⟨rfl, rfl, rfl, rfl, rfl⟩
  | d :: r, i + 1, hi => by
    have h := xcs_at r i (by simpa using hi)
    rw [show (i + 1) * 5 = i * 5 + 1 + 1 + 1 + 1 + 1 by omega, show i * 5 + 1 + 1 + 1 + 1 + 1 + 2 = i * 5 + 2 + 1 + 1 + 1 + 1 + 1 by omega, show i * 5 + 1 + 1 + 1 + 1 + 1 + 3 = i * 5 + 3 + 1 + 1 + 1 + 1 + 1 by omega, show i * 5 + 1 + 1 + 1 + 1 + 1 + 4 = i * 5 + 4 + 1 + 1 + 1 + 1 + 1 by omega]
    simp only [xcs, List.getElem?_cons_succ, List.getElem_cons_succ]
    exact h
/-- A slice of records that the call owns from block B on. -/
abbrev XOwns (w : World) (B : Nat) (v : Value) (ds : List TxD) : Prop := w.ownsRow B 64 5 v ds.length (xcs ds)
theorem xrow_of_owns {w : World} {B n c : Nat} {a : Option Addr} {ds : List TxD} (h : XOwns w B (.slice a n c) ds) : XRow w a n ds := by
  have h' := h
  obtain ⟨hl, h⟩ := h
  rcases h with ⟨e, hn⟩ | ⟨g, cap, cur, e, hb, hh, hc, hm, hs, ht⟩
  · injection e with e1 e2 e3
    subst e1 e2 e3
    exact ⟨hn, fun i hi => absurd hi (by omega)⟩
  · injection e with e1 e2 e3
    subst e1 e2 e3
    refine ⟨rfl, fun i hi => ⟨g, 0, rfl, ?_, ?_, ?_, ?_, ?_⟩⟩
    · rw [Nat.zero_add, h'.cellAt (i * 5) (by omega), (xcs_at ds i hi).1]
    · rw [Nat.zero_add, h'.cellAt (i * 5 + 1) (by omega), (xcs_at ds i hi).2.1]
    · rw [Nat.zero_add, h'.cellAt (i * 5 + 2) (by omega), (xcs_at ds i hi).2.2.1]
    · rw [Nat.zero_add, h'.cellAt (i * 5 + 3) (by omega), (xcs_at ds i hi).2.2.2.1]
    · rw [Nat.zero_add, h'.cellAt (i * 5 + 4) (by omega), (xcs_at ds i hi).2.2.2.2]
end Go.Proofs.YtfajenejngddeaaGreat
