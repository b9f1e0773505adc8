/-
  Rows of records: their cells, rows that the call owns, filled one by one (Write).
-/
import Derived.Test.YtjhmammoakiknaaSlT
namespace Go.Proofs.Ytjhmammoakiknaa
open Go.RowKit

structure QwR where
  at_ : Int
  d : Sl
/-- The record as it lies in memory. -/
def qv (d : QwR) : Value := .agg #[.int .i64 d.at_, .slice d.d.a d.d.n d.d.c]
/-- A slice of records as it reads. -/
def QRow (w : World) (a : Option Addr) (n : Nat) (ds : List QwR) : Prop :=
  ds.length = n ∧ ∀ i (hi : i < ds.length), ∃ b off, a = some ⟨b, off, none⟩ ∧ w.cell? ⟨b, off + i * 2, none⟩ = some (.int .i64 ds[i].at_) ∧ w.cell? ⟨b, off + i * 2 + 1, none⟩ = some (.slice ds[i].d.a ds[i].d.n ds[i].d.c)
theorem QRow.below {w w' : World} {a : Option Addr} {n : Nat} {ds : List QwR} (h : QRow w a n ds) (hb : Below w.heap.size w w') : QRow w' a n ds := by
  refine ⟨h.1, fun i hi => ?_⟩
  obtain ⟨b, off, e, c0, c1⟩ := h.2 i hi
  have hbl : b < w.heap.size := cell_lt c0
  exact ⟨b, off, e, (hb.cell (p := ⟨b, off + i * 2, none⟩) hbl).trans c0, (hb.cell (p := ⟨b, off + i * 2 + 1, none⟩) hbl).trans c1⟩
/-- The cells of records. -/
def qcs : List QwR → List Value
  | [] => []
  | d :: r => .int .i64 d.at_ :: .slice d.d.a d.d.n d.d.c :: qcs r
theorem qcs_len : ∀ ds : List QwR, (qcs ds).length = ds.length * 2
  | [] => rfl
  | d :: r => by simp only [qcs, List.length_cons, qcs_len r]; omega
theorem qcs_append : ∀ a b : List QwR, qcs (a ++ b) = qcs a ++ qcs b
  | [], _ => rfl
  | d :: r, b => by simp only [List.cons_append, qcs, qcs_append r b]
theorem qcs_at : ∀ (ds : List QwR) (i : Nat) (hi : i < ds.length), (qcs ds)[i * 2]? = some (.int .i64 ds[i].at_) ∧ (qcs ds)[i * 2 + 1]? = some (.slice ds[i].d.a ds[i].d.n ds[i].d.c)
  | [], _, hi => by simp at hi
  | d :: r, 0, _ => ⟨rfl, rfl⟩
  | d :: r, i + 1, hi => by
    have h := qcs_at r i (by simpa using hi)
    rw [show (i + 1) * 2 = i * 2 + 1 + 1 by omega]
    simp only [qcs, List.getElem?_cons_succ, List.getElem_cons_succ]
    exact h
theorem qcs_set (ds : List QwR) (i : Nat) (d : QwR) : qcs (ds.set i d) = (((qcs ds).set (i * 2) (.int .i64 d.at_)).set (i * 2 + 1) (.slice d.d.a d.d.n d.d.c)) := by
  induction ds generalizing i with
  | nil => rfl
  | cons x r ih =>
    cases i with
    | zero => rfl
    | succ i =>
      rw [List.set_cons_succ, show (i + 1) * 2 = i * 2 + 1 + 1 by omega]
      simp only [qcs, List.set_cons_succ, ih]
theorem qcs_one (ds : List QwR) : ∀ u ∈ qcs ds, u.oneCell' = true := by
  induction ds with
  | nil => intro u hu; simp [qcs] at hu
  | cons e r ih =>
    intro u hu
    simp only [qcs, List.mem_cons] at hu
    rcases hu with rfl | rfl | hu
    · rfl
    · rfl
    · exact ih u hu
/-- A slice of records that the call owns from block B on. -/
abbrev QOwns (w : World) (B : Nat) (v : Value) (ds : List QwR) : Prop := w.ownsRow B 87 2 v ds.length (qcs ds)
theorem qrow_of_owns {w : World} {B n c : Nat} {a : Option Addr} {ds : List QwR} (h : QOwns w B (.slice a n c) ds) : QRow w a n ds := by
  have h' := h
  obtain ⟨hl, h⟩ := h
  rcases h with ⟨e, hn⟩ | ⟨g, cap, cur, e, hb, hh, hc, hm, hs, ht⟩
  · injection e with e1 e2 e3
    subst e1 e2 e3
    exact ⟨hn, fun i hi => absurd hi (by omega)⟩
  · injection e with e1 e2 e3
    subst e1 e2 e3
    refine ⟨rfl, fun i hi => ⟨g, 0, rfl, ?_, ?_⟩⟩
    · rw [Nat.zero_add, h'.cellAt (i * 2) (by omega), (qcs_at ds i hi).1]
    · rw [Nat.zero_add, h'.cellAt (i * 2 + 1) (by omega), (qcs_at ds i hi).2]
theorem qowns_below {w w' : World} {B : Nat} {v : Value} {ds : List QwR} (h : QOwns w B v ds) (hb : Below w.heap.size w w') : QOwns w' B v ds := rb_ownsRow_below h hb
def noQ : QwR := ⟨0, ⟨none, 0, 0⟩⟩
/-- The first k of a list, the rest empty. -/
def filQ (ds : List QwR) (k : Nat) : List QwR := ds.take k ++ List.replicate (ds.length - k) noQ
theorem filQ_len (ds : List QwR) {k : Nat} (h : k ≤ ds.length) : (filQ ds k).length = ds.length := by unfold filQ; simp; omega
theorem filQ_all (ds : List QwR) : filQ ds ds.length = ds := by unfold filQ; simp
theorem filQ_set (ds : List QwR) (k : Nat) (h : k < ds.length) : (filQ ds k).set k ds[k] = filQ ds (k + 1) := rb_fil_set ds noQ k h
theorem qcs_rep : ∀ n : Nat, qcs (List.replicate n noQ) = (List.replicate n [Value.int .i64 0, .slice none 0 0]).flatten
  | 0 => rfl
  | n + 1 => by rw [List.replicate_succ, List.replicate_succ, List.flatten_cons, ← qcs_rep n]; rfl
theorem qmade (x0 x1 : Value) : ∀ n : Nat, (madeCells #[x0, x1] (n * 2)).toList = (List.replicate n [x0, x1]).flatten := by
  intro n
  apply List.ext_getElem?
  intro j
  rw [show ∀ (k : Nat), (madeCells #[x0, x1] (n * 2)).toList[k]? = if k < n * 2 then some (#[x0, x1][k % 2]!) else none from fun k => by
    by_cases hk : k < n * 2 <;> simp [madeCells, hk]]
  induction n generalizing j with
  | zero => simp
  | succ n ih =>
    rw [List.replicate_succ, List.flatten_cons]
    match j with
    | 0 => simp
    | 1 => rw [if_pos (by omega)]; rfl
    | j + 2 =>
      rw [show ([x0, x1] ++ (List.replicate n [x0, x1]).flatten)[j + 2]? = (List.replicate n [x0, x1]).flatten[j]? from rfl, ← ih j, Nat.add_mod_right]
      by_cases hj : j < n * 2
      · rw [if_pos hj, if_pos (by omega)]
      · rw [if_neg hj, if_neg (by omega)]
theorem qowns_made {w : World} {B g n : Nat} {ds : List QwR} (hn : ds.length = n) (h : w.ownsRow B 87 2 (.slice (some ⟨g, 0, none⟩) n n) n (madeCells #[Value.int .i64 0, .slice none 0 0] (n * 2)).toList) : QOwns w B (.slice (some ⟨g, 0, none⟩) n n) (filQ ds 0) := by
  rw [qmade, ← qcs_rep] at h
  unfold QOwns filQ
  rw [List.take_zero, List.nil_append, Nat.sub_zero, List.length_replicate, hn]
  exact h
theorem qowns_at {w : World} {B g n c : Nat} {ds : List QwR} (h : QOwns w B (.slice (some ⟨g, 0, none⟩) n c) ds) (i : Nat) (hi : i < ds.length) : w.cell? ⟨g, i * 2, none⟩ = some (.int .i64 ds[i].at_) ∧ w.cell? ⟨g, i * 2 + 1, none⟩ = some (.slice ds[i].d.a ds[i].d.n ds[i].d.c) := by
  obtain rfl := (qrow_of_owns h).1
  exact ⟨(h.cellAt (i * 2) (by omega)).trans (qcs_at _ i hi).1, (h.cellAt (i * 2 + 1) (by omega)).trans (qcs_at _ i hi).2⟩
theorem qowns_fz {w : World} {B g n c : Nat} {ds : List QwR} (h : QOwns w B (.slice (some ⟨g, 0, none⟩) n c) ds) (j : Nat) : w.frozen? ⟨g, j, none⟩ = false := by
  obtain rfl := (qrow_of_owns h).1
  exact h.frozenAt j
/-- A record stored at a place. -/
theorem qowns_store {w : World} {B g n c : Nat} {ds : List QwR} (h : QOwns w B (.slice (some ⟨g, 0, none⟩) n c) ds) (i : Nat) (d : QwR) :
    QOwns ((w.setCell ⟨g, i * 2, none⟩ (.int .i64 d.at_)).setCell ⟨g, i * 2 + 1, none⟩ (.slice d.d.a d.d.n d.d.c)) B (.slice (some ⟨g, 0, none⟩) n c) (ds.set i d) := by
  obtain rfl := (qrow_of_owns h).1
  obtain ⟨o1, _⟩ := World.ownsRow.stored h (i * 2) (.int .i64 d.at_)
  obtain ⟨o2, _⟩ := World.ownsRow.stored o1 (i * 2 + 1) (.slice d.d.a d.d.n d.d.c)
  unfold QOwns
  rw [qcs_set, List.length_set]
  exact o2
end Go.Proofs.Ytjhmammoakiknaa
