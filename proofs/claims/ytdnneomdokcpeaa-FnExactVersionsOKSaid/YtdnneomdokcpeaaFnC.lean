/-
  Rows of records: their cells, rows that the call owns, filled one by one (Fence).
-/
import Derived.Test.YtdnneomdokcpeaaRowB
namespace Go.Proofs.Ytdnneomdokcpeaa
open Go.RowKit

structure FenD where
  f : ByteArray
  u : ByteArray
  t : Int
/-- The record as it lies in memory. -/
def fncV (d : FenD) : Value := .agg #[.string d.f, .string d.u, .int .i64 d.t]
/-- A slice of records as it reads. -/
def FRow (w : World) (a : Option Addr) (n : Nat) (ds : List FenD) : Prop :=
  ds.length = n ∧ ∀ i (hi : i < ds.length), ∃ b off, a = some ⟨b, off, none⟩ ∧ w.cell? ⟨b, off + i * 3, none⟩ = some (.string ds[i].f) ∧ w.cell? ⟨b, off + i * 3 + 1, none⟩ = some (.string ds[i].u) ∧ w.cell? ⟨b, off + i * 3 + 2, none⟩ = some (.int .i64 ds[i].t)
theorem FRow.below {w w' : World} {a : Option Addr} {n : Nat} {ds : List FenD} (h : FRow w a n ds) (hb : Below w.heap.size w w') : FRow w' a n ds := by
  refine ⟨h.1, fun i hi => ?_⟩
  obtain ⟨b, off, e, c0, c1, c2⟩ := h.2 i hi
  have hbl : b < w.heap.size := cell_lt c0
  exact ⟨b, off, e, (hb.cell (p := ⟨b, off + i * 3, none⟩) hbl).trans c0, (hb.cell (p := ⟨b, off + i * 3 + 1, none⟩) hbl).trans c1, (hb.cell (p := ⟨b, off + i * 3 + 2, none⟩) hbl).trans c2⟩
/-- The cells of records. -/
def fcs : List FenD → List Value
  | [] => []
  | d :: r => .string d.f :: .string d.u :: .int .i64 d.t :: fcs r
theorem fcs_len : ∀ ds : List FenD, (fcs ds).length = ds.length * 3
  | [] => rfl
  | d :: r => by simp only [fcs, List.length_cons, fcs_len r]; omega
theorem fcs_append : ∀ a b : List FenD, fcs (a ++ b) = fcs a ++ fcs b
  | [], _ => rfl
  | d :: r, b => by simp only [List.cons_append, fcs, fcs_append r b]
theorem fcs_at : ∀ (ds : List FenD) (i : Nat) (hi : i < ds.length), (fcs ds)[i * 3]? = some (.string ds[i].f) ∧ (fcs ds)[i * 3 + 1]? = some (.string ds[i].u) ∧ (fcs ds)[i * 3 + 2]? = some (.int .i64 ds[i].t)
  | [], _, hi => by simp at hi
  | d :: r, 0, _ => ⟨rfl, rfl, rfl⟩
  | d :: r, i + 1, hi => by
    have h := fcs_at r i (by simpa using hi)
    rw [show (i + 1) * 3 = i * 3 + 1 + 1 + 1 by omega, show i * 3 + 1 + 1 + 1 + 2 = i * 3 + 2 + 1 + 1 + 1 by omega]
    simp only [fcs, List.getElem?_cons_succ, List.getElem_cons_succ]
    exact h
theorem fcs_set (ds : List FenD) (i : Nat) (d : FenD) : fcs (ds.set i d) = ((((fcs ds).set (i * 3) (.string d.f)).set (i * 3 + 1) (.string d.u)).set (i * 3 + 2) (.int .i64 d.t)) := by
  induction ds generalizing i with
  | nil => rfl
  | cons x r ih =>
    cases i with
    | zero => rfl
    | succ i =>
      rw [List.set_cons_succ, show (i + 1) * 3 = i * 3 + 1 + 1 + 1 by omega, show i * 3 + 1 + 1 + 1 + 2 = i * 3 + 2 + 1 + 1 + 1 by omega]
      simp only [fcs, List.set_cons_succ, ih]
theorem fcs_one (ds : List FenD) : ∀ u ∈ fcs ds, u.oneCell' = true := by
  induction ds with
  | nil => intro u hu; simp [fcs] at hu
  | cons e r ih =>
    intro u hu
    simp only [fcs, List.mem_cons] at hu
    rcases hu with rfl | rfl | rfl | hu
    · rfl
    · rfl
    · rfl
    · exact ih u hu
/-- A slice of records that the call owns from block B on. -/
abbrev FOwns (w : World) (B : Nat) (v : Value) (ds : List FenD) : Prop := w.ownsRow B 74 3 v ds.length (fcs ds)
theorem frow_of_owns {w : World} {B n c : Nat} {a : Option Addr} {ds : List FenD} (h : FOwns w B (.slice a n c) ds) : FRow w a n ds := by
  have h' := h
  obtain ⟨hl, h⟩ := h
  rcases h with ⟨e, hn⟩ | ⟨g, cap, cur, e, hb, hh, hc, hm, hs, ht⟩
  · injection e with e1 e2 e3
    subst e1 e2 e3
    exact ⟨hn, fun i hi => absurd hi (by omega)⟩
  · injection e with e1 e2 e3
    subst e1 e2 e3
    refine ⟨rfl, fun i hi => ⟨g, 0, rfl, ?_, ?_, ?_⟩⟩
    · rw [Nat.zero_add, h'.cellAt (i * 3) (by omega), (fcs_at ds i hi).1]
    · rw [Nat.zero_add, h'.cellAt (i * 3 + 1) (by omega), (fcs_at ds i hi).2.1]
    · rw [Nat.zero_add, h'.cellAt (i * 3 + 2) (by omega), (fcs_at ds i hi).2.2]
theorem fowns_below {w w' : World} {B : Nat} {v : Value} {ds : List FenD} (h : FOwns w B v ds) (hb : Below w.heap.size w w') : FOwns w' B v ds := rb_ownsRow_below h hb
def noF : FenD := ⟨ByteArray.empty, ByteArray.empty, 0⟩
/-- The first k of a list, the rest empty. -/
def filF (ds : List FenD) (k : Nat) : List FenD := ds.take k ++ List.replicate (ds.length - k) noF
theorem filF_len (ds : List FenD) {k : Nat} (h : k ≤ ds.length) : (filF ds k).length = ds.length := by unfold filF; simp; omega
theorem filF_all (ds : List FenD) : filF ds ds.length = ds := by unfold filF; simp
theorem filF_set (ds : List FenD) (k : Nat) (h : k < ds.length) : (filF ds k).set k ds[k] = filF ds (k + 1) := rb_fil_set ds noF k h
theorem fcs_rep : ∀ n : Nat, fcs (List.replicate n noF) = (List.replicate n [Value.string ByteArray.empty, .string ByteArray.empty, .int .i64 0]).flatten
  | 0 => rfl
  | n + 1 => by rw [List.replicate_succ, List.replicate_succ, List.flatten_cons, ← fcs_rep n]; rfl
theorem fmade (x0 x1 x2 : Value) : ∀ n : Nat, (madeCells #[x0, x1, x2] (n * 3)).toList = (List.replicate n [x0, x1, x2]).flatten := by
  intro n
  apply List.ext_getElem?
  intro j
  rw [show ∀ (k : Nat), (madeCells #[x0, x1, x2] (n * 3)).toList[k]? = if k < n * 3 then some (#[x0, x1, x2][k % 3]!) else none from fun k => by
    by_cases hk : k < n * 3 <;> simp [madeCells, hk]]
  induction n generalizing j with
  | zero => simp
  | succ n ih =>
    rw [List.replicate_succ, List.flatten_cons]
    match j with
    | 0 => simp
    | 1 => rw [if_pos (by omega)]; rfl
    | 2 => rw [if_pos (by omega)]; rfl
    | j + 3 =>
      rw [show ([x0, x1, x2] ++ (List.replicate n [x0, x1, x2]).flatten)[j + 3]? = (List.replicate n [x0, x1, x2]).flatten[j]? from rfl, ← ih j, Nat.add_mod_right]
      by_cases hj : j < n * 3
      · rw [if_pos hj, if_pos (by omega)]
      · rw [if_neg hj, if_neg (by omega)]
theorem fowns_made {w : World} {B g n : Nat} {ds : List FenD} (hn : ds.length = n) (h : w.ownsRow B 74 3 (.slice (some ⟨g, 0, none⟩) n n) n (madeCells #[Value.string ByteArray.empty, .string ByteArray.empty, .int .i64 0] (n * 3)).toList) : FOwns w B (.slice (some ⟨g, 0, none⟩) n n) (filF ds 0) := by
  rw [fmade, ← fcs_rep] at h
  unfold FOwns filF
  rw [List.take_zero, List.nil_append, Nat.sub_zero, List.length_replicate, hn]
  exact h
theorem fowns_at {w : World} {B g n c : Nat} {ds : List FenD} (h : FOwns w B (.slice (some ⟨g, 0, none⟩) n c) ds) (i : Nat) (hi : i < ds.length) : w.cell? ⟨g, i * 3, none⟩ = some (.string ds[i].f) ∧ w.cell? ⟨g, i * 3 + 1, none⟩ = some (.string ds[i].u) ∧ w.cell? ⟨g, i * 3 + 2, none⟩ = some (.int .i64 ds[i].t) := by
  obtain rfl := (frow_of_owns h).1
  exact ⟨(h.cellAt (i * 3) (by omega)).trans (fcs_at _ i hi).1, (h.cellAt (i * 3 + 1) (by omega)).trans (fcs_at _ i hi).2.1, (h.cellAt (i * 3 + 2) (by omega)).trans (fcs_at _ i hi).2.2⟩
theorem fowns_fz {w : World} {B g n c : Nat} {ds : List FenD} (h : FOwns w B (.slice (some ⟨g, 0, none⟩) n c) ds) (j : Nat) : w.frozen? ⟨g, j, none⟩ = false := by
  obtain rfl := (frow_of_owns h).1
  exact h.frozenAt j
/-- A record stored at a place. -/
theorem fowns_store {w : World} {B g n c : Nat} {ds : List FenD} (h : FOwns w B (.slice (some ⟨g, 0, none⟩) n c) ds) (i : Nat) (d : FenD) :
    FOwns (((w.setCell ⟨g, i * 3, none⟩ (.string d.f)).setCell ⟨g, i * 3 + 1, none⟩ (.string d.u)).setCell ⟨g, i * 3 + 2, none⟩ (.int .i64 d.t)) B (.slice (some ⟨g, 0, none⟩) n c) (ds.set i d) := by
  obtain rfl := (frow_of_owns h).1
  obtain ⟨o1, _⟩ := World.ownsRow.stored h (i * 3) (.string d.f)
  obtain ⟨o2, _⟩ := World.ownsRow.stored o1 (i * 3 + 1) (.string d.u)
  obtain ⟨o3, _⟩ := World.ownsRow.stored o2 (i * 3 + 2) (.int .i64 d.t)
  unfold FOwns
  rw [fcs_set, List.length_set]
  exact o3
end Go.Proofs.Ytdnneomdokcpeaa
