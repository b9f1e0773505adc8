/-
  Rows of records: their cells, rows that the call owns, filled one by one (Session).
-/
import Derived.Test.YtdnneomdokcpeaaSlT
namespace Go.Proofs.Ytdnneomdokcpeaa
open Go.RowKit

structure SesR where
  o : Bool
  t : Int
  ws : Sl
/-- The record as it lies in memory. -/
def sv (d : SesR) : Value := .agg #[.bool d.o, .int .i64 d.t, .slice d.ws.a d.ws.n d.ws.c]
/-- A slice of records as it reads. -/
def SRow (w : World) (a : Option Addr) (n : Nat) (ds : List SesR) : Prop :=
  ds.length = n ∧ ∀ i (hi : i < ds.length), ∃ b off, a = some ⟨b, off, none⟩ ∧ w.cell? ⟨b, off + i * 3, none⟩ = some (.bool ds[i].o) ∧ w.cell? ⟨b, off + i * 3 + 1, none⟩ = some (.int .i64 ds[i].t) ∧ w.cell? ⟨b, off + i * 3 + 2, none⟩ = some (.slice ds[i].ws.a ds[i].ws.n ds[i].ws.c)
theorem SRow.below {w w' : World} {a : Option Addr} {n : Nat} {ds : List SesR} (h : SRow w a n ds) (hb : Below w.heap.size w w') : SRow w' a n ds := by
  refine ⟨h.1, fun i hi => ?_⟩
  obtain ⟨b, off, e, c0, c1, c2⟩ := h.2 i hi
  have hbl : b < w.heap.size := cell_lt c0
  exact ⟨b, off, e, (hb.cell (p := ⟨b, off + i * 3, none⟩) hbl).trans c0, (hb.cell (p := ⟨b, off + i * 3 + 1, none⟩) hbl).trans c1, (hb.cell (p := ⟨b, off + i * 3 + 2, none⟩) hbl).trans c2⟩
/-- The cells of records. -/
def scs : List SesR → List Value
  | [] => []
  | d :: r => .bool d.o :: .int .i64 d.t :: .slice d.ws.a d.ws.n d.ws.c :: scs r
theorem scs_len : ∀ ds : List SesR, (scs ds).length = ds.length * 3
  | [] => rfl
  | d :: r => by simp only [scs, List.length_cons, scs_len r]; omega
theorem scs_append : ∀ a b : List SesR, scs (a ++ b) = scs a ++ scs b
  | [], _ => rfl
  | d :: r, b => by simp only [List.cons_append, scs, scs_append r b]
theorem scs_at : ∀ (ds : List SesR) (i : Nat) (hi : i < ds.length), (scs ds)[i * 3]? = some (.bool ds[i].o) ∧ (scs ds)[i * 3 + 1]? = some (.int .i64 ds[i].t) ∧ (scs ds)[i * 3 + 2]? = some (.slice ds[i].ws.a ds[i].ws.n ds[i].ws.c)
  | [], _, hi => by simp at hi
  | d :: r, 0, _ => ⟨rfl, rfl, rfl⟩
  | d :: r, i + 1, hi => by
    have h := scs_at r i (by simpa using hi)
    rw [show (i + 1) * 3 = i * 3 + 1 + 1 + 1 by omega, show i * 3 + 1 + 1 + 1 + 2 = i * 3 + 2 + 1 + 1 + 1 by omega]
    simp only [scs, List.getElem?_cons_succ, List.getElem_cons_succ]
    exact h
theorem scs_set (ds : List SesR) (i : Nat) (d : SesR) : scs (ds.set i d) = ((((scs ds).set (i * 3) (.bool d.o)).set (i * 3 + 1) (.int .i64 d.t)).set (i * 3 + 2) (.slice d.ws.a d.ws.n d.ws.c)) := by
  induction ds generalizing i with
  | nil => rfl
  | cons x r ih =>
    cases i with
    | zero => rfl
    | succ i =>
      rw [List.set_cons_succ, show (i + 1) * 3 = i * 3 + 1 + 1 + 1 by omega, show i * 3 + 1 + 1 + 1 + 2 = i * 3 + 2 + 1 + 1 + 1 by omega]
      simp only [scs, List.set_cons_succ, ih]
theorem scs_one (ds : List SesR) : ∀ u ∈ scs ds, u.oneCell' = true := by
  induction ds with
  | nil => intro u hu; simp [scs] at hu
  | cons e r ih =>
    intro u hu
    simp only [scs, List.mem_cons] at hu
    rcases hu with rfl | rfl | rfl | hu
    · rfl
    · rfl
    · rfl
    · exact ih u hu
/-- A slice of records that the call owns from block B on. -/
abbrev SOwns (w : World) (B : Nat) (v : Value) (ds : List SesR) : Prop := w.ownsRow B 76 3 v ds.length (scs ds)
theorem srow_of_owns {w : World} {B n c : Nat} {a : Option Addr} {ds : List SesR} (h : SOwns w B (.slice a n c) ds) : SRow w a n ds := by
  have h' := h
  obtain ⟨hl, h⟩ := h
  rcases h with ⟨e, hn⟩ | ⟨g, cap, cur, e, hb, hh, hc, hm, hs, ht⟩
  · injection e with e1 e2 e3
    subst e1 e2 e3
    exact ⟨hn, fun i hi => absurd hi (by omega)⟩
  · injection e with e1 e2 e3
    subst e1 e2 e3
    refine ⟨rfl, fun i hi => ⟨g, 0, rfl, ?_, ?_, ?_⟩⟩
    · rw [Nat.zero_add, h'.cellAt (i * 3) (by omega), (scs_at ds i hi).1]
    · rw [Nat.zero_add, h'.cellAt (i * 3 + 1) (by omega), (scs_at ds i hi).2.1]
    · rw [Nat.zero_add, h'.cellAt (i * 3 + 2) (by omega), (scs_at ds i hi).2.2]
theorem sowns_below {w w' : World} {B : Nat} {v : Value} {ds : List SesR} (h : SOwns w B v ds) (hb : Below w.heap.size w w') : SOwns w' B v ds := rb_ownsRow_below h hb
def noS : SesR := ⟨false, 0, ⟨none, 0, 0⟩⟩
/-- The first k of a list, the rest empty. -/
def filS (ds : List SesR) (k : Nat) : List SesR := ds.take k ++ List.replicate (ds.length - k) noS
theorem filS_len (ds : List SesR) {k : Nat} (h : k ≤ ds.length) : (filS ds k).length = ds.length := by unfold filS; simp; omega
theorem filS_all (ds : List SesR) : filS ds ds.length = ds := by unfold filS; simp
theorem filS_set (ds : List SesR) (k : Nat) (h : k < ds.length) : (filS ds k).set k ds[k] = filS ds (k + 1) := rb_fil_set ds noS k h
theorem scs_rep : ∀ n : Nat, scs (List.replicate n noS) = (List.replicate n [Value.bool false, .int .i64 0, .slice none 0 0]).flatten
  | 0 => rfl
  | n + 1 => by rw [List.replicate_succ, List.replicate_succ, List.flatten_cons, ← scs_rep n]; rfl
theorem smade (x0 x1 x2 : Value) : ∀ n : Nat, (madeCells #[x0, x1, x2] (n * 3)).toList = (List.replicate n [x0, x1, x2]).flatten := by
  intro n
  apply List.ext_getElem?
  intro j
  rw [show ∀ (k : Nat), (madeCells #[x0, x1, x2] (n * 3)).toList[k]? = if k < n * 3 then some (#[x0, x1, x2][k % 3]!) else none from fun k => by
    by_cases hk : k < n * 3 <;> simp [madeCells, hk]]
  induction n generalizing j with
  | zero => simp
  | succ n ih =>
    rw [List.replicate_succ, List.flatten_cons]
    match j with
    | 0 => simp
    | 1 => rw [if_pos (by omega)]; rfl
    | 2 => rw [if_pos (by omega)]; rfl
    | j + 3 =>
      rw [show ([x0, x1, x2] ++ (List.replicate n [x0, x1, x2]).flatten)[j + 3]? = (List.replicate n [x0, x1, x2]).flatten[j]? from rfl, ← ih j, Nat.add_mod_right]
      by_cases hj : j < n * 3
      · rw [if_pos hj, if_pos (by omega)]
      · rw [if_neg hj, if_neg (by omega)]
theorem sowns_made {w : World} {B g n : Nat} {ds : List SesR} (hn : ds.length = n) (h : w.ownsRow B 76 3 (.slice (some ⟨g, 0, none⟩) n n) n (madeCells #[Value.bool false, .int .i64 0, .slice none 0 0] (n * 3)).toList) : SOwns w B (.slice (some ⟨g, 0, none⟩) n n) (filS ds 0) := by
  rw [smade, ← scs_rep] at h
  unfold SOwns filS
  rw [List.take_zero, List.nil_append, Nat.sub_zero, List.length_replicate, hn]
  exact h
theorem sowns_at {w : World} {B g n c : Nat} {ds : List SesR} (h : SOwns w B (.slice (some ⟨g, 0, none⟩) n c) ds) (i : Nat) (hi : i < ds.length) : w.cell? ⟨g, i * 3, none⟩ = some (.bool ds[i].o) ∧ w.cell? ⟨g, i * 3 + 1, none⟩ = some (.int .i64 ds[i].t) ∧ w.cell? ⟨g, i * 3 + 2, none⟩ = some (.slice ds[i].ws.a ds[i].ws.n ds[i].ws.c) := by
  obtain rfl := (srow_of_owns h).1
  exact ⟨(h.cellAt (i * 3) (by omega)).trans (scs_at _ i hi).1, (h.cellAt (i * 3 + 1) (by omega)).trans (scs_at _ i hi).2.1, (h.cellAt (i * 3 + 2) (by omega)).trans (scs_at _ i hi).2.2⟩
theorem sowns_fz {w : World} {B g n c : Nat} {ds : List SesR} (h : SOwns w B (.slice (some ⟨g, 0, none⟩) n c) ds) (j : Nat) : w.frozen? ⟨g, j, none⟩ = false := by
  obtain rfl := (srow_of_owns h).1
  exact h.frozenAt j
/-- A record stored at a place. -/
theorem sowns_store {w : World} {B g n c : Nat} {ds : List SesR} (h : SOwns w B (.slice (some ⟨g, 0, none⟩) n c) ds) (i : Nat) (d : SesR) :
    SOwns (((w.setCell ⟨g, i * 3, none⟩ (.bool d.o)).setCell ⟨g, i * 3 + 1, none⟩ (.int .i64 d.t)).setCell ⟨g, i * 3 + 2, none⟩ (.slice d.ws.a d.ws.n d.ws.c)) B (.slice (some ⟨g, 0, none⟩) n c) (ds.set i d) := by
  obtain rfl := (srow_of_owns h).1
  obtain ⟨o1, _⟩ := World.ownsRow.stored h (i * 3) (.bool d.o)
  obtain ⟨o2, _⟩ := World.ownsRow.stored o1 (i * 3 + 1) (.int .i64 d.t)
  obtain ⟨o3, _⟩ := World.ownsRow.stored o2 (i * 3 + 2) (.slice d.ws.a d.ws.n d.ws.c)
  unfold SOwns
  rw [scs_set, List.length_set]
  exact o3
end Go.Proofs.Ytdnneomdokcpeaa
