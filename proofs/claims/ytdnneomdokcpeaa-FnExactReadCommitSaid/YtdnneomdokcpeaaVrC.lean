/-
  Rows of records: their cells, rows that the call owns, filled one by one (Version).
-/
import Derived.Test.YtdnneomdokcpeaaRowB
namespace Go.Proofs.Ytdnneomdokcpeaa
open Go.RowKit

structure VerD where
  k : ByteArray
  t : Int
  v : ByteArray
  g : Bool
/-- The record as it lies in memory. -/
def vv (d : VerD) : Value := .agg #[.string d.k, .int .i64 d.t, .string d.v, .bool d.g]
/-- A slice of records as it reads. -/
def VRow (w : World) (a : Option Addr) (n : Nat) (ds : List VerD) : Prop :=
  ds.length = n ∧ ∀ i (hi : i < ds.length), ∃ b off, a = some ⟨b, off, none⟩ ∧ w.cell? ⟨b, off + i * 4, none⟩ = some (.string ds[i].k) ∧ w.cell? ⟨b, off + i * 4 + 1, none⟩ = some (.int .i64 ds[i].t) ∧ w.cell? ⟨b, off + i * 4 + 2, none⟩ = some (.string ds[i].v) ∧ w.cell? ⟨b, off + i * 4 + 3, none⟩ = some (.bool ds[i].g)
theorem VRow.below {w w' : World} {a : Option Addr} {n : Nat} {ds : List VerD} (h : VRow w a n ds) (hb : Below w.heap.size w w') : VRow w' a n ds := by
  refine ⟨h.1, fun i hi => ?_⟩
  obtain ⟨b, off, e, c0, c1, c2, c3⟩ := h.2 i hi
  have hbl : b < w.heap.size := cell_lt c0
  exact ⟨b, off, e, (hb.cell (p := ⟨b, off + i * 4, none⟩) hbl).trans c0, (hb.cell (p := ⟨b, off + i * 4 + 1, none⟩) hbl).trans c1, (hb.cell (p := ⟨b, off + i * 4 + 2, none⟩) hbl).trans c2, (hb.cell (p := ⟨b, off + i * 4 + 3, none⟩) hbl).trans c3⟩
/-- The cells of records. -/
def vcs : List VerD → List Value
  | [] => []
  | d :: r => .string d.k :: .int .i64 d.t :: .string d.v :: .bool d.g :: vcs r
theorem vcs_len : ∀ ds : List VerD, (vcs ds).length = ds.length * 4
  | [] => rfl
  | d :: r => by simp only [vcs, List.length_cons, vcs_len r]; omega
theorem vcs_append : ∀ a b : List VerD, vcs (a ++ b) = vcs a ++ vcs b
  | [], _ => rfl
  | d :: r, b => by simp only [List.cons_append, vcs, vcs_append r b]
theorem vcs_at : ∀ (ds : List VerD) (i : Nat) (hi : i < ds.length), (vcs ds)[i * 4]? = some (.string ds[i].k) ∧ (vcs ds)[i * 4 + 1]? = some (.int .i64 ds[i].t) ∧ (vcs ds)[i * 4 + 2]? = some (.string ds[i].v) ∧ (vcs ds)[i * 4 + 3]? = some (.bool ds[i].g)
  | [], _, hi => by simp at hi
  | d :: r, 0, _ => ⟨rfl, rfl, rfl, rfl⟩
  | d :: r, i + 1, hi => by
    have h := vcs_at r i (by simpa using hi)
    rw [show (i + 1) * 4 = i * 4 + 1 + 1 + 1 + 1 by omega, show i * 4 + 1 + 1 + 1 + 1 + 2 = i * 4 + 2 + 1 + 1 + 1 + 1 by omega, show i * 4 + 1 + 1 + 1 + 1 + 3 = i * 4 + 3 + 1 + 1 + 1 + 1 by omega]
    simp only [vcs, List.getElem?_cons_succ, List.getElem_cons_succ]
    exact h
theorem vcs_set (ds : List VerD) (i : Nat) (d : VerD) : vcs (ds.set i d) = (((((vcs ds).set (i * 4) (.string d.k)).set (i * 4 + 1) (.int .i64 d.t)).set (i * 4 + 2) (.string d.v)).set (i * 4 + 3) (.bool d.g)) := by
  induction ds generalizing i with
  | nil => rfl
  | cons x r ih =>
    cases i with
    | zero => rfl
    | succ i =>
      rw [List.set_cons_succ, show (i + 1) * 4 = i * 4 + 1 + 1 + 1 + 1 by omega, show i * 4 + 1 + 1 + 1 + 1 + 2 = i * 4 + 2 + 1 + 1 + 1 + 1 by omega, show i * 4 + 1 + 1 + 1 + 1 + 3 = i * 4 + 3 + 1 + 1 + 1 + 1 by omega]
      simp only [vcs, List.set_cons_succ, ih]
theorem vcs_one (ds : List VerD) : ∀ u ∈ vcs ds, u.oneCell' = true := by
  induction ds with
  | nil => intro u hu; simp [vcs] at hu
  | cons e r ih =>
    intro u hu
    simp only [vcs, List.mem_cons] at hu
    rcases hu with rfl | rfl | rfl | rfl | hu
    · rfl
    · rfl
    · rfl
    · rfl
    · exact ih u hu
/-- A slice of records that the call owns from block B on. -/
abbrev VOwns (w : World) (B : Nat) (v : Value) (ds : List VerD) : Prop := w.ownsRow B 52 4 v ds.length (vcs ds)
theorem vrow_of_owns {w : World} {B n c : Nat} {a : Option Addr} {ds : List VerD} (h : VOwns w B (.slice a n c) ds) : VRow w a n ds := by
  have h' := h
  obtain ⟨hl, h⟩ := h
  rcases h with ⟨e, hn⟩ | ⟨g, cap, cur, e, hb, hh, hc, hm, hs, ht⟩
  · injection e with e1 e2 e3
    subst e1 e2 e3
    exact ⟨hn, fun i hi => absurd hi (by omega)⟩
  · injection e with e1 e2 e3
    subst e1 e2 e3
    refine ⟨rfl, fun i hi => ⟨g, 0, rfl, ?_, ?_, ?_, ?_⟩⟩
    · rw [Nat.zero_add, h'.cellAt (i * 4) (by omega), (vcs_at ds i hi).1]
    · rw [Nat.zero_add, h'.cellAt (i * 4 + 1) (by omega), (vcs_at ds i hi).2.1]
    · rw [Nat.zero_add, h'.cellAt (i * 4 + 2) (by omega), (vcs_at ds i hi).2.2.1]
    · rw [Nat.zero_add, h'.cellAt (i * 4 + 3) (by omega), (vcs_at ds i hi).2.2.2]
theorem vowns_below {w w' : World} {B : Nat} {v : Value} {ds : List VerD} (h : VOwns w B v ds) (hb : Below w.heap.size w w') : VOwns w' B v ds := rb_ownsRow_below h hb
def noV : VerD := ⟨ByteArray.empty, 0, ByteArray.empty, false⟩
/-- The first k of a list, the rest empty. -/
def filV (ds : List VerD) (k : Nat) : List VerD := ds.take k ++ List.replicate (ds.length - k) noV
theorem filV_len (ds : List VerD) {k : Nat} (h : k ≤ ds.length) : (filV ds k).length = ds.length := by unfold filV; simp; omega
theorem filV_all (ds : List VerD) : filV ds ds.length = ds := by unfold filV; simp
theorem filV_set (ds : List VerD) (k : Nat) (h : k < ds.length) : (filV ds k).set k ds[k] = filV ds (k + 1) := rb_fil_set ds noV k h
theorem vcs_rep : ∀ n : Nat, vcs (List.replicate n noV) = (List.replicate n [Value.string ByteArray.empty, .int .i64 0, .string ByteArray.empty, .bool false]).flatten
  | 0 => rfl
  | n + 1 => by rw [List.replicate_succ, List.replicate_succ, List.flatten_cons, ← vcs_rep n]; rfl
theorem vmade (x0 x1 x2 x3 : Value) : ∀ n : Nat, (madeCells #[x0, x1, x2, x3] (n * 4)).toList = (List.replicate n [x0, x1, x2, x3]).flatten := by
  intro n
  apply List.ext_getElem?
  intro j
  rw [show ∀ (k : Nat), (madeCells #[x0, x1, x2, x3] (n * 4)).toList[k]? = if k < n * 4 then some (#[x0, x1, x2, x3][k % 4]!) else none from fun k => by
    by_cases hk : k < n * 4 <;> simp [madeCells, hk]]
  induction n generalizing j with
  | zero => simp
  | succ n ih =>
    rw [List.replicate_succ, List.flatten_cons]
    match j with
    | 0 => simp
    | 1 => rw [if_pos (by omega)]; rfl
    | 2 => rw [if_pos (by omega)]; rfl
    | 3 => rw [if_pos (by omega)]; rfl
    | j + 4 =>
      rw [show ([x0, x1, x2, x3] ++ (List.replicate n [x0, x1, x2, x3]).flatten)[j + 4]? = (List.replicate n [x0, x1, x2, x3]).flatten[j]? from rfl, ← ih j, Nat.add_mod_right]
      by_cases hj : j < n * 4
      · rw [if_pos hj, if_pos (by omega)]
      · rw [if_neg hj, if_neg (by omega)]
theorem vowns_made {w : World} {B g n : Nat} {ds : List VerD} (hn : ds.length = n) (h : w.ownsRow B 52 4 (.slice (some ⟨g, 0, none⟩) n n) n (madeCells #[Value.string ByteArray.empty, .int .i64 0, .string ByteArray.empty, .bool false] (n * 4)).toList) : VOwns w B (.slice (some ⟨g, 0, none⟩) n n) (filV ds 0) := by
  rw [vmade, ← vcs_rep] at h
  unfold VOwns filV
  rw [List.take_zero, List.nil_append, Nat.sub_zero, List.length_replicate, hn]
  exact h
theorem vowns_at {w : World} {B g n c : Nat} {ds : List VerD} (h : VOwns w B (.slice (some ⟨g, 0, none⟩) n c) ds) (i : Nat) (hi : i < ds.length) : w.cell? ⟨g, i * 4, none⟩ = some (.string ds[i].k) ∧ w.cell? ⟨g, i * 4 + 1, none⟩ = some (.int .i64 ds[i].t) ∧ w.cell? ⟨g, i * 4 + 2, none⟩ = some (.string ds[i].v) ∧ w.cell? ⟨g, i * 4 + 3, none⟩ = some (.bool ds[i].g) := by
  obtain rfl := (vrow_of_owns h).1
  exact ⟨(h.cellAt (i * 4) (by omega)).trans (vcs_at _ i hi).1, (h.cellAt (i * 4 + 1) (by omega)).trans (vcs_at _ i hi).2.1, (h.cellAt (i * 4 + 2) (by omega)).trans (vcs_at _ i hi).2.2.1, (h.cellAt (i * 4 + 3) (by omega)).trans (vcs_at _ i hi).2.2.2⟩
theorem vowns_fz {w : World} {B g n c : Nat} {ds : List VerD} (h : VOwns w B (.slice (some ⟨g, 0, none⟩) n c) ds) (j : Nat) : w.frozen? ⟨g, j, none⟩ = false := by
  obtain rfl := (vrow_of_owns h).1
  exact h.frozenAt j
/-- A record stored at a place. -/
theorem vowns_store {w : World} {B g n c : Nat} {ds : List VerD} (h : VOwns w B (.slice (some ⟨g, 0, none⟩) n c) ds) (i : Nat) (d : VerD) :
    VOwns ((((w.setCell ⟨g, i * 4, none⟩ (.string d.k)).setCell ⟨g, i * 4 + 1, none⟩ (.int .i64 d.t)).setCell ⟨g, i * 4 + 2, none⟩ (.string d.v)).setCell ⟨g, i * 4 + 3, none⟩ (.bool d.g)) B (.slice (some ⟨g, 0, none⟩) n c) (ds.set i d) := by
  obtain rfl := (vrow_of_owns h).1
  obtain ⟨o1, _⟩ := World.ownsRow.stored h (i * 4) (.string d.k)
  obtain ⟨o2, _⟩ := World.ownsRow.stored o1 (i * 4 + 1) (.int .i64 d.t)
  obtain ⟨o3, _⟩ := World.ownsRow.stored o2 (i * 4 + 2) (.string d.v)
  obtain ⟨o4, _⟩ := World.ownsRow.stored o3 (i * 4 + 3) (.bool d.g)
  unfold VOwns
  rw [vcs_set, List.length_set]
  exact o4
end Go.Proofs.Ytdnneomdokcpeaa
