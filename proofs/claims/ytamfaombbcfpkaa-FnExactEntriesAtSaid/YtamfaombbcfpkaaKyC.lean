/-
  Rows of records: their cells, rows that the call owns, filled one by one (Entry).
-/
import Derived.Test.YtamfaombbcfpkaaRowB
namespace Go.Proofs.Ytamfaombbcfpkaa
open Go.RowKit

structure KvD where
  k : ByteArray
  v : ByteArray
/-- The record as it lies in memory. -/
def kv (d : KvD) : Value := .agg #[.string d.k, .string d.v]
/-- A slice of records as it reads. -/
def KRow (w : World) (a : Option Addr) (n : Nat) (ds : List KvD) : Prop :=
  ds.length = n ∧ ∀ i (hi : i < ds.length), ∃ b off, a = some ⟨b, off, none⟩ ∧ w.cell? ⟨b, off + i * 2, none⟩ = some (.string ds[i].k) ∧ w.cell? ⟨b, off + i * 2 + 1, none⟩ = some (.string ds[i].v)
theorem KRow.below {w w' : World} {a : Option Addr} {n : Nat} {ds : List KvD} (h : KRow w a n ds) (hb : Below w.heap.size w w') : KRow w' a n ds := by
  refine ⟨h.1, fun i hi => ?_⟩
  obtain ⟨b, off, e, c0, c1⟩ := h.2 i hi
  have hbl : b < w.heap.size := cell_lt c0
  exact ⟨b, off, e, (hb.cell (p := ⟨b, off + i * 2, none⟩) hbl).trans c0, (hb.cell (p := ⟨b, off + i * 2 + 1, none⟩) hbl).trans c1⟩
/-- The cells of records. -/
def kcs : List KvD → List Value
  | [] => []
  | d :: r => .string d.k :: .string d.v :: kcs r
theorem kcs_len : ∀ ds : List KvD, (kcs ds).length = ds.length * 2
  | [] => rfl
  | d :: r => by simp only [kcs, List.length_cons, kcs_len r]; omega
theorem kcs_append : ∀ a b : List KvD, kcs (a ++ b) = kcs a ++ kcs b
  | [], _ => rfl
  | d :: r, b => by simp only [List.cons_append, kcs, kcs_append r b]
theorem kcs_at : ∀ (ds : List KvD) (i : Nat) (hi : i < ds.length), (kcs ds)[i * 2]? = some (.string ds[i].k) ∧ (kcs ds)[i * 2 + 1]? = some (.string ds[i].v)
  | [], _, hi => by simp at hi
  | d :: r, 0, _ => ⟨rfl, rfl⟩
  | d :: r, i + 1, hi => by
    have h := kcs_at r i (by simpa using hi)
    rw [show (i + 1) * 2 = i * 2 + 1 + 1 by omega]
    simp only [kcs, List.getElem?_cons_succ, List.getElem_cons_succ]
    exact h
theorem kcs_set (ds : List KvD) (i : Nat) (d : KvD) : kcs (ds.set i d) = (((kcs ds).set (i * 2) (.string d.k)).set (i * 2 + 1) (.string d.v)) := by
  induction ds generalizing i with
  | nil => rfl
  | cons x r ih =>
    cases i with
    | zero => rfl
    | succ i =>
      rw [List.set_cons_succ, show (i + 1) * 2 = i * 2 + 1 + 1 by omega]
      simp only [kcs, List.set_cons_succ, ih]
theorem kcs_one (ds : List KvD) : ∀ u ∈ kcs ds, u.oneCell' = true := by
  induction ds with
  | nil => intro u hu; simp [kcs] at hu
  | cons e r ih =>
    intro u hu
    simp only [kcs, List.mem_cons] at hu
    rcases hu with rfl | rfl | hu
    · rfl
    · rfl
    · exact ih u hu
/-- A slice of records that the call owns from block B on. -/
abbrev KOwns (w : World) (B : Nat) (v : Value) (ds : List KvD) : Prop := w.ownsRow B 52 2 v ds.length (kcs ds)
theorem krow_of_owns {w : World} {B n c : Nat} {a : Option Addr} {ds : List KvD} (h : KOwns w B (.slice a n c) ds) : KRow w a n ds := by
  have h' := h
  obtain ⟨hl, h⟩ := h
  rcases h with ⟨e, hn⟩ | ⟨g, cap, cur, e, hb, hh, hc, hm, hs, ht⟩
  · injection e with e1 e2 e3
    subst e1 e2 e3
    exact ⟨hn, fun i hi => absurd hi (by omega)⟩
  · injection e with e1 e2 e3
    subst e1 e2 e3
    refine ⟨rfl, fun i hi => ⟨g, 0, rfl, ?_, ?_⟩⟩
    · rw [Nat.zero_add, h'.cellAt (i * 2) (by omega), (kcs_at ds i hi).1]
    · rw [Nat.zero_add, h'.cellAt (i * 2 + 1) (by omega), (kcs_at ds i hi).2]
theorem kowns_below {w w' : World} {B : Nat} {v : Value} {ds : List KvD} (h : KOwns w B v ds) (hb : Below w.heap.size w w') : KOwns w' B v ds := rb_ownsRow_below h hb
def noK : KvD := ⟨ByteArray.empty, ByteArray.empty⟩
/-- The first k of a list, the rest empty. -/
def filK (ds : List KvD) (k : Nat) : List KvD := ds.take k ++ List.replicate (ds.length - k) noK
theorem filK_len (ds : List KvD) {k : Nat} (h : k ≤ ds.length) : (filK ds k).length = ds.length := by unfold filK; simp; omega
theorem filK_all (ds : List KvD) : filK ds ds.length = ds := by unfold filK; simp
theorem filK_set (ds : List KvD) (k : Nat) (h : k < ds.length) : (filK ds k).set k ds[k] = filK ds (k + 1) := rb_fil_set ds noK k h
theorem kcs_rep : ∀ n : Nat, kcs (List.replicate n noK) = (List.replicate n [Value.string ByteArray.empty, .string ByteArray.empty]).flatten
  | 0 => rfl
  | n + 1 => by rw [List.replicate_succ, List.replicate_succ, List.flatten_cons, ← kcs_rep n]; rfl
theorem kmade (x0 x1 : Value) : ∀ n : Nat, (madeCells #[x0, x1] (n * 2)).toList = (List.replicate n [x0, x1]).flatten := by
  intro n
  apply List.ext_getElem?
  intro j
  rw [show ∀ (k : Nat), (madeCells #[x0, x1] (n * 2)).toList[k]? = if k < n * 2 then some (#[x0, x1][k % 2]!) else none from fun k => by
    by_cases hk : k < n * 2 <;> simp [madeCells, hk]]
  induction n generalizing j with
  | zero => simp
  | succ n ih =>
    rw [List.replicate_succ, List.flatten_cons]
    match j with
    | 0 => simp
    | 1 => rw [if_pos (by omega)]; rfl
    | j + 2 =>
      rw [show ([x0, x1] ++ (List.replicate n [x0, x1]).flatten)[j + 2]? = (List.replicate n [x0, x1]).flatten[j]? from rfl, ← ih j, Nat.add_mod_right]
      by_cases hj : j < n * 2
      · rw [if_pos hj, if_pos (by omega)]
      · rw [if_neg hj, if_neg (by omega)]
theorem kowns_made {w : World} {B g n : Nat} {ds : List KvD} (hn : ds.length = n) (h : w.ownsRow B 52 2 (.slice (some ⟨g, 0, none⟩) n n) n (madeCells #[Value.string ByteArray.empty, .string ByteArray.empty] (n * 2)).toList) : KOwns w B (.slice (some ⟨g, 0, none⟩) n n) (filK ds 0) := by
  rw [kmade, ← kcs_rep] at h
  unfold KOwns filK
  rw [List.take_zero, List.nil_append, Nat.sub_zero, List.length_replicate, hn]
  exact h
theorem kowns_at {w : World} {B g n c : Nat} {ds : List KvD} (h : KOwns w B (.slice (some ⟨g, 0, none⟩) n c) ds) (i : Nat) (hi : i < ds.length) : w.cell? ⟨g, i * 2, none⟩ = some (.string ds[i].k) ∧ w.cell? ⟨g, i * 2 + 1, none⟩ = some (.string ds[i].v) := by
  obtain rfl := (krow_of_owns h).1
  exact ⟨(h.cellAt (i * 2) (by omega)).trans (kcs_at _ i hi).1, (h.cellAt (i * 2 + 1) (by omega)).trans (kcs_at _ i hi).2⟩
theorem kowns_fz {w : World} {B g n c : Nat} {ds : List KvD} (h : KOwns w B (.slice (some ⟨g, 0, none⟩) n c) ds) (j : Nat) : w.frozen? ⟨g, j, none⟩ = false := by
  obtain rfl := (krow_of_owns h).1
  exact h.frozenAt j
/-- A record stored at a place. -/
theorem kowns_store {w : World} {B g n c : Nat} {ds : List KvD} (h : KOwns w B (.slice (some ⟨g, 0, none⟩) n c) ds) (i : Nat) (d : KvD) :
    KOwns ((w.setCell ⟨g, i * 2, none⟩ (.string d.k)).setCell ⟨g, i * 2 + 1, none⟩ (.string d.v)) B (.slice (some ⟨g, 0, none⟩) n c) (ds.set i d) := by
  obtain rfl := (krow_of_owns h).1
  obtain ⟨o1, _⟩ := World.ownsRow.stored h (i * 2) (.string d.k)
  obtain ⟨o2, _⟩ := World.ownsRow.stored o1 (i * 2 + 1) (.string d.v)
  unfold KOwns
  rw [kcs_set, List.length_set]
  exact o2
end Go.Proofs.Ytamfaombbcfpkaa
