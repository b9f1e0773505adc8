/-
  Changes as cells; rows of entries and of changes that the call owns, filled one by one.
-/
import Derived.Test.YtkggpapmhopaeaaPageI
namespace Go.Proofs.Ytkggpapmhopaeaa
open Go.RowKit

/-- The cells of changes. -/
def dcs : List DelD → List Value
  | [] => []
  | d :: r => .int .i64 d.kind :: .string d.k :: .string d.v :: .int .i64 d.to :: dcs r
theorem dcs_len : ∀ ds : List DelD, (dcs ds).length = ds.length * 4
  | [] => rfl
  | d :: r => by simp only [dcs, List.length_cons, dcs_len r]; omega
theorem dcs_append : ∀ a b : List DelD, dcs (a ++ b) = dcs a ++ dcs b
  | [], _ => rfl
  | d :: r, b => by simp only [List.cons_append, dcs, dcs_append r b]
theorem dcs_at : ∀ (ds : List DelD) (i : Nat) (hi : i < ds.length), (dcs ds)[i * 4]? = some (.int .i64 ds[i].kind) ∧ (dcs ds)[i * 4 + 1]? = some (.string ds[i].k) ∧ (dcs ds)[i * 4 + 2]? = some (.string ds[i].v) ∧ (dcs ds)[i * 4 + 3]? = some (.int .i64 ds[i].to)
  | [], _, hi => by simp at hi
  | d :: r, 0, _ => ⟨rfl, rfl, rfl, rfl⟩
  | d :: r, i + 1, hi => by
    have h := dcs_at r i (by simpa using hi)
    rw [show (i + 1) * 4 = i * 4 + 1 + 1 + 1 + 1 by omega, show i * 4 + 1 + 1 + 1 + 1 + 1 = i * 4 + 1 + 1 + 1 + 1 + 1 by rfl, show i * 4 + 1 + 1 + 1 + 1 + 2 = i * 4 + 2 + 1 + 1 + 1 + 1 by omega, show i * 4 + 1 + 1 + 1 + 1 + 3 = i * 4 + 3 + 1 + 1 + 1 + 1 by omega]
    simp only [dcs, List.getElem?_cons_succ, List.getElem_cons_succ]
    exact h
theorem dcs_set (ds : List DelD) (i : Nat) (d : DelD) : dcs (ds.set i d) = ((((dcs ds).set (i * 4) (.int .i64 d.kind)).set (i * 4 + 1) (.string d.k)).set (i * 4 + 2) (.string d.v)).set (i * 4 + 3) (.int .i64 d.to) := by
  induction ds generalizing i with
  | nil => rfl
  | cons x r ih =>
    cases i with
    | zero => rfl
    | succ i =>
      rw [List.set_cons_succ, show (i + 1) * 4 = i * 4 + 1 + 1 + 1 + 1 by omega, show i * 4 + 1 + 1 + 1 + 1 + 2 = i * 4 + 2 + 1 + 1 + 1 + 1 by omega, show i * 4 + 1 + 1 + 1 + 1 + 3 = i * 4 + 3 + 1 + 1 + 1 + 1 by omega]
      simp only [dcs, List.set_cons_succ, ih]
theorem dcs_one (ds : List DelD) : ∀ u ∈ dcs ds, u.oneCell' = true := by
  induction ds with
  | nil => intro u hu; simp [dcs] at hu
  | cons e r ih =>
    intro u hu
    simp only [dcs, List.mem_cons] at hu
    rcases hu with rfl | rfl | rfl | rfl | hu
    · rfl
    · rfl
    · rfl
    · rfl
    · exact ih u hu
/-- A slice of changes that the call owns from block B on. -/
abbrev DOwns (w : World) (B : Nat) (v : Value) (ds : List DelD) : Prop := w.ownsRow B 44 4 v ds.length (dcs ds)
theorem drow_of_owns {w : World} {B n c : Nat} {a : Option Addr} {ds : List DelD} (h : DOwns w B (.slice a n c) ds) : DRow w a n ds := by
  have h' := h
  obtain ⟨hl, h⟩ := h
  rcases h with ⟨e, hn⟩ | ⟨g, cap, cur, e, hb, hh, hc, hm, hs, ht⟩
  · injection e with e1 e2 e3
    subst e1 e2 e3
    exact ⟨hn, fun i hi => absurd hi (by omega)⟩
  · injection e with e1 e2 e3
    subst e1 e2 e3
    refine ⟨rfl, fun i hi => ⟨g, 0, rfl, ?_, ?_, ?_, ?_⟩⟩
    · rw [Nat.zero_add, h'.cellAt (i * 4) (by omega), (dcs_at ds i hi).1]
    · rw [Nat.zero_add, h'.cellAt (i * 4 + 1) (by omega), (dcs_at ds i hi).2.1]
    · rw [Nat.zero_add, h'.cellAt (i * 4 + 2) (by omega), (dcs_at ds i hi).2.2.1]
    · rw [Nat.zero_add, h'.cellAt (i * 4 + 3) (by omega), (dcs_at ds i hi).2.2.2]
theorem downs_below {w w' : World} {B : Nat} {v : Value} {ds : List DelD} (h : DOwns w B v ds) (hb : Below w.heap.size w w') : DOwns w' B v ds :=
  World.ownsRow.kept (row := none) h ⟨hb.os, hb.tape, hb.output, hb.size, fun i hi _ => hb.block i hi⟩ (by cases hv : v.ownBlock <;> simp)
def noE : EntD := ⟨ByteArray.empty, ByteArray.empty⟩
def noD : DelD := ⟨0, ByteArray.empty, ByteArray.empty, 0⟩
/-- The first k of a list, the rest empty. -/
def filE (es : List EntD) (k : Nat) : List EntD := es.take k ++ List.replicate (es.length - k) noE
def filD (ds : List DelD) (k : Nat) : List DelD := ds.take k ++ List.replicate (ds.length - k) noD
theorem filE_len (es : List EntD) {k : Nat} (h : k ≤ es.length) : (filE es k).length = es.length := by unfold filE; simp; omega
theorem filD_len (ds : List DelD) {k : Nat} (h : k ≤ ds.length) : (filD ds k).length = ds.length := by unfold filD; simp; omega
theorem filE_all (es : List EntD) : filE es es.length = es := by unfold filE; simp
theorem filD_all (ds : List DelD) : filD ds ds.length = ds := by unfold filD; simp
theorem fil_set {α : Type} (l : List α) (z : α) (k : Nat) (h : k < l.length) : (l.take k ++ List.replicate (l.length - k) z).set k l[k] = l.take (k + 1) ++ List.replicate (l.length - (k + 1)) z := by
  obtain ⟨m, hm⟩ : ∃ m, l.length - k = m + 1 := ⟨l.length - k - 1, by omega⟩
  rw [hm, show l.length - (k + 1) = m by omega, List.replicate_succ]
  have hl : (l.take k).length = k := by rw [List.length_take]; omega
  rw [List.set_append_right _ _ (by omega), hl, Nat.sub_self, List.set_cons_zero, takeG_snoc l k h, List.append_assoc, List.singleton_append]
theorem filE_set (es : List EntD) (k : Nat) (h : k < es.length) : (filE es k).set k es[k] = filE es (k + 1) := fil_set es noE k h
theorem filD_set (ds : List DelD) (k : Nat) (h : k < ds.length) : (filD ds k).set k ds[k] = filD ds (k + 1) := fil_set ds noD k h
theorem made_two (x y : Value) : ∀ n : Nat, (madeCells #[x, y] (n * 2)).toList = (List.replicate n [x, y]).flatten := by
  intro n
  apply List.ext_getElem?
  intro j
  rw [show ∀ (k : Nat), (madeCells #[x, y] (n * 2)).toList[k]? = if k < n * 2 then some (#[x, y][k % 2]!) else none from fun k => by
    by_cases hk : k < n * 2 <;> simp [madeCells, hk]]
  induction n generalizing j with
  | zero => simp
  | succ n ih =>
    rw [List.replicate_succ, List.flatten_cons]
    match j with
    | 0 => simp
    | 1 => rw [if_pos (by omega)]; rfl
    | j + 2 =>
      rw [show ([x, y] ++ (List.replicate n [x, y]).flatten)[j + 2]? = (List.replicate n [x, y]).flatten[j]? from rfl, ← ih j, Nat.add_mod_right]
      by_cases hj : j < n * 2
      · rw [if_pos hj, if_pos (by omega)]
      · rw [if_neg hj, if_neg (by omega)]
theorem made_four (x y z u : Value) : ∀ n : Nat, (madeCells #[x, y, z, u] (n * 4)).toList = (List.replicate n [x, y, z, u]).flatten := by
  intro n
  apply List.ext_getElem?
  intro j
  rw [show ∀ (k : Nat), (madeCells #[x, y, z, u] (n * 4)).toList[k]? = if k < n * 4 then some (#[x, y, z, u][k % 4]!) else none from fun k => by
    by_cases hk : k < n * 4 <;> simp [madeCells, hk]]
  induction n generalizing j with
  | zero => simp
  | succ n ih =>
    rw [List.replicate_succ, List.flatten_cons]
    match j with
    | 0 => simp
    | 1 => rw [if_pos (by omega)]; rfl
    | 2 => rw [if_pos (by omega)]; rfl
    | 3 => rw [if_pos (by omega)]; rfl
    | j + 4 =>
      rw [show ([x, y, z, u] ++ (List.replicate n [x, y, z, u]).flatten)[j + 4]? = (List.replicate n [x, y, z, u]).flatten[j]? from rfl, ← ih j, Nat.add_mod_right]
      by_cases hj : j < n * 4
      · rw [if_pos hj, if_pos (by omega)]
      · rw [if_neg hj, if_neg (by omega)]
theorem ecs_rep : ∀ n : Nat, ecs (List.replicate n noE) = (List.replicate n [Value.string ByteArray.empty, .string ByteArray.empty]).flatten
  | 0 => rfl
  | n + 1 => by rw [List.replicate_succ, List.replicate_succ, List.flatten_cons, ← ecs_rep n]; rfl
theorem dcs_rep : ∀ n : Nat, dcs (List.replicate n noD) = (List.replicate n [Value.int .i64 0, .string ByteArray.empty, .string ByteArray.empty, .int .i64 0]).flatten
  | 0 => rfl
  | n + 1 => by rw [List.replicate_succ, List.replicate_succ, List.flatten_cons, ← dcs_rep n]; rfl
theorem eowns_made {w : World} {B g n : Nat} {es : List EntD} (hn : es.length = n) (h : w.ownsRow B 58 2 (.slice (some ⟨g, 0, none⟩) n n) n (madeCells #[.string ByteArray.empty, .string ByteArray.empty] (n * 2)).toList) : EOwns w B (.slice (some ⟨g, 0, none⟩) n n) (filE es 0) := by
  rw [made_two, ← ecs_rep] at h
  unfold EOwns filE
  rw [List.take_zero, List.nil_append, Nat.sub_zero, List.length_replicate, hn]
  exact h
theorem downs_made {w : World} {B g n : Nat} {ds : List DelD} (hn : ds.length = n) (h : w.ownsRow B 44 4 (.slice (some ⟨g, 0, none⟩) n n) n (madeCells #[.int .i64 0, .string ByteArray.empty, .string ByteArray.empty, .int .i64 0] (n * 4)).toList) : DOwns w B (.slice (some ⟨g, 0, none⟩) n n) (filD ds 0) := by
  rw [made_four, ← dcs_rep] at h
  unfold DOwns filD
  rw [List.take_zero, List.nil_append, Nat.sub_zero, List.length_replicate, hn]
  exact h
theorem eowns_at {w : World} {B g n c : Nat} {es : List EntD} (h : EOwns w B (.slice (some ⟨g, 0, none⟩) n c) es) (i : Nat) (hi : i < es.length) : w.cell? ⟨g, i * 2, none⟩ = some (.string es[i].k) ∧ w.cell? ⟨g, i * 2 + 1, none⟩ = some (.string es[i].v) := by
  obtain rfl := (erow_of_owns h).1
  exact ⟨(h.cellAt (i * 2) (by omega)).trans (ecs_at0 _ i hi), (h.cellAt (i * 2 + 1) (by omega)).trans (ecs_at1 _ i hi)⟩
theorem eowns_fz {w : World} {B g n c : Nat} {es : List EntD} (h : EOwns w B (.slice (some ⟨g, 0, none⟩) n c) es) (j : Nat) : w.frozen? ⟨g, j, none⟩ = false := by
  obtain rfl := (erow_of_owns h).1
  exact h.frozenAt j
theorem downs_at {w : World} {B g n c : Nat} {ds : List DelD} (h : DOwns w B (.slice (some ⟨g, 0, none⟩) n c) ds) (i : Nat) (hi : i < ds.length) : w.cell? ⟨g, i * 4, none⟩ = some (.int .i64 ds[i].kind) ∧ w.cell? ⟨g, i * 4 + 1, none⟩ = some (.string ds[i].k) ∧ w.cell? ⟨g, i * 4 + 2, none⟩ = some (.string ds[i].v) ∧ w.cell? ⟨g, i * 4 + 3, none⟩ = some (.int .i64 ds[i].to) := by
  obtain rfl := (drow_of_owns h).1
  exact ⟨(h.cellAt (i * 4) (by omega)).trans (dcs_at _ i hi).1, (h.cellAt (i * 4 + 1) (by omega)).trans (dcs_at _ i hi).2.1, (h.cellAt (i * 4 + 2) (by omega)).trans (dcs_at _ i hi).2.2.1, (h.cellAt (i * 4 + 3) (by omega)).trans (dcs_at _ i hi).2.2.2⟩
theorem downs_fz {w : World} {B g n c : Nat} {ds : List DelD} (h : DOwns w B (.slice (some ⟨g, 0, none⟩) n c) ds) (j : Nat) : w.frozen? ⟨g, j, none⟩ = false := by
  obtain rfl := (drow_of_owns h).1
  exact h.frozenAt j
/-- An entry stored at a place. -/
theorem eowns_store {w : World} {B g n c : Nat} {es : List EntD} (h : EOwns w B (.slice (some ⟨g, 0, none⟩) n c) es) (i : Nat) (e : EntD) :
    EOwns ((w.setCell ⟨g, i * 2, none⟩ (.string e.k)).setCell ⟨g, i * 2 + 1, none⟩ (.string e.v)) B (.slice (some ⟨g, 0, none⟩) n c) (es.set i e) := by
  obtain rfl := (erow_of_owns h).1
  obtain ⟨o1, _⟩ := World.ownsRow.stored h (i * 2) (.string e.k)
  obtain ⟨o2, _⟩ := World.ownsRow.stored o1 (i * 2 + 1) (.string e.v)
  unfold EOwns
  rw [ecs_set, List.length_set]
  exact o2
/-- A change stored at a place. -/
theorem downs_store {w : World} {B g n c : Nat} {ds : List DelD} (h : DOwns w B (.slice (some ⟨g, 0, none⟩) n c) ds) (i : Nat) (d : DelD) :
    DOwns ((((w.setCell ⟨g, i * 4, none⟩ (.int .i64 d.kind)).setCell ⟨g, i * 4 + 1, none⟩ (.string d.k)).setCell ⟨g, i * 4 + 2, none⟩ (.string d.v)).setCell ⟨g, i * 4 + 3, none⟩ (.int .i64 d.to)) B (.slice (some ⟨g, 0, none⟩) n c) (ds.set i d) := by
  obtain rfl := (drow_of_owns h).1
  obtain ⟨o1, _⟩ := World.ownsRow.stored h (i * 4) (.int .i64 d.kind)
  obtain ⟨o2, _⟩ := World.ownsRow.stored o1 (i * 4 + 1) (.string d.k)
  obtain ⟨o3, _⟩ := World.ownsRow.stored o2 (i * 4 + 2) (.string d.v)
  obtain ⟨o4, _⟩ := World.ownsRow.stored o3 (i * 4 + 3) (.int .i64 d.to)
  unfold DOwns
  rw [dcs_set, List.length_set]
  exact o4
end Go.Proofs.Ytkggpapmhopaeaa
