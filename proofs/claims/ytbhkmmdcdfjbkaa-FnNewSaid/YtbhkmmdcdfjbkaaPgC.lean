/-
  Changes as cells; rows of entries and of changes that the call owns, filled one by one.
-/
import Derived.Test.YtbhkmmdcdfjbkaaPageI
namespace Go.Proofs.Ytbhkmmdcdfjbkaa
open Go.RowKit

/-- The cells of changes. -/
def dcs : List DelD → List Value
  | [] => []
  | d :: r => .int .i64 d.kind :: .string d.k :: .string d.v :: .int .i64 d.to :: dcs r
theorem dcs_len : ∀ ds : List DelD, (dcs ds).length = ds.length * 4
  | [] => rfl
  | d :: r => by simp only [dcs, List.length_cons, dcs_len r]; omega
theorem dcs_append : ∀ a b : List DelD, dcs (a ++ b) = dcs a ++ dcs b
  | [], _ => rfl
  | d :: r, b => by simp only [List.cons_append, dcs, dcs_append r b]
theorem dcs_at : ∀ (ds : List DelD) (i : Nat) (hi : i < ds.length), (dcs ds)[i * 4]? = some (.int .i64 ds[i].kind) ∧ (dcs ds)[i * 4 + 1]? = some (.string ds[i].k) ∧ (dcs ds)[i * 4 + 2]? = some (.string ds[i].v) ∧ (dcs ds)[i * 4 + 3]? = some (.int .i64 ds[i].to)
  | [], _, hi => by simp at hi
  | d :: r, 0, _ => ⟨rfl, rfl, rfl, rfl⟩
  | d :: r, i + 1, hi => by
    have h := dcs_at r i (by simpa using hi)
    rw [show (i + 1) * 4 = i * 4 + 1 + 1 + 1 + 1 by omega, show i * 4 + 1 + 1 + 1 + 1 + 1 = i * 4 + 1 + 1 + 1 + 1 + 1 by rfl, show i * 4 + 1 + 1 + 1 + 1 + 2 = i * 4 + 2 + 1 + 1 + 1 + 1 by omega, show i * 4 + 1 + 1 + 1 + 1 + 3 = i * 4 + 3 + 1 + 1 + 1 + 1 by omega]
    simp only [dcs, List.getElem?_cons_succ, List.getElem_cons_succ]
    exact h
theorem dcs_one (ds : List DelD) : ∀ u ∈ dcs ds, u.oneCell' = true := by
  induction ds with
  | nil => intro u hu; simp [dcs] at hu
  | cons e r ih =>
    intro u hu
    simp only [dcs, List.mem_cons] at hu
    rcases hu with rfl | rfl | rfl | rfl | hu
    · rfl
    · rfl
    · rfl
    · rfl
    · exact ih u hu
/-- A slice of changes that the call owns from block B on. -/
abbrev DOwns (w : World) (B : Nat) (v : Value) (ds : List DelD) : Prop := w.ownsRow B 86 4 v ds.length (dcs ds)
theorem drow_of_owns {w : World} {B n c : Nat} {a : Option Addr} {ds : List DelD} (h : DOwns w B (.slice a n c) ds) : DRow w a n ds := by
  have h' := h
  obtain ⟨hl, h⟩ := h
  rcases h with ⟨e, hn⟩ | ⟨g, cap, cur, e, hb, hh, hc, hm, hs, ht⟩
  · injection e with e1 e2 e3
    subst e1 e2 e3
    exact ⟨hn, fun i hi => absurd hi (by omega)⟩
  · injection e with e1 e2 e3
    subst e1 e2 e3
    refine ⟨rfl, fun i hi => ⟨g, 0, rfl, ?_, ?_, ?_, ?_⟩⟩
    · rw [Nat.zero_add, h'.cellAt (i * 4) (by omega), (dcs_at ds i hi).1]
    · rw [Nat.zero_add, h'.cellAt (i * 4 + 1) (by omega), (dcs_at ds i hi).2.1]
    · rw [Nat.zero_add, h'.cellAt (i * 4 + 2) (by omega), (dcs_at ds i hi).2.2.1]
    · rw [Nat.zero_add, h'.cellAt (i * 4 + 3) (by omega), (dcs_at ds i hi).2.2.2]
theorem downs_below {w w' : World} {B : Nat} {v : Value} {ds : List DelD} (h : DOwns w B v ds) (hb : Below w.heap.size w w') : DOwns w' B v ds :=
  World.ownsRow.kept (row := none) h ⟨hb.os, hb.tape, hb.output, hb.size, fun i hi _ => hb.block i hi⟩ (by cases hv : v.ownBlock <;> simp)
end Go.Proofs.Ytbhkmmdcdfjbkaa
