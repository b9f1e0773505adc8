/-
  Entries in memory; what a page is behind changes, as it lies in memory; its bounds; a search in it.
-/
import Derived.Test.YtfajenejngddeaaGreatPageA
namespace Go.Proofs.YtfajenejngddeaaGreat
open Go.RowKit

/-- A slice of entries as it reads. -/
def ERow (w : World) (a : Option Addr) (n : Nat) (es : List EntD) : Prop :=
  es.length = n ∧ ∀ i (hi : i < es.length), ∃ b off, a = some ⟨b, off, none⟩ ∧ w.cell? ⟨b, off + i * 2, none⟩ = some (.string es[i].k) ∧ w.cell? ⟨b, off + i * 2 + 1, none⟩ = some (.string es[i].v)
theorem ERow.below {w w' : World} {a : Option Addr} {n : Nat} {es : List EntD} (h : ERow w a n es) (hb : Below w.heap.size w w') : ERow w' a n es := by
  refine ⟨h.1, fun i hi => ?_⟩
  obtain ⟨b, off, e, c0, c1⟩ := h.2 i hi
  have hbl : b < w.heap.size := cell_lt c0
  exact ⟨b, off, e, (hb.cell (p := ⟨b, off + i * 2, none⟩) hbl).trans c0, (hb.cell (p := ⟨b, off + i * 2 + 1, none⟩) hbl).trans c1⟩
/-- The cells of entries. -/
def ecs : List EntD → List Value
  | [] => []
  | e :: r => .string e.k :: .string e.v :: ecs r
theorem ecs_len : ∀ es : List EntD, (ecs es).length = es.length * 2
  | [] => rfl
  | e :: r => by simp only [ecs, List.length_cons, ecs_len r]; omega
theorem ecs_append : ∀ a b : List EntD, ecs (a ++ b) = ecs a ++ ecs b
  | [], _ => rfl
  | e :: r, b => by simp only [List.cons_append, ecs, ecs_append r b]
theorem ecs_at0 : ∀ (es : List EntD) (i : Nat) (hi : i < es.length), (ecs es)[i * 2]? = some (.string es[i].k)
  | [], _, hi => by simp at hi
  | e :: r, 0, _ => rfl
  | e :: r, i + 1, hi => by
    rw [show (i + 1) * 2 = i * 2 + 1 + 1 by omega]
    simp only [ecs, List.getElem?_cons_succ, List.getElem_cons_succ]
    exact ecs_at0 r i (by simpa using hi)
theorem ecs_at1 : ∀ (es : List EntD) (i : Nat) (hi : i < es.length), (ecs es)[i * 2 + 1]? = some (.string es[i].v)
  | [], _, hi => by simp at hi
  | e :: r, 0, _ => rfl
  | e :: r, i + 1, hi => by
    rw [show (i + 1) * 2 + 1 = i * 2 + 1 + 1 + 1 by omega]
    simp only [ecs, List.getElem?_cons_succ, List.getElem_cons_succ]
    exact ecs_at1 r i (by simpa using hi)
theorem ecs_one (es : List EntD) : ∀ u ∈ ecs es, u.oneCell' = true := by
  induction es with
  | nil => intro u hu; simp [ecs] at hu
  | cons e r ih =>
    intro u hu
    simp only [ecs, List.mem_cons] at hu
    rcases hu with rfl | rfl | hu
    · rfl
    · rfl
    · exact ih u hu
/-- A slice of entries that the call owns from block B on. -/
abbrev EOwns (w : World) (B : Nat) (v : Value) (es : List EntD) : Prop := w.ownsRow B 43 2 v es.length (ecs es)
theorem erow_of_owns {w : World} {B n c : Nat} {a : Option Addr} {es : List EntD} (h : EOwns w B (.slice a n c) es) : ERow w a n es := by
  have h' := h
  obtain ⟨hl, h⟩ := h
  rcases h with ⟨e, hn⟩ | ⟨g, cap, cur, e, hb, hh, hc, hm, hs, ht⟩
  · injection e with e1 e2 e3
    subst e1 e2 e3
    exact ⟨hn, fun i hi => absurd hi (by omega)⟩
  · injection e with e1 e2 e3
    subst e1 e2 e3
    refine ⟨rfl, fun i hi => ⟨g, 0, rfl, ?_, ?_⟩⟩
    · rw [Nat.zero_add, h'.cellAt (i * 2) (by omega), ecs_at0 es i hi]
    · rw [Nat.zero_add, h'.cellAt (i * 2 + 1) (by omega), ecs_at1 es i hi]
end Go.Proofs.YtfajenejngddeaaGreat
