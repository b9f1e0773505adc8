/-
  A device whose held sectors are read, or whose read sectors are held, and nothing waits.
-/
import Derived.Test.YtdiakahaghggiaaDevB
import Derived.Test.YtdiakahaghggiaaDevD
namespace Go.Proofs.Ytdiakahaghggiaa
open Go.RowKit Go.Maps

/-- Behind a crash: what is held is read. -/
theorem DevAt.crashed {w w4 : World} {base p mh mr N g : Nat} {v : Value} {S : DS} (h : DevAt w base p mh mr v N S) (hb : Below w.heap.size w w4) (hg : w.heap.size ≤ g) (hs : SecMap w4 g N S.hf) :
    DevAt (((w4.setCell ⟨p, 2, none⟩ (.int .i64 (S.hc : Int))).setCell ⟨p, 3, none⟩ (.map (some g))).setCell ⟨p, 4, none⟩ (.slice none 0 0)) base p mh g (.slice none 0 0) N ⟨S.hc, S.hf, S.hc, S.hf, []⟩ ∧
    Below base w (((w4.setCell ⟨p, 2, none⟩ (.int .i64 (S.hc : Int))).setCell ⟨p, 3, none⟩ (.map (some g))).setCell ⟨p, 4, none⟩ (.slice none 0 0)) := by
  have hp : p < w.heap.size := cell_lt h.c0
  have hlow := h.low
  have hm := h.held.lt
  have old : ∀ j, w4.cell? ⟨p, j, none⟩ = w.cell? ⟨p, j, none⟩ := fun j => hb.cell (p := ⟨p, j, none⟩) hp
  have bl : ∀ k, k ≠ p → (((w4.setCell ⟨p, 2, none⟩ (.int .i64 (S.hc : Int))).setCell ⟨p, 3, none⟩ (.map (some g))).setCell ⟨p, 4, none⟩ (.slice none 0 0)).heap[k]? = w4.heap[k]? := fun k hk => by
    rw [Below.heap_setCell _ _ _ _ hk, Below.heap_setCell _ _ _ _ hk, Below.heap_setCell _ _ _ _ hk]
  have ot : ∀ j, j ≠ 2 → j ≠ 3 → j ≠ 4 → (((w4.setCell ⟨p, 2, none⟩ (.int .i64 (S.hc : Int))).setCell ⟨p, 3, none⟩ (.map (some g))).setCell ⟨p, 4, none⟩ (.slice none 0 0)).cell? ⟨p, j, none⟩ = w.cell? ⟨p, j, none⟩ := fun j h1 h2 h3 => by
    rw [World.cell?_setCell_other _ _ _ _ (by intro e; injection e; omega), World.cell?_setCell_other _ _ _ _ (by intro e; injection e; omega), World.cell?_setCell_other _ _ _ _ (by intro e; injection e; omega)]; exact old j
  obtain ⟨cur, hk⟩ := h.kind
  obtain ⟨cur1, hk1⟩ := setCell_kind (o := 2) (v := .int .i64 (S.hc : Int)) ((hb.block _ hp).trans hk)
  obtain ⟨cur2, hk2⟩ := setCell_kind (o := 3) (v := .map (some g)) hk1
  refine ⟨⟨(ot 0 (by decide) (by decide) (by decide)).trans h.c0, (ot 1 (by decide) (by decide) (by decide)).trans h.c1, ?_, ?_, ?_, setCell_kind hk2, ?_, ?_, ⟨rfl, .inl ⟨rfl, rfl⟩⟩, ⟨hlow.1, hlow.2.1, by omega⟩, ⟨h.apart.1, by omega, by omega⟩, fun b hb => (by cases hb), h.hok, h.hok, fun d hd => (by cases hd)⟩, ?_⟩
  · rw [World.cell?_setCell_other _ _ _ _ (by intro e; injection e; omega), World.cell?_setCell_other _ _ _ _ (by intro e; injection e; omega)]
    exact World.cell?_setCell_same _ _ _ ((old 2).trans h.c2)
  · rw [World.cell?_setCell_other _ _ _ _ (by intro e; injection e; omega)]
    exact World.cell?_setCell_same _ _ _ ((World.cell?_setCell_other _ _ _ _ (by intro e; injection e; omega)).trans ((old 3).trans h.c3))
  · exact World.cell?_setCell_same _ _ _ ((World.cell?_setCell_other _ _ _ _ (by intro e; injection e; omega)).trans ((World.cell?_setCell_other _ _ _ _ (by intro e; injection e; omega)).trans ((old 4).trans h.c4)))
  · exact (h.held.below hb hm).block (bl _ (fun e => h.apart.1 e.symm))
  · exact hs.block (bl _ (by omega))
  · exact (((hb.mono (by omega)).setCell (p := ⟨p, 2, none⟩) (by simp; omega) _).setCell (p := ⟨p, 3, none⟩) (by simp; omega) _).setCell (p := ⟨p, 4, none⟩) (by simp; omega) _
/-- Behind a sync: what is read is held. -/
theorem DevAt.synced {w w4 : World} {base p mh mr N g : Nat} {v : Value} {S : DS} (h : DevAt w base p mh mr v N S) (hb : Below w.heap.size w w4) (hg : w.heap.size ≤ g) (hs : SecMap w4 g N S.rf) :
    DevAt (((w4.setCell ⟨p, 0, none⟩ (.int .i64 (S.rc : Int))).setCell ⟨p, 1, none⟩ (.map (some g))).setCell ⟨p, 4, none⟩ (.slice none 0 0)) base p g mr (.slice none 0 0) N ⟨S.rc, S.rf, S.rc, S.rf, []⟩ ∧
    Below base w (((w4.setCell ⟨p, 0, none⟩ (.int .i64 (S.rc : Int))).setCell ⟨p, 1, none⟩ (.map (some g))).setCell ⟨p, 4, none⟩ (.slice none 0 0)) := by
  have hp : p < w.heap.size := cell_lt h.c0
  have hlow := h.low
  have hm := h.read.lt
  have old : ∀ j, w4.cell? ⟨p, j, none⟩ = w.cell? ⟨p, j, none⟩ := fun j => hb.cell (p := ⟨p, j, none⟩) hp
  have bl : ∀ k, k ≠ p → (((w4.setCell ⟨p, 0, none⟩ (.int .i64 (S.rc : Int))).setCell ⟨p, 1, none⟩ (.map (some g))).setCell ⟨p, 4, none⟩ (.slice none 0 0)).heap[k]? = w4.heap[k]? := fun k hk => by
    rw [Below.heap_setCell _ _ _ _ hk, Below.heap_setCell _ _ _ _ hk, Below.heap_setCell _ _ _ _ hk]
  have ot : ∀ j, j ≠ 0 → j ≠ 1 → j ≠ 4 → (((w4.setCell ⟨p, 0, none⟩ (.int .i64 (S.rc : Int))).setCell ⟨p, 1, none⟩ (.map (some g))).setCell ⟨p, 4, none⟩ (.slice none 0 0)).cell? ⟨p, j, none⟩ = w.cell? ⟨p, j, none⟩ := fun j h1 h2 h3 => by
    rw [World.cell?_setCell_other _ _ _ _ (by intro e; injection e; omega), World.cell?_setCell_other _ _ _ _ (by intro e; injection e; omega), World.cell?_setCell_other _ _ _ _ (by intro e; injection e; omega)]; exact old j
  obtain ⟨cur, hk⟩ := h.kind
  obtain ⟨cur1, hk1⟩ := setCell_kind (o := 0) (v := .int .i64 (S.rc : Int)) ((hb.block _ hp).trans hk)
  obtain ⟨cur2, hk2⟩ := setCell_kind (o := 1) (v := .map (some g)) hk1
  refine ⟨⟨?_, ?_, (ot 2 (by decide) (by decide) (by decide)).trans h.c2, (ot 3 (by decide) (by decide) (by decide)).trans h.c3, ?_, setCell_kind hk2, ?_, ?_, ⟨rfl, .inl ⟨rfl, rfl⟩⟩, ⟨hlow.1, by omega, hlow.2.2⟩, ⟨by omega, h.apart.2.1, by omega⟩, fun b hb => (by cases hb), h.rok, h.rok, fun d hd => (by cases hd)⟩, ?_⟩
  · rw [World.cell?_setCell_other _ _ _ _ (by intro e; injection e; omega), World.cell?_setCell_other _ _ _ _ (by intro e; injection e; omega)]
    exact World.cell?_setCell_same _ _ _ ((old 0).trans h.c0)
  · rw [World.cell?_setCell_other _ _ _ _ (by intro e; injection e; omega)]
    exact World.cell?_setCell_same _ _ _ ((World.cell?_setCell_other _ _ _ _ (by intro e; injection e; omega)).trans ((old 1).trans h.c1))
  · exact World.cell?_setCell_same _ _ _ ((World.cell?_setCell_other _ _ _ _ (by intro e; injection e; omega)).trans ((World.cell?_setCell_other _ _ _ _ (by intro e; injection e; omega)).trans ((old 4).trans h.c4)))
  · exact hs.block (bl _ (by omega))
  · exact (h.read.below hb hm).block (bl _ (fun e => h.apart.2.1 e.symm))
  · exact (((hb.mono (by omega)).setCell (p := ⟨p, 0, none⟩) (by simp; omega) _).setCell (p := ⟨p, 1, none⟩) (by simp; omega) _).setCell (p := ⟨p, 4, none⟩) (by simp; omega) _
end Go.Proofs.Ytdiakahaghggiaa
