/-
  The reader along words: the next word, the end.
-/
import Derived.Test.YtmogcfiioajaeaaDoorAlB
import Derived.WalkLawsBesides
namespace Go.Proofs.YtmogcfiioajaeaaDoor
open Go.RowKit

/-- What the reading of words that tell no act ends with. -/
def noE : Ending := .panicked [{ v := .iface 9 (.string ⟨#[110, 111, 32, 97, 99, 116]⟩), recovered := false }]
/-- A reader whose words are still to be read. -/
def RdW (w : World) (R : Nat) (L : List ByteArray) : Prop :=
  ∃ a n c, w.heap[R]? = some (.cells #[.slice a n c] 44 (0, 0)) ∧ StrRow w a n L ∧ n ≤ c ∧ n ≤ 70000 ∧ (∀ x, a = some x → x.block + 2 < R) ∧ ∀ x ∈ L, x.size ≤ 65536
theorem strrow_set {w : World} {a : Option Addr} {n R j : Nat} {L : List ByteArray} {v : Value} (h : StrRow w a n L) (ha : ∀ x, a = some x → x.block + 2 < R) : StrRow (w.setCell ⟨R, j, none⟩ v) a n L := by
  refine ⟨h.1, fun i hi => ?_⟩
  obtain ⟨b, off, e, c⟩ := h.2 i hi
  exact ⟨b, off, e, (World.cell?_setCell_other _ _ _ _ (by intro q; simp only [Addr.mk.injEq] at q; have := ha _ e; simp only at this; omega)).trans c⟩
theorem strrow_tail {w : World} {b off n c : Nat} {x : ByteArray} {L : List ByteArray} (h : StrRow w (some ⟨b, off, none⟩) n (x :: L)) (hc : n ≤ c) : StrRow w (if c = 1 then some ⟨b, off, none⟩ else some ⟨b, off + 1, none⟩) (n - 1) L := by
  have hl := h.1
  rw [List.length_cons] at hl
  refine ⟨by omega, fun i hi => ?_⟩
  rw [if_neg (by omega)]
  obtain ⟨b', off', e, q⟩ := h.2 (i + 1) (by rw [List.length_cons]; omega)
  injection e with e
  injection e with e1 e2 _
  subst e1 e2
  refine ⟨b, off + 1, rfl, ?_⟩
  rw [List.getElem_cons_succ] at q
  rw [show off + 1 + i = off + (i + 1) by omega]
  exact q
set_option maxHeartbeats 1000000 in
theorem word_cons (R : Nat) (k : ByteArray) (r : List ByteArray) (w : World) (h : RdW w R (k :: r)) :
    Calls Tryd.prog 28 #[.pointer (some ⟨R, 0, none⟩)] w fun e w' => e = .returned (.string k) ∧ RdW w' R r ∧ Wrote R w w' := by
  obtain ⟨a, n, c, hb, hs, hc, hn, ha, hz⟩ := h
  have hl := hs.1
  rw [List.length_cons] at hl
  obtain ⟨b, off, rfl, c0⟩ := hs.2 0 (by simp)
  rw [List.getElem_cons_zero, Nat.add_zero] at c0
  have hR := ha _ rfl
  have l0 := (heap_at hb 0).1
  have f0 := (heap_at hb 0).2
  have hn0 : ((n : Int) == 0) = false := by rw [beq_eq_false_iff_ne]; omega
  have hi0 : (0 : Int) < (n : Int) := by omega
  have hn1 : (1 : Int) ≤ (n : Int) := by omega
  have hc1 : (1 : Int) ≤ (c : Int) := by omega
  have TL := strrow_tail hs hc
  have RES := hide (show RdW (w.setCell ⟨R, 0, none⟩ (.slice (if c = 1 then some ⟨b, off, none⟩ else some ⟨b, off + 1, none⟩) (n - 1) (c - 1))) R r ∧ Wrote R w (w.setCell ⟨R, 0, none⟩ (.slice (if c = 1 then some ⟨b, off, none⟩ else some ⟨b, off + 1, none⟩) (n - 1) (c - 1))) from by
    have hb' : ∀ x, (if c = 1 then some (⟨b, off, none⟩ : Addr) else some ⟨b, off + 1, none⟩) = some x → x.block + 2 < R := fun x e => by
      split at e
      · injection e with e; rw [← e]; exact hR
      · injection e with e; rw [← e]; exact hR
    exact ⟨⟨_, _, _, heap_set hb 0 _, strrow_set TL hb', by omega, by omega, hb', fun x hx => hz x (List.mem_cons_of_mem _ hx)⟩, Wrote.set w R 0 _⟩)
  clear hb hs ha hz TL hl hR
  by_cases hq : c = 1
  · subst hq
    obtain rfl : n = 1 := by omega
    rw [if_pos rfl] at RES
    go_enter Tryd.func28, Tryd.ntmps28
    go_wp2_with fail
    go_ret
    exact ⟨rfl, (unhide RES).1, (unhide RES).2⟩
  · rw [if_neg hq] at RES
    go_enter Tryd.func28, Tryd.ntmps28
    go_wp2_with fail
    go_ret
    exact ⟨rfl, (unhide RES).1, (unhide RES).2⟩
theorem word_nil (R : Nat) (w : World) (h : RdW w R []) :
    Calls Tryd.prog 28 #[.pointer (some ⟨R, 0, none⟩)] w fun e w' => e = noE ∧ w' = w := by
  obtain ⟨a, n, c, hb, hs, hc, hn, ha, hz⟩ := h
  have hl := hs.1
  rw [List.length_nil] at hl
  subst hl
  have l0 := (heap_at hb 0).1
  clear hb hs ha hz
  go_enter Tryd.func28, Tryd.ntmps28
  go_wp2_with fail
  exact ⟨rfl, rfl, rfl⟩
theorem end_nil (R : Nat) (w : World) (h : RdW w R []) :
    Calls Tryd.prog 22 #[.pointer (some ⟨R, 0, none⟩)] w fun e w' => e = .returned (.tuple #[]) ∧ w' = w := by
  obtain ⟨a, n, c, hb, hs, hc, hn, ha, hz⟩ := h
  have hl := hs.1
  rw [List.length_nil] at hl
  subst hl
  have l0 := (heap_at hb 0).1
  clear hb hs ha hz
  go_enter Tryd.func22, Tryd.ntmps22
  go_wp2_with fail
  first | go_end0 | exact ⟨rfl, rfl⟩ | skip
  exact ⟨rfl, rfl⟩
theorem end_cons (R : Nat) (k : ByteArray) (r : List ByteArray) (w : World) (h : RdW w R (k :: r)) :
    Calls Tryd.prog 22 #[.pointer (some ⟨R, 0, none⟩)] w fun e w' => e = noE ∧ w' = w := by
  obtain ⟨a, n, c, hb, hs, hc, hn, ha, hz⟩ := h
  have hl := hs.1
  rw [List.length_cons] at hl
  have l0 := (heap_at hb 0).1
  have hi0 : (0 : Int) < (n : Int) := by omega
  clear hb hs ha hz hl
  go_enter Tryd.func22, Tryd.ntmps22
  go_wp2_with fail
  exact ⟨rfl, rfl, rfl⟩
/-- The next word, the empty one behind the last. -/
theorem any_nil (R : Nat) (w : World) (h : RdW w R []) :
    Calls Tryd.prog 46 #[.pointer (some ⟨R, 0, none⟩)] w fun e w' => e = .returned (.string ⟨#[]⟩) ∧ w' = w := by
  obtain ⟨a, n, c, hb, hs, hc, hn, ha, hz⟩ := h
  have hl := hs.1
  rw [List.length_nil] at hl
  subst hl
  have l0 := (heap_at hb 0).1
  clear hb hs ha hz
  go_enter Tryd.func46, Tryd.ntmps46
  go_wp2_with fail
  go_ret
  exact ⟨rfl, rfl⟩
theorem any_cons (R : Nat) (k : ByteArray) (r : List ByteArray) (w : World) (h : RdW w R (k :: r)) :
    Calls Tryd.prog 46 #[.pointer (some ⟨R, 0, none⟩)] w fun e w' => e = .returned (.string k) ∧ RdW w' R r ∧ Wrote R w w' := by
  have C := hide (word_cons R k r w h)
  obtain ⟨a, n, c, hb, hs, hc, hn, ha, hz⟩ := h
  have hl := hs.1
  rw [List.length_cons] at hl
  have l0 := (heap_at hb 0).1
  have hn0 : ((n : Int) == 0) = false := by rw [beq_eq_false_iff_ne]; omega
  clear hb hs ha hz hl
  go_enter Tryd.func46, Tryd.ntmps46
  go_wp2_with fail
  refine (unhide C).mono ?_
  rintro e w1 ⟨rfl, hr, hw⟩
  have RES := hide (And.intro hr hw)
  clear hr hw C l0
  go_wp2_with fail
  go_ret
  exact ⟨rfl, (unhide RES).1, (unhide RES).2⟩
end Go.Proofs.YtmogcfiioajaeaaDoor
