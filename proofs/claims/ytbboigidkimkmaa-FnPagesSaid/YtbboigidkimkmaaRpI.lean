/-
  The program's reader along bytes: take, one, two, text, done.
-/
import Derived.Test.YtbboigidkimkmaaRpL
import Derived.Test.YtbboigidkimkmaaWrT
namespace Go.Proofs.Ytbboigidkimkmaa
open Go.RowKit

/-- A reader in memory: what is left, and whether it was too short. -/
def RdAt (w : World) (rb D : Nat) (s : Rs) : Prop :=
  ∃ a n c, w.heap[rb]? = some (.cells #[.slice a n c, .bool s.2] 61 (0, 0)) ∧ Row w a n s.1 ∧ n ≤ c ∧ (∀ x, a = some x → x.block ≠ rb ∧ x.block < D) ∧ n ≤ 65536 ∧ rb < D
theorem wr_cell (w : World) (b o : Nat) (v : Value) : Wr (fun i => i = b) w (w.setCell ⟨b, o, none⟩ v) := ⟨rfl, rfl, rfl, by simp [World.setCell], fun k _ hk => Below.heap_setCell _ _ _ _ hk⟩
theorem Row.wr {P : Nat → Prop} {w w' : World} {a : Option Addr} {n : Nat} {xs : List Int} (h : Row w a n xs) (hw : Wr P w w') (hp : ∀ x, a = some x → ¬ P x.block) : Row w' a n xs := by
  refine ⟨h.1, fun i hi => ?_⟩
  obtain ⟨b, off, e, c⟩ := h.2 i hi
  exact ⟨b, off, e, (World.cell?_of_block (w := w) (hw.block b (cell_lt c) (hp _ e))).trans c⟩
theorem heap_lt1 {w : World} {b : Nat} {o : Obj} (h : w.heap[b]? = some o) : b < w.heap.size := (Array.getElem?_eq_some_iff.1 h).1
theorem RdAt.wr {P : Nat → Prop} {w w' : World} {rb D : Nat} {s : Rs} (h : RdAt w rb D s) (hw : Wr P w w') (hp : ∀ i, P i → D ≤ i) : RdAt w' rb D s := by
  obtain ⟨a, n, c, h1, h2, h3, h4, h5, h6⟩ := h
  exact ⟨a, n, c, (hw.block rb (heap_lt1 h1) (fun h => by have := hp _ h; omega)).trans h1, h2.wr hw (fun x hx h => by have := hp _ h; have := (h4 x hx).2; omega), h3, h4, h5, h6⟩
theorem RdAt.below {w w' : World} {rb D : Nat} {s : Rs} (h : RdAt w rb D s) (hb : Below w.heap.size w w') : RdAt w' rb D s :=
  h.wr (P := fun _ => False) (Wr.of_below hb) (fun _ h => h.elim)
theorem RdAt.lt {w : World} {rb D : Nat} {s : Rs} (h : RdAt w rb D s) : rb < w.heap.size ∧ rb < D := by obtain ⟨a, n, c, h1, _, _, _, _, h6⟩ := h; exact ⟨heap_lt1 h1, h6⟩
theorem add_block (y : Addr) (k : Nat) : (y.add k).block = y.block := by
  unfold Addr.add
  split
  · rfl
  · rfl
theorem map_add0 (a : Option Addr) : a.map (·.add 0) = a := by cases a <;> simp [Addr.add]
theorem row_take {w : World} {a : Option Addr} {n k : Nat} {xs : List Int} (h : Row w a n xs) (hk : k ≤ n) : Row w a k (xs.take k) := by
  refine ⟨by rw [List.length_take, h.1]; omega, fun i hi => ?_⟩
  obtain ⟨b, off, e, c⟩ := h.2 i (by omega)
  exact ⟨b, off, e, by rw [c]; simp [List.getD_eq_getElem?_getD, hi]⟩
theorem row_drop {w : World} {b off n k : Nat} {xs : List Int} (h : Row w (some ⟨b, off, none⟩) n xs) (hk : k ≤ n) : Row w (some ⟨b, off + k, none⟩) (n - k) (xs.drop k) := by
  refine ⟨by rw [List.length_drop, h.1], fun i hi => ?_⟩
  obtain ⟨b', off', e, c⟩ := h.2 (k + i) (by omega)
  cases e
  exact ⟨b, off + k, rfl, by rw [Nat.add_assoc, c]; simp [List.getD_eq_getElem?_getD, List.getElem?_drop]⟩
/-- The reader's two cells stored anew. -/
theorem rd_set {w : World} {rb : Nat} {v0 v1 : Value} {t : TypeId} (h : w.heap[rb]? = some (.cells #[v0, v1] t (0, 0))) (u : Value) : (w.setCell ⟨rb, 0, none⟩ u).heap[rb]? = some (.cells #[u, v1] t (0, 0)) := by
  simpa using heap_set h 0 u
theorem rd_set1 {w : World} {rb : Nat} {v0 v1 : Value} {t : TypeId} (h : w.heap[rb]? = some (.cells #[v0, v1] t (0, 0))) (u : Value) : (w.setCell ⟨rb, 1, none⟩ u).heap[rb]? = some (.cells #[v0, u] t (0, 0)) := by
  simpa using heap_set h 1 u
theorem rd_cells {w : World} {rb : Nat} {v0 v1 : Value} {t : TypeId} (h : w.heap[rb]? = some (.cells #[v0, v1] t (0, 0))) : w.cell? ⟨rb, 0, none⟩ = some v0 ∧ w.cell? ⟨rb, 1, none⟩ = some v1 ∧ w.frozen? ⟨rb, 0, none⟩ = false ∧ w.frozen? ⟨rb, 1, none⟩ = false := by
  refine ⟨?_, ?_, ?_, ?_⟩ <;> simp [World.cell?, World.frozen?, h]
/-- What take leaves. -/
def TkRes (w : World) (rb D k : Nat) (s : Rs) (e : Ending) (w' : World) : Prop :=
  ∃ a c, e = .returned (.slice a k c) ∧ Row w' a k (tk k s).1 ∧ RdAt w' rb D (tk k s).2 ∧ Wr (fun i => i = rb) w w'
set_option maxRecDepth 100000 in
set_option maxHeartbeats 4000000 in
theorem take_any (rb D k : Nat) (s : Rs) (w : World) (h : RdAt w rb D s) (hk : k ≤ 65535) :
    Calls Try.prog 69 #[.pointer (some ⟨rb, 0, none⟩), .int .i64 k] w fun e w' => TkRes w rb D k s e w' := by
  obtain ⟨i0, hi, hz0, hz1, hz2⟩ := info_parts Try.infoU8
  obtain ⟨a, n, c, h1, h2, h3, h4, h5, h6⟩ := h
  obtain ⟨c0, c1, f0, f1⟩ := rd_cells h1
  have hL := h2.1
  by_cases hs : n < k
  · have ET := hide (show tk k s = (List.replicate k 0, ([], true)) by unfold tk; rw [if_pos (by omega)])
    have S1 := rd_set1 h1 (.bool true)
    have S2 := rd_set S1 (.slice none 0 0)
    have W2 := (wr_cell w rb 1 (.bool true)).trans (wr_cell (w.setCell ⟨rb, 1, none⟩ (.bool true)) rb 0 (.slice none 0 0))
    have g0 := (rd_cells S1).2.2.1
    have HS := hide S2
    have HW := hide W2
    have hsz : rb < ((w.setCell ⟨rb, 1, none⟩ (.bool true)).setCell ⟨rb, 0, none⟩ (.slice none 0 0)).heap.size := heap_lt1 S2
    have hki : (n : Int) < (k : Int) := by omega
    clear h1 h2 S1 S2 W2 hL
    go_enter Try.func69, Try.ntmps69
    go_wp2_with (at_make; refine wpList_make_full _ rfl _ _ 22 rfl w.heap.size 5 i0 (.int .u8 0) 1 Try.underlying22 hi hz0 hz1 _ _ _ _ k rfl rfl rfl rfl (by rw [hz2]; omega) (by unfold maxLen; omega) (by simp) ?_)
    intro w1 hown hgrow
    rw [toList_madeCells_one] at hown
    have hr : Row w1 (some ⟨w.heap.size, 0, none⟩) k (List.replicate k 0) := by
      refine ⟨by simp, fun i hi => ⟨_, 0, rfl, ?_⟩⟩
      rw [Nat.zero_add, hown.cellAt i (by omega)]
      simp [hi, List.getD_eq_getElem?_getD]
    have hwr : Wr (fun i => i = rb) w w1 := (unhide HW).trans (Wr.of_grown hgrow (fun i h => by cases h))
    have hR : RdAt w1 rb D ([], true) := ⟨none, 0, 0, (hgrow.block rb hsz (by simp)).trans (unhide HS), ⟨rfl, fun i hi => absurd hi (Nat.not_lt_zero _)⟩, Nat.le_refl _, (fun x hx => by cases hx), by omega, h6⟩
    have FIN := hide (show TkRes w rb D k s (.returned (.slice (some ⟨w.heap.size, 0, none⟩) k k)) w1 from ⟨_, _, rfl, by rw [unhide ET]; exact hr, by rw [unhide ET]; exact hR, hwr⟩)
    clear hown hgrow hr hwr hR
    go_wp2_with fail
    go_ret
    exact unhide FIN
  · have hkn : k ≤ n := by omega
    have hki : ¬ ((n : Int) < (k : Int)) := by omega
    have hk1 : (0 : Int) ≤ (k : Int) := by omega
    have hk2 : (k : Int) ≤ (c : Int) := by omega
    have hk3 : (k : Int) ≤ (n : Int) := by omega
    have ET := hide (show tk k s = (s.1.take k, (s.1.drop k, s.2)) by unfold tk; rw [if_neg (by omega)])
    obtain ⟨av, hav⟩ : ∃ av, av = (if c = k then a else a.map (·.add k)) := ⟨_, rfl⟩
    have hD : Row w av (n - k) (s.1.drop k) ∧ ∀ x, av = some x → x.block ≠ rb ∧ x.block < D := by
      by_cases hck : c = k
      · rw [if_pos hck] at hav
        have : n - k = 0 := by omega
        rw [this, hav]
        exact ⟨⟨by rw [List.length_drop, h2.1]; omega, fun i hi => absurd hi (Nat.not_lt_zero _)⟩, h4⟩
      · rw [if_neg hck] at hav
        by_cases h0 : n = 0
        · have : n - k = 0 := by omega
          rw [this]
          refine ⟨⟨by rw [List.length_drop, h2.1]; omega, fun i hi => absurd hi (Nat.not_lt_zero _)⟩, fun x hx => ?_⟩
          rw [hav] at hx
          cases ha : a with
          | none => rw [ha] at hx; cases hx
          | some y =>
            rw [ha] at hx
            simp only [Option.map_some, Option.some.injEq] at hx
            have := h4 y ha
            rw [← hx, add_block]
            exact this
        · obtain ⟨b, off, ha, _⟩ := h2.2 0 (by omega)
          rw [ha] at hav h2
          have e : (⟨b, off, none⟩ : Addr).add k = ⟨b, off + k, none⟩ := by unfold Addr.add; split <;> simp_all
          rw [hav]
          simp only [Option.map_some, e]
          exact ⟨row_drop h2 hkn, fun x hx => by injection hx with hx; rw [← hx]; exact h4 ⟨b, off, none⟩ ha⟩
    have T := row_take h2 hkn
    have S2 := rd_set h1 (.slice av (n - k) (c - k))
    have W2 := wr_cell w rb 0 (.slice av (n - k) (c - k))
    have FIN := hide (show TkRes w rb D k s (.returned (.slice a k k)) (w.setCell ⟨rb, 0, none⟩ (.slice av (n - k) (c - k))) from ⟨_, _, rfl, by rw [unhide ET]; exact T.wr W2 (fun x hx => (h4 x hx).1), by rw [unhide ET]; exact ⟨_, _, _, S2, hD.1.wr W2 (fun x hx => (hD.2 x hx).1), by omega, hD.2, by omega, h6⟩, W2⟩)
    have fin : ∀ v, v = .slice av (n - k) (c - k) → TkRes w rb D k s (.returned (.slice a k k)) (w.setCell ⟨rb, 0, none⟩ v) := fun v hv => by rw [hv]; exact unhide FIN
    have FN := hide fin
    have HAV := hide hav
    clear h1 h2 hD T S2 W2 FIN fin hav
    by_cases hck : c = k
    · subst hck
      have ea : av = a := by rw [unhide HAV, if_pos rfl]
      go_enter Try.func69, Try.ntmps69
      go_wp2_with fail
      go_ret
      exact unhide FN _ (by rw [ea]; simp; omega)
    · have hck' : ¬ (k = c) := fun h => hck h.symm
      have ea : av = a.map (·.add k) := by rw [unhide HAV, if_neg hck]
      by_cases hk0 : k = 0
      · subst hk0
        go_enter Try.func69, Try.ntmps69
        go_wp2_with fail
        go_ret
        exact unhide FN _ (by rw [ea, map_add0]; simp)
      · go_enter Try.func69, Try.ntmps69
        go_wp2_with fail
        go_ret
        exact unhide FN _ (by rw [ea])
end Go.Proofs.Ytbboigidkimkmaa
