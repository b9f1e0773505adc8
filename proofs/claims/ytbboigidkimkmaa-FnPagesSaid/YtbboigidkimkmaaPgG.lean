/-
  Appends of lists of the call's own, nil or not; slices.Grow and slices.Concat over entries and changes.
-/
import Derived.Test.YtbboigidkimkmaaPageN
import Derived.Test.YtbboigidkimkmaaPgT
import Derived.Lib.AppendZeros
namespace Go.Proofs.Ytbboigidkimkmaa
open Go.RowKit

theorem erow_src {w : World} {ad : Addr} {n : Nat} {es : List EntD} (h : ERow w (some ad) n es) : ∀ t u, (ecs es)[t]? = some u → w.cell? (ad.add t) = some u := by
  intro t u hu
  have hl : t < es.length * 2 := by
    have := (List.getElem?_eq_some_iff.1 hu).1
    rwa [ecs_len] at this
  obtain ⟨b, off, e, c0, c1⟩ := h.2 (t / 2) (by omega)
  injection e with e
  subst e
  rw [Addr.add_lit]
  rcases Nat.mod_two_eq_zero_or_one t with h0 | h0
  · obtain ⟨m, rfl⟩ : ∃ m, t = m * 2 := ⟨t / 2, by omega⟩
    have hm : m * 2 / 2 = m := by omega
    have hml : m < es.length := by omega
    simp only [hm] at c0
    rw [ecs_at0 _ m hml] at hu
    rw [c0, ← hu]
  · obtain ⟨m, rfl⟩ : ∃ m, t = m * 2 + 1 := ⟨t / 2, by omega⟩
    have hm : (m * 2 + 1) / 2 = m := by omega
    have hml : m < es.length := by omega
    simp only [hm] at c1
    rw [ecs_at1 _ m hml] at hu
    rw [show off + (m * 2 + 1) = off + m * 2 + 1 by omega, c1, ← hu]
theorem drow_src {w : World} {ad : Addr} {n : Nat} {ds : List DelD} (h : DRow w (some ad) n ds) : ∀ t u, (dcs ds)[t]? = some u → w.cell? (ad.add t) = some u := by
  intro t u hu
  have hl : t < ds.length * 4 := by
    have := (List.getElem?_eq_some_iff.1 hu).1
    rwa [dcs_len] at this
  obtain ⟨m, r, hr, rfl⟩ : ∃ m r, r < 4 ∧ t = m * 4 + r := ⟨t / 4, t % 4, Nat.mod_lt _ (by omega), by omega⟩
  have hm : m < ds.length := by omega
  obtain ⟨b, off, e, c0, c1, c2, c3⟩ := h.2 m hm
  injection e with e
  subst e
  rw [Addr.add_lit]
  obtain ⟨a0, a1, a2, a3⟩ := dcs_at ds m hm
  match r, hr with
  | 0, _ => rw [Nat.add_zero] at hu ⊢; rw [a0] at hu; rw [c0, ← hu]
  | 1, _ => rw [a1] at hu; rw [← Nat.add_assoc, c1, ← hu]
  | 2, _ => rw [a2] at hu; rw [← Nat.add_assoc, c2, ← hu]
  | 3, _ => rw [a3] at hu; rw [← Nat.add_assoc, c3, ← hu]
theorem erow_none {w : World} {n : Nat} {es : List EntD} (h : ERow w none n es) : n = 0 ∧ es = [] := by
  have h0 : es.length = 0 := by
    rcases Nat.eq_zero_or_pos es.length with h' | h'
    · exact h'
    · obtain ⟨_, _, e, _⟩ := h.2 0 h'; cases e
  exact ⟨by have := h.1; omega, List.eq_nil_of_length_eq_zero h0⟩
theorem drow_none {w : World} {n : Nat} {ds : List DelD} (h : DRow w none n ds) : n = 0 ∧ ds = [] := by
  have h0 : ds.length = 0 := by
    rcases Nat.eq_zero_or_pos ds.length with h' | h'
    · exact h'
    · obtain ⟨_, _, e, _⟩ := h.2 0 h'; cases e
  exact ⟨by have := h.1; omega, List.eq_nil_of_length_eq_zero h0⟩
/-- What slices.Grow makes of nil: a row with room, and nothing in it. -/
theorem grow_owns {w : World} {B e size n : Nat} {z : Value} (hz : z.cells.size = size) (hn : n ≤ maxLen) (hB : B ≤ w.heap.size) : (w.drew.alloc (.cells (Builtin.zeroCells z.cells n ++ Builtin.zeroCells z.cells (grownCap w n 0 e - n)) e)).ownsRow B e size (.slice (some ⟨w.heap.size, 0, none⟩) 0 (grownCap w n 0 e)) 0 [] := by
  have hge := grownCap_ge w n 0 e
  have hcm := grownCap_le_maxLen w n 0 e hn
  refine ⟨by simp, .inr ⟨w.heap.size, _, _, rfl, hB, heap_alloc_new w.drew _, Nat.zero_le _, hcm, ?_, by simp⟩⟩
  rw [Array.size_append, size_zeroCells, size_zeroCells, hz, ← Nat.add_mul]
  congr 1
  omega

/-- append(a row of the call's own, a list...), nil or not. -/
theorem run_appE {w : World} {B : Nat} {v : Value} {a : Option Addr} {n c : Nat} {xs es : List EntD} (ty : TypeId) (hO : EOwns w B v xs) (hR : ERow w a n es) (hx : xs.length ≤ 2000000) (hn : n ≤ 2000000) (hc : a = none → c = 0) (hB : B ≤ w.heap.size) :
    ∃ v' w', (Builtin.append_ #[23, 23] ty #[v, .slice a n c]).run Try.prog w = .ok v' w' ∧ EOwns w' B v' (xs ++ es) ∧ w.grownBy w' v.ownBlock ∧ (v ≠ .slice none 0 0 → v' ≠ .slice none 0 0) := by
  obtain ⟨i0, hi0, hz0, hz1, hz2⟩ := info_parts Try.infoEntry
  cases a with
  | none =>
    obtain rfl := hc rfl
    obtain ⟨rfl, rfl⟩ := erow_none hR
    exact ⟨v, w, run_append_owned_none (P := Try.prog) w B 23 ty 57 i0 2 Try.underlying23 hi0 _ _ _ hO, by rw [List.append_nil]; exact hO, ⟨rfl, rfl, rfl, Nat.le_refl _, fun _ _ _ => rfl⟩, fun h => h⟩
  | some ad =>
    obtain ⟨v', w', hr, ho, hg, hv⟩ := run_append_own (P := Try.prog) w B 23 ty 57 i0 (.agg #[.string ByteArray.empty, .string ByteArray.empty]) 2 32 Try.underlying23 hi0 hz0 hz1 hz2 rfl (by decide) _ _ _ hO ad n c (ecs es) (by rw [ecs_len, hR.1]) (erow_src hR) (ecs_one _) (by unfold maxLen; omega) (by omega) hB
    refine ⟨v', w', hr, ?_, hg, fun h h' => h (hv.1 h').1⟩
    unfold EOwns
    rw [ecs_append, List.length_append, hR.1]
    exact ho
set_option maxRecDepth 100000 in
set_option maxHeartbeats 4000000 in
theorem growE (n : Nat) (w : World) (hn : n ≤ 2000000) :
    Calls Try.prog 66 #[.slice none 0 0, .int .i64 (n : Int)] w fun e w' => ∃ v, e = .returned v ∧ EOwns w' w.heap.size v [] ∧ (0 < n → v ≠ .slice none 0 0) ∧ Below w.heap.size w w' := by
  obtain ⟨i0, hi0, hz0, hz1, hz2⟩ := info_parts Try.infoEntry
  by_cases h0 : 0 < n
  · have hr := Lib.run_append_nil_zeros (P := Try.prog) w 23 3 23 57 i0 (.agg #[.string ByteArray.empty, .string ByteArray.empty]) .i64 .i64 Try.underlying23 Try.underlying3 hi0 hz0 n h0 (by omega) (by omega) (by rw [hz2]; omega)
    have HO := hide (grow_owns (w := w) (B := w.heap.size) (e := 57) (size := 2) (n := n) (z := .agg #[.string ByteArray.empty, .string ByteArray.empty]) rfl (by unfold maxLen; omega) (Nat.le_refl _))
    have HB := hide (show Below w.heap.size w _ from ((Below.refl w.heap.size w).drew.alloc (Nat.le_refl _) (.cells (Builtin.zeroCells (Value.cells (.agg #[.string ByteArray.empty, .string ByteArray.empty])) n ++ Builtin.zeroCells (Value.cells (.agg #[.string ByteArray.empty, .string ByteArray.empty])) (grownCap w n 0 57 - n)) 57)))
    obtain ⟨W, hW⟩ : ∃ W, W = w.drew.alloc (.cells (Builtin.zeroCells (Value.cells (.agg #[.string ByteArray.empty, .string ByteArray.empty])) n ++ Builtin.zeroCells (Value.cells (.agg #[.string ByteArray.empty, .string ByteArray.empty])) (grownCap w n 0 57 - n)) 57) := ⟨_, rfl⟩
    rw [← hW] at hr HO HB
    generalize grownCap w n 0 57 = cap at *
    clear hW
    go_enter Try.func66, Try.ntmps66
    go_wp2_with (at_builtin; refine Lib.wpList_append_run _ rfl _ _ 23 3 rfl _ _ rfl rfl _ W hr ?_)
    go_ret
    exact ⟨.slice (some ⟨w.heap.size, 0, none⟩) 0 cap, rfl, unhide HO, fun _ h => (by cases h), unhide HB⟩
  · obtain rfl : n = 0 := by omega
    go_enter Try.func66, Try.ntmps66
    go_wp2_with fail
    go_ret
    exact ⟨.slice none 0 0, rfl, World.ownsRow_nil _ _ _ _, fun h => absurd h (by omega), Below.refl _ _⟩
/-- append(a row of the call's own, a list...), nil or not. -/
theorem run_appD {w : World} {B : Nat} {v : Value} {a : Option Addr} {n c : Nat} {xs ds : List DelD} (ty : TypeId) (hO : DOwns w B v xs) (hR : DRow w a n ds) (hx : xs.length ≤ 2000000) (hn : n ≤ 2000000) (hc : a = none → c = 0) (hB : B ≤ w.heap.size) :
    ∃ v' w', (Builtin.append_ #[24, 24] ty #[v, .slice a n c]).run Try.prog w = .ok v' w' ∧ DOwns w' B v' (xs ++ ds) ∧ w.grownBy w' v.ownBlock ∧ (v ≠ .slice none 0 0 → v' ≠ .slice none 0 0) := by
  obtain ⟨i0, hi0, hz0, hz1, hz2⟩ := info_parts Try.infoDelta
  cases a with
  | none =>
    obtain rfl := hc rfl
    obtain ⟨rfl, rfl⟩ := drow_none hR
    exact ⟨v, w, run_append_owned_none (P := Try.prog) w B 24 ty 41 i0 4 Try.underlying24 hi0 _ _ _ hO, by rw [List.append_nil]; exact hO, ⟨rfl, rfl, rfl, Nat.le_refl _, fun _ _ _ => rfl⟩, fun h => h⟩
  | some ad =>
    obtain ⟨v', w', hr, ho, hg, hv⟩ := run_append_own (P := Try.prog) w B 24 ty 41 i0 (.agg #[.int .i64 0, .string ByteArray.empty, .string ByteArray.empty, .int .i64 0]) 4 48 Try.underlying24 hi0 hz0 hz1 hz2 rfl (by decide) _ _ _ hO ad n c (dcs ds) (by rw [dcs_len, hR.1]) (drow_src hR) (dcs_one _) (by unfold maxLen; omega) (by omega) hB
    refine ⟨v', w', hr, ?_, hg, fun h h' => h (hv.1 h').1⟩
    unfold DOwns
    rw [dcs_append, List.length_append, hR.1]
    exact ho
set_option maxRecDepth 100000 in
set_option maxHeartbeats 4000000 in
theorem growDP (n : Nat) (w : World) (hn : n ≤ 2000000) :
    Calls Try.prog 67 #[.slice none 0 0, .int .i64 (n : Int)] w fun e w' => ∃ v, e = .returned v ∧ DOwns w' w.heap.size v [] ∧ (0 < n → v ≠ .slice none 0 0) ∧ Below w.heap.size w w' := by
  obtain ⟨i0, hi0, hz0, hz1, hz2⟩ := info_parts Try.infoDelta
  by_cases h0 : 0 < n
  · have hr := Lib.run_append_nil_zeros (P := Try.prog) w 24 3 24 41 i0 (.agg #[.int .i64 0, .string ByteArray.empty, .string ByteArray.empty, .int .i64 0]) .i64 .i64 Try.underlying24 Try.underlying3 hi0 hz0 n h0 (by omega) (by omega) (by rw [hz2]; omega)
    have HO := hide (grow_owns (w := w) (B := w.heap.size) (e := 41) (size := 4) (n := n) (z := .agg #[.int .i64 0, .string ByteArray.empty, .string ByteArray.empty, .int .i64 0]) rfl (by unfold maxLen; omega) (Nat.le_refl _))
    have HB := hide (show Below w.heap.size w _ from ((Below.refl w.heap.size w).drew.alloc (Nat.le_refl _) (.cells (Builtin.zeroCells (Value.cells (.agg #[.int .i64 0, .string ByteArray.empty, .string ByteArray.empty, .int .i64 0])) n ++ Builtin.zeroCells (Value.cells (.agg #[.int .i64 0, .string ByteArray.empty, .string ByteArray.empty, .int .i64 0])) (grownCap w n 0 41 - n)) 41)))
    obtain ⟨W, hW⟩ : ∃ W, W = w.drew.alloc (.cells (Builtin.zeroCells (Value.cells (.agg #[.int .i64 0, .string ByteArray.empty, .string ByteArray.empty, .int .i64 0])) n ++ Builtin.zeroCells (Value.cells (.agg #[.int .i64 0, .string ByteArray.empty, .string ByteArray.empty, .int .i64 0])) (grownCap w n 0 41 - n)) 41) := ⟨_, rfl⟩
    rw [← hW] at hr HO HB
    generalize grownCap w n 0 41 = cap at *
    clear hW
    go_enter Try.func67, Try.ntmps67
    go_wp2_with (at_builtin; refine Lib.wpList_append_run _ rfl _ _ 24 3 rfl _ _ rfl rfl _ W hr ?_)
    go_ret
    exact ⟨.slice (some ⟨w.heap.size, 0, none⟩) 0 cap, rfl, unhide HO, fun _ h => (by cases h), unhide HB⟩
  · obtain rfl : n = 0 := by omega
    go_enter Try.func67, Try.ntmps67
    go_wp2_with fail
    go_ret
    exact ⟨.slice none 0 0, rfl, World.ownsRow_nil _ _ _ _, fun h => absurd h (by omega), Below.refl _ _⟩
end Go.Proofs.Ytbboigidkimkmaa
