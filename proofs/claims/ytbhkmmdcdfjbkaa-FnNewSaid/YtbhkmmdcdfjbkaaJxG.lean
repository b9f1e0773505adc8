/-
  Appends of lists of Refs, nil or not; slices.Grow and slices.Concat of one list of Refs.
-/
import Derived.Test.YtbhkmmdcdfjbkaaJxT
import Derived.Test.YtbhkmmdcdfjbkaaPgG
namespace Go.Proofs.Ytbhkmmdcdfjbkaa
open Go.RowKit

theorem jrow_src {w : World} {ad : Addr} {n : Nat} {ds : List RefD} (h : JRow w (some ad) n ds) : ∀ t u, (jcs ds)[t]? = some u → w.cell? (ad.add t) = some u := by
  intro t u hu
  have hl : t < ds.length * 2 := by
    have := (List.getElem?_eq_some_iff.1 hu).1
    rwa [jcs_len] at this
  obtain ⟨m, r, hr, rfl⟩ : ∃ m r, r < 2 ∧ t = m * 2 + r := ⟨t / 2, t % 2, Nat.mod_lt _ (by omega), by omega⟩
  have hm : m < ds.length := by omega
  obtain ⟨b, off, e, c0, c1⟩ := h.2 m hm
  injection e with e
  subst e
  rw [Addr.add_lit]
  obtain ⟨a0, a1⟩ := jcs_at ds m hm
  match r, hr with
  | 0, _ => rw [Nat.add_zero] at hu ⊢; rw [a0] at hu; rw [c0, ← hu]
  | 1, _ => rw [a1] at hu; rw [← Nat.add_assoc, c1, ← hu]
theorem jrow_none {w : World} {n : Nat} {ds : List RefD} (h : JRow w none n ds) : n = 0 ∧ ds = [] := by
  have h0 : ds.length = 0 := by
    rcases Nat.eq_zero_or_pos ds.length with h' | h'
    · exact h'
    · obtain ⟨_, _, e, _⟩ := h.2 0 h'; cases e
  exact ⟨by have := h.1; omega, List.eq_nil_of_length_eq_zero h0⟩
/-- append(a row of the call's own, a list...), nil or not. -/
theorem run_appJ {w : World} {B : Nat} {v : Value} {a : Option Addr} {n c : Nat} {xs ds : List RefD} (ty : TypeId) (hO : JOwns w B v xs) (hR : JRow w a n ds) (hx : xs.length ≤ 2000000) (hn : n ≤ 2000000) (hc : a = none → c = 0) (hB : B ≤ w.heap.size) :
    ∃ v' w', (Builtin.append_ #[28, 28] ty #[v, .slice a n c]).run Try.prog w = .ok v' w' ∧ JOwns w' B v' (xs ++ ds) ∧ w.grownBy w' v.ownBlock ∧ (v ≠ .slice none 0 0 → v' ≠ .slice none 0 0) := by
  obtain ⟨i0, hi0, hz0, hz1, hz2⟩ := info_parts Try.infoRef
  cases a with
  | none =>
    obtain rfl := hc rfl
    obtain ⟨rfl, rfl⟩ := jrow_none hR
    exact ⟨v, w, run_append_owned_none (P := Try.prog) w B 28 ty 53 i0 2 Try.underlying28 hi0 _ _ _ hO, by rw [List.append_nil]; exact hO, ⟨rfl, rfl, rfl, Nat.le_refl _, fun _ _ _ => rfl⟩, fun h => h⟩
  | some ad =>
    obtain ⟨v', w', hr, ho, hg, hv⟩ := run_append_own (P := Try.prog) w B 28 ty 53 i0 (.agg #[.string ByteArray.empty, .int .i64 0]) 2 24 Try.underlying28 hi0 hz0 hz1 hz2 rfl (by decide) _ _ _ hO ad n c (jcs ds) (by rw [jcs_len, hR.1]) (jrow_src hR) (jcs_one _) (by unfold maxLen; omega) (by omega) hB
    refine ⟨v', w', hr, ?_, hg, fun h h' => h (hv.1 h').1⟩
    unfold JOwns
    rw [jcs_append, List.length_append, hR.1]
    exact ho
set_option maxRecDepth 100000 in
set_option maxHeartbeats 4000000 in
theorem growJ (n : Nat) (w : World) (hn : n ≤ 2000000) :
    Calls Try.prog 51 #[.slice none 0 0, .int .i64 (n : Int)] w fun e w' => ∃ v, e = .returned v ∧ JOwns w' w.heap.size v [] ∧ (0 < n → v ≠ .slice none 0 0) ∧ Below w.heap.size w w' := by
  obtain ⟨i0, hi0, hz0, hz1, hz2⟩ := info_parts Try.infoRef
  by_cases h0 : 0 < n
  · have hr := Lib.run_append_nil_zeros (P := Try.prog) w 28 3 28 53 i0 (.agg #[.string ByteArray.empty, .int .i64 0]) .i64 .i64 Try.underlying28 Try.underlying3 hi0 hz0 n h0 (by omega) (by omega) (by rw [hz2]; omega)
    have HO := hide (grow_owns (w := w) (B := w.heap.size) (e := 53) (size := 2) (n := n) (z := .agg #[.string ByteArray.empty, .int .i64 0]) rfl (by unfold maxLen; omega) (Nat.le_refl _))
    have HB := hide (show Below w.heap.size w _ from ((Below.refl w.heap.size w).drew.alloc (Nat.le_refl _) (.cells (Builtin.zeroCells (Value.cells (.agg #[.string ByteArray.empty, .int .i64 0])) n ++ Builtin.zeroCells (Value.cells (.agg #[.string ByteArray.empty, .int .i64 0])) (grownCap w n 0 53 - n)) 53)))
    obtain ⟨W, hW⟩ : ∃ W, W = w.drew.alloc (.cells (Builtin.zeroCells (Value.cells (.agg #[.string ByteArray.empty, .int .i64 0])) n ++ Builtin.zeroCells (Value.cells (.agg #[.string ByteArray.empty, .int .i64 0])) (grownCap w n 0 53 - n)) 53) := ⟨_, rfl⟩
    rw [← hW] at hr HO HB
    generalize grownCap w n 0 53 = cap at *
    clear hW
    go_enter Try.func51, Try.ntmps51
    go_wp2_with (at_builtin; refine Lib.wpList_append_run _ rfl _ _ 28 3 rfl _ _ rfl rfl _ W hr ?_)
    go_ret
    exact ⟨.slice (some ⟨w.heap.size, 0, none⟩) 0 cap, rfl, unhide HO, fun _ h => (by cases h), unhide HB⟩
  · obtain rfl : n = 0 := by omega
    go_enter Try.func51, Try.ntmps51
    go_wp2_with fail
    go_ret
    exact ⟨.slice none 0 0, rfl, World.ownsRow_nil _ _ _ _, fun h => absurd h (by omega), Below.refl _ _⟩
set_option maxRecDepth 100000 in
set_option maxHeartbeats 4000000 in
theorem concatJ1 (ob : Nat) (a : Option Addr) (n c : Nat) (es : List RefD) (w : World) (hc : w.cell? ⟨ob, 0, none⟩ = some (.slice a n c)) (hR : JRow w a n es) (hcn : a = none → c = 0) (hn : n ≤ 1100000) :
    Calls Try.prog 29 #[.slice (some ⟨ob, 0, none⟩) 1 1] w fun e w' => ∃ v, e = .returned v ∧ JOwns w' w.heap.size v es ∧ Below w.heap.size w w' := by
  have R := hide hR
  have hob := cell_lt hc
  clear hR
  go_enter Try.func29, Try.ntmps29
  go_wp2_with fail
  refine wp_loop_rounds 2 ?_
  rw [rounds_succ]
  go_wp2_with fail
  rw [rounds_succ]
  go_wp2_with fail
  refine (growJ n w (by omega)).mono ?_
  rintro e w1 ⟨v1, rfl, hO, _, hb⟩
  obtain ⟨v2, w2, hr, hO2, hg2, _⟩ := run_appJ (c := c) 28 hO ((unhide R).below hb) (by simp) (by omega) hcn hb.size
  have hc1 := (hb.cell (p := ⟨ob, 0, none⟩) hob).trans hc
  have B2 := hide (hb.trans ((Below.refl w.heap.size w1).grown hg2 hb.size (fun k hk => (hO.lt k hk).1)))
  have O2 := hide (show JOwns w2 w.heap.size v2 es from hO2)
  clear hO hO2 hg2 hb R
  go_wp2_with fail
  refine wp_loop_rounds 2 ?_
  rw [rounds_succ]
  go_wp2_with (at_builtin; refine wpAppE rfl _ _ 28 rfl _ _ v2 w2 rfl rfl hr ?_)
  rw [rounds_succ]
  go_wp2_with fail
  go_ret
  exact ⟨v2, rfl, unhide O2, unhide B2⟩
end Go.Proofs.Ytbhkmmdcdfjbkaa
