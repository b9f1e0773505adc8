/-
  The walks of markEntryS, markDeltaS, markPage: the marks are laid in the call's own rows, and nothing else is written.
-/
import Derived.Test.YtkggpapmhopaeaaPgP
import Derived.Test.YtkggpapmhopaeaaMkT
import Derived.Deep.RegionWith
namespace Go.Proofs.Ytkggpapmhopaeaa
open Go.RowKit

def markE (k0 i : Nat) : EntD := ⟨mt (k0 + 2 * i) ByteArray.empty, mt (k0 + 2 * i + 1) ByteArray.empty⟩
def markEs (k0 n : Nat) : List EntD := (List.range n).map (markE k0)
def markDl (k0 i : Nat) : DelD := ⟨k0 + 4 * i, mt (k0 + 4 * i + 1) ByteArray.empty, mt (k0 + 4 * i + 2) ByteArray.empty, k0 + 4 * i + 3⟩
def markDls (k0 n : Nat) : List DelD := (List.range n).map (markDl k0)
theorem markEs_len (k0 n : Nat) : (markEs k0 n).length = n := by simp [markEs]
theorem markDls_len (k0 n : Nat) : (markDls k0 n).length = n := by simp [markDls]
theorem set_mark {α : Type} (f : Nat → α) (l : List α) (k : Nat) (h : k < l.length) : ((List.range k).map f ++ l.drop k).set k (f k) = (List.range (k + 1)).map f ++ l.drop (k + 1) := by
  rw [List.set_append_right _ _ (by simp), List.length_map, List.length_range, Nat.sub_self, List.drop_eq_getElem_cons h, List.set_cons_zero, List.range_succ, List.map_append, List.append_assoc]
  rfl
theorem eowns_set1 {w : World} {B g n c : Nat} {es : List EntD} (h : EOwns w B (.slice (some ⟨g, 0, none⟩) n c) es) (j : Nat) (v : Value) : (w.setCell ⟨g, j, none⟩ v).ownsRow B 58 2 (.slice (some ⟨g, 0, none⟩) n c) n ((ecs es).set j v) ∧ w.grownBy (w.setCell ⟨g, j, none⟩ v) (some g) := by
  obtain rfl := (erow_of_owns h).1
  exact World.ownsRow.stored h j v
theorem grownBy_below {w w' : World} {r : Option Nat} (h : Below w.heap.size w w') : w.grownBy w' r := ⟨h.os, h.tape, h.output, h.size, fun i hi _ => h.block i hi⟩
theorem ownsRow_below {w w' : World} {B e s n : Nat} {v : Value} {vs : List Value} (h : w.ownsRow B e s v n vs) (hb : Below w.heap.size w w') : w'.ownsRow B e s v n vs :=
  World.ownsRow.kept (row := none) h (grownBy_below hb) (by cases hv : v.ownBlock <;> simp)
set_option maxRecDepth 100000 in
set_option maxHeartbeats 4000000 in
theorem markEntryS_some (B g n c k0 : Nat) (es : List EntD) (w : World) (hp : 0 < k0) (hn : 2 * n + k0 ≤ 9999990) (h1 : EOwns w B (.slice (some ⟨g, 0, none⟩) n c) es) :
    Calls Try.prog 54 #[.slice (some ⟨g, 0, none⟩) n c, .int .i64 k0] w fun e w' => e = .returned (.int .i64 (k0 + 2 * n)) ∧ EOwns w' B (.slice (some ⟨g, 0, none⟩) n c) (markEs k0 n) ∧ w.grownBy w' (some g) := by
  have L := hide (erow_of_owns h1).1
  have H := hide h1
  clear h1
  go_enter Try.func54, Try.ntmps54
  go_wp2_with fail
  go_loopw [1, 5] (fun q i wr => ∃ k : Nat, k ≤ n ∧ i = .int .i64 k ∧ q = .int .i64 (k0 + 2 * k) ∧ Hid (EOwns wr B (.slice (some ⟨g, 0, none⟩) n c) (markEs k0 k ++ es.drop k)) ∧ Hid (w.grownBy wr (some g))) (fun _ i _ => n - (intOf i).toNat)
  case atStart => exact ⟨0, Nat.zero_le _, rfl, by simp, unhide H, grownBy_below (Below.refl _ _)⟩
  case round =>
    clear H
    obtain ⟨k, hk, rfl, rfl, hB, hw⟩ := hrel
    by_cases hlt : k < n
    · have hke : k < es.length := by have := unhide L; omega
      have hlx : k < (markEs k0 k ++ es.drop k).length := by rw [List.length_append, markEs_len, List.length_drop]; omega
      have SM := hide (show (markEs k0 k ++ es.drop k).set k (markE k0 k) = markEs k0 (k + 1) ++ es.drop (k + 1) from set_mark (markE k0) es k hke)
      generalize markEs k0 k ++ es.drop k = xs at *
      have hsz := (unhide hw).size
      go_wp2_with fail
      refine (markText_at (k0 + 2 * k) _ wr (by omega) (by omega) (by omega)).mono ?_
      rintro e w2 ⟨rfl, hb2⟩
      have B2 := hide (eowns_below (unhide hB) hb2)
      have G2 := hide (grown_trans (unhide hw) (grownBy_below hb2))
      obtain ⟨e0, e1⟩ := eowns_at (unhide B2) k hlx
      have f0 := eowns_fz (unhide B2) (k * 2)
      obtain ⟨o3, g3⟩ := eowns_set1 (unhide B2) (k * 2) (.string (mt (k0 + 2 * k) ByteArray.empty))
      have O3 := hide o3
      have G3 := hide (grown_trans (unhide G2) g3)
      generalize xs[k].k = u0 at *
      generalize xs[k].v = u1 at *
      generalize hmt : mt (k0 + 2 * k) ByteArray.empty = t0 at *
      clear hb2 hB hw o3 g3
      go_wp2_with fail
      generalize w2.setCell ⟨g, k * 2, none⟩ (.string t0) = w3 at *
      refine (markText_at (k0 + 2 * k + 1) _ w3 (by omega) (by omega) (by omega)).mono ?_
      rintro e w4 ⟨rfl, hb4⟩
      have O4 := hide (ownsRow_below (unhide O3) hb4)
      have G4 := hide (grown_trans (unhide G3) (grownBy_below hb4))
      have e5 : ∃ u, w4.cell? ⟨g, k * 2 + 1, none⟩ = some u := by
        have hl1 : k * 2 + 1 < n * 2 := by omega
        have h := (unhide O4).cellAt (k * 2 + 1) hl1
        have hlen : k * 2 + 1 < ((ecs xs).set (k * 2) (.string t0)).length := by rw [List.length_set, ecs_len]; omega
        exact ⟨_, h.trans (List.getElem?_eq_getElem hlen)⟩
      obtain ⟨u5, e5⟩ := e5
      have f5 := (unhide O4).frozenAt (k * 2 + 1)
      obtain ⟨o6, g6⟩ := World.ownsRow.stored (unhide O4) (k * 2 + 1) (.string (mt (k0 + 2 * k + 1) ByteArray.empty))
      have O6 := hide (show EOwns (w4.setCell ⟨g, k * 2 + 1, none⟩ (.string (mt (k0 + 2 * k + 1) ByteArray.empty))) B (.slice (some ⟨g, 0, none⟩) n c) (markEs k0 (k + 1) ++ es.drop (k + 1)) by
        rw [← unhide SM]
        unfold EOwns
        rw [ecs_set, List.length_set]
        have hxn : xs.length = n := (erow_of_owns (unhide B2)).1
        rw [hxn]
        unfold markE
        rw [hmt]
        exact o6)
      have G6 := hide (grown_trans (unhide G4) g6)
      generalize mt (k0 + 2 * k + 1) ByteArray.empty = t1 at *
      clear hb4 o6 g6 e0 e1 f0 B2 G2 O3 G3 O4 G4
      go_wp2_with fail
      go_roundw
      case rel => exact ⟨k + 1, by omega, by go_num, by go_num, unhide O6, unhide G6⟩
      case measure => simp [intOf]; omega
    · obtain rfl : k = n := by omega
      have P := hide (show EOwns wr B (.slice (some ⟨g, 0, none⟩) k c) (markEs k0 k) by
        have := unhide hB
        rw [List.drop_of_length_le (by rw [unhide L]; exact Nat.le_refl _), List.append_nil] at this
        exact this)
      go_wp2_with fail
      go_ret
      exact ⟨rfl, unhide P, unhide hw⟩
theorem downs_set1 {w : World} {B g n c : Nat} {ds : List DelD} (h : DOwns w B (.slice (some ⟨g, 0, none⟩) n c) ds) (j : Nat) (v : Value) : (w.setCell ⟨g, j, none⟩ v).ownsRow B 44 4 (.slice (some ⟨g, 0, none⟩) n c) n ((dcs ds).set j v) ∧ w.grownBy (w.setCell ⟨g, j, none⟩ v) (some g) := by
  obtain rfl := (drow_of_owns h).1
  exact World.ownsRow.stored h j v
theorem ownsRow_some {w : World} {B e s g n c : Nat} {vs : List Value} (h : w.ownsRow B e s (.slice (some ⟨g, 0, none⟩) n c) n vs) {j : Nat} (hj : j < n * s) : ∃ u, w.cell? ⟨g, j, none⟩ = some u :=
  ⟨_, (h.cellAt j hj).trans (List.getElem?_eq_getElem (by rw [h.1]; exact hj))⟩
set_option maxRecDepth 100000 in
set_option maxHeartbeats 4000000 in
theorem markDeltaS_some (B g n c k0 : Nat) (ds : List DelD) (w : World) (hp : 0 < k0) (hn : 4 * n + k0 ≤ 9999990) (h1 : DOwns w B (.slice (some ⟨g, 0, none⟩) n c) ds) :
    Calls Try.prog 55 #[.slice (some ⟨g, 0, none⟩) n c, .int .i64 k0] w fun e w' => e = .returned (.int .i64 (k0 + 4 * n)) ∧ DOwns w' B (.slice (some ⟨g, 0, none⟩) n c) (markDls k0 n) ∧ w.grownBy w' (some g) := by
  have L := hide (drow_of_owns h1).1
  have H := hide h1
  clear h1
  go_enter Try.func55, Try.ntmps55
  go_wp2_with fail
  go_loopw [1, 5] (fun q i wr => ∃ k : Nat, k ≤ n ∧ i = .int .i64 k ∧ q = .int .i64 (k0 + 4 * k) ∧ Hid (DOwns wr B (.slice (some ⟨g, 0, none⟩) n c) (markDls k0 k ++ ds.drop k)) ∧ Hid (w.grownBy wr (some g))) (fun _ i _ => n - (intOf i).toNat)
  case atStart => exact ⟨0, Nat.zero_le _, rfl, by simp, unhide H, grownBy_below (Below.refl _ _)⟩
  case round =>
    clear H
    obtain ⟨k, hk, rfl, rfl, hB, hw⟩ := hrel
    by_cases hlt : k < n
    · have hke : k < ds.length := by have := unhide L; omega
      have hlx : k < (markDls k0 k ++ ds.drop k).length := by rw [List.length_append, markDls_len, List.length_drop]; omega
      have SM := hide (show (markDls k0 k ++ ds.drop k).set k (markDl k0 k) = markDls k0 (k + 1) ++ ds.drop (k + 1) from set_mark (markDl k0) ds k hke)
      have HXN := hide (drow_of_owns (unhide hB)).1
      generalize markDls k0 k ++ ds.drop k = xs at *
      obtain ⟨e0, _⟩ := downs_at (unhide hB) k hlx
      have f0 := downs_fz (unhide hB) (k * 4)
      obtain ⟨o1, g1⟩ := downs_set1 (unhide hB) (k * 4) (.int .i64 (k0 + 4 * k))
      have O1 := hide o1
      have G1 := hide (grown_trans (unhide hw) g1)
      generalize xs[k].kind = u0 at *
      clear o1 g1 hB hw
      go_wp2_with fail
      generalize wr.setCell ⟨g, k * 4, none⟩ (.int .i64 (k0 + 4 * k)) = w1 at *
      refine (markText_at (k0 + 4 * k + 1) _ w1 (by omega) (by omega) (by omega)).mono ?_
      rintro e w2 ⟨rfl, hb2⟩
      have O2 := hide (ownsRow_below (unhide O1) hb2)
      have G2 := hide (grown_trans (unhide G1) (grownBy_below hb2))
      obtain ⟨u1, e1⟩ := ownsRow_some (unhide O2) (j := k * 4 + 1) (by omega)
      have f1 := (unhide O2).frozenAt (k * 4 + 1)
      obtain ⟨o3, g3⟩ := World.ownsRow.stored (unhide O2) (k * 4 + 1) (.string (mt (k0 + 4 * k + 1) ByteArray.empty))
      have O3 := hide o3
      have G3 := hide (grown_trans (unhide G2) g3)
      generalize hm1 : mt (k0 + 4 * k + 1) ByteArray.empty = t1 at *
      clear hb2 o3 g3 e0 f0 O1 G1 O2 G2
      go_wp2_with fail
      generalize w2.setCell ⟨g, k * 4 + 1, none⟩ (.string t1) = w3 at *
      refine (markText_at (k0 + 4 * k + 2) _ w3 (by omega) (by omega) (by omega)).mono ?_
      rintro e w4 ⟨rfl, hb4⟩
      have O4 := hide (ownsRow_below (unhide O3) hb4)
      have G4 := hide (grown_trans (unhide G3) (grownBy_below hb4))
      obtain ⟨u2, e2⟩ := ownsRow_some (unhide O4) (j := k * 4 + 2) (by omega)
      have f2 := (unhide O4).frozenAt (k * 4 + 2)
      obtain ⟨o5, g5⟩ := World.ownsRow.stored (unhide O4) (k * 4 + 2) (.string (mt (k0 + 4 * k + 2) ByteArray.empty))
      obtain ⟨u3, e3⟩ := ownsRow_some o5 (j := k * 4 + 3) (by omega)
      have f3 := o5.frozenAt (k * 4 + 3)
      obtain ⟨o6, g6⟩ := World.ownsRow.stored o5 (k * 4 + 3) (.int .i64 (k0 + 4 * k + 3))
      generalize hm2 : mt (k0 + 4 * k + 2) ByteArray.empty = t2 at *
      have O6 := hide (show DOwns ((w4.setCell ⟨g, k * 4 + 2, none⟩ (.string t2)).setCell ⟨g, k * 4 + 3, none⟩ (.int .i64 (k0 + 4 * k + 3))) B (.slice (some ⟨g, 0, none⟩) n c) (markDls k0 (k + 1) ++ ds.drop (k + 1)) by
        rw [← unhide SM]
        unfold DOwns
        rw [dcs_set, List.length_set, unhide HXN]
        unfold markDl
        rw [hm1, hm2]
        exact o6)
      have G6 := hide (grown_trans (unhide G4) (grown_trans g5 g6))
      clear hb4 o5 g5 o6 g6 e1 f1 O3 G3 O4 G4
      have hi3 : (k0 : Int) + 4 * k + 1 + 1 + 1 = k0 + 4 * k + 3 := by omega
      go_wp2_with fail
      go_roundw
      case rel => exact ⟨k + 1, by omega, by go_num, by go_num, by first | exact unhide O6 | (rw [hi3]; exact unhide O6), by first | exact unhide G6 | (rw [hi3]; exact unhide G6)⟩
      case measure => simp [intOf]; omega
    · obtain rfl : k = n := by omega
      have P := hide (show DOwns wr B (.slice (some ⟨g, 0, none⟩) k c) (markDls k0 k) by
        have := unhide hB
        rw [List.drop_of_length_le (by rw [unhide L]; exact Nat.le_refl _), List.append_nil] at this
        exact this)
      go_wp2_with fail
      go_ret
      exact ⟨rfl, unhide P, unhide hw⟩
theorem markEntryS_none (a : Option Addr) (c : Nat) (k0 : Int) (w : World) :
    Calls Try.prog 54 #[.slice a 0 c, .int .i64 k0] w fun e w' => e = .returned (.int .i64 k0) ∧ w' = w := by
  go_enter Try.func54, Try.ntmps54
  go_wp2_with fail
  refine wp_loop_rounds 1 ?_
  rw [rounds_succ]
  go_wp2_with fail
  go_ret
  exact ⟨rfl, rfl⟩
theorem markDeltaS_none (a : Option Addr) (c : Nat) (k0 : Int) (w : World) :
    Calls Try.prog 55 #[.slice a 0 c, .int .i64 k0] w fun e w' => e = .returned (.int .i64 k0) ∧ w' = w := by
  go_enter Try.func55, Try.ntmps55
  go_wp2_with fail
  refine wp_loop_rounds 1 ?_
  rw [rounds_succ]
  go_wp2_with fail
  go_ret
  exact ⟨rfl, rfl⟩
theorem markEntryS_any (B : Nat) (a : Option Addr) (n c k0 : Nat) (es : List EntD) (w : World) (hp : 0 < k0) (hn : 2 * n + k0 ≤ 9999990) (h1 : EOwns w B (.slice a n c) es) :
    Calls Try.prog 54 #[.slice a n c, .int .i64 k0] w fun e w' => e = .returned (.int .i64 ((k0 + 2 * n : Nat) : Int)) ∧ EOwns w' B (.slice a n c) (markEs k0 n) ∧ w.grownBy w' (Value.slice a n c).ownBlock := by
  rcases h1.2 with ⟨e, hl⟩ | ⟨g, cap, cur, e, _⟩
  · injection e with e1 e2 e3
    subst e1 e2 e3
    refine (markEntryS_none none 0 k0 w).mono ?_
    rintro e w' ⟨rfl, rfl⟩
    exact ⟨by simp, World.ownsRow_nil _ _ _ _, grownBy_below (Below.refl _ _)⟩
  · injection e with e1 e2 e3
    subst e1 e2 e3
    refine (markEntryS_some B g _ _ k0 es w hp hn h1).mono ?_
    rintro e w' ⟨rfl, h2, h3⟩
    exact ⟨by simp, h2, h3⟩
theorem markDeltaS_any (B : Nat) (a : Option Addr) (n c k0 : Nat) (ds : List DelD) (w : World) (hp : 0 < k0) (hn : 4 * n + k0 ≤ 9999990) (h1 : DOwns w B (.slice a n c) ds) :
    Calls Try.prog 55 #[.slice a n c, .int .i64 k0] w fun e w' => e = .returned (.int .i64 ((k0 + 4 * n : Nat) : Int)) ∧ DOwns w' B (.slice a n c) (markDls k0 n) ∧ w.grownBy w' (Value.slice a n c).ownBlock := by
  rcases h1.2 with ⟨e, hl⟩ | ⟨g, cap, cur, e, _⟩
  · injection e with e1 e2 e3
    subst e1 e2 e3
    refine (markDeltaS_none none 0 k0 w).mono ?_
    rintro e w' ⟨rfl, rfl⟩
    exact ⟨by simp, World.ownsRow_nil _ _ _ _, grownBy_below (Below.refl _ _)⟩
  · injection e with e1 e2 e3
    subst e1 e2 e3
    refine (markDeltaS_some B g _ _ k0 ds w hp hn h1).mono ?_
    rintro e w' ⟨rfl, h2, h3⟩
    exact ⟨by simp, h2, h3⟩
end Go.Proofs.Ytkggpapmhopaeaa
