/-
  The walk of markVersionS: the marks are laid in the call's own row, and nothing else is written.
-/
import Derived.Test.YtdnneomdokcpeaaVrC
import Derived.Test.YtdnneomdokcpeaaMkT
import Derived.Deep.RegionWith
namespace Go.Proofs.Ytdnneomdokcpeaa
open Go.RowKit

def markV (k0 i : Nat) : VerD := ⟨mt (k0 + 4 * i) ByteArray.empty, ((k0 + 4 * i + 1 : Nat) : Int), mt (k0 + 4 * i + 2) ByteArray.empty, decide ((k0 + 4 * i + 3) % 3 = 0)⟩
def markVs (k0 n : Nat) : List VerD := (List.range n).map (markV k0)
theorem markVs_len (k0 n : Nat) : (markVs k0 n).length = n := by simp [markVs]
theorem vowns_set1 {w : World} {B g n c : Nat} {ds : List VerD} (h : VOwns w B (.slice (some ⟨g, 0, none⟩) n c) ds) (j : Nat) (v : Value) : (w.setCell ⟨g, j, none⟩ v).ownsRow B 52 4 (.slice (some ⟨g, 0, none⟩) n c) n ((vcs ds).set j v) ∧ w.grownBy (w.setCell ⟨g, j, none⟩ v) (some g) := by
  obtain rfl := (vrow_of_owns h).1
  exact World.ownsRow.stored h j v
set_option maxRecDepth 100000 in
set_option maxHeartbeats 4000000 in
theorem markVersionS_some (B g n c k0 : Nat) (ds : List VerD) (w : World) (hp : 0 < k0) (hn : 4 * n + k0 ≤ 9999990) (h1 : VOwns w B (.slice (some ⟨g, 0, none⟩) n c) ds) :
    Calls Try.prog 13 #[.slice (some ⟨g, 0, none⟩) n c, .int .i64 k0] w fun e w' => e = .returned (.int .i64 (k0 + 4 * n)) ∧ VOwns w' B (.slice (some ⟨g, 0, none⟩) n c) (markVs k0 n) ∧ w.grownBy w' (some g) := by
  have L := hide (vrow_of_owns h1).1
  have H := hide h1
  clear h1
  go_enter Try.func13, Try.ntmps13
  go_wp2_with fail
  go_loopw [1, 5] (fun q i wr => ∃ k : Nat, k ≤ n ∧ i = .int .i64 k ∧ q = .int .i64 (k0 + 4 * k) ∧ Hid (VOwns wr B (.slice (some ⟨g, 0, none⟩) n c) (markVs k0 k ++ ds.drop k)) ∧ Hid (w.grownBy wr (some g))) (fun _ i _ => n - (intOf i).toNat)
  case atStart => exact ⟨0, Nat.zero_le _, rfl, by simp, unhide H, rb_grownBy_below (Below.refl _ _)⟩
  case round =>
    clear H
    obtain ⟨k, hk, rfl, rfl, hB, hw⟩ := hrel
    by_cases hlt : k < n
    · have hke : k < ds.length := by have := unhide L; omega
      have hlx : k < (markVs k0 k ++ ds.drop k).length := by rw [List.length_append, markVs_len, List.length_drop]; omega
      have SM := hide (show (markVs k0 k ++ ds.drop k).set k (markV k0 k) = markVs k0 (k + 1) ++ ds.drop (k + 1) from rb_set_mark (markV k0) ds k hke)
      have HXN := hide (vrow_of_owns (unhide hB)).1
      have O0 := hide (show wr.ownsRow B 52 4 (.slice (some ⟨g, 0, none⟩) n c) n (vcs (markVs k0 k ++ ds.drop k)) by have := unhide hB; unfold VOwns at this; rwa [unhide HXN] at this)
      generalize markVs k0 k ++ ds.drop k = xs at *
      have G0 := hw
      clear hB hw
      go_wp2_with fail
      refine (markText_at (k0 + 4 * k) _ wr (by omega) (by omega) (by omega)).mono ?_
      rintro e w10 ⟨rfl, hb0⟩
      replace O0 := hide (rb_ownsRow_below (unhide O0) hb0)
      replace G0 := hide (rb_grown_trans (unhide G0) (rb_grownBy_below hb0))
      clear hb0
      generalize hm0 : mt (k0 + 4 * k) ByteArray.empty = t0 at *
      obtain ⟨u0, e0⟩ := rb_ownsRow_some (unhide O0) (j := k * 4) (by omega)
      have f0 := (unhide O0).frozenAt (k * 4)
      obtain ⟨o0, g0⟩ := World.ownsRow.stored (unhide O0) (k * 4) (.string t0)
      have O1 := hide o0
      have G1 := hide (rb_grown_trans (unhide G0) g0)
      clear o0 g0 O0 G0
      obtain ⟨u1, e1⟩ := rb_ownsRow_some (unhide O1) (j := k * 4 + 1) (by omega)
      have f1 := (unhide O1).frozenAt (k * 4 + 1)
      obtain ⟨o1, g1⟩ := World.ownsRow.stored (unhide O1) (k * 4 + 1) (.int .i64 (k0 + 4 * k + 1))
      have O2 := hide o1
      have G2 := hide (rb_grown_trans (unhide G1) g1)
      clear o1 g1 O1 G1
      go_wp2_with fail
      generalize w10.setCell ⟨g, k * 4, none⟩ (.string t0) = w100 at *
      generalize w100.setCell ⟨g, k * 4 + 1, none⟩ (.int .i64 (k0 + 4 * k + 1)) = w101 at *
      clear e0 f0
      clear e1 f1
      refine (markText_at (k0 + 4 * k + 2) _ w101 (by omega) (by omega) (by omega)).mono ?_
      rintro e w12 ⟨rfl, hb2⟩
      replace O2 := hide (rb_ownsRow_below (unhide O2) hb2)
      replace G2 := hide (rb_grown_trans (unhide G2) (rb_grownBy_below hb2))
      clear hb2
      generalize hm2 : mt (k0 + 4 * k + 2) ByteArray.empty = t2 at *
      obtain ⟨u2, e2⟩ := rb_ownsRow_some (unhide O2) (j := k * 4 + 2) (by omega)
      have f2 := (unhide O2).frozenAt (k * 4 + 2)
      obtain ⟨o2, g2⟩ := World.ownsRow.stored (unhide O2) (k * 4 + 2) (.string t2)
      have O3 := hide o2
      have G3 := hide (rb_grown_trans (unhide G2) g2)
      clear o2 g2 O2 G2
      obtain ⟨u3, e3⟩ := rb_ownsRow_some (unhide O3) (j := k * 4 + 3) (by omega)
      have f3 := (unhide O3).frozenAt (k * 4 + 3)
      obtain ⟨o3, g3⟩ := World.ownsRow.stored (unhide O3) (k * 4 + 3) (.bool (decide (((k0 : Int) + 4 * k + 1 + 1 + 1) % 3 = 0)))
      have O4 := hide o3
      have G4 := hide (rb_grown_trans (unhide G3) g3)
      clear o3 g3 O3 G3
      have O9 := hide (show VOwns ((w12.setCell ⟨g, k * 4 + 2, none⟩ (.string t2)).setCell ⟨g, k * 4 + 3, none⟩ (.bool (decide (((k0 : Int) + 4 * k + 1 + 1 + 1) % 3 = 0)))) B (.slice (some ⟨g, 0, none⟩) n c) (markVs k0 (k + 1) ++ ds.drop (k + 1)) by
        rw [← unhide SM]
        unfold VOwns
        rw [vcs_set, List.length_set, unhide HXN]
        have := unhide O4
        have he1 : ((k0 + 4 * k + 1 : Nat) : Int) = (k0 : Int) + 4 * k + 1 := by omega
        have he3 : decide ((k0 + 4 * k + 3) % 3 = 0) = decide (((k0 : Int) + 4 * k + 1 + 1 + 1) % 3 = 0) := by rw [decide_eq_decide]; omega
        unfold markV
        simp only [hm0, he1, hm2, he3]
        exact this)
      clear O4
      go_wp2_with fail
      all_goals
        go_roundw
        case rel => exact ⟨k + 1, by omega, by go_num, by go_num, unhide O9, unhide G4⟩
        case measure => simp [intOf]; omega
    · obtain rfl : k = n := by omega
      have P := hide (show VOwns wr B (.slice (some ⟨g, 0, none⟩) k c) (markVs k0 k) by
        have := unhide hB
        rw [List.drop_of_length_le (by rw [unhide L]; exact Nat.le_refl _), List.append_nil] at this
        exact this)
      go_wp2_with fail
      go_ret
      exact ⟨rfl, unhide P, unhide hw⟩
theorem markVersionS_none (a : Option Addr) (c : Nat) (k0 : Int) (w : World) :
    Calls Try.prog 13 #[.slice a 0 c, .int .i64 k0] w fun e w' => e = .returned (.int .i64 k0) ∧ w' = w := by
  go_enter Try.func13, Try.ntmps13
  go_wp2_with fail
  refine wp_loop_rounds 1 ?_
  rw [rounds_succ]
  go_wp2_with fail
  go_ret
  exact ⟨rfl, rfl⟩
theorem markVersionS_any (B : Nat) (a : Option Addr) (n c k0 : Nat) (ds : List VerD) (w : World) (hp : 0 < k0) (hn : 4 * n + k0 ≤ 9999990) (h1 : VOwns w B (.slice a n c) ds) :
    Calls Try.prog 13 #[.slice a n c, .int .i64 k0] w fun e w' => e = .returned (.int .i64 ((k0 + 4 * n : Nat) : Int)) ∧ VOwns w' B (.slice a n c) (markVs k0 n) ∧ w.grownBy w' (Value.slice a n c).ownBlock := by
  rcases h1.2 with ⟨e, hl⟩ | ⟨g, cap, cur, e, _⟩
  · injection e with e1 e2 e3
    subst e1 e2 e3
    refine (markVersionS_none none 0 k0 w).mono ?_
    rintro e w' ⟨rfl, rfl⟩
    exact ⟨by simp, World.ownsRow_nil _ _ _ _, rb_grownBy_below (Below.refl _ _)⟩
  · injection e with e1 e2 e3
    subst e1 e2 e3
    refine (markVersionS_some B g _ _ k0 ds w hp hn h1).mono ?_
    rintro e w' ⟨rfl, h2, h3⟩
    exact ⟨by simp, h2, h3⟩
end Go.Proofs.Ytdnneomdokcpeaa
