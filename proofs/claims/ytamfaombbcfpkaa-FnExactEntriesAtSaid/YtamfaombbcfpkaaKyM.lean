/-
  The walk of markEntryS: the marks are laid in the call's own row, and nothing else is written.
-/
import Derived.Test.YtamfaombbcfpkaaKyC
import Derived.Test.YtamfaombbcfpkaaMkT
import Derived.Deep.RegionWith
namespace Go.Proofs.Ytamfaombbcfpkaa
open Go.RowKit

def markK (k0 i : Nat) : KvD := ⟨mt (k0 + 2 * i) ByteArray.empty, mt (k0 + 2 * i + 1) ByteArray.empty⟩
def markKs (k0 n : Nat) : List KvD := (List.range n).map (markK k0)
theorem markKs_len (k0 n : Nat) : (markKs k0 n).length = n := by simp [markKs]
theorem kowns_set1 {w : World} {B g n c : Nat} {ds : List KvD} (h : KOwns w B (.slice (some ⟨g, 0, none⟩) n c) ds) (j : Nat) (v : Value) : (w.setCell ⟨g, j, none⟩ v).ownsRow B 52 2 (.slice (some ⟨g, 0, none⟩) n c) n ((kcs ds).set j v) ∧ w.grownBy (w.setCell ⟨g, j, none⟩ v) (some g) := by
  obtain rfl := (krow_of_owns h).1
  exact World.ownsRow.stored h j v
set_option maxRecDepth 100000 in
set_option maxHeartbeats 4000000 in
theorem markEntryS_some (B g n c k0 : Nat) (ds : List KvD) (w : World) (hp : 0 < k0) (hn : 2 * n + k0 ≤ 9999990) (h1 : KOwns w B (.slice (some ⟨g, 0, none⟩) n c) ds) :
    Calls Try.prog 11 #[.slice (some ⟨g, 0, none⟩) n c, .int .i64 k0] w fun e w' => e = .returned (.int .i64 (k0 + 2 * n)) ∧ KOwns w' B (.slice (some ⟨g, 0, none⟩) n c) (markKs k0 n) ∧ w.grownBy w' (some g) := by
  have L := hide (krow_of_owns h1).1
  have H := hide h1
  clear h1
  go_enter Try.func11, Try.ntmps11
  go_wp2_with fail
  go_loopw [1, 5] (fun q i wr => ∃ k : Nat, k ≤ n ∧ i = .int .i64 k ∧ q = .int .i64 (k0 + 2 * k) ∧ Hid (KOwns wr B (.slice (some ⟨g, 0, none⟩) n c) (markKs k0 k ++ ds.drop k)) ∧ Hid (w.grownBy wr (some g))) (fun _ i _ => n - (intOf i).toNat)
  case atStart => exact ⟨0, Nat.zero_le _, rfl, by simp, unhide H, rb_grownBy_below (Below.refl _ _)⟩
  case round =>
    clear H
    obtain ⟨k, hk, rfl, rfl, hB, hw⟩ := hrel
    by_cases hlt : k < n
    · have hke : k < ds.length := by have := unhide L; omega
      have hlx : k < (markKs k0 k ++ ds.drop k).length := by rw [List.length_append, markKs_len, List.length_drop]; omega
      have SM := hide (show (markKs k0 k ++ ds.drop k).set k (markK k0 k) = markKs k0 (k + 1) ++ ds.drop (k + 1) from rb_set_mark (markK k0) ds k hke)
      have HXN := hide (krow_of_owns (unhide hB)).1
      have O0 := hide (show wr.ownsRow B 52 2 (.slice (some ⟨g, 0, none⟩) n c) n (kcs (markKs k0 k ++ ds.drop k)) by have := unhide hB; unfold KOwns at this; rwa [unhide HXN] at this)
      generalize markKs k0 k ++ ds.drop k = xs at *
      have G0 := hw
      clear hB hw
      go_wp2_with fail
      refine (markText_at (k0 + 2 * k) _ wr (by omega) (by omega) (by omega)).mono ?_
      rintro e w10 ⟨rfl, hb0⟩
      replace O0 := hide (rb_ownsRow_below (unhide O0) hb0)
      replace G0 := hide (rb_grown_trans (unhide G0) (rb_grownBy_below hb0))
      clear hb0
      generalize hm0 : mt (k0 + 2 * k) ByteArray.empty = t0 at *
      obtain ⟨u0, e0⟩ := rb_ownsRow_some (unhide O0) (j := k * 2) (by omega)
      have f0 := (unhide O0).frozenAt (k * 2)
      obtain ⟨o0, g0⟩ := World.ownsRow.stored (unhide O0) (k * 2) (.string t0)
      have O1 := hide o0
      have G1 := hide (rb_grown_trans (unhide G0) g0)
      clear o0 g0 O0 G0
      go_wp2_with fail
      generalize w10.setCell ⟨g, k * 2, none⟩ (.string t0) = w100 at *
      clear e0 f0
      refine (markText_at (k0 + 2 * k + 1) _ w100 (by omega) (by omega) (by omega)).mono ?_
      rintro e w11 ⟨rfl, hb1⟩
      replace O1 := hide (rb_ownsRow_below (unhide O1) hb1)
      replace G1 := hide (rb_grown_trans (unhide G1) (rb_grownBy_below hb1))
      clear hb1
      generalize hm1 : mt (k0 + 2 * k + 1) ByteArray.empty = t1 at *
      obtain ⟨u1, e1⟩ := rb_ownsRow_some (unhide O1) (j := k * 2 + 1) (by omega)
      have f1 := (unhide O1).frozenAt (k * 2 + 1)
      obtain ⟨o1, g1⟩ := World.ownsRow.stored (unhide O1) (k * 2 + 1) (.string t1)
      have O2 := hide o1
      have G2 := hide (rb_grown_trans (unhide G1) g1)
      clear o1 g1 O1 G1
      have O9 := hide (show KOwns (w11.setCell ⟨g, k * 2 + 1, none⟩ (.string t1)) B (.slice (some ⟨g, 0, none⟩) n c) (markKs k0 (k + 1) ++ ds.drop (k + 1)) by
        rw [← unhide SM]
        unfold KOwns
        rw [kcs_set, List.length_set, unhide HXN]
        have := unhide O2
        unfold markK
        simp only [hm0, hm1]
        exact this)
      clear O2
      go_wp2_with fail
      all_goals
        go_roundw
        case rel => exact ⟨k + 1, by omega, by go_num, by go_num, unhide O9, unhide G2⟩
        case measure => simp [intOf]; omega
    · obtain rfl : k = n := by omega
      have P := hide (show KOwns wr B (.slice (some ⟨g, 0, none⟩) k c) (markKs k0 k) by
        have := unhide hB
        rw [List.drop_of_length_le (by rw [unhide L]; exact Nat.le_refl _), List.append_nil] at this
        exact this)
      go_wp2_with fail
      go_ret
      exact ⟨rfl, unhide P, unhide hw⟩
theorem markEntryS_none (a : Option Addr) (c : Nat) (k0 : Int) (w : World) :
    Calls Try.prog 11 #[.slice a 0 c, .int .i64 k0] w fun e w' => e = .returned (.int .i64 k0) ∧ w' = w := by
  go_enter Try.func11, Try.ntmps11
  go_wp2_with fail
  refine wp_loop_rounds 1 ?_
  rw [rounds_succ]
  go_wp2_with fail
  go_ret
  exact ⟨rfl, rfl⟩
theorem markEntryS_any (B : Nat) (a : Option Addr) (n c k0 : Nat) (ds : List KvD) (w : World) (hp : 0 < k0) (hn : 2 * n + k0 ≤ 9999990) (h1 : KOwns w B (.slice a n c) ds) :
    Calls Try.prog 11 #[.slice a n c, .int .i64 k0] w fun e w' => e = .returned (.int .i64 ((k0 + 2 * n : Nat) : Int)) ∧ KOwns w' B (.slice a n c) (markKs k0 n) ∧ w.grownBy w' (Value.slice a n c).ownBlock := by
  rcases h1.2 with ⟨e, hl⟩ | ⟨g, cap, cur, e, _⟩
  · injection e with e1 e2 e3
    subst e1 e2 e3
    refine (markEntryS_none none 0 k0 w).mono ?_
    rintro e w' ⟨rfl, rfl⟩
    exact ⟨by simp, World.ownsRow_nil _ _ _ _, rb_grownBy_below (Below.refl _ _)⟩
  · injection e with e1 e2 e3
    subst e1 e2 e3
    refine (markEntryS_some B g _ _ k0 ds w hp hn h1).mono ?_
    rintro e w' ⟨rfl, h2, h3⟩
    exact ⟨by simp, h2, h3⟩
end Go.Proofs.Ytamfaombbcfpkaa
