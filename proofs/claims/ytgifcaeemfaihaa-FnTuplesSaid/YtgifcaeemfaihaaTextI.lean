/-
  The walks of appendText and TextKey, the program's.
-/
import Derived.Test.YtgifcaeemfaihaaTextL
set_option maxRecDepth 100000
namespace Go.Proofs.Ytgifcaeemfaihaa
open Go.RowKit

set_option maxHeartbeats 2000000 in
theorem appendText_any (B : Nat) (v0 : Value) (zs : List Int) (s : ByteArray) (w : World) (hs : s.size ≤ 1000000) (hB : B ≤ w.heap.size) (hz : zs.length ≤ 10000000) (ho : Owns w B v0 zs) :
    Calls Try.prog 44 #[v0, .string s] w fun e w' => ∃ v, e = .returned v ∧ Owns w' B v (zs ++ esc s.data.toList ++ [0, 1]) ∧ Below B w w' := by
  obtain ⟨i0, hi, hz0, hz1, hz2⟩ := info_parts Try.infoU8
  go_enter Try.func44, Try.ntmps44
  go_wp2_with fail
  go_loopw [0, 5, 8] (fun v _ i wr => ∃ k : Nat, k ≤ s.size ∧ i = .int .i64 k ∧ Owns wr B v (zs ++ esc (s.data.toList.take k)) ∧ Below B w wr) (fun _ _ i _ => s.size - (intOf i).toNat)
  case atStart => exact ⟨0, by omega, rfl, by rw [show zs ++ esc (s.data.toList.take 0) = zs by simp [esc]]; exact ho, Below.refl _ _⟩
  case round =>
    obtain ⟨k, hk, rfl, hown, hb⟩ := hrel
    have hsz : B ≤ wr.heap.size := Nat.le_trans hB hb.size
    have hel : (zs ++ esc (s.data.toList.take k)).length ≤ 10000000 + 2 * k := by have := esc_take_length s k; rw [List.length_append]; omega
    clear hz
    by_cases hlt : k < s.size
    · by_cases hc : s[k] = 0
      · have HS := hide (show zs ++ esc (s.data.toList.take (k + 1)) = (zs ++ esc (s.data.toList.take k)) ++ [0] ++ [255] by rw [esc_nought s k hlt hc]; all_goals simp [List.append_assoc])
        generalize zs ++ esc (s.data.toList.take k) = xs at *
        have hq2 : (s[k].toNat : Int) = 0 := by rw [hc]; rfl
        clear hc
        go_wp2_with (at_builtin; refine wpList_append_own _ rfl _ _ 22 rfl B 5 i0 (.int .u8 0) 1 1 Try.underlying22 hi hz0 hz1 hz2 rfl (by decide) _ _ _ rfl (hown.alloc _) ⟨wr.heap.size, 0, none⟩ 1 1 [.int .u8 0] rfl rfl (cell_one_new _ _ _) (one_u8 _) (by unfold maxLen; omega) (by omega) (by simp; omega) ?_)
        intro v1 w1 hown1 hgrow1 _
        have O1 := owns_app hown1
        have B1 := below_app hb hsz hown hgrow1
        have S1 := size_app hsz hgrow1
        have L1 : (xs ++ [(0 : Int)]).length = xs.length + 1 := by simp
        have L2 : (xs ++ [(0 : Int)]).length ≤ 10000001 + 2 * k := by omega
        have L1H := hide L1
        clear hown hown1 hgrow1 hb hsz hel L1
        generalize hy : xs ++ [(0 : Int)] = ys at *
        have Y := hide hy
        clear hy
        go_wp2_with (at_builtin; refine wpList_append_own _ rfl _ _ 22 rfl B 5 i0 (.int .u8 0) 1 1 Try.underlying22 hi hz0 hz1 hz2 rfl (by decide) _ _ _ rfl (O1.alloc _) ⟨w1.heap.size, 0, none⟩ 1 1 [.int .u8 255] rfl rfl (cell_one_new _ _ _) (one_u8 _) (by unfold maxLen; omega) (by omega) (by simp; omega) ?_)
        intro v2 w2 hown2 hgrow2 _
        have O2 := hide (owns_app hown2)
        have B2 := hide (below_app B1 S1 O1 hgrow2)
        clear O1 hown2 hgrow2 B1 S1
        go_wp2_with fail
        go_roundw
        case rel => exact ⟨k + 1, by omega, by go_num, by rw [unhide HS]; exact unhide O2, unhide B2⟩
        case measure => simp [intOf]; omega
      · have HS := hide (show zs ++ esc (s.data.toList.take (k + 1)) = (zs ++ esc (s.data.toList.take k)) ++ [(s[k].toNat : Int)] by rw [esc_other s k hlt hc]; all_goals simp [List.append_assoc])
        generalize zs ++ esc (s.data.toList.take k) = xs at *
        have hq := u8_zero hc
        clear hc
        go_wp2_with (at_builtin; refine wpList_append_own _ rfl _ _ 22 rfl B 5 i0 (.int .u8 0) 1 1 Try.underlying22 hi hz0 hz1 hz2 rfl (by decide) _ _ _ rfl (hown.alloc _) ⟨wr.heap.size, 0, none⟩ 1 1 [.int .u8 (s[k].toNat : Int)] rfl rfl (cell_one_new _ _ _) (one_u8 _) (by unfold maxLen; omega) (by omega) (by simp; omega) ?_)
        intro v1 w1 hown1 hgrow1 _
        have O1 := hide (owns_app hown1)
        have B1 := hide (below_app hb hsz hown hgrow1)
        clear hown hown1 hgrow1 hb hsz hel
        go_wp2_with fail
        go_roundw
        case rel => exact ⟨k + 1, by omega, by go_num, by rw [unhide HS]; exact unhide O1, unhide B1⟩
        case measure => simp [intOf]; omega
    · obtain rfl : k = s.size := by omega
      rw [List.take_of_length_le (show s.data.toList.length ≤ s.size by simp)] at hown hel
      generalize hxs : zs ++ esc s.data.toList = xs at hown hel
      have X := hide hxs
      clear hxs
      go_wp2_with (at_builtin; refine wpList_append_own _ rfl _ _ 22 rfl B 5 i0 (.int .u8 0) 1 1 Try.underlying22 hi hz0 hz1 hz2 rfl (by decide) _ _ _ rfl (hown.alloc _) ⟨wr.heap.size, 0, none⟩ 2 2 [.int .u8 0, .int .u8 1] rfl rfl cell_two (two_u8 _ _) (by unfold maxLen; omega) (by omega) (by simp; omega) ?_)
      intro v' w1 hown' hgrow _
      have R1 := hide (owns_app2 hown')
      have R2 := hide (below_app hb hsz hown hgrow)
      clear hown hown' hgrow hb
      go_wp2_with fail
      go_ret
      exact ⟨_, rfl, by rw [unhide X]; exact unhide R1, unhide R2⟩
set_option maxHeartbeats 400000 in
theorem textKey_any (s : ByteArray) (w : World) (hs : s.size ≤ 1048576) :
    Calls Try.prog 17 #[.string s] w fun e w' => ∃ v, e = .returned (.tuple #[v, .int .i64 (textKeyC s)]) ∧ Mine w' w.heap.size v (textKeyL s) ∧ Below w.heap.size w w' := by
  by_cases h1 : 65536 < s.size
  · have HC := hide (show textKeyC s = 2 by simp [textKeyC, h1])
    have HL := hide (show textKeyL s = [] by simp [textKeyL]; omega)
    go_enter Try.func17, Try.ntmps17
    go_wp2_with fail
    go_ret2
    exact ⟨_, by rw [unhide HC]; rfl, by rw [unhide HL]; exact mine_nil _ _, Below.refl _ _⟩
  by_cases h2 : 100 < s.size
  · have HC := hide (show textKeyC s = 11 by simp [textKeyC, h1, h2])
    have HL := hide (show textKeyL s = [] by simp [textKeyL]; omega)
    go_enter Try.func17, Try.ntmps17
    go_wp2_with fail
    go_ret2
    exact ⟨_, by rw [unhide HC]; rfl, by rw [unhide HL]; exact mine_nil _ _, Below.refl _ _⟩
  have HC := hide (show textKeyC s = 0 by simp [textKeyC, h1, h2])
  have HL := hide (show textKeyL s = esc s.data.toList ++ [0, 1] by simp [textKeyL]; omega)
  go_enter Try.func17, Try.ntmps17
  go_wp2_with (go_at_call 44; refine (appendText_any w.heap.size (.slice none 0 0) [] _ _ (by omega) (Nat.le_refl _) (by simp) (World.ownsRow_nil _ _ _ _)).mono ?_; rintro e w1 ⟨v, rfl, ho, hb⟩)
  go_ret2
  exact ⟨_, by rw [unhide HC]; rfl, by rw [unhide HL]; exact mine_of_owns ho, hb⟩
end Go.Proofs.Ytgifcaeemfaihaa
