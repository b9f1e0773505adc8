/-
  The walks of appendText and l01Text: a text's bytes, behind each nought 255, at last 0 and 1.
-/
import Derived.Test.YtgbfhofkkookcaeEight
namespace Go.Proofs.Ytgbfhofkkookcae
open Go.RowKit

/-- The key of a text without its end. -/
def esc : List UInt8 → List Int
  | [] => []
  | c :: r => if c = 0 then 0 :: 255 :: esc r else (c.toNat : Int) :: esc r
theorem esc_append (a b : List UInt8) : esc (a ++ b) = esc a ++ esc b := by
  induction a with
  | nil => rfl
  | cons c r ih => simp only [List.cons_append, esc, ih]; split <;> rfl
theorem esc_length (l : List UInt8) : (esc l).length ≤ 2 * l.length := by
  induction l with
  | nil => simp [esc]
  | cons c r ih => simp only [esc]; split <;> simp <;> omega
theorem esc_nought (s : ByteArray) (k : Nat) (h : k < s.size) (hz : s[k] = 0) : esc (s.data.toList.take (k + 1)) = esc (s.data.toList.take k) ++ [0] ++ [255] := by
  rw [take_snoc s k h, esc_append]; simp [esc, hz]
theorem esc_other (s : ByteArray) (k : Nat) (h : k < s.size) (hz : ¬ s[k] = 0) : esc (s.data.toList.take (k + 1)) = esc (s.data.toList.take k) ++ [(s[k].toNat : Int)] := by
  rw [take_snoc s k h, esc_append]; simp [esc, hz]
theorem esc_take_length (s : ByteArray) (k : Nat) : (esc (s.data.toList.take k)).length ≤ 2 * k := by
  have h1 := esc_length (s.data.toList.take k)
  have h2 : (s.data.toList.take k).length ≤ k := List.length_take_le _ _
  omega
theorem u8_zero {c : UInt8} (h : ¬ c = 0) : ((c.toNat : Int) == 0) = false := by
  rw [beq_eq_false_iff_ne]
  intro e
  exact h (UInt8.toNat_inj.1 (by simpa using Int.natCast_eq_zero.1 e))

/-- A slice of bytes that the call owns from block B on. -/
abbrev Owns (w : World) (B : Nat) (v : Value) (xs : List Int) : Prop := w.ownsRow B 5 1 v xs.length (xs.map (Value.int .u8))
theorem below_app {B : Nat} {w wr w1 : World} {n : Nat} {v : Value} {c : Array Value} {t : TypeId} {xs : List Value} (hb : Below B w wr) (hB : B ≤ wr.heap.size) (hown : wr.ownsRow B 5 1 v n xs) (hg : (wr.alloc (.cells c t)).grownBy w1 v.ownBlock) : Below B w w1 :=
  (hb.alloc hB _).grown hg (by simp; omega) (fun k hk => (hown.lt k hk).1)
theorem size_app {B : Nat} {wr w1 : World} {v : Value} {c : Array Value} {t : TypeId} (hB : B ≤ wr.heap.size) (hg : (wr.alloc (.cells c t)).grownBy w1 v.ownBlock) : B ≤ w1.heap.size := by
  have := hg.size; simp at this; omega
theorem owns_app {w : World} {B : Nat} {v : Value} {xs : List Int} {x : Int} (h : w.ownsRow B 5 1 v (xs.length + 1) (xs.map (Value.int .u8) ++ [.int .u8 x])) : Owns w B v (xs ++ [x]) := by
  unfold Owns
  rw [List.length_append, List.map_append]; exact h
theorem owns_app2 {w : World} {B : Nat} {v : Value} {xs : List Int} {x y : Int} (h : w.ownsRow B 5 1 v (xs.length + 2) (xs.map (Value.int .u8) ++ [.int .u8 x, .int .u8 y])) : Owns w B v (xs ++ [x, y]) := by
  unfold Owns
  rw [List.length_append, List.map_append]; exact h
theorem cell_two {w : World} {x y : Value} {t : TypeId} : ∀ j u, [x, y][j]? = some u → (w.alloc (.cells #[x, y] t)).cell? ((⟨w.heap.size, 0, none⟩ : Addr).add j) = some u := by
  intro j u hj
  match j, hj with
  | 0, hj => simp at hj; subst hj; simp [Addr.add]
  | 1, hj => simp at hj; subst hj; simp [Addr.add]
theorem two_u8 (x y : Int) : ∀ u ∈ [Value.int .u8 x, Value.int .u8 y], u.oneCell' = true := by
  intro u hu
  simp at hu
  rcases hu with rfl | rfl <;> rfl

set_option maxHeartbeats 2000000 in
theorem l01Text_any (s : ByteArray) (w : World) (hs : s.size ≤ 1000000) :
    Calls Try.prog 39 #[.string s] w fun e w' => ∃ v, e = .returned v ∧ Owns w' w.heap.size v ( esc s.data.toList ++ [0, 1]) ∧ Below w.heap.size w w' := by
  obtain ⟨i0, hi, hz0, hz1, hz2⟩ := info_parts Try.infoU8
  go_enter Try.func39, Try.ntmps39
  go_wp2_with fail
  go_loopw [3, 4] (fun v i wr => ∃ k : Nat, k ≤ s.size ∧ i = .int .i64 k ∧ Owns wr w.heap.size v ( esc (s.data.toList.take k)) ∧ Below w.heap.size w wr) (fun _ i _ => s.size - (intOf i).toNat)
  case atStart => exact ⟨0, by omega, rfl, World.ownsRow_lit _ _ _ (Nat.le_refl _) (by unfold maxLen; simp) rfl, (Below.refl _ _).alloc (Nat.le_refl _) _⟩
  case round =>
    obtain ⟨k, hk, rfl, hown, hb⟩ := hrel
    have hsz : w.heap.size ≤ wr.heap.size := hb.size
    have hel : ( esc (s.data.toList.take k)).length ≤ 10000000 + 2 * k := by have := esc_take_length s k; omega
    skip
    by_cases hlt : k < s.size
    · by_cases hc : s[k] = 0
      · have HS := hide (show  esc (s.data.toList.take (k + 1)) = ( esc (s.data.toList.take k)) ++ [0] ++ [255] by rw [esc_nought s k hlt hc]; all_goals simp [List.append_assoc])
        generalize  esc (s.data.toList.take k) = xs at *
        have hq2 : (s[k].toNat : Int) = 0 := by rw [hc]; rfl
        clear hc
        go_wp2_with (at_builtin; refine wpList_append_own _ rfl _ _ 23 rfl w.heap.size 5 i0 (.int .u8 0) 1 1 Try.underlying23 hi hz0 hz1 hz2 rfl (by decide) _ _ _ rfl (hown.alloc _) ⟨wr.heap.size, 0, none⟩ 1 1 [.int .u8 0] rfl rfl (cell_one_new _ _ _) (one_u8 _) (by unfold maxLen; omega) (by omega) (by simp; omega) ?_)
        intro v1 w1 hown1 hgrow1 _
        have O1 := owns_app hown1
        have B1 := below_app hb hsz hown hgrow1
        have S1 := size_app hsz hgrow1
        have L1 : (xs ++ [(0 : Int)]).length = xs.length + 1 := by simp
        have L2 : (xs ++ [(0 : Int)]).length ≤ 10000001 + 2 * k := by omega
        have L1H := hide L1
        clear hown hown1 hgrow1 hb hsz hel L1
        generalize hy : xs ++ [(0 : Int)] = ys at *
        have Y := hide hy
        clear hy
        go_wp2_with (at_builtin; refine wpList_append_own _ rfl _ _ 23 rfl w.heap.size 5 i0 (.int .u8 0) 1 1 Try.underlying23 hi hz0 hz1 hz2 rfl (by decide) _ _ _ rfl (O1.alloc _) ⟨w1.heap.size, 0, none⟩ 1 1 [.int .u8 255] rfl rfl (cell_one_new _ _ _) (one_u8 _) (by unfold maxLen; omega) (by omega) (by simp; omega) ?_)
        intro v2 w2 hown2 hgrow2 _
        have O2 := hide (owns_app hown2)
        have B2 := hide (below_app B1 S1 O1 hgrow2)
        clear O1 hown2 hgrow2 B1 S1
        go_wp2_with fail
        go_roundw
        case rel => exact ⟨k + 1, by omega, by go_num, by rw [unhide HS]; exact unhide O2, unhide B2⟩
        case measure => simp [intOf]; omega
      · have HS := hide (show  esc (s.data.toList.take (k + 1)) = ( esc (s.data.toList.take k)) ++ [(s[k].toNat : Int)] by rw [esc_other s k hlt hc]; all_goals simp [List.append_assoc])
        generalize  esc (s.data.toList.take k) = xs at *
        have hq := u8_zero hc
        clear hc
        go_wp2_with (at_builtin; refine wpList_append_own _ rfl _ _ 23 rfl w.heap.size 5 i0 (.int .u8 0) 1 1 Try.underlying23 hi hz0 hz1 hz2 rfl (by decide) _ _ _ rfl (hown.alloc _) ⟨wr.heap.size, 0, none⟩ 1 1 [.int .u8 (s[k].toNat : Int)] rfl rfl (cell_one_new _ _ _) (one_u8 _) (by unfold maxLen; omega) (by omega) (by simp; omega) ?_)
        intro v1 w1 hown1 hgrow1 _
        have O1 := hide (owns_app hown1)
        have B1 := hide (below_app hb hsz hown hgrow1)
        clear hown hown1 hgrow1 hb hsz hel
        go_wp2_with fail
        go_roundw
        case rel => exact ⟨k + 1, by omega, by go_num, by rw [unhide HS]; exact unhide O1, unhide B1⟩
        case measure => simp [intOf]; omega
    · obtain rfl : k = s.size := by omega
      rw [List.take_of_length_le (show s.data.toList.length ≤ s.size by simp)] at hown hel
      generalize hxs :  esc s.data.toList = xs at hown hel
      have X := hide hxs
      clear hxs
      go_wp2_with (at_builtin; refine wpList_append_own _ rfl _ _ 23 rfl w.heap.size 5 i0 (.int .u8 0) 1 1 Try.underlying23 hi hz0 hz1 hz2 rfl (by decide) _ _ _ rfl (hown.alloc _) ⟨wr.heap.size, 0, none⟩ 2 2 [.int .u8 0, .int .u8 1] rfl rfl cell_two (two_u8 _ _) (by unfold maxLen; omega) (by omega) (by simp; omega) ?_)
      intro v' w1 hown' hgrow _
      have R1 := hide (owns_app2 hown')
      have R2 := hide (below_app hb hsz hown hgrow)
      clear hown hown' hgrow hb
      go_wp2_with fail
      go_ret
      exact ⟨_, rfl, by rw [unhide X]; exact unhide R1, unhide R2⟩
set_option maxHeartbeats 2000000 in
theorem appendText_any (B : Nat) (v0 : Value) (zs : List Int) (s : ByteArray) (w : World) (hs : s.size ≤ 1000000) (hB : B ≤ w.heap.size) (hz : zs.length ≤ 10000000) (ho : Owns w B v0 zs) :
    Calls Try.prog 40 #[v0, .string s] w fun e w' => ∃ v, e = .returned v ∧ Owns w' B v (zs ++ esc s.data.toList ++ [0, 1]) ∧ Below B w w' := by
  obtain ⟨i0, hi, hz0, hz1, hz2⟩ := info_parts Try.infoU8
  go_enter Try.func40, Try.ntmps40
  go_wp2_with fail
  go_loopw [0, 5, 8] (fun v _ i wr => ∃ k : Nat, k ≤ s.size ∧ i = .int .i64 k ∧ Owns wr B v (zs ++ esc (s.data.toList.take k)) ∧ Below B w wr) (fun _ _ i _ => s.size - (intOf i).toNat)
  case atStart => exact ⟨0, by omega, rfl, by rw [show zs ++ esc (s.data.toList.take 0) = zs by simp [esc]]; exact ho, Below.refl _ _⟩
  case round =>
    obtain ⟨k, hk, rfl, hown, hb⟩ := hrel
    have hsz : B ≤ wr.heap.size := Nat.le_trans hB hb.size
    have hel : (zs ++ esc (s.data.toList.take k)).length ≤ 10000000 + 2 * k := by have := esc_take_length s k; rw [List.length_append]; omega
    clear hz
    by_cases hlt : k < s.size
    · by_cases hc : s[k] = 0
      · have HS := hide (show zs ++ esc (s.data.toList.take (k + 1)) = (zs ++ esc (s.data.toList.take k)) ++ [0] ++ [255] by rw [esc_nought s k hlt hc]; all_goals simp [List.append_assoc])
        generalize zs ++ esc (s.data.toList.take k) = xs at *
        have hq2 : (s[k].toNat : Int) = 0 := by rw [hc]; rfl
        clear hc
        go_wp2_with (at_builtin; refine wpList_append_own _ rfl _ _ 23 rfl B 5 i0 (.int .u8 0) 1 1 Try.underlying23 hi hz0 hz1 hz2 rfl (by decide) _ _ _ rfl (hown.alloc _) ⟨wr.heap.size, 0, none⟩ 1 1 [.int .u8 0] rfl rfl (cell_one_new _ _ _) (one_u8 _) (by unfold maxLen; omega) (by omega) (by simp; omega) ?_)
        intro v1 w1 hown1 hgrow1 _
        have O1 := owns_app hown1
        have B1 := below_app hb hsz hown hgrow1
        have S1 := size_app hsz hgrow1
        have L1 : (xs ++ [(0 : Int)]).length = xs.length + 1 := by simp
        have L2 : (xs ++ [(0 : Int)]).length ≤ 10000001 + 2 * k := by omega
        have L1H := hide L1
        clear hown hown1 hgrow1 hb hsz hel L1
        generalize hy : xs ++ [(0 : Int)] = ys at *
        have Y := hide hy
        clear hy
        go_wp2_with (at_builtin; refine wpList_append_own _ rfl _ _ 23 rfl B 5 i0 (.int .u8 0) 1 1 Try.underlying23 hi hz0 hz1 hz2 rfl (by decide) _ _ _ rfl (O1.alloc _) ⟨w1.heap.size, 0, none⟩ 1 1 [.int .u8 255] rfl rfl (cell_one_new _ _ _) (one_u8 _) (by unfold maxLen; omega) (by omega) (by simp; omega) ?_)
        intro v2 w2 hown2 hgrow2 _
        have O2 := hide (owns_app hown2)
        have B2 := hide (below_app B1 S1 O1 hgrow2)
        clear O1 hown2 hgrow2 B1 S1
        go_wp2_with fail
        go_roundw
        case rel => exact ⟨k + 1, by omega, by go_num, by rw [unhide HS]; exact unhide O2, unhide B2⟩
        case measure => simp [intOf]; omega
      · have HS := hide (show zs ++ esc (s.data.toList.take (k + 1)) = (zs ++ esc (s.data.toList.take k)) ++ [(s[k].toNat : Int)] by rw [esc_other s k hlt hc]; all_goals simp [List.append_assoc])
        generalize zs ++ esc (s.data.toList.take k) = xs at *
        have hq := u8_zero hc
        clear hc
        go_wp2_with (at_builtin; refine wpList_append_own _ rfl _ _ 23 rfl B 5 i0 (.int .u8 0) 1 1 Try.underlying23 hi hz0 hz1 hz2 rfl (by decide) _ _ _ rfl (hown.alloc _) ⟨wr.heap.size, 0, none⟩ 1 1 [.int .u8 (s[k].toNat : Int)] rfl rfl (cell_one_new _ _ _) (one_u8 _) (by unfold maxLen; omega) (by omega) (by simp; omega) ?_)
        intro v1 w1 hown1 hgrow1 _
        have O1 := hide (owns_app hown1)
        have B1 := hide (below_app hb hsz hown hgrow1)
        clear hown hown1 hgrow1 hb hsz hel
        go_wp2_with fail
        go_roundw
        case rel => exact ⟨k + 1, by omega, by go_num, by rw [unhide HS]; exact unhide O1, unhide B1⟩
        case measure => simp [intOf]; omega
    · obtain rfl : k = s.size := by omega
      rw [List.take_of_length_le (show s.data.toList.length ≤ s.size by simp)] at hown hel
      generalize hxs : zs ++ esc s.data.toList = xs at hown hel
      have X := hide hxs
      clear hxs
      go_wp2_with (at_builtin; refine wpList_append_own _ rfl _ _ 23 rfl B 5 i0 (.int .u8 0) 1 1 Try.underlying23 hi hz0 hz1 hz2 rfl (by decide) _ _ _ rfl (hown.alloc _) ⟨wr.heap.size, 0, none⟩ 2 2 [.int .u8 0, .int .u8 1] rfl rfl cell_two (two_u8 _ _) (by unfold maxLen; omega) (by omega) (by simp; omega) ?_)
      intro v' w1 hown' hgrow _
      have R1 := hide (owns_app2 hown')
      have R2 := hide (below_app hb hsz hown hgrow)
      clear hown hown' hgrow hb
      go_wp2_with fail
      go_ret
      exact ⟨_, rfl, by rw [unhide X]; exact unhide R1, unhide R2⟩
end Go.Proofs.Ytgbfhofkkookcae
