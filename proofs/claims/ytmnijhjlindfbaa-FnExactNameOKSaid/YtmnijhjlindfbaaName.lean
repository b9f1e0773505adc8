/-
  The walks of NameOK, the program's and the specification's: both answer nameB of the text, and leave the world as it was.
-/
import Derived.Test.YtmnijhjlindfbaaBase
namespace Go.Proofs.Ytmnijhjlindfbaa
open Go.RowKit

def digB (c : Int) : Bool := decide (48 ≤ c) && decide (c ≤ 57)
def letB (c : Int) : Bool := c == 95 || (decide (97 ≤ c) && decide (c ≤ 122)) || (decide (65 ≤ c) && decide (c ≤ 90))

theorem isDigit_any (c : Int) (w : World) : Calls Try.prog 26 #[.int .u8 c] w fun e w' => e = .returned (.bool (digB c)) ∧ w' = w := by
  go_enter Try.func26, Try.ntmps26
  go_wp2
  all_goals go_ret
  all_goals exact ⟨ret_bool (by rw [Bool.eq_iff_iff]; simp [digB]; try omega), rfl⟩
theorem l00Digit_any (c : Int) (w : World) : Calls Try.prog 40 #[.int .u8 c] w fun e w' => e = .returned (.bool (digB c)) ∧ w' = w := by
  go_enter Try.func40, Try.ntmps40
  go_wp2
  all_goals go_ret
  all_goals exact ⟨ret_bool (by rw [Bool.eq_iff_iff]; simp [digB]; try omega), rfl⟩
theorem isLetter_any (c : Int) (w : World) : Calls Try.prog 27 #[.int .u8 c] w fun e w' => e = .returned (.bool (letB c)) ∧ w' = w := by
  go_enter Try.func27, Try.ntmps27
  go_wp2
  all_goals go_ret
  all_goals exact ⟨ret_bool (by rw [Bool.eq_iff_iff]; simp [letB]; try omega), rfl⟩
theorem l00Letter_any (c : Int) (w : World) : Calls Try.prog 39 #[.int .u8 c] w fun e w' => e = .returned (.bool (letB c)) ∧ w' = w := by
  go_enter Try.func39, Try.ntmps39
  go_wp2
  all_goals go_ret
  all_goals exact ⟨ret_bool (by rw [Bool.eq_iff_iff]; simp [letB]; try omega), rfl⟩

def okB (c : UInt8) : Bool := letB (c.toNat : Int) || digB (c.toNat : Int)
def nameB (s : ByteArray) : Bool := decide (1 ≤ s.size) && decide (s.size ≤ 40) && !digB ((s.data.toList.headD 0).toNat : Int) && s.data.toList.all okB

theorem all_not (s : ByteArray) (k : Nat) (h : k < s.size) (hb : okB s[k] = false) : s.data.toList.all okB = false := by
  rw [List.all_eq_false]
  exact ⟨s[k], by show s.data[k] ∈ _; simp, by simp [hb]⟩
theorem all_step (s : ByteArray) (k : Nat) (h : k < s.size) (ha : (s.data.toList.take k).all okB = true) (hb : okB s[k] = true) : (s.data.toList.take (k + 1)).all okB = true := by
  rw [take_snoc s k h, List.all_append, ha]; simp [hb]
theorem all_end (s : ByteArray) (ha : (s.data.toList.take s.size).all okB = true) : s.data.toList.all okB = true := by
  rw [List.take_of_length_le (by simp)] at ha; exact ha

set_option maxHeartbeats 400000 in
theorem nameOK_any (s : ByteArray) (w : World) (hs : s.size ≤ maxLen) :
    Calls Try.prog 10 #[.string s] w fun e w' => e = .returned (.bool (nameB s)) ∧ w' = w := by
  unfold maxLen at hs
  by_cases h0 : s.size = 0
  · obtain rfl : s = ByteArray.empty := by simpa using h0
    have hn : nameB ByteArray.empty = false := by decide
    have HN := hide hn
    clear hn
    go_enter Try.func10, Try.ntmps10
    go_wp2_with fail
    go_ret
    exact ⟨ret_bool (unhide HN).symm, rfl⟩
  have hb : ((s.size : Int) == 0) = false := by simp; exact fun h => h0 (by rw [h]; rfl)
  by_cases h1 : 40 < s.size
  · have hn : nameB s = false := by simp [nameB]; omega
    have HN := hide hn
    clear hn
    go_enter Try.func10, Try.ntmps10
    go_wp2_with fail
    go_ret
    exact ⟨ret_bool (unhide HN).symm, rfl⟩
  have hp : 0 < s.size := by omega
  have hh := head_of s hp
  by_cases h2 : digB (s[0].toNat : Int) = true
  · have hn : nameB s = false := by simp only [nameB, hh, h2]; simp
    have HN := hide hn
    clear hn hh
    go_enter Try.func10, Try.ntmps10
    go_wp2_with (go_at_call 26; refine (isDigit_any _ _).mono ?_; rintro e w' ⟨rfl, rfl⟩)
    go_ret
    exact ⟨ret_bool (unhide HN).symm, rfl⟩
  have h2 : digB (s[0].toNat : Int) = false := by simpa using h2
  have HN := hide (show nameB s = s.data.toList.all okB by simp only [nameB, hh, h2]; simp; omega)
  clear hh
  go_enter Try.func10, Try.ntmps10
  go_wp2_with (go_at_call 26; refine (isDigit_any _ _).mono ?_; rintro e w' ⟨rfl, rfl⟩)
  go_loop [3, 19] (fun _ i => ∃ k : Nat, k ≤ s.size ∧ i = .int .i64 k ∧ (s.data.toList.take k).all okB = true) (fun _ i => s.size - (intOf i).toNat)
  case atStart => exact ⟨0, Nat.zero_le _, rfl, rfl⟩
  case round =>
    obtain ⟨k, hk, rfl, ha⟩ := hrel
    by_cases hlt : k < s.size
    · have hst := hide (fun hb => all_step s k hlt ha hb)
      have hno := hide (fun hb => (unhide HN).trans (all_not s k hlt hb))
      cases hl : letB (s[k].toNat : Int)
      · cases hd : digB (s[k].toNat : Int)
        · have ho : okB s[k] = false := by simp [okB, hl, hd]
          have HO := hide (unhide hno ho)
          clear ha ho
          go_wp2_with (first | (go_at_call 27; refine (isLetter_any _ _).mono ?_; rintro e w' ⟨rfl, rfl⟩) | (go_at_call 26; refine (isDigit_any _ _).mono ?_; rintro e w' ⟨rfl, rfl⟩))
          go_ret
          exact ⟨ret_bool (unhide HO).symm, rfl⟩
        · have ho : okB s[k] = true := by simp [okB, hd]
          have HO := hide (unhide hst ho)
          clear ha ho
          go_wp2_with (first | (go_at_call 27; refine (isLetter_any _ _).mono ?_; rintro e w' ⟨rfl, rfl⟩) | (go_at_call 26; refine (isDigit_any _ _).mono ?_; rintro e w' ⟨rfl, rfl⟩))
          go_round
          case rel => exact ⟨k + 1, by omega, by go_num, unhide HO⟩
          case measure => simp [intOf]; omega
      · have ho : okB s[k] = true := by simp [okB, hl]
        have HO := hide (unhide hst ho)
        clear ha ho
        go_wp2_with (first | (go_at_call 27; refine (isLetter_any _ _).mono ?_; rintro e w' ⟨rfl, rfl⟩) | (go_at_call 26; refine (isDigit_any _ _).mono ?_; rintro e w' ⟨rfl, rfl⟩))
        go_round
        case rel => exact ⟨k + 1, by omega, by go_num, unhide HO⟩
        case measure => simp [intOf]; omega
    · obtain rfl : k = s.size := by omega
      have HO := hide ((unhide HN).trans (all_end s ha))
      clear ha
      go_wp2_with fail
      go_ret
      exact ⟨ret_bool (unhide HO).symm, rfl⟩
theorem not_dig {c : Int} (h : letB c = true) : digB c = false := by
  cases hd : digB c
  · rfl
  · simp [letB] at h; simp [digB] at hd; omega
theorem word_not (s : ByteArray) (hp : 0 < s.size) (h : letB (s[0].toNat : Int) = false) : nameB s = false := by
  cases hd : digB (s[0].toNat : Int)
  · have := all_not s 0 hp (by simp [okB, h, hd])
    simp [nameB, this]
  · simp only [nameB, head_of s hp, hd]; simp

set_option maxHeartbeats 400000 in
theorem l00Word_any (s : ByteArray) (w : World) (hs : s.size ≤ maxLen) :
    Calls Try.prog 25 #[.string s] w fun e w' => e = .returned (.bool (nameB s)) ∧ w' = w := by
  unfold maxLen at hs
  by_cases h0 : s.size = 0
  · obtain rfl : s = ByteArray.empty := by simpa using h0
    have hn : nameB ByteArray.empty = false := by decide
    have HN := hide hn
    clear hn
    go_enter Try.func25, Try.ntmps25
    go_wp2_with fail
    go_ret
    exact ⟨ret_bool (unhide HN).symm, rfl⟩
  by_cases h1 : 40 < s.size
  · have hn : nameB s = false := by simp [nameB]; omega
    have HN := hide hn
    clear hn
    go_enter Try.func25, Try.ntmps25
    go_wp2_with fail
    go_ret
    exact ⟨ret_bool (unhide HN).symm, rfl⟩
  have hp : 0 < s.size := by omega
  have hh := head_of s hp
  by_cases h2 : letB (s[0].toNat : Int) = false
  · have hn : nameB s = false := word_not s hp h2
    have HN := hide hn
    clear hn hh
    go_enter Try.func25, Try.ntmps25
    go_wp2_with (go_at_call 39; refine (l00Letter_any _ _).mono ?_; rintro e w' ⟨rfl, rfl⟩)
    go_ret
    exact ⟨ret_bool (unhide HN).symm, rfl⟩
  have h2 : letB (s[0].toNat : Int) = true := by simpa using h2
  have HN := hide (show nameB s = s.data.toList.all okB by simp only [nameB, hh, not_dig h2]; simp; omega)
  have HS := hide (all_step s 0 hp rfl (by simp [okB, h2]))
  clear hh
  go_enter Try.func25, Try.ntmps25
  go_wp2_with (go_at_call 39; refine (l00Letter_any _ _).mono ?_; rintro e w' ⟨rfl, rfl⟩)
  go_loop [3] (fun i => ∃ k : Nat, 1 ≤ k ∧ k ≤ s.size ∧ i = .int .i64 k ∧ (s.data.toList.take k).all okB = true) (fun i => s.size - (intOf i).toNat)
  case atStart => exact ⟨1, Nat.le_refl _, by omega, rfl, unhide HS⟩
  case round =>
    obtain ⟨k, hk1, hk, rfl, ha⟩ := hrel
    by_cases hlt : k < s.size
    · have hst := hide (fun hb => all_step s k hlt ha hb)
      have hno := hide (fun hb => (unhide HN).trans (all_not s k hlt hb))
      cases hl : letB (s[k].toNat : Int)
      · cases hd : digB (s[k].toNat : Int)
        · have ho : okB s[k] = false := by simp [okB, hl, hd]
          have HO := hide (unhide hno ho)
          clear ha ho
          go_wp2_with (first | (go_at_call 39; refine (l00Letter_any _ _).mono ?_; rintro e w' ⟨rfl, rfl⟩) | (go_at_call 40; refine (l00Digit_any _ _).mono ?_; rintro e w' ⟨rfl, rfl⟩))
          go_ret
          exact ⟨ret_bool (unhide HO).symm, rfl⟩
        · have ho : okB s[k] = true := by simp [okB, hd]
          have HO := hide (unhide hst ho)
          clear ha ho
          go_wp2_with (first | (go_at_call 39; refine (l00Letter_any _ _).mono ?_; rintro e w' ⟨rfl, rfl⟩) | (go_at_call 40; refine (l00Digit_any _ _).mono ?_; rintro e w' ⟨rfl, rfl⟩))
          go_round
          case rel => exact ⟨k + 1, by omega, by omega, by go_num, unhide HO⟩
          case measure => simp [intOf]; omega
      · have ho : okB s[k] = true := by simp [okB, hl]
        have HO := hide (unhide hst ho)
        clear ha ho
        go_wp2_with (first | (go_at_call 39; refine (l00Letter_any _ _).mono ?_; rintro e w' ⟨rfl, rfl⟩) | (go_at_call 40; refine (l00Digit_any _ _).mono ?_; rintro e w' ⟨rfl, rfl⟩))
        go_round
        case rel => exact ⟨k + 1, by omega, by omega, by go_num, unhide HO⟩
        case measure => simp [intOf]; omega
    · obtain rfl : k = s.size := by omega
      have HO := hide ((unhide HN).trans (all_end s ha))
      clear ha
      go_wp2_with fail
      go_ret
      exact ⟨ret_bool (unhide HO).symm, rfl⟩

theorem specName_any (s : ByteArray) (w : World) (hs : s.size ≤ maxLen) :
    Calls Try.prog 9 #[.string s] w fun e w' => e = .returned (.bool (nameB s)) ∧ w' = w := by
  go_enter Try.func9, Try.ntmps9
  go_wp2_with (go_at_call 25; refine (l00Word_any _ _ hs).mono ?_; rintro e w' ⟨rfl, rfl⟩)
  go_ret
  exact ⟨rfl, rfl⟩

/-- THE LAW's WALK. -/
theorem lawName_any (s : ByteArray) (w : World) (hs : s.size ≤ maxLen) :
    Calls Try.prog 3 #[.string s] w fun e w' => e = .returned (.bool true) ∧ w' = w := by
  have hs' := hs
  unfold maxLen at hs'
  by_cases hl : 1048576 < s.size
  · go_enter Try.func3, Try.ntmps3
    go_wp2_with fail
    go_ret
    exact ⟨rfl, rfl⟩
  · go_enter Try.func3, Try.ntmps3
    go_wp2_with (first | (go_at_call 9; refine (specName_any _ _ hs).mono ?_; rintro e w' ⟨rfl, rfl⟩) | (go_at_call 10; refine (nameOK_any _ _ hs).mono ?_; rintro e w' ⟨rfl, rfl⟩))
    go_ret
    exact ⟨rfl, rfl⟩
theorem lawName_bel (s : ByteArray) (w : World) (hs : s.size ≤ maxLen) :
    Calls Try.prog 3 #[.string s] w fun e w' => e = .returned (.bool true) ∧ Below w.heap.size w w' :=
  (lawName_any s w hs).mono fun _ _ ⟨h1, h2⟩ => ⟨h1, h2 ▸ Below.refl _ _⟩
end Go.Proofs.Ytmnijhjlindfbaa
