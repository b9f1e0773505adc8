/-
  The walks of l03Crc and Crc, the specification's.
-/
import Derived.Test.YtdiakahaghggiaaCrcL
namespace Go.Proofs.Ytdiakahaghggiaa
open Go.RowKit

theorem crcBit_even {c : Nat} (h : ¬ c % 2 = 1) : ((c / 2 : Nat) : Int) = ((crcBit c : Nat) : Int) := by unfold crcBit; rw [if_neg h]
theorem crcBit_odd_i64 {c : Nat} (hc : c < 4294967296) (h : c % 2 = 1) : bits .xor .i64 ((c : Int) / 2) 3988292384 = ((crcBit c : Nat) : Int) := by
  unfold crcBit
  rw [if_pos h]
  have := i64_xor_nat (c / 2) 3988292384 (by omega) (by omega)
  rw [← this]
  rfl
set_option maxHeartbeats 1000000 in
theorem l03Crc_any (a : Option Addr) (n c : Nat) (xs : List Int) (w : World) (hn : n ≤ 1048576) (h1 : Row w a n xs) (h8 : Bytes8 xs) :
    Calls Try.prog 49 #[.slice a n c] w fun e w' => e = .returned (.int .i64 ((crcV xs : Nat) : Int)) ∧ w' = w := by
  have L1 := hide h1.1
  have H1 := hide h1.2
  have H8 := hide h8
  clear h1 h8
  go_enter Try.func49, Try.ntmps49
  go_wp2_with fail
  go_loop [3, 4] (fun s i => ∃ k : Nat, k ≤ n ∧ i = .int .i64 k ∧ s = .int .i64 ((crcSum (xs.take k) : Nat) : Int)) (fun _ i => n - (intOf i).toNat)
  case atStart => exact ⟨0, Nat.zero_le _, rfl, rfl⟩
  case round =>
    obtain ⟨k, hk, rfl, rfl⟩ := hrel
    by_cases hlt : k < n
    · obtain ⟨b, off, rfl, e1⟩ := unhide H1 k hlt
      have hx := unhide H8 k (by rw [unhide L1]; exact hlt)
      have hs := crcSum_take_lt (unhide H8) k (by rw [unhide L1]; omega)
      have SN := hide (crcSum_snoc xs k (by rw [unhide L1]; exact hlt))
      generalize xs.getD k 0 = x at *
      generalize crcSum (xs.take k) = s at *
      have hxx : bits .xor .i64 (s : Int) x = ((s ^^^ x.toNat : Nat) : Int) := by
        have := i64_xor_nat s x.toNat hs (by omega)
        rwa [Int.toNat_of_nonneg hx.1] at this
      have hS := hide (xor32 hs (show x.toNat < 4294967296 by omega))
      have SN2 := hide (show crcSum (xs.take (k + 1)) = crcBits (s ^^^ x.toNat) 8 from unhide SN)
      clear SN
      generalize s ^^^ x.toNat = t at *
      go_wp2_with fail
      go_loop [3, 5] (fun s i => ∃ j : Nat, j ≤ 8 ∧ i = .int .i64 j ∧ s = .int .i64 ((crcBits t j : Nat) : Int)) (fun _ i => 8 - (intOf i).toNat)
      case atStart => exact ⟨0, Nat.zero_le _, rfl, rfl⟩
      case round =>
        obtain ⟨j, hj, rfl, rfl⟩ := hrel
        by_cases hlt8 : j < 8
        · have hb := crcBits_lt (unhide hS) j
          have HE := hide (show crcBits t (j + 1) = crcBit (crcBits t j) from rfl)
          generalize crcBits t j = u at *
          by_cases ho : u % 2 = 1
          · have q : ((u : Int) % 2 == 1) = true := by simp; omega
            have hr := crcBit_odd_i64 hb ho
            clear ho
            go_wp2_with fail
            go_round
            case rel => exact ⟨j + 1, by omega, by go_num, by rw [unhide HE]⟩
            case measure => simp [intOf]; omega
          · have q : ((u : Int) % 2 == 1) = false := by simp; omega
            have hr := hide (crcBit_even ho)
            clear ho
            go_wp2_with fail
            go_round
            case rel => exact ⟨j + 1, by omega, by go_num, by rw [unhide HE, ← unhide hr]; rfl⟩
            case measure => simp [intOf]; omega
        · obtain rfl : j = 8 := by omega
          go_wp2_with fail
          go_round
          case rel => exact ⟨k + 1, by omega, by go_num, by rw [unhide SN2]⟩
          case measure => simp [intOf]; omega
    · obtain rfl : k = n := by omega
      rw [List.take_of_length_le (by rw [unhide L1]; exact Nat.le_refl _)]
      have HV := hide (show bits .xor .i64 ((crcSum xs : Nat) : Int) 4294967295 = ((crcV xs : Nat) : Int) from i64_xor_nat _ 4294967295 (crcSum_lt (unhide H8)) (by omega))
      generalize crcSum xs = s at *
      go_wp2_with fail
      go_ret
      exact ⟨ret_int (unhide HV), rfl⟩
set_option maxHeartbeats 400000 in
theorem specCrc_any (a : Option Addr) (n c : Nat) (xs : List Int) (w : World) (hn : n ≤ 1048576) (h1 : Row w a n xs) (h8 : Bytes8 xs) :
    Calls Try.prog 25 #[.slice a n c] w fun e w' => e = .returned (.int .i64 (crcR xs)) ∧ w' = w := by
  have hl := h1.1
  by_cases h : 65536 < n
  · have HR := hide (show crcR xs = 0 by unfold crcR; rw [if_pos (by omega)])
    clear h1 h8 hl
    go_enter Try.func25, Try.ntmps25
    go_wp2_with fail
    go_ret
    exact ⟨ret_int (unhide HR).symm, rfl⟩
  · have HR := hide (show crcR xs = ((crcV xs : Nat) : Int) by unfold crcR; rw [if_neg (by omega)])
    have HC := hide (l03Crc_any a n c xs w hn h1 h8)
    clear h1 h8 hl
    go_enter Try.func25, Try.ntmps25
    go_wp2_with (go_at_call 49; refine (unhide HC).mono ?_; rintro e w1 ⟨rfl, rfl⟩)
    go_ret
    exact ⟨ret_int (unhide HR).symm, rfl⟩
end Go.Proofs.Ytdiakahaghggiaa
