/-
  The walks of crcOf and Crc, the program's.
-/
import Derived.Test.YtdiakahaghggiaaCrcL
import Derived.Laws.BitsLemmas
namespace Go.Proofs.Ytdiakahaghggiaa
open Go.RowKit

theorem crc_and {c : Nat} (hc : c < 4294967296) : bits .and .u32 (c : Int) 1 = ((c % 2 : Nat) : Int) := by
  have := u32_and_nat c 1 hc (by omega)
  rw [← nat_mask1, ← this]; rfl
theorem crcBit_odd_u32 {c : Nat} (hc : c < 4294967296) (h : c % 2 = 1) : bits .xor .u32 ((c : Int) / 2) 3988292384 = ((crcBit c : Nat) : Int) := by
  unfold crcBit
  rw [if_pos h]
  have := u32_xor_nat (c / 2) 3988292384 (by omega) (by omega)
  rw [← this]
  rfl
theorem crcBit_even_i {c : Nat} (h : ¬ c % 2 = 1) : ((c / 2 : Nat) : Int) = ((crcBit c : Nat) : Int) := by unfold crcBit; rw [if_neg h]
set_option maxHeartbeats 1000000 in
theorem crcOf_any (a : Option Addr) (n c : Nat) (xs : List Int) (w : World) (hn : n ≤ 1048576) (h1 : Row w a n xs) (h8 : Bytes8 xs) :
    Calls Try.prog 50 #[.slice a n c] w fun e w' => e = .returned (.int .u32 ((crcV xs : Nat) : Int)) ∧ w' = w := by
  have L1 := hide h1.1
  have H1 := hide h1.2
  have H8 := hide h8
  clear h1 h8
  go_enter Try.func50, Try.ntmps50
  go_wp2_with fail
  go_loop [3, 9] (fun s i => ∃ k : Nat, k ≤ n ∧ i = .int .i64 k ∧ s = .int .u32 ((crcSum (xs.take k) : Nat) : Int)) (fun _ i => n - (intOf i).toNat)
  case atStart => exact ⟨0, Nat.zero_le _, rfl, rfl⟩
  case round =>
    obtain ⟨k, hk, rfl, rfl⟩ := hrel
    by_cases hlt : k < n
    · obtain ⟨b, off, rfl, e1⟩ := unhide H1 k hlt
      have hx := unhide H8 k (by rw [unhide L1]; exact hlt)
      have hs := crcSum_take_lt (unhide H8) k (by rw [unhide L1]; omega)
      have SN := hide (crcSum_snoc xs k (by rw [unhide L1]; exact hlt))
      generalize xs.getD k 0 = x at *
      generalize crcSum (xs.take k) = s at *
      have hxx : bits .xor .u32 (s : Int) x = ((s ^^^ x.toNat : Nat) : Int) := by
        have := u32_xor_nat s x.toNat hs (by omega)
        rwa [Int.toNat_of_nonneg hx.1] at this
      have hS := hide (xor32 hs (show x.toNat < 4294967296 by omega))
      have SN2 := hide (show crcSum (xs.take (k + 1)) = crcBits (s ^^^ x.toNat) 8 from unhide SN)
      clear SN
      generalize s ^^^ x.toNat = t at *
      go_wp2_with fail
      go_loop [3, 17] (fun s i => ∃ j : Nat, j ≤ 8 ∧ i = .int .i64 j ∧ s = .int .u32 ((crcBits t j : Nat) : Int)) (fun _ i => 8 - (intOf i).toNat)
      case atStart => exact ⟨0, Nat.zero_le _, rfl, rfl⟩
      case round =>
        obtain ⟨j, hj, rfl, rfl⟩ := hrel
        by_cases hlt8 : j < 8
        · have hb := crcBits_lt (unhide hS) j
          have HE := hide (show crcBits t (j + 1) = crcBit (crcBits t j) from rfl)
          generalize crcBits t j = u at *
          have ha := crc_and hb
          by_cases ho : u % 2 = 1
          · have hr := crcBit_odd_u32 hb ho
            rw [ho] at ha
            clear ho
            go_wp2_with fail
            go_round
            case rel => exact ⟨j + 1, by omega, by go_num, by rw [unhide HE]⟩
            case measure => simp [intOf]; omega
          · have hr := hide (crcBit_even_i ho)
            rw [show u % 2 = 0 by omega] at ha
            clear ho
            go_wp2_with fail
            go_round
            case rel => exact ⟨j + 1, by omega, by go_num, by rw [unhide HE, ← unhide hr]; rfl⟩
            case measure => simp [intOf]; omega
        · obtain rfl : j = 8 := by omega
          go_wp2_with fail
          go_round
          case rel => exact ⟨k + 1, by omega, by go_num, by rw [unhide SN2]⟩
          case measure => simp [intOf]; omega
    · obtain rfl : k = n := by omega
      rw [List.take_of_length_le (by rw [unhide L1]; exact Nat.le_refl _)]
      have HV := hide (show bits .xor .u32 4294967295 ((crcSum xs : Nat) : Int) = ((crcV xs : Nat) : Int) from (u32_xor_nat 4294967295 _ (by omega) (crcSum_lt (unhide H8))).trans (by rw [Nat.xor_comm]; rfl))
      generalize crcSum xs = s at *
      go_wp2_with fail
      go_ret
      exact ⟨ret_int (unhide HV), rfl⟩
theorem u32_lt {v : Nat} (h : v < 4294967296) : IntKind.i64.wrap (v : Int) = (v : Int) := by rw [IntKind.wrap_i64]; omega
set_option maxHeartbeats 400000 in
theorem implCrc_any (a : Option Addr) (n c : Nat) (xs : List Int) (w : World) (hn : n ≤ 1048576) (h1 : Row w a n xs) (h8 : Bytes8 xs) :
    Calls Try.prog 27 #[.slice a n c] w fun e w' => e = .returned (.int .i64 (crcR xs)) ∧ w' = w := by
  have hl := h1.1
  by_cases h : 65536 < n
  · have HR := hide (show crcR xs = 0 by unfold crcR; rw [if_pos (by omega)])
    clear h1 h8 hl
    go_enter Try.func27, Try.ntmps27
    go_wp2_with fail
    go_ret
    exact ⟨ret_int (unhide HR).symm, rfl⟩
  · have HR := hide (show crcR xs = ((crcV xs : Nat) : Int) by unfold crcR; rw [if_neg (by omega)])
    have HC := hide (crcOf_any a n c xs w hn h1 h8)
    have hv := crcV_lt h8
    clear h1 h8 hl
    go_enter Try.func27, Try.ntmps27
    go_wp2_with (go_at_call 50; refine (unhide HC).mono ?_; rintro e w1 ⟨rfl, rfl⟩)
    go_ret
    exact ⟨ret_int (unhide HR).symm, rfl⟩
end Go.Proofs.Ytdiakahaghggiaa
