/-
  The walks of l01Bits, KeyInt and l01Float, the specification's, at eight bytes.
-/
import Derived.Test.YtmnijhjlindfbabPartAt
namespace Go.Proofs.Ytmnijhjlindfbab
open Go.RowKit

set_option maxHeartbeats 2000000 in
theorem l01Bits_any (a : Option Addr) (c : Nat) (xs : List Int) (w : World) (hr : Row w a 8 xs) (hb : ∀ b ∈ xs, 0 ≤ b ∧ b ≤ 255) :
    Calls Try.prog 47 #[.slice a 8 c] w fun e w' => e = .returned (.int .u64 (num xs)) ∧ w' = w := by
  have L := hide hr.1
  have H := hide hr.2
  have HB := hide hb
  clear hb hr
  go_enter Try.func47, Try.ntmps47
  go_wp2_with fail
  go_loop [3, 4] (fun r i => ∃ k : Nat, k ≤ 8 ∧ i = .int .i64 k ∧ ∃ n : Int, r = .int .u64 n ∧ 0 ≤ n ∧ n < 256 ^ k ∧ Hid (n = num (xs.take k))) (fun _ i => 8 - (intOf i).toNat)
  case atStart => exact ⟨0, by omega, rfl, 0, rfl, by omega, by decide, rfl⟩
  case round =>
    obtain ⟨k, hk, rfl, n, rfl, hn0, hn1, hn⟩ := hrel
    by_cases hlt : k < 8
    · obtain ⟨b, off, rfl, e1⟩ := unhide H k hlt
      have hl : k < xs.length := by rw [unhide L]; exact hlt
      have hby := unhide HB xs[k] (List.getElem_mem hl)
      have eg : xs.getD k 0 = xs[k] := by simp [List.getD, hl]
      rw [eg] at e1
      have J := hide (or_step (B := xs[k]) (k := k) hn0 hn1 hlt hby.1 hby.2)
      have S := hide (show num (xs.take (k + 1)) = n * 256 + xs[k] by rw [unhide hn]; unfold num; rw [List.take_succ_eq_append_getElem hl, List.foldl_append]; rfl)
      clear hn0 hn1 hby eg
      generalize xs[k] = x at *
      go_wp2_with fail
      go_round
      case rel => exact ⟨k + 1, by omega, by go_num, n * 256 + x, congrArg _ (unhide J).1, (unhide J).2.1, (unhide J).2.2, (unhide S).symm⟩
      case measure => simp [intOf]; omega
    · obtain rfl : k = 8 := by omega
      have E := hide (show n = num xs by have := unhide hn; rw [List.take_of_length_le (by rw [unhide L]; exact Nat.le_refl _)] at this; exact this)
      go_wp2_with fail
      go_ret
      exact ⟨ret_int (unhide E), rfl⟩

set_option maxHeartbeats 400000 in
theorem specKeyInt_any (a : Option Addr) (c : Nat) (xs : List Int) (w : World) (hr : Row w a 8 xs) (hb : ∀ b ∈ xs, 0 ≤ b ∧ b ≤ 255) :
    Calls Try.prog 29 #[.slice a 8 c] w fun e w' => e = .returned (.tuple #[.int .i64 (unr (num xs)), .int .i64 0]) ∧ w' = w := by
  have NR := num_range hb hr.1
  have LB := hide (fun w' (h : w' = w) => l01Bits_any a c xs w' (by rw [h]; exact hr) hb)
  have Q := hide (show wrap64 (bits .xor .u64 (num xs) 9223372036854775808) = unr (num xs) by
    obtain ⟨k, hk⟩ := Int.eq_ofNat_of_zero_le NR.1
    rw [hk] at NR ⊢
    rw [u64_xor_top k (by omega)]
    unfold wrap64 unr
    split <;> omega)
  clear hr hb NR
  go_enter Try.func29, Try.ntmps29
  go_wp2_with fail
  refine (unhide LB _ rfl).mono ?_
  rintro e w1 ⟨rfl, rfl⟩
  go_wp2_with fail
  go_ret2
  exact ⟨by rw [← unhide Q]; rfl, rfl⟩
set_option maxHeartbeats 400000 in
theorem l01Float_any (a : Option Addr) (c : Nat) (xs : List Int) (w : World) (hr : Row w a 8 xs) (hb : ∀ b ∈ xs, 0 ≤ b ∧ b ≤ 255) :
    Calls Try.prog 30 #[.slice a 8 c] w fun e w' => e = .returned (.float .f64 (unf (num xs))) ∧ w' = w := by
  have NR := num_range hb hr.1
  have LB := hide (fun w' (h : w' = w) => l01Bits_any a c xs w' (by rw [h]; exact hr) hb)
  clear hr hb
  by_cases hN : 9223372036854775808 ≤ num xs
  · have hfb : ∀ w, (callFunc 48 #[.int .u64 (bits .xor .u64 (num xs) 9223372036854775808)]).run Try.prog w = .ok (.value (.float .f64 (unf (num xs)))) w := fun w => by
      obtain ⟨k, hk⟩ := Int.eq_ofNat_of_zero_le NR.1
      rw [hk] at NR hN ⊢
      rw [u64_xor_top k (by omega), if_neg (by omega), run_frombits]
      unfold unf
      rw [if_pos hN]
    clear NR
    generalize unf (num xs) = F at *
    go_enter Try.func30, Try.ntmps30
    go_wp2_with fail
    refine (unhide LB _ rfl).mono ?_
    rintro e w1 ⟨rfl, rfl⟩
    generalize num xs = N at *
    go_wp2_with fail
    go_ret
    exact ⟨rfl, rfl⟩
  · have hfb : ∀ w, (callFunc 48 #[.int .u64 (bits .xor .u64 IntKind.u64.max (num xs))]).run Try.prog w = .ok (.value (.float .f64 (unf (num xs)))) w := fun w => by
      obtain ⟨k, hk⟩ := Int.eq_ofNat_of_zero_le NR.1
      rw [hk] at NR hN ⊢
      rw [u64_not k (by omega), run_frombits]
      unfold unf
      rw [if_neg hN]
    have hs : IntKind.u64.signed = false := rfl
    clear NR
    generalize unf (num xs) = F at *
    go_enter Try.func30, Try.ntmps30
    go_wp2_with fail
    refine (unhide LB _ rfl).mono ?_
    rintro e w1 ⟨rfl, rfl⟩
    generalize num xs = N at *
    go_wp2_with fail
    go_ret
    exact ⟨rfl, rfl⟩
end Go.Proofs.Ytmnijhjlindfbab
