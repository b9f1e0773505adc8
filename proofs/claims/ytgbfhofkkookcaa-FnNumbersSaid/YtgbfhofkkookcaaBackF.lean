/-
  The walks of KeyFloat and KeyInt, the program's, at keys: the float, the number is read back.
-/
import Derived.Test.YtgbfhofkkookcaaKeyBack
namespace Go.Proofs.Ytgbfhofkkookcaa
open Go.RowKit

theorem run_frombits (n : Int) (w : World) : (callFunc 49 #[.int .u64 n]).run Try.prog w = .ok (.value (.float .f64 n.toNat)) w := by kernel_rfl

theorem frank_range {f : Nat} (h : f < 18446744073709551616) : 0 ≤ frank f ∧ frank f < 18446744073709551616 := by unfold frank; split <;> omega
set_option maxHeartbeats 400000 in
theorem rankFloat_any (f : Nat) (w : World) (h : f < 18446744073709551616) :
    Calls Try.prog 29 #[.int .u64 (frank f)] w fun e w' => e = .returned (.float .f64 f) ∧ w' = w := by
  by_cases hf : f < 9223372036854775808
  · have e : frank f = ((f + 9223372036854775808 : Nat) : Int) := by unfold frank; rw [if_pos hf]; omega
    have ht : (bits .and .u64 (frank f) 9223372036854775808 != 0) = true := by rw [e]; exact top_hi (by omega) (by omega)
    have hq : bits .andNot .u64 (frank f) 9223372036854775808 = (f : Int) := by rw [e, u64_andNot_top _ (by omega) (by omega)]; omega
    have hfb : ∀ w, (callFunc 49 #[.int .u64 (bits .andNot .u64 (frank f) 9223372036854775808)]).run Try.prog w = .ok (.value (.float .f64 f)) w := fun w => by rw [hq, run_frombits]; rfl
    clear hq e hf h
    generalize frank f = r at *
    go_enter Try.func29, Try.ntmps29
    go_wp2
    go_ret
    exact ⟨rfl, rfl⟩
  · have e : frank f = ((18446744073709551615 - f : Nat) : Int) := by unfold frank; rw [if_neg hf]; omega
    have ht : (bits .and .u64 (frank f) 9223372036854775808 != 0) = false := by rw [e]; exact top_lo (by omega)
    have hq : bits .xor .u64 IntKind.u64.max (frank f) = (f : Int) := by rw [e, u64_not _ (by omega)]; omega
    have hfb : ∀ w, (callFunc 49 #[.int .u64 (bits .xor .u64 IntKind.u64.max (frank f))]).run Try.prog w = .ok (.value (.float .f64 f)) w := fun w => by rw [hq, run_frombits]; rfl
    have hs : IntKind.u64.signed = false := rfl
    clear hq e hf h
    generalize frank f = r at *
    go_enter Try.func29, Try.ntmps29
    go_wp2
    go_ret
    exact ⟨rfl, rfl⟩

theorem rank_nat {n : Int} (h : -9223372036854775808 ≤ n) (h1 : n < 9223372036854775808) : rank n = n + 9223372036854775808 := by
  unfold rank
  by_cases hn : 0 ≤ n
  · obtain ⟨k, rfl⟩ := Int.eq_ofNat_of_zero_le hn
    rw [IntKind.wrap_u64, show ((k : Int) % 18446744073709551616) = (k : Int) by omega, u64_xor_top k (by omega), if_pos (by omega)]
  · rw [IntKind.wrap_u64, show (n % 18446744073709551616) = (((n + 18446744073709551616).toNat : Nat) : Int) by omega, u64_xor_top _ (by omega), if_neg (by omega)]
    omega
set_option maxHeartbeats 400000 in
theorem rankInt_any (n : Int) (w : World) (h : -9223372036854775808 ≤ n) (h1 : n < 9223372036854775808) :
    Calls Try.prog 33 #[.int .u64 (rank n)] w fun e w' => e = .returned (.int .i64 n) ∧ w' = w := by
  have hq : wrap64 (bits .xor .u64 (rank n) 9223372036854775808) = n := by
    rw [rank_nat h h1, show n + 9223372036854775808 = (((n + 9223372036854775808).toNat : Nat) : Int) by omega, u64_xor_top _ (by omega)]
    unfold wrap64
    split <;> omega
  have Q := hide hq
  clear hq
  generalize rank n = r at *
  go_enter Try.func33, Try.ntmps33
  go_wp2
  go_ret
  exact ⟨ret_int (unhide Q), rfl⟩

theorem eights_lits (n : Int) : ∃ b0 b1 b2 b3 b4 b5 b6 b7 : Int, eights n 8 = [b0, b1, b2, b3, b4, b5, b6, b7] := ⟨_, _, _, _, _, _, _, _, rfl⟩
set_option maxHeartbeats 1000000 in
theorem keyFloat_any (b off c f : Nat) (w : World) (hnc : 8 ≤ c) (hc : c ≤ maxLen) (hf : f < 18446744073709551616) (hr : Row w (some ⟨b, off, none⟩) 8 (eights (frank f) 8)) :
    Calls Try.prog 8 #[.slice (some ⟨b, off, none⟩) 8 c] w fun e w' => e = .returned (.tuple #[.float .f64 f, .int .i64 0]) ∧ Below w.heap.size w w' := by
  have hnum := num_eights (frank f) (frank_range hf).1 (frank_range hf).2
  have hby := eights_bytes (frank f)
  obtain ⟨b0, b1, b2, b3, b4, b5, b6, b7, he⟩ := eights_lits (frank f)
  rw [he] at hnum hby hr
  have hO := onlyEight_any b off c [b0, b1, b2, b3, b4, b5, b6, b7] w hnc hc hr
  have HO := hide hO
  have HB := hide hby
  have HN := hide hnum
  clear hO hby hnum he hr
  go_enter Try.func8, Try.ntmps8
  go_wp2_with fail
  refine (unhide HO).mono ?_
  rintro e w1 ⟨rfl, hb1⟩
  go_wp2_with fail
  refine (rankOf_any b0 b1 b2 b3 b4 b5 b6 b7 _ (unhide HB)).mono ?_
  rintro e w2 ⟨rfl, hb2⟩
  rw [unhide HN]
  go_wp2_with fail
  refine (rankFloat_any f _ hf).mono ?_
  rintro e w3 ⟨rfl, rfl⟩
  have bA : Below w.heap.size w w3 := hb1.trans (((Below.refl w.heap.size w1).alloc hb1.size _).trans (hb2.mono (by have := hb1.size; simp; omega)))
  clear hb1 hb2
  go_wp2_with fail
  go_ret2
  exact ⟨rfl, bA⟩

set_option maxHeartbeats 1000000 in
theorem keyInt_any (b off c : Nat) (n : Int) (w : World) (hnc : 8 ≤ c) (hc : c ≤ maxLen) (h0 : -9223372036854775808 ≤ n) (h1 : n < 9223372036854775808) (hr : Row w (some ⟨b, off, none⟩) 8 (eights (rank n) 8)) :
    Calls Try.prog 12 #[.slice (some ⟨b, off, none⟩) 8 c] w fun e w' => e = .returned (.tuple #[.int .i64 n, .int .i64 0]) ∧ Below w.heap.size w w' := by
  have hnum := num_eights (rank n) (by rw [rank_nat h0 h1]; omega) (by rw [rank_nat h0 h1]; omega)
  have hby := eights_bytes (rank n)
  obtain ⟨b0, b1, b2, b3, b4, b5, b6, b7, he⟩ := eights_lits (rank n)
  rw [he] at hnum hby hr
  have hO := onlyEight_any b off c [b0, b1, b2, b3, b4, b5, b6, b7] w hnc hc hr
  have HO := hide hO
  have HB := hide hby
  have HN := hide hnum
  clear hO hby hnum he hr
  go_enter Try.func12, Try.ntmps12
  go_wp2_with fail
  refine (unhide HO).mono ?_
  rintro e w1 ⟨rfl, hb1⟩
  go_wp2_with fail
  refine (rankOf_any b0 b1 b2 b3 b4 b5 b6 b7 _ (unhide HB)).mono ?_
  rintro e w2 ⟨rfl, hb2⟩
  rw [unhide HN]
  go_wp2_with fail
  refine (rankInt_any n _ h0 h1).mono ?_
  rintro e w3 ⟨rfl, rfl⟩
  have bA : Below w.heap.size w w3 := hb1.trans (((Below.refl w.heap.size w1).alloc hb1.size _).trans (hb2.mono (by have := hb1.size; simp; omega)))
  clear hb1 hb2
  go_wp2_with fail
  go_ret2
  exact ⟨rfl, bA⟩
end Go.Proofs.Ytgbfhofkkookcaa
