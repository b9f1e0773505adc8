/-
  The walk of KeyText, the specification's.
-/
import Derived.Test.YtmnijhjlindfbaaReadL
namespace Go.Proofs.Ytmnijhjlindfbaa
open Go.RowKit

theorem l01In_any (p lo hi : Int) (w : World) : Calls Try.prog 36 #[.int .i64 p, .int .i64 lo, .int .i64 hi] w fun e w' => e = .returned (.bool (decide (lo ≤ p) && decide (p ≤ hi))) ∧ w' = w := by
  go_enter Try.func36, Try.ntmps36
  go_wp2
  all_goals go_ret
  all_goals exact ⟨ret_bool (by rw [Bool.eq_iff_iff]; simp; try omega), rfl⟩
set_option maxHeartbeats 1000000 in
theorem specKeyText_any (a : Option Addr) (n c : Nat) (p : Int) (xs : List Int) (w : World) (hn : n ≤ 1048576) (h1 : Row w a n xs) :
    Calls Try.prog 22 #[.slice a n c, .int .i64 p] w fun e w' => e = .returned (ktV xs p) ∧ Below w.heap.size w w' := by
  have L1 := hide h1.1
  have R1 := hide h1
  clear h1
  by_cases hbig : 65536 < n
  · have E := hide (show ktV xs p = .tuple #[.string ByteArray.empty, .int .i64 0, .int .i64 2] by unfold ktV; rw [if_pos (by rw [unhide L1]; exact hbig)])
    go_enter Try.func22, Try.ntmps22
    go_wp2_with fail
    go_ret3
    exact ⟨by rw [unhide E]; rfl, Below.refl _ _⟩
  by_cases hp : p < 0 ∨ (n : Int) < p
  · have E := hide (show ktV xs p = .tuple #[.string ByteArray.empty, .int .i64 0, .int .i64 4] by unfold ktV; rw [if_neg (by rw [unhide L1]; exact hbig), if_pos (by rw [unhide L1]; exact hp)])
    have hd : (decide (0 ≤ p) && decide (p ≤ (n : Int))) = false := by rcases hp with h | h <;> simp <;> omega
    clear hp
    go_enter Try.func22, Try.ntmps22
    go_wp2_with fail
    refine (l01In_any _ _ _ _).mono ?_
    rintro e w1 ⟨rfl, rfl⟩
    rw [hd]
    go_wp2_with fail
    go_ret3
    exact ⟨by rw [unhide E]; rfl, Below.refl _ _⟩
  have hd : (decide (0 ≤ p) && decide (p ≤ (n : Int))) = true := by simp; omega
  obtain ⟨k, rfl⟩ := Int.eq_ofNat_of_zero_le (show 0 ≤ p by omega)
  have hk : k ≤ n := by omega
  have E := hide (show ktV xs (k : Int) = (match short (rd (xs.drop k) [] k) with
    | some (o, q) => .tuple #[.string (strOfNums o), .int .i64 q, .int .i64 0]
    | none => .tuple #[.string ByteArray.empty, .int .i64 0, .int .i64 3]) by unfold ktV; rw [if_neg (by rw [unhide L1]; exact hbig), if_neg (by rw [unhide L1]; exact hp)]; rfl)
  clear hp
  go_enter Try.func22, Try.ntmps22
  go_wp2_with fail
  refine (l01In_any _ _ _ _).mono ?_
  rintro e w1 ⟨rfl, rfl⟩
  rw [hd]
  clear hd
  go_wp2_with fail
  refine (l01Read_any a n c k xs _ hn (unhide R1) hk).mono ?_
  rintro e w2 ⟨rfl, hb⟩
  cases hr : rd (xs.drop k) [] k with
  | none =>
    rw [hr, short_none] at E
    clear hr
    simp only [rdV]
    go_wp2_with fail
    go_ret3
    exact ⟨by rw [unhide E]; rfl, hb⟩
  | some x =>
    obtain ⟨o, q⟩ := x
    rw [hr] at E
    clear hr
    simp only [rdV]
    by_cases ho : o.length ≤ 100
    · rw [short_some ho] at E
      rw [show decide (o.length ≤ 100) = true by simpa using ho]
      clear ho
      go_wp2_with fail
      go_ret3
      exact ⟨by rw [unhide E]; rfl, hb⟩
    · rw [short_long (by omega)] at E
      rw [show decide (o.length ≤ 100) = false by simpa using ho]
      clear ho
      go_wp2_with fail
      go_ret3
      exact ⟨by rw [unhide E]; rfl, hb⟩
end Go.Proofs.Ytmnijhjlindfbaa
