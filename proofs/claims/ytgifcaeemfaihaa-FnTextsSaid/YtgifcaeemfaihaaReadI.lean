/-
  The walk of KeyText, the program's.
-/
import Derived.Test.YtgifcaeemfaihaaTextAt
set_option maxRecDepth 100000
namespace Go.Proofs.Ytgifcaeemfaihaa
open Go.RowKit

set_option maxHeartbeats 1000000 in
theorem keyText_any (a : Option Addr) (n c : Nat) (p : Int) (xs : List Int) (w : World) (hn : n ≤ 1048576) (h1 : Row w a n xs) :
    Calls Try.prog 18 #[.slice a n c, .int .i64 p] w fun e w' => e = .returned (ktV xs p) ∧ Below w.heap.size w w' := by
  have L1 := hide h1.1
  have R1 := hide h1
  clear h1
  by_cases hbig : 65536 < n
  · have E := hide (show ktV xs p = .tuple #[.string ByteArray.empty, .int .i64 0, .int .i64 2] by unfold ktV; rw [if_pos (by rw [unhide L1]; exact hbig)])
    go_enter Try.func18, Try.ntmps18
    go_wp2_with fail
    go_ret3
    exact ⟨by rw [unhide E]; rfl, Below.refl _ _⟩
  by_cases hp : p < 0 ∨ (n : Int) < p
  · have E := hide (show ktV xs p = .tuple #[.string ByteArray.empty, .int .i64 0, .int .i64 4] by unfold ktV; rw [if_neg (by rw [unhide L1]; exact hbig), if_pos (by rw [unhide L1]; exact hp)])
    rcases hp with h | h
    all_goals
      go_enter Try.func18, Try.ntmps18
      go_wp2_with fail
      go_ret3
      exact ⟨by rw [unhide E]; rfl, Below.refl _ _⟩
  obtain ⟨k, rfl⟩ := Int.eq_ofNat_of_zero_le (show 0 ≤ p by omega)
  have hk : k ≤ n := by omega
  have E := hide (show ktV xs (k : Int) = (match short (rd (xs.drop k) [] k) with
    | some (o, q) => .tuple #[.string (strOfNums o), .int .i64 q, .int .i64 0]
    | none => .tuple #[.string ByteArray.empty, .int .i64 0, .int .i64 3]) by unfold ktV; rw [if_neg (by rw [unhide L1]; exact hbig), if_neg (by rw [unhide L1]; exact hp)]; rfl)
  clear hp
  go_enter Try.func18, Try.ntmps18
  go_wp2_with fail
  refine (textAt_any a n c k xs _ hn (unhide R1) hk).mono ?_
  rintro e w2 ⟨rfl, hb⟩
  cases hr : short (rd (xs.drop k) [] k) with
  | none =>
    rw [hr] at E
    clear hr
    simp only [taV]
    go_wp2_with fail
    go_ret3
    exact ⟨by rw [unhide E]; rfl, hb⟩
  | some x =>
    obtain ⟨o, q⟩ := x
    rw [hr] at E
    clear hr
    simp only [taV]
    go_wp2_with fail
    go_ret3
    exact ⟨by rw [unhide E]; rfl, hb⟩
end Go.Proofs.Ytgifcaeemfaihaa
