/-
  The eight bytes of a whole number of 64 bits: plain facts.
-/
import Derived.Test.YtgifcaeemfaihaaOwn
set_option maxRecDepth 100000
namespace Go.Proofs.Ytgifcaeemfaihaa
open Go.RowKit

/-- Byte k of a number's eight, the highest first. -/
def byteAt (n : Int) (k : Nat) : Int := n / 2 ^ (8 * (7 - k)) % 256
def eights (n : Int) (k : Nat) : List Int := (List.range k).map (byteAt n)
theorem eights_succ (n : Int) (k : Nat) : (eights n (k + 1)).map (Value.int .u8) = (eights n k).map (Value.int .u8) ++ [.int .u8 (n / 2 ^ (8 * (7 - k)) % 256)] := by
  simp [eights, List.range_succ, byteAt]
theorem eights_length (n : Int) (k : Nat) : (eights n k).length = k := by simp [eights]
/-- The array behind k rounds: its last k bytes laid. -/
def filled (n : Int) (k : Nat) : List Int := (List.range 8).map fun j => if 8 - k ≤ j then byteAt n j else 0
theorem filled_set (n : Int) (k : Nat) (hk : k < 8) : ((filled n k).map (Value.int .u8)).set (7 - k) (.int .u8 (n / 2 ^ (8 * k) % 256)) = (filled n (k + 1)).map (Value.int .u8) := by
  match k, hk with
  | 0, _ => rfl
  | 1, _ => rfl
  | 2, _ => rfl
  | 3, _ => rfl
  | 4, _ => rfl
  | 5, _ => rfl
  | 6, _ => rfl
  | 7, _ => rfl
theorem filled_at (n : Int) (k : Nat) (hk : k < 8) : (filled n k)[7 - k]? = some 0 := by
  match k, hk with
  | 0, _ => rfl
  | 1, _ => rfl
  | 2, _ => rfl
  | 3, _ => rfl
  | 4, _ => rfl
  | 5, _ => rfl
  | 6, _ => rfl
  | 7, _ => rfl
theorem filled_lit (n : Int) : ((filled n 8).map (Value.int .u8)).toArray = #[.int .u8 (byteAt n 0), .int .u8 (byteAt n 1), .int .u8 (byteAt n 2), .int .u8 (byteAt n 3), .int .u8 (byteAt n 4), .int .u8 (byteAt n 5), .int .u8 (byteAt n 6), .int .u8 (byteAt n 7)] := rfl
theorem eights_lit (n : Int) : ((eights n 8).map (Value.int .u8)).toArray = #[.int .u8 (byteAt n 0), .int .u8 (byteAt n 1), .int .u8 (byteAt n 2), .int .u8 (byteAt n 3), .int .u8 (byteAt n 4), .int .u8 (byteAt n 5), .int .u8 (byteAt n 6), .int .u8 (byteAt n 7)] := rfl
theorem div_step (n : Int) (k : Nat) : n / 2 ^ (8 * k) / 256 = n / 2 ^ (8 * (k + 1)) := by
  rw [Int.ediv_ediv_of_nonneg (by exact Int.pow_nonneg (by decide)), show 8 * (k + 1) = 8 * k + 8 from by omega, Int.pow_add]
  rfl
theorem filled_all (n : Int) : filled n 8 = eights n 8 := rfl
end Go.Proofs.Ytgifcaeemfaihaa
