/-
  A text's key: plain facts.
-/
import Derived.Test.YtgifcaeemfaihaaOwn
set_option maxRecDepth 100000
namespace Go.Proofs.Ytgifcaeemfaihaa
open Go.RowKit

/-- The key of a text without its end. -/
def esc : List UInt8 → List Int
  | [] => []
  | c :: r => if c = 0 then 0 :: 255 :: esc r else (c.toNat : Int) :: esc r
theorem esc_append (a b : List UInt8) : esc (a ++ b) = esc a ++ esc b := by
  induction a with
  | nil => rfl
  | cons c r ih => simp only [List.cons_append, esc, ih]; split <;> rfl
theorem esc_length (l : List UInt8) : (esc l).length ≤ 2 * l.length := by
  induction l with
  | nil => simp [esc]
  | cons c r ih => simp only [esc]; split <;> simp <;> omega
theorem esc_nought (s : ByteArray) (k : Nat) (h : k < s.size) (hz : s[k] = 0) : esc (s.data.toList.take (k + 1)) = esc (s.data.toList.take k) ++ [0] ++ [255] := by
  rw [take_snoc s k h, esc_append]; simp [esc, hz]
theorem esc_other (s : ByteArray) (k : Nat) (h : k < s.size) (hz : ¬ s[k] = 0) : esc (s.data.toList.take (k + 1)) = esc (s.data.toList.take k) ++ [(s[k].toNat : Int)] := by
  rw [take_snoc s k h, esc_append]; simp [esc, hz]
theorem esc_take_length (s : ByteArray) (k : Nat) : (esc (s.data.toList.take k)).length ≤ 2 * k := by
  have h1 := esc_length (s.data.toList.take k)
  have h2 : (s.data.toList.take k).length ≤ k := List.length_take_le _ _
  omega
theorem u8_zero {c : UInt8} (h : ¬ c = 0) : ((c.toNat : Int) == 0) = false := by
  rw [beq_eq_false_iff_ne]
  intro e
  exact h (UInt8.toNat_inj.1 (by simpa using Int.natCast_eq_zero.1 e))
/-- A text's key, and the code. -/
def textKeyL (s : ByteArray) : List Int := if 100 < s.size then [] else esc s.data.toList ++ [0, 1]
def textKeyC (s : ByteArray) : Int := if 65536 < s.size then 2 else if 100 < s.size then 11 else 0
end Go.Proofs.Ytgifcaeemfaihaa
