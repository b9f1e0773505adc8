/-
  Plain facts on numbers of 64 bits: their highest bit asked, set, turned and cleared, and all bits turned. (The prefix is the seat's; nothing of the program is used.)
-/
import Derived.Test.YtbboigidkimkmaaBase
import Derived.Laws.BitsAllLaws
import Derived.Laws.Bits64
namespace Go.Proofs.Ytbboigidkimkmaa
open Go.RowKit

theorem xor_top_nat (x : Nat) (h : x < 18446744073709551616) : x ^^^ 9223372036854775808 = if x < 9223372036854775808 then x + 9223372036854775808 else x - 9223372036854775808 := by
  have hm : (x ^^^ 9223372036854775808) % 9223372036854775808 = x % 9223372036854775808 := by
    have := Nat.xor_mod_two_pow (a := x) (b := 9223372036854775808) (n := 63)
    simpa using this
  have hd : (x ^^^ 9223372036854775808) / 9223372036854775808 = x / 9223372036854775808 ^^^ 1 := by
    have := Nat.xor_div_two_pow (a := x) (b := 9223372036854775808) (n := 63)
    simpa using this
  have hs := Nat.div_add_mod (x ^^^ 9223372036854775808) 9223372036854775808
  by_cases hx : x < 9223372036854775808
  · rw [if_pos hx]
    have e : x / 9223372036854775808 = 0 := by omega
    rw [e] at hd
    have e1 : (0 ^^^ 1 : Nat) = 1 := rfl
    rw [e1] at hd
    omega
  · rw [if_neg hx]
    have e : x / 9223372036854775808 = 1 := by omega
    rw [e] at hd
    have e1 : (1 ^^^ 1 : Nat) = 0 := rfl
    rw [e1] at hd
    omega
theorem and_top_nat (x : Nat) (h : x < 18446744073709551616) : x &&& 9223372036854775808 = if x < 9223372036854775808 then 0 else 9223372036854775808 := by
  have := nat_bit 63 x
  have e : (2 : Nat) ^ 63 = 9223372036854775808 := rfl
  rw [e] at this
  rw [this]
  by_cases hx : x < 9223372036854775808
  · rw [if_pos hx, show x / 9223372036854775808 = 0 from by omega]
  · rw [if_neg hx, show x / 9223372036854775808 = 1 from by omega]
theorem or_top_nat (x : Nat) (h : x < 9223372036854775808) : x ||| 9223372036854775808 = x + 9223372036854775808 := by
  rw [Nat.or_comm, nat_join 63 9223372036854775808 x rfl h, Nat.add_comm]

theorem u64_xor_top (x : Nat) (h : x < 18446744073709551616) : bits .xor .u64 (x : Int) 9223372036854775808 = if x < 9223372036854775808 then (x : Int) + 9223372036854775808 else (x : Int) - 9223372036854775808 := by
  have := u64_xor_nat x 9223372036854775808 h (by omega)
  rw [show ((9223372036854775808 : Nat) : Int) = 9223372036854775808 from rfl] at this
  rw [this, xor_top_nat x h]
  split <;> omega
theorem u64_and_top (x : Nat) (h : x < 18446744073709551616) : bits .and .u64 (x : Int) 9223372036854775808 = if x < 9223372036854775808 then 0 else 9223372036854775808 := by
  have := u64_and_nat x 9223372036854775808 h (by omega)
  rw [show ((9223372036854775808 : Nat) : Int) = 9223372036854775808 from rfl] at this
  rw [this, and_top_nat x h]
  split <;> rfl
theorem u64_or_top (x : Nat) (h : x < 9223372036854775808) : bits .or .u64 (x : Int) 9223372036854775808 = (x : Int) + 9223372036854775808 := by
  have := u64_or_nat x 9223372036854775808 (by omega) (by omega)
  rw [show ((9223372036854775808 : Nat) : Int) = 9223372036854775808 from rfl] at this
  rw [this, or_top_nat x h]
  omega
theorem u64_not (x : Nat) (h : x < 18446744073709551616) : bits .xor .u64 IntKind.u64.max (x : Int) = 18446744073709551615 - (x : Int) := by
  show IntKind.u64.wrap ((BitVec.ofInt 64 IntKind.u64.max ^^^ BitVec.ofInt 64 (x : Int)).toNat : Int) = _
  have h1 : BitVec.ofInt 64 IntKind.u64.max = BitVec.allOnes 64 := by decide
  rw [h1, BitVec.allOnes_xor, BitVec.toNat_not, ofInt_u64 x (by omega), IntKind.wrap_u64]
  omega
theorem u64_andNot_top (x : Nat) (h : x < 18446744073709551616) (h1 : 9223372036854775808 ≤ x) : bits .andNot .u64 (x : Int) 9223372036854775808 = (x : Int) - 9223372036854775808 := by
  have := u64_andNot_nat x 9223372036854775808 h (by omega)
  rw [show ((9223372036854775808 : Nat) : Int) = 9223372036854775808 from rfl] at this
  rw [this]
  have e : (18446744073709551615 - 9223372036854775808 : Nat) = 2 ^ 63 - 1 := rfl
  rw [e, Nat.and_two_pow_sub_one_eq_mod]
  have e2 : (2 : Nat) ^ 63 = 9223372036854775808 := rfl
  rw [e2]
  omega
end Go.Proofs.Ytbboigidkimkmaa
