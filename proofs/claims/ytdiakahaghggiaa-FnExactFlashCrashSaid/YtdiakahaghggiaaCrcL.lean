/-
  The sum over bytes: plain facts.
-/
import Derived.Test.YtdiakahaghggiaaOwn
import Derived.Laws.BitsAllLaws
namespace Go.Proofs.Ytdiakahaghggiaa
open Go.RowKit

/-- One of eight turns. -/
def crcBit (c : Nat) : Nat := if c % 2 = 1 then c / 2 ^^^ 3988292384 else c / 2
def crcBits (c : Nat) : Nat → Nat
  | 0 => c
  | k + 1 => crcBit (crcBits c k)
def crcByte (c : Nat) (x : Int) : Nat := crcBits (c ^^^ x.toNat) 8
def crcSum (xs : List Int) : Nat := xs.foldl crcByte 4294967295
/-- The sum, all its bits turned. -/
def crcV (xs : List Int) : Nat := crcSum xs ^^^ 4294967295
/-- What Crc answers. -/
def crcR (xs : List Int) : Int := if 65536 < xs.length then 0 else ((crcV xs : Nat) : Int)
theorem xor32 {a b : Nat} (ha : a < 4294967296) (hb : b < 4294967296) : a ^^^ b < 4294967296 := Nat.xor_lt_two_pow (n := 32) ha hb
theorem crcBit_lt {c : Nat} (h : c < 4294967296) : crcBit c < 4294967296 := by
  unfold crcBit
  split
  · exact xor32 (by omega) (by omega)
  · omega
theorem crcBits_lt {c : Nat} (h : c < 4294967296) (k : Nat) : crcBits c k < 4294967296 := by
  induction k with
  | zero => exact h
  | succ n ih => exact crcBit_lt ih
/-- All are bytes. -/
def Bytes8 (xs : List Int) : Prop := ∀ i, i < xs.length → 0 ≤ xs.getD i 0 ∧ xs.getD i 0 ≤ 255
theorem crcByte_lt {c : Nat} {x : Int} (h : c < 4294967296) (hx : x ≤ 255) : crcByte c x < 4294967296 := crcBits_lt (xor32 h (by omega)) 8
theorem crcSum_snoc (xs : List Int) (k : Nat) (h : k < xs.length) : crcSum (xs.take (k + 1)) = crcByte (crcSum (xs.take k)) (xs.getD k 0) := by
  unfold crcSum
  rw [List.take_succ_eq_append_getElem h, List.foldl_append]
  simp [List.getD, h]
theorem crcSum_take_lt {xs : List Int} (h : Bytes8 xs) : ∀ k, k ≤ xs.length → crcSum (xs.take k) < 4294967296 := by
  intro k
  induction k with
  | zero => intro _; simp [crcSum]
  | succ n ih => intro hk; rw [crcSum_snoc xs n (by omega)]; exact crcByte_lt (ih (by omega)) (h n (by omega)).2
theorem crcSum_lt {xs : List Int} (h : Bytes8 xs) : crcSum xs < 4294967296 := by
  have := crcSum_take_lt h xs.length (Nat.le_refl _)
  rwa [List.take_length] at this
theorem crcV_lt {xs : List Int} (h : Bytes8 xs) : crcV xs < 4294967296 := xor32 (crcSum_lt h) (by omega)
theorem i64_xor_nat (a b : Nat) (ha : a < 4294967296) (hb : b < 4294967296) : bits .xor .i64 (a : Int) (b : Int) = ((a ^^^ b : Nat) : Int) := by
  have h := xor32 ha hb
  show IntKind.i64.wrap ((BitVec.ofInt 64 (a : Int) ^^^ BitVec.ofInt 64 (b : Int)).toNat : Int) = _
  rw [BitVec.toNat_xor, ofInt_u64 a (by omega), ofInt_u64 b (by omega)]
  simp [IntKind.wrap, IntKind.bits, IntKind.signed]
  omega
end Go.Proofs.Ytdiakahaghggiaa
