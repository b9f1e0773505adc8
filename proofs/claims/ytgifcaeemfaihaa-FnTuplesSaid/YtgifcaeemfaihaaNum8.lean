/-
  Eight bytes and the number that they are: read back, and ordered: plain facts.
-/
import Derived.Test.YtgifcaeemfaihaaEightL
import Derived.Test.YtgifcaeemfaihaaRead
set_option maxRecDepth 100000
namespace Go.Proofs.Ytgifcaeemfaihaa
open Go.RowKit

/-- The number that bytes are, the highest first. -/
def num (l : List Int) : Int := l.foldl (fun a b => a * 256 + b) 0
theorem eights_list (n : Int) : eights n 8 = [n / 72057594037927936 % 256, n / 281474976710656 % 256, n / 1099511627776 % 256, n / 4294967296 % 256, n / 16777216 % 256, n / 65536 % 256, n / 256 % 256, n % 256] := by
  have h : eights n 8 = [n / 72057594037927936 % 256, n / 281474976710656 % 256, n / 1099511627776 % 256, n / 4294967296 % 256, n / 16777216 % 256, n / 65536 % 256, n / 256 % 256, n / 1 % 256] := rfl
  rw [h, Int.ediv_one]
theorem num_eights (n : Int) (h0 : 0 ≤ n) (h1 : n < 18446744073709551616) : num (eights n 8) = n := by
  rw [eights_list]
  simp only [num, List.foldl]
  omega
theorem eights_bytes (n : Int) : ∀ b ∈ eights n 8, 0 ≤ b ∧ b ≤ 255 := by
  intro b hb
  obtain ⟨k, _, rfl⟩ := List.mem_map.1 hb
  unfold byteAt
  omega

/-- The order of lists of bytes, by the numbers that they are. -/
def lessI : List Int → List Int → Bool
  | _, [] => false
  | [], _ :: _ => true
  | a :: x, b :: y => decide (a < b) || (decide (a = b) && lessI x y)
theorem less_strs : ∀ (a b : List Int), (∀ x ∈ a, 0 ≤ x ∧ x ≤ 255) → (∀ x ∈ b, 0 ≤ x ∧ x ≤ 255) → Op.bytesLess (strOfNums a).toList (strOfNums b).toList = lessI a b := by
  intro a b ha hb
  rw [ByteArray.toList_eq, ByteArray.toList_eq, strOfNums_data, strOfNums_data]
  induction a generalizing b with
  | nil => cases b <;> rfl
  | cons x r ih =>
    cases b with
    | nil => rfl
    | cons y s =>
      have hx := ha x (by simp)
      have hy := hb y (by simp)
      have e := ih s (fun z hz => ha z (by simp [hz])) (fun z hz => hb z (by simp [hz]))
      simp only [List.map_cons, Op.bytesLess, lessI, e]
      have h1 : decide (UInt8.ofNat x.toNat < UInt8.ofNat y.toNat) = decide (x < y) := by
        rw [Bool.eq_iff_iff]
        simp only [decide_eq_true_eq, UInt8.lt_iff_toNat_lt, UInt8.toNat_ofNat']
        omega
      have h2 : (UInt8.ofNat x.toNat == UInt8.ofNat y.toNat) = decide (x = y) := by
        rw [Bool.eq_iff_iff]
        simp only [beq_iff_eq, decide_eq_true_eq, ← UInt8.toNat_inj, UInt8.toNat_ofNat']
        omega
      rw [h1, h2]
def valR : List Int → Int
  | [] => 0
  | x :: r => x * 256 ^ r.length + valR r
theorem fold_val (l : List Int) : ∀ p : Int, l.foldl (fun a b => a * 256 + b) p = p * 256 ^ l.length + valR l := by
  induction l with
  | nil => intro p; simp [valR]
  | cons x r ih =>
    intro p
    simp only [List.foldl_cons, ih, valR, List.length_cons, Int.pow_succ, Int.add_mul]
    rw [Int.mul_assoc p 256, Int.mul_comm 256]
    omega
theorem num_val (l : List Int) : num l = valR l := by unfold num; rw [fold_val]; omega
theorem val_bounds : ∀ (l : List Int), (∀ x ∈ l, 0 ≤ x ∧ x ≤ 255) → 0 ≤ valR l ∧ valR l < 256 ^ l.length
  | [], _ => by simp [valR]
  | x :: r, h => by
    have ih := val_bounds r (fun z hz => h z (by simp [hz]))
    have hx := h x (by simp)
    simp only [valR, List.length_cons, Int.pow_succ]
    generalize (256 : Int) ^ r.length = P at *
    have h1 : 0 ≤ x * P := Int.mul_nonneg hx.1 (by omega)
    have h2 : x * P ≤ 255 * P := Int.mul_le_mul_of_nonneg_right hx.2 (by omega)
    omega
theorem less_val : ∀ (a b : List Int), a.length = b.length → (∀ x ∈ a, 0 ≤ x ∧ x ≤ 255) → (∀ x ∈ b, 0 ≤ x ∧ x ≤ 255) → lessI a b = decide (valR a < valR b)
  | [], [], _, _, _ => by simp [lessI, valR]
  | [], _ :: _, h, _, _ => by simp at h
  | _ :: _, [], h, _, _ => by simp at h
  | x :: r, y :: s, h, ha, hb => by
    have hl : r.length = s.length := by simpa using h
    have ih := less_val r s hl (fun z hz => ha z (by simp [hz])) (fun z hz => hb z (by simp [hz]))
    have hr := val_bounds r (fun z hz => ha z (by simp [hz]))
    have hs := val_bounds s (fun z hz => hb z (by simp [hz]))
    rw [Bool.eq_iff_iff, decide_eq_true_eq]
    simp only [lessI, ih, Bool.or_eq_true, Bool.and_eq_true, decide_eq_true_eq]
    show _ ↔ x * 256 ^ r.length + valR r < y * 256 ^ s.length + valR s
    rw [hl] at hr ⊢
    generalize (256 : Int) ^ s.length = P at *
    rcases Int.lt_trichotomy x y with hxy | hxy | hxy
    · have h2 : (x + 1) * P ≤ y * P := Int.mul_le_mul_of_nonneg_right (by omega) (by omega)
      rw [Int.add_mul, Int.one_mul] at h2
      omega
    · subst hxy; omega
    · have h2 : (y + 1) * P ≤ x * P := Int.mul_le_mul_of_nonneg_right (by omega) (by omega)
      rw [Int.add_mul, Int.one_mul] at h2
      omega
/-- KEYS OF NUMBERS RISE AS THE NUMBERS DO. -/
theorem less_eights (n m : Int) (h0 : 0 ≤ n) (h1 : n < 18446744073709551616) (g0 : 0 ≤ m) (g1 : m < 18446744073709551616) : Op.bytesLess (strOfNums (eights n 8)).toList (strOfNums (eights m 8)).toList = decide (n < m) := by
  rw [less_strs _ _ (eights_bytes n) (eights_bytes m), less_val _ _ (by rw [eights_length, eights_length]) (eights_bytes n) (eights_bytes m), ← num_val, ← num_val, num_eights n h0 h1, num_eights m g0 g1]
theorem same_eights (n m : Int) (h0 : 0 ≤ n) (h1 : n < 18446744073709551616) (g0 : 0 ≤ m) (g1 : m < 18446744073709551616) : ((strOfNums (eights n 8)).toList == (strOfNums (eights m 8)).toList) = decide (n = m) := by
  rw [Bool.eq_iff_iff]
  simp only [beq_iff_eq, decide_eq_true_eq]
  constructor
  · intro h
    have l1 := less_eights n m h0 h1 g0 g1
    have l2 := less_eights m n g0 g1 h0 h1
    rw [h] at l1
    rw [← h] at l2
    have i1 := less_eights m m g0 g1 g0 g1
    have i2 := less_eights n n h0 h1 h0 h1
    rw [i1] at l1
    rw [i2] at l2
    simp at l1 l2
    omega
  · intro h; rw [h]
end Go.Proofs.Ytgifcaeemfaihaa
