/-
  Floats stand as their turned bits do: plain facts on the words of IEEE 754.
-/
import Derived.Test.YtgifcaeemfaihaaFloatRank
set_option maxRecDepth 100000
namespace Go.Proofs.Ytgifcaeemfaihaa
open Go.RowKit

/-- A rung's magnitude, in units of the least place. -/
def magn (r : Nat) : Nat := if r < 4503599627370496 then r else (4503599627370496 + r % 4503599627370496) * 2 ^ (r / 4503599627370496 - 1)
theorem magn_mono {r s : Nat} (h : r ≤ s) : magn r ≤ magn s := by
  unfold magn
  by_cases hr : r < 4503599627370496
  · rw [if_pos hr]
    by_cases hs : s < 4503599627370496
    · rw [if_pos hs]; exact h
    · rw [if_neg hs]
      have h1 : 1 ≤ 2 ^ (s / 4503599627370496 - 1) := Nat.one_le_two_pow
      have h2 : 4503599627370496 * 1 ≤ (4503599627370496 + s % 4503599627370496) * 2 ^ (s / 4503599627370496 - 1) := Nat.mul_le_mul (by omega) h1
      omega
  · rw [if_neg hr, if_neg (by omega)]
    have hq : r / 4503599627370496 ≤ s / 4503599627370496 := Nat.div_le_div_right h
    rcases Nat.lt_or_ge (r / 4503599627370496) (s / 4503599627370496) with hlt | hge
    · have e : s / 4503599627370496 - 1 = (r / 4503599627370496 - 1) + 1 + (s / 4503599627370496 - r / 4503599627370496 - 1) := by omega
      rw [e, Nat.pow_add, Nat.pow_add]
      have h1 : 1 ≤ 2 ^ (s / 4503599627370496 - r / 4503599627370496 - 1) := Nat.one_le_two_pow
      have h2 : (4503599627370496 + r % 4503599627370496) * 2 ^ (r / 4503599627370496 - 1) ≤ (4503599627370496 * 2) * 2 ^ (r / 4503599627370496 - 1) := Nat.mul_le_mul_right _ (by omega)
      have h3 : (4503599627370496 * 2) * 2 ^ (r / 4503599627370496 - 1) = 4503599627370496 * (2 ^ (r / 4503599627370496 - 1) * 2 ^ 1 * 1) := by
        rw [Nat.mul_one, Nat.pow_one, Nat.mul_assoc, Nat.mul_comm 2]
      have h4 : 4503599627370496 * (2 ^ (r / 4503599627370496 - 1) * 2 ^ 1 * 1) ≤ (4503599627370496 + s % 4503599627370496) * (2 ^ (r / 4503599627370496 - 1) * 2 ^ 1 * 2 ^ (s / 4503599627370496 - r / 4503599627370496 - 1)) := Nat.mul_le_mul (by omega) (Nat.mul_le_mul_left _ h1)
      omega
    · have e : r / 4503599627370496 = s / 4503599627370496 := by omega
      rw [e]
      exact Nat.mul_le_mul_right _ (by omega)

/-- What a word of 64 bits stands for. -/
theorem read_double (x : Nat) (hx : x < 18446744073709551616) : Ieee.double.read x =
    (if x % 9223372036854775808 < 4503599627370496 then .number (decide (9223372036854775808 ≤ x)) (x % 9223372036854775808) Ieee.double.leastPlace
     else if x % 9223372036854775808 < 9218868437227405312 then .number (decide (9223372036854775808 ≤ x)) (4503599627370496 + x % 9223372036854775808 % 4503599627370496) (Ieee.double.leastPlace + ((x % 9223372036854775808 / 4503599627370496 - 1 : Nat) : Int))
     else if x % 9223372036854775808 = 9218868437227405312 then .infinity (decide (9223372036854775808 ≤ x))
     else .nan (decide (9223372036854775808 ≤ x)) (x % 9223372036854775808 - 9218868437227405312)) := by
  have hn : (x / 9223372036854775808 % 2 == 1) = decide (9223372036854775808 ≤ x) := by
    rw [Bool.eq_iff_iff]; simp; omega
  have e1 : Ieee.double.signWeight = 9223372036854775808 := by decide
  have e2 : Ieee.double.binade = 4503599627370496 := by decide
  have e3 : Ieee.double.infRung = 9218868437227405312 := by decide
  unfold Ieee.Format.read
  simp only [e1, e2, e3, hn]

theorem shl_mul (m k : Nat) : m <<< k = m * 2 ^ k := Nat.shiftLeft_eq m k
/-- Of two finite magnitudes, brought to one place, the order is that of their rungs' magnitudes. -/
theorem scaled_le {m n e1 e2 : Nat} (L : Int) (h : n * 2 ^ e2 ≤ m * 2 ^ e1) :
    n <<< (L + (e2 : Int) - min (L + (e1 : Int)) (L + (e2 : Int))).toNat ≤ m <<< (L + (e1 : Int) - min (L + (e1 : Int)) (L + (e2 : Int))).toNat := by
  rw [shl_mul, shl_mul]
  rcases Nat.le_total e1 e2 with hle | hle
  · have a1 : (L + (e2 : Int) - min (L + (e1 : Int)) (L + (e2 : Int))).toNat = e2 - e1 := by omega
    have a2 : (L + (e1 : Int) - min (L + (e1 : Int)) (L + (e2 : Int))).toNat = 0 := by omega
    rw [a1, a2]
    have hp : 0 < 2 ^ e1 := Nat.two_pow_pos _
    refine Nat.le_of_mul_le_mul_right ?_ hp
    rw [Nat.mul_assoc, ← Nat.pow_add, Nat.sub_add_cancel hle, Nat.mul_assoc, ← Nat.pow_add, Nat.zero_add]
    exact h
  · have a1 : (L + (e2 : Int) - min (L + (e1 : Int)) (L + (e2 : Int))).toNat = 0 := by omega
    have a2 : (L + (e1 : Int) - min (L + (e1 : Int)) (L + (e2 : Int))).toNat = e1 - e2 := by omega
    rw [a1, a2]
    have hp : 0 < 2 ^ e2 := Nat.two_pow_pos _
    refine Nat.le_of_mul_le_mul_right ?_ hp
    rw [Nat.mul_assoc, ← Nat.pow_add, Nat.zero_add, Nat.mul_assoc, ← Nat.pow_add, Nat.sub_add_cancel hle]
    exact h

/-- A finite word: its sign, a magnitude m and a place e above the least one, so that m * 2 ^ e is its rung's magnitude. -/
theorem read_finite (x : Nat) (hx : x < 18446744073709551616) (hf : x % 9223372036854775808 < 9218868437227405312) :
    ∃ m e : Nat, Ieee.double.read x = .number (decide (9223372036854775808 ≤ x)) m (Ieee.double.leastPlace + (e : Int)) ∧ m * 2 ^ e = magn (x % 9223372036854775808) := by
  rw [read_double x hx]
  by_cases h : x % 9223372036854775808 < 4503599627370496
  · rw [if_pos h]
    exact ⟨x % 9223372036854775808, 0, by simp, by unfold magn; rw [if_pos h]; simp⟩
  · rw [if_neg h, if_pos hf]
    exact ⟨_, _, rfl, by unfold magn; rw [if_neg h]⟩

theorem signed_cases (neg : Bool) (m k : Nat) : Ieee.signed neg m k = if neg then -((m <<< k : Nat) : Int) else ((m <<< k : Nat) : Int) := rfl
theorem order_num (s t : Bool) (m n : Nat) (i j : Int) : Ieee.Datum.order (.number s m i) (.number t n j) = some (compare (Ieee.signed s m (i - min i j).toNat) (Ieee.signed t n (j - min i j).toNat)) := rfl

theorem cmp_lt {a b : Int} (h : compare a b = .lt) : a < b := by
  simp only [compare, compareOfLessAndEq] at h
  split at h
  · assumption
  · split at h <;> cases h
theorem num_lt {s t : Bool} {m n p q : Nat} (h : some (compare (Ieee.signed s m p) (Ieee.signed t n q)) = some Ordering.lt) : (s = true ∧ t = false) ∨ (s = false ∧ t = false ∧ m <<< p < n <<< q) ∨ (s = true ∧ t = true ∧ n <<< q < m <<< p) := by
  have hc := cmp_lt (Option.some.inj h)
  rw [signed_cases, signed_cases] at hc
  generalize m <<< p = A at *
  generalize n <<< q = B at *
  cases s <;> cases t <;> simp at hc ⊢ <;> omega

/-- IF ONE FLOAT IS LESS THAN ANOTHER, SO ARE THEIR TURNED BITS. -/
theorem order_lt {x y : Nat} (hx : x < 18446744073709551616) (hy : y < 18446744073709551616) (h : (Ieee.double.read x).order (Ieee.double.read y) = some .lt) : frank x < frank y := by
  by_cases fx : x % 9223372036854775808 < 9218868437227405312
  · obtain ⟨m, e1, rx, gx⟩ := read_finite x hx fx
    by_cases fy : y % 9223372036854775808 < 9218868437227405312
    · obtain ⟨n, e2, ry, gy⟩ := read_finite y hy fy
      rw [rx, ry, order_num] at h
      rcases num_lt h with ⟨h1, h2⟩ | ⟨h1, h2, h3⟩ | ⟨h1, h2, h3⟩
      · simp at h1 h2
        unfold frank
        rw [if_neg (by omega), if_pos h2]
        omega
      · simp at h1 h2
        have hlt : x % 9223372036854775808 < y % 9223372036854775808 := by
          rcases Nat.lt_or_ge (x % 9223372036854775808) (y % 9223372036854775808) with g | g
          · exact g
          · have := scaled_le Ieee.double.leastPlace (m := m) (n := n) (e1 := e1) (e2 := e2) (by rw [gx, gy]; exact magn_mono g)
            omega
        unfold frank
        rw [if_pos h1, if_pos h2]
        omega
      · simp at h1 h2
        have hlt : y % 9223372036854775808 < x % 9223372036854775808 := by
          rcases Nat.lt_or_ge (y % 9223372036854775808) (x % 9223372036854775808) with g | g
          · exact g
          · have := scaled_le Ieee.double.leastPlace (m := n) (n := m) (e1 := e2) (e2 := e1) (by rw [gx, gy]; exact magn_mono g)
            rw [Int.min_comm (Ieee.double.leastPlace + (e2 : Int))] at this
            omega
        unfold frank
        rw [if_neg (by omega), if_neg (by omega)]
        omega
    · rw [rx, read_double y hy, if_neg (by omega), if_neg fy] at h
      by_cases iy : y % 9223372036854775808 = 9218868437227405312
      · rw [if_pos iy] at h
        simp only [Ieee.Datum.order] at h
        by_cases sy : 9223372036854775808 ≤ y
        · simp [sy] at h
        · unfold frank
          rw [if_pos (show y < 9223372036854775808 by omega)]
          split <;> omega
      · rw [if_neg iy] at h
        simp [Ieee.Datum.order] at h
  · rw [read_double x hx, if_neg (by omega), if_neg fx] at h
    by_cases ix : x % 9223372036854775808 = 9218868437227405312
    · rw [if_pos ix] at h
      by_cases fy : y % 9223372036854775808 < 9218868437227405312
      · obtain ⟨n, e2, ry, gy⟩ := read_finite y hy fy
        rw [ry] at h
        simp only [Ieee.Datum.order] at h
        by_cases sx : 9223372036854775808 ≤ x
        · unfold frank
          rw [if_neg (by omega)]
          split <;> omega
        · simp [sx] at h
      · rw [read_double y hy, if_neg (by omega), if_neg fy] at h
        by_cases iy : y % 9223372036854775808 = 9218868437227405312
        · rw [if_pos iy] at h
          simp only [Ieee.Datum.order] at h
          by_cases sx : 9223372036854775808 ≤ x
          · by_cases sy : 9223372036854775808 ≤ y
            · simp [sx, sy] at h
            · unfold frank
              rw [if_neg (by omega), if_pos (by omega)]
              omega
          · by_cases sy : 9223372036854775808 ≤ y
            · simp [sx, sy] at h
              exact absurd h (by decide)
            · simp [sx, sy] at h
        · rw [if_neg iy] at h
          simp [Ieee.Datum.order] at h
    · rw [if_neg ix] at h
      simp [Ieee.Datum.order] at h
theorem cmp_gt {a b : Int} (h : compare a b = .gt) : compare b a = .lt := by
  simp only [compare, compareOfLessAndEq] at h ⊢
  split at h
  · cases h
  · split at h
    · cases h
    · rw [if_pos (by omega)]
theorem order_swap (a b : Ieee.Datum) (h : a.order b = some .gt) : b.order a = some .lt := by
  cases a with
  | number s m i =>
    cases b with
    | number t n j =>
      rw [order_num] at h ⊢
      rw [Int.min_comm j i]
      exact congrArg some (cmp_gt (Option.some.inj h))
    | infinity t => cases t <;> simp [Ieee.Datum.order] at h ⊢
    | nan t f => simp [Ieee.Datum.order] at h
  | infinity s =>
    cases b with
    | number t n j => cases s <;> simp [Ieee.Datum.order] at h ⊢
    | infinity t => cases s <;> cases t <;> first | rfl | exact absurd h (by decide)
    | nan t f => simp [Ieee.Datum.order] at h
  | nan s f => cases b <;> simp [Ieee.Datum.order] at h
theorem order_gt {x y : Nat} (hx : x < 18446744073709551616) (hy : y < 18446744073709551616) (h : (Ieee.double.read x).order (Ieee.double.read y) = some .gt) : frank y < frank x :=
  order_lt hy hx (order_swap _ _ h)
end Go.Proofs.Ytgifcaeemfaihaa
