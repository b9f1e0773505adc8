/-
  The order of texts by bytes, and that keys of texts rise as texts do: plain facts on lists.
-/
import Derived.Test.YtgifcaeemfaihaaRead
set_option maxRecDepth 100000
namespace Go.Proofs.Ytgifcaeemfaihaa
open Go.RowKit

theorem less_nil (a : List UInt8) : Op.bytesLess a [] = false := by cases a <;> rfl
theorem less_cons (a b : UInt8) (r s : List UInt8) : Op.bytesLess (a :: r) (b :: s) = (decide (a < b) || (a == b && Op.bytesLess r s)) := by
  rfl
/-- The key of a text as bytes. -/
def escB : List UInt8 → List UInt8
  | [] => [0, 1]
  | c :: r => if c = 0 then 0 :: 255 :: escB r else c :: escB r
theorem escB_eq (l : List UInt8) : (esc l ++ [0, 1]).map (fun n : Int => UInt8.ofNat n.toNat) = escB l := by
  induction l with
  | nil => rfl
  | cons c r ih =>
    simp only [esc, escB]
    split
    · simp only [List.cons_append, List.map_cons, ih]; rfl
    · simp only [List.cons_append, List.map_cons, ih]; simp
theorem str_key (l : List UInt8) : (strOfNums (esc l ++ [0, 1])).toList = escB l := by
  rw [ByteArray.toList_eq, strOfNums_data, escB_eq]
theorem u8_pos {c : UInt8} (h : ¬ c = 0) : (0 : UInt8) < c := by
  rw [UInt8.lt_iff_toNat_lt]
  have : ¬ c.toNat = 0 := fun e => h (UInt8.toNat_inj.1 e)
  show 0 < c.toNat
  omega
theorem u8_not_neg (c : UInt8) : ¬ c < 0 := by
  rw [UInt8.lt_iff_toNat_lt]
  show ¬ c.toNat < 0
  omega
/-- KEYS RISE AS TEXTS DO. -/
theorem escB_less : ∀ (a b : List UInt8), Op.bytesLess (escB a) (escB b) = Op.bytesLess a b
  | [], [] => by decide
  | [], d :: s => by
    simp only [escB]
    by_cases hd : d = 0
    · subst hd; simp [less_cons, Op.bytesLess]
    · simp [hd, less_cons, Op.bytesLess, u8_pos hd]
  | c :: r, [] => by
    simp only [escB, less_nil]
    by_cases hc : c = 0
    · subst hc; simp [less_cons]
    · simp [hc, less_cons, u8_not_neg c]
  | c :: r, d :: s => by
    have ih := escB_less r s
    simp only [escB]
    by_cases hc : c = 0
    · subst hc
      by_cases hd : d = 0
      · subst hd; simp [less_cons, ih]
      · simp [hd, less_cons, u8_pos hd]
    · by_cases hd : d = 0
      · subst hd; have he : (c == 0) = false := beq_eq_false_iff_ne.2 hc; simp [hc, less_cons, u8_not_neg c, he]
      · simp [hc, hd, less_cons, ih]
/-- A KEY THAT STANDS BEHIND SOMETHING IS READ BACK. -/
theorem rd_esc : ∀ (l : List UInt8) (tail out : List Int) (p : Nat), rd (esc l ++ [0, 1] ++ tail) out p = some (out ++ l.map (fun c => (c.toNat : Int)), p + (esc l).length + 2)
  | [], tail, out, p => by simp [esc, rd]
  | c :: r, tail, out, p => by
    by_cases hc : c = 0
    · subst hc
      have ih := rd_esc r tail (out ++ [0]) (p + 2)
      simp only [esc, if_true, List.cons_append]
      rw [rd]
      simp only [if_true]
      rw [if_neg (by omega)]
      simp only [List.append_assoc] at ih ⊢
      rw [ih]
      simp
      omega
    · have ih := rd_esc r tail (out ++ [(c.toNat : Int)]) (p + 1)
      have hn : ¬ (c.toNat : Int) = 0 := fun e => hc (UInt8.toNat_inj.1 (by simpa using Int.natCast_eq_zero.1 e))
      simp only [esc, hc, if_false, List.cons_append]
      obtain ⟨x, t, ht⟩ : ∃ x t, esc r ++ [0, 1] ++ tail = x :: t := by
        cases h : esc r ++ [0, 1] ++ tail with
        | nil => simp at h
        | cons x t => exact ⟨x, t, rfl⟩
      rw [ht] at ih ⊢
      rw [rd, if_neg hn, ih]
      simp
      omega
theorem strOf_bytes (s : ByteArray) : strOfNums (s.data.toList.map fun c => (c.toNat : Int)) = s := by
  cases s with
  | mk d =>
    have e : ((fun n : Int => UInt8.ofNat n.toNat) ∘ fun c : UInt8 => (c.toNat : Int)) = id := by funext c; simp
    simp [strOfNums, e]
end Go.Proofs.Ytgifcaeemfaihaa
