/-
  What a text's key reads as: a plain function on numbers, and its steps.
-/
import Derived.Test.YtgifcaeemfaihaaTextL
import Derived.Laws.BytesArg
set_option maxRecDepth 100000
namespace Go.Proofs.Ytgifcaeemfaihaa
open Go.RowKit

/-- The text whose key opens a list, behind what is read already, and the place behind it. -/
def rd : List Int → List Int → Nat → Option (List Int × Nat)
  | c :: d :: r, out, p => if c = 0 then (if d = 1 then some (out, p + 2) else if d = 255 then rd r (out ++ [0]) (p + 2) else none) else rd (d :: r) (out ++ [c]) (p + 1)
  | _, _, _ => none
def short (o : Option (List Int × Nat)) : Option (List Int × Nat) := o.filter fun x => decide (x.1.length ≤ 100)
theorem drop_one {xs : List Int} {k : Nat} (h : k < xs.length) : xs.drop k = xs.getD k 0 :: xs.drop (k + 1) := by
  rw [List.drop_eq_getElem_cons h]; simp [List.getD, h]
theorem rd_end {xs : List Int} {o : List Int} {k : Nat} (h : xs.length ≤ k + 1) : rd (xs.drop k) o k = none := by
  by_cases hk : k < xs.length
  · rw [drop_one hk, List.drop_eq_nil_of_le (show xs.length ≤ k + 1 from h)]; rfl
  · rw [List.drop_eq_nil_of_le (show xs.length ≤ k by omega)]; rfl
theorem rd_lit {xs : List Int} {o : List Int} {k : Nat} (h : k < xs.length) (hc : ¬ xs.getD k 0 = 0) : rd (xs.drop k) o k = rd (xs.drop (k + 1)) (o ++ [xs.getD k 0]) (k + 1) := by
  by_cases h2 : k + 1 < xs.length
  · rw [drop_one h, drop_one h2, rd, if_neg hc]
  · rw [rd_end (by omega), rd_end (by omega)]
theorem rd_stop {xs : List Int} {o : List Int} {k : Nat} (h : k + 1 < xs.length) (hc : xs.getD k 0 = 0) (hd : xs.getD (k + 1) 0 = 1) : rd (xs.drop k) o k = some (o, k + 2) := by
  rw [drop_one (show k < xs.length by omega), drop_one h, rd, if_pos hc, if_pos hd]
theorem rd_more {xs : List Int} {o : List Int} {k : Nat} (h : k + 1 < xs.length) (hc : xs.getD k 0 = 0) (hd : xs.getD (k + 1) 0 = 255) : rd (xs.drop k) o k = rd (xs.drop (k + 2)) (o ++ [0]) (k + 2) := by
  rw [drop_one (show k < xs.length by omega), drop_one h, rd, if_pos hc, if_neg (by omega), if_pos hd]
theorem rd_bad {xs : List Int} {o : List Int} {k : Nat} (h : k + 1 < xs.length) (hc : xs.getD k 0 = 0) (h1 : ¬ xs.getD (k + 1) 0 = 1) (h2 : ¬ xs.getD (k + 1) 0 = 255) : rd (xs.drop k) o k = none := by
  rw [drop_one (show k < xs.length by omega), drop_one h, rd, if_pos hc, if_neg h1, if_neg h2]
theorem rd_grows : ∀ (n : Nat) (l : List Int), l.length ≤ n → ∀ (o : List Int) (p : Nat) (x : List Int × Nat), rd l o p = some x → o.length ≤ x.1.length
  | 0, l, hl, o, p, x, h => by
    obtain rfl : l = [] := List.eq_nil_of_length_eq_zero (by omega)
    simp [rd] at h
  | n + 1, l, hl, o, p, x, h => by
    match l, hl, h with
    | [], _, h => simp [rd] at h
    | [_], _, h => simp [rd] at h
    | c :: d :: r, hl, h =>
      rw [rd] at h
      split at h
      · split at h
        · cases h; exact Nat.le_refl _
        · split at h
          · have := rd_grows n r (by simp at hl; omega) _ _ _ h
            simp at this; omega
          · cases h
      · have := rd_grows n (d :: r) (by simp at hl ⊢; omega) _ _ _ h
        simp at this; omega
theorem short_none : short none = none := rfl
theorem short_over {l o : List Int} {p : Nat} (h : 100 < o.length) : short (rd l o p) = none := by
  cases hr : rd l o p with
  | none => rfl
  | some x =>
    have := rd_grows _ l (Nat.le_refl _) o p x hr
    simp [short, Option.filter]; omega
theorem short_some {o : List Int} {p : Nat} (h : o.length ≤ 100) : short (some (o, p)) = some (o, p) := by simp [short, Option.filter, h]
theorem short_long {o : List Int} {p : Nat} (h : 100 < o.length) : short (some (o, p)) = none := by simp [short, Option.filter]; omega
theorem conv_owns {w : World} {B : Nat} {v : Value} {o : List Int} (h : Owns w B v o) : (convert 22 9 v).run Try.prog w = .ok (.string (strOfNums o)) w := by
  have hcp := h
  rcases h.2 with ⟨rfl, hn⟩ | ⟨g, cap, cur, rfl, _, _, _, _, _, _⟩
  · obtain rfl : o = [] := List.eq_nil_of_length_eq_zero hn
    exact run_convert_bytes_nil _ 22 5 Try.underlying22 Try.underlying5 0 0 9 Try.underlying9
  · exact run_convert_bytes_arg _ 22 5 Try.underlying22 Try.underlying5 g 0 o.length cap o rfl (fun i hi => by
      have := hcp.cellAt i (by omega)
      rw [Nat.zero_add, this]
      simp [List.getD, hi]) 9 Try.underlying9
/-- What KeyText answers of the bytes xs at a place. -/
def ktV (xs : List Int) (p : Int) : Value :=
  if 65536 < xs.length then .tuple #[.string ByteArray.empty, .int .i64 0, .int .i64 2]
  else if p < 0 ∨ (xs.length : Int) < p then .tuple #[.string ByteArray.empty, .int .i64 0, .int .i64 4]
  else match short (rd (xs.drop p.toNat) [] p.toNat) with
    | some (o, q) => .tuple #[.string (strOfNums o), .int .i64 q, .int .i64 0]
    | none => .tuple #[.string ByteArray.empty, .int .i64 0, .int .i64 3]
end Go.Proofs.Ytgifcaeemfaihaa
