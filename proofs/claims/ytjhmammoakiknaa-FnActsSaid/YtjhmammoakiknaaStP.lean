/-
  Where a write of the device stands ahead of each sector: plain facts.
-/
import Derived.Test.YtjhmammoakiknaaStL
namespace Go.Proofs.Ytjhmammoakiknaa
open Go.RowKit

/-- The place where the bytes of sector j of a write begin. -/
def qAt (at_ n j : Nat) : Nat := if j = 0 then at_ else min ((at_ / 16 + j) * 16) (at_ + n)
theorem qAt_le (at_ n j : Nat) : at_ ≤ qAt at_ n j ∧ qAt at_ n j ≤ at_ + n := by unfold qAt; split <;> omega
theorem qAt_more {at_ n j : Nat} (hj : j < touchN at_ n) : qAt at_ n j < at_ + n ∧ qAt at_ n j / 16 = at_ / 16 + j ∧ (qAt at_ n j = at_ ∨ qAt at_ n j = (at_ / 16 + j) * 16) := by
  unfold touchN at hj
  unfold qAt
  split at hj
  · omega
  · split <;> omega
theorem qAt_step {at_ n j : Nat} (hj : j < touchN at_ n) : qAt at_ n j + min (16 - qAt at_ n j % 16) (n - (qAt at_ n j - at_)) = qAt at_ n (j + 1) := by
  unfold touchN at hj
  unfold qAt
  rw [if_neg (show ¬ (j + 1 = 0) by omega)]
  split at hj
  · omega
  · split
    · subst_vars; omega
    · omega
theorem qAt_end (at_ n : Nat) : qAt at_ n (touchN at_ n) = at_ + n := by
  unfold qAt touchN
  split
  · split at *
    · subst_vars; omega
    · omega
  · split at *
    · omega
    · omega
theorem newW_step (b : List Int) (at_ : Nat) (d : List Int) (j : Nat) (hj : j < touchN at_ d.length) : (newW b at_ d).take (j + 1) = (newW b at_ d).take j ++ [⟨((at_ / 16 + j : Nat) : Int), secW (allW b at_ d) (at_ / 16 + j)⟩] := by
  have hl : j < (newW b at_ d).length := by rw [newW_len]; exact hj
  rw [List.take_succ_eq_append_getElem hl]
  simp [newW]
/-- The device behind the first j sectors of a write. -/
def wrDS (S : DS) (at_ : Nat) (d : List Int) (j : Nat) : DS := ((newW (secBytes S.rc S.rf) at_ d).take j).foldl stepDS S
theorem wrDS_zero (S : DS) (at_ : Nat) (d : List Int) : wrDS S at_ d 0 = S := by simp [wrDS]
theorem wrDS_step (S : DS) (at_ : Nat) (d : List Int) (j : Nat) (hj : j < touchN at_ d.length) : wrDS S at_ d (j + 1) = stepDS (wrDS S at_ d j) ⟨((at_ / 16 + j : Nat) : Int), secW (allW (secBytes S.rc S.rf) at_ d) (at_ / 16 + j)⟩ := by
  unfold wrDS
  rw [newW_step _ _ _ _ hj, List.foldl_append]
  rfl
theorem wrDS_all (S : DS) (at_ : Nat) (d : List Int) : wrDS S at_ d (touchN at_ d.length) = (newW (secBytes S.rc S.rf) at_ d).foldl stepDS S := by
  unfold wrDS
  rw [List.take_of_length_le (by rw [newW_len]; exact Nat.le_refl _)]
theorem wrDS_ws (S : DS) (at_ : Nat) (d : List Int) (j : Nat) (hj : j ≤ touchN at_ d.length) : (wrDS S at_ d j).ws.length = S.ws.length + j := by
  unfold wrDS
  rw [fold_ws, List.length_append, List.length_take, newW_len]
  omega
/-- The sector that is written next is as it was. -/
theorem wrDS_far (S : DS) (at_ : Nat) (d : List Int) (j : Nat) : (wrDS S at_ d j).rf (at_ / 16 + j) = S.rf (at_ / 16 + j) := by
  unfold wrDS
  refine fold_far _ _ _ (fun x hx => ?_)
  obtain ⟨i, hi, rfl⟩ := List.mem_take_iff_getElem.1 hx
  have hi2 : i < j := by omega
  have e : ((newW (secBytes S.rc S.rf) at_ d)[i]'(by omega)).at_ = ((at_ / 16 + i : Nat) : Int) := by simp [newW]
  rw [e]
  omega
/-- What is read behind the write. -/
theorem wrDS_read (S : DS) (at_ : Nat) (d : List Int) (hS : secOK S.rc S.rf) (h : at_ + d.length ≤ 2048) : secBytes (wrDS S at_ d (touchN at_ d.length)).rc (wrDS S at_ d (touchN at_ d.length)).rf = readD (secBytes S.rc S.rf) (newW (secBytes S.rc S.rf) at_ d) := by
  rw [wrDS_all]
  exact fold_read _ S hS (newW_ok _ _ _ (by rw [secBytes_len _ hS.2.1]; omega) h)
theorem row_drop {w : World} {b off n k : Nat} {xs : List Int} (h : Row w (some ⟨b, off, none⟩) n xs) : Row w (some ⟨b, off + k, none⟩) (n - k) (xs.drop k) := by
  refine ⟨by rw [List.length_drop, h.1], fun i hi => ?_⟩
  obtain ⟨b', off', e, hc⟩ := h.2 (k + i) (by omega)
  injection e with e
  injection e with e1 e2
  subst e1 e2
  exact ⟨b, off + k, rfl, by rw [Nat.add_assoc, hc]; simp [List.getD]⟩
end Go.Proofs.Ytjhmammoakiknaa
