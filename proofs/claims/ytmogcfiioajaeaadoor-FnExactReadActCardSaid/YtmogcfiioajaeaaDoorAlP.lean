/-
  spec.l08Place, spec.l01In; the act that words tell: plain data.
-/
import Derived.Test.YtmogcfiioajaeaaDoorAlN
namespace Go.Proofs.YtmogcfiioajaeaaDoor
open Go.RowKit

/-- Where a text stands first among some; -1 if nowhere. -/
def placeB (k : ByteArray) : List ByteArray → Nat → Int
  | [], _ => -1
  | x :: r, i => if x = k then (i : Int) else placeB k r (i + 1)
theorem placeB_drop (k : ByteArray) (L : List ByteArray) : ∀ j, (∀ i (hi : i < L.length), i < j → L[i] ≠ k) → j ≤ L.length → placeB k L 0 = placeB k (L.drop j) j
  | 0, _, _ => by rw [List.drop_zero]
  | j + 1, h, hj => by
    rw [placeB_drop k L j (fun i hi hij => h i hi (by omega)) (by omega), List.drop_eq_getElem_cons (by omega : j < L.length), placeB, if_neg (h j (by omega) (by omega))]
theorem toList_inj {a b : ByteArray} (h : a.toList = b.toList) : a = b := by
  rw [ByteArray.toList_eq, ByteArray.toList_eq] at h
  rw [← kOf_data a, ← kOf_data b, h]
theorem text_eq (a b : ByteArray) : (a.toList == b.toList) = decide (a = b) := by
  by_cases h : a = b
  · rw [h, decide_eq_true rfl]; simp
  · rw [decide_eq_false h, beq_eq_false_iff_ne]
    exact fun e => h (toList_inj e)
set_option maxRecDepth 100000 in
set_option maxHeartbeats 1000000 in
theorem l08Place_any (a : Option Addr) (n c : Nat) (L : List ByteArray) (k : ByteArray) (w : World) (hr : StrRow w a n L) (hn : n ≤ 1000000) :
    Calls Tryd.prog 26 #[.slice a n c, .string k] w fun e w' => e = .returned (.int .i64 (placeB k L 0)) ∧ w' = w := by
  have R := hide hr
  have LN := hide hr.1
  clear hr
  go_enter Tryd.func26, Tryd.ntmps26
  go_wp2_with fail
  go_loopw [5] (fun iv wr => ∃ j : Nat, j ≤ n ∧ iv = .int .i64 (j : Nat) ∧ Hid (∀ i (hi : i < L.length), i < j → L[i] ≠ k) ∧ wr = w) (fun iv _ => n - (intOf iv).toNat)
  case atStart => exact ⟨0, Nat.zero_le _, rfl, hide (fun i _ h => absurd h (Nat.not_lt_zero _)), rfl⟩
  case round =>
    obtain ⟨j, hj, rfl, hF, rfl⟩ := hrel
    by_cases hlt : j < n
    · have hjL : j < L.length := by rw [unhide LN]; exact hlt
      obtain ⟨b, off, rfl, d0⟩ := (unhide R).2 j hjL
      by_cases he : L[j] = k
      · have g1 : (L[j].toList == k.toList) = true := by rw [text_eq]; exact decide_eq_true he
        have RES := hide (show placeB k L 0 = (j : Int) by rw [placeB_drop k L j (unhide hF) (by omega), List.drop_eq_getElem_cons hjL, placeB, if_pos he])
        generalize L[j] = x at *
        clear hF he
        go_wp2_with fail
        go_ret
        exact ⟨congrArg (fun x => Ending.returned (.int .i64 x)) (unhide RES).symm, rfl⟩
      · have g1 : (L[j].toList == k.toList) = false := by rw [text_eq]; exact decide_eq_false he
        have NX := hide (show ∀ i (hi : i < L.length), i < j + 1 → L[i] ≠ k from fun i hi hij => by
          by_cases e : i = j
          · subst e; exact he
          · exact unhide hF i hi (by omega))
        generalize L[j] = x at *
        clear hF he
        go_wp2_with fail
        go_roundw
        case rel => exact ⟨j + 1, by omega, by go_num, NX, trivial⟩
        case measure => simp [intOf]; omega
    · have RES := hide (show placeB k L 0 = -1 by
        rw [placeB_drop k L j (unhide hF) (by rw [unhide LN]; exact hj), List.drop_eq_nil_of_le (by rw [unhide LN]; omega)]
        rfl)
      clear hF
      go_wp2_with fail
      go_ret
      exact ⟨congrArg (fun x => Ending.returned (.int .i64 x)) (unhide RES).symm, rfl⟩
end Go.Proofs.YtmogcfiioajaeaaDoor
