/-
  The walks of CodeOf, the program's and the specification's, and of its law.
-/
import Derived.Test.YtfehbmofnpgeoaaDoorCode
namespace Go.Proofs.YtfehbmofnpgeoaaDoor
open Go.RowKit

/-- The first code from k on whose word a text is; -1 without one. -/
def codeFrom (s : ByteArray) : Nat → Nat → Int
  | 0, _ => -1
  | f + 1, k => if word k = s then (k : Int) else codeFrom s f (k + 1)
def codeOf (s : ByteArray) : Int := codeFrom s 13 0
theorem code_hit {s : ByteArray} {k : Nat} (hk : k < 13) (h : word k = s) : codeFrom s (13 - k) k = k := by
  rw [show 13 - k = (12 - k) + 1 from by omega, codeFrom, if_pos h]
theorem code_miss {s : ByteArray} {k : Nat} (hk : k < 13) (h : ¬ word k = s) : codeFrom s (13 - k) k = codeFrom s (13 - (k + 1)) (k + 1) := by
  rw [show 13 - k = (13 - (k + 1)) + 1 from by omega, codeFrom, if_neg h]
theorem toList_ne {a b : ByteArray} (h : ¬ a = b) : (a.toList == b.toList) = false := by
  rw [beq_eq_false_iff_ne]
  intro e
  apply h
  rw [ByteArray.toList_eq, ByteArray.toList_eq] at e
  cases a; cases b
  simp at e
  simp [e]

set_option maxHeartbeats 400000 in
theorem specOf_any (s : ByteArray) (w : World) :
    Calls Tryd.prog 7 #[.string s] w fun e w' => e = .returned (.int .i64 (codeOf s)) ∧ Below w.heap.size w w' := by
  go_enter Tryd.func7, Tryd.ntmps7
  go_wp2_with fail
  go_loopw [3] (fun i wr => ∃ k : Nat, k ≤ 13 ∧ i = .int .i64 k ∧ Hid (codeOf s = codeFrom s (13 - k) k) ∧ Below w.heap.size w wr) (fun i _ => 13 - (intOf i).toNat)
  case atStart => exact ⟨0, by omega, rfl, rfl, Below.refl _ _⟩
  case round =>
    obtain ⟨k, hk, rfl, hc, hb⟩ := hrel
    by_cases hlt : k < 13
    · have HW := hide (show wordI (k : Int) = word k by unfold wordI; rw [if_pos (by omega)]; rfl)
      by_cases he : word k = s
      · have HC := hide ((unhide hc).trans (code_hit hlt he))
        have HE := hide he
        clear he
        go_wp2_with fail
        refine (specWord_any _ _ (by omega) (by omega)).mono ?_
        rintro e w1 ⟨rfl, hb1⟩
        rw [unhide HW, unhide HE]
        have B1 := hb.trans (hb1.mono hb.size)
        clear hb hb1
        go_wp2_with fail
        go_ret
        exact ⟨ret_int (unhide HC).symm, B1⟩
      · have HC := hide ((unhide hc).trans (code_miss hlt he))
        have hq := toList_ne he
        generalize word k = x at *
        clear he
        go_wp2_with fail
        refine (specWord_any _ _ (by omega) (by omega)).mono ?_
        rintro e w1 ⟨rfl, hb1⟩
        rw [unhide HW]
        have B1 := hb.trans (hb1.mono hb.size)
        clear hb hb1
        go_wp2_with fail
        go_roundw
        case rel => exact ⟨k + 1, by omega, by go_num, unhide HC, B1⟩
        case measure => simp [intOf]; omega
    · obtain rfl : k = 13 := by omega
      go_wp2_with fail
      go_ret
      exact ⟨ret_int (unhide hc).symm, hb⟩

set_option maxHeartbeats 400000 in
theorem implOf_any (s : ByteArray) (w : World) (ht : Table w) :
    Calls Tryd.prog 8 #[.string s] w fun e w' => e = .returned (.int .i64 (codeOf s)) ∧ w' = w := by
  have HT := hide ht
  clear ht
  go_enter Tryd.func8, Tryd.ntmps8
  go_wp2_with fail
  go_loop [3, 4] (fun _ i => ∃ k : Nat, k ≤ 13 ∧ i = .int .i64 k ∧ Hid (codeOf s = codeFrom s (13 - k) k)) (fun _ i => 13 - (intOf i).toNat)
  case atStart => exact ⟨0, by omega, rfl, rfl⟩
  case round =>
    obtain ⟨k, hk, rfl, hc⟩ := hrel
    by_cases hlt : k < 13
    · have hcell := unhide HT k hlt
      by_cases he : word k = s
      · have HC := hide ((unhide hc).trans (code_hit hlt he))
        rw [he] at hcell
        clear he
        go_wp2_with fail
        go_ret
        exact ⟨ret_int (unhide HC).symm, rfl⟩
      · have HC := hide ((unhide hc).trans (code_miss hlt he))
        have hq := toList_ne he
        generalize word k = x at *
        clear he
        go_wp2_with fail
        go_round
        case rel => exact ⟨k + 1, by omega, by go_num, unhide HC⟩
        case measure => simp [intOf]; omega
    · obtain rfl : k = 13 := by omega
      go_wp2_with fail
      go_ret
      exact ⟨ret_int (unhide hc).symm, rfl⟩

set_option maxHeartbeats 400000 in
theorem lawCodeOf_any (s : ByteArray) (w : World) (hl : s.size ≤ maxLen) (ht : Table w) (hs : 0 < w.heap.size) :
    Calls Tryd.prog 4 #[.string s] w fun e w' => e = .returned (.bool true) ∧ Below w.heap.size w w' := by
  unfold maxLen at hl
  have HT := hide ht
  clear ht
  by_cases hb : 1048576 < s.size
  · go_enter Tryd.func4, Tryd.ntmps4
    go_wp2_with fail
    go_ret
    exact ⟨rfl, Below.refl _ _⟩
  go_enter Tryd.func4, Tryd.ntmps4
  go_wp2_with fail
  refine (specOf_any s w).mono ?_
  rintro e w1 ⟨rfl, hb⟩
  have HT1 := hide (show Table w1 from fun i hi => (hb.cell (p := ⟨0, i, none⟩) hs).trans (unhide HT i hi))
  go_wp2_with fail
  refine (implOf_any s w1 (unhide HT1)).mono ?_
  rintro e w2 ⟨rfl, rfl⟩
  generalize codeOf s = x at *
  go_wp2_with fail
  go_ret
  exact ⟨rfl, hb⟩
end Go.Proofs.YtfehbmofnpgeoaaDoor
