/-
  The small tests of impl's pages.
-/
import Derived.Test.YtkggpapmhopaeaaPageL
namespace Go.Proofs.Ytkggpapmhopaeaa
open Go.RowKit

theorem keyOK_any (k : ByteArray) (w : World) : Calls Try.prog 45 #[.string k] w fun e w' => e = .returned (.bool (keyK k)) ∧ w' = w := by
  by_cases h : 1 ≤ k.size
  · have E := hide (show decide ((k.size : Int) ≤ 40) = keyK k by unfold keyK; rw [decide_eq_decide]; omega)
    go_enter Try.func45, Try.ntmps45
    go_wp2_with fail
    go_ret
    exact ⟨ret_bool (unhide E), rfl⟩
  · have E := hide (show false = keyK k by unfold keyK; rw [decide_eq_false]; omega)
    go_enter Try.func45, Try.ntmps45
    go_wp2_with fail
    go_ret
    exact ⟨ret_bool (unhide E), rfl⟩
theorem valueOK_any (v : ByteArray) (w : World) : Calls Try.prog 73 #[.string v] w fun e w' => e = .returned (.bool (valK v)) ∧ w' = w := by
  go_enter Try.func73, Try.ntmps73
  go_wp2_with fail
  go_ret
  exact ⟨ret_bool (by unfold valK; rw [decide_eq_decide]; omega), rfl⟩
theorem idOK_any (n : Int) (w : World) : Calls Try.prog 74 #[.int .i64 n] w fun e w' => e = .returned (.bool (idK n)) ∧ w' = w := by
  by_cases h : 0 ≤ n
  · have E := hide (show decide (n ≤ 1000) = idK n by unfold idK; rw [decide_eq_decide]; omega)
    go_enter Try.func74, Try.ntmps74
    go_wp2_with fail
    go_ret
    exact ⟨ret_bool (unhide E), rfl⟩
  · have E := hide (show false = idK n by unfold idK; rw [decide_eq_false]; omega)
    go_enter Try.func74, Try.ntmps74
    go_wp2_with fail
    go_ret
    exact ⟨ret_bool (unhide E), rfl⟩
set_option maxHeartbeats 1000000 in
theorem boundsOK_any (lo hi : ByteArray) (right : Int) (b c : Value) (w : World) : Calls Try.prog 66 #[.agg #[.string lo, .string hi, .int .i64 right, b, c]] w fun e w' => e = .returned (.bool (okBounds lo hi right)) ∧ Below w.heap.size w w' := by
  have B0 := hide (show Below w.heap.size w (w.alloc (.cells #[.string lo, .string hi, .int .i64 right, b, c] 31)) from (Below.refl _ _).alloc (Nat.le_refl _) _)
  by_cases h1 : lo.size ≤ 40
  · by_cases h2 : hi.size ≤ 40
    · by_cases h3 : hi.toList.isEmpty = true
      · have E := hide (show decide (right = -1) = okBounds lo hi right by unfold okBounds; rw [decide_eq_true h1, decide_eq_true h2, if_pos h3]; rfl)
        go_enter Try.func66, Try.ntmps66
        go_wp2_with fail
        go_ret
        exact ⟨ret_bool (unhide E), unhide B0⟩
      · have h3' : hi.toList.isEmpty = false := by simpa using h3
        by_cases h4 : Op.bytesLess lo.toList hi.toList = true
        · have E := hide (show idK right = okBounds lo hi right by unfold okBounds ltK; rw [decide_eq_true h1, decide_eq_true h2, if_neg h3, h4]; rfl)
          go_enter Try.func66, Try.ntmps66
          go_wp2_with fail
          refine (idOK_any right _).mono ?_
          rintro e w1 ⟨rfl, rfl⟩
          go_wp2_with fail
          go_ret
          exact ⟨ret_bool (unhide E), unhide B0⟩
        · have h4' : Op.bytesLess lo.toList hi.toList = false := by simpa using h4
          have E := hide (show false = okBounds lo hi right by unfold okBounds ltK; rw [decide_eq_true h1, decide_eq_true h2, if_neg h3, h4']; rfl)
          go_enter Try.func66, Try.ntmps66
          go_wp2_with fail
          go_ret
          exact ⟨ret_bool (unhide E), unhide B0⟩
    · have E := hide (show false = okBounds lo hi right by unfold okBounds; rw [decide_eq_true h1, decide_eq_false h2]; rfl)
      go_enter Try.func66, Try.ntmps66
      go_wp2_with fail
      go_ret
      exact ⟨ret_bool (unhide E), unhide B0⟩
  · have E := hide (show false = okBounds lo hi right by unfold okBounds; rw [decide_eq_false h1]; rfl)
    go_enter Try.func66, Try.ntmps66
    go_wp2_with fail
    go_ret
    exact ⟨ret_bool (unhide E), unhide B0⟩
end Go.Proofs.Ytkggpapmhopaeaa
