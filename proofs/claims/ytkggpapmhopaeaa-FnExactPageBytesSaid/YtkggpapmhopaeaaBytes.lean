/-
  The walk of eqByteS.
-/
import Derived.Test.YtkggpapmhopaeaaOwn
namespace Go.Proofs.Ytkggpapmhopaeaa
open Go.RowKit

theorem take_eq_snoc {xs ys : List Int} {k : Nat} (h1 : k < xs.length) (h2 : k < ys.length) (h : xs.take k = ys.take k) (he : xs.getD k 0 = ys.getD k 0) : xs.take (k + 1) = ys.take (k + 1) := by
  rw [List.take_succ_eq_append_getElem h1, List.take_succ_eq_append_getElem h2, h]
  simp [List.getD, h1, h2] at he
  rw [he]
theorem ne_of_getD {xs ys : List Int} {k : Nat} (he : xs.getD k 0 ≠ ys.getD k 0) : decide (xs = ys) = false := by
  simp; intro h; exact he (by rw [h])
set_option maxHeartbeats 400000 in
theorem eqByteS_any (a1 a2 : Option Addr) (n m c1 c2 : Nat) (xs ys : List Int) (w : World) (hn : n ≤ maxLen) (hm : m ≤ maxLen) (h1 : Row w a1 n xs) (h2 : Row w a2 m ys) :
    Calls Try.prog 28 #[.slice a1 n c1, .slice a2 m c2] w fun e w' => e = .returned (.bool (decide (xs = ys))) ∧ ∃ k, w' = w.drewN k := by
  unfold maxLen at hn hm
  obtain ⟨l1, h1⟩ := h1
  obtain ⟨l2, h2⟩ := h2
  by_cases hne : n = m
  · subst hne
    have L1 := hide l1
    have L2 := hide l2
    have H1 := hide h1
    have H2 := hide h2
    clear l1 l2 h1 h2
    go_enter Try.func28, Try.ntmps28
    go_wp2_with fail
    go_loopw [5] (fun i wr => ∃ k : Nat, k ≤ n ∧ i = .int .i64 k ∧ Hid (xs.take k = ys.take k) ∧ ∃ d, wr = w.drewN d) (fun i _ => n - (intOf i).toNat)
    case atStart => exact ⟨0, Nat.zero_le _, rfl, rfl, 0, rfl⟩
    case round =>
      obtain ⟨k, hk, rfl, ht, d, rfl⟩ := hrel
      by_cases hlt : k < n
      · obtain ⟨b1, o1, rfl, e1⟩ := unhide H1 k hlt
        obtain ⟨b2, o2, rfl, e2⟩ := unhide H2 k hlt
        obtain ⟨x, hx⟩ : ∃ x, x = xs.getD k 0 := ⟨_, rfl⟩
        obtain ⟨y, hy⟩ : ∃ y, y = ys.getD k 0 := ⟨_, rfl⟩
        rw [← hx] at e1
        rw [← hy] at e2
        have X := hide hx
        have Y := hide hy
        clear hx hy
        by_cases hxy : x = y
        · have HT := hide (take_eq_snoc (by rw [unhide L1]; exact hlt) (by rw [unhide L2]; exact hlt) (unhide ht) (by rw [← unhide X, ← unhide Y, hxy]))
          have hb : (x != y) = false := by simp [hxy]
          clear hxy
          go_wp2_with fail
          go_quiet (fail)
          go_wp2_with fail
          go_roundw
          case rel => exact ⟨k + 1, by omega, by go_num, unhide HT, _, rfl⟩
          case measure => simp [intOf]; omega
        · have HT := hide (ne_of_getD (xs := xs) (ys := ys) (k := k) (by rw [← unhide X, ← unhide Y]; exact hxy))
          have hb : (x != y) = true := by simp [hxy]
          clear hxy
          go_wp2_with fail
          go_quiet (fail)
          go_wp2_with fail
          go_ret
          exact ⟨ret_bool (unhide HT).symm, _, World.drewN_drewN _ _ _⟩
      · obtain rfl : k = n := by omega
        have HT := hide (show decide (xs = ys) = true by
          have := unhide ht
          rw [List.take_of_length_le (by rw [unhide L1]; exact Nat.le_refl _), List.take_of_length_le (by rw [unhide L2]; exact Nat.le_refl _)] at this
          simp [this])
        go_wp2_with fail
        go_ret
        exact ⟨ret_bool (unhide HT).symm, _, rfl⟩
  · have HT := hide (show decide (xs = ys) = false by simp; intro h; rw [h] at l1; omega)
    clear l1 l2 h1 h2
    have hb : ((n : Int) != (m : Int)) = true := by simp; omega
    go_enter Try.func28, Try.ntmps28
    go_wp2_with fail
    go_ret
    exact ⟨ret_bool (unhide HT).symm, 0, rfl⟩
end Go.Proofs.Ytkggpapmhopaeaa
