/-
  The walk of toByteS: a new slice with the same bytes.
-/
import Derived.Test.YtdiakahaghggiaaMark
namespace Go.Proofs.Ytdiakahaghggiaa
open Go.RowKit

/-- The first k of xs, then noughts. -/
def upTo (xs : List Int) (n k : Nat) : List Int := xs.take k ++ List.replicate (n - k) 0
theorem upTo_zero (xs : List Int) (n : Nat) : (upTo xs n 0).map (Value.int .u8) = List.replicate n (Value.int .u8 0) := by simp [upTo]
theorem upTo_at {xs : List Int} {n k : Nat} (hl : xs.length = n) (hk : k < n) : (upTo xs n k)[k]? = some 0 := by
  have h1 : (xs.take k).length = k := by simp; omega
  simp only [upTo]
  rw [List.getElem?_append_right (show (xs.take k).length ≤ k by omega), h1, Nat.sub_self]
  have h2 : n - k = (n - (k + 1)) + 1 := by omega
  rw [h2, List.replicate_succ]; rfl
theorem upTo_set {xs : List Int} {n k : Nat} {x : Int} (hl : xs.length = n) (hk : k < n) (hx : x = xs.getD k 0) : ((upTo xs n k).map (Value.int .u8)).set k (.int .u8 x) = (upTo xs n (k + 1)).map (Value.int .u8) := by
  have h1 : (xs.take k).length = k := by simp; omega
  have h2 : n - k = (n - (k + 1)) + 1 := by omega
  rw [← List.map_set]
  congr 1
  simp only [upTo]
  rw [List.set_append_right _ _ (show (xs.take k).length ≤ k by omega), h1, Nat.sub_self, h2, List.replicate_succ, List.set_cons_zero, List.take_succ_eq_append_getElem (by omega), List.append_assoc]
  simp [hx, List.getD, hl, hk]
theorem upTo_all {xs : List Int} {n : Nat} (hl : xs.length = n) : upTo xs n n = xs := by simp [upTo, ← hl]
set_option maxHeartbeats 400000 in
theorem toByteS_at (a : Option Addr) (n c : Nat) (xs : List Int) (w : World) (hn : n ≤ 1048576) (h1 : Row w a n xs) :
    Calls Try.prog 26 #[.slice a n c] w fun e w' => e = .returned (.slice (some ⟨w.heap.size, 0, none⟩) n n) ∧ Mine w' w.heap.size (.slice (some ⟨w.heap.size, 0, none⟩) n n) xs ∧ Below w.heap.size w w' := by
  obtain ⟨i0, hi, hz0, hz1, hz2⟩ := info_parts Try.infoU8
  have L1 := hide h1.1
  have H1 := hide h1.2
  clear h1
  go_enter Try.func26, Try.ntmps26
  go_wp2_with (at_make; refine wpList_make_full _ rfl _ _ 22 rfl w.heap.size 5 i0 (.int .u8 0) 1 Try.underlying22 hi hz0 hz1 _ _ _ _ n rfl rfl rfl rfl (by rw [hz2]; omega) (by unfold maxLen; omega) (Nat.le_refl _) ?_)
  intro w1 hown hgrow
  rw [toList_madeCells_one] at hown
  have hbel : Below w.heap.size w w1 := (Below.refl _ _).grown hgrow (Nat.le_refl _) (fun k hk => by cases hk)
  have hown1 : w1.ownsRow w.heap.size 5 1 (.slice (some ⟨w.heap.size, 0, none⟩) n n) n ((upTo xs n 0).map (Value.int .u8)) := by
    rw [upTo_zero]; exact hown
  clear hown hgrow
  go_wp2_with fail
  go_loopw [4] (fun i wr => ∃ k : Nat, k ≤ n ∧ i = .int .i64 k ∧ wr.ownsRow w.heap.size 5 1 (.slice (some ⟨w.heap.size, 0, none⟩) n n) n ((upTo xs n k).map (Value.int .u8)) ∧ Below w.heap.size w wr) (fun i _ => n - (intOf i).toNat)
  case atStart => exact ⟨0, Nat.zero_le _, rfl, hown1, hbel⟩
  case round =>
    clear hown1 hbel
    obtain ⟨k, hk, rfl, ho, hb⟩ := hrel
    by_cases hlt : k < n
    · obtain ⟨b, off, rfl, e1⟩ := unhide H1 k hlt
      have e2 := (hb.cell (p := ⟨b, off + k, none⟩) (cell_lt e1)).trans e1
      have e3 := ho.cellAt k (by omega)
      have e4 := ho.frozenAt k
      obtain ⟨x, hx⟩ : ∃ x, x = xs.getD k 0 := ⟨_, rfl⟩
      rw [← hx] at e2
      rw [List.getElem?_map, upTo_at (unhide L1) hlt] at e3
      have R := hide (ho.stored k (.int .u8 x)).1
      rw [upTo_set (unhide L1) hlt hx] at R
      have R2 := hide (hb.setCell (p := ⟨w.heap.size, k, none⟩) (Nat.le_refl _) (.int .u8 x))
      clear e1 hx ho hb
      go_wp2_with fail
      go_roundw
      case rel => exact ⟨k + 1, by omega, by go_num, unhide R, unhide R2⟩
      case measure => simp [intOf]; omega
    · obtain rfl : k = n := by omega
      rw [upTo_all (unhide L1)] at ho
      have hl := unhide L1
      subst hl
      have M := hide (mine_of_owns ho)
      clear ho
      go_wp2_with fail
      go_ret
      exact ⟨rfl, unhide M, hb⟩
theorem toByteS_any (a : Option Addr) (n c : Nat) (xs : List Int) (w : World) (hn : n ≤ 1048576) (h1 : Row w a n xs) :
    Calls Try.prog 26 #[.slice a n c] w fun e w' => ∃ v, e = .returned v ∧ Mine w' w.heap.size v xs ∧ Below w.heap.size w w' :=
  (toByteS_at a n c xs w hn h1).mono fun _ _ ⟨h1, h2, h3⟩ => ⟨_, h1, h2, h3⟩
end Go.Proofs.Ytdiakahaghggiaa
