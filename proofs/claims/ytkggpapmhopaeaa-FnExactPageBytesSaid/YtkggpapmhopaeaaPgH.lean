/-
  Marks found again; pages as data with lists of the call's own; markPage, heldPage, eqPage over them.
-/
import Derived.Test.YtkggpapmhopaeaaPgM
namespace Go.Proofs.Ytkggpapmhopaeaa
open Go.RowKit

set_option maxRecDepth 100000 in
set_option maxHeartbeats 4000000 in
theorem heldEntryS_any (a : Option Addr) (n c k0 : Nat) (w : World) (hp : 0 < k0) (hn : 2 * n + k0 ≤ 9999990) (h1 : ERow w a n (markEs k0 n)) :
    Calls Try.prog 56 #[.slice a n c, .int .i64 k0] w fun e w' => e = .returned (.int .i64 ((k0 + 2 * n : Nat) : Int)) ∧ Below w.heap.size w w' := by
  have H := hide h1
  clear h1
  go_enter Try.func56, Try.ntmps56
  go_wp2_with fail
  go_loopw [1, 5] (fun q i wr => ∃ k : Nat, k ≤ n ∧ i = .int .i64 k ∧ q = .int .i64 (k0 + 2 * k) ∧ Below w.heap.size w wr) (fun _ i _ => n - (intOf i).toNat)
  case atStart => exact ⟨0, Nat.zero_le _, rfl, by simp, Below.refl _ _⟩
  case round =>
    obtain ⟨k, hk, rfl, rfl, hb⟩ := hrel
    by_cases hlt : k < n
    · have hk2 : k < (markEs k0 n).length := by rw [markEs_len]; exact hlt
      have em : (markEs k0 n)[k] = markE k0 k := by simp [markEs]
      obtain ⟨b, off, rfl, d0, d1⟩ := ((unhide H).below hb).2 k hk2
      rw [em] at d0 d1
      unfold markE at d0 d1
      simp only at d0 d1
      have hsz := hb.size
      have hbw : b < wr.heap.size := cell_lt d0
      have D1 := hide (show ∀ w', Below wr.heap.size wr w' → w'.cell? ⟨b, off + k * 2 + 1, none⟩ = some (.string (mt (k0 + 2 * k + 1) ByteArray.empty)) ∧ w'.cell? ⟨b, off + k * 2, none⟩ = some (.string (mt (k0 + 2 * k) ByteArray.empty)) ∧ b < w'.heap.size from fun w' hb' => ⟨(hb'.cell (p := ⟨b, off + k * 2 + 1, none⟩) hbw).trans d1, (hb'.cell (p := ⟨b, off + k * 2, none⟩) hbw).trans d0, by have := hb'.size; omega⟩)
      clear em
      go_wp2_with fail
      go_region_with (go_at_call 79; refine (markText_at (k0 + 2 * k) _ _ (by omega) (by omega) (by omega)).mono ?_; rintro e w2 ⟨rfl, hb2⟩; replace hb2 : Below wr.heap.size wr w2 := (by first | exact hb2 | exact bel_of_drew hb2 | exact bel_of_drewN hb2); obtain ⟨x1, x0, hbx⟩ := unhide D1 w2 hb2)
      all_goals
        have bA : Below w.heap.size w w2 := hb.trans (hb2.mono hsz)
        have hs2 := bA.size
        have D2 := hide (show ∀ w', Below w2.heap.size w2 w' → w'.cell? ⟨b, off + k * 2 + 1, none⟩ = some (.string (mt (k0 + 2 * k + 1) ByteArray.empty)) from fun w' hb' => (hb'.cell (p := ⟨b, off + k * 2 + 1, none⟩) hbx).trans x1)
        clear hb hb2 d0 d1 x0 D1
        generalize mt (k0 + 2 * k) ByteArray.empty = t0 at *
        go_wp2_with fail
        go_region_with (go_at_call 79; refine (markText_at (k0 + 2 * k + 1) _ _ (by omega) (by omega) (by omega)).mono ?_; rintro e w3 ⟨rfl, hb3⟩; replace hb3 : Below w2.heap.size w2 w3 := (by first | exact hb3 | exact bel_of_drew hb3 | exact bel_of_drewN hb3); have x3 := unhide D2 w3 hb3)
        all_goals
          have bB : Below w.heap.size w w3 := bA.trans (hb3.mono hs2)
          clear bA hb3 x1 x3 D2
          generalize mt (k0 + 2 * k + 1) ByteArray.empty = t1 at *
          go_wp2_with fail
          go_roundw
          case rel => exact ⟨k + 1, by omega, by go_num, by go_num, bB⟩
          case measure => simp [intOf]; omega
    · obtain rfl : k = n := by omega
      go_wp2_with fail
      go_ret
      exact ⟨by simp, hb⟩
set_option maxRecDepth 100000 in
set_option maxHeartbeats 4000000 in
theorem heldDeltaS_any (a : Option Addr) (n c k0 : Nat) (w : World) (hp : 0 < k0) (hn : 4 * n + k0 ≤ 9999990) (h1 : DRow w a n (markDls k0 n)) :
    Calls Try.prog 57 #[.slice a n c, .int .i64 k0] w fun e w' => e = .returned (.int .i64 ((k0 + 4 * n : Nat) : Int)) ∧ Below w.heap.size w w' := by
  have H := hide h1
  clear h1
  go_enter Try.func57, Try.ntmps57
  go_wp2_with fail
  go_loopw [1, 5] (fun q i wr => ∃ k : Nat, k ≤ n ∧ i = .int .i64 k ∧ q = .int .i64 (k0 + 4 * k) ∧ Below w.heap.size w wr) (fun _ i _ => n - (intOf i).toNat)
  case atStart => exact ⟨0, Nat.zero_le _, rfl, by simp, Below.refl _ _⟩
  case round =>
    obtain ⟨k, hk, rfl, rfl, hb⟩ := hrel
    by_cases hlt : k < n
    · have hk2 : k < (markDls k0 n).length := by rw [markDls_len]; exact hlt
      have em : (markDls k0 n)[k] = markDl k0 k := by simp [markDls]
      obtain ⟨b, off, rfl, d0, d1, d2, d3⟩ := ((unhide H).below hb).2 k hk2
      rw [em] at d0 d1 d2 d3
      unfold markDl at d0 d1 d2 d3
      simp only at d0 d1 d2 d3
      have hsz := hb.size
      have hbw : b < wr.heap.size := cell_lt d0
      have D1 := hide (show ∀ w', Below wr.heap.size wr w' → w'.cell? ⟨b, off + k * 4 + 1, none⟩ = some (.string (mt (k0 + 4 * k + 1) ByteArray.empty)) ∧ w'.cell? ⟨b, off + k * 4 + 2, none⟩ = some (.string (mt (k0 + 4 * k + 2) ByteArray.empty)) ∧ w'.cell? ⟨b, off + k * 4 + 3, none⟩ = some (.int .i64 (k0 + 4 * k + 3)) ∧ b < w'.heap.size from fun w' hb' => ⟨(hb'.cell (p := ⟨b, off + k * 4 + 1, none⟩) hbw).trans d1, (hb'.cell (p := ⟨b, off + k * 4 + 2, none⟩) hbw).trans d2, (hb'.cell (p := ⟨b, off + k * 4 + 3, none⟩) hbw).trans d3, by have := hb'.size; omega⟩)
      clear em d2 d3
      go_wp2_with fail
      go_region_with (go_at_call 79; refine (markText_at (k0 + 4 * k + 1) _ _ (by omega) (by omega) (by omega)).mono ?_; rintro e w2 ⟨rfl, hb2⟩; replace hb2 : Below wr.heap.size wr w2 := (by first | exact hb2 | exact bel_of_drew hb2 | exact bel_of_drewN hb2); obtain ⟨x1, x2, x3, hbx⟩ := unhide D1 w2 hb2)
      all_goals
        have bA : Below w.heap.size w w2 := hb.trans (hb2.mono hsz)
        have hs2 := bA.size
        have D2 := hide (show ∀ w', Below w2.heap.size w2 w' → w'.cell? ⟨b, off + k * 4 + 2, none⟩ = some (.string (mt (k0 + 4 * k + 2) ByteArray.empty)) ∧ w'.cell? ⟨b, off + k * 4 + 3, none⟩ = some (.int .i64 (k0 + 4 * k + 1 + 1 + 1)) from fun w' hb' => ⟨(hb'.cell (p := ⟨b, off + k * 4 + 2, none⟩) hbx).trans x2, (hb'.cell (p := ⟨b, off + k * 4 + 3, none⟩) hbx).trans (by rw [show (k0 : Int) + 4 * k + 1 + 1 + 1 = k0 + 4 * k + 3 by omega]; exact x3)⟩)
        clear hb hb2 d0 d1 D1 x1 x3
        generalize mt (k0 + 4 * k + 1) ByteArray.empty = t0 at *
        go_wp2_with fail
        go_region_with (go_at_call 79; refine (markText_at (k0 + 4 * k + 2) _ _ (by omega) (by omega) (by omega)).mono ?_; rintro e w3 ⟨rfl, hb3⟩; replace hb3 : Below w2.heap.size w2 w3 := (by first | exact hb3 | exact bel_of_drew hb3 | exact bel_of_drewN hb3); obtain ⟨y2, y3⟩ := unhide D2 w3 hb3)
        all_goals
          have bB : Below w.heap.size w w3 := bA.trans (hb3.mono hs2)
          clear bA hb3 D2 x2
          generalize mt (k0 + 4 * k + 2) ByteArray.empty = t1 at *
          go_wp2_with fail
          go_roundw
          case rel => exact ⟨k + 1, by omega, by go_num, by go_num, bB⟩
          case measure => simp [intOf]; omega
    · obtain rfl : k = n := by omega
      go_wp2_with fail
      go_ret
      exact ⟨by simp, hb⟩
end Go.Proofs.Ytkggpapmhopaeaa
