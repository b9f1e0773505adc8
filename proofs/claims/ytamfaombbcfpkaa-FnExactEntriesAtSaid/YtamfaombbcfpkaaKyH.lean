/-
  The walk of heldEntryS: the marks are found again.
-/
import Derived.Test.YtamfaombbcfpkaaKyM
namespace Go.Proofs.Ytamfaombbcfpkaa
open Go.RowKit

set_option maxRecDepth 100000 in
set_option maxHeartbeats 4000000 in
theorem heldEntryS_any (a : Option Addr) (n c k0 : Nat) (w : World) (hp : 0 < k0) (hn : 2 * n + k0 ≤ 9999990) (h1 : KRow w a n (markKs k0 n)) :
    Calls Try.prog 12 #[.slice a n c, .int .i64 k0] w fun e w' => e = .returned (.int .i64 ((k0 + 2 * n : Nat) : Int)) ∧ Below w.heap.size w w' := by
  have H := hide h1
  clear h1
  go_enter Try.func12, Try.ntmps12
  go_wp2_with fail
  go_loopw [1, 5] (fun q i wr => ∃ k : Nat, k ≤ n ∧ i = .int .i64 k ∧ q = .int .i64 (k0 + 2 * k) ∧ Below w.heap.size w wr) (fun _ i _ => n - (intOf i).toNat)
  case atStart => exact ⟨0, Nat.zero_le _, rfl, by simp, Below.refl _ _⟩
  case round =>
    obtain ⟨k, hk, rfl, rfl, hb⟩ := hrel
    by_cases hlt : k < n
    · have hk2 : k < (markKs k0 n).length := by rw [markKs_len]; exact hlt
      have em : (markKs k0 n)[k] = markK k0 k := by simp [markKs]
      obtain ⟨b, off, rfl, d0, d1⟩ := ((unhide H).below hb).2 k hk2
      rw [em] at d0 d1
      unfold markK at d0 d1
      simp only at d0 d1
      have hsz := hb.size
      have hbw : b < wr.heap.size := cell_lt d0
      have D1 := hide (show ∀ w', Below wr.heap.size wr w' → w'.cell? ⟨b, off + k * 2, none⟩ = some (.string (mt (k0 + 2 * k) ByteArray.empty)) ∧ w'.cell? ⟨b, off + k * 2 + 1, none⟩ = some (.string (mt (k0 + 2 * k + 1) ByteArray.empty)) ∧ b < w'.heap.size from fun w' hb' => ⟨(hb'.cell (p := ⟨b, off + k * 2, none⟩) hbw).trans d0, (hb'.cell (p := ⟨b, off + k * 2 + 1, none⟩) hbw).trans d1, by have := hb'.size; omega⟩)
      clear em d1
      go_wp2_with fail
      go_region_with (go_at_call 24; refine (markText_at (k0 + 2 * k) _ _ (by omega) (by omega) (by omega)).mono ?_; rintro e w2 ⟨rfl, hb2⟩; replace hb2 : Below wr.heap.size wr w2 := (by first | exact hb2 | exact rb_bel_of_drew hb2 | exact rb_bel_of_drewN hb2); obtain ⟨x0, x1, hbx⟩ := unhide D1 w2 hb2)
      all_goals
        have bA : Below w.heap.size w w2 := hb.trans (hb2.mono hsz)
        have hs2 := bA.size
        have D2 := hide (show ∀ w', Below w2.heap.size w2 w' → w'.cell? ⟨b, off + k * 2 + 1, none⟩ = some (.string (mt (k0 + 2 * k + 1) ByteArray.empty)) from fun w' hb' => (hb'.cell (p := ⟨b, off + k * 2 + 1, none⟩) hbx).trans x1)
        clear hb hb2 d0 D1
        generalize mt (k0 + 2 * k) ByteArray.empty = t0 at *
        go_wp2_with fail
        go_region_with (go_at_call 24; refine (markText_at (k0 + 2 * k + 1) _ _ (by omega) (by omega) (by omega)).mono ?_; rintro e w3 ⟨rfl, hb3⟩; replace hb3 : Below w2.heap.size w2 w3 := (by first | exact hb3 | exact rb_bel_of_drew hb3 | exact rb_bel_of_drewN hb3); have y1 := unhide D2 w3 hb3)
        all_goals
          have bB : Below w.heap.size w w3 := bA.trans (hb3.mono hs2)
          clear bA hb3 D2 x1 x0
          generalize mt (k0 + 2 * k + 1) ByteArray.empty = t1 at *
          go_wp2_with fail
          go_roundw
          case rel => exact ⟨k + 1, by omega, by go_num, by go_num, bB⟩
          case measure => simp [intOf]; omega
    · obtain rfl : k = n := by omega
      go_wp2_with fail
      go_ret
      exact ⟨by simp, hb⟩
end Go.Proofs.Ytamfaombbcfpkaa
