/-
  The walk of heldVersionS: the marks are found again.
-/
import Derived.Test.YtdnneomdokcpeaaVrM
namespace Go.Proofs.Ytdnneomdokcpeaa
open Go.RowKit

set_option maxRecDepth 100000 in
set_option maxHeartbeats 4000000 in
theorem heldVersionS_any (a : Option Addr) (n c k0 : Nat) (w : World) (hp : 0 < k0) (hn : 4 * n + k0 ≤ 9999990) (h1 : VRow w a n (markVs k0 n)) :
    Calls Try.prog 19 #[.slice a n c, .int .i64 k0] w fun e w' => e = .returned (.int .i64 ((k0 + 4 * n : Nat) : Int)) ∧ Below w.heap.size w w' := by
  have H := hide h1
  clear h1
  go_enter Try.func19, Try.ntmps19
  go_wp2_with fail
  go_loopw [1, 5] (fun q i wr => ∃ k : Nat, k ≤ n ∧ i = .int .i64 k ∧ q = .int .i64 (k0 + 4 * k) ∧ Below w.heap.size w wr) (fun _ i _ => n - (intOf i).toNat)
  case atStart => exact ⟨0, Nat.zero_le _, rfl, by simp, Below.refl _ _⟩
  case round =>
    obtain ⟨k, hk, rfl, rfl, hb⟩ := hrel
    by_cases hlt : k < n
    · have hk2 : k < (markVs k0 n).length := by rw [markVs_len]; exact hlt
      have em : (markVs k0 n)[k] = markV k0 k := by simp [markVs]
      obtain ⟨b, off, rfl, d0, d1, d2, d3⟩ := ((unhide H).below hb).2 k hk2
      rw [em] at d0 d1 d2 d3
      unfold markV at d0 d1 d2 d3
      simp only at d0 d1 d2 d3
      have hsz := hb.size
      have hbw : b < wr.heap.size := cell_lt d0
      have e1 : ((k0 + 4 * k + 1 : Nat) : Int) = (k0 : Int) + 4 * k + 1 := by omega
      have e3 : decide ((k0 + 4 * k + 3) % 3 = 0) = decide (((k0 : Int) + 4 * k + 1 + 1 + 1) % 3 = 0) := by rw [decide_eq_decide]; omega
      rw [e1] at d1
      rw [e3] at d3
      have D1 := hide (show ∀ w', Below wr.heap.size wr w' → w'.cell? ⟨b, off + k * 4 + 1, none⟩ = some (.int .i64 ((k0 : Int) + 4 * k + 1)) ∧ w'.cell? ⟨b, off + k * 4 + 2, none⟩ = some (.string (mt (k0 + 4 * k + 2) ByteArray.empty)) ∧ w'.cell? ⟨b, off + k * 4 + 3, none⟩ = some (.bool (decide (((k0 : Int) + 4 * k + 1 + 1 + 1) % 3 = 0))) ∧ w'.cell? ⟨b, off + k * 4, none⟩ = some (.string (mt (k0 + 4 * k) ByteArray.empty)) ∧ b < w'.heap.size from fun w' hb' => ⟨(hb'.cell (p := ⟨b, off + k * 4 + 1, none⟩) hbw).trans d1, (hb'.cell (p := ⟨b, off + k * 4 + 2, none⟩) hbw).trans d2, (hb'.cell (p := ⟨b, off + k * 4 + 3, none⟩) hbw).trans d3, (hb'.cell (p := ⟨b, off + k * 4, none⟩) hbw).trans d0, by have := hb'.size; omega⟩)
      clear em d1 d2 d3 e1 e3
      go_wp2_with fail
      go_region_with (go_at_call 34; refine (markText_at (k0 + 4 * k) _ _ (by omega) (by omega) (by omega)).mono ?_; rintro e w2 ⟨rfl, hb2⟩; replace hb2 : Below wr.heap.size wr w2 := (by first | exact hb2 | exact rb_bel_of_drew hb2 | exact rb_bel_of_drewN hb2); obtain ⟨x1, x2, x3, x0, hbx⟩ := unhide D1 w2 hb2)
      all_goals
        have bA : Below w.heap.size w w2 := hb.trans (hb2.mono hsz)
        have hs2 := bA.size
        have D2 := hide (show ∀ w', Below w2.heap.size w2 w' → w'.cell? ⟨b, off + k * 4 + 2, none⟩ = some (.string (mt (k0 + 4 * k + 2) ByteArray.empty)) ∧ w'.cell? ⟨b, off + k * 4 + 3, none⟩ = some (.bool (decide (((k0 : Int) + 4 * k + 1 + 1 + 1) % 3 = 0))) from fun w' hb' => ⟨(hb'.cell (p := ⟨b, off + k * 4 + 2, none⟩) hbx).trans x2, (hb'.cell (p := ⟨b, off + k * 4 + 3, none⟩) hbx).trans x3⟩)
        clear hb hb2 d0 x0 x3 D1
        generalize mt (k0 + 4 * k) ByteArray.empty = t0 at *
        go_wp2_with fail
        go_region_with (go_at_call 34; refine (markText_at (k0 + 4 * k + 2) _ _ (by omega) (by omega) (by omega)).mono ?_; rintro e w3 ⟨rfl, hb3⟩; replace hb3 : Below w2.heap.size w2 w3 := (by first | exact hb3 | exact rb_bel_of_drew hb3 | exact rb_bel_of_drewN hb3); obtain ⟨y2, y3⟩ := unhide D2 w3 hb3)
        all_goals
          have bB : Below w.heap.size w w3 := bA.trans (hb3.mono hs2)
          clear bA hb3 D2 x1 x2
          generalize mt (k0 + 4 * k + 2) ByteArray.empty = t1 at *
          by_cases h3 : ((k0 : Int) + 4 * k + 1 + 1 + 1) % 3 = 0
          · rw [decide_eq_true h3] at y3
            go_wp2_with fail
            go_roundw
            case rel => exact ⟨k + 1, by omega, by go_num, by go_num, bB⟩
            case measure => simp [intOf]; omega
          · rw [decide_eq_false h3] at y3
            go_wp2_with fail
            go_roundw
            case rel => exact ⟨k + 1, by omega, by go_num, by go_num, bB⟩
            case measure => simp [intOf]; omega
    · obtain rfl : k = n := by omega
      go_wp2_with fail
      go_ret
      exact ⟨by simp, hb⟩
end Go.Proofs.Ytdnneomdokcpeaa
