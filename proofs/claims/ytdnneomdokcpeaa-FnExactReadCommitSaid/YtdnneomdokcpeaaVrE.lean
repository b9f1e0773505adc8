/-
  The walks of eqVersion, eqVersionS where both sides hold the same.
-/
import Derived.Test.YtdnneomdokcpeaaVrC
import Derived.Deep.RegionWith
namespace Go.Proofs.Ytdnneomdokcpeaa
open Go.RowKit

set_option maxHeartbeats 1000000 in
theorem eqVersion_any (d : VerD) (w : World) :
    Calls Try.prog 27 #[vv d, vv d] w fun e w' => e = .returned (.bool true) ∧ Below w.heap.size w w' := by
  obtain ⟨k, t, v, g⟩ := d
  unfold vv
  go_enter Try.func27, Try.ntmps27
  go_wp2_with fail
  all_goals
    go_ret
    exact ⟨rfl, ((Below.refl _ _).alloc (Nat.le_refl _) _).alloc (by simp) _⟩
set_option maxHeartbeats 1000000 in
theorem eqVersionS_any (a1 a2 : Option Addr) (n c1 c2 : Nat) (ds : List VerD) (w : World) (hn : n ≤ 1048576) (h1 : VRow w a1 n ds) (h2 : VRow w a2 n ds) :
    Calls Try.prog 12 #[.slice a1 n c1, .slice a2 n c2] w fun e w' => e = .returned (.bool true) ∧ Below w.heap.size w w' := by
  have L := hide h1.1
  have R1 := hide h1
  have R2 := hide h2
  clear h1 h2
  go_enter Try.func12, Try.ntmps12
  go_wp2_with fail
  go_loopw [5] (fun i wr => ∃ k : Nat, k ≤ n ∧ i = .int .i64 k ∧ Below w.heap.size w wr) (fun i _ => n - (intOf i).toNat)
  case atStart => exact ⟨0, by omega, rfl, Below.refl _ _⟩
  case round =>
    obtain ⟨k, hk, rfl, hb⟩ := hrel
    by_cases hlt : k < n
    · have hk2 : k < ds.length := by rw [unhide L]; exact hlt
      obtain ⟨b, off, rfl, d0, d1, d2, d3⟩ := ((unhide R1).below hb).2 k hk2
      obtain ⟨b', off', rfl, y0, y1, y2, y3⟩ := ((unhide R2).below hb).2 k hk2
      generalize ds[k] = pd at *
      have hsz := hb.size
      go_wp2_with fail
      go_region_with (go_at_call 27; refine (eqVersion_any pd _).mono ?_; rintro e w2 ⟨rfl, hb2⟩)
      all_goals
        have bA : Below w.heap.size w w2 := by first | exact hb.drew.trans (hb2.mono hsz) | exact (bel_drewN hb _).trans (hb2.mono hsz) | exact hb.trans (hb2.mono hsz)
        clear hb hb2 d0 d1 d2 d3 y0 y1 y2 y3
        go_wp2_with fail
        go_roundw
        case rel => exact ⟨k + 1, by omega, by go_num, bA⟩
        case measure => simp [intOf]; omega
    · obtain rfl : k = n := by omega
      go_wp2_with fail
      go_ret
      exact ⟨rfl, hb⟩
end Go.Proofs.Ytdnneomdokcpeaa
