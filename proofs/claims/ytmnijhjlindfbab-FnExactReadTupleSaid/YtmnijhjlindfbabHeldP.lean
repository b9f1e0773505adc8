/-
  The walk of heldPartS: the marks are found again.
-/
import Derived.Test.YtmnijhjlindfbabMarkP
import Derived.Deep.RegionWith
namespace Go.Proofs.Ytmnijhjlindfbab
open Go.RowKit

theorem small_order (m : Nat) (h : m < 100) : (FloatKind.f64.format.order (floatOfInt .f64 (m : Int)) (floatOfInt .f64 (m : Int)) != some Ordering.eq) = false := by
  have : ∀ m : Nat, m < 100 → (FloatKind.f64.format.order (floatOfInt .f64 (m : Int)) (floatOfInt .f64 (m : Int)) != some Ordering.eq) = false := by decide +kernel
  exact this m h
set_option maxHeartbeats 1000000 in
theorem heldPartS_any (a : Option Addr) (n c k0 : Nat) (w : World) (hn : n ≤ 6) (h0 : k0 ≤ 10) (hp : 0 < k0) (h1 : PRow w a n (markDs k0 n)) :
    Calls Try.prog 18 #[.slice a n c, .int .i64 k0] w fun e w' => e = .returned (.int .i64 (k0 + 4 * n)) ∧ Below w.heap.size w w' := by
  have H := hide h1.2
  clear h1
  go_enter Try.func18, Try.ntmps18
  go_wp2_with fail
  go_loopw [1, 5] (fun q i wr => ∃ k : Nat, k ≤ n ∧ i = .int .i64 k ∧ q = .int .i64 (k0 + 4 * k) ∧ Below w.heap.size w wr) (fun _ i _ => n - (intOf i).toNat)
  case atStart => exact ⟨0, Nat.zero_le _, rfl, by simp, Below.refl _ _⟩
  case round =>
    obtain ⟨k, hk, rfl, rfl, hb⟩ := hrel
    by_cases hlt : k < n
    · have hk2 : k < (markDs k0 n).length := by simpa [markDs] using hlt
      obtain ⟨b, off, rfl, c0, c1, c2, c3⟩ := unhide H k hk2
      have em : (markDs k0 n)[k] = markD k0 k := by simp [markDs]
      rw [em] at c0 c1 c2 c3
      have hbl : b < w.heap.size := cell_lt c0
      have d0 : wr.cell? ⟨b, off + k * 4, none⟩ = some (.int .i64 (k0 + 4 * k)) := (hb.cell (p := ⟨b, off + k * 4, none⟩) hbl).trans c0
      have d1 : wr.cell? ⟨b, off + k * 4 + 1, none⟩ = some (.int .i64 (k0 + 4 * k + 1)) := (hb.cell (p := ⟨b, off + k * 4 + 1, none⟩) hbl).trans c1
      have d2 : wr.cell? ⟨b, off + k * 4 + 2, none⟩ = some (.float .f64 (floatOfInt .f64 (k0 + 4 * k + 1 + 1))) := by
        rw [show (k0 + 4 * k + 1 + 1 : Int) = k0 + 4 * k + 2 by omega]
        exact (hb.cell (p := ⟨b, off + k * 4 + 2, none⟩) hbl).trans c2
      have d3 : wr.cell? ⟨b, off + k * 4 + 3, none⟩ = some (.string (mt (k0 + 4 * k + 3) ByteArray.empty)) := (hb.cell (p := ⟨b, off + k * 4 + 3, none⟩) hbl).trans c3
      have ho : (FloatKind.f64.format.order (floatOfInt .f64 (k0 + 4 * k + 1 + 1)) (floatOfInt .f64 (k0 + 4 * k + 1 + 1)) != some Ordering.eq) = false := by
        have := small_order (k0 + 4 * k + 2) (by omega)
        rw [show ((k0 + 4 * k + 2 : Nat) : Int) = k0 + 4 * k + 1 + 1 by omega] at this
        exact this
      have hsz := hb.size
      clear c0 c1 c2 c3 em
      have hbw : b < wr.heap.size := Nat.lt_of_lt_of_le hbl hsz
      go_wp2_with fail
      go_region_with (go_at_call 28; refine (markText_at (k0 + 4 * k + 3) _ _ (by omega) (by omega) (by omega)).mono ?_; rintro e w2 ⟨rfl, hb2⟩; have d4 : w2.cell? ⟨b, off + k * 4 + 3, none⟩ = some (.string (mt (k0 + 4 * k + 3) ByteArray.empty)) := (hb2.cell (p := ⟨b, off + k * 4 + 3, none⟩) hbw).trans d3)
      all_goals
        have bA : Below w.heap.size w w2 := by first | exact hb.trans (hb2.mono hsz) | exact hb.drew.trans (hb2.mono hsz) | exact (bel_drewN hb _).trans (hb2.mono hsz)
        clear hb hb2 d0 d1 d2 d3 d4 ho
        generalize mt (k0 + 4 * k + 3) ByteArray.empty = tx at *
        go_wp2_with fail
        go_roundw
        case rel => exact ⟨k + 1, by omega, by go_num, by go_num, bA⟩
        case measure => simp [intOf]; omega
    · obtain rfl : k = n := by omega
      go_wp2_with fail
      go_ret
      exact ⟨rfl, hb⟩
end Go.Proofs.Ytmnijhjlindfbab
