/-
  The walk of onlyEight.
-/
import Derived.Test.YtgifcaeemfaihaaEightAt
set_option maxRecDepth 100000
namespace Go.Proofs.Ytgifcaeemfaihaa
open Go.RowKit

theorem eight_sets {w w1 : World} (hb : Below w.heap.size w w1) (v0 v1 v2 v3 v4 v5 v6 v7 : Value) :
    Below w.heap.size w ((((((((w1.setCell ⟨w.heap.size, 0, none⟩ v0).setCell ⟨w.heap.size, 1, none⟩ v1).setCell ⟨w.heap.size, 2, none⟩ v2).setCell ⟨w.heap.size, 3, none⟩ v3).setCell ⟨w.heap.size, 4, none⟩ v4).setCell ⟨w.heap.size, 5, none⟩ v5).setCell ⟨w.heap.size, 6, none⟩ v6).setCell ⟨w.heap.size, 7, none⟩ v7) ∧
    w.heap.size ≤ ((((((((w1.setCell ⟨w.heap.size, 0, none⟩ v0).setCell ⟨w.heap.size, 1, none⟩ v1).setCell ⟨w.heap.size, 2, none⟩ v2).setCell ⟨w.heap.size, 3, none⟩ v3).setCell ⟨w.heap.size, 4, none⟩ v4).setCell ⟨w.heap.size, 5, none⟩ v5).setCell ⟨w.heap.size, 6, none⟩ v6).setCell ⟨w.heap.size, 7, none⟩ v7).heap.size := by
  have h0 := hb.setCell (p := ⟨w.heap.size, 0, none⟩) (Nat.le_refl _) v0
  have h1 := h0.setCell (p := ⟨w.heap.size, 1, none⟩) (Nat.le_refl _) v1
  have h2 := h1.setCell (p := ⟨w.heap.size, 2, none⟩) (Nat.le_refl _) v2
  have h3 := h2.setCell (p := ⟨w.heap.size, 3, none⟩) (Nat.le_refl _) v3
  have h4 := h3.setCell (p := ⟨w.heap.size, 4, none⟩) (Nat.le_refl _) v4
  have h5 := h4.setCell (p := ⟨w.heap.size, 5, none⟩) (Nat.le_refl _) v5
  have h6 := h5.setCell (p := ⟨w.heap.size, 6, none⟩) (Nat.le_refl _) v6
  have h7 := h6.setCell (p := ⟨w.heap.size, 7, none⟩) (Nat.le_refl _) v7
  exact ⟨h7, h7.size⟩

set_option maxHeartbeats 1000000 in
theorem onlyEight_any (b off c : Nat) (xs : List Int) (w : World) (hnc : 8 ≤ c) (hc : c ≤ maxLen) (hr : Row w (some ⟨b, off, none⟩) 8 xs) :
    Calls Try.prog 36 #[.slice (some ⟨b, off, none⟩) 8 c] w fun e w' => e = .returned (.tuple #[.agg #[.int .u8 (xs.getD (0 + 0) 0), .int .u8 (xs.getD (0 + 1) 0), .int .u8 (xs.getD (0 + 2) 0), .int .u8 (xs.getD (0 + 3) 0), .int .u8 (xs.getD (0 + 4) 0), .int .u8 (xs.getD (0 + 5) 0), .int .u8 (xs.getD (0 + 6) 0), .int .u8 (xs.getD (0 + 7) 0)], .int .i64 0]) ∧ Below w.heap.size w w' := by
  have hE := eightAt_any b off 8 c 0 xs (w.alloc (.cells #[.int .u8 0, .int .u8 0, .int .u8 0, .int .u8 0, .int .u8 0, .int .u8 0, .int .u8 0, .int .u8 0] 61)) hnc hc (by omega) (row_alloc hr)
  rw [show (((0 : Nat) : Int)) = 0 from rfl] at hE
  simp only [Nat.zero_add] at hE ⊢
  have HE := hide hE
  clear hE hr
  generalize xs.getD 0 0 = y0 at *
  generalize xs.getD 1 0 = y1 at *
  generalize xs.getD 2 0 = y2 at *
  generalize xs.getD 3 0 = y3 at *
  generalize xs.getD 4 0 = y4 at *
  generalize xs.getD 5 0 = y5 at *
  generalize xs.getD 6 0 = y6 at *
  generalize xs.getD 7 0 = y7 at *
  go_enter Try.func36, Try.ntmps36
  go_wp2_with fail
  refine (unhide HE).mono ?_
  rintro e w1 ⟨rfl, hb1⟩
  have BB := hide (((Below.refl w.heap.size w).alloc (Nat.le_refl _) (.cells #[.int .u8 0, .int .u8 0, .int .u8 0, .int .u8 0, .int .u8 0, .int .u8 0, .int .u8 0, .int .u8 0] 61)).trans (hb1.mono (by simp)))
  have hz : w.heap.size + 1 ≤ w1.heap.size := by have := hb1.size; simpa using this
  have hlt : w.heap.size < w1.heap.size := by omega
  have cc0 : w1.cell? ⟨w.heap.size, 0, none⟩ = some (.int .u8 0) := (hb1.cell (p := ⟨w.heap.size, 0, none⟩) (by simp)).trans (by simp)
  have cc1 : w1.cell? ⟨w.heap.size, 1, none⟩ = some (.int .u8 0) := (hb1.cell (p := ⟨w.heap.size, 1, none⟩) (by simp)).trans (by simp)
  have cc2 : w1.cell? ⟨w.heap.size, 2, none⟩ = some (.int .u8 0) := (hb1.cell (p := ⟨w.heap.size, 2, none⟩) (by simp)).trans (by simp)
  have cc3 : w1.cell? ⟨w.heap.size, 3, none⟩ = some (.int .u8 0) := (hb1.cell (p := ⟨w.heap.size, 3, none⟩) (by simp)).trans (by simp)
  have cc4 : w1.cell? ⟨w.heap.size, 4, none⟩ = some (.int .u8 0) := (hb1.cell (p := ⟨w.heap.size, 4, none⟩) (by simp)).trans (by simp)
  have cc5 : w1.cell? ⟨w.heap.size, 5, none⟩ = some (.int .u8 0) := (hb1.cell (p := ⟨w.heap.size, 5, none⟩) (by simp)).trans (by simp)
  have cc6 : w1.cell? ⟨w.heap.size, 6, none⟩ = some (.int .u8 0) := (hb1.cell (p := ⟨w.heap.size, 6, none⟩) (by simp)).trans (by simp)
  have cc7 : w1.cell? ⟨w.heap.size, 7, none⟩ = some (.int .u8 0) := (hb1.cell (p := ⟨w.heap.size, 7, none⟩) (by simp)).trans (by simp)
  have ff : ∀ o, w1.frozen? ⟨w.heap.size, o, none⟩ = false := fun o => (hb1.frozen (p := ⟨w.heap.size, o, none⟩) (by simp)).trans (by simp)
  clear hb1 hz
  go_wp2_with fail
  refine bodyPost_ret (v := .tuple #[.agg #[.int .u8 y0, .int .u8 y1, .int .u8 y2, .int .u8 y3, .int .u8 y4, .int .u8 y5, .int .u8 y6, .int .u8 y7], .int .i64 0]) (by simp [results, Try.results36, go_sem, hlt, cc0, cc1, cc2, cc3, cc4, cc5, cc6, cc7]) rfl ⟨rfl, ?_⟩
  have hs : w.heap.size ≤ w1.heap.size := by omega
  have B8 := eight_sets (unhide BB) (.int .u8 y0) (.int .u8 y1) (.int .u8 y2) (.int .u8 y3) (.int .u8 y4) (.int .u8 y5) (.int .u8 y6) (.int .u8 y7)
  exact B8.1.alloc B8.2 _
end Go.Proofs.Ytgifcaeemfaihaa
