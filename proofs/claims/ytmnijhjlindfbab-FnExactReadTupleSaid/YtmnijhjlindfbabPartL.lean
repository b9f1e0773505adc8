/-
  The walks of szPart, szPartS and toPart.
-/
import Derived.Test.YtmnijhjlindfbabPartD
namespace Go.Proofs.Ytmnijhjlindfbab
open Go.RowKit
attribute [local go_sem] run_store_float

theorem szPart_any (k m : Int) (f : Nat) (t : ByteArray) (left : Int) (w : World) (h0 : 0 ≤ left) (h1 : left ≤ 1048576) (ht : t.size ≤ maxLen) :
    Calls Try.prog 21 #[.agg #[.int .i64 k, .int .i64 m, .float .f64 f, .string t], .int .i64 left] w fun e w' => ∃ r : Int, e = .returned (.int .i64 r) ∧ (r = -1 ∨ (0 ≤ r ∧ r ≤ left ∧ (t.size : Int) ≤ left)) ∧ Below w.heap.size w w' := by
  unfold maxLen at ht
  by_cases h : left - t.size < 0
  · go_enter Try.func21, Try.ntmps21
    go_wp2_with fail
    go_ret
    exact ⟨_, rfl, .inl rfl, (Below.refl _ _).alloc (Nat.le_refl _) _⟩
  · have hge : 0 ≤ left - t.size := by omega
    go_enter Try.func21, Try.ntmps21
    go_wp2_with fail
    go_ret
    exact ⟨_, rfl, .inr ⟨hge, by omega, by omega⟩, (Below.refl _ _).alloc (Nat.le_refl _) _⟩

set_option maxHeartbeats 1000000 in
theorem szPartS_any (a : Option Addr) (n c : Nat) (ps : List PartD) (left : Int) (w : World) (h0 : 0 ≤ left) (h1 : left ≤ 1048576) (hr : PRow w a n ps) (hn : n ≤ maxLen) (ht : ∀ i (hi : i < ps.length), ps[i].t.size ≤ maxLen) :
    Calls Try.prog 6 #[.slice a n c, .int .i64 left] w fun e w' => ∃ r : Int, e = .returned (.int .i64 r) ∧ (r = -1 ∨ (0 ≤ r ∧ r ≤ left ∧ (n : Int) ≤ left)) ∧ Below w.heap.size w w' := by
  unfold maxLen at hn
  have L := hide hr.1
  have R := hide hr.2
  have T := hide ht
  clear hr ht
  by_cases hb : left - n < 0
  · go_enter Try.func6, Try.ntmps6
    go_wp2_with fail
    go_ret
    exact ⟨-1, rfl, .inl rfl, Below.refl _ _⟩
  have hb' : 0 ≤ left - n := by omega
  go_enter Try.func6, Try.ntmps6
  go_wp2_with fail
  go_loopw [1, 5] (fun l i wr => ∃ k : Nat, k ≤ n ∧ i = .int .i64 k ∧ ∃ q : Int, l = .int .i64 q ∧ 0 ≤ q ∧ q ≤ left - n ∧ Below w.heap.size w wr) (fun _ i _ => n - (intOf i).toNat)
  case atStart => exact ⟨0, by omega, rfl, _, rfl, by omega, by omega, Below.refl _ _⟩
  case round =>
    obtain ⟨k, hk, rfl, q, rfl, hq0, hq1, hbel⟩ := hrel
    by_cases hlt : k < n
    · have hk2 : k < ps.length := by rw [unhide L]; exact hlt
      obtain ⟨b, off, rfl, c0, c1, c2, c3⟩ := unhide R k hk2
      have hsz := hbel.size
      have hT := unhide T k hk2
      have hbl : b < w.heap.size := cell_lt c0
      have d0 := (hbel.cell (p := ⟨b, off + k * 4, none⟩) hbl).trans c0
      have d1 := (hbel.cell (p := ⟨b, off + k * 4 + 1, none⟩) hbl).trans c1
      have d2 := (hbel.cell (p := ⟨b, off + k * 4 + 2, none⟩) hbl).trans c2
      have d3 := (hbel.cell (p := ⟨b, off + k * 4 + 3, none⟩) hbl).trans c3
      clear c0 c1 c2 c3
      generalize ps[k] = pd at *
      go_wp2_with fail
      refine (szPart_any _ _ _ _ q wr hq0 (by omega) hT).mono ?_
      rintro e w1 ⟨r, rfl, hr, hb1⟩
      have bA := hbel.trans (hb1.mono hsz)
      clear hbel hb1 d0 d1 d2 d3
      rcases hr with rfl | ⟨r0, r1, r2⟩
      · go_wp2_with fail
        go_ret
        exact ⟨-1, rfl, .inl rfl, bA⟩
      · go_wp2_with fail
        go_roundw
        case rel => exact ⟨k + 1, by omega, by go_num, r, rfl, r0, by omega, bA⟩
        case measure => simp [intOf]; omega
    · obtain rfl : k = n := by omega
      go_wp2_with fail
      go_ret
      exact ⟨q, rfl, .inr ⟨hq0, by omega, by omega⟩, hbel⟩

set_option maxHeartbeats 1000000 in
theorem toPart_any (d : PartD) (w : World) :
    Calls Try.prog 24 #[pv d] w fun e w' => e = .returned (pv d) ∧ Below w.heap.size w w' := by
  obtain ⟨k, n, f, t⟩ := d
  go_enter Try.func24, Try.ntmps24
  go_wp2_with fail
  exact bodyPost_ret (v := .agg #[.int .i64 k, .int .i64 n, .float .f64 f, .string t]) (by simp [results, Try.results24, go_sem]) rfl ⟨rfl, (((Below.refl _ _).alloc (Nat.le_refl _) _).alloc (by simp) _).alloc (by simp; omega) _⟩
end Go.Proofs.Ytmnijhjlindfbab
