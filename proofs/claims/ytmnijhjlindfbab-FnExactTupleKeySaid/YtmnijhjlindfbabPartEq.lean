/-
  The walks of sameFloat, eqPart and eqPartS where both sides hold the same.
-/
import Derived.Test.YtmnijhjlindfbabPartTo
import Derived.Laws.FloatArith
import Derived.Deep.RegionWith
namespace Go.Proofs.Ytmnijhjlindfbab
open Go.RowKit
attribute [local go_sem] run_store_float

theorem order_self (d : Ieee.Datum) : d.order d = some .eq ∨ d.order d = none := by
  cases d with
  | number s m i => left; simp only [Ieee.Datum.order, compare, compareOfLessAndEq]; simp
  | infinity s => left; cases s <;> rfl
  | nan s f => right; rfl
theorem quo_one (f : Nat) (h : (Ieee.double.read f).order (Ieee.double.read f) = some .eq) : ∃ r, floatBits .quo .f64 4607182418800017408 f = some r := by
  show ∃ r, ((Ieee.double.read 4607182418800017408).quotient _ (Ieee.double.read f)).map Ieee.double.write = some r
  have e1 : Ieee.double.read 4607182418800017408 = .number false 4503599627370496 (-52) := by decide
  rw [e1]
  revert h
  generalize Ieee.double.read f = y
  intro h
  cases y with
  | number t n j =>
    by_cases hn : n = 0
    · exact ⟨_, by simp only [Ieee.Datum.quotient, hn, if_true]; rfl⟩
    · exact ⟨_, by simp only [Ieee.Datum.quotient, hn, if_false, Option.map_some]; rfl⟩
  | infinity t => exact ⟨_, by simp only [Ieee.Datum.quotient, Option.map_some]; rfl⟩
  | nan t f => simp [Ieee.Datum.order] at h

set_option maxHeartbeats 1000000 in
theorem sameFloat_any (f : Nat) (w : World) :
    Calls Try.prog 46 #[.float .f64 f, .float .f64 f] w fun e w' => e = .returned (.bool true) ∧ w' = w := by
  rcases order_self (Ieee.double.read f) with h | h
  · have q : (FloatKind.f64.format.order f f != some Ordering.eq) = false := by
      have e : FloatKind.f64.format.order f f = some .eq := h
      rw [e]; rfl
    have q2 : (FloatKind.f64.format.order f f == some Ordering.eq) = true := by
      have e : FloatKind.f64.format.order f f = some .eq := h
      rw [e]; rfl
    obtain ⟨r, hr⟩ := quo_one f h
    have hq := fun w => run_float_arith (P := Try.prog) w .quo 42 .f64 _ _ r hr
    clear h hr
    by_cases hz : (FloatKind.f64.format.order f 0 == some Ordering.eq) = true
    · go_enter Try.func46, Try.ntmps46
      go_wp2_with fail
      all_goals go_ret
      all_goals exact ⟨ret_bool (by simp), rfl⟩
    · have hz : (FloatKind.f64.format.order f 0 == some Ordering.eq) = false := by simpa using hz
      go_enter Try.func46, Try.ntmps46
      go_wp2_with fail
      all_goals go_ret
      all_goals exact ⟨ret_bool (by first | rfl | simpa using q2), rfl⟩
  · have q : (FloatKind.f64.format.order f f != some Ordering.eq) = true := by
      have e : FloatKind.f64.format.order f f = none := h
      rw [e]; rfl
    clear h
    go_enter Try.func46, Try.ntmps46
    go_wp2_with fail
    all_goals go_ret
    all_goals exact ⟨ret_bool (by first | rfl | simpa using q), rfl⟩

set_option maxHeartbeats 1000000 in
theorem eqPart_any (d : PartD) (w : World) :
    Calls Try.prog 27 #[pv d, pv d] w fun e w' => e = .returned (.bool true) ∧ Below w.heap.size w w' := by
  obtain ⟨k, n, f, t⟩ := d
  go_enter Try.func27, Try.ntmps27
  go_wp2_with fail
  refine (sameFloat_any f _).mono ?_
  rintro e w1 ⟨rfl, rfl⟩
  go_wp2_with fail
  go_ret
  exact ⟨rfl, ((Below.refl _ _).alloc (Nat.le_refl _) _).alloc (by simp) _⟩

set_option maxHeartbeats 1000000 in
theorem eqPartS_any (a1 a2 : Option Addr) (n c1 c2 : Nat) (ps : List PartD) (w : World) (hn : n ≤ 1048576) (h1 : PRow w a1 n ps) (h2 : PRow w a2 n ps) :
    Calls Try.prog 11 #[.slice a1 n c1, .slice a2 n c2] w fun e w' => e = .returned (.bool true) ∧ Below w.heap.size w w' := by
  have L := hide h1.1
  have R1 := hide h1.2
  have R2 := hide h2.2
  clear h1 h2
  go_enter Try.func11, Try.ntmps11
  go_wp2_with fail
  go_loopw [5] (fun i wr => ∃ k : Nat, k ≤ n ∧ i = .int .i64 k ∧ Below w.heap.size w wr) (fun i _ => n - (intOf i).toNat)
  case atStart => exact ⟨0, by omega, rfl, Below.refl _ _⟩
  case round =>
    obtain ⟨k, hk, rfl, hb⟩ := hrel
    by_cases hlt : k < n
    · have hk2 : k < ps.length := by rw [unhide L]; exact hlt
      obtain ⟨b, off, rfl, c0, c1', c2', c3⟩ := unhide R1 k hk2
      obtain ⟨b', off', rfl, x0, x1, x2, x3⟩ := unhide R2 k hk2
      have hbl : b < w.heap.size := cell_lt c0
      have hbl' : b' < w.heap.size := cell_lt x0
      have d0 := (hb.cell (p := ⟨b, off + k * 4, none⟩) hbl).trans c0
      have d1 := (hb.cell (p := ⟨b, off + k * 4 + 1, none⟩) hbl).trans c1'
      have d2 := (hb.cell (p := ⟨b, off + k * 4 + 2, none⟩) hbl).trans c2'
      have d3 := (hb.cell (p := ⟨b, off + k * 4 + 3, none⟩) hbl).trans c3
      have y0 := (hb.cell (p := ⟨b', off' + k * 4, none⟩) hbl').trans x0
      have y1 := (hb.cell (p := ⟨b', off' + k * 4 + 1, none⟩) hbl').trans x1
      have y2 := (hb.cell (p := ⟨b', off' + k * 4 + 2, none⟩) hbl').trans x2
      have y3 := (hb.cell (p := ⟨b', off' + k * 4 + 3, none⟩) hbl').trans x3
      clear c0 c1' c2' c3 x0 x1 x2 x3
      generalize ps[k] = pd at *
      have hsz := hb.size
      go_wp2_with fail
      go_region_with (go_at_call 27; refine (eqPart_any pd _).mono ?_; rintro e w2 ⟨rfl, hb2⟩)
      all_goals
        have bA : Below w.heap.size w w2 := by first | exact hb.drew.trans (hb2.mono hsz) | exact (bel_drewN hb _).trans (hb2.mono hsz) | exact hb.trans (hb2.mono hsz)
        clear hb hb2 d0 d1 d2 d3 y0 y1 y2 y3
        go_wp2_with fail
        go_roundw
        case rel => exact ⟨k + 1, by omega, by go_num, bA⟩
        case measure => simp [intOf]; omega
    · obtain rfl : k = n := by omega
      go_wp2_with fail
      go_ret
      exact ⟨rfl, hb⟩
end Go.Proofs.Ytmnijhjlindfbab
