/-
  The walks of szByteS, szWrite, szWriteS, szFlash, toWrite, toWriteS and toFlash.
-/
import Derived.Test.YtdiakahaghggiaaFlashD
import Derived.Test.YtdiakahaghggiaaTo
namespace Go.Proofs.Ytdiakahaghggiaa
open Go.RowKit

theorem szByteS_any (a : Option Addr) (n c : Nat) (left : Int) (w : World) (h0 : 0 ≤ left) (h1 : left ≤ 1048576) (hn : n ≤ maxLen) :
    Calls Try.prog 34 #[.slice a n c, .int .i64 left] w fun e w' => ∃ r : Int, e = .returned (.int .i64 r) ∧ (r = -1 ∨ (0 ≤ r ∧ r ≤ left ∧ (n : Int) ≤ left)) ∧ w' = w := by
  unfold maxLen at hn
  by_cases h : left - n < 0
  · go_enter Try.func34, Try.ntmps34
    go_wp2_with fail
    go_ret
    exact ⟨_, rfl, .inl rfl, rfl⟩
  · have hge : 0 ≤ left - n := by omega
    go_enter Try.func34, Try.ntmps34
    go_wp2_with fail
    go_ret
    exact ⟨_, rfl, .inr ⟨hge, by omega, by omega⟩, rfl⟩

theorem szWrite_any (x : Int) (a : Option Addr) (n c : Nat) (left : Int) (w : World) (h0 : 0 ≤ left) (h1 : left ≤ 1048576) (hn : n ≤ maxLen) :
    Calls Try.prog 55 #[wv x a n c, .int .i64 left] w fun e w' => ∃ r : Int, e = .returned (.int .i64 r) ∧ (r = -1 ∨ (0 ≤ r ∧ r ≤ left ∧ (n : Int) ≤ left)) ∧ Below w.heap.size w w' := by
  go_enter Try.func55, Try.ntmps55
  go_wp2_with fail
  refine (szByteS_any a n c left _ h0 h1 hn).mono ?_
  rintro e w1 ⟨r, rfl, hr, rfl⟩
  rcases hr with rfl | ⟨r0, r1, r2⟩
  · go_wp2_with fail
    go_ret
    exact ⟨-1, rfl, .inl rfl, (Below.refl _ _).alloc (Nat.le_refl _) _⟩
  · go_wp2_with fail
    go_ret
    exact ⟨r, rfl, .inr ⟨r0, r1, r2⟩, (Below.refl _ _).alloc (Nat.le_refl _) _⟩

set_option maxHeartbeats 1000000 in
theorem szWriteS_any (a : Option Addr) (n c : Nat) (ws : List WD) (left : Int) (w : World) (h0 : 0 ≤ left) (h1 : left ≤ 1048576) (hr : WRow w a n ws) (hn : n ≤ maxLen) :
    Calls Try.prog 35 #[.slice a n c, .int .i64 left] w fun e w' => ∃ r : Int, e = .returned (.int .i64 r) ∧ (r = -1 ∨ (0 ≤ r ∧ r ≤ left ∧ (n : Int) ≤ left ∧ ∀ i (hi : i < ws.length), (ws[i].xs.length : Int) ≤ left)) ∧ Below w.heap.size w w' := by
  unfold maxLen at hn
  have L := hide hr.1
  have R := hide hr.2
  clear hr
  by_cases hb : left - n < 0
  · go_enter Try.func35, Try.ntmps35
    go_wp2_with fail
    go_ret
    exact ⟨-1, rfl, .inl rfl, Below.refl _ _⟩
  have hb' : 0 ≤ left - n := by omega
  go_enter Try.func35, Try.ntmps35
  go_wp2_with fail
  go_loopw [1, 5] (fun l i wr => ∃ k : Nat, k ≤ n ∧ i = .int .i64 k ∧ ∃ q : Int, l = .int .i64 q ∧ 0 ≤ q ∧ q ≤ left - n ∧ Hid (∀ i (hi : i < ws.length), i < k → (ws[i].xs.length : Int) ≤ left) ∧ Below w.heap.size w wr) (fun _ i _ => n - (intOf i).toNat)
  case atStart => exact ⟨0, by omega, rfl, _, rfl, by omega, by omega, fun i _ hi => absurd hi (Nat.not_lt_zero _), Below.refl _ _⟩
  case round =>
    obtain ⟨k, hk, rfl, q, rfl, hq0, hq1, hA, hbel⟩ := hrel
    by_cases hlt : k < n
    · have hk2 : k < ws.length := by rw [unhide L]; exact hlt
      obtain ⟨b, off, rfl, c0, a', c', c1, hm, _⟩ := unhide R k hk2
      have hsz := hbel.size
      have hbl : b < w.heap.size := cell_lt c0
      have d0 := (hbel.cell (p := ⟨b, off + k * 2, none⟩) hbl).trans c0
      have d1 := (hbel.cell (p := ⟨b, off + k * 2 + 1, none⟩) hbl).trans c1
      have hS := hide (fun (hx : (ws[k].xs.length : Int) ≤ left) i (hi : i < ws.length) (h : i < k + 1) => show (ws[i].xs.length : Int) ≤ left from if e : i = k then by subst e; exact hx else unhide hA i hi (by omega))
      clear c0 c1 hA
      generalize ws[k] = pd at *
      go_wp2_with fail
      refine (szWrite_any pd.at_ a' pd.xs.length c' q wr hq0 (by omega) hm.1).mono ?_
      rintro e w1 ⟨r, rfl, hr, hb1⟩
      have bA := hbel.trans (hb1.mono hsz)
      clear hbel hb1 d0 d1
      rcases hr with rfl | ⟨r0, r1, r2⟩
      · go_wp2_with fail
        go_ret
        exact ⟨-1, rfl, .inl rfl, bA⟩
      · have hS2 := hide (unhide hS (by omega))
        clear hS
        go_wp2_with fail
        go_roundw
        case rel => exact ⟨k + 1, by omega, by go_num, r, rfl, r0, by omega, unhide hS2, bA⟩
        case measure => simp [intOf]; omega
    · obtain rfl : k = n := by omega
      go_wp2_with fail
      go_ret
      exact ⟨q, rfl, .inr ⟨hq0, by omega, by omega, fun i hi => unhide hA i hi (by rw [← unhide L]; exact hi)⟩, hbel⟩

theorem szFlash_any (ah : Option Addr) (nh ch : Nat) (aw : Option Addr) (nw cw : Nat) (ws : List WD) (left : Int) (w : World) (h0 : 0 ≤ left) (h1 : left ≤ 1048576) (hnh : nh ≤ maxLen) (hr : WRow w aw nw ws) (hn : nw ≤ maxLen) :
    Calls Try.prog 8 #[fv ah nh ch aw nw cw, .int .i64 left] w fun e w' => ∃ r : Int, e = .returned (.int .i64 r) ∧ (r = -1 ∨ (0 ≤ r ∧ r ≤ left ∧ (nh : Int) ≤ left ∧ (nw : Int) ≤ left ∧ ∀ i (hi : i < ws.length), (ws[i].xs.length : Int) ≤ left)) ∧ Below w.heap.size w w' := by
  have R := hide fun o => hr.below ((Below.refl _ _).alloc (Nat.le_refl _) o)
  clear hr
  go_enter Try.func8, Try.ntmps8
  go_wp2_with fail
  refine (szByteS_any ah nh ch left _ h0 h1 hnh).mono ?_
  rintro e w1 ⟨r, rfl, hr, rfl⟩
  rcases hr with rfl | ⟨r0, r1, r2⟩
  · go_wp2_with fail
    go_ret
    exact ⟨-1, rfl, .inl rfl, (Below.refl _ _).alloc (Nat.le_refl _) _⟩
  · go_wp2_with fail
    refine (szWriteS_any aw nw cw ws r _ r0 (by omega) (unhide R _) hn).mono ?_
    rintro e w2 ⟨r', rfl, hr', hb⟩
    have hb2 : Below w.heap.size w w2 := ((Below.refl _ _).alloc (Nat.le_refl _) _).trans (hb.mono (by simp))
    clear hb
    rcases hr' with rfl | ⟨q0, q1, q2, q3⟩
    · go_wp2_with fail
      go_ret
      exact ⟨-1, rfl, .inl rfl, hb2⟩
    · have Q := hide q3
      clear q3
      go_wp2_with fail
      go_ret
      exact ⟨r', rfl, .inr ⟨q0, by omega, r2, by omega, fun i hi => by have := unhide Q i hi; omega⟩, hb2⟩

set_option maxHeartbeats 1000000 in
theorem toWrite_any (d : WD) (a : Option Addr) (c : Nat) (w : World) (hn : d.xs.length ≤ 1048576) (h1 : Row w a d.xs.length d.xs) :
    Calls Try.prog 56 #[wv d.at_ a d.xs.length c] w fun e w' => ∃ a' c', e = .returned (wv d.at_ a' d.xs.length c') ∧ Mine w' w.heap.size (.slice a' d.xs.length c') d.xs ∧ Below w.heap.size w w' := by
  have R := hide fun o1 o2 o3 => row_alloc (o := o3) (row_alloc (o := o2) (row_alloc (o := o1) h1))
  clear h1
  obtain ⟨x, xs⟩ := d
  go_enter Try.func56, Try.ntmps56
  go_wp2_with fail
  refine (toByteS_any a xs.length c xs _ hn (unhide R _ _ _)).mono ?_
  clear R
  rintro e w1 ⟨v, rfl, hm, hb⟩
  obtain ⟨a', c', rfl, m1, m2, m3, m4⟩ := hm
  have hs := hb.size
  simp at hs
  have hM := hide (show Mine w1 w.heap.size (.slice a' xs.length c') xs from ⟨a', c', rfl, m1, m2, m3, fun x hx => ⟨by have := (m4 x hx).1; simp at this; omega, (m4 x hx).2⟩⟩)
  have hN := hide (show ∀ x, a' = some x → w.heap.size + 1 + 1 + 1 ≤ x.block from fun x hx => by have := (m4 x hx).1; simpa using this)
  clear m1 m2 m3 m4
  have d0 : w1.cell? ⟨w.heap.size + 1 + 1, 0, none⟩ = some (.int .i64 x) := (hb.cell (p := ⟨w.heap.size + 1 + 1, 0, none⟩) (by simp)).trans ((cell_new (by simp)).trans rfl)
  have d1 : w1.cell? ⟨w.heap.size + 1 + 1, 1, none⟩ = some (.slice none 0 0) := (hb.cell (p := ⟨w.heap.size + 1 + 1, 1, none⟩) (by simp)).trans ((cell_new (by simp)).trans rfl)
  have f1 : w1.frozen? ⟨w.heap.size + 1 + 1, 1, none⟩ = false := (hb.frozen (p := ⟨w.heap.size + 1 + 1, 1, none⟩) (by simp)).trans (frozen_new (by simp))
  have g0 : w1.cell? ⟨w.heap.size + 1, 0, none⟩ = some (.int .i64 0) := (hb.cell (p := ⟨w.heap.size + 1, 0, none⟩) (by simp)).trans ((cell_old (by simp)).trans ((cell_new (by simp)).trans rfl))
  have g1 : w1.cell? ⟨w.heap.size + 1, 1, none⟩ = some (.slice none 0 0) := (hb.cell (p := ⟨w.heap.size + 1, 1, none⟩) (by simp)).trans ((cell_old (by simp)).trans ((cell_new (by simp)).trans rfl))
  have e0 : w1.frozen? ⟨w.heap.size + 1, 0, none⟩ = false := (hb.frozen (p := ⟨w.heap.size + 1, 0, none⟩) (by simp)).trans ((frozen_old (by simp)).trans (frozen_new (by simp)))
  have e1 : w1.frozen? ⟨w.heap.size + 1, 1, none⟩ = false := (hb.frozen (p := ⟨w.heap.size + 1, 1, none⟩) (by simp)).trans ((frozen_old (by simp)).trans (frozen_new (by simp)))
  have BB := hide ((((((Below.refl w.heap.size w).alloc (Nat.le_refl _) _).alloc (by simp) _).alloc (by simp; omega) _).trans (hb.mono (by simp; omega))))
  clear hb
  go_wp2_with fail
  have B3 := hide ((((unhide BB).setCell (p := ⟨w.heap.size + 1 + 1, 1, none⟩) (by simp; omega) (.slice a' xs.length c')).setCell (p := ⟨w.heap.size + 1, 0, none⟩) (by simp) (.int .i64 x)).setCell (p := ⟨w.heap.size + 1, 1, none⟩) (by simp) (.slice a' xs.length c'))
  have hlt : w.heap.size + 1 < w1.heap.size := by omega
  refine bodyPost_ret (v := wv x a' xs.length c') (by simp [results, Try.results56, go_sem, g0, g1]) rfl ⟨a', c', rfl, ?_, unhide B3⟩
  obtain ⟨a1, c1, e, m1, m2, m3, m4⟩ := unhide hM
  injection e with e1 _ e3
  subst e1 e3
  refine ⟨a', c', rfl, m1, m2, m3.of_cells fun y hy p hp => ?_, fun y hy => ⟨(m4 y hy).1, by simpa using (m4 y hy).2.1, fun j => by simpa using (m4 y hy).2.2 j⟩⟩
  have := unhide hN y hy
  rw [World.cell?_setCell_other _ _ _ _ (by intro e; rw [← e] at hp; simp at hp; omega), World.cell?_setCell_other _ _ _ _ (by intro e; rw [← e] at hp; simp at hp; omega), World.cell?_setCell_other _ _ _ _ (by intro e; rw [← e] at hp; simp at hp; omega)]
end Go.Proofs.Ytdiakahaghggiaa
