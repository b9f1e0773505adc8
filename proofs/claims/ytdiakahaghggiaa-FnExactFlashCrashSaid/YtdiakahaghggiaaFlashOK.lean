/-
  The walks of l02Size, sectorNumberOK and of both FlashOK.
-/
import Derived.Test.YtdiakahaghggiaaFlashD
import Derived.Deep.RegionWith
namespace Go.Proofs.Ytdiakahaghggiaa
open Go.RowKit

def okW (d : WD) : Bool := decide (0 ≤ d.at_ ∧ d.at_ ≤ 127 ∧ d.xs.length = 16)
def okD (nh : Nat) (ws : List WD) : Bool := decide (nh % 16 = 0 ∧ nh ≤ 2048 ∧ ws.length ≤ 4096) && ws.all okW
theorem okD_bad {nh : Nat} {ws : List WD} (h : ¬ (nh % 16 = 0 ∧ nh ≤ 2048 ∧ ws.length ≤ 4096)) : okD nh ws = false := by unfold okD; rw [decide_eq_false h]; rfl
theorem okD_all {nh : Nat} {ws : List WD} (h : nh % 16 = 0 ∧ nh ≤ 2048 ∧ ws.length ≤ 4096) : okD nh ws = ws.all okW := by unfold okD; rw [decide_eq_true h]; rfl
theorem all_of {ws : List WD} (h : ∀ i (hi : i < ws.length), okW ws[i] = true) : ws.all okW = true := by
  rw [List.all_eq_true]
  intro x hx
  obtain ⟨i, hi, rfl⟩ := List.mem_iff_getElem.1 hx
  exact h i hi
theorem not_all {ws : List WD} {k : Nat} (hk : k < ws.length) (h : okW ws[k] = false) : ws.all okW = false := by
  rw [List.all_eq_false]
  exact ⟨_, List.getElem_mem hk, by simp [h]⟩
theorem l01In_f (p lo hi : Int) (w : World) : Calls Try.prog 37 #[.int .i64 p, .int .i64 lo, .int .i64 hi] w fun e w' => e = .returned (.bool (decide (lo ≤ p) && decide (p ≤ hi))) ∧ w' = w := by
  go_enter Try.func37, Try.ntmps37
  go_wp2_with fail
  all_goals go_ret
  all_goals exact ⟨ret_bool (by simp_all; try omega), rfl⟩
theorem l02Size_any (w : World) : Calls Try.prog 36 #[] w fun e w' => e = .returned (.int .i64 2048) ∧ w' = w := by
  go_enter Try.func36, Try.ntmps36
  go_wp2_with fail
  go_ret
  exact ⟨rfl, rfl⟩
theorem sectorNumberOK_any (p : Int) (w : World) : Calls Try.prog 39 #[.int .i64 p] w fun e w' => e = .returned (.bool (decide (0 ≤ p ∧ p ≤ 127))) ∧ w' = w := by
  by_cases h : 0 ≤ p ∧ p ≤ 127
  · have h1 := h.1
    have h2 : p < 128 := by omega
    go_enter Try.func39, Try.ntmps39
    go_wp2_with fail
    go_ret
    exact ⟨ret_bool (by simp [h]), rfl⟩
  · by_cases h1 : 0 ≤ p
    · have h2 : ¬ p < 128 := by omega
      go_enter Try.func39, Try.ntmps39
      go_wp2_with fail
      go_ret
      exact ⟨ret_bool (by simp; omega), rfl⟩
    · go_enter Try.func39, Try.ntmps39
      go_wp2_with fail
      go_ret
      exact ⟨ret_bool (by simp), rfl⟩

set_option maxHeartbeats 1000000 in
theorem specFlashOK_any (ah : Option Addr) (nh ch : Nat) (aw : Option Addr) (nw cw : Nat) (ws : List WD) (w : World) (hnh : nh ≤ maxLen) (hn : nw ≤ maxLen) (hr : WRow w aw nw ws) :
    Calls Try.prog 9 #[fv ah nh ch aw nw cw] w fun e w' => e = .returned (.bool (okD nh ws)) ∧ Below w.heap.size w w' := by
  have L := hide hr.1
  have R := hide hr.2
  clear hr
  unfold maxLen at hnh hn
  have t1 : ∀ x : Nat, (x : Int).tmod 16 = ((x % 16 : Nat) : Int) := fun x => by rw [Int.tmod_eq_emod_of_nonneg (by omega)]; omega
  have B0 : ∀ o n, Below w.heap.size w ((w.alloc o).drewN n) := fun o n => bel_drewN ((Below.refl _ _).alloc (Nat.le_refl _) _) _
  by_cases h1 : nh % 16 = 0
  · have q1 : ((nh : Int).tmod 16 != 0) = false := by rw [t1, h1]; rfl
    by_cases h2 : nh ≤ 2048
    · have q2 : decide ((2048 : Int) < (nh : Int)) = false := by simp; omega
      by_cases h3 : nw ≤ 4096
      · have q3 : decide ((4096 : Int) < (nw : Int)) = false := by simp; omega
        have hF := hide (okD_all (ws := ws) (nh := nh) ⟨h1, h2, by rw [unhide L]; exact h3⟩)
        clear t1
        go_enter Try.func9, Try.ntmps9
        go_wp2_with fail
        go_quiet ((go_at_call 36; exact Calls.quiet_of_same (l02Size_any _)))
        have c0 : ((w.alloc (.cells #[.slice ah nh ch, .slice aw nw cw] 30)).drewN nq).cell? ⟨w.heap.size, 1, none⟩ = some (.slice aw nw cw) := by simp
        have hb := B0 (.cells #[.slice ah nh ch, .slice aw nw cw] 30) nq
        clear q1 q2 q3 B0
        generalize ((w.alloc (.cells #[.slice ah nh ch, .slice aw nw cw] 30)).drewN nq) = wx at *
        go_wp2_with fail
        go_loopw [3] (fun i wr => ∃ k : Nat, k ≤ nw ∧ i = .int .i64 k ∧ Hid (∀ i (hi : i < ws.length), i < k → okW ws[i] = true) ∧ ∃ d, wr = wx.drewN d) (fun i _ => nw - (intOf i).toNat)
        case atStart => exact ⟨0, Nat.zero_le _, rfl, fun i _ hi => absurd hi (Nat.not_lt_zero _), 0, rfl⟩
        case round =>
          obtain ⟨k, hk, rfl, hA, d, hwr⟩ := hrel
          have HWR := hide hwr
          have BR := hide (show Below w.heap.size w wr by rw [hwr]; exact bel_drewN hb d)
          have c1 : wr.cell? ⟨w.heap.size, 1, none⟩ = some (.slice aw nw cw) := by rw [hwr]; exact c0
          clear hwr c0
          by_cases hlt2 : k < nw
          · have hk2 : k < ws.length := by rw [unhide L]; exact hlt2
            obtain ⟨b, off, rfl, e0, a', c', e1, hm, _⟩ := unhide R k hk2
            have hbl : b < w.heap.size := cell_lt e0
            have d0 := ((unhide BR).cell (p := ⟨b, off + k * 2, none⟩) hbl).trans e0
            have d1 := ((unhide BR).cell (p := ⟨b, off + k * 2 + 1, none⟩) hbl).trans e1
            clear e0 e1
            replace hm := hm.1
            unfold maxLen at hm
            have hS := hide (fun (hx : okW ws[k] = true) i (hi : i < ws.length) (h : i < k + 1) => show okW ws[i] = true from if e : i = k then by subst e; exact hx else unhide hA i hi (by omega))
            have hN := hide (fun (hx : okW ws[k] = false) => (unhide hF).trans (not_all hk2 hx))
            clear hA
            generalize ws[k] = pd at *
            by_cases hin : 0 ≤ pd.at_ ∧ pd.at_ ≤ 127
            · have hI : ∀ w, Calls Try.prog 37 #[.int .i64 pd.at_, .int .i64 0, .int .i64 127] w fun e w' => e = .returned (.bool true) ∧ w' = w := fun w => by
                have := l01In_f pd.at_ 0 127 w
                rwa [decide_eq_true hin.1, decide_eq_true hin.2] at this
              by_cases h16 : pd.xs.length = 16
              · have q : ((pd.xs.length : Int) != 16) = false := by rw [h16]; rfl
                have hS2 := hide (unhide hS (by unfold okW; exact decide_eq_true ⟨hin.1, hin.2, h16⟩))
                clear hS hN
                go_wp2_with fail
                refine (hI _).mono ?_
                rintro e w2 ⟨rfl, rfl⟩
                go_wp2_with fail
                go_roundw
                case rel => exact ⟨k + 1, by omega, by go_num, unhide hS2, d, unhide HWR⟩
                case measure => simp [intOf]; omega
              · have q : ((pd.xs.length : Int) != 16) = true := by simp; omega
                have hN2 := hide (unhide hN (by unfold okW; exact decide_eq_false (fun h => h16 h.2.2)))
                clear hS hN
                go_wp2_with fail
                refine (hI _).mono ?_
                rintro e w2 ⟨rfl, rfl⟩
                go_wp2_with fail
                go_ret
                exact ⟨ret_bool (unhide hN2).symm, unhide BR⟩
            · have hI : ∀ w, Calls Try.prog 37 #[.int .i64 pd.at_, .int .i64 0, .int .i64 127] w fun e w' => e = .returned (.bool false) ∧ w' = w := fun w => by
                have := l01In_f pd.at_ 0 127 w
                have e : (decide (0 ≤ pd.at_) && decide (pd.at_ ≤ 127)) = false := by rw [Bool.and_eq_false_iff]; simp; omega
                rwa [e] at this
              have hN2 := hide (unhide hN (by unfold okW; exact decide_eq_false (fun h => hin ⟨h.1, h.2.1⟩)))
              clear hS hN
              go_wp2_with fail
              refine (hI _).mono ?_
              rintro e w2 ⟨rfl, rfl⟩
              go_wp2_with fail
              go_ret
              exact ⟨ret_bool (unhide hN2).symm, unhide BR⟩
          · obtain rfl : k = nw := by omega
            have hT := hide ((unhide hF).trans (all_of fun i hi => unhide hA i hi (by rw [← unhide L]; exact hi)))
            go_wp2_with fail
            go_ret
            exact ⟨ret_bool (unhide hT).symm, unhide BR⟩
      · have q3 : decide ((4096 : Int) < (nw : Int)) = true := by simp; omega
        have hF := hide (okD_bad (ws := ws) (nh := nh) (by rw [unhide L]; omega))
        clear t1
        go_enter Try.func9, Try.ntmps9
        go_wp2_with fail
        go_quiet ((go_at_call 36; exact Calls.quiet_of_same (l02Size_any _)))
        go_wp2_with fail
        go_ret
        exact ⟨ret_bool (unhide hF).symm, B0 _ _⟩
    · have q2 : decide ((2048 : Int) < (nh : Int)) = true := by simp; omega
      have hF := hide (okD_bad (ws := ws) (nh := nh) (by omega))
      clear t1
      go_enter Try.func9, Try.ntmps9
      go_wp2_with fail
      go_quiet ((go_at_call 36; exact Calls.quiet_of_same (l02Size_any _)))
      go_wp2_with fail
      go_ret
      exact ⟨ret_bool (unhide hF).symm, B0 _ _⟩
  · have q1 : ((nh : Int).tmod 16 != 0) = true := by rw [t1]; simp; omega
    have hF := hide (okD_bad (ws := ws) (nh := nh) (by omega))
    clear t1
    go_enter Try.func9, Try.ntmps9
    go_wp2_with fail
    go_quiet ((go_at_call 36; exact Calls.quiet_of_same (l02Size_any _)))
    go_wp2_with fail
    go_ret
    exact ⟨ret_bool (unhide hF).symm, B0 _ _⟩
end Go.Proofs.Ytdiakahaghggiaa
