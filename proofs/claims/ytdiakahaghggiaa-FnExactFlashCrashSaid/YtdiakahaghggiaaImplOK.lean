/-
  The walk of impl.FlashOK.
-/
import Derived.Test.YtdiakahaghggiaaFlashOK
namespace Go.Proofs.Ytdiakahaghggiaa
open Go.RowKit

set_option maxHeartbeats 1000000 in
theorem implFlashOK_any (ah : Option Addr) (nh ch : Nat) (aw : Option Addr) (nw cw : Nat) (ws : List WD) (w : World) (hnh : nh ≤ maxLen) (hn : nw ≤ maxLen) (hr : WRow w aw nw ws) :
    Calls Try.prog 11 #[fv ah nh ch aw nw cw] w fun e w' => e = .returned (.bool (okD nh ws)) ∧ Below w.heap.size w w' := by
  have L := hide hr.1
  have R := hide hr.2
  clear hr
  unfold maxLen at hnh hn
  have t1 : ∀ x : Nat, (x : Int).tmod 16 = ((x % 16 : Nat) : Int) := fun x => by rw [Int.tmod_eq_emod_of_nonneg (by omega)]; omega
  have B0 : ∀ o, Below w.heap.size w (w.alloc o) := fun o => (Below.refl _ _).alloc (Nat.le_refl _) _
  by_cases h1 : nh % 16 = 0
  · have q1 : ((nh : Int).tmod 16 != 0) = false := by rw [t1, h1]; rfl
    by_cases h2 : nh ≤ 2048
    · have q2 : decide ((2048 : Int) < (nh : Int)) = false := by simp; omega
      by_cases h3 : nw ≤ 4096
      · have q3 : decide ((4096 : Int) < (nw : Int)) = false := by simp; omega
        have hF := hide (okD_all (ws := ws) (nh := nh) ⟨h1, h2, by rw [unhide L]; exact h3⟩)
        clear t1
        go_enter Try.func11, Try.ntmps11
        go_wp2_with fail
        go_loopw [25] (fun i wr => ∃ k : Nat, k ≤ nw ∧ i = .int .i64 k ∧ Hid (∀ i (hi : i < ws.length), i < k → okW ws[i] = true) ∧ Below w.heap.size w wr) (fun i _ => nw - (intOf i).toNat)
        case atStart => exact ⟨0, Nat.zero_le _, rfl, fun i _ hi => absurd hi (Nat.not_lt_zero _), B0 _⟩
        case round =>
          clear B0
          obtain ⟨k, hk, rfl, hA, hb⟩ := hrel
          by_cases hlt2 : k < nw
          · have hk2 : k < ws.length := by rw [unhide L]; exact hlt2
            obtain ⟨b, off, rfl, e0, a', c', e1, hm, _⟩ := unhide R k hk2
            have hbl : b < w.heap.size := cell_lt e0
            have d0 := (hb.cell (p := ⟨b, off + k * 2, none⟩) hbl).trans e0
            have d1 := (hb.cell (p := ⟨b, off + k * 2 + 1, none⟩) hbl).trans e1
            clear e0 e1
            replace hm := hm.1
            unfold maxLen at hm
            have hS := hide (fun (hx : okW ws[k] = true) i (hi : i < ws.length) (h : i < k + 1) => show okW ws[i] = true from if e : i = k then by subst e; exact hx else unhide hA i hi (by omega))
            have hN := hide (fun (hx : okW ws[k] = false) => (unhide hF).trans (not_all hk2 hx))
            clear hA
            generalize ws[k] = pd at *
            have hsz := hb.size
            by_cases h16 : pd.xs.length = 16
            · have q : ((pd.xs.length : Int) != 16) = false := by rw [h16]; rfl
              by_cases hin : 0 ≤ pd.at_ ∧ pd.at_ ≤ 127
              · have hS2 := hide (unhide hS (by unfold okW; exact decide_eq_true ⟨hin.1, hin.2, h16⟩))
                clear hS hN
                go_wp2_with fail
                refine (sectorNumberOK_any pd.at_ _).mono ?_
                rintro e w2 ⟨rfl, rfl⟩
                rw [decide_eq_true hin]
                go_wp2_with fail
                go_roundw
                case rel => exact ⟨k + 1, by omega, by go_num, unhide hS2, hb.alloc hsz _⟩
                case measure => simp [intOf]; omega
              · have hN2 := hide (unhide hN (by unfold okW; exact decide_eq_false (fun h => hin ⟨h.1, h.2.1⟩)))
                clear hS hN
                go_wp2_with fail
                refine (sectorNumberOK_any pd.at_ _).mono ?_
                rintro e w2 ⟨rfl, rfl⟩
                rw [decide_eq_false hin]
                go_wp2_with fail
                go_ret
                exact ⟨ret_bool (unhide hN2).symm, hb.alloc hsz _⟩
            · have q : ((pd.xs.length : Int) != 16) = true := by simp; omega
              have hN2 := hide (unhide hN (by unfold okW; exact decide_eq_false (fun h => h16 h.2.2)))
              clear hS hN
              go_wp2_with fail
              go_ret
              exact ⟨ret_bool (unhide hN2).symm, hb.alloc hsz _⟩
          · obtain rfl : k = nw := by omega
            have hT := hide ((unhide hF).trans (all_of fun i hi => unhide hA i hi (by rw [← unhide L]; exact hi)))
            go_wp2_with fail
            go_ret
            exact ⟨ret_bool (unhide hT).symm, hb⟩
      · have q3 : decide ((4096 : Int) < (nw : Int)) = true := by simp; omega
        have hF := hide (okD_bad (ws := ws) (nh := nh) (by rw [unhide L]; omega))
        clear t1
        go_enter Try.func11, Try.ntmps11
        go_wp2_with fail
        go_ret
        exact ⟨ret_bool (unhide hF).symm, B0 _⟩
    · have q2 : decide ((2048 : Int) < (nh : Int)) = true := by simp; omega
      have hF := hide (okD_bad (ws := ws) (nh := nh) (by omega))
      clear t1
      go_enter Try.func11, Try.ntmps11
      go_wp2_with fail
      go_ret
      exact ⟨ret_bool (unhide hF).symm, B0 _⟩
  · have q1 : ((nh : Int).tmod 16 != 0) = true := by rw [t1]; simp; omega
    have hF := hide (okD_bad (ws := ws) (nh := nh) (by omega))
    clear t1
    go_enter Try.func11, Try.ntmps11
    go_wp2_with fail
    go_ret
    exact ⟨ret_bool (unhide hF).symm, B0 _⟩
end Go.Proofs.Ytdiakahaghggiaa
