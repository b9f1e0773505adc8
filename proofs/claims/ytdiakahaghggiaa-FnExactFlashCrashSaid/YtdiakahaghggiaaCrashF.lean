/-
  What FlashCrash answers; the walk of spec.FlashCrash.
-/
import Derived.Test.YtdiakahaghggiaaCrashS
import Derived.Test.YtdiakahaghggiaaImplOK
namespace Go.Proofs.Ytdiakahaghggiaa
open Go.RowKit

/-- The code of a crash, and what is held behind it. -/
def fcC (xs : List Int) (ws : List WD) (ks : List Bool) (t : Int) : Int := if 4096 < ks.length then 2 else if okD xs.length ws = true then (if 0 ≤ t ∧ t ≤ 16 then 0 else 4) else 1
def fcH (xs : List Int) (ws : List WD) (ks : List Bool) (t : Int) : List Int := if fcC xs ws ks t = 0 then crashD xs ws ks t.toNat else []
theorem fc_long {xs : List Int} {ws : List WD} {ks : List Bool} {t : Int} (h : 4096 < ks.length) : fcC xs ws ks t = 2 ∧ fcH xs ws ks t = [] := by
  have e : fcC xs ws ks t = 2 := by unfold fcC; rw [if_pos h]
  exact ⟨e, by unfold fcH; rw [e]; rfl⟩
theorem fc_bad {xs : List Int} {ws : List WD} {ks : List Bool} {t : Int} (h : ¬ 4096 < ks.length) (h1 : okD xs.length ws = false) : fcC xs ws ks t = 1 ∧ fcH xs ws ks t = [] := by
  have e : fcC xs ws ks t = 1 := by unfold fcC; rw [if_neg h, h1]; rfl
  exact ⟨e, by unfold fcH; rw [e]; rfl⟩
theorem fc_range {xs : List Int} {ws : List WD} {ks : List Bool} {t : Int} (h : ¬ 4096 < ks.length) (h1 : okD xs.length ws = true) (h2 : ¬ (0 ≤ t ∧ t ≤ 16)) : fcC xs ws ks t = 4 ∧ fcH xs ws ks t = [] := by
  have e : fcC xs ws ks t = 4 := by unfold fcC; rw [if_neg h, h1, if_pos rfl, if_neg h2]
  exact ⟨e, by unfold fcH; rw [e]; rfl⟩
theorem fc_ok {xs : List Int} {ws : List WD} {ks : List Bool} {t : Nat} (h : ¬ 4096 < ks.length) (h1 : okD xs.length ws = true) (h2 : t ≤ 16) : fcC xs ws ks (t : Int) = 0 ∧ fcH xs ws ks (t : Int) = crashD xs ws ks t := by
  have e : fcC xs ws ks (t : Int) = 0 := by unfold fcC; rw [if_neg h, h1, if_pos rfl, if_pos (by omega)]
  exact ⟨e, by unfold fcH; rw [e, if_pos rfl]; simp⟩
theorem crB_len (l : List WD) (t : Nat) (ht : t ≤ 16) (hall : ∀ d ∈ l, okW d = true) (b : List Int) (hb : b.length ≤ 2048) (h16 : b.length % 16 = 0) : (crB b l t).length ≤ 2048 := by
  rcases List.eq_nil_or_concat l with rfl | ⟨K, d, rfl⟩
  · rw [crB_nil]; exact hb
  · rw [List.concat_eq_append] at hall ⊢
    rw [crB_snoc]
    obtain ⟨n, s, rfl, hn, hs⟩ := okW_shape (hall d (by simp))
    rw [putD_len _ _ _ hs ht]
    have := readD_bounds b K h16 hb (fun d hd => hall d (by simp [hd]))
    simp
    omega
theorem fcH_len (xs : List Int) (ws : List WD) (ks : List Bool) (t : Int) : (fcH xs ws ks t).length ≤ 2048 := by
  unfold fcH
  split
  · rename_i h
    unfold fcC at h
    split at h
    · cases h
    · split at h
      · rename_i ho
        split at h
        · rename_i ht
          obtain ⟨k1, k2, k3, k4⟩ := okD_parts ho
          exact crB_len _ _ (by omega) (fun d hd => k4 d (keptD_mem _ _ d hd)) xs k2 k1
        · cases h
      · cases h
  · simp
set_option maxRecDepth 100000 in
set_option maxHeartbeats 2000000 in
theorem specFlashCrash_any (b off n c : Nat) (aw : Option Addr) (nw cw : Nat) (ak : Option Addr) (nk ck : Nat) (ks : List Bool) (t : Int) (xs : List Int) (ws : List WD) (w : World) (hR : Row w (some ⟨b, off, none⟩) n xs) (hW : WRow w aw nw ws) (hK : BRow w ak nk ks) (hn : n ≤ 1048576) (hnw : nw ≤ 1048576) (hnk : nk ≤ 1048576) :
    Calls Try.prog 19 #[fv (some ⟨b, off, none⟩) n c aw nw cw, .slice ak nk ck, .int .i64 t] w fun e w' => ∃ a cap, e = .returned (.tuple #[fv a (fcH xs ws ks t).length cap none 0 0, .int .i64 (fcC xs ws ks t)]) ∧ Mine w' w.heap.size (.slice a (fcH xs ws ks t).length cap) (fcH xs ws ks t) ∧ Below w.heap.size w w' := by
  have hxl := hR.1
  have hkl := hK.1
  have hwl := hW.1
  have b0 : ∀ o1 o2, Below w.heap.size w ((w.alloc o1).alloc o2) := fun o1 o2 => ((Below.refl _ _).alloc (Nat.le_refl _) _).alloc (by simp) _
  by_cases hlong : 4096 < nk
  · have HE := hide (fc_long (xs := xs) (ws := ws) (ks := ks) (t := t) (by omega))
    clear hR hW hK hxl hkl
    go_enter Try.func19, Try.ntmps19
    go_wp2_with fail
    refine bodyPost_ret (v := .tuple #[fv none 0 0 none 0 0, .int .i64 2]) (by simp [results, Try.results19, go_sem]) rfl ⟨none, 0, by rw [(unhide HE).1, (unhide HE).2]; rfl, by rw [(unhide HE).2]; exact mine_nil _ _, b0 _ _⟩
  have HW := hide (fun o1 o2 => hW.below (b0 o1 o2))
  have HR := hide (fun o1 o2 => row_grow hR (b0 o1 o2))
  have HK := hide (fun o1 o2 => hK.grow (b0 o1 o2))
  have B0 := hide b0
  have hlk : ¬ 4096 < ks.length := by omega
  have HOK := hide (fun o1 o2 => specFlashOK_any (some ⟨b, off, none⟩) n c aw nw cw ws ((w.alloc o1).alloc o2) (by unfold maxLen; omega) (by unfold maxLen; omega) (unhide HW o1 o2))
  clear hR hW hK b0
  go_enter Try.func19, Try.ntmps19
  go_wp2_with fail
  have x0 : ∀ o, ((w.alloc (.cells #[.slice (some ⟨b, off, none⟩) n c, .slice aw nw cw] 30)).alloc o).cell? ⟨w.heap.size, 0, none⟩ = some (.slice (some ⟨b, off, none⟩) n c) := fun o => (cell_old (by simp)).trans ((cell_new rfl).trans rfl)
  have x1 : ∀ o, ((w.alloc (.cells #[.slice (some ⟨b, off, none⟩) n c, .slice aw nw cw] 30)).alloc o).cell? ⟨w.heap.size, 1, none⟩ = some (.slice aw nw cw) := fun o => (cell_old (by simp)).trans ((cell_new rfl).trans rfl)
  refine (unhide HOK _ _).mono ?_
  rintro e w1 ⟨rfl, hb1⟩
  have hz : ∀ o1 o2, ((w.alloc o1).alloc o2).heap.size = w.heap.size + 1 + 1 := fun o1 o2 => by simp
  have W1 := hide ((unhide HW _ _).below hb1)
  have R1 := hide (row_grow (unhide HR _ _) hb1)
  have K1 := hide ((unhide HK _ _).grow hb1)
  have B1 := (unhide B0 _ _).trans (hb1.mono (by rw [hz]; omega))
  have hs1 := hb1.size
  rw [hz] at hs1 hb1
  have y0 := (hb1.cell (p := ⟨w.heap.size, 0, none⟩) (by simp; omega)).trans (x0 _)
  have y1 := (hb1.cell (p := ⟨w.heap.size, 1, none⟩) (by simp; omega)).trans (x1 _)
  have r0 : w1.cell? ⟨w.heap.size + 1, 0, none⟩ = some (.slice none 0 0) := (hb1.cell (p := ⟨w.heap.size + 1, 0, none⟩) (by simp)).trans ((cell_new (by simp)).trans rfl)
  have r1 : w1.cell? ⟨w.heap.size + 1, 1, none⟩ = some (.slice none 0 0) := (hb1.cell (p := ⟨w.heap.size + 1, 1, none⟩) (by simp)).trans ((cell_new (by simp)).trans rfl)
  have f0 : w1.frozen? ⟨w.heap.size + 1, 0, none⟩ = false := (hb1.frozen (p := ⟨w.heap.size + 1, 0, none⟩) (by simp)).trans (frozen_new (by simp))
  have f1 : w1.frozen? ⟨w.heap.size + 1, 1, none⟩ = false := (hb1.frozen (p := ⟨w.heap.size + 1, 1, none⟩) (by simp)).trans (frozen_new (by simp))
  clear hb1 HW HR HK x0 x1 hz B0 HOK
  have BE := hide ((B1.setCell (p := ⟨w.heap.size + 1, 0, none⟩) (by simp) (.slice none 0 0)).setCell (p := ⟨w.heap.size + 1, 1, none⟩) (by simp) (.slice none 0 0))
  by_cases ho : okD n ws = true
  · rw [ho]
    obtain ⟨k1, k2, k3, k4⟩ := okD_parts ho
    by_cases hrg : 0 ≤ t ∧ t ≤ 16
    · obtain ⟨tn, rfl⟩ : ∃ tn : Nat, t = (tn : Int) := ⟨t.toNat, by omega⟩
      have HE := hide (fc_ok (xs := xs) (ws := ws) (ks := ks) (t := tn) hlk (by rw [hxl]; exact ho) (by omega))
      have HP := hide (fun c => l02Crash_any b off n c aw nw cw ak nk ck ks xs ws tn w1 (unhide R1) (unhide W1) (unhide K1) k2 k1 (by omega) (by omega) k4 (by omega))
      have HI := hide (l01In_f (tn : Int) 0 16)
      have hd0 : (decide ((0 : Int) ≤ (tn : Int)) && decide ((tn : Int) ≤ 16)) = true := by simp; omega
      rw [hd0] at HI
      clear k1 k2 k3 k4 ho hd0
      go_wp2_with fail
      refine (unhide HI _).mono ?_
      rintro e w2 ⟨rfl, rfl⟩
      go_wp2_with fail
      refine (unhide HP _).mono ?_
      rintro e w3 ⟨g, cap, rfl, hO, hb3⟩
      have r0 := (hb3.cell (p := ⟨w.heap.size + 1, 0, none⟩) (show w.heap.size + 1 < w2.heap.size by omega)).trans r0
      have r1 := (hb3.cell (p := ⟨w.heap.size + 1, 1, none⟩) (show w.heap.size + 1 < w2.heap.size by omega)).trans r1
      have f0 := (hb3.frozen (p := ⟨w.heap.size + 1, 0, none⟩) (show w.heap.size + 1 < w2.heap.size by omega)).trans f0
      have f1 := (hb3.frozen (p := ⟨w.heap.size + 1, 1, none⟩) (show w.heap.size + 1 < w2.heap.size by omega)).trans f1
      have O3 := hide hO
      have B3 := B1.trans (hb3.mono (by omega))
      have hl3 : w.heap.size + 1 < w3.heap.size := Nat.lt_of_lt_of_le (by omega) hb3.size
      clear hb3 hO HP y0 y1
      generalize crashD xs ws ks tn = zs at *
      go_wp2_with fail
      have R1' := hide (mine_of_owns (owns_set (owns_set (unhide O3) (show w.heap.size + 1 < w2.heap.size by omega) 0 (.slice (some ⟨g, 0, none⟩) zs.length cap)) (show w.heap.size + 1 < w2.heap.size by omega) 1 (.slice none 0 0)))
      have R2' := hide ((B3.setCell (p := ⟨w.heap.size + 1, 0, none⟩) (by simp) (.slice (some ⟨g, 0, none⟩) zs.length cap)).setCell (p := ⟨w.heap.size + 1, 1, none⟩) (by simp) (.slice none 0 0))
      refine bodyPost_ret (v := .tuple #[fv (some ⟨g, 0, none⟩) zs.length cap none 0 0, .int .i64 0]) (by simp [results, Try.results19, go_sem, r0, r1]) rfl ⟨some ⟨g, 0, none⟩, cap, by rw [(unhide HE).1, (unhide HE).2], by rw [(unhide HE).2]; exact mine_mono (unhide R1') (by omega), unhide R2'⟩
    · have HE := hide (fc_range (xs := xs) (ws := ws) (ks := ks) (t := t) hlk (by rw [hxl]; exact ho) hrg)
      have HI := hide (l01In_f t 0 16)
      have hd0 : (decide ((0 : Int) ≤ t) && decide (t ≤ 16)) = false := by rw [← Bool.decide_and]; exact decide_eq_false hrg
      rw [hd0] at HI
      clear k1 k2 k3 k4 ho hd0
      go_wp2_with fail
      refine (unhide HI _).mono ?_
      rintro e w2 ⟨rfl, rfl⟩
      go_wp2_with fail
      refine bodyPost_ret (v := .tuple #[fv none 0 0 none 0 0, .int .i64 4]) (by simp [results, Try.results19, go_sem, r0, r1]) rfl ⟨none, 0, by rw [(unhide HE).1, (unhide HE).2]; rfl, by rw [(unhide HE).2]; exact mine_nil _ _, ?_⟩
      first | exact unhide BE | exact B1
  · have ho : okD n ws = false := by simpa using ho
    rw [ho]
    have HE := hide (fc_bad (xs := xs) (ws := ws) (ks := ks) (t := t) hlk (by rw [hxl]; exact ho))
    clear ho
    go_wp2_with fail
    refine bodyPost_ret (v := .tuple #[fv none 0 0 none 0 0, .int .i64 1]) (by simp [results, Try.results19, go_sem, r0, r1]) rfl ⟨none, 0, by rw [(unhide HE).1, (unhide HE).2]; rfl, by rw [(unhide HE).2]; exact mine_nil _ _, ?_⟩
    first | exact unhide BE | exact B1
end Go.Proofs.Ytdiakahaghggiaa
