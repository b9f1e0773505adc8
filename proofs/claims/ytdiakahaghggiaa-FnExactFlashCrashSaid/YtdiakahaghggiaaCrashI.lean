/-
  The walk of impl.FlashCrash.
-/
import Derived.Test.YtdiakahaghggiaaCrashF
import Derived.Test.YtdiakahaghggiaaCrash
import Derived.Test.YtdiakahaghggiaaFlash0
namespace Go.Proofs.Ytdiakahaghggiaa
open Go.RowKit Go.Maps

theorem mine_set {w : World} {B b : Nat} {v : Value} {xs : List Int} (h : Mine w B v xs) (hb : b < B) (o : Nat) (u : Value) : Mine (w.setCell ⟨b, o, none⟩ u) B v xs := by
  obtain ⟨a, c, e, h1, h2, h3, h4⟩ := h
  refine ⟨a, c, e, h1, h2, h3.of_cells fun x hx p hp => World.cell?_of_block (w := w) (Below.heap_setCell _ _ _ _ (by have := (h4 x hx).1; simp; omega)), fun x hx => ⟨(h4 x hx).1, by simpa [World.setCell] using (h4 x hx).2.1, fun j => by rw [World.frozen?_setCell]; exact (h4 x hx).2.2 j⟩⟩
set_option maxRecDepth 100000 in
set_option maxHeartbeats 2000000 in
theorem implFlashCrash_any (ah : Option Addr) (n c : Nat) (aw : Option Addr) (nw cw : Nat) (ak : Option Addr) (nk ck : Nat) (ks : List Bool) (t : Int) (xs : List Int) (ws : List WD) (w : World) (hR : Row w ah n xs) (hW : WRow w aw nw ws) (hK : BRow w ak nk ks) (hn : n ≤ 1048576) (hnw : nw ≤ 1048576) (hnk : nk ≤ 1048576) (hc : n ≤ c) (hc2 : c ≤ maxLen) :
    Calls Try.prog 21 #[fv ah n c aw nw cw, .slice ak nk ck, .int .i64 t] w fun e w' => ∃ a cap, e = .returned (.tuple #[fv a (fcH xs ws ks t).length cap none 0 0, .int .i64 (fcC xs ws ks t)]) ∧ Mine w' w.heap.size (.slice a (fcH xs ws ks t).length cap) (fcH xs ws ks t) ∧ Below w.heap.size w w' := by
  have hxl := hR.1
  have hkl := hK.1
  have hwl := hW.1
  have b0 : ∀ o1 o2, Below w.heap.size w ((w.alloc o1).alloc o2) := fun o1 o2 => ((Below.refl _ _).alloc (Nat.le_refl _) _).alloc (by simp) _
  by_cases hlong : 4096 < nk
  · have HE := hide (fc_long (xs := xs) (ws := ws) (ks := ks) (t := t) (by omega))
    clear hR hW hK hxl hkl
    go_enter Try.func21, Try.ntmps21
    go_wp2_with fail
    refine bodyPost_ret (v := .tuple #[fv none 0 0 none 0 0, .int .i64 2]) (by simp [results, Try.results21, go_sem]) rfl ⟨none, 0, by rw [(unhide HE).1, (unhide HE).2]; rfl, by rw [(unhide HE).2]; exact mine_nil _ _, b0 _ _⟩
  have HW := hide (fun o1 o2 => hW.below (b0 o1 o2))
  have HR := hide (fun o1 o2 => row_grow hR (b0 o1 o2))
  have HK := hide (fun o1 o2 => hK.grow (b0 o1 o2))
  have B0 := hide b0
  have hlk : ¬ 4096 < ks.length := by omega
  have HOK := hide (fun o1 o2 => implFlashOK_any ah n c aw nw cw ws ((w.alloc o1).alloc o2) (by unfold maxLen; omega) (by unfold maxLen; omega) (unhide HW o1 o2))
  clear hR hW hK b0
  go_enter Try.func21, Try.ntmps21
  go_wp2_with fail
  have x0 : ∀ o, ((w.alloc (.cells #[.slice ah n c, .slice aw nw cw] 30)).alloc o).cell? ⟨w.heap.size, 0, none⟩ = some (.slice ah n c) := fun o => (cell_old (by simp)).trans ((cell_new rfl).trans rfl)
  have x1 : ∀ o, ((w.alloc (.cells #[.slice ah n c, .slice aw nw cw] 30)).alloc o).cell? ⟨w.heap.size, 1, none⟩ = some (.slice aw nw cw) := fun o => (cell_old (by simp)).trans ((cell_new rfl).trans rfl)
  refine (unhide HOK _ _).mono ?_
  rintro e w1 ⟨rfl, hb1⟩
  have hz : ∀ o1 o2, ((w.alloc o1).alloc o2).heap.size = w.heap.size + 1 + 1 := fun o1 o2 => by simp
  have W1 := hide ((unhide HW _ _).below hb1)
  have R1 := hide (row_grow (unhide HR _ _) hb1)
  have K1 := hide ((unhide HK _ _).grow hb1)
  have B1 := (unhide B0 _ _).trans (hb1.mono (by rw [hz]; omega))
  have hs1 := hb1.size
  rw [hz] at hs1 hb1
  have y0 := (hb1.cell (p := ⟨w.heap.size, 0, none⟩) (by simp; omega)).trans (x0 _)
  have y1 := (hb1.cell (p := ⟨w.heap.size, 1, none⟩) (by simp; omega)).trans (x1 _)
  have r0 : w1.cell? ⟨w.heap.size + 1, 0, none⟩ = some (.slice none 0 0) := (hb1.cell (p := ⟨w.heap.size + 1, 0, none⟩) (by simp)).trans ((cell_new (by simp)).trans rfl)
  have r1 : w1.cell? ⟨w.heap.size + 1, 1, none⟩ = some (.slice none 0 0) := (hb1.cell (p := ⟨w.heap.size + 1, 1, none⟩) (by simp)).trans ((cell_new (by simp)).trans rfl)
  have f0 : w1.frozen? ⟨w.heap.size + 1, 0, none⟩ = false := (hb1.frozen (p := ⟨w.heap.size + 1, 0, none⟩) (by simp)).trans (frozen_new (by simp))
  have f1 : w1.frozen? ⟨w.heap.size + 1, 1, none⟩ = false := (hb1.frozen (p := ⟨w.heap.size + 1, 1, none⟩) (by simp)).trans (frozen_new (by simp))
  clear hb1 HW HR HK x0 x1 hz B0 HOK
  have BE := hide ((B1.setCell (p := ⟨w.heap.size + 1, 0, none⟩) (by simp) (.slice none 0 0)).setCell (p := ⟨w.heap.size + 1, 1, none⟩) (by simp) (.slice none 0 0))
  by_cases ho : okD n ws = true
  · rw [ho]
    obtain ⟨k1, k2, k3, k4⟩ := okD_parts ho
    by_cases hrg : 0 ≤ t ∧ t ≤ 16
    · obtain ⟨tn, rfl⟩ : ∃ tn : Nat, t = (tn : Int) := ⟨t.toNat, by omega⟩
      have HE := hide (fc_ok (xs := xs) (ws := ws) (ks := ks) (t := tn) hlk (by rw [hxl]; exact ho) (by omega))
      obtain ⟨m, hm⟩ : ∃ m, n = m * 16 := ⟨n / 16, by omega⟩
      have hP := deviceOf_any ah m c aw nw cw xs ws w1 (by rw [← hm]; exact unhide R1) (unhide W1) (by omega) hc2 (by omega) (by omega) (fun i hi => k4 _ (List.getElem_mem hi))
      rw [← hm] at hP
      have HP := hide hP
      have HQ := hide (show secBytes (devDS xs m ws).hc (devDS xs m ws).hf = xs by rw [(devDS_ws xs m ws).2.1, (devDS_ws xs m ws).2.2]; exact secBytes_secFn (by omega))
      have HW2 := hide (devDS_ws xs m ws).1
      clear k1 k2 k4 ho hP hm
      go_wp2_with fail
      refine (unhide HP).mono ?_
      rintro e w2 ⟨rfl, hD, hb2⟩
      have B2 := B1.trans (hb2.mono (by omega))
      have hs2 := hb2.size
      have r0 := (hb2.cell (p := ⟨w.heap.size + 1, 0, none⟩) (show w.heap.size + 1 < w1.heap.size by omega)).trans r0
      have r1 := (hb2.cell (p := ⟨w.heap.size + 1, 1, none⟩) (show w.heap.size + 1 < w1.heap.size by omega)).trans r1
      have f0 := (hb2.frozen (p := ⟨w.heap.size + 1, 0, none⟩) (show w.heap.size + 1 < w1.heap.size by omega)).trans f0
      have f1 := (hb2.frozen (p := ⟨w.heap.size + 1, 1, none⟩) (show w.heap.size + 1 < w1.heap.size by omega)).trans f1
      have HC := hide (crash_any w1.heap.size (w1.heap.size + 1 + 1) 5000 (devDS xs m ws) ak nk ck ks tn w2 hD (by omega) (by rw [unhide HW2]; omega) ((unhide K1).grow hb2) hnk (by omega))
      rw [unhide HQ, unhide HW2] at HC
      clear hb2 hD HP y0 y1 HQ HW2 B1 BE
      generalize w1.heap.size + 1 + 1 = dp at *
      go_wp2_with fail
      refine (unhide HC).mono ?_
      rintro e w3 ⟨rfl, ⟨S, hD3, hw3, hc3, _, _⟩, hb3⟩
      have B3 := B2.trans (hb3.mono (by omega))
      have hs3 := hb3.size
      have r0 := (hb3.cell (p := ⟨w.heap.size + 1, 0, none⟩) (show w.heap.size + 1 < w1.heap.size by omega)).trans r0
      have r1 := (hb3.cell (p := ⟨w.heap.size + 1, 1, none⟩) (show w.heap.size + 1 < w1.heap.size by omega)).trans r1
      have f0 := (hb3.frozen (p := ⟨w.heap.size + 1, 0, none⟩) (show w.heap.size + 1 < w1.heap.size by omega)).trans f0
      have f1 := (hb3.frozen (p := ⟨w.heap.size + 1, 1, none⟩) (show w.heap.size + 1 < w1.heap.size by omega)).trans f1
      obtain ⟨mh, mr, v, hd3⟩ := hD3
      have hlen := secBytes_len S.hf hd3.hok.2.1 S.hc
      rw [hc3] at hlen
      have HF := hide (flash0_any w1.heap.size dp 20000 S w3 ⟨mh, mr, v, hd3⟩ hw3)
      rw [hc3, ← hlen] at HF
      clear hd3 hb3 HC hlen hc3 hw3 B2
      generalize crashD xs ws ks tn = zs at *
      go_wp2_with fail
      refine (unhide HF).mono ?_
      rintro e w4 ⟨g, rfl, hM, hb4⟩
      have B4 := B3.trans (hb4.mono (by omega))
      have r0 := (hb4.cell (p := ⟨w.heap.size + 1, 0, none⟩) (show w.heap.size + 1 < w3.heap.size by omega)).trans r0
      have r1 := (hb4.cell (p := ⟨w.heap.size + 1, 1, none⟩) (show w.heap.size + 1 < w3.heap.size by omega)).trans r1
      have f0 := (hb4.frozen (p := ⟨w.heap.size + 1, 0, none⟩) (show w.heap.size + 1 < w3.heap.size by omega)).trans f0
      have f1 := (hb4.frozen (p := ⟨w.heap.size + 1, 1, none⟩) (show w.heap.size + 1 < w3.heap.size by omega)).trans f1
      have hl4 : w.heap.size + 1 < w4.heap.size := Nat.lt_of_lt_of_le (by omega) hb4.size
      have M4 := hide hM
      clear hb4 hM HF
      go_wp2_with fail
      have R1' := hide (mine_set (mine_set (unhide M4) (show w.heap.size + 1 < w3.heap.size by omega) 0 (.slice (some ⟨g, 0, none⟩) zs.length zs.length)) (show w.heap.size + 1 < w3.heap.size by omega) 1 (.slice none 0 0))
      have R2' := hide ((B4.setCell (p := ⟨w.heap.size + 1, 0, none⟩) (by simp) (.slice (some ⟨g, 0, none⟩) zs.length zs.length)).setCell (p := ⟨w.heap.size + 1, 1, none⟩) (by simp) (.slice none 0 0))
      refine bodyPost_ret (v := .tuple #[fv (some ⟨g, 0, none⟩) zs.length zs.length none 0 0, .int .i64 0]) (by simp [results, Try.results21, go_sem, r0, r1]) rfl ⟨some ⟨g, 0, none⟩, zs.length, by rw [(unhide HE).1, (unhide HE).2], by rw [(unhide HE).2]; exact mine_mono (unhide R1') (by omega), unhide R2'⟩
    · have HE := hide (fc_range (xs := xs) (ws := ws) (ks := ks) (t := t) hlk (by rw [hxl]; exact ho) hrg)
      obtain ⟨m, hm⟩ : ∃ m, n = m * 16 := ⟨n / 16, by omega⟩
      have hP := deviceOf_any ah m c aw nw cw xs ws w1 (by rw [← hm]; exact unhide R1) (unhide W1) (by omega) hc2 (by omega) (by omega) (fun i hi => k4 _ (List.getElem_mem hi))
      rw [← hm] at hP
      have HP := hide hP
      have HC := hide (fun p w => crash_bad p ak nk ck t w hrg)
      clear k1 k2 k3 k4 ho hP hm hrg
      go_wp2_with fail
      refine (unhide HP).mono ?_
      rintro e w2 ⟨rfl, _, hb2⟩
      have B2 := B1.trans (hb2.mono (by omega))
      have r0 := (hb2.cell (p := ⟨w.heap.size + 1, 0, none⟩) (show w.heap.size + 1 < w1.heap.size by omega)).trans r0
      have r1 := (hb2.cell (p := ⟨w.heap.size + 1, 1, none⟩) (show w.heap.size + 1 < w1.heap.size by omega)).trans r1
      have f0 := (hb2.frozen (p := ⟨w.heap.size + 1, 0, none⟩) (show w.heap.size + 1 < w1.heap.size by omega)).trans f0
      have f1 := (hb2.frozen (p := ⟨w.heap.size + 1, 1, none⟩) (show w.heap.size + 1 < w1.heap.size by omega)).trans f1
      have hl2 : w.heap.size + 1 < w2.heap.size := Nat.lt_of_lt_of_le (by omega) hb2.size
      clear hb2 HP y0 y1 BE
      go_wp2_with fail
      refine (unhide HC _ _).mono ?_
      rintro e w3 ⟨rfl, rfl⟩
      go_wp2_with fail
      have BE := hide ((B2.setCell (p := ⟨w.heap.size + 1, 0, none⟩) (by simp) (.slice none 0 0)).setCell (p := ⟨w.heap.size + 1, 1, none⟩) (by simp) (.slice none 0 0))
      refine bodyPost_ret (v := .tuple #[fv none 0 0 none 0 0, .int .i64 4]) (by simp [results, Try.results21, go_sem, r0, r1]) rfl ⟨none, 0, by rw [(unhide HE).1, (unhide HE).2]; rfl, by rw [(unhide HE).2]; exact mine_nil _ _, ?_⟩
      first | exact unhide BE | exact B2
  · have ho : okD n ws = false := by simpa using ho
    rw [ho]
    have HE := hide (fc_bad (xs := xs) (ws := ws) (ks := ks) (t := t) hlk (by rw [hxl]; exact ho))
    clear ho
    go_wp2_with fail
    refine bodyPost_ret (v := .tuple #[fv none 0 0 none 0 0, .int .i64 1]) (by simp [results, Try.results21, go_sem, r0, r1]) rfl ⟨none, 0, by rw [(unhide HE).1, (unhide HE).2]; rfl, by rw [(unhide HE).2]; exact mine_nil _ _, ?_⟩
    first | exact unhide BE | exact B1
end Go.Proofs.Ytdiakahaghggiaa
