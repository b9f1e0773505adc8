/-
  The walk of impl.FlashRead.
-/
import Derived.Test.YtgifcaeemfaihaaReadD
import Derived.Test.YtgifcaeemfaihaaDevP
import Derived.Test.YtgifcaeemfaihaaDevC
import Derived.Test.YtgifcaeemfaihaaImplOK
set_option maxRecDepth 100000
namespace Go.Proofs.Ytgifcaeemfaihaa
open Go.RowKit Go.Maps

set_option maxRecDepth 100000 in
set_option maxHeartbeats 2000000 in
theorem implFlashRead_any (ah : Option Addr) (n c : Nat) (aw : Option Addr) (nw cw : Nat) (xs : List Int) (ws : List WD) (w : World) (hR : Row w ah n xs) (hW : WRow w aw nw ws) (hn : n ≤ 1048576) (hnw : nw ≤ 1048576) (hc : n ≤ c) (hc2 : c ≤ maxLen) :
    Calls Try.prog 26 #[fv ah n c aw nw cw] w fun e w' => ∃ a cap, e = .returned (.tuple #[.slice a (rdB xs ws).length cap, .int .i64 (rdC xs ws)]) ∧ Mine w' w.heap.size (.slice a (rdB xs ws).length cap) (rdB xs ws) ∧ Below w.heap.size w w' := by
  have hxl := hR.1
  have hwl := hW.1
  have b0 : Below w.heap.size w (w.alloc (.cells #[.slice ah n c, .slice aw nw cw] 50)) := (Below.refl _ _).alloc (Nat.le_refl _) _
  have HW := hide (hW.below b0)
  have HR := hide (row_grow hR b0)
  have B0 := hide b0
  have x0 : (w.alloc (.cells #[.slice ah n c, .slice aw nw cw] 50)).cell? ⟨w.heap.size, 0, none⟩ = some (.slice ah n c) := (cell_new rfl).trans rfl
  have x1 : (w.alloc (.cells #[.slice ah n c, .slice aw nw cw] 50)).cell? ⟨w.heap.size, 1, none⟩ = some (.slice aw nw cw) := (cell_new rfl).trans rfl
  have hz : (w.alloc (.cells #[.slice ah n c, .slice aw nw cw] 50)).heap.size = w.heap.size + 1 := by simp
  clear hR hW b0
  go_enter Try.func26, Try.ntmps26
  go_wp2_with fail
  generalize w.alloc (.cells #[.slice ah n c, .slice aw nw cw] 50) = w0 at *
  refine (implFlashOK_any ah n c aw nw cw ws w0 (by unfold maxLen; omega) (by unfold maxLen; omega) (unhide HW)).mono ?_
  rintro e w1 ⟨rfl, hb1⟩
  have y0 := (hb1.cell (p := ⟨w.heap.size, 0, none⟩) (show w.heap.size < w0.heap.size by omega)).trans x0
  have y1 := (hb1.cell (p := ⟨w.heap.size, 1, none⟩) (show w.heap.size < w0.heap.size by omega)).trans x1
  have hs1 := hb1.size
  have W1 := hide ((unhide HW).below hb1)
  have R1 := hide (row_grow (unhide HR) hb1)
  have B1 := hide ((unhide B0).trans (hb1.mono (by omega)))
  clear HW HR B0 hb1 x0 x1
  by_cases ho : okD n ws = true
  · rw [ho]
    obtain ⟨k1, k2, k3, k4⟩ := okD_parts ho
    have HE := hide (show rdB xs ws = readD xs ws ∧ rdC xs ws = 0 by unfold rdB rdC; rw [hxl, ho]; exact ⟨rfl, rfl⟩)
    obtain ⟨m, hm⟩ : ∃ m, n = m * 16 := ⟨n / 16, by omega⟩
    have hP := deviceOf_any ah m c aw nw cw xs ws w1 (by rw [← hm]; exact unhide R1) (unhide W1) (by omega) hc2 (by omega) (by omega) (fun i hi => k4 _ (List.getElem_mem hi))
    rw [← hm] at hP
    have HP := hide hP
    have HQ := hide (devDS_read (ws := ws) (show xs.length = m * 16 by omega) (by omega) k4)
    clear k1 k2 k3 k4 ho hP hm
    go_wp2_with fail
    refine (unhide HP).mono ?_
    rintro e w2 ⟨rfl, ⟨mh, mr, v, hd⟩, hb2⟩
    have B2 := hide ((unhide B1).trans (hb2.mono (by omega)))
    have hs2 := hb2.size
    have HD := hide hd
    clear hb2 y0 y1 HP hd
    go_wp2_with fail
    refine (bytes_any (w1.heap.size + 1 + 1) 2 mr 5000 (devDS xs m ws).rc (devDS xs m ws).rf w2 (unhide HD).read (unhide HD).rok.2.1 (unhide HD).rok.1 (unhide HD).c2 (unhide HD).c3).mono ?_
    rintro e w3 ⟨rfl, hM, hb3⟩
    have hlen := secBytes_len (devDS xs m ws).rf (unhide HD).rok.2.1 (devDS xs m ws).rc
    rw [unhide HQ] at hlen hM
    rw [← hlen] at hM ⊢
    have M3 := hide (mine_mono hM (show w.heap.size ≤ w2.heap.size by omega))
    have B3 := hide ((unhide B2).trans (hb3.mono (by omega)))
    clear hM hb3 HD hlen HQ
    go_wp2_with fail
    go_ret2
    rw [(unhide HE).1, (unhide HE).2]
    exact ⟨_, _, rfl, unhide M3, unhide B3⟩
  · have ho : okD n ws = false := by simpa using ho
    rw [ho]
    have HE := hide (show rdB xs ws = [] ∧ rdC xs ws = 1 by unfold rdB rdC; rw [hxl, ho]; exact ⟨rfl, rfl⟩)
    clear ho
    go_wp2_with fail
    go_ret2
    rw [(unhide HE).1, (unhide HE).2]
    exact ⟨none, 0, rfl, mine_nil _ _, unhide B1⟩
end Go.Proofs.Ytgifcaeemfaihaa
