/-
  The walk of deviceOf.
-/
import Derived.Test.YtdiakahaghggiaaDevO
namespace Go.Proofs.Ytdiakahaghggiaa
open Go.RowKit Go.Maps

theorem dev_drew {w : World} {base p N : Nat} {S : DS} (h : Dev w base p N S) : Dev w.drew base p N S := by
  obtain ⟨mh, mr, v, hd⟩ := h
  exact ⟨mh, mr, v, hd.kept (fun _ _ _ => rfl)⟩
set_option maxRecDepth 100000 in
set_option maxHeartbeats 4000000 in
theorem deviceOf_any (ah : Option Addr) (m ch : Nat) (aw : Option Addr) (nw cw : Nat) (xs : List Int) (ws : List WD) (w : World) (hR : Row w ah (m * 16) xs) (hW : WRow w aw nw ws) (hch : m * 16 ≤ ch) (hch2 : ch ≤ maxLen) (h2 : m ≤ 128) (h3 : nw ≤ 4096) (hall : ∀ i (hi : i < ws.length), okW ws[i] = true) :
    Calls Try.prog 42 #[fv ah (m * 16) ch aw nw cw] w fun e w' => e = .returned (.pointer (some ⟨w.heap.size + 1 + 1, 0, none⟩)) ∧ Dev w' w.heap.size (w.heap.size + 1 + 1) 5000 (devDS xs m ws) ∧ Below w.heap.size w w' := by
  have HR := hide hR
  have HW := hide hW
  have HA := hide hall
  have hxl := hR.1
  clear hR hW hall
  have hmm := @run_makeMap Try.prog
  have hdiv : ((m : Int) * 16).tdiv 16 = (m : Int) := by rw [Int.tdiv_eq_ediv_of_nonneg (by omega)]; omega
  have L0 := hide (Laying.start (w := w) (ah := ah) (nh := m * 16) (ch := ch) (aw := aw) (nw := nw) (cw := cw) (xs := xs))
  go_enter Try.func42, Try.ntmps42
  go_wp2_with fail
  go_loopw [15] (fun i wr => ∃ k : Nat, k ≤ m ∧ i = .int .i64 k ∧ Hid (Laying w wr ah (m * 16) ch aw nw cw xs k)) (fun i _ => m - (intOf i).toNat)
  case atStart => exact ⟨0, Nat.zero_le _, rfl, unhide L0⟩
  case round =>
    clear hmm L0
    obtain ⟨k, hk, rfl, hL⟩ := hrel
    by_cases hlt : k < m
    · obtain ⟨bh, oh, rfl, _⟩ := (unhide HR).2 0 (by omega)
      obtain ⟨cs, hcs⟩ : ∃ cs, cs = ((secAt xs k).map (Value.int .u8)).toArray := ⟨_, rfl⟩
      have h16 := secAt_len hxl hlt
      have hsv : secV (secAt xs k) = .agg cs := by rw [hcs]; rfl
      have hz : cs.size = 16 := by rw [hcs]; simp [h16]
      have Y : ∀ j, j < 16 → wr.cell? ⟨bh, oh + k * 16 + j, none⟩ = cs[j]? := fun j hj => by
        obtain ⟨b', o', e, hc⟩ := (row_grow (unhide HR) (unhide hL).bel).2 (k * 16 + j) (by omega)
        injection e with e
        injection e with e1 e2
        subst e1 e2
        rw [Nat.add_assoc, hc, hcs]
        have h1 : k * 16 + j < xs.length := by omega
        simp [List.getD, h1, secAt, hj]
      have y0 : wr.cell? ⟨bh, oh + k * 16, none⟩ = some cs[0] := (Y 0 (by omega)).trans (Array.getElem?_eq_getElem (by omega))
      have y1 : wr.cell? ⟨bh, oh + k * 16 + 1, none⟩ = some cs[1] := (Y 1 (by omega)).trans (Array.getElem?_eq_getElem (by omega))
      have y2 : wr.cell? ⟨bh, oh + k * 16 + 2, none⟩ = some cs[2] := (Y 2 (by omega)).trans (Array.getElem?_eq_getElem (by omega))
      have y3 : wr.cell? ⟨bh, oh + k * 16 + 3, none⟩ = some cs[3] := (Y 3 (by omega)).trans (Array.getElem?_eq_getElem (by omega))
      have y4 : wr.cell? ⟨bh, oh + k * 16 + 4, none⟩ = some cs[4] := (Y 4 (by omega)).trans (Array.getElem?_eq_getElem (by omega))
      have y5 : wr.cell? ⟨bh, oh + k * 16 + 5, none⟩ = some cs[5] := (Y 5 (by omega)).trans (Array.getElem?_eq_getElem (by omega))
      have y6 : wr.cell? ⟨bh, oh + k * 16 + 6, none⟩ = some cs[6] := (Y 6 (by omega)).trans (Array.getElem?_eq_getElem (by omega))
      have y7 : wr.cell? ⟨bh, oh + k * 16 + 7, none⟩ = some cs[7] := (Y 7 (by omega)).trans (Array.getElem?_eq_getElem (by omega))
      have y8 : wr.cell? ⟨bh, oh + k * 16 + 8, none⟩ = some cs[8] := (Y 8 (by omega)).trans (Array.getElem?_eq_getElem (by omega))
      have y9 : wr.cell? ⟨bh, oh + k * 16 + 9, none⟩ = some cs[9] := (Y 9 (by omega)).trans (Array.getElem?_eq_getElem (by omega))
      have y10 : wr.cell? ⟨bh, oh + k * 16 + 10, none⟩ = some cs[10] := (Y 10 (by omega)).trans (Array.getElem?_eq_getElem (by omega))
      have y11 : wr.cell? ⟨bh, oh + k * 16 + 11, none⟩ = some cs[11] := (Y 11 (by omega)).trans (Array.getElem?_eq_getElem (by omega))
      have y12 : wr.cell? ⟨bh, oh + k * 16 + 12, none⟩ = some cs[12] := (Y 12 (by omega)).trans (Array.getElem?_eq_getElem (by omega))
      have y13 : wr.cell? ⟨bh, oh + k * 16 + 13, none⟩ = some cs[13] := (Y 13 (by omega)).trans (Array.getElem?_eq_getElem (by omega))
      have y14 : wr.cell? ⟨bh, oh + k * 16 + 14, none⟩ = some cs[14] := (Y 14 (by omega)).trans (Array.getElem?_eq_getElem (by omega))
      have y15 : wr.cell? ⟨bh, oh + k * 16 + 15, none⟩ = some cs[15] := (Y 15 (by omega)).trans (Array.getElem?_eq_getElem (by omega))
      have p0 := (unhide hL).p0
      have hA := fun (w : World) => run_arrayAt (P := Try.prog) (w := w) 90 5 16 (some ⟨bh, oh + k * 16, none⟩) 16 16 Try.underlying90 (Nat.le_refl _)
      have hP := put_any (w.heap.size + 1 + 1) 0 (w.heap.size + 1) k k k (secFn xs k) (secAt xs k) wr h16 (unhide hL).held (by unfold maxLen; omega) (by omega) (unhide hL).c0 (unhide hL).c1 ((unhide hL).free 0) (by omega)
      have hP2 := put_any (w.heap.size + 1 + 1) 0 (w.heap.size + 1) k k k (secFn xs k) (secAt xs k) wr.drew h16 (unhide hL).held (by unfold maxLen; omega) (by omega) (unhide hL).c0 (unhide hL).c1 ((unhide hL).free 0) (by omega)
      rw [hsv, show (Value.agg cs) = .agg #[cs[0], cs[1], cs[2], cs[3], cs[4], cs[5], cs[6], cs[7], cs[8], cs[9], cs[10], cs[11], cs[12], cs[13], cs[14], cs[15]] by rw [eta16 hz]] at hP hP2
      have HP := hide hP
      have HP2 := hide hP2
      clear hP hP2 hcs hsv Y
      go_wp2_with fail
      go_region_with (first
        | (go_at_call 60; (first | refine (sectorOf_any bh oh (m * 16) ch k wr.drew (by omega) hch hch2).mono ?_ | refine (sectorOf_any bh oh (m * 16) ch k wr (by omega) hch hch2).mono ?_); rintro e w3 ⟨rfl, rfl⟩)
        | (go_at_call 59; (first | refine (unhide HP2).mono ?_ | refine (unhide HP).mono ?_); rintro e w3 ⟨rfl, hm3, hc3, hp3⟩))
      all_goals
        have L3 := hide ((unhide hL).put hm3 hc3 ⟨hp3.os, hp3.tape, hp3.output, hp3.size, hp3.block, hp3.cell, hp3.frozen, hp3.kind⟩)
        clear hm3 hc3 hp3 hL
        go_wp2_with fail
        go_roundw
        case rel => exact ⟨k + 1, by omega, by go_num, unhide L3⟩
        case measure => simp [intOf]; omega
    · obtain rfl : k = m := by omega
      have c2 := (unhide hL).c2
      have c3 := (unhide hL).c3
      have f2 := (unhide hL).free 2
      have f3 := (unhide hL).free 3
      have hsz := (unhide hL).size
      go_wp2_with fail
      refine (secs_clone_any (w.heap.size + 1 + 1) 0 (w.heap.size + 1) k k (secFn xs k) wr (unhide hL).held (unhide hL).c0 (unhide hL).c1).mono ?_
      rintro e w4 ⟨g, rfl, hg, hs4, hb4⟩
      have d2 := (hb4.cell (p := ⟨w.heap.size + 1 + 1, 2, none⟩) hsz).trans c2
      have d3 := (hb4.cell (p := ⟨w.heap.size + 1 + 1, 3, none⟩) hsz).trans c3
      have g2 := (hb4.frozen (p := ⟨w.heap.size + 1 + 1, 2, none⟩) hsz).trans f2
      have g3 := (hb4.frozen (p := ⟨w.heap.size + 1 + 1, 3, none⟩) hsz).trans f3
      have q1 : w4.cell? ⟨w.heap.size, 1, none⟩ = some (.slice aw nw cw) := (hb4.cell (p := ⟨w.heap.size, 1, none⟩) (by simp; omega)).trans (unhide hL).p1
      have D5 := hide ((unhide hL).cloned hxl h2 hb4 hg hs4)
      have hs5 : w.heap.size + 1 + 1 < w4.heap.size := Nat.lt_of_lt_of_le hsz hb4.size
      clear c2 c3 f2 f3 hg hs4 hb4 hL hdiv hsz
      go_wp2_with fail
      clear d2 d3 g2 g3
      obtain ⟨w5, hw5⟩ : ∃ w5, w5 = (w4.setCell ⟨w.heap.size + 1 + 1, 2, none⟩ (.int .i64 (k : Int))).setCell ⟨w.heap.size + 1 + 1, 3, none⟩ (.map (some g)) := ⟨_, rfl⟩
      rw [← hw5] at D5 ⊢
      clear hw5 q1 hs5
      go_loopw [40] (fun i wr => ∃ k2 : Nat, k2 ≤ nw ∧ i = .int .i64 k2 ∧ Hid (Dev wr w.heap.size (w.heap.size + 1 + 1) (k + k2) (devDS xs k (ws.take k2))) ∧ Below w.heap.size w wr) (fun i _ => nw - (intOf i).toNat)
      case atStart => exact ⟨0, Nat.zero_le _, rfl, ⟨_, _, _, by rw [List.take_zero]; exact (unhide D5).1⟩, (unhide D5).2⟩
      case round =>
        clear D5
        obtain ⟨k2, hk2, rfl, hD, hb⟩ := hrel
        have hwl := (unhide HW).1
        by_cases hlt : k2 < nw
        · have hk3 : k2 < ws.length := by omega
          obtain ⟨bw, ow, rfl, e0, ad, cd, e1, _, rd⟩ := ((unhide HW).below hb).2 k2 hk3
          obtain ⟨n, s, hpd, hn, h16⟩ := okW_form (unhide HA k2 hk3)
          have hstep := devDS_snoc xs k ws k2 hk3
          rw [hpd] at e0 e1 rd hstep
          simp only at e0 e1 rd
          rw [h16] at e1 rd
          obtain ⟨bd, od, rfl, _⟩ := rd.2 0 (by omega)
          obtain ⟨cs, hcs⟩ : ∃ cs, cs = (s.map (Value.int .u8)).toArray := ⟨_, rfl⟩
          have hsv : secV s = .agg cs := by rw [hcs]; rfl
          have hz : cs.size = 16 := by rw [hcs]; simp [h16]
          have hsz := hb.size
          obtain ⟨wx, hwx⟩ : ∃ wx, wx = wr.alloc (.cells #[.int .i64 (n : Int), .slice (some ⟨bd, od, none⟩) 16 cd] 62) := ⟨_, rfl⟩
          have hbx : Below wr.heap.size wr wx := by rw [hwx]; exact (Below.refl _ _).alloc (Nat.le_refl _) _
          have Y : ∀ j, j < 16 → wx.cell? ⟨bd, od + j, none⟩ = cs[j]? := fun j hj => by
            obtain ⟨b', o', e, hc⟩ := (row_grow rd hbx).2 j hj
            injection e with e
            injection e with e1 e2
            subst e1 e2
            rw [hc, hcs]
            have h2 : j < s.length := by omega
            simp [List.getD, h2]
          have y0 : wx.cell? ⟨bd, od, none⟩ = some cs[0] := (Y 0 (by omega)).trans (Array.getElem?_eq_getElem (by omega))
          have y1 : wx.cell? ⟨bd, od + 1, none⟩ = some cs[1] := (Y 1 (by omega)).trans (Array.getElem?_eq_getElem (by omega))
          have y2 : wx.cell? ⟨bd, od + 2, none⟩ = some cs[2] := (Y 2 (by omega)).trans (Array.getElem?_eq_getElem (by omega))
          have y3 : wx.cell? ⟨bd, od + 3, none⟩ = some cs[3] := (Y 3 (by omega)).trans (Array.getElem?_eq_getElem (by omega))
          have y4 : wx.cell? ⟨bd, od + 4, none⟩ = some cs[4] := (Y 4 (by omega)).trans (Array.getElem?_eq_getElem (by omega))
          have y5 : wx.cell? ⟨bd, od + 5, none⟩ = some cs[5] := (Y 5 (by omega)).trans (Array.getElem?_eq_getElem (by omega))
          have y6 : wx.cell? ⟨bd, od + 6, none⟩ = some cs[6] := (Y 6 (by omega)).trans (Array.getElem?_eq_getElem (by omega))
          have y7 : wx.cell? ⟨bd, od + 7, none⟩ = some cs[7] := (Y 7 (by omega)).trans (Array.getElem?_eq_getElem (by omega))
          have y8 : wx.cell? ⟨bd, od + 8, none⟩ = some cs[8] := (Y 8 (by omega)).trans (Array.getElem?_eq_getElem (by omega))
          have y9 : wx.cell? ⟨bd, od + 9, none⟩ = some cs[9] := (Y 9 (by omega)).trans (Array.getElem?_eq_getElem (by omega))
          have y10 : wx.cell? ⟨bd, od + 10, none⟩ = some cs[10] := (Y 10 (by omega)).trans (Array.getElem?_eq_getElem (by omega))
          have y11 : wx.cell? ⟨bd, od + 11, none⟩ = some cs[11] := (Y 11 (by omega)).trans (Array.getElem?_eq_getElem (by omega))
          have y12 : wx.cell? ⟨bd, od + 12, none⟩ = some cs[12] := (Y 12 (by omega)).trans (Array.getElem?_eq_getElem (by omega))
          have y13 : wx.cell? ⟨bd, od + 13, none⟩ = some cs[13] := (Y 13 (by omega)).trans (Array.getElem?_eq_getElem (by omega))
          have y14 : wx.cell? ⟨bd, od + 14, none⟩ = some cs[14] := (Y 14 (by omega)).trans (Array.getElem?_eq_getElem (by omega))
          have y15 : wx.cell? ⟨bd, od + 15, none⟩ = some cs[15] := (Y 15 (by omega)).trans (Array.getElem?_eq_getElem (by omega))
          have x0 : wx.cell? ⟨wr.heap.size, 0, none⟩ = some (.int .i64 (n : Int)) := by rw [hwx]; exact (cell_new rfl).trans rfl
          have x1 : wx.cell? ⟨wr.heap.size, 1, none⟩ = some (.slice (some ⟨bd, od, none⟩) 16 cd) := by rw [hwx]; exact (cell_new rfl).trans rfl
          have hA := fun (w : World) => run_arrayAt (P := Try.prog) (w := w) 90 5 16 (some ⟨bd, od, none⟩) 16 cd Try.underlying90 (Nat.le_refl _)
          have hDx : Dev wx w.heap.size (w.heap.size + 1 + 1) (k + k2) (devDS xs k (ws.take k2)) := by
            obtain ⟨mh, mr, v, hd⟩ := unhide hD
            exact ⟨mh, mr, v, hd.below hbx⟩
          have hP := fun (x : World) (hx : Dev x w.heap.size (w.heap.size + 1 + 1) (k + k2) (devDS xs k (ws.take k2))) => wait_any w.heap.size (w.heap.size + 1 + 1) (k + k2) n (devDS xs k (ws.take k2)) s x hx (by unfold maxLen; omega) (by rw [(devDS_ws xs k (ws.take k2)).1, List.length_take]; omega) h16 hn
          rw [hsv, show (Value.agg cs) = .agg #[cs[0], cs[1], cs[2], cs[3], cs[4], cs[5], cs[6], cs[7], cs[8], cs[9], cs[10], cs[11], cs[12], cs[13], cs[14], cs[15]] by rw [eta16 hz]] at hP
          have HP := hide hP
          have HD := hide hDx
          have HB := hide (hb.trans (hbx.mono hsz))
          have hstep2 : devDS xs k (ws.take (k2 + 1)) = { devDS xs k (ws.take k2) with rc := max (devDS xs k (ws.take k2)).rc (n + 1), rf := updS (devDS xs k (ws.take k2)).rf n s, ws := (devDS xs k (ws.take k2)).ws ++ [⟨n, s⟩] } := by
            rw [hstep]; rfl
          have HS := hide hstep2
          clear hP hDx hbx hcs hsv Y rd hstep hstep2 hpd hb hD
          go_wp2_with fail
          rw [← hwx]
          clear hwx e0 e1
          go_region_with (go_at_call 62; (first | refine (unhide HP wx.drew (dev_drew (unhide HD))).mono ?_ | refine (unhide HP wx (unhide HD)).mono ?_); rintro e w6 ⟨rfl, hd6, hb6⟩)
          all_goals
            have D6 := hide (show Dev w6 w.heap.size (w.heap.size + 1 + 1) (k + (k2 + 1)) (devDS xs k (ws.take (k2 + 1))) by rw [unhide HS]; exact hd6)
            have B6 := hide (show Below w.heap.size w w6 from (unhide HB).trans ⟨hb6.os, hb6.tape, hb6.output, hb6.size, hb6.block⟩)
            clear hd6 hb6 HD HB HS HP
            go_wp2_with fail
            go_roundw
            case rel => exact ⟨k2 + 1, by omega, by go_num, unhide D6, unhide B6⟩
            case measure => simp [intOf]; omega
        · obtain rfl : k2 = nw := by omega
          go_wp2_with fail
          go_ret
          refine ⟨rfl, ?_, hb⟩
          obtain ⟨mh, mr, v, hd⟩ := unhide hD
          rw [List.take_of_length_le (by omega)] at hd
          exact ⟨mh, mr, v, hd.mono (by omega)⟩
end Go.Proofs.Ytdiakahaghggiaa
