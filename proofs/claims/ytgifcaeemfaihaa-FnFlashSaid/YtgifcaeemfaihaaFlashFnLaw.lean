/-
  The walk of FnFlash.
-/
import Derived.Test.YtgifcaeemfaihaaFlashFn
import Derived.Test.YtgifcaeemfaihaaSrcG
set_option maxRecDepth 100000
namespace Go.Proofs.Ytgifcaeemfaihaa
open Go.RowKit

theorem rd_ok {xs : List Int} {ws : List WD} (h : okD xs.length ws = true) : rdB xs ws = readD xs ws ∧ rdC xs ws = 0 := by unfold rdB rdC; rw [if_pos h, if_pos h]; exact ⟨rfl, rfl⟩
set_option maxRecDepth 100000 in
set_option maxHeartbeats 8000000 in
theorem fnFlash_law (a1 : Option Addr) (n1 c1 : Nat) (zs1 : List Int) (a2 : Option Addr) (n2 c2 : Nat) (zs2 : List Int) (w : World) (h1 : IsRow .u8 w a1 n1 c1 zs1) (h2 : IsRow .u8 w a2 n2 c2 zs2) :
    Calls Try.prog 6 #[.slice a1 n1 c1, .slice a2 n2 c2] w fun e w' => e = .returned (.bool true) ∧ Below w.heap.size w w' := by
  obtain ⟨i0, hi, hz0, hz1, hz2⟩ := info_parts Try.infoBool'
  obtain ⟨hr1, hm1, _⟩ := row_of_isRow h1
  obtain ⟨hr2, hm2, _⟩ := row_of_isRow h2
  have by1 := hide (bytes_of_isRow h1)
  have by2 := hide (bytes_of_isRow h2)
  clear h1 h2
  unfold maxLen at hm1 hm2
  by_cases hbig : 1048576 < n1 ∨ 1048576 < n2
  · clear hr1 hr2 by1 by2
    by_cases hb1 : 1048576 < n1
    all_goals
      go_enter Try.func6, Try.ntmps6
      go_wp2_with fail
      go_ret
      exact ⟨rfl, Below.refl _ _⟩
  have hn1 : n1 ≤ 1048576 := by omega
  have hn2 : n2 ≤ 1048576 := by omega
  clear hbig hm1 hm2
  generalize zs1.take n1 = xs1 at *
  generalize zs2.take n2 = xs2 at *
  have R1 := hide hr1
  have R2 := hide hr2
  clear hr1 hr2
  go_enter Try.func6, Try.ntmps6
  go_wp2_with fail
  refine (flashOf_any a1 n1 c1 xs1 w (unhide R1) (unhide by1) hn1).mono ?_
  rintro e w1 ⟨b, m, cb, aw, nw, cw, xs, ws, rfl, hR, hW, hok, hcb, hcb2, hb1⟩
  have hxl := hR.1
  have hwl := hW.1
  rw [← hxl] at hok
  obtain ⟨k1, k2, k3, k4⟩ := okD_parts hok
  have RF := hide hR
  have WF := hide hW
  have BW := hide hb1
  have OK := hide hok
  have RD := hide (rd_ok hok)
  have DN := hide (fc_ok (xs := xs) (ws := ws) (ks := []) (t := 0) (by simp) hok (by omega))
  have DA := hide (fc_ok (xs := xs) (ws := ws) (ks := List.replicate ws.length true) (t := 16) (by simp; omega) hok (by omega))
  have hRl : (readD xs ws).length ≤ 2048 := (readD_bounds xs ws k1 k2 k4).2
  have hmm : m ≤ 2048 := by omega
  have hnw : nw ≤ 4096 := by omega
  have HXL := hide hxl
  have HWL := hide hwl
  have K4 := hide k4
  clear hR hW hb1 hok k1 k2 k3 k4 hxl hwl
  have bxw2 : Below w1.heap.size w1 (w1.alloc (.cells #[.slice (some ⟨b, 0, none⟩) m cb, .slice aw nw cw] 50)) := (Below.refl _ _).alloc (Nat.le_refl _) _
  have XF := hide (Bx.new w1 (some ⟨b, 0, none⟩) m cb aw nw cw 50)
  replace RF := hide (row_grow (unhide RF) bxw2)
  replace WF := hide ((unhide WF).below bxw2)
  replace BW := hide ((unhide BW).trans (bxw2.mono (unhide BW).size))
  clear bxw2
  have f0 := (unhide XF).1
  have f1 := (unhide XF).2
  go_wp2_with fail
  clear f0 f1
  generalize w1.alloc (.cells #[.slice (some ⟨b, 0, none⟩) m cb, .slice aw nw cw] 50) = w2 at *
  generalize hfb : w1.heap.size = fb at *
  clear hfb
  refine (implFlashRead_any (some ⟨b, 0, none⟩) m cb aw nw cw xs ws w2 (unhide RF) (unhide WF) (by omega) (by omega) hcb hcb2).mono ?_
  rintro e w3 ⟨a3, c3, rfl, hM3, hb3⟩
  rw [(unhide RD).1] at hM3
  rw [(unhide RD).1, (unhide RD).2]
  have ZB := hide (mine_rowF hM3)
  clear hM3
  replace XF := hide ((unhide XF).step hb3)
  replace RF := hide (row_grow (unhide RF) hb3)
  replace WF := hide ((unhide WF).below hb3)
  replace BW := hide ((unhide BW).trans (hb3.mono (unhide BW).size))
  clear hb3
  have f0 := (unhide XF).1
  have f1 := (unhide XF).2
  go_wp2_with fail
  clear f0 f1
  refine (specFlashRead_any b 0 m cb aw nw cw xs ws w3 (unhide RF) (unhide WF) (by omega) (by omega)).mono ?_
  rintro e w4 ⟨a4, c4, rfl, hM4, hb4⟩
  rw [(unhide RD).1] at hM4
  rw [(unhide RD).1, (unhide RD).2]
  have ZW := hide (mine_rowF hM4)
  clear hM4
  replace XF := hide ((unhide XF).step hb4)
  replace RF := hide (row_grow (unhide RF) hb4)
  replace ZB := hide (row_grow (unhide ZB) hb4)
  replace WF := hide ((unhide WF).below hb4)
  replace BW := hide ((unhide BW).trans (hb4.mono (unhide BW).size))
  clear hb4
  have f0 := (unhide XF).1
  have f1 := (unhide XF).2
  go_wp2_with fail
  clear f0 f1
  refine (implFlashCrash_any (some ⟨b, 0, none⟩) m cb aw nw cw none 0 0 [] 0 xs ws w4 (unhide RF) (unhide WF) ⟨rfl, fun i hi => absurd hi (Nat.not_lt_zero _)⟩ (by omega) (by omega) (by omega) hcb hcb2).mono ?_
  rintro e w5 ⟨a5, c5, rfl, hM5, hb5⟩
  have e5 : fcH xs ws [] 0 = xs := (unhide DN).2.trans (crashD_no xs ws 0)
  have e5c : fcC xs ws [] 0 = 0 := (unhide DN).1
  rw [e5] at hM5
  rw [e5, e5c]
  have ZN := hide (mine_rowF hM5)
  clear hM5 e5 e5c
  replace XF := hide ((unhide XF).step hb5)
  replace RF := hide (row_grow (unhide RF) hb5)
  replace ZB := hide (row_grow (unhide ZB) hb5)
  replace ZW := hide (row_grow (unhide ZW) hb5)
  replace WF := hide ((unhide WF).below hb5)
  replace BW := hide ((unhide BW).trans (hb5.mono (unhide BW).size))
  clear hb5
  have bxw6 : Below w5.heap.size w5 (w5.alloc (.cells #[.slice a5 xs.length c5, .slice none 0 0] 50)) := (Below.refl _ _).alloc (Nat.le_refl _) _
  have XN := hide (Bx.new w5 a5 xs.length c5 none 0 0 50)
  replace XF := hide ((unhide XF).step bxw6)
  replace RF := hide (row_grow (unhide RF) bxw6)
  replace ZB := hide (row_grow (unhide ZB) bxw6)
  replace ZW := hide (row_grow (unhide ZW) bxw6)
  replace ZN := hide (row_grow (unhide ZN) bxw6)
  replace WF := hide ((unhide WF).below bxw6)
  replace BW := hide ((unhide BW).trans (bxw6.mono (unhide BW).size))
  clear bxw6
  have hz6 : (w5.alloc (.cells #[.slice a5 xs.length c5, .slice none 0 0] 50)).heap.size = w5.heap.size + 1 := by simp
  have HZ6 := hide hz6
  clear hz6
  go_wp2_with fail
  generalize w5.alloc (.cells #[.slice a5 xs.length c5, .slice none 0 0] 50) = w6 at *
  generalize hnb : w5.heap.size = nb at *
  clear hnb
  have hOE : BOwns (w6.alloc (.cells #[] 4)) w6.heap.size (.slice (some ⟨w6.heap.size, 0, none⟩) 0 0) [] := World.ownsRow_lit (base := w6.heap.size) (e := 4) (size := 1) w6 #[] 0 (Nat.le_refl _) (by unfold maxLen; simp) rfl
  have hbE : Below w6.heap.size w6 (w6.alloc (.cells #[] 4)) := (Below.refl _ _).alloc (Nat.le_refl _) _
  have OE := hide hOE
  clear hOE
  go_loopw [12, 13] (fun v i wr => ∃ (k g cap : Nat), k ≤ nw ∧ i = .int .i64 (k : Int) ∧ v = .slice (some ⟨g, 0, none⟩) (List.replicate k true).length cap ∧ Hid (BOwns wr w6.heap.size (.slice (some ⟨g, 0, none⟩) (List.replicate k true).length cap) (List.replicate k true)) ∧ Below w6.heap.size w6 wr) (fun _ i _ => nw - (intOf i).toNat)
  case atStart => exact ⟨0, nb + 1, 0, Nat.zero_le _, rfl, rfl, by have := unhide OE; rw [unhide HZ6] at this ⊢; exact this, hbE⟩
  case round =>
    clear OE hbE
    obtain ⟨k, g, cap, hk, rfl, rfl, hO, hb⟩ := hrel
    have f1 := ((unhide XF).step hb).2
    have hsz := hb.size
    have hlk : (List.replicate k true).length ≤ 5000 := by simp; omega
    by_cases hlt : k < nw
    · have HS := hide (show List.replicate k true ++ [true] = List.replicate (k + 1) true from List.replicate_succ'.symm)
      generalize List.replicate k true = bs at *
      go_wp2_with (at_builtin; refine wpList_append_own _ rfl _ _ 55 rfl w6.heap.size 4 i0 (.bool false) 1 1 Try.underlying55 hi hz0 hz1 hz2 rfl (by decide) _ _ _ rfl (World.ownsRow.alloc (unhide hO) _) ⟨wr.heap.size, 0, none⟩ 1 1 [.bool true] rfl rfl (cell_one_new _ _ _) (by intro u hu; simp at hu; subst hu; rfl) (by unfold maxLen; omega) (by omega) (by simp; omega) ?_)
      intro v3 w3' hown3 hgrow3 hnil3
      have O3 := bowns_app hown3
      rw [unhide HS] at O3
      obtain ⟨g3, cap3, rfl, _⟩ := bowns_form O3 (fun e => by subst e; exact hnil3 rfl)
      have O3' := hide O3
      have B3 := hide ((hb.alloc hsz _).grown hgrow3 (by simp; omega) (fun k hk => ((unhide hO).lt k hk).1))
      clear hown3 hgrow3 hnil3 O3 hO HS
      go_wp2_with fail
      go_roundw
      case rel => exact ⟨k + 1, g3, cap3, by omega, by go_num, rfl, unhide O3', unhide B3⟩
      case measure => simp [intOf]; omega
    · obtain rfl : k = nw := by omega
      obtain ⟨_, _, e', hbrow⟩ := bowns_form (unhide hO) (by simp)
      injection e' with e1 _ e3
      injection e1 with e1
      injection e1 with e1
      subst e1 e3
      rw [List.length_replicate] at hbrow
      have KA := hide hbrow
      clear hbrow
      have hwn : ws.length ≤ 4096 := by rw [unhide HWL]; omega
      rw [← unhide HWL] at *
      clear hO
      clear f1
      replace XF := hide ((unhide XF).step hb)
      replace XN := hide ((unhide XN).step hb)
      replace RF := hide (row_grow (unhide RF) hb)
      replace ZB := hide (row_grow (unhide ZB) hb)
      replace ZW := hide (row_grow (unhide ZW) hb)
      replace ZN := hide (row_grow (unhide ZN) hb)
      replace WF := hide ((unhide WF).below hb)
      replace BW := hide ((unhide BW).trans (hb.mono (unhide BW).size))
      clear hb
      have f0 := (unhide XF).1
      have f1 := (unhide XF).2
      go_wp2_with fail
      clear f0 f1
      refine (implFlashCrash_any (some ⟨b, 0, none⟩) m cb aw ws.length cw (some ⟨g, 0, none⟩) ws.length cap (List.replicate ws.length true) 16 xs ws wr (unhide RF) (unhide WF) (unhide KA) (by omega) (by omega) (by omega) hcb hcb2).mono ?_
      rintro e w8 ⟨a8, c8, rfl, hM8, hb8⟩
      have e8 : fcH xs ws (List.replicate ws.length true) 16 = readD xs ws := (unhide DA).2.trans (crashD_all xs ws)
      have e8c : fcC xs ws (List.replicate ws.length true) 16 = 0 := (unhide DA).1
      rw [e8] at hM8
      rw [e8, e8c]
      have ZO := hide (mine_rowF hM8)
      clear hM8 e8 e8c KA
      replace XF := hide ((unhide XF).step hb8)
      replace XN := hide ((unhide XN).step hb8)
      replace RF := hide (row_grow (unhide RF) hb8)
      replace ZB := hide (row_grow (unhide ZB) hb8)
      replace ZW := hide (row_grow (unhide ZW) hb8)
      replace ZN := hide (row_grow (unhide ZN) hb8)
      replace WF := hide ((unhide WF).below hb8)
      replace BW := hide ((unhide BW).trans (hb8.mono (unhide BW).size))
      clear hb8
      have bxw9 : Below w8.heap.size w8 (w8.alloc (.cells #[.slice a8 (readD xs ws).length c8, .slice none 0 0] 50)) := (Below.refl _ _).alloc (Nat.le_refl _) _
      have XO := hide (Bx.new w8 a8 (readD xs ws).length c8 none 0 0 50)
      replace XF := hide ((unhide XF).step bxw9)
      replace XN := hide ((unhide XN).step bxw9)
      replace RF := hide (row_grow (unhide RF) bxw9)
      replace ZB := hide (row_grow (unhide ZB) bxw9)
      replace ZW := hide (row_grow (unhide ZW) bxw9)
      replace ZN := hide (row_grow (unhide ZN) bxw9)
      replace ZO := hide (row_grow (unhide ZO) bxw9)
      replace WF := hide ((unhide WF).below bxw9)
      replace BW := hide ((unhide BW).trans (bxw9.mono (unhide BW).size))
      clear bxw9
      have f0 := (unhide XF).1
      have f1 := (unhide XF).2
      go_wp2_with fail
      generalize w8.alloc (.cells #[.slice a8 (readD xs ws).length c8, .slice none 0 0] 50) = w9 at *
      generalize hob : w8.heap.size = ob at *
      clear hob
      clear f0 f1
      have hat := atV_bd xs2 17 (by omega)
      have FC := hide (show fcC xs ws (flagsV xs2) (atV xs2 17) = 0 by
        obtain ⟨t, ht⟩ : ∃ t : Nat, atV xs2 17 = (t : Int) := ⟨(atV xs2 17).toNat, by omega⟩
        rw [ht]
        exact (fc_ok (by have := flagsV_len xs2; omega) (unhide OK) (by omega)).1)
      have FL := hide (flagsV_len xs2)
      obtain ⟨fl, hfl⟩ : ∃ fl, fl = flagsV xs2 := ⟨_, rfl⟩
      obtain ⟨at17, hat17⟩ : ∃ x, x = atV xs2 17 := ⟨_, rfl⟩
      rw [← hfl] at FC FL
      rw [← hat17] at FC hat
      have HFL := hide hfl
      have HAT := hide hat17.symm
      clear hfl hat17
      obtain ⟨ZL, hzl⟩ : ∃ ZL, ZL = fcH xs ws fl at17 := ⟨_, rfl⟩
      have hZl : ZL.length ≤ 2048 := by rw [hzl]; exact fcH_len xs ws fl at17
      have HZL := hide hzl
      clear hzl
      have CF := hide (fun (u : World) (hb : Below w9.heap.size w9 u) => flagsOfF_any a2 n2 c2 xs2 u (row_grow (unhide R2) ((unhide BW).trans (hb.mono (unhide BW).size))) (unhide by2) hn2 |>.mono fun e u' h => show ∃ (g cap : Nat), e = .returned (.slice (some ⟨g, 0, none⟩) fl.length cap) ∧ BRow u' (some ⟨g, 0, none⟩) fl.length fl ∧ Below u.heap.size u u' ∧ Below w9.heap.size w9 u' by
        obtain ⟨g, cap, rfl, hk, hbf⟩ := h
        rw [← unhide HFL] at hk
        exact ⟨g, cap, by rw [← unhide HFL], hk, hbf, hb.trans (hbf.mono hb.size)⟩)
      have CA := hide (fun (u : World) (hb : Below w9.heap.size w9 u) => atF_any a2 n2 c2 xs2 17 u (row_grow (unhide R2) ((unhide BW).trans (hb.mono (unhide BW).size))) (unhide by2) hn2 (by omega) (by omega) |>.mono fun e u' h => show e = .returned (.int .i64 at17) ∧ Below u.heap.size u u' ∧ Below w9.heap.size w9 u' from ⟨by rw [h.1, unhide HAT], h.2, hb.trans (h.2.mono hb.size)⟩)
      have CC := hide (fun (u : World) (hb : Below w9.heap.size w9 u) (gk ck : Nat) (hk : BRow u (some ⟨gk, 0, none⟩) fl.length fl) => implFlashCrash_any (some ⟨b, 0, none⟩) m cb aw ws.length cw (some ⟨gk, 0, none⟩) fl.length ck fl at17 xs ws u (row_grow (unhide RF) hb) ((unhide WF).below hb) hk (by omega) (by omega) (by have := unhide FL; omega) hcb hcb2 |>.mono fun e u' h => show ∃ (a : Option Addr) (c : Nat), e = .returned (.tuple #[fv a ZL.length c none 0 0, .int .i64 0]) ∧ Row u' a ZL.length ZL ∧ Below u.heap.size u u' ∧ Below w9.heap.size w9 u' by
        obtain ⟨a, c, rfl, hM, hbf⟩ := h
        rw [unhide FC, ← unhide HZL]
        rw [← unhide HZL] at hM
        exact ⟨a, c, rfl, mine_rowF hM, hbf, hb.trans (hbf.mono hb.size)⟩)
      have f0 := (unhide XF).1
      have f1 := (unhide XF).2
      go_upto_region 13 with fail
      go_cut [16, 17] (fun s gg wc => ∃ (sb : Nat) (a : Option Addr) (c : Nat), s = .pointer (some ⟨sb, 0, none⟩) ∧ gg = .int .i64 0 ∧ Bx wc sb a ZL.length c none 0 0 ∧ Row wc a ZL.length ZL ∧ Below w9.heap.size w9 wc)
      case first =>
        have G0 := Below.refl w9.heap.size w9
        have hfl : fb < w9.heap.size := cell_lt f0
        go_region_with (first
          | (go_at_call 29; refine (unhide CF _ (by first | assumption | exact bel_drewN (by assumption) 1 | exact (by assumption : Below w9.heap.size w9 _).alloc (Below.size (by assumption)) _ | exact bel_drewN ((by assumption : Below w9.heap.size w9 _).alloc (Below.size (by assumption)) _) 1)).mono ?_; rintro e wf ⟨gk, ck, rfl, hk, hbu, hbf⟩; have f0 := ((unhide XF).step hbf).1; have f1 := ((unhide XF).step hbf).2; have hfl : fb < wf.heap.size := cell_lt f0; (first | (have BK := hide (boxK_new (B := w9.heap.size) hbu (Below.size (by assumption)))) | (have BK := hide (boxK_newD (B := w9.heap.size) hbu (Below.size (by assumption)))) | (replace BK := hide ((unhide BK).step hbu)) | skip))
          | (go_at_call 11; refine (unhide CA _ (by first | assumption | exact bel_drewN (by assumption) 1 | exact (by assumption : Below w9.heap.size w9 _).alloc (Below.size (by assumption)) _ | exact bel_drewN ((by assumption : Below w9.heap.size w9 _).alloc (Below.size (by assumption)) _) 1)).mono ?_; rintro e wa ⟨rfl, hbu, hbf⟩; have f0 := ((unhide XF).step hbf).1; have f1 := ((unhide XF).step hbf).2; have hfl : fb < wa.heap.size := cell_lt f0; (first | (have BK := hide (boxK_new (B := w9.heap.size) hbu (Below.size (by assumption)))) | (have BK := hide (boxK_newD (B := w9.heap.size) hbu (Below.size (by assumption)))) | (replace BK := hide ((unhide BK).step hbu)) | skip); (first | (replace hk := hk.grow hbu) | (replace hk := (hk.grow ((Below.refl _ _).alloc (Nat.le_refl _) _)).grow hbu) | skip))
          | (go_at_call 28; refine (unhide CC _ (by first | assumption | exact bel_drewN (by assumption) 1 | exact (by assumption : Below w9.heap.size w9 _).alloc (Below.size (by assumption)) _ | exact bel_drewN ((by assumption : Below w9.heap.size w9 _).alloc (Below.size (by assumption)) _) 1) gk ck (by first | exact hk | exact hk.grow ((Below.refl _ _).alloc (Nat.le_refl _) _))).mono ?_; rintro e w10 ⟨a10, c10, rfl, hR10, hbu, hbf⟩; (first | (have BK := hide (boxK_new (B := w9.heap.size) hbu (Below.size (by assumption)))) | (have BK := hide (boxK_newD (B := w9.heap.size) hbu (Below.size (by assumption)))) | (replace BK := hide ((unhide BK).step hbu)) | skip); (try (have q0 := (unhide BK).c0; have q1 := (unhide BK).c1; have q2 := (unhide BK).fz 0; have q3 := (unhide BK).fz 1)); replace hR10 := hide hR10))
        all_goals
          go_wp2_with fail
          go_meet
          case rel => first | exact ⟨w10.heap.size, a10, c10, rfl, rfl, Bx.new _ _ _ _ _ _ _ _, row_alloc (unhide hR10), hbf.alloc hbf.size _⟩ | exact ⟨_, a10, c10, rfl, rfl, (unhide BK).set, row_box (unhide hR10) (unhide BK).2 _ _, (hbf.setCell (unhide BK).1 _).setCell (unhide BK).1 _⟩
      case rest =>
        clear CF CA CC f0 f1
        obtain ⟨sb, a10, c10, rfl, rfl, hX10, hR10, hB10⟩ := hcut
        have ZS := hide hR10
        have XS := hide hX10
        clear hR10 hX10
        replace XF := hide ((unhide XF).step hB10)
        replace XN := hide ((unhide XN).step hB10)
        replace XO := hide ((unhide XO).step hB10)
        replace RF := hide (row_grow (unhide RF) hB10)
        replace ZB := hide (row_grow (unhide ZB) hB10)
        replace ZW := hide (row_grow (unhide ZW) hB10)
        replace ZN := hide (row_grow (unhide ZN) hB10)
        replace ZO := hide (row_grow (unhide ZO) hB10)
        replace WF := hide ((unhide WF).below hB10)
        replace BW := hide ((unhide BW).trans (hB10.mono (unhide BW).size))
        clear hB10
        have CF := hide (fun (u : World) (hb : Below wc.heap.size wc u) => flagsOfF_any a2 n2 c2 xs2 u (row_grow (unhide R2) ((unhide BW).trans (hb.mono (unhide BW).size))) (unhide by2) hn2 |>.mono fun e u' h => show ∃ (g cap : Nat), e = .returned (.slice (some ⟨g, 0, none⟩) fl.length cap) ∧ BRow u' (some ⟨g, 0, none⟩) fl.length fl ∧ Below u.heap.size u u' ∧ Below wc.heap.size wc u' by
          obtain ⟨g, cap, rfl, hk, hbf⟩ := h
          rw [← unhide HFL] at hk
          exact ⟨g, cap, by rw [← unhide HFL], hk, hbf, hb.trans (hbf.mono hb.size)⟩)
        have CA := hide (fun (u : World) (hb : Below wc.heap.size wc u) => atF_any a2 n2 c2 xs2 17 u (row_grow (unhide R2) ((unhide BW).trans (hb.mono (unhide BW).size))) (unhide by2) hn2 (by omega) (by omega) |>.mono fun e u' h => show e = .returned (.int .i64 at17) ∧ Below u.heap.size u u' ∧ Below wc.heap.size wc u' from ⟨by rw [h.1, unhide HAT], h.2, hb.trans (h.2.mono hb.size)⟩)
        have CC := hide (fun (u : World) (hb : Below wc.heap.size wc u) (gk ck : Nat) (hk : BRow u (some ⟨gk, 0, none⟩) fl.length fl) => specFlashCrash_any b 0 m cb aw ws.length cw (some ⟨gk, 0, none⟩) fl.length ck fl at17 xs ws u (row_grow (unhide RF) hb) ((unhide WF).below hb) hk (by omega) (by omega) (by have := unhide FL; omega)  |>.mono fun e u' h => show ∃ (a : Option Addr) (c : Nat), e = .returned (.tuple #[fv a ZL.length c none 0 0, .int .i64 0]) ∧ Row u' a ZL.length ZL ∧ Below u.heap.size u u' ∧ Below wc.heap.size wc u' by
          obtain ⟨a, c, rfl, hM, hbf⟩ := h
          rw [unhide FC, ← unhide HZL]
          rw [← unhide HZL] at hM
          exact ⟨a, c, rfl, mine_rowF hM, hbf, hb.trans (hbf.mono hb.size)⟩)
        have f0 := (unhide XF).1
        have f1 := (unhide XF).2
        go_upto_region 14 with fail
        go_cut [18, 19] (fun s gg wz => ∃ (sb : Nat) (a : Option Addr) (c : Nat), s = .pointer (some ⟨sb, 0, none⟩) ∧ gg = .int .i64 0 ∧ Bx wz sb a ZL.length c none 0 0 ∧ Row wz a ZL.length ZL ∧ Below wc.heap.size wc wz)
        case first =>
          have G0 := Below.refl wc.heap.size wc
          have hfl : fb < wc.heap.size := cell_lt f0
          go_region_with (first
            | (go_at_call 29; refine (unhide CF _ (by first | assumption | exact bel_drewN (by assumption) 1 | exact (by assumption : Below wc.heap.size wc _).alloc (Below.size (by assumption)) _ | exact bel_drewN ((by assumption : Below wc.heap.size wc _).alloc (Below.size (by assumption)) _) 1)).mono ?_; rintro e wf ⟨gk, ck, rfl, hk, hbu, hbf⟩; have f0 := ((unhide XF).step hbf).1; have f1 := ((unhide XF).step hbf).2; have hfl : fb < wf.heap.size := cell_lt f0; (first | (have BK := hide (boxK_new (B := wc.heap.size) hbu (Below.size (by assumption)))) | (have BK := hide (boxK_newD (B := wc.heap.size) hbu (Below.size (by assumption)))) | (replace BK := hide ((unhide BK).step hbu)) | skip))
            | (go_at_call 11; refine (unhide CA _ (by first | assumption | exact bel_drewN (by assumption) 1 | exact (by assumption : Below wc.heap.size wc _).alloc (Below.size (by assumption)) _ | exact bel_drewN ((by assumption : Below wc.heap.size wc _).alloc (Below.size (by assumption)) _) 1)).mono ?_; rintro e wa ⟨rfl, hbu, hbf⟩; have f0 := ((unhide XF).step hbf).1; have f1 := ((unhide XF).step hbf).2; have hfl : fb < wa.heap.size := cell_lt f0; (first | (have BK := hide (boxK_new (B := wc.heap.size) hbu (Below.size (by assumption)))) | (have BK := hide (boxK_newD (B := wc.heap.size) hbu (Below.size (by assumption)))) | (replace BK := hide ((unhide BK).step hbu)) | skip); (first | (replace hk := hk.grow hbu) | (replace hk := (hk.grow ((Below.refl _ _).alloc (Nat.le_refl _) _)).grow hbu) | skip))
            | (go_at_call 30; refine (unhide CC _ (by first | assumption | exact bel_drewN (by assumption) 1 | exact (by assumption : Below wc.heap.size wc _).alloc (Below.size (by assumption)) _ | exact bel_drewN ((by assumption : Below wc.heap.size wc _).alloc (Below.size (by assumption)) _) 1) gk ck (by first | exact hk | exact hk.grow ((Below.refl _ _).alloc (Nat.le_refl _) _))).mono ?_; rintro e w10 ⟨a10, c10, rfl, hR10, hbu, hbf⟩; (first | (have BK := hide (boxK_new (B := wc.heap.size) hbu (Below.size (by assumption)))) | (have BK := hide (boxK_newD (B := wc.heap.size) hbu (Below.size (by assumption)))) | (replace BK := hide ((unhide BK).step hbu)) | skip); (try (have q0 := (unhide BK).c0; have q1 := (unhide BK).c1; have q2 := (unhide BK).fz 0; have q3 := (unhide BK).fz 1)); replace hR10 := hide hR10))
          all_goals
            go_wp2_with fail
            go_meet
            case rel => first | exact ⟨w10.heap.size, a10, c10, rfl, rfl, Bx.new _ _ _ _ _ _ _ _, row_alloc (unhide hR10), hbf.alloc hbf.size _⟩ | exact ⟨_, a10, c10, rfl, rfl, (unhide BK).set, row_box (unhide hR10) (unhide BK).2 _ _, (hbf.setCell (unhide BK).1 _).setCell (unhide BK).1 _⟩
        case rest =>
          clear CF CA CC f0 f1
          obtain ⟨wb, a11, c11, rfl, rfl, hX11, hR11, hB11⟩ := hcut
          have ZV := hide hR11
          have XV := hide hX11
          clear hR11 hX11
          replace XF := hide ((unhide XF).step hB11)
          replace XN := hide ((unhide XN).step hB11)
          replace XO := hide ((unhide XO).step hB11)
          replace XS := hide ((unhide XS).step hB11)
          replace RF := hide (row_grow (unhide RF) hB11)
          replace ZB := hide (row_grow (unhide ZB) hB11)
          replace ZW := hide (row_grow (unhide ZW) hB11)
          replace ZN := hide (row_grow (unhide ZN) hB11)
          replace ZO := hide (row_grow (unhide ZO) hB11)
          replace ZS := hide (row_grow (unhide ZS) hB11)
          replace WF := hide ((unhide WF).below hB11)
          replace BW := hide ((unhide BW).trans (hB11.mono (unhide BW).size))
          clear hB11
          have f0 := (unhide XF).1
          have f1 := (unhide XF).2
          have OK2 := hide (show okD m ws = true by rw [← unhide HXL]; exact unhide OK)
          go_wp2_with fail
          refine (implFlashOK_any (some ⟨b, 0, none⟩) m cb aw ws.length cw ws _ (by unfold maxLen; omega) (by unfold maxLen; omega) (unhide WF)).mono ?_
          rintro e w12 ⟨rfl, hb12⟩
          rw [unhide OK2]
          have l0 := ((unhide XF).step hb12).1
          have l1 := ((unhide XN).step hb12).1
          have l2 := ((unhide XO).step hb12).1
          have l3 := ((unhide XS).step hb12).1
          have l4 := ((unhide XV).step hb12).1
          have t1 := conv_any (c := c3) (row_grow (unhide ZB) hb12)
          have t2 := conv_any (c := c4) (row_grow (unhide ZW) hb12)
          have t3 := conv_any (c := c5) (row_grow (unhide ZN) hb12)
          have t4 := conv_any (c := cb) (row_grow (unhide RF) hb12)
          have t5 := conv_any (c := c8) (row_grow (unhide ZO) hb12)
          have t6 := conv_any (c := c10) (row_grow (unhide ZS) hb12)
          have t7 := conv_any (c := c11) (row_grow (unhide ZV) hb12)
          have BE := hide ((unhide BW).trans (hb12.mono (unhide BW).size))
          clear f0 f1 hb12
          go_wp2_with fail
          go_ret
          exact ⟨ret_bool (by simp), unhide BE⟩
end Go.Proofs.Ytgifcaeemfaihaa
