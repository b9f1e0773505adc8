/-
  The walk of spec.l02Crash.
-/
import Derived.Test.YtdiakahaghggiaaCrashL
import Derived.Test.YtdiakahaghggiaaBRow
import Derived.Test.YtdiakahaghggiaaLitA
namespace Go.Proofs.Ytdiakahaghggiaa
open Go.RowKit

theorem owns_block {w w' : World} {B : Nat} {v : Value} {xs : List Int} (h : Owns w B v xs) (hb : ∀ k, v.ownBlock = some k → w'.heap[k]? = w.heap[k]?) : Owns w' B v xs := by
  obtain ⟨h1, h2⟩ := h
  refine ⟨h1, ?_⟩
  rcases h2 with h2 | ⟨g, cap, cur, rfl, hg, hh, r⟩
  · exact .inl h2
  · exact .inr ⟨g, cap, cur, rfl, hg, (hb g rfl).trans hh, r⟩
theorem owns_set {w : World} {B b : Nat} {v : Value} {xs : List Int} (h : Owns w B v xs) (hb : b < B) (o : Nat) (u : Value) : Owns (w.setCell ⟨b, o, none⟩ u) B v xs :=
  owns_block h fun k hk => Below.heap_setCell _ _ _ _ (by have := (h.lt k hk).1; simp; omega)
/-- One of those that wait, put. -/
theorem put_elem {wr : World} {aw : Option Addr} {nw : Nat} {ws : List WD} (hW : WRow wr aw nw ws) (m : Nat) (hm : m < ws.length) (hok : okW ws[m] = true) (t : Nat) (ht : t ≤ 16) (B : Nat) (hB : B ≤ wr.heap.size) (g cap : Nat) (ys : List Int) (hO : Owns wr B (.slice (some ⟨g, 0, none⟩) ys.length cap) ys) (hl : ys.length ≤ 2048) (hl16 : ys.length % 16 = 0) :
    ∃ bw ow at_ ad od cd : Nat, aw = some ⟨bw, ow, none⟩ ∧ wr.cell? ⟨bw, ow + m * 2, none⟩ = some (.int .i64 (at_ : Int)) ∧ wr.cell? ⟨bw, ow + m * 2 + 1, none⟩ = some (.slice (some ⟨ad, od, none⟩) 16 cd) ∧
      Calls Try.prog 58 #[.slice (some ⟨g, 0, none⟩) ys.length cap, wv (at_ : Int) (some ⟨ad, od, none⟩) 16 cd, .int .i64 (t : Int)] wr fun e w' => ∃ g2 cap2, e = .returned (.slice (some ⟨g2, 0, none⟩) (putD ys ws[m] t).length cap2) ∧ Owns w' B (.slice (some ⟨g2, 0, none⟩) (putD ys ws[m] t).length cap2) (putD ys ws[m] t) ∧ Below wr.heap.size wr w' := by
  obtain ⟨bw, ow, rfl, e0, ad, cd, e1, hmm, rd⟩ := hW.2 m hm
  obtain ⟨n, s, hpd, hn127, hs16⟩ := okW_shape hok
  rw [hpd] at e0 e1 rd hmm ⊢
  simp only at e0 e1 rd hmm
  rw [hs16] at e1 rd hmm
  obtain ⟨bd, od, rfl, _⟩ := rd.2 0 (by omega)
  refine ⟨bw, ow, n, bd, od, cd, rfl, e0, e1, ?_⟩
  refine (l02Put_any g 0 ys.length cap ys n s bd od cd t wr (row_of_owns hO) hl hl16 hn127 hs16 rd hmm.2 ht).mono ?_
  rintro e w' ⟨g2, cap2, rfl, ho, hb⟩
  have hlen := putD_len ys ⟨(n : Int), s⟩ t hs16 ht
  simp only [Int.toNat_natCast] at hlen
  rw [← hlen] at ho ⊢
  exact ⟨g2, cap2, rfl, owns_mono ho hB, hb⟩
theorem keptD_ok {ws : List WD} (h : ∀ d ∈ ws, okW d = true) (m : Nat) (ks : List Bool) : ∀ d ∈ keptD (ws.take m) ks, okW d = true := fun d hd => h d (List.mem_of_mem_take (keptD_mem _ _ d hd))
set_option maxRecDepth 100000 in
set_option maxHeartbeats 4000000 in
theorem l02Crash_gen (ah : Option Addr) (n c : Nat) (aw : Option Addr) (nw cw : Nat) (ak : Option Addr) (nk ck : Nat) (ks : List Bool) (xs : List Int) (ws : List WD) (t : Nat) (w : World) (hR : Row w ah n xs) (hah : Adr ah n c) (hW : WRow w aw nw ws) (hK : BRow w ak nk ks) (hn : n ≤ 2048) (h16 : n % 16 = 0) (hnw : nw ≤ 4096) (hnk : nk ≤ 4611686018427387904) (hall : ∀ d ∈ ws, okW d = true) (ht : t ≤ 16) :
    Calls Try.prog 45 #[fv ah n c aw nw cw, .slice ak nk ck, .int .i64 (t : Int)] w fun e w' => ∃ g cap, e = .returned (fv (some ⟨g, 0, none⟩) (crashD xs ws ks t).length cap none 0 0) ∧ Owns w' w.heap.size (.slice (some ⟨g, 0, none⟩) (crashD xs ws ks t).length cap) (crashD xs ws ks t) ∧ Below w.heap.size w w' := by
  obtain ⟨i0, hi, hz0, hz1, hz2⟩ := info_parts Try.infoU8
  have hxl := hR.1
  have hb0 : ∀ o1 o2 o3, Below w.heap.size w (((w.alloc o1).alloc o2).alloc o3) := fun o1 o2 o3 => (((Below.refl _ _).alloc (Nat.le_refl _) _).alloc (by simp) _).alloc (by simp; omega) _
  have hO : ∀ o1 o2, (((w.alloc o1).alloc o2).alloc (.cells #[] 5)).ownsRow (w.heap.size + 1 + 1) 5 1 (.slice (some ⟨w.heap.size + 1 + 1, 0, none⟩) 0 0) 0 [] := fun o1 o2 => by
    have := World.ownsRow_lit (base := w.heap.size + 1 + 1) (e := 5) (size := 1) ((w.alloc o1).alloc o2) #[] 0 (by simp) (by unfold maxLen; simp) rfl
    simpa using this
  have HR := hide hR
  have HW := hide hW
  have HK := hide hK
  have HA := hide hall
  clear hR hW hK hall
  obtain ⟨g, cap, w1, hrun, O1, hgrow⟩ := lit_app 22 (show Owns _ (w.heap.size + 1 + 1) _ [] from hO (.cells #[.slice ah n c, .slice aw nw cw] 30) (.cells #[.slice none 0 0, .slice none 0 0] 30)) (row_grow (unhide HR) (hb0 _ _ _)) hah (by omega) (by simp)
  have B1 : Below w.heap.size w w1 := (hb0 _ _ _).grown hgrow (by simp; omega) (fun k hk => by injection hk with hk; omega)
  have e1 := hgrow.block w.heap.size (by simp; omega) (by simp; omega)
  have e2 := hgrow.block (w.heap.size + 1) (by simp) (by simp)
  have p1 : w1.cell? ⟨w.heap.size, 1, none⟩ = some (.slice aw nw cw) := by
    rw [World.cell?_of_block (a := ⟨w.heap.size, 1, none⟩) e1]
    exact (cell_old (by simp; omega)).trans ((cell_old (by simp)).trans ((cell_new rfl).trans rfl))
  have q0 : w1.cell? ⟨w.heap.size + 1, 0, none⟩ = some (.slice none 0 0) := by
    rw [World.cell?_of_block (a := ⟨w.heap.size + 1, 0, none⟩) e2]
    exact (cell_old (by simp)).trans ((cell_new (by simp)).trans rfl)
  have q1 : w1.cell? ⟨w.heap.size + 1, 1, none⟩ = some (.slice none 0 0) := by
    rw [World.cell?_of_block (a := ⟨w.heap.size + 1, 1, none⟩) e2]
    exact (cell_old (by simp)).trans ((cell_new (by simp)).trans rfl)
  have qf : ∀ j, w1.frozen? ⟨w.heap.size + 1, j, none⟩ = false := fun j => by
    simp only [World.frozen?, e2]
    exact (frozen_old (by simp)).trans (frozen_new (by simp))
  have hs1 : w.heap.size + 1 + 1 ≤ w1.heap.size := by have := hgrow.size; simp at this; omega
  have OO := hide O1
  have QF := hide qf
  clear hgrow hb0 hO O1 e1 e2 qf
  subst hxl
  have hkl := hide (unhide HK).1
  have hwl := hide (unhide HW).1
  go_enter Try.func45, Try.ntmps45
  go_wp2_with (at_builtin; refine sc_wpApp rfl _ _ 22 rfl _ _ _ w1 rfl rfl hrun ?_)
  go_loop [8, 9] (fun l i => ∃ k : Nat, k ≤ nw ∧ k ≤ nk ∧ i = .int .i64 k ∧ l = .int .i64 (lastI ks k)) (fun _ i => nw - (intOf i).toNat)
  case atStart => exact ⟨0, Nat.zero_le _, Nat.zero_le _, rfl, rfl⟩
  case round =>
    obtain ⟨k, hk1, hk2, rfl, rfl⟩ := hrel
    by_cases hlt : k < nw ∧ k < nk
    · obtain ⟨hlt1, hlt2⟩ := hlt
      obtain ⟨bk, ok, rfl, ek⟩ := ((unhide HK).grow B1).2 k hlt2
      by_cases hf : ks.getD k false = true
      · have HL := hide (show lastI ks (k + 1) = (k : Int) by simp only [lastI]; rw [if_pos hf])
        rw [hf] at ek
        clear hf
        go_wp2_with fail
        go_round
        case rel => exact ⟨k + 1, by omega, by omega, by go_num, by rw [unhide HL]⟩
        case measure => simp [intOf]; omega
      · have HL := hide (show lastI ks (k + 1) = lastI ks k by simp only [lastI]; rw [if_neg hf])
        have hf : ks.getD k false = false := by simpa using hf
        rw [hf] at ek
        clear hf
        go_wp2_with fail
        go_round
        case rel => exact ⟨k + 1, by omega, by omega, by go_num, by rw [unhide HL]⟩
        case measure => simp [intOf]; omega
    · have hmin : k = min ws.length ks.length := by rw [unhide hwl, unhide hkl]; omega
      have hbd := lastI_bd ks k
      by_cases hL : lastI ks k = -1
      · have HC := hide (crashD_none (b := xs) (t := t) (ws := ws) (ks := ks) (by rw [← hmin]; exact hL))
        have f0 := unhide QF 0
        have f1 := unhide QF 1
        rw [hL]
        clear hL hmin hbd
        by_cases hlt1 : k < nw
        all_goals
          go_wp2_with fail
          refine wp_loop_rounds 1 ?_
          rw [rounds_succ]
          go_wp2_with fail
          have R1 := hide (owns_mono (owns_set (owns_set (unhide OO) (show w.heap.size + 1 < w.heap.size + 1 + 1 by omega) 0 (.slice (some ⟨g, 0, none⟩) xs.length cap)) (show w.heap.size + 1 < w.heap.size + 1 + 1 by omega) 1 (.slice none 0 0)) (show w.heap.size ≤ w.heap.size + 1 + 1 by omega))
          have R2 := hide ((B1.setCell (p := ⟨w.heap.size + 1, 0, none⟩) (by simp) (.slice (some ⟨g, 0, none⟩) xs.length cap)).setCell (p := ⟨w.heap.size + 1, 1, none⟩) (by simp) (.slice none 0 0))
          refine bodyPost_ret (v := fv (some ⟨g, 0, none⟩) xs.length cap none 0 0) (by simp [results, Try.results45, go_sem, q0, q1]) rfl ⟨g, cap, by rw [unhide HC], by rw [unhide HC]; exact unhide R1, unhide R2⟩
      · obtain ⟨j, hj⟩ : ∃ j : Nat, lastI ks k = (j : Int) := ⟨(lastI ks k).toNat, by omega⟩
        have hjw : j < ws.length := by rw [unhide hwl]; omega
        have HC := hide (crashD_last (b := xs) (t := t) (ws := ws) (ks := ks) (by rw [← hmin]; exact hj) hjw)
        have hjk : j < k := by omega
        have HF := hide (keptD_last ws ks k j (by omega) (by omega) hj hjw).2.1
        rw [hj]
        clear hL hmin hbd hj
        by_cases hlt1 : k < nw
        all_goals
          go_wp2_with fail
          go_loopw [7, 10] (fun o i wr => ∃ (m g cap : Nat) (ys : List Int), m ≤ j + 1 ∧ i = .int .i64 m ∧ o = .slice (some ⟨g, 0, none⟩) ys.length cap ∧ Hid (ys = readD xs (keptD (ws.take (min m j)) (ks.take (min m j)))) ∧ Hid (Owns wr (w.heap.size + 1 + 1) (.slice (some ⟨g, 0, none⟩) ys.length cap) ys) ∧ Below (w.heap.size + 1 + 1) w1 wr) (fun _ i _ => j + 1 - (intOf i).toNat)
          case atStart => exact ⟨0, g, cap, xs, Nat.zero_le _, rfl, rfl, by show xs = _; simp [keptD, readD], unhide OO, Below.refl _ _⟩
          case round =>
            clear OO
            obtain ⟨m, g, cap, ys, hm, rfl, rfl, hy, hO, hb⟩ := hrel
            have hbw : Below w.heap.size w wr := B1.trans (hb.mono (by omega))
            have p1 := (hb.cell (p := ⟨w.heap.size, 1, none⟩) (show w.heap.size < w.heap.size + 1 + 1 by omega)).trans p1
            have hsr : w.heap.size + 1 + 1 ≤ wr.heap.size := Nat.le_trans hs1 hb.size
            have hyb := readD_bounds xs (keptD (ws.take (min m j)) (ks.take (min m j))) h16 hn (keptD_ok (unhide HA) _ _)
            rw [← unhide hy] at hyb
            by_cases hmj : m < j
            · have hmw : m < ws.length := by omega
              have hmk : m < nk := by omega
              obtain ⟨bk, ok, rfl, ek⟩ := ((unhide HK).grow hbw).2 m hmk
              have SN := hide (keptD_snoc ws ks m hmw (by rw [unhide hkl]; exact hmk))
              have eg : ks[m]'(by rw [unhide hkl]; exact hmk) = ks.getD m false := by simp [List.getD, show m < ks.length by rw [unhide hkl]; exact hmk]
              rw [eg] at SN
              have hmn : min m j = m := by omega
              rw [hmn] at hy
              by_cases hf : ks.getD m false = true
              · rw [hf] at ek SN
                obtain ⟨bw, ow, at_, ad, od, cd, rfl, e0, e1, hC⟩ := put_elem ((unhide HW).below hbw) m hmw (unhide HA _ (List.getElem_mem hmw)) 16 (Nat.le_refl _) _ hsr g cap ys (unhide hO) hyb.2 hyb.1
                have HS := hide (show putD ys ws[m] 16 = readD xs (keptD (ws.take (min (m + 1) j)) (ks.take (min (m + 1) j))) by
                  rw [show min (m + 1) j = m + 1 by omega, unhide SN, if_pos rfl, readD_append, ← unhide hy]; rfl)
                have HP := hide hC
                clear hC hf eg SN hmn hyb
                go_wp2_with fail
                refine (unhide HP).mono ?_
                rintro e w2 ⟨g2, cap2, rfl, hO2, hb2⟩
                have B2 := hide (hb.trans (hb2.mono hsr))
                have O2 := hide hO2
                clear hO2 hb2 HP
                generalize putD ys ws[m] 16 = zs at *
                go_wp2_with fail
                go_roundw
                case rel => exact ⟨m + 1, g2, cap2, zs, by omega, by go_num, rfl, unhide HS, unhide O2, unhide B2⟩
                case measure => simp [intOf]; omega
              · have hf : ks.getD m false = false := by simpa using hf
                rw [hf] at ek SN
                have HS := hide (show ys = readD xs (keptD (ws.take (min (m + 1) j)) (ks.take (min (m + 1) j))) by
                  rw [show min (m + 1) j = m + 1 by omega, unhide SN, if_neg (by decide), List.append_nil, ← unhide hy])
                clear hf eg SN hmn hyb
                go_wp2_with fail
                go_roundw
                case rel => exact ⟨m + 1, g, cap, ys, by omega, by go_num, rfl, unhide HS, unhide hO, hb⟩
                case measure => simp [intOf]; omega
            · by_cases hmj2 : m = j
              · subst hmj2
                have hmk : m < nk := by omega
                obtain ⟨bk, ok, rfl, ek⟩ := ((unhide HK).grow hbw).2 m hmk
                rw [unhide HF] at ek
                have HS := hide (show ys = readD xs (keptD (ws.take (min (m + 1) m)) (ks.take (min (m + 1) m))) by
                  have := unhide hy
                  rwa [show min m m = min (m + 1) m by omega] at this)
                clear hyb
                go_wp2_with fail
                go_roundw
                case rel => exact ⟨m + 1, g, cap, ys, by omega, by go_num, rfl, unhide HS, unhide hO, hb⟩
                case measure => simp [intOf]
              · obtain rfl : m = j + 1 := by omega
                rw [show min (j + 1) j = j by omega] at hy
                obtain ⟨bw, ow, at_, ad, od, cd, rfl, e0, e1, hC⟩ := put_elem ((unhide HW).below hbw) j hjw (unhide HA _ (List.getElem_mem hjw)) t ht _ hsr g cap ys (unhide hO) hyb.2 hyb.1
                have HP := hide hC
                rw [← unhide hy] at HC
                clear hC hyb
                have f0 := (hb.frozen (p := ⟨w.heap.size + 1, 0, none⟩) (by simp)).trans (unhide QF 0)
                have f1 := (hb.frozen (p := ⟨w.heap.size + 1, 1, none⟩) (by simp)).trans (unhide QF 1)
                have q0 := (hb.cell (p := ⟨w.heap.size + 1, 0, none⟩) (by simp)).trans q0
                have q1 := (hb.cell (p := ⟨w.heap.size + 1, 1, none⟩) (by simp)).trans q1
                go_wp2_with fail
                refine (unhide HP).mono ?_
                rintro e w2 ⟨g2, cap2, rfl, hO2, hb2⟩
                have q0 := (hb2.cell (p := ⟨w.heap.size + 1, 0, none⟩) (show w.heap.size + 1 < wr.heap.size by omega)).trans q0
                have q1 := (hb2.cell (p := ⟨w.heap.size + 1, 1, none⟩) (show w.heap.size + 1 < wr.heap.size by omega)).trans q1
                have f0 := (hb2.frozen (p := ⟨w.heap.size + 1, 0, none⟩) (show w.heap.size + 1 < wr.heap.size by omega)).trans f0
                have f1 := (hb2.frozen (p := ⟨w.heap.size + 1, 1, none⟩) (show w.heap.size + 1 < wr.heap.size by omega)).trans f1
                have B2 := hbw.trans (hb2.mono (by omega))
                have O2 := hide hO2
                have hl2 : w.heap.size + 1 < w2.heap.size := Nat.lt_of_lt_of_le (by omega) hb2.size
                clear hO2 hb2 HP hb hbw hO B1
                generalize putD ys ws[j] t = zs at *
                go_wp2_with fail
                have R1 := hide (owns_mono (owns_set (owns_set (unhide O2) (show w.heap.size + 1 < w.heap.size + 1 + 1 by omega) 0 (.slice (some ⟨g2, 0, none⟩) zs.length cap2)) (show w.heap.size + 1 < w.heap.size + 1 + 1 by omega) 1 (.slice none 0 0)) (show w.heap.size ≤ w.heap.size + 1 + 1 by omega))
                have R2 := hide ((B2.setCell (p := ⟨w.heap.size + 1, 0, none⟩) (by simp) (.slice (some ⟨g2, 0, none⟩) zs.length cap2)).setCell (p := ⟨w.heap.size + 1, 1, none⟩) (by simp) (.slice none 0 0))
                refine bodyPost_ret (v := fv (some ⟨g2, 0, none⟩) zs.length cap2 none 0 0) (by simp [results, Try.results45, go_sem, q0, q1]) rfl ⟨g2, cap2, by rw [unhide HC], by rw [unhide HC]; exact unhide R1, unhide R2⟩
theorem l02Crash_any (b off n c : Nat) (aw : Option Addr) (nw cw : Nat) (ak : Option Addr) (nk ck : Nat) (ks : List Bool) (xs : List Int) (ws : List WD) (t : Nat) (w : World) (hR : Row w (some ⟨b, off, none⟩) n xs) (hW : WRow w aw nw ws) (hK : BRow w ak nk ks) (hn : n ≤ 2048) (h16 : n % 16 = 0) (hnw : nw ≤ 4096) (hnk : nk ≤ 4611686018427387904) (hall : ∀ d ∈ ws, okW d = true) (ht : t ≤ 16) :
    Calls Try.prog 45 #[fv (some ⟨b, off, none⟩) n c aw nw cw, .slice ak nk ck, .int .i64 (t : Int)] w fun e w' => ∃ g cap, e = .returned (fv (some ⟨g, 0, none⟩) (crashD xs ws ks t).length cap none 0 0) ∧ Owns w' w.heap.size (.slice (some ⟨g, 0, none⟩) (crashD xs ws ks t).length cap) (crashD xs ws ks t) ∧ Below w.heap.size w w' :=
  l02Crash_gen (some ⟨b, off, none⟩) n c aw nw cw ak nk ck ks xs ws t w hR (.inr ⟨b, off, rfl⟩) hW hK hn h16 hnw hnk hall ht
end Go.Proofs.Ytdiakahaghggiaa
