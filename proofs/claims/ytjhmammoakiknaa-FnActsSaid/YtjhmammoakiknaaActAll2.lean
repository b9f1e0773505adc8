/-
  RnO, RnT, GdA, GdI, GdB, FlashE, GdO, FaA, RnR, RnQ, FaT, FaE, FaM, RnLaw, ActL, ActM, GdP, Src, SrcN in one.
-/
import Derived.Test.YtjhmammoakiknaaActAll1
import Derived.Test.YtjhmammoakiknaaWrT
import Derived.Test.YtjhmammoakiknaaTakes
import Derived.Deep.RegionWith
import Derived.Test.YtjhmammoakiknaaFlashD
import Derived.Test.YtjhmammoakiknaaBytes
import Derived.Test.YtjhmammoakiknaaRnL
import Derived.Test.YtjhmammoakiknaaSlT
import Derived.Deep.Cut
import Derived.Test.YtjhmammoakiknaaAppL
import Derived.Test.YtjhmammoakiknaaOwn
namespace Go.Proofs.Ytjhmammoakiknaa
open Go.RowKit Go.Maps

set_option maxRecDepth 100000 in
set_option maxHeartbeats 8000000 in
theorem l02Own_any (ah : Option Addr) (n c : Nat) (aw : Option Addr) (nw cw : Nat) (f : FD) (w : World) (hS : SF w ah n c aw nw cw f) :
    Calls Try.prog 28 #[fv ah n c aw nw cw] w fun e w' => FlRes f.xs f.ws w e w' := by
  obtain ⟨hn1, hn2, hn3⟩ := hS.len
  have HXL := hide hS.row.1
  have HW := hide hS.wait
  have HA := hide hS.ok.2.2.2
  have hb2 : Below w.heap.size w ((w.alloc (.cells #[.slice ah n c, .slice aw nw cw] 28)).alloc (.cells #[.slice none 0 0, .slice none 0 0] 28)) := ((Below.refl _ _).alloc (Nat.le_refl _) _).alloc (by simp) _
  obtain ⟨W2, hW2⟩ : ∃ W2, W2 = (w.alloc (.cells #[.slice ah n c, .slice aw nw cw] 28)).alloc (.cells #[.slice none 0 0, .slice none 0 0] 28) := ⟨_, rfl⟩
  have z2 : W2.heap.size = w.heap.size + 1 + 1 := by rw [hW2]; simp
  have f1 : W2.cell? ⟨w.heap.size, 1, none⟩ = some (.slice aw nw cw) := by rw [hW2]; exact (cell_old (by simp)).trans ((cell_new rfl).trans rfl)
  have q2 : W2.heap[w.heap.size + 1]? = some (.cells #[.slice none 0 0, .slice none 0 0] 28 (0, 0)) := by
    have e : w.heap.size + 1 = (w.alloc (.cells #[.slice ah n c, .slice aw nw cw] 28)).heap.size := by simp
    rw [hW2, e]; exact heap_alloc_last _ _
  rw [← hW2] at hb2
  have b3 : Below W2.heap.size W2 (W2.alloc (.cells #[] 5)) := (Below.refl _ _).alloc (Nat.le_refl _) _
  have hO3 : Owns (W2.alloc (.cells #[] 5)) W2.heap.size (.slice (some ⟨W2.heap.size, 0, none⟩) 0 0) [] := World.ownsRow_lit _ _ _ (Nat.le_refl _) (by unfold maxLen; simp) rfl
  obtain ⟨g, cap, w1, hrun, O1, hgrow⟩ := lit_app 22 hO3 (row_grow hS.row (hb2.trans (b3.mono hb2.size))) hS.adr (by omega) (by simp)
  have B1 : Below W2.heap.size W2 w1 := b3.grown hgrow (by simp) (fun k hk => by injection hk with hk; omega)
  replace f1 := (B1.cell (p := ⟨w.heap.size, 1, none⟩) (by rw [z2]; simp; omega)).trans f1
  have Q1 := hide ((B1.block (w.heap.size + 1) (by omega)).trans q2)
  have hg1 : W2.heap.size ≤ g ∧ g < w1.heap.size := O1.lt g rfl
  have O1' : Owns w1 W2.heap.size (.slice (some ⟨g, 0, none⟩) f.xs.length cap) f.xs := by rw [unhide HXL]; exact O1
  have HM := hide (show Mine w1 W2.heap.size (.slice (some ⟨g, 0, none⟩) f.xs.length cap) f.xs from mine_of_owns O1')
  have BB := hide (hb2.trans (B1.mono hb2.size))
  rw [z2] at hg1 HM B1
  rw [hW2] at hrun
  have z3 : ((w.alloc (.cells #[.slice ah n c, .slice aw nw cw] 28)).alloc (.cells #[.slice none 0 0, .slice none 0 0] 28)).heap.size = w.heap.size + 1 + 1 := by simp
  rw [z3] at hrun
  clear hS hgrow hO3 b3 hb2 O1 O1' q2 z3 hW2 z2 B1 W2
  obtain ⟨hv, hhv⟩ : ∃ hv : Value, hv = .slice (some ⟨g, 0, none⟩) n cap := ⟨_, rfl⟩
  have bA : Below w1.heap.size w1 (w1.alloc (.cells #[hv, .slice none 0 0] 28)) := (Below.refl _ _).alloc (Nat.le_refl _) _
  have S0 := hide (show FlSt (w1.alloc (.cells #[hv, .slice none 0 0] 28)) (w1.alloc (.cells #[hv, .slice none 0 0] 28)) w1.heap.size hv (.slice none 0 0) [] from ⟨Below.refl _ _, heap_alloc_last _ _, QwOwn.nil _ _⟩)
  have HBA := hide bA
  have F1 := hide f1
  have HHV := hide hhv
  rw [hhv] at S0 HBA bA
  clear bA f1
  go_enter Try.func28, Try.ntmps28
  go_wp2_with (at_builtin; refine sc_wpApp rfl _ _ 22 rfl _ _ _ w1 rfl rfl hrun ?_)
  rw [← hhv] at S0 HBA ⊢
  clear hhv hrun
  generalize hfb : w1.heap.size = fb at *
  generalize hW0 : w1.alloc (.cells #[hv, .slice none 0 0] 28) = W0 at *
  have HFB := hide hfb
  clear hfb hW0
  go_loopw [4] (fun i wr => ∃ (k : Nat) (v : Value) (hs : List WqH), k ≤ nw ∧ i = .int .i64 (k : Int) ∧ Hid (FlSt W0 wr fb hv v hs) ∧ Hid (hs.map (·.X) = f.ws.take k)) (fun i _ => nw - (intOf i).toNat)
  case atStart => exact ⟨0, _, [], Nat.zero_le _, rfl, unhide S0, rfl⟩
  case round =>
    clear S0
    obtain ⟨k, v, hs, hk, rfl, hST, hX⟩ := hrel
    have hfbw : w.heap.size + 1 + 1 < fb := by omega
    have BW := hide ((unhide BB).trans (((unhide HBA).mono (show w.heap.size ≤ fb by omega)).trans ((unhide hST).bel.mono (show w.heap.size ≤ fb by omega))))
    have c1 : wr.cell? ⟨w.heap.size, 1, none⟩ = some (.slice aw nw cw) := ((unhide hST).bel.cell (p := ⟨w.heap.size, 1, none⟩) (show w.heap.size < fb by omega)).trans (((unhide HBA).cell (p := ⟨w.heap.size, 1, none⟩) (show w.heap.size < fb by omega)).trans (unhide F1))
    by_cases hlt : k < nw
    · have hk3 : k < f.ws.length := by rw [(unhide HW).1]; exact hlt
      obtain ⟨bw, ow, ha, e0, ad, cd, e1, _, rd⟩ := (unhide HW).2 k hk3
      subst ha
      have hbw : bw < w.heap.size := cell_lt e0
      obtain ⟨m, t, hpd, hm127, hs16⟩ := okW_shape (unhide HA f.ws[k] (List.getElem_mem hk3))
      have hX1 := hide (show hs.map (·.X) ++ [f.ws[k]] = f.ws.take (k + 1) by rw [unhide hX, List.take_succ_eq_append_getElem hk3])
      have hsl : hs.length ≤ 4096 := by have := congrArg List.length (unhide hX); rw [List.length_map, List.length_take] at this; omega
      rw [hpd] at e0 e1 rd hX1
      simp only at e0 e1 rd
      rw [hs16] at e1 rd
      clear hpd hX
      obtain ⟨bd, od, had, _⟩ := rd.2 0 (by omega)
      subst had
      replace e0 := ((unhide BW).cell (p := ⟨bw, ow + k * 2, none⟩) hbw).trans e0
      replace e1 := ((unhide BW).cell (p := ⟨bw, ow + k * 2 + 1, none⟩) hbw).trans e1
      replace rd := row_grow rd (unhide BW)
      have bu1 : Below wr.heap.size wr (wr.drew.alloc (.cells #[] 5)) := (Below.refl wr.heap.size wr).drew.alloc (Nat.le_refl _) _
      have hO1 : Owns (wr.drew.alloc (.cells #[] 5)) wr.drew.heap.size (.slice (some ⟨wr.drew.heap.size, 0, none⟩) 0 0) [] := World.ownsRow_lit _ _ _ (Nat.le_refl _) (by unfold maxLen; simp) rfl
      obtain ⟨g2, cp, u2, hrun, ho2, _, hgr⟩ := sc_copy2 (c := cd) 22 hO1 (row_grow rd bu1) (by omega) (by simp)
      have bu2 : Below wr.heap.size wr u2 := bu1.grown hgr (by simp) (fun j hj => by injection hj with hj; rw [← hj]; exact Nat.le_refl _)
      have hfl := (unhide hST).lt
      have hg2 : wr.heap.size ≤ g2 ∧ g2 < u2.heap.size := World.ownsRow.lt ho2 g2 rfl
      have ST2 := hide ((unhide hST).below bu2)
      have D2 := hide (show qDat u2 (fb + 1) ⟨⟨(m : Int), t⟩, g2, cp⟩ from (by
        have ho2' : Owns u2 wr.heap.size (.slice (some ⟨g2, 0, none⟩) t.length cp) t := by rw [hs16]; exact ho2
        obtain ⟨a, c, e, hbr⟩ := br_of_owns ho2'
        injection e with e1 e2 e3
        subst e1
        exact ⟨by rw [e3]; exact hbr.row, fun x hx => ⟨Nat.le_trans (show fb + 1 ≤ wr.heap.size from hfl) (hbr.own x hx).1, (hbr.own x hx).2⟩⟩))
      have N2 := hide (show (∀ i (hi : i < hs.length), hs[i].g ≠ g2) ∧ v.ownBlock ≠ some g2 from ⟨fun i hi e => by have := (qDat.lt ((unhide hST).own.dat i hi)).2; omega, fun e => by have := ((unhide hST).own.row.lt g2 e).2; omega⟩)
      obtain ⟨v9, u9, hrun9, ho9, hg9, hn9⟩ := qw_app (h := ⟨⟨(m : Int), t⟩, g2, cp⟩) (unhide ST2).own (unhide D2) (unhide N2).1 (unhide N2).2 (show t.length ≤ cp by exact owns_cap (show Owns u2 wr.heap.size (.slice (some ⟨g2, 0, none⟩) t.length cp) t by rw [hs16]; exact ho2)) (by omega) (by have := bu2.size; omega)
      obtain ⟨g9, l9, cap9, rfl⟩ : ∃ g l c, v9 = .slice (some ⟨g, 0, none⟩) l c := by rcases ho9.row.2 with ⟨e, _⟩ | ⟨g9, cap9, _, e, _⟩; exact absurd e hn9; exact ⟨_, _, _, e⟩
      simp only [hs16] at hrun9 hg9
      have F9 := hide ((unhide ST2).put ho9 hg9)
      have SK := hide (show ∀ u, Below wr.heap.size wr u → u.cell? ⟨w.heap.size, 1, none⟩ = some (.slice (some ⟨bw, ow, none⟩) nw cw) ∧ u.cell? ⟨bw, ow + k * 2, none⟩ = some (.int .i64 (m : Int)) ∧ u.cell? ⟨bw, ow + k * 2 + 1, none⟩ = some (.slice (some ⟨bd, od, none⟩) 16 cd) from fun u hb => ⟨(hb.cell (p := ⟨w.heap.size, 1, none⟩) (cell_lt c1)).trans c1, (hb.cell (p := ⟨bw, ow + k * 2, none⟩) (cell_lt e0)).trans e0, (hb.cell (p := ⟨bw, ow + k * 2 + 1, none⟩) (cell_lt e1)).trans e1⟩)
      have BU1 := hide bu1
      have BU2 := hide bu2
      have BU3 := hide (show Below wr.heap.size wr (u2.alloc (.cells #[.int .i64 (m : Int), .slice (some ⟨g2, 0, none⟩) 16 cp] 87)) from bu2.alloc bu2.size _)
      have bk : ∀ j, j < wr.heap.size → v.ownBlock ≠ some j → u9.heap[j]? = wr.heap[j]? := fun j hj hne => (hg9.block j (by have := bu2.size; simp; omega) (fun e => hne e.symm)).trans ((unhide BU3).block j hj)
      have hvl : ∀ j, v.ownBlock = some j → fb + 1 ≤ j := fun j hj => ((unhide hST).own.row.lt j hj).1
      have E9 := hide (show u9.cell? ⟨w.heap.size, 1, none⟩ = some (.slice (some ⟨bw, ow, none⟩) nw cw) ∧ u9.cell? ⟨bw, ow + k * 2, none⟩ = some (.int .i64 (m : Int)) ∧ u9.cell? ⟨bw, ow + k * 2 + 1, none⟩ = some (.slice (some ⟨bd, od, none⟩) 16 cd) from ⟨(cell_of (bk _ (cell_lt c1) (fun e => by have : fb + 1 ≤ w.heap.size := hvl _ e; omega))).trans c1, (cell_of (bk _ (cell_lt e0) (fun e => by have : fb + 1 ≤ bw := hvl _ e; omega))).trans e0, (cell_of (bk _ (cell_lt e1) (fun e => by have : fb + 1 ≤ bw := hvl _ e; omega))).trans e1⟩)
      have Z9 := hide (heap_at ((bk fb hfl (fun e => by have := hvl _ e; omega)).trans (unhide hST).box) 1)
      have g1 : wr.cell? ⟨fb, 1, none⟩ = some v := (heap_at (unhide hST).box 1).1
      have Y1 := hide (show ∀ u, Below wr.heap.size wr u → u.cell? ⟨fb, 1, none⟩ = some v from fun u hb => (hb.cell (p := ⟨fb, 1, none⟩) hfl).trans g1)
      have hne1 : ¬ fb = w.heap.size := by omega
      have hne2 : ¬ fb = bw := by omega
      clear ho2 hgr hg2 ST2 D2 N2 ho9 hg9 hn9 bk hvl bu1 bu2 hO1 rd g1 hST
      go_upto_region 5 with fail
      refine wp_region_held_drew (S := (fun u => u.cell? ⟨w.heap.size, 1, none⟩ = some (.slice (some ⟨bw, ow, none⟩) nw cw) ∧ u.cell? ⟨bw, ow + k * 2, none⟩ = some (.int .i64 (m : Int)) ∧ u.cell? ⟨bw, ow + k * 2 + 1, none⟩ = some (.slice (some ⟨bd, od, none⟩) 16 cd))) (by kernel_rfl) (⟨c1, e0, e1⟩) (fun hHeld => ?_)
      refine anyH_take 0 17 (v := ?v1) rfl rfl (by kernel_rfl) (by kernel_rfl) (by kernel_rfl) (fun _ _ _ h => h) (by rfl) ?h1 hHeld ?r1
      case h1 => (intro w hSw; (try dsimp only at hSw); go_simp; try (with_reducible rfl))
      simp only [Act.put, List.setIfInBounds_toArray, List.set_cons_zero, List.set_cons_succ]
      refine anyH_take 2 19 (v := ?v2) rfl rfl (by kernel_rfl) (by kernel_rfl) (by kernel_rfl) (fun _ _ _ h => h) (by rfl) ?h2 hHeld ?r2
      case h2 => (intro w hSw; (try dsimp only at hSw); go_simp; try (with_reducible rfl))
      simp only [Act.put, List.setIfInBounds_toArray, List.set_cons_zero, List.set_cons_succ]
      refine anyH_take 3 20 (v := ?v3) rfl rfl (by kernel_rfl) (by kernel_rfl) (by kernel_rfl) (fun _ _ _ h => h) (by rfl) ?h3 hHeld ?r3
      case h3 => (intro w hSw; (try dsimp only at hSw); go_simp; try (with_reducible rfl))
      simp only [Act.put, List.setIfInBounds_toArray, List.set_cons_zero, List.set_cons_succ]
      refine anyH_take 4 21 (v := ?v4) rfl rfl (by kernel_rfl) (by kernel_rfl) (by kernel_rfl) (fun _ _ _ h => h) (by rfl) ?h4 hHeld ?r4
      case h4 => (intro w hSw; (try dsimp only at hSw); go_simp; try (with_reducible rfl))
      simp only [Act.put, List.setIfInBounds_toArray, List.set_cons_zero, List.set_cons_succ]
      refine anyH_take 5 22 (v := ?v5) rfl rfl (by kernel_rfl) (by kernel_rfl) (by kernel_rfl) (fun _ _ _ h => h) (by rfl) ?h5 hHeld ?r5
      case h5 => (intro w hSw; (try dsimp only at hSw); go_simp; try (with_reducible rfl))
      simp only [Act.put, List.setIfInBounds_toArray, List.set_cons_zero, List.set_cons_succ]
      refine anyH_take 6 23 (v := ?v6) rfl rfl (by kernel_rfl) (by kernel_rfl) (by kernel_rfl) (fun _ _ _ h => h) (by rfl) ?h6 hHeld ?r6
      case h6 => (intro w hSw; (try dsimp only at hSw); go_simp; try (with_reducible rfl))
      simp only [Act.put, List.setIfInBounds_toArray, List.set_cons_zero, List.set_cons_succ]
      refine anyH_take 7 24 (v := ?v7) rfl rfl (by kernel_rfl) (by kernel_rfl) (by kernel_rfl) (fun _ _ _ h => h) (by rfl) ?h7 hHeld ?r7
      case h7 => (intro w hSw; (try dsimp only at hSw); go_simp; try (with_reducible rfl))
      simp only [Act.put, List.setIfInBounds_toArray, List.set_cons_zero, List.set_cons_succ]
      refine anyH_take 9 26 (v := ?v8) rfl rfl (by kernel_rfl) (by kernel_rfl) (by kernel_rfl) (fun _ _ _ h => h) (by rfl) ?h8 hHeld ?r8
      case h8 => (intro w hSw; (try dsimp only at hSw); go_simp; try (with_reducible rfl))
      simp only [Act.put, List.setIfInBounds_toArray, List.set_cons_zero, List.set_cons_succ]
      refine anyH_take 10 27 (v := ?v9) rfl rfl (by kernel_rfl) (by kernel_rfl) (by kernel_rfl) (fun _ _ _ h => h) (by rfl) ?h9 hHeld ?r9
      case h9 => (intro w hSw; (try dsimp only at hSw); go_simp; try (with_reducible rfl))
      simp only [Act.put, List.setIfInBounds_toArray, List.set_cons_zero, List.set_cons_succ]
      refine anyH_take 11 28 (v := ?v10) rfl rfl (by kernel_rfl) (by kernel_rfl) (by kernel_rfl) (fun _ _ _ h => h) (by rfl) ?h10 hHeld ?r10
      case h10 => (intro w hSw; (try dsimp only at hSw); go_simp; try (with_reducible rfl))
      simp only [Act.put, List.setIfInBounds_toArray, List.set_cons_zero, List.set_cons_succ]
      refine anyH_take 12 29 (v := ?v11) rfl rfl (by kernel_rfl) (by kernel_rfl) (by kernel_rfl) (fun _ _ _ h => h) (by rfl) ?h11 hHeld ?r11
      case h11 => (intro w hSw; (try dsimp only at hSw); go_simp; try (with_reducible rfl))
      simp only [Act.put, List.setIfInBounds_toArray, List.set_cons_zero, List.set_cons_succ]
      refine anyH_take 13 30 (v := ?v12) rfl rfl (by kernel_rfl) (by kernel_rfl) (by kernel_rfl) (fun _ _ _ h => h) (by rfl) ?h12 hHeld ?r12
      case h12 => (intro w hSw; (try dsimp only at hSw); go_simp; try (with_reducible rfl))
      simp only [Act.put, List.setIfInBounds_toArray, List.set_cons_zero, List.set_cons_succ]
      refine anyH_take 14 31 (v := ?v13) rfl rfl (by kernel_rfl) (by kernel_rfl) (by kernel_rfl) (fun _ _ _ h => h) (by rfl) ?h13 hHeld ?r13
      case h13 => (intro w hSw; (try dsimp only at hSw); go_simp; try (with_reducible rfl))
      simp only [Act.put, List.setIfInBounds_toArray, List.set_cons_zero, List.set_cons_succ]
      refine wpAnyH_ready (rs := [1, 8]) (by kernel_rfl) (by simp) ?_
      refine AllReadyH.cons rfl (fun K hK => ?_) (AllReadyH.cons rfl (fun K hK => ?_) AllReadyH.nil)
      · have y1 : wr.drew.cell? ⟨fb, 1, none⟩ = some v := unhide Y1 _ ((Below.refl wr.heap.size wr).drew)
        go_simp
        refine hK.out _ _ (hHeld) (fun hHeld => ?_)
        clear hK K
        refine wpAnyH_ready (rs := [8]) (by kernel_rfl) (by simp) ?_
        refine AllReadyH.cons rfl (fun K hK => ?_) AllReadyH.nil
        go_simp
        refine hK.out _ _ (unhide SK _ (unhide BU1)) (fun hHeld => ?_)
        clear hK K
        refine wpAnyH_ready (rs := [15]) (by kernel_rfl) (by simp) ?_
        refine AllReadyH.cons rfl (fun K hK => ?_) AllReadyH.nil
        refine sc_stepApp rfl (.tmp 25) (.tmp 31) 22 rfl _ _ _ u2 (by first | rfl | (simp [Act.eval]; done) | (simp [Act.eval, Act.put]; done)) (by first | rfl | (simp [Act.eval]; done) | (simp [Act.eval, Act.put]; done)) hrun ?_
        refine hK.out _ _ (unhide SK _ (unhide BU2)) (fun hHeld => ?_)
        clear hK K
        refine anyH_take 16 33 (v := ?v14) rfl rfl (by kernel_rfl) (by kernel_rfl) (by kernel_rfl) (fun _ _ _ h => h) (by rfl) ?h14 hHeld ?r14
        case h14 => (intro w hSw; (try dsimp only at hSw); go_simp; try (with_reducible rfl))
        simp only [Act.put, List.setIfInBounds_toArray]
        refine wpAnyH_ready (rs := [17]) (by kernel_rfl) (by simp) ?_
        refine AllReadyH.cons rfl (fun K hK => ?_) AllReadyH.nil
        go_simp
        refine hK.out _ _ (unhide SK _ (unhide BU3)) (fun hHeld => ?_)
        clear hK K
        refine wpAnyH_ready (rs := [18]) (by kernel_rfl) (by simp) ?_
        refine AllReadyH.cons rfl (fun K hK => ?_) AllReadyH.nil
        refine sc_stepApp rfl (.tmp 18) (.tmp 34) 26 rfl _ _ _ u9 (by first | rfl | (simp [Act.eval]; done) | (simp [Act.eval, Act.put]; done)) (by first | rfl | (simp [Act.eval]; done) | (simp [Act.eval, Act.put]; done)) hrun9 ?_
        refine hK.out _ _ (unhide E9) (fun hHeld => ?_)
        clear hK K
        refine anyH_take 19 36 (v := ?v15) rfl rfl (by kernel_rfl) (by kernel_rfl) (by kernel_rfl) (fun _ _ _ h => h) (by rfl) ?h15 hHeld ?r15
        case h15 => (intro w hSw; (try dsimp only at hSw); go_simp; try (with_reducible rfl))
        simp only [Act.put, List.setIfInBounds_toArray]
        refine wpAnyH_ready (rs := [20]) (by kernel_rfl) (by simp) ?_
        refine AllReadyH.cons rfl (fun K hK => ?_) AllReadyH.nil
        have z1 := (unhide Z9).1
        have z2 := (unhide Z9).2
        have HS9 := show (u9.setCell ⟨fb, 1, none⟩ (.slice (some ⟨g9, 0, none⟩) l9 cap9)).cell? ⟨w.heap.size, 1, none⟩ = some (.slice (some ⟨bw, ow, none⟩) nw cw) ∧ (u9.setCell ⟨fb, 1, none⟩ (.slice (some ⟨g9, 0, none⟩) l9 cap9)).cell? ⟨bw, ow + k * 2, none⟩ = some (.int .i64 (m : Int)) ∧ (u9.setCell ⟨fb, 1, none⟩ (.slice (some ⟨g9, 0, none⟩) l9 cap9)).cell? ⟨bw, ow + k * 2 + 1, none⟩ = some (.slice (some ⟨bd, od, none⟩) 16 cd) from ⟨(World.cell?_setCell_other _ _ _ _ (by intro e; injection e with e; exact absurd e hne1)).trans (unhide E9).1, (World.cell?_setCell_other _ _ _ _ (by intro e; injection e with e; exact absurd e hne2)).trans (unhide E9).2.1, (World.cell?_setCell_other _ _ _ _ (by intro e; injection e with e; exact absurd e hne2)).trans (unhide E9).2.2⟩
        go_simp
        refine hK.out _ _ (HS9) (fun hHeld => ?_)
        clear hK K
        refine wpAnyH_done (by kernel_rfl) ?_ _
        clear hrun hrun9
        go_wp2_with fail
        go_roundw
        case rel => exact ⟨k + 1, _, _, by omega, by go_num, unhide F9, by show List.map _ _ = _; rw [List.map_append]; exact unhide hX1⟩
        case measure => simp [intOf]; omega
      · go_simp
        refine hK.out _ _ (unhide SK _ (unhide BU1)) (fun hHeld => ?_)
        clear hK K
        refine wpAnyH_ready (rs := [1, 15]) (by kernel_rfl) (by simp) ?_
        refine AllReadyH.cons rfl (fun K hK => ?_) (AllReadyH.cons rfl (fun K hK => ?_) AllReadyH.nil)
        · have y1 : (wr.alloc (.cells #[] 5)).drew.cell? ⟨fb, 1, none⟩ = some v := unhide Y1 _ (unhide BU1)
          have y2 : (wr.alloc (.cells #[] 5)).cell? ⟨fb, 1, none⟩ = some v := unhide Y1 _ ((Below.refl wr.heap.size wr).alloc (Nat.le_refl _) _)
          go_simp
          refine hK.out _ _ (hHeld) (fun hHeld => ?_)
          clear hK K
          refine wpAnyH_ready (rs := [15]) (by kernel_rfl) (by simp) ?_
          refine AllReadyH.cons rfl (fun K hK => ?_) AllReadyH.nil
          refine sc_stepApp rfl (.tmp 25) (.tmp 31) 22 rfl _ _ _ u2 (by first | rfl | (simp [Act.eval]; done) | (simp [Act.eval, Act.put]; done)) (by first | rfl | (simp [Act.eval]; done) | (simp [Act.eval, Act.put]; done)) hrun ?_
          refine hK.out _ _ (unhide SK _ (unhide BU2)) (fun hHeld => ?_)
          clear hK K
          refine anyH_take 16 33 (v := ?v16) rfl rfl (by kernel_rfl) (by kernel_rfl) (by kernel_rfl) (fun _ _ _ h => h) (by rfl) ?h16 hHeld ?r16
          case h16 => (intro w hSw; (try dsimp only at hSw); go_simp; try (with_reducible rfl))
          simp only [Act.put, List.setIfInBounds_toArray]
          refine wpAnyH_ready (rs := [17]) (by kernel_rfl) (by simp) ?_
          refine AllReadyH.cons rfl (fun K hK => ?_) AllReadyH.nil
          go_simp
          refine hK.out _ _ (unhide SK _ (unhide BU3)) (fun hHeld => ?_)
          clear hK K
          refine wpAnyH_ready (rs := [18]) (by kernel_rfl) (by simp) ?_
          refine AllReadyH.cons rfl (fun K hK => ?_) AllReadyH.nil
          refine sc_stepApp rfl (.tmp 18) (.tmp 34) 26 rfl _ _ _ u9 (by first | rfl | (simp [Act.eval]; done) | (simp [Act.eval, Act.put]; done)) (by first | rfl | (simp [Act.eval]; done) | (simp [Act.eval, Act.put]; done)) hrun9 ?_
          refine hK.out _ _ (unhide E9) (fun hHeld => ?_)
          clear hK K
          refine anyH_take 19 36 (v := ?v17) rfl rfl (by kernel_rfl) (by kernel_rfl) (by kernel_rfl) (fun _ _ _ h => h) (by rfl) ?h17 hHeld ?r17
          case h17 => (intro w hSw; (try dsimp only at hSw); go_simp; try (with_reducible rfl))
          simp only [Act.put, List.setIfInBounds_toArray]
          refine wpAnyH_ready (rs := [20]) (by kernel_rfl) (by simp) ?_
          refine AllReadyH.cons rfl (fun K hK => ?_) AllReadyH.nil
          have z1 := (unhide Z9).1
          have z2 := (unhide Z9).2
          have HS9 := show (u9.setCell ⟨fb, 1, none⟩ (.slice (some ⟨g9, 0, none⟩) l9 cap9)).cell? ⟨w.heap.size, 1, none⟩ = some (.slice (some ⟨bw, ow, none⟩) nw cw) ∧ (u9.setCell ⟨fb, 1, none⟩ (.slice (some ⟨g9, 0, none⟩) l9 cap9)).cell? ⟨bw, ow + k * 2, none⟩ = some (.int .i64 (m : Int)) ∧ (u9.setCell ⟨fb, 1, none⟩ (.slice (some ⟨g9, 0, none⟩) l9 cap9)).cell? ⟨bw, ow + k * 2 + 1, none⟩ = some (.slice (some ⟨bd, od, none⟩) 16 cd) from ⟨(World.cell?_setCell_other _ _ _ _ (by intro e; injection e with e; exact absurd e hne1)).trans (unhide E9).1, (World.cell?_setCell_other _ _ _ _ (by intro e; injection e with e; exact absurd e hne2)).trans (unhide E9).2.1, (World.cell?_setCell_other _ _ _ _ (by intro e; injection e with e; exact absurd e hne2)).trans (unhide E9).2.2⟩
          go_simp
          refine hK.out _ _ (HS9) (fun hHeld => ?_)
          clear hK K
          refine wpAnyH_done (by kernel_rfl) ?_ _
          clear hrun hrun9
          go_wp2_with fail
          go_roundw
          case rel => exact ⟨k + 1, _, _, by omega, by go_num, unhide F9, by show List.map _ _ = _; rw [List.map_append]; exact unhide hX1⟩
          case measure => simp [intOf]; omega
        · refine sc_stepApp rfl (.tmp 25) (.tmp 31) 22 rfl _ _ _ u2 (by first | rfl | (simp [Act.eval]; done) | (simp [Act.eval, Act.put]; done)) (by first | rfl | (simp [Act.eval]; done) | (simp [Act.eval, Act.put]; done)) hrun ?_
          refine hK.out _ _ (unhide SK _ (unhide BU2)) (fun hHeld => ?_)
          clear hK K
          refine anyH_take 16 33 (v := ?v18) rfl rfl (by kernel_rfl) (by kernel_rfl) (by kernel_rfl) (fun _ _ _ h => h) (by rfl) ?h18 hHeld ?r18
          case h18 => (intro w hSw; (try dsimp only at hSw); go_simp; try (with_reducible rfl))
          simp only [Act.put, List.setIfInBounds_toArray]
          refine wpAnyH_ready (rs := [1, 17]) (by kernel_rfl) (by simp) ?_
          refine AllReadyH.cons rfl (fun K hK => ?_) (AllReadyH.cons rfl (fun K hK => ?_) AllReadyH.nil)
          · have y1 : u2.cell? ⟨fb, 1, none⟩ = some v := unhide Y1 _ (unhide BU2)
            go_simp
            refine hK.out _ _ (hHeld) (fun hHeld => ?_)
            clear hK K
            refine wpAnyH_ready (rs := [17]) (by kernel_rfl) (by simp) ?_
            refine AllReadyH.cons rfl (fun K hK => ?_) AllReadyH.nil
            go_simp
            refine hK.out _ _ (unhide SK _ (unhide BU3)) (fun hHeld => ?_)
            clear hK K
            refine wpAnyH_ready (rs := [18]) (by kernel_rfl) (by simp) ?_
            refine AllReadyH.cons rfl (fun K hK => ?_) AllReadyH.nil
            refine sc_stepApp rfl (.tmp 18) (.tmp 34) 26 rfl _ _ _ u9 (by first | rfl | (simp [Act.eval]; done) | (simp [Act.eval, Act.put]; done)) (by first | rfl | (simp [Act.eval]; done) | (simp [Act.eval, Act.put]; done)) hrun9 ?_
            refine hK.out _ _ (unhide E9) (fun hHeld => ?_)
            clear hK K
            refine anyH_take 19 36 (v := ?v19) rfl rfl (by kernel_rfl) (by kernel_rfl) (by kernel_rfl) (fun _ _ _ h => h) (by rfl) ?h19 hHeld ?r19
            case h19 => (intro w hSw; (try dsimp only at hSw); go_simp; try (with_reducible rfl))
            simp only [Act.put, List.setIfInBounds_toArray]
            refine wpAnyH_ready (rs := [20]) (by kernel_rfl) (by simp) ?_
            refine AllReadyH.cons rfl (fun K hK => ?_) AllReadyH.nil
            have z1 := (unhide Z9).1
            have z2 := (unhide Z9).2
            have HS9 := show (u9.setCell ⟨fb, 1, none⟩ (.slice (some ⟨g9, 0, none⟩) l9 cap9)).cell? ⟨w.heap.size, 1, none⟩ = some (.slice (some ⟨bw, ow, none⟩) nw cw) ∧ (u9.setCell ⟨fb, 1, none⟩ (.slice (some ⟨g9, 0, none⟩) l9 cap9)).cell? ⟨bw, ow + k * 2, none⟩ = some (.int .i64 (m : Int)) ∧ (u9.setCell ⟨fb, 1, none⟩ (.slice (some ⟨g9, 0, none⟩) l9 cap9)).cell? ⟨bw, ow + k * 2 + 1, none⟩ = some (.slice (some ⟨bd, od, none⟩) 16 cd) from ⟨(World.cell?_setCell_other _ _ _ _ (by intro e; injection e with e; exact absurd e hne1)).trans (unhide E9).1, (World.cell?_setCell_other _ _ _ _ (by intro e; injection e with e; exact absurd e hne2)).trans (unhide E9).2.1, (World.cell?_setCell_other _ _ _ _ (by intro e; injection e with e; exact absurd e hne2)).trans (unhide E9).2.2⟩
            go_simp
            refine hK.out _ _ (HS9) (fun hHeld => ?_)
            clear hK K
            refine wpAnyH_done (by kernel_rfl) ?_ _
            clear hrun hrun9
            go_wp2_with fail
            go_roundw
            case rel => exact ⟨k + 1, _, _, by omega, by go_num, unhide F9, by show List.map _ _ = _; rw [List.map_append]; exact unhide hX1⟩
            case measure => simp [intOf]; omega
          · go_simp
            refine hK.out _ _ (unhide SK _ (unhide BU3)) (fun hHeld => ?_)
            clear hK K
            refine wpAnyH_ready (rs := [1]) (by kernel_rfl) (by simp) ?_
            refine AllReadyH.cons rfl (fun K hK => ?_) AllReadyH.nil
            have y1 : (u2.alloc (.cells #[.int .i64 (m : Int), .slice (some ⟨g2, 0, none⟩) 16 cp] 87)).cell? ⟨fb, 1, none⟩ = some v := unhide Y1 _ (unhide BU3)
            go_simp
            refine hK.out _ _ (hHeld) (fun hHeld => ?_)
            clear hK K
            refine wpAnyH_ready (rs := [18]) (by kernel_rfl) (by simp) ?_
            refine AllReadyH.cons rfl (fun K hK => ?_) AllReadyH.nil
            refine sc_stepApp rfl (.tmp 18) (.tmp 34) 26 rfl _ _ _ u9 (by first | rfl | (simp [Act.eval]; done) | (simp [Act.eval, Act.put]; done)) (by first | rfl | (simp [Act.eval]; done) | (simp [Act.eval, Act.put]; done)) hrun9 ?_
            refine hK.out _ _ (unhide E9) (fun hHeld => ?_)
            clear hK K
            refine anyH_take 19 36 (v := ?v20) rfl rfl (by kernel_rfl) (by kernel_rfl) (by kernel_rfl) (fun _ _ _ h => h) (by rfl) ?h20 hHeld ?r20
            case h20 => (intro w hSw; (try dsimp only at hSw); go_simp; try (with_reducible rfl))
            simp only [Act.put, List.setIfInBounds_toArray]
            refine wpAnyH_ready (rs := [20]) (by kernel_rfl) (by simp) ?_
            refine AllReadyH.cons rfl (fun K hK => ?_) AllReadyH.nil
            have z1 := (unhide Z9).1
            have z2 := (unhide Z9).2
            have HS9 := show (u9.setCell ⟨fb, 1, none⟩ (.slice (some ⟨g9, 0, none⟩) l9 cap9)).cell? ⟨w.heap.size, 1, none⟩ = some (.slice (some ⟨bw, ow, none⟩) nw cw) ∧ (u9.setCell ⟨fb, 1, none⟩ (.slice (some ⟨g9, 0, none⟩) l9 cap9)).cell? ⟨bw, ow + k * 2, none⟩ = some (.int .i64 (m : Int)) ∧ (u9.setCell ⟨fb, 1, none⟩ (.slice (some ⟨g9, 0, none⟩) l9 cap9)).cell? ⟨bw, ow + k * 2 + 1, none⟩ = some (.slice (some ⟨bd, od, none⟩) 16 cd) from ⟨(World.cell?_setCell_other _ _ _ _ (by intro e; injection e with e; exact absurd e hne1)).trans (unhide E9).1, (World.cell?_setCell_other _ _ _ _ (by intro e; injection e with e; exact absurd e hne2)).trans (unhide E9).2.1, (World.cell?_setCell_other _ _ _ _ (by intro e; injection e with e; exact absurd e hne2)).trans (unhide E9).2.2⟩
            go_simp
            refine hK.out _ _ (HS9) (fun hHeld => ?_)
            clear hK K
            refine wpAnyH_done (by kernel_rfl) ?_ _
            clear hrun hrun9
            go_wp2_with fail
            go_roundw
            case rel => exact ⟨k + 1, _, _, by omega, by go_num, unhide F9, by show List.map _ _ = _; rw [List.map_append]; exact unhide hX1⟩
            case measure => simp [intOf]; omega
    · obtain rfl : k = nw := by omega
      have BE : Below fb w1 wr := (unhide HBA).trans (unhide hST).bel
      obtain ⟨av, nv, cv, rfl⟩ : ∃ a n c, v = .slice a n c := by
        rcases (unhide hST).own.row.2 with ⟨e, _⟩ | ⟨g9, cap9, _, e, _⟩
        · exact ⟨none, 0, 0, e⟩
        · exact ⟨_, _, _, e⟩
      have QB := hide ((BE.block (w.heap.size + 1) (by omega)).trans (unhide Q1))
      have q0 := (heap_at (unhide QB) 0).1
      have q1 := (heap_at (unhide QB) 1).1
      have z0 := (heap_at (unhide QB) 0).2
      have z1 := (heap_at (unhide QB) 1).2
      have b0 : wr.cell? ⟨fb, 0, none⟩ = some hv := (heap_at (unhide hST).box 0).1
      have b1 : wr.cell? ⟨fb, 1, none⟩ = some (.slice av nv cv) := (heap_at (unhide hST).box 1).1
      rw [unhide HHV] at b0
      have hfl := (unhide hST).lt
      have hwl : w.heap.size + 1 < wr.heap.size := by omega
      have hne : ¬ fb = w.heap.size + 1 := by omega
      have M1 := hide (rn_mine_below (unhide HM) (show Below w1.heap.size w1 wr by rw [unhide HFB]; exact BE))
      have HXX := hide (show hs.map (·.X) = f.ws by rw [unhide hX, List.take_of_length_le (by rw [(unhide HW).1]; exact Nat.le_refl _)])
      have R := hide (show FlRes f.xs f.ws w (.returned (.agg #[.slice (some ⟨g, 0, none⟩) n cap, .slice av nv cv])) ((wr.setCell ⟨w.heap.size + 1, 0, none⟩ (.slice (some ⟨g, 0, none⟩) n cap)).setCell ⟨w.heap.size + 1, 1, none⟩ (.slice av nv cv)) from by
        have W : WrB (fun i => i = w.heap.size + 1) wr ((wr.setCell ⟨w.heap.size + 1, 0, none⟩ (.slice (some ⟨g, 0, none⟩) n cap)).setCell ⟨w.heap.size + 1, 1, none⟩ (.slice av nv cv)) := ⟨rfl, rfl, rfl, by simp [World.setCell], fun k _ hk => (Below.heap_setCell _ _ _ _ hk).trans (Below.heap_setCell _ _ _ _ hk)⟩
        exact ⟨g, cap, fb + 1, .slice av nv cv, hs, by rw [unhide HXL], mine_mono (mine_set (mine_set (unhide M1) (show w.heap.size + 1 < w.heap.size + 1 + 1 by omega) 0 _) (show w.heap.size + 1 < w.heap.size + 1 + 1 by omega) 1 _) (by omega), (unhide hST).own.wr W (fun i hi e => by have := ((unhide hST).own.lt i hi).1; omega), by omega, by omega, unhide HXX, ((unhide BW).setCell (p := ⟨w.heap.size + 1, 0, none⟩) (Nat.le_succ _) _).setCell (p := ⟨w.heap.size + 1, 1, none⟩) (Nat.le_succ _) _⟩)
      clear BE hX
      go_wp2_with fail
      exact bodyPost_ret (v := .agg #[.slice (some ⟨g, 0, none⟩) n cap, .slice av nv cv]) (by simp [results, Try.results28, go_sem, q0, q1]) rfl (unhide R)
end Go.Proofs.Ytjhmammoakiknaa

namespace Go.Proofs.Ytjhmammoakiknaa
open Go.RowKit Go.Maps

theorem ru_lit {l : List ActD} {k : Int} (he : ru l = ([], ⟨[], []⟩, k)) {w w' : World} {g : Nat} (hb : Below w.heap.size w w') (hn : NOwns w' w.heap.size (.slice (some ⟨g, 0, none⟩) 0 0) []) (hg : g < w'.heap.size) : RuRes l w (.returned (.tuple #[.slice (some ⟨g, 0, none⟩) 0 0, .agg #[.slice none 0 0, .slice none 0 0], .int .i64 k])) w' := by
  unfold RuRes
  rw [he]
  exact ⟨.slice (some ⟨g, 0, none⟩) 0 0, none, 0, .slice none 0 0, [], w'.heap.size, rfl, hn, ru_none _ _, QwOwn.nil _ _, rfl, hb.size, (fun _ h => by cases h; exact ⟨hg, fun _ h => by cases h⟩), (fun _ h => by cases h), hb⟩
/-- What the loop keeps: the box of the device, the device, the codes. -/
structure RtSt (w1 wr : World) (B : Nat) (v : Value) (ah : Option Addr) (n c : Nat) (aw : Option Addr) (nw cw : Nat) (f : FD) (cs : List Int) : Prop where
  bel : Below B w1 wr
  box : wr.heap[B]? = some (.cells #[.slice ah n c, .slice aw nw cw] 28 (0, 0))
  dev : SF wr ah n c aw nw cw f
  cod : NOwns wr (B + 1) v cs
theorem keepI_app {Y w4 : World} {B : Nat} {v : Value} {cs : List Int} {o : Obj} (ho : NOwns Y B v cs) (hg : (Y.alloc o).grownBy w4 v.ownBlock) : KeepI Y w4 := fun i c t f hi ht => by
  have hl := (Array.getElem?_eq_some_iff.1 hi).1
  refine (hg.block i (by simp; omega) (fun e => ?_)).trans (((Below.refl Y.heap.size Y).alloc (Nat.le_refl _) o).block i hl)
  rcases ho.2 with ⟨rfl, _⟩ | ⟨g', cap, cur, rfl, _, hh, _⟩
  · cases e
  · injection e with e
    have e : i = g' := e
    subst e
    rw [hh] at hi
    injection hi with hi
    injection hi with _ hi
    exact ht hi.symm
/-- One act more: the device goes into its box, the code behind the codes. -/
theorem RtSt.next {w1 wr X : World} {B : Nat} {v : Value} {ah : Option Addr} {n c : Nat} {aw : Option Addr} {nw cw : Nat} {f : FD} {cs : List Int} (h : RtSt w1 wr B v ah n c aw nw cw f cs) (bX : Below wr.heap.size wr X) {ah3 : Option Addr} {m3 c3 : Nat} {aw3 : Option Addr} {nw3 cw3 : Nat} {f3 : FD} (sX : SF X ah3 m3 c3 aw3 nw3 cw3 f3) (hcs : cs.length ≤ 1000000) (cd : Int) :
    ∃ v4 w4, (Builtin.append_ #[25, 25] 25 #[v, .slice (some ⟨X.heap.size, 0, none⟩) 1 1]).run Try.prog (((X.setCell ⟨B, 0, none⟩ (.slice ah3 m3 c3)).setCell ⟨B, 1, none⟩ (.slice aw3 nw3 cw3)).alloc (.cells #[.int .i64 cd] 3)) = .ok v4 w4 ∧ RtSt w1 w4 B v4 ah3 m3 c3 aw3 nw3 cw3 f3 (cs ++ [cd]) ∧ ∃ g m c, v4 = .slice (some ⟨g, 0, none⟩) m c := by
  have hBl : B < wr.heap.size := (Array.getElem?_eq_some_iff.1 h.box).1
  have kX := (bX.block B hBl).trans h.box
  obtain ⟨Y, hY⟩ : ∃ Y, Y = (X.setCell ⟨B, 0, none⟩ (.slice ah3 m3 c3)).setCell ⟨B, 1, none⟩ (.slice aw3 nw3 cw3) := ⟨_, rfl⟩
  have sY : SF Y ah3 m3 c3 aw3 nw3 cw3 f3 := by rw [hY]; exact sX.box kX _ _
  have zY : Y.heap.size = X.heap.size := by rw [hY]; simp [World.setCell]
  have kY : Y.heap[B]? = some (.cells #[.slice ah3 m3 c3, .slice aw3 nw3 cw3] 28 (0, 0)) := by
    have h1 := heap_set kX 0 (.slice ah3 m3 c3)
    have h2 := heap_set h1 1 (.slice aw3 nw3 cw3)
    rw [hY]
    simpa using h2
  have bY : Below B w1 Y := by rw [hY]; exact ((h.bel.trans (bX.mono (by omega))).setCell (p := ⟨B, 0, none⟩) (Nat.le_refl _) _).setCell (p := ⟨B, 1, none⟩) (Nat.le_refl _) _
  have W : WrB (fun i => i = B) X Y := by rw [hY]; exact ⟨rfl, rfl, rfl, by simp [World.setCell], fun k _ hk => (Below.heap_setCell _ _ _ _ hk).trans (Below.heap_setCell _ _ _ _ hk)⟩
  have oY : NOwns Y (B + 1) v cs := rr_owns_wr (nowns_below h.cod bX) W (fun i hi e => by have := (h.cod.lt i hi).1; omega)
  have s0 := bX.size
  obtain ⟨v4, w4, hrun, ho4, hg4, hn4, _⟩ := n_app (x := cd) oY hcs (by omega)
  rw [zY, hY] at hrun
  refine ⟨v4, w4, hrun, ⟨?_, ?_, ?_, ho4⟩, ?_⟩
  · exact (bY.alloc (by omega) _).grown hg4 (by simp; omega) (fun j hj => by have := (oY.lt j hj).1; omega)
  · exact (keepI_app oY hg4 B _ _ _ kY (by decide)).trans kY
  · exact sY.keep (keepI_app oY hg4)
  · rcases ho4.2 with ⟨e, _⟩ | ⟨g9, cap9, _, e, _⟩
    · exact absurd e hn4
    · exact ⟨_, _, _, e⟩
set_option maxRecDepth 100000 in
set_option maxHeartbeats 8000000 in
theorem specFlashRun_any (a : Option Addr) (n c : Nat) (zs : List ZaR) (l : List ActD) (w : World) (hA : AIn w a n zs l) (hn : n ≤ 1048576) :
    Calls Try.prog 7 #[.slice a n c] w fun e w' => RuRes l w e w' := by
  have hzl : zs.length = n := hA.row.1
  have hll : l.length = n := by rw [← hA.len]; exact hzl
  have bb : ∀ o, Below w.heap.size w (w.alloc o) := fun o => (Below.refl _ _).alloc (Nat.le_refl _) _
  by_cases h1 : 4096 < n
  · have R := hide (fun W (hb : Below w.heap.size w W) g hn hg => ru_lit (w' := W) (g := g) (ru_long (l := l) (by omega)) hb hn hg)
    clear hzl hll hA
    go_enter Try.func7, Try.ntmps7
    go_wp2_with fail
    refine bodyPost_ret (v := .tuple #[.slice (some ⟨w.heap.size + 1, 0, none⟩) 0 0, .agg #[.slice none 0 0, .slice none 0 0], .int .i64 2]) (by simp [results, Try.results7, go_sem]) rfl (unhide R _ ?_ _ ?_ ?_)
    · exact ((bb _).alloc (by simp) _)
    · exact (by have h := NOwns.lit (w := w.alloc (.cells #[.slice none 0 0, .slice none 0 0] 28)) (B := w.heap.size) (by simp); rwa [show (w.alloc (.cells #[.slice none 0 0, .slice none 0 0] 28)).heap.size = w.heap.size + 1 by simp] at h)
    · simp
  · by_cases h2 : 120 < n
    · have R := hide (fun W (hb : Below w.heap.size w W) g hn hg => ru_lit (w' := W) (g := g) (ru_many (l := l) (by omega) (by omega)) hb hn hg)
      clear hzl hll hA
      go_enter Try.func7, Try.ntmps7
      go_wp2_with fail
      refine bodyPost_ret (v := .tuple #[.slice (some ⟨w.heap.size + 1, 0, none⟩) 0 0, .agg #[.slice none 0 0, .slice none 0 0], .int .i64 6]) (by simp [results, Try.results7, go_sem]) rfl (unhide R _ ?_ _ ?_ ?_)
      · exact ((bb _).alloc (by simp) _)
      · exact (by have h := NOwns.lit (w := w.alloc (.cells #[.slice none 0 0, .slice none 0 0] 28)) (B := w.heap.size) (by simp); rwa [show (w.alloc (.cells #[.slice none 0 0, .slice none 0 0] 28)).heap.size = w.heap.size + 1 by simp] at h)
      · simp
    · have HA := hide hA
      have RU := hide (ru_all (l := l) (by omega))
      have HLL := hide hll
      have HZL := hide hzl
      obtain ⟨W3, hW3⟩ : ∃ W3, W3 = ((w.alloc (.cells #[.slice none 0 0, .slice none 0 0] 28)).alloc (.cells #[.slice none 0 0, .slice none 0 0] 28)).alloc (.cells #[] 3) := ⟨_, rfl⟩
      have z1 : (w.alloc (.cells #[.slice none 0 0, .slice none 0 0] 28)).heap.size = w.heap.size + 1 := by simp
      have z2 : ((w.alloc (.cells #[.slice none 0 0, .slice none 0 0] 28)).alloc (.cells #[.slice none 0 0, .slice none 0 0] 28)).heap.size = w.heap.size + 2 := by simp
      have z3 : W3.heap.size = w.heap.size + 3 := by rw [hW3]; simp
      have b3 : Below w.heap.size w W3 := by rw [hW3]; exact ((bb _).alloc (by simp) _).alloc (by simp; omega) _
      have q0 : W3.heap[w.heap.size]? = some (.cells #[.slice none 0 0, .slice none 0 0] 28 (0, 0)) := by
        rw [hW3, Below.heap_alloc _ _ _ (by rw [z2]; omega), Below.heap_alloc _ _ _ (by rw [z1]; omega)]
        exact heap_alloc_last _ _
      have q1 : W3.heap[w.heap.size + 1]? = some (.cells #[.slice none 0 0, .slice none 0 0] 28 (0, 0)) := by
        rw [hW3, Below.heap_alloc _ _ _ (by rw [z2]; omega), ← z1]
        exact heap_alloc_last _ _
      have n3 : NOwns W3 (w.heap.size + 1 + 1) (.slice (some ⟨w.heap.size + 2, 0, none⟩) 0 0) [] := by
        rw [hW3, ← z2]
        exact NOwns.lit (by omega)
      have S0 := hide (show RtSt W3 W3 (w.heap.size + 1) (.slice (some ⟨w.heap.size + 2, 0, none⟩) 0 0) none 0 0 none 0 0 (runD (l.take 0)).1 (runD (l.take 0)).2 from ⟨Below.refl _ _, q1, ⟨⟨rfl, fun _ hi => absurd hi (Nat.not_lt_zero _)⟩, .inl ⟨rfl, rfl, rfl⟩, ⟨rfl, fun _ hi => absurd hi (Nat.not_lt_zero _)⟩, fun _ => ⟨rfl, rfl⟩, KindA.none _ _, WKind.nil _ _ (KindA.none _ _), rfl, Nat.zero_le _, Nat.zero_le _, fun _ h => by cases h⟩, n3⟩)
      have Q0 := hide q0
      have B3 := hide b3
      clear hA hzl hll bb q0 q1 n3 b3 z1 z2
      go_enter Try.func7, Try.ntmps7
      go_wp2_with fail
      rw [← hW3]
      clear hW3
      go_loopw [6, 7] (fun cv i wr => ∃ (k : Nat) (v : Value) (ah : Option Addr) (m c : Nat) (aw : Option Addr) (nw cw : Nat), k ≤ n ∧ v = cv ∧ i = .int .i64 (k : Int) ∧ Hid (RtSt W3 wr (w.heap.size + 1) v ah m c aw nw cw (runD (l.take k)).1 (runD (l.take k)).2)) (fun _ i _ => n - (intOf i).toNat)
      case atStart => exact ⟨0, _, none, 0, 0, none, 0, 0, Nat.zero_le _, rfl, rfl, unhide S0⟩
      case round =>
        clear S0
        obtain ⟨k, v, ah, m, c5, aw, nw, cw, hk, rfl, rfl, hS⟩ := hrel
        have hsz : w.heap.size + 3 ≤ wr.heap.size := by have := (unhide hS).bel.size; omega
        have BW := hide ((unhide B3).trans ((unhide hS).bel.mono (by omega)))
        have c0 : wr.cell? ⟨w.heap.size + 1, 0, none⟩ = some (.slice ah m c5) := (heap_at (unhide hS).box 0).1
        have c1 : wr.cell? ⟨w.heap.size + 1, 1, none⟩ = some (.slice aw nw cw) := (heap_at (unhide hS).box 1).1
        by_cases hlt : k < n
        · have hkz : k < zs.length := by have := unhide HZL; omega
          have hkl : k < l.length := by have := unhide HLL; omega
          obtain ⟨b, off, ha, y0, y1, y2, y3, y4⟩ := (unhide HA).row.2 k hkz
          subst ha
          have hbl : b < w.heap.size := cell_lt y0
          obtain ⟨e1, e2, e3⟩ := (unhide HA).hd k hkz hkl
          have hdat := (unhide HA).dat k hkz hkl
          have hkep := (unhide HA).kep k hkz hkl
          obtain ⟨l1, l2, l3, l4⟩ := (unhide HA).lim k hkz
          have HT := hide (runD_take l k hkl)
          have hcl := runD_codes (l.take k)
          rw [List.length_take] at hcl
          obtain ⟨zk, hzk⟩ : ∃ z, z = zs[k] := ⟨_, rfl⟩
          obtain ⟨x, hx⟩ : ∃ x, x = l[k] := ⟨_, rfl⟩
          rw [← hzk] at y0 y1 y2 y3 y4 e1 e2 e3 hdat hkep l1 l2 l3 l4
          rw [← hx] at e1 e2 e3 hdat hkep HT
          obtain ⟨zkind, zat, ztorn, ⟨ad, nd, cd⟩, ⟨ak, nk, ck⟩⟩ := zk
          simp only at y0 y1 y2 y3 y4 e1 e2 e3 hdat hkep l1 l2 l3 l4
          subst e1 e2 e3
          clear hzk hx
          have x0 := ((unhide BW).cell (p := ⟨b, off + k * 5, none⟩) hbl).trans y0
          have x1 := ((unhide BW).cell (p := ⟨b, off + k * 5 + 1, none⟩) hbl).trans y1
          have x2 := ((unhide BW).cell (p := ⟨b, off + k * 5 + 2, none⟩) hbl).trans y2
          have x3 := ((unhide BW).cell (p := ⟨b, off + k * 5 + 3, none⟩) hbl).trans y3
          have x4 := ((unhide BW).cell (p := ⟨b, off + k * 5 + 4, none⟩) hbl).trans y4
          have HDO := hide (fun (W : World) (hW : Below wr.heap.size wr W) => l02Act_any ah m c5 aw nw cw (runD (l.take k)).1 x ad nd cd ak nk ck W ((unhide hS).dev.below hW) l1 l4 (row_grow hdat ((unhide BW).trans (hW.mono (by omega)))) (hkep.grow ((unhide BW).trans (hW.mono (by omega)))))
          have HCL := hide hcl
          have SK := hide (show ∀ u, Below wr.heap.size wr u → (u.cell? ⟨w.heap.size + 1, 0, none⟩ = some (.slice ah m c5) ∧ u.cell? ⟨w.heap.size + 1, 1, none⟩ = some (.slice aw nw cw) ∧ u.cell? ⟨b, off + k * 5, none⟩ = some (.int .i64 x.kind) ∧ u.cell? ⟨b, off + k * 5 + 1, none⟩ = some (.int .i64 x.at_) ∧ u.cell? ⟨b, off + k * 5 + 2, none⟩ = some (.int .i64 x.torn) ∧ u.cell? ⟨b, off + k * 5 + 3, none⟩ = some (.slice ad nd cd) ∧ u.cell? ⟨b, off + k * 5 + 4, none⟩ = some (.slice ak nk ck)) from fun u hb => ⟨(hb.cell (p := ⟨w.heap.size + 1, 0, none⟩) (cell_lt c0)).trans c0, (hb.cell (p := ⟨w.heap.size + 1, 1, none⟩) (cell_lt c1)).trans c1, (hb.cell (p := ⟨b, off + k * 5, none⟩) (cell_lt x0)).trans x0, (hb.cell (p := ⟨b, off + k * 5 + 1, none⟩) (cell_lt x1)).trans x1, (hb.cell (p := ⟨b, off + k * 5 + 2, none⟩) (cell_lt x2)).trans x2, (hb.cell (p := ⟨b, off + k * 5 + 3, none⟩) (cell_lt x3)).trans x3, (hb.cell (p := ⟨b, off + k * 5 + 4, none⟩) (cell_lt x4)).trans x4⟩)
          clear y0 y1 y2 y3 y4 hdat hkep hcl
          go_upto_region 10 with fail
          refine wp_region_held_drew (S := (fun u => (u.cell? ⟨w.heap.size + 1, 0, none⟩ = some (.slice ah m c5) ∧ u.cell? ⟨w.heap.size + 1, 1, none⟩ = some (.slice aw nw cw) ∧ u.cell? ⟨b, off + k * 5, none⟩ = some (.int .i64 x.kind) ∧ u.cell? ⟨b, off + k * 5 + 1, none⟩ = some (.int .i64 x.at_) ∧ u.cell? ⟨b, off + k * 5 + 2, none⟩ = some (.int .i64 x.torn) ∧ u.cell? ⟨b, off + k * 5 + 3, none⟩ = some (.slice ad nd cd) ∧ u.cell? ⟨b, off + k * 5 + 4, none⟩ = some (.slice ak nk ck)))) (by kernel_rfl) (⟨c0, c1, x0, x1, x2, x3, x4⟩) (fun hHeld => ?_)
          refine anyH_take 0 29 (v := ?v1) rfl rfl (by kernel_rfl) (by kernel_rfl) (by kernel_rfl) (fun _ _ _ h => h) (by rfl) ?h1 hHeld ?r1
          case h1 => (intro w hSw; (try dsimp only at hSw); go_simp; try (with_reducible rfl))
          simp only [Act.put, List.setIfInBounds_toArray, List.set_cons_zero, List.set_cons_succ]
          refine anyH_take 1 30 (v := ?v2) rfl rfl (by kernel_rfl) (by kernel_rfl) (by kernel_rfl) (fun _ _ _ h => h) (by rfl) ?h2 hHeld ?r2
          case h2 => (intro w hSw; (try dsimp only at hSw); go_simp; try (with_reducible rfl))
          simp only [Act.put, List.setIfInBounds_toArray, List.set_cons_zero, List.set_cons_succ]
          refine anyH_take 2 31 (v := ?v3) rfl rfl (by kernel_rfl) (by kernel_rfl) (by kernel_rfl) (fun _ _ _ h => h) (by rfl) ?h3 hHeld ?r3
          case h3 => (intro w hSw; (try dsimp only at hSw); go_simp; try (with_reducible rfl))
          simp only [Act.put, List.setIfInBounds_toArray, List.set_cons_zero, List.set_cons_succ]
          refine anyH_take 3 32 (v := ?v4) rfl rfl (by kernel_rfl) (by kernel_rfl) (by kernel_rfl) (fun _ _ _ h => h) (by rfl) ?h4 hHeld ?r4
          case h4 => (intro w hSw; (try dsimp only at hSw); go_simp; try (with_reducible rfl))
          simp only [Act.put, List.setIfInBounds_toArray, List.set_cons_zero, List.set_cons_succ]
          refine anyH_take 4 33 (v := ?v5) rfl rfl (by kernel_rfl) (by kernel_rfl) (by kernel_rfl) (fun _ _ _ h => h) (by rfl) ?h5 hHeld ?r5
          case h5 => (intro w hSw; (try dsimp only at hSw); go_simp; try (with_reducible rfl))
          simp only [Act.put, List.setIfInBounds_toArray, List.set_cons_zero, List.set_cons_succ]
          refine wpAnyH_ready (rs := [5, 9]) (by kernel_rfl) (by simp) ?_
          refine AllReadyH.cons rfl (fun K hK => ?_) (AllReadyH.cons rfl (fun K hK => ?_) AllReadyH.nil)
          · go_simp
            refine (unhide HDO _ ((Below.refl wr.heap.size wr).drew)).mono ?_
            rintro e w3 ⟨ah3, m3, c3, aw3, nw3, cw3, rfl, s3, b3⟩
            refine hK.out _ _ (unhide SK _ (((Below.refl wr.heap.size wr).drew).trans b3)) (fun hHeld => ?_)
            clear hK K
            refine anyH_take 6 28 (v := ?v6) rfl rfl (by kernel_rfl) (by kernel_rfl) (by kernel_rfl) (fun _ _ _ h => h) (by rfl) ?h6 hHeld ?r6
            case h6 => (intro w hSw; (try dsimp only at hSw); go_simp; try (with_reducible rfl))
            simp only [Act.put, List.setIfInBounds_toArray, List.set_cons_zero, List.set_cons_succ]
            refine anyH_take 7 35 (v := ?v7) rfl rfl (by kernel_rfl) (by kernel_rfl) (by kernel_rfl) (fun _ _ _ h => h) (by rfl) ?h7 hHeld ?r7
            case h7 => (intro w hSw; (try dsimp only at hSw); go_simp; try (with_reducible rfl))
            simp only [Act.put, List.setIfInBounds_toArray, List.set_cons_zero, List.set_cons_succ]
            refine anyH_take 8 36 (v := ?v8) rfl rfl (by kernel_rfl) (by kernel_rfl) (by kernel_rfl) (fun _ _ _ h => h) (by rfl) ?h8 hHeld ?r8
            case h8 => (intro w hSw; (try dsimp only at hSw); go_simp; try (with_reducible rfl))
            simp only [Act.put, List.setIfInBounds_toArray, List.set_cons_zero, List.set_cons_succ]
            refine wpAnyH_ready (rs := [9]) (by kernel_rfl) (by simp) ?_
            refine AllReadyH.cons rfl (fun K hK => ?_) AllReadyH.nil
            go_simp
            refine hK.out _ _ (unhide SK _ ((((Below.refl wr.heap.size wr).drew).trans b3).alloc (by have := b3.size; simpa using this) _)) (fun hHeld => ?_)
            clear hK K
            refine wpAnyH_ready (rs := [10]) (by kernel_rfl) (by simp) ?_
            refine AllReadyH.cons rfl (fun K hK => ?_) AllReadyH.nil
            go_simp
            refine hK.out _ _ (unhide SK _ ((((Below.refl wr.heap.size wr).drew).trans b3).alloc (by have := b3.size; simpa using this) _)) (fun hHeld => ?_)
            clear hK K
            refine anyH_take 11 9 (v := ?v9) rfl rfl (by kernel_rfl) (by kernel_rfl) (by kernel_rfl) (fun _ _ _ h => h) (by rfl) ?h9 hHeld ?r9
            case h9 => (intro w hSw; (try dsimp only at hSw); go_simp; try (with_reducible rfl))
            simp only [Act.put, List.setIfInBounds_toArray, List.set_cons_zero, List.set_cons_succ]
            refine wpAnyH_done (by kernel_rfl) ?_ _
            have bX : Below wr.heap.size wr (w3.alloc (.cells #[.slice ah3 m3 c3, .slice aw3 nw3 cw3] 28)) := (((Below.refl wr.heap.size wr).drew).trans b3).alloc (by have := b3.size; simpa using this) _
            have sX : SF (w3.alloc (.cells #[.slice ah3 m3 c3, .slice aw3 nw3 cw3] 28)) ah3 m3 c3 aw3 nw3 cw3 (actD (runD (l.take k)).1 x).1 := s3.below ((Below.refl _ _).alloc (Nat.le_refl _) _)
            have kX : (w3.alloc (.cells #[.slice ah3 m3 c3, .slice aw3 nw3 cw3] 28)).heap[w3.heap.size]? = some (.cells #[.slice ah3 m3 c3, .slice aw3 nw3 cw3] 28 (0, 0)) := heap_alloc_last _ _
            clear s3 b3
            generalize (w3.alloc (.cells #[.slice ah3 m3 c3, .slice aw3 nw3 cw3] 28)) = X at *
            generalize w3.heap.size = ob at *
            clear HDO SK
            have o0 := (heap_at kX 0).1
            have o1 := (heap_at kX 1).1
            have kB := (bX.block (w.heap.size + 1) (by omega)).trans (unhide hS).box
            have p0 := (heap_at kB 0).1
            have p1 := (heap_at kB 1).1
            have p2 := (heap_at kB 0).2
            have p3 := (heap_at kB 1).2
            obtain ⟨cd4, hcd4⟩ : ∃ q, q = (actD (runD (l.take k)).1 x).2 := ⟨_, rfl⟩
            rw [← hcd4] at HT ⊢
            obtain ⟨v4, w4, hrun, hS4, g4, n4, c4, rfl⟩ := (unhide hS).next bX sX (by have := unhide HCL; omega) cd4
            have S4 := hide (show RtSt W3 w4 (w.heap.size + 1) (.slice (some ⟨g4, 0, none⟩) n4 c4) ah3 m3 c3 aw3 nw3 cw3 (runD (l.take (k + 1))).1 (runD (l.take (k + 1))).2 by rw [unhide HT]; exact hS4)
            clear hS4 hcd4 bX sX kX kB hS HT
            go_wp2_with (at_builtin; refine sc_wpApp rfl (.tmp 38) (.tmp 40) 25 rfl _ _ _ w4 rfl rfl hrun ?_)
            go_roundw
            case rel => exact ⟨k + 1, _, ah3, m3, c3, aw3, nw3, cw3, by omega, rfl, by go_num, unhide S4⟩
            case measure => simp [intOf]; omega
          · go_simp
            refine hK.out _ _ (unhide SK _ ((Below.refl wr.heap.size wr).drew.alloc (Nat.le_refl _) _)) (fun hHeld => ?_)
            clear hK K
            refine wpAnyH_ready (rs := [5]) (by kernel_rfl) (by simp) ?_
            refine AllReadyH.cons rfl (fun K hK => ?_) AllReadyH.nil
            go_simp
            refine (unhide HDO _ ((Below.refl wr.heap.size wr).drew.alloc (Nat.le_refl _) _)).mono ?_
            rintro e w3 ⟨ah3, m3, c3, aw3, nw3, cw3, rfl, s3, b3⟩
            refine hK.out _ _ (unhide SK _ (((Below.refl wr.heap.size wr).drew.alloc (Nat.le_refl _) _).trans (b3.mono (by simp)))) (fun hHeld => ?_)
            clear hK K
            refine anyH_take 6 28 (v := ?v10) rfl rfl (by kernel_rfl) (by kernel_rfl) (by kernel_rfl) (fun _ _ _ h => h) (by rfl) ?h10 hHeld ?r10
            case h10 => (intro w hSw; (try dsimp only at hSw); go_simp; try (with_reducible rfl))
            simp only [Act.put, List.setIfInBounds_toArray, List.set_cons_zero, List.set_cons_succ]
            refine anyH_take 7 35 (v := ?v11) rfl rfl (by kernel_rfl) (by kernel_rfl) (by kernel_rfl) (fun _ _ _ h => h) (by rfl) ?h11 hHeld ?r11
            case h11 => (intro w hSw; (try dsimp only at hSw); go_simp; try (with_reducible rfl))
            simp only [Act.put, List.setIfInBounds_toArray, List.set_cons_zero, List.set_cons_succ]
            refine anyH_take 8 36 (v := ?v12) rfl rfl (by kernel_rfl) (by kernel_rfl) (by kernel_rfl) (fun _ _ _ h => h) (by rfl) ?h12 hHeld ?r12
            case h12 => (intro w hSw; (try dsimp only at hSw); go_simp; try (with_reducible rfl))
            simp only [Act.put, List.setIfInBounds_toArray, List.set_cons_zero, List.set_cons_succ]
            refine wpAnyH_ready (rs := [10]) (by kernel_rfl) (by simp) ?_
            refine AllReadyH.cons rfl (fun K hK => ?_) AllReadyH.nil
            have k8 := (b3.block wr.heap.size (by simp)).trans (heap_alloc_last wr.drew (.cells #[.slice none 0 0, .slice none 0 0] 28))
            have o0 := (heap_at k8 0).1
            have o1 := (heap_at k8 1).1
            have o2 := (heap_at k8 0).2
            have o3 := (heap_at k8 1).2
            go_simp
            refine hK.out _ _ (unhide SK _ (((((Below.refl wr.heap.size wr).drew.alloc (Nat.le_refl _) _).trans (b3.mono (by simp))).setCell (p := ⟨wr.heap.size, 0, none⟩) (Nat.le_refl _) _).setCell (p := ⟨wr.heap.size, 1, none⟩) (Nat.le_refl _) _)) (fun hHeld => ?_)
            clear hK K
            refine anyH_take 11 9 (v := ?v13) rfl rfl (by kernel_rfl) (by kernel_rfl) (by kernel_rfl) (fun _ _ _ h => h) (by rfl) ?h13 hHeld ?r13
            case h13 => (intro w hSw; (try dsimp only at hSw); go_simp; try (with_reducible rfl))
            simp only [Act.put, List.setIfInBounds_toArray, List.set_cons_zero, List.set_cons_succ]
            refine wpAnyH_done (by kernel_rfl) ?_ _
            have bX : Below wr.heap.size wr ((w3.setCell ⟨wr.heap.size, 0, none⟩ (.slice ah3 m3 c3)).setCell ⟨wr.heap.size, 1, none⟩ (.slice aw3 nw3 cw3)) := ((((Below.refl wr.heap.size wr).drew.alloc (Nat.le_refl _) _).trans (b3.mono (by simp))).setCell (p := ⟨wr.heap.size, 0, none⟩) (Nat.le_refl _) _).setCell (p := ⟨wr.heap.size, 1, none⟩) (Nat.le_refl _) _
            have sX : SF ((w3.setCell ⟨wr.heap.size, 0, none⟩ (.slice ah3 m3 c3)).setCell ⟨wr.heap.size, 1, none⟩ (.slice aw3 nw3 cw3)) ah3 m3 c3 aw3 nw3 cw3 (actD (runD (l.take k)).1 x).1 := s3.box k8 _ _
            have kX : ((w3.setCell ⟨wr.heap.size, 0, none⟩ (.slice ah3 m3 c3)).setCell ⟨wr.heap.size, 1, none⟩ (.slice aw3 nw3 cw3)).heap[wr.heap.size]? = some (.cells #[.slice ah3 m3 c3, .slice aw3 nw3 cw3] 28 (0, 0)) := by simpa using heap_set (heap_set k8 0 (.slice ah3 m3 c3)) 1 (.slice aw3 nw3 cw3)
            clear o0 o1 o2 o3 k8
            clear s3 b3
            generalize ((w3.setCell ⟨wr.heap.size, 0, none⟩ (.slice ah3 m3 c3)).setCell ⟨wr.heap.size, 1, none⟩ (.slice aw3 nw3 cw3)) = X at *
            clear HDO SK
            have o0 := (heap_at kX 0).1
            have o1 := (heap_at kX 1).1
            have kB := (bX.block (w.heap.size + 1) (by omega)).trans (unhide hS).box
            have p0 := (heap_at kB 0).1
            have p1 := (heap_at kB 1).1
            have p2 := (heap_at kB 0).2
            have p3 := (heap_at kB 1).2
            obtain ⟨cd4, hcd4⟩ : ∃ q, q = (actD (runD (l.take k)).1 x).2 := ⟨_, rfl⟩
            rw [← hcd4] at HT ⊢
            obtain ⟨v4, w4, hrun, hS4, g4, n4, c4, rfl⟩ := (unhide hS).next bX sX (by have := unhide HCL; omega) cd4
            have S4 := hide (show RtSt W3 w4 (w.heap.size + 1) (.slice (some ⟨g4, 0, none⟩) n4 c4) ah3 m3 c3 aw3 nw3 cw3 (runD (l.take (k + 1))).1 (runD (l.take (k + 1))).2 by rw [unhide HT]; exact hS4)
            clear hS4 hcd4 bX sX kX kB hS HT
            go_wp2_with (at_builtin; refine sc_wpApp rfl (.tmp 38) (.tmp 40) 25 rfl _ _ _ w4 rfl rfl hrun ?_)
            go_roundw
            case rel => exact ⟨k + 1, _, ah3, m3, c3, aw3, nw3, cw3, by omega, rfl, by go_num, unhide S4⟩
            case measure => simp [intOf]; omega
        · obtain rfl : k = n := by omega
          have hta : l.take k = l := List.take_of_length_le (by have := unhide HLL; omega)
          rw [hta] at hS
          have HF := hide (l02Own_any ah m c5 aw nw cw (runD l).1 wr (unhide hS).dev)
          have Q2 := hide (((unhide hS).bel.block w.heap.size (by omega)).trans (unhide Q0))
          clear hta
          obtain ⟨ac, nc, cc, rfl⟩ : ∃ a m c, v = .slice a m c := by
            rcases (unhide hS).cod.2 with ⟨e, _⟩ | ⟨g9, cap9, _, e, _⟩
            · exact ⟨none, 0, 0, e⟩
            · exact ⟨_, _, _, e⟩
          go_wp2_with fail
          refine (unhide HF).mono ?_
          rintro e w5 ⟨gh, ch, B, vw, hs, rfl, hM, hQ, hgh, hgB, hX, hb5⟩
          have hwr : w.heap.size < wr.heap.size := by omega
          have q5 := (hb5.block w.heap.size hwr).trans (unhide Q2)
          have O5 := nowns_below (unhide hS).cod hb5
          obtain ⟨av, nv, cv, rfl⟩ : ∃ a m c, vw = .slice a m c := by
            rcases hQ.row.2 with ⟨e, _⟩ | ⟨g9, cap9, _, e, _⟩
            · exact ⟨none, 0, 0, e⟩
            · exact ⟨_, _, _, e⟩
          have R := hide (show RuRes l w (.returned (.tuple #[.slice ac nc cc, .agg #[.slice (some ⟨gh, 0, none⟩) (runD l).1.xs.length ch, .slice av nv cv], .int .i64 0])) ((w5.setCell ⟨w.heap.size, 0, none⟩ (.slice (some ⟨gh, 0, none⟩) (runD l).1.xs.length ch)).setCell ⟨w.heap.size, 1, none⟩ (.slice av nv cv)) from by
            have W : WrB (fun i => i = w.heap.size) w5 ((w5.setCell ⟨w.heap.size, 0, none⟩ (.slice (some ⟨gh, 0, none⟩) (runD l).1.xs.length ch)).setCell ⟨w.heap.size, 1, none⟩ (.slice av nv cv)) := ⟨rfl, rfl, rfl, by simp [World.setCell], fun k _ hk => (Below.heap_setCell _ _ _ _ hk).trans (Below.heap_setCell _ _ _ _ hk)⟩
            unfold RuRes
            rw [unhide RU]
            exact ⟨.slice ac nc cc, some ⟨gh, 0, none⟩, ch, .slice av nv cv, hs, B, rfl, NOwns.down (rr_owns_wr O5 W (fun i hi e => by have := (O5.lt i hi).1; omega)) (by omega), mine_mono (mine_set (mine_set hM hwr 0 _) hwr 1 _) (by omega), hQ.wr W (fun i hi e => by have := (hQ.lt i hi).1; omega), hX, by omega,
              (fun g hg => by have := ((unhide hS).cod.lt g hg).2; exact ⟨by omega, fun x hx => by cases hx; show g < gh; omega⟩), (fun x hx => by cases hx; exact hgB), (((unhide BW).trans (hb5.mono (by omega))).setCell (p := ⟨w.heap.size, 0, none⟩) (Nat.le_refl _) _).setCell (p := ⟨w.heap.size, 1, none⟩) (Nat.le_refl _) _⟩)
          have r0 := (heap_at q5 0).1
          have r1 := (heap_at q5 1).1
          have z0 := (heap_at q5 0).2
          have z1 := (heap_at q5 1).2
          clear hM hQ hX hb5 O5 q5
          go_wp2_with fail
          exact bodyPost_ret (v := .tuple #[.slice ac nc cc, .agg #[.slice (some ⟨gh, 0, none⟩) (runD l).1.xs.length ch, .slice av nv cv], .int .i64 0]) (by simp [results, Try.results7, go_sem, r0, r1]) rfl (unhide R)
end Go.Proofs.Ytjhmammoakiknaa

namespace Go.Proofs.Ytjhmammoakiknaa
open Go.RowKit

/-- A row within a record. -/
structure Sb where
  t : TypeId
  s : Nat
  n : Nat
  v : Value
  cs : List Value
/-- A record: its cells, and the rows within. -/
structure El where
  hd : List Value
  sb : List Sb
theorem fm_len {S : Nat} : ∀ (es : List El), (∀ e ∈ es, e.hd.length = S) → (es.flatMap (·.hd)).length = es.length * S
  | [], _ => by simp
  | e :: r, h => by
    rw [List.flatMap_cons, List.length_append, fm_len r (fun x hx => h x (List.mem_cons_of_mem _ hx)), h e (List.mem_cons_self ..), List.length_cons, Nat.succ_mul]
    omega
theorem fm_at {S : Nat} : ∀ (es : List El), (∀ e ∈ es, e.hd.length = S) → ∀ (i j : Nat) (e : El), es[i]? = some e → j < S → (es.flatMap (·.hd))[i * S + j]? = e.hd[j]?
  | [], _, i, j, e, hi, _ => by simp at hi
  | x :: r, h, 0, j, e, hi, hj => by
    have hx := h x (List.mem_cons_self ..)
    simp at hi
    subst hi
    rw [List.flatMap_cons, List.getElem?_append_left (by omega)]
    simp
  | x :: r, h, i + 1, j, e, hi, hj => by
    have hx := h x (List.mem_cons_self ..)
    have ih := fm_at r (fun y hy => h y (List.mem_cons_of_mem _ hy)) i j e (by simpa using hi) hj
    rw [List.flatMap_cons, List.getElem?_append_right (by rw [hx, Nat.succ_mul]; omega), hx, Nat.succ_mul, show i * S + S + j - S = i * S + j by omega]
    exact ih
theorem fm_set {S : Nat} : ∀ (es : List El), (∀ e ∈ es, e.hd.length = S) → ∀ (i j : Nat) (e : El) (u : Value) (sb : List Sb), es[i]? = some e → j < S → (es.flatMap (·.hd)).set (i * S + j) u = (es.set i ⟨e.hd.set j u, sb⟩).flatMap (·.hd)
  | [], _, i, j, e, u, sb, hi, _ => by simp at hi
  | x :: r, h, 0, j, e, u, sb, hi, hj => by
    have hx := h x (List.mem_cons_self ..)
    simp at hi
    subst hi
    rw [List.set_cons_zero, List.flatMap_cons, List.flatMap_cons, List.set_append_left _ _ (by omega)]
    simp
  | x :: r, h, i + 1, j, e, u, sb, hi, hj => by
    have hx := h x (List.mem_cons_self ..)
    have ih := fm_set r (fun y hy => h y (List.mem_cons_of_mem _ hy)) i j e u sb (by simpa using hi) hj
    rw [List.set_cons_succ, List.flatMap_cons, List.flatMap_cons, List.set_append_right _ _ (by rw [hx, Nat.succ_mul]; omega), hx, Nat.succ_mul, show i * S + S + j - S = i * S + j by omega, ih]
theorem fm_same {S : Nat} : ∀ (es : List El), (∀ e ∈ es, e.hd.length = S) → ∀ (i : Nat) (e : El) (sb : List Sb), es[i]? = some e → (es.set i ⟨e.hd, sb⟩).flatMap (·.hd) = es.flatMap (·.hd)
  | [], _, i, e, sb, hi => by simp at hi
  | x :: r, h, 0, e, sb, hi => by
    simp at hi
    subst hi
    rw [List.set_cons_zero, List.flatMap_cons, List.flatMap_cons]
  | x :: r, h, i + 1, e, sb, hi => by
    have ih := fm_same r (fun y hy => h y (List.mem_cons_of_mem _ hy)) i e sb (by simpa using hi)
    rw [List.set_cons_succ, List.flatMap_cons, List.flatMap_cons, ih]
/-- The row within a record by numbers. -/
def sbAt (es : List El) (i a : Nat) : Option Sb := es[i]?.bind (·.sb[a]?)
theorem sbAt_mem {es : List El} {i a : Nat} {x : Sb} (h : sbAt es i a = some x) : ∃ e ∈ es, x ∈ e.sb := by
  unfold sbAt at h
  cases hi : es[i]? with
  | none => rw [hi] at h; cases h
  | some e =>
    rw [hi] at h
    exact ⟨e, List.mem_of_getElem? hi, List.mem_of_getElem? h⟩
theorem sbAt_of {es : List El} {e : El} {x : Sb} (he : e ∈ es) (hx : x ∈ e.sb) : ∃ i a, sbAt es i a = some x := by
  obtain ⟨i, hi, rfl⟩ := List.getElem_of_mem he
  obtain ⟨a, ha, rfl⟩ := List.getElem_of_mem hx
  exact ⟨i, a, by unfold sbAt; rw [List.getElem?_eq_getElem hi]; simp [ha]⟩
theorem sbAt_set {es : List El} {i k a : Nat} {e : El} (hi : i < es.length) : sbAt (es.set i e) k a = if k = i then e.sb[a]? else sbAt es k a := by
  unfold sbAt
  by_cases h : k = i
  · subst h; rw [if_pos rfl, List.getElem?_set_self hi]; rfl
  · rw [if_neg h, List.getElem?_set_ne (fun e => h e.symm)]
/-- A list of records that the call owns from block B on: no two of its rows share memory. -/
structure NOwn (w : World) (B T S : Nat) (v : Value) (n : Nat) (es : List El) : Prop where
  row : w.ownsRow B T S v n (es.flatMap (·.hd))
  len : es.length = n
  wid : ∀ e ∈ es, e.hd.length = S
  dat : ∀ i a x, sbAt es i a = some x → w.ownsRow B x.t x.s x.v x.n x.cs
  far : ∀ i j a b x y, sbAt es i a = some x → sbAt es j b = some y → (i ≠ j ∨ a ≠ b) → ∀ g, x.v.ownBlock = some g → y.v.ownBlock ≠ some g
  off : ∀ i a x, sbAt es i a = some x → ∀ g, v.ownBlock = some g → x.v.ownBlock ≠ some g
/-- The blocks of a list of records. -/
def NBl (v : Value) (es : List El) (i : Nat) : Prop := v.ownBlock = some i ∨ ∃ k a x, sbAt es k a = some x ∧ x.v.ownBlock = some i
theorem NOwn.lt {w : World} {B T S n : Nat} {v : Value} {es : List El} (h : NOwn w B T S v n es) (i : Nat) (hi : NBl v es i) : B ≤ i ∧ i < w.heap.size := by
  rcases hi with hi | ⟨k, a, x, hx, hi⟩
  · exact h.row.lt i hi
  · exact (h.dat k a x hx).lt i hi
theorem NOwn.wr {P : Nat → Prop} {w w' : World} {B T S n : Nat} {v : Value} {es : List El} (h : NOwn w B T S v n es) (hw : WrB P w w') (hp : ∀ i, NBl v es i → ¬ P i) : NOwn w' B T S v n es :=
  ⟨rr_owns_wr h.row hw (fun i hi => hp i (.inl hi)), h.len, h.wid, fun i a x hx => rr_owns_wr (h.dat i a x hx) hw (fun k hk => hp k (.inr ⟨i, a, x, hx, hk⟩)), h.far, h.off⟩
theorem NOwn.below {w w' : World} {B T S n : Nat} {v : Value} {es : List El} (h : NOwn w B T S v n es) (hb : Below w.heap.size w w') : NOwn w' B T S v n es :=
  ⟨rb_ownsRow_below h.row hb, h.len, h.wid, fun i a x hx => rb_ownsRow_below (h.dat i a x hx) hb, h.far, h.off⟩
theorem gd_base {w : World} {B C e s n : Nat} {v : Value} {vs : List Value} (h : w.ownsRow B e s v n vs) (hc : C ≤ B) : w.ownsRow C e s v n vs := by
  obtain ⟨h1, h2⟩ := h
  refine ⟨h1, ?_⟩
  rcases h2 with h2 | ⟨g, cap, cur, e, hb, r⟩
  · exact .inl h2
  · exact .inr ⟨g, cap, cur, e, Nat.le_trans hc hb, r⟩
theorem gd_set {w : World} {B e s n : Nat} {v : Value} {vs : List Value} {q : Nat} (h : w.ownsRow B e s v n vs) (hq : q < B) (j : Nat) (u : Value) : (w.setCell ⟨q, j, none⟩ u).ownsRow B e s v n vs :=
  ownsRow_heap h (fun g hg => Below.heap_setCell _ _ _ _ (by have := (h.lt g hg).1; show g ≠ q; omega))
theorem NOwn.down {w : World} {B C T S n : Nat} {v : Value} {es : List El} (h : NOwn w B T S v n es) (hc : C ≤ B) : NOwn w C T S v n es :=
  ⟨gd_base h.row hc, h.len, h.wid, fun i a x hx => gd_base (h.dat i a x hx) hc, h.far, h.off⟩
theorem NOwn.cell {w : World} {B T S g n c : Nat} {es : List El} (h : NOwn w B T S (.slice (some ⟨g, 0, none⟩) n c) n es) {i j : Nat} {e : El} {u : Value} (hi : es[i]? = some e) (hu : e.hd[j]? = some u) : w.cell? ⟨g, i * S + j, none⟩ = some u := by
  have hil : i < es.length := (List.getElem?_eq_some_iff.1 hi).1
  have hj : j < S := by have := (List.getElem?_eq_some_iff.1 hu).1; rw [h.wid e (List.mem_of_getElem? hi)] at this; exact this
  have hlt : i * S + j < n * S := by
    rw [← h.len]
    calc i * S + j < i * S + S := by omega
      _ = (i + 1) * S := by rw [Nat.succ_mul]
      _ ≤ es.length * S := Nat.mul_le_mul_right S hil
  rw [h.row.cellAt _ hlt, fm_at es h.wid i j e hi hj, hu]
theorem NOwn.free {w : World} {B T S g n c : Nat} {es : List El} (h : NOwn w B T S (.slice (some ⟨g, 0, none⟩) n c) n es) (j : Nat) : w.frozen? ⟨g, j, none⟩ = false := h.row.frozenAt j
/-- A cell of a record set anew. -/
theorem NOwn.setHd {w : World} {B T S g n c : Nat} {es : List El} (h : NOwn w B T S (.slice (some ⟨g, 0, none⟩) n c) n es) {i j : Nat} {e : El} (hi : es[i]? = some e) (hj : j < S) (u : Value) :
    NOwn (w.setCell ⟨g, i * S + j, none⟩ u) B T S (.slice (some ⟨g, 0, none⟩) n c) n (es.set i ⟨e.hd.set j u, e.sb⟩) ∧ WrB (fun k => k = g) w (w.setCell ⟨g, i * S + j, none⟩ u) := by
  have hil : i < es.length := (List.getElem?_eq_some_iff.1 hi).1
  have hw : WrB (fun k => k = g) w (w.setCell ⟨g, i * S + j, none⟩ u) := ⟨rfl, rfl, rfl, by simp [World.setCell], fun k _ hk => Below.heap_setCell _ _ _ _ hk⟩
  have sb : ∀ k a, sbAt (es.set i ⟨e.hd.set j u, e.sb⟩) k a = sbAt es k a := fun k a => by
    rw [sbAt_set hil]
    by_cases hk : k = i
    · subst hk; rw [if_pos rfl]; unfold sbAt; rw [hi]; rfl
    · rw [if_neg hk]
  refine ⟨⟨?_, by rw [List.length_set]; exact h.len, fun x hx => ?_, fun k a x hx => ?_, fun k l a b x y hx hy => ?_, fun k a x hx => ?_⟩, hw⟩
  · rw [← fm_set es h.wid i j e u e.sb hi hj]
    exact (World.ownsRow.stored h.row (i * S + j) u).1
  · rcases List.mem_or_eq_of_mem_set hx with hx | rfl
    · exact h.wid x hx
    · show (e.hd.set j u).length = S
      rw [List.length_set]
      exact h.wid e (List.mem_of_getElem? hi)
  · rw [sb] at hx
    exact rr_owns_wr (h.dat k a x hx) hw (fun q hq e => h.off k a x hx g rfl (by rw [← e]; exact hq))
  · rw [sb] at hx hy
    exact h.far k l a b x y hx hy
  · rw [sb] at hx
    exact h.off k a x hx
/-- Cells laid one behind the other. -/
def setAll (g : Nat) : World → Nat → List Value → World
  | w, _, [] => w
  | w, o, v :: r => setAll g (w.setCell ⟨g, o, none⟩ v) (o + 1) r
theorem NOwn.store {B T S g n c i : Nat} : ∀ (new old pre : List Value) {w : World} {es : List El} {sb : List Sb}, NOwn w B T S (.slice (some ⟨g, 0, none⟩) n c) n es → es[i]? = some ⟨pre ++ old, sb⟩ → old.length = new.length →
    NOwn (setAll g w (i * S + pre.length) new) B T S (.slice (some ⟨g, 0, none⟩) n c) n (es.set i ⟨pre ++ new, sb⟩)
  | [], old, pre, w, es, sb, h, hi, hl => by
    obtain rfl : old = [] := List.eq_nil_of_length_eq_zero hl
    have hil := (List.getElem?_eq_some_iff.1 hi)
    obtain ⟨hil, he⟩ := hil
    rw [← he, List.set_getElem_self]
    exact h
  | v :: r, [], pre, w, es, sb, h, hi, hl => by simp at hl
  | v :: r, u :: old, pre, w, es, sb, h, hi, hl => by
    have hil := (List.getElem?_eq_some_iff.1 hi).1
    have hw := h.wid _ (List.mem_of_getElem? hi)
    simp only [List.length_append, List.length_cons] at hw
    obtain ⟨h1, _⟩ := h.setHd hi (j := pre.length) (by omega) v
    have e : (pre ++ u :: old).set pre.length v = (pre ++ [v]) ++ old := by rw [List.set_append_right _ _ (Nat.le_refl _), Nat.sub_self, List.set_cons_zero, List.append_assoc, List.singleton_append]
    simp only at h1
    rw [e] at h1
    have h2 := NOwn.store r old (pre ++ [v]) h1 (List.getElem?_set_self hil) (by simpa using hl)
    rw [List.set_set, List.length_append, List.length_singleton, List.append_assoc, List.singleton_append] at h2
    exact h2
/-- A row within a record has changed. -/
theorem NOwn.setSb {w w' : World} {B T S n : Nat} {v : Value} {es : List El} (h : NOwn w B T S v n es) {i a : Nat} {e : El} {x x' : Sb} (hi : es[i]? = some e) (ha : e.sb[a]? = some x) (hv : x'.v = x.v) (ho : w'.ownsRow B x'.t x'.s x'.v x'.n x'.cs) (hw : WrB (fun k => x.v.ownBlock = some k) w w') :
    NOwn w' B T S v n (es.set i ⟨e.hd, e.sb.set a x'⟩) := by
  have hil : i < es.length := (List.getElem?_eq_some_iff.1 hi).1
  have hal : a < e.sb.length := (List.getElem?_eq_some_iff.1 ha).1
  have hx0 : sbAt es i a = some x := by unfold sbAt; rw [hi]; exact ha
  have sb : ∀ k b y, sbAt (es.set i ⟨e.hd, e.sb.set a x'⟩) k b = some y → (k = i ∧ b = a ∧ y = x') ∨ (sbAt es k b = some y ∧ (i ≠ k ∨ a ≠ b)) := fun k b y hy => by
    rw [sbAt_set hil] at hy
    by_cases hk : k = i
    · subst hk
      rw [if_pos rfl] at hy
      simp only at hy
      by_cases hb : b = a
      · subst hb
        rw [List.getElem?_set_self hal] at hy
        injection hy with hy
        exact .inl ⟨rfl, rfl, hy.symm⟩
      · rw [List.getElem?_set_ne (fun e => hb e.symm)] at hy
        exact .inr ⟨by unfold sbAt; rw [hi]; exact hy, .inr (fun e => hb e.symm)⟩
    · rw [if_neg hk] at hy
      exact .inr ⟨hy, .inl (fun e => hk e.symm)⟩
  refine ⟨?_, by rw [List.length_set]; exact h.len, fun y hy => ?_, fun k b y hy => ?_, fun k l b d y z hy hz hne => ?_, fun k b y hy => ?_⟩
  · rw [fm_same es h.wid i e _ hi]
    exact rr_owns_wr h.row hw (fun k hk e => h.off i a x hx0 k hk e)
  · rcases List.mem_or_eq_of_mem_set hy with hy | rfl
    · exact h.wid y hy
    · exact h.wid e (List.mem_of_getElem? hi)
  · rcases sb k b y hy with ⟨_, _, rfl⟩ | ⟨hy, hne⟩
    · exact ho
    · exact rr_owns_wr (h.dat k b y hy) hw (fun q hq e => h.far i k a b x y hx0 hy hne q e hq)
  · rcases sb k b y hy with ⟨rfl, rfl, rfl⟩ | ⟨qy, hn1⟩
    · rcases sb l d z hz with ⟨rfl, rfl, rfl⟩ | ⟨qz, hn2⟩
      · rcases hne with h | h <;> exact absurd rfl h
      · rw [hv]; exact h.far k l b d x z hx0 qz hn2
    · rcases sb l d z hz with ⟨rfl, rfl, rfl⟩ | ⟨qz, hn2⟩
      · rw [hv]; exact h.far k l b d y x qy hx0 hne
      · exact h.far k l b d y z qy qz hne
  · rcases sb k b y hy with ⟨rfl, rfl, rfl⟩ | ⟨hy, _⟩
    · rw [hv]; exact h.off k b x hx0
    · exact h.off k b y hy
/-- New rows come into a record that had none. -/
theorem NOwn.addSb {w w' : World} {B C T S n : Nat} {v : Value} {es : List El} (h : NOwn w B T S v n es) {i : Nat} {e : El} {xs : List Sb} (hi : es[i]? = some e) (hb : Below w.heap.size w w') (hC : w.heap.size ≤ C) (hBC : B ≤ C) (ho : ∀ x ∈ xs, w'.ownsRow C x.t x.s x.v x.n x.cs)
    (hf : ∀ (a b : Nat) (x y : Sb), xs[a]? = some x → xs[b]? = some y → a ≠ b → ∀ g, x.v.ownBlock = some g → y.v.ownBlock ≠ some g) :
    NOwn w' B T S v n (es.set i ⟨e.hd, xs⟩) := by
  have hil : i < es.length := (List.getElem?_eq_some_iff.1 hi).1
  have sb : ∀ k b y, sbAt (es.set i ⟨e.hd, xs⟩) k b = some y → (k = i ∧ xs[b]? = some y) ∨ (k ≠ i ∧ sbAt es k b = some y) := fun k b y hy => by
    rw [sbAt_set hil] at hy
    by_cases hk : k = i
    · subst hk; rw [if_pos rfl] at hy; exact .inl ⟨rfl, hy⟩
    · rw [if_neg hk] at hy; exact .inr ⟨hk, hy⟩
  have lo : ∀ (b : Nat) (y : Sb), xs[b]? = some y → ∀ g, y.v.ownBlock = some g → w.heap.size ≤ g := fun b y hy g hg => Nat.le_trans hC ((ho y (List.mem_of_getElem? hy)).lt g hg).1
  have up : ∀ (k b : Nat) (y : Sb), sbAt es k b = some y → ∀ g, y.v.ownBlock = some g → g < w.heap.size := fun k b y hy g hg => ((h.dat k b y hy).lt g hg).2
  refine ⟨?_, by rw [List.length_set]; exact h.len, fun y hy => ?_, fun k b y hy => ?_, fun k l b d y z hy hz hne => ?_, fun k b y hy => ?_⟩
  · rw [fm_same es h.wid i e _ hi]
    exact rb_ownsRow_below h.row hb
  · rcases List.mem_or_eq_of_mem_set hy with hy | rfl
    · exact h.wid y hy
    · exact h.wid e (List.mem_of_getElem? hi)
  · rcases sb k b y hy with ⟨_, hy⟩ | ⟨_, hy⟩
    · exact gd_base (ho y (List.mem_of_getElem? hy)) hBC
    · exact rb_ownsRow_below (h.dat k b y hy) hb
  · rcases sb k b y hy with ⟨hk, hy⟩ | ⟨hk, hy⟩
    · rcases sb l d z hz with ⟨hl, hz⟩ | ⟨hl, hz⟩
      · exact hf b d y z hy hz (by rcases hne with h | h; exact absurd (hk.trans hl.symm) h; exact h)
      · exact fun g h1 h2 => by have := lo b y hy g h1; have := up l d z hz g h2; omega
    · rcases sb l d z hz with ⟨hl, hz⟩ | ⟨hl, hz⟩
      · exact fun g h1 h2 => by have := up k b y hy g h1; have := lo d z hz g h2; omega
      · exact h.far k l b d y z hy hz hne
  · rcases sb k b y hy with ⟨_, hy⟩ | ⟨_, hy⟩
    · exact fun g h1 h2 => by have := lo b y hy g h2; have := (h.row.lt g h1).2; omega
    · exact h.off k b y hy
/-- A record laid at a place where there was one without rows. -/
theorem NOwn.put {w w' : World} {B C T S g n c i : Nat} {es : List El} {e e' : El} (h : NOwn w B T S (.slice (some ⟨g, 0, none⟩) n c) n es) (hi : es[i]? = some e) (hb : Below w.heap.size w w') (hC : w.heap.size ≤ C) (hBC : B ≤ C) (ho : ∀ x ∈ e'.sb, w'.ownsRow C x.t x.s x.v x.n x.cs)
    (hf : ∀ (a b : Nat) (x y : Sb), e'.sb[a]? = some x → e'.sb[b]? = some y → a ≠ b → ∀ g, x.v.ownBlock = some g → y.v.ownBlock ≠ some g) (hl : e.hd.length = e'.hd.length) :
    NOwn (setAll g w' (i * S) e'.hd) B T S (.slice (some ⟨g, 0, none⟩) n c) n (es.set i e') := by
  have hil := (List.getElem?_eq_some_iff.1 hi).1
  have h1 := h.addSb hi hb hC hBC ho hf
  have h2 := NOwn.store e'.hd e.hd [] h1 (List.getElem?_set_self hil) hl
  rw [List.set_set] at h2
  exact h2
theorem setAll_below {B g : Nat} (hg : B ≤ g) : ∀ (vs : List Value) (o : Nat) {w w' : World}, Below B w w' → Below B w (setAll g w' o vs)
  | [], _, _, _, h => h
  | v :: r, o, _, _, h => setAll_below hg r (o + 1) (h.setCell (p := ⟨g, o, none⟩) hg v)
/-- Records without rows. -/
theorem NOwn.flat {w : World} {B T S n : Nat} {v : Value} {es : List El} (h : w.ownsRow B T S v n (es.flatMap (·.hd))) (hl : es.length = n) (hw : ∀ e ∈ es, e.hd.length = S) (hs : ∀ e ∈ es, e.sb = []) : NOwn w B T S v n es := by
  have no : ∀ i a x, sbAt es i a ≠ some x := fun i a x hx => by
    obtain ⟨e, he, hx⟩ := sbAt_mem hx
    rw [hs e he] at hx
    cases hx
  exact ⟨h, hl, hw, fun i a x hx => absurd hx (no i a x), fun i j a b x y hx => absurd hx (no i a x), fun i a x hx => absurd hx (no i a x)⟩
/-- A row as it reads. -/
def RowC (w : World) (v : Value) (n : Nat) (cs : List Value) : Prop := ∃ a c, v = .slice a n c ∧ ∀ j u, cs[j]? = some u → ∃ b off, a = some ⟨b, off, none⟩ ∧ w.cell? ⟨b, off + j, none⟩ = some u
theorem RowC.below {w w' : World} {v : Value} {n : Nat} {cs : List Value} (h : RowC w v n cs) (hb : Below w.heap.size w w') : RowC w' v n cs := by
  obtain ⟨a, c, e, h⟩ := h
  refine ⟨a, c, e, fun j u hu => ?_⟩
  obtain ⟨b, off, e2, h2⟩ := h j u hu
  exact ⟨b, off, e2, (hb.cell (p := ⟨b, off + j, none⟩) (cell_lt h2)).trans h2⟩
theorem rowC_of_owns {w : World} {B t s n : Nat} {v : Value} {cs : List Value} (h : w.ownsRow B t s v n cs) : RowC w v n cs := by
  rcases h.2 with ⟨rfl, rfl⟩ | ⟨g, cap, cur, rfl, _⟩
  · exact ⟨none, 0, rfl, fun j u hu => by have := (List.getElem?_eq_some_iff.1 hu).1; have := h.1; omega⟩
  · exact ⟨_, cap, rfl, fun j u hu => ⟨g, 0, rfl, by rw [Nat.zero_add, h.cellAt j (by rw [← h.1]; exact (List.getElem?_eq_some_iff.1 hu).1), hu]⟩⟩
theorem RowC.at {w : World} {a : Option Addr} {n c j : Nat} {cs : List Value} {u : Value} (h : RowC w (.slice a n c) n cs) (hu : cs[j]? = some u) : ∃ b off, a = some ⟨b, off, none⟩ ∧ w.cell? ⟨b, off + j, none⟩ = some u := by
  obtain ⟨a', c', e, h⟩ := h
  injection e with e _ _
  rw [e]
  exact h j u hu
/-- A list of records as it reads. -/
structure NIn (w : World) (S : Nat) (v : Value) (n : Nat) (es : List El) : Prop where
  row : RowC w v n (es.flatMap (·.hd))
  len : es.length = n
  wid : ∀ e ∈ es, e.hd.length = S
  dat : ∀ e ∈ es, ∀ x ∈ e.sb, RowC w x.v x.n x.cs
theorem NIn.below {w w' : World} {S n : Nat} {v : Value} {es : List El} (h : NIn w S v n es) (hb : Below w.heap.size w w') : NIn w' S v n es :=
  ⟨h.row.below hb, h.len, h.wid, fun e he x hx => (h.dat e he x hx).below hb⟩
theorem NOwn.reads {w : World} {B T S n : Nat} {v : Value} {es : List El} (h : NOwn w B T S v n es) : NIn w S v n es :=
  ⟨rowC_of_owns h.row, h.len, h.wid, fun e he x hx => by
    obtain ⟨i, a, hi⟩ := sbAt_of he hx
    exact rowC_of_owns (h.dat i a x hi)⟩
theorem NIn.cell {w : World} {S n : Nat} {a : Option Addr} {c : Nat} {es : List El} (h : NIn w S (.slice a n c) n es) {i : Nat} {e : El} (hi : es[i]? = some e) (h0 : 0 < S) : ∃ b off, a = some ⟨b, off, none⟩ ∧ b < w.heap.size ∧ ∀ j u, e.hd[j]? = some u → w.cell? ⟨b, off + (i * S + j), none⟩ = some u := by
  obtain ⟨a', c', e', h1⟩ := h.row
  injection e' with e1 _ _
  subst e1
  have hw := h.wid e (List.mem_of_getElem? hi)
  obtain ⟨b, off, rfl, q⟩ := h1 (i * S + 0) (e.hd[0]'(by omega)) (by rw [fm_at es h.wid i 0 e hi h0]; exact List.getElem?_eq_getElem _)
  refine ⟨b, off, rfl, cell_lt q, fun j u hu => ?_⟩
  obtain ⟨b', off', e2, q2⟩ := h1 (i * S + j) u (by rw [fm_at es h.wid i j e hi (by have := (List.getElem?_eq_some_iff.1 hu).1; omega)]; exact hu)
  cases e2
  exact q2
/-! Marks, one behind the other. -/
section
variable {H : Type} (cnt : H → Nat) (mk : Nat → H → H)
/-- The next mark behind some. -/
def kG (k : Nat) : List H → Nat
  | [] => k
  | h :: r => kG (k + cnt h) r
/-- All marked. -/
def mkG (k : Nat) : List H → List H
  | [] => []
  | h :: r => mk k h :: mkG (k + cnt h) r
theorem kG_snoc : ∀ (k : Nat) (hs : List H) (h : H), kG cnt k (hs ++ [h]) = kG cnt k hs + cnt h
  | k, [], h => rfl
  | k, x :: r, h => by simp only [List.cons_append, kG]; exact kG_snoc _ r h
theorem mkG_snoc : ∀ (k : Nat) (hs : List H) (h : H), mkG cnt mk k (hs ++ [h]) = mkG cnt mk k hs ++ [mk (kG cnt k hs) h]
  | k, [], h => rfl
  | k, x :: r, h => by simp only [List.cons_append, mkG, kG]; rw [mkG_snoc _ r h]
theorem mkG_len : ∀ (k : Nat) (hs : List H), (mkG cnt mk k hs).length = hs.length
  | k, [] => rfl
  | k, x :: r => by simp only [mkG, List.length_cons]; rw [mkG_len _ r]
theorem kG_mono : ∀ (k : Nat) (hs : List H), k ≤ kG cnt k hs
  | k, [] => Nat.le_refl _
  | k, x :: r => Nat.le_trans (by omega) (kG_mono _ r)
theorem kG_take (k : Nat) (hs : List H) (j : Nat) : kG cnt k (hs.take j) ≤ kG cnt k hs := by
  induction hs generalizing k j with
  | nil => simp [kG]
  | cons x r ih =>
    cases j with
    | zero => exact kG_mono cnt _ _
    | succ j => exact ih _ j
theorem kG_sum : ∀ (k : Nat) (hs : List H), kG cnt k hs = k + (hs.map cnt).sum
  | k, [] => rfl
  | k, x :: r => by simp only [kG, List.map_cons, List.sum_cons]; rw [kG_sum _ r]; omega
/-- The first j marked, the others as they were. -/
def haG (k : Nat) (hs : List H) (j : Nat) : List H := mkG cnt mk k (hs.take j) ++ hs.drop j
theorem haG_len (k : Nat) (hs : List H) (j : Nat) (hj : j ≤ hs.length) : (haG cnt mk k hs j).length = hs.length := by
  unfold haG
  rw [List.length_append, mkG_len, List.length_take, List.length_drop]
  omega
theorem haG_at {k : Nat} {hs : List H} {j : Nat} (hj : j < hs.length) : (haG cnt mk k hs j)[j]? = some hs[j] := by
  unfold haG
  rw [List.getElem?_append_right (by rw [mkG_len, List.length_take]; omega), mkG_len, List.length_take, show j - min j hs.length = 0 by omega, List.getElem?_drop]
  simp [hj]
theorem haG_step {k : Nat} {hs : List H} {j : Nat} (hj : j < hs.length) : haG cnt mk k hs (j + 1) = (haG cnt mk k hs j).set j (mk (kG cnt k (hs.take j)) hs[j]) := by
  unfold haG
  rw [rb_take_snoc hs j hj, mkG_snoc, List.set_append_right _ _ (by rw [mkG_len, List.length_take]; omega), mkG_len, List.length_take, show j - min j hs.length = 0 by omega, List.drop_eq_getElem_cons hj, List.set_cons_zero, List.append_assoc, List.singleton_append]
theorem haG_all (k : Nat) (hs : List H) : haG cnt mk k hs hs.length = mkG cnt mk k hs := by unfold haG; simp
theorem mkG_at : ∀ (k : Nat) (hs : List H) (j : Nat) (hj : j < hs.length), (mkG cnt mk k hs)[j]? = some (mk (kG cnt k (hs.take j)) hs[j])
  | k, [], j, hj => by simp at hj
  | k, x :: r, 0, _ => rfl
  | k, x :: r, j + 1, hj => by
    have e := mkG_at (k + cnt x) r j (by simpa using hj)
    simp only [mkG, List.getElem?_cons_succ, List.take_succ_cons, kG, List.getElem_cons_succ]
    exact e
end
theorem gd_le_sum {H : Type} (f : H → Nat) : ∀ (l : List H) (h : H), h ∈ l → f h ≤ (l.map f).sum
  | [], h, hh => by simp at hh
  | x :: r, h, hh => by
    simp only [List.map_cons, List.sum_cons]
    rcases List.mem_cons.1 hh with rfl | hh
    · omega
    · have := gd_le_sum f r h hh; omega
theorem gd_sum_le {H : Type} (f g : H → Nat) (c : Nat) : ∀ (l : List H), (∀ h ∈ l, f h ≤ g h + c) → (l.map f).sum ≤ (l.map g).sum + l.length * c
  | [], _ => by simp
  | x :: r, h => by
    simp only [List.map_cons, List.sum_cons, List.length_cons, Nat.succ_mul]
    have h1 := h x (List.mem_cons_self ..)
    have h2 := gd_sum_le f g c r (fun y hy => h y (List.mem_cons_of_mem _ hy))
    omega
theorem WrB.seq {P : Nat → Prop} {w1 w2 w3 : World} (h : WrB P w1 w2) (k : WrB P w2 w3) : WrB P w1 w3 :=
  ⟨k.os.trans h.os, k.tape.trans h.tape, k.output.trans h.output, Nat.le_trans h.size k.size, fun i hi hp => (k.block i (Nat.lt_of_lt_of_le hi h.size) hp).trans (h.block i hi hp)⟩
theorem WrB.weak {P Q : Nat → Prop} {w w' : World} (h : WrB P w w') (hpq : ∀ i, P i → Q i) : WrB Q w w' := ⟨h.os, h.tape, h.output, h.size, fun k hk hq => h.block k hk (fun hp => hq (hpq k hp))⟩
theorem WrB.same (P : Nat → Prop) (w : World) : WrB P w w := ⟨rfl, rfl, rfl, Nat.le_refl _, fun _ _ _ => rfl⟩
theorem WrB.of_below {P : Nat → Prop} {w w' : World} (h : Below w.heap.size w w') : WrB P w w' := ⟨h.os, h.tape, h.output, h.size, fun k hk _ => h.block k hk⟩
end Go.Proofs.Ytjhmammoakiknaa

namespace Go.Proofs.Ytjhmammoakiknaa
open Go.RowKit

theorem gd_infoGdI : (Try.prog.info? 3).map (fun i => (i.zero, i.size, i.bytes)) = some (some (Value.int .i64 0), 1, 8) := by kernel_rfl
def in_Mk (k0 i : Nat) : Int := ((k0 + i : Nat) : Int)
/-- Marks. -/
def in_Mks (k0 n : Nat) : List Int := (List.range n).map (in_Mk k0)
theorem in_Mks_len (k0 n : Nat) : (in_Mks k0 n).length = n := by simp [in_Mks]
def in_Fil (d : List Int) (k : Nat) : List Int := d.take k ++ List.replicate (d.length - k) 0
set_option maxHeartbeats 1000000 in
theorem eqIntS_C (a1 a2 : Option Addr) (n c1 c2 : Nat) (d : List Int) (w : World) (hn : n ≤ maxLen) (hd : d.length = n) (h1 : RowC w (.slice a1 n c1) n (d.map (Value.int .i64))) (h2 : RowC w (.slice a2 n c2) n (d.map (Value.int .i64))) :
    Calls Try.prog 14 #[.slice a1 n c1, .slice a2 n c2] w fun e w' => e = .returned (.bool true) ∧ Below w.heap.size w w' := by
  unfold maxLen at hn
  have H1 := hide h1
  have H2 := hide h2
  have L := hide hd
  clear h1 h2 hd
  go_enter Try.func14, Try.ntmps14
  go_wp2_with fail
  go_loopw [5] (fun i wr => ∃ k : Nat, k ≤ n ∧ i = .int .i64 k ∧ ∃ q, wr = w.drewN q) (fun i _ => n - (intOf i).toNat)
  case atStart => exact ⟨0, Nat.zero_le _, rfl, 0, rfl⟩
  case round =>
    obtain ⟨k, hk, rfl, q, rfl⟩ := hrel
    by_cases hlt : k < n
    · have hkd : k < d.length := by rw [unhide L]; exact hlt
      obtain ⟨b1, o1, rfl, e1⟩ := (unhide H1).at (j := k) (u := Value.int .i64 d[k]) (by simp [hkd])
      obtain ⟨b2, o2, rfl, e2⟩ := (unhide H2).at (j := k) (u := Value.int .i64 d[k]) (by simp [hkd])
      generalize d[k] = x at *
      have hb : (x != x) = false := by simp
      go_wp2_with fail
      go_quiet (fail)
      go_wp2_with fail
      go_roundw
      case rel => exact ⟨k + 1, by omega, by go_num, _, rfl⟩
      case measure => simp [intOf]; omega
    · obtain rfl : k = n := by omega
      go_wp2_with fail
      go_ret
      exact ⟨rfl, bel_drewN (Below.refl _ _) _⟩
theorem in__set (k0 k : Nat) : (.int .i64 ((k0 : Int) + k)) = Value.int .i64 (in_Mk k0 k) := by unfold in_Mk; simp
set_option maxHeartbeats 1000000 in
theorem gd_markIntS_some (B g n c k0 : Nat) (d : List Int) (w : World) (hn : n + k0 ≤ 100000000) (hd : d.length = n) (h1 : w.ownsRow B 3 1 (.slice (some ⟨g, 0, none⟩) n c) n (d.map (Value.int .i64))) :
    Calls Try.prog 18 #[.slice (some ⟨g, 0, none⟩) n c, .int .i64 (k0 : Int)] w fun e w' => e = .returned (.int .i64 ((k0 + n : Nat) : Int)) ∧ w'.ownsRow B 3 1 (.slice (some ⟨g, 0, none⟩) n c) n ((in_Mks k0 n).map (Value.int .i64)) ∧ WrB (fun i => i = g) w w' := by
  have H := hide h1
  have L := hide hd
  clear h1 hd
  go_enter Try.func18, Try.ntmps18
  go_wp2_with fail
  go_loopw [1, 5] (fun q i wr => ∃ k : Nat, k ≤ n ∧ i = .int .i64 k ∧ q = .int .i64 ((k0 : Int) + k) ∧ Hid (wr.ownsRow B 3 1 (.slice (some ⟨g, 0, none⟩) n c) n ((in_Mks k0 k ++ d.drop k).map (Value.int .i64))) ∧ Hid (WrB (fun i => i = g) w wr)) (fun _ i _ => n - (intOf i).toNat)
  case atStart => exact ⟨0, Nat.zero_le _, rfl, by simp, unhide H, WrB.same _ _⟩
  case round =>
    clear H
    obtain ⟨k, hk, rfl, rfl, ho, hw⟩ := hrel
    by_cases hlt : k < n
    · have hkd : k < d.length := by rw [unhide L]; exact hlt
      obtain ⟨u3, e3⟩ := rb_ownsRow_some (unhide ho) (j := k) (by omega)
      have e4 := (unhide ho).frozenAt k
      have R := hide (show (wr.setCell ⟨g, k, none⟩ (.int .i64 ((k0 : Int) + k))).ownsRow B 3 1 (.slice (some ⟨g, 0, none⟩) n c) n ((in_Mks k0 (k + 1) ++ d.drop (k + 1)).map (Value.int .i64)) by
        have h := (World.ownsRow.stored (unhide ho) k (Value.int .i64 (in_Mk k0 k))).1
        rw [← List.map_set] at h
        have e : (in_Mks k0 k ++ d.drop k).set k (in_Mk k0 k) = in_Mks k0 (k + 1) ++ d.drop (k + 1) := rb_set_mark (in_Mk k0) d k hkd
        rw [e, ← in__set] at h
        exact h)
      have R2 := hide ((unhide hw).seq (show WrB (fun i => i = g) wr (wr.setCell ⟨g, k, none⟩ (.int .i64 ((k0 : Int) + k))) from ⟨rfl, rfl, rfl, by simp [World.setCell], fun k _ hk => Below.heap_setCell _ _ _ _ hk⟩))
      clear ho hw
      go_wp2_with fail
      all_goals
        go_roundw
        case rel => exact ⟨k + 1, by omega, by go_num, by go_num, unhide R, unhide R2⟩
        case measure => simp [intOf]; omega
    · obtain rfl : k = n := by omega
      have Z := hide (show wr.ownsRow B 3 1 (.slice (some ⟨g, 0, none⟩) k c) k ((in_Mks k0 k).map (Value.int .i64)) by
        have h := unhide ho
        rwa [List.drop_of_length_le (by rw [unhide L]; exact Nat.le_refl _), List.append_nil] at h)
      go_wp2_with fail
      go_ret
      exact ⟨ret_int (by omega), unhide Z, unhide hw⟩
theorem gd_markIntS_nil (k0 : Int) (w : World) : Calls Try.prog 18 #[.slice none 0 0, .int .i64 k0] w fun e w' => e = .returned (.int .i64 k0) ∧ w' = w := by
  go_enter Try.func18, Try.ntmps18
  go_wp2_with fail
  refine wp_loop_rounds 1 ?_
  rw [rounds_succ]
  go_wp2_with fail
  go_ret
  exact ⟨rfl, rfl⟩
theorem markIntS_own (B : Nat) (a : Option Addr) (n c k0 : Nat) (d : List Int) (w : World) (hn : n + k0 ≤ 100000000) (hd : d.length = n) (h1 : w.ownsRow B 3 1 (.slice a n c) n (d.map (Value.int .i64))) :
    Calls Try.prog 18 #[.slice a n c, .int .i64 (k0 : Int)] w fun e w' => e = .returned (.int .i64 ((k0 + n : Nat) : Int)) ∧ w'.ownsRow B 3 1 (.slice a n c) n ((in_Mks k0 n).map (Value.int .i64)) ∧ WrB (fun i => (Value.slice a n c).ownBlock = some i) w w' := by
  rcases h1.2 with ⟨e, hl⟩ | ⟨g, cap, cur, e, _⟩
  · injection e with e1 e2 e3
    subst e1 e2 e3
    refine (gd_markIntS_nil k0 w).mono ?_
    rintro e w' ⟨rfl, rfl⟩
    exact ⟨rfl, World.ownsRow_nil _ _ _ _, WrB.same _ _⟩
  · injection e with e1 e2 e3
    subst e1
    refine (gd_markIntS_some B g n c k0 d w hn hd h1).mono ?_
    rintro e w' ⟨rfl, h2, h3⟩
    exact ⟨rfl, h2, h3.weak (fun i hi => by rw [hi]; rfl)⟩
set_option maxHeartbeats 1000000 in
theorem heldIntS_C (a : Option Addr) (n c k0 : Nat) (w : World) (hn : n + k0 ≤ 100000000) (h1 : RowC w (.slice a n c) n ((in_Mks k0 n).map (Value.int .i64))) :
    Calls Try.prog 20 #[.slice a n c, .int .i64 (k0 : Int)] w fun e w' => e = .returned (.int .i64 ((k0 + n : Nat) : Int)) ∧ Below w.heap.size w w' := by
  have H1 := hide h1
  clear h1
  go_enter Try.func20, Try.ntmps20
  go_wp2_with fail
  go_loopw [1, 5] (fun q i wr => ∃ k : Nat, k ≤ n ∧ i = .int .i64 k ∧ q = .int .i64 ((k0 : Int) + k) ∧ ∃ d, wr = w.drewN d) (fun _ i _ => n - (intOf i).toNat)
  case atStart => exact ⟨0, Nat.zero_le _, rfl, by simp, 0, rfl⟩
  case round =>
    obtain ⟨k, hk, rfl, rfl, dd, rfl⟩ := hrel
    by_cases hlt : k < n
    · obtain ⟨b, off, rfl, e1⟩ := (unhide H1).at (j := k) (u := (.int .i64 ((k0 : Int) + k))) (by rw [List.getElem?_map]; unfold in_Mks; rw [List.getElem?_map, List.getElem?_range hlt]; exact congrArg some (in__set k0 k).symm)
      go_wp2_with fail
      go_roundw
      case rel => exact ⟨k + 1, by omega, by go_num, by go_num, _, rfl⟩
      case measure => simp [intOf]; omega
    · obtain rfl : k = n := by omega
      go_wp2_with fail
      go_ret
      exact ⟨ret_int (by omega), bel_drewN (Below.refl _ _) _⟩
end Go.Proofs.Ytjhmammoakiknaa

namespace Go.Proofs.Ytjhmammoakiknaa
open Go.RowKit

theorem gd_infoGdB : (Try.prog.info? 5).map (fun i => (i.zero, i.size, i.bytes)) = some (some (Value.int .u8 0), 1, 1) := by kernel_rfl
def byMk (k0 i : Nat) : Int := (((k0 + i : Nat) : Int) % 256)
/-- Marks. -/
def byMks (k0 n : Nat) : List Int := (List.range n).map (byMk k0)
theorem byMks_len (k0 n : Nat) : (byMks k0 n).length = n := by simp [byMks]
def byFil (d : List Int) (k : Nat) : List Int := d.take k ++ List.replicate (d.length - k) 0
set_option maxHeartbeats 1000000 in
theorem toByteS_own (a : Option Addr) (n c : Nat) (d : List Int) (w : World) (hn : n ≤ 1048576) (hd : d.length = n) (h1 : RowC w (.slice a n c) n (d.map (Value.int .u8))) :
    Calls Try.prog 63 #[.slice a n c] w fun e w' => e = .returned (.slice (some ⟨w.heap.size, 0, none⟩) n n) ∧ w'.ownsRow w.heap.size 5 1 (.slice (some ⟨w.heap.size, 0, none⟩) n n) n (d.map (Value.int .u8)) ∧ Below w.heap.size w w' := by
  obtain ⟨i0, hi, hz0, hz1, hz2⟩ := info_parts gd_infoGdB
  have H1 := hide h1
  have L := hide hd
  clear h1 hd
  go_enter Try.func63, Try.ntmps63
  go_wp2_with (at_make; refine wpList_make_full _ rfl _ _ 22 rfl w.heap.size 5 i0 (Value.int .u8 0) 1 Try.underlying22 hi hz0 hz1 _ _ _ _ n rfl rfl rfl rfl (by rw [hz2]; omega) (by unfold maxLen; omega) (Nat.le_refl _) ?_)
  intro w1 hown hgrow
  rw [toList_madeCells_one] at hown
  have hbel : Below w.heap.size w w1 := (Below.refl _ _).grown hgrow (Nat.le_refl _) (fun k hk => by cases hk)
  have H0 := hide (show w1.ownsRow w.heap.size 5 1 (.slice (some ⟨w.heap.size, 0, none⟩) n n) n ((byFil d 0).map (Value.int .u8)) by unfold byFil; rw [List.take_zero, List.nil_append, Nat.sub_zero, List.map_replicate, unhide L]; exact hown)
  clear hown hgrow
  go_wp2_with fail
  go_loopw [4] (fun i wr => ∃ k : Nat, k ≤ n ∧ i = .int .i64 k ∧ Hid (wr.ownsRow w.heap.size 5 1 (.slice (some ⟨w.heap.size, 0, none⟩) n n) n ((byFil d k).map (Value.int .u8))) ∧ Below w.heap.size w wr) (fun i _ => n - (intOf i).toNat)
  case atStart => exact ⟨0, Nat.zero_le _, rfl, unhide H0, hbel⟩
  case round =>
    clear H0 hbel
    obtain ⟨k, hk, rfl, ho, hb⟩ := hrel
    by_cases hlt : k < n
    · have hkd : k < d.length := by rw [unhide L]; exact hlt
      obtain ⟨b, off, rfl, e1⟩ := (unhide H1).at (j := k) (u := Value.int .u8 d[k]) (by simp [hkd])
      have e2 := (hb.cell (p := ⟨b, off + k, none⟩) (cell_lt e1)).trans e1
      obtain ⟨u3, e3⟩ := rb_ownsRow_some (unhide ho) (j := k) (by omega)
      have e4 := (unhide ho).frozenAt k
      have R := hide (show (wr.setCell ⟨w.heap.size, k, none⟩ (Value.int .u8 d[k])).ownsRow w.heap.size 5 1 (.slice (some ⟨w.heap.size, 0, none⟩) n n) n ((byFil d (k + 1)).map (Value.int .u8)) by
        have h := (World.ownsRow.stored (unhide ho) k (Value.int .u8 d[k])).1
        rw [← List.map_set] at h
        have e : (byFil d k).set k d[k] = byFil d (k + 1) := rb_fil_set d 0 k hkd
        rwa [e] at h)
      have R2 := hide (hb.setCell (p := ⟨w.heap.size, k, none⟩) (Nat.le_refl _) (Value.int .u8 d[k]))
      clear e1 ho hb
      generalize d[k] = x at *
      go_wp2_with fail
      go_roundw
      case rel => exact ⟨k + 1, by omega, by go_num, unhide R, unhide R2⟩
      case measure => simp [intOf]; omega
    · obtain rfl : k = n := by omega
      have Z := hide (show wr.ownsRow w.heap.size 5 1 (.slice (some ⟨w.heap.size, 0, none⟩) k k) k (d.map (Value.int .u8)) by
        have h := unhide ho
        unfold byFil at h
        rwa [List.take_of_length_le (by rw [unhide L]; exact Nat.le_refl _), unhide L, Nat.sub_self, List.replicate_zero, List.append_nil] at h)
      go_wp2_with fail
      go_ret
      exact ⟨rfl, unhide Z, hb⟩
set_option maxHeartbeats 1000000 in
theorem eqByteS_C (a1 a2 : Option Addr) (n c1 c2 : Nat) (d : List Int) (w : World) (hn : n ≤ maxLen) (hd : d.length = n) (h1 : RowC w (.slice a1 n c1) n (d.map (Value.int .u8))) (h2 : RowC w (.slice a2 n c2) n (d.map (Value.int .u8))) :
    Calls Try.prog 34 #[.slice a1 n c1, .slice a2 n c2] w fun e w' => e = .returned (.bool true) ∧ Below w.heap.size w w' := by
  unfold maxLen at hn
  have H1 := hide h1
  have H2 := hide h2
  have L := hide hd
  clear h1 h2 hd
  go_enter Try.func34, Try.ntmps34
  go_wp2_with fail
  go_loopw [5] (fun i wr => ∃ k : Nat, k ≤ n ∧ i = .int .i64 k ∧ ∃ q, wr = w.drewN q) (fun i _ => n - (intOf i).toNat)
  case atStart => exact ⟨0, Nat.zero_le _, rfl, 0, rfl⟩
  case round =>
    obtain ⟨k, hk, rfl, q, rfl⟩ := hrel
    by_cases hlt : k < n
    · have hkd : k < d.length := by rw [unhide L]; exact hlt
      obtain ⟨b1, o1, rfl, e1⟩ := (unhide H1).at (j := k) (u := Value.int .u8 d[k]) (by simp [hkd])
      obtain ⟨b2, o2, rfl, e2⟩ := (unhide H2).at (j := k) (u := Value.int .u8 d[k]) (by simp [hkd])
      generalize d[k] = x at *
      have hb : (x != x) = false := by simp
      go_wp2_with fail
      go_quiet (fail)
      go_wp2_with fail
      go_roundw
      case rel => exact ⟨k + 1, by omega, by go_num, _, rfl⟩
      case measure => simp [intOf]; omega
    · obtain rfl : k = n := by omega
      go_wp2_with fail
      go_ret
      exact ⟨rfl, bel_drewN (Below.refl _ _) _⟩
theorem by_set (k0 k : Nat) : (.int .u8 (((k0 : Int) + k) % 256)) = Value.int .u8 (byMk k0 k) := by unfold byMk; simp
set_option maxHeartbeats 1000000 in
theorem gd_markByteS_some (B g n c k0 : Nat) (d : List Int) (w : World) (hn : n + k0 ≤ 100000000) (hd : d.length = n) (h1 : w.ownsRow B 5 1 (.slice (some ⟨g, 0, none⟩) n c) n (d.map (Value.int .u8))) :
    Calls Try.prog 37 #[.slice (some ⟨g, 0, none⟩) n c, .int .i64 (k0 : Int)] w fun e w' => e = .returned (.int .i64 ((k0 + n : Nat) : Int)) ∧ w'.ownsRow B 5 1 (.slice (some ⟨g, 0, none⟩) n c) n ((byMks k0 n).map (Value.int .u8)) ∧ WrB (fun i => i = g) w w' := by
  have H := hide h1
  have L := hide hd
  clear h1 hd
  go_enter Try.func37, Try.ntmps37
  go_wp2_with fail
  go_loopw [1, 5] (fun q i wr => ∃ k : Nat, k ≤ n ∧ i = .int .i64 k ∧ q = .int .i64 ((k0 : Int) + k) ∧ Hid (wr.ownsRow B 5 1 (.slice (some ⟨g, 0, none⟩) n c) n ((byMks k0 k ++ d.drop k).map (Value.int .u8))) ∧ Hid (WrB (fun i => i = g) w wr)) (fun _ i _ => n - (intOf i).toNat)
  case atStart => exact ⟨0, Nat.zero_le _, rfl, by simp, unhide H, WrB.same _ _⟩
  case round =>
    clear H
    obtain ⟨k, hk, rfl, rfl, ho, hw⟩ := hrel
    by_cases hlt : k < n
    · have hkd : k < d.length := by rw [unhide L]; exact hlt
      obtain ⟨u3, e3⟩ := rb_ownsRow_some (unhide ho) (j := k) (by omega)
      have e4 := (unhide ho).frozenAt k
      have R := hide (show (wr.setCell ⟨g, k, none⟩ (.int .u8 (((k0 : Int) + k) % 256))).ownsRow B 5 1 (.slice (some ⟨g, 0, none⟩) n c) n ((byMks k0 (k + 1) ++ d.drop (k + 1)).map (Value.int .u8)) by
        have h := (World.ownsRow.stored (unhide ho) k (Value.int .u8 (byMk k0 k))).1
        rw [← List.map_set] at h
        have e : (byMks k0 k ++ d.drop k).set k (byMk k0 k) = byMks k0 (k + 1) ++ d.drop (k + 1) := rb_set_mark (byMk k0) d k hkd
        rw [e, ← by_set] at h
        exact h)
      have R2 := hide ((unhide hw).seq (show WrB (fun i => i = g) wr (wr.setCell ⟨g, k, none⟩ (.int .u8 (((k0 : Int) + k) % 256))) from ⟨rfl, rfl, rfl, by simp [World.setCell], fun k _ hk => Below.heap_setCell _ _ _ _ hk⟩))
      clear ho hw
      go_wp2_with fail
      all_goals
        go_roundw
        case rel => exact ⟨k + 1, by omega, by go_num, by go_num, unhide R, unhide R2⟩
        case measure => simp [intOf]; omega
    · obtain rfl : k = n := by omega
      have Z := hide (show wr.ownsRow B 5 1 (.slice (some ⟨g, 0, none⟩) k c) k ((byMks k0 k).map (Value.int .u8)) by
        have h := unhide ho
        rwa [List.drop_of_length_le (by rw [unhide L]; exact Nat.le_refl _), List.append_nil] at h)
      go_wp2_with fail
      go_ret
      exact ⟨ret_int (by omega), unhide Z, unhide hw⟩
theorem gd_markByteS_nil (k0 : Int) (w : World) : Calls Try.prog 37 #[.slice none 0 0, .int .i64 k0] w fun e w' => e = .returned (.int .i64 k0) ∧ w' = w := by
  go_enter Try.func37, Try.ntmps37
  go_wp2_with fail
  refine wp_loop_rounds 1 ?_
  rw [rounds_succ]
  go_wp2_with fail
  go_ret
  exact ⟨rfl, rfl⟩
theorem markByteS_own (B : Nat) (a : Option Addr) (n c k0 : Nat) (d : List Int) (w : World) (hn : n + k0 ≤ 100000000) (hd : d.length = n) (h1 : w.ownsRow B 5 1 (.slice a n c) n (d.map (Value.int .u8))) :
    Calls Try.prog 37 #[.slice a n c, .int .i64 (k0 : Int)] w fun e w' => e = .returned (.int .i64 ((k0 + n : Nat) : Int)) ∧ w'.ownsRow B 5 1 (.slice a n c) n ((byMks k0 n).map (Value.int .u8)) ∧ WrB (fun i => (Value.slice a n c).ownBlock = some i) w w' := by
  rcases h1.2 with ⟨e, hl⟩ | ⟨g, cap, cur, e, _⟩
  · injection e with e1 e2 e3
    subst e1 e2 e3
    refine (gd_markByteS_nil k0 w).mono ?_
    rintro e w' ⟨rfl, rfl⟩
    exact ⟨rfl, World.ownsRow_nil _ _ _ _, WrB.same _ _⟩
  · injection e with e1 e2 e3
    subst e1
    refine (gd_markByteS_some B g n c k0 d w hn hd h1).mono ?_
    rintro e w' ⟨rfl, h2, h3⟩
    exact ⟨rfl, h2, h3.weak (fun i hi => by rw [hi]; rfl)⟩
set_option maxHeartbeats 1000000 in
theorem heldByteS_C (a : Option Addr) (n c k0 : Nat) (w : World) (hn : n + k0 ≤ 100000000) (h1 : RowC w (.slice a n c) n ((byMks k0 n).map (Value.int .u8))) :
    Calls Try.prog 40 #[.slice a n c, .int .i64 (k0 : Int)] w fun e w' => e = .returned (.int .i64 ((k0 + n : Nat) : Int)) ∧ Below w.heap.size w w' := by
  have H1 := hide h1
  clear h1
  go_enter Try.func40, Try.ntmps40
  go_wp2_with fail
  go_loopw [1, 5] (fun q i wr => ∃ k : Nat, k ≤ n ∧ i = .int .i64 k ∧ q = .int .i64 ((k0 : Int) + k) ∧ ∃ d, wr = w.drewN d) (fun _ i _ => n - (intOf i).toNat)
  case atStart => exact ⟨0, Nat.zero_le _, rfl, by simp, 0, rfl⟩
  case round =>
    obtain ⟨k, hk, rfl, rfl, dd, rfl⟩ := hrel
    by_cases hlt : k < n
    · obtain ⟨b, off, rfl, e1⟩ := (unhide H1).at (j := k) (u := (.int .u8 (((k0 : Int) + k) % 256))) (by rw [List.getElem?_map]; unfold byMks; rw [List.getElem?_map, List.getElem?_range hlt]; exact congrArg some (by_set k0 k).symm)
      go_wp2_with fail
      go_roundw
      case rel => exact ⟨k + 1, by omega, by go_num, by go_num, _, rfl⟩
      case measure => simp [intOf]; omega
    · obtain rfl : k = n := by omega
      go_wp2_with fail
      go_ret
      exact ⟨ret_int (by omega), bel_drewN (Below.refl _ _) _⟩
end Go.Proofs.Ytjhmammoakiknaa

namespace Go.Proofs.Ytjhmammoakiknaa
open Go.RowKit

theorem eqBytes_same (a1 a2 : Option Addr) (n c1 c2 : Nat) (xs : List Int) (w : World) (hn : n ≤ maxLen) (h1 : Row w a1 n xs) (h2 : Row w a2 n xs) :
    Calls Try.prog 34 #[.slice a1 n c1, .slice a2 n c2] w fun e w' => e = .returned (.bool true) ∧ Below w.heap.size w w' := by
  refine (eqByteS_any a1 a2 n n c1 c2 xs xs w hn hn h1 h2).mono ?_
  rintro e w' ⟨rfl, k, rfl⟩
  exact ⟨ret_bool (by simp), bel_drewN (Below.refl _ _) _⟩
set_option maxHeartbeats 1000000 in
theorem eqWrite_any (x : Int) (a1 a2 : Option Addr) (n c1 c2 : Nat) (xs : List Int) (w : World) (hn : n ≤ maxLen) (h1 : Row w a1 n xs) (h2 : Row w a2 n xs) :
    Calls Try.prog 65 #[wv x a1 n c1, wv x a2 n c2] w fun e w' => e = .returned (.bool true) ∧ Below w.heap.size w w' := by
  have hb0 : ∀ o1 o2, Below w.heap.size w ((w.alloc o1).alloc o2) := fun o1 o2 => ((Below.refl w.heap.size w).alloc (Nat.le_refl _) _).alloc (by simp) _
  have R1 := hide fun o1 o2 => row_grow h1 (hb0 o1 o2)
  have R2 := hide fun o1 o2 => row_grow h2 (hb0 o1 o2)
  clear h1 h2
  go_enter Try.func65, Try.ntmps65
  go_wp2_with fail
  refine (eqBytes_same a1 a2 n c1 c2 xs _ hn (unhide R1 _ _) (unhide R2 _ _)).mono ?_
  rintro e w1 ⟨rfl, hb⟩
  have B := hide ((hb0 _ _).trans (hb.mono (by simp; omega)))
  clear hb
  go_wp2_with fail
  go_ret
  exact ⟨rfl, unhide B⟩
set_option maxHeartbeats 1000000 in
theorem eqWriteS_any (a1 a2 : Option Addr) (n c1 c2 : Nat) (ws : List WD) (w : World) (hn : n ≤ maxLen) (h1 : WRow w a1 n ws) (h2 : WRow w a2 n ws) :
    Calls Try.prog 35 #[.slice a1 n c1, .slice a2 n c2] w fun e w' => e = .returned (.bool true) ∧ Below w.heap.size w w' := by
  have L := hide h1.1
  have R1 := hide h1
  have R2 := hide h2
  clear h1 h2
  unfold maxLen at hn
  go_enter Try.func35, Try.ntmps35
  go_wp2_with fail
  go_loopw [5] (fun i wr => ∃ k : Nat, k ≤ n ∧ i = .int .i64 k ∧ Below w.heap.size w wr) (fun i _ => n - (intOf i).toNat)
  case atStart => exact ⟨0, by omega, rfl, Below.refl _ _⟩
  case round =>
    obtain ⟨k, hk, rfl, hb⟩ := hrel
    by_cases hlt : k < n
    · have hk2 : k < ws.length := by rw [unhide L]; exact hlt
      obtain ⟨b, off, rfl, d0, a', c', d1, hm, r1⟩ := ((unhide R1).below hb).2 k hk2
      obtain ⟨b', off', rfl, y0, a'', c'', y1, _, r2⟩ := ((unhide R2).below hb).2 k hk2
      have H1 := hide r1
      have H2 := hide r2
      clear r1 r2
      generalize ws[k] = pd at *
      have hsz := hb.size
      go_wp2_with fail
      go_region_with (go_at_call 65; (first | refine (eqWrite_any pd.at_ a' a'' pd.xs.length c' c'' pd.xs wr.drew hm.1 (unhide H1) (unhide H2)).mono ?_ | refine (eqWrite_any pd.at_ a' a'' pd.xs.length c' c'' pd.xs wr hm.1 (unhide H1) (unhide H2)).mono ?_); rintro e w2 ⟨rfl, hb2⟩)
      all_goals
        have bA : Below w.heap.size w w2 := by first | exact hb.drew.trans (hb2.mono hsz) | exact (bel_drewN hb _).trans (hb2.mono hsz) | exact hb.trans (hb2.mono hsz)
        clear hb hb2 d0 d1 y0 y1
        go_wp2_with fail
        go_roundw
        case rel => exact ⟨k + 1, by omega, by go_num, bA⟩
        case measure => simp [intOf]; omega
    · obtain rfl : k = n := by omega
      go_wp2_with fail
      go_ret
      exact ⟨rfl, hb⟩
set_option maxHeartbeats 1000000 in
theorem eqFlash_any (a1 a2 : Option Addr) (nh c1 c2 : Nat) (b1 b2 : Option Addr) (nw d1 d2 : Nat) (xs : List Int) (ws : List WD) (w : World) (hnh : nh ≤ maxLen) (hn : nw ≤ maxLen) (h1 : Row w a1 nh xs) (h2 : Row w a2 nh xs) (h3 : WRow w b1 nw ws) (h4 : WRow w b2 nw ws) :
    Calls Try.prog 15 #[fv a1 nh c1 b1 nw d1, fv a2 nh c2 b2 nw d2] w fun e w' => e = .returned (.bool true) ∧ Below w.heap.size w w' := by
  have hb0 : ∀ o1 o2, Below w.heap.size w ((w.alloc o1).alloc o2) := fun o1 o2 => ((Below.refl w.heap.size w).alloc (Nat.le_refl _) _).alloc (by simp) _
  have R1 := hide fun o1 o2 => row_grow h1 (hb0 o1 o2)
  have R2 := hide fun o1 o2 => row_grow h2 (hb0 o1 o2)
  have R3 := hide h3
  have R4 := hide h4
  clear h1 h2 h3 h4
  go_enter Try.func15, Try.ntmps15
  go_wp2_with fail
  refine (eqBytes_same a1 a2 nh c1 c2 xs _ hnh (unhide R1 _ _) (unhide R2 _ _)).mono ?_
  rintro e w1 ⟨rfl, hb⟩
  have B := hide ((hb0 (.cells #[.slice a1 nh c1, .slice b1 nw d1] 28) (.cells #[.slice a2 nh c2, .slice b2 nw d2] 28)).trans (hb.mono (by simp; omega)))
  have p1 : w1.cell? ⟨w.heap.size, 1, none⟩ = some (.slice b1 nw d1) := (hb.cell (p := ⟨w.heap.size, 1, none⟩) (by simp; omega)).trans ((cell_old (by simp)).trans ((cell_new rfl).trans rfl))
  have p2 : w1.cell? ⟨w.heap.size + 1, 1, none⟩ = some (.slice b2 nw d2) := (hb.cell (p := ⟨w.heap.size + 1, 1, none⟩) (by simp)).trans ((cell_new (by simp)).trans rfl)
  have hsz := (unhide B).size
  clear hb
  go_wp2_with fail
  refine (eqWriteS_any b1 b2 nw d1 d2 ws w1 hn ((unhide R3).below (unhide B)) ((unhide R4).below (unhide B))).mono ?_
  rintro e w2 ⟨rfl, hb2⟩
  have B2 := hide ((unhide B).trans (hb2.mono hsz))
  clear hb2 p1 p2
  go_wp2_with fail
  go_ret
  exact ⟨rfl, unhide B2⟩
end Go.Proofs.Ytjhmammoakiknaa

namespace Go.Proofs.Ytjhmammoakiknaa
open Go.RowKit

theorem gd_infoGdO : (Try.prog.info? 4).map (fun i => (i.zero, i.size, i.bytes)) = some (some (Value.bool false), 1, 1) := by kernel_rfl
def boMk (k0 i : Nat) : Bool := (decide ((k0 + i) % 3 = 0))
/-- Marks. -/
def boMks (k0 n : Nat) : List Bool := (List.range n).map (boMk k0)
theorem boMks_len (k0 n : Nat) : (boMks k0 n).length = n := by simp [boMks]
def boFil (d : List Bool) (k : Nat) : List Bool := d.take k ++ List.replicate (d.length - k) false
set_option maxHeartbeats 1000000 in
theorem toBoolS_own (a : Option Addr) (n c : Nat) (d : List Bool) (w : World) (hn : n ≤ 1048576) (hd : d.length = n) (h1 : RowC w (.slice a n c) n (d.map (Value.bool))) :
    Calls Try.prog 64 #[.slice a n c] w fun e w' => e = .returned (.slice (some ⟨w.heap.size, 0, none⟩) n n) ∧ w'.ownsRow w.heap.size 4 1 (.slice (some ⟨w.heap.size, 0, none⟩) n n) n (d.map (Value.bool)) ∧ Below w.heap.size w w' := by
  obtain ⟨i0, hi, hz0, hz1, hz2⟩ := info_parts gd_infoGdO
  have H1 := hide h1
  have L := hide hd
  clear h1 hd
  go_enter Try.func64, Try.ntmps64
  go_wp2_with (at_make; refine wpList_make_full _ rfl _ _ 32 rfl w.heap.size 4 i0 (Value.bool false) 1 Try.underlying32 hi hz0 hz1 _ _ _ _ n rfl rfl rfl rfl (by rw [hz2]; omega) (by unfold maxLen; omega) (Nat.le_refl _) ?_)
  intro w1 hown hgrow
  rw [toList_madeCells_one] at hown
  have hbel : Below w.heap.size w w1 := (Below.refl _ _).grown hgrow (Nat.le_refl _) (fun k hk => by cases hk)
  have H0 := hide (show w1.ownsRow w.heap.size 4 1 (.slice (some ⟨w.heap.size, 0, none⟩) n n) n ((boFil d 0).map (Value.bool)) by unfold boFil; rw [List.take_zero, List.nil_append, Nat.sub_zero, List.map_replicate, unhide L]; exact hown)
  clear hown hgrow
  go_wp2_with fail
  go_loopw [4] (fun i wr => ∃ k : Nat, k ≤ n ∧ i = .int .i64 k ∧ Hid (wr.ownsRow w.heap.size 4 1 (.slice (some ⟨w.heap.size, 0, none⟩) n n) n ((boFil d k).map (Value.bool))) ∧ Below w.heap.size w wr) (fun i _ => n - (intOf i).toNat)
  case atStart => exact ⟨0, Nat.zero_le _, rfl, unhide H0, hbel⟩
  case round =>
    clear H0 hbel
    obtain ⟨k, hk, rfl, ho, hb⟩ := hrel
    by_cases hlt : k < n
    · have hkd : k < d.length := by rw [unhide L]; exact hlt
      obtain ⟨b, off, rfl, e1⟩ := (unhide H1).at (j := k) (u := Value.bool d[k]) (by simp [hkd])
      have e2 := (hb.cell (p := ⟨b, off + k, none⟩) (cell_lt e1)).trans e1
      obtain ⟨u3, e3⟩ := rb_ownsRow_some (unhide ho) (j := k) (by omega)
      have e4 := (unhide ho).frozenAt k
      have R := hide (show (wr.setCell ⟨w.heap.size, k, none⟩ (Value.bool d[k])).ownsRow w.heap.size 4 1 (.slice (some ⟨w.heap.size, 0, none⟩) n n) n ((boFil d (k + 1)).map (Value.bool)) by
        have h := (World.ownsRow.stored (unhide ho) k (Value.bool d[k])).1
        rw [← List.map_set] at h
        have e : (boFil d k).set k d[k] = boFil d (k + 1) := rb_fil_set d false k hkd
        rwa [e] at h)
      have R2 := hide (hb.setCell (p := ⟨w.heap.size, k, none⟩) (Nat.le_refl _) (Value.bool d[k]))
      clear e1 ho hb
      generalize d[k] = x at *
      go_wp2_with fail
      go_roundw
      case rel => exact ⟨k + 1, by omega, by go_num, unhide R, unhide R2⟩
      case measure => simp [intOf]; omega
    · obtain rfl : k = n := by omega
      have Z := hide (show wr.ownsRow w.heap.size 4 1 (.slice (some ⟨w.heap.size, 0, none⟩) k k) k (d.map (Value.bool)) by
        have h := unhide ho
        unfold boFil at h
        rwa [List.take_of_length_le (by rw [unhide L]; exact Nat.le_refl _), unhide L, Nat.sub_self, List.replicate_zero, List.append_nil] at h)
      go_wp2_with fail
      go_ret
      exact ⟨rfl, unhide Z, hb⟩
theorem gd_eqlb (x : Bool) (w : World) : (binOp .neq 4 (.bool x) (.bool x)).run Try.prog w = .ok (.bool false) w := by cases x <;> kernel_rfl
set_option maxHeartbeats 1000000 in
theorem eqBoolS_C (a1 a2 : Option Addr) (n c1 c2 : Nat) (d : List Bool) (w : World) (hn : n ≤ maxLen) (hd : d.length = n) (h1 : RowC w (.slice a1 n c1) n (d.map (Value.bool))) (h2 : RowC w (.slice a2 n c2) n (d.map (Value.bool))) :
    Calls Try.prog 66 #[.slice a1 n c1, .slice a2 n c2] w fun e w' => e = .returned (.bool true) ∧ Below w.heap.size w w' := by
  unfold maxLen at hn
  have H1 := hide h1
  have H2 := hide h2
  have L := hide hd
  clear h1 h2 hd
  go_enter Try.func66, Try.ntmps66
  go_wp2_with fail
  go_loopw [5] (fun i wr => ∃ k : Nat, k ≤ n ∧ i = .int .i64 k ∧ ∃ q, wr = w.drewN q) (fun i _ => n - (intOf i).toNat)
  case atStart => exact ⟨0, Nat.zero_le _, rfl, 0, rfl⟩
  case round =>
    obtain ⟨k, hk, rfl, q, rfl⟩ := hrel
    by_cases hlt : k < n
    · have hkd : k < d.length := by rw [unhide L]; exact hlt
      obtain ⟨b1, o1, rfl, e1⟩ := (unhide H1).at (j := k) (u := Value.bool d[k]) (by simp [hkd])
      obtain ⟨b2, o2, rfl, e2⟩ := (unhide H2).at (j := k) (u := Value.bool d[k]) (by simp [hkd])
      generalize d[k] = x at *
      have heq : ∀ w, (binOp .neq 4 (.bool x) (.bool x)).run Try.prog w = .ok (.bool false) w := gd_eqlb x
      go_wp2_with fail
      go_quiet (fail)
      go_wp2_with fail
      go_roundw
      case rel => exact ⟨k + 1, by omega, by go_num, _, rfl⟩
      case measure => simp [intOf]; omega
    · obtain rfl : k = n := by omega
      go_wp2_with fail
      go_ret
      exact ⟨rfl, bel_drewN (Below.refl _ _) _⟩
theorem bo_set (k0 k : Nat) : (.bool (decide (((k0 : Int) + k) % 3 = 0))) = Value.bool (boMk k0 k) := by unfold boMk; congr 1; rw [decide_eq_decide]; omega
set_option maxHeartbeats 1000000 in
theorem gd_markBoolS_some (B g n c k0 : Nat) (d : List Bool) (w : World) (hn : n + k0 ≤ 100000000) (hd : d.length = n) (h1 : w.ownsRow B 4 1 (.slice (some ⟨g, 0, none⟩) n c) n (d.map (Value.bool))) :
    Calls Try.prog 38 #[.slice (some ⟨g, 0, none⟩) n c, .int .i64 (k0 : Int)] w fun e w' => e = .returned (.int .i64 ((k0 + n : Nat) : Int)) ∧ w'.ownsRow B 4 1 (.slice (some ⟨g, 0, none⟩) n c) n ((boMks k0 n).map (Value.bool)) ∧ WrB (fun i => i = g) w w' := by
  have H := hide h1
  have L := hide hd
  clear h1 hd
  go_enter Try.func38, Try.ntmps38
  go_wp2_with fail
  go_loopw [1, 5] (fun q i wr => ∃ k : Nat, k ≤ n ∧ i = .int .i64 k ∧ q = .int .i64 ((k0 : Int) + k) ∧ Hid (wr.ownsRow B 4 1 (.slice (some ⟨g, 0, none⟩) n c) n ((boMks k0 k ++ d.drop k).map (Value.bool))) ∧ Hid (WrB (fun i => i = g) w wr)) (fun _ i _ => n - (intOf i).toNat)
  case atStart => exact ⟨0, Nat.zero_le _, rfl, by simp, unhide H, WrB.same _ _⟩
  case round =>
    clear H
    obtain ⟨k, hk, rfl, rfl, ho, hw⟩ := hrel
    by_cases hlt : k < n
    · have hkd : k < d.length := by rw [unhide L]; exact hlt
      obtain ⟨u3, e3⟩ := rb_ownsRow_some (unhide ho) (j := k) (by omega)
      have e4 := (unhide ho).frozenAt k
      have R := hide (show (wr.setCell ⟨g, k, none⟩ (.bool (decide (((k0 : Int) + k) % 3 = 0)))).ownsRow B 4 1 (.slice (some ⟨g, 0, none⟩) n c) n ((boMks k0 (k + 1) ++ d.drop (k + 1)).map (Value.bool)) by
        have h := (World.ownsRow.stored (unhide ho) k (Value.bool (boMk k0 k))).1
        rw [← List.map_set] at h
        have e : (boMks k0 k ++ d.drop k).set k (boMk k0 k) = boMks k0 (k + 1) ++ d.drop (k + 1) := rb_set_mark (boMk k0) d k hkd
        rw [e, ← bo_set] at h
        exact h)
      have R2 := hide ((unhide hw).seq (show WrB (fun i => i = g) wr (wr.setCell ⟨g, k, none⟩ (.bool (decide (((k0 : Int) + k) % 3 = 0)))) from ⟨rfl, rfl, rfl, by simp [World.setCell], fun k _ hk => Below.heap_setCell _ _ _ _ hk⟩))
      clear ho hw
      go_wp2_with fail
      all_goals
        go_roundw
        case rel => exact ⟨k + 1, by omega, by go_num, by go_num, unhide R, unhide R2⟩
        case measure => simp [intOf]; omega
    · obtain rfl : k = n := by omega
      have Z := hide (show wr.ownsRow B 4 1 (.slice (some ⟨g, 0, none⟩) k c) k ((boMks k0 k).map (Value.bool)) by
        have h := unhide ho
        rwa [List.drop_of_length_le (by rw [unhide L]; exact Nat.le_refl _), List.append_nil] at h)
      go_wp2_with fail
      go_ret
      exact ⟨ret_int (by omega), unhide Z, unhide hw⟩
theorem gd_markBoolS_nil (k0 : Int) (w : World) : Calls Try.prog 38 #[.slice none 0 0, .int .i64 k0] w fun e w' => e = .returned (.int .i64 k0) ∧ w' = w := by
  go_enter Try.func38, Try.ntmps38
  go_wp2_with fail
  refine wp_loop_rounds 1 ?_
  rw [rounds_succ]
  go_wp2_with fail
  go_ret
  exact ⟨rfl, rfl⟩
theorem markBoolS_own (B : Nat) (a : Option Addr) (n c k0 : Nat) (d : List Bool) (w : World) (hn : n + k0 ≤ 100000000) (hd : d.length = n) (h1 : w.ownsRow B 4 1 (.slice a n c) n (d.map (Value.bool))) :
    Calls Try.prog 38 #[.slice a n c, .int .i64 (k0 : Int)] w fun e w' => e = .returned (.int .i64 ((k0 + n : Nat) : Int)) ∧ w'.ownsRow B 4 1 (.slice a n c) n ((boMks k0 n).map (Value.bool)) ∧ WrB (fun i => (Value.slice a n c).ownBlock = some i) w w' := by
  rcases h1.2 with ⟨e, hl⟩ | ⟨g, cap, cur, e, _⟩
  · injection e with e1 e2 e3
    subst e1 e2 e3
    refine (gd_markBoolS_nil k0 w).mono ?_
    rintro e w' ⟨rfl, rfl⟩
    exact ⟨rfl, World.ownsRow_nil _ _ _ _, WrB.same _ _⟩
  · injection e with e1 e2 e3
    subst e1
    refine (gd_markBoolS_some B g n c k0 d w hn hd h1).mono ?_
    rintro e w' ⟨rfl, h2, h3⟩
    exact ⟨rfl, h2, h3.weak (fun i hi => by rw [hi]; rfl)⟩
end Go.Proofs.Ytjhmammoakiknaa

namespace Go.Proofs.Ytjhmammoakiknaa
open Go.RowKit

/-- A record and where its rows lie. -/
structure FaH where
  X : ActD
  s0 : Sl
  s1 : Sl
def faV (h : FaH) : Value := .agg #[.int .i64 h.X.kind, .int .i64 h.X.at_, .int .i64 h.X.torn, .slice h.s0.a h.s0.n h.s0.c, .slice h.s1.a h.s1.n h.s1.c]
def faEl (h : FaH) : El := ⟨[.int .i64 h.X.kind, .int .i64 h.X.at_, .int .i64 h.X.torn, .slice h.s0.a h.s0.n h.s0.c, .slice h.s1.a h.s1.n h.s1.c], [⟨5, 1, h.X.data.length, .slice h.s0.a h.s0.n h.s0.c, h.X.data.map (Value.int .u8)⟩, ⟨4, 1, h.X.keep.length, .slice h.s1.a h.s1.n h.s1.c, h.X.keep.map Value.bool⟩]⟩
abbrev FaOwn (w : World) (B : Nat) (v : Value) (hs : List FaH) : Prop := NOwn w B 34 5 v hs.length (hs.map faEl)
abbrev FaIn (w : World) (v : Value) (n : Nat) (hs : List FaH) : Prop := NIn w 5 v n (hs.map faEl)
theorem faEl_at {hs : List FaH} {k : Nat} (hk : k < hs.length) : (hs.map faEl)[k]? = some (faEl hs[k]) := by rw [List.getElem?_map, List.getElem?_eq_getElem hk]; rfl
theorem faEl_wid (hs : List FaH) : ∀ e ∈ hs.map faEl, e.hd.length = 5 := by intro e he; obtain ⟨h, _, rfl⟩ := List.mem_map.1 he; rfl
theorem FaIn.sub {w : World} {v : Value} {n : Nat} {hs : List FaH} (h : FaIn w v n hs) {k : Nat} (hk : k < hs.length) : RowC w (.slice hs[k].s0.a hs[k].s0.n hs[k].s0.c) hs[k].X.data.length (hs[k].X.data.map (Value.int .u8)) ∧ RowC w (.slice hs[k].s1.a hs[k].s1.n hs[k].s1.c) hs[k].X.keep.length (hs[k].X.keep.map Value.bool) := by
  have d := h.dat (faEl hs[k]) (List.mem_map_of_mem (List.getElem_mem hk))
  exact ⟨d _ (List.Mem.head _), d _ (List.Mem.tail _ (List.Mem.head _))⟩
theorem FaIn.cells {w : World} {a : Option Addr} {n c : Nat} {hs : List FaH} (h : FaIn w (.slice a n c) n hs) {k : Nat} (hk : k < hs.length) : ∃ b off, a = some ⟨b, off, none⟩ ∧ b < w.heap.size ∧ w.cell? ⟨b, off + k * 5, none⟩ = some (.int .i64 hs[k].X.kind) ∧ w.cell? ⟨b, off + k * 5 + 1, none⟩ = some (.int .i64 hs[k].X.at_) ∧ w.cell? ⟨b, off + k * 5 + 2, none⟩ = some (.int .i64 hs[k].X.torn) ∧ w.cell? ⟨b, off + k * 5 + 3, none⟩ = some (.slice hs[k].s0.a hs[k].s0.n hs[k].s0.c) ∧ w.cell? ⟨b, off + k * 5 + 4, none⟩ = some (.slice hs[k].s1.a hs[k].s1.n hs[k].s1.c) := by
  obtain ⟨b, off, e, hb, q⟩ := h.cell (faEl_at hk) (by decide)
  exact ⟨b, off, e, hb, q 0 _ rfl, by rw [Nat.add_assoc]; exact q 1 _ rfl, by rw [Nat.add_assoc]; exact q 2 _ rfl, by rw [Nat.add_assoc]; exact q 3 _ rfl, by rw [Nat.add_assoc]; exact q 4 _ rfl⟩
theorem Try.infoFa : (Try.prog.info? 34).map (fun i => (i.zero, i.size, i.bytes)) = some (some (.agg #[.int .i64 0, .int .i64 0, .int .i64 0, .slice none 0 0, .slice none 0 0]), 5, 72) := by kernel_rfl
theorem szBoolS_Fa (a : Option Addr) (n c : Nat) (left : Int) (w : World) (h0 : 0 ≤ left) (h1 : left ≤ 1048576) (hn : n ≤ maxLen) :
    Calls Try.prog 62 #[.slice a n c, .int .i64 left] w fun e w' => ∃ q : Int, e = .returned (.int .i64 q) ∧ (q = -1 ∨ (0 ≤ q ∧ q ≤ left ∧ q + (n : Int) ≤ left)) ∧ w' = w := by
  unfold maxLen at hn
  by_cases hb : left - n < 0
  · go_enter Try.func62, Try.ntmps62
    go_wp2_with fail
    go_ret
    exact ⟨-1, rfl, .inl rfl, rfl⟩
  · go_enter Try.func62, Try.ntmps62
    go_wp2_with fail
    go_ret
    exact ⟨_, rfl, .inr ⟨by omega, by omega, by omega⟩, rfl⟩
theorem szByteS_Fa (a : Option Addr) (n c : Nat) (left : Int) (w : World) (h0 : 0 ≤ left) (h1 : left ≤ 1048576) (hn : n ≤ maxLen) :
    Calls Try.prog 61 #[.slice a n c, .int .i64 left] w fun e w' => ∃ q : Int, e = .returned (.int .i64 q) ∧ (q = -1 ∨ (0 ≤ q ∧ q ≤ left ∧ q + (n : Int) ≤ left)) ∧ w' = w := by
  unfold maxLen at hn
  by_cases hb : left - n < 0
  · go_enter Try.func61, Try.ntmps61
    go_wp2_with fail
    go_ret
    exact ⟨-1, rfl, .inl rfl, rfl⟩
  · go_enter Try.func61, Try.ntmps61
    go_wp2_with fail
    go_ret
    exact ⟨_, rfl, .inr ⟨by omega, by omega, by omega⟩, rfl⟩
def faSz (h : FaH) : Nat := h.s0.n + h.s1.n
set_option maxHeartbeats 1000000 in
theorem szFlashAct_any (h : FaH) (left : Int) (w : World) (h0 : 0 ≤ left) (h1 : left ≤ 1048576) (hl : h.s0.n ≤ maxLen ∧ h.s1.n ≤ maxLen) :
    Calls Try.prog 32 #[faV h, .int .i64 left] w fun e w' => ∃ q : Int, e = .returned (.int .i64 q) ∧ (q = -1 ∨ (0 ≤ q ∧ q ≤ left ∧ q + ((faSz h : Nat) : Int) ≤ left)) ∧ Below w.heap.size w w' := by
  obtain ⟨X, ⟨a0, n0, c0⟩, ⟨a1, n1, c1⟩⟩ := h
  unfold faV faSz
  simp only at hl ⊢
  generalize X.kind = x0 at *
  generalize X.at_ = x1 at *
  generalize X.torn = x2 at *
  have b0 : Below w.heap.size w (w.alloc (.cells #[.int .i64 x0, .int .i64 x1, .int .i64 x2, .slice a0 n0 c0, .slice a1 n1 c1] 69)) := (Below.refl _ _).alloc (Nat.le_refl _) _
  have k0 := heap_alloc_last w (.cells #[.int .i64 x0, .int .i64 x1, .int .i64 x2, .slice a0 n0 c0, .slice a1 n1 c1] 69)
  go_enter Try.func32, Try.ntmps32
  go_wp2_with fail
  generalize (w.alloc (.cells #[.int .i64 x0, .int .i64 x1, .int .i64 x2, .slice a0 n0 c0, .slice a1 n1 c1] 69)) = W at *
  have y0 := (heap_at k0 3).1
  refine (szByteS_Fa a0 n0 c0 left W h0 (by omega) (hl.1)).mono ?_
  rintro e wz ⟨q0, rfl, hq0, hw⟩
  subst wz
  rcases hq0 with rfl | ⟨p00, p01, p02⟩
  · go_wp2_with fail
    go_ret
    exact ⟨-1, rfl, .inl rfl, b0⟩
  have y1 := (heap_at k0 4).1
  go_wp2_with fail
  refine (szBoolS_Fa a1 n1 c1 q0 W p00 (by omega) (hl.2)).mono ?_
  rintro e wz ⟨q1, rfl, hq1, hw⟩
  subst wz
  rcases hq1 with rfl | ⟨p10, p11, p12⟩
  · go_wp2_with fail
    go_ret
    exact ⟨-1, rfl, .inl rfl, b0⟩
  go_wp2_with fail
  go_ret
  exact ⟨q1, rfl, .inr ⟨by omega, by omega, by omega⟩, b0⟩
set_option maxHeartbeats 1000000 in
theorem szFlashActS_any (a : Option Addr) (n c : Nat) (hs : List FaH) (left : Int) (w : World) (h0 : 0 ≤ left) (h1 : left ≤ 1048576) (hr : FaIn w (.slice a n c) n hs) (hn : n ≤ maxLen) (hl : ∀ h ∈ hs, h.s0.n ≤ maxLen ∧ h.s1.n ≤ maxLen) :
    Calls Try.prog 12 #[.slice a n c, .int .i64 left] w fun e w' => ∃ q : Int, e = .returned (.int .i64 q) ∧ (q = -1 ∨ (0 ≤ q ∧ q ≤ left ∧ q + (n : Int) + (((hs.map faSz).sum : Nat) : Int) ≤ left ∧ ∀ h ∈ hs, h.s0.n ≤ 1048576 ∧ h.s1.n ≤ 1048576)) ∧ Below w.heap.size w w' := by
  unfold maxLen at hn
  have L := hide (show hs.length = n by have := hr.len; simpa using this)
  have R := hide hr
  have T := hide hl
  clear hr hl
  by_cases hb : left - n < 0
  · go_enter Try.func12, Try.ntmps12
    go_wp2_with fail
    go_ret
    exact ⟨-1, rfl, .inl rfl, Below.refl _ _⟩
  have hb' : 0 ≤ left - n := by omega
  go_enter Try.func12, Try.ntmps12
  go_wp2_with fail
  go_loopw [1, 5] (fun l i wr => ∃ k : Nat, k ≤ n ∧ i = .int .i64 k ∧ ∃ q : Int, l = .int .i64 q ∧ 0 ≤ q ∧ q ≤ left - n ∧ Below w.heap.size w wr ∧ Hid (q + (((hs.take k).map faSz).sum : Nat) ≤ left - n)) (fun _ i _ => n - (intOf i).toNat)
  case atStart => exact ⟨0, by omega, rfl, _, rfl, by omega, by omega, Below.refl _ _, hide (by simp)⟩
  case round =>
    obtain ⟨k, hk, rfl, q, rfl, hq0, hq1, hbel, hA⟩ := hrel
    by_cases hlt : k < n
    · have hk2 : k < hs.length := by rw [unhide L]; exact hlt
      obtain ⟨b, off, rfl, hbl, d0, d1, d2, d3, d4⟩ := FaIn.cells ((unhide R).below hbel) hk2
      have hsz := hbel.size
      have C := hide (szFlashAct_any hs[k] q wr hq0 (by omega) (unhide T _ (List.getElem_mem hk2)))
      have ST := hide (show ∀ r : Int, r + ((faSz hs[k] : Nat) : Int) ≤ q → r + (((hs.take (k + 1)).map faSz).sum : Nat) ≤ left - n from fun r e => by
        have h := unhide hA
        rw [rb_take_snoc hs k hk2, List.map_append, List.sum_append]
        simp only [List.map_cons, List.map_nil, List.sum_cons, List.sum_nil]
        omega)
      unfold faV at C
      generalize hs[k] = pd at *
      clear hA
      obtain ⟨X, ⟨a0, n0, c0⟩, ⟨a1, n1, c1⟩⟩ := pd
      simp only at d0 d1 d2 d3 d4 C ST
      generalize X.kind = x0 at *
      generalize X.at_ = x1 at *
      generalize X.torn = x2 at *
      go_wp2_with fail
      refine (unhide C).mono ?_
      rintro e w1 ⟨r, rfl, hr, hb1⟩
      have bA := hbel.trans (hb1.mono hsz)
      clear hbel hb1 d0 d1 d2 d3 d4 C
      rcases hr with rfl | ⟨r0, r1, r2⟩
      · go_wp2_with fail
        go_ret
        exact ⟨-1, rfl, .inl rfl, bA⟩
      · have Z := hide (unhide ST r r2)
        go_wp2_with fail
        go_roundw
        case rel => exact ⟨k + 1, by omega, by go_num, r, rfl, r0, by omega, bA, unhide Z⟩
        case measure => simp [intOf]; omega
    · obtain rfl : k = n := by omega
      have Z := hide (show q + (((hs.map faSz).sum : Nat) : Int) ≤ left - k by have h := unhide hA; rwa [List.take_of_length_le (by rw [unhide L]; exact Nat.le_refl _)] at h)
      go_wp2_with fail
      go_ret
      exact ⟨q, rfl, .inr ⟨hq0, by omega, by have := unhide Z; omega, fun h hh => by have h1 := gd_le_sum faSz hs h hh; have h2 := unhide Z; have h3 : faSz h = h.s0.n + h.s1.n := rfl; omega⟩, hbel⟩
end Go.Proofs.Ytjhmammoakiknaa

namespace Go.Proofs.Ytjhmammoakiknaa
open Go.RowKit

/-- Codes, bytes and what waits: each in rows of its own. -/
structure RunR (w : World) (B : Nat) (vc : Value) (cs : List Int) (ah : Option Addr) (xs : List Int) (vw : Value) (hs : List WqH) : Prop where
  cod : NOwns w B vc cs
  byt : BR w B ah xs.length xs
  wai : QwOwn w B vw hs
  d1 : ∀ g x, vc.ownBlock = some g → ah = some x → x.block ≠ g
  d2 : ∀ g, vc.ownBlock = some g → ¬ QwBl vw hs g
  d3 : ∀ x, ah = some x → ¬ QwBl vw hs x.block
def RBl (vc : Value) (ah : Option Addr) (vw : Value) (hs : List WqH) (i : Nat) : Prop := vc.ownBlock = some i ∨ (∃ x, ah = some x ∧ i = x.block) ∨ QwBl vw hs i
theorem RunR.lt {w : World} {B : Nat} {vc : Value} {cs : List Int} {ah : Option Addr} {xs : List Int} {vw : Value} {hs : List WqH} (h : RunR w B vc cs ah xs vw hs) (i : Nat) (hi : RBl vc ah vw hs i) : B ≤ i ∧ i < w.heap.size := by
  rcases hi with hi | ⟨x, hx, rfl⟩ | hi
  · exact h.cod.lt i hi
  · exact h.byt.own' x hx
  · exact h.wai.lt i hi
theorem RunR.wr {P : Nat → Prop} {w w' : World} {B : Nat} {vc : Value} {cs : List Int} {ah : Option Addr} {xs : List Int} {vw : Value} {hs : List WqH} (h : RunR w B vc cs ah xs vw hs) (hw : WrB P w w') (hp : ∀ i, RBl vc ah vw hs i → ¬ P i) : RunR w' B vc cs ah xs vw hs :=
  ⟨rr_owns_wr h.cod hw (fun i hi => hp i (.inl hi)), h.byt.wr hw (fun x hx => hp _ (.inr (.inl ⟨x, hx, rfl⟩))), h.wai.wr hw (fun i hi => hp i (.inr (.inr hi))), h.d1, h.d2, h.d3⟩
theorem RunR.below {w w' : World} {B : Nat} {vc : Value} {cs : List Int} {ah : Option Addr} {xs : List Int} {vw : Value} {hs : List WqH} (h : RunR w B vc cs ah xs vw hs) (hb : Below w.heap.size w w') : RunR w' B vc cs ah xs vw hs :=
  ⟨rb_ownsRow_below h.cod hb, h.byt.below hb, h.wai.below hb, h.d1, h.d2, h.d3⟩
theorem nowns_slice {w : World} {B : Nat} {v : Value} {xs : List Int} (h : NOwns w B v xs) : ∃ a c, v = .slice a xs.length c := by
  rcases h.2 with ⟨e, hl⟩ | ⟨g, cap, cur, e, _⟩
  · exact ⟨none, 0, by rw [e, hl]⟩
  · exact ⟨_, cap, e⟩
/-- What a run leaves, in these words. -/
theorem run_conC {l : List ActD} {W W' : World} {e : Ending} (h : RuRes l W e W') : ∃ ac cc ah ch aw cw hs, e = .returned (.tuple #[.slice ac (ru l).1.length cc, .agg #[.slice ah (ru l).2.1.xs.length ch, .slice aw (ru l).2.1.ws.length cw], .int .i64 (ru l).2.2]) ∧ RunR W' W.heap.size (.slice ac (ru l).1.length cc) (ru l).1 ah (ru l).2.1.xs (.slice aw (ru l).2.1.ws.length cw) hs ∧ hs.map (·.X) = (ru l).2.1.ws ∧ Below W.heap.size W W' ∧ (ru l).2.1.xs.length ≤ ch ∧ ch ≤ maxLen := by
  obtain ⟨vc, ah, ch, vw, hs, B, rfl, h1, h2, h3, h4, h5, h6, h7, h8⟩ := h
  obtain ⟨ac, cc, rfl⟩ := nowns_slice h1
  obtain ⟨aw, cw, rfl⟩ := qw_slice h3
  have hl : hs.length = (ru l).2.1.ws.length := by rw [← h4, List.length_map]
  rw [hl] at h3 ⊢
  refine ⟨ac, cc, ah, ch, aw, cw, hs, rfl, ⟨h1, ?_, h3.down h5, fun g x hg hx e => ?_, fun g hg hq => ?_, fun x hx hq => ?_⟩, h4, h8, ?_, ?_⟩
  · obtain ⟨a', c', e, _, _, r3, r4⟩ := h2
    injection e with e1 _ _
    subst e1
    exact ⟨r3, r4⟩
  · have := (h6 g hg).2 x hx
    omega
  · have := (h6 g hg).1
    have := (h3.lt g hq).1
    omega
  · have := h7 x hx
    have := (h3.lt _ hq).1
    omega
  · obtain ⟨a', c', e, h9, _⟩ := h2
    injection e with _ _ e3
    omega
  · obtain ⟨a', c', e, _, h9, _⟩ := h2
    injection e with _ _ e3
    omega
theorem run_con {l : List ActD} {W W' : World} {e : Ending} (h : RuRes l W e W') : ∃ ac cc ah ch aw cw hs, e = .returned (.tuple #[.slice ac (ru l).1.length cc, .agg #[.slice ah (ru l).2.1.xs.length ch, .slice aw (ru l).2.1.ws.length cw], .int .i64 (ru l).2.2]) ∧ RunR W' W.heap.size (.slice ac (ru l).1.length cc) (ru l).1 ah (ru l).2.1.xs (.slice aw (ru l).2.1.ws.length cw) hs ∧ hs.map (·.X) = (ru l).2.1.ws ∧ Below W.heap.size W W' := by
  obtain ⟨ac, cc, ah, ch, aw, cw, hs, h1, h2, h3, h4, _⟩ := run_conC h
  exact ⟨ac, cc, ah, ch, aw, cw, hs, h1, h2, h3, h4⟩
/-- What waits, as it reads. -/
theorem qw_wrow {w : World} {B n c : Nat} {a : Option Addr} {hs : List WqH} {ws : List WD} (h : QwOwn w B (.slice a n c) hs) (hX : hs.map (·.X) = ws) (hl : ∀ h ∈ hs, h.X.xs.length ≤ maxLen) : WRow w a n ws := by
  have hr := qw_row h
  subst hX
  refine ⟨by have := hr.1; simpa using this, fun i hi => ?_⟩
  have hi2 : i < hs.length := by simpa using hi
  obtain ⟨b, off, e, c0, c1⟩ := hr.2 i (by simpa using hi2)
  simp only [List.getElem_map, qh] at c0 c1 ⊢
  exact ⟨b, off, e, c0, _, _, c1, ⟨hl _ (List.getElem_mem hi2), h.cap _ (List.getElem_mem hi2)⟩, (h.dat i hi2).row⟩
theorem okF_act {f : FD} (h : okF f) (x : ActD) : okF (actD f x).1 := by
  have rb := readD_bounds f.xs f.ws h.1 h.2.1 h.2.2.2
  have nw : ∀ b : List Int, b.length % 16 = 0 → b.length ≤ 2048 → okF ⟨b, []⟩ := fun b h1 h2 => ⟨h1, h2, Nat.zero_le _, fun _ h => by cases h⟩
  by_cases k1 : x.kind = 1
  · rw [actD_1 k1]
    by_cases hf : fitD x.at_ x.data.length = true
    · rw [if_pos hf]
      have := of_decide_eq_true hf
      by_cases hn : (writeD f.xs f.ws x.at_.toNat x.data).length ≤ 4096
      · rw [if_pos hn]
        exact okF_write h _ _ (by omega) hn
      · rw [if_neg hn]; exact h
    · rw [if_neg hf]; exact h
  · by_cases k2 : x.kind = 2
    · rw [actD_2 k2]
      exact nw _ rb.1 rb.2
    · by_cases k3 : x.kind = 3
      · rw [actD_3 k3]
        by_cases ht : 0 ≤ x.torn ∧ x.torn ≤ 16
        · rw [if_pos ht]
          have := crashD_bounds f.xs f.ws x.keep x.torn.toNat h.1 h.2.1 h.2.2.2 (by omega)
          exact nw _ this.1 this.2
        · rw [if_neg ht]; exact h
      · by_cases k4 : x.kind = 4
        · rw [actD_4 k4]
          by_cases ht : 0 ≤ x.at_ ∧ x.at_ ≤ 127
          · rw [if_pos ht]
            unfold trimD
            by_cases hr : (x.at_.toNat + 1) * 16 ≤ (readD f.xs f.ws).length
            · rw [if_pos hr]
              have hl := putB_len (readD f.xs f.ws) (x.at_.toNat * 16) nou (show x.at_.toNat * 16 + 16 ≤ _ by omega)
              exact nw _ (by rw [hl]; exact rb.1) (by rw [hl]; exact rb.2)
            · rw [if_neg hr]; exact nw _ rb.1 rb.2
          · rw [if_neg ht]; exact h
        · unfold actD
          rw [if_neg k1, if_neg k2, if_neg k3, if_neg k4]
          exact h
theorem ru_ok (l : List ActD) : okF (ru l).2.1 ∧ (ru l).1.length ≤ 120 := by
  have hr : ∀ k, k ≤ l.length → okF (runD (l.take k)).1 := fun k => by
    induction k with
    | zero => intro _; exact okF_start
    | succ k ih =>
      intro hk
      rw [runD_take l k (by omega)]
      exact okF_act (ih (by omega)) _
  unfold ru
  split
  · exact ⟨okF_start, Nat.zero_le _⟩
  · split
    · exact ⟨okF_start, Nat.zero_le _⟩
    · refine ⟨by have := hr l.length (Nat.le_refl _); rwa [List.take_length] at this, ?_⟩
      show (runD l).2.length ≤ 120
      rw [runD_codes]
      omega
theorem RunR.mark1 {w w' : World} {B : Nat} {vc : Value} {cs cs' : List Int} {ah : Option Addr} {xs : List Int} {vw : Value} {hs : List WqH} (h : RunR w B vc cs ah xs vw hs) (ho : NOwns w' B vc cs') (hw : WrB (fun i => vc.ownBlock = some i) w w') : RunR w' B vc cs' ah xs vw hs :=
  ⟨ho, h.byt.wr hw (fun x hx hp => h.d1 _ x hp hx rfl), h.wai.wr hw (fun i hi hp => h.d2 i hp hi), h.d1, h.d2, h.d3⟩
theorem markQ_bl {vw : Value} {k : Nat} {hs : List WqH} {i : Nat} (h : QwBl vw (markQ k hs) i) : QwBl vw hs i := by
  rcases h with h | ⟨x, hx, rfl⟩
  · exact .inl h
  · obtain ⟨j, hj, rfl⟩ := List.getElem_of_mem hx
    have hj2 : j < hs.length := by rwa [markQ_len] at hj
    obtain ⟨_, e⟩ := markQ_dat k hs j hj2
    exact .inr ⟨hs[j], List.getElem_mem hj2, by rw [e]; rfl⟩
theorem RunR.mark2 {w w' : World} {B : Nat} {vc : Value} {cs : List Int} {ah : Option Addr} {xs xs' : List Int} {vw : Value} {hs : List WqH} {k : Nat} (h : RunR w B vc cs ah xs vw hs) (hb : BR w' B ah xs'.length xs') (hq : QwOwn w' B vw (markQ k hs)) (hw : WrB (fun i => (∃ x, ah = some x ∧ i = x.block) ∨ QwBl vw hs i) w w') : RunR w' B vc cs ah xs' vw (markQ k hs) :=
  ⟨rr_owns_wr h.cod hw (fun i hi hp => by
    rcases hp with ⟨x, hx, e⟩ | hp
    · exact h.d1 i x hi hx e.symm
    · exact h.d2 i hi hp), hb, hq, h.d1, fun g hg hq => h.d2 g hg (markQ_bl hq), fun x hx hq => h.d3 x hx (markQ_bl hq)⟩
end Go.Proofs.Ytjhmammoakiknaa

namespace Go.Proofs.Ytjhmammoakiknaa
open Go.RowKit

set_option maxHeartbeats 1000000 in
theorem eqWriteS_run (B1 B2 : Nat) (a1 a2 : Option Addr) (n c1 c2 : Nat) (hs1 hs2 : List WqH) (w : World) (hn : n ≤ maxLen) (h1 : QwOwn w B1 (.slice a1 n c1) hs1) (h2 : QwOwn w B2 (.slice a2 n c2) hs2) (hX : hs1.map (·.X) = hs2.map (·.X)) (hl : ∀ h ∈ hs1, h.X.xs.length ≤ maxLen) :
    Calls Try.prog 35 #[.slice a1 n c1, .slice a2 n c2] w fun e w' => e = .returned (.bool true) ∧ Below w.heap.size w w' := by
  have L1 := hide (show hs1.length = n by have := (qw_row h1).1; simpa using this)
  have L2 := hide (show hs2.length = n by have := (qw_row h2).1; simpa using this)
  have R1 := hide h1
  have R2 := hide h2
  have HX := hide hX
  have HL := hide hl
  clear h1 h2 hX hl
  unfold maxLen at hn
  go_enter Try.func35, Try.ntmps35
  go_wp2_with fail
  go_loopw [5] (fun i wr => ∃ k : Nat, k ≤ n ∧ i = .int .i64 k ∧ Below w.heap.size w wr) (fun i _ => n - (intOf i).toNat)
  case atStart => exact ⟨0, by omega, rfl, Below.refl _ _⟩
  case round =>
    obtain ⟨k, hk, rfl, hb⟩ := hrel
    by_cases hlt : k < n
    · have k1 : k < hs1.length := by rw [unhide L1]; exact hlt
      have k2 : k < hs2.length := by rw [unhide L2]; exact hlt
      have ex : hs1[k].X = hs2[k].X := by
        have e := congrArg (·[k]?) (unhide HX)
        simp only [List.getElem?_map, List.getElem?_eq_getElem k1, List.getElem?_eq_getElem k2, Option.map_some] at e
        injection e
      obtain ⟨b, off, rfl, d0, d1⟩ := (qw_row ((unhide R1).below hb)).2 k (by simpa using k1)
      obtain ⟨b', off', rfl, y0, y1⟩ := (qw_row ((unhide R2).below hb)).2 k (by simpa using k2)
      simp only [List.getElem_map, qh] at d0 d1 y0 y1
      have r1 := (((unhide R1).below hb).dat k k1).row
      have r2 := (((unhide R2).below hb).dat k k2).row
      have hm := unhide HL _ (List.getElem_mem k1)
      rw [← ex] at y0 y1 r2
      have H1 := hide r1
      have H2 := hide r2
      clear r1 r2 ex
      generalize hs1[k].X = pd at *
      generalize hs1[k].g = g1 at *
      generalize hs1[k].c = q1 at *
      generalize hs2[k].g = g2 at *
      generalize hs2[k].c = q2 at *
      have hsz := hb.size
      go_wp2_with fail
      go_region_with (go_at_call 65; (first | refine (eqWrite_any pd.at_ (some ⟨g1, 0, none⟩) (some ⟨g2, 0, none⟩) pd.xs.length q1 q2 pd.xs wr.drew hm (unhide H1) (unhide H2)).mono ?_ | refine (eqWrite_any pd.at_ (some ⟨g1, 0, none⟩) (some ⟨g2, 0, none⟩) pd.xs.length q1 q2 pd.xs wr hm (unhide H1) (unhide H2)).mono ?_); rintro e w2 ⟨rfl, hb2⟩)
      all_goals
        have bA : Below w.heap.size w w2 := by first | exact hb.drew.trans (hb2.mono hsz) | exact (bel_drewN hb _).trans (hb2.mono hsz) | exact hb.trans (hb2.mono hsz)
        clear hb hb2 d0 d1 y0 y1
        go_wp2_with fail
        go_roundw
        case rel => exact ⟨k + 1, by omega, by go_num, bA⟩
        case measure => simp [intOf]; omega
    · obtain rfl : k = n := by omega
      go_wp2_with fail
      go_ret
      exact ⟨rfl, hb⟩
set_option maxHeartbeats 1000000 in
theorem eqFlash_run (B1 B2 : Nat) (a1 a2 : Option Addr) (nh c1 c2 : Nat) (b1 b2 : Option Addr) (nw d1 d2 : Nat) (xs : List Int) (hs1 hs2 : List WqH) (w : World) (hnh : nh ≤ maxLen) (hn : nw ≤ maxLen) (h1 : Row w a1 nh xs) (h2 : Row w a2 nh xs) (h3 : QwOwn w B1 (.slice b1 nw d1) hs1) (h4 : QwOwn w B2 (.slice b2 nw d2) hs2) (hX : hs1.map (·.X) = hs2.map (·.X)) (hl : ∀ h ∈ hs1, h.X.xs.length ≤ maxLen) :
    Calls Try.prog 15 #[fv a1 nh c1 b1 nw d1, fv a2 nh c2 b2 nw d2] w fun e w' => e = .returned (.bool true) ∧ Below w.heap.size w w' := by
  have hb0 : ∀ o1 o2, Below w.heap.size w ((w.alloc o1).alloc o2) := fun o1 o2 => ((Below.refl w.heap.size w).alloc (Nat.le_refl _) _).alloc (by simp) _
  have R1 := hide fun o1 o2 => row_grow h1 (hb0 o1 o2)
  have R2 := hide fun o1 o2 => row_grow h2 (hb0 o1 o2)
  have R3 := hide h3
  have R4 := hide h4
  have HX := hide hX
  have HL := hide hl
  clear h1 h2 h3 h4 hX hl
  go_enter Try.func15, Try.ntmps15
  go_wp2_with fail
  refine (eqBytes_same a1 a2 nh c1 c2 xs _ hnh (unhide R1 _ _) (unhide R2 _ _)).mono ?_
  rintro e w1 ⟨rfl, hb⟩
  have B := hide ((hb0 (.cells #[.slice a1 nh c1, .slice b1 nw d1] 28) (.cells #[.slice a2 nh c2, .slice b2 nw d2] 28)).trans (hb.mono (by simp; omega)))
  have p1 : w1.cell? ⟨w.heap.size, 1, none⟩ = some (.slice b1 nw d1) := (hb.cell (p := ⟨w.heap.size, 1, none⟩) (by simp; omega)).trans ((cell_old (by simp)).trans ((cell_new rfl).trans rfl))
  have p2 : w1.cell? ⟨w.heap.size + 1, 1, none⟩ = some (.slice b2 nw d2) := (hb.cell (p := ⟨w.heap.size + 1, 1, none⟩) (by simp)).trans ((cell_new (by simp)).trans rfl)
  have hsz := (unhide B).size
  clear hb
  go_wp2_with fail
  refine (eqWriteS_run B1 B2 b1 b2 nw d1 d2 hs1 hs2 w1 hn ((unhide R3).below (unhide B)) ((unhide R4).below (unhide B)) (unhide HX) (unhide HL)).mono ?_
  rintro e w2 ⟨rfl, hb2⟩
  have B2 := hide ((unhide B).trans (hb2.mono hsz))
  clear hb2 p1 p2
  go_wp2_with fail
  go_ret
  exact ⟨rfl, unhide B2⟩
/-- The blocks of a device. -/
def FBl (ah : Option Addr) (vw : Value) (hs : List WqH) (i : Nat) : Prop := (∃ x, ah = some x ∧ i = x.block) ∨ QwBl vw hs i
set_option maxHeartbeats 1000000 in
theorem markFlash_run (B : Nat) (ah : Option Addr) (nh ch : Nat) (aw : Option Addr) (nw cw k0 : Nat) (xs : List Int) (hs : List WqH) (w : World) (hn : nh ≤ 1048576) (hk : kQ (k0 + nh) hs ≤ 100000000) (h1 : BR w B ah nh xs) (h2 : QwOwn w B (.slice aw nw cw) hs) (h3 : ∀ x, ah = some x → ¬ QwBl (.slice aw nw cw) hs x.block) :
    Calls Try.prog 19 #[fv ah nh ch aw nw cw, .int .i64 (k0 : Int)] w fun e w' => e = .returned (.int .i64 ((kQ (k0 + nh) hs : Nat) : Int)) ∧ BR w' B ah nh (marks (k0 : Int) nh) ∧ QwOwn w' B (.slice aw nw cw) (markQ (k0 + nh) hs) ∧ WrB (FBl ah (.slice aw nw cw) hs) w w' := by
  have b0 : Below w.heap.size w (w.alloc (.cells #[.slice ah nh ch, .slice aw nw cw] 28)) := (Below.refl _ _).alloc (Nat.le_refl _) _
  have hmono := kQ_mono (k0 + nh) hs
  have K0 := hide (heap_alloc_last w (.cells #[.slice ah nh ch, .slice aw nw cw] 28))
  have F := hide (show ∀ x, ah = some x → x.block < w.heap.size from fun x hx => (h1.own x hx).2.1)
  have R := hide (h1.below b0)
  have Q := hide (h2.below b0)
  have D := hide h3
  have QL := hide (show ∀ i, QwBl (.slice aw nw cw) hs i → i < w.heap.size from fun i hi => (h2.lt i hi).2)
  have HM := hide (markByteS_any ah nh ch xs (k0 : Int) (w.alloc (.cells #[.slice ah nh ch, .slice aw nw cw] 28)) (by omega) (by omega) (by omega) (unhide R).row (fun x hx => ((unhide R).own x hx).2.2))
  clear h1 h2 h3
  go_enter Try.func19, Try.ntmps19
  go_wp2_with fail
  generalize w.alloc (.cells #[.slice ah nh ch, .slice aw nw cw] 28) = W at *
  refine (unhide HM).mono ?_
  rintro e w1 ⟨rfl, r1, t1⟩
  have hw := WrB.of_touch t1
  have R1 := hide ((unhide R).marked r1 t1)
  have Q1 := hide ((unhide Q).wr hw (fun i hi ⟨x, hx, e⟩ => unhide D x hx (by rw [← e]; exact hi)))
  have k1 := (hw.block w.heap.size (Array.getElem?_eq_some_iff.1 (unhide K0)).1 (fun ⟨x, hx, e⟩ => by have := unhide F x hx; omega)).trans (unhide K0)
  have p1 : w1.cell? ⟨w.heap.size, 1, none⟩ = some (.slice aw nw cw) := (heap_at k1 1).1
  have W1 := hide ((WrB.of_below (P := FBl ah (.slice aw nw cw) hs) b0).seq (hw.weak (fun i hi => .inl hi)))
  rw [show (k0 : Int) + (nh : Int) = ((k0 + nh : Nat) : Int) by omega]
  have HW := hide (markWriteS_any B aw nw cw (k0 + nh) hs w1 hk (unhide Q1))
  obtain ⟨kk, hkk⟩ : ∃ kk, kk = k0 + nh := ⟨_, rfl⟩
  rw [← hkk] at HW hmono hk ⊢
  have HKK := hide hkk
  clear hkk
  clear hw r1 t1 HM R Q Q1 k1 K0
  go_wp2_with fail
  refine (unhide HW).mono ?_
  rintro e w2 ⟨rfl, q2, hw2⟩
  have R2 := hide ((unhide R1).wr hw2 (fun x hx hq => unhide D x hx hq))
  have W2 := hide ((unhide W1).seq (hw2.weak (fun i hi => .inr hi)))
  have Q2 := hide q2
  clear p1 hw2 q2 HW R1 W1
  obtain ⟨kr, hkr⟩ : ∃ kr, kr = kQ kk hs := ⟨_, rfl⟩
  rw [← hkr]
  have HKR := hide hkr
  clear hkr
  go_wp2_with fail
  go_ret
  have e1 := unhide HKK
  have e2 := unhide HKR
  subst e1 e2
  exact ⟨rfl, unhide R2, unhide Q2, unhide W2⟩
set_option maxHeartbeats 1000000 in
theorem heldFlash_run (B : Nat) (ah : Option Addr) (nh ch : Nat) (aw : Option Addr) (nw cw k0 : Nat) (hs : List WqH) (w : World) (hn : nh ≤ 1048576) (hk : kQ (k0 + nh) hs ≤ 100000000) (h1 : Row w ah nh (marks (k0 : Int) nh)) (h2 : QwOwn w B (.slice aw nw cw) (markQ (k0 + nh) hs)) :
    Calls Try.prog 21 #[fv ah nh ch aw nw cw, .int .i64 (k0 : Int)] w fun e w' => e = .returned (.int .i64 ((kQ (k0 + nh) hs : Nat) : Int)) ∧ Below w.heap.size w w' := by
  have b0 : Below w.heap.size w (w.alloc (.cells #[.slice ah nh ch, .slice aw nw cw] 28)) := (Below.refl _ _).alloc (Nat.le_refl _) _
  have hmono := kQ_mono (k0 + nh) hs
  have HM := hide (heldByteS_any ah nh ch (k0 : Int) (w.alloc (.cells #[.slice ah nh ch, .slice aw nw cw] 28)) (by omega) (by omega) (by omega) (row_grow h1 b0))
  have HW := hide (heldWriteS_any B aw nw cw (k0 + nh) hs _ hk (h2.below b0))
  clear h1 h2
  go_enter Try.func21, Try.ntmps21
  go_wp2_with fail
  refine (unhide HM).mono ?_
  rintro e w1 ⟨rfl, hw1⟩
  subst w1
  rw [show (k0 : Int) + (nh : Int) = ((k0 + nh : Nat) : Int) by omega]
  obtain ⟨kk, hkk⟩ : ∃ kk, kk = k0 + nh := ⟨_, rfl⟩
  rw [← hkk] at HW hmono hk ⊢
  have HKK := hide hkk
  clear hkk
  have hk0 : ¬ ((kk : Int) < 0) := by omega
  go_wp2_with fail
  refine (unhide HW).mono ?_
  rintro e w1 ⟨rfl, hw1⟩
  subst w1
  obtain ⟨kr, hkr⟩ : ∃ kr, kr = kQ kk hs := ⟨_, rfl⟩
  rw [← hkr]
  have HKR := hide hkr
  clear hkr
  have hk1 : ¬ ((kr : Int) < 0) := by omega
  go_wp2_with fail
  go_ret
  have e1 := unhide HKK
  have e2 := unhide HKR
  subst e1 e2
  exact ⟨rfl, b0⟩
end Go.Proofs.Ytjhmammoakiknaa

namespace Go.Proofs.Ytjhmammoakiknaa
open Go.RowKit

set_option maxRecDepth 100000 in
set_option maxHeartbeats 2000000 in
theorem toFlashAct_any (h : FaH) (w : World) (r0 : RowC w (.slice h.s0.a h.s0.n h.s0.c) h.X.data.length (h.X.data.map (Value.int .u8))) (r1 : RowC w (.slice h.s1.a h.s1.n h.s1.c) h.X.keep.length (h.X.keep.map Value.bool)) (hl : h.s0.n ≤ 1048576 ∧ h.s1.n ≤ 1048576) :
    Calls Try.prog 33 #[faV h] w fun e w' => ∃ g0 g1, e = .returned (faV ⟨h.X, ⟨some ⟨g0, 0, none⟩, h.s0.n, h.s0.n⟩, ⟨some ⟨g1, 0, none⟩, h.s1.n, h.s1.n⟩⟩) ∧ w'.ownsRow w.heap.size 5 1 (.slice (some ⟨g0, 0, none⟩) h.s0.n h.s0.n) h.s0.n (h.X.data.map (Value.int .u8)) ∧ w'.ownsRow w.heap.size 4 1 (.slice (some ⟨g1, 0, none⟩) h.s1.n h.s1.n) h.s1.n (h.X.keep.map Value.bool) ∧ g0 ≠ g1 ∧ Below w.heap.size w w' := by
  obtain ⟨X, ⟨a0, n0, c0⟩, ⟨a1, n1, c1⟩⟩ := h
  unfold faV
  simp only at hl r0 r1 ⊢
  obtain hL0 : X.data.length = n0 := by obtain ⟨_, _, e, _⟩ := r0; injection e with _ e _; exact e.symm
  rw [hL0] at r0
  have L0 := hide hL0
  clear hL0
  obtain hL1 : X.keep.length = n1 := by obtain ⟨_, _, e, _⟩ := r1; injection e with _ e _; exact e.symm
  rw [hL1] at r1
  have L1 := hide hL1
  clear hL1
  have R0 := hide r0
  have R1 := hide r1
  clear r0 r1
  generalize X.kind = x0 at *
  generalize X.at_ = x1 at *
  generalize X.torn = x2 at *
  have b1 : Below w.heap.size w (w.alloc (.cells #[.int .i64 x0, .int .i64 x1, .int .i64 x2, .slice a0 n0 c0, .slice a1 n1 c1] 69)) := (Below.refl _ _).alloc (Nat.le_refl _) _
  have h1 := heap_alloc_last w (.cells #[.int .i64 x0, .int .i64 x1, .int .i64 x2, .slice a0 n0 c0, .slice a1 n1 c1] 69)
  obtain ⟨W1, hW1⟩ : ∃ W1, W1 = w.alloc (.cells #[.int .i64 x0, .int .i64 x1, .int .i64 x2, .slice a0 n0 c0, .slice a1 n1 c1] 69) := ⟨_, rfl⟩
  have z1 : W1.heap.size = w.heap.size + 1 := by rw [hW1]; simp
  have b2 : Below (w.heap.size + 1) W1 (W1.alloc (.cells #[.int .i64 0, .int .i64 0, .int .i64 0, .slice none 0 0, .slice none 0 0] 34)) := (Below.refl _ _).alloc (by omega) _
  have h2 : (W1.alloc (.cells #[.int .i64 0, .int .i64 0, .int .i64 0, .slice none 0 0, .slice none 0 0] 34)).heap[w.heap.size + 1]? = some (.cells #[.int .i64 0, .int .i64 0, .int .i64 0, .slice none 0 0, .slice none 0 0] 34 (0, 0)) := by rw [← z1]; exact heap_alloc_last _ _
  obtain ⟨W2, hW2⟩ : ∃ W2, W2 = W1.alloc (.cells #[.int .i64 0, .int .i64 0, .int .i64 0, .slice none 0 0, .slice none 0 0] 34) := ⟨_, rfl⟩
  have z2 : W2.heap.size = w.heap.size + 1 + 1 := by rw [hW2]; simp [z1]
  have b3 : Below (w.heap.size + 1 + 1) W2 (W2.alloc (.cells #[.int .i64 x0, .int .i64 x1, .int .i64 x2, .slice none 0 0, .slice none 0 0] 34)) := (Below.refl _ _).alloc (by omega) _
  have h3 : (W2.alloc (.cells #[.int .i64 x0, .int .i64 x1, .int .i64 x2, .slice none 0 0, .slice none 0 0] 34)).heap[w.heap.size + 1 + 1]? = some (.cells #[.int .i64 x0, .int .i64 x1, .int .i64 x2, .slice none 0 0, .slice none 0 0] 34 (0, 0)) := by rw [← z2]; exact heap_alloc_last _ _
  rw [← hW1] at b1 h1
  rw [← hW2] at b2 h2
  have K1 := hide ((b3.block w.heap.size (by omega)).trans ((b2.block w.heap.size (by omega)).trans h1))
  have K2 := hide ((b3.block (w.heap.size + 1) (by omega)).trans h2)
  have K3 := hide h3
  have B : Below w.heap.size w (W2.alloc (.cells #[.int .i64 x0, .int .i64 x1, .int .i64 x2, .slice none 0 0, .slice none 0 0] 34)) := b1.trans ((b2.mono (by omega)).trans (b3.mono (by omega)))
  have z3 : (W2.alloc (.cells #[.int .i64 x0, .int .i64 x1, .int .i64 x2, .slice none 0 0, .slice none 0 0] 34)).heap.size = w.heap.size + 1 + 1 + 1 := by simp [z2]
  clear b1 b2 b3 h1 h2 h3 z1 z2
  subst hW2 hW1
  go_enter Try.func33, Try.ntmps33
  go_wp2_with fail
  generalize ((w.alloc (.cells #[.int .i64 x0, .int .i64 x1, .int .i64 x2, .slice a0 n0 c0, .slice a1 n1 c1] 69)).alloc (.cells #[.int .i64 0, .int .i64 0, .int .i64 0, .slice none 0 0, .slice none 0 0] 34)).alloc (.cells #[.int .i64 x0, .int .i64 x1, .int .i64 x2, .slice none 0 0, .slice none 0 0] 34) = u0 at *
  have y0 : w.heap.size + 1 + 1 + 1 ≤ u0.heap.size := by omega
  clear z3
  refine (toByteS_own a0 n0 c0 _ u0 (by omega) (unhide L0) ((unhide R0).below B)).mono ?_
  rintro e v0 ⟨rfl, hO, hb⟩
  replace K1 := hide ((hb.block w.heap.size (by omega)).trans (unhide K1))
  replace K2 := hide ((hb.block (w.heap.size + 1) (by omega)).trans (unhide K2))
  replace K3 := hide ((hb.block (w.heap.size + 1 + 1) (by omega)).trans (unhide K3))
  replace B := B.trans (hb.mono B.size)
  have O0 := hide (gd_base hO (C := w.heap.size + 1 + 1 + 1) (by omega))
  have zz0 := hb.size
  have gl0 := (hO.lt _ rfl).2
  clear hO hb
  generalize hg0 : u0.heap.size = g0 at *
  have t0 := (heap_at (unhide K3) 3).1
  have t1 := (heap_at (unhide K3) 3).2
  have s1 := (heap_at (unhide K1) 4).1
  have K3' := hide (show (v0.setCell ⟨w.heap.size + 1 + 1, 3, none⟩ (.slice (some ⟨g0, 0, none⟩) n0 n0)).heap[w.heap.size + 1 + 1]? = some (.cells #[.int .i64 x0, .int .i64 x1, .int .i64 x2, .slice (some ⟨g0, 0, none⟩) n0 n0, .slice none 0 0] 34 (0, 0)) from by have := heap_set (unhide K3) 3 (.slice (some ⟨g0, 0, none⟩) n0 n0); simpa using this)
  have K2' := hide ((show (v0.setCell ⟨w.heap.size + 1 + 1, 3, none⟩ (.slice (some ⟨g0, 0, none⟩) n0 n0)).heap[w.heap.size + 1]? = v0.heap[w.heap.size + 1]? from Below.heap_setCell _ _ _ _ (by show w.heap.size + 1 ≠ w.heap.size + 1 + 1; omega)).trans (unhide K2))
  have K1' := hide ((show (v0.setCell ⟨w.heap.size + 1 + 1, 3, none⟩ (.slice (some ⟨g0, 0, none⟩) n0 n0)).heap[w.heap.size]? = v0.heap[w.heap.size]? from Below.heap_setCell _ _ _ _ (by show w.heap.size ≠ w.heap.size + 1 + 1; omega)).trans (unhide K1))
  have O0' := hide (gd_set (unhide O0) (show w.heap.size + 1 + 1 < w.heap.size + 1 + 1 + 1 by omega) 3 (.slice (some ⟨g0, 0, none⟩) n0 n0))
  have B' := B.setCell (p := ⟨w.heap.size + 1 + 1, 3, none⟩) (by show w.heap.size ≤ w.heap.size + 1 + 1; omega) (.slice (some ⟨g0, 0, none⟩) n0 n0)
  have zs : (v0.setCell ⟨w.heap.size + 1 + 1, 3, none⟩ (.slice (some ⟨g0, 0, none⟩) n0 n0)).heap.size = v0.heap.size := by simp [World.setCell]
  clear K1 K2 K3 B O0
  go_wp2_with fail
  generalize (v0.setCell ⟨w.heap.size + 1 + 1, 3, none⟩ (.slice (some ⟨g0, 0, none⟩) n0 n0)) = u1 at *
  clear t0 t1 s1
  have y1 : w.heap.size + 1 + 1 + 1 ≤ u1.heap.size := by omega
  have K1 := K1'
  clear K1'
  have K2 := K2'
  clear K2'
  have K3 := K3'
  clear K3'
  have B := B'
  clear B'
  have O0 := O0'
  clear O0'
  refine (toBoolS_own a1 n1 c1 _ u1 (by omega) (unhide L1) ((unhide R1).below B)).mono ?_
  rintro e v1 ⟨rfl, hO, hb⟩
  replace K1 := hide ((hb.block w.heap.size (by omega)).trans (unhide K1))
  replace K2 := hide ((hb.block (w.heap.size + 1) (by omega)).trans (unhide K2))
  replace K3 := hide ((hb.block (w.heap.size + 1 + 1) (by omega)).trans (unhide K3))
  replace B := B.trans (hb.mono B.size)
  replace O0 := hide (rb_ownsRow_below (unhide O0) hb)
  have O1 := hide (gd_base hO (C := w.heap.size + 1 + 1 + 1) (by omega))
  have zz1 := hb.size
  have gl1 := (hO.lt _ rfl).2
  clear hO hb
  generalize hg1 : u1.heap.size = g1 at *
  have t0 := (heap_at (unhide K3) 4).1
  have t1 := (heap_at (unhide K3) 4).2
  have p0 := (heap_at (unhide K3) 0).1
  have p1 := (heap_at (unhide K3) 1).1
  have p2 := (heap_at (unhide K3) 2).1
  have p3 := (heap_at (unhide K3) 3).1
  have p4 := (heap_at (unhide K3) 4).1
  have r0 := (heap_at (unhide K2) 0).1
  have f0 := (heap_at (unhide K2) 0).2
  have r1 := (heap_at (unhide K2) 1).1
  have f1 := (heap_at (unhide K2) 1).2
  have r2 := (heap_at (unhide K2) 2).1
  have f2 := (heap_at (unhide K2) 2).2
  have r3 := (heap_at (unhide K2) 3).1
  have f3 := (heap_at (unhide K2) 3).2
  have r4 := (heap_at (unhide K2) 4).1
  have f4 := (heap_at (unhide K2) 4).2
  clear K1 K2 K3
  simp only [List.getElem?_toArray, List.getElem?_cons_zero, List.getElem?_cons_succ] at p0 p1 p2 p3 p4 r0 r1 r2 r3 r4
  clear t0 L0 R0 L1 R1 hl
  have NE := hide (show g0 ≠ g1 from by omega)
  clear hg0 zz0 gl0 y0 hg1 zz1 gl1 y1
  clear zs
  go_wp2_with fail
  have q1 : w.heap.size + 1 < w.heap.size + 1 + 1 + 1 := by omega
  have q2 : w.heap.size + 1 + 1 < w.heap.size + 1 + 1 + 1 := by omega
  have q3 : w.heap.size ≤ w.heap.size + 1 := by omega
  have q4 : w.heap.size ≤ w.heap.size + 1 + 1 := by omega
  refine bodyPost_ret (v := .agg #[.int .i64 x0, .int .i64 x1, .int .i64 x2, .slice (some ⟨g0, 0, none⟩) n0 n0, .slice (some ⟨g1, 0, none⟩) n1 n1]) (by simp [results, Try.results33, go_sem, *]) rfl ⟨g0, g1, rfl, ?_, ?_, unhide NE, ?_⟩
  · exact gd_base (gd_set (gd_set (gd_set (gd_set (gd_set (gd_set (unhide O0) q2 _ _) q1 _ _) q1 _ _) q1 _ _) q1 _ _) q1 _ _) (by omega)
  · exact gd_base (gd_set (gd_set (gd_set (gd_set (gd_set (gd_set (unhide O1) q2 _ _) q1 _ _) q1 _ _) q1 _ _) q1 _ _) q1 _ _) (by omega)
  · exact ((((((B.setCell (p := ⟨w.heap.size + 1 + 1, 4, none⟩) q4 _).setCell (p := ⟨w.heap.size + 1, 0, none⟩) q3 _).setCell (p := ⟨w.heap.size + 1, 1, none⟩) q3 _).setCell (p := ⟨w.heap.size + 1, 2, none⟩) q3 _).setCell (p := ⟨w.heap.size + 1, 3, none⟩) q3 _).setCell (p := ⟨w.heap.size + 1, 4, none⟩) q3 _)
def faNo : El := ⟨[.int .i64 0, .int .i64 0, .int .i64 0, .slice none 0 0, .slice none 0 0], []⟩
theorem faNo_made (n : Nat) : (madeCells #[.int .i64 0, .int .i64 0, .int .i64 0, .slice none 0 0, .slice none 0 0] (n * 5)).toList = (List.replicate n faNo).flatMap (·.hd) := by
  apply List.ext_getElem?
  intro j
  rw [show ∀ (k : Nat), (madeCells #[.int .i64 0, .int .i64 0, .int .i64 0, .slice none 0 0, .slice none 0 0] (n * 5)).toList[k]? = if k < n * 5 then some (#[.int .i64 0, .int .i64 0, .int .i64 0, .slice none 0 0, .slice none 0 0][k % 5]!) else none from fun k => by
    by_cases hk : k < n * 5 <;> simp [madeCells, hk]]
  induction n generalizing j with
  | zero => simp
  | succ n ih =>
    rw [List.replicate_succ, List.flatMap_cons]
    match j with
    | 0 => simp [faNo]
    | 1 => rw [if_pos (by omega)]; rfl
    | 2 => rw [if_pos (by omega)]; rfl
    | 3 => rw [if_pos (by omega)]; rfl
    | 4 => rw [if_pos (by omega)]; rfl
    | j + 5 =>
      rw [show (faNo.hd ++ (List.replicate n faNo).flatMap (·.hd))[j + 5]? = ((List.replicate n faNo).flatMap (·.hd))[j]? from rfl, ← ih j, Nat.add_mod_right]
      by_cases hj : j < n * 5
      · rw [if_pos hj, if_pos (by omega)]
      · rw [if_neg hj, if_neg (by omega)]
theorem faNo_set {X : List El} {n k : Nat} (hk : X.length = k) (hn : k < n) (d : El) : (X ++ List.replicate (n - k) faNo).set k d = (X ++ [d]) ++ List.replicate (n - (k + 1)) faNo := by
  subst hk
  obtain ⟨m, hm⟩ : ∃ m, n - X.length = m + 1 := ⟨n - X.length - 1, by omega⟩
  rw [hm, show n - (X.length + 1) = m by omega, List.replicate_succ, List.set_append_right _ _ (Nat.le_refl _), Nat.sub_self, List.set_cons_zero, List.append_assoc, List.singleton_append]
theorem faNo_at {X : List El} {n k : Nat} (hk : X.length = k) (hn : k < n) : (X ++ List.replicate (n - k) faNo)[k]? = some faNo := by
  subst hk
  rw [List.getElem?_append_right (Nat.le_refl _), Nat.sub_self, List.getElem?_replicate, if_pos (by omega)]
set_option maxRecDepth 100000 in
set_option maxHeartbeats 2000000 in
theorem toFlashActS_any (a : Option Addr) (n c : Nat) (hs : List FaH) (w : World) (hn : n ≤ 1048576) (hr : FaIn w (.slice a n c) n hs) (hl : ∀ h ∈ hs, h.s0.n ≤ 1048576 ∧ h.s1.n ≤ 1048576) :
    Calls Try.prog 13 #[.slice a n c] w fun e w' => ∃ hs' : List FaH, e = .returned (.slice (some ⟨w.heap.size, 0, none⟩) n n) ∧ NOwn w' w.heap.size 34 5 (.slice (some ⟨w.heap.size, 0, none⟩) n n) n (hs'.map faEl) ∧ hs'.map (·.X) = hs.map (·.X) ∧ Below w.heap.size w w' := by
  obtain ⟨i0, hi, hz0, hz1, hz2⟩ := info_parts Try.infoFa
  have L := hide (show hs.length = n by have := hr.len; simpa using this)
  have R := hide hr
  have LM := hide hl
  clear hr hl
  go_enter Try.func13, Try.ntmps13
  go_wp2_with (at_make; refine wpList_make_full _ rfl _ _ 23 rfl w.heap.size 34 i0 _ 5 Try.underlying23 hi hz0 hz1 _ _ _ _ n rfl rfl rfl rfl (by rw [hz2]; omega) (by unfold maxLen; omega) (Nat.le_refl _) ?_)
  intro w1 hown hgrow
  have hl0 := hide (show NOwn w1 w.heap.size 34 5 (.slice (some ⟨w.heap.size, 0, none⟩) n n) n (([] : List FaH).map faEl ++ List.replicate (n - 0) faNo) by
    refine NOwn.flat ?_ (by simp) (fun e he => by simp at he; rw [he.2]; rfl) (fun e he => by simp at he; rw [he.2]; rfl)
    rw [List.map_nil, List.nil_append, Nat.sub_zero, ← faNo_made]
    exact hown)
  have hbel : Below w.heap.size w w1 := (Below.refl _ _).grown hgrow (Nat.le_refl _) (fun k hk => by cases hk)
  clear hown hgrow
  go_wp2_with fail
  go_loopw [4] (fun i wr => ∃ (k : Nat) (qs : List FaH), k ≤ n ∧ i = .int .i64 k ∧ Hid (qs.map (·.X) = (hs.take k).map (·.X)) ∧ Hid (NOwn wr w.heap.size 34 5 (.slice (some ⟨w.heap.size, 0, none⟩) n n) n (qs.map faEl ++ List.replicate (n - k) faNo)) ∧ Below w.heap.size w wr) (fun i _ => n - (intOf i).toNat)
  case atStart => exact ⟨0, [], by omega, rfl, rfl, hl0, hbel⟩
  case round =>
    clear hl0 hbel
    obtain ⟨k, qs, hk, rfl, hX, hO, hb⟩ := hrel
    by_cases hlt : k < n
    · have hk2 : k < hs.length := by rw [unhide L]; exact hlt
      have hql : qs.length = k := by have := congrArg List.length (unhide hX); rw [List.length_map, List.length_map, List.length_take] at this; omega
      have XS := hide (show ∀ p : FaH, p.X = hs[k].X → (qs ++ [p]).map (·.X) = (hs.take (k + 1)).map (·.X) from fun p hp => by rw [rb_take_snoc hs k hk2, List.map_append, List.map_append, unhide hX]; simp [hp])
      have hl := unhide LM _ (List.getElem_mem hk2)
      obtain ⟨b, off, rfl, hbl, d0, d1, d2, d3, d4⟩ := FaIn.cells ((unhide R).below hb) hk2
      have SUBS := FaIn.sub ((unhide R).below hb) hk2
      have HT := hide (toFlashAct_any hs[k] wr SUBS.1 SUBS.2 hl)
      have LEN := hide (show hs[k].X.data.length = hs[k].s0.n ∧ hs[k].X.keep.length = hs[k].s1.n from by
        have SUBS := SUBS
        exact ⟨by obtain ⟨_, _, e, _⟩ := SUBS.1; injection e with _ e _; exact e.symm, by obtain ⟨_, _, e, _⟩ := SUBS.2; injection e with _ e _; exact e.symm⟩)
      have HQL := hide hql
      have hsz := hb.size
      unfold faV at HT
      clear hX SUBS hql
      generalize hs[k] = pd at *
      obtain ⟨X, ⟨a0, n0, c0⟩, ⟨a1, n1, c1⟩⟩ := pd
      simp only at d0 d1 d2 d3 d4 hl HT XS LEN
      have HH := hide (show ∀ s0 s1, faEl ⟨X, s0, s1⟩ = ⟨[.int .i64 X.kind, .int .i64 X.at_, .int .i64 X.torn, .slice s0.a s0.n s0.c, .slice s1.a s1.n s1.c], [⟨5, 1, X.data.length, .slice s0.a s0.n s0.c, X.data.map (Value.int .u8)⟩, ⟨4, 1, X.keep.length, .slice s1.a s1.n s1.c, X.keep.map Value.bool⟩]⟩ from fun s0 s1 => rfl)
      go_wp2_with fail
      refine (unhide HT).mono ?_
      rintro e w2 ⟨g0, g1, rfl, o0, o1, hne0, hb2⟩
      have S2 := hide (show NOwn (((((w2.setCell ⟨w.heap.size, k * 5, none⟩ (.int .i64 X.kind)).setCell ⟨w.heap.size, k * 5 + 1, none⟩ (.int .i64 X.at_)).setCell ⟨w.heap.size, k * 5 + 2, none⟩ (.int .i64 X.torn)).setCell ⟨w.heap.size, k * 5 + 3, none⟩ (.slice (some ⟨g0, 0, none⟩) n0 n0)).setCell ⟨w.heap.size, k * 5 + 4, none⟩ (.slice (some ⟨g1, 0, none⟩) n1 n1)) w.heap.size 34 5 (.slice (some ⟨w.heap.size, 0, none⟩) n n) n ((qs ++ [(⟨X, ⟨some ⟨g0, 0, none⟩, n0, n0⟩, ⟨some ⟨g1, 0, none⟩, n1, n1⟩⟩ : FaH)]).map faEl ++ List.replicate (n - (k + 1)) faNo) from by
        have h := NOwn.put (unhide hO) (i := k) (e' := faEl ⟨X, ⟨some ⟨g0, 0, none⟩, n0, n0⟩, ⟨some ⟨g1, 0, none⟩, n1, n1⟩⟩) (faNo_at (by rw [List.length_map]; exact unhide HQL) hlt) hb2 (Nat.le_refl _) hsz (fun x hx => ?_) (fun a b x y ha hb hne g hg hg2 => ?_) rfl
        · rw [faNo_set (by rw [List.length_map]; exact unhide HQL) hlt] at h
          rw [List.map_append]
          exact h
        · rw [unhide HH] at hx
          simp only [List.mem_cons, List.not_mem_nil, or_false] at hx
          rcases hx with rfl | rfl
          · have e := (unhide LEN).1; simp only; rw [e]; exact o0
          · have e := (unhide LEN).2; simp only; rw [e]; exact o1
        · rw [unhide HH] at ha hb
          simp only at ha hb
          match a, b, ha, hb, hne with
          | 0, 1, ha, hb, _ => simp at ha hb; subst ha hb; simp [Value.ownBlock] at hg hg2; omega
          | 1, 0, ha, hb, _ => simp at ha hb; subst ha hb; simp [Value.ownBlock] at hg hg2; omega
          | 0, 0, _, _, h => exact absurd rfl h
          | 1, 1, _, _, h => exact absurd rfl h
          | a + 2, _, ha, _, _ => simp at ha
          | 0, b + 2, _, hb, _ => simp at hb
          | 1, b + 2, _, hb, _ => simp at hb)
      have B2 := hide (show Below w.heap.size w (((((w2.setCell ⟨w.heap.size, k * 5, none⟩ (.int .i64 X.kind)).setCell ⟨w.heap.size, k * 5 + 1, none⟩ (.int .i64 X.at_)).setCell ⟨w.heap.size, k * 5 + 2, none⟩ (.int .i64 X.torn)).setCell ⟨w.heap.size, k * 5 + 3, none⟩ (.slice (some ⟨g0, 0, none⟩) n0 n0)).setCell ⟨w.heap.size, k * 5 + 4, none⟩ (.slice (some ⟨g1, 0, none⟩) n1 n1)) from ((((((hb.trans (hb2.mono hsz)).setCell (p := ⟨w.heap.size, k * 5, none⟩) (Nat.le_refl _) _).setCell (p := ⟨w.heap.size, k * 5 + 1, none⟩) (Nat.le_refl _) _).setCell (p := ⟨w.heap.size, k * 5 + 2, none⟩) (Nat.le_refl _) _).setCell (p := ⟨w.heap.size, k * 5 + 3, none⟩) (Nat.le_refl _) _).setCell (p := ⟨w.heap.size, k * 5 + 4, none⟩) (Nat.le_refl _) _))
      have O2 := (unhide hO).below hb2
      have e0 : w2.cell? ⟨w.heap.size, k * 5, none⟩ = some (.int .i64 0) := O2.cell (i := k) (j := 0) (faNo_at (by rw [List.length_map]; exact unhide HQL) hlt) rfl
      have e1 : w2.cell? ⟨w.heap.size, k * 5 + 1, none⟩ = some (.int .i64 0) := O2.cell (i := k) (j := 1) (faNo_at (by rw [List.length_map]; exact unhide HQL) hlt) rfl
      have e2 : w2.cell? ⟨w.heap.size, k * 5 + 2, none⟩ = some (.int .i64 0) := O2.cell (i := k) (j := 2) (faNo_at (by rw [List.length_map]; exact unhide HQL) hlt) rfl
      have e3 : w2.cell? ⟨w.heap.size, k * 5 + 3, none⟩ = some (.slice none 0 0) := O2.cell (i := k) (j := 3) (faNo_at (by rw [List.length_map]; exact unhide HQL) hlt) rfl
      have e4 : w2.cell? ⟨w.heap.size, k * 5 + 4, none⟩ = some (.slice none 0 0) := O2.cell (i := k) (j := 4) (faNo_at (by rw [List.length_map]; exact unhide HQL) hlt) rfl
      have fall := O2.free
      have f0 := fall (k * 5)
      have f1 := fall (k * 5 + 1)
      have f2 := fall (k * 5 + 2)
      have f3 := fall (k * 5 + 3)
      have f4 := fall (k * 5 + 4)
      clear fall O2 hO hb hb2 HT LEN HH d0 d1 d2 d3 d4 hsz
      generalize X.kind = x0 at *
      generalize X.at_ = x1 at *
      generalize X.torn = x2 at *
      go_wp2_with fail
      go_roundw
      case rel => exact ⟨k + 1, _, by omega, by go_num, unhide XS _ rfl, unhide S2, unhide B2⟩
      case measure => simp [intOf]; omega
    · obtain rfl : k = n := by omega
      have F := hide (show NOwn wr w.heap.size 34 5 (.slice (some ⟨w.heap.size, 0, none⟩) k k) k (qs.map faEl) by
        have := unhide hO
        rwa [Nat.sub_self, List.replicate_zero, List.append_nil] at this)
      have LL := hide (show qs.map (·.X) = hs.map (·.X) by rw [unhide hX, List.take_of_length_le (by rw [unhide L]; exact Nat.le_refl _)])
      go_wp2_with fail
      go_ret
      exact ⟨rfl, qs, unhide F, unhide LL, hb⟩
end Go.Proofs.Ytjhmammoakiknaa

namespace Go.Proofs.Ytjhmammoakiknaa
open Go.RowKit

set_option maxRecDepth 100000 in
set_option maxHeartbeats 2000000 in
theorem eqFlashAct_any (h1 h2 : FaH) (w : World) (hX : h2.X = h1.X) (r0 : RowC w (.slice h1.s0.a h1.s0.n h1.s0.c) h1.X.data.length (h1.X.data.map (Value.int .u8))) (t0 : RowC w (.slice h2.s0.a h2.s0.n h2.s0.c) h1.X.data.length (h1.X.data.map (Value.int .u8))) (r1 : RowC w (.slice h1.s1.a h1.s1.n h1.s1.c) h1.X.keep.length (h1.X.keep.map Value.bool)) (t1 : RowC w (.slice h2.s1.a h2.s1.n h2.s1.c) h1.X.keep.length (h1.X.keep.map Value.bool)) (hl : h1.s0.n ≤ 1048576 ∧ h1.s1.n ≤ 1048576) :
    Calls Try.prog 36 #[faV h1, faV h2] w fun e w' => e = .returned (.bool true) ∧ Below w.heap.size w w' := by
  obtain ⟨X, ⟨a0, n0, c0⟩, ⟨a1, n1, c1⟩⟩ := h1
  obtain ⟨X2, ⟨b0, m0, d0⟩, ⟨b1, m1, d1⟩⟩ := h2
  simp only at hX
  subst hX
  unfold faV
  simp only at hl r0 t0 r1 t1 ⊢
  obtain hL0 : X2.data.length = n0 := by obtain ⟨_, _, e, _⟩ := r0; injection e with _ e _; exact e.symm
  obtain hM0 : m0 = n0 := by obtain ⟨_, _, e, _⟩ := t0; injection e with _ e _; exact e.trans hL0
  subst hM0
  rw [hL0] at r0 t0
  obtain hL1 : X2.keep.length = n1 := by obtain ⟨_, _, e, _⟩ := r1; injection e with _ e _; exact e.symm
  obtain hM1 : m1 = n1 := by obtain ⟨_, _, e, _⟩ := t1; injection e with _ e _; exact e.trans hL1
  subst hM1
  rw [hL1] at r1 t1
  generalize X2.kind = x0 at *
  have hx0 : (x0 != x0) = false := by simp
  generalize X2.at_ = x1 at *
  have hx1 : (x1 != x1) = false := by simp
  generalize X2.torn = x2 at *
  have hx2 : (x2 != x2) = false := by simp
  have BB : Below w.heap.size w ((w.alloc (.cells #[.int .i64 x0, .int .i64 x1, .int .i64 x2, .slice a0 m0 c0, .slice a1 m1 c1] 34)).alloc (.cells #[.int .i64 x0, .int .i64 x1, .int .i64 x2, .slice b0 m0 d0, .slice b1 m1 d1] 34)) := ((Below.refl _ _).alloc (Nat.le_refl _) _).alloc (by simp) _
  have K1 := hide (show ((w.alloc (.cells #[.int .i64 x0, .int .i64 x1, .int .i64 x2, .slice a0 m0 c0, .slice a1 m1 c1] 34)).alloc (.cells #[.int .i64 x0, .int .i64 x1, .int .i64 x2, .slice b0 m0 d0, .slice b1 m1 d1] 34)).heap[w.heap.size]? = some (.cells #[.int .i64 x0, .int .i64 x1, .int .i64 x2, .slice a0 m0 c0, .slice a1 m1 c1] 34 (0, 0)) from (((Below.refl (w.heap.size + 1) _).alloc (by simp) _).block w.heap.size (by omega)).trans (heap_alloc_last w _))
  have K2 := hide (show ((w.alloc (.cells #[.int .i64 x0, .int .i64 x1, .int .i64 x2, .slice a0 m0 c0, .slice a1 m1 c1] 34)).alloc (.cells #[.int .i64 x0, .int .i64 x1, .int .i64 x2, .slice b0 m0 d0, .slice b1 m1 d1] 34)).heap[w.heap.size + 1]? = some (.cells #[.int .i64 x0, .int .i64 x1, .int .i64 x2, .slice b0 m0 d0, .slice b1 m1 d1] 34 (0, 0)) from by
    have h := heap_alloc_last (w.alloc (.cells #[.int .i64 x0, .int .i64 x1, .int .i64 x2, .slice a0 m0 c0, .slice a1 m1 c1] 34)) (.cells #[.int .i64 x0, .int .i64 x1, .int .i64 x2, .slice b0 m0 d0, .slice b1 m1 d1] 34)
    rwa [show (w.alloc (.cells #[.int .i64 x0, .int .i64 x1, .int .i64 x2, .slice a0 m0 c0, .slice a1 m1 c1] 34)).heap.size = w.heap.size + 1 by simp] at h)
  have R0 := hide r0
  have T0 := hide t0
  have L0 := hide hL0
  clear r0 t0 hL0
  have R1 := hide r1
  have T1 := hide t1
  have L1 := hide hL1
  clear r1 t1 hL1
  go_enter Try.func36, Try.ntmps36
  go_wp2_with fail
  generalize ((w.alloc (.cells #[.int .i64 x0, .int .i64 x1, .int .i64 x2, .slice a0 m0 c0, .slice a1 m1 c1] 34)).alloc (.cells #[.int .i64 x0, .int .i64 x1, .int .i64 x2, .slice b0 m0 d0, .slice b1 m1 d1] 34)) = W at *
  refine (eqByteS_C a0 b0 m0 c0 d0 _ W (by unfold maxLen; omega) (unhide L0) ((unhide R0).below BB) ((unhide T0).below BB)).mono ?_
  rintro e v0 ⟨rfl, hb⟩
  replace K1 := hide ((hb.block w.heap.size (Array.getElem?_eq_some_iff.1 (unhide K1)).1).trans (unhide K1))
  replace K2 := hide ((hb.block (w.heap.size + 1) (Array.getElem?_eq_some_iff.1 (unhide K2)).1).trans (unhide K2))
  replace BB := BB.trans (hb.mono BB.size)
  clear hb
  have k1c : v0.cell? ⟨w.heap.size, 4, none⟩ = some (.slice a1 m1 c1) := (heap_at (unhide K1) 4).1
  have k2c : v0.cell? ⟨w.heap.size + 1, 4, none⟩ = some (.slice b1 m1 d1) := (heap_at (unhide K2) 4).1
  go_wp2_with fail
  refine (eqBoolS_C a1 b1 m1 c1 d1 _ v0 (by unfold maxLen; omega) (unhide L1) ((unhide R1).below BB) ((unhide T1).below BB)).mono ?_
  rintro e v1 ⟨rfl, hb⟩
  replace K1 := hide ((hb.block w.heap.size (Array.getElem?_eq_some_iff.1 (unhide K1)).1).trans (unhide K1))
  replace K2 := hide ((hb.block (w.heap.size + 1) (Array.getElem?_eq_some_iff.1 (unhide K2)).1).trans (unhide K2))
  replace BB := BB.trans (hb.mono BB.size)
  clear hb k1c k2c
  clear K1 K2
  go_wp2_with fail
  go_ret
  exact ⟨rfl, BB⟩
set_option maxHeartbeats 2000000 in
theorem eqFlashActS_any (a1 a2 : Option Addr) (n c1 c2 : Nat) (hs1 hs2 : List FaH) (w : World) (hn : n ≤ 1048576) (h1 : FaIn w (.slice a1 n c1) n hs1) (h2 : FaIn w (.slice a2 n c2) n hs2) (hX : hs2.map (·.X) = hs1.map (·.X)) (hl : ∀ h ∈ hs1, h.s0.n ≤ 1048576 ∧ h.s1.n ≤ 1048576) :
    Calls Try.prog 16 #[.slice a1 n c1, .slice a2 n c2] w fun e w' => e = .returned (.bool true) ∧ Below w.heap.size w w' := by
  have L1 := hide (show hs1.length = n by have := h1.len; simpa using this)
  have L2 := hide (show hs2.length = n by have := h2.len; simpa using this)
  have R1 := hide h1
  have R2 := hide h2
  have LM := hide hl
  have HX := hide hX
  clear h1 h2 hl hX
  go_enter Try.func16, Try.ntmps16
  go_wp2_with fail
  go_loopw [5] (fun i wr => ∃ k : Nat, k ≤ n ∧ i = .int .i64 k ∧ Below w.heap.size w wr) (fun i _ => n - (intOf i).toNat)
  case atStart => exact ⟨0, by omega, rfl, Below.refl _ _⟩
  case round =>
    obtain ⟨k, hk, rfl, hb⟩ := hrel
    by_cases hlt : k < n
    · have k1 : k < hs1.length := by rw [unhide L1]; exact hlt
      have k2 : k < hs2.length := by rw [unhide L2]; exact hlt
      have ex : hs2[k].X = hs1[k].X := by
        have e := congrArg (·[k]?) (unhide HX)
        simp only [List.getElem?_map, List.getElem?_eq_getElem k1, List.getElem?_eq_getElem k2, Option.map_some] at e
        injection e
      obtain ⟨b, off, rfl, _, d0, d1, d2, d3, d4⟩ := FaIn.cells ((unhide R1).below hb) k1
      obtain ⟨b', off', rfl, _, y0, y1, y2, y3, y4⟩ := FaIn.cells ((unhide R2).below hb) k2
      have C := hide (show ∀ u, Below wr.heap.size wr u → Calls Try.prog 36 #[faV hs1[k], faV hs2[k]] u fun e w' => e = .returned (.bool true) ∧ Below u.heap.size u w' from fun u hu => by
        have P1 := FaIn.sub (((unhide R1).below hb).below hu) k1
        have P2 := FaIn.sub (((unhide R2).below hb).below hu) k2
        rw [ex] at P2
        exact eqFlashAct_any hs1[k] hs2[k] u ex P1.1 P2.1 P1.2 P2.2 (unhide LM _ (List.getElem_mem k1)))
      clear ex
      generalize hs1[k] = pd at *
      generalize hs2[k] = qd at *
      obtain ⟨X, ⟨a0, n0, e0⟩, ⟨a1, n1, e1⟩⟩ := pd
      obtain ⟨Y, ⟨b0, m0, f0⟩, ⟨b1, m1, f1⟩⟩ := qd
      unfold faV at C
      simp only at d0 d1 d2 d3 d4 y0 y1 y2 y3 y4 C
      generalize X.kind = x0 at *
      generalize Y.kind = w0 at *
      generalize X.at_ = x1 at *
      generalize Y.at_ = w1 at *
      generalize X.torn = x2 at *
      generalize Y.torn = w2 at *
      have hsz := hb.size
      go_wp2_with fail
      go_region_with (go_at_call 36; refine (unhide C _ (by first | exact Below.refl _ _ | exact (Below.refl _ _).drew | exact bel_drewN (Below.refl _ _) _)).mono ?_; rintro e w2 ⟨rfl, hb2⟩)
      all_goals
        have bA : Below w.heap.size w w2 := by first | exact hb.drew.trans (hb2.mono hsz) | exact (bel_drewN hb _).trans (hb2.mono hsz) | exact hb.trans (hb2.mono hsz)
        clear hb hb2 d0 d1 d2 d3 d4 y0 y1 y2 y3 y4 C
        go_wp2_with fail
        go_roundw
        case rel => exact ⟨k + 1, by omega, by go_num, bA⟩
        case measure => simp [intOf]; omega
    · obtain rfl : k = n := by omega
      go_wp2_with fail
      go_ret
      exact ⟨rfl, hb⟩
end Go.Proofs.Ytjhmammoakiknaa

namespace Go.Proofs.Ytjhmammoakiknaa
open Go.RowKit

def faMkX (k : Nat) (X : ActD) : ActD := ⟨(k : Int), (k : Int) + 1, (k : Int) + 1 + 1, byMks (k + 3) (X.data.length), boMks (k + 3 + X.data.length) (X.keep.length)⟩
def faMk (k : Nat) (h : FaH) : FaH := ⟨faMkX k h.X, h.s0, h.s1⟩
def faCnt (h : FaH) : Nat := 3 + h.X.data.length + h.X.keep.length
theorem faown_n {w : World} {B t s n m : Nat} {a : Option Addr} {c : Nat} {cs : List Value} (h : w.ownsRow B t s (.slice a n c) m cs) : n = m := by
  rcases h.2 with ⟨e, rfl⟩ | ⟨g, cap, cur, e, _⟩
  · injection e
  · injection e
set_option maxRecDepth 100000 in
set_option maxHeartbeats 4000000 in
theorem markFlashActS_some (B g n c k0 : Nat) (hs : List FaH) (w : World) (_hp : 0 < k0) (hk0 : kG faCnt k0 hs ≤ 9999990) (h1 : NOwn w B 34 5 (.slice (some ⟨g, 0, none⟩) n c) n (hs.map faEl)) :
    Calls Try.prog 17 #[.slice (some ⟨g, 0, none⟩) n c, .int .i64 (k0 : Int)] w fun e w' => e = .returned (.int .i64 ((kG faCnt k0 hs : Nat) : Int)) ∧ NOwn w' B 34 5 (.slice (some ⟨g, 0, none⟩) n c) n ((mkG faCnt faMk k0 hs).map faEl) ∧ WrB (NBl (.slice (some ⟨g, 0, none⟩) n c) (hs.map faEl)) w w' := by
  have L := hide (show hs.length = n by have := h1.len; simpa using this)
  have H := hide h1
  have KT := hide (fun j => Nat.le_trans (kG_take faCnt k0 hs j) hk0)
  have KM := hide (fun j => kG_mono faCnt k0 (hs.take j))
  have hnb : n ≤ maxLen := by
    rcases h1.row.2 with ⟨e, _⟩ | ⟨_, cap, _, e, _, _, h1, h2, _⟩
    · cases e
    · omega
  unfold maxLen at hnb
  clear h1
  go_enter Try.func17, Try.ntmps17
  go_wp2_with fail
  go_loopw [1, 5] (fun q i wr => ∃ j : Nat, j ≤ n ∧ i = .int .i64 j ∧ q = .int .i64 ((kG faCnt k0 (hs.take j) : Nat) : Int) ∧ Hid (NOwn wr B 34 5 (.slice (some ⟨g, 0, none⟩) n c) n ((haG faCnt faMk k0 hs j).map faEl)) ∧ Hid (WrB (NBl (.slice (some ⟨g, 0, none⟩) n c) (hs.map faEl)) w wr)) (fun _ i _ => n - (intOf i).toNat)
  case atStart => exact ⟨0, Nat.zero_le _, rfl, by simp [kG], unhide H, WrB.same _ _⟩
  case round =>
    clear H
    obtain ⟨j, hj, rfl, rfl, hI, hw⟩ := hrel
    by_cases hlt : j < n
    · have hjl : j < hs.length := by rw [unhide L]; exact hlt
      have hkb := unhide KT (j + 1)
      rw [rb_take_snoc hs j hjl, kG_snoc] at hkb
      have hkm := unhide KM j
      have HKK := hide (show kG faCnt k0 (hs.take (j + 1)) = kG faCnt k0 (hs.take j) + faCnt hs[j] by rw [rb_take_snoc hs j hjl, kG_snoc])
      have hjh : j < ((haG faCnt faMk k0 hs j).map faEl).length := by rw [List.length_map, haG_len _ _ _ _ _ (by omega)]; exact hjl
      have EJ := hide (show ((haG faCnt faMk k0 hs j).map faEl)[j]? = some (faEl hs[j]) by rw [List.getElem?_map, haG_at faCnt faMk hjl]; rfl)
      have FIN := hide (show (haG faCnt faMk k0 hs (j + 1)).map faEl = ((haG faCnt faMk k0 hs j).map faEl).set j (faEl (faMk (kG faCnt k0 (hs.take j)) hs[j])) by rw [haG_step faCnt faMk hjl, List.map_set])
      have BL := hide (show ∀ i a y, (faEl hs[j]).sb[a]? = some y → y.v.ownBlock = some i → NBl (.slice (some ⟨g, 0, none⟩) n c) (hs.map faEl) i from fun i a y hy hi => .inr ⟨j, a, y, by unfold sbAt; rw [faEl_at hjl]; exact hy, hi⟩)
      obtain ⟨EE, hEE⟩ : ∃ E, E = faEl (faMk (kG faCnt k0 (hs.take j)) hs[j]) := ⟨_, rfl⟩
      obtain ⟨CC, hCC⟩ : ∃ C, C = faCnt hs[j] := ⟨_, rfl⟩
      rw [← hEE] at FIN
      rw [← hCC] at hkb HKK
      generalize hES : (haG faCnt faMk k0 hs j).map faEl = es at *
      clear hES
      generalize kG faCnt k0 (hs.take j) = K at *
      generalize hs[j] = pd at *
      obtain ⟨X, ⟨a0, n0, c0⟩, ⟨a1, n1, c1⟩⟩ := pd
      unfold faEl faMk faMkX at hEE
      unfold faCnt at hCC
      have EJ' := hide (show es[j]? = some ⟨[.int .i64 X.kind, .int .i64 X.at_, .int .i64 X.torn, .slice a0 n0 c0, .slice a1 n1 c1], [⟨5, 1, X.data.length, .slice a0 n0 c0, X.data.map (Value.int .u8)⟩, ⟨4, 1, X.keep.length, .slice a1 n1 c1, X.keep.map Value.bool⟩]⟩ from unhide EJ)
      have BL' := hide (show ∀ (i a : Nat) (y : Sb), ([⟨5, 1, X.data.length, .slice a0 n0 c0, X.data.map (Value.int .u8)⟩, ⟨4, 1, X.keep.length, .slice a1 n1 c1, X.keep.map Value.bool⟩] : List Sb)[a]? = some y → y.v.ownBlock = some i → NBl (.slice (some ⟨g, 0, none⟩) n c) (hs.map faEl) i from unhide BL)
      clear EJ BL
      have EJ := EJ'
      have BL := BL'
      clear EJ' BL'
      simp only at hEE hCC
      obtain rfl : n0 = X.data.length := faown_n ((unhide hI).dat j 0 _ (by unfold sbAt; rw [unhide EJ]; rfl))
      obtain rfl : n1 = X.keep.length := faown_n ((unhide hI).dat j 1 _ (by unfold sbAt; rw [unhide EJ]; rfl))
      have O0 := hide (show NOwn wr B 34 5 (.slice (some ⟨g, 0, none⟩) n c) n (es.set j ⟨[.int .i64 X.kind, .int .i64 X.at_, .int .i64 X.torn, .slice a0 (X.data.length) c0, .slice a1 (X.keep.length) c1], [⟨5, 1, X.data.length, .slice a0 (X.data.length) c0, X.data.map (Value.int .u8)⟩, ⟨4, 1, X.keep.length, .slice a1 (X.keep.length) c1, X.keep.map Value.bool⟩]⟩) from by
        obtain ⟨hl, he⟩ := List.getElem?_eq_some_iff.1 (unhide EJ)
        rw [← he, List.set_getElem_self]
        exact unhide hI)
      generalize hn0 : X.data.length = n0 at *
      generalize hn1 : X.keep.length = n1 at *
      have HN0 := hide hn0
      clear hn0
      generalize X.data = D0 at *
      have HN1 := hide hn1
      clear hn1
      generalize X.keep = D1 at *
      generalize X.kind = x0 at *
      generalize X.at_ = x1 at *
      generalize X.torn = x2 at *
      have HEE := hide hEE
      have HCC := hide hCC
      rw [hCC] at hkb
      clear hEE hCC
      have G0 := hw
      clear hI hw EJ
      have e0 : wr.cell? ⟨g, j * 5, none⟩ = some (.int .i64 x0) := (unhide O0).cell (i := j) (j := 0) (List.getElem?_set_self hjh) rfl
      have f0 := (unhide O0).free (j * 5)
      have P0 := (unhide O0).setHd (i := j) (j := 0) (List.getElem?_set_self hjh) (by decide) (.int .i64 ((K : Int)))
      rw [List.set_set] at P0
      have O1 := hide (show NOwn (wr.setCell ⟨g, j * 5, none⟩ (.int .i64 ((K : Int)))) B 34 5 (.slice (some ⟨g, 0, none⟩) n c) n (es.set j ⟨[.int .i64 ((K : Int)), .int .i64 x1, .int .i64 x2, .slice a0 n0 c0, .slice a1 n1 c1], [⟨5, 1, n0, .slice a0 n0 c0, D0.map (Value.int .u8)⟩, ⟨4, 1, n1, .slice a1 n1 c1, D1.map Value.bool⟩]⟩) from P0.1)
      replace G0 := hide ((unhide G0).seq (show WrB _ wr (wr.setCell ⟨g, j * 5, none⟩ (.int .i64 ((K : Int)))) from P0.2.weak (fun i hi => .inl (by rw [hi]; rfl))))
      clear P0 O0
      have e1 : (wr.setCell ⟨g, j * 5, none⟩ (.int .i64 ((K : Int)))).cell? ⟨g, j * 5 + 1, none⟩ = some (.int .i64 x1) := (unhide O1).cell (i := j) (j := 1) (List.getElem?_set_self hjh) rfl
      have f1 := (unhide O1).free (j * 5 + 1)
      have P1 := (unhide O1).setHd (i := j) (j := 1) (List.getElem?_set_self hjh) (by decide) (.int .i64 ((K : Int) + 1))
      rw [List.set_set] at P1
      have O2 := hide (show NOwn ((wr.setCell ⟨g, j * 5, none⟩ (.int .i64 ((K : Int)))).setCell ⟨g, j * 5 + 1, none⟩ (.int .i64 ((K : Int) + 1))) B 34 5 (.slice (some ⟨g, 0, none⟩) n c) n (es.set j ⟨[.int .i64 ((K : Int)), .int .i64 ((K : Int) + 1), .int .i64 x2, .slice a0 n0 c0, .slice a1 n1 c1], [⟨5, 1, n0, .slice a0 n0 c0, D0.map (Value.int .u8)⟩, ⟨4, 1, n1, .slice a1 n1 c1, D1.map Value.bool⟩]⟩) from P1.1)
      replace G0 := hide ((unhide G0).seq (show WrB _ (wr.setCell ⟨g, j * 5, none⟩ (.int .i64 ((K : Int)))) ((wr.setCell ⟨g, j * 5, none⟩ (.int .i64 ((K : Int)))).setCell ⟨g, j * 5 + 1, none⟩ (.int .i64 ((K : Int) + 1))) from P1.2.weak (fun i hi => .inl (by rw [hi]; rfl))))
      clear P1 O1
      have e2 : ((wr.setCell ⟨g, j * 5, none⟩ (.int .i64 ((K : Int)))).setCell ⟨g, j * 5 + 1, none⟩ (.int .i64 ((K : Int) + 1))).cell? ⟨g, j * 5 + 2, none⟩ = some (.int .i64 x2) := (unhide O2).cell (i := j) (j := 2) (List.getElem?_set_self hjh) rfl
      have f2 := (unhide O2).free (j * 5 + 2)
      have P2 := (unhide O2).setHd (i := j) (j := 2) (List.getElem?_set_self hjh) (by decide) (.int .i64 ((K : Int) + 1 + 1))
      rw [List.set_set] at P2
      have O3 := hide (show NOwn (((wr.setCell ⟨g, j * 5, none⟩ (.int .i64 ((K : Int)))).setCell ⟨g, j * 5 + 1, none⟩ (.int .i64 ((K : Int) + 1))).setCell ⟨g, j * 5 + 2, none⟩ (.int .i64 ((K : Int) + 1 + 1))) B 34 5 (.slice (some ⟨g, 0, none⟩) n c) n (es.set j ⟨[.int .i64 ((K : Int)), .int .i64 ((K : Int) + 1), .int .i64 ((K : Int) + 1 + 1), .slice a0 n0 c0, .slice a1 n1 c1], [⟨5, 1, n0, .slice a0 n0 c0, D0.map (Value.int .u8)⟩, ⟨4, 1, n1, .slice a1 n1 c1, D1.map Value.bool⟩]⟩) from P2.1)
      replace G0 := hide ((unhide G0).seq (show WrB _ ((wr.setCell ⟨g, j * 5, none⟩ (.int .i64 ((K : Int)))).setCell ⟨g, j * 5 + 1, none⟩ (.int .i64 ((K : Int) + 1))) (((wr.setCell ⟨g, j * 5, none⟩ (.int .i64 ((K : Int)))).setCell ⟨g, j * 5 + 1, none⟩ (.int .i64 ((K : Int) + 1))).setCell ⟨g, j * 5 + 2, none⟩ (.int .i64 ((K : Int) + 1 + 1))) from P2.2.weak (fun i hi => .inl (by rw [hi]; rfl))))
      clear P2 O2
      have HM := hide (show NOwn (((wr.setCell ⟨g, j * 5, none⟩ (.int .i64 ((K : Int)))).setCell ⟨g, j * 5 + 1, none⟩ (.int .i64 ((K : Int) + 1))).setCell ⟨g, j * 5 + 2, none⟩ (.int .i64 ((K : Int) + 1 + 1))) B 34 5 (.slice (some ⟨g, 0, none⟩) n c) n (es.set j ⟨[.int .i64 ((K : Int)), .int .i64 ((K : Int) + 1), .int .i64 ((K : Int) + 1 + 1), .slice a0 n0 c0, .slice a1 n1 c1], [⟨5, 1, n0, .slice a0 n0 c0, D0.map (Value.int .u8)⟩, ⟨4, 1, n1, .slice a1 n1 c1, D1.map Value.bool⟩]⟩) from unhide O3)
      clear O3
      have y0 : (((wr.setCell ⟨g, j * 5, none⟩ (.int .i64 ((K : Int)))).setCell ⟨g, j * 5 + 1, none⟩ (.int .i64 ((K : Int) + 1))).setCell ⟨g, j * 5 + 2, none⟩ (.int .i64 ((K : Int) + 1 + 1))).cell? ⟨g, j * 5 + 3, none⟩ = some (.slice a0 n0 c0) := (unhide HM).cell (i := j) (j := 3) (List.getElem?_set_self hjh) rfl
      have C0 := hide (markByteS_own B a0 n0 c0 (K + 3) D0 (((wr.setCell ⟨g, j * 5, none⟩ (.int .i64 ((K : Int)))).setCell ⟨g, j * 5 + 1, none⟩ (.int .i64 ((K : Int) + 1))).setCell ⟨g, j * 5 + 2, none⟩ (.int .i64 ((K : Int) + 1 + 1))) (by omega) (unhide HN0) ((unhide HM).dat j 0 _ (by unfold sbAt; rw [List.getElem?_set_self hjh]; rfl)))
      rw [show ((K + 3 : Nat) : Int) = (K : Int) + 1 + 1 + 1 by omega] at C0
      go_wp2_with fail
      generalize (((wr.setCell ⟨g, j * 5, none⟩ (.int .i64 ((K : Int)))).setCell ⟨g, j * 5 + 1, none⟩ (.int .i64 ((K : Int) + 1))).setCell ⟨g, j * 5 + 2, none⟩ (.int .i64 ((K : Int) + 1 + 1))) = u1 at *
      clear e0 f0
      clear e1 f1
      clear e2 f2
      clear y0
      refine (unhide C0).mono ?_
      rintro e v0 ⟨rfl, ho, hw2⟩
      have Q := (unhide HM).setSb (i := j) (a := 0) (List.getElem?_set_self hjh) rfl (x' := ⟨5, 1, n0, .slice a0 n0 c0, (byMks (K + 3) n0).map (Value.int .u8)⟩) rfl ho hw2
      rw [List.set_set] at Q
      replace HM := hide (show NOwn v0 B 34 5 (.slice (some ⟨g, 0, none⟩) n c) n (es.set j ⟨[.int .i64 ((K : Int)), .int .i64 ((K : Int) + 1), .int .i64 ((K : Int) + 1 + 1), .slice a0 n0 c0, .slice a1 n1 c1], [⟨5, 1, n0, .slice a0 n0 c0, (byMks (K + 3) n0).map (Value.int .u8)⟩, ⟨4, 1, n1, .slice a1 n1 c1, D1.map Value.bool⟩]⟩) from Q)
      replace G0 := hide ((unhide G0).seq (hw2.weak (fun i hi => unhide BL i 0 _ rfl hi)))
      clear Q ho hw2 C0
      obtain ⟨K1, hK1⟩ : ∃ K1, K1 = K + 3 + n0 := ⟨_, rfl⟩
      rw [← hK1]
      have HK1 := hide hK1
      have hKb1 : K1 + n1 ≤ 9999990 := by omega
      clear hK1
      have y1 : v0.cell? ⟨g, j * 5 + 4, none⟩ = some (.slice a1 n1 c1) := (unhide HM).cell (i := j) (j := 4) (List.getElem?_set_self hjh) rfl
      have C1 := hide (markBoolS_own B a1 n1 c1 K1 D1 v0 (by omega) (unhide HN1) ((unhide HM).dat j 1 _ (by unfold sbAt; rw [List.getElem?_set_self hjh]; rfl)))
      go_wp2_with fail
      clear y1
      refine (unhide C1).mono ?_
      rintro e v1 ⟨rfl, ho, hw2⟩
      have Q := (unhide HM).setSb (i := j) (a := 1) (List.getElem?_set_self hjh) rfl (x' := ⟨4, 1, n1, .slice a1 n1 c1, (boMks K1 n1).map Value.bool⟩) rfl ho hw2
      rw [List.set_set] at Q
      replace HM := hide (show NOwn v1 B 34 5 (.slice (some ⟨g, 0, none⟩) n c) n (es.set j ⟨[.int .i64 ((K : Int)), .int .i64 ((K : Int) + 1), .int .i64 ((K : Int) + 1 + 1), .slice a0 n0 c0, .slice a1 n1 c1], [⟨5, 1, n0, .slice a0 n0 c0, (byMks (K + 3) n0).map (Value.int .u8)⟩, ⟨4, 1, n1, .slice a1 n1 c1, (boMks K1 n1).map Value.bool⟩]⟩) from Q)
      replace G0 := hide ((unhide G0).seq (hw2.weak (fun i hi => unhide BL i 1 _ rfl hi)))
      clear Q ho hw2 C1
      have R := hide (show NOwn v1 B 34 5 (.slice (some ⟨g, 0, none⟩) n c) n ((haG faCnt faMk k0 hs (j + 1)).map faEl) from by
        rw [unhide FIN, unhide HEE]
        have h := unhide HM
        rw [unhide HK1] at h
        simp only [boMks_len, byMks_len]
        exact h)
      have KE := hide (show ((K1 + n1 : Nat) : Int) = ((kG faCnt k0 (hs.take (j + 1)) : Nat) : Int) by rw [unhide HKK, unhide HCC]; have := unhide HK1; omega)
      clear HM FIN BL HKK HEE HCC
      go_wp2_with fail
      go_roundw
      case rel => exact ⟨j + 1, by omega, by go_num, by rw [← unhide KE]; go_num, unhide R, unhide G0⟩
      case measure => simp [intOf]; omega
    · obtain rfl : j = n := by omega
      have Z := hide (show NOwn wr B 34 5 (.slice (some ⟨g, 0, none⟩) j c) j ((mkG faCnt faMk k0 hs).map faEl) by
        have h := unhide hI
        rwa [← unhide L, haG_all, unhide L] at h)
      have ZK := hide (show kG faCnt k0 (hs.take j) = kG faCnt k0 hs by rw [List.take_of_length_le (by rw [unhide L]; exact Nat.le_refl _)])
      go_wp2_with fail
      go_ret
      exact ⟨ret_int (by rw [unhide ZK]), unhide Z, unhide hw⟩
theorem markFlashActS_nil (k0 : Int) (w : World) : Calls Try.prog 17 #[.slice none 0 0, .int .i64 k0] w fun e w' => e = .returned (.int .i64 k0) ∧ w' = w := by
  go_enter Try.func17, Try.ntmps17
  go_wp2_with fail
  refine wp_loop_rounds 1 ?_
  rw [rounds_succ]
  go_wp2_with fail
  go_ret
  exact ⟨rfl, rfl⟩
theorem markFlashActS_any (B : Nat) (a : Option Addr) (n c k0 : Nat) (hs : List FaH) (w : World) (_hp : 0 < k0) (hk0 : kG faCnt k0 hs ≤ 9999990) (h1 : NOwn w B 34 5 (.slice a n c) n (hs.map faEl)) :
    Calls Try.prog 17 #[.slice a n c, .int .i64 (k0 : Int)] w fun e w' => e = .returned (.int .i64 ((kG faCnt k0 hs : Nat) : Int)) ∧ NOwn w' B 34 5 (.slice a n c) n ((mkG faCnt faMk k0 hs).map faEl) ∧ WrB (NBl (.slice a n c) (hs.map faEl)) w w' := by
  rcases h1.row.2 with ⟨e, hl⟩ | ⟨g, cap, cur, e, _⟩
  · injection e with e1 e2 e3
    subst e1 e2 e3
    obtain rfl : hs = [] := by have := h1.len; simpa using this
    refine (markFlashActS_nil k0 w).mono ?_
    rintro e w' ⟨rfl, rfl⟩
    exact ⟨rfl, h1, WrB.same _ _⟩
  · injection e with e1 e2 e3
    subst e1
    exact markFlashActS_some B g n c k0 hs w _hp hk0 h1
end Go.Proofs.Ytjhmammoakiknaa

namespace Go.Proofs.Ytjhmammoakiknaa
open Go.RowKit Go.Maps

/-- Acts that came in. -/
def IsActs (w : World) (a : Option Addr) (n c : Nat) (hs : List FaH) : Prop := FaIn w (.slice a n c) n hs ∧ n ≤ maxLen ∧ ∀ h ∈ hs, h.s0.n ≤ maxLen ∧ h.s1.n ≤ maxLen
def faZ (h : FaH) : ZaR := ⟨h.X.kind, h.X.at_, h.X.torn, h.s0, h.s1⟩
theorem rowC_n {w : World} {a : Option Addr} {n m c : Nat} {cs : List Value} (h : RowC w (.slice a n c) m cs) : n = m := by
  obtain ⟨_, _, e, _⟩ := h
  injection e
/-- Acts of the call's own, as the run takes them. -/
theorem ain_own {w : World} {B : Nat} {a : Option Addr} {n c : Nat} {hs : List FaH} (h : NOwn w B 34 5 (.slice a n c) n (hs.map faEl)) (hl : ∀ h ∈ hs, h.s0.n ≤ 1048576 ∧ h.s1.n ≤ 1048576) : AIn w a n (hs.map faZ) (hs.map (·.X)) := by
  have hn : hs.length = n := by have := h.len; simpa using this
  have hin : FaIn w (.slice a n c) n hs := h.reads
  refine ⟨⟨by simpa using hn, fun i hi => ?_⟩, by simp, fun i h1 h2 => ?_, fun i h1 h2 => ?_, fun i h1 h2 => ?_, fun i h1 => ?_⟩
  · have hk : i < hs.length := by simpa using hi
    obtain ⟨b, off, e, _, c0, c1, c2, c3, c4⟩ := FaIn.cells hin hk
    simp only [List.getElem_map, faZ]
    exact ⟨b, off, e, c0, c1, c2, c3, c4⟩
  · simp [faZ]
  · have hk : i < hs.length := by simpa using h1
    have s := (FaIn.sub hin hk).1
    have en := rowC_n s
    simp only [List.getElem_map, faZ]
    refine ⟨en.symm, fun j hj => ?_⟩
    rw [en] at s hj
    obtain ⟨b, off, e, q⟩ := s.at (j := j) (u := .int .u8 (hs[i].X.data[j])) (by simp [hj])
    exact ⟨b, off, e, by rw [q]; simp [List.getD, hj]⟩
  · have hk : i < hs.length := by simpa using h1
    have s := (FaIn.sub hin hk).2
    have en := rowC_n s
    simp only [List.getElem_map, faZ]
    refine ⟨en.symm, fun j hj => ?_⟩
    rw [en] at s hj
    obtain ⟨b, off, e, q⟩ := s.at (j := j) (u := .bool (hs[i].X.keep[j])) (by simp [hj])
    exact ⟨b, off, e, by rw [q]; simp [List.getD, hj]⟩
  · have hk : i < hs.length := by simpa using h1
    have ho := h.dat i 0 _ (show sbAt (hs.map faEl) i 0 = some ⟨5, 1, hs[i].X.data.length, .slice hs[i].s0.a hs[i].s0.n hs[i].s0.c, hs[i].X.data.map (Value.int .u8)⟩ by unfold sbAt; rw [faEl_at hk]; rfl)
    have hm := hl _ (List.getElem_mem hk)
    simp only [List.getElem_map, faZ]
    refine ⟨hm.1, ?_, ?_, hm.2⟩
    · rcases ho.2 with ⟨e, e2⟩ | ⟨g, cap, cur, e, _, _, h1, h2, _⟩
      · injection e with _ e3 e4; omega
      · injection e with _ e3 e4; omega
    · rcases ho.2 with ⟨e, e2⟩ | ⟨g, cap, cur, e, _, _, h1, h2, _⟩
      · injection e with _ e3 e4; unfold maxLen; omega
      · injection e with _ e3 e4; omega
theorem fa_total {w : World} {v : Value} {n : Nat} {hs hs' : List FaH} (h : FaIn w v n hs) (hX : hs'.map (·.X) = hs.map (·.X)) (hs1 : (hs.map faSz).sum + n ≤ 1048576) : kG faCnt 1 hs' ≤ 9999990 := by
  rw [kG_sum]
  have e : hs'.map faCnt = hs.map faCnt := by
    have e1 : ∀ l : List FaH, l.map faCnt = (l.map (·.X)).map (fun X => 3 + X.data.length + X.keep.length) := fun l => by rw [List.map_map]; rfl
    rw [e1, e1, hX]
  rw [e]
  have hl : hs.length = n := by have := h.len; simpa using this
  have h2 := gd_sum_le faCnt faSz 3 hs (fun x hx => by
    obtain ⟨k, hk, rfl⟩ := List.getElem_of_mem hx
    have s := FaIn.sub h hk
    have e0 := rowC_n s.1
    have e1 := rowC_n s.2
    unfold faCnt faSz
    omega)
  omega
theorem fa_lim {w w0 : World} {B : Nat} {v v0 : Value} {n m : Nat} {hs hs' : List FaH} (h : NOwn w B 34 5 v n (hs'.map faEl)) (hX : hs'.map (·.X) = hs.map (·.X)) (h0 : FaIn w0 v0 m hs) (hl : ∀ h ∈ hs, h.s0.n ≤ 1048576 ∧ h.s1.n ≤ 1048576) : ∀ h ∈ hs', h.s0.n ≤ 1048576 ∧ h.s1.n ≤ 1048576 := by
  intro x hx
  obtain ⟨k, hk, rfl⟩ := List.getElem_of_mem hx
  have hk2 : k < hs.length := by have := congrArg List.length hX; simp only [List.length_map] at this; omega
  have s := FaIn.sub (show FaIn w v n hs' from h.reads) hk
  have s2 := FaIn.sub h0 hk2
  have e0 := rowC_n s.1
  have e1 := rowC_n s.2
  have f0 := rowC_n s2.1
  have f1 := rowC_n s2.2
  have ex : hs'[k].X = hs[k].X := by
    have e := congrArg (·[k]?) hX
    simp only [List.getElem?_map, List.getElem?_eq_getElem hk, List.getElem?_eq_getElem hk2, Option.map_some] at e
    injection e
  rw [ex] at e0 e1
  have := hl _ (List.getElem_mem hk2)
  omega
theorem fa_sum_le {hs : List FaH} {n B : Nat} (hn : hs.length ≤ n) (hl : ∀ h ∈ hs, faCnt h ≤ B) : kG faCnt 1 hs ≤ 1 + n * B := by
  rw [kG_sum]
  have : ∀ l : List FaH, (∀ h ∈ l, faCnt h ≤ B) → (l.map faCnt).sum ≤ l.length * B := fun l => by
    induction l with
    | nil => intro _; simp
    | cons x r ih =>
      intro h
      simp only [List.map_cons, List.sum_cons, List.length_cons, Nat.succ_mul]
      have h1 := h x (List.mem_cons_self ..)
      have h2 := ih (fun y hy => h y (List.mem_cons_of_mem _ hy))
      omega
  have h1 := this hs hl
  have h2 := Nat.mul_le_mul_right B hn
  omega
theorem qk_le {ws : List WD} {hs : List WqH} (hX : hs.map (·.X) = ws) (hok : ∀ d ∈ ws, okW d = true) (hl : ws.length ≤ 4096) (k : Nat) : kQ k hs ≤ k + 4096 * 17 := by
  rw [kQ_sum]
  have h16 : ∀ h ∈ hs, h.X.xs.length + 1 ≤ 17 := fun h hh => by
    have hm : h.X ∈ ws := by rw [← hX]; exact List.mem_map_of_mem hh
    obtain ⟨m, s, e, _, hs⟩ := okW_shape (hok _ hm)
    rw [e]
    simp only
    omega
  have : ∀ l : List WqH, (∀ h ∈ l, h.X.xs.length + 1 ≤ 17) → (l.map fun h => h.X.xs.length + 1).sum ≤ l.length * 17 := fun l => by
    induction l with
    | nil => intro _; simp
    | cons x r ih =>
      intro h
      simp only [List.map_cons, List.sum_cons, List.length_cons, Nat.succ_mul]
      have h1 := h x (List.mem_cons_self ..)
      have h2 := ih (fun y hy => h y (List.mem_cons_of_mem _ hy))
      omega
  have h1 := this hs h16
  have h2 : hs.length ≤ 4096 := by rw [← hX, List.length_map] at hl; exact hl
  have h3 := Nat.mul_le_mul_right 17 h2
  omega
theorem qk_lim {ws : List WD} {hs : List WqH} (hX : hs.map (·.X) = ws) (hok : ∀ d ∈ ws, okW d = true) : ∀ h ∈ hs, h.X.xs.length ≤ maxLen := fun h hh => by
  have hm : h.X ∈ ws := by rw [← hX]; exact List.mem_map_of_mem hh
  obtain ⟨m, s, e, _, hs⟩ := okW_shape (hok _ hm)
  rw [e]
  simp only
  unfold maxLen
  omega
set_option maxRecDepth 100000 in
set_option maxHeartbeats 16000000 in
theorem lawFlashRun_any (a : Option Addr) (n c : Nat) (hs : List FaH) (w : World) (h : IsActs w a n c hs) :
    Calls Try.prog 4 #[.slice a n c] w fun e w' => e = .returned (.bool true) ∧ Below w.heap.size w w' := by
  obtain ⟨hI, hn, hl⟩ := h
  have P := hide hI
  have LN := hide (show hs.length = n by have := hI.len; simpa using this)
  obtain ⟨l, hlD⟩ : ∃ l, l = hs.map (·.X) := ⟨_, rfl⟩
  have LD := hide hlD
  have hok := ru_ok l
  have CON := hide (fun W e W' (h : RuRes l W e W') => run_con h)
  obtain ⟨CS, hCS⟩ : ∃ x, x = (ru l).1 := ⟨_, rfl⟩
  obtain ⟨XS, hXS⟩ : ∃ x, x = (ru l).2.1.xs := ⟨_, rfl⟩
  obtain ⟨WS, hWS⟩ : ∃ x, x = (ru l).2.1.ws := ⟨_, rfl⟩
  obtain ⟨C, hC⟩ : ∃ x, x = (ru l).2.2 := ⟨_, rfl⟩
  rw [← hCS, ← hXS, ← hWS, ← hC] at CON
  unfold okF at hok
  rw [← hCS, ← hXS, ← hWS] at hok
  obtain ⟨nC, hnC⟩ : ∃ x, x = CS.length := ⟨_, rfl⟩
  obtain ⟨nH, hnH⟩ : ∃ x, x = XS.length := ⟨_, rfl⟩
  obtain ⟨nW, hnW⟩ : ∃ x, x = WS.length := ⟨_, rfl⟩
  rw [← hnC, ← hnH, ← hnW] at CON
  rw [← hnC, ← hnH, ← hnW] at hok
  have LC := hide hnC.symm
  have LH := hide hnH.symm
  have HOK := hide hok.1.2.2.2
  have HW4 := hide (show WS.length ≤ 4096 by rw [← hnW]; exact hok.1.2.2.1)
  have b1 : nC ≤ 120 := hok.2
  have b2 : nH ≤ 2048 := hok.1.2.1
  have b3 : nW ≤ 4096 := hok.1.2.2.1
  have hCC : (C != C) = false := by simp
  clear hCS hXS hWS hC hnC hnH hnW hok hlD
  have B := Below.refl w.heap.size w
  have HS := hide (szFlashActS_any a n c hs 1048576 w (by omega) (by omega) hI hn hl)
  clear hl
  go_enter Try.func4, Try.ntmps4
  go_wp2_with fail
  refine (unhide HS).mono ?_
  rintro e w_z ⟨q0, rfl, hq, hb⟩
  replace B := B.trans (hb.mono B.size)
  have zz_w_z := hb.size
  clear hb HS
  rcases hq with rfl | ⟨q1, q2, q3, q4⟩
  · go_wp2_with fail
    go_ret
    exact ⟨rfl, B⟩
  have hn2 : n ≤ 1048576 := by omega
  have Q4 := hide q4
  have KX := hide (show ∀ hs', (∀ h ∈ hs', h.s0.n ≤ 1048576 ∧ h.s1.n ≤ 1048576) → hs'.map (·.X) = hs.map (·.X) → kG faCnt 1 hs' ≤ 9999990 from fun hs' _ hX => fa_total hI hX (by omega))
  clear q4 hn hI
  go_wp2_with fail
  refine (toFlashActS_any a n c hs w_z hn2 ((unhide P).below B) (unhide Q4)).mono ?_
  rintro e w_t ⟨hs_t, rfl, oo, mx, hb⟩
  obtain ⟨a_t, ha_t⟩ : ∃ x, x = some (⟨w_z.heap.size, 0, none⟩ : Addr) := ⟨_, rfl⟩
  rw [← ha_t] at oo ⊢
  replace B := B.trans (hb.mono B.size)
  have zz_w_t := hb.size
  clear hb
  have LI_t := hide (show ∀ h ∈ hs_t, h.s0.n ≤ 1048576 ∧ h.s1.n ≤ 1048576 from fa_lim oo mx (unhide P) (unhide Q4))
  have MX_t := hide mx
  have O_t := hide oo
  have M_t := fun i h => (unhide O_t).lt i h
  clear oo mx ha_t
  go_wp2_with fail
  refine (specFlashRun_any a_t n n (hs_t.map faZ) l w_t (by have h := ain_own (unhide O_t) (unhide LI_t); rwa [unhide MX_t, ← unhide LD] at h) hn2).mono ?_
  intro e w_w hcon
  obtain ⟨ac_w, cc_w, ah_w, ch_w, aw_w, cw_w, hs_w, rfl, oo, mm, hb⟩ := unhide CON _ _ _ hcon
  clear hcon
  replace O_t := hide ((unhide O_t).below hb)
  replace B := B.trans (hb.mono B.size)
  have zz_w_w := hb.size
  clear hb
  have MM_w := hide mm
  have O_w := hide oo
  have M_w := fun i h => (unhide O_w).lt i h
  clear oo mm
  have hb : Below w_w.heap.size w_w (w_w.alloc (.cells #[.slice ah_w nH ch_w, .slice aw_w nW cw_w] 28)) := (Below.refl _ _).alloc (Nat.le_refl _) _
  have K_w := hide (heap_alloc_last w_w (.cells #[.slice ah_w nH ch_w, .slice aw_w nW cw_w] 28))
  have sz_w : (w_w.alloc (.cells #[.slice ah_w nH ch_w, .slice aw_w nW cw_w] 28)).heap.size = w_w.heap.size + 1 := by simp
  replace O_t := hide ((unhide O_t).below hb)
  replace O_w := hide ((unhide O_w).below hb)
  replace B := B.trans (hb.mono B.size)
  have zz_b_w := hb.size
  clear hb
  go_wp2_with fail
  generalize w_w.alloc (.cells #[.slice ah_w nH ch_w, .slice aw_w nW cw_w] 28) = b_w at *
  clear O_t M_t
  refine (toFlashActS_any a n c hs b_w hn2 ((unhide P).below B) (unhide Q4)).mono ?_
  rintro e w_x ⟨hs_x, rfl, oo, mx, hb⟩
  obtain ⟨a_x, ha_x⟩ : ∃ x, x = some (⟨b_w.heap.size, 0, none⟩ : Addr) := ⟨_, rfl⟩
  rw [← ha_x] at oo ⊢
  replace O_w := hide ((unhide O_w).below hb)
  replace K_w := hide ((hb.block _ (by omega)).trans (unhide K_w))
  replace B := B.trans (hb.mono B.size)
  have zz_w_x := hb.size
  clear hb
  have LI_x := hide (show ∀ h ∈ hs_x, h.s0.n ≤ 1048576 ∧ h.s1.n ≤ 1048576 from fa_lim oo mx (unhide P) (unhide Q4))
  have MX_x := hide mx
  have O_x := hide oo
  have M_x := fun i h => (unhide O_x).lt i h
  clear oo mx ha_x
  go_wp2_with fail
  refine (implFlashRun_any a_x n n (hs_x.map faZ) l w_x (by have h := ain_own (unhide O_x) (unhide LI_x); rwa [unhide MX_x, ← unhide LD] at h) hn2).mono ?_
  intro e w_g hcon
  obtain ⟨ac_g, cc_g, ah_g, ch_g, aw_g, cw_g, hs_g, rfl, oo, mm, hb⟩ := unhide CON _ _ _ hcon
  clear hcon
  replace O_w := hide ((unhide O_w).below hb)
  replace K_w := hide ((hb.block _ (by omega)).trans (unhide K_w))
  replace O_x := hide ((unhide O_x).below hb)
  replace B := B.trans (hb.mono B.size)
  have zz_w_g := hb.size
  clear hb
  have MM_g := hide mm
  have O_g := hide oo
  have M_g := fun i h => (unhide O_g).lt i h
  clear oo mm
  have hb : Below w_g.heap.size w_g (w_g.alloc (.cells #[.slice ah_g nH ch_g, .slice aw_g nW cw_g] 28)) := (Below.refl _ _).alloc (Nat.le_refl _) _
  have K_g := hide (heap_alloc_last w_g (.cells #[.slice ah_g nH ch_g, .slice aw_g nW cw_g] 28))
  have sz_g : (w_g.alloc (.cells #[.slice ah_g nH ch_g, .slice aw_g nW cw_g] 28)).heap.size = w_g.heap.size + 1 := by simp
  replace O_w := hide ((unhide O_w).below hb)
  replace K_w := hide ((hb.block _ (by omega)).trans (unhide K_w))
  replace O_x := hide ((unhide O_x).below hb)
  replace O_g := hide ((unhide O_g).below hb)
  replace B := B.trans (hb.mono B.size)
  have zz_b_g := hb.size
  clear hb
  go_wp2_with fail
  generalize w_g.alloc (.cells #[.slice ah_g nH ch_g, .slice aw_g nW cw_g] 28) = b_g at *
  refine (eqIntS_C ac_g ac_w nC cc_g cc_w CS b_g (by unfold maxLen; omega) (unhide LC) (by have h := rowC_of_owns (unhide O_g).cod; rwa [unhide LC] at h) (by have h := rowC_of_owns (unhide O_w).cod; rwa [unhide LC] at h)).mono ?_
  rintro e e1 ⟨rfl, hb⟩
  replace O_w := hide ((unhide O_w).below hb)
  replace K_w := hide ((hb.block _ (by omega)).trans (unhide K_w))
  replace O_x := hide ((unhide O_x).below hb)
  replace O_g := hide ((unhide O_g).below hb)
  replace K_g := hide ((hb.block _ (by omega)).trans (unhide K_g))
  replace B := B.trans (hb.mono B.size)
  have zz_e1 := hb.size
  clear hb
  have p0_g := (heap_at (unhide K_g) 0).1
  have p1_g := (heap_at (unhide K_g) 1).1
  have p0_w := (heap_at (unhide K_w) 0).1
  have p1_w := (heap_at (unhide K_w) 1).1
  go_wp2_with fail
  refine (eqFlash_run _ _ ah_g ah_w nH ch_g ch_w aw_g aw_w nW cw_g cw_w XS hs_g hs_w e1 (by unfold maxLen; omega) (by unfold maxLen; omega) (by have h := (unhide O_g).byt.row; rwa [unhide LH] at h) (by have h := (unhide O_w).byt.row; rwa [unhide LH] at h) (unhide O_g).wai (unhide O_w).wai ((unhide MM_g).trans (unhide MM_w).symm) (qk_lim (unhide MM_g) (unhide HOK))).mono ?_
  rintro e e2 ⟨rfl, hb⟩
  clear p0_g p1_g
  clear p0_w p1_w
  replace O_w := hide ((unhide O_w).below hb)
  replace K_w := hide ((hb.block _ (by omega)).trans (unhide K_w))
  replace O_x := hide ((unhide O_x).below hb)
  replace O_g := hide ((unhide O_g).below hb)
  replace K_g := hide ((hb.block _ (by omega)).trans (unhide K_g))
  replace B := B.trans (hb.mono B.size)
  have zz_e2 := hb.size
  clear hb
  go_wp2_with fail
  refine (toFlashActS_any a n c hs e2 hn2 ((unhide P).below B) (unhide Q4)).mono ?_
  rintro e w_s ⟨hs_s, rfl, oo, mx, hb⟩
  obtain ⟨a_s, ha_s⟩ : ∃ x, x = some (⟨e2.heap.size, 0, none⟩ : Addr) := ⟨_, rfl⟩
  rw [← ha_s] at oo ⊢
  replace O_w := hide ((unhide O_w).below hb)
  replace K_w := hide ((hb.block _ (by omega)).trans (unhide K_w))
  replace O_x := hide ((unhide O_x).below hb)
  replace O_g := hide ((unhide O_g).below hb)
  replace K_g := hide ((hb.block _ (by omega)).trans (unhide K_g))
  replace B := B.trans (hb.mono B.size)
  have zz_w_s := hb.size
  clear hb
  have LI_s := hide (show ∀ h ∈ hs_s, h.s0.n ≤ 1048576 ∧ h.s1.n ≤ 1048576 from fa_lim oo mx (unhide P) (unhide Q4))
  have MX_s := hide mx
  have O_s := hide oo
  have M_s := fun i h => (unhide O_s).lt i h
  clear oo mx ha_s
  go_wp2_with fail
  refine (eqFlashActS_any a_x a_s n n n hs_x hs_s w_s hn2 (unhide O_x).reads (unhide O_s).reads ((unhide MX_s).trans (unhide MX_x).symm) (unhide LI_x)).mono ?_
  rintro e e9 ⟨rfl, hb⟩
  replace O_w := hide ((unhide O_w).below hb)
  replace K_w := hide ((hb.block _ (by omega)).trans (unhide K_w))
  replace O_x := hide ((unhide O_x).below hb)
  replace O_g := hide ((unhide O_g).below hb)
  replace K_g := hide ((hb.block _ (by omega)).trans (unhide K_g))
  replace O_s := hide ((unhide O_s).below hb)
  replace B := B.trans (hb.mono B.size)
  have zz_e9 := hb.size
  clear hb
  clear O_s M_s
  have hkx := unhide KX _ (unhide LI_x) (unhide MX_x)
  go_wp2_with fail
  refine (markFlashActS_any _ a_x n n 1 hs_x e9 (by omega) hkx (unhide O_x)).mono ?_
  rintro e wn ⟨rfl, oo, hw⟩
  clear oo
  replace O_w := hide ((unhide O_w).wr hw (fun i hi hp => by have h1 := M_w i hi; have h2 := M_x i hp; omega))
  replace K_w := hide ((hw.block _ (by omega) (fun hp => by have h2 := M_x _ hp; omega)).trans (unhide K_w))
  replace O_g := hide ((unhide O_g).wr hw (fun i hi hp => by have h1 := M_g i hi; have h2 := M_x i hp; omega))
  replace K_g := hide ((hw.block _ (by omega) (fun hp => by have h2 := M_x _ hp; omega)).trans (unhide K_g))
  replace B := B.trans (hw.below (fun i hp => by have := M_x i hp; omega) B.size)
  have zz_wn := hw.size
  clear hw
  clear O_x M_x
  have hk0 : ¬ (((kG faCnt 1 hs_x : Nat) : Int) < 0) := by omega
  generalize kG faCnt 1 hs_x = km at *
  go_wp2_with fail
  refine (eqIntS_C ac_g ac_w nC cc_g cc_w CS wn (by unfold maxLen; omega) (unhide LC) (by have h := rowC_of_owns (unhide O_g).cod; rwa [unhide LC] at h) (by have h := rowC_of_owns (unhide O_w).cod; rwa [unhide LC] at h)).mono ?_
  rintro e e3 ⟨rfl, hb⟩
  replace O_w := hide ((unhide O_w).below hb)
  replace K_w := hide ((hb.block _ (by omega)).trans (unhide K_w))
  replace O_g := hide ((unhide O_g).below hb)
  replace K_g := hide ((hb.block _ (by omega)).trans (unhide K_g))
  replace B := B.trans (hb.mono B.size)
  have zz_e3 := hb.size
  clear hb
  have p0_g := (heap_at (unhide K_g) 0).1
  have p1_g := (heap_at (unhide K_g) 1).1
  have p0_w := (heap_at (unhide K_w) 0).1
  have p1_w := (heap_at (unhide K_w) 1).1
  go_wp2_with fail
  refine (eqFlash_run _ _ ah_g ah_w nH ch_g ch_w aw_g aw_w nW cw_g cw_w XS hs_g hs_w e3 (by unfold maxLen; omega) (by unfold maxLen; omega) (by have h := (unhide O_g).byt.row; rwa [unhide LH] at h) (by have h := (unhide O_w).byt.row; rwa [unhide LH] at h) (unhide O_g).wai (unhide O_w).wai ((unhide MM_g).trans (unhide MM_w).symm) (qk_lim (unhide MM_g) (unhide HOK))).mono ?_
  rintro e e4 ⟨rfl, hb⟩
  clear p0_g p1_g
  clear p0_w p1_w
  replace O_w := hide ((unhide O_w).below hb)
  replace K_w := hide ((hb.block _ (by omega)).trans (unhide K_w))
  replace O_g := hide ((unhide O_g).below hb)
  replace K_g := hide ((hb.block _ (by omega)).trans (unhide K_g))
  replace B := B.trans (hb.mono B.size)
  have zz_e4 := hb.size
  clear hb
  have hkg := qk_le (unhide MM_g) (unhide HOK) (unhide HW4) (1 + nC + nH)
  go_wp2_with fail
  refine (markIntS_own _ ac_g nC cc_g 1 CS e4 (by omega) (unhide LC) (by have h := (unhide O_g).cod; unfold NOwns at h; rwa [unhide LC] at h)).mono ?_
  rintro e wm ⟨rfl, oo, hw⟩
  have G2 := hide ((unhide O_g).mark1 (cs' := in_Mks 1 nC) (by unfold NOwns; rw [in_Mks_len]; exact oo) hw)
  have KG := fun i (hp : (Value.slice ac_g nC cc_g).ownBlock = some i) => M_g i (.inl hp)
  clear oo
  replace O_w := hide ((unhide O_w).wr hw (fun i hi hp => by have h1 := M_w i hi; have h2 := KG i hp; omega))
  replace K_w := hide ((hw.block _ (by omega) (fun hp => by have h2 := KG _ hp; omega)).trans (unhide K_w))
  replace K_g := hide ((hw.block _ (by omega) (fun hp => by have h2 := KG _ hp; omega)).trans (unhide K_g))
  replace B := B.trans (hw.below (fun i hp => by have := KG i hp; omega) B.size)
  have zz_wm := hw.size
  clear hw
  clear KG O_g
  have O_g := G2
  clear G2
  have lc2 : (in_Mks 1 nC).length = nC := in_Mks_len _ _
  have p0_g := (heap_at (unhide K_g) 0).1
  have p1_g := (heap_at (unhide K_g) 1).1
  go_wp2_with fail
  clear p0_g p1_g
  refine (markFlash_run _ ah_g nH ch_g aw_g nW cw_g (1 + nC) XS hs_g wm (by omega) (by omega) (by have h := (unhide O_g).byt; rwa [unhide LH] at h) (unhide O_g).wai (unhide O_g).d3).mono ?_
  rintro e wp ⟨rfl, oo, oq, hw⟩
  have G2 := hide ((unhide O_g).mark2 (xs' := marks ((1 + nC : Nat) : Int) nH) (k := 1 + nC + nH) (by rw [marks_length]; exact oo) oq hw)
  have KG := fun i (hp : FBl ah_g (.slice aw_g nW cw_g) hs_g i) => M_g i (.inr hp)
  clear oo oq
  replace O_w := hide ((unhide O_w).wr hw (fun i hi hp => by have h1 := M_w i hi; have h2 := KG i hp; omega))
  replace K_w := hide ((hw.block _ (by omega) (fun hp => by have h2 := KG _ hp; omega)).trans (unhide K_w))
  replace K_g := hide ((hw.block _ (by omega) (fun hp => by have h2 := KG _ hp; omega)).trans (unhide K_g))
  replace B := B.trans (hw.below (fun i hp => by have := KG i hp; omega) B.size)
  have zz_wp := hw.size
  clear hw
  clear KG O_g M_g
  have O_g := G2
  have M_g := fun i h => (unhide O_g).lt i h
  clear G2
  obtain ⟨kq, hkq⟩ : ∃ kq, kq = kQ (1 + nC + nH) hs_g := ⟨_, rfl⟩
  rw [← hkq] at hkg ⊢
  have HKQ := hide hkq
  clear hkq
  have hm0 : ¬ ((kq : Int) < 0) := by omega
  have hmm : ((kq : Int) != (kq : Int)) = false := by simp
  have hm1 : ¬ (((1 + nC : Nat) : Int) < 0) := by omega
  go_wp2_with fail
  refine (heldIntS_C ac_g nC cc_g 1 wp (by omega) (by have h := rowC_of_owns (unhide O_g).cod; rwa [lc2] at h)).mono ?_
  rintro e e5 ⟨rfl, hb⟩
  replace O_w := hide ((unhide O_w).below hb)
  replace K_w := hide ((hb.block _ (by omega)).trans (unhide K_w))
  replace K_g := hide ((hb.block _ (by omega)).trans (unhide K_g))
  replace O_g := hide ((unhide O_g).below hb)
  replace B := B.trans (hb.mono B.size)
  have zz_e5 := hb.size
  clear hb
  have p0_g := (heap_at (unhide K_g) 0).1
  have p1_g := (heap_at (unhide K_g) 1).1
  go_wp2_with fail
  clear p0_g p1_g
  refine (heldFlash_run _ ah_g nH ch_g aw_g nW cw_g (1 + nC) hs_g e5 (by omega) (by rw [← unhide HKQ]; omega) (by have h := (unhide O_g).byt.row; rwa [marks_length] at h) (unhide O_g).wai).mono ?_
  rw [← unhide HKQ]
  rintro e e6 ⟨rfl, hb⟩
  replace O_w := hide ((unhide O_w).below hb)
  replace K_w := hide ((hb.block _ (by omega)).trans (unhide K_w))
  replace K_g := hide ((hb.block _ (by omega)).trans (unhide K_g))
  replace O_g := hide ((unhide O_g).below hb)
  replace B := B.trans (hb.mono B.size)
  have zz_e6 := hb.size
  clear hb
  go_wp2_with fail
  refine (toFlashActS_any a n c hs e6 hn2 ((unhide P).below B) (unhide Q4)).mono ?_
  rintro e w_y ⟨hs_y, rfl, oo, mx, hb⟩
  obtain ⟨a_y, ha_y⟩ : ∃ x, x = some (⟨e6.heap.size, 0, none⟩ : Addr) := ⟨_, rfl⟩
  rw [← ha_y] at oo ⊢
  replace O_w := hide ((unhide O_w).below hb)
  replace K_w := hide ((hb.block _ (by omega)).trans (unhide K_w))
  replace K_g := hide ((hb.block _ (by omega)).trans (unhide K_g))
  replace O_g := hide ((unhide O_g).below hb)
  replace B := B.trans (hb.mono B.size)
  have zz_w_y := hb.size
  clear hb
  have LI_y := hide (show ∀ h ∈ hs_y, h.s0.n ≤ 1048576 ∧ h.s1.n ≤ 1048576 from fa_lim oo mx (unhide P) (unhide Q4))
  have MX_y := hide mx
  have O_y := hide oo
  have M_y := fun i h => (unhide O_y).lt i h
  clear oo mx ha_y
  go_wp2_with fail
  refine (implFlashRun_any a_y n n (hs_y.map faZ) l w_y (by have h := ain_own (unhide O_y) (unhide LI_y); rwa [unhide MX_y, ← unhide LD] at h) hn2).mono ?_
  intro e w_h hcon
  obtain ⟨ac_h, cc_h, ah_h, ch_h, aw_h, cw_h, hs_h, rfl, oo, mm, hb⟩ := unhide CON _ _ _ hcon
  clear hcon
  replace O_w := hide ((unhide O_w).below hb)
  replace K_w := hide ((hb.block _ (by omega)).trans (unhide K_w))
  replace K_g := hide ((hb.block _ (by omega)).trans (unhide K_g))
  replace O_g := hide ((unhide O_g).below hb)
  replace O_y := hide ((unhide O_y).below hb)
  replace B := B.trans (hb.mono B.size)
  have zz_w_h := hb.size
  clear hb
  have MM_h := hide mm
  have O_h := hide oo
  have M_h := fun i h => (unhide O_h).lt i h
  clear oo mm
  have hb : Below w_h.heap.size w_h (w_h.alloc (.cells #[.slice ah_h nH ch_h, .slice aw_h nW cw_h] 28)) := (Below.refl _ _).alloc (Nat.le_refl _) _
  have K_h := hide (heap_alloc_last w_h (.cells #[.slice ah_h nH ch_h, .slice aw_h nW cw_h] 28))
  have sz_h : (w_h.alloc (.cells #[.slice ah_h nH ch_h, .slice aw_h nW cw_h] 28)).heap.size = w_h.heap.size + 1 := by simp
  replace O_w := hide ((unhide O_w).below hb)
  replace K_w := hide ((hb.block _ (by omega)).trans (unhide K_w))
  replace K_g := hide ((hb.block _ (by omega)).trans (unhide K_g))
  replace O_g := hide ((unhide O_g).below hb)
  replace O_y := hide ((unhide O_y).below hb)
  replace O_h := hide ((unhide O_h).below hb)
  replace B := B.trans (hb.mono B.size)
  have zz_b_h := hb.size
  clear hb
  go_wp2_with fail
  generalize w_h.alloc (.cells #[.slice ah_h nH ch_h, .slice aw_h nW cw_h] 28) = b_h at *
  clear O_y M_y
  refine (eqIntS_C ac_h ac_w nC cc_h cc_w CS b_h (by unfold maxLen; omega) (unhide LC) (by have h := rowC_of_owns (unhide O_h).cod; rwa [unhide LC] at h) (by have h := rowC_of_owns (unhide O_w).cod; rwa [unhide LC] at h)).mono ?_
  rintro e e7 ⟨rfl, hb⟩
  replace O_w := hide ((unhide O_w).below hb)
  replace K_w := hide ((hb.block _ (by omega)).trans (unhide K_w))
  replace K_g := hide ((hb.block _ (by omega)).trans (unhide K_g))
  replace O_g := hide ((unhide O_g).below hb)
  replace O_h := hide ((unhide O_h).below hb)
  replace K_h := hide ((hb.block _ (by omega)).trans (unhide K_h))
  replace B := B.trans (hb.mono B.size)
  have zz_e7 := hb.size
  clear hb
  have p0_h := (heap_at (unhide K_h) 0).1
  have p1_h := (heap_at (unhide K_h) 1).1
  have p0_w := (heap_at (unhide K_w) 0).1
  have p1_w := (heap_at (unhide K_w) 1).1
  go_wp2_with fail
  refine (eqFlash_run _ _ ah_h ah_w nH ch_h ch_w aw_h aw_w nW cw_h cw_w XS hs_h hs_w e7 (by unfold maxLen; omega) (by unfold maxLen; omega) (by have h := (unhide O_h).byt.row; rwa [unhide LH] at h) (by have h := (unhide O_w).byt.row; rwa [unhide LH] at h) (unhide O_h).wai (unhide O_w).wai ((unhide MM_h).trans (unhide MM_w).symm) (qk_lim (unhide MM_h) (unhide HOK))).mono ?_
  rintro e e8 ⟨rfl, hb⟩
  clear p0_h p1_h
  clear p0_w p1_w
  replace O_w := hide ((unhide O_w).below hb)
  replace K_w := hide ((hb.block _ (by omega)).trans (unhide K_w))
  replace K_g := hide ((hb.block _ (by omega)).trans (unhide K_g))
  replace O_g := hide ((unhide O_g).below hb)
  replace O_h := hide ((unhide O_h).below hb)
  replace K_h := hide ((hb.block _ (by omega)).trans (unhide K_h))
  replace B := B.trans (hb.mono B.size)
  have zz_e8 := hb.size
  clear hb
  go_wp2_with fail
  refine (heldIntS_C ac_g nC cc_g 1 e8 (by omega) (by have h := rowC_of_owns (unhide O_g).cod; rwa [lc2] at h)).mono ?_
  rintro e e9 ⟨rfl, hb⟩
  replace O_w := hide ((unhide O_w).below hb)
  replace K_w := hide ((hb.block _ (by omega)).trans (unhide K_w))
  replace K_g := hide ((hb.block _ (by omega)).trans (unhide K_g))
  replace O_g := hide ((unhide O_g).below hb)
  replace O_h := hide ((unhide O_h).below hb)
  replace K_h := hide ((hb.block _ (by omega)).trans (unhide K_h))
  replace B := B.trans (hb.mono B.size)
  have zz_e9 := hb.size
  clear hb
  have p0_g := (heap_at (unhide K_g) 0).1
  have p1_g := (heap_at (unhide K_g) 1).1
  go_wp2_with fail
  clear p0_g p1_g
  refine (heldFlash_run _ ah_g nH ch_g aw_g nW cw_g (1 + nC) hs_g e9 (by omega) (by rw [← unhide HKQ]; omega) (by have h := (unhide O_g).byt.row; rwa [marks_length] at h) (unhide O_g).wai).mono ?_
  rw [← unhide HKQ]
  rintro e e10 ⟨rfl, hb⟩
  replace O_w := hide ((unhide O_w).below hb)
  replace K_w := hide ((hb.block _ (by omega)).trans (unhide K_w))
  replace K_g := hide ((hb.block _ (by omega)).trans (unhide K_g))
  replace O_g := hide ((unhide O_g).below hb)
  replace O_h := hide ((unhide O_h).below hb)
  replace K_h := hide ((hb.block _ (by omega)).trans (unhide K_h))
  replace B := B.trans (hb.mono B.size)
  have zz_e10 := hb.size
  clear hb
  go_wp2_with fail
  go_ret
  exact ⟨rfl, B⟩
end Go.Proofs.Ytjhmammoakiknaa

namespace Go.Proofs.Ytjhmammoakiknaa

theorem actD_same {f : FD} {x : ActD} (h : (actD f x).2 ≠ 0) : (actD f x).1 = f := by
  unfold actD at h ⊢
  repeat' split
  all_goals first | rfl | (exfalso; simp_all)
theorem codes_at (l : List ActD) (k : Nat) (hk : k < l.length) : (runD l).2[k]? = some (actD (runD (l.take k)).1 l[k]).2 := by
  have key : ∀ m, k < m → m ≤ l.length → (runD (l.take m)).2[k]? = some (actD (runD (l.take k)).1 l[k]).2 := fun m => by
    induction m with
    | zero => intro h; omega
    | succ m ih =>
      intro h1 h2
      rw [runD_take l m (by omega)]
      have hl : (runD (l.take m)).2.length = m := by rw [runD_codes, List.length_take]; omega
      by_cases e : k < m
      · rw [List.getElem?_append_left (by rw [hl]; exact e)]
        exact ih e (by omega)
      · obtain rfl : k = m := by omega
        rw [List.getElem?_append_right (by rw [hl]; exact Nat.le_refl _), hl, Nat.sub_self]
        rfl
  have := key l.length hk (Nat.le_refl _)
  rwa [List.take_length] at this
/-- A sync and a crash behind acts: what was read is held. -/
theorem run_end (l : List ActD) (ks : List Bool) (t : Int) (h0 : 0 ≤ t) (h1 : t ≤ 16) : (runD (l ++ [⟨2, 0, 0, [], []⟩, ⟨3, 0, t, [], ks⟩])).1 = ⟨readD (runD l).1.xs (runD l).1.ws, []⟩ := by
  rw [show l ++ [⟨2, 0, 0, [], []⟩, ⟨3, 0, t, [], ks⟩] = (l ++ [⟨2, 0, 0, [], []⟩]) ++ [⟨3, 0, t, [], ks⟩] by simp]
  have e1 : (runD (l ++ [(⟨2, 0, 0, [], []⟩ : ActD)])).1 = ⟨readD (runD l).1.xs (runD l).1.ws, []⟩ := by rw [runD_snoc, actD_2 rfl]
  rw [runD_snoc, e1, actD_3 rfl]
  simp only
  rw [if_pos ⟨h0, h1⟩]
  have e : ∀ (b : List Int) (n : Nat), crashD b [] ks n = b := fun b n => by
    unfold crashD
    have : keptD [] ks = [] := by cases ks <;> rfl
    rw [this, crB_nil]
  rw [e]
end Go.Proofs.Ytjhmammoakiknaa

namespace Go.Proofs.Ytjhmammoakiknaa
open Go.RowKit Go.Maps

/-- The rows of an act. -/
structure HRow (w : World) (h : FaH) : Prop where
  dat : Row w h.s0.a h.s0.n h.X.data
  kep : BRow w h.s1.a h.s1.n h.X.keep
  l0 : h.s0.n ≤ 1048576
  l1 : h.s0.n ≤ h.s0.c
  l2 : h.s0.c ≤ maxLen
  l3 : h.s1.n ≤ 1048576
theorem HRow.below {w w' : World} {h : FaH} (r : HRow w h) (hb : Below w.heap.size w w') : HRow w' h := ⟨row_grow r.dat hb, r.kep.grow hb, r.l0, r.l1, r.l2, r.l3⟩
theorem ain_rows {w : World} {a : Option Addr} {n : Nat} {zs : List FaH} (hz : ZRow w a n (zs.map faZ)) (hr : ∀ h ∈ zs, HRow w h) : AIn w a n (zs.map faZ) (zs.map (·.X)) := by
  refine ⟨hz, by simp, fun i h1 h2 => by simp [faZ], fun i h1 h2 => ?_, fun i h1 h2 => ?_, fun i h1 => ?_⟩
  · have hk : i < zs.length := by simpa using h1
    simpa [faZ] using (hr _ (List.getElem_mem hk)).dat
  · have hk : i < zs.length := by simpa using h1
    simpa [faZ] using (hr _ (List.getElem_mem hk)).kep
  · have hk : i < zs.length := by simpa using h1
    have r := hr _ (List.getElem_mem hk)
    simp only [List.getElem_map, faZ]
    exact ⟨r.l0, r.l1, r.l2, r.l3⟩
theorem hrow_own {w : World} {B : Nat} {a : Option Addr} {n c : Nat} {hs : List FaH} (h : NOwn w B 34 5 (.slice a n c) n (hs.map faEl)) (hl : ∀ h ∈ hs, h.s0.n ≤ 1048576 ∧ h.s1.n ≤ 1048576) : ∀ h ∈ hs, HRow w h := by
  intro x hx
  obtain ⟨i, hi, rfl⟩ := List.getElem_of_mem hx
  have A := ain_own h hl
  have h1 := A.dat i (by simpa using hi) (by simpa using hi)
  have h2 := A.kep i (by simpa using hi) (by simpa using hi)
  have h3 := A.lim i (by simpa using hi)
  simp only [List.getElem_map, faZ] at h1 h2 h3
  exact ⟨h1, h2, h3.1, h3.2.1, h3.2.2.1, h3.2.2.2⟩
theorem z_apps {w : World} {B : Nat} {v : Value} {ds es : List ZaR} (ho : ZOwns w B v ds) (a : Addr) (c : Nat) (hcells : ∀ j u, (zcs es)[j]? = some u → w.cell? (a.add j) = some u) (hn : ds.length + es.length ≤ 900000) (hB : B ≤ w.heap.size) (hv : v = .slice none 0 0 → 0 < es.length) :
    ∃ v' w', (Builtin.append_ #[23, 23] 23 #[v, .slice (some a) es.length c]).run Try.prog w = .ok v' w' ∧ ZOwns w' B v' (ds ++ es) ∧ w.grownBy w' v.ownBlock ∧ ∃ g m c, v' = .slice (some ⟨g, 0, none⟩) m c := by
  obtain ⟨i0, hi0, hz0, hz1, hz2⟩ := info_parts Try.infoFa
  obtain ⟨v', w', hrun, ho', hg, hn', _⟩ := app_at (P := Try.prog) (w := w) (B := B) 23 23 34 Try.underlying23 hi0 hz0 hz1 hz2 rfl (by decide) ho a es.length c (zcs es) (zcs_len es) hcells (zcs_one es) (by unfold maxLen; omega) (by omega) hB hv
  refine ⟨v', w', hrun, ?_, hg, ?_⟩
  · unfold ZOwns
    rw [zcs_append, List.length_append]
    exact ho'
  · rcases ho'.2 with ⟨e, _⟩ | ⟨g9, cap9, _, e, _⟩
    · exact absurd e hn'
    · exact ⟨_, _, _, e⟩
theorem z_slice {w : World} {B g n c : Nat} {ds : List ZaR} (h : ZOwns w B (.slice (some ⟨g, 0, none⟩) n c) ds) : n = ds.length := (zrow_of_owns h).1.symm
theorem z_cells {w : World} {a : Option Addr} {n : Nat} {ds : List ZaR} (h : ZRow w a n ds) {b off : Nat} (ha : a = some ⟨b, off, none⟩) : ∀ j u, (zcs ds)[j]? = some u → w.cell? ((⟨b, off, none⟩ : Addr).add j) = some u := by
  intro j u hu
  have hj : j < ds.length * 5 := by rw [← zcs_len]; exact (List.getElem?_eq_some_iff.1 hu).1
  have hi : j / 5 < ds.length := by omega
  obtain ⟨b', off', e, c0, c1, c2, c3, c4⟩ := h.2 (j / 5) hi
  rw [ha] at e
  cases e
  have e2 : (⟨b, off, none⟩ : Addr).add j = ⟨b, off + j, none⟩ := by unfold Addr.add; split <;> simp_all
  have hat := zcs_at ds (j / 5) hi
  have hr : j % 5 < 5 := by omega
  have hj2 : j = j / 5 * 5 + j % 5 := by omega
  rw [e2]
  generalize j % 5 = r at *
  generalize j / 5 = k at *
  subst hj2
  obtain ⟨a0, a1, a2, a3, a4⟩ := hat
  match r, hr with
  | 0, _ => rw [Nat.add_zero] at hu ⊢; rw [a0] at hu; rw [← hu]; exact c0
  | 1, _ => rw [a1] at hu; rw [← hu, ← Nat.add_assoc]; exact c1
  | 2, _ => rw [a2] at hu; rw [← hu, ← Nat.add_assoc]; exact c2
  | 3, _ => rw [a3] at hu; rw [← hu, ← Nat.add_assoc]; exact c3
  | 4, _ => rw [a4] at hu; rw [← hu, ← Nat.add_assoc]; exact c4
end Go.Proofs.Ytjhmammoakiknaa

namespace Go.Proofs.Ytjhmammoakiknaa
open Go.RowKit

theorem sbAt_snoc {es : List El} {e : El} {i a : Nat} {x : Sb} (h : sbAt (es ++ [e]) i a = some x) : (i < es.length ∧ sbAt es i a = some x) ∨ (i = es.length ∧ e.sb[a]? = some x) := by
  unfold sbAt at h
  by_cases hi : i < es.length
  · rw [List.getElem?_append_left hi] at h
    exact .inl ⟨hi, h⟩
  · by_cases he : i = es.length
    · subst he
      rw [List.getElem?_append_right (Nat.le_refl _), Nat.sub_self] at h
      exact .inr ⟨rfl, h⟩
    · rw [List.getElem?_append_right (by omega), List.getElem?_eq_none (by simp; omega)] at h
      cases h
/-- A record appended: its rows lie apart. -/
theorem NOwn.app {w : World} {B T S n C : Nat} {v : Value} {es : List El} {e : El} (ty : TypeId) {i0 : TypeInfo} {z : Value} {by_ : Nat} (hu : Try.prog.underlying ty = some (.slice T)) (hi0 : Try.prog.info? T = some i0) (hz0 : i0.zero = some z) (hz1 : i0.size = S) (hz2 : i0.bytes = by_) (hzs : z.cells.size = S) (hS : 0 < S) (hby : by_ ≤ 1000)
    (ho : NOwn w B T S v n es) (hw : e.hd.length = S) (h1 : ∀ u ∈ e.hd, u.oneCell' = true) (hd : ∀ x ∈ e.sb, w.ownsRow C x.t x.s x.v x.n x.cs) (hC : ∀ i, NBl v es i → i < C) (hBC : B ≤ C)
    (hf : ∀ (a b : Nat) (x y : Sb), e.sb[a]? = some x → e.sb[b]? = some y → a ≠ b → ∀ g, x.v.ownBlock = some g → y.v.ownBlock ≠ some g) (hz : n ≤ 900000) (hB : B ≤ w.heap.size) :
    ∃ v' w', (Builtin.append_ #[ty, ty] ty #[v, .slice (some ⟨w.heap.size, 0, none⟩) 1 1]).run Try.prog (w.alloc (.cells e.hd.toArray T)) = .ok v' w' ∧ NOwn w' B T S v' (n + 1) (es ++ [e]) ∧ (w.alloc (.cells e.hd.toArray T)).grownBy w' v.ownBlock ∧ v' ≠ .slice none 0 0 := by
  obtain ⟨W, hW⟩ : ∃ W, W = w.alloc (.cells e.hd.toArray T) := ⟨_, rfl⟩
  have bA : Below w.heap.size w W := by rw [hW]; exact (Below.refl _ _).alloc (Nat.le_refl _) _
  have zW : W.heap.size = w.heap.size + 1 := by rw [hW]; simp
  have hcells : ∀ j u, e.hd[j]? = some u → W.cell? ((⟨w.heap.size, 0, none⟩ : Addr).add j) = some u := fun j u hu => by
    have e2 : (⟨w.heap.size, 0, none⟩ : Addr).add j = ⟨w.heap.size, j, none⟩ := by unfold Addr.add; split <;> simp_all
    rw [e2, hW]
    exact rb_cell_new rfl (by simpa using hu)
  have hoa := ho.below bA
  rw [← hW]
  have hbb : (n + 1) * by_ ≤ 900001 * 1000 := Nat.mul_le_mul (by omega) hby
  obtain ⟨v', w', hrun, ho', hg, hn, hloc⟩ := app_at (P := Try.prog) (w := W) (B := B) ty ty T hu hi0 hz0 hz1 hz2 hzs hS hoa.row ⟨w.heap.size, 0, none⟩ 1 1 e.hd (by rw [hw]; omega) hcells h1 (by unfold maxLen; omega) (by omega) (by omega) (fun _ => by omega)
  have hwr := WrB.of_grown hg
  have up : ∀ (k b : Nat) (y : Sb), sbAt es k b = some y → ∀ g, y.v.ownBlock = some g → g < C := fun k b y hy g hg => hC g (.inr ⟨k, b, y, hy, hg⟩)
  have lo : ∀ (b : Nat) (y : Sb), e.sb[b]? = some y → ∀ g, y.v.ownBlock = some g → C ≤ g ∧ g < w.heap.size := fun b y hy g hg => (hd y (List.mem_of_getElem? hy)).lt g hg
  refine ⟨v', w', hrun, ⟨?_, by rw [List.length_append, ho.len]; rfl, fun y hy => ?_, fun k b y hy => ?_, fun k l b d y z hy hz hne => ?_, fun k b y hy g h1 h2 => ?_⟩, hg, hn⟩
  · rw [List.flatMap_append, List.flatMap_cons, List.flatMap_nil, List.append_nil]
    exact ho'
  · rcases List.mem_append.1 hy with hy | hy
    · exact ho.wid y hy
    · rw [List.mem_singleton.1 hy]; exact hw
  · rcases sbAt_snoc hy with ⟨_, hy⟩ | ⟨_, hy⟩
    · exact rr_owns_wr (hoa.dat k b y hy) hwr (fun q hq e => hoa.off k b y hy q e hq)
    · exact gd_base (rr_owns_wr (rb_ownsRow_below (hd y (List.mem_of_getElem? hy)) bA) hwr (fun q hq e => by have := (lo b y hy q hq).1; have := hC q (.inl e); omega)) hBC
  · rcases sbAt_snoc hy with ⟨hk, hy⟩ | ⟨hk, hy⟩
    · rcases sbAt_snoc hz with ⟨hl, hz⟩ | ⟨hl, hz⟩
      · exact ho.far k l b d y z hy hz hne
      · exact fun g h1 h2 => by have := up k b y hy g h1; have := (lo d z hz g h2).1; omega
    · rcases sbAt_snoc hz with ⟨hl, hz⟩ | ⟨hl, hz⟩
      · exact fun g h1 h2 => by have := (lo b y hy g h1).1; have := up l d z hz g h2; omega
      · exact hf b d y z hy hz (by rcases hne with h | h; exact absurd (hk.trans hl.symm) h; exact h)
  · rcases sbAt_snoc hy with ⟨_, hy⟩ | ⟨_, hy⟩
    · rcases hloc with e | e
      · exact ho.off k b y hy g (by rw [← e]; exact h1) h2
      · rw [e] at h1
        injection h1 with h1
        have := ((ho.dat k b y hy).lt g h2).2
        omega
    · rcases hloc with e | e
      · have := hC g (.inl (by rw [← e]; exact h1))
        have := (lo b y hy g h2).1
        omega
      · rw [e] at h1
        injection h1 with h1
        have := (lo b y hy g h2).2
        omega
end Go.Proofs.Ytjhmammoakiknaa

namespace Go.Proofs.Ytjhmammoakiknaa
open Go.RowKit

/-- A source at block p over the bytes xs of a slice; at most K bytes have been taken. -/
structure Src (w : World) (p : Nat) (a : Option Addr) (n c : Nat) (xs : List Int) (K : Int) : Prop where
  code : w.cell? ⟨p, 0, none⟩ = some (.slice a n c)
  place : ∃ t : Int, w.cell? ⟨p, 1, none⟩ = some (.int .i64 t) ∧ 0 ≤ t ∧ t ≤ K
  seed : ∃ s : Int, w.cell? ⟨p, 2, none⟩ = some (.int .i64 s) ∧ 0 ≤ s ∧ s < 2147483648
  free : ∀ j, w.frozen? ⟨p, j, none⟩ = false
  row : Row w a n xs
  bytes : ∀ i, i < n → 0 ≤ xs.getD i 0 ∧ xs.getD i 0 ≤ 255
  apart : ∀ x, a = some x → 0 < n → x.block ≠ p
  bound : n ≤ 1048576

theorem Only.drewN {p k : Nat} {w w1 : World} (h : Only p w w1) : Only p w (w1.drewN k) := ⟨h.os, h.tape, h.output, h.size, h.block, h.frozen⟩

theorem Only.drew {p : Nat} {w w1 : World} (h : Only p w w1) : Only p w w1.drew := ⟨h.os, h.tape, h.output, h.size, h.block, h.frozen⟩
theorem src_step {w w' : World} {p : Nat} {a : Option Addr} {n c : Nat} {xs : List Int} {K t s : Int} (ho : Only p w w') (h0 : w'.cell? ⟨p, 0, none⟩ = some (.slice a n c)) (h1 : w'.cell? ⟨p, 1, none⟩ = some (.int .i64 t))
    (h2 : w'.cell? ⟨p, 2, none⟩ = some (.int .i64 s)) (ht : 0 ≤ t) (htK : t ≤ K) (hs : 0 ≤ s) (hs1 : s < 2147483648) (hf : ∀ j, w.frozen? ⟨p, j, none⟩ = false) (hr : Row w a n xs)
    (hb : ∀ i, i < n → 0 ≤ xs.getD i 0 ∧ xs.getD i 0 ≤ 255) (ha : ∀ x, a = some x → 0 < n → x.block ≠ p) (hn : n ≤ 1048576) : Src w' p a n c xs K := by
  refine ⟨h0, ⟨t, h1, ht, htK⟩, ⟨s, h2, hs, hs1⟩, fun j => (ho.frozen _).trans (hf j), ?_, hb, ha, hn⟩
  by_cases hp : 0 < n
  · exact hr.of_cells fun x hx q hq => ho.cell (by rw [hq]; exact ha x hx hp)
  · exact ⟨hr.1, fun i hi => absurd hi (by omega)⟩

set_option maxHeartbeats 1000000 in
theorem byte_any (p : Nat) (a : Option Addr) (n c : Nat) (xs : List Int) (K : Int) (w : World) (h : Src w p a n c xs K) (hK : K ≤ 1000000) :
    Calls Try.prog 67 #[.pointer (some ⟨p, 0, none⟩)] w fun e w' => ∃ r : Int, e = .returned (.int .i64 r) ∧ 0 ≤ r ∧ r ≤ 255 ∧ Only p w w' ∧ Src w' p a n c xs (K + 1) := by
  obtain ⟨hc, ⟨t, ht, ht0, htK⟩, ⟨s, hs, hs0, hs1⟩, hf, hr, hby, hap, hbd⟩ := h
  have f1 := hf 1
  have f2 := hf 2
  have R := hide hr
  have BY := hide hby
  have AP := hide hap
  have HF := hide hf
  clear hf hr hby hap
  by_cases hlt : t + 1 ≤ (n : Int)
  · obtain ⟨k, rfl⟩ := Int.eq_ofNat_of_zero_le ht0
    obtain ⟨b, off, rfl, e1⟩ := (unhide R).2 k (by omega)
    obtain ⟨x0, x1⟩ := unhide BY k (by omega)
    generalize hx : xs.getD k 0 = x at *
    have hne : ¬ b = p := unhide AP _ rfl (by omega)
    clear hx
    go_enter Try.func67, Try.ntmps67
    go_wp2_with fail
    go_quiet (fail)
    go_wp2_with fail
    have d0 : ((w.setCell ⟨p, 1, none⟩ (.int .i64 ((k : Int) + 1))).drewN nq).cell? ⟨p, 0, none⟩ = some (.slice (some ⟨b, off, none⟩) n c) := (World.cell?_setCell_other _ _ _ _ (by intro h; simp at h)).trans hc
    have d1 : ((w.setCell ⟨p, 1, none⟩ (.int .i64 ((k : Int) + 1))).drewN nq).cell? ⟨p, 1, none⟩ = some (.int .i64 ((k : Int) + 1)) := World.cell?_setCell_same _ _ _ ht
    have d2 : ((w.setCell ⟨p, 1, none⟩ (.int .i64 ((k : Int) + 1))).drewN nq).cell? ⟨p, 2, none⟩ = some (.int .i64 s) := (World.cell?_setCell_other _ _ _ _ (by intro h; simp at h)).trans hs
    have dr : ((w.setCell ⟨p, 1, none⟩ (.int .i64 ((k : Int) + 1))).drewN nq).cell? ⟨b, off + k, none⟩ = some (.int .u8 x) := (World.cell?_setCell_other _ _ _ _ (by intro h; simp only [Addr.mk.injEq] at h; exact hne h.1.symm)).trans e1
    have df : ((w.setCell ⟨p, 1, none⟩ (.int .i64 ((k : Int) + 1))).drewN nq).frozen? ⟨p, 2, none⟩ = false := by simpa using f2
    have dO : Only p w ((w.setCell ⟨p, 1, none⟩ (.int .i64 ((k : Int) + 1))).drewN nq) := Only.drewN (Only.setCell _ _ _ _)
    have DO := hide dO
    clear dO hc ht hs e1 f1 f2
    generalize (w.setCell ⟨p, 1, none⟩ (.int .i64 ((k : Int) + 1))).drewN nq = W1 at *
    go_region
    go_wp2_with fail
    go_quiet (fail)
    go_wp2_with fail
    go_ret
    refine ⟨x, rfl, x0, x1, Only.drewN (Only.drew ((unhide DO).trans (Only.setCell _ _ _ _))), ?_⟩
    refine src_step (t := (k : Int) + 1) (Only.drewN (Only.drew ((unhide DO).trans (Only.setCell _ _ _ _)))) ((World.cell?_setCell_other _ _ _ _ (by intro h; simp at h)).trans d0) ((World.cell?_setCell_other _ _ _ _ (by intro h; simp at h)).trans d1) (World.cell?_setCell_same _ _ _ d2) (by omega) (by omega) ?_ ?_ (unhide HF) (unhide R) (unhide BY) (unhide AP) hbd
    all_goals omega
  · have hgt : (n : Int) < t + 1 := by omega
    clear hlt
    by_cases h3 : 3000 < t + 1
    · go_enter Try.func67, Try.ntmps67
      go_wp2_with fail
      go_quiet (fail)
      go_wp2_with fail
      go_ret
      have hO := Only.drewN (k := nq) (Only.setCell w p 1 (.int .i64 (t + 1)))
      exact ⟨0, rfl, by omega, by omega, hO, src_step (t := t + 1) (s := s) hO ((World.cell?_setCell_other _ _ _ _ (by intro h; simp at h)).trans hc) (World.cell?_setCell_same _ _ _ ht) ((World.cell?_setCell_other _ _ _ _ (by intro h; simp at h)).trans hs) (by omega) (by omega) hs0 hs1 (unhide HF) (unhide R) (unhide BY) (unhide AP) hbd⟩
    · go_enter Try.func67, Try.ntmps67
      go_wp2_with fail
      go_quiet (fail)
      go_wp2_with fail
      go_ret
      have hO := Only.drewN (k := nq) (Only.setCell w p 1 (.int .i64 (t + 1)))
      have hO2 := hO.trans (Only.setCell _ p 2 (.int .i64 ((s * 1103515245 + 12345) % 2147483648)))
      refine ⟨_, rfl, ?_, ?_, hO2, src_step (t := t + 1) hO2 ((World.cell?_setCell_other _ _ _ _ (by intro h; simp at h)).trans ((World.cell?_setCell_other _ _ _ _ (by intro h; simp at h)).trans hc)) ((World.cell?_setCell_other _ _ _ _ (by intro h; simp at h)).trans (World.cell?_setCell_same _ _ _ ht)) (World.cell?_setCell_same _ _ _ ((World.cell?_setCell_other _ _ _ _ (by intro h; simp at h)).trans hs)) (by omega) (by omega) ?_ ?_ (unhide HF) (unhide R) (unhide BY) (unhide AP) hbd⟩
      all_goals omega
end Go.Proofs.Ytjhmammoakiknaa

namespace Go.Proofs.Ytjhmammoakiknaa
open Go.RowKit

theorem Src.more {w : World} {p : Nat} {a : Option Addr} {n c : Nat} {xs : List Int} {K K' : Int} (h : Src w p a n c xs K) (hk : K ≤ K') : Src w p a n c xs K' := by
  obtain ⟨h1, ⟨t, ht, ht0, htK⟩, h3, h4, h5, h6, h7, h8⟩ := h
  exact ⟨h1, ⟨t, ht, ht0, by omega⟩, h3, h4, h5, h6, h7, h8⟩

set_option maxHeartbeats 1000000 in
theorem next_any (p : Nat) (a : Option Addr) (n c : Nat) (xs : List Int) (K m : Int) (w : World) (h : Src w p a n c xs K) (hK : K ≤ 900000) (hm : 1 ≤ m) (hm2 : m ≤ 100000) :
    Calls Try.prog 42 #[.pointer (some ⟨p, 0, none⟩), .int .i64 m] w fun e w' => ∃ r : Int, e = .returned (.int .i64 r) ∧ 0 ≤ r ∧ r < m ∧ Only p w w' ∧ Src w' p a n c xs (K + 3) := by
  by_cases h1 : m ≤ 1
  · go_enter Try.func42, Try.ntmps42
    go_wp2_with fail
    go_ret
    exact ⟨0, rfl, by omega, by omega, Only.refl _ _, Src.more h (by omega)⟩
  by_cases h2 : m ≤ 256
  · go_enter Try.func42, Try.ntmps42
    go_wp2_with fail
    refine (byte_any p a n c xs K w h (by omega)).mono ?_
    rintro e w1 ⟨r, rfl, hr0, hr1, ho, hs⟩
    go_wp2_with fail
    go_ret
    refine ⟨_, rfl, ?_, ?_, ho, Src.more hs (by omega)⟩
    · exact Int.emod_nonneg _ (by omega)
    · exact Int.emod_lt_of_pos _ (by omega)
  · go_enter Try.func42, Try.ntmps42
    go_wp2_with fail
    refine (byte_any p a n c xs K w h (by omega)).mono ?_
    rintro e w1 ⟨r1, rfl, hr10, hr11, ho1, hs1⟩
    go_wp2_with fail
    refine (byte_any p a n c xs (K + 1) w1 hs1 (by omega)).mono ?_
    rintro e w2 ⟨r2, rfl, hr20, hr21, ho2, hs2⟩
    go_wp2_with fail
    refine (byte_any p a n c xs (K + 1 + 1) w2 hs2 (by omega)).mono ?_
    rintro e w3 ⟨r3, rfl, hr30, hr31, ho3, hs3⟩
    go_wp2_with fail
    go_ret
    refine ⟨_, rfl, ?_, ?_, (ho1.trans ho2).trans ho3, Src.more hs3 (by omega)⟩
    · exact Int.emod_nonneg _ (by omega)
    · exact Int.emod_lt_of_pos _ (by omega)

set_option maxHeartbeats 1000000 in
theorem source_any (a : Option Addr) (n c : Nat) (xs : List Int) (w : World) (hr : Row w a n xs) (hby : ∀ i, i < n → 0 ≤ xs.getD i 0 ∧ xs.getD i 0 ≤ 255) (hn : n ≤ 1048576) :
    Calls Try.prog 22 #[.slice a n c] w fun e w' => e = .returned (.pointer (some ⟨w.heap.size, 0, none⟩)) ∧ Src w' w.heap.size a n c xs 0 ∧ Below w.heap.size w w' ∧ w'.heap.size = w.heap.size + 1 := by
  have R := hide hr
  have BY := hide hby
  clear hr hby
  go_enter Try.func22, Try.ntmps22
  go_wp2_with fail
  go_ret
  refine ⟨rfl, ?_, (Below.refl _ _).alloc (Nat.le_refl _) _, by simp⟩
  have hb : Below w.heap.size w (w.alloc (.cells #[.slice a n c, .int .i64 0, .int .i64 ((n : Int) % 1000)] 77)) := (Below.refl _ _).alloc (Nat.le_refl _) _
  have hlt : ∀ x, a = some x → 0 < n → x.block < w.heap.size := fun x hx hp => by
    obtain ⟨b, off, e, hc⟩ := (unhide R).2 0 hp
    rw [hx] at e
    cases e
    exact cell_lt hc
  refine ⟨by simp, ⟨0, by simp, by omega, by omega⟩, ⟨(n : Int) % 1000, by simp, by omega, by omega⟩, fun j => by simp, ?_, unhide BY, fun x hx hp => Nat.ne_of_lt (hlt x hx hp), hn⟩
  by_cases hp : 0 < n
  · exact (unhide R).below hb (fun x hx => hlt x hx hp)
  · exact ⟨(unhide R).1, fun i hi => absurd hi (by omega)⟩
/-- A block that is made leaves a source as it was. -/
theorem Src.alloc {w : World} {p : Nat} {a : Option Addr} {n c : Nat} {xs : List Int} {K : Int} (h : Src w p a n c xs K) (o : Obj) : Src (w.alloc o) p a n c xs K := by
  have hb : Below w.heap.size w (w.alloc o) := (Below.refl _ _).alloc (Nat.le_refl _) _
  obtain ⟨h1, ⟨t, ht, ht0, htK⟩, ⟨s, hs, hs0, hs1⟩, h4, h5, h6, h7, h8⟩ := h
  have hp := cell_lt h1
  refine ⟨(hb.cell (p := ⟨p, 0, none⟩) hp).trans h1, ⟨t, (hb.cell (p := ⟨p, 1, none⟩) hp).trans ht, ht0, htK⟩, ⟨s, (hb.cell (p := ⟨p, 2, none⟩) hp).trans hs, hs0, hs1⟩, fun j => (hb.frozen (p := ⟨p, j, none⟩) hp).trans (h4 j), ?_, h6, h7, h8⟩
  by_cases hn : 0 < n
  · refine h5.below hb (fun x hx => ?_)
    obtain ⟨b, off, e, hc⟩ := h5.2 0 hn
    rw [hx] at e
    cases e
    exact cell_lt hc
  · exact ⟨h5.1, fun i hi => absurd hi (by omega)⟩

end Go.Proofs.Ytjhmammoakiknaa
