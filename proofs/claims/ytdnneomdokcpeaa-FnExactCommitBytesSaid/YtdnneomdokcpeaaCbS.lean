/-
  spec.l07Bytes and spec.CommitBytes.
-/
import Derived.Test.YtdnneomdokcpeaaCbJ
import Derived.Test.YtdnneomdokcpeaaVsC
namespace Go.Proofs.Ytdnneomdokcpeaa
open Go.RowKit

theorem cb_lit0 {w : World} {B : Nat} (h : B ≤ w.heap.size) : Owns (w.alloc (.cells #[] 5)) B (.slice (some ⟨w.heap.size, 0, none⟩) 0 0) [] :=
  World.ownsRow_lit _ _ _ h (by unfold maxLen; simp) rfl
set_option maxRecDepth 100000 in
set_option maxHeartbeats 4000000 in
theorem l07Bytes_any (a : Option Addr) (n c : Nat) (ds : List VerD) (w : World) (hn : n ≤ 4096) (hr : VRow w a n ds) (hs : ∀ i (hi : i < ds.length), ds[i].k.size ≤ 255 ∧ ds[i].v.size ≤ 255) :
    Calls Try.prog 30 #[.slice a n c] w fun e w' => ∃ v, e = .returned v ∧ Owns w' w.heap.size v (cbAll ds) ∧ Below w.heap.size w w' := by
  have L := hide hr.1
  have R := hide hr
  have H := hide hs
  have O0 := hide (cb_lit0 (w := w) (Nat.le_refl _))
  have B0 := hide (show Below w.heap.size w (w.alloc (.cells #[] 5)) from (Below.refl _ _).alloc (Nat.le_refl _) _)
  clear hr hs
  go_enter Try.func30, Try.ntmps30
  go_wp2_with fail
  go_loopw [3, 4] (fun v i wr => ∃ j : Nat, i = .int .i64 (j : Int) ∧ j ≤ n ∧ Hid (Owns wr w.heap.size v (cbAll (ds.take j))) ∧ Hid (Below w.heap.size w wr)) (fun _ i _ => n - (intOf i).toNat)
  case atStart => exact ⟨0, rfl, Nat.zero_le _, O0, B0⟩
  case round =>
    clear O0 B0
    obtain ⟨j, rfl, hj, hO, hB⟩ := hrel
    by_cases hlt : j < n
    · have hj2 : j < ds.length := by rw [unhide L]; exact hlt
      have hjn : (j : Int) < (n : Int) := by omega
      obtain ⟨b, off, rfl, d0, d1, d2, d3⟩ := ((unhide R).below (unhide hB)).2 j hj2
      have hsr := (unhide hB).size
      have hl : (cbAll (ds.take j)).length ≤ 9000000 := by
        have h1 := cbAll_le (ds.take j) (fun i hi' => by have := unhide H i (by rw [List.length_take] at hi'; omega); simpa using this)
        rw [List.length_take] at h1
        omega
      have hsm := unhide H j hj2
      have TS := hide (show cbAll (ds.take (j + 1)) = cbAll (ds.take j) ++ cbOne ds[j] by rw [rb_take_snoc ds j hj2, cbAll_snoc])
      obtain ⟨b', off', e', x0, x1, x2, x3⟩ := (unhide R).2 j hj2
      cases e'
      have SK := hide (show ∀ u, Below w.heap.size w u → (fun u => Below w.heap.size w u ∧ u.cell? ⟨b, off + j * 4, none⟩ = some (.string ds[j].k) ∧ u.cell? ⟨b, off + j * 4 + 2, none⟩ = some (.string ds[j].v)) u from fun u hb => ⟨hb, (hb.cell (p := ⟨b, off + j * 4, none⟩) (cell_lt x0)).trans x0, (hb.cell (p := ⟨b, off + j * 4 + 2, none⟩) (cell_lt x2)).trans x2⟩)
      clear x0 x1 x2 x3
      generalize ds[j] = pd at *
      obtain ⟨pk, pt, pv, pg⟩ := pd
      simp only at d0 d1 d2 d3 hsm SK
      generalize cbAll (ds.take j) = zj at *
      cases pg
      · have TZ := hide (show zj ++ [1] ++ cbLine pk ++ cbLine pv = cbAll (ds.take (j + 1)) by rw [unhide TS]; simp [cbOne, cbMark])
        go_upto_region 8 with fail
        clear d0 d1 d2 d3
        refine wp_region_held_drew (S := (fun u => Below w.heap.size w u ∧ u.cell? ⟨b, off + j * 4, none⟩ = some (.string pk) ∧ u.cell? ⟨b, off + j * 4 + 2, none⟩ = some (.string pv))) (by kernel_rfl) (unhide SK _ (unhide hB).drew) (fun hHeld => ?_)
        refine anyH_take 0 18 (v := ?v1) rfl rfl (by kernel_rfl) (by kernel_rfl) (by kernel_rfl) (fun _ _ _ h => h) (by rfl) ?h1 hHeld ?r1
        case h1 => (intro w hSw; (try dsimp only at hSw); go_simp; try (with_reducible rfl))
        simp only [Act.put, List.setIfInBounds_toArray, List.set_cons_zero, List.set_cons_succ]
        refine anyH_take 1 19 (v := ?v2) rfl rfl (by kernel_rfl) (by kernel_rfl) (by kernel_rfl) (fun _ _ _ h => h) (by rfl) ?h2 hHeld ?r2
        case h2 => (intro w hSw; (try dsimp only at hSw); go_simp; try (with_reducible rfl))
        simp only [Act.put, List.setIfInBounds_toArray, List.set_cons_zero, List.set_cons_succ]
        refine anyH_take 4 22 (v := ?v3) rfl rfl (by kernel_rfl) (by kernel_rfl) (by kernel_rfl) (fun _ _ _ h => h) (by rfl) ?h3 hHeld ?r3
        case h3 => (intro w hSw; (try dsimp only at hSw); go_simp; try (with_reducible rfl))
        simp only [Act.put, List.setIfInBounds_toArray, List.set_cons_zero, List.set_cons_succ]
        refine anyH_take 5 23 (v := ?v4) rfl rfl (by kernel_rfl) (by kernel_rfl) (by kernel_rfl) (fun _ _ _ h => h) (by rfl) ?h4 hHeld ?r4
        case h4 => (intro w hSw; (try dsimp only at hSw); go_simp; try (with_reducible rfl))
        simp only [Act.put, List.setIfInBounds_toArray, List.set_cons_zero, List.set_cons_succ]
        refine anyH_take 6 24 (v := ?v5) rfl rfl (by kernel_rfl) (by kernel_rfl) (by kernel_rfl) (fun _ _ _ h => h) (by rfl) ?h5 hHeld ?r5
        case h5 => (intro w hSw; (try dsimp only at hSw); go_simp; try (with_reducible rfl))
        simp only [Act.put, List.setIfInBounds_toArray, List.set_cons_zero, List.set_cons_succ]
        refine anyH_take 7 25 (v := ?v6) rfl rfl (by kernel_rfl) (by kernel_rfl) (by kernel_rfl) (fun _ _ _ h => h) (by rfl) ?h6 hHeld ?r6
        case h6 => (intro w hSw; (try dsimp only at hSw); go_simp; try (with_reducible rfl))
        simp only [Act.put, List.setIfInBounds_toArray, List.set_cons_zero, List.set_cons_succ]
        refine anyH_take 8 26 (v := ?v7) rfl rfl (by kernel_rfl) (by kernel_rfl) (by kernel_rfl) (fun _ _ _ h => h) (by rfl) ?h7 hHeld ?r7
        case h7 => (intro w hSw; (try dsimp only at hSw); go_simp; try (with_reducible rfl))
        simp only [Act.put, List.setIfInBounds_toArray, List.set_cons_zero, List.set_cons_succ]
        refine anyH_take 11 29 (v := ?v8) rfl rfl (by kernel_rfl) (by kernel_rfl) (by kernel_rfl) (fun _ _ _ h => h) (by rfl) ?h8 hHeld ?r8
        case h8 => (intro w hSw; (try dsimp only at hSw); go_simp; try (with_reducible rfl))
        simp only [Act.put, List.setIfInBounds_toArray, List.set_cons_zero, List.set_cons_succ]
        refine anyH_take 12 30 (v := ?v9) rfl rfl (by kernel_rfl) (by kernel_rfl) (by kernel_rfl) (fun _ _ _ h => h) (by rfl) ?h9 hHeld ?r9
        case h9 => (intro w hSw; (try dsimp only at hSw); go_simp; try (with_reducible rfl))
        simp only [Act.put, List.setIfInBounds_toArray, List.set_cons_zero, List.set_cons_succ]
        refine anyH_take 13 31 (v := ?v10) rfl rfl (by kernel_rfl) (by kernel_rfl) (by kernel_rfl) (fun _ _ _ h => h) (by rfl) ?h10 hHeld ?r10
        case h10 => (intro w hSw; (try dsimp only at hSw); go_simp; try (with_reducible rfl))
        simp only [Act.put, List.setIfInBounds_toArray, List.set_cons_zero, List.set_cons_succ]
        refine anyH_take 14 32 (v := ?v11) rfl rfl (by kernel_rfl) (by kernel_rfl) (by kernel_rfl) (fun _ _ _ h => h) (by rfl) ?h11 hHeld ?r11
        case h11 => (intro w hSw; (try dsimp only at hSw); go_simp; try (with_reducible rfl))
        simp only [Act.put, List.setIfInBounds_toArray, List.set_cons_zero, List.set_cons_succ]
        refine anyH_take 15 33 (v := ?v12) rfl rfl (by kernel_rfl) (by kernel_rfl) (by kernel_rfl) (fun _ _ _ h => h) (by rfl) ?h12 hHeld ?r12
        case h12 => (intro w hSw; (try dsimp only at hSw); go_simp; try (with_reducible rfl))
        simp only [Act.put, List.setIfInBounds_toArray, List.set_cons_zero, List.set_cons_succ]
        refine wpAnyH_ready (rs := [2]) (by kernel_rfl) (by simp) ?_
        refine AllReadyH.cons rfl (fun K hK => ?_) AllReadyH.nil
        go_simp
        have bA := (unhide hB).drew.alloc (o := .cells #[.int .u8 1] 5) hsr
        refine hK.out _ _ (unhide SK _ bA) (fun hHeld => ?_)
        clear hK K
        refine wpAnyH_ready (rs := [3]) (by kernel_rfl) (by simp) ?_
        refine AllReadyH.cons rfl (fun K hK => ?_) AllReadyH.nil
        obtain ⟨v1, w1, hr1, o1, g1, _⟩ := cb_app (w := wr.drew.alloc (.cells #[.int .u8 1] 5)) (World.ownsRow.alloc (unhide hO) _) (cb_lit1 (w := wr.drew) 1 hsr) rfl (by omega) (by omega) (by omega) (Nat.le_trans hsr (by simp))
        refine cb_stepApp rfl (.tmp 18) (.tmp 20) 24 rfl _ _ v1 w1 (by first | rfl | (simp [Act.eval]; done) | (simp [Act.eval, Act.put]; done)) (by first | rfl | (simp [Act.eval]; done) | (simp [Act.eval, Act.put]; done)) hr1 ?_
        have b1 := cb_below_grown bA (Nat.le_trans hsr (by simp)) (World.ownsRow.alloc (unhide hO) _) g1
        clear hr1 g1
        refine hK.out _ _ (unhide SK _ b1) (fun hHeld => ?_)
        clear hK K
        simp only [Act.put, List.setIfInBounds_toArray]
        refine wpAnyH_ready (rs := [9]) (by kernel_rfl) (by simp) ?_
        refine AllReadyH.cons rfl (fun K hK => ?_) AllReadyH.nil
        go_simp
        refine (cb_line pk w1 hsm.1).mono ?_
        rintro e w2 ⟨ga, ca, rfl, oa, b2⟩
        have n2 := cb_apart o1 oa
        replace o1 := cb_below o1 b2
        replace b2 := b1.trans (b2.mono b1.size)
        refine hK.out _ _ (unhide SK _ b2) (fun hHeld => ?_)
        clear hK K
        refine wpAnyH_ready (rs := [10]) (by kernel_rfl) (by simp) ?_
        refine AllReadyH.cons rfl (fun K hK => ?_) AllReadyH.nil
        obtain ⟨v3, w3, hr3, o3, g3, m3⟩ := cb_app o1 oa (cbLine_length pk) (by omega) (by omega) (by simp; omega) b2.size
        refine cb_stepApp rfl (.tmp 21) (.tmp 27) 24 rfl _ _ v3 w3 (by first | rfl | (simp [Act.eval]; done) | (simp [Act.eval, Act.put]; done)) (by first | rfl | (simp [Act.eval]; done) | (simp [Act.eval, Act.put]; done)) hr3 ?_
        have b3 := cb_below_grown b2 b2.size o1 g3
        clear hr3 g3 m3 n2 oa
        refine hK.out _ _ (unhide SK _ b3) (fun hHeld => ?_)
        clear hK K
        simp only [Act.put, List.setIfInBounds_toArray]
        refine wpAnyH_ready (rs := [16]) (by kernel_rfl) (by simp) ?_
        refine AllReadyH.cons rfl (fun K hK => ?_) AllReadyH.nil
        go_simp
        refine (cb_line pv w3 hsm.2).mono ?_
        rintro e w4 ⟨gb, cb, rfl, ob, b4⟩
        replace o3 := cb_below o3 b4
        replace b4 := b3.trans (b4.mono b3.size)
        refine hK.out _ _ (unhide SK _ b4) (fun hHeld => ?_)
        clear hK K
        refine wpAnyH_ready (rs := [17]) (by kernel_rfl) (by simp) ?_
        refine AllReadyH.cons rfl (fun K hK => ?_) AllReadyH.nil
        obtain ⟨v5, w5, hr5, o5, g5, m5⟩ := cb_app o3 ob (cbLine_length pv) (by omega) (by omega) (by simp [cbLine_length]; omega) b4.size
        refine cb_stepApp rfl (.tmp 28) (.tmp 34) 24 rfl _ _ v5 w5 (by first | rfl | (simp [Act.eval]; done) | (simp [Act.eval, Act.put]; done)) (by first | rfl | (simp [Act.eval]; done) | (simp [Act.eval, Act.put]; done)) hr5 ?_
        have b5 := cb_below_grown b4 b4.size o3 g5
        clear hr5 g5 m5 ob
        refine hK.out _ _ (unhide SK _ b5) (fun hHeld => ?_)
        clear hK K
        simp only [Act.put, List.setIfInBounds_toArray]
        refine anyH_take 18 3 (v := ?v13) rfl rfl (by kernel_rfl) (by kernel_rfl) (by kernel_rfl) (fun _ _ _ h => h) (by rfl) ?h13 hHeld ?r13
        case h13 => (intro w hSw; (try dsimp only at hSw); go_simp; try (with_reducible rfl))
        simp only [Act.put]
        refine wpAnyH_done (by kernel_rfl) ?_ _
        clear b1 b2 b3 b4 bA o1 o3
        replace o5 := hide (unhide TZ ▸ o5)
        replace b5 := hide b5
        go_wp2_with fail
        go_roundw
        case rel => exact ⟨j + 1, by go_num, by omega, unhide o5, unhide b5⟩
        case measure => simp [intOf]; omega
      · have TZ := hide (show zj ++ [2] ++ cbLine pk ++ cbLine pv = cbAll (ds.take (j + 1)) by rw [unhide TS]; simp [cbOne, cbMark])
        go_upto_region 8 with fail
        clear d0 d1 d2 d3
        refine wp_region_held_drew (S := (fun u => Below w.heap.size w u ∧ u.cell? ⟨b, off + j * 4, none⟩ = some (.string pk) ∧ u.cell? ⟨b, off + j * 4 + 2, none⟩ = some (.string pv))) (by kernel_rfl) (unhide SK _ (unhide hB).drew) (fun hHeld => ?_)
        refine anyH_take 0 18 (v := ?v14) rfl rfl (by kernel_rfl) (by kernel_rfl) (by kernel_rfl) (fun _ _ _ h => h) (by rfl) ?h14 hHeld ?r14
        case h14 => (intro w hSw; (try dsimp only at hSw); go_simp; try (with_reducible rfl))
        simp only [Act.put, List.setIfInBounds_toArray, List.set_cons_zero, List.set_cons_succ]
        refine anyH_take 1 19 (v := ?v15) rfl rfl (by kernel_rfl) (by kernel_rfl) (by kernel_rfl) (fun _ _ _ h => h) (by rfl) ?h15 hHeld ?r15
        case h15 => (intro w hSw; (try dsimp only at hSw); go_simp; try (with_reducible rfl))
        simp only [Act.put, List.setIfInBounds_toArray, List.set_cons_zero, List.set_cons_succ]
        refine anyH_take 4 22 (v := ?v16) rfl rfl (by kernel_rfl) (by kernel_rfl) (by kernel_rfl) (fun _ _ _ h => h) (by rfl) ?h16 hHeld ?r16
        case h16 => (intro w hSw; (try dsimp only at hSw); go_simp; try (with_reducible rfl))
        simp only [Act.put, List.setIfInBounds_toArray, List.set_cons_zero, List.set_cons_succ]
        refine anyH_take 5 23 (v := ?v17) rfl rfl (by kernel_rfl) (by kernel_rfl) (by kernel_rfl) (fun _ _ _ h => h) (by rfl) ?h17 hHeld ?r17
        case h17 => (intro w hSw; (try dsimp only at hSw); go_simp; try (with_reducible rfl))
        simp only [Act.put, List.setIfInBounds_toArray, List.set_cons_zero, List.set_cons_succ]
        refine anyH_take 6 24 (v := ?v18) rfl rfl (by kernel_rfl) (by kernel_rfl) (by kernel_rfl) (fun _ _ _ h => h) (by rfl) ?h18 hHeld ?r18
        case h18 => (intro w hSw; (try dsimp only at hSw); go_simp; try (with_reducible rfl))
        simp only [Act.put, List.setIfInBounds_toArray, List.set_cons_zero, List.set_cons_succ]
        refine anyH_take 7 25 (v := ?v19) rfl rfl (by kernel_rfl) (by kernel_rfl) (by kernel_rfl) (fun _ _ _ h => h) (by rfl) ?h19 hHeld ?r19
        case h19 => (intro w hSw; (try dsimp only at hSw); go_simp; try (with_reducible rfl))
        simp only [Act.put, List.setIfInBounds_toArray, List.set_cons_zero, List.set_cons_succ]
        refine anyH_take 8 26 (v := ?v20) rfl rfl (by kernel_rfl) (by kernel_rfl) (by kernel_rfl) (fun _ _ _ h => h) (by rfl) ?h20 hHeld ?r20
        case h20 => (intro w hSw; (try dsimp only at hSw); go_simp; try (with_reducible rfl))
        simp only [Act.put, List.setIfInBounds_toArray, List.set_cons_zero, List.set_cons_succ]
        refine anyH_take 11 29 (v := ?v21) rfl rfl (by kernel_rfl) (by kernel_rfl) (by kernel_rfl) (fun _ _ _ h => h) (by rfl) ?h21 hHeld ?r21
        case h21 => (intro w hSw; (try dsimp only at hSw); go_simp; try (with_reducible rfl))
        simp only [Act.put, List.setIfInBounds_toArray, List.set_cons_zero, List.set_cons_succ]
        refine anyH_take 12 30 (v := ?v22) rfl rfl (by kernel_rfl) (by kernel_rfl) (by kernel_rfl) (fun _ _ _ h => h) (by rfl) ?h22 hHeld ?r22
        case h22 => (intro w hSw; (try dsimp only at hSw); go_simp; try (with_reducible rfl))
        simp only [Act.put, List.setIfInBounds_toArray, List.set_cons_zero, List.set_cons_succ]
        refine anyH_take 13 31 (v := ?v23) rfl rfl (by kernel_rfl) (by kernel_rfl) (by kernel_rfl) (fun _ _ _ h => h) (by rfl) ?h23 hHeld ?r23
        case h23 => (intro w hSw; (try dsimp only at hSw); go_simp; try (with_reducible rfl))
        simp only [Act.put, List.setIfInBounds_toArray, List.set_cons_zero, List.set_cons_succ]
        refine anyH_take 14 32 (v := ?v24) rfl rfl (by kernel_rfl) (by kernel_rfl) (by kernel_rfl) (fun _ _ _ h => h) (by rfl) ?h24 hHeld ?r24
        case h24 => (intro w hSw; (try dsimp only at hSw); go_simp; try (with_reducible rfl))
        simp only [Act.put, List.setIfInBounds_toArray, List.set_cons_zero, List.set_cons_succ]
        refine anyH_take 15 33 (v := ?v25) rfl rfl (by kernel_rfl) (by kernel_rfl) (by kernel_rfl) (fun _ _ _ h => h) (by rfl) ?h25 hHeld ?r25
        case h25 => (intro w hSw; (try dsimp only at hSw); go_simp; try (with_reducible rfl))
        simp only [Act.put, List.setIfInBounds_toArray, List.set_cons_zero, List.set_cons_succ]
        refine wpAnyH_ready (rs := [2]) (by kernel_rfl) (by simp) ?_
        refine AllReadyH.cons rfl (fun K hK => ?_) AllReadyH.nil
        go_simp
        have bA := (unhide hB).drew.alloc (o := .cells #[.int .u8 2] 5) hsr
        refine hK.out _ _ (unhide SK _ bA) (fun hHeld => ?_)
        clear hK K
        refine wpAnyH_ready (rs := [3]) (by kernel_rfl) (by simp) ?_
        refine AllReadyH.cons rfl (fun K hK => ?_) AllReadyH.nil
        obtain ⟨v1, w1, hr1, o1, g1, _⟩ := cb_app (w := wr.drew.alloc (.cells #[.int .u8 2] 5)) (World.ownsRow.alloc (unhide hO) _) (cb_lit1 (w := wr.drew) 2 hsr) rfl (by omega) (by omega) (by omega) (Nat.le_trans hsr (by simp))
        refine cb_stepApp rfl (.tmp 18) (.tmp 20) 24 rfl _ _ v1 w1 (by first | rfl | (simp [Act.eval]; done) | (simp [Act.eval, Act.put]; done)) (by first | rfl | (simp [Act.eval]; done) | (simp [Act.eval, Act.put]; done)) hr1 ?_
        have b1 := cb_below_grown bA (Nat.le_trans hsr (by simp)) (World.ownsRow.alloc (unhide hO) _) g1
        clear hr1 g1
        refine hK.out _ _ (unhide SK _ b1) (fun hHeld => ?_)
        clear hK K
        simp only [Act.put, List.setIfInBounds_toArray]
        refine wpAnyH_ready (rs := [9]) (by kernel_rfl) (by simp) ?_
        refine AllReadyH.cons rfl (fun K hK => ?_) AllReadyH.nil
        go_simp
        refine (cb_line pk w1 hsm.1).mono ?_
        rintro e w2 ⟨ga, ca, rfl, oa, b2⟩
        have n2 := cb_apart o1 oa
        replace o1 := cb_below o1 b2
        replace b2 := b1.trans (b2.mono b1.size)
        refine hK.out _ _ (unhide SK _ b2) (fun hHeld => ?_)
        clear hK K
        refine wpAnyH_ready (rs := [10]) (by kernel_rfl) (by simp) ?_
        refine AllReadyH.cons rfl (fun K hK => ?_) AllReadyH.nil
        obtain ⟨v3, w3, hr3, o3, g3, m3⟩ := cb_app o1 oa (cbLine_length pk) (by omega) (by omega) (by simp; omega) b2.size
        refine cb_stepApp rfl (.tmp 21) (.tmp 27) 24 rfl _ _ v3 w3 (by first | rfl | (simp [Act.eval]; done) | (simp [Act.eval, Act.put]; done)) (by first | rfl | (simp [Act.eval]; done) | (simp [Act.eval, Act.put]; done)) hr3 ?_
        have b3 := cb_below_grown b2 b2.size o1 g3
        clear hr3 g3 m3 n2 oa
        refine hK.out _ _ (unhide SK _ b3) (fun hHeld => ?_)
        clear hK K
        simp only [Act.put, List.setIfInBounds_toArray]
        refine wpAnyH_ready (rs := [16]) (by kernel_rfl) (by simp) ?_
        refine AllReadyH.cons rfl (fun K hK => ?_) AllReadyH.nil
        go_simp
        refine (cb_line pv w3 hsm.2).mono ?_
        rintro e w4 ⟨gb, cb, rfl, ob, b4⟩
        replace o3 := cb_below o3 b4
        replace b4 := b3.trans (b4.mono b3.size)
        refine hK.out _ _ (unhide SK _ b4) (fun hHeld => ?_)
        clear hK K
        refine wpAnyH_ready (rs := [17]) (by kernel_rfl) (by simp) ?_
        refine AllReadyH.cons rfl (fun K hK => ?_) AllReadyH.nil
        obtain ⟨v5, w5, hr5, o5, g5, m5⟩ := cb_app o3 ob (cbLine_length pv) (by omega) (by omega) (by simp [cbLine_length]; omega) b4.size
        refine cb_stepApp rfl (.tmp 28) (.tmp 34) 24 rfl _ _ v5 w5 (by first | rfl | (simp [Act.eval]; done) | (simp [Act.eval, Act.put]; done)) (by first | rfl | (simp [Act.eval]; done) | (simp [Act.eval, Act.put]; done)) hr5 ?_
        have b5 := cb_below_grown b4 b4.size o3 g5
        clear hr5 g5 m5 ob
        refine hK.out _ _ (unhide SK _ b5) (fun hHeld => ?_)
        clear hK K
        simp only [Act.put, List.setIfInBounds_toArray]
        refine anyH_take 18 3 (v := ?v26) rfl rfl (by kernel_rfl) (by kernel_rfl) (by kernel_rfl) (fun _ _ _ h => h) (by rfl) ?h26 hHeld ?r26
        case h26 => (intro w hSw; (try dsimp only at hSw); go_simp; try (with_reducible rfl))
        simp only [Act.put]
        refine wpAnyH_done (by kernel_rfl) ?_ _
        clear b1 b2 b3 b4 bA o1 o3
        replace o5 := hide (unhide TZ ▸ o5)
        replace b5 := hide b5
        go_wp2_with fail
        go_roundw
        case rel => exact ⟨j + 1, by go_num, by omega, unhide o5, unhide b5⟩
        case measure => simp [intOf]; omega
    · obtain rfl : j = n := by omega
      have Z := hide (show Owns wr w.heap.size _ (cbAll ds) by
        have := unhide hO
        rwa [List.take_of_length_le (by rw [unhide L]; exact Nat.le_refl _)] at this)
      have hjn : ¬ (j : Int) < (j : Int) := by omega
      go_wp2_with fail
      go_ret
      exact ⟨_, rfl, unhide Z, unhide hB⟩
set_option maxRecDepth 100000 in
set_option maxHeartbeats 4000000 in
theorem specCommitBytes_any (a : Option Addr) (n c : Nat) (ds : List VerD) (w : World) (hn : n ≤ 1048576) (hr : VRow w a n ds) :
    Calls Try.prog 8 #[.slice a n c] w fun e w' => CbRes ds w e w' := by
  have L := hide hr.1
  have R := hide hr
  by_cases h4 : n ≤ 4096
  · have g4 : ¬ (4096 : Int) < (n : Int) := by omega
    have l4 : ds.length ≤ 4096 := by rw [unhide L]; exact h4
    have C := hide (fun (u : World) (h : Below w.heap.size w u) (hc : comV ds = true) => l07Bytes_any a n c ds u h4 ((unhide R).below h) (comV_small hc).2)
    have W := hide (l07Writes_any a n c ds w hn hr)
    clear hr
    go_enter Try.func8, Try.ntmps8
    go_wp2_with fail
    refine (unhide W).mono ?_
    rintro e w1 ⟨rfl, hb⟩
    have hsz := hb.size
    clear W
    cases hx : comV ds
    · have Z := hide (cb_bad (w := w) (w' := w1.alloc (.cells #[] 5)) l4 hx (cb_lit0 (w := w1) hsz) (hb.alloc hsz _))
      go_wp2_with fail
      go_ret2
      exact unhide Z
    · have C' := hide (unhide C w1 hb hx)
      clear C
      go_wp2_with fail
      refine (unhide C').mono ?_
      rintro e w2 ⟨v, rfl, ho, hb2⟩
      have Z := hide (cb_good (w := w) l4 hx (cb_dn ho hsz) (hb.trans (hb2.mono hsz)))
      clear ho hb hb2 C'
      go_wp2_with fail
      go_ret2
      exact unhide Z
  · have g4 : (4096 : Int) < (n : Int) := by omega
    have Z := hide (cb_long (w := w) (by rw [unhide L]; exact h4) (cb_lit0 (w := w) (Nat.le_refl _)) ((Below.refl _ _).alloc (Nat.le_refl _) _))
    clear hr
    go_enter Try.func8, Try.ntmps8
    go_wp2_with fail
    go_ret2
    exact unhide Z
end Go.Proofs.Ytdnneomdokcpeaa
