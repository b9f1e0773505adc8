/-
  CbS, RpL, RcL, RpI, Bits, RpJ, RcI, RcJ, RcK, Conv, CmK, CmP in one.
-/
import Derived.Test.YtodmkbnoljilpaaCmAll4
import Derived.Test.YtodmkbnoljilpaaPageL
import Derived.Laws.BytesArg
import Derived.Test.YtodmkbnoljilpaaVrL
import Derived.Test.YtodmkbnoljilpaaWrT
import Derived.Test.YtodmkbnoljilpaaBase
import Derived.Laws.BitsAllLaws
import Derived.Laws.Bits64
import Derived.Test.YtodmkbnoljilpaaVrT
import Derived.Deep.Cut
import Derived.Test.YtodmkbnoljilpaaOwn
import Derived.Laws.StructEq
import Derived.ProofKit
import Derived.OpenShut
import Derived.ShutString
import Derived.ChangeOld
import Derived.Below
namespace Go.Proofs.Ytodmkbnoljilpaa
open Go.RowKit

theorem cb_lit0 {w : World} {B : Nat} (h : B ≤ w.heap.size) : Owns (w.alloc (.cells #[] 5)) B (.slice (some ⟨w.heap.size, 0, none⟩) 0 0) [] :=
  World.ownsRow_lit _ _ _ h (by unfold maxLen; simp) rfl
set_option maxRecDepth 100000 in
set_option maxHeartbeats 4000000 in
theorem l07Bytes_any (a : Option Addr) (n c : Nat) (ds : List VerD) (w : World) (hn : n ≤ 4096) (hr : VRow w a n ds) (hs : ∀ i (hi : i < ds.length), ds[i].k.size ≤ 255 ∧ ds[i].v.size ≤ 255) :
    Calls Try.prog 18 #[.slice a n c] w fun e w' => ∃ v, e = .returned v ∧ Owns w' w.heap.size v (cbAll ds) ∧ Below w.heap.size w w' := by
  have L := hide hr.1
  have R := hide hr
  have H := hide hs
  have O0 := hide (cb_lit0 (w := w) (Nat.le_refl _))
  have B0 := hide (show Below w.heap.size w (w.alloc (.cells #[] 5)) from (Below.refl _ _).alloc (Nat.le_refl _) _)
  clear hr hs
  go_enter Try.func18, Try.ntmps18
  go_wp2_with fail
  go_loopw [3, 4] (fun v i wr => ∃ j : Nat, i = .int .i64 (j : Int) ∧ j ≤ n ∧ Hid (Owns wr w.heap.size v (cbAll (ds.take j))) ∧ Hid (Below w.heap.size w wr)) (fun _ i _ => n - (intOf i).toNat)
  case atStart => exact ⟨0, rfl, Nat.zero_le _, O0, B0⟩
  case round =>
    clear O0 B0
    obtain ⟨j, rfl, hj, hO, hB⟩ := hrel
    by_cases hlt : j < n
    · have hj2 : j < ds.length := by rw [unhide L]; exact hlt
      have hjn : (j : Int) < (n : Int) := by omega
      obtain ⟨b, off, rfl, d0, d1, d2, d3⟩ := ((unhide R).below (unhide hB)).2 j hj2
      have hsr := (unhide hB).size
      have hl : (cbAll (ds.take j)).length ≤ 9000000 := by
        have h1 := cbAll_le (ds.take j) (fun i hi' => by have := unhide H i (by rw [List.length_take] at hi'; omega); simpa using this)
        rw [List.length_take] at h1
        omega
      have hsm := unhide H j hj2
      have TS := hide (show cbAll (ds.take (j + 1)) = cbAll (ds.take j) ++ cbOne ds[j] by rw [rb_take_snoc ds j hj2, cbAll_snoc])
      obtain ⟨b', off', e', x0, x1, x2, x3⟩ := (unhide R).2 j hj2
      cases e'
      have SK := hide (show ∀ u, Below w.heap.size w u → (fun u => Below w.heap.size w u ∧ u.cell? ⟨b, off + j * 4, none⟩ = some (.string ds[j].k) ∧ u.cell? ⟨b, off + j * 4 + 2, none⟩ = some (.string ds[j].v)) u from fun u hb => ⟨hb, (hb.cell (p := ⟨b, off + j * 4, none⟩) (cell_lt x0)).trans x0, (hb.cell (p := ⟨b, off + j * 4 + 2, none⟩) (cell_lt x2)).trans x2⟩)
      clear x0 x1 x2 x3
      generalize ds[j] = pd at *
      obtain ⟨pk, pt, pv, pg⟩ := pd
      simp only at d0 d1 d2 d3 hsm SK
      generalize cbAll (ds.take j) = zj at *
      cases pg
      · have TZ := hide (show zj ++ [1] ++ cbLine pk ++ cbLine pv = cbAll (ds.take (j + 1)) by rw [unhide TS]; simp [cbOne, cbMark])
        go_upto_region 8 with fail
        clear d0 d1 d2 d3
        refine wp_region_held_drew (S := (fun u => Below w.heap.size w u ∧ u.cell? ⟨b, off + j * 4, none⟩ = some (.string pk) ∧ u.cell? ⟨b, off + j * 4 + 2, none⟩ = some (.string pv))) (by kernel_rfl) (unhide SK _ (unhide hB).drew) (fun hHeld => ?_)
        refine anyH_take 0 18 (v := ?v1) rfl rfl (by kernel_rfl) (by kernel_rfl) (by kernel_rfl) (fun _ _ _ h => h) (by rfl) ?h1 hHeld ?r1
        case h1 => (intro w hSw; (try dsimp only at hSw); go_simp; try (with_reducible rfl))
        simp only [Act.put, List.setIfInBounds_toArray, List.set_cons_zero, List.set_cons_succ]
        refine anyH_take 1 19 (v := ?v2) rfl rfl (by kernel_rfl) (by kernel_rfl) (by kernel_rfl) (fun _ _ _ h => h) (by rfl) ?h2 hHeld ?r2
        case h2 => (intro w hSw; (try dsimp only at hSw); go_simp; try (with_reducible rfl))
        simp only [Act.put, List.setIfInBounds_toArray, List.set_cons_zero, List.set_cons_succ]
        refine anyH_take 4 22 (v := ?v3) rfl rfl (by kernel_rfl) (by kernel_rfl) (by kernel_rfl) (fun _ _ _ h => h) (by rfl) ?h3 hHeld ?r3
        case h3 => (intro w hSw; (try dsimp only at hSw); go_simp; try (with_reducible rfl))
        simp only [Act.put, List.setIfInBounds_toArray, List.set_cons_zero, List.set_cons_succ]
        refine anyH_take 5 23 (v := ?v4) rfl rfl (by kernel_rfl) (by kernel_rfl) (by kernel_rfl) (fun _ _ _ h => h) (by rfl) ?h4 hHeld ?r4
        case h4 => (intro w hSw; (try dsimp only at hSw); go_simp; try (with_reducible rfl))
        simp only [Act.put, List.setIfInBounds_toArray, List.set_cons_zero, List.set_cons_succ]
        refine anyH_take 6 24 (v := ?v5) rfl rfl (by kernel_rfl) (by kernel_rfl) (by kernel_rfl) (fun _ _ _ h => h) (by rfl) ?h5 hHeld ?r5
        case h5 => (intro w hSw; (try dsimp only at hSw); go_simp; try (with_reducible rfl))
        simp only [Act.put, List.setIfInBounds_toArray, List.set_cons_zero, List.set_cons_succ]
        refine anyH_take 7 25 (v := ?v6) rfl rfl (by kernel_rfl) (by kernel_rfl) (by kernel_rfl) (fun _ _ _ h => h) (by rfl) ?h6 hHeld ?r6
        case h6 => (intro w hSw; (try dsimp only at hSw); go_simp; try (with_reducible rfl))
        simp only [Act.put, List.setIfInBounds_toArray, List.set_cons_zero, List.set_cons_succ]
        refine anyH_take 8 26 (v := ?v7) rfl rfl (by kernel_rfl) (by kernel_rfl) (by kernel_rfl) (fun _ _ _ h => h) (by rfl) ?h7 hHeld ?r7
        case h7 => (intro w hSw; (try dsimp only at hSw); go_simp; try (with_reducible rfl))
        simp only [Act.put, List.setIfInBounds_toArray, List.set_cons_zero, List.set_cons_succ]
        refine anyH_take 11 29 (v := ?v8) rfl rfl (by kernel_rfl) (by kernel_rfl) (by kernel_rfl) (fun _ _ _ h => h) (by rfl) ?h8 hHeld ?r8
        case h8 => (intro w hSw; (try dsimp only at hSw); go_simp; try (with_reducible rfl))
        simp only [Act.put, List.setIfInBounds_toArray, List.set_cons_zero, List.set_cons_succ]
        refine anyH_take 12 30 (v := ?v9) rfl rfl (by kernel_rfl) (by kernel_rfl) (by kernel_rfl) (fun _ _ _ h => h) (by rfl) ?h9 hHeld ?r9
        case h9 => (intro w hSw; (try dsimp only at hSw); go_simp; try (with_reducible rfl))
        simp only [Act.put, List.setIfInBounds_toArray, List.set_cons_zero, List.set_cons_succ]
        refine anyH_take 13 31 (v := ?v10) rfl rfl (by kernel_rfl) (by kernel_rfl) (by kernel_rfl) (fun _ _ _ h => h) (by rfl) ?h10 hHeld ?r10
        case h10 => (intro w hSw; (try dsimp only at hSw); go_simp; try (with_reducible rfl))
        simp only [Act.put, List.setIfInBounds_toArray, List.set_cons_zero, List.set_cons_succ]
        refine anyH_take 14 32 (v := ?v11) rfl rfl (by kernel_rfl) (by kernel_rfl) (by kernel_rfl) (fun _ _ _ h => h) (by rfl) ?h11 hHeld ?r11
        case h11 => (intro w hSw; (try dsimp only at hSw); go_simp; try (with_reducible rfl))
        simp only [Act.put, List.setIfInBounds_toArray, List.set_cons_zero, List.set_cons_succ]
        refine anyH_take 15 33 (v := ?v12) rfl rfl (by kernel_rfl) (by kernel_rfl) (by kernel_rfl) (fun _ _ _ h => h) (by rfl) ?h12 hHeld ?r12
        case h12 => (intro w hSw; (try dsimp only at hSw); go_simp; try (with_reducible rfl))
        simp only [Act.put, List.setIfInBounds_toArray, List.set_cons_zero, List.set_cons_succ]
        refine wpAnyH_ready (rs := [2]) (by kernel_rfl) (by simp) ?_
        refine AllReadyH.cons rfl (fun K hK => ?_) AllReadyH.nil
        go_simp
        have bA := (unhide hB).drew.alloc (o := .cells #[.int .u8 1] 5) hsr
        refine hK.out _ _ (unhide SK _ bA) (fun hHeld => ?_)
        clear hK K
        refine wpAnyH_ready (rs := [3]) (by kernel_rfl) (by simp) ?_
        refine AllReadyH.cons rfl (fun K hK => ?_) AllReadyH.nil
        obtain ⟨v1, w1, hr1, o1, g1, _⟩ := cb_app (w := wr.drew.alloc (.cells #[.int .u8 1] 5)) (World.ownsRow.alloc (unhide hO) _) (cb_lit1 (w := wr.drew) 1 hsr) rfl (by omega) (by omega) (by omega) (Nat.le_trans hsr (by simp))
        refine cb_stepApp rfl (.tmp 18) (.tmp 20) 22 rfl _ _ v1 w1 (by first | rfl | (simp [Act.eval]; done) | (simp [Act.eval, Act.put]; done)) (by first | rfl | (simp [Act.eval]; done) | (simp [Act.eval, Act.put]; done)) hr1 ?_
        have b1 := cb_below_grown bA (Nat.le_trans hsr (by simp)) (World.ownsRow.alloc (unhide hO) _) g1
        clear hr1 g1
        refine hK.out _ _ (unhide SK _ b1) (fun hHeld => ?_)
        clear hK K
        simp only [Act.put, List.setIfInBounds_toArray]
        refine wpAnyH_ready (rs := [9]) (by kernel_rfl) (by simp) ?_
        refine AllReadyH.cons rfl (fun K hK => ?_) AllReadyH.nil
        go_simp
        refine (cb_line pk w1 hsm.1).mono ?_
        rintro e w2 ⟨ga, ca, rfl, oa, b2⟩
        have n2 := cb_apart o1 oa
        replace o1 := cb_below o1 b2
        replace b2 := b1.trans (b2.mono b1.size)
        refine hK.out _ _ (unhide SK _ b2) (fun hHeld => ?_)
        clear hK K
        refine wpAnyH_ready (rs := [10]) (by kernel_rfl) (by simp) ?_
        refine AllReadyH.cons rfl (fun K hK => ?_) AllReadyH.nil
        obtain ⟨v3, w3, hr3, o3, g3, m3⟩ := cb_app o1 oa (cbLine_length pk) (by omega) (by omega) (by simp; omega) b2.size
        refine cb_stepApp rfl (.tmp 21) (.tmp 27) 22 rfl _ _ v3 w3 (by first | rfl | (simp [Act.eval]; done) | (simp [Act.eval, Act.put]; done)) (by first | rfl | (simp [Act.eval]; done) | (simp [Act.eval, Act.put]; done)) hr3 ?_
        have b3 := cb_below_grown b2 b2.size o1 g3
        clear hr3 g3 m3 n2 oa
        refine hK.out _ _ (unhide SK _ b3) (fun hHeld => ?_)
        clear hK K
        simp only [Act.put, List.setIfInBounds_toArray]
        refine wpAnyH_ready (rs := [16]) (by kernel_rfl) (by simp) ?_
        refine AllReadyH.cons rfl (fun K hK => ?_) AllReadyH.nil
        go_simp
        refine (cb_line pv w3 hsm.2).mono ?_
        rintro e w4 ⟨gb, cb, rfl, ob, b4⟩
        replace o3 := cb_below o3 b4
        replace b4 := b3.trans (b4.mono b3.size)
        refine hK.out _ _ (unhide SK _ b4) (fun hHeld => ?_)
        clear hK K
        refine wpAnyH_ready (rs := [17]) (by kernel_rfl) (by simp) ?_
        refine AllReadyH.cons rfl (fun K hK => ?_) AllReadyH.nil
        obtain ⟨v5, w5, hr5, o5, g5, m5⟩ := cb_app o3 ob (cbLine_length pv) (by omega) (by omega) (by simp [cbLine_length]; omega) b4.size
        refine cb_stepApp rfl (.tmp 28) (.tmp 34) 22 rfl _ _ v5 w5 (by first | rfl | (simp [Act.eval]; done) | (simp [Act.eval, Act.put]; done)) (by first | rfl | (simp [Act.eval]; done) | (simp [Act.eval, Act.put]; done)) hr5 ?_
        have b5 := cb_below_grown b4 b4.size o3 g5
        clear hr5 g5 m5 ob
        refine hK.out _ _ (unhide SK _ b5) (fun hHeld => ?_)
        clear hK K
        simp only [Act.put, List.setIfInBounds_toArray]
        refine anyH_take 18 3 (v := ?v13) rfl rfl (by kernel_rfl) (by kernel_rfl) (by kernel_rfl) (fun _ _ _ h => h) (by rfl) ?h13 hHeld ?r13
        case h13 => (intro w hSw; (try dsimp only at hSw); go_simp; try (with_reducible rfl))
        simp only [Act.put]
        refine wpAnyH_done (by kernel_rfl) ?_ _
        clear b1 b2 b3 b4 bA o1 o3
        replace o5 := hide (unhide TZ ▸ o5)
        replace b5 := hide b5
        go_wp2_with fail
        go_roundw
        case rel => exact ⟨j + 1, by go_num, by omega, unhide o5, unhide b5⟩
        case measure => simp [intOf]; omega
      · have TZ := hide (show zj ++ [2] ++ cbLine pk ++ cbLine pv = cbAll (ds.take (j + 1)) by rw [unhide TS]; simp [cbOne, cbMark])
        go_upto_region 8 with fail
        clear d0 d1 d2 d3
        refine wp_region_held_drew (S := (fun u => Below w.heap.size w u ∧ u.cell? ⟨b, off + j * 4, none⟩ = some (.string pk) ∧ u.cell? ⟨b, off + j * 4 + 2, none⟩ = some (.string pv))) (by kernel_rfl) (unhide SK _ (unhide hB).drew) (fun hHeld => ?_)
        refine anyH_take 0 18 (v := ?v14) rfl rfl (by kernel_rfl) (by kernel_rfl) (by kernel_rfl) (fun _ _ _ h => h) (by rfl) ?h14 hHeld ?r14
        case h14 => (intro w hSw; (try dsimp only at hSw); go_simp; try (with_reducible rfl))
        simp only [Act.put, List.setIfInBounds_toArray, List.set_cons_zero, List.set_cons_succ]
        refine anyH_take 1 19 (v := ?v15) rfl rfl (by kernel_rfl) (by kernel_rfl) (by kernel_rfl) (fun _ _ _ h => h) (by rfl) ?h15 hHeld ?r15
        case h15 => (intro w hSw; (try dsimp only at hSw); go_simp; try (with_reducible rfl))
        simp only [Act.put, List.setIfInBounds_toArray, List.set_cons_zero, List.set_cons_succ]
        refine anyH_take 4 22 (v := ?v16) rfl rfl (by kernel_rfl) (by kernel_rfl) (by kernel_rfl) (fun _ _ _ h => h) (by rfl) ?h16 hHeld ?r16
        case h16 => (intro w hSw; (try dsimp only at hSw); go_simp; try (with_reducible rfl))
        simp only [Act.put, List.setIfInBounds_toArray, List.set_cons_zero, List.set_cons_succ]
        refine anyH_take 5 23 (v := ?v17) rfl rfl (by kernel_rfl) (by kernel_rfl) (by kernel_rfl) (fun _ _ _ h => h) (by rfl) ?h17 hHeld ?r17
        case h17 => (intro w hSw; (try dsimp only at hSw); go_simp; try (with_reducible rfl))
        simp only [Act.put, List.setIfInBounds_toArray, List.set_cons_zero, List.set_cons_succ]
        refine anyH_take 6 24 (v := ?v18) rfl rfl (by kernel_rfl) (by kernel_rfl) (by kernel_rfl) (fun _ _ _ h => h) (by rfl) ?h18 hHeld ?r18
        case h18 => (intro w hSw; (try dsimp only at hSw); go_simp; try (with_reducible rfl))
        simp only [Act.put, List.setIfInBounds_toArray, List.set_cons_zero, List.set_cons_succ]
        refine anyH_take 7 25 (v := ?v19) rfl rfl (by kernel_rfl) (by kernel_rfl) (by kernel_rfl) (fun _ _ _ h => h) (by rfl) ?h19 hHeld ?r19
        case h19 => (intro w hSw; (try dsimp only at hSw); go_simp; try (with_reducible rfl))
        simp only [Act.put, List.setIfInBounds_toArray, List.set_cons_zero, List.set_cons_succ]
        refine anyH_take 8 26 (v := ?v20) rfl rfl (by kernel_rfl) (by kernel_rfl) (by kernel_rfl) (fun _ _ _ h => h) (by rfl) ?h20 hHeld ?r20
        case h20 => (intro w hSw; (try dsimp only at hSw); go_simp; try (with_reducible rfl))
        simp only [Act.put, List.setIfInBounds_toArray, List.set_cons_zero, List.set_cons_succ]
        refine anyH_take 11 29 (v := ?v21) rfl rfl (by kernel_rfl) (by kernel_rfl) (by kernel_rfl) (fun _ _ _ h => h) (by rfl) ?h21 hHeld ?r21
        case h21 => (intro w hSw; (try dsimp only at hSw); go_simp; try (with_reducible rfl))
        simp only [Act.put, List.setIfInBounds_toArray, List.set_cons_zero, List.set_cons_succ]
        refine anyH_take 12 30 (v := ?v22) rfl rfl (by kernel_rfl) (by kernel_rfl) (by kernel_rfl) (fun _ _ _ h => h) (by rfl) ?h22 hHeld ?r22
        case h22 => (intro w hSw; (try dsimp only at hSw); go_simp; try (with_reducible rfl))
        simp only [Act.put, List.setIfInBounds_toArray, List.set_cons_zero, List.set_cons_succ]
        refine anyH_take 13 31 (v := ?v23) rfl rfl (by kernel_rfl) (by kernel_rfl) (by kernel_rfl) (fun _ _ _ h => h) (by rfl) ?h23 hHeld ?r23
        case h23 => (intro w hSw; (try dsimp only at hSw); go_simp; try (with_reducible rfl))
        simp only [Act.put, List.setIfInBounds_toArray, List.set_cons_zero, List.set_cons_succ]
        refine anyH_take 14 32 (v := ?v24) rfl rfl (by kernel_rfl) (by kernel_rfl) (by kernel_rfl) (fun _ _ _ h => h) (by rfl) ?h24 hHeld ?r24
        case h24 => (intro w hSw; (try dsimp only at hSw); go_simp; try (with_reducible rfl))
        simp only [Act.put, List.setIfInBounds_toArray, List.set_cons_zero, List.set_cons_succ]
        refine anyH_take 15 33 (v := ?v25) rfl rfl (by kernel_rfl) (by kernel_rfl) (by kernel_rfl) (fun _ _ _ h => h) (by rfl) ?h25 hHeld ?r25
        case h25 => (intro w hSw; (try dsimp only at hSw); go_simp; try (with_reducible rfl))
        simp only [Act.put, List.setIfInBounds_toArray, List.set_cons_zero, List.set_cons_succ]
        refine wpAnyH_ready (rs := [2]) (by kernel_rfl) (by simp) ?_
        refine AllReadyH.cons rfl (fun K hK => ?_) AllReadyH.nil
        go_simp
        have bA := (unhide hB).drew.alloc (o := .cells #[.int .u8 2] 5) hsr
        refine hK.out _ _ (unhide SK _ bA) (fun hHeld => ?_)
        clear hK K
        refine wpAnyH_ready (rs := [3]) (by kernel_rfl) (by simp) ?_
        refine AllReadyH.cons rfl (fun K hK => ?_) AllReadyH.nil
        obtain ⟨v1, w1, hr1, o1, g1, _⟩ := cb_app (w := wr.drew.alloc (.cells #[.int .u8 2] 5)) (World.ownsRow.alloc (unhide hO) _) (cb_lit1 (w := wr.drew) 2 hsr) rfl (by omega) (by omega) (by omega) (Nat.le_trans hsr (by simp))
        refine cb_stepApp rfl (.tmp 18) (.tmp 20) 22 rfl _ _ v1 w1 (by first | rfl | (simp [Act.eval]; done) | (simp [Act.eval, Act.put]; done)) (by first | rfl | (simp [Act.eval]; done) | (simp [Act.eval, Act.put]; done)) hr1 ?_
        have b1 := cb_below_grown bA (Nat.le_trans hsr (by simp)) (World.ownsRow.alloc (unhide hO) _) g1
        clear hr1 g1
        refine hK.out _ _ (unhide SK _ b1) (fun hHeld => ?_)
        clear hK K
        simp only [Act.put, List.setIfInBounds_toArray]
        refine wpAnyH_ready (rs := [9]) (by kernel_rfl) (by simp) ?_
        refine AllReadyH.cons rfl (fun K hK => ?_) AllReadyH.nil
        go_simp
        refine (cb_line pk w1 hsm.1).mono ?_
        rintro e w2 ⟨ga, ca, rfl, oa, b2⟩
        have n2 := cb_apart o1 oa
        replace o1 := cb_below o1 b2
        replace b2 := b1.trans (b2.mono b1.size)
        refine hK.out _ _ (unhide SK _ b2) (fun hHeld => ?_)
        clear hK K
        refine wpAnyH_ready (rs := [10]) (by kernel_rfl) (by simp) ?_
        refine AllReadyH.cons rfl (fun K hK => ?_) AllReadyH.nil
        obtain ⟨v3, w3, hr3, o3, g3, m3⟩ := cb_app o1 oa (cbLine_length pk) (by omega) (by omega) (by simp; omega) b2.size
        refine cb_stepApp rfl (.tmp 21) (.tmp 27) 22 rfl _ _ v3 w3 (by first | rfl | (simp [Act.eval]; done) | (simp [Act.eval, Act.put]; done)) (by first | rfl | (simp [Act.eval]; done) | (simp [Act.eval, Act.put]; done)) hr3 ?_
        have b3 := cb_below_grown b2 b2.size o1 g3
        clear hr3 g3 m3 n2 oa
        refine hK.out _ _ (unhide SK _ b3) (fun hHeld => ?_)
        clear hK K
        simp only [Act.put, List.setIfInBounds_toArray]
        refine wpAnyH_ready (rs := [16]) (by kernel_rfl) (by simp) ?_
        refine AllReadyH.cons rfl (fun K hK => ?_) AllReadyH.nil
        go_simp
        refine (cb_line pv w3 hsm.2).mono ?_
        rintro e w4 ⟨gb, cb, rfl, ob, b4⟩
        replace o3 := cb_below o3 b4
        replace b4 := b3.trans (b4.mono b3.size)
        refine hK.out _ _ (unhide SK _ b4) (fun hHeld => ?_)
        clear hK K
        refine wpAnyH_ready (rs := [17]) (by kernel_rfl) (by simp) ?_
        refine AllReadyH.cons rfl (fun K hK => ?_) AllReadyH.nil
        obtain ⟨v5, w5, hr5, o5, g5, m5⟩ := cb_app o3 ob (cbLine_length pv) (by omega) (by omega) (by simp [cbLine_length]; omega) b4.size
        refine cb_stepApp rfl (.tmp 28) (.tmp 34) 22 rfl _ _ v5 w5 (by first | rfl | (simp [Act.eval]; done) | (simp [Act.eval, Act.put]; done)) (by first | rfl | (simp [Act.eval]; done) | (simp [Act.eval, Act.put]; done)) hr5 ?_
        have b5 := cb_below_grown b4 b4.size o3 g5
        clear hr5 g5 m5 ob
        refine hK.out _ _ (unhide SK _ b5) (fun hHeld => ?_)
        clear hK K
        simp only [Act.put, List.setIfInBounds_toArray]
        refine anyH_take 18 3 (v := ?v26) rfl rfl (by kernel_rfl) (by kernel_rfl) (by kernel_rfl) (fun _ _ _ h => h) (by rfl) ?h26 hHeld ?r26
        case h26 => (intro w hSw; (try dsimp only at hSw); go_simp; try (with_reducible rfl))
        simp only [Act.put]
        refine wpAnyH_done (by kernel_rfl) ?_ _
        clear b1 b2 b3 b4 bA o1 o3
        replace o5 := hide (unhide TZ ▸ o5)
        replace b5 := hide b5
        go_wp2_with fail
        go_roundw
        case rel => exact ⟨j + 1, by go_num, by omega, unhide o5, unhide b5⟩
        case measure => simp [intOf]; omega
    · obtain rfl : j = n := by omega
      have Z := hide (show Owns wr w.heap.size _ (cbAll ds) by
        have := unhide hO
        rwa [List.take_of_length_le (by rw [unhide L]; exact Nat.le_refl _)] at this)
      have hjn : ¬ (j : Int) < (j : Int) := by omega
      go_wp2_with fail
      go_ret
      exact ⟨_, rfl, unhide Z, unhide hB⟩
set_option maxRecDepth 100000 in
set_option maxHeartbeats 4000000 in
theorem specCommitBytes_any (a : Option Addr) (n c : Nat) (ds : List VerD) (w : World) (hn : n ≤ 1048576) (hr : VRow w a n ds) :
    Calls Try.prog 7 #[.slice a n c] w fun e w' => CbRes ds w e w' := by
  have L := hide hr.1
  have R := hide hr
  by_cases h4 : n ≤ 4096
  · have g4 : ¬ (4096 : Int) < (n : Int) := by omega
    have l4 : ds.length ≤ 4096 := by rw [unhide L]; exact h4
    have C := hide (fun (u : World) (h : Below w.heap.size w u) (hc : comV ds = true) => l07Bytes_any a n c ds u h4 ((unhide R).below h) (comV_small hc).2)
    have W := hide (l07Writes_any a n c ds w hn hr)
    clear hr
    go_enter Try.func7, Try.ntmps7
    go_wp2_with fail
    refine (unhide W).mono ?_
    rintro e w1 ⟨rfl, hb⟩
    have hsz := hb.size
    clear W
    cases hx : comV ds
    · have Z := hide (cb_bad (w := w) (w' := w1.alloc (.cells #[] 5)) l4 hx (cb_lit0 (w := w1) hsz) (hb.alloc hsz _))
      go_wp2_with fail
      go_ret2
      exact unhide Z
    · have C' := hide (unhide C w1 hb hx)
      clear C
      go_wp2_with fail
      refine (unhide C').mono ?_
      rintro e w2 ⟨v, rfl, ho, hb2⟩
      have Z := hide (cb_good (w := w) l4 hx (cb_dn ho hsz) (hb.trans (hb2.mono hsz)))
      clear ho hb hb2 C'
      go_wp2_with fail
      go_ret2
      exact unhide Z
  · have g4 : (4096 : Int) < (n : Int) := by omega
    have Z := hide (cb_long (w := w) (by rw [unhide L]; exact h4) (cb_lit0 (w := w) (Nat.le_refl _)) ((Below.refl _ _).alloc (Nat.le_refl _) _))
    clear hr
    go_enter Try.func7, Try.ntmps7
    go_wp2_with fail
    go_ret2
    exact unhide Z
end Go.Proofs.Ytodmkbnoljilpaa

namespace Go.Proofs.Ytodmkbnoljilpaa
open Go.RowKit

/-- One reading behind another. -/
def bd {σ α β : Type} (f : σ → α × σ) (g : α → σ → β × σ) (s : σ) : β × σ := g (f s).1 (f s).2
/-- The same reading n times. -/
def rep {σ α : Type} (f : σ → α × σ) : Nat → σ → List α × σ
  | 0, s => ([], s)
  | n + 1, s => ((f s).1 :: (rep f n (f s).2).1, (rep f n (f s).2).2)
/-- What is left to be read, and whether it was too short. -/
abbrev Rs := List Int × Bool
def tk (n : Nat) (s : Rs) : List Int × Rs := if s.1.length < n then (List.replicate n 0, ([], true)) else (s.1.take n, (s.1.drop n, s.2))
def rOne : Rs → Int × Rs := bd (tk 1) fun t s => (t.getD 0 0, s)
def rText : Rs → ByteArray × Rs := bd rOne fun n => bd (tk n.toNat) fun t s => (strOfNums t, s)
/-- Bytes. -/
def By (xs : List Int) : Prop := ∀ x ∈ xs, 0 ≤ x ∧ x ≤ 255
theorem By.take {xs : List Int} (h : By xs) (n : Nat) : By (xs.take n) := fun x hx => h x (List.mem_of_mem_take hx)
theorem By.drop {xs : List Int} (h : By xs) (n : Nat) : By (xs.drop n) := fun x hx => h x (List.mem_of_mem_drop hx)
theorem By.getD {xs : List Int} (h : By xs) (i : Nat) : 0 ≤ xs.getD i 0 ∧ xs.getD i 0 ≤ 255 := by
  rw [List.getD_eq_getElem?_getD]
  cases hi : xs[i]? with
  | none => simp
  | some x => exact h x (List.mem_of_getElem? hi)
/-- A reading of bytes leaves bytes, no more than there were, and what was short stays so. -/
structure Good {α : Type} (f : Rs → α × Rs) : Prop where
  by_ : ∀ s, By s.1 → By (f s).2.1
  less : ∀ s, (f s).2.1.length ≤ s.1.length
  short : ∀ s, s.2 = true → (f s).2.2 = true
theorem Good.bd {α β : Type} {f : Rs → α × Rs} {g : α → Rs → β × Rs} (hf : Good f) (hg : ∀ a, Good (g a)) : Good (bd f g) :=
  ⟨fun s h => (hg _).by_ _ (hf.by_ s h), fun s => Nat.le_trans ((hg _).less _) (hf.less s), fun s h => (hg _).short _ (hf.short s h)⟩
theorem Good.pure {α : Type} (a : α) : Good (fun s => (a, s)) := ⟨fun _ h => h, fun _ => Nat.le_refl _, fun _ h => h⟩
theorem Good.rep {α : Type} {f : Rs → α × Rs} (hf : Good f) (n : Nat) : Good (rep f n) := by
  induction n with
  | zero => exact Good.pure _
  | succ n ih => exact ⟨fun s h => ih.by_ _ (hf.by_ s h), fun s => Nat.le_trans (ih.less _) (hf.less s), fun s h => ih.short _ (hf.short s h)⟩
theorem good_tk (n : Nat) : Good (tk n) := by
  refine ⟨fun s h => ?_, fun s => ?_, fun s h => ?_⟩ <;> unfold tk <;> split
  · intro x hx; cases hx
  · exact h.drop n
  · simp
  · simp
  · rfl
  · exact h
theorem good_one : Good rOne := (good_tk 1).bd fun _ => Good.pure _
theorem good_text : Good rText := good_one.bd fun _ => (good_tk _).bd fun _ => Good.pure _
theorem tk_by {s : Rs} (h : By s.1) (n : Nat) : By (tk n s).1 := by
  unfold tk
  split
  · intro x hx
    rw [List.mem_replicate] at hx
    rw [hx.2]
    omega
  · exact h.take n
theorem rOne_le {s : Rs} (h : By s.1) : 0 ≤ (rOne s).1 ∧ (rOne s).1 ≤ 255 := (tk_by h 1).getD 0
/-! ### The specification's reader: a place and a flag -/
abbrev Ss := Nat × Bool
/-- A reading n times, as long as nothing is bad. -/
def repS {α : Type} (f : Ss → α × Ss) : Nat → Ss → List α × Ss
  | 0, s => ([], s)
  | n + 1, s => if s.2 = true then ([], s) else ((f s).1 :: (repS f n (f s).2).1, (repS f n (f s).2).2)
theorem repS_bad {α : Type} {f : Ss → α × Ss} {s : Ss} (h : s.2 = true) (n : Nat) : repS f n s = ([], s) := by
  cases n with
  | zero => rfl
  | succ n => rw [repS, if_pos h]
/-! ### Both come to one end -/
/-- The two readers stand at one place, or both are short. -/
def Both (xs : List Int) (r : Rs) (s : Ss) : Prop := r.2 = s.2 ∧ (s.2 = false → r.1 = xs.drop s.1 ∧ s.1 ≤ xs.length)
/-- Two readings that do the same, as long as nothing is short. -/
structure Like {α : Type} (xs : List Int) (f : Rs → α × Rs) (g : Ss → α × Ss) : Prop where
  both : ∀ r s, Both xs r s → Both xs (f r).2 (g s).2
  same : ∀ r s, Both xs r s → (g s).2.2 = false → (f r).1 = (g s).1
  bad : ∀ s, s.2 = true → (g s).2.2 = true
theorem Like.ok {α : Type} {xs : List Int} {f : Rs → α × Rs} {g : Ss → α × Ss} (h : Like xs f g) {s : Ss} (hb : (g s).2.2 = false) : s.2 = false := by
  cases h0 : s.2 with
  | false => rfl
  | true => rw [h.bad s h0] at hb; cases hb
theorem both_bad {xs : List Int} {r : Rs} {s : Ss} (h1 : r.2 = true) (h2 : s.2 = true) : Both xs r s := ⟨h1.trans h2.symm, fun h => by rw [h2] at h; cases h⟩
theorem Like.bd {α β : Type} {xs : List Int} {f : Rs → α × Rs} {g : Ss → α × Ss} {f' : α → Rs → β × Rs} {g' : α → Ss → β × Ss} (h : Like xs f g) (h' : ∀ a, Like xs (f' a) (g' a)) (hf : ∀ a, Good (f' a)) : Like xs (bd f f') (bd g g') := by
  refine ⟨fun r s hb => ?_, fun r s hb hg => ?_, fun s hs => (h' _).bad _ (h.bad s hs)⟩
  · by_cases hg : (g s).2.2 = true
    · exact both_bad ((hf _).short _ ((h.both r s hb).1.trans hg)) ((h' _).bad _ hg)
    · have hg' : (g s).2.2 = false := by simpa using hg
      show Both xs (f' (f r).1 (f r).2).2 (g' (g s).1 (g s).2).2
      rw [h.same r s hb hg']
      exact (h' _).both _ _ (h.both r s hb)
  · have hg' : (g s).2.2 = false := (h' _).ok hg
    show (f' (f r).1 (f r).2).1 = (g' (g s).1 (g s).2).1
    rw [h.same r s hb hg']
    exact (h' _).same _ _ (h.both r s hb) hg
theorem Like.pure {α : Type} {xs : List Int} (a : α) : Like xs (fun r => (a, r)) (fun s => (a, s)) := ⟨fun _ _ h => h, fun _ _ _ _ => rfl, fun _ h => h⟩
theorem Like.rep {α : Type} {xs : List Int} {f : Rs → α × Rs} {g : Ss → α × Ss} (h : Like xs f g) (hf : Good f) (n : Nat) : Like xs (rep f n) (repS g n) := by
  induction n with
  | zero => exact Like.pure _
  | succ n ih =>
    refine ⟨fun r s hb => ?_, fun r s hb hg => ?_, fun s hs => ?_⟩
    · by_cases hs : s.2 = true
      · rw [repS_bad hs]
        exact both_bad ((hf.rep (n + 1)).short _ (hb.1.trans hs)) hs
      · rw [repS, if_neg hs]
        exact ih.both _ _ (h.both r s hb)
    · by_cases hs : s.2 = true
      · rw [repS_bad hs] at hg
        simp only at hg
        rw [hs] at hg
        cases hg
      · rw [repS, if_neg hs] at hg ⊢
        rw [Go.Proofs.Ytodmkbnoljilpaa.rep]
        simp only at hg ⊢
        rw [h.same r s hb (ih.ok hg), ih.same _ _ (h.both r s hb) hg]
    · rw [repS_bad hs]
      exact hs
end Go.Proofs.Ytodmkbnoljilpaa

namespace Go.Proofs.Ytodmkbnoljilpaa
open Go.RowKit

theorem rc_str (s : ByteArray) : strOfNums (cbText s) = s := by
  unfold strOfNums cbText
  rw [List.map_map]
  have e : (fun n : Int => UInt8.ofNat n.toNat) ∘ (fun c : UInt8 => (c.toNat : Int)) = id := by
    funext c
    simp
  rw [e, List.map_id]
theorem rc_tk (xs rest : List Int) (b : Bool) : tk xs.length (xs ++ rest, b) = (xs, (rest, b)) := by
  unfold tk
  rw [if_neg (by simp), List.take_left, List.drop_left]
theorem rc_one (x : Int) (rest : List Int) (b : Bool) : rOne (x :: rest, b) = (x, (rest, b)) := by
  have := rc_tk [x] rest b
  unfold rOne bd
  rw [show (x :: rest) = [x] ++ rest from rfl, show (1 : Nat) = [x].length from rfl, this]
  rfl
theorem rc_text (t : ByteArray) (rest : List Int) (b : Bool) : rText (cbLine t ++ rest, b) = (t, (rest, b)) := by
  have h := rc_tk (cbText t) rest b
  rw [cbText_length] at h
  unfold rText bd
  rw [show cbLine t ++ rest = (t.size : Int) :: (cbText t ++ rest) from rfl, rc_one]
  show (strOfNums (tk (t.size : Int).toNat (cbText t ++ rest, b)).1, (tk (t.size : Int).toNat (cbText t ++ rest, b)).2) = _
  rw [show ((t.size : Int)).toNat = t.size by omega, h, rc_str]
theorem rc_bd {σ α β : Type} {f : σ → α × σ} {g : α → σ → β × σ} {s s' : σ} {x : α} (h : f s = (x, s')) : bd f g s = g x s' := by unfold bd; rw [h]
/-- A write of a time, read. -/
def rVer (t : Int) : Rs → VerD × Rs := bd rOne fun d => bd rText fun k => bd rText fun v s => (⟨k, t, v, decide (d = 2)⟩, s)
theorem rc_mark (g : Bool) : decide (cbMark g = 2) = g := by cases g <;> rfl
theorem rc_ver (d : VerD) (rest : List Int) (b : Bool) : rVer d.t (cbOne d ++ rest, b) = (d, (rest, b)) := by
  unfold rVer cbOne
  rw [show (cbMark d.g :: (cbLine d.k ++ cbLine d.v)) ++ rest = cbMark d.g :: (cbLine d.k ++ (cbLine d.v ++ rest)) by simp]
  refine (rc_bd (rc_one _ _ _)).trans ((rc_bd (rc_text _ _ _)).trans ((rc_bd (rc_text _ _ _)).trans ?_))
  rw [rc_mark]
theorem one_less (s : Rs) (h : s.1 ≠ []) : (rOne s).2.1.length < s.1.length := by
  obtain ⟨xs, b⟩ := s
  cases xs with
  | nil => exact absurd rfl h
  | cons x r => rw [rc_one]; simp
theorem ver_less (t : Int) (s : Rs) (h : s.1 ≠ []) : (rVer t s).2.1.length < s.1.length := by
  have h1 := one_less s h
  have e : (rVer t s).2.1 = (bd rText (fun _ => bd rText fun _ s => ((), s)) (rOne s).2).2.1 := rfl
  have h3 := (good_text.bd (g := fun _ => bd rText fun _ s => ((), s)) fun _ => good_text.bd fun _ => Good.pure ()).less (rOne s).2
  rw [e]
  omega
/-- Writes up to the end, whatever stands there. -/
def rAll (t : Int) (s : Rs) : List VerD := if _h : s.1 = [] then [] else (rVer t s).1 :: rAll t (rVer t s).2
termination_by s.1.length
decreasing_by exact ver_less t s _h
theorem rAll_nil (t : Int) {s : Rs} (h : s.1 = []) : rAll t s = [] := by rw [rAll, dif_pos h]
theorem rAll_cons (t : Int) {s : Rs} (h : s.1 ≠ []) : rAll t s = (rVer t s).1 :: rAll t (rVer t s).2 := by rw [rAll, dif_neg h]
theorem rAll_back (t : Int) : ∀ (ds : List VerD) (b : Bool), oneT ds t = true → rAll t (cbAll ds, b) = ds
  | [], b, _ => rAll_nil t rfl
  | d :: r, b, h => by
    have h0 : d.t = t := oneT_at (i := 0) h (by simp)
    have hr : oneT r t = true := oneT_true fun i hi => oneT_at (i := i + 1) h (by simpa using hi)
    have e : cbAll (d :: r) = cbOne d ++ cbAll r := rfl
    rw [rAll_cons t (by rw [e]; simp [cbOne]), e, ← h0, rc_ver]
    simp only
    rw [h0, rAll_back t r b hr]
/-! ### As the specification reads -/
/-! ### Both come to one end -/
def rcL (t : Int) (xs : List Int) : List VerD := rAll t (xs, false)
/-- They are a commit's bytes. -/
def rcOK (t : Int) (xs : List Int) : Bool := wrV (rcL t xs) t && decide (cbAll (rcL t xs) = xs)
theorem com_wr {ds : List VerD} {t : Int} (h : oneT ds t = true) : comV ds = wrV ds t := by
  unfold comV
  cases ds with
  | nil => rfl
  | cons d r =>
    have h0 : d.t = t := oneT_at (i := 0) h (by simp)
    rw [decide_eq_false (by simp)]
    show (false || wrV (d :: r) d.t) = _
    rw [h0]
    rfl
end Go.Proofs.Ytodmkbnoljilpaa

namespace Go.Proofs.Ytodmkbnoljilpaa
open Go.RowKit

/-- A reader in memory: what is left, and whether it was too short. -/
def RdAt (w : World) (rb D : Nat) (s : Rs) : Prop :=
  ∃ a n c, w.heap[rb]? = some (.cells #[.slice a n c, .bool s.2] 60 (0, 0)) ∧ Row w a n s.1 ∧ n ≤ c ∧ (∀ x, a = some x → x.block ≠ rb ∧ x.block < D) ∧ n ≤ 65536 ∧ rb < D
theorem wr_cell (w : World) (b o : Nat) (v : Value) : Wr (fun i => i = b) w (w.setCell ⟨b, o, none⟩ v) := ⟨rfl, rfl, rfl, by simp [World.setCell], fun k _ hk => Below.heap_setCell _ _ _ _ hk⟩
theorem Row.wr {P : Nat → Prop} {w w' : World} {a : Option Addr} {n : Nat} {xs : List Int} (h : Row w a n xs) (hw : Wr P w w') (hp : ∀ x, a = some x → ¬ P x.block) : Row w' a n xs := by
  refine ⟨h.1, fun i hi => ?_⟩
  obtain ⟨b, off, e, c⟩ := h.2 i hi
  exact ⟨b, off, e, (World.cell?_of_block (w := w) (hw.block b (cell_lt c) (hp _ e))).trans c⟩
theorem heap_lt1 {w : World} {b : Nat} {o : Obj} (h : w.heap[b]? = some o) : b < w.heap.size := (Array.getElem?_eq_some_iff.1 h).1
theorem RdAt.wr {P : Nat → Prop} {w w' : World} {rb D : Nat} {s : Rs} (h : RdAt w rb D s) (hw : Wr P w w') (hp : ∀ i, P i → D ≤ i) : RdAt w' rb D s := by
  obtain ⟨a, n, c, h1, h2, h3, h4, h5, h6⟩ := h
  exact ⟨a, n, c, (hw.block rb (heap_lt1 h1) (fun h => by have := hp _ h; omega)).trans h1, h2.wr hw (fun x hx h => by have := hp _ h; have := (h4 x hx).2; omega), h3, h4, h5, h6⟩
theorem RdAt.below {w w' : World} {rb D : Nat} {s : Rs} (h : RdAt w rb D s) (hb : Below w.heap.size w w') : RdAt w' rb D s :=
  h.wr (P := fun _ => False) (Wr.of_below hb) (fun _ h => h.elim)
theorem RdAt.lt {w : World} {rb D : Nat} {s : Rs} (h : RdAt w rb D s) : rb < w.heap.size ∧ rb < D := by obtain ⟨a, n, c, h1, _, _, _, _, h6⟩ := h; exact ⟨heap_lt1 h1, h6⟩
theorem add_block (y : Addr) (k : Nat) : (y.add k).block = y.block := by
  unfold Addr.add
  split
  · rfl
  · rfl
theorem map_add0 (a : Option Addr) : a.map (·.add 0) = a := by cases a <;> simp [Addr.add]
theorem row_take {w : World} {a : Option Addr} {n k : Nat} {xs : List Int} (h : Row w a n xs) (hk : k ≤ n) : Row w a k (xs.take k) := by
  refine ⟨by rw [List.length_take, h.1]; omega, fun i hi => ?_⟩
  obtain ⟨b, off, e, c⟩ := h.2 i (by omega)
  exact ⟨b, off, e, by rw [c]; simp [List.getD_eq_getElem?_getD, hi]⟩
theorem row_drop {w : World} {b off n k : Nat} {xs : List Int} (h : Row w (some ⟨b, off, none⟩) n xs) (hk : k ≤ n) : Row w (some ⟨b, off + k, none⟩) (n - k) (xs.drop k) := by
  refine ⟨by rw [List.length_drop, h.1], fun i hi => ?_⟩
  obtain ⟨b', off', e, c⟩ := h.2 (k + i) (by omega)
  cases e
  exact ⟨b, off + k, rfl, by rw [Nat.add_assoc, c]; simp [List.getD_eq_getElem?_getD, List.getElem?_drop]⟩
/-- The reader's two cells stored anew. -/
theorem rd_set {w : World} {rb : Nat} {v0 v1 : Value} {t : TypeId} (h : w.heap[rb]? = some (.cells #[v0, v1] t (0, 0))) (u : Value) : (w.setCell ⟨rb, 0, none⟩ u).heap[rb]? = some (.cells #[u, v1] t (0, 0)) := by
  simpa using heap_set h 0 u
theorem rd_set1 {w : World} {rb : Nat} {v0 v1 : Value} {t : TypeId} (h : w.heap[rb]? = some (.cells #[v0, v1] t (0, 0))) (u : Value) : (w.setCell ⟨rb, 1, none⟩ u).heap[rb]? = some (.cells #[v0, u] t (0, 0)) := by
  simpa using heap_set h 1 u
theorem rd_cells {w : World} {rb : Nat} {v0 v1 : Value} {t : TypeId} (h : w.heap[rb]? = some (.cells #[v0, v1] t (0, 0))) : w.cell? ⟨rb, 0, none⟩ = some v0 ∧ w.cell? ⟨rb, 1, none⟩ = some v1 ∧ w.frozen? ⟨rb, 0, none⟩ = false ∧ w.frozen? ⟨rb, 1, none⟩ = false := by
  refine ⟨?_, ?_, ?_, ?_⟩ <;> simp [World.cell?, World.frozen?, h]
/-- What take leaves. -/
def TkRes (w : World) (rb D k : Nat) (s : Rs) (e : Ending) (w' : World) : Prop :=
  ∃ a c, e = .returned (.slice a k c) ∧ Row w' a k (tk k s).1 ∧ RdAt w' rb D (tk k s).2 ∧ Wr (fun i => i = rb) w w'
set_option maxRecDepth 100000 in
set_option maxHeartbeats 4000000 in
theorem take_any (rb D k : Nat) (s : Rs) (w : World) (h : RdAt w rb D s) (hk : k ≤ 65535) :
    Calls Try.prog 53 #[.pointer (some ⟨rb, 0, none⟩), .int .i64 k] w fun e w' => TkRes w rb D k s e w' := by
  obtain ⟨i0, hi, hz0, hz1, hz2⟩ := info_parts Try.infoU8
  obtain ⟨a, n, c, h1, h2, h3, h4, h5, h6⟩ := h
  obtain ⟨c0, c1, f0, f1⟩ := rd_cells h1
  have hL := h2.1
  by_cases hs : n < k
  · have ET := hide (show tk k s = (List.replicate k 0, ([], true)) by unfold tk; rw [if_pos (by omega)])
    have S1 := rd_set1 h1 (.bool true)
    have S2 := rd_set S1 (.slice none 0 0)
    have W2 := (wr_cell w rb 1 (.bool true)).trans (wr_cell (w.setCell ⟨rb, 1, none⟩ (.bool true)) rb 0 (.slice none 0 0))
    have g0 := (rd_cells S1).2.2.1
    have HS := hide S2
    have HW := hide W2
    have hsz : rb < ((w.setCell ⟨rb, 1, none⟩ (.bool true)).setCell ⟨rb, 0, none⟩ (.slice none 0 0)).heap.size := heap_lt1 S2
    have hki : (n : Int) < (k : Int) := by omega
    clear h1 h2 S1 S2 W2 hL
    go_enter Try.func53, Try.ntmps53
    go_wp2_with (at_make; refine wpList_make_full _ rfl _ _ 22 rfl w.heap.size 5 i0 (.int .u8 0) 1 Try.underlying22 hi hz0 hz1 _ _ _ _ k rfl rfl rfl rfl (by rw [hz2]; omega) (by unfold maxLen; omega) (by simp) ?_)
    intro w1 hown hgrow
    rw [toList_madeCells_one] at hown
    have hr : Row w1 (some ⟨w.heap.size, 0, none⟩) k (List.replicate k 0) := by
      refine ⟨by simp, fun i hi => ⟨_, 0, rfl, ?_⟩⟩
      rw [Nat.zero_add, hown.cellAt i (by omega)]
      simp [hi, List.getD_eq_getElem?_getD]
    have hwr : Wr (fun i => i = rb) w w1 := (unhide HW).trans (Wr.of_grown hgrow (fun i h => by cases h))
    have hR : RdAt w1 rb D ([], true) := ⟨none, 0, 0, (hgrow.block rb hsz (by simp)).trans (unhide HS), ⟨rfl, fun i hi => absurd hi (Nat.not_lt_zero _)⟩, Nat.le_refl _, (fun x hx => by cases hx), by omega, h6⟩
    have FIN := hide (show TkRes w rb D k s (.returned (.slice (some ⟨w.heap.size, 0, none⟩) k k)) w1 from ⟨_, _, rfl, by rw [unhide ET]; exact hr, by rw [unhide ET]; exact hR, hwr⟩)
    clear hown hgrow hr hwr hR
    go_wp2_with fail
    go_ret
    exact unhide FIN
  · have hkn : k ≤ n := by omega
    have hki : ¬ ((n : Int) < (k : Int)) := by omega
    have hk1 : (0 : Int) ≤ (k : Int) := by omega
    have hk2 : (k : Int) ≤ (c : Int) := by omega
    have hk3 : (k : Int) ≤ (n : Int) := by omega
    have ET := hide (show tk k s = (s.1.take k, (s.1.drop k, s.2)) by unfold tk; rw [if_neg (by omega)])
    obtain ⟨av, hav⟩ : ∃ av, av = (if c = k then a else a.map (·.add k)) := ⟨_, rfl⟩
    have hD : Row w av (n - k) (s.1.drop k) ∧ ∀ x, av = some x → x.block ≠ rb ∧ x.block < D := by
      by_cases hck : c = k
      · rw [if_pos hck] at hav
        have : n - k = 0 := by omega
        rw [this, hav]
        exact ⟨⟨by rw [List.length_drop, h2.1]; omega, fun i hi => absurd hi (Nat.not_lt_zero _)⟩, h4⟩
      · rw [if_neg hck] at hav
        by_cases h0 : n = 0
        · have : n - k = 0 := by omega
          rw [this]
          refine ⟨⟨by rw [List.length_drop, h2.1]; omega, fun i hi => absurd hi (Nat.not_lt_zero _)⟩, fun x hx => ?_⟩
          rw [hav] at hx
          cases ha : a with
          | none => rw [ha] at hx; cases hx
          | some y =>
            rw [ha] at hx
            simp only [Option.map_some, Option.some.injEq] at hx
            have := h4 y ha
            rw [← hx, add_block]
            exact this
        · obtain ⟨b, off, ha, _⟩ := h2.2 0 (by omega)
          rw [ha] at hav h2
          have e : (⟨b, off, none⟩ : Addr).add k = ⟨b, off + k, none⟩ := by unfold Addr.add; split <;> simp_all
          rw [hav]
          simp only [Option.map_some, e]
          exact ⟨row_drop h2 hkn, fun x hx => by injection hx with hx; rw [← hx]; exact h4 ⟨b, off, none⟩ ha⟩
    have T := row_take h2 hkn
    have S2 := rd_set h1 (.slice av (n - k) (c - k))
    have W2 := wr_cell w rb 0 (.slice av (n - k) (c - k))
    have FIN := hide (show TkRes w rb D k s (.returned (.slice a k k)) (w.setCell ⟨rb, 0, none⟩ (.slice av (n - k) (c - k))) from ⟨_, _, rfl, by rw [unhide ET]; exact T.wr W2 (fun x hx => (h4 x hx).1), by rw [unhide ET]; exact ⟨_, _, _, S2, hD.1.wr W2 (fun x hx => (hD.2 x hx).1), by omega, hD.2, by omega, h6⟩, W2⟩)
    have fin : ∀ v, v = .slice av (n - k) (c - k) → TkRes w rb D k s (.returned (.slice a k k)) (w.setCell ⟨rb, 0, none⟩ v) := fun v hv => by rw [hv]; exact unhide FIN
    have FN := hide fin
    have HAV := hide hav
    clear h1 h2 hD T S2 W2 FIN fin hav
    by_cases hck : c = k
    · subst hck
      have ea : av = a := by rw [unhide HAV, if_pos rfl]
      go_enter Try.func53, Try.ntmps53
      go_wp2_with fail
      go_ret
      exact unhide FN _ (by rw [ea]; simp; omega)
    · have hck' : ¬ (k = c) := fun h => hck h.symm
      have ea : av = a.map (·.add k) := by rw [unhide HAV, if_neg hck]
      by_cases hk0 : k = 0
      · subst hk0
        go_enter Try.func53, Try.ntmps53
        go_wp2_with fail
        go_ret
        exact unhide FN _ (by rw [ea, map_add0]; simp)
      · go_enter Try.func53, Try.ntmps53
        go_wp2_with fail
        go_ret
        exact unhide FN _ (by rw [ea])
end Go.Proofs.Ytodmkbnoljilpaa

namespace Go.Proofs.Ytodmkbnoljilpaa
open Go.RowKit

end Go.Proofs.Ytodmkbnoljilpaa

namespace Go.Proofs.Ytodmkbnoljilpaa
open Go.RowKit

/-- What a reading leaves: its answer, the reader behind it, nothing else written. -/
def Rds (w : World) (rb D : Nat) (v : Value) (s : Rs) (e : Ending) (w' : World) : Prop := e = .returned v ∧ RdAt w' rb D s ∧ Wr (fun i => i = rb) w w'
set_option maxHeartbeats 1000000 in
theorem one_any (rb D : Nat) (s : Rs) (w : World) (h : RdAt w rb D s) (hb : By s.1) :
    Calls Try.prog 39 #[.pointer (some ⟨rb, 0, none⟩)] w fun e w' => Rds w rb D (.int .i64 (rOne s).1) (rOne s).2 e w' := by
  have LE := hide (rOne_le hb)
  have H := hide h
  clear h
  go_enter Try.func39, Try.ntmps39
  go_wp2_with fail
  refine (take_any rb D 1 s w (unhide H) (by omega)).mono ?_
  rintro e w1 ⟨a, c, rfl, hr, hR, hw⟩
  obtain ⟨b, off, rfl, c0⟩ := hr.2 0 (by omega)
  have e0 : (tk 1 s).1.getD 0 0 = (rOne s).1 := rfl
  rw [e0, Nat.add_zero] at c0
  have w2 : IntKind.i64.wrap (rOne s).1 = (rOne s).1 := by have := unhide LE; rw [IntKind.wrap_i64]; omega
  obtain ⟨x, hx⟩ : ∃ x, x = (rOne s).1 := ⟨_, rfl⟩
  have FIN := hide (show Rds w rb D (.int .i64 (rOne s).1) (rOne s).2 (.returned (.int .i64 x)) w1 from ⟨by rw [hx], hR, hw⟩)
  rw [← hx] at c0 w2
  clear hr hR hw e0 hx
  go_wp2_with fail
  go_ret
  exact unhide FIN
theorem conv_text {w : World} {a : Option Addr} {n c : Nat} {xs : List Int} (h : Row w a n xs) : (convert 22 9 (.slice a n c)).run Try.prog w = .ok (.string (strOfNums xs)) w := by
  by_cases hn : 0 < n
  · obtain ⟨b, off, rfl, _⟩ := h.2 0 hn
    exact run_convert_bytes_arg _ 22 5 Try.underlying22 Try.underlying5 b off n c xs h.1 (fun i hi => by
      obtain ⟨b', off', e, hc⟩ := h.2 i hi
      cases e
      exact hc) 9 Try.underlying9
  · obtain rfl : n = 0 := by omega
    obtain rfl : xs = [] := List.eq_nil_of_length_eq_zero h.1
    cases a with
    | none => rw [run_convert_bytes_string (P := Try.prog) w 22 9 5 none 0 c Try.underlying22 Try.underlying5 Try.underlying9]; rfl
    | some x =>
      obtain ⟨b, off, spot⟩ := x
      rw [run_convert_bytes_string (P := Try.prog) w 22 9 5 (some ⟨b, off, spot⟩) 0 c Try.underlying22 Try.underlying5 Try.underlying9]; rfl
set_option maxHeartbeats 1000000 in
theorem text_any (rb D : Nat) (s : Rs) (w : World) (h : RdAt w rb D s) (hb : By s.1) :
    Calls Try.prog 40 #[.pointer (some ⟨rb, 0, none⟩)] w fun e w' => Rds w rb D (.string (rText s).1) (rText s).2 e w' := by
  have H := hide h
  have LE := rOne_le hb
  obtain ⟨m, hm⟩ : ∃ m : Nat, (rOne s).1 = (m : Int) := Int.eq_ofNat_of_zero_le LE.1
  have ET := hide (show rText s = (strOfNums (tk m (rOne s).2).1, (tk m (rOne s).2).2) by
    have : (rOne s).1.toNat = m := by omega
    rw [← this]; rfl)
  have HM := hide hm
  have hm2 : m ≤ 255 := by omega
  clear h hm LE
  go_enter Try.func40, Try.ntmps40
  go_wp2_with fail
  refine (one_any rb D s w (unhide H) hb).mono ?_
  rintro e w1 ⟨rfl, hR, hw⟩
  have HA := hide hR
  have HW := hide hw
  clear hR hw
  rw [unhide HM]
  go_wp2_with fail
  refine (take_any rb D m (rOne s).2 w1 (unhide HA) (by omega)).mono ?_
  rintro e w2 ⟨a, c, rfl, hr, hR, hw⟩
  have hcv := conv_text (c := c) hr
  have FIN := hide (show Rds w rb D (.string (rText s).1) (rText s).2 (.returned (.string (strOfNums (tk m (rOne s).2).1))) w2 from ⟨by rw [unhide ET], by rw [unhide ET]; exact hR, (unhide HW).trans hw⟩)
  clear hr hR hw
  generalize strOfNums (tk m (rOne s).2).1 = x at *
  go_wp2_with fail
  go_ret
  exact unhide FIN
end Go.Proofs.Ytodmkbnoljilpaa

namespace Go.Proofs.Ytodmkbnoljilpaa
open Go.RowKit

/-- An append whose run is known. -/
theorem rc_wpApp {P : Program} {ops : Array Oper} {rest : List Oper} {o : Oper} {a : Act} {w : World} {Q : Exit → Act → World → Prop}
    (hg : o.guard = none) (s x : Operand) (t : TypeId) (hop : o.op = Op.call { callee := Callee.builtin Builtin.append, args := #[s, x], argTypes := #[t, t] })
    (vs vx v' : Value) (w' : World) (hs : a.eval s = vs) (hx : a.eval x = vx) (hrun : (Builtin.append_ #[t, t] o.type #[vs, vx]).run P w = .ok v' w') (h : wpList P ops Q rest (a.put o.dst v') w') :
    wpList P ops Q (o :: rest) a w :=
  wpList_plain hg fun _ hK => by
    unfold Oper.wp
    simp [execOp, hop, resolve, invoke, builtin, hs, hx, hrun, Result.andThen]
    exact hK _ _ h
/-- One version appended to a row of the call's own. -/
theorem rc_app {w : World} {B : Nat} {v : Value} {ds : List VerD} {d : VerD} (ho : VOwns w B v ds) (hz : ds.length ≤ 1000000) (hB : B ≤ w.heap.size) :
    ∃ v' w', (Builtin.append_ #[27, 27] 27 #[v, .slice (some ⟨w.heap.size, 0, none⟩) 1 1]).run Try.prog (w.alloc (.cells #[.string d.k, .int .i64 d.t, .string d.v, .bool d.g] 55)) = .ok v' w' ∧ VOwns w' B v' (ds ++ [d]) ∧ (w.alloc (.cells #[.string d.k, .int .i64 d.t, .string d.v, .bool d.g] 55)).grownBy w' v.ownBlock := by
  obtain ⟨i0, hi0, hz0, hz1, hz2⟩ := info_parts Try.infoVersion
  obtain ⟨v', w', hr, ho', hg, _⟩ := run_append_own (P := Try.prog) (w.alloc (.cells #[.string d.k, .int .i64 d.t, .string d.v, .bool d.g] 55)) B 27 27 55 i0 _ 4 48 Try.underlying27 hi0 hz0 hz1 hz2 rfl (by decide) v _ _ (World.ownsRow.alloc ho _) ⟨w.heap.size, 0, none⟩ 1 1 (vcs [d]) (by simp [vcs]) (fun j u hu => by
    have hj : j < 4 := by simpa [vcs] using (List.getElem?_eq_some_iff.1 hu).1
    have e2 : (⟨w.heap.size, 0, none⟩ : Addr).add j = ⟨w.heap.size, j, none⟩ := by unfold Addr.add; split <;> simp_all
    rw [e2]
    refine rb_cell_new rfl ?_
    match j, hj with
    | 0, _ => simpa [vcs] using hu
    | 1, _ => simpa [vcs] using hu
    | 2, _ => simpa [vcs] using hu
    | 3, _ => simpa [vcs] using hu) (vcs_one _) (by unfold maxLen; omega) (by omega) (by simp; omega)
  refine ⟨v', w', hr, ?_, hg⟩
  unfold VOwns
  rw [List.length_append, vcs_append]
  exact ho'
/-- What is left of the reader's bytes. -/
def restLen (w : World) (rb : Nat) : Nat := match w.cell? ⟨rb, 0, none⟩ with
  | some (.slice _ n _) => n
  | _ => 0
theorem rest_of {w : World} {rb D : Nat} {s : Rs} (h : RdAt w rb D s) : restLen w rb = s.1.length := by
  obtain ⟨a, n, c, h1, h2, _⟩ := h
  unfold restLen
  rw [(rd_cells h1).1]
  exact h2.1.symm
/-- A write that is being read: the list, the reader, the write's block. -/
structure WvSt (w wr : World) (rb D bx : Nat) (v : Value) (L : List VerD) (s : Rs) (cs : Array Value) : Prop where
  own : VOwns wr w.heap.size v L
  rd : RdAt wr rb D s
  hw : Wr (fun i => i = rb) w wr
  lt : rb < D ∧ D ≤ w.heap.size
  k : wr.heap[bx]? = some (.cells cs 55 (0, 0))
  far : w.heap.size ≤ bx ∧ v.ownBlock ≠ some bx
theorem WvSt.read {w wr w1 : World} {rb D bx : Nat} {v : Value} {L : List VerD} {s s' : Rs} {cs : Array Value} (h : WvSt w wr rb D bx v L s cs) (hr : RdAt w1 rb D s') (hw : Wr (fun i => i = rb) wr w1) : WvSt w w1 rb D bx v L s' cs :=
  have hl := h.lt
  have hf := h.far
  ⟨owns_wr h.own hw (fun i hi e => by have := (h.own.lt i hi).1; omega), hr, h.hw.trans hw, hl, loc_wr h.k hw (by omega), hf⟩
theorem WvSt.set {w wr : World} {rb D bx : Nat} {v : Value} {L : List VerD} {s : Rs} {cs : Array Value} (h : WvSt w wr rb D bx v L s cs) (j : Nat) (u : Value) : WvSt w (wr.setCell ⟨bx, j, none⟩ u) rb D bx v L s (cs.setIfInBounds j u) :=
  have hl := h.lt
  have hf := h.far
  have hc := wr_cell wr bx j u
  ⟨owns_wr h.own hc (fun i hi e => hf.2 (by rw [hi, e])), h.rd.wr hc (fun i e => by omega), ⟨hc.os.trans h.hw.os, hc.tape.trans h.hw.tape, hc.output.trans h.hw.output, Nat.le_trans h.hw.size hc.size, fun i hi hp => (hc.block i (Nat.lt_of_lt_of_le hi h.hw.size) (by omega)).trans (h.hw.block i hi hp)⟩, hl, heap_set h.k j u, hf⟩
theorem WvSt.fin {w wr w' : World} {rb D bx : Nat} {v : Value} {L : List VerD} {s : Rs} {cs : Array Value} {o : Obj} (h : WvSt w wr rb D bx v L s cs) (hg : (wr.alloc o).grownBy w' v.ownBlock) : RdAt w' rb D s ∧ Wr (fun i => i = rb) w w' := by
  have hl := h.lt
  have b : Below wr.heap.size wr (wr.alloc o) := (Below.refl _ _).alloc (Nat.le_refl _) _
  have hw1 : Wr (fun i => v.ownBlock = some i) (wr.alloc o) w' := Wr.of_grown hg (fun i e => e)
  refine ⟨(h.rd.below b).wr hw1 (fun i e => by have := (h.own.lt i e).1; omega), ⟨hg.os.trans (b.os.trans h.hw.os), hg.tape.trans (b.tape.trans h.hw.tape), hg.output.trans (b.output.trans h.hw.output), Nat.le_trans h.hw.size (Nat.le_trans b.size hg.size), fun i hi hp => ?_⟩⟩
  have hs := h.hw.size
  have hs1 := b.size
  exact (hw1.block i (by omega) (fun e => by have := (h.own.lt i e).1; omega)).trans ((b.block i (by omega)).trans (h.hw.block i hi hp))
set_option maxRecDepth 100000 in
set_option maxHeartbeats 4000000 in
theorem rWrites_any (rb D : Nat) (s0 : Rs) (t : Int) (w : World) (h : RdAt w rb D s0) (hb : By s0.1) (hD : D ≤ w.heap.size) (hl0 : s0.1.length ≤ 65536) :
    Calls Try.prog 20 #[.pointer (some ⟨rb, 0, none⟩), .int .i64 t] w fun e w' => ∃ v, e = .returned v ∧ VOwns w' w.heap.size v (rAll t s0) ∧ (rAll t s0).length ≤ 65536 ∧ Wr (fun i => i = rb) w w' := by
  have H := hide h
  have HB := hide hb
  have hlt := h.lt
  clear h hb
  go_enter Try.func20, Try.ntmps20
  go_wp2_with fail
  go_loopw [5] (fun v wr => ∃ (s : Rs) (L : List VerD), Hid (VOwns wr w.heap.size v L) ∧ Hid (RdAt wr rb D s) ∧ Hid (Wr (fun i => i = rb) w wr) ∧ Hid (By s.1) ∧ Hid (rAll t s0 = L ++ rAll t s) ∧ L.length + s.1.length ≤ 65536) (fun _ wr => restLen wr rb)
  case atStart => exact ⟨s0, [], World.ownsRow_nil _ _ _ _, unhide H, Wr.of_below (Below.refl _ _), unhide HB, rfl, by simpa using hl0⟩
  case round =>
    clear H HB
    obtain ⟨s, L, hO, hR, hW, hB, hE, hlen⟩ := hrel
    have hrest := rest_of (unhide hR)
    obtain ⟨a, n, c, h1, h2, _⟩ := unhide hR
    obtain ⟨c0, c1, f0, f1⟩ := rd_cells h1
    have hn : n = s.1.length := h2.1.symm
    clear h1 h2
    by_cases h0 : s.1 = []
    · have hn0 : n = 0 := by rw [hn, h0]; rfl
      subst hn0
      have Z := hide (show rAll t s0 = L by rw [unhide hE, rAll_nil t h0, List.append_nil])
      clear hn hrest
      go_wp2_with fail
      go_ret
      exact ⟨_, rfl, by rw [unhide Z]; exact unhide hO, by rw [unhide Z]; omega, unhide hW⟩
    · have hpos : 0 < s.1.length := List.length_pos_iff.2 h0
      have hng : (0 : Int) < (n : Int) := by omega
      have hless := ver_less t s h0
      have NE := hide h0
      clear h0
      have hsz := (unhide hW).size
      have B1 : Below wr.heap.size wr (wr.alloc (.cells #[.string ⟨#[]⟩, .int .i64 t, .string ⟨#[]⟩, .bool false] 55)) := (Below.refl _ _).alloc (Nat.le_refl _) _
      have ST := hide (show WvSt w (wr.alloc (.cells #[.string ⟨#[]⟩, .int .i64 t, .string ⟨#[]⟩, .bool false] 55)) rb D wr.heap.size u5 L s #[.string ⟨#[]⟩, .int .i64 t, .string ⟨#[]⟩, .bool false] from
        ⟨vowns_below (unhide hO) B1, (unhide hR).below B1, (unhide hW).trans (Wr.of_below B1), ⟨hlt.2, hD⟩, heap_alloc_new _ _, ⟨hsz, fun e => by have := ((unhide hO).lt _ e).2; omega⟩⟩)
      have HRS := hide hrest
      have HLS := hide hlen
      have hL : L.length ≤ 65536 := by omega
      clear hO hR hW B1 hn hrest hlen hpos
      have EV := hide (show rVer t s = (⟨(rText (rOne s).2).1, t, (rText (rText (rOne s).2).2).1, decide ((rOne s).1 = 2)⟩, (rText (rText (rOne s).2).2).2) from rfl)
      have BY1 := hide (good_one.by_ s (unhide hB))
      have BY2 := hide (good_text.by_ _ (unhide BY1))
      have BY3 := hide (good_text.by_ _ (unhide BY2))
      go_wp2_with fail
      generalize wr.alloc (.cells #[.string ⟨#[]⟩, .int .i64 t, .string ⟨#[]⟩, .bool false] 55) = W at *
      generalize wr.heap.size = bx at *
      clear c0 c1 f0 f1
      refine (one_any rb D s W (unhide ST).rd (unhide hB)).mono ?_
      rintro e w2 ⟨rfl, hr2, hw2⟩
      replace ST := hide ((unhide ST).read hr2 hw2)
      have m3 : w2.cell? ⟨bx, 3, none⟩ = some (.bool false) := (heap_at (unhide ST).k 3).1
      have z3 := (heap_at (unhide ST).k 3).2
      replace ST := hide ((unhide ST).set 3 (.bool (decide ((rOne s).1 = 2))))
      clear hr2 hw2
      generalize (rOne s).1 = x1 at *
      generalize (rOne s).2 = s1 at *
      have eb : (x1 == 2) = decide (x1 = 2) := rfl
      go_wp2_with fail
      first | rw [eb] | skip
      generalize w2.setCell ⟨bx, 3, none⟩ (.bool (decide (x1 = 2))) = w3 at *
      clear m3 z3
      refine (text_any rb D s1 w3 (unhide ST).rd (unhide BY1)).mono ?_
      rintro e w4 ⟨rfl, hr4, hw4⟩
      replace ST := hide ((unhide ST).read hr4 hw4)
      have m0 : w4.cell? ⟨bx, 0, none⟩ = some (.string ⟨#[]⟩) := (heap_at (unhide ST).k 0).1
      have z0 := (heap_at (unhide ST).k 0).2
      generalize (rText s1).1 = tk at *
      generalize (rText s1).2 = s2 at *
      replace ST := hide ((unhide ST).set 0 (.string tk))
      clear hr4 hw4
      go_wp2_with fail
      generalize w4.setCell ⟨bx, 0, none⟩ (.string tk) = w5 at *
      clear m0 z0
      refine (text_any rb D s2 w5 (unhide ST).rd (unhide BY2)).mono ?_
      rintro e w6 ⟨rfl, hr6, hw6⟩
      replace ST := hide ((unhide ST).read hr6 hw6)
      have m2 : w6.cell? ⟨bx, 2, none⟩ = some (.string ⟨#[]⟩) := (heap_at (unhide ST).k 2).1
      have z2 := (heap_at (unhide ST).k 2).2
      generalize (rText s2).1 = tv at *
      generalize (rText s2).2 = s3 at *
      replace ST := hide (show WvSt w (w6.setCell ⟨bx, 2, none⟩ (.string tv)) rb D bx u5 L s3 #[.string tk, .int .i64 t, .string tv, .bool (decide (x1 = 2))] from (unhide ST).set 2 (.string tv))
      clear hr6 hw6
      have n0 : (w6.setCell ⟨bx, 2, none⟩ (.string tv)).cell? ⟨bx, 0, none⟩ = some (.string tk) := (heap_at (unhide ST).k 0).1
      have n1 : (w6.setCell ⟨bx, 2, none⟩ (.string tv)).cell? ⟨bx, 1, none⟩ = some (.int .i64 t) := (heap_at (unhide ST).k 1).1
      have n2 : (w6.setCell ⟨bx, 2, none⟩ (.string tv)).cell? ⟨bx, 2, none⟩ = some (.string tv) := (heap_at (unhide ST).k 2).1
      have n3 : (w6.setCell ⟨bx, 2, none⟩ (.string tv)).cell? ⟨bx, 3, none⟩ = some (.bool (decide (x1 = 2))) := (heap_at (unhide ST).k 3).1
      go_upto_region 7 with fail
      generalize w6.setCell ⟨bx, 2, none⟩ (.string tv) = w7 at *
      clear m2 z2
      obtain ⟨v8, w8, hr8, o8, g8⟩ := rc_app (d := ⟨tk, t, tv, decide (x1 = 2)⟩) (unhide ST).own (by omega) (unhide ST).hw.size
      have FIN := hide ((unhide ST).fin g8)
      have O8 := hide o8
      clear g8 o8
      have hr8' := hr8
      simp only at hr8'
      go_wp2_with (at_builtin; refine rc_wpApp rfl (.tmp 25) (.tmp 27) 27 rfl _ _ v8 w8 rfl rfl hr8' ?_)
      have HRE := hide (rest_of (unhide FIN).1)
      have ELL := hide (show rAll t s0 = (L ++ [⟨tk, t, tv, decide (x1 = 2)⟩]) ++ rAll t s3 by
        rw [unhide hE, rAll_cons t (unhide NE), unhide EV]; simp)
      have hl3 : s3.1.length < s.1.length := by rw [unhide EV] at hless; exact hless
      clear n0 n1 n2 n3 hr8 hr8' hless EV hE
      go_roundw
      case rel => exact ⟨s3, _, unhide O8, (unhide FIN).1, (unhide FIN).2, unhide BY3, unhide ELL, by have := unhide HLS; simp; omega⟩
      case measure => (rw [unhide HRE]; have := unhide HRS; omega)
end Go.Proofs.Ytodmkbnoljilpaa

namespace Go.Proofs.Ytodmkbnoljilpaa
open Go.RowKit

theorem rc_txt {xs : List Int} (hb : By xs) : cbText (strOfNums xs) = xs := by
  unfold cbText
  rw [strOfNums_data, List.map_map]
  have : ∀ x ∈ xs, ((fun b : UInt8 => (b.toNat : Int)) ∘ fun n : Int => UInt8.ofNat n.toNat) x = x := fun x hx => by
    have := hb x hx
    simp
    omega
  rw [List.map_congr_left this, List.map_id']
theorem rc_strs {xs ys : List Int} (hx : By xs) (hy : By ys) : ((strOfNums xs).toList == (strOfNums ys).toList) = decide (xs = ys) := by
  by_cases h : xs = ys
  · subst h; simp
  · rw [decide_eq_false h]
    cases hq : ((strOfNums xs).toList == (strOfNums ys).toList) with
    | false => rfl
    | true =>
      refine absurd ?_ h
      have e : (strOfNums xs).toList = (strOfNums ys).toList := by simpa using hq
      rw [ByteArray.toList_eq, ByteArray.toList_eq] at e
      have e2 : strOfNums xs = strOfNums ys := by
        generalize strOfNums xs = a at *
        generalize strOfNums ys = b at *
        cases a
        cases b
        simp at e
        simp [e]
      rw [← rc_txt hx, ← rc_txt hy, e2]
theorem by_text (t : ByteArray) : By (cbText t) := fun x hx => by
  obtain ⟨b, _, rfl⟩ := List.mem_map.1 hx
  have := b.toNat_lt
  exact ⟨by omega, by omega⟩
theorem by_one {d : VerD} (hk : d.k.size ≤ 255) (hv : d.v.size ≤ 255) : By (cbOne d) := fun x hx => by
  unfold cbOne cbLine at hx
  simp only [List.mem_cons, List.mem_append] at hx
  rcases hx with rfl | (rfl | hx) | (rfl | hx)
  · unfold cbMark; cases d.g <;> simp
  · omega
  · exact by_text _ x hx
  · omega
  · exact by_text _ x hx
theorem by_all : ∀ {ds : List VerD}, (∀ i (hi : i < ds.length), ds[i].k.size ≤ 255 ∧ ds[i].v.size ≤ 255) → By (cbAll ds)
  | [], _ => fun x hx => by cases hx
  | d :: r, h => fun x hx => by
    have h0 := h 0 (by simp)
    rcases List.mem_append.1 (show x ∈ cbOne d ++ cbAll r from hx) with h1 | h1
    · exact by_one h0.1 h0.2 x h1
    · exact by_all (fun i hi => h (i + 1) (by simpa using hi)) x h1
set_option maxHeartbeats 1000000 in
theorem bytesEqual_any (a1 a2 : Option Addr) (n1 c1 n2 c2 : Nat) (xs ys : List Int) (w : World) (h1 : Row w a1 n1 xs) (h2 : Row w a2 n2 ys) (hx : By xs) (hy : By ys) :
    Calls Try.prog 21 #[.slice a1 n1 c1, .slice a2 n2 c2] w fun e w' => e = .returned (.bool (decide (xs = ys))) ∧ w' = w := by
  have v1 := conv_text (c := c1) h1
  have v2 := conv_text (c := c2) h2
  have E := hide (rc_strs hx hy)
  clear h1 h2 hx hy
  generalize strOfNums xs = s1 at *
  generalize strOfNums ys = s2 at *
  go_enter Try.func21, Try.ntmps21
  go_wp2_with fail
  first | (go_quiet (fail); go_wp2_with fail) | skip
  go_ret
  exact ⟨ret_bool (unhide E), rfl⟩
/-- What ReadCommit answers. -/
def rcC (t : Int) (xs : List Int) : Int := if xs.length ≤ 65536 then (if idK t = true then (if rcOK t xs = true then 0 else 3) else 4) else 2
def rcA (t : Int) (xs : List Int) : List VerD := if rcC t xs = 0 then rcL t xs else []
def RcRes (t : Int) (xs : List Int) (w : World) (e : Ending) (w' : World) : Prop := ∃ v, e = .returned (.tuple #[v, .int .i64 (rcC t xs)]) ∧ VOwns w' w.heap.size v (rcA t xs) ∧ Below w.heap.size w w'
theorem rc_no {t : Int} {xs : List Int} {w w' : World} {v : Value} {k : Int} (hk : k ≠ 0) (hc : rcC t xs = k) (ho : VOwns w' w.heap.size v []) (hb : Below w.heap.size w w') : RcRes t xs w (.returned (.tuple #[v, .int .i64 k])) w' :=
  ⟨v, by rw [hc], by unfold rcA; rw [if_neg (by rw [hc]; exact hk)]; exact ho, hb⟩
theorem rc_yes {t : Int} {xs : List Int} {w w' : World} {v : Value} (hc : rcC t xs = 0) (ho : VOwns w' w.heap.size v (rcL t xs)) (hb : Below w.heap.size w w') : RcRes t xs w (.returned (.tuple #[v, .int .i64 0])) w' :=
  ⟨v, by rw [hc], by unfold rcA; rw [if_pos hc]; exact ho, hb⟩
theorem rc_long {t : Int} {xs : List Int} (h : ¬ xs.length ≤ 65536) : rcC t xs = 2 := by unfold rcC; rw [if_neg h]
theorem rc_range {t : Int} {xs : List Int} (h : xs.length ≤ 65536) (h2 : idK t = false) : rcC t xs = 4 := by unfold rcC; rw [if_pos h, if_neg (by rw [h2]; decide)]
theorem rc_form {t : Int} {xs : List Int} (h : xs.length ≤ 65536) (h2 : idK t = true) (h3 : rcOK t xs = false) : rcC t xs = 3 := by unfold rcC; rw [if_pos h, if_pos h2, if_neg (by rw [h3]; decide)]
theorem rc_ok {t : Int} {xs : List Int} (h : xs.length ≤ 65536) (h2 : idK t = true) (h3 : rcOK t xs = true) : rcC t xs = 0 := by unfold rcC; rw [if_pos h, if_pos h2, if_pos h3]
theorem vowns_slice {w : World} {B : Nat} {v : Value} {ds : List VerD} (h : VOwns w B v ds) : ∃ a c, v = .slice a ds.length c := by
  rcases h.2 with ⟨rfl, hn⟩ | ⟨g, cap, cur, rfl, _⟩
  · exact ⟨none, 0, by rw [hn]⟩
  · exact ⟨_, _, rfl⟩
theorem vowns_dn {w : World} {B C : Nat} {v : Value} {ds : List VerD} (h : VOwns w B v ds) (hc : C ≤ B) : VOwns w C v ds := by
  obtain ⟨h1, h2⟩ := h
  refine ⟨h1, ?_⟩
  rcases h2 with h2 | ⟨g, cap, cur, e, hb, r⟩
  · exact .inl h2
  · exact .inr ⟨g, cap, cur, e, Nat.le_trans hc hb, r⟩
end Go.Proofs.Ytodmkbnoljilpaa

namespace Go.Proofs.Ytodmkbnoljilpaa
open Go.RowKit

set_option maxRecDepth 100000 in
set_option maxHeartbeats 4000000 in
theorem implReadCommit_any (a : Option Addr) (n c : Nat) (xs : List Int) (t : Int) (w : World) (hr : Row w a n xs) (hb : By xs) (hnc : n ≤ c) (hn : n ≤ 1048576) (ha : ∀ x, a = some x → x.block < w.heap.size) :
    Calls Try.prog 8 #[.slice a n c, .int .i64 t] w fun e w' => RcRes t xs w e w' := by
  have L := hide hr.1
  have R := hide hr
  have BY := hide hb
  clear hr hb
  by_cases h4 : n ≤ 65536
  · have g4 : ¬ (65536 : Int) < (n : Int) := by omega
    have l4 : xs.length ≤ 65536 := by rw [unhide L]; exact h4
    have SI := hide (idOK_any t)
    cases hid : idK t with
    | false =>
      rw [hid] at SI
      have Z := hide (rc_no (w := w) (w' := w) (v := .slice none 0 0) (by decide) (rc_range l4 hid) (World.ownsRow_nil _ _ _ _) (Below.refl _ _))
      go_enter Try.func8, Try.ntmps8
      go_wp2_with (go_at_call 19; refine (unhide SI _).mono ?_; rintro e w1 ⟨rfl, hww⟩; subst w1)
      go_ret2
      exact unhide Z
    | true =>
      rw [hid] at SI
      have b0 : Below w.heap.size w (w.alloc (.cells #[.slice a n c, .bool false] 60)) := (Below.refl _ _).alloc (Nat.le_refl _) _
      have k0 := heap_alloc_new w (.cells #[.slice a n c, .bool false] 60)
      have RW : Row (w.alloc (.cells #[.slice a n c, .bool false] 60)) a n xs := (unhide R).below b0 ha
      have zs : (w.alloc (.cells #[.slice a n c, .bool false] 60)).heap.size = w.heap.size + 1 := by simp
      have RD := hide (show RdAt (w.alloc (.cells #[.slice a n c, .bool false] 60)) w.heap.size (w.heap.size + 1) (xs, false) from
        ⟨a, n, c, k0, RW, hnc, fun x hx => ⟨by have := ha x hx; omega, by have := ha x hx; omega⟩, h4, by omega⟩)
      go_enter Try.func8, Try.ntmps8
      go_wp2_with (go_at_call 19; refine (unhide SI _).mono ?_; rintro e w1 ⟨rfl, hww⟩; subst w1)
      generalize w.alloc (.cells #[.slice a n c, .bool false] 60) = W at *
      refine (rWrites_any w.heap.size (w.heap.size + 1) (xs, false) t W (unhide RD) (unhide BY) (by omega) l4).mono ?_
      rintro e w2 ⟨v, rfl, ho, hl, hw⟩
      have B2 : Below w.heap.size w w2 := b0.trans (hw.below (fun i e => by omega) b0.size)
      obtain ⟨av, cv, rfl⟩ := vowns_slice ho
      have R2 := hide ((unhide R).below B2 ha)
      have ho' : VOwns w2 W.heap.size (.slice av (rcL t xs).length cv) (rcL t xs) := ho
      have hl' : (rcL t xs).length ≤ 65536 := hl
      have HO := hide ho'
      have VR := hide (vrow_of_owns ho')
      have EL := hide (show (rAll t (xs, false)).length = (rcL t xs).length from rfl)
      rw [unhide EL]
      clear ho ho' hl hw RD k0 RW b0
      have hs2 := B2.size
      have EOK := hide (show rcOK t xs = (wrV (rcL t xs) t && decide (cbAll (rcL t xs) = xs)) from rfl)
      have ZN := hide (fun (u : World) (hu : Below w.heap.size w u) (h3 : rcOK t xs = false) => rc_no (w := w) (w' := u) (v := .slice none 0 0) (by decide) (rc_form l4 hid h3) (World.ownsRow_nil _ _ _ _) hu)
      have ZY := hide (fun (u : World) (v : Value) (ho : VOwns u w.heap.size v (rcL t xs)) (hu : Below w.heap.size w u) (h3 : rcOK t xs = true) => rc_yes (rc_ok l4 hid h3) ho hu)
      have SM := hide (fun (h : wrV (rcL t xs) t = true) => show (rcL t xs).length ≤ 8 ∧ ∀ i (hi : i < (rcL t xs).length), (rcL t xs)[i].k.size ≤ 255 ∧ (rcL t xs)[i].v.size ≤ 255 from ⟨(wrV_ok h).1, fun i hi => by have := verK_small (okVs_ver (wrV_ok h).2.1 hi); omega⟩)
      generalize rcL t xs = Ls at *
      go_wp2_with fail
      refine (writesOK_any av Ls.length cv Ls t w2 (by omega) (unhide VR)).mono ?_
      rintro e w3 ⟨rfl, hb3⟩
      have B3 := B2.trans (hb3.mono hs2)
      have hs3 := B3.size
      replace VR := hide ((unhide VR).below hb3)
      replace HO := hide (vowns_below (unhide HO) hb3)
      clear hb3
      cases hwr : wrV Ls t with
      | false =>
        have Z := hide (unhide ZN w3 B3 (by rw [unhide EOK, hwr]; rfl))
        go_wp2_with fail
        go_ret2
        exact unhide Z
      | true =>
        obtain ⟨hl8, hsm⟩ := unhide SM hwr
        have BYC := hide (by_all hsm)
        have CB := hide (commitBytes_any av Ls.length cv Ls w3 (by omega) (unhide VR) hsm)
        clear hsm
        go_wp2_with fail
        refine (unhide CB).mono ?_
        rintro e w4 ⟨vb, rfl, ob, hb4⟩
        have B4 := B3.trans (hb4.mono hs3)
        replace HO := hide (vowns_below (unhide HO) hb4)
        obtain ⟨ab, cb, rfl, _, _, rb, _⟩ := mine_of_owns ob
        have RB := hide rb
        have R4 := hide ((unhide R).below B4 ha)
        clear ob hb4 rb CB
        go_wp2_with fail
        refine (bytesEqual_any ab a (cbAll Ls).length cb n c (cbAll Ls) xs w4 (unhide RB) (unhide R4) (unhide BYC) (unhide BY)).mono ?_
        rintro e w5 ⟨rfl, rfl⟩
        by_cases he : cbAll Ls = xs
        · have Z := hide (unhide ZY w5 _ (vowns_dn (unhide HO) (by omega)) B4 (by rw [unhide EOK, hwr, decide_eq_true he]; rfl))
          rw [decide_eq_true he]
          clear he
          go_wp2_with fail
          go_ret2
          exact unhide Z
        · have Z := hide (unhide ZN w5 B4 (by rw [unhide EOK, hwr, decide_eq_false he]; rfl))
          rw [decide_eq_false he]
          clear he
          go_wp2_with fail
          go_ret2
          exact unhide Z
  · have g4 : (65536 : Int) < (n : Int) := by omega
    have Z := hide (rc_no (w := w) (w' := w) (v := .slice none 0 0) (by decide) (rc_long (t := t) (by rw [unhide L]; exact h4)) (World.ownsRow_nil _ _ _ _) (Below.refl _ _))
    go_enter Try.func8, Try.ntmps8
    go_wp2_with fail
    go_ret2
    exact unhide Z
end Go.Proofs.Ytodmkbnoljilpaa

namespace Go.Proofs.Ytodmkbnoljilpaa
open Go.RowKit

/-- A row of bytes as a text. -/
theorem conv_any {w : World} {a : Option Addr} {n c : Nat} {xs : List Int} (h : Row w a n xs) : (convert 22 9 (.slice a n c)).run Try.prog w = .ok (.string (strOfNums xs)) w := by
  by_cases hn : 0 < n
  · obtain ⟨b, off, rfl, _⟩ := h.2 0 hn
    exact run_convert_bytes_arg _ 22 5 Try.underlying22 Try.underlying5 b off n c xs h.1 (fun i hi => by
      obtain ⟨b', off', e, hc⟩ := h.2 i hi
      cases e
      exact hc) 9 Try.underlying9
  · obtain rfl : n = 0 := by omega
    obtain rfl : xs = [] := List.eq_nil_of_length_eq_zero h.1
    cases a with
    | none => rw [run_convert_bytes_string (P := Try.prog) w 22 9 5 none 0 c Try.underlying22 Try.underlying5 Try.underlying9]; rfl
    | some x =>
      obtain ⟨b, off, spot⟩ := x
      rw [run_convert_bytes_string (P := Try.prog) w 22 9 5 (some ⟨b, off, spot⟩) 0 c Try.underlying22 Try.underlying5 Try.underlying9]; rfl
end Go.Proofs.Ytodmkbnoljilpaa

namespace Go.Proofs.Ytodmkbnoljilpaa
open Go.RowKit

theorem Try.verS : Try.prog.underlying 55 = some (.struct (Try.prog.fieldsOf 55)) := by kernel_rfl
theorem Try.verH : Try.prog.stoodInHeld 55 = false := by kernel_rfl
theorem Try.verG : Try.prog.eqGuardType Try.prog.depth 55 = false := by kernel_rfl
set_option maxRecDepth 100000 in
theorem eqVerV (k : ByteArray) (t : Int) (v : ByteArray) (g : Bool) (w : World) : (Op.equalIn 10000 55 (.agg #[.string k, .int .i64 t, .string v, .bool g]) (.agg #[.string k, .int .i64 t, .string v, .bool g])).run Try.prog w = .ok true w := by
  rw [run_equalIn_struct w 9999 _ _ _ Try.verS Try.verH]
  simp [Program.fieldsOf, Try.underlying55, Op.eqFields, go_sem, Try.underlying9, Try.underlying3, Try.underlying4]
set_option maxRecDepth 100000 in
set_option maxHeartbeats 2000000 in
theorem sameVersions_any (a a2 : Option Addr) (n c c2 : Nat) (ds : List VerD) (w : World) (h1 : VRow w a n ds) (h2 : VRow w a2 n ds) (hn : n ≤ 100000) :
    Calls Try.prog 9 #[.slice a n c, .slice a2 n c2] w fun e w' => e = .returned (.bool true) ∧ Below w.heap.size w w' := by
  have R1 := hide h1
  have R2 := hide h2
  have LN := hide h1.1
  have q3 := Try.verG
  have q4 := eqVerV
  clear h1 h2
  go_enter Try.func9, Try.ntmps9
  go_wp2_with fail
  go_loopw [5] (fun i wr => ∃ k : Nat, k ≤ n ∧ i = .int .i64 k ∧ Below w.heap.size w wr) (fun i _ => n - (intOf i).toNat)
  case atStart => exact ⟨0, Nat.zero_le _, rfl, Below.refl _ _⟩
  case round =>
    obtain ⟨k, hk, rfl, hb⟩ := hrel
    by_cases hlt : k < n
    · have hl := unhide LN
      obtain ⟨b, off, rfl, c0, c1, c2, c3⟩ := ((unhide R1).below hb).2 k (by omega)
      obtain ⟨b', off', rfl, d0, d1, d2, d3⟩ := ((unhide R2).below hb).2 k (by omega)
      generalize ds[k]'(by omega) = em at *
      obtain ⟨ek, et, ev, eg⟩ := em
      simp only at c0 c1 c2 c3 d0 d1 d2 d3
      clear hl
      go_wp2_with fail
      go_quiet (fail)
      go_wp2_with fail
      go_roundw
      case rel => exact ⟨k + 1, by omega, by go_num, bel_drewN hb _⟩
      case measure => simp [intOf]; omega
    · obtain rfl : k = n := by omega
      go_wp2_with fail
      go_ret
      exact ⟨rfl, hb⟩
/-! Plain facts. -/
theorem cm_text (t : ByteArray) : By (cbText t) := fun x hx => by
  unfold cbText at hx
  obtain ⟨b, _, rfl⟩ := List.mem_map.1 hx
  have := b.toNat_lt
  omega
theorem cm_all : ∀ ds : List VerD, (∀ d ∈ ds, d.k.size ≤ 255 ∧ d.v.size ≤ 255) → By (cbAll ds)
  | [], _ => fun x hx => by simp [cbAll] at hx
  | d :: r, h => fun x hx => by
    have h0 := h d (List.mem_cons_self ..)
    rw [show cbAll (d :: r) = cbOne d ++ cbAll r from rfl] at hx
    rcases List.mem_append.1 hx with hx | hx
    · unfold cbOne cbLine at hx
      rcases List.mem_cons.1 hx with rfl | hx
      · unfold cbMark; split <;> omega
      · rcases List.mem_append.1 hx with hx | hx
        · rcases List.mem_cons.1 hx with rfl | hx
          · omega
          · exact cm_text _ x hx
        · rcases List.mem_cons.1 hx with rfl | hx
          · omega
          · exact cm_text _ x hx
    · exact cm_all r (fun y hy => h y (List.mem_cons_of_mem _ hy)) x hx
/-- A session's writes are read back. -/
theorem ses_back {n : Int} {s : SesD} (h : sesK n s = true) (hn : n ≤ 1000) : s.ws.length ≤ 8 ∧ cbC s.ws = 0 ∧ cbL s.ws = cbAll s.ws ∧ By (cbAll s.ws) ∧ (cbAll s.ws).length ≤ 4104 ∧ rcC s.t (cbAll s.ws) = 0 ∧ rcA s.t (cbAll s.ws) = s.ws := by
  have hw : wrV s.ws s.t = true ∧ idK s.t = true := by
    cases ho : s.o
    · obtain ⟨ht, hws⟩ := sesK_cls h ho
      rw [ht, hws]
      exact ⟨rfl, rfl⟩
    · obtain ⟨h1, h2, h3⟩ := sesK_open h ho
      exact ⟨h3, decide_eq_true (by omega)⟩
  have hwp := hw.1
  unfold wrV at hwp
  simp only [Bool.and_eq_true, decide_eq_true_eq] at hwp
  have hc : comV s.ws = true := by rw [com_wr hwp.2.2]; exact hw.1
  have hsm : ∀ d ∈ s.ws, d.k.size ≤ 255 ∧ d.v.size ≤ 255 := fun d hd => by
    have := verK_small (((okVs_iff _).1 hwp.2.1).1 d hd)
    omega
  have hle := cbAll_le s.ws (fun i hi => hsm _ (List.getElem_mem hi))
  have hlen : (cbAll s.ws).length ≤ 4104 := Nat.le_trans hle (by omega)
  have hrl : rcL s.t (cbAll s.ws) = s.ws := rAll_back s.t s.ws false hwp.2.2
  have hrc : rcC s.t (cbAll s.ws) = 0 := by
    unfold rcC rcOK
    rw [if_pos (by omega), if_pos hw.2, hrl, hw.1, decide_eq_true rfl]
    rfl
  refine ⟨hwp.1, ?_, ?_, cm_all _ hsm, hlen, hrc, ?_⟩
  · unfold cbC; rw [if_pos (by omega), if_pos hc]
  · unfold cbL; rw [if_pos ⟨by omega, hc⟩]
  · unfold rcA; rw [if_pos hrc, hrl]
theorem nine_bad : rcC 1 [9] = 3 := by
  have hno : ∀ ds : List VerD, cbAll ds ≠ [9] := fun ds e => by
    cases ds with
    | nil => simp [cbAll] at e
    | cons d r =>
      have h := congrArg List.length e
      rw [show cbAll (d :: r) = cbOne d ++ cbAll r from rfl, List.length_append, cbOne_length] at h
      simp at h
      omega
  unfold rcC rcOK
  rw [if_pos (by decide), if_pos (by decide), decide_eq_false (hno _), Bool.and_false]
  rfl
theorem take_row {w : World} {g n k : Nat} {ds : List TxD} (h : XRow w (some ⟨g, 0, none⟩) n ds) (hk : k ≤ n) : XRow w (some ⟨g, 0, none⟩) k (ds.take k) := by
  have hl := h.1
  refine ⟨by rw [List.length_take]; omega, fun i hi => ?_⟩
  rw [List.length_take] at hi
  obtain ⟨b, off, e, q⟩ := h.2 i (by omega)
  exact ⟨b, off, e, by rw [List.getElem_take]; exact q⟩
theorem owns_row8 {w : World} {B : Nat} {v : Value} {xs : List Int} (h : Owns w B v xs) : ∃ a c, v = .slice a xs.length c ∧ Row w a xs.length xs ∧ xs.length ≤ c ∧ ∀ x, a = some x → x.block < w.heap.size := by
  obtain ⟨a, c, e, h1, _, h3, h4⟩ := mine_of_owns h
  exact ⟨a, c, e, h3, h1, fun x hx => (h4 x hx).2.1⟩
set_option maxRecDepth 100000 in
set_option maxHeartbeats 8000000 in
theorem fnCommits_law (aa : Option Addr) (na ca : Nat) (zs1 : List Int) (w : World) (h1 : IsRow .u8 w aa na ca zs1) :
    Calls Try.prog 3 #[.slice aa na ca] w fun e w' => e = .returned (.bool true) ∧ Below w.heap.size w w' := by
  obtain ⟨hr1, hm1, _⟩ := row_of_isRow h1
  have by1 := hide (bytes_of_isRow h1)
  clear h1
  unfold maxLen at hm1
  by_cases hbig : 1048576 < na
  · clear hr1 by1
    go_enter Try.func3, Try.ntmps3
    go_wp2_with fail
    go_ret
    exact ⟨rfl, Below.refl _ _⟩
  have hn1 : na ≤ 1048576 := by omega
  clear hm1
  generalize zs1.take na = xs1 at *
  have R1 := hide hr1
  clear hr1
  go_enter Try.func3, Try.ntmps3
  go_wp2_with fail
  refine (txActsOf_any aa na ca xs1 w (unhide R1) (unhide by1) hn1).mono ?_
  rintro e w1 ⟨g, m, cm, ds, rfl, hX, hd60, hok, hb1⟩
  have XR := hide (xrow_of_owns hX)
  have LX := hide (xrow_of_owns hX).1
  have hcm : m ≤ cm := (cap_of_owns (s := ⟨some ⟨g, 0, none⟩, m, cm⟩) hX).1
  have hm60 : m ≤ 60 := by have := (xrow_of_owns hX).1; omega
  have OK := hide hok
  have B1 := hide hb1
  clear hX hok hb1 hd60 R1 by1
  go_wp2_with fail
  go_loopw [4] (fun iv wr => ∃ k : Nat, iv = .int .i64 (k : Int) ∧ k ≤ m ∧ Hid (Below w1.heap.size w1 wr)) (fun iv _ => m - (intOf iv).toNat)
  case atStart => exact ⟨0, rfl, Nat.zero_le _, Below.refl _ _⟩
  case round =>
    obtain ⟨k, rfl, hk, hB⟩ := hrel
    have hw1 := (unhide B1).size
    by_cases hlt : k < m
    case neg =>
      obtain rfl : k = m := by omega
      have BW := hide ((unhide B1).trans ((unhide hB).mono hw1))
      have bA : Below wr.heap.size wr (wr.alloc (.cells #[.int .u8 9] 5)) := (Below.refl _ _).alloc (Nat.le_refl _) _
      have kA := heap_alloc_new wr (.cells #[.int .u8 9] 5)
      have CR := hide (implReadCommit_any (some ⟨wr.heap.size, 0, none⟩) 1 1 [9] 1 (wr.alloc (.cells #[.int .u8 9] 5)) ⟨rfl, fun i hi => by
        obtain rfl : i = 0 := by omega
        exact ⟨wr.heap.size, 0, rfl, (heap_at kA 0).1⟩⟩ (fun x hx => by rw [List.mem_singleton.1 hx]; decide) (Nat.le_refl _) (by omega) (fun x hx => by injection hx with hx; subst hx; exact blk_lt kA))
      have BA := hide bA
      clear kA bA
      go_wp2_with fail
      refine (unhide CR).mono ?_
      rintro e w5 ⟨v, rfl, ho, hb5⟩
      have bF := hide ((unhide BW).trans (((unhide BA).trans (hb5.mono (unhide BA).size)).mono (unhide BW).size))
      rw [nine_bad]
      clear ho hb5 CR BA BW
      go_wp2_with fail
      go_ret
      exact ⟨rfl, unhide bF⟩
    have hk2 : k < ds.length := by rw [unhide LX]; exact hlt
    have hkn : (k : Int) < (m : Int) := by omega
    obtain ⟨b, off, hba, d0, d1, -, -, -⟩ := ((unhide XR).below (unhide hB)).2 k hk2
    injection hba with hba
    injection hba with hb1 hb2 _
    subst hb1 hb2
    rw [Nat.zero_add] at d0 d1
    have hok := unhide OK ds[k] (List.getElem_mem hk2)
    unfold okX at hok
    obtain ⟨i, hi⟩ : ∃ i : Nat, ds[k].ses = (i : Int) := ⟨ds[k].ses.toNat, by omega⟩
    rw [hi] at d1 hok
    clear hi
    generalize ds[k].kind = kd at *
    have hi3 : i < 3 := by omega
    clear hok
    by_cases h6 : kd = 6
    case neg =>
      have h6b : (kd == 6) = false := by simpa using h6
      clear d1
      go_wp2_with fail
      go_roundw
      case rel => exact ⟨k + 1, by go_num, by omega, unhide hB⟩
      case measure => simp [intOf]; omega
    subst h6
    have TR := hide (specTxRun_any (some ⟨g, 0, none⟩) k cm (ds.take k) wr (take_row ((unhide XR).below (unhide hB)) (by omega)) (by omega))
    have hkc : k ≤ cm := by omega
    have hkci : (k : Int) ≤ (cm : Int) := by omega
    have d1h := hide d1
    have hgw : g < wr.heap.size := cell_lt d0
    clear d1
    go_wp2_with fail
    refine (unhide TR).mono ?_
    rintro e w2 ⟨⟨la, ln, lc⟩, ⟨fa, fn, fc⟩, ⟨sa, sn, sc⟩, hs, ⟨qa, qn, qc⟩, zs, rfl, hO, -, -, hb2⟩
    clear TR d0
    have hlk : (ds.take k).length = k := by rw [List.length_take]; omega
    have eV : txV (ds.take k) = (runV (ds.take k)).1 := by unfold txV; rw [if_neg (by rw [hlk]; omega)]
    have eC : txC (ds.take k) = 0 := by unfold txC; rw [if_neg (by rw [hlk]; omega), if_neg (by rw [hlk]; omega)]
    rw [eV] at hO
    rw [eV, eC]
    clear eV eC hlk
    have RV := runV_ok ds k (by omega)
    generalize (runV (ds.take k)).1 = dk at *
    have hl4 : hs.length = 4 := by rw [hO.reads.len.2]; exact RV.ses
    have hih : i < hs.length := by omega
    obtain ⟨gs, hsa, hsn, -, hgs, c0, c1, c2, hwo, hid, hxd⟩ := hO.sesAt hih
    simp only at hsa hsn
    rw [hl4] at hsn
    subst hsa hsn
    have SB := hide (show _ from ses_back (RV.sk dk.ses[i] (List.getElem_mem hid)) RV.nx.2)
    rw [← hxd] at SB
    have HW := hide (vrow_of_owns hwo)
    generalize hs[i] = x at *
    obtain ⟨⟨o, t, wl⟩, ⟨wa, wn, wc⟩⟩ := x
    simp only at c0 c1 c2 hwo SB HW
    have HWL := hide (show wn = wl.length from owns_n hwo)
    unfold vzC
    simp only
    generalize dk.next = nx at *
    have bT := (Below.refl w2.heap.size w2).alloc (Nat.le_refl _) (.cells #[.int .i64 nx, .slice la ln lc, .slice fa fn fc, .slice (some ⟨gs, 0, none⟩) 4 sc] 31)
    have kT := heap_alloc_new w2 (.cells #[.int .i64 nx, .slice la ln lc, .slice fa fn fc, .slice (some ⟨gs, 0, none⟩) 4 sc] 31)
    have BT := hide (hb2.trans (bT.mono hb2.size))
    have HT := hide ((unhide HW).below bT)
    have d1 := (bT.cell (p := ⟨g, k * 5 + 1, none⟩) (Nat.lt_of_lt_of_le hgw hb2.size)).trans ((hb2.cell (p := ⟨g, k * 5 + 1, none⟩) hgw).trans (unhide d1h))
    have e0 := (bT.cell (p := ⟨gs, i * 3, none⟩) hgs).trans c0
    have e1 := (bT.cell (p := ⟨gs, i * 3 + 1, none⟩) hgs).trans c1
    have e2 := (bT.cell (p := ⟨gs, i * 3 + 2, none⟩) hgs).trans c2
    have t3 := (heap_at kT 3).1
    clear hO hwo bT kT c0 c1 c2 hb2 RV HW d1h hxd hid
    go_upto_region 9 with fail
    generalize w2.alloc (.cells #[.int .i64 nx, .slice la ln lc, .slice fa fn fc, .slice (some ⟨gs, 0, none⟩) 4 sc] 31) = w3 at *
    generalize hvb : w2.heap.size = vb at *
    clear hvb
    have SK := hide (show ∀ u, Below w3.heap.size w3 u → ((fun u => u.cell? ⟨vb, 3, none⟩ = some (.slice (some ⟨gs, 0, none⟩) 4 sc) ∧ u.cell? ⟨g, k * 5 + 1, none⟩ = some (.int .i64 (i : Int)) ∧ u.cell? ⟨gs, i * 3, none⟩ = some (.bool o) ∧ u.cell? ⟨gs, i * 3 + 1, none⟩ = some (.int .i64 t) ∧ u.cell? ⟨gs, i * 3 + 2, none⟩ = some (.slice wa wn wc)) u) from fun u hu => ⟨(hu.cell (p := ⟨vb, 3, none⟩) (cell_lt t3)).trans t3, (hu.cell (p := ⟨g, k * 5 + 1, none⟩) (cell_lt d1)).trans d1, (hu.cell (p := ⟨gs, i * 3, none⟩) (cell_lt e0)).trans e0, (hu.cell (p := ⟨gs, i * 3 + 1, none⟩) (cell_lt e1)).trans e1, (hu.cell (p := ⟨gs, i * 3 + 2, none⟩) (cell_lt e2)).trans e2⟩)
    have hin : (i : Int) < 4 := by omega
    have G0 := hide (show Below w3.heap.size w3 w3.drew from (Below.refl _ _).drew)
    clear t3 d1 e0 e1 e2
    refine wp_region_held_drew (S := (fun u => u.cell? ⟨vb, 3, none⟩ = some (.slice (some ⟨gs, 0, none⟩) 4 sc) ∧ u.cell? ⟨g, k * 5 + 1, none⟩ = some (.int .i64 (i : Int)) ∧ u.cell? ⟨gs, i * 3, none⟩ = some (.bool o) ∧ u.cell? ⟨gs, i * 3 + 1, none⟩ = some (.int .i64 t) ∧ u.cell? ⟨gs, i * 3 + 2, none⟩ = some (.slice wa wn wc))) (by kernel_rfl) (unhide SK _ (unhide G0)) (fun hHeld => ?_)
    generalize w3.drew = us at *
    refine anyH_take 0 42 (v := ?v1) rfl rfl (by kernel_rfl) (by kernel_rfl) (by kernel_rfl) (fun _ _ _ h => h) (by rfl) ?h1 hHeld ?r1
    case h1 => (intro w hSw; (try dsimp only at hSw); go_simp; try (with_reducible rfl))
    simp only [Act.put, List.setIfInBounds_toArray, List.set_cons_zero, List.set_cons_succ]
    refine anyH_take 1 43 (v := ?v2) rfl rfl (by kernel_rfl) (by kernel_rfl) (by kernel_rfl) (fun _ _ _ h => h) (by rfl) ?h2 hHeld ?r2
    case h2 => (intro w hSw; (try dsimp only at hSw); go_simp; try (with_reducible rfl))
    simp only [Act.put, List.setIfInBounds_toArray, List.set_cons_zero, List.set_cons_succ]
    refine anyH_take 2 44 (v := ?v3) rfl rfl (by kernel_rfl) (by kernel_rfl) (by kernel_rfl) (fun _ _ _ h => h) (by rfl) ?h3 hHeld ?r3
    case h3 => (intro w hSw; (try dsimp only at hSw); go_simp; try (with_reducible rfl))
    simp only [Act.put, List.setIfInBounds_toArray, List.set_cons_zero, List.set_cons_succ]
    refine anyH_take 3 45 (v := ?v4) rfl rfl (by kernel_rfl) (by kernel_rfl) (by kernel_rfl) (fun _ _ _ h => h) (by rfl) ?h4 hHeld ?r4
    case h4 => (intro w hSw; (try dsimp only at hSw); go_simp; try (with_reducible rfl))
    simp only [Act.put, List.setIfInBounds_toArray, List.set_cons_zero, List.set_cons_succ]
    refine anyH_take 4 46 (v := ?v5) rfl rfl (by kernel_rfl) (by kernel_rfl) (by kernel_rfl) (fun _ _ _ h => h) (by rfl) ?h5 hHeld ?r5
    case h5 => (intro w hSw; (try dsimp only at hSw); go_simp; try (with_reducible rfl))
    simp only [Act.put, List.setIfInBounds_toArray, List.set_cons_zero, List.set_cons_succ]
    refine anyH_take 5 47 (v := ?v6) rfl rfl (by kernel_rfl) (by kernel_rfl) (by kernel_rfl) (fun _ _ _ h => h) (by rfl) ?h6 hHeld ?r6
    case h6 => (intro w hSw; (try dsimp only at hSw); go_simp; try (with_reducible rfl))
    simp only [Act.put, List.setIfInBounds_toArray, List.set_cons_zero, List.set_cons_succ]
    refine anyH_take 6 48 (v := ?v7) rfl rfl (by kernel_rfl) (by kernel_rfl) (by kernel_rfl) (fun _ _ _ h => h) (by rfl) ?h7 hHeld ?r7
    case h7 => (intro w hSw; (try dsimp only at hSw); go_simp; try (with_reducible rfl))
    simp only [Act.put, List.setIfInBounds_toArray, List.set_cons_zero, List.set_cons_succ]
    refine anyH_take 7 49 (v := ?v8) rfl rfl (by kernel_rfl) (by kernel_rfl) (by kernel_rfl) (fun _ _ _ h => h) (by rfl) ?h8 hHeld ?r8
    case h8 => (intro w hSw; (try dsimp only at hSw); go_simp; try (with_reducible rfl))
    simp only [Act.put, List.setIfInBounds_toArray, List.set_cons_zero, List.set_cons_succ]
    refine anyH_take 8 50 (v := ?v9) rfl rfl (by kernel_rfl) (by kernel_rfl) (by kernel_rfl) (fun _ _ _ h => h) (by rfl) ?h9 hHeld ?r9
    case h9 => (intro w hSw; (try dsimp only at hSw); go_simp; try (with_reducible rfl))
    simp only [Act.put, List.setIfInBounds_toArray, List.set_cons_zero, List.set_cons_succ]
    refine wpAnyH_ready (rs := [9]) (by kernel_rfl) (by simp) ?_
    refine AllReadyH.cons rfl (fun K hK => ?_) AllReadyH.nil
    have ks := heap_alloc_new us (.cells #[.bool false, .int .i64 0, .slice none 0 0] 36)
    have D4 := hide ((unhide G0).alloc (unhide G0).size (.cells #[.bool false, .int .i64 0, .slice none 0 0] 36))
    have hsb := (unhide G0).size
    go_simp
    generalize us.alloc (.cells #[.bool false, .int .i64 0, .slice none 0 0] 36) = u4 at *
    generalize us.heap.size = sb at *
    refine hK.out _ _ (unhide SK _ (unhide D4)) (fun hHeld => ?_)
    clear hK K
    refine wpAnyH_ready (rs := [10]) (by kernel_rfl) (by simp) ?_
    refine AllReadyH.cons rfl (fun K hK => ?_) AllReadyH.nil
    have y0 := (heap_at ks 0).1
    have y1 := (heap_at ks 1).1
    have y2 := (heap_at ks 2).1
    have yf0 := (heap_at ks 0).2
    have yf1 := (heap_at ks 1).2
    have yf2 := (heap_at ks 2).2
    have K5 := hide (show (((u4.setCell ⟨sb, 0, none⟩ (.bool o)).setCell ⟨sb, 1, none⟩ (.int .i64 t)).setCell ⟨sb, 2, none⟩ (.slice wa wn wc)).heap[sb]? = some (.cells #[.bool o, .int .i64 t, .slice wa wn wc] 36 (0, 0)) by have h1 := heap_set ks 0 (.bool o); have h2 := heap_set h1 1 (.int .i64 t); have h3 := heap_set h2 2 (.slice wa wn wc); simpa using h3)
    have D5 := hide (show Below w3.heap.size w3 (((u4.setCell ⟨sb, 0, none⟩ (.bool o)).setCell ⟨sb, 1, none⟩ (.int .i64 t)).setCell ⟨sb, 2, none⟩ (.slice wa wn wc)) from (((unhide D4).setCell (p := ⟨sb, 0, none⟩) hsb _).setCell (p := ⟨sb, 1, none⟩) hsb _).setCell (p := ⟨sb, 2, none⟩) hsb _)
    clear ks
    go_simp
    refine hK.out _ _ (unhide SK _ (unhide D5)) (fun hHeld => ?_)
    clear hK K
    clear y0 y1 y2 yf0 yf1 yf2
    generalize (((u4.setCell ⟨sb, 0, none⟩ (.bool o)).setCell ⟨sb, 1, none⟩ (.int .i64 t)).setCell ⟨sb, 2, none⟩ (.slice wa wn wc)) = u5 at *
    refine wpAnyH_done (by kernel_rfl) ?_ _
    clear hHeld SK
    have x2 := (heap_at (unhide K5) 2).1
    have VW := hide ((unhide HT).below (unhide D5))
    have hw3 := (unhide BT).size
    have C1 := hide (implCommitBytes_any wa wn wc wl u5 (by have := (unhide SB).1; have := unhide HWL; omega) (unhide VW))
    go_wp2_with fail
    refine (unhide C1).mono ?_
    rintro e u6 ⟨v6, rfl, o6, b6⟩
    rw [(unhide SB).2.1]
    rw [(unhide SB).2.2.1] at o6
    have D6 := hide ((unhide D5).trans (b6.mono (unhide D5).size))
    have K6 := hide ((b6.block sb (blk_lt (unhide K5))).trans (unhide K5))
    have O6 := hide o6
    clear C1 o6 b6 x2
    have x2 := (heap_at (unhide K6) 2).1
    have C2 := hide (specCommitBytes_any wa wn wc wl u6 (by have := (unhide SB).1; have := unhide HWL; omega) ((unhide HT).below (unhide D6)))
    go_wp2_with fail
    refine (unhide C2).mono ?_
    rintro e u7 ⟨v7, rfl, o7, b7⟩
    rw [(unhide SB).2.1]
    rw [(unhide SB).2.2.1] at o7
    have D7 := hide ((unhide D6).trans (b7.mono (unhide D6).size))
    have K7 := hide ((b7.block sb (blk_lt (unhide K6))).trans (unhide K6))
    have O67 := hide (rb_ownsRow_below (unhide O6) b7)
    have O7 := hide o7
    clear C2 o7 b7 x2
    have x1 := (heap_at (unhide K7) 1).1
    obtain ⟨a6, c6, rfl, hr6, hc6, ha6⟩ := owns_row8 (unhide O67)
    obtain ⟨a7, c7, rfl, hr7, -, -⟩ := owns_row8 (unhide O7)
    have C3 := hide (implReadCommit_any a6 (cbAll wl).length c6 (cbAll wl) t u7 hr6 (unhide SB).2.2.2.1 hc6 (by have := (unhide SB).2.2.2.2.1; omega) ha6)
    have HR6 := hide hr6
    have HR7 := hide hr7
    clear hr6 hr7 hc6 ha6
    generalize hcl : (cbAll wl).length = nc at *
    clear hcl
    go_wp2_with fail
    refine (unhide C3).mono ?_
    rintro e u8 ⟨v8, rfl, o8, b8⟩
    rw [(unhide SB).2.2.2.2.2.1]
    rw [(unhide SB).2.2.2.2.2.2] at o8
    have D8 := hide ((unhide D7).trans (b8.mono (unhide D7).size))
    have K8 := hide ((b8.block sb (blk_lt (unhide K7))).trans (unhide K7))
    have rb : ∀ {a : Option Addr} {xs : List Int}, Row u7 a nc xs → Row u8 a nc xs := fun h => ⟨h.1, fun j hj => by
      obtain ⟨b, off, e, hc⟩ := h.2 j hj
      exact ⟨b, off, e, (b8.cell (p := ⟨b, off + j, none⟩) (cell_lt hc)).trans hc⟩⟩
    have cv6 := conv_any (c := c6) (rb (unhide HR6))
    have cv7 := conv_any (c := c7) (rb (unhide HR7))
    obtain ⟨a8, c8, rfl⟩ := us_sl o8
    rw [← unhide HWL] at o8 ⊢
    have VB := vrow_of_owns o8
    have C4 := hide (sameVersions_any a8 wa wn c8 wc wl u8 VB ((unhide HT).below (unhide D8)) (by have := (unhide SB).1; have := unhide HWL; omega))
    have x2 := (heap_at (unhide K8) 2).1
    clear C3 o8 b8 x1 VB rb
    go_wp2_with (go_at_call 9; refine (unhide C4).mono ?_; rintro e u9 ⟨rfl, b9⟩)
    have BF := hide (show Below w1.heap.size w1 u9 from (unhide hB).trans (((unhide BT).trans (((unhide D8).trans (b9.mono (unhide D8).size)).mono hw3)).mono (unhide hB).size))
    go_roundw
    case rel => exact ⟨k + 1, by go_num, by omega, unhide BF⟩
    case measure => simp [intOf]; omega
end Go.Proofs.Ytodmkbnoljilpaa

namespace Go.Proofs.Ytodmkbnoljilpaa.fnCommitsFrame
open Go.ChangeShapes Go.WideShapes Go.ChangeAt Go.RowKit
open Go.ChangeMaps (open_string shut_string)
set_option linter.unusedVariables false

theorem own : ownKnob Try.prog.godebug = none := by kernel_rfl
theorem laidOut : laidOutB Try.prog = true := by kernel_rfl

set_option maxRecDepth 100000 in
theorem lifted (os : Os) (started : os.Started) (H : Type) (enc : TypeId × Value → H) :
    ReturnsInHanded {} Try.checked os 3 .any (Rows.fnCommitsSpec.pre6 enc Try.prog Try.f3 Rows.fnCommitsRow.domain false) (Rows.fnCommitsSpec.post enc Try.prog Try.f3 false true false false) := by
  refine returnsInHanded_of_change (C := Try.checked) own started (by kernel_rfl) Try.func3
    (ChangeSpec.witness6 (enc := enc) (C := Try.checked) false ⟨#[], #[.slice none 0 0], []⟩ 8 (by kernel_rfl) (by kernel_rfl) (by kernel_rfl) (by kernel_rfl)) ?_
  intro W base args ds gs before hval0 hW _ _
  have hval : ∀ (j : Nat) t v, Try.f3.params[j]? = some t → args[j]? = some v → Value.okWide Try.prog W .any base t v := hval0
  have hW' := hW
  obtain ⟨p, q, hA0, hV, rfl, _, _⟩ := hW
  have hA : DataW.TrodAll enc Try.prog W 0 (fun _ => true) true Try.f3.params.toList args.toList ds p := hA0
  rw [Try.params3] at hA hval
  obtain ⟨v0, vs0, d0, ds0, p0, q0, hargs, rfl, rfl, h0, r0⟩ := trodAll_cons hA
  obtain ⟨rfl, rfl, rfl⟩ := trodAll_nil r0
  obtain rfl : args = #[v0] := by cases args; simp_all
  obtain ⟨rfl, rfl⟩ := trodVars_none hV
  have k0 := h0
  have lt0 : ∀ x ∈ p0, x.block < W.heap.size := by obtain ⟨m, hm⟩ := k0; exact DataW.trod_lt m _ _ _ hm
  obtain ⟨a0, len0, cap0, rfl⟩ := okWide_slice Try.underlying22 (hval 0 22 v0 rfl rfl)
  obtain ⟨z0, w0⟩ : ∃ zs, IsRow .u8 W a0 len0 cap0 zs := by
    obtain ⟨fuel, hf⟩ := h0
    rcases open_ints Try.underlying22 Try.underlying5 (by kernel_rfl) hf with ⟨hcs, _⟩ | ⟨x, l, c, zs, hcs, _, hl, hm, hz, _, hcell, hwz⟩
    · simp [Value.cells] at hcs
      obtain ⟨rfl, rfl, rfl⟩ := hcs
      exact ⟨[], .inl ⟨rfl, rfl, rfl, rfl⟩⟩
    · simp [Value.cells] at hcs
      obtain ⟨rfl, rfl, rfl⟩ := hcs
      exact ⟨zs, .inr ⟨_, rfl, hl, hm, by simpa using hz, hcell, hwz⟩⟩
  clear hA0 hval0
  refine (fnCommits_law a0 len0 cap0 z0 W w0).mono fun e W' ⟨he, bel⟩ => ?_
  subst he
  exact ⟨_, rfl, _, _, _, [], _, [], hW', trodAll_mk1 (shut_bool Try.underlying4 _), (trodAll_cons_mk (Below.trod laidOut (by kernel_rfl) (of_decide_eq_true (by kernel_rfl)) k0 bel lt0) trodAll_mk0), rfl, bel.frame _, fun h => by cases h⟩

theorem over : Rows.fnCommitsRow.holds Try.pinned (OpenSpec.ofChange Rows.fnCommitsSpec) :=
  OpenClaim.holds_of_wide 3 Try.f3 rfl rfl rfl rfl rfl rfl rfl ⟨rfl, rfl, rfl, rfl, rfl⟩ rfl rfl rfl rfl rfl (by kernel_rfl) Try.func3 (by kernel_rfl)
    (of_decide_eq_true (by kernel_rfl)) (by unfold Func.isWrapper; first | (rw [if_pos (by decide +kernel)]; kernel_rfl) | (rw [if_neg (by decide +kernel)]; exact ⟨rfl, rfl⟩))
    (fun os started H enc _ => lifted os started H enc)

end Go.Proofs.Ytodmkbnoljilpaa.fnCommitsFrame
namespace Go.Proofs.Ytodmkbnoljilpaa
/-- THE STATEMENT. -/
theorem fnCommits_proved : Rows.FnCommitsSaid := fnCommitsFrame.over
#print axioms fnCommits_proved
end Go.Proofs.Ytodmkbnoljilpaa
