/-
  impl.commitBytes and impl.CommitBytes.
-/
import Derived.Test.YtdnneomdokcpeaaCbA
import Derived.Test.YtdnneomdokcpeaaVrW
namespace Go.Proofs.Ytdnneomdokcpeaa
open Go.RowKit

set_option maxRecDepth 100000 in
set_option maxHeartbeats 4000000 in
theorem commitBytes_any (a : Option Addr) (n c : Nat) (ds : List VerD) (w : World) (hn : n ≤ 4096) (hr : VRow w a n ds) (hs : ∀ i (hi : i < ds.length), ds[i].k.size ≤ 255 ∧ ds[i].v.size ≤ 255) :
    Calls Try.prog 33 #[.slice a n c] w fun e w' => ∃ v, e = .returned v ∧ Owns w' w.heap.size v (cbAll ds) ∧ Below w.heap.size w w' := by
  have L := hide hr.1
  have R := hide hr
  have H := hide hs
  clear hr hs
  go_enter Try.func33, Try.ntmps33
  go_wp2_with fail
  go_loopw [3, 9] (fun v i wr => ∃ j : Nat, i = .int .i64 (j : Int) ∧ j ≤ n ∧ Hid (Owns wr w.heap.size v (cbAll (ds.take j))) ∧ Hid (Below w.heap.size w wr)) (fun _ i _ => n - (intOf i).toNat)
  case atStart => exact ⟨0, rfl, Nat.zero_le _, cb_nil _ _, Below.refl _ _⟩
  case round =>
    obtain ⟨j, rfl, hj, hO, hB⟩ := hrel
    by_cases hlt : j < n
    · have hj2 : j < ds.length := by rw [unhide L]; exact hlt
      obtain ⟨b, off, rfl, d0, d1, d2, d3⟩ := ((unhide R).below (unhide hB)).2 j hj2
      have hsr := (unhide hB).size
      have hl : (cbAll (ds.take j)).length ≤ 9000000 := by
        have h1 := cbAll_le (ds.take j) (fun i hi' => by have := unhide H i (by rw [List.length_take] at hi'; omega); simpa using this)
        rw [List.length_take] at h1
        omega
      have hsm := unhide H j hj2
      have TS := hide (show cbAll (ds.take (j + 1)) = cbAll (ds.take j) ++ cbOne ds[j] by rw [rb_take_snoc ds j hj2, cbAll_snoc])
      generalize ds[j] = pd at *
      obtain ⟨pk, pt, pv, pg⟩ := pd
      simp only at d0 d1 d2 d3 hsm
      have BX := hide ((unhide hB).alloc hsr (.cells #[.string pk, .int .i64 pt, .string pv, .bool pg] 52))
      have OX := hide (World.ownsRow.alloc (unhide hO) (.cells #[.string pk, .int .i64 pt, .string pv, .bool pg] 52))
      have KX := hide (heap_alloc_new wr (.cells #[.string pk, .int .i64 pt, .string pv, .bool pg] 52))
      generalize cbAll (ds.take j) = zj at *
      clear hB hO
      cases pg
      · have TZ := hide (show zj ++ [1] ++ cbLine pk ++ cbLine pv = cbAll (ds.take (j + 1)) by rw [unhide TS]; simp [cbOne, cbMark])
        go_upto_region 8 with fail
        clear d0 d1 d2 d3
        generalize wr.alloc (.cells #[.string pk, .int .i64 pt, .string pv, .bool false] 52) = W at *
        generalize wr.heap.size = bx at *
        have hsW := (unhide BX).size
        have SK := hide (show ∀ u, Below w.heap.size w u → u.heap[bx]? = some (.cells #[.string pk, .int .i64 pt, .string pv, .bool false] 52 (0, 0)) → (fun u => Below w.heap.size w u ∧ u.cell? ⟨bx, 0, none⟩ = some (.string pk) ∧ u.cell? ⟨bx, 2, none⟩ = some (.string pv)) u from fun u hb hk => ⟨hb, by simp [World.cell?, hk], by simp [World.cell?, hk]⟩)
        refine wp_region_held_drew (S := (fun u => Below w.heap.size w u ∧ u.cell? ⟨bx, 0, none⟩ = some (.string pk) ∧ u.cell? ⟨bx, 2, none⟩ = some (.string pv))) (by kernel_rfl) (unhide SK _ (unhide BX).drew (unhide KX)) (fun hHeld => ?_)
        refine anyH_take 0 15 (v := ?v1) rfl rfl (by kernel_rfl) (by kernel_rfl) (by kernel_rfl) (fun _ _ _ h => h) (by rfl) ?h1 hHeld ?r1
        case h1 => (intro w hSw; (try dsimp only at hSw); go_simp; try (with_reducible rfl))
        simp only [Act.put, List.setIfInBounds_toArray, List.set_cons_zero, List.set_cons_succ]
        refine anyH_take 1 16 (v := ?v2) rfl rfl (by kernel_rfl) (by kernel_rfl) (by kernel_rfl) (fun _ _ _ h => h) (by rfl) ?h2 hHeld ?r2
        case h2 => (intro w hSw; (try dsimp only at hSw); go_simp; try (with_reducible rfl))
        simp only [Act.put, List.setIfInBounds_toArray, List.set_cons_zero, List.set_cons_succ]
        refine anyH_take 4 19 (v := ?v3) rfl rfl (by kernel_rfl) (by kernel_rfl) (by kernel_rfl) (fun _ _ _ h => h) (by rfl) ?h3 hHeld ?r3
        case h3 => (intro w hSw; (try dsimp only at hSw); go_simp; try (with_reducible rfl))
        simp only [Act.put, List.setIfInBounds_toArray, List.set_cons_zero, List.set_cons_succ]
        refine anyH_take 5 20 (v := ?v4) rfl rfl (by kernel_rfl) (by kernel_rfl) (by kernel_rfl) (fun _ _ _ h => h) (by rfl) ?h4 hHeld ?r4
        case h4 => (intro w hSw; (try dsimp only at hSw); go_simp; try (with_reducible rfl))
        simp only [Act.put, List.setIfInBounds_toArray, List.set_cons_zero, List.set_cons_succ]
        refine anyH_take 7 22 (v := ?v5) rfl rfl (by kernel_rfl) (by kernel_rfl) (by kernel_rfl) (fun _ _ _ h => h) (by rfl) ?h5 hHeld ?r5
        case h5 => (intro w hSw; (try dsimp only at hSw); go_simp; try (with_reducible rfl))
        simp only [Act.put, List.setIfInBounds_toArray, List.set_cons_zero, List.set_cons_succ]
        refine anyH_take 8 23 (v := ?v6) rfl rfl (by kernel_rfl) (by kernel_rfl) (by kernel_rfl) (fun _ _ _ h => h) (by rfl) ?h6 hHeld ?r6
        case h6 => (intro w hSw; (try dsimp only at hSw); go_simp; try (with_reducible rfl))
        simp only [Act.put, List.setIfInBounds_toArray, List.set_cons_zero, List.set_cons_succ]
        refine wpAnyH_ready (rs := [2]) (by kernel_rfl) (by simp) ?_
        refine AllReadyH.cons rfl (fun K hK => ?_) AllReadyH.nil
        go_simp
        have bA := (unhide BX).drew.alloc (o := .cells #[.int .u8 1] 5) hsW
        have kA := CbKeep.below ((Below.refl W.drew.heap.size W.drew).alloc (Nat.le_refl _) (.cells #[.int .u8 1] 5)) _ _ _ (by decide) (unhide KX)
        refine hK.out _ _ (unhide SK _ bA kA) (fun hHeld => ?_)
        clear hK K
        refine wpAnyH_ready (rs := [3]) (by kernel_rfl) (by simp) ?_
        refine AllReadyH.cons rfl (fun K hK => ?_) AllReadyH.nil
        obtain ⟨v1, w1, hr1, o1, g1, _⟩ := cb_app (w := W.drew.alloc (.cells #[.int .u8 1] 5)) (World.ownsRow.alloc (unhide OX) _) (cb_lit1 (w := W.drew) 1 hsW) rfl (by omega) (by omega) (by omega) (Nat.le_trans hsW (by simp))
        refine cb_stepApp rfl (.tmp 15) (.tmp 17) 24 rfl _ _ v1 w1 (by first | rfl | (simp [Act.eval]; done) | (simp [Act.eval, Act.put]; done)) (by first | rfl | (simp [Act.eval]; done) | (simp [Act.eval, Act.put]; done)) hr1 ?_
        have b1 := cb_below_grown bA (Nat.le_trans hsW (by simp)) (World.ownsRow.alloc (unhide OX) _) g1
        have k1 := CbKeep.grown (w := W.drew.alloc (.cells #[.int .u8 1] 5)) (World.ownsRow.alloc (unhide OX) _) g1 _ _ _ (by decide) kA
        clear hr1 g1
        refine hK.out _ _ (unhide SK _ b1 k1) (fun hHeld => ?_)
        clear hK K
        simp only [Act.put, List.setIfInBounds_toArray]
        refine wpAnyH_ready (rs := [6]) (by kernel_rfl) (by simp) ?_
        refine AllReadyH.cons rfl (fun K hK => ?_) AllReadyH.nil
        go_simp
        refine (cb_short w.heap.size v1 (zj ++ [1]) pk w1 b1.size (by simp; omega) hsm.1 o1).mono ?_
        rintro e w2 ⟨v2, rfl, o2, b2, k2⟩
        replace b2 := b1.trans b2
        replace k2 := k2 _ _ _ (by decide) k1
        refine hK.out _ _ (unhide SK _ b2 k2) (fun hHeld => ?_)
        clear hK K
        refine wpAnyH_ready (rs := [9]) (by kernel_rfl) (by simp) ?_
        refine AllReadyH.cons rfl (fun K hK => ?_) AllReadyH.nil
        go_simp
        refine (cb_short w.heap.size v2 (zj ++ [1] ++ cbLine pk) pv w2 b2.size (by simp [cbLine_length]; omega) hsm.2 o2).mono ?_
        rintro e w3 ⟨v3, rfl, o3, b3, k3⟩
        replace b3 := b2.trans b3
        replace k3 := k3 _ _ _ (by decide) k2
        refine hK.out _ _ (unhide SK _ b3 k3) (fun hHeld => ?_)
        clear hK K
        refine anyH_take 10 3 (v := ?v7) rfl rfl (by kernel_rfl) (by kernel_rfl) (by kernel_rfl) (fun _ _ _ h => h) (by rfl) ?h7 hHeld ?r7
        case h7 => (intro w hSw; (try dsimp only at hSw); go_simp; try (with_reducible rfl))
        simp only [Act.put, List.setIfInBounds_toArray, List.set_cons_zero, List.set_cons_succ]
        refine wpAnyH_done (by kernel_rfl) ?_ _
        clear k1 k2 k3 b1 b2 bA kA o1 o2
        replace o3 := hide (unhide TZ ▸ o3)
        replace b3 := hide b3
        go_wp2_with fail
        go_roundw
        case rel => exact ⟨j + 1, by go_num, by omega, unhide o3, unhide b3⟩
        case measure => simp [intOf]; omega
      · have TZ := hide (show zj ++ [2] ++ cbLine pk ++ cbLine pv = cbAll (ds.take (j + 1)) by rw [unhide TS]; simp [cbOne, cbMark])
        go_upto_region 8 with fail
        clear d0 d1 d2 d3
        generalize wr.alloc (.cells #[.string pk, .int .i64 pt, .string pv, .bool true] 52) = W at *
        generalize wr.heap.size = bx at *
        have hsW := (unhide BX).size
        have SK := hide (show ∀ u, Below w.heap.size w u → u.heap[bx]? = some (.cells #[.string pk, .int .i64 pt, .string pv, .bool true] 52 (0, 0)) → (fun u => Below w.heap.size w u ∧ u.cell? ⟨bx, 0, none⟩ = some (.string pk) ∧ u.cell? ⟨bx, 2, none⟩ = some (.string pv)) u from fun u hb hk => ⟨hb, by simp [World.cell?, hk], by simp [World.cell?, hk]⟩)
        refine wp_region_held_drew (S := (fun u => Below w.heap.size w u ∧ u.cell? ⟨bx, 0, none⟩ = some (.string pk) ∧ u.cell? ⟨bx, 2, none⟩ = some (.string pv))) (by kernel_rfl) (unhide SK _ (unhide BX).drew (unhide KX)) (fun hHeld => ?_)
        refine anyH_take 0 15 (v := ?v8) rfl rfl (by kernel_rfl) (by kernel_rfl) (by kernel_rfl) (fun _ _ _ h => h) (by rfl) ?h8 hHeld ?r8
        case h8 => (intro w hSw; (try dsimp only at hSw); go_simp; try (with_reducible rfl))
        simp only [Act.put, List.setIfInBounds_toArray, List.set_cons_zero, List.set_cons_succ]
        refine anyH_take 1 16 (v := ?v9) rfl rfl (by kernel_rfl) (by kernel_rfl) (by kernel_rfl) (fun _ _ _ h => h) (by rfl) ?h9 hHeld ?r9
        case h9 => (intro w hSw; (try dsimp only at hSw); go_simp; try (with_reducible rfl))
        simp only [Act.put, List.setIfInBounds_toArray, List.set_cons_zero, List.set_cons_succ]
        refine anyH_take 4 19 (v := ?v10) rfl rfl (by kernel_rfl) (by kernel_rfl) (by kernel_rfl) (fun _ _ _ h => h) (by rfl) ?h10 hHeld ?r10
        case h10 => (intro w hSw; (try dsimp only at hSw); go_simp; try (with_reducible rfl))
        simp only [Act.put, List.setIfInBounds_toArray, List.set_cons_zero, List.set_cons_succ]
        refine anyH_take 5 20 (v := ?v11) rfl rfl (by kernel_rfl) (by kernel_rfl) (by kernel_rfl) (fun _ _ _ h => h) (by rfl) ?h11 hHeld ?r11
        case h11 => (intro w hSw; (try dsimp only at hSw); go_simp; try (with_reducible rfl))
        simp only [Act.put, List.setIfInBounds_toArray, List.set_cons_zero, List.set_cons_succ]
        refine anyH_take 7 22 (v := ?v12) rfl rfl (by kernel_rfl) (by kernel_rfl) (by kernel_rfl) (fun _ _ _ h => h) (by rfl) ?h12 hHeld ?r12
        case h12 => (intro w hSw; (try dsimp only at hSw); go_simp; try (with_reducible rfl))
        simp only [Act.put, List.setIfInBounds_toArray, List.set_cons_zero, List.set_cons_succ]
        refine anyH_take 8 23 (v := ?v13) rfl rfl (by kernel_rfl) (by kernel_rfl) (by kernel_rfl) (fun _ _ _ h => h) (by rfl) ?h13 hHeld ?r13
        case h13 => (intro w hSw; (try dsimp only at hSw); go_simp; try (with_reducible rfl))
        simp only [Act.put, List.setIfInBounds_toArray, List.set_cons_zero, List.set_cons_succ]
        refine wpAnyH_ready (rs := [2]) (by kernel_rfl) (by simp) ?_
        refine AllReadyH.cons rfl (fun K hK => ?_) AllReadyH.nil
        go_simp
        have bA := (unhide BX).drew.alloc (o := .cells #[.int .u8 2] 5) hsW
        have kA := CbKeep.below ((Below.refl W.drew.heap.size W.drew).alloc (Nat.le_refl _) (.cells #[.int .u8 2] 5)) _ _ _ (by decide) (unhide KX)
        refine hK.out _ _ (unhide SK _ bA kA) (fun hHeld => ?_)
        clear hK K
        refine wpAnyH_ready (rs := [3]) (by kernel_rfl) (by simp) ?_
        refine AllReadyH.cons rfl (fun K hK => ?_) AllReadyH.nil
        obtain ⟨v1, w1, hr1, o1, g1, _⟩ := cb_app (w := W.drew.alloc (.cells #[.int .u8 2] 5)) (World.ownsRow.alloc (unhide OX) _) (cb_lit1 (w := W.drew) 2 hsW) rfl (by omega) (by omega) (by omega) (Nat.le_trans hsW (by simp))
        refine cb_stepApp rfl (.tmp 15) (.tmp 17) 24 rfl _ _ v1 w1 (by first | rfl | (simp [Act.eval]; done) | (simp [Act.eval, Act.put]; done)) (by first | rfl | (simp [Act.eval]; done) | (simp [Act.eval, Act.put]; done)) hr1 ?_
        have b1 := cb_below_grown bA (Nat.le_trans hsW (by simp)) (World.ownsRow.alloc (unhide OX) _) g1
        have k1 := CbKeep.grown (w := W.drew.alloc (.cells #[.int .u8 2] 5)) (World.ownsRow.alloc (unhide OX) _) g1 _ _ _ (by decide) kA
        clear hr1 g1
        refine hK.out _ _ (unhide SK _ b1 k1) (fun hHeld => ?_)
        clear hK K
        simp only [Act.put, List.setIfInBounds_toArray]
        refine wpAnyH_ready (rs := [6]) (by kernel_rfl) (by simp) ?_
        refine AllReadyH.cons rfl (fun K hK => ?_) AllReadyH.nil
        go_simp
        refine (cb_short w.heap.size v1 (zj ++ [2]) pk w1 b1.size (by simp; omega) hsm.1 o1).mono ?_
        rintro e w2 ⟨v2, rfl, o2, b2, k2⟩
        replace b2 := b1.trans b2
        replace k2 := k2 _ _ _ (by decide) k1
        refine hK.out _ _ (unhide SK _ b2 k2) (fun hHeld => ?_)
        clear hK K
        refine wpAnyH_ready (rs := [9]) (by kernel_rfl) (by simp) ?_
        refine AllReadyH.cons rfl (fun K hK => ?_) AllReadyH.nil
        go_simp
        refine (cb_short w.heap.size v2 (zj ++ [2] ++ cbLine pk) pv w2 b2.size (by simp [cbLine_length]; omega) hsm.2 o2).mono ?_
        rintro e w3 ⟨v3, rfl, o3, b3, k3⟩
        replace b3 := b2.trans b3
        replace k3 := k3 _ _ _ (by decide) k2
        refine hK.out _ _ (unhide SK _ b3 k3) (fun hHeld => ?_)
        clear hK K
        refine anyH_take 10 3 (v := ?v14) rfl rfl (by kernel_rfl) (by kernel_rfl) (by kernel_rfl) (fun _ _ _ h => h) (by rfl) ?h14 hHeld ?r14
        case h14 => (intro w hSw; (try dsimp only at hSw); go_simp; try (with_reducible rfl))
        simp only [Act.put, List.setIfInBounds_toArray, List.set_cons_zero, List.set_cons_succ]
        refine wpAnyH_done (by kernel_rfl) ?_ _
        clear k1 k2 k3 b1 b2 bA kA o1 o2
        replace o3 := hide (unhide TZ ▸ o3)
        replace b3 := hide b3
        go_wp2_with fail
        go_roundw
        case rel => exact ⟨j + 1, by go_num, by omega, unhide o3, unhide b3⟩
        case measure => simp [intOf]; omega
    · obtain rfl : j = n := by omega
      have Z := hide (show Owns wr w.heap.size _ (cbAll ds) by
        have := unhide hO
        rwa [List.take_of_length_le (by rw [unhide L]; exact Nat.le_refl _)] at this)
      go_wp2_with fail
      go_ret
      exact ⟨_, rfl, unhide Z, unhide hB⟩
end Go.Proofs.Ytdnneomdokcpeaa
