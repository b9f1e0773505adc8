/-
  VsB, VeS, VpA, TxA, VnC, SeA, GdP, TxB, TxC, TxE, TxF, TxG in one.
-/
import Derived.Test.YtcflepnckjappaaGreatReAll1
import Derived.Deep.Cut
import Derived.Test.YtcflepnckjappaaGreatAppL
import Derived.Test.YtcflepnckjappaaGreatVrT
import Derived.Test.YtcflepnckjappaaGreatFnT
import Derived.Test.YtcflepnckjappaaGreatWrT
import Derived.Test.YtcflepnckjappaaGreatGdA
import Derived.Test.YtcflepnckjappaaGreatVrC
import Derived.Test.YtcflepnckjappaaGreatSsA
import Derived.Deep.RegionWith
import Derived.Test.YtcflepnckjappaaGreatKdA
namespace Go.Proofs.YtcflepnckjappaaGreat
open Go.RowKit

theorem vs_step {ds : List VerD} {k : Nat} {b : Bool} (hk : k < ds.length) (hok : ∀ i, i < k → okAtV ds i = true) (h : okAtV ds k = b) : if b = true then ∀ i, i < k + 1 → okAtV ds i = true else okVs ds = false := by
  cases b
  · exact okVs_false hk h
  · intro i hi
    by_cases e : i < k
    · exact hok i e
    · rw [show i = k by omega]; exact h
set_option maxRecDepth 100000 in
set_option maxHeartbeats 8000000 in
theorem l06List_any (a : Option Addr) (n c : Nat) (ds : List VerD) (w : World) (hn : n ≤ 1048576) (hr : VRow w a n ds) :
    Calls Tryz.prog 313 #[.slice a n c] w fun e w' => e = .returned (.bool (okVs ds)) ∧ Below w.heap.size w w' := by
  have L := hide hr.1
  have R := hide hr
  clear hr
  go_enter Tryz.func313, Tryz.ntmps313
  go_wp2_with fail
  go_loopw [3] (fun i wr => ∃ k : Nat, k ≤ n ∧ i = .int .i64 k ∧ Hid (∀ i, i < k → okAtV ds i = true) ∧ Hid (Below w.heap.size w wr)) (fun i _ => n - (intOf i).toNat)
  case atStart => exact ⟨0, by omega, rfl, (fun i hi => absurd hi (Nat.not_lt_zero _)), Below.refl _ _⟩
  case round =>
    obtain ⟨k, hk, rfl, hok, hb⟩ := hrel
    by_cases hlt : k < n
    · have hk2 : k < ds.length := by rw [unhide L]; exact hlt
      have hkn : (k : Int) < (n : Int) := by omega
      obtain ⟨b, off, rfl, d0, d1, d2, d3⟩ := ((unhide R).below (unhide hb)).2 k hk2
      have hsz := (unhide hb).size
      have ST := hide (fun b => vs_step (b := b) hk2 (unhide hok))
      have E0 := hide (show k = 0 → okAtV ds k = verK ds[k] from fun e => by subst e; exact okAtV_zero hk2)
      have E1 := hide (show ∀ (h : 0 < k), okAtV ds k = (verK ds[k] && ltV (ds[k - 1]'(by omega)) ds[k]) from fun h => by
        obtain ⟨j, rfl⟩ : ∃ j, k = j + 1 := ⟨k - 1, by omega⟩
        exact okAtV_succ hk2)
      have SV := hide (fun (u : World) (hb : Below wr.heap.size wr u) => (l06Right_any ds[k] u).mono fun e u' h => show e = .returned (.bool (verK ds[k])) ∧ Below wr.heap.size wr u' from ⟨h.1, hb.trans (h.2.mono hb.size)⟩)
      have SC0 := hide (fun j (hj : j < ds.length) (u : World) (hb : Below wr.heap.size wr u) => (l06Before_any ds[j] ds[k] u).mono fun e u' h => show e = .returned (.bool (ltV ds[j] ds[k])) ∧ Below wr.heap.size wr u' from ⟨h.1, hb.trans (h.2.mono hb.size)⟩)
      generalize ds[k] = pd at *
      obtain ⟨pk, pt, pv, pg⟩ := pd
      simp only at d0 d1 d2 d3
      unfold vv at SV SC0
      simp only at SV SC0
      clear hok
      have BE := hide (show ∀ u, Below wr.heap.size wr u → Below w.heap.size w u from fun u hb' => (unhide hb).trans (hb'.mono hsz))
      have SK := hide (show ∀ u, Below wr.heap.size wr u → (fun u => Below wr.heap.size wr u ∧ u.cell? ⟨b, off + k * 4, none⟩ = some (.string pk) ∧ u.cell? ⟨b, off + k * 4 + 1, none⟩ = some (.int .i64 pt) ∧ u.cell? ⟨b, off + k * 4 + 2, none⟩ = some (.string pv) ∧ u.cell? ⟨b, off + k * 4 + 3, none⟩ = some (.bool pg)) u from fun u hb =>
        ⟨hb, (hb.cell (p := ⟨b, off + k * 4, none⟩) (cell_lt d0)).trans d0, (hb.cell (p := ⟨b, off + k * 4 + 1, none⟩) (cell_lt d1)).trans d1, (hb.cell (p := ⟨b, off + k * 4 + 2, none⟩) (cell_lt d2)).trans d2, (hb.cell (p := ⟨b, off + k * 4 + 3, none⟩) (cell_lt d3)).trans d3⟩)
      have G0 : Below wr.heap.size wr wr.drew := (Below.refl _ _).drew
      clear d0 d1 d2 d3
      go_upto_region 4 with fail
      generalize hvk : verK ⟨pk, pt, pv, pg⟩ = vk at *
      cases vk
      · have Z := hide (show okVs ds = false by
          have := unhide ST false (by
            by_cases h0 : k = 0
            · exact unhide E0 h0
            · rw [unhide E1 (by omega)]; rfl)
          simpa using this)
        refine wp_region_held_drew (S := (fun u => Below wr.heap.size wr u ∧ u.cell? ⟨b, off + k * 4, none⟩ = some (.string pk) ∧ u.cell? ⟨b, off + k * 4 + 1, none⟩ = some (.int .i64 pt) ∧ u.cell? ⟨b, off + k * 4 + 2, none⟩ = some (.string pv) ∧ u.cell? ⟨b, off + k * 4 + 3, none⟩ = some (.bool pg))) (by kernel_rfl) (unhide SK _ G0) (fun hHeld => ?_)
        refine anyH_take 0 10 (v := ?v1) rfl rfl (by kernel_rfl) (by kernel_rfl) (by kernel_rfl) (fun _ _ _ h => h) (by rfl) ?h1 hHeld ?r1
        case h1 => (intro w hSw; (try dsimp only at hSw); go_simp; try (with_reducible rfl))
        simp only [Act.put, List.setIfInBounds_toArray, List.set_cons_zero, List.set_cons_succ]
        refine anyH_take 1 11 (v := ?v2) rfl rfl (by kernel_rfl) (by kernel_rfl) (by kernel_rfl) (fun _ _ _ h => h) (by rfl) ?h2 hHeld ?r2
        case h2 => (intro w hSw; (try dsimp only at hSw); go_simp; try (with_reducible rfl))
        simp only [Act.put, List.setIfInBounds_toArray, List.set_cons_zero, List.set_cons_succ]
        refine anyH_take 2 12 (v := ?v3) rfl rfl (by kernel_rfl) (by kernel_rfl) (by kernel_rfl) (fun _ _ _ h => h) (by rfl) ?h3 hHeld ?r3
        case h3 => (intro w hSw; (try dsimp only at hSw); go_simp; try (with_reducible rfl))
        simp only [Act.put, List.setIfInBounds_toArray, List.set_cons_zero, List.set_cons_succ]
        refine anyH_take 3 13 (v := ?v4) rfl rfl (by kernel_rfl) (by kernel_rfl) (by kernel_rfl) (fun _ _ _ h => h) (by rfl) ?h4 hHeld ?r4
        case h4 => (intro w hSw; (try dsimp only at hSw); go_simp; try (with_reducible rfl))
        simp only [Act.put, List.setIfInBounds_toArray, List.set_cons_zero, List.set_cons_succ]
        refine wpAnyH_ready (rs := [4]) (by kernel_rfl) (by simp) ?_
        refine AllReadyH.cons rfl (fun K hK => ?_) AllReadyH.nil
        go_simp
        refine (unhide SV _ G0).mono ?_
        rintro e w2 ⟨rfl, b2⟩
        refine hK.out _ _ (unhide SK _ b2) (fun hHeld => ?_)
        clear hK K
        refine anyH_take 5 15 (v := ?v5) rfl rfl (by kernel_rfl) (by kernel_rfl) (by kernel_rfl) (fun _ _ _ h => h) (by rfl) ?h5 hHeld ?r5
        case h5 => (intro w hSw; (try dsimp only at hSw); go_simp; try (with_reducible rfl))
        simp only [Act.put, List.setIfInBounds_toArray, List.set_cons_zero, List.set_cons_succ]
        refine anyH_take 6 16 (v := ?v6) rfl rfl (by kernel_rfl) (by kernel_rfl) (by kernel_rfl) (fun _ _ _ h => h) (by rfl) ?h6 hHeld ?r6
        case h6 => (intro w hSw; (try dsimp only at hSw); go_simp; try (with_reducible rfl))
        simp only [Act.put, List.setIfInBounds_toArray, List.set_cons_zero, List.set_cons_succ]
        refine anyH_skip 7 17 rfl rfl (by kernel_rfl) (by kernel_rfl) (by kernel_rfl) (fun _ _ _ h => h) (by rfl) hHeld ?_
        simp only [Act.put, List.setIfInBounds_toArray, List.set_cons_zero, List.set_cons_succ]
        refine anyH_skip 8 18 rfl rfl (by kernel_rfl) (by kernel_rfl) (by kernel_rfl) (fun _ _ _ h => h) (by rfl) hHeld ?_
        simp only [Act.put, List.setIfInBounds_toArray, List.set_cons_zero, List.set_cons_succ]
        refine anyH_skip 9 19 rfl rfl (by kernel_rfl) (by kernel_rfl) (by kernel_rfl) (fun _ _ _ h => h) (by rfl) hHeld ?_
        simp only [Act.put, List.setIfInBounds_toArray, List.set_cons_zero, List.set_cons_succ]
        refine anyH_skip 10 20 rfl rfl (by kernel_rfl) (by kernel_rfl) (by kernel_rfl) (fun _ _ _ h => h) (by rfl) hHeld ?_
        simp only [Act.put, List.setIfInBounds_toArray, List.set_cons_zero, List.set_cons_succ]
        refine anyH_skip 11 21 rfl rfl (by kernel_rfl) (by kernel_rfl) (by kernel_rfl) (fun _ _ _ h => h) (by rfl) hHeld ?_
        simp only [Act.put, List.setIfInBounds_toArray, List.set_cons_zero, List.set_cons_succ]
        refine anyH_skip 12 22 rfl rfl (by kernel_rfl) (by kernel_rfl) (by kernel_rfl) (fun _ _ _ h => h) (by rfl) hHeld ?_
        simp only [Act.put, List.setIfInBounds_toArray, List.set_cons_zero, List.set_cons_succ]
        refine anyH_skip 13 23 rfl rfl (by kernel_rfl) (by kernel_rfl) (by kernel_rfl) (fun _ _ _ h => h) (by rfl) hHeld ?_
        simp only [Act.put, List.setIfInBounds_toArray, List.set_cons_zero, List.set_cons_succ]
        refine anyH_skip 14 24 rfl rfl (by kernel_rfl) (by kernel_rfl) (by kernel_rfl) (fun _ _ _ h => h) (by rfl) hHeld ?_
        simp only [Act.put, List.setIfInBounds_toArray, List.set_cons_zero, List.set_cons_succ]
        refine anyH_skip 15 25 rfl rfl (by kernel_rfl) (by kernel_rfl) (by kernel_rfl) (fun _ _ _ h => h) (by rfl) hHeld ?_
        simp only [Act.put, List.setIfInBounds_toArray, List.set_cons_zero, List.set_cons_succ]
        refine anyH_skip 16 26 rfl rfl (by kernel_rfl) (by kernel_rfl) (by kernel_rfl) (fun _ _ _ h => h) (by rfl) hHeld ?_
        simp only [Act.put, List.setIfInBounds_toArray, List.set_cons_zero, List.set_cons_succ]
        refine anyH_skip 17 27 rfl rfl (by kernel_rfl) (by kernel_rfl) (by kernel_rfl) (fun _ _ _ h => h) (by rfl) hHeld ?_
        simp only [Act.put, List.setIfInBounds_toArray, List.set_cons_zero, List.set_cons_succ]
        refine anyH_skip 18 28 rfl rfl (by kernel_rfl) (by kernel_rfl) (by kernel_rfl) (fun _ _ _ h => h) (by rfl) hHeld ?_
        simp only [Act.put, List.setIfInBounds_toArray, List.set_cons_zero, List.set_cons_succ]
        refine anyH_skip 19 29 rfl rfl (by kernel_rfl) (by kernel_rfl) (by kernel_rfl) (fun _ _ _ h => h) (by rfl) hHeld ?_
        simp only [Act.put, List.setIfInBounds_toArray, List.set_cons_zero, List.set_cons_succ]
        refine anyH_skip 20 30 rfl rfl (by kernel_rfl) (by kernel_rfl) (by kernel_rfl) (fun _ _ _ h => h) (by rfl) hHeld ?_
        simp only [Act.put, List.setIfInBounds_toArray, List.set_cons_zero, List.set_cons_succ]
        refine anyH_skip 21 31 rfl rfl (by kernel_rfl) (by kernel_rfl) (by kernel_rfl) (fun _ _ _ h => h) (by rfl) hHeld ?_
        simp only [Act.put, List.setIfInBounds_toArray, List.set_cons_zero, List.set_cons_succ]
        refine anyH_take 22 32 (v := ?v7) rfl rfl (by kernel_rfl) (by kernel_rfl) (by kernel_rfl) (fun _ _ _ h => h) (by rfl) ?h7 hHeld ?r7
        case h7 => (intro w hSw; (try dsimp only at hSw); go_simp; try (with_reducible rfl))
        simp only [Act.put, List.setIfInBounds_toArray, List.set_cons_zero, List.set_cons_succ]
        refine wpAnyH_done (by kernel_rfl) ?_ _
        have BF := unhide BE _ b2
        go_wp2_with fail
        go_ret
        exact ⟨ret_bool (unhide Z).symm, BF⟩
      · by_cases hk0 : k = 0
        · have Z := hide (show ∀ i, i < k + 1 → okAtV ds i = true by
            have := unhide ST true (unhide E0 hk0)
            simpa using this)
          have hg : decide ((0 : Int) < (k : Int)) = false := decide_eq_false (by omega)
          have hg1 : decide (0 < k) = false := decide_eq_false (by omega)
          clear hk0
          refine wp_region_held_drew (S := (fun u => Below wr.heap.size wr u ∧ u.cell? ⟨b, off + k * 4, none⟩ = some (.string pk) ∧ u.cell? ⟨b, off + k * 4 + 1, none⟩ = some (.int .i64 pt) ∧ u.cell? ⟨b, off + k * 4 + 2, none⟩ = some (.string pv) ∧ u.cell? ⟨b, off + k * 4 + 3, none⟩ = some (.bool pg))) (by kernel_rfl) (unhide SK _ G0) (fun hHeld => ?_)
          refine anyH_take 0 10 (v := ?v8) rfl rfl (by kernel_rfl) (by kernel_rfl) (by kernel_rfl) (fun _ _ _ h => h) (by rfl) ?h8 hHeld ?r8
          case h8 => (intro w hSw; (try dsimp only at hSw); go_simp; try (with_reducible rfl))
          simp only [Act.put, List.setIfInBounds_toArray, List.set_cons_zero, List.set_cons_succ]
          refine anyH_take 1 11 (v := ?v9) rfl rfl (by kernel_rfl) (by kernel_rfl) (by kernel_rfl) (fun _ _ _ h => h) (by rfl) ?h9 hHeld ?r9
          case h9 => (intro w hSw; (try dsimp only at hSw); go_simp; try (with_reducible rfl))
          simp only [Act.put, List.setIfInBounds_toArray, List.set_cons_zero, List.set_cons_succ]
          refine anyH_take 2 12 (v := ?v10) rfl rfl (by kernel_rfl) (by kernel_rfl) (by kernel_rfl) (fun _ _ _ h => h) (by rfl) ?h10 hHeld ?r10
          case h10 => (intro w hSw; (try dsimp only at hSw); go_simp; try (with_reducible rfl))
          simp only [Act.put, List.setIfInBounds_toArray, List.set_cons_zero, List.set_cons_succ]
          refine anyH_take 3 13 (v := ?v11) rfl rfl (by kernel_rfl) (by kernel_rfl) (by kernel_rfl) (fun _ _ _ h => h) (by rfl) ?h11 hHeld ?r11
          case h11 => (intro w hSw; (try dsimp only at hSw); go_simp; try (with_reducible rfl))
          simp only [Act.put, List.setIfInBounds_toArray, List.set_cons_zero, List.set_cons_succ]
          refine wpAnyH_ready (rs := [4]) (by kernel_rfl) (by simp) ?_
          refine AllReadyH.cons rfl (fun K hK => ?_) AllReadyH.nil
          go_simp
          refine (unhide SV _ G0).mono ?_
          rintro e w2 ⟨rfl, b2⟩
          refine hK.out _ _ (unhide SK _ b2) (fun hHeld => ?_)
          clear hK K
          refine anyH_take 5 15 (v := ?v12) rfl rfl (by kernel_rfl) (by kernel_rfl) (by kernel_rfl) (fun _ _ _ h => h) (by rfl) ?h12 hHeld ?r12
          case h12 => (intro w hSw; (try dsimp only at hSw); go_simp; try (with_reducible rfl))
          simp only [Act.put, List.setIfInBounds_toArray, List.set_cons_zero, List.set_cons_succ]
          refine anyH_take 6 16 (v := ?v13) rfl rfl (by kernel_rfl) (by kernel_rfl) (by kernel_rfl) (fun _ _ _ h => h) (by rfl) ?h13 hHeld ?r13
          case h13 => (intro w hSw; (try dsimp only at hSw); go_simp; try (with_reducible rfl))
          simp only [Act.put, List.setIfInBounds_toArray, List.set_cons_zero, List.set_cons_succ]
          refine anyH_take 7 17 (v := ?v14) rfl rfl (by kernel_rfl) (by kernel_rfl) (by kernel_rfl) (fun _ _ _ h => h) (by rfl) ?h14 hHeld ?r14
          case h14 => (intro w hSw; (try dsimp only at hSw); go_simp; try (with_reducible rfl))
          simp only [Act.put, List.setIfInBounds_toArray, List.set_cons_zero, List.set_cons_succ]
          refine anyH_take 8 18 (v := ?v15) rfl rfl (by kernel_rfl) (by kernel_rfl) (by kernel_rfl) (fun _ _ _ h => h) (by rfl) ?h15 hHeld ?r15
          case h15 => (intro w hSw; (try dsimp only at hSw); go_simp; try (with_reducible rfl))
          simp only [Act.put, List.setIfInBounds_toArray, List.set_cons_zero, List.set_cons_succ]
          refine anyH_take 9 19 (v := ?v16) rfl rfl (by kernel_rfl) (by kernel_rfl) (by kernel_rfl) (fun _ _ _ h => h) (by rfl) ?h16 hHeld ?r16
          case h16 => (intro w hSw; (try dsimp only at hSw); go_simp; try (with_reducible rfl))
          simp only [Act.put, List.setIfInBounds_toArray, List.set_cons_zero, List.set_cons_succ]
          refine anyH_skip 10 20 rfl rfl (by kernel_rfl) (by kernel_rfl) (by kernel_rfl) (fun _ _ _ h => h) (by rfl) hHeld ?_
          simp only [Act.put, List.setIfInBounds_toArray, List.set_cons_zero, List.set_cons_succ]
          refine anyH_skip 11 21 rfl rfl (by kernel_rfl) (by kernel_rfl) (by kernel_rfl) (fun _ _ _ h => h) (by rfl) hHeld ?_
          simp only [Act.put, List.setIfInBounds_toArray, List.set_cons_zero, List.set_cons_succ]
          refine anyH_skip 12 22 rfl rfl (by kernel_rfl) (by kernel_rfl) (by kernel_rfl) (fun _ _ _ h => h) (by rfl) hHeld ?_
          simp only [Act.put, List.setIfInBounds_toArray, List.set_cons_zero, List.set_cons_succ]
          refine anyH_skip 13 23 rfl rfl (by kernel_rfl) (by kernel_rfl) (by kernel_rfl) (fun _ _ _ h => h) (by rfl) hHeld ?_
          simp only [Act.put, List.setIfInBounds_toArray, List.set_cons_zero, List.set_cons_succ]
          refine anyH_skip 14 24 rfl rfl (by kernel_rfl) (by kernel_rfl) (by kernel_rfl) (fun _ _ _ h => h) (by rfl) hHeld ?_
          simp only [Act.put, List.setIfInBounds_toArray, List.set_cons_zero, List.set_cons_succ]
          refine anyH_skip 15 25 rfl rfl (by kernel_rfl) (by kernel_rfl) (by kernel_rfl) (fun _ _ _ h => h) (by rfl) hHeld ?_
          simp only [Act.put, List.setIfInBounds_toArray, List.set_cons_zero, List.set_cons_succ]
          refine anyH_skip 16 26 rfl rfl (by kernel_rfl) (by kernel_rfl) (by kernel_rfl) (fun _ _ _ h => h) (by rfl) hHeld ?_
          simp only [Act.put, List.setIfInBounds_toArray, List.set_cons_zero, List.set_cons_succ]
          refine anyH_skip 17 27 rfl rfl (by kernel_rfl) (by kernel_rfl) (by kernel_rfl) (fun _ _ _ h => h) (by rfl) hHeld ?_
          simp only [Act.put, List.setIfInBounds_toArray, List.set_cons_zero, List.set_cons_succ]
          refine anyH_skip 18 28 rfl rfl (by kernel_rfl) (by kernel_rfl) (by kernel_rfl) (fun _ _ _ h => h) (by rfl) hHeld ?_
          simp only [Act.put, List.setIfInBounds_toArray, List.set_cons_zero, List.set_cons_succ]
          refine anyH_skip 19 29 rfl rfl (by kernel_rfl) (by kernel_rfl) (by kernel_rfl) (fun _ _ _ h => h) (by rfl) hHeld ?_
          simp only [Act.put, List.setIfInBounds_toArray, List.set_cons_zero, List.set_cons_succ]
          refine anyH_skip 20 30 rfl rfl (by kernel_rfl) (by kernel_rfl) (by kernel_rfl) (fun _ _ _ h => h) (by rfl) hHeld ?_
          simp only [Act.put, List.setIfInBounds_toArray, List.set_cons_zero, List.set_cons_succ]
          refine anyH_take 21 31 (v := ?v17) rfl rfl (by kernel_rfl) (by kernel_rfl) (by kernel_rfl) (fun _ _ _ h => h) (by rfl) ?h17 hHeld ?r17
          case h17 => (intro w hSw; (try dsimp only at hSw); go_simp; try (with_reducible rfl))
          simp only [Act.put, List.setIfInBounds_toArray, List.set_cons_zero, List.set_cons_succ]
          refine anyH_take 22 32 (v := ?v18) rfl rfl (by kernel_rfl) (by kernel_rfl) (by kernel_rfl) (fun _ _ _ h => h) (by rfl) ?h18 hHeld ?r18
          case h18 => (intro w hSw; (try dsimp only at hSw); go_simp; try (with_reducible rfl))
          simp only [Act.put, List.setIfInBounds_toArray, List.set_cons_zero, List.set_cons_succ]
          refine wpAnyH_done (by kernel_rfl) ?_ _
          have BF := unhide BE _ b2
          go_wp2_with fail
          go_roundw
          case rel => exact ⟨k + 1, by omega, by go_num, unhide Z, BF⟩
          case measure => simp [intOf]; omega
        · have hj : k - 1 < ds.length := by omega
          have hkp : 0 < k := by omega
          obtain ⟨b', off', e', q0, q1, q2, q3⟩ := ((unhide R).below (unhide hb)).2 (k - 1) hj
          cases e'
          have SC := hide (unhide SC0 (k - 1) hj)
          have E1' := hide (unhide E1 hkp)
          clear SC0 E1 E0
          generalize ds[k - 1] = qd at *
          obtain ⟨qk, qt, qv, qg⟩ := qd
          simp only at q0 q1 q2 q3 SC
          generalize ltV ⟨qk, qt, qv, qg⟩ ⟨pk, pt, pv, pg⟩ = lv at *
          have SK2 := hide (show ∀ u, Below wr.heap.size wr u → (fun u => Below wr.heap.size wr u ∧ u.cell? ⟨b, off + k * 4, none⟩ = some (.string pk) ∧ u.cell? ⟨b, off + k * 4 + 1, none⟩ = some (.int .i64 pt) ∧ u.cell? ⟨b, off + k * 4 + 2, none⟩ = some (.string pv) ∧ u.cell? ⟨b, off + k * 4 + 3, none⟩ = some (.bool pg) ∧ u.cell? ⟨b, off + (k - 1) * 4, none⟩ = some (.string qk) ∧ u.cell? ⟨b, off + (k - 1) * 4 + 1, none⟩ = some (.int .i64 qt) ∧ u.cell? ⟨b, off + (k - 1) * 4 + 2, none⟩ = some (.string qv) ∧ u.cell? ⟨b, off + (k - 1) * 4 + 3, none⟩ = some (.bool qg)) u from fun u hb => by
            obtain ⟨x0, x1, x2, x3, x4⟩ := unhide SK u hb
            exact ⟨x0, x1, x2, x3, x4, (hb.cell (p := ⟨b, off + (k - 1) * 4, none⟩) (cell_lt q0)).trans q0, (hb.cell (p := ⟨b, off + (k - 1) * 4 + 1, none⟩) (cell_lt q1)).trans q1, (hb.cell (p := ⟨b, off + (k - 1) * 4 + 2, none⟩) (cell_lt q2)).trans q2, (hb.cell (p := ⟨b, off + (k - 1) * 4 + 3, none⟩) (cell_lt q3)).trans q3⟩)
          have hi1 : ((k : Int) - 1).toNat = k - 1 := by omega
          have hd1 : decide (0 < k) = true := decide_eq_true hkp
          have hd2 : decide ((0 : Int) < (k : Int)) = true := decide_eq_true (by omega)
          have hi2 : (0 : Int) ≤ (k : Int) - 1 := by omega
          have hi4 : (1 : Int) ≤ (k : Int) := by omega
          have hwr : IntKind.i64.wrap ((k : Int) - 1) = (k : Int) - 1 := by rw [IntKind.wrap_i64]; omega
          have hi3 : (k : Int) - 1 < (n : Int) := by omega
          clear q0 q1 q2 q3
          cases lv
          · have Z := hide (show okVs ds = false by
              have := unhide ST false (by rw [unhide E1']; rfl)
              simpa using this)
            clear E1'
            refine wp_region_held_drew (S := (fun u => Below wr.heap.size wr u ∧ u.cell? ⟨b, off + k * 4, none⟩ = some (.string pk) ∧ u.cell? ⟨b, off + k * 4 + 1, none⟩ = some (.int .i64 pt) ∧ u.cell? ⟨b, off + k * 4 + 2, none⟩ = some (.string pv) ∧ u.cell? ⟨b, off + k * 4 + 3, none⟩ = some (.bool pg) ∧ u.cell? ⟨b, off + (k - 1) * 4, none⟩ = some (.string qk) ∧ u.cell? ⟨b, off + (k - 1) * 4 + 1, none⟩ = some (.int .i64 qt) ∧ u.cell? ⟨b, off + (k - 1) * 4 + 2, none⟩ = some (.string qv) ∧ u.cell? ⟨b, off + (k - 1) * 4 + 3, none⟩ = some (.bool qg))) (by kernel_rfl) (unhide SK2 _ G0) (fun hHeld => ?_)
            refine anyH_take 0 10 (v := ?v19) rfl rfl (by kernel_rfl) (by kernel_rfl) (by kernel_rfl) (fun _ _ _ h => h) (by rfl) ?h19 hHeld ?r19
            case h19 => (intro w hSw; (try dsimp only at hSw); go_simp; try (with_reducible rfl))
            simp only [Act.put, List.setIfInBounds_toArray, List.set_cons_zero, List.set_cons_succ]
            refine anyH_take 1 11 (v := ?v20) rfl rfl (by kernel_rfl) (by kernel_rfl) (by kernel_rfl) (fun _ _ _ h => h) (by rfl) ?h20 hHeld ?r20
            case h20 => (intro w hSw; (try dsimp only at hSw); go_simp; try (with_reducible rfl))
            simp only [Act.put, List.setIfInBounds_toArray, List.set_cons_zero, List.set_cons_succ]
            refine anyH_take 2 12 (v := ?v21) rfl rfl (by kernel_rfl) (by kernel_rfl) (by kernel_rfl) (fun _ _ _ h => h) (by rfl) ?h21 hHeld ?r21
            case h21 => (intro w hSw; (try dsimp only at hSw); go_simp; try (with_reducible rfl))
            simp only [Act.put, List.setIfInBounds_toArray, List.set_cons_zero, List.set_cons_succ]
            refine anyH_take 3 13 (v := ?v22) rfl rfl (by kernel_rfl) (by kernel_rfl) (by kernel_rfl) (fun _ _ _ h => h) (by rfl) ?h22 hHeld ?r22
            case h22 => (intro w hSw; (try dsimp only at hSw); go_simp; try (with_reducible rfl))
            simp only [Act.put, List.setIfInBounds_toArray, List.set_cons_zero, List.set_cons_succ]
            refine wpAnyH_ready (rs := [4]) (by kernel_rfl) (by simp) ?_
            refine AllReadyH.cons rfl (fun K hK => ?_) AllReadyH.nil
            go_simp
            refine (unhide SV _ G0).mono ?_
            rintro e w2 ⟨rfl, b2⟩
            refine hK.out _ _ (unhide SK2 _ b2) (fun hHeld => ?_)
            clear hK K
            refine anyH_take 5 15 (v := ?v23) rfl rfl (by kernel_rfl) (by kernel_rfl) (by kernel_rfl) (fun _ _ _ h => h) (by rfl) ?h23 hHeld ?r23
            case h23 => (intro w hSw; (try dsimp only at hSw); go_simp; try (with_reducible rfl))
            simp only [Act.put, List.setIfInBounds_toArray, List.set_cons_zero, List.set_cons_succ]
            refine anyH_take 6 16 (v := ?v24) rfl rfl (by kernel_rfl) (by kernel_rfl) (by kernel_rfl) (fun _ _ _ h => h) (by rfl) ?h24 hHeld ?r24
            case h24 => (intro w hSw; (try dsimp only at hSw); go_simp; try (with_reducible rfl))
            simp only [Act.put, List.setIfInBounds_toArray, List.set_cons_zero, List.set_cons_succ]
            refine anyH_take 7 17 (v := ?v25) rfl rfl (by kernel_rfl) (by kernel_rfl) (by kernel_rfl) (fun _ _ _ h => h) (by rfl) ?h25 hHeld ?r25
            case h25 => (intro w hSw; (try dsimp only at hSw); go_simp; try (with_reducible rfl))
            simp only [Act.put, List.setIfInBounds_toArray, List.set_cons_zero, List.set_cons_succ]
            refine anyH_take 8 18 (v := ?v26) rfl rfl (by kernel_rfl) (by kernel_rfl) (by kernel_rfl) (fun _ _ _ h => h) (by rfl) ?h26 hHeld ?r26
            case h26 => (intro w hSw; (try dsimp only at hSw); go_simp; try (with_reducible rfl))
            simp only [Act.put, List.setIfInBounds_toArray, List.set_cons_zero, List.set_cons_succ]
            refine anyH_take 9 19 (v := ?v27) rfl rfl (by kernel_rfl) (by kernel_rfl) (by kernel_rfl) (fun _ _ _ h => h) (by rfl) ?h27 hHeld ?r27
            case h27 => (intro w hSw; (try dsimp only at hSw); go_simp; try (with_reducible rfl))
            simp only [Act.put, List.setIfInBounds_toArray, List.set_cons_zero, List.set_cons_succ]
            refine anyH_take 10 20 (v := ?v28) rfl rfl (by kernel_rfl) (by kernel_rfl) (by kernel_rfl) (fun _ _ _ h => h) (by rfl) ?h28 hHeld ?r28
            case h28 => (intro w hSw; (try dsimp only at hSw); go_simp; try (with_reducible rfl))
            simp only [Act.put, List.setIfInBounds_toArray, List.set_cons_zero, List.set_cons_succ]
            refine anyH_take 11 21 (v := ?v29) rfl rfl (by kernel_rfl) (by kernel_rfl) (by kernel_rfl) (fun _ _ _ h => h) (by rfl) ?h29 hHeld ?r29
            case h29 => (intro w hSw; (try dsimp only at hSw); go_simp; try (with_reducible rfl))
            simp only [Act.put, List.setIfInBounds_toArray, List.set_cons_zero, List.set_cons_succ]
            refine anyH_take 12 22 (v := ?v30) rfl rfl (by kernel_rfl) (by kernel_rfl) (by kernel_rfl) (fun _ _ _ h => h) (by rfl) ?h30 hHeld ?r30
            case h30 => (intro w hSw; (try dsimp only at hSw); go_simp; try (with_reducible rfl))
            simp only [Act.put, List.setIfInBounds_toArray, List.set_cons_zero, List.set_cons_succ]
            refine anyH_take 13 23 (v := ?v31) rfl rfl (by kernel_rfl) (by kernel_rfl) (by kernel_rfl) (fun _ _ _ h => h) (by rfl) ?h31 hHeld ?r31
            case h31 => (intro w hSw; (try dsimp only at hSw); go_simp; try (with_reducible rfl))
            simp only [Act.put, List.setIfInBounds_toArray, List.set_cons_zero, List.set_cons_succ]
            refine anyH_take 14 24 (v := ?v32) rfl rfl (by kernel_rfl) (by kernel_rfl) (by kernel_rfl) (fun _ _ _ h => h) (by rfl) ?h32 hHeld ?r32
            case h32 => (intro w hSw; (try dsimp only at hSw); go_simp; try (with_reducible rfl))
            simp only [Act.put, List.setIfInBounds_toArray, List.set_cons_zero, List.set_cons_succ]
            refine anyH_take 15 25 (v := ?v33) rfl rfl (by kernel_rfl) (by kernel_rfl) (by kernel_rfl) (fun _ _ _ h => h) (by rfl) ?h33 hHeld ?r33
            case h33 => (intro w hSw; (try dsimp only at hSw); go_simp; try (with_reducible rfl))
            simp only [Act.put, List.setIfInBounds_toArray, List.set_cons_zero, List.set_cons_succ]
            refine anyH_take 16 26 (v := ?v34) rfl rfl (by kernel_rfl) (by kernel_rfl) (by kernel_rfl) (fun _ _ _ h => h) (by rfl) ?h34 hHeld ?r34
            case h34 => (intro w hSw; (try dsimp only at hSw); go_simp; try (with_reducible rfl))
            simp only [Act.put, List.setIfInBounds_toArray, List.set_cons_zero, List.set_cons_succ]
            refine anyH_take 17 27 (v := ?v35) rfl rfl (by kernel_rfl) (by kernel_rfl) (by kernel_rfl) (fun _ _ _ h => h) (by rfl) ?h35 hHeld ?r35
            case h35 => (intro w hSw; (try dsimp only at hSw); go_simp; try (with_reducible rfl))
            simp only [Act.put, List.setIfInBounds_toArray, List.set_cons_zero, List.set_cons_succ]
            refine anyH_take 18 28 (v := ?v36) rfl rfl (by kernel_rfl) (by kernel_rfl) (by kernel_rfl) (fun _ _ _ h => h) (by rfl) ?h36 hHeld ?r36
            case h36 => (intro w hSw; (try dsimp only at hSw); go_simp; try (with_reducible rfl))
            simp only [Act.put, List.setIfInBounds_toArray, List.set_cons_zero, List.set_cons_succ]
            refine wpAnyH_ready (rs := [19]) (by kernel_rfl) (by simp) ?_
            refine AllReadyH.cons rfl (fun K hK => ?_) AllReadyH.nil
            go_simp
            refine (unhide SC _ b2).mono ?_
            rintro e w3 ⟨rfl, b3⟩
            refine hK.out _ _ (unhide SK2 _ b3) (fun hHeld => ?_)
            clear hK K
            refine anyH_take 20 30 (v := ?v37) rfl rfl (by kernel_rfl) (by kernel_rfl) (by kernel_rfl) (fun _ _ _ h => h) (by rfl) ?h37 hHeld ?r37
            case h37 => (intro w hSw; (try dsimp only at hSw); go_simp; try (with_reducible rfl))
            simp only [Act.put, List.setIfInBounds_toArray, List.set_cons_zero, List.set_cons_succ]
            refine anyH_take 21 31 (v := ?v38) rfl rfl (by kernel_rfl) (by kernel_rfl) (by kernel_rfl) (fun _ _ _ h => h) (by rfl) ?h38 hHeld ?r38
            case h38 => (intro w hSw; (try dsimp only at hSw); go_simp; try (with_reducible rfl))
            simp only [Act.put, List.setIfInBounds_toArray, List.set_cons_zero, List.set_cons_succ]
            refine anyH_take 22 32 (v := ?v39) rfl rfl (by kernel_rfl) (by kernel_rfl) (by kernel_rfl) (fun _ _ _ h => h) (by rfl) ?h39 hHeld ?r39
            case h39 => (intro w hSw; (try dsimp only at hSw); go_simp; try (with_reducible rfl))
            simp only [Act.put, List.setIfInBounds_toArray, List.set_cons_zero, List.set_cons_succ]
            refine wpAnyH_done (by kernel_rfl) ?_ _
            have BF := unhide BE _ b3
            go_wp2_with fail
            go_ret
            exact ⟨ret_bool (unhide Z).symm, BF⟩
          · have Z := hide (show ∀ i, i < k + 1 → okAtV ds i = true by
              have := unhide ST true (by rw [unhide E1']; rfl)
              simpa using this)
            clear E1'
            refine wp_region_held_drew (S := (fun u => Below wr.heap.size wr u ∧ u.cell? ⟨b, off + k * 4, none⟩ = some (.string pk) ∧ u.cell? ⟨b, off + k * 4 + 1, none⟩ = some (.int .i64 pt) ∧ u.cell? ⟨b, off + k * 4 + 2, none⟩ = some (.string pv) ∧ u.cell? ⟨b, off + k * 4 + 3, none⟩ = some (.bool pg) ∧ u.cell? ⟨b, off + (k - 1) * 4, none⟩ = some (.string qk) ∧ u.cell? ⟨b, off + (k - 1) * 4 + 1, none⟩ = some (.int .i64 qt) ∧ u.cell? ⟨b, off + (k - 1) * 4 + 2, none⟩ = some (.string qv) ∧ u.cell? ⟨b, off + (k - 1) * 4 + 3, none⟩ = some (.bool qg))) (by kernel_rfl) (unhide SK2 _ G0) (fun hHeld => ?_)
            refine anyH_take 0 10 (v := ?v40) rfl rfl (by kernel_rfl) (by kernel_rfl) (by kernel_rfl) (fun _ _ _ h => h) (by rfl) ?h40 hHeld ?r40
            case h40 => (intro w hSw; (try dsimp only at hSw); go_simp; try (with_reducible rfl))
            simp only [Act.put, List.setIfInBounds_toArray, List.set_cons_zero, List.set_cons_succ]
            refine anyH_take 1 11 (v := ?v41) rfl rfl (by kernel_rfl) (by kernel_rfl) (by kernel_rfl) (fun _ _ _ h => h) (by rfl) ?h41 hHeld ?r41
            case h41 => (intro w hSw; (try dsimp only at hSw); go_simp; try (with_reducible rfl))
            simp only [Act.put, List.setIfInBounds_toArray, List.set_cons_zero, List.set_cons_succ]
            refine anyH_take 2 12 (v := ?v42) rfl rfl (by kernel_rfl) (by kernel_rfl) (by kernel_rfl) (fun _ _ _ h => h) (by rfl) ?h42 hHeld ?r42
            case h42 => (intro w hSw; (try dsimp only at hSw); go_simp; try (with_reducible rfl))
            simp only [Act.put, List.setIfInBounds_toArray, List.set_cons_zero, List.set_cons_succ]
            refine anyH_take 3 13 (v := ?v43) rfl rfl (by kernel_rfl) (by kernel_rfl) (by kernel_rfl) (fun _ _ _ h => h) (by rfl) ?h43 hHeld ?r43
            case h43 => (intro w hSw; (try dsimp only at hSw); go_simp; try (with_reducible rfl))
            simp only [Act.put, List.setIfInBounds_toArray, List.set_cons_zero, List.set_cons_succ]
            refine wpAnyH_ready (rs := [4]) (by kernel_rfl) (by simp) ?_
            refine AllReadyH.cons rfl (fun K hK => ?_) AllReadyH.nil
            go_simp
            refine (unhide SV _ G0).mono ?_
            rintro e w2 ⟨rfl, b2⟩
            refine hK.out _ _ (unhide SK2 _ b2) (fun hHeld => ?_)
            clear hK K
            refine anyH_take 5 15 (v := ?v44) rfl rfl (by kernel_rfl) (by kernel_rfl) (by kernel_rfl) (fun _ _ _ h => h) (by rfl) ?h44 hHeld ?r44
            case h44 => (intro w hSw; (try dsimp only at hSw); go_simp; try (with_reducible rfl))
            simp only [Act.put, List.setIfInBounds_toArray, List.set_cons_zero, List.set_cons_succ]
            refine anyH_take 6 16 (v := ?v45) rfl rfl (by kernel_rfl) (by kernel_rfl) (by kernel_rfl) (fun _ _ _ h => h) (by rfl) ?h45 hHeld ?r45
            case h45 => (intro w hSw; (try dsimp only at hSw); go_simp; try (with_reducible rfl))
            simp only [Act.put, List.setIfInBounds_toArray, List.set_cons_zero, List.set_cons_succ]
            refine anyH_take 7 17 (v := ?v46) rfl rfl (by kernel_rfl) (by kernel_rfl) (by kernel_rfl) (fun _ _ _ h => h) (by rfl) ?h46 hHeld ?r46
            case h46 => (intro w hSw; (try dsimp only at hSw); go_simp; try (with_reducible rfl))
            simp only [Act.put, List.setIfInBounds_toArray, List.set_cons_zero, List.set_cons_succ]
            refine anyH_take 8 18 (v := ?v47) rfl rfl (by kernel_rfl) (by kernel_rfl) (by kernel_rfl) (fun _ _ _ h => h) (by rfl) ?h47 hHeld ?r47
            case h47 => (intro w hSw; (try dsimp only at hSw); go_simp; try (with_reducible rfl))
            simp only [Act.put, List.setIfInBounds_toArray, List.set_cons_zero, List.set_cons_succ]
            refine anyH_take 9 19 (v := ?v48) rfl rfl (by kernel_rfl) (by kernel_rfl) (by kernel_rfl) (fun _ _ _ h => h) (by rfl) ?h48 hHeld ?r48
            case h48 => (intro w hSw; (try dsimp only at hSw); go_simp; try (with_reducible rfl))
            simp only [Act.put, List.setIfInBounds_toArray, List.set_cons_zero, List.set_cons_succ]
            refine anyH_take 10 20 (v := ?v49) rfl rfl (by kernel_rfl) (by kernel_rfl) (by kernel_rfl) (fun _ _ _ h => h) (by rfl) ?h49 hHeld ?r49
            case h49 => (intro w hSw; (try dsimp only at hSw); go_simp; try (with_reducible rfl))
            simp only [Act.put, List.setIfInBounds_toArray, List.set_cons_zero, List.set_cons_succ]
            refine anyH_take 11 21 (v := ?v50) rfl rfl (by kernel_rfl) (by kernel_rfl) (by kernel_rfl) (fun _ _ _ h => h) (by rfl) ?h50 hHeld ?r50
            case h50 => (intro w hSw; (try dsimp only at hSw); go_simp; try (with_reducible rfl))
            simp only [Act.put, List.setIfInBounds_toArray, List.set_cons_zero, List.set_cons_succ]
            refine anyH_take 12 22 (v := ?v51) rfl rfl (by kernel_rfl) (by kernel_rfl) (by kernel_rfl) (fun _ _ _ h => h) (by rfl) ?h51 hHeld ?r51
            case h51 => (intro w hSw; (try dsimp only at hSw); go_simp; try (with_reducible rfl))
            simp only [Act.put, List.setIfInBounds_toArray, List.set_cons_zero, List.set_cons_succ]
            refine anyH_take 13 23 (v := ?v52) rfl rfl (by kernel_rfl) (by kernel_rfl) (by kernel_rfl) (fun _ _ _ h => h) (by rfl) ?h52 hHeld ?r52
            case h52 => (intro w hSw; (try dsimp only at hSw); go_simp; try (with_reducible rfl))
            simp only [Act.put, List.setIfInBounds_toArray, List.set_cons_zero, List.set_cons_succ]
            refine anyH_take 14 24 (v := ?v53) rfl rfl (by kernel_rfl) (by kernel_rfl) (by kernel_rfl) (fun _ _ _ h => h) (by rfl) ?h53 hHeld ?r53
            case h53 => (intro w hSw; (try dsimp only at hSw); go_simp; try (with_reducible rfl))
            simp only [Act.put, List.setIfInBounds_toArray, List.set_cons_zero, List.set_cons_succ]
            refine anyH_take 15 25 (v := ?v54) rfl rfl (by kernel_rfl) (by kernel_rfl) (by kernel_rfl) (fun _ _ _ h => h) (by rfl) ?h54 hHeld ?r54
            case h54 => (intro w hSw; (try dsimp only at hSw); go_simp; try (with_reducible rfl))
            simp only [Act.put, List.setIfInBounds_toArray, List.set_cons_zero, List.set_cons_succ]
            refine anyH_take 16 26 (v := ?v55) rfl rfl (by kernel_rfl) (by kernel_rfl) (by kernel_rfl) (fun _ _ _ h => h) (by rfl) ?h55 hHeld ?r55
            case h55 => (intro w hSw; (try dsimp only at hSw); go_simp; try (with_reducible rfl))
            simp only [Act.put, List.setIfInBounds_toArray, List.set_cons_zero, List.set_cons_succ]
            refine anyH_take 17 27 (v := ?v56) rfl rfl (by kernel_rfl) (by kernel_rfl) (by kernel_rfl) (fun _ _ _ h => h) (by rfl) ?h56 hHeld ?r56
            case h56 => (intro w hSw; (try dsimp only at hSw); go_simp; try (with_reducible rfl))
            simp only [Act.put, List.setIfInBounds_toArray, List.set_cons_zero, List.set_cons_succ]
            refine anyH_take 18 28 (v := ?v57) rfl rfl (by kernel_rfl) (by kernel_rfl) (by kernel_rfl) (fun _ _ _ h => h) (by rfl) ?h57 hHeld ?r57
            case h57 => (intro w hSw; (try dsimp only at hSw); go_simp; try (with_reducible rfl))
            simp only [Act.put, List.setIfInBounds_toArray, List.set_cons_zero, List.set_cons_succ]
            refine wpAnyH_ready (rs := [19]) (by kernel_rfl) (by simp) ?_
            refine AllReadyH.cons rfl (fun K hK => ?_) AllReadyH.nil
            go_simp
            refine (unhide SC _ b2).mono ?_
            rintro e w3 ⟨rfl, b3⟩
            refine hK.out _ _ (unhide SK2 _ b3) (fun hHeld => ?_)
            clear hK K
            refine anyH_take 20 30 (v := ?v58) rfl rfl (by kernel_rfl) (by kernel_rfl) (by kernel_rfl) (fun _ _ _ h => h) (by rfl) ?h58 hHeld ?r58
            case h58 => (intro w hSw; (try dsimp only at hSw); go_simp; try (with_reducible rfl))
            simp only [Act.put, List.setIfInBounds_toArray, List.set_cons_zero, List.set_cons_succ]
            refine anyH_take 21 31 (v := ?v59) rfl rfl (by kernel_rfl) (by kernel_rfl) (by kernel_rfl) (fun _ _ _ h => h) (by rfl) ?h59 hHeld ?r59
            case h59 => (intro w hSw; (try dsimp only at hSw); go_simp; try (with_reducible rfl))
            simp only [Act.put, List.setIfInBounds_toArray, List.set_cons_zero, List.set_cons_succ]
            refine anyH_take 22 32 (v := ?v60) rfl rfl (by kernel_rfl) (by kernel_rfl) (by kernel_rfl) (fun _ _ _ h => h) (by rfl) ?h60 hHeld ?r60
            case h60 => (intro w hSw; (try dsimp only at hSw); go_simp; try (with_reducible rfl))
            simp only [Act.put, List.setIfInBounds_toArray, List.set_cons_zero, List.set_cons_succ]
            refine wpAnyH_done (by kernel_rfl) ?_ _
            have BF := unhide BE _ b3
            go_wp2_with fail
            go_roundw
            case rel => exact ⟨k + 1, by omega, by go_num, unhide Z, BF⟩
            case measure => simp [intOf]; omega
    · obtain rfl : k = n := by omega
      have Z := hide (show okVs ds = true from okVs_true fun i hi => unhide hok i (by have := unhide L; omega))
      go_wp2_with fail
      go_ret
      exact ⟨ret_bool (unhide Z).symm, unhide hb⟩
end Go.Proofs.YtcflepnckjappaaGreat

namespace Go.Proofs.YtcflepnckjappaaGreat
open Go.RowKit Go.Maps

/-- An append whose run is known. -/
theorem ky_wpApp {P : Program} {ops : Array Oper} {rest : List Oper} {o : Oper} {a : Act} {w : World} {Q : Exit → Act → World → Prop}
    (hg : o.guard = none) (s x : Operand) (t : TypeId) (hop : o.op = Op.call { callee := Callee.builtin Builtin.append, args := #[s, x], argTypes := #[t, t] })
    (vs vx v' : Value) (w' : World) (hs : a.eval s = vs) (hx : a.eval x = vx) (hrun : (Builtin.append_ #[t, t] o.type #[vs, vx]).run P w = .ok v' w') (h : wpList P ops Q rest (a.put o.dst v') w') :
    wpList P ops Q (o :: rest) a w :=
  wpList_plain hg fun _ hK => by
    unfold Oper.wp
    simp [execOp, hop, resolve, invoke, builtin, hs, hx, hrun, Result.andThen]
    exact hK _ _ h
end Go.Proofs.YtcflepnckjappaaGreat

namespace Go.Proofs.YtcflepnckjappaaGreat
open Go.RowKit

/-- What a slice has, appended to a row of the call's own that is not nil. -/
theorem app_src {P : Program} {w : World} {B : Nat} (t ty e : TypeId) {i : TypeInfo} {z : Value} {size bytes : Nat} (ht : P.underlying t = some (.slice e)) (hi : P.info? e = some i) (hz : i.zero = some z)
    (hsize : i.size = size) (hby : i.bytes = bytes) (hzs : z.cells.size = size) (hsz : 0 < size)
    {v : Value} {n : Nat} {xs : List Value} (hown : w.ownsRow B e size v n xs) (hv : v ≠ .slice none 0 0)
    (a : Option Addr) (m c : Nat) (news : List Value) (hl : news.length = m * size) (hnews : ∀ A, a = some A → ∀ j u, news[j]? = some u → w.cell? (A.add j) = some u) (hc : a = none → m = 0 ∧ c = 0) (h1 : ∀ u ∈ news, u.oneCell' = true)
    (h63 : n + m ≤ maxLen) (hbytes : (n + m) * bytes ≤ 140737488355328) (hbase : B ≤ w.heap.size) :
    ∃ v' w', (Builtin.append_ #[t, t] ty #[v, .slice a m c]).run P w = .ok v' w' ∧ w'.ownsRow B e size v' (n + m) (xs ++ news) ∧ w.grownBy w' v.ownBlock ∧ v' ≠ .slice none 0 0 ∧ (v'.ownBlock = v.ownBlock ∨ v'.ownBlock = some w.heap.size) := by
  cases a with
  | none =>
    obtain ⟨rfl, rfl⟩ := hc rfl
    obtain rfl : news = [] := List.eq_nil_of_length_eq_zero (by rw [hl]; simp)
    rw [List.append_nil, Nat.add_zero]
    subst hsize
    exact ⟨v, w, run_append_owned_none (P := P) w B t ty e i i.size ht hi _ _ _ hown, hown, ⟨rfl, rfl, rfl, Nat.le_refl _, fun _ _ _ => rfl⟩, hv, .inl rfl⟩
  | some A => exact app_at t ty e ht hi hz hsize hby hzs hsz hown A m c news hl (hnews A rfl) h1 h63 hbytes hbase (fun h => absurd h hv)
theorem vrow_src {w : World} {A : Addr} {n : Nat} {ds : List VerD} (h : VRow w (some A) n ds) : ∀ t u, (vcs ds)[t]? = some u → w.cell? (A.add t) = some u := by
  intro t u hu
  have hl : t < ds.length * 4 := by
    have := (List.getElem?_eq_some_iff.1 hu).1
    rwa [vcs_len] at this
  obtain ⟨m, r, hr, rfl⟩ : ∃ m r, r < 4 ∧ t = m * 4 + r := ⟨t / 4, t % 4, Nat.mod_lt _ (by omega), by omega⟩
  have hm : m < ds.length := by omega
  obtain ⟨b, off, e, c0, c1, c2, c3⟩ := h.2 m hm
  injection e with e
  subst e
  rw [Addr.add_lit]
  obtain ⟨a0, a1, a2, a3⟩ := vcs_at ds m hm
  match r, hr with
  | 0, _ => rw [Nat.add_zero] at hu ⊢; rw [a0] at hu; rw [c0, ← hu]
  | 1, _ => rw [a1] at hu; rw [← Nat.add_assoc, c1, ← hu]
  | 2, _ => rw [a2] at hu; rw [← Nat.add_assoc, c2, ← hu]
  | 3, _ => rw [a3] at hu; rw [← Nat.add_assoc, c3, ← hu]
theorem frow_src {w : World} {A : Addr} {n : Nat} {ds : List FenD} (h : FRow w (some A) n ds) : ∀ t u, (fcs ds)[t]? = some u → w.cell? (A.add t) = some u := by
  intro t u hu
  have hl : t < ds.length * 3 := by
    have := (List.getElem?_eq_some_iff.1 hu).1
    rwa [fcs_len] at this
  obtain ⟨m, r, hr, rfl⟩ : ∃ m r, r < 3 ∧ t = m * 3 + r := ⟨t / 3, t % 3, Nat.mod_lt _ (by omega), by omega⟩
  have hm : m < ds.length := by omega
  obtain ⟨b, off, e, c0, c1, c2⟩ := h.2 m hm
  injection e with e
  subst e
  rw [Addr.add_lit]
  obtain ⟨a0, a1, a2⟩ := fcs_at ds m hm
  match r, hr with
  | 0, _ => rw [Nat.add_zero] at hu ⊢; rw [a0] at hu; rw [c0, ← hu]
  | 1, _ => rw [a1] at hu; rw [← Nat.add_assoc, c1, ← hu]
  | 2, _ => rw [a2] at hu; rw [← Nat.add_assoc, c2, ← hu]
theorem vrow_none {w : World} {n : Nat} {ds : List VerD} (h : VRow w none n ds) : n = 0 ∧ ds = [] := by
  have h0 : ds.length = 0 := by
    rcases Nat.eq_zero_or_pos ds.length with h' | h'
    · exact h'
    · obtain ⟨_, _, e, _⟩ := h.2 0 h'; cases e
  exact ⟨by have := h.1; omega, List.eq_nil_of_length_eq_zero h0⟩
theorem frow_none {w : World} {n : Nat} {ds : List FenD} (h : FRow w none n ds) : n = 0 ∧ ds = [] := by
  have h0 : ds.length = 0 := by
    rcases Nat.eq_zero_or_pos ds.length with h' | h'
    · exact h'
    · obtain ⟨_, _, e, _⟩ := h.2 0 h'; cases e
  exact ⟨by have := h.1; omega, List.eq_nil_of_length_eq_zero h0⟩
theorem owns_form {w : World} {B e s n : Nat} {v : Value} {cs : List Value} (h : w.ownsRow B e s v n cs) (hv : v ≠ .slice none 0 0) : ∃ g c, v = .slice (some ⟨g, 0, none⟩) n c ∧ B ≤ g ∧ g < w.heap.size ∧ n ≤ c := by
  rcases h.2 with ⟨e, _⟩ | ⟨g, cap, cur, e, hb, hh, hc, _⟩
  · exact absurd e hv
  · exact ⟨g, cap, e, hb, (Array.getElem?_eq_some_iff.1 hh).1, hc⟩
/-- A row of versions appended to another of the call's own. -/
theorem v_appS {w : World} {B : Nat} {v : Value} {ds es : List VerD} {a : Option Addr} {m c : Nat} (ty : TypeId) (ho : VOwns w B v ds) (hv : v ≠ .slice none 0 0) (hr : VRow w a m es) (hc : a = none → c = 0) (hz : ds.length + m ≤ 2000000) (hB : B ≤ w.heap.size) :
    ∃ g k w', (Builtin.append_ #[25, 25] ty #[v, .slice a m c]).run Tryz.prog w = .ok (.slice (some ⟨g, 0, none⟩) (ds.length + m) k) w' ∧ VOwns w' B (.slice (some ⟨g, 0, none⟩) (ds.length + m) k) (ds ++ es) ∧ w.grownBy w' v.ownBlock ∧ (some g = v.ownBlock ∨ g = w.heap.size) := by
  obtain ⟨i0, hi0, hz0, hz1, hz2⟩ := info_parts Tryz.infoVersion
  obtain ⟨v', w', hrun, ho', hg, hnil, loc⟩ := app_src (P := Tryz.prog) (w := w) (B := B) 25 ty 51 Tryz.underlying25 hi0 hz0 hz1 hz2 rfl (by decide) ho hv a m c (vcs es) (by rw [vcs_len, hr.1]) (fun A hA => by subst hA; exact vrow_src hr) (fun h => by subst h; exact ⟨(vrow_none hr).1, hc rfl⟩) (vcs_one _) (by unfold maxLen; omega) (by omega) hB
  obtain ⟨g, k, rfl, _⟩ := owns_form ho' hnil
  refine ⟨g, k, w', hrun, ?_, hg, ?_⟩
  · unfold VOwns
    rw [List.length_append, vcs_append, hr.1]
    exact ho'
  · rcases loc with h | h
    · exact .inl h
    · injection h with h
      exact .inr h
/-- A row of fences appended to another of the call's own. -/
theorem f_appS {w : World} {B : Nat} {v : Value} {ds es : List FenD} {a : Option Addr} {m c : Nat} (ty : TypeId) (ho : FOwns w B v ds) (hv : v ≠ .slice none 0 0) (hr : FRow w a m es) (hc : a = none → c = 0) (hz : ds.length + m ≤ 2000000) (hB : B ≤ w.heap.size) :
    ∃ g k w', (Builtin.append_ #[26, 26] ty #[v, .slice a m c]).run Tryz.prog w = .ok (.slice (some ⟨g, 0, none⟩) (ds.length + m) k) w' ∧ FOwns w' B (.slice (some ⟨g, 0, none⟩) (ds.length + m) k) (ds ++ es) ∧ w.grownBy w' v.ownBlock ∧ (some g = v.ownBlock ∨ g = w.heap.size) := by
  obtain ⟨i0, hi0, hz0, hz1, hz2⟩ := info_parts Tryz.infoFence
  obtain ⟨v', w', hrun, ho', hg, hnil, loc⟩ := app_src (P := Tryz.prog) (w := w) (B := B) 26 ty 232 Tryz.underlying26 hi0 hz0 hz1 hz2 rfl (by decide) ho hv a m c (fcs es) (by rw [fcs_len, hr.1]) (fun A hA => by subst hA; exact frow_src hr) (fun h => by subst h; exact ⟨(frow_none hr).1, hc rfl⟩) (fcs_one _) (by unfold maxLen; omega) (by omega) hB
  obtain ⟨g, k, rfl, _⟩ := owns_form ho' hnil
  refine ⟨g, k, w', hrun, ?_, hg, ?_⟩
  · unfold FOwns
    rw [List.length_append, fcs_append, hr.1]
    exact ho'
  · rcases loc with h | h
    · exact .inl h
    · injection h with h
      exact .inr h
theorem vrow_one (w : World) (d : VerD) : VRow (w.alloc (.cells #[.string d.k, .int .i64 d.t, .string d.v, .bool d.g] 51)) (some ⟨w.heap.size, 0, none⟩) 1 [d] := by
  refine ⟨rfl, fun i hi => ⟨w.heap.size, 0, rfl, ?_⟩⟩
  obtain rfl : i = 0 := by simpa using hi
  simp
/-- The versions from a place on, as a slice expression gives them. -/
theorem vdrop_src {w : World} {b off n c k : Nat} {ds : List VerD} (hE : VRow w (some ⟨b, off, none⟩) n ds) (hc : n ≤ c) (hk : k ≤ n) : ∃ A : Addr, (if c = k then some (⟨b, off, none⟩ : Addr) else some ⟨b, off + k * 4, none⟩) = some A ∧ VRow w (some A) (n - k) (ds.drop k) := by
  by_cases h : c = k
  · exact ⟨⟨b, off, none⟩, by simp [h], ⟨by rw [List.length_drop, hE.1], fun i hi => by rw [List.length_drop] at hi; have := hE.1; omega⟩⟩
  · refine ⟨⟨b, off + k * 4, none⟩, by simp [h], ⟨by rw [List.length_drop, hE.1], fun i hi => ?_⟩⟩
    rw [List.length_drop] at hi
    obtain ⟨b', off', e, q⟩ := hE.2 (k + i) (by omega)
    injection e with e
    injection e with e1 e2
    subst e1 e2
    refine ⟨_, _, rfl, ?_⟩
    rw [List.getElem_drop, show off + k * 4 + i * 4 = off + (k + i) * 4 by omega]
    exact q
end Go.Proofs.YtcflepnckjappaaGreat

namespace Go.Proofs.YtcflepnckjappaaGreat
open Go.RowKit

theorem insV_parts (ds : List VerD) (x : VerD) {p q : Nat} (hp : posV ds x = p) (hq : q = p + (if hitV ds x = true then 1 else 0)) : insV ds x = (ds.take p ++ [x]) ++ ds.drop q := by
  unfold insV
  rw [hp, hq, List.append_assoc]
  rfl
theorem hit_at {ds : List VerD} {x : VerD} {p : Nat} (hp : posV ds x = p) (h : p < ds.length) : hitV ds x = sameV ds[p] x := by
  subst hp
  unfold hitV
  rw [List.getElem?_eq_getElem h]
theorem hit_end {ds : List VerD} {x : VerD} (h : ds.length ≤ posV ds x) : hitV ds x = false := by
  unfold hitV
  rw [List.getElem?_eq_none h]
theorem boxV (w : World) (x : VerD) : (w.alloc (.cells #[.string x.k, .int .i64 x.t, .string x.v, .bool x.g] 51)).heap[w.heap.size]? = some (.cells #[.string x.k, .int .i64 x.t, .string x.v, .bool x.g] 51 (0, 0)) := heap_alloc_new _ _
def InsRes (ds : List VerD) (x : VerD) (w : World) (e : Ending) (w' : World) : Prop := ∃ g k, e = .returned (.slice (some ⟨g, 0, none⟩) (insV ds x).length k) ∧ VOwns w' w.heap.size (.slice (some ⟨g, 0, none⟩) (insV ds x).length k) (insV ds x) ∧ Below w.heap.size w w'
set_option maxRecDepth 100000 in
set_option maxHeartbeats 8000000 in
theorem l06Insert_any (a : Option Addr) (n c : Nat) (ds : List VerD) (x : VerD) (w : World) (hR : VRow w a n ds) (hn : n ≤ 1000000) (hc : n ≤ c) (hcn : a = none → c = 0) :
    Calls Tryz.prog 183 #[.slice a n c, vv x] w fun e w' => InsRes ds x w e w' := by
  unfold vv
  obtain ⟨W, hW⟩ : ∃ W, W = (w.alloc (.cells #[.string x.k, .int .i64 x.t, .string x.v, .bool x.g] 51)).alloc (.cells #[] 51) := ⟨_, rfl⟩
  have b1 : Below w.heap.size w W := by rw [hW]; exact ((Below.refl _ _).alloc (Nat.le_refl _) _).alloc (by simp) _
  have hz : w.heap.size + 1 < W.heap.size := by rw [hW]; simp
  have kx : W.heap[w.heap.size]? = some (.cells #[.string x.k, .int .i64 x.t, .string x.v, .bool x.g] 51 (0, 0)) := by
    rw [hW]
    exact ((((Below.refl _ _).alloc (Nat.le_refl _) (.cells #[] 51)).block w.heap.size (by simp)).trans (boxV w x))
  have O0 : VOwns W (w.heap.size + 1) (.slice (some ⟨w.heap.size + 1, 0, none⟩) 0 0) [] := by
    have := World.ownsRow_lit (base := w.heap.size + 1) (e := 51) (size := 4) (w.alloc (.cells #[.string x.k, .int .i64 x.t, .string x.v, .bool x.g] 51)) #[] 0 (by simp) (by unfold maxLen; simp) rfl
    simp at this
    rw [hW]
    exact this
  have L := hide hR.1
  have RE := hide hR
  have PL := hide (posV_le ds x)
  have KX := hide kx
  have OH := hide O0
  have BH := hide b1
  clear hR b1 kx O0
  go_enter Tryz.func183, Tryz.ntmps183
  go_wp2_with fail
  rw [← hW]
  clear hW
  go_loopw [5, 6] (fun v i wr => ∃ (j g cap : Nat), v = .slice (some ⟨g, 0, none⟩) j cap ∧ i = .int .i64 (j : Int) ∧ j ≤ posV ds x ∧ Hid (VOwns wr (w.heap.size + 1) (.slice (some ⟨g, 0, none⟩) j cap) (ds.take j)) ∧ Hid (Below (w.heap.size + 1) W wr)) (fun _ i _ => n - (intOf i).toNat)
  case atStart => exact ⟨0, w.heap.size + 1, 0, rfl, rfl, Nat.zero_le _, OH, Below.refl _ _⟩
  case round =>
    clear OH
    obtain ⟨j, g, cap, rfl, rfl, hj, hO, hB⟩ := hrel
    have BW := hide ((unhide BH).trans ((unhide hB).mono (by omega)))
    have kr := ((unhide hB).block w.heap.size (by omega)).trans (unhide KX)
    have x0 := (heap_at kr 0).1
    have x1 := (heap_at kr 1).1
    have x2 := (heap_at kr 2).1
    have x3 := (heap_at kr 3).1
    have hszr : w.heap.size + 1 ≤ wr.heap.size := by have := (unhide hB).size; omega
    by_cases hlt : j < n
    case neg =>
      have hjn : j = n := by have := unhide PL; have := unhide L; omega
      have hpn : posV ds x = n := by have := unhide PL; have := unhide L; omega
      have FN := hide (hit_end (ds := ds) (x := x) (by rw [hpn, unhide L]; exact Nat.le_refl _))
      have IP := hide (insV_parts ds x hpn (q := n) (by rw [unhide FN]; rfl))
      have hpd := hide hpn
      clear hpn
      subst hjn
      have hd1 : decide (j < j) = false := decide_eq_false (by omega)
      have hd2 : decide ((j : Int) < (j : Int)) = false := decide_eq_false (by omega)
      go_wp2_with fail
      go_quiet (fail)
      have OQ := hide (show VOwns (wr.drewN nq) (w.heap.size + 1) (.slice (some ⟨g, 0, none⟩) j cap) (ds.take j) from unhide hO)
      have BQ := hide (bel_drewN (unhide hB) nq)
      have x0q : (wr.drewN nq).cell? ⟨w.heap.size, 0, none⟩ = some (.string x.k) := x0
      have x1q : (wr.drewN nq).cell? ⟨w.heap.size, 1, none⟩ = some (.int .i64 x.t) := x1
      have x2q : (wr.drewN nq).cell? ⟨w.heap.size, 2, none⟩ = some (.string x.v) := x2
      have x3q : (wr.drewN nq).cell? ⟨w.heap.size, 3, none⟩ = some (.bool x.g) := x3
      have hszq : w.heap.size + 1 ≤ (wr.drewN nq).heap.size := hszr
      clear hO hB BW kr x0 x1 x2 x3 hszr
      generalize wr.drewN nq = wq at *
      have OA := World.ownsRow.alloc (unhide OQ) (.cells #[.string x.k, .int .i64 x.t, .string x.v, .bool x.g] 51)
      have hr1 := vrow_one wq x
      have bA : Below wq.heap.size wq (wq.alloc (.cells #[.string x.k, .int .i64 x.t, .string x.v, .bool x.g] 51)) := (Below.refl _ _).alloc (Nat.le_refl _) _
      have HTL := hide (show (ds.take j).length = j by have := unhide L; rw [List.length_take]; omega)
      obtain ⟨g3, k3, w3, hr, ho, hg, -⟩ := v_appS 25 (show VOwns _ (w.heap.size + 1) (.slice (some ⟨g, 0, none⟩) j cap) (ds.take j) from OA) (by simp) hr1 (fun h => by cases h) (c := 1) (by rw [unhide HTL]; omega) (Nat.le_trans hszq bA.size)
      rw [unhide HTL] at hr
      have ho : VOwns w3 (w.heap.size + 1) (.slice (some ⟨g3, 0, none⟩) (j + 1) k3) (ds.take j ++ [x]) := by have h := ho; rw [unhide HTL] at h; exact h
      have B3 := hide (((unhide BQ).trans (bA.mono hszq)).grown hg (Nat.le_trans (by omega) (Nat.le_trans hszq bA.size)) (fun k hk => (OA.lt k hk).1))
      have O3 := hide ho
      clear OA hr1 bA hg ho
      go_wp2_with (at_builtin; refine ky_wpApp rfl (.tmp 29) (.tmp 31) 25 rfl _ _ _ w3 rfl rfl hr ?_)
      clear hr
      clear x0q x1q x2q x3q
      cases a with
      | none =>
        obtain rfl := hcn rfl
        have hj0 : j = 0 := by omega
        have SRC := hide (show ∀ u, VRow u none 0 (ds.drop j) by
          obtain ⟨h1, h2⟩ := vrow_none (unhide RE)
          rw [h2]
          exact fun u => ⟨by simp, fun i hi => by simp at hi⟩)
        subst hj0
        go_wp2_with fail
        go_quiet (fail)
        have O5 := unhide O3
        obtain ⟨g6, k6, w6, hr, ho, hg, -⟩ := v_appS 25 (show VOwns (w3.drewN nq) (w.heap.size + 1) (.slice (some ⟨g3, 0, none⟩) (0 + 1) k3) (ds.take 0 ++ [x]) from O5) (by simp) (unhide SRC _) (fun _ => rfl) (c := 0) (by rw [List.length_append, unhide HTL]; simp only [List.length_singleton]; omega) (by have := (unhide B3).size; show w.heap.size + 1 ≤ w3.heap.size; omega)
        have B6 := hide ((unhide BH).trans (((bel_drewN (unhide B3) nq).grown hg (by have := (unhide B3).size; show w.heap.size + 1 ≤ w3.heap.size; omega) (fun k hk => (World.ownsRow.lt (show VOwns (w3.drewN nq) (w.heap.size + 1) (.slice (some ⟨g3, 0, none⟩) (0 + 1) k3) (ds.take 0 ++ [x]) from O5) k hk).1)).mono (by omega)))
        have HLN := hide (show (insV ds x).length = (ds.take 0 ++ [x]).length + 0 by rw [unhide IP, List.length_append, List.length_drop, unhide L])
        have O6 := hide (show VOwns w6 w.heap.size (.slice (some ⟨g6, 0, none⟩) (insV ds x).length k6) (insV ds x) by
          rw [unhide HLN, unhide IP]
          exact ownsRow_base2 ho (Nat.le_succ _))
        have RES := hide (show InsRes ds x w (.returned (.slice (some ⟨g6, 0, none⟩) ((ds.take 0 ++ [x]).length + 0) k6)) w6 from ⟨g6, k6, by rw [unhide HLN], unhide O6, unhide B6⟩)
        have HLT := hide (show (ds.take 0 ++ [x]).length = 0 + 1 by rw [List.length_append, unhide HTL]; rfl)
        rw [unhide HLT] at hr RES
        clear O5 ho hg HLN O6 B6
        go_wp2_with (at_builtin; refine ky_wpApp rfl (.tmp 59) (.tmp 62) 25 rfl _ _ _ w6 rfl rfl hr ?_)
        go_ret
        exact unhide RES
      | some ad =>
        obtain ⟨b, off, spot⟩ := ad
        have hA : ∃ A : Addr, (if c = j then some (⟨b, off, spot⟩ : Addr) else some ((⟨b, off, spot⟩ : Addr).add (j * 4))) = some A ∧ ∀ u, VRow u (some A) 0 (ds.drop j) := by
          have hdr : ds.drop j = [] := List.drop_of_length_le (by rw [unhide L]; exact Nat.le_refl _)
          rw [hdr]
          by_cases h : c = j
          · exact ⟨_, if_pos h, fun u => ⟨rfl, fun i hi => by simp at hi⟩⟩
          · exact ⟨_, if_neg h, fun u => ⟨rfl, fun i hi => by simp at hi⟩⟩
        obtain ⟨A, hA, SRC0⟩ := hA
        have SRC := hide SRC0
        clear SRC0
        go_wp2_with fail
        go_quiet (fail)
        have hd3 : j - j = 0 := Nat.sub_self j
        have O5 := unhide O3
        obtain ⟨g6, k6, w6, hr, ho, hg, -⟩ := v_appS 25 (show VOwns (w3.drewN nq) (w.heap.size + 1) (.slice (some ⟨g3, 0, none⟩) (j + 1) k3) (ds.take j ++ [x]) from O5) (by simp) (unhide SRC _) (fun h => by cases h) (c := (c - j)) (by rw [List.length_append, unhide HTL]; simp only [List.length_singleton]; omega) (by have := (unhide B3).size; show w.heap.size + 1 ≤ w3.heap.size; omega)
        have B6 := hide ((unhide BH).trans (((bel_drewN (unhide B3) nq).grown hg (by have := (unhide B3).size; show w.heap.size + 1 ≤ w3.heap.size; omega) (fun k hk => (World.ownsRow.lt (show VOwns (w3.drewN nq) (w.heap.size + 1) (.slice (some ⟨g3, 0, none⟩) (j + 1) k3) (ds.take j ++ [x]) from O5) k hk).1)).mono (by omega)))
        have HLN := hide (show (insV ds x).length = (ds.take j ++ [x]).length + 0 by rw [unhide IP, List.length_append, List.length_drop, unhide L, Nat.sub_self])
        have O6 := hide (show VOwns w6 w.heap.size (.slice (some ⟨g6, 0, none⟩) (insV ds x).length k6) (insV ds x) by
          rw [unhide HLN, unhide IP]
          exact ownsRow_base2 ho (Nat.le_succ _))
        have RES := hide (show InsRes ds x w (.returned (.slice (some ⟨g6, 0, none⟩) ((ds.take j ++ [x]).length + 0) k6)) w6 from ⟨g6, k6, by rw [unhide HLN], unhide O6, unhide B6⟩)
        have HLT := hide (show (ds.take j ++ [x]).length = j + 1 by rw [List.length_append, unhide HTL]; rfl)
        rw [unhide HLT] at hr RES
        clear O5 ho hg HLN O6 B6
        go_wp2_with (at_builtin; refine ky_wpApp rfl (.tmp 59) (.tmp 62) 25 rfl _ _ _ w6 rfl rfl hr ?_)
        go_ret
        exact unhide RES
    have hj2 : j < ds.length := by rw [unhide L]; exact hlt
    obtain ⟨b, off, rfl, d0, d1, d2, d3⟩ := ((unhide RE).below (unhide BW)).2 j hj2
    have hjn : (j : Int) < (n : Int) := by omega
    have hbl : b < w.heap.size := by obtain ⟨b2, o2, h2, c2, _⟩ := (unhide RE).2 j hj2; injection h2 with h2; injection h2 with h2 _; subst h2; exact cell_lt c2
    have HS := hide (fun h => posV_step (x := x) hj2 hj h)
    have HE := hide (fun h => posV_end (x := x) hj2 hj h)
    have HA := hide (fun h => hit_at (ds := ds) (x := x) (p := j) h hj2)
    have TS := hide (takeG_snoc ds j hj2)
    have SC := hide (fun (u : World) (hb : Below wr.heap.size wr u) => (l06Before_any ds[j] x u).mono fun e u' h => show e = .returned (.bool (ltV ds[j] x)) ∧ Below wr.heap.size wr u' from ⟨h.1, hb.trans (h.2.mono hb.size)⟩)
    generalize hpd : ds[j] = pd at *
    have HPD := hide hpd
    clear hpd
    obtain ⟨pk, pt, pv, pg⟩ := pd
    simp only at d0 d1 d2 d3
    unfold vv at SC
    simp only at SC
    have SK := hide (show ∀ u, Below wr.heap.size wr u → (u.cell? ⟨b, off + j * 4, none⟩ = some (.string pk) ∧ u.cell? ⟨b, off + j * 4 + 1, none⟩ = some (.int .i64 pt) ∧ u.cell? ⟨b, off + j * 4 + 2, none⟩ = some (.string pv) ∧ u.cell? ⟨b, off + j * 4 + 3, none⟩ = some (.bool pg) ∧ u.cell? ⟨w.heap.size, 0, none⟩ = some (.string x.k) ∧ u.cell? ⟨w.heap.size, 1, none⟩ = some (.int .i64 x.t) ∧ u.cell? ⟨w.heap.size, 2, none⟩ = some (.string x.v) ∧ u.cell? ⟨w.heap.size, 3, none⟩ = some (.bool x.g)) from fun u hb =>
      ⟨(hb.cell (p := ⟨b, off + j * 4, none⟩) (cell_lt d0)).trans d0, (hb.cell (p := ⟨b, off + j * 4 + 1, none⟩) (cell_lt d1)).trans d1, (hb.cell (p := ⟨b, off + j * 4 + 2, none⟩) (cell_lt d2)).trans d2, (hb.cell (p := ⟨b, off + j * 4 + 3, none⟩) (cell_lt d3)).trans d3, (hb.cell (p := ⟨w.heap.size, 0, none⟩) (cell_lt x0)).trans x0, (hb.cell (p := ⟨w.heap.size, 1, none⟩) (cell_lt x1)).trans x1, (hb.cell (p := ⟨w.heap.size, 2, none⟩) (cell_lt x2)).trans x2, (hb.cell (p := ⟨w.heap.size, 3, none⟩) (cell_lt x3)).trans x3⟩)
    have G0 : Below wr.heap.size wr wr.drew := (Below.refl _ _).drew
    clear d0 d1 d2 d3 x0 x1 x2 x3 kr
    go_upto_region 3 with fail
    refine wp_region_held_drew (S := (fun u => (u.cell? ⟨b, off + j * 4, none⟩ = some (.string pk) ∧ u.cell? ⟨b, off + j * 4 + 1, none⟩ = some (.int .i64 pt) ∧ u.cell? ⟨b, off + j * 4 + 2, none⟩ = some (.string pv) ∧ u.cell? ⟨b, off + j * 4 + 3, none⟩ = some (.bool pg) ∧ u.cell? ⟨w.heap.size, 0, none⟩ = some (.string x.k) ∧ u.cell? ⟨w.heap.size, 1, none⟩ = some (.int .i64 x.t) ∧ u.cell? ⟨w.heap.size, 2, none⟩ = some (.string x.v) ∧ u.cell? ⟨w.heap.size, 3, none⟩ = some (.bool x.g)))) (by kernel_rfl) (unhide SK _ G0) (fun hHeld => ?_)
    refine anyH_take 0 8 (v := ?v1) rfl rfl (by kernel_rfl) (by kernel_rfl) (by kernel_rfl) (fun _ _ _ h => h) (by rfl) ?h1 hHeld ?r1
    case h1 => (intro w hSw; (try dsimp only at hSw); go_simp; try (with_reducible rfl))
    simp only [Act.put, List.setIfInBounds_toArray, List.set_cons_zero, List.set_cons_succ]
    refine anyH_take 1 9 (v := ?v2) rfl rfl (by kernel_rfl) (by kernel_rfl) (by kernel_rfl) (fun _ _ _ h => h) (by rfl) ?h2 hHeld ?r2
    case h2 => (intro w hSw; (try dsimp only at hSw); go_simp; try (with_reducible rfl))
    simp only [Act.put, List.setIfInBounds_toArray, List.set_cons_zero, List.set_cons_succ]
    refine anyH_take 2 10 (v := ?v3) rfl rfl (by kernel_rfl) (by kernel_rfl) (by kernel_rfl) (fun _ _ _ h => h) (by rfl) ?h3 hHeld ?r3
    case h3 => (intro w hSw; (try dsimp only at hSw); go_simp; try (with_reducible rfl))
    simp only [Act.put, List.setIfInBounds_toArray, List.set_cons_zero, List.set_cons_succ]
    refine anyH_take 3 11 (v := ?v4) rfl rfl (by kernel_rfl) (by kernel_rfl) (by kernel_rfl) (fun _ _ _ h => h) (by rfl) ?h4 hHeld ?r4
    case h4 => (intro w hSw; (try dsimp only at hSw); go_simp; try (with_reducible rfl))
    simp only [Act.put, List.setIfInBounds_toArray, List.set_cons_zero, List.set_cons_succ]
    refine anyH_take 4 12 (v := ?v5) rfl rfl (by kernel_rfl) (by kernel_rfl) (by kernel_rfl) (fun _ _ _ h => h) (by rfl) ?h5 hHeld ?r5
    case h5 => (intro w hSw; (try dsimp only at hSw); go_simp; try (with_reducible rfl))
    simp only [Act.put, List.setIfInBounds_toArray, List.set_cons_zero, List.set_cons_succ]
    refine anyH_take 5 13 (v := ?v6) rfl rfl (by kernel_rfl) (by kernel_rfl) (by kernel_rfl) (fun _ _ _ h => h) (by rfl) ?h6 hHeld ?r6
    case h6 => (intro w hSw; (try dsimp only at hSw); go_simp; try (with_reducible rfl))
    simp only [Act.put, List.setIfInBounds_toArray, List.set_cons_zero, List.set_cons_succ]
    refine anyH_take 6 14 (v := ?v7) rfl rfl (by kernel_rfl) (by kernel_rfl) (by kernel_rfl) (fun _ _ _ h => h) (by rfl) ?h7 hHeld ?r7
    case h7 => (intro w hSw; (try dsimp only at hSw); go_simp; try (with_reducible rfl))
    simp only [Act.put, List.setIfInBounds_toArray, List.set_cons_zero, List.set_cons_succ]
    refine anyH_take 7 15 (v := ?v8) rfl rfl (by kernel_rfl) (by kernel_rfl) (by kernel_rfl) (fun _ _ _ h => h) (by rfl) ?h8 hHeld ?r8
    case h8 => (intro w hSw; (try dsimp only at hSw); go_simp; try (with_reducible rfl))
    simp only [Act.put, List.setIfInBounds_toArray, List.set_cons_zero, List.set_cons_succ]
    refine anyH_take 8 16 (v := ?v9) rfl rfl (by kernel_rfl) (by kernel_rfl) (by kernel_rfl) (fun _ _ _ h => h) (by rfl) ?h9 hHeld ?r9
    case h9 => (intro w hSw; (try dsimp only at hSw); go_simp; try (with_reducible rfl))
    simp only [Act.put, List.setIfInBounds_toArray, List.set_cons_zero, List.set_cons_succ]
    refine anyH_take 9 17 (v := ?v10) rfl rfl (by kernel_rfl) (by kernel_rfl) (by kernel_rfl) (fun _ _ _ h => h) (by rfl) ?h10 hHeld ?r10
    case h10 => (intro w hSw; (try dsimp only at hSw); go_simp; try (with_reducible rfl))
    simp only [Act.put, List.setIfInBounds_toArray, List.set_cons_zero, List.set_cons_succ]
    refine wpAnyH_ready (rs := [10]) (by kernel_rfl) (by simp) ?_
    refine AllReadyH.cons rfl (fun K hK => ?_) AllReadyH.nil
    go_simp
    refine (unhide SC _ G0).mono ?_
    rintro e w2 ⟨rfl, b2⟩
    refine hK.out _ _ (unhide SK _ b2) (fun hHeld => ?_)
    clear hK K
    refine anyH_take 11 19 (v := ?v11) rfl rfl (by kernel_rfl) (by kernel_rfl) (by kernel_rfl) (fun _ _ _ h => h) (by rfl) ?h11 hHeld ?r11
    case h11 => (intro w hSw; (try dsimp only at hSw); go_simp; try (with_reducible rfl))
    simp only [Act.put, List.setIfInBounds_toArray, List.set_cons_zero, List.set_cons_succ]
    refine wpAnyH_done (by kernel_rfl) ?_ _
    clear G0 SC
    obtain ⟨-, -, -, -, x0q, x1q, x2q, x3q⟩ := hHeld
    have BQ := hide ((unhide hB).trans (b2.mono hszr))
    have OQ := hide (rb_ownsRow_below (unhide hO) b2)
    have hszq : w.heap.size + 1 ≤ w2.heap.size := Nat.le_trans hszr b2.size
    clear hB hO BW b2 SK
    generalize hlv : ltV ⟨pk, pt, pv, pg⟩ x = lv at *
    have LV := hide hlv
    clear hlv
    generalize w2 = wq at *
    cases lv with
    | true =>
      clear x0q x1q x2q x3q
      obtain ⟨b', off', he, d0, d1, d2, d3⟩ := ((unhide RE).below ((unhide BH).trans ((unhide BQ).mono (by omega)))).2 j hj2
      injection he with he
      injection he with he1 he2
      subst he1 he2
      rw [unhide HPD] at d0 d1 d2 d3
      simp only at d0 d1 d2 d3
      have OA := World.ownsRow.alloc (unhide OQ) (.cells #[.string pk, .int .i64 pt, .string pv, .bool pg] 51)
      have hr1 := vrow_one wq ⟨pk, pt, pv, pg⟩
      have bA : Below wq.heap.size wq (wq.alloc (.cells #[.string pk, .int .i64 pt, .string pv, .bool pg] 51)) := (Below.refl _ _).alloc (Nat.le_refl _) _
      have HTL := hide (show (ds.take j).length = j by have := unhide L; rw [List.length_take]; omega)
      obtain ⟨g3, k3, w3, hr, ho, hg, -⟩ := v_appS 25 (show VOwns _ (w.heap.size + 1) (.slice (some ⟨g, 0, none⟩) j cap) (ds.take j) from OA) (by simp) hr1 (fun h => by cases h) (c := 1) (by rw [unhide HTL]; omega) (Nat.le_trans hszq bA.size)
      rw [unhide HTL] at hr
      have ho : VOwns w3 (w.heap.size + 1) (.slice (some ⟨g3, 0, none⟩) (j + 1) k3) (ds.take (j + 1)) := by have h := ho; rw [unhide HTL, ← unhide TS] at h; exact h
      have B3 := hide (((unhide BQ).trans (bA.mono hszq)).grown hg (Nat.le_trans (by omega) (Nat.le_trans hszq bA.size)) (fun k hk => (OA.lt k hk).1))
      have O3 := hide ho
      clear OA hr1 bA hg ho
      go_wp2_with (at_builtin; refine ky_wpApp rfl (.tmp 20) (.tmp 25) 25 rfl _ _ _ w3 rfl rfl hr ?_)
      clear hr
      have NX := hide (unhide HS rfl)
      go_wp2_with fail
      go_roundw
      case rel => exact ⟨j + 1, g3, k3, rfl, by go_num, unhide NX, unhide O3, unhide B3⟩
      case measure => simp [intOf]; omega
    | false =>
      have EP := hide (unhide HE rfl).symm
      have HI := hide (unhide HA (unhide EP))
      have OA := World.ownsRow.alloc (unhide OQ) (.cells #[.string x.k, .int .i64 x.t, .string x.v, .bool x.g] 51)
      have hr1 := vrow_one wq x
      have bA : Below wq.heap.size wq (wq.alloc (.cells #[.string x.k, .int .i64 x.t, .string x.v, .bool x.g] 51)) := (Below.refl _ _).alloc (Nat.le_refl _) _
      have HTL := hide (show (ds.take j).length = j by have := unhide L; rw [List.length_take]; omega)
      obtain ⟨g3, k3, w3, hr, ho, hg, -⟩ := v_appS 25 (show VOwns _ (w.heap.size + 1) (.slice (some ⟨g, 0, none⟩) j cap) (ds.take j) from OA) (by simp) hr1 (fun h => by cases h) (c := 1) (by rw [unhide HTL]; omega) (Nat.le_trans hszq bA.size)
      rw [unhide HTL] at hr
      have ho : VOwns w3 (w.heap.size + 1) (.slice (some ⟨g3, 0, none⟩) (j + 1) k3) (ds.take j ++ [x]) := by have h := ho; rw [unhide HTL] at h; exact h
      have B3 := hide (((unhide BQ).trans (bA.mono hszq)).grown hg (Nat.le_trans (by omega) (Nat.le_trans hszq bA.size)) (fun k hk => (OA.lt k hk).1))
      have O3 := hide ho
      clear OA hr1 bA hg ho
      go_wp2_with (at_builtin; refine ky_wpApp rfl (.tmp 29) (.tmp 31) 25 rfl _ _ _ w3 rfl rfl hr ?_)
      clear hr
      obtain ⟨b', off', he, d0, d1, -, -⟩ := ((unhide RE).below ((unhide BH).trans ((unhide B3).mono (by omega)))).2 j hj2
      injection he with he
      injection he with he1 he2
      subst he1 he2
      rw [unhide HPD] at d0 d1
      simp only at d0 d1
      have kr := ((unhide B3).block w.heap.size (by omega)).trans (unhide KX)
      have x0 := (heap_at kr 0).1
      have x1 := (heap_at kr 1).1
      clear kr x0q x1q x2q x3q
      by_cases hke : pk = x.k
      · have hkb : (pk.toList == x.k.toList) = true := by rw [hke]; simp
        by_cases hte : pt = x.t
        · have htb : decide (pt = x.t) = true := decide_eq_true hte
          have htc : (pt == x.t) = true := by simpa using hte
          have IP := hide (insV_parts ds x (unhide EP) (q := j + 1) (by rw [unhide HI]; unfold sameV; rw [htb, decide_eq_true hke]; rfl))
          clear hke hte
          obtain ⟨A, hA, SRC0⟩ := vdrop_src (k := j + 1) ((unhide RE).below ((unhide BH).trans ((unhide B3).mono (by omega)))) hc (by omega)
          have SRC := hide SRC0
          clear SRC0
          go_wp2_with fail
          go_quiet (fail)
          have O5 := unhide O3
          obtain ⟨g6, k6, w6, hr, ho, hg, -⟩ := v_appS 25 (show VOwns (w3.drewN nq) (w.heap.size + 1) (.slice (some ⟨g3, 0, none⟩) (j + 1) k3) (ds.take j ++ [x]) from O5) (by simp) (show VRow (w3.drewN nq) (some A) (n - (j + 1)) (ds.drop (j + 1)) from unhide SRC) (fun h => by cases h) (c := (c - (j + 1))) (by rw [List.length_append, unhide HTL]; simp only [List.length_singleton]; omega) (by have := (unhide B3).size; show w.heap.size + 1 ≤ w3.heap.size; omega)
          have B6 := hide ((unhide BH).trans (((bel_drewN (unhide B3) nq).grown hg (by have := (unhide B3).size; show w.heap.size + 1 ≤ w3.heap.size; omega) (fun k hk => (World.ownsRow.lt (show VOwns (w3.drewN nq) (w.heap.size + 1) (.slice (some ⟨g3, 0, none⟩) (j + 1) k3) (ds.take j ++ [x]) from O5) k hk).1)).mono (by omega)))
          have HLN := hide (show (insV ds x).length = (ds.take j ++ [x]).length + (n - (j + 1)) by rw [unhide IP, List.length_append, List.length_drop, unhide L])
          have O6 := hide (show VOwns w6 w.heap.size (.slice (some ⟨g6, 0, none⟩) (insV ds x).length k6) (insV ds x) by
            rw [unhide HLN, unhide IP]
            exact ownsRow_base2 ho (Nat.le_succ _))
          have RES := hide (show InsRes ds x w (.returned (.slice (some ⟨g6, 0, none⟩) ((ds.take j ++ [x]).length + (n - (j + 1))) k6)) w6 from ⟨g6, k6, by rw [unhide HLN], unhide O6, unhide B6⟩)
          have HLT := hide (show (ds.take j ++ [x]).length = j + 1 by rw [List.length_append, unhide HTL]; rfl)
          rw [unhide HLT] at hr RES
          clear O5 ho hg HLN O6 B6
          go_wp2_with (at_builtin; refine ky_wpApp rfl (.tmp 59) (.tmp 62) 25 rfl _ _ _ w6 rfl rfl hr ?_)
          go_ret
          exact unhide RES
        · have htb : decide (pt = x.t) = false := decide_eq_false hte
          have htc : (pt == x.t) = false := by simpa using hte
          have IP := hide (insV_parts ds x (unhide EP) (q := j) (by rw [unhide HI]; unfold sameV; rw [htb]; simp))
          clear hke
          obtain ⟨A, hA, SRC0⟩ := vdrop_src (k := j) ((unhide RE).below ((unhide BH).trans ((unhide B3).mono (by omega)))) hc (by omega)
          have SRC := hide SRC0
          clear SRC0
          go_wp2_with fail
          go_quiet (fail)
          have O5 := unhide O3
          obtain ⟨g6, k6, w6, hr, ho, hg, -⟩ := v_appS 25 (show VOwns (w3.drewN nq) (w.heap.size + 1) (.slice (some ⟨g3, 0, none⟩) (j + 1) k3) (ds.take j ++ [x]) from O5) (by simp) (show VRow (w3.drewN nq) (some A) (n - (j)) (ds.drop (j)) from unhide SRC) (fun h => by cases h) (c := (c - (j))) (by rw [List.length_append, unhide HTL]; simp only [List.length_singleton]; omega) (by have := (unhide B3).size; show w.heap.size + 1 ≤ w3.heap.size; omega)
          have B6 := hide ((unhide BH).trans (((bel_drewN (unhide B3) nq).grown hg (by have := (unhide B3).size; show w.heap.size + 1 ≤ w3.heap.size; omega) (fun k hk => (World.ownsRow.lt (show VOwns (w3.drewN nq) (w.heap.size + 1) (.slice (some ⟨g3, 0, none⟩) (j + 1) k3) (ds.take j ++ [x]) from O5) k hk).1)).mono (by omega)))
          have HLN := hide (show (insV ds x).length = (ds.take j ++ [x]).length + (n - (j)) by rw [unhide IP, List.length_append, List.length_drop, unhide L])
          have O6 := hide (show VOwns w6 w.heap.size (.slice (some ⟨g6, 0, none⟩) (insV ds x).length k6) (insV ds x) by
            rw [unhide HLN, unhide IP]
            exact ownsRow_base2 ho (Nat.le_succ _))
          have RES := hide (show InsRes ds x w (.returned (.slice (some ⟨g6, 0, none⟩) ((ds.take j ++ [x]).length + (n - (j))) k6)) w6 from ⟨g6, k6, by rw [unhide HLN], unhide O6, unhide B6⟩)
          have HLT := hide (show (ds.take j ++ [x]).length = j + 1 by rw [List.length_append, unhide HTL]; rfl)
          rw [unhide HLT] at hr RES
          clear O5 ho hg HLN O6 B6
          go_wp2_with (at_builtin; refine ky_wpApp rfl (.tmp 59) (.tmp 62) 25 rfl _ _ _ w6 rfl rfl hr ?_)
          go_ret
          exact unhide RES
      · have hkb : (pk.toList == x.k.toList) = false := by simpa using fun e => hke (toList_inj e)
        have IP := hide (insV_parts ds x (unhide EP) (q := j) (by rw [unhide HI]; unfold sameV; rw [decide_eq_false hke]; simp))
        obtain ⟨A, hA, SRC0⟩ := vdrop_src (k := j) ((unhide RE).below ((unhide BH).trans ((unhide B3).mono (by omega)))) hc (by omega)
        have SRC := hide SRC0
        clear SRC0
        go_wp2_with fail
        go_quiet (fail)
        have O5 := unhide O3
        obtain ⟨g6, k6, w6, hr, ho, hg, -⟩ := v_appS 25 (show VOwns (w3.drewN nq) (w.heap.size + 1) (.slice (some ⟨g3, 0, none⟩) (j + 1) k3) (ds.take j ++ [x]) from O5) (by simp) (show VRow (w3.drewN nq) (some A) (n - (j)) (ds.drop (j)) from unhide SRC) (fun h => by cases h) (c := (c - (j))) (by rw [List.length_append, unhide HTL]; simp only [List.length_singleton]; omega) (by have := (unhide B3).size; show w.heap.size + 1 ≤ w3.heap.size; omega)
        have B6 := hide ((unhide BH).trans (((bel_drewN (unhide B3) nq).grown hg (by have := (unhide B3).size; show w.heap.size + 1 ≤ w3.heap.size; omega) (fun k hk => (World.ownsRow.lt (show VOwns (w3.drewN nq) (w.heap.size + 1) (.slice (some ⟨g3, 0, none⟩) (j + 1) k3) (ds.take j ++ [x]) from O5) k hk).1)).mono (by omega)))
        have HLN := hide (show (insV ds x).length = (ds.take j ++ [x]).length + (n - (j)) by rw [unhide IP, List.length_append, List.length_drop, unhide L])
        have O6 := hide (show VOwns w6 w.heap.size (.slice (some ⟨g6, 0, none⟩) (insV ds x).length k6) (insV ds x) by
          rw [unhide HLN, unhide IP]
          exact ownsRow_base2 ho (Nat.le_succ _))
        have RES := hide (show InsRes ds x w (.returned (.slice (some ⟨g6, 0, none⟩) ((ds.take j ++ [x]).length + (n - (j))) k6)) w6 from ⟨g6, k6, by rw [unhide HLN], unhide O6, unhide B6⟩)
        have HLT := hide (show (ds.take j ++ [x]).length = j + 1 by rw [List.length_append, unhide HTL]; rfl)
        rw [unhide HLT] at hr RES
        clear O5 ho hg HLN O6 B6
        go_wp2_with (at_builtin; refine ky_wpApp rfl (.tmp 59) (.tmp 62) 25 rfl _ _ _ w6 rfl rfl hr ?_)
        go_ret
        exact unhide RES
end Go.Proofs.YtcflepnckjappaaGreat

namespace Go.Proofs.YtcflepnckjappaaGreat
open Go.RowKit

theorem rowC_lenV {w : World} {a : Option Addr} {n m c : Nat} {cs : List Value} (h : RowC w (.slice a n c) m cs) : n = m := by
  obtain ⟨_, _, e, _⟩ := h
  injection e
theorem vrow_C {w : World} {a : Option Addr} {n c : Nat} {ds : List VerD} (h : RowC w (.slice a n c) ds.length (vcs ds)) : VRow w a n ds := by
  have hn := rowC_lenV h
  subst hn
  refine ⟨rfl, fun i hi => ?_⟩
  obtain ⟨e0, e1, e2, e3⟩ := vcs_at ds i hi
  obtain ⟨b, off, e, q0⟩ := h.at e0
  obtain ⟨b1, o1, f1, q1⟩ := h.at e1
  obtain ⟨b2, o2, f2, q2⟩ := h.at e2
  obtain ⟨b3, o3, f3, q3⟩ := h.at e3
  rw [e] at f1 f2 f3
  cases f1
  cases f2
  cases f3
  exact ⟨b, off, e, q0, by rw [Nat.add_assoc]; exact q1, by rw [Nat.add_assoc]; exact q2, by rw [Nat.add_assoc]; exact q3⟩
end Go.Proofs.YtcflepnckjappaaGreat

namespace Go.Proofs.YtcflepnckjappaaGreat
open Go.RowKit

/-- A record and where its rows lie. -/
structure SeH where
  X : SesD
  s0 : Sl
def seEl (h : SeH) : El := ⟨[.bool h.X.o, .int .i64 h.X.t, .slice h.s0.a h.s0.n h.s0.c], [⟨51, 4, h.X.ws.length, .slice h.s0.a h.s0.n h.s0.c, vcs h.X.ws⟩]⟩
abbrev SeOwn (w : World) (B : Nat) (v : Value) (hs : List SeH) : Prop := NOwn w B 212 3 v hs.length (hs.map seEl)
abbrev SeIn (w : World) (v : Value) (n : Nat) (hs : List SeH) : Prop := NIn w 3 v n (hs.map seEl)
theorem seEl_at {hs : List SeH} {k : Nat} (hk : k < hs.length) : (hs.map seEl)[k]? = some (seEl hs[k]) := by rw [List.getElem?_map, List.getElem?_eq_getElem hk]; rfl
theorem seEl_wid (hs : List SeH) : ∀ e ∈ hs.map seEl, e.hd.length = 3 := by intro e he; obtain ⟨h, _, rfl⟩ := List.mem_map.1 he; rfl
theorem SeIn.sub {w : World} {v : Value} {n : Nat} {hs : List SeH} (h : SeIn w v n hs) {k : Nat} (hk : k < hs.length) : RowC w (.slice hs[k].s0.a hs[k].s0.n hs[k].s0.c) hs[k].X.ws.length (vcs hs[k].X.ws) := by
  have d := h.dat (seEl hs[k]) (List.mem_map_of_mem (List.getElem_mem hk))
  exact d _ (List.Mem.head _)
theorem SeIn.cells {w : World} {a : Option Addr} {n c : Nat} {hs : List SeH} (h : SeIn w (.slice a n c) n hs) {k : Nat} (hk : k < hs.length) : ∃ b off, a = some ⟨b, off, none⟩ ∧ b < w.heap.size ∧ w.cell? ⟨b, off + k * 3, none⟩ = some (.bool hs[k].X.o) ∧ w.cell? ⟨b, off + k * 3 + 1, none⟩ = some (.int .i64 hs[k].X.t) ∧ w.cell? ⟨b, off + k * 3 + 2, none⟩ = some (.slice hs[k].s0.a hs[k].s0.n hs[k].s0.c) := by
  obtain ⟨b, off, e, hb, q⟩ := h.cell (seEl_at hk) (by decide)
  exact ⟨b, off, e, hb, q 0 _ rfl, by rw [Nat.add_assoc]; exact q 1 _ rfl, by rw [Nat.add_assoc]; exact q 2 _ rfl⟩
theorem Tryz.infoSe : (Tryz.prog.info? 212).map (fun i => (i.zero, i.size, i.bytes)) = some (some (.agg #[.bool false, .int .i64 0, .slice none 0 0]), 3, 40) := by kernel_rfl
end Go.Proofs.YtcflepnckjappaaGreat

namespace Go.Proofs.YtcflepnckjappaaGreat
open Go.RowKit

theorem sbAt_snoc {es : List El} {e : El} {i a : Nat} {x : Sb} (h : sbAt (es ++ [e]) i a = some x) : (i < es.length ∧ sbAt es i a = some x) ∨ (i = es.length ∧ e.sb[a]? = some x) := by
  unfold sbAt at h
  by_cases hi : i < es.length
  · rw [List.getElem?_append_left hi] at h
    exact .inl ⟨hi, h⟩
  · by_cases he : i = es.length
    · subst he
      rw [List.getElem?_append_right (Nat.le_refl _), Nat.sub_self] at h
      exact .inr ⟨rfl, h⟩
    · rw [List.getElem?_append_right (by omega), List.getElem?_eq_none (by simp; omega)] at h
      cases h
/-- A record appended: its rows lie apart. -/
theorem NOwn.app {w : World} {B T S n C : Nat} {v : Value} {es : List El} {e : El} (ty : TypeId) {i0 : TypeInfo} {z : Value} {by_ : Nat} (hu : Tryz.prog.underlying ty = some (.slice T)) (hi0 : Tryz.prog.info? T = some i0) (hz0 : i0.zero = some z) (hz1 : i0.size = S) (hz2 : i0.bytes = by_) (hzs : z.cells.size = S) (hS : 0 < S) (hby : by_ ≤ 1000)
    (ho : NOwn w B T S v n es) (hw : e.hd.length = S) (h1 : ∀ u ∈ e.hd, u.oneCell' = true) (hd : ∀ x ∈ e.sb, w.ownsRow C x.t x.s x.v x.n x.cs) (hC : ∀ i, NBl v es i → i < C) (hBC : B ≤ C)
    (hf : ∀ (a b : Nat) (x y : Sb), e.sb[a]? = some x → e.sb[b]? = some y → a ≠ b → ∀ g, x.v.ownBlock = some g → y.v.ownBlock ≠ some g) (hz : n ≤ 900000) (hB : B ≤ w.heap.size) :
    ∃ v' w', (Builtin.append_ #[ty, ty] ty #[v, .slice (some ⟨w.heap.size, 0, none⟩) 1 1]).run Tryz.prog (w.alloc (.cells e.hd.toArray T)) = .ok v' w' ∧ NOwn w' B T S v' (n + 1) (es ++ [e]) ∧ (w.alloc (.cells e.hd.toArray T)).grownBy w' v.ownBlock ∧ v' ≠ .slice none 0 0 := by
  obtain ⟨W, hW⟩ : ∃ W, W = w.alloc (.cells e.hd.toArray T) := ⟨_, rfl⟩
  have bA : Below w.heap.size w W := by rw [hW]; exact (Below.refl _ _).alloc (Nat.le_refl _) _
  have zW : W.heap.size = w.heap.size + 1 := by rw [hW]; simp
  have hcells : ∀ j u, e.hd[j]? = some u → W.cell? ((⟨w.heap.size, 0, none⟩ : Addr).add j) = some u := fun j u hu => by
    have e2 : (⟨w.heap.size, 0, none⟩ : Addr).add j = ⟨w.heap.size, j, none⟩ := by unfold Addr.add; split <;> simp_all
    rw [e2, hW]
    exact rb_cell_new rfl (by simpa using hu)
  have hoa := ho.below bA
  rw [← hW]
  have hbb : (n + 1) * by_ ≤ 900001 * 1000 := Nat.mul_le_mul (by omega) hby
  obtain ⟨v', w', hrun, ho', hg, hn, hloc⟩ := app_at (P := Tryz.prog) (w := W) (B := B) ty ty T hu hi0 hz0 hz1 hz2 hzs hS hoa.row ⟨w.heap.size, 0, none⟩ 1 1 e.hd (by rw [hw]; omega) hcells h1 (by unfold maxLen; omega) (by omega) (by omega) (fun _ => by omega)
  have hwr := WrB.of_grown hg
  have up : ∀ (k b : Nat) (y : Sb), sbAt es k b = some y → ∀ g, y.v.ownBlock = some g → g < C := fun k b y hy g hg => hC g (.inr ⟨k, b, y, hy, hg⟩)
  have lo : ∀ (b : Nat) (y : Sb), e.sb[b]? = some y → ∀ g, y.v.ownBlock = some g → C ≤ g ∧ g < w.heap.size := fun b y hy g hg => (hd y (List.mem_of_getElem? hy)).lt g hg
  refine ⟨v', w', hrun, ⟨?_, by rw [List.length_append, ho.len]; rfl, fun y hy => ?_, fun k b y hy => ?_, fun k l b d y z hy hz hne => ?_, fun k b y hy g h1 h2 => ?_⟩, hg, hn⟩
  · rw [List.flatMap_append, List.flatMap_cons, List.flatMap_nil, List.append_nil]
    exact ho'
  · rcases List.mem_append.1 hy with hy | hy
    · exact ho.wid y hy
    · rw [List.mem_singleton.1 hy]; exact hw
  · rcases sbAt_snoc hy with ⟨_, hy⟩ | ⟨_, hy⟩
    · exact rr_owns_wr (hoa.dat k b y hy) hwr (fun q hq e => hoa.off k b y hy q e hq)
    · exact gd_base (rr_owns_wr (rb_ownsRow_below (hd y (List.mem_of_getElem? hy)) bA) hwr (fun q hq e => by have := (lo b y hy q hq).1; have := hC q (.inl e); omega)) hBC
  · rcases sbAt_snoc hy with ⟨hk, hy⟩ | ⟨hk, hy⟩
    · rcases sbAt_snoc hz with ⟨hl, hz⟩ | ⟨hl, hz⟩
      · exact ho.far k l b d y z hy hz hne
      · exact fun g h1 h2 => by have := up k b y hy g h1; have := (lo d z hz g h2).1; omega
    · rcases sbAt_snoc hz with ⟨hl, hz⟩ | ⟨hl, hz⟩
      · exact fun g h1 h2 => by have := (lo b y hy g h1).1; have := up l d z hz g h2; omega
      · exact hf b d y z hy hz (by rcases hne with h | h; exact absurd (hk.trans hl.symm) h; exact h)
  · rcases sbAt_snoc hy with ⟨_, hy⟩ | ⟨_, hy⟩
    · rcases hloc with e | e
      · exact ho.off k b y hy g (by rw [← e]; exact h1) h2
      · rw [e] at h1
        injection h1 with h1
        have := ((ho.dat k b y hy).lt g h2).2
        omega
    · rcases hloc with e | e
      · have := hC g (.inl (by rw [← e]; exact h1))
        have := (lo b y hy g h2).1
        omega
      · rw [e] at h1
        injection h1 with h1
        have := (lo b y hy g h2).2
        omega
end Go.Proofs.YtcflepnckjappaaGreat

namespace Go.Proofs.YtcflepnckjappaaGreat
open Go.RowKit

/-- A slice that has room for what it has; a nil one has none. -/
def Cap (s : Sl) : Prop := s.n ≤ s.c ∧ (s.a = none → s.c = 0)
/-- Versions as they read. -/
structure VzIn (w : World) (l f s : Sl) (hs : List SeH) (d : VsD) : Prop where
  vr : VRow w l.a l.n d.list
  fr : FRow w f.a f.n d.fen
  sr : SeIn w (.slice s.a s.n s.c) s.n hs
  ss : hs.map (·.X) = d.ses
  cl : Cap l
  cf : Cap f
  cw : ∀ h ∈ hs, Cap h.s0
theorem VzIn.below {w w' : World} {l f s : Sl} {hs : List SeH} {d : VsD} (h : VzIn w l f s hs d) (hb : Below w.heap.size w w') : VzIn w' l f s hs d :=
  ⟨h.vr.below hb, h.fr.below hb, h.sr.below hb, h.ss, h.cl, h.cf, h.cw⟩
theorem VzIn.len {w : World} {l f s : Sl} {hs : List SeH} {d : VsD} (h : VzIn w l f s hs d) : hs.length = s.n ∧ hs.length = d.ses.length := by
  have h1 := h.sr.len
  rw [List.length_map] at h1
  exact ⟨h1, by rw [← h.ss, List.length_map]⟩
theorem VzIn.at {w : World} {l f s : Sl} {hs : List SeH} {d : VsD} (h : VzIn w l f s hs d) {i : Nat} (hi : i < hs.length) : ∃ hd : i < d.ses.length, hs[i].X = d.ses[i] := by
  have e := h.ss
  have hl := h.len.2
  refine ⟨by omega, ?_⟩
  have : (hs.map (·.X))[i]'(by simpa using hi) = d.ses[i]'(by omega) := by simp only [e]
  simpa using this
theorem SeIn.row {w : World} {v : Value} {n : Nat} {hs : List SeH} (h : SeIn w v n hs) {k : Nat} (hk : k < hs.length) : VRow w hs[k].s0.a hs[k].s0.n hs[k].X.ws := vrow_C (SeIn.sub h hk)
/-- Versions in memory of their own. -/
structure VzOwn (w : World) (B : Nat) (l f s : Sl) (hs : List SeH) (d : VsD) : Prop where
  vo : VOwns w B (.slice l.a l.n l.c) d.list
  fo : FOwns w B (.slice f.a f.n f.c) d.fen
  so : SeOwn w B (.slice s.a s.n s.c) hs
  ss : hs.map (·.X) = d.ses
  far : ∀ i, (Value.slice l.a l.n l.c).ownBlock = some i → ¬ NBl (.slice s.a s.n s.c) (hs.map seEl) i
theorem cap_of_owns {w : World} {B e t n : Nat} {s : Sl} {cs : List Value} (h : w.ownsRow B e t (.slice s.a s.n s.c) n cs) : Cap s := by
  obtain ⟨a, m, c⟩ := s
  rcases h.2 with ⟨e, _⟩ | ⟨g, cap, cur, e, hb, hh, hc, _⟩
  · injection e with e1 e2 e3
    subst e1 e2 e3
    exact ⟨Nat.le_refl _, fun _ => rfl⟩
  · injection e with e1 e2 e3
    subst e1 e2 e3
    exact ⟨hc, fun h => by cases h⟩
theorem owns_n {w : World} {B e t n m c : Nat} {a : Option Addr} {cs : List Value} (h : w.ownsRow B e t (.slice a m c) n cs) : m = n := by
  rcases h.2 with ⟨e, hn⟩ | ⟨g, cap, cur, e, _⟩
  · injection e with _ e2 _; omega
  · injection e
theorem VzOwn.reads {w : World} {B : Nat} {l f s : Sl} {hs : List SeH} {d : VsD} (h : VzOwn w B l f s hs d) : VzIn w l f s hs d :=
  ⟨vrow_of_owns h.vo, frow_of_owns h.fo, by have := h.so.reads; rw [← owns_n h.so.row] at this; exact this, h.ss, cap_of_owns h.vo, cap_of_owns h.fo, fun x hx => by
    obtain ⟨k, hk, rfl⟩ := List.getElem_of_mem hx
    exact cap_of_owns (h.so.dat k 0 _ (by unfold sbAt; rw [seEl_at hk]; rfl))⟩
theorem VzOwn.below {w w' : World} {B : Nat} {l f s : Sl} {hs : List SeH} {d : VsD} (h : VzOwn w B l f s hs d) (hb : Below w.heap.size w w') : VzOwn w' B l f s hs d :=
  ⟨rb_ownsRow_below h.vo hb, rb_ownsRow_below h.fo hb, h.so.below hb, h.ss, h.far⟩
theorem VzOwn.dn {w : World} {B C : Nat} {l f s : Sl} {hs : List SeH} {d : VsD} (h : VzOwn w B l f s hs d) (hc : C ≤ B) : VzOwn w C l f s hs d :=
  ⟨gd_base h.vo hc, gd_base h.fo hc, h.so.down hc, h.ss, h.far⟩
/-- The box of versions that a call is given. -/
abbrev vzC (next : Int) (l f s : Sl) : Array Value := #[.int .i64 next, .slice l.a l.n l.c, .slice f.a f.n f.c, .slice s.a s.n s.c]
end Go.Proofs.YtcflepnckjappaaGreat

namespace Go.Proofs.YtcflepnckjappaaGreat
open Go.RowKit

end Go.Proofs.YtcflepnckjappaaGreat

namespace Go.Proofs.YtcflepnckjappaaGreat
open Go.RowKit

theorem twoBx {w : World} {c1 c2 : Array Value} {t1 t2 : TypeId} {W : World} (hW : W = (w.alloc (.cells c1 t1)).alloc (.cells c2 t2)) :
    Below w.heap.size w W ∧ W.heap[w.heap.size]? = some (.cells c1 t1 (0, 0)) ∧ W.heap[w.heap.size + 1]? = some (.cells c2 t2 (0, 0)) ∧ W.heap.size = w.heap.size + 1 + 1 := by
  subst hW
  refine ⟨((Below.refl _ _).alloc (Nat.le_refl _) _).alloc (by simp) _, (((Below.refl _ _).alloc (Nat.le_refl _) _).block w.heap.size (by simp)).trans (heap_alloc_new _ _), ?_, by simp⟩
  have e : w.heap.size + 1 = (w.alloc (.cells c1 t1)).heap.size := by simp
  rw [e]
  exact heap_alloc_new _ _
end Go.Proofs.YtcflepnckjappaaGreat

namespace Go.Proofs.YtcflepnckjappaaGreat
open Go.RowKit

theorem v_slice {w : World} {B : Nat} {v : Value} {n : Nat} {t s : Nat} {cs : List Value} (h : w.ownsRow B t s v n cs) : ∃ l : Sl, v = .slice l.a l.n l.c ∧ l.n = n := by
  obtain ⟨a, c, e⟩ := us_sl h
  exact ⟨⟨a, n, c⟩, e, rfl⟩
/-- What the first statement of l06Own has made. -/
structure OvSt (W u : World) (d : VsD) (sv sf : Option (Value × Bool)) (tb : Option Nat) : Prop where
  bel : Below W.heap.size W u
  v : ∀ x b, sv = some (x, b) → x ≠ .slice none 0 0 ∧ VOwns u W.heap.size x (if b then d.list else [])
  f : ∀ x b, sf = some (x, b) → x ≠ .slice none 0 0 ∧ FOwns u W.heap.size x (if b then d.fen else [])
  t : ∀ b, tb = some b → W.heap.size ≤ b ∧ u.heap[b]? = some (.cells #[.int .i64 0, .slice none 0 0, .slice none 0 0, .slice none 0 0] 29 (0, 0))
theorem OvSt.step {W u u' : World} {d : VsD} {sv sf : Option (Value × Bool)} {tb : Option Nat} (h : OvSt W u d sv sf tb) (hb : Below u.heap.size u u') : OvSt W u' d sv sf tb :=
  ⟨h.bel.trans (hb.mono h.bel.size), fun x b e => ⟨(h.v x b e).1, rb_ownsRow_below (h.v x b e).2 hb⟩, fun x b e => ⟨(h.f x b e).1, rb_ownsRow_below (h.f x b e).2 hb⟩, fun b e => ⟨(h.t b e).1, (hb.block b (blk_lt (h.t b e).2)).trans (h.t b e).2⟩⟩
theorem OvSt.litV {W u : World} {d : VsD} {sf : Option (Value × Bool)} {tb : Option Nat} (h : OvSt W u d none sf tb) : OvSt W (u.alloc (.cells #[] 51)) d (some (.slice (some ⟨u.heap.size, 0, none⟩) 0 0, false)) sf tb := by
  have s := h.step ((Below.refl u.heap.size u).alloc (Nat.le_refl _) (.cells #[] 51))
  refine ⟨s.bel, fun v b e => ?_, s.f, s.t⟩
  injection e with e
  injection e with e1 e2
  subst e1 e2
  exact ⟨by simp, gd_base (nil_lit (w := u) 51 4) h.bel.size⟩
theorem OvSt.litF {W u : World} {d : VsD} {sv : Option (Value × Bool)} {tb : Option Nat} (h : OvSt W u d sv none tb) : OvSt W (u.alloc (.cells #[] 232)) d sv (some (.slice (some ⟨u.heap.size, 0, none⟩) 0 0, false)) tb := by
  have s := h.step ((Below.refl u.heap.size u).alloc (Nat.le_refl _) (.cells #[] 232))
  refine ⟨s.bel, s.v, fun v b e => ?_, s.t⟩
  injection e with e
  injection e with e1 e2
  subst e1 e2
  exact ⟨by simp, gd_base (nil_lit (w := u) 232 3) h.bel.size⟩
theorem OvSt.litT {W u : World} {d : VsD} {sv sf : Option (Value × Bool)} (h : OvSt W u d sv sf none) : OvSt W (u.alloc (.cells #[.int .i64 0, .slice none 0 0, .slice none 0 0, .slice none 0 0] 29)) d sv sf (some u.heap.size) := by
  have s := h.step ((Below.refl u.heap.size u).alloc (Nat.le_refl _) (.cells #[.int .i64 0, .slice none 0 0, .slice none 0 0, .slice none 0 0] 29))
  refine ⟨s.bel, s.v, s.f, fun b e => ?_⟩
  injection e with e
  subst e
  exact ⟨h.bel.size, heap_alloc_new _ _⟩
theorem OvSt.appV {W u : World} {d : VsD} {v : Value} {sf : Option (Value × Bool)} {tb : Option Nat} (h : OvSt W u d (some (v, false)) sf tb) {l : Sl} (hR : VRow W l.a l.n d.list) (hn : l.n ≤ 1000000) (hc : Cap l) :
    ∃ g k u', (Builtin.append_ #[25, 25] 25 #[v, .slice l.a l.n l.c]).run Tryz.prog u = .ok (.slice (some ⟨g, 0, none⟩) l.n k) u' ∧ OvSt W u' d (some (.slice (some ⟨g, 0, none⟩) l.n k, true)) sf tb := by
  obtain ⟨hv, ho⟩ := h.v v false rfl
  obtain ⟨g, k, u', hr, ho', hg, -⟩ := v_appS (c := l.c) 25 ho hv (hR.below h.bel) hc.2 (by simp; omega) h.bel.size
  have hw := WrB.of_grown hg
  simp only [Bool.false_eq_true, if_false, List.length_nil, Nat.zero_add, List.nil_append] at hr ho'
  refine ⟨g, k, u', hr, ⟨h.bel.trans (WrB.below hw (fun i hi => (ho.lt i hi).1) h.bel.size), fun x b e => ?_, fun x b e => ⟨(h.f x b e).1, rr_owns_wr (h.f x b e).2 hw (fun i hi => own_other (h.f x b e).2 ho (by decide) hi)⟩, fun b e => ⟨(h.t b e).1, (hw.block b (blk_lt (h.t b e).2) (own_box ho (h.t b e).2 (by decide))).trans (h.t b e).2⟩⟩⟩
  injection e with e
  injection e with e1 e2
  subst e1 e2
  exact ⟨by simp, ho'⟩
theorem OvSt.appF {W u : World} {d : VsD} {v : Value} {sv : Option (Value × Bool)} {tb : Option Nat} (h : OvSt W u d sv (some (v, false)) tb) {l : Sl} (hR : FRow W l.a l.n d.fen) (hn : l.n ≤ 1000000) (hc : Cap l) :
    ∃ g k u', (Builtin.append_ #[26, 26] 26 #[v, .slice l.a l.n l.c]).run Tryz.prog u = .ok (.slice (some ⟨g, 0, none⟩) l.n k) u' ∧ OvSt W u' d sv (some (.slice (some ⟨g, 0, none⟩) l.n k, true)) tb := by
  obtain ⟨hv, ho⟩ := h.f v false rfl
  obtain ⟨g, k, u', hr, ho', hg, -⟩ := f_appS (c := l.c) 26 ho hv (hR.below h.bel) hc.2 (by simp; omega) h.bel.size
  have hw := WrB.of_grown hg
  simp only [Bool.false_eq_true, if_false, List.length_nil, Nat.zero_add, List.nil_append] at hr ho'
  refine ⟨g, k, u', hr, ⟨h.bel.trans (WrB.below hw (fun i hi => (ho.lt i hi).1) h.bel.size), fun x b e => ⟨(h.v x b e).1, rr_owns_wr (h.v x b e).2 hw (fun i hi => own_other (h.v x b e).2 ho (by decide) hi)⟩, fun x b e => ?_, fun b e => ⟨(h.t b e).1, (hw.block b (blk_lt (h.t b e).2) (own_box ho (h.t b e).2 (by decide))).trans (h.t b e).2⟩⟩⟩
  injection e with e
  injection e with e1 e2
  subst e1 e2
  exact ⟨by simp, ho'⟩
/-- Versions under way. -/
structure VgSt (wr : World) (B tb : Nat) (next : Int) (l f s : Sl) (hs : List SeH) (ls : List VerD) (fs : List FenD) : Prop where
  vo : VOwns wr B (.slice l.a l.n l.c) ls
  fo : FOwns wr B (.slice f.a f.n f.c) fs
  so : SeOwn wr B (.slice s.a s.n s.c) hs
  far : ∀ i, (Value.slice l.a l.n l.c).ownBlock = some i → ¬ NBl (.slice s.a s.n s.c) (hs.map seEl) i
  box : wr.heap[tb]? = some (.cells (vzC next l f s) 29 (0, 0))
  tge : B ≤ tb
theorem VgSt.below {w w' : World} {B tb : Nat} {next : Int} {l f s : Sl} {hs : List SeH} {ls : List VerD} {fs : List FenD} (h : VgSt w B tb next l f s hs ls fs) (hb : Below w.heap.size w w') : VgSt w' B tb next l f s hs ls fs :=
  ⟨rb_ownsRow_below h.vo hb, rb_ownsRow_below h.fo hb, h.so.below hb, h.far, (hb.block tb (blk_lt h.box)).trans h.box, h.tge⟩
theorem ses_none {v : Value} {i : Nat} (hv : v.ownBlock = none) : ¬ NBl v ([].map seEl) i := fun h => by
  rcases h with h | ⟨k, a, x, hx, _⟩
  · rw [hv] at h; cases h
  · unfold sbAt at hx; simp at hx
/-- A row of records in memory of the call's own lies apart from a box of versions. -/
theorem se_box {w : World} {B n tb : Nat} {v : Value} {hs : List SeH} {cs : Array Value} {t : TypeId} (h : NOwn w B 212 3 v n (hs.map seEl)) (hb : w.heap[tb]? = some (.cells cs t (0, 0))) (h1 : 212 ≠ t) (h2 : 51 ≠ t) : ¬ NBl v (hs.map seEl) tb := fun hn => by
  rcases hn with hn | ⟨k, a, x, hx, hi⟩
  · exact own_box h.row hb h1 hn
  · have ht : x.t = 51 := by
      obtain ⟨e, he, hxe⟩ := sbAt_mem hx
      obtain ⟨y, _, rfl⟩ := List.mem_map.1 he
      rw [List.mem_singleton.1 hxe]
    have hd := h.dat k a x hx
    rw [ht] at hd
    exact own_box hd hb h2 hi
theorem VgSt.store {u : World} {tb : Nat} {d : VsD} {next : Int} {vl vf : Value} {W : World} (h : OvSt W u d (some (vl, true)) (some (vf, true)) (some tb)) :
    ∃ l f : Sl, vl = .slice l.a l.n l.c ∧ vf = .slice f.a f.n f.c ∧ VgSt ((((u.setCell ⟨tb, 0, none⟩ (.int .i64 next)).setCell ⟨tb, 1, none⟩ vl).setCell ⟨tb, 2, none⟩ vf).setCell ⟨tb, 3, none⟩ (.slice none 0 0)) W.heap.size tb next l f ⟨none, 0, 0⟩ [] d.list d.fen ∧ Below W.heap.size W ((((u.setCell ⟨tb, 0, none⟩ (.int .i64 next)).setCell ⟨tb, 1, none⟩ vl).setCell ⟨tb, 2, none⟩ vf).setCell ⟨tb, 3, none⟩ (.slice none 0 0)) := by
  obtain ⟨-, hv⟩ := h.v vl true rfl
  obtain ⟨-, hf⟩ := h.f vf true rfl
  obtain ⟨ht, hk⟩ := h.t tb rfl
  obtain ⟨l, rfl, -⟩ := v_slice hv
  obtain ⟨f, rfl, -⟩ := v_slice hf
  have hW : WrB (fun i => i = tb) u ((((u.setCell ⟨tb, 0, none⟩ (.int .i64 next)).setCell ⟨tb, 1, none⟩ (.slice l.a l.n l.c)).setCell ⟨tb, 2, none⟩ (.slice f.a f.n f.c)).setCell ⟨tb, 3, none⟩ (.slice none 0 0)) := (set1_wr u tb 0 _).seq ((set1_wr _ tb 1 _).seq ((set1_wr _ tb 2 _).seq (set1_wr _ tb 3 _)))
  refine ⟨l, f, rfl, rfl, ⟨own_keep hv hk (by decide) hW, own_keep hf hk (by decide) hW, NOwn.flat (World.ownsRow_nil _ _ _ _) rfl (fun e he => by cases he) (fun e he => by cases he), fun i _ => ses_none rfl, ?_, ht⟩, h.bel.trans (WrB.below hW (fun i e => by omega) h.bel.size)⟩
  have h1 := heap_set hk 0 (.int .i64 next)
  have h2 := heap_set h1 1 (.slice l.a l.n l.c)
  have h3 := heap_set h2 2 (.slice f.a f.n f.c)
  have h4 := heap_set h3 3 (.slice none 0 0)
  simpa using h4
set_option maxRecDepth 100000 in
/-- A session appended. -/
theorem VgSt.ses {wr u : World} {B tb : Nat} {next : Int} {l f s : Sl} {hs : List SeH} {ls : List VerD} {fs : List FenD} (h : VgSt wr B tb next l f s hs ls fs) (hb : Below wr.heap.size wr u) (x : SeH) (hx : VOwns u wr.heap.size (.slice x.s0.a x.s0.n x.s0.c) x.X.ws) (hz : hs.length ≤ 1000) (hB : B ≤ wr.heap.size) :
    ∃ s' : Sl, ∃ w5, s'.n = hs.length + 1 ∧ (Builtin.append_ #[27, 27] 27 #[.slice s.a s.n s.c, .slice (some ⟨u.heap.size, 0, none⟩) 1 1]).run Tryz.prog (u.alloc (.cells #[.bool x.X.o, .int .i64 x.X.t, .slice x.s0.a x.s0.n x.s0.c] 212)) = .ok (.slice s'.a s'.n s'.c) w5 ∧
      VgSt (w5.setCell ⟨tb, 3, none⟩ (.slice s'.a s'.n s'.c)) B tb next l f s' (hs ++ [x]) ls fs ∧ Below B wr (w5.setCell ⟨tb, 3, none⟩ (.slice s'.a s'.n s'.c)) ∧ w5.heap[tb]? = some (.cells (vzC next l f s) 29 (0, 0)) ∧ ∀ i, i < B → w5.heap[i]? = wr.heap[i]? := by
  have hu := h.below hb
  obtain ⟨i0, hi0, hz0, hz1, hz2⟩ := info_parts Tryz.infoSe
  have hlt : ∀ i, NBl (.slice s.a s.n s.c) (hs.map seEl) i → i < wr.heap.size := fun i hi => (h.so.lt i hi).2
  obtain ⟨v', w5, hrun, hN, hg, -⟩ := NOwn.app (e := seEl x) (C := wr.heap.size) 27 Tryz.underlying27 hi0 hz0 hz1 hz2 rfl (by decide) (by decide) hu.so rfl (by intro y hy; simp only [seEl, List.mem_cons, List.not_mem_nil, or_false] at hy; rcases hy with rfl | rfl | rfl <;> rfl) (fun y hy => by rw [List.mem_singleton.1 hy]; exact hx) hlt hB (fun a b y z hy hz' hab => by
    match a, hy, b, hz' with
    | 0, _, 0, _ => exact absurd rfl hab
    | a + 1, hy, _, _ => cases hy
    | 0, _, b + 1, hz' => cases hz') (by omega) (Nat.le_trans hB hb.size)
  obtain ⟨s', rfl, hs'⟩ := v_slice hN.row
  have bA : Below u.heap.size u (u.alloc (.cells (seEl x).hd.toArray 212)) := (Below.refl _ _).alloc (Nat.le_refl _) _
  have hA := hu.below bA
  have hw := WrB.of_grown hg
  have k5 : w5.heap[tb]? = some (.cells (vzC next l f s) 29 (0, 0)) := (hw.block tb (blk_lt hA.box) (own_box hA.so.row hA.box (by decide))).trans hA.box
  have b5 : Below B wr w5 := ((hb.trans (bA.mono hb.size)).mono hB).trans (WrB.below hw (fun i hi => (hA.so.row.lt i hi).1) (Nat.le_trans hB (hb.trans (bA.mono hb.size)).size))
  have v5 : VOwns w5 B (.slice l.a l.n l.c) ls := rr_owns_wr hA.vo hw (fun i hi e => hA.far i hi (.inl e))
  have f5 : FOwns w5 B (.slice f.a f.n f.c) fs := rr_owns_wr hA.fo hw (fun i hi => own_other hA.fo hA.so.row (by decide) hi)
  have hN5 : SeOwn w5 B (.slice s'.a s'.n s'.c) (hs ++ [x]) := by
    have := hN
    rw [← List.map_singleton, ← List.map_append] at this
    rw [show hs.length + 1 = (hs ++ [x]).length by simp] at this
    exact this
  have hS := set1_wr w5 tb 3 (.slice s'.a s'.n s'.c)
  refine ⟨s', w5, hs', hrun, ⟨own_keep v5 k5 (by decide) hS, own_keep f5 k5 (by decide) hS, hN5.keep hS (fun i hi e => by subst e; exact se_box hN5 k5 (by decide) (by decide) hi), fun i hi hn => ?_, ?_, h.tge⟩, b5.trans (WrB.below hS (fun i e => by rw [e]; exact h.tge) (Nat.le_trans hB b5.size)), k5, fun i hi => b5.block i hi⟩
  · rcases hn with hn | ⟨k, a, y, hy, hn⟩
    · exact own_other v5 hN5.row (by decide) hi hn
    · rw [List.map_append] at hy
      rcases sbAt_snoc hy with ⟨_, hy⟩ | ⟨_, hy⟩
      · exact h.far i hi (.inr ⟨k, a, y, hy, hn⟩)
      · have h1 := (h.vo.lt i hi).2
        have h2 : y.v = .slice x.s0.a x.s0.n x.s0.c := by
          match a, hy with
          | 0, hy => injection hy with hy; rw [← hy]
          | a + 1, hy => cases hy
        rw [h2] at hn
        have h3 := (hx.lt i hn).1
        omega
  · have h1 := heap_set k5 3 (.slice s'.a s'.n s'.c)
    simpa using h1
def OvRes (d : VsD) (w : World) (e : Ending) (w' : World) : Prop := ∃ l f s hs, e = .returned (.agg (vzC d.next l f s)) ∧ VzOwn w' w.heap.size l f s hs d ∧ Below w.heap.size w w'
theorem VzOwn.wr {w w' : World} {B : Nat} {l f s : Sl} {hs : List SeH} {d : VsD} (h : VzOwn w B l f s hs d) {P : Nat → Prop} (hw : WrB P w w') (hP : ∀ i, P i → i < B) : VzOwn w' B l f s hs d :=
  ⟨rr_owns_wr h.vo hw (fun i hi e => by have := (h.vo.lt i hi).1; have := hP i e; omega), rr_owns_wr h.fo hw (fun i hi e => by have := (h.fo.lt i hi).1; have := hP i e; omega), h.so.keep hw (fun i hi e => by have := (h.so.lt i hi).1; have := hP i e; omega), h.ss, h.far⟩
theorem set4_wr (w : World) (b : Nat) (v0 v1 v2 v3 : Value) : WrB (fun i => i = b) w ((((w.setCell ⟨b, 0, none⟩ v0).setCell ⟨b, 1, none⟩ v1).setCell ⟨b, 2, none⟩ v2).setCell ⟨b, 3, none⟩ v3) := (set1_wr w b 0 v0).seq ((set1_wr _ b 1 v1).seq ((set1_wr _ b 2 v2).seq (set1_wr _ b 3 v3)))
set_option maxRecDepth 100000 in
set_option maxHeartbeats 8000000 in
theorem l06Own_any (d : VsD) (l f s : Sl) (hs : List SeH) (w : World) (hI : VzIn w l f s hs d) (hln : l.n ≤ 1000000) (hfn : f.n ≤ 1000000) (hsn : s.n ≤ 1000) (hwn : ∀ h ∈ hs, h.s0.n ≤ 1048576) :
    Calls Tryz.prog 55 #[.agg (vzC d.next l f s)] w fun e w' => OvRes d w e w' := by
  obtain ⟨W, hW⟩ : ∃ W, W = (w.alloc (.cells (vzC d.next l f s) 29)).alloc (.cells #[.int .i64 0, .slice none 0 0, .slice none 0 0, .slice none 0 0] 29) := ⟨_, rfl⟩
  obtain ⟨b1, kv, kr, hz⟩ := twoBx hW
  have HI := hide (hI.below b1)
  have LN := hide hI.len
  have RV := hide (hI.vr.below b1)
  have RF := hide (hI.fr.below b1)
  have CL := hide hI.cl
  have CF := hide hI.cf
  have CW := hide hI.cw
  have SN := hide hwn
  have hz1 : w.heap.size < W.heap.size := by omega
  have hz2 : w.heap.size + 1 < W.heap.size := by omega
  have KV := hide kv
  have KR := hide kr
  have BH := hide b1
  have HW := hide hW
  have S0 := hide (show OvSt W W.drew d none none none from ⟨(Below.refl _ _).drew, fun _ _ e => (by cases e), fun _ _ e => (by cases e), fun _ e => (by cases e)⟩)
  have SSD := hide hI.ss
  clear hI hwn b1 kv kr hz hW
  obtain ⟨la, ln, lc⟩ := l
  obtain ⟨fa, fn, fc⟩ := f
  obtain ⟨sa, sn, sc⟩ := s
  unfold vzC at *
  simp only at hln hfn hsn KV HW LN RV RF ⊢
  have e0 := (heap_at (unhide KV) 0).1
  have e1 := (heap_at (unhide KV) 1).1
  have e2 := (heap_at (unhide KV) 2).1
  go_enter Tryz.func55, Tryz.ntmps55
  go_upto_region 1 with fail
  rw [← unhide HW]
  clear HW
  go_cut [3] (fun v wc => ∃ (tb : Nat) (l' f' : Sl), v = .pointer (some ⟨tb, 0, none⟩) ∧ Hid (VgSt wc W.heap.size tb d.next l' f' ⟨none, 0, 0⟩ [] d.list d.fen) ∧ Hid (Below W.heap.size W wc))
  case first =>
    have SK := hide (show ∀ u, Below W.heap.size W u → u.cell? ⟨w.heap.size, 0, none⟩ = some (.int .i64 d.next) ∧ u.cell? ⟨w.heap.size, 1, none⟩ = some (.slice la ln lc) ∧ u.cell? ⟨w.heap.size, 2, none⟩ = some (.slice fa fn fc) from fun u hu => ⟨(hu.cell (p := ⟨w.heap.size, 0, none⟩) hz1).trans e0, (hu.cell (p := ⟨w.heap.size, 1, none⟩) hz1).trans e1, (hu.cell (p := ⟨w.heap.size, 2, none⟩) hz1).trans e2⟩)
    clear e0 e1 e2
    refine wp_region_held_drew (S := (fun u => u.cell? ⟨w.heap.size, 0, none⟩ = some (.int .i64 d.next) ∧ u.cell? ⟨w.heap.size, 1, none⟩ = some (.slice la ln lc) ∧ u.cell? ⟨w.heap.size, 2, none⟩ = some (.slice fa fn fc))) (by kernel_rfl) (unhide SK _ (unhide S0).bel) (fun hHeld => ?_)
    have T0 := S0
    clear S0
    generalize W.drew = u0 at *
    refine anyH_take 0 6 (v := ?v1) rfl rfl (by kernel_rfl) (by kernel_rfl) (by kernel_rfl) (fun _ _ _ h => h) (by rfl) ?h1 hHeld ?r1
    case h1 => (intro w hSw; (try dsimp only at hSw); go_simp; try (with_reducible rfl))
    simp only [Act.put, List.setIfInBounds_toArray, List.set_cons_zero, List.set_cons_succ]
    refine anyH_take 1 7 (v := ?v2) rfl rfl (by kernel_rfl) (by kernel_rfl) (by kernel_rfl) (fun _ _ _ h => h) (by rfl) ?h2 hHeld ?r2
    case h2 => (intro w hSw; (try dsimp only at hSw); go_simp; try (with_reducible rfl))
    simp only [Act.put, List.setIfInBounds_toArray, List.set_cons_zero, List.set_cons_succ]
    refine anyH_take 3 9 (v := ?v3) rfl rfl (by kernel_rfl) (by kernel_rfl) (by kernel_rfl) (fun _ _ _ h => h) (by rfl) ?h3 hHeld ?r3
    case h3 => (intro w hSw; (try dsimp only at hSw); go_simp; try (with_reducible rfl))
    simp only [Act.put, List.setIfInBounds_toArray, List.set_cons_zero, List.set_cons_succ]
    refine anyH_take 4 10 (v := ?v4) rfl rfl (by kernel_rfl) (by kernel_rfl) (by kernel_rfl) (fun _ _ _ h => h) (by rfl) ?h4 hHeld ?r4
    case h4 => (intro w hSw; (try dsimp only at hSw); go_simp; try (with_reducible rfl))
    simp only [Act.put, List.setIfInBounds_toArray, List.set_cons_zero, List.set_cons_succ]
    refine anyH_take 7 13 (v := ?v5) rfl rfl (by kernel_rfl) (by kernel_rfl) (by kernel_rfl) (fun _ _ _ h => h) (by rfl) ?h5 hHeld ?r5
    case h5 => (intro w hSw; (try dsimp only at hSw); go_simp; try (with_reducible rfl))
    simp only [Act.put, List.setIfInBounds_toArray, List.set_cons_zero, List.set_cons_succ]
    refine anyH_take 8 14 (v := ?v6) rfl rfl (by kernel_rfl) (by kernel_rfl) (by kernel_rfl) (fun _ _ _ h => h) (by rfl) ?h6 hHeld ?r6
    case h6 => (intro w hSw; (try dsimp only at hSw); go_simp; try (with_reducible rfl))
    simp only [Act.put, List.setIfInBounds_toArray, List.set_cons_zero, List.set_cons_succ]
    refine wpAnyH_ready (rs := [2, 6, 11]) (by kernel_rfl) (by simp) ?_
    refine AllReadyH.cons rfl (fun K hK => ?_) (AllReadyH.cons rfl (fun K hK => ?_) (AllReadyH.cons rfl (fun K hK => ?_) AllReadyH.nil))
    · have T2 := hide (unhide T0).litV
      go_simp
      generalize u0.alloc (.cells #[] 51) = u2 at *
      generalize u0.heap.size = g5 at *
      refine hK.out _ _ (unhide SK _ (unhide T2).bel) (fun hHeld => ?_)
      clear hK K
      refine wpAnyH_ready (rs := [5, 6, 11]) (by kernel_rfl) (by simp) ?_
      refine AllReadyH.cons rfl (fun K hK => ?_) (AllReadyH.cons rfl (fun K hK => ?_) (AllReadyH.cons rfl (fun K hK => ?_) AllReadyH.nil))
      · obtain ⟨g8, k8, u2_5, hr, hs8⟩ := (unhide T2).appV (l := ⟨la, ln, lc⟩) (unhide RV) hln (unhide CL)
        have T2_5 := hide hs8
        clear hs8
        refine us_stepApp rfl (.tmp 8) (.tmp 10) 25 rfl _ _ (.slice (some ⟨g8, 0, none⟩) ln k8) u2_5 (by first | rfl | (simp [Act.eval]; done) | (simp [Act.eval, Act.put]; done)) (by first | rfl | (simp [Act.eval]; done) | (simp [Act.eval, Act.put]; done)) hr ?_
        clear hr
        refine hK.out _ _ (unhide SK _ (unhide T2_5).bel) (fun hHeld => ?_)
        clear hK K
        refine wpAnyH_ready (rs := [6, 11]) (by kernel_rfl) (by simp) ?_
        refine AllReadyH.cons rfl (fun K hK => ?_) (AllReadyH.cons rfl (fun K hK => ?_) AllReadyH.nil)
        · have T2_5_6 := hide (unhide T2_5).litF
          go_simp
          generalize u2_5.alloc (.cells #[] 232) = u2_5_6 at *
          generalize u2_5.heap.size = g9 at *
          refine hK.out _ _ (unhide SK _ (unhide T2_5_6).bel) (fun hHeld => ?_)
          clear hK K
          refine wpAnyH_ready (rs := [9, 11]) (by kernel_rfl) (by simp) ?_
          refine AllReadyH.cons rfl (fun K hK => ?_) (AllReadyH.cons rfl (fun K hK => ?_) AllReadyH.nil)
          · obtain ⟨g12, k12, u2_5_6_9, hr, hs8⟩ := (unhide T2_5_6).appF (l := ⟨fa, fn, fc⟩) (unhide RF) hfn (unhide CF)
            have T2_5_6_9 := hide hs8
            clear hs8
            refine us_stepApp rfl (.tmp 12) (.tmp 14) 26 rfl _ _ (.slice (some ⟨g12, 0, none⟩) fn k12) u2_5_6_9 (by first | rfl | (simp [Act.eval]; done) | (simp [Act.eval, Act.put]; done)) (by first | rfl | (simp [Act.eval]; done) | (simp [Act.eval, Act.put]; done)) hr ?_
            clear hr
            refine hK.out _ _ (unhide SK _ (unhide T2_5_6_9).bel) (fun hHeld => ?_)
            clear hK K
            refine anyH_take 10 16 (v := ?v7) rfl rfl (by kernel_rfl) (by kernel_rfl) (by kernel_rfl) (fun _ _ _ h => h) (by rfl) ?h7 hHeld ?r7
            case h7 => (intro w hSw; (try dsimp only at hSw); go_simp; try (with_reducible rfl))
            simp only [Act.put, List.setIfInBounds_toArray]
            refine wpAnyH_ready (rs := [11]) (by kernel_rfl) (by simp) ?_
            refine AllReadyH.cons rfl (fun K hK => ?_) AllReadyH.nil
            have T2_5_6_9_11 := hide (unhide T2_5_6_9).litT
            go_simp
            generalize u2_5_6_9.alloc (.cells #[.int .i64 0, .slice none 0 0, .slice none 0 0, .slice none 0 0] 29) = u2_5_6_9_11 at *
            generalize u2_5_6_9.heap.size = tb at *
            refine hK.out _ _ (unhide SK _ (unhide T2_5_6_9_11).bel) (fun hHeld => ?_)
            clear hK K
            refine wpAnyH_ready (rs := [12]) (by kernel_rfl) (by simp) ?_
            refine AllReadyH.cons rfl (fun K hK => ?_) AllReadyH.nil
            obtain ⟨l', f', e1, e2, hT3, hb3⟩ := VgSt.store (next := d.next) (unhide T2_5_6_9_11)
            have y0 := (heap_at ((unhide T2_5_6_9_11).t tb rfl).2 0).1
            have y1 := (heap_at ((unhide T2_5_6_9_11).t tb rfl).2 1).1
            have y2 := (heap_at ((unhide T2_5_6_9_11).t tb rfl).2 2).1
            have y3 := (heap_at ((unhide T2_5_6_9_11).t tb rfl).2 3).1
            have x0 := (heap_at ((unhide T2_5_6_9_11).t tb rfl).2 0).2
            have x1 := (heap_at ((unhide T2_5_6_9_11).t tb rfl).2 1).2
            have x2 := (heap_at ((unhide T2_5_6_9_11).t tb rfl).2 2).2
            have x3 := (heap_at ((unhide T2_5_6_9_11).t tb rfl).2 3).2
            have TF := hide hT3
            have BF := hide hb3
            clear hT3 hb3 e1 e2
            go_simp
            refine hK.out _ _ (unhide SK _ (unhide BF)) (fun hHeld => ?_)
            clear hK K
            refine wpAnyH_done (by kernel_rfl) ?_ _
            go_wp2_with fail
            go_meet
            case rel => exact ⟨tb, l', f', rfl, TF, BF⟩
          · have T2_5_6_11 := hide (unhide T2_5_6).litT
            go_simp
            generalize u2_5_6.alloc (.cells #[.int .i64 0, .slice none 0 0, .slice none 0 0, .slice none 0 0] 29) = u2_5_6_11 at *
            generalize u2_5_6.heap.size = tb at *
            refine hK.out _ _ (unhide SK _ (unhide T2_5_6_11).bel) (fun hHeld => ?_)
            clear hK K
            refine wpAnyH_ready (rs := [9]) (by kernel_rfl) (by simp) ?_
            refine AllReadyH.cons rfl (fun K hK => ?_) AllReadyH.nil
            obtain ⟨g12, k12, u2_5_6_11_9, hr, hs8⟩ := (unhide T2_5_6_11).appF (l := ⟨fa, fn, fc⟩) (unhide RF) hfn (unhide CF)
            have T2_5_6_11_9 := hide hs8
            clear hs8
            refine us_stepApp rfl (.tmp 12) (.tmp 14) 26 rfl _ _ (.slice (some ⟨g12, 0, none⟩) fn k12) u2_5_6_11_9 (by first | rfl | (simp [Act.eval]; done) | (simp [Act.eval, Act.put]; done)) (by first | rfl | (simp [Act.eval]; done) | (simp [Act.eval, Act.put]; done)) hr ?_
            clear hr
            refine hK.out _ _ (unhide SK _ (unhide T2_5_6_11_9).bel) (fun hHeld => ?_)
            clear hK K
            refine anyH_take 10 16 (v := ?v8) rfl rfl (by kernel_rfl) (by kernel_rfl) (by kernel_rfl) (fun _ _ _ h => h) (by rfl) ?h8 hHeld ?r8
            case h8 => (intro w hSw; (try dsimp only at hSw); go_simp; try (with_reducible rfl))
            simp only [Act.put, List.setIfInBounds_toArray]
            refine wpAnyH_ready (rs := [12]) (by kernel_rfl) (by simp) ?_
            refine AllReadyH.cons rfl (fun K hK => ?_) AllReadyH.nil
            obtain ⟨l', f', e1, e2, hT3, hb3⟩ := VgSt.store (next := d.next) (unhide T2_5_6_11_9)
            have y0 := (heap_at ((unhide T2_5_6_11_9).t tb rfl).2 0).1
            have y1 := (heap_at ((unhide T2_5_6_11_9).t tb rfl).2 1).1
            have y2 := (heap_at ((unhide T2_5_6_11_9).t tb rfl).2 2).1
            have y3 := (heap_at ((unhide T2_5_6_11_9).t tb rfl).2 3).1
            have x0 := (heap_at ((unhide T2_5_6_11_9).t tb rfl).2 0).2
            have x1 := (heap_at ((unhide T2_5_6_11_9).t tb rfl).2 1).2
            have x2 := (heap_at ((unhide T2_5_6_11_9).t tb rfl).2 2).2
            have x3 := (heap_at ((unhide T2_5_6_11_9).t tb rfl).2 3).2
            have TF := hide hT3
            have BF := hide hb3
            clear hT3 hb3 e1 e2
            go_simp
            refine hK.out _ _ (unhide SK _ (unhide BF)) (fun hHeld => ?_)
            clear hK K
            refine wpAnyH_done (by kernel_rfl) ?_ _
            go_wp2_with fail
            go_meet
            case rel => exact ⟨tb, l', f', rfl, TF, BF⟩
        · have T2_5_11 := hide (unhide T2_5).litT
          go_simp
          generalize u2_5.alloc (.cells #[.int .i64 0, .slice none 0 0, .slice none 0 0, .slice none 0 0] 29) = u2_5_11 at *
          generalize u2_5.heap.size = tb at *
          refine hK.out _ _ (unhide SK _ (unhide T2_5_11).bel) (fun hHeld => ?_)
          clear hK K
          refine wpAnyH_ready (rs := [6]) (by kernel_rfl) (by simp) ?_
          refine AllReadyH.cons rfl (fun K hK => ?_) AllReadyH.nil
          have T2_5_11_6 := hide (unhide T2_5_11).litF
          go_simp
          generalize u2_5_11.alloc (.cells #[] 232) = u2_5_11_6 at *
          generalize u2_5_11.heap.size = g9 at *
          refine hK.out _ _ (unhide SK _ (unhide T2_5_11_6).bel) (fun hHeld => ?_)
          clear hK K
          refine wpAnyH_ready (rs := [9]) (by kernel_rfl) (by simp) ?_
          refine AllReadyH.cons rfl (fun K hK => ?_) AllReadyH.nil
          obtain ⟨g12, k12, u2_5_11_6_9, hr, hs8⟩ := (unhide T2_5_11_6).appF (l := ⟨fa, fn, fc⟩) (unhide RF) hfn (unhide CF)
          have T2_5_11_6_9 := hide hs8
          clear hs8
          refine us_stepApp rfl (.tmp 12) (.tmp 14) 26 rfl _ _ (.slice (some ⟨g12, 0, none⟩) fn k12) u2_5_11_6_9 (by first | rfl | (simp [Act.eval]; done) | (simp [Act.eval, Act.put]; done)) (by first | rfl | (simp [Act.eval]; done) | (simp [Act.eval, Act.put]; done)) hr ?_
          clear hr
          refine hK.out _ _ (unhide SK _ (unhide T2_5_11_6_9).bel) (fun hHeld => ?_)
          clear hK K
          refine anyH_take 10 16 (v := ?v9) rfl rfl (by kernel_rfl) (by kernel_rfl) (by kernel_rfl) (fun _ _ _ h => h) (by rfl) ?h9 hHeld ?r9
          case h9 => (intro w hSw; (try dsimp only at hSw); go_simp; try (with_reducible rfl))
          simp only [Act.put, List.setIfInBounds_toArray]
          refine wpAnyH_ready (rs := [12]) (by kernel_rfl) (by simp) ?_
          refine AllReadyH.cons rfl (fun K hK => ?_) AllReadyH.nil
          obtain ⟨l', f', e1, e2, hT3, hb3⟩ := VgSt.store (next := d.next) (unhide T2_5_11_6_9)
          have y0 := (heap_at ((unhide T2_5_11_6_9).t tb rfl).2 0).1
          have y1 := (heap_at ((unhide T2_5_11_6_9).t tb rfl).2 1).1
          have y2 := (heap_at ((unhide T2_5_11_6_9).t tb rfl).2 2).1
          have y3 := (heap_at ((unhide T2_5_11_6_9).t tb rfl).2 3).1
          have x0 := (heap_at ((unhide T2_5_11_6_9).t tb rfl).2 0).2
          have x1 := (heap_at ((unhide T2_5_11_6_9).t tb rfl).2 1).2
          have x2 := (heap_at ((unhide T2_5_11_6_9).t tb rfl).2 2).2
          have x3 := (heap_at ((unhide T2_5_11_6_9).t tb rfl).2 3).2
          have TF := hide hT3
          have BF := hide hb3
          clear hT3 hb3 e1 e2
          go_simp
          refine hK.out _ _ (unhide SK _ (unhide BF)) (fun hHeld => ?_)
          clear hK K
          refine wpAnyH_done (by kernel_rfl) ?_ _
          go_wp2_with fail
          go_meet
          case rel => exact ⟨tb, l', f', rfl, TF, BF⟩
      · have T2_6 := hide (unhide T2).litF
        go_simp
        generalize u2.alloc (.cells #[] 232) = u2_6 at *
        generalize u2.heap.size = g9 at *
        refine hK.out _ _ (unhide SK _ (unhide T2_6).bel) (fun hHeld => ?_)
        clear hK K
        refine wpAnyH_ready (rs := [5, 11]) (by kernel_rfl) (by simp) ?_
        refine AllReadyH.cons rfl (fun K hK => ?_) (AllReadyH.cons rfl (fun K hK => ?_) AllReadyH.nil)
        · obtain ⟨g8, k8, u2_6_5, hr, hs8⟩ := (unhide T2_6).appV (l := ⟨la, ln, lc⟩) (unhide RV) hln (unhide CL)
          have T2_6_5 := hide hs8
          clear hs8
          refine us_stepApp rfl (.tmp 8) (.tmp 10) 25 rfl _ _ (.slice (some ⟨g8, 0, none⟩) ln k8) u2_6_5 (by first | rfl | (simp [Act.eval]; done) | (simp [Act.eval, Act.put]; done)) (by first | rfl | (simp [Act.eval]; done) | (simp [Act.eval, Act.put]; done)) hr ?_
          clear hr
          refine hK.out _ _ (unhide SK _ (unhide T2_6_5).bel) (fun hHeld => ?_)
          clear hK K
          refine wpAnyH_ready (rs := [9, 11]) (by kernel_rfl) (by simp) ?_
          refine AllReadyH.cons rfl (fun K hK => ?_) (AllReadyH.cons rfl (fun K hK => ?_) AllReadyH.nil)
          · obtain ⟨g12, k12, u2_6_5_9, hr, hs8⟩ := (unhide T2_6_5).appF (l := ⟨fa, fn, fc⟩) (unhide RF) hfn (unhide CF)
            have T2_6_5_9 := hide hs8
            clear hs8
            refine us_stepApp rfl (.tmp 12) (.tmp 14) 26 rfl _ _ (.slice (some ⟨g12, 0, none⟩) fn k12) u2_6_5_9 (by first | rfl | (simp [Act.eval]; done) | (simp [Act.eval, Act.put]; done)) (by first | rfl | (simp [Act.eval]; done) | (simp [Act.eval, Act.put]; done)) hr ?_
            clear hr
            refine hK.out _ _ (unhide SK _ (unhide T2_6_5_9).bel) (fun hHeld => ?_)
            clear hK K
            refine anyH_take 10 16 (v := ?v10) rfl rfl (by kernel_rfl) (by kernel_rfl) (by kernel_rfl) (fun _ _ _ h => h) (by rfl) ?h10 hHeld ?r10
            case h10 => (intro w hSw; (try dsimp only at hSw); go_simp; try (with_reducible rfl))
            simp only [Act.put, List.setIfInBounds_toArray]
            refine wpAnyH_ready (rs := [11]) (by kernel_rfl) (by simp) ?_
            refine AllReadyH.cons rfl (fun K hK => ?_) AllReadyH.nil
            have T2_6_5_9_11 := hide (unhide T2_6_5_9).litT
            go_simp
            generalize u2_6_5_9.alloc (.cells #[.int .i64 0, .slice none 0 0, .slice none 0 0, .slice none 0 0] 29) = u2_6_5_9_11 at *
            generalize u2_6_5_9.heap.size = tb at *
            refine hK.out _ _ (unhide SK _ (unhide T2_6_5_9_11).bel) (fun hHeld => ?_)
            clear hK K
            refine wpAnyH_ready (rs := [12]) (by kernel_rfl) (by simp) ?_
            refine AllReadyH.cons rfl (fun K hK => ?_) AllReadyH.nil
            obtain ⟨l', f', e1, e2, hT3, hb3⟩ := VgSt.store (next := d.next) (unhide T2_6_5_9_11)
            have y0 := (heap_at ((unhide T2_6_5_9_11).t tb rfl).2 0).1
            have y1 := (heap_at ((unhide T2_6_5_9_11).t tb rfl).2 1).1
            have y2 := (heap_at ((unhide T2_6_5_9_11).t tb rfl).2 2).1
            have y3 := (heap_at ((unhide T2_6_5_9_11).t tb rfl).2 3).1
            have x0 := (heap_at ((unhide T2_6_5_9_11).t tb rfl).2 0).2
            have x1 := (heap_at ((unhide T2_6_5_9_11).t tb rfl).2 1).2
            have x2 := (heap_at ((unhide T2_6_5_9_11).t tb rfl).2 2).2
            have x3 := (heap_at ((unhide T2_6_5_9_11).t tb rfl).2 3).2
            have TF := hide hT3
            have BF := hide hb3
            clear hT3 hb3 e1 e2
            go_simp
            refine hK.out _ _ (unhide SK _ (unhide BF)) (fun hHeld => ?_)
            clear hK K
            refine wpAnyH_done (by kernel_rfl) ?_ _
            go_wp2_with fail
            go_meet
            case rel => exact ⟨tb, l', f', rfl, TF, BF⟩
          · have T2_6_5_11 := hide (unhide T2_6_5).litT
            go_simp
            generalize u2_6_5.alloc (.cells #[.int .i64 0, .slice none 0 0, .slice none 0 0, .slice none 0 0] 29) = u2_6_5_11 at *
            generalize u2_6_5.heap.size = tb at *
            refine hK.out _ _ (unhide SK _ (unhide T2_6_5_11).bel) (fun hHeld => ?_)
            clear hK K
            refine wpAnyH_ready (rs := [9]) (by kernel_rfl) (by simp) ?_
            refine AllReadyH.cons rfl (fun K hK => ?_) AllReadyH.nil
            obtain ⟨g12, k12, u2_6_5_11_9, hr, hs8⟩ := (unhide T2_6_5_11).appF (l := ⟨fa, fn, fc⟩) (unhide RF) hfn (unhide CF)
            have T2_6_5_11_9 := hide hs8
            clear hs8
            refine us_stepApp rfl (.tmp 12) (.tmp 14) 26 rfl _ _ (.slice (some ⟨g12, 0, none⟩) fn k12) u2_6_5_11_9 (by first | rfl | (simp [Act.eval]; done) | (simp [Act.eval, Act.put]; done)) (by first | rfl | (simp [Act.eval]; done) | (simp [Act.eval, Act.put]; done)) hr ?_
            clear hr
            refine hK.out _ _ (unhide SK _ (unhide T2_6_5_11_9).bel) (fun hHeld => ?_)
            clear hK K
            refine anyH_take 10 16 (v := ?v11) rfl rfl (by kernel_rfl) (by kernel_rfl) (by kernel_rfl) (fun _ _ _ h => h) (by rfl) ?h11 hHeld ?r11
            case h11 => (intro w hSw; (try dsimp only at hSw); go_simp; try (with_reducible rfl))
            simp only [Act.put, List.setIfInBounds_toArray]
            refine wpAnyH_ready (rs := [12]) (by kernel_rfl) (by simp) ?_
            refine AllReadyH.cons rfl (fun K hK => ?_) AllReadyH.nil
            obtain ⟨l', f', e1, e2, hT3, hb3⟩ := VgSt.store (next := d.next) (unhide T2_6_5_11_9)
            have y0 := (heap_at ((unhide T2_6_5_11_9).t tb rfl).2 0).1
            have y1 := (heap_at ((unhide T2_6_5_11_9).t tb rfl).2 1).1
            have y2 := (heap_at ((unhide T2_6_5_11_9).t tb rfl).2 2).1
            have y3 := (heap_at ((unhide T2_6_5_11_9).t tb rfl).2 3).1
            have x0 := (heap_at ((unhide T2_6_5_11_9).t tb rfl).2 0).2
            have x1 := (heap_at ((unhide T2_6_5_11_9).t tb rfl).2 1).2
            have x2 := (heap_at ((unhide T2_6_5_11_9).t tb rfl).2 2).2
            have x3 := (heap_at ((unhide T2_6_5_11_9).t tb rfl).2 3).2
            have TF := hide hT3
            have BF := hide hb3
            clear hT3 hb3 e1 e2
            go_simp
            refine hK.out _ _ (unhide SK _ (unhide BF)) (fun hHeld => ?_)
            clear hK K
            refine wpAnyH_done (by kernel_rfl) ?_ _
            go_wp2_with fail
            go_meet
            case rel => exact ⟨tb, l', f', rfl, TF, BF⟩
        · have T2_6_11 := hide (unhide T2_6).litT
          go_simp
          generalize u2_6.alloc (.cells #[.int .i64 0, .slice none 0 0, .slice none 0 0, .slice none 0 0] 29) = u2_6_11 at *
          generalize u2_6.heap.size = tb at *
          refine hK.out _ _ (unhide SK _ (unhide T2_6_11).bel) (fun hHeld => ?_)
          clear hK K
          refine wpAnyH_ready (rs := [5]) (by kernel_rfl) (by simp) ?_
          refine AllReadyH.cons rfl (fun K hK => ?_) AllReadyH.nil
          obtain ⟨g8, k8, u2_6_11_5, hr, hs8⟩ := (unhide T2_6_11).appV (l := ⟨la, ln, lc⟩) (unhide RV) hln (unhide CL)
          have T2_6_11_5 := hide hs8
          clear hs8
          refine us_stepApp rfl (.tmp 8) (.tmp 10) 25 rfl _ _ (.slice (some ⟨g8, 0, none⟩) ln k8) u2_6_11_5 (by first | rfl | (simp [Act.eval]; done) | (simp [Act.eval, Act.put]; done)) (by first | rfl | (simp [Act.eval]; done) | (simp [Act.eval, Act.put]; done)) hr ?_
          clear hr
          refine hK.out _ _ (unhide SK _ (unhide T2_6_11_5).bel) (fun hHeld => ?_)
          clear hK K
          refine wpAnyH_ready (rs := [9]) (by kernel_rfl) (by simp) ?_
          refine AllReadyH.cons rfl (fun K hK => ?_) AllReadyH.nil
          obtain ⟨g12, k12, u2_6_11_5_9, hr, hs8⟩ := (unhide T2_6_11_5).appF (l := ⟨fa, fn, fc⟩) (unhide RF) hfn (unhide CF)
          have T2_6_11_5_9 := hide hs8
          clear hs8
          refine us_stepApp rfl (.tmp 12) (.tmp 14) 26 rfl _ _ (.slice (some ⟨g12, 0, none⟩) fn k12) u2_6_11_5_9 (by first | rfl | (simp [Act.eval]; done) | (simp [Act.eval, Act.put]; done)) (by first | rfl | (simp [Act.eval]; done) | (simp [Act.eval, Act.put]; done)) hr ?_
          clear hr
          refine hK.out _ _ (unhide SK _ (unhide T2_6_11_5_9).bel) (fun hHeld => ?_)
          clear hK K
          refine anyH_take 10 16 (v := ?v12) rfl rfl (by kernel_rfl) (by kernel_rfl) (by kernel_rfl) (fun _ _ _ h => h) (by rfl) ?h12 hHeld ?r12
          case h12 => (intro w hSw; (try dsimp only at hSw); go_simp; try (with_reducible rfl))
          simp only [Act.put, List.setIfInBounds_toArray]
          refine wpAnyH_ready (rs := [12]) (by kernel_rfl) (by simp) ?_
          refine AllReadyH.cons rfl (fun K hK => ?_) AllReadyH.nil
          obtain ⟨l', f', e1, e2, hT3, hb3⟩ := VgSt.store (next := d.next) (unhide T2_6_11_5_9)
          have y0 := (heap_at ((unhide T2_6_11_5_9).t tb rfl).2 0).1
          have y1 := (heap_at ((unhide T2_6_11_5_9).t tb rfl).2 1).1
          have y2 := (heap_at ((unhide T2_6_11_5_9).t tb rfl).2 2).1
          have y3 := (heap_at ((unhide T2_6_11_5_9).t tb rfl).2 3).1
          have x0 := (heap_at ((unhide T2_6_11_5_9).t tb rfl).2 0).2
          have x1 := (heap_at ((unhide T2_6_11_5_9).t tb rfl).2 1).2
          have x2 := (heap_at ((unhide T2_6_11_5_9).t tb rfl).2 2).2
          have x3 := (heap_at ((unhide T2_6_11_5_9).t tb rfl).2 3).2
          have TF := hide hT3
          have BF := hide hb3
          clear hT3 hb3 e1 e2
          go_simp
          refine hK.out _ _ (unhide SK _ (unhide BF)) (fun hHeld => ?_)
          clear hK K
          refine wpAnyH_done (by kernel_rfl) ?_ _
          go_wp2_with fail
          go_meet
          case rel => exact ⟨tb, l', f', rfl, TF, BF⟩
      · have T2_11 := hide (unhide T2).litT
        go_simp
        generalize u2.alloc (.cells #[.int .i64 0, .slice none 0 0, .slice none 0 0, .slice none 0 0] 29) = u2_11 at *
        generalize u2.heap.size = tb at *
        refine hK.out _ _ (unhide SK _ (unhide T2_11).bel) (fun hHeld => ?_)
        clear hK K
        refine wpAnyH_ready (rs := [5, 6]) (by kernel_rfl) (by simp) ?_
        refine AllReadyH.cons rfl (fun K hK => ?_) (AllReadyH.cons rfl (fun K hK => ?_) AllReadyH.nil)
        · obtain ⟨g8, k8, u2_11_5, hr, hs8⟩ := (unhide T2_11).appV (l := ⟨la, ln, lc⟩) (unhide RV) hln (unhide CL)
          have T2_11_5 := hide hs8
          clear hs8
          refine us_stepApp rfl (.tmp 8) (.tmp 10) 25 rfl _ _ (.slice (some ⟨g8, 0, none⟩) ln k8) u2_11_5 (by first | rfl | (simp [Act.eval]; done) | (simp [Act.eval, Act.put]; done)) (by first | rfl | (simp [Act.eval]; done) | (simp [Act.eval, Act.put]; done)) hr ?_
          clear hr
          refine hK.out _ _ (unhide SK _ (unhide T2_11_5).bel) (fun hHeld => ?_)
          clear hK K
          refine wpAnyH_ready (rs := [6]) (by kernel_rfl) (by simp) ?_
          refine AllReadyH.cons rfl (fun K hK => ?_) AllReadyH.nil
          have T2_11_5_6 := hide (unhide T2_11_5).litF
          go_simp
          generalize u2_11_5.alloc (.cells #[] 232) = u2_11_5_6 at *
          generalize u2_11_5.heap.size = g9 at *
          refine hK.out _ _ (unhide SK _ (unhide T2_11_5_6).bel) (fun hHeld => ?_)
          clear hK K
          refine wpAnyH_ready (rs := [9]) (by kernel_rfl) (by simp) ?_
          refine AllReadyH.cons rfl (fun K hK => ?_) AllReadyH.nil
          obtain ⟨g12, k12, u2_11_5_6_9, hr, hs8⟩ := (unhide T2_11_5_6).appF (l := ⟨fa, fn, fc⟩) (unhide RF) hfn (unhide CF)
          have T2_11_5_6_9 := hide hs8
          clear hs8
          refine us_stepApp rfl (.tmp 12) (.tmp 14) 26 rfl _ _ (.slice (some ⟨g12, 0, none⟩) fn k12) u2_11_5_6_9 (by first | rfl | (simp [Act.eval]; done) | (simp [Act.eval, Act.put]; done)) (by first | rfl | (simp [Act.eval]; done) | (simp [Act.eval, Act.put]; done)) hr ?_
          clear hr
          refine hK.out _ _ (unhide SK _ (unhide T2_11_5_6_9).bel) (fun hHeld => ?_)
          clear hK K
          refine anyH_take 10 16 (v := ?v13) rfl rfl (by kernel_rfl) (by kernel_rfl) (by kernel_rfl) (fun _ _ _ h => h) (by rfl) ?h13 hHeld ?r13
          case h13 => (intro w hSw; (try dsimp only at hSw); go_simp; try (with_reducible rfl))
          simp only [Act.put, List.setIfInBounds_toArray]
          refine wpAnyH_ready (rs := [12]) (by kernel_rfl) (by simp) ?_
          refine AllReadyH.cons rfl (fun K hK => ?_) AllReadyH.nil
          obtain ⟨l', f', e1, e2, hT3, hb3⟩ := VgSt.store (next := d.next) (unhide T2_11_5_6_9)
          have y0 := (heap_at ((unhide T2_11_5_6_9).t tb rfl).2 0).1
          have y1 := (heap_at ((unhide T2_11_5_6_9).t tb rfl).2 1).1
          have y2 := (heap_at ((unhide T2_11_5_6_9).t tb rfl).2 2).1
          have y3 := (heap_at ((unhide T2_11_5_6_9).t tb rfl).2 3).1
          have x0 := (heap_at ((unhide T2_11_5_6_9).t tb rfl).2 0).2
          have x1 := (heap_at ((unhide T2_11_5_6_9).t tb rfl).2 1).2
          have x2 := (heap_at ((unhide T2_11_5_6_9).t tb rfl).2 2).2
          have x3 := (heap_at ((unhide T2_11_5_6_9).t tb rfl).2 3).2
          have TF := hide hT3
          have BF := hide hb3
          clear hT3 hb3 e1 e2
          go_simp
          refine hK.out _ _ (unhide SK _ (unhide BF)) (fun hHeld => ?_)
          clear hK K
          refine wpAnyH_done (by kernel_rfl) ?_ _
          go_wp2_with fail
          go_meet
          case rel => exact ⟨tb, l', f', rfl, TF, BF⟩
        · have T2_11_6 := hide (unhide T2_11).litF
          go_simp
          generalize u2_11.alloc (.cells #[] 232) = u2_11_6 at *
          generalize u2_11.heap.size = g9 at *
          refine hK.out _ _ (unhide SK _ (unhide T2_11_6).bel) (fun hHeld => ?_)
          clear hK K
          refine wpAnyH_ready (rs := [5]) (by kernel_rfl) (by simp) ?_
          refine AllReadyH.cons rfl (fun K hK => ?_) AllReadyH.nil
          obtain ⟨g8, k8, u2_11_6_5, hr, hs8⟩ := (unhide T2_11_6).appV (l := ⟨la, ln, lc⟩) (unhide RV) hln (unhide CL)
          have T2_11_6_5 := hide hs8
          clear hs8
          refine us_stepApp rfl (.tmp 8) (.tmp 10) 25 rfl _ _ (.slice (some ⟨g8, 0, none⟩) ln k8) u2_11_6_5 (by first | rfl | (simp [Act.eval]; done) | (simp [Act.eval, Act.put]; done)) (by first | rfl | (simp [Act.eval]; done) | (simp [Act.eval, Act.put]; done)) hr ?_
          clear hr
          refine hK.out _ _ (unhide SK _ (unhide T2_11_6_5).bel) (fun hHeld => ?_)
          clear hK K
          refine wpAnyH_ready (rs := [9]) (by kernel_rfl) (by simp) ?_
          refine AllReadyH.cons rfl (fun K hK => ?_) AllReadyH.nil
          obtain ⟨g12, k12, u2_11_6_5_9, hr, hs8⟩ := (unhide T2_11_6_5).appF (l := ⟨fa, fn, fc⟩) (unhide RF) hfn (unhide CF)
          have T2_11_6_5_9 := hide hs8
          clear hs8
          refine us_stepApp rfl (.tmp 12) (.tmp 14) 26 rfl _ _ (.slice (some ⟨g12, 0, none⟩) fn k12) u2_11_6_5_9 (by first | rfl | (simp [Act.eval]; done) | (simp [Act.eval, Act.put]; done)) (by first | rfl | (simp [Act.eval]; done) | (simp [Act.eval, Act.put]; done)) hr ?_
          clear hr
          refine hK.out _ _ (unhide SK _ (unhide T2_11_6_5_9).bel) (fun hHeld => ?_)
          clear hK K
          refine anyH_take 10 16 (v := ?v14) rfl rfl (by kernel_rfl) (by kernel_rfl) (by kernel_rfl) (fun _ _ _ h => h) (by rfl) ?h14 hHeld ?r14
          case h14 => (intro w hSw; (try dsimp only at hSw); go_simp; try (with_reducible rfl))
          simp only [Act.put, List.setIfInBounds_toArray]
          refine wpAnyH_ready (rs := [12]) (by kernel_rfl) (by simp) ?_
          refine AllReadyH.cons rfl (fun K hK => ?_) AllReadyH.nil
          obtain ⟨l', f', e1, e2, hT3, hb3⟩ := VgSt.store (next := d.next) (unhide T2_11_6_5_9)
          have y0 := (heap_at ((unhide T2_11_6_5_9).t tb rfl).2 0).1
          have y1 := (heap_at ((unhide T2_11_6_5_9).t tb rfl).2 1).1
          have y2 := (heap_at ((unhide T2_11_6_5_9).t tb rfl).2 2).1
          have y3 := (heap_at ((unhide T2_11_6_5_9).t tb rfl).2 3).1
          have x0 := (heap_at ((unhide T2_11_6_5_9).t tb rfl).2 0).2
          have x1 := (heap_at ((unhide T2_11_6_5_9).t tb rfl).2 1).2
          have x2 := (heap_at ((unhide T2_11_6_5_9).t tb rfl).2 2).2
          have x3 := (heap_at ((unhide T2_11_6_5_9).t tb rfl).2 3).2
          have TF := hide hT3
          have BF := hide hb3
          clear hT3 hb3 e1 e2
          go_simp
          refine hK.out _ _ (unhide SK _ (unhide BF)) (fun hHeld => ?_)
          clear hK K
          refine wpAnyH_done (by kernel_rfl) ?_ _
          go_wp2_with fail
          go_meet
          case rel => exact ⟨tb, l', f', rfl, TF, BF⟩
    · have T6 := hide (unhide T0).litF
      go_simp
      generalize u0.alloc (.cells #[] 232) = u6 at *
      generalize u0.heap.size = g9 at *
      refine hK.out _ _ (unhide SK _ (unhide T6).bel) (fun hHeld => ?_)
      clear hK K
      refine wpAnyH_ready (rs := [2, 11]) (by kernel_rfl) (by simp) ?_
      refine AllReadyH.cons rfl (fun K hK => ?_) (AllReadyH.cons rfl (fun K hK => ?_) AllReadyH.nil)
      · have T6_2 := hide (unhide T6).litV
        go_simp
        generalize u6.alloc (.cells #[] 51) = u6_2 at *
        generalize u6.heap.size = g5 at *
        refine hK.out _ _ (unhide SK _ (unhide T6_2).bel) (fun hHeld => ?_)
        clear hK K
        refine wpAnyH_ready (rs := [5, 11]) (by kernel_rfl) (by simp) ?_
        refine AllReadyH.cons rfl (fun K hK => ?_) (AllReadyH.cons rfl (fun K hK => ?_) AllReadyH.nil)
        · obtain ⟨g8, k8, u6_2_5, hr, hs8⟩ := (unhide T6_2).appV (l := ⟨la, ln, lc⟩) (unhide RV) hln (unhide CL)
          have T6_2_5 := hide hs8
          clear hs8
          refine us_stepApp rfl (.tmp 8) (.tmp 10) 25 rfl _ _ (.slice (some ⟨g8, 0, none⟩) ln k8) u6_2_5 (by first | rfl | (simp [Act.eval]; done) | (simp [Act.eval, Act.put]; done)) (by first | rfl | (simp [Act.eval]; done) | (simp [Act.eval, Act.put]; done)) hr ?_
          clear hr
          refine hK.out _ _ (unhide SK _ (unhide T6_2_5).bel) (fun hHeld => ?_)
          clear hK K
          refine wpAnyH_ready (rs := [9, 11]) (by kernel_rfl) (by simp) ?_
          refine AllReadyH.cons rfl (fun K hK => ?_) (AllReadyH.cons rfl (fun K hK => ?_) AllReadyH.nil)
          · obtain ⟨g12, k12, u6_2_5_9, hr, hs8⟩ := (unhide T6_2_5).appF (l := ⟨fa, fn, fc⟩) (unhide RF) hfn (unhide CF)
            have T6_2_5_9 := hide hs8
            clear hs8
            refine us_stepApp rfl (.tmp 12) (.tmp 14) 26 rfl _ _ (.slice (some ⟨g12, 0, none⟩) fn k12) u6_2_5_9 (by first | rfl | (simp [Act.eval]; done) | (simp [Act.eval, Act.put]; done)) (by first | rfl | (simp [Act.eval]; done) | (simp [Act.eval, Act.put]; done)) hr ?_
            clear hr
            refine hK.out _ _ (unhide SK _ (unhide T6_2_5_9).bel) (fun hHeld => ?_)
            clear hK K
            refine anyH_take 10 16 (v := ?v15) rfl rfl (by kernel_rfl) (by kernel_rfl) (by kernel_rfl) (fun _ _ _ h => h) (by rfl) ?h15 hHeld ?r15
            case h15 => (intro w hSw; (try dsimp only at hSw); go_simp; try (with_reducible rfl))
            simp only [Act.put, List.setIfInBounds_toArray]
            refine wpAnyH_ready (rs := [11]) (by kernel_rfl) (by simp) ?_
            refine AllReadyH.cons rfl (fun K hK => ?_) AllReadyH.nil
            have T6_2_5_9_11 := hide (unhide T6_2_5_9).litT
            go_simp
            generalize u6_2_5_9.alloc (.cells #[.int .i64 0, .slice none 0 0, .slice none 0 0, .slice none 0 0] 29) = u6_2_5_9_11 at *
            generalize u6_2_5_9.heap.size = tb at *
            refine hK.out _ _ (unhide SK _ (unhide T6_2_5_9_11).bel) (fun hHeld => ?_)
            clear hK K
            refine wpAnyH_ready (rs := [12]) (by kernel_rfl) (by simp) ?_
            refine AllReadyH.cons rfl (fun K hK => ?_) AllReadyH.nil
            obtain ⟨l', f', e1, e2, hT3, hb3⟩ := VgSt.store (next := d.next) (unhide T6_2_5_9_11)
            have y0 := (heap_at ((unhide T6_2_5_9_11).t tb rfl).2 0).1
            have y1 := (heap_at ((unhide T6_2_5_9_11).t tb rfl).2 1).1
            have y2 := (heap_at ((unhide T6_2_5_9_11).t tb rfl).2 2).1
            have y3 := (heap_at ((unhide T6_2_5_9_11).t tb rfl).2 3).1
            have x0 := (heap_at ((unhide T6_2_5_9_11).t tb rfl).2 0).2
            have x1 := (heap_at ((unhide T6_2_5_9_11).t tb rfl).2 1).2
            have x2 := (heap_at ((unhide T6_2_5_9_11).t tb rfl).2 2).2
            have x3 := (heap_at ((unhide T6_2_5_9_11).t tb rfl).2 3).2
            have TF := hide hT3
            have BF := hide hb3
            clear hT3 hb3 e1 e2
            go_simp
            refine hK.out _ _ (unhide SK _ (unhide BF)) (fun hHeld => ?_)
            clear hK K
            refine wpAnyH_done (by kernel_rfl) ?_ _
            go_wp2_with fail
            go_meet
            case rel => exact ⟨tb, l', f', rfl, TF, BF⟩
          · have T6_2_5_11 := hide (unhide T6_2_5).litT
            go_simp
            generalize u6_2_5.alloc (.cells #[.int .i64 0, .slice none 0 0, .slice none 0 0, .slice none 0 0] 29) = u6_2_5_11 at *
            generalize u6_2_5.heap.size = tb at *
            refine hK.out _ _ (unhide SK _ (unhide T6_2_5_11).bel) (fun hHeld => ?_)
            clear hK K
            refine wpAnyH_ready (rs := [9]) (by kernel_rfl) (by simp) ?_
            refine AllReadyH.cons rfl (fun K hK => ?_) AllReadyH.nil
            obtain ⟨g12, k12, u6_2_5_11_9, hr, hs8⟩ := (unhide T6_2_5_11).appF (l := ⟨fa, fn, fc⟩) (unhide RF) hfn (unhide CF)
            have T6_2_5_11_9 := hide hs8
            clear hs8
            refine us_stepApp rfl (.tmp 12) (.tmp 14) 26 rfl _ _ (.slice (some ⟨g12, 0, none⟩) fn k12) u6_2_5_11_9 (by first | rfl | (simp [Act.eval]; done) | (simp [Act.eval, Act.put]; done)) (by first | rfl | (simp [Act.eval]; done) | (simp [Act.eval, Act.put]; done)) hr ?_
            clear hr
            refine hK.out _ _ (unhide SK _ (unhide T6_2_5_11_9).bel) (fun hHeld => ?_)
            clear hK K
            refine anyH_take 10 16 (v := ?v16) rfl rfl (by kernel_rfl) (by kernel_rfl) (by kernel_rfl) (fun _ _ _ h => h) (by rfl) ?h16 hHeld ?r16
            case h16 => (intro w hSw; (try dsimp only at hSw); go_simp; try (with_reducible rfl))
            simp only [Act.put, List.setIfInBounds_toArray]
            refine wpAnyH_ready (rs := [12]) (by kernel_rfl) (by simp) ?_
            refine AllReadyH.cons rfl (fun K hK => ?_) AllReadyH.nil
            obtain ⟨l', f', e1, e2, hT3, hb3⟩ := VgSt.store (next := d.next) (unhide T6_2_5_11_9)
            have y0 := (heap_at ((unhide T6_2_5_11_9).t tb rfl).2 0).1
            have y1 := (heap_at ((unhide T6_2_5_11_9).t tb rfl).2 1).1
            have y2 := (heap_at ((unhide T6_2_5_11_9).t tb rfl).2 2).1
            have y3 := (heap_at ((unhide T6_2_5_11_9).t tb rfl).2 3).1
            have x0 := (heap_at ((unhide T6_2_5_11_9).t tb rfl).2 0).2
            have x1 := (heap_at ((unhide T6_2_5_11_9).t tb rfl).2 1).2
            have x2 := (heap_at ((unhide T6_2_5_11_9).t tb rfl).2 2).2
            have x3 := (heap_at ((unhide T6_2_5_11_9).t tb rfl).2 3).2
            have TF := hide hT3
            have BF := hide hb3
            clear hT3 hb3 e1 e2
            go_simp
            refine hK.out _ _ (unhide SK _ (unhide BF)) (fun hHeld => ?_)
            clear hK K
            refine wpAnyH_done (by kernel_rfl) ?_ _
            go_wp2_with fail
            go_meet
            case rel => exact ⟨tb, l', f', rfl, TF, BF⟩
        · have T6_2_11 := hide (unhide T6_2).litT
          go_simp
          generalize u6_2.alloc (.cells #[.int .i64 0, .slice none 0 0, .slice none 0 0, .slice none 0 0] 29) = u6_2_11 at *
          generalize u6_2.heap.size = tb at *
          refine hK.out _ _ (unhide SK _ (unhide T6_2_11).bel) (fun hHeld => ?_)
          clear hK K
          refine wpAnyH_ready (rs := [5]) (by kernel_rfl) (by simp) ?_
          refine AllReadyH.cons rfl (fun K hK => ?_) AllReadyH.nil
          obtain ⟨g8, k8, u6_2_11_5, hr, hs8⟩ := (unhide T6_2_11).appV (l := ⟨la, ln, lc⟩) (unhide RV) hln (unhide CL)
          have T6_2_11_5 := hide hs8
          clear hs8
          refine us_stepApp rfl (.tmp 8) (.tmp 10) 25 rfl _ _ (.slice (some ⟨g8, 0, none⟩) ln k8) u6_2_11_5 (by first | rfl | (simp [Act.eval]; done) | (simp [Act.eval, Act.put]; done)) (by first | rfl | (simp [Act.eval]; done) | (simp [Act.eval, Act.put]; done)) hr ?_
          clear hr
          refine hK.out _ _ (unhide SK _ (unhide T6_2_11_5).bel) (fun hHeld => ?_)
          clear hK K
          refine wpAnyH_ready (rs := [9]) (by kernel_rfl) (by simp) ?_
          refine AllReadyH.cons rfl (fun K hK => ?_) AllReadyH.nil
          obtain ⟨g12, k12, u6_2_11_5_9, hr, hs8⟩ := (unhide T6_2_11_5).appF (l := ⟨fa, fn, fc⟩) (unhide RF) hfn (unhide CF)
          have T6_2_11_5_9 := hide hs8
          clear hs8
          refine us_stepApp rfl (.tmp 12) (.tmp 14) 26 rfl _ _ (.slice (some ⟨g12, 0, none⟩) fn k12) u6_2_11_5_9 (by first | rfl | (simp [Act.eval]; done) | (simp [Act.eval, Act.put]; done)) (by first | rfl | (simp [Act.eval]; done) | (simp [Act.eval, Act.put]; done)) hr ?_
          clear hr
          refine hK.out _ _ (unhide SK _ (unhide T6_2_11_5_9).bel) (fun hHeld => ?_)
          clear hK K
          refine anyH_take 10 16 (v := ?v17) rfl rfl (by kernel_rfl) (by kernel_rfl) (by kernel_rfl) (fun _ _ _ h => h) (by rfl) ?h17 hHeld ?r17
          case h17 => (intro w hSw; (try dsimp only at hSw); go_simp; try (with_reducible rfl))
          simp only [Act.put, List.setIfInBounds_toArray]
          refine wpAnyH_ready (rs := [12]) (by kernel_rfl) (by simp) ?_
          refine AllReadyH.cons rfl (fun K hK => ?_) AllReadyH.nil
          obtain ⟨l', f', e1, e2, hT3, hb3⟩ := VgSt.store (next := d.next) (unhide T6_2_11_5_9)
          have y0 := (heap_at ((unhide T6_2_11_5_9).t tb rfl).2 0).1
          have y1 := (heap_at ((unhide T6_2_11_5_9).t tb rfl).2 1).1
          have y2 := (heap_at ((unhide T6_2_11_5_9).t tb rfl).2 2).1
          have y3 := (heap_at ((unhide T6_2_11_5_9).t tb rfl).2 3).1
          have x0 := (heap_at ((unhide T6_2_11_5_9).t tb rfl).2 0).2
          have x1 := (heap_at ((unhide T6_2_11_5_9).t tb rfl).2 1).2
          have x2 := (heap_at ((unhide T6_2_11_5_9).t tb rfl).2 2).2
          have x3 := (heap_at ((unhide T6_2_11_5_9).t tb rfl).2 3).2
          have TF := hide hT3
          have BF := hide hb3
          clear hT3 hb3 e1 e2
          go_simp
          refine hK.out _ _ (unhide SK _ (unhide BF)) (fun hHeld => ?_)
          clear hK K
          refine wpAnyH_done (by kernel_rfl) ?_ _
          go_wp2_with fail
          go_meet
          case rel => exact ⟨tb, l', f', rfl, TF, BF⟩
      · have T6_11 := hide (unhide T6).litT
        go_simp
        generalize u6.alloc (.cells #[.int .i64 0, .slice none 0 0, .slice none 0 0, .slice none 0 0] 29) = u6_11 at *
        generalize u6.heap.size = tb at *
        refine hK.out _ _ (unhide SK _ (unhide T6_11).bel) (fun hHeld => ?_)
        clear hK K
        refine wpAnyH_ready (rs := [2]) (by kernel_rfl) (by simp) ?_
        refine AllReadyH.cons rfl (fun K hK => ?_) AllReadyH.nil
        have T6_11_2 := hide (unhide T6_11).litV
        go_simp
        generalize u6_11.alloc (.cells #[] 51) = u6_11_2 at *
        generalize u6_11.heap.size = g5 at *
        refine hK.out _ _ (unhide SK _ (unhide T6_11_2).bel) (fun hHeld => ?_)
        clear hK K
        refine wpAnyH_ready (rs := [5]) (by kernel_rfl) (by simp) ?_
        refine AllReadyH.cons rfl (fun K hK => ?_) AllReadyH.nil
        obtain ⟨g8, k8, u6_11_2_5, hr, hs8⟩ := (unhide T6_11_2).appV (l := ⟨la, ln, lc⟩) (unhide RV) hln (unhide CL)
        have T6_11_2_5 := hide hs8
        clear hs8
        refine us_stepApp rfl (.tmp 8) (.tmp 10) 25 rfl _ _ (.slice (some ⟨g8, 0, none⟩) ln k8) u6_11_2_5 (by first | rfl | (simp [Act.eval]; done) | (simp [Act.eval, Act.put]; done)) (by first | rfl | (simp [Act.eval]; done) | (simp [Act.eval, Act.put]; done)) hr ?_
        clear hr
        refine hK.out _ _ (unhide SK _ (unhide T6_11_2_5).bel) (fun hHeld => ?_)
        clear hK K
        refine wpAnyH_ready (rs := [9]) (by kernel_rfl) (by simp) ?_
        refine AllReadyH.cons rfl (fun K hK => ?_) AllReadyH.nil
        obtain ⟨g12, k12, u6_11_2_5_9, hr, hs8⟩ := (unhide T6_11_2_5).appF (l := ⟨fa, fn, fc⟩) (unhide RF) hfn (unhide CF)
        have T6_11_2_5_9 := hide hs8
        clear hs8
        refine us_stepApp rfl (.tmp 12) (.tmp 14) 26 rfl _ _ (.slice (some ⟨g12, 0, none⟩) fn k12) u6_11_2_5_9 (by first | rfl | (simp [Act.eval]; done) | (simp [Act.eval, Act.put]; done)) (by first | rfl | (simp [Act.eval]; done) | (simp [Act.eval, Act.put]; done)) hr ?_
        clear hr
        refine hK.out _ _ (unhide SK _ (unhide T6_11_2_5_9).bel) (fun hHeld => ?_)
        clear hK K
        refine anyH_take 10 16 (v := ?v18) rfl rfl (by kernel_rfl) (by kernel_rfl) (by kernel_rfl) (fun _ _ _ h => h) (by rfl) ?h18 hHeld ?r18
        case h18 => (intro w hSw; (try dsimp only at hSw); go_simp; try (with_reducible rfl))
        simp only [Act.put, List.setIfInBounds_toArray]
        refine wpAnyH_ready (rs := [12]) (by kernel_rfl) (by simp) ?_
        refine AllReadyH.cons rfl (fun K hK => ?_) AllReadyH.nil
        obtain ⟨l', f', e1, e2, hT3, hb3⟩ := VgSt.store (next := d.next) (unhide T6_11_2_5_9)
        have y0 := (heap_at ((unhide T6_11_2_5_9).t tb rfl).2 0).1
        have y1 := (heap_at ((unhide T6_11_2_5_9).t tb rfl).2 1).1
        have y2 := (heap_at ((unhide T6_11_2_5_9).t tb rfl).2 2).1
        have y3 := (heap_at ((unhide T6_11_2_5_9).t tb rfl).2 3).1
        have x0 := (heap_at ((unhide T6_11_2_5_9).t tb rfl).2 0).2
        have x1 := (heap_at ((unhide T6_11_2_5_9).t tb rfl).2 1).2
        have x2 := (heap_at ((unhide T6_11_2_5_9).t tb rfl).2 2).2
        have x3 := (heap_at ((unhide T6_11_2_5_9).t tb rfl).2 3).2
        have TF := hide hT3
        have BF := hide hb3
        clear hT3 hb3 e1 e2
        go_simp
        refine hK.out _ _ (unhide SK _ (unhide BF)) (fun hHeld => ?_)
        clear hK K
        refine wpAnyH_done (by kernel_rfl) ?_ _
        go_wp2_with fail
        go_meet
        case rel => exact ⟨tb, l', f', rfl, TF, BF⟩
    · have T11 := hide (unhide T0).litT
      go_simp
      generalize u0.alloc (.cells #[.int .i64 0, .slice none 0 0, .slice none 0 0, .slice none 0 0] 29) = u11 at *
      generalize u0.heap.size = tb at *
      refine hK.out _ _ (unhide SK _ (unhide T11).bel) (fun hHeld => ?_)
      clear hK K
      refine wpAnyH_ready (rs := [2, 6]) (by kernel_rfl) (by simp) ?_
      refine AllReadyH.cons rfl (fun K hK => ?_) (AllReadyH.cons rfl (fun K hK => ?_) AllReadyH.nil)
      · have T11_2 := hide (unhide T11).litV
        go_simp
        generalize u11.alloc (.cells #[] 51) = u11_2 at *
        generalize u11.heap.size = g5 at *
        refine hK.out _ _ (unhide SK _ (unhide T11_2).bel) (fun hHeld => ?_)
        clear hK K
        refine wpAnyH_ready (rs := [5, 6]) (by kernel_rfl) (by simp) ?_
        refine AllReadyH.cons rfl (fun K hK => ?_) (AllReadyH.cons rfl (fun K hK => ?_) AllReadyH.nil)
        · obtain ⟨g8, k8, u11_2_5, hr, hs8⟩ := (unhide T11_2).appV (l := ⟨la, ln, lc⟩) (unhide RV) hln (unhide CL)
          have T11_2_5 := hide hs8
          clear hs8
          refine us_stepApp rfl (.tmp 8) (.tmp 10) 25 rfl _ _ (.slice (some ⟨g8, 0, none⟩) ln k8) u11_2_5 (by first | rfl | (simp [Act.eval]; done) | (simp [Act.eval, Act.put]; done)) (by first | rfl | (simp [Act.eval]; done) | (simp [Act.eval, Act.put]; done)) hr ?_
          clear hr
          refine hK.out _ _ (unhide SK _ (unhide T11_2_5).bel) (fun hHeld => ?_)
          clear hK K
          refine wpAnyH_ready (rs := [6]) (by kernel_rfl) (by simp) ?_
          refine AllReadyH.cons rfl (fun K hK => ?_) AllReadyH.nil
          have T11_2_5_6 := hide (unhide T11_2_5).litF
          go_simp
          generalize u11_2_5.alloc (.cells #[] 232) = u11_2_5_6 at *
          generalize u11_2_5.heap.size = g9 at *
          refine hK.out _ _ (unhide SK _ (unhide T11_2_5_6).bel) (fun hHeld => ?_)
          clear hK K
          refine wpAnyH_ready (rs := [9]) (by kernel_rfl) (by simp) ?_
          refine AllReadyH.cons rfl (fun K hK => ?_) AllReadyH.nil
          obtain ⟨g12, k12, u11_2_5_6_9, hr, hs8⟩ := (unhide T11_2_5_6).appF (l := ⟨fa, fn, fc⟩) (unhide RF) hfn (unhide CF)
          have T11_2_5_6_9 := hide hs8
          clear hs8
          refine us_stepApp rfl (.tmp 12) (.tmp 14) 26 rfl _ _ (.slice (some ⟨g12, 0, none⟩) fn k12) u11_2_5_6_9 (by first | rfl | (simp [Act.eval]; done) | (simp [Act.eval, Act.put]; done)) (by first | rfl | (simp [Act.eval]; done) | (simp [Act.eval, Act.put]; done)) hr ?_
          clear hr
          refine hK.out _ _ (unhide SK _ (unhide T11_2_5_6_9).bel) (fun hHeld => ?_)
          clear hK K
          refine anyH_take 10 16 (v := ?v19) rfl rfl (by kernel_rfl) (by kernel_rfl) (by kernel_rfl) (fun _ _ _ h => h) (by rfl) ?h19 hHeld ?r19
          case h19 => (intro w hSw; (try dsimp only at hSw); go_simp; try (with_reducible rfl))
          simp only [Act.put, List.setIfInBounds_toArray]
          refine wpAnyH_ready (rs := [12]) (by kernel_rfl) (by simp) ?_
          refine AllReadyH.cons rfl (fun K hK => ?_) AllReadyH.nil
          obtain ⟨l', f', e1, e2, hT3, hb3⟩ := VgSt.store (next := d.next) (unhide T11_2_5_6_9)
          have y0 := (heap_at ((unhide T11_2_5_6_9).t tb rfl).2 0).1
          have y1 := (heap_at ((unhide T11_2_5_6_9).t tb rfl).2 1).1
          have y2 := (heap_at ((unhide T11_2_5_6_9).t tb rfl).2 2).1
          have y3 := (heap_at ((unhide T11_2_5_6_9).t tb rfl).2 3).1
          have x0 := (heap_at ((unhide T11_2_5_6_9).t tb rfl).2 0).2
          have x1 := (heap_at ((unhide T11_2_5_6_9).t tb rfl).2 1).2
          have x2 := (heap_at ((unhide T11_2_5_6_9).t tb rfl).2 2).2
          have x3 := (heap_at ((unhide T11_2_5_6_9).t tb rfl).2 3).2
          have TF := hide hT3
          have BF := hide hb3
          clear hT3 hb3 e1 e2
          go_simp
          refine hK.out _ _ (unhide SK _ (unhide BF)) (fun hHeld => ?_)
          clear hK K
          refine wpAnyH_done (by kernel_rfl) ?_ _
          go_wp2_with fail
          go_meet
          case rel => exact ⟨tb, l', f', rfl, TF, BF⟩
        · have T11_2_6 := hide (unhide T11_2).litF
          go_simp
          generalize u11_2.alloc (.cells #[] 232) = u11_2_6 at *
          generalize u11_2.heap.size = g9 at *
          refine hK.out _ _ (unhide SK _ (unhide T11_2_6).bel) (fun hHeld => ?_)
          clear hK K
          refine wpAnyH_ready (rs := [5]) (by kernel_rfl) (by simp) ?_
          refine AllReadyH.cons rfl (fun K hK => ?_) AllReadyH.nil
          obtain ⟨g8, k8, u11_2_6_5, hr, hs8⟩ := (unhide T11_2_6).appV (l := ⟨la, ln, lc⟩) (unhide RV) hln (unhide CL)
          have T11_2_6_5 := hide hs8
          clear hs8
          refine us_stepApp rfl (.tmp 8) (.tmp 10) 25 rfl _ _ (.slice (some ⟨g8, 0, none⟩) ln k8) u11_2_6_5 (by first | rfl | (simp [Act.eval]; done) | (simp [Act.eval, Act.put]; done)) (by first | rfl | (simp [Act.eval]; done) | (simp [Act.eval, Act.put]; done)) hr ?_
          clear hr
          refine hK.out _ _ (unhide SK _ (unhide T11_2_6_5).bel) (fun hHeld => ?_)
          clear hK K
          refine wpAnyH_ready (rs := [9]) (by kernel_rfl) (by simp) ?_
          refine AllReadyH.cons rfl (fun K hK => ?_) AllReadyH.nil
          obtain ⟨g12, k12, u11_2_6_5_9, hr, hs8⟩ := (unhide T11_2_6_5).appF (l := ⟨fa, fn, fc⟩) (unhide RF) hfn (unhide CF)
          have T11_2_6_5_9 := hide hs8
          clear hs8
          refine us_stepApp rfl (.tmp 12) (.tmp 14) 26 rfl _ _ (.slice (some ⟨g12, 0, none⟩) fn k12) u11_2_6_5_9 (by first | rfl | (simp [Act.eval]; done) | (simp [Act.eval, Act.put]; done)) (by first | rfl | (simp [Act.eval]; done) | (simp [Act.eval, Act.put]; done)) hr ?_
          clear hr
          refine hK.out _ _ (unhide SK _ (unhide T11_2_6_5_9).bel) (fun hHeld => ?_)
          clear hK K
          refine anyH_take 10 16 (v := ?v20) rfl rfl (by kernel_rfl) (by kernel_rfl) (by kernel_rfl) (fun _ _ _ h => h) (by rfl) ?h20 hHeld ?r20
          case h20 => (intro w hSw; (try dsimp only at hSw); go_simp; try (with_reducible rfl))
          simp only [Act.put, List.setIfInBounds_toArray]
          refine wpAnyH_ready (rs := [12]) (by kernel_rfl) (by simp) ?_
          refine AllReadyH.cons rfl (fun K hK => ?_) AllReadyH.nil
          obtain ⟨l', f', e1, e2, hT3, hb3⟩ := VgSt.store (next := d.next) (unhide T11_2_6_5_9)
          have y0 := (heap_at ((unhide T11_2_6_5_9).t tb rfl).2 0).1
          have y1 := (heap_at ((unhide T11_2_6_5_9).t tb rfl).2 1).1
          have y2 := (heap_at ((unhide T11_2_6_5_9).t tb rfl).2 2).1
          have y3 := (heap_at ((unhide T11_2_6_5_9).t tb rfl).2 3).1
          have x0 := (heap_at ((unhide T11_2_6_5_9).t tb rfl).2 0).2
          have x1 := (heap_at ((unhide T11_2_6_5_9).t tb rfl).2 1).2
          have x2 := (heap_at ((unhide T11_2_6_5_9).t tb rfl).2 2).2
          have x3 := (heap_at ((unhide T11_2_6_5_9).t tb rfl).2 3).2
          have TF := hide hT3
          have BF := hide hb3
          clear hT3 hb3 e1 e2
          go_simp
          refine hK.out _ _ (unhide SK _ (unhide BF)) (fun hHeld => ?_)
          clear hK K
          refine wpAnyH_done (by kernel_rfl) ?_ _
          go_wp2_with fail
          go_meet
          case rel => exact ⟨tb, l', f', rfl, TF, BF⟩
      · have T11_6 := hide (unhide T11).litF
        go_simp
        generalize u11.alloc (.cells #[] 232) = u11_6 at *
        generalize u11.heap.size = g9 at *
        refine hK.out _ _ (unhide SK _ (unhide T11_6).bel) (fun hHeld => ?_)
        clear hK K
        refine wpAnyH_ready (rs := [2]) (by kernel_rfl) (by simp) ?_
        refine AllReadyH.cons rfl (fun K hK => ?_) AllReadyH.nil
        have T11_6_2 := hide (unhide T11_6).litV
        go_simp
        generalize u11_6.alloc (.cells #[] 51) = u11_6_2 at *
        generalize u11_6.heap.size = g5 at *
        refine hK.out _ _ (unhide SK _ (unhide T11_6_2).bel) (fun hHeld => ?_)
        clear hK K
        refine wpAnyH_ready (rs := [5]) (by kernel_rfl) (by simp) ?_
        refine AllReadyH.cons rfl (fun K hK => ?_) AllReadyH.nil
        obtain ⟨g8, k8, u11_6_2_5, hr, hs8⟩ := (unhide T11_6_2).appV (l := ⟨la, ln, lc⟩) (unhide RV) hln (unhide CL)
        have T11_6_2_5 := hide hs8
        clear hs8
        refine us_stepApp rfl (.tmp 8) (.tmp 10) 25 rfl _ _ (.slice (some ⟨g8, 0, none⟩) ln k8) u11_6_2_5 (by first | rfl | (simp [Act.eval]; done) | (simp [Act.eval, Act.put]; done)) (by first | rfl | (simp [Act.eval]; done) | (simp [Act.eval, Act.put]; done)) hr ?_
        clear hr
        refine hK.out _ _ (unhide SK _ (unhide T11_6_2_5).bel) (fun hHeld => ?_)
        clear hK K
        refine wpAnyH_ready (rs := [9]) (by kernel_rfl) (by simp) ?_
        refine AllReadyH.cons rfl (fun K hK => ?_) AllReadyH.nil
        obtain ⟨g12, k12, u11_6_2_5_9, hr, hs8⟩ := (unhide T11_6_2_5).appF (l := ⟨fa, fn, fc⟩) (unhide RF) hfn (unhide CF)
        have T11_6_2_5_9 := hide hs8
        clear hs8
        refine us_stepApp rfl (.tmp 12) (.tmp 14) 26 rfl _ _ (.slice (some ⟨g12, 0, none⟩) fn k12) u11_6_2_5_9 (by first | rfl | (simp [Act.eval]; done) | (simp [Act.eval, Act.put]; done)) (by first | rfl | (simp [Act.eval]; done) | (simp [Act.eval, Act.put]; done)) hr ?_
        clear hr
        refine hK.out _ _ (unhide SK _ (unhide T11_6_2_5_9).bel) (fun hHeld => ?_)
        clear hK K
        refine anyH_take 10 16 (v := ?v21) rfl rfl (by kernel_rfl) (by kernel_rfl) (by kernel_rfl) (fun _ _ _ h => h) (by rfl) ?h21 hHeld ?r21
        case h21 => (intro w hSw; (try dsimp only at hSw); go_simp; try (with_reducible rfl))
        simp only [Act.put, List.setIfInBounds_toArray]
        refine wpAnyH_ready (rs := [12]) (by kernel_rfl) (by simp) ?_
        refine AllReadyH.cons rfl (fun K hK => ?_) AllReadyH.nil
        obtain ⟨l', f', e1, e2, hT3, hb3⟩ := VgSt.store (next := d.next) (unhide T11_6_2_5_9)
        have y0 := (heap_at ((unhide T11_6_2_5_9).t tb rfl).2 0).1
        have y1 := (heap_at ((unhide T11_6_2_5_9).t tb rfl).2 1).1
        have y2 := (heap_at ((unhide T11_6_2_5_9).t tb rfl).2 2).1
        have y3 := (heap_at ((unhide T11_6_2_5_9).t tb rfl).2 3).1
        have x0 := (heap_at ((unhide T11_6_2_5_9).t tb rfl).2 0).2
        have x1 := (heap_at ((unhide T11_6_2_5_9).t tb rfl).2 1).2
        have x2 := (heap_at ((unhide T11_6_2_5_9).t tb rfl).2 2).2
        have x3 := (heap_at ((unhide T11_6_2_5_9).t tb rfl).2 3).2
        have TF := hide hT3
        have BF := hide hb3
        clear hT3 hb3 e1 e2
        go_simp
        refine hK.out _ _ (unhide SK _ (unhide BF)) (fun hHeld => ?_)
        clear hK K
        refine wpAnyH_done (by kernel_rfl) ?_ _
        go_wp2_with fail
        go_meet
        case rel => exact ⟨tb, l', f', rfl, TF, BF⟩
  case rest =>
    obtain ⟨tb, l', f', rfl, hG, hBc⟩ := hcut
    clear e0 e1 e2 RV RF S0 CL CF
    go_wp2_with fail
    go_loopw [4] (fun i wr => ∃ (k : Nat) (s' : Sl) (hs' : List SeH), i = .int .i64 (k : Int) ∧ k ≤ sn ∧ Hid (VgSt wr W.heap.size tb d.next l' f' s' hs' d.list d.fen) ∧ Hid (hs'.map (·.X) = d.ses.take k) ∧ Hid (Below W.heap.size W wr)) (fun i _ => sn - (intOf i).toNat)
    case atStart => exact ⟨0, _, _, rfl, Nat.zero_le _, hG, hide (by simp), hBc⟩
    case round =>
      clear hG hBc
      obtain ⟨k, s', hs', rfl, hk, hG, hX, hB⟩ := hrel
      have kv := ((unhide hB).block w.heap.size hz1).trans (unhide KV)
      have v3 := (heap_at kv 3).1
      have hwr := (unhide hB).size
      have HL := hide (show hs'.length = k by
        have e := congrArg List.length (unhide hX)
        rw [List.length_map, List.length_take, ← (unhide LN).2, (unhide LN).1] at e
        omega)
      by_cases hlt : k < sn
      case neg =>
        obtain rfl : k = sn := by omega
        have ht : d.ses.take k = d.ses := List.take_of_length_le (by rw [← (unhide LN).2, (unhide LN).1]; exact Nat.le_refl _)
        rw [ht] at hX
        have bx := (unhide hG).box
        have kr := ((unhide hB).block (w.heap.size + 1) hz2).trans (unhide KR)
        unfold vzC at bx
        have z0 := (heap_at bx 0).1
        have z1 := (heap_at bx 1).1
        have z2 := (heap_at bx 2).1
        have z3 := (heap_at bx 3).1
        have y0 := (heap_at kr 0).1
        have y1 := (heap_at kr 1).1
        have y2 := (heap_at kr 2).1
        have y3 := (heap_at kr 3).1
        have g0 := (heap_at kr 0).2
        have g1 := (heap_at kr 1).2
        have g2 := (heap_at kr 2).2
        have g3 := (heap_at kr 3).2
        have OWN : VzOwn wr W.heap.size l' f' s' hs' d := ⟨(unhide hG).vo, (unhide hG).fo, (unhide hG).so, unhide hX, (unhide hG).far⟩
        have hS := set4_wr wr (w.heap.size + 1) (.int .i64 d.next) (.slice l'.a l'.n l'.c) (.slice f'.a f'.n f'.c) (.slice s'.a s'.n s'.c)
        have bR := (unhide BH).trans ((unhide hB).mono (Nat.le_of_lt hz1))
        have RES := hide (show OvRes d w (.returned (.agg #[.int .i64 d.next, .slice l'.a l'.n l'.c, .slice f'.a f'.n f'.c, .slice s'.a s'.n s'.c])) _ from ⟨l', f', s', hs', rfl, (OWN.wr hS (fun i e => by rw [e]; exact hz2)).dn (Nat.le_of_lt hz1), bR.trans (WrB.below hS (fun i e => by rw [e]; exact Nat.le_succ _) bR.size)⟩)
        clear kv kr bx OWN hS bR hG hX ht
        go_wp2_with fail
        refine bodyPost_ret (v := .agg #[.int .i64 d.next, .slice l'.a l'.n l'.c, .slice f'.a f'.n f'.c, .slice s'.a s'.n s'.c]) (by simp [results, Tryz.results55, go_sem, *]) rfl ?_
        exact unhide RES
      have hk2 : k < hs.length := by rw [(unhide LN).1]; exact hlt
      have hkn : (k : Int) < (sn : Int) := by omega
      obtain ⟨b, off, rfl, hbl, c0, c1, c2⟩ := SeIn.cells ((unhide HI).below (unhide hB)).sr hk2
      have RW := hide (SeIn.row (unhide HI).sr hk2)
      have CC := hide (unhide CW hs[k] (List.getElem_mem hk2))
      have hwn := unhide SN hs[k] (List.getElem_mem hk2)
      have XN := hide (show ∀ y : SeH, y.X = hs[k].X → (hs' ++ [y]).map (·.X) = d.ses.take (k + 1) from fun y e => by
        obtain ⟨hd, hx⟩ := (unhide HI).at hk2
        rw [rb_take_snoc d.ses k hd, List.map_append, unhide hX, List.map_singleton, e, hx])
      generalize hs[k] = x at *
      obtain ⟨⟨xo, xt, ws⟩, ⟨wa, wn, wc⟩⟩ := x
      simp only at c0 c1 c2 RW CC hwn XN
      have bA : Below wr.heap.size wr (wr.alloc (.cells #[.bool xo, .int .i64 xt, .slice wa wn wc] 212)) := (Below.refl _ _).alloc (Nat.le_refl _) _
      have kA := heap_alloc_new wr (.cells #[.bool xo, .int .i64 xt, .slice wa wn wc] 212)
      have BA := hide bA
      have KA := hide kA
      clear bA kA kv hX
      go_upto_region 6 with fail
      clear c0 c1 c2 v3 hkn
      generalize hwa : wr.alloc (.cells #[.bool xo, .int .i64 xt, .slice wa wn wc] 212) = u1 at *
      clear hwa
      have hsb : wr.heap.size < u1.heap.size := blk_lt (unhide KA)
      have hu1 := (unhide BA).size
      have bL : Below u1.heap.size u1 (u1.alloc (.cells #[] 51)) := (Below.refl _ _).alloc (Nat.le_refl _) _
      have OL := nil_lit (w := u1) 51 4
      have BL := (unhide BA).trans (bL.mono hu1)
      obtain ⟨g6, k6, u2, hr6, ho6, hg6, -⟩ := v_appS (ds := []) (c := wc) 25 OL (by simp) ((unhide RW).below ((unhide hB).trans (BL.mono hwr))) (unhide CC).2 (by simp; omega) bL.size
      have hw6 := WrB.of_grown hg6
      simp only [List.length_nil, Nat.zero_add, List.nil_append] at hr6 ho6
      have B2 := bL.trans (WrB.below hw6 (fun i hi => (OL.lt i hi).1) bL.size)
      have KB := (B2.block wr.heap.size hsb).trans (unhide KA)
      have q2 := (heap_at KB 2).1
      have p2 := (heap_at KB 2).2
      have KC : (u2.setCell ⟨wr.heap.size, 2, none⟩ (.slice (some ⟨g6, 0, none⟩) wn k6)).heap[wr.heap.size]? = some (.cells #[.bool xo, .int .i64 xt, .slice (some ⟨g6, 0, none⟩) wn k6] 212 (0, 0)) := by have := heap_set KB 2 (.slice (some ⟨g6, 0, none⟩) wn k6); simpa using this
      have hS6 := set1_wr u2 wr.heap.size 2 (.slice (some ⟨g6, 0, none⟩) wn k6)
      have B3 := hide (show Below wr.heap.size wr (u2.setCell ⟨wr.heap.size, 2, none⟩ (.slice (some ⟨g6, 0, none⟩) wn k6)) from ((unhide BA).trans (B2.mono hu1)).trans (WrB.below hS6 (fun i e => by rw [e]; exact Nat.le_refl _) (Nat.le_trans hu1 B2.size)))
      have O3 := hide (gd_base (own_keep ho6 KB (by decide) hS6) hu1)
      have KD := hide KC
      have z2 := (heap_at (unhide KA) 2).1
      have z2L : (u1.alloc (.cells #[] 51)).cell? ⟨wr.heap.size, 2, none⟩ = some (.slice wa wn wc) := (bL.cell (p := ⟨wr.heap.size, 2, none⟩) hsb).trans z2
      clear hw6 hg6 ho6 KB KC hS6 B2 bL OL BL z2
      clear KA BA
      go_upto_region 7 with (at_builtin; refine ky_wpApp rfl (.tmp 29) (.tmp 31) 25 rfl _ _ _ u2 rfl rfl hr6 ?_)
      clear hr6 q2 p2 z2L hsb hu1
      generalize u2.setCell ⟨wr.heap.size, 2, none⟩ (.slice (some ⟨g6, 0, none⟩) wn k6) = u3 at *
      obtain ⟨s5, u5, hs5, hr5, G5, B5, K5, E5⟩ := (unhide hG).ses (unhide B3) ⟨⟨xo, xt, ws⟩, ⟨some ⟨g6, 0, none⟩, wn, k6⟩⟩ (unhide O3) (by rw [unhide HL]; omega) hwr
      have bx := ((unhide hG).below (unhide B3)).box
      unfold vzC at bx K5
      have t3 := (heap_at bx 3).1
      have r0 := (heap_at (unhide KD) 0).1
      have r1 := (heap_at (unhide KD) 1).1
      have r2 := (heap_at (unhide KD) 2).1
      have t5 := (heap_at K5 3).1
      have p5 := (heap_at K5 3).2
      have GX := hide G5
      have BX := hide ((unhide hB).trans B5)
      have XX := hide (unhide XN ⟨⟨xo, xt, ws⟩, ⟨some ⟨g6, 0, none⟩, wn, k6⟩⟩ rfl)
      simp only at hr5
      clear G5 B5 K5 E5 bx KD B3 O3 hG hB hs5
      obtain ⟨s5a, s5n, s5c⟩ := s5
      obtain ⟨s'a, s'n, s'c⟩ := s'
      simp only at hr5 t3 t5 GX BX
      go_wp2_with (at_builtin; refine ky_wpApp rfl (.tmp 35) (.tmp 37) 27 rfl _ _ _ u5 rfl rfl hr5 ?_)
      go_roundw
      case rel => exact ⟨k + 1, _, _, by go_num, by omega, GX, XX, BX⟩
      case measure => simp [intOf]; omega
end Go.Proofs.YtcflepnckjappaaGreat

namespace Go.Proofs.YtcflepnckjappaaGreat
open Go.RowKit

def noSe : SeH := ⟨clS, ⟨none, 0, 0⟩⟩
theorem no_el : ∀ n : Nat, ((List.replicate n noSe).map seEl).flatMap (·.hd) = (List.replicate n [Value.bool false, .int .i64 0, .slice none 0 0]).flatten
  | 0 => rfl
  | n + 1 => by rw [List.replicate_succ, List.replicate_succ, List.map_cons, List.flatMap_cons, no_el n]; rfl
theorem no_own {w : World} {B g : Nat} (h : w.ownsRow B 212 3 (.slice (some ⟨g, 0, none⟩) 4 4) 4 (madeCells #[Value.bool false, .int .i64 0, .slice none 0 0] (4 * 3)).toList) : SeOwn w B (.slice (some ⟨g, 0, none⟩) 4 4) (List.replicate 4 noSe) := by
  have sb : ∀ k a x, sbAt ((List.replicate 4 noSe).map seEl) k a = some x → x.v = .slice none 0 0 ∧ x.n = 0 ∧ x.cs = [] := fun k a x hx => by
    obtain ⟨e, he, hxe⟩ := sbAt_mem hx
    obtain ⟨y, hy, rfl⟩ := List.mem_map.1 he
    rw [List.eq_of_mem_replicate hy] at hxe
    rw [List.mem_singleton.1 hxe]
    exact ⟨rfl, rfl, rfl⟩
  refine ⟨?_, rfl, seEl_wid _, fun k a x hx => ?_, fun k l a b x y hx hy _ g h1 => ?_, fun k a x hx g _ h1 => ?_⟩
  · rw [no_el, ← smade]
    exact h
  · obtain ⟨e1, e2, e3⟩ := sb k a x hx
    rw [e1, e2, e3]
    exact World.ownsRow_nil _ _ _ _
  · rw [(sb k a x hx).1] at h1; cases h1
  · rw [(sb k a x hx).1] at h1; cases h1
set_option maxRecDepth 100000 in
set_option maxHeartbeats 1000000 in
theorem l06New_any (w : World) : Calls Tryz.prog 51 #[] w fun e w' => OvRes newV w e w' := by
  obtain ⟨i0, hi, hz0, hz1, hz2⟩ := info_parts Tryz.infoSe
  have bA : Below w.heap.size w (w.alloc (.cells #[.int .i64 0, .slice none 0 0, .slice none 0 0, .slice none 0 0] 29)) := (Below.refl _ _).alloc (Nat.le_refl _) _
  have kA := heap_alloc_new w (.cells #[.int .i64 0, .slice none 0 0, .slice none 0 0, .slice none 0 0] 29)
  have hz : w.heap.size < (w.alloc (.cells #[.int .i64 0, .slice none 0 0, .slice none 0 0, .slice none 0 0] 29)).heap.size := by simp
  go_enter Tryz.func51, Tryz.ntmps51
  go_upto_region 1 with fail
  generalize w.alloc (.cells #[.int .i64 0, .slice none 0 0, .slice none 0 0, .slice none 0 0] 29) = W at *
  go_wp2_with (at_make; refine wpList_make_full _ rfl _ _ 27 rfl W.heap.size 212 i0 _ 3 Tryz.underlying27 hi hz0 hz1 _ _ _ _ 4 rfl rfl rfl rfl (by rw [hz2]; omega) (by unfold maxLen; omega) (Nat.le_refl _) ?_)
  intro w1 hown hgrow
  have b1 : Below W.heap.size W w1 := (Below.refl _ _).grown hgrow (Nat.le_refl _) (fun k hk => by cases hk)
  have k1 := (b1.block w.heap.size hz).trans kA
  have y0 := (heap_at k1 0).1
  have y1 := (heap_at k1 1).1
  have y2 := (heap_at k1 2).1
  have y3 := (heap_at k1 3).1
  have g0 := (heap_at k1 0).2
  have g1 := (heap_at k1 1).2
  have g2 := (heap_at k1 2).2
  have g3 := (heap_at k1 3).2
  have OWN : VzOwn w1 W.heap.size ⟨none, 0, 0⟩ ⟨none, 0, 0⟩ ⟨some ⟨W.heap.size, 0, none⟩, 4, 4⟩ (List.replicate 4 noSe) newV := ⟨World.ownsRow_nil _ _ _ _, World.ownsRow_nil _ _ _ _, no_own hown, rfl, fun i hi => by cases hi⟩
  have hS := set4_wr w1 w.heap.size (.int .i64 1) (.slice none 0 0) (.slice none 0 0) (.slice (some ⟨W.heap.size, 0, none⟩) 4 4)
  have bR := bA.trans (b1.mono (Nat.le_of_lt hz))
  have RES := hide (show OvRes newV w (.returned (.agg #[.int .i64 1, .slice none 0 0, .slice none 0 0, .slice (some ⟨W.heap.size, 0, none⟩) 4 4])) _ from ⟨⟨none, 0, 0⟩, ⟨none, 0, 0⟩, ⟨some ⟨W.heap.size, 0, none⟩, 4, 4⟩, _, rfl, (OWN.wr hS (fun i e => by rw [e]; exact hz)).dn (Nat.le_of_lt hz), bR.trans (WrB.below hS (fun i e => by rw [e]; exact Nat.le_refl _) bR.size)⟩)
  clear OWN hS bR hown hgrow k1 kA
  go_wp2_with fail
  refine bodyPost_ret (v := .agg #[.int .i64 1, .slice none 0 0, .slice none 0 0, .slice (some ⟨W.heap.size, 0, none⟩) 4 4]) (by simp [results, Tryz.results51, go_sem, *]) rfl ?_
  exact unhide RES
end Go.Proofs.YtcflepnckjappaaGreat
