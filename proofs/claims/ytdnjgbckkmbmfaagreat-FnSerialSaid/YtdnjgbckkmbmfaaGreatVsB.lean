/-
  The specification's test of a list of versions.
-/
import Derived.Test.YtdnjgbckkmbmfaaGreatVsA
import Derived.Deep.Cut
namespace Go.Proofs.YtdnjgbckkmbmfaaGreat
open Go.RowKit

theorem vs_step {ds : List VerD} {k : Nat} {b : Bool} (hk : k < ds.length) (hok : ∀ i, i < k → okAtV ds i = true) (h : okAtV ds k = b) : if b = true then ∀ i, i < k + 1 → okAtV ds i = true else okVs ds = false := by
 cases b
 ·exact okVs_false hk h
 ·intro i hi
  by_cases e : i < k
  ·exact hok i e
  ·rw [show i = k by omega]; exact h
set_option maxRecDepth 100000 in
set_option maxHeartbeats 8000000 in
theorem l06List_any (a : Option Addr) (n c : Nat) (ds : List VerD) (w : World) (hn : n ≤ 1048576) (hr : VRow w a n ds) :
  Calls Tryz.prog 43 #[.slice a n c] w fun e w' => e = .returned (.bool (okVs ds)) ∧ Below w.heap.size w w' := by
 have L := hide hr.1
 have R := hide hr
 clear hr
 go_enter Tryz.func43, Tryz.ntmps43
 go_wp2_with fail
 go_loopw [3] (fun i wr => ∃ k : Nat, k ≤ n ∧ i = .int .i64 k ∧ Hid (∀ i, i < k → okAtV ds i = true) ∧ Hid (Below w.heap.size w wr)) (fun i _ => n - (intOf i).toNat)
 case atStart => exact ⟨0, by omega, rfl, (fun i hi => absurd hi (Nat.not_lt_zero _)), Below.refl _ _⟩
 case round =>
  obtain ⟨k, hk, rfl, hok, hb⟩ := hrel
  by_cases hlt : k < n
  ·have hk2 : k < ds.length := by rw [unhide L]; exact hlt
   have hkn : (k : Int) < (n : Int) := by omega
   obtain ⟨b, off, rfl, d0, d1, d2, d3⟩ := ((unhide R).below (unhide hb)).2 k hk2
   have hsz := (unhide hb).size
   have ST := hide (fun b => vs_step (b := b) hk2 (unhide hok))
   have E0 := hide (show k = 0 → okAtV ds k = verK ds[k] from fun e => by subst e; exact okAtV_zero hk2)
   have E1 := hide (show ∀ (h : 0 < k), okAtV ds k = (verK ds[k] && ltV (ds[k - 1]'(by omega)) ds[k]) from fun h => by
    obtain ⟨j, rfl⟩ : ∃ j, k = j + 1 := ⟨k - 1, by omega⟩
    exact okAtV_succ hk2)
   have SV := hide (fun (u : World) (hb : Below wr.heap.size wr u) => (l06Right_any ds[k] u).mono fun e u' h => show e = .returned (.bool (verK ds[k])) ∧ Below wr.heap.size wr u' from ⟨h.1, hb.trans (h.2.mono hb.size)⟩)
   have SC0 := hide (fun j (hj : j < ds.length) (u : World) (hb : Below wr.heap.size wr u) => (l06Before_any ds[j] ds[k] u).mono fun e u' h => show e = .returned (.bool (ltV ds[j] ds[k])) ∧ Below wr.heap.size wr u' from ⟨h.1, hb.trans (h.2.mono hb.size)⟩)
   generalize ds[k] = pd at *
   obtain ⟨pk, pt, pv, pg⟩ := pd
   simp only at d0 d1 d2 d3
   unfold vv at SV SC0
   simp only at SV SC0
   clear hok
   have BE := hide (show ∀ u, Below wr.heap.size wr u → Below w.heap.size w u from fun u hb' => (unhide hb).trans (hb'.mono hsz))
   have SK := hide (show ∀ u, Below wr.heap.size wr u → (fun u => Below wr.heap.size wr u ∧ u.cell? ⟨b, off + k * 4, none⟩ = some (.string pk) ∧ u.cell? ⟨b, off + k * 4 + 1, none⟩ = some (.int .i64 pt) ∧ u.cell? ⟨b, off + k * 4 + 2, none⟩ = some (.string pv) ∧ u.cell? ⟨b, off + k * 4 + 3, none⟩ = some (.bool pg)) u from fun u hb =>
    ⟨hb, (hb.cell (p := ⟨b, off + k * 4, none⟩) (cell_lt d0)).trans d0, (hb.cell (p := ⟨b, off + k * 4 + 1, none⟩) (cell_lt d1)).trans d1, (hb.cell (p := ⟨b, off + k * 4 + 2, none⟩) (cell_lt d2)).trans d2, (hb.cell (p := ⟨b, off + k * 4 + 3, none⟩) (cell_lt d3)).trans d3⟩)
   have G0 : Below wr.heap.size wr wr.drew := (Below.refl _ _).drew
   clear d0 d1 d2 d3
   go_upto_region 4 with fail
   generalize hvk : verK ⟨pk, pt, pv, pg⟩ = vk at *
   cases vk
   ·have Z := hide (show okVs ds = false by
     have := unhide ST false (by
      by_cases h0 : k = 0
      ·exact unhide E0 h0
      ·rw [unhide E1 (by omega)]; rfl)
     simpa using this)
    refine wp_region_held_drew (S := (fun u => Below wr.heap.size wr u ∧ u.cell? ⟨b, off + k * 4, none⟩ = some (.string pk) ∧ u.cell? ⟨b, off + k * 4 + 1, none⟩ = some (.int .i64 pt) ∧ u.cell? ⟨b, off + k * 4 + 2, none⟩ = some (.string pv) ∧ u.cell? ⟨b, off + k * 4 + 3, none⟩ = some (.bool pg))) (by kernel_rfl) (unhide SK _ G0) (fun hHeld => ?_)
    refine tk 0 10 rfl rfl hHeld ?_
    simp only [Act.put, lA, lB, lC]
    refine tk 1 11 rfl rfl hHeld ?_
    simp only [Act.put, lA, lB, lC]
    refine tk 2 12 rfl rfl hHeld ?_
    simp only [Act.put, lA, lB, lC]
    refine tk 3 13 rfl rfl hHeld ?_
    simp only [Act.put, lA, lB, lC]
    refine rd [4] (.cons rfl (fun K hK => ?_) .nil)
    go_simp
    refine (unhide SV _ G0).mono ?_
    rintro e w2 ⟨rfl, b2⟩
    refine hK.out _ _ (unhide SK _ b2) (fun hHeld => ?_)
    clear hK K
    refine tk 5 15 rfl rfl hHeld ?_
    simp only [Act.put, lA, lB, lC]
    refine tk 6 16 rfl rfl hHeld ?_
    simp only [Act.put, lA, lB, lC]
    refine anyH_skip 7 17 rfl rfl (by kernel_rfl) (by kernel_rfl) (by kernel_rfl) (fun _ _ _ h => h) (by rfl) hHeld ?_
    simp only [Act.put, lA, lB, lC]
    refine anyH_skip 8 18 rfl rfl (by kernel_rfl) (by kernel_rfl) (by kernel_rfl) (fun _ _ _ h => h) (by rfl) hHeld ?_
    simp only [Act.put, lA, lB, lC]
    refine anyH_skip 9 19 rfl rfl (by kernel_rfl) (by kernel_rfl) (by kernel_rfl) (fun _ _ _ h => h) (by rfl) hHeld ?_
    simp only [Act.put, lA, lB, lC]
    refine anyH_skip 10 20 rfl rfl (by kernel_rfl) (by kernel_rfl) (by kernel_rfl) (fun _ _ _ h => h) (by rfl) hHeld ?_
    simp only [Act.put, lA, lB, lC]
    refine anyH_skip 11 21 rfl rfl (by kernel_rfl) (by kernel_rfl) (by kernel_rfl) (fun _ _ _ h => h) (by rfl) hHeld ?_
    simp only [Act.put, lA, lB, lC]
    refine anyH_skip 12 22 rfl rfl (by kernel_rfl) (by kernel_rfl) (by kernel_rfl) (fun _ _ _ h => h) (by rfl) hHeld ?_
    simp only [Act.put, lA, lB, lC]
    refine anyH_skip 13 23 rfl rfl (by kernel_rfl) (by kernel_rfl) (by kernel_rfl) (fun _ _ _ h => h) (by rfl) hHeld ?_
    simp only [Act.put, lA, lB, lC]
    refine anyH_skip 14 24 rfl rfl (by kernel_rfl) (by kernel_rfl) (by kernel_rfl) (fun _ _ _ h => h) (by rfl) hHeld ?_
    simp only [Act.put, lA, lB, lC]
    refine anyH_skip 15 25 rfl rfl (by kernel_rfl) (by kernel_rfl) (by kernel_rfl) (fun _ _ _ h => h) (by rfl) hHeld ?_
    simp only [Act.put, lA, lB, lC]
    refine anyH_skip 16 26 rfl rfl (by kernel_rfl) (by kernel_rfl) (by kernel_rfl) (fun _ _ _ h => h) (by rfl) hHeld ?_
    simp only [Act.put, lA, lB, lC]
    refine anyH_skip 17 27 rfl rfl (by kernel_rfl) (by kernel_rfl) (by kernel_rfl) (fun _ _ _ h => h) (by rfl) hHeld ?_
    simp only [Act.put, lA, lB, lC]
    refine anyH_skip 18 28 rfl rfl (by kernel_rfl) (by kernel_rfl) (by kernel_rfl) (fun _ _ _ h => h) (by rfl) hHeld ?_
    simp only [Act.put, lA, lB, lC]
    refine anyH_skip 19 29 rfl rfl (by kernel_rfl) (by kernel_rfl) (by kernel_rfl) (fun _ _ _ h => h) (by rfl) hHeld ?_
    simp only [Act.put, lA, lB, lC]
    refine anyH_skip 20 30 rfl rfl (by kernel_rfl) (by kernel_rfl) (by kernel_rfl) (fun _ _ _ h => h) (by rfl) hHeld ?_
    simp only [Act.put, lA, lB, lC]
    refine anyH_skip 21 31 rfl rfl (by kernel_rfl) (by kernel_rfl) (by kernel_rfl) (fun _ _ _ h => h) (by rfl) hHeld ?_
    simp only [Act.put, lA, lB, lC]
    refine tk 22 32 rfl rfl hHeld ?_
    simp only [Act.put, lA, lB, lC]
    refine wpAnyH_done (by kernel_rfl) ?_ _
    have BF := unhide BE _ b2
    go_wp2_with fail
    go_ret
    exact ⟨ret_bool (unhide Z).symm, BF⟩
   ·by_cases hk0 : k = 0
    ·have Z := hide (show ∀ i, i < k + 1 → okAtV ds i = true by
      have := unhide ST true (unhide E0 hk0)
      simpa using this)
     have hg : decide ((0 : Int) < (k : Int)) = false := decide_eq_false (by omega)
     have hg1 : decide (0 < k) = false := decide_eq_false (by omega)
     clear hk0
     refine wp_region_held_drew (S := (fun u => Below wr.heap.size wr u ∧ u.cell? ⟨b, off + k * 4, none⟩ = some (.string pk) ∧ u.cell? ⟨b, off + k * 4 + 1, none⟩ = some (.int .i64 pt) ∧ u.cell? ⟨b, off + k * 4 + 2, none⟩ = some (.string pv) ∧ u.cell? ⟨b, off + k * 4 + 3, none⟩ = some (.bool pg))) (by kernel_rfl) (unhide SK _ G0) (fun hHeld => ?_)
     refine tk 0 10 rfl rfl hHeld ?_
     simp only [Act.put, lA, lB, lC]
     refine tk 1 11 rfl rfl hHeld ?_
     simp only [Act.put, lA, lB, lC]
     refine tk 2 12 rfl rfl hHeld ?_
     simp only [Act.put, lA, lB, lC]
     refine tk 3 13 rfl rfl hHeld ?_
     simp only [Act.put, lA, lB, lC]
     refine rd [4] (.cons rfl (fun K hK => ?_) .nil)
     go_simp
     refine (unhide SV _ G0).mono ?_
     rintro e w2 ⟨rfl, b2⟩
     refine hK.out _ _ (unhide SK _ b2) (fun hHeld => ?_)
     clear hK K
     refine tk 5 15 rfl rfl hHeld ?_
     simp only [Act.put, lA, lB, lC]
     refine tk 6 16 rfl rfl hHeld ?_
     simp only [Act.put, lA, lB, lC]
     refine tk 7 17 rfl rfl hHeld ?_
     simp only [Act.put, lA, lB, lC]
     refine tk 8 18 rfl rfl hHeld ?_
     simp only [Act.put, lA, lB, lC]
     refine tk 9 19 rfl rfl hHeld ?_
     simp only [Act.put, lA, lB, lC]
     refine anyH_skip 10 20 rfl rfl (by kernel_rfl) (by kernel_rfl) (by kernel_rfl) (fun _ _ _ h => h) (by rfl) hHeld ?_
     simp only [Act.put, lA, lB, lC]
     refine anyH_skip 11 21 rfl rfl (by kernel_rfl) (by kernel_rfl) (by kernel_rfl) (fun _ _ _ h => h) (by rfl) hHeld ?_
     simp only [Act.put, lA, lB, lC]
     refine anyH_skip 12 22 rfl rfl (by kernel_rfl) (by kernel_rfl) (by kernel_rfl) (fun _ _ _ h => h) (by rfl) hHeld ?_
     simp only [Act.put, lA, lB, lC]
     refine anyH_skip 13 23 rfl rfl (by kernel_rfl) (by kernel_rfl) (by kernel_rfl) (fun _ _ _ h => h) (by rfl) hHeld ?_
     simp only [Act.put, lA, lB, lC]
     refine anyH_skip 14 24 rfl rfl (by kernel_rfl) (by kernel_rfl) (by kernel_rfl) (fun _ _ _ h => h) (by rfl) hHeld ?_
     simp only [Act.put, lA, lB, lC]
     refine anyH_skip 15 25 rfl rfl (by kernel_rfl) (by kernel_rfl) (by kernel_rfl) (fun _ _ _ h => h) (by rfl) hHeld ?_
     simp only [Act.put, lA, lB, lC]
     refine anyH_skip 16 26 rfl rfl (by kernel_rfl) (by kernel_rfl) (by kernel_rfl) (fun _ _ _ h => h) (by rfl) hHeld ?_
     simp only [Act.put, lA, lB, lC]
     refine anyH_skip 17 27 rfl rfl (by kernel_rfl) (by kernel_rfl) (by kernel_rfl) (fun _ _ _ h => h) (by rfl) hHeld ?_
     simp only [Act.put, lA, lB, lC]
     refine anyH_skip 18 28 rfl rfl (by kernel_rfl) (by kernel_rfl) (by kernel_rfl) (fun _ _ _ h => h) (by rfl) hHeld ?_
     simp only [Act.put, lA, lB, lC]
     refine anyH_skip 19 29 rfl rfl (by kernel_rfl) (by kernel_rfl) (by kernel_rfl) (fun _ _ _ h => h) (by rfl) hHeld ?_
     simp only [Act.put, lA, lB, lC]
     refine anyH_skip 20 30 rfl rfl (by kernel_rfl) (by kernel_rfl) (by kernel_rfl) (fun _ _ _ h => h) (by rfl) hHeld ?_
     simp only [Act.put, lA, lB, lC]
     refine tk 21 31 rfl rfl hHeld ?_
     simp only [Act.put, lA, lB, lC]
     refine tk 22 32 rfl rfl hHeld ?_
     simp only [Act.put, lA, lB, lC]
     refine wpAnyH_done (by kernel_rfl) ?_ _
     have BF := unhide BE _ b2
     go_wp2_with fail
     go_roundw
     case rel => exact ⟨k + 1, by omega, by go_num, unhide Z, BF⟩
     case measure => simp [intOf]; omega
    ·have hj : k - 1 < ds.length := by omega
     have hkp : 0 < k := by omega
     obtain ⟨b', off', e', q0, q1, q2, q3⟩ := ((unhide R).below (unhide hb)).2 (k - 1) hj
     cases e'
     have SC := hide (unhide SC0 (k - 1) hj)
     have E1' := hide (unhide E1 hkp)
     clear SC0 E1 E0
     generalize ds[k - 1] = qd at *
     obtain ⟨qk, qt, qv, qg⟩ := qd
     simp only at q0 q1 q2 q3 SC
     generalize ltV ⟨qk, qt, qv, qg⟩ ⟨pk, pt, pv, pg⟩ = lv at *
     have SK2 := hide (show ∀ u, Below wr.heap.size wr u → (fun u => Below wr.heap.size wr u ∧ u.cell? ⟨b, off + k * 4, none⟩ = some (.string pk) ∧ u.cell? ⟨b, off + k * 4 + 1, none⟩ = some (.int .i64 pt) ∧ u.cell? ⟨b, off + k * 4 + 2, none⟩ = some (.string pv) ∧ u.cell? ⟨b, off + k * 4 + 3, none⟩ = some (.bool pg) ∧ u.cell? ⟨b, off + (k - 1) * 4, none⟩ = some (.string qk) ∧ u.cell? ⟨b, off + (k - 1) * 4 + 1, none⟩ = some (.int .i64 qt) ∧ u.cell? ⟨b, off + (k - 1) * 4 + 2, none⟩ = some (.string qv) ∧ u.cell? ⟨b, off + (k - 1) * 4 + 3, none⟩ = some (.bool qg)) u from fun u hb => by
      obtain ⟨x0, x1, x2, x3, x4⟩ := unhide SK u hb
      exact ⟨x0, x1, x2, x3, x4, (hb.cell (p := ⟨b, off + (k - 1) * 4, none⟩) (cell_lt q0)).trans q0, (hb.cell (p := ⟨b, off + (k - 1) * 4 + 1, none⟩) (cell_lt q1)).trans q1, (hb.cell (p := ⟨b, off + (k - 1) * 4 + 2, none⟩) (cell_lt q2)).trans q2, (hb.cell (p := ⟨b, off + (k - 1) * 4 + 3, none⟩) (cell_lt q3)).trans q3⟩)
     have hi1 : ((k : Int) - 1).toNat = k - 1 := by omega
     have hd1 : decide (0 < k) = true := decide_eq_true hkp
     have hd2 : decide ((0 : Int) < (k : Int)) = true := decide_eq_true (by omega)
     have hi2 : (0 : Int) ≤ (k : Int) - 1 := by omega
     have hi4 : (1 : Int) ≤ (k : Int) := by omega
     have hwr : IntKind.i64.wrap ((k : Int) - 1) = (k : Int) - 1 := by rw [IntKind.wrap_i64]; omega
     have hi3 : (k : Int) - 1 < (n : Int) := by omega
     clear q0 q1 q2 q3
     cases lv
     ·have Z := hide (show okVs ds = false by
       have := unhide ST false (by rw [unhide E1']; rfl)
       simpa using this)
      clear E1'
      refine wp_region_held_drew (S := (fun u => Below wr.heap.size wr u ∧ u.cell? ⟨b, off + k * 4, none⟩ = some (.string pk) ∧ u.cell? ⟨b, off + k * 4 + 1, none⟩ = some (.int .i64 pt) ∧ u.cell? ⟨b, off + k * 4 + 2, none⟩ = some (.string pv) ∧ u.cell? ⟨b, off + k * 4 + 3, none⟩ = some (.bool pg) ∧ u.cell? ⟨b, off + (k - 1) * 4, none⟩ = some (.string qk) ∧ u.cell? ⟨b, off + (k - 1) * 4 + 1, none⟩ = some (.int .i64 qt) ∧ u.cell? ⟨b, off + (k - 1) * 4 + 2, none⟩ = some (.string qv) ∧ u.cell? ⟨b, off + (k - 1) * 4 + 3, none⟩ = some (.bool qg))) (by kernel_rfl) (unhide SK2 _ G0) (fun hHeld => ?_)
      refine tk 0 10 rfl rfl hHeld ?_
      simp only [Act.put, lA, lB, lC]
      refine tk 1 11 rfl rfl hHeld ?_
      simp only [Act.put, lA, lB, lC]
      refine tk 2 12 rfl rfl hHeld ?_
      simp only [Act.put, lA, lB, lC]
      refine tk 3 13 rfl rfl hHeld ?_
      simp only [Act.put, lA, lB, lC]
      refine rd [4] (.cons rfl (fun K hK => ?_) .nil)
      go_simp
      refine (unhide SV _ G0).mono ?_
      rintro e w2 ⟨rfl, b2⟩
      refine hK.out _ _ (unhide SK2 _ b2) (fun hHeld => ?_)
      clear hK K
      refine tk 5 15 rfl rfl hHeld ?_
      simp only [Act.put, lA, lB, lC]
      refine tk 6 16 rfl rfl hHeld ?_
      simp only [Act.put, lA, lB, lC]
      refine tk 7 17 rfl rfl hHeld ?_
      simp only [Act.put, lA, lB, lC]
      refine tk 8 18 rfl rfl hHeld ?_
      simp only [Act.put, lA, lB, lC]
      refine tk 9 19 rfl rfl hHeld ?_
      simp only [Act.put, lA, lB, lC]
      refine tk 10 20 rfl rfl hHeld ?_
      simp only [Act.put, lA, lB, lC]
      refine tk 11 21 rfl rfl hHeld ?_
      simp only [Act.put, lA, lB, lC]
      refine tk 12 22 rfl rfl hHeld ?_
      simp only [Act.put, lA, lB, lC]
      refine tk 13 23 rfl rfl hHeld ?_
      simp only [Act.put, lA, lB, lC]
      refine tk 14 24 rfl rfl hHeld ?_
      simp only [Act.put, lA, lB, lC]
      refine tk 15 25 rfl rfl hHeld ?_
      simp only [Act.put, lA, lB, lC]
      refine tk 16 26 rfl rfl hHeld ?_
      simp only [Act.put, lA, lB, lC]
      refine tk 17 27 rfl rfl hHeld ?_
      simp only [Act.put, lA, lB, lC]
      refine tk 18 28 rfl rfl hHeld ?_
      simp only [Act.put, lA, lB, lC]
      refine rd [19] (.cons rfl (fun K hK => ?_) .nil)
      go_simp
      refine (unhide SC _ b2).mono ?_
      rintro e w3 ⟨rfl, b3⟩
      refine hK.out _ _ (unhide SK2 _ b3) (fun hHeld => ?_)
      clear hK K
      refine tk 20 30 rfl rfl hHeld ?_
      simp only [Act.put, lA, lB, lC]
      refine tk 21 31 rfl rfl hHeld ?_
      simp only [Act.put, lA, lB, lC]
      refine tk 22 32 rfl rfl hHeld ?_
      simp only [Act.put, lA, lB, lC]
      refine wpAnyH_done (by kernel_rfl) ?_ _
      have BF := unhide BE _ b3
      go_wp2_with fail
      go_ret
      exact ⟨ret_bool (unhide Z).symm, BF⟩
     ·have Z := hide (show ∀ i, i < k + 1 → okAtV ds i = true by
       have := unhide ST true (by rw [unhide E1']; rfl)
       simpa using this)
      clear E1'
      refine wp_region_held_drew (S := (fun u => Below wr.heap.size wr u ∧ u.cell? ⟨b, off + k * 4, none⟩ = some (.string pk) ∧ u.cell? ⟨b, off + k * 4 + 1, none⟩ = some (.int .i64 pt) ∧ u.cell? ⟨b, off + k * 4 + 2, none⟩ = some (.string pv) ∧ u.cell? ⟨b, off + k * 4 + 3, none⟩ = some (.bool pg) ∧ u.cell? ⟨b, off + (k - 1) * 4, none⟩ = some (.string qk) ∧ u.cell? ⟨b, off + (k - 1) * 4 + 1, none⟩ = some (.int .i64 qt) ∧ u.cell? ⟨b, off + (k - 1) * 4 + 2, none⟩ = some (.string qv) ∧ u.cell? ⟨b, off + (k - 1) * 4 + 3, none⟩ = some (.bool qg))) (by kernel_rfl) (unhide SK2 _ G0) (fun hHeld => ?_)
      refine tk 0 10 rfl rfl hHeld ?_
      simp only [Act.put, lA, lB, lC]
      refine tk 1 11 rfl rfl hHeld ?_
      simp only [Act.put, lA, lB, lC]
      refine tk 2 12 rfl rfl hHeld ?_
      simp only [Act.put, lA, lB, lC]
      refine tk 3 13 rfl rfl hHeld ?_
      simp only [Act.put, lA, lB, lC]
      refine rd [4] (.cons rfl (fun K hK => ?_) .nil)
      go_simp
      refine (unhide SV _ G0).mono ?_
      rintro e w2 ⟨rfl, b2⟩
      refine hK.out _ _ (unhide SK2 _ b2) (fun hHeld => ?_)
      clear hK K
      refine tk 5 15 rfl rfl hHeld ?_
      simp only [Act.put, lA, lB, lC]
      refine tk 6 16 rfl rfl hHeld ?_
      simp only [Act.put, lA, lB, lC]
      refine tk 7 17 rfl rfl hHeld ?_
      simp only [Act.put, lA, lB, lC]
      refine tk 8 18 rfl rfl hHeld ?_
      simp only [Act.put, lA, lB, lC]
      refine tk 9 19 rfl rfl hHeld ?_
      simp only [Act.put, lA, lB, lC]
      refine tk 10 20 rfl rfl hHeld ?_
      simp only [Act.put, lA, lB, lC]
      refine tk 11 21 rfl rfl hHeld ?_
      simp only [Act.put, lA, lB, lC]
      refine tk 12 22 rfl rfl hHeld ?_
      simp only [Act.put, lA, lB, lC]
      refine tk 13 23 rfl rfl hHeld ?_
      simp only [Act.put, lA, lB, lC]
      refine tk 14 24 rfl rfl hHeld ?_
      simp only [Act.put, lA, lB, lC]
      refine tk 15 25 rfl rfl hHeld ?_
      simp only [Act.put, lA, lB, lC]
      refine tk 16 26 rfl rfl hHeld ?_
      simp only [Act.put, lA, lB, lC]
      refine tk 17 27 rfl rfl hHeld ?_
      simp only [Act.put, lA, lB, lC]
      refine tk 18 28 rfl rfl hHeld ?_
      simp only [Act.put, lA, lB, lC]
      refine rd [19] (.cons rfl (fun K hK => ?_) .nil)
      go_simp
      refine (unhide SC _ b2).mono ?_
      rintro e w3 ⟨rfl, b3⟩
      refine hK.out _ _ (unhide SK2 _ b3) (fun hHeld => ?_)
      clear hK K
      refine tk 20 30 rfl rfl hHeld ?_
      simp only [Act.put, lA, lB, lC]
      refine tk 21 31 rfl rfl hHeld ?_
      simp only [Act.put, lA, lB, lC]
      refine tk 22 32 rfl rfl hHeld ?_
      simp only [Act.put, lA, lB, lC]
      refine wpAnyH_done (by kernel_rfl) ?_ _
      have BF := unhide BE _ b3
      go_wp2_with fail
      go_roundw
      case rel => exact ⟨k + 1, by omega, by go_num, unhide Z, BF⟩
      case measure => simp [intOf]; omega
  ·obtain rfl : k = n := by omega
   have Z := hide (show okVs ds = true from okVs_true fun i hi => unhide hok i (by have := unhide L; omega))
   go_wp2_with fail
   go_ret
   exact ⟨ret_bool (unhide Z).symm, unhide hb⟩
end Go.Proofs.YtdnjgbckkmbmfaaGreat
