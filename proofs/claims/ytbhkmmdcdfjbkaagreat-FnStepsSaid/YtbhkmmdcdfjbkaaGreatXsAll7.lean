/-
  XsK, XsKP in one.
-/
import Derived.Test.YtbhkmmdcdfjbkaaGreatXsAll6
import Derived.ProofKit
import Derived.OpenShut
import Derived.ShutString
import Derived.ChangeOld
import Derived.Below
namespace Go.Proofs.YtbhkmmdcdfjbkaaGreat
open Go.RowKit

theorem step_short {ps : List (Option PageD)} {idx : List RefD} (t : Tre ps idx) {a : AcT} (h5 : a.kind = 5) (key : ByteArray) : (downT (stepT ps idx a).ps (stepT ps idx a).idx key).2 ≤ (downT ps idx key).2 := by
  unfold stepT
  rw [if_neg (by omega), if_neg (by omega), if_neg (by omega), if_pos h5]
  unfold atT
  split
  · exact Nat.le_refl _
  · cases hg : getP ps a.id with
    | none => exact Nat.le_refl _
    | some p =>
      obtain ⟨k, hk, _⟩ := getP_lt hg
      rw [hk] at hg
      simp only
      rw [hk, Int.toNat_natCast]
      have h := post_short t hg key
      have e : (posT ps idx k p).ps = ps := by unfold posT; split <;> rfl
      rw [e]
      exact h
theorem tr_nil (w : World) : TrIn w none 0 0 none 0 0 none 0 [] [] [] :=
  ⟨⟨⟨none, 0, rfl, fun j u hu => by cases hu⟩, rfl, fun e he => (by cases he), fun e he => (by cases he)⟩, ⟨none, 0, rfl, fun j u hu => by cases hu⟩, rfl, ⟨rfl, fun i hi => absurd hi (Nat.not_lt_zero _)⟩⟩
/-- Two trees that TreeStep gave are the same. -/
theorem same_res {r : StR} (hT : Tre r.ps r.idx) {w : World} {B1 B2 : Nat} {a1 a2 a3 b1 b2 b3 : Option Addr} {n m c1 c2 c3 n' m' d1 d2 d3 : Nat} {hs hs' : List PpH} {t1 t2 : Int}
    (h1 : (r.code = 0 ∧ t1 = r.told ∧ TsOwn w B1 a1 c1 a2 c2 a3 c3 n m hs r.ps r.idx) ∨ (r.code ≠ 0 ∧ t1 = 0 ∧ a1 = none ∧ n = 0 ∧ c1 = 0 ∧ a2 = none ∧ c2 = 0 ∧ a3 = none ∧ m = 0 ∧ c3 = 0))
    (h2 : (r.code = 0 ∧ t2 = r.told ∧ TsOwn w B2 b1 d1 b2 d2 b3 d3 n' m' hs' r.ps r.idx) ∨ (r.code ≠ 0 ∧ t2 = 0 ∧ b1 = none ∧ n' = 0 ∧ d1 = 0 ∧ b2 = none ∧ d2 = 0 ∧ b3 = none ∧ m' = 0 ∧ d3 = 0)) :
    t1 = t2 ∧ Calls Tryz.prog 9 #[.agg #[.slice a1 n c1, .slice a2 n c2, .slice a3 m c3], .agg #[.slice b1 n' d1, .slice b2 n' d2, .slice b3 m' d3]] w fun e w' => e = .returned (.bool true) ∧ Below w.heap.size w w' := by
  rcases h1 with ⟨e0, e1, o1⟩ | ⟨e0, e1, rfl, rfl, rfl, rfl, rfl, rfl, rfl, rfl⟩
  · rcases h2 with ⟨f0, f1, o2⟩ | ⟨f0, _⟩
    · have ln := o1.ln
      have ln' := o2.ln
      have li := o1.li
      have li' := o2.li
      obtain rfl : n' = n := by omega
      obtain rfl : m' = m := by omega
      have h30 := hT.len.2
      have hil := hT.good.il
      exact ⟨by omega, sameTree_any a1 b1 n' c1 d1 a2 b2 c2 d2 a3 b3 m' c3 d3 hs hs' (r.ps.map (·.isNone)) r.idx w o1.trIn o2.trIn (o2.dat.trans o1.dat.symm) ⟨by omega, by omega⟩ (fun h hh => by have := o1.few hT h hh; omega)⟩
    · exact absurd e0 f0
  · rcases h2 with ⟨f0, _⟩ | ⟨f0, f1, rfl, rfl, rfl, rfl, rfl, rfl, rfl, rfl⟩
    · exact absurd f0 e0
    · exact ⟨by omega, sameTree_any none none 0 0 0 none none 0 0 none none 0 0 0 [] [] [] [] w (tr_nil w) (tr_nil w) rfl ⟨by omega, by omega⟩ (fun h hh => by cases hh)⟩
set_option maxRecDepth 100000 in
set_option maxHeartbeats 16000000 in
theorem fnSteps_law (aa : Option Addr) (na ca : Nat) (zs1 : List Int) (ab : Option Addr) (nb cb : Nat) (zs2 : List Int) (w : World) (h1 : IsRow .u8 w aa na ca zs1) (h2 : IsRow .u8 w ab nb cb zs2) :
    Calls Tryz.prog 4 #[.slice aa na ca, .slice ab nb cb] w fun e w' => e = .returned (.bool true) ∧ Below w.heap.size w w' := by
  obtain ⟨hr1, hm1, _⟩ := row_of_isRow h1
  obtain ⟨hr2, hm2, _⟩ := row_of_isRow h2
  have by1 := hide (bytes_of_isRow h1)
  have by2 := hide (bytes_of_isRow h2)
  clear h1 h2
  unfold maxLen at hm1 hm2
  by_cases hbig : 1048576 < na ∨ 1048576 < nb
  · clear hr1 hr2 by1 by2
    by_cases hb1 : 1048576 < na
    all_goals
      go_enter Tryz.func4, Tryz.ntmps4
      go_wp2_with fail
      go_ret
      exact ⟨rfl, Below.refl _ _⟩
  have hn1 : na ≤ 1048576 := by omega
  have hn2 : nb ≤ 1048576 := by omega
  clear hbig hm1 hm2
  generalize zs1.take na = xs1 at *
  generalize zs2.take nb = xs2 at *
  have R1 := hide hr1
  have R2 := hide hr2
  clear hr1 hr2
  go_enter Tryz.func4, Tryz.ntmps4
  go_wp2_with fail
  refine (treeActsOf_any aa na ca xs1 w (unhide R1) (unhide by1) hn1).mono ?_
  rintro e w1 ⟨ya, yn, yc, acts, rfl, hY, hYl, hb⟩
  have YL := hide hY.1
  have Y := hide hY
  have B := hide hb
  replace R2 := hide (xt_row (unhide R2) hb)
  have hyn : yn ≤ 28 := by rw [← unhide YL]; exact hYl
  clear hY hYl hb R1 by1
  have TR := hide (show Tre (runS acts).ps (runS acts).idx by have h := (runS_tre acts acts.length (Nat.le_refl _)).1; rw [List.take_length] at h; exact h)
  have RC := hide (fun W e W' (h : RtRes acts W e W') => rt_few_con (acts := acts) (by rw [unhide YL]; omega) h)
  rw [unhide YL] at RC
  obtain ⟨ps, hps⟩ : ∃ ps, ps = (runS acts).ps := ⟨_, rfl⟩
  obtain ⟨idx, hidx⟩ : ∃ idx, idx = (runS acts).idx := ⟨_, rfl⟩
  rw [← hps, ← hidx] at TR
  rw [← hps, ← hidx] at RC
  obtain ⟨N, hN⟩ : ∃ N, N = ps.length := ⟨_, rfl⟩
  obtain ⟨M, hM⟩ : ∃ M, M = idx.length := ⟨_, rfl⟩
  rw [← hN, ← hM] at RC
  have hN30 : N ≤ 30 := by rw [hN]; exact (unhide TR).len.2
  have hN1 : 1 ≤ N := by rw [hN]; exact (unhide TR).len.1
  clear hps hidx hN hM
  go_wp2_with fail
  refine (specTreeRun_any ya yn yc acts w1 (unhide Y) (by omega)).mono ?_
  intro e w_t hcon
  obtain ⟨a1_t, c1_t, a2_t, c2_t, a3_t, c3_t, ac_t, cc_t, hs_t, rfl, oo, -, hb⟩ := unhide RC _ _ _ hcon
  clear hcon RC Y YL
  have hb2 : Below w_t.heap.size w_t (w_t.alloc (.cells #[.slice a1_t N c1_t, .slice a2_t N c2_t, .slice a3_t M c3_t] 29)) := (Below.refl _ _).alloc (Nat.le_refl _) _
  have K_t := hide (heap_alloc_new w_t (.cells #[.slice a1_t N c1_t, .slice a2_t N c2_t, .slice a3_t M c3_t] 29))
  have O_t := hide (oo.below hb2)
  have hb3 := hb.trans (hb2.mono hb.size)
  replace B := hide ((unhide B).trans (hb3.mono (unhide B).size))
  replace R2 := hide (xt_row (unhide R2) hb3)
  clear oo hb hb2 hb3
  go_upto_region 4 with fail
  generalize w_t.alloc (.cells #[.slice a1_t N c1_t, .slice a2_t N c2_t, .slice a3_t M c3_t] 29) = b_t at *
  generalize w_t.heap.size = z_t at *
  have hzt := blk_lt (unhide K_t)
  have SK := hide (show ∀ u, Below b_t.heap.size b_t u → u.cell? ⟨z_t, 0, none⟩ = some (.slice a1_t N c1_t) from fun u hu => (heap_at ((hu.block z_t hzt).trans (unhide K_t)) 0).1)
  go_cut [8] (fun v wc => ∃ zb x y, v = .pointer (some ⟨zb, 0, none⟩) ∧ (0 ≤ x ∧ x < 4) ∧ (0 ≤ y ∧ y < (N : Int)) ∧ Hid (wc.heap[zb]? = some (.cells #[.int .i64 (3 + x), .int .i64 y, .string ⟨#[]⟩, .string ⟨#[]⟩] 38 (0, 0))) ∧ Below b_t.heap.size b_t wc)
  case first =>
    refine wp_region_held_drew (S := (fun u => u.cell? ⟨z_t, 0, none⟩ = some (.slice a1_t N c1_t))) (by kernel_rfl) (unhide SK _ ((Below.refl _ _).drew)) (fun hHeld => ?_)
    have Ds := hide (show Below b_t.heap.size b_t b_t.drew from (Below.refl _ _).drew)
    generalize b_t.drew = us at *
    refine anyH_take 0 41 (v := ?v1) rfl rfl (by kernel_rfl) (by kernel_rfl) (by kernel_rfl) (fun _ _ _ h => h) (by rfl) ?h1 hHeld ?r1
    case h1 => (intro w hSw; (try dsimp only at hSw); go_simp; try (with_reducible rfl))
    simp only [Act.put, List.setIfInBounds_toArray, List.set_cons_zero, List.set_cons_succ]
    refine anyH_take 3 44 (v := ?v2) rfl rfl (by kernel_rfl) (by kernel_rfl) (by kernel_rfl) (fun _ _ _ h => h) (by rfl) ?h2 hHeld ?r2
    case h2 => (intro w hSw; (try dsimp only at hSw); go_simp; try (with_reducible rfl))
    simp only [Act.put, List.setIfInBounds_toArray, List.set_cons_zero, List.set_cons_succ]
    refine anyH_take 4 45 (v := ?v3) rfl rfl (by kernel_rfl) (by kernel_rfl) (by kernel_rfl) (fun _ _ _ h => h) (by rfl) ?h3 hHeld ?r3
    case h3 => (intro w hSw; (try dsimp only at hSw); go_simp; try (with_reducible rfl))
    simp only [Act.put, List.setIfInBounds_toArray, List.set_cons_zero, List.set_cons_succ]
    refine anyH_take 5 46 (v := ?v4) rfl rfl (by kernel_rfl) (by kernel_rfl) (by kernel_rfl) (fun _ _ _ h => h) (by rfl) ?h4 hHeld ?r4
    case h4 => (intro w hSw; (try dsimp only at hSw); go_simp; try (with_reducible rfl))
    simp only [Act.put, List.setIfInBounds_toArray, List.set_cons_zero, List.set_cons_succ]
    refine anyH_take 6 47 (v := ?v5) rfl rfl (by kernel_rfl) (by kernel_rfl) (by kernel_rfl) (fun _ _ _ h => h) (by rfl) ?h5 hHeld ?r5
    case h5 => (intro w hSw; (try dsimp only at hSw); go_simp; try (with_reducible rfl))
    simp only [Act.put, List.setIfInBounds_toArray, List.set_cons_zero, List.set_cons_succ]
    refine wpAnyH_ready (rs := [1, 9]) (by kernel_rfl) (by simp) ?_
    refine AllReadyH.cons rfl (fun K hK => ?_) (AllReadyH.cons rfl (fun K hK => ?_) AllReadyH.nil)
    · go_simp
      refine (at_any ab nb cb xs2 4 us (xt_row (unhide R2) (unhide Ds)) (unhide by2) hn2 (by omega) (by omega)).mono ?_
      rintro e u1 ⟨x, rfl, hx0, hx1, dx, hdx⟩
      have hbk : Below us.heap.size us u1 := by rw [hdx]; exact bel_drewN (Below.refl _ _) _
      have D1 := hide ((unhide Ds).trans (hbk.mono (unhide Ds).size))
      have hwx : IntKind.i64.wrap (3 + x) = 3 + x := by rw [IntKind.wrap_i64]; omega
      clear hdx hbk
      refine hK.out _ _ (unhide SK _ (unhide D1)) (fun hHeld => ?_)
      clear hK K
      refine anyH_take 2 43 (v := ?v6) rfl rfl (by kernel_rfl) (by kernel_rfl) (by kernel_rfl) (fun _ _ _ h => h) (by rfl) ?h6 hHeld ?r6
      case h6 => (intro w hSw; (try dsimp only at hSw); go_simp; try (with_reducible rfl))
      simp only [Act.put, List.setIfInBounds_toArray, List.set_cons_zero, List.set_cons_succ]
      refine wpAnyH_ready (rs := [7, 9]) (by kernel_rfl) (by simp) ?_
      refine AllReadyH.cons rfl (fun K hK => ?_) (AllReadyH.cons rfl (fun K hK => ?_) AllReadyH.nil)
      · go_simp
        refine (at1_any ab nb cb xs2 (N : Int) u1 (xt_row (unhide R2) (unhide D1)) (unhide by2) hn2 (by omega) (by omega)).mono ?_
        rintro e u1_7 ⟨y, rfl, hy0, hy1, dy, hdy⟩
        have hbk : Below u1.heap.size u1 u1_7 := by rw [hdy]; exact bel_drewN (Below.refl _ _) _
        have D1_7 := hide ((unhide D1).trans (hbk.mono (unhide D1).size))
        clear hdy hbk
        refine hK.out _ _ (unhide SK _ (unhide D1_7)) (fun hHeld => ?_)
        clear hK K
        refine anyH_take 8 49 (v := ?v7) rfl rfl (by kernel_rfl) (by kernel_rfl) (by kernel_rfl) (fun _ _ _ h => h) (by rfl) ?h7 hHeld ?r7
        case h7 => (intro w hSw; (try dsimp only at hSw); go_simp; try (with_reducible rfl))
        simp only [Act.put, List.setIfInBounds_toArray, List.set_cons_zero, List.set_cons_succ]
        refine wpAnyH_ready (rs := [9]) (by kernel_rfl) (by simp) ?_
        refine AllReadyH.cons rfl (fun K hK => ?_) AllReadyH.nil
        have D1_7_9 := hide ((unhide D1_7).alloc (unhide D1_7).size (.cells #[.int .i64 0, .int .i64 0, .string ⟨#[]⟩, .string ⟨#[]⟩] 38))
        have KN0 := hide (heap_alloc_new u1_7 (.cells #[.int .i64 0, .int .i64 0, .string ⟨#[]⟩, .string ⟨#[]⟩] 38))
        have NZ := hide (show b_t.heap.size ≤ u1_7.heap.size from (unhide D1_7).size)
        go_simp
        generalize u1_7.alloc (.cells #[.int .i64 0, .int .i64 0, .string ⟨#[]⟩, .string ⟨#[]⟩] 38) = u1_7_9 at *
        generalize u1_7.heap.size = nz at *
        refine hK.out _ _ (unhide SK _ (unhide D1_7_9)) (fun hHeld => ?_)
        clear hK K
        refine wpAnyH_ready (rs := [10]) (by kernel_rfl) (by simp) ?_
        refine AllReadyH.cons rfl (fun K hK => ?_) AllReadyH.nil
        obtain ⟨⟨y0, y1, y2, y3⟩, f0, f1, f2, f3⟩ := four_set (unhide KN0)
        have KF := hide (show ((((u1_7_9.setCell ⟨nz, 0, none⟩ (.int .i64 (3 + x))).setCell ⟨nz, 1, none⟩ (.int .i64 y)).setCell ⟨nz, 2, none⟩ (.string ⟨#[]⟩)).setCell ⟨nz, 3, none⟩ (.string ⟨#[]⟩)).heap[nz]? = some (.cells #[.int .i64 (3 + x), .int .i64 y, .string ⟨#[]⟩, .string ⟨#[]⟩] 38 (0, 0)) from by have k1 := heap_set (unhide KN0) 0 (.int .i64 (3 + x)); have k2 := heap_set k1 1 (.int .i64 y); have k3 := heap_set k2 2 (.string ⟨#[]⟩); have k4 := heap_set k3 3 (.string ⟨#[]⟩); simpa using k4)
        have BF := hide (show Below b_t.heap.size b_t ((((u1_7_9.setCell ⟨nz, 0, none⟩ (.int .i64 (3 + x))).setCell ⟨nz, 1, none⟩ (.int .i64 y)).setCell ⟨nz, 2, none⟩ (.string ⟨#[]⟩)).setCell ⟨nz, 3, none⟩ (.string ⟨#[]⟩)) from ((((unhide D1_7_9).setCell (p := ⟨nz, 0, none⟩) (unhide NZ) _).setCell (p := ⟨nz, 1, none⟩) (unhide NZ) _).setCell (p := ⟨nz, 2, none⟩) (unhide NZ) _).setCell (p := ⟨nz, 3, none⟩) (unhide NZ) _)
        go_simp
        refine hK.out _ _ (unhide SK _ (unhide BF)) (fun hHeld => ?_)
        clear hK K
        refine wpAnyH_done (by kernel_rfl) ?_ _
        go_wp2_with fail
        go_meet
        case rel => exact ⟨nz, x, y, rfl, ⟨hx0, hx1⟩, ⟨hy0, hy1⟩, KF, unhide BF⟩
      · have D1_9 := hide ((unhide D1).alloc (unhide D1).size (.cells #[.int .i64 0, .int .i64 0, .string ⟨#[]⟩, .string ⟨#[]⟩] 38))
        have KN0 := hide (heap_alloc_new u1 (.cells #[.int .i64 0, .int .i64 0, .string ⟨#[]⟩, .string ⟨#[]⟩] 38))
        have NZ := hide (show b_t.heap.size ≤ u1.heap.size from (unhide D1).size)
        go_simp
        generalize u1.alloc (.cells #[.int .i64 0, .int .i64 0, .string ⟨#[]⟩, .string ⟨#[]⟩] 38) = u1_9 at *
        generalize u1.heap.size = nz at *
        refine hK.out _ _ (unhide SK _ (unhide D1_9)) (fun hHeld => ?_)
        clear hK K
        refine wpAnyH_ready (rs := [7]) (by kernel_rfl) (by simp) ?_
        refine AllReadyH.cons rfl (fun K hK => ?_) AllReadyH.nil
        go_simp
        refine (at1_any ab nb cb xs2 (N : Int) u1_9 (xt_row (unhide R2) (unhide D1_9)) (unhide by2) hn2 (by omega) (by omega)).mono ?_
        rintro e u1_9_7 ⟨y, rfl, hy0, hy1, dy, hdy⟩
        have hbk : Below u1_9.heap.size u1_9 u1_9_7 := by rw [hdy]; exact bel_drewN (Below.refl _ _) _
        have D1_9_7 := hide ((unhide D1_9).trans (hbk.mono (unhide D1_9).size))
        have KN := hide ((hbk.block nz (blk_lt (unhide KN0))).trans (unhide KN0))
        clear KN0
        have KN0 := KN
        clear KN
        clear hdy hbk
        refine hK.out _ _ (unhide SK _ (unhide D1_9_7)) (fun hHeld => ?_)
        clear hK K
        refine anyH_take 8 49 (v := ?v8) rfl rfl (by kernel_rfl) (by kernel_rfl) (by kernel_rfl) (fun _ _ _ h => h) (by rfl) ?h8 hHeld ?r8
        case h8 => (intro w hSw; (try dsimp only at hSw); go_simp; try (with_reducible rfl))
        simp only [Act.put, List.setIfInBounds_toArray, List.set_cons_zero, List.set_cons_succ]
        refine wpAnyH_ready (rs := [10]) (by kernel_rfl) (by simp) ?_
        refine AllReadyH.cons rfl (fun K hK => ?_) AllReadyH.nil
        obtain ⟨⟨y0, y1, y2, y3⟩, f0, f1, f2, f3⟩ := four_set (unhide KN0)
        have KF := hide (show ((((u1_9_7.setCell ⟨nz, 0, none⟩ (.int .i64 (3 + x))).setCell ⟨nz, 1, none⟩ (.int .i64 y)).setCell ⟨nz, 2, none⟩ (.string ⟨#[]⟩)).setCell ⟨nz, 3, none⟩ (.string ⟨#[]⟩)).heap[nz]? = some (.cells #[.int .i64 (3 + x), .int .i64 y, .string ⟨#[]⟩, .string ⟨#[]⟩] 38 (0, 0)) from by have k1 := heap_set (unhide KN0) 0 (.int .i64 (3 + x)); have k2 := heap_set k1 1 (.int .i64 y); have k3 := heap_set k2 2 (.string ⟨#[]⟩); have k4 := heap_set k3 3 (.string ⟨#[]⟩); simpa using k4)
        have BF := hide (show Below b_t.heap.size b_t ((((u1_9_7.setCell ⟨nz, 0, none⟩ (.int .i64 (3 + x))).setCell ⟨nz, 1, none⟩ (.int .i64 y)).setCell ⟨nz, 2, none⟩ (.string ⟨#[]⟩)).setCell ⟨nz, 3, none⟩ (.string ⟨#[]⟩)) from ((((unhide D1_9_7).setCell (p := ⟨nz, 0, none⟩) (unhide NZ) _).setCell (p := ⟨nz, 1, none⟩) (unhide NZ) _).setCell (p := ⟨nz, 2, none⟩) (unhide NZ) _).setCell (p := ⟨nz, 3, none⟩) (unhide NZ) _)
        go_simp
        refine hK.out _ _ (unhide SK _ (unhide BF)) (fun hHeld => ?_)
        clear hK K
        refine wpAnyH_done (by kernel_rfl) ?_ _
        go_wp2_with fail
        go_meet
        case rel => exact ⟨nz, x, y, rfl, ⟨hx0, hx1⟩, ⟨hy0, hy1⟩, KF, unhide BF⟩
    · have D9 := hide ((unhide Ds).alloc (unhide Ds).size (.cells #[.int .i64 0, .int .i64 0, .string ⟨#[]⟩, .string ⟨#[]⟩] 38))
      have KN0 := hide (heap_alloc_new us (.cells #[.int .i64 0, .int .i64 0, .string ⟨#[]⟩, .string ⟨#[]⟩] 38))
      have NZ := hide (show b_t.heap.size ≤ us.heap.size from (unhide Ds).size)
      go_simp
      generalize us.alloc (.cells #[.int .i64 0, .int .i64 0, .string ⟨#[]⟩, .string ⟨#[]⟩] 38) = u9 at *
      generalize us.heap.size = nz at *
      refine hK.out _ _ (unhide SK _ (unhide D9)) (fun hHeld => ?_)
      clear hK K
      refine wpAnyH_ready (rs := [1]) (by kernel_rfl) (by simp) ?_
      refine AllReadyH.cons rfl (fun K hK => ?_) AllReadyH.nil
      go_simp
      refine (at_any ab nb cb xs2 4 u9 (xt_row (unhide R2) (unhide D9)) (unhide by2) hn2 (by omega) (by omega)).mono ?_
      rintro e u9_1 ⟨x, rfl, hx0, hx1, dx, hdx⟩
      have hbk : Below u9.heap.size u9 u9_1 := by rw [hdx]; exact bel_drewN (Below.refl _ _) _
      have D9_1 := hide ((unhide D9).trans (hbk.mono (unhide D9).size))
      have KN := hide ((hbk.block nz (blk_lt (unhide KN0))).trans (unhide KN0))
      clear KN0
      have KN0 := KN
      clear KN
      have hwx : IntKind.i64.wrap (3 + x) = 3 + x := by rw [IntKind.wrap_i64]; omega
      clear hdx hbk
      refine hK.out _ _ (unhide SK _ (unhide D9_1)) (fun hHeld => ?_)
      clear hK K
      refine anyH_take 2 43 (v := ?v9) rfl rfl (by kernel_rfl) (by kernel_rfl) (by kernel_rfl) (fun _ _ _ h => h) (by rfl) ?h9 hHeld ?r9
      case h9 => (intro w hSw; (try dsimp only at hSw); go_simp; try (with_reducible rfl))
      simp only [Act.put, List.setIfInBounds_toArray, List.set_cons_zero, List.set_cons_succ]
      refine wpAnyH_ready (rs := [7]) (by kernel_rfl) (by simp) ?_
      refine AllReadyH.cons rfl (fun K hK => ?_) AllReadyH.nil
      go_simp
      refine (at1_any ab nb cb xs2 (N : Int) u9_1 (xt_row (unhide R2) (unhide D9_1)) (unhide by2) hn2 (by omega) (by omega)).mono ?_
      rintro e u9_1_7 ⟨y, rfl, hy0, hy1, dy, hdy⟩
      have hbk : Below u9_1.heap.size u9_1 u9_1_7 := by rw [hdy]; exact bel_drewN (Below.refl _ _) _
      have D9_1_7 := hide ((unhide D9_1).trans (hbk.mono (unhide D9_1).size))
      have KN := hide ((hbk.block nz (blk_lt (unhide KN0))).trans (unhide KN0))
      clear KN0
      have KN0 := KN
      clear KN
      clear hdy hbk
      refine hK.out _ _ (unhide SK _ (unhide D9_1_7)) (fun hHeld => ?_)
      clear hK K
      refine anyH_take 8 49 (v := ?v10) rfl rfl (by kernel_rfl) (by kernel_rfl) (by kernel_rfl) (fun _ _ _ h => h) (by rfl) ?h10 hHeld ?r10
      case h10 => (intro w hSw; (try dsimp only at hSw); go_simp; try (with_reducible rfl))
      simp only [Act.put, List.setIfInBounds_toArray, List.set_cons_zero, List.set_cons_succ]
      refine wpAnyH_ready (rs := [10]) (by kernel_rfl) (by simp) ?_
      refine AllReadyH.cons rfl (fun K hK => ?_) AllReadyH.nil
      obtain ⟨⟨y0, y1, y2, y3⟩, f0, f1, f2, f3⟩ := four_set (unhide KN0)
      have KF := hide (show ((((u9_1_7.setCell ⟨nz, 0, none⟩ (.int .i64 (3 + x))).setCell ⟨nz, 1, none⟩ (.int .i64 y)).setCell ⟨nz, 2, none⟩ (.string ⟨#[]⟩)).setCell ⟨nz, 3, none⟩ (.string ⟨#[]⟩)).heap[nz]? = some (.cells #[.int .i64 (3 + x), .int .i64 y, .string ⟨#[]⟩, .string ⟨#[]⟩] 38 (0, 0)) from by have k1 := heap_set (unhide KN0) 0 (.int .i64 (3 + x)); have k2 := heap_set k1 1 (.int .i64 y); have k3 := heap_set k2 2 (.string ⟨#[]⟩); have k4 := heap_set k3 3 (.string ⟨#[]⟩); simpa using k4)
      have BF := hide (show Below b_t.heap.size b_t ((((u9_1_7.setCell ⟨nz, 0, none⟩ (.int .i64 (3 + x))).setCell ⟨nz, 1, none⟩ (.int .i64 y)).setCell ⟨nz, 2, none⟩ (.string ⟨#[]⟩)).setCell ⟨nz, 3, none⟩ (.string ⟨#[]⟩)) from ((((unhide D9_1_7).setCell (p := ⟨nz, 0, none⟩) (unhide NZ) _).setCell (p := ⟨nz, 1, none⟩) (unhide NZ) _).setCell (p := ⟨nz, 2, none⟩) (unhide NZ) _).setCell (p := ⟨nz, 3, none⟩) (unhide NZ) _)
      go_simp
      refine hK.out _ _ (unhide SK _ (unhide BF)) (fun hHeld => ?_)
      clear hK K
      refine wpAnyH_done (by kernel_rfl) ?_ _
      go_wp2_with fail
      go_meet
      case rel => exact ⟨nz, x, y, rfl, ⟨hx0, hx1⟩, ⟨hy0, hy1⟩, KF, unhide BF⟩
  case rest =>
    obtain ⟨zb, x, y, rfl, ⟨hx0, hx1⟩, ⟨hy0, hy1⟩, hKA, hb⟩ := hcut
    replace K_t := hide ((hb.block z_t hzt).trans (unhide K_t))
    replace O_t := hide ((unhide O_t).below hb)
    replace R2 := hide (xt_row (unhide R2) hb)
    replace B := hide ((unhide B).trans (hb.mono (unhide B).size))
    clear hb SK
    obtain ⟨ac, hac⟩ : ∃ ac : AcT, ac = ⟨3 + x, y, ⟨#[]⟩, ⟨#[]⟩⟩ := ⟨_, rfl⟩
    have hk3 : ac.kind = 3 + x := by rw [hac]
    have HI := hide (fun (u : World) (Bq : Nat) (hu : TsOwn u Bq a1_t c1_t a2_t c2_t a3_t c3_t N M hs_t ps idx) => implTreeStep_any Bq a1_t c1_t a2_t c2_t a3_t c3_t N M hs_t ps idx ac u hu (unhide TR))
    have HSp := hide (fun (u : World) (Bq : Nat) (hu : TsOwn u Bq a1_t c1_t a2_t c2_t a3_t c3_t N M hs_t ps idx) => specTreeStep_any Bq a1_t c1_t a2_t c2_t a3_t c3_t N M hs_t ps idx ac u hu (unhide TR) (by rw [hac]; show (⟨#[]⟩ : ByteArray).size ≤ 65536; decide) (by rw [hac]; show (⟨#[]⟩ : ByteArray).size ≤ 65536; decide))
    have TR' := hide (stepT_tre (unhide TR) ac)
    have EN := hide (show treeE (stepT ps idx ac).ps = treeE ps by rw [stepT_ents (unhide TR), if_neg (fun h => by have := h.2; omega)])
    have SH := hide (fun (key : ByteArray) (h : x = 2) => step_short (unhide TR) (a := ac) (by omega) key)
    obtain ⟨r, hr⟩ : ∃ r, r = stepT ps idx ac := ⟨_, rfl⟩
    rw [← hr] at HI HSp TR' EN SH
    rw [hac] at HI HSp
    simp only at HI HSp
    clear hr hac hk3 ac
    have p0 := (heap_at (unhide K_t) 0).1
    have p1 := (heap_at (unhide K_t) 1).1
    have p2 := (heap_at (unhide K_t) 2).1
    have q0 := (heap_at (unhide hKA) 0).1
    have q1 := (heap_at (unhide hKA) 1).1
    have q2 := (heap_at (unhide hKA) 2).1
    have q3 := (heap_at (unhide hKA) 3).1
    go_wp2_with fail
    refine (unhide HI wc _ (unhide O_t)).mono ?_
    rintro e w_u ⟨a1_u, N_u, c1_u, a2_u, c2_u, a3_u, M_u, c3_u, hs_u, t_u, rfl, hU, hb⟩
    have hb2 : Below w_u.heap.size w_u (w_u.alloc (.cells #[.slice a1_u N_u c1_u, .slice a2_u N_u c2_u, .slice a3_u M_u c3_u] 29)) := (Below.refl _ _).alloc (Nat.le_refl _) _
    have K_u := hide (heap_alloc_new w_u (.cells #[.slice a1_u N_u c1_u, .slice a2_u N_u c2_u, .slice a3_u M_u c3_u] 29))
    have U := hide (show (r.code = 0 ∧ t_u = r.told ∧ TsOwn (w_u.alloc (.cells #[.slice a1_u N_u c1_u, .slice a2_u N_u c2_u, .slice a3_u M_u c3_u] 29)) 0 a1_u c1_u a2_u c2_u a3_u c3_u N_u M_u hs_u r.ps r.idx) ∨ (r.code ≠ 0 ∧ t_u = 0 ∧ a1_u = none ∧ N_u = 0 ∧ c1_u = 0 ∧ a2_u = none ∧ c2_u = 0 ∧ a3_u = none ∧ M_u = 0 ∧ c3_u = 0) from by
      rcases hU with ⟨h1, h2, h3⟩ | h
      · exact .inl ⟨h1, h2, (h3.below hb2).dn (Nat.zero_le _)⟩
      · exact .inr h)
    have hb3 := hb.trans (hb2.mono hb.size)
    replace K_t := hide ((hb3.block z_t (blk_lt (unhide K_t))).trans (unhide K_t))
    have KA := hide ((hb3.block zb (blk_lt (unhide hKA))).trans (unhide hKA))
    replace O_t := hide ((unhide O_t).below hb3)
    replace R2 := hide (xt_row (unhide R2) hb3)
    replace B := hide ((unhide B).trans (hb3.mono (unhide B).size))
    clear hb hb2 hb3 hU hKA p0 p1 p2 q0 q1 q2 q3 HI
    go_upto_region 6 with fail
    generalize w_u.alloc (.cells #[.slice a1_u N_u c1_u, .slice a2_u N_u c2_u, .slice a3_u M_u c3_u] 29) = b_u at *
    generalize w_u.heap.size = z_u at *
    have p0 := (heap_at (unhide K_t) 0).1
    have p1 := (heap_at (unhide K_t) 1).1
    have p2 := (heap_at (unhide K_t) 2).1
    have q0 := (heap_at (unhide KA) 0).1
    have q1 := (heap_at (unhide KA) 1).1
    have q2 := (heap_at (unhide KA) 2).1
    have q3 := (heap_at (unhide KA) 3).1
    go_wp2_with fail
    refine (unhide HSp b_u _ (unhide O_t)).mono ?_
    rintro e w_v ⟨a1_v, N_v, c1_v, a2_v, c2_v, a3_v, M_v, c3_v, hs_v, t_v, rfl, hV, hb⟩
    have hb2 : Below w_v.heap.size w_v (w_v.alloc (.cells #[.slice a1_v N_v c1_v, .slice a2_v N_v c2_v, .slice a3_v M_v c3_v] 29)) := (Below.refl _ _).alloc (Nat.le_refl _) _
    have K_v := hide (heap_alloc_new w_v (.cells #[.slice a1_v N_v c1_v, .slice a2_v N_v c2_v, .slice a3_v M_v c3_v] 29))
    have V := hide (show (r.code = 0 ∧ t_v = r.told ∧ TsOwn (w_v.alloc (.cells #[.slice a1_v N_v c1_v, .slice a2_v N_v c2_v, .slice a3_v M_v c3_v] 29)) 0 a1_v c1_v a2_v c2_v a3_v c3_v N_v M_v hs_v r.ps r.idx) ∨ (r.code ≠ 0 ∧ t_v = 0 ∧ a1_v = none ∧ N_v = 0 ∧ c1_v = 0 ∧ a2_v = none ∧ c2_v = 0 ∧ a3_v = none ∧ M_v = 0 ∧ c3_v = 0) from by
      rcases hV with ⟨h1, h2, h3⟩ | h
      · exact .inl ⟨h1, h2, (h3.below hb2).dn (Nat.zero_le _)⟩
      · exact .inr h)
    have hb3 := hb.trans (hb2.mono hb.size)
    replace K_t := hide ((hb3.block z_t (blk_lt (unhide K_t))).trans (unhide K_t))
    replace K_u := hide ((hb3.block z_u (blk_lt (unhide K_u))).trans (unhide K_u))
    replace KA := hide ((hb3.block zb (blk_lt (unhide KA))).trans (unhide KA))
    replace O_t := hide ((unhide O_t).below hb3)
    replace U := hide (show (r.code = 0 ∧ t_u = r.told ∧ TsOwn (w_v.alloc (.cells #[.slice a1_v N_v c1_v, .slice a2_v N_v c2_v, .slice a3_v M_v c3_v] 29)) 0 a1_u c1_u a2_u c2_u a3_u c3_u N_u M_u hs_u r.ps r.idx) ∨ (r.code ≠ 0 ∧ t_u = 0 ∧ a1_u = none ∧ N_u = 0 ∧ c1_u = 0 ∧ a2_u = none ∧ c2_u = 0 ∧ a3_u = none ∧ M_u = 0 ∧ c3_u = 0) from by
      rcases unhide U with ⟨h1, h2, h3⟩ | h
      · exact .inl ⟨h1, h2, h3.below hb3⟩
      · exact .inr h)
    replace R2 := hide (xt_row (unhide R2) hb3)
    replace B := hide ((unhide B).trans (hb3.mono (unhide B).size))
    clear hb hb2 hb3 hV p0 p1 p2 q0 q1 q2 q3 HSp
    go_upto_region 7 with fail
    generalize w_v.alloc (.cells #[.slice a1_v N_v c1_v, .slice a2_v N_v c2_v, .slice a3_v M_v c3_v] 29) = b_v at *
    generalize w_v.heap.size = z_v at *
    obtain ⟨htt, HSM⟩ := same_res (unhide TR') (unhide U) (unhide V)
    subst htt
    have SM := hide HSM
    clear HSM V
    have htn : (t_u != t_u) = false := by simp
    have hcn : (r.code != r.code) = false := by simp
    have u0 := (heap_at (unhide K_u) 0).1
    have u1 := (heap_at (unhide K_u) 1).1
    have u2 := (heap_at (unhide K_u) 2).1
    have v0 := (heap_at (unhide K_v) 0).1
    have v1 := (heap_at (unhide K_v) 1).1
    have v2 := (heap_at (unhide K_v) 2).1
    go_wp2_with fail
    refine (unhide SM).mono ?_
    rintro e s1 ⟨rfl, hb⟩
    replace K_t := hide ((hb.block z_t (blk_lt (unhide K_t))).trans (unhide K_t))
    replace K_u := hide ((hb.block z_u (blk_lt (unhide K_u))).trans (unhide K_u))
    replace KA := hide ((hb.block zb (blk_lt (unhide KA))).trans (unhide KA))
    replace O_t := hide ((unhide O_t).below hb)
    replace R2 := hide (xt_row (unhide R2) hb)
    replace B := hide ((unhide B).trans (hb.mono (unhide B).size))
    have U1 := hide (fun h0 : r.code = 0 => show TsOwn s1 0 a1_u c1_u a2_u c2_u a3_u c3_u N_u M_u hs_u r.ps r.idx from by
      rcases unhide U with ⟨_, _, h3⟩ | ⟨h, _⟩
      · exact h3.below hb
      · exact absurd h0 h)
    clear hb U SM u0 u1 u2 v0 v1 v2 K_v
    by_cases hc : r.code = 0
    case neg =>
      have hcb : (r.code != 0) = true := by rw [bne_iff_ne]; exact hc
      have hcb2 : (r.code == 0) = false := by rw [beq_eq_false_iff_ne]; exact hc
      go_wp2_with fail
      go_ret
      exact ⟨rfl, unhide B⟩
    have hcb : (r.code != 0) = false := by rw [hc]; rfl
    have hcb2 : (r.code == 0) = true := by rw [hc]; rfl
    have O_u := hide (unhide U1 hc)
    clear hc U1
    have capt := own_cap0 (unhide O_t).own.ix
    have capu := own_cap0 (unhide O_u).own.ix
    have DT := hide (unhide O_t).dat
    have DU := hide (unhide O_u).dat
    have LE := hide (tree_few (unhide TR))
    go_wp2_with fail
    refine (treeKeyOf_any ab nb cb xs2 s1 (unhide R2) (unhide by2) hn2).mono ?_
    rintro e s2 ⟨key, rfl, hkey, hb⟩
    replace K_t := hide ((hb.block z_t (blk_lt (unhide K_t))).trans (unhide K_t))
    replace K_u := hide ((hb.block z_u (blk_lt (unhide K_u))).trans (unhide K_u))
    replace KA := hide ((hb.block zb (blk_lt (unhide KA))).trans (unhide KA))
    replace O_t := hide ((unhide O_t).below hb)
    replace O_u := hide ((unhide O_u).below hb)
    replace B := hide ((unhide B).trans (hb.mono (unhide B).size))
    clear hb
    have HKY := hide hkey
    clear R2 by2 hkey
    have p0 := (heap_at (unhide K_t) 0).1
    have p1 := (heap_at (unhide K_t) 1).1
    have p2 := (heap_at (unhide K_t) 2).1
    go_wp2_with fail
    refine (implTreeGet_any _ N _ _ N _ _ M _ hs_t (ps.map (·.isNone)) idx key s2 (unhide O_t).trIn capt).mono ?_
    rw [getA_tre (unhide TR) (unhide DT) (unhide HKY)]
    rintro e s3 ⟨rfl, hb⟩
    replace K_t := hide ((hb.block z_t (blk_lt (unhide K_t))).trans (unhide K_t))
    replace K_u := hide ((hb.block z_u (blk_lt (unhide K_u))).trans (unhide K_u))
    replace KA := hide ((hb.block zb (blk_lt (unhide KA))).trans (unhide KA))
    replace O_t := hide ((unhide O_t).below hb)
    replace O_u := hide ((unhide O_u).below hb)
    replace B := hide ((unhide B).trans (hb.mono (unhide B).size))
    clear hb
    clear p0 p1 p2
    have u0 := (heap_at (unhide K_u) 0).1
    have u1 := (heap_at (unhide K_u) 1).1
    have u2 := (heap_at (unhide K_u) 2).1
    have GU := hide (fun (u : World) (hu : TsOwn u 0 a1_u c1_u a2_u c2_u a3_u c3_u N_u M_u hs_u r.ps r.idx) => implTreeGet_any a1_u N_u c1_u a2_u N_u c2_u a3_u M_u c3_u hs_u (r.ps.map (·.isNone)) r.idx key u hu.trIn capu)
    rw [getA_tre (unhide TR') (unhide DU) (unhide HKY), unhide EN] at GU
    have SHK := hide (unhide SH key)
    obtain ⟨h1, hh1⟩ : ∃ h1, h1 = (downT ps idx key).2 := ⟨_, rfl⟩
    obtain ⟨h2, hh2⟩ : ∃ h2, h2 = (downT r.ps r.idx key).2 := ⟨_, rfl⟩
    rw [← hh1, ← hh2] at SHK
    rw [← hh2] at GU
    rw [← hh1]
    clear hh1 hh2 SH
    obtain ⟨lk, hlk⟩ : ∃ lk, lk = lookE (treeE ps) key := ⟨_, rfl⟩
    rw [← hlk] at GU ⊢
    clear hlk
    have SCT := hide (fun (u : World) (Bq : Nat) (hu : TsOwn u Bq a1_t c1_t a2_t c2_t a3_t c3_t N M hs_t ps idx) => specTreeScan_any a1_t N c1_t a2_t N c2_t a3_t M c3_t hs_t (ps.map (·.isNone)) idx ⟨#[]⟩ ⟨#[]⟩ u hu.trIn (fun h hh => (hu.rows hh).ce))
    have SCU := hide (fun (u : World) (hu : TsOwn u 0 a1_u c1_u a2_u c2_u a3_u c3_u N_u M_u hs_u r.ps r.idx) => implTreeScan_any a1_u N_u c1_u a2_u N_u c2_u a3_u M_u c3_u hs_u (r.ps.map (·.isNone)) r.idx ⟨#[]⟩ ⟨#[]⟩ u hu.trIn capu)
    obtain ⟨E1, E2⟩ := scan_tre (unhide TR) (unhide DT) (fr := ⟨#[]⟩) (tu := ⟨#[]⟩) (by decide) (by decide)
    obtain ⟨E3, E4⟩ := scan_tre (unhide TR') (unhide DU) (fr := ⟨#[]⟩) (tu := ⟨#[]⟩) (by decide) (by decide)
    unfold SnRes at SCT SCU
    rw [E1, E2, range_all] at SCT
    rw [E3, E4, range_all, unhide EN] at SCU
    have OKU := hide (fun (u : World) (hu : TsOwn u 0 a1_u c1_u a2_u c2_u a3_u c3_u N_u M_u hs_u r.ps r.idx) => implTreeOK_any a1_u N_u c1_u a2_u N_u c2_u a3_u M_u c3_u hs_u (r.ps.map (·.isNone)) r.idx u hu.trIn capu)
    rw [tre_okT (unhide TR') (unhide DU)] at OKU
    clear E1 E2 E3 E4 EN
    generalize treeE ps = TE at *
    unfold getL at GU ⊢
    cases lk with
    | none =>
      simp only at GU ⊢
      go_wp2_with fail
      refine (unhide GU s3 (unhide O_u)).mono ?_
      rintro e s4 ⟨rfl, hb⟩
      replace K_t := hide ((hb.block z_t (blk_lt (unhide K_t))).trans (unhide K_t))
      replace K_u := hide ((hb.block z_u (blk_lt (unhide K_u))).trans (unhide K_u))
      replace KA := hide ((hb.block zb (blk_lt (unhide KA))).trans (unhide KA))
      replace O_t := hide ((unhide O_t).below hb)
      replace O_u := hide ((unhide O_u).below hb)
      replace B := hide ((unhide B).trans (hb.mono (unhide B).size))
      clear hb
      clear u0 u1 u2 GU
      have p0 := (heap_at (unhide K_t) 0).1
      have p1 := (heap_at (unhide K_t) 1).1
      have p2 := (heap_at (unhide K_t) 2).1
      go_wp2_with fail
      refine (unhide SCT s4 _ (unhide O_t)).mono ?_
      rintro e s5 ⟨sa, sn, sc, rfl, oS, hb⟩
      replace K_t := hide ((hb.block z_t (blk_lt (unhide K_t))).trans (unhide K_t))
      replace K_u := hide ((hb.block z_u (blk_lt (unhide K_u))).trans (unhide K_u))
      replace KA := hide ((hb.block zb (blk_lt (unhide KA))).trans (unhide KA))
      replace O_t := hide ((unhide O_t).below hb)
      replace O_u := hide ((unhide O_u).below hb)
      replace B := hide ((unhide B).trans (hb.mono (unhide B).size))
      clear hb
      have E_s := hide oS
      clear oS p0 p1 p2 SCT
      have u0 := (heap_at (unhide K_u) 0).1
      have u1 := (heap_at (unhide K_u) 1).1
      have u2 := (heap_at (unhide K_u) 2).1
      go_wp2_with fail
      refine (unhide SCU s5 (unhide O_u)).mono ?_
      rintro e s6 ⟨sa2, sn2, sc2, rfl, oS, hb⟩
      have hb' := hb
      replace K_t := hide ((hb.block z_t (blk_lt (unhide K_t))).trans (unhide K_t))
      replace K_u := hide ((hb.block z_u (blk_lt (unhide K_u))).trans (unhide K_u))
      replace KA := hide ((hb.block zb (blk_lt (unhide KA))).trans (unhide KA))
      replace O_t := hide ((unhide O_t).below hb)
      replace O_u := hide ((unhide O_u).below hb)
      replace B := hide ((unhide B).trans (hb.mono (unhide B).size))
      clear hb
      replace E_s := hide (rb_ownsRow_below (unhide E_s) hb')
      have E_q := hide oS
      clear oS u0 u1 u2 SCU hb'
      obtain rfl : sn2 = sn := by
        have h1 := (erow_of_owns (unhide E_s)).1
        have h2 := (erow_of_owns (unhide E_q)).1
        omega
      have hsn : sn2 ≤ 1000 := by
        have h1 := (erow_of_owns (unhide E_q)).1
        have h2 := unhide LE
        omega
      have u0 := (heap_at (unhide K_u) 0).1
      have u1 := (heap_at (unhide K_u) 1).1
      have u2 := (heap_at (unhide K_u) 2).1
      go_wp2_with fail
      refine (sameEntries_any sa sa2 sn2 sc sc2 TE s6 (erow_of_owns (unhide E_s)) (erow_of_owns (unhide E_q)) hsn).mono ?_
      rintro e s7 ⟨rfl, hb⟩
      replace K_t := hide ((hb.block z_t (blk_lt (unhide K_t))).trans (unhide K_t))
      replace K_u := hide ((hb.block z_u (blk_lt (unhide K_u))).trans (unhide K_u))
      replace KA := hide ((hb.block zb (blk_lt (unhide KA))).trans (unhide KA))
      replace O_t := hide ((unhide O_t).below hb)
      replace O_u := hide ((unhide O_u).below hb)
      replace B := hide ((unhide B).trans (hb.mono (unhide B).size))
      clear hb
      clear E_s E_q u0 u1 u2
      have u0 := (heap_at (unhide K_u) 0).1
      have u1 := (heap_at (unhide K_u) 1).1
      have u2 := (heap_at (unhide K_u) 2).1
      go_wp2_with fail
      refine (unhide OKU s7 (unhide O_u)).mono ?_
      rintro e s8 ⟨rfl, hb⟩
      replace K_t := hide ((hb.block z_t (blk_lt (unhide K_t))).trans (unhide K_t))
      replace K_u := hide ((hb.block z_u (blk_lt (unhide K_u))).trans (unhide K_u))
      replace KA := hide ((hb.block zb (blk_lt (unhide KA))).trans (unhide KA))
      replace O_t := hide ((unhide O_t).below hb)
      replace O_u := hide ((unhide O_u).below hb)
      replace B := hide ((unhide B).trans (hb.mono (unhide B).size))
      clear hb
      clear u0 u1 u2 OKU
      have q0 := (heap_at (unhide KA) 0).1
      by_cases hx2 : x = 2
      · have hle : (h2 : Int) ≤ (h1 : Int) := by have := unhide SHK hx2; omega
        have hxb : ((3 + x) != 5) = false := by rw [hx2]; rfl
        have hxc : ((3 + x) == 5) = true := by rw [hx2]; rfl
        have hwx : IntKind.i64.wrap (3 + x) = 3 + x := by rw [IntKind.wrap_i64]; omega
        clear hx2
        go_wp2_with fail
        go_ret
        exact ⟨by first | rfl | simp [hle], unhide B⟩
      · have hxb : ((3 + x) != 5) = true := by rw [bne_iff_ne]; omega
        have hxc : ((3 + x) == 5) = false := by rw [beq_eq_false_iff_ne]; omega
        go_wp2_with fail
        go_ret
        exact ⟨rfl, unhide B⟩
    | some v =>
      simp only at GU ⊢
      go_wp2_with fail
      refine (unhide GU s3 (unhide O_u)).mono ?_
      rintro e s4 ⟨rfl, hb⟩
      replace K_t := hide ((hb.block z_t (blk_lt (unhide K_t))).trans (unhide K_t))
      replace K_u := hide ((hb.block z_u (blk_lt (unhide K_u))).trans (unhide K_u))
      replace KA := hide ((hb.block zb (blk_lt (unhide KA))).trans (unhide KA))
      replace O_t := hide ((unhide O_t).below hb)
      replace O_u := hide ((unhide O_u).below hb)
      replace B := hide ((unhide B).trans (hb.mono (unhide B).size))
      clear hb
      clear u0 u1 u2 GU
      have p0 := (heap_at (unhide K_t) 0).1
      have p1 := (heap_at (unhide K_t) 1).1
      have p2 := (heap_at (unhide K_t) 2).1
      go_wp2_with fail
      refine (unhide SCT s4 _ (unhide O_t)).mono ?_
      rintro e s5 ⟨sa, sn, sc, rfl, oS, hb⟩
      replace K_t := hide ((hb.block z_t (blk_lt (unhide K_t))).trans (unhide K_t))
      replace K_u := hide ((hb.block z_u (blk_lt (unhide K_u))).trans (unhide K_u))
      replace KA := hide ((hb.block zb (blk_lt (unhide KA))).trans (unhide KA))
      replace O_t := hide ((unhide O_t).below hb)
      replace O_u := hide ((unhide O_u).below hb)
      replace B := hide ((unhide B).trans (hb.mono (unhide B).size))
      clear hb
      have E_s := hide oS
      clear oS p0 p1 p2 SCT
      have u0 := (heap_at (unhide K_u) 0).1
      have u1 := (heap_at (unhide K_u) 1).1
      have u2 := (heap_at (unhide K_u) 2).1
      go_wp2_with fail
      refine (unhide SCU s5 (unhide O_u)).mono ?_
      rintro e s6 ⟨sa2, sn2, sc2, rfl, oS, hb⟩
      have hb' := hb
      replace K_t := hide ((hb.block z_t (blk_lt (unhide K_t))).trans (unhide K_t))
      replace K_u := hide ((hb.block z_u (blk_lt (unhide K_u))).trans (unhide K_u))
      replace KA := hide ((hb.block zb (blk_lt (unhide KA))).trans (unhide KA))
      replace O_t := hide ((unhide O_t).below hb)
      replace O_u := hide ((unhide O_u).below hb)
      replace B := hide ((unhide B).trans (hb.mono (unhide B).size))
      clear hb
      replace E_s := hide (rb_ownsRow_below (unhide E_s) hb')
      have E_q := hide oS
      clear oS u0 u1 u2 SCU hb'
      obtain rfl : sn2 = sn := by
        have h1 := (erow_of_owns (unhide E_s)).1
        have h2 := (erow_of_owns (unhide E_q)).1
        omega
      have hsn : sn2 ≤ 1000 := by
        have h1 := (erow_of_owns (unhide E_q)).1
        have h2 := unhide LE
        omega
      have u0 := (heap_at (unhide K_u) 0).1
      have u1 := (heap_at (unhide K_u) 1).1
      have u2 := (heap_at (unhide K_u) 2).1
      go_wp2_with fail
      refine (sameEntries_any sa sa2 sn2 sc sc2 TE s6 (erow_of_owns (unhide E_s)) (erow_of_owns (unhide E_q)) hsn).mono ?_
      rintro e s7 ⟨rfl, hb⟩
      replace K_t := hide ((hb.block z_t (blk_lt (unhide K_t))).trans (unhide K_t))
      replace K_u := hide ((hb.block z_u (blk_lt (unhide K_u))).trans (unhide K_u))
      replace KA := hide ((hb.block zb (blk_lt (unhide KA))).trans (unhide KA))
      replace O_t := hide ((unhide O_t).below hb)
      replace O_u := hide ((unhide O_u).below hb)
      replace B := hide ((unhide B).trans (hb.mono (unhide B).size))
      clear hb
      clear E_s E_q u0 u1 u2
      have u0 := (heap_at (unhide K_u) 0).1
      have u1 := (heap_at (unhide K_u) 1).1
      have u2 := (heap_at (unhide K_u) 2).1
      go_wp2_with fail
      refine (unhide OKU s7 (unhide O_u)).mono ?_
      rintro e s8 ⟨rfl, hb⟩
      replace K_t := hide ((hb.block z_t (blk_lt (unhide K_t))).trans (unhide K_t))
      replace K_u := hide ((hb.block z_u (blk_lt (unhide K_u))).trans (unhide K_u))
      replace KA := hide ((hb.block zb (blk_lt (unhide KA))).trans (unhide KA))
      replace O_t := hide ((unhide O_t).below hb)
      replace O_u := hide ((unhide O_u).below hb)
      replace B := hide ((unhide B).trans (hb.mono (unhide B).size))
      clear hb
      clear u0 u1 u2 OKU
      have q0 := (heap_at (unhide KA) 0).1
      by_cases hx2 : x = 2
      · have hle : (h2 : Int) ≤ (h1 : Int) := by have := unhide SHK hx2; omega
        have hxb : ((3 + x) != 5) = false := by rw [hx2]; rfl
        have hxc : ((3 + x) == 5) = true := by rw [hx2]; rfl
        have hwx : IntKind.i64.wrap (3 + x) = 3 + x := by rw [IntKind.wrap_i64]; omega
        clear hx2
        go_wp2_with fail
        go_ret
        exact ⟨by first | rfl | simp [hle], unhide B⟩
      · have hxb : ((3 + x) != 5) = true := by rw [bne_iff_ne]; omega
        have hxc : ((3 + x) == 5) = false := by rw [beq_eq_false_iff_ne]; omega
        go_wp2_with fail
        go_ret
        exact ⟨rfl, unhide B⟩
end Go.Proofs.YtbhkmmdcdfjbkaaGreat

namespace Go.Proofs.YtbhkmmdcdfjbkaaGreat.fnStepsFrame
open Go.ChangeShapes Go.WideShapes Go.ChangeAt Go.RowKit
open Go.ChangeMaps (open_string shut_string)
set_option linter.unusedVariables false

theorem own : ownKnob Tryz.prog.godebug = none := by kernel_rfl
theorem laidOut : laidOutB Tryz.prog = true := by kernel_rfl

set_option maxRecDepth 100000 in
theorem lifted (os : Os) (started : os.Started) (H : Type) (enc : TypeId × Value → H) :
    ReturnsInHanded {} Tryz.checked os 4 .any (Rows.fnStepsSpec.pre6 enc Tryz.prog Tryz.f4 Rows.fnStepsRow.domain false) (Rows.fnStepsSpec.post enc Tryz.prog Tryz.f4 false true false false) := by
  refine returnsInHanded_of_change (C := Tryz.checked) own started (by kernel_rfl) Tryz.func4
    (ChangeSpec.witness6 (enc := enc) (C := Tryz.checked) false ⟨#[], #[.slice none 0 0, .slice none 0 0], []⟩ 8 (by kernel_rfl) (by kernel_rfl) (by kernel_rfl) (by kernel_rfl)) ?_
  intro W base args ds gs before hval0 hW _ _
  have hval : ∀ (j : Nat) t v, Tryz.f4.params[j]? = some t → args[j]? = some v → Value.okWide Tryz.prog W .any base t v := hval0
  have hW' := hW
  obtain ⟨p, q, hA0, hV, rfl, _, _⟩ := hW
  have hA : DataW.TrodAll enc Tryz.prog W 0 (fun _ => true) true Tryz.f4.params.toList args.toList ds p := hA0
  rw [Tryz.params4] at hA hval
  obtain ⟨v0, vs0, d0, ds0, p0, q0, hargs, rfl, rfl, h0, r0⟩ := trodAll_cons hA
  obtain ⟨v1, vs1, d1, ds1, p1, q1, rfl, rfl, rfl, h1, r1⟩ := trodAll_cons r0
  obtain ⟨rfl, rfl, rfl⟩ := trodAll_nil r1
  obtain rfl : args = #[v0, v1] := by cases args; simp_all
  obtain ⟨rfl, rfl⟩ := trodVars_none hV
  have k0 := h0
  have lt0 : ∀ x ∈ p0, x.block < W.heap.size := by obtain ⟨m, hm⟩ := k0; exact DataW.trod_lt m _ _ _ hm
  have k1 := h1
  have lt1 : ∀ x ∈ p1, x.block < W.heap.size := by obtain ⟨m, hm⟩ := k1; exact DataW.trod_lt m _ _ _ hm
  obtain ⟨a0, len0, cap0, rfl⟩ := okWide_slice Tryz.underlying22 (hval 0 22 v0 rfl rfl)
  obtain ⟨z0, w0⟩ : ∃ zs, IsRow .u8 W a0 len0 cap0 zs := by
    obtain ⟨fuel, hf⟩ := h0
    rcases open_ints Tryz.underlying22 Tryz.underlying5 (by kernel_rfl) hf with ⟨hcs, _⟩ | ⟨x, l, c, zs, hcs, _, hl, hm, hz, _, hcell, hwz⟩
    · simp [Value.cells] at hcs
      obtain ⟨rfl, rfl, rfl⟩ := hcs
      exact ⟨[], .inl ⟨rfl, rfl, rfl, rfl⟩⟩
    · simp [Value.cells] at hcs
      obtain ⟨rfl, rfl, rfl⟩ := hcs
      exact ⟨zs, .inr ⟨_, rfl, hl, hm, by simpa using hz, hcell, hwz⟩⟩
  obtain ⟨a1, len1, cap1, rfl⟩ := okWide_slice Tryz.underlying22 (hval 1 22 v1 rfl rfl)
  obtain ⟨z1, w1⟩ : ∃ zs, IsRow .u8 W a1 len1 cap1 zs := by
    obtain ⟨fuel, hf⟩ := h1
    rcases open_ints Tryz.underlying22 Tryz.underlying5 (by kernel_rfl) hf with ⟨hcs, _⟩ | ⟨x, l, c, zs, hcs, _, hl, hm, hz, _, hcell, hwz⟩
    · simp [Value.cells] at hcs
      obtain ⟨rfl, rfl, rfl⟩ := hcs
      exact ⟨[], .inl ⟨rfl, rfl, rfl, rfl⟩⟩
    · simp [Value.cells] at hcs
      obtain ⟨rfl, rfl, rfl⟩ := hcs
      exact ⟨zs, .inr ⟨_, rfl, hl, hm, by simpa using hz, hcell, hwz⟩⟩
  clear hA0 hval0
  refine (fnSteps_law a0 len0 cap0 z0 a1 len1 cap1 z1 W w0 w1).mono fun e W' ⟨he, bel⟩ => ?_
  subst he
  exact ⟨_, rfl, _, _, _, [], _, [], hW', trodAll_mk1 (shut_bool Tryz.underlying4 _), (trodAll_cons_mk (Below.trod laidOut (by kernel_rfl) (of_decide_eq_true (by kernel_rfl)) k0 bel lt0) (trodAll_cons_mk (Below.trod laidOut (by kernel_rfl) (of_decide_eq_true (by kernel_rfl)) k1 bel lt1) trodAll_mk0)), rfl, bel.frame _, fun h => by cases h⟩

theorem over : Rows.fnStepsRow.holds Tryz.pinned (OpenSpec.ofChange Rows.fnStepsSpec) :=
  OpenClaim.holds_of_wide 4 Tryz.f4 rfl rfl rfl rfl rfl rfl rfl ⟨rfl, rfl, rfl, rfl, rfl⟩ rfl rfl rfl rfl rfl (by kernel_rfl) Tryz.func4 (by kernel_rfl)
    (of_decide_eq_true (by kernel_rfl)) (by unfold Func.isWrapper; first | (rw [if_pos (by decide +kernel)]; kernel_rfl) | (rw [if_neg (by decide +kernel)]; exact ⟨rfl, rfl⟩))
    (fun os started H enc _ => lifted os started H enc)

end Go.Proofs.YtbhkmmdcdfjbkaaGreat.fnStepsFrame
namespace Go.Proofs.YtbhkmmdcdfjbkaaGreat
/-- THE STATEMENT. -/
theorem fnSteps_proved : Rows.FnStepsSaid := fnStepsFrame.over
#print axioms fnSteps_proved
end Go.Proofs.YtbhkmmdcdfjbkaaGreat
