/-
  VoC, PrT, PrS, TxI1, TxI0, RgE, TxI2, TxI3 in one.
-/
import Derived.Test.YtfajenejngddeaaGreatFvAll4
import Derived.Test.YtfajenejngddeaaGreatFvAll2
import Derived.Test.YtfajenejngddeaaGreatTxL
import Derived.Test.YtfajenejngddeaaGreatFvAll1
namespace Go.Proofs.YtfajenejngddeaaGreat
open Go.RowKit

/-- A session is right as the specification says it. -/
theorem ses_long {next : Int} {s : SesD} (h : ¬ s.ws.length ≤ 8) : sesK next s = false := by
  unfold sesK
  split
  · unfold wrV; rw [decide_eq_false h]; simp
  · rw [decide_eq_false (show ¬ s.ws.length = 0 by omega)]; simp
theorem ses_shut {next : Int} {s : SesD} (ho : s.o = false) : sesK next s = (decide (s.t = 0) && decide (s.ws.length = 0)) := by unfold sesK; rw [if_neg (by rw [ho]; decide)]
theorem ses_open {next : Int} {s : SesD} (ho : s.o = true) (hl : s.ws.length ≤ 8) : sesK next s = (decide (1 ≤ s.t) && decide (s.t ≤ next - 1) && (okVs s.ws && oneT s.ws s.t)) := by
  unfold sesK wrV
  rw [if_pos ho, decide_eq_true hl]
  have : decide (s.t < next) = decide (s.t ≤ next - 1) := by rw [decide_eq_decide]; omega
  rw [this]
  cases decide (1 ≤ s.t) <;> cases decide (s.t ≤ next - 1) <;> simp
theorem fen_in {next : Int} {f : FenD} (h1 : f.f.size ≤ 40) (h2 : f.u.size ≤ 41) : fenK next f = (decide (1 ≤ f.t) && decide (f.t ≤ next - 1)) := by
  unfold fenK
  have : decide (f.t < next) = decide (f.t ≤ next - 1) := by rw [decide_eq_decide]; omega
  rw [decide_eq_true h1, decide_eq_true h2, this]
  rfl
set_option maxRecDepth 100000 in
set_option maxHeartbeats 8000000 in
theorem specVersionsOK_any (l f s : Sl) (rs : List SesR) (d : VsD) (w : World) (h : VsAt w l f s rs d) (hf : VsFew l f s rs) :
    Calls Tryz.prog 39 #[vsv d.next l f s] w fun e w' => e = .returned (.bool (okVsD d)) ∧ Below w.heap.size w w' := by
  obtain ⟨la, ln, lc⟩ := l
  obtain ⟨fa, fn, fc⟩ := f
  obtain ⟨sa, sn, sc⟩ := s
  have H := hide h
  have HF := hide hf
  have e1 : d.list.length = ln := h.v.1
  have e2 : d.fen.length = fn := h.f.1
  have e3 : d.ses.length = sn := h.ss.1.symm.trans h.s.1
  have TN := hide (fun (hx : ¬ (1 ≤ d.next ∧ d.next ≤ 1000 ∧ ln ≤ 4096 ∧ fn ≤ 4096 ∧ sn = 4)) => ok_top (top_no (by rw [e1, e2, e3]; exact hx)))
  have TY := hide (fun (h1 : 1 ≤ d.next) (h2 : d.next ≤ 1000) (h3 : ln ≤ 4096) (h4 : fn ≤ 4096) (h5 : sn = 4) => show okVsD d = (okVs d.list && (lateK d.list d.next && (d.fen.all (fenK d.next) && d.ses.all (sesK d.next)))) by
    unfold okVsD
    rw [top_yes h1 h2 (by rw [e1]; exact h3) (by rw [e2]; exact h4) (by rw [e3]; exact h5)]
    rfl)
  have EQ := hide (And.intro e1 (And.intro e2 e3))
  clear h hf e1 e2 e3
  have b0 : Below w.heap.size w (w.alloc (.cells #[.int .i64 d.next, .slice la ln lc, .slice fa fn fc, .slice sa sn sc] 27)) := (Below.refl _ _).alloc (Nat.le_refl _) _
  have k0 := heap_alloc_new w (.cells #[.int .i64 d.next, .slice la ln lc, .slice fa fn fc, .slice sa sn sc] 27)
  have K := hide k0
  clear k0
  unfold vsv
  simp only
  have SI := hide (vs_l01In d.next 1 1000)
  by_cases h1 : 1 ≤ d.next ∧ d.next ≤ 1000
  case neg =>
    have Z := hide (unhide TN (by omega))
    have hb1 : (decide (1 ≤ d.next) && decide (d.next ≤ 1000)) = false := by
      by_cases q : 1 ≤ d.next
      · rw [decide_eq_false (show ¬ d.next ≤ 1000 by omega)]; simp
      · rw [decide_eq_false q]; rfl
    rw [hb1] at SI
    generalize d.next = nx at *
    clear TY TN H HF EQ hb1 h1
    go_enter Tryz.func39, Tryz.ntmps39
    go_wp2_with (go_at_call 55; refine (unhide SI _).mono ?_; rintro e w1 ⟨rfl, rfl⟩)
    go_ret
    exact ⟨ret_bool (unhide Z), b0⟩
  have hb1 : (decide (1 ≤ d.next) && decide (d.next ≤ 1000)) = true := by rw [decide_eq_true h1.1, decide_eq_true h1.2]; rfl
  rw [hb1] at SI
  clear hb1
  by_cases h3 : ln ≤ 4096
  case neg =>
    have Z := hide (unhide TN (by omega))
    have g3 : (4096 : Int) < (ln : Int) := by omega
    generalize d.next = nx at *
    clear TY TN H HF EQ h1
    go_enter Tryz.func39, Tryz.ntmps39
    go_wp2_with (go_at_call 55; refine (unhide SI _).mono ?_; rintro e w1 ⟨rfl, rfl⟩)
    go_ret
    exact ⟨ret_bool (unhide Z), b0⟩
  by_cases h4 : fn ≤ 4096
  case neg =>
    have Z := hide (unhide TN (by omega))
    have g3 : ¬ (4096 : Int) < (ln : Int) := by omega
    have g4 : (4096 : Int) < (fn : Int) := by omega
    generalize d.next = nx at *
    clear TY TN H HF EQ h1
    go_enter Tryz.func39, Tryz.ntmps39
    go_wp2_with (go_at_call 55; refine (unhide SI _).mono ?_; rintro e w1 ⟨rfl, rfl⟩)
    go_ret
    exact ⟨ret_bool (unhide Z), b0⟩
  by_cases h5 : sn = 4
  case neg =>
    have Z := hide (unhide TN (by omega))
    have g3 : ¬ (4096 : Int) < (ln : Int) := by omega
    have g4 : ¬ (4096 : Int) < (fn : Int) := by omega
    have g5 : ((sn : Int) != 4) = true := by simp [bne]; omega
    generalize d.next = nx at *
    clear TY TN H HF EQ h1
    go_enter Tryz.func39, Tryz.ntmps39
    go_wp2_with (go_at_call 55; refine (unhide SI _).mono ?_; rintro e w1 ⟨rfl, rfl⟩)
    go_ret
    exact ⟨ret_bool (unhide Z), b0⟩
  subst h5
  have E := hide (unhide TY h1.1 h1.2 h3 h4 rfl)
  have g3 : ¬ (4096 : Int) < (ln : Int) := by omega
  have g4 : ¬ (4096 : Int) < (fn : Int) := by omega
  clear TY TN
  obtain ⟨nx, hnx⟩ : ∃ nx, nx = d.next := ⟨_, rfl⟩
  rw [← hnx] at b0 K E SI h1 ⊢
  have hwn : IntKind.i64.wrap (nx - 1) = nx - 1 := by rw [IntKind.wrap_i64]; omega
  clear hnx h1
  go_enter Tryz.func39, Tryz.ntmps39
  go_wp2_with (go_at_call 55; refine (unhide SI _).mono ?_; rintro e wq ⟨rfl, hww⟩; subst wq)
  generalize w.alloc (.cells #[.int .i64 nx, .slice la ln lc, .slice fa fn fc, .slice sa 4 sc] 27) = W at *
  generalize hbx : w.heap.size = bx at *
  clear g3 g4 SI
  have HH := hide (show ∀ u, Below bx w u → VsAt u ⟨la, ln, lc⟩ ⟨fa, fn, fc⟩ ⟨sa, 4, sc⟩ rs d from fun u hu => by subst hbx; exact (unhide H).below hu)
  refine (l06List_any la ln lc d.list W (by omega) (unhide HH W b0).v).mono ?_
  rintro e w1 ⟨rfl, hb⟩
  replace K := hide ((hb.block bx (Array.getElem?_eq_some_iff.1 (unhide K)).1).trans (unhide K))
  replace b0 := b0.trans (hb.mono (by subst hbx; exact b0.size))
  clear hb
  have hbs : bx ≤ w1.heap.size := by subst hbx; exact b0.size
  generalize okVs d.list = ok1 at *
  cases ok1
  · have Z := hide (show false = okVsD d by rw [unhide E]; rfl)
    go_wp2_with fail
    go_ret
    exact ⟨ret_bool (unhide Z), by subst hbx; exact b0⟩
  replace E := hide (show okVsD d = (lateK d.list nx && (d.fen.all (fenK nx) && d.ses.all (sesK nx))) by rw [unhide E]; rfl)
  go_wp2_with fail
  obtain ⟨c0, c1, c2, c3⟩ : w1.cell? ⟨bx, 0, none⟩ = some (.int .i64 nx) ∧ w1.cell? ⟨bx, 1, none⟩ = some (.slice la ln lc) ∧ w1.cell? ⟨bx, 2, none⟩ = some (.slice fa fn fc) ∧ w1.cell? ⟨bx, 3, none⟩ = some (.slice sa 4 sc) := ⟨(heap_at (unhide K) 0).1, (heap_at (unhide K) 1).1, (heap_at (unhide K) 2).1, (heap_at (unhide K) 3).1⟩
  go_loopw [3] (fun i wr => ∃ k : Nat, k ≤ ln ∧ i = .int .i64 k ∧ Hid (∀ i (hi : i < d.list.length), i < k → d.list[i].t < nx) ∧ ∃ q, wr = w1.drewN q) (fun i _ => ln - (intOf i).toNat)
  case atStart => exact ⟨0, Nat.zero_le _, rfl, (fun i _ hi => absurd hi (Nat.not_lt_zero _)), 0, rfl⟩
  case round =>
    obtain ⟨k, hk, rfl, hA, q, rfl⟩ := hrel
    by_cases hlt : k < ln
    · have hk2 : k < d.list.length := by rw [(unhide EQ).1]; exact hlt
      have hki : (k : Int) < (ln : Int) := by omega
      obtain ⟨b, off, rfl, d0, d1, d2, d3⟩ := (unhide HH w1 b0).v.2 k hk2
      have FZ := hide (fun (hf : ¬ d.list[k].t < nx) => show false = okVsD d by rw [unhide E, lateK_false hk2 hf]; rfl)
      have FY := hide (late_step hk2 (unhide hA))
      generalize d.list[k] = pd at *
      obtain ⟨pk, pt, pv, pg⟩ := pd
      simp only at d1 FZ FY
      clear d0 d2 d3 hA c2 c3
      by_cases ht : pt < nx
      · have Z := hide (unhide FY ht)
        have hd : decide (nx ≤ pt) = false := decide_eq_false (by omega)
        clear FZ FY ht
        go_wp2_with fail
        go_quiet (fail)
        go_wp2_with fail
        go_roundw
        case rel => exact ⟨k + 1, by omega, by go_num, unhide Z, _, rfl⟩
        case measure => simp [intOf]; omega
      · have Z := hide (unhide FZ ht)
        have hd : decide (nx ≤ pt) = true := decide_eq_true (by omega)
        clear FZ FY ht
        go_wp2_with fail
        go_quiet (fail)
        go_wp2_with fail
        go_ret
        exact ⟨ret_bool (unhide Z), by subst hbx; exact bel_drewN (bel_drewN b0 _) _⟩
    · obtain rfl : k = ln := by omega
      have hki : ¬ (k : Int) < (k : Int) := by omega
      replace E := hide (show okVsD d = (d.fen.all (fenK nx) && d.ses.all (sesK nx)) by
        rw [unhide E, lateK_true fun i hi => unhide hA i hi (by have := (unhide EQ).1; omega)]; rfl)
      clear hA
      go_wp2_with fail
      go_loopw [4] (fun i wr => ∃ k : Nat, k ≤ fn ∧ i = .int .i64 k ∧ Hid (∀ i (hi : i < d.fen.length), i < k → fenK nx d.fen[i] = true) ∧ ∃ q, wr = w1.drewN q) (fun i _ => fn - (intOf i).toNat)
      case atStart => exact ⟨0, Nat.zero_le _, rfl, (fun i _ hi => absurd hi (Nat.not_lt_zero _)), _, rfl⟩
      case round =>
        obtain ⟨j, hj, rfl, hA, q2, rfl⟩ := hrel
        by_cases hlt2 : j < fn
        · have hj2 : j < d.fen.length := by rw [(unhide EQ).2.1]; exact hlt2
          have hji : (j : Int) < (fn : Int) := by omega
          obtain ⟨b, off, rfl, d0, d1, d2⟩ := (unhide HH w1 b0).f.2 j hj2
          have FZ := hide (fun (hf : fenK nx d.fen[j] = false) => show false = okVsD d by rw [unhide E, all_false hj2 hf]; rfl)
          have FY := hide (step_all (p := fenK nx) hj2 (unhide hA))
          have FE := hide (show d.fen[j].f.size ≤ 40 → d.fen[j].u.size ≤ 41 → fenK nx d.fen[j] = (decide (1 ≤ d.fen[j].t) && decide (d.fen[j].t ≤ nx - 1)) from fen_in)
          have FN := hide (show ¬ (d.fen[j].f.size ≤ 40 ∧ d.fen[j].u.size ≤ 41) → fenK nx d.fen[j] = false from fun h => by
            unfold fenK
            by_cases h1 : d.fen[j].f.size ≤ 40
            · rw [decide_eq_false (show ¬ d.fen[j].u.size ≤ 41 from fun h2 => h ⟨h1, h2⟩)]; simp
            · rw [decide_eq_false h1]; rfl)
          generalize fenK nx d.fen[j] = fk at *
          generalize d.fen[j] = pd at *
          obtain ⟨pf, pu, pt⟩ := pd
          simp only at d0 d1 d2 FE FN
          clear hA c1 c3
          by_cases h1 : pf.size ≤ 40
          case neg =>
            have Z := hide (unhide FZ (unhide FN (fun h => h1 h.1)))
            have hd : decide ((40 : Int) < (pf.size : Int)) = true := decide_eq_true (by omega)
            clear FZ FY FE FN h1
            go_wp2_with fail
            go_quiet (fail)
            go_wp2_with fail
            go_ret
            exact ⟨ret_bool (unhide Z), by subst hbx; exact bel_drewN (bel_drewN b0 _) _⟩
          by_cases h2 : pu.size ≤ 41
          case neg =>
            have Z := hide (unhide FZ (unhide FN (fun h => h2 h.2)))
            have hd : decide ((40 : Int) < (pf.size : Int)) = false := decide_eq_false (by omega)
            have hd2 : decide ((41 : Int) < (pu.size : Int)) = true := decide_eq_true (by omega)
            clear FZ FY FE FN h1 h2
            go_wp2_with fail
            go_quiet (fail)
            go_wp2_with fail
            go_ret
            exact ⟨ret_bool (unhide Z), by subst hbx; exact bel_drewN (bel_drewN b0 _) _⟩
          have hd : decide ((40 : Int) < (pf.size : Int)) = false := decide_eq_false (by omega)
          have hd2 : decide ((41 : Int) < (pu.size : Int)) = false := decide_eq_false (by omega)
          have SI := hide (vs_l01In pt 1 (nx - 1))
          rw [← unhide FE h1 h2] at SI
          have SW := hide (show ∀ w, Calls Tryz.prog 55 #[.int .i64 pt, .int .i64 1, .int .i64 (IntKind.i64.wrap (nx - 1))] w fun e w' => e = .returned (.bool fk) ∧ w' = w from fun w => by rw [hwn]; exact unhide SI w)
          clear FE FN h1 h2
          cases fk
          · have Z := hide (unhide FZ rfl)
            clear FZ FY
            go_upto_region 11 with fail
            refine wp_region_held_drew (S := (fun u => Hid (u = (w1.drewN q2).drew) ∧ u.cell? ⟨bx, 0, none⟩ = some (.int .i64 nx) ∧ u.cell? ⟨bx, 2, none⟩ = some (.slice (some ⟨b, off, none⟩) fn fc) ∧ u.cell? ⟨b, off + j * 3, none⟩ = some (.string pf) ∧ u.cell? ⟨b, off + j * 3 + 1, none⟩ = some (.string pu) ∧ u.cell? ⟨b, off + j * 3 + 2, none⟩ = some (.int .i64 pt))) (by kernel_rfl) (⟨hide rfl, c0, c2, d0, d1, d2⟩) (fun hHeld => ?_)
            refine anyH_take 0 59 (v := ?v1) rfl rfl (by kernel_rfl) (by kernel_rfl) (by kernel_rfl) (fun _ _ _ h => h) (by rfl) ?h1 hHeld ?r1
            case h1 => (intro w hSw; (try dsimp only at hSw); go_simp; try (with_reducible rfl))
            simp only [Act.put, List.setIfInBounds_toArray, List.set_cons_zero, List.set_cons_succ]
            refine anyH_take 1 60 (v := ?v2) rfl rfl (by kernel_rfl) (by kernel_rfl) (by kernel_rfl) (fun _ _ _ h => h) (by rfl) ?h2 hHeld ?r2
            case h2 => (intro w hSw; (try dsimp only at hSw); go_simp; try (with_reducible rfl))
            simp only [Act.put, List.setIfInBounds_toArray, List.set_cons_zero, List.set_cons_succ]
            refine anyH_take 2 61 (v := ?v3) rfl rfl (by kernel_rfl) (by kernel_rfl) (by kernel_rfl) (fun _ _ _ h => h) (by rfl) ?h3 hHeld ?r3
            case h3 => (intro w hSw; (try dsimp only at hSw); go_simp; try (with_reducible rfl))
            simp only [Act.put, List.setIfInBounds_toArray, List.set_cons_zero, List.set_cons_succ]
            refine anyH_take 3 62 (v := ?v4) rfl rfl (by kernel_rfl) (by kernel_rfl) (by kernel_rfl) (fun _ _ _ h => h) (by rfl) ?h4 hHeld ?r4
            case h4 => (intro w hSw; (try dsimp only at hSw); go_simp; try (with_reducible rfl))
            simp only [Act.put, List.setIfInBounds_toArray, List.set_cons_zero, List.set_cons_succ]
            refine anyH_take 4 63 (v := ?v5) rfl rfl (by kernel_rfl) (by kernel_rfl) (by kernel_rfl) (fun _ _ _ h => h) (by rfl) ?h5 hHeld ?r5
            case h5 => (intro w hSw; (try dsimp only at hSw); go_simp; try (with_reducible rfl))
            simp only [Act.put, List.setIfInBounds_toArray, List.set_cons_zero, List.set_cons_succ]
            refine anyH_take 5 64 (v := ?v6) rfl rfl (by kernel_rfl) (by kernel_rfl) (by kernel_rfl) (fun _ _ _ h => h) (by rfl) ?h6 hHeld ?r6
            case h6 => (intro w hSw; (try dsimp only at hSw); go_simp; try (with_reducible rfl))
            simp only [Act.put, List.setIfInBounds_toArray, List.set_cons_zero, List.set_cons_succ]
            refine anyH_take 6 65 (v := ?v7) rfl rfl (by kernel_rfl) (by kernel_rfl) (by kernel_rfl) (fun _ _ _ h => h) (by rfl) ?h7 hHeld ?r7
            case h7 => (intro w hSw; (try dsimp only at hSw); go_simp; try (with_reducible rfl))
            simp only [Act.put, List.setIfInBounds_toArray, List.set_cons_zero, List.set_cons_succ]
            refine anyH_take 7 66 (v := ?v8) rfl rfl (by kernel_rfl) (by kernel_rfl) (by kernel_rfl) (fun _ _ _ h => h) (by rfl) ?h8 hHeld ?r8
            case h8 => (intro w hSw; (try dsimp only at hSw); go_simp; try (with_reducible rfl))
            simp only [Act.put, List.setIfInBounds_toArray, List.set_cons_zero, List.set_cons_succ]
            refine anyH_take 8 67 (v := ?v9) rfl rfl (by kernel_rfl) (by kernel_rfl) (by kernel_rfl) (fun _ _ _ h => h) (by rfl) ?h9 hHeld ?r9
            case h9 => (intro w hSw; (try dsimp only at hSw); go_simp; try (with_reducible rfl))
            simp only [Act.put, List.setIfInBounds_toArray, List.set_cons_zero, List.set_cons_succ]
            refine anyH_take 9 68 (v := ?v10) rfl rfl (by kernel_rfl) (by kernel_rfl) (by kernel_rfl) (fun _ _ _ h => h) (by rfl) ?h10 hHeld ?r10
            case h10 => (intro w hSw; (try dsimp only at hSw); go_simp; try (with_reducible rfl))
            simp only [Act.put, List.setIfInBounds_toArray, List.set_cons_zero, List.set_cons_succ]
            refine anyH_take 10 69 (v := ?v11) rfl rfl (by kernel_rfl) (by kernel_rfl) (by kernel_rfl) (fun _ _ _ h => h) (by rfl) ?h11 hHeld ?r11
            case h11 => (intro w hSw; (try dsimp only at hSw); go_simp; try (with_reducible rfl))
            simp only [Act.put, List.setIfInBounds_toArray, List.set_cons_zero, List.set_cons_succ]
            refine anyH_take 11 70 (v := ?v12) rfl rfl (by kernel_rfl) (by kernel_rfl) (by kernel_rfl) (fun _ _ _ h => h) (by rfl) ?h12 hHeld ?r12
            case h12 => (intro w hSw; (try dsimp only at hSw); go_simp; try (with_reducible rfl))
            simp only [Act.put, List.setIfInBounds_toArray, List.set_cons_zero, List.set_cons_succ]
            refine anyH_take 12 71 (v := ?v13) rfl rfl (by kernel_rfl) (by kernel_rfl) (by kernel_rfl) (fun _ _ _ h => h) (by rfl) ?h13 hHeld ?r13
            case h13 => (intro w hSw; (try dsimp only at hSw); go_simp; try (with_reducible rfl))
            simp only [Act.put, List.setIfInBounds_toArray, List.set_cons_zero, List.set_cons_succ]
            refine anyH_take 13 72 (v := ?v14) rfl rfl (by kernel_rfl) (by kernel_rfl) (by kernel_rfl) (fun _ _ _ h => h) (by rfl) ?h14 hHeld ?r14
            case h14 => (intro w hSw; (try dsimp only at hSw); go_simp; try (with_reducible rfl))
            simp only [Act.put, List.setIfInBounds_toArray, List.set_cons_zero, List.set_cons_succ]
            refine anyH_take 14 73 (v := ?v15) rfl rfl (by kernel_rfl) (by kernel_rfl) (by kernel_rfl) (fun _ _ _ h => h) (by rfl) ?h15 hHeld ?r15
            case h15 => (intro w hSw; (try dsimp only at hSw); go_simp; try (with_reducible rfl))
            simp only [Act.put, List.setIfInBounds_toArray, List.set_cons_zero, List.set_cons_succ]
            refine anyH_take 15 74 (v := ?v16) rfl rfl (by kernel_rfl) (by kernel_rfl) (by kernel_rfl) (fun _ _ _ h => h) (by rfl) ?h16 hHeld ?r16
            case h16 => (intro w hSw; (try dsimp only at hSw); go_simp; try (with_reducible rfl))
            simp only [Act.put, List.setIfInBounds_toArray, List.set_cons_zero, List.set_cons_succ]
            refine anyH_take 16 75 (v := ?v17) rfl rfl (by kernel_rfl) (by kernel_rfl) (by kernel_rfl) (fun _ _ _ h => h) (by rfl) ?h17 hHeld ?r17
            case h17 => (intro w hSw; (try dsimp only at hSw); go_simp; try (with_reducible rfl))
            simp only [Act.put, List.setIfInBounds_toArray, List.set_cons_zero, List.set_cons_succ]
            refine anyH_take 17 76 (v := ?v18) rfl rfl (by kernel_rfl) (by kernel_rfl) (by kernel_rfl) (fun _ _ _ h => h) (by rfl) ?h18 hHeld ?r18
            case h18 => (intro w hSw; (try dsimp only at hSw); go_simp; try (with_reducible rfl))
            simp only [Act.put, List.setIfInBounds_toArray, List.set_cons_zero, List.set_cons_succ]
            refine anyH_take 18 77 (v := ?v19) rfl rfl (by kernel_rfl) (by kernel_rfl) (by kernel_rfl) (fun _ _ _ h => h) (by rfl) ?h19 hHeld ?r19
            case h19 => (intro w hSw; (try dsimp only at hSw); go_simp; try (with_reducible rfl))
            simp only [Act.put, List.setIfInBounds_toArray, List.set_cons_zero, List.set_cons_succ]
            refine anyH_take 19 78 (v := ?v20) rfl rfl (by kernel_rfl) (by kernel_rfl) (by kernel_rfl) (fun _ _ _ h => h) (by rfl) ?h20 hHeld ?r20
            case h20 => (intro w hSw; (try dsimp only at hSw); go_simp; try (with_reducible rfl))
            simp only [Act.put, List.setIfInBounds_toArray, List.set_cons_zero, List.set_cons_succ]
            refine anyH_take 20 79 (v := ?v21) rfl rfl (by kernel_rfl) (by kernel_rfl) (by kernel_rfl) (fun _ _ _ h => h) (by rfl) ?h21 hHeld ?r21
            case h21 => (intro w hSw; (try dsimp only at hSw); go_simp; try (with_reducible rfl))
            simp only [Act.put, List.setIfInBounds_toArray, List.set_cons_zero, List.set_cons_succ]
            refine anyH_take 21 80 (v := ?v22) rfl rfl (by kernel_rfl) (by kernel_rfl) (by kernel_rfl) (fun _ _ _ h => h) (by rfl) ?h22 hHeld ?r22
            case h22 => (intro w hSw; (try dsimp only at hSw); go_simp; try (with_reducible rfl))
            simp only [Act.put, List.setIfInBounds_toArray, List.set_cons_zero, List.set_cons_succ]
            refine anyH_take 22 81 (v := ?v23) rfl rfl (by kernel_rfl) (by kernel_rfl) (by kernel_rfl) (fun _ _ _ h => h) (by rfl) ?h23 hHeld ?r23
            case h23 => (intro w hSw; (try dsimp only at hSw); go_simp; try (with_reducible rfl))
            simp only [Act.put, List.setIfInBounds_toArray, List.set_cons_zero, List.set_cons_succ]
            refine anyH_take 23 82 (v := ?v24) rfl rfl (by kernel_rfl) (by kernel_rfl) (by kernel_rfl) (fun _ _ _ h => h) (by rfl) ?h24 hHeld ?r24
            case h24 => (intro w hSw; (try dsimp only at hSw); go_simp; try (with_reducible rfl))
            simp only [Act.put, List.setIfInBounds_toArray, List.set_cons_zero, List.set_cons_succ]
            refine anyH_take 24 83 (v := ?v25) rfl rfl (by kernel_rfl) (by kernel_rfl) (by kernel_rfl) (fun _ _ _ h => h) (by rfl) ?h25 hHeld ?r25
            case h25 => (intro w hSw; (try dsimp only at hSw); go_simp; try (with_reducible rfl))
            simp only [Act.put, List.setIfInBounds_toArray, List.set_cons_zero, List.set_cons_succ]
            refine anyH_take 25 84 (v := ?v26) rfl rfl (by kernel_rfl) (by kernel_rfl) (by kernel_rfl) (fun _ _ _ h => h) (by rfl) ?h26 hHeld ?r26
            case h26 => (intro w hSw; (try dsimp only at hSw); go_simp; try (with_reducible rfl))
            simp only [Act.put, List.setIfInBounds_toArray, List.set_cons_zero, List.set_cons_succ]
            refine anyH_take 26 85 (v := ?v27) rfl rfl (by kernel_rfl) (by kernel_rfl) (by kernel_rfl) (fun _ _ _ h => h) (by rfl) ?h27 hHeld ?r27
            case h27 => (intro w hSw; (try dsimp only at hSw); go_simp; try (with_reducible rfl))
            simp only [Act.put, List.setIfInBounds_toArray, List.set_cons_zero, List.set_cons_succ]
            refine anyH_take 27 86 (v := ?v28) rfl rfl (by kernel_rfl) (by kernel_rfl) (by kernel_rfl) (fun _ _ _ h => h) (by rfl) ?h28 hHeld ?r28
            case h28 => (intro w hSw; (try dsimp only at hSw); go_simp; try (with_reducible rfl))
            simp only [Act.put, List.setIfInBounds_toArray, List.set_cons_zero, List.set_cons_succ]
            refine wpAnyH_ready (rs := [28]) (by kernel_rfl) (by simp) ?_
            refine AllReadyH.cons rfl (fun K hK => ?_) AllReadyH.nil
            go_simp
            first | refine (unhide SI _).mono ?_ | refine (unhide SW _).mono ?_
            rintro e wz ⟨rfl, hzz⟩
            subst wz
            refine hK.out _ _ (⟨hide rfl, c0, c2, d0, d1, d2⟩) (fun hHeld => ?_)
            clear hK K
            refine anyH_take 29 88 (v := ?v29) rfl rfl (by kernel_rfl) (by kernel_rfl) (by kernel_rfl) (fun _ _ _ h => h) (by rfl) ?h29 hHeld ?r29
            case h29 => (intro w hSw; (try dsimp only at hSw); go_simp; try (with_reducible rfl))
            simp only [Act.put, List.setIfInBounds_toArray, List.set_cons_zero, List.set_cons_succ]
            refine anyH_take 30 89 (v := ?v30) rfl rfl (by kernel_rfl) (by kernel_rfl) (by kernel_rfl) (fun _ _ _ h => h) (by rfl) ?h30 hHeld ?r30
            case h30 => (intro w hSw; (try dsimp only at hSw); go_simp; try (with_reducible rfl))
            simp only [Act.put, List.setIfInBounds_toArray, List.set_cons_zero, List.set_cons_succ]
            refine wpAnyH_done (by kernel_rfl) ?_ _
            go_wp2_with fail
            go_ret
            exact ⟨ret_bool (unhide Z), by subst hbx; exact (bel_drewN b0 _).drew⟩
          · have Z := hide (unhide FY rfl)
            clear FZ FY
            go_upto_region 11 with fail
            refine wp_region_held_drew (S := (fun u => Hid (u = (w1.drewN q2).drew) ∧ u.cell? ⟨bx, 0, none⟩ = some (.int .i64 nx) ∧ u.cell? ⟨bx, 2, none⟩ = some (.slice (some ⟨b, off, none⟩) fn fc) ∧ u.cell? ⟨b, off + j * 3, none⟩ = some (.string pf) ∧ u.cell? ⟨b, off + j * 3 + 1, none⟩ = some (.string pu) ∧ u.cell? ⟨b, off + j * 3 + 2, none⟩ = some (.int .i64 pt))) (by kernel_rfl) (⟨hide rfl, c0, c2, d0, d1, d2⟩) (fun hHeld => ?_)
            refine anyH_take 0 59 (v := ?v31) rfl rfl (by kernel_rfl) (by kernel_rfl) (by kernel_rfl) (fun _ _ _ h => h) (by rfl) ?h31 hHeld ?r31
            case h31 => (intro w hSw; (try dsimp only at hSw); go_simp; try (with_reducible rfl))
            simp only [Act.put, List.setIfInBounds_toArray, List.set_cons_zero, List.set_cons_succ]
            refine anyH_take 1 60 (v := ?v32) rfl rfl (by kernel_rfl) (by kernel_rfl) (by kernel_rfl) (fun _ _ _ h => h) (by rfl) ?h32 hHeld ?r32
            case h32 => (intro w hSw; (try dsimp only at hSw); go_simp; try (with_reducible rfl))
            simp only [Act.put, List.setIfInBounds_toArray, List.set_cons_zero, List.set_cons_succ]
            refine anyH_take 2 61 (v := ?v33) rfl rfl (by kernel_rfl) (by kernel_rfl) (by kernel_rfl) (fun _ _ _ h => h) (by rfl) ?h33 hHeld ?r33
            case h33 => (intro w hSw; (try dsimp only at hSw); go_simp; try (with_reducible rfl))
            simp only [Act.put, List.setIfInBounds_toArray, List.set_cons_zero, List.set_cons_succ]
            refine anyH_take 3 62 (v := ?v34) rfl rfl (by kernel_rfl) (by kernel_rfl) (by kernel_rfl) (fun _ _ _ h => h) (by rfl) ?h34 hHeld ?r34
            case h34 => (intro w hSw; (try dsimp only at hSw); go_simp; try (with_reducible rfl))
            simp only [Act.put, List.setIfInBounds_toArray, List.set_cons_zero, List.set_cons_succ]
            refine anyH_take 4 63 (v := ?v35) rfl rfl (by kernel_rfl) (by kernel_rfl) (by kernel_rfl) (fun _ _ _ h => h) (by rfl) ?h35 hHeld ?r35
            case h35 => (intro w hSw; (try dsimp only at hSw); go_simp; try (with_reducible rfl))
            simp only [Act.put, List.setIfInBounds_toArray, List.set_cons_zero, List.set_cons_succ]
            refine anyH_take 5 64 (v := ?v36) rfl rfl (by kernel_rfl) (by kernel_rfl) (by kernel_rfl) (fun _ _ _ h => h) (by rfl) ?h36 hHeld ?r36
            case h36 => (intro w hSw; (try dsimp only at hSw); go_simp; try (with_reducible rfl))
            simp only [Act.put, List.setIfInBounds_toArray, List.set_cons_zero, List.set_cons_succ]
            refine anyH_take 6 65 (v := ?v37) rfl rfl (by kernel_rfl) (by kernel_rfl) (by kernel_rfl) (fun _ _ _ h => h) (by rfl) ?h37 hHeld ?r37
            case h37 => (intro w hSw; (try dsimp only at hSw); go_simp; try (with_reducible rfl))
            simp only [Act.put, List.setIfInBounds_toArray, List.set_cons_zero, List.set_cons_succ]
            refine anyH_take 7 66 (v := ?v38) rfl rfl (by kernel_rfl) (by kernel_rfl) (by kernel_rfl) (fun _ _ _ h => h) (by rfl) ?h38 hHeld ?r38
            case h38 => (intro w hSw; (try dsimp only at hSw); go_simp; try (with_reducible rfl))
            simp only [Act.put, List.setIfInBounds_toArray, List.set_cons_zero, List.set_cons_succ]
            refine anyH_take 8 67 (v := ?v39) rfl rfl (by kernel_rfl) (by kernel_rfl) (by kernel_rfl) (fun _ _ _ h => h) (by rfl) ?h39 hHeld ?r39
            case h39 => (intro w hSw; (try dsimp only at hSw); go_simp; try (with_reducible rfl))
            simp only [Act.put, List.setIfInBounds_toArray, List.set_cons_zero, List.set_cons_succ]
            refine anyH_take 9 68 (v := ?v40) rfl rfl (by kernel_rfl) (by kernel_rfl) (by kernel_rfl) (fun _ _ _ h => h) (by rfl) ?h40 hHeld ?r40
            case h40 => (intro w hSw; (try dsimp only at hSw); go_simp; try (with_reducible rfl))
            simp only [Act.put, List.setIfInBounds_toArray, List.set_cons_zero, List.set_cons_succ]
            refine anyH_take 10 69 (v := ?v41) rfl rfl (by kernel_rfl) (by kernel_rfl) (by kernel_rfl) (fun _ _ _ h => h) (by rfl) ?h41 hHeld ?r41
            case h41 => (intro w hSw; (try dsimp only at hSw); go_simp; try (with_reducible rfl))
            simp only [Act.put, List.setIfInBounds_toArray, List.set_cons_zero, List.set_cons_succ]
            refine anyH_take 11 70 (v := ?v42) rfl rfl (by kernel_rfl) (by kernel_rfl) (by kernel_rfl) (fun _ _ _ h => h) (by rfl) ?h42 hHeld ?r42
            case h42 => (intro w hSw; (try dsimp only at hSw); go_simp; try (with_reducible rfl))
            simp only [Act.put, List.setIfInBounds_toArray, List.set_cons_zero, List.set_cons_succ]
            refine anyH_take 12 71 (v := ?v43) rfl rfl (by kernel_rfl) (by kernel_rfl) (by kernel_rfl) (fun _ _ _ h => h) (by rfl) ?h43 hHeld ?r43
            case h43 => (intro w hSw; (try dsimp only at hSw); go_simp; try (with_reducible rfl))
            simp only [Act.put, List.setIfInBounds_toArray, List.set_cons_zero, List.set_cons_succ]
            refine anyH_take 13 72 (v := ?v44) rfl rfl (by kernel_rfl) (by kernel_rfl) (by kernel_rfl) (fun _ _ _ h => h) (by rfl) ?h44 hHeld ?r44
            case h44 => (intro w hSw; (try dsimp only at hSw); go_simp; try (with_reducible rfl))
            simp only [Act.put, List.setIfInBounds_toArray, List.set_cons_zero, List.set_cons_succ]
            refine anyH_take 14 73 (v := ?v45) rfl rfl (by kernel_rfl) (by kernel_rfl) (by kernel_rfl) (fun _ _ _ h => h) (by rfl) ?h45 hHeld ?r45
            case h45 => (intro w hSw; (try dsimp only at hSw); go_simp; try (with_reducible rfl))
            simp only [Act.put, List.setIfInBounds_toArray, List.set_cons_zero, List.set_cons_succ]
            refine anyH_take 15 74 (v := ?v46) rfl rfl (by kernel_rfl) (by kernel_rfl) (by kernel_rfl) (fun _ _ _ h => h) (by rfl) ?h46 hHeld ?r46
            case h46 => (intro w hSw; (try dsimp only at hSw); go_simp; try (with_reducible rfl))
            simp only [Act.put, List.setIfInBounds_toArray, List.set_cons_zero, List.set_cons_succ]
            refine anyH_take 16 75 (v := ?v47) rfl rfl (by kernel_rfl) (by kernel_rfl) (by kernel_rfl) (fun _ _ _ h => h) (by rfl) ?h47 hHeld ?r47
            case h47 => (intro w hSw; (try dsimp only at hSw); go_simp; try (with_reducible rfl))
            simp only [Act.put, List.setIfInBounds_toArray, List.set_cons_zero, List.set_cons_succ]
            refine anyH_take 17 76 (v := ?v48) rfl rfl (by kernel_rfl) (by kernel_rfl) (by kernel_rfl) (fun _ _ _ h => h) (by rfl) ?h48 hHeld ?r48
            case h48 => (intro w hSw; (try dsimp only at hSw); go_simp; try (with_reducible rfl))
            simp only [Act.put, List.setIfInBounds_toArray, List.set_cons_zero, List.set_cons_succ]
            refine anyH_take 18 77 (v := ?v49) rfl rfl (by kernel_rfl) (by kernel_rfl) (by kernel_rfl) (fun _ _ _ h => h) (by rfl) ?h49 hHeld ?r49
            case h49 => (intro w hSw; (try dsimp only at hSw); go_simp; try (with_reducible rfl))
            simp only [Act.put, List.setIfInBounds_toArray, List.set_cons_zero, List.set_cons_succ]
            refine anyH_take 19 78 (v := ?v50) rfl rfl (by kernel_rfl) (by kernel_rfl) (by kernel_rfl) (fun _ _ _ h => h) (by rfl) ?h50 hHeld ?r50
            case h50 => (intro w hSw; (try dsimp only at hSw); go_simp; try (with_reducible rfl))
            simp only [Act.put, List.setIfInBounds_toArray, List.set_cons_zero, List.set_cons_succ]
            refine anyH_take 20 79 (v := ?v51) rfl rfl (by kernel_rfl) (by kernel_rfl) (by kernel_rfl) (fun _ _ _ h => h) (by rfl) ?h51 hHeld ?r51
            case h51 => (intro w hSw; (try dsimp only at hSw); go_simp; try (with_reducible rfl))
            simp only [Act.put, List.setIfInBounds_toArray, List.set_cons_zero, List.set_cons_succ]
            refine anyH_take 21 80 (v := ?v52) rfl rfl (by kernel_rfl) (by kernel_rfl) (by kernel_rfl) (fun _ _ _ h => h) (by rfl) ?h52 hHeld ?r52
            case h52 => (intro w hSw; (try dsimp only at hSw); go_simp; try (with_reducible rfl))
            simp only [Act.put, List.setIfInBounds_toArray, List.set_cons_zero, List.set_cons_succ]
            refine anyH_take 22 81 (v := ?v53) rfl rfl (by kernel_rfl) (by kernel_rfl) (by kernel_rfl) (fun _ _ _ h => h) (by rfl) ?h53 hHeld ?r53
            case h53 => (intro w hSw; (try dsimp only at hSw); go_simp; try (with_reducible rfl))
            simp only [Act.put, List.setIfInBounds_toArray, List.set_cons_zero, List.set_cons_succ]
            refine anyH_take 23 82 (v := ?v54) rfl rfl (by kernel_rfl) (by kernel_rfl) (by kernel_rfl) (fun _ _ _ h => h) (by rfl) ?h54 hHeld ?r54
            case h54 => (intro w hSw; (try dsimp only at hSw); go_simp; try (with_reducible rfl))
            simp only [Act.put, List.setIfInBounds_toArray, List.set_cons_zero, List.set_cons_succ]
            refine anyH_take 24 83 (v := ?v55) rfl rfl (by kernel_rfl) (by kernel_rfl) (by kernel_rfl) (fun _ _ _ h => h) (by rfl) ?h55 hHeld ?r55
            case h55 => (intro w hSw; (try dsimp only at hSw); go_simp; try (with_reducible rfl))
            simp only [Act.put, List.setIfInBounds_toArray, List.set_cons_zero, List.set_cons_succ]
            refine anyH_take 25 84 (v := ?v56) rfl rfl (by kernel_rfl) (by kernel_rfl) (by kernel_rfl) (fun _ _ _ h => h) (by rfl) ?h56 hHeld ?r56
            case h56 => (intro w hSw; (try dsimp only at hSw); go_simp; try (with_reducible rfl))
            simp only [Act.put, List.setIfInBounds_toArray, List.set_cons_zero, List.set_cons_succ]
            refine anyH_take 26 85 (v := ?v57) rfl rfl (by kernel_rfl) (by kernel_rfl) (by kernel_rfl) (fun _ _ _ h => h) (by rfl) ?h57 hHeld ?r57
            case h57 => (intro w hSw; (try dsimp only at hSw); go_simp; try (with_reducible rfl))
            simp only [Act.put, List.setIfInBounds_toArray, List.set_cons_zero, List.set_cons_succ]
            refine anyH_take 27 86 (v := ?v58) rfl rfl (by kernel_rfl) (by kernel_rfl) (by kernel_rfl) (fun _ _ _ h => h) (by rfl) ?h58 hHeld ?r58
            case h58 => (intro w hSw; (try dsimp only at hSw); go_simp; try (with_reducible rfl))
            simp only [Act.put, List.setIfInBounds_toArray, List.set_cons_zero, List.set_cons_succ]
            refine wpAnyH_ready (rs := [28]) (by kernel_rfl) (by simp) ?_
            refine AllReadyH.cons rfl (fun K hK => ?_) AllReadyH.nil
            go_simp
            first | refine (unhide SI _).mono ?_ | refine (unhide SW _).mono ?_
            rintro e wz ⟨rfl, hzz⟩
            subst wz
            refine hK.out _ _ (⟨hide rfl, c0, c2, d0, d1, d2⟩) (fun hHeld => ?_)
            clear hK K
            refine anyH_take 29 88 (v := ?v59) rfl rfl (by kernel_rfl) (by kernel_rfl) (by kernel_rfl) (fun _ _ _ h => h) (by rfl) ?h59 hHeld ?r59
            case h59 => (intro w hSw; (try dsimp only at hSw); go_simp; try (with_reducible rfl))
            simp only [Act.put, List.setIfInBounds_toArray, List.set_cons_zero, List.set_cons_succ]
            refine anyH_take 30 89 (v := ?v60) rfl rfl (by kernel_rfl) (by kernel_rfl) (by kernel_rfl) (fun _ _ _ h => h) (by rfl) ?h60 hHeld ?r60
            case h60 => (intro w hSw; (try dsimp only at hSw); go_simp; try (with_reducible rfl))
            simp only [Act.put, List.setIfInBounds_toArray, List.set_cons_zero, List.set_cons_succ]
            refine wpAnyH_done (by kernel_rfl) ?_ _
            go_wp2_with fail
            go_roundw
            case rel => exact ⟨j + 1, by omega, by go_num, unhide Z, q2 + 1, rfl⟩
            case measure => simp [intOf]; omega
        · obtain rfl : j = fn := by omega
          have hji : ¬ (j : Int) < (j : Int) := by omega
          replace E := hide (show okVsD d = d.ses.all (sesK nx) by
            rw [unhide E, all_true fun i hi => unhide hA i hi (by have := (unhide EQ).2.1; omega)]; rfl)
          clear hA
          go_wp2_with fail
          clear c1 c2
          go_loopw [5] (fun i wr => ∃ k : Nat, k ≤ 4 ∧ i = .int .i64 k ∧ Hid (∀ i (hi : i < d.ses.length), i < k → sesK nx d.ses[i] = true) ∧ Hid (Below bx w wr) ∧ Hid (wr.cell? ⟨bx, 0, none⟩ = some (.int .i64 nx) ∧ wr.cell? ⟨bx, 3, none⟩ = some (.slice sa 4 sc)) ∧ bx < wr.heap.size) (fun i _ => 4 - (intOf i).toNat)
          case atStart => exact ⟨0, Nat.zero_le _, rfl, (fun i _ hi => absurd hi (Nat.not_lt_zero _)), bel_drewN b0 _, ⟨c0, c3⟩, (Array.getElem?_eq_some_iff.1 (unhide K)).1⟩
          case round =>
            clear c0 c3 K b0 hbs
            obtain ⟨m, hm, rfl, hA, hB, hC, hbs⟩ := hrel
            obtain ⟨c0, c3⟩ := unhide hC
            by_cases hlt3 : m < 4
            · have hm2 : m < d.ses.length := by rw [(unhide EQ).2.2]; exact hlt3
              have hm3 : m < rs.length := by rw [(unhide HH _ (unhide hB)).ss.1]; exact hm2
              have hmi : (m : Int) < 4 := by omega
              obtain ⟨b, off, rfl, d0, d1, d2⟩ := (unhide HH _ (unhide hB)).s.2 m hm3
              have VV := hide (show ∀ u, Below bx w u → rs[m].o = d.ses[m].o ∧ rs[m].t = d.ses[m].t ∧ VRow u rs[m].ws.a rs[m].ws.n d.ses[m].ws from fun u hu => (unhide HH u hu).ss.2 m hm3 hm2)
              have WN := (unhide HF).w m hm3
              have FZ := hide (fun (hf : sesK nx d.ses[m] = false) => show false = okVsD d by rw [unhide E, all_false hm2 hf])
              have FY := hide (step_all (p := sesK nx) hm2 (unhide hA))
              generalize d.ses[m] = sd at *
              generalize rs[m] = pd at *
              obtain ⟨po, pt, pa, pn, pc⟩ := pd
              obtain ⟨so, st, sws⟩ := sd
              obtain ⟨eo, et, _⟩ := unhide VV _ (unhide hB)
              simp only at d0 d1 d2 VV WN eo et
              subst eo et
              have LW := hide (unhide VV _ (unhide hB)).2.2.1
              have B1 : Below wr.heap.size wr (wr.alloc (.cells #[.bool po, .int .i64 pt, .slice pa pn pc] 93)) := (Below.refl _ _).alloc (Nat.le_refl _) _
              have BX := hide ((unhide hB).trans (B1.mono (by omega)))
              have x0 := (B1.cell (p := ⟨bx, 0, none⟩) hbs).trans c0
              have x3 := (B1.cell (p := ⟨bx, 3, none⟩) hbs).trans c3
              have KS := hide (heap_alloc_new wr (.cells #[.bool po, .int .i64 pt, .slice pa pn pc] 93))
              have hs1 := B1.size
              have hsx : bx < wr.heap.size := hbs
              clear B1 hA hB hC
              go_upto_region 17 with fail
              clear c0 c3 d0 d1 d2
              generalize wr.alloc (.cells #[.bool po, .int .i64 pt, .slice pa pn pc] 93) = W2 at *
              have hbs2 : bx < W2.heap.size := by omega
              generalize wr.heap.size = sx at *
              obtain ⟨y0, y1, y2⟩ : W2.cell? ⟨sx, 0, none⟩ = some (.bool po) ∧ W2.cell? ⟨sx, 1, none⟩ = some (.int .i64 pt) ∧ W2.cell? ⟨sx, 2, none⟩ = some (.slice pa pn pc) := ⟨(heap_at (unhide KS) 0).1, (heap_at (unhide KS) 1).1, (heap_at (unhide KS) 2).1⟩
              by_cases hl8 : pn ≤ 8
              case neg =>
                have Z := hide (unhide FZ (ses_long (by rw [unhide LW]; exact hl8)))
                have g8 : (8 : Int) < (pn : Int) := by omega
                clear FZ FY
                go_wp2_with fail
                go_ret
                exact ⟨ret_bool (unhide Z), by subst hbx; exact unhide BX⟩
              have g8 : ¬ (8 : Int) < (pn : Int) := by omega
              have LS := hide (show Calls Tryz.prog 30 #[.slice pa pn pc] W2 fun e w' => e = .returned (.bool (okVs sws)) ∧ Below W2.heap.size W2 w' from l06List_any pa pn pc sws W2 WN (unhide VV W2 (unhide BX)).2.2)
              cases po
              · have SE := hide (ses_shut (next := nx) (s := ⟨false, pt, sws⟩) rfl)
                by_cases ht : pt = 0
                · subst ht
                  by_cases hp : pn = 0
                  · subst hp
                    have Z := hide (unhide FY (by rw [unhide SE]; simp only; rw [unhide LW]; rfl))
                    have hws : sws = [] := List.eq_nil_of_length_eq_zero (unhide LW)
                    have EO := hide (show okVs sws = true by rw [hws]; rfl)
                    rw [unhide EO] at LS
                    clear FZ FY SE hws EO g8 hl8
                    go_wp2_with fail
                    refine (unhide LS).mono ?_
                    rintro e w3 ⟨rfl, hb⟩
                    have z0 := (hb.cell (p := ⟨bx, 0, none⟩) hbs2).trans x0
                    have z3 := (hb.cell (p := ⟨bx, 3, none⟩) hbs2).trans x3
                    have z2 := (hb.cell (p := ⟨sx, 2, none⟩) (cell_lt y2)).trans y2
                    have B3 := hide ((unhide BX).trans (hb.mono (by omega)))
                    have hs3 := hb.size
                    clear hb LS y0 y1 y2 x0 x3 BX
                    go_wp2_with fail
                    refine wp_loop_rounds 1 ?_
                    rw [rounds_succ]
                    go_wp2_with fail
                    go_roundw
                    case rel => exact ⟨m + 1, by omega, by go_num, unhide Z, unhide B3, ⟨z0, z3⟩, by omega⟩
                    case measure => simp [intOf]; omega
                  · have Z := hide (unhide FZ (by rw [unhide SE]; simp only; rw [unhide LW, decide_eq_false hp]; simp))
                    have gp : (0 : Int) < (pn : Int) := by omega
                    clear FZ FY SE LS
                    go_wp2_with fail
                    go_ret
                    exact ⟨ret_bool (unhide Z), by subst hbx; exact unhide BX⟩
                · have Z := hide (unhide FZ (by rw [unhide SE]; simp only; rw [decide_eq_false ht]; rfl))
                  have gp : (pt != 0) = true := by simpa [bne] using ht
                  clear FZ FY SE LS
                  go_wp2_with fail
                  go_ret
                  exact ⟨ret_bool (unhide Z), by subst hbx; exact unhide BX⟩
              · have SE := hide (ses_open (next := nx) (s := ⟨true, pt, sws⟩) rfl (by rw [unhide LW]; exact hl8))
                simp only at SE
                have SI := hide (vs_l01In pt 1 (nx - 1))
                generalize (decide (1 ≤ pt) && decide (pt ≤ nx - 1)) = bi at *
                have SW := hide (show ∀ w, Calls Tryz.prog 55 #[.int .i64 pt, .int .i64 1, .int .i64 (IntKind.i64.wrap (nx - 1))] w fun e w' => e = .returned (.bool bi) ∧ w' = w from fun w => by rw [hwn]; exact unhide SI w)
                cases bi
                · have Z := hide (unhide FZ (by rw [unhide SE]; rfl))
                  clear FZ FY SE LS
                  go_wp2_with (first | (go_at_call 55; refine (unhide SI _).mono ?_; rintro e wq ⟨rfl, hww⟩; subst wq) | (go_at_call 55; refine (unhide SW _).mono ?_; rintro e wq ⟨rfl, hww⟩; subst wq))
                  go_ret
                  exact ⟨ret_bool (unhide Z), by subst hbx; exact unhide BX⟩
                · have EO := hide (show sesK nx ⟨true, pt, sws⟩ = (okVs sws && oneT sws pt) by rw [unhide SE]; rfl)
                  clear SE
                  go_wp2_with (first | (go_at_call 55; refine (unhide SI _).mono ?_; rintro e wq ⟨rfl, hww⟩; subst wq) | (go_at_call 55; refine (unhide SW _).mono ?_; rintro e wq ⟨rfl, hww⟩; subst wq))
                  refine (unhide LS).mono ?_
                  rintro e w3 ⟨rfl, hb⟩
                  have z0 := (hb.cell (p := ⟨bx, 0, none⟩) hbs2).trans x0
                  have z3 := (hb.cell (p := ⟨bx, 3, none⟩) hbs2).trans x3
                  have z1 := (hb.cell (p := ⟨sx, 1, none⟩) (cell_lt y1)).trans y1
                  have z2 := (hb.cell (p := ⟨sx, 2, none⟩) (cell_lt y2)).trans y2
                  have B3 := hide ((unhide BX).trans (hb.mono (by omega)))
                  have hs3 := hb.size
                  have VW := hide (unhide VV w3 (unhide B3)).2.2
                  clear hb LS y0 y1 y2 x0 x3 BX SI SW g8
                  cases hok : okVs sws with
                  | false =>
                    have Z := hide (unhide FZ (by rw [unhide EO, hok]; rfl))
                    clear FZ FY EO hok
                    go_wp2_with fail
                    go_ret
                    exact ⟨ret_bool (unhide Z), by subst hbx; exact unhide B3⟩
                  | true =>
                    have HOK := hide hok
                    clear hok
                    go_wp2_with fail
                    go_loopw [7] (fun i wr => ∃ k : Nat, k ≤ pn ∧ i = .int .i64 k ∧ Hid (∀ i (hi : i < sws.length), i < k → sws[i].t = pt) ∧ ∃ q, wr = w3.drewN q) (fun i _ => pn - (intOf i).toNat)
                    case atStart => exact ⟨0, Nat.zero_le _, rfl, (fun i _ hi => absurd hi (Nat.not_lt_zero _)), 0, rfl⟩
                    case round =>
                      obtain ⟨r, hr, rfl, hT, q3, rfl⟩ := hrel
                      by_cases hlt4 : r < pn
                      · have hr2 : r < sws.length := by rw [unhide LW]; exact hlt4
                        have hri : (r : Int) < (pn : Int) := by omega
                        obtain ⟨vb, vo, ea, v0, v1, v2, v3⟩ := (unhide VW).2 r hr2
                        subst ea
                        have SF := hide (fun (e : sws[r].t ≠ pt) => show false = okVsD d from unhide FZ (by rw [unhide EO, oneT_false hr2 e]; simp))
                        have SY := hide (find_step hr2 (unhide hT))
                        by_cases hr0 : r = 0
                        · have hg : decide ((0 : Int) < (r : Int)) = false := decide_eq_false (by omega)
                          have hg1 : decide (0 < r) = false := decide_eq_false (by omega)
                          clear hr0 hT
                          generalize sws[r] = xd at *
                          obtain ⟨xk, xt, xv, xg⟩ := xd
                          simp only at v0 v1 SF SY
                          clear v2 v3
                          by_cases ht : xt = pt
                          · subst ht
                            have Z := hide (unhide SY rfl)
                            have hd : (xt != xt) = false := by simp
                            clear SF SY
                            go_wp2_with fail
                            go_quiet (fail)
                            go_wp2_with fail
                            go_roundw
                            case rel => exact ⟨r + 1, by omega, by go_num, unhide Z, _, rfl⟩
                            case measure => simp [intOf]; omega
                          · have Z := hide (unhide SF ht)
                            have hd : (xt != pt) = true := by simpa [bne] using ht
                            clear SF SY ht
                            go_wp2_with fail
                            go_quiet (fail)
                            go_wp2_with fail
                            go_ret
                            exact ⟨ret_bool (unhide Z), by subst hbx; exact bel_drewN (bel_drewN (unhide B3) _) _⟩
                        · have hj : r - 1 < sws.length := by omega
                          obtain ⟨vb', vo', ea', y0, y1, y2, y3⟩ := (unhide VW).2 (r - 1) hj
                          cases ea'
                          have hg : decide ((0 : Int) < (r : Int)) = true := decide_eq_true (by omega)
                          have hg1 : decide (0 < r) = true := decide_eq_true (by omega)
                          have hi1 : ((r : Int) - 1).toNat = r - 1 := by omega
                          have hi2 : (0 : Int) ≤ (r : Int) - 1 := by omega
                          have hi4 : (1 : Int) ≤ (r : Int) := by omega
                          have hwr : IntKind.i64.wrap ((r : Int) - 1) = (r : Int) - 1 := by rw [IntKind.wrap_i64]; omega
                          have hi3 : (r : Int) - 1 < (pn : Int) := by omega
                          have LT := hide (okVs_lt (unhide HOK) hr2 (by omega))
                          have TP := unhide hT (r - 1) hj (by omega)
                          clear hr0 hT
                          generalize sws[r] = xd at *
                          generalize sws[r - 1] = yd at *
                          obtain ⟨xk, xt, xv, xg⟩ := xd
                          obtain ⟨yk, yt, yv, yg⟩ := yd
                          simp only at v0 v1 SF SY y0 TP
                          clear v2 v3 y1 y2 y3
                          by_cases ht : xt = pt
                          · have hne : (yk.toList == xk.toList) = false := vs_ne (ltV_other (unhide LT) (by show yt = xt; rw [TP, ht]))
                            subst ht
                            have Z := hide (unhide SY rfl)
                            have hd : (xt != xt) = false := by simp
                            clear SF SY LT TP
                            go_wp2_with fail
                            go_quiet (fail)
                            go_wp2_with fail
                            go_roundw
                            case rel => exact ⟨r + 1, by omega, by go_num, unhide Z, _, rfl⟩
                            case measure => simp [intOf]; omega
                          · have Z := hide (unhide SF ht)
                            have hd : (xt != pt) = true := by simpa [bne] using ht
                            clear SF SY ht LT TP
                            go_wp2_with fail
                            go_quiet (fail)
                            go_wp2_with fail
                            go_ret
                            exact ⟨ret_bool (unhide Z), by subst hbx; exact bel_drewN (bel_drewN (unhide B3) _) _⟩
                      · obtain rfl : r = pn := by omega
                        have hri : ¬ (r : Int) < (r : Int) := by omega
                        have Z := hide (unhide FY (by rw [unhide EO, unhide HOK, oneT_true fun i hi => unhide hT i hi (by have := unhide LW; omega)]; rfl))
                        clear FZ FY EO hT
                        go_wp2_with fail
                        go_roundw
                        case rel => exact ⟨m + 1, by omega, by go_num, unhide Z, bel_drewN (unhide B3) _, ⟨z0, z3⟩, by show bx < w3.heap.size; omega⟩
                        case measure => simp [intOf]; omega
            · obtain rfl : m = 4 := by omega
              have Z := hide (show true = okVsD d by rw [unhide E, all_true fun i hi => unhide hA i hi (by have := (unhide EQ).2.2; omega)])
              go_wp2_with fail
              go_ret
              exact ⟨ret_bool (unhide Z), by subst hbx; exact unhide hB⟩
end Go.Proofs.YtfajenejngddeaaGreat

namespace Go.Proofs.YtfajenejngddeaaGreat
open Go.RowKit
theorem far_new {B : Nat} {w : World} {s : Sl} {hs : List SeH} (h : SeOwn w B (.slice s.a s.n s.c) hs) {i : Nat} (hi : w.heap.size ≤ i) : ¬ NBl (.slice s.a s.n s.c) (hs.map seEl) i := fun hn => by
  have := (h.lt i hn).2
  omega
set_option maxRecDepth 100000 in
/-- The list of versions under way begins anew. -/
theorem VgSt.litV {wr : World} {B tb : Nat} {next : Int} {l f s : Sl} {hs : List SeH} {ls : List VerD} {fs : List FenD} (h : VgSt wr B tb next l f s hs ls fs) (hB : B ≤ wr.heap.size) : VgSt ((wr.alloc (.cells #[] 39)).setCell ⟨tb, 1, none⟩ (.slice (some ⟨wr.heap.size, 0, none⟩) 0 0)) B tb next ⟨some ⟨wr.heap.size, 0, none⟩, 0, 0⟩ f s hs [] fs := by
  have bA := (Below.refl wr.heap.size wr).alloc (Nat.le_refl _) (.cells #[] 39)
  have hA := h.below bA
  have hw := set1_wr (wr.alloc (.cells #[] 39)) tb 1 (.slice (some ⟨wr.heap.size, 0, none⟩) 0 0)
  have ov : VOwns (wr.alloc (.cells #[] 39)) B (.slice (some ⟨wr.heap.size, 0, none⟩) 0 0) [] := gd_base (nil_lit (w := wr) 39 4) hB
  refine ⟨own_keep ov hA.box (by decide) hw, own_keep hA.fo hA.box (by decide) hw, hA.so.keep hw (fun i hi e => by subst e; exact se_box hA.so hA.box (by decide) (by decide) hi), fun i hi => ?_, ?_, h.tge⟩
  · injection hi with hi
    subst hi
    exact far_new h.so (Nat.le_refl _)
  · have := heap_set hA.box 1 (.slice (some ⟨wr.heap.size, 0, none⟩) 0 0)
    simpa using this
set_option maxRecDepth 100000 in
theorem VgSt.litF {wr : World} {B tb : Nat} {next : Int} {l f s : Sl} {hs : List SeH} {ls : List VerD} {fs : List FenD} (h : VgSt wr B tb next l f s hs ls fs) (hB : B ≤ wr.heap.size) : VgSt ((wr.alloc (.cells #[] 90)).setCell ⟨tb, 2, none⟩ (.slice (some ⟨wr.heap.size, 0, none⟩) 0 0)) B tb next l ⟨some ⟨wr.heap.size, 0, none⟩, 0, 0⟩ s hs ls [] := by
  have bA := (Below.refl wr.heap.size wr).alloc (Nat.le_refl _) (.cells #[] 90)
  have hA := h.below bA
  have hw := set1_wr (wr.alloc (.cells #[] 90)) tb 2 (.slice (some ⟨wr.heap.size, 0, none⟩) 0 0)
  have ov : FOwns (wr.alloc (.cells #[] 90)) B (.slice (some ⟨wr.heap.size, 0, none⟩) 0 0) [] := gd_base (nil_lit (w := wr) 90 3) hB
  refine ⟨own_keep hA.vo hA.box (by decide) hw, own_keep ov hA.box (by decide) hw, hA.so.keep hw (fun i hi e => by subst e; exact se_box hA.so hA.box (by decide) (by decide) hi), h.far, ?_, h.tge⟩
  have := heap_set hA.box 2 (.slice (some ⟨wr.heap.size, 0, none⟩) 0 0)
  simpa using this
set_option maxRecDepth 100000 in
/-- A version appended. -/
theorem VgSt.appV {wr : World} {B tb : Nat} {next : Int} {l f s : Sl} {hs : List SeH} {ls : List VerD} {fs : List FenD} (h : VgSt wr B tb next l f s hs ls fs) (x : VerD) (hv : l.a ≠ none) (hz : ls.length ≤ 1000000) (hB : B ≤ wr.heap.size) :
    ∃ q : Sl, ∃ w5, q.a ≠ none ∧ (Builtin.append_ #[23, 23] 23 #[.slice l.a l.n l.c, .slice (some ⟨wr.heap.size, 0, none⟩) 1 1]).run Tryz.prog (wr.alloc (.cells #[.string x.k, .int .i64 x.t, .string x.v, .bool x.g] 39)) = .ok (.slice q.a q.n q.c) w5 ∧ VgSt (w5.setCell ⟨tb, 1, none⟩ (.slice q.a q.n q.c)) B tb next q f s hs (ls ++ [x]) fs ∧ Below B wr (w5.setCell ⟨tb, 1, none⟩ (.slice q.a q.n q.c)) ∧ w5.heap[tb]? = some (.cells (vzC next l f s) 27 (0, 0)) := by
  have bA := (Below.refl wr.heap.size wr).alloc (Nat.le_refl _) (.cells #[.string x.k, .int .i64 x.t, .string x.v, .bool x.g] 39)
  have hA := h.below bA
  obtain ⟨g, k, w5, hr, ho, hg, loc⟩ := v_appS (c := 1) 23 hA.vo (fun e => by injection e with e; exact hv e) (vrow_one wr x) (fun e => by cases e) (by omega) (Nat.le_trans hB bA.size)
  have hw := WrB.of_grown hg
  have k5 := (hw.block tb (blk_lt hA.box) (own_box hA.vo hA.box (by decide))).trans hA.box
  have f5 := rr_owns_wr hA.fo hw (fun i hi => own_other hA.fo hA.vo (by decide) hi)
  have s5 := hA.so.keep hw (fun i hi e => hA.far i e hi)
  have hS := set1_wr w5 tb 1 (.slice (some ⟨g, 0, none⟩) (ls.length + 1) k)
  have bB := bA.mono hB
  have b5 := bB.trans (WrB.below hw (fun i hi => (hA.vo.lt i hi).1) (Nat.le_trans hB bA.size))
  refine ⟨⟨some ⟨g, 0, none⟩, ls.length + 1, k⟩, w5, by simp, hr, ⟨own_keep ho k5 (by decide) hS, own_keep f5 k5 (by decide) hS, s5.keep hS (fun i hi e => by subst e; exact se_box s5 k5 (by decide) (by decide) hi), fun i hi => ?_, ?_, h.tge⟩, b5.trans (WrB.below hS (fun i e => by rw [e]; exact h.tge) (Nat.le_trans hB b5.size)), k5⟩
  · injection hi with hi
    subst hi
    rcases loc with e | e
    · exact hA.far _ e.symm
    · exact far_new hA.so (by show _ ≤ g; omega)
  · have := heap_set k5 1 (.slice (some ⟨g, 0, none⟩) (ls.length + 1) k)
    simpa using this
set_option maxRecDepth 100000 in
/-- A fence appended. -/
theorem VgSt.appF {wr : World} {B tb : Nat} {next : Int} {l f s : Sl} {hs : List SeH} {ls : List VerD} {fs : List FenD} (h : VgSt wr B tb next l f s hs ls fs) (x : FenD) (hz : fs.length ≤ 1000000) (hB : B ≤ wr.heap.size) :
    ∃ q : Sl, ∃ w5, (Builtin.append_ #[24, 24] 24 #[.slice f.a f.n f.c, .slice (some ⟨wr.heap.size, 0, none⟩) 1 1]).run Tryz.prog (wr.alloc (.cells #[.string x.f, .string x.u, .int .i64 x.t] 90)) = .ok (.slice q.a q.n q.c) w5 ∧ VgSt (w5.setCell ⟨tb, 2, none⟩ (.slice q.a q.n q.c)) B tb next l q s hs ls (fs ++ [x]) ∧ Below B wr w5 ∧ Below B wr (w5.setCell ⟨tb, 2, none⟩ (.slice q.a q.n q.c)) ∧ w5.heap[tb]? = some (.cells (vzC next l f s) 27 (0, 0)) := by
  have bA := (Below.refl wr.heap.size wr).alloc (Nat.le_refl _) (.cells #[.string x.f, .string x.u, .int .i64 x.t] 90)
  have hA := h.below bA
  obtain ⟨q, w5, hr, ho, hg⟩ := f_app1 x h.fo hz hB
  have hw := WrB.of_grown hg
  have k5 := (hw.block tb (blk_lt hA.box) (own_box hA.fo hA.box (by decide))).trans hA.box
  have v5 := rr_owns_wr hA.vo hw (fun i hi => own_other hA.vo hA.fo (by decide) hi)
  have s5 := hA.so.keep hw (fun i hi e => by
    obtain ⟨cur, hc⟩ := own_kind hA.fo e
    exact se_box hA.so hc (by decide) (by decide) hi)
  have hS := set1_wr w5 tb 2 (.slice q.a q.n q.c)
  have bB := bA.mono hB
  have b5 := bB.trans (WrB.below hw (fun i hi => (hA.fo.lt i hi).1) (Nat.le_trans hB bA.size))
  refine ⟨q, w5, hr, ⟨own_keep v5 k5 (by decide) hS, own_keep ho k5 (by decide) hS, s5.keep hS (fun i hi e => by subst e; exact se_box s5 k5 (by decide) (by decide) hi), h.far, ?_, h.tge⟩, b5, b5.trans (WrB.below hS (fun i e => by rw [e]; exact h.tge) (Nat.le_trans hB b5.size)), k5⟩
  have := heap_set k5 2 (.slice q.a q.n q.c)
  simpa using this
/-- Below what a literal stored into a box has left. -/
theorem bel_lit {B tb k : Nat} {wr : World} (hB : B ≤ wr.heap.size) (ht : B ≤ tb) (cs : Array Value) (t : TypeId) (v : Value) : Below B wr ((wr.alloc (.cells cs t)).setCell ⟨tb, k, none⟩ v) := ((Below.refl B wr).alloc hB (.cells cs t)).setCell (p := ⟨tb, k, none⟩) ht v
theorem VgSt.new {w : World} {B : Nat} {l f s : Sl} {hs : List SeH} {d : VsD} (h : VzOwn w B l f s hs d) (hB : B ≤ w.heap.size) : VgSt (w.alloc (.cells (vzC d.next l f s) 27)) B w.heap.size d.next l f s hs d.list d.fen := by
  have hA := h.below ((Below.refl w.heap.size w).alloc (Nat.le_refl _) (.cells (vzC d.next l f s) 27))
  exact ⟨hA.vo, hA.fo, hA.so, hA.far, heap_alloc_new _ _, hB⟩
end Go.Proofs.YtfajenejngddeaaGreat

namespace Go.Proofs.YtfajenejngddeaaGreat
open Go.RowKit

set_option maxRecDepth 100000 in
set_option maxHeartbeats 8000000 in
theorem specPrune_any (d : VsD) (t : Int) (l f s : Sl) (hs : List SeH) (w : World) (hI : VzIn w l f s hs d) (hl : VsFew l f s (hs.map seR)) :
    Calls Tryz.prog 13 #[.agg (vzC d.next l f s), .int .i64 t] w fun e w' => PrRes d t w e w' := by
  obtain ⟨W, hW⟩ : ∃ W, W = (w.alloc (.cells (vzC d.next l f s) 27)).alloc (.cells #[.int .i64 0, .slice none 0 0, .slice none 0 0, .slice none 0 0] 27) := ⟨_, rfl⟩
  obtain ⟨b1, kv, kr, hz⟩ := twoBx hW
  have hz0 : w.heap.size < W.heap.size := by omega
  have hz1 : w.heap.size + 1 < W.heap.size := by omega
  have CO := hide (specVersionsOK_any l f s (hs.map seR) d W ((vs_of_vz hI).below b1) hl)
  have BH := hide b1
  have HI := hide hI
  have HL := hide hl
  obtain ⟨la, ln, lc⟩ := l
  obtain ⟨fa, fn, fc⟩ := f
  obtain ⟨sa, sn, sc⟩ := s
  unfold vzC at *
  simp only at hW kv CO ⊢
  have KV := hide kv
  have KR := hide kr
  have v0 := (heap_at kv 0).1
  have v1 := (heap_at kv 1).1
  have v2 := (heap_at kv 2).1
  have v3 := (heap_at kv 3).1
  have y0 := (heap_at kr 0).1
  have y1 := (heap_at kr 1).1
  have y2 := (heap_at kr 2).1
  have y3 := (heap_at kr 3).1
  have yf0 := (heap_at kr 0).2
  have yf1 := (heap_at kr 1).2
  have yf2 := (heap_at kr 2).2
  have yf3 := (heap_at kr 3).2
  clear hI hl b1 hz kv kr
  go_enter Tryz.func13, Tryz.ntmps13
  go_wp2_with fail
  rw [← hW]
  clear hW
  refine (unhide CO).mono ?_
  rintro e w1 ⟨rfl, hb1⟩
  clear CO v0 v1 v2 v3 y0 y1 y2 y3 yf0 yf1 yf2 yf3
  have hw1 := hb1.size
  have B1 := hide hb1
  have kr := (hb1.block (w.heap.size + 1) hz1).trans (unhide KR)
  have y0 := (heap_at kr 0).1
  have y1 := (heap_at kr 1).1
  have y2 := (heap_at kr 2).1
  have y3 := (heap_at kr 3).1
  have yf0 := (heap_at kr 0).2
  have yf1 := (heap_at kr 1).2
  have yf2 := (heap_at kr 2).2
  have yf3 := (heap_at kr 3).2
  clear hb1
  cases hok : okVsD d with
  | false =>
    have RES := hide (pr_bad (t := t) (w := w) (w' := ((((w1.setCell ⟨w.heap.size + 1, 0, none⟩ (.int .i64 0)).setCell ⟨w.heap.size + 1, 1, none⟩ (.slice none 0 0)).setCell ⟨w.heap.size + 1, 2, none⟩ (.slice none 0 0)).setCell ⟨w.heap.size + 1, 3, none⟩ (.slice none 0 0))) hok (bel_sv4 ((unhide BH).trans ((unhide B1).mono (unhide BH).size)) (by omega) _ _ _ _))
    clear kr
    go_wp2_with fail
    refine bodyPost_ret (v := .tuple #[.agg #[.int .i64 0, .slice none 0 0, .slice none 0 0, .slice none 0 0], .int .i64 1]) (by simp [results, Tryz.results13, go_sem, *]) rfl ?_
    exact unhide RES
  | true =>
    clear kr y0 y1 y2 y3 yf0 yf1 yf2 yf3
    have TOP := hide (show d.list.length ≤ 4096 ∧ d.fen.length ≤ 4096 ∧ d.ses.length = 4 by
      have h := hok
      unfold okVsD topK at h
      simp only [Bool.and_eq_true, decide_eq_true_eq] at h
      exact ⟨h.1.2.2.1, h.1.2.2.2.1, h.1.2.2.2.2⟩)
    have kv := ((unhide B1).block w.heap.size hz0).trans (unhide KV)
    have v0 := (heap_at kv 0).1
    have LN := hide (unhide HI).len
    have L0 := hide (leTo_zero d)
    have LS := hide (fun j hj => leTo_step d (j := j) hj)
    have LA := hide (leTo_all d)
    have hsn4 : sn ≤ 4 := by have h1 := (unhide LN).1; have h2 := (unhide LN).2; have h3 := (unhide TOP).2.2; simp only at h1; omega
    have hln4 : ln ≤ 4096 := by have h := (unhide HI).vr.1; simp only at h; have := (unhide TOP).1; omega
    have hfn4 : fn ≤ 4096 := by have h := (unhide HI).fr.1; simp only at h; have := (unhide TOP).2.1; omega
    have OKH := hide hok
    clear kv hok
    go_wp2_with fail
    clear v0
    go_loopw [6, 7] (fun lv iv wr => ∃ j : Nat, lv = .int .i64 (leTo d j) ∧ iv = .int .i64 (j : Int) ∧ j ≤ sn ∧ Hid (Below W.heap.size W wr)) (fun _ iv _ => sn - (intOf iv).toNat)
    case atStart => exact ⟨0, by rw [unhide L0], rfl, Nat.zero_le _, B1⟩
    case round =>
      clear B1
      obtain ⟨j, rfl, rfl, hj, hB⟩ := hrel
      have kv := ((unhide hB).block w.heap.size hz0).trans (unhide KV)
      have v3 := (heap_at kv 3).1
      by_cases hlt : j < sn
      · have hj2 : j < hs.length := by rw [(unhide LN).1]; exact hlt
        have hkn : (j : Int) < (sn : Int) := by omega
        obtain ⟨b, off, hba, -, c0, c1, -⟩ := SeIn.cells ((unhide HI).below ((unhide BH).trans ((unhide hB).mono (unhide BH).size))).sr hj2
        subst hba
        obtain ⟨hd, hxe⟩ := (unhide HI).at hj2
        have Z := hide (unhide LS j hd)
        rw [← hxe] at Z
        generalize hs[j] = x at *
        obtain ⟨⟨o, xt, wl⟩, ws⟩ := x
        simp only at c0 c1 Z
        clear kv hxe
        cases o with
        | true =>
          have ZT := hide (show leTo d (j + 1) = min (leTo d j) xt by rw [unhide Z, if_pos rfl])
          generalize leTo d j = lj at *
          have ZM := unhide ZT
          clear Z ZT
          go_wp2_with fail
          go_roundw
          case rel => exact ⟨j + 1, by first | rw [ZM] | (rw [ZM]; rfl) | (rw [ZM]; simp [min_def]), by go_num, by omega, hB⟩
          case measure => simp [intOf]; omega
        | false =>
          have ZT := hide (show leTo d (j + 1) = leTo d j by rw [unhide Z]; simp)
          clear Z
          go_wp2_with fail
          go_roundw
          case rel => exact ⟨j + 1, by rw [unhide ZT], by go_num, by omega, hB⟩
          case measure => simp [intOf]; omega
      · obtain rfl : sn = j := by omega
        have hLL : leTo d sn = leastV d := by rw [← unhide LA, ← (unhide LN).2, (unhide LN).1]
        rw [hLL]
        clear hLL kv
        generalize hle : leastV d = le at *
        have LE := hide hle
        clear hle
        by_cases hge : le ≤ t
        · have kr := ((unhide hB).block (w.heap.size + 1) hz1).trans (unhide KR)
          have y0 := (heap_at kr 0).1
          have y1 := (heap_at kr 1).1
          have y2 := (heap_at kr 2).1
          have y3 := (heap_at kr 3).1
          have yf0 := (heap_at kr 0).2
          have yf1 := (heap_at kr 1).2
          have yf2 := (heap_at kr 2).2
          have yf3 := (heap_at kr 3).2
          have RES := hide (pr_state (t := t) (w := w) (w' := ((((wr.setCell ⟨w.heap.size + 1, 0, none⟩ (.int .i64 0)).setCell ⟨w.heap.size + 1, 1, none⟩ (.slice none 0 0)).setCell ⟨w.heap.size + 1, 2, none⟩ (.slice none 0 0)).setCell ⟨w.heap.size + 1, 3, none⟩ (.slice none 0 0))) (unhide OKH) (by rw [unhide LE]; exact hge) (bel_sv4 ((unhide BH).trans ((unhide hB).mono (unhide BH).size)) (by omega) _ _ _ _))
          clear kr
          go_wp2_with fail
          refine bodyPost_ret (v := .tuple #[.agg #[.int .i64 0, .slice none 0 0, .slice none 0 0, .slice none 0 0], .int .i64 8]) (by simp [results, Tryz.results13, go_sem, *]) rfl ?_
          exact unhide RES
        have GE := hide hge
        have kv := ((unhide hB).block w.heap.size hz0).trans (unhide KV)
        have v0 := (heap_at kv 0).1
        have v1 := (heap_at kv 1).1
        have v2 := (heap_at kv 2).1
        have v3 := (heap_at kv 3).1
        have IW := (unhide HI).below ((unhide BH).trans ((unhide hB).mono (unhide BH).size))
        have CALL := hide (l06Own_any d ⟨la, ln, lc⟩ ⟨fa, fn, fc⟩ ⟨sa, sn, sc⟩ hs wr IW (by have := IW.vr.1; have := (unhide TOP).1; simp only at *; omega) (by have := IW.fr.1; have := (unhide TOP).2.1; simp only at *; omega) (by have := IW.len; have := (unhide TOP).2.2; simp only at *; omega) (fun h hh => by
          obtain ⟨k, hk, rfl⟩ := List.getElem_of_mem hh
          have h1 := (unhide HL).w k (by simpa using hk)
          rw [List.getElem_map] at h1
          exact h1))
        have RV := hide (show VRow w la ln d.list from (unhide HI).vr)
        have RF := hide (show FRow w fa fn d.fen from (unhide HI).fr)
        clear kv IW
        unfold vzC at CALL
        simp only at CALL
        go_wp2_with fail
        refine (unhide CALL).mono ?_
        rintro e w2 ⟨⟨la1, ln1, lc1⟩, ⟨fa1, fn1, fc1⟩, ⟨sa1, sn1, sc1⟩, hs1, rfl, hO, hb2⟩
        clear v0 v1 v2 v3 CALL hge
        unfold vzC
        simp only
        have hW2 : W.heap.size ≤ w2.heap.size := Nat.le_trans (unhide hB).size hb2.size
        have SSH := hide hO.ss
        have G0 := hide (VgSt.new (hO.dn (unhide hB).size) hW2)
        have B0 := hide (((unhide hB).trans (hb2.mono (unhide hB).size)).alloc hW2 (.cells (vzC d.next ⟨la1, ln1, lc1⟩ ⟨fa1, fn1, fc1⟩ ⟨sa1, sn1, sc1⟩) 27))
        unfold vzC at G0 B0
        simp only at G0 B0
        have hWb := hW2
        clear hO hb2 hB
        go_upto_region 12 with fail
        generalize w2.alloc (.cells #[.int .i64 d.next, .slice la1 ln1 lc1, .slice fa1 fn1 fc1, .slice sa1 sn1 sc1] 27) = u at *
        generalize w2.heap.size = tb at *
        have hu := (unhide B0).size
        have bx := ((unhide G0).below ((Below.refl u.heap.size u).alloc (Nat.le_refl _) (.cells #[] 39))).box
        unfold vzC at bx
        have t1 := (heap_at bx 1).1
        have p1 := (heap_at bx 1).2
        have G1 := hide ((unhide G0).litV hu)
        have B1 := hide ((unhide B0).trans (bel_lit (k := 1) hu hWb #[] 39 (.slice (some ⟨u.heap.size, 0, none⟩) 0 0)))
        clear bx G0 B0
        go_wp2_with fail
        clear t1 p1
        go_loopw [9] (fun i wr => ∃ (j : Nat) (l2 : Sl), i = .int .i64 (j : Int) ∧ j ≤ ln ∧ l2.a ≠ none ∧ Hid (VgSt wr W.heap.size tb d.next l2 ⟨fa1, fn1, fc1⟩ ⟨sa1, sn1, sc1⟩ hs1 (prTo d.list t j) d.fen) ∧ Hid (Below W.heap.size W wr)) (fun i _ => ln - (intOf i).toNat)
        case atStart => exact ⟨0, _, rfl, Nat.zero_le _, by simp, G1, B1⟩
        case round =>
          clear G1 B1
          obtain ⟨j, ⟨l2a, l2n, l2c⟩, rfl, hj, hne, hG, hB⟩ := hrel
          have kv := ((unhide hB).block w.heap.size hz0).trans (unhide KV)
          have v1 := (heap_at kv 1).1
          clear kv
          by_cases hlt : j < ln
          case neg =>
            obtain rfl : j = ln := by omega
            rw [show prTo d.list t j = prL d.list t from by unfold prL; rw [(unhide RV).1]] at hG
            have hu := (unhide hB).size
            have bx := ((unhide hG).below ((Below.refl wr.heap.size wr).alloc (Nat.le_refl _) (.cells #[] 90))).box
            unfold vzC at bx
            have t2 := (heap_at bx 2).1
            have p2 := (heap_at bx 2).2
            have G1 := hide ((unhide hG).litF hu)
            have B1 := hide ((unhide hB).trans (bel_lit (k := 2) hu hWb #[] 90 (.slice (some ⟨wr.heap.size, 0, none⟩) 0 0)))
            simp only at t2
            clear bx hG hB
            go_wp2_with fail
            clear t2 p2 v1
            go_loopw [12] (fun i wr => ∃ (k : Nat) (f2 : Sl), i = .int .i64 (k : Int) ∧ k ≤ fn ∧ Hid (VgSt wr W.heap.size tb d.next ⟨l2a, l2n, l2c⟩ f2 ⟨sa1, sn1, sc1⟩ hs1 (prL d.list t) (prF (d.fen.take k) le)) ∧ Hid (Below W.heap.size W wr)) (fun i _ => fn - (intOf i).toNat)
            case atStart => exact ⟨0, _, rfl, Nat.zero_le _, G1, B1⟩
            case round =>
              clear G1 B1
              obtain ⟨k, ⟨f2a, f2n, f2c⟩, rfl, hk, hG, hB⟩ := hrel
              have kv := ((unhide hB).block w.heap.size hz0).trans (unhide KV)
              have v2 := (heap_at kv 2).1
              clear kv
              by_cases hlt3 : k < fn
              case neg =>
                obtain rfl : k = fn := by omega
                have kr := ((unhide hB).block (w.heap.size + 1) hz1).trans (unhide KR)
                have y0 := (heap_at kr 0).1
                have y1 := (heap_at kr 1).1
                have y2 := (heap_at kr 2).1
                have y3 := (heap_at kr 3).1
                have yf0 := (heap_at kr 0).2
                have yf1 := (heap_at kr 1).2
                have yf2 := (heap_at kr 2).2
                have yf3 := (heap_at kr 3).2
                have bx := (unhide hG).box
                unfold vzC at bx
                have z0 := (heap_at bx 0).1
                have z1 := (heap_at bx 1).1
                have z2 := (heap_at bx 2).1
                have z3 := (heap_at bx 3).1
                have ep : prV d t = ⟨d.next, prL d.list t, prF d.fen le, d.ses⟩ := by unfold prV; rw [if_pos ⟨unhide OKH, by rw [unhide LE]; exact Int.not_le.2 (unhide GE)⟩, unhide LE]
                have ec : prC d t = 0 := by unfold prC; rw [if_pos (unhide OKH), if_neg (by rw [unhide LE]; exact Int.not_le.2 (unhide GE))]
                have OWN : VzOwn wr W.heap.size ⟨l2a, l2n, l2c⟩ ⟨f2a, f2n, f2c⟩ ⟨sa1, sn1, sc1⟩ hs1 (prV d t) := by
                  have hf := (unhide hG).fo
                  rw [List.take_of_length_le (by rw [(unhide RF).1]; exact Nat.le_refl _)] at hf
                  rw [ep]
                  exact ⟨(unhide hG).vo, hf, (unhide hG).so, unhide SSH, (unhide hG).far⟩
                have hS := set4_wr wr (w.heap.size + 1) (.int .i64 d.next) (.slice l2a l2n l2c) (.slice f2a f2n f2c) (.slice sa1 sn1 sc1)
                have bR := (unhide BH).trans ((unhide hB).mono (Nat.le_of_lt hz0))
                have RES := hide (show PrRes d t w (.returned (.tuple #[.agg #[.int .i64 d.next, .slice l2a l2n l2c, .slice f2a f2n f2c, .slice sa1 sn1 sc1], .int .i64 0])) _ from ⟨⟨l2a, l2n, l2c⟩, ⟨f2a, f2n, f2c⟩, ⟨sa1, sn1, sc1⟩, hs1, by rw [ec, show (prV d t).next = d.next by rw [ep]], (OWN.wr hS (fun i e => by rw [e]; exact hz1)).dn (Nat.le_of_lt hz0), bR.trans (WrB.below hS (fun i e => by rw [e]; exact Nat.le_succ _) bR.size)⟩)
                clear kr bx OWN hS bR hG ep ec
                go_wp2_with fail
                refine bodyPost_ret (v := .tuple #[.agg #[.int .i64 d.next, .slice l2a l2n l2c, .slice f2a f2n f2c, .slice sa1 sn1 sc1], .int .i64 0]) (by simp [results, Tryz.results13, go_sem, *]) rfl ?_
                exact unhide RES
              have hk2 : k < d.fen.length := by rw [(unhide RF).1]; exact hlt3
              have hkn : (k : Int) < (fn : Int) := by omega
              have FS := hide (prF_step (m := le) hk2)
              have FL := hide (show (prF (d.fen.take k) le).length ≤ k by
                unfold prF
                refine Nat.le_trans (List.length_filter_le _ _) ?_
                rw [List.length_take]
                exact Nat.min_le_left _ _)
              have RW := ((unhide RF).below (unhide BH))
              obtain ⟨b, off, rfl, d0, d1, d2⟩ := RW.2 k hk2
              generalize d.fen[k] = x at *
              obtain ⟨pf, pu, pt⟩ := x
              simp only at d0 d1 d2 FS
              have hbW : b < W.heap.size := cell_lt d0
              have v2W := (heap_at (unhide KV) 2).1
              have SK := hide (show ∀ u, Below W.heap.size W u → (u.cell? ⟨w.heap.size, 2, none⟩ = some (.slice (some ⟨b, off, none⟩) fn fc) ∧ u.cell? ⟨b, off + k * 3, none⟩ = some (.string pf) ∧ u.cell? ⟨b, off + k * 3 + 1, none⟩ = some (.string pu) ∧ u.cell? ⟨b, off + k * 3 + 2, none⟩ = some (.int .i64 pt)) from fun u hu => ⟨(hu.cell (p := ⟨w.heap.size, 2, none⟩) hz0).trans v2W, (hu.cell (p := ⟨b, off + k * 3, none⟩) hbW).trans d0, (hu.cell (p := ⟨b, off + k * 3 + 1, none⟩) hbW).trans d1, (hu.cell (p := ⟨b, off + k * 3 + 2, none⟩) hbW).trans d2⟩)
              clear d0 d1 d2 RW v2W
              obtain ⟨-, -, -, c2⟩ := unhide SK _ (unhide hB)
              by_cases hpt : le < pt
              case neg =>
                have KP : prF (d.fen.take (k + 1)) le = prF (d.fen.take k) le := by rw [unhide FS, if_neg hpt]
                rw [← KP] at hG
                clear KP FS FL SK
                go_wp2_with fail
                go_roundw
                case rel => exact ⟨k + 1, _, by go_num, by omega, hG, hB⟩
                case measure => simp [intOf]; omega
              have KP : prF (d.fen.take (k + 1)) le = prF (d.fen.take k) le ++ [⟨pf, pu, pt⟩] := by rw [unhide FS, if_pos hpt]
              have GD := (unhide hG).below (Below.refl wr.heap.size wr).drew
              have BD := (unhide hB).drew
              obtain ⟨⟨qa, qn, qc⟩, w5, hr, G5, B5, B6, K5⟩ := GD.appF ⟨pf, pu, pt⟩ (by have := unhide FL; omega) BD.size
              rw [← KP] at G5
              have bx := GD.box
              have bxA := (GD.below ((Below.refl wr.drew.heap.size wr.drew).alloc (Nat.le_refl _) (.cells #[.string pf, .string pu, .int .i64 pt] 90))).box
              unfold vzC at bx bxA K5
              have T2 := hide (heap_at bx 2).1
              have T2A := hide (heap_at bxA 2).1
              have T5 := hide (heap_at K5 2)
              have GX := hide G5
              have BX := hide (BD.trans B6)
              have BY := hide (BD.trans B5)
              have BZ := hide (BD.alloc BD.size (.cells #[.string pf, .string pu, .int .i64 pt] 90))
              have B00 := hide BD
              have HR := hide hr
              simp only at T2 T2A T5 GX BX BY HR
              clear G5 B5 B6 K5 bx bxA hr GD BD KP FS FL hG hB
              go_upto_region 25 with fail
              clear c2 v2
              refine wp_region_held_drew (S := (fun u => (u.cell? ⟨w.heap.size, 2, none⟩ = some (.slice (some ⟨b, off, none⟩) fn fc) ∧ u.cell? ⟨b, off + k * 3, none⟩ = some (.string pf) ∧ u.cell? ⟨b, off + k * 3 + 1, none⟩ = some (.string pu) ∧ u.cell? ⟨b, off + k * 3 + 2, none⟩ = some (.int .i64 pt)))) (by kernel_rfl) (unhide SK _ (unhide B00)) (fun hHeld => ?_)
              generalize wr.drew = u0 at *
              refine anyH_take 0 124 (v := ?v1) rfl rfl (by kernel_rfl) (by kernel_rfl) (by kernel_rfl) (fun _ _ _ h => h) (by rfl) ?h1 hHeld ?r1
              case h1 => (intro w hSw; (try dsimp only at hSw); go_simp; try (with_reducible rfl))
              simp only [Act.put, List.setIfInBounds_toArray, List.set_cons_zero, List.set_cons_succ]
              refine anyH_take 2 126 (v := ?v2) rfl rfl (by kernel_rfl) (by kernel_rfl) (by kernel_rfl) (fun _ _ _ h => h) (by rfl) ?h2 hHeld ?r2
              case h2 => (intro w hSw; (try dsimp only at hSw); go_simp; try (with_reducible rfl))
              simp only [Act.put, List.setIfInBounds_toArray, List.set_cons_zero, List.set_cons_succ]
              refine anyH_take 3 127 (v := ?v3) rfl rfl (by kernel_rfl) (by kernel_rfl) (by kernel_rfl) (fun _ _ _ h => h) (by rfl) ?h3 hHeld ?r3
              case h3 => (intro w hSw; (try dsimp only at hSw); go_simp; try (with_reducible rfl))
              simp only [Act.put, List.setIfInBounds_toArray, List.set_cons_zero, List.set_cons_succ]
              refine anyH_take 4 128 (v := ?v4) rfl rfl (by kernel_rfl) (by kernel_rfl) (by kernel_rfl) (fun _ _ _ h => h) (by rfl) ?h4 hHeld ?r4
              case h4 => (intro w hSw; (try dsimp only at hSw); go_simp; try (with_reducible rfl))
              simp only [Act.put, List.setIfInBounds_toArray, List.set_cons_zero, List.set_cons_succ]
              refine anyH_take 5 129 (v := ?v5) rfl rfl (by kernel_rfl) (by kernel_rfl) (by kernel_rfl) (fun _ _ _ h => h) (by rfl) ?h5 hHeld ?r5
              case h5 => (intro w hSw; (try dsimp only at hSw); go_simp; try (with_reducible rfl))
              simp only [Act.put, List.setIfInBounds_toArray, List.set_cons_zero, List.set_cons_succ]
              refine anyH_take 6 130 (v := ?v6) rfl rfl (by kernel_rfl) (by kernel_rfl) (by kernel_rfl) (fun _ _ _ h => h) (by rfl) ?h6 hHeld ?r6
              case h6 => (intro w hSw; (try dsimp only at hSw); go_simp; try (with_reducible rfl))
              simp only [Act.put, List.setIfInBounds_toArray, List.set_cons_zero, List.set_cons_succ]
              refine wpAnyH_ready (rs := [1, 7]) (by kernel_rfl) (by simp) ?_
              refine AllReadyH.cons rfl (fun K hK => ?_) (AllReadyH.cons rfl (fun K hK => ?_) AllReadyH.nil)
              · have y := unhide T2
                go_simp
                clear y
                refine hK.out _ _ (hHeld) (fun hHeld => ?_)
                clear hK K
                refine wpAnyH_ready (rs := [7]) (by kernel_rfl) (by simp) ?_
                refine AllReadyH.cons rfl (fun K hK => ?_) AllReadyH.nil
                go_simp
                refine hK.out _ _ (unhide SK _ (unhide BZ)) (fun hHeld => ?_)
                clear hK K
                refine wpAnyH_ready (rs := [8]) (by kernel_rfl) (by simp) ?_
                refine AllReadyH.cons rfl (fun K hK => ?_) AllReadyH.nil
                refine us_stepApp rfl (.tmp 125) (.tmp 131) 24 rfl _ _ (.slice qa qn qc) w5 (by first | rfl | (simp [Act.eval]; done) | (simp [Act.eval, Act.put]; done)) (by first | rfl | (simp [Act.eval]; done) | (simp [Act.eval, Act.put]; done)) (unhide HR) ?_
                refine hK.out _ _ (unhide SK _ (unhide BY)) (fun hHeld => ?_)
                clear hK K
                refine anyH_take 9 133 (v := ?v7) rfl rfl (by kernel_rfl) (by kernel_rfl) (by kernel_rfl) (fun _ _ _ h => h) (by rfl) ?h7 hHeld ?r7
                case h7 => (intro w hSw; (try dsimp only at hSw); go_simp; try (with_reducible rfl))
                simp only [Act.put, List.setIfInBounds_toArray]
                refine wpAnyH_ready (rs := [10]) (by kernel_rfl) (by simp) ?_
                refine AllReadyH.cons rfl (fun K hK => ?_) AllReadyH.nil
                have y := (unhide T5).1
                have yf := (unhide T5).2
                go_simp
                clear y yf
                refine hK.out _ _ (unhide SK _ (unhide BX)) (fun hHeld => ?_)
                clear hK K
                refine wpAnyH_done (by kernel_rfl) ?_ _
                clear hHeld SK
                go_wp2_with fail
                go_roundw
                case rel => exact ⟨k + 1, _, by go_num, by omega, GX, BX⟩
                case measure => simp [intOf]; omega
              · go_simp
                refine hK.out _ _ (unhide SK _ (unhide BZ)) (fun hHeld => ?_)
                clear hK K
                refine wpAnyH_ready (rs := [1]) (by kernel_rfl) (by simp) ?_
                refine AllReadyH.cons rfl (fun K hK => ?_) AllReadyH.nil
                have y := unhide T2A
                go_simp
                clear y
                refine hK.out _ _ (hHeld) (fun hHeld => ?_)
                clear hK K
                refine wpAnyH_ready (rs := [8]) (by kernel_rfl) (by simp) ?_
                refine AllReadyH.cons rfl (fun K hK => ?_) AllReadyH.nil
                refine us_stepApp rfl (.tmp 125) (.tmp 131) 24 rfl _ _ (.slice qa qn qc) w5 (by first | rfl | (simp [Act.eval]; done) | (simp [Act.eval, Act.put]; done)) (by first | rfl | (simp [Act.eval]; done) | (simp [Act.eval, Act.put]; done)) (unhide HR) ?_
                refine hK.out _ _ (unhide SK _ (unhide BY)) (fun hHeld => ?_)
                clear hK K
                refine anyH_take 9 133 (v := ?v8) rfl rfl (by kernel_rfl) (by kernel_rfl) (by kernel_rfl) (fun _ _ _ h => h) (by rfl) ?h8 hHeld ?r8
                case h8 => (intro w hSw; (try dsimp only at hSw); go_simp; try (with_reducible rfl))
                simp only [Act.put, List.setIfInBounds_toArray]
                refine wpAnyH_ready (rs := [10]) (by kernel_rfl) (by simp) ?_
                refine AllReadyH.cons rfl (fun K hK => ?_) AllReadyH.nil
                have y := (unhide T5).1
                have yf := (unhide T5).2
                go_simp
                clear y yf
                refine hK.out _ _ (unhide SK _ (unhide BX)) (fun hHeld => ?_)
                clear hK K
                refine wpAnyH_done (by kernel_rfl) ?_ _
                clear hHeld SK
                go_wp2_with fail
                go_roundw
                case rel => exact ⟨k + 1, _, by go_num, by omega, GX, BX⟩
                case measure => simp [intOf]; omega
          have hj2 : j < d.list.length := by rw [(unhide RV).1]; exact hlt
          have hkn : (j : Int) < (ln : Int) := by omega
          have BW := (unhide BH).trans ((unhide hB).mono (unhide BH).size)
          have RW := (unhide RV).below BW
          have RN := hide RW
          obtain ⟨b, off, rfl, d0, d1, d2, d3⟩ := RW.2 j hj2
          have ST := hide (prTo_step (t := t) hj2)
          have NX := hide (show lastP d.list t j d.list[j] = match d.list[j + 1]? with | none => true | some y => !decide (y.k = d.list[j].k) || decide (t < y.t) from rfl)
          have PL := hide (prTo_len d.list t j)
          generalize hxx : d.list[j] = x at *
          clear hxx
          obtain ⟨xk, xt, xv, xg⟩ := x
          simp only at d0 d1 d2 d3 ST NX
          have bA : Below wr.heap.size wr (wr.alloc (.cells #[.string xk, .int .i64 xt, .string xv, .bool xg] 39)) := (Below.refl _ _).alloc (Nat.le_refl _) _
          have kA := heap_alloc_new wr (.cells #[.string xk, .int .i64 xt, .string xv, .bool xg] 39)
          have GA := hide ((unhide hG).below bA)
          have BA := hide ((unhide hB).trans (bA.mono (unhide hB).size))
          have RA := hide ((unhide RN).below bA)
          have KA := hide kA
          have v1A := (bA.cell (p := ⟨w.heap.size, 1, none⟩) (by have := (unhide hB).size; show w.heap.size < wr.heap.size; omega)).trans v1
          clear bA kA RW BW RN hG hB
          go_upto_region 17 with fail
          clear d0 d1 d2 d3 v1
          generalize wr.alloc (.cells #[.string xk, .int .i64 xt, .string xv, .bool xg] 39) = u1 at *
          generalize wr.heap.size = xb at *
          have x0 := (heap_at (unhide KA) 0).1
          have x1 := (heap_at (unhide KA) 1).1
          have x2 := (heap_at (unhide KA) 2).1
          have x3 := (heap_at (unhide KA) 3).1
          by_cases hend : j + 1 = ln
          · have hq1 : decide ((j : Int) + 1 = (ln : Int)) = true := decide_eq_true (by omega)
            have hq2 : ((j : Int) + 1 == (ln : Int)) = true := by simpa using hq1
            have hLP := hide (show lastP d.list t j ⟨xk, xt, xv, xg⟩ = true by rw [unhide NX, List.getElem?_eq_none (by rw [(unhide RV).1]; omega)])
            go_quiet (fail)
            have GQ := hide ((unhide GA).below (bel_drewN (Below.refl _ _) nq))
            have BQ := hide (bel_drewN (unhide BA) nq)
            have x0q : (u1.drewN nq).cell? ⟨xb, 0, none⟩ = some (.string xk) := x0
            have x1q : (u1.drewN nq).cell? ⟨xb, 1, none⟩ = some (.int .i64 xt) := x1
            have x2q : (u1.drewN nq).cell? ⟨xb, 2, none⟩ = some (.string xv) := x2
            have x3q : (u1.drewN nq).cell? ⟨xb, 3, none⟩ = some (.bool xg) := x3
            clear GA BA RA KA x0 x1 x2 x3 v1A
            generalize u1.drewN nq = u2 at *
            by_cases hxt : t < xt
            · have KP : prTo d.list t (j + 1) = prTo d.list t j ++ [⟨xk, xt, xv, xg⟩] := by
                rw [unhide ST, if_pos]
                show (decide (t < xt) || (lastP d.list t j ⟨xk, xt, xv, xg⟩ && !xg)) = true
                rw [decide_eq_true hxt]; rfl
              obtain ⟨⟨qa, qn, qc⟩, w5, hqn, hr, G5, B5, K5⟩ := (unhide GQ).appV ⟨xk, xt, xv, xg⟩ hne (by have := unhide PL; omega) (unhide BQ).size
              have bx := (unhide GQ).box
              unfold vzC at bx K5
              have t1 := (heap_at bx 1).1
              have t5 := (heap_at K5 1).1
              have p5 := (heap_at K5 1).2
              rw [← KP] at G5
              have GX := hide G5
              have BX := hide ((unhide BQ).trans B5)
              simp only at hr t1 t5 GX BX
              clear G5 B5 K5 bx KP GQ BQ ST PL
              go_wp2_with (at_builtin; refine ky_wpApp rfl (.tmp 102) (.tmp 104) 23 rfl _ _ _ w5 rfl rfl hr ?_)
              go_roundw
              case rel => exact ⟨j + 1, _, by go_num, by omega, hqn, GX, BX⟩
              case measure => simp [intOf]; omega
            cases xg with
            | false =>
              have KP : prTo d.list t (j + 1) = prTo d.list t j ++ [⟨xk, xt, xv, false⟩] := by
                rw [unhide ST, if_pos]
                show (decide (t < xt) || (lastP d.list t j ⟨xk, xt, xv, false⟩ && !false)) = true
                rw [unhide hLP]; simp
              obtain ⟨⟨qa, qn, qc⟩, w5, hqn, hr, G5, B5, K5⟩ := (unhide GQ).appV ⟨xk, xt, xv, false⟩ hne (by have := unhide PL; omega) (unhide BQ).size
              have bx := (unhide GQ).box
              unfold vzC at bx K5
              have t1 := (heap_at bx 1).1
              have t5 := (heap_at K5 1).1
              have p5 := (heap_at K5 1).2
              rw [← KP] at G5
              have GX := hide G5
              have BX := hide ((unhide BQ).trans B5)
              simp only at hr t1 t5 GX BX
              clear G5 B5 K5 bx KP GQ BQ ST PL
              go_wp2_with (at_builtin; refine ky_wpApp rfl (.tmp 102) (.tmp 104) 23 rfl _ _ _ w5 rfl rfl hr ?_)
              go_roundw
              case rel => exact ⟨j + 1, _, by go_num, by omega, hqn, GX, BX⟩
              case measure => simp [intOf]; omega
            | true =>
              have KP : prTo d.list t (j + 1) = prTo d.list t j := by
                rw [unhide ST, if_neg]
                show ¬ (decide (t < xt) || (lastP d.list t j ⟨xk, xt, xv, true⟩ && !true)) = true
                rw [decide_eq_false hxt, unhide hLP]; decide
              rw [← KP] at GQ
              clear KP ST PL
              go_wp2_with fail
              go_roundw
              case rel => exact ⟨j + 1, _, by go_num, by omega, hne, GQ, BQ⟩
              case measure => simp [intOf]; omega
          have hq1 : decide ((j : Int) + 1 = (ln : Int)) = false := decide_eq_false (by omega)
          have hq2 : ((j : Int) + 1 == (ln : Int)) = false := by simpa using hq1
          have hq3 : (j : Int) + 1 < (ln : Int) := by omega
          have hj3 : j + 1 < d.list.length := by rw [(unhide RV).1]; omega
          have NY := hide (show lastP d.list t j ⟨xk, xt, xv, xg⟩ = (!decide (d.list[j + 1].k = xk) || decide (t < d.list[j + 1].t)) by rw [unhide NX, List.getElem?_eq_getElem hj3])
          obtain ⟨b', off', he, e0, e1, -, -⟩ := (unhide RA).2 (j + 1) hj3
          simp only [Option.some.injEq, Addr.mk.injEq] at he
          obtain ⟨rfl, rfl, -⟩ := he
          generalize d.list[j + 1] = y at *
          obtain ⟨yk, yt, yv, yg⟩ := y
          simp only at e0 e1 NY
          clear NX
          by_cases hky : yk = xk
          case neg =>
            have hkb : (yk.toList == xk.toList) = false := by simpa using fun e => hky (toList_inj e)
            have hLP := hide (show lastP d.list t j ⟨xk, xt, xv, xg⟩ = true by rw [unhide NY, decide_eq_false hky]; rfl)
            clear NY
            go_quiet (fail)
            have GQ := hide ((unhide GA).below (bel_drewN (Below.refl _ _) nq))
            have BQ := hide (bel_drewN (unhide BA) nq)
            have x0q : (u1.drewN nq).cell? ⟨xb, 0, none⟩ = some (.string xk) := x0
            have x1q : (u1.drewN nq).cell? ⟨xb, 1, none⟩ = some (.int .i64 xt) := x1
            have x2q : (u1.drewN nq).cell? ⟨xb, 2, none⟩ = some (.string xv) := x2
            have x3q : (u1.drewN nq).cell? ⟨xb, 3, none⟩ = some (.bool xg) := x3
            clear GA BA RA KA x0 x1 x2 x3 v1A
            generalize u1.drewN nq = u2 at *
            by_cases hxt : t < xt
            · have KP : prTo d.list t (j + 1) = prTo d.list t j ++ [⟨xk, xt, xv, xg⟩] := by
                rw [unhide ST, if_pos]
                show (decide (t < xt) || (lastP d.list t j ⟨xk, xt, xv, xg⟩ && !xg)) = true
                rw [decide_eq_true hxt]; rfl
              obtain ⟨⟨qa, qn, qc⟩, w5, hqn, hr, G5, B5, K5⟩ := (unhide GQ).appV ⟨xk, xt, xv, xg⟩ hne (by have := unhide PL; omega) (unhide BQ).size
              have bx := (unhide GQ).box
              unfold vzC at bx K5
              have t1 := (heap_at bx 1).1
              have t5 := (heap_at K5 1).1
              have p5 := (heap_at K5 1).2
              rw [← KP] at G5
              have GX := hide G5
              have BX := hide ((unhide BQ).trans B5)
              simp only at hr t1 t5 GX BX
              clear G5 B5 K5 bx KP GQ BQ ST PL
              go_wp2_with (at_builtin; refine ky_wpApp rfl (.tmp 102) (.tmp 104) 23 rfl _ _ _ w5 rfl rfl hr ?_)
              go_roundw
              case rel => exact ⟨j + 1, _, by go_num, by omega, hqn, GX, BX⟩
              case measure => simp [intOf]; omega
            cases xg with
            | false =>
              have KP : prTo d.list t (j + 1) = prTo d.list t j ++ [⟨xk, xt, xv, false⟩] := by
                rw [unhide ST, if_pos]
                show (decide (t < xt) || (lastP d.list t j ⟨xk, xt, xv, false⟩ && !false)) = true
                rw [unhide hLP]; simp
              obtain ⟨⟨qa, qn, qc⟩, w5, hqn, hr, G5, B5, K5⟩ := (unhide GQ).appV ⟨xk, xt, xv, false⟩ hne (by have := unhide PL; omega) (unhide BQ).size
              have bx := (unhide GQ).box
              unfold vzC at bx K5
              have t1 := (heap_at bx 1).1
              have t5 := (heap_at K5 1).1
              have p5 := (heap_at K5 1).2
              rw [← KP] at G5
              have GX := hide G5
              have BX := hide ((unhide BQ).trans B5)
              simp only at hr t1 t5 GX BX
              clear G5 B5 K5 bx KP GQ BQ ST PL
              go_wp2_with (at_builtin; refine ky_wpApp rfl (.tmp 102) (.tmp 104) 23 rfl _ _ _ w5 rfl rfl hr ?_)
              go_roundw
              case rel => exact ⟨j + 1, _, by go_num, by omega, hqn, GX, BX⟩
              case measure => simp [intOf]; omega
            | true =>
              have KP : prTo d.list t (j + 1) = prTo d.list t j := by
                rw [unhide ST, if_neg]
                show ¬ (decide (t < xt) || (lastP d.list t j ⟨xk, xt, xv, true⟩ && !true)) = true
                rw [decide_eq_false hxt, unhide hLP]; decide
              rw [← KP] at GQ
              clear KP ST PL
              go_wp2_with fail
              go_roundw
              case rel => exact ⟨j + 1, _, by go_num, by omega, hne, GQ, BQ⟩
              case measure => simp [intOf]; omega
          have hkb : (yk.toList == xk.toList) = true := by rw [hky]; simp
          by_cases hyt : t < yt
          · have hdt : decide (t < yt) = true := decide_eq_true hyt
            have hLP := hide (show lastP d.list t j ⟨xk, xt, xv, xg⟩ = true by rw [unhide NY, hdt, Bool.or_true])
            clear NY
            go_quiet (fail)
            have GQ := hide ((unhide GA).below (bel_drewN (Below.refl _ _) nq))
            have BQ := hide (bel_drewN (unhide BA) nq)
            have x0q : (u1.drewN nq).cell? ⟨xb, 0, none⟩ = some (.string xk) := x0
            have x1q : (u1.drewN nq).cell? ⟨xb, 1, none⟩ = some (.int .i64 xt) := x1
            have x2q : (u1.drewN nq).cell? ⟨xb, 2, none⟩ = some (.string xv) := x2
            have x3q : (u1.drewN nq).cell? ⟨xb, 3, none⟩ = some (.bool xg) := x3
            clear GA BA RA KA x0 x1 x2 x3 v1A
            generalize u1.drewN nq = u2 at *
            by_cases hxt : t < xt
            · have KP : prTo d.list t (j + 1) = prTo d.list t j ++ [⟨xk, xt, xv, xg⟩] := by
                rw [unhide ST, if_pos]
                show (decide (t < xt) || (lastP d.list t j ⟨xk, xt, xv, xg⟩ && !xg)) = true
                rw [decide_eq_true hxt]; rfl
              obtain ⟨⟨qa, qn, qc⟩, w5, hqn, hr, G5, B5, K5⟩ := (unhide GQ).appV ⟨xk, xt, xv, xg⟩ hne (by have := unhide PL; omega) (unhide BQ).size
              have bx := (unhide GQ).box
              unfold vzC at bx K5
              have t1 := (heap_at bx 1).1
              have t5 := (heap_at K5 1).1
              have p5 := (heap_at K5 1).2
              rw [← KP] at G5
              have GX := hide G5
              have BX := hide ((unhide BQ).trans B5)
              simp only at hr t1 t5 GX BX
              clear G5 B5 K5 bx KP GQ BQ ST PL
              go_wp2_with (at_builtin; refine ky_wpApp rfl (.tmp 102) (.tmp 104) 23 rfl _ _ _ w5 rfl rfl hr ?_)
              go_roundw
              case rel => exact ⟨j + 1, _, by go_num, by omega, hqn, GX, BX⟩
              case measure => simp [intOf]; omega
            cases xg with
            | false =>
              have KP : prTo d.list t (j + 1) = prTo d.list t j ++ [⟨xk, xt, xv, false⟩] := by
                rw [unhide ST, if_pos]
                show (decide (t < xt) || (lastP d.list t j ⟨xk, xt, xv, false⟩ && !false)) = true
                rw [unhide hLP]; simp
              obtain ⟨⟨qa, qn, qc⟩, w5, hqn, hr, G5, B5, K5⟩ := (unhide GQ).appV ⟨xk, xt, xv, false⟩ hne (by have := unhide PL; omega) (unhide BQ).size
              have bx := (unhide GQ).box
              unfold vzC at bx K5
              have t1 := (heap_at bx 1).1
              have t5 := (heap_at K5 1).1
              have p5 := (heap_at K5 1).2
              rw [← KP] at G5
              have GX := hide G5
              have BX := hide ((unhide BQ).trans B5)
              simp only at hr t1 t5 GX BX
              clear G5 B5 K5 bx KP GQ BQ ST PL
              go_wp2_with (at_builtin; refine ky_wpApp rfl (.tmp 102) (.tmp 104) 23 rfl _ _ _ w5 rfl rfl hr ?_)
              go_roundw
              case rel => exact ⟨j + 1, _, by go_num, by omega, hqn, GX, BX⟩
              case measure => simp [intOf]; omega
            | true =>
              have KP : prTo d.list t (j + 1) = prTo d.list t j := by
                rw [unhide ST, if_neg]
                show ¬ (decide (t < xt) || (lastP d.list t j ⟨xk, xt, xv, true⟩ && !true)) = true
                rw [decide_eq_false hxt, unhide hLP]; decide
              rw [← KP] at GQ
              clear KP ST PL
              go_wp2_with fail
              go_roundw
              case rel => exact ⟨j + 1, _, by go_num, by omega, hne, GQ, BQ⟩
              case measure => simp [intOf]; omega
          · have hdt : decide (t < yt) = false := decide_eq_false hyt
            have hLP := hide (show lastP d.list t j ⟨xk, xt, xv, xg⟩ = false by rw [unhide NY, hdt, decide_eq_true hky]; rfl)
            clear NY
            go_quiet (fail)
            have GQ := hide ((unhide GA).below (bel_drewN (Below.refl _ _) nq))
            have BQ := hide (bel_drewN (unhide BA) nq)
            have x0q : (u1.drewN nq).cell? ⟨xb, 0, none⟩ = some (.string xk) := x0
            have x1q : (u1.drewN nq).cell? ⟨xb, 1, none⟩ = some (.int .i64 xt) := x1
            have x2q : (u1.drewN nq).cell? ⟨xb, 2, none⟩ = some (.string xv) := x2
            have x3q : (u1.drewN nq).cell? ⟨xb, 3, none⟩ = some (.bool xg) := x3
            clear GA BA RA KA x0 x1 x2 x3 v1A
            generalize u1.drewN nq = u2 at *
            by_cases hxt : t < xt
            · have KP : prTo d.list t (j + 1) = prTo d.list t j ++ [⟨xk, xt, xv, xg⟩] := by
                rw [unhide ST, if_pos]
                show (decide (t < xt) || (lastP d.list t j ⟨xk, xt, xv, xg⟩ && !xg)) = true
                rw [decide_eq_true hxt]; rfl
              obtain ⟨⟨qa, qn, qc⟩, w5, hqn, hr, G5, B5, K5⟩ := (unhide GQ).appV ⟨xk, xt, xv, xg⟩ hne (by have := unhide PL; omega) (unhide BQ).size
              have bx := (unhide GQ).box
              unfold vzC at bx K5
              have t1 := (heap_at bx 1).1
              have t5 := (heap_at K5 1).1
              have p5 := (heap_at K5 1).2
              rw [← KP] at G5
              have GX := hide G5
              have BX := hide ((unhide BQ).trans B5)
              simp only at hr t1 t5 GX BX
              clear G5 B5 K5 bx KP GQ BQ ST PL
              go_wp2_with (at_builtin; refine ky_wpApp rfl (.tmp 102) (.tmp 104) 23 rfl _ _ _ w5 rfl rfl hr ?_)
              go_roundw
              case rel => exact ⟨j + 1, _, by go_num, by omega, hqn, GX, BX⟩
              case measure => simp [intOf]; omega
            have KP : prTo d.list t (j + 1) = prTo d.list t j := by
              rw [unhide ST, if_neg]
              show ¬ (decide (t < xt) || (lastP d.list t j ⟨xk, xt, xv, xg⟩ && !xg)) = true
              rw [decide_eq_false hxt, unhide hLP]; simp
            rw [← KP] at GQ
            clear KP ST PL
            go_wp2_with fail
            go_roundw
            case rel => exact ⟨j + 1, _, by go_num, by omega, hne, GQ, BQ⟩
            case measure => simp [intOf]; omega
end Go.Proofs.YtfajenejngddeaaGreat

namespace Go.Proofs.YtfajenejngddeaaGreat
open Go.RowKit

set_option maxRecDepth 100000 in
set_option maxHeartbeats 8000000 in
theorem l06Step_1 (d : VsD) (i : Nat) (key tu val : ByteArray) (l f s : Sl) (hs : List SeH) (w : World) (hI : VzIn w l f s hs d) (hS : SmV d) (hi : i < 4) :
    Calls Tryz.prog 21 #[.agg (vzC d.next l f s), .agg #[.int .i64 1, .int .i64 (i : Int), .string key, .string tu, .string val]] w fun e w' => StRes l f s hs d (stepV d ⟨1, (i : Int), key, tu, val⟩) w e w' := by
  have hz := allocC_size [(vzC d.next l f s, 27), (#[.int .i64 1, .int .i64 (i : Int), .string key, .string tu, .string val], 64), (#[.int .i64 0, .slice none 0 0, .slice none 0 0, .slice none 0 0], 27), (#[.int .i64 0, .int .i64 0, .string ⟨#[]⟩, .slice none 0 0], 60)] w
  have b1 := allocC_bel [(vzC d.next l f s, 27), (#[.int .i64 1, .int .i64 (i : Int), .string key, .string tu, .string val], 64), (#[.int .i64 0, .slice none 0 0, .slice none 0 0, .slice none 0 0], 27), (#[.int .i64 0, .int .i64 0, .string ⟨#[]⟩, .slice none 0 0], 60)] w
  have AT := allocC_at [(vzC d.next l f s, 27), (#[.int .i64 1, .int .i64 (i : Int), .string key, .string tu, .string val], 64), (#[.int .i64 0, .slice none 0 0, .slice none 0 0, .slice none 0 0], 27), (#[.int .i64 0, .int .i64 0, .string ⟨#[]⟩, .slice none 0 0], 60)] w
  obtain ⟨W, hW⟩ : ∃ W, W = allocC w [(vzC d.next l f s, 27), (#[.int .i64 1, .int .i64 (i : Int), .string key, .string tu, .string val], 64), (#[.int .i64 0, .slice none 0 0, .slice none 0 0, .slice none 0 0], 27), (#[.int .i64 0, .int .i64 0, .string ⟨#[]⟩, .slice none 0 0], 60)] := ⟨_, rfl⟩
  rw [← hW] at hz b1 AT
  simp only [List.length_cons, List.length_nil] at hz
  have k0 : W.heap[w.heap.size]? = some (.cells (vzC d.next l f s) 27 (0, 0)) := AT 0 _ _ rfl
  have k1 : W.heap[w.heap.size + 1]? = some (.cells #[.int .i64 1, .int .i64 (i : Int), .string key, .string tu, .string val] 64 (0, 0)) := AT 1 _ _ rfl
  have k2 : W.heap[w.heap.size + 1 + 1]? = some (.cells #[.int .i64 0, .slice none 0 0, .slice none 0 0, .slice none 0 0] 27 (0, 0)) := AT 2 _ _ rfl
  have k3 : W.heap[w.heap.size + 1 + 1 + 1]? = some (.cells #[.int .i64 0, .int .i64 0, .string ⟨#[]⟩, .slice none 0 0] 60 (0, 0)) := AT 3 _ _ rfl
  have hz0 : w.heap.size < W.heap.size := by omega
  have hz1 : w.heap.size + 1 < W.heap.size := by omega
  have hz2 : w.heap.size + 1 + 1 < W.heap.size := by omega
  have hz3 : w.heap.size + 1 + 1 + 1 < W.heap.size := by omega
  unfold allocC allocC allocC allocC allocC at hW
  have CO := hide (l06Own_any d l f s hs W (hI.below b1) (by have := hI.vr.1; have := hS.list; omega) (by have := hI.fr.1; have := hS.fen; omega) (by have := hI.len; have := hS.ses; omega) (fun h hh => by
    obtain ⟨k, hk, rfl⟩ := List.getElem_of_mem hh
    obtain ⟨hd, he⟩ := hI.at hk
    have h1 := (SeIn.row hI.sr hk).1
    have h2 := hS.ws d.ses[k] (List.getElem_mem hd)
    rw [← he] at h2
    omega))
  have BH := hide b1
  have HI := hide hI
  have HS := hide hS
  obtain ⟨la, ln, lc⟩ := l
  obtain ⟨fa, fn, fc⟩ := f
  obtain ⟨sa, sn, sc⟩ := s
  unfold vzC at k0 hW CO ⊢
  simp only at k0 hW CO ⊢
  have K0 := hide k0
  have K1 := hide k1
  have K2 := hide k2
  have K3 := hide k3
  have hnx := hS.nx
  have hi0 : decide ((0 : Int) ≤ (i : Int)) = true := decide_eq_true (by omega)
  have hi3 : decide ((i : Int) ≤ 3) = true := decide_eq_true (by omega)
  have a0 := (heap_at k1 0).1
  have a1 := (heap_at k1 1).1
  have v0 := (heap_at k0 0).1
  have v1 := (heap_at k0 1).1
  have v2 := (heap_at k0 2).1
  have v3 := (heap_at k0 3).1
  clear hI hS hz b1 AT k0 k1 k2 k3
  go_enter Tryz.func21, Tryz.ntmps21
  go_wp2_with (go_at_call 55; refine (l01In_any _ _ _ _).mono ?_; rintro e w9 ⟨rfl, rfl⟩)
  rw [← hW]
  clear hW
  refine (unhide CO).mono ?_
  rintro e w1 ⟨⟨la1, ln1, lc1⟩, ⟨fa1, fn1, fc1⟩, ⟨sa1, sn1, sc1⟩, hs1, rfl, hO, hb1⟩
  clear a0 a1 v0 v1 v2 v3 hi0 hi3 CO
  have hl4 : hs1.length = 4 := by rw [hO.reads.len.2]; exact (unhide HS).ses
  have hih : i < hs1.length := by omega
  obtain ⟨g, hsa, hsn, hgB, hgw, c0, c1, c2, hwo, hid, hxd⟩ := hO.sesAt hih
  simp only at hsa hsn
  rw [hl4] at hsn
  subst hsa hsn
  unfold vzC
  simp only
  have STP := hide (show stepV d ⟨1, (i : Int), key, tu, val⟩ = sesV d ⟨1, (i : Int), key, tu, val⟩ i hs1[i].X by
    unfold stepV
    rw [if_neg (by simp), if_neg (by simp only; omega), hxd]
    congr 1
    rw [show ((i : Nat) : Int).toNat = i by omega, List.getD_eq_getElem?_getD, List.getElem?_eq_getElem hid]
    rfl)
  have XL := hide (show hs1[i].X.ws.length ≤ 8 by rw [hxd]; exact (unhide HS).ws _ (List.getElem_mem hid))
  have SX := hide hxd
  clear hxd
  generalize hx1 : hs1[i] = x at *
  have HX := hide hx1
  clear hx1
  obtain ⟨⟨o, t, wl⟩, ⟨wa, wn, wc⟩⟩ := x
  simp only at c0 c1 c2 hwo STP XL
  have bA : Below w1.heap.size w1 ((w1.alloc (.cells #[.int .i64 d.next, .slice la1 ln1 lc1, .slice fa1 fn1 fc1, .slice (some ⟨g, 0, none⟩) 4 sc1] 27)).alloc (.cells #[.bool o, .int .i64 t, .slice wa wn wc] 93)) := ((Below.refl _ _).alloc (Nat.le_refl _) _).alloc (by simp) _
  obtain ⟨-, k6, k7, z7⟩ := twoBx (w := w1) (c1 := #[.int .i64 d.next, .slice la1 ln1 lc1, .slice fa1 fn1 fc1, .slice (some ⟨g, 0, none⟩) 4 sc1]) (t1 := 27) (c2 := #[.bool o, .int .i64 t, .slice wa wn wc]) (t2 := 93) rfl
  have hW1 := hb1.size
  have NBS := hide (fun q hq => (hO.so.lt q hq).2)
  have NBV := hide (fun q hq => (hO.vo.lt q hq).2)
  have NBF := hide (fun q hq => (hO.fo.lt q hq).2)
  have OU := hide (hO.below bA)
  have BU := hide (hb1.trans (bA.mono hW1))
  have OX := hide (rb_ownsRow_below hwo bA)
  have K6 := hide k6
  have K7 := hide k7
  have hb6 : W.heap.size ≤ w1.heap.size := hW1
  have a1 : (w1.alloc (.cells #[.int .i64 d.next, .slice la1 ln1 lc1, .slice fa1 fn1 fc1, .slice (some ⟨g, 0, none⟩) 4 sc1] 27)).cell? ⟨w.heap.size + 1, 1, none⟩ = some (.int .i64 (i : Int)) := (((Below.refl w1.heap.size w1).alloc (Nat.le_refl _) (.cells #[.int .i64 d.next, .slice la1 ln1 lc1, .slice fa1 fn1 fc1, .slice (some ⟨g, 0, none⟩) 4 sc1] 27)).cell (p := ⟨w.heap.size + 1, 1, none⟩) (by show w.heap.size + 1 < w1.heap.size; omega)).trans ((heap_at ((hb1.block (w.heap.size + 1) hz1).trans (unhide K1)) 1).1)
  have d0 := (((Below.refl w1.heap.size w1).alloc (Nat.le_refl _) (.cells #[.int .i64 d.next, .slice la1 ln1 lc1, .slice fa1 fn1 fc1, .slice (some ⟨g, 0, none⟩) 4 sc1] 27)).cell (p := ⟨g, i * 3, none⟩) hgw).trans c0
  have d1 := (((Below.refl w1.heap.size w1).alloc (Nat.le_refl _) (.cells #[.int .i64 d.next, .slice la1 ln1 lc1, .slice fa1 fn1 fc1, .slice (some ⟨g, 0, none⟩) 4 sc1] 27)).cell (p := ⟨g, i * 3 + 1, none⟩) hgw).trans c1
  have d2 := (((Below.refl w1.heap.size w1).alloc (Nat.le_refl _) (.cells #[.int .i64 d.next, .slice la1 ln1 lc1, .slice fa1 fn1 fc1, .slice (some ⟨g, 0, none⟩) 4 sc1] 27)).cell (p := ⟨g, i * 3 + 2, none⟩) hgw).trans c2
  have hin : (i : Int) < 4 := by omega
  clear hO hwo bA k6 k7 c0 c1 c2 hb1 z7
  go_upto_region 7 with fail
  clear d0 d1 d2 a1 hin
  generalize (w1.alloc (.cells #[.int .i64 d.next, .slice la1 ln1 lc1, .slice fa1 fn1 fc1, .slice (some ⟨g, 0, none⟩) 4 sc1] 27)).alloc (.cells #[.bool o, .int .i64 t, .slice wa wn wc] 93) = u at *
  generalize hb6e : w1.heap.size = b6 at *
  clear hb6e
  cases o with
  | true =>
    have kv := ((unhide BU).block w.heap.size hz0).trans (unhide K0)
    have v0 := (heap_at kv 0).1
    have v1 := (heap_at kv 1).1
    have v2 := (heap_at kv 2).1
    have v3 := (heap_at kv 3).1
    have ka := ((unhide BU).block (w.heap.size + 1) hz1).trans (unhide K1)
    have a0 := (heap_at ka 0).1
    have a1 := (heap_at ka 1).1
    have a2 := (heap_at ka 2).1
    have a3 := (heap_at ka 3).1
    have a4 := (heap_at ka 4).1
    have ky := ((unhide BU).block (w.heap.size + 1 + 1) hz2).trans (unhide K2)
    have y0 := (heap_at ky 0).1
    have y1 := (heap_at ky 1).1
    have y2 := (heap_at ky 2).1
    have y3 := (heap_at ky 3).1
    have yf0 := (heap_at ky 0).2
    have yf1 := (heap_at ky 1).2
    have yf2 := (heap_at ky 2).2
    have yf3 := (heap_at ky 3).2
    have kt := ((unhide BU).block (w.heap.size + 1 + 1 + 1) hz3).trans (unhide K3)
    have t0 := (heap_at kt 0).1
    have t1 := (heap_at kt 1).1
    have t2 := (heap_at kt 2).1
    have t3 := (heap_at kt 3).1
    have tf0 := (heap_at kt 0).2
    have tf1 := (heap_at kt 1).2
    have tf2 := (heap_at kt 2).2
    have tf3 := (heap_at kt 3).2
    have x0 := (heap_at (unhide K7) 0).1
    have RES := hide (show StRes ⟨la, ln, lc⟩ ⟨fa, fn, fc⟩ ⟨sa, sn, sc⟩ hs d (stepV d ⟨1, (i : Int), key, tu, val⟩) w (.returned (.tuple #[.agg #[.int .i64 d.next, .slice la ln lc, .slice fa fn fc, .slice sa sn sc], .agg #[.int .i64 8, .int .i64 0, .string ⟨#[]⟩, .slice none 0 0]])) ((((((((u.setCell ⟨w.heap.size + 1 + 1, 0, none⟩ (.int .i64 d.next)).setCell ⟨w.heap.size + 1 + 1, 1, none⟩ (.slice la ln lc)).setCell ⟨w.heap.size + 1 + 1, 2, none⟩ (.slice fa fn fc)).setCell ⟨w.heap.size + 1 + 1, 3, none⟩ (.slice sa sn sc)).setCell ⟨w.heap.size + 1 + 1 + 1, 0, none⟩ (.int .i64 8)).setCell ⟨w.heap.size + 1 + 1 + 1, 1, none⟩ (.int .i64 0)).setCell ⟨w.heap.size + 1 + 1 + 1, 2, none⟩ (.string ⟨#[]⟩)).setCell ⟨w.heap.size + 1 + 1 + 1, 3, none⟩ (.slice none 0 0)) from st_old (unhide HI) (bel_sv4 (bel_sv4 ((unhide BH).trans ((unhide BU).mono (unhide BH).size)) (by omega) _ _ _ _) (by omega) _ _ _ _) (by rw [unhide STP]; unfold sesV; rw [if_pos rfl, if_pos rfl]))
    go_wp2_with fail
    refine bodyPost_ret (v := .tuple #[.agg #[.int .i64 d.next, .slice la ln lc, .slice fa fn fc, .slice sa sn sc], .agg #[.int .i64 8, .int .i64 0, .string ⟨#[]⟩, .slice none 0 0]]) (by simp [results, Tryz.results21, go_sem, *]) rfl ?_
    exact unhide RES
  | false =>
    have kv := ((unhide BU).block w.heap.size hz0).trans (unhide K0)
    have v0 := (heap_at kv 0).1
    have v1 := (heap_at kv 1).1
    have v2 := (heap_at kv 2).1
    have v3 := (heap_at kv 3).1
    have ka := ((unhide BU).block (w.heap.size + 1) hz1).trans (unhide K1)
    have a0 := (heap_at ka 0).1
    have a1 := (heap_at ka 1).1
    have a2 := (heap_at ka 2).1
    have a3 := (heap_at ka 3).1
    have a4 := (heap_at ka 4).1
    have ky := ((unhide BU).block (w.heap.size + 1 + 1) hz2).trans (unhide K2)
    have y0 := (heap_at ky 0).1
    have y1 := (heap_at ky 1).1
    have y2 := (heap_at ky 2).1
    have y3 := (heap_at ky 3).1
    have yf0 := (heap_at ky 0).2
    have yf1 := (heap_at ky 1).2
    have yf2 := (heap_at ky 2).2
    have yf3 := (heap_at ky 3).2
    have kt := ((unhide BU).block (w.heap.size + 1 + 1 + 1) hz3).trans (unhide K3)
    have t0 := (heap_at kt 0).1
    have t1 := (heap_at kt 1).1
    have t2 := (heap_at kt 2).1
    have t3 := (heap_at kt 3).1
    have tf0 := (heap_at kt 0).2
    have tf1 := (heap_at kt 1).2
    have tf2 := (heap_at kt 2).2
    have tf3 := (heap_at kt 3).2
    have x0 := (heap_at (unhide K7) 0).1
    by_cases hnn : d.next = 1000
    · have hn2 : (d.next == 1000) = true := by simpa using hnn
      have ST2 := hide (show stepV d ⟨1, (i : Int), key, tu, val⟩ = (d, repV 7 0) by rw [unhide STP]; unfold sesV; rw [if_pos rfl, if_neg (by simp), if_pos hnn])
      clear hnn
      have RES := hide (show StRes ⟨la, ln, lc⟩ ⟨fa, fn, fc⟩ ⟨sa, sn, sc⟩ hs d (stepV d ⟨1, (i : Int), key, tu, val⟩) w (.returned (.tuple #[.agg #[.int .i64 d.next, .slice la ln lc, .slice fa fn fc, .slice sa sn sc], .agg #[.int .i64 7, .int .i64 0, .string ⟨#[]⟩, .slice none 0 0]])) ((((((((u.setCell ⟨w.heap.size + 1 + 1, 0, none⟩ (.int .i64 d.next)).setCell ⟨w.heap.size + 1 + 1, 1, none⟩ (.slice la ln lc)).setCell ⟨w.heap.size + 1 + 1, 2, none⟩ (.slice fa fn fc)).setCell ⟨w.heap.size + 1 + 1, 3, none⟩ (.slice sa sn sc)).setCell ⟨w.heap.size + 1 + 1 + 1, 0, none⟩ (.int .i64 7)).setCell ⟨w.heap.size + 1 + 1 + 1, 1, none⟩ (.int .i64 0)).setCell ⟨w.heap.size + 1 + 1 + 1, 2, none⟩ (.string ⟨#[]⟩)).setCell ⟨w.heap.size + 1 + 1 + 1, 3, none⟩ (.slice none 0 0)) from st_old (unhide HI) (bel_sv4 (bel_sv4 ((unhide BH).trans ((unhide BU).mono (unhide BH).size)) (by omega) _ _ _ _) (by omega) _ _ _ _) (by rw [unhide ST2]))
      go_wp2_with fail
      refine bodyPost_ret (v := .tuple #[.agg #[.int .i64 d.next, .slice la ln lc, .slice fa fn fc, .slice sa sn sc], .agg #[.int .i64 7, .int .i64 0, .string ⟨#[]⟩, .slice none 0 0]]) (by simp [results, Tryz.results21, go_sem, *]) rfl ?_
      exact unhide RES
    · have hn2 : (d.next == 1000) = false := by simpa using hnn
      have ST2 := hide (show stepV d ⟨1, (i : Int), key, tu, val⟩ = (⟨d.next + 1, d.list, d.fen, d.ses.set i ⟨true, d.next, []⟩⟩, repV 0 d.next) by rw [unhide STP]; unfold sesV; rw [if_pos rfl, if_neg (by simp), if_neg hnn])
      clear hnn
      have z3 := (heap_at (unhide K6) 3).1
      have bL : Below u.heap.size u (u.alloc (.cells #[] 39)) := (Below.refl _ _).alloc (Nat.le_refl _) _
      have OL := (unhide OU).below bL
      have NL := gd_base (nil_lit (w := u) 39 4) (unhide BU).size
      have hih : i < hs1.length := by omega
      obtain ⟨g2, hg2, -, ⟨c0, c1, c2⟩, hfz, OP, WP, hki⟩ := OL.put hih ⟨⟨true, d.next, []⟩, ⟨some ⟨u.heap.size, 0, none⟩, 0, 0⟩⟩ NL (fun q hq => by
        injection hq with hq
        subst hq
        exact ⟨fun hn => Nat.lt_irrefl _ ((unhide OU).so.lt _ hn).2, fun e => Nat.lt_irrefl _ ((unhide OU).vo.lt _ e).2⟩)
      simp only at hg2
      injection hg2 with hg2
      injection hg2 with hg2 _ _
      subst hg2
      rw [unhide HX] at c0 c1 c2
      simp only at c0 c1 c2 OP WP
      have hf0 := hfz (i * 3)
      have hf1 := hfz (i * 3 + 1)
      have hf2 := hfz (i * 3 + 1 + 1)
      obtain ⟨cur, hcur⟩ := hki
      have BL := (unhide BU).trans (bL.mono (unhide BU).size)
      have BP := hide (BL.trans (WrB.below WP (fun k e => by rw [e]; exact hgB) BL.size))
      have K6L := (bL.block b6 (blk_lt (unhide K6))).trans (unhide K6)
      have h6g : b6 ≠ g := fun e => by rw [e, hcur] at K6L; injection K6L with K6L; injection K6L with _ K6L _; exact absurd K6L (by decide)
      have K6P := hide ((WP.block b6 (blk_lt K6L) h6g).trans K6L)
      have OPh := hide OP
      have a1L := (bL.cell (p := ⟨w.heap.size + 1, 1, none⟩) (cell_lt a1)).trans a1
      have v0L := (bL.cell (p := ⟨w.heap.size, 0, none⟩) (cell_lt v0)).trans v0
      have z3L := (bL.cell (p := ⟨b6, 3, none⟩) (cell_lt z3)).trans z3
      have K6Q := (unhide K6P)
      have hin : (i : Int) < 4 := by omega
      have hW13 : WrB (fun k => k = b6) ((((u.alloc (.cells #[] 39)).setCell ⟨g, i * 3, none⟩ (.bool true)).setCell ⟨g, i * 3 + 1, none⟩ (.int .i64 d.next)).setCell ⟨g, i * 3 + 1 + 1, none⟩ (.slice (some ⟨u.heap.size, 0, none⟩) 0 0)) (((((u.alloc (.cells #[] 39)).setCell ⟨g, i * 3, none⟩ (.bool true)).setCell ⟨g, i * 3 + 1, none⟩ (.int .i64 d.next)).setCell ⟨g, i * 3 + 1 + 1, none⟩ (.slice (some ⟨u.heap.size, 0, none⟩) 0 0)).setCell ⟨b6, 0, none⟩ (.int .i64 (d.next + 1))) := set1_wr _ _ _ _
      have OF := hide (show VzOwn (((((u.alloc (.cells #[] 39)).setCell ⟨g, i * 3, none⟩ (.bool true)).setCell ⟨g, i * 3 + 1, none⟩ (.int .i64 d.next)).setCell ⟨g, i * 3 + 1 + 1, none⟩ (.slice (some ⟨u.heap.size, 0, none⟩) 0 0)).setCell ⟨b6, 0, none⟩ (.int .i64 (d.next + 1))) W.heap.size ⟨la1, ln1, lc1⟩ ⟨fa1, fn1, fc1⟩ ⟨some ⟨g, 0, none⟩, 4, sc1⟩ _ ⟨d.next + 1, d.list, d.fen, d.ses.set i ⟨true, d.next, []⟩⟩ from (let h := OP.box K6Q (by decide) (by decide) (by decide) hW13; ⟨h.vo, h.fo, h.so, h.ss, h.far⟩))
      have BF := hide (show Below w.heap.size w (((((u.alloc (.cells #[] 39)).setCell ⟨g, i * 3, none⟩ (.bool true)).setCell ⟨g, i * 3 + 1, none⟩ (.int .i64 d.next)).setCell ⟨g, i * 3 + 1 + 1, none⟩ (.slice (some ⟨u.heap.size, 0, none⟩) 0 0)).setCell ⟨b6, 0, none⟩ (.int .i64 (d.next + 1))) from ((unhide BH).trans ((unhide BP).mono (unhide BH).size)).trans (WrB.below hW13 (fun k e => by rw [e]; omega) (Nat.le_trans (unhide BH).size (unhide BP).size)))
      have BF2 := hide (show Below W.heap.size W (((((u.alloc (.cells #[] 39)).setCell ⟨g, i * 3, none⟩ (.bool true)).setCell ⟨g, i * 3 + 1, none⟩ (.int .i64 d.next)).setCell ⟨g, i * 3 + 1 + 1, none⟩ (.slice (some ⟨u.heap.size, 0, none⟩) 0 0)).setCell ⟨b6, 0, none⟩ (.int .i64 (d.next + 1))) from (unhide BP).trans (WrB.below hW13 (fun k e => by rw [e]; omega) (unhide BP).size))
      have K6F := hide (show (((((u.alloc (.cells #[] 39)).setCell ⟨g, i * 3, none⟩ (.bool true)).setCell ⟨g, i * 3 + 1, none⟩ (.int .i64 d.next)).setCell ⟨g, i * 3 + 1 + 1, none⟩ (.slice (some ⟨u.heap.size, 0, none⟩) 0 0)).setCell ⟨b6, 0, none⟩ (.int .i64 (d.next + 1))).heap[b6]? = some (.cells #[.int .i64 (d.next + 1), .slice la1 ln1 lc1, .slice fa1 fn1 fc1, .slice (some ⟨g, 0, none⟩) 4 sc1] 27 (0, 0)) by have := heap_set K6Q 0 (.int .i64 (d.next + 1)); simpa using this)
      have z0P := (heap_at K6Q 0).1
      have zf0P := (heap_at K6Q 0).2
      have hwr : IntKind.i64.wrap (d.next + 1) = d.next + 1 := by rw [IntKind.wrap_i64]; omega
      clear OP WP hW13 K6Q K6L BL bL OL NL hfz hcur kv ka ky kt
      go_upto_region 13 with fail
      go_upto_region 14 with fail
      generalize ((((u.alloc (.cells #[] 39)).setCell ⟨g, i * 3, none⟩ (.bool true)).setCell ⟨g, i * 3 + 1, none⟩ (.int .i64 d.next)).setCell ⟨g, i * 3 + 1 + 1, none⟩ (.slice (some ⟨u.heap.size, 0, none⟩) 0 0)).setCell ⟨b6, 0, none⟩ (.int .i64 (d.next + 1)) = uf at *
      clear v0 v1 v2 v3 a0 a1 a2 a3 a4 y0 y1 y2 y3 yf0 yf1 yf2 yf3 t0 t1 t2 t3 tf0 tf1 tf2 tf3 x0 c0 c1 c2 hf0 hf1 hf2 a1L v0L z3L z3 z0P zf0P
      have kv := ((unhide BF2).block w.heap.size hz0).trans (unhide K0)
      have v0 := (heap_at kv 0).1
      have v1 := (heap_at kv 1).1
      have v2 := (heap_at kv 2).1
      have v3 := (heap_at kv 3).1
      have z0 := (heap_at (unhide K6F) 0).1
      have z1 := (heap_at (unhide K6F) 1).1
      have z2 := (heap_at (unhide K6F) 2).1
      have z3 := (heap_at (unhide K6F) 3).1
      have N2 := hide (((unhide BF2).block (w.heap.size + 1 + 1) hz2).trans (unhide K2))
      have N3 := hide (((unhide BF2).block (w.heap.size + 1 + 1 + 1) hz3).trans (unhide K3))
      have h60 : b6 < uf.heap.size := blk_lt (unhide K6F)
      have h6W : W.heap.size ≤ uf.heap.size := (unhide BF2).size
      have LD := hide (show ∀ v : World, (∀ i, i ≠ w.heap.size + 1 + 1 → i ≠ w.heap.size + 1 + 1 + 1 → i < uf.heap.size → v.heap[i]? = uf.heap[i]?) → (fun u => u.cell? ⟨b6, 0, none⟩ = some (.int .i64 (d.next + 1)) ∧ u.cell? ⟨b6, 1, none⟩ = some (.slice la1 ln1 lc1) ∧ u.cell? ⟨b6, 2, none⟩ = some (.slice fa1 fn1 fc1) ∧ u.cell? ⟨b6, 3, none⟩ = some (.slice (some ⟨g, 0, none⟩) 4 sc1) ∧ u.cell? ⟨w.heap.size, 0, none⟩ = some (.int .i64 d.next)) v from fun v hv => ⟨(World.cell?_of_block (a := ⟨b6, 0, none⟩) (hv b6 (by omega) (by omega) h60)).trans z0, (World.cell?_of_block (a := ⟨b6, 1, none⟩) (hv b6 (by omega) (by omega) h60)).trans z1, (World.cell?_of_block (a := ⟨b6, 2, none⟩) (hv b6 (by omega) (by omega) h60)).trans z2, (World.cell?_of_block (a := ⟨b6, 3, none⟩) (hv b6 (by omega) (by omega) h60)).trans z3, (World.cell?_of_block (a := ⟨w.heap.size, 0, none⟩) (hv w.heap.size (by omega) (by omega) (by omega))).trans v0⟩)
      have D0 := hide (show ∀ i, i ≠ w.heap.size + 1 + 1 → i ≠ w.heap.size + 1 + 1 + 1 → i < uf.heap.size → uf.drew.heap[i]? = uf.heap[i]? from fun _ _ _ _ => rfl)
      have ZD0 := hide (show uf.heap.size ≤ uf.drew.heap.size from Nat.le_refl _)
      have BD0 := hide (show Below w.heap.size w uf.drew from (unhide BF).drew)
      replace N2 := hide (show uf.drew.heap[w.heap.size + 1 + 1]? = _ from unhide N2)
      replace N3 := hide (show uf.drew.heap[w.heap.size + 1 + 1 + 1]? = _ from unhide N3)
      go_upto_region 14 with fail
      refine wp_region_held_drew (S := (fun u => u.cell? ⟨b6, 0, none⟩ = some (.int .i64 (d.next + 1)) ∧ u.cell? ⟨b6, 1, none⟩ = some (.slice la1 ln1 lc1) ∧ u.cell? ⟨b6, 2, none⟩ = some (.slice fa1 fn1 fc1) ∧ u.cell? ⟨b6, 3, none⟩ = some (.slice (some ⟨g, 0, none⟩) 4 sc1) ∧ u.cell? ⟨w.heap.size, 0, none⟩ = some (.int .i64 d.next))) (by kernel_rfl) (unhide LD _ (unhide D0)) (fun hHeld => ?_)
      generalize uf.drew = ud at *
      refine anyH_take 0 59 (v := ?v1) rfl rfl (by kernel_rfl) (by kernel_rfl) (by kernel_rfl) (fun _ _ _ h => h) (by rfl) ?h1 hHeld ?r1
      case h1 => (intro w hSw; (try dsimp only at hSw); go_simp; try (with_reducible rfl))
      simp only [Act.put, List.setIfInBounds_toArray, List.set_cons_zero, List.set_cons_succ]
      refine anyH_take 1 60 (v := ?v2) rfl rfl (by kernel_rfl) (by kernel_rfl) (by kernel_rfl) (fun _ _ _ h => h) (by rfl) ?h2 hHeld ?r2
      case h2 => (intro w hSw; (try dsimp only at hSw); go_simp; try (with_reducible rfl))
      simp only [Act.put, List.setIfInBounds_toArray, List.set_cons_zero, List.set_cons_succ]
      refine anyH_take 2 61 (v := ?v3) rfl rfl (by kernel_rfl) (by kernel_rfl) (by kernel_rfl) (fun _ _ _ h => h) (by rfl) ?h3 hHeld ?r3
      case h3 => (intro w hSw; (try dsimp only at hSw); go_simp; try (with_reducible rfl))
      simp only [Act.put, List.setIfInBounds_toArray, List.set_cons_zero, List.set_cons_succ]
      refine anyH_take 3 62 (v := ?v4) rfl rfl (by kernel_rfl) (by kernel_rfl) (by kernel_rfl) (fun _ _ _ h => h) (by rfl) ?h4 hHeld ?r4
      case h4 => (intro w hSw; (try dsimp only at hSw); go_simp; try (with_reducible rfl))
      simp only [Act.put, List.setIfInBounds_toArray, List.set_cons_zero, List.set_cons_succ]
      refine wpAnyH_ready (rs := [4]) (by kernel_rfl) (by simp) ?_
      refine AllReadyH.cons rfl (fun K hK => ?_) AllReadyH.nil
      have c0 := (heap_at (unhide N2) 0).1
      have c1 := (heap_at (unhide N2) 1).1
      have c2 := (heap_at (unhide N2) 2).1
      have c3 := (heap_at (unhide N2) 3).1
      have cf0 := (heap_at (unhide N2) 0).2
      have cf1 := (heap_at (unhide N2) 1).2
      have cf2 := (heap_at (unhide N2) 2).2
      have cf3 := (heap_at (unhide N2) 3).2
      have hw : WrB (fun i => i = w.heap.size + 1 + 1) ud ((((ud.setCell ⟨w.heap.size + 1 + 1, 0, none⟩ (.int .i64 (d.next + 1))).setCell ⟨w.heap.size + 1 + 1, 1, none⟩ (.slice la1 ln1 lc1)).setCell ⟨w.heap.size + 1 + 1, 2, none⟩ (.slice fa1 fn1 fc1)).setCell ⟨w.heap.size + 1 + 1, 3, none⟩ (.slice (some ⟨g, 0, none⟩) 4 sc1)) := sv4_wr ud (w.heap.size + 1 + 1) (.int .i64 (d.next + 1)) (.slice la1 ln1 lc1) (.slice fa1 fn1 fc1) (.slice (some ⟨g, 0, none⟩) 4 sc1)
      have D1 := hide (show ∀ i, i ≠ w.heap.size + 1 + 1 → i ≠ w.heap.size + 1 + 1 + 1 → i < uf.heap.size → ((((ud.setCell ⟨w.heap.size + 1 + 1, 0, none⟩ (.int .i64 (d.next + 1))).setCell ⟨w.heap.size + 1 + 1, 1, none⟩ (.slice la1 ln1 lc1)).setCell ⟨w.heap.size + 1 + 1, 2, none⟩ (.slice fa1 fn1 fc1)).setCell ⟨w.heap.size + 1 + 1, 3, none⟩ (.slice (some ⟨g, 0, none⟩) 4 sc1)).heap[i]? = uf.heap[i]? from fun i h1 h2 h3 => (hw.block i (Nat.lt_of_lt_of_le h3 (unhide ZD0)) (by first | exact h1 | exact h2)).trans (unhide D0 i h1 h2 h3))
      have ZD1 := hide (show uf.heap.size ≤ ((((ud.setCell ⟨w.heap.size + 1 + 1, 0, none⟩ (.int .i64 (d.next + 1))).setCell ⟨w.heap.size + 1 + 1, 1, none⟩ (.slice la1 ln1 lc1)).setCell ⟨w.heap.size + 1 + 1, 2, none⟩ (.slice fa1 fn1 fc1)).setCell ⟨w.heap.size + 1 + 1, 3, none⟩ (.slice (some ⟨g, 0, none⟩) 4 sc1)).heap.size from Nat.le_trans (unhide ZD0) hw.size)
      have Ka := hide (show ((((ud.setCell ⟨w.heap.size + 1 + 1, 0, none⟩ (.int .i64 (d.next + 1))).setCell ⟨w.heap.size + 1 + 1, 1, none⟩ (.slice la1 ln1 lc1)).setCell ⟨w.heap.size + 1 + 1, 2, none⟩ (.slice fa1 fn1 fc1)).setCell ⟨w.heap.size + 1 + 1, 3, none⟩ (.slice (some ⟨g, 0, none⟩) 4 sc1)).heap[w.heap.size + 1 + 1]? = some (.cells #[.int .i64 (d.next + 1), .slice la1 ln1 lc1, .slice fa1 fn1 fc1, .slice (some ⟨g, 0, none⟩) 4 sc1] 27 (0, 0)) from sv4_heap (unhide N2) (.int .i64 (d.next + 1)) (.slice la1 ln1 lc1) (.slice fa1 fn1 fc1) (.slice (some ⟨g, 0, none⟩) 4 sc1))
      have BD1 := hide (show Below w.heap.size w ((((ud.setCell ⟨w.heap.size + 1 + 1, 0, none⟩ (.int .i64 (d.next + 1))).setCell ⟨w.heap.size + 1 + 1, 1, none⟩ (.slice la1 ln1 lc1)).setCell ⟨w.heap.size + 1 + 1, 2, none⟩ (.slice fa1 fn1 fc1)).setCell ⟨w.heap.size + 1 + 1, 3, none⟩ (.slice (some ⟨g, 0, none⟩) 4 sc1)) from bel_sv4 (unhide BD0) (by omega) (.int .i64 (d.next + 1)) (.slice la1 ln1 lc1) (.slice fa1 fn1 fc1) (.slice (some ⟨g, 0, none⟩) 4 sc1))
      have E3 := hide ((hw.block (w.heap.size + 1 + 1 + 1) (blk_lt (unhide N3)) (by omega)).trans (unhide N3))
      clear hw
      go_simp
      refine hK.out _ _ (unhide LD _ (unhide D1)) (fun hHeld => ?_)
      clear hK K
      clear c0 c1 c2 c3 cf0 cf1 cf2 cf3
      generalize ((((ud.setCell ⟨w.heap.size + 1 + 1, 0, none⟩ (.int .i64 (d.next + 1))).setCell ⟨w.heap.size + 1 + 1, 1, none⟩ (.slice la1 ln1 lc1)).setCell ⟨w.heap.size + 1 + 1, 2, none⟩ (.slice fa1 fn1 fc1)).setCell ⟨w.heap.size + 1 + 1, 3, none⟩ (.slice (some ⟨g, 0, none⟩) 4 sc1)) = ue at *
      refine wpAnyH_ready (rs := [5]) (by kernel_rfl) (by simp) ?_
      refine AllReadyH.cons rfl (fun K hK => ?_) AllReadyH.nil
      have c0 := (heap_at (unhide E3) 0).1
      have c1 := (heap_at (unhide E3) 1).1
      have c2 := (heap_at (unhide E3) 2).1
      have c3 := (heap_at (unhide E3) 3).1
      have cf0 := (heap_at (unhide E3) 0).2
      have cf1 := (heap_at (unhide E3) 1).2
      have cf2 := (heap_at (unhide E3) 2).2
      have cf3 := (heap_at (unhide E3) 3).2
      have hw : WrB (fun i => i = w.heap.size + 1 + 1 + 1) ue ((((ue.setCell ⟨w.heap.size + 1 + 1 + 1, 0, none⟩ (.int .i64 0)).setCell ⟨w.heap.size + 1 + 1 + 1, 1, none⟩ (.int .i64 d.next)).setCell ⟨w.heap.size + 1 + 1 + 1, 2, none⟩ (.string ⟨#[]⟩)).setCell ⟨w.heap.size + 1 + 1 + 1, 3, none⟩ (.slice none 0 0)) := sv4_wr ue (w.heap.size + 1 + 1 + 1) (.int .i64 0) (.int .i64 d.next) (.string ⟨#[]⟩) (.slice none 0 0)
      have D2 := hide (show ∀ i, i ≠ w.heap.size + 1 + 1 → i ≠ w.heap.size + 1 + 1 + 1 → i < uf.heap.size → ((((ue.setCell ⟨w.heap.size + 1 + 1 + 1, 0, none⟩ (.int .i64 0)).setCell ⟨w.heap.size + 1 + 1 + 1, 1, none⟩ (.int .i64 d.next)).setCell ⟨w.heap.size + 1 + 1 + 1, 2, none⟩ (.string ⟨#[]⟩)).setCell ⟨w.heap.size + 1 + 1 + 1, 3, none⟩ (.slice none 0 0)).heap[i]? = uf.heap[i]? from fun i h1 h2 h3 => (hw.block i (Nat.lt_of_lt_of_le h3 (unhide ZD1)) (by first | exact h1 | exact h2)).trans (unhide D1 i h1 h2 h3))
      have ZD2 := hide (show uf.heap.size ≤ ((((ue.setCell ⟨w.heap.size + 1 + 1 + 1, 0, none⟩ (.int .i64 0)).setCell ⟨w.heap.size + 1 + 1 + 1, 1, none⟩ (.int .i64 d.next)).setCell ⟨w.heap.size + 1 + 1 + 1, 2, none⟩ (.string ⟨#[]⟩)).setCell ⟨w.heap.size + 1 + 1 + 1, 3, none⟩ (.slice none 0 0)).heap.size from Nat.le_trans (unhide ZD1) hw.size)
      have Kb := hide (show ((((ue.setCell ⟨w.heap.size + 1 + 1 + 1, 0, none⟩ (.int .i64 0)).setCell ⟨w.heap.size + 1 + 1 + 1, 1, none⟩ (.int .i64 d.next)).setCell ⟨w.heap.size + 1 + 1 + 1, 2, none⟩ (.string ⟨#[]⟩)).setCell ⟨w.heap.size + 1 + 1 + 1, 3, none⟩ (.slice none 0 0)).heap[w.heap.size + 1 + 1 + 1]? = some (.cells #[.int .i64 0, .int .i64 d.next, .string ⟨#[]⟩, .slice none 0 0] 60 (0, 0)) from sv4_heap (unhide E3) (.int .i64 0) (.int .i64 d.next) (.string ⟨#[]⟩) (.slice none 0 0))
      have BD2 := hide (show Below w.heap.size w ((((ue.setCell ⟨w.heap.size + 1 + 1 + 1, 0, none⟩ (.int .i64 0)).setCell ⟨w.heap.size + 1 + 1 + 1, 1, none⟩ (.int .i64 d.next)).setCell ⟨w.heap.size + 1 + 1 + 1, 2, none⟩ (.string ⟨#[]⟩)).setCell ⟨w.heap.size + 1 + 1 + 1, 3, none⟩ (.slice none 0 0)) from bel_sv4 (unhide BD1) (by omega) (.int .i64 0) (.int .i64 d.next) (.string ⟨#[]⟩) (.slice none 0 0))
      have Kc := hide ((hw.block (w.heap.size + 1 + 1) (blk_lt (unhide Ka)) (by omega)).trans (unhide Ka))
      clear hw
      go_simp
      refine hK.out _ _ (unhide LD _ (unhide D2)) (fun hHeld => ?_)
      clear hK K
      clear c0 c1 c2 c3 cf0 cf1 cf2 cf3
      generalize ((((ue.setCell ⟨w.heap.size + 1 + 1 + 1, 0, none⟩ (.int .i64 0)).setCell ⟨w.heap.size + 1 + 1 + 1, 1, none⟩ (.int .i64 d.next)).setCell ⟨w.heap.size + 1 + 1 + 1, 2, none⟩ (.string ⟨#[]⟩)).setCell ⟨w.heap.size + 1 + 1 + 1, 3, none⟩ (.slice none 0 0)) = ug at *
      refine wpAnyH_done (by kernel_rfl) ?_ _
      have r0 := (heap_at (unhide Kc) 0).1
      have r1 := (heap_at (unhide Kc) 1).1
      have r2 := (heap_at (unhide Kc) 2).1
      have r3 := (heap_at (unhide Kc) 3).1
      have q0 := (heap_at (unhide Kb) 0).1
      have q1 := (heap_at (unhide Kb) 1).1
      have q2 := (heap_at (unhide Kb) 2).1
      have q3 := (heap_at (unhide Kb) 3).1
      have OG := (unhide OF).wr (P := fun i => i = w.heap.size + 1 + 1 ∨ i = w.heap.size + 1 + 1 + 1) (w' := ug) ⟨(unhide BD2).os.trans (unhide BF).os.symm, (unhide BD2).tape.trans (unhide BF).tape.symm, (unhide BD2).output.trans (unhide BF).output.symm, unhide ZD2, fun i hi hp => unhide D2 i (fun e => hp (.inl e)) (fun e => hp (.inr e)) hi⟩ (fun i e => by rcases e with e | e <;> omega)
      have RES := hide (show StRes ⟨la, ln, lc⟩ ⟨fa, fn, fc⟩ ⟨sa, sn, sc⟩ hs d (stepV d ⟨1, (i : Int), key, tu, val⟩) w (.returned (.tuple #[.agg #[.int .i64 (d.next + 1), .slice la1 ln1 lc1, .slice fa1 fn1 fc1, .slice (some ⟨g, 0, none⟩) 4 sc1], .agg #[.int .i64 0, .int .i64 d.next, .string ⟨#[]⟩, .slice none 0 0]])) ug from st_own OG (Nat.le_of_lt hz0) (unhide BD2) (unhide ST2))
      clear hHeld LD D0 D1 D2 N2 N3 E3 Ka Kb Kc
      go_wp2_with fail
      refine bodyPost_ret (v := .tuple #[.agg #[.int .i64 (d.next + 1), .slice la1 ln1 lc1, .slice fa1 fn1 fc1, .slice (some ⟨g, 0, none⟩) 4 sc1], .agg #[.int .i64 0, .int .i64 d.next, .string ⟨#[]⟩, .slice none 0 0]]) (by simp [results, Tryz.results21, go_sem, *]) rfl ?_
      exact unhide RES
end Go.Proofs.YtfajenejngddeaaGreat

namespace Go.Proofs.YtfajenejngddeaaGreat
open Go.RowKit

theorem getR_snoc (l : List EntD) (e : EntD) (k : ByteArray) (t : Int) : getR (l ++ [e]) k t = if e.k = k then ⟨0, t, e.v, []⟩ else getR l k t := by
  unfold getR
  rw [List.foldl_append]
  rfl
theorem getR_fold (k : ByteArray) (t : Int) : ∀ (l : List EntD) (r : RepD), r.time = t → r.list = [] → (l.foldl (fun r e => if e.k = k then ⟨0, t, e.v, []⟩ else r) r).time = t ∧ (l.foldl (fun r e => if e.k = k then (⟨0, t, e.v, []⟩ : RepD) else r) r).list = []
  | [], r, h1, h2 => ⟨h1, h2⟩
  | e :: l, r, h1, h2 => by
    rw [List.foldl_cons]
    by_cases h : e.k = k
    · rw [if_pos h]; exact getR_fold k t l _ rfl rfl
    · rw [if_neg h]; exact getR_fold k t l _ h1 h2
theorem getR_time (l : List EntD) (k : ByteArray) (t : Int) : (getR l k t).time = t ∧ (getR l k t).list = [] := getR_fold k t l _ rfl rfl
end Go.Proofs.YtfajenejngddeaaGreat

namespace Go.Proofs.YtfajenejngddeaaGreat
open Go.RowKit

/-- One entry appended to a row of the call's own, and where the new row lies. -/
theorem e_app {w : World} {B : Nat} {v : Value} {es : List EntD} {d : EntD} (ho : EOwns w B v es) (hz : es.length ≤ 1000000) (hB : B ≤ w.heap.size) :
    ∃ v' w', (Builtin.append_ #[34, 34] 34 #[v, .slice (some ⟨w.heap.size, 0, none⟩) 1 1]).run Tryz.prog (w.alloc (.cells #[.string d.k, .string d.v] 43)) = .ok v' w' ∧ EOwns w' B v' (es ++ [d]) ∧ (w.alloc (.cells #[.string d.k, .string d.v] 43)).grownBy w' v.ownBlock ∧ (v'.ownBlock = v.ownBlock ∨ ∃ g, v'.ownBlock = some g ∧ (w.alloc (.cells #[.string d.k, .string d.v] 43)).heap.size ≤ g) := by
  obtain ⟨i0, hi0, hz0, hz1, hz2⟩ := info_parts Tryz.infoEntry
  obtain ⟨W, hW⟩ : ∃ W, W = w.alloc (.cells #[.string d.k, .string d.v] 43) := ⟨_, rfl⟩
  have bA : Below w.heap.size w W := by rw [hW]; exact (Below.refl _ _).alloc (Nat.le_refl _) _
  have zW : W.heap.size = w.heap.size + 1 := by rw [hW]; simp
  have hcells : ∀ j u, (ecs [d])[j]? = some u → W.cell? ((⟨w.heap.size, 0, none⟩ : Addr).add j) = some u := fun j u hu => by
    have hj : j < 2 := by simpa [ecs] using (List.getElem?_eq_some_iff.1 hu).1
    have e2 : (⟨w.heap.size, 0, none⟩ : Addr).add j = ⟨w.heap.size, j, none⟩ := by unfold Addr.add; split <;> simp_all
    rw [e2, hW]
    refine rb_cell_new rfl ?_
    match j, hj with
    | 0, _ => simpa [ecs] using hu
    | 1, _ => simpa [ecs] using hu
  have hoa : EOwns W B v es := rb_ownsRow_below ho bA
  rw [← hW]
  obtain ⟨v', w', hrun, ho', hg, _, hl⟩ := app_at (P := Tryz.prog) (w := W) (B := B) 34 34 43 Tryz.underlying34 hi0 hz0 hz1 hz2 rfl (by decide) hoa ⟨w.heap.size, 0, none⟩ 1 1 (ecs [d]) (by simp [ecs]) hcells (ecs_one _) (by unfold maxLen; omega) (by omega) (by omega) (fun _ => by omega)
  refine ⟨v', w', hrun, ?_, hg, ?_⟩
  · unfold EOwns
    rw [ecs_append, List.length_append]
    exact ho'
  · rcases hl with h | h
    · exact .inl h
    · exact .inr ⟨_, h, Nat.le_refl _⟩
theorem filt_yes {l : List EntD} {f : EntD → Bool} {j : Nat} (h : j < l.length) (hf : f l[j] = true) : (l.take (j + 1)).filter f = (l.take j).filter f ++ [l[j]] := by
  rw [rb_take_snoc l j h, List.filter_append, List.filter_cons_of_pos hf, List.filter_nil]
theorem filt_no {l : List EntD} {f : EntD → Bool} {j : Nat} (h : j < l.length) (hf : f l[j] = false) : (l.take (j + 1)).filter f = (l.take j).filter f := by
  rw [rb_take_snoc l j h, List.filter_append, List.filter_cons_of_neg (by rw [hf]; decide), List.filter_nil, List.append_nil]
theorem eowns_slice {w : World} {B : Nat} {v : Value} {es : List EntD} (h : EOwns w B v es) : ∃ a c, v = .slice a es.length c ∧ (a = none → c = 0) := by
  rcases h.2 with ⟨e, h0⟩ | ⟨g, cap, cur, e, _⟩
  · exact ⟨none, 0, by rw [e, h0], fun _ => rfl⟩
  · exact ⟨_, _, e, fun h => by cases h⟩
theorem inK_parts (fr tu k : ByteArray) : inK fr tu k = (!ltK k fr && underK k tu) := rfl
set_option maxRecDepth 100000 in
set_option maxHeartbeats 8000000 in
theorem l05Range_any (a : Option Addr) (n c : Nat) (es : List EntD) (fr tu : ByteArray) (w : World) (hR : ERow w a n es) (hn : n ≤ 1000) :
    Calls Tryz.prog 59 #[.slice a n c, .string fr, .string tu] w fun e w' => ∃ a n c, e = .returned (.slice a n c) ∧ EOwns w' w.heap.size (.slice a n c) (es.filter (fun e => inK fr tu e.k)) ∧ Below w.heap.size w w' := by
  have R := hide hR
  have L := hide hR.1
  clear hR
  have OA := hide (nil_lit (w := w) 43 2)
  have bL : Below w.heap.size w (w.alloc (.cells #[] 43)) := (Below.refl _ _).alloc (Nat.le_refl _) _
  go_enter Tryz.func59, Tryz.ntmps59
  go_wp2_with fail
  go_loopw [7, 8] (fun lv iv wr => ∃ (j : Nat) (a : Option Addr) (m k : Nat), j ≤ n ∧ lv = .slice a m k ∧ iv = .int .i64 (j : Int) ∧ Hid (EOwns wr w.heap.size (.slice a m k) ((es.take j).filter (fun e => inK fr tu e.k))) ∧ Below w.heap.size w wr) (fun _ iv _ => n - (intOf iv).toNat)
  case atStart => exact ⟨0, _, _, _, Nat.zero_le _, rfl, rfl, OA, bL⟩
  case round =>
    clear bL OA
    obtain ⟨j, aJ, nJ, kJ, hj, rfl, rfl, hO, hb⟩ := hrel
    by_cases hlt : j < n
    case neg =>
      obtain rfl : j = n := by omega
      have E := hide (show EOwns wr w.heap.size (.slice aJ nJ kJ) (es.filter (fun e => inK fr tu e.k)) by
        have h := unhide hO
        rw [List.take_of_length_le (by rw [unhide L]; exact Nat.le_refl _)] at h
        exact h)
      clear hO
      go_wp2_with fail
      go_ret
      exact ⟨_, _, _, rfl, unhide E, hb⟩
    have hjE : j < es.length := by rw [unhide L]; exact hlt
    obtain ⟨bE, oE, haE, d0, d1⟩ := ((unhide R).below hb).2 j hjE
    subst haE
    have HU := hide (fun u => l04Under_any es[j].k tu u)
    have FY := hide (fun h => filt_yes (f := fun e => inK fr tu e.k) hjE h)
    have FN := hide (fun h => filt_no (f := fun e => inK fr tu e.k) hjE h)
    generalize hej : es[j] = ej at *
    obtain ⟨ek, ev⟩ := ej
    simp only at d0 d1 HU FY FN
    cases h1 : Op.bytesLess ek.toList fr.toList with
    | true =>
      have K := hide (show EOwns wr w.heap.size (.slice aJ nJ kJ) ((es.take (j + 1)).filter (fun e => inK fr tu e.k)) by
        rw [unhide FN (by rw [inK_parts]; unfold ltK; rw [h1]; rfl)]
        exact unhide hO)
      clear hO hej
      go_wp2_with fail
      go_roundw
      case rel => exact ⟨j + 1, aJ, nJ, kJ, by omega, rfl, by go_num, K, hb⟩
      case measure => simp [intOf]; omega
    | false =>
      cases h2 : underK ek tu with
      | false =>
        rw [h2] at HU
        have K := hide (show EOwns wr w.heap.size (.slice aJ nJ kJ) ((es.take (j + 1)).filter (fun e => inK fr tu e.k)) by
          rw [unhide FN (by rw [inK_parts, h2]; simp)]
          exact unhide hO)
        clear hO hej
        go_wp2_with fail
        refine (unhide HU _).mono ?_
        rintro e w3 ⟨rfl, hw3⟩
        subst w3
        clear HU
        go_wp2_with fail
        go_roundw
        case rel => exact ⟨j + 1, aJ, nJ, kJ, by omega, rfl, by go_num, K, hb⟩
        case measure => simp [intOf]; omega
      | true =>
        rw [h2] at HU
        have hacc : ((es.take j).filter (fun e : EntD => inK fr tu e.k)).length ≤ 1000000 := by
          have h3 := List.length_filter_le (fun e : EntD => inK fr tu e.k) (es.take j)
          rw [List.length_take] at h3
          omega
        obtain ⟨v2, w4, hr, ho, hgr, _⟩ := e_app (d := ⟨ek, ev⟩) (unhide hO) hacc hb.size
        have bA : Below wr.heap.size wr (wr.alloc (.cells #[.string ek, .string ev] 43)) := (Below.refl _ _).alloc (Nat.le_refl _) _
        have b4 : Below w.heap.size w w4 := by
          have b3 := hb.trans (bA.mono hb.size)
          exact b3.trans ((Below.refl _ _).grown hgr b3.size (fun k hk => ((unhide hO).lt k hk).1))
        simp only at hr
        rw [← unhide FY (by rw [inK_parts, h2]; unfold ltK; rw [h1]; rfl)] at ho
        obtain ⟨aV, cV, hV, _⟩ := eowns_slice ho
        have O4 := hide ho
        generalize ((es.take (j + 1)).filter (fun e : EntD => inK fr tu e.k)).length = nV at *
        subst hV
        clear hO hgr ho bA hej hacc
        go_wp2_with fail
        refine (unhide HU _).mono ?_
        rintro e w3 ⟨rfl, hw3⟩
        subst w3
        clear HU
        go_wp2_with (at_builtin; refine wpAppE rfl _ _ 34 rfl _ _ (.slice aV nV cV) w4 rfl rfl hr ?_)
        go_roundw
        case rel => exact ⟨j + 1, aV, nV, cV, by omega, rfl, by go_num, O4, b4⟩
        case measure => simp [intOf]; omega
end Go.Proofs.YtfajenejngddeaaGreat

namespace Go.Proofs.YtfajenejngddeaaGreat
open Go.RowKit

set_option maxRecDepth 100000 in
set_option maxHeartbeats 8000000 in
theorem l06Step_2 (d : VsD) (i : Nat) (key tu val : ByteArray) (l f s : Sl) (hs : List SeH) (w : World) (hI : VzIn w l f s hs d) (hS : SmV d) (hi : i < 4) :
    Calls Tryz.prog 21 #[.agg (vzC d.next l f s), .agg #[.int .i64 2, .int .i64 (i : Int), .string key, .string tu, .string val]] w fun e w' => StRes l f s hs d (stepV d ⟨2, (i : Int), key, tu, val⟩) w e w' := by
  have hz := allocC_size [(vzC d.next l f s, 27), (#[.int .i64 2, .int .i64 (i : Int), .string key, .string tu, .string val], 64), (#[.int .i64 0, .slice none 0 0, .slice none 0 0, .slice none 0 0], 27), (#[.int .i64 0, .int .i64 0, .string ⟨#[]⟩, .slice none 0 0], 60)] w
  have b1 := allocC_bel [(vzC d.next l f s, 27), (#[.int .i64 2, .int .i64 (i : Int), .string key, .string tu, .string val], 64), (#[.int .i64 0, .slice none 0 0, .slice none 0 0, .slice none 0 0], 27), (#[.int .i64 0, .int .i64 0, .string ⟨#[]⟩, .slice none 0 0], 60)] w
  have AT := allocC_at [(vzC d.next l f s, 27), (#[.int .i64 2, .int .i64 (i : Int), .string key, .string tu, .string val], 64), (#[.int .i64 0, .slice none 0 0, .slice none 0 0, .slice none 0 0], 27), (#[.int .i64 0, .int .i64 0, .string ⟨#[]⟩, .slice none 0 0], 60)] w
  obtain ⟨W, hW⟩ : ∃ W, W = allocC w [(vzC d.next l f s, 27), (#[.int .i64 2, .int .i64 (i : Int), .string key, .string tu, .string val], 64), (#[.int .i64 0, .slice none 0 0, .slice none 0 0, .slice none 0 0], 27), (#[.int .i64 0, .int .i64 0, .string ⟨#[]⟩, .slice none 0 0], 60)] := ⟨_, rfl⟩
  rw [← hW] at hz b1 AT
  simp only [List.length_cons, List.length_nil] at hz
  have k0 : W.heap[w.heap.size]? = some (.cells (vzC d.next l f s) 27 (0, 0)) := AT 0 _ _ rfl
  have k1 : W.heap[w.heap.size + 1]? = some (.cells #[.int .i64 2, .int .i64 (i : Int), .string key, .string tu, .string val] 64 (0, 0)) := AT 1 _ _ rfl
  have k2 : W.heap[w.heap.size + 1 + 1]? = some (.cells #[.int .i64 0, .slice none 0 0, .slice none 0 0, .slice none 0 0] 27 (0, 0)) := AT 2 _ _ rfl
  have k3 : W.heap[w.heap.size + 1 + 1 + 1]? = some (.cells #[.int .i64 0, .int .i64 0, .string ⟨#[]⟩, .slice none 0 0] 60 (0, 0)) := AT 3 _ _ rfl
  have hz0 : w.heap.size < W.heap.size := by omega
  have hz1 : w.heap.size + 1 < W.heap.size := by omega
  have hz2 : w.heap.size + 1 + 1 < W.heap.size := by omega
  have hz3 : w.heap.size + 1 + 1 + 1 < W.heap.size := by omega
  unfold allocC allocC allocC allocC allocC at hW
  have CO := hide (l06Own_any d l f s hs W (hI.below b1) (by have := hI.vr.1; have := hS.list; omega) (by have := hI.fr.1; have := hS.fen; omega) (by have := hI.len; have := hS.ses; omega) (fun h hh => by
    obtain ⟨k, hk, rfl⟩ := List.getElem_of_mem hh
    obtain ⟨hd, he⟩ := hI.at hk
    have h1 := (SeIn.row hI.sr hk).1
    have h2 := hS.ws d.ses[k] (List.getElem_mem hd)
    rw [← he] at h2
    omega))
  have BH := hide b1
  have HI := hide hI
  have HS := hide hS
  obtain ⟨la, ln, lc⟩ := l
  obtain ⟨fa, fn, fc⟩ := f
  obtain ⟨sa, sn, sc⟩ := s
  unfold vzC at k0 hW CO ⊢
  simp only at k0 hW CO ⊢
  have K0 := hide k0
  have K1 := hide k1
  have K2 := hide k2
  have K3 := hide k3
  have hnx := hS.nx
  have hi0 : decide ((0 : Int) ≤ (i : Int)) = true := decide_eq_true (by omega)
  have hi3 : decide ((i : Int) ≤ 3) = true := decide_eq_true (by omega)
  have a0 := (heap_at k1 0).1
  have a1 := (heap_at k1 1).1
  have v0 := (heap_at k0 0).1
  have v1 := (heap_at k0 1).1
  have v2 := (heap_at k0 2).1
  have v3 := (heap_at k0 3).1
  clear hI hS hz b1 AT k0 k1 k2 k3
  go_enter Tryz.func21, Tryz.ntmps21
  go_wp2_with (go_at_call 55; refine (l01In_any _ _ _ _).mono ?_; rintro e w9 ⟨rfl, rfl⟩)
  rw [← hW]
  clear hW
  refine (unhide CO).mono ?_
  rintro e w1 ⟨⟨la1, ln1, lc1⟩, ⟨fa1, fn1, fc1⟩, ⟨sa1, sn1, sc1⟩, hs1, rfl, hO, hb1⟩
  clear a0 a1 v0 v1 v2 v3 hi0 hi3 CO
  have hl4 : hs1.length = 4 := by rw [hO.reads.len.2]; exact (unhide HS).ses
  have hih : i < hs1.length := by omega
  obtain ⟨g, hsa, hsn, hgB, hgw, c0, c1, c2, hwo, hid, hxd⟩ := hO.sesAt hih
  simp only at hsa hsn
  rw [hl4] at hsn
  subst hsa hsn
  unfold vzC
  simp only
  have STP := hide (show stepV d ⟨2, (i : Int), key, tu, val⟩ = sesV d ⟨2, (i : Int), key, tu, val⟩ i hs1[i].X by
    unfold stepV
    rw [if_neg (by simp), if_neg (by simp only; omega), hxd]
    congr 1
    rw [show ((i : Nat) : Int).toNat = i by omega, List.getD_eq_getElem?_getD, List.getElem?_eq_getElem hid]
    rfl)
  have XL := hide (show hs1[i].X.ws.length ≤ 8 by rw [hxd]; exact (unhide HS).ws _ (List.getElem_mem hid))
  have SX := hide hxd
  clear hxd
  generalize hx1 : hs1[i] = x at *
  have HX := hide hx1
  clear hx1
  obtain ⟨⟨o, t, wl⟩, ⟨wa, wn, wc⟩⟩ := x
  simp only at c0 c1 c2 hwo STP XL
  have bA : Below w1.heap.size w1 ((w1.alloc (.cells #[.int .i64 d.next, .slice la1 ln1 lc1, .slice fa1 fn1 fc1, .slice (some ⟨g, 0, none⟩) 4 sc1] 27)).alloc (.cells #[.bool o, .int .i64 t, .slice wa wn wc] 93)) := ((Below.refl _ _).alloc (Nat.le_refl _) _).alloc (by simp) _
  obtain ⟨-, k6, k7, z7⟩ := twoBx (w := w1) (c1 := #[.int .i64 d.next, .slice la1 ln1 lc1, .slice fa1 fn1 fc1, .slice (some ⟨g, 0, none⟩) 4 sc1]) (t1 := 27) (c2 := #[.bool o, .int .i64 t, .slice wa wn wc]) (t2 := 93) rfl
  have hW1 := hb1.size
  have NBS := hide (fun q hq => (hO.so.lt q hq).2)
  have NBV := hide (fun q hq => (hO.vo.lt q hq).2)
  have NBF := hide (fun q hq => (hO.fo.lt q hq).2)
  have OU := hide (hO.below bA)
  have BU := hide (hb1.trans (bA.mono hW1))
  have OX := hide (rb_ownsRow_below hwo bA)
  have K6 := hide k6
  have K7 := hide k7
  have hb6 : W.heap.size ≤ w1.heap.size := hW1
  have a1 : (w1.alloc (.cells #[.int .i64 d.next, .slice la1 ln1 lc1, .slice fa1 fn1 fc1, .slice (some ⟨g, 0, none⟩) 4 sc1] 27)).cell? ⟨w.heap.size + 1, 1, none⟩ = some (.int .i64 (i : Int)) := (((Below.refl w1.heap.size w1).alloc (Nat.le_refl _) (.cells #[.int .i64 d.next, .slice la1 ln1 lc1, .slice fa1 fn1 fc1, .slice (some ⟨g, 0, none⟩) 4 sc1] 27)).cell (p := ⟨w.heap.size + 1, 1, none⟩) (by show w.heap.size + 1 < w1.heap.size; omega)).trans ((heap_at ((hb1.block (w.heap.size + 1) hz1).trans (unhide K1)) 1).1)
  have d0 := (((Below.refl w1.heap.size w1).alloc (Nat.le_refl _) (.cells #[.int .i64 d.next, .slice la1 ln1 lc1, .slice fa1 fn1 fc1, .slice (some ⟨g, 0, none⟩) 4 sc1] 27)).cell (p := ⟨g, i * 3, none⟩) hgw).trans c0
  have d1 := (((Below.refl w1.heap.size w1).alloc (Nat.le_refl _) (.cells #[.int .i64 d.next, .slice la1 ln1 lc1, .slice fa1 fn1 fc1, .slice (some ⟨g, 0, none⟩) 4 sc1] 27)).cell (p := ⟨g, i * 3 + 1, none⟩) hgw).trans c1
  have d2 := (((Below.refl w1.heap.size w1).alloc (Nat.le_refl _) (.cells #[.int .i64 d.next, .slice la1 ln1 lc1, .slice fa1 fn1 fc1, .slice (some ⟨g, 0, none⟩) 4 sc1] 27)).cell (p := ⟨g, i * 3 + 2, none⟩) hgw).trans c2
  have hin : (i : Int) < 4 := by omega
  clear hO hwo bA k6 k7 c0 c1 c2 hb1 z7
  go_upto_region 7 with fail
  clear d0 d1 d2 a1 hin
  generalize (w1.alloc (.cells #[.int .i64 d.next, .slice la1 ln1 lc1, .slice fa1 fn1 fc1, .slice (some ⟨g, 0, none⟩) 4 sc1] 27)).alloc (.cells #[.bool o, .int .i64 t, .slice wa wn wc] 93) = u at *
  generalize hb6e : w1.heap.size = b6 at *
  clear hb6e
  cases o with
  | false =>
    have kv := ((unhide BU).block w.heap.size hz0).trans (unhide K0)
    have v0 := (heap_at kv 0).1
    have v1 := (heap_at kv 1).1
    have v2 := (heap_at kv 2).1
    have v3 := (heap_at kv 3).1
    have ka := ((unhide BU).block (w.heap.size + 1) hz1).trans (unhide K1)
    have a0 := (heap_at ka 0).1
    have a1 := (heap_at ka 1).1
    have a2 := (heap_at ka 2).1
    have a3 := (heap_at ka 3).1
    have a4 := (heap_at ka 4).1
    have ky := ((unhide BU).block (w.heap.size + 1 + 1) hz2).trans (unhide K2)
    have y0 := (heap_at ky 0).1
    have y1 := (heap_at ky 1).1
    have y2 := (heap_at ky 2).1
    have y3 := (heap_at ky 3).1
    have yf0 := (heap_at ky 0).2
    have yf1 := (heap_at ky 1).2
    have yf2 := (heap_at ky 2).2
    have yf3 := (heap_at ky 3).2
    have kt := ((unhide BU).block (w.heap.size + 1 + 1 + 1) hz3).trans (unhide K3)
    have t0 := (heap_at kt 0).1
    have t1 := (heap_at kt 1).1
    have t2 := (heap_at kt 2).1
    have t3 := (heap_at kt 3).1
    have tf0 := (heap_at kt 0).2
    have tf1 := (heap_at kt 1).2
    have tf2 := (heap_at kt 2).2
    have tf3 := (heap_at kt 3).2
    have x0 := (heap_at (unhide K7) 0).1
    have RES := hide (show StRes ⟨la, ln, lc⟩ ⟨fa, fn, fc⟩ ⟨sa, sn, sc⟩ hs d (stepV d ⟨2, (i : Int), key, tu, val⟩) w (.returned (.tuple #[.agg #[.int .i64 d.next, .slice la ln lc, .slice fa fn fc, .slice sa sn sc], .agg #[.int .i64 10, .int .i64 0, .string ⟨#[]⟩, .slice none 0 0]])) ((((((((u.setCell ⟨w.heap.size + 1 + 1, 0, none⟩ (.int .i64 d.next)).setCell ⟨w.heap.size + 1 + 1, 1, none⟩ (.slice la ln lc)).setCell ⟨w.heap.size + 1 + 1, 2, none⟩ (.slice fa fn fc)).setCell ⟨w.heap.size + 1 + 1, 3, none⟩ (.slice sa sn sc)).setCell ⟨w.heap.size + 1 + 1 + 1, 0, none⟩ (.int .i64 10)).setCell ⟨w.heap.size + 1 + 1 + 1, 1, none⟩ (.int .i64 0)).setCell ⟨w.heap.size + 1 + 1 + 1, 2, none⟩ (.string ⟨#[]⟩)).setCell ⟨w.heap.size + 1 + 1 + 1, 3, none⟩ (.slice none 0 0)) from st_old (unhide HI) (bel_sv4 (bel_sv4 ((unhide BH).trans ((unhide BU).mono (unhide BH).size)) (by omega) _ _ _ _) (by omega) _ _ _ _) (by rw [unhide STP]; unfold sesV; rw [if_neg (by simp), if_pos rfl]))
    go_wp2_with fail
    refine bodyPost_ret (v := .tuple #[.agg #[.int .i64 d.next, .slice la ln lc, .slice fa fn fc, .slice sa sn sc], .agg #[.int .i64 10, .int .i64 0, .string ⟨#[]⟩, .slice none 0 0]]) (by simp [results, Tryz.results21, go_sem, *]) rfl ?_
    exact unhide RES
  | true =>
    have x0 := (heap_at (unhide K7) 0).1
    have x1 := (heap_at (unhide K7) 1).1
    have ka := ((unhide BU).block (w.heap.size + 1) hz1).trans (unhide K1)
    have a0 := (heap_at ka 0).1
    have bR : Below u.heap.size u (u.alloc (.cells #[.int .i64 0, .int .i64 t, .string ⟨#[]⟩, .slice none 0 0] 60)) := (Below.refl _ _).alloc (Nat.le_refl _) _
    have k8 := heap_alloc_new u (.cells #[.int .i64 0, .int .i64 t, .string ⟨#[]⟩, .slice none 0 0] 60)
    have OR := hide ((unhide OU).below bR)
    have BR := hide ((unhide BU).trans (bR.mono (unhide BU).size))
    have XR := hide (rb_ownsRow_below (unhide OX) bR)
    have K6R := hide ((bR.block b6 (blk_lt (unhide K6))).trans (unhide K6))
    have K7R := hide ((bR.block (b6 + 1) (blk_lt (unhide K7))).trans (unhide K7))
    have K8 := hide k8
    have h78 : b6 + 1 < u.heap.size := blk_lt (unhide K7)
    clear OU BU OX K6 K7 k8 bR ka
    go_upto_region 18 with fail
    clear x0 x1 a0
    generalize u.alloc (.cells #[.int .i64 0, .int .i64 t, .string ⟨#[]⟩, .slice none 0 0] 60) = ur at *
    generalize hb8e : u.heap.size = b8 at *
    clear hb8e
    have ka := ((unhide BR).block (w.heap.size + 1) hz1).trans (unhide K1)
    have a0 := (heap_at ka 0).1
    have a1 := (heap_at ka 1).1
    have a2 := (heap_at ka 2).1
    have a3 := (heap_at ka 3).1
    have a4 := (heap_at ka 4).1
    have CK := hide (fun u => l04Key_any key u)
    have FIT := hide (show fitA ⟨2, (i : Int), key, tu, val⟩ = (keyK key && valK val) by unfold fitA; rw [if_pos (by simp)])
    have STB := hide (show fitA ⟨2, (i : Int), key, tu, val⟩ = false → stepV d ⟨2, (i : Int), key, tu, val⟩ = (d, repV 11 t) from fun h => by rw [unhide STP]; unfold sesV; rw [if_neg (by simp), if_neg (by simp), if_pos h])
    generalize hkk : keyK key = kk at *
    by_cases hok : kk = true ∧ val.size ≤ 100
    case neg =>
      have ST2 := hide (unhide STB (by
        rw [unhide FIT]
        cases kk
        · rfl
        · unfold valK
          rw [decide_eq_false (fun h => hok ⟨rfl, h⟩)]
          rfl))
      clear STB FIT hkk
      cases kk with
      | false =>
        clear hok
        have kvv := ((unhide BR).block w.heap.size hz0).trans (unhide K0)
        have v0 := (heap_at kvv 0).1
        have v1 := (heap_at kvv 1).1
        have v2 := (heap_at kvv 2).1
        have v3 := (heap_at kvv 3).1
        have k7x := (heap_at (unhide K7R) 1).1
        have N2 := hide (((unhide BR).block (w.heap.size + 1 + 1) hz2).trans (unhide K2))
        have N3 := hide (((unhide BR).block (w.heap.size + 1 + 1 + 1) hz3).trans (unhide K3))
        have BF := hide ((unhide BH).trans ((unhide BR).mono (unhide BH).size))
        have h70 : b6 + 1 < ur.heap.size := blk_lt (unhide K7R)
        have h6W : W.heap.size ≤ ur.heap.size := (unhide BR).size
        have LD := hide (show ∀ v : World, (∀ i, i ≠ w.heap.size + 1 + 1 → i ≠ w.heap.size + 1 + 1 + 1 → i < ur.heap.size → v.heap[i]? = ur.heap[i]?) → (fun u => u.cell? ⟨w.heap.size, 0, none⟩ = some (.int .i64 d.next) ∧ u.cell? ⟨w.heap.size, 1, none⟩ = some (.slice la ln lc) ∧ u.cell? ⟨w.heap.size, 2, none⟩ = some (.slice fa fn fc) ∧ u.cell? ⟨w.heap.size, 3, none⟩ = some (.slice sa sn sc) ∧ u.cell? ⟨b6 + 1, 1, none⟩ = some (.int .i64 t)) v from fun v hv => ⟨(World.cell?_of_block (a := ⟨w.heap.size, 0, none⟩) (hv w.heap.size (by omega) (by omega) (by omega))).trans v0, (World.cell?_of_block (a := ⟨w.heap.size, 1, none⟩) (hv w.heap.size (by omega) (by omega) (by omega))).trans v1, (World.cell?_of_block (a := ⟨w.heap.size, 2, none⟩) (hv w.heap.size (by omega) (by omega) (by omega))).trans v2, (World.cell?_of_block (a := ⟨w.heap.size, 3, none⟩) (hv w.heap.size (by omega) (by omega) (by omega))).trans v3, (World.cell?_of_block (a := ⟨b6 + 1, 1, none⟩) (hv (b6 + 1) (by omega) (by omega) h70)).trans k7x⟩)
        clear v0 v1 v2 v3 k7x kvv
        have D0 := hide (show ∀ i, i ≠ w.heap.size + 1 + 1 → i ≠ w.heap.size + 1 + 1 + 1 → i < ur.heap.size → ur.drew.heap[i]? = ur.heap[i]? from fun _ _ _ _ => rfl)
        have ZD0 := hide (show ur.heap.size ≤ ur.drew.heap.size from Nat.le_refl _)
        have BD0 := hide (show Below w.heap.size w ur.drew from (unhide BF).drew)
        replace N2 := hide (show ur.drew.heap[w.heap.size + 1 + 1]? = _ from unhide N2)
        replace N3 := hide (show ur.drew.heap[w.heap.size + 1 + 1 + 1]? = _ from unhide N3)
        go_upto_region 23 with (go_at_call 56; refine (unhide CK _).mono ?_; rintro e w9 ⟨rfl, hw9⟩; subst w9)
        clear a0 a1 a2 a3 a4 CK
        refine wp_region_held_drew (S := (fun u => u.cell? ⟨w.heap.size, 0, none⟩ = some (.int .i64 d.next) ∧ u.cell? ⟨w.heap.size, 1, none⟩ = some (.slice la ln lc) ∧ u.cell? ⟨w.heap.size, 2, none⟩ = some (.slice fa fn fc) ∧ u.cell? ⟨w.heap.size, 3, none⟩ = some (.slice sa sn sc) ∧ u.cell? ⟨b6 + 1, 1, none⟩ = some (.int .i64 t))) (by kernel_rfl) (unhide LD _ (unhide D0)) (fun hHeld => ?_)
        generalize ur.drew = ud at *
        refine anyH_take 0 87 (v := ?v5) rfl rfl (by kernel_rfl) (by kernel_rfl) (by kernel_rfl) (fun _ _ _ h => h) (by rfl) ?h5 hHeld ?r5
        case h5 => (intro w hSw; (try dsimp only at hSw); go_simp; try (with_reducible rfl))
        simp only [Act.put, List.setIfInBounds_toArray, List.set_cons_zero, List.set_cons_succ]
        refine anyH_take 1 88 (v := ?v6) rfl rfl (by kernel_rfl) (by kernel_rfl) (by kernel_rfl) (fun _ _ _ h => h) (by rfl) ?h6 hHeld ?r6
        case h6 => (intro w hSw; (try dsimp only at hSw); go_simp; try (with_reducible rfl))
        simp only [Act.put, List.setIfInBounds_toArray, List.set_cons_zero, List.set_cons_succ]
        refine anyH_take 2 89 (v := ?v7) rfl rfl (by kernel_rfl) (by kernel_rfl) (by kernel_rfl) (fun _ _ _ h => h) (by rfl) ?h7 hHeld ?r7
        case h7 => (intro w hSw; (try dsimp only at hSw); go_simp; try (with_reducible rfl))
        simp only [Act.put, List.setIfInBounds_toArray, List.set_cons_zero, List.set_cons_succ]
        refine anyH_take 3 90 (v := ?v8) rfl rfl (by kernel_rfl) (by kernel_rfl) (by kernel_rfl) (fun _ _ _ h => h) (by rfl) ?h8 hHeld ?r8
        case h8 => (intro w hSw; (try dsimp only at hSw); go_simp; try (with_reducible rfl))
        simp only [Act.put, List.setIfInBounds_toArray, List.set_cons_zero, List.set_cons_succ]
        refine wpAnyH_ready (rs := [4]) (by kernel_rfl) (by simp) ?_
        refine AllReadyH.cons rfl (fun K hK => ?_) AllReadyH.nil
        have c0 := (heap_at (unhide N2) 0).1
        have c1 := (heap_at (unhide N2) 1).1
        have c2 := (heap_at (unhide N2) 2).1
        have c3 := (heap_at (unhide N2) 3).1
        have cf0 := (heap_at (unhide N2) 0).2
        have cf1 := (heap_at (unhide N2) 1).2
        have cf2 := (heap_at (unhide N2) 2).2
        have cf3 := (heap_at (unhide N2) 3).2
        have hw : WrB (fun i => i = w.heap.size + 1 + 1) ud ((((ud.setCell ⟨w.heap.size + 1 + 1, 0, none⟩ (.int .i64 d.next)).setCell ⟨w.heap.size + 1 + 1, 1, none⟩ (.slice la ln lc)).setCell ⟨w.heap.size + 1 + 1, 2, none⟩ (.slice fa fn fc)).setCell ⟨w.heap.size + 1 + 1, 3, none⟩ (.slice sa sn sc)) := sv4_wr ud (w.heap.size + 1 + 1) (.int .i64 d.next) (.slice la ln lc) (.slice fa fn fc) (.slice sa sn sc)
        have D1 := hide (show ∀ i, i ≠ w.heap.size + 1 + 1 → i ≠ w.heap.size + 1 + 1 + 1 → i < ur.heap.size → ((((ud.setCell ⟨w.heap.size + 1 + 1, 0, none⟩ (.int .i64 d.next)).setCell ⟨w.heap.size + 1 + 1, 1, none⟩ (.slice la ln lc)).setCell ⟨w.heap.size + 1 + 1, 2, none⟩ (.slice fa fn fc)).setCell ⟨w.heap.size + 1 + 1, 3, none⟩ (.slice sa sn sc)).heap[i]? = ur.heap[i]? from fun i h1 h2 h3 => (hw.block i (Nat.lt_of_lt_of_le h3 (unhide ZD0)) (by first | exact h1 | exact h2)).trans (unhide D0 i h1 h2 h3))
        have ZD1 := hide (show ur.heap.size ≤ ((((ud.setCell ⟨w.heap.size + 1 + 1, 0, none⟩ (.int .i64 d.next)).setCell ⟨w.heap.size + 1 + 1, 1, none⟩ (.slice la ln lc)).setCell ⟨w.heap.size + 1 + 1, 2, none⟩ (.slice fa fn fc)).setCell ⟨w.heap.size + 1 + 1, 3, none⟩ (.slice sa sn sc)).heap.size from Nat.le_trans (unhide ZD0) hw.size)
        have Ka := hide (show ((((ud.setCell ⟨w.heap.size + 1 + 1, 0, none⟩ (.int .i64 d.next)).setCell ⟨w.heap.size + 1 + 1, 1, none⟩ (.slice la ln lc)).setCell ⟨w.heap.size + 1 + 1, 2, none⟩ (.slice fa fn fc)).setCell ⟨w.heap.size + 1 + 1, 3, none⟩ (.slice sa sn sc)).heap[w.heap.size + 1 + 1]? = some (.cells #[.int .i64 d.next, .slice la ln lc, .slice fa fn fc, .slice sa sn sc] 27 (0, 0)) from sv4_heap (unhide N2) (.int .i64 d.next) (.slice la ln lc) (.slice fa fn fc) (.slice sa sn sc))
        have BD1 := hide (show Below w.heap.size w ((((ud.setCell ⟨w.heap.size + 1 + 1, 0, none⟩ (.int .i64 d.next)).setCell ⟨w.heap.size + 1 + 1, 1, none⟩ (.slice la ln lc)).setCell ⟨w.heap.size + 1 + 1, 2, none⟩ (.slice fa fn fc)).setCell ⟨w.heap.size + 1 + 1, 3, none⟩ (.slice sa sn sc)) from bel_sv4 (unhide BD0) (by omega) (.int .i64 d.next) (.slice la ln lc) (.slice fa fn fc) (.slice sa sn sc))
        have E3 := hide ((hw.block (w.heap.size + 1 + 1 + 1) (blk_lt (unhide N3)) (by omega)).trans (unhide N3))
        clear hw
        go_simp
        refine hK.out _ _ (unhide LD _ (unhide D1)) (fun hHeld => ?_)
        clear hK K
        clear c0 c1 c2 c3 cf0 cf1 cf2 cf3
        generalize ((((ud.setCell ⟨w.heap.size + 1 + 1, 0, none⟩ (.int .i64 d.next)).setCell ⟨w.heap.size + 1 + 1, 1, none⟩ (.slice la ln lc)).setCell ⟨w.heap.size + 1 + 1, 2, none⟩ (.slice fa fn fc)).setCell ⟨w.heap.size + 1 + 1, 3, none⟩ (.slice sa sn sc)) = ue at *
        refine wpAnyH_ready (rs := [5]) (by kernel_rfl) (by simp) ?_
        refine AllReadyH.cons rfl (fun K hK => ?_) AllReadyH.nil
        have c0 := (heap_at (unhide E3) 0).1
        have c1 := (heap_at (unhide E3) 1).1
        have c2 := (heap_at (unhide E3) 2).1
        have c3 := (heap_at (unhide E3) 3).1
        have cf0 := (heap_at (unhide E3) 0).2
        have cf1 := (heap_at (unhide E3) 1).2
        have cf2 := (heap_at (unhide E3) 2).2
        have cf3 := (heap_at (unhide E3) 3).2
        have hw : WrB (fun i => i = w.heap.size + 1 + 1 + 1) ue ((((ue.setCell ⟨w.heap.size + 1 + 1 + 1, 0, none⟩ (.int .i64 11)).setCell ⟨w.heap.size + 1 + 1 + 1, 1, none⟩ (.int .i64 t)).setCell ⟨w.heap.size + 1 + 1 + 1, 2, none⟩ (.string ⟨#[]⟩)).setCell ⟨w.heap.size + 1 + 1 + 1, 3, none⟩ (.slice none 0 0)) := sv4_wr ue (w.heap.size + 1 + 1 + 1) (.int .i64 11) (.int .i64 t) (.string ⟨#[]⟩) (.slice none 0 0)
        have D2 := hide (show ∀ i, i ≠ w.heap.size + 1 + 1 → i ≠ w.heap.size + 1 + 1 + 1 → i < ur.heap.size → ((((ue.setCell ⟨w.heap.size + 1 + 1 + 1, 0, none⟩ (.int .i64 11)).setCell ⟨w.heap.size + 1 + 1 + 1, 1, none⟩ (.int .i64 t)).setCell ⟨w.heap.size + 1 + 1 + 1, 2, none⟩ (.string ⟨#[]⟩)).setCell ⟨w.heap.size + 1 + 1 + 1, 3, none⟩ (.slice none 0 0)).heap[i]? = ur.heap[i]? from fun i h1 h2 h3 => (hw.block i (Nat.lt_of_lt_of_le h3 (unhide ZD1)) (by first | exact h1 | exact h2)).trans (unhide D1 i h1 h2 h3))
        have ZD2 := hide (show ur.heap.size ≤ ((((ue.setCell ⟨w.heap.size + 1 + 1 + 1, 0, none⟩ (.int .i64 11)).setCell ⟨w.heap.size + 1 + 1 + 1, 1, none⟩ (.int .i64 t)).setCell ⟨w.heap.size + 1 + 1 + 1, 2, none⟩ (.string ⟨#[]⟩)).setCell ⟨w.heap.size + 1 + 1 + 1, 3, none⟩ (.slice none 0 0)).heap.size from Nat.le_trans (unhide ZD1) hw.size)
        have Kb := hide (show ((((ue.setCell ⟨w.heap.size + 1 + 1 + 1, 0, none⟩ (.int .i64 11)).setCell ⟨w.heap.size + 1 + 1 + 1, 1, none⟩ (.int .i64 t)).setCell ⟨w.heap.size + 1 + 1 + 1, 2, none⟩ (.string ⟨#[]⟩)).setCell ⟨w.heap.size + 1 + 1 + 1, 3, none⟩ (.slice none 0 0)).heap[w.heap.size + 1 + 1 + 1]? = some (.cells #[.int .i64 11, .int .i64 t, .string ⟨#[]⟩, .slice none 0 0] 60 (0, 0)) from sv4_heap (unhide E3) (.int .i64 11) (.int .i64 t) (.string ⟨#[]⟩) (.slice none 0 0))
        have BD2 := hide (show Below w.heap.size w ((((ue.setCell ⟨w.heap.size + 1 + 1 + 1, 0, none⟩ (.int .i64 11)).setCell ⟨w.heap.size + 1 + 1 + 1, 1, none⟩ (.int .i64 t)).setCell ⟨w.heap.size + 1 + 1 + 1, 2, none⟩ (.string ⟨#[]⟩)).setCell ⟨w.heap.size + 1 + 1 + 1, 3, none⟩ (.slice none 0 0)) from bel_sv4 (unhide BD1) (by omega) (.int .i64 11) (.int .i64 t) (.string ⟨#[]⟩) (.slice none 0 0))
        have Kc := hide ((hw.block (w.heap.size + 1 + 1) (blk_lt (unhide Ka)) (by omega)).trans (unhide Ka))
        clear hw
        go_simp
        refine hK.out _ _ (unhide LD _ (unhide D2)) (fun hHeld => ?_)
        clear hK K
        clear c0 c1 c2 c3 cf0 cf1 cf2 cf3
        generalize ((((ue.setCell ⟨w.heap.size + 1 + 1 + 1, 0, none⟩ (.int .i64 11)).setCell ⟨w.heap.size + 1 + 1 + 1, 1, none⟩ (.int .i64 t)).setCell ⟨w.heap.size + 1 + 1 + 1, 2, none⟩ (.string ⟨#[]⟩)).setCell ⟨w.heap.size + 1 + 1 + 1, 3, none⟩ (.slice none 0 0)) = ug at *
        refine wpAnyH_done (by kernel_rfl) ?_ _
        have r0 := (heap_at (unhide Kc) 0).1
        have r1 := (heap_at (unhide Kc) 1).1
        have r2 := (heap_at (unhide Kc) 2).1
        have r3 := (heap_at (unhide Kc) 3).1
        have q0 := (heap_at (unhide Kb) 0).1
        have q1 := (heap_at (unhide Kb) 1).1
        have q2 := (heap_at (unhide Kb) 2).1
        have q3 := (heap_at (unhide Kb) 3).1
        have RES := hide (show StRes ⟨la, ln, lc⟩ ⟨fa, fn, fc⟩ ⟨sa, sn, sc⟩ hs d (stepV d ⟨2, (i : Int), key, tu, val⟩) w (.returned (.tuple #[.agg #[.int .i64 d.next, .slice la ln lc, .slice fa fn fc, .slice sa sn sc], .agg #[.int .i64 11, .int .i64 t, .string ⟨#[]⟩, .slice none 0 0]])) ug from st_old (unhide HI) (unhide BD2) (unhide ST2))
        clear hHeld LD D0 D1 D2 N2 N3 E3 Ka Kb Kc
        go_wp2_with fail
        refine bodyPost_ret (v := .tuple #[.agg #[.int .i64 d.next, .slice la ln lc, .slice fa fn fc, .slice sa sn sc], .agg #[.int .i64 11, .int .i64 t, .string ⟨#[]⟩, .slice none 0 0]]) (by simp [results, Tryz.results21, go_sem, *]) rfl ?_
        exact unhide RES
      | true =>
        have hvs : ¬ (val.size : Int) ≤ 100 := fun h => hok ⟨rfl, by omega⟩
        have hvd : decide ((100 : Int) < (val.size : Int)) = true := decide_eq_true (by omega)
        have hvn : (100 : Int) < (val.size : Int) := by omega
        clear hok
        have kvv := ((unhide BR).block w.heap.size hz0).trans (unhide K0)
        have v0 := (heap_at kvv 0).1
        have v1 := (heap_at kvv 1).1
        have v2 := (heap_at kvv 2).1
        have v3 := (heap_at kvv 3).1
        have k7x := (heap_at (unhide K7R) 1).1
        have N2 := hide (((unhide BR).block (w.heap.size + 1 + 1) hz2).trans (unhide K2))
        have N3 := hide (((unhide BR).block (w.heap.size + 1 + 1 + 1) hz3).trans (unhide K3))
        have BF := hide ((unhide BH).trans ((unhide BR).mono (unhide BH).size))
        have h70 : b6 + 1 < ur.heap.size := blk_lt (unhide K7R)
        have h6W : W.heap.size ≤ ur.heap.size := (unhide BR).size
        have LD := hide (show ∀ v : World, (∀ i, i ≠ w.heap.size + 1 + 1 → i ≠ w.heap.size + 1 + 1 + 1 → i < ur.heap.size → v.heap[i]? = ur.heap[i]?) → (fun u => u.cell? ⟨w.heap.size, 0, none⟩ = some (.int .i64 d.next) ∧ u.cell? ⟨w.heap.size, 1, none⟩ = some (.slice la ln lc) ∧ u.cell? ⟨w.heap.size, 2, none⟩ = some (.slice fa fn fc) ∧ u.cell? ⟨w.heap.size, 3, none⟩ = some (.slice sa sn sc) ∧ u.cell? ⟨b6 + 1, 1, none⟩ = some (.int .i64 t)) v from fun v hv => ⟨(World.cell?_of_block (a := ⟨w.heap.size, 0, none⟩) (hv w.heap.size (by omega) (by omega) (by omega))).trans v0, (World.cell?_of_block (a := ⟨w.heap.size, 1, none⟩) (hv w.heap.size (by omega) (by omega) (by omega))).trans v1, (World.cell?_of_block (a := ⟨w.heap.size, 2, none⟩) (hv w.heap.size (by omega) (by omega) (by omega))).trans v2, (World.cell?_of_block (a := ⟨w.heap.size, 3, none⟩) (hv w.heap.size (by omega) (by omega) (by omega))).trans v3, (World.cell?_of_block (a := ⟨b6 + 1, 1, none⟩) (hv (b6 + 1) (by omega) (by omega) h70)).trans k7x⟩)
        clear v0 v1 v2 v3 k7x kvv
        have D0 := hide (show ∀ i, i ≠ w.heap.size + 1 + 1 → i ≠ w.heap.size + 1 + 1 + 1 → i < ur.heap.size → ur.drew.heap[i]? = ur.heap[i]? from fun _ _ _ _ => rfl)
        have ZD0 := hide (show ur.heap.size ≤ ur.drew.heap.size from Nat.le_refl _)
        have BD0 := hide (show Below w.heap.size w ur.drew from (unhide BF).drew)
        replace N2 := hide (show ur.drew.heap[w.heap.size + 1 + 1]? = _ from unhide N2)
        replace N3 := hide (show ur.drew.heap[w.heap.size + 1 + 1 + 1]? = _ from unhide N3)
        go_upto_region 23 with (go_at_call 56; refine (unhide CK _).mono ?_; rintro e w9 ⟨rfl, hw9⟩; subst w9)
        clear a0 a1 a2 a3 a4 CK
        refine wp_region_held_drew (S := (fun u => u.cell? ⟨w.heap.size, 0, none⟩ = some (.int .i64 d.next) ∧ u.cell? ⟨w.heap.size, 1, none⟩ = some (.slice la ln lc) ∧ u.cell? ⟨w.heap.size, 2, none⟩ = some (.slice fa fn fc) ∧ u.cell? ⟨w.heap.size, 3, none⟩ = some (.slice sa sn sc) ∧ u.cell? ⟨b6 + 1, 1, none⟩ = some (.int .i64 t))) (by kernel_rfl) (unhide LD _ (unhide D0)) (fun hHeld => ?_)
        generalize ur.drew = ud at *
        refine anyH_take 0 87 (v := ?v9) rfl rfl (by kernel_rfl) (by kernel_rfl) (by kernel_rfl) (fun _ _ _ h => h) (by rfl) ?h9 hHeld ?r9
        case h9 => (intro w hSw; (try dsimp only at hSw); go_simp; try (with_reducible rfl))
        simp only [Act.put, List.setIfInBounds_toArray, List.set_cons_zero, List.set_cons_succ]
        refine anyH_take 1 88 (v := ?v10) rfl rfl (by kernel_rfl) (by kernel_rfl) (by kernel_rfl) (fun _ _ _ h => h) (by rfl) ?h10 hHeld ?r10
        case h10 => (intro w hSw; (try dsimp only at hSw); go_simp; try (with_reducible rfl))
        simp only [Act.put, List.setIfInBounds_toArray, List.set_cons_zero, List.set_cons_succ]
        refine anyH_take 2 89 (v := ?v11) rfl rfl (by kernel_rfl) (by kernel_rfl) (by kernel_rfl) (fun _ _ _ h => h) (by rfl) ?h11 hHeld ?r11
        case h11 => (intro w hSw; (try dsimp only at hSw); go_simp; try (with_reducible rfl))
        simp only [Act.put, List.setIfInBounds_toArray, List.set_cons_zero, List.set_cons_succ]
        refine anyH_take 3 90 (v := ?v12) rfl rfl (by kernel_rfl) (by kernel_rfl) (by kernel_rfl) (fun _ _ _ h => h) (by rfl) ?h12 hHeld ?r12
        case h12 => (intro w hSw; (try dsimp only at hSw); go_simp; try (with_reducible rfl))
        simp only [Act.put, List.setIfInBounds_toArray, List.set_cons_zero, List.set_cons_succ]
        refine wpAnyH_ready (rs := [4]) (by kernel_rfl) (by simp) ?_
        refine AllReadyH.cons rfl (fun K hK => ?_) AllReadyH.nil
        have c0 := (heap_at (unhide N2) 0).1
        have c1 := (heap_at (unhide N2) 1).1
        have c2 := (heap_at (unhide N2) 2).1
        have c3 := (heap_at (unhide N2) 3).1
        have cf0 := (heap_at (unhide N2) 0).2
        have cf1 := (heap_at (unhide N2) 1).2
        have cf2 := (heap_at (unhide N2) 2).2
        have cf3 := (heap_at (unhide N2) 3).2
        have hw : WrB (fun i => i = w.heap.size + 1 + 1) ud ((((ud.setCell ⟨w.heap.size + 1 + 1, 0, none⟩ (.int .i64 d.next)).setCell ⟨w.heap.size + 1 + 1, 1, none⟩ (.slice la ln lc)).setCell ⟨w.heap.size + 1 + 1, 2, none⟩ (.slice fa fn fc)).setCell ⟨w.heap.size + 1 + 1, 3, none⟩ (.slice sa sn sc)) := sv4_wr ud (w.heap.size + 1 + 1) (.int .i64 d.next) (.slice la ln lc) (.slice fa fn fc) (.slice sa sn sc)
        have D1 := hide (show ∀ i, i ≠ w.heap.size + 1 + 1 → i ≠ w.heap.size + 1 + 1 + 1 → i < ur.heap.size → ((((ud.setCell ⟨w.heap.size + 1 + 1, 0, none⟩ (.int .i64 d.next)).setCell ⟨w.heap.size + 1 + 1, 1, none⟩ (.slice la ln lc)).setCell ⟨w.heap.size + 1 + 1, 2, none⟩ (.slice fa fn fc)).setCell ⟨w.heap.size + 1 + 1, 3, none⟩ (.slice sa sn sc)).heap[i]? = ur.heap[i]? from fun i h1 h2 h3 => (hw.block i (Nat.lt_of_lt_of_le h3 (unhide ZD0)) (by first | exact h1 | exact h2)).trans (unhide D0 i h1 h2 h3))
        have ZD1 := hide (show ur.heap.size ≤ ((((ud.setCell ⟨w.heap.size + 1 + 1, 0, none⟩ (.int .i64 d.next)).setCell ⟨w.heap.size + 1 + 1, 1, none⟩ (.slice la ln lc)).setCell ⟨w.heap.size + 1 + 1, 2, none⟩ (.slice fa fn fc)).setCell ⟨w.heap.size + 1 + 1, 3, none⟩ (.slice sa sn sc)).heap.size from Nat.le_trans (unhide ZD0) hw.size)
        have Ka := hide (show ((((ud.setCell ⟨w.heap.size + 1 + 1, 0, none⟩ (.int .i64 d.next)).setCell ⟨w.heap.size + 1 + 1, 1, none⟩ (.slice la ln lc)).setCell ⟨w.heap.size + 1 + 1, 2, none⟩ (.slice fa fn fc)).setCell ⟨w.heap.size + 1 + 1, 3, none⟩ (.slice sa sn sc)).heap[w.heap.size + 1 + 1]? = some (.cells #[.int .i64 d.next, .slice la ln lc, .slice fa fn fc, .slice sa sn sc] 27 (0, 0)) from sv4_heap (unhide N2) (.int .i64 d.next) (.slice la ln lc) (.slice fa fn fc) (.slice sa sn sc))
        have BD1 := hide (show Below w.heap.size w ((((ud.setCell ⟨w.heap.size + 1 + 1, 0, none⟩ (.int .i64 d.next)).setCell ⟨w.heap.size + 1 + 1, 1, none⟩ (.slice la ln lc)).setCell ⟨w.heap.size + 1 + 1, 2, none⟩ (.slice fa fn fc)).setCell ⟨w.heap.size + 1 + 1, 3, none⟩ (.slice sa sn sc)) from bel_sv4 (unhide BD0) (by omega) (.int .i64 d.next) (.slice la ln lc) (.slice fa fn fc) (.slice sa sn sc))
        have E3 := hide ((hw.block (w.heap.size + 1 + 1 + 1) (blk_lt (unhide N3)) (by omega)).trans (unhide N3))
        clear hw
        go_simp
        refine hK.out _ _ (unhide LD _ (unhide D1)) (fun hHeld => ?_)
        clear hK K
        clear c0 c1 c2 c3 cf0 cf1 cf2 cf3
        generalize ((((ud.setCell ⟨w.heap.size + 1 + 1, 0, none⟩ (.int .i64 d.next)).setCell ⟨w.heap.size + 1 + 1, 1, none⟩ (.slice la ln lc)).setCell ⟨w.heap.size + 1 + 1, 2, none⟩ (.slice fa fn fc)).setCell ⟨w.heap.size + 1 + 1, 3, none⟩ (.slice sa sn sc)) = ue at *
        refine wpAnyH_ready (rs := [5]) (by kernel_rfl) (by simp) ?_
        refine AllReadyH.cons rfl (fun K hK => ?_) AllReadyH.nil
        have c0 := (heap_at (unhide E3) 0).1
        have c1 := (heap_at (unhide E3) 1).1
        have c2 := (heap_at (unhide E3) 2).1
        have c3 := (heap_at (unhide E3) 3).1
        have cf0 := (heap_at (unhide E3) 0).2
        have cf1 := (heap_at (unhide E3) 1).2
        have cf2 := (heap_at (unhide E3) 2).2
        have cf3 := (heap_at (unhide E3) 3).2
        have hw : WrB (fun i => i = w.heap.size + 1 + 1 + 1) ue ((((ue.setCell ⟨w.heap.size + 1 + 1 + 1, 0, none⟩ (.int .i64 11)).setCell ⟨w.heap.size + 1 + 1 + 1, 1, none⟩ (.int .i64 t)).setCell ⟨w.heap.size + 1 + 1 + 1, 2, none⟩ (.string ⟨#[]⟩)).setCell ⟨w.heap.size + 1 + 1 + 1, 3, none⟩ (.slice none 0 0)) := sv4_wr ue (w.heap.size + 1 + 1 + 1) (.int .i64 11) (.int .i64 t) (.string ⟨#[]⟩) (.slice none 0 0)
        have D2 := hide (show ∀ i, i ≠ w.heap.size + 1 + 1 → i ≠ w.heap.size + 1 + 1 + 1 → i < ur.heap.size → ((((ue.setCell ⟨w.heap.size + 1 + 1 + 1, 0, none⟩ (.int .i64 11)).setCell ⟨w.heap.size + 1 + 1 + 1, 1, none⟩ (.int .i64 t)).setCell ⟨w.heap.size + 1 + 1 + 1, 2, none⟩ (.string ⟨#[]⟩)).setCell ⟨w.heap.size + 1 + 1 + 1, 3, none⟩ (.slice none 0 0)).heap[i]? = ur.heap[i]? from fun i h1 h2 h3 => (hw.block i (Nat.lt_of_lt_of_le h3 (unhide ZD1)) (by first | exact h1 | exact h2)).trans (unhide D1 i h1 h2 h3))
        have ZD2 := hide (show ur.heap.size ≤ ((((ue.setCell ⟨w.heap.size + 1 + 1 + 1, 0, none⟩ (.int .i64 11)).setCell ⟨w.heap.size + 1 + 1 + 1, 1, none⟩ (.int .i64 t)).setCell ⟨w.heap.size + 1 + 1 + 1, 2, none⟩ (.string ⟨#[]⟩)).setCell ⟨w.heap.size + 1 + 1 + 1, 3, none⟩ (.slice none 0 0)).heap.size from Nat.le_trans (unhide ZD1) hw.size)
        have Kb := hide (show ((((ue.setCell ⟨w.heap.size + 1 + 1 + 1, 0, none⟩ (.int .i64 11)).setCell ⟨w.heap.size + 1 + 1 + 1, 1, none⟩ (.int .i64 t)).setCell ⟨w.heap.size + 1 + 1 + 1, 2, none⟩ (.string ⟨#[]⟩)).setCell ⟨w.heap.size + 1 + 1 + 1, 3, none⟩ (.slice none 0 0)).heap[w.heap.size + 1 + 1 + 1]? = some (.cells #[.int .i64 11, .int .i64 t, .string ⟨#[]⟩, .slice none 0 0] 60 (0, 0)) from sv4_heap (unhide E3) (.int .i64 11) (.int .i64 t) (.string ⟨#[]⟩) (.slice none 0 0))
        have BD2 := hide (show Below w.heap.size w ((((ue.setCell ⟨w.heap.size + 1 + 1 + 1, 0, none⟩ (.int .i64 11)).setCell ⟨w.heap.size + 1 + 1 + 1, 1, none⟩ (.int .i64 t)).setCell ⟨w.heap.size + 1 + 1 + 1, 2, none⟩ (.string ⟨#[]⟩)).setCell ⟨w.heap.size + 1 + 1 + 1, 3, none⟩ (.slice none 0 0)) from bel_sv4 (unhide BD1) (by omega) (.int .i64 11) (.int .i64 t) (.string ⟨#[]⟩) (.slice none 0 0))
        have Kc := hide ((hw.block (w.heap.size + 1 + 1) (blk_lt (unhide Ka)) (by omega)).trans (unhide Ka))
        clear hw
        go_simp
        refine hK.out _ _ (unhide LD _ (unhide D2)) (fun hHeld => ?_)
        clear hK K
        clear c0 c1 c2 c3 cf0 cf1 cf2 cf3
        generalize ((((ue.setCell ⟨w.heap.size + 1 + 1 + 1, 0, none⟩ (.int .i64 11)).setCell ⟨w.heap.size + 1 + 1 + 1, 1, none⟩ (.int .i64 t)).setCell ⟨w.heap.size + 1 + 1 + 1, 2, none⟩ (.string ⟨#[]⟩)).setCell ⟨w.heap.size + 1 + 1 + 1, 3, none⟩ (.slice none 0 0)) = ug at *
        refine wpAnyH_done (by kernel_rfl) ?_ _
        have r0 := (heap_at (unhide Kc) 0).1
        have r1 := (heap_at (unhide Kc) 1).1
        have r2 := (heap_at (unhide Kc) 2).1
        have r3 := (heap_at (unhide Kc) 3).1
        have q0 := (heap_at (unhide Kb) 0).1
        have q1 := (heap_at (unhide Kb) 1).1
        have q2 := (heap_at (unhide Kb) 2).1
        have q3 := (heap_at (unhide Kb) 3).1
        have RES := hide (show StRes ⟨la, ln, lc⟩ ⟨fa, fn, fc⟩ ⟨sa, sn, sc⟩ hs d (stepV d ⟨2, (i : Int), key, tu, val⟩) w (.returned (.tuple #[.agg #[.int .i64 d.next, .slice la ln lc, .slice fa fn fc, .slice sa sn sc], .agg #[.int .i64 11, .int .i64 t, .string ⟨#[]⟩, .slice none 0 0]])) ug from st_old (unhide HI) (unhide BD2) (unhide ST2))
        clear hHeld LD D0 D1 D2 N2 N3 E3 Ka Kb Kc
        go_wp2_with fail
        refine bodyPost_ret (v := .tuple #[.agg #[.int .i64 d.next, .slice la ln lc, .slice fa fn fc, .slice sa sn sc], .agg #[.int .i64 11, .int .i64 t, .string ⟨#[]⟩, .slice none 0 0]]) (by simp [results, Tryz.results21, go_sem, *]) rfl ?_
        exact unhide RES
    obtain ⟨rfl, hvs⟩ := hok
    have hvn : ¬ (100 : Int) < (val.size : Int) := by omega
    have hvd : decide ((100 : Int) < (val.size : Int)) = false := decide_eq_false hvn
    have STG := hide (show stepV d ⟨2, (i : Int), key, tu, val⟩ = (⟨d.next, d.list, d.fen ++ [⟨key, nulK key, t⟩], d.ses⟩, getR (seenV d ⟨true, t, wl⟩) key t) by
      rw [unhide STP]
      unfold sesV
      rw [if_neg (by simp), if_neg (by simp), if_neg (by rw [unhide FIT]; unfold valK; rw [decide_eq_true hvs]; simp)]
      unfold inV
      rw [if_pos rfl]
      unfold fenV
      rw [if_neg (by have := (unhide HS).fen; omega)])
    have hcc : ¬ 9223372036854775807 < key.size + 1 := by
      unfold keyK at hkk
      have := of_decide_eq_true hkk
      omega
    clear STB FIT hkk hvs
    have kv := ((unhide BR).block w.heap.size hz0).trans (unhide K0)
    have v0 := (heap_at kv 0).1
    have v1 := (heap_at kv 1).1
    have v2 := (heap_at kv 2).1
    have v3 := (heap_at kv 3).1
    have x0 := (heap_at (unhide K7R) 0).1
    have x1 := (heap_at (unhide K7R) 1).1
    have x2 := (heap_at (unhide K7R) 2).1
    have CS := hide (l06Seen_any d.next ⟨la, ln, lc⟩ ⟨fa, fn, fc⟩ ⟨sa, sn, sc⟩ ⟨wa, wn, wc⟩ d ⟨true, t, wl⟩ ur ((unhide HI).vr.below ((unhide BH).trans ((unhide BR).mono (unhide BH).size))) (vrow_of_owns (unhide XR)) (by have := (unhide HS).list; have := unhide XL; show d.list.length + wl.length ≤ 1000; omega))
    unfold vzC sesC at CS
    simp only at CS
    have hurW := (unhide BR).size
    clear ka kv
    go_wp2_with (go_at_call 56; refine (unhide CK _).mono ?_; rintro e w9 ⟨rfl, hw9⟩; subst w9)
    clear a0 a1 a2 a3 a4 v0 v1 v2 v3 x0 x1 x2 CK
    refine (unhide CS).mono ?_
    rintro e w3 ⟨g9, k9, rfl, o9, b9⟩
    clear CS
    have hnb : (seenV d ⟨true, t, wl⟩).length ≤ 1000 := by
      have h1 := seenTo_len d ⟨true, t, wl⟩ _ (Nat.le_refl _)
      rw [seenTo_all] at h1
      have h2 := (unhide HS).list
      have h3 := unhide XL
      simp only at h1
      omega
    generalize seenV d ⟨true, t, wl⟩ = es at *
    obtain ⟨nn, hnn⟩ : ∃ nn, nn = es.length := ⟨_, rfl⟩
    rw [← hnn] at o9 hnb ⊢
    have LN := hide hnn.symm
    clear hnn
    have k8 := (b9.block b8 (blk_lt (unhide K8))).trans (unhide K8)
    have p0 := (heap_at k8 0).1
    have pf0 := (heap_at k8 0).2
    have B3 := hide ((unhide BR).trans (b9.mono hurW))
    have O3 := hide ((unhide OR).below b9)
    have K63 := hide ((b9.block b6 (blk_lt (unhide K6R))).trans (unhide K6R))
    have K73 := hide ((b9.block (b6 + 1) (blk_lt (unhide K7R))).trans (unhide K7R))
    have OE := hide (show EOwns w3 ur.heap.size (.slice (some ⟨g9, 0, none⟩) nn k9) es from o9)
    have K83 := hide k8
    have KR0 := hide (show (w3.setCell ⟨b8, 0, none⟩ (.int .i64 5)).heap[b8]? = some (.cells #[.int .i64 (getR (es.take 0) key t).code, .int .i64 t, .string (getR (es.take 0) key t).val, .slice none 0 0] 60 (0, 0)) by have := heap_set k8 0 (.int .i64 5); simpa [getR] using this)
    have W0 := hide (set1_wr w3 b8 0 (.int .i64 5))
    have hge8 : W.heap.size ≤ b8 := by omega
    clear b9 o9 k8 OR BR XR K6R K7R K8
    go_upto_region 31 with fail
    clear p0 pf0
    generalize w3.setCell ⟨b8, 0, none⟩ (.int .i64 5) = u0 at *
    go_wp2_with fail
    go_loopw [10] (fun iv wr => ∃ (j : Nat), iv = .int .i64 (j : Int) ∧ j ≤ nn ∧ Hid (wr.heap[b8]? = some (.cells #[.int .i64 (getR (es.take j) key t).code, .int .i64 t, .string (getR (es.take j) key t).val, .slice none 0 0] 60 (0, 0))) ∧ Hid (WrB (fun k => k = b8) w3 wr)) (fun iv _ => nn - (intOf iv).toNat)
    case atStart => exact ⟨0, rfl, Nat.zero_le _, KR0, W0⟩
    case round =>
      clear KR0 W0
      obtain ⟨j, rfl, hj, hR, hWr⟩ := hrel
      have ka := ((unhide hWr).block (w.heap.size + 1) (Nat.lt_of_lt_of_le hz1 (unhide B3).size) (by omega)).trans (((unhide B3).block (w.heap.size + 1) hz1).trans (unhide K1))
      have a2 := (heap_at ka 2).1
      by_cases hlt : j < nn
      · have hj2 : j < es.length := by rw [unhide LN]; exact hlt
        have hkn : (j : Int) < (nn : Int) := by omega
        have OEr := own_keep (unhide OE) (unhide K83) (by decide) (unhide hWr)
        obtain ⟨b, off, he, d0, d1⟩ := (erow_of_owns OEr).2 j hj2
        injection he with he
        injection he with he1 he2 _
        subst he1 he2
        rw [Nat.zero_add] at d0 d1
        have GS := hide (show getR (es.take (j + 1)) key t = if es[j].k = key then ⟨0, t, es[j].v, []⟩ else getR (es.take j) key t by rw [takeG_snoc es j hj2, getR_snoc])
        generalize es[j] = pe at *
        obtain ⟨pk, pv⟩ := pe
        simp only at d0 d1 GS
        clear ka OEr
        have bD : ∀ q, WrB (fun k => k = b8) w3 (wr.drewN q) := fun q => ⟨(unhide hWr).os, (unhide hWr).tape, (unhide hWr).output, (unhide hWr).size, (unhide hWr).block⟩
        have BDH := hide bD
        clear bD
        by_cases hke : pk = key
        · have hkb : (pk.toList == key.toList) = true := by rw [hke]; simp
          have GT := hide (show getR (es.take (j + 1)) key t = ⟨0, t, pv, []⟩ by rw [unhide GS, if_pos hke])
          clear hke GS
          go_wp2_with fail
          go_quiet (fail)
          have BD := hide (unhide BDH nq)
          have HRq := hide (show (wr.drewN nq).heap[b8]? = _ from unhide hR)
          have p0q := (heap_at (unhide HRq) 0).1
          have pf0q := (heap_at (unhide HRq) 0).2
          have KN0 := heap_set (unhide HRq) 0 (.int .i64 0)
          have p2q := (heap_at KN0 2).1
          have pf2q := (heap_at KN0 2).2
          have d1q : (wr.drewN nq).cell? ⟨g9, j * 2 + 1, none⟩ = some (.string pv) := d1
          have hg9 : g9 ≠ b8 := fun e => by
            have h := own_box (unhide OE) (unhide K83) (by decide)
            exact h (by rw [e]; rfl)
          clear BDH d0 d1 a2 hR hWr KN0
          generalize wr.drewN nq = wq at *
          have d1r : (wq.setCell ⟨b8, 0, none⟩ (.int .i64 0)).cell? ⟨g9, j * 2 + 1, none⟩ = some (.string pv) := (World.cell?_of_block (a := ⟨g9, j * 2 + 1, none⟩) (Below.heap_setCell wq ⟨b8, 0, none⟩ (.int .i64 0) g9 hg9)).trans d1q
          have KN := hide (show ((wq.setCell ⟨b8, 0, none⟩ (.int .i64 0)).setCell ⟨b8, 2, none⟩ (.string pv)).heap[b8]? = some (.cells #[.int .i64 (getR (es.take (j + 1)) key t).code, .int .i64 t, .string (getR (es.take (j + 1)) key t).val, .slice none 0 0] 60 (0, 0)) by
            rw [unhide GT]
            have h1 := heap_set (unhide HRq) 0 (.int .i64 0)
            have h2 := heap_set h1 2 (.string pv)
            simpa using h2)
          have WN := hide ((unhide BD).seq ((set1_wr wq b8 0 (.int .i64 0)).seq (set1_wr _ b8 2 (.string pv))))
          clear BD HRq GT
          go_wp2_with fail
          go_roundw
          case rel => exact ⟨j + 1, by go_num, by omega, KN, WN⟩
          case measure => simp [intOf]; omega
        · have hkb : (pk.toList == key.toList) = false := by simpa using fun e => hke (toList_inj e)
          have KN := hide (show wr.heap[b8]? = some (.cells #[.int .i64 (getR (es.take (j + 1)) key t).code, .int .i64 t, .string (getR (es.take (j + 1)) key t).val, .slice none 0 0] 60 (0, 0)) by rw [unhide GS, if_neg hke]; exact unhide hR)
          clear hke GS hR
          go_wp2_with fail
          go_quiet (fail)
          have BD := hide (unhide BDH nq)
          have KNq := hide (show (wr.drewN nq).heap[b8]? = _ from unhide KN)
          clear BDH KN a2 d0 d1 hWr
          go_wp2_with fail
          go_roundw
          case rel => exact ⟨j + 1, by go_num, by omega, KNq, BD⟩
          case measure => simp [intOf]; omega
      · obtain rfl : nn = j := by omega
        have ht : es.take nn = es := List.take_of_length_le (by rw [unhide LN]; exact Nat.le_refl _)
        rw [ht] at hR
        have BUX := hide ((unhide B3).trans (WrB.below (unhide hWr) (fun k e => by rw [e]; exact hge8) (unhide B3).size))
        have OUX := hide ((unhide O3).box (unhide K83) (by decide) (by decide) (by decide) (unhide hWr))
        have kv := ((unhide BUX).block w.heap.size hz0).trans (unhide K0)
        have k6 := ((unhide hWr).block b6 (blk_lt (unhide K63)) (by omega)).trans (unhide K63)
        have k7 := ((unhide hWr).block (b6 + 1) (blk_lt (unhide K73)) (by omega)).trans (unhide K73)
        have v0 := (heap_at kv 0).1
        have v1 := (heap_at kv 1).1
        have v2 := (heap_at kv 2).1
        have v3 := (heap_at kv 3).1
        have z0 := (heap_at k6 0).1
        have z1 := (heap_at k6 1).1
        have z2 := (heap_at k6 2).1
        have z3 := (heap_at k6 3).1
        have x1 := (heap_at k7 1).1
        have p0 := (heap_at (unhide hR) 0).1
        have p1 := (heap_at (unhide hR) 1).1
        have p2 := (heap_at (unhide hR) 2).1
        have p3 := (heap_at (unhide hR) 3).1
        have GT := hide (getR_time es key t)
        have CF := hide (l06Fence_any W.heap.size d ⟨la1, ln1, lc1⟩ ⟨fa1, fn1, fc1⟩ ⟨some ⟨g, 0, none⟩, 4, sc1⟩ hs1 ⟨key, nulK key, t⟩ ⟨(getR es key t).code, t, (getR es key t).val, []⟩ ⟨none, 0, 0⟩ d.next ⟨la, ln, lc⟩ ⟨fa, fn, fc⟩ ⟨sa, sn, sc⟩ wr (unhide OUX) (unhide BUX).size (unhide HS).fen)
        unfold vzC repC fv at CF
        simp only at CF
        have NK : nulK key = key ++ ⟨#[0]⟩ := rfl
        clear kv k6 k7 ht hR hWr O3 OE B3 K63 K73 K83 ka
        generalize hGC : (getR es key t).code = gc at *
        generalize hGV : (getR es key t).val = gv at *
        have HGC := hide hGC
        have HGV := hide hGV
        clear hGC hGV NK
        go_wp2_with fail
        clear v0 v1 v2 v3 z0 z1 z2 z3 x1 p0 p1 p2 p3 a2
        refine (unhide CF).mono ?_
        rintro e w6 ⟨⟨fa6, fn6, fc6⟩, rfl, hO6, hB6, hW6⟩
        have B6 := hide ((unhide BUX).trans hB6)
        have ky := ((unhide B6).block (w.heap.size + 1 + 1) hz2).trans (unhide K2)
        have kt := ((unhide B6).block (w.heap.size + 1 + 1 + 1) hz3).trans (unhide K3)
        have y0 := (heap_at ky 0).1
        have y1 := (heap_at ky 1).1
        have y2 := (heap_at ky 2).1
        have y3 := (heap_at ky 3).1
        have yf0 := (heap_at ky 0).2
        have yf1 := (heap_at ky 1).2
        have yf2 := (heap_at ky 2).2
        have yf3 := (heap_at ky 3).2
        have tt0 := (heap_at kt 0).1
        have tt1 := (heap_at kt 1).1
        have tt2 := (heap_at kt 2).1
        have tt3 := (heap_at kt 3).1
        have ttf0 := (heap_at kt 0).2
        have ttf1 := (heap_at kt 1).2
        have ttf2 := (heap_at kt 2).2
        have ttf3 := (heap_at kt 3).2
        have hwy : WrB (fun i => i = w.heap.size + 1 + 1) w6 ((((w6.setCell ⟨w.heap.size + 1 + 1, 0, none⟩ (.int .i64 d.next)).setCell ⟨w.heap.size + 1 + 1, 1, none⟩ (.slice la1 ln1 lc1)).setCell ⟨w.heap.size + 1 + 1, 2, none⟩ (.slice fa6 fn6 fc6)).setCell ⟨w.heap.size + 1 + 1, 3, none⟩ (.slice (some ⟨g, 0, none⟩) 4 sc1)) := sv4_wr w6 (w.heap.size + 1 + 1) (.int .i64 d.next) (.slice la1 ln1 lc1) (.slice fa6 fn6 fc6) (.slice (some ⟨g, 0, none⟩) 4 sc1)
        have hwt : WrB (fun i => i = w.heap.size + 1 + 1 + 1) ((((w6.setCell ⟨w.heap.size + 1 + 1, 0, none⟩ (.int .i64 d.next)).setCell ⟨w.heap.size + 1 + 1, 1, none⟩ (.slice la1 ln1 lc1)).setCell ⟨w.heap.size + 1 + 1, 2, none⟩ (.slice fa6 fn6 fc6)).setCell ⟨w.heap.size + 1 + 1, 3, none⟩ (.slice (some ⟨g, 0, none⟩) 4 sc1)) ((((((((w6.setCell ⟨w.heap.size + 1 + 1, 0, none⟩ (.int .i64 d.next)).setCell ⟨w.heap.size + 1 + 1, 1, none⟩ (.slice la1 ln1 lc1)).setCell ⟨w.heap.size + 1 + 1, 2, none⟩ (.slice fa6 fn6 fc6)).setCell ⟨w.heap.size + 1 + 1, 3, none⟩ (.slice (some ⟨g, 0, none⟩) 4 sc1)).setCell ⟨w.heap.size + 1 + 1 + 1, 0, none⟩ (.int .i64 gc)).setCell ⟨w.heap.size + 1 + 1 + 1, 1, none⟩ (.int .i64 t)).setCell ⟨w.heap.size + 1 + 1 + 1, 2, none⟩ (.string gv)).setCell ⟨w.heap.size + 1 + 1 + 1, 3, none⟩ (.slice none 0 0)) := sv4_wr _ (w.heap.size + 1 + 1 + 1) (.int .i64 gc) (.int .i64 t) (.string gv) (.slice none 0 0)
        have BG := hide (show Below w.heap.size w ((((((((w6.setCell ⟨w.heap.size + 1 + 1, 0, none⟩ (.int .i64 d.next)).setCell ⟨w.heap.size + 1 + 1, 1, none⟩ (.slice la1 ln1 lc1)).setCell ⟨w.heap.size + 1 + 1, 2, none⟩ (.slice fa6 fn6 fc6)).setCell ⟨w.heap.size + 1 + 1, 3, none⟩ (.slice (some ⟨g, 0, none⟩) 4 sc1)).setCell ⟨w.heap.size + 1 + 1 + 1, 0, none⟩ (.int .i64 gc)).setCell ⟨w.heap.size + 1 + 1 + 1, 1, none⟩ (.int .i64 t)).setCell ⟨w.heap.size + 1 + 1 + 1, 2, none⟩ (.string gv)).setCell ⟨w.heap.size + 1 + 1 + 1, 3, none⟩ (.slice none 0 0)) from bel_sv4 (bel_sv4 ((unhide BH).trans ((unhide B6).mono (unhide BH).size)) (by omega) _ _ _ _) (by omega) _ _ _ _)
        have OG := (hO6.wr hwy (fun i e => by rw [e]; exact hz2)).wr hwt (fun i e => by rw [e]; exact hz3)
        have RES := hide (show StRes ⟨la, ln, lc⟩ ⟨fa, fn, fc⟩ ⟨sa, sn, sc⟩ hs d (stepV d ⟨2, (i : Int), key, tu, val⟩) w (.returned (.tuple #[.agg #[.int .i64 d.next, .slice la1 ln1 lc1, .slice fa6 fn6 fc6, .slice (some ⟨g, 0, none⟩) 4 sc1], .agg #[.int .i64 gc, .int .i64 t, .string gv, .slice none 0 0]])) ((((((((w6.setCell ⟨w.heap.size + 1 + 1, 0, none⟩ (.int .i64 d.next)).setCell ⟨w.heap.size + 1 + 1, 1, none⟩ (.slice la1 ln1 lc1)).setCell ⟨w.heap.size + 1 + 1, 2, none⟩ (.slice fa6 fn6 fc6)).setCell ⟨w.heap.size + 1 + 1, 3, none⟩ (.slice (some ⟨g, 0, none⟩) 4 sc1)).setCell ⟨w.heap.size + 1 + 1 + 1, 0, none⟩ (.int .i64 gc)).setCell ⟨w.heap.size + 1 + 1 + 1, 1, none⟩ (.int .i64 t)).setCell ⟨w.heap.size + 1 + 1 + 1, 2, none⟩ (.string gv)).setCell ⟨w.heap.size + 1 + 1 + 1, 3, none⟩ (.slice none 0 0)) from (by
          rw [unhide STG]
          exact ⟨⟨la1, ln1, lc1⟩, ⟨fa6, fn6, fc6⟩, ⟨some ⟨g, 0, none⟩, 4, sc1⟩, hs1, ⟨none, 0, 0⟩, by rw [unhide HGC, unhide HGV, (unhide GT).1], (.inr (OG.dn (Nat.le_of_lt hz0))), by rw [(unhide GT).2]; exact World.ownsRow_nil _ _ _ _, unhide BG⟩))
        clear hwy hwt OG ky kt hO6 hB6 hW6
        go_wp2_with fail
        refine bodyPost_ret (v := .tuple #[.agg #[.int .i64 d.next, .slice la1 ln1 lc1, .slice fa6 fn6 fc6, .slice (some ⟨g, 0, none⟩) 4 sc1], .agg #[.int .i64 gc, .int .i64 t, .string gv, .slice none 0 0]]) (by simp [results, Tryz.results21, go_sem, *]) rfl ?_
        exact unhide RES
end Go.Proofs.YtfajenejngddeaaGreat

namespace Go.Proofs.YtfajenejngddeaaGreat
open Go.RowKit

set_option maxRecDepth 100000 in
set_option maxHeartbeats 8000000 in
theorem l06Step_3 (d : VsD) (i : Nat) (key tu val : ByteArray) (l f s : Sl) (hs : List SeH) (w : World) (hI : VzIn w l f s hs d) (hS : SmV d) (hi : i < 4) :
    Calls Tryz.prog 21 #[.agg (vzC d.next l f s), .agg #[.int .i64 3, .int .i64 (i : Int), .string key, .string tu, .string val]] w fun e w' => StRes l f s hs d (stepV d ⟨3, (i : Int), key, tu, val⟩) w e w' := by
  have hz := allocC_size [(vzC d.next l f s, 27), (#[.int .i64 3, .int .i64 (i : Int), .string key, .string tu, .string val], 64), (#[.int .i64 0, .slice none 0 0, .slice none 0 0, .slice none 0 0], 27), (#[.int .i64 0, .int .i64 0, .string ⟨#[]⟩, .slice none 0 0], 60)] w
  have b1 := allocC_bel [(vzC d.next l f s, 27), (#[.int .i64 3, .int .i64 (i : Int), .string key, .string tu, .string val], 64), (#[.int .i64 0, .slice none 0 0, .slice none 0 0, .slice none 0 0], 27), (#[.int .i64 0, .int .i64 0, .string ⟨#[]⟩, .slice none 0 0], 60)] w
  have AT := allocC_at [(vzC d.next l f s, 27), (#[.int .i64 3, .int .i64 (i : Int), .string key, .string tu, .string val], 64), (#[.int .i64 0, .slice none 0 0, .slice none 0 0, .slice none 0 0], 27), (#[.int .i64 0, .int .i64 0, .string ⟨#[]⟩, .slice none 0 0], 60)] w
  obtain ⟨W, hW⟩ : ∃ W, W = allocC w [(vzC d.next l f s, 27), (#[.int .i64 3, .int .i64 (i : Int), .string key, .string tu, .string val], 64), (#[.int .i64 0, .slice none 0 0, .slice none 0 0, .slice none 0 0], 27), (#[.int .i64 0, .int .i64 0, .string ⟨#[]⟩, .slice none 0 0], 60)] := ⟨_, rfl⟩
  rw [← hW] at hz b1 AT
  simp only [List.length_cons, List.length_nil] at hz
  have k0 : W.heap[w.heap.size]? = some (.cells (vzC d.next l f s) 27 (0, 0)) := AT 0 _ _ rfl
  have k1 : W.heap[w.heap.size + 1]? = some (.cells #[.int .i64 3, .int .i64 (i : Int), .string key, .string tu, .string val] 64 (0, 0)) := AT 1 _ _ rfl
  have k2 : W.heap[w.heap.size + 1 + 1]? = some (.cells #[.int .i64 0, .slice none 0 0, .slice none 0 0, .slice none 0 0] 27 (0, 0)) := AT 2 _ _ rfl
  have k3 : W.heap[w.heap.size + 1 + 1 + 1]? = some (.cells #[.int .i64 0, .int .i64 0, .string ⟨#[]⟩, .slice none 0 0] 60 (0, 0)) := AT 3 _ _ rfl
  have hz0 : w.heap.size < W.heap.size := by omega
  have hz1 : w.heap.size + 1 < W.heap.size := by omega
  have hz2 : w.heap.size + 1 + 1 < W.heap.size := by omega
  have hz3 : w.heap.size + 1 + 1 + 1 < W.heap.size := by omega
  unfold allocC allocC allocC allocC allocC at hW
  have CO := hide (l06Own_any d l f s hs W (hI.below b1) (by have := hI.vr.1; have := hS.list; omega) (by have := hI.fr.1; have := hS.fen; omega) (by have := hI.len; have := hS.ses; omega) (fun h hh => by
    obtain ⟨k, hk, rfl⟩ := List.getElem_of_mem hh
    obtain ⟨hd, he⟩ := hI.at hk
    have h1 := (SeIn.row hI.sr hk).1
    have h2 := hS.ws d.ses[k] (List.getElem_mem hd)
    rw [← he] at h2
    omega))
  have BH := hide b1
  have HI := hide hI
  have HS := hide hS
  obtain ⟨la, ln, lc⟩ := l
  obtain ⟨fa, fn, fc⟩ := f
  obtain ⟨sa, sn, sc⟩ := s
  unfold vzC at k0 hW CO ⊢
  simp only at k0 hW CO ⊢
  have K0 := hide k0
  have K1 := hide k1
  have K2 := hide k2
  have K3 := hide k3
  have hnx := hS.nx
  have hi0 : decide ((0 : Int) ≤ (i : Int)) = true := decide_eq_true (by omega)
  have hi3 : decide ((i : Int) ≤ 3) = true := decide_eq_true (by omega)
  have a0 := (heap_at k1 0).1
  have a1 := (heap_at k1 1).1
  have v0 := (heap_at k0 0).1
  have v1 := (heap_at k0 1).1
  have v2 := (heap_at k0 2).1
  have v3 := (heap_at k0 3).1
  clear hI hS hz b1 AT k0 k1 k2 k3
  go_enter Tryz.func21, Tryz.ntmps21
  go_wp2_with (go_at_call 55; refine (l01In_any _ _ _ _).mono ?_; rintro e w9 ⟨rfl, rfl⟩)
  rw [← hW]
  clear hW
  refine (unhide CO).mono ?_
  rintro e w1 ⟨⟨la1, ln1, lc1⟩, ⟨fa1, fn1, fc1⟩, ⟨sa1, sn1, sc1⟩, hs1, rfl, hO, hb1⟩
  clear a0 a1 v0 v1 v2 v3 hi0 hi3 CO
  have hl4 : hs1.length = 4 := by rw [hO.reads.len.2]; exact (unhide HS).ses
  have hih : i < hs1.length := by omega
  obtain ⟨g, hsa, hsn, hgB, hgw, c0, c1, c2, hwo, hid, hxd⟩ := hO.sesAt hih
  simp only at hsa hsn
  rw [hl4] at hsn
  subst hsa hsn
  unfold vzC
  simp only
  have STP := hide (show stepV d ⟨3, (i : Int), key, tu, val⟩ = sesV d ⟨3, (i : Int), key, tu, val⟩ i hs1[i].X by
    unfold stepV
    rw [if_neg (by simp), if_neg (by simp only; omega), hxd]
    congr 1
    rw [show ((i : Nat) : Int).toNat = i by omega, List.getD_eq_getElem?_getD, List.getElem?_eq_getElem hid]
    rfl)
  have XL := hide (show hs1[i].X.ws.length ≤ 8 by rw [hxd]; exact (unhide HS).ws _ (List.getElem_mem hid))
  have SX := hide hxd
  clear hxd
  generalize hx1 : hs1[i] = x at *
  have HX := hide hx1
  clear hx1
  obtain ⟨⟨o, t, wl⟩, ⟨wa, wn, wc⟩⟩ := x
  simp only at c0 c1 c2 hwo STP XL
  have bA : Below w1.heap.size w1 ((w1.alloc (.cells #[.int .i64 d.next, .slice la1 ln1 lc1, .slice fa1 fn1 fc1, .slice (some ⟨g, 0, none⟩) 4 sc1] 27)).alloc (.cells #[.bool o, .int .i64 t, .slice wa wn wc] 93)) := ((Below.refl _ _).alloc (Nat.le_refl _) _).alloc (by simp) _
  obtain ⟨-, k6, k7, z7⟩ := twoBx (w := w1) (c1 := #[.int .i64 d.next, .slice la1 ln1 lc1, .slice fa1 fn1 fc1, .slice (some ⟨g, 0, none⟩) 4 sc1]) (t1 := 27) (c2 := #[.bool o, .int .i64 t, .slice wa wn wc]) (t2 := 93) rfl
  have hW1 := hb1.size
  have NBS := hide (fun q hq => (hO.so.lt q hq).2)
  have NBV := hide (fun q hq => (hO.vo.lt q hq).2)
  have NBF := hide (fun q hq => (hO.fo.lt q hq).2)
  have OU := hide (hO.below bA)
  have BU := hide (hb1.trans (bA.mono hW1))
  have OX := hide (rb_ownsRow_below hwo bA)
  have K6 := hide k6
  have K7 := hide k7
  have hb6 : W.heap.size ≤ w1.heap.size := hW1
  have a1 : (w1.alloc (.cells #[.int .i64 d.next, .slice la1 ln1 lc1, .slice fa1 fn1 fc1, .slice (some ⟨g, 0, none⟩) 4 sc1] 27)).cell? ⟨w.heap.size + 1, 1, none⟩ = some (.int .i64 (i : Int)) := (((Below.refl w1.heap.size w1).alloc (Nat.le_refl _) (.cells #[.int .i64 d.next, .slice la1 ln1 lc1, .slice fa1 fn1 fc1, .slice (some ⟨g, 0, none⟩) 4 sc1] 27)).cell (p := ⟨w.heap.size + 1, 1, none⟩) (by show w.heap.size + 1 < w1.heap.size; omega)).trans ((heap_at ((hb1.block (w.heap.size + 1) hz1).trans (unhide K1)) 1).1)
  have d0 := (((Below.refl w1.heap.size w1).alloc (Nat.le_refl _) (.cells #[.int .i64 d.next, .slice la1 ln1 lc1, .slice fa1 fn1 fc1, .slice (some ⟨g, 0, none⟩) 4 sc1] 27)).cell (p := ⟨g, i * 3, none⟩) hgw).trans c0
  have d1 := (((Below.refl w1.heap.size w1).alloc (Nat.le_refl _) (.cells #[.int .i64 d.next, .slice la1 ln1 lc1, .slice fa1 fn1 fc1, .slice (some ⟨g, 0, none⟩) 4 sc1] 27)).cell (p := ⟨g, i * 3 + 1, none⟩) hgw).trans c1
  have d2 := (((Below.refl w1.heap.size w1).alloc (Nat.le_refl _) (.cells #[.int .i64 d.next, .slice la1 ln1 lc1, .slice fa1 fn1 fc1, .slice (some ⟨g, 0, none⟩) 4 sc1] 27)).cell (p := ⟨g, i * 3 + 2, none⟩) hgw).trans c2
  have hin : (i : Int) < 4 := by omega
  clear hO hwo bA k6 k7 c0 c1 c2 hb1 z7
  go_upto_region 7 with fail
  clear d0 d1 d2 a1 hin
  generalize (w1.alloc (.cells #[.int .i64 d.next, .slice la1 ln1 lc1, .slice fa1 fn1 fc1, .slice (some ⟨g, 0, none⟩) 4 sc1] 27)).alloc (.cells #[.bool o, .int .i64 t, .slice wa wn wc] 93) = u at *
  generalize hb6e : w1.heap.size = b6 at *
  clear hb6e
  cases o with
  | false =>
    have kv := ((unhide BU).block w.heap.size hz0).trans (unhide K0)
    have v0 := (heap_at kv 0).1
    have v1 := (heap_at kv 1).1
    have v2 := (heap_at kv 2).1
    have v3 := (heap_at kv 3).1
    have ka := ((unhide BU).block (w.heap.size + 1) hz1).trans (unhide K1)
    have a0 := (heap_at ka 0).1
    have a1 := (heap_at ka 1).1
    have a2 := (heap_at ka 2).1
    have a3 := (heap_at ka 3).1
    have a4 := (heap_at ka 4).1
    have ky := ((unhide BU).block (w.heap.size + 1 + 1) hz2).trans (unhide K2)
    have y0 := (heap_at ky 0).1
    have y1 := (heap_at ky 1).1
    have y2 := (heap_at ky 2).1
    have y3 := (heap_at ky 3).1
    have yf0 := (heap_at ky 0).2
    have yf1 := (heap_at ky 1).2
    have yf2 := (heap_at ky 2).2
    have yf3 := (heap_at ky 3).2
    have kt := ((unhide BU).block (w.heap.size + 1 + 1 + 1) hz3).trans (unhide K3)
    have t0 := (heap_at kt 0).1
    have t1 := (heap_at kt 1).1
    have t2 := (heap_at kt 2).1
    have t3 := (heap_at kt 3).1
    have tf0 := (heap_at kt 0).2
    have tf1 := (heap_at kt 1).2
    have tf2 := (heap_at kt 2).2
    have tf3 := (heap_at kt 3).2
    have x0 := (heap_at (unhide K7) 0).1
    have RES := hide (show StRes ⟨la, ln, lc⟩ ⟨fa, fn, fc⟩ ⟨sa, sn, sc⟩ hs d (stepV d ⟨3, (i : Int), key, tu, val⟩) w (.returned (.tuple #[.agg #[.int .i64 d.next, .slice la ln lc, .slice fa fn fc, .slice sa sn sc], .agg #[.int .i64 10, .int .i64 0, .string ⟨#[]⟩, .slice none 0 0]])) ((((((((u.setCell ⟨w.heap.size + 1 + 1, 0, none⟩ (.int .i64 d.next)).setCell ⟨w.heap.size + 1 + 1, 1, none⟩ (.slice la ln lc)).setCell ⟨w.heap.size + 1 + 1, 2, none⟩ (.slice fa fn fc)).setCell ⟨w.heap.size + 1 + 1, 3, none⟩ (.slice sa sn sc)).setCell ⟨w.heap.size + 1 + 1 + 1, 0, none⟩ (.int .i64 10)).setCell ⟨w.heap.size + 1 + 1 + 1, 1, none⟩ (.int .i64 0)).setCell ⟨w.heap.size + 1 + 1 + 1, 2, none⟩ (.string ⟨#[]⟩)).setCell ⟨w.heap.size + 1 + 1 + 1, 3, none⟩ (.slice none 0 0)) from st_old (unhide HI) (bel_sv4 (bel_sv4 ((unhide BH).trans ((unhide BU).mono (unhide BH).size)) (by omega) _ _ _ _) (by omega) _ _ _ _) (by rw [unhide STP]; unfold sesV; rw [if_neg (by simp), if_pos rfl]))
    go_wp2_with fail
    refine bodyPost_ret (v := .tuple #[.agg #[.int .i64 d.next, .slice la ln lc, .slice fa fn fc, .slice sa sn sc], .agg #[.int .i64 10, .int .i64 0, .string ⟨#[]⟩, .slice none 0 0]]) (by simp [results, Tryz.results21, go_sem, *]) rfl ?_
    exact unhide RES
  | true =>
    have x0 := (heap_at (unhide K7) 0).1
    have x1 := (heap_at (unhide K7) 1).1
    have ka := ((unhide BU).block (w.heap.size + 1) hz1).trans (unhide K1)
    have a0 := (heap_at ka 0).1
    have bR : Below u.heap.size u (u.alloc (.cells #[.int .i64 0, .int .i64 t, .string ⟨#[]⟩, .slice none 0 0] 60)) := (Below.refl _ _).alloc (Nat.le_refl _) _
    have k8 := heap_alloc_new u (.cells #[.int .i64 0, .int .i64 t, .string ⟨#[]⟩, .slice none 0 0] 60)
    have OR := hide ((unhide OU).below bR)
    have BR := hide ((unhide BU).trans (bR.mono (unhide BU).size))
    have XR := hide (rb_ownsRow_below (unhide OX) bR)
    have K6R := hide ((bR.block b6 (blk_lt (unhide K6))).trans (unhide K6))
    have K7R := hide ((bR.block (b6 + 1) (blk_lt (unhide K7))).trans (unhide K7))
    have K8 := hide k8
    have h78 : b6 + 1 < u.heap.size := blk_lt (unhide K7)
    clear OU BU OX K6 K7 k8 bR ka
    go_upto_region 18 with fail
    clear x0 x1 a0
    generalize u.alloc (.cells #[.int .i64 0, .int .i64 t, .string ⟨#[]⟩, .slice none 0 0] 60) = ur at *
    generalize hb8e : u.heap.size = b8 at *
    clear hb8e
    have ka := ((unhide BR).block (w.heap.size + 1) hz1).trans (unhide K1)
    have a0 := (heap_at ka 0).1
    have a1 := (heap_at ka 1).1
    have a2 := (heap_at ka 2).1
    have a3 := (heap_at ka 3).1
    have a4 := (heap_at ka 4).1
    have FIT := hide (show fitA ⟨3, (i : Int), key, tu, val⟩ = (decide (key.size ≤ 40) && decide (tu.size ≤ 40)) by unfold fitA; rw [if_neg (by simp), if_pos (by simp)])
    have STB := hide (show fitA ⟨3, (i : Int), key, tu, val⟩ = false → stepV d ⟨3, (i : Int), key, tu, val⟩ = (d, repV 11 t) from fun h => by rw [unhide STP]; unfold sesV; rw [if_neg (by simp), if_neg (by simp), if_pos h])
    by_cases hk40 : key.size ≤ 40
    case neg =>
      have ST2 := hide (unhide STB (by rw [unhide FIT, decide_eq_false hk40]; rfl))
      have hkn : (40 : Int) < (key.size : Int) := by omega
      have hkd : decide ((40 : Int) < (key.size : Int)) = true := decide_eq_true hkn
      clear STB FIT hk40 ka
      have kvv := ((unhide BR).block w.heap.size hz0).trans (unhide K0)
      have v0 := (heap_at kvv 0).1
      have v1 := (heap_at kvv 1).1
      have v2 := (heap_at kvv 2).1
      have v3 := (heap_at kvv 3).1
      have k7x := (heap_at (unhide K7R) 1).1
      have N2 := hide (((unhide BR).block (w.heap.size + 1 + 1) hz2).trans (unhide K2))
      have N3 := hide (((unhide BR).block (w.heap.size + 1 + 1 + 1) hz3).trans (unhide K3))
      have BF := hide ((unhide BH).trans ((unhide BR).mono (unhide BH).size))
      have h70 : b6 + 1 < ur.heap.size := blk_lt (unhide K7R)
      have h6W : W.heap.size ≤ ur.heap.size := (unhide BR).size
      have LD := hide (show ∀ v : World, (∀ i, i ≠ w.heap.size + 1 + 1 → i ≠ w.heap.size + 1 + 1 + 1 → i < ur.heap.size → v.heap[i]? = ur.heap[i]?) → (fun u => u.cell? ⟨w.heap.size, 0, none⟩ = some (.int .i64 d.next) ∧ u.cell? ⟨w.heap.size, 1, none⟩ = some (.slice la ln lc) ∧ u.cell? ⟨w.heap.size, 2, none⟩ = some (.slice fa fn fc) ∧ u.cell? ⟨w.heap.size, 3, none⟩ = some (.slice sa sn sc) ∧ u.cell? ⟨b6 + 1, 1, none⟩ = some (.int .i64 t)) v from fun v hv => ⟨(World.cell?_of_block (a := ⟨w.heap.size, 0, none⟩) (hv w.heap.size (by omega) (by omega) (by omega))).trans v0, (World.cell?_of_block (a := ⟨w.heap.size, 1, none⟩) (hv w.heap.size (by omega) (by omega) (by omega))).trans v1, (World.cell?_of_block (a := ⟨w.heap.size, 2, none⟩) (hv w.heap.size (by omega) (by omega) (by omega))).trans v2, (World.cell?_of_block (a := ⟨w.heap.size, 3, none⟩) (hv w.heap.size (by omega) (by omega) (by omega))).trans v3, (World.cell?_of_block (a := ⟨b6 + 1, 1, none⟩) (hv (b6 + 1) (by omega) (by omega) h70)).trans k7x⟩)
      clear v0 v1 v2 v3 k7x kvv
      have D0 := hide (show ∀ i, i ≠ w.heap.size + 1 + 1 → i ≠ w.heap.size + 1 + 1 + 1 → i < ur.heap.size → ur.drew.heap[i]? = ur.heap[i]? from fun _ _ _ _ => rfl)
      have ZD0 := hide (show ur.heap.size ≤ ur.drew.heap.size from Nat.le_refl _)
      have BD0 := hide (show Below w.heap.size w ur.drew from (unhide BF).drew)
      replace N2 := hide (show ur.drew.heap[w.heap.size + 1 + 1]? = _ from unhide N2)
      replace N3 := hide (show ur.drew.heap[w.heap.size + 1 + 1 + 1]? = _ from unhide N3)
      go_upto_region 26 with fail
      clear a0 a1 a2 a3 a4
      refine wp_region_held_drew (S := (fun u => u.cell? ⟨w.heap.size, 0, none⟩ = some (.int .i64 d.next) ∧ u.cell? ⟨w.heap.size, 1, none⟩ = some (.slice la ln lc) ∧ u.cell? ⟨w.heap.size, 2, none⟩ = some (.slice fa fn fc) ∧ u.cell? ⟨w.heap.size, 3, none⟩ = some (.slice sa sn sc) ∧ u.cell? ⟨b6 + 1, 1, none⟩ = some (.int .i64 t))) (by kernel_rfl) (unhide LD _ (unhide D0)) (fun hHeld => ?_)
      generalize ur.drew = ud at *
      refine anyH_take 0 103 (v := ?v20) rfl rfl (by kernel_rfl) (by kernel_rfl) (by kernel_rfl) (fun _ _ _ h => h) (by rfl) ?h20 hHeld ?r20
      case h20 => (intro w hSw; (try dsimp only at hSw); go_simp; try (with_reducible rfl))
      simp only [Act.put, List.setIfInBounds_toArray, List.set_cons_zero, List.set_cons_succ]
      refine anyH_take 1 104 (v := ?v21) rfl rfl (by kernel_rfl) (by kernel_rfl) (by kernel_rfl) (fun _ _ _ h => h) (by rfl) ?h21 hHeld ?r21
      case h21 => (intro w hSw; (try dsimp only at hSw); go_simp; try (with_reducible rfl))
      simp only [Act.put, List.setIfInBounds_toArray, List.set_cons_zero, List.set_cons_succ]
      refine anyH_take 2 105 (v := ?v22) rfl rfl (by kernel_rfl) (by kernel_rfl) (by kernel_rfl) (fun _ _ _ h => h) (by rfl) ?h22 hHeld ?r22
      case h22 => (intro w hSw; (try dsimp only at hSw); go_simp; try (with_reducible rfl))
      simp only [Act.put, List.setIfInBounds_toArray, List.set_cons_zero, List.set_cons_succ]
      refine anyH_take 3 106 (v := ?v23) rfl rfl (by kernel_rfl) (by kernel_rfl) (by kernel_rfl) (fun _ _ _ h => h) (by rfl) ?h23 hHeld ?r23
      case h23 => (intro w hSw; (try dsimp only at hSw); go_simp; try (with_reducible rfl))
      simp only [Act.put, List.setIfInBounds_toArray, List.set_cons_zero, List.set_cons_succ]
      refine wpAnyH_ready (rs := [4]) (by kernel_rfl) (by simp) ?_
      refine AllReadyH.cons rfl (fun K hK => ?_) AllReadyH.nil
      have c0 := (heap_at (unhide N2) 0).1
      have c1 := (heap_at (unhide N2) 1).1
      have c2 := (heap_at (unhide N2) 2).1
      have c3 := (heap_at (unhide N2) 3).1
      have cf0 := (heap_at (unhide N2) 0).2
      have cf1 := (heap_at (unhide N2) 1).2
      have cf2 := (heap_at (unhide N2) 2).2
      have cf3 := (heap_at (unhide N2) 3).2
      have hw : WrB (fun i => i = w.heap.size + 1 + 1) ud ((((ud.setCell ⟨w.heap.size + 1 + 1, 0, none⟩ (.int .i64 d.next)).setCell ⟨w.heap.size + 1 + 1, 1, none⟩ (.slice la ln lc)).setCell ⟨w.heap.size + 1 + 1, 2, none⟩ (.slice fa fn fc)).setCell ⟨w.heap.size + 1 + 1, 3, none⟩ (.slice sa sn sc)) := sv4_wr ud (w.heap.size + 1 + 1) (.int .i64 d.next) (.slice la ln lc) (.slice fa fn fc) (.slice sa sn sc)
      have D1 := hide (show ∀ i, i ≠ w.heap.size + 1 + 1 → i ≠ w.heap.size + 1 + 1 + 1 → i < ur.heap.size → ((((ud.setCell ⟨w.heap.size + 1 + 1, 0, none⟩ (.int .i64 d.next)).setCell ⟨w.heap.size + 1 + 1, 1, none⟩ (.slice la ln lc)).setCell ⟨w.heap.size + 1 + 1, 2, none⟩ (.slice fa fn fc)).setCell ⟨w.heap.size + 1 + 1, 3, none⟩ (.slice sa sn sc)).heap[i]? = ur.heap[i]? from fun i h1 h2 h3 => (hw.block i (Nat.lt_of_lt_of_le h3 (unhide ZD0)) (by first | exact h1 | exact h2)).trans (unhide D0 i h1 h2 h3))
      have ZD1 := hide (show ur.heap.size ≤ ((((ud.setCell ⟨w.heap.size + 1 + 1, 0, none⟩ (.int .i64 d.next)).setCell ⟨w.heap.size + 1 + 1, 1, none⟩ (.slice la ln lc)).setCell ⟨w.heap.size + 1 + 1, 2, none⟩ (.slice fa fn fc)).setCell ⟨w.heap.size + 1 + 1, 3, none⟩ (.slice sa sn sc)).heap.size from Nat.le_trans (unhide ZD0) hw.size)
      have Ka := hide (show ((((ud.setCell ⟨w.heap.size + 1 + 1, 0, none⟩ (.int .i64 d.next)).setCell ⟨w.heap.size + 1 + 1, 1, none⟩ (.slice la ln lc)).setCell ⟨w.heap.size + 1 + 1, 2, none⟩ (.slice fa fn fc)).setCell ⟨w.heap.size + 1 + 1, 3, none⟩ (.slice sa sn sc)).heap[w.heap.size + 1 + 1]? = some (.cells #[.int .i64 d.next, .slice la ln lc, .slice fa fn fc, .slice sa sn sc] 27 (0, 0)) from sv4_heap (unhide N2) (.int .i64 d.next) (.slice la ln lc) (.slice fa fn fc) (.slice sa sn sc))
      have BD1 := hide (show Below w.heap.size w ((((ud.setCell ⟨w.heap.size + 1 + 1, 0, none⟩ (.int .i64 d.next)).setCell ⟨w.heap.size + 1 + 1, 1, none⟩ (.slice la ln lc)).setCell ⟨w.heap.size + 1 + 1, 2, none⟩ (.slice fa fn fc)).setCell ⟨w.heap.size + 1 + 1, 3, none⟩ (.slice sa sn sc)) from bel_sv4 (unhide BD0) (by omega) (.int .i64 d.next) (.slice la ln lc) (.slice fa fn fc) (.slice sa sn sc))
      have E3 := hide ((hw.block (w.heap.size + 1 + 1 + 1) (blk_lt (unhide N3)) (by omega)).trans (unhide N3))
      clear hw
      go_simp
      refine hK.out _ _ (unhide LD _ (unhide D1)) (fun hHeld => ?_)
      clear hK K
      clear c0 c1 c2 c3 cf0 cf1 cf2 cf3
      generalize ((((ud.setCell ⟨w.heap.size + 1 + 1, 0, none⟩ (.int .i64 d.next)).setCell ⟨w.heap.size + 1 + 1, 1, none⟩ (.slice la ln lc)).setCell ⟨w.heap.size + 1 + 1, 2, none⟩ (.slice fa fn fc)).setCell ⟨w.heap.size + 1 + 1, 3, none⟩ (.slice sa sn sc)) = ue at *
      refine wpAnyH_ready (rs := [5]) (by kernel_rfl) (by simp) ?_
      refine AllReadyH.cons rfl (fun K hK => ?_) AllReadyH.nil
      have c0 := (heap_at (unhide E3) 0).1
      have c1 := (heap_at (unhide E3) 1).1
      have c2 := (heap_at (unhide E3) 2).1
      have c3 := (heap_at (unhide E3) 3).1
      have cf0 := (heap_at (unhide E3) 0).2
      have cf1 := (heap_at (unhide E3) 1).2
      have cf2 := (heap_at (unhide E3) 2).2
      have cf3 := (heap_at (unhide E3) 3).2
      have hw : WrB (fun i => i = w.heap.size + 1 + 1 + 1) ue ((((ue.setCell ⟨w.heap.size + 1 + 1 + 1, 0, none⟩ (.int .i64 11)).setCell ⟨w.heap.size + 1 + 1 + 1, 1, none⟩ (.int .i64 t)).setCell ⟨w.heap.size + 1 + 1 + 1, 2, none⟩ (.string ⟨#[]⟩)).setCell ⟨w.heap.size + 1 + 1 + 1, 3, none⟩ (.slice none 0 0)) := sv4_wr ue (w.heap.size + 1 + 1 + 1) (.int .i64 11) (.int .i64 t) (.string ⟨#[]⟩) (.slice none 0 0)
      have D2 := hide (show ∀ i, i ≠ w.heap.size + 1 + 1 → i ≠ w.heap.size + 1 + 1 + 1 → i < ur.heap.size → ((((ue.setCell ⟨w.heap.size + 1 + 1 + 1, 0, none⟩ (.int .i64 11)).setCell ⟨w.heap.size + 1 + 1 + 1, 1, none⟩ (.int .i64 t)).setCell ⟨w.heap.size + 1 + 1 + 1, 2, none⟩ (.string ⟨#[]⟩)).setCell ⟨w.heap.size + 1 + 1 + 1, 3, none⟩ (.slice none 0 0)).heap[i]? = ur.heap[i]? from fun i h1 h2 h3 => (hw.block i (Nat.lt_of_lt_of_le h3 (unhide ZD1)) (by first | exact h1 | exact h2)).trans (unhide D1 i h1 h2 h3))
      have ZD2 := hide (show ur.heap.size ≤ ((((ue.setCell ⟨w.heap.size + 1 + 1 + 1, 0, none⟩ (.int .i64 11)).setCell ⟨w.heap.size + 1 + 1 + 1, 1, none⟩ (.int .i64 t)).setCell ⟨w.heap.size + 1 + 1 + 1, 2, none⟩ (.string ⟨#[]⟩)).setCell ⟨w.heap.size + 1 + 1 + 1, 3, none⟩ (.slice none 0 0)).heap.size from Nat.le_trans (unhide ZD1) hw.size)
      have Kb := hide (show ((((ue.setCell ⟨w.heap.size + 1 + 1 + 1, 0, none⟩ (.int .i64 11)).setCell ⟨w.heap.size + 1 + 1 + 1, 1, none⟩ (.int .i64 t)).setCell ⟨w.heap.size + 1 + 1 + 1, 2, none⟩ (.string ⟨#[]⟩)).setCell ⟨w.heap.size + 1 + 1 + 1, 3, none⟩ (.slice none 0 0)).heap[w.heap.size + 1 + 1 + 1]? = some (.cells #[.int .i64 11, .int .i64 t, .string ⟨#[]⟩, .slice none 0 0] 60 (0, 0)) from sv4_heap (unhide E3) (.int .i64 11) (.int .i64 t) (.string ⟨#[]⟩) (.slice none 0 0))
      have BD2 := hide (show Below w.heap.size w ((((ue.setCell ⟨w.heap.size + 1 + 1 + 1, 0, none⟩ (.int .i64 11)).setCell ⟨w.heap.size + 1 + 1 + 1, 1, none⟩ (.int .i64 t)).setCell ⟨w.heap.size + 1 + 1 + 1, 2, none⟩ (.string ⟨#[]⟩)).setCell ⟨w.heap.size + 1 + 1 + 1, 3, none⟩ (.slice none 0 0)) from bel_sv4 (unhide BD1) (by omega) (.int .i64 11) (.int .i64 t) (.string ⟨#[]⟩) (.slice none 0 0))
      have Kc := hide ((hw.block (w.heap.size + 1 + 1) (blk_lt (unhide Ka)) (by omega)).trans (unhide Ka))
      clear hw
      go_simp
      refine hK.out _ _ (unhide LD _ (unhide D2)) (fun hHeld => ?_)
      clear hK K
      clear c0 c1 c2 c3 cf0 cf1 cf2 cf3
      generalize ((((ue.setCell ⟨w.heap.size + 1 + 1 + 1, 0, none⟩ (.int .i64 11)).setCell ⟨w.heap.size + 1 + 1 + 1, 1, none⟩ (.int .i64 t)).setCell ⟨w.heap.size + 1 + 1 + 1, 2, none⟩ (.string ⟨#[]⟩)).setCell ⟨w.heap.size + 1 + 1 + 1, 3, none⟩ (.slice none 0 0)) = ug at *
      refine wpAnyH_done (by kernel_rfl) ?_ _
      have r0 := (heap_at (unhide Kc) 0).1
      have r1 := (heap_at (unhide Kc) 1).1
      have r2 := (heap_at (unhide Kc) 2).1
      have r3 := (heap_at (unhide Kc) 3).1
      have q0 := (heap_at (unhide Kb) 0).1
      have q1 := (heap_at (unhide Kb) 1).1
      have q2 := (heap_at (unhide Kb) 2).1
      have q3 := (heap_at (unhide Kb) 3).1
      have RES := hide (show StRes ⟨la, ln, lc⟩ ⟨fa, fn, fc⟩ ⟨sa, sn, sc⟩ hs d (stepV d ⟨3, (i : Int), key, tu, val⟩) w (.returned (.tuple #[.agg #[.int .i64 d.next, .slice la ln lc, .slice fa fn fc, .slice sa sn sc], .agg #[.int .i64 11, .int .i64 t, .string ⟨#[]⟩, .slice none 0 0]])) ug from st_old (unhide HI) (unhide BD2) (unhide ST2))
      clear hHeld LD D0 D1 D2 N2 N3 E3 Ka Kb Kc
      go_wp2_with fail
      refine bodyPost_ret (v := .tuple #[.agg #[.int .i64 d.next, .slice la ln lc, .slice fa fn fc, .slice sa sn sc], .agg #[.int .i64 11, .int .i64 t, .string ⟨#[]⟩, .slice none 0 0]]) (by simp [results, Tryz.results21, go_sem, *]) rfl ?_
      exact unhide RES
    by_cases ht40 : tu.size ≤ 40
    case neg =>
      have ST2 := hide (unhide STB (by rw [unhide FIT, decide_eq_false ht40]; simp))
      have hkn : ¬ (40 : Int) < (key.size : Int) := by omega
      have hkd : decide ((40 : Int) < (key.size : Int)) = false := decide_eq_false hkn
      have htn : (40 : Int) < (tu.size : Int) := by omega
      have htd : decide ((40 : Int) < (tu.size : Int)) = true := decide_eq_true htn
      clear STB FIT hk40 ht40 ka
      have kvv := ((unhide BR).block w.heap.size hz0).trans (unhide K0)
      have v0 := (heap_at kvv 0).1
      have v1 := (heap_at kvv 1).1
      have v2 := (heap_at kvv 2).1
      have v3 := (heap_at kvv 3).1
      have k7x := (heap_at (unhide K7R) 1).1
      have N2 := hide (((unhide BR).block (w.heap.size + 1 + 1) hz2).trans (unhide K2))
      have N3 := hide (((unhide BR).block (w.heap.size + 1 + 1 + 1) hz3).trans (unhide K3))
      have BF := hide ((unhide BH).trans ((unhide BR).mono (unhide BH).size))
      have h70 : b6 + 1 < ur.heap.size := blk_lt (unhide K7R)
      have h6W : W.heap.size ≤ ur.heap.size := (unhide BR).size
      have LD := hide (show ∀ v : World, (∀ i, i ≠ w.heap.size + 1 + 1 → i ≠ w.heap.size + 1 + 1 + 1 → i < ur.heap.size → v.heap[i]? = ur.heap[i]?) → (fun u => u.cell? ⟨w.heap.size, 0, none⟩ = some (.int .i64 d.next) ∧ u.cell? ⟨w.heap.size, 1, none⟩ = some (.slice la ln lc) ∧ u.cell? ⟨w.heap.size, 2, none⟩ = some (.slice fa fn fc) ∧ u.cell? ⟨w.heap.size, 3, none⟩ = some (.slice sa sn sc) ∧ u.cell? ⟨b6 + 1, 1, none⟩ = some (.int .i64 t)) v from fun v hv => ⟨(World.cell?_of_block (a := ⟨w.heap.size, 0, none⟩) (hv w.heap.size (by omega) (by omega) (by omega))).trans v0, (World.cell?_of_block (a := ⟨w.heap.size, 1, none⟩) (hv w.heap.size (by omega) (by omega) (by omega))).trans v1, (World.cell?_of_block (a := ⟨w.heap.size, 2, none⟩) (hv w.heap.size (by omega) (by omega) (by omega))).trans v2, (World.cell?_of_block (a := ⟨w.heap.size, 3, none⟩) (hv w.heap.size (by omega) (by omega) (by omega))).trans v3, (World.cell?_of_block (a := ⟨b6 + 1, 1, none⟩) (hv (b6 + 1) (by omega) (by omega) h70)).trans k7x⟩)
      clear v0 v1 v2 v3 k7x kvv
      have D0 := hide (show ∀ i, i ≠ w.heap.size + 1 + 1 → i ≠ w.heap.size + 1 + 1 + 1 → i < ur.heap.size → ur.drew.heap[i]? = ur.heap[i]? from fun _ _ _ _ => rfl)
      have ZD0 := hide (show ur.heap.size ≤ ur.drew.heap.size from Nat.le_refl _)
      have BD0 := hide (show Below w.heap.size w ur.drew from (unhide BF).drew)
      replace N2 := hide (show ur.drew.heap[w.heap.size + 1 + 1]? = _ from unhide N2)
      replace N3 := hide (show ur.drew.heap[w.heap.size + 1 + 1 + 1]? = _ from unhide N3)
      go_upto_region 26 with fail
      clear a0 a1 a2 a3 a4
      refine wp_region_held_drew (S := (fun u => u.cell? ⟨w.heap.size, 0, none⟩ = some (.int .i64 d.next) ∧ u.cell? ⟨w.heap.size, 1, none⟩ = some (.slice la ln lc) ∧ u.cell? ⟨w.heap.size, 2, none⟩ = some (.slice fa fn fc) ∧ u.cell? ⟨w.heap.size, 3, none⟩ = some (.slice sa sn sc) ∧ u.cell? ⟨b6 + 1, 1, none⟩ = some (.int .i64 t))) (by kernel_rfl) (unhide LD _ (unhide D0)) (fun hHeld => ?_)
      generalize ur.drew = ud at *
      refine anyH_take 0 103 (v := ?v24) rfl rfl (by kernel_rfl) (by kernel_rfl) (by kernel_rfl) (fun _ _ _ h => h) (by rfl) ?h24 hHeld ?r24
      case h24 => (intro w hSw; (try dsimp only at hSw); go_simp; try (with_reducible rfl))
      simp only [Act.put, List.setIfInBounds_toArray, List.set_cons_zero, List.set_cons_succ]
      refine anyH_take 1 104 (v := ?v25) rfl rfl (by kernel_rfl) (by kernel_rfl) (by kernel_rfl) (fun _ _ _ h => h) (by rfl) ?h25 hHeld ?r25
      case h25 => (intro w hSw; (try dsimp only at hSw); go_simp; try (with_reducible rfl))
      simp only [Act.put, List.setIfInBounds_toArray, List.set_cons_zero, List.set_cons_succ]
      refine anyH_take 2 105 (v := ?v26) rfl rfl (by kernel_rfl) (by kernel_rfl) (by kernel_rfl) (fun _ _ _ h => h) (by rfl) ?h26 hHeld ?r26
      case h26 => (intro w hSw; (try dsimp only at hSw); go_simp; try (with_reducible rfl))
      simp only [Act.put, List.setIfInBounds_toArray, List.set_cons_zero, List.set_cons_succ]
      refine anyH_take 3 106 (v := ?v27) rfl rfl (by kernel_rfl) (by kernel_rfl) (by kernel_rfl) (fun _ _ _ h => h) (by rfl) ?h27 hHeld ?r27
      case h27 => (intro w hSw; (try dsimp only at hSw); go_simp; try (with_reducible rfl))
      simp only [Act.put, List.setIfInBounds_toArray, List.set_cons_zero, List.set_cons_succ]
      refine wpAnyH_ready (rs := [4]) (by kernel_rfl) (by simp) ?_
      refine AllReadyH.cons rfl (fun K hK => ?_) AllReadyH.nil
      have c0 := (heap_at (unhide N2) 0).1
      have c1 := (heap_at (unhide N2) 1).1
      have c2 := (heap_at (unhide N2) 2).1
      have c3 := (heap_at (unhide N2) 3).1
      have cf0 := (heap_at (unhide N2) 0).2
      have cf1 := (heap_at (unhide N2) 1).2
      have cf2 := (heap_at (unhide N2) 2).2
      have cf3 := (heap_at (unhide N2) 3).2
      have hw : WrB (fun i => i = w.heap.size + 1 + 1) ud ((((ud.setCell ⟨w.heap.size + 1 + 1, 0, none⟩ (.int .i64 d.next)).setCell ⟨w.heap.size + 1 + 1, 1, none⟩ (.slice la ln lc)).setCell ⟨w.heap.size + 1 + 1, 2, none⟩ (.slice fa fn fc)).setCell ⟨w.heap.size + 1 + 1, 3, none⟩ (.slice sa sn sc)) := sv4_wr ud (w.heap.size + 1 + 1) (.int .i64 d.next) (.slice la ln lc) (.slice fa fn fc) (.slice sa sn sc)
      have D1 := hide (show ∀ i, i ≠ w.heap.size + 1 + 1 → i ≠ w.heap.size + 1 + 1 + 1 → i < ur.heap.size → ((((ud.setCell ⟨w.heap.size + 1 + 1, 0, none⟩ (.int .i64 d.next)).setCell ⟨w.heap.size + 1 + 1, 1, none⟩ (.slice la ln lc)).setCell ⟨w.heap.size + 1 + 1, 2, none⟩ (.slice fa fn fc)).setCell ⟨w.heap.size + 1 + 1, 3, none⟩ (.slice sa sn sc)).heap[i]? = ur.heap[i]? from fun i h1 h2 h3 => (hw.block i (Nat.lt_of_lt_of_le h3 (unhide ZD0)) (by first | exact h1 | exact h2)).trans (unhide D0 i h1 h2 h3))
      have ZD1 := hide (show ur.heap.size ≤ ((((ud.setCell ⟨w.heap.size + 1 + 1, 0, none⟩ (.int .i64 d.next)).setCell ⟨w.heap.size + 1 + 1, 1, none⟩ (.slice la ln lc)).setCell ⟨w.heap.size + 1 + 1, 2, none⟩ (.slice fa fn fc)).setCell ⟨w.heap.size + 1 + 1, 3, none⟩ (.slice sa sn sc)).heap.size from Nat.le_trans (unhide ZD0) hw.size)
      have Ka := hide (show ((((ud.setCell ⟨w.heap.size + 1 + 1, 0, none⟩ (.int .i64 d.next)).setCell ⟨w.heap.size + 1 + 1, 1, none⟩ (.slice la ln lc)).setCell ⟨w.heap.size + 1 + 1, 2, none⟩ (.slice fa fn fc)).setCell ⟨w.heap.size + 1 + 1, 3, none⟩ (.slice sa sn sc)).heap[w.heap.size + 1 + 1]? = some (.cells #[.int .i64 d.next, .slice la ln lc, .slice fa fn fc, .slice sa sn sc] 27 (0, 0)) from sv4_heap (unhide N2) (.int .i64 d.next) (.slice la ln lc) (.slice fa fn fc) (.slice sa sn sc))
      have BD1 := hide (show Below w.heap.size w ((((ud.setCell ⟨w.heap.size + 1 + 1, 0, none⟩ (.int .i64 d.next)).setCell ⟨w.heap.size + 1 + 1, 1, none⟩ (.slice la ln lc)).setCell ⟨w.heap.size + 1 + 1, 2, none⟩ (.slice fa fn fc)).setCell ⟨w.heap.size + 1 + 1, 3, none⟩ (.slice sa sn sc)) from bel_sv4 (unhide BD0) (by omega) (.int .i64 d.next) (.slice la ln lc) (.slice fa fn fc) (.slice sa sn sc))
      have E3 := hide ((hw.block (w.heap.size + 1 + 1 + 1) (blk_lt (unhide N3)) (by omega)).trans (unhide N3))
      clear hw
      go_simp
      refine hK.out _ _ (unhide LD _ (unhide D1)) (fun hHeld => ?_)
      clear hK K
      clear c0 c1 c2 c3 cf0 cf1 cf2 cf3
      generalize ((((ud.setCell ⟨w.heap.size + 1 + 1, 0, none⟩ (.int .i64 d.next)).setCell ⟨w.heap.size + 1 + 1, 1, none⟩ (.slice la ln lc)).setCell ⟨w.heap.size + 1 + 1, 2, none⟩ (.slice fa fn fc)).setCell ⟨w.heap.size + 1 + 1, 3, none⟩ (.slice sa sn sc)) = ue at *
      refine wpAnyH_ready (rs := [5]) (by kernel_rfl) (by simp) ?_
      refine AllReadyH.cons rfl (fun K hK => ?_) AllReadyH.nil
      have c0 := (heap_at (unhide E3) 0).1
      have c1 := (heap_at (unhide E3) 1).1
      have c2 := (heap_at (unhide E3) 2).1
      have c3 := (heap_at (unhide E3) 3).1
      have cf0 := (heap_at (unhide E3) 0).2
      have cf1 := (heap_at (unhide E3) 1).2
      have cf2 := (heap_at (unhide E3) 2).2
      have cf3 := (heap_at (unhide E3) 3).2
      have hw : WrB (fun i => i = w.heap.size + 1 + 1 + 1) ue ((((ue.setCell ⟨w.heap.size + 1 + 1 + 1, 0, none⟩ (.int .i64 11)).setCell ⟨w.heap.size + 1 + 1 + 1, 1, none⟩ (.int .i64 t)).setCell ⟨w.heap.size + 1 + 1 + 1, 2, none⟩ (.string ⟨#[]⟩)).setCell ⟨w.heap.size + 1 + 1 + 1, 3, none⟩ (.slice none 0 0)) := sv4_wr ue (w.heap.size + 1 + 1 + 1) (.int .i64 11) (.int .i64 t) (.string ⟨#[]⟩) (.slice none 0 0)
      have D2 := hide (show ∀ i, i ≠ w.heap.size + 1 + 1 → i ≠ w.heap.size + 1 + 1 + 1 → i < ur.heap.size → ((((ue.setCell ⟨w.heap.size + 1 + 1 + 1, 0, none⟩ (.int .i64 11)).setCell ⟨w.heap.size + 1 + 1 + 1, 1, none⟩ (.int .i64 t)).setCell ⟨w.heap.size + 1 + 1 + 1, 2, none⟩ (.string ⟨#[]⟩)).setCell ⟨w.heap.size + 1 + 1 + 1, 3, none⟩ (.slice none 0 0)).heap[i]? = ur.heap[i]? from fun i h1 h2 h3 => (hw.block i (Nat.lt_of_lt_of_le h3 (unhide ZD1)) (by first | exact h1 | exact h2)).trans (unhide D1 i h1 h2 h3))
      have ZD2 := hide (show ur.heap.size ≤ ((((ue.setCell ⟨w.heap.size + 1 + 1 + 1, 0, none⟩ (.int .i64 11)).setCell ⟨w.heap.size + 1 + 1 + 1, 1, none⟩ (.int .i64 t)).setCell ⟨w.heap.size + 1 + 1 + 1, 2, none⟩ (.string ⟨#[]⟩)).setCell ⟨w.heap.size + 1 + 1 + 1, 3, none⟩ (.slice none 0 0)).heap.size from Nat.le_trans (unhide ZD1) hw.size)
      have Kb := hide (show ((((ue.setCell ⟨w.heap.size + 1 + 1 + 1, 0, none⟩ (.int .i64 11)).setCell ⟨w.heap.size + 1 + 1 + 1, 1, none⟩ (.int .i64 t)).setCell ⟨w.heap.size + 1 + 1 + 1, 2, none⟩ (.string ⟨#[]⟩)).setCell ⟨w.heap.size + 1 + 1 + 1, 3, none⟩ (.slice none 0 0)).heap[w.heap.size + 1 + 1 + 1]? = some (.cells #[.int .i64 11, .int .i64 t, .string ⟨#[]⟩, .slice none 0 0] 60 (0, 0)) from sv4_heap (unhide E3) (.int .i64 11) (.int .i64 t) (.string ⟨#[]⟩) (.slice none 0 0))
      have BD2 := hide (show Below w.heap.size w ((((ue.setCell ⟨w.heap.size + 1 + 1 + 1, 0, none⟩ (.int .i64 11)).setCell ⟨w.heap.size + 1 + 1 + 1, 1, none⟩ (.int .i64 t)).setCell ⟨w.heap.size + 1 + 1 + 1, 2, none⟩ (.string ⟨#[]⟩)).setCell ⟨w.heap.size + 1 + 1 + 1, 3, none⟩ (.slice none 0 0)) from bel_sv4 (unhide BD1) (by omega) (.int .i64 11) (.int .i64 t) (.string ⟨#[]⟩) (.slice none 0 0))
      have Kc := hide ((hw.block (w.heap.size + 1 + 1) (blk_lt (unhide Ka)) (by omega)).trans (unhide Ka))
      clear hw
      go_simp
      refine hK.out _ _ (unhide LD _ (unhide D2)) (fun hHeld => ?_)
      clear hK K
      clear c0 c1 c2 c3 cf0 cf1 cf2 cf3
      generalize ((((ue.setCell ⟨w.heap.size + 1 + 1 + 1, 0, none⟩ (.int .i64 11)).setCell ⟨w.heap.size + 1 + 1 + 1, 1, none⟩ (.int .i64 t)).setCell ⟨w.heap.size + 1 + 1 + 1, 2, none⟩ (.string ⟨#[]⟩)).setCell ⟨w.heap.size + 1 + 1 + 1, 3, none⟩ (.slice none 0 0)) = ug at *
      refine wpAnyH_done (by kernel_rfl) ?_ _
      have r0 := (heap_at (unhide Kc) 0).1
      have r1 := (heap_at (unhide Kc) 1).1
      have r2 := (heap_at (unhide Kc) 2).1
      have r3 := (heap_at (unhide Kc) 3).1
      have q0 := (heap_at (unhide Kb) 0).1
      have q1 := (heap_at (unhide Kb) 1).1
      have q2 := (heap_at (unhide Kb) 2).1
      have q3 := (heap_at (unhide Kb) 3).1
      have RES := hide (show StRes ⟨la, ln, lc⟩ ⟨fa, fn, fc⟩ ⟨sa, sn, sc⟩ hs d (stepV d ⟨3, (i : Int), key, tu, val⟩) w (.returned (.tuple #[.agg #[.int .i64 d.next, .slice la ln lc, .slice fa fn fc, .slice sa sn sc], .agg #[.int .i64 11, .int .i64 t, .string ⟨#[]⟩, .slice none 0 0]])) ug from st_old (unhide HI) (unhide BD2) (unhide ST2))
      clear hHeld LD D0 D1 D2 N2 N3 E3 Ka Kb Kc
      go_wp2_with fail
      refine bodyPost_ret (v := .tuple #[.agg #[.int .i64 d.next, .slice la ln lc, .slice fa fn fc, .slice sa sn sc], .agg #[.int .i64 11, .int .i64 t, .string ⟨#[]⟩, .slice none 0 0]]) (by simp [results, Tryz.results21, go_sem, *]) rfl ?_
      exact unhide RES
    have hkn : ¬ (40 : Int) < (key.size : Int) := by omega
    have hkd : decide ((40 : Int) < (key.size : Int)) = false := decide_eq_false hkn
    have htn : ¬ (40 : Int) < (tu.size : Int) := by omega
    have htd : decide ((40 : Int) < (tu.size : Int)) = false := decide_eq_false htn
    have STG := hide (show stepV d ⟨3, (i : Int), key, tu, val⟩ = (⟨d.next, d.list, d.fen ++ [⟨key, tu, t⟩], d.ses⟩, ⟨0, t, ⟨#[]⟩, ((seenV d ⟨true, t, wl⟩).filter (fun e => inK key tu e.k))⟩) by
      rw [unhide STP]
      unfold sesV
      rw [if_neg (by simp), if_neg (by simp), if_neg (by rw [unhide FIT, decide_eq_true hk40, decide_eq_true ht40]; simp)]
      unfold inV
      rw [if_neg (by simp), if_pos rfl]
      unfold fenV
      rw [if_neg (by have := (unhide HS).fen; omega)])
    clear STB FIT hk40 ht40
    have hurW := (unhide BR).size
    have hur0 : w.heap.size ≤ ur.heap.size := by omega
    have hge8 : W.heap.size ≤ b8 := by omega
    have h7u : b6 + 1 < ur.heap.size := blk_lt (unhide K7R)
    have hnb : (seenV d ⟨true, t, wl⟩).length ≤ 1000 := by
      have h1 := seenTo_len d ⟨true, t, wl⟩ _ (Nat.le_refl _)
      rw [seenTo_all] at h1
      have h2 := (unhide HS).list
      have h3 := unhide XL
      simp only at h1
      omega
    have kv := ((unhide BR).block w.heap.size hz0).trans (unhide K0)
    have v0 := (heap_at kv 0).1
    have v1 := (heap_at kv 1).1
    have v2 := (heap_at kv 2).1
    have v3 := (heap_at kv 3).1
    have x0 := (heap_at (unhide K7R) 0).1
    have x1 := (heap_at (unhide K7R) 1).1
    have x2 := (heap_at (unhide K7R) 2).1
    have CS := hide (fun (u : World) (hu : Below ur.heap.size ur u) => (l06Seen_any d.next ⟨la, ln, lc⟩ ⟨fa, fn, fc⟩ ⟨sa, sn, sc⟩ ⟨wa, wn, wc⟩ d ⟨true, t, wl⟩ u ((unhide HI).vr.below ((unhide BH).trans (((unhide BR).trans (hu.mono hurW)).mono (unhide BH).size))) (vrow_of_owns (rb_ownsRow_below (unhide XR) hu)) (by have := (unhide HS).list; have := unhide XL; show d.list.length + wl.length ≤ 1000; omega)).mono fun e u' h => show ∃ g k, e = .returned (.slice (some ⟨g, 0, none⟩) (seenV d ⟨true, t, wl⟩).length k) ∧ EOwns u' ur.heap.size (.slice (some ⟨g, 0, none⟩) (seenV d ⟨true, t, wl⟩).length k) (seenV d ⟨true, t, wl⟩) ∧ Below ur.heap.size ur u' by
      obtain ⟨g, k, h1, h2, h3⟩ := h
      exact ⟨g, k, h1, gd_base h2 hu.size, hu.trans (h3.mono hu.size)⟩)
    unfold vzC sesC at CS
    simp only at CS
    have LDX := hide (show ∀ v : World, (∀ i, i ≠ b8 → i < ur.heap.size → v.heap[i]? = ur.heap[i]?) → (fun u => u.cell? ⟨w.heap.size, 0, none⟩ = some (.int .i64 d.next) ∧ u.cell? ⟨w.heap.size, 1, none⟩ = some (.slice la ln lc) ∧ u.cell? ⟨w.heap.size, 2, none⟩ = some (.slice fa fn fc) ∧ u.cell? ⟨w.heap.size, 3, none⟩ = some (.slice sa sn sc) ∧ u.cell? ⟨b6 + 1, 0, none⟩ = some (.bool true) ∧ u.cell? ⟨b6 + 1, 1, none⟩ = some (.int .i64 t) ∧ u.cell? ⟨b6 + 1, 2, none⟩ = some (.slice wa wn wc) ∧ u.cell? ⟨w.heap.size + 1, 2, none⟩ = some (.string key) ∧ u.cell? ⟨w.heap.size + 1, 3, none⟩ = some (.string tu)) v from fun v hv => ⟨(World.cell?_of_block (a := ⟨w.heap.size, 0, none⟩) (hv w.heap.size (by omega) (by omega))).trans v0, (World.cell?_of_block (a := ⟨w.heap.size, 1, none⟩) (hv w.heap.size (by omega) (by omega))).trans v1, (World.cell?_of_block (a := ⟨w.heap.size, 2, none⟩) (hv w.heap.size (by omega) (by omega))).trans v2, (World.cell?_of_block (a := ⟨w.heap.size, 3, none⟩) (hv w.heap.size (by omega) (by omega))).trans v3, (World.cell?_of_block (a := ⟨b6 + 1, 0, none⟩) (hv (b6 + 1) (by omega) h7u)).trans x0, (World.cell?_of_block (a := ⟨b6 + 1, 1, none⟩) (hv (b6 + 1) (by omega) h7u)).trans x1, (World.cell?_of_block (a := ⟨b6 + 1, 2, none⟩) (hv (b6 + 1) (by omega) h7u)).trans x2, (World.cell?_of_block (a := ⟨w.heap.size + 1, 2, none⟩) (hv (w.heap.size + 1) (by omega) (by omega))).trans a2, (World.cell?_of_block (a := ⟨w.heap.size + 1, 3, none⟩) (hv (w.heap.size + 1) (by omega) (by omega))).trans a3⟩)
    have LDB := hide (show ∀ v : World, Below ur.heap.size ur v → (fun u => u.cell? ⟨w.heap.size, 0, none⟩ = some (.int .i64 d.next) ∧ u.cell? ⟨w.heap.size, 1, none⟩ = some (.slice la ln lc) ∧ u.cell? ⟨w.heap.size, 2, none⟩ = some (.slice fa fn fc) ∧ u.cell? ⟨w.heap.size, 3, none⟩ = some (.slice sa sn sc) ∧ u.cell? ⟨b6 + 1, 0, none⟩ = some (.bool true) ∧ u.cell? ⟨b6 + 1, 1, none⟩ = some (.int .i64 t) ∧ u.cell? ⟨b6 + 1, 2, none⟩ = some (.slice wa wn wc) ∧ u.cell? ⟨w.heap.size + 1, 2, none⟩ = some (.string key) ∧ u.cell? ⟨w.heap.size + 1, 3, none⟩ = some (.string tu)) v from fun v hv => unhide LDX v (fun i _ hi => hv.block i hi))
    have D0 : Below ur.heap.size ur ur.drew := (Below.refl _ _).drew
    clear ka kv
    go_upto_region 39 with fail
    clear a0 a1 a2 a3 a4 v0 v1 v2 v3 x0 x1 x2
    refine wp_region_held_drew (S := (fun u => u.cell? ⟨w.heap.size, 0, none⟩ = some (.int .i64 d.next) ∧ u.cell? ⟨w.heap.size, 1, none⟩ = some (.slice la ln lc) ∧ u.cell? ⟨w.heap.size, 2, none⟩ = some (.slice fa fn fc) ∧ u.cell? ⟨w.heap.size, 3, none⟩ = some (.slice sa sn sc) ∧ u.cell? ⟨b6 + 1, 0, none⟩ = some (.bool true) ∧ u.cell? ⟨b6 + 1, 1, none⟩ = some (.int .i64 t) ∧ u.cell? ⟨b6 + 1, 2, none⟩ = some (.slice wa wn wc) ∧ u.cell? ⟨w.heap.size + 1, 2, none⟩ = some (.string key) ∧ u.cell? ⟨w.heap.size + 1, 3, none⟩ = some (.string tu))) (by kernel_rfl) (unhide LDB _ D0) (fun hHeld => ?_)
    refine anyH_take 0 152 (v := ?v13) rfl rfl (by kernel_rfl) (by kernel_rfl) (by kernel_rfl) (fun _ _ _ h => h) (by rfl) ?h13 hHeld ?r13
    case h13 => (intro w hSw; (try dsimp only at hSw); go_simp; try (with_reducible rfl))
    simp only [Act.put, List.setIfInBounds_toArray, List.set_cons_zero, List.set_cons_succ]
    refine anyH_take 1 153 (v := ?v14) rfl rfl (by kernel_rfl) (by kernel_rfl) (by kernel_rfl) (fun _ _ _ h => h) (by rfl) ?h14 hHeld ?r14
    case h14 => (intro w hSw; (try dsimp only at hSw); go_simp; try (with_reducible rfl))
    simp only [Act.put, List.setIfInBounds_toArray, List.set_cons_zero, List.set_cons_succ]
    refine anyH_take 3 155 (v := ?v15) rfl rfl (by kernel_rfl) (by kernel_rfl) (by kernel_rfl) (fun _ _ _ h => h) (by rfl) ?h15 hHeld ?r15
    case h15 => (intro w hSw; (try dsimp only at hSw); go_simp; try (with_reducible rfl))
    simp only [Act.put, List.setIfInBounds_toArray, List.set_cons_zero, List.set_cons_succ]
    refine anyH_take 4 156 (v := ?v16) rfl rfl (by kernel_rfl) (by kernel_rfl) (by kernel_rfl) (fun _ _ _ h => h) (by rfl) ?h16 hHeld ?r16
    case h16 => (intro w hSw; (try dsimp only at hSw); go_simp; try (with_reducible rfl))
    simp only [Act.put, List.setIfInBounds_toArray, List.set_cons_zero, List.set_cons_succ]
    refine anyH_take 5 157 (v := ?v17) rfl rfl (by kernel_rfl) (by kernel_rfl) (by kernel_rfl) (fun _ _ _ h => h) (by rfl) ?h17 hHeld ?r17
    case h17 => (intro w hSw; (try dsimp only at hSw); go_simp; try (with_reducible rfl))
    simp only [Act.put, List.setIfInBounds_toArray, List.set_cons_zero, List.set_cons_succ]
    refine anyH_take 6 158 (v := ?v18) rfl rfl (by kernel_rfl) (by kernel_rfl) (by kernel_rfl) (fun _ _ _ h => h) (by rfl) ?h18 hHeld ?r18
    case h18 => (intro w hSw; (try dsimp only at hSw); go_simp; try (with_reducible rfl))
    simp only [Act.put, List.setIfInBounds_toArray, List.set_cons_zero, List.set_cons_succ]
    refine wpAnyH_ready (rs := [2]) (by kernel_rfl) (by simp) ?_
    refine AllReadyH.cons rfl (fun K hK => ?_) AllReadyH.nil
    go_simp
    refine (unhide CS _ D0).mono ?_
    rintro e w3 ⟨g9, k9, rfl, o9, b9⟩
    have O9 := hide o9
    clear o9
    refine hK.out _ _ (unhide LDB _ b9) (fun hHeld => ?_)
    clear hK K
    refine wpAnyH_ready (rs := [7]) (by kernel_rfl) (by simp) ?_
    refine AllReadyH.cons rfl (fun K hK => ?_) AllReadyH.nil
    go_simp
    refine (l05Range_any (some ⟨g9, 0, none⟩) (seenV d ⟨true, t, wl⟩).length k9 (seenV d ⟨true, t, wl⟩) key tu w3 (erow_of_owns (unhide O9)) hnb).mono ?_
    rintro e w4 ⟨aL, nL, cL, rfl, oL, bL⟩
    have b4 := b9.trans (bL.mono b9.size)
    have k8 := (b4.block b8 (blk_lt (unhide K8))).trans (unhide K8)
    have p3 := (heap_at k8 3).1
    have pf3 := (heap_at k8 3).2
    have hw4 : WrB (fun k => k = b8) w4 (w4.setCell ⟨b8, 3, none⟩ (.slice aL nL cL)) := set1_wr _ _ _ _
    have KR0 := hide (show (w4.setCell ⟨b8, 3, none⟩ (.slice aL nL cL)).heap[b8]? = some (.cells #[.int .i64 0, .int .i64 t, .string ⟨#[]⟩, .slice aL nL cL] 60 (0, 0)) by have := heap_set k8 3 (.slice aL nL cL); simpa using this)
    have OE := hide (show EOwns (w4.setCell ⟨b8, 3, none⟩ (.slice aL nL cL)) ur.heap.size (.slice aL nL cL) ((seenV d ⟨true, t, wl⟩).filter (fun e => inK key tu e.k)) from gd_base (own_keep oL k8 (by decide) hw4) b9.size)
    have B4w := (unhide BR).trans (b4.mono hurW)
    have BUX := hide (show Below W.heap.size W (w4.setCell ⟨b8, 3, none⟩ (.slice aL nL cL)) from B4w.trans (WrB.below hw4 (fun k e => by rw [e]; exact hge8) B4w.size))
    have OUX := hide (show VzOwn (w4.setCell ⟨b8, 3, none⟩ (.slice aL nL cL)) W.heap.size ⟨la1, ln1, lc1⟩ ⟨fa1, fn1, fc1⟩ ⟨some ⟨g, 0, none⟩, 4, sc1⟩ hs1 d from ((unhide OR).below b4).box k8 (by decide) (by decide) (by decide) hw4)
    have EX := hide (show ∀ i, i ≠ b8 → i < ur.heap.size → (w4.setCell ⟨b8, 3, none⟩ (.slice aL nL cL)).heap[i]? = ur.heap[i]? from fun i h1 h2 => (hw4.block i (Nat.lt_of_lt_of_le h2 b4.size) h1).trans (b4.block i h2))
    have LD4 := unhide LDB _ b4
    clear oL bL hw4 B4w k8 O9
    refine hK.out _ _ (LD4) (fun hHeld => ?_)
    clear hK K
    refine anyH_take 8 160 (v := ?v19) rfl rfl (by kernel_rfl) (by kernel_rfl) (by kernel_rfl) (fun _ _ _ h => h) (by rfl) ?h19 hHeld ?r19
    case h19 => (intro w hSw; (try dsimp only at hSw); go_simp; try (with_reducible rfl))
    simp only [Act.put, List.setIfInBounds_toArray, List.set_cons_zero, List.set_cons_succ]
    refine wpAnyH_ready (rs := [9]) (by kernel_rfl) (by simp) ?_
    refine AllReadyH.cons rfl (fun K hK => ?_) AllReadyH.nil
    go_simp
    refine hK.out _ _ (unhide LDX _ (unhide EX)) (fun hHeld => ?_)
    clear hK K
    refine wpAnyH_done (by kernel_rfl) ?_ _
    clear hHeld LDB LDX CS p3 pf3 b9 b4 LD4 D0
    generalize w4.setCell ⟨b8, 3, none⟩ (.slice aL nL cL) = u0 at *
    have kv := ((unhide BUX).block w.heap.size hz0).trans (unhide K0)
    have ka := ((unhide BUX).block (w.heap.size + 1) hz1).trans (unhide K1)
    have k6 := (unhide EX b6 (by omega) (by omega)).trans (unhide K6R)
    have k7 := (unhide EX (b6 + 1) (by omega) (blk_lt (unhide K7R))).trans (unhide K7R)
    have v0 := (heap_at kv 0).1
    have v1 := (heap_at kv 1).1
    have v2 := (heap_at kv 2).1
    have v3 := (heap_at kv 3).1
    have z0 := (heap_at k6 0).1
    have z1 := (heap_at k6 1).1
    have z2 := (heap_at k6 2).1
    have z3 := (heap_at k6 3).1
    have x1 := (heap_at k7 1).1
    have a2 := (heap_at ka 2).1
    have a3 := (heap_at ka 3).1
    have p0 := (heap_at (unhide KR0) 0).1
    have p1 := (heap_at (unhide KR0) 1).1
    have p2 := (heap_at (unhide KR0) 2).1
    have p3 := (heap_at (unhide KR0) 3).1
    have CF := hide (l06Fence_any W.heap.size d ⟨la1, ln1, lc1⟩ ⟨fa1, fn1, fc1⟩ ⟨some ⟨g, 0, none⟩, 4, sc1⟩ hs1 ⟨key, tu, t⟩ ⟨0, t, ⟨#[]⟩, []⟩ ⟨aL, nL, cL⟩ d.next ⟨la, ln, lc⟩ ⟨fa, fn, fc⟩ ⟨sa, sn, sc⟩ u0 (unhide OUX) (unhide BUX).size (unhide HS).fen)
    unfold vzC repC fv at CF
    simp only at CF
    clear kv ka k6 k7 KR0 EX K6R K7R K8 OR BR XR
    go_wp2_with fail
    clear v0 v1 v2 v3 z0 z1 z2 z3 x1 p0 p1 p2 p3 a2 a3
    refine (unhide CF).mono ?_
    rintro e w6 ⟨⟨fa6, fn6, fc6⟩, rfl, hO6, hB6, hW6⟩
    have B6 := hide ((unhide BUX).trans hB6)
    have ky := ((unhide B6).block (w.heap.size + 1 + 1) hz2).trans (unhide K2)
    have kt := ((unhide B6).block (w.heap.size + 1 + 1 + 1) hz3).trans (unhide K3)
    have y0 := (heap_at ky 0).1
    have y1 := (heap_at ky 1).1
    have y2 := (heap_at ky 2).1
    have y3 := (heap_at ky 3).1
    have yf0 := (heap_at ky 0).2
    have yf1 := (heap_at ky 1).2
    have yf2 := (heap_at ky 2).2
    have yf3 := (heap_at ky 3).2
    have tt0 := (heap_at kt 0).1
    have tt1 := (heap_at kt 1).1
    have tt2 := (heap_at kt 2).1
    have tt3 := (heap_at kt 3).1
    have ttf0 := (heap_at kt 0).2
    have ttf1 := (heap_at kt 1).2
    have ttf2 := (heap_at kt 2).2
    have ttf3 := (heap_at kt 3).2
    have hwy : WrB (fun i => i = w.heap.size + 1 + 1) w6 ((((w6.setCell ⟨w.heap.size + 1 + 1, 0, none⟩ (.int .i64 d.next)).setCell ⟨w.heap.size + 1 + 1, 1, none⟩ (.slice la1 ln1 lc1)).setCell ⟨w.heap.size + 1 + 1, 2, none⟩ (.slice fa6 fn6 fc6)).setCell ⟨w.heap.size + 1 + 1, 3, none⟩ (.slice (some ⟨g, 0, none⟩) 4 sc1)) := sv4_wr w6 (w.heap.size + 1 + 1) (.int .i64 d.next) (.slice la1 ln1 lc1) (.slice fa6 fn6 fc6) (.slice (some ⟨g, 0, none⟩) 4 sc1)
    have hwt : WrB (fun i => i = w.heap.size + 1 + 1 + 1) ((((w6.setCell ⟨w.heap.size + 1 + 1, 0, none⟩ (.int .i64 d.next)).setCell ⟨w.heap.size + 1 + 1, 1, none⟩ (.slice la1 ln1 lc1)).setCell ⟨w.heap.size + 1 + 1, 2, none⟩ (.slice fa6 fn6 fc6)).setCell ⟨w.heap.size + 1 + 1, 3, none⟩ (.slice (some ⟨g, 0, none⟩) 4 sc1)) ((((((((w6.setCell ⟨w.heap.size + 1 + 1, 0, none⟩ (.int .i64 d.next)).setCell ⟨w.heap.size + 1 + 1, 1, none⟩ (.slice la1 ln1 lc1)).setCell ⟨w.heap.size + 1 + 1, 2, none⟩ (.slice fa6 fn6 fc6)).setCell ⟨w.heap.size + 1 + 1, 3, none⟩ (.slice (some ⟨g, 0, none⟩) 4 sc1)).setCell ⟨w.heap.size + 1 + 1 + 1, 0, none⟩ (.int .i64 0)).setCell ⟨w.heap.size + 1 + 1 + 1, 1, none⟩ (.int .i64 t)).setCell ⟨w.heap.size + 1 + 1 + 1, 2, none⟩ (.string ⟨#[]⟩)).setCell ⟨w.heap.size + 1 + 1 + 1, 3, none⟩ (.slice aL nL cL)) := sv4_wr _ (w.heap.size + 1 + 1 + 1) (.int .i64 0) (.int .i64 t) (.string ⟨#[]⟩) (.slice aL nL cL)
    have BG := hide (show Below w.heap.size w ((((((((w6.setCell ⟨w.heap.size + 1 + 1, 0, none⟩ (.int .i64 d.next)).setCell ⟨w.heap.size + 1 + 1, 1, none⟩ (.slice la1 ln1 lc1)).setCell ⟨w.heap.size + 1 + 1, 2, none⟩ (.slice fa6 fn6 fc6)).setCell ⟨w.heap.size + 1 + 1, 3, none⟩ (.slice (some ⟨g, 0, none⟩) 4 sc1)).setCell ⟨w.heap.size + 1 + 1 + 1, 0, none⟩ (.int .i64 0)).setCell ⟨w.heap.size + 1 + 1 + 1, 1, none⟩ (.int .i64 t)).setCell ⟨w.heap.size + 1 + 1 + 1, 2, none⟩ (.string ⟨#[]⟩)).setCell ⟨w.heap.size + 1 + 1 + 1, 3, none⟩ (.slice aL nL cL)) from bel_sv4 (bel_sv4 ((unhide BH).trans ((unhide B6).mono (unhide BH).size)) (by omega) _ _ _ _) (by omega) _ _ _ _)
    have OG := (hO6.wr hwy (fun i e => by rw [e]; exact hz2)).wr hwt (fun i e => by rw [e]; exact hz3)
    have hOE := unhide OE
    have hlo : ∀ q, (Value.slice aL nL cL).ownBlock = some q → ur.heap.size ≤ q := fun q hq => (hOE.lt q hq).1
    have OLG := gd_base (rr_owns_wr (rr_owns_wr (rr_owns_wr hOE hW6 (fun q hq => own_other hOE (unhide OUX).fo (by decide) hq)) hwy (fun q hq e => by have := hlo q hq; omega)) hwt (fun q hq e => by have := hlo q hq; omega)) hur0
    have RES := hide (show StRes ⟨la, ln, lc⟩ ⟨fa, fn, fc⟩ ⟨sa, sn, sc⟩ hs d (stepV d ⟨3, (i : Int), key, tu, val⟩) w (.returned (.tuple #[.agg #[.int .i64 d.next, .slice la1 ln1 lc1, .slice fa6 fn6 fc6, .slice (some ⟨g, 0, none⟩) 4 sc1], .agg #[.int .i64 0, .int .i64 t, .string ⟨#[]⟩, .slice aL nL cL]])) ((((((((w6.setCell ⟨w.heap.size + 1 + 1, 0, none⟩ (.int .i64 d.next)).setCell ⟨w.heap.size + 1 + 1, 1, none⟩ (.slice la1 ln1 lc1)).setCell ⟨w.heap.size + 1 + 1, 2, none⟩ (.slice fa6 fn6 fc6)).setCell ⟨w.heap.size + 1 + 1, 3, none⟩ (.slice (some ⟨g, 0, none⟩) 4 sc1)).setCell ⟨w.heap.size + 1 + 1 + 1, 0, none⟩ (.int .i64 0)).setCell ⟨w.heap.size + 1 + 1 + 1, 1, none⟩ (.int .i64 t)).setCell ⟨w.heap.size + 1 + 1 + 1, 2, none⟩ (.string ⟨#[]⟩)).setCell ⟨w.heap.size + 1 + 1 + 1, 3, none⟩ (.slice aL nL cL)) from (by
      rw [unhide STG]
      exact ⟨⟨la1, ln1, lc1⟩, ⟨fa6, fn6, fc6⟩, ⟨some ⟨g, 0, none⟩, 4, sc1⟩, hs1, ⟨aL, nL, cL⟩, rfl, (.inr (OG.dn (Nat.le_of_lt hz0))), OLG, unhide BG⟩))
    clear hwy hwt OG OLG hlo hOE ky kt hO6 hB6 hW6
    go_wp2_with fail
    refine bodyPost_ret (v := .tuple #[.agg #[.int .i64 d.next, .slice la1 ln1 lc1, .slice fa6 fn6 fc6, .slice (some ⟨g, 0, none⟩) 4 sc1], .agg #[.int .i64 0, .int .i64 t, .string ⟨#[]⟩, .slice aL nL cL]]) (by simp [results, Tryz.results21, go_sem, *]) rfl ?_
    exact unhide RES
end Go.Proofs.YtfajenejngddeaaGreat
