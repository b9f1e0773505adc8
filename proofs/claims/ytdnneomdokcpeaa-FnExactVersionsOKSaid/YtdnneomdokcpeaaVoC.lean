/-
  spec.VersionsOK.
-/
import Derived.Test.YtdnneomdokcpeaaVoB
import Derived.Test.YtdnneomdokcpeaaVsC
namespace Go.Proofs.Ytdnneomdokcpeaa
open Go.RowKit

/-- A session is right as the specification says it. -/
theorem ses_long {next : Int} {s : SesD} (h : ¬ s.ws.length ≤ 8) : sesK next s = false := by
  unfold sesK
  split
  · unfold wrV; rw [decide_eq_false h]; simp
  · rw [decide_eq_false (show ¬ s.ws.length = 0 by omega)]; simp
theorem ses_shut {next : Int} {s : SesD} (ho : s.o = false) : sesK next s = (decide (s.t = 0) && decide (s.ws.length = 0)) := by unfold sesK; rw [if_neg (by rw [ho]; decide)]
theorem ses_open {next : Int} {s : SesD} (ho : s.o = true) (hl : s.ws.length ≤ 8) : sesK next s = (decide (1 ≤ s.t) && decide (s.t ≤ next - 1) && (okVs s.ws && oneT s.ws s.t)) := by
  unfold sesK wrV
  rw [if_pos ho, decide_eq_true hl]
  have : decide (s.t < next) = decide (s.t ≤ next - 1) := by rw [decide_eq_decide]; omega
  rw [this]
  cases decide (1 ≤ s.t) <;> cases decide (s.t ≤ next - 1) <;> simp
theorem fen_in {next : Int} {f : FenD} (h1 : f.f.size ≤ 40) (h2 : f.u.size ≤ 41) : fenK next f = (decide (1 ≤ f.t) && decide (f.t ≤ next - 1)) := by
  unfold fenK
  have : decide (f.t < next) = decide (f.t ≤ next - 1) := by rw [decide_eq_decide]; omega
  rw [decide_eq_true h1, decide_eq_true h2, this]
  rfl
set_option maxRecDepth 100000 in
set_option maxHeartbeats 8000000 in
theorem specVersionsOK_any (l f s : Sl) (rs : List SesR) (d : VsD) (w : World) (h : VsAt w l f s rs d) (hf : VsFew l f s rs) :
    Calls Try.prog 21 #[vsv d.next l f s] w fun e w' => e = .returned (.bool (okVsD d)) ∧ Below w.heap.size w w' := by
  obtain ⟨la, ln, lc⟩ := l
  obtain ⟨fa, fn, fc⟩ := f
  obtain ⟨sa, sn, sc⟩ := s
  have H := hide h
  have HF := hide hf
  have e1 : d.list.length = ln := h.v.1
  have e2 : d.fen.length = fn := h.f.1
  have e3 : d.ses.length = sn := h.ss.1.symm.trans h.s.1
  have TN := hide (fun (hx : ¬ (1 ≤ d.next ∧ d.next ≤ 1000 ∧ ln ≤ 4096 ∧ fn ≤ 4096 ∧ sn = 4)) => ok_top (top_no (by rw [e1, e2, e3]; exact hx)))
  have TY := hide (fun (h1 : 1 ≤ d.next) (h2 : d.next ≤ 1000) (h3 : ln ≤ 4096) (h4 : fn ≤ 4096) (h5 : sn = 4) => show okVsD d = (okVs d.list && (lateK d.list d.next && (d.fen.all (fenK d.next) && d.ses.all (sesK d.next)))) by
    unfold okVsD
    rw [top_yes h1 h2 (by rw [e1]; exact h3) (by rw [e2]; exact h4) (by rw [e3]; exact h5)]
    rfl)
  have EQ := hide (And.intro e1 (And.intro e2 e3))
  clear h hf e1 e2 e3
  have b0 : Below w.heap.size w (w.alloc (.cells #[.int .i64 d.next, .slice la ln lc, .slice fa fn fc, .slice sa sn sc] 47)) := (Below.refl _ _).alloc (Nat.le_refl _) _
  have k0 := heap_alloc_new w (.cells #[.int .i64 d.next, .slice la ln lc, .slice fa fn fc, .slice sa sn sc] 47)
  have K := hide k0
  clear k0
  unfold vsv
  simp only
  have SI := hide (vs_l01In d.next 1 1000)
  by_cases h1 : 1 ≤ d.next ∧ d.next ≤ 1000
  case neg =>
    have Z := hide (unhide TN (by omega))
    have hb1 : (decide (1 ≤ d.next) && decide (d.next ≤ 1000)) = false := by
      by_cases q : 1 ≤ d.next
      · rw [decide_eq_false (show ¬ d.next ≤ 1000 by omega)]; simp
      · rw [decide_eq_false q]; rfl
    rw [hb1] at SI
    generalize d.next = nx at *
    clear TY TN H HF EQ hb1 h1
    go_enter Try.func21, Try.ntmps21
    go_wp2_with (go_at_call 35; refine (unhide SI _).mono ?_; rintro e w1 ⟨rfl, rfl⟩)
    go_ret
    exact ⟨ret_bool (unhide Z), b0⟩
  have hb1 : (decide (1 ≤ d.next) && decide (d.next ≤ 1000)) = true := by rw [decide_eq_true h1.1, decide_eq_true h1.2]; rfl
  rw [hb1] at SI
  clear hb1
  by_cases h3 : ln ≤ 4096
  case neg =>
    have Z := hide (unhide TN (by omega))
    have g3 : (4096 : Int) < (ln : Int) := by omega
    generalize d.next = nx at *
    clear TY TN H HF EQ h1
    go_enter Try.func21, Try.ntmps21
    go_wp2_with (go_at_call 35; refine (unhide SI _).mono ?_; rintro e w1 ⟨rfl, rfl⟩)
    go_ret
    exact ⟨ret_bool (unhide Z), b0⟩
  by_cases h4 : fn ≤ 4096
  case neg =>
    have Z := hide (unhide TN (by omega))
    have g3 : ¬ (4096 : Int) < (ln : Int) := by omega
    have g4 : (4096 : Int) < (fn : Int) := by omega
    generalize d.next = nx at *
    clear TY TN H HF EQ h1
    go_enter Try.func21, Try.ntmps21
    go_wp2_with (go_at_call 35; refine (unhide SI _).mono ?_; rintro e w1 ⟨rfl, rfl⟩)
    go_ret
    exact ⟨ret_bool (unhide Z), b0⟩
  by_cases h5 : sn = 4
  case neg =>
    have Z := hide (unhide TN (by omega))
    have g3 : ¬ (4096 : Int) < (ln : Int) := by omega
    have g4 : ¬ (4096 : Int) < (fn : Int) := by omega
    have g5 : ((sn : Int) != 4) = true := by simp [bne]; omega
    generalize d.next = nx at *
    clear TY TN H HF EQ h1
    go_enter Try.func21, Try.ntmps21
    go_wp2_with (go_at_call 35; refine (unhide SI _).mono ?_; rintro e w1 ⟨rfl, rfl⟩)
    go_ret
    exact ⟨ret_bool (unhide Z), b0⟩
  subst h5
  have E := hide (unhide TY h1.1 h1.2 h3 h4 rfl)
  have g3 : ¬ (4096 : Int) < (ln : Int) := by omega
  have g4 : ¬ (4096 : Int) < (fn : Int) := by omega
  clear TY TN
  obtain ⟨nx, hnx⟩ : ∃ nx, nx = d.next := ⟨_, rfl⟩
  rw [← hnx] at b0 K E SI h1 ⊢
  have hwn : IntKind.i64.wrap (nx - 1) = nx - 1 := by rw [IntKind.wrap_i64]; omega
  clear hnx h1
  go_enter Try.func21, Try.ntmps21
  go_wp2_with (go_at_call 35; refine (unhide SI _).mono ?_; rintro e wq ⟨rfl, hww⟩; subst wq)
  generalize w.alloc (.cells #[.int .i64 nx, .slice la ln lc, .slice fa fn fc, .slice sa 4 sc] 47) = W at *
  generalize hbx : w.heap.size = bx at *
  clear g3 g4 SI
  have HH := hide (show ∀ u, Below bx w u → VsAt u ⟨la, ln, lc⟩ ⟨fa, fn, fc⟩ ⟨sa, 4, sc⟩ rs d from fun u hu => by subst hbx; exact (unhide H).below hu)
  refine (l06List_any la ln lc d.list W (by omega) (unhide HH W b0).v).mono ?_
  rintro e w1 ⟨rfl, hb⟩
  replace K := hide ((hb.block bx (Array.getElem?_eq_some_iff.1 (unhide K)).1).trans (unhide K))
  replace b0 := b0.trans (hb.mono (by subst hbx; exact b0.size))
  clear hb
  have hbs : bx ≤ w1.heap.size := by subst hbx; exact b0.size
  generalize okVs d.list = ok1 at *
  cases ok1
  · have Z := hide (show false = okVsD d by rw [unhide E]; rfl)
    go_wp2_with fail
    go_ret
    exact ⟨ret_bool (unhide Z), by subst hbx; exact b0⟩
  replace E := hide (show okVsD d = (lateK d.list nx && (d.fen.all (fenK nx) && d.ses.all (sesK nx))) by rw [unhide E]; rfl)
  go_wp2_with fail
  obtain ⟨c0, c1, c2, c3⟩ : w1.cell? ⟨bx, 0, none⟩ = some (.int .i64 nx) ∧ w1.cell? ⟨bx, 1, none⟩ = some (.slice la ln lc) ∧ w1.cell? ⟨bx, 2, none⟩ = some (.slice fa fn fc) ∧ w1.cell? ⟨bx, 3, none⟩ = some (.slice sa 4 sc) := ⟨(heap_at (unhide K) 0).1, (heap_at (unhide K) 1).1, (heap_at (unhide K) 2).1, (heap_at (unhide K) 3).1⟩
  go_loopw [3] (fun i wr => ∃ k : Nat, k ≤ ln ∧ i = .int .i64 k ∧ Hid (∀ i (hi : i < d.list.length), i < k → d.list[i].t < nx) ∧ ∃ q, wr = w1.drewN q) (fun i _ => ln - (intOf i).toNat)
  case atStart => exact ⟨0, Nat.zero_le _, rfl, (fun i _ hi => absurd hi (Nat.not_lt_zero _)), 0, rfl⟩
  case round =>
    obtain ⟨k, hk, rfl, hA, q, rfl⟩ := hrel
    by_cases hlt : k < ln
    · have hk2 : k < d.list.length := by rw [(unhide EQ).1]; exact hlt
      have hki : (k : Int) < (ln : Int) := by omega
      obtain ⟨b, off, rfl, d0, d1, d2, d3⟩ := (unhide HH w1 b0).v.2 k hk2
      have FZ := hide (fun (hf : ¬ d.list[k].t < nx) => show false = okVsD d by rw [unhide E, lateK_false hk2 hf]; rfl)
      have FY := hide (late_step hk2 (unhide hA))
      generalize d.list[k] = pd at *
      obtain ⟨pk, pt, pv, pg⟩ := pd
      simp only at d1 FZ FY
      clear d0 d2 d3 hA c2 c3
      by_cases ht : pt < nx
      · have Z := hide (unhide FY ht)
        have hd : decide (nx ≤ pt) = false := decide_eq_false (by omega)
        clear FZ FY ht
        go_wp2_with fail
        go_quiet (fail)
        go_wp2_with fail
        go_roundw
        case rel => exact ⟨k + 1, by omega, by go_num, unhide Z, _, rfl⟩
        case measure => simp [intOf]; omega
      · have Z := hide (unhide FZ ht)
        have hd : decide (nx ≤ pt) = true := decide_eq_true (by omega)
        clear FZ FY ht
        go_wp2_with fail
        go_quiet (fail)
        go_wp2_with fail
        go_ret
        exact ⟨ret_bool (unhide Z), by subst hbx; exact bel_drewN (bel_drewN b0 _) _⟩
    · obtain rfl : k = ln := by omega
      have hki : ¬ (k : Int) < (k : Int) := by omega
      replace E := hide (show okVsD d = (d.fen.all (fenK nx) && d.ses.all (sesK nx)) by
        rw [unhide E, lateK_true fun i hi => unhide hA i hi (by have := (unhide EQ).1; omega)]; rfl)
      clear hA
      go_wp2_with fail
      go_loopw [4] (fun i wr => ∃ k : Nat, k ≤ fn ∧ i = .int .i64 k ∧ Hid (∀ i (hi : i < d.fen.length), i < k → fenK nx d.fen[i] = true) ∧ ∃ q, wr = w1.drewN q) (fun i _ => fn - (intOf i).toNat)
      case atStart => exact ⟨0, Nat.zero_le _, rfl, (fun i _ hi => absurd hi (Nat.not_lt_zero _)), _, rfl⟩
      case round =>
        obtain ⟨j, hj, rfl, hA, q2, rfl⟩ := hrel
        by_cases hlt2 : j < fn
        · have hj2 : j < d.fen.length := by rw [(unhide EQ).2.1]; exact hlt2
          have hji : (j : Int) < (fn : Int) := by omega
          obtain ⟨b, off, rfl, d0, d1, d2⟩ := (unhide HH w1 b0).f.2 j hj2
          have FZ := hide (fun (hf : fenK nx d.fen[j] = false) => show false = okVsD d by rw [unhide E, all_false hj2 hf]; rfl)
          have FY := hide (step_all (p := fenK nx) hj2 (unhide hA))
          have FE := hide (show d.fen[j].f.size ≤ 40 → d.fen[j].u.size ≤ 41 → fenK nx d.fen[j] = (decide (1 ≤ d.fen[j].t) && decide (d.fen[j].t ≤ nx - 1)) from fen_in)
          have FN := hide (show ¬ (d.fen[j].f.size ≤ 40 ∧ d.fen[j].u.size ≤ 41) → fenK nx d.fen[j] = false from fun h => by
            unfold fenK
            by_cases h1 : d.fen[j].f.size ≤ 40
            · rw [decide_eq_false (show ¬ d.fen[j].u.size ≤ 41 from fun h2 => h ⟨h1, h2⟩)]; simp
            · rw [decide_eq_false h1]; rfl)
          generalize fenK nx d.fen[j] = fk at *
          generalize d.fen[j] = pd at *
          obtain ⟨pf, pu, pt⟩ := pd
          simp only at d0 d1 d2 FE FN
          clear hA c1 c3
          by_cases h1 : pf.size ≤ 40
          case neg =>
            have Z := hide (unhide FZ (unhide FN (fun h => h1 h.1)))
            have hd : decide ((40 : Int) < (pf.size : Int)) = true := decide_eq_true (by omega)
            clear FZ FY FE FN h1
            go_wp2_with fail
            go_quiet (fail)
            go_wp2_with fail
            go_ret
            exact ⟨ret_bool (unhide Z), by subst hbx; exact bel_drewN (bel_drewN b0 _) _⟩
          by_cases h2 : pu.size ≤ 41
          case neg =>
            have Z := hide (unhide FZ (unhide FN (fun h => h2 h.2)))
            have hd : decide ((40 : Int) < (pf.size : Int)) = false := decide_eq_false (by omega)
            have hd2 : decide ((41 : Int) < (pu.size : Int)) = true := decide_eq_true (by omega)
            clear FZ FY FE FN h1 h2
            go_wp2_with fail
            go_quiet (fail)
            go_wp2_with fail
            go_ret
            exact ⟨ret_bool (unhide Z), by subst hbx; exact bel_drewN (bel_drewN b0 _) _⟩
          have hd : decide ((40 : Int) < (pf.size : Int)) = false := decide_eq_false (by omega)
          have hd2 : decide ((41 : Int) < (pu.size : Int)) = false := decide_eq_false (by omega)
          have SI := hide (vs_l01In pt 1 (nx - 1))
          rw [← unhide FE h1 h2] at SI
          have SW := hide (show ∀ w, Calls Try.prog 35 #[.int .i64 pt, .int .i64 1, .int .i64 (IntKind.i64.wrap (nx - 1))] w fun e w' => e = .returned (.bool fk) ∧ w' = w from fun w => by rw [hwn]; exact unhide SI w)
          clear FE FN h1 h2
          cases fk
          · have Z := hide (unhide FZ rfl)
            clear FZ FY
            go_upto_region 11 with fail
            refine wp_region_held_drew (S := (fun u => Hid (u = (w1.drewN q2).drew) ∧ u.cell? ⟨bx, 0, none⟩ = some (.int .i64 nx) ∧ u.cell? ⟨bx, 2, none⟩ = some (.slice (some ⟨b, off, none⟩) fn fc) ∧ u.cell? ⟨b, off + j * 3, none⟩ = some (.string pf) ∧ u.cell? ⟨b, off + j * 3 + 1, none⟩ = some (.string pu) ∧ u.cell? ⟨b, off + j * 3 + 2, none⟩ = some (.int .i64 pt))) (by kernel_rfl) (⟨hide rfl, c0, c2, d0, d1, d2⟩) (fun hHeld => ?_)
            refine anyH_take 0 59 (v := ?v1) rfl rfl (by kernel_rfl) (by kernel_rfl) (by kernel_rfl) (fun _ _ _ h => h) (by rfl) ?h1 hHeld ?r1
            case h1 => (intro w hSw; (try dsimp only at hSw); go_simp; try (with_reducible rfl))
            simp only [Act.put, List.setIfInBounds_toArray, List.set_cons_zero, List.set_cons_succ]
            refine anyH_take 1 60 (v := ?v2) rfl rfl (by kernel_rfl) (by kernel_rfl) (by kernel_rfl) (fun _ _ _ h => h) (by rfl) ?h2 hHeld ?r2
            case h2 => (intro w hSw; (try dsimp only at hSw); go_simp; try (with_reducible rfl))
            simp only [Act.put, List.setIfInBounds_toArray, List.set_cons_zero, List.set_cons_succ]
            refine anyH_take 2 61 (v := ?v3) rfl rfl (by kernel_rfl) (by kernel_rfl) (by kernel_rfl) (fun _ _ _ h => h) (by rfl) ?h3 hHeld ?r3
            case h3 => (intro w hSw; (try dsimp only at hSw); go_simp; try (with_reducible rfl))
            simp only [Act.put, List.setIfInBounds_toArray, List.set_cons_zero, List.set_cons_succ]
            refine anyH_take 3 62 (v := ?v4) rfl rfl (by kernel_rfl) (by kernel_rfl) (by kernel_rfl) (fun _ _ _ h => h) (by rfl) ?h4 hHeld ?r4
            case h4 => (intro w hSw; (try dsimp only at hSw); go_simp; try (with_reducible rfl))
            simp only [Act.put, List.setIfInBounds_toArray, List.set_cons_zero, List.set_cons_succ]
            refine anyH_take 4 63 (v := ?v5) rfl rfl (by kernel_rfl) (by kernel_rfl) (by kernel_rfl) (fun _ _ _ h => h) (by rfl) ?h5 hHeld ?r5
            case h5 => (intro w hSw; (try dsimp only at hSw); go_simp; try (with_reducible rfl))
            simp only [Act.put, List.setIfInBounds_toArray, List.set_cons_zero, List.set_cons_succ]
            refine anyH_take 5 64 (v := ?v6) rfl rfl (by kernel_rfl) (by kernel_rfl) (by kernel_rfl) (fun _ _ _ h => h) (by rfl) ?h6 hHeld ?r6
            case h6 => (intro w hSw; (try dsimp only at hSw); go_simp; try (with_reducible rfl))
            simp only [Act.put, List.setIfInBounds_toArray, List.set_cons_zero, List.set_cons_succ]
            refine anyH_take 6 65 (v := ?v7) rfl rfl (by kernel_rfl) (by kernel_rfl) (by kernel_rfl) (fun _ _ _ h => h) (by rfl) ?h7 hHeld ?r7
            case h7 => (intro w hSw; (try dsimp only at hSw); go_simp; try (with_reducible rfl))
            simp only [Act.put, List.setIfInBounds_toArray, List.set_cons_zero, List.set_cons_succ]
            refine anyH_take 7 66 (v := ?v8) rfl rfl (by kernel_rfl) (by kernel_rfl) (by kernel_rfl) (fun _ _ _ h => h) (by rfl) ?h8 hHeld ?r8
            case h8 => (intro w hSw; (try dsimp only at hSw); go_simp; try (with_reducible rfl))
            simp only [Act.put, List.setIfInBounds_toArray, List.set_cons_zero, List.set_cons_succ]
            refine anyH_take 8 67 (v := ?v9) rfl rfl (by kernel_rfl) (by kernel_rfl) (by kernel_rfl) (fun _ _ _ h => h) (by rfl) ?h9 hHeld ?r9
            case h9 => (intro w hSw; (try dsimp only at hSw); go_simp; try (with_reducible rfl))
            simp only [Act.put, List.setIfInBounds_toArray, List.set_cons_zero, List.set_cons_succ]
            refine anyH_take 9 68 (v := ?v10) rfl rfl (by kernel_rfl) (by kernel_rfl) (by kernel_rfl) (fun _ _ _ h => h) (by rfl) ?h10 hHeld ?r10
            case h10 => (intro w hSw; (try dsimp only at hSw); go_simp; try (with_reducible rfl))
            simp only [Act.put, List.setIfInBounds_toArray, List.set_cons_zero, List.set_cons_succ]
            refine anyH_take 10 69 (v := ?v11) rfl rfl (by kernel_rfl) (by kernel_rfl) (by kernel_rfl) (fun _ _ _ h => h) (by rfl) ?h11 hHeld ?r11
            case h11 => (intro w hSw; (try dsimp only at hSw); go_simp; try (with_reducible rfl))
            simp only [Act.put, List.setIfInBounds_toArray, List.set_cons_zero, List.set_cons_succ]
            refine anyH_take 11 70 (v := ?v12) rfl rfl (by kernel_rfl) (by kernel_rfl) (by kernel_rfl) (fun _ _ _ h => h) (by rfl) ?h12 hHeld ?r12
            case h12 => (intro w hSw; (try dsimp only at hSw); go_simp; try (with_reducible rfl))
            simp only [Act.put, List.setIfInBounds_toArray, List.set_cons_zero, List.set_cons_succ]
            refine anyH_take 12 71 (v := ?v13) rfl rfl (by kernel_rfl) (by kernel_rfl) (by kernel_rfl) (fun _ _ _ h => h) (by rfl) ?h13 hHeld ?r13
            case h13 => (intro w hSw; (try dsimp only at hSw); go_simp; try (with_reducible rfl))
            simp only [Act.put, List.setIfInBounds_toArray, List.set_cons_zero, List.set_cons_succ]
            refine anyH_take 13 72 (v := ?v14) rfl rfl (by kernel_rfl) (by kernel_rfl) (by kernel_rfl) (fun _ _ _ h => h) (by rfl) ?h14 hHeld ?r14
            case h14 => (intro w hSw; (try dsimp only at hSw); go_simp; try (with_reducible rfl))
            simp only [Act.put, List.setIfInBounds_toArray, List.set_cons_zero, List.set_cons_succ]
            refine anyH_take 14 73 (v := ?v15) rfl rfl (by kernel_rfl) (by kernel_rfl) (by kernel_rfl) (fun _ _ _ h => h) (by rfl) ?h15 hHeld ?r15
            case h15 => (intro w hSw; (try dsimp only at hSw); go_simp; try (with_reducible rfl))
            simp only [Act.put, List.setIfInBounds_toArray, List.set_cons_zero, List.set_cons_succ]
            refine anyH_take 15 74 (v := ?v16) rfl rfl (by kernel_rfl) (by kernel_rfl) (by kernel_rfl) (fun _ _ _ h => h) (by rfl) ?h16 hHeld ?r16
            case h16 => (intro w hSw; (try dsimp only at hSw); go_simp; try (with_reducible rfl))
            simp only [Act.put, List.setIfInBounds_toArray, List.set_cons_zero, List.set_cons_succ]
            refine anyH_take 16 75 (v := ?v17) rfl rfl (by kernel_rfl) (by kernel_rfl) (by kernel_rfl) (fun _ _ _ h => h) (by rfl) ?h17 hHeld ?r17
            case h17 => (intro w hSw; (try dsimp only at hSw); go_simp; try (with_reducible rfl))
            simp only [Act.put, List.setIfInBounds_toArray, List.set_cons_zero, List.set_cons_succ]
            refine anyH_take 17 76 (v := ?v18) rfl rfl (by kernel_rfl) (by kernel_rfl) (by kernel_rfl) (fun _ _ _ h => h) (by rfl) ?h18 hHeld ?r18
            case h18 => (intro w hSw; (try dsimp only at hSw); go_simp; try (with_reducible rfl))
            simp only [Act.put, List.setIfInBounds_toArray, List.set_cons_zero, List.set_cons_succ]
            refine anyH_take 18 77 (v := ?v19) rfl rfl (by kernel_rfl) (by kernel_rfl) (by kernel_rfl) (fun _ _ _ h => h) (by rfl) ?h19 hHeld ?r19
            case h19 => (intro w hSw; (try dsimp only at hSw); go_simp; try (with_reducible rfl))
            simp only [Act.put, List.setIfInBounds_toArray, List.set_cons_zero, List.set_cons_succ]
            refine anyH_take 19 78 (v := ?v20) rfl rfl (by kernel_rfl) (by kernel_rfl) (by kernel_rfl) (fun _ _ _ h => h) (by rfl) ?h20 hHeld ?r20
            case h20 => (intro w hSw; (try dsimp only at hSw); go_simp; try (with_reducible rfl))
            simp only [Act.put, List.setIfInBounds_toArray, List.set_cons_zero, List.set_cons_succ]
            refine anyH_take 20 79 (v := ?v21) rfl rfl (by kernel_rfl) (by kernel_rfl) (by kernel_rfl) (fun _ _ _ h => h) (by rfl) ?h21 hHeld ?r21
            case h21 => (intro w hSw; (try dsimp only at hSw); go_simp; try (with_reducible rfl))
            simp only [Act.put, List.setIfInBounds_toArray, List.set_cons_zero, List.set_cons_succ]
            refine anyH_take 21 80 (v := ?v22) rfl rfl (by kernel_rfl) (by kernel_rfl) (by kernel_rfl) (fun _ _ _ h => h) (by rfl) ?h22 hHeld ?r22
            case h22 => (intro w hSw; (try dsimp only at hSw); go_simp; try (with_reducible rfl))
            simp only [Act.put, List.setIfInBounds_toArray, List.set_cons_zero, List.set_cons_succ]
            refine anyH_take 22 81 (v := ?v23) rfl rfl (by kernel_rfl) (by kernel_rfl) (by kernel_rfl) (fun _ _ _ h => h) (by rfl) ?h23 hHeld ?r23
            case h23 => (intro w hSw; (try dsimp only at hSw); go_simp; try (with_reducible rfl))
            simp only [Act.put, List.setIfInBounds_toArray, List.set_cons_zero, List.set_cons_succ]
            refine anyH_take 23 82 (v := ?v24) rfl rfl (by kernel_rfl) (by kernel_rfl) (by kernel_rfl) (fun _ _ _ h => h) (by rfl) ?h24 hHeld ?r24
            case h24 => (intro w hSw; (try dsimp only at hSw); go_simp; try (with_reducible rfl))
            simp only [Act.put, List.setIfInBounds_toArray, List.set_cons_zero, List.set_cons_succ]
            refine anyH_take 24 83 (v := ?v25) rfl rfl (by kernel_rfl) (by kernel_rfl) (by kernel_rfl) (fun _ _ _ h => h) (by rfl) ?h25 hHeld ?r25
            case h25 => (intro w hSw; (try dsimp only at hSw); go_simp; try (with_reducible rfl))
            simp only [Act.put, List.setIfInBounds_toArray, List.set_cons_zero, List.set_cons_succ]
            refine anyH_take 25 84 (v := ?v26) rfl rfl (by kernel_rfl) (by kernel_rfl) (by kernel_rfl) (fun _ _ _ h => h) (by rfl) ?h26 hHeld ?r26
            case h26 => (intro w hSw; (try dsimp only at hSw); go_simp; try (with_reducible rfl))
            simp only [Act.put, List.setIfInBounds_toArray, List.set_cons_zero, List.set_cons_succ]
            refine anyH_take 26 85 (v := ?v27) rfl rfl (by kernel_rfl) (by kernel_rfl) (by kernel_rfl) (fun _ _ _ h => h) (by rfl) ?h27 hHeld ?r27
            case h27 => (intro w hSw; (try dsimp only at hSw); go_simp; try (with_reducible rfl))
            simp only [Act.put, List.setIfInBounds_toArray, List.set_cons_zero, List.set_cons_succ]
            refine anyH_take 27 86 (v := ?v28) rfl rfl (by kernel_rfl) (by kernel_rfl) (by kernel_rfl) (fun _ _ _ h => h) (by rfl) ?h28 hHeld ?r28
            case h28 => (intro w hSw; (try dsimp only at hSw); go_simp; try (with_reducible rfl))
            simp only [Act.put, List.setIfInBounds_toArray, List.set_cons_zero, List.set_cons_succ]
            refine wpAnyH_ready (rs := [28]) (by kernel_rfl) (by simp) ?_
            refine AllReadyH.cons rfl (fun K hK => ?_) AllReadyH.nil
            go_simp
            first | refine (unhide SI _).mono ?_ | refine (unhide SW _).mono ?_
            rintro e wz ⟨rfl, hzz⟩
            subst wz
            refine hK.out _ _ (⟨hide rfl, c0, c2, d0, d1, d2⟩) (fun hHeld => ?_)
            clear hK K
            refine anyH_take 29 88 (v := ?v29) rfl rfl (by kernel_rfl) (by kernel_rfl) (by kernel_rfl) (fun _ _ _ h => h) (by rfl) ?h29 hHeld ?r29
            case h29 => (intro w hSw; (try dsimp only at hSw); go_simp; try (with_reducible rfl))
            simp only [Act.put, List.setIfInBounds_toArray, List.set_cons_zero, List.set_cons_succ]
            refine anyH_take 30 89 (v := ?v30) rfl rfl (by kernel_rfl) (by kernel_rfl) (by kernel_rfl) (fun _ _ _ h => h) (by rfl) ?h30 hHeld ?r30
            case h30 => (intro w hSw; (try dsimp only at hSw); go_simp; try (with_reducible rfl))
            simp only [Act.put, List.setIfInBounds_toArray, List.set_cons_zero, List.set_cons_succ]
            refine wpAnyH_done (by kernel_rfl) ?_ _
            go_wp2_with fail
            go_ret
            exact ⟨ret_bool (unhide Z), by subst hbx; exact (bel_drewN b0 _).drew⟩
          · have Z := hide (unhide FY rfl)
            clear FZ FY
            go_upto_region 11 with fail
            refine wp_region_held_drew (S := (fun u => Hid (u = (w1.drewN q2).drew) ∧ u.cell? ⟨bx, 0, none⟩ = some (.int .i64 nx) ∧ u.cell? ⟨bx, 2, none⟩ = some (.slice (some ⟨b, off, none⟩) fn fc) ∧ u.cell? ⟨b, off + j * 3, none⟩ = some (.string pf) ∧ u.cell? ⟨b, off + j * 3 + 1, none⟩ = some (.string pu) ∧ u.cell? ⟨b, off + j * 3 + 2, none⟩ = some (.int .i64 pt))) (by kernel_rfl) (⟨hide rfl, c0, c2, d0, d1, d2⟩) (fun hHeld => ?_)
            refine anyH_take 0 59 (v := ?v31) rfl rfl (by kernel_rfl) (by kernel_rfl) (by kernel_rfl) (fun _ _ _ h => h) (by rfl) ?h31 hHeld ?r31
            case h31 => (intro w hSw; (try dsimp only at hSw); go_simp; try (with_reducible rfl))
            simp only [Act.put, List.setIfInBounds_toArray, List.set_cons_zero, List.set_cons_succ]
            refine anyH_take 1 60 (v := ?v32) rfl rfl (by kernel_rfl) (by kernel_rfl) (by kernel_rfl) (fun _ _ _ h => h) (by rfl) ?h32 hHeld ?r32
            case h32 => (intro w hSw; (try dsimp only at hSw); go_simp; try (with_reducible rfl))
            simp only [Act.put, List.setIfInBounds_toArray, List.set_cons_zero, List.set_cons_succ]
            refine anyH_take 2 61 (v := ?v33) rfl rfl (by kernel_rfl) (by kernel_rfl) (by kernel_rfl) (fun _ _ _ h => h) (by rfl) ?h33 hHeld ?r33
            case h33 => (intro w hSw; (try dsimp only at hSw); go_simp; try (with_reducible rfl))
            simp only [Act.put, List.setIfInBounds_toArray, List.set_cons_zero, List.set_cons_succ]
            refine anyH_take 3 62 (v := ?v34) rfl rfl (by kernel_rfl) (by kernel_rfl) (by kernel_rfl) (fun _ _ _ h => h) (by rfl) ?h34 hHeld ?r34
            case h34 => (intro w hSw; (try dsimp only at hSw); go_simp; try (with_reducible rfl))
            simp only [Act.put, List.setIfInBounds_toArray, List.set_cons_zero, List.set_cons_succ]
            refine anyH_take 4 63 (v := ?v35) rfl rfl (by kernel_rfl) (by kernel_rfl) (by kernel_rfl) (fun _ _ _ h => h) (by rfl) ?h35 hHeld ?r35
            case h35 => (intro w hSw; (try dsimp only at hSw); go_simp; try (with_reducible rfl))
            simp only [Act.put, List.setIfInBounds_toArray, List.set_cons_zero, List.set_cons_succ]
            refine anyH_take 5 64 (v := ?v36) rfl rfl (by kernel_rfl) (by kernel_rfl) (by kernel_rfl) (fun _ _ _ h => h) (by rfl) ?h36 hHeld ?r36
            case h36 => (intro w hSw; (try dsimp only at hSw); go_simp; try (with_reducible rfl))
            simp only [Act.put, List.setIfInBounds_toArray, List.set_cons_zero, List.set_cons_succ]
            refine anyH_take 6 65 (v := ?v37) rfl rfl (by kernel_rfl) (by kernel_rfl) (by kernel_rfl) (fun _ _ _ h => h) (by rfl) ?h37 hHeld ?r37
            case h37 => (intro w hSw; (try dsimp only at hSw); go_simp; try (with_reducible rfl))
            simp only [Act.put, List.setIfInBounds_toArray, List.set_cons_zero, List.set_cons_succ]
            refine anyH_take 7 66 (v := ?v38) rfl rfl (by kernel_rfl) (by kernel_rfl) (by kernel_rfl) (fun _ _ _ h => h) (by rfl) ?h38 hHeld ?r38
            case h38 => (intro w hSw; (try dsimp only at hSw); go_simp; try (with_reducible rfl))
            simp only [Act.put, List.setIfInBounds_toArray, List.set_cons_zero, List.set_cons_succ]
            refine anyH_take 8 67 (v := ?v39) rfl rfl (by kernel_rfl) (by kernel_rfl) (by kernel_rfl) (fun _ _ _ h => h) (by rfl) ?h39 hHeld ?r39
            case h39 => (intro w hSw; (try dsimp only at hSw); go_simp; try (with_reducible rfl))
            simp only [Act.put, List.setIfInBounds_toArray, List.set_cons_zero, List.set_cons_succ]
            refine anyH_take 9 68 (v := ?v40) rfl rfl (by kernel_rfl) (by kernel_rfl) (by kernel_rfl) (fun _ _ _ h => h) (by rfl) ?h40 hHeld ?r40
            case h40 => (intro w hSw; (try dsimp only at hSw); go_simp; try (with_reducible rfl))
            simp only [Act.put, List.setIfInBounds_toArray, List.set_cons_zero, List.set_cons_succ]
            refine anyH_take 10 69 (v := ?v41) rfl rfl (by kernel_rfl) (by kernel_rfl) (by kernel_rfl) (fun _ _ _ h => h) (by rfl) ?h41 hHeld ?r41
            case h41 => (intro w hSw; (try dsimp only at hSw); go_simp; try (with_reducible rfl))
            simp only [Act.put, List.setIfInBounds_toArray, List.set_cons_zero, List.set_cons_succ]
            refine anyH_take 11 70 (v := ?v42) rfl rfl (by kernel_rfl) (by kernel_rfl) (by kernel_rfl) (fun _ _ _ h => h) (by rfl) ?h42 hHeld ?r42
            case h42 => (intro w hSw; (try dsimp only at hSw); go_simp; try (with_reducible rfl))
            simp only [Act.put, List.setIfInBounds_toArray, List.set_cons_zero, List.set_cons_succ]
            refine anyH_take 12 71 (v := ?v43) rfl rfl (by kernel_rfl) (by kernel_rfl) (by kernel_rfl) (fun _ _ _ h => h) (by rfl) ?h43 hHeld ?r43
            case h43 => (intro w hSw; (try dsimp only at hSw); go_simp; try (with_reducible rfl))
            simp only [Act.put, List.setIfInBounds_toArray, List.set_cons_zero, List.set_cons_succ]
            refine anyH_take 13 72 (v := ?v44) rfl rfl (by kernel_rfl) (by kernel_rfl) (by kernel_rfl) (fun _ _ _ h => h) (by rfl) ?h44 hHeld ?r44
            case h44 => (intro w hSw; (try dsimp only at hSw); go_simp; try (with_reducible rfl))
            simp only [Act.put, List.setIfInBounds_toArray, List.set_cons_zero, List.set_cons_succ]
            refine anyH_take 14 73 (v := ?v45) rfl rfl (by kernel_rfl) (by kernel_rfl) (by kernel_rfl) (fun _ _ _ h => h) (by rfl) ?h45 hHeld ?r45
            case h45 => (intro w hSw; (try dsimp only at hSw); go_simp; try (with_reducible rfl))
            simp only [Act.put, List.setIfInBounds_toArray, List.set_cons_zero, List.set_cons_succ]
            refine anyH_take 15 74 (v := ?v46) rfl rfl (by kernel_rfl) (by kernel_rfl) (by kernel_rfl) (fun _ _ _ h => h) (by rfl) ?h46 hHeld ?r46
            case h46 => (intro w hSw; (try dsimp only at hSw); go_simp; try (with_reducible rfl))
            simp only [Act.put, List.setIfInBounds_toArray, List.set_cons_zero, List.set_cons_succ]
            refine anyH_take 16 75 (v := ?v47) rfl rfl (by kernel_rfl) (by kernel_rfl) (by kernel_rfl) (fun _ _ _ h => h) (by rfl) ?h47 hHeld ?r47
            case h47 => (intro w hSw; (try dsimp only at hSw); go_simp; try (with_reducible rfl))
            simp only [Act.put, List.setIfInBounds_toArray, List.set_cons_zero, List.set_cons_succ]
            refine anyH_take 17 76 (v := ?v48) rfl rfl (by kernel_rfl) (by kernel_rfl) (by kernel_rfl) (fun _ _ _ h => h) (by rfl) ?h48 hHeld ?r48
            case h48 => (intro w hSw; (try dsimp only at hSw); go_simp; try (with_reducible rfl))
            simp only [Act.put, List.setIfInBounds_toArray, List.set_cons_zero, List.set_cons_succ]
            refine anyH_take 18 77 (v := ?v49) rfl rfl (by kernel_rfl) (by kernel_rfl) (by kernel_rfl) (fun _ _ _ h => h) (by rfl) ?h49 hHeld ?r49
            case h49 => (intro w hSw; (try dsimp only at hSw); go_simp; try (with_reducible rfl))
            simp only [Act.put, List.setIfInBounds_toArray, List.set_cons_zero, List.set_cons_succ]
            refine anyH_take 19 78 (v := ?v50) rfl rfl (by kernel_rfl) (by kernel_rfl) (by kernel_rfl) (fun _ _ _ h => h) (by rfl) ?h50 hHeld ?r50
            case h50 => (intro w hSw; (try dsimp only at hSw); go_simp; try (with_reducible rfl))
            simp only [Act.put, List.setIfInBounds_toArray, List.set_cons_zero, List.set_cons_succ]
            refine anyH_take 20 79 (v := ?v51) rfl rfl (by kernel_rfl) (by kernel_rfl) (by kernel_rfl) (fun _ _ _ h => h) (by rfl) ?h51 hHeld ?r51
            case h51 => (intro w hSw; (try dsimp only at hSw); go_simp; try (with_reducible rfl))
            simp only [Act.put, List.setIfInBounds_toArray, List.set_cons_zero, List.set_cons_succ]
            refine anyH_take 21 80 (v := ?v52) rfl rfl (by kernel_rfl) (by kernel_rfl) (by kernel_rfl) (fun _ _ _ h => h) (by rfl) ?h52 hHeld ?r52
            case h52 => (intro w hSw; (try dsimp only at hSw); go_simp; try (with_reducible rfl))
            simp only [Act.put, List.setIfInBounds_toArray, List.set_cons_zero, List.set_cons_succ]
            refine anyH_take 22 81 (v := ?v53) rfl rfl (by kernel_rfl) (by kernel_rfl) (by kernel_rfl) (fun _ _ _ h => h) (by rfl) ?h53 hHeld ?r53
            case h53 => (intro w hSw; (try dsimp only at hSw); go_simp; try (with_reducible rfl))
            simp only [Act.put, List.setIfInBounds_toArray, List.set_cons_zero, List.set_cons_succ]
            refine anyH_take 23 82 (v := ?v54) rfl rfl (by kernel_rfl) (by kernel_rfl) (by kernel_rfl) (fun _ _ _ h => h) (by rfl) ?h54 hHeld ?r54
            case h54 => (intro w hSw; (try dsimp only at hSw); go_simp; try (with_reducible rfl))
            simp only [Act.put, List.setIfInBounds_toArray, List.set_cons_zero, List.set_cons_succ]
            refine anyH_take 24 83 (v := ?v55) rfl rfl (by kernel_rfl) (by kernel_rfl) (by kernel_rfl) (fun _ _ _ h => h) (by rfl) ?h55 hHeld ?r55
            case h55 => (intro w hSw; (try dsimp only at hSw); go_simp; try (with_reducible rfl))
            simp only [Act.put, List.setIfInBounds_toArray, List.set_cons_zero, List.set_cons_succ]
            refine anyH_take 25 84 (v := ?v56) rfl rfl (by kernel_rfl) (by kernel_rfl) (by kernel_rfl) (fun _ _ _ h => h) (by rfl) ?h56 hHeld ?r56
            case h56 => (intro w hSw; (try dsimp only at hSw); go_simp; try (with_reducible rfl))
            simp only [Act.put, List.setIfInBounds_toArray, List.set_cons_zero, List.set_cons_succ]
            refine anyH_take 26 85 (v := ?v57) rfl rfl (by kernel_rfl) (by kernel_rfl) (by kernel_rfl) (fun _ _ _ h => h) (by rfl) ?h57 hHeld ?r57
            case h57 => (intro w hSw; (try dsimp only at hSw); go_simp; try (with_reducible rfl))
            simp only [Act.put, List.setIfInBounds_toArray, List.set_cons_zero, List.set_cons_succ]
            refine anyH_take 27 86 (v := ?v58) rfl rfl (by kernel_rfl) (by kernel_rfl) (by kernel_rfl) (fun _ _ _ h => h) (by rfl) ?h58 hHeld ?r58
            case h58 => (intro w hSw; (try dsimp only at hSw); go_simp; try (with_reducible rfl))
            simp only [Act.put, List.setIfInBounds_toArray, List.set_cons_zero, List.set_cons_succ]
            refine wpAnyH_ready (rs := [28]) (by kernel_rfl) (by simp) ?_
            refine AllReadyH.cons rfl (fun K hK => ?_) AllReadyH.nil
            go_simp
            first | refine (unhide SI _).mono ?_ | refine (unhide SW _).mono ?_
            rintro e wz ⟨rfl, hzz⟩
            subst wz
            refine hK.out _ _ (⟨hide rfl, c0, c2, d0, d1, d2⟩) (fun hHeld => ?_)
            clear hK K
            refine anyH_take 29 88 (v := ?v59) rfl rfl (by kernel_rfl) (by kernel_rfl) (by kernel_rfl) (fun _ _ _ h => h) (by rfl) ?h59 hHeld ?r59
            case h59 => (intro w hSw; (try dsimp only at hSw); go_simp; try (with_reducible rfl))
            simp only [Act.put, List.setIfInBounds_toArray, List.set_cons_zero, List.set_cons_succ]
            refine anyH_take 30 89 (v := ?v60) rfl rfl (by kernel_rfl) (by kernel_rfl) (by kernel_rfl) (fun _ _ _ h => h) (by rfl) ?h60 hHeld ?r60
            case h60 => (intro w hSw; (try dsimp only at hSw); go_simp; try (with_reducible rfl))
            simp only [Act.put, List.setIfInBounds_toArray, List.set_cons_zero, List.set_cons_succ]
            refine wpAnyH_done (by kernel_rfl) ?_ _
            go_wp2_with fail
            go_roundw
            case rel => exact ⟨j + 1, by omega, by go_num, unhide Z, q2 + 1, rfl⟩
            case measure => simp [intOf]; omega
        · obtain rfl : j = fn := by omega
          have hji : ¬ (j : Int) < (j : Int) := by omega
          replace E := hide (show okVsD d = d.ses.all (sesK nx) by
            rw [unhide E, all_true fun i hi => unhide hA i hi (by have := (unhide EQ).2.1; omega)]; rfl)
          clear hA
          go_wp2_with fail
          clear c1 c2
          go_loopw [5] (fun i wr => ∃ k : Nat, k ≤ 4 ∧ i = .int .i64 k ∧ Hid (∀ i (hi : i < d.ses.length), i < k → sesK nx d.ses[i] = true) ∧ Hid (Below bx w wr) ∧ Hid (wr.cell? ⟨bx, 0, none⟩ = some (.int .i64 nx) ∧ wr.cell? ⟨bx, 3, none⟩ = some (.slice sa 4 sc)) ∧ bx < wr.heap.size) (fun i _ => 4 - (intOf i).toNat)
          case atStart => exact ⟨0, Nat.zero_le _, rfl, (fun i _ hi => absurd hi (Nat.not_lt_zero _)), bel_drewN b0 _, ⟨c0, c3⟩, (Array.getElem?_eq_some_iff.1 (unhide K)).1⟩
          case round =>
            clear c0 c3 K b0 hbs
            obtain ⟨m, hm, rfl, hA, hB, hC, hbs⟩ := hrel
            obtain ⟨c0, c3⟩ := unhide hC
            by_cases hlt3 : m < 4
            · have hm2 : m < d.ses.length := by rw [(unhide EQ).2.2]; exact hlt3
              have hm3 : m < rs.length := by rw [(unhide HH _ (unhide hB)).ss.1]; exact hm2
              have hmi : (m : Int) < 4 := by omega
              obtain ⟨b, off, rfl, d0, d1, d2⟩ := (unhide HH _ (unhide hB)).s.2 m hm3
              have VV := hide (show ∀ u, Below bx w u → rs[m].o = d.ses[m].o ∧ rs[m].t = d.ses[m].t ∧ VRow u rs[m].ws.a rs[m].ws.n d.ses[m].ws from fun u hu => (unhide HH u hu).ss.2 m hm3 hm2)
              have WN := (unhide HF).w m hm3
              have FZ := hide (fun (hf : sesK nx d.ses[m] = false) => show false = okVsD d by rw [unhide E, all_false hm2 hf])
              have FY := hide (step_all (p := sesK nx) hm2 (unhide hA))
              generalize d.ses[m] = sd at *
              generalize rs[m] = pd at *
              obtain ⟨po, pt, pa, pn, pc⟩ := pd
              obtain ⟨so, st, sws⟩ := sd
              obtain ⟨eo, et, _⟩ := unhide VV _ (unhide hB)
              simp only at d0 d1 d2 VV WN eo et
              subst eo et
              have LW := hide (unhide VV _ (unhide hB)).2.2.1
              have B1 : Below wr.heap.size wr (wr.alloc (.cells #[.bool po, .int .i64 pt, .slice pa pn pc] 76)) := (Below.refl _ _).alloc (Nat.le_refl _) _
              have BX := hide ((unhide hB).trans (B1.mono (by omega)))
              have x0 := (B1.cell (p := ⟨bx, 0, none⟩) hbs).trans c0
              have x3 := (B1.cell (p := ⟨bx, 3, none⟩) hbs).trans c3
              have KS := hide (heap_alloc_new wr (.cells #[.bool po, .int .i64 pt, .slice pa pn pc] 76))
              have hs1 := B1.size
              have hsx : bx < wr.heap.size := hbs
              clear B1 hA hB hC
              go_upto_region 17 with fail
              clear c0 c3 d0 d1 d2
              generalize wr.alloc (.cells #[.bool po, .int .i64 pt, .slice pa pn pc] 76) = W2 at *
              have hbs2 : bx < W2.heap.size := by omega
              generalize wr.heap.size = sx at *
              obtain ⟨y0, y1, y2⟩ : W2.cell? ⟨sx, 0, none⟩ = some (.bool po) ∧ W2.cell? ⟨sx, 1, none⟩ = some (.int .i64 pt) ∧ W2.cell? ⟨sx, 2, none⟩ = some (.slice pa pn pc) := ⟨(heap_at (unhide KS) 0).1, (heap_at (unhide KS) 1).1, (heap_at (unhide KS) 2).1⟩
              by_cases hl8 : pn ≤ 8
              case neg =>
                have Z := hide (unhide FZ (ses_long (by rw [unhide LW]; exact hl8)))
                have g8 : (8 : Int) < (pn : Int) := by omega
                clear FZ FY
                go_wp2_with fail
                go_ret
                exact ⟨ret_bool (unhide Z), by subst hbx; exact unhide BX⟩
              have g8 : ¬ (8 : Int) < (pn : Int) := by omega
              have LS := hide (show Calls Try.prog 42 #[.slice pa pn pc] W2 fun e w' => e = .returned (.bool (okVs sws)) ∧ Below W2.heap.size W2 w' from l06List_any pa pn pc sws W2 WN (unhide VV W2 (unhide BX)).2.2)
              cases po
              · have SE := hide (ses_shut (next := nx) (s := ⟨false, pt, sws⟩) rfl)
                by_cases ht : pt = 0
                · subst ht
                  by_cases hp : pn = 0
                  · subst hp
                    have Z := hide (unhide FY (by rw [unhide SE]; simp only; rw [unhide LW]; rfl))
                    have hws : sws = [] := List.eq_nil_of_length_eq_zero (unhide LW)
                    have EO := hide (show okVs sws = true by rw [hws]; rfl)
                    rw [unhide EO] at LS
                    clear FZ FY SE hws EO g8 hl8
                    go_wp2_with fail
                    refine (unhide LS).mono ?_
                    rintro e w3 ⟨rfl, hb⟩
                    have z0 := (hb.cell (p := ⟨bx, 0, none⟩) hbs2).trans x0
                    have z3 := (hb.cell (p := ⟨bx, 3, none⟩) hbs2).trans x3
                    have z2 := (hb.cell (p := ⟨sx, 2, none⟩) (cell_lt y2)).trans y2
                    have B3 := hide ((unhide BX).trans (hb.mono (by omega)))
                    have hs3 := hb.size
                    clear hb LS y0 y1 y2 x0 x3 BX
                    go_wp2_with fail
                    refine wp_loop_rounds 1 ?_
                    rw [rounds_succ]
                    go_wp2_with fail
                    go_roundw
                    case rel => exact ⟨m + 1, by omega, by go_num, unhide Z, unhide B3, ⟨z0, z3⟩, by omega⟩
                    case measure => simp [intOf]; omega
                  · have Z := hide (unhide FZ (by rw [unhide SE]; simp only; rw [unhide LW, decide_eq_false hp]; simp))
                    have gp : (0 : Int) < (pn : Int) := by omega
                    clear FZ FY SE LS
                    go_wp2_with fail
                    go_ret
                    exact ⟨ret_bool (unhide Z), by subst hbx; exact unhide BX⟩
                · have Z := hide (unhide FZ (by rw [unhide SE]; simp only; rw [decide_eq_false ht]; rfl))
                  have gp : (pt != 0) = true := by simpa [bne] using ht
                  clear FZ FY SE LS
                  go_wp2_with fail
                  go_ret
                  exact ⟨ret_bool (unhide Z), by subst hbx; exact unhide BX⟩
              · have SE := hide (ses_open (next := nx) (s := ⟨true, pt, sws⟩) rfl (by rw [unhide LW]; exact hl8))
                simp only at SE
                have SI := hide (vs_l01In pt 1 (nx - 1))
                generalize (decide (1 ≤ pt) && decide (pt ≤ nx - 1)) = bi at *
                have SW := hide (show ∀ w, Calls Try.prog 35 #[.int .i64 pt, .int .i64 1, .int .i64 (IntKind.i64.wrap (nx - 1))] w fun e w' => e = .returned (.bool bi) ∧ w' = w from fun w => by rw [hwn]; exact unhide SI w)
                cases bi
                · have Z := hide (unhide FZ (by rw [unhide SE]; rfl))
                  clear FZ FY SE LS
                  go_wp2_with (first | (go_at_call 35; refine (unhide SI _).mono ?_; rintro e wq ⟨rfl, hww⟩; subst wq) | (go_at_call 35; refine (unhide SW _).mono ?_; rintro e wq ⟨rfl, hww⟩; subst wq))
                  go_ret
                  exact ⟨ret_bool (unhide Z), by subst hbx; exact unhide BX⟩
                · have EO := hide (show sesK nx ⟨true, pt, sws⟩ = (okVs sws && oneT sws pt) by rw [unhide SE]; rfl)
                  clear SE
                  go_wp2_with (first | (go_at_call 35; refine (unhide SI _).mono ?_; rintro e wq ⟨rfl, hww⟩; subst wq) | (go_at_call 35; refine (unhide SW _).mono ?_; rintro e wq ⟨rfl, hww⟩; subst wq))
                  refine (unhide LS).mono ?_
                  rintro e w3 ⟨rfl, hb⟩
                  have z0 := (hb.cell (p := ⟨bx, 0, none⟩) hbs2).trans x0
                  have z3 := (hb.cell (p := ⟨bx, 3, none⟩) hbs2).trans x3
                  have z1 := (hb.cell (p := ⟨sx, 1, none⟩) (cell_lt y1)).trans y1
                  have z2 := (hb.cell (p := ⟨sx, 2, none⟩) (cell_lt y2)).trans y2
                  have B3 := hide ((unhide BX).trans (hb.mono (by omega)))
                  have hs3 := hb.size
                  have VW := hide (unhide VV w3 (unhide B3)).2.2
                  clear hb LS y0 y1 y2 x0 x3 BX SI SW g8
                  cases hok : okVs sws with
                  | false =>
                    have Z := hide (unhide FZ (by rw [unhide EO, hok]; rfl))
                    clear FZ FY EO hok
                    go_wp2_with fail
                    go_ret
                    exact ⟨ret_bool (unhide Z), by subst hbx; exact unhide B3⟩
                  | true =>
                    have HOK := hide hok
                    clear hok
                    go_wp2_with fail
                    go_loopw [7] (fun i wr => ∃ k : Nat, k ≤ pn ∧ i = .int .i64 k ∧ Hid (∀ i (hi : i < sws.length), i < k → sws[i].t = pt) ∧ ∃ q, wr = w3.drewN q) (fun i _ => pn - (intOf i).toNat)
                    case atStart => exact ⟨0, Nat.zero_le _, rfl, (fun i _ hi => absurd hi (Nat.not_lt_zero _)), 0, rfl⟩
                    case round =>
                      obtain ⟨r, hr, rfl, hT, q3, rfl⟩ := hrel
                      by_cases hlt4 : r < pn
                      · have hr2 : r < sws.length := by rw [unhide LW]; exact hlt4
                        have hri : (r : Int) < (pn : Int) := by omega
                        obtain ⟨vb, vo, ea, v0, v1, v2, v3⟩ := (unhide VW).2 r hr2
                        subst ea
                        have SF := hide (fun (e : sws[r].t ≠ pt) => show false = okVsD d from unhide FZ (by rw [unhide EO, oneT_false hr2 e]; simp))
                        have SY := hide (find_step hr2 (unhide hT))
                        by_cases hr0 : r = 0
                        · have hg : decide ((0 : Int) < (r : Int)) = false := decide_eq_false (by omega)
                          have hg1 : decide (0 < r) = false := decide_eq_false (by omega)
                          clear hr0 hT
                          generalize sws[r] = xd at *
                          obtain ⟨xk, xt, xv, xg⟩ := xd
                          simp only at v0 v1 SF SY
                          clear v2 v3
                          by_cases ht : xt = pt
                          · subst ht
                            have Z := hide (unhide SY rfl)
                            have hd : (xt != xt) = false := by simp
                            clear SF SY
                            go_wp2_with fail
                            go_quiet (fail)
                            go_wp2_with fail
                            go_roundw
                            case rel => exact ⟨r + 1, by omega, by go_num, unhide Z, _, rfl⟩
                            case measure => simp [intOf]; omega
                          · have Z := hide (unhide SF ht)
                            have hd : (xt != pt) = true := by simpa [bne] using ht
                            clear SF SY ht
                            go_wp2_with fail
                            go_quiet (fail)
                            go_wp2_with fail
                            go_ret
                            exact ⟨ret_bool (unhide Z), by subst hbx; exact bel_drewN (bel_drewN (unhide B3) _) _⟩
                        · have hj : r - 1 < sws.length := by omega
                          obtain ⟨vb', vo', ea', y0, y1, y2, y3⟩ := (unhide VW).2 (r - 1) hj
                          cases ea'
                          have hg : decide ((0 : Int) < (r : Int)) = true := decide_eq_true (by omega)
                          have hg1 : decide (0 < r) = true := decide_eq_true (by omega)
                          have hi1 : ((r : Int) - 1).toNat = r - 1 := by omega
                          have hi2 : (0 : Int) ≤ (r : Int) - 1 := by omega
                          have hi4 : (1 : Int) ≤ (r : Int) := by omega
                          have hwr : IntKind.i64.wrap ((r : Int) - 1) = (r : Int) - 1 := by rw [IntKind.wrap_i64]; omega
                          have hi3 : (r : Int) - 1 < (pn : Int) := by omega
                          have LT := hide (okVs_lt (unhide HOK) hr2 (by omega))
                          have TP := unhide hT (r - 1) hj (by omega)
                          clear hr0 hT
                          generalize sws[r] = xd at *
                          generalize sws[r - 1] = yd at *
                          obtain ⟨xk, xt, xv, xg⟩ := xd
                          obtain ⟨yk, yt, yv, yg⟩ := yd
                          simp only at v0 v1 SF SY y0 TP
                          clear v2 v3 y1 y2 y3
                          by_cases ht : xt = pt
                          · have hne : (yk.toList == xk.toList) = false := vs_ne (ltV_other (unhide LT) (by show yt = xt; rw [TP, ht]))
                            subst ht
                            have Z := hide (unhide SY rfl)
                            have hd : (xt != xt) = false := by simp
                            clear SF SY LT TP
                            go_wp2_with fail
                            go_quiet (fail)
                            go_wp2_with fail
                            go_roundw
                            case rel => exact ⟨r + 1, by omega, by go_num, unhide Z, _, rfl⟩
                            case measure => simp [intOf]; omega
                          · have Z := hide (unhide SF ht)
                            have hd : (xt != pt) = true := by simpa [bne] using ht
                            clear SF SY ht LT TP
                            go_wp2_with fail
                            go_quiet (fail)
                            go_wp2_with fail
                            go_ret
                            exact ⟨ret_bool (unhide Z), by subst hbx; exact bel_drewN (bel_drewN (unhide B3) _) _⟩
                      · obtain rfl : r = pn := by omega
                        have hri : ¬ (r : Int) < (r : Int) := by omega
                        have Z := hide (unhide FY (by rw [unhide EO, unhide HOK, oneT_true fun i hi => unhide hT i hi (by have := unhide LW; omega)]; rfl))
                        clear FZ FY EO hT
                        go_wp2_with fail
                        go_roundw
                        case rel => exact ⟨m + 1, by omega, by go_num, unhide Z, bel_drewN (unhide B3) _, ⟨z0, z3⟩, by show bx < w3.heap.size; omega⟩
                        case measure => simp [intOf]; omega
            · obtain rfl : m = 4 := by omega
              have Z := hide (show true = okVsD d by rw [unhide E, all_true fun i hi => unhide hA i hi (by have := (unhide EQ).2.2; omega)])
              go_wp2_with fail
              go_ret
              exact ⟨ret_bool (unhide Z), by subst hbx; exact unhide hB⟩
end Go.Proofs.Ytdnneomdokcpeaa
