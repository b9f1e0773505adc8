/-
  impl.VersionsOK.
-/
import Derived.Test.YtdnneomdokcpeaaVoA
namespace Go.Proofs.Ytdnneomdokcpeaa
open Go.RowKit

theorem ok_top {d : VsD} (h : topK d = false) : false = okVsD d := by unfold okVsD; rw [h]; rfl
theorem top_yes {d : VsD} (h1 : 1 ≤ d.next) (h2 : d.next ≤ 1000) (h3 : d.list.length ≤ 4096) (h4 : d.fen.length ≤ 4096) (h5 : d.ses.length = 4) : topK d = true := decide_eq_true ⟨h1, h2, h3, h4, h5⟩
theorem top_no {d : VsD} (h : ¬ (1 ≤ d.next ∧ d.next ≤ 1000 ∧ d.list.length ≤ 4096 ∧ d.fen.length ≤ 4096 ∧ d.ses.length = 4)) : topK d = false := decide_eq_false h
theorem step_all {α : Type} {p : α → Bool} {l : List α} {k : Nat} (hk : k < l.length) (h : ∀ i (hi : i < l.length), i < k → p l[i] = true) (hp : p l[k] = true) : ∀ i (hi : i < l.length), i < k + 1 → p l[i] = true := fun i hi hik => by
  by_cases e : i < k
  · exact h i hi e
  · obtain rfl : i = k := by omega
    exact hp
set_option maxRecDepth 100000 in
set_option maxHeartbeats 8000000 in
theorem implVersionsOK_any (l f s : Sl) (rs : List SesR) (d : VsD) (w : World) (h : VsAt w l f s rs d) (hf : VsFew l f s rs) :
    Calls Try.prog 23 #[vsv d.next l f s] w fun e w' => e = .returned (.bool (okVsD d)) ∧ Below w.heap.size w w' := by
  obtain ⟨la, ln, lc⟩ := l
  obtain ⟨fa, fn, fc⟩ := f
  obtain ⟨sa, sn, sc⟩ := s
  have hmf : ∀ (fn : Fn) (first cap : Array Value) (w : World), (Instr.makeFunc fn first cap).run Try.prog w = .ok (.func fn first cap) w := fun _ _ _ _ => rfl
  have H := hide h
  have HF := hide hf
  have e1 : d.list.length = ln := h.v.1
  have e2 : d.fen.length = fn := h.f.1
  have e3 : d.ses.length = sn := h.ss.1.symm.trans h.s.1
  have TN := hide (fun (hx : ¬ (1 ≤ d.next ∧ d.next ≤ 1000 ∧ ln ≤ 4096 ∧ fn ≤ 4096 ∧ sn = 4)) => ok_top (top_no (by rw [e1, e2, e3]; exact hx)))
  have TY := hide (fun (h1 : 1 ≤ d.next) (h2 : d.next ≤ 1000) (h3 : ln ≤ 4096) (h4 : fn ≤ 4096) (h5 : sn = 4) => show okVsD d = (okVs d.list && (lateK d.list d.next && (d.fen.all (fenK d.next) && d.ses.all (sesK d.next)))) by
    unfold okVsD
    rw [top_yes h1 h2 (by rw [e1]; exact h3) (by rw [e2]; exact h4) (by rw [e3]; exact h5)]
    rfl)
  have EQ := hide (And.intro e1 (And.intro e2 e3))
  clear h hf e1 e2 e3
  have b0 : Below w.heap.size w (w.alloc (.cells #[.int .i64 d.next, .slice la ln lc, .slice fa fn fc, .slice sa sn sc] 47)) := (Below.refl _ _).alloc (Nat.le_refl _) _
  have k0 := heap_alloc_new w (.cells #[.int .i64 d.next, .slice la ln lc, .slice fa fn fc, .slice sa sn sc] 47)
  have K := hide k0
  clear k0
  unfold vsv
  simp only
  by_cases h1 : 1 ≤ d.next
  case neg =>
    have Z := hide (unhide TN (by omega))
    have g1 : d.next < 1 := by omega
    generalize d.next = nx at *
    clear TY TN H HF EQ
    go_enter Try.func23, Try.ntmps23
    go_wp2_with fail
    go_ret
    exact ⟨ret_bool (unhide Z), b0⟩
  by_cases h2 : d.next ≤ 1000
  case neg =>
    have Z := hide (unhide TN (by omega))
    have g1 : ¬ d.next < 1 := by omega
    have g2 : 1000 < d.next := by omega
    generalize d.next = nx at *
    clear TY TN H HF EQ
    go_enter Try.func23, Try.ntmps23
    go_wp2_with fail
    go_ret
    exact ⟨ret_bool (unhide Z), b0⟩
  by_cases h3 : ln ≤ 4096
  case neg =>
    have Z := hide (unhide TN (by omega))
    have g1 : ¬ d.next < 1 := by omega
    have g2 : ¬ 1000 < d.next := by omega
    have g3 : (4096 : Int) < (ln : Int) := by omega
    generalize d.next = nx at *
    clear TY TN H HF EQ
    go_enter Try.func23, Try.ntmps23
    go_wp2_with fail
    go_ret
    exact ⟨ret_bool (unhide Z), b0⟩
  by_cases h4 : fn ≤ 4096
  case neg =>
    have Z := hide (unhide TN (by omega))
    have g1 : ¬ d.next < 1 := by omega
    have g2 : ¬ 1000 < d.next := by omega
    have g3 : ¬ (4096 : Int) < (ln : Int) := by omega
    have g4 : (4096 : Int) < (fn : Int) := by omega
    generalize d.next = nx at *
    clear TY TN H HF EQ
    go_enter Try.func23, Try.ntmps23
    go_wp2_with fail
    go_ret
    exact ⟨ret_bool (unhide Z), b0⟩
  by_cases h5 : sn = 4
  case neg =>
    have Z := hide (unhide TN (by omega))
    have g1 : ¬ d.next < 1 := by omega
    have g2 : ¬ 1000 < d.next := by omega
    have g3 : ¬ (4096 : Int) < (ln : Int) := by omega
    have g4 : ¬ (4096 : Int) < (fn : Int) := by omega
    have g5 : ((sn : Int) != 4) = true := by simp [bne]; omega
    generalize d.next = nx at *
    clear TY TN H HF EQ
    go_enter Try.func23, Try.ntmps23
    go_wp2_with fail
    go_ret
    exact ⟨ret_bool (unhide Z), b0⟩
  subst h5
  have E := hide (unhide TY h1 h2 h3 h4 rfl)
  have g1 : ¬ d.next < 1 := by omega
  have g2 : ¬ 1000 < d.next := by omega
  have g3 : ¬ (4096 : Int) < (ln : Int) := by omega
  have g4 : ¬ (4096 : Int) < (fn : Int) := by omega
  clear TY TN h1 h2
  obtain ⟨nx, hnx⟩ : ∃ nx, nx = d.next := ⟨_, rfl⟩
  rw [← hnx] at g1 g2 b0 K E ⊢
  have HNX := hide hnx
  clear hnx
  go_enter Try.func23, Try.ntmps23
  go_wp2_with fail
  generalize w.alloc (.cells #[.int .i64 nx, .slice la ln lc, .slice fa fn fc, .slice sa 4 sc] 47) = W at *
  generalize hbx : w.heap.size = bx at *
  clear g1 g2 g3 g4
  refine (listOK_any la ln lc d.list W (by omega) ((by subst hbx; exact (unhide H).below b0 : VsAt W ⟨la, ln, lc⟩ ⟨fa, fn, fc⟩ ⟨sa, 4, sc⟩ rs d)).v).mono ?_
  rintro e w1 ⟨rfl, hb⟩
  replace K := hide ((hb.block bx (Array.getElem?_eq_some_iff.1 (unhide K)).1).trans (unhide K))
  replace b0 := b0.trans (hb.mono (by subst hbx; exact b0.size))
  clear hb
  have HH := hide (show ∀ u, Below bx w u → VsAt u ⟨la, ln, lc⟩ ⟨fa, fn, fc⟩ ⟨sa, 4, sc⟩ rs d from fun u hu => by subst hbx; exact (unhide H).below hu)
  have hbs : bx ≤ w1.heap.size := by subst hbx; exact b0.size
  generalize okVs d.list = ok1 at *
  cases ok1
  · have Z := hide (show false = okVsD d by rw [unhide E]; rfl)
    have c1 : w1.cell? ⟨bx, 1, none⟩ = some (.slice la ln lc) := (heap_at (unhide K) 1).1
    go_wp2_with fail
    go_ret
    exact ⟨ret_bool (unhide Z), by subst hbx; exact b0⟩
  have c0 : w1.cell? ⟨bx, 0, none⟩ = some (.int .i64 nx) := (heap_at (unhide K) 0).1
  have c1 : w1.cell? ⟨bx, 1, none⟩ = some (.slice la ln lc) := (heap_at (unhide K) 1).1
  have CL := hide (containsLate_any bx la ln lc d.list nx w1 (by omega) (unhide HH w1 b0).v c0)
  replace E := hide (show okVsD d = (lateK d.list nx && (d.fen.all (fenK nx) && d.ses.all (sesK nx))) by rw [unhide E]; rfl)
  clear c0
  go_wp2_with fail
  refine (unhide CL).mono ?_
  rintro e w2 ⟨rfl, hb⟩
  replace K := hide ((hb.block bx (Array.getElem?_eq_some_iff.1 (unhide K)).1).trans (unhide K))
  replace b0 := b0.trans (hb.mono hbs)
  replace hbs := Nat.le_trans hbs hb.size
  clear hb CL c1
  generalize lateK d.list nx = ok2 at *
  cases ok2
  · have Z := hide (show false = okVsD d by rw [unhide E]; rfl)
    go_wp2_with fail
    go_ret
    exact ⟨ret_bool (unhide Z), by subst hbx; exact b0⟩
  replace E := hide (show okVsD d = (d.fen.all (fenK nx) && d.ses.all (sesK nx)) by rw [unhide E]; rfl)
  have c2 : w2.cell? ⟨bx, 2, none⟩ = some (.slice fa fn fc) := (heap_at (unhide K) 2).1
  go_wp2_with fail
  clear c2
  go_loopw [48] (fun i wr => ∃ k : Nat, k ≤ fn ∧ i = .int .i64 k ∧ Hid (∀ i (hi : i < d.fen.length), i < k → fenK nx d.fen[i] = true) ∧ Hid (Below bx w wr) ∧ Hid (wr.heap[bx]? = some (.cells #[.int .i64 nx, .slice la ln lc, .slice fa fn fc, .slice sa 4 sc] 47 (0, 0))) ∧ bx ≤ wr.heap.size) (fun i _ => fn - (intOf i).toNat)
  case atStart => exact ⟨0, Nat.zero_le _, rfl, (fun i _ hi => absurd hi (Nat.not_lt_zero _)), b0, unhide K, hbs⟩
  case round =>
    clear b0 K hbs
    obtain ⟨k, hk, rfl, hA, hB, hK, hbs⟩ := hrel
    by_cases hlt : k < fn
    · have hk2 : k < d.fen.length := by rw [(unhide EQ).2.1]; exact hlt
      obtain ⟨b, off, rfl, d0, d1, d2⟩ := (unhide HH _ (unhide hB)).f.2 k hk2
      have C := hide (fenceOK_any d.fen[k] nx)
      have FZ := hide (fun (hf : fenK nx d.fen[k] = false) => show false = okVsD d by rw [unhide E, all_false hk2 hf]; rfl)
      have FY := hide (step_all (p := fenK nx) hk2 (unhide hA))
      generalize fenK nx d.fen[k] = fk at *
      generalize d.fen[k] = pd at *
      obtain ⟨pf, pu, pt⟩ := pd
      unfold fncV at C
      simp only at d0 d1 d2 C
      have B1 : Below wr.heap.size wr (wr.alloc (.cells #[.string pf, .string pu, .int .i64 pt] 74)) := (Below.refl _ _).alloc (Nat.le_refl _) _
      have K1 := hide ((B1.block bx (Array.getElem?_eq_some_iff.1 (unhide hK)).1).trans (unhide hK))
      have B2 := hide ((unhide hB).trans (B1.mono hbs))
      have hs2 := Nat.le_trans hbs B1.size
      have x0 : (wr.alloc (.cells #[.string pf, .string pu, .int .i64 pt] 74)).cell? ⟨bx, 0, none⟩ = some (.int .i64 nx) := (heap_at (unhide K1) 0).1
      clear B1 hB hK hA
      go_wp2_with fail
      generalize wr.alloc (.cells #[.string pf, .string pu, .int .i64 pt] 74) = W2 at *
      refine (unhide C W2).mono ?_
      rintro e w3 ⟨rfl, hb⟩
      have K3 := hide ((hb.block bx (Array.getElem?_eq_some_iff.1 (unhide K1)).1).trans (unhide K1))
      have B3 := hide ((unhide B2).trans (hb.mono hs2))
      have hs3 := Nat.le_trans hs2 hb.size
      clear hb d0 d1 d2 x0 C K1 B2 hs2
      cases fk
      · have Z := hide (unhide FZ rfl)
        clear FZ FY
        go_wp2_with fail
        go_ret
        exact ⟨ret_bool (unhide Z), by subst hbx; exact unhide B3⟩
      · have Z := hide (unhide FY rfl)
        clear FZ FY
        go_wp2_with fail
        go_roundw
        case rel => exact ⟨k + 1, by omega, by go_num, unhide Z, unhide B3, unhide K3, hs3⟩
        case measure => simp [intOf]; omega
    · obtain rfl : k = fn := by omega
      have E' := hide (show okVsD d = d.ses.all (sesK nx) by
        rw [unhide E, all_true fun i hi => unhide hA i hi (by have := (unhide EQ).2.1; omega)]; rfl)
      have c3 : wr.cell? ⟨bx, 3, none⟩ = some (.slice sa 4 sc) := (heap_at (unhide hK) 3).1
      clear hA E
      go_wp2_with fail
      clear c3
      go_loopw [61] (fun i wr => ∃ k : Nat, k ≤ 4 ∧ i = .int .i64 k ∧ Hid (∀ i (hi : i < d.ses.length), i < k → sesK nx d.ses[i] = true) ∧ Hid (Below bx w wr) ∧ Hid (∃ f0 fn' fc', wr.heap[bx]? = some (.cells #[.int .i64 nx, .slice la ln lc, .slice f0 fn' fc', .slice sa 4 sc] 47 (0, 0))) ∧ bx ≤ wr.heap.size) (fun i _ => 4 - (intOf i).toNat)
      case atStart => exact ⟨0, Nat.zero_le _, rfl, (fun i _ hi => absurd hi (Nat.not_lt_zero _)), unhide hB, ⟨_, _, _, unhide hK⟩, hbs⟩
      case round =>
        clear hB hK hbs
        obtain ⟨j, hj, rfl, hA, hB, hK, hbs⟩ := hrel
        by_cases hlt2 : j < 4
        · have hj2 : j < d.ses.length := by rw [(unhide EQ).2.2]; exact hlt2
          have hj3 : j < rs.length := by rw [(unhide HH _ (unhide hB)).ss.1]; exact hj2
          obtain ⟨b, off, rfl, d0, d1, d2⟩ := (unhide HH _ (unhide hB)).s.2 j hj3
          obtain ⟨f0, fn', fc', hK⟩ := unhide hK
          have C := hide (show ∀ u, Below bx w u → Calls Try.prog 49 #[sv rs[j], .int .i64 nx] u fun e w' => e = .returned (.bool (sesK nx d.ses[j])) ∧ Below u.heap.size u w' from fun u hu => by
            obtain ⟨p1, p2, p3⟩ := (unhide HH u hu).ss.2 j hj3 hj2
            exact sessionOK_any rs[j] d.ses[j] nx u p1 p2 p3 ((unhide HF).w j hj3))
          have FZ := hide (fun (hf : sesK nx d.ses[j] = false) => show false = okVsD d by rw [unhide E', all_false hj2 hf])
          have FY := hide (step_all (p := sesK nx) hj2 (unhide hA))
          generalize sesK nx d.ses[j] = fk at *
          generalize rs[j] = pd at *
          obtain ⟨po, pt, pa, pn, pc⟩ := pd
          unfold sv at C
          simp only at d0 d1 d2 C
          have B1 : Below wr.heap.size wr (wr.alloc (.cells #[.bool po, .int .i64 pt, .slice pa pn pc] 76)) := (Below.refl _ _).alloc (Nat.le_refl _) _
          have K1 := hide ((B1.block bx (Array.getElem?_eq_some_iff.1 hK).1).trans hK)
          have B2 := hide ((unhide hB).trans (B1.mono hbs))
          have hs2 := Nat.le_trans hbs B1.size
          have x0 : (wr.alloc (.cells #[.bool po, .int .i64 pt, .slice pa pn pc] 76)).cell? ⟨bx, 0, none⟩ = some (.int .i64 nx) := (heap_at (unhide K1) 0).1
          clear B1 hB hK hA
          go_wp2_with fail
          generalize wr.alloc (.cells #[.bool po, .int .i64 pt, .slice pa pn pc] 76) = W2 at *
          refine (unhide C W2 (unhide B2)).mono ?_
          rintro e w3 ⟨rfl, hb⟩
          have K3 := hide ((hb.block bx (Array.getElem?_eq_some_iff.1 (unhide K1)).1).trans (unhide K1))
          have B3 := hide ((unhide B2).trans (hb.mono hs2))
          have hs3 := Nat.le_trans hs2 hb.size
          clear hb d0 d1 d2 x0 C K1 B2 hs2
          cases fk
          · have Z := hide (unhide FZ rfl)
            clear FZ FY
            go_wp2_with fail
            go_ret
            exact ⟨ret_bool (unhide Z), by subst hbx; exact unhide B3⟩
          · have Z := hide (unhide FY rfl)
            clear FZ FY
            go_wp2_with fail
            go_roundw
            case rel => exact ⟨j + 1, by omega, by go_num, unhide Z, unhide B3, ⟨_, _, _, unhide K3⟩, hs3⟩
            case measure => simp [intOf]; omega
        · obtain rfl : j = 4 := by omega
          have Z := hide (show true = okVsD d by rw [unhide E', all_true fun i hi => unhide hA i hi (by have := (unhide EQ).2.2; omega)])
          go_wp2_with fail
          go_ret
          exact ⟨ret_bool (unhide Z), by subst hbx; exact unhide hB⟩
end Go.Proofs.Ytdnneomdokcpeaa
