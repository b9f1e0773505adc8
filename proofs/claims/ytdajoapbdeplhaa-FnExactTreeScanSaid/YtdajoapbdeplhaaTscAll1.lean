/-
  PageQ, TrT, MtF, TrLaw, TrN, MtG, TgL, PageR, PageS, FdL, PgB, TsL, MtH, MkT, PgM, PgH, PgK, PageT, PageU, TsI, TgS, PgCc, PageV in one.
-/
import Derived.Test.YtdajoapbdeplhaaPageP
import Derived.Deep.DeepCutAuto
import Derived.Deep.RegionWith
import Derived.Test.YtdajoapbdeplhaaTrS
import Derived.Test.YtdajoapbdeplhaaMtE
import Derived.Test.YtdajoapbdeplhaaTrV
import Derived.Deep.RegionHeld3
import Derived.WalkMore
import Derived.ScopeJumps
import Derived.Test.YtdajoapbdeplhaaOwn
import Derived.Laws.BytesArg
import Derived.Test.YtdajoapbdeplhaaPgP
import Derived.Test.YtdajoapbdeplhaaWrT
import Derived.Test.YtdajoapbdeplhaaPgG
namespace Go.Proofs.Ytdajoapbdeplhaa
open Go.RowKit

theorem heap_cell2 {w : World} {b : Nat} {cs : Array Value} {t : TypeId} (h : w.heap[b]? = some (.cells cs t (0, 0))) (j : Nat) : w.cell? ⟨b, j, none⟩ = cs[j]? := by simp [World.cell?, h]
theorem okE_cases {lo hi : ByteArray} {es : List EntD} {j : Nat} (hj : j < es.length) (h : okAtE lo hi es j = false) : keyK es[j].k = false ∨ (keyK es[j].k = true ∧ 100 < es[j].v.size) ∨ (keyK es[j].k = true ∧ es[j].v.size ≤ 100 ∧ Op.bytesLess es[j].k.toList lo.toList = true) ∨
    (keyK es[j].k = true ∧ es[j].v.size ≤ 100 ∧ Op.bytesLess es[j].k.toList lo.toList = false ∧ underK es[j].k hi = false) ∨ (keyK es[j].k = true ∧ es[j].v.size ≤ 100 ∧ Op.bytesLess es[j].k.toList lo.toList = false ∧ underK es[j].k hi = true ∧ 0 < j ∧ ∀ h : j - 1 < es.length, Op.bytesLess (es[j - 1]'h).k.toList es[j].k.toList = false) := by
  rw [← follows_at hj] at h
  have hL : lastOK (es.take j) es[j] = (j == 0 || match es[j - 1]? with | some p => ltK p.k es[j].k | none => false) := by
    have := follows_at (lo := lo) (hi := hi) hj
    unfold lastOK
    cases j with
    | zero => simp
    | succ j =>
      rw [takeG_snoc es j (by omega), List.getLast?_append]
      simp [List.getElem?_eq_getElem (show j < es.length by omega)]
  unfold okEnt inK valK ltK at h
  cases h1 : keyK es[j].k with
  | false => exact .inl rfl
  | true =>
    refine .inr ?_
    by_cases h2 : es[j].v.size ≤ 100
    · refine .inr ?_
      cases h3 : Op.bytesLess es[j].k.toList lo.toList with
      | true => exact .inl ⟨rfl, h2, rfl⟩
      | false =>
        refine .inr ?_
        cases h4 : underK es[j].k hi with
        | false => exact .inl ⟨rfl, h2, rfl, rfl⟩
        | true =>
          refine .inr ⟨rfl, h2, rfl, rfl, ?_⟩
          unfold underK ltK at h4
          rw [h1, h3, h4, decide_eq_true h2, hL] at h
          simp only [Bool.not_false, Bool.and_true, Bool.true_and, Bool.or_eq_false_iff, beq_eq_false_iff_ne] at h
          refine ⟨by omega, fun hh => ?_⟩
          have := h.2
          rw [List.getElem?_eq_getElem hh] at this
          exact this
    · exact .inl ⟨rfl, by omega⟩
theorem okE_good {lo hi : ByteArray} {es : List EntD} {j : Nat} (hj : j < es.length) (h : okAtE lo hi es j = true) : keyK es[j].k = true ∧ es[j].v.size ≤ 100 ∧ Op.bytesLess es[j].k.toList lo.toList = false ∧ underK es[j].k hi = true ∧ (∀ (h0 : 0 < j), Op.bytesLess (es[j - 1]'(by omega)).k.toList es[j].k.toList = true) := by
  have h' := h
  unfold okAtE at h
  rw [List.getElem?_eq_getElem hj] at h
  simp only [Bool.and_eq_true] at h
  have h1 := h.1
  unfold okEnt inK valK ltK at h1
  simp only [Bool.and_eq_true, Bool.not_eq_true', decide_eq_true_eq] at h1
  refine ⟨h1.1.1, h1.1.2, h1.2.1, ?_, fun h0 => ?_⟩
  · unfold underK ltK
    exact h1.2.2
  · have h2 := h.2
    rw [List.getElem?_eq_getElem (show j - 1 < es.length by omega)] at h2
    simp only [Bool.or_eq_true, beq_iff_eq] at h2
    rcases h2 with h2 | h2
    · omega
    · exact h2
theorem three_dec {a b n m : Nat} (h1 : a ≤ 40) (h2 : b ≤ 40) (h : ¬ n ≤ 32) : (decide ((40 : Int) < (a : Int)) || decide ((40 : Int) < (b : Int)) || decide ((32 : Int) < (n : Int))) = (decide (32 < n) || decide (12 < m)) := by
  rw [decide_eq_false (show ¬ ((40 : Int) < (a : Int)) by omega), decide_eq_false (show ¬ ((40 : Int) < (b : Int)) by omega), decide_eq_true (show (32 : Int) < (n : Int) by omega), decide_eq_true (show 32 < n by omega)]
  simp
theorem one_dec {n m : Nat} (h : ¬ n ≤ 32) : true = (decide (32 < n) || decide (12 < m)) := by
  rw [decide_eq_true (show 32 < n by omega)]
  simp
theorem four_dec {a b n m : Nat} (h1 : a ≤ 40) (h2 : b ≤ 40) : (decide ((40 : Int) < (a : Int)) || decide ((40 : Int) < (b : Int)) || decide ((32 : Int) < (n : Int)) || decide ((12 : Int) < (m : Int))) = (decide (32 < n) || decide (12 < m)) := by
  rw [decide_eq_false (show ¬ ((40 : Int) < (a : Int)) by omega), decide_eq_false (show ¬ ((40 : Int) < (b : Int)) by omega), show decide ((32 : Int) < (n : Int)) = decide (32 < n) from decide_eq_decide.2 (by omega), show decide ((12 : Int) < (m : Int)) = decide (12 < m) from decide_eq_decide.2 (by omega)]
  simp
set_option maxRecDepth 100000 in
set_option maxHeartbeats 16000000 in
theorem specPageOK_any (lo hi : ByteArray) (r : Int) (ab : Option Addr) (nb cb : Nat) (es : List EntD) (ac : Option Addr) (nc cc : Nat) (ds : List DelD) (w : World) (hE : ERow w ab nb es) (hD : DRow w ac nc ds) (hcb : ab = none → cb = 0) :
    Calls Try.prog 23 #[pgv lo hi r ab nb cb ac nc cc] w fun e w' => e = .returned (.bool (okPage lo hi r es ds)) ∧ Below w.heap.size w w' := by
  have LE := hide hE.1
  have LD := hide hD.1
  have RE := hide hE
  have RD := hide hD
  clear hE hD
  by_cases hB : okBounds lo hi r = true
  · have HB := hide hB
    have b0 : Below w.heap.size w (w.alloc (.cells #[.string lo, .string hi, .int .i64 r, .slice ab nb cb, .slice ac nc cc] 53)) := (Below.refl _ _).alloc (Nat.le_refl _) _
    have k0 := hide (heap_alloc_new w (.cells #[.string lo, .string hi, .int .i64 r, .slice ab nb cb, .slice ac nc cc] 53))
    go_enter Try.func23, Try.ntmps23
    go_upto_region 1 with fail
    go_cut [55] (fun c wc => ∃ b, c = .bool b ∧ Hid (b = (decide (32 < nb) || decide (12 < nc))) ∧ wc = w.alloc (.cells #[.string lo, .string hi, .int .i64 r, .slice ab nb cb, .slice ac nc cc] 53))
    case first =>
      obtain ⟨h1, h2, h3⟩ := bounds_good hB
      have hq : inB r = true := by unfold inB; rw [decide_eq_true (by omega), decide_eq_true (by omega)]; rfl
      clear hB
      rcases h3 with ⟨h3, h4⟩ | ⟨h3, h4, h5, h6⟩
      · have hd : decide (r < 0) = true := decide_eq_true (by omega)
        have h4' : r < 0 := by omega
        clear h4
        by_cases g1 : nb ≤ 32
        · go_wp2_with (go_at_call 22; refine (l01In_r r _).mono ?_; rintro e w1 ⟨rfl, rfl⟩)
          all_goals go_meet
          all_goals exact ⟨_, rfl, by first | exact four_dec h1 h2 | exact three_dec h1 h2 g1 | exact one_dec g1 | trace_state, rfl⟩
        · go_wp2_with (go_at_call 22; refine (l01In_r r _).mono ?_; rintro e w1 ⟨rfl, rfl⟩)
          all_goals go_meet
          all_goals exact ⟨_, rfl, by first | exact four_dec h1 h2 | exact three_dec h1 h2 g1 | exact one_dec g1 | trace_state, rfl⟩
      · have hd : decide (r < 0) = false := decide_eq_false (by omega)
        by_cases g1 : nb ≤ 32
        · go_wp2_with (go_at_call 22; refine (l01In_r r _).mono ?_; rintro e w1 ⟨rfl, rfl⟩)
          all_goals go_meet
          all_goals exact ⟨_, rfl, by first | exact four_dec h1 h2 | exact three_dec h1 h2 g1 | exact one_dec g1 | trace_state, rfl⟩
        · go_wp2_with (go_at_call 22; refine (l01In_r r _).mono ?_; rintro e w1 ⟨rfl, rfl⟩)
          all_goals go_meet
          all_goals exact ⟨_, rfl, by first | exact four_dec h1 h2 | exact three_dec h1 h2 g1 | exact one_dec g1 | trace_state, rfl⟩
    case rest =>
      obtain ⟨b, rfl, hb, rfl⟩ := hcut
      clear hB
      cases b with
      | true =>
        have OF := hide (show okPage lo hi r es ds = false by
          have := unhide hb
          by_cases h4 : nb ≤ 32
          · refine ok_ds ?_
            rw [unhide LD]
            rw [decide_eq_false (show ¬ 32 < nb by omega)] at this
            simp at this
            omega
          · exact ok_es (by rw [unhide LE]; exact h4))
        go_wp2_with fail
        go_ret
        exact ⟨ret_bool (unhide OF).symm, b0⟩
      | false =>
        have h45 : nb ≤ 32 ∧ nc ≤ 12 := by have := unhide hb; simp at this; omega
        obtain ⟨h4, h5⟩ := h45
        clear hb
        have B0 := hide b0
        have z0 : (w.alloc (.cells #[.string lo, .string hi, .int .i64 r, .slice ab nb cb, .slice ac nc cc] 53)).heap.size = w.heap.size + 1 := by simp
        clear b0
        go_wp2_with fail
        generalize w.alloc (.cells #[.string lo, .string hi, .int .i64 r, .slice ab nb cb, .slice ac nc cc] 53) = W0 at *
        go_loopw [3] (fun i wr => ∃ (j : Nat), i = .int .i64 (j : Int) ∧ j ≤ nb ∧ Hid (∀ i, i < j → okAtE lo hi es i = true) ∧ Hid (Below (w.heap.size + 1) W0 wr)) (fun i _ => nb - (intOf i).toNat)
        case atStart => exact ⟨0, rfl, Nat.zero_le _, fun i h => absurd h (Nat.not_lt_zero _), Below.refl _ _⟩
        case round =>
          obtain ⟨j, rfl, hj, hK, hB⟩ := hrel
          have kr := hide (((unhide hB).block w.heap.size (by omega)).trans (unhide k0))
          have BW := hide ((unhide B0).trans ((unhide hB).mono (by omega)))
          have p0 : wr.cell? ⟨w.heap.size, 0, none⟩ = some (.string lo) := heap_cell2 (unhide kr) 0
          have p1 : wr.cell? ⟨w.heap.size, 1, none⟩ = some (.string hi) := heap_cell2 (unhide kr) 1
          have p3 : wr.cell? ⟨w.heap.size, 3, none⟩ = some (.slice ab nb cb) := heap_cell2 (unhide kr) 3
          have hsr : w.heap.size + 1 ≤ wr.heap.size := by have := (unhide hB).size; omega
          by_cases hlt : j < nb
          · have hje : j < es.length := by have := unhide LE; omega
            obtain ⟨b, off, rfl, c0, c1⟩ := ((unhide RE).below (unhide BW)).2 j hje
            have bA : Below wr.heap.size wr (wr.alloc (.cells #[.string es[j].k, .string es[j].v] 79)) := (Below.refl _ _).alloc (Nat.le_refl _) _
            have BA := hide ((unhide BW).trans (bA.mono (unhide BW).size))
            have BX := hide ((unhide hB).trans (bA.mono hsr))
            have q0 := (bA.cell (p := ⟨w.heap.size, 0, none⟩) (by show w.heap.size < _; omega)).trans p0
            have q1 := (bA.cell (p := ⟨w.heap.size, 1, none⟩) (by show w.heap.size < _; omega)).trans p1
            have q3 := (bA.cell (p := ⟨w.heap.size, 3, none⟩) (by show w.heap.size < _; omega)).trans p3
            by_cases hok : okAtE lo hi es j = true
            · obtain ⟨f1, f2, f3, f4, f5⟩ := okE_good hje hok
              have HOK := hide hok
              have F5 := hide f5
              clear hok f5
              by_cases hj0 : 0 < j
              · have hjp : j - 1 < es.length := by omega
                have f6 := unhide F5 hj0
                obtain ⟨b', off', he, x0, x1⟩ := (((unhide RE).below (unhide BW)).below bA).2 (j - 1) hjp
                injection he with he
                injection he with he1 he2
                subst he1 he2
                have hi1 : ((j : Int) - 1).toNat = j - 1 := by omega
                have hd1 : decide (0 < j) = true := decide_eq_true hj0
                have hd2 : decide ((0 : Int) < (j : Int)) = true := decide_eq_true (by omega)
                have hi2 : (0 : Int) ≤ (j : Int) - 1 := by omega
                have hi3 : (j : Int) - 1 < (nb : Int) := by omega
                clear bA F5
                generalize es[j - 1] = ep at *
                generalize es[j] = em at *
                first | (have fv : decide ((100 : Int) < (em.v.size : Int)) = false := decide_eq_false (by omega)) | (have fv : decide ((100 : Int) < (em.v.size : Int)) = true := decide_eq_true (by omega)) | skip
                go_wp2_with fail
                go_quiet ((first | (go_at_call 33; exact Calls.quiet_of_same (l04Key_any _ _)) | (go_at_call 49; exact Calls.quiet_of_same (l04Under_any _ _ _))))
                go_wp2_with fail
                go_roundw
                case rel => exact ⟨j + 1, by go_num, by omega, fun i hi' => by
                  rcases Nat.lt_or_ge i j with h | h
                  · exact unhide hK i h
                  · obtain rfl : i = j := by omega
                    exact unhide HOK, bel_drewN (unhide BX) _⟩
                case measure => simp [intOf]; omega
              · clear F5 bA
                have hd1 : decide (0 < j) = false := decide_eq_false hj0
                have hd2 : decide ((0 : Int) < (j : Int)) = false := decide_eq_false (by omega)
                generalize es[j] = em at *
                first | (have fv : decide ((100 : Int) < (em.v.size : Int)) = false := decide_eq_false (by omega)) | (have fv : decide ((100 : Int) < (em.v.size : Int)) = true := decide_eq_true (by omega)) | skip
                go_wp2_with fail
                go_quiet ((first | (go_at_call 33; exact Calls.quiet_of_same (l04Key_any _ _)) | (go_at_call 49; exact Calls.quiet_of_same (l04Under_any _ _ _))))
                go_wp2_with fail
                go_roundw
                case rel => exact ⟨j + 1, by go_num, by omega, fun i hi' => by
                  rcases Nat.lt_or_ge i j with h | h
                  · exact unhide hK i h
                  · obtain rfl : i = j := by omega
                    exact unhide HOK, bel_drewN (unhide BX) _⟩
                case measure => simp [intOf]; omega
            · have hok : okAtE lo hi es j = false := by simpa using hok
              have OF := hide (ok_base (r := r) (ds := ds) hje hok)
              rcases okE_cases hje hok with f1 | ⟨f1, f2⟩ | ⟨f1, f2, f3⟩ | ⟨f1, f2, f3, f4⟩ | ⟨f1, f2, f3, f4, hj0, f5⟩
              · clear hok bA
                generalize es[j] = em at *
                first | (have fv : decide ((100 : Int) < (em.v.size : Int)) = false := decide_eq_false (by omega)) | (have fv : decide ((100 : Int) < (em.v.size : Int)) = true := decide_eq_true (by omega)) | skip
                go_wp2_with fail
                go_quiet ((first | (go_at_call 33; exact Calls.quiet_of_same (l04Key_any _ _)) | (go_at_call 49; exact Calls.quiet_of_same (l04Under_any _ _ _))))
                go_wp2_with fail
                go_ret
                exact ⟨ret_bool (unhide OF).symm, bel_drewN (unhide BA) _⟩
              · clear hok bA
                generalize es[j] = em at *
                first | (have fv : decide ((100 : Int) < (em.v.size : Int)) = false := decide_eq_false (by omega)) | (have fv : decide ((100 : Int) < (em.v.size : Int)) = true := decide_eq_true (by omega)) | skip
                go_wp2_with fail
                go_quiet ((first | (go_at_call 33; exact Calls.quiet_of_same (l04Key_any _ _)) | (go_at_call 49; exact Calls.quiet_of_same (l04Under_any _ _ _))))
                go_wp2_with fail
                go_ret
                exact ⟨ret_bool (unhide OF).symm, bel_drewN (unhide BA) _⟩
              · clear hok bA
                generalize es[j] = em at *
                first | (have fv : decide ((100 : Int) < (em.v.size : Int)) = false := decide_eq_false (by omega)) | (have fv : decide ((100 : Int) < (em.v.size : Int)) = true := decide_eq_true (by omega)) | skip
                go_wp2_with fail
                go_quiet ((first | (go_at_call 33; exact Calls.quiet_of_same (l04Key_any _ _)) | (go_at_call 49; exact Calls.quiet_of_same (l04Under_any _ _ _))))
                go_wp2_with fail
                go_ret
                exact ⟨ret_bool (unhide OF).symm, bel_drewN (unhide BA) _⟩
              · clear hok bA
                generalize es[j] = em at *
                first | (have fv : decide ((100 : Int) < (em.v.size : Int)) = false := decide_eq_false (by omega)) | (have fv : decide ((100 : Int) < (em.v.size : Int)) = true := decide_eq_true (by omega)) | skip
                go_wp2_with fail
                go_quiet ((first | (go_at_call 33; exact Calls.quiet_of_same (l04Key_any _ _)) | (go_at_call 49; exact Calls.quiet_of_same (l04Under_any _ _ _))))
                go_wp2_with fail
                go_ret
                exact ⟨ret_bool (unhide OF).symm, bel_drewN (unhide BA) _⟩
              · have hjp : j - 1 < es.length := by omega
                have f6 := f5 hjp
                clear f5 hok
                obtain ⟨b', off', he, x0, x1⟩ := (((unhide RE).below (unhide BW)).below bA).2 (j - 1) hjp
                injection he with he
                injection he with he1 he2
                subst he1 he2
                have hi1 : ((j : Int) - 1).toNat = j - 1 := by omega
                have hd1 : decide (0 < j) = true := decide_eq_true hj0
                have hd2 : decide ((0 : Int) < (j : Int)) = true := decide_eq_true (by omega)
                have hi2 : (0 : Int) ≤ (j : Int) - 1 := by omega
                have hi3 : (j : Int) - 1 < (nb : Int) := by omega
                clear bA
                generalize es[j - 1] = ep at *
                generalize es[j] = em at *
                first | (have fv : decide ((100 : Int) < (em.v.size : Int)) = false := decide_eq_false (by omega)) | (have fv : decide ((100 : Int) < (em.v.size : Int)) = true := decide_eq_true (by omega)) | skip
                go_wp2_with fail
                go_quiet ((first | (go_at_call 33; exact Calls.quiet_of_same (l04Key_any _ _)) | (go_at_call 49; exact Calls.quiet_of_same (l04Under_any _ _ _))))
                go_wp2_with fail
                go_ret
                exact ⟨ret_bool (unhide OF).symm, bel_drewN (unhide BA) _⟩
          · obtain rfl : j = nb := by omega
            have K1 := hide (show ∀ i, i < es.length → okAtE lo hi es i = true from fun i hi' => unhide hK i (by rw [← unhide LE]; exact hi'))
            go_wp2_with fail
            clear hK p0 p1 p3
            have P0 := hide kr
            have HH0 := hide (show highE hi (ds.take 0) = hi by rfl)
            obtain ⟨wv, hwv⟩ : ∃ wv : World, wv = wr := ⟨_, rfl⟩
            rw [← hwv] at kr hB BW hsr ⊢
            clear hwv P0
            go_loopw [5, 6] (fun h i wz => ∃ (q : Nat), i = .int .i64 (q : Int) ∧ h = .string (highE hi (ds.take q)) ∧ q ≤ nc ∧ Hid (∀ i, i < q → okAtD lo hi ds i = true) ∧ Hid (Below (w.heap.size + 1) W0 wz)) (fun _ i _ => nc - (intOf i).toNat)
            case atStart => exact ⟨0, rfl, rfl, Nat.zero_le _, fun i h => absurd h (Nat.not_lt_zero _), unhide hB⟩
            case round =>
              clear hB BW hsr kr
              obtain ⟨q, rfl, rfl, hq, hK, hB⟩ := hrel
              have kr := hide (((unhide hB).block w.heap.size (by omega)).trans (unhide k0))
              have BW := hide ((unhide B0).trans ((unhide hB).mono (by omega)))
              have hsr : w.heap.size + 1 ≤ wr.heap.size := by have := (unhide hB).size; omega
              by_cases hlt : q < nc
              · have hqe : q < ds.length := by have := unhide LD; omega
                have p0 : wr.cell? ⟨w.heap.size, 0, none⟩ = some (.string lo) := heap_cell2 (unhide kr) 0
                have p4 : wr.cell? ⟨w.heap.size, 4, none⟩ = some (.slice ac nc cc) := heap_cell2 (unhide kr) 4
                obtain ⟨b, off, rfl, c0, c1, c2, c3⟩ := ((unhide RD).below (unhide BW)).2 q hqe
                have OA := hide (okAtD_at (lo := lo) (hi := hi) hqe)
                have HH := hide ((congrArg (highE hi) (takeG_snoc ds q hqe)).trans (highE_snoc hi (ds.take q) ds[q]))
                have OF := hide (fun (h : okAtD lo hi ds q = false) => ok_chain (r := r) (es := es) hqe h)
                have RD2 := hide ((unhide RD).below (unhide BW))
                have DC := hide (show ∀ w', Below wr.heap.size wr w' → w'.cell? ⟨b, off + q * 4, none⟩ = some (.int .i64 ds[q].kind) ∧ w'.cell? ⟨b, off + q * 4 + 1, none⟩ = some (.string ds[q].k) from fun w' hw' => ⟨(hw'.cell (p := ⟨b, off + q * 4, none⟩) (cell_lt c0)).trans c0, (hw'.cell (p := ⟨b, off + q * 4 + 1, none⟩) (cell_lt c1)).trans c1⟩)
                generalize ds[q] = d at *
                generalize highE hi (ds.take q) = h1 at *
                go_wp2_with fail
                go_region_with (go_at_call 50; refine (l04Delta_any d lo h1 _).mono ?_; rintro e w3 ⟨rfl, hb3⟩)
                all_goals
                  replace hb3 : Below wr.heap.size wr w3 := by first | exact hb3 | exact bel_of_drew hb3 | exact bel_of_drewN hb3
                  obtain ⟨x0, x1⟩ := unhide DC w3 hb3
                  have y4 := (hb3.cell (p := ⟨w.heap.size, 4, none⟩) (by show w.heap.size < _; omega)).trans p4
                  have B3 := hide ((unhide hB).trans (hb3.mono hsr))
                  have BW3 := hide ((unhide BW).trans (hb3.mono (unhide BW).size))
                  clear hb3 p0 p4 c0 c1 c2 c3
                  by_cases hok : okDel lo h1 d = true
                  · rw [hok]
                    have HOK := hide ((unhide OA).trans hok)
                    by_cases hk : d.kind = 3
                    · have hk' : (d.kind == 3) = true := by simp [hk]
                      have HK := hide hk
                      clear hk
                      go_wp2_with fail
                      go_roundw
                      case rel => exact ⟨q + 1, by go_num, by rw [unhide HH, if_pos (unhide HK)], by omega, fun i hi' => by
                        rcases Nat.lt_or_ge i q with h | h
                        · exact unhide hK i h
                        · obtain rfl : i = q := by omega
                          exact unhide HOK, unhide B3⟩
                      case measure => simp [intOf]; omega
                    · have hk' : (d.kind == 3) = false := by simp [hk]
                      have HK := hide hk
                      clear hk
                      go_wp2_with fail
                      go_roundw
                      case rel => exact ⟨q + 1, by go_num, by rw [unhide HH, if_neg (unhide HK)], by omega, fun i hi' => by
                        rcases Nat.lt_or_ge i q with h | h
                        · exact unhide hK i h
                        · obtain rfl : i = q := by omega
                          exact unhide HOK, unhide B3⟩
                      case measure => simp [intOf]; omega
                  · have hok : okDel lo h1 d = false := by simpa using hok
                    rw [hok]
                    have OF2 := hide (unhide OF ((unhide OA).trans hok))
                    go_wp2_with fail
                    go_ret
                    exact ⟨ret_bool (unhide OF2).symm, unhide BW3⟩
              · obtain rfl : q = nc := by omega
                have K2 := hide (show ∀ i, i < ds.length → okAtD lo hi ds i = true from fun i hi' => unhide hK i (by rw [← unhide LD]; exact hi'))
                have p0 : wr.cell? ⟨w.heap.size, 0, none⟩ = some (.string lo) := heap_cell2 (unhide kr) 0
                have p1 : wr.cell? ⟨w.heap.size, 1, none⟩ = some (.string hi) := heap_cell2 (unhide kr) 1
                have p2 : wr.cell? ⟨w.heap.size, 2, none⟩ = some (.int .i64 r) := heap_cell2 (unhide kr) 2
                have p3 : wr.cell? ⟨w.heap.size, 3, none⟩ = some (.slice ab j cb) := heap_cell2 (unhide kr) 3
                have p4 : wr.cell? ⟨w.heap.size, 4, none⟩ = some (.slice ac q cc) := heap_cell2 (unhide kr) 4
                have OO := hide (ok_all (unhide HB) (by rw [unhide LE]; exact h4) (by rw [unhide LD]; exact h5) (unhide K1) (unhide K2))
                go_wp2_with fail
                refine (l04Entries_any lo hi r ab j cb es ac q cc ds wr ((unhide RE).below (unhide BW)) ((unhide RD).below (unhide BW)) (by omega) (by omega) hcb).mono ?_
                rintro x w5 ⟨g5, cap5, rfl, _, hb5⟩
                have BW5 := hide ((unhide BW).trans (hb5.mono (unhide BW).size))
                clear hb5
                go_wp2_with fail
                go_ret
                exact ⟨ret_bool (by rw [unhide OO]; exact decide_eq_decide.2 (by omega)), unhide BW5⟩
  · have hB : okBounds lo hi r = false := by simpa using hB
    rw [ok_bounds hB]
    exact specPageOK_bounds lo hi r _ _ w hB
end Go.Proofs.Ytdajoapbdeplhaa

namespace Go.Proofs.Ytdajoapbdeplhaa
open Go.RowKit

theorem manyT_pos {ps : List (Option PageD)} {x : Int} {p : PageD} (h : getP ps x = some p) : 0 < manyT ps := by
  unfold manyT
  exact List.countP_pos_iff.2 ⟨_, getP_mem h, rfl⟩
/-- The first Ref is that of page 0 alone. -/
def zeroRef (idx : List RefD) : Bool := match idx[0]? with
  | some x => x.low.toList.isEmpty && decide (x.id = 0)
  | none => false
theorem okT_spec {hs : List PpH} {gs : List Bool} {idx : List RefD} (h : 1 ≤ hs.length ∧ hs.length ≤ 30 ∧ gs.length = hs.length ∧ idx.length ≤ hs.length) (hp : ∀ i (h1 : i < hs.length) (h2 : i < gs.length), pgOK hs[i].X gs[i] = true) (hi : okIdx (trd hs gs idx).here idx = true) (h0 : 0 < idx.length) : okT (trd hs gs idx) = (zeroRef idx && goT (trd hs gs idx).here (manyT (trd hs gs idx).here) 0 ⟨#[]⟩) := by
  rw [okT_rest h hp, hi, Bool.and_true, Bool.and_comm]
  have r0 : okRef (trd hs gs idx).here idx 0 = true := by
    unfold okIdx at hi
    rw [List.all_eq_true] at hi
    exact hi 0 (List.mem_range.2 h0)
  have e0 := List.getElem?_eq_getElem h0
  unfold zeroIdx zeroRef
  unfold okRef at r0
  rw [e0] at r0
  rw [e0]
  generalize idx[0] = x at *
  simp only [Bool.and_eq_true] at r0
  have r0 := r0.1
  simp only
  cases hid : decide (x.id = 0) with
  | false => simp
  | true =>
    have hid := of_decide_eq_true hid
    rw [hid] at r0
    cases hg : getP (trd hs gs idx).here 0 with
    | none => rw [hg] at r0; cases r0
    | some p =>
      rw [hg] at r0
      have r0 := of_decide_eq_true r0
      have hm := manyT_pos hg
      cases he : x.low.toList.isEmpty with
      | true => simp
      | false =>
        obtain ⟨m, hm2⟩ : ∃ m, manyT (trd hs gs idx).here = m + 1 := ⟨manyT (trd hs gs idx).here - 1, by omega⟩
        rw [hm2, goT_other hg (fun e => by
          rw [← r0, e, ByteArray.toList_eq] at he
          cases he)]
        rfl
theorem okT_idx {hs : List PpH} {gs : List Bool} {idx : List RefD} (hi : okIdx (trd hs gs idx).here idx = false) : okT (trd hs gs idx) = false := by
  unfold okT
  show (((_ && okIdx (trd hs gs idx).here idx) && _) && _) = false
  rw [hi]
  simp
theorem okT_none {hs : List PpH} {gs : List Bool} {idx : List RefD} (h : idx.length = 0) : okT (trd hs gs idx) = false := by
  unfold okT trd
  simp only
  rw [decide_eq_false (fun e => by have := e.2.2.2.1; omega)]
  rfl
theorem pgOK_parts (p : PageD) (g : Bool) : pgOK p g = (okP p && (!g || noP p)) := by
  cases g with
  | false => show okP p = _; simp
  | true =>
    show noP p = _
    cases h : noP p with
    | true => rw [noP_ok h]; rfl
    | false => simp
theorem pgOK_chain {p : PageD} {g : Bool} (h : pgOK p g = true) : p.ds.length ≤ 100000 := by
  rw [pgOK_parts, Bool.and_eq_true] at h
  have h := h.1
  unfold okP okPage at h
  simp only [Bool.and_eq_true, decide_eq_true_eq] at h
  omega
set_option maxRecDepth 100000 in
set_option maxHeartbeats 4000000 in
theorem specTreeOK_any (ap : Option Addr) (np cp : Nat) (ag : Option Addr) (ng cg : Nat) (ai : Option Addr) (ni ci : Nat) (hs : List PpH) (gs : List Bool) (idx : List RefD) (w : World) (hT : TrIn w ap np cp ag ng cg ai ni hs gs idx) (hcb : ∀ h ∈ hs, h.s0.a = none → h.s0.c = 0) :
    Calls Try.prog 7 #[.agg #[.slice ap np cp, .slice ag ng cg, .slice ai ni ci]] w fun e w' => e = .returned (.bool (okT (trd hs gs idx))) ∧ Below w.heap.size w w' := by
  have b0 : ∀ o, Below w.heap.size w (w.alloc o) := fun o => (Below.refl _ _).alloc (Nat.le_refl _) _
  have lp := hT.plen
  have lg := hT.glen
  have li := hT.ix.1
  have BW := hide (b0 (.cells #[.slice ap np cp, .slice ag ng cg, .slice ai ni ci] 32))
  have BT := hide (show ∀ u, Below (w.alloc (.cells #[.slice ap np cp, .slice ag ng cg, .slice ai ni ci] 32)).heap.size (w.alloc (.cells #[.slice ap np cp, .slice ag ng cg, .slice ai ni ci] 32)) u → Below w.heap.size w u from fun u hu => (unhide BW).trans (hu.mono (unhide BW).size))
  have t0 : (w.alloc (.cells #[.slice ap np cp, .slice ag ng cg, .slice ai ni ci] 32)).cell? ⟨w.heap.size, 0, none⟩ = some (.slice ap np cp) := by simp
  have t1 : (w.alloc (.cells #[.slice ap np cp, .slice ag ng cg, .slice ai ni ci] 32)).cell? ⟨w.heap.size, 1, none⟩ = some (.slice ag ng cg) := by simp
  have t2 : (w.alloc (.cells #[.slice ap np cp, .slice ag ng cg, .slice ai ni ci] 32)).cell? ⟨w.heap.size, 2, none⟩ = some (.slice ai ni ci) := by simp
  by_cases h1 : ¬ (1 ≤ np ∧ np ≤ 30)
  · have Z := hide (show false = okT (trd hs gs idx) from (okT_size (hs := hs) (gs := gs) (idx := idx) fun e => by omega).symm)
    have HI := hide (fun W => l01In_any (np : Int) 1 30 W)
    rw [show (decide ((1 : Int) ≤ (np : Int)) && decide ((np : Int) ≤ 30)) = false by simp; omega] at HI

    clear hT t0 t1 t2 BT
    go_enter Try.func7, Try.ntmps7
    go_wp2_with fail
    refine (unhide HI _).mono ?_
    rintro e w2 ⟨rfl, hw2⟩
    subst w2
    clear HI
    go_wp2_with fail
    go_ret
    exact ⟨ret_bool (unhide Z), b0 _⟩
  by_cases h3 : ng ≠ np
  · have Z := hide (show false = okT (trd hs gs idx) from (okT_size (hs := hs) (gs := gs) (idx := idx) fun e => by omega).symm)
    have HI := hide (fun W => l01In_any (np : Int) 1 30 W)
    rw [show (decide ((1 : Int) ≤ (np : Int)) && decide ((np : Int) ≤ 30)) = true by simp; omega] at HI
    have h3 : ((ng : Int) != (np : Int)) = true := by simp; omega
    clear hT t0 t1 t2 BT
    go_enter Try.func7, Try.ntmps7
    go_wp2_with fail
    refine (unhide HI _).mono ?_
    rintro e w2 ⟨rfl, hw2⟩
    subst w2
    clear HI
    go_wp2_with fail
    go_ret
    exact ⟨ret_bool (unhide Z), b0 _⟩
  by_cases h4 : ni = 0
  · have Z := hide (show false = okT (trd hs gs idx) from (okT_none (hs := hs) (gs := gs) (idx := idx) (by omega)).symm)
    have HI := hide (fun W => l01In_any (np : Int) 1 30 W)
    rw [show (decide ((1 : Int) ≤ (np : Int)) && decide ((np : Int) ≤ 30)) = true by simp; omega] at HI
    have h3 : ((ng : Int) != (np : Int)) = false := by simp; omega
    subst h4
    clear hT t0 t1 t2 BT
    go_enter Try.func7, Try.ntmps7
    go_wp2_with fail
    refine (unhide HI _).mono ?_
    rintro e w2 ⟨rfl, hw2⟩
    subst w2
    clear HI
    go_wp2_with fail
    go_ret
    exact ⟨ret_bool (unhide Z), b0 _⟩
  by_cases h5 : np < ni
  · have Z := hide (show false = okT (trd hs gs idx) from (okT_size (hs := hs) (gs := gs) (idx := idx) fun e => by omega).symm)
    have HI := hide (fun W => l01In_any (np : Int) 1 30 W)
    rw [show (decide ((1 : Int) ≤ (np : Int)) && decide ((np : Int) ≤ 30)) = true by simp; omega] at HI
    have h3 : ((ng : Int) != (np : Int)) = false := by simp; omega
    have h4 : ((ni : Int) == 0) = false := by simp; omega
    clear hT t0 t1 t2 BT
    go_enter Try.func7, Try.ntmps7
    go_wp2_with fail
    refine (unhide HI _).mono ?_
    rintro e w2 ⟨rfl, hw2⟩
    subst w2
    clear HI
    go_wp2_with fail
    go_ret
    exact ⟨ret_bool (unhide Z), b0 _⟩
  obtain rfl : ng = np := by omega
  have hsz : 1 ≤ hs.length ∧ hs.length ≤ 30 ∧ gs.length = hs.length ∧ idx.length ≤ hs.length := ⟨by omega, by omega, by omega, by omega⟩
  have T := hide (hT.below (unhide BW))
  have HI := hide (fun W => l01In_any (ng : Int) 1 30 W)
  rw [show (decide ((1 : Int) ≤ (ng : Int)) && decide ((ng : Int) ≤ 30)) = true by simp; omega] at HI
  have j4 : ((ni : Int) == 0) = false := by simp; omega
  clear hT BW
  go_enter Try.func7, Try.ntmps7
  go_wp2_with fail
  refine (unhide HI _).mono ?_
  rintro e w2 ⟨rfl, hw2⟩
  subst w2
  clear HI
  go_wp2_with fail
  generalize w.alloc (.cells #[.slice ap ng cp, .slice ag ng cg, .slice ai ni ci] 32) = W at *
  go_loopw [4] (fun i wr => ∃ k : Nat, k ≤ ng ∧ i = .int .i64 k ∧ Hid (∀ i (_ : i < k) (h1 : i < hs.length) (h2 : i < gs.length), pgOK hs[i].X gs[i] = true) ∧ Below W.heap.size W wr) (fun i _ => ng - (intOf i).toNat)
  case atStart => exact ⟨0, by omega, rfl, (fun i hi => absurd hi (Nat.not_lt_zero _)), Below.refl _ _⟩
  case round =>
    obtain ⟨k, hk, rfl, hok, hb⟩ := hrel
    have s0 := (hb.cell (p := ⟨w.heap.size, 0, none⟩) (cell_lt t0)).trans t0
    have s1 := (hb.cell (p := ⟨w.heap.size, 1, none⟩) (cell_lt t1)).trans t1
    have s2 := (hb.cell (p := ⟨w.heap.size, 2, none⟩) (cell_lt t2)).trans t2
    have bR := hide (unhide BT _ hb)
    by_cases hlt : k < ng
    case neg =>
      obtain rfl : k = ng := by omega
      have OKP := hide (fun i h1 h2 => unhide hok i (by omega) h1 h2)
      have CH := hide (show ∀ h ∈ hs, h.s1.n ≤ 100000 from fun h hh => by
        obtain ⟨i, hi, e⟩ := List.getElem_of_mem hh
        have h1 := pgOK_chain (unhide OKP i hi (by omega))
        have h2 := (PpIn.sub (unhide T).pgs hi).2
        rw [← e, rowC_len h2]
        exact h1)
      have REST := hide (fun hi => okT_spec hsz (unhide OKP) hi (by omega))
      have HW := hide (fun u hu => l05Whole_any ap k cp ag cg ai ni ci hs gs idx u ((unhide T).below hu) (by omega) (unhide CH))
      clear hok OKP CH s0 s1 s2 bR
      go_wp2_with fail
      go_loopw [5] (fun i wr => ∃ j : Nat, j ≤ ni ∧ i = .int .i64 j ∧ Hid (∀ i, i < j → okRef (trd hs gs idx).here idx i = true) ∧ Below W.heap.size W wr) (fun i _ => ni - (intOf i).toNat)
      case atStart => exact ⟨0, by omega, rfl, (fun i hi => absurd hi (Nat.not_lt_zero _)), hb⟩
      case round =>
        clear hb
        obtain ⟨j, hj, rfl, hok, hb⟩ := hrel
        have s0 := (hb.cell (p := ⟨w.heap.size, 0, none⟩) (cell_lt t0)).trans t0
        have s1 := (hb.cell (p := ⟨w.heap.size, 1, none⟩) (cell_lt t1)).trans t1
        have s2 := (hb.cell (p := ⟨w.heap.size, 2, none⟩) (cell_lt t2)).trans t2
        have bR := hide (unhide BT _ hb)
        by_cases hlt2 : j < ni
        case neg =>
          obtain rfl : j = ni := by omega
          have R := hide (unhide REST (okIdx_true fun i hi => unhide hok i (by omega)))
          have h0 : 0 < idx.length := by omega
          obtain ⟨b, off, hai, d0, d1⟩ := ((unhide T).below hb).ix.2 0 h0
          subst hai
          rw [Nat.zero_mul] at d0 d1
          simp only [Nat.add_zero] at d0 d1
          have Z := hide (show zeroRef idx = (idx[0].low.toList.isEmpty && decide (idx[0].id = 0)) by unfold zeroRef; rw [List.getElem?_eq_getElem h0])
          have HW2 := hide (unhide HW wr hb)
          clear hok HW REST
          generalize idx[0] = x at *
          obtain ⟨low, id⟩ := x
          simp only at d0 d1 Z
          generalize goT (trd hs gs idx).here (manyT (trd hs gs idx).here) 0 ⟨#[]⟩ = GG at *
          by_cases hz : low = ⟨#[]⟩ ∧ id = 0
          · obtain ⟨rfl, rfl⟩ := hz
            have R2 := hide (show GG = okT (trd hs gs idx) by rw [unhide R, unhide Z, ByteArray.toList_eq]; rfl)
            go_wp2_with fail
            refine (unhide HW2).mono ?_
            rintro e w3 ⟨rfl, hb3⟩
            have bB := hide (unhide BT _ (hb.trans (hb3.mono hb.size)))
            clear HW2 d0 d1 s0 s1 s2
            go_wp2_with fail
            go_ret
            exact ⟨ret_bool (unhide R2), unhide bB⟩
          · have R2 := hide (show false = okT (trd hs gs idx) by
              rw [unhide R, unhide Z]
              cases he : low.toList.isEmpty with
              | false => rfl
              | true =>
                rw [decide_eq_false (fun e => hz ⟨by
                  rw [List.isEmpty_iff] at he
                  exact toList_inj (by rw [he, ByteArray.toList_eq]), e⟩)]
                rfl)
            clear R Z HW2
            by_cases hl : low.toList = []
            · have hid : ¬ id = 0 := fun e => hz ⟨toList_inj (by rw [hl, ByteArray.toList_eq]), e⟩
              clear hz
              go_wp2_with fail
              go_ret
              exact ⟨ret_bool (unhide R2), unhide bR⟩
            · clear hz
              go_wp2_with fail
              go_ret
              exact ⟨ret_bool (unhide R2), unhide bR⟩
        have hk2 : j < idx.length := by omega
        obtain ⟨b, off, hai, d0, d1⟩ := ((unhide T).below hb).ix.2 j hk2
        subst hai
        have B1 := hide (hb.alloc hb.size (.cells #[.string idx[j].low, .int .i64 idx[j].id] 55))
        have KN := hide (fun h => okRef_none (ps := (trd hs gs idx).here) hk2 h)
        have KO := hide (fun p h => okRef_other (ps := (trd hs gs idx).here) hk2 (p := p) h)
        have KH := hide (fun p h => okRef_here (ps := (trd hs gs idx).here) hk2 (p := p) h)
        have KT := hide (fun h => okRef_turn (ps := (trd hs gs idx).here) hk2 h)
        have IXF := hide (fun h => (okT_idx (okIdx_false (ps := (trd hs gs idx).here) hk2 h)).symm)
        have PRE := hide (fun (h : 0 < j) (u : World) (hb : Below W.heap.size W u) => ((unhide T).below hb).ix.2 (j - 1) (by omega))
        have ST := hide (show okRef (trd hs gs idx).here idx j = true → ∀ i, i < j + 1 → okRef (trd hs gs idx).here idx i = true from fun h i hi => by
          by_cases e : i < j
          · exact unhide hok i e
          · obtain rfl : i = j := by omega
            exact h)
        clear hok
        generalize hrk : idx[j] = rk at *
        obtain ⟨low, id⟩ := rk
        simp only at d0 d1 B1 KN KO KH KT
        go_upto_region 13 with fail
        clear d0 d1
        have y0 : (wr.alloc (.cells #[.string low, .int .i64 id] 55)).cell? ⟨wr.heap.size, 0, none⟩ = some (.string low) := by simp
        have y1 : (wr.alloc (.cells #[.string low, .int .i64 id] 55)).cell? ⟨wr.heap.size, 1, none⟩ = some (.int .i64 id) := by simp
        generalize wr.alloc (.cells #[.string low, .int .i64 id] 55) = V at *
        generalize wr.heap.size = bx at *
        clear hb s0 s1 s2 bR
        have s0 := ((unhide B1).cell (p := ⟨w.heap.size, 0, none⟩) (cell_lt t0)).trans t0
        have s1 := ((unhide B1).cell (p := ⟨w.heap.size, 1, none⟩) (cell_lt t1)).trans t1
        have s2 := ((unhide B1).cell (p := ⟨w.heap.size, 2, none⟩) (cell_lt t2)).trans t2
        have BE := hide (fun n => unhide BT _ (bel_drewN (unhide B1) n))
        have hwn : IntKind.i64.wrap ((k : Int) - 1) = (k : Int) - 1 := by rw [IntKind.wrap_i64]; omega
        have HI := hide (fun u => l01In_any id 0 ((k : Int) - 1) u)
        by_cases hin : 0 ≤ id ∧ id ≤ (k : Int) - 1
        case neg =>
          rw [show (decide ((0 : Int) ≤ id) && decide (id ≤ (k : Int) - 1)) = false by simp; omega] at HI
          have Z := hide (unhide IXF (unhide KN (by
            by_cases hneg : id < 0
            · exact getP_neg hneg
            · exact here_out (by omega))))
          go_quiet ((go_at_call 22; exact Calls.quiet_of_same (unhide HI _)))
          go_wp2_with fail
          go_ret
          exact ⟨ret_bool (unhide Z), unhide BE _⟩
        rw [show (decide ((0 : Int) ≤ id) && decide (id ≤ (k : Int) - 1)) = true by simp; omega] at HI
        obtain ⟨q, rfl⟩ : ∃ q : Nat, id = (q : Int) := ⟨id.toNat, by omega⟩
        have hq1 : q < hs.length := by omega
        have hq2 : q < gs.length := by omega
        have hq3 : q < k := by omega
        have HGT := here_get (idx := idx) hq1 hq2
        obtain ⟨b', off', hag, g0⟩ := RowC.at ((unhide T).below (unhide B1)).gone (j := q) (u := .bool gs[q]) (by rw [List.getElem?_map, List.getElem?_eq_getElem hq2]; rfl)
        subst hag
        obtain ⟨b2, off2, hap, hbl, d0, d1, d2, d3, d4⟩ := PpIn.cells ((unhide T).below (unhide B1)).pgs hq1
        subst hap
        cases hgq : gs[q] with
        | true =>
          rw [hgq] at HGT g0
          have Z := hide (unhide IXF (unhide KN HGT))
          clear HGT d0 d1 d2 d3 d4
          go_quiet ((go_at_call 22; exact Calls.quiet_of_same (unhide HI _)))
          go_wp2_with fail
          go_ret
          exact ⟨ret_bool (unhide Z), unhide BE _⟩
        | false =>
          rw [hgq] at HGT g0
          by_cases hlo : hs[q].X.lo = low
          case neg =>
            have Z := hide (unhide IXF (unhide KO _ HGT hlo))
            have hne : (hs[q].X.lo.toList == low.toList) = false := by
              cases hq2 : (hs[q].X.lo.toList == low.toList) with
              | false => rfl
              | true => exact absurd (toList_inj (by simpa using hq2)) hlo
            clear HGT d1 d2 d3 d4
            generalize hs[q] = pd at *
            obtain ⟨X, s0', s1'⟩ := pd
            simp only at d0 hne hlo
            go_quiet ((go_at_call 22; exact Calls.quiet_of_same (unhide HI _)))
            go_wp2_with fail
            go_ret
            exact ⟨ret_bool (unhide Z), unhide BE _⟩
          have KH2 := hide (unhide KH _ HGT hlo)
          rw [hlo] at d0
          clear HGT d1 d2 d3 d4 hlo
          by_cases hk0 : j = 0
          · have E := hide (unhide KH2 fun h => by omega)
            subst hk0
            go_quiet ((go_at_call 22; exact Calls.quiet_of_same (unhide HI _)))
            go_wp2_with fail
            go_roundw
            case rel => exact ⟨1, by omega, by go_num, unhide ST (unhide E), bel_drewN (unhide B1) _⟩
            case measure => simp [intOf]; omega
          have hkp : 0 < j := by omega
          obtain ⟨b4, off4, e4, z0, _⟩ := unhide PRE hkp _ (unhide B1)
          injection e4 with e4
          injection e4 with e5 e6
          subst e5 e6
          have hi1 : ((j : Int) - 1).toNat = j - 1 := by omega
          have hwr : IntKind.i64.wrap ((j : Int) - 1) = (j : Int) - 1 := by rw [IntKind.wrap_i64]; omega
          have hin : 0 ≤ (j : Int) - 1 ∧ (j : Int) - 1 < (ni : Int) := by omega
          have hgt : decide ((0 : Int) < (j : Int)) = true := decide_eq_true (by omega)
          have KT2 := hide (unhide KT hkp)
          have KH3 := hide (fun (e : ltK (idx[j - 1]'(by omega)).low low = true) => unhide KH2 fun _ => e)
          clear PRE KT KH2
          generalize idx[j - 1] = py at *
          obtain ⟨plow, pid⟩ := py
          simp only at z0 KT2 KH3
          unfold ltK at KT2 KH3
          cases hlt3 : Op.bytesLess plow.toList low.toList with
          | false =>
            have Z := hide (unhide IXF (unhide KT2 hlt3))
            go_quiet ((go_at_call 22; exact Calls.quiet_of_same (unhide HI _)))
            go_wp2_with fail
            go_ret
            exact ⟨ret_bool (unhide Z), unhide BE _⟩
          | true =>
            have E := hide (unhide KH3 hlt3)
            go_quiet ((go_at_call 22; exact Calls.quiet_of_same (unhide HI _)))
            go_wp2_with fail
            go_roundw
            case rel => exact ⟨j + 1, by omega, by go_num, unhide ST (unhide E), bel_drewN (unhide B1) _⟩
            case measure => simp [intOf]; omega
    have hk1 : k < hs.length := by omega
    have hk2 : k < gs.length := by omega
    obtain ⟨b', off', hag, g0⟩ := RowC.at ((unhide T).below hb).gone (j := k) (u := .bool gs[k]) (by rw [List.getElem?_map, List.getElem?_eq_getElem hk2]; rfl)
    subst hag
    obtain ⟨b, off, hap, hbl, d0, d1, d2, d3, d4⟩ := PpIn.cells ((unhide T).below hb).pgs hk1
    subst hap
    have SUB := PpIn.sub ((unhide T).below hb).pgs hk1
    have HP := hide (specPageOK_any hs[k].X.lo hs[k].X.hi hs[k].X.r hs[k].s0.a hs[k].s0.n hs[k].s0.c hs[k].X.es hs[k].s1.a hs[k].s1.n hs[k].s1.c hs[k].X.ds wr (erow_C SUB.1) (drow_C SUB.2) (hcb _ (List.getElem_mem hk1)))
    have HN := hide (fun u => l05Empty_any hs[k].X.lo hs[k].X.hi hs[k].X.r hs[k].s0.a hs[k].s0.n hs[k].s0.c hs[k].s1.a hs[k].s1.n hs[k].s1.c u)
    rw [show emptyP hs[k].X.lo hs[k].X.hi hs[k].X.r hs[k].s0.n hs[k].s1.n = noP hs[k].X by
      unfold emptyP noP
      rw [rowC_len SUB.1, rowC_len SUB.2]] at HN
    have BAD := hide (fun e => okT_page (idx := idx) hk1 hk2 e)
    rw [pgOK_parts] at BAD
    have ST := hide (show pgOK hs[k].X gs[k] = true → ∀ i (_ : i < k + 1) (h1 : i < hs.length) (h2 : i < gs.length), pgOK hs[i].X gs[i] = true from fun h i hi h1 h2 => by
      by_cases e : i < k
      · exact unhide hok i e h1 h2
      · obtain rfl : i = k := by omega
        exact h)
    rw [pgOK_parts] at ST
    rw [show okPage hs[k].X.lo hs[k].X.hi hs[k].X.r hs[k].X.es hs[k].X.ds = okP hs[k].X from rfl] at HP
    clear SUB hok
    unfold pgv at HP
    generalize gs[k] = gk at *
    generalize okP hs[k].X = ok1 at *
    generalize noP hs[k].X = no1 at *
    generalize hs[k] = pd at *
    obtain ⟨X, ⟨a0, n0, c0⟩, ⟨a1, n1, c1⟩⟩ := pd
    simp only at d0 d1 d2 d3 d4 HP HN
    go_wp2_with fail
    refine (unhide HP).mono ?_
    rintro e w2 ⟨rfl, hb2⟩
    have bA := hide (hb.trans (hb2.mono hb.size))
    have s0' := (hb2.cell (p := ⟨w.heap.size, 0, none⟩) (cell_lt s0)).trans s0
    have s1' := (hb2.cell (p := ⟨w.heap.size, 1, none⟩) (cell_lt s1)).trans s1
    have g0' := (hb2.cell (p := ⟨b', off' + k, none⟩) (cell_lt g0)).trans g0
    have e0 := (hb2.cell (p := ⟨b, off + k * 5, none⟩) (cell_lt d0)).trans d0
    have e1 := (hb2.cell (p := ⟨b, off + k * 5 + 1, none⟩) (cell_lt d1)).trans d1
    have e2 := (hb2.cell (p := ⟨b, off + k * 5 + 2, none⟩) (cell_lt d2)).trans d2
    have e3 := (hb2.cell (p := ⟨b, off + k * 5 + 3, none⟩) (cell_lt d3)).trans d3
    have e4 := (hb2.cell (p := ⟨b, off + k * 5 + 4, none⟩) (cell_lt d4)).trans d4
    clear HP d0 d1 d2 d3 d4 g0 s0 s1 s2 hb hb2 bR
    cases ok1
    · have Z := hide (unhide BAD rfl)
      go_wp2_with fail
      go_ret
      exact ⟨ret_bool (unhide Z).symm, unhide BT _ (unhide bA)⟩
    cases gk
    · have Z := hide (unhide ST rfl)
      go_wp2_with fail
      go_roundw
      case rel => exact ⟨k + 1, by omega, by go_num, Z, unhide bA⟩
      case measure => simp [intOf]; omega
    go_wp2_with fail
    refine (unhide HN _).mono ?_
    rintro e w3 ⟨rfl, hb3⟩
    have bB := hide ((unhide bA).trans (hb3.mono (unhide bA).size))
    clear HN s0' s1' g0' e0 e1 e2 e3 e4
    cases no1
    · have Z := hide (unhide BAD rfl)
      go_wp2_with fail
      go_ret
      exact ⟨ret_bool (unhide Z).symm, unhide BT _ (unhide bB)⟩
    · have Z := hide (unhide ST rfl)
      go_wp2_with fail
      go_roundw
      case rel => exact ⟨k + 1, by omega, by go_num, Z, unhide bB⟩
      case measure => simp [intOf]; omega
end Go.Proofs.Ytdajoapbdeplhaa

namespace Go.Proofs.Ytdajoapbdeplhaa
open Go.RowKit

set_option maxHeartbeats 1000000 in
theorem implTreeOK_any (ap : Option Addr) (np cp : Nat) (ag : Option Addr) (ng cg : Nat) (ai : Option Addr) (ni ci : Nat) (hs : List PpH) (gs : List Bool) (idx : List RefD) (w : World) (hT : TrIn w ap np cp ag ng cg ai ni hs gs idx) (hci : ai = none → ci = 0) :
    Calls Try.prog 9 #[.agg #[.slice ap np cp, .slice ag ng cg, .slice ai ni ci]] w fun e w' => e = .returned (.bool (okT (trd hs gs idx))) ∧ Below w.heap.size w w' := by
  have b0 : ∀ o, Below w.heap.size w (w.alloc o) := fun o => (Below.refl _ _).alloc (Nat.le_refl _) _
  have C := hide (fun o => tableOf_any ap np cp ag ng cg ai ni ci hs gs idx (w.alloc o) (hT.below (b0 o)) hci)
  clear hT
  go_enter Try.func9, Try.ntmps9
  go_wp2_with fail
  refine (unhide C _).mono ?_
  rintro e w2 ⟨v, rfl, hb, _⟩
  go_wp2_with fail
  go_ret
  exact ⟨rfl, (b0 _).trans (hb.mono (b0 _).size)⟩
end Go.Proofs.Ytdajoapbdeplhaa

namespace Go.Proofs.Ytdajoapbdeplhaa
open Go.RowKit

/-- A tree that was made of one that came in. -/
structure TrMade (w : World) (B np ng ni g1 g2 g3 : Nat) (hs' hs : List PpH) (gs : List Bool) (idx : List RefD) : Prop where
  own : TrOwn w B np ng (.slice (some ⟨g1, 0, none⟩) np np) (.slice (some ⟨g2, 0, none⟩) ng ng) (.slice (some ⟨g3, 0, none⟩) ni ni) hs' gs idx
  same : hs'.map (·.X) = hs.map (·.X)
theorem TrMade.below {w w' : World} {B np ng ni g1 g2 g3 : Nat} {hs' hs : List PpH} {gs : List Bool} {idx : List RefD} (h : TrMade w B np ng ni g1 g2 g3 hs' hs gs idx) (hb : Below w.heap.size w w') : TrMade w' B np ng ni g1 g2 g3 hs' hs gs idx := ⟨h.own.below hb, h.same⟩
theorem TrMade.cap {w : World} {B np ng ni g1 g2 g3 : Nat} {hs' hs : List PpH} {gs : List Bool} {idx : List RefD} (h : TrMade w B np ng ni g1 g2 g3 hs' hs gs idx) : ∀ x ∈ hs', x.s0.a = none → x.s0.c = 0 := fun x hx e => by
  obtain ⟨i, a, ha⟩ := sbAt_of (es := hs'.map ppEl) (List.mem_map_of_mem hx) (x := ⟨79, 2, x.X.es.length, .slice x.s0.a x.s0.n x.s0.c, ecs x.X.es⟩) (List.Mem.head _)
  rcases (h.own.pg.dat i a _ ha).2 with ⟨e2, _⟩ | ⟨g, cap, cur, e2, _⟩
  · injection e2
  · rw [e] at e2
    injection e2 with e2
    cases e2
theorem tr_lens {w : World} {v : Value} {n : Nat} {hs : List PpH} (h : PpIn w v n hs) : ∀ x ∈ hs, x.s0.n = x.X.es.length ∧ x.s1.n = x.X.ds.length := fun x hx => by
  obtain ⟨i, hi, e⟩ := List.getElem_of_mem hx
  have := PpIn.sub h hi
  rw [e] at this
  exact ⟨rowC_len this.1, rowC_len this.2⟩
theorem TrMade.few {w w0 : World} {B np ng ni g1 g2 g3 : Nat} {hs' hs : List PpH} {gs : List Bool} {idx : List RefD} {v : Value} {n : Nat} (h : TrMade w B np ng ni g1 g2 g3 hs' hs gs idx) (h0 : PpIn w0 v n hs) (hl : ∀ h ∈ hs, h.s0.n ≤ 1048576 ∧ h.s1.n ≤ 1048576) : ∀ h ∈ hs', h.s0.n ≤ 1048576 ∧ h.s1.n ≤ 1048576 := fun x hx => by
  obtain ⟨a1, a2⟩ := tr_lens h.own.pg.reads x hx
  have hm : x.X ∈ hs.map (·.X) := by rw [← h.same]; exact List.mem_map_of_mem hx
  obtain ⟨y, hy, e⟩ := List.mem_map.1 hm
  obtain ⟨c1, c2⟩ := tr_lens h0 y hy
  have := hl y hy
  rw [a1, a2, ← e, ← c1, ← c2]
  exact this
theorem TrMade.okT {w : World} {B np ng ni g1 g2 g3 : Nat} {hs' hs : List PpH} {gs : List Bool} {idx : List RefD} (h : TrMade w B np ng ni g1 g2 g3 hs' hs gs idx) : trd hs' gs idx = trd hs gs idx := by unfold trd; rw [h.same]
theorem tr_cells {w : World} {b : Nat} {v0 v1 v2 : Value} {t : TypeId} (h : w.heap[b]? = some (.cells #[v0, v1, v2] t (0, 0))) : w.cell? ⟨b, 0, none⟩ = some v0 ∧ w.cell? ⟨b, 1, none⟩ = some v1 ∧ w.cell? ⟨b, 2, none⟩ = some v2 :=
  ⟨(heap_at h 0).1, (heap_at h 1).1, (heap_at h 2).1⟩
theorem tr_lt {w : World} {b : Nat} {o : Obj} (h : w.heap[b]? = some o) : b < w.heap.size := (Array.getElem?_eq_some_iff.1 h).1
set_option maxRecDepth 100000 in
set_option maxHeartbeats 8000000 in
theorem lawTreeOK_any (ap : Option Addr) (np cp : Nat) (ag : Option Addr) (ng cg : Nat) (ai : Option Addr) (ni ci : Nat) (hs : List PpH) (gs : List Bool) (idx : List RefD) (w : World) (hT : TrIn w ap np cp ag ng cg ai ni hs gs idx) (hC : TrCame w hs idx) (hn : np ≤ maxLen ∧ ng ≤ maxLen ∧ ni ≤ maxLen) :
    Calls Try.prog 3 #[.agg #[.slice ap np cp, .slice ag ng cg, .slice ai ni ci]] w fun e w' => e = .returned (.bool true) ∧ Below w.heap.size w w' := by
  have B : Below w.heap.size w (w.alloc (.cells #[.slice ap np cp, .slice ag ng cg, .slice ai ni ci] 26)) := (Below.refl _ _).alloc (Nat.le_refl _) _
  have P := hide hT
  have PC := hide hC
  have K := hide (heap_alloc_new w (.cells #[.slice ap np cp, .slice ag ng cg, .slice ai ni ci] 26))
  have cC : ∀ u, Below w.heap.size w u → TrCame u hs idx := fun u hu => ⟨fun h hh => (hC.pg h hh).below hu, hC.ix⟩
  have C0 := hide (fun u (hu : Below w.heap.size w u) => szTree_any ap np cp ag ng cg ai ni ci hs gs idx 1048576 u (by omega) (by omega) (hT.below hu) (cC u hu) hn)
  have CC := hide cC
  clear hT hC hn cC
  go_enter Try.func3, Try.ntmps3
  go_wp2_with fail
  generalize w.alloc (.cells #[.slice ap np cp, .slice ag ng cg, .slice ai ni ci] 26) = W0 at *
  refine (unhide C0 W0 B).mono ?_
  rintro e w1 ⟨q, rfl, hq, hb⟩
  replace K := hide ((hb.block w.heap.size (tr_lt (unhide K))).trans (unhide K))
  replace B := B.trans (hb.mono B.size)
  clear hb C0
  rcases hq with rfl | ⟨q0, _, n1, n2, n3, hfew⟩
  · go_wp2_with fail
    go_ret
    exact ⟨rfl, B⟩
  have FEW := hide hfew
  clear hfew
  have CT := hide (show ∀ u, Below w.heap.size w u → Calls Try.prog 8 #[.agg #[.slice ap np cp, .slice ag ng cg, .slice ai ni ci]] u fun e w' => ∃ g1 g2 g3 hs', e = .returned (.agg #[.slice (some ⟨g1, 0, none⟩) np np, .slice (some ⟨g2, 0, none⟩) ng ng, .slice (some ⟨g3, 0, none⟩) ni ni]) ∧ TrMade w' u.heap.size np ng ni g1 g2 g3 hs' hs gs idx ∧ Below u.heap.size u w' from fun u hu => (toTree_any ap np cp ag ng cg ai ni ci hs gs idx u ((unhide P).below hu) (unhide CC u hu) ⟨n1, n2, n3⟩ (unhide FEW)).mono fun e w' h => by
    obtain ⟨g1, g2, g3, hs', e, o, x, b⟩ := h
    exact ⟨g1, g2, g3, hs', e, ⟨o, x⟩, b⟩)
  obtain ⟨R, hR⟩ : ∃ R, R = okT (trd hs gs idx) := ⟨_, rfl⟩
  have CS := hide (show ∀ (u : World) (B g1 g2 g3 : Nat) (hs' : List PpH), TrMade u B np ng ni g1 g2 g3 hs' hs gs idx → Calls Try.prog 7 #[.agg #[.slice (some ⟨g1, 0, none⟩) np np, .slice (some ⟨g2, 0, none⟩) ng ng, .slice (some ⟨g3, 0, none⟩) ni ni]] u fun e w' => e = .returned (.bool R) ∧ Below u.heap.size u w' from fun u B g1 g2 g3 hs' ho => by
    rw [hR, ← ho.okT]; exact specTreeOK_any _ _ _ _ _ _ _ _ _ hs' gs idx u ho.own.reads ho.cap)
  have CI := hide (show ∀ (u : World) (B g1 g2 g3 : Nat) (hs' : List PpH), TrMade u B np ng ni g1 g2 g3 hs' hs gs idx → Calls Try.prog 9 #[.agg #[.slice (some ⟨g1, 0, none⟩) np np, .slice (some ⟨g2, 0, none⟩) ng ng, .slice (some ⟨g3, 0, none⟩) ni ni]] u fun e w' => e = .returned (.bool R) ∧ Below u.heap.size u w' from fun u B g1 g2 g3 hs' ho => by
    rw [hR, ← ho.okT]; exact implTreeOK_any _ _ _ _ _ _ _ _ _ hs' gs idx u ho.own.reads (fun h => by cases h))
  have CQ := hide (show ∀ (u : World) (B g1 g2 g3 B' h1 h2 h3 : Nat) (hs1 hs2 : List PpH), TrMade u B np ng ni g1 g2 g3 hs1 hs gs idx → TrMade u B' np ng ni h1 h2 h3 hs2 hs gs idx → Calls Try.prog 10 #[.agg #[.slice (some ⟨g1, 0, none⟩) np np, .slice (some ⟨g2, 0, none⟩) ng ng, .slice (some ⟨g3, 0, none⟩) ni ni], .agg #[.slice (some ⟨h1, 0, none⟩) np np, .slice (some ⟨h2, 0, none⟩) ng ng, .slice (some ⟨h3, 0, none⟩) ni ni]] u fun e w' => e = .returned (.bool true) ∧ Below u.heap.size u w' from fun u B g1 g2 g3 B' h1 h2 h3 hs1 hs2 o1 o2 =>
    eqTree_any _ _ np _ _ _ _ ng _ _ _ _ ni _ _ hs1 hs2 gs idx u o1.own.reads o2.own.reads (o2.same.trans o1.same.symm) ⟨n1, n2, n3⟩ (o1.few (unhide P).pgs (unhide FEW)))
  have hRR : (R != R) = false := by cases R <;> rfl
  clear hR P FEW CC PC
  obtain ⟨p0, p1, p2⟩ := tr_cells (unhide K)
  go_wp2_with fail
  refine (unhide CT w1 B).mono ?_
  rintro e w2 ⟨g1, g2, g3, hs2, rfl, ho, hb⟩
  replace K := hide ((hb.block w.heap.size (tr_lt (unhide K))).trans (unhide K))
  replace B := B.trans (hb.mono B.size)
  have O2 := hide ho
  clear hb ho p0 p1 p2
  go_wp2_with fail
  refine (unhide CS w2 _ _ _ _ _ (unhide O2)).mono ?_
  rintro e w3 ⟨rfl, hb⟩
  replace K := hide ((hb.block w.heap.size (tr_lt (unhide K))).trans (unhide K))
  replace B := B.trans (hb.mono B.size)
  clear hb O2 CS
  obtain ⟨p0, p1, p2⟩ := tr_cells (unhide K)
  go_wp2_with fail
  refine (unhide CT w3 B).mono ?_
  rintro e w4 ⟨x1, x2, x3, hs4, rfl, ho, hb⟩
  replace K := hide ((hb.block w.heap.size (tr_lt (unhide K))).trans (unhide K))
  replace B := B.trans (hb.mono B.size)
  clear hb p0 p1 p2
  have hb : Below w4.heap.size w4 (w4.alloc (.cells #[.slice (some ⟨x1, 0, none⟩) np np, .slice (some ⟨x2, 0, none⟩) ng ng, .slice (some ⟨x3, 0, none⟩) ni ni] 32)) := (Below.refl _ _).alloc (Nat.le_refl _) _
  have X := hide (heap_alloc_new w4 (.cells #[.slice (some ⟨x1, 0, none⟩) np np, .slice (some ⟨x2, 0, none⟩) ng ng, .slice (some ⟨x3, 0, none⟩) ni ni] 32))
  replace K := hide ((hb.block w.heap.size (tr_lt (unhide K))).trans (unhide K))
  replace B := B.trans (hb.mono B.size)
  have OX := hide (ho.below hb)
  clear hb ho
  go_wp2_with fail
  generalize w4.alloc (.cells #[.slice (some ⟨x1, 0, none⟩) np np, .slice (some ⟨x2, 0, none⟩) ng ng, .slice (some ⟨x3, 0, none⟩) ni ni] 32) = w5 at *
  generalize hxb : w4.heap.size = xb at *
  refine (unhide CI w5 _ _ _ _ _ (unhide OX)).mono ?_
  rintro e w6 ⟨rfl, hb⟩
  replace K := hide ((hb.block w.heap.size (tr_lt (unhide K))).trans (unhide K))
  replace X := hide ((hb.block xb (tr_lt (unhide X))).trans (unhide X))
  replace OX := hide ((unhide OX).below hb)
  replace B := B.trans (hb.mono B.size)
  clear hb CI hxb
  have SK := hide (show ∀ u, Below w6.heap.size w6 u → (fun u => Below w6.heap.size w6 u ∧ u.cell? ⟨w.heap.size, 0, none⟩ = some (.slice ap np cp) ∧ u.cell? ⟨w.heap.size, 1, none⟩ = some (.slice ag ng cg) ∧ u.cell? ⟨w.heap.size, 2, none⟩ = some (.slice ai ni ci) ∧ u.cell? ⟨xb, 0, none⟩ = some (.slice (some ⟨x1, 0, none⟩) np np) ∧ u.cell? ⟨xb, 1, none⟩ = some (.slice (some ⟨x2, 0, none⟩) ng ng) ∧ u.cell? ⟨xb, 2, none⟩ = some (.slice (some ⟨x3, 0, none⟩) ni ni)) u from fun u hb => by
    obtain ⟨m0, m1, m2⟩ := tr_cells ((hb.block w.heap.size (tr_lt (unhide K))).trans (unhide K))
    obtain ⟨i0, i1, i2⟩ := tr_cells ((hb.block xb (tr_lt (unhide X))).trans (unhide X))
    exact ⟨hb, m0, m1, m2, i0, i1, i2⟩)
  have DT := hide (fun (u : World) (hb : Below w6.heap.size w6 u) => (unhide CT u (B.trans (hb.mono B.size))).mono fun e u' h => show ∃ g1 g2 g3 hs', e = .returned (.agg #[.slice (some ⟨g1, 0, none⟩) np np, .slice (some ⟨g2, 0, none⟩) ng ng, .slice (some ⟨g3, 0, none⟩) ni ni]) ∧ TrMade u' u.heap.size np ng ni g1 g2 g3 hs' hs gs idx ∧ Below w6.heap.size w6 u' by
    obtain ⟨g1, g2, g3, hs', e, o, b⟩ := h
    exact ⟨g1, g2, g3, hs', e, o, hb.trans (b.mono hb.size)⟩)
  have DQ := hide (fun (u : World) (hb : Below w6.heap.size w6 u) (B' h1 h2 h3 : Nat) (hs2 : List PpH) (o2 : TrMade u B' np ng ni h1 h2 h3 hs2 hs gs idx) => (unhide CQ u _ _ _ _ _ _ _ _ _ _ ((unhide OX).below hb) o2).mono fun e u' h => show e = .returned (.bool true) ∧ Below w6.heap.size w6 u' from ⟨h.1, hb.trans (h.2.mono hb.size)⟩)
  have G0 : Below w6.heap.size w6 w6.drew := (Below.refl _ _).drew
  clear CT CQ
  go_wp2_with fail
  go_region_held3 (fun u => Below w6.heap.size w6 u ∧ u.cell? ⟨w.heap.size, 0, none⟩ = some (.slice ap np cp) ∧ u.cell? ⟨w.heap.size, 1, none⟩ = some (.slice ag ng cg) ∧ u.cell? ⟨w.heap.size, 2, none⟩ = some (.slice ai ni ci) ∧ u.cell? ⟨xb, 0, none⟩ = some (.slice (some ⟨x1, 0, none⟩) np np) ∧ u.cell? ⟨xb, 1, none⟩ = some (.slice (some ⟨x2, 0, none⟩) ng ng) ∧ u.cell? ⟨xb, 2, none⟩ = some (.slice (some ⟨x3, 0, none⟩) ni ni)) (exact unhide SK _ (by assumption)) (first
    | (go_at_call 8; refine (unhide DT _ (by assumption)).mono ?_; rintro e w7 ⟨h1, h2, h3, hs7, rfl, o7, b7⟩; have H7 := hide o7; clear o7)
    | (go_at_call 10; refine (unhide DQ _ (by assumption) _ _ _ _ _ (unhide H7)).mono ?_; rintro e w8 ⟨rfl, b8⟩))
  clear b7 H7 G0 DT DQ SK
  have BF := B.trans (b8.mono B.size)
  clear b8
  go_wp2_with fail
  go_ret
  exact ⟨rfl, BF⟩
end Go.Proofs.Ytdajoapbdeplhaa

namespace Go.Proofs.Ytdajoapbdeplhaa
open Go.RowKit

theorem count2 {α : Type} {P : α → Bool} : ∀ {l : List α} {i j : Nat} {x y : α}, l[i]? = some x → l[j]? = some y → i < j → P x = true → P y = true → 2 ≤ l.countP P
  | [], i, _, _, _, h, _, _, _, _ => by simp at h
  | z :: l, 0, j + 1, x, y, hx, hy, _, px, py => by
    simp only [List.getElem?_cons_zero, Option.some.injEq] at hx
    subst hx
    rw [List.countP_cons, if_pos px]
    have : 1 ≤ l.countP P := List.countP_pos_iff.2 ⟨y, List.mem_of_getElem? (by simpa using hy), py⟩
    omega
  | z :: l, i + 1, j + 1, x, y, hx, hy, hij, px, py => by
    have := count2 (P := P) (l := l) (i := i) (j := j) (by simpa using hx) (by simpa using hy) (by omega) px py
    rw [List.countP_cons]
    omega
/-- Pages that begin at a text or behind it, but ahead of another one. -/
def btP (low hi : ByteArray) (q : Option PageD) : Bool := geP low q && !geP hi q
theorem count_bt (low hi : ByteArray) (h : ltK low hi = true) : ∀ ps : List (Option PageD), cntGe ps low = ps.countP (btP low hi) + cntGe ps hi
  | [] => rfl
  | q :: ps => by
    have ih := count_bt low hi h ps
    unfold cntGe at *
    rw [List.countP_cons, List.countP_cons, List.countP_cons, ih]
    have key : (if geP low q = true then 1 else 0) = (if btP low hi q = true then 1 else 0) + (if geP hi q = true then 1 else 0) := by
      unfold btP
      cases h2 : geP hi q with
      | false => cases geP low q <;> rfl
      | true =>
        have : geP low q = true := by
          cases q with
          | none => cases h2
          | some r =>
            rw [geP_some, Bool.not_eq_true'] at h2 ⊢
            cases h3 : ltK r.lo low
            · rfl
            · have := ltK_trans h3 h
              rw [h2] at this
              cases this
        rw [this]
        rfl
    omega
theorem goT_count {ps : List (Option PageD)} (hok : ∀ p, some p ∈ ps → okP p = true) : ∀ (m : Nat) (id : Int) (low : ByteArray), goT ps m id low = true → m ≤ cntGe ps low
  | 0, _, _, _ => Nat.zero_le _
  | m + 1, id, low, h => by
    cases hg : getP ps id with
    | none => rw [goT_none hg] at h; cases h
    | some p =>
      by_cases hl : p.lo = low
      · rw [goT_next hg hl] at h
        have hm := getP_mem hg
        subst hl
        cases m with
        | zero => exact cntGe_here hm
        | succ m =>
          have ih := goT_count hok (m + 1) _ _ h
          cases hn : getP ps (riP p) with
          | none => rw [goT_none hn] at h; cases h
          | some p2 =>
            obtain ⟨b1, b2⟩ := okP_bd (hok p hm)
            cases he : (hiP p).toList.isEmpty with
            | true => rw [b1 he, getP_neg (by omega)] at hn; cases hn
            | false =>
              have := cntGe_next hm (b2 he).1
              omega
      · rw [goT_other hg hl] at h; cases h
/-- What stands to the right of a page. -/
def NextP (ps : List (Option PageD)) (p : PageD) : Prop := (riP p = -1 ∧ (hiP p).toList.isEmpty = true) ∨ (ltK p.lo (hiP p) = true ∧ ∃ p2, getP ps (riP p) = some p2 ∧ p2.lo = hiP p)
theorem getP_at {ps : List (Option PageD)} {x : Int} {p : PageD} (h : getP ps x = some p) : ∃ k : Nat, x = (k : Int) ∧ ps[k]? = some (some p) := by
  by_cases h0 : x < 0
  · rw [getP_neg h0] at h; cases h
  · obtain ⟨k, rfl⟩ : ∃ k : Nat, x = (k : Int) := ⟨x.toNat, by omega⟩
    refine ⟨k, rfl, ?_⟩
    rw [getP_nat] at h
    cases hq : ps[k]? with
    | none => rw [hq] at h; cases h
    | some q => rw [hq] at h; rw [show q = some p from h]
theorem one_at {ps : List (Option PageD)} {P : Option PageD → Bool} {x y : Int} {p q : PageD} (h1 : ps.countP P ≤ 1) (hp : getP ps x = some p) (hq : getP ps y = some q) (pp : P (some p) = true) (pq : P (some q) = true) : q = p := by
  obtain ⟨i, rfl, hi⟩ := getP_at hp
  obtain ⟨j, rfl, hj⟩ := getP_at hq
  rcases Nat.lt_trichotomy i j with h | h | h
  · have := count2 hi hj h pp pq; omega
  · subst h
    rw [hi] at hj
    injection hj with hj
    injection hj with hj
    exact hj.symm
  · have := count2 hj hi h pq pp; omega
theorem goT_cover {ps : List (Option PageD)} (hok : ∀ p, some p ∈ ps → okP p = true) : ∀ (m : Nat) (id : Int) (low : ByteArray), goT ps m id low = true → cntGe ps low ≤ m → ∀ (y : Int) (q : PageD), getP ps y = some q → ltK q.lo low = false → NextP ps q
  | 0, _, low, _, hc, y, q, hq, hl => by
    exfalso
    have : 1 ≤ cntGe ps low := List.countP_pos_iff.2 ⟨_, getP_mem hq, by rw [geP_some, hl]; rfl⟩
    omega
  | m + 1, id, low, h, hc, y, q, hq, hl => by
    cases hg : getP ps id with
    | none => rw [goT_none hg] at h; cases h
    | some p =>
      by_cases hlo : p.lo = low
      · rw [goT_next hg hlo] at h
        have hm := getP_mem hg
        subst hlo
        obtain ⟨b1, b2⟩ := okP_bd (hok p hm)
        cases m with
        | zero =>
          have hone : q = p := one_at (P := geP p.lo) hc hg hq (by rw [geP_some, ltK_irr]; rfl) (by rw [geP_some, hl]; rfl)
          subst hone
          unfold goT at h
          rw [Bool.and_eq_true] at h
          exact .inl ⟨b1 h.2, h.2⟩
        | succ m =>
          cases hn : getP ps (riP p) with
          | none => rw [goT_none hn] at h; cases h
          | some p2 =>
            cases he : (hiP p).toList.isEmpty with
            | true => rw [b1 he, getP_neg (by omega)] at hn; cases hn
            | false =>
              have hlt := (b2 he).1
              have h2 : p2.lo = hiP p := by
                by_cases e : p2.lo = hiP p
                · exact e
                · rw [goT_other hn e] at h; cases h
              have hcb := count_bt p.lo (hiP p) hlt ps
              have hge := goT_count hok _ _ _ h
              have hpos : 1 ≤ ps.countP (btP p.lo (hiP p)) := List.countP_pos_iff.2 ⟨_, hm, by unfold btP; rw [geP_some, geP_some, ltK_irr, hlt]; rfl⟩
              cases hqh : ltK q.lo (hiP p) with
              | false => exact goT_cover hok (m + 1) _ _ h (by omega) y q hq hqh
              | true =>
                have hone : q = p := one_at (P := btP p.lo (hiP p)) (by omega) hg hq (by unfold btP; rw [geP_some, geP_some, ltK_irr, hlt]; rfl) (by unfold btP; rw [geP_some, geP_some, hl, hqh]; rfl)
                subst hone
                exact .inr ⟨hlt, p2, hn, h2⟩
      · rw [goT_other hg hlo] at h; cases h
theorem ltK_none (a : ByteArray) : ltK a ⟨#[]⟩ = false := by
  unfold ltK
  rw [show (⟨#[]⟩ : ByteArray).toList = [] by rw [ByteArray.toList_eq]]
  cases a.toList <;> rfl
theorem next_of {ps : List (Option PageD)} (hok : ∀ p, some p ∈ ps → okP p = true) (hg : goT ps (manyT ps) 0 ⟨#[]⟩ = true) {y : Int} {q : PageD} (h : getP ps y = some q) : NextP ps q :=
  goT_cover hok (manyT ps) 0 ⟨#[]⟩ hg (cntGe_many ps _) y q h (ltK_none _)
end Go.Proofs.Ytdajoapbdeplhaa

namespace Go.Proofs.Ytdajoapbdeplhaa
open Go.RowKit

/-- A Ref as an entry. -/
def refE (x : RefD) : EntD := ⟨x.low, ByteArray.empty⟩
def RiseR (ds : List RefD) : Prop := Rise (ds.map refE)
theorem RiseR.le {ds : List RefD} (h : RiseR ds) {k : ByteArray} {i j : Nat} (hj : j < ds.length) (hij : i ≤ j) (hl : ltK ds[j].low k = true) : ltK (ds[i]'(by omega)).low k = true := by
  have := Rise.le (es := ds.map refE) h (k := k) (i := i) (j := j) (by simpa using hj) hij (by simpa [refE] using hl)
  simpa [refE] using this
theorem RiseR.ge {ds : List RefD} (h : RiseR ds) {k : ByteArray} {i j : Nat} (hj : j < ds.length) (hij : i ≤ j) (hi : ltK (ds[i]'(by omega)).low k = false) : ltK ds[j].low k = false := by
  have := Rise.ge (es := ds.map refE) h (k := k) (i := i) (j := j) (by simpa using hj) hij (by simpa [refE] using hi)
  simpa [refE] using this
theorem pos_leR (ds : List RefD) (k : ByteArray) : pos (ds.map refE) k ≤ ds.length := by have := pos_le (ds.map refE) k; simpa using this
theorem pos_uniR (ds : List RefD) (k : ByteArray) (p : Nat) (hp : p ≤ ds.length) (h1 : ∀ i (hi : i < ds.length), i < p → ltK ds[i].low k = true) (h2 : ∀ hi : p < ds.length, ltK (ds[p]'hi).low k = false) : p = pos (ds.map refE) k :=
  pos_uni (ds.map refE) k p (by simpa using hp) (fun i hi hlt => by have := h1 i (by simpa using hi) hlt; simpa [refE] using this) (fun hi => by have := h2 (by simpa using hi); simpa [refE] using this)
theorem lowOf_any (k : ByteArray) (v : Int) (w : World) : Calls Try.prog 81 #[.agg #[.string k, .int .i64 v]] w fun e w' => e = .returned (.string k) ∧ Below w.heap.size w w' := by
  go_enter Try.func81, Try.ntmps81
  go_wp2_with fail
  go_ret
  exact ⟨rfl, (Below.refl _ _).alloc (Nat.le_refl _) _⟩
set_option maxRecDepth 100000 in
set_option maxHeartbeats 4000000 in
theorem searchR_any (a : Option Addr) (n c : Nat) (es : List RefD) (k : ByteArray) (w : World) (hR : JRow w a n es) (hS : RiseR es) (hn : n ≤ 100000) :
    Calls Try.prog 80 #[.slice a n c, .string k, .func (.func 81) #[] #[]] w fun e w' => e = .returned (.tuple #[.int .i64 (pos (es.map refE) k : Nat), .bool (found (es.map refE) k)]) ∧ Below w.heap.size w w' := by
  have R := hide hR
  have S := hide hS
  have L := hR.1
  clear hR hS
  have PL := hide (pos_leR es k)
  go_enter Try.func80, Try.ntmps80
  go_wp2_with fail
  go_loopw [8, 9] (fun x y wr => ∃ (f t : Nat), x = .int .i64 (f : Int) ∧ y = .int .i64 (t : Int) ∧ f ≤ t ∧ t ≤ n ∧ Hid (∀ i (hi : i < es.length), i < f → ltK es[i].low k = true) ∧ Hid (∀ i (hi : i < es.length), t ≤ i → ltK es[i].low k = false) ∧ Below w.heap.size w wr) (fun x y _ => (intOf y).toNat - (intOf x).toNat)
  case atStart => exact ⟨0, n, rfl, rfl, Nat.zero_le _, Nat.le_refl _, fun i _ h => absurd h (Nat.not_lt_zero _), fun i hi h => absurd hi (by omega), Below.refl _ _⟩
  case round =>
    obtain ⟨f, t, rfl, rfl, hft, htn, hlo, hup, hb⟩ := hrel
    by_cases hlt : f < t
    · have R1 := hide ((unhide R).below hb)
      have hdiv : ((t : Int) - (f : Int)) / 2 = (((t - f) / 2 : Nat) : Int) := by omega
      obtain ⟨m, hmm⟩ : ∃ m, m = f + (t - f) / 2 := ⟨_, rfl⟩
      have hmi : (f : Int) + (((t - f) / 2 : Nat) : Int) = (m : Int) := by omega
      have hm' : m < es.length := by omega
      obtain ⟨b, off, rfl, c0, c1⟩ := (unhide R1).2 m hm'
      have hm1 : f ≤ m := by omega
      have hm2 : m < t := by omega
      have hmw : IntKind.i64.wrap (m : Int) = (m : Int) := by rw [IntKind.wrap_i64]; omega
      have HM := hide hmm
      clear hmm hmi hmw
      by_cases hl : Op.bytesLess es[m].low.toList k.toList = true
      · have LO := hide (show ∀ i (hi : i < es.length), i < m + 1 → ltK es[i].low k = true from fun i hi hlt => (unhide S).le hm' (by omega) hl)
        generalize es[m] = em at *
        rw [unhide HM] at c0 c1
        go_wp2_with fail
        refine (lowOf_any em.low em.id _).mono ?_
        rintro e w1 ⟨rfl, hb1⟩
        have B1 := hb.trans (hb1.mono hb.size)
        clear hb hb1
        go_wp2_with fail
        go_roundw
        case rel => exact ⟨m + 1, t, by rw [unhide HM]; go_num, rfl, by omega, htn, unhide LO, unhide hup, B1⟩
        case measure => have := unhide HM; simp [intOf]; omega
      · have hl' : Op.bytesLess es[m].low.toList k.toList = false := by simpa using hl
        have UP := hide (show ∀ i (hi : i < es.length), m ≤ i → ltK es[i].low k = false from fun i hi hle => (unhide S).ge hi hle hl')
        generalize es[m] = em at *
        rw [unhide HM] at c0 c1
        go_wp2_with fail
        refine (lowOf_any em.low em.id _).mono ?_
        rintro e w1 ⟨rfl, hb1⟩
        have B1 := hb.trans (hb1.mono hb.size)
        clear hb hb1
        go_wp2_with fail
        go_roundw
        case rel => exact ⟨f, m, rfl, by rw [unhide HM]; go_num, by omega, by omega, unhide hlo, unhide UP, B1⟩
        case measure => have := unhide HM; simp [intOf]; omega
    · obtain rfl : f = t := by omega
      have HP := hide (pos_uniR es k f (by omega) (unhide hlo) (fun hi => unhide hup f hi (Nat.le_refl _)))
      have FD := hide (show found (es.map refE) k = match (es.map refE)[f]? with
        | some e => e.k.toList == k.toList
        | none => false by rw [unhide HP]; rfl)
      by_cases hi : f < es.length
      · have R1 := hide ((unhide R).below hb)
        obtain ⟨b, off, rfl, c0, c1⟩ := (unhide R1).2 f hi
        have FD2 := hide (show (es[f].low.toList == k.toList) = found (es.map refE) k by rw [unhide FD, List.getElem?_map, List.getElem?_eq_getElem hi]; rfl)
        clear FD
        generalize es[f] = em at *
        have hfn : f < n := by omega
        go_wp2_with fail
        refine (lowOf_any em.low em.id _).mono ?_
        rintro e w1 ⟨rfl, hb1⟩
        have B1 := hb.trans (hb1.mono hb.size)
        clear hb hb1
        go_wp2_with fail
        go_ret2
        exact ⟨tup_ib (by rw [← unhide HP]) (unhide FD2), B1⟩
      · have FD2 := hide (show false = found (es.map refE) k by rw [unhide FD, List.getElem?_map, List.getElem?_eq_none (by omega)]; rfl)
        clear FD
        have hfn : ¬ f < n := by omega
        go_wp2_with fail
        go_ret2
        exact ⟨tup_ib (by rw [← unhide HP]) (unhide FD2), hb⟩
set_option maxHeartbeats 1000000 in
theorem searchRef_any (a : Option Addr) (n c : Nat) (es : List RefD) (k : ByteArray) (w : World) (hR : JRow w a n es) (hS : RiseR es) (hn : n ≤ 100000) :
    Calls Try.prog 63 #[.slice a n c, .string k] w fun e w' => e = .returned (.tuple #[.int .i64 (pos (es.map refE) k : Nat), .bool (found (es.map refE) k)]) ∧ Below w.heap.size w w' := by
  have R := hide hR
  have S := hide hS
  clear hR hS
  go_enter Try.func63, Try.ntmps63
  go_wp2_with fail
  refine (searchR_any a n c es k w (unhide R) (unhide S) hn).mono ?_
  rintro e w1 ⟨rfl, hb1⟩
  go_wp2_with fail
  go_ret2
  exact ⟨rfl, hb1⟩
end Go.Proofs.Ytdajoapbdeplhaa

namespace Go.Proofs.Ytdajoapbdeplhaa
open Go.RowKit

/-- What a right tree is. -/
structure GoodT (ps : List (Option PageD)) (idx : List RefD) : Prop where
  len : 1 ≤ ps.length ∧ ps.length ≤ 30
  ok : ∀ p, some p ∈ ps → okP p = true
  go : goT ps (manyT ps) 0 ⟨#[]⟩ = true
  ix : okIdx ps idx = true
  zero : ∃ h : 0 < idx.length, idx[0].low = ⟨#[]⟩ ∧ idx[0].id = 0
  il : idx.length ≤ ps.length
theorem GoodT.ref {ps : List (Option PageD)} {idx : List RefD} (h : okIdx ps idx = true) {i : Nat} (hi : i < idx.length) : ∃ p, getP ps idx[i].id = some p ∧ p.lo = idx[i].low := by
  have h1 : okRef ps idx i = true := (List.all_eq_true.1 h) i (List.mem_range.2 hi)
  cases hg : getP ps idx[i].id with
  | none => rw [okRef_none hi hg] at h1; cases h1
  | some p =>
    by_cases e : p.lo = idx[i].low
    · exact ⟨p, rfl, e⟩
    · rw [okRef_other hi hg e] at h1; cases h1
theorem good_of {t : TreD} (h : okT t = true) : GoodT t.here t.idx := by
  unfold okT at h
  simp only [Bool.and_eq_true] at h
  obtain ⟨⟨⟨⟨hs, hp⟩, hi⟩, hz⟩, hg⟩ := h
  obtain ⟨h1, h2, h3, h4, h5⟩ := of_decide_eq_true hs
  have hl : t.here.length = t.ps.length := by unfold TreD.here; rw [List.length_zipWith]; omega
  have h0 : 0 < t.idx.length := by omega
  have hok : ∀ p, some p ∈ t.here → okP p = true := fun p hm => by
    obtain ⟨i, hi, e⟩ := List.mem_iff_getElem.1 hm
    unfold TreD.here at e hi
    rw [List.getElem_zipWith] at e
    unfold okPg at hp
    rw [List.all_eq_true] at hp
    have hw : i < (List.zipWith (fun p g => if g then noP p else okP p) t.ps t.gone).length := by rw [List.length_zipWith] at hi ⊢; exact hi
    have := hp _ (List.getElem_mem hw)
    rw [List.getElem_zipWith] at this
    split at e
    · cases e
    · rename_i hgn
      rw [if_neg hgn] at this
      injection e with e
      rw [← e]
      exact this
  have hgo : goT t.here (manyT t.here) 0 ⟨#[]⟩ = true := hg
  refine ⟨⟨by omega, by omega⟩, hok, hgo, hi, ⟨h0, ?_⟩, by omega⟩
  have hid : t.idx[0].id = 0 := by
    rw [List.getElem?_eq_getElem h0] at hz
    exact of_decide_eq_true hz
  refine ⟨?_, hid⟩
  obtain ⟨p, hgp, hlo⟩ := GoodT.ref hi h0
  rw [hid] at hgp
  have hm := manyT_pos hgp
  obtain ⟨m, hm2⟩ : ∃ m, manyT t.here = m + 1 := ⟨manyT t.here - 1, by omega⟩
  rw [hm2] at hgo
  rw [← hlo]
  by_cases e : p.lo = ⟨#[]⟩
  · exact e
  · rw [goT_other hgp e] at hgo; cases hgo
theorem GoodT.rise {ps : List (Option PageD)} {idx : List RefD} (h : okIdx ps idx = true) : RiseR idx := by
  unfold RiseR Rise
  rw [List.pairwise_iff_getElem]
  have key : ∀ (j : Nat) (hj : j < idx.length) (i : Nat) (hij : i < j), ltK (idx[i]'(by omega)).low idx[j].low = true := fun j => by
    induction j with
    | zero => intro _ i hij; omega
    | succ j ih =>
      intro hj i hij
      have h1 : okRef ps idx (j + 1) = true := (List.all_eq_true.1 h) (j + 1) (List.mem_range.2 hj)
      have h2 : ltK (idx[j]'(by omega)).low idx[j + 1].low = true := by
        cases e : ltK (idx[j]'(by omega)).low idx[j + 1].low with
        | true => rfl
        | false => rw [okRef_turn hj (by omega) (by simpa using e)] at h1; cases h1
      by_cases e : i = j
      · subst e; exact h2
      · exact ltK_trans (ih (by omega) i (by omega)) h2
  intro i j hi hj hij
  simp only [List.getElem_map, refE]
  exact key j (by simpa using hj) i hij
/-- The place of the last Ref that is not above a text. -/
def plR (idx : List RefD) (k : ByteArray) : Nat := if found (idx.map refE) k then pos (idx.map refE) k else pos (idx.map refE) k - 1
theorem pl_facts {idx : List RefD} {k : ByteArray} (hr : RiseR idx) (hz : ∃ h : 0 < idx.length, idx[0].low = ⟨#[]⟩ ∧ idx[0].id = 0) : ∃ h : plR idx k < idx.length, ltK k (idx[plR idx k]).low = false ∧ (∀ i (hi : i < idx.length), plR idx k < i → ltK k idx[i].low = true) ∧ (found (idx.map refE) k = false → 0 < pos (idx.map refE) k) := by
  obtain ⟨h0, hl0, _⟩ := hz
  have hpl := pos_leR idx k
  cases hf : found (idx.map refE) k with
  | true =>
    obtain ⟨hi, he⟩ := found_in hf
    have hi' : pos (idx.map refE) k < idx.length := by simpa using hi
    have he' : idx[pos (idx.map refE) k].low = k := by simpa [refE] using he
    have e : plR idx k = pos (idx.map refE) k := by unfold plR; rw [hf]; rfl
    have key : ∀ (P : Nat) (hP : P < idx.length), idx[P].low = k → ltK k idx[P].low = false ∧ ∀ i (hi : i < idx.length), P < i → ltK k idx[i].low = true := fun P hP e2 => by
      refine ⟨by rw [e2]; exact ltK_irr k, fun i hi hlt => ?_⟩
      have := Rise.lt (es := idx.map refE) hr (i := P) (j := i) (by simpa using hi) hlt
      simp only [List.getElem_map, refE] at this
      rw [e2] at this
      exact this
    rw [e]
    exact ⟨hi', (key _ hi' he').1, (key _ hi' he').2, fun h => by cases h⟩
  | false =>
    have hpos : 0 < pos (idx.map refE) k := by
      rcases Nat.eq_zero_or_pos (pos (idx.map refE) k) with hz | hz
      · have hi : pos (idx.map refE) k < (idx.map refE).length := by rw [hz]; simpa using h0
        have := found_not hf hi
        simp only [hz, List.getElem_map, refE] at this
        rw [hl0, ltK_none] at this
        cases this
      · exact hz
    have e : plR idx k = pos (idx.map refE) k - 1 := by unfold plR; rw [hf]; rfl
    rw [e]
    have hlt := pos_lt (idx.map refE) k (pos (idx.map refE) k - 1) (by simp; omega) (by omega)
    simp only [List.getElem_map, refE] at hlt
    refine ⟨by omega, ltK_asymm hlt, fun i hi hgt => ?_, fun _ => hpos⟩
    have hp : pos (idx.map refE) k < (idx.map refE).length := by simp; omega
    have h1 := found_not hf hp
    simp only [List.getElem_map, refE] at h1
    by_cases e2 : i = pos (idx.map refE) k
    · subst e2; exact h1
    · have := Rise.lt (es := idx.map refE) hr (i := pos (idx.map refE) k) (j := i) (by simpa using hi) (by omega)
      simp only [List.getElem_map, refE] at this
      exact ltK_trans h1 this
theorem pl_uni {idx : List RefD} {k : ByteArray} (hr : RiseR idx) (hz : ∃ h : 0 < idx.length, idx[0].low = ⟨#[]⟩ ∧ idx[0].id = 0) {p : Nat} (hp : p < idx.length) (h1 : ltK k idx[p].low = false) (h2 : ∀ i (hi : i < idx.length), p < i → ltK k idx[i].low = true) : p = plR idx k := by
  obtain ⟨hq, g1, g2, _⟩ := pl_facts (k := k) hr hz
  rcases Nat.lt_trichotomy p (plR idx k) with h | h | h
  · rw [h2 _ hq h] at g1; cases g1
  · exact h
  · rw [g2 _ hp h] at h1; cases h1
/-- From a page on to the right, up to the page that a text stands in. -/
def downF (ps : List (Option PageD)) (key : ByteArray) : Nat → Int → Nat → Int × Nat
  | 0, id, h => (id, h)
  | m + 1, id, h => match getP ps id with
    | none => (id, h)
    | some p => if underK key (hiP p) then (id, h) else downF ps key m (riP p) (h + 1)
/-- The page of a text, and how often one goes to the right. -/
def downT (ps : List (Option PageD)) (idx : List RefD) (key : ByteArray) : Int × Nat := match idx[plR idx key]? with
  | some x => downF ps key 40 x.id 0
  | none => (0, 0)
/-- Where a walk to the right stands. -/
structure DnSt (ps : List (Option PageD)) (key : ByteArray) (D : Int × Nat) (id : Int) (h : Nat) : Prop where
  here : ∃ p, getP ps id = some p ∧ ltK key p.lo = false ∧ h + cntGe ps p.lo ≤ manyT ps
  eq : D = downF ps key (40 - h) id h
theorem DnSt.few {ps : List (Option PageD)} {key : ByteArray} {D : Int × Nat} {id : Int} {h : Nat} (s : DnSt ps key D id h) (hl : ps.length ≤ 30) : h < 30 := by
  obtain ⟨p, hg, _, hc⟩ := s.here
  have := cntGe_here (getP_mem hg)
  have := manyT_le ps
  omega
theorem DnSt.start {ps : List (Option PageD)} {idx : List RefD} {key : ByteArray} (g : GoodT ps idx) (hp : plR idx key < idx.length) : DnSt ps key (downT ps idx key) idx[plR idx key].id 0 := by
  obtain ⟨p, hg, hl⟩ := GoodT.ref g.ix hp
  obtain ⟨_, h1, _⟩ := pl_facts (k := key) (GoodT.rise g.ix) g.zero
  refine ⟨⟨p, hg, by rw [hl]; exact h1, by have := cntGe_many ps p.lo; omega⟩, ?_⟩
  unfold downT
  rw [List.getElem?_eq_getElem hp]
theorem DnSt.stop {ps : List (Option PageD)} {key : ByteArray} {D : Int × Nat} {id : Int} {h : Nat} (s : DnSt ps key D id h) (hl : ps.length ≤ 30) {p : PageD} (hg : getP ps id = some p) (hu : underK key (hiP p) = true) : D = (id, h) := by
  have := s.few hl
  rw [s.eq]
  obtain ⟨m, hm⟩ : ∃ m, 40 - h = m + 1 := ⟨40 - h - 1, by omega⟩
  rw [hm, downF, hg]
  simp only
  rw [if_pos hu]
theorem under_no {key hi : ByteArray} (h : underK key hi = false) : hi.toList.isEmpty = false ∧ ltK key hi = false := by
  unfold underK at h
  rwa [Bool.or_eq_false_iff] at h
theorem DnSt.next {ps : List (Option PageD)} {idx : List RefD} {key : ByteArray} {D : Int × Nat} {id : Int} {h : Nat} (s : DnSt ps key D id h) (g : GoodT ps idx) {p : PageD} (hg : getP ps id = some p) (hu : underK key (hiP p) = false) : DnSt ps key D (riP p) (h + 1) := by
  have hf := s.few g.len.2
  obtain ⟨h1, h2⟩ := under_no hu
  obtain ⟨p', hg', hl, hc⟩ := s.here
  rw [hg] at hg'
  injection hg' with hg'
  subst hg'
  rcases next_of g.ok g.go hg with ⟨_, he⟩ | ⟨hlt, p2, hg2, e2⟩
  · rw [h1] at he; cases he
  · refine ⟨⟨p2, hg2, by rw [e2]; exact h2, ?_⟩, ?_⟩
    · have := cntGe_next (getP_mem hg) hlt
      rw [e2]
      omega
    · rw [s.eq]
      obtain ⟨m, hm⟩ : ∃ m, 40 - h = m + 1 := ⟨40 - h - 1, by omega⟩
      rw [hm, show 40 - (h + 1) = m by omega, downF, hg]
      simp only
      rw [if_neg (by rw [hu]; decide)]
/-- Of a right tree the way down ends in a page that holds the text. -/
def DownTo (ps : List (Option PageD)) (idx : List RefD) (key : ByteArray) (p : PageD) : Prop := getP ps (downT ps idx key).1 = some p ∧ ltK key p.lo = false ∧ underK key (hiP p) = true ∧ (downT ps idx key).2 < 30
theorem DnSt.goal {ps : List (Option PageD)} {idx : List RefD} {key : ByteArray} {id : Int} {h : Nat} (s : DnSt ps key (downT ps idx key) id h) (hl : ps.length ≤ 30) {p : PageD} (hg : getP ps id = some p) (hu : underK key (hiP p) = true) : DownTo ps idx key p := by
  have e := s.stop hl hg hu
  have hf := s.few hl
  obtain ⟨p', hg', hlo, _⟩ := s.here
  rw [hg] at hg'
  injection hg' with hg'
  subst hg'
  unfold DownTo
  rw [e]
  exact ⟨hg, hlo, hu, hf⟩
theorem DnSt.reach {ps : List (Option PageD)} {idx : List RefD} {key : ByteArray} (g : GoodT ps idx) : ∀ (n : Nat) (id : Int) (h : Nat), n + h = 40 → DnSt ps key (downT ps idx key) id h → ∃ p, DownTo ps idx key p
  | 0, _, h, e, s => by have := s.few g.len.2; omega
  | n + 1, id, h, e, s => by
    obtain ⟨p, hg, _, _⟩ := s.here
    cases hu : underK key (hiP p) with
    | true => exact ⟨p, s.goal g.len.2 hg hu⟩
    | false => exact DnSt.reach g n _ (h + 1) (by omega) (s.next g hg hu)
theorem GoodT.down {ps : List (Option PageD)} {idx : List RefD} (g : GoodT ps idx) (key : ByteArray) : ∃ p, DownTo ps idx key p := by
  obtain ⟨hp, _⟩ := pl_facts (k := key) (GoodT.rise g.ix) g.zero
  exact DnSt.reach g 40 _ 0 rfl (DnSt.start g hp)
/-- In the way of the program: it goes on where there is a page to the right and the text is not below its bound. -/
theorem under_way {p : PageD} {key : ByteArray} (h : okP p = true) : (!decide (riP p = -1) && !ltK key (hiP p)) = !underK key (hiP p) := by
  obtain ⟨b1, b2⟩ := okP_bd h
  unfold underK
  cases he : (hiP p).toList.isEmpty with
  | true => rw [b1 he]; rfl
  | false => have := (b2 he).2.1; rw [decide_eq_false (by omega)]; simp
end Go.Proofs.Ytdajoapbdeplhaa

namespace Go.Proofs.Ytdajoapbdeplhaa
open Go.RowKit

/-- What Bounds answers. -/
def boundsV (lo hi : ByteArray) (r : Int) (es : List EntD) (ds : List DelD) : Value := if okPage lo hi r es ds = true then .tuple #[.string (highE hi ds), .int .i64 (rightE r ds), .int .i64 0] else .tuple #[.string ByteArray.empty, .int .i64 0, .int .i64 1]
/-- The value of a key. -/
def lookE (es : List EntD) (k : ByteArray) : Option ByteArray := (es.find? (fun e => e.k.toList == k.toList)).map (·.v)
def lookV : Option ByteArray → Value
  | some v => .tuple #[.string v, .int .i64 0, .int .i64 0]
  | none => .tuple #[.string ByteArray.empty, .int .i64 0, .int .i64 5]
/-- What Find answers of a right page. -/
def findV (lo hi : ByteArray) (r : Int) (es : List EntD) (ds : List DelD) (k : ByteArray) : Value :=
  if ltK k lo = true then .tuple #[.string ByteArray.empty, .int .i64 0, .int .i64 4]
  else if underK k (highE hi ds) = false then .tuple #[.string ByteArray.empty, .int .i64 (rightE r ds), .int .i64 12]
  else lookV (lookE (entsE es ds) k)
theorem look_none {es : List EntD} {k : ByteArray} (h : ∀ i (hi : i < es.length), (es[i].k.toList == k.toList) = false) : lookE es k = none := by
  unfold lookE
  rw [List.find?_eq_none.2]
  · rfl
  · intro e he
    obtain ⟨i, hi, rfl⟩ := List.mem_iff_getElem.1 he
    rw [h i hi]; decide
theorem look_some {es : List EntD} {k : ByteArray} {i : Nat} (hi : i < es.length) (h0 : ∀ j (hj : j < es.length), j < i → (es[j].k.toList == k.toList) = false) (h : (es[i].k.toList == k.toList) = true) : lookE es k = some es[i].v := by
  unfold lookE
  have : es.find? (fun e => e.k.toList == k.toList) = some es[i] := by
    rw [List.find?_eq_some_iff_getElem]
    exact ⟨h, i, hi, rfl, fun j hj => by rw [h0 j (by omega) hj]; rfl⟩
  rw [this]
  rfl
set_option maxRecDepth 100000 in
set_option maxHeartbeats 4000000 in
theorem l04Find_any (lo hi : ByteArray) (r : Int) (ab : Option Addr) (nb cb : Nat) (es : List EntD) (ac : Option Addr) (nc cc : Nat) (ds : List DelD) (k : ByteArray) (w : World) (hE : ERow w ab nb es) (hD : DRow w ac nc ds) (hnb : nb ≤ 100) (hnc : nc ≤ 100) (hcb : ab = none → cb = 0) :
    Calls Try.prog 35 #[pgv lo hi r ab nb cb ac nc cc, .string k] w fun e w' => e = .returned (findV lo hi r es ds k) ∧ Below w.heap.size w w' := by
  have b0 : Below w.heap.size w (w.alloc (.cells #[.string lo, .string hi, .int .i64 r, .slice ab nb cb, .slice ac nc cc] 53)) := (Below.refl _ _).alloc (Nat.le_refl _) _
  have RE := hide (hE.below b0)
  have RD := hide (hD.below b0)
  have LE := hide hE.1
  have LD := hide hD.1
  have k0 := hide (heap_alloc_new w (.cells #[.string lo, .string hi, .int .i64 r, .slice ab nb cb, .slice ac nc cc] 53))
  have z0 : (w.alloc (.cells #[.string lo, .string hi, .int .i64 r, .slice ab nb cb, .slice ac nc cc] 53)).heap.size = w.heap.size + 1 := by simp
  clear hE hD
  go_enter Try.func35, Try.ntmps35
  go_wp2_with fail
  generalize w.alloc (.cells #[.string lo, .string hi, .int .i64 r, .slice ab nb cb, .slice ac nc cc] 53) = W0 at *
  refine (l04Bounds_any lo hi r (.slice ab nb cb) ac nc cc ds W0 (unhide RD) (by omega)).mono ?_
  rintro e w1 ⟨rfl, hb1⟩
  have k1 := hide ((hb1.block w.heap.size (by omega)).trans (unhide k0))
  have B1 := hide (b0.trans (hb1.mono b0.size))
  have RD1 := hide ((unhide RD).below hb1)
  have RE1 := hide ((unhide RE).below hb1)
  have hz1 : w.heap.size + 1 ≤ w1.heap.size := by have := hb1.size; omega
  clear b0 hb1 RE RD k0
  have p0 : w1.cell? ⟨w.heap.size, 0, none⟩ = some (.string lo) := heap_cell2 (unhide k1) 0
  have p1 : w1.cell? ⟨w.heap.size, 1, none⟩ = some (.string hi) := heap_cell2 (unhide k1) 1
  have p2 : w1.cell? ⟨w.heap.size, 2, none⟩ = some (.int .i64 r) := heap_cell2 (unhide k1) 2
  have p3 : w1.cell? ⟨w.heap.size, 3, none⟩ = some (.slice ab nb cb) := heap_cell2 (unhide k1) 3
  have p4 : w1.cell? ⟨w.heap.size, 4, none⟩ = some (.slice ac nc cc) := heap_cell2 (unhide k1) 4
  by_cases hl : Op.bytesLess k.toList lo.toList = true
  · have E := hide (show Value.tuple #[.string ByteArray.empty, .int .i64 0, .int .i64 4] = findV lo hi r es ds k by unfold findV ltK; rw [if_pos hl])
    go_wp2_with fail
    go_ret3
    exact ⟨congrArg Ending.returned (unhide E), unhide B1⟩
  · have hl' : Op.bytesLess k.toList lo.toList = false := by simpa using hl
    have hl2 : ¬ ltK k lo = true := hl
    by_cases hu : underK k (highE hi ds) = true
    · have hu2 : ¬ underK k (highE hi ds) = false := by rw [hu]; decide
      have F := hide (show findV lo hi r es ds k = lookV (lookE (entsE es ds) k) by unfold findV; rw [if_neg hl2, if_neg hu2])
      clear hl hl2 hu2
      go_wp2_with (go_at_call 49; refine (l04Under_any k _ _).mono ?_; rintro e w2 ⟨rfl, rfl⟩)
      refine (l04Entries_any lo hi r ab nb cb es ac nc cc ds _ (unhide RE1) (unhide RD1) hnb hnc hcb).mono ?_
      rintro x w3 ⟨g, cap, rfl, hO, hb3⟩
      have B3 := hide ((unhide B1).trans (hb3.mono (unhide B1).size))
      have R3 := hide (erow_of_owns hO)
      have HL := hide (show (entsE es ds).length ≤ 300 by have := entsE_len es ds; have := unhide LE; have := unhide LD; omega)
      clear hO hb3 RE1 RD1 k1 p0 p1 p2 p3 p4
      generalize entsE es ds = xs at *
      obtain ⟨m, hm⟩ : ∃ m, xs.length = m := ⟨_, rfl⟩
      rw [hm] at HL R3 ⊢
      have HM := hide hm
      have hm3 : m ≤ 300 := unhide HL
      clear hm
      go_wp2_with fail
      go_loop [10] (fun i => ∃ t : Nat, i = .int .i64 (t : Int) ∧ t ≤ m ∧ Hid (∀ j (hj : j < xs.length), j < t → (xs[j].k.toList == k.toList) = false)) (fun i => m - (intOf i).toNat)
      case atStart => exact ⟨0, rfl, Nat.zero_le _, fun j _ h => absurd h (Nat.not_lt_zero _)⟩
      case round =>
        obtain ⟨t, rfl, ht, hN⟩ := hrel
        by_cases hlt : t < m
        · have htx : t < xs.length := by have := unhide HM; omega
          obtain ⟨b', off', he, c0, c1⟩ := (unhide R3).2 t htx
          injection he with he
          injection he with he1 he2
          subst he1 he2
          rw [Nat.zero_add] at c0 c1
          by_cases hq : (xs[t].k.toList == k.toList) = true
          · have E := hide (show Value.tuple #[.string xs[t].v, .int .i64 0, .int .i64 0] = findV lo hi r es ds k by rw [unhide F, look_some htx (unhide hN) hq]; rfl)
            clear hN
            generalize xs[t] = xt at *
            go_wp2_with fail
            go_ret3
            exact ⟨congrArg Ending.returned (unhide E), unhide B3⟩
          · have hq' : (xs[t].k.toList == k.toList) = false := by simpa using hq
            have N2 := hide (show ∀ j (hj : j < xs.length), j < t + 1 → (xs[j].k.toList == k.toList) = false from fun j hj h => by
              rcases Nat.lt_or_ge j t with h' | h'
              · exact unhide hN j hj h'
              · obtain rfl : j = t := by omega
                exact hq')
            clear hN hq
            generalize xs[t] = xt at *
            go_wp2_with fail
            go_round
            case rel => exact ⟨t + 1, by go_num, by omega, unhide N2⟩
            case measure => simp [intOf]; omega
        · obtain rfl : t = m := by omega
          have E := hide (show Value.tuple #[.string ByteArray.empty, .int .i64 0, .int .i64 5] = findV lo hi r es ds k by rw [unhide F, look_none (fun i hi' => unhide hN i hi' (by have := unhide HM; omega))]; rfl)
          go_wp2_with fail
          go_ret3
          exact ⟨congrArg Ending.returned (unhide E), unhide B3⟩
    · have hu' : underK k (highE hi ds) = false := by simpa using hu
      have E := hide (show Value.tuple #[.string ByteArray.empty, .int .i64 (rightE r ds), .int .i64 12] = findV lo hi r es ds k by unfold findV; rw [if_neg hl2, if_pos hu'])
      go_wp2_with (go_at_call 49; refine (l04Under_any k _ _).mono ?_; rintro e w2 ⟨rfl, rfl⟩)
      go_ret3
      exact ⟨congrArg Ending.returned (unhide E), unhide B1⟩
theorem ok_len {lo hi : ByteArray} {r : Int} {es : List EntD} {ds : List DelD} (h : okPage lo hi r es ds = true) : es.length ≤ 32 ∧ ds.length ≤ 12 ∧ (entsE es ds).length ≤ 32 := by
  unfold okPage at h
  simp at h
  omega
/-- What Find answers. -/
def findA (lo hi : ByteArray) (r : Int) (es : List EntD) (ds : List DelD) (k : ByteArray) : Value :=
  if 65536 < k.size then .tuple #[.string ByteArray.empty, .int .i64 0, .int .i64 2]
  else if okPage lo hi r es ds = true ∧ keyK k = true then findV lo hi r es ds k
  else .tuple #[.string ByteArray.empty, .int .i64 0, .int .i64 1]
end Go.Proofs.Ytdajoapbdeplhaa

namespace Go.Proofs.Ytdajoapbdeplhaa
open Go.RowKit

theorem look_rise {es : List EntD} {k : ByteArray} (h : Rise es) : (found es k = true → ∀ hp : pos es k < es.length, lookE es k = some (es[pos es k]'hp).v) ∧ (found es k = false → lookE es k = none) := by
  have below : ∀ j (hj : j < es.length), j < pos es k → (es[j].k.toList == k.toList) = false := fun j hj hjp => by
    have hlt := pos_lt es k j hj hjp
    cases hq : (es[j].k.toList == k.toList)
    · rfl
    · have e : es[j].k = k := toList_inj (by simpa using hq)
      rw [e, ltK_irr] at hlt
      cases hlt
  refine ⟨fun hf hp => ?_, fun hf => ?_⟩
  · obtain ⟨hp', hk⟩ := found_in hf
    exact look_some hp below (by rw [hk]; simp)
  · refine look_none fun i hi => ?_
    rcases Nat.lt_or_ge i (pos es k) with h' | h'
    · exact below i hi h'
    · have hp : pos es k < es.length := by omega
      have h0 := found_not hf hp
      have : ltK k es[i].k = true := by
        rcases Nat.eq_or_lt_of_le h' with e | e
        · subst e; exact h0
        · exact ltK_trans h0 (h.lt hi e)
      cases hq : (es[i].k.toList == k.toList)
      · rfl
      · have e : es[i].k = k := toList_inj (by simpa using hq)
        rw [e, ltK_irr] at this
        cases this
set_option maxRecDepth 100000 in
set_option maxHeartbeats 8000000 in
theorem implFind_any (lo hi : ByteArray) (r : Int) (ab : Option Addr) (nb cb : Nat) (es : List EntD) (ac : Option Addr) (nc cc : Nat) (ds : List DelD) (k : ByteArray) (w : World) (hE : ERow w ab nb es) (hD : DRow w ac nc ds) :
    Calls Try.prog 38 #[pgv lo hi r ab nb cb ac nc cc, .string k] w fun e w' => e = .returned (findA lo hi r es ds k) ∧ Below w.heap.size w w' := by
  have b0 : Below w.heap.size w (w.alloc (.cells #[.string lo, .string hi, .int .i64 r, .slice ab nb cb, .slice ac nc cc] 53)) := (Below.refl _ _).alloc (Nat.le_refl _) _
  have RE := hide (hE.below b0)
  have RD := hide (hD.below b0)
  clear hE hD
  by_cases hk : 65536 < k.size
  · have E := hide (show Value.tuple #[.string ByteArray.empty, .int .i64 0, .int .i64 2] = findA lo hi r es ds k by unfold findA; rw [if_pos hk])
    go_enter Try.func38, Try.ntmps38
    go_wp2_with fail
    go_ret3
    exact ⟨congrArg Ending.returned (unhide E), b0⟩
  have FA := hide (show findA lo hi r es ds k = if okPage lo hi r es ds = true ∧ keyK k = true then findV lo hi r es ds k else .tuple #[.string ByteArray.empty, .int .i64 0, .int .i64 1] by unfold findA; rw [if_neg hk])
  go_enter Try.func38, Try.ntmps38
  go_wp2_with fail
  refine (settle_any lo hi r ab nb cb es ac nc cc ds _ (unhide RE) (unhide RD)).mono ?_
  rintro e w1 ⟨v, b, rfl, ⟨hb, hs⟩, hb1⟩
  have B1 := hide (b0.trans (hb1.mono b0.size))
  clear b0 hb1 RE RD
  cases b with
  | false =>
    have E := hide (show Value.tuple #[.string ByteArray.empty, .int .i64 0, .int .i64 1] = findA lo hi r es ds k by rw [unhide FA, ← hb, if_neg (fun h => by cases h.1)])
    clear hb hs
    go_wp2_with fail
    go_ret3
    exact ⟨congrArg Ending.returned (unhide E), unhide B1⟩
  | true =>
    obtain ⟨sb, a', n', c', rfl, hsb, hS⟩ := hs rfl
    have HS := hide hS
    have OK := hide hb.symm
    clear hs hb hS
    by_cases hy : keyK k = true
    · have FV := hide (show findA lo hi r es ds k = findV lo hi r es ds k by rw [unhide FA, if_pos ⟨unhide OK, hy⟩])
      have c0 := (unhide HS).at_.c0
      have c2 := (unhide HS).at_.c2
      have c3 := (unhide HS).at_.c3
      have hn' : n' ≤ 100 := by have h1 := (unhide HS).len; have h2 := ok_len (unhide OK); omega
      by_cases hl : Op.bytesLess k.toList lo.toList = true
      · have E := hide (show Value.tuple #[.string ByteArray.empty, .int .i64 0, .int .i64 4] = findA lo hi r es ds k by rw [unhide FV]; unfold findV ltK; rw [if_pos hl])
        go_wp2_with (go_at_call 36; refine (keyOK_any k _).mono ?_; rintro e w2 ⟨rfl, hw2⟩; subst w2)
        go_ret3
        exact ⟨congrArg Ending.returned (unhide E), unhide B1⟩
      · have hl' : Op.bytesLess k.toList lo.toList = false := by simpa using hl
        have hl2 : ¬ ltK k lo = true := hl
        by_cases hu : underK k (highE hi ds) = true
        · have hu2 : ¬ underK k (highE hi ds) = false := by rw [hu]; decide
          have hin : inK lo (highE hi ds) k = true := by unfold inK ltK; unfold underK ltK at hu; rw [hl', hu]; rfl
          have F := hide (show findA lo hi r es ds k = lookV (lookE (entsE es ds) k) by rw [unhide FV]; unfold findV; rw [if_neg hl2, if_neg hu2])
          have HC := hide (covers_any sb lo (highE hi ds) (rightE r ds) (.slice a' n' c') k w1 (unhide HS).at_)
          go_wp2_with (first | (go_at_call 36; refine (keyOK_any k _).mono ?_; rintro e w2 ⟨rfl, hw2⟩; subst w2) | (go_at_call 66; refine (unhide HC).mono ?_; rintro e w2 ⟨rfl, qc, hw2⟩; subst w2; rw [hin]))
          replace HS := hide (show Sett (w1.drewN qc) sb lo (highE hi ds) (rightE r ds) a' n' c' (entsE es ds) from ⟨(unhide HS).at_, (unhide HS).own, (unhide HS).rise⟩)
          replace B1 := hide (bel_drewN (unhide B1) qc)
          refine (searchEntry_any a' n' c' (entsE es ds) k (w1.drewN qc) (erow_of_owns (unhide HS).own) (unhide HS).rise (by omega)).mono ?_
          rintro e w3 ⟨rfl, hb3⟩
          have S3 := hide ((unhide HS).step hb3)
          have B3 := hide ((unhide B1).trans (hb3.mono (unhide B1).size))
          have d3 := (unhide S3).at_.c3
          clear hb3 HS c0 c2 c3 HC
          by_cases hf : found (entsE es ds) k = true
          · obtain ⟨hp, _⟩ := found_in hf
            have E := hide (show Value.tuple #[.string (entsE es ds)[pos (entsE es ds) k].v, .int .i64 0, .int .i64 0] = findA lo hi r es ds k by rw [unhide F, (look_rise (unhide S3).rise).1 hf hp]; rfl)
            obtain ⟨b', off', he, x0, x1⟩ := (erow_of_owns (unhide S3).own).2 _ hp
            subst he
            have hpn : pos (entsE es ds) k < n' := by rw [(unhide S3).len]; exact hp
            rw [hf]
            generalize (entsE es ds)[pos (entsE es ds) k] = xt at *
            generalize pos (entsE es ds) k = tp at *
            clear hf
            go_wp2_with fail
            first | (go_quiet (fail); go_wp2_with fail) | skip
            go_ret3
            exact ⟨congrArg Ending.returned (unhide E), by first | exact unhide B3 | exact bel_drewN (unhide B3) _⟩
          · have hf : found (entsE es ds) k = false := by simpa using hf
            have E := hide (show Value.tuple #[.string ByteArray.empty, .int .i64 0, .int .i64 5] = findA lo hi r es ds k by rw [unhide F, (look_rise (unhide S3).rise).2 hf]; rfl)
            rw [hf]
            go_wp2_with fail
            go_ret3
            exact ⟨congrArg Ending.returned (unhide E), unhide B3⟩
        · have hu' : underK k (highE hi ds) = false := by simpa using hu
          have hin : inK lo (highE hi ds) k = false := by unfold inK ltK; unfold underK ltK at hu'; rw [hl', hu']; rfl
          have E := hide (show Value.tuple #[.string ByteArray.empty, .int .i64 (rightE r ds), .int .i64 12] = findA lo hi r es ds k by rw [unhide FV]; unfold findV; rw [if_neg hl2, if_pos hu'])
          have HC := hide (covers_any sb lo (highE hi ds) (rightE r ds) (.slice a' n' c') k w1 (unhide HS).at_)
          go_wp2_with (first | (go_at_call 36; refine (keyOK_any k _).mono ?_; rintro e w2 ⟨rfl, hw2⟩; subst w2) | (go_at_call 66; refine (unhide HC).mono ?_; rintro e w2 ⟨rfl, qc, hw2⟩; subst w2; rw [hin]))
          first | (go_quiet (fail); go_wp2_with fail) | skip
          go_ret3
          exact ⟨congrArg Ending.returned (unhide E), by first | exact bel_drewN (unhide B1) _ | exact bel_drewN (bel_drewN (unhide B1) _) _⟩
    · have E := hide (show Value.tuple #[.string ByteArray.empty, .int .i64 0, .int .i64 1] = findA lo hi r es ds k by rw [unhide FA, if_neg (fun h => hy h.2)])
      have hy : keyK k = false := by simpa using hy
      go_wp2_with (go_at_call 36; refine (keyOK_any k _).mono ?_; rintro e w2 ⟨rfl, hw2⟩; subst w2)
      go_ret3
      exact ⟨congrArg Ending.returned (unhide E), unhide B1⟩
end Go.Proofs.Ytdajoapbdeplhaa

namespace Go.Proofs.Ytdajoapbdeplhaa
open Go.RowKit

theorem nek {k : ByteArray} {e : EntD} (h : e.k ≠ k) : (e.k.toList == k.toList) = false := by
  cases hq : (e.k.toList == k.toList) with
  | false => rfl
  | true => exact absurd (toList_inj (by simpa using hq)) h
theorem find_no {A : List EntD} {k : ByteArray} (h : ∀ e ∈ A, e.k ≠ k) : A.find? (fun e => e.k.toList == k.toList) = none :=
  List.find?_eq_none.2 (fun e he => by rw [nek (h e he)]; decide)
theorem look_app {A B : List EntD} {k : ByteArray} (h : ∀ e ∈ A, e.k ≠ k) : lookE (A ++ B) k = lookE B k := by
  unfold lookE
  rw [List.find?_append, find_no h]
  rfl
theorem look_app_r {A B : List EntD} {k : ByteArray} (h : ∀ e ∈ B, e.k ≠ k) : lookE (A ++ B) k = lookE A k := by
  unfold lookE
  rw [List.find?_append, find_no h]
  simp
theorem look_here {B : List EntD} {k v : ByteArray} : lookE (⟨k, v⟩ :: B) k = some v := by
  unfold lookE
  rw [List.find?_cons_of_pos (by simp)]
  rfl
theorem look_skip {B : List EntD} {e : EntD} {k : ByteArray} (h : e.k ≠ k) : lookE (e :: B) k = lookE B k := by
  unfold lookE
  rw [List.find?_cons_of_neg (by rw [nek h]; decide)]
theorem look_no {A : List EntD} {k : ByteArray} (h : ∀ e ∈ A, e.k ≠ k) : lookE A k = none := by
  have := look_app (B := []) h
  rw [List.append_nil] at this
  exact this
theorem look_mid {A B : List EntD} {e : EntD} {k : ByteArray} (h : e.k ≠ k) : lookE (A ++ e :: B) k = lookE (A ++ B) k := by
  unfold lookE
  rw [List.find?_append, List.find?_append, List.find?_cons_of_neg (by rw [nek h]; decide)]
theorem ltK_ne {a b : ByteArray} (h : ltK a b = true) : a ≠ b := fun e => by rw [e, ltK_irr] at h; cases h
theorem take_lt {es : List EntD} {k : ByteArray} : ∀ e ∈ es.take (pos es k), ltK e.k k = true := by
  intro e he
  obtain ⟨i, hi, rfl⟩ := List.mem_iff_getElem.1 he
  rw [List.getElem_take]
  rw [List.length_take] at hi
  exact pos_lt es k i (by omega) (by omega)
theorem drop_ge {es : List EntD} (h : Rise es) {k : ByteArray} : ∀ e ∈ es.drop (pos es k), ltK e.k k = false := by
  intro e he
  obtain ⟨i, hi, rfl⟩ := List.mem_iff_getElem.1 he
  rw [List.getElem_drop]
  rw [List.length_drop] at hi
  exact h.ge (i := pos es k) (by omega) (by omega) (pos_at es k (by omega))
theorem drop_gt {es : List EntD} (h : Rise es) {k : ByteArray} (hf : found es k = true) : ∀ e ∈ es.drop (pos es k + 1), ltK k e.k = true := by
  intro e he
  obtain ⟨hp, hk⟩ := found_in hf
  obtain ⟨i, hi, rfl⟩ := List.mem_iff_getElem.1 he
  rw [List.getElem_drop]
  rw [List.length_drop] at hi
  have := h.lt (i := pos es k) (j := pos es k + 1 + i) (by omega) (by omega)
  rw [hk] at this
  exact this
/-- The value of the change's own key. -/
theorem look_step {es : List EntD} (h : Rise es) (d : DelD) : (d.kind = 1 → lookE (stepE es d) d.k = some d.v) ∧ (d.kind = 2 → lookE (stepE es d) d.k = none) := by
  have ht : ∀ e ∈ es.take (pos es d.k), e.k ≠ d.k := fun e he => ltK_ne (take_lt e he)
  constructor
  · intro hk
    cases hf : found es d.k with
    | false =>
      rw [stepE_put_new hk hf, look_app ht, look_here]
    | true =>
      obtain ⟨hp, _⟩ := found_in hf
      rw [stepE_put_old hk hf, List.set_eq_take_append_cons_drop, if_pos hp, look_app ht, look_here]
  · intro hk
    cases hf : found es d.k with
    | false => rw [stepE_drop_new hk hf]; exact (look_rise h).2 hf
    | true =>
      rw [stepE_drop_old hk hf, look_app ht]
      exact look_no fun e he => (ltK_ne (drop_gt h hf e he)).symm
/-- The value of another key. -/
theorem look_other {es : List EntD} (hR : Rise es) (d : DelD) (hk : d.kind = 1 ∨ d.kind = 2 ∨ d.kind = 3) {o : ByteArray} (ho : o ≠ d.k) (h3 : d.kind = 3 → ltK o d.k = true) : lookE (stepE es d) o = lookE es o := by
  have e0 : es = es.take (pos es d.k) ++ es.drop (pos es d.k) := (List.take_append_drop _ _).symm
  rcases hk with hk | hk | hk
  · cases hf : found es d.k with
    | false =>
      rw [stepE_put_new hk hf, look_mid (e := ⟨d.k, d.v⟩) (fun h => ho h.symm), ← e0]
    | true =>
      obtain ⟨hp, hx⟩ := found_in hf
      rw [stepE_put_old hk hf, List.set_eq_take_append_cons_drop, if_pos hp, look_mid (e := ⟨d.k, d.v⟩) (fun h => ho h.symm)]
      have e1 : es = es.take (pos es d.k) ++ es[pos es d.k] :: es.drop (pos es d.k + 1) := by
        rw [← List.drop_eq_getElem_cons hp]; exact e0
      have := look_mid (A := es.take (pos es d.k)) (B := es.drop (pos es d.k + 1)) (e := es[pos es d.k]) (k := o) (by rw [hx]; exact fun h => ho h.symm)
      rw [← e1] at this
      exact this.symm
  · cases hf : found es d.k with
    | false => rw [stepE_drop_new hk hf]
    | true =>
      obtain ⟨hp, hx⟩ := found_in hf
      rw [stepE_drop_old hk hf]
      have e1 : es = es.take (pos es d.k) ++ es[pos es d.k] :: es.drop (pos es d.k + 1) := by
        rw [← List.drop_eq_getElem_cons hp]; exact e0
      have := look_mid (A := es.take (pos es d.k)) (B := es.drop (pos es d.k + 1)) (e := es[pos es d.k]) (k := o) (by rw [hx]; exact fun h => ho h.symm)
      rw [← e1] at this
      exact this.symm
  · rw [stepE_split hk]
    have := look_app_r (A := es.take (pos es d.k)) (B := es.drop (pos es d.k)) (k := o) (fun e he h => by
      have g := drop_ge hR e he
      rw [h, h3 hk] at g
      cases g)
    rw [← e0] at this
    exact this.symm
end Go.Proofs.Ytdajoapbdeplhaa

namespace Go.Proofs.Ytdajoapbdeplhaa
open Go.RowKit

theorem ok_parts {lo hi : ByteArray} {r : Int} {es : List EntD} {ds : List DelD} (h : okPage lo hi r es ds = true) : okBounds lo hi r = true ∧ es.length ≤ 32 ∧ ds.length ≤ 12 ∧ okBase lo hi es = true ∧ okChain lo hi ds = true ∧ (entsE es ds).length ≤ 32 := by
  unfold okPage at h
  simp only [Bool.and_eq_true, decide_eq_true_eq] at h
  exact ⟨h.1.1.1.1.1, h.1.1.1.1.2, h.1.1.1.2, h.1.1.2, h.1.2, h.2⟩
theorem ok_rise {lo hi : ByteArray} {r : Int} {es : List EntD} {ds : List DelD} (h : okPage lo hi r es ds = true) : Rise (entsE es ds) := by
  refine entsE_rise (rise_of_ok (lo := lo) (hi := hi) fun i hi' => ?_) ds
  have := (ok_parts h).2.2.2.1
  unfold okBase at this
  rw [List.all_eq_true] at this
  exact this i (by simpa using hi')
def BaseOK (lo hi : ByteArray) (es : List EntD) : Prop := Rise es ∧ ∀ e ∈ es, okEnt lo hi e = true
theorem okBase_of {lo hi : ByteArray} {es : List EntD} (h : BaseOK lo hi es) : okBase lo hi es = true := by
  refine okBase_true fun i hi' => ?_
  cases i with
  | zero => rw [okAtE_first hi']; exact h.2 _ (List.getElem_mem _)
  | succ i => rw [okAtE_next hi', h.2 _ (List.getElem_mem _), h.1.lt hi' (Nat.lt_succ_self i)]; rfl
theorem okChain_snoc {lo hi : ByteArray} {ds : List DelD} {d : DelD} (h : okChain lo hi ds = true) (hd : okDel lo (highE hi ds) d = true) : okChain lo hi (ds ++ [d]) = true := by
  refine okChain_true fun i hi' => ?_
  rw [okAtD_at hi']
  rw [List.length_append] at hi'
  by_cases hl : i < ds.length
  · rw [List.getElem_append_left hl, List.take_append_of_le_length (by omega)]
    unfold okChain at h
    rw [List.all_eq_true] at h
    have := h i (by simpa using hl)
    rw [okAtD_at hl] at this
    exact this
  · obtain rfl : i = ds.length := by simp at hi'; omega
    rw [List.take_append_of_le_length (Nat.le_refl _), List.take_length]
    simpa using hd
theorem isE_key {k : ByteArray} (h : keyK k = true) : k.toList.isEmpty = false := by
  unfold keyK at h
  simp only [decide_eq_true_eq] at h
  cases hl : k.toList with
  | nil =>
    have e0 : k = ByteArray.empty := toList_inj (by rw [hl]; first | (simp; done) | decide +kernel)
    rw [e0] at h
    exact absurd h.1 (by decide)
  | cons x xs => rfl
theorem stepE_mem {es : List EntD} {d : DelD} {x : EntD} (h : x ∈ stepE es d) (h3 : d.kind ≠ 3) : x ∈ es ∨ (d.kind ≠ 2 ∧ x = ⟨d.k, d.v⟩) := by
  unfold stepE at h
  rw [if_neg h3] at h
  rcases List.mem_append.1 h with h | h
  · rcases List.mem_append.1 h with h | h
    · exact .inl (List.mem_of_mem_take h)
    · by_cases h2 : d.kind = 2
      · rw [if_pos h2] at h
        cases h
      · rw [if_neg h2] at h
        exact .inr ⟨h2, by simpa using h⟩
  · exact .inl (List.mem_of_mem_drop h)
theorem con_step {lo H : ByteArray} {R : Int} {es : List EntD} {d : DelD} (h1 : okBounds lo H R = true) (h2 : BaseOK lo H es) (h3 : okDel lo H d = true) :
    okBounds lo (if d.kind = 3 then d.k else H) (if d.kind = 3 then d.to else R) = true ∧ BaseOK lo (if d.kind = 3 then d.k else H) (stepE es d) := by
  unfold okDel at h3
  simp only [Bool.and_eq_true, Bool.or_eq_true, decide_eq_true_eq] at h3
  obtain ⟨⟨k1, k2⟩, k3⟩ := h3
  by_cases hk : d.kind = 3
  · rw [if_pos hk, if_pos hk]
    have k4 : ltK lo d.k = true ∧ idK d.to = true := by
      rcases k3 with (k3 | k3) | k3
      · omega
      · omega
      · exact ⟨k3.1.2, k3.2⟩
    refine ⟨?_, stepE_rise h2.1 d, fun x hx => ?_⟩
    · unfold okBounds at h1 ⊢
      simp only [Bool.and_eq_true, decide_eq_true_eq] at h1 ⊢
      have hs : d.k.size ≤ 40 := by unfold keyK at k1; simp at k1; omega
      refine ⟨⟨h1.1.1, hs⟩, ?_⟩
      rw [if_neg (show ¬ d.k.toList.isEmpty = true by rw [isE_key k1]; decide), k4.1, k4.2]
      rfl
    · unfold stepE at hx
      rw [if_pos hk] at hx
      have a := h2.2 x (List.mem_of_mem_take hx)
      have b := take_lt x hx
      unfold okEnt inK at a ⊢
      simp only [Bool.and_eq_true] at a ⊢
      exact ⟨a.1, a.2.1, by rw [b]; simp⟩
  · rw [if_neg hk, if_neg hk]
    refine ⟨h1, stepE_rise h2.1 d, fun x hx => ?_⟩
    rcases stepE_mem hx hk with hx | ⟨hn2, rfl⟩
    · exact h2.2 x hx
    · have kv : valK d.v = true := by
        rcases k3 with (k3 | k3) | k3
        · exact k3.1.2
        · exact absurd k3.1.1 hn2
        · exact absurd k3.1.1.1 hk
      unfold okEnt
      simp only [Bool.and_eq_true]
      exact ⟨⟨k1, kv⟩, k2⟩
theorem con_inv {lo hi : ByteArray} {r : Int} {es : List EntD} {ds : List DelD} (h1 : okBounds lo hi r = true) (h2 : BaseOK lo hi es) (h3 : okChain lo hi ds = true) : ∀ n, n ≤ ds.length → okBounds lo (highE hi (ds.take n)) (rightE r (ds.take n)) = true ∧ BaseOK lo (highE hi (ds.take n)) (entsE es (ds.take n))
  | 0, _ => by rw [List.take_zero]; exact ⟨h1, h2⟩
  | n + 1, hn => by
    obtain ⟨a, b⟩ := con_inv h1 h2 h3 n (by omega)
    have c : okDel lo (highE hi (ds.take n)) ds[n] = true := by
      unfold okChain at h3
      rw [List.all_eq_true] at h3
      have := h3 n (by simp; omega)
      rw [okAtD_at (by omega)] at this
      exact this
    rw [← List.take_append_getElem (show n < ds.length by omega), highE_snoc, rightE_snoc, entsE_snoc]
    exact con_step a b c
theorem baseOK_of {lo hi : ByteArray} {es : List EntD} (h : okBase lo hi es = true) : BaseOK lo hi es := by
  unfold okBase at h
  rw [List.all_eq_true] at h
  have h' : ∀ i, i < es.length → okAtE lo hi es i = true := fun i hi' => h i (by simpa using hi')
  refine ⟨rise_of_ok h', fun e he => ?_⟩
  obtain ⟨i, hi', rfl⟩ := List.mem_iff_getElem.1 he
  have := h' i hi'
  unfold okAtE at this
  rw [List.getElem?_eq_getElem hi'] at this
  simp only [Bool.and_eq_true] at this
  exact this.1
/-- A page put together is right. -/
theorem conPage_ok {lo hi : ByteArray} {r : Int} {es : List EntD} {ds : List DelD} (h : okPage lo hi r es ds = true) : okPage lo (highE hi ds) (rightE r ds) (entsE es ds) [] = true := by
  obtain ⟨p1, p2, p3, p4, p5, p6⟩ := ok_parts h
  obtain ⟨a, b⟩ := con_inv p1 (baseOK_of p4) p5 ds.length (Nat.le_refl _)
  rw [List.take_length] at a b
  unfold okPage
  simp only [Bool.and_eq_true, decide_eq_true_eq]
  exact ⟨⟨⟨⟨⟨a, p6⟩, by simp⟩, okBase_of b⟩, okChain_true fun i hi' => by simp at hi'⟩, p6⟩
end Go.Proofs.Ytdajoapbdeplhaa

namespace Go.Proofs.Ytdajoapbdeplhaa
open Go.RowKit

/-- No other page begins within a page's bounds. -/
def OneP (ps : List (Option PageD)) (q : PageD) : Prop := ((hiP q).toList.isEmpty = true ∧ cntGe ps q.lo ≤ 1) ∨ (ltK q.lo (hiP q) = true ∧ ps.countP (btP q.lo (hiP q)) ≤ 1)
theorem goT_one {ps : List (Option PageD)} (hok : ∀ p, some p ∈ ps → okP p = true) : ∀ (m : Nat) (id : Int) (low : ByteArray), goT ps m id low = true → cntGe ps low ≤ m → ∀ (y : Int) (q : PageD), getP ps y = some q → ltK q.lo low = false → OneP ps q
  | 0, _, low, _, hc, y, q, hq, hl => by
    exfalso
    have : 1 ≤ cntGe ps low := List.countP_pos_iff.2 ⟨_, getP_mem hq, by rw [geP_some, hl]; rfl⟩
    omega
  | m + 1, id, low, h, hc, y, q, hq, hl => by
    cases hg : getP ps id with
    | none => rw [goT_none hg] at h; cases h
    | some p =>
      by_cases hlo : p.lo = low
      · rw [goT_next hg hlo] at h
        have hm := getP_mem hg
        subst hlo
        obtain ⟨b1, b2⟩ := okP_bd (hok p hm)
        cases m with
        | zero =>
          have hone : q = p := one_at (P := geP p.lo) hc hg hq (by rw [geP_some, ltK_irr]; rfl) (by rw [geP_some, hl]; rfl)
          subst hone
          unfold goT at h
          rw [Bool.and_eq_true] at h
          exact .inl ⟨h.2, hc⟩
        | succ m =>
          cases hn : getP ps (riP p) with
          | none => rw [goT_none hn] at h; cases h
          | some p2 =>
            cases he : (hiP p).toList.isEmpty with
            | true => rw [b1 he, getP_neg (by omega)] at hn; cases hn
            | false =>
              have hlt := (b2 he).1
              have hcb := count_bt p.lo (hiP p) hlt ps
              have hge := goT_count hok _ _ _ h
              have hpos : 1 ≤ ps.countP (btP p.lo (hiP p)) := List.countP_pos_iff.2 ⟨_, hm, by unfold btP; rw [geP_some, geP_some, ltK_irr, hlt]; rfl⟩
              cases hqh : ltK q.lo (hiP p) with
              | false => exact goT_one hok (m + 1) _ _ h (by omega) y q hq hqh
              | true =>
                have hone : q = p := one_at (P := btP p.lo (hiP p)) (by omega) hg hq (by unfold btP; rw [geP_some, geP_some, ltK_irr, hlt]; rfl) (by unfold btP; rw [geP_some, geP_some, hl, hqh]; rfl)
                subst hone
                exact .inr ⟨hlt, by omega⟩
      · rw [goT_other hg hlo] at h; cases h
theorem GoodT.one {ps : List (Option PageD)} {idx : List RefD} (g : GoodT ps idx) {y : Int} {q : PageD} (h : getP ps y = some q) : OneP ps q :=
  goT_one g.ok (manyT ps) 0 ⟨#[]⟩ g.go (cntGe_many ps _) y q h (ltK_none _)
theorem one_id {ps : List (Option PageD)} {P : Option PageD → Bool} {x y : Int} {p q : PageD} (h1 : ps.countP P ≤ 1) (hp : getP ps x = some p) (hq : getP ps y = some q) (pp : P (some p) = true) (pq : P (some q) = true) : x = y := by
  obtain ⟨i, rfl, hi⟩ := getP_at hp
  obtain ⟨j, rfl, hj⟩ := getP_at hq
  rcases Nat.lt_trichotomy i j with h | h | h
  · have := count2 hi hj h pp pq; omega
  · rw [h]
  · have := count2 hj hi h pq pp; omega
/-- A text stands within a page's bounds. -/
def InP (p : PageD) (k : ByteArray) : Prop := ltK k p.lo = false ∧ underK k (hiP p) = true
theorem ltK_le {a b c : ByteArray} (h1 : ltK a b = false) (h2 : ltK b c = false) : ltK a c = false := by
  cases h : ltK a c
  · rfl
  · cases h3 : ltK c b with
    | true => have := ltK_trans h h3; rw [h1] at this; cases this
    | false => have := ltK_eq h2 h3; subst this; rw [h1] at h; cases h
theorem ltK_of_le {a b c : ByteArray} (h1 : ltK b a = false) (h2 : ltK b c = true) : ltK a c = true := by
  cases h3 : ltK a b with
  | true => exact ltK_trans h3 h2
  | false => have := ltK_eq h3 h1; subst this; exact h2
theorem GoodT.uni {ps : List (Option PageD)} {idx : List RefD} (g : GoodT ps idx) {k : ByteArray} {x y : Int} {p q : PageD} (hp : getP ps x = some p) (hq : getP ps y = some q) (ip : InP p k) (iq : InP q k) : x = y := by
  have key : ∀ {x y : Int} {p q : PageD}, getP ps x = some p → getP ps y = some q → InP p k → InP q k → ltK q.lo p.lo = false → x = y := fun {x y p q} hp hq ip iq hle => by
    -- p begins not behind q: q begins within p
    rcases g.one hp with ⟨he, h1⟩ | ⟨hlt, h1⟩
    · exact one_id (P := geP p.lo) h1 hp hq (by rw [geP_some, ltK_irr]; rfl) (by rw [geP_some, hle]; rfl)
    · have hql : ltK q.lo (hiP p) = true := by
        have hu := ip.2
        unfold underK at hu
        cases he : (hiP p).toList.isEmpty with
        | true =>
          have : hiP p = ⟨#[]⟩ := toList_inj (by rw [List.isEmpty_iff] at he; rw [he, ByteArray.toList_eq])
          rw [this, ltK_none] at hlt
          cases hlt
        | false =>
          rw [he, Bool.false_or] at hu
          exact ltK_of_le iq.1 hu
      exact one_id (P := btP p.lo (hiP p)) h1 hp hq (by unfold btP; rw [geP_some, geP_some, ltK_irr, hlt]; rfl) (by unfold btP; rw [geP_some, geP_some, hle, hql]; rfl)
  cases h : ltK q.lo p.lo with
  | false => exact key hp hq ip iq h
  | true => exact (key hq hp iq ip (ltK_asymm h)).symm
/-- The entries of a page. -/
abbrev enP (p : PageD) : List EntD := entsE p.es p.ds
theorem enP_in {p : PageD} (h : okP p = true) : ∀ e ∈ enP p, okEnt p.lo (hiP p) e = true := fun e he => by
  obtain ⟨p1, _, _, p4, p5, _⟩ := ok_parts h
  have := (con_inv p1 (baseOK_of p4) p5 p.ds.length (Nat.le_refl _)).2
  rw [List.take_length] at this
  exact this.2 e he
theorem enP_len {p : PageD} (h : okP p = true) : (enP p).length ≤ 32 := (ok_parts h).2.2.2.2.2
/-- The entries from a page on. -/
def scanF (ps : List (Option PageD)) : Nat → Int → List EntD
  | 0, _ => []
  | m + 1, id => match getP ps id with
    | some p => enP p ++ scanF ps m (riP p)
    | none => []
theorem scanF_some {ps : List (Option PageD)} {m : Nat} {id : Int} {p : PageD} (h : getP ps id = some p) : scanF ps (m + 1) id = enP p ++ scanF ps m (riP p) := by rw [scanF, h]
theorem scanF_none {ps : List (Option PageD)} {m : Nat} {id : Int} (h : getP ps id = none) : scanF ps m id = [] := by
  cases m with
  | zero => rfl
  | succ m => rw [scanF, h]
/-- All entries of a tree. -/
def treeE (ps : List (Option PageD)) : List EntD := scanF ps 40 0
theorem scan_fuel {ps : List (Option PageD)} {idx : List RefD} (g : GoodT ps idx) : ∀ (m n : Nat) (id : Int) (p : PageD), getP ps id = some p → cntGe ps p.lo ≤ m → cntGe ps p.lo ≤ n → scanF ps m id = scanF ps n id
  | 0, _, _, _, hg, hm, _ => by have := cntGe_here (getP_mem hg); omega
  | _ + 1, 0, _, _, hg, _, hn => by have := cntGe_here (getP_mem hg); omega
  | m + 1, n + 1, id, p, hg, hm, hn => by
    rw [scanF_some hg, scanF_some hg]
    rcases next_of g.ok g.go hg with ⟨hr, _⟩ | ⟨hlt, p2, hg2, e2⟩
    · rw [scanF_none (by rw [hr]; exact getP_neg (by omega)), scanF_none (by rw [hr]; exact getP_neg (by omega))]
    · have := cntGe_next (getP_mem hg) hlt
      rw [scan_fuel g m n (riP p) p2 hg2 (by rw [e2]; omega) (by rw [e2]; omega)]
theorem filter_out {p : PageD} (h : okP p = true) {a b : ByteArray} (hu : underK a (hiP p) = false) : (enP p).filter (fun e => inK a b e.k) = [] := by
  rw [List.filter_eq_nil_iff]
  intro e he
  have h1 := enP_in h e he
  obtain ⟨h2, h3⟩ := under_no hu
  unfold okEnt at h1
  simp only [Bool.and_eq_true] at h1
  have h4 := h1.2
  unfold inK at h4
  rw [h2, Bool.false_or, Bool.and_eq_true] at h4
  have : ltK e.k a = true := by
    cases h5 : ltK e.k a with
    | true => rfl
    | false => have := ltK_le h5 h3; rw [h4.2] at this; cases this
  unfold inK
  rw [this]
  simp
theorem scan_skip {ps : List (Option PageD)} {idx : List RefD} (g : GoodT ps idx) {a b : ByteArray} {x : Int} {q : PageD} (hx : getP ps x = some q) (iq : InP q a) : ∀ (n : Nat) (id : Int) (p : PageD), getP ps id = some p → ltK a p.lo = false → cntGe ps p.lo ≤ n → (scanF ps n id).filter (fun e => inK a b e.k) = (scanF ps 40 x).filter (fun e => inK a b e.k)
  | 0, _, _, hg, _, hn => by have := cntGe_here (getP_mem hg); omega
  | n + 1, id, p, hg, hl, hn => by
    have hok := g.ok p (getP_mem hg)
    cases hu : underK a (hiP p) with
    | true =>
      obtain rfl := g.uni hg hx ⟨hl, hu⟩ iq
      have h1 := cntGe_many ps p.lo
      have h2 := manyT_le ps
      have h3 := g.len.2
      rw [scan_fuel g (n + 1) 40 id p hg hn (by omega)]
    | false =>
      rw [scanF_some hg, List.filter_append, filter_out hok hu, List.nil_append]
      rcases next_of g.ok g.go hg with ⟨_, he⟩ | ⟨hlt, p2, hg2, e2⟩
      · rw [(under_no hu).1] at he; cases he
      · have := cntGe_next (getP_mem hg) hlt
        exact scan_skip g hx iq n (riP p) p2 hg2 (by rw [e2]; exact (under_no hu).2) (by rw [e2]; omega)
/-- Between two texts: from the page of the first on. -/
theorem scan_from {ps : List (Option PageD)} {idx : List RefD} (g : GoodT ps idx) (a b : ByteArray) : (treeE ps).filter (fun e => inK a b e.k) = (scanF ps 40 (downT ps idx a).1).filter (fun e => inK a b e.k) := by
  obtain ⟨q, hq, h1, h2, _⟩ := g.down a
  obtain ⟨h0, hl, hid⟩ := g.zero
  obtain ⟨p, hg, hlo⟩ := GoodT.ref g.ix h0
  rw [hid] at hg
  have h3 := cntGe_many ps p.lo
  have h4 := manyT_le ps
  have h5 := g.len.2
  exact scan_skip g hq ⟨h1, h2⟩ 40 0 p hg (by rw [hlo, hl]; exact ltK_none _) (by omega)
/-- Where a scan stands. -/
structure ScSt (ps : List (Option PageD)) (f : EntD → Bool) (all acc : List EntD) (id : Int) (c : Nat) : Prop where
  here : id = -1 ∨ ∃ p, getP ps id = some p ∧ c + cntGe ps p.lo ≤ manyT ps
  eq : all = acc ++ (scanF ps (40 - c) id).filter f
  len : acc.length ≤ 32 * c
  le : c ≤ 30
theorem ScSt.start {ps : List (Option PageD)} {f : EntD → Bool} {id : Int} {p : PageD} (h : getP ps id = some p) : ScSt ps f ((scanF ps 40 id).filter f) [] id 0 :=
  ⟨.inr ⟨p, h, by have := cntGe_many ps p.lo; omega⟩, rfl, by simp, by omega⟩
theorem ScSt.next {ps : List (Option PageD)} {idx : List RefD} {f : EntD → Bool} {all acc : List EntD} {id : Int} {c : Nat} (s : ScSt ps f all acc id c) (g : GoodT ps idx) {p : PageD} (hg : getP ps id = some p) : ScSt ps f all (acc ++ (enP p).filter f) (riP p) (c + 1) ∧ c < 30 := by
  have hc : c + cntGe ps p.lo ≤ manyT ps := by
    rcases s.here with h | ⟨p', h, hc⟩
    · rw [h, getP_neg (by omega)] at hg; cases hg
    · rw [hg] at h; injection h with h; rw [h]; exact hc
  have h1 := cntGe_here (getP_mem hg)
  have h2 := manyT_le ps
  have h3 := g.len.2
  have hlt : c < 30 := by omega
  have hlen := enP_len (g.ok p (getP_mem hg))
  refine ⟨⟨?_, ?_, ?_, by omega⟩, hlt⟩
  · rcases next_of g.ok g.go hg with ⟨hr, _⟩ | ⟨hl, p2, hg2, e2⟩
    · exact .inl hr
    · have := cntGe_next (getP_mem hg) hl
      exact .inr ⟨p2, hg2, by rw [e2]; omega⟩
  · obtain ⟨m, hm⟩ : ∃ m, 40 - c = m + 1 := ⟨40 - c - 1, by omega⟩
    rw [s.eq, hm, scanF_some hg, List.filter_append, show 40 - (c + 1) = m by omega, List.append_assoc]
  · have := s.len
    have hf := List.length_filter_le f (enP p)
    rw [List.length_append]
    omega
theorem ScSt.done {ps : List (Option PageD)} {f : EntD → Bool} {all acc : List EntD} {c : Nat} (s : ScSt ps f all acc (-1) c) : all = acc := by
  rw [s.eq, scanF_none (getP_neg (by omega))]
  simp
theorem ScSt.room {ps : List (Option PageD)} {f : EntD → Bool} {all acc : List EntD} {id : Int} {c : Nat} (s : ScSt ps f all acc id c) : acc.length ≤ 960 := by
  have := s.len
  have := s.le
  omega
theorem ScSt.neg {ps : List (Option PageD)} {f : EntD → Bool} {all acc : List EntD} {id : Int} {c : Nat} (s : ScSt ps f all acc id c) (h : id < 0) : id = -1 := by
  rcases s.here with h1 | ⟨p, h1, _⟩
  · exact h1
  · rw [getP_neg h] at h1; cases h1
theorem ScSt.pos {ps : List (Option PageD)} {f : EntD → Bool} {all acc : List EntD} {id : Int} {c : Nat} (s : ScSt ps f all acc id c) (h : id ≠ -1) : ∃ p, getP ps id = some p := by
  rcases s.here with h1 | ⟨p, h1, _⟩
  · exact absurd h1 h
  · exact ⟨p, h1⟩
/-- The entries of a tree between two texts. -/
def rangeE (ps : List (Option PageD)) (a b : ByteArray) : List EntD := (treeE ps).filter (fun e => inK a b e.k)
end Go.Proofs.Ytdajoapbdeplhaa

namespace Go.Proofs.Ytdajoapbdeplhaa
open Go.RowKit

theorem tb_at {qs : List (Option (Nat × PpH))} {id : Int} {p : PageD} (hg : getP (qsP qs) id = some p) : ∃ k : Nat, id = (k : Int) ∧ True ∧ ∃ pb x, qs[k]? = some (some (pb, x)) ∧ x.X = p := by
  obtain ⟨k, rfl, hk⟩ := getP_at hg
  refine ⟨k, rfl, trivial, ?_⟩
  rw [qsP, List.getElem?_map] at hk
  cases hq : qs[k]? with
  | none => rw [hq] at hk; cases hk
  | some q =>
    rw [hq] at hk
    cases q with
    | none => cases hk
    | some y => exact ⟨y.1, y.2, rfl, by injection hk with hk; injection hk⟩
set_option maxRecDepth 100000 in
set_option maxHeartbeats 4000000 in
theorem down_any (mb : Nat) (qs : List (Option (Nat × PpH))) (idx : List RefD) (ap : Option Addr) (cp : Nat) (ai : Option Addr) (ci : Nat) (key : ByteArray) (w : World) (hM : MtAt w mb qs idx ap cp ai ci) (hG : GoodT (qsP qs) idx) :
    Calls Try.prog 37 #[.pointer (some ⟨mb, 0, none⟩), .string key] w fun e w' => e = .returned (.tuple #[.int .i64 (downT (qsP qs) idx key).1, .int .i64 (((downT (qsP qs) idx key).2 : Nat) : Int)]) ∧ Below w.heap.size w w' := by
  have M := hide hM
  have G := hide hG
  have il : idx.length ≤ 30 := Nat.le_trans hG.il hG.len.2
  obtain ⟨hp, _, _, hz⟩ := pl_facts (k := key) (GoodT.rise hG.ix) hG.zero
  have S0 := hide (DnSt.start (key := key) hG hp)
  have c1 := (heap_at hM.box 1).1
  have HS := hide (searchRef_any ai idx.length ci idx key w hM.ix (GoodT.rise hG.ix) (by omega))
  obtain ⟨b1, off1, hai, e1, e2⟩ := hM.ix.2 (plR idx key) hp
  subst hai
  obtain ⟨D, hD⟩ : ∃ D, D = downT (qsP qs) idx key := ⟨_, rfl⟩
  rw [← hD] at S0 ⊢
  clear hD
  have PV := hide (show plR idx key = if found (idx.map refE) key then pos (idx.map refE) key else pos (idx.map refE) key - 1 from rfl)
  generalize hpl : plR idx key = P at *
  have hPw : (P : Int) < 9223372036854775807 := by omega
  clear hM hG hpl
  generalize hie : idx[P] = rf at *
  obtain ⟨low0, id0⟩ := rf
  simp only at e1 e2 S0
  clear hie
  obtain ⟨L, hL⟩ : ∃ L, L = idx.length := ⟨_, rfl⟩
  rw [← hL] at c1 HS hp il
  have HL := hide hL
  clear hL
  have e2' : ∀ u, Below w.heap.size w u → u.cell? ⟨b1, off1 + P * 2 + 1, none⟩ = some (.int .i64 id0) := fun u hu => (hu.cell (cell_lt e2)).trans e2
  have c1' : ∀ u, Below w.heap.size w u → u.cell? ⟨mb, 1, none⟩ = some (.slice (some ⟨b1, off1, none⟩) L ci) := fun u hu => (hu.cell (cell_lt c1)).trans c1
  go_enter Try.func37, Try.ntmps37
  go_wp2_with fail
  refine wp_scope_jumps 0 (fun a' w' => ∃ (id : Int) (h : Nat), ∃ u2 u3 u4 u5 u6 u7 u10 u11 u12 u13 u14 u15 u16 u17 u18 u19 u20 u21 u22 u23 u24 u25 u26 u27 u28 u29 u30 u31 u32 u33 u34 u35 u36 u37 u38 u39 u40 u41 u42 u43 u44 u45 u46 u47 u48 u49 u50 u51 u52 u53 u54 u55 u56 u57 u58 u59 : Value, a' = { tmps := #[.pointer (some ⟨mb, 0, none⟩), .string key, u2, u3, u4, u5, u6, u7, .int .i64 id, .int .i64 (h : Int), u10, u11, u12, u13, u14, u15, u16, u17, u18, u19, u20, u21, u22, u23, u24, u25, u26, u27, u28, u29, u30, u31, u32, u33, u34, u35, u36, u37, u38, u39, u40, u41, u42, u43, u44, u45, u46, u47, u48, u49, u50, u51, u52, u53, u54, u55, u56, u57, u58, u59], defers := [] } ∧ Hid (DnSt (qsP qs) key D id h) ∧ Below w.heap.size w w') (fun a' _ => 100 - (intOf (a'.tmps.getD 9 undef)).toNat) rfl ?_ ?_
  · cases hf : found (idx.map refE) key with
    | true =>
      have HS2 := hide (show _ from unhide HS)
      rw [hf] at HS2
      have PV2 := unhide PV
      rw [hf, if_pos rfl] at PV2
      rw [← PV2] at HS2
      clear PV2 hz hf PV HS
      go_wp2_with fail
      refine (unhide HS2).mono ?_
      rintro e w1 ⟨rfl, hb⟩
      have d1 := c1' w1 hb
      have d2 := e2' w1 hb
      clear c1 c1' e2' e1 e2 HS2
      have S := S0
      clear S0
      go_wp2_with fail
      clear d1 d2
      go_step3
      obtain ⟨p, hg, _, _⟩ := (unhide S).here
      obtain ⟨k, hidk, hq, pb, x, hqk, hX⟩ := tb_at hg
      subst hidk
      have hmem : some (pb, x) ∈ qs := List.mem_of_getElem? hqk
      obtain ⟨PB, hE, hD⟩ := ((unhide M).below hb).pgs pb x hmem
      have hokp : okP x.X = true := by rw [hX]; exact (unhide G).ok _ (getP_mem hg)
      have c0 := (heap_at ((unhide M).below hb).box 0).1
      obtain ⟨b, off, hap, hc⟩ := ((unhide M).below hb).row.at (j := k) (u := .pointer (some ⟨pb, 0, none⟩)) (by rw [List.getElem?_map, hqk]; rfl)
      subst hap
      have hkl : k < qs.length := (List.getElem?_eq_some_iff.1 hqk).1
      have q0 := (heap_at PB 0).1
      have q1 := (heap_at PB 1).1
      have q2 := (heap_at PB 2).1
      have q3 := (heap_at PB 3).1
      have q4 := (heap_at PB 4).1
      have HB := hide (implBounds_any x.X.lo x.X.hi x.X.r x.s0.a x.s0.n x.s0.c x.X.es x.s1.a x.s1.n x.s1.c x.X.ds w1 hE hD)
      rw [if_pos hokp] at HB
      unfold pgv at HB
      have UW := hide (under_way (key := key) hokp)
      have hfew := (unhide S).few (unhide G).len.2
      rw [← hX] at hg
      have STOP := hide (fun hu => (unhide S).stop (unhide G).len.2 hg hu)
      have NEXT := hide (fun hu => (unhide S).next (unhide G) hg hu)
      clear S hg hokp hE hD PB hqk hmem hX hq
      obtain ⟨X, ⟨a0, n0, k0⟩, ⟨a1, n1, k1⟩⟩ := x
      simp only at q0 q1 q2 q3 q4 HB UW STOP NEXT
      change Hid ((!decide (rightE X.r X.ds = -1) && !ltK key (highE X.hi X.ds)) = _) at UW
      change Hid (_ → DnSt _ _ _ (rightE X.r X.ds) _) at NEXT
      change Hid (underK key (highE X.hi X.ds) = true → _) at STOP
      change Hid ((!decide (rightE X.r X.ds = -1) && !ltK key (highE X.hi X.ds)) = !underK key (highE X.hi X.ds)) at UW
      change Hid (underK key (highE X.hi X.ds) = false → DnSt _ _ _ (rightE X.r X.ds) _) at NEXT
      generalize highE X.hi X.ds = H at *
      generalize rightE X.r X.ds = R at *
      go_wp2_with fail
      refine (unhide HB).mono ?_
      rintro e w2 ⟨rfl, hb2⟩
      have bA : Below w.heap.size w w2 := hb.trans (hb2.mono hb.size)
      clear HB q0 q1 q2 q3 q4 c0 hc hb hb2
      by_cases hR : R = -1
      · have E := hide (unhide STOP (by have := unhide UW; rw [decide_eq_true hR] at this; simpa using this.symm))
        subst hR
        go_wp2_with fail
        simp only [Exit.jump]
        go_ret2
        exact ⟨by rw [unhide E]; rfl, bA⟩
      · have hRb : (R != -1) = true := by simpa using hR
        cases hl : ltK key H with
        | true =>
          have E := hide (unhide STOP (by have := unhide UW; rw [hl] at this; simpa using this.symm))
          have hl2 : Op.bytesLess key.toList H.toList = true := hl
          go_wp2_with fail
          simp only [Exit.jump]
          go_ret2
          exact ⟨by rw [unhide E]; rfl, bA⟩
        | false =>
          have NX := hide (unhide NEXT (by have := unhide UW; rw [hl, decide_eq_false hR] at this; simpa using this.symm))
          have hl2 : Op.bytesLess key.toList H.toList = false := hl
          go_wp2_with fail
          go_step3
          exact ⟨rfl, R, 1, _, _, _, _, _, _, _, _, _, _, _, _, _, _, _, _, _, _, _, _, _, _, _, _, _, _, _, _, _, _, _, _, _, _, _, _, _, _, _, _, _, _, _, _, _, _, _, _, _, _, _, _, _, _, _, _, by go_num, NX, bA⟩
    | false =>
      have hz2 := hz hf
      have HS2 := hide (show _ from unhide HS)
      rw [hf] at HS2
      have PV2 := unhide PV
      rw [hf, if_neg (by decide)] at PV2
      rw [show pos (idx.map refE) key = P + 1 by omega] at HS2
      clear PV2 hz hf PV HS hz2
      go_wp2_with fail
      refine (unhide HS2).mono ?_
      rintro e w1 ⟨rfl, hb⟩
      have d1 := c1' w1 hb
      have d2 := e2' w1 hb
      clear c1 c1' e2' e1 e2 HS2
      have S := S0
      clear S0
      go_wp2_with fail
      clear d1 d2
      go_step3
      obtain ⟨p, hg, _, _⟩ := (unhide S).here
      obtain ⟨k, hidk, hq, pb, x, hqk, hX⟩ := tb_at hg
      subst hidk
      have hmem : some (pb, x) ∈ qs := List.mem_of_getElem? hqk
      obtain ⟨PB, hE, hD⟩ := ((unhide M).below hb).pgs pb x hmem
      have hokp : okP x.X = true := by rw [hX]; exact (unhide G).ok _ (getP_mem hg)
      have c0 := (heap_at ((unhide M).below hb).box 0).1
      obtain ⟨b, off, hap, hc⟩ := ((unhide M).below hb).row.at (j := k) (u := .pointer (some ⟨pb, 0, none⟩)) (by rw [List.getElem?_map, hqk]; rfl)
      subst hap
      have hkl : k < qs.length := (List.getElem?_eq_some_iff.1 hqk).1
      have q0 := (heap_at PB 0).1
      have q1 := (heap_at PB 1).1
      have q2 := (heap_at PB 2).1
      have q3 := (heap_at PB 3).1
      have q4 := (heap_at PB 4).1
      have HB := hide (implBounds_any x.X.lo x.X.hi x.X.r x.s0.a x.s0.n x.s0.c x.X.es x.s1.a x.s1.n x.s1.c x.X.ds w1 hE hD)
      rw [if_pos hokp] at HB
      unfold pgv at HB
      have UW := hide (under_way (key := key) hokp)
      have hfew := (unhide S).few (unhide G).len.2
      rw [← hX] at hg
      have STOP := hide (fun hu => (unhide S).stop (unhide G).len.2 hg hu)
      have NEXT := hide (fun hu => (unhide S).next (unhide G) hg hu)
      clear S hg hokp hE hD PB hqk hmem hX hq
      obtain ⟨X, ⟨a0, n0, k0⟩, ⟨a1, n1, k1⟩⟩ := x
      simp only at q0 q1 q2 q3 q4 HB UW STOP NEXT
      change Hid ((!decide (rightE X.r X.ds = -1) && !ltK key (highE X.hi X.ds)) = _) at UW
      change Hid (_ → DnSt _ _ _ (rightE X.r X.ds) _) at NEXT
      change Hid (underK key (highE X.hi X.ds) = true → _) at STOP
      change Hid ((!decide (rightE X.r X.ds = -1) && !ltK key (highE X.hi X.ds)) = !underK key (highE X.hi X.ds)) at UW
      change Hid (underK key (highE X.hi X.ds) = false → DnSt _ _ _ (rightE X.r X.ds) _) at NEXT
      generalize highE X.hi X.ds = H at *
      generalize rightE X.r X.ds = R at *
      go_wp2_with fail
      refine (unhide HB).mono ?_
      rintro e w2 ⟨rfl, hb2⟩
      have bA : Below w.heap.size w w2 := hb.trans (hb2.mono hb.size)
      clear HB q0 q1 q2 q3 q4 c0 hc hb hb2
      by_cases hR : R = -1
      · have E := hide (unhide STOP (by have := unhide UW; rw [decide_eq_true hR] at this; simpa using this.symm))
        subst hR
        go_wp2_with fail
        simp only [Exit.jump]
        go_ret2
        exact ⟨by rw [unhide E]; rfl, bA⟩
      · have hRb : (R != -1) = true := by simpa using hR
        cases hl : ltK key H with
        | true =>
          have E := hide (unhide STOP (by have := unhide UW; rw [hl] at this; simpa using this.symm))
          have hl2 : Op.bytesLess key.toList H.toList = true := hl
          go_wp2_with fail
          simp only [Exit.jump]
          go_ret2
          exact ⟨by rw [unhide E]; rfl, bA⟩
        | false =>
          have NX := hide (unhide NEXT (by have := unhide UW; rw [hl, decide_eq_false hR] at this; simpa using this.symm))
          have hl2 : Op.bytesLess key.toList H.toList = false := hl
          go_wp2_with fail
          go_step3
          exact ⟨rfl, R, 1, _, _, _, _, _, _, _, _, _, _, _, _, _, _, _, _, _, _, _, _, _, _, _, _, _, _, _, _, _, _, _, _, _, _, _, _, _, _, _, _, _, _, _, _, _, _, _, _, _, _, _, _, _, _, _, _, by go_num, NX, bA⟩
  · rintro a' wr ⟨id, h, u2, u3, u4, u5, u6, u7, u10, u11, u12, u13, u14, u15, u16, u17, u18, u19, u20, u21, u22, u23, u24, u25, u26, u27, u28, u29, u30, u31, u32, u33, u34, u35, u36, u37, u38, u39, u40, u41, u42, u43, u44, u45, u46, u47, u48, u49, u50, u51, u52, u53, u54, u55, u56, u57, u58, u59, rfl, S, hb⟩
    clear S0 e1 e2 c1 c1' e2' HS
    obtain ⟨p, hg, _, _⟩ := (unhide S).here
    obtain ⟨k, hidk, hq, pb, x, hqk, hX⟩ := tb_at hg
    subst hidk
    have hmem : some (pb, x) ∈ qs := List.mem_of_getElem? hqk
    obtain ⟨PB, hE, hD⟩ := ((unhide M).below hb).pgs pb x hmem
    have hokp : okP x.X = true := by rw [hX]; exact (unhide G).ok _ (getP_mem hg)
    have c0 := (heap_at ((unhide M).below hb).box 0).1
    obtain ⟨b, off, hap, hc⟩ := ((unhide M).below hb).row.at (j := k) (u := .pointer (some ⟨pb, 0, none⟩)) (by rw [List.getElem?_map, hqk]; rfl)
    subst hap
    have hkl : k < qs.length := (List.getElem?_eq_some_iff.1 hqk).1
    have q0 := (heap_at PB 0).1
    have q1 := (heap_at PB 1).1
    have q2 := (heap_at PB 2).1
    have q3 := (heap_at PB 3).1
    have q4 := (heap_at PB 4).1
    have HB := hide (implBounds_any x.X.lo x.X.hi x.X.r x.s0.a x.s0.n x.s0.c x.X.es x.s1.a x.s1.n x.s1.c x.X.ds wr hE hD)
    rw [if_pos hokp] at HB
    unfold pgv at HB
    have UW := hide (under_way (key := key) hokp)
    have hfew := (unhide S).few (unhide G).len.2
    rw [← hX] at hg
    have STOP := hide (fun hu => (unhide S).stop (unhide G).len.2 hg hu)
    have NEXT := hide (fun hu => (unhide S).next (unhide G) hg hu)
    clear S hg hokp hE hD PB hqk hmem hX hq
    obtain ⟨X, ⟨a0, n0, k0⟩, ⟨a1, n1, k1⟩⟩ := x
    simp only at q0 q1 q2 q3 q4 HB UW STOP NEXT
    change Hid ((!decide (rightE X.r X.ds = -1) && !ltK key (highE X.hi X.ds)) = _) at UW
    change Hid (_ → DnSt _ _ _ (rightE X.r X.ds) _) at NEXT
    change Hid (underK key (highE X.hi X.ds) = true → _) at STOP
    change Hid ((!decide (rightE X.r X.ds = -1) && !ltK key (highE X.hi X.ds)) = !underK key (highE X.hi X.ds)) at UW
    change Hid (underK key (highE X.hi X.ds) = false → DnSt _ _ _ (rightE X.r X.ds) _) at NEXT
    generalize highE X.hi X.ds = H at *
    generalize rightE X.r X.ds = R at *
    go_wp2_with fail
    refine (unhide HB).mono ?_
    rintro e w2 ⟨rfl, hb2⟩
    have bA : Below w.heap.size w w2 := hb.trans (hb2.mono hb.size)
    clear HB q0 q1 q2 q3 q4 c0 hc hb hb2
    by_cases hR : R = -1
    · have E := hide (unhide STOP (by have := unhide UW; rw [decide_eq_true hR] at this; simpa using this.symm))
      subst hR
      go_wp2_with fail
      simp only [Exit.jump]
      go_ret2
      exact ⟨by rw [unhide E]; rfl, bA⟩
    · have hRb : (R != -1) = true := by simpa using hR
      cases hl : ltK key H with
      | true =>
        have E := hide (unhide STOP (by have := unhide UW; rw [hl] at this; simpa using this.symm))
        have hl2 : Op.bytesLess key.toList H.toList = true := hl
        go_wp2_with fail
        simp only [Exit.jump]
        go_ret2
        exact ⟨by rw [unhide E]; rfl, bA⟩
      | false =>
        have NX := hide (unhide NEXT (by have := unhide UW; rw [hl, decide_eq_false hR] at this; simpa using this.symm))
        have hl2 : Op.bytesLess key.toList H.toList = false := hl
        go_wp2_with fail
        go_step3
        exact ⟨rfl, ⟨R, h + 1, _, _, _, _, _, _, _, _, _, _, _, _, _, _, _, _, _, _, _, _, _, _, _, _, _, _, _, _, _, _, _, _, _, _, _, _, _, _, _, _, _, _, _, _, _, _, _, _, _, _, _, _, _, _, _, _, by go_num, NX, bA⟩, by simp [intOf]; omega⟩
end Go.Proofs.Ytdajoapbdeplhaa

namespace Go.Proofs.Ytdajoapbdeplhaa
open Go.RowKit

/-- The digits of a number ahead of a text, an m ahead of both. -/
def mt (j : Nat) (s : ByteArray) : ByteArray := if _h : j = 0 then strOfNums [109] ++ s else mt (j / 10) (strOfNums [(48 + (j : Int) % 10)] ++ s)
termination_by j
decreasing_by omega
theorem mt_zero (s : ByteArray) : mt 0 s = strOfNums [109] ++ s := by rw [mt, dif_pos rfl]
theorem mt_step {j : Nat} (s : ByteArray) (h : ¬ j = 0) : mt j s = mt (j / 10) (strOfNums [(48 + (j : Int) % 10)] ++ s) := by rw [mt, dif_neg h]
theorem digits_small {j r K : Nat} (h0 : 0 < j) (h : j * 10 ^ r ≤ K) (hK : K ≤ 9999999) : r ≤ 6 := by
  by_cases hr : r ≤ 6
  · exact hr
  · have h1 : 10 ^ 7 ≤ 10 ^ r := Nat.pow_le_pow_right (by omega) (by omega)
    have h2 : 1 * 10 ^ r ≤ j * 10 ^ r := Nat.mul_le_mul_right _ h0
    omega
theorem digits_step {j r K : Nat} (h : j * 10 ^ r ≤ K) : j / 10 * 10 ^ (r + 1) ≤ K := by
  have : j / 10 * 10 ≤ j := Nat.div_mul_le_self j 10
  have h2 : j / 10 * 10 * 10 ^ r ≤ j * 10 ^ r := Nat.mul_le_mul_right _ this
  rw [Nat.pow_succ, Nat.mul_comm (10 ^ r) 10, ← Nat.mul_assoc]
  omega
theorem conv_one {w : World} {x : Int} : (convert 117 9 (.slice (some ⟨w.heap.size, 0, none⟩) 1 1)).run Try.prog (w.alloc (.cells #[.int .u8 x] 5)) = .ok (.string (strOfNums [x])) (w.alloc (.cells #[.int .u8 x] 5)) :=
  run_convert_bytes_arg _ 117 5 Try.underlying117 Try.underlying5 w.heap.size 0 1 1 [x] rfl (fun i hi => by
      have : i = 0 := by simp at hi; omega
      subst this
      simp) 9 Try.underlying9

theorem str_size (l : List Int) : (strOfNums l).size = l.length := by
  have h := congrArg List.length (strOfNums_data l)
  simpa using h
set_option maxHeartbeats 1000000 in
theorem markText_any (K : Nat) (w : World) (h0 : 0 < K) (hK : K ≤ 9999999) :
    Calls Try.prog 46 #[.int .i64 K] w fun e w' => e = .returned (.string (mt K ByteArray.empty)) ∧ Below w.heap.size w w' := by
  go_enter Try.func46, Try.ntmps46
  go_wp2_with fail
  go_loopw [0, 3] (fun i o wr => ∃ (j : Nat) (s : ByteArray), j ≤ K ∧ i = .int .i64 j ∧ o = .string s ∧ s.size ≤ 8 ∧ Hid (j * 10 ^ s.size ≤ K) ∧ Hid (mt j s = mt K ByteArray.empty) ∧ Below w.heap.size w wr) (fun i _ _ => (intOf i).toNat)
  case atStart => exact ⟨K, ByteArray.empty, Nat.le_refl _, rfl, rfl, by simp, by show K * 10 ^ 0 ≤ K; omega, rfl, Below.refl _ _⟩
  case round =>
    obtain ⟨j, s, hj, rfl, rfl, hs, hd, hm, hb⟩ := hrel
    by_cases hp : 0 < j
    · have hsz := hb.size
      have h6 := digits_small hp (unhide hd) hK
      have D := hide (digits_step (unhide hd))
      have M := hide ((mt_step s (by omega)).symm.trans (unhide hm))
      have hc := fun x => conv_one (w := wr) (x := x)
      have hz1 : (strOfNums [(48 + (j : Int) % 10)]).size = 1 := str_size _
      have hz2 : (strOfNums [(48 + (j : Int) % 10)] ++ s).size = s.size + 1 := by rw [ByteArray.size_append, hz1]; omega
      go_wp2_with fail
      go_roundw
      case rel => exact ⟨j / 10, _, by omega, by go_num, rfl, by omega, by rw [hz2]; exact unhide D, unhide M, hb.alloc hsz _⟩
      case measure => simp [intOf]; omega
    · obtain rfl : j = 0 := by omega
      have M := hide ((mt_zero s).symm.trans (unhide hm))
      go_wp2_with fail
      go_ret
      exact ⟨by rw [← unhide M]; rfl, hb⟩

theorem markText_at (K : Nat) (x : Int) (w : World) (hx : x = K) (h0 : 0 < K) (hK : K ≤ 9999999) :
    Calls Try.prog 46 #[.int .i64 x] w fun e w' => e = .returned (.string (mt K ByteArray.empty)) ∧ Below w.heap.size w w' := by
  subst hx; exact markText_any K w h0 hK

end Go.Proofs.Ytdajoapbdeplhaa

namespace Go.Proofs.Ytdajoapbdeplhaa
open Go.RowKit

def markE (k0 i : Nat) : EntD := ⟨mt (k0 + 2 * i) ByteArray.empty, mt (k0 + 2 * i + 1) ByteArray.empty⟩
def markEs (k0 n : Nat) : List EntD := (List.range n).map (markE k0)
def markDl (k0 i : Nat) : DelD := ⟨k0 + 4 * i, mt (k0 + 4 * i + 1) ByteArray.empty, mt (k0 + 4 * i + 2) ByteArray.empty, k0 + 4 * i + 3⟩
def markDls (k0 n : Nat) : List DelD := (List.range n).map (markDl k0)
theorem markEs_len (k0 n : Nat) : (markEs k0 n).length = n := by simp [markEs]
theorem markDls_len (k0 n : Nat) : (markDls k0 n).length = n := by simp [markDls]
theorem set_mark {α : Type} (f : Nat → α) (l : List α) (k : Nat) (h : k < l.length) : ((List.range k).map f ++ l.drop k).set k (f k) = (List.range (k + 1)).map f ++ l.drop (k + 1) := by
  rw [List.set_append_right _ _ (by simp), List.length_map, List.length_range, Nat.sub_self, List.drop_eq_getElem_cons h, List.set_cons_zero, List.range_succ, List.map_append, List.append_assoc]
  rfl
theorem eowns_set1 {w : World} {B g n c : Nat} {es : List EntD} (h : EOwns w B (.slice (some ⟨g, 0, none⟩) n c) es) (j : Nat) (v : Value) : (w.setCell ⟨g, j, none⟩ v).ownsRow B 79 2 (.slice (some ⟨g, 0, none⟩) n c) n ((ecs es).set j v) ∧ w.grownBy (w.setCell ⟨g, j, none⟩ v) (some g) := by
  obtain rfl := (erow_of_owns h).1
  exact World.ownsRow.stored h j v
theorem grownBy_below {w w' : World} {r : Option Nat} (h : Below w.heap.size w w') : w.grownBy w' r := ⟨h.os, h.tape, h.output, h.size, fun i hi _ => h.block i hi⟩
theorem ownsRow_below {w w' : World} {B e s n : Nat} {v : Value} {vs : List Value} (h : w.ownsRow B e s v n vs) (hb : Below w.heap.size w w') : w'.ownsRow B e s v n vs :=
  World.ownsRow.kept (row := none) h (grownBy_below hb) (by cases hv : v.ownBlock <;> simp)
set_option maxRecDepth 100000 in
set_option maxHeartbeats 4000000 in
theorem markEntryS_some (B g n c k0 : Nat) (es : List EntD) (w : World) (hp : 0 < k0) (hn : 2 * n + k0 ≤ 9999990) (h1 : EOwns w B (.slice (some ⟨g, 0, none⟩) n c) es) :
    Calls Try.prog 17 #[.slice (some ⟨g, 0, none⟩) n c, .int .i64 k0] w fun e w' => e = .returned (.int .i64 (k0 + 2 * n)) ∧ EOwns w' B (.slice (some ⟨g, 0, none⟩) n c) (markEs k0 n) ∧ w.grownBy w' (some g) := by
  have L := hide (erow_of_owns h1).1
  have H := hide h1
  clear h1
  go_enter Try.func17, Try.ntmps17
  go_wp2_with fail
  go_loopw [1, 5] (fun q i wr => ∃ k : Nat, k ≤ n ∧ i = .int .i64 k ∧ q = .int .i64 (k0 + 2 * k) ∧ Hid (EOwns wr B (.slice (some ⟨g, 0, none⟩) n c) (markEs k0 k ++ es.drop k)) ∧ Hid (w.grownBy wr (some g))) (fun _ i _ => n - (intOf i).toNat)
  case atStart => exact ⟨0, Nat.zero_le _, rfl, by simp, unhide H, grownBy_below (Below.refl _ _)⟩
  case round =>
    clear H
    obtain ⟨k, hk, rfl, rfl, hB, hw⟩ := hrel
    by_cases hlt : k < n
    · have hke : k < es.length := by have := unhide L; omega
      have hlx : k < (markEs k0 k ++ es.drop k).length := by rw [List.length_append, markEs_len, List.length_drop]; omega
      have SM := hide (show (markEs k0 k ++ es.drop k).set k (markE k0 k) = markEs k0 (k + 1) ++ es.drop (k + 1) from set_mark (markE k0) es k hke)
      generalize markEs k0 k ++ es.drop k = xs at *
      have hsz := (unhide hw).size
      go_wp2_with fail
      refine (markText_at (k0 + 2 * k) _ wr (by omega) (by omega) (by omega)).mono ?_
      rintro e w2 ⟨rfl, hb2⟩
      have B2 := hide (eowns_below (unhide hB) hb2)
      have G2 := hide (grown_trans (unhide hw) (grownBy_below hb2))
      obtain ⟨e0, e1⟩ := eowns_at (unhide B2) k hlx
      have f0 := eowns_fz (unhide B2) (k * 2)
      obtain ⟨o3, g3⟩ := eowns_set1 (unhide B2) (k * 2) (.string (mt (k0 + 2 * k) ByteArray.empty))
      have O3 := hide o3
      have G3 := hide (grown_trans (unhide G2) g3)
      generalize xs[k].k = u0 at *
      generalize xs[k].v = u1 at *
      generalize hmt : mt (k0 + 2 * k) ByteArray.empty = t0 at *
      clear hb2 hB hw o3 g3
      go_wp2_with fail
      generalize w2.setCell ⟨g, k * 2, none⟩ (.string t0) = w3 at *
      refine (markText_at (k0 + 2 * k + 1) _ w3 (by omega) (by omega) (by omega)).mono ?_
      rintro e w4 ⟨rfl, hb4⟩
      have O4 := hide (ownsRow_below (unhide O3) hb4)
      have G4 := hide (grown_trans (unhide G3) (grownBy_below hb4))
      have e5 : ∃ u, w4.cell? ⟨g, k * 2 + 1, none⟩ = some u := by
        have hl1 : k * 2 + 1 < n * 2 := by omega
        have h := (unhide O4).cellAt (k * 2 + 1) hl1
        have hlen : k * 2 + 1 < ((ecs xs).set (k * 2) (.string t0)).length := by rw [List.length_set, ecs_len]; omega
        exact ⟨_, h.trans (List.getElem?_eq_getElem hlen)⟩
      obtain ⟨u5, e5⟩ := e5
      have f5 := (unhide O4).frozenAt (k * 2 + 1)
      obtain ⟨o6, g6⟩ := World.ownsRow.stored (unhide O4) (k * 2 + 1) (.string (mt (k0 + 2 * k + 1) ByteArray.empty))
      have O6 := hide (show EOwns (w4.setCell ⟨g, k * 2 + 1, none⟩ (.string (mt (k0 + 2 * k + 1) ByteArray.empty))) B (.slice (some ⟨g, 0, none⟩) n c) (markEs k0 (k + 1) ++ es.drop (k + 1)) by
        rw [← unhide SM]
        unfold EOwns
        rw [ecs_set, List.length_set]
        have hxn : xs.length = n := (erow_of_owns (unhide B2)).1
        rw [hxn]
        unfold markE
        rw [hmt]
        exact o6)
      have G6 := hide (grown_trans (unhide G4) g6)
      generalize mt (k0 + 2 * k + 1) ByteArray.empty = t1 at *
      clear hb4 o6 g6 e0 e1 f0 B2 G2 O3 G3 O4 G4
      go_wp2_with fail
      go_roundw
      case rel => exact ⟨k + 1, by omega, by go_num, by go_num, unhide O6, unhide G6⟩
      case measure => simp [intOf]; omega
    · obtain rfl : k = n := by omega
      have P := hide (show EOwns wr B (.slice (some ⟨g, 0, none⟩) k c) (markEs k0 k) by
        have := unhide hB
        rw [List.drop_of_length_le (by rw [unhide L]; exact Nat.le_refl _), List.append_nil] at this
        exact this)
      go_wp2_with fail
      go_ret
      exact ⟨rfl, unhide P, unhide hw⟩
theorem downs_set1 {w : World} {B g n c : Nat} {ds : List DelD} (h : DOwns w B (.slice (some ⟨g, 0, none⟩) n c) ds) (j : Nat) (v : Value) : (w.setCell ⟨g, j, none⟩ v).ownsRow B 93 4 (.slice (some ⟨g, 0, none⟩) n c) n ((dcs ds).set j v) ∧ w.grownBy (w.setCell ⟨g, j, none⟩ v) (some g) := by
  obtain rfl := (drow_of_owns h).1
  exact World.ownsRow.stored h j v
theorem ownsRow_some {w : World} {B e s g n c : Nat} {vs : List Value} (h : w.ownsRow B e s (.slice (some ⟨g, 0, none⟩) n c) n vs) {j : Nat} (hj : j < n * s) : ∃ u, w.cell? ⟨g, j, none⟩ = some u :=
  ⟨_, (h.cellAt j hj).trans (List.getElem?_eq_getElem (by rw [h.1]; exact hj))⟩
set_option maxRecDepth 100000 in
set_option maxHeartbeats 4000000 in
theorem markDeltaS_some (B g n c k0 : Nat) (ds : List DelD) (w : World) (hp : 0 < k0) (hn : 4 * n + k0 ≤ 9999990) (h1 : DOwns w B (.slice (some ⟨g, 0, none⟩) n c) ds) :
    Calls Try.prog 70 #[.slice (some ⟨g, 0, none⟩) n c, .int .i64 k0] w fun e w' => e = .returned (.int .i64 (k0 + 4 * n)) ∧ DOwns w' B (.slice (some ⟨g, 0, none⟩) n c) (markDls k0 n) ∧ w.grownBy w' (some g) := by
  have L := hide (drow_of_owns h1).1
  have H := hide h1
  clear h1
  go_enter Try.func70, Try.ntmps70
  go_wp2_with fail
  go_loopw [1, 5] (fun q i wr => ∃ k : Nat, k ≤ n ∧ i = .int .i64 k ∧ q = .int .i64 (k0 + 4 * k) ∧ Hid (DOwns wr B (.slice (some ⟨g, 0, none⟩) n c) (markDls k0 k ++ ds.drop k)) ∧ Hid (w.grownBy wr (some g))) (fun _ i _ => n - (intOf i).toNat)
  case atStart => exact ⟨0, Nat.zero_le _, rfl, by simp, unhide H, grownBy_below (Below.refl _ _)⟩
  case round =>
    clear H
    obtain ⟨k, hk, rfl, rfl, hB, hw⟩ := hrel
    by_cases hlt : k < n
    · have hke : k < ds.length := by have := unhide L; omega
      have hlx : k < (markDls k0 k ++ ds.drop k).length := by rw [List.length_append, markDls_len, List.length_drop]; omega
      have SM := hide (show (markDls k0 k ++ ds.drop k).set k (markDl k0 k) = markDls k0 (k + 1) ++ ds.drop (k + 1) from set_mark (markDl k0) ds k hke)
      have HXN := hide (drow_of_owns (unhide hB)).1
      generalize markDls k0 k ++ ds.drop k = xs at *
      obtain ⟨e0, _⟩ := downs_at (unhide hB) k hlx
      have f0 := downs_fz (unhide hB) (k * 4)
      obtain ⟨o1, g1⟩ := downs_set1 (unhide hB) (k * 4) (.int .i64 (k0 + 4 * k))
      have O1 := hide o1
      have G1 := hide (grown_trans (unhide hw) g1)
      generalize xs[k].kind = u0 at *
      clear o1 g1 hB hw
      go_wp2_with fail
      generalize wr.setCell ⟨g, k * 4, none⟩ (.int .i64 (k0 + 4 * k)) = w1 at *
      refine (markText_at (k0 + 4 * k + 1) _ w1 (by omega) (by omega) (by omega)).mono ?_
      rintro e w2 ⟨rfl, hb2⟩
      have O2 := hide (ownsRow_below (unhide O1) hb2)
      have G2 := hide (grown_trans (unhide G1) (grownBy_below hb2))
      obtain ⟨u1, e1⟩ := ownsRow_some (unhide O2) (j := k * 4 + 1) (by omega)
      have f1 := (unhide O2).frozenAt (k * 4 + 1)
      obtain ⟨o3, g3⟩ := World.ownsRow.stored (unhide O2) (k * 4 + 1) (.string (mt (k0 + 4 * k + 1) ByteArray.empty))
      have O3 := hide o3
      have G3 := hide (grown_trans (unhide G2) g3)
      generalize hm1 : mt (k0 + 4 * k + 1) ByteArray.empty = t1 at *
      clear hb2 o3 g3 e0 f0 O1 G1 O2 G2
      go_wp2_with fail
      generalize w2.setCell ⟨g, k * 4 + 1, none⟩ (.string t1) = w3 at *
      refine (markText_at (k0 + 4 * k + 2) _ w3 (by omega) (by omega) (by omega)).mono ?_
      rintro e w4 ⟨rfl, hb4⟩
      have O4 := hide (ownsRow_below (unhide O3) hb4)
      have G4 := hide (grown_trans (unhide G3) (grownBy_below hb4))
      obtain ⟨u2, e2⟩ := ownsRow_some (unhide O4) (j := k * 4 + 2) (by omega)
      have f2 := (unhide O4).frozenAt (k * 4 + 2)
      obtain ⟨o5, g5⟩ := World.ownsRow.stored (unhide O4) (k * 4 + 2) (.string (mt (k0 + 4 * k + 2) ByteArray.empty))
      obtain ⟨u3, e3⟩ := ownsRow_some o5 (j := k * 4 + 3) (by omega)
      have f3 := o5.frozenAt (k * 4 + 3)
      obtain ⟨o6, g6⟩ := World.ownsRow.stored o5 (k * 4 + 3) (.int .i64 (k0 + 4 * k + 3))
      generalize hm2 : mt (k0 + 4 * k + 2) ByteArray.empty = t2 at *
      have O6 := hide (show DOwns ((w4.setCell ⟨g, k * 4 + 2, none⟩ (.string t2)).setCell ⟨g, k * 4 + 3, none⟩ (.int .i64 (k0 + 4 * k + 3))) B (.slice (some ⟨g, 0, none⟩) n c) (markDls k0 (k + 1) ++ ds.drop (k + 1)) by
        rw [← unhide SM]
        unfold DOwns
        rw [dcs_set, List.length_set, unhide HXN]
        unfold markDl
        rw [hm1, hm2]
        exact o6)
      have G6 := hide (grown_trans (unhide G4) (grown_trans g5 g6))
      clear hb4 o5 g5 o6 g6 e1 f1 O3 G3 O4 G4
      have hi3 : (k0 : Int) + 4 * k + 1 + 1 + 1 = k0 + 4 * k + 3 := by omega
      go_wp2_with fail
      go_roundw
      case rel => exact ⟨k + 1, by omega, by go_num, by go_num, by first | exact unhide O6 | (rw [hi3]; exact unhide O6), by first | exact unhide G6 | (rw [hi3]; exact unhide G6)⟩
      case measure => simp [intOf]; omega
    · obtain rfl : k = n := by omega
      have P := hide (show DOwns wr B (.slice (some ⟨g, 0, none⟩) k c) (markDls k0 k) by
        have := unhide hB
        rw [List.drop_of_length_le (by rw [unhide L]; exact Nat.le_refl _), List.append_nil] at this
        exact this)
      go_wp2_with fail
      go_ret
      exact ⟨rfl, unhide P, unhide hw⟩
theorem markEntryS_none (a : Option Addr) (c : Nat) (k0 : Int) (w : World) :
    Calls Try.prog 17 #[.slice a 0 c, .int .i64 k0] w fun e w' => e = .returned (.int .i64 k0) ∧ w' = w := by
  go_enter Try.func17, Try.ntmps17
  go_wp2_with fail
  refine wp_loop_rounds 1 ?_
  rw [rounds_succ]
  go_wp2_with fail
  go_ret
  exact ⟨rfl, rfl⟩
theorem markDeltaS_none (a : Option Addr) (c : Nat) (k0 : Int) (w : World) :
    Calls Try.prog 70 #[.slice a 0 c, .int .i64 k0] w fun e w' => e = .returned (.int .i64 k0) ∧ w' = w := by
  go_enter Try.func70, Try.ntmps70
  go_wp2_with fail
  refine wp_loop_rounds 1 ?_
  rw [rounds_succ]
  go_wp2_with fail
  go_ret
  exact ⟨rfl, rfl⟩
theorem markEntryS_any (B : Nat) (a : Option Addr) (n c k0 : Nat) (es : List EntD) (w : World) (hp : 0 < k0) (hn : 2 * n + k0 ≤ 9999990) (h1 : EOwns w B (.slice a n c) es) :
    Calls Try.prog 17 #[.slice a n c, .int .i64 k0] w fun e w' => e = .returned (.int .i64 ((k0 + 2 * n : Nat) : Int)) ∧ EOwns w' B (.slice a n c) (markEs k0 n) ∧ w.grownBy w' (Value.slice a n c).ownBlock := by
  rcases h1.2 with ⟨e, hl⟩ | ⟨g, cap, cur, e, _⟩
  · injection e with e1 e2 e3
    subst e1 e2 e3
    refine (markEntryS_none none 0 k0 w).mono ?_
    rintro e w' ⟨rfl, rfl⟩
    exact ⟨by simp, World.ownsRow_nil _ _ _ _, grownBy_below (Below.refl _ _)⟩
  · injection e with e1 e2 e3
    subst e1 e2 e3
    refine (markEntryS_some B g _ _ k0 es w hp hn h1).mono ?_
    rintro e w' ⟨rfl, h2, h3⟩
    exact ⟨by simp, h2, h3⟩
theorem markDeltaS_any (B : Nat) (a : Option Addr) (n c k0 : Nat) (ds : List DelD) (w : World) (hp : 0 < k0) (hn : 4 * n + k0 ≤ 9999990) (h1 : DOwns w B (.slice a n c) ds) :
    Calls Try.prog 70 #[.slice a n c, .int .i64 k0] w fun e w' => e = .returned (.int .i64 ((k0 + 4 * n : Nat) : Int)) ∧ DOwns w' B (.slice a n c) (markDls k0 n) ∧ w.grownBy w' (Value.slice a n c).ownBlock := by
  rcases h1.2 with ⟨e, hl⟩ | ⟨g, cap, cur, e, _⟩
  · injection e with e1 e2 e3
    subst e1 e2 e3
    refine (markDeltaS_none none 0 k0 w).mono ?_
    rintro e w' ⟨rfl, rfl⟩
    exact ⟨by simp, World.ownsRow_nil _ _ _ _, grownBy_below (Below.refl _ _)⟩
  · injection e with e1 e2 e3
    subst e1 e2 e3
    refine (markDeltaS_some B g _ _ k0 ds w hp hn h1).mono ?_
    rintro e w' ⟨rfl, h2, h3⟩
    exact ⟨by simp, h2, h3⟩
end Go.Proofs.Ytdajoapbdeplhaa

namespace Go.Proofs.Ytdajoapbdeplhaa
open Go.RowKit

set_option maxRecDepth 100000 in
set_option maxHeartbeats 4000000 in
theorem heldEntryS_any (a : Option Addr) (n c k0 : Nat) (w : World) (hp : 0 < k0) (hn : 2 * n + k0 ≤ 9999990) (h1 : ERow w a n (markEs k0 n)) :
    Calls Try.prog 18 #[.slice a n c, .int .i64 k0] w fun e w' => e = .returned (.int .i64 ((k0 + 2 * n : Nat) : Int)) ∧ Below w.heap.size w w' := by
  have H := hide h1
  clear h1
  go_enter Try.func18, Try.ntmps18
  go_wp2_with fail
  go_loopw [1, 5] (fun q i wr => ∃ k : Nat, k ≤ n ∧ i = .int .i64 k ∧ q = .int .i64 (k0 + 2 * k) ∧ Below w.heap.size w wr) (fun _ i _ => n - (intOf i).toNat)
  case atStart => exact ⟨0, Nat.zero_le _, rfl, by simp, Below.refl _ _⟩
  case round =>
    obtain ⟨k, hk, rfl, rfl, hb⟩ := hrel
    by_cases hlt : k < n
    · have hk2 : k < (markEs k0 n).length := by rw [markEs_len]; exact hlt
      have em : (markEs k0 n)[k] = markE k0 k := by simp [markEs]
      obtain ⟨b, off, rfl, d0, d1⟩ := ((unhide H).below hb).2 k hk2
      rw [em] at d0 d1
      unfold markE at d0 d1
      simp only at d0 d1
      have hsz := hb.size
      have hbw : b < wr.heap.size := cell_lt d0
      have D1 := hide (show ∀ w', Below wr.heap.size wr w' → w'.cell? ⟨b, off + k * 2 + 1, none⟩ = some (.string (mt (k0 + 2 * k + 1) ByteArray.empty)) ∧ w'.cell? ⟨b, off + k * 2, none⟩ = some (.string (mt (k0 + 2 * k) ByteArray.empty)) ∧ b < w'.heap.size from fun w' hb' => ⟨(hb'.cell (p := ⟨b, off + k * 2 + 1, none⟩) hbw).trans d1, (hb'.cell (p := ⟨b, off + k * 2, none⟩) hbw).trans d0, by have := hb'.size; omega⟩)
      clear em
      go_wp2_with fail
      go_region_with (go_at_call 46; refine (markText_at (k0 + 2 * k) _ _ (by omega) (by omega) (by omega)).mono ?_; rintro e w2 ⟨rfl, hb2⟩; replace hb2 : Below wr.heap.size wr w2 := (by first | exact hb2 | exact bel_of_drew hb2 | exact bel_of_drewN hb2); obtain ⟨x1, x0, hbx⟩ := unhide D1 w2 hb2)
      all_goals
        have bA : Below w.heap.size w w2 := hb.trans (hb2.mono hsz)
        have hs2 := bA.size
        have D2 := hide (show ∀ w', Below w2.heap.size w2 w' → w'.cell? ⟨b, off + k * 2 + 1, none⟩ = some (.string (mt (k0 + 2 * k + 1) ByteArray.empty)) from fun w' hb' => (hb'.cell (p := ⟨b, off + k * 2 + 1, none⟩) hbx).trans x1)
        clear hb hb2 d0 d1 x0 D1
        generalize mt (k0 + 2 * k) ByteArray.empty = t0 at *
        go_wp2_with fail
        go_region_with (go_at_call 46; refine (markText_at (k0 + 2 * k + 1) _ _ (by omega) (by omega) (by omega)).mono ?_; rintro e w3 ⟨rfl, hb3⟩; replace hb3 : Below w2.heap.size w2 w3 := (by first | exact hb3 | exact bel_of_drew hb3 | exact bel_of_drewN hb3); have x3 := unhide D2 w3 hb3)
        all_goals
          have bB : Below w.heap.size w w3 := bA.trans (hb3.mono hs2)
          clear bA hb3 x1 x3 D2
          generalize mt (k0 + 2 * k + 1) ByteArray.empty = t1 at *
          go_wp2_with fail
          go_roundw
          case rel => exact ⟨k + 1, by omega, by go_num, by go_num, bB⟩
          case measure => simp [intOf]; omega
    · obtain rfl : k = n := by omega
      go_wp2_with fail
      go_ret
      exact ⟨by simp, hb⟩
end Go.Proofs.Ytdajoapbdeplhaa

namespace Go.Proofs.Ytdajoapbdeplhaa
open Go.RowKit

/-- The blocks of a page's two lists. -/
def PgBlk (a : Option Addr) (n c : Nat) (a2 : Option Addr) (n2 c2 : Nat) (i : Nat) : Prop := (Value.slice a n c).ownBlock = some i ∨ (Value.slice a2 n2 c2).ownBlock = some i
/-- A page whose two lists are the call's own, from block B on, and apart. -/
def PgOwn (w : World) (B : Nat) (a : Option Addr) (n c : Nat) (a2 : Option Addr) (n2 c2 : Nat) (es : List EntD) (ds : List DelD) : Prop :=
  EOwns w B (.slice a n c) es ∧ DOwns w B (.slice a2 n2 c2) ds ∧ ∀ i, (Value.slice a n c).ownBlock = some i → ¬ (Value.slice a2 n2 c2).ownBlock = some i
theorem PgOwn.len {w : World} {B : Nat} {a : Option Addr} {n c : Nat} {a2 : Option Addr} {n2 c2 : Nat} {es : List EntD} {ds : List DelD} (h : PgOwn w B a n c a2 n2 c2 es ds) : n = es.length ∧ n2 = ds.length := ⟨(erow_of_owns h.1).1.symm, (drow_of_owns h.2.1).1.symm⟩
theorem PgOwn.blk {w : World} {B : Nat} {a : Option Addr} {n c : Nat} {a2 : Option Addr} {n2 c2 : Nat} {es : List EntD} {ds : List DelD} (h : PgOwn w B a n c a2 n2 c2 es ds) {i : Nat} (hi : PgBlk a n c a2 n2 c2 i) : B ≤ i ∧ i < w.heap.size := by
  rcases hi with hi | hi
  · exact h.1.lt i hi
  · exact h.2.1.lt i hi
theorem PgOwn.wr {w w' : World} {P : Nat → Prop} {B : Nat} {a : Option Addr} {n c : Nat} {a2 : Option Addr} {n2 c2 : Nat} {es : List EntD} {ds : List DelD} (h : PgOwn w B a n c a2 n2 c2 es ds) (hw : Wr P w w') (hp : ∀ i, PgBlk a n c a2 n2 c2 i → ¬ P i) : PgOwn w' B a n c a2 n2 c2 es ds :=
  ⟨ownsRow_heap h.1 (fun g hg => hw.block g (h.1.lt g hg).2 (hp g (.inl hg))), ownsRow_heap h.2.1 (fun g hg => hw.block g (h.2.1.lt g hg).2 (hp g (.inr hg))), h.2.2⟩
theorem PgOwn.below {w w' : World} {B : Nat} {a : Option Addr} {n c : Nat} {a2 : Option Addr} {n2 c2 : Nat} {es : List EntD} {ds : List DelD} (h : PgOwn w B a n c a2 n2 c2 es ds) (hb : Below w.heap.size w w') : PgOwn w' B a n c a2 n2 c2 es ds :=
  h.wr (P := fun _ => False) (Wr.of_below hb) (fun _ _ h => h)
theorem PgOwn.base {w : World} {B C : Nat} {a : Option Addr} {n c : Nat} {a2 : Option Addr} {n2 c2 : Nat} {es : List EntD} {ds : List DelD} (h : PgOwn w B a n c a2 n2 c2 es ds) (hC : C ≤ B) : PgOwn w C a n c a2 n2 c2 es ds :=
  ⟨ownsRow_base h.1 hC, ownsRow_base h.2.1 hC, h.2.2⟩
theorem pgown_of {w : World} {B g h nb nc : Nat} {es : List EntD} {ds : List DelD} (x : OwnPage w B g h nb nc es ds) : PgOwn w B (some ⟨g, 0, none⟩) nb nb (some ⟨h, 0, none⟩) nc nc es ds :=
  ⟨x.1, x.2.1, fun i hi hj => by
    simp only [Value.ownBlock, Option.some.injEq] at hi hj
    exact x.2.2 (hi.trans hj.symm)⟩
theorem eqPage_own (lo hi : ByteArray) (r : Int) (B B2 : Nat) (a : Option Addr) (n c : Nat) (a2 : Option Addr) (n2 c2 : Nat) (d : Option Addr) (m e : Nat) (d2 : Option Addr) (m2 e2 : Nat) (es : List EntD) (ds : List DelD) (w : World) (h1 : PgOwn w B a n c a2 n2 c2 es ds) (h2 : PgOwn w B2 d m e d2 m2 e2 es ds) (hn : es.length ≤ 1048576) (hm : ds.length ≤ 1048576) :
    Calls Try.prog 60 #[pgv lo hi r a n c a2 n2 c2, pgv lo hi r d m e d2 m2 e2] w fun x w' => x = .returned (.bool true) ∧ Below w.heap.size w w' := by
  obtain ⟨rfl, rfl⟩ := h1.len
  obtain ⟨rfl, rfl⟩ := h2.len
  exact eqPage_any lo hi r a d _ c e es a2 d2 _ c2 e2 ds w hn hm (erow_of_owns h1.1) (erow_of_owns h2.1) (drow_of_owns h1.2.1) (drow_of_owns h2.2.1)
end Go.Proofs.Ytdajoapbdeplhaa

namespace Go.Proofs.Ytdajoapbdeplhaa
open Go.RowKit

/-- A page put together. -/
def conP (lo hi : ByteArray) (r : Int) (es : List EntD) (ds : List DelD) : PageD := if okPage lo hi r es ds = true then ⟨lo, highE hi ds, rightE r ds, entsE es ds, []⟩ else ⟨ByteArray.empty, ByteArray.empty, 0, [], []⟩
def conC (lo hi : ByteArray) (r : Int) (es : List EntD) (ds : List DelD) : Int := if okPage lo hi r es ds = true then 0 else 1
theorem conP_ds (lo hi : ByteArray) (r : Int) (es : List EntD) (ds : List DelD) : (conP lo hi r es ds).ds = [] := by unfold conP; split <;> rfl
theorem conP_len (lo hi : ByteArray) (r : Int) (es : List EntD) (ds : List DelD) : (conP lo hi r es ds).es.length ≤ 32 := by
  unfold conP
  split
  · rename_i h; exact (ok_len h).2.2
  · simp
/-- The answer of Consolidate. -/
def ConRes (lo hi : ByteArray) (r : Int) (es : List EntD) (ds : List DelD) (w : World) (e : Ending) (w' : World) : Prop :=
  ∃ a n c, e = .returned (.tuple #[pgv (conP lo hi r es ds).lo (conP lo hi r es ds).hi (conP lo hi r es ds).r a n c none 0 0, .int .i64 (conC lo hi r es ds)]) ∧ EOwns w' w.heap.size (.slice a n c) (conP lo hi r es ds).es ∧ Below w.heap.size w w'
/-- Five cells of a block stored anew. -/
abbrev set5 (w : World) (b : Nat) (v0 v1 v2 v3 v4 : Value) : World := ((((w.setCell ⟨b, 0, none⟩ v0).setCell ⟨b, 1, none⟩ v1).setCell ⟨b, 2, none⟩ v2).setCell ⟨b, 3, none⟩ v3).setCell ⟨b, 4, none⟩ v4
theorem set5_below {w w1 : World} {B b : Nat} (h : Below B w w1) (hb : B ≤ b) (v0 v1 v2 v3 v4 : Value) : Below B w (set5 w1 b v0 v1 v2 v3 v4) :=
  ((((h.setCell (p := ⟨b, 0, none⟩) hb _).setCell (p := ⟨b, 1, none⟩) hb _).setCell (p := ⟨b, 2, none⟩) hb _).setCell (p := ⟨b, 3, none⟩) hb _).setCell (p := ⟨b, 4, none⟩) hb _
theorem set5_owns {w : World} {B b e s n : Nat} {v : Value} {vs : List Value} (h : w.ownsRow B e s v n vs) (hb : b < B) (v0 v1 v2 v3 v4 : Value) : (set5 w b v0 v1 v2 v3 v4).ownsRow B e s v n vs :=
  ownsRow_set (ownsRow_set (ownsRow_set (ownsRow_set (ownsRow_set h hb _ _) hb _ _) hb _ _) hb _ _) hb _ _
theorem fz_cells {w : World} {b : Nat} {cs : Array Value} {t : TypeId} (h : w.heap[b]? = some (.cells cs t (0, 0))) : w.frozen? ⟨b, 0, none⟩ = false ∧ w.frozen? ⟨b, 1, none⟩ = false ∧ w.frozen? ⟨b, 2, none⟩ = false ∧ w.frozen? ⟨b, 3, none⟩ = false ∧ w.frozen? ⟨b, 4, none⟩ = false :=
  ⟨heap_frozen h 0, heap_frozen h 1, heap_frozen h 2, heap_frozen h 3, heap_frozen h 4⟩
theorem pg_cells5 {w : World} {b : Nat} {v0 v1 v2 v3 v4 : Value} {t : TypeId} (h : w.heap[b]? = some (.cells #[v0, v1, v2, v3, v4] t (0, 0))) : w.cell? ⟨b, 0, none⟩ = some v0 ∧ w.cell? ⟨b, 1, none⟩ = some v1 ∧ w.cell? ⟨b, 2, none⟩ = some v2 ∧ w.cell? ⟨b, 3, none⟩ = some v3 ∧ w.cell? ⟨b, 4, none⟩ = some v4 :=
  ⟨heap_cell h 0, heap_cell h 1, heap_cell h 2, heap_cell h 3, heap_cell h 4⟩
set_option maxRecDepth 100000 in
set_option maxHeartbeats 4000000 in
theorem page_any (sb : Nat) (lo hi : ByteArray) (r : Int) (a : Option Addr) (n c : Nat) (w : World) (h : SetAt w sb lo hi r (.slice a n c)) :
    Calls Try.prog 89 #[.pointer (some ⟨sb, 0, none⟩)] w fun e w' => e = .returned (pgv lo hi r a n c none 0 0) ∧ Below w.heap.size w w' := by
  have b0 : Below w.heap.size w (w.alloc (.cells #[.string ⟨#[]⟩, .string ⟨#[]⟩, .int .i64 0, .slice none 0 0, .slice none 0 0] 53)) := (Below.refl _ _).alloc (Nat.le_refl _) _
  have h' := h.below b0 h.lt
  have c0 := h'.c0
  have c1 := h'.c1
  have c2 := h'.c2
  have c3 := h'.c3
  obtain ⟨y0, y1, y2, y3, y4⟩ := pg_cells5 (heap_new (w := w) rfl #[.string ⟨#[]⟩, .string ⟨#[]⟩, .int .i64 0, .slice none 0 0, .slice none 0 0] 53)
  obtain ⟨f0, f1, f2, f3, f4⟩ := fz_cells (heap_new (w := w) rfl #[.string ⟨#[]⟩, .string ⟨#[]⟩, .int .i64 0, .slice none 0 0, .slice none 0 0] 53)
  clear h h'
  go_enter Try.func89, Try.ntmps89
  go_wp2_with fail
  generalize w.alloc (.cells #[.string ⟨#[]⟩, .string ⟨#[]⟩, .int .i64 0, .slice none 0 0, .slice none 0 0] 53) = W0 at *
  go_region
  all_goals
    go_wp2_with fail
    have B5 := (set5_below b0 (Nat.le_refl _) (.string lo) (.string hi) (.int .i64 r) (.slice a n c) (.slice none 0 0)).drew
    refine bodyPost_ret (v := pgv lo hi r a n c none 0 0) (by simp [results, Try.results89, go_sem, *]) rfl ?_
    exact ⟨rfl, B5⟩
/-- Two blocks at a call's head: a page and room for an answer. -/
theorem two_new (w : World) (v0 v1 v2 v3 v4 : Value) : ∃ W, W = (w.alloc (.cells #[v0, v1, v2, v3, v4] 53)).alloc (.cells #[.string ⟨#[]⟩, .string ⟨#[]⟩, .int .i64 0, .slice none 0 0, .slice none 0 0] 53) ∧ W.heap[w.heap.size]? = some (.cells #[v0, v1, v2, v3, v4] 53 (0, 0)) ∧
    W.heap[w.heap.size + 1]? = some (.cells #[.string ⟨#[]⟩, .string ⟨#[]⟩, .int .i64 0, .slice none 0 0, .slice none 0 0] 53 (0, 0)) ∧ W.heap.size = w.heap.size + 1 + 1 ∧ Below w.heap.size w W := by
  have z1 : (w.alloc (.cells #[v0, v1, v2, v3, v4] 53)).heap.size = w.heap.size + 1 := by simp
  have b2 : Below (w.heap.size + 1) (w.alloc (.cells #[v0, v1, v2, v3, v4] 53)) ((w.alloc (.cells #[v0, v1, v2, v3, v4] 53)).alloc (.cells #[.string ⟨#[]⟩, .string ⟨#[]⟩, .int .i64 0, .slice none 0 0, .slice none 0 0] 53)) := (Below.refl _ _).alloc (by omega) _
  exact ⟨_, rfl, (b2.block w.heap.size (by omega)).trans (heap_new rfl _ _), heap_new z1 _ _, by simp, ((Below.refl _ _).alloc (Nat.le_refl _) _).alloc (by simp) _⟩
end Go.Proofs.Ytdajoapbdeplhaa

namespace Go.Proofs.Ytdajoapbdeplhaa
open Go.RowKit

theorem con_ok {lo hi : ByteArray} {r : Int} {es : List EntD} {ds : List DelD} (h : okPage lo hi r es ds = true) : conP lo hi r es ds = ⟨lo, highE hi ds, rightE r ds, entsE es ds, []⟩ ∧ conC lo hi r es ds = 0 := by unfold conP conC; rw [if_pos h, if_pos h]; exact ⟨rfl, rfl⟩
theorem con_bad {lo hi : ByteArray} {r : Int} {es : List EntD} {ds : List DelD} (h : okPage lo hi r es ds = false) : conP lo hi r es ds = ⟨ByteArray.empty, ByteArray.empty, 0, [], []⟩ ∧ conC lo hi r es ds = 1 := by unfold conP conC; rw [if_neg (by rw [h]; decide), if_neg (by rw [h]; decide)]; exact ⟨rfl, rfl⟩
theorem conRes_bad {lo hi : ByteArray} {r : Int} {es : List EntD} {ds : List DelD} {w w' : World} (h : okPage lo hi r es ds = false) (hb : Below w.heap.size w w') : ConRes lo hi r es ds w (.returned (.tuple #[pgv ByteArray.empty ByteArray.empty 0 none 0 0 none 0 0, .int .i64 1])) w' := by
  unfold ConRes
  rw [(con_bad h).1, (con_bad h).2]
  exact ⟨none, 0, 0, rfl, World.ownsRow_nil _ _ _ _, hb⟩
theorem conRes_ok {lo hi : ByteArray} {r : Int} {es : List EntD} {ds : List DelD} {w w' : World} {a : Option Addr} {n c : Nat} (h : okPage lo hi r es ds = true) (ho : EOwns w' w.heap.size (.slice a n c) (entsE es ds)) (hb : Below w.heap.size w w') : ConRes lo hi r es ds w (.returned (.tuple #[pgv lo (highE hi ds) (rightE r ds) a n c none 0 0, .int .i64 0])) w' := by
  unfold ConRes
  rw [(con_ok h).1, (con_ok h).2]
  exact ⟨a, n, c, rfl, ho, hb⟩
set_option maxRecDepth 100000 in
set_option maxHeartbeats 4000000 in
theorem implConsolidate_any (lo hi : ByteArray) (r : Int) (ab : Option Addr) (nb cb : Nat) (es : List EntD) (ac : Option Addr) (nc cc : Nat) (ds : List DelD) (w : World) (hE : ERow w ab nb es) (hD : DRow w ac nc ds) :
    Calls Try.prog 68 #[pgv lo hi r ab nb cb ac nc cc] w fun e w' => ConRes lo hi r es ds w e w' := by
  obtain ⟨W, hW, k1, k2, z, b0⟩ := two_new w (.string lo) (.string hi) (.int .i64 r) (.slice ab nb cb) (.slice ac nc cc)
  have RE := hide (hE.below b0)
  have RD := hide (hD.below b0)
  have K2 := hide k2
  clear hE hD k1 k2
  go_enter Try.func68, Try.ntmps68
  go_wp2_with fail
  rw [← hW]
  clear hW
  refine (settle_any lo hi r ab nb cb es ac nc cc ds W (unhide RE) (unhide RD)).mono ?_
  rintro e w1 ⟨v, b, rfl, ⟨hb, hs⟩, hb1⟩
  have K2' := hide ((hb1.block (w.heap.size + 1) (by omega)).trans (unhide K2))
  have B1 := b0.trans (hb1.mono b0.size)
  have z1 : w.heap.size + 1 + 1 ≤ w1.heap.size := by have := hb1.size; omega
  clear hb1 b0 RE RD K2
  cases b with
  | false =>
    have HOK := hide hb.symm
    clear hb hs
    obtain ⟨t0, t1, t2, t3, t4⟩ := pg_cells5 (unhide K2')
    obtain ⟨f0, f1, f2, f3, f4⟩ := fz_cells (unhide K2')
    go_wp2_with fail
    refine bodyPost_ret (v := .tuple #[pgv ByteArray.empty ByteArray.empty 0 none 0 0 none 0 0, .int .i64 1]) (by simp [results, Try.results68, go_sem, *] <;> rfl) rfl ?_
    exact conRes_bad (unhide HOK) (by first | exact set5_below B1 (Nat.le_succ _) _ _ _ _ _ | exact B1)
  | true =>
    obtain ⟨sb, a', n', c', rfl, hsb, hS⟩ := hs rfl
    have HOK := hide hb.symm
    have HS := hide hS
    clear hb hs hS
    go_wp2_with fail
    refine (page_any sb lo (highE hi ds) (rightE r ds) a' n' c' w1 (unhide HS).at_).mono ?_
    rintro e w2 ⟨rfl, hb2⟩
    have B2 := B1.trans (hb2.mono B1.size)
    have S2 := hide ((unhide HS).step hb2)
    obtain ⟨t0, t1, t2, t3, t4⟩ := pg_cells5 ((hb2.block (w.heap.size + 1) (by omega)).trans (unhide K2'))
    obtain ⟨f0, f1, f2, f3, f4⟩ := fz_cells ((hb2.block (w.heap.size + 1) (by omega)).trans (unhide K2'))
    clear hb2 K2' HS
    have HR := hide (fun w' (ho : EOwns w' w.heap.size (.slice a' n' c') (entsE es ds)) hb => conRes_ok (w := w) (unhide HOK) ho hb)
    have O2 := hide (unhide S2).own
    have hlt : w.heap.size + 1 < sb + 1 := by omega
    generalize highE hi ds = hi1 at *
    generalize rightE r ds = r1 at *
    go_wp2_with fail
    refine bodyPost_ret (v := .tuple #[pgv lo hi1 r1 a' n' c' none 0 0, .int .i64 0]) (by simp [results, Try.results68, go_sem, *]) rfl ?_
    exact unhide HR _ (ownsRow_base (set5_owns (unhide O2) hlt _ _ _ _ _) (by omega)) (set5_below B2 (Nat.le_succ _) _ _ _ _ _)
end Go.Proofs.Ytdajoapbdeplhaa

namespace Go.Proofs.Ytdajoapbdeplhaa
open Go.RowKit

/-- One entry appended to a row of the call's own, and where the new row lies. -/
theorem e_app {w : World} {B : Nat} {v : Value} {es : List EntD} {d : EntD} (ho : EOwns w B v es) (hz : es.length ≤ 1000000) (hB : B ≤ w.heap.size) :
    ∃ v' w', (Builtin.append_ #[39, 39] 39 #[v, .slice (some ⟨w.heap.size, 0, none⟩) 1 1]).run Try.prog (w.alloc (.cells #[.string d.k, .string d.v] 79)) = .ok v' w' ∧ EOwns w' B v' (es ++ [d]) ∧ (w.alloc (.cells #[.string d.k, .string d.v] 79)).grownBy w' v.ownBlock ∧ (v'.ownBlock = v.ownBlock ∨ ∃ g, v'.ownBlock = some g ∧ (w.alloc (.cells #[.string d.k, .string d.v] 79)).heap.size ≤ g) := by
  obtain ⟨i0, hi0, hz0, hz1, hz2⟩ := info_parts Try.infoEntry
  obtain ⟨W, hW⟩ : ∃ W, W = w.alloc (.cells #[.string d.k, .string d.v] 79) := ⟨_, rfl⟩
  have bA : Below w.heap.size w W := by rw [hW]; exact (Below.refl _ _).alloc (Nat.le_refl _) _
  have zW : W.heap.size = w.heap.size + 1 := by rw [hW]; simp
  have hcells : ∀ j u, (ecs [d])[j]? = some u → W.cell? ((⟨w.heap.size, 0, none⟩ : Addr).add j) = some u := fun j u hu => by
    have hj : j < 2 := by simpa [ecs] using (List.getElem?_eq_some_iff.1 hu).1
    have e2 : (⟨w.heap.size, 0, none⟩ : Addr).add j = ⟨w.heap.size, j, none⟩ := by unfold Addr.add; split <;> simp_all
    rw [e2, hW]
    refine rb_cell_new rfl ?_
    match j, hj with
    | 0, _ => simpa [ecs] using hu
    | 1, _ => simpa [ecs] using hu
  have hoa : EOwns W B v es := rb_ownsRow_below ho bA
  rw [← hW]
  obtain ⟨v', w', hrun, ho', hg, _, hl⟩ := app_at (P := Try.prog) (w := W) (B := B) 39 39 79 Try.underlying39 hi0 hz0 hz1 hz2 rfl (by decide) hoa ⟨w.heap.size, 0, none⟩ 1 1 (ecs [d]) (by simp [ecs]) hcells (ecs_one _) (by unfold maxLen; omega) (by omega) (by omega) (fun _ => by omega)
  refine ⟨v', w', hrun, ?_, hg, ?_⟩
  · unfold EOwns
    rw [ecs_append, List.length_append]
    exact ho'
  · rcases hl with h | h
    · exact .inl h
    · exact .inr ⟨_, h, Nat.le_refl _⟩
/-- A list of entries that grows beside what stood there. -/
structure BwIn (u0 wr : World) (B : Nat) (v0 v : Value) (xs : List EntD) : Prop where
  own : EOwns wr B v xs
  kept : u0.grownBy wr v0.ownBlock
  loc : v.ownBlock = v0.ownBlock ∨ ∃ g, v.ownBlock = some g ∧ u0.heap.size ≤ g
theorem BwIn.below {u0 wr u : World} {B : Nat} {v0 v : Value} {xs : List EntD} (h : BwIn u0 wr B v0 v xs) (hb : Below wr.heap.size wr u) : BwIn u0 u B v0 v xs :=
  ⟨rb_ownsRow_below h.own hb, rb_grown_trans h.kept (rb_grownBy_below hb), h.loc⟩
theorem BwIn.start {u0 : World} {B : Nat} {v : Value} {xs : List EntD} (h : EOwns u0 B v xs) : BwIn u0 u0 B v v xs := ⟨h, rb_grownBy_below (Below.refl _ _), .inl rfl⟩
theorem BwIn.app {u0 wr w' : World} {B : Nat} {v0 v v' : Value} {xs : List EntD} {d : EntD} (h : BwIn u0 wr B v0 v xs) (ho : EOwns w' B v' (xs ++ [d])) (hg : wr.grownBy w' v.ownBlock) (hl : v'.ownBlock = v.ownBlock ∨ ∃ g, v'.ownBlock = some g ∧ wr.heap.size ≤ g) : BwIn u0 w' B v0 v' (xs ++ [d]) := by
  refine ⟨ho, ⟨hg.os.trans h.kept.os, hg.tape.trans h.kept.tape, hg.output.trans h.kept.output, Nat.le_trans h.kept.size hg.size, fun k hk hne => ?_⟩, ?_⟩
  · refine (hg.block k (Nat.lt_of_lt_of_le hk h.kept.size) fun e => ?_).trans (h.kept.block k hk hne)
    rcases h.loc with hl | ⟨g, hl, hge⟩
    · exact hne (e.trans hl)
    · rw [hl] at e
      injection e with e
      omega
  · rcases hl with hl | ⟨g, hl, hge⟩
    · rw [hl]; exact h.loc
    · exact .inr ⟨g, hl, Nat.le_trans h.kept.size hge⟩
theorem erow_kept {u wr : World} {r : Option Nat} {a : Option Addr} {n : Nat} {es : List EntD} (h : ERow u a n es) (hg : u.grownBy wr r) (hne : ∀ ad, a = some ad → r ≠ some ad.block) : ERow wr a n es := by
  refine ⟨h.1, fun i hi => ?_⟩
  obtain ⟨b, off, e, c0, c1⟩ := h.2 i hi
  have hb : wr.heap[b]? = u.heap[b]? := hg.block b (cell_lt c0) (fun e2 => hne _ e e2.symm)
  exact ⟨b, off, e, (World.cell?_of_block (a := ⟨b, off + i * 2, none⟩) hb).trans c0, (World.cell?_of_block (a := ⟨b, off + i * 2 + 1, none⟩) hb).trans c1⟩
theorem filt_yes {l : List EntD} {f : EntD → Bool} {j : Nat} (h : j < l.length) (hf : f l[j] = true) : (l.take (j + 1)).filter f = (l.take j).filter f ++ [l[j]] := by
  rw [rb_take_snoc l j h, List.filter_append, List.filter_cons_of_pos hf, List.filter_nil]
theorem filt_no {l : List EntD} {f : EntD → Bool} {j : Nat} (h : j < l.length) (hf : f l[j] = false) : (l.take (j + 1)).filter f = (l.take j).filter f := by
  rw [rb_take_snoc l j h, List.filter_append, List.filter_cons_of_neg (by rw [hf]; decide), List.filter_nil, List.append_nil]
/-- How many pages stand from a page on. -/
def szId (ps : List (Option PageD)) (id : Int) : Nat := match getP ps id with
  | some p => cntGe ps p.lo
  | none => 0
theorem szId_next {ps : List (Option PageD)} {idx : List RefD} (g : GoodT ps idx) {id : Int} {p : PageD} (h : getP ps id = some p) : szId ps (riP p) < szId ps id := by
  unfold szId
  rw [h]
  have h1 := cntGe_here (getP_mem h)
  rcases next_of g.ok g.go h with ⟨hr, _⟩ | ⟨hlt, p2, hg2, e2⟩
  · rw [hr, getP_neg (by omega)]
    simp only
    omega
  · rw [hg2]
    simp only
    have := cntGe_next (getP_mem h) hlt
    rw [e2]
    omega
theorem eowns_slice {w : World} {B : Nat} {v : Value} {es : List EntD} (h : EOwns w B v es) : ∃ a c, v = .slice a es.length c ∧ (a = none → c = 0) := by
  rcases h.2 with ⟨e, h0⟩ | ⟨g, cap, cur, e, _⟩
  · exact ⟨none, 0, by rw [e, h0], fun _ => rfl⟩
  · exact ⟨_, _, e, fun h => by cases h⟩
set_option maxRecDepth 100000 in
set_option maxHeartbeats 8000000 in
theorem between_any (mb : Nat) (qs : List (Option (Nat × PpH))) (idx : List RefD) (ap : Option Addr) (cp : Nat) (ai : Option Addr) (ci : Nat) (fr tu : ByteArray) (w : World) (hM : MtAt w mb qs idx ap cp ai ci) (hG : GoodT (qsP qs) idx) :
    Calls Try.prog 41 #[.pointer (some ⟨mb, 0, none⟩), .string fr, .string tu] w fun e w' => ∃ v, e = .returned v ∧ EOwns w' w.heap.size v (rangeE (qsP qs) fr tu) ∧ Below w.heap.size w w' := by
  have M := hide hM
  have G := hide hG
  have HD := hide (down_any mb qs idx ap cp ai ci fr w hM hG)
  obtain ⟨p0, hg0, _⟩ := hG.down fr
  have S0 := hide (ScSt.start (f := fun e => inK fr tu e.k) hg0)
  have RA := hide (show (scanF (qsP qs) 40 (downT (qsP qs) idx fr).1).filter (fun e => inK fr tu e.k) = rangeE (qsP qs) fr tu from (scan_from hG fr tu).symm)
  rw [unhide RA] at S0
  clear hM hG hg0 RA
  generalize rangeE (qsP qs) fr tu = ALL at *
  generalize downT (qsP qs) idx fr = DN at *
  have F := hide (show ∃ f : EntD → Bool, f = fun e => inK fr tu e.k from ⟨_, rfl⟩)
  go_enter Try.func41, Try.ntmps41
  go_wp2_with fail
  refine (unhide HD).mono ?_
  rintro e w1 ⟨rfl, hb1⟩
  clear HD
  go_wp2_with fail
  go_loopw [7, 8] (fun lv iv wr => ∃ (id : Int) (c : Nat) (acc : List EntD) (a : Option Addr) (n k : Nat), lv = .slice a n k ∧ iv = .int .i64 id ∧ Hid (EOwns wr w.heap.size (.slice a n k) acc) ∧ Hid (ScSt (qsP qs) (fun e => inK fr tu e.k) ALL acc id c) ∧ Below w.heap.size w wr) (fun _ iv _ => szId (qsP qs) (intOf iv))
  case atStart => exact ⟨DN.1, 0, [], none, 0, 0, rfl, rfl, World.ownsRow_nil _ _ _ _, S0, hb1⟩
  case round =>
    clear hb1 S0
    obtain ⟨id, c, acc, aL, nL, kL, rfl, rfl, hO, hS, hb⟩ := hrel
    by_cases hid : id = -1
    · have E := hide (show EOwns wr w.heap.size (.slice aL nL kL) ALL by
        have h := unhide hS
        rw [hid] at h
        rw [h.done]
        exact unhide hO)
      subst hid
      clear hS hO
      go_wp2_with fail
      go_ret
      exact ⟨_, rfl, unhide E, hb⟩
    have hib : (id != -1) = true := by simpa using hid
    obtain ⟨p, hg⟩ := (unhide hS).pos hid
    obtain ⟨q, hidk, _, pb, x, hqk, hX⟩ := tb_at hg
    subst hidk
    have hmem : some (pb, x) ∈ qs := List.mem_of_getElem? hqk
    have MW := (unhide M).below hb
    obtain ⟨PB, hE, hD⟩ := MW.pgs pb x hmem
    have hokp : okP x.X = true := by rw [hX]; exact (unhide G).ok _ (getP_mem hg)
    have c0 := (heap_at MW.box 0).1
    obtain ⟨b, off, hap, hc⟩ := MW.row.at (j := q) (u := .pointer (some ⟨pb, 0, none⟩)) (by rw [List.getElem?_map, hqk]; rfl)
    subst hap
    have hkl : q < qs.length := (List.getElem?_eq_some_iff.1 hqk).1
    have q0 := (heap_at PB 0).1
    have q1 := (heap_at PB 1).1
    have q2 := (heap_at PB 2).1
    have q3 := (heap_at PB 3).1
    have q4 := (heap_at PB 4).1
    have HC := hide (implConsolidate_any x.X.lo x.X.hi x.X.r x.s0.a x.s0.n x.s0.c x.X.es x.s1.a x.s1.n x.s1.c x.X.ds wr hE hD)
    unfold ConRes at HC
    rw [(con_ok hokp).1, (con_ok hokp).2] at HC
    unfold pgv at HC
    rw [← hX] at hg
    have NX := hide ((unhide hS).next (unhide G) hg)
    have MS := hide (szId_next (unhide G) hg)
    have ROOM := hide (unhide hS).room
    have PL := hide (enP_len hokp)
    clear hS hg hE hD PB hqk hmem hX MW hokp
    obtain ⟨X, ⟨a0, n0, k0⟩, ⟨a1, n1, k1⟩⟩ := x
    simp only at q0 q1 q2 q3 q4 HC
    change Hid (ScSt _ _ _ (acc ++ (entsE X.es X.ds).filter _) (rightE X.r X.ds) _ ∧ _) at NX
    change Hid (szId _ (rightE X.r X.ds) < _) at MS
    change Hid ((entsE X.es X.ds).length ≤ 32) at PL
    generalize entsE X.es X.ds = ES at *
    generalize rightE X.r X.ds = R at *
    generalize highE X.hi X.ds = HH at *
    go_wp2_with fail
    refine (unhide HC).mono ?_
    rintro e w2 ⟨aE, nE, kE, rfl, hOE, hb2⟩
    have OL := hide (rb_ownsRow_below (unhide hO) hb2)
    have LB := hide (unhide hO)
    have BB := hb.trans (hb2.mono hb.size)
    clear HC q0 q1 q2 q3 q4 c0 hc hO
    obtain rfl : nE = ES.length := by
      obtain ⟨aE2, kE2, hvE, _⟩ := eowns_slice hOE
      injection hvE
    have bx := (Below.refl w2.heap.size w2).alloc (Nat.le_refl _) (.cells #[.string X.lo, .string HH, .int .i64 R, .slice aE ES.length kE, .slice none 0 0] 53)
    have U0 := hide (show BwIn (w2.alloc (.cells #[.string X.lo, .string HH, .int .i64 R, .slice aE ES.length kE, .slice none 0 0] 53)) (w2.alloc (.cells #[.string X.lo, .string HH, .int .i64 R, .slice aE ES.length kE, .slice none 0 0] 53)) w.heap.size (.slice aL nL kL) (.slice aL nL kL) (acc ++ (ES.take 0).filter (fun e => inK fr tu e.k)) by
      rw [List.take_zero, List.filter_nil, List.append_nil]
      exact BwIn.start (rb_ownsRow_below (unhide OL) bx))
    have ER := hide (erow_of_owns (rb_ownsRow_below hOE bx))
    have PX := hide (heap_alloc_new w2 (.cells #[.string X.lo, .string HH, .int .i64 R, .slice aE ES.length kE, .slice none 0 0] 53))
    have APE := hide (show ∀ ad, aE = some ad → (Value.slice aL nL kL).ownBlock ≠ some ad.block from fun ad e h => by
      have h1 := ((unhide LB).lt _ h).2
      have h2 := (hOE.lt ad.block (by rw [e]; rfl)).1
      omega)
    have APX := hide (show (Value.slice aL nL kL).ownBlock ≠ some w2.heap.size from fun h => by
      have h1 := ((unhide OL).lt _ h).2
      omega)
    have LG := hide (show ∀ g, (Value.slice aL nL kL).ownBlock = some g → w.heap.size ≤ g from fun g h => ((unhide LB).lt g h).1)
    have BU := hide (BB.trans (bx.mono BB.size))
    have hES : ES.length ≤ 32 := unhide PL
    clear hOE OL LB hb2 BB bx
    go_wp2_with fail
    generalize w2.alloc (.cells #[.string X.lo, .string HH, .int .i64 R, .slice aE ES.length kE, .slice none 0 0] 53) = W at *
    generalize w2.heap.size = xb at *
    generalize hEL : ES.length = EL at *
    have HEL := hide hEL
    clear hEL
    go_loopw [7, 38] (fun lv iv wr => ∃ (j : Nat) (a : Option Addr) (n k : Nat), j ≤ EL ∧ lv = .slice a n k ∧ iv = .int .i64 (j : Int) ∧ Hid (BwIn W wr w.heap.size (.slice aL nL kL) (.slice a n k) (acc ++ (ES.take j).filter (fun e => inK fr tu e.k)))) (fun _ iv _ => EL - (intOf iv).toNat)
    case atStart => exact ⟨0, aL, nL, kL, Nat.zero_le _, rfl, rfl, U0⟩
    case round =>
      obtain ⟨j, aJ, nJ, kJ, hj, rfl, rfl, hI⟩ := hrel
      by_cases hlt : j < EL
      case neg =>
        obtain rfl : j = EL := by omega
        have hI2 := unhide hI
        rw [List.take_of_length_le (by rw [unhide HEL]; exact Nat.le_refl _)] at hI2
        have K := hide hI2.own
        have KB := hide (show Below w.heap.size w wr by
          first
          | exact (unhide BU).trans (Wr.below (P := fun i => (Value.slice aL nL kL).ownBlock = some i) (Wr.of_grown hI2.kept (fun i hi => hi)) (fun i hi => unhide LG i hi) (unhide BU).size)
          | skip)
        have xc := (World.cell?_of_block (a := ⟨xb, 2, none⟩) (hI2.kept.block xb (Array.getElem?_eq_some_iff.1 (unhide PX)).1 (fun e => unhide APX e.symm))).trans (heap_at (unhide PX) 2).1
        clear hI hI2 U0 ER PX APE APX LG
        go_wp2_with fail
        go_roundw
        case rel => exact ⟨R, c + 1, _, aJ, nJ, kJ, rfl, rfl, K, (unhide NX).1, unhide KB⟩
        case measure => simp only [intOf]; exact unhide MS
      have hjE : j < ES.length := by rw [unhide HEL]; exact hlt
      obtain ⟨bE, oE, haE, d0, d1⟩ := (erow_kept (unhide ER) (unhide hI).kept (unhide APE)).2 j hjE
      subst haE
      have HW := hide (fun u => within_any ES[j].k fr tu u)
      have FY := hide (fun h => filt_yes (f := fun e => inK fr tu e.k) hjE h)
      have FN := hide (fun h => filt_no (f := fun e => inK fr tu e.k) hjE h)
      generalize hej : ES[j] = ej at *
      obtain ⟨ek, ev⟩ := ej
      simp only at d0 d1 HW FY FN
      have bx := (Below.refl wr.heap.size wr).alloc (Nat.le_refl _) (.cells #[.string ek, .string ev] 79)
      have I1 := hide ((unhide hI).below bx)
      have hB1 : w.heap.size ≤ wr.heap.size := Nat.le_trans (unhide BU).size (unhide hI).kept.size
      cases hin : inK fr tu ek with
      | false =>
        rw [hin] at HW
        have I2 := hide (show BwIn W (wr.alloc (.cells #[.string ek, .string ev] 79)) w.heap.size (.slice aL nL kL) (.slice aJ nJ kJ) (acc ++ (ES.take (j + 1)).filter (fun e => inK fr tu e.k)) by
          rw [unhide FN hin]
          exact unhide I1)
        clear hI I1 bx hej
        go_wp2_with fail
        refine (unhide HW _).mono ?_
        rintro e w3 ⟨rfl, hw3⟩
        subst w3
        go_wp2_with fail
        go_roundw
        case rel => exact ⟨j + 1, aJ, nJ, kJ, by omega, rfl, by go_num, I2⟩
        case measure => simp [intOf]; omega
      | true =>
        rw [hin] at HW
        have b1 : (wr.alloc (.cells #[.string ek, .string ev] 79)).cell? ⟨wr.heap.size, 0, none⟩ = some (.string ek) := by simp
        have b2 : (wr.alloc (.cells #[.string ek, .string ev] 79)).cell? ⟨wr.heap.size, 1, none⟩ = some (.string ev) := by simp
        have hacc : (acc ++ (ES.take j).filter (fun e : EntD => inK fr tu e.k)).length ≤ 1000000 := by
          have h1 := List.length_filter_le (fun e : EntD => inK fr tu e.k) (ES.take j)
          have h2 := unhide ROOM
          rw [List.length_append]
          rw [List.length_take] at h1
          omega
        have hB2 := Nat.le_trans hB1 bx.size
        obtain ⟨v2, w4, hr, ho, hgr, hlo⟩ := e_app (d := ⟨ek, ev⟩) (unhide I1).own hacc hB2
        have bx2 := (Below.refl (wr.alloc (.cells #[.string ek, .string ev] 79)).heap.size (wr.alloc (.cells #[.string ek, .string ev] 79))).alloc (Nat.le_refl _) (.cells #[.string ek, .string ev] 79)
        have I3 := hide (show BwIn W w4 w.heap.size (.slice aL nL kL) v2 (acc ++ (ES.take (j + 1)).filter (fun e => inK fr tu e.k)) by
          rw [unhide FY hin, ← List.append_assoc]
          exact ((unhide I1).below bx2).app ho hgr hlo)
        simp only at hr
        obtain ⟨aV, cV, hV, _⟩ := eowns_slice ho
        generalize (acc ++ (ES.take j).filter (fun e : EntD => inK fr tu e.k) ++ [(⟨ek, ev⟩ : EntD)]).length = nV at *
        subst hV
        clear hI I1 bx bx2 hej ho hgr hlo hacc
        go_wp2_with fail
        refine (unhide HW _).mono ?_
        rintro e w3 ⟨rfl, hw3⟩
        subst w3
        clear HW d0 d1
        generalize wr.alloc (.cells #[.string ek, .string ev] 79) = W5 at *
        generalize wr.heap.size = eb at *
        go_wp2_with (at_builtin; refine wpAppE rfl _ _ 39 rfl _ _ (.slice aV nV cV) w4 rfl rfl hr ?_)
        go_roundw
        case rel => exact ⟨j + 1, aV, nV, cV, by omega, rfl, by go_num, I3⟩
        case measure => simp [intOf]; omega
end Go.Proofs.Ytdajoapbdeplhaa

namespace Go.Proofs.Ytdajoapbdeplhaa
open Go.RowKit

theorem here_some {hs : List PpH} {gs : List Bool} {idx : List RefD} {id : Int} {p : PageD} (h : getP (trd hs gs idx).here id = some p) : ∃ (k : Nat) (h1 : k < hs.length), id = (k : Int) ∧ hs[k].X = p := by
  obtain ⟨k, rfl, hk⟩ := getP_at h
  obtain ⟨hl, e⟩ := List.getElem?_eq_some_iff.1 hk
  have h1 : k < hs.length := by simp [trd, TreD.here] at hl; omega
  have h2 : k < gs.length := by simp [trd, TreD.here] at hl; omega
  refine ⟨k, h1, rfl, ?_⟩
  have := here_get (idx := idx) h1 h2
  rw [h] at this
  split at this
  · cases this
  · injection this with this; exact this.symm
set_option maxRecDepth 100000 in
set_option maxHeartbeats 4000000 in
theorem l05Place_any (ai : Option Addr) (ni ci : Nat) (idx : List RefD) (key : ByteArray) (w : World) (hR : JRow w ai ni idx) (hr : RiseR idx) (hz : ∃ h : 0 < idx.length, idx[0].low = ⟨#[]⟩ ∧ idx[0].id = 0) (hn : ni ≤ 1000) :
    Calls Try.prog 62 #[.slice ai ni ci, .string key] w fun e w' => e = .returned (.int .i64 ((plR idx key : Nat) : Int)) ∧ w' = w := by
  have R := hide hR
  have L := hR.1
  have RS := hide hr
  have Z := hide hz
  have h00 : 0 < idx.length := hz.1
  have h0 : 0 < ni := by omega
  have S0 := hide (show ltK key (idx[0]'h00).low = false by rw [hz.2.1]; exact ltK_none _)
  clear hR hr hz
  go_enter Try.func62, Try.ntmps62
  go_wp2_with fail
  go_loopw [5] (fun x wr => ∃ (k : Nat) (hk : k < idx.length), x = .int .i64 (k : Int) ∧ Hid (ltK key idx[k].low = false) ∧ Hid (wr = w)) (fun x _ => ni - (intOf x).toNat)
  case atStart => exact ⟨0, by omega, rfl, S0, by first | exact hide rfl | exact hide trivial⟩
  case round =>
    obtain ⟨k, hk, rfl, hl, hww⟩ := hrel
    have hww := unhide hww
    subst wr
    by_cases hlt : k + 1 < ni
    · have hk1 : k + 1 < idx.length := by omega
      obtain ⟨b, off, hai, d0, d1⟩ := (unhide R).2 (k + 1) hk1
      subst hai
      have UP := hide (fun (h : ltK key idx[k + 1].low = true) => (pl_uni (unhide RS) (unhide Z) hk (unhide hl) (fun i hi hgt => by
        by_cases e : i = k + 1
        · subst e; exact h
        · have := Rise.lt (es := idx.map refE) (unhide RS) (i := k + 1) (j := i) (by simpa using hi) (by omega)
          simp only [List.getElem_map, refE] at this
          exact ltK_trans h this)))
      have TU := bl_turn idx[k + 1].low.toList key.toList
      cases hc : ltK key idx[k + 1].low with
      | true =>
        have E := hide (unhide UP hc)
        have hc2 : Op.bytesLess key.toList idx[k + 1].low.toList = true := hc
        rw [hc2] at TU
        have hA : Op.bytesLess idx[k + 1].low.toList key.toList = false := by
          cases h : Op.bytesLess idx[k + 1].low.toList key.toList with
          | false => rfl
          | true => rw [h] at TU; cases TU
        have hB : (idx[k + 1].low.toList == key.toList) = false := by
          cases h : (idx[k + 1].low.toList == key.toList) with
          | false => rfl
          | true => rw [h, hA] at TU; cases TU
        clear UP hl TU hc hc2
        generalize idx[k + 1] = rf at *
        obtain ⟨low, id⟩ := rf
        simp only at d0 d1 hA hB
        go_wp2_with fail
        go_ret
        exact ⟨ret_int (by rw [← unhide E]), rfl⟩
      | false =>
        have HC := hide hc
        have hc2 : Op.bytesLess key.toList idx[k + 1].low.toList = false := hc
        rw [hc2] at TU
        clear UP hl hc hc2
        cases hA : Op.bytesLess idx[k + 1].low.toList key.toList with
        | true =>
          clear TU
          generalize hrf : idx[k + 1] = rf at *
          rw [← hrf] at HC
          clear hrf
          obtain ⟨low, id⟩ := rf
          simp only at d0 d1 hA
          go_wp2_with fail
          go_roundw
          case rel => exact ⟨k + 1, hk1, by go_num, HC, by first | exact hide rfl | exact hide trivial⟩
          case measure => simp [intOf]; omega
        | false =>
          have hB : (idx[k + 1].low.toList == key.toList) = true := by
            cases h : (idx[k + 1].low.toList == key.toList) with
            | true => rfl
            | false => rw [h, hA] at TU; cases TU
          clear TU
          generalize hrf : idx[k + 1] = rf at *
          rw [← hrf] at HC
          clear hrf
          obtain ⟨low, id⟩ := rf
          simp only at d0 d1 hA hB
          go_wp2_with fail
          go_roundw
          case rel => exact ⟨k + 1, hk1, by go_num, HC, by first | exact hide rfl | exact hide trivial⟩
          case measure => simp [intOf]; omega
    · have E := hide (pl_uni (unhide RS) (unhide Z) hk (unhide hl) (fun i hi hgt => by omega))
      go_wp2_with fail
      go_ret
      exact ⟨ret_int (by rw [← unhide E]), rfl⟩
set_option maxRecDepth 100000 in
set_option maxHeartbeats 4000000 in
theorem l05Down_any (ap : Option Addr) (np cp : Nat) (ag : Option Addr) (ng cg : Nat) (ai : Option Addr) (ni ci : Nat) (hs : List PpH) (gs : List Bool) (idx : List RefD) (key : ByteArray) (w : World) (hT : TrIn w ap np cp ag ng cg ai ni hs gs idx) (hG : GoodT (trd hs gs idx).here idx) (hc : ∀ h ∈ hs, h.s1.n ≤ 100000) :
    Calls Try.prog 34 #[.agg #[.slice ap np cp, .slice ag ng cg, .slice ai ni ci], .string key] w fun e w' => e = .returned (.tuple #[.int .i64 (downT (trd hs gs idx).here idx key).1, .int .i64 (((downT (trd hs gs idx).here idx key).2 : Nat) : Int)]) ∧ Below w.heap.size w w' := by
  have b0 : ∀ o, Below w.heap.size w (w.alloc o) := fun o => (Below.refl _ _).alloc (Nat.le_refl _) _
  have lp := hT.plen
  have li := hT.ix.1
  have BW := hide (b0 (.cells #[.slice ap np cp, .slice ag ng cg, .slice ai ni ci] 32))
  have T := hide (hT.below (unhide BW))
  have BT := hide (show ∀ u, Below (w.alloc (.cells #[.slice ap np cp, .slice ag ng cg, .slice ai ni ci] 32)).heap.size (w.alloc (.cells #[.slice ap np cp, .slice ag ng cg, .slice ai ni ci] 32)) u → Below w.heap.size w u from fun u hu => (unhide BW).trans (hu.mono (unhide BW).size))
  have t0 : (w.alloc (.cells #[.slice ap np cp, .slice ag ng cg, .slice ai ni ci] 32)).cell? ⟨w.heap.size, 0, none⟩ = some (.slice ap np cp) := by simp
  have t2 : (w.alloc (.cells #[.slice ap np cp, .slice ag ng cg, .slice ai ni ci] 32)).cell? ⟨w.heap.size, 2, none⟩ = some (.slice ai ni ci) := by simp
  have G := hide hG
  have il : ni ≤ 30 := by have := hG.il; have := hG.len.2; omega
  obtain ⟨hp, _⟩ := pl_facts (k := key) (GoodT.rise hG.ix) hG.zero
  have S0 := hide (DnSt.start (key := key) hG hp)
  have CH := hide hc
  clear hT BW hG hc
  obtain ⟨D, hD⟩ : ∃ D, D = downT (trd hs gs idx).here idx key := ⟨_, rfl⟩
  rw [← hD] at S0 ⊢
  clear hD
  go_enter Try.func34, Try.ntmps34
  go_wp2_with fail
  generalize w.alloc (.cells #[.slice ap np cp, .slice ag ng cg, .slice ai ni ci] 32) = W at *
  have HP := hide (fun n => l05Place_any ai ni ci idx key (W.drewN n) ((unhide T).ix.below (bel_drewN (Below.refl _ _) n)) (GoodT.rise (unhide G).ix) (unhide G).zero (by omega))
  obtain ⟨b, off, hai, d0, d1⟩ := (unhide T).ix.2 (plR idx key) hp
  subst hai
  have hpn : plR idx key < ni := by omega
  generalize hpl : plR idx key = P at *
  clear hpl
  generalize idx[P] = rf at *
  obtain ⟨low0, id0⟩ := rf
  simp only at d0 d1 S0
  go_quiet ((go_at_call 62; exact Calls.quiet_of_same (unhide HP _)))
  have BQ := hide (fun n => bel_drewN (Below.refl W.heap.size W) n)
  clear d0 d1 HP
  go_wp2_with fail
  go_loopw [6, 7] (fun x y wr => ∃ (id : Int) (h : Nat), x = .int .i64 id ∧ y = .int .i64 (h : Int) ∧ Hid (DnSt (trd hs gs idx).here key D id h) ∧ Below W.heap.size W wr) (fun _ y _ => 100 - (intOf y).toNat)
  case atStart => exact ⟨id0, 0, rfl, rfl, S0, unhide BQ _⟩
  case round =>
    obtain ⟨id, h, rfl, rfl, S, hb⟩ := hrel
    have s0 := (hb.cell (p := ⟨w.heap.size, 0, none⟩) (cell_lt t0)).trans t0
    have bR := hide (unhide BT _ hb)
    obtain ⟨p, hg, _, _⟩ := (unhide S).here
    obtain ⟨q, hq1, rfl, hX⟩ := here_some hg
    have hfew := (unhide S).few (unhide G).len.2
    rw [← hX] at hg
    have STOP := hide (fun hu => (unhide S).stop (unhide G).len.2 hg hu)
    have NEXT := hide (fun hu => (unhide S).next (unhide G) hg hu)
    obtain ⟨b, off, hap, hbl, d0, d1, d2, d3, d4⟩ := PpIn.cells ((unhide T).below hb).pgs hq1
    subst hap
    have hqn : q < np := by omega
    have HB := hide (l04Bounds_any hs[q].X.lo hs[q].X.hi hs[q].X.r (.slice hs[q].s0.a hs[q].s0.n hs[q].s0.c) hs[q].s1.a hs[q].s1.n hs[q].s1.c hs[q].X.ds wr (drow_C (PpIn.sub ((unhide T).below hb).pgs hq1).2) (unhide CH _ (List.getElem_mem hq1)))
    clear S hg hX
    generalize hs[q] = pd at *
    obtain ⟨X, ⟨a0, n0, c0⟩, ⟨a1, n1, c1⟩⟩ := pd
    simp only at d0 d1 d2 d3 d4 HB STOP NEXT
    change Hid (underK key (highE X.hi X.ds) = true → _) at STOP
    change Hid (underK key (highE X.hi X.ds) = false → DnSt _ _ _ (rightE X.r X.ds) _) at NEXT
    generalize highE X.hi X.ds = H at *
    generalize rightE X.r X.ds = R at *
    go_wp2_with fail
    refine (unhide HB).mono ?_
    rintro e w2 ⟨rfl, hb2⟩
    have bA := hb.trans (hb2.mono hb.size)
    clear HB d0 d1 d2 d3 d4 s0 hb hb2
    have HU := hide (l04Under_any key H w2)
    cases hu : underK key H with
    | true =>
      have E := hide (unhide STOP hu)
      rw [hu] at HU
      go_wp2_with fail
      refine (unhide HU).mono ?_
      rintro e w3 ⟨rfl, hw3⟩
      subst w3
      go_wp2_with fail
      go_ret2
      exact ⟨by rw [unhide E]; rfl, unhide BT _ bA⟩
    | false =>
      have NX := hide (unhide NEXT hu)
      rw [hu] at HU
      go_wp2_with fail
      refine (unhide HU).mono ?_
      rintro e w3 ⟨rfl, hw3⟩
      subst w3
      go_wp2_with fail
      go_roundw
      case rel => exact ⟨_, h + 1, rfl, by go_num, NX, bA⟩
      case measure => simp [intOf]; omega
/-- What TreeGet answers of a right tree. -/
def getR (ps : List (Option PageD)) (idx : List RefD) (key : ByteArray) : Value := match getP ps (downT ps idx key).1 with
  | some p => match lookE (entsE p.es p.ds) key with
    | some v => .tuple #[.string v, .int .i64 (((downT ps idx key).2 : Nat) : Int), .int .i64 0]
    | none => .tuple #[.string ⟨#[]⟩, .int .i64 (((downT ps idx key).2 : Nat) : Int), .int .i64 5]
  | none => .tuple #[.string ⟨#[]⟩, .int .i64 0, .int .i64 1]
/-- What TreeGet answers. -/
def getA (t : TreD) (key : ByteArray) : Value :=
  if 65536 < key.size then .tuple #[.string ⟨#[]⟩, .int .i64 0, .int .i64 2]
  else if okT t = true ∧ keyK key = true then getR t.here t.idx key
  else .tuple #[.string ⟨#[]⟩, .int .i64 0, .int .i64 1]
theorem getA_tup (t : TreD) (key : ByteArray) : ∃ v n c, getA t key = .tuple #[.string v, .int .i64 n, .int .i64 c] := by
  unfold getA getR
  repeat' split
  all_goals exact ⟨_, _, _, rfl⟩
theorem findV_down {p : PageD} {key : ByteArray} (h1 : ltK key p.lo = false) (h2 : underK key (hiP p) = true) : findV p.lo p.hi p.r p.es p.ds key = lookV (lookE (entsE p.es p.ds) key) := by
  unfold findV
  rw [if_neg (by rw [h1]; decide), if_neg (by rw [h2]; decide)]
theorem lookV_get {ps : List (Option PageD)} {idx : List RefD} {key : ByteArray} {p : PageD} (h : DownTo ps idx key p) : ∃ v c r, lookV (lookE (entsE p.es p.ds) key) = .tuple #[.string v, r, .int .i64 c] ∧ .tuple #[.string v, .int .i64 (((downT ps idx key).2 : Nat) : Int), .int .i64 c] = getR ps idx key := by
  unfold getR
  rw [h.1]
  simp only
  cases lookE (entsE p.es p.ds) key with
  | some v => exact ⟨_, _, _, rfl, rfl⟩
  | none => exact ⟨_, _, _, rfl, rfl⟩
theorem rowC_few {p : PageD} {g : Bool} (h : pgOK p g = true) : p.es.length ≤ 100 ∧ p.ds.length ≤ 100 := by
  rw [pgOK_parts, Bool.and_eq_true] at h
  have := ok_len h.1
  omega
theorem okT_few {hs : List PpH} {gs : List Bool} {idx : List RefD} (h : okT (trd hs gs idx) = true) {w : World} {v : Value} {n : Nat} (hp : PpIn w v n hs) : ∀ x ∈ hs, x.s0.n ≤ 100 ∧ x.s1.n ≤ 100 := fun x hx => by
  obtain ⟨i, hi, e⟩ := List.getElem_of_mem hx
  have hsub := PpIn.sub hp hi
  rw [e] at hsub
  rw [rowC_len hsub.1, rowC_len hsub.2]
  have hg : i < gs.length := by
    unfold okT at h
    simp only [Bool.and_eq_true] at h
    have := of_decide_eq_true h.1.1.1.1
    simp [trd] at this
    omega
  cases hk : pgOK hs[i].X gs[i] with
  | true => rw [e] at hk; exact rowC_few hk
  | false => rw [okT_page hi hg hk] at h; cases h
set_option maxRecDepth 100000 in
set_option maxHeartbeats 4000000 in
theorem specTreeGet_any (ap : Option Addr) (np cp : Nat) (ag : Option Addr) (ng cg : Nat) (ai : Option Addr) (ni ci : Nat) (hs : List PpH) (gs : List Bool) (idx : List RefD) (key : ByteArray) (w : World) (hT : TrIn w ap np cp ag ng cg ai ni hs gs idx) (hcb : ∀ h ∈ hs, h.s0.a = none → h.s0.c = 0) :
    Calls Try.prog 11 #[.agg #[.slice ap np cp, .slice ag ng cg, .slice ai ni ci], .string key] w fun e w' => e = .returned (getA (trd hs gs idx) key) ∧ Below w.heap.size w w' := by
  have b0 : ∀ o, Below w.heap.size w (w.alloc o) := fun o => (Below.refl _ _).alloc (Nat.le_refl _) _
  have BW := hide (b0 (.cells #[.slice ap np cp, .slice ag ng cg, .slice ai ni ci] 32))
  have T := hide (hT.below (unhide BW))
  have BT := hide (show ∀ u, Below (w.alloc (.cells #[.slice ap np cp, .slice ag ng cg, .slice ai ni ci] 32)).heap.size (w.alloc (.cells #[.slice ap np cp, .slice ag ng cg, .slice ai ni ci] 32)) u → Below w.heap.size w u from fun u hu => (unhide BW).trans (hu.mono (unhide BW).size))
  have t0 : (w.alloc (.cells #[.slice ap np cp, .slice ag ng cg, .slice ai ni ci] 32)).cell? ⟨w.heap.size, 0, none⟩ = some (.slice ap np cp) := by simp
  have t1 : (w.alloc (.cells #[.slice ap np cp, .slice ag ng cg, .slice ai ni ci] 32)).cell? ⟨w.heap.size, 1, none⟩ = some (.slice ag ng cg) := by simp
  have t2 : (w.alloc (.cells #[.slice ap np cp, .slice ag ng cg, .slice ai ni ci] 32)).cell? ⟨w.heap.size, 2, none⟩ = some (.slice ai ni ci) := by simp
  have lp := hT.plen
  by_cases hk : 65536 < key.size
  · have E := hide (show Value.tuple #[.string ⟨#[]⟩, .int .i64 0, .int .i64 2] = getA (trd hs gs idx) key by unfold getA; rw [if_pos hk])
    clear hT t0 t1 t2
    go_enter Try.func11, Try.ntmps11
    go_wp2_with fail
    go_ret3
    exact ⟨congrArg Ending.returned (unhide E), b0 _⟩
  have GA := hide (show getA (trd hs gs idx) key = if okT (trd hs gs idx) = true ∧ keyK key = true then getR (trd hs gs idx).here idx key else .tuple #[.string ⟨#[]⟩, .int .i64 0, .int .i64 1] by unfold getA; rw [if_neg hk]; rfl)
  have CB := hide hcb
  clear hT BW hcb
  go_enter Try.func11, Try.ntmps11
  go_wp2_with fail
  generalize w.alloc (.cells #[.slice ap np cp, .slice ag ng cg, .slice ai ni ci] 32) = W at *
  have HO := hide (specTreeOK_any ap np cp ag ng cg ai ni ci hs gs idx W (unhide T) (unhide CB))
  have KE := hide (fun u => l04Key_any key u)
  cases hok : okT (trd hs gs idx) with
  | false =>
    have E := hide (show Value.tuple #[.string ⟨#[]⟩, .int .i64 0, .int .i64 1] = getA (trd hs gs idx) key by rw [unhide GA, hok, if_neg (fun h => by cases h.1)])
    rw [hok] at HO
    refine (unhide HO).mono ?_
    rintro e w2 ⟨rfl, hb⟩
    go_wp2_with fail
    go_ret3
    exact ⟨congrArg Ending.returned (unhide E), unhide BT _ hb⟩
  | true =>
    rw [hok] at HO
    refine (unhide HO).mono ?_
    rintro e w2 ⟨rfl, hb⟩
    cases hky : keyK key with
    | false =>
      have E := hide (show Value.tuple #[.string ⟨#[]⟩, .int .i64 0, .int .i64 1] = getA (trd hs gs idx) key by rw [unhide GA, hky, if_neg (fun h => by cases h.2)])
      rw [hky] at KE
      go_wp2_with fail
      refine (unhide KE _).mono ?_
      rintro e w3 ⟨rfl, hw3⟩
      subst w3
      go_wp2_with fail
      go_ret3
      exact ⟨congrArg Ending.returned (unhide E), unhide BT _ hb⟩
    | true =>
      have G := hide (show GoodT (trd hs gs idx).here idx from good_of hok)
      have FEW := hide (okT_few hok (unhide T).pgs)
      have HD := hide (l05Down_any ap np cp ag ng cg ai ni ci hs gs idx key w2 ((unhide T).below hb) (unhide G) (fun x hx => by have := (unhide FEW x hx).2; omega))
      obtain ⟨p, hdn⟩ := (unhide G).down key
      obtain ⟨q, hq1, hqe, hX⟩ := here_some hdn.1
      have hf30 := hdn.2.2.2
      obtain ⟨v, c, r, hv1, hv2⟩ := lookV_get hdn
      have E := hide (show Value.tuple #[.string v, .int .i64 (((downT (trd hs gs idx).here idx key).2 : Nat) : Int), .int .i64 c] = getA (trd hs gs idx) key by rw [unhide GA, if_pos ⟨hok, hky⟩]; exact hv2)
      rw [hky] at KE
      have HF := hide (fun (u : World) (hu : Below W.heap.size W u) => l04Find_any hs[q].X.lo hs[q].X.hi hs[q].X.r hs[q].s0.a hs[q].s0.n hs[q].s0.c hs[q].X.es hs[q].s1.a hs[q].s1.n hs[q].s1.c hs[q].X.ds key u (erow_C (PpIn.sub ((unhide T).below hu).pgs hq1).1) (drow_C (PpIn.sub ((unhide T).below hu).pgs hq1).2) (unhide FEW _ (List.getElem_mem hq1)).1 (unhide FEW _ (List.getElem_mem hq1)).2 (unhide CB _ (List.getElem_mem hq1)))
      have HX := hide (show findV hs[q].X.lo hs[q].X.hi hs[q].X.r hs[q].X.es hs[q].X.ds key = .tuple #[.string v, r, .int .i64 c] by
        rw [hX, findV_down hdn.2.1 hdn.2.2.1, hv1])
      rw [unhide HX] at HF
      rw [hqe] at HD
      have hqn : q < np := by omega
      clear hdn hv1 hv2 hX HX GA FEW G hqe
      generalize (downT (trd hs gs idx).here idx key).2 = hops at *
      have s0 := (hb.cell (p := ⟨w.heap.size, 0, none⟩) (cell_lt t0)).trans t0
      have s1 := (hb.cell (p := ⟨w.heap.size, 1, none⟩) (cell_lt t1)).trans t1
      have s2 := (hb.cell (p := ⟨w.heap.size, 2, none⟩) (cell_lt t2)).trans t2
      go_wp2_with fail
      refine (unhide KE _).mono ?_
      rintro e w3 ⟨rfl, hw3⟩
      subst w3
      go_wp2_with fail
      refine (unhide HD).mono ?_
      rintro e w4 ⟨rfl, hb4⟩
      have bA := hb.trans (hb4.mono hb.size)
      clear s0 s1 s2 HD hb4 HO hb
      have s0 := (bA.cell (p := ⟨w.heap.size, 0, none⟩) (cell_lt t0)).trans t0
      have HF4 := hide (unhide HF w4 bA)
      obtain ⟨b, off, hap, hbl, d0, d1, d2, d3, d4⟩ := PpIn.cells ((unhide T).below bA).pgs hq1
      subst hap
      clear HF
      generalize hs[q] = pd at *
      obtain ⟨X, ⟨a0, n0, c0⟩, ⟨a1, n1, c1⟩⟩ := pd
      unfold pgv at HF4
      simp only at d0 d1 d2 d3 d4 HF4
      go_wp2_with fail
      refine (unhide HF4).mono ?_
      rintro e w5 ⟨rfl, hb5⟩
      have bB := unhide BT _ (bA.trans (hb5.mono bA.size))
      clear d0 d1 d2 d3 d4 HF4 s0 hb5 bA
      go_wp2_with fail
      go_ret3
      exact ⟨congrArg Ending.returned (unhide E), bB⟩
end Go.Proofs.Ytdajoapbdeplhaa

namespace Go.Proofs.Ytdajoapbdeplhaa
open Go.RowKit

end Go.Proofs.Ytdajoapbdeplhaa

namespace Go.Proofs.Ytdajoapbdeplhaa
open Go.RowKit

theorem nil_lit {w : World} (e s : Nat) : (w.alloc (.cells #[] e)).ownsRow w.heap.size e s (.slice (some ⟨w.heap.size, 0, none⟩) 0 0) 0 [] := by
  have := World.ownsRow_lit (base := w.heap.size) (e := e) (size := s) w #[] 0 (Nat.le_refl _) (by unfold maxLen; simp) (by simp)
  simpa using this
end Go.Proofs.Ytdajoapbdeplhaa
