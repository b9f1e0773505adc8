/-
  spec.PageOK, spec.Bounds.
-/
import Derived.Test.YtkggpapmhopaeaaPageP
import Derived.Deep.DeepCutAuto
import Derived.Deep.RegionWith
namespace Go.Proofs.Ytkggpapmhopaeaa
open Go.RowKit

theorem heap_cell2 {w : World} {b : Nat} {cs : Array Value} {t : TypeId} (h : w.heap[b]? = some (.cells cs t (0, 0))) (j : Nat) : w.cell? ⟨b, j, none⟩ = cs[j]? := by simp [World.cell?, h]
theorem okE_cases {lo hi : ByteArray} {es : List EntD} {j : Nat} (hj : j < es.length) (h : okAtE lo hi es j = false) : keyK es[j].k = false ∨ (keyK es[j].k = true ∧ 100 < es[j].v.size) ∨ (keyK es[j].k = true ∧ es[j].v.size ≤ 100 ∧ Op.bytesLess es[j].k.toList lo.toList = true) ∨
    (keyK es[j].k = true ∧ es[j].v.size ≤ 100 ∧ Op.bytesLess es[j].k.toList lo.toList = false ∧ underK es[j].k hi = false) ∨ (keyK es[j].k = true ∧ es[j].v.size ≤ 100 ∧ Op.bytesLess es[j].k.toList lo.toList = false ∧ underK es[j].k hi = true ∧ 0 < j ∧ ∀ h : j - 1 < es.length, Op.bytesLess (es[j - 1]'h).k.toList es[j].k.toList = false) := by
  rw [← follows_at hj] at h
  have hL : lastOK (es.take j) es[j] = (j == 0 || match es[j - 1]? with | some p => ltK p.k es[j].k | none => false) := by
    have := follows_at (lo := lo) (hi := hi) hj
    unfold lastOK
    cases j with
    | zero => simp
    | succ j =>
      rw [takeG_snoc es j (by omega), List.getLast?_append]
      simp [List.getElem?_eq_getElem (show j < es.length by omega)]
  unfold okEnt inK valK ltK at h
  cases h1 : keyK es[j].k with
  | false => exact .inl rfl
  | true =>
    refine .inr ?_
    by_cases h2 : es[j].v.size ≤ 100
    · refine .inr ?_
      cases h3 : Op.bytesLess es[j].k.toList lo.toList with
      | true => exact .inl ⟨rfl, h2, rfl⟩
      | false =>
        refine .inr ?_
        cases h4 : underK es[j].k hi with
        | false => exact .inl ⟨rfl, h2, rfl, rfl⟩
        | true =>
          refine .inr ⟨rfl, h2, rfl, rfl, ?_⟩
          unfold underK ltK at h4
          rw [h1, h3, h4, decide_eq_true h2, hL] at h
          simp only [Bool.not_false, Bool.and_true, Bool.true_and, Bool.or_eq_false_iff, beq_eq_false_iff_ne] at h
          refine ⟨by omega, fun hh => ?_⟩
          have := h.2
          rw [List.getElem?_eq_getElem hh] at this
          exact this
    · exact .inl ⟨rfl, by omega⟩
theorem okE_good {lo hi : ByteArray} {es : List EntD} {j : Nat} (hj : j < es.length) (h : okAtE lo hi es j = true) : keyK es[j].k = true ∧ es[j].v.size ≤ 100 ∧ Op.bytesLess es[j].k.toList lo.toList = false ∧ underK es[j].k hi = true ∧ (∀ (h0 : 0 < j), Op.bytesLess (es[j - 1]'(by omega)).k.toList es[j].k.toList = true) := by
  have h' := h
  unfold okAtE at h
  rw [List.getElem?_eq_getElem hj] at h
  simp only [Bool.and_eq_true] at h
  have h1 := h.1
  unfold okEnt inK valK ltK at h1
  simp only [Bool.and_eq_true, Bool.not_eq_true', decide_eq_true_eq] at h1
  refine ⟨h1.1.1, h1.1.2, h1.2.1, ?_, fun h0 => ?_⟩
  · unfold underK ltK
    exact h1.2.2
  · have h2 := h.2
    rw [List.getElem?_eq_getElem (show j - 1 < es.length by omega)] at h2
    simp only [Bool.or_eq_true, beq_iff_eq] at h2
    rcases h2 with h2 | h2
    · omega
    · exact h2
theorem three_dec {a b n m : Nat} (h1 : a ≤ 40) (h2 : b ≤ 40) (h : ¬ n ≤ 32) : (decide ((40 : Int) < (a : Int)) || decide ((40 : Int) < (b : Int)) || decide ((32 : Int) < (n : Int))) = (decide (32 < n) || decide (12 < m)) := by
  rw [decide_eq_false (show ¬ ((40 : Int) < (a : Int)) by omega), decide_eq_false (show ¬ ((40 : Int) < (b : Int)) by omega), decide_eq_true (show (32 : Int) < (n : Int) by omega), decide_eq_true (show 32 < n by omega)]
  simp
theorem one_dec {n m : Nat} (h : ¬ n ≤ 32) : true = (decide (32 < n) || decide (12 < m)) := by
  rw [decide_eq_true (show 32 < n by omega)]
  simp
theorem four_dec {a b n m : Nat} (h1 : a ≤ 40) (h2 : b ≤ 40) : (decide ((40 : Int) < (a : Int)) || decide ((40 : Int) < (b : Int)) || decide ((32 : Int) < (n : Int)) || decide ((12 : Int) < (m : Int))) = (decide (32 < n) || decide (12 < m)) := by
  rw [decide_eq_false (show ¬ ((40 : Int) < (a : Int)) by omega), decide_eq_false (show ¬ ((40 : Int) < (b : Int)) by omega), show decide ((32 : Int) < (n : Int)) = decide (32 < n) from decide_eq_decide.2 (by omega), show decide ((12 : Int) < (m : Int)) = decide (12 < m) from decide_eq_decide.2 (by omega)]
  simp
set_option maxRecDepth 100000 in
set_option maxHeartbeats 16000000 in
theorem specPageOK_any (lo hi : ByteArray) (r : Int) (ab : Option Addr) (nb cb : Nat) (es : List EntD) (ac : Option Addr) (nc cc : Nat) (ds : List DelD) (w : World) (hE : ERow w ab nb es) (hD : DRow w ac nc ds) (hcb : ab = none → cb = 0) :
    Calls Try.prog 10 #[pgv lo hi r ab nb cb ac nc cc] w fun e w' => e = .returned (.bool (okPage lo hi r es ds)) ∧ Below w.heap.size w w' := by
  have LE := hide hE.1
  have LD := hide hD.1
  have RE := hide hE
  have RD := hide hD
  clear hE hD
  by_cases hB : okBounds lo hi r = true
  · have HB := hide hB
    have b0 : Below w.heap.size w (w.alloc (.cells #[.string lo, .string hi, .int .i64 r, .slice ab nb cb, .slice ac nc cc] 31)) := (Below.refl _ _).alloc (Nat.le_refl _) _
    have k0 := hide (heap_alloc_new w (.cells #[.string lo, .string hi, .int .i64 r, .slice ab nb cb, .slice ac nc cc] 31))
    go_enter Try.func10, Try.ntmps10
    go_upto_region 1 with fail
    go_cut [55] (fun c wc => ∃ b, c = .bool b ∧ Hid (b = (decide (32 < nb) || decide (12 < nc))) ∧ wc = w.alloc (.cells #[.string lo, .string hi, .int .i64 r, .slice ab nb cb, .slice ac nc cc] 31))
    case first =>
      obtain ⟨h1, h2, h3⟩ := bounds_good hB
      have hq : inB r = true := by unfold inB; rw [decide_eq_true (by omega), decide_eq_true (by omega)]; rfl
      clear hB
      rcases h3 with ⟨h3, h4⟩ | ⟨h3, h4, h5, h6⟩
      · have hd : decide (r < 0) = true := decide_eq_true (by omega)
        have h4' : r < 0 := by omega
        clear h4
        by_cases g1 : nb ≤ 32
        · go_wp2_with (go_at_call 33; refine (l01In_r r _).mono ?_; rintro e w1 ⟨rfl, rfl⟩)
          all_goals go_meet
          all_goals exact ⟨_, rfl, by first | exact four_dec h1 h2 | exact three_dec h1 h2 g1 | exact one_dec g1 | trace_state, rfl⟩
        · go_wp2_with (go_at_call 33; refine (l01In_r r _).mono ?_; rintro e w1 ⟨rfl, rfl⟩)
          all_goals go_meet
          all_goals exact ⟨_, rfl, by first | exact four_dec h1 h2 | exact three_dec h1 h2 g1 | exact one_dec g1 | trace_state, rfl⟩
      · have hd : decide (r < 0) = false := decide_eq_false (by omega)
        by_cases g1 : nb ≤ 32
        · go_wp2_with (go_at_call 33; refine (l01In_r r _).mono ?_; rintro e w1 ⟨rfl, rfl⟩)
          all_goals go_meet
          all_goals exact ⟨_, rfl, by first | exact four_dec h1 h2 | exact three_dec h1 h2 g1 | exact one_dec g1 | trace_state, rfl⟩
        · go_wp2_with (go_at_call 33; refine (l01In_r r _).mono ?_; rintro e w1 ⟨rfl, rfl⟩)
          all_goals go_meet
          all_goals exact ⟨_, rfl, by first | exact four_dec h1 h2 | exact three_dec h1 h2 g1 | exact one_dec g1 | trace_state, rfl⟩
    case rest =>
      obtain ⟨b, rfl, hb, rfl⟩ := hcut
      clear hB
      cases b with
      | true =>
        have OF := hide (show okPage lo hi r es ds = false by
          have := unhide hb
          by_cases h4 : nb ≤ 32
          · refine ok_ds ?_
            rw [unhide LD]
            rw [decide_eq_false (show ¬ 32 < nb by omega)] at this
            simp at this
            omega
          · exact ok_es (by rw [unhide LE]; exact h4))
        go_wp2_with fail
        go_ret
        exact ⟨ret_bool (unhide OF).symm, b0⟩
      | false =>
        have h45 : nb ≤ 32 ∧ nc ≤ 12 := by have := unhide hb; simp at this; omega
        obtain ⟨h4, h5⟩ := h45
        clear hb
        have B0 := hide b0
        have z0 : (w.alloc (.cells #[.string lo, .string hi, .int .i64 r, .slice ab nb cb, .slice ac nc cc] 31)).heap.size = w.heap.size + 1 := by simp
        clear b0
        go_wp2_with fail
        generalize w.alloc (.cells #[.string lo, .string hi, .int .i64 r, .slice ab nb cb, .slice ac nc cc] 31) = W0 at *
        go_loopw [3] (fun i wr => ∃ (j : Nat), i = .int .i64 (j : Int) ∧ j ≤ nb ∧ Hid (∀ i, i < j → okAtE lo hi es i = true) ∧ Hid (Below (w.heap.size + 1) W0 wr)) (fun i _ => nb - (intOf i).toNat)
        case atStart => exact ⟨0, rfl, Nat.zero_le _, fun i h => absurd h (Nat.not_lt_zero _), Below.refl _ _⟩
        case round =>
          obtain ⟨j, rfl, hj, hK, hB⟩ := hrel
          have kr := hide (((unhide hB).block w.heap.size (by omega)).trans (unhide k0))
          have BW := hide ((unhide B0).trans ((unhide hB).mono (by omega)))
          have p0 : wr.cell? ⟨w.heap.size, 0, none⟩ = some (.string lo) := heap_cell2 (unhide kr) 0
          have p1 : wr.cell? ⟨w.heap.size, 1, none⟩ = some (.string hi) := heap_cell2 (unhide kr) 1
          have p3 : wr.cell? ⟨w.heap.size, 3, none⟩ = some (.slice ab nb cb) := heap_cell2 (unhide kr) 3
          have hsr : w.heap.size + 1 ≤ wr.heap.size := by have := (unhide hB).size; omega
          by_cases hlt : j < nb
          · have hje : j < es.length := by have := unhide LE; omega
            obtain ⟨b, off, rfl, c0, c1⟩ := ((unhide RE).below (unhide BW)).2 j hje
            have bA : Below wr.heap.size wr (wr.alloc (.cells #[.string es[j].k, .string es[j].v] 58)) := (Below.refl _ _).alloc (Nat.le_refl _) _
            have BA := hide ((unhide BW).trans (bA.mono (unhide BW).size))
            have BX := hide ((unhide hB).trans (bA.mono hsr))
            have q0 := (bA.cell (p := ⟨w.heap.size, 0, none⟩) (by show w.heap.size < _; omega)).trans p0
            have q1 := (bA.cell (p := ⟨w.heap.size, 1, none⟩) (by show w.heap.size < _; omega)).trans p1
            have q3 := (bA.cell (p := ⟨w.heap.size, 3, none⟩) (by show w.heap.size < _; omega)).trans p3
            by_cases hok : okAtE lo hi es j = true
            · obtain ⟨f1, f2, f3, f4, f5⟩ := okE_good hje hok
              have HOK := hide hok
              have F5 := hide f5
              clear hok f5
              by_cases hj0 : 0 < j
              · have hjp : j - 1 < es.length := by omega
                have f6 := unhide F5 hj0
                obtain ⟨b', off', he, x0, x1⟩ := (((unhide RE).below (unhide BW)).below bA).2 (j - 1) hjp
                injection he with he
                injection he with he1 he2
                subst he1 he2
                have hi1 : ((j : Int) - 1).toNat = j - 1 := by omega
                have hd1 : decide (0 < j) = true := decide_eq_true hj0
                have hd2 : decide ((0 : Int) < (j : Int)) = true := decide_eq_true (by omega)
                have hi2 : (0 : Int) ≤ (j : Int) - 1 := by omega
                have hi3 : (j : Int) - 1 < (nb : Int) := by omega
                clear bA F5
                generalize es[j - 1] = ep at *
                generalize es[j] = em at *
                first | (have fv : decide ((100 : Int) < (em.v.size : Int)) = false := decide_eq_false (by omega)) | (have fv : decide ((100 : Int) < (em.v.size : Int)) = true := decide_eq_true (by omega)) | skip
                go_wp2_with fail
                go_quiet ((first | (go_at_call 34; exact Calls.quiet_of_same (l04Key_any _ _)) | (go_at_call 35; exact Calls.quiet_of_same (l04Under_any _ _ _))))
                go_wp2_with fail
                go_roundw
                case rel => exact ⟨j + 1, by go_num, by omega, fun i hi' => by
                  rcases Nat.lt_or_ge i j with h | h
                  · exact unhide hK i h
                  · obtain rfl : i = j := by omega
                    exact unhide HOK, bel_drewN (unhide BX) _⟩
                case measure => simp [intOf]; omega
              · clear F5 bA
                have hd1 : decide (0 < j) = false := decide_eq_false hj0
                have hd2 : decide ((0 : Int) < (j : Int)) = false := decide_eq_false (by omega)
                generalize es[j] = em at *
                first | (have fv : decide ((100 : Int) < (em.v.size : Int)) = false := decide_eq_false (by omega)) | (have fv : decide ((100 : Int) < (em.v.size : Int)) = true := decide_eq_true (by omega)) | skip
                go_wp2_with fail
                go_quiet ((first | (go_at_call 34; exact Calls.quiet_of_same (l04Key_any _ _)) | (go_at_call 35; exact Calls.quiet_of_same (l04Under_any _ _ _))))
                go_wp2_with fail
                go_roundw
                case rel => exact ⟨j + 1, by go_num, by omega, fun i hi' => by
                  rcases Nat.lt_or_ge i j with h | h
                  · exact unhide hK i h
                  · obtain rfl : i = j := by omega
                    exact unhide HOK, bel_drewN (unhide BX) _⟩
                case measure => simp [intOf]; omega
            · have hok : okAtE lo hi es j = false := by simpa using hok
              have OF := hide (ok_base (r := r) (ds := ds) hje hok)
              rcases okE_cases hje hok with f1 | ⟨f1, f2⟩ | ⟨f1, f2, f3⟩ | ⟨f1, f2, f3, f4⟩ | ⟨f1, f2, f3, f4, hj0, f5⟩
              · clear hok bA
                generalize es[j] = em at *
                first | (have fv : decide ((100 : Int) < (em.v.size : Int)) = false := decide_eq_false (by omega)) | (have fv : decide ((100 : Int) < (em.v.size : Int)) = true := decide_eq_true (by omega)) | skip
                go_wp2_with fail
                go_quiet ((first | (go_at_call 34; exact Calls.quiet_of_same (l04Key_any _ _)) | (go_at_call 35; exact Calls.quiet_of_same (l04Under_any _ _ _))))
                go_wp2_with fail
                go_ret
                exact ⟨ret_bool (unhide OF).symm, bel_drewN (unhide BA) _⟩
              · clear hok bA
                generalize es[j] = em at *
                first | (have fv : decide ((100 : Int) < (em.v.size : Int)) = false := decide_eq_false (by omega)) | (have fv : decide ((100 : Int) < (em.v.size : Int)) = true := decide_eq_true (by omega)) | skip
                go_wp2_with fail
                go_quiet ((first | (go_at_call 34; exact Calls.quiet_of_same (l04Key_any _ _)) | (go_at_call 35; exact Calls.quiet_of_same (l04Under_any _ _ _))))
                go_wp2_with fail
                go_ret
                exact ⟨ret_bool (unhide OF).symm, bel_drewN (unhide BA) _⟩
              · clear hok bA
                generalize es[j] = em at *
                first | (have fv : decide ((100 : Int) < (em.v.size : Int)) = false := decide_eq_false (by omega)) | (have fv : decide ((100 : Int) < (em.v.size : Int)) = true := decide_eq_true (by omega)) | skip
                go_wp2_with fail
                go_quiet ((first | (go_at_call 34; exact Calls.quiet_of_same (l04Key_any _ _)) | (go_at_call 35; exact Calls.quiet_of_same (l04Under_any _ _ _))))
                go_wp2_with fail
                go_ret
                exact ⟨ret_bool (unhide OF).symm, bel_drewN (unhide BA) _⟩
              · clear hok bA
                generalize es[j] = em at *
                first | (have fv : decide ((100 : Int) < (em.v.size : Int)) = false := decide_eq_false (by omega)) | (have fv : decide ((100 : Int) < (em.v.size : Int)) = true := decide_eq_true (by omega)) | skip
                go_wp2_with fail
                go_quiet ((first | (go_at_call 34; exact Calls.quiet_of_same (l04Key_any _ _)) | (go_at_call 35; exact Calls.quiet_of_same (l04Under_any _ _ _))))
                go_wp2_with fail
                go_ret
                exact ⟨ret_bool (unhide OF).symm, bel_drewN (unhide BA) _⟩
              · have hjp : j - 1 < es.length := by omega
                have f6 := f5 hjp
                clear f5 hok
                obtain ⟨b', off', he, x0, x1⟩ := (((unhide RE).below (unhide BW)).below bA).2 (j - 1) hjp
                injection he with he
                injection he with he1 he2
                subst he1 he2
                have hi1 : ((j : Int) - 1).toNat = j - 1 := by omega
                have hd1 : decide (0 < j) = true := decide_eq_true hj0
                have hd2 : decide ((0 : Int) < (j : Int)) = true := decide_eq_true (by omega)
                have hi2 : (0 : Int) ≤ (j : Int) - 1 := by omega
                have hi3 : (j : Int) - 1 < (nb : Int) := by omega
                clear bA
                generalize es[j - 1] = ep at *
                generalize es[j] = em at *
                first | (have fv : decide ((100 : Int) < (em.v.size : Int)) = false := decide_eq_false (by omega)) | (have fv : decide ((100 : Int) < (em.v.size : Int)) = true := decide_eq_true (by omega)) | skip
                go_wp2_with fail
                go_quiet ((first | (go_at_call 34; exact Calls.quiet_of_same (l04Key_any _ _)) | (go_at_call 35; exact Calls.quiet_of_same (l04Under_any _ _ _))))
                go_wp2_with fail
                go_ret
                exact ⟨ret_bool (unhide OF).symm, bel_drewN (unhide BA) _⟩
          · obtain rfl : j = nb := by omega
            have K1 := hide (show ∀ i, i < es.length → okAtE lo hi es i = true from fun i hi' => unhide hK i (by rw [← unhide LE]; exact hi'))
            go_wp2_with fail
            clear hK p0 p1 p3
            have P0 := hide kr
            have HH0 := hide (show highE hi (ds.take 0) = hi by rfl)
            obtain ⟨wv, hwv⟩ : ∃ wv : World, wv = wr := ⟨_, rfl⟩
            rw [← hwv] at kr hB BW hsr ⊢
            clear hwv P0
            go_loopw [5, 6] (fun h i wz => ∃ (q : Nat), i = .int .i64 (q : Int) ∧ h = .string (highE hi (ds.take q)) ∧ q ≤ nc ∧ Hid (∀ i, i < q → okAtD lo hi ds i = true) ∧ Hid (Below (w.heap.size + 1) W0 wz)) (fun _ i _ => nc - (intOf i).toNat)
            case atStart => exact ⟨0, rfl, rfl, Nat.zero_le _, fun i h => absurd h (Nat.not_lt_zero _), unhide hB⟩
            case round =>
              clear hB BW hsr kr
              obtain ⟨q, rfl, rfl, hq, hK, hB⟩ := hrel
              have kr := hide (((unhide hB).block w.heap.size (by omega)).trans (unhide k0))
              have BW := hide ((unhide B0).trans ((unhide hB).mono (by omega)))
              have hsr : w.heap.size + 1 ≤ wr.heap.size := by have := (unhide hB).size; omega
              by_cases hlt : q < nc
              · have hqe : q < ds.length := by have := unhide LD; omega
                have p0 : wr.cell? ⟨w.heap.size, 0, none⟩ = some (.string lo) := heap_cell2 (unhide kr) 0
                have p4 : wr.cell? ⟨w.heap.size, 4, none⟩ = some (.slice ac nc cc) := heap_cell2 (unhide kr) 4
                obtain ⟨b, off, rfl, c0, c1, c2, c3⟩ := ((unhide RD).below (unhide BW)).2 q hqe
                have OA := hide (okAtD_at (lo := lo) (hi := hi) hqe)
                have HH := hide ((congrArg (highE hi) (takeG_snoc ds q hqe)).trans (highE_snoc hi (ds.take q) ds[q]))
                have OF := hide (fun (h : okAtD lo hi ds q = false) => ok_chain (r := r) (es := es) hqe h)
                have RD2 := hide ((unhide RD).below (unhide BW))
                have DC := hide (show ∀ w', Below wr.heap.size wr w' → w'.cell? ⟨b, off + q * 4, none⟩ = some (.int .i64 ds[q].kind) ∧ w'.cell? ⟨b, off + q * 4 + 1, none⟩ = some (.string ds[q].k) from fun w' hw' => ⟨(hw'.cell (p := ⟨b, off + q * 4, none⟩) (cell_lt c0)).trans c0, (hw'.cell (p := ⟨b, off + q * 4 + 1, none⟩) (cell_lt c1)).trans c1⟩)
                generalize ds[q] = d at *
                generalize highE hi (ds.take q) = h1 at *
                go_wp2_with fail
                go_region_with (go_at_call 36; refine (l04Delta_any d lo h1 _).mono ?_; rintro e w3 ⟨rfl, hb3⟩)
                all_goals
                  replace hb3 : Below wr.heap.size wr w3 := by first | exact hb3 | exact bel_of_drew hb3 | exact bel_of_drewN hb3
                  obtain ⟨x0, x1⟩ := unhide DC w3 hb3
                  have y4 := (hb3.cell (p := ⟨w.heap.size, 4, none⟩) (by show w.heap.size < _; omega)).trans p4
                  have B3 := hide ((unhide hB).trans (hb3.mono hsr))
                  have BW3 := hide ((unhide BW).trans (hb3.mono (unhide BW).size))
                  clear hb3 p0 p4 c0 c1 c2 c3
                  by_cases hok : okDel lo h1 d = true
                  · rw [hok]
                    have HOK := hide ((unhide OA).trans hok)
                    by_cases hk : d.kind = 3
                    · have hk' : (d.kind == 3) = true := by simp [hk]
                      have HK := hide hk
                      clear hk
                      go_wp2_with fail
                      go_roundw
                      case rel => exact ⟨q + 1, by go_num, by rw [unhide HH, if_pos (unhide HK)], by omega, fun i hi' => by
                        rcases Nat.lt_or_ge i q with h | h
                        · exact unhide hK i h
                        · obtain rfl : i = q := by omega
                          exact unhide HOK, unhide B3⟩
                      case measure => simp [intOf]; omega
                    · have hk' : (d.kind == 3) = false := by simp [hk]
                      have HK := hide hk
                      clear hk
                      go_wp2_with fail
                      go_roundw
                      case rel => exact ⟨q + 1, by go_num, by rw [unhide HH, if_neg (unhide HK)], by omega, fun i hi' => by
                        rcases Nat.lt_or_ge i q with h | h
                        · exact unhide hK i h
                        · obtain rfl : i = q := by omega
                          exact unhide HOK, unhide B3⟩
                      case measure => simp [intOf]; omega
                  · have hok : okDel lo h1 d = false := by simpa using hok
                    rw [hok]
                    have OF2 := hide (unhide OF ((unhide OA).trans hok))
                    go_wp2_with fail
                    go_ret
                    exact ⟨ret_bool (unhide OF2).symm, unhide BW3⟩
              · obtain rfl : q = nc := by omega
                have K2 := hide (show ∀ i, i < ds.length → okAtD lo hi ds i = true from fun i hi' => unhide hK i (by rw [← unhide LD]; exact hi'))
                have p0 : wr.cell? ⟨w.heap.size, 0, none⟩ = some (.string lo) := heap_cell2 (unhide kr) 0
                have p1 : wr.cell? ⟨w.heap.size, 1, none⟩ = some (.string hi) := heap_cell2 (unhide kr) 1
                have p2 : wr.cell? ⟨w.heap.size, 2, none⟩ = some (.int .i64 r) := heap_cell2 (unhide kr) 2
                have p3 : wr.cell? ⟨w.heap.size, 3, none⟩ = some (.slice ab j cb) := heap_cell2 (unhide kr) 3
                have p4 : wr.cell? ⟨w.heap.size, 4, none⟩ = some (.slice ac q cc) := heap_cell2 (unhide kr) 4
                have OO := hide (ok_all (unhide HB) (by rw [unhide LE]; exact h4) (by rw [unhide LD]; exact h5) (unhide K1) (unhide K2))
                go_wp2_with fail
                refine (l04Entries_any lo hi r ab j cb es ac q cc ds wr ((unhide RE).below (unhide BW)) ((unhide RD).below (unhide BW)) (by omega) (by omega) hcb).mono ?_
                rintro x w5 ⟨g5, cap5, rfl, _, hb5⟩
                have BW5 := hide ((unhide BW).trans (hb5.mono (unhide BW).size))
                clear hb5
                go_wp2_with fail
                go_ret
                exact ⟨ret_bool (by rw [unhide OO]; exact decide_eq_decide.2 (by omega)), unhide BW5⟩
  · have hB : okBounds lo hi r = false := by simpa using hB
    rw [ok_bounds hB]
    exact specPageOK_bounds lo hi r _ _ w hB
end Go.Proofs.Ytkggpapmhopaeaa
