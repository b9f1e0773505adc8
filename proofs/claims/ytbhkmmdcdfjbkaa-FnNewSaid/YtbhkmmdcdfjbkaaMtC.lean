/-
  A mapping table: the walk of indexed.
-/
import Derived.Test.YtbhkmmdcdfjbkaaMtB
import Derived.BigQuiet
namespace Go.Proofs.Ytbhkmmdcdfjbkaa
open Go.RowKit

/-- The first Ref is of page 0. -/
def zeroIdx (idx : List RefD) : Bool := match idx[0]? with
  | some x => decide (x.id = 0)
  | none => false
theorem okRef_here {ps : List (Option PageD)} {idx : List RefD} {i : Nat} (hi : i < idx.length) {p : PageD} (hp : getP ps idx[i].id = some p) (hl : p.lo = idx[i].low) (h0 : ∀ h : 0 < i, ltK (idx[i - 1]'(by omega)).low idx[i].low = true) : okRef ps idx i = true := by
  unfold okRef
  rw [List.getElem?_eq_getElem hi]
  simp only [hp, decide_eq_true hl, Bool.true_and]
  cases i with
  | zero => rfl
  | succ j =>
    have := h0 (by omega)
    rw [Nat.add_sub_cancel, List.getElem?_eq_getElem (by omega)]
    simp only [Nat.add_sub_cancel] at this
    simp only [this, Bool.or_true]
theorem okRef_none {ps : List (Option PageD)} {idx : List RefD} {i : Nat} (hi : i < idx.length) (hp : getP ps idx[i].id = none) : okRef ps idx i = false := by
  unfold okRef
  rw [List.getElem?_eq_getElem hi]
  simp only [hp, Bool.false_and]
theorem okRef_other {ps : List (Option PageD)} {idx : List RefD} {i : Nat} (hi : i < idx.length) {p : PageD} (hp : getP ps idx[i].id = some p) (hl : p.lo ≠ idx[i].low) : okRef ps idx i = false := by
  unfold okRef
  rw [List.getElem?_eq_getElem hi]
  simp only [hp, decide_eq_false hl, Bool.false_and]
theorem okRef_turn {ps : List (Option PageD)} {idx : List RefD} {i : Nat} (hi : i < idx.length) (h0 : 0 < i) (h : ltK (idx[i - 1]'(by omega)).low idx[i].low = false) : okRef ps idx i = false := by
  unfold okRef
  rw [List.getElem?_eq_getElem hi]
  cases i with
  | zero => omega
  | succ j =>
    rw [Nat.add_sub_cancel, List.getElem?_eq_getElem (by omega)]
    simp only [Nat.add_sub_cancel] at h
    simp [h]
theorem okIdx_true {ps : List (Option PageD)} {idx : List RefD} (h : ∀ i, i < idx.length → okRef ps idx i = true) : okIdx ps idx = true := List.all_eq_true.2 fun i hi => h i (List.mem_range.1 hi)
theorem okIdx_false {ps : List (Option PageD)} {idx : List RefD} {i : Nat} (hi : i < idx.length) (h : okRef ps idx i = false) : okIdx ps idx = false := List.all_eq_false.2 ⟨i, List.mem_range.2 hi, by rw [h]; decide⟩
set_option maxHeartbeats 4000000 in
theorem indexed_any (mb : Nat) (qs : List (Option (Nat × PpH))) (idx : List RefD) (ap : Option Addr) (cp : Nat) (ai : Option Addr) (ci : Nat) (w : World) (h : MtAt w mb qs idx ap cp ai ci) (hn : idx.length ≤ 1000) :
    Calls Try.prog 33 #[.pointer (some ⟨mb, 0, none⟩)] w fun e w' => e = .returned (.bool (zeroIdx idx && okIdx (qsP qs) idx)) ∧ Below w.heap.size w w' := by
  have M := hide h
  have c0 := (heap_at h.box 0).1
  have c1 := (heap_at h.box 1).1
  obtain ⟨G, hG⟩ : ∃ G, G = (zeroIdx idx && okIdx (qsP qs) idx) := ⟨_, rfl⟩
  rw [← hG]
  have HG := hide hG
  clear hG
  by_cases hz : idx.length = 0
  · have E := hide (show false = G by
      rw [unhide HG]
      obtain rfl := List.eq_nil_of_length_eq_zero hz
      rfl)
    clear h
    rw [hz] at c1
    go_enter Try.func33, Try.ntmps33
    go_wp2_with fail
    go_ret
    exact ⟨ret_bool (unhide E), Below.refl _ _⟩
  have hl0 : 0 < idx.length := by omega
  obtain ⟨b, off, hai, x0, x1⟩ := h.ix.2 0 hl0
  subst hai
  have Z := hide (show zeroIdx idx = decide (idx[0].id = 0) by unfold zeroIdx; rw [List.getElem?_eq_getElem hl0])
  rw [Nat.zero_mul] at x0 x1
  simp only [Nat.add_zero] at x0 x1
  generalize idx[0] = r0 at *
  obtain ⟨l0, i0⟩ := r0
  simp only at x0 x1 Z
  obtain ⟨N, hN⟩ : ∃ N, N = idx.length := ⟨_, rfl⟩
  rw [← hN] at c1 hn hz hl0
  have HN := hide hN
  clear hN h
  have hzb : ((N : Int) == 0) = false := by rw [beq_eq_false_iff_ne]; omega
  by_cases h0 : i0 = 0
  case neg =>
    have hib : (i0 != 0) = true := by simpa using h0
    have E := hide (show false = G by rw [unhide HG, unhide Z, decide_eq_false h0]; rfl)
    go_enter Try.func33, Try.ntmps33
    go_wp2_with fail
    go_ret
    exact ⟨ret_bool (unhide E), Below.refl _ _⟩
  subst h0
  have HG2 := hide (show G = okIdx (qsP qs) idx by rw [unhide HG, unhide Z]; rfl)
  clear HG Z
  go_enter Try.func33, Try.ntmps33
  go_wp2_with fail
  go_loopw [26] (fun i wr => ∃ k : Nat, k ≤ N ∧ i = .int .i64 k ∧ Hid (∀ i, i < k → okRef (qsP qs) idx i = true) ∧ Below w.heap.size w wr) (fun i _ => N - (intOf i).toNat)
  case atStart => exact ⟨0, by omega, rfl, (fun i hi => absurd hi (Nat.not_lt_zero _)), Below.refl _ _⟩
  case round =>
    clear c0 c1 x0 x1
    obtain ⟨k, hk, rfl, hok, hb⟩ := hrel
    by_cases hlt : k < N
    case neg =>
      obtain rfl : k = N := by omega
      have E := hide (show true = G by rw [unhide HG2]; exact (okIdx_true fun i hi => unhide hok i (by rw [unhide HN]; exact hi)).symm)
      go_wp2_with fail
      go_ret
      exact ⟨ret_bool (unhide E), hb⟩
    have hk2 : k < idx.length := by rw [← unhide HN]; exact hlt
    obtain ⟨b', off', e', d0, d1⟩ := ((unhide M).below hb).ix.2 k hk2
    injection e' with e'
    injection e' with e1 e2
    subst e1 e2
    have hsz := hb.size
    have B1 := hide (hb.alloc hsz (.cells #[.string idx[k].low, .int .i64 idx[k].id] 53))
    have KN := hide (fun h => okRef_none (ps := qsP qs) hk2 h)
    have KO := hide (fun p h => okRef_other (ps := qsP qs) hk2 (p := p) h)
    have KH := hide (fun p h => okRef_here (ps := qsP qs) hk2 (p := p) h)
    have KT := hide (fun h => okRef_turn (ps := qsP qs) hk2 h)
    have IXF := hide (fun h => okIdx_false (ps := qsP qs) hk2 h)
    have PRE := hide (fun (h : 0 < k) (u : World) (hb : Below w.heap.size w u) => ((unhide M).below hb).ix.2 (k - 1) (by omega))
    have ST := hide (show okRef (qsP qs) idx k = true → ∀ i, i < k + 1 → okRef (qsP qs) idx i = true from fun h i hi => by
      by_cases e : i < k
      · exact unhide hok i e
      · obtain rfl : i = k := by omega
        exact h)
    clear hok
    generalize hrk : idx[k] = rk at *
    obtain ⟨low, id⟩ := rk
    simp only at d0 d1 B1 KN KO KH KT
    go_upto_region 6 with fail
    clear d0 d1
    have y0 : (wr.alloc (.cells #[.string low, .int .i64 id] 53)).cell? ⟨wr.heap.size, 0, none⟩ = some (.string low) := by simp
    have y1 : (wr.alloc (.cells #[.string low, .int .i64 id] 53)).cell? ⟨wr.heap.size, 1, none⟩ = some (.int .i64 id) := by simp
    generalize wr.alloc (.cells #[.string low, .int .i64 id] 53) = W at *
    generalize wr.heap.size = bx at *
    clear hb hsz
    have MW := (unhide M).below (unhide B1)
    have c0 := (heap_at MW.box 0).1
    have c1 := (heap_at MW.box 1).1
    rw [← unhide HN] at c1
    have HH := hide (fun n => has_any mb qs idx ap cp _ ci id (W.drewN n) (MW.below (bel_drewN (Below.refl _ _) n)))
    cases hg : getP (qsP qs) id with
    | none =>
      have E := hide (show false = G by rw [unhide HG2]; exact (unhide IXF (unhide KN hg)).symm)
      rw [hg] at HH
      simp only [Option.isSome_none] at HH
      clear hg MW
      go_quiet ((go_at_call 53; exact Calls.quiet_of_same (unhide HH _)))
      go_wp2_with fail
      go_ret
      exact ⟨ret_bool (unhide E), bel_drewN (unhide B1) _⟩
    | some p =>
      rw [hg] at HH
      simp only [Option.isSome_some] at HH
      obtain ⟨j, rfl⟩ : ∃ j : Nat, id = (j : Int) := by
        by_cases hneg : id < 0
        · rw [getP_neg hneg] at hg; cases hg
        · exact ⟨id.toNat, by omega⟩
      obtain ⟨pb, x, hq, hX⟩ : ∃ pb x, qs[j]? = some (some (pb, x)) ∧ x.X = p := by
        rw [getP_nat, qsP, List.getElem?_map] at hg
        cases hk : qs[j]? with
        | none => rw [hk] at hg; cases hg
        | some q =>
          rw [hk] at hg
          cases q with
          | none => cases hg
          | some y => exact ⟨y.1, y.2, rfl, by injection hg⟩
      have q0 := (heap_at (MW.pgs pb x (List.mem_of_getElem? hq)).1 0).1
      obtain ⟨b3, off3, hap, hc⟩ := MW.row.at (j := j) (u := .pointer (some ⟨pb, 0, none⟩)) (by rw [List.getElem?_map, hq]; rfl)
      subst hap
      have hkl : j < qs.length := (List.getElem?_eq_some_iff.1 hq).1
      subst hX
      by_cases hlo : x.X.lo = low
      case neg =>
        have E := hide (show false = G by rw [unhide HG2]; exact (unhide IXF (unhide KO _ hg hlo)).symm)
        have hne : (x.X.lo.toList == low.toList) = false := by
          cases hq2 : (x.X.lo.toList == low.toList) with
          | false => rfl
          | true => exact absurd (toList_inj (by simpa using hq2)) hlo
        clear hg MW hq
        obtain ⟨X, s0, s1⟩ := x
        simp only at q0 hne hlo
        go_quiet ((go_at_call 53; exact Calls.quiet_of_same (unhide HH _)))
        go_wp2_with fail
        go_ret
        exact ⟨ret_bool (unhide E), bel_drewN (unhide B1) _⟩
      have KH2 := hide (unhide KH _ hg hlo)
      subst hlo
      clear hg MW hq
      obtain ⟨X, s0, s1⟩ := x
      simp only at q0 y0 KH2 KT B1 hrk
      go_quiet ((go_at_call 53; exact Calls.quiet_of_same (unhide HH _)))
      have B2 := hide (bel_drewN (unhide B1) nq)
      go_upto_region 8 with fail
      by_cases hk0 : k = 0
      · have E := hide (unhide KH2 fun h => by omega)
        subst hk0
        go_quiet (fail)
        go_wp2_with fail
        go_roundw
        case rel => exact ⟨1, by omega, by go_num, unhide ST (unhide E), by first | exact bel_drewN (unhide B2) _ | exact bel_drewN (unhide B1) _⟩
        case measure => simp [intOf]; omega
      have hkp : 0 < k := by omega
      obtain ⟨b4, off4, e4, z0, _⟩ := unhide PRE hkp _ (unhide B1)
      injection e4 with e4
      injection e4 with e5 e6
      subst e5 e6
      have hi1 : ((k : Int) - 1).toNat = k - 1 := by omega
      have hwr : IntKind.i64.wrap ((k : Int) - 1) = (k : Int) - 1 := by rw [IntKind.wrap_i64]; omega
      have hin : 0 ≤ (k : Int) - 1 ∧ (k : Int) - 1 < (N : Int) := by omega
      have hgt : decide ((0 : Int) < (k : Int)) = true := decide_eq_true (by omega)
      have KT2 := hide (unhide KT hkp)
      have KH3 := hide (fun (e : ltK (idx[k - 1]'(by omega)).low X.lo = true) => unhide KH2 fun _ => e)
      clear PRE KT KH2
      generalize idx[k - 1] = py at *
      obtain ⟨plow, pid⟩ := py
      simp only at z0 KT2 KH3
      unfold ltK at KT2 KH3
      cases hlt2 : Op.bytesLess plow.toList X.lo.toList with
      | false =>
        have E := hide (show false = G by rw [unhide HG2]; exact (unhide IXF (unhide KT2 hlt2)).symm)
        go_quiet (fail)
        go_wp2_with fail
        go_ret
        exact ⟨ret_bool (unhide E), by first | exact bel_drewN (unhide B2) _ | exact bel_drewN (unhide B1) _⟩
      | true =>
        have E := hide (unhide KH3 hlt2)
        go_quiet (fail)
        go_wp2_with fail
        go_roundw
        case rel => exact ⟨k + 1, by omega, by go_num, unhide ST (unhide E), by first | exact bel_drewN (unhide B2) _ | exact bel_drewN (unhide B1) _⟩
        case measure => simp [intOf]; omega
end Go.Proofs.Ytbhkmmdcdfjbkaa
