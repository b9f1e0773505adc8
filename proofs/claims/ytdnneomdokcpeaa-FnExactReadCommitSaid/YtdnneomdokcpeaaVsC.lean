/-
  The specification's test of a commit's writes.
-/
import Derived.Test.YtdnneomdokcpeaaVsB
namespace Go.Proofs.Ytdnneomdokcpeaa
open Go.RowKit

theorem comV_pos {ds : List VerD} (h : 0 < ds.length) : comV ds = (decide (ds.length ≤ 8) && (okVs ds && oneT ds ds[0].t)) := by
  unfold comV
  rw [decide_eq_false (by omega), List.getD_eq_getElem?_getD, List.getElem?_eq_getElem h]
  rfl
theorem comV_none {ds : List VerD} (h : ds.length = 0) : comV ds = true := by unfold comV; rw [decide_eq_true h]; rfl
theorem okVs_lt {ds : List VerD} (h : okVs ds = true) {k : Nat} (hk : k < ds.length) (hp : 0 < k) : ltV (ds[k - 1]'(by omega)) ds[k] = true := by
  obtain ⟨j, rfl⟩ : ∃ j, k = j + 1 := ⟨k - 1, by omega⟩
  have := okVs_at h hk
  rw [okAtV_succ hk, Bool.and_eq_true] at this
  exact this.2
set_option maxRecDepth 100000 in
set_option maxHeartbeats 8000000 in
theorem l07Writes_any (a : Option Addr) (n c : Nat) (ds : List VerD) (w : World) (hn : n ≤ 1048576) (hr : VRow w a n ds) :
    Calls Try.prog 29 #[.slice a n c] w fun e w' => e = .returned (.bool (comV ds)) ∧ Below w.heap.size w w' := by
  have L := hide hr.1
  have R := hide hr
  have C := hide (l06List_any a n c ds w hn hr)
  clear hr
  by_cases h8 : n ≤ 8
  · have g8 : ¬ (8 : Int) < (n : Int) := by omega
    generalize hok : okVs ds = ok at *
    cases ok
    · have Z := hide (show false = comV ds by
        have hp : 0 < ds.length := by
          cases ds with
          | nil => simp [okVs] at hok
          | cons x r => simp
        rw [comV_pos hp, hok]; simp)
      go_enter Try.func29, Try.ntmps29
      go_wp2_with fail
      refine (unhide C).mono ?_
      rintro e w1 ⟨rfl, hb⟩
      clear C
      go_wp2_with fail
      go_ret
      exact ⟨ret_bool (unhide Z), hb⟩
    · have HOK := hide hok
      clear hok
      go_enter Try.func29, Try.ntmps29
      go_wp2_with fail
      refine (unhide C).mono ?_
      rintro e w1 ⟨rfl, hb⟩
      replace R := hide ((unhide R).below hb)
      have B1 := hide hb
      have hsz := hb.size
      clear C hb
      go_wp2_with fail
      go_loopw [3] (fun i wr => ∃ k : Nat, 1 ≤ k ∧ (k ≤ n ∨ n = 0) ∧ k ≤ 9 ∧ i = .int .i64 k ∧ Hid (∀ i (h : i < ds.length), i < k → ds[i].t = (ds.getD 0 noV).t) ∧ ∃ q, wr = w1.drewN q) (fun i _ => n - (intOf i).toNat)
      case atStart => exact ⟨1, by omega, by omega, by omega, rfl, (fun i h hi => by obtain rfl : i = 0 := by omega
                                                                                     rw [List.getD_eq_getElem?_getD, List.getElem?_eq_getElem h]; rfl), 0, rfl⟩
      case round =>
        obtain ⟨k, hk1, hkn, hk9, rfl, hT, q, rfl⟩ := hrel
        by_cases hlt : k < n
        · have hk2 : k < ds.length := by rw [unhide L]; exact hlt
          have hj : k - 1 < ds.length := by omega
          have hp0 : 0 < ds.length := by omega
          obtain ⟨b, off, rfl, d0, d1, d2, d3⟩ := (unhide R).2 k hk2
          obtain ⟨b', off', e', q0, q1, q2, q3⟩ := (unhide R).2 (k - 1) hj
          cases e'
          have LT := hide (okVs_lt (unhide HOK) hk2 (by omega))
          have TP := hide (unhide hT (k - 1) hj (by omega))
          have ST := hide (show ds[k].t = ds[k - 1].t → ∀ i (h : i < ds.length), i < k + 1 → ds[i].t = (ds.getD 0 noV).t from fun e i h hi => by
            by_cases e' : i < k
            · exact unhide hT i h e'
            · obtain rfl : i = k := by omega
              rw [e]; exact unhide TP)
          have SF := hide (show ds[k].t ≠ ds[k - 1].t → false = comV ds from fun e => by
            have h0 : ds[0].t = (ds.getD 0 noV).t := by rw [List.getD_eq_getElem?_getD, List.getElem?_eq_getElem hp0]; rfl
            rw [comV_pos hp0, oneT_false (t := ds[0].t) hk2 (by rw [h0, ← unhide TP]; exact e)]; simp)
          have hi1 : ((k : Int) - 1).toNat = k - 1 := by omega
          have hi2 : (0 : Int) ≤ (k : Int) - 1 := by omega
          have hi4 : (1 : Int) ≤ (k : Int) := by omega
          have hwr : IntKind.i64.wrap ((k : Int) - 1) = (k : Int) - 1 := by rw [IntKind.wrap_i64]; omega
          have hi3 : (k : Int) - 1 < (n : Int) := by omega
          have hi5 : (k : Int) < (n : Int) := by omega
          clear hT TP
          generalize ds[k] = pd at *
          generalize ds[k - 1] = qd at *
          obtain ⟨pk, pt, pv, pg⟩ := pd
          obtain ⟨qk, qt, qv, qg⟩ := qd
          simp only at d0 d1 d2 d3 q0 q1 q2 q3 ST SF
          by_cases ht : pt = qt
          · have hne : (qk.toList == pk.toList) = false := vs_ne (ltV_other (unhide LT) ht.symm)
            subst ht
            have Z := hide (unhide ST rfl)
            have hd : (pt != pt) = false := by simp
            clear ST SF LT d2 d3 q2 q3
            go_wp2_with fail
            go_quiet (fail)
            go_wp2_with fail
            go_roundw
            case rel => exact ⟨k + 1, by omega, by omega, by omega, by go_num, unhide Z, _, rfl⟩
            case measure => simp [intOf]; omega
          · have Z := hide (unhide SF ht)
            have hd : (qt != pt) = true := by simp [bne]; exact fun e => ht e.symm
            clear ST SF LT d2 d3 q2 q3
            by_cases hkk : qk = pk
            · subst hkk
              have hne : (qk.toList == qk.toList) = true := by simp
              go_wp2_with fail
              go_quiet (fail)
              go_wp2_with fail
              go_ret
              exact ⟨ret_bool (unhide Z), bel_drewN (bel_drewN (unhide B1) _) _⟩
            · have hne := vs_ne hkk
              go_wp2_with fail
              go_quiet (fail)
              go_wp2_with fail
              go_ret
              exact ⟨ret_bool (unhide Z), bel_drewN (bel_drewN (unhide B1) _) _⟩
        · have Z := hide (show true = comV ds by
            by_cases h0 : ds.length = 0
            · exact (comV_none h0).symm
            · have hp0 : 0 < ds.length := by omega
              have e0 : ds[0].t = (ds.getD 0 noV).t := by rw [List.getD_eq_getElem?_getD, List.getElem?_eq_getElem hp0]; rfl
              rw [comV_pos hp0, unhide HOK, decide_eq_true (by rw [unhide L]; exact h8), oneT_true fun i hi => by rw [e0]; exact unhide hT i hi (by have := unhide L; omega)]
              rfl)
          have hi5 : ¬ (k : Int) < (n : Int) := by omega
          go_wp2_with fail
          go_ret
          exact ⟨ret_bool (unhide Z), bel_drewN (unhide B1) _⟩
  · have g8 : (8 : Int) < (n : Int) := by omega
    have Z := hide (show false = comV ds by rw [comV_pos (by rw [unhide L]; omega), decide_eq_false (by rw [unhide L]; exact h8)]; rfl)
    clear C
    go_enter Try.func29, Try.ntmps29
    go_wp2_with fail
    go_ret
    exact ⟨ret_bool (unhide Z), Below.refl _ _⟩
end Go.Proofs.Ytdnneomdokcpeaa
