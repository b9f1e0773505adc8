/-
  Trees: the walk of spec.l05Whole.
-/
import Derived.Test.YtdajoapbdeplhaaMtE
import Derived.Test.YtdajoapbdeplhaaPageO
namespace Go.Proofs.Ytdajoapbdeplhaa
open Go.RowKit

theorem here_get {hs : List PpH} {gs : List Bool} {idx : List RefD} {k : Nat} (h1 : k < hs.length) (h2 : k < gs.length) : getP (trd hs gs idx).here (k : Int) = if gs[k] then none else some hs[k].X := by
  rw [getP_nat]
  have hl : k < (trd hs gs idx).here.length := by simp [trd, TreD.here]; omega
  rw [List.getElem?_eq_getElem hl]
  simp [trd, TreD.here]
theorem here_out {hs : List PpH} {gs : List Bool} {idx : List RefD} {x : Int} (h : (hs.length : Int) ≤ x) : getP (trd hs gs idx).here x = none := by
  obtain ⟨k, rfl⟩ : ∃ k : Nat, x = (k : Int) := ⟨x.toNat, by omega⟩
  rw [getP_nat, List.getElem?_eq_none (by simp [trd, TreD.here]; omega)]
  rfl
theorem here_many {hs : List PpH} {gs : List Bool} {idx : List RefD} {k : Nat} (h1 : k < hs.length) (h2 : k < gs.length) : manyT ((trd hs gs idx).here.take (k + 1)) = manyT ((trd hs gs idx).here.take k) + (if gs[k] then 0 else 1) := by
  rw [here_at h1 h2]
  unfold manyT
  rw [List.countP_append]
  cases gs[k] <;> rfl
theorem goT_none {ps : List (Option PageD)} {m : Nat} {x : Int} {low : ByteArray} (h : getP ps x = none) : goT ps (m + 1) x low = false := by unfold goT; rw [h]
theorem goT_other {ps : List (Option PageD)} {m : Nat} {x : Int} {low : ByteArray} {p : PageD} (h : getP ps x = some p) (hl : p.lo ≠ low) : goT ps (m + 1) x low = false := by unfold goT; rw [h]; simp only; rw [decide_eq_false hl]; rfl
theorem goT_next {ps : List (Option PageD)} {m : Nat} {x : Int} {low : ByteArray} {p : PageD} (h : getP ps x = some p) (hl : p.lo = low) : goT ps (m + 1) x low = goT ps m (riP p) (hiP p) := by
  conv => lhs; unfold goT
  rw [h]
  simp only
  rw [decide_eq_true hl, Bool.true_and]
set_option maxRecDepth 100000 in
set_option maxHeartbeats 4000000 in
theorem l05Whole_any (ap : Option Addr) (np cp : Nat) (ag : Option Addr) (cg : Nat) (ai : Option Addr) (ni ci : Nat) (hs : List PpH) (gs : List Bool) (idx : List RefD) (w : World) (hT : TrIn w ap np cp ag np cg ai ni hs gs idx) (hn : np ≤ 30) (hc : ∀ h ∈ hs, h.s1.n ≤ 100000) :
    Calls Try.prog 25 #[.agg #[.slice ap np cp, .slice ag np cg, .slice ai ni ci]] w fun e w' => e = .returned (.bool (goT (trd hs gs idx).here (manyT (trd hs gs idx).here) 0 ⟨#[]⟩)) ∧ Below w.heap.size w w' := by
  have b0 : ∀ o, Below w.heap.size w (w.alloc o) := fun o => (Below.refl _ _).alloc (Nat.le_refl _) _
  have lp := hT.plen
  have lg := hT.glen
  have hhl : (trd hs gs idx).here.length = np := by simp [trd, TreD.here]; omega
  have BW := hide (b0 (.cells #[.slice ap np cp, .slice ag np cg, .slice ai ni ci] 32))
  have T := hide (hT.below (unhide BW))
  have BT := hide (show ∀ u, Below (w.alloc (.cells #[.slice ap np cp, .slice ag np cg, .slice ai ni ci] 32)).heap.size (w.alloc (.cells #[.slice ap np cp, .slice ag np cg, .slice ai ni ci] 32)) u → Below w.heap.size w u from fun u hu => (unhide BW).trans (hu.mono (unhide BW).size))
  have t0 : (w.alloc (.cells #[.slice ap np cp, .slice ag np cg, .slice ai ni ci] 32)).cell? ⟨w.heap.size, 0, none⟩ = some (.slice ap np cp) := by simp
  have t1 : (w.alloc (.cells #[.slice ap np cp, .slice ag np cg, .slice ai ni ci] 32)).cell? ⟨w.heap.size, 1, none⟩ = some (.slice ag np cg) := by simp
  obtain ⟨G, hG⟩ : ∃ G, G = goT (trd hs gs idx).here (manyT (trd hs gs idx).here) 0 ⟨#[]⟩ := ⟨_, rfl⟩
  rw [← hG]
  have HG := hide hG
  clear hG hT BW
  go_enter Try.func25, Try.ntmps25
  go_wp2_with fail
  generalize w.alloc (.cells #[.slice ap np cp, .slice ag np cg, .slice ai ni ci] 32) = W at *
  go_loopw [3, 4] (fun c i wr => ∃ k : Nat, k ≤ np ∧ i = .int .i64 k ∧ c = .int .i64 ((manyT ((trd hs gs idx).here.take k) : Nat) : Int) ∧ Hid (wr = W)) (fun _ i _ => np - (intOf i).toNat)
  case atStart => exact ⟨0, Nat.zero_le _, rfl, rfl, by first | exact hide rfl | exact hide trivial⟩
  case round =>
    obtain ⟨k, hk, rfl, rfl, hww⟩ := hrel
    have hww := unhide hww
    subst wr
    by_cases hlt : k < np
    · have hk1 : k < hs.length := by omega
      have hk2 : k < gs.length := by omega
      obtain ⟨b', off', hag, g0⟩ := RowC.at (unhide T).gone (j := k) (u := .bool gs[k]) (by rw [List.getElem?_map, List.getElem?_eq_getElem hk2]; rfl)
      subst hag
      have ST := hide (here_many (idx := idx) hk1 hk2)
      have hml : manyT ((trd hs gs idx).here.take k) ≤ 30 := by have h1 := manyT_le ((trd hs gs idx).here.take k); rw [List.length_take] at h1; omega
      generalize gs[k] = gk at *
      cases gk
      · have ST2 := hide (show manyT ((trd hs gs idx).here.take (k + 1)) = manyT ((trd hs gs idx).here.take k) + 1 from unhide ST)
        generalize manyT ((trd hs gs idx).here.take k) = mm at *
        go_wp2_with fail
        go_roundw
        case rel => exact ⟨k + 1, by omega, by go_num, by rw [unhide ST2]; go_num, by first | exact hide rfl | exact hide trivial⟩
        case measure => simp [intOf]; omega
      · have ST2 := hide (show manyT ((trd hs gs idx).here.take (k + 1)) = manyT ((trd hs gs idx).here.take k) from unhide ST)
        go_wp2_with fail
        go_roundw
        case rel => exact ⟨k + 1, by omega, by go_num, by rw [unhide ST2], by first | exact hide rfl | exact hide trivial⟩
        case measure => simp [intOf]; omega
    · obtain rfl : k = np := by omega
      have Z := hide (show (trd hs gs idx).here.take k = (trd hs gs idx).here from List.take_of_length_le (by omega))
      rw [unhide Z] at *
      have hml : manyT (trd hs gs idx).here ≤ 30 := by have h1 := manyT_le (trd hs gs idx).here; omega
      clear Z
      go_wp2_with fail
      obtain ⟨M, hM⟩ : ∃ M, M = manyT (trd hs gs idx).here := ⟨_, rfl⟩
      rw [← hM] at hml HG
      rw [← hM]
      clear hM
      go_loopw [5, 6, 7] (fun x l i wr => ∃ (j : Nat) (y : Int) (low : ByteArray), j ≤ M ∧ x = .int .i64 y ∧ l = .string low ∧ i = .int .i64 j ∧ Hid (G = goT (trd hs gs idx).here (M - j) y low) ∧ Below W.heap.size W wr) (fun _ _ i _ => M - (intOf i).toNat)
      case atStart => exact ⟨0, 0, ⟨#[]⟩, Nat.zero_le _, rfl, rfl, rfl, HG, Below.refl _ _⟩
      case round =>
        obtain ⟨j, y, low, hj, rfl, rfl, rfl, hg, hb⟩ := hrel
        have bR := hide (unhide BT _ hb)
        have s0 := (hb.cell (p := ⟨w.heap.size, 0, none⟩) (cell_lt t0)).trans t0
        have s1 := (hb.cell (p := ⟨w.heap.size, 1, none⟩) (cell_lt t1)).trans t1
        by_cases hlt2 : j < M
        case neg =>
          obtain rfl : j = M := by omega
          have E := hide (show (decide (y < 0) && low.toList.isEmpty) = G by
            rw [unhide hg, Nat.sub_self]
            rfl)
          clear hg
          cases hy : decide (y < 0) with
          | true =>
            have hy1 : y < 0 := of_decide_eq_true hy
            rw [hy] at E
            go_wp2_with fail
            go_ret
            exact ⟨ret_bool (by rw [← unhide E]; rfl), unhide bR⟩
          | false =>
            have hy1 : ¬ y < 0 := of_decide_eq_false hy
            rw [hy] at E
            go_wp2_with fail
            go_ret
            exact ⟨ret_bool (by rw [← unhide E]; rfl), unhide bR⟩
        obtain ⟨m, hm⟩ : ∃ m, M - j = m + 1 := ⟨M - j - 1, by omega⟩
        rw [hm] at hg
        have hm2 : m = M - (j + 1) := by omega
        by_cases hy : y < 0
        · have E := hide (show false = G by rw [unhide hg, goT_none (getP_neg hy)])
          clear hg
          go_wp2_with fail
          go_ret
          exact ⟨ret_bool (unhide E), unhide bR⟩
        by_cases hy2 : (k : Int) ≤ y
        · have E := hide (show false = G by rw [unhide hg, goT_none (here_out (by omega))])
          clear hg
          go_wp2_with fail
          go_ret
          exact ⟨ret_bool (unhide E), unhide bR⟩
        obtain ⟨q, rfl⟩ : ∃ q : Nat, y = (q : Int) := ⟨y.toNat, by omega⟩
        have hq1 : q < hs.length := by omega
        have hq2 : q < gs.length := by omega
        have HGT := here_get (idx := idx) hq1 hq2
        obtain ⟨b', off', hag, g0⟩ := RowC.at ((unhide T).below hb).gone (j := q) (u := .bool gs[q]) (by rw [List.getElem?_map, List.getElem?_eq_getElem hq2]; rfl)
        subst hag
        obtain ⟨b, off, hap, hbl, d0, d1, d2, d3, d4⟩ := PpIn.cells ((unhide T).below hb).pgs hq1
        subst hap
        cases hgq : gs[q] with
        | true =>
          rw [hgq] at HGT g0
          have E := hide (show false = G by rw [unhide hg, goT_none HGT])
          clear hg HGT
          go_wp2_with fail
          go_ret
          exact ⟨ret_bool (unhide E), unhide bR⟩
        | false =>
          rw [hgq] at HGT g0
          have HB := hide (l04Bounds_any hs[q].X.lo hs[q].X.hi hs[q].X.r (.slice hs[q].s0.a hs[q].s0.n hs[q].s0.c) hs[q].s1.a hs[q].s1.n hs[q].s1.c hs[q].X.ds wr (drow_C (PpIn.sub ((unhide T).below hb).pgs hq1).2) (hc _ (List.getElem_mem hq1)))
          by_cases hlo : hs[q].X.lo = low
          case neg =>
            have E := hide (show false = G by rw [unhide hg, goT_other HGT hlo])
            have hne : (hs[q].X.lo.toList == low.toList) = false := by
              cases hq2 : (hs[q].X.lo.toList == low.toList) with
              | false => rfl
              | true => exact absurd (toList_inj (by simpa using hq2)) hlo
            clear hg HGT HB
            generalize hs[q] = pd at *
            obtain ⟨X, s0', s1'⟩ := pd
            simp only at d0 d1 d2 d3 d4 hne hlo
            go_wp2_with fail
            go_ret
            exact ⟨ret_bool (unhide E), unhide bR⟩
          have E := hide (show G = goT (trd hs gs idx).here m (riP hs[q].X) (hiP hs[q].X) by rw [unhide hg, goT_next HGT hlo])
          clear hg HGT
          subst hlo
          generalize hs[q] = pd at *
          obtain ⟨X, ⟨a0, n0, c0⟩, ⟨a1, n1, c1⟩⟩ := pd
          simp only at d0 d1 d2 d3 d4 HB E
          go_wp2_with fail
          refine (unhide HB).mono ?_
          rintro e w2 ⟨rfl, hb2⟩
          have bA := hide (hb.trans (hb2.mono hb.size))
          clear HB d0 d1 d2 d3 d4 g0 s0 s1 hb hb2
          go_wp2_with fail
          go_roundw
          case rel => exact ⟨j + 1, _, _, by omega, rfl, rfl, by go_num, (by rw [← hm2]; exact E), unhide bA⟩
          case measure => simp [intOf]; omega
end Go.Proofs.Ytdajoapbdeplhaa
