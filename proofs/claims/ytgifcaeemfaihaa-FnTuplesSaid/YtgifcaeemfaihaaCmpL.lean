/-
  The walks of CompareParts, the program's and the specification's.
-/
import Derived.Test.YtgifcaeemfaihaaCmpP
import Derived.Deep.RegionWith
set_option maxRecDepth 100000
namespace Go.Proofs.Ytgifcaeemfaihaa
open Go.RowKit
attribute [local go_sem] run_store_float

/-- How two lists of parts stand: by the first that are not alike, else by their lengths. -/
def cmpsD : List PartD → List PartD → Int
  | a :: r, b :: s => if cmpD a b = 0 then cmpsD r s else cmpD a b
  | r, s => cmpI r.length s.length
theorem cmps_end {p q : List PartD} {k : Nat} (h : p.length ≤ k ∨ q.length ≤ k) (h2 : k ≤ p.length ∧ k ≤ q.length) : cmpsD (p.drop k) (q.drop k) = cmpI p.length q.length := by
  have e : ∀ r s : List PartD, (r = [] ∨ s = []) → cmpsD r s = cmpI r.length s.length := by
    intro r s h
    rcases h with rfl | rfl
    · unfold cmpsD; rfl
    · cases r <;> rfl
  rw [e _ _ (by rcases h with h | h; exact .inl (List.drop_eq_nil_of_le h); exact .inr (List.drop_eq_nil_of_le h))]
  simp only [List.length_drop, cmpI]
  by_cases h1 : (p.length : Int) < q.length
  · rw [if_pos h1, if_pos (by omega)]
  · rw [if_neg h1, if_neg (by omega)]
    by_cases h3 : (q.length : Int) < p.length
    · rw [if_pos h3, if_pos (by omega)]
    · rw [if_neg h3, if_neg (by omega)]
theorem cmps_same {p q : List PartD} {k : Nat} (h1 : k < p.length) (h2 : k < q.length) (h : cmpD p[k] q[k] = 0) : cmpsD (p.drop k) (q.drop k) = cmpsD (p.drop (k + 1)) (q.drop (k + 1)) := by
  rw [List.drop_eq_getElem_cons h1, List.drop_eq_getElem_cons h2, cmpsD, if_pos h]
theorem cmps_other {p q : List PartD} {k : Nat} (h1 : k < p.length) (h2 : k < q.length) (h : ¬ cmpD p[k] q[k] = 0) : cmpsD (p.drop k) (q.drop k) = cmpD p[k] q[k] := by
  rw [List.drop_eq_getElem_cons h1, List.drop_eq_getElem_cons h2, cmpsD, if_neg h]

/-- What CompareParts answers, and its code. -/
def cpA (p q : List PartD) : Int := if 4096 < p.length ∨ 4096 < q.length then 0 else if oksD p = true ∧ oksD q = true then cmpsD p q else 0
def cpC (p q : List PartD) : Int := if 4096 < p.length ∨ 4096 < q.length then 2 else if oksD p = true ∧ oksD q = true then 0 else 1
theorem cp_long {p q : List PartD} (h : 4096 < p.length ∨ 4096 < q.length) : cpA p q = 0 ∧ cpC p q = 2 := by simp [cpA, cpC, h]
theorem cp_bad {p q : List PartD} (h : ¬ (4096 < p.length ∨ 4096 < q.length)) (h2 : ¬ (oksD p = true ∧ oksD q = true)) : cpA p q = 0 ∧ cpC p q = 1 := by
  unfold cpA cpC; rw [if_neg h, if_neg h, if_neg h2, if_neg h2]; exact ⟨rfl, rfl⟩
theorem cp_ok {p q : List PartD} (h : ¬ (4096 < p.length ∨ 4096 < q.length)) (h2 : oksD p = true ∧ oksD q = true) : cpA p q = cmpsD p q ∧ cpC p q = 0 := by
  unfold cpA cpC; rw [if_neg h, if_neg h, if_pos h2, if_pos h2]; exact ⟨rfl, rfl⟩
set_option maxHeartbeats 1000000 in
theorem implCompareParts_any (a1 a2 : Option Addr) (n m c1 c2 : Nat) (p q : List PartD) (w : World) (hn : n ≤ 1048576) (hm : m ≤ 1048576) (h1 : PRow w a1 n p) (h2 : PRow w a2 m q)
    (t1 : ∀ i (hi : i < p.length), p[i].t.size ≤ maxLen ∧ p[i].f < 18446744073709551616) (t2 : ∀ i (hi : i < q.length), q[i].t.size ≤ maxLen ∧ q[i].f < 18446744073709551616) :
    Calls Try.prog 22 #[.slice a1 n c1, .slice a2 m c2] w fun e w' => e = .returned (.tuple #[.int .i64 (cpA p q), .int .i64 (cpC p q)]) ∧ Below w.heap.size w w' := by
  have l1 := h1.1
  have l2 := h2.1
  have H1 := hide h1
  have H2 := hide h2
  have T1 := hide t1
  have T2 := hide t2
  clear h1 h2 t1 t2
  by_cases hl : 4096 < n ∨ 4096 < m
  · have E := hide (cp_long (p := p) (q := q) (by rw [l1, l2]; exact hl))
    clear l1 l2
    rcases hl with hl | hl
    all_goals
      go_enter Try.func22, Try.ntmps22
      go_wp2_with fail
      all_goals go_ret2
      all_goals exact ⟨by rw [(unhide E).1, (unhide E).2]; rfl, Below.refl _ _⟩
  have hnl : ¬ (4096 < p.length ∨ 4096 < q.length) := by rw [l1, l2]; exact hl
  have hl1 : ¬ 4096 < n := fun h => hl (.inl h)
  have hl2 : ¬ 4096 < m := fun h => hl (.inr h)
  clear hl
  have EB := hide (cp_bad hnl)
  have EO := hide (cp_ok hnl)
  have L1 := hide l1
  have L2 := hide l2
  clear l1 l2 hnl
  go_enter Try.func22, Try.ntmps22
  go_wp2_with fail
  refine (partsOK_any a1 n c1 p _ hn (unhide H1) (fun i hi => (unhide T1 i hi).1)).mono ?_
  rintro e w1 ⟨rfl, hb1⟩
  cases ho1 : oksD p
  · have E := hide (unhide EB (by rw [ho1]; simp))
    clear ho1
    go_wp2_with fail
    go_ret2
    exact ⟨by rw [(unhide E).1, (unhide E).2]; rfl, hb1⟩
  have O1 := hide ho1
  clear ho1
  have r2 := (unhide H2).below hb1
  go_wp2_with fail
  refine (partsOK_any a2 m c2 q w1 hm r2 (fun i hi => (unhide T2 i hi).1)).mono ?_
  rintro e w2 ⟨rfl, hb2⟩
  have bA : Below w.heap.size w w2 := hb1.trans (hb2.mono hb1.size)
  clear hb1 hb2 r2
  cases ho2 : oksD q
  · have E := hide (unhide EB (by rw [ho2]; simp))
    clear ho2
    go_wp2_with fail
    go_ret2
    exact ⟨by rw [(unhide E).1, (unhide E).2]; rfl, bA⟩
  have E := hide (unhide EO ⟨unhide O1, ho2⟩)
  clear ho2 O1 EB EO
  go_wp2_with fail
  all_goals
    go_loopw [29] (fun i wr => ∃ k : Nat, k ≤ n ∧ k ≤ m ∧ i = .int .i64 k ∧ Hid (cmpsD (p.drop k) (q.drop k) = cmpsD p q) ∧ Below w.heap.size w wr) (fun i _ => n - (intOf i).toNat)
    case atStart => exact ⟨0, by omega, by omega, rfl, rfl, bA⟩
    case round =>
      clear bA
      obtain ⟨k, hkn, hkm, rfl, hD, hb⟩ := hrel
      by_cases hlt : k < n ∧ k < m
      · obtain ⟨ht1, ht2⟩ := hlt
        have hk1 : k < p.length := by rw [unhide L1]; exact ht1
        have hk2 : k < q.length := by rw [unhide L2]; exact ht2
        obtain ⟨b, off, rfl, c0, c1', c2', c3⟩ := (unhide H1).2 k hk1
        obtain ⟨b', off', rfl, x0, x1, x2, x3⟩ := (unhide H2).2 k hk2
        have hbl : b < w.heap.size := cell_lt c0
        have hbl' : b' < w.heap.size := cell_lt x0
        have d0 := (hb.cell (p := ⟨b, off + k * 4, none⟩) hbl).trans c0
        have d1 := (hb.cell (p := ⟨b, off + k * 4 + 1, none⟩) hbl).trans c1'
        have d2 := (hb.cell (p := ⟨b, off + k * 4 + 2, none⟩) hbl).trans c2'
        have d3 := (hb.cell (p := ⟨b, off + k * 4 + 3, none⟩) hbl).trans c3
        have y0 := (hb.cell (p := ⟨b', off' + k * 4, none⟩) hbl').trans x0
        have y1 := (hb.cell (p := ⟨b', off' + k * 4 + 1, none⟩) hbl').trans x1
        have y2 := (hb.cell (p := ⟨b', off' + k * 4 + 2, none⟩) hbl').trans x2
        have y3 := (hb.cell (p := ⟨b', off' + k * 4 + 3, none⟩) hbl').trans x3
        have F1 := (unhide T1 k hk1).2
        have F2 := (unhide T2 k hk2).2
        have SM := hide (fun h => (cmps_same (p := p) (q := q) (k := k) hk1 hk2 h).symm.trans (unhide hD))
        have OT := hide (fun h => (cmps_other (p := p) (q := q) (k := k) hk1 hk2 h).symm.trans (unhide hD))
        clear c0 c1' c2' c3 x0 x1 x2 x3
        generalize p[k] = pd at *
        generalize q[k] = qd at *
        have hsz := hb.size
        go_wp2_with fail
        go_region_with (go_at_call 50; refine (comparePart_any pd qd _ F1 F2).mono ?_; rintro e w3 ⟨rfl, hb2⟩)
        all_goals
          have bB : Below w.heap.size w w3 := by first | exact hb.drew.trans (hb2.mono hsz) | exact (bel_drewN hb _).trans (hb2.mono hsz) | exact hb.trans (hb2.mono hsz)
          clear hb hb2 d0 d1 d2 d3 y0 y1 y2 y3
          by_cases hz : cmpD pd qd = 0
          · have E2 := hide (unhide SM hz)
            rw [hz]
            clear hz
            go_wp2_with fail
            go_roundw
            case rel => exact ⟨k + 1, by omega, by omega, by go_num, unhide E2, bB⟩
            case measure => simp [intOf]; omega
          · have E2 := hide (unhide OT hz)
            have hq : (cmpD pd qd != 0) = true := by simp [hz]
            clear hz
            go_wp2_with fail
            go_ret2
            exact ⟨by rw [(unhide E).1, (unhide E).2, ← unhide E2]; rfl, bB⟩
      · have E2 := hide ((unhide hD).symm.trans (cmps_end (p := p) (q := q) (k := k) (by rw [unhide L1, unhide L2]; omega) (by rw [unhide L1, unhide L2]; omega)))
        go_wp2_with fail
        refine (cmpInt_any _ _ _).mono ?_
        rintro e w3 ⟨rfl, rfl⟩
        go_wp2_with fail
        go_ret2
        exact ⟨by rw [(unhide E).1, (unhide E).2, unhide E2, unhide L1, unhide L2]; rfl, hb⟩
set_option maxHeartbeats 1000000 in
theorem specCompareParts_any (a1 a2 : Option Addr) (n m c1 c2 : Nat) (p q : List PartD) (w : World) (hn : n ≤ 1048576) (hm : m ≤ 1048576) (h1 : PRow w a1 n p) (h2 : PRow w a2 m q)
    (t1 : ∀ i (hi : i < p.length), p[i].t.size ≤ maxLen ∧ p[i].f < 18446744073709551616) (t2 : ∀ i (hi : i < q.length), q[i].t.size ≤ maxLen ∧ q[i].f < 18446744073709551616) :
    Calls Try.prog 23 #[.slice a1 n c1, .slice a2 m c2] w fun e w' => e = .returned (.tuple #[.int .i64 (cpA p q), .int .i64 (cpC p q)]) ∧ Below w.heap.size w w' := by
  have l1 := h1.1
  have l2 := h2.1
  have H1 := hide h1
  have H2 := hide h2
  have T1 := hide t1
  have T2 := hide t2
  clear h1 h2 t1 t2
  by_cases hl : 4096 < n ∨ 4096 < m
  · have E := hide (cp_long (p := p) (q := q) (by rw [l1, l2]; exact hl))
    clear l1 l2
    rcases hl with hl | hl
    all_goals
      go_enter Try.func23, Try.ntmps23
      go_wp2_with fail
      all_goals go_ret2
      all_goals exact ⟨by rw [(unhide E).1, (unhide E).2]; rfl, Below.refl _ _⟩
  have hnl : ¬ (4096 < p.length ∨ 4096 < q.length) := by rw [l1, l2]; exact hl
  have hl1 : ¬ 4096 < n := fun h => hl (.inl h)
  have hl2 : ¬ 4096 < m := fun h => hl (.inr h)
  clear hl
  have EB := hide (cp_bad hnl)
  have EO := hide (cp_ok hnl)
  have L1 := hide l1
  have L2 := hide l2
  clear l1 l2 hnl
  go_enter Try.func23, Try.ntmps23
  go_wp2_with fail
  refine (l01Parts_any a1 n c1 p _ hn (unhide H1) (fun i hi => (unhide T1 i hi).1)).mono ?_
  rintro e w1 ⟨rfl, hb1⟩
  cases ho1 : oksD p
  · have E := hide (unhide EB (by rw [ho1]; simp))
    clear ho1
    go_wp2_with fail
    go_ret2
    exact ⟨by rw [(unhide E).1, (unhide E).2]; rfl, hb1⟩
  have O1 := hide ho1
  clear ho1
  have r2 := (unhide H2).below hb1
  go_wp2_with fail
  refine (l01Parts_any a2 m c2 q w1 hm r2 (fun i hi => (unhide T2 i hi).1)).mono ?_
  rintro e w2 ⟨rfl, hb2⟩
  have bA : Below w.heap.size w w2 := hb1.trans (hb2.mono hb1.size)
  clear hb1 hb2 r2
  cases ho2 : oksD q
  · have E := hide (unhide EB (by rw [ho2]; simp))
    clear ho2
    go_wp2_with fail
    go_ret2
    exact ⟨by rw [(unhide E).1, (unhide E).2]; rfl, bA⟩
  have E := hide (unhide EO ⟨unhide O1, ho2⟩)
  clear ho2 O1 EB EO
  go_wp2_with fail
  all_goals
    go_loopw [6] (fun i wr => ∃ k : Nat, k ≤ n ∧ k ≤ m ∧ i = .int .i64 k ∧ Hid (cmpsD (p.drop k) (q.drop k) = cmpsD p q) ∧ Below w.heap.size w wr) (fun i _ => n - (intOf i).toNat)
    case atStart => exact ⟨0, by omega, by omega, rfl, rfl, bA⟩
    case round =>
      clear bA
      obtain ⟨k, hkn, hkm, rfl, hD, hb⟩ := hrel
      by_cases hlt : k < n ∧ k < m
      · obtain ⟨ht1, ht2⟩ := hlt
        have hk1 : k < p.length := by rw [unhide L1]; exact ht1
        have hk2 : k < q.length := by rw [unhide L2]; exact ht2
        obtain ⟨b, off, rfl, c0, c1', c2', c3⟩ := (unhide H1).2 k hk1
        obtain ⟨b', off', rfl, x0, x1, x2, x3⟩ := (unhide H2).2 k hk2
        have hbl : b < w.heap.size := cell_lt c0
        have hbl' : b' < w.heap.size := cell_lt x0
        have d0 := (hb.cell (p := ⟨b, off + k * 4, none⟩) hbl).trans c0
        have d1 := (hb.cell (p := ⟨b, off + k * 4 + 1, none⟩) hbl).trans c1'
        have d2 := (hb.cell (p := ⟨b, off + k * 4 + 2, none⟩) hbl).trans c2'
        have d3 := (hb.cell (p := ⟨b, off + k * 4 + 3, none⟩) hbl).trans c3
        have y0 := (hb.cell (p := ⟨b', off' + k * 4, none⟩) hbl').trans x0
        have y1 := (hb.cell (p := ⟨b', off' + k * 4 + 1, none⟩) hbl').trans x1
        have y2 := (hb.cell (p := ⟨b', off' + k * 4 + 2, none⟩) hbl').trans x2
        have y3 := (hb.cell (p := ⟨b', off' + k * 4 + 3, none⟩) hbl').trans x3
        have F1 := (unhide T1 k hk1).2
        have F2 := (unhide T2 k hk2).2
        have SM := hide (fun h => (cmps_same (p := p) (q := q) (k := k) hk1 hk2 h).symm.trans (unhide hD))
        have OT := hide (fun h => (cmps_other (p := p) (q := q) (k := k) hk1 hk2 h).symm.trans (unhide hD))
        clear c0 c1' c2' c3 x0 x1 x2 x3
        generalize p[k] = pd at *
        generalize q[k] = qd at *
        have hsz := hb.size
        go_wp2_with fail
        go_region_with (go_at_call 53; refine (l01Compare_any pd qd _ F1 F2).mono ?_; rintro e w3 ⟨rfl, hb2⟩)
        all_goals
          have bB : Below w.heap.size w w3 := by first | exact hb.drew.trans (hb2.mono hsz) | exact (bel_drewN hb _).trans (hb2.mono hsz) | exact hb.trans (hb2.mono hsz)
          clear hb hb2 d0 d1 d2 d3 y0 y1 y2 y3
          by_cases hz : cmpD pd qd = 0
          · have E2 := hide (unhide SM hz)
            rw [hz]
            clear hz
            go_wp2_with fail
            go_roundw
            case rel => exact ⟨k + 1, by omega, by omega, by go_num, unhide E2, bB⟩
            case measure => simp [intOf]; omega
          · have E2 := hide (unhide OT hz)
            have hq : (cmpD pd qd != 0) = true := by simp [hz]
            clear hz
            go_wp2_with fail
            go_ret2
            exact ⟨by rw [(unhide E).1, (unhide E).2, ← unhide E2]; rfl, bB⟩
      · have E2 := hide ((unhide hD).symm.trans (cmps_end (p := p) (q := q) (k := k) (by rw [unhide L1, unhide L2]; omega) (by rw [unhide L1, unhide L2]; omega)))
        have E3 := hide (show sgn (decide (n < m)) (decide (m < n)) = cmpI n m by have := cmpI_sign n m; simpa using this)
        go_wp2_with fail
        all_goals refine (sign_any _ _ _).mono ?_
        all_goals rintro e w3 ⟨rfl, rfl⟩
        all_goals go_wp2_with fail
        all_goals go_ret2
        all_goals exact ⟨by rw [(unhide E).1, (unhide E).2, unhide E2, unhide L1, unhide L2, ← unhide E3]; rfl, hb⟩
end Go.Proofs.Ytgifcaeemfaihaa
