/-
  TrT, MtF, TrLaw, TrN, MtG, TgL, PageR, TgS, MtH, PageS, TgI, TgLaw, PgIn, GdR, JxIn, TrIn, TgP in one.
-/
import Derived.Test.YtdajoapbdeplhaaTrS
import Derived.Test.YtdajoapbdeplhaaPageQ
import Derived.Test.YtdajoapbdeplhaaMtE
import Derived.Test.YtdajoapbdeplhaaTrV
import Derived.Deep.RegionHeld3
import Derived.WalkMore
import Derived.ScopeJumps
import Derived.Test.YtdajoapbdeplhaaPgP
import Derived.Deep.Slices
import Derived.Lib.SmallJoins
import Derived.OpenShut
import Derived.Test.YtdajoapbdeplhaaGdA
import Derived.Deep.Grids
import Derived.Test.YtdajoapbdeplhaaJxC
import Derived.Deep.Strs
import Derived.ProofKit
import Derived.ShutString
import Derived.ChangeOld
import Derived.Below
namespace Go.Proofs.Ytdajoapbdeplhaa
open Go.RowKit

theorem manyT_pos {ps : List (Option PageD)} {x : Int} {p : PageD} (h : getP ps x = some p) : 0 < manyT ps := by
  unfold manyT
  exact List.countP_pos_iff.2 ⟨_, getP_mem h, rfl⟩
/-- The first Ref is that of page 0 alone. -/
def zeroRef (idx : List RefD) : Bool := match idx[0]? with
  | some x => x.low.toList.isEmpty && decide (x.id = 0)
  | none => false
theorem okT_spec {hs : List PpH} {gs : List Bool} {idx : List RefD} (h : 1 ≤ hs.length ∧ hs.length ≤ 30 ∧ gs.length = hs.length ∧ idx.length ≤ hs.length) (hp : ∀ i (h1 : i < hs.length) (h2 : i < gs.length), pgOK hs[i].X gs[i] = true) (hi : okIdx (trd hs gs idx).here idx = true) (h0 : 0 < idx.length) : okT (trd hs gs idx) = (zeroRef idx && goT (trd hs gs idx).here (manyT (trd hs gs idx).here) 0 ⟨#[]⟩) := by
  rw [okT_rest h hp, hi, Bool.and_true, Bool.and_comm]
  have r0 : okRef (trd hs gs idx).here idx 0 = true := by
    unfold okIdx at hi
    rw [List.all_eq_true] at hi
    exact hi 0 (List.mem_range.2 h0)
  have e0 := List.getElem?_eq_getElem h0
  unfold zeroIdx zeroRef
  unfold okRef at r0
  rw [e0] at r0
  rw [e0]
  generalize idx[0] = x at *
  simp only [Bool.and_eq_true] at r0
  have r0 := r0.1
  simp only
  cases hid : decide (x.id = 0) with
  | false => simp
  | true =>
    have hid := of_decide_eq_true hid
    rw [hid] at r0
    cases hg : getP (trd hs gs idx).here 0 with
    | none => rw [hg] at r0; cases r0
    | some p =>
      rw [hg] at r0
      have r0 := of_decide_eq_true r0
      have hm := manyT_pos hg
      cases he : x.low.toList.isEmpty with
      | true => simp
      | false =>
        obtain ⟨m, hm2⟩ : ∃ m, manyT (trd hs gs idx).here = m + 1 := ⟨manyT (trd hs gs idx).here - 1, by omega⟩
        rw [hm2, goT_other hg (fun e => by
          rw [← r0, e, ByteArray.toList_eq] at he
          cases he)]
        rfl
theorem okT_idx {hs : List PpH} {gs : List Bool} {idx : List RefD} (hi : okIdx (trd hs gs idx).here idx = false) : okT (trd hs gs idx) = false := by
  unfold okT
  show (((_ && okIdx (trd hs gs idx).here idx) && _) && _) = false
  rw [hi]
  simp
theorem okT_none {hs : List PpH} {gs : List Bool} {idx : List RefD} (h : idx.length = 0) : okT (trd hs gs idx) = false := by
  unfold okT trd
  simp only
  rw [decide_eq_false (fun e => by have := e.2.2.2.1; omega)]
  rfl
theorem pgOK_parts (p : PageD) (g : Bool) : pgOK p g = (okP p && (!g || noP p)) := by
  cases g with
  | false => show okP p = _; simp
  | true =>
    show noP p = _
    cases h : noP p with
    | true => rw [noP_ok h]; rfl
    | false => simp
theorem pgOK_chain {p : PageD} {g : Bool} (h : pgOK p g = true) : p.ds.length ≤ 100000 := by
  rw [pgOK_parts, Bool.and_eq_true] at h
  have h := h.1
  unfold okP okPage at h
  simp only [Bool.and_eq_true, decide_eq_true_eq] at h
  omega
set_option maxRecDepth 100000 in
set_option maxHeartbeats 4000000 in
theorem specTreeOK_any (ap : Option Addr) (np cp : Nat) (ag : Option Addr) (ng cg : Nat) (ai : Option Addr) (ni ci : Nat) (hs : List PpH) (gs : List Bool) (idx : List RefD) (w : World) (hT : TrIn w ap np cp ag ng cg ai ni hs gs idx) (hcb : ∀ h ∈ hs, h.s0.a = none → h.s0.c = 0) :
    Calls Try.prog 7 #[.agg #[.slice ap np cp, .slice ag ng cg, .slice ai ni ci]] w fun e w' => e = .returned (.bool (okT (trd hs gs idx))) ∧ Below w.heap.size w w' := by
  have b0 : ∀ o, Below w.heap.size w (w.alloc o) := fun o => (Below.refl _ _).alloc (Nat.le_refl _) _
  have lp := hT.plen
  have lg := hT.glen
  have li := hT.ix.1
  have BW := hide (b0 (.cells #[.slice ap np cp, .slice ag ng cg, .slice ai ni ci] 32))
  have BT := hide (show ∀ u, Below (w.alloc (.cells #[.slice ap np cp, .slice ag ng cg, .slice ai ni ci] 32)).heap.size (w.alloc (.cells #[.slice ap np cp, .slice ag ng cg, .slice ai ni ci] 32)) u → Below w.heap.size w u from fun u hu => (unhide BW).trans (hu.mono (unhide BW).size))
  have t0 : (w.alloc (.cells #[.slice ap np cp, .slice ag ng cg, .slice ai ni ci] 32)).cell? ⟨w.heap.size, 0, none⟩ = some (.slice ap np cp) := by simp
  have t1 : (w.alloc (.cells #[.slice ap np cp, .slice ag ng cg, .slice ai ni ci] 32)).cell? ⟨w.heap.size, 1, none⟩ = some (.slice ag ng cg) := by simp
  have t2 : (w.alloc (.cells #[.slice ap np cp, .slice ag ng cg, .slice ai ni ci] 32)).cell? ⟨w.heap.size, 2, none⟩ = some (.slice ai ni ci) := by simp
  by_cases h1 : ¬ (1 ≤ np ∧ np ≤ 30)
  · have Z := hide (show false = okT (trd hs gs idx) from (okT_size (hs := hs) (gs := gs) (idx := idx) fun e => by omega).symm)
    have HI := hide (fun W => l01In_any (np : Int) 1 30 W)
    rw [show (decide ((1 : Int) ≤ (np : Int)) && decide ((np : Int) ≤ 30)) = false by simp; omega] at HI

    clear hT t0 t1 t2 BT
    go_enter Try.func7, Try.ntmps7
    go_wp2_with fail
    refine (unhide HI _).mono ?_
    rintro e w2 ⟨rfl, hw2⟩
    subst w2
    clear HI
    go_wp2_with fail
    go_ret
    exact ⟨ret_bool (unhide Z), b0 _⟩
  by_cases h3 : ng ≠ np
  · have Z := hide (show false = okT (trd hs gs idx) from (okT_size (hs := hs) (gs := gs) (idx := idx) fun e => by omega).symm)
    have HI := hide (fun W => l01In_any (np : Int) 1 30 W)
    rw [show (decide ((1 : Int) ≤ (np : Int)) && decide ((np : Int) ≤ 30)) = true by simp; omega] at HI
    have h3 : ((ng : Int) != (np : Int)) = true := by simp; omega
    clear hT t0 t1 t2 BT
    go_enter Try.func7, Try.ntmps7
    go_wp2_with fail
    refine (unhide HI _).mono ?_
    rintro e w2 ⟨rfl, hw2⟩
    subst w2
    clear HI
    go_wp2_with fail
    go_ret
    exact ⟨ret_bool (unhide Z), b0 _⟩
  by_cases h4 : ni = 0
  · have Z := hide (show false = okT (trd hs gs idx) from (okT_none (hs := hs) (gs := gs) (idx := idx) (by omega)).symm)
    have HI := hide (fun W => l01In_any (np : Int) 1 30 W)
    rw [show (decide ((1 : Int) ≤ (np : Int)) && decide ((np : Int) ≤ 30)) = true by simp; omega] at HI
    have h3 : ((ng : Int) != (np : Int)) = false := by simp; omega
    subst h4
    clear hT t0 t1 t2 BT
    go_enter Try.func7, Try.ntmps7
    go_wp2_with fail
    refine (unhide HI _).mono ?_
    rintro e w2 ⟨rfl, hw2⟩
    subst w2
    clear HI
    go_wp2_with fail
    go_ret
    exact ⟨ret_bool (unhide Z), b0 _⟩
  by_cases h5 : np < ni
  · have Z := hide (show false = okT (trd hs gs idx) from (okT_size (hs := hs) (gs := gs) (idx := idx) fun e => by omega).symm)
    have HI := hide (fun W => l01In_any (np : Int) 1 30 W)
    rw [show (decide ((1 : Int) ≤ (np : Int)) && decide ((np : Int) ≤ 30)) = true by simp; omega] at HI
    have h3 : ((ng : Int) != (np : Int)) = false := by simp; omega
    have h4 : ((ni : Int) == 0) = false := by simp; omega
    clear hT t0 t1 t2 BT
    go_enter Try.func7, Try.ntmps7
    go_wp2_with fail
    refine (unhide HI _).mono ?_
    rintro e w2 ⟨rfl, hw2⟩
    subst w2
    clear HI
    go_wp2_with fail
    go_ret
    exact ⟨ret_bool (unhide Z), b0 _⟩
  obtain rfl : ng = np := by omega
  have hsz : 1 ≤ hs.length ∧ hs.length ≤ 30 ∧ gs.length = hs.length ∧ idx.length ≤ hs.length := ⟨by omega, by omega, by omega, by omega⟩
  have T := hide (hT.below (unhide BW))
  have HI := hide (fun W => l01In_any (ng : Int) 1 30 W)
  rw [show (decide ((1 : Int) ≤ (ng : Int)) && decide ((ng : Int) ≤ 30)) = true by simp; omega] at HI
  have j4 : ((ni : Int) == 0) = false := by simp; omega
  clear hT BW
  go_enter Try.func7, Try.ntmps7
  go_wp2_with fail
  refine (unhide HI _).mono ?_
  rintro e w2 ⟨rfl, hw2⟩
  subst w2
  clear HI
  go_wp2_with fail
  generalize w.alloc (.cells #[.slice ap ng cp, .slice ag ng cg, .slice ai ni ci] 32) = W at *
  go_loopw [4] (fun i wr => ∃ k : Nat, k ≤ ng ∧ i = .int .i64 k ∧ Hid (∀ i (_ : i < k) (h1 : i < hs.length) (h2 : i < gs.length), pgOK hs[i].X gs[i] = true) ∧ Below W.heap.size W wr) (fun i _ => ng - (intOf i).toNat)
  case atStart => exact ⟨0, by omega, rfl, (fun i hi => absurd hi (Nat.not_lt_zero _)), Below.refl _ _⟩
  case round =>
    obtain ⟨k, hk, rfl, hok, hb⟩ := hrel
    have s0 := (hb.cell (p := ⟨w.heap.size, 0, none⟩) (cell_lt t0)).trans t0
    have s1 := (hb.cell (p := ⟨w.heap.size, 1, none⟩) (cell_lt t1)).trans t1
    have s2 := (hb.cell (p := ⟨w.heap.size, 2, none⟩) (cell_lt t2)).trans t2
    have bR := hide (unhide BT _ hb)
    by_cases hlt : k < ng
    case neg =>
      obtain rfl : k = ng := by omega
      have OKP := hide (fun i h1 h2 => unhide hok i (by omega) h1 h2)
      have CH := hide (show ∀ h ∈ hs, h.s1.n ≤ 100000 from fun h hh => by
        obtain ⟨i, hi, e⟩ := List.getElem_of_mem hh
        have h1 := pgOK_chain (unhide OKP i hi (by omega))
        have h2 := (PpIn.sub (unhide T).pgs hi).2
        rw [← e, rowC_len h2]
        exact h1)
      have REST := hide (fun hi => okT_spec hsz (unhide OKP) hi (by omega))
      have HW := hide (fun u hu => l05Whole_any ap k cp ag cg ai ni ci hs gs idx u ((unhide T).below hu) (by omega) (unhide CH))
      clear hok OKP CH s0 s1 s2 bR
      go_wp2_with fail
      go_loopw [5] (fun i wr => ∃ j : Nat, j ≤ ni ∧ i = .int .i64 j ∧ Hid (∀ i, i < j → okRef (trd hs gs idx).here idx i = true) ∧ Below W.heap.size W wr) (fun i _ => ni - (intOf i).toNat)
      case atStart => exact ⟨0, by omega, rfl, (fun i hi => absurd hi (Nat.not_lt_zero _)), hb⟩
      case round =>
        clear hb
        obtain ⟨j, hj, rfl, hok, hb⟩ := hrel
        have s0 := (hb.cell (p := ⟨w.heap.size, 0, none⟩) (cell_lt t0)).trans t0
        have s1 := (hb.cell (p := ⟨w.heap.size, 1, none⟩) (cell_lt t1)).trans t1
        have s2 := (hb.cell (p := ⟨w.heap.size, 2, none⟩) (cell_lt t2)).trans t2
        have bR := hide (unhide BT _ hb)
        by_cases hlt2 : j < ni
        case neg =>
          obtain rfl : j = ni := by omega
          have R := hide (unhide REST (okIdx_true fun i hi => unhide hok i (by omega)))
          have h0 : 0 < idx.length := by omega
          obtain ⟨b, off, hai, d0, d1⟩ := ((unhide T).below hb).ix.2 0 h0
          subst hai
          rw [Nat.zero_mul] at d0 d1
          simp only [Nat.add_zero] at d0 d1
          have Z := hide (show zeroRef idx = (idx[0].low.toList.isEmpty && decide (idx[0].id = 0)) by unfold zeroRef; rw [List.getElem?_eq_getElem h0])
          have HW2 := hide (unhide HW wr hb)
          clear hok HW REST
          generalize idx[0] = x at *
          obtain ⟨low, id⟩ := x
          simp only at d0 d1 Z
          generalize goT (trd hs gs idx).here (manyT (trd hs gs idx).here) 0 ⟨#[]⟩ = GG at *
          by_cases hz : low = ⟨#[]⟩ ∧ id = 0
          · obtain ⟨rfl, rfl⟩ := hz
            have R2 := hide (show GG = okT (trd hs gs idx) by rw [unhide R, unhide Z, ByteArray.toList_eq]; rfl)
            go_wp2_with fail
            refine (unhide HW2).mono ?_
            rintro e w3 ⟨rfl, hb3⟩
            have bB := hide (unhide BT _ (hb.trans (hb3.mono hb.size)))
            clear HW2 d0 d1 s0 s1 s2
            go_wp2_with fail
            go_ret
            exact ⟨ret_bool (unhide R2), unhide bB⟩
          · have R2 := hide (show false = okT (trd hs gs idx) by
              rw [unhide R, unhide Z]
              cases he : low.toList.isEmpty with
              | false => rfl
              | true =>
                rw [decide_eq_false (fun e => hz ⟨by
                  rw [List.isEmpty_iff] at he
                  exact toList_inj (by rw [he, ByteArray.toList_eq]), e⟩)]
                rfl)
            clear R Z HW2
            by_cases hl : low.toList = []
            · have hid : ¬ id = 0 := fun e => hz ⟨toList_inj (by rw [hl, ByteArray.toList_eq]), e⟩
              clear hz
              go_wp2_with fail
              go_ret
              exact ⟨ret_bool (unhide R2), unhide bR⟩
            · clear hz
              go_wp2_with fail
              go_ret
              exact ⟨ret_bool (unhide R2), unhide bR⟩
        have hk2 : j < idx.length := by omega
        obtain ⟨b, off, hai, d0, d1⟩ := ((unhide T).below hb).ix.2 j hk2
        subst hai
        have B1 := hide (hb.alloc hb.size (.cells #[.string idx[j].low, .int .i64 idx[j].id] 55))
        have KN := hide (fun h => okRef_none (ps := (trd hs gs idx).here) hk2 h)
        have KO := hide (fun p h => okRef_other (ps := (trd hs gs idx).here) hk2 (p := p) h)
        have KH := hide (fun p h => okRef_here (ps := (trd hs gs idx).here) hk2 (p := p) h)
        have KT := hide (fun h => okRef_turn (ps := (trd hs gs idx).here) hk2 h)
        have IXF := hide (fun h => (okT_idx (okIdx_false (ps := (trd hs gs idx).here) hk2 h)).symm)
        have PRE := hide (fun (h : 0 < j) (u : World) (hb : Below W.heap.size W u) => ((unhide T).below hb).ix.2 (j - 1) (by omega))
        have ST := hide (show okRef (trd hs gs idx).here idx j = true → ∀ i, i < j + 1 → okRef (trd hs gs idx).here idx i = true from fun h i hi => by
          by_cases e : i < j
          · exact unhide hok i e
          · obtain rfl : i = j := by omega
            exact h)
        clear hok
        generalize hrk : idx[j] = rk at *
        obtain ⟨low, id⟩ := rk
        simp only at d0 d1 B1 KN KO KH KT
        go_upto_region 13 with fail
        clear d0 d1
        have y0 : (wr.alloc (.cells #[.string low, .int .i64 id] 55)).cell? ⟨wr.heap.size, 0, none⟩ = some (.string low) := by simp
        have y1 : (wr.alloc (.cells #[.string low, .int .i64 id] 55)).cell? ⟨wr.heap.size, 1, none⟩ = some (.int .i64 id) := by simp
        generalize wr.alloc (.cells #[.string low, .int .i64 id] 55) = V at *
        generalize wr.heap.size = bx at *
        clear hb s0 s1 s2 bR
        have s0 := ((unhide B1).cell (p := ⟨w.heap.size, 0, none⟩) (cell_lt t0)).trans t0
        have s1 := ((unhide B1).cell (p := ⟨w.heap.size, 1, none⟩) (cell_lt t1)).trans t1
        have s2 := ((unhide B1).cell (p := ⟨w.heap.size, 2, none⟩) (cell_lt t2)).trans t2
        have BE := hide (fun n => unhide BT _ (bel_drewN (unhide B1) n))
        have hwn : IntKind.i64.wrap ((k : Int) - 1) = (k : Int) - 1 := by rw [IntKind.wrap_i64]; omega
        have HI := hide (fun u => l01In_any id 0 ((k : Int) - 1) u)
        by_cases hin : 0 ≤ id ∧ id ≤ (k : Int) - 1
        case neg =>
          rw [show (decide ((0 : Int) ≤ id) && decide (id ≤ (k : Int) - 1)) = false by simp; omega] at HI
          have Z := hide (unhide IXF (unhide KN (by
            by_cases hneg : id < 0
            · exact getP_neg hneg
            · exact here_out (by omega))))
          go_quiet ((go_at_call 22; exact Calls.quiet_of_same (unhide HI _)))
          go_wp2_with fail
          go_ret
          exact ⟨ret_bool (unhide Z), unhide BE _⟩
        rw [show (decide ((0 : Int) ≤ id) && decide (id ≤ (k : Int) - 1)) = true by simp; omega] at HI
        obtain ⟨q, rfl⟩ : ∃ q : Nat, id = (q : Int) := ⟨id.toNat, by omega⟩
        have hq1 : q < hs.length := by omega
        have hq2 : q < gs.length := by omega
        have hq3 : q < k := by omega
        have HGT := here_get (idx := idx) hq1 hq2
        obtain ⟨b', off', hag, g0⟩ := RowC.at ((unhide T).below (unhide B1)).gone (j := q) (u := .bool gs[q]) (by rw [List.getElem?_map, List.getElem?_eq_getElem hq2]; rfl)
        subst hag
        obtain ⟨b2, off2, hap, hbl, d0, d1, d2, d3, d4⟩ := PpIn.cells ((unhide T).below (unhide B1)).pgs hq1
        subst hap
        cases hgq : gs[q] with
        | true =>
          rw [hgq] at HGT g0
          have Z := hide (unhide IXF (unhide KN HGT))
          clear HGT d0 d1 d2 d3 d4
          go_quiet ((go_at_call 22; exact Calls.quiet_of_same (unhide HI _)))
          go_wp2_with fail
          go_ret
          exact ⟨ret_bool (unhide Z), unhide BE _⟩
        | false =>
          rw [hgq] at HGT g0
          by_cases hlo : hs[q].X.lo = low
          case neg =>
            have Z := hide (unhide IXF (unhide KO _ HGT hlo))
            have hne : (hs[q].X.lo.toList == low.toList) = false := by
              cases hq2 : (hs[q].X.lo.toList == low.toList) with
              | false => rfl
              | true => exact absurd (toList_inj (by simpa using hq2)) hlo
            clear HGT d1 d2 d3 d4
            generalize hs[q] = pd at *
            obtain ⟨X, s0', s1'⟩ := pd
            simp only at d0 hne hlo
            go_quiet ((go_at_call 22; exact Calls.quiet_of_same (unhide HI _)))
            go_wp2_with fail
            go_ret
            exact ⟨ret_bool (unhide Z), unhide BE _⟩
          have KH2 := hide (unhide KH _ HGT hlo)
          rw [hlo] at d0
          clear HGT d1 d2 d3 d4 hlo
          by_cases hk0 : j = 0
          · have E := hide (unhide KH2 fun h => by omega)
            subst hk0
            go_quiet ((go_at_call 22; exact Calls.quiet_of_same (unhide HI _)))
            go_wp2_with fail
            go_roundw
            case rel => exact ⟨1, by omega, by go_num, unhide ST (unhide E), bel_drewN (unhide B1) _⟩
            case measure => simp [intOf]; omega
          have hkp : 0 < j := by omega
          obtain ⟨b4, off4, e4, z0, _⟩ := unhide PRE hkp _ (unhide B1)
          injection e4 with e4
          injection e4 with e5 e6
          subst e5 e6
          have hi1 : ((j : Int) - 1).toNat = j - 1 := by omega
          have hwr : IntKind.i64.wrap ((j : Int) - 1) = (j : Int) - 1 := by rw [IntKind.wrap_i64]; omega
          have hin : 0 ≤ (j : Int) - 1 ∧ (j : Int) - 1 < (ni : Int) := by omega
          have hgt : decide ((0 : Int) < (j : Int)) = true := decide_eq_true (by omega)
          have KT2 := hide (unhide KT hkp)
          have KH3 := hide (fun (e : ltK (idx[j - 1]'(by omega)).low low = true) => unhide KH2 fun _ => e)
          clear PRE KT KH2
          generalize idx[j - 1] = py at *
          obtain ⟨plow, pid⟩ := py
          simp only at z0 KT2 KH3
          unfold ltK at KT2 KH3
          cases hlt3 : Op.bytesLess plow.toList low.toList with
          | false =>
            have Z := hide (unhide IXF (unhide KT2 hlt3))
            go_quiet ((go_at_call 22; exact Calls.quiet_of_same (unhide HI _)))
            go_wp2_with fail
            go_ret
            exact ⟨ret_bool (unhide Z), unhide BE _⟩
          | true =>
            have E := hide (unhide KH3 hlt3)
            go_quiet ((go_at_call 22; exact Calls.quiet_of_same (unhide HI _)))
            go_wp2_with fail
            go_roundw
            case rel => exact ⟨j + 1, by omega, by go_num, unhide ST (unhide E), bel_drewN (unhide B1) _⟩
            case measure => simp [intOf]; omega
    have hk1 : k < hs.length := by omega
    have hk2 : k < gs.length := by omega
    obtain ⟨b', off', hag, g0⟩ := RowC.at ((unhide T).below hb).gone (j := k) (u := .bool gs[k]) (by rw [List.getElem?_map, List.getElem?_eq_getElem hk2]; rfl)
    subst hag
    obtain ⟨b, off, hap, hbl, d0, d1, d2, d3, d4⟩ := PpIn.cells ((unhide T).below hb).pgs hk1
    subst hap
    have SUB := PpIn.sub ((unhide T).below hb).pgs hk1
    have HP := hide (specPageOK_any hs[k].X.lo hs[k].X.hi hs[k].X.r hs[k].s0.a hs[k].s0.n hs[k].s0.c hs[k].X.es hs[k].s1.a hs[k].s1.n hs[k].s1.c hs[k].X.ds wr (erow_C SUB.1) (drow_C SUB.2) (hcb _ (List.getElem_mem hk1)))
    have HN := hide (fun u => l05Empty_any hs[k].X.lo hs[k].X.hi hs[k].X.r hs[k].s0.a hs[k].s0.n hs[k].s0.c hs[k].s1.a hs[k].s1.n hs[k].s1.c u)
    rw [show emptyP hs[k].X.lo hs[k].X.hi hs[k].X.r hs[k].s0.n hs[k].s1.n = noP hs[k].X by
      unfold emptyP noP
      rw [rowC_len SUB.1, rowC_len SUB.2]] at HN
    have BAD := hide (fun e => okT_page (idx := idx) hk1 hk2 e)
    rw [pgOK_parts] at BAD
    have ST := hide (show pgOK hs[k].X gs[k] = true → ∀ i (_ : i < k + 1) (h1 : i < hs.length) (h2 : i < gs.length), pgOK hs[i].X gs[i] = true from fun h i hi h1 h2 => by
      by_cases e : i < k
      · exact unhide hok i e h1 h2
      · obtain rfl : i = k := by omega
        exact h)
    rw [pgOK_parts] at ST
    rw [show okPage hs[k].X.lo hs[k].X.hi hs[k].X.r hs[k].X.es hs[k].X.ds = okP hs[k].X from rfl] at HP
    clear SUB hok
    unfold pgv at HP
    generalize gs[k] = gk at *
    generalize okP hs[k].X = ok1 at *
    generalize noP hs[k].X = no1 at *
    generalize hs[k] = pd at *
    obtain ⟨X, ⟨a0, n0, c0⟩, ⟨a1, n1, c1⟩⟩ := pd
    simp only at d0 d1 d2 d3 d4 HP HN
    go_wp2_with fail
    refine (unhide HP).mono ?_
    rintro e w2 ⟨rfl, hb2⟩
    have bA := hide (hb.trans (hb2.mono hb.size))
    have s0' := (hb2.cell (p := ⟨w.heap.size, 0, none⟩) (cell_lt s0)).trans s0
    have s1' := (hb2.cell (p := ⟨w.heap.size, 1, none⟩) (cell_lt s1)).trans s1
    have g0' := (hb2.cell (p := ⟨b', off' + k, none⟩) (cell_lt g0)).trans g0
    have e0 := (hb2.cell (p := ⟨b, off + k * 5, none⟩) (cell_lt d0)).trans d0
    have e1 := (hb2.cell (p := ⟨b, off + k * 5 + 1, none⟩) (cell_lt d1)).trans d1
    have e2 := (hb2.cell (p := ⟨b, off + k * 5 + 2, none⟩) (cell_lt d2)).trans d2
    have e3 := (hb2.cell (p := ⟨b, off + k * 5 + 3, none⟩) (cell_lt d3)).trans d3
    have e4 := (hb2.cell (p := ⟨b, off + k * 5 + 4, none⟩) (cell_lt d4)).trans d4
    clear HP d0 d1 d2 d3 d4 g0 s0 s1 s2 hb hb2 bR
    cases ok1
    · have Z := hide (unhide BAD rfl)
      go_wp2_with fail
      go_ret
      exact ⟨ret_bool (unhide Z).symm, unhide BT _ (unhide bA)⟩
    cases gk
    · have Z := hide (unhide ST rfl)
      go_wp2_with fail
      go_roundw
      case rel => exact ⟨k + 1, by omega, by go_num, Z, unhide bA⟩
      case measure => simp [intOf]; omega
    go_wp2_with fail
    refine (unhide HN _).mono ?_
    rintro e w3 ⟨rfl, hb3⟩
    have bB := hide ((unhide bA).trans (hb3.mono (unhide bA).size))
    clear HN s0' s1' g0' e0 e1 e2 e3 e4
    cases no1
    · have Z := hide (unhide BAD rfl)
      go_wp2_with fail
      go_ret
      exact ⟨ret_bool (unhide Z).symm, unhide BT _ (unhide bB)⟩
    · have Z := hide (unhide ST rfl)
      go_wp2_with fail
      go_roundw
      case rel => exact ⟨k + 1, by omega, by go_num, Z, unhide bB⟩
      case measure => simp [intOf]; omega
end Go.Proofs.Ytdajoapbdeplhaa

namespace Go.Proofs.Ytdajoapbdeplhaa
open Go.RowKit

set_option maxHeartbeats 1000000 in
theorem implTreeOK_any (ap : Option Addr) (np cp : Nat) (ag : Option Addr) (ng cg : Nat) (ai : Option Addr) (ni ci : Nat) (hs : List PpH) (gs : List Bool) (idx : List RefD) (w : World) (hT : TrIn w ap np cp ag ng cg ai ni hs gs idx) (hci : ai = none → ci = 0) :
    Calls Try.prog 9 #[.agg #[.slice ap np cp, .slice ag ng cg, .slice ai ni ci]] w fun e w' => e = .returned (.bool (okT (trd hs gs idx))) ∧ Below w.heap.size w w' := by
  have b0 : ∀ o, Below w.heap.size w (w.alloc o) := fun o => (Below.refl _ _).alloc (Nat.le_refl _) _
  have C := hide (fun o => tableOf_any ap np cp ag ng cg ai ni ci hs gs idx (w.alloc o) (hT.below (b0 o)) hci)
  clear hT
  go_enter Try.func9, Try.ntmps9
  go_wp2_with fail
  refine (unhide C _).mono ?_
  rintro e w2 ⟨v, rfl, hb, _⟩
  go_wp2_with fail
  go_ret
  exact ⟨rfl, (b0 _).trans (hb.mono (b0 _).size)⟩
end Go.Proofs.Ytdajoapbdeplhaa

namespace Go.Proofs.Ytdajoapbdeplhaa
open Go.RowKit

/-- A tree that was made of one that came in. -/
structure TrMade (w : World) (B np ng ni g1 g2 g3 : Nat) (hs' hs : List PpH) (gs : List Bool) (idx : List RefD) : Prop where
  own : TrOwn w B np ng (.slice (some ⟨g1, 0, none⟩) np np) (.slice (some ⟨g2, 0, none⟩) ng ng) (.slice (some ⟨g3, 0, none⟩) ni ni) hs' gs idx
  same : hs'.map (·.X) = hs.map (·.X)
theorem TrMade.below {w w' : World} {B np ng ni g1 g2 g3 : Nat} {hs' hs : List PpH} {gs : List Bool} {idx : List RefD} (h : TrMade w B np ng ni g1 g2 g3 hs' hs gs idx) (hb : Below w.heap.size w w') : TrMade w' B np ng ni g1 g2 g3 hs' hs gs idx := ⟨h.own.below hb, h.same⟩
theorem TrMade.cap {w : World} {B np ng ni g1 g2 g3 : Nat} {hs' hs : List PpH} {gs : List Bool} {idx : List RefD} (h : TrMade w B np ng ni g1 g2 g3 hs' hs gs idx) : ∀ x ∈ hs', x.s0.a = none → x.s0.c = 0 := fun x hx e => by
  obtain ⟨i, a, ha⟩ := sbAt_of (es := hs'.map ppEl) (List.mem_map_of_mem hx) (x := ⟨79, 2, x.X.es.length, .slice x.s0.a x.s0.n x.s0.c, ecs x.X.es⟩) (List.Mem.head _)
  rcases (h.own.pg.dat i a _ ha).2 with ⟨e2, _⟩ | ⟨g, cap, cur, e2, _⟩
  · injection e2
  · rw [e] at e2
    injection e2 with e2
    cases e2
theorem tr_lens {w : World} {v : Value} {n : Nat} {hs : List PpH} (h : PpIn w v n hs) : ∀ x ∈ hs, x.s0.n = x.X.es.length ∧ x.s1.n = x.X.ds.length := fun x hx => by
  obtain ⟨i, hi, e⟩ := List.getElem_of_mem hx
  have := PpIn.sub h hi
  rw [e] at this
  exact ⟨rowC_len this.1, rowC_len this.2⟩
theorem TrMade.few {w w0 : World} {B np ng ni g1 g2 g3 : Nat} {hs' hs : List PpH} {gs : List Bool} {idx : List RefD} {v : Value} {n : Nat} (h : TrMade w B np ng ni g1 g2 g3 hs' hs gs idx) (h0 : PpIn w0 v n hs) (hl : ∀ h ∈ hs, h.s0.n ≤ 1048576 ∧ h.s1.n ≤ 1048576) : ∀ h ∈ hs', h.s0.n ≤ 1048576 ∧ h.s1.n ≤ 1048576 := fun x hx => by
  obtain ⟨a1, a2⟩ := tr_lens h.own.pg.reads x hx
  have hm : x.X ∈ hs.map (·.X) := by rw [← h.same]; exact List.mem_map_of_mem hx
  obtain ⟨y, hy, e⟩ := List.mem_map.1 hm
  obtain ⟨c1, c2⟩ := tr_lens h0 y hy
  have := hl y hy
  rw [a1, a2, ← e, ← c1, ← c2]
  exact this
theorem TrMade.okT {w : World} {B np ng ni g1 g2 g3 : Nat} {hs' hs : List PpH} {gs : List Bool} {idx : List RefD} (h : TrMade w B np ng ni g1 g2 g3 hs' hs gs idx) : trd hs' gs idx = trd hs gs idx := by unfold trd; rw [h.same]
theorem tr_cells {w : World} {b : Nat} {v0 v1 v2 : Value} {t : TypeId} (h : w.heap[b]? = some (.cells #[v0, v1, v2] t (0, 0))) : w.cell? ⟨b, 0, none⟩ = some v0 ∧ w.cell? ⟨b, 1, none⟩ = some v1 ∧ w.cell? ⟨b, 2, none⟩ = some v2 :=
  ⟨(heap_at h 0).1, (heap_at h 1).1, (heap_at h 2).1⟩
theorem tr_lt {w : World} {b : Nat} {o : Obj} (h : w.heap[b]? = some o) : b < w.heap.size := (Array.getElem?_eq_some_iff.1 h).1
set_option maxRecDepth 100000 in
set_option maxHeartbeats 8000000 in
theorem lawTreeOK_any (ap : Option Addr) (np cp : Nat) (ag : Option Addr) (ng cg : Nat) (ai : Option Addr) (ni ci : Nat) (hs : List PpH) (gs : List Bool) (idx : List RefD) (w : World) (hT : TrIn w ap np cp ag ng cg ai ni hs gs idx) (hC : TrCame w hs idx) (hn : np ≤ maxLen ∧ ng ≤ maxLen ∧ ni ≤ maxLen) :
    Calls Try.prog 3 #[.agg #[.slice ap np cp, .slice ag ng cg, .slice ai ni ci]] w fun e w' => e = .returned (.bool true) ∧ Below w.heap.size w w' := by
  have B : Below w.heap.size w (w.alloc (.cells #[.slice ap np cp, .slice ag ng cg, .slice ai ni ci] 26)) := (Below.refl _ _).alloc (Nat.le_refl _) _
  have P := hide hT
  have PC := hide hC
  have K := hide (heap_alloc_new w (.cells #[.slice ap np cp, .slice ag ng cg, .slice ai ni ci] 26))
  have cC : ∀ u, Below w.heap.size w u → TrCame u hs idx := fun u hu => ⟨fun h hh => (hC.pg h hh).below hu, hC.ix⟩
  have C0 := hide (fun u (hu : Below w.heap.size w u) => szTree_any ap np cp ag ng cg ai ni ci hs gs idx 1048576 u (by omega) (by omega) (hT.below hu) (cC u hu) hn)
  have CC := hide cC
  clear hT hC hn cC
  go_enter Try.func3, Try.ntmps3
  go_wp2_with fail
  generalize w.alloc (.cells #[.slice ap np cp, .slice ag ng cg, .slice ai ni ci] 26) = W0 at *
  refine (unhide C0 W0 B).mono ?_
  rintro e w1 ⟨q, rfl, hq, hb⟩
  replace K := hide ((hb.block w.heap.size (tr_lt (unhide K))).trans (unhide K))
  replace B := B.trans (hb.mono B.size)
  clear hb C0
  rcases hq with rfl | ⟨q0, _, n1, n2, n3, hfew⟩
  · go_wp2_with fail
    go_ret
    exact ⟨rfl, B⟩
  have FEW := hide hfew
  clear hfew
  have CT := hide (show ∀ u, Below w.heap.size w u → Calls Try.prog 8 #[.agg #[.slice ap np cp, .slice ag ng cg, .slice ai ni ci]] u fun e w' => ∃ g1 g2 g3 hs', e = .returned (.agg #[.slice (some ⟨g1, 0, none⟩) np np, .slice (some ⟨g2, 0, none⟩) ng ng, .slice (some ⟨g3, 0, none⟩) ni ni]) ∧ TrMade w' u.heap.size np ng ni g1 g2 g3 hs' hs gs idx ∧ Below u.heap.size u w' from fun u hu => (toTree_any ap np cp ag ng cg ai ni ci hs gs idx u ((unhide P).below hu) (unhide CC u hu) ⟨n1, n2, n3⟩ (unhide FEW)).mono fun e w' h => by
    obtain ⟨g1, g2, g3, hs', e, o, x, b⟩ := h
    exact ⟨g1, g2, g3, hs', e, ⟨o, x⟩, b⟩)
  obtain ⟨R, hR⟩ : ∃ R, R = okT (trd hs gs idx) := ⟨_, rfl⟩
  have CS := hide (show ∀ (u : World) (B g1 g2 g3 : Nat) (hs' : List PpH), TrMade u B np ng ni g1 g2 g3 hs' hs gs idx → Calls Try.prog 7 #[.agg #[.slice (some ⟨g1, 0, none⟩) np np, .slice (some ⟨g2, 0, none⟩) ng ng, .slice (some ⟨g3, 0, none⟩) ni ni]] u fun e w' => e = .returned (.bool R) ∧ Below u.heap.size u w' from fun u B g1 g2 g3 hs' ho => by
    rw [hR, ← ho.okT]; exact specTreeOK_any _ _ _ _ _ _ _ _ _ hs' gs idx u ho.own.reads ho.cap)
  have CI := hide (show ∀ (u : World) (B g1 g2 g3 : Nat) (hs' : List PpH), TrMade u B np ng ni g1 g2 g3 hs' hs gs idx → Calls Try.prog 9 #[.agg #[.slice (some ⟨g1, 0, none⟩) np np, .slice (some ⟨g2, 0, none⟩) ng ng, .slice (some ⟨g3, 0, none⟩) ni ni]] u fun e w' => e = .returned (.bool R) ∧ Below u.heap.size u w' from fun u B g1 g2 g3 hs' ho => by
    rw [hR, ← ho.okT]; exact implTreeOK_any _ _ _ _ _ _ _ _ _ hs' gs idx u ho.own.reads (fun h => by cases h))
  have CQ := hide (show ∀ (u : World) (B g1 g2 g3 B' h1 h2 h3 : Nat) (hs1 hs2 : List PpH), TrMade u B np ng ni g1 g2 g3 hs1 hs gs idx → TrMade u B' np ng ni h1 h2 h3 hs2 hs gs idx → Calls Try.prog 10 #[.agg #[.slice (some ⟨g1, 0, none⟩) np np, .slice (some ⟨g2, 0, none⟩) ng ng, .slice (some ⟨g3, 0, none⟩) ni ni], .agg #[.slice (some ⟨h1, 0, none⟩) np np, .slice (some ⟨h2, 0, none⟩) ng ng, .slice (some ⟨h3, 0, none⟩) ni ni]] u fun e w' => e = .returned (.bool true) ∧ Below u.heap.size u w' from fun u B g1 g2 g3 B' h1 h2 h3 hs1 hs2 o1 o2 =>
    eqTree_any _ _ np _ _ _ _ ng _ _ _ _ ni _ _ hs1 hs2 gs idx u o1.own.reads o2.own.reads (o2.same.trans o1.same.symm) ⟨n1, n2, n3⟩ (o1.few (unhide P).pgs (unhide FEW)))
  have hRR : (R != R) = false := by cases R <;> rfl
  clear hR P FEW CC PC
  obtain ⟨p0, p1, p2⟩ := tr_cells (unhide K)
  go_wp2_with fail
  refine (unhide CT w1 B).mono ?_
  rintro e w2 ⟨g1, g2, g3, hs2, rfl, ho, hb⟩
  replace K := hide ((hb.block w.heap.size (tr_lt (unhide K))).trans (unhide K))
  replace B := B.trans (hb.mono B.size)
  have O2 := hide ho
  clear hb ho p0 p1 p2
  go_wp2_with fail
  refine (unhide CS w2 _ _ _ _ _ (unhide O2)).mono ?_
  rintro e w3 ⟨rfl, hb⟩
  replace K := hide ((hb.block w.heap.size (tr_lt (unhide K))).trans (unhide K))
  replace B := B.trans (hb.mono B.size)
  clear hb O2 CS
  obtain ⟨p0, p1, p2⟩ := tr_cells (unhide K)
  go_wp2_with fail
  refine (unhide CT w3 B).mono ?_
  rintro e w4 ⟨x1, x2, x3, hs4, rfl, ho, hb⟩
  replace K := hide ((hb.block w.heap.size (tr_lt (unhide K))).trans (unhide K))
  replace B := B.trans (hb.mono B.size)
  clear hb p0 p1 p2
  have hb : Below w4.heap.size w4 (w4.alloc (.cells #[.slice (some ⟨x1, 0, none⟩) np np, .slice (some ⟨x2, 0, none⟩) ng ng, .slice (some ⟨x3, 0, none⟩) ni ni] 32)) := (Below.refl _ _).alloc (Nat.le_refl _) _
  have X := hide (heap_alloc_new w4 (.cells #[.slice (some ⟨x1, 0, none⟩) np np, .slice (some ⟨x2, 0, none⟩) ng ng, .slice (some ⟨x3, 0, none⟩) ni ni] 32))
  replace K := hide ((hb.block w.heap.size (tr_lt (unhide K))).trans (unhide K))
  replace B := B.trans (hb.mono B.size)
  have OX := hide (ho.below hb)
  clear hb ho
  go_wp2_with fail
  generalize w4.alloc (.cells #[.slice (some ⟨x1, 0, none⟩) np np, .slice (some ⟨x2, 0, none⟩) ng ng, .slice (some ⟨x3, 0, none⟩) ni ni] 32) = w5 at *
  generalize hxb : w4.heap.size = xb at *
  refine (unhide CI w5 _ _ _ _ _ (unhide OX)).mono ?_
  rintro e w6 ⟨rfl, hb⟩
  replace K := hide ((hb.block w.heap.size (tr_lt (unhide K))).trans (unhide K))
  replace X := hide ((hb.block xb (tr_lt (unhide X))).trans (unhide X))
  replace OX := hide ((unhide OX).below hb)
  replace B := B.trans (hb.mono B.size)
  clear hb CI hxb
  have SK := hide (show ∀ u, Below w6.heap.size w6 u → (fun u => Below w6.heap.size w6 u ∧ u.cell? ⟨w.heap.size, 0, none⟩ = some (.slice ap np cp) ∧ u.cell? ⟨w.heap.size, 1, none⟩ = some (.slice ag ng cg) ∧ u.cell? ⟨w.heap.size, 2, none⟩ = some (.slice ai ni ci) ∧ u.cell? ⟨xb, 0, none⟩ = some (.slice (some ⟨x1, 0, none⟩) np np) ∧ u.cell? ⟨xb, 1, none⟩ = some (.slice (some ⟨x2, 0, none⟩) ng ng) ∧ u.cell? ⟨xb, 2, none⟩ = some (.slice (some ⟨x3, 0, none⟩) ni ni)) u from fun u hb => by
    obtain ⟨m0, m1, m2⟩ := tr_cells ((hb.block w.heap.size (tr_lt (unhide K))).trans (unhide K))
    obtain ⟨i0, i1, i2⟩ := tr_cells ((hb.block xb (tr_lt (unhide X))).trans (unhide X))
    exact ⟨hb, m0, m1, m2, i0, i1, i2⟩)
  have DT := hide (fun (u : World) (hb : Below w6.heap.size w6 u) => (unhide CT u (B.trans (hb.mono B.size))).mono fun e u' h => show ∃ g1 g2 g3 hs', e = .returned (.agg #[.slice (some ⟨g1, 0, none⟩) np np, .slice (some ⟨g2, 0, none⟩) ng ng, .slice (some ⟨g3, 0, none⟩) ni ni]) ∧ TrMade u' u.heap.size np ng ni g1 g2 g3 hs' hs gs idx ∧ Below w6.heap.size w6 u' by
    obtain ⟨g1, g2, g3, hs', e, o, b⟩ := h
    exact ⟨g1, g2, g3, hs', e, o, hb.trans (b.mono hb.size)⟩)
  have DQ := hide (fun (u : World) (hb : Below w6.heap.size w6 u) (B' h1 h2 h3 : Nat) (hs2 : List PpH) (o2 : TrMade u B' np ng ni h1 h2 h3 hs2 hs gs idx) => (unhide CQ u _ _ _ _ _ _ _ _ _ _ ((unhide OX).below hb) o2).mono fun e u' h => show e = .returned (.bool true) ∧ Below w6.heap.size w6 u' from ⟨h.1, hb.trans (h.2.mono hb.size)⟩)
  have G0 : Below w6.heap.size w6 w6.drew := (Below.refl _ _).drew
  clear CT CQ
  go_wp2_with fail
  go_region_held3 (fun u => Below w6.heap.size w6 u ∧ u.cell? ⟨w.heap.size, 0, none⟩ = some (.slice ap np cp) ∧ u.cell? ⟨w.heap.size, 1, none⟩ = some (.slice ag ng cg) ∧ u.cell? ⟨w.heap.size, 2, none⟩ = some (.slice ai ni ci) ∧ u.cell? ⟨xb, 0, none⟩ = some (.slice (some ⟨x1, 0, none⟩) np np) ∧ u.cell? ⟨xb, 1, none⟩ = some (.slice (some ⟨x2, 0, none⟩) ng ng) ∧ u.cell? ⟨xb, 2, none⟩ = some (.slice (some ⟨x3, 0, none⟩) ni ni)) (exact unhide SK _ (by assumption)) (first
    | (go_at_call 8; refine (unhide DT _ (by assumption)).mono ?_; rintro e w7 ⟨h1, h2, h3, hs7, rfl, o7, b7⟩; have H7 := hide o7; clear o7)
    | (go_at_call 10; refine (unhide DQ _ (by assumption) _ _ _ _ _ (unhide H7)).mono ?_; rintro e w8 ⟨rfl, b8⟩))
  clear b7 H7 G0 DT DQ SK
  have BF := B.trans (b8.mono B.size)
  clear b8
  go_wp2_with fail
  go_ret
  exact ⟨rfl, BF⟩
end Go.Proofs.Ytdajoapbdeplhaa

namespace Go.Proofs.Ytdajoapbdeplhaa
open Go.RowKit

theorem count2 {α : Type} {P : α → Bool} : ∀ {l : List α} {i j : Nat} {x y : α}, l[i]? = some x → l[j]? = some y → i < j → P x = true → P y = true → 2 ≤ l.countP P
  | [], i, _, _, _, h, _, _, _, _ => by simp at h
  | z :: l, 0, j + 1, x, y, hx, hy, _, px, py => by
    simp only [List.getElem?_cons_zero, Option.some.injEq] at hx
    subst hx
    rw [List.countP_cons, if_pos px]
    have : 1 ≤ l.countP P := List.countP_pos_iff.2 ⟨y, List.mem_of_getElem? (by simpa using hy), py⟩
    omega
  | z :: l, i + 1, j + 1, x, y, hx, hy, hij, px, py => by
    have := count2 (P := P) (l := l) (i := i) (j := j) (by simpa using hx) (by simpa using hy) (by omega) px py
    rw [List.countP_cons]
    omega
/-- Pages that begin at a text or behind it, but ahead of another one. -/
def btP (low hi : ByteArray) (q : Option PageD) : Bool := geP low q && !geP hi q
theorem count_bt (low hi : ByteArray) (h : ltK low hi = true) : ∀ ps : List (Option PageD), cntGe ps low = ps.countP (btP low hi) + cntGe ps hi
  | [] => rfl
  | q :: ps => by
    have ih := count_bt low hi h ps
    unfold cntGe at *
    rw [List.countP_cons, List.countP_cons, List.countP_cons, ih]
    have key : (if geP low q = true then 1 else 0) = (if btP low hi q = true then 1 else 0) + (if geP hi q = true then 1 else 0) := by
      unfold btP
      cases h2 : geP hi q with
      | false => cases geP low q <;> rfl
      | true =>
        have : geP low q = true := by
          cases q with
          | none => cases h2
          | some r =>
            rw [geP_some, Bool.not_eq_true'] at h2 ⊢
            cases h3 : ltK r.lo low
            · rfl
            · have := ltK_trans h3 h
              rw [h2] at this
              cases this
        rw [this]
        rfl
    omega
theorem goT_count {ps : List (Option PageD)} (hok : ∀ p, some p ∈ ps → okP p = true) : ∀ (m : Nat) (id : Int) (low : ByteArray), goT ps m id low = true → m ≤ cntGe ps low
  | 0, _, _, _ => Nat.zero_le _
  | m + 1, id, low, h => by
    cases hg : getP ps id with
    | none => rw [goT_none hg] at h; cases h
    | some p =>
      by_cases hl : p.lo = low
      · rw [goT_next hg hl] at h
        have hm := getP_mem hg
        subst hl
        cases m with
        | zero => exact cntGe_here hm
        | succ m =>
          have ih := goT_count hok (m + 1) _ _ h
          cases hn : getP ps (riP p) with
          | none => rw [goT_none hn] at h; cases h
          | some p2 =>
            obtain ⟨b1, b2⟩ := okP_bd (hok p hm)
            cases he : (hiP p).toList.isEmpty with
            | true => rw [b1 he, getP_neg (by omega)] at hn; cases hn
            | false =>
              have := cntGe_next hm (b2 he).1
              omega
      · rw [goT_other hg hl] at h; cases h
/-- What stands to the right of a page. -/
def NextP (ps : List (Option PageD)) (p : PageD) : Prop := (riP p = -1 ∧ (hiP p).toList.isEmpty = true) ∨ (ltK p.lo (hiP p) = true ∧ ∃ p2, getP ps (riP p) = some p2 ∧ p2.lo = hiP p)
theorem getP_at {ps : List (Option PageD)} {x : Int} {p : PageD} (h : getP ps x = some p) : ∃ k : Nat, x = (k : Int) ∧ ps[k]? = some (some p) := by
  by_cases h0 : x < 0
  · rw [getP_neg h0] at h; cases h
  · obtain ⟨k, rfl⟩ : ∃ k : Nat, x = (k : Int) := ⟨x.toNat, by omega⟩
    refine ⟨k, rfl, ?_⟩
    rw [getP_nat] at h
    cases hq : ps[k]? with
    | none => rw [hq] at h; cases h
    | some q => rw [hq] at h; rw [show q = some p from h]
theorem one_at {ps : List (Option PageD)} {P : Option PageD → Bool} {x y : Int} {p q : PageD} (h1 : ps.countP P ≤ 1) (hp : getP ps x = some p) (hq : getP ps y = some q) (pp : P (some p) = true) (pq : P (some q) = true) : q = p := by
  obtain ⟨i, rfl, hi⟩ := getP_at hp
  obtain ⟨j, rfl, hj⟩ := getP_at hq
  rcases Nat.lt_trichotomy i j with h | h | h
  · have := count2 hi hj h pp pq; omega
  · subst h
    rw [hi] at hj
    injection hj with hj
    injection hj with hj
    exact hj.symm
  · have := count2 hj hi h pq pp; omega
theorem goT_cover {ps : List (Option PageD)} (hok : ∀ p, some p ∈ ps → okP p = true) : ∀ (m : Nat) (id : Int) (low : ByteArray), goT ps m id low = true → cntGe ps low ≤ m → ∀ (y : Int) (q : PageD), getP ps y = some q → ltK q.lo low = false → NextP ps q
  | 0, _, low, _, hc, y, q, hq, hl => by
    exfalso
    have : 1 ≤ cntGe ps low := List.countP_pos_iff.2 ⟨_, getP_mem hq, by rw [geP_some, hl]; rfl⟩
    omega
  | m + 1, id, low, h, hc, y, q, hq, hl => by
    cases hg : getP ps id with
    | none => rw [goT_none hg] at h; cases h
    | some p =>
      by_cases hlo : p.lo = low
      · rw [goT_next hg hlo] at h
        have hm := getP_mem hg
        subst hlo
        obtain ⟨b1, b2⟩ := okP_bd (hok p hm)
        cases m with
        | zero =>
          have hone : q = p := one_at (P := geP p.lo) hc hg hq (by rw [geP_some, ltK_irr]; rfl) (by rw [geP_some, hl]; rfl)
          subst hone
          unfold goT at h
          rw [Bool.and_eq_true] at h
          exact .inl ⟨b1 h.2, h.2⟩
        | succ m =>
          cases hn : getP ps (riP p) with
          | none => rw [goT_none hn] at h; cases h
          | some p2 =>
            cases he : (hiP p).toList.isEmpty with
            | true => rw [b1 he, getP_neg (by omega)] at hn; cases hn
            | false =>
              have hlt := (b2 he).1
              have h2 : p2.lo = hiP p := by
                by_cases e : p2.lo = hiP p
                · exact e
                · rw [goT_other hn e] at h; cases h
              have hcb := count_bt p.lo (hiP p) hlt ps
              have hge := goT_count hok _ _ _ h
              have hpos : 1 ≤ ps.countP (btP p.lo (hiP p)) := List.countP_pos_iff.2 ⟨_, hm, by unfold btP; rw [geP_some, geP_some, ltK_irr, hlt]; rfl⟩
              cases hqh : ltK q.lo (hiP p) with
              | false => exact goT_cover hok (m + 1) _ _ h (by omega) y q hq hqh
              | true =>
                have hone : q = p := one_at (P := btP p.lo (hiP p)) (by omega) hg hq (by unfold btP; rw [geP_some, geP_some, ltK_irr, hlt]; rfl) (by unfold btP; rw [geP_some, geP_some, hl, hqh]; rfl)
                subst hone
                exact .inr ⟨hlt, p2, hn, h2⟩
      · rw [goT_other hg hlo] at h; cases h
theorem ltK_none (a : ByteArray) : ltK a ⟨#[]⟩ = false := by
  unfold ltK
  rw [show (⟨#[]⟩ : ByteArray).toList = [] by rw [ByteArray.toList_eq]]
  cases a.toList <;> rfl
theorem next_of {ps : List (Option PageD)} (hok : ∀ p, some p ∈ ps → okP p = true) (hg : goT ps (manyT ps) 0 ⟨#[]⟩ = true) {y : Int} {q : PageD} (h : getP ps y = some q) : NextP ps q :=
  goT_cover hok (manyT ps) 0 ⟨#[]⟩ hg (cntGe_many ps _) y q h (ltK_none _)
end Go.Proofs.Ytdajoapbdeplhaa

namespace Go.Proofs.Ytdajoapbdeplhaa
open Go.RowKit

/-- A Ref as an entry. -/
def refE (x : RefD) : EntD := ⟨x.low, ByteArray.empty⟩
def RiseR (ds : List RefD) : Prop := Rise (ds.map refE)
theorem RiseR.le {ds : List RefD} (h : RiseR ds) {k : ByteArray} {i j : Nat} (hj : j < ds.length) (hij : i ≤ j) (hl : ltK ds[j].low k = true) : ltK (ds[i]'(by omega)).low k = true := by
  have := Rise.le (es := ds.map refE) h (k := k) (i := i) (j := j) (by simpa using hj) hij (by simpa [refE] using hl)
  simpa [refE] using this
theorem RiseR.ge {ds : List RefD} (h : RiseR ds) {k : ByteArray} {i j : Nat} (hj : j < ds.length) (hij : i ≤ j) (hi : ltK (ds[i]'(by omega)).low k = false) : ltK ds[j].low k = false := by
  have := Rise.ge (es := ds.map refE) h (k := k) (i := i) (j := j) (by simpa using hj) hij (by simpa [refE] using hi)
  simpa [refE] using this
theorem pos_leR (ds : List RefD) (k : ByteArray) : pos (ds.map refE) k ≤ ds.length := by have := pos_le (ds.map refE) k; simpa using this
theorem pos_uniR (ds : List RefD) (k : ByteArray) (p : Nat) (hp : p ≤ ds.length) (h1 : ∀ i (hi : i < ds.length), i < p → ltK ds[i].low k = true) (h2 : ∀ hi : p < ds.length, ltK (ds[p]'hi).low k = false) : p = pos (ds.map refE) k :=
  pos_uni (ds.map refE) k p (by simpa using hp) (fun i hi hlt => by have := h1 i (by simpa using hi) hlt; simpa [refE] using this) (fun hi => by have := h2 (by simpa using hi); simpa [refE] using this)
theorem lowOf_any (k : ByteArray) (v : Int) (w : World) : Calls Try.prog 81 #[.agg #[.string k, .int .i64 v]] w fun e w' => e = .returned (.string k) ∧ Below w.heap.size w w' := by
  go_enter Try.func81, Try.ntmps81
  go_wp2_with fail
  go_ret
  exact ⟨rfl, (Below.refl _ _).alloc (Nat.le_refl _) _⟩
set_option maxRecDepth 100000 in
set_option maxHeartbeats 4000000 in
theorem searchR_any (a : Option Addr) (n c : Nat) (es : List RefD) (k : ByteArray) (w : World) (hR : JRow w a n es) (hS : RiseR es) (hn : n ≤ 100000) :
    Calls Try.prog 80 #[.slice a n c, .string k, .func (.func 81) #[] #[]] w fun e w' => e = .returned (.tuple #[.int .i64 (pos (es.map refE) k : Nat), .bool (found (es.map refE) k)]) ∧ Below w.heap.size w w' := by
  have R := hide hR
  have S := hide hS
  have L := hR.1
  clear hR hS
  have PL := hide (pos_leR es k)
  go_enter Try.func80, Try.ntmps80
  go_wp2_with fail
  go_loopw [8, 9] (fun x y wr => ∃ (f t : Nat), x = .int .i64 (f : Int) ∧ y = .int .i64 (t : Int) ∧ f ≤ t ∧ t ≤ n ∧ Hid (∀ i (hi : i < es.length), i < f → ltK es[i].low k = true) ∧ Hid (∀ i (hi : i < es.length), t ≤ i → ltK es[i].low k = false) ∧ Below w.heap.size w wr) (fun x y _ => (intOf y).toNat - (intOf x).toNat)
  case atStart => exact ⟨0, n, rfl, rfl, Nat.zero_le _, Nat.le_refl _, fun i _ h => absurd h (Nat.not_lt_zero _), fun i hi h => absurd hi (by omega), Below.refl _ _⟩
  case round =>
    obtain ⟨f, t, rfl, rfl, hft, htn, hlo, hup, hb⟩ := hrel
    by_cases hlt : f < t
    · have R1 := hide ((unhide R).below hb)
      have hdiv : ((t : Int) - (f : Int)) / 2 = (((t - f) / 2 : Nat) : Int) := by omega
      obtain ⟨m, hmm⟩ : ∃ m, m = f + (t - f) / 2 := ⟨_, rfl⟩
      have hmi : (f : Int) + (((t - f) / 2 : Nat) : Int) = (m : Int) := by omega
      have hm' : m < es.length := by omega
      obtain ⟨b, off, rfl, c0, c1⟩ := (unhide R1).2 m hm'
      have hm1 : f ≤ m := by omega
      have hm2 : m < t := by omega
      have hmw : IntKind.i64.wrap (m : Int) = (m : Int) := by rw [IntKind.wrap_i64]; omega
      have HM := hide hmm
      clear hmm hmi hmw
      by_cases hl : Op.bytesLess es[m].low.toList k.toList = true
      · have LO := hide (show ∀ i (hi : i < es.length), i < m + 1 → ltK es[i].low k = true from fun i hi hlt => (unhide S).le hm' (by omega) hl)
        generalize es[m] = em at *
        rw [unhide HM] at c0 c1
        go_wp2_with fail
        refine (lowOf_any em.low em.id _).mono ?_
        rintro e w1 ⟨rfl, hb1⟩
        have B1 := hb.trans (hb1.mono hb.size)
        clear hb hb1
        go_wp2_with fail
        go_roundw
        case rel => exact ⟨m + 1, t, by rw [unhide HM]; go_num, rfl, by omega, htn, unhide LO, unhide hup, B1⟩
        case measure => have := unhide HM; simp [intOf]; omega
      · have hl' : Op.bytesLess es[m].low.toList k.toList = false := by simpa using hl
        have UP := hide (show ∀ i (hi : i < es.length), m ≤ i → ltK es[i].low k = false from fun i hi hle => (unhide S).ge hi hle hl')
        generalize es[m] = em at *
        rw [unhide HM] at c0 c1
        go_wp2_with fail
        refine (lowOf_any em.low em.id _).mono ?_
        rintro e w1 ⟨rfl, hb1⟩
        have B1 := hb.trans (hb1.mono hb.size)
        clear hb hb1
        go_wp2_with fail
        go_roundw
        case rel => exact ⟨f, m, rfl, by rw [unhide HM]; go_num, by omega, by omega, unhide hlo, unhide UP, B1⟩
        case measure => have := unhide HM; simp [intOf]; omega
    · obtain rfl : f = t := by omega
      have HP := hide (pos_uniR es k f (by omega) (unhide hlo) (fun hi => unhide hup f hi (Nat.le_refl _)))
      have FD := hide (show found (es.map refE) k = match (es.map refE)[f]? with
        | some e => e.k.toList == k.toList
        | none => false by rw [unhide HP]; rfl)
      by_cases hi : f < es.length
      · have R1 := hide ((unhide R).below hb)
        obtain ⟨b, off, rfl, c0, c1⟩ := (unhide R1).2 f hi
        have FD2 := hide (show (es[f].low.toList == k.toList) = found (es.map refE) k by rw [unhide FD, List.getElem?_map, List.getElem?_eq_getElem hi]; rfl)
        clear FD
        generalize es[f] = em at *
        have hfn : f < n := by omega
        go_wp2_with fail
        refine (lowOf_any em.low em.id _).mono ?_
        rintro e w1 ⟨rfl, hb1⟩
        have B1 := hb.trans (hb1.mono hb.size)
        clear hb hb1
        go_wp2_with fail
        go_ret2
        exact ⟨tup_ib (by rw [← unhide HP]) (unhide FD2), B1⟩
      · have FD2 := hide (show false = found (es.map refE) k by rw [unhide FD, List.getElem?_map, List.getElem?_eq_none (by omega)]; rfl)
        clear FD
        have hfn : ¬ f < n := by omega
        go_wp2_with fail
        go_ret2
        exact ⟨tup_ib (by rw [← unhide HP]) (unhide FD2), hb⟩
set_option maxHeartbeats 1000000 in
theorem searchRef_any (a : Option Addr) (n c : Nat) (es : List RefD) (k : ByteArray) (w : World) (hR : JRow w a n es) (hS : RiseR es) (hn : n ≤ 100000) :
    Calls Try.prog 63 #[.slice a n c, .string k] w fun e w' => e = .returned (.tuple #[.int .i64 (pos (es.map refE) k : Nat), .bool (found (es.map refE) k)]) ∧ Below w.heap.size w w' := by
  have R := hide hR
  have S := hide hS
  clear hR hS
  go_enter Try.func63, Try.ntmps63
  go_wp2_with fail
  refine (searchR_any a n c es k w (unhide R) (unhide S) hn).mono ?_
  rintro e w1 ⟨rfl, hb1⟩
  go_wp2_with fail
  go_ret2
  exact ⟨rfl, hb1⟩
end Go.Proofs.Ytdajoapbdeplhaa

namespace Go.Proofs.Ytdajoapbdeplhaa
open Go.RowKit

/-- What a right tree is. -/
structure GoodT (ps : List (Option PageD)) (idx : List RefD) : Prop where
  len : 1 ≤ ps.length ∧ ps.length ≤ 30
  ok : ∀ p, some p ∈ ps → okP p = true
  go : goT ps (manyT ps) 0 ⟨#[]⟩ = true
  ix : okIdx ps idx = true
  zero : ∃ h : 0 < idx.length, idx[0].low = ⟨#[]⟩ ∧ idx[0].id = 0
  il : idx.length ≤ ps.length
theorem GoodT.ref {ps : List (Option PageD)} {idx : List RefD} (h : okIdx ps idx = true) {i : Nat} (hi : i < idx.length) : ∃ p, getP ps idx[i].id = some p ∧ p.lo = idx[i].low := by
  have h1 : okRef ps idx i = true := (List.all_eq_true.1 h) i (List.mem_range.2 hi)
  cases hg : getP ps idx[i].id with
  | none => rw [okRef_none hi hg] at h1; cases h1
  | some p =>
    by_cases e : p.lo = idx[i].low
    · exact ⟨p, rfl, e⟩
    · rw [okRef_other hi hg e] at h1; cases h1
theorem good_of {t : TreD} (h : okT t = true) : GoodT t.here t.idx := by
  unfold okT at h
  simp only [Bool.and_eq_true] at h
  obtain ⟨⟨⟨⟨hs, hp⟩, hi⟩, hz⟩, hg⟩ := h
  obtain ⟨h1, h2, h3, h4, h5⟩ := of_decide_eq_true hs
  have hl : t.here.length = t.ps.length := by unfold TreD.here; rw [List.length_zipWith]; omega
  have h0 : 0 < t.idx.length := by omega
  have hok : ∀ p, some p ∈ t.here → okP p = true := fun p hm => by
    obtain ⟨i, hi, e⟩ := List.mem_iff_getElem.1 hm
    unfold TreD.here at e hi
    rw [List.getElem_zipWith] at e
    unfold okPg at hp
    rw [List.all_eq_true] at hp
    have hw : i < (List.zipWith (fun p g => if g then noP p else okP p) t.ps t.gone).length := by rw [List.length_zipWith] at hi ⊢; exact hi
    have := hp _ (List.getElem_mem hw)
    rw [List.getElem_zipWith] at this
    split at e
    · cases e
    · rename_i hgn
      rw [if_neg hgn] at this
      injection e with e
      rw [← e]
      exact this
  have hgo : goT t.here (manyT t.here) 0 ⟨#[]⟩ = true := hg
  refine ⟨⟨by omega, by omega⟩, hok, hgo, hi, ⟨h0, ?_⟩, by omega⟩
  have hid : t.idx[0].id = 0 := by
    rw [List.getElem?_eq_getElem h0] at hz
    exact of_decide_eq_true hz
  refine ⟨?_, hid⟩
  obtain ⟨p, hgp, hlo⟩ := GoodT.ref hi h0
  rw [hid] at hgp
  have hm := manyT_pos hgp
  obtain ⟨m, hm2⟩ : ∃ m, manyT t.here = m + 1 := ⟨manyT t.here - 1, by omega⟩
  rw [hm2] at hgo
  rw [← hlo]
  by_cases e : p.lo = ⟨#[]⟩
  · exact e
  · rw [goT_other hgp e] at hgo; cases hgo
theorem GoodT.rise {ps : List (Option PageD)} {idx : List RefD} (h : okIdx ps idx = true) : RiseR idx := by
  unfold RiseR Rise
  rw [List.pairwise_iff_getElem]
  have key : ∀ (j : Nat) (hj : j < idx.length) (i : Nat) (hij : i < j), ltK (idx[i]'(by omega)).low idx[j].low = true := fun j => by
    induction j with
    | zero => intro _ i hij; omega
    | succ j ih =>
      intro hj i hij
      have h1 : okRef ps idx (j + 1) = true := (List.all_eq_true.1 h) (j + 1) (List.mem_range.2 hj)
      have h2 : ltK (idx[j]'(by omega)).low idx[j + 1].low = true := by
        cases e : ltK (idx[j]'(by omega)).low idx[j + 1].low with
        | true => rfl
        | false => rw [okRef_turn hj (by omega) (by simpa using e)] at h1; cases h1
      by_cases e : i = j
      · subst e; exact h2
      · exact ltK_trans (ih (by omega) i (by omega)) h2
  intro i j hi hj hij
  simp only [List.getElem_map, refE]
  exact key j (by simpa using hj) i hij
/-- The place of the last Ref that is not above a text. -/
def plR (idx : List RefD) (k : ByteArray) : Nat := if found (idx.map refE) k then pos (idx.map refE) k else pos (idx.map refE) k - 1
theorem pl_facts {idx : List RefD} {k : ByteArray} (hr : RiseR idx) (hz : ∃ h : 0 < idx.length, idx[0].low = ⟨#[]⟩ ∧ idx[0].id = 0) : ∃ h : plR idx k < idx.length, ltK k (idx[plR idx k]).low = false ∧ (∀ i (hi : i < idx.length), plR idx k < i → ltK k idx[i].low = true) ∧ (found (idx.map refE) k = false → 0 < pos (idx.map refE) k) := by
  obtain ⟨h0, hl0, _⟩ := hz
  have hpl := pos_leR idx k
  cases hf : found (idx.map refE) k with
  | true =>
    obtain ⟨hi, he⟩ := found_in hf
    have hi' : pos (idx.map refE) k < idx.length := by simpa using hi
    have he' : idx[pos (idx.map refE) k].low = k := by simpa [refE] using he
    have e : plR idx k = pos (idx.map refE) k := by unfold plR; rw [hf]; rfl
    have key : ∀ (P : Nat) (hP : P < idx.length), idx[P].low = k → ltK k idx[P].low = false ∧ ∀ i (hi : i < idx.length), P < i → ltK k idx[i].low = true := fun P hP e2 => by
      refine ⟨by rw [e2]; exact ltK_irr k, fun i hi hlt => ?_⟩
      have := Rise.lt (es := idx.map refE) hr (i := P) (j := i) (by simpa using hi) hlt
      simp only [List.getElem_map, refE] at this
      rw [e2] at this
      exact this
    rw [e]
    exact ⟨hi', (key _ hi' he').1, (key _ hi' he').2, fun h => by cases h⟩
  | false =>
    have hpos : 0 < pos (idx.map refE) k := by
      rcases Nat.eq_zero_or_pos (pos (idx.map refE) k) with hz | hz
      · have hi : pos (idx.map refE) k < (idx.map refE).length := by rw [hz]; simpa using h0
        have := found_not hf hi
        simp only [hz, List.getElem_map, refE] at this
        rw [hl0, ltK_none] at this
        cases this
      · exact hz
    have e : plR idx k = pos (idx.map refE) k - 1 := by unfold plR; rw [hf]; rfl
    rw [e]
    have hlt := pos_lt (idx.map refE) k (pos (idx.map refE) k - 1) (by simp; omega) (by omega)
    simp only [List.getElem_map, refE] at hlt
    refine ⟨by omega, ltK_asymm hlt, fun i hi hgt => ?_, fun _ => hpos⟩
    have hp : pos (idx.map refE) k < (idx.map refE).length := by simp; omega
    have h1 := found_not hf hp
    simp only [List.getElem_map, refE] at h1
    by_cases e2 : i = pos (idx.map refE) k
    · subst e2; exact h1
    · have := Rise.lt (es := idx.map refE) hr (i := pos (idx.map refE) k) (j := i) (by simpa using hi) (by omega)
      simp only [List.getElem_map, refE] at this
      exact ltK_trans h1 this
theorem pl_uni {idx : List RefD} {k : ByteArray} (hr : RiseR idx) (hz : ∃ h : 0 < idx.length, idx[0].low = ⟨#[]⟩ ∧ idx[0].id = 0) {p : Nat} (hp : p < idx.length) (h1 : ltK k idx[p].low = false) (h2 : ∀ i (hi : i < idx.length), p < i → ltK k idx[i].low = true) : p = plR idx k := by
  obtain ⟨hq, g1, g2, _⟩ := pl_facts (k := k) hr hz
  rcases Nat.lt_trichotomy p (plR idx k) with h | h | h
  · rw [h2 _ hq h] at g1; cases g1
  · exact h
  · rw [g2 _ hp h] at h1; cases h1
/-- From a page on to the right, up to the page that a text stands in. -/
def downF (ps : List (Option PageD)) (key : ByteArray) : Nat → Int → Nat → Int × Nat
  | 0, id, h => (id, h)
  | m + 1, id, h => match getP ps id with
    | none => (id, h)
    | some p => if underK key (hiP p) then (id, h) else downF ps key m (riP p) (h + 1)
/-- The page of a text, and how often one goes to the right. -/
def downT (ps : List (Option PageD)) (idx : List RefD) (key : ByteArray) : Int × Nat := match idx[plR idx key]? with
  | some x => downF ps key 40 x.id 0
  | none => (0, 0)
/-- Where a walk to the right stands. -/
structure DnSt (ps : List (Option PageD)) (key : ByteArray) (D : Int × Nat) (id : Int) (h : Nat) : Prop where
  here : ∃ p, getP ps id = some p ∧ ltK key p.lo = false ∧ h + cntGe ps p.lo ≤ manyT ps
  eq : D = downF ps key (40 - h) id h
theorem DnSt.few {ps : List (Option PageD)} {key : ByteArray} {D : Int × Nat} {id : Int} {h : Nat} (s : DnSt ps key D id h) (hl : ps.length ≤ 30) : h < 30 := by
  obtain ⟨p, hg, _, hc⟩ := s.here
  have := cntGe_here (getP_mem hg)
  have := manyT_le ps
  omega
theorem DnSt.start {ps : List (Option PageD)} {idx : List RefD} {key : ByteArray} (g : GoodT ps idx) (hp : plR idx key < idx.length) : DnSt ps key (downT ps idx key) idx[plR idx key].id 0 := by
  obtain ⟨p, hg, hl⟩ := GoodT.ref g.ix hp
  obtain ⟨_, h1, _⟩ := pl_facts (k := key) (GoodT.rise g.ix) g.zero
  refine ⟨⟨p, hg, by rw [hl]; exact h1, by have := cntGe_many ps p.lo; omega⟩, ?_⟩
  unfold downT
  rw [List.getElem?_eq_getElem hp]
theorem DnSt.stop {ps : List (Option PageD)} {key : ByteArray} {D : Int × Nat} {id : Int} {h : Nat} (s : DnSt ps key D id h) (hl : ps.length ≤ 30) {p : PageD} (hg : getP ps id = some p) (hu : underK key (hiP p) = true) : D = (id, h) := by
  have := s.few hl
  rw [s.eq]
  obtain ⟨m, hm⟩ : ∃ m, 40 - h = m + 1 := ⟨40 - h - 1, by omega⟩
  rw [hm, downF, hg]
  simp only
  rw [if_pos hu]
theorem under_no {key hi : ByteArray} (h : underK key hi = false) : hi.toList.isEmpty = false ∧ ltK key hi = false := by
  unfold underK at h
  rwa [Bool.or_eq_false_iff] at h
theorem DnSt.next {ps : List (Option PageD)} {idx : List RefD} {key : ByteArray} {D : Int × Nat} {id : Int} {h : Nat} (s : DnSt ps key D id h) (g : GoodT ps idx) {p : PageD} (hg : getP ps id = some p) (hu : underK key (hiP p) = false) : DnSt ps key D (riP p) (h + 1) := by
  have hf := s.few g.len.2
  obtain ⟨h1, h2⟩ := under_no hu
  obtain ⟨p', hg', hl, hc⟩ := s.here
  rw [hg] at hg'
  injection hg' with hg'
  subst hg'
  rcases next_of g.ok g.go hg with ⟨_, he⟩ | ⟨hlt, p2, hg2, e2⟩
  · rw [h1] at he; cases he
  · refine ⟨⟨p2, hg2, by rw [e2]; exact h2, ?_⟩, ?_⟩
    · have := cntGe_next (getP_mem hg) hlt
      rw [e2]
      omega
    · rw [s.eq]
      obtain ⟨m, hm⟩ : ∃ m, 40 - h = m + 1 := ⟨40 - h - 1, by omega⟩
      rw [hm, show 40 - (h + 1) = m by omega, downF, hg]
      simp only
      rw [if_neg (by rw [hu]; decide)]
/-- Of a right tree the way down ends in a page that holds the text. -/
def DownTo (ps : List (Option PageD)) (idx : List RefD) (key : ByteArray) (p : PageD) : Prop := getP ps (downT ps idx key).1 = some p ∧ ltK key p.lo = false ∧ underK key (hiP p) = true ∧ (downT ps idx key).2 < 30
theorem DnSt.goal {ps : List (Option PageD)} {idx : List RefD} {key : ByteArray} {id : Int} {h : Nat} (s : DnSt ps key (downT ps idx key) id h) (hl : ps.length ≤ 30) {p : PageD} (hg : getP ps id = some p) (hu : underK key (hiP p) = true) : DownTo ps idx key p := by
  have e := s.stop hl hg hu
  have hf := s.few hl
  obtain ⟨p', hg', hlo, _⟩ := s.here
  rw [hg] at hg'
  injection hg' with hg'
  subst hg'
  unfold DownTo
  rw [e]
  exact ⟨hg, hlo, hu, hf⟩
theorem DnSt.reach {ps : List (Option PageD)} {idx : List RefD} {key : ByteArray} (g : GoodT ps idx) : ∀ (n : Nat) (id : Int) (h : Nat), n + h = 40 → DnSt ps key (downT ps idx key) id h → ∃ p, DownTo ps idx key p
  | 0, _, h, e, s => by have := s.few g.len.2; omega
  | n + 1, id, h, e, s => by
    obtain ⟨p, hg, _, _⟩ := s.here
    cases hu : underK key (hiP p) with
    | true => exact ⟨p, s.goal g.len.2 hg hu⟩
    | false => exact DnSt.reach g n _ (h + 1) (by omega) (s.next g hg hu)
theorem GoodT.down {ps : List (Option PageD)} {idx : List RefD} (g : GoodT ps idx) (key : ByteArray) : ∃ p, DownTo ps idx key p := by
  obtain ⟨hp, _⟩ := pl_facts (k := key) (GoodT.rise g.ix) g.zero
  exact DnSt.reach g 40 _ 0 rfl (DnSt.start g hp)
/-- In the way of the program: it goes on where there is a page to the right and the text is not below its bound. -/
theorem under_way {p : PageD} {key : ByteArray} (h : okP p = true) : (!decide (riP p = -1) && !ltK key (hiP p)) = !underK key (hiP p) := by
  obtain ⟨b1, b2⟩ := okP_bd h
  unfold underK
  cases he : (hiP p).toList.isEmpty with
  | true => rw [b1 he]; rfl
  | false => have := (b2 he).2.1; rw [decide_eq_false (by omega)]; simp
end Go.Proofs.Ytdajoapbdeplhaa

namespace Go.Proofs.Ytdajoapbdeplhaa
open Go.RowKit

/-- What Bounds answers. -/
def boundsV (lo hi : ByteArray) (r : Int) (es : List EntD) (ds : List DelD) : Value := if okPage lo hi r es ds = true then .tuple #[.string (highE hi ds), .int .i64 (rightE r ds), .int .i64 0] else .tuple #[.string ByteArray.empty, .int .i64 0, .int .i64 1]
/-- The value of a key. -/
def lookE (es : List EntD) (k : ByteArray) : Option ByteArray := (es.find? (fun e => e.k.toList == k.toList)).map (·.v)
def lookV : Option ByteArray → Value
  | some v => .tuple #[.string v, .int .i64 0, .int .i64 0]
  | none => .tuple #[.string ByteArray.empty, .int .i64 0, .int .i64 5]
/-- What Find answers of a right page. -/
def findV (lo hi : ByteArray) (r : Int) (es : List EntD) (ds : List DelD) (k : ByteArray) : Value :=
  if ltK k lo = true then .tuple #[.string ByteArray.empty, .int .i64 0, .int .i64 4]
  else if underK k (highE hi ds) = false then .tuple #[.string ByteArray.empty, .int .i64 (rightE r ds), .int .i64 12]
  else lookV (lookE (entsE es ds) k)
theorem look_none {es : List EntD} {k : ByteArray} (h : ∀ i (hi : i < es.length), (es[i].k.toList == k.toList) = false) : lookE es k = none := by
  unfold lookE
  rw [List.find?_eq_none.2]
  · rfl
  · intro e he
    obtain ⟨i, hi, rfl⟩ := List.mem_iff_getElem.1 he
    rw [h i hi]; decide
theorem look_some {es : List EntD} {k : ByteArray} {i : Nat} (hi : i < es.length) (h0 : ∀ j (hj : j < es.length), j < i → (es[j].k.toList == k.toList) = false) (h : (es[i].k.toList == k.toList) = true) : lookE es k = some es[i].v := by
  unfold lookE
  have : es.find? (fun e => e.k.toList == k.toList) = some es[i] := by
    rw [List.find?_eq_some_iff_getElem]
    exact ⟨h, i, hi, rfl, fun j hj => by rw [h0 j (by omega) hj]; rfl⟩
  rw [this]
  rfl
set_option maxRecDepth 100000 in
set_option maxHeartbeats 4000000 in
theorem l04Find_any (lo hi : ByteArray) (r : Int) (ab : Option Addr) (nb cb : Nat) (es : List EntD) (ac : Option Addr) (nc cc : Nat) (ds : List DelD) (k : ByteArray) (w : World) (hE : ERow w ab nb es) (hD : DRow w ac nc ds) (hnb : nb ≤ 100) (hnc : nc ≤ 100) (hcb : ab = none → cb = 0) :
    Calls Try.prog 35 #[pgv lo hi r ab nb cb ac nc cc, .string k] w fun e w' => e = .returned (findV lo hi r es ds k) ∧ Below w.heap.size w w' := by
  have b0 : Below w.heap.size w (w.alloc (.cells #[.string lo, .string hi, .int .i64 r, .slice ab nb cb, .slice ac nc cc] 53)) := (Below.refl _ _).alloc (Nat.le_refl _) _
  have RE := hide (hE.below b0)
  have RD := hide (hD.below b0)
  have LE := hide hE.1
  have LD := hide hD.1
  have k0 := hide (heap_alloc_new w (.cells #[.string lo, .string hi, .int .i64 r, .slice ab nb cb, .slice ac nc cc] 53))
  have z0 : (w.alloc (.cells #[.string lo, .string hi, .int .i64 r, .slice ab nb cb, .slice ac nc cc] 53)).heap.size = w.heap.size + 1 := by simp
  clear hE hD
  go_enter Try.func35, Try.ntmps35
  go_wp2_with fail
  generalize w.alloc (.cells #[.string lo, .string hi, .int .i64 r, .slice ab nb cb, .slice ac nc cc] 53) = W0 at *
  refine (l04Bounds_any lo hi r (.slice ab nb cb) ac nc cc ds W0 (unhide RD) (by omega)).mono ?_
  rintro e w1 ⟨rfl, hb1⟩
  have k1 := hide ((hb1.block w.heap.size (by omega)).trans (unhide k0))
  have B1 := hide (b0.trans (hb1.mono b0.size))
  have RD1 := hide ((unhide RD).below hb1)
  have RE1 := hide ((unhide RE).below hb1)
  have hz1 : w.heap.size + 1 ≤ w1.heap.size := by have := hb1.size; omega
  clear b0 hb1 RE RD k0
  have p0 : w1.cell? ⟨w.heap.size, 0, none⟩ = some (.string lo) := heap_cell2 (unhide k1) 0
  have p1 : w1.cell? ⟨w.heap.size, 1, none⟩ = some (.string hi) := heap_cell2 (unhide k1) 1
  have p2 : w1.cell? ⟨w.heap.size, 2, none⟩ = some (.int .i64 r) := heap_cell2 (unhide k1) 2
  have p3 : w1.cell? ⟨w.heap.size, 3, none⟩ = some (.slice ab nb cb) := heap_cell2 (unhide k1) 3
  have p4 : w1.cell? ⟨w.heap.size, 4, none⟩ = some (.slice ac nc cc) := heap_cell2 (unhide k1) 4
  by_cases hl : Op.bytesLess k.toList lo.toList = true
  · have E := hide (show Value.tuple #[.string ByteArray.empty, .int .i64 0, .int .i64 4] = findV lo hi r es ds k by unfold findV ltK; rw [if_pos hl])
    go_wp2_with fail
    go_ret3
    exact ⟨congrArg Ending.returned (unhide E), unhide B1⟩
  · have hl' : Op.bytesLess k.toList lo.toList = false := by simpa using hl
    have hl2 : ¬ ltK k lo = true := hl
    by_cases hu : underK k (highE hi ds) = true
    · have hu2 : ¬ underK k (highE hi ds) = false := by rw [hu]; decide
      have F := hide (show findV lo hi r es ds k = lookV (lookE (entsE es ds) k) by unfold findV; rw [if_neg hl2, if_neg hu2])
      clear hl hl2 hu2
      go_wp2_with (go_at_call 49; refine (l04Under_any k _ _).mono ?_; rintro e w2 ⟨rfl, rfl⟩)
      refine (l04Entries_any lo hi r ab nb cb es ac nc cc ds _ (unhide RE1) (unhide RD1) hnb hnc hcb).mono ?_
      rintro x w3 ⟨g, cap, rfl, hO, hb3⟩
      have B3 := hide ((unhide B1).trans (hb3.mono (unhide B1).size))
      have R3 := hide (erow_of_owns hO)
      have HL := hide (show (entsE es ds).length ≤ 300 by have := entsE_len es ds; have := unhide LE; have := unhide LD; omega)
      clear hO hb3 RE1 RD1 k1 p0 p1 p2 p3 p4
      generalize entsE es ds = xs at *
      obtain ⟨m, hm⟩ : ∃ m, xs.length = m := ⟨_, rfl⟩
      rw [hm] at HL R3 ⊢
      have HM := hide hm
      have hm3 : m ≤ 300 := unhide HL
      clear hm
      go_wp2_with fail
      go_loop [10] (fun i => ∃ t : Nat, i = .int .i64 (t : Int) ∧ t ≤ m ∧ Hid (∀ j (hj : j < xs.length), j < t → (xs[j].k.toList == k.toList) = false)) (fun i => m - (intOf i).toNat)
      case atStart => exact ⟨0, rfl, Nat.zero_le _, fun j _ h => absurd h (Nat.not_lt_zero _)⟩
      case round =>
        obtain ⟨t, rfl, ht, hN⟩ := hrel
        by_cases hlt : t < m
        · have htx : t < xs.length := by have := unhide HM; omega
          obtain ⟨b', off', he, c0, c1⟩ := (unhide R3).2 t htx
          injection he with he
          injection he with he1 he2
          subst he1 he2
          rw [Nat.zero_add] at c0 c1
          by_cases hq : (xs[t].k.toList == k.toList) = true
          · have E := hide (show Value.tuple #[.string xs[t].v, .int .i64 0, .int .i64 0] = findV lo hi r es ds k by rw [unhide F, look_some htx (unhide hN) hq]; rfl)
            clear hN
            generalize xs[t] = xt at *
            go_wp2_with fail
            go_ret3
            exact ⟨congrArg Ending.returned (unhide E), unhide B3⟩
          · have hq' : (xs[t].k.toList == k.toList) = false := by simpa using hq
            have N2 := hide (show ∀ j (hj : j < xs.length), j < t + 1 → (xs[j].k.toList == k.toList) = false from fun j hj h => by
              rcases Nat.lt_or_ge j t with h' | h'
              · exact unhide hN j hj h'
              · obtain rfl : j = t := by omega
                exact hq')
            clear hN hq
            generalize xs[t] = xt at *
            go_wp2_with fail
            go_round
            case rel => exact ⟨t + 1, by go_num, by omega, unhide N2⟩
            case measure => simp [intOf]; omega
        · obtain rfl : t = m := by omega
          have E := hide (show Value.tuple #[.string ByteArray.empty, .int .i64 0, .int .i64 5] = findV lo hi r es ds k by rw [unhide F, look_none (fun i hi' => unhide hN i hi' (by have := unhide HM; omega))]; rfl)
          go_wp2_with fail
          go_ret3
          exact ⟨congrArg Ending.returned (unhide E), unhide B3⟩
    · have hu' : underK k (highE hi ds) = false := by simpa using hu
      have E := hide (show Value.tuple #[.string ByteArray.empty, .int .i64 (rightE r ds), .int .i64 12] = findV lo hi r es ds k by unfold findV; rw [if_neg hl2, if_pos hu'])
      go_wp2_with (go_at_call 49; refine (l04Under_any k _ _).mono ?_; rintro e w2 ⟨rfl, rfl⟩)
      go_ret3
      exact ⟨congrArg Ending.returned (unhide E), unhide B1⟩
theorem ok_len {lo hi : ByteArray} {r : Int} {es : List EntD} {ds : List DelD} (h : okPage lo hi r es ds = true) : es.length ≤ 32 ∧ ds.length ≤ 12 ∧ (entsE es ds).length ≤ 32 := by
  unfold okPage at h
  simp at h
  omega
/-- What Find answers. -/
def findA (lo hi : ByteArray) (r : Int) (es : List EntD) (ds : List DelD) (k : ByteArray) : Value :=
  if 65536 < k.size then .tuple #[.string ByteArray.empty, .int .i64 0, .int .i64 2]
  else if okPage lo hi r es ds = true ∧ keyK k = true then findV lo hi r es ds k
  else .tuple #[.string ByteArray.empty, .int .i64 0, .int .i64 1]
end Go.Proofs.Ytdajoapbdeplhaa

namespace Go.Proofs.Ytdajoapbdeplhaa
open Go.RowKit

theorem here_some {hs : List PpH} {gs : List Bool} {idx : List RefD} {id : Int} {p : PageD} (h : getP (trd hs gs idx).here id = some p) : ∃ (k : Nat) (h1 : k < hs.length), id = (k : Int) ∧ hs[k].X = p := by
  obtain ⟨k, rfl, hk⟩ := getP_at h
  obtain ⟨hl, e⟩ := List.getElem?_eq_some_iff.1 hk
  have h1 : k < hs.length := by simp [trd, TreD.here] at hl; omega
  have h2 : k < gs.length := by simp [trd, TreD.here] at hl; omega
  refine ⟨k, h1, rfl, ?_⟩
  have := here_get (idx := idx) h1 h2
  rw [h] at this
  split at this
  · cases this
  · injection this with this; exact this.symm
set_option maxRecDepth 100000 in
set_option maxHeartbeats 4000000 in
theorem l05Place_any (ai : Option Addr) (ni ci : Nat) (idx : List RefD) (key : ByteArray) (w : World) (hR : JRow w ai ni idx) (hr : RiseR idx) (hz : ∃ h : 0 < idx.length, idx[0].low = ⟨#[]⟩ ∧ idx[0].id = 0) (hn : ni ≤ 1000) :
    Calls Try.prog 62 #[.slice ai ni ci, .string key] w fun e w' => e = .returned (.int .i64 ((plR idx key : Nat) : Int)) ∧ w' = w := by
  have R := hide hR
  have L := hR.1
  have RS := hide hr
  have Z := hide hz
  have h00 : 0 < idx.length := hz.1
  have h0 : 0 < ni := by omega
  have S0 := hide (show ltK key (idx[0]'h00).low = false by rw [hz.2.1]; exact ltK_none _)
  clear hR hr hz
  go_enter Try.func62, Try.ntmps62
  go_wp2_with fail
  go_loopw [5] (fun x wr => ∃ (k : Nat) (hk : k < idx.length), x = .int .i64 (k : Int) ∧ Hid (ltK key idx[k].low = false) ∧ Hid (wr = w)) (fun x _ => ni - (intOf x).toNat)
  case atStart => exact ⟨0, by omega, rfl, S0, by first | exact hide rfl | exact hide trivial⟩
  case round =>
    obtain ⟨k, hk, rfl, hl, hww⟩ := hrel
    have hww := unhide hww
    subst wr
    by_cases hlt : k + 1 < ni
    · have hk1 : k + 1 < idx.length := by omega
      obtain ⟨b, off, hai, d0, d1⟩ := (unhide R).2 (k + 1) hk1
      subst hai
      have UP := hide (fun (h : ltK key idx[k + 1].low = true) => (pl_uni (unhide RS) (unhide Z) hk (unhide hl) (fun i hi hgt => by
        by_cases e : i = k + 1
        · subst e; exact h
        · have := Rise.lt (es := idx.map refE) (unhide RS) (i := k + 1) (j := i) (by simpa using hi) (by omega)
          simp only [List.getElem_map, refE] at this
          exact ltK_trans h this)))
      have TU := bl_turn idx[k + 1].low.toList key.toList
      cases hc : ltK key idx[k + 1].low with
      | true =>
        have E := hide (unhide UP hc)
        have hc2 : Op.bytesLess key.toList idx[k + 1].low.toList = true := hc
        rw [hc2] at TU
        have hA : Op.bytesLess idx[k + 1].low.toList key.toList = false := by
          cases h : Op.bytesLess idx[k + 1].low.toList key.toList with
          | false => rfl
          | true => rw [h] at TU; cases TU
        have hB : (idx[k + 1].low.toList == key.toList) = false := by
          cases h : (idx[k + 1].low.toList == key.toList) with
          | false => rfl
          | true => rw [h, hA] at TU; cases TU
        clear UP hl TU hc hc2
        generalize idx[k + 1] = rf at *
        obtain ⟨low, id⟩ := rf
        simp only at d0 d1 hA hB
        go_wp2_with fail
        go_ret
        exact ⟨ret_int (by rw [← unhide E]), rfl⟩
      | false =>
        have HC := hide hc
        have hc2 : Op.bytesLess key.toList idx[k + 1].low.toList = false := hc
        rw [hc2] at TU
        clear UP hl hc hc2
        cases hA : Op.bytesLess idx[k + 1].low.toList key.toList with
        | true =>
          clear TU
          generalize hrf : idx[k + 1] = rf at *
          rw [← hrf] at HC
          clear hrf
          obtain ⟨low, id⟩ := rf
          simp only at d0 d1 hA
          go_wp2_with fail
          go_roundw
          case rel => exact ⟨k + 1, hk1, by go_num, HC, by first | exact hide rfl | exact hide trivial⟩
          case measure => simp [intOf]; omega
        | false =>
          have hB : (idx[k + 1].low.toList == key.toList) = true := by
            cases h : (idx[k + 1].low.toList == key.toList) with
            | true => rfl
            | false => rw [h, hA] at TU; cases TU
          clear TU
          generalize hrf : idx[k + 1] = rf at *
          rw [← hrf] at HC
          clear hrf
          obtain ⟨low, id⟩ := rf
          simp only at d0 d1 hA hB
          go_wp2_with fail
          go_roundw
          case rel => exact ⟨k + 1, hk1, by go_num, HC, by first | exact hide rfl | exact hide trivial⟩
          case measure => simp [intOf]; omega
    · have E := hide (pl_uni (unhide RS) (unhide Z) hk (unhide hl) (fun i hi hgt => by omega))
      go_wp2_with fail
      go_ret
      exact ⟨ret_int (by rw [← unhide E]), rfl⟩
set_option maxRecDepth 100000 in
set_option maxHeartbeats 4000000 in
theorem l05Down_any (ap : Option Addr) (np cp : Nat) (ag : Option Addr) (ng cg : Nat) (ai : Option Addr) (ni ci : Nat) (hs : List PpH) (gs : List Bool) (idx : List RefD) (key : ByteArray) (w : World) (hT : TrIn w ap np cp ag ng cg ai ni hs gs idx) (hG : GoodT (trd hs gs idx).here idx) (hc : ∀ h ∈ hs, h.s1.n ≤ 100000) :
    Calls Try.prog 34 #[.agg #[.slice ap np cp, .slice ag ng cg, .slice ai ni ci], .string key] w fun e w' => e = .returned (.tuple #[.int .i64 (downT (trd hs gs idx).here idx key).1, .int .i64 (((downT (trd hs gs idx).here idx key).2 : Nat) : Int)]) ∧ Below w.heap.size w w' := by
  have b0 : ∀ o, Below w.heap.size w (w.alloc o) := fun o => (Below.refl _ _).alloc (Nat.le_refl _) _
  have lp := hT.plen
  have li := hT.ix.1
  have BW := hide (b0 (.cells #[.slice ap np cp, .slice ag ng cg, .slice ai ni ci] 32))
  have T := hide (hT.below (unhide BW))
  have BT := hide (show ∀ u, Below (w.alloc (.cells #[.slice ap np cp, .slice ag ng cg, .slice ai ni ci] 32)).heap.size (w.alloc (.cells #[.slice ap np cp, .slice ag ng cg, .slice ai ni ci] 32)) u → Below w.heap.size w u from fun u hu => (unhide BW).trans (hu.mono (unhide BW).size))
  have t0 : (w.alloc (.cells #[.slice ap np cp, .slice ag ng cg, .slice ai ni ci] 32)).cell? ⟨w.heap.size, 0, none⟩ = some (.slice ap np cp) := by simp
  have t2 : (w.alloc (.cells #[.slice ap np cp, .slice ag ng cg, .slice ai ni ci] 32)).cell? ⟨w.heap.size, 2, none⟩ = some (.slice ai ni ci) := by simp
  have G := hide hG
  have il : ni ≤ 30 := by have := hG.il; have := hG.len.2; omega
  obtain ⟨hp, _⟩ := pl_facts (k := key) (GoodT.rise hG.ix) hG.zero
  have S0 := hide (DnSt.start (key := key) hG hp)
  have CH := hide hc
  clear hT BW hG hc
  obtain ⟨D, hD⟩ : ∃ D, D = downT (trd hs gs idx).here idx key := ⟨_, rfl⟩
  rw [← hD] at S0 ⊢
  clear hD
  go_enter Try.func34, Try.ntmps34
  go_wp2_with fail
  generalize w.alloc (.cells #[.slice ap np cp, .slice ag ng cg, .slice ai ni ci] 32) = W at *
  have HP := hide (fun n => l05Place_any ai ni ci idx key (W.drewN n) ((unhide T).ix.below (bel_drewN (Below.refl _ _) n)) (GoodT.rise (unhide G).ix) (unhide G).zero (by omega))
  obtain ⟨b, off, hai, d0, d1⟩ := (unhide T).ix.2 (plR idx key) hp
  subst hai
  have hpn : plR idx key < ni := by omega
  generalize hpl : plR idx key = P at *
  clear hpl
  generalize idx[P] = rf at *
  obtain ⟨low0, id0⟩ := rf
  simp only at d0 d1 S0
  go_quiet ((go_at_call 62; exact Calls.quiet_of_same (unhide HP _)))
  have BQ := hide (fun n => bel_drewN (Below.refl W.heap.size W) n)
  clear d0 d1 HP
  go_wp2_with fail
  go_loopw [6, 7] (fun x y wr => ∃ (id : Int) (h : Nat), x = .int .i64 id ∧ y = .int .i64 (h : Int) ∧ Hid (DnSt (trd hs gs idx).here key D id h) ∧ Below W.heap.size W wr) (fun _ y _ => 100 - (intOf y).toNat)
  case atStart => exact ⟨id0, 0, rfl, rfl, S0, unhide BQ _⟩
  case round =>
    obtain ⟨id, h, rfl, rfl, S, hb⟩ := hrel
    have s0 := (hb.cell (p := ⟨w.heap.size, 0, none⟩) (cell_lt t0)).trans t0
    have bR := hide (unhide BT _ hb)
    obtain ⟨p, hg, _, _⟩ := (unhide S).here
    obtain ⟨q, hq1, rfl, hX⟩ := here_some hg
    have hfew := (unhide S).few (unhide G).len.2
    rw [← hX] at hg
    have STOP := hide (fun hu => (unhide S).stop (unhide G).len.2 hg hu)
    have NEXT := hide (fun hu => (unhide S).next (unhide G) hg hu)
    obtain ⟨b, off, hap, hbl, d0, d1, d2, d3, d4⟩ := PpIn.cells ((unhide T).below hb).pgs hq1
    subst hap
    have hqn : q < np := by omega
    have HB := hide (l04Bounds_any hs[q].X.lo hs[q].X.hi hs[q].X.r (.slice hs[q].s0.a hs[q].s0.n hs[q].s0.c) hs[q].s1.a hs[q].s1.n hs[q].s1.c hs[q].X.ds wr (drow_C (PpIn.sub ((unhide T).below hb).pgs hq1).2) (unhide CH _ (List.getElem_mem hq1)))
    clear S hg hX
    generalize hs[q] = pd at *
    obtain ⟨X, ⟨a0, n0, c0⟩, ⟨a1, n1, c1⟩⟩ := pd
    simp only at d0 d1 d2 d3 d4 HB STOP NEXT
    change Hid (underK key (highE X.hi X.ds) = true → _) at STOP
    change Hid (underK key (highE X.hi X.ds) = false → DnSt _ _ _ (rightE X.r X.ds) _) at NEXT
    generalize highE X.hi X.ds = H at *
    generalize rightE X.r X.ds = R at *
    go_wp2_with fail
    refine (unhide HB).mono ?_
    rintro e w2 ⟨rfl, hb2⟩
    have bA := hb.trans (hb2.mono hb.size)
    clear HB d0 d1 d2 d3 d4 s0 hb hb2
    have HU := hide (l04Under_any key H w2)
    cases hu : underK key H with
    | true =>
      have E := hide (unhide STOP hu)
      rw [hu] at HU
      go_wp2_with fail
      refine (unhide HU).mono ?_
      rintro e w3 ⟨rfl, hw3⟩
      subst w3
      go_wp2_with fail
      go_ret2
      exact ⟨by rw [unhide E]; rfl, unhide BT _ bA⟩
    | false =>
      have NX := hide (unhide NEXT hu)
      rw [hu] at HU
      go_wp2_with fail
      refine (unhide HU).mono ?_
      rintro e w3 ⟨rfl, hw3⟩
      subst w3
      go_wp2_with fail
      go_roundw
      case rel => exact ⟨_, h + 1, rfl, by go_num, NX, bA⟩
      case measure => simp [intOf]; omega
/-- What TreeGet answers of a right tree. -/
def getR (ps : List (Option PageD)) (idx : List RefD) (key : ByteArray) : Value := match getP ps (downT ps idx key).1 with
  | some p => match lookE (entsE p.es p.ds) key with
    | some v => .tuple #[.string v, .int .i64 (((downT ps idx key).2 : Nat) : Int), .int .i64 0]
    | none => .tuple #[.string ⟨#[]⟩, .int .i64 (((downT ps idx key).2 : Nat) : Int), .int .i64 5]
  | none => .tuple #[.string ⟨#[]⟩, .int .i64 0, .int .i64 1]
/-- What TreeGet answers. -/
def getA (t : TreD) (key : ByteArray) : Value :=
  if 65536 < key.size then .tuple #[.string ⟨#[]⟩, .int .i64 0, .int .i64 2]
  else if okT t = true ∧ keyK key = true then getR t.here t.idx key
  else .tuple #[.string ⟨#[]⟩, .int .i64 0, .int .i64 1]
theorem getA_tup (t : TreD) (key : ByteArray) : ∃ v n c, getA t key = .tuple #[.string v, .int .i64 n, .int .i64 c] := by
  unfold getA getR
  repeat' split
  all_goals exact ⟨_, _, _, rfl⟩
theorem findV_down {p : PageD} {key : ByteArray} (h1 : ltK key p.lo = false) (h2 : underK key (hiP p) = true) : findV p.lo p.hi p.r p.es p.ds key = lookV (lookE (entsE p.es p.ds) key) := by
  unfold findV
  rw [if_neg (by rw [h1]; decide), if_neg (by rw [h2]; decide)]
theorem lookV_get {ps : List (Option PageD)} {idx : List RefD} {key : ByteArray} {p : PageD} (h : DownTo ps idx key p) : ∃ v c r, lookV (lookE (entsE p.es p.ds) key) = .tuple #[.string v, r, .int .i64 c] ∧ .tuple #[.string v, .int .i64 (((downT ps idx key).2 : Nat) : Int), .int .i64 c] = getR ps idx key := by
  unfold getR
  rw [h.1]
  simp only
  cases lookE (entsE p.es p.ds) key with
  | some v => exact ⟨_, _, _, rfl, rfl⟩
  | none => exact ⟨_, _, _, rfl, rfl⟩
theorem rowC_few {p : PageD} {g : Bool} (h : pgOK p g = true) : p.es.length ≤ 100 ∧ p.ds.length ≤ 100 := by
  rw [pgOK_parts, Bool.and_eq_true] at h
  have := ok_len h.1
  omega
theorem okT_few {hs : List PpH} {gs : List Bool} {idx : List RefD} (h : okT (trd hs gs idx) = true) {w : World} {v : Value} {n : Nat} (hp : PpIn w v n hs) : ∀ x ∈ hs, x.s0.n ≤ 100 ∧ x.s1.n ≤ 100 := fun x hx => by
  obtain ⟨i, hi, e⟩ := List.getElem_of_mem hx
  have hsub := PpIn.sub hp hi
  rw [e] at hsub
  rw [rowC_len hsub.1, rowC_len hsub.2]
  have hg : i < gs.length := by
    unfold okT at h
    simp only [Bool.and_eq_true] at h
    have := of_decide_eq_true h.1.1.1.1
    simp [trd] at this
    omega
  cases hk : pgOK hs[i].X gs[i] with
  | true => rw [e] at hk; exact rowC_few hk
  | false => rw [okT_page hi hg hk] at h; cases h
set_option maxRecDepth 100000 in
set_option maxHeartbeats 4000000 in
theorem specTreeGet_any (ap : Option Addr) (np cp : Nat) (ag : Option Addr) (ng cg : Nat) (ai : Option Addr) (ni ci : Nat) (hs : List PpH) (gs : List Bool) (idx : List RefD) (key : ByteArray) (w : World) (hT : TrIn w ap np cp ag ng cg ai ni hs gs idx) (hcb : ∀ h ∈ hs, h.s0.a = none → h.s0.c = 0) :
    Calls Try.prog 11 #[.agg #[.slice ap np cp, .slice ag ng cg, .slice ai ni ci], .string key] w fun e w' => e = .returned (getA (trd hs gs idx) key) ∧ Below w.heap.size w w' := by
  have b0 : ∀ o, Below w.heap.size w (w.alloc o) := fun o => (Below.refl _ _).alloc (Nat.le_refl _) _
  have BW := hide (b0 (.cells #[.slice ap np cp, .slice ag ng cg, .slice ai ni ci] 32))
  have T := hide (hT.below (unhide BW))
  have BT := hide (show ∀ u, Below (w.alloc (.cells #[.slice ap np cp, .slice ag ng cg, .slice ai ni ci] 32)).heap.size (w.alloc (.cells #[.slice ap np cp, .slice ag ng cg, .slice ai ni ci] 32)) u → Below w.heap.size w u from fun u hu => (unhide BW).trans (hu.mono (unhide BW).size))
  have t0 : (w.alloc (.cells #[.slice ap np cp, .slice ag ng cg, .slice ai ni ci] 32)).cell? ⟨w.heap.size, 0, none⟩ = some (.slice ap np cp) := by simp
  have t1 : (w.alloc (.cells #[.slice ap np cp, .slice ag ng cg, .slice ai ni ci] 32)).cell? ⟨w.heap.size, 1, none⟩ = some (.slice ag ng cg) := by simp
  have t2 : (w.alloc (.cells #[.slice ap np cp, .slice ag ng cg, .slice ai ni ci] 32)).cell? ⟨w.heap.size, 2, none⟩ = some (.slice ai ni ci) := by simp
  have lp := hT.plen
  by_cases hk : 65536 < key.size
  · have E := hide (show Value.tuple #[.string ⟨#[]⟩, .int .i64 0, .int .i64 2] = getA (trd hs gs idx) key by unfold getA; rw [if_pos hk])
    clear hT t0 t1 t2
    go_enter Try.func11, Try.ntmps11
    go_wp2_with fail
    go_ret3
    exact ⟨congrArg Ending.returned (unhide E), b0 _⟩
  have GA := hide (show getA (trd hs gs idx) key = if okT (trd hs gs idx) = true ∧ keyK key = true then getR (trd hs gs idx).here idx key else .tuple #[.string ⟨#[]⟩, .int .i64 0, .int .i64 1] by unfold getA; rw [if_neg hk]; rfl)
  have CB := hide hcb
  clear hT BW hcb
  go_enter Try.func11, Try.ntmps11
  go_wp2_with fail
  generalize w.alloc (.cells #[.slice ap np cp, .slice ag ng cg, .slice ai ni ci] 32) = W at *
  have HO := hide (specTreeOK_any ap np cp ag ng cg ai ni ci hs gs idx W (unhide T) (unhide CB))
  have KE := hide (fun u => l04Key_any key u)
  cases hok : okT (trd hs gs idx) with
  | false =>
    have E := hide (show Value.tuple #[.string ⟨#[]⟩, .int .i64 0, .int .i64 1] = getA (trd hs gs idx) key by rw [unhide GA, hok, if_neg (fun h => by cases h.1)])
    rw [hok] at HO
    refine (unhide HO).mono ?_
    rintro e w2 ⟨rfl, hb⟩
    go_wp2_with fail
    go_ret3
    exact ⟨congrArg Ending.returned (unhide E), unhide BT _ hb⟩
  | true =>
    rw [hok] at HO
    refine (unhide HO).mono ?_
    rintro e w2 ⟨rfl, hb⟩
    cases hky : keyK key with
    | false =>
      have E := hide (show Value.tuple #[.string ⟨#[]⟩, .int .i64 0, .int .i64 1] = getA (trd hs gs idx) key by rw [unhide GA, hky, if_neg (fun h => by cases h.2)])
      rw [hky] at KE
      go_wp2_with fail
      refine (unhide KE _).mono ?_
      rintro e w3 ⟨rfl, hw3⟩
      subst w3
      go_wp2_with fail
      go_ret3
      exact ⟨congrArg Ending.returned (unhide E), unhide BT _ hb⟩
    | true =>
      have G := hide (show GoodT (trd hs gs idx).here idx from good_of hok)
      have FEW := hide (okT_few hok (unhide T).pgs)
      have HD := hide (l05Down_any ap np cp ag ng cg ai ni ci hs gs idx key w2 ((unhide T).below hb) (unhide G) (fun x hx => by have := (unhide FEW x hx).2; omega))
      obtain ⟨p, hdn⟩ := (unhide G).down key
      obtain ⟨q, hq1, hqe, hX⟩ := here_some hdn.1
      have hf30 := hdn.2.2.2
      obtain ⟨v, c, r, hv1, hv2⟩ := lookV_get hdn
      have E := hide (show Value.tuple #[.string v, .int .i64 (((downT (trd hs gs idx).here idx key).2 : Nat) : Int), .int .i64 c] = getA (trd hs gs idx) key by rw [unhide GA, if_pos ⟨hok, hky⟩]; exact hv2)
      rw [hky] at KE
      have HF := hide (fun (u : World) (hu : Below W.heap.size W u) => l04Find_any hs[q].X.lo hs[q].X.hi hs[q].X.r hs[q].s0.a hs[q].s0.n hs[q].s0.c hs[q].X.es hs[q].s1.a hs[q].s1.n hs[q].s1.c hs[q].X.ds key u (erow_C (PpIn.sub ((unhide T).below hu).pgs hq1).1) (drow_C (PpIn.sub ((unhide T).below hu).pgs hq1).2) (unhide FEW _ (List.getElem_mem hq1)).1 (unhide FEW _ (List.getElem_mem hq1)).2 (unhide CB _ (List.getElem_mem hq1)))
      have HX := hide (show findV hs[q].X.lo hs[q].X.hi hs[q].X.r hs[q].X.es hs[q].X.ds key = .tuple #[.string v, r, .int .i64 c] by
        rw [hX, findV_down hdn.2.1 hdn.2.2.1, hv1])
      rw [unhide HX] at HF
      rw [hqe] at HD
      have hqn : q < np := by omega
      clear hdn hv1 hv2 hX HX GA FEW G hqe
      generalize (downT (trd hs gs idx).here idx key).2 = hops at *
      have s0 := (hb.cell (p := ⟨w.heap.size, 0, none⟩) (cell_lt t0)).trans t0
      have s1 := (hb.cell (p := ⟨w.heap.size, 1, none⟩) (cell_lt t1)).trans t1
      have s2 := (hb.cell (p := ⟨w.heap.size, 2, none⟩) (cell_lt t2)).trans t2
      go_wp2_with fail
      refine (unhide KE _).mono ?_
      rintro e w3 ⟨rfl, hw3⟩
      subst w3
      go_wp2_with fail
      refine (unhide HD).mono ?_
      rintro e w4 ⟨rfl, hb4⟩
      have bA := hb.trans (hb4.mono hb.size)
      clear s0 s1 s2 HD hb4 HO hb
      have s0 := (bA.cell (p := ⟨w.heap.size, 0, none⟩) (cell_lt t0)).trans t0
      have HF4 := hide (unhide HF w4 bA)
      obtain ⟨b, off, hap, hbl, d0, d1, d2, d3, d4⟩ := PpIn.cells ((unhide T).below bA).pgs hq1
      subst hap
      clear HF
      generalize hs[q] = pd at *
      obtain ⟨X, ⟨a0, n0, c0⟩, ⟨a1, n1, c1⟩⟩ := pd
      unfold pgv at HF4
      simp only at d0 d1 d2 d3 d4 HF4
      go_wp2_with fail
      refine (unhide HF4).mono ?_
      rintro e w5 ⟨rfl, hb5⟩
      have bB := unhide BT _ (bA.trans (hb5.mono bA.size))
      clear d0 d1 d2 d3 d4 HF4 s0 hb5 bA
      go_wp2_with fail
      go_ret3
      exact ⟨congrArg Ending.returned (unhide E), bB⟩
end Go.Proofs.Ytdajoapbdeplhaa

namespace Go.Proofs.Ytdajoapbdeplhaa
open Go.RowKit

theorem tb_at {qs : List (Option (Nat × PpH))} {id : Int} {p : PageD} (hg : getP (qsP qs) id = some p) : ∃ k : Nat, id = (k : Int) ∧ True ∧ ∃ pb x, qs[k]? = some (some (pb, x)) ∧ x.X = p := by
  obtain ⟨k, rfl, hk⟩ := getP_at hg
  refine ⟨k, rfl, trivial, ?_⟩
  rw [qsP, List.getElem?_map] at hk
  cases hq : qs[k]? with
  | none => rw [hq] at hk; cases hk
  | some q =>
    rw [hq] at hk
    cases q with
    | none => cases hk
    | some y => exact ⟨y.1, y.2, rfl, by injection hk with hk; injection hk⟩
set_option maxRecDepth 100000 in
set_option maxHeartbeats 4000000 in
theorem down_any (mb : Nat) (qs : List (Option (Nat × PpH))) (idx : List RefD) (ap : Option Addr) (cp : Nat) (ai : Option Addr) (ci : Nat) (key : ByteArray) (w : World) (hM : MtAt w mb qs idx ap cp ai ci) (hG : GoodT (qsP qs) idx) :
    Calls Try.prog 37 #[.pointer (some ⟨mb, 0, none⟩), .string key] w fun e w' => e = .returned (.tuple #[.int .i64 (downT (qsP qs) idx key).1, .int .i64 (((downT (qsP qs) idx key).2 : Nat) : Int)]) ∧ Below w.heap.size w w' := by
  have M := hide hM
  have G := hide hG
  have il : idx.length ≤ 30 := Nat.le_trans hG.il hG.len.2
  obtain ⟨hp, _, _, hz⟩ := pl_facts (k := key) (GoodT.rise hG.ix) hG.zero
  have S0 := hide (DnSt.start (key := key) hG hp)
  have c1 := (heap_at hM.box 1).1
  have HS := hide (searchRef_any ai idx.length ci idx key w hM.ix (GoodT.rise hG.ix) (by omega))
  obtain ⟨b1, off1, hai, e1, e2⟩ := hM.ix.2 (plR idx key) hp
  subst hai
  obtain ⟨D, hD⟩ : ∃ D, D = downT (qsP qs) idx key := ⟨_, rfl⟩
  rw [← hD] at S0 ⊢
  clear hD
  have PV := hide (show plR idx key = if found (idx.map refE) key then pos (idx.map refE) key else pos (idx.map refE) key - 1 from rfl)
  generalize hpl : plR idx key = P at *
  have hPw : (P : Int) < 9223372036854775807 := by omega
  clear hM hG hpl
  generalize hie : idx[P] = rf at *
  obtain ⟨low0, id0⟩ := rf
  simp only at e1 e2 S0
  clear hie
  obtain ⟨L, hL⟩ : ∃ L, L = idx.length := ⟨_, rfl⟩
  rw [← hL] at c1 HS hp il
  have HL := hide hL
  clear hL
  have e2' : ∀ u, Below w.heap.size w u → u.cell? ⟨b1, off1 + P * 2 + 1, none⟩ = some (.int .i64 id0) := fun u hu => (hu.cell (cell_lt e2)).trans e2
  have c1' : ∀ u, Below w.heap.size w u → u.cell? ⟨mb, 1, none⟩ = some (.slice (some ⟨b1, off1, none⟩) L ci) := fun u hu => (hu.cell (cell_lt c1)).trans c1
  go_enter Try.func37, Try.ntmps37
  go_wp2_with fail
  refine wp_scope_jumps 0 (fun a' w' => ∃ (id : Int) (h : Nat), ∃ u2 u3 u4 u5 u6 u7 u10 u11 u12 u13 u14 u15 u16 u17 u18 u19 u20 u21 u22 u23 u24 u25 u26 u27 u28 u29 u30 u31 u32 u33 u34 u35 u36 u37 u38 u39 u40 u41 u42 u43 u44 u45 u46 u47 u48 u49 u50 u51 u52 u53 u54 u55 u56 u57 u58 u59 : Value, a' = { tmps := #[.pointer (some ⟨mb, 0, none⟩), .string key, u2, u3, u4, u5, u6, u7, .int .i64 id, .int .i64 (h : Int), u10, u11, u12, u13, u14, u15, u16, u17, u18, u19, u20, u21, u22, u23, u24, u25, u26, u27, u28, u29, u30, u31, u32, u33, u34, u35, u36, u37, u38, u39, u40, u41, u42, u43, u44, u45, u46, u47, u48, u49, u50, u51, u52, u53, u54, u55, u56, u57, u58, u59], defers := [] } ∧ Hid (DnSt (qsP qs) key D id h) ∧ Below w.heap.size w w') (fun a' _ => 100 - (intOf (a'.tmps.getD 9 undef)).toNat) rfl ?_ ?_
  · cases hf : found (idx.map refE) key with
    | true =>
      have HS2 := hide (show _ from unhide HS)
      rw [hf] at HS2
      have PV2 := unhide PV
      rw [hf, if_pos rfl] at PV2
      rw [← PV2] at HS2
      clear PV2 hz hf PV HS
      go_wp2_with fail
      refine (unhide HS2).mono ?_
      rintro e w1 ⟨rfl, hb⟩
      have d1 := c1' w1 hb
      have d2 := e2' w1 hb
      clear c1 c1' e2' e1 e2 HS2
      have S := S0
      clear S0
      go_wp2_with fail
      clear d1 d2
      go_step3
      obtain ⟨p, hg, _, _⟩ := (unhide S).here
      obtain ⟨k, hidk, hq, pb, x, hqk, hX⟩ := tb_at hg
      subst hidk
      have hmem : some (pb, x) ∈ qs := List.mem_of_getElem? hqk
      obtain ⟨PB, hE, hD⟩ := ((unhide M).below hb).pgs pb x hmem
      have hokp : okP x.X = true := by rw [hX]; exact (unhide G).ok _ (getP_mem hg)
      have c0 := (heap_at ((unhide M).below hb).box 0).1
      obtain ⟨b, off, hap, hc⟩ := ((unhide M).below hb).row.at (j := k) (u := .pointer (some ⟨pb, 0, none⟩)) (by rw [List.getElem?_map, hqk]; rfl)
      subst hap
      have hkl : k < qs.length := (List.getElem?_eq_some_iff.1 hqk).1
      have q0 := (heap_at PB 0).1
      have q1 := (heap_at PB 1).1
      have q2 := (heap_at PB 2).1
      have q3 := (heap_at PB 3).1
      have q4 := (heap_at PB 4).1
      have HB := hide (implBounds_any x.X.lo x.X.hi x.X.r x.s0.a x.s0.n x.s0.c x.X.es x.s1.a x.s1.n x.s1.c x.X.ds w1 hE hD)
      rw [if_pos hokp] at HB
      unfold pgv at HB
      have UW := hide (under_way (key := key) hokp)
      have hfew := (unhide S).few (unhide G).len.2
      rw [← hX] at hg
      have STOP := hide (fun hu => (unhide S).stop (unhide G).len.2 hg hu)
      have NEXT := hide (fun hu => (unhide S).next (unhide G) hg hu)
      clear S hg hokp hE hD PB hqk hmem hX hq
      obtain ⟨X, ⟨a0, n0, k0⟩, ⟨a1, n1, k1⟩⟩ := x
      simp only at q0 q1 q2 q3 q4 HB UW STOP NEXT
      change Hid ((!decide (rightE X.r X.ds = -1) && !ltK key (highE X.hi X.ds)) = _) at UW
      change Hid (_ → DnSt _ _ _ (rightE X.r X.ds) _) at NEXT
      change Hid (underK key (highE X.hi X.ds) = true → _) at STOP
      change Hid ((!decide (rightE X.r X.ds = -1) && !ltK key (highE X.hi X.ds)) = !underK key (highE X.hi X.ds)) at UW
      change Hid (underK key (highE X.hi X.ds) = false → DnSt _ _ _ (rightE X.r X.ds) _) at NEXT
      generalize highE X.hi X.ds = H at *
      generalize rightE X.r X.ds = R at *
      go_wp2_with fail
      refine (unhide HB).mono ?_
      rintro e w2 ⟨rfl, hb2⟩
      have bA : Below w.heap.size w w2 := hb.trans (hb2.mono hb.size)
      clear HB q0 q1 q2 q3 q4 c0 hc hb hb2
      by_cases hR : R = -1
      · have E := hide (unhide STOP (by have := unhide UW; rw [decide_eq_true hR] at this; simpa using this.symm))
        subst hR
        go_wp2_with fail
        simp only [Exit.jump]
        go_ret2
        exact ⟨by rw [unhide E]; rfl, bA⟩
      · have hRb : (R != -1) = true := by simpa using hR
        cases hl : ltK key H with
        | true =>
          have E := hide (unhide STOP (by have := unhide UW; rw [hl] at this; simpa using this.symm))
          have hl2 : Op.bytesLess key.toList H.toList = true := hl
          go_wp2_with fail
          simp only [Exit.jump]
          go_ret2
          exact ⟨by rw [unhide E]; rfl, bA⟩
        | false =>
          have NX := hide (unhide NEXT (by have := unhide UW; rw [hl, decide_eq_false hR] at this; simpa using this.symm))
          have hl2 : Op.bytesLess key.toList H.toList = false := hl
          go_wp2_with fail
          go_step3
          exact ⟨rfl, R, 1, _, _, _, _, _, _, _, _, _, _, _, _, _, _, _, _, _, _, _, _, _, _, _, _, _, _, _, _, _, _, _, _, _, _, _, _, _, _, _, _, _, _, _, _, _, _, _, _, _, _, _, _, _, _, _, _, by go_num, NX, bA⟩
    | false =>
      have hz2 := hz hf
      have HS2 := hide (show _ from unhide HS)
      rw [hf] at HS2
      have PV2 := unhide PV
      rw [hf, if_neg (by decide)] at PV2
      rw [show pos (idx.map refE) key = P + 1 by omega] at HS2
      clear PV2 hz hf PV HS hz2
      go_wp2_with fail
      refine (unhide HS2).mono ?_
      rintro e w1 ⟨rfl, hb⟩
      have d1 := c1' w1 hb
      have d2 := e2' w1 hb
      clear c1 c1' e2' e1 e2 HS2
      have S := S0
      clear S0
      go_wp2_with fail
      clear d1 d2
      go_step3
      obtain ⟨p, hg, _, _⟩ := (unhide S).here
      obtain ⟨k, hidk, hq, pb, x, hqk, hX⟩ := tb_at hg
      subst hidk
      have hmem : some (pb, x) ∈ qs := List.mem_of_getElem? hqk
      obtain ⟨PB, hE, hD⟩ := ((unhide M).below hb).pgs pb x hmem
      have hokp : okP x.X = true := by rw [hX]; exact (unhide G).ok _ (getP_mem hg)
      have c0 := (heap_at ((unhide M).below hb).box 0).1
      obtain ⟨b, off, hap, hc⟩ := ((unhide M).below hb).row.at (j := k) (u := .pointer (some ⟨pb, 0, none⟩)) (by rw [List.getElem?_map, hqk]; rfl)
      subst hap
      have hkl : k < qs.length := (List.getElem?_eq_some_iff.1 hqk).1
      have q0 := (heap_at PB 0).1
      have q1 := (heap_at PB 1).1
      have q2 := (heap_at PB 2).1
      have q3 := (heap_at PB 3).1
      have q4 := (heap_at PB 4).1
      have HB := hide (implBounds_any x.X.lo x.X.hi x.X.r x.s0.a x.s0.n x.s0.c x.X.es x.s1.a x.s1.n x.s1.c x.X.ds w1 hE hD)
      rw [if_pos hokp] at HB
      unfold pgv at HB
      have UW := hide (under_way (key := key) hokp)
      have hfew := (unhide S).few (unhide G).len.2
      rw [← hX] at hg
      have STOP := hide (fun hu => (unhide S).stop (unhide G).len.2 hg hu)
      have NEXT := hide (fun hu => (unhide S).next (unhide G) hg hu)
      clear S hg hokp hE hD PB hqk hmem hX hq
      obtain ⟨X, ⟨a0, n0, k0⟩, ⟨a1, n1, k1⟩⟩ := x
      simp only at q0 q1 q2 q3 q4 HB UW STOP NEXT
      change Hid ((!decide (rightE X.r X.ds = -1) && !ltK key (highE X.hi X.ds)) = _) at UW
      change Hid (_ → DnSt _ _ _ (rightE X.r X.ds) _) at NEXT
      change Hid (underK key (highE X.hi X.ds) = true → _) at STOP
      change Hid ((!decide (rightE X.r X.ds = -1) && !ltK key (highE X.hi X.ds)) = !underK key (highE X.hi X.ds)) at UW
      change Hid (underK key (highE X.hi X.ds) = false → DnSt _ _ _ (rightE X.r X.ds) _) at NEXT
      generalize highE X.hi X.ds = H at *
      generalize rightE X.r X.ds = R at *
      go_wp2_with fail
      refine (unhide HB).mono ?_
      rintro e w2 ⟨rfl, hb2⟩
      have bA : Below w.heap.size w w2 := hb.trans (hb2.mono hb.size)
      clear HB q0 q1 q2 q3 q4 c0 hc hb hb2
      by_cases hR : R = -1
      · have E := hide (unhide STOP (by have := unhide UW; rw [decide_eq_true hR] at this; simpa using this.symm))
        subst hR
        go_wp2_with fail
        simp only [Exit.jump]
        go_ret2
        exact ⟨by rw [unhide E]; rfl, bA⟩
      · have hRb : (R != -1) = true := by simpa using hR
        cases hl : ltK key H with
        | true =>
          have E := hide (unhide STOP (by have := unhide UW; rw [hl] at this; simpa using this.symm))
          have hl2 : Op.bytesLess key.toList H.toList = true := hl
          go_wp2_with fail
          simp only [Exit.jump]
          go_ret2
          exact ⟨by rw [unhide E]; rfl, bA⟩
        | false =>
          have NX := hide (unhide NEXT (by have := unhide UW; rw [hl, decide_eq_false hR] at this; simpa using this.symm))
          have hl2 : Op.bytesLess key.toList H.toList = false := hl
          go_wp2_with fail
          go_step3
          exact ⟨rfl, R, 1, _, _, _, _, _, _, _, _, _, _, _, _, _, _, _, _, _, _, _, _, _, _, _, _, _, _, _, _, _, _, _, _, _, _, _, _, _, _, _, _, _, _, _, _, _, _, _, _, _, _, _, _, _, _, _, _, by go_num, NX, bA⟩
  · rintro a' wr ⟨id, h, u2, u3, u4, u5, u6, u7, u10, u11, u12, u13, u14, u15, u16, u17, u18, u19, u20, u21, u22, u23, u24, u25, u26, u27, u28, u29, u30, u31, u32, u33, u34, u35, u36, u37, u38, u39, u40, u41, u42, u43, u44, u45, u46, u47, u48, u49, u50, u51, u52, u53, u54, u55, u56, u57, u58, u59, rfl, S, hb⟩
    clear S0 e1 e2 c1 c1' e2' HS
    obtain ⟨p, hg, _, _⟩ := (unhide S).here
    obtain ⟨k, hidk, hq, pb, x, hqk, hX⟩ := tb_at hg
    subst hidk
    have hmem : some (pb, x) ∈ qs := List.mem_of_getElem? hqk
    obtain ⟨PB, hE, hD⟩ := ((unhide M).below hb).pgs pb x hmem
    have hokp : okP x.X = true := by rw [hX]; exact (unhide G).ok _ (getP_mem hg)
    have c0 := (heap_at ((unhide M).below hb).box 0).1
    obtain ⟨b, off, hap, hc⟩ := ((unhide M).below hb).row.at (j := k) (u := .pointer (some ⟨pb, 0, none⟩)) (by rw [List.getElem?_map, hqk]; rfl)
    subst hap
    have hkl : k < qs.length := (List.getElem?_eq_some_iff.1 hqk).1
    have q0 := (heap_at PB 0).1
    have q1 := (heap_at PB 1).1
    have q2 := (heap_at PB 2).1
    have q3 := (heap_at PB 3).1
    have q4 := (heap_at PB 4).1
    have HB := hide (implBounds_any x.X.lo x.X.hi x.X.r x.s0.a x.s0.n x.s0.c x.X.es x.s1.a x.s1.n x.s1.c x.X.ds wr hE hD)
    rw [if_pos hokp] at HB
    unfold pgv at HB
    have UW := hide (under_way (key := key) hokp)
    have hfew := (unhide S).few (unhide G).len.2
    rw [← hX] at hg
    have STOP := hide (fun hu => (unhide S).stop (unhide G).len.2 hg hu)
    have NEXT := hide (fun hu => (unhide S).next (unhide G) hg hu)
    clear S hg hokp hE hD PB hqk hmem hX hq
    obtain ⟨X, ⟨a0, n0, k0⟩, ⟨a1, n1, k1⟩⟩ := x
    simp only at q0 q1 q2 q3 q4 HB UW STOP NEXT
    change Hid ((!decide (rightE X.r X.ds = -1) && !ltK key (highE X.hi X.ds)) = _) at UW
    change Hid (_ → DnSt _ _ _ (rightE X.r X.ds) _) at NEXT
    change Hid (underK key (highE X.hi X.ds) = true → _) at STOP
    change Hid ((!decide (rightE X.r X.ds = -1) && !ltK key (highE X.hi X.ds)) = !underK key (highE X.hi X.ds)) at UW
    change Hid (underK key (highE X.hi X.ds) = false → DnSt _ _ _ (rightE X.r X.ds) _) at NEXT
    generalize highE X.hi X.ds = H at *
    generalize rightE X.r X.ds = R at *
    go_wp2_with fail
    refine (unhide HB).mono ?_
    rintro e w2 ⟨rfl, hb2⟩
    have bA : Below w.heap.size w w2 := hb.trans (hb2.mono hb.size)
    clear HB q0 q1 q2 q3 q4 c0 hc hb hb2
    by_cases hR : R = -1
    · have E := hide (unhide STOP (by have := unhide UW; rw [decide_eq_true hR] at this; simpa using this.symm))
      subst hR
      go_wp2_with fail
      simp only [Exit.jump]
      go_ret2
      exact ⟨by rw [unhide E]; rfl, bA⟩
    · have hRb : (R != -1) = true := by simpa using hR
      cases hl : ltK key H with
      | true =>
        have E := hide (unhide STOP (by have := unhide UW; rw [hl] at this; simpa using this.symm))
        have hl2 : Op.bytesLess key.toList H.toList = true := hl
        go_wp2_with fail
        simp only [Exit.jump]
        go_ret2
        exact ⟨by rw [unhide E]; rfl, bA⟩
      | false =>
        have NX := hide (unhide NEXT (by have := unhide UW; rw [hl, decide_eq_false hR] at this; simpa using this.symm))
        have hl2 : Op.bytesLess key.toList H.toList = false := hl
        go_wp2_with fail
        go_step3
        exact ⟨rfl, ⟨R, h + 1, _, _, _, _, _, _, _, _, _, _, _, _, _, _, _, _, _, _, _, _, _, _, _, _, _, _, _, _, _, _, _, _, _, _, _, _, _, _, _, _, _, _, _, _, _, _, _, _, _, _, _, _, _, _, _, _, by go_num, NX, bA⟩, by simp [intOf]; omega⟩
end Go.Proofs.Ytdajoapbdeplhaa

namespace Go.Proofs.Ytdajoapbdeplhaa
open Go.RowKit

theorem look_rise {es : List EntD} {k : ByteArray} (h : Rise es) : (found es k = true → ∀ hp : pos es k < es.length, lookE es k = some (es[pos es k]'hp).v) ∧ (found es k = false → lookE es k = none) := by
  have below : ∀ j (hj : j < es.length), j < pos es k → (es[j].k.toList == k.toList) = false := fun j hj hjp => by
    have hlt := pos_lt es k j hj hjp
    cases hq : (es[j].k.toList == k.toList)
    · rfl
    · have e : es[j].k = k := toList_inj (by simpa using hq)
      rw [e, ltK_irr] at hlt
      cases hlt
  refine ⟨fun hf hp => ?_, fun hf => ?_⟩
  · obtain ⟨hp', hk⟩ := found_in hf
    exact look_some hp below (by rw [hk]; simp)
  · refine look_none fun i hi => ?_
    rcases Nat.lt_or_ge i (pos es k) with h' | h'
    · exact below i hi h'
    · have hp : pos es k < es.length := by omega
      have h0 := found_not hf hp
      have : ltK k es[i].k = true := by
        rcases Nat.eq_or_lt_of_le h' with e | e
        · subst e; exact h0
        · exact ltK_trans h0 (h.lt hi e)
      cases hq : (es[i].k.toList == k.toList)
      · rfl
      · have e : es[i].k = k := toList_inj (by simpa using hq)
        rw [e, ltK_irr] at this
        cases this
set_option maxRecDepth 100000 in
set_option maxHeartbeats 8000000 in
theorem implFind_any (lo hi : ByteArray) (r : Int) (ab : Option Addr) (nb cb : Nat) (es : List EntD) (ac : Option Addr) (nc cc : Nat) (ds : List DelD) (k : ByteArray) (w : World) (hE : ERow w ab nb es) (hD : DRow w ac nc ds) :
    Calls Try.prog 38 #[pgv lo hi r ab nb cb ac nc cc, .string k] w fun e w' => e = .returned (findA lo hi r es ds k) ∧ Below w.heap.size w w' := by
  have b0 : Below w.heap.size w (w.alloc (.cells #[.string lo, .string hi, .int .i64 r, .slice ab nb cb, .slice ac nc cc] 53)) := (Below.refl _ _).alloc (Nat.le_refl _) _
  have RE := hide (hE.below b0)
  have RD := hide (hD.below b0)
  clear hE hD
  by_cases hk : 65536 < k.size
  · have E := hide (show Value.tuple #[.string ByteArray.empty, .int .i64 0, .int .i64 2] = findA lo hi r es ds k by unfold findA; rw [if_pos hk])
    go_enter Try.func38, Try.ntmps38
    go_wp2_with fail
    go_ret3
    exact ⟨congrArg Ending.returned (unhide E), b0⟩
  have FA := hide (show findA lo hi r es ds k = if okPage lo hi r es ds = true ∧ keyK k = true then findV lo hi r es ds k else .tuple #[.string ByteArray.empty, .int .i64 0, .int .i64 1] by unfold findA; rw [if_neg hk])
  go_enter Try.func38, Try.ntmps38
  go_wp2_with fail
  refine (settle_any lo hi r ab nb cb es ac nc cc ds _ (unhide RE) (unhide RD)).mono ?_
  rintro e w1 ⟨v, b, rfl, ⟨hb, hs⟩, hb1⟩
  have B1 := hide (b0.trans (hb1.mono b0.size))
  clear b0 hb1 RE RD
  cases b with
  | false =>
    have E := hide (show Value.tuple #[.string ByteArray.empty, .int .i64 0, .int .i64 1] = findA lo hi r es ds k by rw [unhide FA, ← hb, if_neg (fun h => by cases h.1)])
    clear hb hs
    go_wp2_with fail
    go_ret3
    exact ⟨congrArg Ending.returned (unhide E), unhide B1⟩
  | true =>
    obtain ⟨sb, a', n', c', rfl, hsb, hS⟩ := hs rfl
    have HS := hide hS
    have OK := hide hb.symm
    clear hs hb hS
    by_cases hy : keyK k = true
    · have FV := hide (show findA lo hi r es ds k = findV lo hi r es ds k by rw [unhide FA, if_pos ⟨unhide OK, hy⟩])
      have c0 := (unhide HS).at_.c0
      have c2 := (unhide HS).at_.c2
      have c3 := (unhide HS).at_.c3
      have hn' : n' ≤ 100 := by have h1 := (unhide HS).len; have h2 := ok_len (unhide OK); omega
      by_cases hl : Op.bytesLess k.toList lo.toList = true
      · have E := hide (show Value.tuple #[.string ByteArray.empty, .int .i64 0, .int .i64 4] = findA lo hi r es ds k by rw [unhide FV]; unfold findV ltK; rw [if_pos hl])
        go_wp2_with (go_at_call 36; refine (keyOK_any k _).mono ?_; rintro e w2 ⟨rfl, hw2⟩; subst w2)
        go_ret3
        exact ⟨congrArg Ending.returned (unhide E), unhide B1⟩
      · have hl' : Op.bytesLess k.toList lo.toList = false := by simpa using hl
        have hl2 : ¬ ltK k lo = true := hl
        by_cases hu : underK k (highE hi ds) = true
        · have hu2 : ¬ underK k (highE hi ds) = false := by rw [hu]; decide
          have hin : inK lo (highE hi ds) k = true := by unfold inK ltK; unfold underK ltK at hu; rw [hl', hu]; rfl
          have F := hide (show findA lo hi r es ds k = lookV (lookE (entsE es ds) k) by rw [unhide FV]; unfold findV; rw [if_neg hl2, if_neg hu2])
          have HC := hide (covers_any sb lo (highE hi ds) (rightE r ds) (.slice a' n' c') k w1 (unhide HS).at_)
          go_wp2_with (first | (go_at_call 36; refine (keyOK_any k _).mono ?_; rintro e w2 ⟨rfl, hw2⟩; subst w2) | (go_at_call 66; refine (unhide HC).mono ?_; rintro e w2 ⟨rfl, qc, hw2⟩; subst w2; rw [hin]))
          replace HS := hide (show Sett (w1.drewN qc) sb lo (highE hi ds) (rightE r ds) a' n' c' (entsE es ds) from ⟨(unhide HS).at_, (unhide HS).own, (unhide HS).rise⟩)
          replace B1 := hide (bel_drewN (unhide B1) qc)
          refine (searchEntry_any a' n' c' (entsE es ds) k (w1.drewN qc) (erow_of_owns (unhide HS).own) (unhide HS).rise (by omega)).mono ?_
          rintro e w3 ⟨rfl, hb3⟩
          have S3 := hide ((unhide HS).step hb3)
          have B3 := hide ((unhide B1).trans (hb3.mono (unhide B1).size))
          have d3 := (unhide S3).at_.c3
          clear hb3 HS c0 c2 c3 HC
          by_cases hf : found (entsE es ds) k = true
          · obtain ⟨hp, _⟩ := found_in hf
            have E := hide (show Value.tuple #[.string (entsE es ds)[pos (entsE es ds) k].v, .int .i64 0, .int .i64 0] = findA lo hi r es ds k by rw [unhide F, (look_rise (unhide S3).rise).1 hf hp]; rfl)
            obtain ⟨b', off', he, x0, x1⟩ := (erow_of_owns (unhide S3).own).2 _ hp
            subst he
            have hpn : pos (entsE es ds) k < n' := by rw [(unhide S3).len]; exact hp
            rw [hf]
            generalize (entsE es ds)[pos (entsE es ds) k] = xt at *
            generalize pos (entsE es ds) k = tp at *
            clear hf
            go_wp2_with fail
            first | (go_quiet (fail); go_wp2_with fail) | skip
            go_ret3
            exact ⟨congrArg Ending.returned (unhide E), by first | exact unhide B3 | exact bel_drewN (unhide B3) _⟩
          · have hf : found (entsE es ds) k = false := by simpa using hf
            have E := hide (show Value.tuple #[.string ByteArray.empty, .int .i64 0, .int .i64 5] = findA lo hi r es ds k by rw [unhide F, (look_rise (unhide S3).rise).2 hf]; rfl)
            rw [hf]
            go_wp2_with fail
            go_ret3
            exact ⟨congrArg Ending.returned (unhide E), unhide B3⟩
        · have hu' : underK k (highE hi ds) = false := by simpa using hu
          have hin : inK lo (highE hi ds) k = false := by unfold inK ltK; unfold underK ltK at hu'; rw [hl', hu']; rfl
          have E := hide (show Value.tuple #[.string ByteArray.empty, .int .i64 (rightE r ds), .int .i64 12] = findA lo hi r es ds k by rw [unhide FV]; unfold findV; rw [if_neg hl2, if_pos hu'])
          have HC := hide (covers_any sb lo (highE hi ds) (rightE r ds) (.slice a' n' c') k w1 (unhide HS).at_)
          go_wp2_with (first | (go_at_call 36; refine (keyOK_any k _).mono ?_; rintro e w2 ⟨rfl, hw2⟩; subst w2) | (go_at_call 66; refine (unhide HC).mono ?_; rintro e w2 ⟨rfl, qc, hw2⟩; subst w2; rw [hin]))
          first | (go_quiet (fail); go_wp2_with fail) | skip
          go_ret3
          exact ⟨congrArg Ending.returned (unhide E), by first | exact bel_drewN (unhide B1) _ | exact bel_drewN (bel_drewN (unhide B1) _) _⟩
    · have E := hide (show Value.tuple #[.string ByteArray.empty, .int .i64 0, .int .i64 1] = findA lo hi r es ds k by rw [unhide FA, if_neg (fun h => hy h.2)])
      have hy : keyK k = false := by simpa using hy
      go_wp2_with (go_at_call 36; refine (keyOK_any k _).mono ?_; rintro e w2 ⟨rfl, hw2⟩; subst w2)
      go_ret3
      exact ⟨congrArg Ending.returned (unhide E), unhide B1⟩
end Go.Proofs.Ytdajoapbdeplhaa

namespace Go.Proofs.Ytdajoapbdeplhaa
open Go.RowKit

set_option maxRecDepth 100000 in
set_option maxHeartbeats 4000000 in
theorem implTreeGet_any (ap : Option Addr) (np cp : Nat) (ag : Option Addr) (ng cg : Nat) (ai : Option Addr) (ni ci : Nat) (hs : List PpH) (gs : List Bool) (idx : List RefD) (key : ByteArray) (w : World) (hT : TrIn w ap np cp ag ng cg ai ni hs gs idx) (hci : ai = none → ci = 0) :
    Calls Try.prog 12 #[.agg #[.slice ap np cp, .slice ag ng cg, .slice ai ni ci], .string key] w fun e w' => e = .returned (getA (trd hs gs idx) key) ∧ Below w.heap.size w w' := by
  have b0 : ∀ o, Below w.heap.size w (w.alloc o) := fun o => (Below.refl _ _).alloc (Nat.le_refl _) _
  have BW := hide (b0 (.cells #[.slice ap np cp, .slice ag ng cg, .slice ai ni ci] 32))
  have T := hide (hT.below (unhide BW))
  have BT := hide (show ∀ u, Below (w.alloc (.cells #[.slice ap np cp, .slice ag ng cg, .slice ai ni ci] 32)).heap.size (w.alloc (.cells #[.slice ap np cp, .slice ag ng cg, .slice ai ni ci] 32)) u → Below w.heap.size w u from fun u hu => (unhide BW).trans (hu.mono (unhide BW).size))
  have lp := hT.plen
  by_cases hk : 65536 < key.size
  · have E := hide (show Value.tuple #[.string ⟨#[]⟩, .int .i64 0, .int .i64 2] = getA (trd hs gs idx) key by unfold getA; rw [if_pos hk])
    clear hT
    go_enter Try.func12, Try.ntmps12
    go_wp2_with fail
    go_ret3
    exact ⟨congrArg Ending.returned (unhide E), b0 _⟩
  have GA := hide (show getA (trd hs gs idx) key = if okT (trd hs gs idx) = true ∧ keyK key = true then getR (trd hs gs idx).here idx key else .tuple #[.string ⟨#[]⟩, .int .i64 0, .int .i64 1] by unfold getA; rw [if_neg hk]; rfl)
  clear hT BW
  go_enter Try.func12, Try.ntmps12
  go_wp2_with fail
  generalize w.alloc (.cells #[.slice ap np cp, .slice ag ng cg, .slice ai ni ci] 32) = W at *
  refine (tableOf_any ap np cp ag ng cg ai ni ci hs gs idx W (unhide T) hci).mono ?_
  rintro e w2 ⟨v, rfl, hb, htab⟩
  have KE := hide (fun u => keyOK_any key u)
  cases hok : okT (trd hs gs idx) with
  | false =>
    have E := hide (show Value.tuple #[.string ⟨#[]⟩, .int .i64 0, .int .i64 1] = getA (trd hs gs idx) key by rw [unhide GA, hok, if_neg (fun h => by cases h.1)])
    clear htab
    go_wp2_with fail
    go_ret3
    exact ⟨congrArg Ending.returned (unhide E), unhide BT _ hb⟩
  | true =>
    obtain ⟨mb, qs, vp, vi, rfl, hown, hqs, hmem⟩ := htab hok
    cases hky : keyK key with
    | false =>
      have E := hide (show Value.tuple #[.string ⟨#[]⟩, .int .i64 0, .int .i64 1] = getA (trd hs gs idx) key by rw [unhide GA, hky, if_neg (fun h => by cases h.2)])
      rw [hky] at KE
      clear hown hqs hmem htab
      go_wp2_with fail
      refine (unhide KE _).mono ?_
      rintro e w3 ⟨rfl, hw3⟩
      subst w3
      go_wp2_with fail
      go_ret3
      exact ⟨congrArg Ending.returned (unhide E), unhide BT _ hb⟩
    | true =>
      have hG : GoodT (trd hs gs idx).here idx := good_of hok
      have hrow : ∀ b x, some (b, x) ∈ qs → ERow w2 x.s0.a x.s0.n x.X.es ∧ DRow w2 x.s1.a x.s1.n x.X.ds := fun b x hx => by
        obtain ⟨j, hj, e⟩ := List.getElem_of_mem (hmem b x hx).1
        have h := PpIn.sub ((unhide T).below hb).pgs hj
        rw [e] at h
        exact ⟨erow_C h.1, drow_C h.2⟩
      obtain ⟨ap2, cp2, ai2, ci2, M⟩ := hown.table hrow
      have G := hide (show GoodT (qsP qs) idx by rw [hqs]; exact hG)
      have HM := hide M
      have HD := hide (down_any mb qs idx ap2 cp2 ai2 ci2 key w2 M (unhide G))
      obtain ⟨p, hdn⟩ := (unhide G).down key
      obtain ⟨v, c, r, hv1, hv2⟩ := lookV_get hdn
      obtain ⟨q, hqe, _, pb, x, hqk, hX⟩ := tb_at hdn.1
      have hqn : q < qs.length := (List.getElem?_eq_some_iff.1 hqk).1
      have hm2 : some (pb, x) ∈ qs := List.mem_of_getElem? hqk
      have hf30 := hdn.2.2.2
      have hokp := (hmem pb x hm2).2
      have E := hide (show Value.tuple #[.string v, .int .i64 (((downT (qsP qs) idx key).2 : Nat) : Int), .int .i64 c] = getA (trd hs gs idx) key by
        rw [unhide GA, if_pos ⟨hok, hky⟩, hv2, hqs])
      have HX := hide (show findA x.X.lo x.X.hi x.X.r x.X.es x.X.ds key = .tuple #[.string v, r, .int .i64 c] by
        unfold findA
        rw [if_neg hk, if_pos ⟨hokp, hky⟩, hX, findV_down hdn.2.1 hdn.2.2.1, hv1])
      have QK := hide hqk
      have HF := hide (fun (u : World) (hu : Below w2.heap.size w2 u) => implFind_any x.X.lo x.X.hi x.X.r x.s0.a x.s0.n x.s0.c x.X.es x.s1.a x.s1.n x.s1.c x.X.ds key u ((hrow pb x hm2).1.below hu) ((hrow pb x hm2).2.below hu))
      rw [unhide HX] at HF
      rw [hqe] at HD
      rw [hky] at KE
      clear hdn hv1 hv2 hX HX GA hqe hown hqs htab M hrow hqk hok hG
      generalize (downT (qsP qs) idx key).2 = hops at *
      go_wp2_with fail
      refine (unhide KE _).mono ?_
      rintro e w3 ⟨rfl, hw3⟩
      subst w3
      go_wp2_with fail
      refine (unhide HD).mono ?_
      rintro e w4 ⟨rfl, hb4⟩
      have bA := hide (unhide BT _ (hb.trans (hb4.mono hb.size)))
      have M4 := (unhide HM).below hb4
      have c0 := (heap_at M4.box 0).1
      obtain ⟨b, off, hap, hc⟩ := M4.row.at (j := q) (u := .pointer (some ⟨pb, 0, none⟩)) (by rw [List.getElem?_map, unhide QK]; rfl)
      subst hap
      have PB := (M4.pgs pb x hm2).1
      have q0 := (heap_at PB 0).1
      have q1 := (heap_at PB 1).1
      have q2 := (heap_at PB 2).1
      have q3 := (heap_at PB 3).1
      have q4 := (heap_at PB 4).1
      have HF4 := hide (unhide HF w4 hb4)
      clear HF HD M4 PB hmem hm2 HM QK hokp hb hb4
      obtain ⟨X, ⟨a0, n0, k0⟩, ⟨a1, n1, k1⟩⟩ := x
      unfold pgv at HF4
      simp only at q0 q1 q2 q3 q4 HF4
      go_wp2_with fail
      refine (unhide HF4).mono ?_
      rintro e w5 ⟨rfl, hb5⟩
      have bB := (unhide bA).trans (hb5.mono (unhide bA).size)
      clear HF4 q0 q1 q2 q3 q4 c0 hc hb5
      go_wp2_with fail
      go_ret3
      exact ⟨congrArg Ending.returned (unhide E), bB⟩
end Go.Proofs.Ytdajoapbdeplhaa

namespace Go.Proofs.Ytdajoapbdeplhaa
open Go.RowKit

set_option maxRecDepth 100000 in
set_option maxHeartbeats 8000000 in
theorem lawTreeGet_any (ap : Option Addr) (np cp : Nat) (ag : Option Addr) (ng cg : Nat) (ai : Option Addr) (ni ci : Nat) (hs : List PpH) (gs : List Bool) (idx : List RefD) (key : ByteArray) (w : World) (hT : TrIn w ap np cp ag ng cg ai ni hs gs idx) (hC : TrCame w hs idx) (hn : np ≤ maxLen ∧ ng ≤ maxLen ∧ ni ≤ maxLen) (_hk : key.size ≤ maxLen) :
    Calls Try.prog 4 #[.agg #[.slice ap np cp, .slice ag ng cg, .slice ai ni ci], .string key] w fun e w' => e = .returned (.bool true) ∧ Below w.heap.size w w' := by
  have B : Below w.heap.size w (w.alloc (.cells #[.slice ap np cp, .slice ag ng cg, .slice ai ni ci] 26)) := (Below.refl _ _).alloc (Nat.le_refl _) _
  have P := hide hT
  have PC := hide hC
  have K := hide (heap_alloc_new w (.cells #[.slice ap np cp, .slice ag ng cg, .slice ai ni ci] 26))
  have cC : ∀ u, Below w.heap.size w u → TrCame u hs idx := fun u hu => ⟨fun h hh => (hC.pg h hh).below hu, hC.ix⟩
  have C0 := hide (fun u (hu : Below w.heap.size w u) => szTree_any ap np cp ag ng cg ai ni ci hs gs idx 1048576 u (by omega) (by omega) (hT.below hu) (cC u hu) hn)
  have CC := hide cC
  clear hT hC hn cC
  by_cases hkl : 1048576 < key.size
  · go_enter Try.func4, Try.ntmps4
    go_wp2_with fail
    go_ret
    exact ⟨rfl, B⟩
  go_enter Try.func4, Try.ntmps4
  go_wp2_with fail
  generalize w.alloc (.cells #[.slice ap np cp, .slice ag ng cg, .slice ai ni ci] 26) = W0 at *
  refine (unhide C0 W0 B).mono ?_
  rintro e w1 ⟨q, rfl, hq, hb⟩
  replace K := hide ((hb.block w.heap.size (tr_lt (unhide K))).trans (unhide K))
  replace B := B.trans (hb.mono B.size)
  clear hb C0
  rcases hq with rfl | ⟨q0, _, n1, n2, n3, hfew⟩
  · go_wp2_with fail
    go_ret
    exact ⟨rfl, B⟩
  have FEW := hide hfew
  clear hfew
  have CT := hide (show ∀ u, Below w.heap.size w u → Calls Try.prog 8 #[.agg #[.slice ap np cp, .slice ag ng cg, .slice ai ni ci]] u fun e w' => ∃ g1 g2 g3 hs', e = .returned (.agg #[.slice (some ⟨g1, 0, none⟩) np np, .slice (some ⟨g2, 0, none⟩) ng ng, .slice (some ⟨g3, 0, none⟩) ni ni]) ∧ TrMade w' u.heap.size np ng ni g1 g2 g3 hs' hs gs idx ∧ Below u.heap.size u w' from fun u hu => (toTree_any ap np cp ag ng cg ai ni ci hs gs idx u ((unhide P).below hu) (unhide CC u hu) ⟨n1, n2, n3⟩ (unhide FEW)).mono fun e w' h => by
    obtain ⟨g1, g2, g3, hs', e, o, x, b⟩ := h
    exact ⟨g1, g2, g3, hs', e, ⟨o, x⟩, b⟩)
  obtain ⟨rv, rn, rc, hR⟩ := getA_tup (trd hs gs idx) key
  have CS := hide (show ∀ (u : World) (B g1 g2 g3 : Nat) (hs' : List PpH), TrMade u B np ng ni g1 g2 g3 hs' hs gs idx → Calls Try.prog 11 #[.agg #[.slice (some ⟨g1, 0, none⟩) np np, .slice (some ⟨g2, 0, none⟩) ng ng, .slice (some ⟨g3, 0, none⟩) ni ni], .string key] u fun e w' => e = .returned (.tuple #[.string rv, .int .i64 rn, .int .i64 rc]) ∧ Below u.heap.size u w' from fun u B g1 g2 g3 hs' ho => by
    rw [← hR, ← ho.okT]; exact specTreeGet_any _ _ _ _ _ _ _ _ _ hs' gs idx key u ho.own.reads ho.cap)
  have CI := hide (show ∀ (u : World) (B g1 g2 g3 : Nat) (hs' : List PpH), TrMade u B np ng ni g1 g2 g3 hs' hs gs idx → Calls Try.prog 12 #[.agg #[.slice (some ⟨g1, 0, none⟩) np np, .slice (some ⟨g2, 0, none⟩) ng ng, .slice (some ⟨g3, 0, none⟩) ni ni], .string key] u fun e w' => e = .returned (.tuple #[.string rv, .int .i64 rn, .int .i64 rc]) ∧ Below u.heap.size u w' from fun u B g1 g2 g3 hs' ho => by
    rw [← hR, ← ho.okT]; exact implTreeGet_any _ _ _ _ _ _ _ _ _ hs' gs idx key u ho.own.reads (fun h => by cases h))
  have CQ := hide (show ∀ (u : World) (B g1 g2 g3 B' h1 h2 h3 : Nat) (hs1 hs2 : List PpH), TrMade u B np ng ni g1 g2 g3 hs1 hs gs idx → TrMade u B' np ng ni h1 h2 h3 hs2 hs gs idx → Calls Try.prog 10 #[.agg #[.slice (some ⟨g1, 0, none⟩) np np, .slice (some ⟨g2, 0, none⟩) ng ng, .slice (some ⟨g3, 0, none⟩) ni ni], .agg #[.slice (some ⟨h1, 0, none⟩) np np, .slice (some ⟨h2, 0, none⟩) ng ng, .slice (some ⟨h3, 0, none⟩) ni ni]] u fun e w' => e = .returned (.bool true) ∧ Below u.heap.size u w' from fun u B g1 g2 g3 B' h1 h2 h3 hs1 hs2 o1 o2 =>
    eqTree_any _ _ np _ _ _ _ ng _ _ _ _ ni _ _ hs1 hs2 gs idx u o1.own.reads o2.own.reads (o2.same.trans o1.same.symm) ⟨n1, n2, n3⟩ (o1.few (unhide P).pgs (unhide FEW)))
  clear hR P FEW CC PC
  obtain ⟨p0, p1, p2⟩ := tr_cells (unhide K)
  go_wp2_with fail
  refine (unhide CT w1 B).mono ?_
  rintro e w2 ⟨g1, g2, g3, hs2, rfl, ho, hb⟩
  replace K := hide ((hb.block w.heap.size (tr_lt (unhide K))).trans (unhide K))
  replace B := B.trans (hb.mono B.size)
  have O2 := hide ho
  clear hb ho p0 p1 p2
  go_wp2_with fail
  refine (unhide CS w2 _ _ _ _ _ (unhide O2)).mono ?_
  rintro e w3 ⟨rfl, hb⟩
  replace K := hide ((hb.block w.heap.size (tr_lt (unhide K))).trans (unhide K))
  replace B := B.trans (hb.mono B.size)
  clear hb O2 CS
  obtain ⟨p0, p1, p2⟩ := tr_cells (unhide K)
  go_wp2_with fail
  refine (unhide CT w3 B).mono ?_
  rintro e w4 ⟨x1, x2, x3, hs4, rfl, ho, hb⟩
  replace K := hide ((hb.block w.heap.size (tr_lt (unhide K))).trans (unhide K))
  replace B := B.trans (hb.mono B.size)
  clear hb p0 p1 p2
  have hb : Below w4.heap.size w4 (w4.alloc (.cells #[.slice (some ⟨x1, 0, none⟩) np np, .slice (some ⟨x2, 0, none⟩) ng ng, .slice (some ⟨x3, 0, none⟩) ni ni] 32)) := (Below.refl _ _).alloc (Nat.le_refl _) _
  have X := hide (heap_alloc_new w4 (.cells #[.slice (some ⟨x1, 0, none⟩) np np, .slice (some ⟨x2, 0, none⟩) ng ng, .slice (some ⟨x3, 0, none⟩) ni ni] 32))
  replace K := hide ((hb.block w.heap.size (tr_lt (unhide K))).trans (unhide K))
  replace B := B.trans (hb.mono B.size)
  have OX := hide (ho.below hb)
  clear hb ho
  go_wp2_with fail
  generalize w4.alloc (.cells #[.slice (some ⟨x1, 0, none⟩) np np, .slice (some ⟨x2, 0, none⟩) ng ng, .slice (some ⟨x3, 0, none⟩) ni ni] 32) = w5 at *
  generalize hxb : w4.heap.size = xb at *
  refine (unhide CI w5 _ _ _ _ _ (unhide OX)).mono ?_
  rintro e w6 ⟨rfl, hb⟩
  replace K := hide ((hb.block w.heap.size (tr_lt (unhide K))).trans (unhide K))
  replace X := hide ((hb.block xb (tr_lt (unhide X))).trans (unhide X))
  replace OX := hide ((unhide OX).below hb)
  replace B := B.trans (hb.mono B.size)
  clear hb CI hxb
  have SK := hide (show ∀ u, Below w6.heap.size w6 u → (fun u => Below w6.heap.size w6 u ∧ u.cell? ⟨w.heap.size, 0, none⟩ = some (.slice ap np cp) ∧ u.cell? ⟨w.heap.size, 1, none⟩ = some (.slice ag ng cg) ∧ u.cell? ⟨w.heap.size, 2, none⟩ = some (.slice ai ni ci) ∧ u.cell? ⟨xb, 0, none⟩ = some (.slice (some ⟨x1, 0, none⟩) np np) ∧ u.cell? ⟨xb, 1, none⟩ = some (.slice (some ⟨x2, 0, none⟩) ng ng) ∧ u.cell? ⟨xb, 2, none⟩ = some (.slice (some ⟨x3, 0, none⟩) ni ni)) u from fun u hb => by
    obtain ⟨m0, m1, m2⟩ := tr_cells ((hb.block w.heap.size (tr_lt (unhide K))).trans (unhide K))
    obtain ⟨i0, i1, i2⟩ := tr_cells ((hb.block xb (tr_lt (unhide X))).trans (unhide X))
    exact ⟨hb, m0, m1, m2, i0, i1, i2⟩)
  have DT := hide (fun (u : World) (hb : Below w6.heap.size w6 u) => (unhide CT u (B.trans (hb.mono B.size))).mono fun e u' h => show ∃ g1 g2 g3 hs', e = .returned (.agg #[.slice (some ⟨g1, 0, none⟩) np np, .slice (some ⟨g2, 0, none⟩) ng ng, .slice (some ⟨g3, 0, none⟩) ni ni]) ∧ TrMade u' u.heap.size np ng ni g1 g2 g3 hs' hs gs idx ∧ Below w6.heap.size w6 u' by
    obtain ⟨g1, g2, g3, hs', e, o, b⟩ := h
    exact ⟨g1, g2, g3, hs', e, o, hb.trans (b.mono hb.size)⟩)
  have DQ := hide (fun (u : World) (hb : Below w6.heap.size w6 u) (B' h1 h2 h3 : Nat) (hs2 : List PpH) (o2 : TrMade u B' np ng ni h1 h2 h3 hs2 hs gs idx) => (unhide CQ u _ _ _ _ _ _ _ _ _ _ ((unhide OX).below hb) o2).mono fun e u' h => show e = .returned (.bool true) ∧ Below w6.heap.size w6 u' from ⟨h.1, hb.trans (h.2.mono hb.size)⟩)
  have G0 : Below w6.heap.size w6 w6.drew := (Below.refl _ _).drew
  clear CT CQ
  go_wp2_with fail
  go_region_held3 (fun u => Below w6.heap.size w6 u ∧ u.cell? ⟨w.heap.size, 0, none⟩ = some (.slice ap np cp) ∧ u.cell? ⟨w.heap.size, 1, none⟩ = some (.slice ag ng cg) ∧ u.cell? ⟨w.heap.size, 2, none⟩ = some (.slice ai ni ci) ∧ u.cell? ⟨xb, 0, none⟩ = some (.slice (some ⟨x1, 0, none⟩) np np) ∧ u.cell? ⟨xb, 1, none⟩ = some (.slice (some ⟨x2, 0, none⟩) ng ng) ∧ u.cell? ⟨xb, 2, none⟩ = some (.slice (some ⟨x3, 0, none⟩) ni ni)) (exact unhide SK _ (by assumption)) (first
    | (go_at_call 8; refine (unhide DT _ (by assumption)).mono ?_; rintro e w7 ⟨h1, h2, h3, hs7, rfl, o7, b7⟩; have H7 := hide o7; clear o7)
    | (go_at_call 10; refine (unhide DQ _ (by assumption) _ _ _ _ _ (unhide H7)).mono ?_; rintro e w8 ⟨rfl, b8⟩))
  clear b7 H7 G0 DT DQ SK
  have BF := B.trans (b8.mono B.size)
  clear b8
  go_wp2_with fail
  go_ret
  exact ⟨rfl, BF⟩
end Go.Proofs.Ytdajoapbdeplhaa

namespace Go.Proofs.Ytdajoapbdeplhaa
open Go.RowKit Go.ChangeShapes Go.WideShapes

set_option maxRecDepth 100000 in
theorem open_entries {H : Type} {enc : TypeId × Value → H} {w : World} {base : Nat} {spare : Nat → Bool} {held : Bool} {v : Value} {fuel : Nat} {x : DataW H × List MemPlace}
    (h : DataW.trod enc Try.prog w base spare held fuel 84 [v] = some x) : ∃ a l c es, v = .slice a l c ∧ ERow w a l es ∧ l ≤ maxLen ∧ ∀ i (hi : i < es.length), es[i].k.size ≤ maxLen ∧ es[i].v.size ≤ maxLen := by
  rcases Deep.open_slice Try.underlying84 h with ⟨hcs, _⟩ | ⟨y, l, c, m, n, D, Pl, hcs, hb, hl, hm, hmm, _, hel⟩
  · simp at hcs
    subst hcs
    exact ⟨none, 0, 0, [], rfl, ⟨rfl, fun i hi => absurd hi (Nat.not_lt_zero _)⟩, by unfold maxLen; omega, fun i hi => absurd hi (Nat.not_lt_zero _)⟩
  simp at hcs
  subst hcs
  have hlm : l ≤ m := by rw [hmm]; split <;> omega
  have c2 : Try.prog.cellsOf 141 = 2 := by kernel_rfl
  rw [c2] at hel
  have one : ∀ i, i < l → ∃ d : EntD, (d.k.size ≤ maxLen ∧ d.v.size ≤ maxLen) ∧ ∃ b off, some y = some (⟨b, off, none⟩ : Addr) ∧ w.cell? ⟨b, off + i * 2, none⟩ = some (.string d.k) ∧ w.cell? ⟨b, off + i * 2 + 1, none⟩ = some (.string d.v) := by
    intro i hi
    obtain ⟨cs, hc, ht⟩ := hel i (by omega)
    obtain ⟨_, hlen, hcell⟩ := World.cells?_some hc
    obtain ⟨y0, y1, n', _, _, h0, h1⟩ := trod_struct2 Try.underlying141 ht
    obtain ⟨k0, e0, _, w0⟩ := DataW.trod_string Try.underlying9 h0
    obtain ⟨k1, e1, _, w1⟩ := DataW.trod_string Try.underlying9 h1
    match cs, hlen with
    | [v0, v1], _ =>
      have s0 : Try.prog.cellsOf 9 = 1 := by kernel_rfl
      have e0' : v0 = .string k0 := by simpa [s0] using e0
      have e1' : v1 = .string k1 := by simpa [s0] using e1
      subst e0' e1'
      have g0 := hcell 0 (by omega)
      have g1 := hcell 1 (by omega)
      rw [Deep.add_add] at g0 g1
      obtain ⟨b, off, spot⟩ := y
      have hs : spot = none := by
        by_cases hi0 : i = 0
        · have := World.cell?_spot (g0.trans rfl)
          simpa [Addr.add, hi0] using this
        · obtain ⟨cs', hc', ht'⟩ := hel 0 (by omega)
          obtain ⟨_, hlen', hcell'⟩ := World.cells?_some hc'
          have h0' := hcell' 0 (by omega)
          match cs', hlen' with
          | [u0, u1], _ =>
            have := World.cell?_spot (h0'.trans rfl)
            simpa [Addr.add] using this
      subst hs
      have e : ∀ j, (⟨b, off, none⟩ : Addr).add j = ⟨b, off + j, none⟩ := fun j => by unfold Addr.add; split <;> simp_all
      rw [e] at g0 g1
      exact ⟨⟨k0, k1⟩, ⟨w0, w1⟩, b, off, rfl, by simpa using g0, by simpa [Nat.add_assoc] using g1⟩
  have : ∀ i, ∃ d : EntD, i < l → (d.k.size ≤ maxLen ∧ d.v.size ≤ maxLen) ∧ ∃ b off, some y = some (⟨b, off, none⟩ : Addr) ∧ w.cell? ⟨b, off + i * 2, none⟩ = some (.string d.k) ∧ w.cell? ⟨b, off + i * 2 + 1, none⟩ = some (.string d.v) := fun i => by
    by_cases hi : i < l
    · obtain ⟨d, hd⟩ := one i hi
      exact ⟨d, fun _ => hd⟩
    · exact ⟨noE, fun h => absurd h hi⟩
  obtain ⟨F, hF⟩ := Classical.skolem.1 this
  refine ⟨some y, l, c, (List.range l).map F, rfl, ⟨by simp, fun i hi => ?_⟩, by omega, fun i hi => ?_⟩
  · have hi' : i < l := by simpa using hi
    simpa using (hF i hi').2
  · have hi' : i < l := by simpa using hi
    simpa using (hF i hi').1
set_option maxRecDepth 100000 in
theorem open_deltas {H : Type} {enc : TypeId × Value → H} {w : World} {base : Nat} {spare : Nat → Bool} {held : Bool} {v : Value} {fuel : Nat} {x : DataW H × List MemPlace}
    (h : DataW.trod enc Try.prog w base spare held fuel 85 [v] = some x) : ∃ a l c ds, v = .slice a l c ∧ DRow w a l ds ∧ l ≤ maxLen ∧ ∀ i (hi : i < ds.length), ds[i].k.size ≤ maxLen ∧ ds[i].v.size ≤ maxLen := by
  rcases Deep.open_slice Try.underlying85 h with ⟨hcs, _⟩ | ⟨y, l, c, m, n, D, Pl, hcs, hb, hl, hm, hmm, _, hel⟩
  · simp at hcs
    subst hcs
    exact ⟨none, 0, 0, [], rfl, ⟨rfl, fun i hi => absurd hi (Nat.not_lt_zero _)⟩, by unfold maxLen; omega, fun i hi => absurd hi (Nat.not_lt_zero _)⟩
  simp at hcs
  subst hcs
  have hlm : l ≤ m := by rw [hmm]; split <;> omega
  have c4 : Try.prog.cellsOf 143 = 4 := by kernel_rfl
  rw [c4] at hel
  have one : ∀ i, i < l → ∃ d : DelD, (d.k.size ≤ maxLen ∧ d.v.size ≤ maxLen) ∧ ∃ b off, some y = some (⟨b, off, none⟩ : Addr) ∧ w.cell? ⟨b, off + i * 4, none⟩ = some (.int .i64 d.kind) ∧ w.cell? ⟨b, off + i * 4 + 1, none⟩ = some (.string d.k) ∧
      w.cell? ⟨b, off + i * 4 + 2, none⟩ = some (.string d.v) ∧ w.cell? ⟨b, off + i * 4 + 3, none⟩ = some (.int .i64 d.to) := by
    intro i hi
    obtain ⟨cs, hc, ht⟩ := hel i (by omega)
    obtain ⟨_, hlen, hcell⟩ := World.cells?_some hc
    obtain ⟨y0, y1, y2, y3, n', _, _, h0, h1, h2, h3⟩ := Go.Joins.trod_struct4 Try.underlying143 ht
    obtain ⟨k0, e0, _, w0⟩ := DataW.trod_int Try.underlying3 h0
    obtain ⟨k1, e1, _, w1⟩ := DataW.trod_string Try.underlying9 h1
    obtain ⟨k2, e2, _, w2⟩ := DataW.trod_string Try.underlying9 h2
    obtain ⟨k3, e3, _, w3⟩ := DataW.trod_int Try.underlying3 h3
    match cs, hlen with
    | [v0, v1, v2, v3], _ =>
      have s0 : Try.prog.cellsOf 3 = 1 := by kernel_rfl
      have s3 : Try.prog.cellsOf 9 = 1 := by kernel_rfl
      have e0' : v0 = .int .i64 k0 := by simpa [s0] using e0
      have e1' : v1 = .string k1 := by simpa [s0, s3] using e1
      have e2' : v2 = .string k2 := by simpa [s0, s3] using e2
      have e3' : v3 = .int .i64 k3 := by simpa [s0, s3] using e3
      subst e0' e1' e2' e3'
      have g0 := hcell 0 (by omega)
      have g1 := hcell 1 (by omega)
      have g2 := hcell 2 (by omega)
      have g3 := hcell 3 (by omega)
      rw [Deep.add_add] at g0 g1 g2 g3
      obtain ⟨b, off, spot⟩ := y
      have hs : spot = none := by
        by_cases hi0 : i = 0
        · have := World.cell?_spot (g0.trans rfl)
          simpa [Addr.add, hi0] using this
        · obtain ⟨cs', hc', ht'⟩ := hel 0 (by omega)
          obtain ⟨_, hlen', hcell'⟩ := World.cells?_some hc'
          have h0' := hcell' 0 (by omega)
          match cs', hlen' with
          | [u0, u1, u2, u3], _ =>
            have := World.cell?_spot (h0'.trans rfl)
            simpa [Addr.add] using this
      subst hs
      have e : ∀ j, (⟨b, off, none⟩ : Addr).add j = ⟨b, off + j, none⟩ := fun j => by unfold Addr.add; split <;> simp_all
      rw [e] at g0 g1 g2 g3
      exact ⟨⟨k0, k1, k2, k3⟩, ⟨w1, w2⟩, b, off, rfl, by simpa using g0, by simpa [Nat.add_assoc] using g1, by simpa [Nat.add_assoc] using g2, by simpa [Nat.add_assoc] using g3⟩
  have : ∀ i, ∃ d : DelD, i < l → (d.k.size ≤ maxLen ∧ d.v.size ≤ maxLen) ∧ ∃ b off, some y = some (⟨b, off, none⟩ : Addr) ∧ w.cell? ⟨b, off + i * 4, none⟩ = some (.int .i64 d.kind) ∧ w.cell? ⟨b, off + i * 4 + 1, none⟩ = some (.string d.k) ∧
      w.cell? ⟨b, off + i * 4 + 2, none⟩ = some (.string d.v) ∧ w.cell? ⟨b, off + i * 4 + 3, none⟩ = some (.int .i64 d.to) := fun i => by
    by_cases hi : i < l
    · obtain ⟨d, hd⟩ := one i hi
      exact ⟨d, fun _ => hd⟩
    · exact ⟨noD, fun h => absurd h hi⟩
  obtain ⟨F, hF⟩ := Classical.skolem.1 this
  refine ⟨some y, l, c, (List.range l).map F, rfl, ⟨by simp, fun i hi => ?_⟩, by omega, fun i hi => ?_⟩
  · have hi' : i < l := by simpa using hi
    simpa using (hF i hi').2
  · have hi' : i < l := by simpa using hi
    simpa using (hF i hi').1
theorem array5 {α : Type} {cs : Array α} (h : cs.size = 5) : ∃ c0 c1 c2 c3 c4, cs = #[c0, c1, c2, c3, c4] := by
  obtain ⟨l⟩ := cs
  match l, h with
  | [c0, c1, c2, c3, c4], _ => exact ⟨c0, c1, c2, c3, c4, rfl⟩
theorem trod_struct5 {H : Type} {enc : TypeId × Value → H} {P : Program} {w : World} {base : Nat} {spare : Nat → Bool} {held : Bool} {t : TypeId} {f0 f1 f2 f3 f4 : Field} {fuel : Nat} {cs : List Value} {x : DataW H × List MemPlace} (ht : P.underlying t = some (.struct #[f0, f1, f2, f3, f4])) (h : DataW.trod enc P w base spare held fuel t cs = some x) :
    ∃ y0 y1 y2 y3 y4 n, cs.length = P.cellsOf t ∧ DataW.trod enc P w base spare held n f0.type ((cs.drop f0.offset).take (P.cellsOf f0.type)) = some y0 ∧
      DataW.trod enc P w base spare held n f1.type ((cs.drop f1.offset).take (P.cellsOf f1.type)) = some y1 ∧ DataW.trod enc P w base spare held n f2.type ((cs.drop f2.offset).take (P.cellsOf f2.type)) = some y2 ∧
      DataW.trod enc P w base spare held n f3.type ((cs.drop f3.offset).take (P.cellsOf f3.type)) = some y3 ∧ DataW.trod enc P w base spare held n f4.type ((cs.drop f4.offset).take (P.cellsOf f4.type)) = some y4 := by
  obtain ⟨xs, n, _, rfl, hl, hlen, hf⟩ := DataW.trod_struct ht h
  match xs, hlen with
  | [y0, y1, y2, y3, y4], _ => exact ⟨y0, y1, y2, y3, y4, n, hl, by simpa using hf 0 f0 rfl, by simpa using hf 1 f1 rfl, by simpa using hf 2 f2 rfl, by simpa using hf 3 f3 rfl, by simpa using hf 4 f4 rfl⟩
/-- Five cells that read as a page. -/
theorem open_page_cells {H : Type} {enc : TypeId × Value → H} {w : World} {base : Nat} {spare : Nat → Bool} {held : Bool} {v0 v1 v2 v3 v4 : Value} {fuel : Nat} {x : DataW H × List MemPlace}
    (h : DataW.trod enc Try.prog w base spare held fuel 87 [v0, v1, v2, v3, v4] = some x) : ∃ lo hi r ab nb cb es ac nc cc ds, v0 = .string lo ∧ v1 = .string hi ∧ v2 = .int .i64 r ∧ v3 = .slice ab nb cb ∧ v4 = .slice ac nc cc ∧ IsPage w lo hi ab nb es ac nc ds := by
  obtain ⟨y0, y1, y2, y3, y4, n, _, h0, h1, h2, h3, h4⟩ := trod_struct5 Try.underlying87 h
  have s0 : Try.prog.cellsOf 3 = 1 := by kernel_rfl
  have s1 : Try.prog.cellsOf 9 = 1 := by kernel_rfl
  have s2 : Try.prog.cellsOf 84 = 1 := by kernel_rfl
  have s3 : Try.prog.cellsOf 85 = 1 := by kernel_rfl
  obtain ⟨lo, e0, _, w0⟩ := DataW.trod_string Try.underlying9 h0
  obtain ⟨hi, e1, _, w1⟩ := DataW.trod_string Try.underlying9 h1
  obtain ⟨r, e2, _, w2⟩ := DataW.trod_int Try.underlying3 h2
  have h3' : DataW.trod enc Try.prog w base spare held n 84 [v3] = some y3 := by simpa [s2] using h3
  have h4' : DataW.trod enc Try.prog w base spare held n 85 [v4] = some y4 := by simpa [s3] using h4
  obtain ⟨ab, nb, cb, es, rfl, hE, hnb, hTE⟩ := open_entries h3'
  obtain ⟨ac, nc, cc, ds, rfl, hD, hnc, hTD⟩ := open_deltas h4'
  exact ⟨lo, hi, r, ab, nb, cb, es, ac, nc, cc, ds, by simpa [s1] using e0, by simpa [s1] using e1, by simpa [s0] using e2, rfl, rfl, hE, hD, w0, w1, hnb, hnc, hTE, hTD⟩
set_option maxRecDepth 100000 in
theorem open_page {H : Type} {enc : TypeId × Value → H} {w : World} {base : Nat} {spare : Nat → Bool} {held : Bool} {v : Value} {r0 : Reach} {b0 : Nat} {d : DataW H} {p : List MemPlace}
    (hv : Value.okWide Try.prog w r0 b0 87 v) (h : DataW.Trod enc Try.prog w base spare held 87 v d p) : ∃ lo hi r ab nb cb es ac nc cc ds, v = pgv lo hi r ab nb cb ac nc cc ∧ IsPage w lo hi ab nb es ac nc ds := by
  have hC : Try.prog.cellsOf 87 = 5 := by kernel_rfl
  obtain ⟨cs, rfl, hsz⟩ := okWide_struct Try.underlying87 hv
  obtain ⟨c0, c1, c2, c3, c4, rfl⟩ := array5 (hsz.trans hC)
  obtain ⟨fuel, hf⟩ := h
  obtain ⟨lo, hi, r, ab, nb, cb, es, ac, nc, cc, ds, rfl, rfl, rfl, rfl, rfl, hP⟩ := open_page_cells (v0 := c0) (v1 := c1) (v2 := c2) (v3 := c3) (v4 := c4) (by simpa [Value.cells] using hf)
  exact ⟨lo, hi, r, ab, nb, cb, es, ac, nc, cc, ds, rfl, hP⟩
end Go.Proofs.Ytdajoapbdeplhaa

namespace Go.Proofs.Ytdajoapbdeplhaa
open Go.RowKit Go.ChangeShapes Go.WideShapes

theorem open_byC {H : Type} {enc : TypeId × Value → H} {w : World} {base : Nat} {spare : Nat → Bool} {held : Bool} {v : Value} {fuel : Nat} {x : DataW H × List MemPlace}
    (h : DataW.trod enc Try.prog w base spare held fuel 117 [v] = some x) : ∃ (a : Option Addr) (l c : Nat) (xs : List Int), v = .slice a l c ∧ RowC w (.slice a l c) xs.length (xs.map (Value.int .u8)) ∧ l ≤ maxLen := by
  rcases open_ints Try.underlying117 Try.underlying5 (by kernel_rfl) h with ⟨hcs, _⟩ | ⟨y, l, c, zs, hcs, _, hl, hm, hz, _, hcell, hwz⟩
  · simp at hcs
    subst hcs
    exact ⟨none, 0, 0, [], rfl, ⟨none, 0, rfl, fun j u hu => by simp at hu⟩, by unfold maxLen; omega⟩
  · simp at hcs
    subst hcs
    have hlz : l ≤ zs.length := by rw [hz]; split <;> omega
    have hR : IsRow .u8 w (some y) l zs.length zs := .inr ⟨y, rfl, hlz, by rw [hz]; split <;> omega, rfl, hcell, hwz⟩
    obtain ⟨hr, hm2, _⟩ := row_of_isRow hR
    have hxl := hr.1
    refine ⟨some y, l, c, zs.take l, rfl, ⟨some y, c, by rw [hxl], fun j u hu => ?_⟩, hm2⟩
    have hj : j < (zs.take l).length := by simpa using (List.getElem?_eq_some_iff.1 hu).1
    obtain ⟨b, off, e, q⟩ := hr.2 j (by omega)
    refine ⟨b, off, e, ?_⟩
    rw [q, ← hu]
    rw [List.getElem?_map, List.getElem?_eq_getElem hj, List.getD_eq_getElem?_getD, List.getElem?_eq_getElem hj]
    rfl
theorem open_boC {H : Type} {enc : TypeId × Value → H} {w : World} {base : Nat} {held : Bool} {v : Value} {fuel : Nat} {x : DataW H × List MemPlace}
    (h : DataW.trod enc Try.prog w base (fun _ => true) held fuel 23 [v] = some x) : ∃ (a : Option Addr) (l c : Nat) (xs : List Bool), v = .slice a l c ∧ RowC w (.slice a l c) xs.length (xs.map Value.bool) ∧ l ≤ maxLen := by
  rcases Deep.open_bools Try.underlying23 Try.underlying4 (by kernel_rfl) h with ⟨hcs, _⟩ | ⟨y, l, c, B, hcs, _, hl, hm, _, hcell⟩
  · simp at hcs
    subst hcs
    exact ⟨none, 0, 0, [], rfl, ⟨none, 0, rfl, fun j u hu => by simp at hu⟩, by unfold maxLen; omega⟩
  · simp at hcs
    subst hcs
    refine ⟨some y, l, c, (List.range l).map B, rfl, ⟨some y, c, by simp, fun j u hu => ?_⟩, by omega⟩
    have hj : j < l := by simpa using (List.getElem?_eq_some_iff.1 hu).1
    obtain ⟨b, off, spot⟩ := y
    have hs : spot = none := by simpa [Addr.add] using World.cell?_spot (hcell 0 (by omega))
    subst hs
    have e : (⟨b, off, none⟩ : Addr).add j = ⟨b, off + j, none⟩ := by unfold Addr.add; split <;> simp_all
    have := hcell j (by omega)
    rw [e] at this
    exact ⟨b, off, rfl, by rw [this, ← hu]; simp [hj]⟩
end Go.Proofs.Ytdajoapbdeplhaa

namespace Go.Proofs.Ytdajoapbdeplhaa
open Go.RowKit Go.ChangeShapes Go.WideShapes

set_option maxRecDepth 100000 in
theorem open_jlist {H : Type} {enc : TypeId × Value → H} {w : World} {base : Nat} {spare : Nat → Bool} {held : Bool} {v : Value} {fuel : Nat} {x : DataW H × List MemPlace}
    (h : DataW.trod enc Try.prog w base spare held fuel 24 [v] = some x) : ∃ a l c ds, v = .slice a l c ∧ JRow w a l ds ∧ l ≤ maxLen ∧ ∀ i (hi : i < ds.length), ds[i].low.size ≤ maxLen := by
  rcases Deep.open_slice Try.underlying24 h with ⟨hcs, _⟩ | ⟨y, l, c, m, n, D, Pl, hcs, hb, hl, hm, hmm, _, hel⟩
  · simp at hcs
    subst hcs
    exact ⟨none, 0, 0, [], rfl, ⟨rfl, fun i hi => absurd hi (Nat.not_lt_zero _)⟩, by unfold maxLen; omega, fun i hi => absurd hi (Nat.not_lt_zero _)⟩
  simp at hcs
  subst hcs
  have hlm : l ≤ m := by rw [hmm]; split <;> omega
  have cN : Try.prog.cellsOf 89 = 2 := by kernel_rfl
  rw [cN] at hel
  have one : ∀ i, i < l → ∃ d : RefD, (d.low.size ≤ maxLen) ∧ ∃ b off, some y = some (⟨b, off, none⟩ : Addr) ∧ w.cell? ⟨b, off + i * 2, none⟩ = some (.string d.low) ∧ w.cell? ⟨b, off + i * 2 + 1, none⟩ = some (.int .i64 d.id) := by
    intro i hi
    obtain ⟨cs, hc, ht⟩ := hel i (by omega)
    obtain ⟨_, hlen, hcell⟩ := World.cells?_some hc
    obtain ⟨y0, y1, n', _, _, h0, h1⟩ := trod_struct2 Try.underlying89 ht
    obtain ⟨k0, e0, _, w0⟩ := DataW.trod_string Try.underlying9 h0
    obtain ⟨k1, e1, _, w1⟩ := DataW.trod_int Try.underlying3 h1
    match cs, hlen with
    | [v0, v1], _ =>
      have si : Try.prog.cellsOf 3 = 1 := by kernel_rfl
      have ss : Try.prog.cellsOf 9 = 1 := by kernel_rfl
      have e0' : v0 = .string k0 := by simpa [si, ss] using e0
      have e1' : v1 = .int .i64 k1 := by simpa [si, ss] using e1
      subst e0' e1'
      have g0 := hcell 0 (by omega)
      have g1 := hcell 1 (by omega)
      rw [Deep.add_add] at g0 g1
      obtain ⟨b, off, spot⟩ := y
      have hs : spot = none := by
        by_cases hi0 : i = 0
        · have := World.cell?_spot (g0.trans rfl)
          simpa [Addr.add, hi0] using this
        · obtain ⟨cs', hc', ht'⟩ := hel 0 (by omega)
          obtain ⟨_, hlen', hcell'⟩ := World.cells?_some hc'
          have h0' := hcell' 0 (by omega)
          match cs', hlen' with
          | [u0, u1], _ =>
            have := World.cell?_spot (h0'.trans rfl)
            simpa [Addr.add] using this
      subst hs
      have e : ∀ j, (⟨b, off, none⟩ : Addr).add j = ⟨b, off + j, none⟩ := fun j => by unfold Addr.add; split <;> simp_all
      rw [e] at g0 g1
      exact ⟨⟨k0, k1⟩, w0, b, off, rfl, by simpa using g0, by simpa [Nat.add_assoc] using g1⟩
  have : ∀ i, ∃ d : RefD, i < l → (d.low.size ≤ maxLen) ∧ ∃ b off, some y = some (⟨b, off, none⟩ : Addr) ∧ w.cell? ⟨b, off + i * 2, none⟩ = some (.string d.low) ∧ w.cell? ⟨b, off + i * 2 + 1, none⟩ = some (.int .i64 d.id) := fun i => by
    by_cases hi : i < l
    · obtain ⟨d, hd⟩ := one i hi
      exact ⟨d, fun _ => hd⟩
    · exact ⟨noJ, fun h => absurd h hi⟩
  obtain ⟨F, hF⟩ := Classical.skolem.1 this
  refine ⟨some y, l, c, (List.range l).map F, rfl, ⟨by simp, fun i hi => ?_⟩, by omega, fun i hi => ?_⟩
  · have hi' : i < l := by simpa using hi
    simpa using (hF i hi').2
  · have hi' : i < l := by simpa using hi
    simpa using (hF i hi').1
end Go.Proofs.Ytdajoapbdeplhaa

namespace Go.Proofs.Ytdajoapbdeplhaa
open Go.RowKit Go.ChangeShapes Go.WideShapes

set_option maxRecDepth 100000 in
theorem open_Pp {H : Type} {enc : TypeId × Value → H} {w : World} {base : Nat} {spare : Nat → Bool} {held : Bool} {v : Value} {fuel : Nat} {x : DataW H × List MemPlace}
    (h : DataW.trod enc Try.prog w base spare held fuel 22 [v] = some x) : ∃ (a : Option Addr) (l c : Nat) (hs : List PpH), v = .slice a l c ∧ PpIn w (.slice a l c) l hs ∧ l ≤ maxLen ∧ ∀ h ∈ hs, PpIs w h := by
  rcases Deep.open_slice Try.underlying22 h with ⟨hcs, _⟩ | ⟨y, l, c, m, n, D, Pl, hcs, hb, hl, hm, hmm, _, hel⟩
  · simp at hcs
    subst hcs
    exact ⟨none, 0, 0, [], rfl, ⟨⟨none, 0, rfl, fun j u hu => by simp at hu⟩, rfl, fun e he => by simp at he, fun e he => by simp at he⟩, by unfold maxLen; omega, fun h hh => by simp at hh⟩
  simp at hcs
  subst hcs
  have hlm : l ≤ m := by rw [hmm]; split <;> omega
  have cN : Try.prog.cellsOf 87 = 5 := by kernel_rfl
  rw [cN] at hel
  have one : ∀ i, i < l → ∃ d : PpH, PpIs w d ∧ ∃ b off, some y = some (⟨b, off, none⟩ : Addr) ∧ w.cell? ⟨b, off + i * 5, none⟩ = some (.string d.X.lo) ∧ w.cell? ⟨b, off + i * 5 + 1, none⟩ = some (.string d.X.hi) ∧ w.cell? ⟨b, off + i * 5 + 2, none⟩ = some (.int .i64 d.X.r) ∧ w.cell? ⟨b, off + i * 5 + 3, none⟩ = some (.slice d.s0.a d.s0.n d.s0.c) ∧ w.cell? ⟨b, off + i * 5 + 4, none⟩ = some (.slice d.s1.a d.s1.n d.s1.c) := by
    intro i hi
    obtain ⟨cs, hc, ht⟩ := hel i (by omega)
    obtain ⟨_, hlen, hcell⟩ := World.cells?_some hc
    match cs, hlen with
    | [v0, v1, v2, v3, v4], _ =>
      obtain ⟨lo, hi', r, ab, nb, cb, es, ac, nc, cc, ds, e0', e1', e2', q0, q1, hP⟩ := open_page_cells ht
      subst e0' e1' e2' q0 q1
      have u0 := hcell 0 (by omega)
      have u1 := hcell 1 (by omega)
      have u2 := hcell 2 (by omega)
      have u3 := hcell 3 (by omega)
      have u4 := hcell 4 (by omega)
      rw [Deep.add_add] at u0 u1 u2 u3 u4
      obtain ⟨b, off, spot⟩ := y
      have hs : spot = none := by
        by_cases hi0 : i = 0
        · have := World.cell?_spot (u0.trans rfl)
          simpa [Addr.add, hi0] using this
        · obtain ⟨cs', hc', ht'⟩ := hel 0 (by omega)
          obtain ⟨_, hlen', hcell'⟩ := World.cells?_some hc'
          have h0' := hcell' 0 (by omega)
          match cs', hlen' with
          | [w0, w1, w2, w3, w4], _ =>
            have := World.cell?_spot (h0'.trans rfl)
            simpa [Addr.add] using this
      subst hs
      have e : ∀ j, (⟨b, off, none⟩ : Addr).add j = ⟨b, off + j, none⟩ := fun j => by unfold Addr.add; split <;> simp_all
      rw [e] at u0 u1 u2 u3 u4
      exact ⟨⟨⟨lo, hi', r, es, ds⟩, ⟨ab, nb, cb⟩, ⟨ac, nc, cc⟩⟩, hP, b, off, rfl, by simpa using u0, by simpa [Nat.add_assoc] using u1, by simpa [Nat.add_assoc] using u2, by simpa [Nat.add_assoc] using u3, by simpa [Nat.add_assoc] using u4⟩
  have : ∀ i, ∃ d : PpH, i < l → PpIs w d ∧ ∃ b off, some y = some (⟨b, off, none⟩ : Addr) ∧ w.cell? ⟨b, off + i * 5, none⟩ = some (.string d.X.lo) ∧ w.cell? ⟨b, off + i * 5 + 1, none⟩ = some (.string d.X.hi) ∧ w.cell? ⟨b, off + i * 5 + 2, none⟩ = some (.int .i64 d.X.r) ∧ w.cell? ⟨b, off + i * 5 + 3, none⟩ = some (.slice d.s0.a d.s0.n d.s0.c) ∧ w.cell? ⟨b, off + i * 5 + 4, none⟩ = some (.slice d.s1.a d.s1.n d.s1.c) := fun i => by
    by_cases hi : i < l
    · obtain ⟨d, hd⟩ := one i hi
      exact ⟨d, fun _ => hd⟩
    · exact ⟨⟨⟨ByteArray.empty, ByteArray.empty, 0, [], []⟩, ⟨none, 0, 0⟩, ⟨none, 0, 0⟩⟩, fun h => absurd h hi⟩
  obtain ⟨F, hF⟩ := Classical.skolem.1 this
  refine ⟨some y, l, c, (List.range l).map F, rfl, ⟨⟨some y, c, rfl, fun j u hu => ?_⟩, by simp, ppEl_wid _, fun e he x hx => ?_⟩, by omega, fun h hh => ?_⟩
  · have hjl : j < l * 5 := by
      have h1 := (List.getElem?_eq_some_iff.1 hu).1
      rw [fm_len (S := 5) _ (ppEl_wid _)] at h1
      simpa using h1
    have hk : j / 5 < l := by omega
    have hat := ppEl_at (hs := (List.range l).map F) (k := j / 5) (by simpa using hk)
    have e1 := fm_at (S := 5) _ (ppEl_wid ((List.range l).map F)) (j / 5) (j % 5) _ hat (by omega)
    rw [show j / 5 * 5 + j % 5 = j by omega] at e1
    rw [e1] at hu
    obtain ⟨_, b, off, e2, c0, c1, c2, c3, c4⟩ := hF (j / 5) hk
    refine ⟨b, off, e2, ?_⟩
    simp only [List.getElem_map, List.getElem_range] at hu
    have hr : j % 5 < 5 := by omega
    have hj2 : j = j / 5 * 5 + j % 5 := by omega
    generalize j % 5 = r at *
    generalize j / 5 = k at *
    subst hj2
    unfold ppEl at hu
    match r, hr with
    | 0, _ => simp at hu; rw [← hu]; exact c0
    | 1, _ => simp at hu; rw [← hu, ← Nat.add_assoc]; exact c1
    | 2, _ => simp at hu; rw [← hu, ← Nat.add_assoc]; exact c2
    | 3, _ => simp at hu; rw [← hu, ← Nat.add_assoc]; exact c3
    | 4, _ => simp at hu; rw [← hu, ← Nat.add_assoc]; exact c4
  · obtain ⟨h, hh, rfl⟩ := List.mem_map.1 he
    obtain ⟨i, hi, rfl⟩ := List.mem_map.1 hh
    have hi' : i < l := by simpa using hi
    obtain ⟨hP, _⟩ := hF i hi'
    have r0 := rowC_ecs (c := (F i).s0.c) hP.1
    have r1 := rowC_dcs (c := (F i).s1.c) hP.2.1
    unfold ppEl at hx
    simp only [List.mem_cons, List.not_mem_nil, or_false] at hx
    rcases hx with rfl | rfl
    · exact r0
    · exact r1
  · obtain ⟨i, hi, rfl⟩ := List.mem_map.1 hh
    exact (hF i (by simpa using hi)).1
set_option maxRecDepth 100000 in
theorem open_tree {H : Type} {enc : TypeId × Value → H} {w : World} {base : Nat} {held : Bool} {v : Value} {r0 : Reach} {b0 : Nat} {dd : DataW H} {p : List MemPlace}
    (hv : Value.okWide Try.prog w r0 b0 26 v) (h : DataW.Trod enc Try.prog w base (fun _ => true) held 26 v dd p) : ∃ ap np cp ag ng cg ai ni ci hs gs idx, v = .agg #[.slice ap np cp, .slice ag ng cg, .slice ai ni ci] ∧ TrIn w ap np cp ag ng cg ai ni hs gs idx ∧ TrCame w hs idx ∧ (np ≤ maxLen ∧ ng ≤ maxLen ∧ ni ≤ maxLen) := by
  have hC : Try.prog.cellsOf 26 = 3 := by kernel_rfl
  obtain ⟨cs, rfl, hsz⟩ := okWide_struct Try.underlying26 hv
  obtain ⟨fuel, hf⟩ := h
  obtain ⟨c0, c1, c2, rfl⟩ : ∃ c0 c1 c2, cs = #[c0, c1, c2] := by
    have := hsz.trans hC
    obtain ⟨l⟩ := cs
    match l, this with
    | [c0, c1, c2], _ => exact ⟨c0, c1, c2, rfl⟩
  have hf' : DataW.trod enc Try.prog w base (fun _ => true) held fuel 26 [c0, c1, c2] = some (dd, p) := by simpa [Value.cells] using hf
  obtain ⟨y0, y1, y2, n', _, _, h0, h1, h2⟩ := Go.Deep.trod_struct3 Try.underlying26 hf'
  have s0 : Try.prog.cellsOf 22 = 1 := by kernel_rfl
  have s1 : Try.prog.cellsOf 23 = 1 := by kernel_rfl
  have s2 : Try.prog.cellsOf 24 = 1 := by kernel_rfl
  have h0' : DataW.trod enc Try.prog w base (fun _ => true) held n' 22 [c0] = some y0 := by simpa [s0] using h0
  have h1' : DataW.trod enc Try.prog w base (fun _ => true) held n' 23 [c1] = some y1 := by simpa [s1] using h1
  have h2' : DataW.trod enc Try.prog w base (fun _ => true) held n' 24 [c2] = some y2 := by simpa [s2] using h2
  obtain ⟨ap, np, cp, hs, e0, hP, hPn, hPs⟩ := open_Pp h0'
  obtain ⟨ag, ng, cg, gs, e1, hG, hGn⟩ := open_boC h1'
  obtain ⟨ai, ni, ci, idx, e2, hI, hIn, hIl⟩ := open_jlist h2'
  subst e0 e1 e2
  have hgl := rowC_len hG
  exact ⟨ap, np, cp, ag, ng, cg, ai, ni, ci, hs, gs, idx, rfl, ⟨hP, by rw [hgl] at hG ⊢; exact hG, hgl.symm, hI⟩, ⟨hPs, hIl⟩, hPn, hGn, hIn⟩
end Go.Proofs.Ytdajoapbdeplhaa

namespace Go.Proofs.Ytdajoapbdeplhaa.fnExactTreeGetFrame
open Go.ChangeShapes Go.WideShapes Go.ChangeAt Go.RowKit
open Go.ChangeMaps (open_string shut_string)
set_option linter.unusedVariables false

theorem own : ownKnob Try.prog.godebug = none := by kernel_rfl
theorem laidOut : laidOutB Try.prog = true := by kernel_rfl

set_option maxRecDepth 100000 in
theorem lifted (os : Os) (started : os.Started) (H : Type) (enc : TypeId × Value → H) :
    ReturnsInHanded {} Try.checked os 4 .any (Rows.fnExactTreeGetSpec.pre6 enc Try.prog Try.f4 Rows.fnExactTreeGetRow.domain false) (Rows.fnExactTreeGetSpec.post enc Try.prog Try.f4 false true false false) := by
  refine returnsInHanded_of_change (C := Try.checked) own started (by kernel_rfl) Try.func4
    (ChangeSpec.witness6 (enc := enc) (C := Try.checked) false ⟨#[], #[.agg #[.slice none 0 0, .slice none 0 0, .slice none 0 0], .string ByteArray.empty], []⟩ 8 (by kernel_rfl) (by kernel_rfl) (by kernel_rfl) (by kernel_rfl)) ?_
  intro W base args ds gs before hval0 hW _ _
  have hval : ∀ (j : Nat) t v, Try.f4.params[j]? = some t → args[j]? = some v → Value.okWide Try.prog W .any base t v := hval0
  have hW' := hW
  obtain ⟨p, q, hA0, hV, rfl, _, _⟩ := hW
  have hA : DataW.TrodAll enc Try.prog W 0 (fun _ => true) true Try.f4.params.toList args.toList ds p := hA0
  rw [Try.params4] at hA hval
  obtain ⟨v0, vs0, d0, ds0, p0, q0, hargs, rfl, rfl, h0, r0⟩ := trodAll_cons hA
  obtain ⟨v1, vs1, d1, ds1, p1, q1, rfl, rfl, rfl, h1, r1⟩ := trodAll_cons r0
  obtain ⟨rfl, rfl, rfl⟩ := trodAll_nil r1
  obtain rfl : args = #[v0, v1] := by cases args; simp_all
  obtain ⟨rfl, rfl⟩ := trodVars_none hV
  have k0 := h0
  have lt0 : ∀ x ∈ p0, x.block < W.heap.size := by obtain ⟨m, hm⟩ := k0; exact DataW.trod_lt m _ _ _ hm
  have k1 := h1
  have lt1 : ∀ x ∈ p1, x.block < W.heap.size := by obtain ⟨m, hm⟩ := k1; exact DataW.trod_lt m _ _ _ hm
  obtain ⟨tap0, tnp0, tcp0, tag0, tng0, tcg0, tai0, tni0, tci0, ths0, tgs0, tidx0, rfl, w0, wi0, wn0⟩ := open_tree (hval 0 26 v0 rfl rfl) h0
  obtain ⟨x1, rfl, rfl, rfl, w1⟩ := open_string Try.underlying9 (hval 1 9 v1 rfl rfl) h1
  clear hA0 hval0
  refine (lawTreeGet_any tap0 tnp0 tcp0 tag0 tng0 tcg0 tai0 tni0 tci0 ths0 tgs0 tidx0 x1 W w0 wi0 wn0 w1).mono fun e W' ⟨he, bel⟩ => ?_
  subst he
  exact ⟨_, rfl, _, _, _, [], _, [], hW', trodAll_mk1 (shut_bool Try.underlying4 _), (trodAll_cons_mk (Below.trod laidOut (by kernel_rfl) (of_decide_eq_true (by kernel_rfl)) k0 bel lt0) (trodAll_cons_mk (Below.trod laidOut (by kernel_rfl) (of_decide_eq_true (by kernel_rfl)) k1 bel lt1) trodAll_mk0)), rfl, bel.frame _, fun h => by cases h⟩

theorem over : Rows.fnExactTreeGetRow.holds Try.pinned (OpenSpec.ofChange Rows.fnExactTreeGetSpec) :=
  OpenClaim.holds_of_wide 4 Try.f4 rfl rfl rfl rfl rfl rfl rfl ⟨rfl, rfl, rfl, rfl, rfl⟩ rfl rfl rfl rfl rfl (by kernel_rfl) Try.func4 (by kernel_rfl)
    (of_decide_eq_true (by kernel_rfl)) (by unfold Func.isWrapper; first | (rw [if_pos (by decide +kernel)]; kernel_rfl) | (rw [if_neg (by decide +kernel)]; exact ⟨rfl, rfl⟩))
    (fun os started H enc _ => lifted os started H enc)

end Go.Proofs.Ytdajoapbdeplhaa.fnExactTreeGetFrame
namespace Go.Proofs.Ytdajoapbdeplhaa
/-- THE STATEMENT. -/
theorem fnExactTreeGet_proved : Rows.FnExactTreeGetSaid := fnExactTreeGetFrame.over
#print axioms fnExactTreeGet_proved
end Go.Proofs.Ytdajoapbdeplhaa
