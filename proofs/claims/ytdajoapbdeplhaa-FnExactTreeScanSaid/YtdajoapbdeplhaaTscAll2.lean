/-
  TsS, PpD, PpM, JxM, TmA, PpS, TsLaw, PgIn, GdR, JxIn, TrIn, TsP in one.
-/
import Derived.Test.YtdajoapbdeplhaaTscAll1
import Derived.Test.YtdajoapbdeplhaaPpA
import Derived.Test.YtdajoapbdeplhaaRowR
import Derived.Test.YtdajoapbdeplhaaJxC
import Derived.Deep.RegionWith
import Derived.Test.YtdajoapbdeplhaaTrV
import Derived.Test.YtdajoapbdeplhaaMtD
import Derived.Test.YtdajoapbdeplhaaPgP
import Derived.Deep.Slices
import Derived.Lib.SmallJoins
import Derived.OpenShut
import Derived.Test.YtdajoapbdeplhaaGdA
import Derived.Deep.Grids
import Derived.Deep.Strs
import Derived.ProofKit
import Derived.ShutString
import Derived.ChangeOld
import Derived.Below
namespace Go.Proofs.Ytdajoapbdeplhaa
open Go.RowKit

theorem filter_tt (l : List EntD) : l.filter (fun _ => true) = l := by simp
set_option maxRecDepth 100000 in
set_option maxHeartbeats 8000000 in
theorem l05Entries_any (ap : Option Addr) (np cp : Nat) (ag : Option Addr) (ng cg : Nat) (ai : Option Addr) (ni ci : Nat) (hs : List PpH) (gs : List Bool) (idx : List RefD) (w : World) (hT : TrIn w ap np cp ag ng cg ai ni hs gs idx) (hG : GoodT (trd hs gs idx).here idx) (hc : ∀ h ∈ hs, h.s0.n ≤ 100 ∧ h.s1.n ≤ 100) (hcb : ∀ h ∈ hs, h.s0.a = none → h.s0.c = 0) :
    Calls Try.prog 40 #[.agg #[.slice ap np cp, .slice ag ng cg, .slice ai ni ci]] w fun e w' => ∃ a n c, e = .returned (.slice a n c) ∧ EOwns w' w.heap.size (.slice a n c) (treeE (trd hs gs idx).here) ∧ Below w.heap.size w w' ∧ (treeE (trd hs gs idx).here).length ≤ 960 := by
  have b0 : ∀ o, Below w.heap.size w (w.alloc o) := fun o => (Below.refl _ _).alloc (Nat.le_refl _) _
  have lp := hT.plen
  have BW := hide (b0 (.cells #[.slice ap np cp, .slice ag ng cg, .slice ai ni ci] 32))
  have T := hide (hT.below (unhide BW))
  have BT := hide (show ∀ u, Below (w.alloc (.cells #[.slice ap np cp, .slice ag ng cg, .slice ai ni ci] 32)).heap.size (w.alloc (.cells #[.slice ap np cp, .slice ag ng cg, .slice ai ni ci] 32)) u → Below w.heap.size w u from fun u hu => (unhide BW).trans (hu.mono (unhide BW).size))
  have t0 : (w.alloc (.cells #[.slice ap np cp, .slice ag ng cg, .slice ai ni ci] 32)).cell? ⟨w.heap.size, 0, none⟩ = some (.slice ap np cp) := by simp
  have G := hide hG
  have CH := hide hc
  have CB := hide hcb
  obtain ⟨h0, hl0, hid0⟩ := hG.zero
  obtain ⟨p0, hg0, _⟩ := GoodT.ref hG.ix h0
  rw [hid0] at hg0
  have S0 := hide (ScSt.start (f := fun _ => true) hg0)
  rw [filter_tt] at S0
  change Hid (ScSt _ _ (treeE _) _ _ _) at S0
  have zW : w.heap.size ≤ (w.alloc (.cells #[.slice ap np cp, .slice ag ng cg, .slice ai ni ci] 32)).heap.size := (unhide BW).size
  clear hT BW hG hc hcb hg0 hl0 hid0
  generalize treeE (trd hs gs idx).here = ALL at *
  go_enter Try.func40, Try.ntmps40
  go_wp2_with fail
  have zE := hide (show (w.alloc (.cells #[.slice ap np cp, .slice ag ng cg, .slice ai ni ci] 32)).heap.size = w.heap.size + 1 by simp)
  generalize w.alloc (.cells #[.slice ap np cp, .slice ag ng cg, .slice ai ni ci] 32) = W at *
  have OA := hide (show EOwns (W.alloc (.cells #[] 79)) W.heap.size (.slice (some ⟨w.heap.size + 1, 0, none⟩) 0 0) [] from Eq.subst (motive := fun g => EOwns (W.alloc (.cells #[] 79)) W.heap.size (.slice (some ⟨g, 0, none⟩) 0 0) []) (unhide zE) (nil_lit (w := W) 79 2))
  have bL : Below W.heap.size W (W.alloc (.cells #[] 79)) := (Below.refl _ _).alloc (Nat.le_refl _) _
  go_loopw [3, 4] (fun lv iv wr => ∃ (id : Int) (c : Nat) (acc : List EntD) (a : Option Addr) (n k : Nat), lv = .slice a n k ∧ iv = .int .i64 id ∧ Hid (EOwns wr W.heap.size (.slice a n k) acc) ∧ Hid (ScSt (trd hs gs idx).here (fun _ => true) ALL acc id c) ∧ Below W.heap.size W wr) (fun _ iv _ => szId (trd hs gs idx).here (intOf iv))
  case atStart => exact ⟨0, 0, [], _, _, _, rfl, rfl, OA, S0, bL⟩
  case round =>
    clear bL OA S0
    obtain ⟨id, c, acc, aL, nL, kL, rfl, rfl, hO, hS, hb⟩ := hrel
    by_cases hneg : id < 0
    · have E := hide (show EOwns wr w.heap.size (.slice aL nL kL) ALL ∧ ALL.length ≤ 960 by
        have h := unhide hS
        rw [h.neg hneg] at h
        rw [h.done]
        exact ⟨gd_base (unhide hO) zW, h.room⟩)
      clear hS hO
      go_wp2_with fail
      go_ret
      exact ⟨_, _, _, rfl, (unhide E).1, unhide BT _ hb, (unhide E).2⟩
    obtain ⟨p, hg⟩ := (unhide hS).pos (by omega)
    obtain ⟨q, hq1, rfl, hX⟩ := here_some hg
    have s0 := (hb.cell (p := ⟨w.heap.size, 0, none⟩) (cell_lt t0)).trans t0
    obtain ⟨b, off, hap, hbl, d0, d1, d2, d3, d4⟩ := PpIn.cells ((unhide T).below hb).pgs hq1
    subst hap
    have hqn : q < np := by omega
    rw [← hX] at hg
    have hokp : okP hs[q].X = true := (unhide G).ok _ (getP_mem hg)
    have NX := hide ((unhide hS).next (unhide G) hg)
    have MS := hide (szId_next (unhide G) hg)
    have ROOM := hide (unhide hS).room
    have PL := hide (enP_len hokp)
    have HE := hide (l04Entries_any hs[q].X.lo hs[q].X.hi hs[q].X.r hs[q].s0.a hs[q].s0.n hs[q].s0.c hs[q].X.es hs[q].s1.a hs[q].s1.n hs[q].s1.c hs[q].X.ds wr (erow_C (PpIn.sub ((unhide T).below hb).pgs hq1).1) (drow_C (PpIn.sub ((unhide T).below hb).pgs hq1).2) (unhide CH _ (List.getElem_mem hq1)).1 (unhide CH _ (List.getElem_mem hq1)).2 (unhide CB _ (List.getElem_mem hq1)))
    have HB := hide (fun (u : World) (hu : Below W.heap.size W u) => l04Bounds_any hs[q].X.lo hs[q].X.hi hs[q].X.r (.slice hs[q].s0.a hs[q].s0.n hs[q].s0.c) hs[q].s1.a hs[q].s1.n hs[q].s1.c hs[q].X.ds u (drow_C (PpIn.sub ((unhide T).below hu).pgs hq1).2) (by have := (unhide CH _ (List.getElem_mem hq1)).2; omega))
    have PC := hide (fun (u : World) (hu : Below W.heap.size W u) => PpIn.cells ((unhide T).below hu).pgs hq1)
    rw [filter_tt] at NX
    clear hS hg hX hokp
    generalize hs[q] = pd at *
    obtain ⟨X, ⟨a0, n0, c0⟩, ⟨a1, n1, c1⟩⟩ := pd
    unfold pgv at HE
    simp only at d0 d1 d2 d3 d4 HE HB PC
    change Hid (ScSt _ _ _ (acc ++ entsE X.es X.ds) (rightE X.r X.ds) _ ∧ _) at NX
    change Hid (szId _ (rightE X.r X.ds) < _) at MS
    change Hid ((entsE X.es X.ds).length ≤ 32) at PL
    generalize entsE X.es X.ds = ES at *
    generalize rightE X.r X.ds = R at *
    generalize highE X.hi X.ds = HH at *
    go_wp2_with fail
    refine (unhide HE).mono ?_
    rintro e w2 ⟨gE, kE, rfl, hOE, hb2⟩
    obtain ⟨v3, w3, hr, ho, hgr, hnn⟩ := run_appE (c := kE) 39 (show EOwns w2 W.heap.size (.slice aL nL kL) acc from rb_ownsRow_below (unhide hO) hb2) (erow_of_owns hOE) (by have := unhide ROOM; omega) (by have := unhide PL; omega) (fun h => by cases h) (Nat.le_trans hb.size hb2.size)
    have b2 := hb.trans (hb2.mono hb.size)
    have b3 : Below W.heap.size W w3 := b2.trans ((Below.refl _ _).grown hgr b2.size (fun k hk => ((rb_ownsRow_below (unhide hO) hb2).lt k hk).1))
    obtain ⟨aV, cV, hV, _⟩ := eowns_slice ho
    have O3 := hide ho
    clear hO hOE hb2 hgr hnn d0 d1 d2 d3 d4 s0 HE ho
    subst hV
    generalize (acc ++ ES).length = nV at *
    have s0 := (b3.cell (p := ⟨w.heap.size, 0, none⟩) (cell_lt t0)).trans t0
    obtain ⟨b', off', hap', hbl', d0, d1, d2, d3, d4⟩ := unhide PC w3 b3
    injection hap' with hap'
    injection hap' with e1 e2 _
    subst e1 e2
    have HB3 := hide (unhide HB w3 b3)
    have BK := hide b3
    clear PC HB b2 b3 hb
    go_wp2_with (at_builtin; refine wpAppE rfl _ _ 39 rfl _ _ (.slice aV nV cV) w3 rfl rfl hr ?_)
    refine (unhide HB3).mono ?_
    rintro e w4 ⟨rfl, hb4⟩
    have O4 := hide (rb_ownsRow_below (unhide O3) hb4)
    have B4 := hide ((unhide BK).trans (hb4.mono (unhide BK).size))
    clear O3 BK hb4 d0 d1 d2 d3 d4 s0 hr HB3
    go_wp2_with fail
    go_roundw
    case rel => exact ⟨R, c + 1, _, aV, nV, cV, rfl, rfl, O4, (unhide NX).1, unhide B4⟩
    case measure => simp only [intOf]; exact unhide MS
theorem inK_parts (fr tu k : ByteArray) : inK fr tu k = (!ltK k fr && underK k tu) := rfl
set_option maxRecDepth 100000 in
set_option maxHeartbeats 8000000 in
theorem l05Range_any (a : Option Addr) (n c : Nat) (es : List EntD) (fr tu : ByteArray) (w : World) (hR : ERow w a n es) (hn : n ≤ 1000) :
    Calls Try.prog 39 #[.slice a n c, .string fr, .string tu] w fun e w' => ∃ a n c, e = .returned (.slice a n c) ∧ EOwns w' w.heap.size (.slice a n c) (es.filter (fun e => inK fr tu e.k)) ∧ Below w.heap.size w w' := by
  have R := hide hR
  have L := hide hR.1
  clear hR
  have OA := hide (nil_lit (w := w) 79 2)
  have bL : Below w.heap.size w (w.alloc (.cells #[] 79)) := (Below.refl _ _).alloc (Nat.le_refl _) _
  go_enter Try.func39, Try.ntmps39
  go_wp2_with fail
  go_loopw [7, 8] (fun lv iv wr => ∃ (j : Nat) (a : Option Addr) (m k : Nat), j ≤ n ∧ lv = .slice a m k ∧ iv = .int .i64 (j : Int) ∧ Hid (EOwns wr w.heap.size (.slice a m k) ((es.take j).filter (fun e => inK fr tu e.k))) ∧ Below w.heap.size w wr) (fun _ iv _ => n - (intOf iv).toNat)
  case atStart => exact ⟨0, _, _, _, Nat.zero_le _, rfl, rfl, OA, bL⟩
  case round =>
    clear bL OA
    obtain ⟨j, aJ, nJ, kJ, hj, rfl, rfl, hO, hb⟩ := hrel
    by_cases hlt : j < n
    case neg =>
      obtain rfl : j = n := by omega
      have E := hide (show EOwns wr w.heap.size (.slice aJ nJ kJ) (es.filter (fun e => inK fr tu e.k)) by
        have h := unhide hO
        rw [List.take_of_length_le (by rw [unhide L]; exact Nat.le_refl _)] at h
        exact h)
      clear hO
      go_wp2_with fail
      go_ret
      exact ⟨_, _, _, rfl, unhide E, hb⟩
    have hjE : j < es.length := by rw [unhide L]; exact hlt
    obtain ⟨bE, oE, haE, d0, d1⟩ := ((unhide R).below hb).2 j hjE
    subst haE
    have HU := hide (fun u => l04Under_any es[j].k tu u)
    have FY := hide (fun h => filt_yes (f := fun e => inK fr tu e.k) hjE h)
    have FN := hide (fun h => filt_no (f := fun e => inK fr tu e.k) hjE h)
    generalize hej : es[j] = ej at *
    obtain ⟨ek, ev⟩ := ej
    simp only at d0 d1 HU FY FN
    cases h1 : Op.bytesLess ek.toList fr.toList with
    | true =>
      have K := hide (show EOwns wr w.heap.size (.slice aJ nJ kJ) ((es.take (j + 1)).filter (fun e => inK fr tu e.k)) by
        rw [unhide FN (by rw [inK_parts]; unfold ltK; rw [h1]; rfl)]
        exact unhide hO)
      clear hO hej
      go_wp2_with fail
      go_roundw
      case rel => exact ⟨j + 1, aJ, nJ, kJ, by omega, rfl, by go_num, K, hb⟩
      case measure => simp [intOf]; omega
    | false =>
      cases h2 : underK ek tu with
      | false =>
        rw [h2] at HU
        have K := hide (show EOwns wr w.heap.size (.slice aJ nJ kJ) ((es.take (j + 1)).filter (fun e => inK fr tu e.k)) by
          rw [unhide FN (by rw [inK_parts, h2]; simp)]
          exact unhide hO)
        clear hO hej
        go_wp2_with fail
        refine (unhide HU _).mono ?_
        rintro e w3 ⟨rfl, hw3⟩
        subst w3
        clear HU
        go_wp2_with fail
        go_roundw
        case rel => exact ⟨j + 1, aJ, nJ, kJ, by omega, rfl, by go_num, K, hb⟩
        case measure => simp [intOf]; omega
      | true =>
        rw [h2] at HU
        have hacc : ((es.take j).filter (fun e : EntD => inK fr tu e.k)).length ≤ 1000000 := by
          have h3 := List.length_filter_le (fun e : EntD => inK fr tu e.k) (es.take j)
          rw [List.length_take] at h3
          omega
        obtain ⟨v2, w4, hr, ho, hgr, _⟩ := e_app (d := ⟨ek, ev⟩) (unhide hO) hacc hb.size
        have bA : Below wr.heap.size wr (wr.alloc (.cells #[.string ek, .string ev] 79)) := (Below.refl _ _).alloc (Nat.le_refl _) _
        have b4 : Below w.heap.size w w4 := by
          have b3 := hb.trans (bA.mono hb.size)
          exact b3.trans ((Below.refl _ _).grown hgr b3.size (fun k hk => ((unhide hO).lt k hk).1))
        simp only at hr
        rw [← unhide FY (by rw [inK_parts, h2]; unfold ltK; rw [h1]; rfl)] at ho
        obtain ⟨aV, cV, hV, _⟩ := eowns_slice ho
        have O4 := hide ho
        generalize ((es.take (j + 1)).filter (fun e : EntD => inK fr tu e.k)).length = nV at *
        subst hV
        clear hO hgr ho bA hej hacc
        go_wp2_with fail
        refine (unhide HU _).mono ?_
        rintro e w3 ⟨rfl, hw3⟩
        subst w3
        clear HU
        go_wp2_with (at_builtin; refine wpAppE rfl _ _ 39 rfl _ _ (.slice aV nV cV) w4 rfl rfl hr ?_)
        go_roundw
        case rel => exact ⟨j + 1, aV, nV, cV, by omega, rfl, by go_num, O4, b4⟩
        case measure => simp [intOf]; omega
/-- What TreeScan answers. -/
def scanE (t : TreD) (fr tu : ByteArray) : List EntD := if 65536 < fr.size ∨ 65536 < tu.size then [] else if okT t = true then rangeE t.here fr tu else []
def scanC (t : TreD) (fr tu : ByteArray) : Int := if 65536 < fr.size ∨ 65536 < tu.size then 2 else if okT t = true then 0 else 1
theorem rangeE_len {ps : List (Option PageD)} {a b : ByteArray} (h : (treeE ps).length ≤ 960) : (rangeE ps a b).length ≤ 960 := by
  have := List.length_filter_le (fun e : EntD => inK a b e.k) (treeE ps)
  unfold rangeE
  omega
def SnRes (t : TreD) (fr tu : ByteArray) (w : World) (e : Ending) (w' : World) : Prop := ∃ a n c, e = Ending.returned (.tuple #[.slice a n c, .int .i64 (scanC t fr tu)]) ∧ EOwns w' w.heap.size (.slice a n c) (scanE t fr tu) ∧ Below w.heap.size w w'
set_option maxRecDepth 100000 in
set_option maxHeartbeats 4000000 in
theorem specTreeScan_any (ap : Option Addr) (np cp : Nat) (ag : Option Addr) (ng cg : Nat) (ai : Option Addr) (ni ci : Nat) (hs : List PpH) (gs : List Bool) (idx : List RefD) (fr tu : ByteArray) (w : World) (hT : TrIn w ap np cp ag ng cg ai ni hs gs idx) (hcb : ∀ h ∈ hs, h.s0.a = none → h.s0.c = 0) :
    Calls Try.prog 13 #[.agg #[.slice ap np cp, .slice ag ng cg, .slice ai ni ci], .string fr, .string tu] w fun e w' => SnRes (trd hs gs idx) fr tu w e w' := by
  have b0 : ∀ o, Below w.heap.size w (w.alloc o) := fun o => (Below.refl _ _).alloc (Nat.le_refl _) _
  have BW := hide (b0 (.cells #[.slice ap np cp, .slice ag ng cg, .slice ai ni ci] 32))
  have T := hide (hT.below (unhide BW))
  have BT := hide (show ∀ u, Below (w.alloc (.cells #[.slice ap np cp, .slice ag ng cg, .slice ai ni ci] 32)).heap.size (w.alloc (.cells #[.slice ap np cp, .slice ag ng cg, .slice ai ni ci] 32)) u → Below w.heap.size w u from fun u hu => (unhide BW).trans (hu.mono (unhide BW).size))
  have t0 : (w.alloc (.cells #[.slice ap np cp, .slice ag ng cg, .slice ai ni ci] 32)).cell? ⟨w.heap.size, 0, none⟩ = some (.slice ap np cp) := by simp
  have t1 : (w.alloc (.cells #[.slice ap np cp, .slice ag ng cg, .slice ai ni ci] 32)).cell? ⟨w.heap.size, 1, none⟩ = some (.slice ag ng cg) := by simp
  have t2 : (w.alloc (.cells #[.slice ap np cp, .slice ag ng cg, .slice ai ni ci] 32)).cell? ⟨w.heap.size, 2, none⟩ = some (.slice ai ni ci) := by simp
  have LIT := hide (show ∀ (u : World) (hu : Below w.heap.size w u) (g : Nat) (_ : g = u.heap.size) (cd : Int), scanC (trd hs gs idx) fr tu = cd → scanE (trd hs gs idx) fr tu = [] → SnRes (trd hs gs idx) fr tu w (.returned (.tuple #[.slice (some ⟨g, 0, none⟩) 0 0, .int .i64 cd])) (u.alloc (.cells #[] 79)) from fun u hu g hg cd h1 h2 => by
    subst hg
    exact ⟨_, _, _, by rw [h1], by rw [h2]; exact gd_base (nil_lit (w := u) 79 2) hu.size, hu.alloc hu.size _⟩)
  have CB := hide hcb
  clear hT BW hcb
  by_cases hk : 65536 < fr.size
  · have E := hide (show scanC (trd hs gs idx) fr tu = 2 ∧ scanE (trd hs gs idx) fr tu = [] by unfold scanC scanE; rw [if_pos (.inl hk), if_pos (.inl hk)]; exact ⟨rfl, rfl⟩)
    have b1 := b0 (.cells #[.slice ap np cp, .slice ag ng cg, .slice ai ni ci] 32)
    go_enter Try.func13, Try.ntmps13
    go_wp2_with fail
    go_ret2
    exact unhide LIT _ b1 _ (by simp) _ (unhide E).1 (unhide E).2
  by_cases hk2 : 65536 < tu.size
  · have E := hide (show scanC (trd hs gs idx) fr tu = 2 ∧ scanE (trd hs gs idx) fr tu = [] by unfold scanC scanE; rw [if_pos (.inr hk2), if_pos (.inr hk2)]; exact ⟨rfl, rfl⟩)
    have b1 := b0 (.cells #[.slice ap np cp, .slice ag ng cg, .slice ai ni ci] 32)
    go_enter Try.func13, Try.ntmps13
    go_wp2_with fail
    go_ret2
    exact unhide LIT _ b1 _ (by simp) _ (unhide E).1 (unhide E).2
  have NK := hide (show ¬ (65536 < fr.size ∨ 65536 < tu.size) from fun h => h.elim hk hk2)
  go_enter Try.func13, Try.ntmps13
  go_wp2_with fail
  have zW : w.heap.size ≤ (w.alloc (.cells #[.slice ap np cp, .slice ag ng cg, .slice ai ni ci] 32)).heap.size := (b0 _).size
  generalize w.alloc (.cells #[.slice ap np cp, .slice ag ng cg, .slice ai ni ci] 32) = W at *
  have HO := hide (specTreeOK_any ap np cp ag ng cg ai ni ci hs gs idx W (unhide T) (unhide CB))
  cases hok : okT (trd hs gs idx) with
  | false =>
    have E := hide (show scanC (trd hs gs idx) fr tu = 1 ∧ scanE (trd hs gs idx) fr tu = [] by unfold scanC scanE; rw [if_neg (unhide NK), if_neg (unhide NK), hok]; exact ⟨rfl, rfl⟩)
    rw [hok] at HO
    refine (unhide HO).mono ?_
    rintro e w2 ⟨rfl, hb⟩
    have b2 := unhide BT _ hb
    go_wp2_with fail
    go_ret2
    exact unhide LIT _ b2 _ rfl _ (unhide E).1 (unhide E).2
  | true =>
    have E := hide (show scanC (trd hs gs idx) fr tu = 0 ∧ scanE (trd hs gs idx) fr tu = (treeE (trd hs gs idx).here).filter (fun e => inK fr tu e.k) by unfold scanC scanE; rw [if_neg (unhide NK), if_neg (unhide NK), hok]; exact ⟨rfl, rfl⟩)
    rw [hok] at HO
    have FEW := hide (okT_few hok (unhide T).pgs)
    have G := hide (show GoodT (trd hs gs idx).here idx from good_of hok)
    refine (unhide HO).mono ?_
    rintro e w2 ⟨rfl, hb⟩
    have s0 := (hb.cell (p := ⟨w.heap.size, 0, none⟩) (cell_lt t0)).trans t0
    have s1 := (hb.cell (p := ⟨w.heap.size, 1, none⟩) (cell_lt t1)).trans t1
    have s2 := (hb.cell (p := ⟨w.heap.size, 2, none⟩) (cell_lt t2)).trans t2
    go_wp2_with fail
    refine (l05Entries_any ap np cp ag ng cg ai ni ci hs gs idx w2 ((unhide T).below hb) (unhide G) (unhide FEW) (unhide CB)).mono ?_
    rintro e w3 ⟨a3, n3, c3, rfl, ho3, hb3, hl3⟩
    have hn3 : n3 ≤ 1000 := by
      have := (erow_of_owns ho3).1
      omega
    have HR := hide (l05Range_any a3 n3 c3 (treeE (trd hs gs idx).here) fr tu w3 (erow_of_owns ho3) hn3)
    have bB := hide (hb.trans (hb3.mono hb.size))
    have zz := hide (show w.heap.size ≤ w3.heap.size from Nat.le_trans zW (Nat.le_trans hb.size hb3.size))
    clear s0 s1 s2 ho3 hb3 hl3 HO hb
    go_wp2_with fail
    refine (unhide HR).mono ?_
    rintro e w4 ⟨a4, n4, c4, rfl, ho4, hb4⟩
    have RES := hide (show SnRes (trd hs gs idx) fr tu w (.returned (.tuple #[.slice a4 n4 c4, .int .i64 0])) w4 from ⟨_, _, _, by rw [(unhide E).1], by rw [(unhide E).2]; exact gd_base ho4 (unhide zz), unhide BT _ ((unhide bB).trans (hb4.mono (unhide bB).size))⟩)
    clear ho4 hb4
    go_wp2_with fail
    go_ret2
    exact unhide RES
set_option maxRecDepth 100000 in
set_option maxHeartbeats 4000000 in
theorem implTreeScan_any (ap : Option Addr) (np cp : Nat) (ag : Option Addr) (ng cg : Nat) (ai : Option Addr) (ni ci : Nat) (hs : List PpH) (gs : List Bool) (idx : List RefD) (fr tu : ByteArray) (w : World) (hT : TrIn w ap np cp ag ng cg ai ni hs gs idx) (hci : ai = none → ci = 0) :
    Calls Try.prog 14 #[.agg #[.slice ap np cp, .slice ag ng cg, .slice ai ni ci], .string fr, .string tu] w fun e w' => SnRes (trd hs gs idx) fr tu w e w' := by
  have b0 : ∀ o, Below w.heap.size w (w.alloc o) := fun o => (Below.refl _ _).alloc (Nat.le_refl _) _
  have BW := hide (b0 (.cells #[.slice ap np cp, .slice ag ng cg, .slice ai ni ci] 32))
  have T := hide (hT.below (unhide BW))
  have BT := hide (show ∀ u, Below (w.alloc (.cells #[.slice ap np cp, .slice ag ng cg, .slice ai ni ci] 32)).heap.size (w.alloc (.cells #[.slice ap np cp, .slice ag ng cg, .slice ai ni ci] 32)) u → Below w.heap.size w u from fun u hu => (unhide BW).trans (hu.mono (unhide BW).size))
  have NIL := hide (show ∀ (u : World) (hu : Below w.heap.size w u) (cd : Int), scanC (trd hs gs idx) fr tu = cd → scanE (trd hs gs idx) fr tu = [] → SnRes (trd hs gs idx) fr tu w (.returned (.tuple #[.slice none 0 0, .int .i64 cd])) u from fun u hu cd h1 h2 => ⟨_, _, _, by rw [h1], by rw [h2]; exact World.ownsRow_nil _ _ _ _, hu⟩)
  clear hT BW
  by_cases hk : 65536 < fr.size
  · have E := hide (show scanC (trd hs gs idx) fr tu = 2 ∧ scanE (trd hs gs idx) fr tu = [] by unfold scanC scanE; rw [if_pos (.inl hk), if_pos (.inl hk)]; exact ⟨rfl, rfl⟩)
    go_enter Try.func14, Try.ntmps14
    go_wp2_with fail
    go_ret2
    exact unhide NIL _ (b0 _) _ (unhide E).1 (unhide E).2
  by_cases hk2 : 65536 < tu.size
  · have E := hide (show scanC (trd hs gs idx) fr tu = 2 ∧ scanE (trd hs gs idx) fr tu = [] by unfold scanC scanE; rw [if_pos (.inr hk2), if_pos (.inr hk2)]; exact ⟨rfl, rfl⟩)
    go_enter Try.func14, Try.ntmps14
    go_wp2_with fail
    go_ret2
    exact unhide NIL _ (b0 _) _ (unhide E).1 (unhide E).2
  have NK := hide (show ¬ (65536 < fr.size ∨ 65536 < tu.size) from fun h => h.elim hk hk2)
  go_enter Try.func14, Try.ntmps14
  go_wp2_with fail
  have zW : w.heap.size ≤ (w.alloc (.cells #[.slice ap np cp, .slice ag ng cg, .slice ai ni ci] 32)).heap.size := (b0 _).size
  generalize w.alloc (.cells #[.slice ap np cp, .slice ag ng cg, .slice ai ni ci] 32) = W at *
  refine (tableOf_any ap np cp ag ng cg ai ni ci hs gs idx W (unhide T) hci).mono ?_
  rintro e w2 ⟨v, rfl, hb, htab⟩
  cases hok : okT (trd hs gs idx) with
  | false =>
    have E := hide (show scanC (trd hs gs idx) fr tu = 1 ∧ scanE (trd hs gs idx) fr tu = [] by unfold scanC scanE; rw [if_neg (unhide NK), if_neg (unhide NK), hok]; exact ⟨rfl, rfl⟩)
    clear htab
    go_wp2_with fail
    go_ret2
    exact unhide NIL _ (unhide BT _ hb) _ (unhide E).1 (unhide E).2
  | true =>
    obtain ⟨mb, qs, vp, vi, rfl, hown, hqs, hmem⟩ := htab hok
    have E := hide (show scanC (trd hs gs idx) fr tu = 0 ∧ scanE (trd hs gs idx) fr tu = rangeE (qsP qs) fr tu by unfold scanC scanE; rw [if_neg (unhide NK), if_neg (unhide NK), hok, hqs]; exact ⟨rfl, rfl⟩)
    have hG : GoodT (trd hs gs idx).here idx := good_of hok
    have hrow : ∀ b x, some (b, x) ∈ qs → ERow w2 x.s0.a x.s0.n x.X.es ∧ DRow w2 x.s1.a x.s1.n x.X.ds := fun b x hx => by
      obtain ⟨j, hj, e⟩ := List.getElem_of_mem (hmem b x hx).1
      have h := PpIn.sub ((unhide T).below hb).pgs hj
      rw [e] at h
      exact ⟨erow_C h.1, drow_C h.2⟩
    obtain ⟨ap2, cp2, ai2, ci2, M⟩ := hown.table hrow
    have HB := hide (between_any mb qs idx ap2 cp2 ai2 ci2 fr tu w2 M (by rw [hqs]; exact hG))
    have zz := hide (show w.heap.size ≤ w2.heap.size from Nat.le_trans zW hb.size)
    clear hown hqs htab M hrow hok hG hmem
    go_wp2_with fail
    refine (unhide HB).mono ?_
    rintro e w4 ⟨v4, rfl, ho4, hb4⟩
    obtain ⟨a4, c4, hv4, _⟩ := eowns_slice ho4
    have RES := hide (show SnRes (trd hs gs idx) fr tu w (.returned (.tuple #[v4, .int .i64 0])) w4 by
      rw [hv4] at ho4 ⊢
      exact ⟨_, _, _, by rw [(unhide E).1], by rw [(unhide E).2]; exact gd_base ho4 (unhide zz), unhide BT _ (hb.trans (hb4.mono hb.size))⟩)
    clear ho4 hb4 hv4
    go_wp2_with fail
    go_ret2
    exact unhide RES
end Go.Proofs.Ytdajoapbdeplhaa

namespace Go.Proofs.Ytdajoapbdeplhaa
open Go.RowKit

abbrev entMk (k n : Nat) : List EntD := markEs k n
abbrev delMk (k n : Nat) : List DelD := markDls k n
theorem entMk_len (k n : Nat) : (entMk k n).length = n := markEs_len k n
theorem delMk_len (k n : Nat) : (delMk k n).length = n := markDls_len k n
theorem markEntryS_own (B : Nat) (a : Option Addr) (n c k0 : Nat) (d : List EntD) (w : World) (hn : 0 < k0 ∧ 2 * n + k0 ≤ 9999990) (hd : d.length = n) (h1 : w.ownsRow B 79 2 (.slice a n c) n (ecs d)) :
    Calls Try.prog 17 #[.slice a n c, .int .i64 (k0 : Int)] w fun e w' => e = .returned (.int .i64 ((k0 + 2 * n : Nat) : Int)) ∧ w'.ownsRow B 79 2 (.slice a n c) n (ecs (entMk k0 n)) ∧ WrB (fun i => (Value.slice a n c).ownBlock = some i) w w' := by
  subst hd
  refine (markEntryS_any B a _ c k0 d w hn.1 hn.2 h1).mono ?_
  rintro e w' ⟨rfl, h2, h3⟩
  refine ⟨rfl, ?_, WrB.of_grown h3⟩
  have h := h2
  unfold EOwns at h
  rwa [markEs_len] at h
theorem markDeltaS_own (B : Nat) (a : Option Addr) (n c k0 : Nat) (d : List DelD) (w : World) (hn : 0 < k0 ∧ 4 * n + k0 ≤ 9999990) (hd : d.length = n) (h1 : w.ownsRow B 93 4 (.slice a n c) n (dcs d)) :
    Calls Try.prog 70 #[.slice a n c, .int .i64 (k0 : Int)] w fun e w' => e = .returned (.int .i64 ((k0 + 4 * n : Nat) : Int)) ∧ w'.ownsRow B 93 4 (.slice a n c) n (dcs (delMk k0 n)) ∧ WrB (fun i => (Value.slice a n c).ownBlock = some i) w w' := by
  subst hd
  refine (markDeltaS_any B a _ c k0 d w hn.1 hn.2 h1).mono ?_
  rintro e w' ⟨rfl, h2, h3⟩
  refine ⟨rfl, ?_, WrB.of_grown h3⟩
  have h := h2
  unfold DOwns at h
  rwa [markDls_len] at h
end Go.Proofs.Ytdajoapbdeplhaa

namespace Go.Proofs.Ytdajoapbdeplhaa
open Go.RowKit

def ppMkX (k : Nat) (X : PageD) : PageD := ⟨mt (k) ByteArray.empty, mt (k + 1) ByteArray.empty, (k : Int) + 1 + 1, entMk (k + 3) (X.es.length), delMk (k + 3 + 2 * X.es.length) (X.ds.length)⟩
def ppMk (k : Nat) (h : PpH) : PpH := ⟨ppMkX k h.X, h.s0, h.s1⟩
def ppCnt (h : PpH) : Nat := 3 + 2 * h.X.es.length + 4 * h.X.ds.length
theorem ppown_n {w : World} {B t s n m : Nat} {a : Option Addr} {c : Nat} {cs : List Value} (h : w.ownsRow B t s (.slice a n c) m cs) : n = m := by
  rcases h.2 with ⟨e, rfl⟩ | ⟨g, cap, cur, e, _⟩
  · injection e
  · injection e
set_option maxRecDepth 100000 in
set_option maxHeartbeats 4000000 in
theorem markPageS_some (B g n c k0 : Nat) (hs : List PpH) (w : World) (hp : 0 < k0) (hk0 : kG ppCnt k0 hs ≤ 9999990) (h1 : NOwn w B 53 5 (.slice (some ⟨g, 0, none⟩) n c) n (hs.map ppEl)) :
    Calls Try.prog 43 #[.slice (some ⟨g, 0, none⟩) n c, .int .i64 (k0 : Int)] w fun e w' => e = .returned (.int .i64 ((kG ppCnt k0 hs : Nat) : Int)) ∧ NOwn w' B 53 5 (.slice (some ⟨g, 0, none⟩) n c) n ((mkG ppCnt ppMk k0 hs).map ppEl) ∧ WrB (NBl (.slice (some ⟨g, 0, none⟩) n c) (hs.map ppEl)) w w' := by
  have L := hide (show hs.length = n by have := h1.len; simpa using this)
  have H := hide h1
  have KT := hide (fun j => Nat.le_trans (kG_take ppCnt k0 hs j) hk0)
  have KM := hide (fun j => kG_mono ppCnt k0 (hs.take j))
  have hnb : n ≤ maxLen := by
    rcases h1.row.2 with ⟨e, _⟩ | ⟨_, cap, _, e, _, _, h1, h2, _⟩
    · cases e
    · omega
  unfold maxLen at hnb
  clear h1
  go_enter Try.func43, Try.ntmps43
  go_wp2_with fail
  go_loopw [1, 5] (fun q i wr => ∃ j : Nat, j ≤ n ∧ i = .int .i64 j ∧ q = .int .i64 ((kG ppCnt k0 (hs.take j) : Nat) : Int) ∧ Hid (NOwn wr B 53 5 (.slice (some ⟨g, 0, none⟩) n c) n ((haG ppCnt ppMk k0 hs j).map ppEl)) ∧ Hid (WrB (NBl (.slice (some ⟨g, 0, none⟩) n c) (hs.map ppEl)) w wr)) (fun _ i _ => n - (intOf i).toNat)
  case atStart => exact ⟨0, Nat.zero_le _, rfl, by simp [kG], unhide H, WrB.same _ _⟩
  case round =>
    clear H
    obtain ⟨j, hj, rfl, rfl, hI, hw⟩ := hrel
    by_cases hlt : j < n
    · have hjl : j < hs.length := by rw [unhide L]; exact hlt
      have hkb := unhide KT (j + 1)
      rw [rb_take_snoc hs j hjl, kG_snoc] at hkb
      have hkm := unhide KM j
      have HKK := hide (show kG ppCnt k0 (hs.take (j + 1)) = kG ppCnt k0 (hs.take j) + ppCnt hs[j] by rw [rb_take_snoc hs j hjl, kG_snoc])
      have hjh : j < ((haG ppCnt ppMk k0 hs j).map ppEl).length := by rw [List.length_map, haG_len _ _ _ _ _ (by omega)]; exact hjl
      have EJ := hide (show ((haG ppCnt ppMk k0 hs j).map ppEl)[j]? = some (ppEl hs[j]) by rw [List.getElem?_map, haG_at ppCnt ppMk hjl]; rfl)
      have FIN := hide (show (haG ppCnt ppMk k0 hs (j + 1)).map ppEl = ((haG ppCnt ppMk k0 hs j).map ppEl).set j (ppEl (ppMk (kG ppCnt k0 (hs.take j)) hs[j])) by rw [haG_step ppCnt ppMk hjl, List.map_set])
      have BL := hide (show ∀ i a y, (ppEl hs[j]).sb[a]? = some y → y.v.ownBlock = some i → NBl (.slice (some ⟨g, 0, none⟩) n c) (hs.map ppEl) i from fun i a y hy hi => .inr ⟨j, a, y, by unfold sbAt; rw [ppEl_at hjl]; exact hy, hi⟩)
      obtain ⟨EE, hEE⟩ : ∃ E, E = ppEl (ppMk (kG ppCnt k0 (hs.take j)) hs[j]) := ⟨_, rfl⟩
      obtain ⟨CC, hCC⟩ : ∃ C, C = ppCnt hs[j] := ⟨_, rfl⟩
      rw [← hEE] at FIN
      rw [← hCC] at hkb HKK
      generalize hES : (haG ppCnt ppMk k0 hs j).map ppEl = es at *
      clear hES
      generalize kG ppCnt k0 (hs.take j) = K at *
      generalize hs[j] = pd at *
      obtain ⟨X, ⟨a0, n0, c0⟩, ⟨a1, n1, c1⟩⟩ := pd
      unfold ppEl ppMk ppMkX at hEE
      unfold ppCnt at hCC
      have EJ' := hide (show es[j]? = some ⟨[.string X.lo, .string X.hi, .int .i64 X.r, .slice a0 n0 c0, .slice a1 n1 c1], [⟨79, 2, X.es.length, .slice a0 n0 c0, ecs X.es⟩, ⟨93, 4, X.ds.length, .slice a1 n1 c1, dcs X.ds⟩]⟩ from unhide EJ)
      have BL' := hide (show ∀ (i a : Nat) (y : Sb), ([⟨79, 2, X.es.length, .slice a0 n0 c0, ecs X.es⟩, ⟨93, 4, X.ds.length, .slice a1 n1 c1, dcs X.ds⟩] : List Sb)[a]? = some y → y.v.ownBlock = some i → NBl (.slice (some ⟨g, 0, none⟩) n c) (hs.map ppEl) i from unhide BL)
      clear EJ BL
      have EJ := EJ'
      have BL := BL'
      clear EJ' BL'
      simp only at hEE hCC
      obtain rfl : n0 = X.es.length := ppown_n ((unhide hI).dat j 0 _ (by unfold sbAt; rw [unhide EJ]; rfl))
      obtain rfl : n1 = X.ds.length := ppown_n ((unhide hI).dat j 1 _ (by unfold sbAt; rw [unhide EJ]; rfl))
      have O0 := hide (show NOwn wr B 53 5 (.slice (some ⟨g, 0, none⟩) n c) n (es.set j ⟨[.string X.lo, .string X.hi, .int .i64 X.r, .slice a0 (X.es.length) c0, .slice a1 (X.ds.length) c1], [⟨79, 2, X.es.length, .slice a0 (X.es.length) c0, ecs X.es⟩, ⟨93, 4, X.ds.length, .slice a1 (X.ds.length) c1, dcs X.ds⟩]⟩) from by
        obtain ⟨hl, he⟩ := List.getElem?_eq_some_iff.1 (unhide EJ)
        rw [← he, List.set_getElem_self]
        exact unhide hI)
      generalize hn0 : X.es.length = n0 at *
      generalize hn1 : X.ds.length = n1 at *
      have HN0 := hide hn0
      clear hn0
      generalize X.es = D0 at *
      have HN1 := hide hn1
      clear hn1
      generalize X.ds = D1 at *
      generalize X.lo = x0 at *
      generalize X.hi = x1 at *
      generalize X.r = x2 at *
      have HEE := hide hEE
      have HCC := hide hCC
      rw [hCC] at hkb
      clear hEE hCC
      have G0 := hw
      clear hI hw EJ
      go_wp2_with fail
      refine (markText_at (K) _ wr (by omega) (by omega) (by omega)).mono ?_
      rintro e w10 ⟨rfl, hb⟩
      replace O0 := hide ((unhide O0).below hb)
      replace G0 := hide ((unhide G0).seq (WrB.of_below hb))
      clear hb
      generalize hm0 : mt (K) ByteArray.empty = t0 at *
      have e0 : w10.cell? ⟨g, j * 5, none⟩ = some (.string x0) := (unhide O0).cell (i := j) (j := 0) (List.getElem?_set_self hjh) rfl
      have f0 := (unhide O0).free (j * 5)
      have P0 := (unhide O0).setHd (i := j) (j := 0) (List.getElem?_set_self hjh) (by decide) (.string t0)
      rw [List.set_set] at P0
      have O1 := hide (show NOwn (w10.setCell ⟨g, j * 5, none⟩ (.string t0)) B 53 5 (.slice (some ⟨g, 0, none⟩) n c) n (es.set j ⟨[.string t0, .string x1, .int .i64 x2, .slice a0 n0 c0, .slice a1 n1 c1], [⟨79, 2, n0, .slice a0 n0 c0, ecs D0⟩, ⟨93, 4, n1, .slice a1 n1 c1, dcs D1⟩]⟩) from P0.1)
      replace G0 := hide ((unhide G0).seq (show WrB _ w10 (w10.setCell ⟨g, j * 5, none⟩ (.string t0)) from P0.2.weak (fun i hi => .inl (by rw [hi]; rfl))))
      clear P0 O0
      go_wp2_with fail
      generalize (w10.setCell ⟨g, j * 5, none⟩ (.string t0)) = u1 at *
      clear e0 f0
      refine (markText_at (K + 1) _ u1 (by omega) (by omega) (by omega)).mono ?_
      rintro e w11 ⟨rfl, hb⟩
      replace O1 := hide ((unhide O1).below hb)
      replace G0 := hide ((unhide G0).seq (WrB.of_below hb))
      clear hb
      generalize hm1 : mt (K + 1) ByteArray.empty = t1 at *
      have e1 : w11.cell? ⟨g, j * 5 + 1, none⟩ = some (.string x1) := (unhide O1).cell (i := j) (j := 1) (List.getElem?_set_self hjh) rfl
      have f1 := (unhide O1).free (j * 5 + 1)
      have P1 := (unhide O1).setHd (i := j) (j := 1) (List.getElem?_set_self hjh) (by decide) (.string t1)
      rw [List.set_set] at P1
      have O2 := hide (show NOwn (w11.setCell ⟨g, j * 5 + 1, none⟩ (.string t1)) B 53 5 (.slice (some ⟨g, 0, none⟩) n c) n (es.set j ⟨[.string t0, .string t1, .int .i64 x2, .slice a0 n0 c0, .slice a1 n1 c1], [⟨79, 2, n0, .slice a0 n0 c0, ecs D0⟩, ⟨93, 4, n1, .slice a1 n1 c1, dcs D1⟩]⟩) from P1.1)
      replace G0 := hide ((unhide G0).seq (show WrB _ w11 (w11.setCell ⟨g, j * 5 + 1, none⟩ (.string t1)) from P1.2.weak (fun i hi => .inl (by rw [hi]; rfl))))
      clear P1 O1
      have e2 : (w11.setCell ⟨g, j * 5 + 1, none⟩ (.string t1)).cell? ⟨g, j * 5 + 2, none⟩ = some (.int .i64 x2) := (unhide O2).cell (i := j) (j := 2) (List.getElem?_set_self hjh) rfl
      have f2 := (unhide O2).free (j * 5 + 2)
      have P2 := (unhide O2).setHd (i := j) (j := 2) (List.getElem?_set_self hjh) (by decide) (.int .i64 ((K : Int) + 1 + 1))
      rw [List.set_set] at P2
      have O3 := hide (show NOwn ((w11.setCell ⟨g, j * 5 + 1, none⟩ (.string t1)).setCell ⟨g, j * 5 + 2, none⟩ (.int .i64 ((K : Int) + 1 + 1))) B 53 5 (.slice (some ⟨g, 0, none⟩) n c) n (es.set j ⟨[.string t0, .string t1, .int .i64 ((K : Int) + 1 + 1), .slice a0 n0 c0, .slice a1 n1 c1], [⟨79, 2, n0, .slice a0 n0 c0, ecs D0⟩, ⟨93, 4, n1, .slice a1 n1 c1, dcs D1⟩]⟩) from P2.1)
      replace G0 := hide ((unhide G0).seq (show WrB _ (w11.setCell ⟨g, j * 5 + 1, none⟩ (.string t1)) ((w11.setCell ⟨g, j * 5 + 1, none⟩ (.string t1)).setCell ⟨g, j * 5 + 2, none⟩ (.int .i64 ((K : Int) + 1 + 1))) from P2.2.weak (fun i hi => .inl (by rw [hi]; rfl))))
      clear P2 O2
      have HM := hide (show NOwn ((w11.setCell ⟨g, j * 5 + 1, none⟩ (.string t1)).setCell ⟨g, j * 5 + 2, none⟩ (.int .i64 ((K : Int) + 1 + 1))) B 53 5 (.slice (some ⟨g, 0, none⟩) n c) n (es.set j ⟨[.string t0, .string t1, .int .i64 ((K : Int) + 1 + 1), .slice a0 n0 c0, .slice a1 n1 c1], [⟨79, 2, n0, .slice a0 n0 c0, ecs D0⟩, ⟨93, 4, n1, .slice a1 n1 c1, dcs D1⟩]⟩) from unhide O3)
      clear O3
      have y0 : ((w11.setCell ⟨g, j * 5 + 1, none⟩ (.string t1)).setCell ⟨g, j * 5 + 2, none⟩ (.int .i64 ((K : Int) + 1 + 1))).cell? ⟨g, j * 5 + 3, none⟩ = some (.slice a0 n0 c0) := (unhide HM).cell (i := j) (j := 3) (List.getElem?_set_self hjh) rfl
      have C0 := hide (markEntryS_own B a0 n0 c0 (K + 3) D0 ((w11.setCell ⟨g, j * 5 + 1, none⟩ (.string t1)).setCell ⟨g, j * 5 + 2, none⟩ (.int .i64 ((K : Int) + 1 + 1))) (by omega) (unhide HN0) ((unhide HM).dat j 0 _ (by unfold sbAt; rw [List.getElem?_set_self hjh]; rfl)))
      rw [show ((K + 3 : Nat) : Int) = (K : Int) + 1 + 1 + 1 by omega] at C0
      go_wp2_with fail
      generalize ((w11.setCell ⟨g, j * 5 + 1, none⟩ (.string t1)).setCell ⟨g, j * 5 + 2, none⟩ (.int .i64 ((K : Int) + 1 + 1))) = u2 at *
      clear e1 f1
      clear e2 f2
      clear y0
      refine (unhide C0).mono ?_
      rintro e v0 ⟨rfl, ho, hw2⟩
      have Q := (unhide HM).setSb (i := j) (a := 0) (List.getElem?_set_self hjh) rfl (x' := ⟨79, 2, n0, .slice a0 n0 c0, ecs (entMk (K + 3) n0)⟩) rfl ho hw2
      rw [List.set_set] at Q
      replace HM := hide (show NOwn v0 B 53 5 (.slice (some ⟨g, 0, none⟩) n c) n (es.set j ⟨[.string t0, .string t1, .int .i64 ((K : Int) + 1 + 1), .slice a0 n0 c0, .slice a1 n1 c1], [⟨79, 2, n0, .slice a0 n0 c0, ecs (entMk (K + 3) n0)⟩, ⟨93, 4, n1, .slice a1 n1 c1, dcs D1⟩]⟩) from Q)
      replace G0 := hide ((unhide G0).seq (hw2.weak (fun i hi => unhide BL i 0 _ rfl hi)))
      clear Q ho hw2 C0
      obtain ⟨K1, hK1⟩ : ∃ K1, K1 = K + 3 + 2 * n0 := ⟨_, rfl⟩
      rw [← hK1]
      have HK1 := hide hK1
      have hKb1 : K1 + 4 * n1 ≤ 9999990 := by omega
      have hKq1 : 0 < K1 := by omega
      clear hK1
      have y1 : v0.cell? ⟨g, j * 5 + 4, none⟩ = some (.slice a1 n1 c1) := (unhide HM).cell (i := j) (j := 4) (List.getElem?_set_self hjh) rfl
      have C1 := hide (markDeltaS_own B a1 n1 c1 K1 D1 v0 (by omega) (unhide HN1) ((unhide HM).dat j 1 _ (by unfold sbAt; rw [List.getElem?_set_self hjh]; rfl)))
      go_wp2_with fail
      clear y1
      refine (unhide C1).mono ?_
      rintro e v1 ⟨rfl, ho, hw2⟩
      have Q := (unhide HM).setSb (i := j) (a := 1) (List.getElem?_set_self hjh) rfl (x' := ⟨93, 4, n1, .slice a1 n1 c1, dcs (delMk K1 n1)⟩) rfl ho hw2
      rw [List.set_set] at Q
      replace HM := hide (show NOwn v1 B 53 5 (.slice (some ⟨g, 0, none⟩) n c) n (es.set j ⟨[.string t0, .string t1, .int .i64 ((K : Int) + 1 + 1), .slice a0 n0 c0, .slice a1 n1 c1], [⟨79, 2, n0, .slice a0 n0 c0, ecs (entMk (K + 3) n0)⟩, ⟨93, 4, n1, .slice a1 n1 c1, dcs (delMk K1 n1)⟩]⟩) from Q)
      replace G0 := hide ((unhide G0).seq (hw2.weak (fun i hi => unhide BL i 1 _ rfl hi)))
      clear Q ho hw2 C1
      have R := hide (show NOwn v1 B 53 5 (.slice (some ⟨g, 0, none⟩) n c) n ((haG ppCnt ppMk k0 hs (j + 1)).map ppEl) from by
        rw [unhide FIN, unhide HEE]
        have h := unhide HM
        rw [unhide HK1] at h
        simp only [delMk_len, entMk_len]
        exact h)
      have KE := hide (show ((K1 + 4 * n1 : Nat) : Int) = ((kG ppCnt k0 (hs.take (j + 1)) : Nat) : Int) by rw [unhide HKK, unhide HCC]; have := unhide HK1; omega)
      clear HM FIN BL HKK HEE HCC
      go_wp2_with fail
      go_roundw
      case rel => exact ⟨j + 1, by omega, by go_num, by rw [← unhide KE]; go_num, unhide R, unhide G0⟩
      case measure => simp [intOf]; omega
    · obtain rfl : j = n := by omega
      have Z := hide (show NOwn wr B 53 5 (.slice (some ⟨g, 0, none⟩) j c) j ((mkG ppCnt ppMk k0 hs).map ppEl) by
        have h := unhide hI
        rwa [← unhide L, haG_all, unhide L] at h)
      have ZK := hide (show kG ppCnt k0 (hs.take j) = kG ppCnt k0 hs by rw [List.take_of_length_le (by rw [unhide L]; exact Nat.le_refl _)])
      go_wp2_with fail
      go_ret
      exact ⟨ret_int (by rw [unhide ZK]), unhide Z, unhide hw⟩
theorem markPageS_nil (k0 : Int) (w : World) : Calls Try.prog 43 #[.slice none 0 0, .int .i64 k0] w fun e w' => e = .returned (.int .i64 k0) ∧ w' = w := by
  go_enter Try.func43, Try.ntmps43
  go_wp2_with fail
  refine wp_loop_rounds 1 ?_
  rw [rounds_succ]
  go_wp2_with fail
  go_ret
  exact ⟨rfl, rfl⟩
theorem markPageS_any (B : Nat) (a : Option Addr) (n c k0 : Nat) (hs : List PpH) (w : World) (hp : 0 < k0) (hk0 : kG ppCnt k0 hs ≤ 9999990) (h1 : NOwn w B 53 5 (.slice a n c) n (hs.map ppEl)) :
    Calls Try.prog 43 #[.slice a n c, .int .i64 (k0 : Int)] w fun e w' => e = .returned (.int .i64 ((kG ppCnt k0 hs : Nat) : Int)) ∧ NOwn w' B 53 5 (.slice a n c) n ((mkG ppCnt ppMk k0 hs).map ppEl) ∧ WrB (NBl (.slice a n c) (hs.map ppEl)) w w' := by
  rcases h1.row.2 with ⟨e, hl⟩ | ⟨g, cap, cur, e, _⟩
  · injection e with e1 e2 e3
    subst e1 e2 e3
    obtain rfl : hs = [] := by have := h1.len; simpa using this
    refine (markPageS_nil k0 w).mono ?_
    rintro e w' ⟨rfl, rfl⟩
    exact ⟨rfl, h1, WrB.same _ _⟩
  · injection e with e1 e2 e3
    subst e1
    exact markPageS_some B g n c k0 hs w hp hk0 h1
end Go.Proofs.Ytdajoapbdeplhaa

namespace Go.Proofs.Ytdajoapbdeplhaa
open Go.RowKit

def markJ (k0 i : Nat) : RefD := ⟨mt (k0 + 2 * i) ByteArray.empty, ((k0 + 2 * i + 1 : Nat) : Int)⟩
def markJs (k0 n : Nat) : List RefD := (List.range n).map (markJ k0)
theorem markJs_len (k0 n : Nat) : (markJs k0 n).length = n := by simp [markJs]
theorem jowns_set1 {w : World} {B g n c : Nat} {ds : List RefD} (h : JOwns w B (.slice (some ⟨g, 0, none⟩) n c) ds) (j : Nat) (v : Value) : (w.setCell ⟨g, j, none⟩ v).ownsRow B 55 2 (.slice (some ⟨g, 0, none⟩) n c) n ((jcs ds).set j v) ∧ w.grownBy (w.setCell ⟨g, j, none⟩ v) (some g) := by
  obtain rfl := (jrow_of_owns h).1
  exact World.ownsRow.stored h j v
set_option maxRecDepth 100000 in
set_option maxHeartbeats 4000000 in
theorem markRefS_some (B g n c k0 : Nat) (ds : List RefD) (w : World) (hp : 0 < k0) (hn : 2 * n + k0 ≤ 9999990) (h1 : JOwns w B (.slice (some ⟨g, 0, none⟩) n c) ds) :
    Calls Try.prog 45 #[.slice (some ⟨g, 0, none⟩) n c, .int .i64 k0] w fun e w' => e = .returned (.int .i64 (k0 + 2 * n)) ∧ JOwns w' B (.slice (some ⟨g, 0, none⟩) n c) (markJs k0 n) ∧ w.grownBy w' (some g) := by
  have L := hide (jrow_of_owns h1).1
  have H := hide h1
  clear h1
  go_enter Try.func45, Try.ntmps45
  go_wp2_with fail
  go_loopw [1, 5] (fun q i wr => ∃ k : Nat, k ≤ n ∧ i = .int .i64 k ∧ q = .int .i64 (k0 + 2 * k) ∧ Hid (JOwns wr B (.slice (some ⟨g, 0, none⟩) n c) (markJs k0 k ++ ds.drop k)) ∧ Hid (w.grownBy wr (some g))) (fun _ i _ => n - (intOf i).toNat)
  case atStart => exact ⟨0, Nat.zero_le _, rfl, by simp, unhide H, rb_grownBy_below (Below.refl _ _)⟩
  case round =>
    clear H
    obtain ⟨k, hk, rfl, rfl, hB, hw⟩ := hrel
    by_cases hlt : k < n
    · have hke : k < ds.length := by have := unhide L; omega
      have hlx : k < (markJs k0 k ++ ds.drop k).length := by rw [List.length_append, markJs_len, List.length_drop]; omega
      have SM := hide (show (markJs k0 k ++ ds.drop k).set k (markJ k0 k) = markJs k0 (k + 1) ++ ds.drop (k + 1) from rb_set_mark (markJ k0) ds k hke)
      have HXN := hide (jrow_of_owns (unhide hB)).1
      have O0 := hide (show wr.ownsRow B 55 2 (.slice (some ⟨g, 0, none⟩) n c) n (jcs (markJs k0 k ++ ds.drop k)) by have := unhide hB; unfold JOwns at this; rwa [unhide HXN] at this)
      generalize markJs k0 k ++ ds.drop k = xs at *
      have G0 := hw
      clear hB hw
      go_wp2_with fail
      refine (markText_at (k0 + 2 * k) _ wr (by omega) (by omega) (by omega)).mono ?_
      rintro e w10 ⟨rfl, hb0⟩
      replace O0 := hide (rb_ownsRow_below (unhide O0) hb0)
      replace G0 := hide (rb_grown_trans (unhide G0) (rb_grownBy_below hb0))
      clear hb0
      generalize hm0 : mt (k0 + 2 * k) ByteArray.empty = t0 at *
      obtain ⟨u0, e0⟩ := rb_ownsRow_some (unhide O0) (j := k * 2) (by omega)
      have f0 := (unhide O0).frozenAt (k * 2)
      obtain ⟨o0, g0⟩ := World.ownsRow.stored (unhide O0) (k * 2) (.string t0)
      have O1 := hide o0
      have G1 := hide (rb_grown_trans (unhide G0) g0)
      clear o0 g0 O0 G0
      obtain ⟨u1, e1⟩ := rb_ownsRow_some (unhide O1) (j := k * 2 + 1) (by omega)
      have f1 := (unhide O1).frozenAt (k * 2 + 1)
      obtain ⟨o1, g1⟩ := World.ownsRow.stored (unhide O1) (k * 2 + 1) (.int .i64 (k0 + 2 * k + 1))
      have O2 := hide o1
      have G2 := hide (rb_grown_trans (unhide G1) g1)
      clear o1 g1 O1 G1
      have O9 := hide (show JOwns ((w10.setCell ⟨g, k * 2, none⟩ (.string t0)).setCell ⟨g, k * 2 + 1, none⟩ (.int .i64 (k0 + 2 * k + 1))) B (.slice (some ⟨g, 0, none⟩) n c) (markJs k0 (k + 1) ++ ds.drop (k + 1)) by
        rw [← unhide SM]
        unfold JOwns
        rw [jcs_set, List.length_set, unhide HXN]
        have := unhide O2
        have he1 : ((k0 + 2 * k + 1 : Nat) : Int) = (k0 : Int) + 2 * k + 1 := by omega
        unfold markJ
        simp only [hm0, he1]
        exact this)
      clear O2
      go_wp2_with fail
      all_goals
        go_roundw
        case rel => exact ⟨k + 1, by omega, by go_num, by go_num, unhide O9, unhide G2⟩
        case measure => simp [intOf]; omega
    · obtain rfl : k = n := by omega
      have P := hide (show JOwns wr B (.slice (some ⟨g, 0, none⟩) k c) (markJs k0 k) by
        have := unhide hB
        rw [List.drop_of_length_le (by rw [unhide L]; exact Nat.le_refl _), List.append_nil] at this
        exact this)
      go_wp2_with fail
      go_ret
      exact ⟨rfl, unhide P, unhide hw⟩
theorem markRefS_none (a : Option Addr) (c : Nat) (k0 : Int) (w : World) :
    Calls Try.prog 45 #[.slice a 0 c, .int .i64 k0] w fun e w' => e = .returned (.int .i64 k0) ∧ w' = w := by
  go_enter Try.func45, Try.ntmps45
  go_wp2_with fail
  refine wp_loop_rounds 1 ?_
  rw [rounds_succ]
  go_wp2_with fail
  go_ret
  exact ⟨rfl, rfl⟩
theorem markRefS_any (B : Nat) (a : Option Addr) (n c k0 : Nat) (ds : List RefD) (w : World) (hp : 0 < k0) (hn : 2 * n + k0 ≤ 9999990) (h1 : JOwns w B (.slice a n c) ds) :
    Calls Try.prog 45 #[.slice a n c, .int .i64 k0] w fun e w' => e = .returned (.int .i64 ((k0 + 2 * n : Nat) : Int)) ∧ JOwns w' B (.slice a n c) (markJs k0 n) ∧ w.grownBy w' (Value.slice a n c).ownBlock := by
  rcases h1.2 with ⟨e, hl⟩ | ⟨g, cap, cur, e, _⟩
  · injection e with e1 e2 e3
    subst e1 e2 e3
    refine (markRefS_none none 0 k0 w).mono ?_
    rintro e w' ⟨rfl, rfl⟩
    exact ⟨by simp, World.ownsRow_nil _ _ _ _, rb_grownBy_below (Below.refl _ _)⟩
  · injection e with e1 e2 e3
    subst e1 e2 e3
    refine (markRefS_some B g _ _ k0 ds w hp hn h1).mono ?_
    rintro e w' ⟨rfl, h2, h3⟩
    exact ⟨by simp, h2, h3⟩
end Go.Proofs.Ytdajoapbdeplhaa

namespace Go.Proofs.Ytdajoapbdeplhaa
open Go.RowKit

/-- The blocks of a tree. -/
def TrBl (vp vg vi : Value) (hs : List PpH) (i : Nat) : Prop := NBl vp (hs.map ppEl) i ∨ vg.ownBlock = some i ∨ vi.ownBlock = some i
theorem sbAt_pp {hs : List PpH} {k a : Nat} {x : Sb} (h : sbAt (hs.map ppEl) k a = some x) : x.t = 79 ∨ x.t = 93 := by
  unfold sbAt at h
  rw [List.getElem?_map] at h
  cases hk : hs[k]? with
  | none => rw [hk] at h; cases h
  | some p =>
    rw [hk] at h
    match a, h with
    | 0, h => injection h with h; subst h; exact .inl rfl
    | 1, h => injection h with h; subst h; exact .inr rfl
    | a + 2, h => cases h
theorem nbl_kind {w : World} {B n i : Nat} {v : Value} {hs : List PpH} (h : NOwn w B 53 5 v n (hs.map ppEl)) (hi : NBl v (hs.map ppEl) i) : ∃ cur T, w.heap[i]? = some (.cells cur T (0, 0)) ∧ (T = 53 ∨ T = 79 ∨ T = 93) := by
  rcases hi with hi | ⟨k, a, x, hx, hi⟩
  · obtain ⟨cur, hc⟩ := own_kind h.row hi
    exact ⟨cur, _, hc, .inl rfl⟩
  · obtain ⟨cur, hc⟩ := own_kind (h.dat k a x hx) hi
    exact ⟨cur, _, hc, .inr (sbAt_pp hx)⟩
/-- A row of another kind is no part of the pages. -/
theorem nbl_other {w : World} {B C n m s t : Nat} {v u : Value} {cs : List Value} {hs : List PpH} (h : NOwn w B 53 5 v n (hs.map ppEl)) (ho : w.ownsRow C t s u m cs) (h1 : t ≠ 53) (h2 : t ≠ 79) (h3 : t ≠ 93) {i : Nat} (hi : u.ownBlock = some i) : ¬ NBl v (hs.map ppEl) i := fun hb => by
  obtain ⟨cur, hc⟩ := own_kind ho hi
  obtain ⟨cur', T, hc', hT⟩ := nbl_kind h hb
  rw [hc] at hc'
  injection hc' with hc'
  injection hc' with _ hc' _
  rcases hT with e | e | e
  · exact h1 (hc'.trans e)
  · exact h2 (hc'.trans e)
  · exact h3 (hc'.trans e)
theorem own_other {w : World} {B C n m s s' t t' : Nat} {v u : Value} {cs cs' : List Value} (h : w.ownsRow B t s v n cs) (h' : w.ownsRow C t' s' u m cs') (ht : t ≠ t') {i : Nat} (hi : v.ownBlock = some i) : ¬ u.ownBlock = some i := fun hb => by
  obtain ⟨cur, hc⟩ := own_kind h hi
  obtain ⟨cur', hc'⟩ := own_kind h' hb
  rw [hc] at hc'
  injection hc' with hc'
  injection hc' with _ hc' _
  exact ht hc'
theorem NOwn.keep {w w' : World} {B T S n : Nat} {v : Value} {es : List El} (h : NOwn w B T S v n es) {P : Nat → Prop} (hw : WrB P w w') (hp : ∀ i, NBl v es i → ¬ P i) : NOwn w' B T S v n es :=
  ⟨rr_owns_wr h.row hw (fun i hi => hp i (.inl hi)), h.len, h.wid, fun k a x hx => rr_owns_wr (h.dat k a x hx) hw (fun i hi => hp i (.inr ⟨k, a, x, hx, hi⟩)), h.far, h.off⟩
/-- How far the marks of a tree go. -/
def trK (k : Nat) (hs : List PpH) (gs : List Bool) (idx : List RefD) : Nat := kG ppCnt k hs + gs.length + 2 * idx.length
abbrev trMh (k : Nat) (hs : List PpH) : List PpH := mkG ppCnt ppMk k hs
def trMg (k : Nat) (hs : List PpH) (gs : List Bool) : List Bool := boMks (kG ppCnt k hs) gs.length
def trMi (k : Nat) (hs : List PpH) (gs : List Bool) (idx : List RefD) : List RefD := markJs (kG ppCnt k hs + gs.length) idx.length
theorem nbl_mk {v : Value} {k : Nat} {hs : List PpH} {i : Nat} (h : NBl v ((trMh k hs).map ppEl) i) : NBl v (hs.map ppEl) i := by
  rcases h with h | ⟨j, a, x, hx, hi⟩
  · exact .inl h
  · right
    unfold sbAt at hx
    rw [List.getElem?_map] at hx
    by_cases hj : j < hs.length
    · rw [mkG_at ppCnt ppMk k hs j hj] at hx
      match a, hx with
      | 0, hx => injection hx with hx; subst hx; exact ⟨j, 0, _, (show sbAt (hs.map ppEl) j 0 = some ⟨79, 2, hs[j].X.es.length, .slice hs[j].s0.a hs[j].s0.n hs[j].s0.c, ecs hs[j].X.es⟩ by unfold sbAt; rw [ppEl_at hj]; rfl), hi⟩
      | 1, hx => injection hx with hx; subst hx; exact ⟨j, 1, _, (show sbAt (hs.map ppEl) j 1 = some ⟨93, 4, hs[j].X.ds.length, .slice hs[j].s1.a hs[j].s1.n hs[j].s1.c, dcs hs[j].X.ds⟩ by unfold sbAt; rw [ppEl_at hj]; rfl), hi⟩
      | a + 2, hx => cases hx
    · rw [List.getElem?_eq_none (by rw [mkG_len]; omega)] at hx
      cases hx
set_option maxRecDepth 100000 in
set_option maxHeartbeats 2000000 in
theorem markTree_any (B np ng ni cp cg ci k0 : Nat) (ap ag ai : Option Addr) (hs : List PpH) (gs : List Bool) (idx : List RefD) (w : World) (hp : 0 < k0) (hk : trK k0 hs gs idx ≤ 9999990) (hO : TrOwn w B np ng (.slice ap np cp) (.slice ag ng cg) (.slice ai ni ci) hs gs idx) :
    Calls Try.prog 16 #[.agg #[.slice ap np cp, .slice ag ng cg, .slice ai ni ci], .int .i64 (k0 : Int)] w fun e w' => e = .returned (.int .i64 ((trK k0 hs gs idx : Nat) : Int)) ∧ TrOwn w' B np ng (.slice ap np cp) (.slice ag ng cg) (.slice ai ni ci) (trMh k0 hs) (trMg k0 hs gs) (trMi k0 hs gs idx) ∧ WrB (TrBl (.slice ap np cp) (.slice ag ng cg) (.slice ai ni ci) hs) w w' := by
  have b0 : Below w.heap.size w (w.alloc (.cells #[.slice ap np cp, .slice ag ng cg, .slice ai ni ci] 32)) := (Below.refl _ _).alloc (Nat.le_refl _) _
  have K := hide (heap_alloc_new w (.cells #[.slice ap np cp, .slice ag ng cg, .slice ai ni ci] 32))
  have lg : gs.length = ng := by have := hO.go.1; simpa using this
  have li : idx.length = ni := by
    rcases hO.ix.2 with ⟨e, h0⟩ | ⟨_, _, _, e, _⟩
    · injection e with _ e _; rw [h0, e]
    · injection e with _ e _; exact e.symm
  have km := kG_mono ppCnt k0 hs
  unfold trK at hk
  have O := hide (hO.below b0)
  have zW : w.heap.size < (w.alloc (.cells #[.slice ap np cp, .slice ag ng cg, .slice ai ni ci] 32)).heap.size := by simp
  have APT := hide (show ∀ i, TrBl (.slice ap np cp) (.slice ag ng cg) (.slice ai ni ci) hs i → i < w.heap.size from fun i hi => by
    rcases hi with hi | hi | hi
    · exact (hO.pg.lt i hi).2
    · exact (hO.go.lt i hi).2
    · exact (hO.ix.lt i hi).2)
  have WB := hide (show WrB (TrBl (.slice ap np cp) (.slice ag ng cg) (.slice ai ni ci) hs) w (w.alloc (.cells #[.slice ap np cp, .slice ag ng cg, .slice ai ni ci] 32)) from WrB.of_below b0)
  clear hO b0
  go_enter Try.func16, Try.ntmps16
  go_wp2_with fail
  generalize w.alloc (.cells #[.slice ap np cp, .slice ag ng cg, .slice ai ni ci] 32) = W at *
  refine (markPageS_any B ap np cp k0 hs W hp (by omega) (unhide O).pg).mono ?_
  rintro e w1 ⟨rfl, ho1, hw1⟩
  have NB := hide (show ∀ i, NBl (.slice ap np cp) (hs.map ppEl) i → TrBl (.slice ap np cp) (.slice ag ng cg) (.slice ai ni ci) hs i from fun i hi => .inl hi)
  have K1 := hide ((hw1.block w.heap.size zW (fun h => by have := unhide APT _ (unhide NB _ h); omega)).trans (unhide K))
  have G1 := hide (rr_owns_wr (unhide O).go hw1 (fun i hi => nbl_other (unhide O).pg (unhide O).go (by decide) (by decide) (by decide) hi))
  have I1 := hide (rr_owns_wr (unhide O).ix hw1 (fun i hi => nbl_other (unhide O).pg (unhide O).ix (by decide) (by decide) (by decide) hi))
  have P1 := hide ho1
  have WB1 := hide ((unhide WB).seq (hw1.weak (unhide NB)))
  have z1 := hw1.size
  have c1 := (heap_at (unhide K1) 1).1
  clear hw1 ho1 K O WB
  generalize hk1 : kG ppCnt k0 hs = k1 at *
  go_wp2_with fail
  refine (markBoolS_own B ag ng cg k1 gs w1 (by omega) lg (unhide G1)).mono ?_
  rintro e w2 ⟨rfl, ho2, hw2⟩
  have K2 := hide ((hw2.block w.heap.size (by omega) (fun h => by have := unhide APT _ (.inr (.inl h)); omega)).trans (unhide K1))
  have I2 := hide (rr_owns_wr (unhide I1) hw2 (fun i hi => own_other (unhide I1) (unhide G1) (by decide) hi))
  have P2 := hide ((unhide P1).keep hw2 (fun i hi h => nbl_other (unhide P1) (unhide G1) (by decide) (by decide) (by decide) h hi))
  have G2 := hide ho2
  have WB2 := hide ((unhide WB1).seq (hw2.weak (fun i hi => .inr (.inl hi))))
  have z2 := hw2.size
  have c2 := (heap_at (unhide K2) 2).1
  clear hw2 ho2 K1 G1 I1 P1 WB1 c1
  obtain ⟨k2, hk2⟩ : ∃ k2, k2 = k1 + ng := ⟨_, rfl⟩
  rw [← hk2]
  have hk2p : 0 < k2 := by omega
  have hk2b : 2 * ni + k2 ≤ 9999990 := by omega
  have HK2 := hide hk2
  clear hk2
  go_wp2_with fail
  refine (markRefS_any B ai ni ci k2 idx w2 hk2p hk2b (unhide I2)).mono ?_
  rintro e w3 ⟨rfl, ho3, hw3⟩
  have W3 := WrB.of_grown hw3
  have P3 := hide ((unhide P2).keep W3 (fun i hi h => nbl_other (unhide P2) (unhide I2) (by decide) (by decide) (by decide) h hi))
  have G3 := hide (rr_owns_wr (unhide G2) W3 (fun i hi => own_other (unhide G2) (unhide I2) (by decide) hi))
  have WB3 := hide ((unhide WB2).seq (W3.weak (fun i hi => .inr (.inr hi))))
  have E := hide (show k2 + 2 * ni = trK k0 hs gs idx by unfold trK; rw [unhide HK2, hk1, lg, li])
  have RES := hide (show TrOwn w3 B np ng (.slice ap np cp) (.slice ag ng cg) (.slice ai ni ci) (trMh k0 hs) (trMg k0 hs gs) (trMi k0 hs gs idx) from ⟨unhide P3, by unfold trMg; rw [hk1, lg]; exact unhide G3, by unfold trMi; rw [hk1, lg, li, ← unhide HK2]; exact ho3⟩)
  clear ho3 hw3 W3 P2 G2 I2 WB2 c2 P3 G3 K2
  go_wp2_with fail
  go_ret
  exact ⟨ret_int (by have := unhide E; omega), unhide RES, unhide WB3⟩
end Go.Proofs.Ytdajoapbdeplhaa

namespace Go.Proofs.Ytdajoapbdeplhaa
open Go.RowKit

set_option maxHeartbeats 1000000 in
theorem szEntryS_sum (a : Option Addr) (n c : Nat) (es : List EntD) (left : Int) (w : World) (h0 : 0 ≤ left) (h1 : left ≤ 1048576) (hr : ERow w a n es) (hn : n ≤ maxLen) (ht : ∀ i (hi : i < es.length), es[i].k.size ≤ maxLen ∧ es[i].v.size ≤ maxLen) :
    Calls Try.prog 71 #[.slice a n c, .int .i64 left] w fun e w' => ∃ r : Int, e = .returned (.int .i64 r) ∧ (r = -1 ∨ (0 ≤ r ∧ r + (n : Int) ≤ left)) ∧ Below w.heap.size w w' := by
  unfold maxLen at hn
  have L := hide hr.1
  have R := hide hr
  have T := hide ht
  clear hr ht
  by_cases hb : left - n < 0
  · go_enter Try.func71, Try.ntmps71
    go_wp2_with fail
    go_ret
    exact ⟨-1, rfl, .inl rfl, Below.refl _ _⟩
  have hb' : 0 ≤ left - n := by omega
  go_enter Try.func71, Try.ntmps71
  go_wp2_with fail
  go_loopw [1, 5] (fun l i wr => ∃ k : Nat, k ≤ n ∧ i = .int .i64 k ∧ ∃ q : Int, l = .int .i64 q ∧ 0 ≤ q ∧ q ≤ left - n ∧ Below w.heap.size w wr) (fun _ i _ => n - (intOf i).toNat)
  case atStart => exact ⟨0, by omega, rfl, _, rfl, by omega, by omega, Below.refl _ _⟩
  case round =>
    obtain ⟨k, hk, rfl, q, rfl, hq0, hq1, hbel⟩ := hrel
    by_cases hlt : k < n
    · have hk2 : k < es.length := by rw [unhide L]; exact hlt
      obtain ⟨b, off, rfl, d0, d1⟩ := ((unhide R).below hbel).2 k hk2
      have hsz := hbel.size
      have hT := unhide T k hk2
      generalize es[k] = pd at *
      go_wp2_with fail
      refine (szEntry_any _ q wr hq0 (by omega) hT.1 hT.2).mono ?_
      rintro e w1 ⟨r, rfl, hr, hb1⟩
      have bA := hbel.trans (hb1.mono hsz)
      clear hbel hb1 d0 d1
      rcases hr with rfl | ⟨r0, r1⟩
      · go_wp2_with fail
        go_ret
        exact ⟨-1, rfl, .inl rfl, bA⟩
      · go_wp2_with fail
        go_roundw
        case rel => exact ⟨k + 1, by omega, by go_num, r, rfl, r0, by omega, bA⟩
        case measure => simp [intOf]; omega
    · obtain rfl : k = n := by omega
      go_wp2_with fail
      go_ret
      exact ⟨q, rfl, .inr ⟨hq0, by omega⟩, hbel⟩
set_option maxHeartbeats 1000000 in
theorem szDeltaS_sum (a : Option Addr) (n c : Nat) (ds : List DelD) (left : Int) (w : World) (h0 : 0 ≤ left) (h1 : left ≤ 1048576) (hr : DRow w a n ds) (hn : n ≤ maxLen) (ht : ∀ i (hi : i < ds.length), ds[i].k.size ≤ maxLen ∧ ds[i].v.size ≤ maxLen) :
    Calls Try.prog 72 #[.slice a n c, .int .i64 left] w fun e w' => ∃ r : Int, e = .returned (.int .i64 r) ∧ (r = -1 ∨ (0 ≤ r ∧ r + (n : Int) ≤ left)) ∧ Below w.heap.size w w' := by
  unfold maxLen at hn
  have L := hide hr.1
  have R := hide hr
  have T := hide ht
  clear hr ht
  by_cases hb : left - n < 0
  · go_enter Try.func72, Try.ntmps72
    go_wp2_with fail
    go_ret
    exact ⟨-1, rfl, .inl rfl, Below.refl _ _⟩
  have hb' : 0 ≤ left - n := by omega
  go_enter Try.func72, Try.ntmps72
  go_wp2_with fail
  go_loopw [1, 5] (fun l i wr => ∃ k : Nat, k ≤ n ∧ i = .int .i64 k ∧ ∃ q : Int, l = .int .i64 q ∧ 0 ≤ q ∧ q ≤ left - n ∧ Below w.heap.size w wr) (fun _ i _ => n - (intOf i).toNat)
  case atStart => exact ⟨0, by omega, rfl, _, rfl, by omega, by omega, Below.refl _ _⟩
  case round =>
    obtain ⟨k, hk, rfl, q, rfl, hq0, hq1, hbel⟩ := hrel
    by_cases hlt : k < n
    · have hk2 : k < ds.length := by rw [unhide L]; exact hlt
      obtain ⟨b, off, rfl, d0, d1, d2, d3⟩ := ((unhide R).below hbel).2 k hk2
      have hsz := hbel.size
      have hT := unhide T k hk2
      generalize ds[k] = pd at *
      go_wp2_with fail
      refine (szDelta_any _ q wr hq0 (by omega) hT.1 hT.2).mono ?_
      rintro e w1 ⟨r, rfl, hr, hb1⟩
      have bA := hbel.trans (hb1.mono hsz)
      clear hbel hb1 d0 d1 d2 d3
      rcases hr with rfl | ⟨r0, r1⟩
      · go_wp2_with fail
        go_ret
        exact ⟨-1, rfl, .inl rfl, bA⟩
      · go_wp2_with fail
        go_roundw
        case rel => exact ⟨k + 1, by omega, by go_num, r, rfl, r0, by omega, bA⟩
        case measure => simp [intOf]; omega
    · obtain rfl : k = n := by omega
      go_wp2_with fail
      go_ret
      exact ⟨q, rfl, .inr ⟨hq0, by omega⟩, hbel⟩
set_option maxRecDepth 100000 in
set_option maxHeartbeats 1000000 in
theorem szPage_sum (lo hi : ByteArray) (r : Int) (ab : Option Addr) (nb cb : Nat) (es : List EntD) (ac : Option Addr) (nc cc : Nat) (ds : List DelD) (left : Int) (w : World) (h0 : 0 ≤ left) (h1 : left ≤ 1048576) (hP : IsPage w lo hi ab nb es ac nc ds) :
    Calls Try.prog 47 #[pgv lo hi r ab nb cb ac nc cc, .int .i64 left] w fun e w' => ∃ q : Int, e = .returned (.int .i64 q) ∧ (q = -1 ∨ (0 ≤ q ∧ q + (nb : Int) + (nc : Int) ≤ left)) ∧ Below w.heap.size w w' := by
  have b0 : Below w.heap.size w (w.alloc (.cells #[.string lo, .string hi, .int .i64 r, .slice ab nb cb, .slice ac nc cc] 87)) := (Below.refl _ _).alloc (Nat.le_refl _) _
  have P := hide (hP.below b0)
  have hl : lo.size ≤ 9223372036854775807 := by have := hP.2.2.1; unfold maxLen at this; omega
  have hh : hi.size ≤ 9223372036854775807 := by have := hP.2.2.2.1; unfold maxLen at this; omega
  clear hP
  by_cases g1 : left - lo.size < 0
  · go_enter Try.func47, Try.ntmps47
    go_wp2_with fail
    go_ret
    exact ⟨-1, rfl, .inl rfl, b0⟩
  have g1' : 0 ≤ left - lo.size := by omega
  by_cases g2 : left - lo.size - hi.size < 0
  · go_enter Try.func47, Try.ntmps47
    go_wp2_with fail
    go_ret
    exact ⟨-1, rfl, .inl rfl, b0⟩
  have g2' : 0 ≤ left - lo.size - hi.size := by omega
  go_enter Try.func47, Try.ntmps47
  go_wp2_with fail
  refine (szEntryS_sum ab nb cb es (left - lo.size - hi.size) _ g2' (by omega) (unhide P).1 (unhide P).2.2.2.2.1 (unhide P).2.2.2.2.2.2.1).mono ?_
  rintro e w1 ⟨q1, rfl, hq1, hb1⟩
  have P1 := hide ((unhide P).below hb1)
  have c4 : w1.cell? ⟨w.heap.size, 4, none⟩ = some (.slice ac nc cc) := (hb1.cell (p := ⟨w.heap.size, 4, none⟩) (by simp)).trans (by simp)
  have B1 := hide (b0.trans (hb1.mono b0.size))
  clear b0 hb1 P
  rcases hq1 with rfl | ⟨q10, q12⟩
  · go_wp2_with fail
    go_ret
    exact ⟨-1, rfl, .inl rfl, unhide B1⟩
  go_wp2_with fail
  refine (szDeltaS_sum ac nc cc ds q1 w1 q10 (by omega) (unhide P1).2.1 (unhide P1).2.2.2.2.2.1 (unhide P1).2.2.2.2.2.2.2).mono ?_
  rintro e w2 ⟨q2, rfl, hq2, hb2⟩
  have B2 := hide ((unhide B1).trans (hb2.mono (unhide B1).size))
  clear hb2 c4 P1
  rcases hq2 with rfl | ⟨q20, q22⟩
  · go_wp2_with fail
    go_ret
    exact ⟨-1, rfl, .inl rfl, unhide B2⟩
  go_wp2_with fail
  go_ret
  exact ⟨q2, rfl, .inr ⟨q20, by omega⟩, unhide B2⟩
theorem szPage_nestS (h : PpH) (left : Int) (w : World) (h0 : 0 ≤ left) (h1 : left ≤ 1048576) (hP : PpIs w h) :
    Calls Try.prog 47 #[ppV h, .int .i64 left] w fun e w' => ∃ q : Int, e = .returned (.int .i64 q) ∧ (q = -1 ∨ (0 ≤ q ∧ q + (h.s0.n : Int) + (h.s1.n : Int) ≤ left)) ∧ Below w.heap.size w w' :=
  szPage_sum h.X.lo h.X.hi h.X.r h.s0.a h.s0.n h.s0.c h.X.es h.s1.a h.s1.n h.s1.c h.X.ds left w h0 h1 hP
def ppN (h : PpH) : Nat := h.s0.n + h.s1.n
set_option maxHeartbeats 1000000 in
theorem szPageS_sum (a : Option Addr) (n c : Nat) (hs : List PpH) (left : Int) (w : World) (h0 : 0 ≤ left) (h1 : left ≤ 1048576) (hr : PpIn w (.slice a n c) n hs) (hn : n ≤ maxLen) (hl : ∀ h ∈ hs, PpIs w h) :
    Calls Try.prog 19 #[.slice a n c, .int .i64 left] w fun e w' => ∃ q : Int, e = .returned (.int .i64 q) ∧ (q = -1 ∨ (0 ≤ q ∧ q + (n : Int) + (((hs.map ppN).sum : Nat) : Int) ≤ left)) ∧ Below w.heap.size w w' := by
  unfold maxLen at hn
  have L := hide (show hs.length = n by have := hr.len; simpa using this)
  have R := hide hr
  have T := hide hl
  clear hr hl
  by_cases hb : left - n < 0
  · go_enter Try.func19, Try.ntmps19
    go_wp2_with fail
    go_ret
    exact ⟨-1, rfl, .inl rfl, Below.refl _ _⟩
  have hb' : 0 ≤ left - n := by omega
  go_enter Try.func19, Try.ntmps19
  go_wp2_with fail
  go_loopw [1, 5] (fun l i wr => ∃ k : Nat, k ≤ n ∧ i = .int .i64 k ∧ ∃ q : Int, l = .int .i64 q ∧ 0 ≤ q ∧ q ≤ left - n ∧ Below w.heap.size w wr ∧ Hid (q + (((hs.take k).map ppN).sum : Nat) ≤ left - n)) (fun _ i _ => n - (intOf i).toNat)
  case atStart => exact ⟨0, by omega, rfl, _, rfl, by omega, by omega, Below.refl _ _, hide (by simp)⟩
  case round =>
    obtain ⟨k, hk, rfl, q, rfl, hq0, hq1, hbel, hA⟩ := hrel
    by_cases hlt : k < n
    · have hk2 : k < hs.length := by rw [unhide L]; exact hlt
      obtain ⟨b, off, rfl, hbl, d0, d1, d2, d3, d4⟩ := PpIn.cells ((unhide R).below hbel) hk2
      have hsz := hbel.size
      have C := hide (szPage_nestS hs[k] q wr hq0 (by omega) ((unhide T _ (List.getElem_mem hk2)).below hbel))
      have ST := hide (show ∀ r : Int, r + (hs[k].s0.n : Int) + (hs[k].s1.n : Int) ≤ q → r + (((hs.take (k + 1)).map ppN).sum : Nat) ≤ left - n from fun r e => by
        have h := unhide hA
        rw [rb_take_snoc hs k hk2, List.map_append, List.sum_append]
        simp only [List.map_cons, List.map_nil, List.sum_cons, List.sum_nil, ppN]
        omega)
      unfold ppV at C
      generalize hs[k] = pd at *
      clear hA
      obtain ⟨X, ⟨a0, n0, c0⟩, ⟨a1, n1, c1⟩⟩ := pd
      simp only at d0 d1 d2 d3 d4 C ST
      generalize X.lo = x0 at *
      generalize X.hi = x1 at *
      generalize X.r = x2 at *
      go_wp2_with fail
      refine (unhide C).mono ?_
      rintro e w1 ⟨r, rfl, hr, hb1⟩
      have bA := hbel.trans (hb1.mono hsz)
      clear hbel hb1 d0 d1 d2 d3 d4 C
      rcases hr with rfl | ⟨r0, r2⟩
      · go_wp2_with fail
        go_ret
        exact ⟨-1, rfl, .inl rfl, bA⟩
      · have Z := hide (unhide ST r r2)
        go_wp2_with fail
        go_roundw
        case rel => exact ⟨k + 1, by omega, by go_num, r, rfl, r0, by omega, bA, unhide Z⟩
        case measure => simp [intOf]; omega
    · obtain rfl : k = n := by omega
      have Z := hide (show q + (((hs.map ppN).sum : Nat) : Int) ≤ left - k by have h := unhide hA; rwa [List.take_of_length_le (by rw [unhide L]; exact Nat.le_refl _)] at h)
      go_wp2_with fail
      go_ret
      exact ⟨q, rfl, .inr ⟨hq0, by have := unhide Z; omega⟩, hbel⟩
set_option maxHeartbeats 1000000 in
theorem szTree_sum (ap : Option Addr) (np cp : Nat) (ag : Option Addr) (ng cg : Nat) (ai : Option Addr) (ni ci : Nat) (hs : List PpH) (gs : List Bool) (idx : List RefD) (left : Int) (w : World) (h0 : 0 ≤ left) (h1 : left ≤ 1048576) (hT : TrIn w ap np cp ag ng cg ai ni hs gs idx) (hC : TrCame w hs idx) (hn : np ≤ maxLen ∧ ng ≤ maxLen ∧ ni ≤ maxLen) :
    Calls Try.prog 6 #[.agg #[.slice ap np cp, .slice ag ng cg, .slice ai ni ci], .int .i64 left] w fun e w' => ∃ q : Int, e = .returned (.int .i64 q) ∧ (q = -1 ∨ (0 ≤ q ∧ q ≤ left ∧ np + (hs.map ppN).sum ≤ 1048576 ∧ ng ≤ 1048576 ∧ ni ≤ 1048576)) ∧ Below w.heap.size w w' := by
  have b0 : Below w.heap.size w (w.alloc (.cells #[.slice ap np cp, .slice ag ng cg, .slice ai ni ci] 26)) := (Below.refl _ _).alloc (Nat.le_refl _) _
  have t1 : (w.alloc (.cells #[.slice ap np cp, .slice ag ng cg, .slice ai ni ci] 26)).cell? ⟨w.heap.size, 1, none⟩ = some (.slice ag ng cg) := by simp
  have t2 : (w.alloc (.cells #[.slice ap np cp, .slice ag ng cg, .slice ai ni ci] 26)).cell? ⟨w.heap.size, 2, none⟩ = some (.slice ai ni ci) := by simp
  have HP := hide (szPageS_sum ap np cp hs left _ h0 h1 (hT.below b0).pgs hn.1 (fun h hh => (hC.pg h hh).below b0))
  have HG := hide (fun u l (h0 : 0 ≤ l) (h1 : l ≤ 1048576) => szBoolS_tr ag ng cg l u h0 h1 hn.2.1)
  have HI := hide (fun u (hu : Below w.heap.size w u) l (h0 : 0 ≤ l) (h1 : l ≤ 1048576) => szRefS_any ai ni ci idx l u h0 h1 (hT.below hu).ix hn.2.2 hC.ix)
  clear hT hC hn
  go_enter Try.func6, Try.ntmps6
  go_wp2_with fail
  generalize w.alloc (.cells #[.slice ap np cp, .slice ag ng cg, .slice ai ni ci] 26) = W at *
  refine (unhide HP).mono ?_
  rintro e w1 ⟨q, rfl, hq, hb1⟩
  have bA := b0.trans (hb1.mono b0.size)
  have s1 := (hb1.cell (p := ⟨w.heap.size, 1, none⟩) (cell_lt t1)).trans t1
  have s2 := (hb1.cell (p := ⟨w.heap.size, 2, none⟩) (cell_lt t2)).trans t2
  clear HP t1 t2 hb1
  rcases hq with rfl | ⟨q0, q1⟩
  · go_wp2_with fail
    go_ret
    exact ⟨-1, rfl, .inl rfl, bA⟩
  go_wp2_with fail
  refine (unhide HG _ q q0 (by omega)).mono ?_
  rintro e w2 ⟨r, rfl, hr, hw2⟩
  subst w2
  clear HG
  rcases hr with rfl | ⟨r0, r1, r2⟩
  · go_wp2_with fail
    go_ret
    exact ⟨-1, rfl, .inl rfl, bA⟩
  go_wp2_with fail
  refine (unhide HI _ bA r r0 (by omega)).mono ?_
  rintro e w3 ⟨x, rfl, hx, hb3⟩
  have bB := bA.trans (hb3.mono bA.size)
  clear HI s1 s2 hb3
  rcases hx with rfl | ⟨x0, x1, x2⟩
  · go_wp2_with fail
    go_ret
    exact ⟨-1, rfl, .inl rfl, bB⟩
  go_wp2_with fail
  go_ret
  exact ⟨x, rfl, .inr ⟨x0, by omega, by omega, by omega, by omega⟩, bB⟩
theorem ppN_few {hs : List PpH} {n : Nat} (h : n + (hs.map ppN).sum ≤ 1048576) : ∀ x ∈ hs, x.s0.n ≤ 1048576 ∧ x.s1.n ≤ 1048576 := fun x hx => by
  have h1 := gd_le_sum ppN hs x hx
  have h2 : ppN x = x.s0.n + x.s1.n := rfl
  omega
end Go.Proofs.Ytdajoapbdeplhaa

namespace Go.Proofs.Ytdajoapbdeplhaa
open Go.RowKit

theorem scanF_len {ps : List (Option PageD)} (hok : ∀ p, some p ∈ ps → okP p = true) : ∀ (m : Nat) (id : Int), (scanF ps m id).length ≤ 32 * m
  | 0, _ => by simp [scanF]
  | m + 1, id => by
    cases hg : getP ps id with
    | none => rw [scanF_none hg]; simp
    | some q =>
      rw [scanF_some hg, List.length_append]
      have h1 := scanF_len hok m (riP q)
      have h2 := enP_len (hok q (getP_mem hg))
      omega
theorem scanE_len (t : TreD) (fr tu : ByteArray) : (scanE t fr tu).length ≤ 1280 := by
  unfold scanE
  split
  · simp
  · split
    · rename_i h
      have h1 := scanF_len (good_of h).ok 40 0
      have h2 := List.length_filter_le (fun e : EntD => inK fr tu e.k) (treeE t.here)
      unfold rangeE
      unfold treeE at h2 ⊢
      omega
    · simp
theorem ppCnt_sum : ∀ (hs : List PpH), (∀ x ∈ hs, x.s0.n = x.X.es.length ∧ x.s1.n = x.X.ds.length) → (hs.map ppCnt).sum ≤ 3 * hs.length + 4 * (hs.map ppN).sum
  | [], _ => by simp
  | x :: r, h => by
    have ih := ppCnt_sum r (fun y hy => h y (List.mem_cons_of_mem _ hy))
    have hx := h x (List.mem_cons_self ..)
    simp only [List.map_cons, List.sum_cons, List.length_cons]
    have e1 : ppCnt x = 3 + 2 * x.X.es.length + 4 * x.X.ds.length := rfl
    have e2 : ppN x = x.s0.n + x.s1.n := rfl
    omega
theorem ppCnt_same {hs hs' : List PpH} (h : hs'.map (·.X) = hs.map (·.X)) : hs'.map ppCnt = hs.map ppCnt := by
  have e : ∀ l : List PpH, l.map ppCnt = (l.map (·.X)).map (fun X : PageD => 3 + 2 * X.es.length + 4 * X.ds.length) := fun l => by rw [List.map_map]; rfl
  rw [e, e, h]
theorem trK_few {w0 : World} {v : Value} {n ng ni : Nat} {hs hs' : List PpH} {gs : List Bool} {idx : List RefD} (h0 : PpIn w0 v n hs) (hX : hs'.map (·.X) = hs.map (·.X)) (h1 : n + (hs.map ppN).sum ≤ 1048576) (h2 : gs.length = ng) (h3 : ng ≤ 1048576) (h4 : idx.length = ni) (h5 : ni ≤ 1048576) : trK 1 hs' gs idx ≤ 9999990 := by
  have hl : hs.length = n := by have := h0.len; simpa using this
  have := ppCnt_sum hs (tr_lens h0)
  unfold trK
  rw [kG_sum, ppCnt_same hX]
  omega
set_option maxRecDepth 100000 in
set_option maxHeartbeats 8000000 in
theorem lawTreeScan_any (ap : Option Addr) (np cp : Nat) (ag : Option Addr) (ng cg : Nat) (ai : Option Addr) (ni ci : Nat) (hs : List PpH) (gs : List Bool) (idx : List RefD) (fr tu : ByteArray) (w : World) (hT : TrIn w ap np cp ag ng cg ai ni hs gs idx) (hC : TrCame w hs idx) (hn : np ≤ maxLen ∧ ng ≤ maxLen ∧ ni ≤ maxLen) (_hk1 : fr.size ≤ maxLen) (_hk2 : tu.size ≤ maxLen) :
    Calls Try.prog 5 #[.agg #[.slice ap np cp, .slice ag ng cg, .slice ai ni ci], .string fr, .string tu] w fun e w' => e = .returned (.bool true) ∧ Below w.heap.size w w' := by
  have B : Below w.heap.size w (w.alloc (.cells #[.slice ap np cp, .slice ag ng cg, .slice ai ni ci] 26)) := (Below.refl _ _).alloc (Nat.le_refl _) _
  have P := hide hT
  have PC := hide hC
  have K := hide (heap_alloc_new w (.cells #[.slice ap np cp, .slice ag ng cg, .slice ai ni ci] 26))
  have lg := hT.glen
  have li := hT.ix.1
  have cC : ∀ u, Below w.heap.size w u → TrCame u hs idx := fun u hu => ⟨fun h hh => (hC.pg h hh).below hu, hC.ix⟩
  have C0 := hide (fun u (hu : Below w.heap.size w u) => szTree_sum ap np cp ag ng cg ai ni ci hs gs idx 1048576 u (by omega) (by omega) (hT.below hu) (cC u hu) hn)
  have CC := hide cC
  clear hT hC hn cC
  by_cases hk1 : 1048576 < fr.size
  · go_enter Try.func5, Try.ntmps5
    go_wp2_with fail
    go_ret
    exact ⟨rfl, B⟩
  by_cases hk2 : 1048576 < tu.size
  · go_enter Try.func5, Try.ntmps5
    go_wp2_with fail
    go_ret
    exact ⟨rfl, B⟩
  have zK : w.heap.size < (w.alloc (.cells #[.slice ap np cp, .slice ag ng cg, .slice ai ni ci] 26)).heap.size := by simp
  go_enter Try.func5, Try.ntmps5
  go_wp2_with fail
  generalize w.alloc (.cells #[.slice ap np cp, .slice ag ng cg, .slice ai ni ci] 26) = W0 at *
  refine (unhide C0 W0 B).mono ?_
  rintro e w1 ⟨q, rfl, hq, hb⟩
  replace K := hide ((hb.block w.heap.size (tr_lt (unhide K))).trans (unhide K))
  replace B := B.trans (hb.mono B.size)
  have zz := hb.size
  replace zK := Nat.lt_of_lt_of_le zK zz
  clear zz
  clear hb C0
  rcases hq with rfl | ⟨q0, _, n1, n2, n3⟩
  · go_wp2_with fail
    go_ret
    exact ⟨rfl, B⟩
  have hnp : np ≤ 1048576 := by omega
  have FEW := hide (ppN_few n1)
  have KF := hide (fun (hs' : List PpH) (hX : hs'.map (·.X) = hs.map (·.X)) => trK_few (gs := gs) (idx := idx) (unhide P).pgs hX n1 lg n2 li n3)
  have CT := hide (show ∀ u, Below w.heap.size w u → Calls Try.prog 8 #[.agg #[.slice ap np cp, .slice ag ng cg, .slice ai ni ci]] u fun e w' => ∃ g1 g2 g3 hs', e = .returned (.agg #[.slice (some ⟨g1, 0, none⟩) np np, .slice (some ⟨g2, 0, none⟩) ng ng, .slice (some ⟨g3, 0, none⟩) ni ni]) ∧ TrMade w' u.heap.size np ng ni g1 g2 g3 hs' hs gs idx ∧ Below u.heap.size u w' from fun u hu => (toTree_any ap np cp ag ng cg ai ni ci hs gs idx u ((unhide P).below hu) (unhide CC u hu) ⟨hnp, n2, n3⟩ (unhide FEW)).mono fun e w' h => by
    obtain ⟨g1, g2, g3, hs', e, o, x, b⟩ := h
    exact ⟨g1, g2, g3, hs', e, ⟨o, x⟩, b⟩)
  obtain ⟨SE, hSE⟩ : ∃ SE, SE = scanE (trd hs gs idx) fr tu := ⟨_, rfl⟩
  obtain ⟨rc, hrc⟩ : ∃ rc, rc = scanC (trd hs gs idx) fr tu := ⟨_, rfl⟩
  have SL := hide (show SE.length ≤ 1280 by rw [hSE]; exact scanE_len _ _ _)
  have CS := hide (show ∀ (u : World) (B g1 g2 g3 : Nat) (hs' : List PpH), TrMade u B np ng ni g1 g2 g3 hs' hs gs idx → Calls Try.prog 13 #[.agg #[.slice (some ⟨g1, 0, none⟩) np np, .slice (some ⟨g2, 0, none⟩) ng ng, .slice (some ⟨g3, 0, none⟩) ni ni], .string fr, .string tu] u fun e w' => ∃ a c, e = .returned (.tuple #[.slice a SE.length c, .int .i64 rc]) ∧ EOwns w' u.heap.size (.slice a SE.length c) SE ∧ Below u.heap.size u w' from fun u B g1 g2 g3 hs' ho => ((specTreeScan_any _ _ _ _ _ _ _ _ _ hs' gs idx fr tu u ho.own.reads ho.cap).mono fun e w' h => by
    obtain ⟨a, n, c, e1, o1, b1⟩ := h
    rw [ho.okT] at e1 o1
    rw [← hSE] at o1
    rw [← hrc] at e1
    obtain ⟨a', c', e2, _⟩ := eowns_slice o1
    injection e2 with _ e2 _
    subst e2
    exact ⟨a, c, e1, o1, b1⟩))
  have CI := hide (show ∀ (u : World) (B g1 g2 g3 : Nat) (hs' : List PpH), TrMade u B np ng ni g1 g2 g3 hs' hs gs idx → Calls Try.prog 14 #[.agg #[.slice (some ⟨g1, 0, none⟩) np np, .slice (some ⟨g2, 0, none⟩) ng ng, .slice (some ⟨g3, 0, none⟩) ni ni], .string fr, .string tu] u fun e w' => ∃ a c, e = .returned (.tuple #[.slice a SE.length c, .int .i64 rc]) ∧ EOwns w' u.heap.size (.slice a SE.length c) SE ∧ Below u.heap.size u w' from fun u B g1 g2 g3 hs' ho => ((implTreeScan_any _ _ _ _ _ _ _ _ _ hs' gs idx fr tu u ho.own.reads (fun h => by cases h)).mono fun e w' h => by
    obtain ⟨a, n, c, e1, o1, b1⟩ := h
    rw [ho.okT] at e1 o1
    rw [← hSE] at o1
    rw [← hrc] at e1
    obtain ⟨a', c', e2, _⟩ := eowns_slice o1
    injection e2 with _ e2 _
    subst e2
    exact ⟨a, c, e1, o1, b1⟩))
  have CQ := hide (show ∀ (u : World) (B g1 g2 g3 B' h1 h2 h3 : Nat) (hs1 hs2 : List PpH), TrMade u B np ng ni g1 g2 g3 hs1 hs gs idx → TrMade u B' np ng ni h1 h2 h3 hs2 hs gs idx → Calls Try.prog 10 #[.agg #[.slice (some ⟨g1, 0, none⟩) np np, .slice (some ⟨g2, 0, none⟩) ng ng, .slice (some ⟨g3, 0, none⟩) ni ni], .agg #[.slice (some ⟨h1, 0, none⟩) np np, .slice (some ⟨h2, 0, none⟩) ng ng, .slice (some ⟨h3, 0, none⟩) ni ni]] u fun e w' => e = .returned (.bool true) ∧ Below u.heap.size u w' from fun u B g1 g2 g3 B' h1 h2 h3 hs1 hs2 o1 o2 =>
    eqTree_any _ _ np _ _ _ _ ng _ _ _ _ ni _ _ hs1 hs2 gs idx u o1.own.reads o2.own.reads (o2.same.trans o1.same.symm) ⟨hnp, n2, n3⟩ (o1.few (unhide P).pgs (unhide FEW)))
  have CE := hide (show ∀ (u : World) (B1 B2 : Nat) (a1 a2 : Option Addr) (c1 c2 : Nat), EOwns u B1 (.slice a1 SE.length c1) SE → EOwns u B2 (.slice a2 SE.length c2) SE → Calls Try.prog 15 #[.slice a1 SE.length c1, .slice a2 SE.length c2] u fun e w' => e = .returned (.bool true) ∧ Below u.heap.size u w' from fun u B1 B2 a1 a2 c1 c2 o1 o2 => eqEntryS_any a1 a2 SE.length c1 c2 SE u (by have := unhide SL; omega) (erow_of_owns o1) (erow_of_owns o2))
  have CM := hide (show ∀ (u : World) (B1 : Nat) (a1 : Option Addr) (c1 : Nat), EOwns u B1 (.slice a1 SE.length c1) SE → Calls Try.prog 17 #[.slice a1 SE.length c1, .int .i64 1] u fun e w' => e = .returned (.int .i64 ((1 + 2 * SE.length : Nat) : Int)) ∧ w'.ownsRow B1 79 2 (.slice a1 SE.length c1) SE.length (ecs (entMk 1 SE.length)) ∧ WrB (fun i => (Value.slice a1 SE.length c1).ownBlock = some i) u w' from fun u B1 a1 c1 o1 => markEntryS_own B1 a1 SE.length c1 1 SE u ⟨by omega, by have := unhide SL; omega⟩ rfl o1)
  have CH := hide (show ∀ (u : World) (B1 : Nat) (a1 : Option Addr) (c1 : Nat), u.ownsRow B1 79 2 (.slice a1 SE.length c1) SE.length (ecs (entMk 1 SE.length)) → Calls Try.prog 18 #[.slice a1 SE.length c1, .int .i64 1] u fun e w' => e = .returned (.int .i64 ((1 + 2 * SE.length : Nat) : Int)) ∧ Below u.heap.size u w' from fun u B1 a1 c1 o1 => heldEntryS_any a1 SE.length c1 1 u (by omega) (by have := unhide SL; omega) (erow_of_owns (show EOwns u B1 (.slice a1 SE.length c1) (entMk 1 SE.length) by unfold EOwns; rw [entMk_len]; exact o1)))
  clear hSE hrc P FEW CC PC
  generalize SE.length = ln at *
  have hln : ln ≤ 1280 := unhide SL
  clear SL
  obtain ⟨p0, p1, p2⟩ := tr_cells (unhide K)
  go_wp2_with fail
  refine (unhide CT w1 B).mono ?_
  rintro e w2 ⟨g1, g2, g3, hs2, rfl, ho, hb⟩
  replace K := hide ((hb.block w.heap.size (tr_lt (unhide K))).trans (unhide K))
  replace B := B.trans (hb.mono B.size)
  replace zK := Nat.lt_of_lt_of_le zK hb.size
  have O2 := hide ho
  clear hb ho p0 p1 p2
  go_wp2_with fail
  refine (unhide CS w2 _ _ _ _ _ (unhide O2)).mono ?_
  rintro e w3 ⟨aw, cw, rfl, ho, hb⟩
  replace K := hide ((hb.block w.heap.size (tr_lt (unhide K))).trans (unhide K))
  replace B := B.trans (hb.mono B.size)
  have zK2 := zK
  replace zK := Nat.lt_of_lt_of_le zK hb.size
  have RW := hide ho
  have LW := hide (show ∀ i, (Value.slice aw ln cw).ownBlock = some i → i < w3.heap.size from fun i hi => (ho.lt i hi).2)
  have GW := hide (show ∀ i, (Value.slice aw ln cw).ownBlock = some i → w.heap.size < i from fun i hi => Nat.lt_of_lt_of_le zK2 ((ho.lt i hi).1))
  clear hb ho O2 CS
  clear GW zK2
  obtain ⟨p0, p1, p2⟩ := tr_cells (unhide K)
  go_wp2_with fail
  refine (unhide CT w3 B).mono ?_
  rintro e w4 ⟨x1, x2, x3, hs4, rfl, ho, hb⟩
  replace K := hide ((hb.block w.heap.size (tr_lt (unhide K))).trans (unhide K))
  replace B := B.trans (hb.mono B.size)
  replace RW := hide (rb_ownsRow_below (unhide RW) hb)
  have z3 := hb.size
  have TB := hide (show ∀ i, TrBl (.slice (some ⟨x1, 0, none⟩) np np) (.slice (some ⟨x2, 0, none⟩) ng ng) (.slice (some ⟨x3, 0, none⟩) ni ni) hs4 i → w3.heap.size ≤ i ∧ i < w4.heap.size from fun i hi => by
    rcases hi with hi | hi | hi
    · exact ho.own.pg.lt i hi
    · exact ho.own.go.lt i hi
    · exact ho.own.ix.lt i hi)
  have HX4 := hide ho.same
  clear hb p0 p1 p2
  have hb : Below w4.heap.size w4 (w4.alloc (.cells #[.slice (some ⟨x1, 0, none⟩) np np, .slice (some ⟨x2, 0, none⟩) ng ng, .slice (some ⟨x3, 0, none⟩) ni ni] 32)) := (Below.refl _ _).alloc (Nat.le_refl _) _
  have X := hide (heap_alloc_new w4 (.cells #[.slice (some ⟨x1, 0, none⟩) np np, .slice (some ⟨x2, 0, none⟩) ng ng, .slice (some ⟨x3, 0, none⟩) ni ni] 32))
  replace K := hide ((hb.block w.heap.size (tr_lt (unhide K))).trans (unhide K))
  replace B := B.trans (hb.mono B.size)
  replace RW := hide (rb_ownsRow_below (unhide RW) hb)
  have OX := hide (ho.below hb)
  have z4 := hb.size
  have zX : w4.heap.size < (w4.alloc (.cells #[.slice (some ⟨x1, 0, none⟩) np np, .slice (some ⟨x2, 0, none⟩) ng ng, .slice (some ⟨x3, 0, none⟩) ni ni] 32)).heap.size := by simp
  clear hb ho
  go_wp2_with fail
  generalize w4.alloc (.cells #[.slice (some ⟨x1, 0, none⟩) np np, .slice (some ⟨x2, 0, none⟩) ng ng, .slice (some ⟨x3, 0, none⟩) ni ni] 32) = w5 at *
  generalize hxb : w4.heap.size = xb at *
  refine (unhide CI w5 _ _ _ _ _ (unhide OX)).mono ?_
  rintro e w6 ⟨ag6, cg6, rfl, ho, hb⟩
  replace K := hide ((hb.block w.heap.size (tr_lt (unhide K))).trans (unhide K))
  replace B := B.trans (hb.mono B.size)
  replace RW := hide (rb_ownsRow_below (unhide RW) hb)
  replace X := hide ((hb.block xb (tr_lt (unhide X))).trans (unhide X))
  replace OX := hide ((unhide OX).below hb)
  have RG := hide ho
  have GG := hide (show ∀ i, (Value.slice ag6 ln cg6).ownBlock = some i → w5.heap.size ≤ i from fun i hi => (ho.lt i hi).1)
  clear hb ho
  go_wp2_with fail
  refine (unhide CE w6 _ _ _ _ _ _ (unhide RG) (unhide RW)).mono ?_
  rintro e w7 ⟨rfl, hb⟩
  replace K := hide ((hb.block w.heap.size (tr_lt (unhide K))).trans (unhide K))
  replace B := B.trans (hb.mono B.size)
  replace RW := hide (rb_ownsRow_below (unhide RW) hb)
  replace X := hide ((hb.block xb (tr_lt (unhide X))).trans (unhide X))
  replace OX := hide ((unhide OX).below hb)
  replace RG := hide (rb_ownsRow_below (unhide RG) hb)
  clear hb hxb
  go_wp2_with fail
  have SK := hide (show ∀ u, Below w7.heap.size w7 u → (fun u => Below w7.heap.size w7 u ∧ u.cell? ⟨w.heap.size, 0, none⟩ = some (.slice ap np cp) ∧ u.cell? ⟨w.heap.size, 1, none⟩ = some (.slice ag ng cg) ∧ u.cell? ⟨w.heap.size, 2, none⟩ = some (.slice ai ni ci) ∧ u.cell? ⟨xb, 0, none⟩ = some (.slice (some ⟨x1, 0, none⟩) np np) ∧ u.cell? ⟨xb, 1, none⟩ = some (.slice (some ⟨x2, 0, none⟩) ng ng) ∧ u.cell? ⟨xb, 2, none⟩ = some (.slice (some ⟨x3, 0, none⟩) ni ni)) u from fun u hb => by
    obtain ⟨m0, m1, m2⟩ := tr_cells ((hb.block w.heap.size (tr_lt (unhide K))).trans (unhide K))
    obtain ⟨i0, i1, i2⟩ := tr_cells ((hb.block xb (tr_lt (unhide X))).trans (unhide X))
    exact ⟨hb, m0, m1, m2, i0, i1, i2⟩)
  have DT := hide (fun (u : World) (hb : Below w7.heap.size w7 u) => (unhide CT u (B.trans (hb.mono B.size))).mono fun e u' h => show ∃ g1 g2 g3 hs', e = .returned (.agg #[.slice (some ⟨g1, 0, none⟩) np np, .slice (some ⟨g2, 0, none⟩) ng ng, .slice (some ⟨g3, 0, none⟩) ni ni]) ∧ TrMade u' u.heap.size np ng ni g1 g2 g3 hs' hs gs idx ∧ Below w7.heap.size w7 u' by
    obtain ⟨g1, g2, g3, hs', e, o, b⟩ := h
    exact ⟨g1, g2, g3, hs', e, o, hb.trans (b.mono hb.size)⟩)
  have DQ := hide (fun (u : World) (hb : Below w7.heap.size w7 u) (B' h1 h2 h3 : Nat) (hs2 : List PpH) (o2 : TrMade u B' np ng ni h1 h2 h3 hs2 hs gs idx) => (unhide CQ u _ _ _ _ _ _ _ _ _ _ ((unhide OX).below hb) o2).mono fun e u' h => show e = .returned (.bool true) ∧ Below w7.heap.size w7 u' from ⟨h.1, hb.trans (h.2.mono hb.size)⟩)
  have G0 : Below w7.heap.size w7 w7.drew := (Below.refl _ _).drew
  go_region_held3 (fun u => Below w7.heap.size w7 u ∧ u.cell? ⟨w.heap.size, 0, none⟩ = some (.slice ap np cp) ∧ u.cell? ⟨w.heap.size, 1, none⟩ = some (.slice ag ng cg) ∧ u.cell? ⟨w.heap.size, 2, none⟩ = some (.slice ai ni ci) ∧ u.cell? ⟨xb, 0, none⟩ = some (.slice (some ⟨x1, 0, none⟩) np np) ∧ u.cell? ⟨xb, 1, none⟩ = some (.slice (some ⟨x2, 0, none⟩) ng ng) ∧ u.cell? ⟨xb, 2, none⟩ = some (.slice (some ⟨x3, 0, none⟩) ni ni)) (exact unhide SK _ (by assumption)) (first
    | (go_at_call 8; refine (unhide DT _ (by assumption)).mono ?_; rintro e w8 ⟨h1, h2, h3, hs8, rfl, o8, b8⟩; have H8 := hide o8; clear o8)
    | (go_at_call 10; refine (unhide DQ _ (by assumption) _ _ _ _ _ (unhide H8)).mono ?_; rintro e w9 ⟨rfl, hb⟩))
  clear b8 H8 G0 DT DQ SK CQ
  replace K := hide ((hb.block w.heap.size (tr_lt (unhide K))).trans (unhide K))
  replace B := B.trans (hb.mono B.size)
  replace RW := hide (rb_ownsRow_below (unhide RW) hb)
  replace X := hide ((hb.block xb (tr_lt (unhide X))).trans (unhide X))
  replace OX := hide ((unhide OX).below hb)
  replace RG := hide (rb_ownsRow_below (unhide RG) hb)
  clear hb
  obtain ⟨i0, i1, i2⟩ := tr_cells (unhide X)
  go_wp2_with fail
  refine (markTree_any _ np ng ni np ng ni 1 _ _ _ hs4 gs idx w9 (by omega) (unhide KF hs4 (unhide HX4)) (unhide OX).own).mono ?_
  rintro e w10 ⟨rfl, _, hw⟩
  replace K := hide ((hw.block w.heap.size (tr_lt (unhide K)) (fun h => by have := (unhide TB _ h).1; omega)).trans (unhide K))
  replace B := B.trans (WrB.below hw (fun i h => by have := (unhide TB _ h).1; omega) B.size)
  replace RW := hide (rr_owns_wr (unhide RW) hw (fun i hi h => by have := (unhide TB _ h).1; have := unhide LW _ hi; omega))
  replace RG := hide (rr_owns_wr (unhide RG) hw (fun i hi h => by have := (unhide TB _ h).2; have := unhide GG _ hi; omega))
  clear hw X OX HX4 i0 i1 i2 TB
  generalize trK 1 hs4 gs idx = kk at *
  go_wp2_with fail
  refine (unhide CE w10 _ _ _ _ _ _ (unhide RG) (unhide RW)).mono ?_
  rintro e w11 ⟨rfl, hb⟩
  replace K := hide ((hb.block w.heap.size (tr_lt (unhide K))).trans (unhide K))
  replace B := B.trans (hb.mono B.size)
  replace RW := hide (rb_ownsRow_below (unhide RW) hb)
  replace RG := hide (rb_ownsRow_below (unhide RG) hb)
  clear hb
  go_wp2_with fail
  refine (unhide CM w11 _ _ _ (unhide RG)).mono ?_
  rintro e w12 ⟨rfl, ho, hw⟩
  replace K := hide ((hw.block w.heap.size (tr_lt (unhide K)) (fun h => by have := unhide GG _ h; omega)).trans (unhide K))
  replace B := B.trans (WrB.below hw (fun i h => by have := unhide GG _ h; omega) B.size)
  replace RW := hide (rr_owns_wr (unhide RW) hw (fun i hi h => by have := unhide LW _ hi; have := unhide GG _ h; omega))
  replace RG := hide ho
  clear ho hw CM
  obtain ⟨mk, hmk⟩ : ∃ mk : Int, mk = ((1 + 2 * ln : Nat) : Int) := ⟨_, rfl⟩
  rw [← hmk] at CH ⊢
  have hmk0 : 0 ≤ mk := by omega
  have hmkf : ¬ mk < 0 := by omega
  clear hmk
  go_wp2_with fail
  refine (unhide CH w12 _ _ _ (unhide RG)).mono ?_
  rintro e w13 ⟨rfl, hb⟩
  replace K := hide ((hb.block w.heap.size (tr_lt (unhide K))).trans (unhide K))
  replace B := B.trans (hb.mono B.size)
  replace RW := hide (rb_ownsRow_below (unhide RW) hb)
  replace RG := hide (rb_ownsRow_below (unhide RG) hb)
  clear hb
  obtain ⟨p0, p1, p2⟩ := tr_cells (unhide K)
  go_wp2_with fail
  refine (unhide CT w13 B).mono ?_
  rintro e w14 ⟨y1, y2, y3, hs14, rfl, hoT, hb⟩
  replace K := hide ((hb.block w.heap.size (tr_lt (unhide K))).trans (unhide K))
  replace B := B.trans (hb.mono B.size)
  replace RW := hide (rb_ownsRow_below (unhide RW) hb)
  replace RG := hide (rb_ownsRow_below (unhide RG) hb)
  clear hb p0 p1 p2 CT
  go_wp2_with fail
  refine (unhide CI w14 _ _ _ _ _ hoT).mono ?_
  rintro e w15 ⟨ah, ch, rfl, ho, hb⟩
  replace K := hide ((hb.block w.heap.size (tr_lt (unhide K))).trans (unhide K))
  replace B := B.trans (hb.mono B.size)
  replace RW := hide (rb_ownsRow_below (unhide RW) hb)
  replace RG := hide (rb_ownsRow_below (unhide RG) hb)
  have RH := hide ho
  clear hb ho hoT CI
  go_wp2_with fail
  refine (unhide CE w15 _ _ _ _ _ _ (unhide RH) (unhide RW)).mono ?_
  rintro e w16 ⟨rfl, hb⟩
  replace K := hide ((hb.block w.heap.size (tr_lt (unhide K))).trans (unhide K))
  replace B := B.trans (hb.mono B.size)
  replace RW := hide (rb_ownsRow_below (unhide RW) hb)
  replace RG := hide (rb_ownsRow_below (unhide RG) hb)
  clear hb RH CE
  go_wp2_with fail
  refine (unhide CH w16 _ _ _ (unhide RG)).mono ?_
  rintro e w17 ⟨rfl, hb⟩
  replace K := hide ((hb.block w.heap.size (tr_lt (unhide K))).trans (unhide K))
  replace B := B.trans (hb.mono B.size)
  replace RW := hide (rb_ownsRow_below (unhide RW) hb)
  replace RG := hide (rb_ownsRow_below (unhide RG) hb)
  clear hb CH RG RW K
  go_wp2_with fail
  go_ret
  exact ⟨rfl, B⟩
end Go.Proofs.Ytdajoapbdeplhaa

namespace Go.Proofs.Ytdajoapbdeplhaa
open Go.RowKit Go.ChangeShapes Go.WideShapes

set_option maxRecDepth 100000 in
theorem open_entries {H : Type} {enc : TypeId × Value → H} {w : World} {base : Nat} {spare : Nat → Bool} {held : Bool} {v : Value} {fuel : Nat} {x : DataW H × List MemPlace}
    (h : DataW.trod enc Try.prog w base spare held fuel 84 [v] = some x) : ∃ a l c es, v = .slice a l c ∧ ERow w a l es ∧ l ≤ maxLen ∧ ∀ i (hi : i < es.length), es[i].k.size ≤ maxLen ∧ es[i].v.size ≤ maxLen := by
  rcases Deep.open_slice Try.underlying84 h with ⟨hcs, _⟩ | ⟨y, l, c, m, n, D, Pl, hcs, hb, hl, hm, hmm, _, hel⟩
  · simp at hcs
    subst hcs
    exact ⟨none, 0, 0, [], rfl, ⟨rfl, fun i hi => absurd hi (Nat.not_lt_zero _)⟩, by unfold maxLen; omega, fun i hi => absurd hi (Nat.not_lt_zero _)⟩
  simp at hcs
  subst hcs
  have hlm : l ≤ m := by rw [hmm]; split <;> omega
  have c2 : Try.prog.cellsOf 141 = 2 := by kernel_rfl
  rw [c2] at hel
  have one : ∀ i, i < l → ∃ d : EntD, (d.k.size ≤ maxLen ∧ d.v.size ≤ maxLen) ∧ ∃ b off, some y = some (⟨b, off, none⟩ : Addr) ∧ w.cell? ⟨b, off + i * 2, none⟩ = some (.string d.k) ∧ w.cell? ⟨b, off + i * 2 + 1, none⟩ = some (.string d.v) := by
    intro i hi
    obtain ⟨cs, hc, ht⟩ := hel i (by omega)
    obtain ⟨_, hlen, hcell⟩ := World.cells?_some hc
    obtain ⟨y0, y1, n', _, _, h0, h1⟩ := trod_struct2 Try.underlying141 ht
    obtain ⟨k0, e0, _, w0⟩ := DataW.trod_string Try.underlying9 h0
    obtain ⟨k1, e1, _, w1⟩ := DataW.trod_string Try.underlying9 h1
    match cs, hlen with
    | [v0, v1], _ =>
      have s0 : Try.prog.cellsOf 9 = 1 := by kernel_rfl
      have e0' : v0 = .string k0 := by simpa [s0] using e0
      have e1' : v1 = .string k1 := by simpa [s0] using e1
      subst e0' e1'
      have g0 := hcell 0 (by omega)
      have g1 := hcell 1 (by omega)
      rw [Deep.add_add] at g0 g1
      obtain ⟨b, off, spot⟩ := y
      have hs : spot = none := by
        by_cases hi0 : i = 0
        · have := World.cell?_spot (g0.trans rfl)
          simpa [Addr.add, hi0] using this
        · obtain ⟨cs', hc', ht'⟩ := hel 0 (by omega)
          obtain ⟨_, hlen', hcell'⟩ := World.cells?_some hc'
          have h0' := hcell' 0 (by omega)
          match cs', hlen' with
          | [u0, u1], _ =>
            have := World.cell?_spot (h0'.trans rfl)
            simpa [Addr.add] using this
      subst hs
      have e : ∀ j, (⟨b, off, none⟩ : Addr).add j = ⟨b, off + j, none⟩ := fun j => by unfold Addr.add; split <;> simp_all
      rw [e] at g0 g1
      exact ⟨⟨k0, k1⟩, ⟨w0, w1⟩, b, off, rfl, by simpa using g0, by simpa [Nat.add_assoc] using g1⟩
  have : ∀ i, ∃ d : EntD, i < l → (d.k.size ≤ maxLen ∧ d.v.size ≤ maxLen) ∧ ∃ b off, some y = some (⟨b, off, none⟩ : Addr) ∧ w.cell? ⟨b, off + i * 2, none⟩ = some (.string d.k) ∧ w.cell? ⟨b, off + i * 2 + 1, none⟩ = some (.string d.v) := fun i => by
    by_cases hi : i < l
    · obtain ⟨d, hd⟩ := one i hi
      exact ⟨d, fun _ => hd⟩
    · exact ⟨noE, fun h => absurd h hi⟩
  obtain ⟨F, hF⟩ := Classical.skolem.1 this
  refine ⟨some y, l, c, (List.range l).map F, rfl, ⟨by simp, fun i hi => ?_⟩, by omega, fun i hi => ?_⟩
  · have hi' : i < l := by simpa using hi
    simpa using (hF i hi').2
  · have hi' : i < l := by simpa using hi
    simpa using (hF i hi').1
set_option maxRecDepth 100000 in
theorem open_deltas {H : Type} {enc : TypeId × Value → H} {w : World} {base : Nat} {spare : Nat → Bool} {held : Bool} {v : Value} {fuel : Nat} {x : DataW H × List MemPlace}
    (h : DataW.trod enc Try.prog w base spare held fuel 85 [v] = some x) : ∃ a l c ds, v = .slice a l c ∧ DRow w a l ds ∧ l ≤ maxLen ∧ ∀ i (hi : i < ds.length), ds[i].k.size ≤ maxLen ∧ ds[i].v.size ≤ maxLen := by
  rcases Deep.open_slice Try.underlying85 h with ⟨hcs, _⟩ | ⟨y, l, c, m, n, D, Pl, hcs, hb, hl, hm, hmm, _, hel⟩
  · simp at hcs
    subst hcs
    exact ⟨none, 0, 0, [], rfl, ⟨rfl, fun i hi => absurd hi (Nat.not_lt_zero _)⟩, by unfold maxLen; omega, fun i hi => absurd hi (Nat.not_lt_zero _)⟩
  simp at hcs
  subst hcs
  have hlm : l ≤ m := by rw [hmm]; split <;> omega
  have c4 : Try.prog.cellsOf 143 = 4 := by kernel_rfl
  rw [c4] at hel
  have one : ∀ i, i < l → ∃ d : DelD, (d.k.size ≤ maxLen ∧ d.v.size ≤ maxLen) ∧ ∃ b off, some y = some (⟨b, off, none⟩ : Addr) ∧ w.cell? ⟨b, off + i * 4, none⟩ = some (.int .i64 d.kind) ∧ w.cell? ⟨b, off + i * 4 + 1, none⟩ = some (.string d.k) ∧
      w.cell? ⟨b, off + i * 4 + 2, none⟩ = some (.string d.v) ∧ w.cell? ⟨b, off + i * 4 + 3, none⟩ = some (.int .i64 d.to) := by
    intro i hi
    obtain ⟨cs, hc, ht⟩ := hel i (by omega)
    obtain ⟨_, hlen, hcell⟩ := World.cells?_some hc
    obtain ⟨y0, y1, y2, y3, n', _, _, h0, h1, h2, h3⟩ := Go.Joins.trod_struct4 Try.underlying143 ht
    obtain ⟨k0, e0, _, w0⟩ := DataW.trod_int Try.underlying3 h0
    obtain ⟨k1, e1, _, w1⟩ := DataW.trod_string Try.underlying9 h1
    obtain ⟨k2, e2, _, w2⟩ := DataW.trod_string Try.underlying9 h2
    obtain ⟨k3, e3, _, w3⟩ := DataW.trod_int Try.underlying3 h3
    match cs, hlen with
    | [v0, v1, v2, v3], _ =>
      have s0 : Try.prog.cellsOf 3 = 1 := by kernel_rfl
      have s3 : Try.prog.cellsOf 9 = 1 := by kernel_rfl
      have e0' : v0 = .int .i64 k0 := by simpa [s0] using e0
      have e1' : v1 = .string k1 := by simpa [s0, s3] using e1
      have e2' : v2 = .string k2 := by simpa [s0, s3] using e2
      have e3' : v3 = .int .i64 k3 := by simpa [s0, s3] using e3
      subst e0' e1' e2' e3'
      have g0 := hcell 0 (by omega)
      have g1 := hcell 1 (by omega)
      have g2 := hcell 2 (by omega)
      have g3 := hcell 3 (by omega)
      rw [Deep.add_add] at g0 g1 g2 g3
      obtain ⟨b, off, spot⟩ := y
      have hs : spot = none := by
        by_cases hi0 : i = 0
        · have := World.cell?_spot (g0.trans rfl)
          simpa [Addr.add, hi0] using this
        · obtain ⟨cs', hc', ht'⟩ := hel 0 (by omega)
          obtain ⟨_, hlen', hcell'⟩ := World.cells?_some hc'
          have h0' := hcell' 0 (by omega)
          match cs', hlen' with
          | [u0, u1, u2, u3], _ =>
            have := World.cell?_spot (h0'.trans rfl)
            simpa [Addr.add] using this
      subst hs
      have e : ∀ j, (⟨b, off, none⟩ : Addr).add j = ⟨b, off + j, none⟩ := fun j => by unfold Addr.add; split <;> simp_all
      rw [e] at g0 g1 g2 g3
      exact ⟨⟨k0, k1, k2, k3⟩, ⟨w1, w2⟩, b, off, rfl, by simpa using g0, by simpa [Nat.add_assoc] using g1, by simpa [Nat.add_assoc] using g2, by simpa [Nat.add_assoc] using g3⟩
  have : ∀ i, ∃ d : DelD, i < l → (d.k.size ≤ maxLen ∧ d.v.size ≤ maxLen) ∧ ∃ b off, some y = some (⟨b, off, none⟩ : Addr) ∧ w.cell? ⟨b, off + i * 4, none⟩ = some (.int .i64 d.kind) ∧ w.cell? ⟨b, off + i * 4 + 1, none⟩ = some (.string d.k) ∧
      w.cell? ⟨b, off + i * 4 + 2, none⟩ = some (.string d.v) ∧ w.cell? ⟨b, off + i * 4 + 3, none⟩ = some (.int .i64 d.to) := fun i => by
    by_cases hi : i < l
    · obtain ⟨d, hd⟩ := one i hi
      exact ⟨d, fun _ => hd⟩
    · exact ⟨noD, fun h => absurd h hi⟩
  obtain ⟨F, hF⟩ := Classical.skolem.1 this
  refine ⟨some y, l, c, (List.range l).map F, rfl, ⟨by simp, fun i hi => ?_⟩, by omega, fun i hi => ?_⟩
  · have hi' : i < l := by simpa using hi
    simpa using (hF i hi').2
  · have hi' : i < l := by simpa using hi
    simpa using (hF i hi').1
theorem array5 {α : Type} {cs : Array α} (h : cs.size = 5) : ∃ c0 c1 c2 c3 c4, cs = #[c0, c1, c2, c3, c4] := by
  obtain ⟨l⟩ := cs
  match l, h with
  | [c0, c1, c2, c3, c4], _ => exact ⟨c0, c1, c2, c3, c4, rfl⟩
theorem trod_struct5 {H : Type} {enc : TypeId × Value → H} {P : Program} {w : World} {base : Nat} {spare : Nat → Bool} {held : Bool} {t : TypeId} {f0 f1 f2 f3 f4 : Field} {fuel : Nat} {cs : List Value} {x : DataW H × List MemPlace} (ht : P.underlying t = some (.struct #[f0, f1, f2, f3, f4])) (h : DataW.trod enc P w base spare held fuel t cs = some x) :
    ∃ y0 y1 y2 y3 y4 n, cs.length = P.cellsOf t ∧ DataW.trod enc P w base spare held n f0.type ((cs.drop f0.offset).take (P.cellsOf f0.type)) = some y0 ∧
      DataW.trod enc P w base spare held n f1.type ((cs.drop f1.offset).take (P.cellsOf f1.type)) = some y1 ∧ DataW.trod enc P w base spare held n f2.type ((cs.drop f2.offset).take (P.cellsOf f2.type)) = some y2 ∧
      DataW.trod enc P w base spare held n f3.type ((cs.drop f3.offset).take (P.cellsOf f3.type)) = some y3 ∧ DataW.trod enc P w base spare held n f4.type ((cs.drop f4.offset).take (P.cellsOf f4.type)) = some y4 := by
  obtain ⟨xs, n, _, rfl, hl, hlen, hf⟩ := DataW.trod_struct ht h
  match xs, hlen with
  | [y0, y1, y2, y3, y4], _ => exact ⟨y0, y1, y2, y3, y4, n, hl, by simpa using hf 0 f0 rfl, by simpa using hf 1 f1 rfl, by simpa using hf 2 f2 rfl, by simpa using hf 3 f3 rfl, by simpa using hf 4 f4 rfl⟩
/-- Five cells that read as a page. -/
theorem open_page_cells {H : Type} {enc : TypeId × Value → H} {w : World} {base : Nat} {spare : Nat → Bool} {held : Bool} {v0 v1 v2 v3 v4 : Value} {fuel : Nat} {x : DataW H × List MemPlace}
    (h : DataW.trod enc Try.prog w base spare held fuel 87 [v0, v1, v2, v3, v4] = some x) : ∃ lo hi r ab nb cb es ac nc cc ds, v0 = .string lo ∧ v1 = .string hi ∧ v2 = .int .i64 r ∧ v3 = .slice ab nb cb ∧ v4 = .slice ac nc cc ∧ IsPage w lo hi ab nb es ac nc ds := by
  obtain ⟨y0, y1, y2, y3, y4, n, _, h0, h1, h2, h3, h4⟩ := trod_struct5 Try.underlying87 h
  have s0 : Try.prog.cellsOf 3 = 1 := by kernel_rfl
  have s1 : Try.prog.cellsOf 9 = 1 := by kernel_rfl
  have s2 : Try.prog.cellsOf 84 = 1 := by kernel_rfl
  have s3 : Try.prog.cellsOf 85 = 1 := by kernel_rfl
  obtain ⟨lo, e0, _, w0⟩ := DataW.trod_string Try.underlying9 h0
  obtain ⟨hi, e1, _, w1⟩ := DataW.trod_string Try.underlying9 h1
  obtain ⟨r, e2, _, w2⟩ := DataW.trod_int Try.underlying3 h2
  have h3' : DataW.trod enc Try.prog w base spare held n 84 [v3] = some y3 := by simpa [s2] using h3
  have h4' : DataW.trod enc Try.prog w base spare held n 85 [v4] = some y4 := by simpa [s3] using h4
  obtain ⟨ab, nb, cb, es, rfl, hE, hnb, hTE⟩ := open_entries h3'
  obtain ⟨ac, nc, cc, ds, rfl, hD, hnc, hTD⟩ := open_deltas h4'
  exact ⟨lo, hi, r, ab, nb, cb, es, ac, nc, cc, ds, by simpa [s1] using e0, by simpa [s1] using e1, by simpa [s0] using e2, rfl, rfl, hE, hD, w0, w1, hnb, hnc, hTE, hTD⟩
set_option maxRecDepth 100000 in
theorem open_page {H : Type} {enc : TypeId × Value → H} {w : World} {base : Nat} {spare : Nat → Bool} {held : Bool} {v : Value} {r0 : Reach} {b0 : Nat} {d : DataW H} {p : List MemPlace}
    (hv : Value.okWide Try.prog w r0 b0 87 v) (h : DataW.Trod enc Try.prog w base spare held 87 v d p) : ∃ lo hi r ab nb cb es ac nc cc ds, v = pgv lo hi r ab nb cb ac nc cc ∧ IsPage w lo hi ab nb es ac nc ds := by
  have hC : Try.prog.cellsOf 87 = 5 := by kernel_rfl
  obtain ⟨cs, rfl, hsz⟩ := okWide_struct Try.underlying87 hv
  obtain ⟨c0, c1, c2, c3, c4, rfl⟩ := array5 (hsz.trans hC)
  obtain ⟨fuel, hf⟩ := h
  obtain ⟨lo, hi, r, ab, nb, cb, es, ac, nc, cc, ds, rfl, rfl, rfl, rfl, rfl, hP⟩ := open_page_cells (v0 := c0) (v1 := c1) (v2 := c2) (v3 := c3) (v4 := c4) (by simpa [Value.cells] using hf)
  exact ⟨lo, hi, r, ab, nb, cb, es, ac, nc, cc, ds, rfl, hP⟩
end Go.Proofs.Ytdajoapbdeplhaa

namespace Go.Proofs.Ytdajoapbdeplhaa
open Go.RowKit Go.ChangeShapes Go.WideShapes

theorem open_byC {H : Type} {enc : TypeId × Value → H} {w : World} {base : Nat} {spare : Nat → Bool} {held : Bool} {v : Value} {fuel : Nat} {x : DataW H × List MemPlace}
    (h : DataW.trod enc Try.prog w base spare held fuel 117 [v] = some x) : ∃ (a : Option Addr) (l c : Nat) (xs : List Int), v = .slice a l c ∧ RowC w (.slice a l c) xs.length (xs.map (Value.int .u8)) ∧ l ≤ maxLen := by
  rcases open_ints Try.underlying117 Try.underlying5 (by kernel_rfl) h with ⟨hcs, _⟩ | ⟨y, l, c, zs, hcs, _, hl, hm, hz, _, hcell, hwz⟩
  · simp at hcs
    subst hcs
    exact ⟨none, 0, 0, [], rfl, ⟨none, 0, rfl, fun j u hu => by simp at hu⟩, by unfold maxLen; omega⟩
  · simp at hcs
    subst hcs
    have hlz : l ≤ zs.length := by rw [hz]; split <;> omega
    have hR : IsRow .u8 w (some y) l zs.length zs := .inr ⟨y, rfl, hlz, by rw [hz]; split <;> omega, rfl, hcell, hwz⟩
    obtain ⟨hr, hm2, _⟩ := row_of_isRow hR
    have hxl := hr.1
    refine ⟨some y, l, c, zs.take l, rfl, ⟨some y, c, by rw [hxl], fun j u hu => ?_⟩, hm2⟩
    have hj : j < (zs.take l).length := by simpa using (List.getElem?_eq_some_iff.1 hu).1
    obtain ⟨b, off, e, q⟩ := hr.2 j (by omega)
    refine ⟨b, off, e, ?_⟩
    rw [q, ← hu]
    rw [List.getElem?_map, List.getElem?_eq_getElem hj, List.getD_eq_getElem?_getD, List.getElem?_eq_getElem hj]
    rfl
theorem open_boC {H : Type} {enc : TypeId × Value → H} {w : World} {base : Nat} {held : Bool} {v : Value} {fuel : Nat} {x : DataW H × List MemPlace}
    (h : DataW.trod enc Try.prog w base (fun _ => true) held fuel 23 [v] = some x) : ∃ (a : Option Addr) (l c : Nat) (xs : List Bool), v = .slice a l c ∧ RowC w (.slice a l c) xs.length (xs.map Value.bool) ∧ l ≤ maxLen := by
  rcases Deep.open_bools Try.underlying23 Try.underlying4 (by kernel_rfl) h with ⟨hcs, _⟩ | ⟨y, l, c, B, hcs, _, hl, hm, _, hcell⟩
  · simp at hcs
    subst hcs
    exact ⟨none, 0, 0, [], rfl, ⟨none, 0, rfl, fun j u hu => by simp at hu⟩, by unfold maxLen; omega⟩
  · simp at hcs
    subst hcs
    refine ⟨some y, l, c, (List.range l).map B, rfl, ⟨some y, c, by simp, fun j u hu => ?_⟩, by omega⟩
    have hj : j < l := by simpa using (List.getElem?_eq_some_iff.1 hu).1
    obtain ⟨b, off, spot⟩ := y
    have hs : spot = none := by simpa [Addr.add] using World.cell?_spot (hcell 0 (by omega))
    subst hs
    have e : (⟨b, off, none⟩ : Addr).add j = ⟨b, off + j, none⟩ := by unfold Addr.add; split <;> simp_all
    have := hcell j (by omega)
    rw [e] at this
    exact ⟨b, off, rfl, by rw [this, ← hu]; simp [hj]⟩
end Go.Proofs.Ytdajoapbdeplhaa

namespace Go.Proofs.Ytdajoapbdeplhaa
open Go.RowKit Go.ChangeShapes Go.WideShapes

set_option maxRecDepth 100000 in
theorem open_jlist {H : Type} {enc : TypeId × Value → H} {w : World} {base : Nat} {spare : Nat → Bool} {held : Bool} {v : Value} {fuel : Nat} {x : DataW H × List MemPlace}
    (h : DataW.trod enc Try.prog w base spare held fuel 24 [v] = some x) : ∃ a l c ds, v = .slice a l c ∧ JRow w a l ds ∧ l ≤ maxLen ∧ ∀ i (hi : i < ds.length), ds[i].low.size ≤ maxLen := by
  rcases Deep.open_slice Try.underlying24 h with ⟨hcs, _⟩ | ⟨y, l, c, m, n, D, Pl, hcs, hb, hl, hm, hmm, _, hel⟩
  · simp at hcs
    subst hcs
    exact ⟨none, 0, 0, [], rfl, ⟨rfl, fun i hi => absurd hi (Nat.not_lt_zero _)⟩, by unfold maxLen; omega, fun i hi => absurd hi (Nat.not_lt_zero _)⟩
  simp at hcs
  subst hcs
  have hlm : l ≤ m := by rw [hmm]; split <;> omega
  have cN : Try.prog.cellsOf 89 = 2 := by kernel_rfl
  rw [cN] at hel
  have one : ∀ i, i < l → ∃ d : RefD, (d.low.size ≤ maxLen) ∧ ∃ b off, some y = some (⟨b, off, none⟩ : Addr) ∧ w.cell? ⟨b, off + i * 2, none⟩ = some (.string d.low) ∧ w.cell? ⟨b, off + i * 2 + 1, none⟩ = some (.int .i64 d.id) := by
    intro i hi
    obtain ⟨cs, hc, ht⟩ := hel i (by omega)
    obtain ⟨_, hlen, hcell⟩ := World.cells?_some hc
    obtain ⟨y0, y1, n', _, _, h0, h1⟩ := trod_struct2 Try.underlying89 ht
    obtain ⟨k0, e0, _, w0⟩ := DataW.trod_string Try.underlying9 h0
    obtain ⟨k1, e1, _, w1⟩ := DataW.trod_int Try.underlying3 h1
    match cs, hlen with
    | [v0, v1], _ =>
      have si : Try.prog.cellsOf 3 = 1 := by kernel_rfl
      have ss : Try.prog.cellsOf 9 = 1 := by kernel_rfl
      have e0' : v0 = .string k0 := by simpa [si, ss] using e0
      have e1' : v1 = .int .i64 k1 := by simpa [si, ss] using e1
      subst e0' e1'
      have g0 := hcell 0 (by omega)
      have g1 := hcell 1 (by omega)
      rw [Deep.add_add] at g0 g1
      obtain ⟨b, off, spot⟩ := y
      have hs : spot = none := by
        by_cases hi0 : i = 0
        · have := World.cell?_spot (g0.trans rfl)
          simpa [Addr.add, hi0] using this
        · obtain ⟨cs', hc', ht'⟩ := hel 0 (by omega)
          obtain ⟨_, hlen', hcell'⟩ := World.cells?_some hc'
          have h0' := hcell' 0 (by omega)
          match cs', hlen' with
          | [u0, u1], _ =>
            have := World.cell?_spot (h0'.trans rfl)
            simpa [Addr.add] using this
      subst hs
      have e : ∀ j, (⟨b, off, none⟩ : Addr).add j = ⟨b, off + j, none⟩ := fun j => by unfold Addr.add; split <;> simp_all
      rw [e] at g0 g1
      exact ⟨⟨k0, k1⟩, w0, b, off, rfl, by simpa using g0, by simpa [Nat.add_assoc] using g1⟩
  have : ∀ i, ∃ d : RefD, i < l → (d.low.size ≤ maxLen) ∧ ∃ b off, some y = some (⟨b, off, none⟩ : Addr) ∧ w.cell? ⟨b, off + i * 2, none⟩ = some (.string d.low) ∧ w.cell? ⟨b, off + i * 2 + 1, none⟩ = some (.int .i64 d.id) := fun i => by
    by_cases hi : i < l
    · obtain ⟨d, hd⟩ := one i hi
      exact ⟨d, fun _ => hd⟩
    · exact ⟨noJ, fun h => absurd h hi⟩
  obtain ⟨F, hF⟩ := Classical.skolem.1 this
  refine ⟨some y, l, c, (List.range l).map F, rfl, ⟨by simp, fun i hi => ?_⟩, by omega, fun i hi => ?_⟩
  · have hi' : i < l := by simpa using hi
    simpa using (hF i hi').2
  · have hi' : i < l := by simpa using hi
    simpa using (hF i hi').1
end Go.Proofs.Ytdajoapbdeplhaa

namespace Go.Proofs.Ytdajoapbdeplhaa
open Go.RowKit Go.ChangeShapes Go.WideShapes

set_option maxRecDepth 100000 in
theorem open_Pp {H : Type} {enc : TypeId × Value → H} {w : World} {base : Nat} {spare : Nat → Bool} {held : Bool} {v : Value} {fuel : Nat} {x : DataW H × List MemPlace}
    (h : DataW.trod enc Try.prog w base spare held fuel 22 [v] = some x) : ∃ (a : Option Addr) (l c : Nat) (hs : List PpH), v = .slice a l c ∧ PpIn w (.slice a l c) l hs ∧ l ≤ maxLen ∧ ∀ h ∈ hs, PpIs w h := by
  rcases Deep.open_slice Try.underlying22 h with ⟨hcs, _⟩ | ⟨y, l, c, m, n, D, Pl, hcs, hb, hl, hm, hmm, _, hel⟩
  · simp at hcs
    subst hcs
    exact ⟨none, 0, 0, [], rfl, ⟨⟨none, 0, rfl, fun j u hu => by simp at hu⟩, rfl, fun e he => by simp at he, fun e he => by simp at he⟩, by unfold maxLen; omega, fun h hh => by simp at hh⟩
  simp at hcs
  subst hcs
  have hlm : l ≤ m := by rw [hmm]; split <;> omega
  have cN : Try.prog.cellsOf 87 = 5 := by kernel_rfl
  rw [cN] at hel
  have one : ∀ i, i < l → ∃ d : PpH, PpIs w d ∧ ∃ b off, some y = some (⟨b, off, none⟩ : Addr) ∧ w.cell? ⟨b, off + i * 5, none⟩ = some (.string d.X.lo) ∧ w.cell? ⟨b, off + i * 5 + 1, none⟩ = some (.string d.X.hi) ∧ w.cell? ⟨b, off + i * 5 + 2, none⟩ = some (.int .i64 d.X.r) ∧ w.cell? ⟨b, off + i * 5 + 3, none⟩ = some (.slice d.s0.a d.s0.n d.s0.c) ∧ w.cell? ⟨b, off + i * 5 + 4, none⟩ = some (.slice d.s1.a d.s1.n d.s1.c) := by
    intro i hi
    obtain ⟨cs, hc, ht⟩ := hel i (by omega)
    obtain ⟨_, hlen, hcell⟩ := World.cells?_some hc
    match cs, hlen with
    | [v0, v1, v2, v3, v4], _ =>
      obtain ⟨lo, hi', r, ab, nb, cb, es, ac, nc, cc, ds, e0', e1', e2', q0, q1, hP⟩ := open_page_cells ht
      subst e0' e1' e2' q0 q1
      have u0 := hcell 0 (by omega)
      have u1 := hcell 1 (by omega)
      have u2 := hcell 2 (by omega)
      have u3 := hcell 3 (by omega)
      have u4 := hcell 4 (by omega)
      rw [Deep.add_add] at u0 u1 u2 u3 u4
      obtain ⟨b, off, spot⟩ := y
      have hs : spot = none := by
        by_cases hi0 : i = 0
        · have := World.cell?_spot (u0.trans rfl)
          simpa [Addr.add, hi0] using this
        · obtain ⟨cs', hc', ht'⟩ := hel 0 (by omega)
          obtain ⟨_, hlen', hcell'⟩ := World.cells?_some hc'
          have h0' := hcell' 0 (by omega)
          match cs', hlen' with
          | [w0, w1, w2, w3, w4], _ =>
            have := World.cell?_spot (h0'.trans rfl)
            simpa [Addr.add] using this
      subst hs
      have e : ∀ j, (⟨b, off, none⟩ : Addr).add j = ⟨b, off + j, none⟩ := fun j => by unfold Addr.add; split <;> simp_all
      rw [e] at u0 u1 u2 u3 u4
      exact ⟨⟨⟨lo, hi', r, es, ds⟩, ⟨ab, nb, cb⟩, ⟨ac, nc, cc⟩⟩, hP, b, off, rfl, by simpa using u0, by simpa [Nat.add_assoc] using u1, by simpa [Nat.add_assoc] using u2, by simpa [Nat.add_assoc] using u3, by simpa [Nat.add_assoc] using u4⟩
  have : ∀ i, ∃ d : PpH, i < l → PpIs w d ∧ ∃ b off, some y = some (⟨b, off, none⟩ : Addr) ∧ w.cell? ⟨b, off + i * 5, none⟩ = some (.string d.X.lo) ∧ w.cell? ⟨b, off + i * 5 + 1, none⟩ = some (.string d.X.hi) ∧ w.cell? ⟨b, off + i * 5 + 2, none⟩ = some (.int .i64 d.X.r) ∧ w.cell? ⟨b, off + i * 5 + 3, none⟩ = some (.slice d.s0.a d.s0.n d.s0.c) ∧ w.cell? ⟨b, off + i * 5 + 4, none⟩ = some (.slice d.s1.a d.s1.n d.s1.c) := fun i => by
    by_cases hi : i < l
    · obtain ⟨d, hd⟩ := one i hi
      exact ⟨d, fun _ => hd⟩
    · exact ⟨⟨⟨ByteArray.empty, ByteArray.empty, 0, [], []⟩, ⟨none, 0, 0⟩, ⟨none, 0, 0⟩⟩, fun h => absurd h hi⟩
  obtain ⟨F, hF⟩ := Classical.skolem.1 this
  refine ⟨some y, l, c, (List.range l).map F, rfl, ⟨⟨some y, c, rfl, fun j u hu => ?_⟩, by simp, ppEl_wid _, fun e he x hx => ?_⟩, by omega, fun h hh => ?_⟩
  · have hjl : j < l * 5 := by
      have h1 := (List.getElem?_eq_some_iff.1 hu).1
      rw [fm_len (S := 5) _ (ppEl_wid _)] at h1
      simpa using h1
    have hk : j / 5 < l := by omega
    have hat := ppEl_at (hs := (List.range l).map F) (k := j / 5) (by simpa using hk)
    have e1 := fm_at (S := 5) _ (ppEl_wid ((List.range l).map F)) (j / 5) (j % 5) _ hat (by omega)
    rw [show j / 5 * 5 + j % 5 = j by omega] at e1
    rw [e1] at hu
    obtain ⟨_, b, off, e2, c0, c1, c2, c3, c4⟩ := hF (j / 5) hk
    refine ⟨b, off, e2, ?_⟩
    simp only [List.getElem_map, List.getElem_range] at hu
    have hr : j % 5 < 5 := by omega
    have hj2 : j = j / 5 * 5 + j % 5 := by omega
    generalize j % 5 = r at *
    generalize j / 5 = k at *
    subst hj2
    unfold ppEl at hu
    match r, hr with
    | 0, _ => simp at hu; rw [← hu]; exact c0
    | 1, _ => simp at hu; rw [← hu, ← Nat.add_assoc]; exact c1
    | 2, _ => simp at hu; rw [← hu, ← Nat.add_assoc]; exact c2
    | 3, _ => simp at hu; rw [← hu, ← Nat.add_assoc]; exact c3
    | 4, _ => simp at hu; rw [← hu, ← Nat.add_assoc]; exact c4
  · obtain ⟨h, hh, rfl⟩ := List.mem_map.1 he
    obtain ⟨i, hi, rfl⟩ := List.mem_map.1 hh
    have hi' : i < l := by simpa using hi
    obtain ⟨hP, _⟩ := hF i hi'
    have r0 := rowC_ecs (c := (F i).s0.c) hP.1
    have r1 := rowC_dcs (c := (F i).s1.c) hP.2.1
    unfold ppEl at hx
    simp only [List.mem_cons, List.not_mem_nil, or_false] at hx
    rcases hx with rfl | rfl
    · exact r0
    · exact r1
  · obtain ⟨i, hi, rfl⟩ := List.mem_map.1 hh
    exact (hF i (by simpa using hi)).1
set_option maxRecDepth 100000 in
theorem open_tree {H : Type} {enc : TypeId × Value → H} {w : World} {base : Nat} {held : Bool} {v : Value} {r0 : Reach} {b0 : Nat} {dd : DataW H} {p : List MemPlace}
    (hv : Value.okWide Try.prog w r0 b0 26 v) (h : DataW.Trod enc Try.prog w base (fun _ => true) held 26 v dd p) : ∃ ap np cp ag ng cg ai ni ci hs gs idx, v = .agg #[.slice ap np cp, .slice ag ng cg, .slice ai ni ci] ∧ TrIn w ap np cp ag ng cg ai ni hs gs idx ∧ TrCame w hs idx ∧ (np ≤ maxLen ∧ ng ≤ maxLen ∧ ni ≤ maxLen) := by
  have hC : Try.prog.cellsOf 26 = 3 := by kernel_rfl
  obtain ⟨cs, rfl, hsz⟩ := okWide_struct Try.underlying26 hv
  obtain ⟨fuel, hf⟩ := h
  obtain ⟨c0, c1, c2, rfl⟩ : ∃ c0 c1 c2, cs = #[c0, c1, c2] := by
    have := hsz.trans hC
    obtain ⟨l⟩ := cs
    match l, this with
    | [c0, c1, c2], _ => exact ⟨c0, c1, c2, rfl⟩
  have hf' : DataW.trod enc Try.prog w base (fun _ => true) held fuel 26 [c0, c1, c2] = some (dd, p) := by simpa [Value.cells] using hf
  obtain ⟨y0, y1, y2, n', _, _, h0, h1, h2⟩ := Go.Deep.trod_struct3 Try.underlying26 hf'
  have s0 : Try.prog.cellsOf 22 = 1 := by kernel_rfl
  have s1 : Try.prog.cellsOf 23 = 1 := by kernel_rfl
  have s2 : Try.prog.cellsOf 24 = 1 := by kernel_rfl
  have h0' : DataW.trod enc Try.prog w base (fun _ => true) held n' 22 [c0] = some y0 := by simpa [s0] using h0
  have h1' : DataW.trod enc Try.prog w base (fun _ => true) held n' 23 [c1] = some y1 := by simpa [s1] using h1
  have h2' : DataW.trod enc Try.prog w base (fun _ => true) held n' 24 [c2] = some y2 := by simpa [s2] using h2
  obtain ⟨ap, np, cp, hs, e0, hP, hPn, hPs⟩ := open_Pp h0'
  obtain ⟨ag, ng, cg, gs, e1, hG, hGn⟩ := open_boC h1'
  obtain ⟨ai, ni, ci, idx, e2, hI, hIn, hIl⟩ := open_jlist h2'
  subst e0 e1 e2
  have hgl := rowC_len hG
  exact ⟨ap, np, cp, ag, ng, cg, ai, ni, ci, hs, gs, idx, rfl, ⟨hP, by rw [hgl] at hG ⊢; exact hG, hgl.symm, hI⟩, ⟨hPs, hIl⟩, hPn, hGn, hIn⟩
end Go.Proofs.Ytdajoapbdeplhaa

namespace Go.Proofs.Ytdajoapbdeplhaa.fnExactTreeScanFrame
open Go.ChangeShapes Go.WideShapes Go.ChangeAt Go.RowKit
open Go.ChangeMaps (open_string shut_string)
set_option linter.unusedVariables false

theorem own : ownKnob Try.prog.godebug = none := by kernel_rfl
theorem laidOut : laidOutB Try.prog = true := by kernel_rfl

set_option maxRecDepth 100000 in
theorem lifted (os : Os) (started : os.Started) (H : Type) (enc : TypeId × Value → H) :
    ReturnsInHanded {} Try.checked os 5 .any (Rows.fnExactTreeScanSpec.pre6 enc Try.prog Try.f5 Rows.fnExactTreeScanRow.domain false) (Rows.fnExactTreeScanSpec.post enc Try.prog Try.f5 false true false false) := by
  refine returnsInHanded_of_change (C := Try.checked) own started (by kernel_rfl) Try.func5
    (ChangeSpec.witness6 (enc := enc) (C := Try.checked) false ⟨#[], #[.agg #[.slice none 0 0, .slice none 0 0, .slice none 0 0], .string ByteArray.empty, .string ByteArray.empty], []⟩ 8 (by kernel_rfl) (by kernel_rfl) (by kernel_rfl) (by kernel_rfl)) ?_
  intro W base args ds gs before hval0 hW _ _
  have hval : ∀ (j : Nat) t v, Try.f5.params[j]? = some t → args[j]? = some v → Value.okWide Try.prog W .any base t v := hval0
  have hW' := hW
  obtain ⟨p, q, hA0, hV, rfl, _, _⟩ := hW
  have hA : DataW.TrodAll enc Try.prog W 0 (fun _ => true) true Try.f5.params.toList args.toList ds p := hA0
  rw [Try.params5] at hA hval
  obtain ⟨v0, vs0, d0, ds0, p0, q0, hargs, rfl, rfl, h0, r0⟩ := trodAll_cons hA
  obtain ⟨v1, vs1, d1, ds1, p1, q1, rfl, rfl, rfl, h1, r1⟩ := trodAll_cons r0
  obtain ⟨v2, vs2, d2, ds2, p2, q2, rfl, rfl, rfl, h2, r2⟩ := trodAll_cons r1
  obtain ⟨rfl, rfl, rfl⟩ := trodAll_nil r2
  obtain rfl : args = #[v0, v1, v2] := by cases args; simp_all
  obtain ⟨rfl, rfl⟩ := trodVars_none hV
  have k0 := h0
  have lt0 : ∀ x ∈ p0, x.block < W.heap.size := by obtain ⟨m, hm⟩ := k0; exact DataW.trod_lt m _ _ _ hm
  have k1 := h1
  have lt1 : ∀ x ∈ p1, x.block < W.heap.size := by obtain ⟨m, hm⟩ := k1; exact DataW.trod_lt m _ _ _ hm
  have k2 := h2
  have lt2 : ∀ x ∈ p2, x.block < W.heap.size := by obtain ⟨m, hm⟩ := k2; exact DataW.trod_lt m _ _ _ hm
  obtain ⟨tap0, tnp0, tcp0, tag0, tng0, tcg0, tai0, tni0, tci0, ths0, tgs0, tidx0, rfl, w0, wi0, wn0⟩ := open_tree (hval 0 26 v0 rfl rfl) h0
  obtain ⟨x1, rfl, rfl, rfl, w1⟩ := open_string Try.underlying9 (hval 1 9 v1 rfl rfl) h1
  obtain ⟨x2, rfl, rfl, rfl, w2⟩ := open_string Try.underlying9 (hval 2 9 v2 rfl rfl) h2
  clear hA0 hval0
  refine (lawTreeScan_any tap0 tnp0 tcp0 tag0 tng0 tcg0 tai0 tni0 tci0 ths0 tgs0 tidx0 x1 x2 W w0 wi0 wn0 w1 w2).mono fun e W' ⟨he, bel⟩ => ?_
  subst he
  exact ⟨_, rfl, _, _, _, [], _, [], hW', trodAll_mk1 (shut_bool Try.underlying4 _), (trodAll_cons_mk (Below.trod laidOut (by kernel_rfl) (of_decide_eq_true (by kernel_rfl)) k0 bel lt0) (trodAll_cons_mk (Below.trod laidOut (by kernel_rfl) (of_decide_eq_true (by kernel_rfl)) k1 bel lt1) (trodAll_cons_mk (Below.trod laidOut (by kernel_rfl) (of_decide_eq_true (by kernel_rfl)) k2 bel lt2) trodAll_mk0))), rfl, bel.frame _, fun h => by cases h⟩

theorem over : Rows.fnExactTreeScanRow.holds Try.pinned (OpenSpec.ofChange Rows.fnExactTreeScanSpec) :=
  OpenClaim.holds_of_wide 5 Try.f5 rfl rfl rfl rfl rfl rfl rfl ⟨rfl, rfl, rfl, rfl, rfl⟩ rfl rfl rfl rfl rfl (by kernel_rfl) Try.func5 (by kernel_rfl)
    (of_decide_eq_true (by kernel_rfl)) (by unfold Func.isWrapper; first | (rw [if_pos (by decide +kernel)]; kernel_rfl) | (rw [if_neg (by decide +kernel)]; exact ⟨rfl, rfl⟩))
    (fun os started H enc _ => lifted os started H enc)

end Go.Proofs.Ytdajoapbdeplhaa.fnExactTreeScanFrame
namespace Go.Proofs.Ytdajoapbdeplhaa
/-- THE STATEMENT. -/
theorem fnExactTreeScan_proved : Rows.FnExactTreeScanSaid := fnExactTreeScanFrame.over
#print axioms fnExactTreeScan_proved
end Go.Proofs.Ytdajoapbdeplhaa
