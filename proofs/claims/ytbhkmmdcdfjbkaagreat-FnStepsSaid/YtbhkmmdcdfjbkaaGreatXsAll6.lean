/-
  UsK, TsS, XtB, XsA, XsB, XsT, FdS, XtS, Src, SrcN, SrcM, FdD, FdE, SrcZ, XtD, XtP, GdI, SmI, TgI, MtF, XtK, At in one.
-/
import Derived.Test.YtbhkmmdcdfjbkaaGreatXsAll5
import Derived.Test.YtbhkmmdcdfjbkaaGreatXsAll2
import Derived.Test.YtbhkmmdcdfjbkaaGreatXsAll4
import Derived.Test.YtbhkmmdcdfjbkaaGreatXsAll1
import Derived.Test.YtbhkmmdcdfjbkaaGreatPageM
import Derived.Test.YtbhkmmdcdfjbkaaGreatOwn
import Derived.Laws.StructEq
import Derived.Deep.DeepCutAuto
import Derived.Test.YtbhkmmdcdfjbkaaGreatMtE
import Derived.Deep.RegionWith
import Derived.Laws.Concat
import Derived.Test.YtbhkmmdcdfjbkaaGreatGdA
namespace Go.Proofs.YtbhkmmdcdfjbkaaGreat
open Go.RowKit

/-- A tree and codes, each in rows of its own. -/
structure TrRun (w : World) (B np ng ni nc : Nat) (a1 : Option Addr) (c1 : Nat) (a2 : Option Addr) (c2 : Nat) (a3 : Option Addr) (c3 : Nat) (ac : Option Addr) (cc : Nat) (hs : List PpH) (gs : List Bool) (idx : List RefD) (cs : List Int) : Prop where
  tr : TrOwn w B np ng (.slice a1 np c1) (.slice a2 ng c2) (.slice a3 ni c3) hs gs idx
  cod : w.ownsRow B 3 1 (.slice ac nc cc) nc (cs.map (Value.int .i64))
def TrRBl (vp vg vi vc : Value) (hs : List PpH) (i : Nat) : Prop := TrBl vp vg vi hs i ∨ vc.ownBlock = some i
theorem TrRun.lt {w : World} {B np ng ni nc c1 c2 c3 cc : Nat} {a1 a2 a3 ac : Option Addr} {hs : List PpH} {gs : List Bool} {idx : List RefD} {cs : List Int} (h : TrRun w B np ng ni nc a1 c1 a2 c2 a3 c3 ac cc hs gs idx cs) (i : Nat) (hi : TrRBl (.slice a1 np c1) (.slice a2 ng c2) (.slice a3 ni c3) (.slice ac nc cc) hs i) : B ≤ i ∧ i < w.heap.size := by
  rcases hi with (hi | hi | hi) | hi
  · exact h.tr.pg.lt i hi
  · exact h.tr.go.lt i hi
  · exact h.tr.ix.lt i hi
  · exact h.cod.lt i hi
theorem TrRun.wr {P : Nat → Prop} {w w' : World} {B np ng ni nc c1 c2 c3 cc : Nat} {a1 a2 a3 ac : Option Addr} {hs : List PpH} {gs : List Bool} {idx : List RefD} {cs : List Int} (h : TrRun w B np ng ni nc a1 c1 a2 c2 a3 c3 ac cc hs gs idx cs) (hw : WrB P w w') (hp : ∀ i, TrRBl (.slice a1 np c1) (.slice a2 ng c2) (.slice a3 ni c3) (.slice ac nc cc) hs i → ¬ P i) : TrRun w' B np ng ni nc a1 c1 a2 c2 a3 c3 ac cc hs gs idx cs :=
  ⟨⟨h.tr.pg.keep hw (fun i hi => hp i (.inl (.inl hi))), rr_owns_wr h.tr.go hw (fun i hi => hp i (.inl (.inr (.inl hi)))), rr_owns_wr h.tr.ix hw (fun i hi => hp i (.inl (.inr (.inr hi))))⟩, rr_owns_wr h.cod hw (fun i hi => hp i (.inr hi))⟩
theorem TrRun.below {w w' : World} {B np ng ni nc c1 c2 c3 cc : Nat} {a1 a2 a3 ac : Option Addr} {hs : List PpH} {gs : List Bool} {idx : List RefD} {cs : List Int} (h : TrRun w B np ng ni nc a1 c1 a2 c2 a3 c3 ac cc hs gs idx cs) (hb : Below w.heap.size w w') : TrRun w' B np ng ni nc a1 c1 a2 c2 a3 c3 ac cc hs gs idx cs := ⟨h.tr.below hb, rb_ownsRow_below h.cod hb⟩
/-- What TreeRun gives, in these words. -/
theorem rt_con {acts : List AcT} {W W' : World} {e : Ending} (h : RtRes acts W e W') : ∃ a1 c1 a2 c2 a3 c3 ac cc hs, e = .returned (.tuple #[.agg #[.slice a1 (rtT acts).ps.length c1, .slice a2 (rtT acts).gone.length c2, .slice a3 (rtT acts).idx.length c3], .slice ac (rtN acts).length cc, .int .i64 (rtC acts)]) ∧ TrRun W' W.heap.size (rtT acts).ps.length (rtT acts).gone.length (rtT acts).idx.length (rtN acts).length a1 c1 a2 c2 a3 c3 ac cc hs (rtT acts).gone (rtT acts).idx (rtN acts) ∧ hs.map (·.X) = (rtT acts).ps ∧ Below W.heap.size W W' := by
  obtain ⟨a1, n1, c1, a2, n2, c2, a3, n3, c3, ac, nc, cc, hs, gs, idx, rfl, ho, hn, ht, hb⟩ := h
  unfold trd at ht
  rw [← ht]
  simp only
  have e1 : hs.length = n1 := by have := ho.pg.len; simpa using this
  have e2 : gs.length = n2 := by have := ho.go.1; simpa using this
  have e3 : idx.length = n3 := by
    obtain ⟨a, c, e⟩ := us_sl ho.ix
    injection e with _ e _
    exact e.symm
  have e4 : (rtN acts).length = nc := by
    obtain ⟨a, c, e⟩ := us_sl hn
    injection e with _ e _
    exact e.symm
  subst e1 e2 e3 e4
  rw [List.length_map]
  exact ⟨a1, c1, a2, c2, a3, c3, ac, cc, hs, rfl, ⟨ho, hn⟩, rfl, hb⟩
end Go.Proofs.YtbhkmmdcdfjbkaaGreat

namespace Go.Proofs.YtbhkmmdcdfjbkaaGreat
open Go.RowKit

theorem filter_tt (l : List EntD) : l.filter (fun _ => true) = l := by simp
set_option maxRecDepth 100000 in
set_option maxHeartbeats 8000000 in
theorem l05Entries_any (ap : Option Addr) (np cp : Nat) (ag : Option Addr) (ng cg : Nat) (ai : Option Addr) (ni ci : Nat) (hs : List PpH) (gs : List Bool) (idx : List RefD) (w : World) (hT : TrIn w ap np cp ag ng cg ai ni hs gs idx) (hG : GoodT (trd hs gs idx).here idx) (hc : ∀ h ∈ hs, h.s0.n ≤ 100 ∧ h.s1.n ≤ 100) (hcb : ∀ h ∈ hs, h.s0.a = none → h.s0.c = 0) :
    Calls Tryz.prog 38 #[.agg #[.slice ap np cp, .slice ag ng cg, .slice ai ni ci]] w fun e w' => ∃ a n c, e = .returned (.slice a n c) ∧ EOwns w' w.heap.size (.slice a n c) (treeE (trd hs gs idx).here) ∧ Below w.heap.size w w' ∧ (treeE (trd hs gs idx).here).length ≤ 960 := by
  have b0 : ∀ o, Below w.heap.size w (w.alloc o) := fun o => (Below.refl _ _).alloc (Nat.le_refl _) _
  have lp := hT.plen
  have BW := hide (b0 (.cells #[.slice ap np cp, .slice ag ng cg, .slice ai ni ci] 29))
  have T := hide (hT.below (unhide BW))
  have BT := hide (show ∀ u, Below (w.alloc (.cells #[.slice ap np cp, .slice ag ng cg, .slice ai ni ci] 29)).heap.size (w.alloc (.cells #[.slice ap np cp, .slice ag ng cg, .slice ai ni ci] 29)) u → Below w.heap.size w u from fun u hu => (unhide BW).trans (hu.mono (unhide BW).size))
  have t0 : (w.alloc (.cells #[.slice ap np cp, .slice ag ng cg, .slice ai ni ci] 29)).cell? ⟨w.heap.size, 0, none⟩ = some (.slice ap np cp) := by simp
  have G := hide hG
  have CH := hide hc
  have CB := hide hcb
  obtain ⟨h0, hl0, hid0⟩ := hG.zero
  obtain ⟨p0, hg0, _⟩ := GoodT.ref hG.ix h0
  rw [hid0] at hg0
  have S0 := hide (ScSt.start (f := fun _ => true) hg0)
  rw [filter_tt] at S0
  change Hid (ScSt _ _ (treeE _) _ _ _) at S0
  have zW : w.heap.size ≤ (w.alloc (.cells #[.slice ap np cp, .slice ag ng cg, .slice ai ni ci] 29)).heap.size := (unhide BW).size
  clear hT BW hG hc hcb hg0 hl0 hid0
  generalize treeE (trd hs gs idx).here = ALL at *
  go_enter Tryz.func38, Tryz.ntmps38
  go_wp2_with fail
  have zE := hide (show (w.alloc (.cells #[.slice ap np cp, .slice ag ng cg, .slice ai ni ci] 29)).heap.size = w.heap.size + 1 by simp)
  generalize w.alloc (.cells #[.slice ap np cp, .slice ag ng cg, .slice ai ni ci] 29) = W at *
  have OA := hide (show EOwns (W.alloc (.cells #[] 41)) W.heap.size (.slice (some ⟨w.heap.size + 1, 0, none⟩) 0 0) [] from Eq.subst (motive := fun g => EOwns (W.alloc (.cells #[] 41)) W.heap.size (.slice (some ⟨g, 0, none⟩) 0 0) []) (unhide zE) (nil_lit (w := W) 41 2))
  have bL : Below W.heap.size W (W.alloc (.cells #[] 41)) := (Below.refl _ _).alloc (Nat.le_refl _) _
  go_loopw [3, 4] (fun lv iv wr => ∃ (id : Int) (c : Nat) (acc : List EntD) (a : Option Addr) (n k : Nat), lv = .slice a n k ∧ iv = .int .i64 id ∧ Hid (EOwns wr W.heap.size (.slice a n k) acc) ∧ Hid (ScSt (trd hs gs idx).here (fun _ => true) ALL acc id c) ∧ Below W.heap.size W wr) (fun _ iv _ => szId (trd hs gs idx).here (intOf iv))
  case atStart => exact ⟨0, 0, [], _, _, _, rfl, rfl, OA, S0, bL⟩
  case round =>
    clear bL OA S0
    obtain ⟨id, c, acc, aL, nL, kL, rfl, rfl, hO, hS, hb⟩ := hrel
    by_cases hneg : id < 0
    · have E := hide (show EOwns wr w.heap.size (.slice aL nL kL) ALL ∧ ALL.length ≤ 960 by
        have h := unhide hS
        rw [h.neg hneg] at h
        rw [h.done]
        exact ⟨gd_base (unhide hO) zW, h.room⟩)
      clear hS hO
      go_wp2_with fail
      go_ret
      exact ⟨_, _, _, rfl, (unhide E).1, unhide BT _ hb, (unhide E).2⟩
    obtain ⟨p, hg⟩ := (unhide hS).pos (by omega)
    obtain ⟨q, hq1, rfl, hX⟩ := here_some hg
    have s0 := (hb.cell (p := ⟨w.heap.size, 0, none⟩) (cell_lt t0)).trans t0
    obtain ⟨b, off, hap, hbl, d0, d1, d2, d3, d4⟩ := PpIn.cells ((unhide T).below hb).pgs hq1
    subst hap
    have hqn : q < np := by omega
    rw [← hX] at hg
    have hokp : okP hs[q].X = true := (unhide G).ok _ (getP_mem hg)
    have NX := hide ((unhide hS).next (unhide G) hg)
    have MS := hide (szId_next (unhide G) hg)
    have ROOM := hide (unhide hS).room
    have PL := hide (enP_len hokp)
    have HE := hide (l04Entries_any hs[q].X.lo hs[q].X.hi hs[q].X.r hs[q].s0.a hs[q].s0.n hs[q].s0.c hs[q].X.es hs[q].s1.a hs[q].s1.n hs[q].s1.c hs[q].X.ds wr (erow_C (PpIn.sub ((unhide T).below hb).pgs hq1).1) (drow_C (PpIn.sub ((unhide T).below hb).pgs hq1).2) (unhide CH _ (List.getElem_mem hq1)).1 (unhide CH _ (List.getElem_mem hq1)).2 (unhide CB _ (List.getElem_mem hq1)))
    have HB := hide (fun (u : World) (hu : Below W.heap.size W u) => l04Bounds_any hs[q].X.lo hs[q].X.hi hs[q].X.r (.slice hs[q].s0.a hs[q].s0.n hs[q].s0.c) hs[q].s1.a hs[q].s1.n hs[q].s1.c hs[q].X.ds u (drow_C (PpIn.sub ((unhide T).below hu).pgs hq1).2) (by have := (unhide CH _ (List.getElem_mem hq1)).2; omega))
    have PC := hide (fun (u : World) (hu : Below W.heap.size W u) => PpIn.cells ((unhide T).below hu).pgs hq1)
    rw [filter_tt] at NX
    clear hS hg hX hokp
    generalize hs[q] = pd at *
    obtain ⟨X, ⟨a0, n0, c0⟩, ⟨a1, n1, c1⟩⟩ := pd
    unfold pgv at HE
    simp only at d0 d1 d2 d3 d4 HE HB PC
    change Hid (ScSt _ _ _ (acc ++ entsE X.es X.ds) (rightE X.r X.ds) _ ∧ _) at NX
    change Hid (szId _ (rightE X.r X.ds) < _) at MS
    change Hid ((entsE X.es X.ds).length ≤ 32) at PL
    generalize entsE X.es X.ds = ES at *
    generalize rightE X.r X.ds = R at *
    generalize highE X.hi X.ds = HH at *
    go_wp2_with fail
    refine (unhide HE).mono ?_
    rintro e w2 ⟨gE, kE, rfl, hOE, hb2⟩
    obtain ⟨v3, w3, hr, ho, hgr, hnn⟩ := run_appE (c := kE) 36 (show EOwns w2 W.heap.size (.slice aL nL kL) acc from rb_ownsRow_below (unhide hO) hb2) (erow_of_owns hOE) (by have := unhide ROOM; omega) (by have := unhide PL; omega) (fun h => by cases h) (Nat.le_trans hb.size hb2.size)
    have b2 := hb.trans (hb2.mono hb.size)
    have b3 : Below W.heap.size W w3 := b2.trans ((Below.refl _ _).grown hgr b2.size (fun k hk => ((rb_ownsRow_below (unhide hO) hb2).lt k hk).1))
    obtain ⟨aV, cV, hV, _⟩ := eowns_slice ho
    have O3 := hide ho
    clear hO hOE hb2 hgr hnn d0 d1 d2 d3 d4 s0 HE ho
    subst hV
    generalize (acc ++ ES).length = nV at *
    have s0 := (b3.cell (p := ⟨w.heap.size, 0, none⟩) (cell_lt t0)).trans t0
    obtain ⟨b', off', hap', hbl', d0, d1, d2, d3, d4⟩ := unhide PC w3 b3
    injection hap' with hap'
    injection hap' with e1 e2 _
    subst e1 e2
    have HB3 := hide (unhide HB w3 b3)
    have BK := hide b3
    clear PC HB b2 b3 hb
    go_wp2_with (at_builtin; refine wpAppE rfl _ _ 36 rfl _ _ (.slice aV nV cV) w3 rfl rfl hr ?_)
    refine (unhide HB3).mono ?_
    rintro e w4 ⟨rfl, hb4⟩
    have O4 := hide (rb_ownsRow_below (unhide O3) hb4)
    have B4 := hide ((unhide BK).trans (hb4.mono (unhide BK).size))
    clear O3 BK hb4 d0 d1 d2 d3 d4 s0 hr HB3
    go_wp2_with fail
    go_roundw
    case rel => exact ⟨R, c + 1, _, aV, nV, cV, rfl, rfl, O4, (unhide NX).1, unhide B4⟩
    case measure => simp only [intOf]; exact unhide MS
theorem inK_parts (fr tu k : ByteArray) : inK fr tu k = (!ltK k fr && underK k tu) := rfl
set_option maxRecDepth 100000 in
set_option maxHeartbeats 8000000 in
theorem l05Range_any (a : Option Addr) (n c : Nat) (es : List EntD) (fr tu : ByteArray) (w : World) (hR : ERow w a n es) (hn : n ≤ 1000) :
    Calls Tryz.prog 37 #[.slice a n c, .string fr, .string tu] w fun e w' => ∃ a n c, e = .returned (.slice a n c) ∧ EOwns w' w.heap.size (.slice a n c) (es.filter (fun e => inK fr tu e.k)) ∧ Below w.heap.size w w' := by
  have R := hide hR
  have L := hide hR.1
  clear hR
  have OA := hide (nil_lit (w := w) 41 2)
  have bL : Below w.heap.size w (w.alloc (.cells #[] 41)) := (Below.refl _ _).alloc (Nat.le_refl _) _
  go_enter Tryz.func37, Tryz.ntmps37
  go_wp2_with fail
  go_loopw [7, 8] (fun lv iv wr => ∃ (j : Nat) (a : Option Addr) (m k : Nat), j ≤ n ∧ lv = .slice a m k ∧ iv = .int .i64 (j : Int) ∧ Hid (EOwns wr w.heap.size (.slice a m k) ((es.take j).filter (fun e => inK fr tu e.k))) ∧ Below w.heap.size w wr) (fun _ iv _ => n - (intOf iv).toNat)
  case atStart => exact ⟨0, _, _, _, Nat.zero_le _, rfl, rfl, OA, bL⟩
  case round =>
    clear bL OA
    obtain ⟨j, aJ, nJ, kJ, hj, rfl, rfl, hO, hb⟩ := hrel
    by_cases hlt : j < n
    case neg =>
      obtain rfl : j = n := by omega
      have E := hide (show EOwns wr w.heap.size (.slice aJ nJ kJ) (es.filter (fun e => inK fr tu e.k)) by
        have h := unhide hO
        rw [List.take_of_length_le (by rw [unhide L]; exact Nat.le_refl _)] at h
        exact h)
      clear hO
      go_wp2_with fail
      go_ret
      exact ⟨_, _, _, rfl, unhide E, hb⟩
    have hjE : j < es.length := by rw [unhide L]; exact hlt
    obtain ⟨bE, oE, haE, d0, d1⟩ := ((unhide R).below hb).2 j hjE
    subst haE
    have HU := hide (fun u => l04Under_any es[j].k tu u)
    have FY := hide (fun h => filt_yes (f := fun e => inK fr tu e.k) hjE h)
    have FN := hide (fun h => filt_no (f := fun e => inK fr tu e.k) hjE h)
    generalize hej : es[j] = ej at *
    obtain ⟨ek, ev⟩ := ej
    simp only at d0 d1 HU FY FN
    cases h1 : Op.bytesLess ek.toList fr.toList with
    | true =>
      have K := hide (show EOwns wr w.heap.size (.slice aJ nJ kJ) ((es.take (j + 1)).filter (fun e => inK fr tu e.k)) by
        rw [unhide FN (by rw [inK_parts]; unfold ltK; rw [h1]; rfl)]
        exact unhide hO)
      clear hO hej
      go_wp2_with fail
      go_roundw
      case rel => exact ⟨j + 1, aJ, nJ, kJ, by omega, rfl, by go_num, K, hb⟩
      case measure => simp [intOf]; omega
    | false =>
      cases h2 : underK ek tu with
      | false =>
        rw [h2] at HU
        have K := hide (show EOwns wr w.heap.size (.slice aJ nJ kJ) ((es.take (j + 1)).filter (fun e => inK fr tu e.k)) by
          rw [unhide FN (by rw [inK_parts, h2]; simp)]
          exact unhide hO)
        clear hO hej
        go_wp2_with fail
        refine (unhide HU _).mono ?_
        rintro e w3 ⟨rfl, hw3⟩
        subst w3
        clear HU
        go_wp2_with fail
        go_roundw
        case rel => exact ⟨j + 1, aJ, nJ, kJ, by omega, rfl, by go_num, K, hb⟩
        case measure => simp [intOf]; omega
      | true =>
        rw [h2] at HU
        have hacc : ((es.take j).filter (fun e : EntD => inK fr tu e.k)).length ≤ 1000000 := by
          have h3 := List.length_filter_le (fun e : EntD => inK fr tu e.k) (es.take j)
          rw [List.length_take] at h3
          omega
        obtain ⟨v2, w4, hr, ho, hgr, _⟩ := e_app (d := ⟨ek, ev⟩) (unhide hO) hacc hb.size
        have bA : Below wr.heap.size wr (wr.alloc (.cells #[.string ek, .string ev] 41)) := (Below.refl _ _).alloc (Nat.le_refl _) _
        have b4 : Below w.heap.size w w4 := by
          have b3 := hb.trans (bA.mono hb.size)
          exact b3.trans ((Below.refl _ _).grown hgr b3.size (fun k hk => ((unhide hO).lt k hk).1))
        simp only at hr
        rw [← unhide FY (by rw [inK_parts, h2]; unfold ltK; rw [h1]; rfl)] at ho
        obtain ⟨aV, cV, hV, _⟩ := eowns_slice ho
        have O4 := hide ho
        generalize ((es.take (j + 1)).filter (fun e : EntD => inK fr tu e.k)).length = nV at *
        subst hV
        clear hO hgr ho bA hej hacc
        go_wp2_with fail
        refine (unhide HU _).mono ?_
        rintro e w3 ⟨rfl, hw3⟩
        subst w3
        clear HU
        go_wp2_with (at_builtin; refine wpAppE rfl _ _ 36 rfl _ _ (.slice aV nV cV) w4 rfl rfl hr ?_)
        go_roundw
        case rel => exact ⟨j + 1, aV, nV, cV, by omega, rfl, by go_num, O4, b4⟩
        case measure => simp [intOf]; omega
/-- What TreeScan answers. -/
def scanE (t : TreD) (fr tu : ByteArray) : List EntD := if 65536 < fr.size ∨ 65536 < tu.size then [] else if okT t = true then rangeE t.here fr tu else []
def scanC (t : TreD) (fr tu : ByteArray) : Int := if 65536 < fr.size ∨ 65536 < tu.size then 2 else if okT t = true then 0 else 1
def SnRes (t : TreD) (fr tu : ByteArray) (w : World) (e : Ending) (w' : World) : Prop := ∃ a n c, e = Ending.returned (.tuple #[.slice a n c, .int .i64 (scanC t fr tu)]) ∧ EOwns w' w.heap.size (.slice a n c) (scanE t fr tu) ∧ Below w.heap.size w w'
set_option maxRecDepth 100000 in
set_option maxHeartbeats 4000000 in
theorem specTreeScan_any (ap : Option Addr) (np cp : Nat) (ag : Option Addr) (ng cg : Nat) (ai : Option Addr) (ni ci : Nat) (hs : List PpH) (gs : List Bool) (idx : List RefD) (fr tu : ByteArray) (w : World) (hT : TrIn w ap np cp ag ng cg ai ni hs gs idx) (hcb : ∀ h ∈ hs, h.s0.a = none → h.s0.c = 0) :
    Calls Tryz.prog 20 #[.agg #[.slice ap np cp, .slice ag ng cg, .slice ai ni ci], .string fr, .string tu] w fun e w' => SnRes (trd hs gs idx) fr tu w e w' := by
  have b0 : ∀ o, Below w.heap.size w (w.alloc o) := fun o => (Below.refl _ _).alloc (Nat.le_refl _) _
  have BW := hide (b0 (.cells #[.slice ap np cp, .slice ag ng cg, .slice ai ni ci] 29))
  have T := hide (hT.below (unhide BW))
  have BT := hide (show ∀ u, Below (w.alloc (.cells #[.slice ap np cp, .slice ag ng cg, .slice ai ni ci] 29)).heap.size (w.alloc (.cells #[.slice ap np cp, .slice ag ng cg, .slice ai ni ci] 29)) u → Below w.heap.size w u from fun u hu => (unhide BW).trans (hu.mono (unhide BW).size))
  have t0 : (w.alloc (.cells #[.slice ap np cp, .slice ag ng cg, .slice ai ni ci] 29)).cell? ⟨w.heap.size, 0, none⟩ = some (.slice ap np cp) := by simp
  have t1 : (w.alloc (.cells #[.slice ap np cp, .slice ag ng cg, .slice ai ni ci] 29)).cell? ⟨w.heap.size, 1, none⟩ = some (.slice ag ng cg) := by simp
  have t2 : (w.alloc (.cells #[.slice ap np cp, .slice ag ng cg, .slice ai ni ci] 29)).cell? ⟨w.heap.size, 2, none⟩ = some (.slice ai ni ci) := by simp
  have LIT := hide (show ∀ (u : World) (hu : Below w.heap.size w u) (g : Nat) (_ : g = u.heap.size) (cd : Int), scanC (trd hs gs idx) fr tu = cd → scanE (trd hs gs idx) fr tu = [] → SnRes (trd hs gs idx) fr tu w (.returned (.tuple #[.slice (some ⟨g, 0, none⟩) 0 0, .int .i64 cd])) (u.alloc (.cells #[] 41)) from fun u hu g hg cd h1 h2 => by
    subst hg
    exact ⟨_, _, _, by rw [h1], by rw [h2]; exact gd_base (nil_lit (w := u) 41 2) hu.size, hu.alloc hu.size _⟩)
  have CB := hide hcb
  clear hT BW hcb
  by_cases hk : 65536 < fr.size
  · have E := hide (show scanC (trd hs gs idx) fr tu = 2 ∧ scanE (trd hs gs idx) fr tu = [] by unfold scanC scanE; rw [if_pos (.inl hk), if_pos (.inl hk)]; exact ⟨rfl, rfl⟩)
    have b1 := b0 (.cells #[.slice ap np cp, .slice ag ng cg, .slice ai ni ci] 29)
    go_enter Tryz.func20, Tryz.ntmps20
    go_wp2_with fail
    go_ret2
    exact unhide LIT _ b1 _ (by simp) _ (unhide E).1 (unhide E).2
  by_cases hk2 : 65536 < tu.size
  · have E := hide (show scanC (trd hs gs idx) fr tu = 2 ∧ scanE (trd hs gs idx) fr tu = [] by unfold scanC scanE; rw [if_pos (.inr hk2), if_pos (.inr hk2)]; exact ⟨rfl, rfl⟩)
    have b1 := b0 (.cells #[.slice ap np cp, .slice ag ng cg, .slice ai ni ci] 29)
    go_enter Tryz.func20, Tryz.ntmps20
    go_wp2_with fail
    go_ret2
    exact unhide LIT _ b1 _ (by simp) _ (unhide E).1 (unhide E).2
  have NK := hide (show ¬ (65536 < fr.size ∨ 65536 < tu.size) from fun h => h.elim hk hk2)
  go_enter Tryz.func20, Tryz.ntmps20
  go_wp2_with fail
  have zW : w.heap.size ≤ (w.alloc (.cells #[.slice ap np cp, .slice ag ng cg, .slice ai ni ci] 29)).heap.size := (b0 _).size
  generalize w.alloc (.cells #[.slice ap np cp, .slice ag ng cg, .slice ai ni ci] 29) = W at *
  have HO := hide (specTreeOK_any ap np cp ag ng cg ai ni ci hs gs idx W (unhide T) (unhide CB))
  cases hok : okT (trd hs gs idx) with
  | false =>
    have E := hide (show scanC (trd hs gs idx) fr tu = 1 ∧ scanE (trd hs gs idx) fr tu = [] by unfold scanC scanE; rw [if_neg (unhide NK), if_neg (unhide NK), hok]; exact ⟨rfl, rfl⟩)
    rw [hok] at HO
    refine (unhide HO).mono ?_
    rintro e w2 ⟨rfl, hb⟩
    have b2 := unhide BT _ hb
    go_wp2_with fail
    go_ret2
    exact unhide LIT _ b2 _ rfl _ (unhide E).1 (unhide E).2
  | true =>
    have E := hide (show scanC (trd hs gs idx) fr tu = 0 ∧ scanE (trd hs gs idx) fr tu = (treeE (trd hs gs idx).here).filter (fun e => inK fr tu e.k) by unfold scanC scanE; rw [if_neg (unhide NK), if_neg (unhide NK), hok]; exact ⟨rfl, rfl⟩)
    rw [hok] at HO
    have FEW := hide (okT_few hok (unhide T).pgs)
    have G := hide (show GoodT (trd hs gs idx).here idx from good_of hok)
    refine (unhide HO).mono ?_
    rintro e w2 ⟨rfl, hb⟩
    have s0 := (hb.cell (p := ⟨w.heap.size, 0, none⟩) (cell_lt t0)).trans t0
    have s1 := (hb.cell (p := ⟨w.heap.size, 1, none⟩) (cell_lt t1)).trans t1
    have s2 := (hb.cell (p := ⟨w.heap.size, 2, none⟩) (cell_lt t2)).trans t2
    go_wp2_with fail
    refine (l05Entries_any ap np cp ag ng cg ai ni ci hs gs idx w2 ((unhide T).below hb) (unhide G) (unhide FEW) (unhide CB)).mono ?_
    rintro e w3 ⟨a3, n3, c3, rfl, ho3, hb3, hl3⟩
    have hn3 : n3 ≤ 1000 := by
      have := (erow_of_owns ho3).1
      omega
    have HR := hide (l05Range_any a3 n3 c3 (treeE (trd hs gs idx).here) fr tu w3 (erow_of_owns ho3) hn3)
    have bB := hide (hb.trans (hb3.mono hb.size))
    have zz := hide (show w.heap.size ≤ w3.heap.size from Nat.le_trans zW (Nat.le_trans hb.size hb3.size))
    clear s0 s1 s2 ho3 hb3 hl3 HO hb
    go_wp2_with fail
    refine (unhide HR).mono ?_
    rintro e w4 ⟨a4, n4, c4, rfl, ho4, hb4⟩
    have RES := hide (show SnRes (trd hs gs idx) fr tu w (.returned (.tuple #[.slice a4 n4 c4, .int .i64 0])) w4 from ⟨_, _, _, by rw [(unhide E).1], by rw [(unhide E).2]; exact gd_base ho4 (unhide zz), unhide BT _ ((unhide bB).trans (hb4.mono (unhide bB).size))⟩)
    clear ho4 hb4
    go_wp2_with fail
    go_ret2
    exact unhide RES
set_option maxRecDepth 100000 in
set_option maxHeartbeats 4000000 in
theorem implTreeScan_any (ap : Option Addr) (np cp : Nat) (ag : Option Addr) (ng cg : Nat) (ai : Option Addr) (ni ci : Nat) (hs : List PpH) (gs : List Bool) (idx : List RefD) (fr tu : ByteArray) (w : World) (hT : TrIn w ap np cp ag ng cg ai ni hs gs idx) (hci : ai = none → ci = 0) :
    Calls Tryz.prog 12 #[.agg #[.slice ap np cp, .slice ag ng cg, .slice ai ni ci], .string fr, .string tu] w fun e w' => SnRes (trd hs gs idx) fr tu w e w' := by
  have b0 : ∀ o, Below w.heap.size w (w.alloc o) := fun o => (Below.refl _ _).alloc (Nat.le_refl _) _
  have BW := hide (b0 (.cells #[.slice ap np cp, .slice ag ng cg, .slice ai ni ci] 29))
  have T := hide (hT.below (unhide BW))
  have BT := hide (show ∀ u, Below (w.alloc (.cells #[.slice ap np cp, .slice ag ng cg, .slice ai ni ci] 29)).heap.size (w.alloc (.cells #[.slice ap np cp, .slice ag ng cg, .slice ai ni ci] 29)) u → Below w.heap.size w u from fun u hu => (unhide BW).trans (hu.mono (unhide BW).size))
  have NIL := hide (show ∀ (u : World) (hu : Below w.heap.size w u) (cd : Int), scanC (trd hs gs idx) fr tu = cd → scanE (trd hs gs idx) fr tu = [] → SnRes (trd hs gs idx) fr tu w (.returned (.tuple #[.slice none 0 0, .int .i64 cd])) u from fun u hu cd h1 h2 => ⟨_, _, _, by rw [h1], by rw [h2]; exact World.ownsRow_nil _ _ _ _, hu⟩)
  clear hT BW
  by_cases hk : 65536 < fr.size
  · have E := hide (show scanC (trd hs gs idx) fr tu = 2 ∧ scanE (trd hs gs idx) fr tu = [] by unfold scanC scanE; rw [if_pos (.inl hk), if_pos (.inl hk)]; exact ⟨rfl, rfl⟩)
    go_enter Tryz.func12, Tryz.ntmps12
    go_wp2_with fail
    go_ret2
    exact unhide NIL _ (b0 _) _ (unhide E).1 (unhide E).2
  by_cases hk2 : 65536 < tu.size
  · have E := hide (show scanC (trd hs gs idx) fr tu = 2 ∧ scanE (trd hs gs idx) fr tu = [] by unfold scanC scanE; rw [if_pos (.inr hk2), if_pos (.inr hk2)]; exact ⟨rfl, rfl⟩)
    go_enter Tryz.func12, Tryz.ntmps12
    go_wp2_with fail
    go_ret2
    exact unhide NIL _ (b0 _) _ (unhide E).1 (unhide E).2
  have NK := hide (show ¬ (65536 < fr.size ∨ 65536 < tu.size) from fun h => h.elim hk hk2)
  go_enter Tryz.func12, Tryz.ntmps12
  go_wp2_with fail
  have zW : w.heap.size ≤ (w.alloc (.cells #[.slice ap np cp, .slice ag ng cg, .slice ai ni ci] 29)).heap.size := (b0 _).size
  generalize w.alloc (.cells #[.slice ap np cp, .slice ag ng cg, .slice ai ni ci] 29) = W at *
  refine (tableOf_any ap np cp ag ng cg ai ni ci hs gs idx W (unhide T) hci).mono ?_
  rintro e w2 ⟨v, rfl, hb, htab⟩
  cases hok : okT (trd hs gs idx) with
  | false =>
    have E := hide (show scanC (trd hs gs idx) fr tu = 1 ∧ scanE (trd hs gs idx) fr tu = [] by unfold scanC scanE; rw [if_neg (unhide NK), if_neg (unhide NK), hok]; exact ⟨rfl, rfl⟩)
    clear htab
    go_wp2_with fail
    go_ret2
    exact unhide NIL _ (unhide BT _ hb) _ (unhide E).1 (unhide E).2
  | true =>
    obtain ⟨mb, qs, vp, vi, rfl, hown, hqs, hmem⟩ := htab hok
    have E := hide (show scanC (trd hs gs idx) fr tu = 0 ∧ scanE (trd hs gs idx) fr tu = rangeE (qsP qs) fr tu by unfold scanC scanE; rw [if_neg (unhide NK), if_neg (unhide NK), hok, hqs]; exact ⟨rfl, rfl⟩)
    have hG : GoodT (trd hs gs idx).here idx := good_of hok
    have hrow : ∀ b x, some (b, x) ∈ qs → ERow w2 x.s0.a x.s0.n x.X.es ∧ DRow w2 x.s1.a x.s1.n x.X.ds := fun b x hx => by
      obtain ⟨j, hj, e⟩ := List.getElem_of_mem (hmem b x hx).1
      have h := PpIn.sub ((unhide T).below hb).pgs hj
      rw [e] at h
      exact ⟨erow_C h.1, drow_C h.2⟩
    obtain ⟨ap2, cp2, ai2, ci2, M⟩ := hown.table hrow
    have HB := hide (between_any mb qs idx ap2 cp2 ai2 ci2 fr tu w2 M (by rw [hqs]; exact hG))
    have zz := hide (show w.heap.size ≤ w2.heap.size from Nat.le_trans zW hb.size)
    clear hown hqs htab M hrow hok hG hmem
    go_wp2_with fail
    refine (unhide HB).mono ?_
    rintro e w4 ⟨v4, rfl, ho4, hb4⟩
    obtain ⟨a4, c4, hv4, _⟩ := eowns_slice ho4
    have RES := hide (show SnRes (trd hs gs idx) fr tu w (.returned (.tuple #[v4, .int .i64 0])) w4 by
      rw [hv4] at ho4 ⊢
      exact ⟨_, _, _, by rw [(unhide E).1], by rw [(unhide E).2]; exact gd_base ho4 (unhide zz), unhide BT _ (hb.trans (hb4.mono hb.size))⟩)
    clear ho4 hb4 hv4
    go_wp2_with fail
    go_ret2
    exact unhide RES
end Go.Proofs.YtbhkmmdcdfjbkaaGreat

namespace Go.Proofs.YtbhkmmdcdfjbkaaGreat
open Go.RowKit

theorem tre_okT {ps : List (Option PageD)} {idx : List RefD} (t : Tre ps idx) {hs : List PpH} (hX : hs.map (·.X) = ps.map pgD) : okT (trd hs (ps.map (·.isNone)) idx) = true := by
  have hl : hs.length = ps.length := by have := congrArg List.length hX; simpa using this
  have g := t.good
  have he : (trd hs (ps.map (·.isNone)) idx).here = ps := by
    unfold trd TreD.here
    simp only
    rw [hX]
    exact here_map ps
  rw [okT_rest ⟨by rw [hl]; exact t.len.1, by rw [hl]; exact t.len.2, by rw [List.length_map, hl], by rw [hl]; exact g.il⟩ (fun i h1 h2 => ?_), he, g.go, g.ix]
  · obtain ⟨h0, _, hz⟩ := g.zero
    unfold zeroIdx
    rw [List.getElem?_eq_getElem h0]
    simp only [hz, decide_true, Bool.and_self]
  · have hp : i < ps.length := by rw [← hl]; exact h1
    have e := congrArg (fun l => l[i]?) hX
    simp only [List.getElem?_map, List.getElem?_eq_getElem h1, List.getElem?_eq_getElem hp, Option.map_some] at e
    injection e with e
    rw [e, List.getElem_map]
    cases hq : ps[i] with
    | none =>
      show noP ⟨⟨#[]⟩, ⟨#[]⟩, -1, [], []⟩ = true
      unfold noP
      simp only
      rw [isE_none]
      rfl
    | some p =>
      have hm : some p ∈ ps := hq ▸ List.getElem_mem hp
      obtain ⟨k, hk⟩ := mem_getP hm
      exact t.ok _ p hk
theorem range_all (ps : List (Option PageD)) : rangeE ps ⟨#[]⟩ ⟨#[]⟩ = treeE ps := by
  unfold rangeE
  rw [List.filter_eq_self]
  intro e _
  rw [inK_parts, ltK_none]
  unfold underK
  rw [isE_none]
  rfl
/-- What TreeGet answers of a right tree, by its entries. -/
def getL (lk : Option ByteArray) (hops : Nat) : Value := match lk with
  | some v => .tuple #[.string v, .int .i64 (hops : Int), .int .i64 0]
  | none => .tuple #[.string ⟨#[]⟩, .int .i64 (hops : Int), .int .i64 5]
theorem getA_tre {ps : List (Option PageD)} {idx : List RefD} (t : Tre ps idx) {hs : List PpH} (hX : hs.map (·.X) = ps.map pgD) {key : ByteArray} (hk : keyK key = true) : getA (trd hs (ps.map (·.isNone)) idx) key = getL (lookE (treeE ps) key) (downT ps idx key).2 := by
  have he : (trd hs (ps.map (·.isNone)) idx).here = ps := by
    unfold trd TreD.here
    simp only
    rw [hX]
    exact here_map ps
  have hs' : key.size ≤ 40 := by unfold keyK at hk; simp at hk; exact hk.2
  unfold getA
  rw [if_neg (by omega), if_pos ⟨tre_okT t hX, hk⟩, he]
  obtain ⟨p, h1, h2, h3, _⟩ := t.good.down key
  rw [t.look h1 ⟨h2, h3⟩]
  show getR ps idx key = _
  unfold getR getL
  rw [h1]
  rfl
theorem scan_tre {ps : List (Option PageD)} {idx : List RefD} (t : Tre ps idx) {hs : List PpH} (hX : hs.map (·.X) = ps.map pgD) {fr tu : ByteArray} (h1 : fr.size ≤ 65536) (h2 : tu.size ≤ 65536) : scanE (trd hs (ps.map (·.isNone)) idx) fr tu = rangeE ps fr tu ∧ scanC (trd hs (ps.map (·.isNone)) idx) fr tu = 0 := by
  have he : (trd hs (ps.map (·.isNone)) idx).here = ps := by
    unfold trd TreD.here
    simp only
    rw [hX]
    exact here_map ps
  have hno : ¬ (65536 < fr.size ∨ 65536 < tu.size) := by omega
  unfold scanE scanC
  rw [if_neg hno, if_neg hno, if_pos (tre_okT t hX), if_pos (tre_okT t hX), he]
  exact ⟨rfl, rfl⟩
/-- What TreeRun gives of few acts. -/
theorem rt_few_con {acts : List AcT} (hl : acts.length ≤ 150) {W W' : World} {e : Ending} (h : RtRes acts W e W') : ∃ a1 c1 a2 c2 a3 c3 ac cc hs, e = .returned (.tuple #[.agg #[.slice a1 (runS acts).ps.length c1, .slice a2 (runS acts).ps.length c2, .slice a3 (runS acts).idx.length c3], .slice ac acts.length cc, .int .i64 0]) ∧ TsOwn W' W.heap.size a1 c1 a2 c2 a3 c3 (runS acts).ps.length (runS acts).idx.length hs (runS acts).ps (runS acts).idx ∧ W'.ownsRow W.heap.size 3 1 (.slice ac acts.length cc) acts.length ((runS acts).codes.map (Value.int .i64)) ∧ Below W.heap.size W W' := by
  obtain ⟨a1, c1, a2, c2, a3, c3, ac, cc, hs, e1, o, m, b⟩ := rt_con h
  have hT : rtT acts = ⟨(runS acts).ps.map pgD, (runS acts).ps.map (·.isNone), (runS acts).idx⟩ := by unfold rtT; rw [if_neg (by omega)]
  have hN : rtN acts = (runS acts).codes := by unfold rtN; rw [if_neg (by omega)]
  have hC : rtC acts = 0 := by unfold rtC; rw [if_neg (by omega), if_neg (by omega)]
  have hcl : (runS acts).codes.length = acts.length := by
    have := (runS_tre acts acts.length (Nat.le_refl _)).2
    rw [List.take_length] at this
    exact this
  rw [hT, hN, hC] at e1
  rw [hT, hN] at o
  rw [hT] at m
  simp only [List.length_map] at e1 o m
  rw [hcl] at e1 o
  exact ⟨a1, c1, a2, c2, a3, c3, ac, cc, hs, e1, ⟨o.tr, m, rfl, rfl⟩, o.cod, b⟩
theorem tree_few {ps : List (Option PageD)} {idx : List RefD} (t : Tre ps idx) : (treeE ps).length ≤ 960 := by
  obtain ⟨p, hp, _⟩ := t.zero
  have s := ScSt.start (ps := ps) (f := fun _ => true) hp
  have : ∀ (m : Nat) (id : Int) (c : Nat), c + m = 30 → (∀ p, getP ps id = some p → c + cntGe ps p.lo ≤ manyT ps) → (scanF ps (40 - c) id).length ≤ 32 * m := fun m => by
    induction m with
    | zero =>
      intro id c hc hg
      cases hq : getP ps id with
      | none => rw [scanF_none hq]; simp
      | some q =>
        have h1 := hg q hq
        have h2 := cntGe_here (getP_mem hq)
        have h3 : manyT ps ≤ ps.length := List.countP_le_length
        have := t.len.2
        omega
    | succ m ih =>
      intro id c hc hg
      cases hq : getP ps id with
      | none => rw [scanF_none hq]; simp
      | some q =>
        rw [show 40 - c = (40 - (c + 1)) + 1 by omega, scanF_some hq, List.length_append]
        have h1 := enP_len (t.ok _ q hq)
        have h2 := ih (riP q) (c + 1) (by omega) (fun r hr => by
          rcases t.next _ q hq with ⟨h, _⟩ | ⟨hlt, r2, hr2, hl⟩
          · rw [h, getP_neg (by omega)] at hr; cases hr
          · rw [hr2] at hr
            injection hr with hr
            subst hr
            have h4 := cntGe_next (getP_mem hq) hlt
            have h5 := hg q hq
            rw [hl]
            omega)
        omega
  have h := this 30 0 0 rfl (fun q hq => by have := cntGe_many ps q.lo; omega)
  exact h
end Go.Proofs.YtbhkmmdcdfjbkaaGreat

namespace Go.Proofs.YtbhkmmdcdfjbkaaGreat
open Go.RowKit

/-- What TreeStep gives. -/
def TsRes (r : StR) (w : World) (e : Ending) (w' : World) : Prop := ∃ a1 n c1 a2 c2 a3 m c3 hs told, e = .returned (.tuple #[.agg #[.slice a1 n c1, .slice a2 n c2, .slice a3 m c3], .int .i64 told, .int .i64 r.code]) ∧ ((r.code = 0 ∧ told = r.told ∧ TsOwn w' w.heap.size a1 c1 a2 c2 a3 c3 n m hs r.ps r.idx) ∨ (r.code ≠ 0 ∧ told = 0 ∧ a1 = none ∧ n = 0 ∧ c1 = 0 ∧ a2 = none ∧ c2 = 0 ∧ a3 = none ∧ m = 0 ∧ c3 = 0)) ∧ Below w.heap.size w w'
theorem TsRes.no {r : StR} {w w' : World} (hr : r.code ≠ 0) (hb : Below w.heap.size w w') : TsRes r w (.returned (.tuple #[.agg #[.slice none 0 0, .slice none 0 0, .slice none 0 0], .int .i64 0, .int .i64 r.code])) w' :=
  ⟨none, 0, 0, none, 0, none, 0, 0, [], 0, rfl, .inr ⟨hr, rfl, rfl, rfl, rfl, rfl, rfl, rfl, rfl, rfl⟩, hb⟩
theorem TsOwn.rows {w : World} {B : Nat} {a1 a2 a3 : Option Addr} {c1 c2 c3 n m : Nat} {hs : List PpH} {ps : List (Option PageD)} {idx : List RefD} (h : TsOwn w B a1 c1 a2 c2 a3 c3 n m hs ps idx) {x : PpH} (hx : x ∈ hs) : PgRows w w.heap.size x := by
  obtain ⟨i, hi, e⟩ := List.getElem_of_mem hx
  have hp : i < ps.length := by rw [h.ln, ← h.hl]; exact hi
  obtain ⟨b, y, _, hy, _, P⟩ := h.at hp
  rw [List.getElem?_eq_getElem hi, e] at hy
  injection hy with hy
  subst hy
  have hk : ∀ (a : Option Addr) (t : TypeId), (∀ ad, a = some ad → ad.block < w.heap.size) → RowK w w.heap.size a t := fun a t h ad e => ⟨h ad e, .inl (h ad e)⟩
  have he : (hs.map ppEl)[i]? = some (ppEl x) := by rw [ppEl_at hi, e]
  have d0 := h.own.pg.dat i 0 ⟨41, 2, x.X.es.length, .slice x.s0.a x.s0.n x.s0.c, ecs x.X.es⟩ (by unfold sbAt; rw [he]; rfl)
  have d1 := h.own.pg.dat i 1 ⟨90, 4, x.X.ds.length, .slice x.s1.a x.s1.n x.s1.c, dcs x.X.ds⟩ (by unfold sbAt; rw [he]; rfl)
  refine ⟨P.es, P.ds, hk _ _ (fun ad e => ?_), hk _ _ (fun ad e => ?_), P.ce, P.cd⟩
  · exact (d0.lt ad.block (by simp only; rw [e]; rfl)).2
  · exact (d1.lt ad.block (by simp only; rw [e]; rfl)).2
theorem goneQ_ps (qs : List (Option (Nat × PpH))) : goneQ qs = (qsP qs).map (·.isNone) := by
  unfold goneQ qsP
  rw [List.map_map]
  congr 1
  funext q
  cases q <;> rfl
set_option maxRecDepth 100000 in
set_option maxHeartbeats 8000000 in
theorem implTreeStep_any (B : Nat) (a1 : Option Addr) (c1 : Nat) (a2 : Option Addr) (c2 : Nat) (a3 : Option Addr) (c3 n m : Nat) (hs : List PpH) (ps : List (Option PageD)) (idx : List RefD) (ac : AcT) (w : World) (hO : TsOwn w B a1 c1 a2 c2 a3 c3 n m hs ps idx) (hT : Tre ps idx) :
    Calls Tryz.prog 18 #[.agg #[.slice a1 n c1, .slice a2 n c2, .slice a3 m c3], .agg #[.int .i64 ac.kind, .int .i64 ac.id, .string ac.key, .string ac.val]] w fun e w' => TsRes (stepT ps idx ac) w e w' := by
  obtain ⟨W, hW, k1, k2, k3, z, b0⟩ := th_new w (.slice a1 n c1) (.slice a2 n c2) (.slice a3 m c3) (.int .i64 ac.kind) (.int .i64 ac.id) (.string ac.key) (.string ac.val)
  have OW := hO.below b0
  have hz1 : w.heap.size < W.heap.size := by omega
  have hz2 : w.heap.size + 1 < W.heap.size := by omega
  have hz3 : w.heap.size + 1 + 1 < W.heap.size := by omega
  have HTB := hide (tableOf_any a1 n c1 a2 n c2 a3 m c3 hs (ps.map (·.isNone)) idx W OW.trIn (own_cap0 OW.own.ix))
  have OKT := tre_okT hT OW.dat
  unfold TbRes at HTB
  rw [OKT, OW.here] at HTB
  have ST := hide (stepT_tre hT ac)
  obtain ⟨r, hr⟩ : ∃ r, r = stepT ps idx ac := ⟨_, rfl⟩
  have HR := hide hr
  rw [← hr] at ST
  rw [← hr]
  have B0 := hide b0
  have K2 := hide k2
  have K3 := hide k3
  have OWh := hide OW
  have HTh := hide hT
  have HW := hide hW
  have e0 := (heap_at k1 0).1
  have e1 := (heap_at k1 1).1
  have e2 := (heap_at k1 2).1
  clear b0 k1 k2 k3 z hO hT hW OW OKT hr
  go_enter Tryz.func18, Tryz.ntmps18
  go_upto_region 1 with fail
  rw [← unhide HW]
  clear HW
  go_wp2_with fail
  refine (unhide HTB).mono ?_
  rintro e w1 ⟨v, rfl, hb1, ht⟩
  obtain ⟨mb, qs, vp, vi, rfl, ho, hq, hm⟩ := ht (by first | rfl | trivial)
  have F := hide (show TbF w1 W.heap.size mb qs idx vp vi from ⟨ho, fun b x hx => ((unhide OWh).rows (hm b x hx).1).below hb1⟩)
  have HS := hide (step_any W.heap.size mb qs idx vp vi ac w1 (unhide F) hb1.size (by rw [hq]; exact unhide HTh))
  rw [hq, ← unhide HR] at HS
  have kd := (hb1.block (w.heap.size + 1) hz2).trans (unhide K2)
  have d0 := (heap_at kd 0).1
  have d1 := (heap_at kd 1).1
  have d2 := (heap_at kd 2).1
  have d3 := (heap_at kd 3).1
  have B1 := hide hb1
  have GE := hide (show ∀ i, TbW mb vp vi i → W.heap.size ≤ i from fun i hi => (unhide F).own.geB hi)
  clear kd hb1 ht ho hm HTB e0 e1 e2 F hq
  go_wp2_with fail
  refine (unhide HS).mono ?_
  rintro e w2 ⟨qs', vp', vi', rfl, hF2, hq2, hW2⟩
  have B2 := (unhide B1).trans (WrB.below hW2 (fun i hi => unhide GE i hi) (unhide B1).size)
  have kr := (B2.block (w.heap.size + 1 + 1) hz3).trans (unhide K3)
  have r0 := (heap_at kr 0).1
  have r1 := (heap_at kr 1).1
  have r2 := (heap_at kr 2).1
  have g0 := (heap_at kr 0).2
  have g1 := (heap_at kr 1).2
  have g2 := (heap_at kr 2).2
  have BB := (unhide B0).trans (B2.mono (unhide B0).size)
  clear HS d0 d1 d2 d3 hW2 kr
  by_cases hc : r.code = 0
  · have HTR := hide (tree_any W.heap.size mb qs' r.idx vp' vi' w2 hF2 (by rw [hq2]; exact unhide ST))
    have hcb : (r.code != 0) = false := by rw [hc]; rfl
    have hcb2 : (r.code == 0) = true := by rw [hc]; rfl
    have HC := hide hc
    have HQ := hide hq2
    have B2h := hide B2
    have hw2 := B2.size
    clear hc hF2 hq2 B2 r0 r1 r2 g0 g1 g2
    go_wp2_with fail
    refine (unhide HTR).mono ?_
    rintro e w3 ⟨b1, k1, b2, k2, b3, k3, hs7, rfl, oT, hX, hb3⟩
    have kr := (hb3.block (w.heap.size + 1 + 1) (by omega)).trans (((unhide B2h).block (w.heap.size + 1 + 1) hz3).trans (unhide K3))
    have r0 := (heap_at kr 0).1
    have r1 := (heap_at kr 1).1
    have r2 := (heap_at kr 2).1
    have g0 := (heap_at kr 0).2
    have g1 := (heap_at kr 1).2
    have g2 := (heap_at kr 2).2
    have hlq : r.ps.length = qs'.length := by rw [← unhide HQ, qsP_len]
    have OT : TsOwn w3 w2.heap.size b1 k1 b2 k2 b3 k3 qs'.length r.idx.length hs7 r.ps r.idx := ⟨by rw [← unhide HQ, ← goneQ_ps]; exact oT, by rw [hX, unhide HQ], hlq, rfl⟩
    have B3 := BB.trans (hb3.mono BB.size)
    have hz4 : w.heap.size + 1 + 1 < w2.heap.size := by omega
    have RES := hide (show TsRes r w (.returned (.tuple #[.agg #[.slice b1 qs'.length k1, .slice b2 qs'.length k2, .slice b3 r.idx.length k3], .int .i64 r.told, .int .i64 0])) (((w3.setCell ⟨w.heap.size + 1 + 1, 0, none⟩ (.slice b1 qs'.length k1)).setCell ⟨w.heap.size + 1 + 1, 1, none⟩ (.slice b2 qs'.length k2)).setCell ⟨w.heap.size + 1 + 1, 2, none⟩ (.slice b3 r.idx.length k3)) from ⟨_, _, _, _, _, _, _, _, _, r.told, by rw [unhide HC], .inl ⟨unhide HC, rfl, (((OT.set hz4 0 _).set hz4 1 _).set hz4 2 _).dn (by omega)⟩, ((B3.setCell (p := ⟨w.heap.size + 1 + 1, 0, none⟩) (by show w.heap.size ≤ w.heap.size + 1 + 1; omega) _).setCell (p := ⟨w.heap.size + 1 + 1, 1, none⟩) (by show w.heap.size ≤ w.heap.size + 1 + 1; omega) _).setCell (p := ⟨w.heap.size + 1 + 1, 2, none⟩) (by show w.heap.size ≤ w.heap.size + 1 + 1; omega) _⟩)
    clear kr oT hX hb3 OT B3 hlq HTR BB
    go_wp2_with fail
    refine bodyPost_ret (v := .tuple #[.agg #[.slice b1 qs'.length k1, .slice b2 qs'.length k2, .slice b3 r.idx.length k3], .int .i64 r.told, .int .i64 0]) (by simp [results, Tryz.results18, go_sem, *]) rfl ?_
    exact unhide RES
  · have hcb : (r.code != 0) = true := by rw [bne_iff_ne]; exact hc
    have hcb2 : (r.code == 0) = false := by rw [beq_eq_false_iff_ne]; exact hc
    have RES := hide (show TsRes r w (.returned (.tuple #[.agg #[.slice none 0 0, .slice none 0 0, .slice none 0 0], .int .i64 0, .int .i64 r.code])) (((w2.setCell ⟨w.heap.size + 1 + 1, 0, none⟩ (.slice none 0 0)).setCell ⟨w.heap.size + 1 + 1, 1, none⟩ (.slice none 0 0)).setCell ⟨w.heap.size + 1 + 1, 2, none⟩ (.slice none 0 0)) from TsRes.no hc (((BB.setCell (p := ⟨w.heap.size + 1 + 1, 0, none⟩) (by show w.heap.size ≤ w.heap.size + 1 + 1; omega) _).setCell (p := ⟨w.heap.size + 1 + 1, 1, none⟩) (by show w.heap.size ≤ w.heap.size + 1 + 1; omega) _).setCell (p := ⟨w.heap.size + 1 + 1, 2, none⟩) (by show w.heap.size ≤ w.heap.size + 1 + 1; omega) _))
    clear hF2 hq2 B2 BB
    go_wp2_with fail
    refine bodyPost_ret (v := .tuple #[.agg #[.slice none 0 0, .slice none 0 0, .slice none 0 0], .int .i64 0, .int .i64 r.code]) (by simp [results, Tryz.results18, go_sem, *]) rfl ?_
    exact unhide RES
set_option maxRecDepth 100000 in
set_option maxHeartbeats 8000000 in
theorem specTreeStep_any (B : Nat) (a1 : Option Addr) (c1 : Nat) (a2 : Option Addr) (c2 : Nat) (a3 : Option Addr) (c3 n m : Nat) (hs : List PpH) (ps : List (Option PageD)) (idx : List RefD) (ac : AcT) (w : World) (hO : TsOwn w B a1 c1 a2 c2 a3 c3 n m hs ps idx) (hT : Tre ps idx) (hk1 : ac.key.size ≤ 65536) (hk2 : ac.val.size ≤ 65536) :
    Calls Tryz.prog 19 #[.agg #[.slice a1 n c1, .slice a2 n c2, .slice a3 m c3], .agg #[.int .i64 ac.kind, .int .i64 ac.id, .string ac.key, .string ac.val]] w fun e w' => TsRes (stepT ps idx ac) w e w' := by
  obtain ⟨W, hW, k1, k2, k3, z, b0⟩ := th_new w (.slice a1 n c1) (.slice a2 n c2) (.slice a3 m c3) (.int .i64 ac.kind) (.int .i64 ac.id) (.string ac.key) (.string ac.val)
  have OW := hO.below b0
  have hz1 : w.heap.size < W.heap.size := by omega
  have hz2 : w.heap.size + 1 < W.heap.size := by omega
  have hz3 : w.heap.size + 1 + 1 < W.heap.size := by omega
  have few := OW.few hT
  have HOK := hide (specTreeOK_any a1 n c1 a2 n c2 a3 m c3 hs (ps.map (·.isNone)) idx W OW.trIn (fun h hh => (OW.rows hh).ce))
  rw [tre_okT hT OW.dat] at HOK
  have ST := hide (stepT_tre hT ac)
  have HS := hide (fun (u : World) (hu : Below W.heap.size W u) => l05Step_any B a1 c1 a2 c2 a3 c3 n m hs ps idx ac u (OW.below hu) hT)
  obtain ⟨r, hr⟩ : ∃ r, r = stepT ps idx ac := ⟨_, rfl⟩
  rw [← hr] at ST HS
  rw [← hr]
  have B0 := hide b0
  have K1 := hide k1
  have K2 := hide k2
  have K3 := hide k3
  have HW := hide hW
  have e0 := (heap_at k1 0).1
  have e1 := (heap_at k1 1).1
  have e2 := (heap_at k1 2).1
  have d2 := (heap_at k2 2).1
  have d3 := (heap_at k2 3).1
  have hk1i : ¬ ((65536 : Int) < (ac.key.size : Int)) := by omega
  have hk2i : ¬ ((65536 : Int) < (ac.val.size : Int)) := by omega
  clear b0 k1 k2 k3 z hO hT hW OW hr few hk1 hk2
  go_enter Tryz.func19, Tryz.ntmps19
  go_upto_region 1 with fail
  rw [← unhide HW]
  clear HW
  go_wp2_with fail
  refine (unhide HOK).mono ?_
  rintro e w1 ⟨rfl, hb1⟩
  have B1 := hide hb1
  have kt := (hb1.block w.heap.size hz1).trans (unhide K1)
  have kd := (hb1.block (w.heap.size + 1) hz2).trans (unhide K2)
  clear e0 e1 e2 d2 d3 hb1 HOK
  have e0 := (heap_at kt 0).1
  have e1 := (heap_at kt 1).1
  have e2 := (heap_at kt 2).1
  have d0 := (heap_at kd 0).1
  have d1 := (heap_at kd 1).1
  have d2 := (heap_at kd 2).1
  have d3 := (heap_at kd 3).1
  clear kt kd
  go_wp2_with fail
  refine (unhide HS w1 (unhide B1)).mono ?_
  rintro e w2 ⟨b1, n', k1, b2, k2, b3, m', k3, hs', told, rfl, hnew, hb2⟩
  have bT := (Below.refl w2.heap.size w2).alloc (Nat.le_refl _) (.cells #[.slice b1 n' k1, .slice b2 n' k2, .slice b3 m' k3] 29)
  have kT := heap_alloc_new w2 (.cells #[.slice b1 n' k1, .slice b2 n' k2, .slice b3 m' k3] 29)
  have B2 := hide ((unhide B1).trans ((hb2.trans (bT.mono hb2.size)).mono (unhide B1).size))
  have NX := hide (show r.code = 0 → told = r.told ∧ TsOwn (w2.alloc (.cells #[.slice b1 n' k1, .slice b2 n' k2, .slice b3 m' k3] 29)) w1.heap.size b1 k1 b2 k2 b3 k3 n' m' hs' r.ps r.idx from fun h => ⟨(hnew h).1, (hnew h).2.below bT⟩)
  clear hnew hb2 bT HS e0 e1 e2 d0 d1 d2 d3
  go_upto_region 6 with fail
  generalize w2.alloc (.cells #[.slice b1 n' k1, .slice b2 n' k2, .slice b3 m' k3] 29) = w3 at *
  generalize w2.heap.size = tb at *
  have kr := ((unhide B2).block (w.heap.size + 1 + 1) hz3).trans (unhide K3)
  have BB := (unhide B0).trans ((unhide B2).mono (unhide B0).size)
  by_cases hc : r.code = 0
  · obtain ⟨ht, hO3⟩ := unhide NX hc
    subst ht
    have HON := hide (l05Own_any w1.heap.size b1 k1 b2 k2 b3 k3 n' m' hs' r.ps r.idx w3 hO3 (unhide ST))
    have hcb : (r.code != 0) = false := by rw [hc]; rfl
    have hcb2 : (r.code == 0) = true := by rw [hc]; rfl
    have HC := hide hc
    have t0 := (heap_at kT 0).1
    have t1 := (heap_at kT 1).1
    have t2 := (heap_at kT 2).1
    have hsz3 := (unhide B2).size
    clear hc hO3 kr NX
    go_wp2_with fail
    refine (unhide HON).mono ?_
    rintro e w4 ⟨f1, l1, f2, l2, f3, l3, hs7, rfl, O7, hb7⟩
    have kr := (hb7.block (w.heap.size + 1 + 1) (by omega)).trans (((unhide B2).block (w.heap.size + 1 + 1) hz3).trans (unhide K3))
    have r0 := (heap_at kr 0).1
    have r1 := (heap_at kr 1).1
    have r2 := (heap_at kr 2).1
    have g0 := (heap_at kr 0).2
    have g1 := (heap_at kr 1).2
    have g2 := (heap_at kr 2).2
    have B3 := BB.trans (hb7.mono BB.size)
    have hz4 : w.heap.size + 1 + 1 < w3.heap.size := by omega
    have RES := hide (show TsRes r w (.returned (.tuple #[.agg #[.slice f1 n' l1, .slice f2 n' l2, .slice f3 m' l3], .int .i64 r.told, .int .i64 0])) (((w4.setCell ⟨w.heap.size + 1 + 1, 0, none⟩ (.slice f1 n' l1)).setCell ⟨w.heap.size + 1 + 1, 1, none⟩ (.slice f2 n' l2)).setCell ⟨w.heap.size + 1 + 1, 2, none⟩ (.slice f3 m' l3)) from ⟨_, _, _, _, _, _, _, _, _, r.told, by rw [unhide HC], .inl ⟨unhide HC, rfl, (((O7.set hz4 0 _).set hz4 1 _).set hz4 2 _).dn (by omega)⟩, ((B3.setCell (p := ⟨w.heap.size + 1 + 1, 0, none⟩) (by show w.heap.size ≤ w.heap.size + 1 + 1; omega) _).setCell (p := ⟨w.heap.size + 1 + 1, 1, none⟩) (by show w.heap.size ≤ w.heap.size + 1 + 1; omega) _).setCell (p := ⟨w.heap.size + 1 + 1, 2, none⟩) (by show w.heap.size ≤ w.heap.size + 1 + 1; omega) _⟩)
    clear kr O7 hb7 B3 HON BB t0 t1 t2 kT
    go_wp2_with fail
    refine bodyPost_ret (v := .tuple #[.agg #[.slice f1 n' l1, .slice f2 n' l2, .slice f3 m' l3], .int .i64 r.told, .int .i64 0]) (by simp [results, Tryz.results19, go_sem, *]) rfl ?_
    exact unhide RES
  · have hcb : (r.code != 0) = true := by rw [bne_iff_ne]; exact hc
    have hcb2 : (r.code == 0) = false := by rw [beq_eq_false_iff_ne]; exact hc
    have r0 := (heap_at kr 0).1
    have r1 := (heap_at kr 1).1
    have r2 := (heap_at kr 2).1
    have g0 := (heap_at kr 0).2
    have g1 := (heap_at kr 1).2
    have g2 := (heap_at kr 2).2
    have RES := hide (show TsRes r w (.returned (.tuple #[.agg #[.slice none 0 0, .slice none 0 0, .slice none 0 0], .int .i64 0, .int .i64 r.code])) (((w3.setCell ⟨w.heap.size + 1 + 1, 0, none⟩ (.slice none 0 0)).setCell ⟨w.heap.size + 1 + 1, 1, none⟩ (.slice none 0 0)).setCell ⟨w.heap.size + 1 + 1, 2, none⟩ (.slice none 0 0)) from TsRes.no hc (((BB.setCell (p := ⟨w.heap.size + 1 + 1, 0, none⟩) (by show w.heap.size ≤ w.heap.size + 1 + 1; omega) _).setCell (p := ⟨w.heap.size + 1 + 1, 1, none⟩) (by show w.heap.size ≤ w.heap.size + 1 + 1; omega) _).setCell (p := ⟨w.heap.size + 1 + 1, 2, none⟩) (by show w.heap.size ≤ w.heap.size + 1 + 1; omega) _))
    clear kr BB NX kT
    go_wp2_with fail
    refine bodyPost_ret (v := .tuple #[.agg #[.slice none 0 0, .slice none 0 0, .slice none 0 0], .int .i64 0, .int .i64 r.code]) (by simp [results, Tryz.results19, go_sem, *]) rfl ?_
    exact unhide RES
end Go.Proofs.YtbhkmmdcdfjbkaaGreat

namespace Go.Proofs.YtbhkmmdcdfjbkaaGreat
open Go.RowKit

theorem downF_zero {ps : List (Option PageD)} {key : ByteArray} {id : Int} {h : Nat} : downF ps key 0 id h = (id, h) := by unfold downF; rfl
theorem downF_in {ps : List (Option PageD)} {key : ByteArray} {m : Nat} {id : Int} {h : Nat} {p : PageD} (hg : getP ps id = some p) (hu : underK key (hiP p) = true) : downF ps key (m + 1) id h = (id, h) := by
  rw [downF, hg]
  simp only
  rw [if_pos hu]
theorem downF_on {ps : List (Option PageD)} {key : ByteArray} {m : Nat} {id : Int} {h : Nat} {p : PageD} (hg : getP ps id = some p) (hu : underK key (hiP p) = false) : downF ps key (m + 1) id h = downF ps key m (riP p) (h + 1) := by
  rw [downF, hg]
  simp only
  rw [if_neg (by rw [hu]; simp)]
theorem downF_no {ps : List (Option PageD)} {key : ByteArray} {m : Nat} {id : Int} {h : Nat} (hg : getP ps id = none) : downF ps key m id h = (id, h) := by
  cases m with
  | zero => exact downF_zero
  | succ m => rw [downF, hg]
theorem downF_shift {ps : List (Option PageD)} {key : ByteArray} : ∀ (m : Nat) (id : Int) (h d : Nat), (downF ps key m id (h + d)).2 = (downF ps key m id h).2 + d
  | 0, id, h, d => by rw [downF_zero, downF_zero]
  | m + 1, id, h, d => by
    cases hg : getP ps id with
    | none => rw [downF_no hg, downF_no hg]
    | some p =>
      cases hu : underK key (hiP p) with
      | true => rw [downF_in hg hu, downF_in hg hu]
      | false =>
        rw [downF_on hg hu, downF_on hg hu, show h + d + 1 = (h + 1) + d by omega]
        exact downF_shift m _ _ _
theorem downF_fuel {ps : List (Option PageD)} {idx : List RefD} (t : Tre ps idx) {key : ByteArray} : ∀ (m n : Nat) (id : Int) (p : PageD) (h : Nat), getP ps id = some p → cntGe ps p.lo ≤ m → cntGe ps p.lo ≤ n → downF ps key m id h = downF ps key n id h
  | 0, _, _, _, _, hg, hm, _ => by have := cntGe_here (getP_mem hg); omega
  | _ + 1, 0, _, _, _, hg, _, hn => by have := cntGe_here (getP_mem hg); omega
  | m + 1, n + 1, id, p, h, hg, hm, hn => by
    cases hu : underK key (hiP p) with
    | true => rw [downF_in hg hu, downF_in hg hu]
    | false =>
      rw [downF_on hg hu, downF_on hg hu]
      rcases t.next _ p hg with ⟨h1, _⟩ | ⟨hlt, q, hq, hl⟩
      · rw [downF_no (by rw [h1]; exact getP_neg (by omega)), downF_no (by rw [h1]; exact getP_neg (by omega))]
      · have := cntGe_next (getP_mem hg) hlt
        exact downF_fuel t m n _ q _ hq (by rw [hl]; omega) (by rw [hl]; omega)
/-- Who begins further to the right goes no longer way. -/
theorem down_le {ps : List (Option PageD)} {idx : List RefD} (t : Tre ps idx) {key : ByteArray} {id' : Int} {p' : PageD} (hg' : getP ps id' = some p') (hk : ltK key p'.lo = false) {n : Nat} (hn : cntGe ps p'.lo ≤ n) : ∀ (m : Nat) (id : Int) (p : PageD) (h : Nat), getP ps id = some p → cntGe ps p.lo ≤ m → ltK p'.lo p.lo = false → (downF ps key n id' h).2 ≤ (downF ps key m id h).2
  | 0, _, _, _, hg, hm, _ => by have := cntGe_here (getP_mem hg); omega
  | m + 1, id, p, h, hg, hm, hl => by
    by_cases he : id = id'
    · subst he
      rw [hg] at hg'
      injection hg' with hg'
      subst hg'
      rw [downF_fuel t (m + 1) n id p h hg hm hn]
      exact Nat.le_refl _
    · have hu : underK p'.lo (hiP p) = false := by
        cases hu : underK p'.lo (hiP p) with
        | false => rfl
        | true => exact absurd (t.sep id id' p p' hg hg' ⟨hl, hu⟩) he
      obtain ⟨hne, hge⟩ := under_no hu
      have hku : underK key (hiP p) = false := by
        unfold underK
        rw [hne, ltK_le hk hge]
        rfl
      rw [downF_on hg hku]
      rcases t.next _ p hg with ⟨_, h2⟩ | ⟨hlt, q, hq, hql⟩
      · rw [h2] at hne; cases hne
      · have hc := cntGe_next (getP_mem hg) hlt
        have h3 := down_le t hg' hk hn m _ q (h + 1) hq (by rw [hql]; omega) (by rw [hql]; exact hge)
        have h4 := downF_shift (ps := ps) (key := key) n id' h 1
        omega
theorem mem_post {idx : List RefD} {k : Nat} {r x : RefD} (h : x ∈ idx) : x ∈ idx.take k ++ r :: idx.drop k := by
  rw [← List.take_append_drop k idx] at h
  rcases List.mem_append.1 h with h | h
  · exact List.mem_append_left _ h
  · exact List.mem_append_right _ (List.mem_cons_of_mem _ h)
/-- Posting makes no way longer. -/
theorem post_short {ps : List (Option PageD)} {idx : List RefD} (t : Tre ps idx) {id : Nat} {p : PageD} (hg : getP ps (id : Int) = some p) (key : ByteArray) : (downT ps (posT ps idx id p).idx key).2 ≤ (downT ps idx key).2 := by
  have t' := posT_tre t hg
  unfold posT at t' ⊢
  split
  · exact Nat.le_refl _
  · rename_i hf
    rw [if_neg hf] at t'
    simp only at t' ⊢
    obtain ⟨J, hJ⟩ : ∃ J, J = idx.take (pos (idx.map refE) p.lo) ++ ⟨p.lo, (id : Int)⟩ :: idx.drop (pos (idx.map refE) p.lo) := ⟨_, rfl⟩
    rw [← hJ] at t' ⊢
    obtain ⟨h1, a1, a2, _⟩ := pl_facts (k := key) t.rise t.first
    obtain ⟨g1, b1, b2, _⟩ := pl_facts (k := key) t'.rise t'.first
    have hm : idx[plR idx key] ∈ J := by rw [hJ]; exact mem_post (List.getElem_mem h1)
    obtain ⟨i, hi, ei⟩ := List.getElem_of_mem hm
    have hle : i ≤ plR J key := by
      rcases Nat.lt_or_ge (plR J key) i with h | h
      · have := b2 i hi h
        rw [ei, a1] at this
        cases this
      · exact h
    have hlow : ltK (J[plR J key]).low (idx[plR idx key]).low = false := by
      rw [← ei]
      rcases Nat.lt_or_eq_of_le hle with h | h
      · have hr : Rise (J.map refE) := t'.rise
        have h2 := hr.lt (i := i) (j := plR J key) (by rw [List.length_map]; exact g1) h
        rw [List.getElem_map, List.getElem_map] at h2
        exact ltK_asymm h2
      · subst h
        exact ltK_irr _
    obtain ⟨q, hq, hql⟩ := t.refs _ (List.getElem_mem h1)
    obtain ⟨q', hq', hql'⟩ := t'.refs _ (List.getElem_mem g1)
    have hc : ∀ l, cntGe ps l ≤ 40 := fun l => by
      have h1 : cntGe ps l ≤ ps.length := List.countP_le_length
      have := t.len.2
      omega
    unfold downT
    rw [List.getElem?_eq_getElem h1, List.getElem?_eq_getElem g1]
    exact down_le t hq' (by rw [hql']; exact b1) (hc _) 40 _ q 0 hq (hc _) (by rw [hql, hql']; exact hlow)
end Go.Proofs.YtbhkmmdcdfjbkaaGreat

namespace Go.Proofs.YtbhkmmdcdfjbkaaGreat
open Go.RowKit

set_option maxHeartbeats 2000000 in
theorem at1_any (a : Option Addr) (n c : Nat) (xs : List Int) (m : Int) (w : World) (hr : Row w a n xs) (hby : ∀ i, i < n → 0 ≤ xs.getD i 0 ∧ xs.getD i 0 ≤ 255) (hn : n ≤ 1048576) (hm : 1 ≤ m) (hm2 : m ≤ 100000) :
    Calls Tryz.prog 17 #[.slice a n c, .int .i64 1, .int .i64 m] w fun e w' => ∃ r : Int, e = .returned (.int .i64 r) ∧ 0 ≤ r ∧ r < m ∧ ∃ d, w' = w.drewN d := by
  have R := hide hr
  have BY := hide hby
  clear hr hby
  by_cases hm1 : m ≤ 1
  · clear R BY
    go_enter Tryz.func17, Tryz.ntmps17
    go_wp2_with fail
    go_ret
    exact ⟨0, rfl, by omega, by omega, 0, rfl⟩
  by_cases h0 : n = 0
  · subst h0
    clear R BY
    go_enter Tryz.func17, Tryz.ntmps17
    go_wp2_with fail
    go_ret
    refine ⟨_, rfl, ?_, ?_, 0, rfl⟩
    · first | exact Int.emod_nonneg _ (by omega) | (simp; omega)
    · first | exact Int.emod_lt_of_pos _ (by omega) | (simp; omega)
  have q0 : ((n : Int) == 0) = false := by simp; omega
  obtain ⟨b, off, rfl, e0⟩ := (unhide R).2 0 (by omega)
  obtain ⟨x0, x1⟩ := unhide BY 0 (by omega)
  by_cases h1 : n = 1
  · subst h1
    generalize xs.getD 0 0 = x at *
    simp only [Nat.add_zero] at e0
    go_enter Tryz.func17, Tryz.ntmps17
    go_wp2_with fail
    go_quiet (fail)
    go_wp2_with fail
    go_ret
    refine ⟨_, rfl, ?_, ?_, _, rfl⟩
    · first | exact Int.emod_nonneg _ (by omega) | (simp; omega)
    · first | exact Int.emod_lt_of_pos _ (by omega) | (simp; omega)
  obtain ⟨b', off', e, e1⟩ := (unhide R).2 1 (by omega)
  cases e
  obtain ⟨y0, y1⟩ := unhide BY 1 (by omega)
  by_cases h2 : n = 2
  · subst h2
    generalize xs.getD 0 0 = x at *
    generalize xs.getD 1 0 = y at *
    simp only [Nat.add_zero] at e0
    go_enter Tryz.func17, Tryz.ntmps17
    go_wp2_with fail
    go_quiet (fail)
    go_wp2_with fail
    go_ret
    refine ⟨_, rfl, ?_, ?_, _, rfl⟩
    · first | exact Int.emod_nonneg _ (by omega) | (simp; omega)
    · first | exact Int.emod_lt_of_pos _ (by omega) | (simp; omega)
  obtain ⟨b2, off2, e, e2⟩ := (unhide R).2 2 (by omega)
  cases e
  obtain ⟨z0, z1⟩ := unhide BY 2 (by omega)
  generalize xs.getD 1 0 = y at *
  generalize xs.getD 2 0 = z at *
  clear e0 x0 x1
  have hmod : (1 : Int) % (n : Int) = 1 := Int.emod_eq_of_lt (by omega) (by omega)
  have hmod2 : (2 : Int) % (n : Int) = 2 := Int.emod_eq_of_lt (by omega) (by omega)
  have hdiv : (1 : Int) / (n : Int) = 0 := Int.ediv_eq_zero_of_lt (by omega) (by omega)
  have htm : Int.tmod 1 (n : Int) = 1 := by rw [Int.tmod_eq_emod_of_nonneg (by omega)]; exact hmod
  have htm2 : Int.tmod 2 (n : Int) = 2 := by rw [Int.tmod_eq_emod_of_nonneg (by omega)]; exact hmod2
  have htd : Int.tdiv 1 (n : Int) = 0 := by rw [Int.tdiv_eq_ediv_of_nonneg (by omega)]; exact hdiv
  go_enter Tryz.func17, Tryz.ntmps17
  go_wp2_with fail
  go_quiet (fail)
  go_wp2_with fail
  go_ret
  refine ⟨_, rfl, ?_, ?_, _, rfl⟩
  · first | exact Int.emod_nonneg _ (by omega) | (simp; omega)
  · first | exact Int.emod_lt_of_pos _ (by omega) | (simp; omega)
end Go.Proofs.YtbhkmmdcdfjbkaaGreat

namespace Go.Proofs.YtbhkmmdcdfjbkaaGreat
open Go.RowKit

theorem Tryz.entS : Tryz.prog.underlying 41 = some (.struct (Tryz.prog.fieldsOf 41)) := by kernel_rfl
theorem Tryz.entH : Tryz.prog.stoodInHeld 41 = false := by kernel_rfl
theorem Tryz.entG : Tryz.prog.eqGuardType Tryz.prog.depth 41 = false := by kernel_rfl
theorem Tryz.delS : Tryz.prog.underlying 90 = some (.struct (Tryz.prog.fieldsOf 90)) := by kernel_rfl
theorem Tryz.delH : Tryz.prog.stoodInHeld 90 = false := by kernel_rfl
theorem Tryz.delG : Tryz.prog.eqGuardType Tryz.prog.depth 90 = false := by kernel_rfl
set_option maxRecDepth 100000 in
theorem eqEntV (e : EntD) (w : World) : (Op.equalIn 10000 41 (.agg #[.string e.k, .string e.v]) (.agg #[.string e.k, .string e.v])).run Tryz.prog w = .ok true w := by
  rw [run_equalIn_struct w 9999 _ _ _ Tryz.entS Tryz.entH]
  simp [Program.fieldsOf, Tryz.underlying41, Op.eqFields, go_sem, Tryz.underlying9]
set_option maxRecDepth 100000 in
theorem eqDelV (d : DelD) (w : World) : (Op.equalIn 10000 90 (.agg #[.int .i64 d.kind, .string d.k, .string d.v, .int .i64 d.to]) (.agg #[.int .i64 d.kind, .string d.k, .string d.v, .int .i64 d.to])).run Tryz.prog w = .ok true w := by
  rw [run_equalIn_struct w 9999 _ _ _ Tryz.delS Tryz.delH]
  simp [Program.fieldsOf, Tryz.underlying90, Op.eqFields, go_sem, Tryz.underlying9, Tryz.underlying3]
set_option maxRecDepth 100000 in
set_option maxHeartbeats 2000000 in
theorem sameEntries_any (a a2 : Option Addr) (n c c2 : Nat) (es : List EntD) (w : World) (h1 : ERow w a n es) (h2 : ERow w a2 n es) (hn : n ≤ 1000) :
    Calls Tryz.prog 16 #[.slice a n c, .slice a2 n c2] w fun e w' => e = .returned (.bool true) ∧ Below w.heap.size w w' := by
  have R1 := hide h1
  have R2 := hide h2
  have LN := hide h1.1
  have q3 := Tryz.entG
  have q4 := eqEntV
  clear h1 h2
  go_enter Tryz.func16, Tryz.ntmps16
  go_wp2_with fail
  go_loopw [5] (fun i wr => ∃ k : Nat, k ≤ n ∧ i = .int .i64 k ∧ Below w.heap.size w wr) (fun i _ => n - (intOf i).toNat)
  case atStart => exact ⟨0, Nat.zero_le _, rfl, Below.refl _ _⟩
  case round =>
    obtain ⟨k, hk, rfl, hb⟩ := hrel
    by_cases hlt : k < n
    · have hl := unhide LN
      obtain ⟨b, off, rfl, c0, c1⟩ := ((unhide R1).below hb).2 k (by omega)
      obtain ⟨b', off', rfl, d0, d1⟩ := ((unhide R2).below hb).2 k (by omega)
      generalize es[k]'(by omega) = em at *
      clear hl
      go_wp2_with fail
      go_quiet (fail)
      go_wp2_with fail
      go_roundw
      case rel => exact ⟨k + 1, by omega, by go_num, bel_drewN hb _⟩
      case measure => simp [intOf]; omega
    · obtain rfl : k = n := by omega
      go_wp2_with fail
      go_ret
      exact ⟨rfl, hb⟩
theorem two_boxes (w : World) (cs ds : Array Value) (t u : TypeId) : ∃ W, W = (w.alloc (.cells cs t)).alloc (.cells ds u) ∧ Below w.heap.size w W ∧ W.heap[w.heap.size]? = some (.cells cs t (0, 0)) ∧ W.heap[w.heap.size + 1]? = some (.cells ds u (0, 0)) ∧ W.heap.size = w.heap.size + 2 := by
  refine ⟨_, rfl, ((Below.refl _ _).alloc (Nat.le_refl _) _).alloc (by simp) _, ?_, ?_, by simp⟩
  · have b2 : Below (w.heap.size + 1) (w.alloc (.cells cs t)) ((w.alloc (.cells cs t)).alloc (.cells ds u)) := (Below.refl _ _).alloc (by simp) _
    exact (b2.block w.heap.size (by omega)).trans (heap_alloc_new w _)
  · have := heap_alloc_new (w.alloc (.cells cs t)) (.cells ds u)
    simpa using this
theorem five_in {w : World} {b : Nat} {v0 v1 v2 v3 v4 : Value} {t : TypeId} (h : w.heap[b]? = some (.cells #[v0, v1, v2, v3, v4] t (0, 0))) : w.cell? ⟨b, 0, none⟩ = some v0 ∧ w.cell? ⟨b, 1, none⟩ = some v1 ∧ w.cell? ⟨b, 2, none⟩ = some v2 ∧ w.cell? ⟨b, 3, none⟩ = some v3 ∧ w.cell? ⟨b, 4, none⟩ = some v4 := by
  refine ⟨?_, ?_, ?_, ?_, ?_⟩ <;> simp [World.cell?, h]
theorem heap_lt2 {w : World} {b : Nat} {o : Obj} (h : w.heap[b]? = some o) : b < w.heap.size := (Array.getElem?_eq_some_iff.1 h).1
set_option maxRecDepth 100000 in
set_option maxHeartbeats 4000000 in
theorem samePage_any (lo hi : ByteArray) (r : Int) (a a' : Option Addr) (n c c' : Nat) (es : List EntD) (a2 a2' : Option Addr) (n2 c2 c2' : Nat) (ds : List DelD) (w : World) (h1 : ERow w a n es) (h2 : ERow w a' n es) (g1 : DRow w a2 n2 ds) (g2 : DRow w a2' n2 ds) (hn : n ≤ 1000) (hn2 : n2 ≤ 1000) :
    Calls Tryz.prog 30 #[pgv lo hi r a n c a2 n2 c2, pgv lo hi r a' n c' a2' n2 c2'] w fun e w' => e = .returned (.bool true) ∧ Below w.heap.size w w' := by
  obtain ⟨W0, hW0, hB0, k1, k2, hz⟩ := two_boxes w #[.string lo, .string hi, .int .i64 r, .slice a n c, .slice a2 n2 c2] #[.string lo, .string hi, .int .i64 r, .slice a' n c', .slice a2' n2 c2'] 67 67
  have R1 := hide (h1.below hB0)
  have R2 := hide (h2.below hB0)
  have D1 := hide (g1.below hB0)
  have D2 := hide (g2.below hB0)
  have LN := hide g1.1
  have q3 := Tryz.delG
  have q4 := eqDelV
  obtain ⟨p0, p1, p2, p3, p4⟩ := five_in k1
  obtain ⟨s0, s1, s2, s3, s4⟩ := five_in k2
  have K1 := hide k1
  have K2 := hide k2
  clear h1 h2 g1 g2 k1 k2
  go_enter Tryz.func30, Tryz.ntmps30
  go_upto_region 1 with fail
  rw [← hW0]
  clear hW0
  go_wp2_with fail
  refine (sameEntries_any a a' n c c' es W0 (unhide R1) (unhide R2) hn).mono ?_
  rintro e w1 ⟨rfl, hb1⟩
  replace D1 := hide ((unhide D1).below hb1)
  replace D2 := hide ((unhide D2).below hb1)
  replace K1 := hide ((hb1.block _ (heap_lt2 (unhide K1))).trans (unhide K1))
  replace K2 := hide ((hb1.block _ (heap_lt2 (unhide K2))).trans (unhide K2))
  have B1 := hB0.trans (hb1.mono hB0.size)
  clear p0 p1 p2 p3 p4 s0 s1 s2 s3 s4 hb1 hB0 R1 R2
  obtain ⟨p0, p1, p2, p3, p4⟩ := five_in (unhide K1)
  obtain ⟨s0, s1, s2, s3, s4⟩ := five_in (unhide K2)
  go_wp2_with fail
  clear p0 p1 p2 p3 s0 s1 s2 s3
  go_loopw [5] (fun i wr => ∃ k : Nat, k ≤ n2 ∧ i = .int .i64 k ∧ Below w1.heap.size w1 wr) (fun i _ => n2 - (intOf i).toNat)
  case atStart => exact ⟨0, Nat.zero_le _, rfl, Below.refl _ _⟩
  case round =>
    obtain ⟨k, hk, rfl, hb⟩ := hrel
    have x4 := (hb.cell (p := ⟨w.heap.size, 4, none⟩) (heap_lt2 (unhide K1))).trans p4
    have y4 := (hb.cell (p := ⟨w.heap.size + 1, 4, none⟩) (heap_lt2 (unhide K2))).trans s4
    by_cases hlt : k < n2
    · have hl := unhide LN
      obtain ⟨b, off, rfl, c0, c1, e2, e3⟩ := ((unhide D1).below hb).2 k (by omega)
      obtain ⟨b', off', rfl, d0, d1, f2, f3⟩ := ((unhide D2).below hb).2 k (by omega)
      generalize ds[k]'(by omega) = em at *
      clear hl
      go_wp2_with fail
      go_quiet (fail)
      go_wp2_with fail
      go_roundw
      case rel => exact ⟨k + 1, by omega, by go_num, bel_drewN hb _⟩
      case measure => simp [intOf]; omega
    · obtain rfl : k = n2 := by omega
      go_wp2_with fail
      go_ret
      exact ⟨rfl, B1.trans (hb.mono B1.size)⟩
end Go.Proofs.YtbhkmmdcdfjbkaaGreat

namespace Go.Proofs.YtbhkmmdcdfjbkaaGreat
open Go.RowKit

theorem Tryz.refS : Tryz.prog.underlying 69 = some (.struct (Tryz.prog.fieldsOf 69)) := by kernel_rfl
theorem Tryz.refH : Tryz.prog.stoodInHeld 69 = false := by kernel_rfl
theorem Tryz.refG : Tryz.prog.eqGuardType Tryz.prog.depth 69 = false := by kernel_rfl
set_option maxRecDepth 100000 in
theorem eqRefV (d : RefD) (w : World) : (Op.equalIn 10000 69 (.agg #[.string d.low, .int .i64 d.id]) (.agg #[.string d.low, .int .i64 d.id])).run Tryz.prog w = .ok true w := by
  rw [run_equalIn_struct w 9999 _ _ _ Tryz.refS Tryz.refH]
  simp [Program.fieldsOf, Tryz.underlying69, Op.eqFields, go_sem, Tryz.underlying9, Tryz.underlying3]
theorem xt_eqlb (x : Bool) (w : World) : (binOp .neq 4 (.bool x) (.bool x)).run Tryz.prog w = .ok (.bool false) w := by cases x <;> kernel_rfl
theorem three_in {w : World} {b : Nat} {v0 v1 v2 : Value} {t : TypeId} (h : w.heap[b]? = some (.cells #[v0, v1, v2] t (0, 0))) : w.cell? ⟨b, 0, none⟩ = some v0 ∧ w.cell? ⟨b, 1, none⟩ = some v1 ∧ w.cell? ⟨b, 2, none⟩ = some v2 := by
  refine ⟨?_, ?_, ?_⟩ <;> simp [World.cell?, h]
set_option maxRecDepth 100000 in
set_option maxHeartbeats 8000000 in
theorem sameTree_any (ap ap' : Option Addr) (np cp cp' : Nat) (ag ag' : Option Addr) (cg cg' : Nat) (ai ai' : Option Addr) (ni ci ci' : Nat) (hs hs' : List PpH) (gs : List Bool) (idx : List RefD) (w : World) (h1 : TrIn w ap np cp ag np cg ai ni hs gs idx) (h2 : TrIn w ap' np cp' ag' np cg' ai' ni hs' gs idx) (hX : hs'.map (·.X) = hs.map (·.X)) (hn : np ≤ 1000 ∧ ni ≤ 1000) (hl : ∀ h ∈ hs, h.s0.n ≤ 1000 ∧ h.s1.n ≤ 1000) :
    Calls Tryz.prog 9 #[.agg #[.slice ap np cp, .slice ag np cg, .slice ai ni ci], .agg #[.slice ap' np cp', .slice ag' np cg', .slice ai' ni ci']] w fun e w' => e = .returned (.bool true) ∧ Below w.heap.size w w' := by
  obtain ⟨W0, hW0, hB0, k1, k2, hz⟩ := two_boxes w #[.slice ap np cp, .slice ag np cg, .slice ai ni ci] #[.slice ap' np cp', .slice ag' np cg', .slice ai' ni ci'] 29 29
  have T1 := hide (h1.below hB0)
  have T2 := hide (h2.below hB0)
  have LP := hide h1.plen
  have LP2 := hide h2.plen
  have LG := hide h1.glen
  have LI := hide h1.ix.1
  have XX := hide hX
  have LL := hide hl
  have K1 := hide k1
  have K2 := hide k2
  obtain ⟨p0, p1, p2⟩ := three_in k1
  obtain ⟨s0, s1, s2⟩ := three_in k2
  obtain ⟨hn1, hn2⟩ := hn
  clear h1 h2 hX hl k1 k2 hz
  go_enter Tryz.func9, Tryz.ntmps9
  go_upto_region 1 with fail
  rw [← hW0]
  clear hW0
  go_wp2_with fail
  clear p0 p1 p2 s0 s1 s2
  go_loopw [5] (fun i wr => ∃ k : Nat, k ≤ np ∧ i = .int .i64 k ∧ Below W0.heap.size W0 wr) (fun i _ => np - (intOf i).toNat)
  case atStart => exact ⟨0, Nat.zero_le _, rfl, Below.refl _ _⟩
  case round =>
    obtain ⟨k, hk, rfl, hb⟩ := hrel
    have SB := hide (show ∀ u, Below W0.heap.size W0 u → (u.cell? ⟨w.heap.size, 0, none⟩ = some (.slice ap np cp) ∧ u.cell? ⟨w.heap.size, 1, none⟩ = some (.slice ag np cg) ∧ u.cell? ⟨w.heap.size, 2, none⟩ = some (.slice ai ni ci) ∧ u.cell? ⟨w.heap.size + 1, 0, none⟩ = some (.slice ap' np cp') ∧ u.cell? ⟨w.heap.size + 1, 1, none⟩ = some (.slice ag' np cg') ∧ u.cell? ⟨w.heap.size + 1, 2, none⟩ = some (.slice ai' ni ci')) from fun u hu => by
      obtain ⟨a0, a1, a2⟩ := three_in ((hu.block w.heap.size (heap_lt2 (unhide K1))).trans (unhide K1))
      obtain ⟨b0, b1, b2⟩ := three_in ((hu.block (w.heap.size + 1) (heap_lt2 (unhide K2))).trans (unhide K2))
      exact ⟨a0, a1, a2, b0, b1, b2⟩)
    obtain ⟨a0, a1, a2, b0, b1, b2⟩ := unhide SB wr hb
    by_cases hlt : k < np
    · have hk1 : k < hs.length := by rw [unhide LP]; exact hlt
      have hk2 : k < hs'.length := by rw [unhide LP2]; exact hlt
      have hkg : k < gs.length := by rw [unhide LG]; exact hlt
      have ex : hs'[k].X = hs[k].X := by
        have e := congrArg (·[k]?) (unhide XX)
        simp only [List.getElem?_map, List.getElem?_eq_getElem hk1, List.getElem?_eq_getElem hk2, Option.map_some] at e
        injection e
      have A := (unhide T1).below hb
      have B := (unhide T2).below hb
      obtain ⟨b, off, hab, hbl, c0, c1, c2, c3, c4⟩ := PpIn.cells A.pgs hk1
      obtain ⟨b', off', hab', hbl', d0, d1, d2, d3, d4⟩ := PpIn.cells B.pgs hk2
      obtain ⟨r1, r2⟩ := PpIn.sub A.pgs hk1
      obtain ⟨r3, r4⟩ := PpIn.sub B.pgs hk2
      have hl0 := unhide LL hs[k] (List.getElem_mem hk1)
      have n1 := rowC_len r1
      have n2 := rowC_len r2
      have n3 := rowC_len r3
      have n4 := rowC_len r4
      rw [ex] at d0 d1 d2 r3 r4 n3 n4
      have e3 : hs'[k].s0.n = hs[k].s0.n := by omega
      have e4 : hs'[k].s1.n = hs[k].s1.n := by omega
      have HP := hide (fun (u : World) (hu : Below wr.heap.size wr u) => samePage_any hs[k].X.lo hs[k].X.hi hs[k].X.r hs[k].s0.a hs'[k].s0.a hs[k].s0.n hs[k].s0.c hs'[k].s0.c hs[k].X.es hs[k].s1.a hs'[k].s1.a hs[k].s1.n hs[k].s1.c hs'[k].s1.c hs[k].X.ds u ((erow_C r1).below hu) (by have h := (erow_C r3).below hu; rw [e3] at h; exact h) ((drow_C r2).below hu) (by have h := (drow_C r4).below hu; rw [e4] at h; exact h) hl0.1 hl0.2)
      unfold pgv at HP
      rw [e3] at d3
      rw [e4] at d4
      obtain ⟨gb, go, hgb, f0⟩ := A.gone.at (j := k) (u := .bool gs[k]) (by rw [List.getElem?_map, List.getElem?_eq_getElem hkg]; rfl)
      obtain ⟨gb', go', hgb', f1⟩ := B.gone.at (j := k) (u := .bool gs[k]) (by rw [List.getElem?_map, List.getElem?_eq_getElem hkg]; rfl)
      subst hab hab' hgb hgb'
      have gl := cell_lt f0
      have gl' := cell_lt f1
      simp only at gl gl'
      have q4 := xt_eqlb
      generalize gs[k] = gk at *
      generalize hs[k] = x at *
      generalize hs'[k] = x' at *
      obtain ⟨X, ⟨sa, sn, sc⟩, ⟨da, dn, dc⟩⟩ := x
      obtain ⟨X', ⟨ta, tn, tc⟩, ⟨va, vn, vc⟩⟩ := x'
      simp only at c0 c1 c2 c3 c4 d0 d1 d2 d3 d4 HP
      have SK := hide (show ∀ u, Below wr.heap.size wr u → (u.cell? ⟨w.heap.size, 0, none⟩ = some (.slice (some ⟨b, off, none⟩) np cp) ∧ u.cell? ⟨w.heap.size, 1, none⟩ = some (.slice (some ⟨gb, go, none⟩) np cg) ∧ u.cell? ⟨w.heap.size, 2, none⟩ = some (.slice ai ni ci) ∧ u.cell? ⟨w.heap.size + 1, 0, none⟩ = some (.slice (some ⟨b', off', none⟩) np cp') ∧ u.cell? ⟨w.heap.size + 1, 1, none⟩ = some (.slice (some ⟨gb', go', none⟩) np cg') ∧ u.cell? ⟨w.heap.size + 1, 2, none⟩ = some (.slice ai' ni ci') ∧ u.cell? ⟨b, off + k * 5, none⟩ = some (.string X.lo) ∧ u.cell? ⟨b, off + k * 5 + 1, none⟩ = some (.string X.hi) ∧ u.cell? ⟨b, off + k * 5 + 2, none⟩ = some (.int .i64 X.r) ∧ u.cell? ⟨b, off + k * 5 + 3, none⟩ = some (.slice sa sn sc) ∧ u.cell? ⟨b, off + k * 5 + 4, none⟩ = some (.slice da dn dc) ∧ u.cell? ⟨b', off' + k * 5, none⟩ = some (.string X.lo) ∧ u.cell? ⟨b', off' + k * 5 + 1, none⟩ = some (.string X.hi) ∧ u.cell? ⟨b', off' + k * 5 + 2, none⟩ = some (.int .i64 X.r) ∧ u.cell? ⟨b', off' + k * 5 + 3, none⟩ = some (.slice ta sn tc) ∧ u.cell? ⟨b', off' + k * 5 + 4, none⟩ = some (.slice va dn vc) ∧ u.cell? ⟨gb, go + k, none⟩ = some (.bool gk) ∧ u.cell? ⟨gb', go' + k, none⟩ = some (.bool gk)) from fun u hu => by
        obtain ⟨a0, a1, a2, b0, b1, b2⟩ := unhide SB u (hb.trans (hu.mono hb.size))
        exact ⟨a0, a1, a2, b0, b1, b2, (hu.cell (p := ⟨b, off + k * 5, none⟩) hbl).trans c0, (hu.cell (p := ⟨b, off + k * 5 + 1, none⟩) hbl).trans c1, (hu.cell (p := ⟨b, off + k * 5 + 2, none⟩) hbl).trans c2, (hu.cell (p := ⟨b, off + k * 5 + 3, none⟩) hbl).trans c3, (hu.cell (p := ⟨b, off + k * 5 + 4, none⟩) hbl).trans c4, (hu.cell (p := ⟨b', off' + k * 5, none⟩) hbl').trans d0, (hu.cell (p := ⟨b', off' + k * 5 + 1, none⟩) hbl').trans d1, (hu.cell (p := ⟨b', off' + k * 5 + 2, none⟩) hbl').trans d2, (hu.cell (p := ⟨b', off' + k * 5 + 3, none⟩) hbl').trans d3, (hu.cell (p := ⟨b', off' + k * 5 + 4, none⟩) hbl').trans d4, (hu.cell (p := ⟨gb, go + k, none⟩) gl).trans f0, (hu.cell (p := ⟨gb', go' + k, none⟩) gl').trans f1⟩)
      clear ex A B r1 r2 r3 r4 n1 n2 n3 n4 e3 e4 hl0 hk1 hk2 hkg
      go_upto_region 6 with fail
      clear a0 a1 a2 b0 b1 b2 c0 c1 c2 c3 c4 d0 d1 d2 d3 d4 f0 f1
      refine wp_region_held_drew (S := (fun u => (u.cell? ⟨w.heap.size, 0, none⟩ = some (.slice (some ⟨b, off, none⟩) np cp) ∧ u.cell? ⟨w.heap.size, 1, none⟩ = some (.slice (some ⟨gb, go, none⟩) np cg) ∧ u.cell? ⟨w.heap.size, 2, none⟩ = some (.slice ai ni ci) ∧ u.cell? ⟨w.heap.size + 1, 0, none⟩ = some (.slice (some ⟨b', off', none⟩) np cp') ∧ u.cell? ⟨w.heap.size + 1, 1, none⟩ = some (.slice (some ⟨gb', go', none⟩) np cg') ∧ u.cell? ⟨w.heap.size + 1, 2, none⟩ = some (.slice ai' ni ci') ∧ u.cell? ⟨b, off + k * 5, none⟩ = some (.string X.lo) ∧ u.cell? ⟨b, off + k * 5 + 1, none⟩ = some (.string X.hi) ∧ u.cell? ⟨b, off + k * 5 + 2, none⟩ = some (.int .i64 X.r) ∧ u.cell? ⟨b, off + k * 5 + 3, none⟩ = some (.slice sa sn sc) ∧ u.cell? ⟨b, off + k * 5 + 4, none⟩ = some (.slice da dn dc) ∧ u.cell? ⟨b', off' + k * 5, none⟩ = some (.string X.lo) ∧ u.cell? ⟨b', off' + k * 5 + 1, none⟩ = some (.string X.hi) ∧ u.cell? ⟨b', off' + k * 5 + 2, none⟩ = some (.int .i64 X.r) ∧ u.cell? ⟨b', off' + k * 5 + 3, none⟩ = some (.slice ta sn tc) ∧ u.cell? ⟨b', off' + k * 5 + 4, none⟩ = some (.slice va dn vc) ∧ u.cell? ⟨gb, go + k, none⟩ = some (.bool gk) ∧ u.cell? ⟨gb', go' + k, none⟩ = some (.bool gk)))) (by kernel_rfl) (unhide SK _ ((Below.refl _ _).drew)) (fun hHeld => ?_)
      have Ds := hide (show Below wr.heap.size wr wr.drew from (Below.refl _ _).drew)
      generalize wr.drew = us at *
      refine anyH_take 0 39 (v := ?v1) rfl rfl (by kernel_rfl) (by kernel_rfl) (by kernel_rfl) (fun _ _ _ h => h) (by rfl) ?h1 hHeld ?r1
      case h1 => (intro w hSw; (try dsimp only at hSw); go_simp; try (with_reducible rfl))
      simp only [Act.put, List.setIfInBounds_toArray, List.set_cons_zero, List.set_cons_succ]
      refine anyH_take 1 40 (v := ?v2) rfl rfl (by kernel_rfl) (by kernel_rfl) (by kernel_rfl) (fun _ _ _ h => h) (by rfl) ?h2 hHeld ?r2
      case h2 => (intro w hSw; (try dsimp only at hSw); go_simp; try (with_reducible rfl))
      simp only [Act.put, List.setIfInBounds_toArray, List.set_cons_zero, List.set_cons_succ]
      refine anyH_take 2 41 (v := ?v3) rfl rfl (by kernel_rfl) (by kernel_rfl) (by kernel_rfl) (fun _ _ _ h => h) (by rfl) ?h3 hHeld ?r3
      case h3 => (intro w hSw; (try dsimp only at hSw); go_simp; try (with_reducible rfl))
      simp only [Act.put, List.setIfInBounds_toArray, List.set_cons_zero, List.set_cons_succ]
      refine anyH_take 3 42 (v := ?v4) rfl rfl (by kernel_rfl) (by kernel_rfl) (by kernel_rfl) (fun _ _ _ h => h) (by rfl) ?h4 hHeld ?r4
      case h4 => (intro w hSw; (try dsimp only at hSw); go_simp; try (with_reducible rfl))
      simp only [Act.put, List.setIfInBounds_toArray, List.set_cons_zero, List.set_cons_succ]
      refine anyH_take 4 43 (v := ?v5) rfl rfl (by kernel_rfl) (by kernel_rfl) (by kernel_rfl) (fun _ _ _ h => h) (by rfl) ?h5 hHeld ?r5
      case h5 => (intro w hSw; (try dsimp only at hSw); go_simp; try (with_reducible rfl))
      simp only [Act.put, List.setIfInBounds_toArray, List.set_cons_zero, List.set_cons_succ]
      refine anyH_take 5 44 (v := ?v6) rfl rfl (by kernel_rfl) (by kernel_rfl) (by kernel_rfl) (fun _ _ _ h => h) (by rfl) ?h6 hHeld ?r6
      case h6 => (intro w hSw; (try dsimp only at hSw); go_simp; try (with_reducible rfl))
      simp only [Act.put, List.setIfInBounds_toArray, List.set_cons_zero, List.set_cons_succ]
      refine anyH_take 6 45 (v := ?v7) rfl rfl (by kernel_rfl) (by kernel_rfl) (by kernel_rfl) (fun _ _ _ h => h) (by rfl) ?h7 hHeld ?r7
      case h7 => (intro w hSw; (try dsimp only at hSw); go_simp; try (with_reducible rfl))
      simp only [Act.put, List.setIfInBounds_toArray, List.set_cons_zero, List.set_cons_succ]
      refine anyH_take 7 46 (v := ?v8) rfl rfl (by kernel_rfl) (by kernel_rfl) (by kernel_rfl) (fun _ _ _ h => h) (by rfl) ?h8 hHeld ?r8
      case h8 => (intro w hSw; (try dsimp only at hSw); go_simp; try (with_reducible rfl))
      simp only [Act.put, List.setIfInBounds_toArray, List.set_cons_zero, List.set_cons_succ]
      refine anyH_take 8 47 (v := ?v9) rfl rfl (by kernel_rfl) (by kernel_rfl) (by kernel_rfl) (fun _ _ _ h => h) (by rfl) ?h9 hHeld ?r9
      case h9 => (intro w hSw; (try dsimp only at hSw); go_simp; try (with_reducible rfl))
      simp only [Act.put, List.setIfInBounds_toArray, List.set_cons_zero, List.set_cons_succ]
      refine anyH_take 9 48 (v := ?v10) rfl rfl (by kernel_rfl) (by kernel_rfl) (by kernel_rfl) (fun _ _ _ h => h) (by rfl) ?h10 hHeld ?r10
      case h10 => (intro w hSw; (try dsimp only at hSw); go_simp; try (with_reducible rfl))
      simp only [Act.put, List.setIfInBounds_toArray, List.set_cons_zero, List.set_cons_succ]
      refine wpAnyH_ready (rs := [10]) (by kernel_rfl) (by simp) ?_
      refine AllReadyH.cons rfl (fun K hK => ?_) AllReadyH.nil
      go_simp
      refine (unhide HP us (unhide Ds)).mono ?_
      rintro e u7 ⟨rfl, hb7⟩
      have D7 := hide ((unhide Ds).trans (hb7.mono (unhide Ds).size))
      clear hb7
      refine hK.out _ _ (unhide SK _ (unhide D7)) (fun hHeld => ?_)
      clear hK K
      refine anyH_take 11 50 (v := ?v11) rfl rfl (by kernel_rfl) (by kernel_rfl) (by kernel_rfl) (fun _ _ _ h => h) (by rfl) ?h11 hHeld ?r11
      case h11 => (intro w hSw; (try dsimp only at hSw); go_simp; try (with_reducible rfl))
      simp only [Act.put, List.setIfInBounds_toArray, List.set_cons_zero, List.set_cons_succ]
      refine anyH_take 12 51 (v := ?v12) rfl rfl (by kernel_rfl) (by kernel_rfl) (by kernel_rfl) (fun _ _ _ h => h) (by rfl) ?h12 hHeld ?r12
      case h12 => (intro w hSw; (try dsimp only at hSw); go_simp; try (with_reducible rfl))
      simp only [Act.put, List.setIfInBounds_toArray, List.set_cons_zero, List.set_cons_succ]
      refine anyH_take 13 52 (v := ?v13) rfl rfl (by kernel_rfl) (by kernel_rfl) (by kernel_rfl) (fun _ _ _ h => h) (by rfl) ?h13 hHeld ?r13
      case h13 => (intro w hSw; (try dsimp only at hSw); go_simp; try (with_reducible rfl))
      simp only [Act.put, List.setIfInBounds_toArray, List.set_cons_zero, List.set_cons_succ]
      refine anyH_take 14 53 (v := ?v14) rfl rfl (by kernel_rfl) (by kernel_rfl) (by kernel_rfl) (fun _ _ _ h => h) (by rfl) ?h14 hHeld ?r14
      case h14 => (intro w hSw; (try dsimp only at hSw); go_simp; try (with_reducible rfl))
      simp only [Act.put, List.setIfInBounds_toArray, List.set_cons_zero, List.set_cons_succ]
      refine anyH_take 15 54 (v := ?v15) rfl rfl (by kernel_rfl) (by kernel_rfl) (by kernel_rfl) (fun _ _ _ h => h) (by rfl) ?h15 hHeld ?r15
      case h15 => (intro w hSw; (try dsimp only at hSw); go_simp; try (with_reducible rfl))
      simp only [Act.put, List.setIfInBounds_toArray, List.set_cons_zero, List.set_cons_succ]
      refine anyH_take 16 55 (v := ?v16) rfl rfl (by kernel_rfl) (by kernel_rfl) (by kernel_rfl) (fun _ _ _ h => h) (by rfl) ?h16 hHeld ?r16
      case h16 => (intro w hSw; (try dsimp only at hSw); go_simp; try (with_reducible rfl))
      simp only [Act.put, List.setIfInBounds_toArray, List.set_cons_zero, List.set_cons_succ]
      refine anyH_take 17 56 (v := ?v17) rfl rfl (by kernel_rfl) (by kernel_rfl) (by kernel_rfl) (fun _ _ _ h => h) (by rfl) ?h17 hHeld ?r17
      case h17 => (intro w hSw; (try dsimp only at hSw); go_simp; try (with_reducible rfl))
      simp only [Act.put, List.setIfInBounds_toArray, List.set_cons_zero, List.set_cons_succ]
      refine anyH_take 18 57 (v := ?v18) rfl rfl (by kernel_rfl) (by kernel_rfl) (by kernel_rfl) (fun _ _ _ h => h) (by rfl) ?h18 hHeld ?r18
      case h18 => (intro w hSw; (try dsimp only at hSw); go_simp; try (with_reducible rfl))
      simp only [Act.put, List.setIfInBounds_toArray, List.set_cons_zero, List.set_cons_succ]
      refine anyH_take 19 58 (v := ?v19) rfl rfl (by kernel_rfl) (by kernel_rfl) (by kernel_rfl) (fun _ _ _ h => h) (by rfl) ?h19 hHeld ?r19
      case h19 => (intro w hSw; (try dsimp only at hSw); go_simp; try (with_reducible rfl))
      simp only [Act.put, List.setIfInBounds_toArray, List.set_cons_zero, List.set_cons_succ]
      refine anyH_take 20 59 (v := ?v20) rfl rfl (by kernel_rfl) (by kernel_rfl) (by kernel_rfl) (fun _ _ _ h => h) (by rfl) ?h20 hHeld ?r20
      case h20 => (intro w hSw; (try dsimp only at hSw); go_simp; try (with_reducible rfl))
      simp only [Act.put, List.setIfInBounds_toArray, List.set_cons_zero, List.set_cons_succ]
      refine anyH_take 21 60 (v := ?v21) rfl rfl (by kernel_rfl) (by kernel_rfl) (by kernel_rfl) (fun _ _ _ h => h) (by rfl) ?h21 hHeld ?r21
      case h21 => (intro w hSw; (try dsimp only at hSw); go_simp; try (with_reducible rfl))
      simp only [Act.put, List.setIfInBounds_toArray, List.set_cons_zero, List.set_cons_succ]
      refine anyH_take 22 61 (v := ?v22) rfl rfl (by kernel_rfl) (by kernel_rfl) (by kernel_rfl) (fun _ _ _ h => h) (by rfl) ?h22 hHeld ?r22
      case h22 => (intro w hSw; (try dsimp only at hSw); go_simp; try (with_reducible rfl))
      simp only [Act.put, List.setIfInBounds_toArray, List.set_cons_zero, List.set_cons_succ]
      refine anyH_take 23 62 (v := ?v23) rfl rfl (by kernel_rfl) (by kernel_rfl) (by kernel_rfl) (fun _ _ _ h => h) (by rfl) ?h23 hHeld ?r23
      case h23 => (intro w hSw; (try dsimp only at hSw); go_simp; try (with_reducible rfl))
      simp only [Act.put, List.setIfInBounds_toArray, List.set_cons_zero, List.set_cons_succ]
      refine anyH_take 24 63 (v := ?v24) rfl rfl (by kernel_rfl) (by kernel_rfl) (by kernel_rfl) (fun _ _ _ h => h) (by rfl) ?h24 hHeld ?r24
      case h24 => (intro w hSw; (try dsimp only at hSw); go_simp; try (with_reducible rfl))
      simp only [Act.put, List.setIfInBounds_toArray, List.set_cons_zero, List.set_cons_succ]
      refine wpAnyH_done (by kernel_rfl) ?_ _
      have bF := hb.trans ((unhide D7).mono hb.size)
      go_wp2_with fail
      go_roundw
      case rel => exact ⟨k + 1, by omega, by go_num, by first | exact bF | exact bel_drewN bF _⟩
      case measure => simp [intOf]; omega
    · obtain rfl : k = np := by omega
      go_wp2_with fail
      go_loopw [6] (fun i wx => ∃ k : Nat, k ≤ ni ∧ i = .int .i64 k ∧ Below W0.heap.size W0 wx) (fun i _ => ni - (intOf i).toNat)
      case atStart => exact ⟨0, Nat.zero_le _, rfl, hb⟩
      case round =>
        rename_i wx
        obtain ⟨k2, hk2, rfl, hb2⟩ := hrel
        clear a0 a1 a2 b0 b1 b2
        obtain ⟨a0, a1, a2, b0, b1, b2⟩ := unhide SB _ hb2
        by_cases hlt2 : k2 < ni
        · have hki : k2 < idx.length := by rw [unhide LI]; exact hlt2
          obtain ⟨b, off, rfl, c0, c1⟩ := ((unhide T1).below hb2).ix.2 k2 hki
          obtain ⟨b', off', rfl, d0, d1⟩ := ((unhide T2).below hb2).ix.2 k2 hki
          generalize idx[k2] = em at *
          have q3 := Tryz.refG
          have q4 := eqRefV
          clear hki hb
          go_wp2_with fail
          go_quiet (fail)
          go_wp2_with fail
          go_roundw
          case rel => exact ⟨k2 + 1, by omega, by go_num, bel_drewN hb2 _⟩
          case measure => simp [intOf]; omega
        · obtain rfl : k2 = ni := by omega
          go_wp2_with fail
          go_ret
          exact ⟨rfl, hB0.trans (hb2.mono hB0.size)⟩
end Go.Proofs.YtbhkmmdcdfjbkaaGreat

namespace Go.Proofs.YtbhkmmdcdfjbkaaGreat
open Go.RowKit

/-- A source at block p over the bytes xs of a slice; at most K bytes have been taken. -/
structure Src (w : World) (p : Nat) (a : Option Addr) (n c : Nat) (xs : List Int) (K : Int) : Prop where
  code : w.cell? ⟨p, 0, none⟩ = some (.slice a n c)
  place : ∃ t : Int, w.cell? ⟨p, 1, none⟩ = some (.int .i64 t) ∧ 0 ≤ t ∧ t ≤ K
  seed : ∃ s : Int, w.cell? ⟨p, 2, none⟩ = some (.int .i64 s) ∧ 0 ≤ s ∧ s < 2147483648
  free : ∀ j, w.frozen? ⟨p, j, none⟩ = false
  row : Row w a n xs
  bytes : ∀ i, i < n → 0 ≤ xs.getD i 0 ∧ xs.getD i 0 ≤ 255
  apart : ∀ x, a = some x → 0 < n → x.block ≠ p
  bound : n ≤ 1048576

theorem Only.drewN {p k : Nat} {w w1 : World} (h : Only p w w1) : Only p w (w1.drewN k) := ⟨h.os, h.tape, h.output, h.size, h.block, h.frozen⟩

theorem Only.drew {p : Nat} {w w1 : World} (h : Only p w w1) : Only p w w1.drew := ⟨h.os, h.tape, h.output, h.size, h.block, h.frozen⟩
theorem src_step {w w' : World} {p : Nat} {a : Option Addr} {n c : Nat} {xs : List Int} {K t s : Int} (ho : Only p w w') (h0 : w'.cell? ⟨p, 0, none⟩ = some (.slice a n c)) (h1 : w'.cell? ⟨p, 1, none⟩ = some (.int .i64 t))
    (h2 : w'.cell? ⟨p, 2, none⟩ = some (.int .i64 s)) (ht : 0 ≤ t) (htK : t ≤ K) (hs : 0 ≤ s) (hs1 : s < 2147483648) (hf : ∀ j, w.frozen? ⟨p, j, none⟩ = false) (hr : Row w a n xs)
    (hb : ∀ i, i < n → 0 ≤ xs.getD i 0 ∧ xs.getD i 0 ≤ 255) (ha : ∀ x, a = some x → 0 < n → x.block ≠ p) (hn : n ≤ 1048576) : Src w' p a n c xs K := by
  refine ⟨h0, ⟨t, h1, ht, htK⟩, ⟨s, h2, hs, hs1⟩, fun j => (ho.frozen _).trans (hf j), ?_, hb, ha, hn⟩
  by_cases hp : 0 < n
  · exact hr.of_cells fun x hx q hq => ho.cell (by rw [hq]; exact ha x hx hp)
  · exact ⟨hr.1, fun i hi => absurd hi (by omega)⟩

set_option maxHeartbeats 1000000 in
theorem byte_any (p : Nat) (a : Option Addr) (n c : Nat) (xs : List Int) (K : Int) (w : World) (h : Src w p a n c xs K) (hK : K ≤ 1000000) :
    Calls Tryz.prog 78 #[.pointer (some ⟨p, 0, none⟩)] w fun e w' => ∃ r : Int, e = .returned (.int .i64 r) ∧ 0 ≤ r ∧ r ≤ 255 ∧ Only p w w' ∧ Src w' p a n c xs (K + 1) := by
  obtain ⟨hc, ⟨t, ht, ht0, htK⟩, ⟨s, hs, hs0, hs1⟩, hf, hr, hby, hap, hbd⟩ := h
  have f1 := hf 1
  have f2 := hf 2
  have R := hide hr
  have BY := hide hby
  have AP := hide hap
  have HF := hide hf
  clear hf hr hby hap
  by_cases hlt : t + 1 ≤ (n : Int)
  · obtain ⟨k, rfl⟩ := Int.eq_ofNat_of_zero_le ht0
    obtain ⟨b, off, rfl, e1⟩ := (unhide R).2 k (by omega)
    obtain ⟨x0, x1⟩ := unhide BY k (by omega)
    generalize hx : xs.getD k 0 = x at *
    have hne : ¬ b = p := unhide AP _ rfl (by omega)
    clear hx
    go_enter Tryz.func78, Tryz.ntmps78
    go_wp2_with fail
    go_quiet (fail)
    go_wp2_with fail
    have d0 : ((w.setCell ⟨p, 1, none⟩ (.int .i64 ((k : Int) + 1))).drewN nq).cell? ⟨p, 0, none⟩ = some (.slice (some ⟨b, off, none⟩) n c) := (World.cell?_setCell_other _ _ _ _ (by intro h; simp at h)).trans hc
    have d1 : ((w.setCell ⟨p, 1, none⟩ (.int .i64 ((k : Int) + 1))).drewN nq).cell? ⟨p, 1, none⟩ = some (.int .i64 ((k : Int) + 1)) := World.cell?_setCell_same _ _ _ ht
    have d2 : ((w.setCell ⟨p, 1, none⟩ (.int .i64 ((k : Int) + 1))).drewN nq).cell? ⟨p, 2, none⟩ = some (.int .i64 s) := (World.cell?_setCell_other _ _ _ _ (by intro h; simp at h)).trans hs
    have dr : ((w.setCell ⟨p, 1, none⟩ (.int .i64 ((k : Int) + 1))).drewN nq).cell? ⟨b, off + k, none⟩ = some (.int .u8 x) := (World.cell?_setCell_other _ _ _ _ (by intro h; simp only [Addr.mk.injEq] at h; exact hne h.1.symm)).trans e1
    have df : ((w.setCell ⟨p, 1, none⟩ (.int .i64 ((k : Int) + 1))).drewN nq).frozen? ⟨p, 2, none⟩ = false := by simpa using f2
    have dO : Only p w ((w.setCell ⟨p, 1, none⟩ (.int .i64 ((k : Int) + 1))).drewN nq) := Only.drewN (Only.setCell _ _ _ _)
    have DO := hide dO
    clear dO hc ht hs e1 f1 f2
    generalize (w.setCell ⟨p, 1, none⟩ (.int .i64 ((k : Int) + 1))).drewN nq = W1 at *
    go_region
    go_wp2_with fail
    go_quiet (fail)
    go_wp2_with fail
    go_ret
    refine ⟨x, rfl, x0, x1, Only.drewN (Only.drew ((unhide DO).trans (Only.setCell _ _ _ _))), ?_⟩
    refine src_step (t := (k : Int) + 1) (Only.drewN (Only.drew ((unhide DO).trans (Only.setCell _ _ _ _)))) ((World.cell?_setCell_other _ _ _ _ (by intro h; simp at h)).trans d0) ((World.cell?_setCell_other _ _ _ _ (by intro h; simp at h)).trans d1) (World.cell?_setCell_same _ _ _ d2) (by omega) (by omega) ?_ ?_ (unhide HF) (unhide R) (unhide BY) (unhide AP) hbd
    all_goals omega
  · have hgt : (n : Int) < t + 1 := by omega
    clear hlt
    by_cases h3 : 3000 < t + 1
    · go_enter Tryz.func78, Tryz.ntmps78
      go_wp2_with fail
      go_quiet (fail)
      go_wp2_with fail
      go_ret
      have hO := Only.drewN (k := nq) (Only.setCell w p 1 (.int .i64 (t + 1)))
      exact ⟨0, rfl, by omega, by omega, hO, src_step (t := t + 1) (s := s) hO ((World.cell?_setCell_other _ _ _ _ (by intro h; simp at h)).trans hc) (World.cell?_setCell_same _ _ _ ht) ((World.cell?_setCell_other _ _ _ _ (by intro h; simp at h)).trans hs) (by omega) (by omega) hs0 hs1 (unhide HF) (unhide R) (unhide BY) (unhide AP) hbd⟩
    · go_enter Tryz.func78, Tryz.ntmps78
      go_wp2_with fail
      go_quiet (fail)
      go_wp2_with fail
      go_ret
      have hO := Only.drewN (k := nq) (Only.setCell w p 1 (.int .i64 (t + 1)))
      have hO2 := hO.trans (Only.setCell _ p 2 (.int .i64 ((s * 1103515245 + 12345) % 2147483648)))
      refine ⟨_, rfl, ?_, ?_, hO2, src_step (t := t + 1) hO2 ((World.cell?_setCell_other _ _ _ _ (by intro h; simp at h)).trans ((World.cell?_setCell_other _ _ _ _ (by intro h; simp at h)).trans hc)) ((World.cell?_setCell_other _ _ _ _ (by intro h; simp at h)).trans (World.cell?_setCell_same _ _ _ ht)) (World.cell?_setCell_same _ _ _ ((World.cell?_setCell_other _ _ _ _ (by intro h; simp at h)).trans hs)) (by omega) (by omega) ?_ ?_ (unhide HF) (unhide R) (unhide BY) (unhide AP) hbd⟩
      all_goals omega
end Go.Proofs.YtbhkmmdcdfjbkaaGreat

namespace Go.Proofs.YtbhkmmdcdfjbkaaGreat
open Go.RowKit

theorem Src.more {w : World} {p : Nat} {a : Option Addr} {n c : Nat} {xs : List Int} {K K' : Int} (h : Src w p a n c xs K) (hk : K ≤ K') : Src w p a n c xs K' := by
  obtain ⟨h1, ⟨t, ht, ht0, htK⟩, h3, h4, h5, h6, h7, h8⟩ := h
  exact ⟨h1, ⟨t, ht, ht0, by omega⟩, h3, h4, h5, h6, h7, h8⟩

set_option maxHeartbeats 1000000 in
theorem next_any (p : Nat) (a : Option Addr) (n c : Nat) (xs : List Int) (K m : Int) (w : World) (h : Src w p a n c xs K) (hK : K ≤ 900000) (hm : 1 ≤ m) (hm2 : m ≤ 100000) :
    Calls Tryz.prog 39 #[.pointer (some ⟨p, 0, none⟩), .int .i64 m] w fun e w' => ∃ r : Int, e = .returned (.int .i64 r) ∧ 0 ≤ r ∧ r < m ∧ Only p w w' ∧ Src w' p a n c xs (K + 3) := by
  by_cases h1 : m ≤ 1
  · go_enter Tryz.func39, Tryz.ntmps39
    go_wp2_with fail
    go_ret
    exact ⟨0, rfl, by omega, by omega, Only.refl _ _, Src.more h (by omega)⟩
  by_cases h2 : m ≤ 256
  · go_enter Tryz.func39, Tryz.ntmps39
    go_wp2_with fail
    refine (byte_any p a n c xs K w h (by omega)).mono ?_
    rintro e w1 ⟨r, rfl, hr0, hr1, ho, hs⟩
    go_wp2_with fail
    go_ret
    refine ⟨_, rfl, ?_, ?_, ho, Src.more hs (by omega)⟩
    · exact Int.emod_nonneg _ (by omega)
    · exact Int.emod_lt_of_pos _ (by omega)
  · go_enter Tryz.func39, Tryz.ntmps39
    go_wp2_with fail
    refine (byte_any p a n c xs K w h (by omega)).mono ?_
    rintro e w1 ⟨r1, rfl, hr10, hr11, ho1, hs1⟩
    go_wp2_with fail
    refine (byte_any p a n c xs (K + 1) w1 hs1 (by omega)).mono ?_
    rintro e w2 ⟨r2, rfl, hr20, hr21, ho2, hs2⟩
    go_wp2_with fail
    refine (byte_any p a n c xs (K + 1 + 1) w2 hs2 (by omega)).mono ?_
    rintro e w3 ⟨r3, rfl, hr30, hr31, ho3, hs3⟩
    go_wp2_with fail
    go_ret
    refine ⟨_, rfl, ?_, ?_, (ho1.trans ho2).trans ho3, Src.more hs3 (by omega)⟩
    · exact Int.emod_nonneg _ (by omega)
    · exact Int.emod_lt_of_pos _ (by omega)

set_option maxHeartbeats 1000000 in
theorem source_any (a : Option Addr) (n c : Nat) (xs : List Int) (w : World) (hr : Row w a n xs) (hby : ∀ i, i < n → 0 ≤ xs.getD i 0 ∧ xs.getD i 0 ≤ 255) (hn : n ≤ 1048576) :
    Calls Tryz.prog 21 #[.slice a n c] w fun e w' => e = .returned (.pointer (some ⟨w.heap.size, 0, none⟩)) ∧ Src w' w.heap.size a n c xs 0 ∧ Below w.heap.size w w' ∧ w'.heap.size = w.heap.size + 1 := by
  have R := hide hr
  have BY := hide hby
  clear hr hby
  go_enter Tryz.func21, Tryz.ntmps21
  go_wp2_with fail
  go_ret
  refine ⟨rfl, ?_, (Below.refl _ _).alloc (Nat.le_refl _) _, by simp⟩
  have hb : Below w.heap.size w (w.alloc (.cells #[.slice a n c, .int .i64 0, .int .i64 ((n : Int) % 1000)] 82)) := (Below.refl _ _).alloc (Nat.le_refl _) _
  have hlt : ∀ x, a = some x → 0 < n → x.block < w.heap.size := fun x hx hp => by
    obtain ⟨b, off, e, hc⟩ := (unhide R).2 0 hp
    rw [hx] at e
    cases e
    exact cell_lt hc
  refine ⟨by simp, ⟨0, by simp, by omega, by omega⟩, ⟨(n : Int) % 1000, by simp, by omega, by omega⟩, fun j => by simp, ?_, unhide BY, fun x hx hp => Nat.ne_of_lt (hlt x hx hp), hn⟩
  by_cases hp : 0 < n
  · exact (unhide R).below hb (fun x hx => hlt x hx hp)
  · exact ⟨(unhide R).1, fun i hi => absurd hi (by omega)⟩
set_option maxHeartbeats 1000000 in
theorem pick_any (p g m mc : Nat) (a : Option Addr) (n c : Nat) (xs : List Int) (K : Int) (w : World) (h : Src w p a n c xs K) (hK : K ≤ 800000) (hm : 1 ≤ m) (hm2 : m ≤ 1000) (hg : g ≠ p) (T : ByteArray → Prop)
    (hT : ∀ i, i < m → ∃ t, w.cell? ⟨g, i, none⟩ = some (.string t) ∧ T t) :
    Calls Tryz.prog 66 #[.pointer (some ⟨p, 0, none⟩), .slice (some ⟨g, 0, none⟩) m mc] w fun e w' => ∃ t : ByteArray, e = .returned (.string t) ∧ T t ∧ Only p w w' ∧ Src w' p a n c xs (K + 3) := by
  have HT := hide hT
  clear hT
  have hb : ((m : Int) == 0) = false := by simp; omega
  go_enter Tryz.func66, Tryz.ntmps66
  go_wp2_with fail
  refine (next_any p a n c xs K (m : Int) w h (by omega) (by omega) (by omega)).mono ?_
  rintro e w1 ⟨r, rfl, hr0, hr1, ho, hs⟩
  obtain ⟨k, rfl⟩ := Int.eq_ofNat_of_zero_le hr0
  obtain ⟨t, ht, hTt⟩ := unhide HT k (by omega)
  have ht1 := (ho.cell (p := ⟨g, k, none⟩) hg).trans ht
  clear ht
  go_wp2_with fail
  go_ret
  exact ⟨t, rfl, hTt, ho, hs⟩

/-- A block that is made leaves a source as it was. -/
theorem Src.alloc {w : World} {p : Nat} {a : Option Addr} {n c : Nat} {xs : List Int} {K : Int} (h : Src w p a n c xs K) (o : Obj) : Src (w.alloc o) p a n c xs K := by
  have hb : Below w.heap.size w (w.alloc o) := (Below.refl _ _).alloc (Nat.le_refl _) _
  obtain ⟨h1, ⟨t, ht, ht0, htK⟩, ⟨s, hs, hs0, hs1⟩, h4, h5, h6, h7, h8⟩ := h
  have hp := cell_lt h1
  refine ⟨(hb.cell (p := ⟨p, 0, none⟩) hp).trans h1, ⟨t, (hb.cell (p := ⟨p, 1, none⟩) hp).trans ht, ht0, htK⟩, ⟨s, (hb.cell (p := ⟨p, 2, none⟩) hp).trans hs, hs0, hs1⟩, fun j => (hb.frozen (p := ⟨p, j, none⟩) hp).trans (h4 j), ?_, h6, h7, h8⟩
  by_cases hn : 0 < n
  · refine h5.below hb (fun x hx => ?_)
    obtain ⟨b, off, e, hc⟩ := h5.2 0 hn
    rw [hx] at e
    cases e
    exact cell_lt hc
  · exact ⟨h5.1, fun i hi => absurd hi (by omega)⟩

end Go.Proofs.YtbhkmmdcdfjbkaaGreat

namespace Go.Proofs.YtbhkmmdcdfjbkaaGreat
open Go.RowKit

theorem Src.of_blocks' {w w' : World} {p : Nat} {a : Option Addr} {n c : Nat} {xs : List Int} {K : Int} (h : Src w p a n c xs K) (hp : w'.heap[p]? = w.heap[p]?) (ha : ∀ x, a = some x → 0 < n → w'.heap[x.block]? = w.heap[x.block]?) : Src w' p a n c xs K := by
  obtain ⟨h1, ⟨t, ht, ht0, htK⟩, ⟨s, hs, hs0, hs1⟩, h4, h5, h6, h7, h8⟩ := h
  refine ⟨(World.cell?_of_block (w := w) (a := ⟨p, 0, none⟩) hp).trans h1, ⟨t, (World.cell?_of_block (w := w) (a := ⟨p, 1, none⟩) hp).trans ht, ht0, htK⟩, ⟨s, (World.cell?_of_block (w := w) (a := ⟨p, 2, none⟩) hp).trans hs, hs0, hs1⟩, fun j => (World.frozen?_of_block (w := w) (a := ⟨p, j, none⟩) hp).trans (h4 j), ⟨h5.1, fun i hi => ?_⟩, h6, h7, h8⟩
  obtain ⟨b, off, e, hc⟩ := h5.2 i hi
  have hb : w'.heap[b]? = w.heap[b]? := ha _ e (by omega)
  exact ⟨b, off, e, (World.cell?_of_block (w := w) (a := ⟨b, off + i, none⟩) hb).trans hc⟩
theorem src_code' {w : World} {p : Nat} {a : Option Addr} {n c : Nat} {xs : List Int} {K : Int} (h : Src w p a n c xs K) : ∀ x, a = some x → 0 < n → x.block < w.heap.size := fun x hx hn => by
  obtain ⟨b, off, e, hc⟩ := h.row.2 0 hn
  rw [hx] at e
  cases e
  exact cell_lt hc
theorem Src.below {w w' : World} {p : Nat} {a : Option Addr} {n c : Nat} {xs : List Int} {K : Int} (h : Src w p a n c xs K) (hb : Below w.heap.size w w') : Src w' p a n c xs K :=
  h.of_blocks' (hb.block _ (cell_lt h.code)) (fun x hx hn => hb.block _ (src_code' h x hx hn))
theorem Src.grown {w w' : World} {p B : Nat} {a : Option Addr} {n c : Nat} {xs : List Int} {K : Int} {row : Option Nat} (h : Src w p a n c xs K) (hg : w.grownBy w' row) (hr : ∀ k, row = some k → B ≤ k) (hp : p < B) (ha : ∀ x, a = some x → 0 < n → x.block < B) : Src w' p a n c xs K :=
  h.of_blocks' (hg.block p (cell_lt h.code) (fun e => by have := hr p e.symm; omega)) (fun x hx hn => hg.block _ (src_code' h x hx hn) (fun e => by have := hr _ e.symm; have := ha x hx hn; omega))
end Go.Proofs.YtbhkmmdcdfjbkaaGreat

namespace Go.Proofs.YtbhkmmdcdfjbkaaGreat
open Go.RowKit

set_option maxHeartbeats 1000000 in
theorem chanceD_any (p : Nat) (a : Option Addr) (n c : Nat) (xs : List Int) (K m : Int) (w : World) (h : Src w p a n c xs K) (hK : K ≤ 800000) (hm : 1 ≤ m) (hm2 : m ≤ 100000) :
    Calls Tryz.prog 79 #[.pointer (some ⟨p, 0, none⟩), .int .i64 m] w fun e w' => ∃ x : Bool, e = .returned (.bool x) ∧ Wrote p w w' ∧ Src w' p a n c xs (K + 3) := by
  go_enter Tryz.func79, Tryz.ntmps79
  go_wp2_with fail
  refine (next_any p a n c xs K m w h (by omega) hm hm2).mono ?_
  rintro e w1 ⟨r, rfl, hr0, hr1, ho, hs⟩
  have HO := hide ho.wrote
  have HS := hide hs
  clear ho hs
  go_wp2_with fail
  go_ret
  exact ⟨_, rfl, unhide HO, unhide HS⟩
set_option maxHeartbeats 1000000 in
theorem keyD_any (p : Nat) (a : Option Addr) (n c : Nat) (xs : List Int) (K : Int) (w : World) (h : Src w p a n c xs K) (hK : K ≤ 700000) :
    Calls Tryz.prog 65 #[.pointer (some ⟨p, 0, none⟩)] w fun e w' => ∃ t : ByteArray, e = .returned (.string t) ∧ (keyK t = true ∧ t.size = 1) ∧ Wrote p w w' ∧ Src w' p a n c xs (K + 3) := by
  have hp := cell_lt h.code
  go_enter Tryz.func65, Tryz.ntmps65
  go_wp2_with fail
  refine (pick_any p w.heap.size 10 10 a n c xs K _ (h.alloc _) (by omega) (by omega) (by omega) (by omega) (fun t => keyK t = true ∧ t.size = 1) (fun i hi => ?_)).mono ?_
  · match i, hi with
    | 0, _ => exact ⟨_, by simp; rfl, by decide, rfl⟩
    | 1, _ => exact ⟨_, by simp; rfl, by decide, rfl⟩
    | 2, _ => exact ⟨_, by simp; rfl, by decide, rfl⟩
    | 3, _ => exact ⟨_, by simp; rfl, by decide, rfl⟩
    | 4, _ => exact ⟨_, by simp; rfl, by decide, rfl⟩
    | 5, _ => exact ⟨_, by simp; rfl, by decide, rfl⟩
    | 6, _ => exact ⟨_, by simp; rfl, by decide, rfl⟩
    | 7, _ => exact ⟨_, by simp; rfl, by decide, rfl⟩
    | 8, _ => exact ⟨_, by simp; rfl, by decide, rfl⟩
    | 9, _ => exact ⟨_, by simp; rfl, by decide, rfl⟩
  · rintro e w1 ⟨t, rfl, ht, ho, hs⟩
    have hb : Wrote p w w1 := (Wrote.alloc w p _).trans ho.wrote
    clear ho
    go_wp2_with fail
    go_ret
    exact ⟨t, rfl, ht, hb, hs⟩
set_option maxHeartbeats 1000000 in
theorem valueD_any (p : Nat) (a : Option Addr) (n c : Nat) (xs : List Int) (K : Int) (w : World) (h : Src w p a n c xs K) (hK : K ≤ 700000) :
    Calls Tryz.prog 80 #[.pointer (some ⟨p, 0, none⟩)] w fun e w' => ∃ t : ByteArray, e = .returned (.string t) ∧ valK t = true ∧ Wrote p w w' ∧ Src w' p a n c xs (K + 3) := by
  have hp := cell_lt h.code
  go_enter Tryz.func80, Tryz.ntmps80
  go_wp2_with fail
  refine (pick_any p w.heap.size 4 4 a n c xs K _ (h.alloc _) (by omega) (by omega) (by omega) (by omega) (fun t => valK t = true) (fun i hi => ?_)).mono ?_
  · match i, hi with
    | 0, _ => exact ⟨_, by simp; rfl, by decide⟩
    | 1, _ => exact ⟨_, by simp; rfl, by decide⟩
    | 2, _ => exact ⟨_, by simp; rfl, by decide⟩
    | 3, _ => exact ⟨_, by simp; rfl, by decide⟩
  · rintro e w1 ⟨t, rfl, ht, ho, hs⟩
    have hb : Wrote p w w1 := (Wrote.alloc w p _).trans ho.wrote
    clear ho
    go_wp2_with fail
    go_ret
    exact ⟨t, rfl, ht, hb, hs⟩
set_option maxHeartbeats 1000000 in
theorem longKeyD_any (p : Nat) (a : Option Addr) (n c : Nat) (xs : List Int) (K : Int) (w : World) (h : Src w p a n c xs K) (hK : K ≤ 600000) :
    Calls Tryz.prog 32 #[.pointer (some ⟨p, 0, none⟩)] w fun e w' => ∃ t : ByteArray, e = .returned (.string t) ∧ keyK t = true ∧ Wrote p w w' ∧ Src w' p a n c xs (K + 6) := by
  go_enter Tryz.func32, Tryz.ntmps32
  go_wp2_with fail
  refine (keyD_any p a n c xs K w h (by omega)).mono ?_
  rintro e w1 ⟨t, rfl, ht, hw1, hs1⟩
  have hp := cell_lt hs1.code
  have T1 := hide ht.2
  have W1 := hide hw1
  have S1 := hide hs1
  clear ht hw1 hs1
  go_wp2_with fail
  refine (pick_any p w1.heap.size 6 6 a n c xs (K + 3) _ ((unhide S1).alloc _) (by omega) (by omega) (by omega) (by omega) (fun t => t.size ≤ 1) (fun i hi => ?_)).mono ?_
  · match i, hi with
    | 0, _ => exact ⟨_, by simp; rfl, by decide⟩
    | 1, _ => exact ⟨_, by simp; rfl, by decide⟩
    | 2, _ => exact ⟨_, by simp; rfl, by decide⟩
    | 3, _ => exact ⟨_, by simp; rfl, by decide⟩
    | 4, _ => exact ⟨_, by simp; rfl, by decide⟩
    | 5, _ => exact ⟨_, by simp; rfl, by decide⟩
  · rintro e w2 ⟨u, rfl, hu, ho, hs⟩
    have hb : Wrote p w w2 := (unhide W1).trans ((Wrote.alloc w1 p _).trans ho.wrote)
    have HU := hide hu
    have HB := hide hb
    have HS := hide (hs.more (K' := K + 6) (by omega))
    have hcat : ∀ w', (Op.stringOp .add t u).run Tryz.prog w' = .ok (.string (t ++ u)) w' := fun w' => run_string_add_sum w' t u (by have := unhide T1; omega)
    clear ho hb hu hs
    go_wp2_with fail
    go_ret
    exact ⟨_, rfl, by have h1 := unhide T1; have h2 := unhide HU; unfold keyK; simp [h1]; omega, unhide HB, unhide HS⟩
theorem four_set {w : World} {b : Nat} {v0 v1 v2 v3 : Value} {t : TypeId} (h : w.heap[b]? = some (.cells #[v0, v1, v2, v3] t (0, 0))) : (w.cell? ⟨b, 0, none⟩ = some v0 ∧ w.cell? ⟨b, 1, none⟩ = some v1 ∧ w.cell? ⟨b, 2, none⟩ = some v2 ∧ w.cell? ⟨b, 3, none⟩ = some v3) ∧ w.frozen? ⟨b, 0, none⟩ = false ∧ w.frozen? ⟨b, 1, none⟩ = false ∧ w.frozen? ⟨b, 2, none⟩ = false ∧ w.frozen? ⟨b, 3, none⟩ = false := by
  refine ⟨⟨?_, ?_, ?_, ?_⟩, ?_, ?_, ?_, ?_⟩ <;> simp [World.cell?, World.frozen?, h]
theorem Wrote.loc {p b : Nat} {w w' : World} (h : Wrote p w w') (hb : w.heap.size ≤ b) (j : Nat) (v : Value) : Wrote p w (w'.setCell ⟨b, j, none⟩ v) :=
  ⟨h.os, h.tape, h.output, by simpa [World.setCell] using h.size, fun k hk hl => (Below.heap_setCell _ _ _ _ (by simp; omega)).trans (h.block k hk hl)⟩
theorem Src.set {w : World} {p b : Nat} {a : Option Addr} {n c : Nat} {xs : List Int} {K : Int} (h : Src w p a n c xs K) (hb : p ≠ b) (ha : ∀ x, a = some x → 0 < n → x.block ≠ b) (j : Nat) (v : Value) : Src (w.setCell ⟨b, j, none⟩ v) p a n c xs K :=
  h.of_blocks' (Below.heap_setCell _ _ _ _ hb) (fun x hx hn => Below.heap_setCell _ _ _ _ (ha x hx hn))
end Go.Proofs.YtbhkmmdcdfjbkaaGreat

namespace Go.Proofs.YtbhkmmdcdfjbkaaGreat
open Go.RowKit

theorem heap_ltD {w : World} {b : Nat} {o : Obj} (h : w.heap[b]? = some o) : b < w.heap.size := (Array.getElem?_eq_some_iff.1 h).1
theorem four_end {w w' : World} {p : Nat} {a : Option Addr} {n c : Nat} {xs : List Int} {K : Int} (hw : Wrote p w w') (hs : Src w' p a n c xs K) (hp : p < w.heap.size) (ha : ∀ x, a = some x → 0 < n → x.block < w.heap.size) (v0 v1 v2 v3 : Value) :
    Wrote p w ((((w'.setCell ⟨w.heap.size, 0, none⟩ v0).setCell ⟨w.heap.size, 1, none⟩ v1).setCell ⟨w.heap.size, 2, none⟩ v2).setCell ⟨w.heap.size, 3, none⟩ v3) ∧ Src ((((w'.setCell ⟨w.heap.size, 0, none⟩ v0).setCell ⟨w.heap.size, 1, none⟩ v1).setCell ⟨w.heap.size, 2, none⟩ v2).setCell ⟨w.heap.size, 3, none⟩ v3) p a n c xs K := by
  have h1 : p ≠ w.heap.size := by omega
  have h2 : ∀ x, a = some x → 0 < n → x.block ≠ w.heap.size := fun x hx hn => by have := ha x hx hn; omega
  exact ⟨(((hw.loc (Nat.le_refl _) 0 v0).loc (Nat.le_refl _) 1 v1).loc (Nat.le_refl _) 2 v2).loc (Nat.le_refl _) 3 v3, (((hs.set h1 h2 0 v0).set h1 h2 1 v1).set h1 h2 2 v2).set h1 h2 3 v3⟩
end Go.Proofs.YtbhkmmdcdfjbkaaGreat

namespace Go.Proofs.YtbhkmmdcdfjbkaaGreat
open Go.RowKit

theorem size_draw (p : Nat) (a : Option Addr) (n c : Nat) (xs : List Int) (K : Int) (m : Nat) (w : World) (h : Src w p a n c xs K) :
    Calls Tryz.prog 40 #[.pointer (some ⟨p, 0, none⟩), .int .i64 (m : Int)] w fun e w' => ∃ r : Nat, e = .returned (.int .i64 (r : Int)) ∧ r ≤ m ∧ w' = w := by
  have c0 := h.code
  have hb := h.bound
  have hq : Int.tdiv (n : Int) 12 = ((n / 12 : Nat) : Int) := by rw [Int.tdiv_eq_ediv_of_nonneg (by omega)]; omega
  have wr : IntKind.i64.wrap (1 + ((n / 12 : Nat) : Int)) = ((1 + n / 12 : Nat) : Int) := by rw [IntKind.wrap_i64]; omega
  clear h
  go_enter Tryz.func40, Tryz.ntmps40
  go_wp2_with fail
  · go_ret
    exact ⟨m, rfl, by omega, rfl⟩
  · go_ret
    exact ⟨1 + n / 12, by simp, by omega, rfl⟩
end Go.Proofs.YtbhkmmdcdfjbkaaGreat

namespace Go.Proofs.YtbhkmmdcdfjbkaaGreat
open Go.RowKit

def yV (d : AcT) : Value := .agg #[.int .i64 d.kind, .int .i64 d.id, .string d.key, .string d.val]
set_option maxRecDepth 100000 in
set_option maxHeartbeats 4000000 in
theorem treeActD_any (p : Nat) (a : Option Addr) (n c : Nat) (xs : List Int) (K : Int) (m : Int) (w : World) (h : Src w p a n c xs K) (hK : K ≤ 500000) (hm : 1 ≤ m) (hm2 : m ≤ 1000) :
    Calls Tryz.prog 41 #[.pointer (some ⟨p, 0, none⟩), .int .i64 m] w fun e w' => ∃ d : AcT, e = .returned (yV d) ∧ Wrote p w w' ∧ Src w' p a n c xs (K + 15) := by
  have hp := cell_lt h.code
  have ha := src_code' h
  have b0 : Below w.heap.size w (w.alloc (.cells #[.int .i64 0, .int .i64 0, .string ⟨#[]⟩, .string ⟨#[]⟩] 38)) := (Below.refl _ _).alloc (Nat.le_refl _) _
  have S := hide (h.alloc (.cells #[.int .i64 0, .int .i64 0, .string ⟨#[]⟩, .string ⟨#[]⟩] 38))
  have kz := heap_alloc_new w (.cells #[.int .i64 0, .int .i64 0, .string ⟨#[]⟩, .string ⟨#[]⟩] 38)
  have WW := hide (show Wrote p w (w.alloc (.cells #[.int .i64 0, .int .i64 0, .string ⟨#[]⟩, .string ⟨#[]⟩] 38)) from ⟨b0.os, b0.tape, b0.output, b0.size, fun k _ hl => b0.block k hl⟩)
  have KZ := hide kz
  have HA := hide ha
  have hlt := heap_ltD kz
  clear h b0 kz ha
  go_enter Tryz.func41, Tryz.ntmps41
  go_wp2_with fail
  generalize w.alloc (.cells #[.int .i64 0, .int .i64 0, .string ⟨#[]⟩, .string ⟨#[]⟩] 38) = W0 at *
  refine (next_any p a n c xs K 9 W0 (unhide S) (by omega) (by omega) (by omega)).mono ?_
  rintro e w1 ⟨r, rfl, hr0, hr1, ho, hs⟩
  have hw := ho.wrote
  replace KZ := hide ((hw.block w.heap.size (by omega) hlt).trans (unhide KZ))
  replace WW := hide ((unhide WW).trans hw)
  replace S := hide hs
  clear hw hs hlt
  have hlt := heap_ltD (unhide KZ)
  clear ho
  by_cases h0 : r = 0
  · subst h0
    go_wp2_with fail
    refine (next_any p a n c xs (K + 3) m w1 (unhide S) (by omega) (by omega) (by omega)).mono ?_
    rintro e w2 ⟨q, rfl, _, _, ho, hs⟩
    have hw := ho.wrote
    replace KZ := hide ((hw.block w.heap.size (by omega) hlt).trans (unhide KZ))
    replace WW := hide ((unhide WW).trans hw)
    replace S := hide hs
    clear hw hs hlt
    have hlt := heap_ltD (unhide KZ)
    clear ho
    obtain ⟨⟨c0, c1, c2, c3⟩, f0, f1, f2, f3⟩ := four_set (unhide KZ)
    have FE := hide (four_end (unhide WW) ((unhide S).more (K' := K + 15) (by omega)) hp (unhide HA) (.int .i64 3) (.int .i64 q) (.string ⟨#[]⟩) (.string ⟨#[]⟩))
    go_wp2_with fail
    refine bodyPost_ret (v := yV ⟨3, q, ⟨#[]⟩, ⟨#[]⟩⟩) (by simp [results, Tryz.results41, go_sem, yV, *] <;> rfl) rfl ?_
    exact ⟨⟨3, q, ⟨#[]⟩, ⟨#[]⟩⟩, rfl, (unhide FE).1, (unhide FE).2⟩
  by_cases h12 : r = 1 ∨ r = 2
  · rcases h12 with rfl | rfl
    · go_wp2_with fail
      refine (next_any p a n c xs (K + 3) m w1 (unhide S) (by omega) (by omega) (by omega)).mono ?_
      rintro e w2 ⟨q, rfl, _, _, ho, hs⟩
      have hw := ho.wrote
      replace KZ := hide ((hw.block w.heap.size (by omega) hlt).trans (unhide KZ))
      replace WW := hide ((unhide WW).trans hw)
      replace S := hide hs
      clear hw hs hlt
      have hlt := heap_ltD (unhide KZ)
      clear ho
      obtain ⟨⟨c0, c1, c2, c3⟩, f0, f1, f2, f3⟩ := four_set (unhide KZ)
      have FE := hide (four_end (unhide WW) ((unhide S).more (K' := K + 15) (by omega)) hp (unhide HA) (.int .i64 4) (.int .i64 q) (.string ⟨#[]⟩) (.string ⟨#[]⟩))
      go_wp2_with fail
      refine bodyPost_ret (v := yV ⟨4, q, ⟨#[]⟩, ⟨#[]⟩⟩) (by simp [results, Tryz.results41, go_sem, yV, *] <;> rfl) rfl ?_
      exact ⟨⟨4, q, ⟨#[]⟩, ⟨#[]⟩⟩, rfl, (unhide FE).1, (unhide FE).2⟩
    · go_wp2_with fail
      refine (next_any p a n c xs (K + 3) m w1 (unhide S) (by omega) (by omega) (by omega)).mono ?_
      rintro e w2 ⟨q, rfl, _, _, ho, hs⟩
      have hw := ho.wrote
      replace KZ := hide ((hw.block w.heap.size (by omega) hlt).trans (unhide KZ))
      replace WW := hide ((unhide WW).trans hw)
      replace S := hide hs
      clear hw hs hlt
      have hlt := heap_ltD (unhide KZ)
      clear ho
      obtain ⟨⟨c0, c1, c2, c3⟩, f0, f1, f2, f3⟩ := four_set (unhide KZ)
      have FE := hide (four_end (unhide WW) ((unhide S).more (K' := K + 15) (by omega)) hp (unhide HA) (.int .i64 4) (.int .i64 q) (.string ⟨#[]⟩) (.string ⟨#[]⟩))
      go_wp2_with fail
      refine bodyPost_ret (v := yV ⟨4, q, ⟨#[]⟩, ⟨#[]⟩⟩) (by simp [results, Tryz.results41, go_sem, yV, *] <;> rfl) rfl ?_
      exact ⟨⟨4, q, ⟨#[]⟩, ⟨#[]⟩⟩, rfl, (unhide FE).1, (unhide FE).2⟩
  have h1 : ¬ r = 1 := fun h => h12 (.inl h)
  have h2 : ¬ r = 2 := fun h => h12 (.inr h)
  clear h12
  by_cases h3 : r = 3
  · subst h3
    go_wp2_with fail
    refine (next_any p a n c xs (K + 3) m w1 (unhide S) (by omega) (by omega) (by omega)).mono ?_
    rintro e w2 ⟨q, rfl, _, _, ho, hs⟩
    have hw := ho.wrote
    replace KZ := hide ((hw.block w.heap.size (by omega) hlt).trans (unhide KZ))
    replace WW := hide ((unhide WW).trans hw)
    replace S := hide hs
    clear hw hs hlt
    have hlt := heap_ltD (unhide KZ)
    clear ho
    obtain ⟨⟨c0, c1, c2, c3⟩, f0, f1, f2, f3⟩ := four_set (unhide KZ)
    have FE := hide (four_end (unhide WW) ((unhide S).more (K' := K + 15) (by omega)) hp (unhide HA) (.int .i64 5) (.int .i64 q) (.string ⟨#[]⟩) (.string ⟨#[]⟩))
    go_wp2_with fail
    refine bodyPost_ret (v := yV ⟨5, q, ⟨#[]⟩, ⟨#[]⟩⟩) (by simp [results, Tryz.results41, go_sem, yV, *] <;> rfl) rfl ?_
    exact ⟨⟨5, q, ⟨#[]⟩, ⟨#[]⟩⟩, rfl, (unhide FE).1, (unhide FE).2⟩
  by_cases h4 : r = 4
  · subst h4
    go_wp2_with fail
    refine (chanceD_any p a n c xs (K + 3) 2 w1 (unhide S) (by omega) (by omega) (by omega)).mono ?_
    rintro e w2 ⟨x, rfl, hw, hs⟩
    replace KZ := hide ((hw.block w.heap.size (by omega) hlt).trans (unhide KZ))
    replace WW := hide ((unhide WW).trans hw)
    replace S := hide hs
    clear hw hs hlt
    have hlt := heap_ltD (unhide KZ)
    cases x with
    | true =>
      go_wp2_with fail
      refine (next_any p a n c xs (K + 3 + 3) m w2 (unhide S) (by omega) (by omega) (by omega)).mono ?_
      rintro e w3 ⟨q, rfl, _, _, ho, hs⟩
      have hw := ho.wrote
      replace KZ := hide ((hw.block w.heap.size (by omega) hlt).trans (unhide KZ))
      replace WW := hide ((unhide WW).trans hw)
      replace S := hide hs
      clear hw hs hlt
      have hlt := heap_ltD (unhide KZ)
      clear ho
      obtain ⟨⟨c0, c1, c2, c3⟩, f0, f1, f2, f3⟩ := four_set (unhide KZ)
      have FE := hide (four_end (unhide WW) ((unhide S).more (K' := K + 15) (by omega)) hp (unhide HA) (.int .i64 6) (.int .i64 q) (.string ⟨#[]⟩) (.string ⟨#[]⟩))
      go_wp2_with fail
      refine bodyPost_ret (v := yV ⟨6, q, ⟨#[]⟩, ⟨#[]⟩⟩) (by simp [results, Tryz.results41, go_sem, yV, *] <;> rfl) rfl ?_
      exact ⟨⟨6, q, ⟨#[]⟩, ⟨#[]⟩⟩, rfl, (unhide FE).1, (unhide FE).2⟩
    | false =>
      go_wp2_with fail
      refine (longKeyD_any p a n c xs (K + 3 + 3) w2 (unhide S) (by omega)).mono ?_
      rintro e w3 ⟨t, rfl, _, hw, hs⟩
      replace KZ := hide ((hw.block w.heap.size (by omega) hlt).trans (unhide KZ))
      replace WW := hide ((unhide WW).trans hw)
      replace S := hide hs
      clear hw hs hlt
      have hlt := heap_ltD (unhide KZ)
      go_wp2_with fail
      refine (valueD_any p a n c xs (K + 3 + 3 + 6) w3 (unhide S) (by omega)).mono ?_
      rintro e w4 ⟨u, rfl, _, hw, hs⟩
      replace KZ := hide ((hw.block w.heap.size (by omega) hlt).trans (unhide KZ))
      replace WW := hide ((unhide WW).trans hw)
      replace S := hide hs
      clear hw hs hlt
      have hlt := heap_ltD (unhide KZ)
      obtain ⟨⟨c0, c1, c2, c3⟩, f0, f1, f2, f3⟩ := four_set (unhide KZ)
      have FE := hide (four_end (unhide WW) ((unhide S).more (K' := K + 15) (by omega)) hp (unhide HA) (.int .i64 1) (.int .i64 0) (.string t) (.string u))
      go_wp2_with fail
      refine bodyPost_ret (v := yV ⟨1, 0, t, u⟩) (by simp [results, Tryz.results41, go_sem, yV, *] <;> rfl) rfl ?_
      exact ⟨⟨1, 0, t, u⟩, rfl, (unhide FE).1, (unhide FE).2⟩
  by_cases h5 : r = 5
  · subst h5
    go_wp2_with fail
    refine (longKeyD_any p a n c xs (K + 3) w1 (unhide S) (by omega)).mono ?_
    rintro e w2 ⟨t, rfl, _, hw, hs⟩
    replace KZ := hide ((hw.block w.heap.size (by omega) hlt).trans (unhide KZ))
    replace WW := hide ((unhide WW).trans hw)
    replace S := hide hs
    clear hw hs hlt
    have hlt := heap_ltD (unhide KZ)
    obtain ⟨⟨c0, c1, c2, c3⟩, f0, f1, f2, f3⟩ := four_set (unhide KZ)
    have FE := hide (four_end (unhide WW) ((unhide S).more (K' := K + 15) (by omega)) hp (unhide HA) (.int .i64 2) (.int .i64 0) (.string t) (.string ⟨#[]⟩))
    go_wp2_with fail
    refine bodyPost_ret (v := yV ⟨2, 0, t, ⟨#[]⟩⟩) (by simp [results, Tryz.results41, go_sem, yV, *] <;> rfl) rfl ?_
    exact ⟨⟨2, 0, t, ⟨#[]⟩⟩, rfl, (unhide FE).1, (unhide FE).2⟩
  · go_wp2_with fail
    refine (longKeyD_any p a n c xs (K + 3) w1 (unhide S) (by omega)).mono ?_
    rintro e w2 ⟨t, rfl, _, hw, hs⟩
    replace KZ := hide ((hw.block w.heap.size (by omega) hlt).trans (unhide KZ))
    replace WW := hide ((unhide WW).trans hw)
    replace S := hide hs
    clear hw hs hlt
    have hlt := heap_ltD (unhide KZ)
    go_wp2_with fail
    refine (valueD_any p a n c xs (K + 3 + 6) w2 (unhide S) (by omega)).mono ?_
    rintro e w3 ⟨u, rfl, _, hw, hs⟩
    replace KZ := hide ((hw.block w.heap.size (by omega) hlt).trans (unhide KZ))
    replace WW := hide ((unhide WW).trans hw)
    replace S := hide hs
    clear hw hs hlt
    have hlt := heap_ltD (unhide KZ)
    obtain ⟨⟨c0, c1, c2, c3⟩, f0, f1, f2, f3⟩ := four_set (unhide KZ)
    have FE := hide (four_end (unhide WW) ((unhide S).more (K' := K + 15) (by omega)) hp (unhide HA) (.int .i64 1) (.int .i64 0) (.string t) (.string u))
    go_wp2_with fail
    refine bodyPost_ret (v := yV ⟨1, 0, t, u⟩) (by simp [results, Tryz.results41, go_sem, yV, *] <;> rfl) rfl ?_
    exact ⟨⟨1, 0, t, u⟩, rfl, (unhide FE).1, (unhide FE).2⟩
theorem Tryz.infoTa : (Tryz.prog.info? 38).map (fun i => (i.zero, i.size, i.bytes)) = some (some (.agg #[.int .i64 0, .int .i64 0, .string ByteArray.empty, .string ByteArray.empty]), 4, 48) := by kernel_rfl
/-- Acts under way. -/
structure TaSt (w wr : World) (p : Nat) (a : Option Addr) (n c : Nat) (xs : List Int) (K : Int) (v : Value) (ds : List AcT) : Prop where
  src : Src wr p a n c xs K
  own : YOwns wr w.heap.size v ds
  wro : Wrote p w wr
  hp : p < w.heap.size
  hc : ∀ x, a = some x → 0 < n → x.block < w.heap.size
theorem TaSt.wrote {w wr wr2 : World} {p : Nat} {a : Option Addr} {n c : Nat} {xs : List Int} {K K2 : Int} {v : Value} {ds : List AcT} (h : TaSt w wr p a n c xs K v ds) (hs2 : Src wr2 p a n c xs K2) (hw : Wrote p wr wr2) : TaSt w wr2 p a n c xs K2 v ds :=
  have hwb : WrB (fun i => i = p) wr wr2 := ⟨hw.os, hw.tape, hw.output, hw.size, fun k hk hp => hw.block k hp hk⟩
  ⟨hs2, rr_owns_wr h.own hwb (fun i hi e => by have := (World.ownsRow.lt h.own i hi).1; have := h.hp; omega), h.wro.trans hw, h.hp, h.hc⟩
theorem TaSt.app {w wr : World} {p : Nat} {a : Option Addr} {n c : Nat} {xs : List Int} {K : Int} {v : Value} {ds : List AcT} {d : AcT} (h : TaSt w wr p a n c xs K v ds) (hz : ds.length ≤ 1000) (hv : v ≠ .slice none 0 0) :
    ∃ g c' w6, (Builtin.append_ #[23, 23] 23 #[v, .slice (some ⟨wr.heap.size, 0, none⟩) 1 1]).run Tryz.prog (wr.alloc (.cells #[.int .i64 d.kind, .int .i64 d.id, .string d.key, .string d.val] 38)) = .ok (.slice (some ⟨g, 0, none⟩) (ds.length + 1) c') w6 ∧ TaSt w w6 p a n c xs K (.slice (some ⟨g, 0, none⟩) (ds.length + 1) c') (ds ++ [d]) := by
  obtain ⟨i0, hi0, hz0, hz1, hz2⟩ := info_parts Tryz.infoTa
  have bA := (Below.refl wr.heap.size wr).alloc (Nat.le_refl _) (.cells #[.int .i64 d.kind, .int .i64 d.id, .string d.key, .string d.val] 38)
  have K4 := heap_alloc_new wr (.cells #[.int .i64 d.kind, .int .i64 d.id, .string d.key, .string d.val] 38)
  have oA := rb_ownsRow_below h.own bA
  have hsz := h.wro.size
  obtain ⟨v', w6, hr, ho, hgr, hnil⟩ := run_append_own (P := Tryz.prog) _ w.heap.size 23 23 38 i0 (.agg #[.int .i64 0, .int .i64 0, .string ByteArray.empty, .string ByteArray.empty]) 4 48 Tryz.underlying23 hi0 hz0 hz1 hz2 rfl (by decide) _ _ _ oA ⟨wr.heap.size, 0, none⟩ 1 1 [.int .i64 d.kind, .int .i64 d.id, .string d.key, .string d.val] rfl (fun j u hu => by
      rw [Addr.add_lit, (heap_at K4 _).1]
      simpa using hu) (by
      intro u hu
      simp only [List.mem_cons, List.not_mem_nil, or_false] at hu
      rcases hu with rfl | rfl | rfl | rfl <;> rfl) (by unfold maxLen; omega) (by omega) (Nat.le_trans hsz bA.size)
  have hw := WrB.of_grown hgr
  rcases ho.2 with ⟨e, _⟩ | ⟨g, cap, cur, e, hbg, _⟩
  · exact absurd (hnil.1 e).1 hv
  subst e
  refine ⟨g, cap, w6, hr, ⟨?_, ?_, ?_, h.hp, h.hc⟩⟩
  · refine (h.src.alloc _).of_blocks' (hw.block p (by have := h.hp; have := bA.size; omega) (fun e => by have := (World.ownsRow.lt oA p e).1; have := h.hp; omega)) (fun x hx hn => hw.block x.block (by have := h.hc x hx hn; have := bA.size; omega) (fun e => by have := (World.ownsRow.lt oA _ e).1; have := h.hc x hx hn; omega))
  · unfold YOwns
    rw [ycs_append, List.length_append]
    exact ho
  · exact ⟨hw.os.trans (bA.os.trans h.wro.os), hw.tape.trans (bA.tape.trans h.wro.tape), hw.output.trans (bA.output.trans h.wro.output), Nat.le_trans hsz (Nat.le_trans bA.size hw.size), fun k hk hl => (hw.block k (Nat.lt_of_lt_of_le hl (Nat.le_trans hsz bA.size)) (fun e => by have := (World.ownsRow.lt oA k e).1; omega)).trans ((bA.block k (Nat.lt_of_lt_of_le hl hsz)).trans (h.wro.block k hk hl))⟩
def TaRes (p : Nat) (w : World) (e : Ending) (w' : World) : Prop := ∃ a' m' c' ds, e = .returned (.slice a' m' c') ∧ YRow w' a' m' ds ∧ ds.length ≤ 28 ∧ Wrote p w w'
theorem x_below {w w1 w2 : World} (h1 : Below w.heap.size w w1) (hw : Wrote w.heap.size w1 w2) : Below w.heap.size w w2 := h1.trans (hw.below (Nat.le_refl _) h1.size)
set_option maxRecDepth 100000 in
set_option maxHeartbeats 4000000 in
theorem treeActsD_any (p : Nat) (a : Option Addr) (n c : Nat) (xs : List Int) (K : Int) (w : World) (h : Src w p a n c xs K) (hK : K ≤ 100) :
    Calls Tryz.prog 22 #[.pointer (some ⟨p, 0, none⟩)] w fun e w' => TaRes p w e w' := by
  have hp := cell_lt h.code
  have ha := src_code' h
  have bA := (Below.refl w.heap.size w).alloc (Nat.le_refl _) (.cells #[] 38)
  have T0 := hide (show TaSt w (w.alloc (.cells #[] 38)) p a n c xs K (.slice (some ⟨w.heap.size, 0, none⟩) 0 0) [] from ⟨h.alloc _, nil_lit (w := w) 38 4, ⟨bA.os, bA.tape, bA.output, bA.size, fun k _ hl => bA.block k hl⟩, hp, ha⟩)
  clear h bA ha
  go_enter Tryz.func22, Tryz.ntmps22
  go_wp2_with fail
  generalize w.alloc (.cells #[] 38) = W0 at *
  refine (size_draw p a n c xs K 24 W0 (unhide T0).src).mono ?_
  rintro e w1 ⟨r, rfl, hr, hw1⟩
  subst hw1
  have hrw : IntKind.i64.wrap ((r : Int) + 4) = (r : Int) + 4 := by rw [IntKind.wrap_i64]; omega
  go_wp2_with fail
  refine (next_any p a n c xs K ((r : Int) + 4) w1 (unhide T0).src (by omega) (by omega) (by omega)).mono ?_
  rintro e w2 ⟨q, rfl, hq0, hq1, ho, hs⟩
  have T1 := hide ((unhide T0).wrote hs ho.wrote)
  obtain ⟨qn, rfl⟩ : ∃ qn : Nat, q = (qn : Int) := ⟨q.toNat, by omega⟩
  have hqn : qn ≤ 28 := by omega
  clear T0 ho hs hq0 hq1 hrw hr
  generalize w.heap.size = g0 at *
  go_wp2_with fail
  go_loopw [3, 4] (fun ov iv wr => ∃ (k g cp L : Nat) (ds : List AcT), ov = .slice (some ⟨g, 0, none⟩) L cp ∧ iv = .int .i64 (k : Int) ∧ k + L ≤ 28 ∧ Hid (ds.length = L) ∧ Hid (TaSt w wr p a n c xs (K + 3 + 15 * (L : Int)) (.slice (some ⟨g, 0, none⟩) L cp) ds)) (fun _ iv _ => (intOf iv).toNat)
  case atStart => exact ⟨qn, g0, 0, 0, [], rfl, rfl, by omega, rfl, hide (by simpa using unhide T1)⟩
  case round =>
    clear T1
    obtain ⟨k, g, cp, L, ds, rfl, rfl, hkL, hL, hT⟩ := hrel
    by_cases hk : k = 0
    · subst hk
      have hLc : (L : Int) ≤ (cp : Int) := by
        rcases (unhide hT).own.2 with ⟨e, _⟩ | ⟨_, cap, _, e, _, _, hc, _⟩
        · cases e
        · injection e with _ e1 e2; omega
      have hmin : min (L : Int) 150 = (L : Int) := by omega
      have hYR := hide (yrow_of_owns (unhide hT).own)
      have hWr := hide (unhide hT).wro
      have hlt : ¬ ((150 : Int) < (L : Int)) := by omega
      have hle : (L : Int) ≤ 150 := by omega
      have htn : (L : Int).toNat = L := by omega
      have hge : (0 : Int) ≤ (L : Int) := by omega
      go_wp2_with fail
      go_ret
      have hl28 : ds.length ≤ 28 := by have := unhide hL; omega
      exact ⟨_, _, _, ds, rfl, unhide hYR, hl28, unhide hWr⟩
    · obtain ⟨j, rfl⟩ : ∃ j, k = j + 1 := ⟨k - 1, by omega⟩
      obtain ⟨Q, hQ⟩ : ∃ Q, Q = L / 4 := ⟨_, rfl⟩
      have hQi : (L : Int) / 4 = (Q : Int) := by omega
      have hQt : (L : Int).tdiv 4 = (Q : Int) := by rw [Int.tdiv_eq_ediv_of_nonneg (by omega)]; exact hQi
      have hQw : IntKind.i64.wrap (1 + (Q : Int)) = 1 + (Q : Int) := by rw [IntKind.wrap_i64]; omega
      have hpos : (0 : Int) < ((j + 1 : Nat) : Int) := by omega
      clear hQ
      have hQ8 : Q ≤ 8 := by omega
      go_wp2_with fail
      refine (treeActD_any p a n c xs (K + 3 + 15 * (L : Int)) (1 + (Q : Int)) wr (unhide hT).src (by omega) (by omega) (by omega)).mono ?_
      rintro e w3 ⟨d, rfl, hw, hs⟩
      have T2 := (unhide hT).wrote hs hw
      obtain ⟨g2, c2, w6, hr, T3⟩ := T2.app (d := d) (by have := unhide hL; omega) (fun e => by cases e)
      rw [unhide hL] at hr T3
      have eK : K + 3 + 15 * (L : Int) + 15 = K + 3 + 15 * ((L + 1 : Nat) : Int) := by omega
      rw [eK] at T3
      have T3h := hide T3
      clear eK
      have hL2 := hide (show (ds ++ [d]).length = L + 1 by rw [List.length_append, unhide hL]; rfl)
      clear hT T2 T3 hw hs hL
      unfold yV
      obtain ⟨dk, di, dy, dv⟩ := d
      simp only at hr
      go_wp2_with (at_builtin; refine wpAppE rfl _ _ 23 rfl _ _ (.slice (some ⟨g2, 0, none⟩) (L + 1) c2) w6 rfl rfl hr ?_)
      go_roundw
      case rel => exact ⟨j, g2, c2, L + 1, ds ++ [⟨dk, di, dy, dv⟩], rfl, by go_num, by omega, hL2, T3h⟩
      case measure => simp [intOf] <;> omega
set_option maxHeartbeats 1000000 in
theorem treeActsOf_any (a : Option Addr) (n c : Nat) (xs : List Int) (w : World) (hr : Row w a n xs) (hby : ∀ i, i < n → 0 ≤ xs.getD i 0 ∧ xs.getD i 0 ≤ 255) (hn : n ≤ 1048576) :
    Calls Tryz.prog 5 #[.slice a n c] w fun e w' => ∃ a' m' c' ds, e = .returned (.slice a' m' c') ∧ YRow w' a' m' ds ∧ ds.length ≤ 28 ∧ Below w.heap.size w w' := by
  have R := hide hr
  have BY := hide hby
  clear hr hby
  go_enter Tryz.func5, Tryz.ntmps5
  go_wp2_with fail
  refine (source_any a n c xs w (unhide R) (unhide BY) hn).mono ?_
  rintro e w1 ⟨rfl, hs1, hb1, hz1⟩
  clear hz1
  go_wp2_with fail
  refine (treeActsD_any w.heap.size a n c xs 0 w1 hs1 (by omega)).mono ?_
  rintro e w2 ⟨a', m', c', ds, rfl, hy, hl, hw⟩
  have RES := hide (show ∃ a'' m'' c'' ds, Ending.returned (Value.slice a' m' c') = .returned (.slice a'' m'' c'') ∧ YRow w2 a'' m'' ds ∧ ds.length ≤ 28 ∧ Below w.heap.size w w2 from ⟨a', m', c', ds, rfl, hy, hl, x_below hb1 hw⟩)
  clear hy hl hw hb1 hs1
  go_wp2_with fail
  go_ret
  exact unhide RES
set_option maxHeartbeats 1000000 in
theorem treeKeyOf_any (a : Option Addr) (n c : Nat) (xs : List Int) (w : World) (hr : Row w a n xs) (hby : ∀ i, i < n → 0 ≤ xs.getD i 0 ∧ xs.getD i 0 ≤ 255) (hn : n ≤ 1048576) :
    Calls Tryz.prog 13 #[.slice a n c] w fun e w' => ∃ t : ByteArray, e = .returned (.string t) ∧ keyK t = true ∧ Below w.heap.size w w' := by
  have R := hide hr
  have BY := hide hby
  clear hr hby
  go_enter Tryz.func13, Tryz.ntmps13
  go_wp2_with fail
  refine (source_any a n c xs w (unhide R) (unhide BY) hn).mono ?_
  rintro e w1 ⟨rfl, hs1, hb1, hz1⟩
  clear hz1
  go_wp2_with fail
  refine (longKeyD_any w.heap.size a n c xs 0 w1 hs1 (by omega)).mono ?_
  rintro e w2 ⟨t, rfl, ht, hw, _⟩
  have RES := hide (show ∃ t' : ByteArray, Ending.returned (Value.string t) = .returned (.string t') ∧ keyK t' = true ∧ Below w.heap.size w w2 from ⟨t, rfl, ht, x_below hb1 hw⟩)
  clear ht hw hb1 hs1
  go_wp2_with fail
  go_ret
  exact unhide RES
end Go.Proofs.YtbhkmmdcdfjbkaaGreat

namespace Go.Proofs.YtbhkmmdcdfjbkaaGreat
open Go.RowKit

end Go.Proofs.YtbhkmmdcdfjbkaaGreat

namespace Go.Proofs.YtbhkmmdcdfjbkaaGreat
open Go.RowKit

end Go.Proofs.YtbhkmmdcdfjbkaaGreat

namespace Go.Proofs.YtbhkmmdcdfjbkaaGreat
open Go.RowKit

end Go.Proofs.YtbhkmmdcdfjbkaaGreat

namespace Go.Proofs.YtbhkmmdcdfjbkaaGreat
open Go.RowKit

set_option maxRecDepth 100000 in
set_option maxHeartbeats 4000000 in
theorem implTreeGet_any (ap : Option Addr) (np cp : Nat) (ag : Option Addr) (ng cg : Nat) (ai : Option Addr) (ni ci : Nat) (hs : List PpH) (gs : List Bool) (idx : List RefD) (key : ByteArray) (w : World) (hT : TrIn w ap np cp ag ng cg ai ni hs gs idx) (hci : ai = none → ci = 0) :
    Calls Tryz.prog 14 #[.agg #[.slice ap np cp, .slice ag ng cg, .slice ai ni ci], .string key] w fun e w' => e = .returned (getA (trd hs gs idx) key) ∧ Below w.heap.size w w' := by
  have b0 : ∀ o, Below w.heap.size w (w.alloc o) := fun o => (Below.refl _ _).alloc (Nat.le_refl _) _
  have BW := hide (b0 (.cells #[.slice ap np cp, .slice ag ng cg, .slice ai ni ci] 29))
  have T := hide (hT.below (unhide BW))
  have BT := hide (show ∀ u, Below (w.alloc (.cells #[.slice ap np cp, .slice ag ng cg, .slice ai ni ci] 29)).heap.size (w.alloc (.cells #[.slice ap np cp, .slice ag ng cg, .slice ai ni ci] 29)) u → Below w.heap.size w u from fun u hu => (unhide BW).trans (hu.mono (unhide BW).size))
  have lp := hT.plen
  by_cases hk : 65536 < key.size
  · have E := hide (show Value.tuple #[.string ⟨#[]⟩, .int .i64 0, .int .i64 2] = getA (trd hs gs idx) key by unfold getA; rw [if_pos hk])
    clear hT
    go_enter Tryz.func14, Tryz.ntmps14
    go_wp2_with fail
    go_ret3
    exact ⟨congrArg Ending.returned (unhide E), b0 _⟩
  have GA := hide (show getA (trd hs gs idx) key = if okT (trd hs gs idx) = true ∧ keyK key = true then getR (trd hs gs idx).here idx key else .tuple #[.string ⟨#[]⟩, .int .i64 0, .int .i64 1] by unfold getA; rw [if_neg hk]; rfl)
  clear hT BW
  go_enter Tryz.func14, Tryz.ntmps14
  go_wp2_with fail
  generalize w.alloc (.cells #[.slice ap np cp, .slice ag ng cg, .slice ai ni ci] 29) = W at *
  refine (tableOf_any ap np cp ag ng cg ai ni ci hs gs idx W (unhide T) hci).mono ?_
  rintro e w2 ⟨v, rfl, hb, htab⟩
  have KE := hide (fun u => keyOK_any key u)
  cases hok : okT (trd hs gs idx) with
  | false =>
    have E := hide (show Value.tuple #[.string ⟨#[]⟩, .int .i64 0, .int .i64 1] = getA (trd hs gs idx) key by rw [unhide GA, hok, if_neg (fun h => by cases h.1)])
    clear htab
    go_wp2_with fail
    go_ret3
    exact ⟨congrArg Ending.returned (unhide E), unhide BT _ hb⟩
  | true =>
    obtain ⟨mb, qs, vp, vi, rfl, hown, hqs, hmem⟩ := htab hok
    cases hky : keyK key with
    | false =>
      have E := hide (show Value.tuple #[.string ⟨#[]⟩, .int .i64 0, .int .i64 1] = getA (trd hs gs idx) key by rw [unhide GA, hky, if_neg (fun h => by cases h.2)])
      rw [hky] at KE
      clear hown hqs hmem htab
      go_wp2_with fail
      refine (unhide KE _).mono ?_
      rintro e w3 ⟨rfl, hw3⟩
      subst w3
      go_wp2_with fail
      go_ret3
      exact ⟨congrArg Ending.returned (unhide E), unhide BT _ hb⟩
    | true =>
      have hG : GoodT (trd hs gs idx).here idx := good_of hok
      have hrow : ∀ b x, some (b, x) ∈ qs → ERow w2 x.s0.a x.s0.n x.X.es ∧ DRow w2 x.s1.a x.s1.n x.X.ds := fun b x hx => by
        obtain ⟨j, hj, e⟩ := List.getElem_of_mem (hmem b x hx).1
        have h := PpIn.sub ((unhide T).below hb).pgs hj
        rw [e] at h
        exact ⟨erow_C h.1, drow_C h.2⟩
      obtain ⟨ap2, cp2, ai2, ci2, M⟩ := hown.table hrow
      have G := hide (show GoodT (qsP qs) idx by rw [hqs]; exact hG)
      have HM := hide M
      have HD := hide (down_any mb qs idx ap2 cp2 ai2 ci2 key w2 M (unhide G))
      obtain ⟨p, hdn⟩ := (unhide G).down key
      obtain ⟨v, c, r, hv1, hv2⟩ := lookV_get hdn
      obtain ⟨q, hqe, _, pb, x, hqk, hX⟩ := tb_at hdn.1
      have hqn : q < qs.length := (List.getElem?_eq_some_iff.1 hqk).1
      have hm2 : some (pb, x) ∈ qs := List.mem_of_getElem? hqk
      have hf30 := hdn.2.2.2
      have hokp := (hmem pb x hm2).2
      have E := hide (show Value.tuple #[.string v, .int .i64 (((downT (qsP qs) idx key).2 : Nat) : Int), .int .i64 c] = getA (trd hs gs idx) key by
        rw [unhide GA, if_pos ⟨hok, hky⟩, hv2, hqs])
      have HX := hide (show findA x.X.lo x.X.hi x.X.r x.X.es x.X.ds key = .tuple #[.string v, r, .int .i64 c] by
        unfold findA
        rw [if_neg hk, if_pos ⟨hokp, hky⟩, hX, findV_down hdn.2.1 hdn.2.2.1, hv1])
      have QK := hide hqk
      have HF := hide (fun (u : World) (hu : Below w2.heap.size w2 u) => implFind_any x.X.lo x.X.hi x.X.r x.s0.a x.s0.n x.s0.c x.X.es x.s1.a x.s1.n x.s1.c x.X.ds key u ((hrow pb x hm2).1.below hu) ((hrow pb x hm2).2.below hu))
      rw [unhide HX] at HF
      rw [hqe] at HD
      rw [hky] at KE
      clear hdn hv1 hv2 hX HX GA hqe hown hqs htab M hrow hqk hok hG
      generalize (downT (qsP qs) idx key).2 = hops at *
      go_wp2_with fail
      refine (unhide KE _).mono ?_
      rintro e w3 ⟨rfl, hw3⟩
      subst w3
      go_wp2_with fail
      refine (unhide HD).mono ?_
      rintro e w4 ⟨rfl, hb4⟩
      have bA := hide (unhide BT _ (hb.trans (hb4.mono hb.size)))
      have M4 := (unhide HM).below hb4
      have c0 := (heap_at M4.box 0).1
      obtain ⟨b, off, hap, hc⟩ := M4.row.at (j := q) (u := .pointer (some ⟨pb, 0, none⟩)) (by rw [List.getElem?_map, unhide QK]; rfl)
      subst hap
      have PB := (M4.pgs pb x hm2).1
      have q0 := (heap_at PB 0).1
      have q1 := (heap_at PB 1).1
      have q2 := (heap_at PB 2).1
      have q3 := (heap_at PB 3).1
      have q4 := (heap_at PB 4).1
      have HF4 := hide (unhide HF w4 hb4)
      clear HF HD M4 PB hmem hm2 HM QK hokp hb hb4
      obtain ⟨X, ⟨a0, n0, k0⟩, ⟨a1, n1, k1⟩⟩ := x
      unfold pgv at HF4
      simp only at q0 q1 q2 q3 q4 HF4
      go_wp2_with fail
      refine (unhide HF4).mono ?_
      rintro e w5 ⟨rfl, hb5⟩
      have bB := (unhide bA).trans (hb5.mono (unhide bA).size)
      clear HF4 q0 q1 q2 q3 q4 c0 hc hb5
      go_wp2_with fail
      go_ret3
      exact ⟨congrArg Ending.returned (unhide E), bB⟩
end Go.Proofs.YtbhkmmdcdfjbkaaGreat

namespace Go.Proofs.YtbhkmmdcdfjbkaaGreat
open Go.RowKit

set_option maxHeartbeats 1000000 in
theorem implTreeOK_any (ap : Option Addr) (np cp : Nat) (ag : Option Addr) (ng cg : Nat) (ai : Option Addr) (ni ci : Nat) (hs : List PpH) (gs : List Bool) (idx : List RefD) (w : World) (hT : TrIn w ap np cp ag ng cg ai ni hs gs idx) (hci : ai = none → ci = 0) :
    Calls Tryz.prog 10 #[.agg #[.slice ap np cp, .slice ag ng cg, .slice ai ni ci]] w fun e w' => e = .returned (.bool (okT (trd hs gs idx))) ∧ Below w.heap.size w w' := by
  have b0 : ∀ o, Below w.heap.size w (w.alloc o) := fun o => (Below.refl _ _).alloc (Nat.le_refl _) _
  have C := hide (fun o => tableOf_any ap np cp ag ng cg ai ni ci hs gs idx (w.alloc o) (hT.below (b0 o)) hci)
  clear hT
  go_enter Tryz.func10, Tryz.ntmps10
  go_wp2_with fail
  refine (unhide C _).mono ?_
  rintro e w2 ⟨v, rfl, hb, _⟩
  go_wp2_with fail
  go_ret
  exact ⟨rfl, (b0 _).trans (hb.mono (b0 _).size)⟩
end Go.Proofs.YtbhkmmdcdfjbkaaGreat

namespace Go.Proofs.YtbhkmmdcdfjbkaaGreat
open Go.RowKit

theorem xt_row {w w' : World} {a : Option Addr} {n : Nat} {xs : List Int} (h : Row w a n xs) (hb : Below w.heap.size w w') : Row w' a n xs := by
  refine ⟨h.1, fun i hi => ?_⟩
  obtain ⟨b, off, e, c⟩ := h.2 i hi
  exact ⟨b, off, e, (hb.cell (p := ⟨b, off + i, none⟩) (cell_lt c)).trans c⟩
end Go.Proofs.YtbhkmmdcdfjbkaaGreat

namespace Go.Proofs.YtbhkmmdcdfjbkaaGreat
open Go.RowKit

set_option maxHeartbeats 1000000 in
theorem at_any (a : Option Addr) (n c : Nat) (xs : List Int) (m : Int) (w : World) (hr : Row w a n xs) (hby : ∀ i, i < n → 0 ≤ xs.getD i 0 ∧ xs.getD i 0 ≤ 255) (hn : n ≤ 1048576) (hm : 2 ≤ m) (hm2 : m ≤ 100000) :
    Calls Tryz.prog 17 #[.slice a n c, .int .i64 0, .int .i64 m] w fun e w' => ∃ r : Int, e = .returned (.int .i64 r) ∧ 0 ≤ r ∧ r < m ∧ ∃ d, w' = w.drewN d := by
  have R := hide hr
  have BY := hide hby
  clear hr hby
  by_cases h0 : n = 0
  · subst h0
    clear R BY
    go_enter Tryz.func17, Tryz.ntmps17
    go_wp2_with fail
    go_ret
    exact ⟨0, rfl, by omega, by omega, 0, rfl⟩
  have q0 : ((n : Int) == 0) = false := by simp; omega
  obtain ⟨b, off, rfl, e0⟩ := (unhide R).2 0 (by omega)
  obtain ⟨x0, x1⟩ := unhide BY 0 (by omega)
  by_cases h1 : n = 1
  · subst h1
    generalize xs.getD 0 0 = x at *
    simp only [Nat.add_zero] at e0
    go_enter Tryz.func17, Tryz.ntmps17
    go_wp2_with fail
    go_quiet (fail)
    go_wp2_with fail
    go_ret
    refine ⟨_, rfl, ?_, ?_, _, rfl⟩
    · first | exact Int.emod_nonneg _ (by omega) | (simp; omega)
    · first | exact Int.emod_lt_of_pos _ (by omega) | (simp; omega)
  · obtain ⟨b', off', e, e1⟩ := (unhide R).2 1 (by omega)
    cases e
    obtain ⟨y0, y1⟩ := unhide BY 1 (by omega)
    generalize xs.getD 0 0 = x at *
    generalize xs.getD 1 0 = y at *
    simp only [Nat.add_zero] at e0
    have hmod : (1 : Int) % (n : Int) = 1 := Int.emod_eq_of_lt (by omega) (by omega)
    have hdiv : (0 : Int) / (n : Int) = 0 := Int.zero_ediv _
    go_enter Tryz.func17, Tryz.ntmps17
    go_wp2_with fail
    go_quiet (fail)
    go_wp2_with fail
    go_ret
    refine ⟨_, rfl, ?_, ?_, _, rfl⟩
    · first | exact Int.emod_nonneg _ (by omega) | (simp; omega)
    · first | exact Int.emod_lt_of_pos _ (by omega) | (simp; omega)
end Go.Proofs.YtbhkmmdcdfjbkaaGreat
