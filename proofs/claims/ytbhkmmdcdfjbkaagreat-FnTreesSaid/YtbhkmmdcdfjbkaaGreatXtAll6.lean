/-
  UsK, TsS, XtB, FdS, XtS, Src, SrcN, SrcM, FdD, FdE, SrcZ, XtD, XtP, GdI, SmI, TgI, MtF, XtK, XtKP in one.
-/
import Derived.Test.YtbhkmmdcdfjbkaaGreatXtAll5
import Derived.Test.YtbhkmmdcdfjbkaaGreatXtAll2
import Derived.Test.YtbhkmmdcdfjbkaaGreatXtAll3
import Derived.Test.YtbhkmmdcdfjbkaaGreatXtAll1
import Derived.Test.YtbhkmmdcdfjbkaaGreatPageM
import Derived.Laws.StructEq
import Derived.Deep.DeepCutAuto
import Derived.Test.YtbhkmmdcdfjbkaaGreatMtE
import Derived.Test.YtbhkmmdcdfjbkaaGreatOwn
import Derived.Deep.RegionWith
import Derived.Test.YtbhkmmdcdfjbkaaGreatPageO
import Derived.Laws.Concat
import Derived.Test.YtbhkmmdcdfjbkaaGreatXtAll4
import Derived.Test.YtbhkmmdcdfjbkaaGreatGdA
import Derived.ProofKit
import Derived.OpenShut
import Derived.ShutString
import Derived.ChangeOld
import Derived.Below
namespace Go.Proofs.YtbhkmmdcdfjbkaaGreat
open Go.RowKit

/-- A tree and codes, each in rows of its own. -/
structure TrRun (w : World) (B np ng ni nc : Nat) (a1 : Option Addr) (c1 : Nat) (a2 : Option Addr) (c2 : Nat) (a3 : Option Addr) (c3 : Nat) (ac : Option Addr) (cc : Nat) (hs : List PpH) (gs : List Bool) (idx : List RefD) (cs : List Int) : Prop where
  tr : TrOwn w B np ng (.slice a1 np c1) (.slice a2 ng c2) (.slice a3 ni c3) hs gs idx
  cod : w.ownsRow B 3 1 (.slice ac nc cc) nc (cs.map (Value.int .i64))
def TrRBl (vp vg vi vc : Value) (hs : List PpH) (i : Nat) : Prop := TrBl vp vg vi hs i ∨ vc.ownBlock = some i
theorem TrRun.lt {w : World} {B np ng ni nc c1 c2 c3 cc : Nat} {a1 a2 a3 ac : Option Addr} {hs : List PpH} {gs : List Bool} {idx : List RefD} {cs : List Int} (h : TrRun w B np ng ni nc a1 c1 a2 c2 a3 c3 ac cc hs gs idx cs) (i : Nat) (hi : TrRBl (.slice a1 np c1) (.slice a2 ng c2) (.slice a3 ni c3) (.slice ac nc cc) hs i) : B ≤ i ∧ i < w.heap.size := by
  rcases hi with (hi | hi | hi) | hi
  · exact h.tr.pg.lt i hi
  · exact h.tr.go.lt i hi
  · exact h.tr.ix.lt i hi
  · exact h.cod.lt i hi
theorem TrRun.wr {P : Nat → Prop} {w w' : World} {B np ng ni nc c1 c2 c3 cc : Nat} {a1 a2 a3 ac : Option Addr} {hs : List PpH} {gs : List Bool} {idx : List RefD} {cs : List Int} (h : TrRun w B np ng ni nc a1 c1 a2 c2 a3 c3 ac cc hs gs idx cs) (hw : WrB P w w') (hp : ∀ i, TrRBl (.slice a1 np c1) (.slice a2 ng c2) (.slice a3 ni c3) (.slice ac nc cc) hs i → ¬ P i) : TrRun w' B np ng ni nc a1 c1 a2 c2 a3 c3 ac cc hs gs idx cs :=
  ⟨⟨h.tr.pg.keep hw (fun i hi => hp i (.inl (.inl hi))), rr_owns_wr h.tr.go hw (fun i hi => hp i (.inl (.inr (.inl hi)))), rr_owns_wr h.tr.ix hw (fun i hi => hp i (.inl (.inr (.inr hi))))⟩, rr_owns_wr h.cod hw (fun i hi => hp i (.inr hi))⟩
theorem TrRun.below {w w' : World} {B np ng ni nc c1 c2 c3 cc : Nat} {a1 a2 a3 ac : Option Addr} {hs : List PpH} {gs : List Bool} {idx : List RefD} {cs : List Int} (h : TrRun w B np ng ni nc a1 c1 a2 c2 a3 c3 ac cc hs gs idx cs) (hb : Below w.heap.size w w') : TrRun w' B np ng ni nc a1 c1 a2 c2 a3 c3 ac cc hs gs idx cs := ⟨h.tr.below hb, rb_ownsRow_below h.cod hb⟩
/-- What TreeRun gives, in these words. -/
theorem rt_con {acts : List AcT} {W W' : World} {e : Ending} (h : RtRes acts W e W') : ∃ a1 c1 a2 c2 a3 c3 ac cc hs, e = .returned (.tuple #[.agg #[.slice a1 (rtT acts).ps.length c1, .slice a2 (rtT acts).gone.length c2, .slice a3 (rtT acts).idx.length c3], .slice ac (rtN acts).length cc, .int .i64 (rtC acts)]) ∧ TrRun W' W.heap.size (rtT acts).ps.length (rtT acts).gone.length (rtT acts).idx.length (rtN acts).length a1 c1 a2 c2 a3 c3 ac cc hs (rtT acts).gone (rtT acts).idx (rtN acts) ∧ hs.map (·.X) = (rtT acts).ps ∧ Below W.heap.size W W' := by
  obtain ⟨a1, n1, c1, a2, n2, c2, a3, n3, c3, ac, nc, cc, hs, gs, idx, rfl, ho, hn, ht, hb⟩ := h
  unfold trd at ht
  rw [← ht]
  simp only
  have e1 : hs.length = n1 := by have := ho.pg.len; simpa using this
  have e2 : gs.length = n2 := by have := ho.go.1; simpa using this
  have e3 : idx.length = n3 := by
    obtain ⟨a, c, e⟩ := us_sl ho.ix
    injection e with _ e _
    exact e.symm
  have e4 : (rtN acts).length = nc := by
    obtain ⟨a, c, e⟩ := us_sl hn
    injection e with _ e _
    exact e.symm
  subst e1 e2 e3 e4
  rw [List.length_map]
  exact ⟨a1, c1, a2, c2, a3, c3, ac, cc, hs, rfl, ⟨ho, hn⟩, rfl, hb⟩
end Go.Proofs.YtbhkmmdcdfjbkaaGreat

namespace Go.Proofs.YtbhkmmdcdfjbkaaGreat
open Go.RowKit

theorem inK_parts (fr tu k : ByteArray) : inK fr tu k = (!ltK k fr && underK k tu) := rfl
/-- What TreeScan answers. -/
def scanE (t : TreD) (fr tu : ByteArray) : List EntD := if 65536 < fr.size ∨ 65536 < tu.size then [] else if okT t = true then rangeE t.here fr tu else []
def scanC (t : TreD) (fr tu : ByteArray) : Int := if 65536 < fr.size ∨ 65536 < tu.size then 2 else if okT t = true then 0 else 1
theorem rangeE_len {ps : List (Option PageD)} {a b : ByteArray} (h : (treeE ps).length ≤ 960) : (rangeE ps a b).length ≤ 960 := by
  have := List.length_filter_le (fun e : EntD => inK a b e.k) (treeE ps)
  unfold rangeE
  omega
def SnRes (t : TreD) (fr tu : ByteArray) (w : World) (e : Ending) (w' : World) : Prop := ∃ a n c, e = Ending.returned (.tuple #[.slice a n c, .int .i64 (scanC t fr tu)]) ∧ EOwns w' w.heap.size (.slice a n c) (scanE t fr tu) ∧ Below w.heap.size w w'
set_option maxRecDepth 100000 in
set_option maxHeartbeats 4000000 in
theorem implTreeScan_any (ap : Option Addr) (np cp : Nat) (ag : Option Addr) (ng cg : Nat) (ai : Option Addr) (ni ci : Nat) (hs : List PpH) (gs : List Bool) (idx : List RefD) (fr tu : ByteArray) (w : World) (hT : TrIn w ap np cp ag ng cg ai ni hs gs idx) (hci : ai = none → ci = 0) :
    Calls Tryz.prog 12 #[.agg #[.slice ap np cp, .slice ag ng cg, .slice ai ni ci], .string fr, .string tu] w fun e w' => SnRes (trd hs gs idx) fr tu w e w' := by
  have b0 : ∀ o, Below w.heap.size w (w.alloc o) := fun o => (Below.refl _ _).alloc (Nat.le_refl _) _
  have BW := hide (b0 (.cells #[.slice ap np cp, .slice ag ng cg, .slice ai ni ci] 29))
  have T := hide (hT.below (unhide BW))
  have BT := hide (show ∀ u, Below (w.alloc (.cells #[.slice ap np cp, .slice ag ng cg, .slice ai ni ci] 29)).heap.size (w.alloc (.cells #[.slice ap np cp, .slice ag ng cg, .slice ai ni ci] 29)) u → Below w.heap.size w u from fun u hu => (unhide BW).trans (hu.mono (unhide BW).size))
  have NIL := hide (show ∀ (u : World) (hu : Below w.heap.size w u) (cd : Int), scanC (trd hs gs idx) fr tu = cd → scanE (trd hs gs idx) fr tu = [] → SnRes (trd hs gs idx) fr tu w (.returned (.tuple #[.slice none 0 0, .int .i64 cd])) u from fun u hu cd h1 h2 => ⟨_, _, _, by rw [h1], by rw [h2]; exact World.ownsRow_nil _ _ _ _, hu⟩)
  clear hT BW
  by_cases hk : 65536 < fr.size
  · have E := hide (show scanC (trd hs gs idx) fr tu = 2 ∧ scanE (trd hs gs idx) fr tu = [] by unfold scanC scanE; rw [if_pos (.inl hk), if_pos (.inl hk)]; exact ⟨rfl, rfl⟩)
    go_enter Tryz.func12, Tryz.ntmps12
    go_wp2_with fail
    go_ret2
    exact unhide NIL _ (b0 _) _ (unhide E).1 (unhide E).2
  by_cases hk2 : 65536 < tu.size
  · have E := hide (show scanC (trd hs gs idx) fr tu = 2 ∧ scanE (trd hs gs idx) fr tu = [] by unfold scanC scanE; rw [if_pos (.inr hk2), if_pos (.inr hk2)]; exact ⟨rfl, rfl⟩)
    go_enter Tryz.func12, Tryz.ntmps12
    go_wp2_with fail
    go_ret2
    exact unhide NIL _ (b0 _) _ (unhide E).1 (unhide E).2
  have NK := hide (show ¬ (65536 < fr.size ∨ 65536 < tu.size) from fun h => h.elim hk hk2)
  go_enter Tryz.func12, Tryz.ntmps12
  go_wp2_with fail
  have zW : w.heap.size ≤ (w.alloc (.cells #[.slice ap np cp, .slice ag ng cg, .slice ai ni ci] 29)).heap.size := (b0 _).size
  generalize w.alloc (.cells #[.slice ap np cp, .slice ag ng cg, .slice ai ni ci] 29) = W at *
  refine (tableOf_any ap np cp ag ng cg ai ni ci hs gs idx W (unhide T) hci).mono ?_
  rintro e w2 ⟨v, rfl, hb, htab⟩
  cases hok : okT (trd hs gs idx) with
  | false =>
    have E := hide (show scanC (trd hs gs idx) fr tu = 1 ∧ scanE (trd hs gs idx) fr tu = [] by unfold scanC scanE; rw [if_neg (unhide NK), if_neg (unhide NK), hok]; exact ⟨rfl, rfl⟩)
    clear htab
    go_wp2_with fail
    go_ret2
    exact unhide NIL _ (unhide BT _ hb) _ (unhide E).1 (unhide E).2
  | true =>
    obtain ⟨mb, qs, vp, vi, rfl, hown, hqs, hmem⟩ := htab hok
    have E := hide (show scanC (trd hs gs idx) fr tu = 0 ∧ scanE (trd hs gs idx) fr tu = rangeE (qsP qs) fr tu by unfold scanC scanE; rw [if_neg (unhide NK), if_neg (unhide NK), hok, hqs]; exact ⟨rfl, rfl⟩)
    have hG : GoodT (trd hs gs idx).here idx := good_of hok
    have hrow : ∀ b x, some (b, x) ∈ qs → ERow w2 x.s0.a x.s0.n x.X.es ∧ DRow w2 x.s1.a x.s1.n x.X.ds := fun b x hx => by
      obtain ⟨j, hj, e⟩ := List.getElem_of_mem (hmem b x hx).1
      have h := PpIn.sub ((unhide T).below hb).pgs hj
      rw [e] at h
      exact ⟨erow_C h.1, drow_C h.2⟩
    obtain ⟨ap2, cp2, ai2, ci2, M⟩ := hown.table hrow
    have HB := hide (between_any mb qs idx ap2 cp2 ai2 ci2 fr tu w2 M (by rw [hqs]; exact hG))
    have zz := hide (show w.heap.size ≤ w2.heap.size from Nat.le_trans zW hb.size)
    clear hown hqs htab M hrow hok hG hmem
    go_wp2_with fail
    refine (unhide HB).mono ?_
    rintro e w4 ⟨v4, rfl, ho4, hb4⟩
    obtain ⟨a4, c4, hv4, _⟩ := eowns_slice ho4
    have RES := hide (show SnRes (trd hs gs idx) fr tu w (.returned (.tuple #[v4, .int .i64 0])) w4 by
      rw [hv4] at ho4 ⊢
      exact ⟨_, _, _, by rw [(unhide E).1], by rw [(unhide E).2]; exact gd_base ho4 (unhide zz), unhide BT _ (hb.trans (hb4.mono hb.size))⟩)
    clear ho4 hb4 hv4
    go_wp2_with fail
    go_ret2
    exact unhide RES
end Go.Proofs.YtbhkmmdcdfjbkaaGreat

namespace Go.Proofs.YtbhkmmdcdfjbkaaGreat
open Go.RowKit

theorem tre_okT {ps : List (Option PageD)} {idx : List RefD} (t : Tre ps idx) {hs : List PpH} (hX : hs.map (·.X) = ps.map pgD) : okT (trd hs (ps.map (·.isNone)) idx) = true := by
  have hl : hs.length = ps.length := by have := congrArg List.length hX; simpa using this
  have g := t.good
  have he : (trd hs (ps.map (·.isNone)) idx).here = ps := by
    unfold trd TreD.here
    simp only
    rw [hX]
    exact here_map ps
  rw [okT_rest ⟨by rw [hl]; exact t.len.1, by rw [hl]; exact t.len.2, by rw [List.length_map, hl], by rw [hl]; exact g.il⟩ (fun i h1 h2 => ?_), he, g.go, g.ix]
  · obtain ⟨h0, _, hz⟩ := g.zero
    unfold zeroIdx
    rw [List.getElem?_eq_getElem h0]
    simp only [hz, decide_true, Bool.and_self]
  · have hp : i < ps.length := by rw [← hl]; exact h1
    have e := congrArg (fun l => l[i]?) hX
    simp only [List.getElem?_map, List.getElem?_eq_getElem h1, List.getElem?_eq_getElem hp, Option.map_some] at e
    injection e with e
    rw [e, List.getElem_map]
    cases hq : ps[i] with
    | none =>
      show noP ⟨⟨#[]⟩, ⟨#[]⟩, -1, [], []⟩ = true
      unfold noP
      simp only
      rw [isE_none]
      rfl
    | some p =>
      have hm : some p ∈ ps := hq ▸ List.getElem_mem hp
      obtain ⟨k, hk⟩ := mem_getP hm
      exact t.ok _ p hk
theorem run_pre (acts : List AcT) : ∀ (m k : Nat) (hk : k < m) (hm : m ≤ acts.length), (runS (acts.take m)).codes[k]? = some (stepT (runS (acts.take k)).ps (runS (acts.take k)).idx (acts[k]'(by omega))).code
  | 0, k, hk, _ => absurd hk (Nat.not_lt_zero _)
  | m + 1, k, hk, hm => by
    have hl := (runS_tre acts m (by omega)).2
    rw [runS_take acts m (by omega)]
    by_cases h : k = m
    · subst h
      simp only
      rw [List.getElem?_append_right (by omega), hl]
      simp
    · simp only
      rw [List.getElem?_append_left (by omega)]
      exact run_pre acts m k (by omega) (by omega)
theorem run_code (acts : List AcT) {k : Nat} (hk : k < acts.length) : (runS acts).codes[k]? = some (stepT (runS (acts.take k)).ps (runS (acts.take k)).idx acts[k]).code := by
  have h := run_pre acts acts.length k hk (Nat.le_refl _)
  rw [List.take_length] at h
  exact h
/-- The entries behind a step, as put makes them. -/
theorem run_ents (acts : List AcT) {k : Nat} (hk : k < acts.length) : treeE (runS (acts.take (k + 1))).ps = if (stepT (runS (acts.take k)).ps (runS (acts.take k)).idx acts[k]).code = 0 ∧ acts[k].kind ≤ 2 then putE (treeE (runS (acts.take k)).ps) ⟨acts[k].key, acts[k].val⟩ (acts[k].kind == 2) else treeE (runS (acts.take k)).ps := by
  have t := (runS_tre acts k (by omega)).1
  rw [runS_take acts k hk]
  simp only
  rw [stepT_ents t]
  split
  · rename_i h
    have h12 : acts[k].kind = 1 ∨ acts[k].kind = 2 := by
      rcases Classical.em (acts[k].kind = 1 ∨ acts[k].kind = 2) with h' | h'
      · exact h'
      · exfalso
        have e : stepT (runS (acts.take k)).ps (runS (acts.take k)).idx acts[k] = ⟨(runS (acts.take k)).ps, (runS (acts.take k)).idx, 0, 3⟩ := by
          unfold stepT
          rw [if_neg h', if_neg (by omega), if_neg (by omega), if_neg (by omega), if_neg (by omega)]
        rw [e] at h
        exact absurd h.1 (show ¬ (3 : Int) = 0 by decide)
    unfold putE chgD
    rcases h12 with h1 | h2
    · rw [if_pos h1, h1]
      rfl
    · rw [if_neg (by omega), h2]
      rfl
  · rfl
theorem range_all (ps : List (Option PageD)) : rangeE ps ⟨#[]⟩ ⟨#[]⟩ = treeE ps := by
  unfold rangeE
  rw [List.filter_eq_self]
  intro e _
  rw [inK_parts, ltK_none]
  unfold underK
  rw [isE_none]
  rfl
/-- What TreeGet answers of a right tree, by its entries. -/
def getL (lk : Option ByteArray) (hops : Nat) : Value := match lk with
  | some v => .tuple #[.string v, .int .i64 (hops : Int), .int .i64 0]
  | none => .tuple #[.string ⟨#[]⟩, .int .i64 (hops : Int), .int .i64 5]
theorem getA_tre {ps : List (Option PageD)} {idx : List RefD} (t : Tre ps idx) {hs : List PpH} (hX : hs.map (·.X) = ps.map pgD) {key : ByteArray} (hk : keyK key = true) : getA (trd hs (ps.map (·.isNone)) idx) key = getL (lookE (treeE ps) key) (downT ps idx key).2 := by
  have he : (trd hs (ps.map (·.isNone)) idx).here = ps := by
    unfold trd TreD.here
    simp only
    rw [hX]
    exact here_map ps
  have hs' : key.size ≤ 40 := by unfold keyK at hk; simp at hk; exact hk.2
  unfold getA
  rw [if_neg (by omega), if_pos ⟨tre_okT t hX, hk⟩, he]
  obtain ⟨p, h1, h2, h3, _⟩ := t.good.down key
  rw [t.look h1 ⟨h2, h3⟩]
  show getR ps idx key = _
  unfold getR getL
  rw [h1]
  rfl
theorem scan_tre {ps : List (Option PageD)} {idx : List RefD} (t : Tre ps idx) {hs : List PpH} (hX : hs.map (·.X) = ps.map pgD) {fr tu : ByteArray} (h1 : fr.size ≤ 65536) (h2 : tu.size ≤ 65536) : scanE (trd hs (ps.map (·.isNone)) idx) fr tu = rangeE ps fr tu ∧ scanC (trd hs (ps.map (·.isNone)) idx) fr tu = 0 := by
  have he : (trd hs (ps.map (·.isNone)) idx).here = ps := by
    unfold trd TreD.here
    simp only
    rw [hX]
    exact here_map ps
  have hno : ¬ (65536 < fr.size ∨ 65536 < tu.size) := by omega
  unfold scanE scanC
  rw [if_neg hno, if_neg hno, if_pos (tre_okT t hX), if_pos (tre_okT t hX), he]
  exact ⟨rfl, rfl⟩
/-- What TreeRun gives of few acts. -/
theorem rt_few_con {acts : List AcT} (hl : acts.length ≤ 150) {W W' : World} {e : Ending} (h : RtRes acts W e W') : ∃ a1 c1 a2 c2 a3 c3 ac cc hs, e = .returned (.tuple #[.agg #[.slice a1 (runS acts).ps.length c1, .slice a2 (runS acts).ps.length c2, .slice a3 (runS acts).idx.length c3], .slice ac acts.length cc, .int .i64 0]) ∧ TsOwn W' W.heap.size a1 c1 a2 c2 a3 c3 (runS acts).ps.length (runS acts).idx.length hs (runS acts).ps (runS acts).idx ∧ W'.ownsRow W.heap.size 3 1 (.slice ac acts.length cc) acts.length ((runS acts).codes.map (Value.int .i64)) ∧ Below W.heap.size W W' := by
  obtain ⟨a1, c1, a2, c2, a3, c3, ac, cc, hs, e1, o, m, b⟩ := rt_con h
  have hT : rtT acts = ⟨(runS acts).ps.map pgD, (runS acts).ps.map (·.isNone), (runS acts).idx⟩ := by unfold rtT; rw [if_neg (by omega)]
  have hN : rtN acts = (runS acts).codes := by unfold rtN; rw [if_neg (by omega)]
  have hC : rtC acts = 0 := by unfold rtC; rw [if_neg (by omega), if_neg (by omega)]
  have hcl : (runS acts).codes.length = acts.length := by
    have := (runS_tre acts acts.length (Nat.le_refl _)).2
    rw [List.take_length] at this
    exact this
  rw [hT, hN, hC] at e1
  rw [hT, hN] at o
  rw [hT] at m
  simp only [List.length_map] at e1 o m
  rw [hcl] at e1 o
  exact ⟨a1, c1, a2, c2, a3, c3, ac, cc, hs, e1, ⟨o.tr, m, rfl, rfl⟩, o.cod, b⟩
theorem tree_few {ps : List (Option PageD)} {idx : List RefD} (t : Tre ps idx) : (treeE ps).length ≤ 960 := by
  obtain ⟨p, hp, _⟩ := t.zero
  have s := ScSt.start (ps := ps) (f := fun _ => true) hp
  have : ∀ (m : Nat) (id : Int) (c : Nat), c + m = 30 → (∀ p, getP ps id = some p → c + cntGe ps p.lo ≤ manyT ps) → (scanF ps (40 - c) id).length ≤ 32 * m := fun m => by
    induction m with
    | zero =>
      intro id c hc hg
      cases hq : getP ps id with
      | none => rw [scanF_none hq]; simp
      | some q =>
        have h1 := hg q hq
        have h2 := cntGe_here (getP_mem hq)
        have h3 : manyT ps ≤ ps.length := List.countP_le_length
        have := t.len.2
        omega
    | succ m ih =>
      intro id c hc hg
      cases hq : getP ps id with
      | none => rw [scanF_none hq]; simp
      | some q =>
        rw [show 40 - c = (40 - (c + 1)) + 1 by omega, scanF_some hq, List.length_append]
        have h1 := enP_len (t.ok _ q hq)
        have h2 := ih (riP q) (c + 1) (by omega) (fun r hr => by
          rcases t.next _ q hq with ⟨h, _⟩ | ⟨hlt, r2, hr2, hl⟩
          · rw [h, getP_neg (by omega)] at hr; cases hr
          · rw [hr2] at hr
            injection hr with hr
            subst hr
            have h4 := cntGe_next (getP_mem hq) hlt
            have h5 := hg q hq
            rw [hl]
            omega)
        omega
  have h := this 30 0 0 rfl (fun q hq => by have := cntGe_many ps q.lo; omega)
  exact h
end Go.Proofs.YtbhkmmdcdfjbkaaGreat

namespace Go.Proofs.YtbhkmmdcdfjbkaaGreat
open Go.RowKit

theorem Tryz.entS : Tryz.prog.underlying 41 = some (.struct (Tryz.prog.fieldsOf 41)) := by kernel_rfl
theorem Tryz.entH : Tryz.prog.stoodInHeld 41 = false := by kernel_rfl
theorem Tryz.entG : Tryz.prog.eqGuardType Tryz.prog.depth 41 = false := by kernel_rfl
theorem Tryz.delS : Tryz.prog.underlying 90 = some (.struct (Tryz.prog.fieldsOf 90)) := by kernel_rfl
theorem Tryz.delH : Tryz.prog.stoodInHeld 90 = false := by kernel_rfl
theorem Tryz.delG : Tryz.prog.eqGuardType Tryz.prog.depth 90 = false := by kernel_rfl
set_option maxRecDepth 100000 in
theorem eqEntV (e : EntD) (w : World) : (Op.equalIn 10000 41 (.agg #[.string e.k, .string e.v]) (.agg #[.string e.k, .string e.v])).run Tryz.prog w = .ok true w := by
  rw [run_equalIn_struct w 9999 _ _ _ Tryz.entS Tryz.entH]
  simp [Program.fieldsOf, Tryz.underlying41, Op.eqFields, go_sem, Tryz.underlying9]
set_option maxRecDepth 100000 in
theorem eqDelV (d : DelD) (w : World) : (Op.equalIn 10000 90 (.agg #[.int .i64 d.kind, .string d.k, .string d.v, .int .i64 d.to]) (.agg #[.int .i64 d.kind, .string d.k, .string d.v, .int .i64 d.to])).run Tryz.prog w = .ok true w := by
  rw [run_equalIn_struct w 9999 _ _ _ Tryz.delS Tryz.delH]
  simp [Program.fieldsOf, Tryz.underlying90, Op.eqFields, go_sem, Tryz.underlying9, Tryz.underlying3]
set_option maxRecDepth 100000 in
set_option maxHeartbeats 2000000 in
theorem sameEntries_any (a a2 : Option Addr) (n c c2 : Nat) (es : List EntD) (w : World) (h1 : ERow w a n es) (h2 : ERow w a2 n es) (hn : n ≤ 1000) :
    Calls Tryz.prog 16 #[.slice a n c, .slice a2 n c2] w fun e w' => e = .returned (.bool true) ∧ Below w.heap.size w w' := by
  have R1 := hide h1
  have R2 := hide h2
  have LN := hide h1.1
  have q3 := Tryz.entG
  have q4 := eqEntV
  clear h1 h2
  go_enter Tryz.func16, Tryz.ntmps16
  go_wp2_with fail
  go_loopw [5] (fun i wr => ∃ k : Nat, k ≤ n ∧ i = .int .i64 k ∧ Below w.heap.size w wr) (fun i _ => n - (intOf i).toNat)
  case atStart => exact ⟨0, Nat.zero_le _, rfl, Below.refl _ _⟩
  case round =>
    obtain ⟨k, hk, rfl, hb⟩ := hrel
    by_cases hlt : k < n
    · have hl := unhide LN
      obtain ⟨b, off, rfl, c0, c1⟩ := ((unhide R1).below hb).2 k (by omega)
      obtain ⟨b', off', rfl, d0, d1⟩ := ((unhide R2).below hb).2 k (by omega)
      generalize es[k]'(by omega) = em at *
      clear hl
      go_wp2_with fail
      go_quiet (fail)
      go_wp2_with fail
      go_roundw
      case rel => exact ⟨k + 1, by omega, by go_num, bel_drewN hb _⟩
      case measure => simp [intOf]; omega
    · obtain rfl : k = n := by omega
      go_wp2_with fail
      go_ret
      exact ⟨rfl, hb⟩
theorem two_boxes (w : World) (cs ds : Array Value) (t u : TypeId) : ∃ W, W = (w.alloc (.cells cs t)).alloc (.cells ds u) ∧ Below w.heap.size w W ∧ W.heap[w.heap.size]? = some (.cells cs t (0, 0)) ∧ W.heap[w.heap.size + 1]? = some (.cells ds u (0, 0)) ∧ W.heap.size = w.heap.size + 2 := by
  refine ⟨_, rfl, ((Below.refl _ _).alloc (Nat.le_refl _) _).alloc (by simp) _, ?_, ?_, by simp⟩
  · have b2 : Below (w.heap.size + 1) (w.alloc (.cells cs t)) ((w.alloc (.cells cs t)).alloc (.cells ds u)) := (Below.refl _ _).alloc (by simp) _
    exact (b2.block w.heap.size (by omega)).trans (heap_alloc_new w _)
  · have := heap_alloc_new (w.alloc (.cells cs t)) (.cells ds u)
    simpa using this
theorem five_in {w : World} {b : Nat} {v0 v1 v2 v3 v4 : Value} {t : TypeId} (h : w.heap[b]? = some (.cells #[v0, v1, v2, v3, v4] t (0, 0))) : w.cell? ⟨b, 0, none⟩ = some v0 ∧ w.cell? ⟨b, 1, none⟩ = some v1 ∧ w.cell? ⟨b, 2, none⟩ = some v2 ∧ w.cell? ⟨b, 3, none⟩ = some v3 ∧ w.cell? ⟨b, 4, none⟩ = some v4 := by
  refine ⟨?_, ?_, ?_, ?_, ?_⟩ <;> simp [World.cell?, h]
theorem heap_lt2 {w : World} {b : Nat} {o : Obj} (h : w.heap[b]? = some o) : b < w.heap.size := (Array.getElem?_eq_some_iff.1 h).1
set_option maxRecDepth 100000 in
set_option maxHeartbeats 4000000 in
theorem samePage_any (lo hi : ByteArray) (r : Int) (a a' : Option Addr) (n c c' : Nat) (es : List EntD) (a2 a2' : Option Addr) (n2 c2 c2' : Nat) (ds : List DelD) (w : World) (h1 : ERow w a n es) (h2 : ERow w a' n es) (g1 : DRow w a2 n2 ds) (g2 : DRow w a2' n2 ds) (hn : n ≤ 1000) (hn2 : n2 ≤ 1000) :
    Calls Tryz.prog 30 #[pgv lo hi r a n c a2 n2 c2, pgv lo hi r a' n c' a2' n2 c2'] w fun e w' => e = .returned (.bool true) ∧ Below w.heap.size w w' := by
  obtain ⟨W0, hW0, hB0, k1, k2, hz⟩ := two_boxes w #[.string lo, .string hi, .int .i64 r, .slice a n c, .slice a2 n2 c2] #[.string lo, .string hi, .int .i64 r, .slice a' n c', .slice a2' n2 c2'] 67 67
  have R1 := hide (h1.below hB0)
  have R2 := hide (h2.below hB0)
  have D1 := hide (g1.below hB0)
  have D2 := hide (g2.below hB0)
  have LN := hide g1.1
  have q3 := Tryz.delG
  have q4 := eqDelV
  obtain ⟨p0, p1, p2, p3, p4⟩ := five_in k1
  obtain ⟨s0, s1, s2, s3, s4⟩ := five_in k2
  have K1 := hide k1
  have K2 := hide k2
  clear h1 h2 g1 g2 k1 k2
  go_enter Tryz.func30, Tryz.ntmps30
  go_upto_region 1 with fail
  rw [← hW0]
  clear hW0
  go_wp2_with fail
  refine (sameEntries_any a a' n c c' es W0 (unhide R1) (unhide R2) hn).mono ?_
  rintro e w1 ⟨rfl, hb1⟩
  replace D1 := hide ((unhide D1).below hb1)
  replace D2 := hide ((unhide D2).below hb1)
  replace K1 := hide ((hb1.block _ (heap_lt2 (unhide K1))).trans (unhide K1))
  replace K2 := hide ((hb1.block _ (heap_lt2 (unhide K2))).trans (unhide K2))
  have B1 := hB0.trans (hb1.mono hB0.size)
  clear p0 p1 p2 p3 p4 s0 s1 s2 s3 s4 hb1 hB0 R1 R2
  obtain ⟨p0, p1, p2, p3, p4⟩ := five_in (unhide K1)
  obtain ⟨s0, s1, s2, s3, s4⟩ := five_in (unhide K2)
  go_wp2_with fail
  clear p0 p1 p2 p3 s0 s1 s2 s3
  go_loopw [5] (fun i wr => ∃ k : Nat, k ≤ n2 ∧ i = .int .i64 k ∧ Below w1.heap.size w1 wr) (fun i _ => n2 - (intOf i).toNat)
  case atStart => exact ⟨0, Nat.zero_le _, rfl, Below.refl _ _⟩
  case round =>
    obtain ⟨k, hk, rfl, hb⟩ := hrel
    have x4 := (hb.cell (p := ⟨w.heap.size, 4, none⟩) (heap_lt2 (unhide K1))).trans p4
    have y4 := (hb.cell (p := ⟨w.heap.size + 1, 4, none⟩) (heap_lt2 (unhide K2))).trans s4
    by_cases hlt : k < n2
    · have hl := unhide LN
      obtain ⟨b, off, rfl, c0, c1, e2, e3⟩ := ((unhide D1).below hb).2 k (by omega)
      obtain ⟨b', off', rfl, d0, d1, f2, f3⟩ := ((unhide D2).below hb).2 k (by omega)
      generalize ds[k]'(by omega) = em at *
      clear hl
      go_wp2_with fail
      go_quiet (fail)
      go_wp2_with fail
      go_roundw
      case rel => exact ⟨k + 1, by omega, by go_num, bel_drewN hb _⟩
      case measure => simp [intOf]; omega
    · obtain rfl : k = n2 := by omega
      go_wp2_with fail
      go_ret
      exact ⟨rfl, B1.trans (hb.mono B1.size)⟩
end Go.Proofs.YtbhkmmdcdfjbkaaGreat

namespace Go.Proofs.YtbhkmmdcdfjbkaaGreat
open Go.RowKit

/-- What value answers. -/
def valA (es : List EntD) (key : ByteArray) : Value := match lookE es key with
  | some v => .tuple #[.string v, .bool true]
  | none => .tuple #[.string ⟨#[]⟩, .bool false]
set_option maxRecDepth 100000 in
set_option maxHeartbeats 2000000 in
theorem lawValue_any (a : Option Addr) (n c : Nat) (es : List EntD) (key : ByteArray) (w : World) (h1 : ERow w a n es) (hn : n ≤ 1000) :
    Calls Tryz.prog 15 #[.slice a n c, .string key] w fun e w' => e = .returned (valA es key) ∧ Below w.heap.size w w' := by
  have R1 := hide h1
  have LN := hide h1.1
  obtain ⟨V, hV⟩ : ∃ V, V = valA es key := ⟨_, rfl⟩
  rw [← hV]
  have HV := hide hV
  clear h1 hV
  go_enter Tryz.func15, Tryz.ntmps15
  go_wp2_with fail
  go_loopw [6] (fun i wr => ∃ k : Nat, k ≤ n ∧ i = .int .i64 k ∧ Hid (∀ j (hj : j < es.length), j < k → (es[j].k.toList == key.toList) = false) ∧ Below w.heap.size w wr) (fun i _ => n - (intOf i).toNat)
  case atStart => exact ⟨0, Nat.zero_le _, rfl, fun j _ h => absurd h (Nat.not_lt_zero _), Below.refl _ _⟩
  case round =>
    obtain ⟨k, hk, rfl, hno, hb⟩ := hrel
    by_cases hlt : k < n
    · have hl : k < es.length := by rw [unhide LN]; exact hlt
      obtain ⟨b, off, rfl, c0, c1⟩ := ((unhide R1).below hb).2 k hl
      cases heq : (es[k].k.toList == key.toList) with
      | true =>
        have HE := hide (show V = .tuple #[.string es[k].v, .bool true] by rw [unhide HV]; unfold valA; rw [look_some hl (unhide hno) heq])
        generalize es[k] = em at *
        clear hno hl HV
        go_wp2_with fail
        go_ret2
        exact ⟨by rw [unhide HE]; rfl, by first | exact hb | exact bel_drewN hb _⟩
      | false =>
        have NX := hide (show ∀ j (hj : j < es.length), j < k + 1 → (es[j].k.toList == key.toList) = false from fun j hj h => by
          by_cases hjk : j = k
          · subst hjk; exact heq
          · exact unhide hno j hj (by omega))
        generalize es[k] = em at *
        clear hno hl
        go_wp2_with fail
        go_roundw
        case rel => exact ⟨k + 1, by omega, by go_num, NX, by first | exact hb | exact bel_drewN hb _⟩
        case measure => simp [intOf]; omega
    · obtain rfl : k = n := by omega
      have HE := hide (show V = .tuple #[.string ⟨#[]⟩, .bool false] by rw [unhide HV]; unfold valA; rw [look_none (fun i hi => unhide hno i hi (by rw [← unhide LN]; exact hi))])
      clear hno HV
      go_wp2_with fail
      go_ret2
      exact ⟨by rw [unhide HE]; rfl, hb⟩
theorem Tryz.refS : Tryz.prog.underlying 69 = some (.struct (Tryz.prog.fieldsOf 69)) := by kernel_rfl
theorem Tryz.refH : Tryz.prog.stoodInHeld 69 = false := by kernel_rfl
theorem Tryz.refG : Tryz.prog.eqGuardType Tryz.prog.depth 69 = false := by kernel_rfl
set_option maxRecDepth 100000 in
theorem eqRefV (d : RefD) (w : World) : (Op.equalIn 10000 69 (.agg #[.string d.low, .int .i64 d.id]) (.agg #[.string d.low, .int .i64 d.id])).run Tryz.prog w = .ok true w := by
  rw [run_equalIn_struct w 9999 _ _ _ Tryz.refS Tryz.refH]
  simp [Program.fieldsOf, Tryz.underlying69, Op.eqFields, go_sem, Tryz.underlying9, Tryz.underlying3]
theorem xt_eqlb (x : Bool) (w : World) : (binOp .neq 4 (.bool x) (.bool x)).run Tryz.prog w = .ok (.bool false) w := by cases x <;> kernel_rfl
theorem three_in {w : World} {b : Nat} {v0 v1 v2 : Value} {t : TypeId} (h : w.heap[b]? = some (.cells #[v0, v1, v2] t (0, 0))) : w.cell? ⟨b, 0, none⟩ = some v0 ∧ w.cell? ⟨b, 1, none⟩ = some v1 ∧ w.cell? ⟨b, 2, none⟩ = some v2 := by
  refine ⟨?_, ?_, ?_⟩ <;> simp [World.cell?, h]
set_option maxRecDepth 100000 in
set_option maxHeartbeats 8000000 in
theorem sameTree_any (ap ap' : Option Addr) (np cp cp' : Nat) (ag ag' : Option Addr) (cg cg' : Nat) (ai ai' : Option Addr) (ni ci ci' : Nat) (hs hs' : List PpH) (gs : List Bool) (idx : List RefD) (w : World) (h1 : TrIn w ap np cp ag np cg ai ni hs gs idx) (h2 : TrIn w ap' np cp' ag' np cg' ai' ni hs' gs idx) (hX : hs'.map (·.X) = hs.map (·.X)) (hn : np ≤ 1000 ∧ ni ≤ 1000) (hl : ∀ h ∈ hs, h.s0.n ≤ 1000 ∧ h.s1.n ≤ 1000) :
    Calls Tryz.prog 9 #[.agg #[.slice ap np cp, .slice ag np cg, .slice ai ni ci], .agg #[.slice ap' np cp', .slice ag' np cg', .slice ai' ni ci']] w fun e w' => e = .returned (.bool true) ∧ Below w.heap.size w w' := by
  obtain ⟨W0, hW0, hB0, k1, k2, hz⟩ := two_boxes w #[.slice ap np cp, .slice ag np cg, .slice ai ni ci] #[.slice ap' np cp', .slice ag' np cg', .slice ai' ni ci'] 29 29
  have T1 := hide (h1.below hB0)
  have T2 := hide (h2.below hB0)
  have LP := hide h1.plen
  have LP2 := hide h2.plen
  have LG := hide h1.glen
  have LI := hide h1.ix.1
  have XX := hide hX
  have LL := hide hl
  have K1 := hide k1
  have K2 := hide k2
  obtain ⟨p0, p1, p2⟩ := three_in k1
  obtain ⟨s0, s1, s2⟩ := three_in k2
  obtain ⟨hn1, hn2⟩ := hn
  clear h1 h2 hX hl k1 k2 hz
  go_enter Tryz.func9, Tryz.ntmps9
  go_upto_region 1 with fail
  rw [← hW0]
  clear hW0
  go_wp2_with fail
  clear p0 p1 p2 s0 s1 s2
  go_loopw [5] (fun i wr => ∃ k : Nat, k ≤ np ∧ i = .int .i64 k ∧ Below W0.heap.size W0 wr) (fun i _ => np - (intOf i).toNat)
  case atStart => exact ⟨0, Nat.zero_le _, rfl, Below.refl _ _⟩
  case round =>
    obtain ⟨k, hk, rfl, hb⟩ := hrel
    have SB := hide (show ∀ u, Below W0.heap.size W0 u → (u.cell? ⟨w.heap.size, 0, none⟩ = some (.slice ap np cp) ∧ u.cell? ⟨w.heap.size, 1, none⟩ = some (.slice ag np cg) ∧ u.cell? ⟨w.heap.size, 2, none⟩ = some (.slice ai ni ci) ∧ u.cell? ⟨w.heap.size + 1, 0, none⟩ = some (.slice ap' np cp') ∧ u.cell? ⟨w.heap.size + 1, 1, none⟩ = some (.slice ag' np cg') ∧ u.cell? ⟨w.heap.size + 1, 2, none⟩ = some (.slice ai' ni ci')) from fun u hu => by
      obtain ⟨a0, a1, a2⟩ := three_in ((hu.block w.heap.size (heap_lt2 (unhide K1))).trans (unhide K1))
      obtain ⟨b0, b1, b2⟩ := three_in ((hu.block (w.heap.size + 1) (heap_lt2 (unhide K2))).trans (unhide K2))
      exact ⟨a0, a1, a2, b0, b1, b2⟩)
    obtain ⟨a0, a1, a2, b0, b1, b2⟩ := unhide SB wr hb
    by_cases hlt : k < np
    · have hk1 : k < hs.length := by rw [unhide LP]; exact hlt
      have hk2 : k < hs'.length := by rw [unhide LP2]; exact hlt
      have hkg : k < gs.length := by rw [unhide LG]; exact hlt
      have ex : hs'[k].X = hs[k].X := by
        have e := congrArg (·[k]?) (unhide XX)
        simp only [List.getElem?_map, List.getElem?_eq_getElem hk1, List.getElem?_eq_getElem hk2, Option.map_some] at e
        injection e
      have A := (unhide T1).below hb
      have B := (unhide T2).below hb
      obtain ⟨b, off, hab, hbl, c0, c1, c2, c3, c4⟩ := PpIn.cells A.pgs hk1
      obtain ⟨b', off', hab', hbl', d0, d1, d2, d3, d4⟩ := PpIn.cells B.pgs hk2
      obtain ⟨r1, r2⟩ := PpIn.sub A.pgs hk1
      obtain ⟨r3, r4⟩ := PpIn.sub B.pgs hk2
      have hl0 := unhide LL hs[k] (List.getElem_mem hk1)
      have n1 := rowC_len r1
      have n2 := rowC_len r2
      have n3 := rowC_len r3
      have n4 := rowC_len r4
      rw [ex] at d0 d1 d2 r3 r4 n3 n4
      have e3 : hs'[k].s0.n = hs[k].s0.n := by omega
      have e4 : hs'[k].s1.n = hs[k].s1.n := by omega
      have HP := hide (fun (u : World) (hu : Below wr.heap.size wr u) => samePage_any hs[k].X.lo hs[k].X.hi hs[k].X.r hs[k].s0.a hs'[k].s0.a hs[k].s0.n hs[k].s0.c hs'[k].s0.c hs[k].X.es hs[k].s1.a hs'[k].s1.a hs[k].s1.n hs[k].s1.c hs'[k].s1.c hs[k].X.ds u ((erow_C r1).below hu) (by have h := (erow_C r3).below hu; rw [e3] at h; exact h) ((drow_C r2).below hu) (by have h := (drow_C r4).below hu; rw [e4] at h; exact h) hl0.1 hl0.2)
      unfold pgv at HP
      rw [e3] at d3
      rw [e4] at d4
      obtain ⟨gb, go, hgb, f0⟩ := A.gone.at (j := k) (u := .bool gs[k]) (by rw [List.getElem?_map, List.getElem?_eq_getElem hkg]; rfl)
      obtain ⟨gb', go', hgb', f1⟩ := B.gone.at (j := k) (u := .bool gs[k]) (by rw [List.getElem?_map, List.getElem?_eq_getElem hkg]; rfl)
      subst hab hab' hgb hgb'
      have gl := cell_lt f0
      have gl' := cell_lt f1
      simp only at gl gl'
      have q4 := xt_eqlb
      generalize gs[k] = gk at *
      generalize hs[k] = x at *
      generalize hs'[k] = x' at *
      obtain ⟨X, ⟨sa, sn, sc⟩, ⟨da, dn, dc⟩⟩ := x
      obtain ⟨X', ⟨ta, tn, tc⟩, ⟨va, vn, vc⟩⟩ := x'
      simp only at c0 c1 c2 c3 c4 d0 d1 d2 d3 d4 HP
      have SK := hide (show ∀ u, Below wr.heap.size wr u → (u.cell? ⟨w.heap.size, 0, none⟩ = some (.slice (some ⟨b, off, none⟩) np cp) ∧ u.cell? ⟨w.heap.size, 1, none⟩ = some (.slice (some ⟨gb, go, none⟩) np cg) ∧ u.cell? ⟨w.heap.size, 2, none⟩ = some (.slice ai ni ci) ∧ u.cell? ⟨w.heap.size + 1, 0, none⟩ = some (.slice (some ⟨b', off', none⟩) np cp') ∧ u.cell? ⟨w.heap.size + 1, 1, none⟩ = some (.slice (some ⟨gb', go', none⟩) np cg') ∧ u.cell? ⟨w.heap.size + 1, 2, none⟩ = some (.slice ai' ni ci') ∧ u.cell? ⟨b, off + k * 5, none⟩ = some (.string X.lo) ∧ u.cell? ⟨b, off + k * 5 + 1, none⟩ = some (.string X.hi) ∧ u.cell? ⟨b, off + k * 5 + 2, none⟩ = some (.int .i64 X.r) ∧ u.cell? ⟨b, off + k * 5 + 3, none⟩ = some (.slice sa sn sc) ∧ u.cell? ⟨b, off + k * 5 + 4, none⟩ = some (.slice da dn dc) ∧ u.cell? ⟨b', off' + k * 5, none⟩ = some (.string X.lo) ∧ u.cell? ⟨b', off' + k * 5 + 1, none⟩ = some (.string X.hi) ∧ u.cell? ⟨b', off' + k * 5 + 2, none⟩ = some (.int .i64 X.r) ∧ u.cell? ⟨b', off' + k * 5 + 3, none⟩ = some (.slice ta sn tc) ∧ u.cell? ⟨b', off' + k * 5 + 4, none⟩ = some (.slice va dn vc) ∧ u.cell? ⟨gb, go + k, none⟩ = some (.bool gk) ∧ u.cell? ⟨gb', go' + k, none⟩ = some (.bool gk)) from fun u hu => by
        obtain ⟨a0, a1, a2, b0, b1, b2⟩ := unhide SB u (hb.trans (hu.mono hb.size))
        exact ⟨a0, a1, a2, b0, b1, b2, (hu.cell (p := ⟨b, off + k * 5, none⟩) hbl).trans c0, (hu.cell (p := ⟨b, off + k * 5 + 1, none⟩) hbl).trans c1, (hu.cell (p := ⟨b, off + k * 5 + 2, none⟩) hbl).trans c2, (hu.cell (p := ⟨b, off + k * 5 + 3, none⟩) hbl).trans c3, (hu.cell (p := ⟨b, off + k * 5 + 4, none⟩) hbl).trans c4, (hu.cell (p := ⟨b', off' + k * 5, none⟩) hbl').trans d0, (hu.cell (p := ⟨b', off' + k * 5 + 1, none⟩) hbl').trans d1, (hu.cell (p := ⟨b', off' + k * 5 + 2, none⟩) hbl').trans d2, (hu.cell (p := ⟨b', off' + k * 5 + 3, none⟩) hbl').trans d3, (hu.cell (p := ⟨b', off' + k * 5 + 4, none⟩) hbl').trans d4, (hu.cell (p := ⟨gb, go + k, none⟩) gl).trans f0, (hu.cell (p := ⟨gb', go' + k, none⟩) gl').trans f1⟩)
      clear ex A B r1 r2 r3 r4 n1 n2 n3 n4 e3 e4 hl0 hk1 hk2 hkg
      go_upto_region 6 with fail
      clear a0 a1 a2 b0 b1 b2 c0 c1 c2 c3 c4 d0 d1 d2 d3 d4 f0 f1
      refine wp_region_held_drew (S := (fun u => (u.cell? ⟨w.heap.size, 0, none⟩ = some (.slice (some ⟨b, off, none⟩) np cp) ∧ u.cell? ⟨w.heap.size, 1, none⟩ = some (.slice (some ⟨gb, go, none⟩) np cg) ∧ u.cell? ⟨w.heap.size, 2, none⟩ = some (.slice ai ni ci) ∧ u.cell? ⟨w.heap.size + 1, 0, none⟩ = some (.slice (some ⟨b', off', none⟩) np cp') ∧ u.cell? ⟨w.heap.size + 1, 1, none⟩ = some (.slice (some ⟨gb', go', none⟩) np cg') ∧ u.cell? ⟨w.heap.size + 1, 2, none⟩ = some (.slice ai' ni ci') ∧ u.cell? ⟨b, off + k * 5, none⟩ = some (.string X.lo) ∧ u.cell? ⟨b, off + k * 5 + 1, none⟩ = some (.string X.hi) ∧ u.cell? ⟨b, off + k * 5 + 2, none⟩ = some (.int .i64 X.r) ∧ u.cell? ⟨b, off + k * 5 + 3, none⟩ = some (.slice sa sn sc) ∧ u.cell? ⟨b, off + k * 5 + 4, none⟩ = some (.slice da dn dc) ∧ u.cell? ⟨b', off' + k * 5, none⟩ = some (.string X.lo) ∧ u.cell? ⟨b', off' + k * 5 + 1, none⟩ = some (.string X.hi) ∧ u.cell? ⟨b', off' + k * 5 + 2, none⟩ = some (.int .i64 X.r) ∧ u.cell? ⟨b', off' + k * 5 + 3, none⟩ = some (.slice ta sn tc) ∧ u.cell? ⟨b', off' + k * 5 + 4, none⟩ = some (.slice va dn vc) ∧ u.cell? ⟨gb, go + k, none⟩ = some (.bool gk) ∧ u.cell? ⟨gb', go' + k, none⟩ = some (.bool gk)))) (by kernel_rfl) (unhide SK _ ((Below.refl _ _).drew)) (fun hHeld => ?_)
      have Ds := hide (show Below wr.heap.size wr wr.drew from (Below.refl _ _).drew)
      generalize wr.drew = us at *
      refine anyH_take 0 39 (v := ?v1) rfl rfl (by kernel_rfl) (by kernel_rfl) (by kernel_rfl) (fun _ _ _ h => h) (by rfl) ?h1 hHeld ?r1
      case h1 => (intro w hSw; (try dsimp only at hSw); go_simp; try (with_reducible rfl))
      simp only [Act.put, List.setIfInBounds_toArray, List.set_cons_zero, List.set_cons_succ]
      refine anyH_take 1 40 (v := ?v2) rfl rfl (by kernel_rfl) (by kernel_rfl) (by kernel_rfl) (fun _ _ _ h => h) (by rfl) ?h2 hHeld ?r2
      case h2 => (intro w hSw; (try dsimp only at hSw); go_simp; try (with_reducible rfl))
      simp only [Act.put, List.setIfInBounds_toArray, List.set_cons_zero, List.set_cons_succ]
      refine anyH_take 2 41 (v := ?v3) rfl rfl (by kernel_rfl) (by kernel_rfl) (by kernel_rfl) (fun _ _ _ h => h) (by rfl) ?h3 hHeld ?r3
      case h3 => (intro w hSw; (try dsimp only at hSw); go_simp; try (with_reducible rfl))
      simp only [Act.put, List.setIfInBounds_toArray, List.set_cons_zero, List.set_cons_succ]
      refine anyH_take 3 42 (v := ?v4) rfl rfl (by kernel_rfl) (by kernel_rfl) (by kernel_rfl) (fun _ _ _ h => h) (by rfl) ?h4 hHeld ?r4
      case h4 => (intro w hSw; (try dsimp only at hSw); go_simp; try (with_reducible rfl))
      simp only [Act.put, List.setIfInBounds_toArray, List.set_cons_zero, List.set_cons_succ]
      refine anyH_take 4 43 (v := ?v5) rfl rfl (by kernel_rfl) (by kernel_rfl) (by kernel_rfl) (fun _ _ _ h => h) (by rfl) ?h5 hHeld ?r5
      case h5 => (intro w hSw; (try dsimp only at hSw); go_simp; try (with_reducible rfl))
      simp only [Act.put, List.setIfInBounds_toArray, List.set_cons_zero, List.set_cons_succ]
      refine anyH_take 5 44 (v := ?v6) rfl rfl (by kernel_rfl) (by kernel_rfl) (by kernel_rfl) (fun _ _ _ h => h) (by rfl) ?h6 hHeld ?r6
      case h6 => (intro w hSw; (try dsimp only at hSw); go_simp; try (with_reducible rfl))
      simp only [Act.put, List.setIfInBounds_toArray, List.set_cons_zero, List.set_cons_succ]
      refine anyH_take 6 45 (v := ?v7) rfl rfl (by kernel_rfl) (by kernel_rfl) (by kernel_rfl) (fun _ _ _ h => h) (by rfl) ?h7 hHeld ?r7
      case h7 => (intro w hSw; (try dsimp only at hSw); go_simp; try (with_reducible rfl))
      simp only [Act.put, List.setIfInBounds_toArray, List.set_cons_zero, List.set_cons_succ]
      refine anyH_take 7 46 (v := ?v8) rfl rfl (by kernel_rfl) (by kernel_rfl) (by kernel_rfl) (fun _ _ _ h => h) (by rfl) ?h8 hHeld ?r8
      case h8 => (intro w hSw; (try dsimp only at hSw); go_simp; try (with_reducible rfl))
      simp only [Act.put, List.setIfInBounds_toArray, List.set_cons_zero, List.set_cons_succ]
      refine anyH_take 8 47 (v := ?v9) rfl rfl (by kernel_rfl) (by kernel_rfl) (by kernel_rfl) (fun _ _ _ h => h) (by rfl) ?h9 hHeld ?r9
      case h9 => (intro w hSw; (try dsimp only at hSw); go_simp; try (with_reducible rfl))
      simp only [Act.put, List.setIfInBounds_toArray, List.set_cons_zero, List.set_cons_succ]
      refine anyH_take 9 48 (v := ?v10) rfl rfl (by kernel_rfl) (by kernel_rfl) (by kernel_rfl) (fun _ _ _ h => h) (by rfl) ?h10 hHeld ?r10
      case h10 => (intro w hSw; (try dsimp only at hSw); go_simp; try (with_reducible rfl))
      simp only [Act.put, List.setIfInBounds_toArray, List.set_cons_zero, List.set_cons_succ]
      refine wpAnyH_ready (rs := [10]) (by kernel_rfl) (by simp) ?_
      refine AllReadyH.cons rfl (fun K hK => ?_) AllReadyH.nil
      go_simp
      refine (unhide HP us (unhide Ds)).mono ?_
      rintro e u7 ⟨rfl, hb7⟩
      have D7 := hide ((unhide Ds).trans (hb7.mono (unhide Ds).size))
      clear hb7
      refine hK.out _ _ (unhide SK _ (unhide D7)) (fun hHeld => ?_)
      clear hK K
      refine anyH_take 11 50 (v := ?v11) rfl rfl (by kernel_rfl) (by kernel_rfl) (by kernel_rfl) (fun _ _ _ h => h) (by rfl) ?h11 hHeld ?r11
      case h11 => (intro w hSw; (try dsimp only at hSw); go_simp; try (with_reducible rfl))
      simp only [Act.put, List.setIfInBounds_toArray, List.set_cons_zero, List.set_cons_succ]
      refine anyH_take 12 51 (v := ?v12) rfl rfl (by kernel_rfl) (by kernel_rfl) (by kernel_rfl) (fun _ _ _ h => h) (by rfl) ?h12 hHeld ?r12
      case h12 => (intro w hSw; (try dsimp only at hSw); go_simp; try (with_reducible rfl))
      simp only [Act.put, List.setIfInBounds_toArray, List.set_cons_zero, List.set_cons_succ]
      refine anyH_take 13 52 (v := ?v13) rfl rfl (by kernel_rfl) (by kernel_rfl) (by kernel_rfl) (fun _ _ _ h => h) (by rfl) ?h13 hHeld ?r13
      case h13 => (intro w hSw; (try dsimp only at hSw); go_simp; try (with_reducible rfl))
      simp only [Act.put, List.setIfInBounds_toArray, List.set_cons_zero, List.set_cons_succ]
      refine anyH_take 14 53 (v := ?v14) rfl rfl (by kernel_rfl) (by kernel_rfl) (by kernel_rfl) (fun _ _ _ h => h) (by rfl) ?h14 hHeld ?r14
      case h14 => (intro w hSw; (try dsimp only at hSw); go_simp; try (with_reducible rfl))
      simp only [Act.put, List.setIfInBounds_toArray, List.set_cons_zero, List.set_cons_succ]
      refine anyH_take 15 54 (v := ?v15) rfl rfl (by kernel_rfl) (by kernel_rfl) (by kernel_rfl) (fun _ _ _ h => h) (by rfl) ?h15 hHeld ?r15
      case h15 => (intro w hSw; (try dsimp only at hSw); go_simp; try (with_reducible rfl))
      simp only [Act.put, List.setIfInBounds_toArray, List.set_cons_zero, List.set_cons_succ]
      refine anyH_take 16 55 (v := ?v16) rfl rfl (by kernel_rfl) (by kernel_rfl) (by kernel_rfl) (fun _ _ _ h => h) (by rfl) ?h16 hHeld ?r16
      case h16 => (intro w hSw; (try dsimp only at hSw); go_simp; try (with_reducible rfl))
      simp only [Act.put, List.setIfInBounds_toArray, List.set_cons_zero, List.set_cons_succ]
      refine anyH_take 17 56 (v := ?v17) rfl rfl (by kernel_rfl) (by kernel_rfl) (by kernel_rfl) (fun _ _ _ h => h) (by rfl) ?h17 hHeld ?r17
      case h17 => (intro w hSw; (try dsimp only at hSw); go_simp; try (with_reducible rfl))
      simp only [Act.put, List.setIfInBounds_toArray, List.set_cons_zero, List.set_cons_succ]
      refine anyH_take 18 57 (v := ?v18) rfl rfl (by kernel_rfl) (by kernel_rfl) (by kernel_rfl) (fun _ _ _ h => h) (by rfl) ?h18 hHeld ?r18
      case h18 => (intro w hSw; (try dsimp only at hSw); go_simp; try (with_reducible rfl))
      simp only [Act.put, List.setIfInBounds_toArray, List.set_cons_zero, List.set_cons_succ]
      refine anyH_take 19 58 (v := ?v19) rfl rfl (by kernel_rfl) (by kernel_rfl) (by kernel_rfl) (fun _ _ _ h => h) (by rfl) ?h19 hHeld ?r19
      case h19 => (intro w hSw; (try dsimp only at hSw); go_simp; try (with_reducible rfl))
      simp only [Act.put, List.setIfInBounds_toArray, List.set_cons_zero, List.set_cons_succ]
      refine anyH_take 20 59 (v := ?v20) rfl rfl (by kernel_rfl) (by kernel_rfl) (by kernel_rfl) (fun _ _ _ h => h) (by rfl) ?h20 hHeld ?r20
      case h20 => (intro w hSw; (try dsimp only at hSw); go_simp; try (with_reducible rfl))
      simp only [Act.put, List.setIfInBounds_toArray, List.set_cons_zero, List.set_cons_succ]
      refine anyH_take 21 60 (v := ?v21) rfl rfl (by kernel_rfl) (by kernel_rfl) (by kernel_rfl) (fun _ _ _ h => h) (by rfl) ?h21 hHeld ?r21
      case h21 => (intro w hSw; (try dsimp only at hSw); go_simp; try (with_reducible rfl))
      simp only [Act.put, List.setIfInBounds_toArray, List.set_cons_zero, List.set_cons_succ]
      refine anyH_take 22 61 (v := ?v22) rfl rfl (by kernel_rfl) (by kernel_rfl) (by kernel_rfl) (fun _ _ _ h => h) (by rfl) ?h22 hHeld ?r22
      case h22 => (intro w hSw; (try dsimp only at hSw); go_simp; try (with_reducible rfl))
      simp only [Act.put, List.setIfInBounds_toArray, List.set_cons_zero, List.set_cons_succ]
      refine anyH_take 23 62 (v := ?v23) rfl rfl (by kernel_rfl) (by kernel_rfl) (by kernel_rfl) (fun _ _ _ h => h) (by rfl) ?h23 hHeld ?r23
      case h23 => (intro w hSw; (try dsimp only at hSw); go_simp; try (with_reducible rfl))
      simp only [Act.put, List.setIfInBounds_toArray, List.set_cons_zero, List.set_cons_succ]
      refine anyH_take 24 63 (v := ?v24) rfl rfl (by kernel_rfl) (by kernel_rfl) (by kernel_rfl) (fun _ _ _ h => h) (by rfl) ?h24 hHeld ?r24
      case h24 => (intro w hSw; (try dsimp only at hSw); go_simp; try (with_reducible rfl))
      simp only [Act.put, List.setIfInBounds_toArray, List.set_cons_zero, List.set_cons_succ]
      refine wpAnyH_done (by kernel_rfl) ?_ _
      have bF := hb.trans ((unhide D7).mono hb.size)
      go_wp2_with fail
      go_roundw
      case rel => exact ⟨k + 1, by omega, by go_num, by first | exact bF | exact bel_drewN bF _⟩
      case measure => simp [intOf]; omega
    · obtain rfl : k = np := by omega
      go_wp2_with fail
      go_loopw [6] (fun i wx => ∃ k : Nat, k ≤ ni ∧ i = .int .i64 k ∧ Below W0.heap.size W0 wx) (fun i _ => ni - (intOf i).toNat)
      case atStart => exact ⟨0, Nat.zero_le _, rfl, hb⟩
      case round =>
        rename_i wx
        obtain ⟨k2, hk2, rfl, hb2⟩ := hrel
        clear a0 a1 a2 b0 b1 b2
        obtain ⟨a0, a1, a2, b0, b1, b2⟩ := unhide SB _ hb2
        by_cases hlt2 : k2 < ni
        · have hki : k2 < idx.length := by rw [unhide LI]; exact hlt2
          obtain ⟨b, off, rfl, c0, c1⟩ := ((unhide T1).below hb2).ix.2 k2 hki
          obtain ⟨b', off', rfl, d0, d1⟩ := ((unhide T2).below hb2).ix.2 k2 hki
          generalize idx[k2] = em at *
          have q3 := Tryz.refG
          have q4 := eqRefV
          clear hki hb
          go_wp2_with fail
          go_quiet (fail)
          go_wp2_with fail
          go_roundw
          case rel => exact ⟨k2 + 1, by omega, by go_num, bel_drewN hb2 _⟩
          case measure => simp [intOf]; omega
        · obtain rfl : k2 = ni := by omega
          go_wp2_with fail
          go_ret
          exact ⟨rfl, hB0.trans (hb2.mono hB0.size)⟩
end Go.Proofs.YtbhkmmdcdfjbkaaGreat

namespace Go.Proofs.YtbhkmmdcdfjbkaaGreat
open Go.RowKit

/-- A source at block p over the bytes xs of a slice; at most K bytes have been taken. -/
structure Src (w : World) (p : Nat) (a : Option Addr) (n c : Nat) (xs : List Int) (K : Int) : Prop where
  code : w.cell? ⟨p, 0, none⟩ = some (.slice a n c)
  place : ∃ t : Int, w.cell? ⟨p, 1, none⟩ = some (.int .i64 t) ∧ 0 ≤ t ∧ t ≤ K
  seed : ∃ s : Int, w.cell? ⟨p, 2, none⟩ = some (.int .i64 s) ∧ 0 ≤ s ∧ s < 2147483648
  free : ∀ j, w.frozen? ⟨p, j, none⟩ = false
  row : Row w a n xs
  bytes : ∀ i, i < n → 0 ≤ xs.getD i 0 ∧ xs.getD i 0 ≤ 255
  apart : ∀ x, a = some x → 0 < n → x.block ≠ p
  bound : n ≤ 1048576

theorem Only.drewN {p k : Nat} {w w1 : World} (h : Only p w w1) : Only p w (w1.drewN k) := ⟨h.os, h.tape, h.output, h.size, h.block, h.frozen⟩

theorem Only.drew {p : Nat} {w w1 : World} (h : Only p w w1) : Only p w w1.drew := ⟨h.os, h.tape, h.output, h.size, h.block, h.frozen⟩
theorem src_step {w w' : World} {p : Nat} {a : Option Addr} {n c : Nat} {xs : List Int} {K t s : Int} (ho : Only p w w') (h0 : w'.cell? ⟨p, 0, none⟩ = some (.slice a n c)) (h1 : w'.cell? ⟨p, 1, none⟩ = some (.int .i64 t))
    (h2 : w'.cell? ⟨p, 2, none⟩ = some (.int .i64 s)) (ht : 0 ≤ t) (htK : t ≤ K) (hs : 0 ≤ s) (hs1 : s < 2147483648) (hf : ∀ j, w.frozen? ⟨p, j, none⟩ = false) (hr : Row w a n xs)
    (hb : ∀ i, i < n → 0 ≤ xs.getD i 0 ∧ xs.getD i 0 ≤ 255) (ha : ∀ x, a = some x → 0 < n → x.block ≠ p) (hn : n ≤ 1048576) : Src w' p a n c xs K := by
  refine ⟨h0, ⟨t, h1, ht, htK⟩, ⟨s, h2, hs, hs1⟩, fun j => (ho.frozen _).trans (hf j), ?_, hb, ha, hn⟩
  by_cases hp : 0 < n
  · exact hr.of_cells fun x hx q hq => ho.cell (by rw [hq]; exact ha x hx hp)
  · exact ⟨hr.1, fun i hi => absurd hi (by omega)⟩

set_option maxHeartbeats 1000000 in
theorem byte_any (p : Nat) (a : Option Addr) (n c : Nat) (xs : List Int) (K : Int) (w : World) (h : Src w p a n c xs K) (hK : K ≤ 1000000) :
    Calls Tryz.prog 78 #[.pointer (some ⟨p, 0, none⟩)] w fun e w' => ∃ r : Int, e = .returned (.int .i64 r) ∧ 0 ≤ r ∧ r ≤ 255 ∧ Only p w w' ∧ Src w' p a n c xs (K + 1) := by
  obtain ⟨hc, ⟨t, ht, ht0, htK⟩, ⟨s, hs, hs0, hs1⟩, hf, hr, hby, hap, hbd⟩ := h
  have f1 := hf 1
  have f2 := hf 2
  have R := hide hr
  have BY := hide hby
  have AP := hide hap
  have HF := hide hf
  clear hf hr hby hap
  by_cases hlt : t + 1 ≤ (n : Int)
  · obtain ⟨k, rfl⟩ := Int.eq_ofNat_of_zero_le ht0
    obtain ⟨b, off, rfl, e1⟩ := (unhide R).2 k (by omega)
    obtain ⟨x0, x1⟩ := unhide BY k (by omega)
    generalize hx : xs.getD k 0 = x at *
    have hne : ¬ b = p := unhide AP _ rfl (by omega)
    clear hx
    go_enter Tryz.func78, Tryz.ntmps78
    go_wp2_with fail
    go_quiet (fail)
    go_wp2_with fail
    have d0 : ((w.setCell ⟨p, 1, none⟩ (.int .i64 ((k : Int) + 1))).drewN nq).cell? ⟨p, 0, none⟩ = some (.slice (some ⟨b, off, none⟩) n c) := (World.cell?_setCell_other _ _ _ _ (by intro h; simp at h)).trans hc
    have d1 : ((w.setCell ⟨p, 1, none⟩ (.int .i64 ((k : Int) + 1))).drewN nq).cell? ⟨p, 1, none⟩ = some (.int .i64 ((k : Int) + 1)) := World.cell?_setCell_same _ _ _ ht
    have d2 : ((w.setCell ⟨p, 1, none⟩ (.int .i64 ((k : Int) + 1))).drewN nq).cell? ⟨p, 2, none⟩ = some (.int .i64 s) := (World.cell?_setCell_other _ _ _ _ (by intro h; simp at h)).trans hs
    have dr : ((w.setCell ⟨p, 1, none⟩ (.int .i64 ((k : Int) + 1))).drewN nq).cell? ⟨b, off + k, none⟩ = some (.int .u8 x) := (World.cell?_setCell_other _ _ _ _ (by intro h; simp only [Addr.mk.injEq] at h; exact hne h.1.symm)).trans e1
    have df : ((w.setCell ⟨p, 1, none⟩ (.int .i64 ((k : Int) + 1))).drewN nq).frozen? ⟨p, 2, none⟩ = false := by simpa using f2
    have dO : Only p w ((w.setCell ⟨p, 1, none⟩ (.int .i64 ((k : Int) + 1))).drewN nq) := Only.drewN (Only.setCell _ _ _ _)
    have DO := hide dO
    clear dO hc ht hs e1 f1 f2
    generalize (w.setCell ⟨p, 1, none⟩ (.int .i64 ((k : Int) + 1))).drewN nq = W1 at *
    go_region
    go_wp2_with fail
    go_quiet (fail)
    go_wp2_with fail
    go_ret
    refine ⟨x, rfl, x0, x1, Only.drewN (Only.drew ((unhide DO).trans (Only.setCell _ _ _ _))), ?_⟩
    refine src_step (t := (k : Int) + 1) (Only.drewN (Only.drew ((unhide DO).trans (Only.setCell _ _ _ _)))) ((World.cell?_setCell_other _ _ _ _ (by intro h; simp at h)).trans d0) ((World.cell?_setCell_other _ _ _ _ (by intro h; simp at h)).trans d1) (World.cell?_setCell_same _ _ _ d2) (by omega) (by omega) ?_ ?_ (unhide HF) (unhide R) (unhide BY) (unhide AP) hbd
    all_goals omega
  · have hgt : (n : Int) < t + 1 := by omega
    clear hlt
    by_cases h3 : 3000 < t + 1
    · go_enter Tryz.func78, Tryz.ntmps78
      go_wp2_with fail
      go_quiet (fail)
      go_wp2_with fail
      go_ret
      have hO := Only.drewN (k := nq) (Only.setCell w p 1 (.int .i64 (t + 1)))
      exact ⟨0, rfl, by omega, by omega, hO, src_step (t := t + 1) (s := s) hO ((World.cell?_setCell_other _ _ _ _ (by intro h; simp at h)).trans hc) (World.cell?_setCell_same _ _ _ ht) ((World.cell?_setCell_other _ _ _ _ (by intro h; simp at h)).trans hs) (by omega) (by omega) hs0 hs1 (unhide HF) (unhide R) (unhide BY) (unhide AP) hbd⟩
    · go_enter Tryz.func78, Tryz.ntmps78
      go_wp2_with fail
      go_quiet (fail)
      go_wp2_with fail
      go_ret
      have hO := Only.drewN (k := nq) (Only.setCell w p 1 (.int .i64 (t + 1)))
      have hO2 := hO.trans (Only.setCell _ p 2 (.int .i64 ((s * 1103515245 + 12345) % 2147483648)))
      refine ⟨_, rfl, ?_, ?_, hO2, src_step (t := t + 1) hO2 ((World.cell?_setCell_other _ _ _ _ (by intro h; simp at h)).trans ((World.cell?_setCell_other _ _ _ _ (by intro h; simp at h)).trans hc)) ((World.cell?_setCell_other _ _ _ _ (by intro h; simp at h)).trans (World.cell?_setCell_same _ _ _ ht)) (World.cell?_setCell_same _ _ _ ((World.cell?_setCell_other _ _ _ _ (by intro h; simp at h)).trans hs)) (by omega) (by omega) ?_ ?_ (unhide HF) (unhide R) (unhide BY) (unhide AP) hbd⟩
      all_goals omega
end Go.Proofs.YtbhkmmdcdfjbkaaGreat

namespace Go.Proofs.YtbhkmmdcdfjbkaaGreat
open Go.RowKit

theorem Src.more {w : World} {p : Nat} {a : Option Addr} {n c : Nat} {xs : List Int} {K K' : Int} (h : Src w p a n c xs K) (hk : K ≤ K') : Src w p a n c xs K' := by
  obtain ⟨h1, ⟨t, ht, ht0, htK⟩, h3, h4, h5, h6, h7, h8⟩ := h
  exact ⟨h1, ⟨t, ht, ht0, by omega⟩, h3, h4, h5, h6, h7, h8⟩

set_option maxHeartbeats 1000000 in
theorem next_any (p : Nat) (a : Option Addr) (n c : Nat) (xs : List Int) (K m : Int) (w : World) (h : Src w p a n c xs K) (hK : K ≤ 900000) (hm : 1 ≤ m) (hm2 : m ≤ 100000) :
    Calls Tryz.prog 39 #[.pointer (some ⟨p, 0, none⟩), .int .i64 m] w fun e w' => ∃ r : Int, e = .returned (.int .i64 r) ∧ 0 ≤ r ∧ r < m ∧ Only p w w' ∧ Src w' p a n c xs (K + 3) := by
  by_cases h1 : m ≤ 1
  · go_enter Tryz.func39, Tryz.ntmps39
    go_wp2_with fail
    go_ret
    exact ⟨0, rfl, by omega, by omega, Only.refl _ _, Src.more h (by omega)⟩
  by_cases h2 : m ≤ 256
  · go_enter Tryz.func39, Tryz.ntmps39
    go_wp2_with fail
    refine (byte_any p a n c xs K w h (by omega)).mono ?_
    rintro e w1 ⟨r, rfl, hr0, hr1, ho, hs⟩
    go_wp2_with fail
    go_ret
    refine ⟨_, rfl, ?_, ?_, ho, Src.more hs (by omega)⟩
    · exact Int.emod_nonneg _ (by omega)
    · exact Int.emod_lt_of_pos _ (by omega)
  · go_enter Tryz.func39, Tryz.ntmps39
    go_wp2_with fail
    refine (byte_any p a n c xs K w h (by omega)).mono ?_
    rintro e w1 ⟨r1, rfl, hr10, hr11, ho1, hs1⟩
    go_wp2_with fail
    refine (byte_any p a n c xs (K + 1) w1 hs1 (by omega)).mono ?_
    rintro e w2 ⟨r2, rfl, hr20, hr21, ho2, hs2⟩
    go_wp2_with fail
    refine (byte_any p a n c xs (K + 1 + 1) w2 hs2 (by omega)).mono ?_
    rintro e w3 ⟨r3, rfl, hr30, hr31, ho3, hs3⟩
    go_wp2_with fail
    go_ret
    refine ⟨_, rfl, ?_, ?_, (ho1.trans ho2).trans ho3, Src.more hs3 (by omega)⟩
    · exact Int.emod_nonneg _ (by omega)
    · exact Int.emod_lt_of_pos _ (by omega)

set_option maxHeartbeats 1000000 in
theorem source_any (a : Option Addr) (n c : Nat) (xs : List Int) (w : World) (hr : Row w a n xs) (hby : ∀ i, i < n → 0 ≤ xs.getD i 0 ∧ xs.getD i 0 ≤ 255) (hn : n ≤ 1048576) :
    Calls Tryz.prog 21 #[.slice a n c] w fun e w' => e = .returned (.pointer (some ⟨w.heap.size, 0, none⟩)) ∧ Src w' w.heap.size a n c xs 0 ∧ Below w.heap.size w w' ∧ w'.heap.size = w.heap.size + 1 := by
  have R := hide hr
  have BY := hide hby
  clear hr hby
  go_enter Tryz.func21, Tryz.ntmps21
  go_wp2_with fail
  go_ret
  refine ⟨rfl, ?_, (Below.refl _ _).alloc (Nat.le_refl _) _, by simp⟩
  have hb : Below w.heap.size w (w.alloc (.cells #[.slice a n c, .int .i64 0, .int .i64 ((n : Int) % 1000)] 82)) := (Below.refl _ _).alloc (Nat.le_refl _) _
  have hlt : ∀ x, a = some x → 0 < n → x.block < w.heap.size := fun x hx hp => by
    obtain ⟨b, off, e, hc⟩ := (unhide R).2 0 hp
    rw [hx] at e
    cases e
    exact cell_lt hc
  refine ⟨by simp, ⟨0, by simp, by omega, by omega⟩, ⟨(n : Int) % 1000, by simp, by omega, by omega⟩, fun j => by simp, ?_, unhide BY, fun x hx hp => Nat.ne_of_lt (hlt x hx hp), hn⟩
  by_cases hp : 0 < n
  · exact (unhide R).below hb (fun x hx => hlt x hx hp)
  · exact ⟨(unhide R).1, fun i hi => absurd hi (by omega)⟩
set_option maxHeartbeats 1000000 in
theorem pick_any (p g m mc : Nat) (a : Option Addr) (n c : Nat) (xs : List Int) (K : Int) (w : World) (h : Src w p a n c xs K) (hK : K ≤ 800000) (hm : 1 ≤ m) (hm2 : m ≤ 1000) (hg : g ≠ p) (T : ByteArray → Prop)
    (hT : ∀ i, i < m → ∃ t, w.cell? ⟨g, i, none⟩ = some (.string t) ∧ T t) :
    Calls Tryz.prog 66 #[.pointer (some ⟨p, 0, none⟩), .slice (some ⟨g, 0, none⟩) m mc] w fun e w' => ∃ t : ByteArray, e = .returned (.string t) ∧ T t ∧ Only p w w' ∧ Src w' p a n c xs (K + 3) := by
  have HT := hide hT
  clear hT
  have hb : ((m : Int) == 0) = false := by simp; omega
  go_enter Tryz.func66, Tryz.ntmps66
  go_wp2_with fail
  refine (next_any p a n c xs K (m : Int) w h (by omega) (by omega) (by omega)).mono ?_
  rintro e w1 ⟨r, rfl, hr0, hr1, ho, hs⟩
  obtain ⟨k, rfl⟩ := Int.eq_ofNat_of_zero_le hr0
  obtain ⟨t, ht, hTt⟩ := unhide HT k (by omega)
  have ht1 := (ho.cell (p := ⟨g, k, none⟩) hg).trans ht
  clear ht
  go_wp2_with fail
  go_ret
  exact ⟨t, rfl, hTt, ho, hs⟩

/-- A block that is made leaves a source as it was. -/
theorem Src.alloc {w : World} {p : Nat} {a : Option Addr} {n c : Nat} {xs : List Int} {K : Int} (h : Src w p a n c xs K) (o : Obj) : Src (w.alloc o) p a n c xs K := by
  have hb : Below w.heap.size w (w.alloc o) := (Below.refl _ _).alloc (Nat.le_refl _) _
  obtain ⟨h1, ⟨t, ht, ht0, htK⟩, ⟨s, hs, hs0, hs1⟩, h4, h5, h6, h7, h8⟩ := h
  have hp := cell_lt h1
  refine ⟨(hb.cell (p := ⟨p, 0, none⟩) hp).trans h1, ⟨t, (hb.cell (p := ⟨p, 1, none⟩) hp).trans ht, ht0, htK⟩, ⟨s, (hb.cell (p := ⟨p, 2, none⟩) hp).trans hs, hs0, hs1⟩, fun j => (hb.frozen (p := ⟨p, j, none⟩) hp).trans (h4 j), ?_, h6, h7, h8⟩
  by_cases hn : 0 < n
  · refine h5.below hb (fun x hx => ?_)
    obtain ⟨b, off, e, hc⟩ := h5.2 0 hn
    rw [hx] at e
    cases e
    exact cell_lt hc
  · exact ⟨h5.1, fun i hi => absurd hi (by omega)⟩

end Go.Proofs.YtbhkmmdcdfjbkaaGreat

namespace Go.Proofs.YtbhkmmdcdfjbkaaGreat
open Go.RowKit

theorem Src.of_blocks' {w w' : World} {p : Nat} {a : Option Addr} {n c : Nat} {xs : List Int} {K : Int} (h : Src w p a n c xs K) (hp : w'.heap[p]? = w.heap[p]?) (ha : ∀ x, a = some x → 0 < n → w'.heap[x.block]? = w.heap[x.block]?) : Src w' p a n c xs K := by
  obtain ⟨h1, ⟨t, ht, ht0, htK⟩, ⟨s, hs, hs0, hs1⟩, h4, h5, h6, h7, h8⟩ := h
  refine ⟨(World.cell?_of_block (w := w) (a := ⟨p, 0, none⟩) hp).trans h1, ⟨t, (World.cell?_of_block (w := w) (a := ⟨p, 1, none⟩) hp).trans ht, ht0, htK⟩, ⟨s, (World.cell?_of_block (w := w) (a := ⟨p, 2, none⟩) hp).trans hs, hs0, hs1⟩, fun j => (World.frozen?_of_block (w := w) (a := ⟨p, j, none⟩) hp).trans (h4 j), ⟨h5.1, fun i hi => ?_⟩, h6, h7, h8⟩
  obtain ⟨b, off, e, hc⟩ := h5.2 i hi
  have hb : w'.heap[b]? = w.heap[b]? := ha _ e (by omega)
  exact ⟨b, off, e, (World.cell?_of_block (w := w) (a := ⟨b, off + i, none⟩) hb).trans hc⟩
theorem src_code' {w : World} {p : Nat} {a : Option Addr} {n c : Nat} {xs : List Int} {K : Int} (h : Src w p a n c xs K) : ∀ x, a = some x → 0 < n → x.block < w.heap.size := fun x hx hn => by
  obtain ⟨b, off, e, hc⟩ := h.row.2 0 hn
  rw [hx] at e
  cases e
  exact cell_lt hc
theorem Src.below {w w' : World} {p : Nat} {a : Option Addr} {n c : Nat} {xs : List Int} {K : Int} (h : Src w p a n c xs K) (hb : Below w.heap.size w w') : Src w' p a n c xs K :=
  h.of_blocks' (hb.block _ (cell_lt h.code)) (fun x hx hn => hb.block _ (src_code' h x hx hn))
theorem Src.grown {w w' : World} {p B : Nat} {a : Option Addr} {n c : Nat} {xs : List Int} {K : Int} {row : Option Nat} (h : Src w p a n c xs K) (hg : w.grownBy w' row) (hr : ∀ k, row = some k → B ≤ k) (hp : p < B) (ha : ∀ x, a = some x → 0 < n → x.block < B) : Src w' p a n c xs K :=
  h.of_blocks' (hg.block p (cell_lt h.code) (fun e => by have := hr p e.symm; omega)) (fun x hx hn => hg.block _ (src_code' h x hx hn) (fun e => by have := hr _ e.symm; have := ha x hx hn; omega))
end Go.Proofs.YtbhkmmdcdfjbkaaGreat

namespace Go.Proofs.YtbhkmmdcdfjbkaaGreat
open Go.RowKit

set_option maxHeartbeats 1000000 in
theorem chanceD_any (p : Nat) (a : Option Addr) (n c : Nat) (xs : List Int) (K m : Int) (w : World) (h : Src w p a n c xs K) (hK : K ≤ 800000) (hm : 1 ≤ m) (hm2 : m ≤ 100000) :
    Calls Tryz.prog 79 #[.pointer (some ⟨p, 0, none⟩), .int .i64 m] w fun e w' => ∃ x : Bool, e = .returned (.bool x) ∧ Wrote p w w' ∧ Src w' p a n c xs (K + 3) := by
  go_enter Tryz.func79, Tryz.ntmps79
  go_wp2_with fail
  refine (next_any p a n c xs K m w h (by omega) hm hm2).mono ?_
  rintro e w1 ⟨r, rfl, hr0, hr1, ho, hs⟩
  have HO := hide ho.wrote
  have HS := hide hs
  clear ho hs
  go_wp2_with fail
  go_ret
  exact ⟨_, rfl, unhide HO, unhide HS⟩
set_option maxHeartbeats 1000000 in
theorem keyD_any (p : Nat) (a : Option Addr) (n c : Nat) (xs : List Int) (K : Int) (w : World) (h : Src w p a n c xs K) (hK : K ≤ 700000) :
    Calls Tryz.prog 65 #[.pointer (some ⟨p, 0, none⟩)] w fun e w' => ∃ t : ByteArray, e = .returned (.string t) ∧ (keyK t = true ∧ t.size = 1) ∧ Wrote p w w' ∧ Src w' p a n c xs (K + 3) := by
  have hp := cell_lt h.code
  go_enter Tryz.func65, Tryz.ntmps65
  go_wp2_with fail
  refine (pick_any p w.heap.size 10 10 a n c xs K _ (h.alloc _) (by omega) (by omega) (by omega) (by omega) (fun t => keyK t = true ∧ t.size = 1) (fun i hi => ?_)).mono ?_
  · match i, hi with
    | 0, _ => exact ⟨_, by simp; rfl, by decide, rfl⟩
    | 1, _ => exact ⟨_, by simp; rfl, by decide, rfl⟩
    | 2, _ => exact ⟨_, by simp; rfl, by decide, rfl⟩
    | 3, _ => exact ⟨_, by simp; rfl, by decide, rfl⟩
    | 4, _ => exact ⟨_, by simp; rfl, by decide, rfl⟩
    | 5, _ => exact ⟨_, by simp; rfl, by decide, rfl⟩
    | 6, _ => exact ⟨_, by simp; rfl, by decide, rfl⟩
    | 7, _ => exact ⟨_, by simp; rfl, by decide, rfl⟩
    | 8, _ => exact ⟨_, by simp; rfl, by decide, rfl⟩
    | 9, _ => exact ⟨_, by simp; rfl, by decide, rfl⟩
  · rintro e w1 ⟨t, rfl, ht, ho, hs⟩
    have hb : Wrote p w w1 := (Wrote.alloc w p _).trans ho.wrote
    clear ho
    go_wp2_with fail
    go_ret
    exact ⟨t, rfl, ht, hb, hs⟩
set_option maxHeartbeats 1000000 in
theorem valueD_any (p : Nat) (a : Option Addr) (n c : Nat) (xs : List Int) (K : Int) (w : World) (h : Src w p a n c xs K) (hK : K ≤ 700000) :
    Calls Tryz.prog 80 #[.pointer (some ⟨p, 0, none⟩)] w fun e w' => ∃ t : ByteArray, e = .returned (.string t) ∧ valK t = true ∧ Wrote p w w' ∧ Src w' p a n c xs (K + 3) := by
  have hp := cell_lt h.code
  go_enter Tryz.func80, Tryz.ntmps80
  go_wp2_with fail
  refine (pick_any p w.heap.size 4 4 a n c xs K _ (h.alloc _) (by omega) (by omega) (by omega) (by omega) (fun t => valK t = true) (fun i hi => ?_)).mono ?_
  · match i, hi with
    | 0, _ => exact ⟨_, by simp; rfl, by decide⟩
    | 1, _ => exact ⟨_, by simp; rfl, by decide⟩
    | 2, _ => exact ⟨_, by simp; rfl, by decide⟩
    | 3, _ => exact ⟨_, by simp; rfl, by decide⟩
  · rintro e w1 ⟨t, rfl, ht, ho, hs⟩
    have hb : Wrote p w w1 := (Wrote.alloc w p _).trans ho.wrote
    clear ho
    go_wp2_with fail
    go_ret
    exact ⟨t, rfl, ht, hb, hs⟩
set_option maxHeartbeats 1000000 in
theorem longKeyD_any (p : Nat) (a : Option Addr) (n c : Nat) (xs : List Int) (K : Int) (w : World) (h : Src w p a n c xs K) (hK : K ≤ 600000) :
    Calls Tryz.prog 32 #[.pointer (some ⟨p, 0, none⟩)] w fun e w' => ∃ t : ByteArray, e = .returned (.string t) ∧ keyK t = true ∧ Wrote p w w' ∧ Src w' p a n c xs (K + 6) := by
  go_enter Tryz.func32, Tryz.ntmps32
  go_wp2_with fail
  refine (keyD_any p a n c xs K w h (by omega)).mono ?_
  rintro e w1 ⟨t, rfl, ht, hw1, hs1⟩
  have hp := cell_lt hs1.code
  have T1 := hide ht.2
  have W1 := hide hw1
  have S1 := hide hs1
  clear ht hw1 hs1
  go_wp2_with fail
  refine (pick_any p w1.heap.size 6 6 a n c xs (K + 3) _ ((unhide S1).alloc _) (by omega) (by omega) (by omega) (by omega) (fun t => t.size ≤ 1) (fun i hi => ?_)).mono ?_
  · match i, hi with
    | 0, _ => exact ⟨_, by simp; rfl, by decide⟩
    | 1, _ => exact ⟨_, by simp; rfl, by decide⟩
    | 2, _ => exact ⟨_, by simp; rfl, by decide⟩
    | 3, _ => exact ⟨_, by simp; rfl, by decide⟩
    | 4, _ => exact ⟨_, by simp; rfl, by decide⟩
    | 5, _ => exact ⟨_, by simp; rfl, by decide⟩
  · rintro e w2 ⟨u, rfl, hu, ho, hs⟩
    have hb : Wrote p w w2 := (unhide W1).trans ((Wrote.alloc w1 p _).trans ho.wrote)
    have HU := hide hu
    have HB := hide hb
    have HS := hide (hs.more (K' := K + 6) (by omega))
    have hcat : ∀ w', (Op.stringOp .add t u).run Tryz.prog w' = .ok (.string (t ++ u)) w' := fun w' => run_string_add_sum w' t u (by have := unhide T1; omega)
    clear ho hb hu hs
    go_wp2_with fail
    go_ret
    exact ⟨_, rfl, by have h1 := unhide T1; have h2 := unhide HU; unfold keyK; simp [h1]; omega, unhide HB, unhide HS⟩
theorem four_set {w : World} {b : Nat} {v0 v1 v2 v3 : Value} {t : TypeId} (h : w.heap[b]? = some (.cells #[v0, v1, v2, v3] t (0, 0))) : (w.cell? ⟨b, 0, none⟩ = some v0 ∧ w.cell? ⟨b, 1, none⟩ = some v1 ∧ w.cell? ⟨b, 2, none⟩ = some v2 ∧ w.cell? ⟨b, 3, none⟩ = some v3) ∧ w.frozen? ⟨b, 0, none⟩ = false ∧ w.frozen? ⟨b, 1, none⟩ = false ∧ w.frozen? ⟨b, 2, none⟩ = false ∧ w.frozen? ⟨b, 3, none⟩ = false := by
  refine ⟨⟨?_, ?_, ?_, ?_⟩, ?_, ?_, ?_, ?_⟩ <;> simp [World.cell?, World.frozen?, h]
theorem Wrote.loc {p b : Nat} {w w' : World} (h : Wrote p w w') (hb : w.heap.size ≤ b) (j : Nat) (v : Value) : Wrote p w (w'.setCell ⟨b, j, none⟩ v) :=
  ⟨h.os, h.tape, h.output, by simpa [World.setCell] using h.size, fun k hk hl => (Below.heap_setCell _ _ _ _ (by simp; omega)).trans (h.block k hk hl)⟩
theorem Src.set {w : World} {p b : Nat} {a : Option Addr} {n c : Nat} {xs : List Int} {K : Int} (h : Src w p a n c xs K) (hb : p ≠ b) (ha : ∀ x, a = some x → 0 < n → x.block ≠ b) (j : Nat) (v : Value) : Src (w.setCell ⟨b, j, none⟩ v) p a n c xs K :=
  h.of_blocks' (Below.heap_setCell _ _ _ _ hb) (fun x hx hn => Below.heap_setCell _ _ _ _ (ha x hx hn))
end Go.Proofs.YtbhkmmdcdfjbkaaGreat

namespace Go.Proofs.YtbhkmmdcdfjbkaaGreat
open Go.RowKit

theorem heap_ltD {w : World} {b : Nat} {o : Obj} (h : w.heap[b]? = some o) : b < w.heap.size := (Array.getElem?_eq_some_iff.1 h).1
theorem four_end {w w' : World} {p : Nat} {a : Option Addr} {n c : Nat} {xs : List Int} {K : Int} (hw : Wrote p w w') (hs : Src w' p a n c xs K) (hp : p < w.heap.size) (ha : ∀ x, a = some x → 0 < n → x.block < w.heap.size) (v0 v1 v2 v3 : Value) :
    Wrote p w ((((w'.setCell ⟨w.heap.size, 0, none⟩ v0).setCell ⟨w.heap.size, 1, none⟩ v1).setCell ⟨w.heap.size, 2, none⟩ v2).setCell ⟨w.heap.size, 3, none⟩ v3) ∧ Src ((((w'.setCell ⟨w.heap.size, 0, none⟩ v0).setCell ⟨w.heap.size, 1, none⟩ v1).setCell ⟨w.heap.size, 2, none⟩ v2).setCell ⟨w.heap.size, 3, none⟩ v3) p a n c xs K := by
  have h1 : p ≠ w.heap.size := by omega
  have h2 : ∀ x, a = some x → 0 < n → x.block ≠ w.heap.size := fun x hx hn => by have := ha x hx hn; omega
  exact ⟨(((hw.loc (Nat.le_refl _) 0 v0).loc (Nat.le_refl _) 1 v1).loc (Nat.le_refl _) 2 v2).loc (Nat.le_refl _) 3 v3, (((hs.set h1 h2 0 v0).set h1 h2 1 v1).set h1 h2 2 v2).set h1 h2 3 v3⟩
end Go.Proofs.YtbhkmmdcdfjbkaaGreat

namespace Go.Proofs.YtbhkmmdcdfjbkaaGreat
open Go.RowKit

theorem size_draw (p : Nat) (a : Option Addr) (n c : Nat) (xs : List Int) (K : Int) (m : Nat) (w : World) (h : Src w p a n c xs K) :
    Calls Tryz.prog 40 #[.pointer (some ⟨p, 0, none⟩), .int .i64 (m : Int)] w fun e w' => ∃ r : Nat, e = .returned (.int .i64 (r : Int)) ∧ r ≤ m ∧ w' = w := by
  have c0 := h.code
  have hb := h.bound
  have hq : Int.tdiv (n : Int) 12 = ((n / 12 : Nat) : Int) := by rw [Int.tdiv_eq_ediv_of_nonneg (by omega)]; omega
  have wr : IntKind.i64.wrap (1 + ((n / 12 : Nat) : Int)) = ((1 + n / 12 : Nat) : Int) := by rw [IntKind.wrap_i64]; omega
  clear h
  go_enter Tryz.func40, Tryz.ntmps40
  go_wp2_with fail
  · go_ret
    exact ⟨m, rfl, by omega, rfl⟩
  · go_ret
    exact ⟨1 + n / 12, by simp, by omega, rfl⟩
end Go.Proofs.YtbhkmmdcdfjbkaaGreat

namespace Go.Proofs.YtbhkmmdcdfjbkaaGreat
open Go.RowKit

def yV (d : AcT) : Value := .agg #[.int .i64 d.kind, .int .i64 d.id, .string d.key, .string d.val]
set_option maxRecDepth 100000 in
set_option maxHeartbeats 4000000 in
theorem treeActD_any (p : Nat) (a : Option Addr) (n c : Nat) (xs : List Int) (K : Int) (m : Int) (w : World) (h : Src w p a n c xs K) (hK : K ≤ 500000) (hm : 1 ≤ m) (hm2 : m ≤ 1000) :
    Calls Tryz.prog 41 #[.pointer (some ⟨p, 0, none⟩), .int .i64 m] w fun e w' => ∃ d : AcT, e = .returned (yV d) ∧ Wrote p w w' ∧ Src w' p a n c xs (K + 15) := by
  have hp := cell_lt h.code
  have ha := src_code' h
  have b0 : Below w.heap.size w (w.alloc (.cells #[.int .i64 0, .int .i64 0, .string ⟨#[]⟩, .string ⟨#[]⟩] 38)) := (Below.refl _ _).alloc (Nat.le_refl _) _
  have S := hide (h.alloc (.cells #[.int .i64 0, .int .i64 0, .string ⟨#[]⟩, .string ⟨#[]⟩] 38))
  have kz := heap_alloc_new w (.cells #[.int .i64 0, .int .i64 0, .string ⟨#[]⟩, .string ⟨#[]⟩] 38)
  have WW := hide (show Wrote p w (w.alloc (.cells #[.int .i64 0, .int .i64 0, .string ⟨#[]⟩, .string ⟨#[]⟩] 38)) from ⟨b0.os, b0.tape, b0.output, b0.size, fun k _ hl => b0.block k hl⟩)
  have KZ := hide kz
  have HA := hide ha
  have hlt := heap_ltD kz
  clear h b0 kz ha
  go_enter Tryz.func41, Tryz.ntmps41
  go_wp2_with fail
  generalize w.alloc (.cells #[.int .i64 0, .int .i64 0, .string ⟨#[]⟩, .string ⟨#[]⟩] 38) = W0 at *
  refine (next_any p a n c xs K 9 W0 (unhide S) (by omega) (by omega) (by omega)).mono ?_
  rintro e w1 ⟨r, rfl, hr0, hr1, ho, hs⟩
  have hw := ho.wrote
  replace KZ := hide ((hw.block w.heap.size (by omega) hlt).trans (unhide KZ))
  replace WW := hide ((unhide WW).trans hw)
  replace S := hide hs
  clear hw hs hlt
  have hlt := heap_ltD (unhide KZ)
  clear ho
  by_cases h0 : r = 0
  · subst h0
    go_wp2_with fail
    refine (next_any p a n c xs (K + 3) m w1 (unhide S) (by omega) (by omega) (by omega)).mono ?_
    rintro e w2 ⟨q, rfl, _, _, ho, hs⟩
    have hw := ho.wrote
    replace KZ := hide ((hw.block w.heap.size (by omega) hlt).trans (unhide KZ))
    replace WW := hide ((unhide WW).trans hw)
    replace S := hide hs
    clear hw hs hlt
    have hlt := heap_ltD (unhide KZ)
    clear ho
    obtain ⟨⟨c0, c1, c2, c3⟩, f0, f1, f2, f3⟩ := four_set (unhide KZ)
    have FE := hide (four_end (unhide WW) ((unhide S).more (K' := K + 15) (by omega)) hp (unhide HA) (.int .i64 3) (.int .i64 q) (.string ⟨#[]⟩) (.string ⟨#[]⟩))
    go_wp2_with fail
    refine bodyPost_ret (v := yV ⟨3, q, ⟨#[]⟩, ⟨#[]⟩⟩) (by simp [results, Tryz.results41, go_sem, yV, *] <;> rfl) rfl ?_
    exact ⟨⟨3, q, ⟨#[]⟩, ⟨#[]⟩⟩, rfl, (unhide FE).1, (unhide FE).2⟩
  by_cases h12 : r = 1 ∨ r = 2
  · rcases h12 with rfl | rfl
    · go_wp2_with fail
      refine (next_any p a n c xs (K + 3) m w1 (unhide S) (by omega) (by omega) (by omega)).mono ?_
      rintro e w2 ⟨q, rfl, _, _, ho, hs⟩
      have hw := ho.wrote
      replace KZ := hide ((hw.block w.heap.size (by omega) hlt).trans (unhide KZ))
      replace WW := hide ((unhide WW).trans hw)
      replace S := hide hs
      clear hw hs hlt
      have hlt := heap_ltD (unhide KZ)
      clear ho
      obtain ⟨⟨c0, c1, c2, c3⟩, f0, f1, f2, f3⟩ := four_set (unhide KZ)
      have FE := hide (four_end (unhide WW) ((unhide S).more (K' := K + 15) (by omega)) hp (unhide HA) (.int .i64 4) (.int .i64 q) (.string ⟨#[]⟩) (.string ⟨#[]⟩))
      go_wp2_with fail
      refine bodyPost_ret (v := yV ⟨4, q, ⟨#[]⟩, ⟨#[]⟩⟩) (by simp [results, Tryz.results41, go_sem, yV, *] <;> rfl) rfl ?_
      exact ⟨⟨4, q, ⟨#[]⟩, ⟨#[]⟩⟩, rfl, (unhide FE).1, (unhide FE).2⟩
    · go_wp2_with fail
      refine (next_any p a n c xs (K + 3) m w1 (unhide S) (by omega) (by omega) (by omega)).mono ?_
      rintro e w2 ⟨q, rfl, _, _, ho, hs⟩
      have hw := ho.wrote
      replace KZ := hide ((hw.block w.heap.size (by omega) hlt).trans (unhide KZ))
      replace WW := hide ((unhide WW).trans hw)
      replace S := hide hs
      clear hw hs hlt
      have hlt := heap_ltD (unhide KZ)
      clear ho
      obtain ⟨⟨c0, c1, c2, c3⟩, f0, f1, f2, f3⟩ := four_set (unhide KZ)
      have FE := hide (four_end (unhide WW) ((unhide S).more (K' := K + 15) (by omega)) hp (unhide HA) (.int .i64 4) (.int .i64 q) (.string ⟨#[]⟩) (.string ⟨#[]⟩))
      go_wp2_with fail
      refine bodyPost_ret (v := yV ⟨4, q, ⟨#[]⟩, ⟨#[]⟩⟩) (by simp [results, Tryz.results41, go_sem, yV, *] <;> rfl) rfl ?_
      exact ⟨⟨4, q, ⟨#[]⟩, ⟨#[]⟩⟩, rfl, (unhide FE).1, (unhide FE).2⟩
  have h1 : ¬ r = 1 := fun h => h12 (.inl h)
  have h2 : ¬ r = 2 := fun h => h12 (.inr h)
  clear h12
  by_cases h3 : r = 3
  · subst h3
    go_wp2_with fail
    refine (next_any p a n c xs (K + 3) m w1 (unhide S) (by omega) (by omega) (by omega)).mono ?_
    rintro e w2 ⟨q, rfl, _, _, ho, hs⟩
    have hw := ho.wrote
    replace KZ := hide ((hw.block w.heap.size (by omega) hlt).trans (unhide KZ))
    replace WW := hide ((unhide WW).trans hw)
    replace S := hide hs
    clear hw hs hlt
    have hlt := heap_ltD (unhide KZ)
    clear ho
    obtain ⟨⟨c0, c1, c2, c3⟩, f0, f1, f2, f3⟩ := four_set (unhide KZ)
    have FE := hide (four_end (unhide WW) ((unhide S).more (K' := K + 15) (by omega)) hp (unhide HA) (.int .i64 5) (.int .i64 q) (.string ⟨#[]⟩) (.string ⟨#[]⟩))
    go_wp2_with fail
    refine bodyPost_ret (v := yV ⟨5, q, ⟨#[]⟩, ⟨#[]⟩⟩) (by simp [results, Tryz.results41, go_sem, yV, *] <;> rfl) rfl ?_
    exact ⟨⟨5, q, ⟨#[]⟩, ⟨#[]⟩⟩, rfl, (unhide FE).1, (unhide FE).2⟩
  by_cases h4 : r = 4
  · subst h4
    go_wp2_with fail
    refine (chanceD_any p a n c xs (K + 3) 2 w1 (unhide S) (by omega) (by omega) (by omega)).mono ?_
    rintro e w2 ⟨x, rfl, hw, hs⟩
    replace KZ := hide ((hw.block w.heap.size (by omega) hlt).trans (unhide KZ))
    replace WW := hide ((unhide WW).trans hw)
    replace S := hide hs
    clear hw hs hlt
    have hlt := heap_ltD (unhide KZ)
    cases x with
    | true =>
      go_wp2_with fail
      refine (next_any p a n c xs (K + 3 + 3) m w2 (unhide S) (by omega) (by omega) (by omega)).mono ?_
      rintro e w3 ⟨q, rfl, _, _, ho, hs⟩
      have hw := ho.wrote
      replace KZ := hide ((hw.block w.heap.size (by omega) hlt).trans (unhide KZ))
      replace WW := hide ((unhide WW).trans hw)
      replace S := hide hs
      clear hw hs hlt
      have hlt := heap_ltD (unhide KZ)
      clear ho
      obtain ⟨⟨c0, c1, c2, c3⟩, f0, f1, f2, f3⟩ := four_set (unhide KZ)
      have FE := hide (four_end (unhide WW) ((unhide S).more (K' := K + 15) (by omega)) hp (unhide HA) (.int .i64 6) (.int .i64 q) (.string ⟨#[]⟩) (.string ⟨#[]⟩))
      go_wp2_with fail
      refine bodyPost_ret (v := yV ⟨6, q, ⟨#[]⟩, ⟨#[]⟩⟩) (by simp [results, Tryz.results41, go_sem, yV, *] <;> rfl) rfl ?_
      exact ⟨⟨6, q, ⟨#[]⟩, ⟨#[]⟩⟩, rfl, (unhide FE).1, (unhide FE).2⟩
    | false =>
      go_wp2_with fail
      refine (longKeyD_any p a n c xs (K + 3 + 3) w2 (unhide S) (by omega)).mono ?_
      rintro e w3 ⟨t, rfl, _, hw, hs⟩
      replace KZ := hide ((hw.block w.heap.size (by omega) hlt).trans (unhide KZ))
      replace WW := hide ((unhide WW).trans hw)
      replace S := hide hs
      clear hw hs hlt
      have hlt := heap_ltD (unhide KZ)
      go_wp2_with fail
      refine (valueD_any p a n c xs (K + 3 + 3 + 6) w3 (unhide S) (by omega)).mono ?_
      rintro e w4 ⟨u, rfl, _, hw, hs⟩
      replace KZ := hide ((hw.block w.heap.size (by omega) hlt).trans (unhide KZ))
      replace WW := hide ((unhide WW).trans hw)
      replace S := hide hs
      clear hw hs hlt
      have hlt := heap_ltD (unhide KZ)
      obtain ⟨⟨c0, c1, c2, c3⟩, f0, f1, f2, f3⟩ := four_set (unhide KZ)
      have FE := hide (four_end (unhide WW) ((unhide S).more (K' := K + 15) (by omega)) hp (unhide HA) (.int .i64 1) (.int .i64 0) (.string t) (.string u))
      go_wp2_with fail
      refine bodyPost_ret (v := yV ⟨1, 0, t, u⟩) (by simp [results, Tryz.results41, go_sem, yV, *] <;> rfl) rfl ?_
      exact ⟨⟨1, 0, t, u⟩, rfl, (unhide FE).1, (unhide FE).2⟩
  by_cases h5 : r = 5
  · subst h5
    go_wp2_with fail
    refine (longKeyD_any p a n c xs (K + 3) w1 (unhide S) (by omega)).mono ?_
    rintro e w2 ⟨t, rfl, _, hw, hs⟩
    replace KZ := hide ((hw.block w.heap.size (by omega) hlt).trans (unhide KZ))
    replace WW := hide ((unhide WW).trans hw)
    replace S := hide hs
    clear hw hs hlt
    have hlt := heap_ltD (unhide KZ)
    obtain ⟨⟨c0, c1, c2, c3⟩, f0, f1, f2, f3⟩ := four_set (unhide KZ)
    have FE := hide (four_end (unhide WW) ((unhide S).more (K' := K + 15) (by omega)) hp (unhide HA) (.int .i64 2) (.int .i64 0) (.string t) (.string ⟨#[]⟩))
    go_wp2_with fail
    refine bodyPost_ret (v := yV ⟨2, 0, t, ⟨#[]⟩⟩) (by simp [results, Tryz.results41, go_sem, yV, *] <;> rfl) rfl ?_
    exact ⟨⟨2, 0, t, ⟨#[]⟩⟩, rfl, (unhide FE).1, (unhide FE).2⟩
  · go_wp2_with fail
    refine (longKeyD_any p a n c xs (K + 3) w1 (unhide S) (by omega)).mono ?_
    rintro e w2 ⟨t, rfl, _, hw, hs⟩
    replace KZ := hide ((hw.block w.heap.size (by omega) hlt).trans (unhide KZ))
    replace WW := hide ((unhide WW).trans hw)
    replace S := hide hs
    clear hw hs hlt
    have hlt := heap_ltD (unhide KZ)
    go_wp2_with fail
    refine (valueD_any p a n c xs (K + 3 + 6) w2 (unhide S) (by omega)).mono ?_
    rintro e w3 ⟨u, rfl, _, hw, hs⟩
    replace KZ := hide ((hw.block w.heap.size (by omega) hlt).trans (unhide KZ))
    replace WW := hide ((unhide WW).trans hw)
    replace S := hide hs
    clear hw hs hlt
    have hlt := heap_ltD (unhide KZ)
    obtain ⟨⟨c0, c1, c2, c3⟩, f0, f1, f2, f3⟩ := four_set (unhide KZ)
    have FE := hide (four_end (unhide WW) ((unhide S).more (K' := K + 15) (by omega)) hp (unhide HA) (.int .i64 1) (.int .i64 0) (.string t) (.string u))
    go_wp2_with fail
    refine bodyPost_ret (v := yV ⟨1, 0, t, u⟩) (by simp [results, Tryz.results41, go_sem, yV, *] <;> rfl) rfl ?_
    exact ⟨⟨1, 0, t, u⟩, rfl, (unhide FE).1, (unhide FE).2⟩
theorem Tryz.infoTa : (Tryz.prog.info? 38).map (fun i => (i.zero, i.size, i.bytes)) = some (some (.agg #[.int .i64 0, .int .i64 0, .string ByteArray.empty, .string ByteArray.empty]), 4, 48) := by kernel_rfl
/-- Acts under way. -/
structure TaSt (w wr : World) (p : Nat) (a : Option Addr) (n c : Nat) (xs : List Int) (K : Int) (v : Value) (ds : List AcT) : Prop where
  src : Src wr p a n c xs K
  own : YOwns wr w.heap.size v ds
  wro : Wrote p w wr
  hp : p < w.heap.size
  hc : ∀ x, a = some x → 0 < n → x.block < w.heap.size
theorem TaSt.wrote {w wr wr2 : World} {p : Nat} {a : Option Addr} {n c : Nat} {xs : List Int} {K K2 : Int} {v : Value} {ds : List AcT} (h : TaSt w wr p a n c xs K v ds) (hs2 : Src wr2 p a n c xs K2) (hw : Wrote p wr wr2) : TaSt w wr2 p a n c xs K2 v ds :=
  have hwb : WrB (fun i => i = p) wr wr2 := ⟨hw.os, hw.tape, hw.output, hw.size, fun k hk hp => hw.block k hp hk⟩
  ⟨hs2, rr_owns_wr h.own hwb (fun i hi e => by have := (World.ownsRow.lt h.own i hi).1; have := h.hp; omega), h.wro.trans hw, h.hp, h.hc⟩
theorem TaSt.app {w wr : World} {p : Nat} {a : Option Addr} {n c : Nat} {xs : List Int} {K : Int} {v : Value} {ds : List AcT} {d : AcT} (h : TaSt w wr p a n c xs K v ds) (hz : ds.length ≤ 1000) (hv : v ≠ .slice none 0 0) :
    ∃ g c' w6, (Builtin.append_ #[23, 23] 23 #[v, .slice (some ⟨wr.heap.size, 0, none⟩) 1 1]).run Tryz.prog (wr.alloc (.cells #[.int .i64 d.kind, .int .i64 d.id, .string d.key, .string d.val] 38)) = .ok (.slice (some ⟨g, 0, none⟩) (ds.length + 1) c') w6 ∧ TaSt w w6 p a n c xs K (.slice (some ⟨g, 0, none⟩) (ds.length + 1) c') (ds ++ [d]) := by
  obtain ⟨i0, hi0, hz0, hz1, hz2⟩ := info_parts Tryz.infoTa
  have bA := (Below.refl wr.heap.size wr).alloc (Nat.le_refl _) (.cells #[.int .i64 d.kind, .int .i64 d.id, .string d.key, .string d.val] 38)
  have K4 := heap_alloc_new wr (.cells #[.int .i64 d.kind, .int .i64 d.id, .string d.key, .string d.val] 38)
  have oA := rb_ownsRow_below h.own bA
  have hsz := h.wro.size
  obtain ⟨v', w6, hr, ho, hgr, hnil⟩ := run_append_own (P := Tryz.prog) _ w.heap.size 23 23 38 i0 (.agg #[.int .i64 0, .int .i64 0, .string ByteArray.empty, .string ByteArray.empty]) 4 48 Tryz.underlying23 hi0 hz0 hz1 hz2 rfl (by decide) _ _ _ oA ⟨wr.heap.size, 0, none⟩ 1 1 [.int .i64 d.kind, .int .i64 d.id, .string d.key, .string d.val] rfl (fun j u hu => by
      rw [Addr.add_lit, (heap_at K4 _).1]
      simpa using hu) (by
      intro u hu
      simp only [List.mem_cons, List.not_mem_nil, or_false] at hu
      rcases hu with rfl | rfl | rfl | rfl <;> rfl) (by unfold maxLen; omega) (by omega) (Nat.le_trans hsz bA.size)
  have hw := WrB.of_grown hgr
  rcases ho.2 with ⟨e, _⟩ | ⟨g, cap, cur, e, hbg, _⟩
  · exact absurd (hnil.1 e).1 hv
  subst e
  refine ⟨g, cap, w6, hr, ⟨?_, ?_, ?_, h.hp, h.hc⟩⟩
  · refine (h.src.alloc _).of_blocks' (hw.block p (by have := h.hp; have := bA.size; omega) (fun e => by have := (World.ownsRow.lt oA p e).1; have := h.hp; omega)) (fun x hx hn => hw.block x.block (by have := h.hc x hx hn; have := bA.size; omega) (fun e => by have := (World.ownsRow.lt oA _ e).1; have := h.hc x hx hn; omega))
  · unfold YOwns
    rw [ycs_append, List.length_append]
    exact ho
  · exact ⟨hw.os.trans (bA.os.trans h.wro.os), hw.tape.trans (bA.tape.trans h.wro.tape), hw.output.trans (bA.output.trans h.wro.output), Nat.le_trans hsz (Nat.le_trans bA.size hw.size), fun k hk hl => (hw.block k (Nat.lt_of_lt_of_le hl (Nat.le_trans hsz bA.size)) (fun e => by have := (World.ownsRow.lt oA k e).1; omega)).trans ((bA.block k (Nat.lt_of_lt_of_le hl hsz)).trans (h.wro.block k hk hl))⟩
def TaRes (p : Nat) (w : World) (e : Ending) (w' : World) : Prop := ∃ a' m' c' ds, e = .returned (.slice a' m' c') ∧ YRow w' a' m' ds ∧ ds.length ≤ 28 ∧ Wrote p w w'
theorem x_below {w w1 w2 : World} (h1 : Below w.heap.size w w1) (hw : Wrote w.heap.size w1 w2) : Below w.heap.size w w2 := h1.trans (hw.below (Nat.le_refl _) h1.size)
set_option maxRecDepth 100000 in
set_option maxHeartbeats 4000000 in
theorem treeActsD_any (p : Nat) (a : Option Addr) (n c : Nat) (xs : List Int) (K : Int) (w : World) (h : Src w p a n c xs K) (hK : K ≤ 100) :
    Calls Tryz.prog 22 #[.pointer (some ⟨p, 0, none⟩)] w fun e w' => TaRes p w e w' := by
  have hp := cell_lt h.code
  have ha := src_code' h
  have bA := (Below.refl w.heap.size w).alloc (Nat.le_refl _) (.cells #[] 38)
  have T0 := hide (show TaSt w (w.alloc (.cells #[] 38)) p a n c xs K (.slice (some ⟨w.heap.size, 0, none⟩) 0 0) [] from ⟨h.alloc _, nil_lit (w := w) 38 4, ⟨bA.os, bA.tape, bA.output, bA.size, fun k _ hl => bA.block k hl⟩, hp, ha⟩)
  clear h bA ha
  go_enter Tryz.func22, Tryz.ntmps22
  go_wp2_with fail
  generalize w.alloc (.cells #[] 38) = W0 at *
  refine (size_draw p a n c xs K 24 W0 (unhide T0).src).mono ?_
  rintro e w1 ⟨r, rfl, hr, hw1⟩
  subst hw1
  have hrw : IntKind.i64.wrap ((r : Int) + 4) = (r : Int) + 4 := by rw [IntKind.wrap_i64]; omega
  go_wp2_with fail
  refine (next_any p a n c xs K ((r : Int) + 4) w1 (unhide T0).src (by omega) (by omega) (by omega)).mono ?_
  rintro e w2 ⟨q, rfl, hq0, hq1, ho, hs⟩
  have T1 := hide ((unhide T0).wrote hs ho.wrote)
  obtain ⟨qn, rfl⟩ : ∃ qn : Nat, q = (qn : Int) := ⟨q.toNat, by omega⟩
  have hqn : qn ≤ 28 := by omega
  clear T0 ho hs hq0 hq1 hrw hr
  generalize w.heap.size = g0 at *
  go_wp2_with fail
  go_loopw [3, 4] (fun ov iv wr => ∃ (k g cp L : Nat) (ds : List AcT), ov = .slice (some ⟨g, 0, none⟩) L cp ∧ iv = .int .i64 (k : Int) ∧ k + L ≤ 28 ∧ Hid (ds.length = L) ∧ Hid (TaSt w wr p a n c xs (K + 3 + 15 * (L : Int)) (.slice (some ⟨g, 0, none⟩) L cp) ds)) (fun _ iv _ => (intOf iv).toNat)
  case atStart => exact ⟨qn, g0, 0, 0, [], rfl, rfl, by omega, rfl, hide (by simpa using unhide T1)⟩
  case round =>
    clear T1
    obtain ⟨k, g, cp, L, ds, rfl, rfl, hkL, hL, hT⟩ := hrel
    by_cases hk : k = 0
    · subst hk
      have hLc : (L : Int) ≤ (cp : Int) := by
        rcases (unhide hT).own.2 with ⟨e, _⟩ | ⟨_, cap, _, e, _, _, hc, _⟩
        · cases e
        · injection e with _ e1 e2; omega
      have hmin : min (L : Int) 150 = (L : Int) := by omega
      have hYR := hide (yrow_of_owns (unhide hT).own)
      have hWr := hide (unhide hT).wro
      have hlt : ¬ ((150 : Int) < (L : Int)) := by omega
      have hle : (L : Int) ≤ 150 := by omega
      have htn : (L : Int).toNat = L := by omega
      have hge : (0 : Int) ≤ (L : Int) := by omega
      go_wp2_with fail
      go_ret
      have hl28 : ds.length ≤ 28 := by have := unhide hL; omega
      exact ⟨_, _, _, ds, rfl, unhide hYR, hl28, unhide hWr⟩
    · obtain ⟨j, rfl⟩ : ∃ j, k = j + 1 := ⟨k - 1, by omega⟩
      obtain ⟨Q, hQ⟩ : ∃ Q, Q = L / 4 := ⟨_, rfl⟩
      have hQi : (L : Int) / 4 = (Q : Int) := by omega
      have hQt : (L : Int).tdiv 4 = (Q : Int) := by rw [Int.tdiv_eq_ediv_of_nonneg (by omega)]; exact hQi
      have hQw : IntKind.i64.wrap (1 + (Q : Int)) = 1 + (Q : Int) := by rw [IntKind.wrap_i64]; omega
      have hpos : (0 : Int) < ((j + 1 : Nat) : Int) := by omega
      clear hQ
      have hQ8 : Q ≤ 8 := by omega
      go_wp2_with fail
      refine (treeActD_any p a n c xs (K + 3 + 15 * (L : Int)) (1 + (Q : Int)) wr (unhide hT).src (by omega) (by omega) (by omega)).mono ?_
      rintro e w3 ⟨d, rfl, hw, hs⟩
      have T2 := (unhide hT).wrote hs hw
      obtain ⟨g2, c2, w6, hr, T3⟩ := T2.app (d := d) (by have := unhide hL; omega) (fun e => by cases e)
      rw [unhide hL] at hr T3
      have eK : K + 3 + 15 * (L : Int) + 15 = K + 3 + 15 * ((L + 1 : Nat) : Int) := by omega
      rw [eK] at T3
      have T3h := hide T3
      clear eK
      have hL2 := hide (show (ds ++ [d]).length = L + 1 by rw [List.length_append, unhide hL]; rfl)
      clear hT T2 T3 hw hs hL
      unfold yV
      obtain ⟨dk, di, dy, dv⟩ := d
      simp only at hr
      go_wp2_with (at_builtin; refine wpAppE rfl _ _ 23 rfl _ _ (.slice (some ⟨g2, 0, none⟩) (L + 1) c2) w6 rfl rfl hr ?_)
      go_roundw
      case rel => exact ⟨j, g2, c2, L + 1, ds ++ [⟨dk, di, dy, dv⟩], rfl, by go_num, by omega, hL2, T3h⟩
      case measure => simp [intOf] <;> omega
set_option maxHeartbeats 1000000 in
theorem treeActsOf_any (a : Option Addr) (n c : Nat) (xs : List Int) (w : World) (hr : Row w a n xs) (hby : ∀ i, i < n → 0 ≤ xs.getD i 0 ∧ xs.getD i 0 ≤ 255) (hn : n ≤ 1048576) :
    Calls Tryz.prog 5 #[.slice a n c] w fun e w' => ∃ a' m' c' ds, e = .returned (.slice a' m' c') ∧ YRow w' a' m' ds ∧ ds.length ≤ 28 ∧ Below w.heap.size w w' := by
  have R := hide hr
  have BY := hide hby
  clear hr hby
  go_enter Tryz.func5, Tryz.ntmps5
  go_wp2_with fail
  refine (source_any a n c xs w (unhide R) (unhide BY) hn).mono ?_
  rintro e w1 ⟨rfl, hs1, hb1, hz1⟩
  clear hz1
  go_wp2_with fail
  refine (treeActsD_any w.heap.size a n c xs 0 w1 hs1 (by omega)).mono ?_
  rintro e w2 ⟨a', m', c', ds, rfl, hy, hl, hw⟩
  have RES := hide (show ∃ a'' m'' c'' ds, Ending.returned (Value.slice a' m' c') = .returned (.slice a'' m'' c'') ∧ YRow w2 a'' m'' ds ∧ ds.length ≤ 28 ∧ Below w.heap.size w w2 from ⟨a', m', c', ds, rfl, hy, hl, x_below hb1 hw⟩)
  clear hy hl hw hb1 hs1
  go_wp2_with fail
  go_ret
  exact unhide RES
set_option maxHeartbeats 1000000 in
theorem treeKeyOf_any (a : Option Addr) (n c : Nat) (xs : List Int) (w : World) (hr : Row w a n xs) (hby : ∀ i, i < n → 0 ≤ xs.getD i 0 ∧ xs.getD i 0 ≤ 255) (hn : n ≤ 1048576) :
    Calls Tryz.prog 13 #[.slice a n c] w fun e w' => ∃ t : ByteArray, e = .returned (.string t) ∧ keyK t = true ∧ Below w.heap.size w w' := by
  have R := hide hr
  have BY := hide hby
  clear hr hby
  go_enter Tryz.func13, Tryz.ntmps13
  go_wp2_with fail
  refine (source_any a n c xs w (unhide R) (unhide BY) hn).mono ?_
  rintro e w1 ⟨rfl, hs1, hb1, hz1⟩
  clear hz1
  go_wp2_with fail
  refine (longKeyD_any w.heap.size a n c xs 0 w1 hs1 (by omega)).mono ?_
  rintro e w2 ⟨t, rfl, ht, hw, _⟩
  have RES := hide (show ∃ t' : ByteArray, Ending.returned (Value.string t) = .returned (.string t') ∧ keyK t' = true ∧ Below w.heap.size w w2 from ⟨t, rfl, ht, x_below hb1 hw⟩)
  clear ht hw hb1 hs1
  go_wp2_with fail
  go_ret
  exact unhide RES
end Go.Proofs.YtbhkmmdcdfjbkaaGreat

namespace Go.Proofs.YtbhkmmdcdfjbkaaGreat
open Go.RowKit

set_option maxRecDepth 100000 in
set_option maxHeartbeats 4000000 in
theorem lawPut_any (b off n c : Nat) (es : List EntD) (e : EntD) (gone : Bool) (w : World) (hE : ERow w (some ⟨b, off, none⟩) n es) (hn : n ≤ 1000) (hc : n ≤ c) :
    Calls Tryz.prog 11 #[.slice (some ⟨b, off, none⟩) n c, .agg #[.string e.k, .string e.v], .bool gone] w fun x w' => ∃ g cap, x = .returned (.slice (some ⟨g, 0, none⟩) (putE es e gone).length cap) ∧ EOwns w' w.heap.size (.slice (some ⟨g, 0, none⟩) (putE es e gone).length cap) (putE es e gone) ∧ Below w.heap.size w w' := by
  obtain ⟨i0, hi0, hz0, hz1, hz2⟩ := info_parts Tryz.infoEntry
  have LE := hide hE.1
  have RE := hide hE
  have PL := hide (pos_le es e.k)
  clear hE
  have b1 : Below w.heap.size w ((w.alloc (.cells #[.string e.k, .string e.v] 41)).alloc (.cells #[] 41)) := ((Below.refl _ _).alloc (Nat.le_refl _) _).alloc (by simp) _
  have O0 := hide (show EOwns ((w.alloc (.cells #[.string e.k, .string e.v] 41)).alloc (.cells #[] 41)) (w.heap.size + 1) (.slice (some ⟨w.heap.size + 1, 0, none⟩) 0 0) [] by
    have := World.ownsRow_lit (base := w.heap.size + 1) (e := 41) (size := 2) (w.alloc (.cells #[.string e.k, .string e.v] 41)) #[] 0 (by simp) (by unfold maxLen; simp) rfl
    simp at this
    exact this)
  go_enter Tryz.func11, Tryz.ntmps11
  go_wp2_with fail
  go_loopw [7, 8] (fun v i wr => ∃ (j g cap : Nat), i = .int .i64 (j : Int) ∧ v = .slice (some ⟨g, 0, none⟩) j cap ∧ j ≤ pos es e.k ∧ Hid (EOwns wr (w.heap.size + 1) (.slice (some ⟨g, 0, none⟩) j cap) (es.take j)) ∧ Hid (Below (w.heap.size + 1) ((w.alloc (.cells #[.string e.k, .string e.v] 41)).alloc (.cells #[] 41)) wr)) (fun _ i _ => n - (intOf i).toNat)
  case atStart => exact ⟨0, w.heap.size + 1, 0, rfl, rfl, Nat.zero_le _, unhide O0, Below.refl _ _⟩
  case round =>
    clear O0
    obtain ⟨j, g, cap, rfl, rfl, hj, hO, hB⟩ := hrel
    have BW := hide (b1.trans ((unhide hB).mono (by omega)))
    have e0 : wr.cell? ⟨w.heap.size, 0, none⟩ = some (.string e.k) := ((unhide hB).cell (p := ⟨w.heap.size, 0, none⟩) (by simp)).trans (by simp)
    have e1 : wr.cell? ⟨w.heap.size, 1, none⟩ = some (.string e.v) := ((unhide hB).cell (p := ⟨w.heap.size, 1, none⟩) (by simp)).trans (by simp)
    by_cases hlt : j < pos es e.k
    · have hje : j < es.length := by have := unhide PL; omega
      have hjn : j < n := by have := unhide LE; omega
      obtain ⟨b', off', he, d0, d1⟩ := ((unhide RE).below (unhide BW)).2 j hje
      injection he with he
      injection he with he1 he2
      subst he1 he2
      have hl := less_at hje hlt
      have TS := hide (takeG_snoc es j hje)
      have HTL := hide (show (es.take j).length = j by rw [List.length_take]; omega)
      generalize es[j] = em at *
      go_wp2_with fail
      go_quiet (fail)
      have O2 : wr.ownsRow (w.heap.size + 1) 41 2 (.slice (some ⟨g, 0, none⟩) j cap) j (ecs (es.take j)) := by have := unhide hO; unfold EOwns at this; rwa [unhide HTL] at this
      have hsz : w.heap.size + 1 ≤ wr.heap.size := by have := (unhide hB).size; simp at this; omega
      go_wp2_with (at_builtin; refine wpList_append_own _ rfl _ _ 36 rfl (w.heap.size + 1) 41 i0 (.agg #[.string ByteArray.empty, .string ByteArray.empty]) 2 32 Tryz.underlying36 hi0 hz0 hz1 hz2 rfl (by decide) _ _ _ rfl (World.ownsRow.alloc O2 _) ⟨wr.heap.size, 0, none⟩ 1 1 [.string em.k, .string em.v] rfl rfl (cells_new (vs := [.string em.k, .string em.v])) (by intro u hu; simp at hu; rcases hu with rfl | rfl <;> rfl) (by unfold maxLen; omega) (by omega) (by simp; omega) ?_)
      intro v3 w3 h1 h2 h3
      have O3 : EOwns w3 (w.heap.size + 1) v3 (es.take (j + 1)) := by
        rw [unhide TS]
        refine eapp ?_
        rw [unhide HTL]
        exact h1
      obtain ⟨g3, cap3, rfl, hg3⟩ := eowns_some O3 (fun h => by subst h; simp at h3)
      have hl3 : (es.take (j + 1)).length = j + 1 := by rw [List.length_take]; omega
      rw [hl3] at O3 ⊢
      have O4 := hide O3
      have B4 := hide (((bel_drewN (unhide hB) _).alloc hsz _).grown h2 (by simp; omega) (fun k hk => (O2.lt k hk).1))
      clear h1 h2 h3 O3 O2
      go_wp2_with fail
      go_roundw
      case rel => exact ⟨j + 1, g3, cap3, by go_num, rfl, by omega, unhide O4, unhide B4⟩
      case measure => simp [intOf]; omega
    · obtain rfl : j = pos es e.k := by omega
      have HTL := hide (show (es.take (pos es e.k)).length = pos es e.k by have := unhide PL; rw [List.length_take]; omega)
      have hsz : w.heap.size + 1 ≤ wr.heap.size := by have := (unhide hB).size; simp at this; omega
      have O2 := hide (show wr.ownsRow (w.heap.size + 1) 41 2 (.slice (some ⟨g, 0, none⟩) (pos es e.k) cap) (pos es e.k) (ecs (es.take (pos es e.k))) by have := unhide hO; unfold EOwns at this; rwa [unhide HTL] at this)
      by_cases hpn : pos es e.k < es.length
      · obtain ⟨b', off', he, d0, d1⟩ := ((unhide RE).below (unhide BW)).2 _ hpn
        injection he with he
        injection he with he1 he2
        subst he1 he2
        have hl : Op.bytesLess es[pos es e.k].k.toList e.k.toList = false := pos_at es e.k hpn
        have hjn : pos es e.k < n := by have := unhide LE; omega
        have hbl : b < w.heap.size := by obtain ⟨b2, o2, h2, c2, _⟩ := (unhide RE).2 _ hpn; injection h2 with h2; injection h2 with h2 _; subst h2; exact cell_lt c2
        have FD := hide (show (es[pos es e.k].k.toList == e.k.toList) = found es e.k by unfold found; rw [List.getElem?_eq_getElem hpn])
        generalize hp : pos es e.k = p at *
        go_wp2_with fail
        go_quiet (fail)
        have O2q := hide (show (wr.drewN nq).ownsRow (w.heap.size + 1) 41 2 (.slice (some ⟨g, 0, none⟩) p cap) p (ecs (es.take p)) from unhide O2)
        have B2q := hide (bel_drewN (unhide hB) nq)
        have e0q : (wr.drewN nq).cell? ⟨w.heap.size, 0, none⟩ = some (.string e.k) := e0
        have e1q : (wr.drewN nq).cell? ⟨w.heap.size, 1, none⟩ = some (.string e.v) := e1
        have hszq : w.heap.size + 1 ≤ (wr.drewN nq).heap.size := hsz
        have d0q : (wr.drewN nq).cell? ⟨b, off + p * 2, none⟩ = some (.string es[p].k) := d0
        clear O2 hO hB BW e0 e1 hsz d0 d1
        generalize wr.drewN nq = wq at *
        cases gone with
        | true =>
          have OX := hide (unhide O2q)
          have BY := hide (unhide B2q)
          have BX := hide (b1.trans ((unhide B2q).mono (by omega)))
          clear O2q B2q e1q
          by_cases hf : found es e.k = true
          · have hfe : (es[p].k.toList == e.k.toList) = true := by rw [unhide FD]; exact hf
            have ST := hide (show putE es e true = (es.take p) ++ es.drop (p + 1) by unfold putE stepE; rw [if_neg (by simp), hp, hf]; simp)
            go_wp2_with fail
            go_quiet (fail)
            obtain ⟨A, hA, hsrc⟩ := drop_src (k := (p + 1)) ((unhide RE).below (unhide BX)) hc
            have HN := hide (show (ecs (es.drop (p + 1))).length = (n - (p + 1)) * 2 by rw [ecs_len, List.length_drop, unhide LE])
            have hsX : w.heap.size + 1 ≤ wq.heap.size := by have := (unhide BY).size; simp at this; omega
            go_wp2_with (at_builtin; refine wpList_append_own _ rfl _ _ 36 rfl (w.heap.size + 1) 41 i0 (.agg #[.string ByteArray.empty, .string ByteArray.empty]) 2 32 Tryz.underlying36 hi0 hz0 hz1 hz2 rfl (by decide) _ _ _ rfl (show (wq.drewN nq).ownsRow (w.heap.size + 1) 41 2 (.slice (some ⟨g, 0, none⟩) p cap) p (ecs (es.take p)) from unhide OX) A (n - (p + 1)) (c - (p + 1)) (ecs (es.drop (p + 1))) rfl (unhide HN) (unhide hsrc) (ecs_one _) (by unfold maxLen; omega) (by omega) hsX ?_)
            intro v5 w5 h1 h2 h3
            have O5 : EOwns w5 w.heap.size v5 (putE es e true) := by
              rw [unhide ST]
              refine ownsRow_base2 ?_ (Nat.le_succ _)
              rw [ecs_append, List.length_append, List.length_drop, unhide LE, unhide HTL]
              exact h1
            obtain ⟨g5, cap5, rfl, _⟩ := eowns_some O5 (fun h => by first | exact h3 h | (subst h; simp at h3))
            have O6 := hide O5
            have B6 := hide (b1.trans (((bel_drewN (unhide BY) nq).grown h2 hsX (fun k hk => (World.ownsRow.lt (show (wq.drewN nq).ownsRow (w.heap.size + 1) 41 2 (.slice (some ⟨g, 0, none⟩) p cap) p (ecs (es.take p)) from unhide OX) k hk).1)).mono (by omega)))
            clear h1 h2 h3 O5
            go_wp2_with fail
            go_ret
            exact ⟨g5, cap5, rfl, unhide O6, unhide B6⟩
          · have hfe : (es[p].k.toList == e.k.toList) = false := by rw [unhide FD]; simpa using hf
            have hf : found es e.k = false := by simpa using hf
            have ST := hide (show putE es e true = (es.take p) ++ es.drop p by unfold putE stepE; rw [if_neg (by simp), hp, hf]; simp)
            go_wp2_with fail
            go_quiet (fail)
            obtain ⟨A, hA, hsrc⟩ := drop_src (k := p) ((unhide RE).below (unhide BX)) hc
            have HN := hide (show (ecs (es.drop p)).length = (n - p) * 2 by rw [ecs_len, List.length_drop, unhide LE])
            have hsX : w.heap.size + 1 ≤ wq.heap.size := by have := (unhide BY).size; simp at this; omega
            go_wp2_with (at_builtin; refine wpList_append_own _ rfl _ _ 36 rfl (w.heap.size + 1) 41 i0 (.agg #[.string ByteArray.empty, .string ByteArray.empty]) 2 32 Tryz.underlying36 hi0 hz0 hz1 hz2 rfl (by decide) _ _ _ rfl (show (wq.drewN nq).ownsRow (w.heap.size + 1) 41 2 (.slice (some ⟨g, 0, none⟩) p cap) p (ecs (es.take p)) from unhide OX) A (n - p) (c - p) (ecs (es.drop p)) rfl (unhide HN) (unhide hsrc) (ecs_one _) (by unfold maxLen; omega) (by omega) hsX ?_)
            intro v5 w5 h1 h2 h3
            have O5 : EOwns w5 w.heap.size v5 (putE es e true) := by
              rw [unhide ST]
              refine ownsRow_base2 ?_ (Nat.le_succ _)
              rw [ecs_append, List.length_append, List.length_drop, unhide LE, unhide HTL]
              exact h1
            obtain ⟨g5, cap5, rfl, _⟩ := eowns_some O5 (fun h => by first | exact h3 h | (subst h; simp at h3))
            have O6 := hide O5
            have B6 := hide (b1.trans (((bel_drewN (unhide BY) nq).grown h2 hsX (fun k hk => (World.ownsRow.lt (show (wq.drewN nq).ownsRow (w.heap.size + 1) 41 2 (.slice (some ⟨g, 0, none⟩) p cap) p (ecs (es.take p)) from unhide OX) k hk).1)).mono (by omega)))
            clear h1 h2 h3 O5
            go_wp2_with fail
            go_ret
            exact ⟨g5, cap5, rfl, unhide O6, unhide B6⟩
        | false =>
          go_wp2_with (at_builtin; refine wpList_append_own _ rfl _ _ 36 rfl (w.heap.size + 1) 41 i0 (.agg #[.string ByteArray.empty, .string ByteArray.empty]) 2 32 Tryz.underlying36 hi0 hz0 hz1 hz2 rfl (by decide) _ _ _ rfl (World.ownsRow.alloc (unhide O2q) _) ⟨wq.heap.size, 0, none⟩ 1 1 [.string e.k, .string e.v] rfl rfl (cells_new (vs := [.string e.k, .string e.v])) (by intro u hu; simp at hu; rcases hu with rfl | rfl <;> rfl) (by unfold maxLen; omega) (by omega) (by simp; omega) ?_)
          intro v3 w3 h1 h2 h3
          have O3 : EOwns w3 (w.heap.size + 1) v3 (es.take p ++ [e]) := by
            refine eapp ?_
            rw [unhide HTL]
            exact h1
          obtain ⟨g3, cap3, rfl, hg3⟩ := eowns_some O3 (fun h => by subst h; simp at h3)
          have hl3 : (es.take p ++ [e]).length = p + 1 := by rw [List.length_append, unhide HTL]; rfl
          unfold EOwns at O3
          rw [hl3] at O3 ⊢
          have OX := hide O3
          have bZ : Below (w.heap.size + 1) wq w3 := ((Below.refl _ _).alloc hszq _).grown h2 (by simp; omega) (fun k hk => ((unhide O2q).lt k hk).1)
          have BY := hide ((unhide B2q).trans bZ)
          have BX := hide (b1.trans ((unhide BY).mono (by omega)))
          have e0r := (bZ.cell (p := ⟨w.heap.size, 0, none⟩) (by show w.heap.size < w.heap.size + 1; omega)).trans e0q
          have d0r := (bZ.cell (p := ⟨b, off + p * 2, none⟩) (by show b < w.heap.size + 1; omega)).trans d0q
          clear h1 h2 h3 O3 bZ O2q B2q e0q e1q hl3 d0q
          by_cases hf : found es e.k = true
          · have hfe : (es[p].k.toList == e.k.toList) = true := by rw [unhide FD]; exact hf
            have ST := hide (show putE es e false = (es.take p ++ [e]) ++ es.drop (p + 1) by unfold putE stepE; rw [if_neg (by simp), hp, hf]; simp)
            go_wp2_with fail
            go_quiet (fail)
            obtain ⟨A, hA, hsrc⟩ := drop_src (k := (p + 1)) ((unhide RE).below (unhide BX)) hc
            have HN := hide (show (ecs (es.drop (p + 1))).length = (n - (p + 1)) * 2 by rw [ecs_len, List.length_drop, unhide LE])
            have hsX : w.heap.size + 1 ≤ w3.heap.size := by have := (unhide BY).size; simp at this; omega
            go_wp2_with (at_builtin; refine wpList_append_own _ rfl _ _ 36 rfl (w.heap.size + 1) 41 i0 (.agg #[.string ByteArray.empty, .string ByteArray.empty]) 2 32 Tryz.underlying36 hi0 hz0 hz1 hz2 rfl (by decide) _ _ _ rfl (show (w3.drewN nq).ownsRow (w.heap.size + 1) 41 2 (.slice (some ⟨g3, 0, none⟩) (p + 1) cap3) (p + 1) (ecs (es.take p ++ [e])) from unhide OX) A (n - (p + 1)) (c - (p + 1)) (ecs (es.drop (p + 1))) rfl (unhide HN) (unhide hsrc) (ecs_one _) (by unfold maxLen; omega) (by omega) hsX ?_)
            intro v5 w5 h1 h2 h3
            have O5 : EOwns w5 w.heap.size v5 (putE es e false) := by
              rw [unhide ST]
              refine ownsRow_base2 ?_ (Nat.le_succ _)
              rw [ecs_append, List.length_append, List.length_drop, unhide LE, List.length_append, unhide HTL]
              exact h1
            obtain ⟨g5, cap5, rfl, _⟩ := eowns_some O5 (fun h => by first | exact h3 h | (subst h; simp at h3))
            have O6 := hide O5
            have B6 := hide (b1.trans (((bel_drewN (unhide BY) nq).grown h2 hsX (fun k hk => (World.ownsRow.lt (show (w3.drewN nq).ownsRow (w.heap.size + 1) 41 2 (.slice (some ⟨g3, 0, none⟩) (p + 1) cap3) (p + 1) (ecs (es.take p ++ [e])) from unhide OX) k hk).1)).mono (by omega)))
            clear h1 h2 h3 O5
            go_wp2_with fail
            go_ret
            exact ⟨g5, cap5, rfl, unhide O6, unhide B6⟩
          · have hfe : (es[p].k.toList == e.k.toList) = false := by rw [unhide FD]; simpa using hf
            have hf : found es e.k = false := by simpa using hf
            have ST := hide (show putE es e false = (es.take p ++ [e]) ++ es.drop p by unfold putE stepE; rw [if_neg (by simp), hp, hf]; simp)
            go_wp2_with fail
            go_quiet (fail)
            obtain ⟨A, hA, hsrc⟩ := drop_src (k := p) ((unhide RE).below (unhide BX)) hc
            have HN := hide (show (ecs (es.drop p)).length = (n - p) * 2 by rw [ecs_len, List.length_drop, unhide LE])
            have hsX : w.heap.size + 1 ≤ w3.heap.size := by have := (unhide BY).size; simp at this; omega
            go_wp2_with (at_builtin; refine wpList_append_own _ rfl _ _ 36 rfl (w.heap.size + 1) 41 i0 (.agg #[.string ByteArray.empty, .string ByteArray.empty]) 2 32 Tryz.underlying36 hi0 hz0 hz1 hz2 rfl (by decide) _ _ _ rfl (show (w3.drewN nq).ownsRow (w.heap.size + 1) 41 2 (.slice (some ⟨g3, 0, none⟩) (p + 1) cap3) (p + 1) (ecs (es.take p ++ [e])) from unhide OX) A (n - p) (c - p) (ecs (es.drop p)) rfl (unhide HN) (unhide hsrc) (ecs_one _) (by unfold maxLen; omega) (by omega) hsX ?_)
            intro v5 w5 h1 h2 h3
            have O5 : EOwns w5 w.heap.size v5 (putE es e false) := by
              rw [unhide ST]
              refine ownsRow_base2 ?_ (Nat.le_succ _)
              rw [ecs_append, List.length_append, List.length_drop, unhide LE, List.length_append, unhide HTL]
              exact h1
            obtain ⟨g5, cap5, rfl, _⟩ := eowns_some O5 (fun h => by first | exact h3 h | (subst h; simp at h3))
            have O6 := hide O5
            have B6 := hide (b1.trans (((bel_drewN (unhide BY) nq).grown h2 hsX (fun k hk => (World.ownsRow.lt (show (w3.drewN nq).ownsRow (w.heap.size + 1) 41 2 (.slice (some ⟨g3, 0, none⟩) (p + 1) cap3) (p + 1) (ecs (es.take p ++ [e])) from unhide OX) k hk).1)).mono (by omega)))
            clear h1 h2 h3 O5
            go_wp2_with fail
            go_ret
            exact ⟨g5, cap5, rfl, unhide O6, unhide B6⟩
      · have hjn : n ≤ pos es e.k := by have := unhide LE; have := unhide PL; omega
        have hjm : pos es e.k ≤ n := by have := unhide LE; have := unhide PL; omega
        have FN := hide (show found es e.k = false by unfold found; rw [List.getElem?_eq_none (by have := unhide LE; omega)])
        generalize hp : pos es e.k = p at *
        have hd1 : decide (p < n) = false := decide_eq_false (by omega)
        have hd2 : decide ((p : Int) < (n : Int)) = false := decide_eq_false (by omega)
        go_wp2_with fail
        go_quiet (fail)
        have O2q := hide (show (wr.drewN nq).ownsRow (w.heap.size + 1) 41 2 (.slice (some ⟨g, 0, none⟩) p cap) p (ecs (es.take p)) from unhide O2)
        have B2q := hide (bel_drewN (unhide hB) nq)
        have e0q : (wr.drewN nq).cell? ⟨w.heap.size, 0, none⟩ = some (.string e.k) := e0
        have e1q : (wr.drewN nq).cell? ⟨w.heap.size, 1, none⟩ = some (.string e.v) := e1
        have hszq : w.heap.size + 1 ≤ (wr.drewN nq).heap.size := hsz
        clear O2 hO hB BW e0 e1 hsz
        generalize wr.drewN nq = wq at *
        cases gone with
        | true =>
          have OX := hide (unhide O2q)
          have BY := hide (unhide B2q)
          have BX := hide (b1.trans ((unhide B2q).mono (by omega)))
          clear O2q B2q e1q
          have ST := hide (show putE es e true = (es.take p) by unfold putE stepE; rw [if_neg (by simp), hp, unhide FN, List.drop_of_length_le (by have := unhide LE; simp; omega)]; simp)
          go_wp2_with fail
          go_quiet (fail)
          obtain ⟨A, hA, hsrc⟩ := drop_src (k := p) ((unhide RE).below (unhide BX)) hc
          have hsX : w.heap.size + 1 ≤ wq.heap.size := by have := (unhide BY).size; simp at this; omega
          go_wp2_with (at_builtin; refine wpList_append_own _ rfl _ _ 36 rfl (w.heap.size + 1) 41 i0 (.agg #[.string ByteArray.empty, .string ByteArray.empty]) 2 32 Tryz.underlying36 hi0 hz0 hz1 hz2 rfl (by decide) _ _ _ rfl (show (wq.drewN nq).ownsRow (w.heap.size + 1) 41 2 (.slice (some ⟨g, 0, none⟩) p cap) p (ecs (es.take p)) from unhide OX) A 0 (c - p) [] rfl rfl (fun j u h => by simp at h) (fun u h => by simp at h) (by unfold maxLen; omega) (by omega) hsX ?_)
          intro v5 w5 h1 h2 h3
          have O5 : EOwns w5 w.heap.size v5 (putE es e true) := by
            rw [unhide ST]
            refine ownsRow_base2 ?_ (Nat.le_succ _)
            rw [unhide HTL]
            simpa using h1
          obtain ⟨g5, cap5, rfl, _⟩ := eowns_some O5 (fun h => by first | exact h3 h | (subst h; simp at h3))
          have O6 := hide O5
          have B6 := hide (b1.trans (((bel_drewN (unhide BY) nq).grown h2 hsX (fun k hk => (World.ownsRow.lt (show (wq.drewN nq).ownsRow (w.heap.size + 1) 41 2 (.slice (some ⟨g, 0, none⟩) p cap) p (ecs (es.take p)) from unhide OX) k hk).1)).mono (by omega)))
          clear h1 h2 h3 O5
          go_wp2_with fail
          go_ret
          exact ⟨g5, cap5, rfl, unhide O6, unhide B6⟩
        | false =>
          go_wp2_with (at_builtin; refine wpList_append_own _ rfl _ _ 36 rfl (w.heap.size + 1) 41 i0 (.agg #[.string ByteArray.empty, .string ByteArray.empty]) 2 32 Tryz.underlying36 hi0 hz0 hz1 hz2 rfl (by decide) _ _ _ rfl (World.ownsRow.alloc (unhide O2q) _) ⟨wq.heap.size, 0, none⟩ 1 1 [.string e.k, .string e.v] rfl rfl (cells_new (vs := [.string e.k, .string e.v])) (by intro u hu; simp at hu; rcases hu with rfl | rfl <;> rfl) (by unfold maxLen; omega) (by omega) (by simp; omega) ?_)
          intro v3 w3 h1 h2 h3
          have O3 : EOwns w3 (w.heap.size + 1) v3 (es.take p ++ [e]) := by
            refine eapp ?_
            rw [unhide HTL]
            exact h1
          obtain ⟨g3, cap3, rfl, hg3⟩ := eowns_some O3 (fun h => by subst h; simp at h3)
          have hl3 : (es.take p ++ [e]).length = p + 1 := by rw [List.length_append, unhide HTL]; rfl
          unfold EOwns at O3
          rw [hl3] at O3 ⊢
          have OX := hide O3
          have bZ : Below (w.heap.size + 1) wq w3 := ((Below.refl _ _).alloc hszq _).grown h2 (by simp; omega) (fun k hk => ((unhide O2q).lt k hk).1)
          have BY := hide ((unhide B2q).trans bZ)
          have BX := hide (b1.trans ((unhide BY).mono (by omega)))
          have e0r := (bZ.cell (p := ⟨w.heap.size, 0, none⟩) (by show w.heap.size < w.heap.size + 1; omega)).trans e0q
          clear h1 h2 h3 O3 bZ O2q B2q e0q e1q hl3
          have ST := hide (show putE es e false = (es.take p ++ [e]) by unfold putE stepE; rw [if_neg (by simp), hp, unhide FN, List.drop_of_length_le (by have := unhide LE; simp; omega)]; simp)
          go_wp2_with fail
          go_quiet (fail)
          obtain ⟨A, hA, hsrc⟩ := drop_src (k := p) ((unhide RE).below (unhide BX)) hc
          have hsX : w.heap.size + 1 ≤ w3.heap.size := by have := (unhide BY).size; simp at this; omega
          go_wp2_with (at_builtin; refine wpList_append_own _ rfl _ _ 36 rfl (w.heap.size + 1) 41 i0 (.agg #[.string ByteArray.empty, .string ByteArray.empty]) 2 32 Tryz.underlying36 hi0 hz0 hz1 hz2 rfl (by decide) _ _ _ rfl (show (w3.drewN nq).ownsRow (w.heap.size + 1) 41 2 (.slice (some ⟨g3, 0, none⟩) (p + 1) cap3) (p + 1) (ecs (es.take p ++ [e])) from unhide OX) A 0 (c - p) [] rfl rfl (fun j u h => by simp at h) (fun u h => by simp at h) (by unfold maxLen; omega) (by omega) hsX ?_)
          intro v5 w5 h1 h2 h3
          have O5 : EOwns w5 w.heap.size v5 (putE es e false) := by
            rw [unhide ST]
            refine ownsRow_base2 ?_ (Nat.le_succ _)
            rw [List.length_append, unhide HTL]
            simpa using h1
          obtain ⟨g5, cap5, rfl, _⟩ := eowns_some O5 (fun h => by first | exact h3 h | (subst h; simp at h3))
          have O6 := hide O5
          have B6 := hide (b1.trans (((bel_drewN (unhide BY) nq).grown h2 hsX (fun k hk => (World.ownsRow.lt (show (w3.drewN nq).ownsRow (w.heap.size + 1) 41 2 (.slice (some ⟨g3, 0, none⟩) (p + 1) cap3) (p + 1) (ecs (es.take p ++ [e])) from unhide OX) k hk).1)).mono (by omega)))
          clear h1 h2 h3 O5
          go_wp2_with fail
          go_ret
          exact ⟨g5, cap5, rfl, unhide O6, unhide B6⟩
end Go.Proofs.YtbhkmmdcdfjbkaaGreat

namespace Go.Proofs.YtbhkmmdcdfjbkaaGreat
open Go.RowKit

end Go.Proofs.YtbhkmmdcdfjbkaaGreat

namespace Go.Proofs.YtbhkmmdcdfjbkaaGreat
open Go.RowKit

set_option maxHeartbeats 1000000 in
theorem sameInts_C (a1 a2 : Option Addr) (n c1 c2 : Nat) (d : List Int) (w : World) (hn : n ≤ maxLen) (hd : d.length = n) (h1 : RowC w (.slice a1 n c1) n (d.map (Value.int .i64))) (h2 : RowC w (.slice a2 n c2) n (d.map (Value.int .i64))) :
    Calls Tryz.prog 8 #[.slice a1 n c1, .slice a2 n c2] w fun e w' => e = .returned (.bool true) ∧ Below w.heap.size w w' := by
  unfold maxLen at hn
  have H1 := hide h1
  have H2 := hide h2
  have L := hide hd
  clear h1 h2 hd
  go_enter Tryz.func8, Tryz.ntmps8
  go_wp2_with fail
  go_loopw [5] (fun i wr => ∃ k : Nat, k ≤ n ∧ i = .int .i64 k ∧ ∃ q, wr = w.drewN q) (fun i _ => n - (intOf i).toNat)
  case atStart => exact ⟨0, Nat.zero_le _, rfl, 0, rfl⟩
  case round =>
    obtain ⟨k, hk, rfl, q, rfl⟩ := hrel
    by_cases hlt : k < n
    · have hkd : k < d.length := by rw [unhide L]; exact hlt
      obtain ⟨b1, o1, rfl, e1⟩ := (unhide H1).at (j := k) (u := Value.int .i64 d[k]) (by simp [hkd])
      obtain ⟨b2, o2, rfl, e2⟩ := (unhide H2).at (j := k) (u := Value.int .i64 d[k]) (by simp [hkd])
      generalize d[k] = x at *
      have hb : (x != x) = false := by simp
      go_wp2_with fail
      go_quiet (fail)
      go_wp2_with fail
      go_roundw
      case rel => exact ⟨k + 1, by omega, by go_num, _, rfl⟩
      case measure => simp [intOf]; omega
    · obtain rfl : k = n := by omega
      go_wp2_with fail
      go_ret
      exact ⟨rfl, bel_drewN (Below.refl _ _) _⟩
end Go.Proofs.YtbhkmmdcdfjbkaaGreat

namespace Go.Proofs.YtbhkmmdcdfjbkaaGreat
open Go.RowKit

set_option maxRecDepth 100000 in
set_option maxHeartbeats 4000000 in
theorem implTreeGet_any (ap : Option Addr) (np cp : Nat) (ag : Option Addr) (ng cg : Nat) (ai : Option Addr) (ni ci : Nat) (hs : List PpH) (gs : List Bool) (idx : List RefD) (key : ByteArray) (w : World) (hT : TrIn w ap np cp ag ng cg ai ni hs gs idx) (hci : ai = none → ci = 0) :
    Calls Tryz.prog 14 #[.agg #[.slice ap np cp, .slice ag ng cg, .slice ai ni ci], .string key] w fun e w' => e = .returned (getA (trd hs gs idx) key) ∧ Below w.heap.size w w' := by
  have b0 : ∀ o, Below w.heap.size w (w.alloc o) := fun o => (Below.refl _ _).alloc (Nat.le_refl _) _
  have BW := hide (b0 (.cells #[.slice ap np cp, .slice ag ng cg, .slice ai ni ci] 29))
  have T := hide (hT.below (unhide BW))
  have BT := hide (show ∀ u, Below (w.alloc (.cells #[.slice ap np cp, .slice ag ng cg, .slice ai ni ci] 29)).heap.size (w.alloc (.cells #[.slice ap np cp, .slice ag ng cg, .slice ai ni ci] 29)) u → Below w.heap.size w u from fun u hu => (unhide BW).trans (hu.mono (unhide BW).size))
  have lp := hT.plen
  by_cases hk : 65536 < key.size
  · have E := hide (show Value.tuple #[.string ⟨#[]⟩, .int .i64 0, .int .i64 2] = getA (trd hs gs idx) key by unfold getA; rw [if_pos hk])
    clear hT
    go_enter Tryz.func14, Tryz.ntmps14
    go_wp2_with fail
    go_ret3
    exact ⟨congrArg Ending.returned (unhide E), b0 _⟩
  have GA := hide (show getA (trd hs gs idx) key = if okT (trd hs gs idx) = true ∧ keyK key = true then getR (trd hs gs idx).here idx key else .tuple #[.string ⟨#[]⟩, .int .i64 0, .int .i64 1] by unfold getA; rw [if_neg hk]; rfl)
  clear hT BW
  go_enter Tryz.func14, Tryz.ntmps14
  go_wp2_with fail
  generalize w.alloc (.cells #[.slice ap np cp, .slice ag ng cg, .slice ai ni ci] 29) = W at *
  refine (tableOf_any ap np cp ag ng cg ai ni ci hs gs idx W (unhide T) hci).mono ?_
  rintro e w2 ⟨v, rfl, hb, htab⟩
  have KE := hide (fun u => keyOK_any key u)
  cases hok : okT (trd hs gs idx) with
  | false =>
    have E := hide (show Value.tuple #[.string ⟨#[]⟩, .int .i64 0, .int .i64 1] = getA (trd hs gs idx) key by rw [unhide GA, hok, if_neg (fun h => by cases h.1)])
    clear htab
    go_wp2_with fail
    go_ret3
    exact ⟨congrArg Ending.returned (unhide E), unhide BT _ hb⟩
  | true =>
    obtain ⟨mb, qs, vp, vi, rfl, hown, hqs, hmem⟩ := htab hok
    cases hky : keyK key with
    | false =>
      have E := hide (show Value.tuple #[.string ⟨#[]⟩, .int .i64 0, .int .i64 1] = getA (trd hs gs idx) key by rw [unhide GA, hky, if_neg (fun h => by cases h.2)])
      rw [hky] at KE
      clear hown hqs hmem htab
      go_wp2_with fail
      refine (unhide KE _).mono ?_
      rintro e w3 ⟨rfl, hw3⟩
      subst w3
      go_wp2_with fail
      go_ret3
      exact ⟨congrArg Ending.returned (unhide E), unhide BT _ hb⟩
    | true =>
      have hG : GoodT (trd hs gs idx).here idx := good_of hok
      have hrow : ∀ b x, some (b, x) ∈ qs → ERow w2 x.s0.a x.s0.n x.X.es ∧ DRow w2 x.s1.a x.s1.n x.X.ds := fun b x hx => by
        obtain ⟨j, hj, e⟩ := List.getElem_of_mem (hmem b x hx).1
        have h := PpIn.sub ((unhide T).below hb).pgs hj
        rw [e] at h
        exact ⟨erow_C h.1, drow_C h.2⟩
      obtain ⟨ap2, cp2, ai2, ci2, M⟩ := hown.table hrow
      have G := hide (show GoodT (qsP qs) idx by rw [hqs]; exact hG)
      have HM := hide M
      have HD := hide (down_any mb qs idx ap2 cp2 ai2 ci2 key w2 M (unhide G))
      obtain ⟨p, hdn⟩ := (unhide G).down key
      obtain ⟨v, c, r, hv1, hv2⟩ := lookV_get hdn
      obtain ⟨q, hqe, _, pb, x, hqk, hX⟩ := tb_at hdn.1
      have hqn : q < qs.length := (List.getElem?_eq_some_iff.1 hqk).1
      have hm2 : some (pb, x) ∈ qs := List.mem_of_getElem? hqk
      have hf30 := hdn.2.2.2
      have hokp := (hmem pb x hm2).2
      have E := hide (show Value.tuple #[.string v, .int .i64 (((downT (qsP qs) idx key).2 : Nat) : Int), .int .i64 c] = getA (trd hs gs idx) key by
        rw [unhide GA, if_pos ⟨hok, hky⟩, hv2, hqs])
      have HX := hide (show findA x.X.lo x.X.hi x.X.r x.X.es x.X.ds key = .tuple #[.string v, r, .int .i64 c] by
        unfold findA
        rw [if_neg hk, if_pos ⟨hokp, hky⟩, hX, findV_down hdn.2.1 hdn.2.2.1, hv1])
      have QK := hide hqk
      have HF := hide (fun (u : World) (hu : Below w2.heap.size w2 u) => implFind_any x.X.lo x.X.hi x.X.r x.s0.a x.s0.n x.s0.c x.X.es x.s1.a x.s1.n x.s1.c x.X.ds key u ((hrow pb x hm2).1.below hu) ((hrow pb x hm2).2.below hu))
      rw [unhide HX] at HF
      rw [hqe] at HD
      rw [hky] at KE
      clear hdn hv1 hv2 hX HX GA hqe hown hqs htab M hrow hqk hok hG
      generalize (downT (qsP qs) idx key).2 = hops at *
      go_wp2_with fail
      refine (unhide KE _).mono ?_
      rintro e w3 ⟨rfl, hw3⟩
      subst w3
      go_wp2_with fail
      refine (unhide HD).mono ?_
      rintro e w4 ⟨rfl, hb4⟩
      have bA := hide (unhide BT _ (hb.trans (hb4.mono hb.size)))
      have M4 := (unhide HM).below hb4
      have c0 := (heap_at M4.box 0).1
      obtain ⟨b, off, hap, hc⟩ := M4.row.at (j := q) (u := .pointer (some ⟨pb, 0, none⟩)) (by rw [List.getElem?_map, unhide QK]; rfl)
      subst hap
      have PB := (M4.pgs pb x hm2).1
      have q0 := (heap_at PB 0).1
      have q1 := (heap_at PB 1).1
      have q2 := (heap_at PB 2).1
      have q3 := (heap_at PB 3).1
      have q4 := (heap_at PB 4).1
      have HF4 := hide (unhide HF w4 hb4)
      clear HF HD M4 PB hmem hm2 HM QK hokp hb hb4
      obtain ⟨X, ⟨a0, n0, k0⟩, ⟨a1, n1, k1⟩⟩ := x
      unfold pgv at HF4
      simp only at q0 q1 q2 q3 q4 HF4
      go_wp2_with fail
      refine (unhide HF4).mono ?_
      rintro e w5 ⟨rfl, hb5⟩
      have bB := (unhide bA).trans (hb5.mono (unhide bA).size)
      clear HF4 q0 q1 q2 q3 q4 c0 hc hb5
      go_wp2_with fail
      go_ret3
      exact ⟨congrArg Ending.returned (unhide E), bB⟩
end Go.Proofs.YtbhkmmdcdfjbkaaGreat

namespace Go.Proofs.YtbhkmmdcdfjbkaaGreat
open Go.RowKit

set_option maxHeartbeats 1000000 in
theorem implTreeOK_any (ap : Option Addr) (np cp : Nat) (ag : Option Addr) (ng cg : Nat) (ai : Option Addr) (ni ci : Nat) (hs : List PpH) (gs : List Bool) (idx : List RefD) (w : World) (hT : TrIn w ap np cp ag ng cg ai ni hs gs idx) (hci : ai = none → ci = 0) :
    Calls Tryz.prog 10 #[.agg #[.slice ap np cp, .slice ag ng cg, .slice ai ni ci]] w fun e w' => e = .returned (.bool (okT (trd hs gs idx))) ∧ Below w.heap.size w w' := by
  have b0 : ∀ o, Below w.heap.size w (w.alloc o) := fun o => (Below.refl _ _).alloc (Nat.le_refl _) _
  have C := hide (fun o => tableOf_any ap np cp ag ng cg ai ni ci hs gs idx (w.alloc o) (hT.below (b0 o)) hci)
  clear hT
  go_enter Tryz.func10, Tryz.ntmps10
  go_wp2_with fail
  refine (unhide C _).mono ?_
  rintro e w2 ⟨v, rfl, hb, _⟩
  go_wp2_with fail
  go_ret
  exact ⟨rfl, (b0 _).trans (hb.mono (b0 _).size)⟩
end Go.Proofs.YtbhkmmdcdfjbkaaGreat

namespace Go.Proofs.YtbhkmmdcdfjbkaaGreat
open Go.RowKit

theorem xt_row {w w' : World} {a : Option Addr} {n : Nat} {xs : List Int} (h : Row w a n xs) (hb : Below w.heap.size w w') : Row w' a n xs := by
  refine ⟨h.1, fun i hi => ?_⟩
  obtain ⟨b, off, e, c⟩ := h.2 i hi
  exact ⟨b, off, e, (hb.cell (p := ⟨b, off + i, none⟩) (cell_lt c)).trans c⟩
set_option maxRecDepth 100000 in
set_option maxHeartbeats 16000000 in
theorem fnTrees_law (aa : Option Addr) (na ca : Nat) (zs1 : List Int) (ab : Option Addr) (nb cb : Nat) (zs2 : List Int) (w : World) (h1 : IsRow .u8 w aa na ca zs1) (h2 : IsRow .u8 w ab nb cb zs2) :
    Calls Tryz.prog 3 #[.slice aa na ca, .slice ab nb cb] w fun e w' => e = .returned (.bool true) ∧ Below w.heap.size w w' := by
  obtain ⟨hr1, hm1, _⟩ := row_of_isRow h1
  obtain ⟨hr2, hm2, _⟩ := row_of_isRow h2
  have by1 := hide (bytes_of_isRow h1)
  have by2 := hide (bytes_of_isRow h2)
  clear h1 h2
  unfold maxLen at hm1 hm2
  by_cases hbig : 1048576 < na ∨ 1048576 < nb
  · clear hr1 hr2 by1 by2
    by_cases hb1 : 1048576 < na
    all_goals
      go_enter Tryz.func3, Tryz.ntmps3
      go_wp2_with fail
      go_ret
      exact ⟨rfl, Below.refl _ _⟩
  have hn1 : na ≤ 1048576 := by omega
  have hn2 : nb ≤ 1048576 := by omega
  clear hbig hm1 hm2
  generalize zs1.take na = xs1 at *
  generalize zs2.take nb = xs2 at *
  have R1 := hide hr1
  have R2 := hide hr2
  clear hr1 hr2
  go_enter Tryz.func3, Tryz.ntmps3
  go_wp2_with fail
  refine (treeActsOf_any aa na ca xs1 w (unhide R1) (unhide by1) hn1).mono ?_
  rintro e w1 ⟨ya, yn, yc, acts, rfl, hY, hYl, hb⟩
  have YL := hide hY.1
  have Y := hide hY
  have B := hide hb
  replace R2 := hide (xt_row (unhide R2) hb)
  have hyn : yn ≤ 28 := by rw [← unhide YL]; exact hYl
  clear hY hYl hb R1 by1
  have TR := hide (show Tre (runS acts).ps (runS acts).idx by have h := (runS_tre acts acts.length (Nat.le_refl _)).1; rw [List.take_length] at h; exact h)
  have RC := hide (fun W e W' (h : RtRes acts W e W') => rt_few_con (acts := acts) (by rw [unhide YL]; omega) h)
  have RK := hide (fun k (hk : k < acts.length) => run_code acts hk)
  have RE := hide (fun k (hk : k < acts.length) => run_ents acts hk)
  have EK := hide (fun k (hk : k ≤ acts.length) => tree_few (runS_tre acts k hk).1)
  rw [unhide YL] at RC
  obtain ⟨ps, hps⟩ : ∃ ps, ps = (runS acts).ps := ⟨_, rfl⟩
  obtain ⟨idx, hidx⟩ : ∃ idx, idx = (runS acts).idx := ⟨_, rfl⟩
  obtain ⟨CS, hCS⟩ : ∃ CS, CS = (runS acts).codes := ⟨_, rfl⟩
  rw [← hps, ← hidx] at TR
  rw [← hps, ← hidx, ← hCS] at RC
  rw [← hCS] at RK
  have CL := hide (show CS.length = yn by rw [hCS]; have h := (runS_tre acts acts.length (Nat.le_refl _)).2; rw [List.take_length, unhide YL] at h; exact h)
  obtain ⟨N, hN⟩ : ∃ N, N = ps.length := ⟨_, rfl⟩
  obtain ⟨M, hM⟩ : ∃ M, M = idx.length := ⟨_, rfl⟩
  rw [← hN, ← hM] at RC
  have HPS := hide hps
  have hN30 : N ≤ 30 := by rw [hN]; exact (unhide TR).len.2
  have hM30 : M ≤ 30 := by rw [hM]; exact Nat.le_trans (unhide TR).good.il (unhide TR).len.2
  have HN := hide hN
  have HM := hide hM
  clear hps hidx hCS hN hM
  go_wp2_with fail
  refine (implTreeRun_any ya yn yc acts w1 (unhide Y) (by omega)).mono ?_
  intro e w_t hcon
  obtain ⟨a1_t, c1_t, a2_t, c2_t, a3_t, c3_t, ac_t, cc_t, hs_t, rfl, oo, od, hb⟩ := unhide RC _ _ _ hcon
  clear hcon
  replace Y := hide ((unhide Y).below hb)
  replace R2 := hide (xt_row (unhide R2) hb)
  replace B := hide ((unhide B).trans (hb.mono (unhide B).size))
  clear hb
  have O_t := hide oo
  have D_t := hide od
  clear oo od
  have hb : Below w_t.heap.size w_t (w_t.alloc (.cells #[.slice a1_t N c1_t, .slice a2_t N c2_t, .slice a3_t M c3_t] 29)) := (Below.refl _ _).alloc (Nat.le_refl _) _
  have K_t := hide (heap_alloc_new w_t (.cells #[.slice a1_t N c1_t, .slice a2_t N c2_t, .slice a3_t M c3_t] 29))
  replace Y := hide ((unhide Y).below hb)
  replace R2 := hide (xt_row (unhide R2) hb)
  replace O_t := hide ((unhide O_t).below hb)
  replace D_t := hide (rb_ownsRow_below (unhide D_t) hb)
  replace B := hide ((unhide B).trans (hb.mono (unhide B).size))
  clear hb
  go_upto_region 5 with fail
  generalize w_t.alloc (.cells #[.slice a1_t N c1_t, .slice a2_t N c2_t, .slice a3_t M c3_t] 29) = b_t at *
  generalize w_t.heap.size = z_t at *
  go_wp2_with fail
  refine (specTreeRun_any ya yn yc acts b_t (unhide Y) (by omega)).mono ?_
  intro e w_v hcon
  obtain ⟨a1_v, c1_v, a2_v, c2_v, a3_v, c3_v, ac_v, cc_v, hs_v, rfl, oo, od, hb⟩ := unhide RC _ _ _ hcon
  clear hcon
  replace Y := hide ((unhide Y).below hb)
  replace R2 := hide (xt_row (unhide R2) hb)
  replace O_t := hide ((unhide O_t).below hb)
  replace D_t := hide (rb_ownsRow_below (unhide D_t) hb)
  replace K_t := hide ((hb.block _ (blk_lt (unhide K_t))).trans (unhide K_t))
  replace B := hide ((unhide B).trans (hb.mono (unhide B).size))
  clear hb
  have O_v := hide oo
  have D_v := hide od
  clear oo od
  have hb : Below w_v.heap.size w_v (w_v.alloc (.cells #[.slice a1_v N c1_v, .slice a2_v N c2_v, .slice a3_v M c3_v] 29)) := (Below.refl _ _).alloc (Nat.le_refl _) _
  have K_v := hide (heap_alloc_new w_v (.cells #[.slice a1_v N c1_v, .slice a2_v N c2_v, .slice a3_v M c3_v] 29))
  replace Y := hide ((unhide Y).below hb)
  replace R2 := hide (xt_row (unhide R2) hb)
  replace O_t := hide ((unhide O_t).below hb)
  replace D_t := hide (rb_ownsRow_below (unhide D_t) hb)
  replace K_t := hide ((hb.block _ (blk_lt (unhide K_t))).trans (unhide K_t))
  replace O_v := hide ((unhide O_v).below hb)
  replace D_v := hide (rb_ownsRow_below (unhide D_v) hb)
  replace B := hide ((unhide B).trans (hb.mono (unhide B).size))
  clear hb
  go_upto_region 6 with fail
  generalize w_v.alloc (.cells #[.slice a1_v N c1_v, .slice a2_v N c2_v, .slice a3_v M c3_v] 29) = b_v at *
  generalize w_v.heap.size = z_v at *
  go_wp2_with fail
  refine (sameInts_C ac_t ac_v yn cc_t cc_v CS b_v (by unfold maxLen; omega) (unhide CL) (rowC_of_owns (unhide D_t)) (rowC_of_owns (unhide D_v))).mono ?_
  rintro e e1 ⟨rfl, hb⟩
  replace Y := hide ((unhide Y).below hb)
  replace R2 := hide (xt_row (unhide R2) hb)
  replace O_t := hide ((unhide O_t).below hb)
  replace D_t := hide (rb_ownsRow_below (unhide D_t) hb)
  replace K_t := hide ((hb.block _ (blk_lt (unhide K_t))).trans (unhide K_t))
  replace O_v := hide ((unhide O_v).below hb)
  replace D_v := hide (rb_ownsRow_below (unhide D_v) hb)
  replace K_v := hide ((hb.block _ (blk_lt (unhide K_v))).trans (unhide K_v))
  replace B := hide ((unhide B).trans (hb.mono (unhide B).size))
  clear hb
  have p0_t := (heap_at (unhide K_t) 0).1
  have p1_t := (heap_at (unhide K_t) 1).1
  have p2_t := (heap_at (unhide K_t) 2).1
  have p0_v := (heap_at (unhide K_v) 0).1
  have p1_v := (heap_at (unhide K_v) 1).1
  have p2_v := (heap_at (unhide K_v) 2).1
  go_wp2_with fail
  refine (sameTree_any _ _ N _ _ _ _ _ _ _ _ M _ _ hs_t hs_v (ps.map (·.isNone)) idx e1 (unhide O_t).trIn (unhide O_v).trIn ((unhide O_v).dat.trans (unhide O_t).dat.symm) ⟨by omega, by omega⟩ (fun h hh => by have := (unhide O_t).few (unhide TR) h hh; omega)).mono ?_
  rintro e e2 ⟨rfl, hb⟩
  clear p0_t p1_t p2_t
  clear p0_v p1_v p2_v
  replace Y := hide ((unhide Y).below hb)
  replace R2 := hide (xt_row (unhide R2) hb)
  replace O_t := hide ((unhide O_t).below hb)
  replace D_t := hide (rb_ownsRow_below (unhide D_t) hb)
  replace K_t := hide ((hb.block _ (blk_lt (unhide K_t))).trans (unhide K_t))
  replace O_v := hide ((unhide O_v).below hb)
  replace D_v := hide (rb_ownsRow_below (unhide D_v) hb)
  replace K_v := hide ((hb.block _ (blk_lt (unhide K_v))).trans (unhide K_v))
  replace B := hide ((unhide B).trans (hb.mono (unhide B).size))
  clear hb
  have p0_t := (heap_at (unhide K_t) 0).1
  have p1_t := (heap_at (unhide K_t) 1).1
  have p2_t := (heap_at (unhide K_t) 2).1
  go_wp2_with fail
  refine (implTreeOK_any _ N _ _ N _ _ M _ hs_t (ps.map (·.isNone)) idx e2 (unhide O_t).trIn (own_cap0 (unhide O_t).own.ix)).mono ?_
  rw [tre_okT (unhide TR) (unhide O_t).dat]
  rintro e e3 ⟨rfl, hb⟩
  clear p0_t p1_t p2_t
  replace Y := hide ((unhide Y).below hb)
  replace R2 := hide (xt_row (unhide R2) hb)
  replace O_t := hide ((unhide O_t).below hb)
  replace D_t := hide (rb_ownsRow_below (unhide D_t) hb)
  replace K_t := hide ((hb.block _ (blk_lt (unhide K_t))).trans (unhide K_t))
  replace O_v := hide ((unhide O_v).below hb)
  replace D_v := hide (rb_ownsRow_below (unhide D_v) hb)
  replace K_v := hide ((hb.block _ (blk_lt (unhide K_v))).trans (unhide K_v))
  replace B := hide ((unhide B).trans (hb.mono (unhide B).size))
  clear hb
  go_upto_region 8 with fail
  have hb := (Below.refl e3.heap.size e3).alloc (Nat.le_refl _) (.cells #[] 41)
  have L0 := hide (show EOwns (e3.alloc (.cells #[] 41)) e3.heap.size (.slice (some ⟨e3.heap.size, 0, none⟩) 0 0) (treeE (runS (acts.take 0)).ps) from nil_lit (w := e3) 41 2)
  replace Y := hide ((unhide Y).below hb)
  replace R2 := hide (xt_row (unhide R2) hb)
  replace O_t := hide ((unhide O_t).below hb)
  replace D_t := hide (rb_ownsRow_below (unhide D_t) hb)
  replace K_t := hide ((hb.block _ (blk_lt (unhide K_t))).trans (unhide K_t))
  replace O_v := hide ((unhide O_v).below hb)
  replace D_v := hide (rb_ownsRow_below (unhide D_v) hb)
  replace K_v := hide ((hb.block _ (blk_lt (unhide K_v))).trans (unhide K_v))
  replace B := hide ((unhide B).trans (hb.mono (unhide B).size))
  clear hb
  go_wp2_with fail
  generalize e3.alloc (.cells #[] 41) = f0 at *
  have L0 := hide (show EOwns f0 0 (.slice (some ⟨e3.heap.size, 0, none⟩) 0 0) (treeE (runS (acts.take 0)).ps) from gd_base (unhide L0) (Nat.zero_le _))
  generalize e3.heap.size = g0 at *
  go_loopw [12, 13] (fun lv iv wr => ∃ (k g L cap : Nat), k ≤ yn ∧ lv = .slice (some ⟨g, 0, none⟩) L cap ∧ iv = .int .i64 (k : Int) ∧ L ≤ 960 ∧ Hid (EOwns wr 0 (.slice (some ⟨g, 0, none⟩) L cap) (treeE (runS (acts.take k)).ps)) ∧ Below f0.heap.size f0 wr) (fun _ iv _ => yn - (intOf iv).toNat)
  case atStart => exact ⟨0, g0, 0, 0, Nat.zero_le _, rfl, rfl, by omega, L0, Below.refl _ _⟩
  case round =>
    clear L0
    obtain ⟨k, g, L, cap, hk, rfl, rfl, hL, hE, hb⟩ := hrel
    have LE := hide (show (treeE (runS (acts.take k)).ps).length = L from (erow_of_owns (unhide hE)).1)
    by_cases hlt : k < yn
    · have hka : k < acts.length := by rw [unhide YL]; exact hlt
      obtain ⟨yb, yo, rfl, d0, d1, d2, d3⟩ := ((unhide Y).below hb).2 k hka
      have hkc := unhide RK k hka
      have hke := unhide RE k hka
      have hne := unhide EK (k + 1) (by omega)
      have D := rowC_of_owns (rb_ownsRow_below (unhide D_t) hb)
      generalize acts[k] = ak at *
      obtain ⟨SC, hSC⟩ : ∃ SC, SC = (stepT (runS (acts.take k)).ps (runS (acts.take k)).idx ak).code := ⟨_, rfl⟩
      rw [← hSC] at hkc hke
      obtain ⟨cbk, cof, hcb, y0⟩ := D.at (j := k) (u := .int .i64 SC) (by rw [List.getElem?_map, hkc]; rfl)
      subst hcb
      obtain ⟨akk, aki, aky, akv⟩ := ak
      simp only at d0 d1 d2 d3 hke
      clear hSC hkc D
      have HKE := hide hke
      have HNE := hide hne
      clear hke hne
      by_cases hsc : SC = 0 ∧ akk ≤ 2
      · obtain ⟨hsc0, hsk⟩ := hsc
        have hb1 : (SC == 0) = true := by rw [hsc0]; rfl
        have hb2 : decide (akk ≤ 2) = true := decide_eq_true hsk
        have KE := hide (show treeE (runS (acts.take (k + 1))).ps = putE (treeE (runS (acts.take k)).ps) ⟨aky, akv⟩ (akk == 2) by rw [unhide HKE, if_pos ⟨hsc0, hsk⟩])
        have hcap : L ≤ cap := by
          rcases (unhide hE).2 with ⟨e, _⟩ | ⟨_, cp, _, e, _, _, hc, _⟩
          · cases e
          · injection e with _ _ e2
            have := unhide LE
            omega
        have HP := hide (fun (u : World) (hu : Below wr.heap.size wr u) => lawPut_any g 0 L cap (treeE (runS (acts.take k)).ps) ⟨aky, akv⟩ (akk == 2) u ((erow_of_owns (unhide hE)).below hu) (by omega) hcap)
        rw [← unhide KE] at HP
        simp only at HP
        obtain ⟨gone, hgone⟩ : ∃ gone, gone = (akk == 2) := ⟨_, rfl⟩
        rw [← hgone] at HP
        have SK := hide (show ∀ u, Below wr.heap.size wr u → (u.cell? ⟨yb, yo + k * 4, none⟩ = some (.int .i64 akk) ∧ u.cell? ⟨yb, yo + k * 4 + 2, none⟩ = some (.string aky) ∧ u.cell? ⟨yb, yo + k * 4 + 3, none⟩ = some (.string akv)) from fun u hu => ⟨(hu.cell (p := ⟨yb, yo + k * 4, none⟩) (cell_lt d0)).trans d0, (hu.cell (p := ⟨yb, yo + k * 4 + 2, none⟩) (cell_lt d2)).trans d2, (hu.cell (p := ⟨yb, yo + k * 4 + 3, none⟩) (cell_lt d3)).trans d3⟩)
        obtain ⟨L2, hL2⟩ : ∃ L2, L2 = (treeE (runS (acts.take (k + 1))).ps).length := ⟨_, rfl⟩
        rw [← hL2] at HP
        have hL2b : L2 ≤ 960 := by rw [hL2]; exact unhide HNE
        have hkl : (k : Int) < (yn : Int) := by omega
        clear KE hL2 HKE HNE hsc0 hsk
        go_upto_region 13 with fail
        clear d0 d1 d2 d3 y0
        have HG := hide hgone
        clear hgone
        refine wp_region_held_drew (S := (fun u => (u.cell? ⟨yb, yo + k * 4, none⟩ = some (.int .i64 akk) ∧ u.cell? ⟨yb, yo + k * 4 + 2, none⟩ = some (.string aky) ∧ u.cell? ⟨yb, yo + k * 4 + 3, none⟩ = some (.string akv)))) (by kernel_rfl) (unhide SK _ ((Below.refl _ _).drew)) (fun hHeld => ?_)
        have Ds := hide (show Below wr.heap.size wr wr.drew from (Below.refl _ _).drew)
        generalize wr.drew = us at *
        refine anyH_take 0 86 (v := ?v1) rfl rfl (by kernel_rfl) (by kernel_rfl) (by kernel_rfl) (fun _ _ _ h => h) (by rfl) ?h1 hHeld ?r1
        case h1 => (intro w hSw; (try dsimp only at hSw); go_simp; try (with_reducible rfl))
        simp only [Act.put, List.setIfInBounds_toArray, List.set_cons_zero, List.set_cons_succ]
        refine anyH_take 1 87 (v := ?v2) rfl rfl (by kernel_rfl) (by kernel_rfl) (by kernel_rfl) (fun _ _ _ h => h) (by rfl) ?h2 hHeld ?r2
        case h2 => (intro w hSw; (try dsimp only at hSw); go_simp; try (with_reducible rfl))
        simp only [Act.put, List.setIfInBounds_toArray, List.set_cons_zero, List.set_cons_succ]
        refine anyH_take 2 88 (v := ?v3) rfl rfl (by kernel_rfl) (by kernel_rfl) (by kernel_rfl) (fun _ _ _ h => h) (by rfl) ?h3 hHeld ?r3
        case h3 => (intro w hSw; (try dsimp only at hSw); go_simp; try (with_reducible rfl))
        simp only [Act.put, List.setIfInBounds_toArray, List.set_cons_zero, List.set_cons_succ]
        refine anyH_take 3 89 (v := ?v4) rfl rfl (by kernel_rfl) (by kernel_rfl) (by kernel_rfl) (fun _ _ _ h => h) (by rfl) ?h4 hHeld ?r4
        case h4 => (intro w hSw; (try dsimp only at hSw); go_simp; try (with_reducible rfl))
        simp only [Act.put, List.setIfInBounds_toArray, List.set_cons_zero, List.set_cons_succ]
        refine anyH_take 4 90 (v := ?v5) rfl rfl (by kernel_rfl) (by kernel_rfl) (by kernel_rfl) (fun _ _ _ h => h) (by rfl) ?h5 hHeld ?r5
        case h5 => (intro w hSw; (try dsimp only at hSw); go_simp; try (with_reducible rfl))
        simp only [Act.put, List.setIfInBounds_toArray, List.set_cons_zero, List.set_cons_succ]
        refine anyH_take 5 91 (v := ?v6) rfl rfl (by kernel_rfl) (by kernel_rfl) (by kernel_rfl) (fun _ _ _ h => h) (by rfl) ?h6 hHeld ?r6
        case h6 => (intro w hSw; (try dsimp only at hSw); go_simp; try (with_reducible rfl))
        simp only [Act.put, List.setIfInBounds_toArray, List.set_cons_zero, List.set_cons_succ]
        refine anyH_take 6 92 (v := ?v7) rfl rfl (by kernel_rfl) (by kernel_rfl) (by kernel_rfl) (fun _ _ _ h => h) (by rfl) ?h7 hHeld ?r7
        case h7 => (intro w hSw; (try dsimp only at hSw); go_simp; try (with_reducible rfl))
        simp only [Act.put, List.setIfInBounds_toArray, List.set_cons_zero, List.set_cons_succ]
        refine anyH_take 7 93 (v := ?v8) rfl rfl (by kernel_rfl) (by kernel_rfl) (by kernel_rfl) (fun _ _ _ h => h) (by rfl) ?h8 hHeld ?r8
        case h8 => (intro w hSw; (try dsimp only at hSw); go_simp; try (with_reducible rfl))
        simp only [Act.put, List.setIfInBounds_toArray, List.set_cons_zero, List.set_cons_succ]
        refine anyH_take 8 94 (v := ?v9) rfl rfl (by kernel_rfl) (by kernel_rfl) (by kernel_rfl) (fun _ _ _ h => h) (by rfl) ?h9 hHeld ?r9
        case h9 => (intro w hSw; (try dsimp only at hSw); go_simp; try (with_reducible rfl))
        simp only [Act.put, List.setIfInBounds_toArray, List.set_cons_zero, List.set_cons_succ]
        refine anyH_take 9 95 (v := ?v10) rfl rfl (by kernel_rfl) (by kernel_rfl) (by kernel_rfl) (fun _ _ _ h => h) (by rfl) ?h10 hHeld ?r10
        case h10 => (intro w hSw; (try dsimp only at hSw); go_simp; try (with_reducible rfl))
        simp only [Act.put, List.setIfInBounds_toArray, List.set_cons_zero, List.set_cons_succ]
        refine anyH_take 10 96 (v := ?v11) rfl rfl (by kernel_rfl) (by kernel_rfl) (by kernel_rfl) (fun _ _ _ h => h) (by rfl) ?h11 hHeld ?r11
        case h11 => (intro w hSw; (try dsimp only at hSw); go_simp; try (with_reducible rfl))
        simp only [Act.put, List.setIfInBounds_toArray, List.set_cons_zero, List.set_cons_succ]
        refine anyH_take 11 97 (v := ?v12) rfl rfl (by kernel_rfl) (by kernel_rfl) (by kernel_rfl) (fun _ _ _ h => h) (by rfl) ?h12 hHeld ?r12
        case h12 => (intro w hSw; (try dsimp only at hSw); go_simp; try (with_reducible rfl))
        simp only [Act.put, List.setIfInBounds_toArray, List.set_cons_zero, List.set_cons_succ]
        refine anyH_take 12 98 (v := ?v13) rfl rfl (by kernel_rfl) (by kernel_rfl) (by kernel_rfl) (fun _ _ _ h => h) (by rfl) ?h13 hHeld ?r13
        case h13 => (intro w hSw; (try dsimp only at hSw); go_simp; try (with_reducible rfl))
        simp only [Act.put, List.setIfInBounds_toArray, List.set_cons_zero, List.set_cons_succ]
        refine anyH_take 13 99 (v := ?v14) rfl rfl (by kernel_rfl) (by kernel_rfl) (by kernel_rfl) (fun _ _ _ h => h) (by rfl) ?h14 hHeld ?r14
        case h14 => (intro w hSw; (try dsimp only at hSw); go_simp; try (with_reducible rfl))
        simp only [Act.put, List.setIfInBounds_toArray, List.set_cons_zero, List.set_cons_succ]
        refine anyH_take 14 100 (v := ?v15) rfl rfl (by kernel_rfl) (by kernel_rfl) (by kernel_rfl) (fun _ _ _ h => h) (by rfl) ?h15 hHeld ?r15
        case h15 => (intro w hSw; (try dsimp only at hSw); go_simp; try (with_reducible rfl))
        simp only [Act.put, List.setIfInBounds_toArray, List.set_cons_zero, List.set_cons_succ]
        refine anyH_take 15 101 (v := ?v16) rfl rfl (by kernel_rfl) (by kernel_rfl) (by kernel_rfl) (fun _ _ _ h => h) (by rfl) ?h16 hHeld ?r16
        case h16 => (intro w hSw; (try dsimp only at hSw); go_simp; try (with_reducible rfl))
        simp only [Act.put, List.setIfInBounds_toArray, List.set_cons_zero, List.set_cons_succ]
        refine anyH_take 16 102 (v := ?v17) rfl rfl (by kernel_rfl) (by kernel_rfl) (by kernel_rfl) (fun _ _ _ h => h) (by rfl) ?h17 hHeld ?r17
        case h17 => (intro w hSw; (try dsimp only at hSw); go_simp; try (with_reducible rfl))
        simp only [Act.put, List.setIfInBounds_toArray, List.set_cons_zero, List.set_cons_succ]
        refine anyH_take 17 103 (v := ?v18) rfl rfl (by kernel_rfl) (by kernel_rfl) (by kernel_rfl) (fun _ _ _ h => h) (by rfl) ?h18 hHeld ?r18
        case h18 => (intro w hSw; (try dsimp only at hSw); go_simp; try (with_reducible rfl))
        simp only [Act.put, List.setIfInBounds_toArray, List.set_cons_zero, List.set_cons_succ]
        refine wpAnyH_ready (rs := [18]) (by kernel_rfl) (by simp) ?_
        refine AllReadyH.cons rfl (fun K hK => ?_) AllReadyH.nil
        rw [← unhide HG]
        go_simp
        refine (unhide HP us (unhide Ds)).mono ?_
        rintro e u7 ⟨g7, c7, rfl, o7, hb7⟩
        have D7 := hide ((unhide Ds).trans (hb7.mono (unhide Ds).size))
        have O7 := hide (gd_base o7 (Nat.zero_le _))
        clear hb7 o7
        refine hK.out _ _ (unhide SK _ (unhide D7)) (fun hHeld => ?_)
        clear hK K
        refine anyH_take 19 12 (v := ?v19) rfl rfl (by kernel_rfl) (by kernel_rfl) (by kernel_rfl) (fun _ _ _ h => h) (by rfl) ?h19 hHeld ?r19
        case h19 => (intro w hSw; (try dsimp only at hSw); go_simp; try (with_reducible rfl))
        simp only [Act.put, List.setIfInBounds_toArray, List.set_cons_zero, List.set_cons_succ]
        refine wpAnyH_done (by kernel_rfl) ?_ _
        have bF := hb.trans ((unhide D7).mono hb.size)
        go_wp2_with fail
        go_roundw
        case rel => exact ⟨k + 1, g7, L2, c7, by omega, rfl, by go_num, hL2b, O7, bF⟩
        case measure => simp [intOf]; omega
      · have NE := hide (show treeE (runS (acts.take (k + 1))).ps = treeE (runS (acts.take k)).ps by rw [unhide HKE, if_neg hsc])
        have E2 := hide (show EOwns wr 0 (.slice (some ⟨g, 0, none⟩) L cap) (treeE (runS (acts.take (k + 1))).ps) by rw [unhide NE]; exact unhide hE)
        clear hE NE HKE HNE
        by_cases hs0 : SC = 0
        · have hb1 : (SC == 0) = true := by rw [hs0]; rfl
          have hsk : ¬ akk ≤ 2 := fun h => hsc ⟨hs0, h⟩
          have hb2 : decide (akk ≤ 2) = false := decide_eq_false hsk
          clear hs0
          go_wp2_with fail
          go_roundw
          case rel => exact ⟨k + 1, g, L, cap, by omega, rfl, by go_num, hL, E2, hb⟩
          case measure => simp [intOf]; omega
        · have hb1 : (SC == 0) = false := by rw [beq_eq_false_iff_ne]; exact hs0
          go_wp2_with fail
          go_roundw
          case rel => exact ⟨k + 1, g, L, cap, by omega, rfl, by go_num, hL, E2, hb⟩
          case measure => simp [intOf]; omega
    · obtain rfl : k = yn := by omega
      have ht : acts.take k = acts := List.take_of_length_le (by rw [unhide YL]; exact Nat.le_refl _)
      rw [ht, ← unhide HPS] at hE LE
      clear ht RK RE EK
      have B4 := hide ((unhide B).trans (hb.mono (unhide B).size))
      have O4 := hide ((unhide O_t).below hb)
      have K4 := hide ((hb.block z_t (blk_lt (unhide K_t))).trans (unhide K_t))
      have R4 := hide (xt_row (unhide R2) hb)
      have capi := own_cap0 (unhide O_t).own.ix
      have DAT := hide (unhide O_t).dat
      have FEWS := hide (show (treeE ps).length ≤ 960 from tree_few (unhide TR))
      clear O_t O_v D_t D_v K_t K_v R2 B Y hb RC
      have p0 := (heap_at (unhide K4) 0).1
      have p1 := (heap_at (unhide K4) 1).1
      have p2 := (heap_at (unhide K4) 2).1
      go_wp2_with fail
      refine (implTreeScan_any _ N _ _ N _ _ M _ hs_t (ps.map (·.isNone)) idx ⟨#[]⟩ ⟨#[]⟩ wr (unhide O4).trIn capi).mono ?_
      intro e s1 hres
      obtain ⟨E1, E2⟩ := scan_tre (unhide TR) (unhide DAT) (fr := ⟨#[]⟩) (tu := ⟨#[]⟩) (by decide) (by decide)
      unfold SnRes at hres
      rw [E1, E2, range_all] at hres
      obtain ⟨sa, sn, sc, rfl, oS, hb5⟩ := hres
      obtain rfl : sn = L := by
        have h := (erow_of_owns oS).1
        have := unhide LE
        omega
      have S5 := hide oS
      have E5 := hide (rb_ownsRow_below (unhide hE) hb5)
      have B5 := hide ((unhide B4).trans (hb5.mono (unhide B4).size))
      have O5 := hide ((unhide O4).below hb5)
      have K5 := hide ((hb5.block z_t (blk_lt (unhide K4))).trans (unhide K4))
      have R5 := hide (xt_row (unhide R4) hb5)
      clear oS hb5 hE B4 O4 K4 R4 E1 E2 p0 p1 p2
      go_wp2_with fail
      refine (treeKeyOf_any ab nb cb xs2 s1 (unhide R5) (unhide by2) hn2).mono ?_
      rintro e s2 ⟨key, rfl, hkey, hb6⟩
      have S6 := hide (rb_ownsRow_below (unhide S5) hb6)
      have E6 := hide (rb_ownsRow_below (unhide E5) hb6)
      have B6 := hide ((unhide B5).trans (hb6.mono (unhide B5).size))
      have O6 := hide ((unhide O5).below hb6)
      have K6 := hide ((hb6.block z_t (blk_lt (unhide K5))).trans (unhide K5))
      have hks : key.size ≤ 40 := by unfold keyK at hkey; simp at hkey; exact hkey.2
      have HKY := hide hkey
      clear hb6 S5 E5 B5 O5 K5 R5 by2 hkey
      have p0 := (heap_at (unhide K6) 0).1
      have p1 := (heap_at (unhide K6) 1).1
      have p2 := (heap_at (unhide K6) 2).1
      go_wp2_with fail
      refine (implTreeGet_any _ N _ _ N _ _ M _ hs_t (ps.map (·.isNone)) idx key s2 (unhide O6).trIn capi).mono ?_
      rw [getA_tre (unhide TR) (unhide DAT) (unhide HKY)]
      rintro e s3 ⟨rfl, hb7⟩
      have S7 := hide (rb_ownsRow_below (unhide S6) hb7)
      have E7 := hide (rb_ownsRow_below (unhide E6) hb7)
      have B7 := hide ((unhide B6).trans (hb7.mono (unhide B6).size))
      have O7 := hide ((unhide O6).below hb7)
      have K7 := hide ((hb7.block z_t (blk_lt (unhide K6))).trans (unhide K6))
      clear hb7 S6 E6 B6 O6 K6 p0 p1 p2
      generalize (downT ps idx key).2 = hops at *
      have HVA := hide (lawValue_any (some ⟨g, 0, none⟩) sn cap (treeE ps) key s3 (erow_of_owns (unhide E7)) (by omega))
      unfold valA at HVA
      unfold getL
      obtain ⟨lk, hlk⟩ : ∃ lk, lk = lookE (treeE ps) key := ⟨_, rfl⟩
      rw [← hlk] at HVA ⊢
      have SC2 := hide (fun (u : World) (Bq : Nat) (hu : TsOwn u Bq a1_t c1_t a2_t c2_t a3_t c3_t N M hs_t ps idx) => implTreeScan_any _ N _ _ N _ _ M _ hs_t (ps.map (·.isNone)) idx ⟨#[99]⟩ key u hu.trIn capi)
      obtain ⟨Q1, Q2⟩ := scan_tre (unhide TR) (unhide DAT) (fr := ⟨#[99]⟩) (tu := key) (by decide) (by omega)
      unfold SnRes at SC2
      rw [Q1, Q2] at SC2
      have RIN := hide (show ∀ i (hi : i < (rangeE ps ⟨#[99]⟩ key).length), ltK (rangeE ps ⟨#[99]⟩ key)[i].k ⟨#[99]⟩ = false ∧ ltK (rangeE ps ⟨#[99]⟩ key)[i].k key = true from fun i hi => by
        have hm := List.getElem_mem hi
        have hf := (List.mem_filter.1 hm).2
        rw [inK_parts, Bool.and_eq_true] at hf
        exact ⟨by simpa using hf.1, under_lt hf.2 (isE_key (unhide HKY))⟩)
      have RL := hide (rangeE_len (a := ⟨#[99]⟩) (b := key) (unhide FEWS))
      generalize rangeE ps ⟨#[99]⟩ key = RG at *
      clear hlk Q1 Q2
      cases lk with
      | none =>
        simp only at HVA ⊢
        go_wp2_with fail
        refine (unhide HVA).mono ?_
        rintro e s4 ⟨rfl, hb8⟩
        have S8 := hide (rb_ownsRow_below (unhide S7) hb8)
        have E8 := hide (rb_ownsRow_below (unhide E7) hb8)
        have B8 := hide ((unhide B7).trans (hb8.mono (unhide B7).size))
        have O8 := hide ((unhide O7).below hb8)
        have K8 := hide ((hb8.block z_t (blk_lt (unhide K7))).trans (unhide K7))
        clear hb8 S7 E7 B7 O7 K7 HVA
        go_wp2_with fail
        refine (sameEntries_any sa (some ⟨g, 0, none⟩) sn sc cap (treeE ps) s4 (erow_of_owns (unhide S8)) (erow_of_owns (unhide E8)) (by omega)).mono ?_
        rintro e s5 ⟨rfl, hb9⟩
        have B9 := hide ((unhide B8).trans (hb9.mono (unhide B8).size))
        have O9 := hide ((unhide O8).below hb9)
        have K9 := hide ((hb9.block z_t (blk_lt (unhide K8))).trans (unhide K8))
        clear hb9 S8 E8 B8 O8 K8
        have p0 := (heap_at (unhide K9) 0).1
        have p1 := (heap_at (unhide K9) 1).1
        have p2 := (heap_at (unhide K9) 2).1
        go_wp2_with fail
        refine (unhide SC2 s5 _ (unhide O9)).mono ?_
        rintro e s6 ⟨ra, rn, rc, rfl, oR, hb10⟩
        have RR := hide (erow_of_owns oR)
        have hrn : RG.length = rn := (erow_of_owns oR).1
        have HRN := hide hrn
        have hrl : rn ≤ 960 := by rw [← hrn]; exact unhide RL
        have B10 := hide ((unhide B9).trans (hb10.mono (unhide B9).size))
        clear hb10 oR B9 O9 K9 p0 p1 p2 hrn SC2
        go_wp2_with fail
        go_loopw [24] (fun iv wz => ∃ k : Nat, k ≤ rn ∧ iv = .int .i64 (k : Int) ∧ Below s6.heap.size s6 wz) (fun iv _ => rn - (intOf iv).toNat)
        case atStart => exact ⟨0, Nat.zero_le _, rfl, Below.refl _ _⟩
        case round =>
          obtain ⟨k3, hk3, rfl, hbz⟩ := hrel
          by_cases hlt3 : k3 < rn
          · have hkr : k3 < RG.length := by rw [unhide HRN]; exact hlt3
            obtain ⟨rb, ro, rfl, c0, c1⟩ := ((unhide RR).below hbz).2 k3 hkr
            obtain ⟨l1, l2⟩ := unhide RIN k3 hkr
            generalize RG[k3] = em at *
            unfold ltK at l1 l2
            have l3 : Op.bytesLess em.k.toList [99] = false := by
              have e : (⟨#[99]⟩ : ByteArray).toList = [99] := by rw [ByteArray.toList_eq]
              rw [← e]
              exact l1
            clear hkr
            go_wp2_with fail
            go_roundw
            case rel => exact ⟨k3 + 1, by omega, by go_num, by first | exact hbz | exact bel_drewN hbz _⟩
            case measure => simp [intOf]; omega
          · obtain rfl : k3 = rn := by omega
            go_wp2_with fail
            go_ret
            exact ⟨rfl, (unhide B10).trans (hbz.mono (unhide B10).size)⟩
      | some v =>
        simp only at HVA ⊢
        go_wp2_with fail
        refine (unhide HVA).mono ?_
        rintro e s4 ⟨rfl, hb8⟩
        have S8 := hide (rb_ownsRow_below (unhide S7) hb8)
        have E8 := hide (rb_ownsRow_below (unhide E7) hb8)
        have B8 := hide ((unhide B7).trans (hb8.mono (unhide B7).size))
        have O8 := hide ((unhide O7).below hb8)
        have K8 := hide ((hb8.block z_t (blk_lt (unhide K7))).trans (unhide K7))
        clear hb8 S7 E7 B7 O7 K7 HVA
        go_wp2_with fail
        refine (sameEntries_any sa (some ⟨g, 0, none⟩) sn sc cap (treeE ps) s4 (erow_of_owns (unhide S8)) (erow_of_owns (unhide E8)) (by omega)).mono ?_
        rintro e s5 ⟨rfl, hb9⟩
        have B9 := hide ((unhide B8).trans (hb9.mono (unhide B8).size))
        have O9 := hide ((unhide O8).below hb9)
        have K9 := hide ((hb9.block z_t (blk_lt (unhide K8))).trans (unhide K8))
        clear hb9 S8 E8 B8 O8 K8
        have p0 := (heap_at (unhide K9) 0).1
        have p1 := (heap_at (unhide K9) 1).1
        have p2 := (heap_at (unhide K9) 2).1
        go_wp2_with fail
        refine (unhide SC2 s5 _ (unhide O9)).mono ?_
        rintro e s6 ⟨ra, rn, rc, rfl, oR, hb10⟩
        have RR := hide (erow_of_owns oR)
        have hrn : RG.length = rn := (erow_of_owns oR).1
        have HRN := hide hrn
        have hrl : rn ≤ 960 := by rw [← hrn]; exact unhide RL
        have B10 := hide ((unhide B9).trans (hb10.mono (unhide B9).size))
        clear hb10 oR B9 O9 K9 p0 p1 p2 hrn SC2
        go_wp2_with fail
        go_loopw [24] (fun iv wz => ∃ k : Nat, k ≤ rn ∧ iv = .int .i64 (k : Int) ∧ Below s6.heap.size s6 wz) (fun iv _ => rn - (intOf iv).toNat)
        case atStart => exact ⟨0, Nat.zero_le _, rfl, Below.refl _ _⟩
        case round =>
          obtain ⟨k3, hk3, rfl, hbz⟩ := hrel
          by_cases hlt3 : k3 < rn
          · have hkr : k3 < RG.length := by rw [unhide HRN]; exact hlt3
            obtain ⟨rb, ro, rfl, c0, c1⟩ := ((unhide RR).below hbz).2 k3 hkr
            obtain ⟨l1, l2⟩ := unhide RIN k3 hkr
            generalize RG[k3] = em at *
            unfold ltK at l1 l2
            have l3 : Op.bytesLess em.k.toList [99] = false := by
              have e : (⟨#[99]⟩ : ByteArray).toList = [99] := by rw [ByteArray.toList_eq]
              rw [← e]
              exact l1
            clear hkr
            go_wp2_with fail
            go_roundw
            case rel => exact ⟨k3 + 1, by omega, by go_num, by first | exact hbz | exact bel_drewN hbz _⟩
            case measure => simp [intOf]; omega
          · obtain rfl : k3 = rn := by omega
            go_wp2_with fail
            go_ret
            exact ⟨rfl, (unhide B10).trans (hbz.mono (unhide B10).size)⟩
end Go.Proofs.YtbhkmmdcdfjbkaaGreat

namespace Go.Proofs.YtbhkmmdcdfjbkaaGreat.fnTreesFrame
open Go.ChangeShapes Go.WideShapes Go.ChangeAt Go.RowKit
open Go.ChangeMaps (open_string shut_string)
set_option linter.unusedVariables false

theorem own : ownKnob Tryz.prog.godebug = none := by kernel_rfl
theorem laidOut : laidOutB Tryz.prog = true := by kernel_rfl

set_option maxRecDepth 100000 in
theorem lifted (os : Os) (started : os.Started) (H : Type) (enc : TypeId × Value → H) :
    ReturnsInHanded {} Tryz.checked os 3 .any (Rows.fnTreesSpec.pre6 enc Tryz.prog Tryz.f3 Rows.fnTreesRow.domain false) (Rows.fnTreesSpec.post enc Tryz.prog Tryz.f3 false true false false) := by
  refine returnsInHanded_of_change (C := Tryz.checked) own started (by kernel_rfl) Tryz.func3
    (ChangeSpec.witness6 (enc := enc) (C := Tryz.checked) false ⟨#[], #[.slice none 0 0, .slice none 0 0], []⟩ 8 (by kernel_rfl) (by kernel_rfl) (by kernel_rfl) (by kernel_rfl)) ?_
  intro W base args ds gs before hval0 hW _ _
  have hval : ∀ (j : Nat) t v, Tryz.f3.params[j]? = some t → args[j]? = some v → Value.okWide Tryz.prog W .any base t v := hval0
  have hW' := hW
  obtain ⟨p, q, hA0, hV, rfl, _, _⟩ := hW
  have hA : DataW.TrodAll enc Tryz.prog W 0 (fun _ => true) true Tryz.f3.params.toList args.toList ds p := hA0
  rw [Tryz.params3] at hA hval
  obtain ⟨v0, vs0, d0, ds0, p0, q0, hargs, rfl, rfl, h0, r0⟩ := trodAll_cons hA
  obtain ⟨v1, vs1, d1, ds1, p1, q1, rfl, rfl, rfl, h1, r1⟩ := trodAll_cons r0
  obtain ⟨rfl, rfl, rfl⟩ := trodAll_nil r1
  obtain rfl : args = #[v0, v1] := by cases args; simp_all
  obtain ⟨rfl, rfl⟩ := trodVars_none hV
  have k0 := h0
  have lt0 : ∀ x ∈ p0, x.block < W.heap.size := by obtain ⟨m, hm⟩ := k0; exact DataW.trod_lt m _ _ _ hm
  have k1 := h1
  have lt1 : ∀ x ∈ p1, x.block < W.heap.size := by obtain ⟨m, hm⟩ := k1; exact DataW.trod_lt m _ _ _ hm
  obtain ⟨a0, len0, cap0, rfl⟩ := okWide_slice Tryz.underlying22 (hval 0 22 v0 rfl rfl)
  obtain ⟨z0, w0⟩ : ∃ zs, IsRow .u8 W a0 len0 cap0 zs := by
    obtain ⟨fuel, hf⟩ := h0
    rcases open_ints Tryz.underlying22 Tryz.underlying5 (by kernel_rfl) hf with ⟨hcs, _⟩ | ⟨x, l, c, zs, hcs, _, hl, hm, hz, _, hcell, hwz⟩
    · simp [Value.cells] at hcs
      obtain ⟨rfl, rfl, rfl⟩ := hcs
      exact ⟨[], .inl ⟨rfl, rfl, rfl, rfl⟩⟩
    · simp [Value.cells] at hcs
      obtain ⟨rfl, rfl, rfl⟩ := hcs
      exact ⟨zs, .inr ⟨_, rfl, hl, hm, by simpa using hz, hcell, hwz⟩⟩
  obtain ⟨a1, len1, cap1, rfl⟩ := okWide_slice Tryz.underlying22 (hval 1 22 v1 rfl rfl)
  obtain ⟨z1, w1⟩ : ∃ zs, IsRow .u8 W a1 len1 cap1 zs := by
    obtain ⟨fuel, hf⟩ := h1
    rcases open_ints Tryz.underlying22 Tryz.underlying5 (by kernel_rfl) hf with ⟨hcs, _⟩ | ⟨x, l, c, zs, hcs, _, hl, hm, hz, _, hcell, hwz⟩
    · simp [Value.cells] at hcs
      obtain ⟨rfl, rfl, rfl⟩ := hcs
      exact ⟨[], .inl ⟨rfl, rfl, rfl, rfl⟩⟩
    · simp [Value.cells] at hcs
      obtain ⟨rfl, rfl, rfl⟩ := hcs
      exact ⟨zs, .inr ⟨_, rfl, hl, hm, by simpa using hz, hcell, hwz⟩⟩
  clear hA0 hval0
  refine (fnTrees_law a0 len0 cap0 z0 a1 len1 cap1 z1 W w0 w1).mono fun e W' ⟨he, bel⟩ => ?_
  subst he
  exact ⟨_, rfl, _, _, _, [], _, [], hW', trodAll_mk1 (shut_bool Tryz.underlying4 _), (trodAll_cons_mk (Below.trod laidOut (by kernel_rfl) (of_decide_eq_true (by kernel_rfl)) k0 bel lt0) (trodAll_cons_mk (Below.trod laidOut (by kernel_rfl) (of_decide_eq_true (by kernel_rfl)) k1 bel lt1) trodAll_mk0)), rfl, bel.frame _, fun h => by cases h⟩

theorem over : Rows.fnTreesRow.holds Tryz.pinned (OpenSpec.ofChange Rows.fnTreesSpec) :=
  OpenClaim.holds_of_wide 3 Tryz.f3 rfl rfl rfl rfl rfl rfl rfl ⟨rfl, rfl, rfl, rfl, rfl⟩ rfl rfl rfl rfl rfl (by kernel_rfl) Tryz.func3 (by kernel_rfl)
    (of_decide_eq_true (by kernel_rfl)) (by unfold Func.isWrapper; first | (rw [if_pos (by decide +kernel)]; kernel_rfl) | (rw [if_neg (by decide +kernel)]; exact ⟨rfl, rfl⟩))
    (fun os started H enc _ => lifted os started H enc)

end Go.Proofs.YtbhkmmdcdfjbkaaGreat.fnTreesFrame
namespace Go.Proofs.YtbhkmmdcdfjbkaaGreat
/-- THE STATEMENT. -/
theorem fnTrees_proved : Rows.FnTreesSaid := fnTreesFrame.over
#print axioms fnTrees_proved
end Go.Proofs.YtbhkmmdcdfjbkaaGreat
