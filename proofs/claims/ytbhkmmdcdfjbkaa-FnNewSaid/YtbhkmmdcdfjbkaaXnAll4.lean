/-
  UsA, UsG0, UsM, UsB, XtA, TsS, XtB, Src, SrcN in one.
-/
import Derived.Test.YtbhkmmdcdfjbkaaXnAll3
import Derived.Test.YtbhkmmdcdfjbkaaXnAll1
import Derived.Test.YtbhkmmdcdfjbkaaAppL
import Derived.Test.YtbhkmmdcdfjbkaaPgG
import Derived.Test.YtbhkmmdcdfjbkaaXnAll2
import Derived.Test.YtbhkmmdcdfjbkaaPageM
import Derived.Test.YtbhkmmdcdfjbkaaOwn
namespace Go.Proofs.Ytbhkmmdcdfjbkaa
open Go.RowKit

theorem us_stepApp {P : Program} {ops : Array Oper} {o : Oper} {a : Act} {w : World} {K : Act → World → Prop} {Q : Exit → Act → World → Prop} {E : Prop}
    (hg : o.guard = none) (s x : Operand) (t : TypeId) (hop : o.op = Op.call { callee := Callee.builtin Builtin.append, args := #[s, x], argTypes := #[t, t] })
    (vs vx v' : Value) (w' : World) (hs : a.eval s = vs) (hx : a.eval x = vx) (hrun : (Builtin.append_ #[t, t] o.type #[vs, vx]).run P w = .ok v' w') (hK : K (a.put o.dst v') w') :
    if Region.wanted o (yielded ops a.tmps) = true then Oper.wp P o a w K Q else E := by
  have hw : Region.wanted o (yielded ops a.tmps) = true := by simp [Region.wanted, hg]
  rw [if_pos hw]
  unfold Oper.wp
  simp [execOp, hop, resolve, invoke, builtin, hs, hx, hrun, Result.andThen]
  exact hK
/-- append(a row of bools of the call's own, a list of bools...), nil or not. -/
theorem run_appBo {w : World} {B : Nat} {v : Value} {a : Option Addr} {n c : Nat} {xs gs : List Bool} (ty : TypeId) (hO : w.ownsRow B 4 1 v xs.length (xs.map Value.bool)) (hR : RowC w (.slice a n c) n (gs.map Value.bool)) (hl : gs.length = n) (hx : xs.length ≤ 2000000) (hn : n ≤ 2000000) (hc : a = none → c = 0) (hB : B ≤ w.heap.size) :
    ∃ v' w', (Builtin.append_ #[27, 27] ty #[v, .slice a n c]).run Try.prog w = .ok v' w' ∧ w'.ownsRow B 4 1 v' (xs.length + n) ((xs ++ gs).map Value.bool) ∧ w.grownBy w' v.ownBlock := by
  obtain ⟨i0, hi0, hz0, hz1, hz2⟩ := info_parts Try.infoBoG
  cases a with
  | none =>
    obtain rfl := hc rfl
    have h0 : gs = [] := by
      cases gs with
      | nil => rfl
      | cons g gs =>
        obtain ⟨b, off, e, _⟩ := hR.at (j := 0) (u := .bool g) rfl
        cases e
    subst h0
    obtain rfl : n = 0 := hl.symm
    exact ⟨v, w, run_append_owned_none (P := Try.prog) w B 27 ty 4 i0 1 Try.underlying27 hi0 _ _ _ hO, by rw [List.append_nil]; exact hO, ⟨rfl, rfl, rfl, Nat.le_refl _, fun _ _ _ => rfl⟩⟩
  | some ad =>
    obtain ⟨v', w', hr, ho, hg, _⟩ := run_append_own (P := Try.prog) w B 27 ty 4 i0 (.bool false) 1 1 Try.underlying27 hi0 hz0 hz1 hz2 rfl (by decide) _ _ _ hO ad n c (gs.map Value.bool) (by rw [List.length_map, hl, Nat.mul_one]) (fun t u hu => by
      obtain ⟨b, off, e, hcc⟩ := hR.at hu
      obtain rfl : ad = ⟨b, off, none⟩ := by injection e
      exact (congrArg w.cell? (Addr.add_lit b off t)).trans hcc) (fun u hu => by obtain ⟨g, _, rfl⟩ := List.mem_map.1 hu; rfl) (by unfold maxLen; omega) (by omega) hB
    refine ⟨v', w', hr, ?_, hg⟩
    rw [List.map_append]
    exact ho
theorem here_map (ps : List (Option PageD)) : List.zipWith (fun p g => if g then none else some p) (ps.map pgD) (ps.map (·.isNone)) = ps := by
  induction ps with
  | nil => rfl
  | cons q ps ih =>
    rw [List.map_cons, List.map_cons, List.zipWith_cons_cons, ih]
    cases q <;> rfl
/-- A tree of the specification in memory that the call owns from B on. -/
structure TsOwn (w : World) (B : Nat) (a1 : Option Addr) (c1 : Nat) (a2 : Option Addr) (c2 : Nat) (a3 : Option Addr) (c3 n m : Nat) (hs : List PpH) (ps : List (Option PageD)) (idx : List RefD) : Prop where
  own : TrOwn w B n n (.slice a1 n c1) (.slice a2 n c2) (.slice a3 m c3) hs (ps.map (·.isNone)) idx
  dat : hs.map (·.X) = ps.map pgD
  ln : ps.length = n
  li : idx.length = m
theorem TsOwn.below {w w' : World} {B : Nat} {a1 a2 a3 : Option Addr} {c1 c2 c3 n m : Nat} {hs : List PpH} {ps : List (Option PageD)} {idx : List RefD} (h : TsOwn w B a1 c1 a2 c2 a3 c3 n m hs ps idx) (hb : Below w.heap.size w w') : TsOwn w' B a1 c1 a2 c2 a3 c3 n m hs ps idx := ⟨h.own.below hb, h.dat, h.ln, h.li⟩
theorem TsOwn.dn {w : World} {B C : Nat} {a1 a2 a3 : Option Addr} {c1 c2 c3 n m : Nat} {hs : List PpH} {ps : List (Option PageD)} {idx : List RefD} (h : TsOwn w B a1 c1 a2 c2 a3 c3 n m hs ps idx) (hC : C ≤ B) : TsOwn w C a1 c1 a2 c2 a3 c3 n m hs ps idx := ⟨h.own.dn hC, h.dat, h.ln, h.li⟩
theorem TsOwn.set {w : World} {B q : Nat} {a1 a2 a3 : Option Addr} {c1 c2 c3 n m : Nat} {hs : List PpH} {ps : List (Option PageD)} {idx : List RefD} (h : TsOwn w B a1 c1 a2 c2 a3 c3 n m hs ps idx) (hq : q < B) (j : Nat) (u : Value) : TsOwn (w.setCell ⟨q, j, none⟩ u) B a1 c1 a2 c2 a3 c3 n m hs ps idx := ⟨h.own.set hq j u, h.dat, h.ln, h.li⟩
theorem TsOwn.trIn {w : World} {B : Nat} {a1 a2 a3 : Option Addr} {c1 c2 c3 n m : Nat} {hs : List PpH} {ps : List (Option PageD)} {idx : List RefD} (h : TsOwn w B a1 c1 a2 c2 a3 c3 n m hs ps idx) : TrIn w a1 n c1 a2 n c2 a3 m hs (ps.map (·.isNone)) idx := h.own.reads
theorem TsOwn.here {w : World} {B : Nat} {a1 a2 a3 : Option Addr} {c1 c2 c3 n m : Nat} {hs : List PpH} {ps : List (Option PageD)} {idx : List RefD} (h : TsOwn w B a1 c1 a2 c2 a3 c3 n m hs ps idx) : (trd hs (ps.map (·.isNone)) idx).here = ps := by
  unfold trd TreD.here
  simp only
  rw [h.dat]
  exact here_map ps
theorem TsOwn.hl {w : World} {B : Nat} {a1 a2 a3 : Option Addr} {c1 c2 c3 n m : Nat} {hs : List PpH} {ps : List (Option PageD)} {idx : List RefD} (h : TsOwn w B a1 c1 a2 c2 a3 c3 n m hs ps idx) : hs.length = n := by
  have := congrArg List.length h.dat
  rw [List.length_map, List.length_map, h.ln] at this
  exact this
theorem TsOwn.hX {w : World} {B : Nat} {a1 a2 a3 : Option Addr} {c1 c2 c3 n m : Nat} {hs : List PpH} {ps : List (Option PageD)} {idx : List RefD} (h : TsOwn w B a1 c1 a2 c2 a3 c3 n m hs ps idx) {k : Nat} (hk : k < hs.length) (hp : k < ps.length) : hs[k].X = pgD ps[k] := by
  have e := congrArg (fun l => l[k]?) h.dat
  simp only [List.getElem?_map, List.getElem?_eq_getElem hk, List.getElem?_eq_getElem hp, Option.map_some] at e
  injection e
/-- How long a right page's lists are, a gone one's too. -/
theorem pgD_few {ps : List (Option PageD)} {idx : List RefD} (t : Tre ps idx) {q : Option PageD} (hq : q ∈ ps) : (pgD q).es.length ≤ 32 ∧ (pgD q).ds.length ≤ 12 := by
  cases q with
  | none => exact ⟨by show 0 ≤ 32; omega, by show 0 ≤ 12; omega⟩
  | some p =>
    obtain ⟨k, hk⟩ := mem_getP hq
    have := ok_parts (t.ok _ p hk)
    exact ⟨this.2.1, this.2.2.1⟩
theorem own_cap0 {w : World} {B t s n m c : Nat} {a : Option Addr} {cs : List Value} (h : w.ownsRow B t s (.slice a n c) m cs) : a = none → c = 0 := (rowK_own (B := 0) h).2
/-- A page of a tree as it lies. -/
structure PgAtS (w : World) (B b k : Nat) (x : PpH) : Prop where
  c0 : w.cell? ⟨b, k * 5, none⟩ = some (.string x.X.lo)
  c1 : w.cell? ⟨b, k * 5 + 1, none⟩ = some (.string x.X.hi)
  c2 : w.cell? ⟨b, k * 5 + 2, none⟩ = some (.int .i64 x.X.r)
  c3 : w.cell? ⟨b, k * 5 + 3, none⟩ = some (.slice x.s0.a x.s0.n x.s0.c)
  c4 : w.cell? ⟨b, k * 5 + 4, none⟩ = some (.slice x.s1.a x.s1.n x.s1.c)
  es : ERow w x.s0.a x.s0.n x.X.es
  ds : DRow w x.s1.a x.s1.n x.X.ds
  ce : x.s0.a = none → x.s0.c = 0
  cd : x.s1.a = none → x.s1.c = 0
  ge : B ≤ b
theorem PgAtS.below {w w' : World} {B b k : Nat} {x : PpH} (h : PgAtS w B b k x) (hb : Below w.heap.size w w') : PgAtS w' B b k x :=
  ⟨(hb.cell (p := ⟨b, k * 5, none⟩) (cell_lt h.c0)).trans h.c0, (hb.cell (p := ⟨b, k * 5 + 1, none⟩) (cell_lt h.c1)).trans h.c1, (hb.cell (p := ⟨b, k * 5 + 2, none⟩) (cell_lt h.c2)).trans h.c2, (hb.cell (p := ⟨b, k * 5 + 3, none⟩) (cell_lt h.c3)).trans h.c3, (hb.cell (p := ⟨b, k * 5 + 4, none⟩) (cell_lt h.c4)).trans h.c4, h.es.below hb, h.ds.below hb, h.ce, h.cd, h.ge⟩
theorem TsOwn.at {w : World} {B : Nat} {a1 a2 a3 : Option Addr} {c1 c2 c3 n m : Nat} {hs : List PpH} {ps : List (Option PageD)} {idx : List RefD} (h : TsOwn w B a1 c1 a2 c2 a3 c3 n m hs ps idx) {k : Nat} (hk : k < ps.length) : ∃ (b : Nat) (x : PpH), a1 = some ⟨b, 0, none⟩ ∧ hs[k]? = some x ∧ x.X = pgD ps[k] ∧ PgAtS w B b k x := by
  have hkh : k < hs.length := by rw [h.hl, ← h.ln]; exact hk
  have hx := h.hX hkh hk
  rcases h.own.pg.row.2 with ⟨e, h0⟩ | ⟨g, cap, cur, e, hb, _⟩
  · exfalso
    have := h.ln
    omega
  injection e with e1 _ e3
  subst e1 e3
  have hi : (hs.map ppEl)[k]? = some (ppEl hs[k]) := ppEl_at hkh
  obtain ⟨r1, r2⟩ := PpIn.sub h.own.pg.reads hkh
  have d0 := h.own.pg.dat k 0 ⟨37, 2, hs[k].X.es.length, .slice hs[k].s0.a hs[k].s0.n hs[k].s0.c, ecs hs[k].X.es⟩ (by unfold sbAt; rw [hi]; rfl)
  have d1 := h.own.pg.dat k 1 ⟨86, 4, hs[k].X.ds.length, .slice hs[k].s1.a hs[k].s1.n hs[k].s1.c, dcs hs[k].X.ds⟩ (by unfold sbAt; rw [hi]; rfl)
  refine ⟨g, hs[k], rfl, List.getElem?_eq_getElem hkh, hx, ⟨?_, ?_, ?_, ?_, ?_, erow_C r1, drow_C r2, own_cap0 d0, own_cap0 d1, hb⟩⟩
  · exact h.own.pg.cell (j := 0) hi rfl
  · exact h.own.pg.cell (j := 1) hi rfl
  · exact h.own.pg.cell (j := 2) hi rfl
  · exact h.own.pg.cell (j := 3) hi rfl
  · exact h.own.pg.cell (j := 4) hi rfl
theorem tw_new (w : World) (v0 v1 v2 : Value) : ∃ W, W = (w.alloc (.cells #[v0, v1, v2] 30)).alloc (.cells #[.slice none 0 0, .slice none 0 0, .slice none 0 0] 30) ∧ W.heap[w.heap.size]? = some (.cells #[v0, v1, v2] 30 (0, 0)) ∧ W.heap[w.heap.size + 1]? = some (.cells #[.slice none 0 0, .slice none 0 0, .slice none 0 0] 30 (0, 0)) ∧ W.heap.size = w.heap.size + 1 + 1 ∧ Below w.heap.size w W := by
  have z1 : (w.alloc (.cells #[v0, v1, v2] 30)).heap.size = w.heap.size + 1 := by simp
  have b2 : Below (w.heap.size + 1) (w.alloc (.cells #[v0, v1, v2] 30)) ((w.alloc (.cells #[v0, v1, v2] 30)).alloc (.cells #[.slice none 0 0, .slice none 0 0, .slice none 0 0] 30)) := (Below.refl _ _).alloc (by omega) _
  exact ⟨_, rfl, (b2.block w.heap.size (by omega)).trans (heap_new rfl _ _), heap_new z1 _ _, by simp, ((Below.refl _ _).alloc (Nat.le_refl _) _).alloc (by simp) _⟩
/-- A tree's three lists laid into its box. -/
theorem tg_store {u : World} {B tb : Nat} {vg vi : Value} {gs : List Bool} {idx : List RefD} (hk : u.heap[tb]? = some (.cells #[.slice none 0 0, .slice none 0 0, .slice none 0 0] 30 (0, 0))) (hg : u.ownsRow B 4 1 vg gs.length (gs.map Value.bool)) (hi : JOwns u B vi idx) (hB : B ≤ tb) (hs : B ≤ u.heap.size) :
    TgSt (((u.setCell ⟨tb, 0, none⟩ (.slice none 0 0)).setCell ⟨tb, 1, none⟩ vg).setCell ⟨tb, 2, none⟩ vi) B tb (.slice none 0 0) vg vi [] gs idx ∧ Below B u (((u.setCell ⟨tb, 0, none⟩ (.slice none 0 0)).setCell ⟨tb, 1, none⟩ vg).setCell ⟨tb, 2, none⟩ vi) := by
  have W : WrB (fun i => i = tb) u (((u.setCell ⟨tb, 0, none⟩ (.slice none 0 0)).setCell ⟨tb, 1, none⟩ vg).setCell ⟨tb, 2, none⟩ vi) := (set1_wr u tb 0 (.slice none 0 0)).seq ((set1_wr _ tb 1 vg).seq (set1_wr _ tb 2 vi))
  refine ⟨⟨⟨NOwn.flat (World.ownsRow_nil _ _ _ _) rfl (fun e he => by cases he) (fun e he => by cases he), own_keep hg hk (by decide) W, own_keep hi hk (by decide) W⟩, ?_⟩, WrB.below W (fun i e => by omega) hs⟩
  have h1 := heap_set hk 0 (.slice none 0 0)
  have h2 := heap_set h1 1 vg
  have h3 := heap_set h2 2 vi
  simpa using h3
theorem us_sl {w : World} {B t s n : Nat} {v : Value} {cs : List Value} (h : w.ownsRow B t s v n cs) : ∃ a c, v = .slice a n c := by
  rcases h.2 with ⟨e, h0⟩ | ⟨g, cap, cur, e, _⟩
  · exact ⟨none, 0, by rw [e, h0]⟩
  · exact ⟨_, _, e⟩
/-- What l05Own's first statement has made. -/
structure OwSt (W u : World) (gs : List Bool) (idx : List RefD) (sg si : Option (Value × Bool)) (tb : Option Nat) : Prop where
  bel : Below W.heap.size W u
  g : ∀ v d, sg = some (v, d) → u.ownsRow W.heap.size 4 1 v (if d then gs.length else 0) (if d then gs.map Value.bool else [])
  i : ∀ v d, si = some (v, d) → JOwns u W.heap.size v (if d then idx else [])
  t : ∀ b, tb = some b → W.heap.size ≤ b ∧ u.heap[b]? = some (.cells #[.slice none 0 0, .slice none 0 0, .slice none 0 0] 30 (0, 0))
theorem OwSt.step {W u u' : World} {gs : List Bool} {idx : List RefD} {sg si : Option (Value × Bool)} {tb : Option Nat} (h : OwSt W u gs idx sg si tb) (hb : Below u.heap.size u u') : OwSt W u' gs idx sg si tb :=
  ⟨h.bel.trans (hb.mono h.bel.size), fun v d e => rb_ownsRow_below (h.g v d e) hb, fun v d e => rb_ownsRow_below (h.i v d e) hb, fun b e => ⟨(h.t b e).1, (hb.block b (blk_lt (h.t b e).2)).trans (h.t b e).2⟩⟩
theorem OwSt.litG {W u : World} {gs : List Bool} {idx : List RefD} {si : Option (Value × Bool)} {tb : Option Nat} (h : OwSt W u gs idx none si tb) : OwSt W (u.alloc (.cells #[] 4)) gs idx (some (.slice (some ⟨u.heap.size, 0, none⟩) 0 0, false)) si tb := by
  have s := h.step ((Below.refl u.heap.size u).alloc (Nat.le_refl _) (.cells #[] 4))
  refine ⟨s.bel, fun v d e => ?_, s.i, s.t⟩
  injection e with e
  injection e with e1 e2
  subst e1 e2
  exact gd_base (nil_lit (w := u) 4 1) h.bel.size
theorem OwSt.litI {W u : World} {gs : List Bool} {idx : List RefD} {sg : Option (Value × Bool)} {tb : Option Nat} (h : OwSt W u gs idx sg none tb) : OwSt W (u.alloc (.cells #[] 53)) gs idx sg (some (.slice (some ⟨u.heap.size, 0, none⟩) 0 0, false)) tb := by
  have s := h.step ((Below.refl u.heap.size u).alloc (Nat.le_refl _) (.cells #[] 53))
  refine ⟨s.bel, s.g, fun v d e => ?_, s.t⟩
  injection e with e
  injection e with e1 e2
  subst e1 e2
  exact gd_base (nil_lit (w := u) 53 2) h.bel.size
theorem OwSt.litT {W u : World} {gs : List Bool} {idx : List RefD} {sg si : Option (Value × Bool)} (h : OwSt W u gs idx sg si none) : OwSt W (u.alloc (.cells #[.slice none 0 0, .slice none 0 0, .slice none 0 0] 30)) gs idx sg si (some u.heap.size) := by
  have s := h.step ((Below.refl u.heap.size u).alloc (Nat.le_refl _) (.cells #[.slice none 0 0, .slice none 0 0, .slice none 0 0] 30))
  refine ⟨s.bel, s.g, s.i, fun b e => ?_⟩
  injection e with e
  subst e
  exact ⟨h.bel.size, heap_alloc_new _ _⟩
theorem OwSt.wr {W u u' : World} {gs : List Bool} {idx : List RefD} {sg si : Option (Value × Bool)} {tb : Option Nat} (h : OwSt W u gs idx sg si tb) {P : Nat → Prop} (hw : WrB P u u') (hP : ∀ i, P i → W.heap.size ≤ i) : Below W.heap.size W u' := h.bel.trans (WrB.below hw hP h.bel.size)
theorem OwSt.appG {W u : World} {gs : List Bool} {idx : List RefD} {v : Value} {si : Option (Value × Bool)} {tb : Option Nat} (h : OwSt W u gs idx (some (v, false)) si tb) {a : Option Addr} {n c : Nat} (hR : RowC W (.slice a n c) n (gs.map Value.bool)) (hl : gs.length = n) (hn : n ≤ 1000) (hc : a = none → c = 0) :
    ∃ a' c' u', (Builtin.append_ #[27, 27] 27 #[v, .slice a n c]).run Try.prog u = .ok (.slice a' n c') u' ∧ OwSt W u' gs idx (some (.slice a' n c', true)) si tb := by
  have hg := h.g v false rfl
  obtain ⟨v', u', hr, ho, hgr⟩ := run_appBo (xs := []) 27 hg (hR.below h.bel) hl (by simp) (by omega) hc h.bel.size
  have hw := WrB.of_grown hgr
  obtain ⟨a', c', rfl⟩ : ∃ a' c', v' = .slice a' n c' := by
    obtain ⟨a', c', e⟩ := us_sl ho
    exact ⟨a', c', by simpa using e⟩
  refine ⟨a', c', u', hr, ⟨h.wr hw (fun i hi => (hg.lt i hi).1), fun v d e => ?_, fun v d e => rr_owns_wr (h.i v d e) hw (fun i hi => own_other (h.i v d e) hg (by decide) hi), fun b e => ⟨(h.t b e).1, (hw.block b (blk_lt (h.t b e).2) (own_box hg (h.t b e).2 (by decide))).trans (h.t b e).2⟩⟩⟩
  injection e with e
  injection e with e1 e2
  subst e1 e2
  simp only [if_true]
  rw [hl]
  simpa using ho
theorem OwSt.appI {W u : World} {gs : List Bool} {idx : List RefD} {v : Value} {sg : Option (Value × Bool)} {tb : Option Nat} (h : OwSt W u gs idx sg (some (v, false)) tb) {a : Option Addr} {n c : Nat} (hR : JRow W a n idx) (hn : n ≤ 1000) (hc : a = none → c = 0) :
    ∃ a' c' u', (Builtin.append_ #[28, 28] 28 #[v, .slice a n c]).run Try.prog u = .ok (.slice a' n c') u' ∧ OwSt W u' gs idx sg (some (.slice a' n c', true)) tb := by
  have hg : JOwns u W.heap.size v [] := h.i v false rfl
  obtain ⟨v', u', hr, ho, hgr, _⟩ := run_appJ (c := c) 28 hg (hR.below h.bel) (by simp) (by omega) hc h.bel.size
  have hw := WrB.of_grown hgr
  obtain ⟨a', c', rfl⟩ : ∃ a' c', v' = .slice a' n c' := by
    obtain ⟨a', c', e⟩ := us_sl ho
    exact ⟨a', c', by rw [e, List.nil_append, hR.1]⟩
  refine ⟨a', c', u', hr, ⟨h.wr hw (fun i hi => (hg.lt i hi).1), fun v d e => rr_owns_wr (h.g v d e) hw (fun i hi => own_other (h.g v d e) hg (by decide) hi), fun v d e => ?_, fun b e => ⟨(h.t b e).1, (hw.block b (blk_lt (h.t b e).2) (own_box hg (h.t b e).2 (by decide))).trans (h.t b e).2⟩⟩⟩
  injection e with e
  injection e with e1 e2
  subst e1 e2
  exact ho
/-- What l05Own gives. -/
def OwnRes (n m : Nat) (ps : List (Option PageD)) (idx : List RefD) (w : World) (e : Ending) (w' : World) : Prop := ∃ a1 c1 a2 c2 a3 c3 hs, e = .returned (.agg #[.slice a1 n c1, .slice a2 n c2, .slice a3 m c3]) ∧ TsOwn w' w.heap.size a1 c1 a2 c2 a3 c3 n m hs ps idx ∧ Below w.heap.size w w'
set_option maxRecDepth 100000 in
set_option maxHeartbeats 8000000 in
theorem l05Own_any (B : Nat) (a1 : Option Addr) (c1 : Nat) (a2 : Option Addr) (c2 : Nat) (a3 : Option Addr) (c3 n m : Nat) (hs : List PpH) (ps : List (Option PageD)) (idx : List RefD) (w : World) (hO : TsOwn w B a1 c1 a2 c2 a3 c3 n m hs ps idx) (hT : Tre ps idx) :
    Calls Try.prog 27 #[.agg #[.slice a1 n c1, .slice a2 n c2, .slice a3 m c3]] w fun e w' => OwnRes n m ps idx w e w' := by
  have hn30 : n ≤ 30 := by rw [← hO.ln]; exact hT.len.2
  have hm30 : m ≤ 30 := by rw [← hO.li]; exact Nat.le_trans hT.good.il hT.len.2
  obtain ⟨W, hW, k1, k2, z, b0⟩ := tw_new w (.slice a1 n c1) (.slice a2 n c2) (.slice a3 m c3)
  have O := hide (hO.below b0)
  have cg := own_cap0 hO.own.go
  have ci := own_cap0 hO.own.ix
  have FEW := hide (fun q (hq : q ∈ ps) => pgD_few hT hq)
  have HLN := hide hO.ln
  have HLI := hide hO.li
  clear hO hT
  have e1 := (heap_at k1 1).1
  have e2 := (heap_at k1 2).1
  have hz1 : w.heap.size < W.heap.size := by omega
  have hz2 : w.heap.size + 1 < W.heap.size := by omega
  have b0h := hide b0
  have K1 := hide k1
  have K2 := hide k2
  have S0 := hide (show OwSt W W.drew (ps.map (·.isNone)) idx none none none from ⟨(Below.refl _ _).drew, fun _ _ e => (by cases e), fun _ _ e => (by cases e), fun _ e => (by cases e)⟩)
  have RG := hide (show RowC W (.slice a2 n c2) n ((ps.map (·.isNone)).map Value.bool) from (unhide O).trIn.gone)
  have RI := hide (show JRow W a3 m idx from (unhide O).trIn.ix)
  have LG := hide (show (ps.map (·.isNone)).length = n by rw [List.length_map]; exact unhide HLN)
  clear b0 k1 k2 z
  have HW := hide hW
  clear hW
  go_enter Try.func27, Try.ntmps27
  go_upto_region 1 with fail
  rw [← unhide HW]
  clear HW
  go_cut [3] (fun v wc => ∃ tb ag cg' ai ci', v = .pointer (some ⟨tb, 0, none⟩) ∧ W.heap.size ≤ tb ∧ Hid (TgSt wc W.heap.size tb (.slice none 0 0) (.slice ag n cg') (.slice ai m ci') [] (ps.map (·.isNone)) idx) ∧ Below W.heap.size W wc)
  case first =>
    have SK := hide (show ∀ u, Below W.heap.size W u → u.cell? ⟨w.heap.size, 1, none⟩ = some (.slice a2 n c2) ∧ u.cell? ⟨w.heap.size, 2, none⟩ = some (.slice a3 m c3) from fun u hu => ⟨(hu.cell (p := ⟨w.heap.size, 1, none⟩) hz1).trans e1, (hu.cell (p := ⟨w.heap.size, 2, none⟩) hz1).trans e2⟩)
    refine wp_region_held_drew (S := (fun u => u.cell? ⟨w.heap.size, 1, none⟩ = some (.slice a2 n c2) ∧ u.cell? ⟨w.heap.size, 2, none⟩ = some (.slice a3 m c3))) (by kernel_rfl) (unhide SK _ (unhide S0).bel) (fun hHeld => ?_)
    have T0 := S0
    clear S0
    generalize W.drew = u0 at *
    refine anyH_take 1 6 (v := ?v1) rfl rfl (by kernel_rfl) (by kernel_rfl) (by kernel_rfl) (fun _ _ _ h => h) (by rfl) ?h1 hHeld ?r1
    case h1 => (intro w hSw; (try dsimp only at hSw); go_simp; try (with_reducible rfl))
    simp only [Act.put, List.setIfInBounds_toArray, List.set_cons_zero, List.set_cons_succ]
    refine anyH_take 2 7 (v := ?v2) rfl rfl (by kernel_rfl) (by kernel_rfl) (by kernel_rfl) (fun _ _ _ h => h) (by rfl) ?h2 hHeld ?r2
    case h2 => (intro w hSw; (try dsimp only at hSw); go_simp; try (with_reducible rfl))
    simp only [Act.put, List.setIfInBounds_toArray, List.set_cons_zero, List.set_cons_succ]
    refine anyH_take 5 10 (v := ?v3) rfl rfl (by kernel_rfl) (by kernel_rfl) (by kernel_rfl) (fun _ _ _ h => h) (by rfl) ?h3 hHeld ?r3
    case h3 => (intro w hSw; (try dsimp only at hSw); go_simp; try (with_reducible rfl))
    simp only [Act.put, List.setIfInBounds_toArray, List.set_cons_zero, List.set_cons_succ]
    refine anyH_take 6 11 (v := ?v4) rfl rfl (by kernel_rfl) (by kernel_rfl) (by kernel_rfl) (fun _ _ _ h => h) (by rfl) ?h4 hHeld ?r4
    case h4 => (intro w hSw; (try dsimp only at hSw); go_simp; try (with_reducible rfl))
    simp only [Act.put, List.setIfInBounds_toArray, List.set_cons_zero, List.set_cons_succ]
    refine wpAnyH_ready (rs := [0, 4, 9]) (by kernel_rfl) (by simp) ?_
    refine AllReadyH.cons rfl (fun K hK => ?_) (AllReadyH.cons rfl (fun K hK => ?_) (AllReadyH.cons rfl (fun K hK => ?_) AllReadyH.nil))
    · have T0 := hide (unhide T0).litG
      go_simp
      generalize u0.alloc (.cells #[] 4) = u0 at *
      generalize u0.heap.size = g5 at *
      refine hK.out _ _ (unhide SK _ (unhide T0).bel) (fun hHeld => ?_)
      clear hK K
      refine wpAnyH_ready (rs := [3, 4, 9]) (by kernel_rfl) (by simp) ?_
      refine AllReadyH.cons rfl (fun K hK => ?_) (AllReadyH.cons rfl (fun K hK => ?_) (AllReadyH.cons rfl (fun K hK => ?_) AllReadyH.nil))
      · obtain ⟨a8, k8, u0_3, hr, hs8⟩ := (unhide T0).appG (unhide RG) (unhide LG) (by omega) cg
        have T0_3 := hide hs8
        clear hs8
        refine us_stepApp rfl (.tmp 5) (.tmp 7) 27 rfl _ _ (.slice a8 n k8) u0_3 (by first | rfl | (simp [Act.eval]; done) | (simp [Act.eval, Act.put]; done)) (by first | rfl | (simp [Act.eval]; done) | (simp [Act.eval, Act.put]; done)) hr ?_
        clear hr
        refine hK.out _ _ (unhide SK _ (unhide T0_3).bel) (fun hHeld => ?_)
        clear hK K
        refine wpAnyH_ready (rs := [4, 9]) (by kernel_rfl) (by simp) ?_
        refine AllReadyH.cons rfl (fun K hK => ?_) (AllReadyH.cons rfl (fun K hK => ?_) AllReadyH.nil)
        · have T0_3_4 := hide (unhide T0_3).litI
          go_simp
          generalize u0_3.alloc (.cells #[] 53) = u0_3_4 at *
          generalize u0_3.heap.size = g9 at *
          refine hK.out _ _ (unhide SK _ (unhide T0_3_4).bel) (fun hHeld => ?_)
          clear hK K
          refine wpAnyH_ready (rs := [7, 9]) (by kernel_rfl) (by simp) ?_
          refine AllReadyH.cons rfl (fun K hK => ?_) (AllReadyH.cons rfl (fun K hK => ?_) AllReadyH.nil)
          · obtain ⟨a12, k12, u0_3_4_7, hr, hs8⟩ := (unhide T0_3_4).appI (unhide RI) (by omega) ci
            have T0_3_4_7 := hide hs8
            clear hs8
            refine us_stepApp rfl (.tmp 9) (.tmp 11) 28 rfl _ _ (.slice a12 m k12) u0_3_4_7 (by first | rfl | (simp [Act.eval]; done) | (simp [Act.eval, Act.put]; done)) (by first | rfl | (simp [Act.eval]; done) | (simp [Act.eval, Act.put]; done)) hr ?_
            clear hr
            refine hK.out _ _ (unhide SK _ (unhide T0_3_4_7).bel) (fun hHeld => ?_)
            clear hK K
            refine anyH_take 8 13 (v := ?v5) rfl rfl (by kernel_rfl) (by kernel_rfl) (by kernel_rfl) (fun _ _ _ h => h) (by rfl) ?h5 hHeld ?r5
            case h5 => (intro w hSw; (try dsimp only at hSw); go_simp; try (with_reducible rfl))
            simp only [Act.put, List.setIfInBounds_toArray]
            refine wpAnyH_ready (rs := [9]) (by kernel_rfl) (by simp) ?_
            refine AllReadyH.cons rfl (fun K hK => ?_) AllReadyH.nil
            have T0_3_4_7_9 := hide (unhide T0_3_4_7).litT
            go_simp
            generalize u0_3_4_7.alloc (.cells #[.slice none 0 0, .slice none 0 0, .slice none 0 0] 30) = u0_3_4_7_9 at *
            generalize u0_3_4_7.heap.size = tb at *
            refine hK.out _ _ (unhide SK _ (unhide T0_3_4_7_9).bel) (fun hHeld => ?_)
            clear hK K
            refine wpAnyH_ready (rs := [10]) (by kernel_rfl) (by simp) ?_
            refine AllReadyH.cons rfl (fun K hK => ?_) AllReadyH.nil
            obtain ⟨hT3, hb3⟩ := tg_store ((unhide T0_3_4_7_9).t tb rfl).2 (show _ from (unhide T0_3_4_7_9).g (.slice a8 n k8) true rfl) (show JOwns _ _ _ idx from (unhide T0_3_4_7_9).i (.slice a12 m k12) true rfl) ((unhide T0_3_4_7_9).t tb rfl).1 (unhide T0_3_4_7_9).bel.size
            have y0 := (heap_at ((unhide T0_3_4_7_9).t tb rfl).2 0).1
            have y1 := (heap_at ((unhide T0_3_4_7_9).t tb rfl).2 1).1
            have y2 := (heap_at ((unhide T0_3_4_7_9).t tb rfl).2 2).1
            have x0 := (heap_at ((unhide T0_3_4_7_9).t tb rfl).2 0).2
            have x1 := (heap_at ((unhide T0_3_4_7_9).t tb rfl).2 1).2
            have x2 := (heap_at ((unhide T0_3_4_7_9).t tb rfl).2 2).2
            have TF := hide hT3
            have htb := ((unhide T0_3_4_7_9).t tb rfl).1
            have BF := hide ((unhide T0_3_4_7_9).bel.trans hb3)
            clear hT3 hb3
            go_simp
            refine hK.out _ _ (unhide SK _ (unhide BF)) (fun hHeld => ?_)
            clear hK K
            refine wpAnyH_done (by kernel_rfl) ?_ _
            go_wp2_with fail
            go_meet
            case rel => exact ⟨tb, a8, k8, a12, k12, rfl, htb, TF, unhide BF⟩
          · have T0_3_4_9 := hide (unhide T0_3_4).litT
            go_simp
            generalize u0_3_4.alloc (.cells #[.slice none 0 0, .slice none 0 0, .slice none 0 0] 30) = u0_3_4_9 at *
            generalize u0_3_4.heap.size = tb at *
            refine hK.out _ _ (unhide SK _ (unhide T0_3_4_9).bel) (fun hHeld => ?_)
            clear hK K
            refine wpAnyH_ready (rs := [7]) (by kernel_rfl) (by simp) ?_
            refine AllReadyH.cons rfl (fun K hK => ?_) AllReadyH.nil
            obtain ⟨a12, k12, u0_3_4_9_7, hr, hs8⟩ := (unhide T0_3_4_9).appI (unhide RI) (by omega) ci
            have T0_3_4_9_7 := hide hs8
            clear hs8
            refine us_stepApp rfl (.tmp 9) (.tmp 11) 28 rfl _ _ (.slice a12 m k12) u0_3_4_9_7 (by first | rfl | (simp [Act.eval]; done) | (simp [Act.eval, Act.put]; done)) (by first | rfl | (simp [Act.eval]; done) | (simp [Act.eval, Act.put]; done)) hr ?_
            clear hr
            refine hK.out _ _ (unhide SK _ (unhide T0_3_4_9_7).bel) (fun hHeld => ?_)
            clear hK K
            refine anyH_take 8 13 (v := ?v6) rfl rfl (by kernel_rfl) (by kernel_rfl) (by kernel_rfl) (fun _ _ _ h => h) (by rfl) ?h6 hHeld ?r6
            case h6 => (intro w hSw; (try dsimp only at hSw); go_simp; try (with_reducible rfl))
            simp only [Act.put, List.setIfInBounds_toArray]
            refine wpAnyH_ready (rs := [10]) (by kernel_rfl) (by simp) ?_
            refine AllReadyH.cons rfl (fun K hK => ?_) AllReadyH.nil
            obtain ⟨hT3, hb3⟩ := tg_store ((unhide T0_3_4_9_7).t tb rfl).2 (show _ from (unhide T0_3_4_9_7).g (.slice a8 n k8) true rfl) (show JOwns _ _ _ idx from (unhide T0_3_4_9_7).i (.slice a12 m k12) true rfl) ((unhide T0_3_4_9_7).t tb rfl).1 (unhide T0_3_4_9_7).bel.size
            have y0 := (heap_at ((unhide T0_3_4_9_7).t tb rfl).2 0).1
            have y1 := (heap_at ((unhide T0_3_4_9_7).t tb rfl).2 1).1
            have y2 := (heap_at ((unhide T0_3_4_9_7).t tb rfl).2 2).1
            have x0 := (heap_at ((unhide T0_3_4_9_7).t tb rfl).2 0).2
            have x1 := (heap_at ((unhide T0_3_4_9_7).t tb rfl).2 1).2
            have x2 := (heap_at ((unhide T0_3_4_9_7).t tb rfl).2 2).2
            have TF := hide hT3
            have htb := ((unhide T0_3_4_9_7).t tb rfl).1
            have BF := hide ((unhide T0_3_4_9_7).bel.trans hb3)
            clear hT3 hb3
            go_simp
            refine hK.out _ _ (unhide SK _ (unhide BF)) (fun hHeld => ?_)
            clear hK K
            refine wpAnyH_done (by kernel_rfl) ?_ _
            go_wp2_with fail
            go_meet
            case rel => exact ⟨tb, a8, k8, a12, k12, rfl, htb, TF, unhide BF⟩
        · have T0_3_9 := hide (unhide T0_3).litT
          go_simp
          generalize u0_3.alloc (.cells #[.slice none 0 0, .slice none 0 0, .slice none 0 0] 30) = u0_3_9 at *
          generalize u0_3.heap.size = tb at *
          refine hK.out _ _ (unhide SK _ (unhide T0_3_9).bel) (fun hHeld => ?_)
          clear hK K
          refine wpAnyH_ready (rs := [4]) (by kernel_rfl) (by simp) ?_
          refine AllReadyH.cons rfl (fun K hK => ?_) AllReadyH.nil
          have T0_3_9_4 := hide (unhide T0_3_9).litI
          go_simp
          generalize u0_3_9.alloc (.cells #[] 53) = u0_3_9_4 at *
          generalize u0_3_9.heap.size = g9 at *
          refine hK.out _ _ (unhide SK _ (unhide T0_3_9_4).bel) (fun hHeld => ?_)
          clear hK K
          refine wpAnyH_ready (rs := [7]) (by kernel_rfl) (by simp) ?_
          refine AllReadyH.cons rfl (fun K hK => ?_) AllReadyH.nil
          obtain ⟨a12, k12, u0_3_9_4_7, hr, hs8⟩ := (unhide T0_3_9_4).appI (unhide RI) (by omega) ci
          have T0_3_9_4_7 := hide hs8
          clear hs8
          refine us_stepApp rfl (.tmp 9) (.tmp 11) 28 rfl _ _ (.slice a12 m k12) u0_3_9_4_7 (by first | rfl | (simp [Act.eval]; done) | (simp [Act.eval, Act.put]; done)) (by first | rfl | (simp [Act.eval]; done) | (simp [Act.eval, Act.put]; done)) hr ?_
          clear hr
          refine hK.out _ _ (unhide SK _ (unhide T0_3_9_4_7).bel) (fun hHeld => ?_)
          clear hK K
          refine anyH_take 8 13 (v := ?v7) rfl rfl (by kernel_rfl) (by kernel_rfl) (by kernel_rfl) (fun _ _ _ h => h) (by rfl) ?h7 hHeld ?r7
          case h7 => (intro w hSw; (try dsimp only at hSw); go_simp; try (with_reducible rfl))
          simp only [Act.put, List.setIfInBounds_toArray]
          refine wpAnyH_ready (rs := [10]) (by kernel_rfl) (by simp) ?_
          refine AllReadyH.cons rfl (fun K hK => ?_) AllReadyH.nil
          obtain ⟨hT3, hb3⟩ := tg_store ((unhide T0_3_9_4_7).t tb rfl).2 (show _ from (unhide T0_3_9_4_7).g (.slice a8 n k8) true rfl) (show JOwns _ _ _ idx from (unhide T0_3_9_4_7).i (.slice a12 m k12) true rfl) ((unhide T0_3_9_4_7).t tb rfl).1 (unhide T0_3_9_4_7).bel.size
          have y0 := (heap_at ((unhide T0_3_9_4_7).t tb rfl).2 0).1
          have y1 := (heap_at ((unhide T0_3_9_4_7).t tb rfl).2 1).1
          have y2 := (heap_at ((unhide T0_3_9_4_7).t tb rfl).2 2).1
          have x0 := (heap_at ((unhide T0_3_9_4_7).t tb rfl).2 0).2
          have x1 := (heap_at ((unhide T0_3_9_4_7).t tb rfl).2 1).2
          have x2 := (heap_at ((unhide T0_3_9_4_7).t tb rfl).2 2).2
          have TF := hide hT3
          have htb := ((unhide T0_3_9_4_7).t tb rfl).1
          have BF := hide ((unhide T0_3_9_4_7).bel.trans hb3)
          clear hT3 hb3
          go_simp
          refine hK.out _ _ (unhide SK _ (unhide BF)) (fun hHeld => ?_)
          clear hK K
          refine wpAnyH_done (by kernel_rfl) ?_ _
          go_wp2_with fail
          go_meet
          case rel => exact ⟨tb, a8, k8, a12, k12, rfl, htb, TF, unhide BF⟩
      · have T0_4 := hide (unhide T0).litI
        go_simp
        generalize u0.alloc (.cells #[] 53) = u0_4 at *
        generalize u0.heap.size = g9 at *
        refine hK.out _ _ (unhide SK _ (unhide T0_4).bel) (fun hHeld => ?_)
        clear hK K
        refine wpAnyH_ready (rs := [3, 9]) (by kernel_rfl) (by simp) ?_
        refine AllReadyH.cons rfl (fun K hK => ?_) (AllReadyH.cons rfl (fun K hK => ?_) AllReadyH.nil)
        · obtain ⟨a8, k8, u0_4_3, hr, hs8⟩ := (unhide T0_4).appG (unhide RG) (unhide LG) (by omega) cg
          have T0_4_3 := hide hs8
          clear hs8
          refine us_stepApp rfl (.tmp 5) (.tmp 7) 27 rfl _ _ (.slice a8 n k8) u0_4_3 (by first | rfl | (simp [Act.eval]; done) | (simp [Act.eval, Act.put]; done)) (by first | rfl | (simp [Act.eval]; done) | (simp [Act.eval, Act.put]; done)) hr ?_
          clear hr
          refine hK.out _ _ (unhide SK _ (unhide T0_4_3).bel) (fun hHeld => ?_)
          clear hK K
          refine wpAnyH_ready (rs := [7, 9]) (by kernel_rfl) (by simp) ?_
          refine AllReadyH.cons rfl (fun K hK => ?_) (AllReadyH.cons rfl (fun K hK => ?_) AllReadyH.nil)
          · obtain ⟨a12, k12, u0_4_3_7, hr, hs8⟩ := (unhide T0_4_3).appI (unhide RI) (by omega) ci
            have T0_4_3_7 := hide hs8
            clear hs8
            refine us_stepApp rfl (.tmp 9) (.tmp 11) 28 rfl _ _ (.slice a12 m k12) u0_4_3_7 (by first | rfl | (simp [Act.eval]; done) | (simp [Act.eval, Act.put]; done)) (by first | rfl | (simp [Act.eval]; done) | (simp [Act.eval, Act.put]; done)) hr ?_
            clear hr
            refine hK.out _ _ (unhide SK _ (unhide T0_4_3_7).bel) (fun hHeld => ?_)
            clear hK K
            refine anyH_take 8 13 (v := ?v8) rfl rfl (by kernel_rfl) (by kernel_rfl) (by kernel_rfl) (fun _ _ _ h => h) (by rfl) ?h8 hHeld ?r8
            case h8 => (intro w hSw; (try dsimp only at hSw); go_simp; try (with_reducible rfl))
            simp only [Act.put, List.setIfInBounds_toArray]
            refine wpAnyH_ready (rs := [9]) (by kernel_rfl) (by simp) ?_
            refine AllReadyH.cons rfl (fun K hK => ?_) AllReadyH.nil
            have T0_4_3_7_9 := hide (unhide T0_4_3_7).litT
            go_simp
            generalize u0_4_3_7.alloc (.cells #[.slice none 0 0, .slice none 0 0, .slice none 0 0] 30) = u0_4_3_7_9 at *
            generalize u0_4_3_7.heap.size = tb at *
            refine hK.out _ _ (unhide SK _ (unhide T0_4_3_7_9).bel) (fun hHeld => ?_)
            clear hK K
            refine wpAnyH_ready (rs := [10]) (by kernel_rfl) (by simp) ?_
            refine AllReadyH.cons rfl (fun K hK => ?_) AllReadyH.nil
            obtain ⟨hT3, hb3⟩ := tg_store ((unhide T0_4_3_7_9).t tb rfl).2 (show _ from (unhide T0_4_3_7_9).g (.slice a8 n k8) true rfl) (show JOwns _ _ _ idx from (unhide T0_4_3_7_9).i (.slice a12 m k12) true rfl) ((unhide T0_4_3_7_9).t tb rfl).1 (unhide T0_4_3_7_9).bel.size
            have y0 := (heap_at ((unhide T0_4_3_7_9).t tb rfl).2 0).1
            have y1 := (heap_at ((unhide T0_4_3_7_9).t tb rfl).2 1).1
            have y2 := (heap_at ((unhide T0_4_3_7_9).t tb rfl).2 2).1
            have x0 := (heap_at ((unhide T0_4_3_7_9).t tb rfl).2 0).2
            have x1 := (heap_at ((unhide T0_4_3_7_9).t tb rfl).2 1).2
            have x2 := (heap_at ((unhide T0_4_3_7_9).t tb rfl).2 2).2
            have TF := hide hT3
            have htb := ((unhide T0_4_3_7_9).t tb rfl).1
            have BF := hide ((unhide T0_4_3_7_9).bel.trans hb3)
            clear hT3 hb3
            go_simp
            refine hK.out _ _ (unhide SK _ (unhide BF)) (fun hHeld => ?_)
            clear hK K
            refine wpAnyH_done (by kernel_rfl) ?_ _
            go_wp2_with fail
            go_meet
            case rel => exact ⟨tb, a8, k8, a12, k12, rfl, htb, TF, unhide BF⟩
          · have T0_4_3_9 := hide (unhide T0_4_3).litT
            go_simp
            generalize u0_4_3.alloc (.cells #[.slice none 0 0, .slice none 0 0, .slice none 0 0] 30) = u0_4_3_9 at *
            generalize u0_4_3.heap.size = tb at *
            refine hK.out _ _ (unhide SK _ (unhide T0_4_3_9).bel) (fun hHeld => ?_)
            clear hK K
            refine wpAnyH_ready (rs := [7]) (by kernel_rfl) (by simp) ?_
            refine AllReadyH.cons rfl (fun K hK => ?_) AllReadyH.nil
            obtain ⟨a12, k12, u0_4_3_9_7, hr, hs8⟩ := (unhide T0_4_3_9).appI (unhide RI) (by omega) ci
            have T0_4_3_9_7 := hide hs8
            clear hs8
            refine us_stepApp rfl (.tmp 9) (.tmp 11) 28 rfl _ _ (.slice a12 m k12) u0_4_3_9_7 (by first | rfl | (simp [Act.eval]; done) | (simp [Act.eval, Act.put]; done)) (by first | rfl | (simp [Act.eval]; done) | (simp [Act.eval, Act.put]; done)) hr ?_
            clear hr
            refine hK.out _ _ (unhide SK _ (unhide T0_4_3_9_7).bel) (fun hHeld => ?_)
            clear hK K
            refine anyH_take 8 13 (v := ?v9) rfl rfl (by kernel_rfl) (by kernel_rfl) (by kernel_rfl) (fun _ _ _ h => h) (by rfl) ?h9 hHeld ?r9
            case h9 => (intro w hSw; (try dsimp only at hSw); go_simp; try (with_reducible rfl))
            simp only [Act.put, List.setIfInBounds_toArray]
            refine wpAnyH_ready (rs := [10]) (by kernel_rfl) (by simp) ?_
            refine AllReadyH.cons rfl (fun K hK => ?_) AllReadyH.nil
            obtain ⟨hT3, hb3⟩ := tg_store ((unhide T0_4_3_9_7).t tb rfl).2 (show _ from (unhide T0_4_3_9_7).g (.slice a8 n k8) true rfl) (show JOwns _ _ _ idx from (unhide T0_4_3_9_7).i (.slice a12 m k12) true rfl) ((unhide T0_4_3_9_7).t tb rfl).1 (unhide T0_4_3_9_7).bel.size
            have y0 := (heap_at ((unhide T0_4_3_9_7).t tb rfl).2 0).1
            have y1 := (heap_at ((unhide T0_4_3_9_7).t tb rfl).2 1).1
            have y2 := (heap_at ((unhide T0_4_3_9_7).t tb rfl).2 2).1
            have x0 := (heap_at ((unhide T0_4_3_9_7).t tb rfl).2 0).2
            have x1 := (heap_at ((unhide T0_4_3_9_7).t tb rfl).2 1).2
            have x2 := (heap_at ((unhide T0_4_3_9_7).t tb rfl).2 2).2
            have TF := hide hT3
            have htb := ((unhide T0_4_3_9_7).t tb rfl).1
            have BF := hide ((unhide T0_4_3_9_7).bel.trans hb3)
            clear hT3 hb3
            go_simp
            refine hK.out _ _ (unhide SK _ (unhide BF)) (fun hHeld => ?_)
            clear hK K
            refine wpAnyH_done (by kernel_rfl) ?_ _
            go_wp2_with fail
            go_meet
            case rel => exact ⟨tb, a8, k8, a12, k12, rfl, htb, TF, unhide BF⟩
        · have T0_4_9 := hide (unhide T0_4).litT
          go_simp
          generalize u0_4.alloc (.cells #[.slice none 0 0, .slice none 0 0, .slice none 0 0] 30) = u0_4_9 at *
          generalize u0_4.heap.size = tb at *
          refine hK.out _ _ (unhide SK _ (unhide T0_4_9).bel) (fun hHeld => ?_)
          clear hK K
          refine wpAnyH_ready (rs := [3]) (by kernel_rfl) (by simp) ?_
          refine AllReadyH.cons rfl (fun K hK => ?_) AllReadyH.nil
          obtain ⟨a8, k8, u0_4_9_3, hr, hs8⟩ := (unhide T0_4_9).appG (unhide RG) (unhide LG) (by omega) cg
          have T0_4_9_3 := hide hs8
          clear hs8
          refine us_stepApp rfl (.tmp 5) (.tmp 7) 27 rfl _ _ (.slice a8 n k8) u0_4_9_3 (by first | rfl | (simp [Act.eval]; done) | (simp [Act.eval, Act.put]; done)) (by first | rfl | (simp [Act.eval]; done) | (simp [Act.eval, Act.put]; done)) hr ?_
          clear hr
          refine hK.out _ _ (unhide SK _ (unhide T0_4_9_3).bel) (fun hHeld => ?_)
          clear hK K
          refine wpAnyH_ready (rs := [7]) (by kernel_rfl) (by simp) ?_
          refine AllReadyH.cons rfl (fun K hK => ?_) AllReadyH.nil
          obtain ⟨a12, k12, u0_4_9_3_7, hr, hs8⟩ := (unhide T0_4_9_3).appI (unhide RI) (by omega) ci
          have T0_4_9_3_7 := hide hs8
          clear hs8
          refine us_stepApp rfl (.tmp 9) (.tmp 11) 28 rfl _ _ (.slice a12 m k12) u0_4_9_3_7 (by first | rfl | (simp [Act.eval]; done) | (simp [Act.eval, Act.put]; done)) (by first | rfl | (simp [Act.eval]; done) | (simp [Act.eval, Act.put]; done)) hr ?_
          clear hr
          refine hK.out _ _ (unhide SK _ (unhide T0_4_9_3_7).bel) (fun hHeld => ?_)
          clear hK K
          refine anyH_take 8 13 (v := ?v10) rfl rfl (by kernel_rfl) (by kernel_rfl) (by kernel_rfl) (fun _ _ _ h => h) (by rfl) ?h10 hHeld ?r10
          case h10 => (intro w hSw; (try dsimp only at hSw); go_simp; try (with_reducible rfl))
          simp only [Act.put, List.setIfInBounds_toArray]
          refine wpAnyH_ready (rs := [10]) (by kernel_rfl) (by simp) ?_
          refine AllReadyH.cons rfl (fun K hK => ?_) AllReadyH.nil
          obtain ⟨hT3, hb3⟩ := tg_store ((unhide T0_4_9_3_7).t tb rfl).2 (show _ from (unhide T0_4_9_3_7).g (.slice a8 n k8) true rfl) (show JOwns _ _ _ idx from (unhide T0_4_9_3_7).i (.slice a12 m k12) true rfl) ((unhide T0_4_9_3_7).t tb rfl).1 (unhide T0_4_9_3_7).bel.size
          have y0 := (heap_at ((unhide T0_4_9_3_7).t tb rfl).2 0).1
          have y1 := (heap_at ((unhide T0_4_9_3_7).t tb rfl).2 1).1
          have y2 := (heap_at ((unhide T0_4_9_3_7).t tb rfl).2 2).1
          have x0 := (heap_at ((unhide T0_4_9_3_7).t tb rfl).2 0).2
          have x1 := (heap_at ((unhide T0_4_9_3_7).t tb rfl).2 1).2
          have x2 := (heap_at ((unhide T0_4_9_3_7).t tb rfl).2 2).2
          have TF := hide hT3
          have htb := ((unhide T0_4_9_3_7).t tb rfl).1
          have BF := hide ((unhide T0_4_9_3_7).bel.trans hb3)
          clear hT3 hb3
          go_simp
          refine hK.out _ _ (unhide SK _ (unhide BF)) (fun hHeld => ?_)
          clear hK K
          refine wpAnyH_done (by kernel_rfl) ?_ _
          go_wp2_with fail
          go_meet
          case rel => exact ⟨tb, a8, k8, a12, k12, rfl, htb, TF, unhide BF⟩
      · have T0_9 := hide (unhide T0).litT
        go_simp
        generalize u0.alloc (.cells #[.slice none 0 0, .slice none 0 0, .slice none 0 0] 30) = u0_9 at *
        generalize u0.heap.size = tb at *
        refine hK.out _ _ (unhide SK _ (unhide T0_9).bel) (fun hHeld => ?_)
        clear hK K
        refine wpAnyH_ready (rs := [3, 4]) (by kernel_rfl) (by simp) ?_
        refine AllReadyH.cons rfl (fun K hK => ?_) (AllReadyH.cons rfl (fun K hK => ?_) AllReadyH.nil)
        · obtain ⟨a8, k8, u0_9_3, hr, hs8⟩ := (unhide T0_9).appG (unhide RG) (unhide LG) (by omega) cg
          have T0_9_3 := hide hs8
          clear hs8
          refine us_stepApp rfl (.tmp 5) (.tmp 7) 27 rfl _ _ (.slice a8 n k8) u0_9_3 (by first | rfl | (simp [Act.eval]; done) | (simp [Act.eval, Act.put]; done)) (by first | rfl | (simp [Act.eval]; done) | (simp [Act.eval, Act.put]; done)) hr ?_
          clear hr
          refine hK.out _ _ (unhide SK _ (unhide T0_9_3).bel) (fun hHeld => ?_)
          clear hK K
          refine wpAnyH_ready (rs := [4]) (by kernel_rfl) (by simp) ?_
          refine AllReadyH.cons rfl (fun K hK => ?_) AllReadyH.nil
          have T0_9_3_4 := hide (unhide T0_9_3).litI
          go_simp
          generalize u0_9_3.alloc (.cells #[] 53) = u0_9_3_4 at *
          generalize u0_9_3.heap.size = g9 at *
          refine hK.out _ _ (unhide SK _ (unhide T0_9_3_4).bel) (fun hHeld => ?_)
          clear hK K
          refine wpAnyH_ready (rs := [7]) (by kernel_rfl) (by simp) ?_
          refine AllReadyH.cons rfl (fun K hK => ?_) AllReadyH.nil
          obtain ⟨a12, k12, u0_9_3_4_7, hr, hs8⟩ := (unhide T0_9_3_4).appI (unhide RI) (by omega) ci
          have T0_9_3_4_7 := hide hs8
          clear hs8
          refine us_stepApp rfl (.tmp 9) (.tmp 11) 28 rfl _ _ (.slice a12 m k12) u0_9_3_4_7 (by first | rfl | (simp [Act.eval]; done) | (simp [Act.eval, Act.put]; done)) (by first | rfl | (simp [Act.eval]; done) | (simp [Act.eval, Act.put]; done)) hr ?_
          clear hr
          refine hK.out _ _ (unhide SK _ (unhide T0_9_3_4_7).bel) (fun hHeld => ?_)
          clear hK K
          refine anyH_take 8 13 (v := ?v11) rfl rfl (by kernel_rfl) (by kernel_rfl) (by kernel_rfl) (fun _ _ _ h => h) (by rfl) ?h11 hHeld ?r11
          case h11 => (intro w hSw; (try dsimp only at hSw); go_simp; try (with_reducible rfl))
          simp only [Act.put, List.setIfInBounds_toArray]
          refine wpAnyH_ready (rs := [10]) (by kernel_rfl) (by simp) ?_
          refine AllReadyH.cons rfl (fun K hK => ?_) AllReadyH.nil
          obtain ⟨hT3, hb3⟩ := tg_store ((unhide T0_9_3_4_7).t tb rfl).2 (show _ from (unhide T0_9_3_4_7).g (.slice a8 n k8) true rfl) (show JOwns _ _ _ idx from (unhide T0_9_3_4_7).i (.slice a12 m k12) true rfl) ((unhide T0_9_3_4_7).t tb rfl).1 (unhide T0_9_3_4_7).bel.size
          have y0 := (heap_at ((unhide T0_9_3_4_7).t tb rfl).2 0).1
          have y1 := (heap_at ((unhide T0_9_3_4_7).t tb rfl).2 1).1
          have y2 := (heap_at ((unhide T0_9_3_4_7).t tb rfl).2 2).1
          have x0 := (heap_at ((unhide T0_9_3_4_7).t tb rfl).2 0).2
          have x1 := (heap_at ((unhide T0_9_3_4_7).t tb rfl).2 1).2
          have x2 := (heap_at ((unhide T0_9_3_4_7).t tb rfl).2 2).2
          have TF := hide hT3
          have htb := ((unhide T0_9_3_4_7).t tb rfl).1
          have BF := hide ((unhide T0_9_3_4_7).bel.trans hb3)
          clear hT3 hb3
          go_simp
          refine hK.out _ _ (unhide SK _ (unhide BF)) (fun hHeld => ?_)
          clear hK K
          refine wpAnyH_done (by kernel_rfl) ?_ _
          go_wp2_with fail
          go_meet
          case rel => exact ⟨tb, a8, k8, a12, k12, rfl, htb, TF, unhide BF⟩
        · have T0_9_4 := hide (unhide T0_9).litI
          go_simp
          generalize u0_9.alloc (.cells #[] 53) = u0_9_4 at *
          generalize u0_9.heap.size = g9 at *
          refine hK.out _ _ (unhide SK _ (unhide T0_9_4).bel) (fun hHeld => ?_)
          clear hK K
          refine wpAnyH_ready (rs := [3]) (by kernel_rfl) (by simp) ?_
          refine AllReadyH.cons rfl (fun K hK => ?_) AllReadyH.nil
          obtain ⟨a8, k8, u0_9_4_3, hr, hs8⟩ := (unhide T0_9_4).appG (unhide RG) (unhide LG) (by omega) cg
          have T0_9_4_3 := hide hs8
          clear hs8
          refine us_stepApp rfl (.tmp 5) (.tmp 7) 27 rfl _ _ (.slice a8 n k8) u0_9_4_3 (by first | rfl | (simp [Act.eval]; done) | (simp [Act.eval, Act.put]; done)) (by first | rfl | (simp [Act.eval]; done) | (simp [Act.eval, Act.put]; done)) hr ?_
          clear hr
          refine hK.out _ _ (unhide SK _ (unhide T0_9_4_3).bel) (fun hHeld => ?_)
          clear hK K
          refine wpAnyH_ready (rs := [7]) (by kernel_rfl) (by simp) ?_
          refine AllReadyH.cons rfl (fun K hK => ?_) AllReadyH.nil
          obtain ⟨a12, k12, u0_9_4_3_7, hr, hs8⟩ := (unhide T0_9_4_3).appI (unhide RI) (by omega) ci
          have T0_9_4_3_7 := hide hs8
          clear hs8
          refine us_stepApp rfl (.tmp 9) (.tmp 11) 28 rfl _ _ (.slice a12 m k12) u0_9_4_3_7 (by first | rfl | (simp [Act.eval]; done) | (simp [Act.eval, Act.put]; done)) (by first | rfl | (simp [Act.eval]; done) | (simp [Act.eval, Act.put]; done)) hr ?_
          clear hr
          refine hK.out _ _ (unhide SK _ (unhide T0_9_4_3_7).bel) (fun hHeld => ?_)
          clear hK K
          refine anyH_take 8 13 (v := ?v12) rfl rfl (by kernel_rfl) (by kernel_rfl) (by kernel_rfl) (fun _ _ _ h => h) (by rfl) ?h12 hHeld ?r12
          case h12 => (intro w hSw; (try dsimp only at hSw); go_simp; try (with_reducible rfl))
          simp only [Act.put, List.setIfInBounds_toArray]
          refine wpAnyH_ready (rs := [10]) (by kernel_rfl) (by simp) ?_
          refine AllReadyH.cons rfl (fun K hK => ?_) AllReadyH.nil
          obtain ⟨hT3, hb3⟩ := tg_store ((unhide T0_9_4_3_7).t tb rfl).2 (show _ from (unhide T0_9_4_3_7).g (.slice a8 n k8) true rfl) (show JOwns _ _ _ idx from (unhide T0_9_4_3_7).i (.slice a12 m k12) true rfl) ((unhide T0_9_4_3_7).t tb rfl).1 (unhide T0_9_4_3_7).bel.size
          have y0 := (heap_at ((unhide T0_9_4_3_7).t tb rfl).2 0).1
          have y1 := (heap_at ((unhide T0_9_4_3_7).t tb rfl).2 1).1
          have y2 := (heap_at ((unhide T0_9_4_3_7).t tb rfl).2 2).1
          have x0 := (heap_at ((unhide T0_9_4_3_7).t tb rfl).2 0).2
          have x1 := (heap_at ((unhide T0_9_4_3_7).t tb rfl).2 1).2
          have x2 := (heap_at ((unhide T0_9_4_3_7).t tb rfl).2 2).2
          have TF := hide hT3
          have htb := ((unhide T0_9_4_3_7).t tb rfl).1
          have BF := hide ((unhide T0_9_4_3_7).bel.trans hb3)
          clear hT3 hb3
          go_simp
          refine hK.out _ _ (unhide SK _ (unhide BF)) (fun hHeld => ?_)
          clear hK K
          refine wpAnyH_done (by kernel_rfl) ?_ _
          go_wp2_with fail
          go_meet
          case rel => exact ⟨tb, a8, k8, a12, k12, rfl, htb, TF, unhide BF⟩
    · have T4 := hide (unhide T0).litI
      go_simp
      generalize u0.alloc (.cells #[] 53) = u4 at *
      generalize u0.heap.size = g9 at *
      refine hK.out _ _ (unhide SK _ (unhide T4).bel) (fun hHeld => ?_)
      clear hK K
      refine wpAnyH_ready (rs := [0, 9]) (by kernel_rfl) (by simp) ?_
      refine AllReadyH.cons rfl (fun K hK => ?_) (AllReadyH.cons rfl (fun K hK => ?_) AllReadyH.nil)
      · have T4_0 := hide (unhide T4).litG
        go_simp
        generalize u4.alloc (.cells #[] 4) = u4_0 at *
        generalize u4.heap.size = g5 at *
        refine hK.out _ _ (unhide SK _ (unhide T4_0).bel) (fun hHeld => ?_)
        clear hK K
        refine wpAnyH_ready (rs := [3, 9]) (by kernel_rfl) (by simp) ?_
        refine AllReadyH.cons rfl (fun K hK => ?_) (AllReadyH.cons rfl (fun K hK => ?_) AllReadyH.nil)
        · obtain ⟨a8, k8, u4_0_3, hr, hs8⟩ := (unhide T4_0).appG (unhide RG) (unhide LG) (by omega) cg
          have T4_0_3 := hide hs8
          clear hs8
          refine us_stepApp rfl (.tmp 5) (.tmp 7) 27 rfl _ _ (.slice a8 n k8) u4_0_3 (by first | rfl | (simp [Act.eval]; done) | (simp [Act.eval, Act.put]; done)) (by first | rfl | (simp [Act.eval]; done) | (simp [Act.eval, Act.put]; done)) hr ?_
          clear hr
          refine hK.out _ _ (unhide SK _ (unhide T4_0_3).bel) (fun hHeld => ?_)
          clear hK K
          refine wpAnyH_ready (rs := [7, 9]) (by kernel_rfl) (by simp) ?_
          refine AllReadyH.cons rfl (fun K hK => ?_) (AllReadyH.cons rfl (fun K hK => ?_) AllReadyH.nil)
          · obtain ⟨a12, k12, u4_0_3_7, hr, hs8⟩ := (unhide T4_0_3).appI (unhide RI) (by omega) ci
            have T4_0_3_7 := hide hs8
            clear hs8
            refine us_stepApp rfl (.tmp 9) (.tmp 11) 28 rfl _ _ (.slice a12 m k12) u4_0_3_7 (by first | rfl | (simp [Act.eval]; done) | (simp [Act.eval, Act.put]; done)) (by first | rfl | (simp [Act.eval]; done) | (simp [Act.eval, Act.put]; done)) hr ?_
            clear hr
            refine hK.out _ _ (unhide SK _ (unhide T4_0_3_7).bel) (fun hHeld => ?_)
            clear hK K
            refine anyH_take 8 13 (v := ?v13) rfl rfl (by kernel_rfl) (by kernel_rfl) (by kernel_rfl) (fun _ _ _ h => h) (by rfl) ?h13 hHeld ?r13
            case h13 => (intro w hSw; (try dsimp only at hSw); go_simp; try (with_reducible rfl))
            simp only [Act.put, List.setIfInBounds_toArray]
            refine wpAnyH_ready (rs := [9]) (by kernel_rfl) (by simp) ?_
            refine AllReadyH.cons rfl (fun K hK => ?_) AllReadyH.nil
            have T4_0_3_7_9 := hide (unhide T4_0_3_7).litT
            go_simp
            generalize u4_0_3_7.alloc (.cells #[.slice none 0 0, .slice none 0 0, .slice none 0 0] 30) = u4_0_3_7_9 at *
            generalize u4_0_3_7.heap.size = tb at *
            refine hK.out _ _ (unhide SK _ (unhide T4_0_3_7_9).bel) (fun hHeld => ?_)
            clear hK K
            refine wpAnyH_ready (rs := [10]) (by kernel_rfl) (by simp) ?_
            refine AllReadyH.cons rfl (fun K hK => ?_) AllReadyH.nil
            obtain ⟨hT3, hb3⟩ := tg_store ((unhide T4_0_3_7_9).t tb rfl).2 (show _ from (unhide T4_0_3_7_9).g (.slice a8 n k8) true rfl) (show JOwns _ _ _ idx from (unhide T4_0_3_7_9).i (.slice a12 m k12) true rfl) ((unhide T4_0_3_7_9).t tb rfl).1 (unhide T4_0_3_7_9).bel.size
            have y0 := (heap_at ((unhide T4_0_3_7_9).t tb rfl).2 0).1
            have y1 := (heap_at ((unhide T4_0_3_7_9).t tb rfl).2 1).1
            have y2 := (heap_at ((unhide T4_0_3_7_9).t tb rfl).2 2).1
            have x0 := (heap_at ((unhide T4_0_3_7_9).t tb rfl).2 0).2
            have x1 := (heap_at ((unhide T4_0_3_7_9).t tb rfl).2 1).2
            have x2 := (heap_at ((unhide T4_0_3_7_9).t tb rfl).2 2).2
            have TF := hide hT3
            have htb := ((unhide T4_0_3_7_9).t tb rfl).1
            have BF := hide ((unhide T4_0_3_7_9).bel.trans hb3)
            clear hT3 hb3
            go_simp
            refine hK.out _ _ (unhide SK _ (unhide BF)) (fun hHeld => ?_)
            clear hK K
            refine wpAnyH_done (by kernel_rfl) ?_ _
            go_wp2_with fail
            go_meet
            case rel => exact ⟨tb, a8, k8, a12, k12, rfl, htb, TF, unhide BF⟩
          · have T4_0_3_9 := hide (unhide T4_0_3).litT
            go_simp
            generalize u4_0_3.alloc (.cells #[.slice none 0 0, .slice none 0 0, .slice none 0 0] 30) = u4_0_3_9 at *
            generalize u4_0_3.heap.size = tb at *
            refine hK.out _ _ (unhide SK _ (unhide T4_0_3_9).bel) (fun hHeld => ?_)
            clear hK K
            refine wpAnyH_ready (rs := [7]) (by kernel_rfl) (by simp) ?_
            refine AllReadyH.cons rfl (fun K hK => ?_) AllReadyH.nil
            obtain ⟨a12, k12, u4_0_3_9_7, hr, hs8⟩ := (unhide T4_0_3_9).appI (unhide RI) (by omega) ci
            have T4_0_3_9_7 := hide hs8
            clear hs8
            refine us_stepApp rfl (.tmp 9) (.tmp 11) 28 rfl _ _ (.slice a12 m k12) u4_0_3_9_7 (by first | rfl | (simp [Act.eval]; done) | (simp [Act.eval, Act.put]; done)) (by first | rfl | (simp [Act.eval]; done) | (simp [Act.eval, Act.put]; done)) hr ?_
            clear hr
            refine hK.out _ _ (unhide SK _ (unhide T4_0_3_9_7).bel) (fun hHeld => ?_)
            clear hK K
            refine anyH_take 8 13 (v := ?v14) rfl rfl (by kernel_rfl) (by kernel_rfl) (by kernel_rfl) (fun _ _ _ h => h) (by rfl) ?h14 hHeld ?r14
            case h14 => (intro w hSw; (try dsimp only at hSw); go_simp; try (with_reducible rfl))
            simp only [Act.put, List.setIfInBounds_toArray]
            refine wpAnyH_ready (rs := [10]) (by kernel_rfl) (by simp) ?_
            refine AllReadyH.cons rfl (fun K hK => ?_) AllReadyH.nil
            obtain ⟨hT3, hb3⟩ := tg_store ((unhide T4_0_3_9_7).t tb rfl).2 (show _ from (unhide T4_0_3_9_7).g (.slice a8 n k8) true rfl) (show JOwns _ _ _ idx from (unhide T4_0_3_9_7).i (.slice a12 m k12) true rfl) ((unhide T4_0_3_9_7).t tb rfl).1 (unhide T4_0_3_9_7).bel.size
            have y0 := (heap_at ((unhide T4_0_3_9_7).t tb rfl).2 0).1
            have y1 := (heap_at ((unhide T4_0_3_9_7).t tb rfl).2 1).1
            have y2 := (heap_at ((unhide T4_0_3_9_7).t tb rfl).2 2).1
            have x0 := (heap_at ((unhide T4_0_3_9_7).t tb rfl).2 0).2
            have x1 := (heap_at ((unhide T4_0_3_9_7).t tb rfl).2 1).2
            have x2 := (heap_at ((unhide T4_0_3_9_7).t tb rfl).2 2).2
            have TF := hide hT3
            have htb := ((unhide T4_0_3_9_7).t tb rfl).1
            have BF := hide ((unhide T4_0_3_9_7).bel.trans hb3)
            clear hT3 hb3
            go_simp
            refine hK.out _ _ (unhide SK _ (unhide BF)) (fun hHeld => ?_)
            clear hK K
            refine wpAnyH_done (by kernel_rfl) ?_ _
            go_wp2_with fail
            go_meet
            case rel => exact ⟨tb, a8, k8, a12, k12, rfl, htb, TF, unhide BF⟩
        · have T4_0_9 := hide (unhide T4_0).litT
          go_simp
          generalize u4_0.alloc (.cells #[.slice none 0 0, .slice none 0 0, .slice none 0 0] 30) = u4_0_9 at *
          generalize u4_0.heap.size = tb at *
          refine hK.out _ _ (unhide SK _ (unhide T4_0_9).bel) (fun hHeld => ?_)
          clear hK K
          refine wpAnyH_ready (rs := [3]) (by kernel_rfl) (by simp) ?_
          refine AllReadyH.cons rfl (fun K hK => ?_) AllReadyH.nil
          obtain ⟨a8, k8, u4_0_9_3, hr, hs8⟩ := (unhide T4_0_9).appG (unhide RG) (unhide LG) (by omega) cg
          have T4_0_9_3 := hide hs8
          clear hs8
          refine us_stepApp rfl (.tmp 5) (.tmp 7) 27 rfl _ _ (.slice a8 n k8) u4_0_9_3 (by first | rfl | (simp [Act.eval]; done) | (simp [Act.eval, Act.put]; done)) (by first | rfl | (simp [Act.eval]; done) | (simp [Act.eval, Act.put]; done)) hr ?_
          clear hr
          refine hK.out _ _ (unhide SK _ (unhide T4_0_9_3).bel) (fun hHeld => ?_)
          clear hK K
          refine wpAnyH_ready (rs := [7]) (by kernel_rfl) (by simp) ?_
          refine AllReadyH.cons rfl (fun K hK => ?_) AllReadyH.nil
          obtain ⟨a12, k12, u4_0_9_3_7, hr, hs8⟩ := (unhide T4_0_9_3).appI (unhide RI) (by omega) ci
          have T4_0_9_3_7 := hide hs8
          clear hs8
          refine us_stepApp rfl (.tmp 9) (.tmp 11) 28 rfl _ _ (.slice a12 m k12) u4_0_9_3_7 (by first | rfl | (simp [Act.eval]; done) | (simp [Act.eval, Act.put]; done)) (by first | rfl | (simp [Act.eval]; done) | (simp [Act.eval, Act.put]; done)) hr ?_
          clear hr
          refine hK.out _ _ (unhide SK _ (unhide T4_0_9_3_7).bel) (fun hHeld => ?_)
          clear hK K
          refine anyH_take 8 13 (v := ?v15) rfl rfl (by kernel_rfl) (by kernel_rfl) (by kernel_rfl) (fun _ _ _ h => h) (by rfl) ?h15 hHeld ?r15
          case h15 => (intro w hSw; (try dsimp only at hSw); go_simp; try (with_reducible rfl))
          simp only [Act.put, List.setIfInBounds_toArray]
          refine wpAnyH_ready (rs := [10]) (by kernel_rfl) (by simp) ?_
          refine AllReadyH.cons rfl (fun K hK => ?_) AllReadyH.nil
          obtain ⟨hT3, hb3⟩ := tg_store ((unhide T4_0_9_3_7).t tb rfl).2 (show _ from (unhide T4_0_9_3_7).g (.slice a8 n k8) true rfl) (show JOwns _ _ _ idx from (unhide T4_0_9_3_7).i (.slice a12 m k12) true rfl) ((unhide T4_0_9_3_7).t tb rfl).1 (unhide T4_0_9_3_7).bel.size
          have y0 := (heap_at ((unhide T4_0_9_3_7).t tb rfl).2 0).1
          have y1 := (heap_at ((unhide T4_0_9_3_7).t tb rfl).2 1).1
          have y2 := (heap_at ((unhide T4_0_9_3_7).t tb rfl).2 2).1
          have x0 := (heap_at ((unhide T4_0_9_3_7).t tb rfl).2 0).2
          have x1 := (heap_at ((unhide T4_0_9_3_7).t tb rfl).2 1).2
          have x2 := (heap_at ((unhide T4_0_9_3_7).t tb rfl).2 2).2
          have TF := hide hT3
          have htb := ((unhide T4_0_9_3_7).t tb rfl).1
          have BF := hide ((unhide T4_0_9_3_7).bel.trans hb3)
          clear hT3 hb3
          go_simp
          refine hK.out _ _ (unhide SK _ (unhide BF)) (fun hHeld => ?_)
          clear hK K
          refine wpAnyH_done (by kernel_rfl) ?_ _
          go_wp2_with fail
          go_meet
          case rel => exact ⟨tb, a8, k8, a12, k12, rfl, htb, TF, unhide BF⟩
      · have T4_9 := hide (unhide T4).litT
        go_simp
        generalize u4.alloc (.cells #[.slice none 0 0, .slice none 0 0, .slice none 0 0] 30) = u4_9 at *
        generalize u4.heap.size = tb at *
        refine hK.out _ _ (unhide SK _ (unhide T4_9).bel) (fun hHeld => ?_)
        clear hK K
        refine wpAnyH_ready (rs := [0]) (by kernel_rfl) (by simp) ?_
        refine AllReadyH.cons rfl (fun K hK => ?_) AllReadyH.nil
        have T4_9_0 := hide (unhide T4_9).litG
        go_simp
        generalize u4_9.alloc (.cells #[] 4) = u4_9_0 at *
        generalize u4_9.heap.size = g5 at *
        refine hK.out _ _ (unhide SK _ (unhide T4_9_0).bel) (fun hHeld => ?_)
        clear hK K
        refine wpAnyH_ready (rs := [3]) (by kernel_rfl) (by simp) ?_
        refine AllReadyH.cons rfl (fun K hK => ?_) AllReadyH.nil
        obtain ⟨a8, k8, u4_9_0_3, hr, hs8⟩ := (unhide T4_9_0).appG (unhide RG) (unhide LG) (by omega) cg
        have T4_9_0_3 := hide hs8
        clear hs8
        refine us_stepApp rfl (.tmp 5) (.tmp 7) 27 rfl _ _ (.slice a8 n k8) u4_9_0_3 (by first | rfl | (simp [Act.eval]; done) | (simp [Act.eval, Act.put]; done)) (by first | rfl | (simp [Act.eval]; done) | (simp [Act.eval, Act.put]; done)) hr ?_
        clear hr
        refine hK.out _ _ (unhide SK _ (unhide T4_9_0_3).bel) (fun hHeld => ?_)
        clear hK K
        refine wpAnyH_ready (rs := [7]) (by kernel_rfl) (by simp) ?_
        refine AllReadyH.cons rfl (fun K hK => ?_) AllReadyH.nil
        obtain ⟨a12, k12, u4_9_0_3_7, hr, hs8⟩ := (unhide T4_9_0_3).appI (unhide RI) (by omega) ci
        have T4_9_0_3_7 := hide hs8
        clear hs8
        refine us_stepApp rfl (.tmp 9) (.tmp 11) 28 rfl _ _ (.slice a12 m k12) u4_9_0_3_7 (by first | rfl | (simp [Act.eval]; done) | (simp [Act.eval, Act.put]; done)) (by first | rfl | (simp [Act.eval]; done) | (simp [Act.eval, Act.put]; done)) hr ?_
        clear hr
        refine hK.out _ _ (unhide SK _ (unhide T4_9_0_3_7).bel) (fun hHeld => ?_)
        clear hK K
        refine anyH_take 8 13 (v := ?v16) rfl rfl (by kernel_rfl) (by kernel_rfl) (by kernel_rfl) (fun _ _ _ h => h) (by rfl) ?h16 hHeld ?r16
        case h16 => (intro w hSw; (try dsimp only at hSw); go_simp; try (with_reducible rfl))
        simp only [Act.put, List.setIfInBounds_toArray]
        refine wpAnyH_ready (rs := [10]) (by kernel_rfl) (by simp) ?_
        refine AllReadyH.cons rfl (fun K hK => ?_) AllReadyH.nil
        obtain ⟨hT3, hb3⟩ := tg_store ((unhide T4_9_0_3_7).t tb rfl).2 (show _ from (unhide T4_9_0_3_7).g (.slice a8 n k8) true rfl) (show JOwns _ _ _ idx from (unhide T4_9_0_3_7).i (.slice a12 m k12) true rfl) ((unhide T4_9_0_3_7).t tb rfl).1 (unhide T4_9_0_3_7).bel.size
        have y0 := (heap_at ((unhide T4_9_0_3_7).t tb rfl).2 0).1
        have y1 := (heap_at ((unhide T4_9_0_3_7).t tb rfl).2 1).1
        have y2 := (heap_at ((unhide T4_9_0_3_7).t tb rfl).2 2).1
        have x0 := (heap_at ((unhide T4_9_0_3_7).t tb rfl).2 0).2
        have x1 := (heap_at ((unhide T4_9_0_3_7).t tb rfl).2 1).2
        have x2 := (heap_at ((unhide T4_9_0_3_7).t tb rfl).2 2).2
        have TF := hide hT3
        have htb := ((unhide T4_9_0_3_7).t tb rfl).1
        have BF := hide ((unhide T4_9_0_3_7).bel.trans hb3)
        clear hT3 hb3
        go_simp
        refine hK.out _ _ (unhide SK _ (unhide BF)) (fun hHeld => ?_)
        clear hK K
        refine wpAnyH_done (by kernel_rfl) ?_ _
        go_wp2_with fail
        go_meet
        case rel => exact ⟨tb, a8, k8, a12, k12, rfl, htb, TF, unhide BF⟩
    · have T9 := hide (unhide T0).litT
      go_simp
      generalize u0.alloc (.cells #[.slice none 0 0, .slice none 0 0, .slice none 0 0] 30) = u9 at *
      generalize u0.heap.size = tb at *
      refine hK.out _ _ (unhide SK _ (unhide T9).bel) (fun hHeld => ?_)
      clear hK K
      refine wpAnyH_ready (rs := [0, 4]) (by kernel_rfl) (by simp) ?_
      refine AllReadyH.cons rfl (fun K hK => ?_) (AllReadyH.cons rfl (fun K hK => ?_) AllReadyH.nil)
      · have T9_0 := hide (unhide T9).litG
        go_simp
        generalize u9.alloc (.cells #[] 4) = u9_0 at *
        generalize u9.heap.size = g5 at *
        refine hK.out _ _ (unhide SK _ (unhide T9_0).bel) (fun hHeld => ?_)
        clear hK K
        refine wpAnyH_ready (rs := [3, 4]) (by kernel_rfl) (by simp) ?_
        refine AllReadyH.cons rfl (fun K hK => ?_) (AllReadyH.cons rfl (fun K hK => ?_) AllReadyH.nil)
        · obtain ⟨a8, k8, u9_0_3, hr, hs8⟩ := (unhide T9_0).appG (unhide RG) (unhide LG) (by omega) cg
          have T9_0_3 := hide hs8
          clear hs8
          refine us_stepApp rfl (.tmp 5) (.tmp 7) 27 rfl _ _ (.slice a8 n k8) u9_0_3 (by first | rfl | (simp [Act.eval]; done) | (simp [Act.eval, Act.put]; done)) (by first | rfl | (simp [Act.eval]; done) | (simp [Act.eval, Act.put]; done)) hr ?_
          clear hr
          refine hK.out _ _ (unhide SK _ (unhide T9_0_3).bel) (fun hHeld => ?_)
          clear hK K
          refine wpAnyH_ready (rs := [4]) (by kernel_rfl) (by simp) ?_
          refine AllReadyH.cons rfl (fun K hK => ?_) AllReadyH.nil
          have T9_0_3_4 := hide (unhide T9_0_3).litI
          go_simp
          generalize u9_0_3.alloc (.cells #[] 53) = u9_0_3_4 at *
          generalize u9_0_3.heap.size = g9 at *
          refine hK.out _ _ (unhide SK _ (unhide T9_0_3_4).bel) (fun hHeld => ?_)
          clear hK K
          refine wpAnyH_ready (rs := [7]) (by kernel_rfl) (by simp) ?_
          refine AllReadyH.cons rfl (fun K hK => ?_) AllReadyH.nil
          obtain ⟨a12, k12, u9_0_3_4_7, hr, hs8⟩ := (unhide T9_0_3_4).appI (unhide RI) (by omega) ci
          have T9_0_3_4_7 := hide hs8
          clear hs8
          refine us_stepApp rfl (.tmp 9) (.tmp 11) 28 rfl _ _ (.slice a12 m k12) u9_0_3_4_7 (by first | rfl | (simp [Act.eval]; done) | (simp [Act.eval, Act.put]; done)) (by first | rfl | (simp [Act.eval]; done) | (simp [Act.eval, Act.put]; done)) hr ?_
          clear hr
          refine hK.out _ _ (unhide SK _ (unhide T9_0_3_4_7).bel) (fun hHeld => ?_)
          clear hK K
          refine anyH_take 8 13 (v := ?v17) rfl rfl (by kernel_rfl) (by kernel_rfl) (by kernel_rfl) (fun _ _ _ h => h) (by rfl) ?h17 hHeld ?r17
          case h17 => (intro w hSw; (try dsimp only at hSw); go_simp; try (with_reducible rfl))
          simp only [Act.put, List.setIfInBounds_toArray]
          refine wpAnyH_ready (rs := [10]) (by kernel_rfl) (by simp) ?_
          refine AllReadyH.cons rfl (fun K hK => ?_) AllReadyH.nil
          obtain ⟨hT3, hb3⟩ := tg_store ((unhide T9_0_3_4_7).t tb rfl).2 (show _ from (unhide T9_0_3_4_7).g (.slice a8 n k8) true rfl) (show JOwns _ _ _ idx from (unhide T9_0_3_4_7).i (.slice a12 m k12) true rfl) ((unhide T9_0_3_4_7).t tb rfl).1 (unhide T9_0_3_4_7).bel.size
          have y0 := (heap_at ((unhide T9_0_3_4_7).t tb rfl).2 0).1
          have y1 := (heap_at ((unhide T9_0_3_4_7).t tb rfl).2 1).1
          have y2 := (heap_at ((unhide T9_0_3_4_7).t tb rfl).2 2).1
          have x0 := (heap_at ((unhide T9_0_3_4_7).t tb rfl).2 0).2
          have x1 := (heap_at ((unhide T9_0_3_4_7).t tb rfl).2 1).2
          have x2 := (heap_at ((unhide T9_0_3_4_7).t tb rfl).2 2).2
          have TF := hide hT3
          have htb := ((unhide T9_0_3_4_7).t tb rfl).1
          have BF := hide ((unhide T9_0_3_4_7).bel.trans hb3)
          clear hT3 hb3
          go_simp
          refine hK.out _ _ (unhide SK _ (unhide BF)) (fun hHeld => ?_)
          clear hK K
          refine wpAnyH_done (by kernel_rfl) ?_ _
          go_wp2_with fail
          go_meet
          case rel => exact ⟨tb, a8, k8, a12, k12, rfl, htb, TF, unhide BF⟩
        · have T9_0_4 := hide (unhide T9_0).litI
          go_simp
          generalize u9_0.alloc (.cells #[] 53) = u9_0_4 at *
          generalize u9_0.heap.size = g9 at *
          refine hK.out _ _ (unhide SK _ (unhide T9_0_4).bel) (fun hHeld => ?_)
          clear hK K
          refine wpAnyH_ready (rs := [3]) (by kernel_rfl) (by simp) ?_
          refine AllReadyH.cons rfl (fun K hK => ?_) AllReadyH.nil
          obtain ⟨a8, k8, u9_0_4_3, hr, hs8⟩ := (unhide T9_0_4).appG (unhide RG) (unhide LG) (by omega) cg
          have T9_0_4_3 := hide hs8
          clear hs8
          refine us_stepApp rfl (.tmp 5) (.tmp 7) 27 rfl _ _ (.slice a8 n k8) u9_0_4_3 (by first | rfl | (simp [Act.eval]; done) | (simp [Act.eval, Act.put]; done)) (by first | rfl | (simp [Act.eval]; done) | (simp [Act.eval, Act.put]; done)) hr ?_
          clear hr
          refine hK.out _ _ (unhide SK _ (unhide T9_0_4_3).bel) (fun hHeld => ?_)
          clear hK K
          refine wpAnyH_ready (rs := [7]) (by kernel_rfl) (by simp) ?_
          refine AllReadyH.cons rfl (fun K hK => ?_) AllReadyH.nil
          obtain ⟨a12, k12, u9_0_4_3_7, hr, hs8⟩ := (unhide T9_0_4_3).appI (unhide RI) (by omega) ci
          have T9_0_4_3_7 := hide hs8
          clear hs8
          refine us_stepApp rfl (.tmp 9) (.tmp 11) 28 rfl _ _ (.slice a12 m k12) u9_0_4_3_7 (by first | rfl | (simp [Act.eval]; done) | (simp [Act.eval, Act.put]; done)) (by first | rfl | (simp [Act.eval]; done) | (simp [Act.eval, Act.put]; done)) hr ?_
          clear hr
          refine hK.out _ _ (unhide SK _ (unhide T9_0_4_3_7).bel) (fun hHeld => ?_)
          clear hK K
          refine anyH_take 8 13 (v := ?v18) rfl rfl (by kernel_rfl) (by kernel_rfl) (by kernel_rfl) (fun _ _ _ h => h) (by rfl) ?h18 hHeld ?r18
          case h18 => (intro w hSw; (try dsimp only at hSw); go_simp; try (with_reducible rfl))
          simp only [Act.put, List.setIfInBounds_toArray]
          refine wpAnyH_ready (rs := [10]) (by kernel_rfl) (by simp) ?_
          refine AllReadyH.cons rfl (fun K hK => ?_) AllReadyH.nil
          obtain ⟨hT3, hb3⟩ := tg_store ((unhide T9_0_4_3_7).t tb rfl).2 (show _ from (unhide T9_0_4_3_7).g (.slice a8 n k8) true rfl) (show JOwns _ _ _ idx from (unhide T9_0_4_3_7).i (.slice a12 m k12) true rfl) ((unhide T9_0_4_3_7).t tb rfl).1 (unhide T9_0_4_3_7).bel.size
          have y0 := (heap_at ((unhide T9_0_4_3_7).t tb rfl).2 0).1
          have y1 := (heap_at ((unhide T9_0_4_3_7).t tb rfl).2 1).1
          have y2 := (heap_at ((unhide T9_0_4_3_7).t tb rfl).2 2).1
          have x0 := (heap_at ((unhide T9_0_4_3_7).t tb rfl).2 0).2
          have x1 := (heap_at ((unhide T9_0_4_3_7).t tb rfl).2 1).2
          have x2 := (heap_at ((unhide T9_0_4_3_7).t tb rfl).2 2).2
          have TF := hide hT3
          have htb := ((unhide T9_0_4_3_7).t tb rfl).1
          have BF := hide ((unhide T9_0_4_3_7).bel.trans hb3)
          clear hT3 hb3
          go_simp
          refine hK.out _ _ (unhide SK _ (unhide BF)) (fun hHeld => ?_)
          clear hK K
          refine wpAnyH_done (by kernel_rfl) ?_ _
          go_wp2_with fail
          go_meet
          case rel => exact ⟨tb, a8, k8, a12, k12, rfl, htb, TF, unhide BF⟩
      · have T9_4 := hide (unhide T9).litI
        go_simp
        generalize u9.alloc (.cells #[] 53) = u9_4 at *
        generalize u9.heap.size = g9 at *
        refine hK.out _ _ (unhide SK _ (unhide T9_4).bel) (fun hHeld => ?_)
        clear hK K
        refine wpAnyH_ready (rs := [0]) (by kernel_rfl) (by simp) ?_
        refine AllReadyH.cons rfl (fun K hK => ?_) AllReadyH.nil
        have T9_4_0 := hide (unhide T9_4).litG
        go_simp
        generalize u9_4.alloc (.cells #[] 4) = u9_4_0 at *
        generalize u9_4.heap.size = g5 at *
        refine hK.out _ _ (unhide SK _ (unhide T9_4_0).bel) (fun hHeld => ?_)
        clear hK K
        refine wpAnyH_ready (rs := [3]) (by kernel_rfl) (by simp) ?_
        refine AllReadyH.cons rfl (fun K hK => ?_) AllReadyH.nil
        obtain ⟨a8, k8, u9_4_0_3, hr, hs8⟩ := (unhide T9_4_0).appG (unhide RG) (unhide LG) (by omega) cg
        have T9_4_0_3 := hide hs8
        clear hs8
        refine us_stepApp rfl (.tmp 5) (.tmp 7) 27 rfl _ _ (.slice a8 n k8) u9_4_0_3 (by first | rfl | (simp [Act.eval]; done) | (simp [Act.eval, Act.put]; done)) (by first | rfl | (simp [Act.eval]; done) | (simp [Act.eval, Act.put]; done)) hr ?_
        clear hr
        refine hK.out _ _ (unhide SK _ (unhide T9_4_0_3).bel) (fun hHeld => ?_)
        clear hK K
        refine wpAnyH_ready (rs := [7]) (by kernel_rfl) (by simp) ?_
        refine AllReadyH.cons rfl (fun K hK => ?_) AllReadyH.nil
        obtain ⟨a12, k12, u9_4_0_3_7, hr, hs8⟩ := (unhide T9_4_0_3).appI (unhide RI) (by omega) ci
        have T9_4_0_3_7 := hide hs8
        clear hs8
        refine us_stepApp rfl (.tmp 9) (.tmp 11) 28 rfl _ _ (.slice a12 m k12) u9_4_0_3_7 (by first | rfl | (simp [Act.eval]; done) | (simp [Act.eval, Act.put]; done)) (by first | rfl | (simp [Act.eval]; done) | (simp [Act.eval, Act.put]; done)) hr ?_
        clear hr
        refine hK.out _ _ (unhide SK _ (unhide T9_4_0_3_7).bel) (fun hHeld => ?_)
        clear hK K
        refine anyH_take 8 13 (v := ?v19) rfl rfl (by kernel_rfl) (by kernel_rfl) (by kernel_rfl) (fun _ _ _ h => h) (by rfl) ?h19 hHeld ?r19
        case h19 => (intro w hSw; (try dsimp only at hSw); go_simp; try (with_reducible rfl))
        simp only [Act.put, List.setIfInBounds_toArray]
        refine wpAnyH_ready (rs := [10]) (by kernel_rfl) (by simp) ?_
        refine AllReadyH.cons rfl (fun K hK => ?_) AllReadyH.nil
        obtain ⟨hT3, hb3⟩ := tg_store ((unhide T9_4_0_3_7).t tb rfl).2 (show _ from (unhide T9_4_0_3_7).g (.slice a8 n k8) true rfl) (show JOwns _ _ _ idx from (unhide T9_4_0_3_7).i (.slice a12 m k12) true rfl) ((unhide T9_4_0_3_7).t tb rfl).1 (unhide T9_4_0_3_7).bel.size
        have y0 := (heap_at ((unhide T9_4_0_3_7).t tb rfl).2 0).1
        have y1 := (heap_at ((unhide T9_4_0_3_7).t tb rfl).2 1).1
        have y2 := (heap_at ((unhide T9_4_0_3_7).t tb rfl).2 2).1
        have x0 := (heap_at ((unhide T9_4_0_3_7).t tb rfl).2 0).2
        have x1 := (heap_at ((unhide T9_4_0_3_7).t tb rfl).2 1).2
        have x2 := (heap_at ((unhide T9_4_0_3_7).t tb rfl).2 2).2
        have TF := hide hT3
        have htb := ((unhide T9_4_0_3_7).t tb rfl).1
        have BF := hide ((unhide T9_4_0_3_7).bel.trans hb3)
        clear hT3 hb3
        go_simp
        refine hK.out _ _ (unhide SK _ (unhide BF)) (fun hHeld => ?_)
        clear hK K
        refine wpAnyH_done (by kernel_rfl) ?_ _
        go_wp2_with fail
        go_meet
        case rel => exact ⟨tb, a8, k8, a12, k12, rfl, htb, TF, unhide BF⟩
  case rest =>
    obtain ⟨tb, ag, cg', ai, ci', rfl, htb, hS0, hb1⟩ := hcut
    clear e1 e2 RG RI S0 cg ci
    go_wp2_with fail
    go_loopw [4] (fun i wr => ∃ (k : Nat) (ap : Option Addr) (cp : Nat) (hs' : List PpH), k ≤ n ∧ i = .int .i64 k ∧ Hid (TgSt wr W.heap.size tb (.slice ap k cp) (.slice ag n cg') (.slice ai m ci') hs' (ps.map (·.isNone)) idx) ∧ Hid (hs'.map (·.X) = (ps.take k).map pgD) ∧ Below W.heap.size W wr) (fun i _ => n - (intOf i).toNat)
    case atStart => exact ⟨0, none, 0, [], Nat.zero_le _, rfl, hS0, rfl, hb1⟩
    case round =>
      clear hS0 hb1
      obtain ⟨k, ap, cp, hs', hk, rfl, hS, hX, hb⟩ := hrel
      have hsl : hs'.length = k := by
        have e := congrArg List.length (unhide hX)
        rw [List.length_map, List.length_map, List.length_take, unhide HLN] at e
        omega
      have x1 : wr.cell? ⟨w.heap.size, 0, none⟩ = some (.slice a1 n c1) := (heap_at ((hb.block w.heap.size hz1).trans (unhide K1)) 0).1
      by_cases hlt : k < n
      case neg =>
        obtain rfl : k = n := by omega
        have ht : ps.take k = ps := List.take_of_length_le (by rw [unhide HLN]; exact Nat.le_refl _)
        rw [ht] at hX
        have t3 := (unhide hS).box
        have z0 := (heap_at t3 0).1
        have z1 := (heap_at t3 1).1
        have z2 := (heap_at t3 2).1
        have hR := (hb.block (w.heap.size + 1) hz2).trans (unhide K2)
        have f0 := (heap_at hR 0).1
        have f1 := (heap_at hR 1).1
        have f2 := (heap_at hR 2).1
        have g0 := (heap_at hR 0).2
        have g1 := (heap_at hR 1).2
        have g2 := (heap_at hR 2).2
        have T0 := (unhide hS).own
        rw [hsl, unhide LG] at T0
        have OWN : TsOwn wr W.heap.size ap cp ag cg' ai ci' k m hs' ps idx := ⟨T0, unhide hX, unhide HLN, unhide HLI⟩
        have O1 := ((OWN.set hz2 0 (.slice ap k cp)).set hz2 1 (.slice ag k cg')).set hz2 2 (.slice ai m ci')
        have bR := (unhide b0h).trans (hb.mono (Nat.le_of_lt hz1))
        have B1 := ((bR.setCell (p := ⟨w.heap.size + 1, 0, none⟩) (Nat.le_succ _) (.slice ap k cp)).setCell (p := ⟨w.heap.size + 1, 1, none⟩) (Nat.le_succ _) (.slice ag k cg')).setCell (p := ⟨w.heap.size + 1, 2, none⟩) (Nat.le_succ _) (.slice ai m ci')
        have RES := hide (show OwnRes k m ps idx w (.returned (.agg #[.slice ap k cp, .slice ag k cg', .slice ai m ci'])) _ from ⟨ap, cp, ag, cg', ai, ci', hs', rfl, O1.dn (Nat.le_of_lt hz1), B1⟩)
        clear t3 hR T0 OWN O1 B1 bR hS ht hX
        go_wp2_with fail
        refine bodyPost_ret (v := .agg #[.slice ap k cp, .slice ag k cg', .slice ai m ci']) (by simp [results, Try.results27, go_sem, *]) rfl ?_
        exact unhide RES
      have hkp : k < ps.length := by rw [unhide HLN]; exact hlt
      obtain ⟨b, x, ha, -, hxX, P⟩ := ((unhide O).below hb).at hkp
      subst ha
      obtain ⟨b', x', ha', -, -, P'⟩ := (unhide O).at hkp
      have hbW : b < W.heap.size := by
        injection ha' with e
        injection e with e _ _
        subst e
        exact cell_lt P'.c0
      clear P' ha' x'
      obtain ⟨f32, f12⟩ := unhide FEW ps[k] (List.getElem_mem hkp)
      rw [← hxX] at f32 f12
      have XQ := hide (show ∀ h : PpH, h.X = x.X → (hs' ++ [h]).map (·.X) = (ps.take (k + 1)).map pgD from fun h e => by
        rw [rb_take_snoc ps k hkp, List.map_append, List.map_append, unhide hX, List.map_singleton, List.map_singleton, e, hxX])
      have ln0 : x.s0.n ≤ 32 := by rw [← P.es.1]; exact f32
      have ln1 : x.s1.n ≤ 12 := by rw [← P.ds.1]; exact f12
      have HL := hide (fun (u : World) (hu : Below wr.heap.size wr u) => l04Own_any x.X.lo x.X.hi x.X.r x.s0.a x.s0.n x.s0.c x.X.es x.s1.a x.s1.n x.s1.c x.X.ds u (P.es.below hu) (P.ds.below hu) (by omega) (by omega) P.ce P.cd)
      unfold pgv at HL
      have q0 := P.c0
      have q1 := P.c1
      have q2 := P.c2
      have q3 := P.c3
      have q4 := P.c4
      have tbx := (heap_at (unhide hS).box 0).1
      have tbl := blk_lt (unhide hS).box
      clear P f32 f12 hxX
      obtain ⟨X, ⟨sa, sn, sc⟩, ⟨da, dn, dc⟩⟩ := x
      simp only at q0 q1 q2 q3 q4 HL XQ
      have hBs : W.heap.size ≤ wr.heap.size := hb.size
      have SK := hide (show ∀ u : World, (∀ i, i < W.heap.size → u.heap[i]? = wr.heap[i]?) → (u.cell? ⟨w.heap.size, 0, none⟩ = some (.slice (some ⟨b, 0, none⟩) n c1) ∧ u.cell? ⟨b, k * 5, none⟩ = some (.string X.lo) ∧ u.cell? ⟨b, k * 5 + 1, none⟩ = some (.string X.hi) ∧ u.cell? ⟨b, k * 5 + 2, none⟩ = some (.int .i64 X.r) ∧ u.cell? ⟨b, k * 5 + 3, none⟩ = some (.slice sa sn sc) ∧ u.cell? ⟨b, k * 5 + 4, none⟩ = some (.slice da dn dc)) from fun u hu => ⟨(World.cell?_of_block (a := ⟨w.heap.size, 0, none⟩) (hu w.heap.size hz1)).trans x1, (World.cell?_of_block (a := ⟨b, k * 5, none⟩) (hu b hbW)).trans q0, (World.cell?_of_block (a := ⟨b, k * 5 + 1, none⟩) (hu b hbW)).trans q1, (World.cell?_of_block (a := ⟨b, k * 5 + 2, none⟩) (hu b hbW)).trans q2, (World.cell?_of_block (a := ⟨b, k * 5 + 3, none⟩) (hu b hbW)).trans q3, (World.cell?_of_block (a := ⟨b, k * 5 + 4, none⟩) (hu b hbW)).trans q4⟩)
      have SB := hide (show ∀ u : World, Below wr.heap.size wr u → (∀ i, i < W.heap.size → u.heap[i]? = wr.heap[i]?) from fun u hu i hi => hu.block i (Nat.lt_of_lt_of_le hi hBs))
      have Y1 := hide (show ∀ u : World, Below wr.heap.size wr u → u.cell? ⟨tb, 0, none⟩ = some (.slice ap k cp) from fun u hu => (hu.cell (p := ⟨tb, 0, none⟩) tbl).trans tbx)
      clear tbx
      go_upto_region 5 with fail
      refine wp_region_held_drew (S := (fun u => (u.cell? ⟨w.heap.size, 0, none⟩ = some (.slice (some ⟨b, 0, none⟩) n c1) ∧ u.cell? ⟨b, k * 5, none⟩ = some (.string X.lo) ∧ u.cell? ⟨b, k * 5 + 1, none⟩ = some (.string X.hi) ∧ u.cell? ⟨b, k * 5 + 2, none⟩ = some (.int .i64 X.r) ∧ u.cell? ⟨b, k * 5 + 3, none⟩ = some (.slice sa sn sc) ∧ u.cell? ⟨b, k * 5 + 4, none⟩ = some (.slice da dn dc)))) (by kernel_rfl) (unhide SK _ (unhide SB _ (Below.refl _ _).drew)) (fun hHeld => ?_)
      have D0 := hide (show Below wr.heap.size wr wr.drew from (Below.refl _ _).drew)
      generalize wr.drew = u0 at *
      refine anyH_take 0 21 (v := ?v20) rfl rfl (by kernel_rfl) (by kernel_rfl) (by kernel_rfl) (fun _ _ _ h => h) (by rfl) ?h20 hHeld ?r20
      case h20 => (intro w hSw; (try dsimp only at hSw); go_simp; try (with_reducible rfl))
      simp only [Act.put, List.setIfInBounds_toArray, List.set_cons_zero, List.set_cons_succ]
      refine anyH_take 2 23 (v := ?v21) rfl rfl (by kernel_rfl) (by kernel_rfl) (by kernel_rfl) (fun _ _ _ h => h) (by rfl) ?h21 hHeld ?r21
      case h21 => (intro w hSw; (try dsimp only at hSw); go_simp; try (with_reducible rfl))
      simp only [Act.put, List.setIfInBounds_toArray, List.set_cons_zero, List.set_cons_succ]
      refine anyH_take 3 24 (v := ?v22) rfl rfl (by kernel_rfl) (by kernel_rfl) (by kernel_rfl) (fun _ _ _ h => h) (by rfl) ?h22 hHeld ?r22
      case h22 => (intro w hSw; (try dsimp only at hSw); go_simp; try (with_reducible rfl))
      simp only [Act.put, List.setIfInBounds_toArray, List.set_cons_zero, List.set_cons_succ]
      refine anyH_take 4 25 (v := ?v23) rfl rfl (by kernel_rfl) (by kernel_rfl) (by kernel_rfl) (fun _ _ _ h => h) (by rfl) ?h23 hHeld ?r23
      case h23 => (intro w hSw; (try dsimp only at hSw); go_simp; try (with_reducible rfl))
      simp only [Act.put, List.setIfInBounds_toArray, List.set_cons_zero, List.set_cons_succ]
      refine anyH_take 5 26 (v := ?v24) rfl rfl (by kernel_rfl) (by kernel_rfl) (by kernel_rfl) (fun _ _ _ h => h) (by rfl) ?h24 hHeld ?r24
      case h24 => (intro w hSw; (try dsimp only at hSw); go_simp; try (with_reducible rfl))
      simp only [Act.put, List.setIfInBounds_toArray, List.set_cons_zero, List.set_cons_succ]
      refine anyH_take 6 27 (v := ?v25) rfl rfl (by kernel_rfl) (by kernel_rfl) (by kernel_rfl) (fun _ _ _ h => h) (by rfl) ?h25 hHeld ?r25
      case h25 => (intro w hSw; (try dsimp only at hSw); go_simp; try (with_reducible rfl))
      simp only [Act.put, List.setIfInBounds_toArray, List.set_cons_zero, List.set_cons_succ]
      refine wpAnyH_ready (rs := [1, 7]) (by kernel_rfl) (by simp) ?_
      refine AllReadyH.cons rfl (fun K hK => ?_) (AllReadyH.cons rfl (fun K hK => ?_) AllReadyH.nil)
      · have y := unhide Y1 _ (unhide D0)
        go_simp
        clear y
        refine hK.out _ _ (hHeld) (fun hHeld => ?_)
        clear hK K
        refine wpAnyH_ready (rs := [7]) (by kernel_rfl) (by simp) ?_
        refine AllReadyH.cons rfl (fun K hK => ?_) AllReadyH.nil
        go_simp
        refine (unhide HL _ (unhide D0)).mono ?_
        rintro e u7 ⟨aE, nE, cE, aD, nD, cD, rfl, hPO, hb7⟩
        have D7 := hide ((unhide D0).trans (hb7.mono (unhide D0).size))
        have D8 := hide ((unhide D7).alloc (unhide D7).size (.cells #[.string X.lo, .string X.hi, .int .i64 X.r, .slice aE nE cE, .slice aD nD cD] 51))
        obtain ⟨vP, w6, hrP, S6, b6, k6⟩ := (unhide hS).page (h := (⟨X, ⟨aE, nE, cE⟩, ⟨aD, nD, cD⟩⟩ : PpH)) (unhide D7) (gd_base hPO.1 (unhide D0).size) (gd_base hPO.2.1 (unhide D0).size) htb (by omega) hBs
        obtain ⟨aP, cP, hvP⟩ : ∃ a c, vP = .slice a (k + 1) c := by
          obtain ⟨a, c, e⟩ := us_sl S6.own.pg.row
          exact ⟨a, c, by rw [e, List.length_append, hsl]; rfl⟩
        subst hvP
        simp only at hrP
        have z6 := (heap_at k6 0).1
        have zf := (heap_at k6 0).2
        have S8 := hide S6
        have X8 := hide (unhide XQ (⟨X, ⟨aE, nE, cE⟩, ⟨aD, nD, cD⟩⟩ : PpH) rfl)
        have B8 := hide (hb.trans b6)
        have E6 := hide (show ∀ i, i < W.heap.size → w6.heap[i]? = wr.heap[i]? from fun i hi => (Below.heap_setCell w6 ⟨tb, 0, none⟩ (.slice aP (k + 1) cP) i (by simp; omega)).symm.trans (b6.block i hi))
        have E7 := hide (show ∀ i, i < W.heap.size → (w6.setCell ⟨tb, 0, none⟩ (.slice aP (k + 1) cP)).heap[i]? = wr.heap[i]? from fun i hi => b6.block i hi)
        clear hPO hb7 S6 b6 k6
        refine hK.out _ _ (unhide SK _ (unhide SB _ (unhide D7))) (fun hHeld => ?_)
        clear hK K
        refine wpAnyH_ready (rs := [8]) (by kernel_rfl) (by simp) ?_
        refine AllReadyH.cons rfl (fun K hK => ?_) AllReadyH.nil
        go_simp
        refine hK.out _ _ (unhide SK _ (unhide SB _ (unhide D8))) (fun hHeld => ?_)
        clear hK K
        refine wpAnyH_ready (rs := [9]) (by kernel_rfl) (by simp) ?_
        refine AllReadyH.cons rfl (fun K hK => ?_) AllReadyH.nil
        refine us_stepApp rfl (.tmp 22) (.tmp 29) 26 rfl _ _ (.slice aP (k + 1) cP) w6 (by first | rfl | (simp [Act.eval]; done) | (simp [Act.eval, Act.put]; done)) (by first | rfl | (simp [Act.eval]; done) | (simp [Act.eval, Act.put]; done)) hrP ?_
        clear hrP
        refine hK.out _ _ (unhide SK _ (unhide E6)) (fun hHeld => ?_)
        clear hK K
        refine anyH_take 10 31 (v := ?v26) rfl rfl (by kernel_rfl) (by kernel_rfl) (by kernel_rfl) (fun _ _ _ h => h) (by rfl) ?h26 hHeld ?r26
        case h26 => (intro w hSw; (try dsimp only at hSw); go_simp; try (with_reducible rfl))
        simp only [Act.put, List.setIfInBounds_toArray]
        refine wpAnyH_ready (rs := [11]) (by kernel_rfl) (by simp) ?_
        refine AllReadyH.cons rfl (fun K hK => ?_) AllReadyH.nil
        go_simp
        refine hK.out _ _ (unhide SK _ (unhide E7)) (fun hHeld => ?_)
        clear hK K
        refine wpAnyH_done (by kernel_rfl) ?_ _
        go_wp2_with fail
        go_roundw
        case rel => exact ⟨k + 1, _, _, _, by omega, by go_num, S8, X8, unhide B8⟩
        case measure => simp [intOf]; omega
      · go_simp
        refine (unhide HL _ (unhide D0)).mono ?_
        rintro e u7 ⟨aE, nE, cE, aD, nD, cD, rfl, hPO, hb7⟩
        have D7 := hide ((unhide D0).trans (hb7.mono (unhide D0).size))
        have D8 := hide ((unhide D7).alloc (unhide D7).size (.cells #[.string X.lo, .string X.hi, .int .i64 X.r, .slice aE nE cE, .slice aD nD cD] 51))
        obtain ⟨vP, w6, hrP, S6, b6, k6⟩ := (unhide hS).page (h := (⟨X, ⟨aE, nE, cE⟩, ⟨aD, nD, cD⟩⟩ : PpH)) (unhide D7) (gd_base hPO.1 (unhide D0).size) (gd_base hPO.2.1 (unhide D0).size) htb (by omega) hBs
        obtain ⟨aP, cP, hvP⟩ : ∃ a c, vP = .slice a (k + 1) c := by
          obtain ⟨a, c, e⟩ := us_sl S6.own.pg.row
          exact ⟨a, c, by rw [e, List.length_append, hsl]; rfl⟩
        subst hvP
        simp only at hrP
        have z6 := (heap_at k6 0).1
        have zf := (heap_at k6 0).2
        have S8 := hide S6
        have X8 := hide (unhide XQ (⟨X, ⟨aE, nE, cE⟩, ⟨aD, nD, cD⟩⟩ : PpH) rfl)
        have B8 := hide (hb.trans b6)
        have E6 := hide (show ∀ i, i < W.heap.size → w6.heap[i]? = wr.heap[i]? from fun i hi => (Below.heap_setCell w6 ⟨tb, 0, none⟩ (.slice aP (k + 1) cP) i (by simp; omega)).symm.trans (b6.block i hi))
        have E7 := hide (show ∀ i, i < W.heap.size → (w6.setCell ⟨tb, 0, none⟩ (.slice aP (k + 1) cP)).heap[i]? = wr.heap[i]? from fun i hi => b6.block i hi)
        clear hPO hb7 S6 b6 k6
        refine hK.out _ _ (unhide SK _ (unhide SB _ (unhide D7))) (fun hHeld => ?_)
        clear hK K
        refine wpAnyH_ready (rs := [1, 8]) (by kernel_rfl) (by simp) ?_
        refine AllReadyH.cons rfl (fun K hK => ?_) (AllReadyH.cons rfl (fun K hK => ?_) AllReadyH.nil)
        · have y := unhide Y1 _ (unhide D7)
          go_simp
          clear y
          refine hK.out _ _ (hHeld) (fun hHeld => ?_)
          clear hK K
          refine wpAnyH_ready (rs := [8]) (by kernel_rfl) (by simp) ?_
          refine AllReadyH.cons rfl (fun K hK => ?_) AllReadyH.nil
          go_simp
          refine hK.out _ _ (unhide SK _ (unhide SB _ (unhide D8))) (fun hHeld => ?_)
          clear hK K
          refine wpAnyH_ready (rs := [9]) (by kernel_rfl) (by simp) ?_
          refine AllReadyH.cons rfl (fun K hK => ?_) AllReadyH.nil
          refine us_stepApp rfl (.tmp 22) (.tmp 29) 26 rfl _ _ (.slice aP (k + 1) cP) w6 (by first | rfl | (simp [Act.eval]; done) | (simp [Act.eval, Act.put]; done)) (by first | rfl | (simp [Act.eval]; done) | (simp [Act.eval, Act.put]; done)) hrP ?_
          clear hrP
          refine hK.out _ _ (unhide SK _ (unhide E6)) (fun hHeld => ?_)
          clear hK K
          refine anyH_take 10 31 (v := ?v27) rfl rfl (by kernel_rfl) (by kernel_rfl) (by kernel_rfl) (fun _ _ _ h => h) (by rfl) ?h27 hHeld ?r27
          case h27 => (intro w hSw; (try dsimp only at hSw); go_simp; try (with_reducible rfl))
          simp only [Act.put, List.setIfInBounds_toArray]
          refine wpAnyH_ready (rs := [11]) (by kernel_rfl) (by simp) ?_
          refine AllReadyH.cons rfl (fun K hK => ?_) AllReadyH.nil
          go_simp
          refine hK.out _ _ (unhide SK _ (unhide E7)) (fun hHeld => ?_)
          clear hK K
          refine wpAnyH_done (by kernel_rfl) ?_ _
          go_wp2_with fail
          go_roundw
          case rel => exact ⟨k + 1, _, _, _, by omega, by go_num, S8, X8, unhide B8⟩
          case measure => simp [intOf]; omega
        · go_simp
          refine hK.out _ _ (unhide SK _ (unhide SB _ (unhide D8))) (fun hHeld => ?_)
          clear hK K
          refine wpAnyH_ready (rs := [1]) (by kernel_rfl) (by simp) ?_
          refine AllReadyH.cons rfl (fun K hK => ?_) AllReadyH.nil
          have y := unhide Y1 _ (unhide D8)
          go_simp
          clear y
          refine hK.out _ _ (hHeld) (fun hHeld => ?_)
          clear hK K
          refine wpAnyH_ready (rs := [9]) (by kernel_rfl) (by simp) ?_
          refine AllReadyH.cons rfl (fun K hK => ?_) AllReadyH.nil
          refine us_stepApp rfl (.tmp 22) (.tmp 29) 26 rfl _ _ (.slice aP (k + 1) cP) w6 (by first | rfl | (simp [Act.eval]; done) | (simp [Act.eval, Act.put]; done)) (by first | rfl | (simp [Act.eval]; done) | (simp [Act.eval, Act.put]; done)) hrP ?_
          clear hrP
          refine hK.out _ _ (unhide SK _ (unhide E6)) (fun hHeld => ?_)
          clear hK K
          refine anyH_take 10 31 (v := ?v28) rfl rfl (by kernel_rfl) (by kernel_rfl) (by kernel_rfl) (fun _ _ _ h => h) (by rfl) ?h28 hHeld ?r28
          case h28 => (intro w hSw; (try dsimp only at hSw); go_simp; try (with_reducible rfl))
          simp only [Act.put, List.setIfInBounds_toArray]
          refine wpAnyH_ready (rs := [11]) (by kernel_rfl) (by simp) ?_
          refine AllReadyH.cons rfl (fun K hK => ?_) AllReadyH.nil
          go_simp
          refine hK.out _ _ (unhide SK _ (unhide E7)) (fun hHeld => ?_)
          clear hK K
          refine wpAnyH_done (by kernel_rfl) ?_ _
          go_wp2_with fail
          go_roundw
          case rel => exact ⟨k + 1, _, _, _, by omega, by go_num, S8, X8, unhide B8⟩
          case measure => simp [intOf]; omega
end Go.Proofs.Ytbhkmmdcdfjbkaa

namespace Go.Proofs.Ytbhkmmdcdfjbkaa
open Go.RowKit

theorem TsOwn.keepT {w w' : World} {B : Nat} {a1 a2 a3 : Option Addr} {c1 c2 c3 n m : Nat} {hs : List PpH} {ps : List (Option PageD)} {idx : List RefD} (h : TsOwn w B a1 c1 a2 c2 a3 c3 n m hs ps idx) {nb : Nat} {cs : Array Value} (hb : w.heap[nb]? = some (.cells cs 30 (0, 0))) (hw : WrB (fun i => i = nb) w w') : TsOwn w' B a1 c1 a2 c2 a3 c3 n m hs ps idx :=
  ⟨⟨h.own.pg.keep hw (fun i hi e => by subst e; exact nbl_tree h.own.pg hb (by decide) (by decide) (by decide) hi), own_keep h.own.go hb (by decide) hw, own_keep h.own.ix hb (by decide) hw⟩, h.dat, h.ln, h.li⟩
theorem own_one {w : World} {B T S g : Nat} {cs : List Value} (hh : w.heap[g]? = some (.cells cs.toArray T (0, 0))) (hB : B ≤ g) (hl : cs.length = S) : w.ownsRow B T S (.slice (some ⟨g, 0, none⟩) 1 1) 1 cs :=
  ⟨by rw [hl, Nat.one_mul], .inr ⟨g, 1, cs.toArray, rfl, hB, hh, Nat.le_refl _, by unfold maxLen; omega, by simp [hl], by simp [← hl]⟩⟩
/-- A new tree, as the specification lays it. -/
theorem new_own {w : World} {B p g i : Nat} (h : T1 w p g i ⟨#[]⟩ ⟨#[]⟩ (-1) false ⟨#[]⟩ 0) (hp : B ≤ p) (hg : B ≤ g) (hi : B ≤ i) : TsOwn w B (some ⟨p, 0, none⟩) 1 (some ⟨g, 0, none⟩) 1 (some ⟨i, 0, none⟩) 1 1 1 [newH] newT [⟨⟨#[]⟩, 0⟩] := by
  have sb : ∀ k a x, sbAt ([newH].map ppEl) k a = some x → x.v = .slice none 0 0 ∧ x.n = 0 ∧ x.cs = [] := fun k a x hx => by
    unfold sbAt at hx
    match k, hx with
    | 0, hx =>
      match a, hx with
      | 0, hx => injection hx with hx; subst hx; exact ⟨rfl, rfl, rfl⟩
      | 1, hx => injection hx with hx; subst hx; exact ⟨rfl, rfl, rfl⟩
      | a + 2, hx => cases hx
    | k + 1, hx => cases hx
  refine ⟨⟨⟨?_, rfl, fun e he => ?_, fun k a x hx => ?_, fun k l a b x y hx hy _ g h1 => ?_, fun k a x hx g _ h1 => ?_⟩, ?_, ?_⟩, rfl, rfl, rfl⟩
  · exact own_one (cs := [.string ⟨#[]⟩, .string ⟨#[]⟩, .int .i64 (-1), .slice none 0 0, .slice none 0 0]) h.pg hp rfl
  · rw [List.mem_singleton.1 he]; rfl
  · obtain ⟨e1, e2, e3⟩ := sb k a x hx
    rw [e1, e2, e3]
    exact World.ownsRow_nil _ _ _ _
  · rw [(sb k a x hx).1] at h1; cases h1
  · rw [(sb k a x hx).1] at h1; cases h1
  · exact own_one (cs := [.bool false]) h.gn hg rfl
  · exact own_one (cs := [.string ⟨#[]⟩, .int .i64 0]) h.ix hi rfl
theorem atT_same {ps : List (Option PageD)} {idx : List RefD} {id : Int} {f : Nat → PageD → StR} (hf : ∀ k p, (f k p).code ≠ 0 → (f k p).ps = ps ∧ (f k p).idx = idx) (h : (atT ps idx id f).code ≠ 0) : (atT ps idx id f).ps = ps ∧ (atT ps idx id f).idx = idx := by
  unfold atT at h ⊢
  split
  · exact ⟨rfl, rfl⟩
  · rename_i hn
    rw [if_neg hn] at h
    split
    · exact ⟨rfl, rfl⟩
    · rename_i p hp
      rw [hp] at h
      exact hf _ _ h
/-- A step with a code changes nothing. -/
theorem stepT_same {ps : List (Option PageD)} {idx : List RefD} {a : AcT} (h : (stepT ps idx a).code ≠ 0) : (stepT ps idx a).ps = ps ∧ (stepT ps idx a).idx = idx := by
  unfold stepT at h ⊢
  split
  · rename_i hk
    rw [if_pos hk] at h
    unfold chgT at h ⊢
    split
    · exact ⟨rfl, rfl⟩
    · rename_i h1
      rw [if_neg h1] at h
      split
      · exact ⟨rfl, rfl⟩
      · rename_i p hp
        rw [hp] at h
        simp only at h
        split
        · exact ⟨rfl, rfl⟩
        · rename_i h2
          rw [if_neg h2] at h
          exact absurd rfl h
  · rename_i h0
    rw [if_neg h0] at h
    split
    · rename_i h1
      rw [if_pos h1] at h
      exact atT_same (fun k p h => absurd rfl h) h
    · rename_i h1
      rw [if_neg h1] at h
      split
      · rename_i h2
        rw [if_pos h2] at h
        refine atT_same (fun k p h => ?_) h
        unfold splT at h ⊢
        split
        · exact ⟨rfl, rfl⟩
        · rename_i h3
          rw [if_neg h3] at h
          split
          · exact ⟨rfl, rfl⟩
          · rename_i h4
            rw [if_neg h4] at h
            exact absurd rfl h
      · rename_i h2
        rw [if_neg h2] at h
        split
        · rename_i h3
          rw [if_pos h3] at h
          refine atT_same (fun k p h => ?_) h
          unfold posT at h ⊢
          split
          · exact ⟨rfl, rfl⟩
          · rename_i h4
            rw [if_neg h4] at h
            exact absurd rfl h
        · rename_i h3
          rw [if_neg h3] at h
          split
          · rename_i h4
            rw [if_pos h4] at h
            refine atT_same (fun k p h => ?_) h
            unfold merT at h ⊢
            split
            · exact ⟨rfl, rfl⟩
            · rename_i h5
              rw [if_neg h5] at h
              split
              · exact ⟨rfl, rfl⟩
              · rename_i q hq
                rw [hq] at h
                simp only at h
                split
                · exact ⟨rfl, rfl⟩
                · rename_i h6
                  rw [if_neg h6] at h
                  exact absurd rfl h
          · exact ⟨rfl, rfl⟩
theorem stepT_chg {ps : List (Option PageD)} {idx : List RefD} {a : AcT} (h : a.kind = 1 ∨ a.kind = 2) : stepT ps idx a = chgT ps idx a := by unfold stepT; rw [if_pos h]
end Go.Proofs.Ytbhkmmdcdfjbkaa

namespace Go.Proofs.Ytbhkmmdcdfjbkaa
open Go.RowKit

/-- Rows that lie apart come into a record. -/
theorem NOwn.addAp {w : World} {B T S n : Nat} {v : Value} {es : List El} (h : NOwn w B T S v n es) {i : Nat} {e : El} {xs : List Sb} (hi : es[i]? = some e) (ho : ∀ x ∈ xs, w.ownsRow B x.t x.s x.v x.n x.cs) (hap : ∀ x ∈ xs, ∀ g, x.v.ownBlock = some g → ¬ NBl v es g)
    (hf : ∀ (a b : Nat) (x y : Sb), xs[a]? = some x → xs[b]? = some y → a ≠ b → ∀ g, x.v.ownBlock = some g → y.v.ownBlock ≠ some g) :
    NOwn w B T S v n (es.set i ⟨e.hd, xs⟩) := by
  have hil : i < es.length := (List.getElem?_eq_some_iff.1 hi).1
  have sb : ∀ k b y, sbAt (es.set i ⟨e.hd, xs⟩) k b = some y → (k = i ∧ xs[b]? = some y) ∨ (k ≠ i ∧ sbAt es k b = some y) := fun k b y hy => by
    rw [sbAt_set hil] at hy
    by_cases hk : k = i
    · subst hk; rw [if_pos rfl] at hy; exact .inl ⟨rfl, hy⟩
    · rw [if_neg hk] at hy; exact .inr ⟨hk, hy⟩
  have ap : ∀ (b : Nat) (y : Sb), xs[b]? = some y → ∀ (l d : Nat) (z : Sb), sbAt es l d = some z → ∀ g, y.v.ownBlock = some g → z.v.ownBlock ≠ some g := fun b y hy l d z hz g h1 h2 => hap y (List.mem_of_getElem? hy) g h1 (.inr ⟨l, d, z, hz, h2⟩)
  refine ⟨?_, by rw [List.length_set]; exact h.len, fun y hy => ?_, fun k b y hy => ?_, fun k l b d y z hy hz hne => ?_, fun k b y hy => ?_⟩
  · rw [fm_same es h.wid i e _ hi]
    exact h.row
  · rcases List.mem_or_eq_of_mem_set hy with hy | rfl
    · exact h.wid y hy
    · exact h.wid e (List.mem_of_getElem? hi)
  · rcases sb k b y hy with ⟨_, hy⟩ | ⟨_, hy⟩
    · exact ho y (List.mem_of_getElem? hy)
    · exact h.dat k b y hy
  · rcases sb k b y hy with ⟨hk, hy⟩ | ⟨hk, hy⟩
    · rcases sb l d z hz with ⟨hl, hz⟩ | ⟨hl, hz⟩
      · exact hf b d y z hy hz (by rcases hne with h | h; exact absurd (hk.trans hl.symm) h; exact h)
      · exact ap b y hy l d z hz
    · rcases sb l d z hz with ⟨hl, hz⟩ | ⟨hl, hz⟩
      · exact fun g h1 h2 => ap d z hz k b y hy g h2 h1
      · exact h.far k l b d y z hy hz hne
  · rcases sb k b y hy with ⟨_, hy⟩ | ⟨_, hy⟩
    · exact fun g h1 h2 => hap y (List.mem_of_getElem? hy) g h2 (.inl h1)
    · exact h.off k b y hy
/-- A row within a record has grown, in its place or into a new one. -/
theorem NOwn.appSb {w w' : World} {B T S n : Nat} {v : Value} {es : List El} (h : NOwn w B T S v n es) {i a : Nat} {e : El} {x x' : Sb} (hi : es[i]? = some e) (ha : e.sb[a]? = some x) (hv : x'.v.ownBlock = x.v.ownBlock ∨ ∃ f, w.heap.size ≤ f ∧ x'.v.ownBlock = some f) (ho : w'.ownsRow B x'.t x'.s x'.v x'.n x'.cs) (hw : WrB (fun k => x.v.ownBlock = some k) w w') :
    NOwn w' B T S v n (es.set i ⟨e.hd, e.sb.set a x'⟩) := by
  have hil : i < es.length := (List.getElem?_eq_some_iff.1 hi).1
  have hal : a < e.sb.length := (List.getElem?_eq_some_iff.1 ha).1
  have hx0 : sbAt es i a = some x := by unfold sbAt; rw [hi]; exact ha
  have sb : ∀ k b y, sbAt (es.set i ⟨e.hd, e.sb.set a x'⟩) k b = some y → (k = i ∧ b = a ∧ y = x') ∨ (sbAt es k b = some y ∧ (i ≠ k ∨ a ≠ b)) := fun k b y hy => by
    rw [sbAt_set hil] at hy
    by_cases hk : k = i
    · subst hk
      rw [if_pos rfl] at hy
      simp only at hy
      by_cases hb : b = a
      · subst hb
        rw [List.getElem?_set_self hal] at hy
        injection hy with hy
        exact .inl ⟨rfl, rfl, hy.symm⟩
      · rw [List.getElem?_set_ne (fun e => hb e.symm)] at hy
        exact .inr ⟨by unfold sbAt; rw [hi]; exact hy, .inr (fun e => hb e.symm)⟩
    · rw [if_neg hk] at hy
      exact .inr ⟨hy, .inl (fun e => hk e.symm)⟩
  have ap : ∀ (l d : Nat) (z : Sb), sbAt es l d = some z → (i ≠ l ∨ a ≠ d) → ∀ g, x'.v.ownBlock = some g → z.v.ownBlock ≠ some g := fun l d z hz hne g h1 h2 => by
    rcases hv with hv | ⟨f, hf, hv⟩
    · rw [hv] at h1; exact h.far i l a d x z hx0 hz hne g h1 h2
    · rw [hv] at h1; injection h1 with h1; have := ((h.dat l d z hz).lt g h2).2; omega
  refine ⟨?_, by rw [List.length_set]; exact h.len, fun y hy => ?_, fun k b y hy => ?_, fun k l b d y z hy hz hne => ?_, fun k b y hy => ?_⟩
  · rw [fm_same es h.wid i e _ hi]
    exact rr_owns_wr h.row hw (fun k hk e => h.off i a x hx0 k hk e)
  · rcases List.mem_or_eq_of_mem_set hy with hy | rfl
    · exact h.wid y hy
    · exact h.wid e (List.mem_of_getElem? hi)
  · rcases sb k b y hy with ⟨_, _, rfl⟩ | ⟨hy, hne⟩
    · exact ho
    · exact rr_owns_wr (h.dat k b y hy) hw (fun q hq e => h.far i k a b x y hx0 hy hne q e hq)
  · rcases sb k b y hy with ⟨rfl, rfl, rfl⟩ | ⟨qy, hn1⟩
    · rcases sb l d z hz with ⟨rfl, rfl, rfl⟩ | ⟨qz, hn2⟩
      · rcases hne with h | h <;> exact absurd rfl h
      · exact ap l d z qz hn2
    · rcases sb l d z hz with ⟨rfl, rfl, rfl⟩ | ⟨qz, hn2⟩
      · exact fun g h1 h2 => ap k b y qy hn1 g h2 h1
      · exact h.far k l b d y z qy qz hne
  · rcases sb k b y hy with ⟨rfl, rfl, rfl⟩ | ⟨hy, _⟩
    · intro g h1 h2
      rcases hv with hv | ⟨f, hf, hv⟩
      · rw [hv] at h2; exact h.off k b x hx0 g h1 h2
      · rw [hv] at h2; injection h2 with h2; have := (h.row.lt g h1).2; omega
    · exact h.off k b y hy
theorem setAll_wr (g : Nat) : ∀ (vs : List Value) (o : Nat) (w : World), WrB (fun i => i = g) w (setAll g w o vs)
  | [], _, w => WrB.same _ w
  | v :: r, o, w => (set1_wr w g o v).seq (setAll_wr g r (o + 1) _)
theorem TgSt.page_block {w : World} {B tb : Nat} {vp vg vi : Value} {hs : List PpH} {gs : List Bool} {idx : List RefD} (s : TgSt w B tb vp vg vi hs gs idx) (h0 : 0 < hs.length) : ∃ g c, vp = .slice (some ⟨g, 0, none⟩) hs.length c ∧ B ≤ g ∧ g ≠ tb := by
  rcases s.own.pg.row.2 with ⟨_, e⟩ | ⟨g, cap, cur, e, hb, hh, _⟩
  · omega
  · refine ⟨g, cap, e, hb, fun e2 => ?_⟩
    exact own_box s.own.pg.row s.box (by decide) (by rw [e, e2]; rfl)
theorem TgSt.row {w w' : World} {B tb : Nat} {vp vg vi : Value} {hs : List PpH} {gs : List Bool} {idx : List RefD} (s : TgSt w B tb vp vg vi hs gs idx) {hs' : List PpH} (hn : NOwn w' B 51 5 vp hs'.length (hs'.map ppEl)) {P : Nat → Prop} (hw : WrB P w w') (hP : ∀ i, P i → i < w.heap.size → NBl vp (hs.map ppEl) i) : TgSt w' B tb vp vg vi hs' gs idx :=
  ⟨⟨hn, rr_owns_wr s.own.go hw (fun i hi hp => nbl_other s.own.pg s.own.go (by decide) (by decide) (by decide) hi (hP i hp (s.own.go.lt i hi).2)), rr_owns_wr s.own.ix hw (fun i hi hp => nbl_other s.own.pg s.own.ix (by decide) (by decide) (by decide) hi (hP i hp (s.own.ix.lt i hi).2))⟩, (hw.block tb (blk_lt s.box) (fun hp => nbl_tree s.own.pg s.box (by decide) (by decide) (by decide) (hP tb hp (blk_lt s.box)))).trans s.box⟩
/-- The five cells of a page. -/
def pcs (h : PpH) : List Value := [.string h.X.lo, .string h.X.hi, .int .i64 h.X.r, .slice h.s0.a h.s0.n h.s0.c, .slice h.s1.a h.s1.n h.s1.c]
/-- A page laid in another's place. -/
theorem TgSt.put {w : World} {B tb : Nat} {vp vg vi : Value} {hs : List PpH} {gs : List Bool} {idx : List RefD} (s : TgSt w B tb vp vg vi hs gs idx) {k : Nat} (hk : k < hs.length) (h : PpH) (he : w.ownsRow B 37 2 (.slice h.s0.a h.s0.n h.s0.c) h.X.es.length (ecs h.X.es)) (hd : w.ownsRow B 86 4 (.slice h.s1.a h.s1.n h.s1.c) h.X.ds.length (dcs h.X.ds))
    (ae : ∀ g, (Value.slice h.s0.a h.s0.n h.s0.c).ownBlock = some g → ¬ NBl vp (hs.map ppEl) g) (ad : ∀ g, (Value.slice h.s1.a h.s1.n h.s1.c).ownBlock = some g → ¬ NBl vp (hs.map ppEl) g) :
    ∃ g c, vp = .slice (some ⟨g, 0, none⟩) hs.length c ∧ (∀ j (hj : j < 5), w.cell? ⟨g, k * 5 + j, none⟩ = some ((pcs hs[k])[j]'hj)) ∧ (∀ j, w.frozen? ⟨g, j, none⟩ = false) ∧ TgSt (setAll g w (k * 5) (pcs h)) B tb vp vg vi (hs.set k h) gs idx ∧ WrB (fun i => i = g) w (setAll g w (k * 5) (pcs h)) ∧ B ≤ g ∧ g ≠ tb := by
  obtain ⟨g, c, rfl, hB, hne⟩ := s.page_block (by omega)
  have hi : (hs.map ppEl)[k]? = some (ppEl hs[k]) := ppEl_at hk
  have hil : k < (hs.map ppEl).length := by rw [List.length_map]; exact hk
  have h1 := s.own.pg.addAp (xs := (ppEl h).sb) hi (fun x hx => by
      simp only [ppEl, List.mem_cons, List.not_mem_nil, or_false] at hx
      rcases hx with rfl | rfl
      · exact he
      · exact hd) (fun x hx g hg => by
      simp only [ppEl, List.mem_cons, List.not_mem_nil, or_false] at hx
      rcases hx with rfl | rfl
      · exact ae g hg
      · exact ad g hg) (by
      intro a b x y hx hy hne g h1 h2
      match a, b, hx, hy, hne with
      | 0, 1, hx, hy, _ => injection hx with hx; injection hy with hy; subst hx hy; exact own_other he hd (by decide) h1 h2
      | 1, 0, hx, hy, _ => injection hx with hx; injection hy with hy; subst hx hy; exact own_other hd he (by decide) h1 h2
      | 0, 0, _, _, h => exact absurd rfl h
      | 1, 1, _, _, h => exact absurd rfl h
      | a + 2, _, hx, _, _ => cases hx
      | 0, b + 2, _, hy, _ => cases hy
      | 1, b + 2, _, hy, _ => cases hy)
  have h2 := NOwn.store (ppEl h).hd (ppEl hs[k]).hd [] h1 (List.getElem?_set_self hil) rfl
  rw [List.set_set] at h2
  have hN : NOwn (setAll g w (k * 5) (pcs h)) B 51 5 (.slice (some ⟨g, 0, none⟩) hs.length c) (hs.set k h).length ((hs.set k h).map ppEl) := by
    rw [List.map_set, List.length_set]
    exact h2
  have hw := setAll_wr g (pcs h) (k * 5) w
  refine ⟨g, c, rfl, fun j hj => s.own.pg.cell hi ?_, fun j => s.own.pg.free j, s.row hN hw (fun i e _ => .inl (by rw [e]; rfl)), hw, hB, hne⟩
  exact List.getElem?_eq_getElem (l := pcs hs[k]) hj
/-- Another index laid into a tree's box. -/
theorem TgSt.index {w : World} {B tb : Nat} {vp vg vi v' : Value} {hs : List PpH} {gs : List Bool} {idx idx' : List RefD} (s : TgSt w B tb vp vg vi hs gs idx) (hJ : JOwns w B v' idx') : TgSt (w.setCell ⟨tb, 2, none⟩ v') B tb vp vg v' hs gs idx' := by
  have c := set1_wr w tb 2 v'
  have n7 := s.own.pg.keep c (fun i hi e => by subst e; exact nbl_tree s.own.pg s.box (by decide) (by decide) (by decide) hi)
  have k7 : (w.setCell ⟨tb, 2, none⟩ v').heap[tb]? = some (.cells #[vp, vg, v'] 30 (0, 0)) := by have := heap_set s.box 2 v'; simpa using this
  exact ⟨⟨n7, own_keep s.own.go s.box (by decide) c, own_keep hJ s.box (by decide) c⟩, k7⟩
/-- A change put behind a page's chain. -/
theorem TgSt.chain {w : World} {B tb : Nat} {vp vg vi : Value} {hs : List PpH} {gs : List Bool} {idx : List RefD} (s : TgSt w B tb vp vg vi hs gs idx) {k : Nat} (hk : k < hs.length) {x : PpH} (hx : hs[k]? = some x) (d : DelD) (hn : x.X.ds.length ≤ 1000) (hB : B ≤ w.heap.size) :
    ∃ g c a' c' w6, vp = .slice (some ⟨g, 0, none⟩) hs.length c ∧ (Builtin.append_ #[49, 49] 49 #[.slice x.s1.a x.s1.n x.s1.c, .slice (some ⟨w.heap.size, 0, none⟩) 1 1]).run Try.prog (w.alloc (.cells #[.int .i64 d.kind, .string d.k, .string d.v, .int .i64 d.to] 86)) = .ok (.slice a' (x.X.ds.length + 1) c') w6 ∧
      (∀ j (hj : j < 5), w6.cell? ⟨g, k * 5 + j, none⟩ = some ((pcs x)[j]'hj)) ∧ (∀ j, w6.frozen? ⟨g, j, none⟩ = false) ∧ Below B w w6 ∧
      TgSt (w6.setCell ⟨g, k * 5 + 4, none⟩ (.slice a' (x.X.ds.length + 1) c')) B tb vp vg vi (hs.set k ⟨⟨x.X.lo, x.X.hi, x.X.r, x.X.es, x.X.ds ++ [d]⟩, x.s0, ⟨a', x.X.ds.length + 1, c'⟩⟩) gs idx ∧ B ≤ g ∧ g ≠ tb ∧ w6.heap[tb]? = some (.cells #[vp, vg, vi] 30 (0, 0)) := by
  obtain ⟨i0, hi0, hz0, hz1, hz2⟩ := info_parts Try.infoDelta
  obtain ⟨g, c, rfl, hg, hne⟩ := s.page_block (by omega)
  have hi : (hs.map ppEl)[k]? = some (ppEl x) := by rw [List.getElem?_map, hx]; rfl
  obtain ⟨W, hW⟩ : ∃ W, W = w.alloc (.cells #[.int .i64 d.kind, .string d.k, .string d.v, .int .i64 d.to] 86) := ⟨_, rfl⟩
  have bA : Below w.heap.size w W := by rw [hW]; exact (Below.refl _ _).alloc (Nat.le_refl _) _
  have zW : W.heap.size = w.heap.size + 1 := by rw [hW]; simp
  have hcells : ∀ j u, ([Value.int .i64 d.kind, .string d.k, .string d.v, .int .i64 d.to])[j]? = some u → W.cell? ((⟨w.heap.size, 0, none⟩ : Addr).add j) = some u := fun j u hu => by
    rw [hW, Addr.add_lit, (heap_at (heap_alloc_new w _) _).1]
    simpa using hu
  rw [← hW]
  have sW := s.below bA
  have d1 := sW.own.pg.dat k 1 ⟨86, 4, x.X.ds.length, .slice x.s1.a x.s1.n x.s1.c, dcs x.X.ds⟩ (by unfold sbAt; rw [hi]; rfl)
  simp only at d1
  obtain ⟨v', w6, hr, ho, hgr, hnn, hbl⟩ := app_at (P := Try.prog) (w := W) (B := B) 49 49 86 Try.underlying49 hi0 hz0 hz1 hz2 rfl (by decide) d1 ⟨w.heap.size, 0, none⟩ 1 1 [.int .i64 d.kind, .string d.k, .string d.v, .int .i64 d.to] rfl hcells (by
      intro u hu
      simp only [List.mem_cons, List.not_mem_nil, or_false] at hu
      rcases hu with rfl | rfl | rfl | rfl <;> rfl) (by unfold maxLen; omega) (by omega) (by omega) (fun _ => by omega)
  obtain ⟨a', c', rfl⟩ : ∃ a' c', v' = .slice a' (x.X.ds.length + 1) c' := by
    rcases ho.2 with ⟨e, _⟩ | ⟨_, _, _, e, _⟩
    · exact absurd e hnn
    · exact ⟨_, _, e⟩
  have hw := WrB.of_grown hgr
  have hsb : sbAt (hs.map ppEl) k 1 = some ⟨86, 4, x.X.ds.length, .slice x.s1.a x.s1.n x.s1.c, dcs x.X.ds⟩ := by unfold sbAt; rw [hi]; rfl
  have cs' : dcs x.X.ds ++ [.int .i64 d.kind, .string d.k, .string d.v, .int .i64 d.to] = dcs (x.X.ds ++ [d]) := by rw [dcs_append]; rfl
  rw [cs'] at ho
  have N6 := sW.own.pg.appSb (a := 1) (x' := ⟨86, 4, x.X.ds.length + 1, .slice a' (x.X.ds.length + 1) c', dcs (x.X.ds ++ [d])⟩) hi rfl (by
      rcases hbl with h | h
      · exact .inl h
      · exact .inr ⟨_, Nat.le_refl _, h⟩) ho hw
  have hil : k < (hs.map ppEl).length := by rw [List.length_map]; exact hk
  obtain ⟨N7, hw7⟩ := N6.setHd (j := 4) (List.getElem?_set_self hil) (by decide) (.slice a' (x.X.ds.length + 1) c')
  rw [List.set_set] at N7
  have hN : NOwn (w6.setCell ⟨g, k * 5 + 4, none⟩ (.slice a' (x.X.ds.length + 1) c')) B 51 5 (.slice (some ⟨g, 0, none⟩) hs.length c) (hs.set k ⟨⟨x.X.lo, x.X.hi, x.X.r, x.X.es, x.X.ds ++ [d]⟩, x.s0, ⟨a', x.X.ds.length + 1, c'⟩⟩).length ((hs.set k ⟨⟨x.X.lo, x.X.hi, x.X.r, x.X.es, x.X.ds ++ [d]⟩, x.s0, ⟨a', x.X.ds.length + 1, c'⟩⟩).map ppEl) := by
    rw [List.map_set, List.length_set]
    have e : ppEl ⟨⟨x.X.lo, x.X.hi, x.X.r, x.X.es, x.X.ds ++ [d]⟩, x.s0, ⟨a', x.X.ds.length + 1, c'⟩⟩ = ⟨(ppEl x).hd.set 4 (.slice a' (x.X.ds.length + 1) c'), (ppEl x).sb.set 1 ⟨86, 4, x.X.ds.length + 1, .slice a' (x.X.ds.length + 1) c', dcs (x.X.ds ++ [d])⟩⟩ := by
      unfold ppEl
      simp
    rw [e]
    exact N7
  have P6 : ∀ i, (Value.slice x.s1.a x.s1.n x.s1.c).ownBlock = some i → i < W.heap.size → NBl (.slice (some ⟨g, 0, none⟩) hs.length c) (hs.map ppEl) i := fun i hi2 _ => .inr ⟨k, 1, _, hsb, hi2⟩
  have HW : WrB (fun i => (Value.slice x.s1.a x.s1.n x.s1.c).ownBlock = some i ∨ i = g) W (w6.setCell ⟨g, k * 5 + 4, none⟩ (.slice a' (x.X.ds.length + 1) c')) := (hw.weak (fun i hi => .inl hi)).seq (hw7.weak (fun i hi => .inr hi))
  have S7 := sW.row hN HW (fun i hi hl => by
    rcases hi with hi | hi
    · exact P6 i hi hl
    · exact .inl (by rw [hi]; rfl))
  have k6 := (hw.block tb (blk_lt sW.box) (fun hp => nbl_tree sW.own.pg sW.box (by decide) (by decide) (by decide) (P6 tb hp (blk_lt sW.box)))).trans sW.box
  refine ⟨g, c, a', c', w6, rfl, hr, fun j hj => ?_, fun j => N6.free j, (bA.mono hB).trans (WrB.below hw (fun i hi2 => (d1.lt i hi2).1) (by omega)), S7, hg, hne, k6⟩
  refine N6.cell (List.getElem?_set_self hil) ?_
  exact List.getElem?_eq_getElem (l := pcs x) hj
end Go.Proofs.Ytbhkmmdcdfjbkaa

namespace Go.Proofs.Ytbhkmmdcdfjbkaa
open Go.RowKit

/-- What a step of the specification gives. -/
def SpRes (r : StR) (w : World) (e : Ending) (w' : World) : Prop := ∃ a1 n c1 a2 c2 a3 m c3 hs told, e = .returned (.tuple #[.agg #[.slice a1 n c1, .slice a2 n c2, .slice a3 m c3], .int .i64 told, .int .i64 r.code]) ∧ (r.code = 0 → told = r.told ∧ TsOwn w' w.heap.size a1 c1 a2 c2 a3 c3 n m hs r.ps r.idx) ∧ Below w.heap.size w w'
theorem SpRes.no {r : StR} {w w' : World} {a1 a2 a3 : Option Addr} {n m c1 c2 c3 : Nat} {told : Int} (hr : r.code ≠ 0) (hb : Below w.heap.size w w') : SpRes r w (.returned (.tuple #[.agg #[.slice a1 n c1, .slice a2 n c2, .slice a3 m c3], .int .i64 told, .int .i64 r.code])) w' :=
  ⟨a1, n, c1, a2, c2, a3, m, c3, [], told, rfl, fun h => absurd h hr, hb⟩
theorem TsOwn.few {w : World} {B : Nat} {a1 a2 a3 : Option Addr} {c1 c2 c3 n m : Nat} {hs : List PpH} {ps : List (Option PageD)} {idx : List RefD} (h : TsOwn w B a1 c1 a2 c2 a3 c3 n m hs ps idx) (t : Tre ps idx) : ∀ x ∈ hs, x.s0.n ≤ 32 ∧ x.s1.n ≤ 12 := fun x hx => by
  obtain ⟨i, hi, e⟩ := List.getElem_of_mem hx
  have hp : i < ps.length := by rw [h.ln, ← h.hl]; exact hi
  obtain ⟨b, y, _, hy, hX, P⟩ := h.at hp
  rw [List.getElem?_eq_getElem hi, e] at hy
  injection hy with hy
  subst hy
  have := pgD_few t (List.getElem_mem hp)
  rw [← hX] at this
  exact ⟨by rw [← P.es.1]; exact this.1, by rw [← P.ds.1]; exact this.2⟩
theorem TsOwn.tg {w : World} {B tb : Nat} {a1 a2 a3 : Option Addr} {c1 c2 c3 n m : Nat} {hs : List PpH} {ps : List (Option PageD)} {idx : List RefD} (h : TsOwn w B a1 c1 a2 c2 a3 c3 n m hs ps idx) (hb : w.heap[tb]? = some (.cells #[.slice a1 n c1, .slice a2 n c2, .slice a3 m c3] 30 (0, 0))) : TgSt w B tb (.slice a1 n c1) (.slice a2 n c2) (.slice a3 m c3) hs (ps.map (·.isNone)) idx := by
  refine ⟨?_, hb⟩
  have := h.own
  rw [h.hl, List.length_map, h.ln]
  exact this
theorem TgSt.ts {w : World} {B tb : Nat} {a1 a2 a3 : Option Addr} {c1 c2 c3 n m : Nat} {hs : List PpH} {gs : List Bool} {ps : List (Option PageD)} {idx : List RefD} (s : TgSt w B tb (.slice a1 n c1) (.slice a2 n c2) (.slice a3 m c3) hs gs idx) (hg : gs = ps.map (·.isNone)) (hd : hs.map (·.X) = ps.map pgD) (hn : ps.length = n) (hm : idx.length = m) : TsOwn w B a1 c1 a2 c2 a3 c3 n m hs ps idx := by
  subst hg
  have l1 : hs.length = n := by
    have := congrArg List.length hd
    rw [List.length_map, List.length_map, hn] at this
    exact this
  have l2 : (ps.map (·.isNone)).length = n := by rw [List.length_map]; exact hn
  have := s.own
  rw [l1, l2] at this
  exact ⟨this, hd, hn, hm⟩
theorem getP_is {ps : List (Option PageD)} {k : Nat} {p : PageD} (h : getP ps (k : Int) = some p) : ∃ hk : k < ps.length, ps[k] = some p := by
  rw [getP_nat] at h
  cases e : ps[k]? with
  | none => rw [e] at h; cases h
  | some q =>
    rw [e] at h
    obtain ⟨hk, hq⟩ := List.getElem?_eq_some_iff.1 e
    refine ⟨hk, hq.trans ?_⟩
    cases q with
    | none => cases h
    | some p' => exact h
theorem none_set {ps : List (Option PageD)} {k : Nat} {p q : PageD} (h : getP ps (k : Int) = some p) : ps.map (·.isNone) = (ps.set k (some q)).map (·.isNone) := by
  obtain ⟨hk, he⟩ := getP_is h
  rw [List.map_set]
  symm
  have : (ps.map (·.isNone))[k]'(by rw [List.length_map]; exact hk) = (some q : Option PageD).isNone := by rw [List.getElem_map, he]; rfl
  rw [← this, List.set_getElem_self]
theorem dat_set {hs : List PpH} {ps : List (Option PageD)} (h : hs.map (·.X) = ps.map pgD) (k : Nat) (x : PpH) (q : Option PageD) (e : x.X = pgD q) : (hs.set k x).map (·.X) = (ps.set k q).map pgD := by
  rw [List.map_set, List.map_set, h, e]
theorem us_drow {w : World} (d : DelD) : DRow (w.alloc (.cells #[.int .i64 d.kind, .string d.k, .string d.v, .int .i64 d.to] 86)) (some ⟨w.heap.size, 0, none⟩) 1 [d] := by
  have K := heap_alloc_new w (.cells #[.int .i64 d.kind, .string d.k, .string d.v, .int .i64 d.to] 86)
  refine ⟨rfl, fun i hi => ?_⟩
  obtain rfl : i = 0 := by simpa using hi
  exact ⟨w.heap.size, 0, rfl, (heap_at K 0).1, (heap_at K 1).1, (heap_at K 2).1, (heap_at K 3).1⟩
theorem set5_wr' (w : World) (b : Nat) (v0 v1 v2 v3 v4 : Value) : WrB (fun i => i = b) w (((((w.setCell ⟨b, 0, none⟩ v0).setCell ⟨b, 1, none⟩ v1).setCell ⟨b, 2, none⟩ v2).setCell ⟨b, 3, none⟩ v3).setCell ⟨b, 4, none⟩ v4) :=
  (set1_wr w b 0 v0).seq ((set1_wr _ b 1 v1).seq ((set1_wr _ b 2 v2).seq ((set1_wr _ b 3 v3).seq (set1_wr _ b 4 v4))))
theorem set5_hp {w : World} {b : Nat} {u0 u1 u2 u3 u4 : Value} {t : TypeId} (h : w.heap[b]? = some (.cells #[u0, u1, u2, u3, u4] t (0, 0))) (v0 v1 v2 v3 v4 : Value) : (((((w.setCell ⟨b, 0, none⟩ v0).setCell ⟨b, 1, none⟩ v1).setCell ⟨b, 2, none⟩ v2).setCell ⟨b, 3, none⟩ v3).setCell ⟨b, 4, none⟩ v4).heap[b]? = some (.cells #[v0, v1, v2, v3, v4] t (0, 0)) := by
  have h1 := heap_set h 0 v0
  have h2 := heap_set h1 1 v1
  have h3 := heap_set h2 2 v2
  have h4 := heap_set h3 3 v3
  have h5 := heap_set h4 4 v4
  simpa using h5
theorem set3_hp {w : World} {b : Nat} {u0 u1 u2 : Value} {t : TypeId} (h : w.heap[b]? = some (.cells #[u0, u1, u2] t (0, 0))) (v0 v1 v2 : Value) : (((w.setCell ⟨b, 0, none⟩ v0).setCell ⟨b, 1, none⟩ v1).setCell ⟨b, 2, none⟩ v2).heap[b]? = some (.cells #[v0, v1, v2] t (0, 0)) := by
  have h1 := heap_set h 0 v0
  have h2 := heap_set h1 1 v1
  have h3 := heap_set h2 2 v2
  simpa using h3
/-- The page a change goes to, as it stands ahead of the change. -/
structure RmSt (W V : World) (pb db : Nat) (R : PageD) (D : DelD) (s0 s1 : Sl) : Prop where
  bel : Below W.heap.size W V
  pg : V.heap[pb]? = some (.cells #[.string R.lo, .string R.hi, .int .i64 R.r, .slice s0.a s0.n s0.c, .slice s1.a s1.n s1.c] 51 (0, 0))
  dl : V.heap[db]? = some (.cells #[.int .i64 D.kind, .string D.k, .string D.v, .int .i64 D.to] 86 (0, 0))
  es : ERow V s0.a s0.n R.es
  ds : DRow V s1.a s1.n R.ds
  ce : s0.a = none → s0.c = 0
  cd : s1.a = none → s1.c = 0
  pge : W.heap.size ≤ pb
  dge : W.heap.size ≤ db
/-- The page with its change, in new memory, in its box. -/
structure CgSt (W u : World) (pb : Nat) (X : PageD) (s0 s1 : Sl) : Prop where
  bel : Below W.heap.size W u
  pg : u.heap[pb]? = some (.cells #[.string X.lo, .string X.hi, .int .i64 X.r, .slice s0.a s0.n s0.c, .slice s1.a s1.n s1.c] 51 (0, 0))
  es : EOwns u W.heap.size (.slice s0.a s0.n s0.c) X.es
  ds : DOwns u W.heap.size (.slice s1.a s1.n s1.c) X.ds
theorem CgSt.below {W u u' : World} {pb : Nat} {X : PageD} {s0 s1 : Sl} (h : CgSt W u pb X s0 s1) (hb : Below u.heap.size u u') : CgSt W u' pb X s0 s1 :=
  ⟨h.bel.trans (hb.mono h.bel.size), (hb.block pb (blk_lt h.pg)).trans h.pg, rb_ownsRow_below h.es hb, rb_ownsRow_below h.ds hb⟩
/-- l04Own's page laid into the box. -/
theorem RmSt.own {W V u : World} {pb db : Nat} {R : PageD} {D : DelD} {s0 s1 t0 t1 : Sl} (h : RmSt W V pb db R D s0 s1) (hb : Below V.heap.size V u) (ho : PgOwn u V.heap.size t0.a t0.n t0.c t1.a t1.n t1.c R.es R.ds) :
    CgSt W (((((u.setCell ⟨pb, 0, none⟩ (.string R.lo)).setCell ⟨pb, 1, none⟩ (.string R.hi)).setCell ⟨pb, 2, none⟩ (.int .i64 R.r)).setCell ⟨pb, 3, none⟩ (.slice t0.a t0.n t0.c)).setCell ⟨pb, 4, none⟩ (.slice t1.a t1.n t1.c)) pb R t0 t1 ∧ (((((u.setCell ⟨pb, 0, none⟩ (.string R.lo)).setCell ⟨pb, 1, none⟩ (.string R.hi)).setCell ⟨pb, 2, none⟩ (.int .i64 R.r)).setCell ⟨pb, 3, none⟩ (.slice t0.a t0.n t0.c)).setCell ⟨pb, 4, none⟩ (.slice t1.a t1.n t1.c)).heap[db]? = some (.cells #[.int .i64 D.kind, .string D.k, .string D.v, .int .i64 D.to] 86 (0, 0)) := by
  have kp := (hb.block pb (blk_lt h.pg)).trans h.pg
  have kd := (hb.block db (blk_lt h.dl)).trans h.dl
  have hw := set5_wr' u pb (.string R.lo) (.string R.hi) (.int .i64 R.r) (.slice t0.a t0.n t0.c) (.slice t1.a t1.n t1.c)
  have ne : db ≠ pb := fun e => by rw [e, kp] at kd; injection kd with kd; injection kd with _ kd _; exact absurd kd (by decide)
  have hbu := h.bel.trans (hb.mono h.bel.size)
  refine ⟨⟨hbu.trans (WrB.below hw (fun i e => by rw [e]; exact h.pge) hbu.size), set5_hp kp _ _ _ _ _, gd_base (own_keep ho.1 kp (by decide) hw) h.bel.size, gd_base (own_keep ho.2.1 kp (by decide) hw) h.bel.size⟩, (hw.block db (blk_lt kd) ne).trans kd⟩
/-- The change behind the chain. -/
theorem CgSt.app {W u : World} {pb : Nat} {R : PageD} {D : DelD} {t0 t1 : Sl} (h : CgSt W u pb R t0 t1) (hn : R.ds.length ≤ 1000) (hpb : W.heap.size ≤ pb) :
    ∃ a' n' c' u', (Builtin.append_ #[49, 49] 49 #[.slice t1.a t1.n t1.c, .slice (some ⟨u.heap.size, 0, none⟩) 1 1]).run Try.prog (u.alloc (.cells #[.int .i64 D.kind, .string D.k, .string D.v, .int .i64 D.to] 86)) = .ok (.slice a' n' c') u' ∧ u'.heap[pb]? = some (.cells #[.string R.lo, .string R.hi, .int .i64 R.r, .slice t0.a t0.n t0.c, .slice t1.a t1.n t1.c] 51 (0, 0)) ∧ CgSt W (u'.setCell ⟨pb, 4, none⟩ (.slice a' n' c')) pb (addD R D) t0 ⟨a', n', c'⟩ := by
  have bA : Below u.heap.size u (u.alloc (.cells #[.int .i64 D.kind, .string D.k, .string D.v, .int .i64 D.to] 86)) := (Below.refl _ _).alloc (Nat.le_refl _) _
  have hA := h.below bA
  obtain ⟨v', u', hr, ho, hg, _⟩ := run_appD (c := 1) 49 hA.ds (us_drow (w := u) D) (by omega) (by omega) (fun e => by cases e) hA.bel.size
  obtain ⟨a', c', rfl⟩ := us_sl ho
  have hw := WrB.of_grown hg
  have kp := (hw.block pb (blk_lt hA.pg) (own_box hA.ds hA.pg (by decide))).trans hA.pg
  have oe := rr_owns_wr hA.es hw (fun i hi => own_other hA.es hA.ds (by decide) hi)
  have c := set1_wr u' pb 4 (.slice a' (R.ds ++ [D]).length c')
  have bel := hA.bel.trans (WrB.below hw (fun i hi => (hA.ds.lt i hi).1) hA.bel.size)
  refine ⟨a', (R.ds ++ [D]).length, c', u', hr, kp, ⟨bel.trans (WrB.below c (fun i e => by rw [e]; exact hpb) bel.size), ?_, own_keep oe kp (by decide) c, own_keep ho kp (by decide) c⟩⟩
  show (u'.setCell ⟨pb, 4, none⟩ (.slice a' (R.ds ++ [D]).length c')).heap[pb]? = some (.cells #[.string R.lo, .string R.hi, .int .i64 R.r, .slice t0.a t0.n t0.c, .slice a' (R.ds ++ [D]).length c'] 51 (0, 0))
  have := heap_set kp 4 (.slice a' (R.ds ++ [D]).length c')
  simpa using this
set_option maxRecDepth 100000 in
set_option maxHeartbeats 8000000 in
theorem l05Change_any (B : Nat) (a1 : Option Addr) (c1 : Nat) (a2 : Option Addr) (c2 : Nat) (a3 : Option Addr) (c3 n m : Nat) (hs : List PpH) (ps : List (Option PageD)) (idx : List RefD) (ac : AcT) (gone : Bool) (w : World) (hO : TsOwn w B a1 c1 a2 c2 a3 c3 n m hs ps idx) (hT : Tre ps idx) (hkey : keyK ac.key = true) (hval : valK ac.val = true) (hgo : (ac.kind = 1 ∧ gone = false) ∨ (ac.kind = 2 ∧ gone = true)) :
    Calls Try.prog 23 #[.agg #[.slice a1 n c1, .slice a2 n c2, .slice a3 m c3], .string ac.key, .string ac.val, .bool gone] w fun e w' => SpRes (chgT ps idx ac) w e w' := by
  obtain ⟨p, hd1, hd2, hd3, _⟩ := hT.good.down ac.key
  have CT : chgT ps idx ac = if 32 < (enP (addD (roomP p) (chgD ac))).length then ⟨ps, idx, 0, 7⟩ else ⟨ps.set (downT ps idx ac.key).1.toNat (some (addD (roomP p) (chgD ac))), idx, (downT ps idx ac.key).1, 0⟩ := by
    unfold chgT
    rw [if_neg (by rw [hkey, hval]; simp), hd1]
  obtain ⟨k, hkE, hkl⟩ := getP_lt hd1
  rw [hkE, Int.toNat_natCast] at CT
  rw [hkE] at hd1
  obtain ⟨_, hpk⟩ := getP_is hd1
  have hokp := hT.ok _ p hd1
  have RO := roomP_ok hokp
  obtain ⟨W, hW, k1, k2, z, b0⟩ := tw_new w (.slice a1 n c1) (.slice a2 n c2) (.slice a3 m c3)
  have OW := hO.below b0
  have few := OW.few hT
  have hkn : k < n := by rw [← OW.ln]; exact hkl
  have HD := hide (l05Down_any a1 n c1 a2 n c2 a3 m c3 hs (ps.map (·.isNone)) idx ac.key W OW.trIn (by rw [OW.here]; exact hT.good) (fun h hh => by have := few h hh; omega))
  rw [OW.here, hkE] at HD
  obtain ⟨b, x, ha, -, hxX, P⟩ := OW.at hkl
  rw [hpk] at hxX
  replace hxX : x.X = p := hxX
  subst hxX
  have hn0 : x.s0.n ≤ 32 := by rw [← P.es.1]; exact (ok_parts hokp).2.1
  have hn1 : x.s1.n ≤ 12 := by rw [← P.ds.1]; exact (ok_parts hokp).2.2.1
  have hfull : (x.s1.n : Int) = 12 ↔ x.X.ds.length = 12 := by rw [P.ds.1]; omega
  subst ha
  have hz1 : w.heap.size < W.heap.size := by omega
  have hz2 : w.heap.size + 1 < W.heap.size := by omega
  have B0 := hide b0
  have K1 := hide k1
  have K2 := hide k2
  have OWh := hide OW
  have Ph := hide P
  have CTh := hide CT
  have HTh := hide hT
  have GPh := hide hd1
  have HW := hide hW
  have ROh := hide RO
  obtain ⟨DD, hDD⟩ : ∃ DD, DD = chgD ac := ⟨_, rfl⟩
  have DDh := hide hDD
  have SKP := hide (show ∀ u, Below W.heap.size W u → u.cell? ⟨w.heap.size, 0, none⟩ = some (.slice (some ⟨b, 0, none⟩) n c1) ∧ u.cell? ⟨w.heap.size, 1, none⟩ = some (.slice a2 n c2) ∧ u.cell? ⟨w.heap.size, 2, none⟩ = some (.slice a3 m c3) from fun u hu => by
    have h := (hu.block w.heap.size hz1).trans k1
    exact ⟨(heap_at h 0).1, (heap_at h 1).1, (heap_at h 2).1⟩)
  have e0 := (heap_at k1 0).1
  have e1 := (heap_at k1 1).1
  have e2 := (heap_at k1 2).1
  clear b0 k1 k2 z OW few P CT hO hT hd1 hd2 hd3 hkE hpk RO hDD hW
  go_enter Try.func23, Try.ntmps23
  go_upto_region 1 with fail
  rw [← unhide HW]
  clear HW
  go_wp2_with fail
  refine (unhide HD).mono ?_
  rintro e u1 ⟨rfl, hb1⟩
  clear HD e0 e1 e2
  obtain ⟨e0, e1, e2⟩ := unhide SKP u1 hb1
  have P1 := (unhide Ph).below hb1
  have q0 := P1.c0
  have q1 := P1.c1
  have q2 := P1.c2
  have q3 := P1.c3
  have q4 := P1.c4
  have hu1 := hb1.size
  have B1h := hide hb1
  have P1h := hide P1
  clear P1 hb1 Ph
  obtain ⟨X, ⟨sa, sn, sc⟩, ⟨da, dn, dc⟩⟩ := x
  simp only at q0 q1 q2 q3 q4 hn0 hn1 hfull hokp ROh
  rcases hgo with ⟨hkd, rfl⟩ | ⟨hkd, rfl⟩
  · by_cases hf : (dn : Int) = 12
    · have hD : DD = ⟨1, ac.key, ac.val, 0⟩ := by
        rw [unhide DDh]
        unfold chgD
        rw [if_pos (by omega)]
      have hfl : (dn : Int) = 12 := hf
      have hRX : roomP X = conPg X := by
        unfold roomP
        rw [if_pos (hfull.1 hf)]
      have K3 := heap_alloc_new u1 (.cells #[.string X.lo, .string X.hi, .int .i64 X.r, .slice sa sn sc, .slice da dn dc] 51)
      have BA : Below u1.heap.size u1 (u1.alloc (.cells #[.string X.lo, .string X.hi, .int .i64 X.r, .slice sa sn sc, .slice da dn dc] 51)) := (Below.refl _ _).alloc (Nat.le_refl _) _
      have BD : Below (u1.alloc (.cells #[.string X.lo, .string X.hi, .int .i64 X.r, .slice sa sn sc, .slice da dn dc] 51)).heap.size (u1.alloc (.cells #[.string X.lo, .string X.hi, .int .i64 X.r, .slice sa sn sc, .slice da dn dc] 51)) ((u1.alloc (.cells #[.string X.lo, .string X.hi, .int .i64 X.r, .slice sa sn sc, .slice da dn dc] 51)).alloc (.cells #[.int .i64 1, .string ac.key, .string ac.val, .int .i64 0] 86)) := (Below.refl _ _).alloc (Nat.le_refl _) _
      have K4 := heap_alloc_new (u1.alloc (.cells #[.string X.lo, .string X.hi, .int .i64 X.r, .slice sa sn sc, .slice da dn dc] 51)) (.cells #[.int .i64 1, .string ac.key, .string ac.val, .int .i64 0] 86)
      have zA : (u1.alloc (.cells #[.string X.lo, .string X.hi, .int .i64 X.r, .slice sa sn sc, .slice da dn dc] 51)).heap.size = u1.heap.size + 1 := by simp
      have BAD := BA.trans (BD.mono BA.size)
      have K3' := (BD.block u1.heap.size (by omega)).trans K3
      have ST0 := hide (show RmSt W ((u1.alloc (.cells #[.string X.lo, .string X.hi, .int .i64 X.r, .slice sa sn sc, .slice da dn dc] 51)).alloc (.cells #[.int .i64 1, .string ac.key, .string ac.val, .int .i64 0] 86)) u1.heap.size (u1.heap.size + 1) X DD ⟨sa, sn, sc⟩ ⟨da, dn, dc⟩ from ⟨(unhide B1h).trans (BAD.mono hu1), K3', (by rw [hD, ← zA]; exact K4), (unhide P1h).es.below BAD, (unhide P1h).ds.below BAD, (unhide P1h).ce, (unhide P1h).cd, hu1, by omega⟩)
      obtain ⟨C, hC⟩ : ∃ C, C = conPg X := ⟨_, rfl⟩
      have RRE := hide (show C = roomP X by rw [hC, hRX])
      have RRh := hide (show C.es.length ≤ 32 ∧ C.ds.length < 12 from ⟨by rw [hC]; exact enP_len hokp, by rw [hC]; show 0 < 12; decide⟩)
      have CF := hide (show C.lo = X.lo ∧ C.hi = hiP X ∧ C.r = riP X ∧ C.es = enP X ∧ C.ds = [] by rw [hC]; exact ⟨rfl, rfl, rfl, rfl, rfl⟩)
      clear K3 BA BD K4 zA BAD K3' hRX hD hC
      go_upto_region 6 with fail
      generalize (u1.alloc (.cells #[.string X.lo, .string X.hi, .int .i64 X.r, .slice sa sn sc, .slice da dn dc] 51)).alloc (.cells #[.int .i64 1, .string ac.key, .string ac.val, .int .i64 0] 86) = V0 at *
      generalize u1.heap.size = pb at *
      generalize hdb : pb + 1 = db at *
      clear hdb
      obtain ⟨p0, p1, p2, p3, p4⟩ := pg_cells5 (unhide ST0).pg
      have HCN := hide (l04Consolidate_any X.lo X.hi X.r sa sn sc X.es da dn dc X.ds V0 (unhide ST0).es (unhide ST0).ds (by omega) (by omega) (unhide ST0).ce)
      unfold pgv at HCN
      rw [show highE X.hi X.ds = C.hi from (unhide CF).2.1.symm, show rightE X.r X.ds = C.r from (unhide CF).2.2.1.symm, show entsE X.es X.ds = C.es from (unhide CF).2.2.2.1.symm, ← (unhide CF).1] at HCN
      clear q0 q1 q2 q3 q4 e0 e1 e2
      have hLO : X.lo = C.lo := (unhide CF).1.symm
      rw [hLO] at p0
      go_upto_region 7 with fail
      go_wp2_with fail
      refine (unhide HCN).mono ?_
      rintro e uC ⟨aK, nK, kK, rfl, hOK, hbC⟩
      clear HCN p0 p1 p2 p3 p4
      have kpC := (hbC.block pb (blk_lt (unhide ST0).pg)).trans (unhide ST0).pg
      have kdC := (hbC.block db (blk_lt (unhide ST0).dl)).trans (unhide ST0).dl
      obtain ⟨p0, p1, p2, p3, p4⟩ := pg_cells5 kpC
      obtain ⟨f0, f1, f2, f3, f4⟩ := fz_cells kpC
      have ST := hide (show RmSt W (((((uC.setCell ⟨pb, 0, none⟩ (.string C.lo)).setCell ⟨pb, 1, none⟩ (.string C.hi)).setCell ⟨pb, 2, none⟩ (.int .i64 C.r)).setCell ⟨pb, 3, none⟩ (.slice aK nK kK)).setCell ⟨pb, 4, none⟩ (.slice none 0 0)) pb db C DD ⟨aK, nK, kK⟩ ⟨none, 0, 0⟩ from by
        have hw := set5_wr' uC pb (.string C.lo) (.string C.hi) (.int .i64 C.r) (.slice aK nK kK) (.slice none 0 0)
        have ne : db ≠ pb := fun e => by rw [e, kpC] at kdC; injection kdC with kdC; injection kdC with _ kdC _; exact absurd kdC (by decide)
        have hbu := (unhide ST0).bel.trans (hbC.mono (unhide ST0).bel.size)
        have oK := own_keep hOK kpC (by decide) hw
        exact ⟨hbu.trans (WrB.below hw (fun i e => by rw [e]; exact (unhide ST0).pge) hbu.size), set5_hp kpC _ _ _ _ _, (hw.block db (blk_lt kdC) ne).trans kdC, erow_of_owns oK, (by rw [(unhide CF).2.2.2.2]; exact ⟨rfl, fun i hi => absurd hi (Nat.not_lt_zero _)⟩), own_cap0 oK, fun _ => rfl, (unhide ST0).pge, (unhide ST0).dge⟩)
      clear kpC kdC hOK hbC ST0
      go_upto_region 8 with fail
      generalize ((((uC.setCell ⟨pb, 0, none⟩ (.string C.lo)).setCell ⟨pb, 1, none⟩ (.string C.hi)).setCell ⟨pb, 2, none⟩ (.int .i64 C.r)).setCell ⟨pb, 3, none⟩ (.slice aK nK kK)).setCell ⟨pb, 4, none⟩ (.slice none 0 0) = V at *
      clear p0 p1 p2 p3 p4 f0 f1 f2 f3 f4
      have hRd : C.ds.length ≤ 12 := Nat.le_of_lt (unhide RRh).2
      have hRe : C.es.length ≤ 32 := (unhide RRh).1
      have HOW := hide (l04Own_any C.lo C.hi C.r aK nK kK C.es none 0 0 C.ds V (unhide ST).es (unhide ST).ds (by have h : C.es.length = _ := (unhide ST).es.1; simp only at h; omega) (by have h : C.ds.length = _ := (unhide ST).ds.1; simp only at h; omega) (unhide ST).ce (unhide ST).cd)
      unfold pgv at HOW
      obtain ⟨p0, p1, p2, p3, p4⟩ := pg_cells5 (unhide ST).pg
      go_upto_region 8 with fail
      go_wp2_with fail
      refine (unhide HOW).mono ?_
      rintro e u2 ⟨ae, ne, ce, ad, nd, cd, rfl, hPO, hb2⟩
      clear HOW p0 p1 p2 p3 p4
      have kp2 := (hb2.block pb (blk_lt (unhide ST).pg)).trans (unhide ST).pg
      obtain ⟨p0, p1, p2, p3, p4⟩ := pg_cells5 kp2
      obtain ⟨f0, f1, f2, f3, f4⟩ := fz_cells kp2
      obtain ⟨cg, kd⟩ := (unhide ST).own (t0 := ⟨ae, ne, ce⟩) (t1 := ⟨ad, nd, cd⟩) hb2 hPO
      simp only at cg kd
      have CG := hide cg
      have hpge := (unhide ST).pge
      clear cg hPO hb2 kp2
      go_upto_region 9 with fail
      generalize ((((u2.setCell ⟨pb, 0, none⟩ (.string C.lo)).setCell ⟨pb, 1, none⟩ (.string C.hi)).setCell ⟨pb, 2, none⟩ (.int .i64 C.r)).setCell ⟨pb, 3, none⟩ (.slice ae ne ce)).setCell ⟨pb, 4, none⟩ (.slice ad nd cd) = u3 at *
      clear p0 p1 p2 p3 p4 f0 f1 f2 f3 f4
      have p4 := (heap_at (unhide CG).pg 4).1
      have d0 := (heap_at kd 0).1
      have d1 := (heap_at kd 1).1
      have d2 := (heap_at kd 2).1
      have d3 := (heap_at kd 3).1
      obtain ⟨a', n', c', u4, hrD, kp4, cg4⟩ := (unhide CG).app (D := DD) (by omega) hpge
      simp only at hrD kp4 cg4
      have CG4 := hide cg4
      have r4 := (heap_at kp4 4).1
      have f4 := (heap_at kp4 4).2
      clear cg4 kp4 kd
      go_upto_region 10 with (at_builtin; refine wpAppE rfl _ _ 49 rfl _ _ (.slice a' n' c') u4 rfl rfl hrD ?_)
      generalize u4.setCell ⟨pb, 4, none⟩ (.slice a' n' c') = u5 at *
      clear p4 d0 d1 d2 d3 hrD r4 f4
      obtain ⟨p0, p1, p2, p3, p4⟩ := pg_cells5 (unhide CG4).pg
      have hq1 : (addD C DD).es.length = ne := (erow_of_owns (unhide CG4).es).1
      have hq2 : (addD C DD).ds.length = n' := (drow_of_owns (unhide CG4).ds).1
      have hq3 : (addD C DD).es.length = C.es.length := rfl
      have hq4 : (addD C DD).ds.length = C.ds.length + 1 := by show (C.ds ++ [DD]).length = _; rw [List.length_append]; rfl
      have HEN := hide (l04Entries_any (addD C DD).lo (addD C DD).hi (addD C DD).r ae ne ce (addD C DD).es a' n' c' (addD C DD).ds u5 (erow_of_owns (unhide CG4).es) (drow_of_owns (unhide CG4).ds) (by omega) (by omega) (own_cap0 (unhide CG4).es))
      unfold pgv at HEN
      obtain ⟨L, hL⟩ : ∃ L, L = (entsE (addD C DD).es (addD C DD).ds).length := ⟨_, rfl⟩
      rw [← hL] at HEN
      have HL := hide (show (enP (addD (roomP X) (chgD ac))).length = L by rw [hL, ← unhide RRE, ← unhide DDh])
      have hLm : L ≤ maxLen := by
        have h1 : (entsE (addD C DD).es (addD C DD).ds).length ≤ _ := entsE_len _ _
        rw [← hL] at h1
        unfold maxLen
        omega
      clear hL hq1 hq2 hq3 hq4
      unfold maxLen at hLm
      go_wp2_with fail
      refine (unhide HEN).mono ?_
      rintro e u6 ⟨g6, k6, rfl, -, hb6⟩
      have CG6 := hide ((unhide CG4).below hb6)
      have B6 := (unhide CG6).bel
      obtain ⟨e0, e1, e2⟩ := unhide SKP u6 B6
      have kr6 := (B6.block (w.heap.size + 1) hz2).trans (unhide K2)
      have r0 := (heap_at kr6 0).1
      have r1 := (heap_at kr6 1).1
      have r2 := (heap_at kr6 2).1
      have g0 := (heap_at kr6 0).2
      have g1 := (heap_at kr6 1).2
      have g2 := (heap_at kr6 2).2
      have BB := (unhide B0).trans (B6.mono (unhide B0).size)
      clear HEN p0 p1 p2 p3 p4 CG4 kr6 hb6
      by_cases hbig : 32 < L
      · have RES := hide (show SpRes (chgT ps idx ac) w (.returned (.tuple #[.agg #[.slice (some ⟨b, 0, none⟩) n c1, .slice a2 n c2, .slice a3 m c3], .int .i64 (k : Int), .int .i64 7])) (((u6.setCell ⟨w.heap.size + 1, 0, none⟩ (.slice (some ⟨b, 0, none⟩) n c1)).setCell ⟨w.heap.size + 1, 1, none⟩ (.slice a2 n c2)).setCell ⟨w.heap.size + 1, 2, none⟩ (.slice a3 m c3)) by
          rw [unhide CTh, if_pos (by rw [unhide HL]; exact hbig)]
          exact SpRes.no (r := ⟨ps, idx, 0, 7⟩) (show (7 : Int) ≠ 0 by decide) (((BB.setCell (p := ⟨w.heap.size + 1, 0, none⟩) (Nat.le_succ _) _).setCell (p := ⟨w.heap.size + 1, 1, none⟩) (Nat.le_succ _) _).setCell (p := ⟨w.heap.size + 1, 2, none⟩) (Nat.le_succ _) _))
        clear BB B6 CTh HL
        go_wp2_with fail
        refine bodyPost_ret (v := .tuple #[.agg #[.slice (some ⟨b, 0, none⟩) n c1, .slice a2 n c2, .slice a3 m c3], .int .i64 (k : Int), .int .i64 7]) (by simp [results, Try.results23, go_sem, *]) rfl ?_
        exact unhide RES
      · have HON := hide (l05Own_any B (some ⟨b, 0, none⟩) c1 a2 c2 a3 c3 n m hs ps idx u6 ((unhide OWh).below B6) (unhide HTh))
        clear r0 r1 r2 g0 g1 g2
        go_wp2_with fail
        refine (unhide HON).mono ?_
        rintro e u7 ⟨b1, k1', b2, k2', b3, k3', hs7, rfl, O7, hb7⟩
        have O8 := O7.below ((Below.refl u7.heap.size u7).alloc (Nat.le_refl _) (.cells #[.slice b1 n k1', .slice b2 n k2', .slice b3 m k3'] 30))
        have CG8 := (unhide CG6).below (hb7.trans (((Below.refl u7.heap.size u7).alloc (Nat.le_refl _) (.cells #[.slice b1 n k1', .slice b2 n k2', .slice b3 m k3'] 30)).mono hb7.size))
        have kT := heap_alloc_new u7 (.cells #[.slice b1 n k1', .slice b2 n k2', .slice b3 m k3'] 30)
        have h67 := hb7.size
        have c6 := (unhide CG6)
        have hW6 := c6.bel.size
        have ape : ∀ g, (Value.slice ae ne ce).ownBlock = some g → ¬ NBl (.slice b1 n k1') (hs7.map ppEl) g := fun g hg hn => by
          have h1 := (O8.own.pg.lt g hn).1
          have h2 := (c6.es.lt g hg).2
          omega
        have apd : ∀ g, (Value.slice a' n' c').ownBlock = some g → ¬ NBl (.slice b1 n k1') (hs7.map ppEl) g := fun g hg hn => by
          have h1 := (O8.own.pg.lt g hn).1
          have h2 := (c6.ds.lt g hg).2
          omega
        have hk7 : k < hs7.length := by rw [O8.hl, ← O8.ln]; exact hkl
        have DAT := hide O8.dat
        have LNS := hide (show ps.length = n ∧ idx.length = m from ⟨O8.ln, O8.li⟩)
        have HL7 := hide O8.hl
        obtain ⟨g, gc, hb1, hcell, hfz, S9, W9, hBg, hgt⟩ := ((O8.dn hW6).tg kT).put hk7 (⟨addD C DD, ⟨ae, ne, ce⟩, ⟨a', n', c'⟩⟩ : PpH) CG8.es CG8.ds ape apd
        injection hb1 with hb1 hbn hbc
        clear hbn
        subst hb1 hbc
        have x0 := hcell 0 (by decide)
        have x1 := hcell 1 (by decide)
        have x2 := hcell 2 (by decide)
        have x3 := hcell 3 (by decide)
        have x4 := hcell 4 (by decide)
        have y0 := hfz (k * 5)
        have y1 := hfz (k * 5 + 1)
        have y2 := hfz (k * 5 + 2)
        have y3 := hfz (k * 5 + 3)
        have y4 := hfz (k * 5 + 4)
        unfold pcs at x0 x1 x2 x3 x4 S9 W9
        simp only [List.getElem_cons_zero, List.getElem_cons_succ, Nat.add_zero] at x0 x1 x2 x3 x4
        unfold setAll setAll setAll setAll setAll setAll at S9 W9
        simp only at S9 W9
        have S9h := hide S9
        have W9h := hide W9
        obtain ⟨p0, p1, p2, p3, p4⟩ := pg_cells5 CG8.pg
        have B8h := hide CG8.bel
        have t0 := (heap_at kT 0).1
        clear O7 hb7 O8 CG8 kT ape apd hcell hfz S9 W9 HON e0 e1 e2 c6 CG6 BB
        go_upto_region 13 with fail
        generalize u7.alloc (.cells #[.slice (some ⟨g, 0, none⟩) n k1', .slice b2 n k2', .slice b3 m k3'] 30) = u8 at *
        generalize u7.heap.size = tb at *
        go_upto_region 14 with fail
        have K9 := (unhide S9h).box
        have B9 := (unhide B8h).trans (WrB.below (unhide W9h) (fun i e => by rw [e]; exact hBg) (unhide B8h).size)
        have RS := hide (show TsOwn _ W.heap.size _ _ _ _ _ _ n m _ (ps.set k (some (addD C DD))) idx from (unhide S9h).ts (none_set (unhide GPh)) (dat_set (unhide DAT) k _ _ rfl) (by rw [List.length_set]; exact (unhide LNS).1) (unhide LNS).2)
        clear S9h W9h x0 x1 x2 x3 x4 y0 y1 y2 y3 y4 p0 p1 p2 p3 p4 t0
        generalize ((((u8.setCell ⟨g, k * 5, none⟩ (.string (addD C DD).lo)).setCell ⟨g, k * 5 + 1, none⟩ (.string (addD C DD).hi)).setCell ⟨g, k * 5 + 1 + 1, none⟩ (.int .i64 (addD C DD).r)).setCell ⟨g, k * 5 + 1 + 1 + 1, none⟩ (.slice ae ne ce)).setCell ⟨g, k * 5 + 1 + 1 + 1 + 1, none⟩ (.slice a' n' c') = u9 at *
        have z0 := (heap_at K9 0).1
        have z1 := (heap_at K9 1).1
        have z2 := (heap_at K9 2).1
        have kr9 := (B9.block (w.heap.size + 1) hz2).trans (unhide K2)
        have r0 := (heap_at kr9 0).1
        have r1 := (heap_at kr9 1).1
        have r2 := (heap_at kr9 2).1
        have g0 := (heap_at kr9 0).2
        have g1 := (heap_at kr9 1).2
        have g2 := (heap_at kr9 2).2
        have BB := (unhide B0).trans (B9.mono (unhide B0).size)
        have RES := hide (show SpRes (chgT ps idx ac) w (.returned (.tuple #[.agg #[.slice (some ⟨g, 0, none⟩) n k1', .slice b2 n k2', .slice b3 m k3'], .int .i64 (k : Int), .int .i64 0])) (((u9.setCell ⟨w.heap.size + 1, 0, none⟩ (.slice (some ⟨g, 0, none⟩) n k1')).setCell ⟨w.heap.size + 1, 1, none⟩ (.slice b2 n k2')).setCell ⟨w.heap.size + 1, 2, none⟩ (.slice b3 m k3')) by
          rw [unhide CTh, if_neg (by rw [unhide HL]; exact hbig), ← unhide RRE, ← unhide DDh]
          exact ⟨_, _, _, _, _, _, _, _, _, _, rfl, fun _ => ⟨rfl, ((((unhide RS).set hz2 0 _).set hz2 1 _).set hz2 2 _).dn (Nat.le_of_lt hz1)⟩, ((BB.setCell (p := ⟨w.heap.size + 1, 0, none⟩) (Nat.le_succ _) _).setCell (p := ⟨w.heap.size + 1, 1, none⟩) (Nat.le_succ _) _).setCell (p := ⟨w.heap.size + 1, 2, none⟩) (Nat.le_succ _) _⟩)
        clear K9 B9 kr9 BB RS CTh HL
        go_wp2_with fail
        refine bodyPost_ret (v := .tuple #[.agg #[.slice (some ⟨g, 0, none⟩) n k1', .slice b2 n k2', .slice b3 m k3'], .int .i64 (k : Int), .int .i64 0]) (by simp [results, Try.results23, go_sem, *]) rfl ?_
        exact unhide RES
    · have hD : DD = ⟨1, ac.key, ac.val, 0⟩ := by
        rw [unhide DDh]
        unfold chgD
        rw [if_pos (by omega)]
      have hfl : ¬ ((dn : Int) = 12) := hf
      have hRX : roomP X = X := by
        unfold roomP
        rw [if_neg (fun e => hf (hfull.2 e))]
      have K3 := heap_alloc_new u1 (.cells #[.string X.lo, .string X.hi, .int .i64 X.r, .slice sa sn sc, .slice da dn dc] 51)
      have BA : Below u1.heap.size u1 (u1.alloc (.cells #[.string X.lo, .string X.hi, .int .i64 X.r, .slice sa sn sc, .slice da dn dc] 51)) := (Below.refl _ _).alloc (Nat.le_refl _) _
      have BD : Below (u1.alloc (.cells #[.string X.lo, .string X.hi, .int .i64 X.r, .slice sa sn sc, .slice da dn dc] 51)).heap.size (u1.alloc (.cells #[.string X.lo, .string X.hi, .int .i64 X.r, .slice sa sn sc, .slice da dn dc] 51)) ((u1.alloc (.cells #[.string X.lo, .string X.hi, .int .i64 X.r, .slice sa sn sc, .slice da dn dc] 51)).alloc (.cells #[.int .i64 1, .string ac.key, .string ac.val, .int .i64 0] 86)) := (Below.refl _ _).alloc (Nat.le_refl _) _
      have K4 := heap_alloc_new (u1.alloc (.cells #[.string X.lo, .string X.hi, .int .i64 X.r, .slice sa sn sc, .slice da dn dc] 51)) (.cells #[.int .i64 1, .string ac.key, .string ac.val, .int .i64 0] 86)
      have zA : (u1.alloc (.cells #[.string X.lo, .string X.hi, .int .i64 X.r, .slice sa sn sc, .slice da dn dc] 51)).heap.size = u1.heap.size + 1 := by simp
      have BAD := BA.trans (BD.mono BA.size)
      have K3' := (BD.block u1.heap.size (by omega)).trans K3
      have ST := hide (show RmSt W ((u1.alloc (.cells #[.string X.lo, .string X.hi, .int .i64 X.r, .slice sa sn sc, .slice da dn dc] 51)).alloc (.cells #[.int .i64 1, .string ac.key, .string ac.val, .int .i64 0] 86)) u1.heap.size (u1.heap.size + 1) X DD ⟨sa, sn, sc⟩ ⟨da, dn, dc⟩ from ⟨(unhide B1h).trans (BAD.mono hu1), K3', (by rw [hD, ← zA]; exact K4), (unhide P1h).es.below BAD, (unhide P1h).ds.below BAD, (unhide P1h).ce, (unhide P1h).cd, hu1, by omega⟩)
      have RRE := hide hRX.symm
      have RRh := hide (show X.es.length ≤ 32 ∧ X.ds.length < 12 from ⟨(ok_parts hokp).2.1, by have := (unhide ROh).2.2.2.2.2; rw [hRX] at this; exact this⟩)
      clear K3 BA BD K4 zA BAD K3' hRX hD
      go_upto_region 6 with fail
      generalize (u1.alloc (.cells #[.string X.lo, .string X.hi, .int .i64 X.r, .slice sa sn sc, .slice da dn dc] 51)).alloc (.cells #[.int .i64 1, .string ac.key, .string ac.val, .int .i64 0] 86) = V at *
      generalize u1.heap.size = pb at *
      generalize hdb : pb + 1 = db at *
      clear hdb
      have hRd : X.ds.length ≤ 12 := Nat.le_of_lt (unhide RRh).2
      have hRe : X.es.length ≤ 32 := (unhide RRh).1
      have HOW := hide (l04Own_any X.lo X.hi X.r sa sn sc X.es da dn dc X.ds V (unhide ST).es (unhide ST).ds (by have h : X.es.length = _ := (unhide ST).es.1; simp only at h; omega) (by have h : X.ds.length = _ := (unhide ST).ds.1; simp only at h; omega) (unhide ST).ce (unhide ST).cd)
      unfold pgv at HOW
      obtain ⟨p0, p1, p2, p3, p4⟩ := pg_cells5 (unhide ST).pg
      go_upto_region 8 with fail
      go_wp2_with fail
      refine (unhide HOW).mono ?_
      rintro e u2 ⟨ae, ne, ce, ad, nd, cd, rfl, hPO, hb2⟩
      clear HOW p0 p1 p2 p3 p4
      have kp2 := (hb2.block pb (blk_lt (unhide ST).pg)).trans (unhide ST).pg
      obtain ⟨p0, p1, p2, p3, p4⟩ := pg_cells5 kp2
      obtain ⟨f0, f1, f2, f3, f4⟩ := fz_cells kp2
      obtain ⟨cg, kd⟩ := (unhide ST).own (t0 := ⟨ae, ne, ce⟩) (t1 := ⟨ad, nd, cd⟩) hb2 hPO
      simp only at cg kd
      have CG := hide cg
      have hpge := (unhide ST).pge
      clear cg hPO hb2 kp2
      go_upto_region 9 with fail
      generalize ((((u2.setCell ⟨pb, 0, none⟩ (.string X.lo)).setCell ⟨pb, 1, none⟩ (.string X.hi)).setCell ⟨pb, 2, none⟩ (.int .i64 X.r)).setCell ⟨pb, 3, none⟩ (.slice ae ne ce)).setCell ⟨pb, 4, none⟩ (.slice ad nd cd) = u3 at *
      clear p0 p1 p2 p3 p4 f0 f1 f2 f3 f4
      have p4 := (heap_at (unhide CG).pg 4).1
      have d0 := (heap_at kd 0).1
      have d1 := (heap_at kd 1).1
      have d2 := (heap_at kd 2).1
      have d3 := (heap_at kd 3).1
      obtain ⟨a', n', c', u4, hrD, kp4, cg4⟩ := (unhide CG).app (D := DD) (by omega) hpge
      simp only at hrD kp4 cg4
      have CG4 := hide cg4
      have r4 := (heap_at kp4 4).1
      have f4 := (heap_at kp4 4).2
      clear cg4 kp4 kd
      go_upto_region 10 with (at_builtin; refine wpAppE rfl _ _ 49 rfl _ _ (.slice a' n' c') u4 rfl rfl hrD ?_)
      generalize u4.setCell ⟨pb, 4, none⟩ (.slice a' n' c') = u5 at *
      clear p4 d0 d1 d2 d3 hrD r4 f4
      obtain ⟨p0, p1, p2, p3, p4⟩ := pg_cells5 (unhide CG4).pg
      have hq1 : (addD X DD).es.length = ne := (erow_of_owns (unhide CG4).es).1
      have hq2 : (addD X DD).ds.length = n' := (drow_of_owns (unhide CG4).ds).1
      have hq3 : (addD X DD).es.length = X.es.length := rfl
      have hq4 : (addD X DD).ds.length = X.ds.length + 1 := by show (X.ds ++ [DD]).length = _; rw [List.length_append]; rfl
      have HEN := hide (l04Entries_any (addD X DD).lo (addD X DD).hi (addD X DD).r ae ne ce (addD X DD).es a' n' c' (addD X DD).ds u5 (erow_of_owns (unhide CG4).es) (drow_of_owns (unhide CG4).ds) (by omega) (by omega) (own_cap0 (unhide CG4).es))
      unfold pgv at HEN
      obtain ⟨L, hL⟩ : ∃ L, L = (entsE (addD X DD).es (addD X DD).ds).length := ⟨_, rfl⟩
      rw [← hL] at HEN
      have HL := hide (show (enP (addD (roomP X) (chgD ac))).length = L by rw [hL, ← unhide RRE, ← unhide DDh])
      have hLm : L ≤ maxLen := by
        have h1 : (entsE (addD X DD).es (addD X DD).ds).length ≤ _ := entsE_len _ _
        rw [← hL] at h1
        unfold maxLen
        omega
      clear hL hq1 hq2 hq3 hq4
      unfold maxLen at hLm
      go_wp2_with fail
      refine (unhide HEN).mono ?_
      rintro e u6 ⟨g6, k6, rfl, -, hb6⟩
      have CG6 := hide ((unhide CG4).below hb6)
      have B6 := (unhide CG6).bel
      obtain ⟨e0, e1, e2⟩ := unhide SKP u6 B6
      have kr6 := (B6.block (w.heap.size + 1) hz2).trans (unhide K2)
      have r0 := (heap_at kr6 0).1
      have r1 := (heap_at kr6 1).1
      have r2 := (heap_at kr6 2).1
      have g0 := (heap_at kr6 0).2
      have g1 := (heap_at kr6 1).2
      have g2 := (heap_at kr6 2).2
      have BB := (unhide B0).trans (B6.mono (unhide B0).size)
      clear HEN p0 p1 p2 p3 p4 CG4 kr6 hb6
      by_cases hbig : 32 < L
      · have RES := hide (show SpRes (chgT ps idx ac) w (.returned (.tuple #[.agg #[.slice (some ⟨b, 0, none⟩) n c1, .slice a2 n c2, .slice a3 m c3], .int .i64 (k : Int), .int .i64 7])) (((u6.setCell ⟨w.heap.size + 1, 0, none⟩ (.slice (some ⟨b, 0, none⟩) n c1)).setCell ⟨w.heap.size + 1, 1, none⟩ (.slice a2 n c2)).setCell ⟨w.heap.size + 1, 2, none⟩ (.slice a3 m c3)) by
          rw [unhide CTh, if_pos (by rw [unhide HL]; exact hbig)]
          exact SpRes.no (r := ⟨ps, idx, 0, 7⟩) (show (7 : Int) ≠ 0 by decide) (((BB.setCell (p := ⟨w.heap.size + 1, 0, none⟩) (Nat.le_succ _) _).setCell (p := ⟨w.heap.size + 1, 1, none⟩) (Nat.le_succ _) _).setCell (p := ⟨w.heap.size + 1, 2, none⟩) (Nat.le_succ _) _))
        clear BB B6 CTh HL
        go_wp2_with fail
        refine bodyPost_ret (v := .tuple #[.agg #[.slice (some ⟨b, 0, none⟩) n c1, .slice a2 n c2, .slice a3 m c3], .int .i64 (k : Int), .int .i64 7]) (by simp [results, Try.results23, go_sem, *]) rfl ?_
        exact unhide RES
      · have HON := hide (l05Own_any B (some ⟨b, 0, none⟩) c1 a2 c2 a3 c3 n m hs ps idx u6 ((unhide OWh).below B6) (unhide HTh))
        clear r0 r1 r2 g0 g1 g2
        go_wp2_with fail
        refine (unhide HON).mono ?_
        rintro e u7 ⟨b1, k1', b2, k2', b3, k3', hs7, rfl, O7, hb7⟩
        have O8 := O7.below ((Below.refl u7.heap.size u7).alloc (Nat.le_refl _) (.cells #[.slice b1 n k1', .slice b2 n k2', .slice b3 m k3'] 30))
        have CG8 := (unhide CG6).below (hb7.trans (((Below.refl u7.heap.size u7).alloc (Nat.le_refl _) (.cells #[.slice b1 n k1', .slice b2 n k2', .slice b3 m k3'] 30)).mono hb7.size))
        have kT := heap_alloc_new u7 (.cells #[.slice b1 n k1', .slice b2 n k2', .slice b3 m k3'] 30)
        have h67 := hb7.size
        have c6 := (unhide CG6)
        have hW6 := c6.bel.size
        have ape : ∀ g, (Value.slice ae ne ce).ownBlock = some g → ¬ NBl (.slice b1 n k1') (hs7.map ppEl) g := fun g hg hn => by
          have h1 := (O8.own.pg.lt g hn).1
          have h2 := (c6.es.lt g hg).2
          omega
        have apd : ∀ g, (Value.slice a' n' c').ownBlock = some g → ¬ NBl (.slice b1 n k1') (hs7.map ppEl) g := fun g hg hn => by
          have h1 := (O8.own.pg.lt g hn).1
          have h2 := (c6.ds.lt g hg).2
          omega
        have hk7 : k < hs7.length := by rw [O8.hl, ← O8.ln]; exact hkl
        have DAT := hide O8.dat
        have LNS := hide (show ps.length = n ∧ idx.length = m from ⟨O8.ln, O8.li⟩)
        have HL7 := hide O8.hl
        obtain ⟨g, gc, hb1, hcell, hfz, S9, W9, hBg, hgt⟩ := ((O8.dn hW6).tg kT).put hk7 (⟨addD X DD, ⟨ae, ne, ce⟩, ⟨a', n', c'⟩⟩ : PpH) CG8.es CG8.ds ape apd
        injection hb1 with hb1 hbn hbc
        clear hbn
        subst hb1 hbc
        have x0 := hcell 0 (by decide)
        have x1 := hcell 1 (by decide)
        have x2 := hcell 2 (by decide)
        have x3 := hcell 3 (by decide)
        have x4 := hcell 4 (by decide)
        have y0 := hfz (k * 5)
        have y1 := hfz (k * 5 + 1)
        have y2 := hfz (k * 5 + 2)
        have y3 := hfz (k * 5 + 3)
        have y4 := hfz (k * 5 + 4)
        unfold pcs at x0 x1 x2 x3 x4 S9 W9
        simp only [List.getElem_cons_zero, List.getElem_cons_succ, Nat.add_zero] at x0 x1 x2 x3 x4
        unfold setAll setAll setAll setAll setAll setAll at S9 W9
        simp only at S9 W9
        have S9h := hide S9
        have W9h := hide W9
        obtain ⟨p0, p1, p2, p3, p4⟩ := pg_cells5 CG8.pg
        have B8h := hide CG8.bel
        have t0 := (heap_at kT 0).1
        clear O7 hb7 O8 CG8 kT ape apd hcell hfz S9 W9 HON e0 e1 e2 c6 CG6 BB
        go_upto_region 13 with fail
        generalize u7.alloc (.cells #[.slice (some ⟨g, 0, none⟩) n k1', .slice b2 n k2', .slice b3 m k3'] 30) = u8 at *
        generalize u7.heap.size = tb at *
        go_upto_region 14 with fail
        have K9 := (unhide S9h).box
        have B9 := (unhide B8h).trans (WrB.below (unhide W9h) (fun i e => by rw [e]; exact hBg) (unhide B8h).size)
        have RS := hide (show TsOwn _ W.heap.size _ _ _ _ _ _ n m _ (ps.set k (some (addD X DD))) idx from (unhide S9h).ts (none_set (unhide GPh)) (dat_set (unhide DAT) k _ _ rfl) (by rw [List.length_set]; exact (unhide LNS).1) (unhide LNS).2)
        clear S9h W9h x0 x1 x2 x3 x4 y0 y1 y2 y3 y4 p0 p1 p2 p3 p4 t0
        generalize ((((u8.setCell ⟨g, k * 5, none⟩ (.string (addD X DD).lo)).setCell ⟨g, k * 5 + 1, none⟩ (.string (addD X DD).hi)).setCell ⟨g, k * 5 + 1 + 1, none⟩ (.int .i64 (addD X DD).r)).setCell ⟨g, k * 5 + 1 + 1 + 1, none⟩ (.slice ae ne ce)).setCell ⟨g, k * 5 + 1 + 1 + 1 + 1, none⟩ (.slice a' n' c') = u9 at *
        have z0 := (heap_at K9 0).1
        have z1 := (heap_at K9 1).1
        have z2 := (heap_at K9 2).1
        have kr9 := (B9.block (w.heap.size + 1) hz2).trans (unhide K2)
        have r0 := (heap_at kr9 0).1
        have r1 := (heap_at kr9 1).1
        have r2 := (heap_at kr9 2).1
        have g0 := (heap_at kr9 0).2
        have g1 := (heap_at kr9 1).2
        have g2 := (heap_at kr9 2).2
        have BB := (unhide B0).trans (B9.mono (unhide B0).size)
        have RES := hide (show SpRes (chgT ps idx ac) w (.returned (.tuple #[.agg #[.slice (some ⟨g, 0, none⟩) n k1', .slice b2 n k2', .slice b3 m k3'], .int .i64 (k : Int), .int .i64 0])) (((u9.setCell ⟨w.heap.size + 1, 0, none⟩ (.slice (some ⟨g, 0, none⟩) n k1')).setCell ⟨w.heap.size + 1, 1, none⟩ (.slice b2 n k2')).setCell ⟨w.heap.size + 1, 2, none⟩ (.slice b3 m k3')) by
          rw [unhide CTh, if_neg (by rw [unhide HL]; exact hbig), ← unhide RRE, ← unhide DDh]
          exact ⟨_, _, _, _, _, _, _, _, _, _, rfl, fun _ => ⟨rfl, ((((unhide RS).set hz2 0 _).set hz2 1 _).set hz2 2 _).dn (Nat.le_of_lt hz1)⟩, ((BB.setCell (p := ⟨w.heap.size + 1, 0, none⟩) (Nat.le_succ _) _).setCell (p := ⟨w.heap.size + 1, 1, none⟩) (Nat.le_succ _) _).setCell (p := ⟨w.heap.size + 1, 2, none⟩) (Nat.le_succ _) _⟩)
        clear K9 B9 kr9 BB RS CTh HL
        go_wp2_with fail
        refine bodyPost_ret (v := .tuple #[.agg #[.slice (some ⟨g, 0, none⟩) n k1', .slice b2 n k2', .slice b3 m k3'], .int .i64 (k : Int), .int .i64 0]) (by simp [results, Try.results23, go_sem, *]) rfl ?_
        exact unhide RES
  · by_cases hf : (dn : Int) = 12
    · have hD : DD = ⟨2, ac.key, ⟨#[]⟩, 0⟩ := by
        rw [unhide DDh]
        unfold chgD
        rw [if_neg (by omega)]
      have hfl : (dn : Int) = 12 := hf
      have hRX : roomP X = conPg X := by
        unfold roomP
        rw [if_pos (hfull.1 hf)]
      have K3 := heap_alloc_new u1 (.cells #[.string X.lo, .string X.hi, .int .i64 X.r, .slice sa sn sc, .slice da dn dc] 51)
      have BA : Below u1.heap.size u1 (u1.alloc (.cells #[.string X.lo, .string X.hi, .int .i64 X.r, .slice sa sn sc, .slice da dn dc] 51)) := (Below.refl _ _).alloc (Nat.le_refl _) _
      have BD : Below (u1.alloc (.cells #[.string X.lo, .string X.hi, .int .i64 X.r, .slice sa sn sc, .slice da dn dc] 51)).heap.size (u1.alloc (.cells #[.string X.lo, .string X.hi, .int .i64 X.r, .slice sa sn sc, .slice da dn dc] 51)) ((u1.alloc (.cells #[.string X.lo, .string X.hi, .int .i64 X.r, .slice sa sn sc, .slice da dn dc] 51)).alloc (.cells #[.int .i64 2, .string ac.key, .string ⟨#[]⟩, .int .i64 0] 86)) := (Below.refl _ _).alloc (Nat.le_refl _) _
      have K4 := heap_alloc_new (u1.alloc (.cells #[.string X.lo, .string X.hi, .int .i64 X.r, .slice sa sn sc, .slice da dn dc] 51)) (.cells #[.int .i64 2, .string ac.key, .string ⟨#[]⟩, .int .i64 0] 86)
      have zA : (u1.alloc (.cells #[.string X.lo, .string X.hi, .int .i64 X.r, .slice sa sn sc, .slice da dn dc] 51)).heap.size = u1.heap.size + 1 := by simp
      have BAD := BA.trans (BD.mono BA.size)
      have K3' := (BD.block u1.heap.size (by omega)).trans K3
      have ST0 := hide (show RmSt W ((u1.alloc (.cells #[.string X.lo, .string X.hi, .int .i64 X.r, .slice sa sn sc, .slice da dn dc] 51)).alloc (.cells #[.int .i64 2, .string ac.key, .string ⟨#[]⟩, .int .i64 0] 86)) u1.heap.size (u1.heap.size + 1) X DD ⟨sa, sn, sc⟩ ⟨da, dn, dc⟩ from ⟨(unhide B1h).trans (BAD.mono hu1), K3', (by rw [hD, ← zA]; exact K4), (unhide P1h).es.below BAD, (unhide P1h).ds.below BAD, (unhide P1h).ce, (unhide P1h).cd, hu1, by omega⟩)
      obtain ⟨C, hC⟩ : ∃ C, C = conPg X := ⟨_, rfl⟩
      have RRE := hide (show C = roomP X by rw [hC, hRX])
      have RRh := hide (show C.es.length ≤ 32 ∧ C.ds.length < 12 from ⟨by rw [hC]; exact enP_len hokp, by rw [hC]; show 0 < 12; decide⟩)
      have CF := hide (show C.lo = X.lo ∧ C.hi = hiP X ∧ C.r = riP X ∧ C.es = enP X ∧ C.ds = [] by rw [hC]; exact ⟨rfl, rfl, rfl, rfl, rfl⟩)
      clear K3 BA BD K4 zA BAD K3' hRX hD hC
      go_upto_region 6 with fail
      generalize (u1.alloc (.cells #[.string X.lo, .string X.hi, .int .i64 X.r, .slice sa sn sc, .slice da dn dc] 51)).alloc (.cells #[.int .i64 2, .string ac.key, .string ⟨#[]⟩, .int .i64 0] 86) = V0 at *
      generalize u1.heap.size = pb at *
      generalize hdb : pb + 1 = db at *
      clear hdb
      obtain ⟨p0, p1, p2, p3, p4⟩ := pg_cells5 (unhide ST0).pg
      have HCN := hide (l04Consolidate_any X.lo X.hi X.r sa sn sc X.es da dn dc X.ds V0 (unhide ST0).es (unhide ST0).ds (by omega) (by omega) (unhide ST0).ce)
      unfold pgv at HCN
      rw [show highE X.hi X.ds = C.hi from (unhide CF).2.1.symm, show rightE X.r X.ds = C.r from (unhide CF).2.2.1.symm, show entsE X.es X.ds = C.es from (unhide CF).2.2.2.1.symm, ← (unhide CF).1] at HCN
      clear q0 q1 q2 q3 q4 e0 e1 e2
      have hLO : X.lo = C.lo := (unhide CF).1.symm
      rw [hLO] at p0
      go_upto_region 7 with fail
      go_wp2_with fail
      refine (unhide HCN).mono ?_
      rintro e uC ⟨aK, nK, kK, rfl, hOK, hbC⟩
      clear HCN p0 p1 p2 p3 p4
      have kpC := (hbC.block pb (blk_lt (unhide ST0).pg)).trans (unhide ST0).pg
      have kdC := (hbC.block db (blk_lt (unhide ST0).dl)).trans (unhide ST0).dl
      obtain ⟨p0, p1, p2, p3, p4⟩ := pg_cells5 kpC
      obtain ⟨f0, f1, f2, f3, f4⟩ := fz_cells kpC
      have ST := hide (show RmSt W (((((uC.setCell ⟨pb, 0, none⟩ (.string C.lo)).setCell ⟨pb, 1, none⟩ (.string C.hi)).setCell ⟨pb, 2, none⟩ (.int .i64 C.r)).setCell ⟨pb, 3, none⟩ (.slice aK nK kK)).setCell ⟨pb, 4, none⟩ (.slice none 0 0)) pb db C DD ⟨aK, nK, kK⟩ ⟨none, 0, 0⟩ from by
        have hw := set5_wr' uC pb (.string C.lo) (.string C.hi) (.int .i64 C.r) (.slice aK nK kK) (.slice none 0 0)
        have ne : db ≠ pb := fun e => by rw [e, kpC] at kdC; injection kdC with kdC; injection kdC with _ kdC _; exact absurd kdC (by decide)
        have hbu := (unhide ST0).bel.trans (hbC.mono (unhide ST0).bel.size)
        have oK := own_keep hOK kpC (by decide) hw
        exact ⟨hbu.trans (WrB.below hw (fun i e => by rw [e]; exact (unhide ST0).pge) hbu.size), set5_hp kpC _ _ _ _ _, (hw.block db (blk_lt kdC) ne).trans kdC, erow_of_owns oK, (by rw [(unhide CF).2.2.2.2]; exact ⟨rfl, fun i hi => absurd hi (Nat.not_lt_zero _)⟩), own_cap0 oK, fun _ => rfl, (unhide ST0).pge, (unhide ST0).dge⟩)
      clear kpC kdC hOK hbC ST0
      go_upto_region 8 with fail
      generalize ((((uC.setCell ⟨pb, 0, none⟩ (.string C.lo)).setCell ⟨pb, 1, none⟩ (.string C.hi)).setCell ⟨pb, 2, none⟩ (.int .i64 C.r)).setCell ⟨pb, 3, none⟩ (.slice aK nK kK)).setCell ⟨pb, 4, none⟩ (.slice none 0 0) = V at *
      clear p0 p1 p2 p3 p4 f0 f1 f2 f3 f4
      have hRd : C.ds.length ≤ 12 := Nat.le_of_lt (unhide RRh).2
      have hRe : C.es.length ≤ 32 := (unhide RRh).1
      have HOW := hide (l04Own_any C.lo C.hi C.r aK nK kK C.es none 0 0 C.ds V (unhide ST).es (unhide ST).ds (by have h : C.es.length = _ := (unhide ST).es.1; simp only at h; omega) (by have h : C.ds.length = _ := (unhide ST).ds.1; simp only at h; omega) (unhide ST).ce (unhide ST).cd)
      unfold pgv at HOW
      obtain ⟨p0, p1, p2, p3, p4⟩ := pg_cells5 (unhide ST).pg
      go_upto_region 8 with fail
      go_wp2_with fail
      refine (unhide HOW).mono ?_
      rintro e u2 ⟨ae, ne, ce, ad, nd, cd, rfl, hPO, hb2⟩
      clear HOW p0 p1 p2 p3 p4
      have kp2 := (hb2.block pb (blk_lt (unhide ST).pg)).trans (unhide ST).pg
      obtain ⟨p0, p1, p2, p3, p4⟩ := pg_cells5 kp2
      obtain ⟨f0, f1, f2, f3, f4⟩ := fz_cells kp2
      obtain ⟨cg, kd⟩ := (unhide ST).own (t0 := ⟨ae, ne, ce⟩) (t1 := ⟨ad, nd, cd⟩) hb2 hPO
      simp only at cg kd
      have CG := hide cg
      have hpge := (unhide ST).pge
      clear cg hPO hb2 kp2
      go_upto_region 9 with fail
      generalize ((((u2.setCell ⟨pb, 0, none⟩ (.string C.lo)).setCell ⟨pb, 1, none⟩ (.string C.hi)).setCell ⟨pb, 2, none⟩ (.int .i64 C.r)).setCell ⟨pb, 3, none⟩ (.slice ae ne ce)).setCell ⟨pb, 4, none⟩ (.slice ad nd cd) = u3 at *
      clear p0 p1 p2 p3 p4 f0 f1 f2 f3 f4
      have p4 := (heap_at (unhide CG).pg 4).1
      have d0 := (heap_at kd 0).1
      have d1 := (heap_at kd 1).1
      have d2 := (heap_at kd 2).1
      have d3 := (heap_at kd 3).1
      obtain ⟨a', n', c', u4, hrD, kp4, cg4⟩ := (unhide CG).app (D := DD) (by omega) hpge
      simp only at hrD kp4 cg4
      have CG4 := hide cg4
      have r4 := (heap_at kp4 4).1
      have f4 := (heap_at kp4 4).2
      clear cg4 kp4 kd
      go_upto_region 10 with (at_builtin; refine wpAppE rfl _ _ 49 rfl _ _ (.slice a' n' c') u4 rfl rfl hrD ?_)
      generalize u4.setCell ⟨pb, 4, none⟩ (.slice a' n' c') = u5 at *
      clear p4 d0 d1 d2 d3 hrD r4 f4
      obtain ⟨p0, p1, p2, p3, p4⟩ := pg_cells5 (unhide CG4).pg
      have hq1 : (addD C DD).es.length = ne := (erow_of_owns (unhide CG4).es).1
      have hq2 : (addD C DD).ds.length = n' := (drow_of_owns (unhide CG4).ds).1
      have hq3 : (addD C DD).es.length = C.es.length := rfl
      have hq4 : (addD C DD).ds.length = C.ds.length + 1 := by show (C.ds ++ [DD]).length = _; rw [List.length_append]; rfl
      have HEN := hide (l04Entries_any (addD C DD).lo (addD C DD).hi (addD C DD).r ae ne ce (addD C DD).es a' n' c' (addD C DD).ds u5 (erow_of_owns (unhide CG4).es) (drow_of_owns (unhide CG4).ds) (by omega) (by omega) (own_cap0 (unhide CG4).es))
      unfold pgv at HEN
      obtain ⟨L, hL⟩ : ∃ L, L = (entsE (addD C DD).es (addD C DD).ds).length := ⟨_, rfl⟩
      rw [← hL] at HEN
      have HL := hide (show (enP (addD (roomP X) (chgD ac))).length = L by rw [hL, ← unhide RRE, ← unhide DDh])
      have hLm : L ≤ maxLen := by
        have h1 : (entsE (addD C DD).es (addD C DD).ds).length ≤ _ := entsE_len _ _
        rw [← hL] at h1
        unfold maxLen
        omega
      clear hL hq1 hq2 hq3 hq4
      unfold maxLen at hLm
      go_wp2_with fail
      refine (unhide HEN).mono ?_
      rintro e u6 ⟨g6, k6, rfl, -, hb6⟩
      have CG6 := hide ((unhide CG4).below hb6)
      have B6 := (unhide CG6).bel
      obtain ⟨e0, e1, e2⟩ := unhide SKP u6 B6
      have kr6 := (B6.block (w.heap.size + 1) hz2).trans (unhide K2)
      have r0 := (heap_at kr6 0).1
      have r1 := (heap_at kr6 1).1
      have r2 := (heap_at kr6 2).1
      have g0 := (heap_at kr6 0).2
      have g1 := (heap_at kr6 1).2
      have g2 := (heap_at kr6 2).2
      have BB := (unhide B0).trans (B6.mono (unhide B0).size)
      clear HEN p0 p1 p2 p3 p4 CG4 kr6 hb6
      by_cases hbig : 32 < L
      · have RES := hide (show SpRes (chgT ps idx ac) w (.returned (.tuple #[.agg #[.slice (some ⟨b, 0, none⟩) n c1, .slice a2 n c2, .slice a3 m c3], .int .i64 (k : Int), .int .i64 7])) (((u6.setCell ⟨w.heap.size + 1, 0, none⟩ (.slice (some ⟨b, 0, none⟩) n c1)).setCell ⟨w.heap.size + 1, 1, none⟩ (.slice a2 n c2)).setCell ⟨w.heap.size + 1, 2, none⟩ (.slice a3 m c3)) by
          rw [unhide CTh, if_pos (by rw [unhide HL]; exact hbig)]
          exact SpRes.no (r := ⟨ps, idx, 0, 7⟩) (show (7 : Int) ≠ 0 by decide) (((BB.setCell (p := ⟨w.heap.size + 1, 0, none⟩) (Nat.le_succ _) _).setCell (p := ⟨w.heap.size + 1, 1, none⟩) (Nat.le_succ _) _).setCell (p := ⟨w.heap.size + 1, 2, none⟩) (Nat.le_succ _) _))
        clear BB B6 CTh HL
        go_wp2_with fail
        refine bodyPost_ret (v := .tuple #[.agg #[.slice (some ⟨b, 0, none⟩) n c1, .slice a2 n c2, .slice a3 m c3], .int .i64 (k : Int), .int .i64 7]) (by simp [results, Try.results23, go_sem, *]) rfl ?_
        exact unhide RES
      · have HON := hide (l05Own_any B (some ⟨b, 0, none⟩) c1 a2 c2 a3 c3 n m hs ps idx u6 ((unhide OWh).below B6) (unhide HTh))
        clear r0 r1 r2 g0 g1 g2
        go_wp2_with fail
        refine (unhide HON).mono ?_
        rintro e u7 ⟨b1, k1', b2, k2', b3, k3', hs7, rfl, O7, hb7⟩
        have O8 := O7.below ((Below.refl u7.heap.size u7).alloc (Nat.le_refl _) (.cells #[.slice b1 n k1', .slice b2 n k2', .slice b3 m k3'] 30))
        have CG8 := (unhide CG6).below (hb7.trans (((Below.refl u7.heap.size u7).alloc (Nat.le_refl _) (.cells #[.slice b1 n k1', .slice b2 n k2', .slice b3 m k3'] 30)).mono hb7.size))
        have kT := heap_alloc_new u7 (.cells #[.slice b1 n k1', .slice b2 n k2', .slice b3 m k3'] 30)
        have h67 := hb7.size
        have c6 := (unhide CG6)
        have hW6 := c6.bel.size
        have ape : ∀ g, (Value.slice ae ne ce).ownBlock = some g → ¬ NBl (.slice b1 n k1') (hs7.map ppEl) g := fun g hg hn => by
          have h1 := (O8.own.pg.lt g hn).1
          have h2 := (c6.es.lt g hg).2
          omega
        have apd : ∀ g, (Value.slice a' n' c').ownBlock = some g → ¬ NBl (.slice b1 n k1') (hs7.map ppEl) g := fun g hg hn => by
          have h1 := (O8.own.pg.lt g hn).1
          have h2 := (c6.ds.lt g hg).2
          omega
        have hk7 : k < hs7.length := by rw [O8.hl, ← O8.ln]; exact hkl
        have DAT := hide O8.dat
        have LNS := hide (show ps.length = n ∧ idx.length = m from ⟨O8.ln, O8.li⟩)
        have HL7 := hide O8.hl
        obtain ⟨g, gc, hb1, hcell, hfz, S9, W9, hBg, hgt⟩ := ((O8.dn hW6).tg kT).put hk7 (⟨addD C DD, ⟨ae, ne, ce⟩, ⟨a', n', c'⟩⟩ : PpH) CG8.es CG8.ds ape apd
        injection hb1 with hb1 hbn hbc
        clear hbn
        subst hb1 hbc
        have x0 := hcell 0 (by decide)
        have x1 := hcell 1 (by decide)
        have x2 := hcell 2 (by decide)
        have x3 := hcell 3 (by decide)
        have x4 := hcell 4 (by decide)
        have y0 := hfz (k * 5)
        have y1 := hfz (k * 5 + 1)
        have y2 := hfz (k * 5 + 2)
        have y3 := hfz (k * 5 + 3)
        have y4 := hfz (k * 5 + 4)
        unfold pcs at x0 x1 x2 x3 x4 S9 W9
        simp only [List.getElem_cons_zero, List.getElem_cons_succ, Nat.add_zero] at x0 x1 x2 x3 x4
        unfold setAll setAll setAll setAll setAll setAll at S9 W9
        simp only at S9 W9
        have S9h := hide S9
        have W9h := hide W9
        obtain ⟨p0, p1, p2, p3, p4⟩ := pg_cells5 CG8.pg
        have B8h := hide CG8.bel
        have t0 := (heap_at kT 0).1
        clear O7 hb7 O8 CG8 kT ape apd hcell hfz S9 W9 HON e0 e1 e2 c6 CG6 BB
        go_upto_region 13 with fail
        generalize u7.alloc (.cells #[.slice (some ⟨g, 0, none⟩) n k1', .slice b2 n k2', .slice b3 m k3'] 30) = u8 at *
        generalize u7.heap.size = tb at *
        go_upto_region 14 with fail
        have K9 := (unhide S9h).box
        have B9 := (unhide B8h).trans (WrB.below (unhide W9h) (fun i e => by rw [e]; exact hBg) (unhide B8h).size)
        have RS := hide (show TsOwn _ W.heap.size _ _ _ _ _ _ n m _ (ps.set k (some (addD C DD))) idx from (unhide S9h).ts (none_set (unhide GPh)) (dat_set (unhide DAT) k _ _ rfl) (by rw [List.length_set]; exact (unhide LNS).1) (unhide LNS).2)
        clear S9h W9h x0 x1 x2 x3 x4 y0 y1 y2 y3 y4 p0 p1 p2 p3 p4 t0
        generalize ((((u8.setCell ⟨g, k * 5, none⟩ (.string (addD C DD).lo)).setCell ⟨g, k * 5 + 1, none⟩ (.string (addD C DD).hi)).setCell ⟨g, k * 5 + 1 + 1, none⟩ (.int .i64 (addD C DD).r)).setCell ⟨g, k * 5 + 1 + 1 + 1, none⟩ (.slice ae ne ce)).setCell ⟨g, k * 5 + 1 + 1 + 1 + 1, none⟩ (.slice a' n' c') = u9 at *
        have z0 := (heap_at K9 0).1
        have z1 := (heap_at K9 1).1
        have z2 := (heap_at K9 2).1
        have kr9 := (B9.block (w.heap.size + 1) hz2).trans (unhide K2)
        have r0 := (heap_at kr9 0).1
        have r1 := (heap_at kr9 1).1
        have r2 := (heap_at kr9 2).1
        have g0 := (heap_at kr9 0).2
        have g1 := (heap_at kr9 1).2
        have g2 := (heap_at kr9 2).2
        have BB := (unhide B0).trans (B9.mono (unhide B0).size)
        have RES := hide (show SpRes (chgT ps idx ac) w (.returned (.tuple #[.agg #[.slice (some ⟨g, 0, none⟩) n k1', .slice b2 n k2', .slice b3 m k3'], .int .i64 (k : Int), .int .i64 0])) (((u9.setCell ⟨w.heap.size + 1, 0, none⟩ (.slice (some ⟨g, 0, none⟩) n k1')).setCell ⟨w.heap.size + 1, 1, none⟩ (.slice b2 n k2')).setCell ⟨w.heap.size + 1, 2, none⟩ (.slice b3 m k3')) by
          rw [unhide CTh, if_neg (by rw [unhide HL]; exact hbig), ← unhide RRE, ← unhide DDh]
          exact ⟨_, _, _, _, _, _, _, _, _, _, rfl, fun _ => ⟨rfl, ((((unhide RS).set hz2 0 _).set hz2 1 _).set hz2 2 _).dn (Nat.le_of_lt hz1)⟩, ((BB.setCell (p := ⟨w.heap.size + 1, 0, none⟩) (Nat.le_succ _) _).setCell (p := ⟨w.heap.size + 1, 1, none⟩) (Nat.le_succ _) _).setCell (p := ⟨w.heap.size + 1, 2, none⟩) (Nat.le_succ _) _⟩)
        clear K9 B9 kr9 BB RS CTh HL
        go_wp2_with fail
        refine bodyPost_ret (v := .tuple #[.agg #[.slice (some ⟨g, 0, none⟩) n k1', .slice b2 n k2', .slice b3 m k3'], .int .i64 (k : Int), .int .i64 0]) (by simp [results, Try.results23, go_sem, *]) rfl ?_
        exact unhide RES
    · have hD : DD = ⟨2, ac.key, ⟨#[]⟩, 0⟩ := by
        rw [unhide DDh]
        unfold chgD
        rw [if_neg (by omega)]
      have hfl : ¬ ((dn : Int) = 12) := hf
      have hRX : roomP X = X := by
        unfold roomP
        rw [if_neg (fun e => hf (hfull.2 e))]
      have K3 := heap_alloc_new u1 (.cells #[.string X.lo, .string X.hi, .int .i64 X.r, .slice sa sn sc, .slice da dn dc] 51)
      have BA : Below u1.heap.size u1 (u1.alloc (.cells #[.string X.lo, .string X.hi, .int .i64 X.r, .slice sa sn sc, .slice da dn dc] 51)) := (Below.refl _ _).alloc (Nat.le_refl _) _
      have BD : Below (u1.alloc (.cells #[.string X.lo, .string X.hi, .int .i64 X.r, .slice sa sn sc, .slice da dn dc] 51)).heap.size (u1.alloc (.cells #[.string X.lo, .string X.hi, .int .i64 X.r, .slice sa sn sc, .slice da dn dc] 51)) ((u1.alloc (.cells #[.string X.lo, .string X.hi, .int .i64 X.r, .slice sa sn sc, .slice da dn dc] 51)).alloc (.cells #[.int .i64 2, .string ac.key, .string ⟨#[]⟩, .int .i64 0] 86)) := (Below.refl _ _).alloc (Nat.le_refl _) _
      have K4 := heap_alloc_new (u1.alloc (.cells #[.string X.lo, .string X.hi, .int .i64 X.r, .slice sa sn sc, .slice da dn dc] 51)) (.cells #[.int .i64 2, .string ac.key, .string ⟨#[]⟩, .int .i64 0] 86)
      have zA : (u1.alloc (.cells #[.string X.lo, .string X.hi, .int .i64 X.r, .slice sa sn sc, .slice da dn dc] 51)).heap.size = u1.heap.size + 1 := by simp
      have BAD := BA.trans (BD.mono BA.size)
      have K3' := (BD.block u1.heap.size (by omega)).trans K3
      have ST := hide (show RmSt W ((u1.alloc (.cells #[.string X.lo, .string X.hi, .int .i64 X.r, .slice sa sn sc, .slice da dn dc] 51)).alloc (.cells #[.int .i64 2, .string ac.key, .string ⟨#[]⟩, .int .i64 0] 86)) u1.heap.size (u1.heap.size + 1) X DD ⟨sa, sn, sc⟩ ⟨da, dn, dc⟩ from ⟨(unhide B1h).trans (BAD.mono hu1), K3', (by rw [hD, ← zA]; exact K4), (unhide P1h).es.below BAD, (unhide P1h).ds.below BAD, (unhide P1h).ce, (unhide P1h).cd, hu1, by omega⟩)
      have RRE := hide hRX.symm
      have RRh := hide (show X.es.length ≤ 32 ∧ X.ds.length < 12 from ⟨(ok_parts hokp).2.1, by have := (unhide ROh).2.2.2.2.2; rw [hRX] at this; exact this⟩)
      clear K3 BA BD K4 zA BAD K3' hRX hD
      go_upto_region 6 with fail
      generalize (u1.alloc (.cells #[.string X.lo, .string X.hi, .int .i64 X.r, .slice sa sn sc, .slice da dn dc] 51)).alloc (.cells #[.int .i64 2, .string ac.key, .string ⟨#[]⟩, .int .i64 0] 86) = V at *
      generalize u1.heap.size = pb at *
      generalize hdb : pb + 1 = db at *
      clear hdb
      have hRd : X.ds.length ≤ 12 := Nat.le_of_lt (unhide RRh).2
      have hRe : X.es.length ≤ 32 := (unhide RRh).1
      have HOW := hide (l04Own_any X.lo X.hi X.r sa sn sc X.es da dn dc X.ds V (unhide ST).es (unhide ST).ds (by have h : X.es.length = _ := (unhide ST).es.1; simp only at h; omega) (by have h : X.ds.length = _ := (unhide ST).ds.1; simp only at h; omega) (unhide ST).ce (unhide ST).cd)
      unfold pgv at HOW
      obtain ⟨p0, p1, p2, p3, p4⟩ := pg_cells5 (unhide ST).pg
      go_upto_region 8 with fail
      go_wp2_with fail
      refine (unhide HOW).mono ?_
      rintro e u2 ⟨ae, ne, ce, ad, nd, cd, rfl, hPO, hb2⟩
      clear HOW p0 p1 p2 p3 p4
      have kp2 := (hb2.block pb (blk_lt (unhide ST).pg)).trans (unhide ST).pg
      obtain ⟨p0, p1, p2, p3, p4⟩ := pg_cells5 kp2
      obtain ⟨f0, f1, f2, f3, f4⟩ := fz_cells kp2
      obtain ⟨cg, kd⟩ := (unhide ST).own (t0 := ⟨ae, ne, ce⟩) (t1 := ⟨ad, nd, cd⟩) hb2 hPO
      simp only at cg kd
      have CG := hide cg
      have hpge := (unhide ST).pge
      clear cg hPO hb2 kp2
      go_upto_region 9 with fail
      generalize ((((u2.setCell ⟨pb, 0, none⟩ (.string X.lo)).setCell ⟨pb, 1, none⟩ (.string X.hi)).setCell ⟨pb, 2, none⟩ (.int .i64 X.r)).setCell ⟨pb, 3, none⟩ (.slice ae ne ce)).setCell ⟨pb, 4, none⟩ (.slice ad nd cd) = u3 at *
      clear p0 p1 p2 p3 p4 f0 f1 f2 f3 f4
      have p4 := (heap_at (unhide CG).pg 4).1
      have d0 := (heap_at kd 0).1
      have d1 := (heap_at kd 1).1
      have d2 := (heap_at kd 2).1
      have d3 := (heap_at kd 3).1
      obtain ⟨a', n', c', u4, hrD, kp4, cg4⟩ := (unhide CG).app (D := DD) (by omega) hpge
      simp only at hrD kp4 cg4
      have CG4 := hide cg4
      have r4 := (heap_at kp4 4).1
      have f4 := (heap_at kp4 4).2
      clear cg4 kp4 kd
      go_upto_region 10 with (at_builtin; refine wpAppE rfl _ _ 49 rfl _ _ (.slice a' n' c') u4 rfl rfl hrD ?_)
      generalize u4.setCell ⟨pb, 4, none⟩ (.slice a' n' c') = u5 at *
      clear p4 d0 d1 d2 d3 hrD r4 f4
      obtain ⟨p0, p1, p2, p3, p4⟩ := pg_cells5 (unhide CG4).pg
      have hq1 : (addD X DD).es.length = ne := (erow_of_owns (unhide CG4).es).1
      have hq2 : (addD X DD).ds.length = n' := (drow_of_owns (unhide CG4).ds).1
      have hq3 : (addD X DD).es.length = X.es.length := rfl
      have hq4 : (addD X DD).ds.length = X.ds.length + 1 := by show (X.ds ++ [DD]).length = _; rw [List.length_append]; rfl
      have HEN := hide (l04Entries_any (addD X DD).lo (addD X DD).hi (addD X DD).r ae ne ce (addD X DD).es a' n' c' (addD X DD).ds u5 (erow_of_owns (unhide CG4).es) (drow_of_owns (unhide CG4).ds) (by omega) (by omega) (own_cap0 (unhide CG4).es))
      unfold pgv at HEN
      obtain ⟨L, hL⟩ : ∃ L, L = (entsE (addD X DD).es (addD X DD).ds).length := ⟨_, rfl⟩
      rw [← hL] at HEN
      have HL := hide (show (enP (addD (roomP X) (chgD ac))).length = L by rw [hL, ← unhide RRE, ← unhide DDh])
      have hLm : L ≤ maxLen := by
        have h1 : (entsE (addD X DD).es (addD X DD).ds).length ≤ _ := entsE_len _ _
        rw [← hL] at h1
        unfold maxLen
        omega
      clear hL hq1 hq2 hq3 hq4
      unfold maxLen at hLm
      go_wp2_with fail
      refine (unhide HEN).mono ?_
      rintro e u6 ⟨g6, k6, rfl, -, hb6⟩
      have CG6 := hide ((unhide CG4).below hb6)
      have B6 := (unhide CG6).bel
      obtain ⟨e0, e1, e2⟩ := unhide SKP u6 B6
      have kr6 := (B6.block (w.heap.size + 1) hz2).trans (unhide K2)
      have r0 := (heap_at kr6 0).1
      have r1 := (heap_at kr6 1).1
      have r2 := (heap_at kr6 2).1
      have g0 := (heap_at kr6 0).2
      have g1 := (heap_at kr6 1).2
      have g2 := (heap_at kr6 2).2
      have BB := (unhide B0).trans (B6.mono (unhide B0).size)
      clear HEN p0 p1 p2 p3 p4 CG4 kr6 hb6
      by_cases hbig : 32 < L
      · have RES := hide (show SpRes (chgT ps idx ac) w (.returned (.tuple #[.agg #[.slice (some ⟨b, 0, none⟩) n c1, .slice a2 n c2, .slice a3 m c3], .int .i64 (k : Int), .int .i64 7])) (((u6.setCell ⟨w.heap.size + 1, 0, none⟩ (.slice (some ⟨b, 0, none⟩) n c1)).setCell ⟨w.heap.size + 1, 1, none⟩ (.slice a2 n c2)).setCell ⟨w.heap.size + 1, 2, none⟩ (.slice a3 m c3)) by
          rw [unhide CTh, if_pos (by rw [unhide HL]; exact hbig)]
          exact SpRes.no (r := ⟨ps, idx, 0, 7⟩) (show (7 : Int) ≠ 0 by decide) (((BB.setCell (p := ⟨w.heap.size + 1, 0, none⟩) (Nat.le_succ _) _).setCell (p := ⟨w.heap.size + 1, 1, none⟩) (Nat.le_succ _) _).setCell (p := ⟨w.heap.size + 1, 2, none⟩) (Nat.le_succ _) _))
        clear BB B6 CTh HL
        go_wp2_with fail
        refine bodyPost_ret (v := .tuple #[.agg #[.slice (some ⟨b, 0, none⟩) n c1, .slice a2 n c2, .slice a3 m c3], .int .i64 (k : Int), .int .i64 7]) (by simp [results, Try.results23, go_sem, *]) rfl ?_
        exact unhide RES
      · have HON := hide (l05Own_any B (some ⟨b, 0, none⟩) c1 a2 c2 a3 c3 n m hs ps idx u6 ((unhide OWh).below B6) (unhide HTh))
        clear r0 r1 r2 g0 g1 g2
        go_wp2_with fail
        refine (unhide HON).mono ?_
        rintro e u7 ⟨b1, k1', b2, k2', b3, k3', hs7, rfl, O7, hb7⟩
        have O8 := O7.below ((Below.refl u7.heap.size u7).alloc (Nat.le_refl _) (.cells #[.slice b1 n k1', .slice b2 n k2', .slice b3 m k3'] 30))
        have CG8 := (unhide CG6).below (hb7.trans (((Below.refl u7.heap.size u7).alloc (Nat.le_refl _) (.cells #[.slice b1 n k1', .slice b2 n k2', .slice b3 m k3'] 30)).mono hb7.size))
        have kT := heap_alloc_new u7 (.cells #[.slice b1 n k1', .slice b2 n k2', .slice b3 m k3'] 30)
        have h67 := hb7.size
        have c6 := (unhide CG6)
        have hW6 := c6.bel.size
        have ape : ∀ g, (Value.slice ae ne ce).ownBlock = some g → ¬ NBl (.slice b1 n k1') (hs7.map ppEl) g := fun g hg hn => by
          have h1 := (O8.own.pg.lt g hn).1
          have h2 := (c6.es.lt g hg).2
          omega
        have apd : ∀ g, (Value.slice a' n' c').ownBlock = some g → ¬ NBl (.slice b1 n k1') (hs7.map ppEl) g := fun g hg hn => by
          have h1 := (O8.own.pg.lt g hn).1
          have h2 := (c6.ds.lt g hg).2
          omega
        have hk7 : k < hs7.length := by rw [O8.hl, ← O8.ln]; exact hkl
        have DAT := hide O8.dat
        have LNS := hide (show ps.length = n ∧ idx.length = m from ⟨O8.ln, O8.li⟩)
        have HL7 := hide O8.hl
        obtain ⟨g, gc, hb1, hcell, hfz, S9, W9, hBg, hgt⟩ := ((O8.dn hW6).tg kT).put hk7 (⟨addD X DD, ⟨ae, ne, ce⟩, ⟨a', n', c'⟩⟩ : PpH) CG8.es CG8.ds ape apd
        injection hb1 with hb1 hbn hbc
        clear hbn
        subst hb1 hbc
        have x0 := hcell 0 (by decide)
        have x1 := hcell 1 (by decide)
        have x2 := hcell 2 (by decide)
        have x3 := hcell 3 (by decide)
        have x4 := hcell 4 (by decide)
        have y0 := hfz (k * 5)
        have y1 := hfz (k * 5 + 1)
        have y2 := hfz (k * 5 + 2)
        have y3 := hfz (k * 5 + 3)
        have y4 := hfz (k * 5 + 4)
        unfold pcs at x0 x1 x2 x3 x4 S9 W9
        simp only [List.getElem_cons_zero, List.getElem_cons_succ, Nat.add_zero] at x0 x1 x2 x3 x4
        unfold setAll setAll setAll setAll setAll setAll at S9 W9
        simp only at S9 W9
        have S9h := hide S9
        have W9h := hide W9
        obtain ⟨p0, p1, p2, p3, p4⟩ := pg_cells5 CG8.pg
        have B8h := hide CG8.bel
        have t0 := (heap_at kT 0).1
        clear O7 hb7 O8 CG8 kT ape apd hcell hfz S9 W9 HON e0 e1 e2 c6 CG6 BB
        go_upto_region 13 with fail
        generalize u7.alloc (.cells #[.slice (some ⟨g, 0, none⟩) n k1', .slice b2 n k2', .slice b3 m k3'] 30) = u8 at *
        generalize u7.heap.size = tb at *
        go_upto_region 14 with fail
        have K9 := (unhide S9h).box
        have B9 := (unhide B8h).trans (WrB.below (unhide W9h) (fun i e => by rw [e]; exact hBg) (unhide B8h).size)
        have RS := hide (show TsOwn _ W.heap.size _ _ _ _ _ _ n m _ (ps.set k (some (addD X DD))) idx from (unhide S9h).ts (none_set (unhide GPh)) (dat_set (unhide DAT) k _ _ rfl) (by rw [List.length_set]; exact (unhide LNS).1) (unhide LNS).2)
        clear S9h W9h x0 x1 x2 x3 x4 y0 y1 y2 y3 y4 p0 p1 p2 p3 p4 t0
        generalize ((((u8.setCell ⟨g, k * 5, none⟩ (.string (addD X DD).lo)).setCell ⟨g, k * 5 + 1, none⟩ (.string (addD X DD).hi)).setCell ⟨g, k * 5 + 1 + 1, none⟩ (.int .i64 (addD X DD).r)).setCell ⟨g, k * 5 + 1 + 1 + 1, none⟩ (.slice ae ne ce)).setCell ⟨g, k * 5 + 1 + 1 + 1 + 1, none⟩ (.slice a' n' c') = u9 at *
        have z0 := (heap_at K9 0).1
        have z1 := (heap_at K9 1).1
        have z2 := (heap_at K9 2).1
        have kr9 := (B9.block (w.heap.size + 1) hz2).trans (unhide K2)
        have r0 := (heap_at kr9 0).1
        have r1 := (heap_at kr9 1).1
        have r2 := (heap_at kr9 2).1
        have g0 := (heap_at kr9 0).2
        have g1 := (heap_at kr9 1).2
        have g2 := (heap_at kr9 2).2
        have BB := (unhide B0).trans (B9.mono (unhide B0).size)
        have RES := hide (show SpRes (chgT ps idx ac) w (.returned (.tuple #[.agg #[.slice (some ⟨g, 0, none⟩) n k1', .slice b2 n k2', .slice b3 m k3'], .int .i64 (k : Int), .int .i64 0])) (((u9.setCell ⟨w.heap.size + 1, 0, none⟩ (.slice (some ⟨g, 0, none⟩) n k1')).setCell ⟨w.heap.size + 1, 1, none⟩ (.slice b2 n k2')).setCell ⟨w.heap.size + 1, 2, none⟩ (.slice b3 m k3')) by
          rw [unhide CTh, if_neg (by rw [unhide HL]; exact hbig), ← unhide RRE, ← unhide DDh]
          exact ⟨_, _, _, _, _, _, _, _, _, _, rfl, fun _ => ⟨rfl, ((((unhide RS).set hz2 0 _).set hz2 1 _).set hz2 2 _).dn (Nat.le_of_lt hz1)⟩, ((BB.setCell (p := ⟨w.heap.size + 1, 0, none⟩) (Nat.le_succ _) _).setCell (p := ⟨w.heap.size + 1, 1, none⟩) (Nat.le_succ _) _).setCell (p := ⟨w.heap.size + 1, 2, none⟩) (Nat.le_succ _) _⟩)
        clear K9 B9 kr9 BB RS CTh HL
        go_wp2_with fail
        refine bodyPost_ret (v := .tuple #[.agg #[.slice (some ⟨g, 0, none⟩) n k1', .slice b2 n k2', .slice b3 m k3'], .int .i64 (k : Int), .int .i64 0]) (by simp [results, Try.results23, go_sem, *]) rfl ?_
        exact unhide RES
end Go.Proofs.Ytbhkmmdcdfjbkaa

namespace Go.Proofs.Ytbhkmmdcdfjbkaa
open Go.RowKit

theorem rise_app {a b : List EntD} (ha : Rise a) (hb : Rise b) (h : ∀ x ∈ a, ∀ y ∈ b, ltK x.k y.k = true) : Rise (a ++ b) := List.pairwise_append.2 ⟨ha, hb, h⟩
theorem mem_look {es : List EntD} (h : Rise es) : ∀ {e : EntD}, e ∈ es → lookE es e.k = some e.v := by
  intro e he
  induction es with
  | nil => cases he
  | cons x r ih =>
    have hr : Rise r := (List.pairwise_cons.1 h).2
    rcases List.mem_cons.1 he with rfl | he
    · exact look_here
    · have hlt := (List.pairwise_cons.1 h).1 e he
      rw [look_skip (ltK_ne hlt)]
      exact ih hr he
theorem look_mem {es : List EntD} {k v : ByteArray} (h : lookE es k = some v) : (⟨k, v⟩ : EntD) ∈ es := by
  unfold lookE at h
  cases hf : es.find? (fun e => e.k.toList == k.toList) with
  | none => rw [hf] at h; cases h
  | some e =>
    rw [hf] at h
    injection h with h
    have h1 := List.find?_some hf
    have h2 := List.mem_of_find?_eq_some hf
    have h3 : e.k = k := toList_inj (by simpa using h1)
    obtain ⟨ek, ev⟩ := e
    simp only at h h3
    subst h h3
    exact h2
/-- Rising entries are known by their keys' values. -/
theorem rise_ext : ∀ {a b : List EntD}, Rise a → Rise b → (∀ k, lookE a k = lookE b k) → a = b
  | [], [], _, _, _ => rfl
  | [], y :: r, _, hb, h => by
    have h1 := h y.k
    rw [mem_look hb (List.mem_cons_self ..), look_no (fun e he => by cases he)] at h1
    cases h1
  | x :: r, [], ha, _, h => by
    have h1 := h x.k
    rw [mem_look ha (List.mem_cons_self ..), look_no (fun e he => by cases he)] at h1
    cases h1
  | x :: r, y :: s, ha, hb, h => by
    have hr : Rise r := (List.pairwise_cons.1 ha).2
    have hs : Rise s := (List.pairwise_cons.1 hb).2
    have lx := (List.pairwise_cons.1 ha).1
    have ly := (List.pairwise_cons.1 hb).1
    have m1 : (⟨x.k, x.v⟩ : EntD) ∈ y :: s := look_mem ((h x.k).symm.trans (mem_look ha (List.mem_cons_self ..)))
    have m2 : (⟨y.k, y.v⟩ : EntD) ∈ x :: r := look_mem ((h y.k).trans (mem_look hb (List.mem_cons_self ..)))
    have hxy : x = y := by
      rcases List.mem_cons.1 m1 with e | m1
      · exact e
      · rcases List.mem_cons.1 m2 with e | m2
        · exact e.symm
        · have h1 := ly _ m1
          have h2 := lx _ m2
          simp only at h1 h2
          rw [ltK_asymm h1] at h2
          cases h2
    subst hxy
    congr 1
    refine rise_ext hr hs fun k => ?_
    by_cases hk : x.k = k
    · subst hk
      rw [look_no (fun e he e2 => ltK_ne (lx e he) e2.symm), look_no (fun e he e2 => ltK_ne (ly e he) e2.symm)]
    · have := h k
      rw [look_skip hk, look_skip hk] at this
      exact this
theorem under_lt {k hi : ByteArray} (h : underK k hi = true) (hn : hi.toList.isEmpty = false) : ltK k hi = true := by
  unfold underK at h
  rw [hn] at h
  simpa using h
/-- From a page on the entries rise, from its low bound on. -/
theorem scan_rise {ps : List (Option PageD)} {idx : List RefD} (t : Tre ps idx) : ∀ (n : Nat) (id : Int) (p : PageD), getP ps id = some p → Rise (scanF ps n id) ∧ ∀ e ∈ scanF ps n id, ltK e.k p.lo = false
  | 0, _, _, _ => by unfold scanF; exact ⟨List.Pairwise.nil, fun e he => by cases he⟩
  | n + 1, id, p, hg => by
    rw [scanF_some hg]
    have hok := t.ok _ p hg
    have hen := enP_in hok
    have hr := ok_rise hok
    have lo : ∀ e ∈ enP p, ltK e.k p.lo = false := fun e he => (okEnt_parts (hen e he)).2.2.1
    rcases t.next _ p hg with ⟨h1, _⟩ | ⟨hlt, q, hq, hl⟩
    · rw [scanF_none (by rw [h1]; exact getP_neg (by omega)), List.append_nil]
      exact ⟨hr, lo⟩
    · obtain ⟨ih1, ih2⟩ := scan_rise t n _ q hq
      have hne : (hiP p).toList.isEmpty = false := by
        cases hc : (hiP p).toList.isEmpty with
        | false => rfl
        | true =>
          have he : (hiP p) = ⟨#[]⟩ := toList_inj (by rw [List.isEmpty_iff.1 hc, List.isEmpty_iff.1 isE_none])
          rw [he, ltK_none] at hlt
          cases hlt
      have up : ∀ e ∈ enP p, ltK e.k (hiP p) = true := fun e he => under_lt (okEnt_parts (hen e he)).2.2.2 hne
      refine ⟨rise_app hr ih1 fun x hx y hy => ?_, fun e he => ?_⟩
      · have h2 := ih2 y hy
        rw [hl] at h2
        exact ltK_of_ge (up x hx) h2
      · rcases List.mem_append.1 he with he | he
        · exact lo e he
        · have h2 := ih2 e he
          rw [hl] at h2
          exact ltK_le h2 (ltK_asymm hlt)
theorem scan_look {ps : List (Option PageD)} {idx : List RefD} (t : Tre ps idx) : ∀ (n : Nat) (id : Int) (p : PageD) (k : ByteArray), getP ps id = some p → cntGe ps p.lo ≤ n → ltK k p.lo = false → ∃ x q, getP ps x = some q ∧ InP q k ∧ lookE (scanF ps n id) k = lookE (enP q) k
  | 0, id, p, k, hg, hc, _ => by have := cntGe_here (getP_mem hg); omega
  | n + 1, id, p, k, hg, hc, hk => by
    rw [scanF_some hg]
    have hok := t.ok _ p hg
    have hen := enP_in hok
    rcases t.next _ p hg with ⟨h1, h2⟩ | ⟨hlt, q, hq, hl⟩
    · rw [scanF_none (by rw [h1]; exact getP_neg (by omega)), List.append_nil]
      exact ⟨id, p, hg, ⟨hk, by unfold underK; rw [h2]; rfl⟩, rfl⟩
    · cases hu : underK k (hiP p) with
      | true =>
        refine ⟨id, p, hg, ⟨hk, hu⟩, look_app_r fun e he e2 => ?_⟩
        have h3 := (scan_rise t n _ q hq).2 e he
        rw [hl, e2] at h3
        obtain ⟨hne, _⟩ : (hiP p).toList.isEmpty = false ∧ True := by
          refine ⟨?_, trivial⟩
          cases hc : (hiP p).toList.isEmpty with
          | false => rfl
          | true =>
            have he : (hiP p) = ⟨#[]⟩ := toList_inj (by rw [List.isEmpty_iff.1 hc, List.isEmpty_iff.1 isE_none])
            rw [he, ltK_none] at hlt
            cases hlt
        rw [under_lt hu hne] at h3
        cases h3
      | false =>
        obtain ⟨hne, hge⟩ := under_no hu
        have hcq : cntGe ps q.lo ≤ n := by
          have := cntGe_next (getP_mem hg) hlt
          rw [hl]
          omega
        obtain ⟨x, r, hx, hi, he⟩ := scan_look t n _ q k hq hcq (by rw [hl]; exact hge)
        refine ⟨x, r, hx, hi, ?_⟩
        rw [look_app fun e he e2 => ?_]
        · exact he
        · have h3 := under_lt (okEnt_parts (hen e he)).2.2.2 hne
          rw [e2, hge] at h3
          cases h3
theorem Tre.rises {ps : List (Option PageD)} {idx : List RefD} (t : Tre ps idx) : Rise (treeE ps) := by
  obtain ⟨p, hp, _⟩ := t.zero
  exact (scan_rise t 40 0 p hp).1
/-- A key's value is that of the page that it stands in. -/
theorem Tre.look {ps : List (Option PageD)} {idx : List RefD} (t : Tre ps idx) {x : Int} {q : PageD} {k : ByteArray} (hx : getP ps x = some q) (hi : InP q k) : lookE (treeE ps) k = lookE (enP q) k := by
  obtain ⟨p, hp, hl⟩ := t.zero
  have hc : cntGe ps p.lo ≤ 40 := by
    have h1 : cntGe ps p.lo ≤ ps.length := List.countP_le_length
    have := t.len.2
    omega
  obtain ⟨y, r, hy, hr, he⟩ := scan_look t 40 0 p k hp hc (by rw [hl]; exact ltK_none k)
  have hxy := t.good.uni hx hy hi hr
  subst hxy
  rw [hx] at hy
  injection hy with hy
  subst hy
  exact he
theorem Tre.page {ps : List (Option PageD)} {idx : List RefD} (t : Tre ps idx) (k : ByteArray) : ∃ x q, getP ps x = some q ∧ InP q k := by
  obtain ⟨p, h1, h2, h3, _⟩ := t.good.down k
  exact ⟨_, p, h1, h2, h3⟩
/-- Trees whose keys have the same values have the same entries. -/
theorem Tre.same {ps ps' : List (Option PageD)} {idx idx' : List RefD} (t : Tre ps idx) (t' : Tre ps' idx') (h : ∀ x q k, getP ps' x = some q → InP q k → lookE (treeE ps) k = lookE (enP q) k) : treeE ps' = treeE ps := by
  refine rise_ext t'.rises t.rises fun k => ?_
  obtain ⟨x, q, hx, hi⟩ := t'.page k
  rw [t'.look hx hi, h x q k hx hi]
theorem conT_ents {ps : List (Option PageD)} {idx : List RefD} (t : Tre ps idx) {id : Nat} {p : PageD} (hg : getP ps (id : Int) = some p) : treeE (conT ps idx id p).ps = treeE ps := by
  refine t.same (conT_tre t hg) fun x q k hx hi => ?_
  have hkl := (getP_is hg).1
  replace hx : getP (ps.set id (some (conPg p))) x = some q := hx
  rw [getP_set hkl] at hx
  split at hx
  · injection hx with hx
    subst hx
    exact t.look (q := p) hg hi
  · exact t.look hx hi
theorem posT_ents {ps : List (Option PageD)} {idx : List RefD} {id : Nat} {p : PageD} : treeE (posT ps idx id p).ps = treeE ps := by
  unfold posT
  split <;> rfl
theorem splT_ents {ps : List (Option PageD)} {idx : List RefD} (t : Tre ps idx) {id : Nat} {p : PageD} (hg : getP ps (id : Int) = some p) : treeE (splT ps idx id p).ps = treeE ps := by
  have t' := splT_tre t hg
  unfold splT at t' ⊢
  split
  · rfl
  · rename_i h1
    rw [if_neg h1] at t'
    split
    · rfl
    · rename_i h2
      rw [if_neg h2] at t'
      have hkl := (getP_is hg).1
      have hok := t.ok _ p hg
      have h2' : 2 ≤ (enP p).length := by omega
      obtain ⟨m1, m2, m3, m4, m5⟩ := mid_facts hok h2'
      have hr := ok_rise hok
      have h3 : (enP p).length / 2 < (enP p).length := by omega
      refine t.same t' fun x q k hx hi => ?_
      simp only at hx
      rw [getP_snoc, List.length_set] at hx
      have hspl : enP p = (enP p).take ((enP p).length / 2) ++ (enP p).drop ((enP p).length / 2) := (List.take_append_drop _ _).symm
      have hbig : ∀ e ∈ (enP p).drop ((enP p).length / 2), ltK e.k (midK p) = false := fun e he => by
        have h := drop_ge hr (k := midK p) e
        rw [show pos (enP p) (midK p) = (enP p).length / 2 by rw [midK_eq h2']; exact pos_self hr h3] at h
        exact h he
      have hsml : ∀ e ∈ (enP p).take ((enP p).length / 2), ltK e.k (midK p) = true := fun e he => by
        have h := take_lt (es := enP p) (k := midK p) e
        rw [show pos (enP p) (midK p) = (enP p).length / 2 by rw [midK_eq h2']; exact pos_self hr h3] at h
        exact h he
      split at hx
      · injection hx with hx
        subst hx
        have i1 : ltK k (midK p) = false := hi.1
        have i2 : underK k (hiP p) = true := hi.2
        rw [t.look hg ⟨ltK_le i1 m4, i2⟩]
        show lookE (enP p) k = lookE ((enP p).drop ((enP p).length / 2)) k
        conv => lhs; rw [hspl]
        exact look_app fun e he e2 => by rw [← e2, hsml e he] at i1; cases i1
      · rw [getP_set hkl] at hx
        split at hx
        · injection hx with hx
          subst hx
          have e1 : hiP (addD p (spD (midK p) ps.length)) = midK p := by rw [addD_hi]; exact if_pos rfl
          have i1 : ltK k p.lo = false := hi.1
          have i2 : underK k (midK p) = true := by have := hi.2; rw [e1] at this; exact this
          have i3 : ltK k (midK p) = true := under_lt i2 (isE_key m1)
          have i4 : underK k (hiP p) = true := by
            unfold underK at m3 ⊢
            cases hc : (hiP p).toList.isEmpty with
            | true => rfl
            | false =>
              rw [hc] at m3
              simp only [Bool.false_or] at m3 ⊢
              exact ltK_trans i3 m3
          rw [t.look hg ⟨i1, i4⟩, spl_en hok h2']
          conv => lhs; rw [hspl]
          exact look_app_r fun e he e2 => by have := hbig e he; rw [e2, i3] at this; cases this
        · exact t.look hx hi
theorem merT_ents {ps : List (Option PageD)} {idx : List RefD} (t : Tre ps idx) {id : Nat} {p : PageD} (hg : getP ps (id : Int) = some p) : treeE (merT ps idx id p).ps = treeE ps := by
  have t' := merT_tre t hg
  unfold merT at t' ⊢
  split
  · rfl
  · rename_i h1
    rw [if_neg h1] at t'
    split
    · rfl
    · rename_i q hq
      rw [hq] at t'
      simp only at t'
      split
      · rfl
      · rename_i h2
        rw [if_neg h2] at t'
        have hkl := (getP_is hg).1
        have hokp := t.ok _ p hg
        have hokq := t.ok _ q hq
        obtain ⟨j, hj, hjl⟩ := getP_lt hq
        have hnx : ltK p.lo (hiP p) = true ∧ q.lo = hiP p := by
          rcases t.next _ p hg with ⟨h, _⟩ | ⟨hlt, q2, hq2, hl⟩
          · omega
          · rw [hq] at hq2
            injection hq2 with hq2
            subst hq2
            exact ⟨hlt, hl⟩
        have hne : (hiP p).toList.isEmpty = false := by
          cases hc : (hiP p).toList.isEmpty with
          | false => rfl
          | true =>
            have he : (hiP p) = ⟨#[]⟩ := toList_inj (by rw [List.isEmpty_iff.1 hc, List.isEmpty_iff.1 isE_none])
            have := hnx.1
            rw [he, ltK_none] at this
            cases this
        refine t.same t' fun x r k hx hi => ?_
        simp only at hx
        rw [hj, Int.toNat_natCast, getP_set (by rw [List.length_set]; exact hjl)] at hx
        split at hx
        · cases hx
        · rw [getP_set hkl] at hx
          split at hx
          · injection hx with hx
            subst hx
            have i1 : ltK k p.lo = false := hi.1
            have i2 : underK k (hiP q) = true := hi.2
            show lookE (treeE ps) k = lookE (enP p ++ enP q) k
            cases hu : underK k (hiP p) with
            | true =>
              rw [t.look hg ⟨i1, hu⟩]
              refine (look_app_r fun e he e2 => ?_).symm
              have h3 := (okEnt_parts (enP_in hokq e he)).2.2.1
              rw [hnx.2, e2, under_lt hu hne] at h3
              cases h3
            | false =>
              obtain ⟨_, hge⟩ := under_no hu
              rw [t.look hq ⟨by rw [hnx.2]; exact hge, i2⟩]
              refine (look_app fun e he e2 => ?_).symm
              have h3 := under_lt (okEnt_parts (enP_in hokp e he)).2.2.2 hne
              rw [e2, hge] at h3
              cases h3
          · exact t.look hx hi
theorem chgT_ents {ps : List (Option PageD)} {idx : List RefD} (t : Tre ps idx) {a : AcT} (_ha : a.kind = 1 ∨ a.kind = 2) (h0 : (chgT ps idx a).code = 0) : treeE (chgT ps idx a).ps = stepE (treeE ps) (chgD a) := by
  have t' := chgT_tre t a
  have hk3 : (chgD a).kind = 1 ∨ (chgD a).kind = 2 := by
    unfold chgD
    split
    · exact .inl rfl
    · exact .inr rfl
  have hkk : (chgD a).k = a.key := by unfold chgD; split <;> rfl
  unfold chgT at t' h0 ⊢
  split
  · rename_i h1
    rw [if_pos h1] at h0
    exact absurd h0 (show ¬ (11 : Int) = 0 by decide)
  · rename_i h1
    rw [if_neg h1] at t' h0
    split
    · rename_i hn
      rw [hn] at h0
      exact absurd h0 (show ¬ (11 : Int) = 0 by decide)
    · rename_i p hg
      rw [hg] at t' h0
      simp only at t' h0
      split
      · rename_i h2
        rw [if_pos h2] at h0
        exact absurd h0 (show ¬ (7 : Int) = 0 by decide)
      · rename_i h2
        rw [if_neg h2] at t'
        obtain ⟨k0, hk0, hkl⟩ := getP_lt hg
        have hok := t.ok _ p hg
        obtain ⟨r1, r2, r3, r4, r5, r6⟩ := roomP_ok hok
        obtain ⟨p2, d1, d2, d3, _⟩ := t.good.down a.key
        rw [hg] at d1
        injection d1 with d1
        subst d1
        have hiN : hiP (addD (roomP p) (chgD a)) = hiP p := by rw [addD_hi, if_neg (chgD_kind a), r3]
        have enN : enP (addD (roomP p) (chgD a)) = stepE (enP p) (chgD a) := by rw [addD_en, r5]
        refine rise_ext t'.rises (stepE_rise t.rises _) fun k => ?_
        obtain ⟨x, q, hx, hi⟩ := t'.page k
        rw [t'.look hx hi]
        simp only at hx
        rw [hk0, Int.toNat_natCast, getP_set hkl] at hx
        have hkey : lookE (stepE (enP p) (chgD a)) a.key = lookE (stepE (treeE ps) (chgD a)) a.key := by
          have l1 := look_step (ok_rise hok) (chgD a)
          have l2 := look_step t.rises (chgD a)
          rw [hkk] at l1 l2
          rcases hk3 with h | h
          · rw [l1.1 h, l2.1 h]
          · rw [l1.2 h, l2.2 h]
        have hoth : ∀ {es : List EntD}, Rise es → k ≠ a.key → lookE (stepE es (chgD a)) k = lookE es k := fun hr hn => look_other hr (chgD a) (by rcases hk3 with h | h; exact .inl h; exact .inr (.inl h)) (by rw [hkk]; exact hn) (fun h => by rcases hk3 with h' | h' <;> omega)
        split at hx
        · injection hx with hx
          subst hx
          rw [enN]
          by_cases hk : k = a.key
          · rw [hk]; exact hkey
          · rw [hoth (ok_rise hok) hk, hoth t.rises hk, t.look hg ⟨by have := hi.1; rw [show (addD (roomP p) (chgD a)).lo = p.lo from r2] at this; exact this, by have := hi.2; rw [hiN] at this; exact this⟩]
        · rename_i hxn
          have hk : k ≠ a.key := fun e => by
            subst e
            have := t.good.uni hx hg hi ⟨d2, d3⟩
            omega
          rw [hoth t.rises hk, t.look hx hi]
/-- What a step does to a tree's entries. -/
theorem stepT_ents {ps : List (Option PageD)} {idx : List RefD} (t : Tre ps idx) (a : AcT) : treeE (stepT ps idx a).ps = if (stepT ps idx a).code = 0 ∧ a.kind ≤ 2 then stepE (treeE ps) (chgD a) else treeE ps := by
  by_cases h12 : a.kind = 1 ∨ a.kind = 2
  · rw [stepT_chg h12]
    by_cases h0 : (chgT ps idx a).code = 0
    · rw [if_pos ⟨h0, by omega⟩]
      exact chgT_ents t h12 h0
    · rw [if_neg (fun h => h0 h.1)]
      have h := stepT_same (ps := ps) (idx := idx) (a := a)
      rw [stepT_chg h12] at h
      rw [(h h0).1]
  · have ns : ∀ (id : Int) (f : Nat → PageD → StR), (∀ k p, getP ps ((k : Nat) : Int) = some p → treeE (f k p).ps = treeE ps) → treeE (atT ps idx id f).ps = treeE ps := fun id f hf => by
      unfold atT
      split
      · rfl
      · cases hg : getP ps id with
        | none => rfl
        | some p =>
          obtain ⟨k, rfl, _⟩ := getP_lt hg
          exact hf k p hg
    have hno : ¬ ((stepT ps idx a).code = 0 ∧ a.kind ≤ 2) := fun ⟨h0, h2⟩ => by
      have : stepT ps idx a = ⟨ps, idx, 0, 3⟩ := by
        unfold stepT
        rw [if_neg h12, if_neg (by omega), if_neg (by omega), if_neg (by omega), if_neg (by omega)]
      rw [this] at h0
      exact absurd h0 (show ¬ (3 : Int) = 0 by decide)
    rw [if_neg hno]
    unfold stepT
    rw [if_neg h12]
    split
    · exact ns _ _ fun k p h => conT_ents t h
    · split
      · exact ns _ _ fun k p h => splT_ents t h
      · split
        · exact ns _ _ fun k p _ => posT_ents
        · split
          · exact ns _ _ fun k p h => merT_ents t h
          · rfl
end Go.Proofs.Ytbhkmmdcdfjbkaa

namespace Go.Proofs.Ytbhkmmdcdfjbkaa
open Go.RowKit

theorem inK_parts (fr tu k : ByteArray) : inK fr tu k = (!ltK k fr && underK k tu) := rfl
/-- What TreeScan answers. -/
def scanE (t : TreD) (fr tu : ByteArray) : List EntD := if 65536 < fr.size ∨ 65536 < tu.size then [] else if okT t = true then rangeE t.here fr tu else []
def scanC (t : TreD) (fr tu : ByteArray) : Int := if 65536 < fr.size ∨ 65536 < tu.size then 2 else if okT t = true then 0 else 1
def SnRes (t : TreD) (fr tu : ByteArray) (w : World) (e : Ending) (w' : World) : Prop := ∃ a n c, e = Ending.returned (.tuple #[.slice a n c, .int .i64 (scanC t fr tu)]) ∧ EOwns w' w.heap.size (.slice a n c) (scanE t fr tu) ∧ Below w.heap.size w w'
set_option maxRecDepth 100000 in
set_option maxHeartbeats 4000000 in
theorem implTreeScan_any (ap : Option Addr) (np cp : Nat) (ag : Option Addr) (ng cg : Nat) (ai : Option Addr) (ni ci : Nat) (hs : List PpH) (gs : List Bool) (idx : List RefD) (fr tu : ByteArray) (w : World) (hT : TrIn w ap np cp ag ng cg ai ni hs gs idx) (hci : ai = none → ci = 0) :
    Calls Try.prog 4 #[.agg #[.slice ap np cp, .slice ag ng cg, .slice ai ni ci], .string fr, .string tu] w fun e w' => SnRes (trd hs gs idx) fr tu w e w' := by
  have b0 : ∀ o, Below w.heap.size w (w.alloc o) := fun o => (Below.refl _ _).alloc (Nat.le_refl _) _
  have BW := hide (b0 (.cells #[.slice ap np cp, .slice ag ng cg, .slice ai ni ci] 30))
  have T := hide (hT.below (unhide BW))
  have BT := hide (show ∀ u, Below (w.alloc (.cells #[.slice ap np cp, .slice ag ng cg, .slice ai ni ci] 30)).heap.size (w.alloc (.cells #[.slice ap np cp, .slice ag ng cg, .slice ai ni ci] 30)) u → Below w.heap.size w u from fun u hu => (unhide BW).trans (hu.mono (unhide BW).size))
  have NIL := hide (show ∀ (u : World) (hu : Below w.heap.size w u) (cd : Int), scanC (trd hs gs idx) fr tu = cd → scanE (trd hs gs idx) fr tu = [] → SnRes (trd hs gs idx) fr tu w (.returned (.tuple #[.slice none 0 0, .int .i64 cd])) u from fun u hu cd h1 h2 => ⟨_, _, _, by rw [h1], by rw [h2]; exact World.ownsRow_nil _ _ _ _, hu⟩)
  clear hT BW
  by_cases hk : 65536 < fr.size
  · have E := hide (show scanC (trd hs gs idx) fr tu = 2 ∧ scanE (trd hs gs idx) fr tu = [] by unfold scanC scanE; rw [if_pos (.inl hk), if_pos (.inl hk)]; exact ⟨rfl, rfl⟩)
    go_enter Try.func4, Try.ntmps4
    go_wp2_with fail
    go_ret2
    exact unhide NIL _ (b0 _) _ (unhide E).1 (unhide E).2
  by_cases hk2 : 65536 < tu.size
  · have E := hide (show scanC (trd hs gs idx) fr tu = 2 ∧ scanE (trd hs gs idx) fr tu = [] by unfold scanC scanE; rw [if_pos (.inr hk2), if_pos (.inr hk2)]; exact ⟨rfl, rfl⟩)
    go_enter Try.func4, Try.ntmps4
    go_wp2_with fail
    go_ret2
    exact unhide NIL _ (b0 _) _ (unhide E).1 (unhide E).2
  have NK := hide (show ¬ (65536 < fr.size ∨ 65536 < tu.size) from fun h => h.elim hk hk2)
  go_enter Try.func4, Try.ntmps4
  go_wp2_with fail
  have zW : w.heap.size ≤ (w.alloc (.cells #[.slice ap np cp, .slice ag ng cg, .slice ai ni ci] 30)).heap.size := (b0 _).size
  generalize w.alloc (.cells #[.slice ap np cp, .slice ag ng cg, .slice ai ni ci] 30) = W at *
  refine (tableOf_any ap np cp ag ng cg ai ni ci hs gs idx W (unhide T) hci).mono ?_
  rintro e w2 ⟨v, rfl, hb, htab⟩
  cases hok : okT (trd hs gs idx) with
  | false =>
    have E := hide (show scanC (trd hs gs idx) fr tu = 1 ∧ scanE (trd hs gs idx) fr tu = [] by unfold scanC scanE; rw [if_neg (unhide NK), if_neg (unhide NK), hok]; exact ⟨rfl, rfl⟩)
    clear htab
    go_wp2_with fail
    go_ret2
    exact unhide NIL _ (unhide BT _ hb) _ (unhide E).1 (unhide E).2
  | true =>
    obtain ⟨mb, qs, vp, vi, rfl, hown, hqs, hmem⟩ := htab hok
    have E := hide (show scanC (trd hs gs idx) fr tu = 0 ∧ scanE (trd hs gs idx) fr tu = rangeE (qsP qs) fr tu by unfold scanC scanE; rw [if_neg (unhide NK), if_neg (unhide NK), hok, hqs]; exact ⟨rfl, rfl⟩)
    have hG : GoodT (trd hs gs idx).here idx := good_of hok
    have hrow : ∀ b x, some (b, x) ∈ qs → ERow w2 x.s0.a x.s0.n x.X.es ∧ DRow w2 x.s1.a x.s1.n x.X.ds := fun b x hx => by
      obtain ⟨j, hj, e⟩ := List.getElem_of_mem (hmem b x hx).1
      have h := PpIn.sub ((unhide T).below hb).pgs hj
      rw [e] at h
      exact ⟨erow_C h.1, drow_C h.2⟩
    obtain ⟨ap2, cp2, ai2, ci2, M⟩ := hown.table hrow
    have HB := hide (between_any mb qs idx ap2 cp2 ai2 ci2 fr tu w2 M (by rw [hqs]; exact hG))
    have zz := hide (show w.heap.size ≤ w2.heap.size from Nat.le_trans zW hb.size)
    clear hown hqs htab M hrow hok hG hmem
    go_wp2_with fail
    refine (unhide HB).mono ?_
    rintro e w4 ⟨v4, rfl, ho4, hb4⟩
    obtain ⟨a4, c4, hv4, _⟩ := eowns_slice ho4
    have RES := hide (show SnRes (trd hs gs idx) fr tu w (.returned (.tuple #[v4, .int .i64 0])) w4 by
      rw [hv4] at ho4 ⊢
      exact ⟨_, _, _, by rw [(unhide E).1], by rw [(unhide E).2]; exact gd_base ho4 (unhide zz), unhide BT _ (hb.trans (hb4.mono hb.size))⟩)
    clear ho4 hb4 hv4
    go_wp2_with fail
    go_ret2
    exact unhide RES
end Go.Proofs.Ytbhkmmdcdfjbkaa

namespace Go.Proofs.Ytbhkmmdcdfjbkaa
open Go.RowKit

theorem tre_okT {ps : List (Option PageD)} {idx : List RefD} (t : Tre ps idx) {hs : List PpH} (hX : hs.map (·.X) = ps.map pgD) : okT (trd hs (ps.map (·.isNone)) idx) = true := by
  have hl : hs.length = ps.length := by have := congrArg List.length hX; simpa using this
  have g := t.good
  have he : (trd hs (ps.map (·.isNone)) idx).here = ps := by
    unfold trd TreD.here
    simp only
    rw [hX]
    exact here_map ps
  rw [okT_rest ⟨by rw [hl]; exact t.len.1, by rw [hl]; exact t.len.2, by rw [List.length_map, hl], by rw [hl]; exact g.il⟩ (fun i h1 h2 => ?_), he, g.go, g.ix]
  · obtain ⟨h0, _, hz⟩ := g.zero
    unfold zeroIdx
    rw [List.getElem?_eq_getElem h0]
    simp only [hz, decide_true, Bool.and_self]
  · have hp : i < ps.length := by rw [← hl]; exact h1
    have e := congrArg (fun l => l[i]?) hX
    simp only [List.getElem?_map, List.getElem?_eq_getElem h1, List.getElem?_eq_getElem hp, Option.map_some] at e
    injection e with e
    rw [e, List.getElem_map]
    cases hq : ps[i] with
    | none =>
      show noP ⟨⟨#[]⟩, ⟨#[]⟩, -1, [], []⟩ = true
      unfold noP
      simp only
      rw [isE_none]
      rfl
    | some p =>
      have hm : some p ∈ ps := hq ▸ List.getElem_mem hp
      obtain ⟨k, hk⟩ := mem_getP hm
      exact t.ok _ p hk
/-- The entries behind a step, as put makes them. -/
theorem run_ents (acts : List AcT) {k : Nat} (hk : k < acts.length) : treeE (runS (acts.take (k + 1))).ps = if (stepT (runS (acts.take k)).ps (runS (acts.take k)).idx acts[k]).code = 0 ∧ acts[k].kind ≤ 2 then putE (treeE (runS (acts.take k)).ps) ⟨acts[k].key, acts[k].val⟩ (acts[k].kind == 2) else treeE (runS (acts.take k)).ps := by
  have t := (runS_tre acts k (by omega)).1
  rw [runS_take acts k hk]
  simp only
  rw [stepT_ents t]
  split
  · rename_i h
    have h12 : acts[k].kind = 1 ∨ acts[k].kind = 2 := by
      rcases Classical.em (acts[k].kind = 1 ∨ acts[k].kind = 2) with h' | h'
      · exact h'
      · exfalso
        have e : stepT (runS (acts.take k)).ps (runS (acts.take k)).idx acts[k] = ⟨(runS (acts.take k)).ps, (runS (acts.take k)).idx, 0, 3⟩ := by
          unfold stepT
          rw [if_neg h', if_neg (by omega), if_neg (by omega), if_neg (by omega), if_neg (by omega)]
        rw [e] at h
        exact absurd h.1 (show ¬ (3 : Int) = 0 by decide)
    unfold putE chgD
    rcases h12 with h1 | h2
    · rw [if_pos h1, h1]
      rfl
    · rw [if_neg (by omega), h2]
      rfl
  · rfl
theorem range_all (ps : List (Option PageD)) : rangeE ps ⟨#[]⟩ ⟨#[]⟩ = treeE ps := by
  unfold rangeE
  rw [List.filter_eq_self]
  intro e _
  rw [inK_parts, ltK_none]
  unfold underK
  rw [isE_none]
  rfl
theorem scan_tre {ps : List (Option PageD)} {idx : List RefD} (t : Tre ps idx) {hs : List PpH} (hX : hs.map (·.X) = ps.map pgD) {fr tu : ByteArray} (h1 : fr.size ≤ 65536) (h2 : tu.size ≤ 65536) : scanE (trd hs (ps.map (·.isNone)) idx) fr tu = rangeE ps fr tu ∧ scanC (trd hs (ps.map (·.isNone)) idx) fr tu = 0 := by
  have he : (trd hs (ps.map (·.isNone)) idx).here = ps := by
    unfold trd TreD.here
    simp only
    rw [hX]
    exact here_map ps
  have hno : ¬ (65536 < fr.size ∨ 65536 < tu.size) := by omega
  unfold scanE scanC
  rw [if_neg hno, if_neg hno, if_pos (tre_okT t hX), if_pos (tre_okT t hX), he]
  exact ⟨rfl, rfl⟩
theorem tree_few {ps : List (Option PageD)} {idx : List RefD} (t : Tre ps idx) : (treeE ps).length ≤ 960 := by
  obtain ⟨p, hp, _⟩ := t.zero
  have s := ScSt.start (ps := ps) (f := fun _ => true) hp
  have : ∀ (m : Nat) (id : Int) (c : Nat), c + m = 30 → (∀ p, getP ps id = some p → c + cntGe ps p.lo ≤ manyT ps) → (scanF ps (40 - c) id).length ≤ 32 * m := fun m => by
    induction m with
    | zero =>
      intro id c hc hg
      cases hq : getP ps id with
      | none => rw [scanF_none hq]; simp
      | some q =>
        have h1 := hg q hq
        have h2 := cntGe_here (getP_mem hq)
        have h3 : manyT ps ≤ ps.length := List.countP_le_length
        have := t.len.2
        omega
    | succ m ih =>
      intro id c hc hg
      cases hq : getP ps id with
      | none => rw [scanF_none hq]; simp
      | some q =>
        rw [show 40 - c = (40 - (c + 1)) + 1 by omega, scanF_some hq, List.length_append]
        have h1 := enP_len (t.ok _ q hq)
        have h2 := ih (riP q) (c + 1) (by omega) (fun r hr => by
          rcases t.next _ q hq with ⟨h, _⟩ | ⟨hlt, r2, hr2, hl⟩
          · rw [h, getP_neg (by omega)] at hr; cases hr
          · rw [hr2] at hr
            injection hr with hr
            subst hr
            have h4 := cntGe_next (getP_mem hq) hlt
            have h5 := hg q hq
            rw [hl]
            omega)
        omega
  have h := this 30 0 0 rfl (fun q hq => by have := cntGe_many ps q.lo; omega)
  exact h
end Go.Proofs.Ytbhkmmdcdfjbkaa

namespace Go.Proofs.Ytbhkmmdcdfjbkaa
open Go.RowKit

/-- A source at block p over the bytes xs of a slice; at most K bytes have been taken. -/
structure Src (w : World) (p : Nat) (a : Option Addr) (n c : Nat) (xs : List Int) (K : Int) : Prop where
  code : w.cell? ⟨p, 0, none⟩ = some (.slice a n c)
  place : ∃ t : Int, w.cell? ⟨p, 1, none⟩ = some (.int .i64 t) ∧ 0 ≤ t ∧ t ≤ K
  seed : ∃ s : Int, w.cell? ⟨p, 2, none⟩ = some (.int .i64 s) ∧ 0 ≤ s ∧ s < 2147483648
  free : ∀ j, w.frozen? ⟨p, j, none⟩ = false
  row : Row w a n xs
  bytes : ∀ i, i < n → 0 ≤ xs.getD i 0 ∧ xs.getD i 0 ≤ 255
  apart : ∀ x, a = some x → 0 < n → x.block ≠ p
  bound : n ≤ 1048576

theorem Only.drewN {p k : Nat} {w w1 : World} (h : Only p w w1) : Only p w (w1.drewN k) := ⟨h.os, h.tape, h.output, h.size, h.block, h.frozen⟩

theorem Only.drew {p : Nat} {w w1 : World} (h : Only p w w1) : Only p w w1.drew := ⟨h.os, h.tape, h.output, h.size, h.block, h.frozen⟩
theorem src_step {w w' : World} {p : Nat} {a : Option Addr} {n c : Nat} {xs : List Int} {K t s : Int} (ho : Only p w w') (h0 : w'.cell? ⟨p, 0, none⟩ = some (.slice a n c)) (h1 : w'.cell? ⟨p, 1, none⟩ = some (.int .i64 t))
    (h2 : w'.cell? ⟨p, 2, none⟩ = some (.int .i64 s)) (ht : 0 ≤ t) (htK : t ≤ K) (hs : 0 ≤ s) (hs1 : s < 2147483648) (hf : ∀ j, w.frozen? ⟨p, j, none⟩ = false) (hr : Row w a n xs)
    (hb : ∀ i, i < n → 0 ≤ xs.getD i 0 ∧ xs.getD i 0 ≤ 255) (ha : ∀ x, a = some x → 0 < n → x.block ≠ p) (hn : n ≤ 1048576) : Src w' p a n c xs K := by
  refine ⟨h0, ⟨t, h1, ht, htK⟩, ⟨s, h2, hs, hs1⟩, fun j => (ho.frozen _).trans (hf j), ?_, hb, ha, hn⟩
  by_cases hp : 0 < n
  · exact hr.of_cells fun x hx q hq => ho.cell (by rw [hq]; exact ha x hx hp)
  · exact ⟨hr.1, fun i hi => absurd hi (by omega)⟩

set_option maxHeartbeats 1000000 in
theorem byte_any (p : Nat) (a : Option Addr) (n c : Nat) (xs : List Int) (K : Int) (w : World) (h : Src w p a n c xs K) (hK : K ≤ 1000000) :
    Calls Try.prog 58 #[.pointer (some ⟨p, 0, none⟩)] w fun e w' => ∃ r : Int, e = .returned (.int .i64 r) ∧ 0 ≤ r ∧ r ≤ 255 ∧ Only p w w' ∧ Src w' p a n c xs (K + 1) := by
  obtain ⟨hc, ⟨t, ht, ht0, htK⟩, ⟨s, hs, hs0, hs1⟩, hf, hr, hby, hap, hbd⟩ := h
  have f1 := hf 1
  have f2 := hf 2
  have R := hide hr
  have BY := hide hby
  have AP := hide hap
  have HF := hide hf
  clear hf hr hby hap
  by_cases hlt : t + 1 ≤ (n : Int)
  · obtain ⟨k, rfl⟩ := Int.eq_ofNat_of_zero_le ht0
    obtain ⟨b, off, rfl, e1⟩ := (unhide R).2 k (by omega)
    obtain ⟨x0, x1⟩ := unhide BY k (by omega)
    generalize hx : xs.getD k 0 = x at *
    have hne : ¬ b = p := unhide AP _ rfl (by omega)
    clear hx
    go_enter Try.func58, Try.ntmps58
    go_wp2_with fail
    go_quiet (fail)
    go_wp2_with fail
    have d0 : ((w.setCell ⟨p, 1, none⟩ (.int .i64 ((k : Int) + 1))).drewN nq).cell? ⟨p, 0, none⟩ = some (.slice (some ⟨b, off, none⟩) n c) := (World.cell?_setCell_other _ _ _ _ (by intro h; simp at h)).trans hc
    have d1 : ((w.setCell ⟨p, 1, none⟩ (.int .i64 ((k : Int) + 1))).drewN nq).cell? ⟨p, 1, none⟩ = some (.int .i64 ((k : Int) + 1)) := World.cell?_setCell_same _ _ _ ht
    have d2 : ((w.setCell ⟨p, 1, none⟩ (.int .i64 ((k : Int) + 1))).drewN nq).cell? ⟨p, 2, none⟩ = some (.int .i64 s) := (World.cell?_setCell_other _ _ _ _ (by intro h; simp at h)).trans hs
    have dr : ((w.setCell ⟨p, 1, none⟩ (.int .i64 ((k : Int) + 1))).drewN nq).cell? ⟨b, off + k, none⟩ = some (.int .u8 x) := (World.cell?_setCell_other _ _ _ _ (by intro h; simp only [Addr.mk.injEq] at h; exact hne h.1.symm)).trans e1
    have df : ((w.setCell ⟨p, 1, none⟩ (.int .i64 ((k : Int) + 1))).drewN nq).frozen? ⟨p, 2, none⟩ = false := by simpa using f2
    have dO : Only p w ((w.setCell ⟨p, 1, none⟩ (.int .i64 ((k : Int) + 1))).drewN nq) := Only.drewN (Only.setCell _ _ _ _)
    have DO := hide dO
    clear dO hc ht hs e1 f1 f2
    generalize (w.setCell ⟨p, 1, none⟩ (.int .i64 ((k : Int) + 1))).drewN nq = W1 at *
    go_region
    go_wp2_with fail
    go_quiet (fail)
    go_wp2_with fail
    go_ret
    refine ⟨x, rfl, x0, x1, Only.drewN (Only.drew ((unhide DO).trans (Only.setCell _ _ _ _))), ?_⟩
    refine src_step (t := (k : Int) + 1) (Only.drewN (Only.drew ((unhide DO).trans (Only.setCell _ _ _ _)))) ((World.cell?_setCell_other _ _ _ _ (by intro h; simp at h)).trans d0) ((World.cell?_setCell_other _ _ _ _ (by intro h; simp at h)).trans d1) (World.cell?_setCell_same _ _ _ d2) (by omega) (by omega) ?_ ?_ (unhide HF) (unhide R) (unhide BY) (unhide AP) hbd
    all_goals omega
  · have hgt : (n : Int) < t + 1 := by omega
    clear hlt
    by_cases h3 : 3000 < t + 1
    · go_enter Try.func58, Try.ntmps58
      go_wp2_with fail
      go_quiet (fail)
      go_wp2_with fail
      go_ret
      have hO := Only.drewN (k := nq) (Only.setCell w p 1 (.int .i64 (t + 1)))
      exact ⟨0, rfl, by omega, by omega, hO, src_step (t := t + 1) (s := s) hO ((World.cell?_setCell_other _ _ _ _ (by intro h; simp at h)).trans hc) (World.cell?_setCell_same _ _ _ ht) ((World.cell?_setCell_other _ _ _ _ (by intro h; simp at h)).trans hs) (by omega) (by omega) hs0 hs1 (unhide HF) (unhide R) (unhide BY) (unhide AP) hbd⟩
    · go_enter Try.func58, Try.ntmps58
      go_wp2_with fail
      go_quiet (fail)
      go_wp2_with fail
      go_ret
      have hO := Only.drewN (k := nq) (Only.setCell w p 1 (.int .i64 (t + 1)))
      have hO2 := hO.trans (Only.setCell _ p 2 (.int .i64 ((s * 1103515245 + 12345) % 2147483648)))
      refine ⟨_, rfl, ?_, ?_, hO2, src_step (t := t + 1) hO2 ((World.cell?_setCell_other _ _ _ _ (by intro h; simp at h)).trans ((World.cell?_setCell_other _ _ _ _ (by intro h; simp at h)).trans hc)) ((World.cell?_setCell_other _ _ _ _ (by intro h; simp at h)).trans (World.cell?_setCell_same _ _ _ ht)) (World.cell?_setCell_same _ _ _ ((World.cell?_setCell_other _ _ _ _ (by intro h; simp at h)).trans hs)) (by omega) (by omega) ?_ ?_ (unhide HF) (unhide R) (unhide BY) (unhide AP) hbd⟩
      all_goals omega
end Go.Proofs.Ytbhkmmdcdfjbkaa

namespace Go.Proofs.Ytbhkmmdcdfjbkaa
open Go.RowKit

theorem Src.more {w : World} {p : Nat} {a : Option Addr} {n c : Nat} {xs : List Int} {K K' : Int} (h : Src w p a n c xs K) (hk : K ≤ K') : Src w p a n c xs K' := by
  obtain ⟨h1, ⟨t, ht, ht0, htK⟩, h3, h4, h5, h6, h7, h8⟩ := h
  exact ⟨h1, ⟨t, ht, ht0, by omega⟩, h3, h4, h5, h6, h7, h8⟩

set_option maxHeartbeats 1000000 in
theorem next_any (p : Nat) (a : Option Addr) (n c : Nat) (xs : List Int) (K m : Int) (w : World) (h : Src w p a n c xs K) (hK : K ≤ 900000) (hm : 1 ≤ m) (hm2 : m ≤ 100000) :
    Calls Try.prog 37 #[.pointer (some ⟨p, 0, none⟩), .int .i64 m] w fun e w' => ∃ r : Int, e = .returned (.int .i64 r) ∧ 0 ≤ r ∧ r < m ∧ Only p w w' ∧ Src w' p a n c xs (K + 3) := by
  by_cases h1 : m ≤ 1
  · go_enter Try.func37, Try.ntmps37
    go_wp2_with fail
    go_ret
    exact ⟨0, rfl, by omega, by omega, Only.refl _ _, Src.more h (by omega)⟩
  by_cases h2 : m ≤ 256
  · go_enter Try.func37, Try.ntmps37
    go_wp2_with fail
    refine (byte_any p a n c xs K w h (by omega)).mono ?_
    rintro e w1 ⟨r, rfl, hr0, hr1, ho, hs⟩
    go_wp2_with fail
    go_ret
    refine ⟨_, rfl, ?_, ?_, ho, Src.more hs (by omega)⟩
    · exact Int.emod_nonneg _ (by omega)
    · exact Int.emod_lt_of_pos _ (by omega)
  · go_enter Try.func37, Try.ntmps37
    go_wp2_with fail
    refine (byte_any p a n c xs K w h (by omega)).mono ?_
    rintro e w1 ⟨r1, rfl, hr10, hr11, ho1, hs1⟩
    go_wp2_with fail
    refine (byte_any p a n c xs (K + 1) w1 hs1 (by omega)).mono ?_
    rintro e w2 ⟨r2, rfl, hr20, hr21, ho2, hs2⟩
    go_wp2_with fail
    refine (byte_any p a n c xs (K + 1 + 1) w2 hs2 (by omega)).mono ?_
    rintro e w3 ⟨r3, rfl, hr30, hr31, ho3, hs3⟩
    go_wp2_with fail
    go_ret
    refine ⟨_, rfl, ?_, ?_, (ho1.trans ho2).trans ho3, Src.more hs3 (by omega)⟩
    · exact Int.emod_nonneg _ (by omega)
    · exact Int.emod_lt_of_pos _ (by omega)

set_option maxHeartbeats 1000000 in
theorem source_any (a : Option Addr) (n c : Nat) (xs : List Int) (w : World) (hr : Row w a n xs) (hby : ∀ i, i < n → 0 ≤ xs.getD i 0 ∧ xs.getD i 0 ≤ 255) (hn : n ≤ 1048576) :
    Calls Try.prog 15 #[.slice a n c] w fun e w' => e = .returned (.pointer (some ⟨w.heap.size, 0, none⟩)) ∧ Src w' w.heap.size a n c xs 0 ∧ Below w.heap.size w w' ∧ w'.heap.size = w.heap.size + 1 := by
  have R := hide hr
  have BY := hide hby
  clear hr hby
  go_enter Try.func15, Try.ntmps15
  go_wp2_with fail
  go_ret
  refine ⟨rfl, ?_, (Below.refl _ _).alloc (Nat.le_refl _) _, by simp⟩
  have hb : Below w.heap.size w (w.alloc (.cells #[.slice a n c, .int .i64 0, .int .i64 ((n : Int) % 1000)] 78)) := (Below.refl _ _).alloc (Nat.le_refl _) _
  have hlt : ∀ x, a = some x → 0 < n → x.block < w.heap.size := fun x hx hp => by
    obtain ⟨b, off, e, hc⟩ := (unhide R).2 0 hp
    rw [hx] at e
    cases e
    exact cell_lt hc
  refine ⟨by simp, ⟨0, by simp, by omega, by omega⟩, ⟨(n : Int) % 1000, by simp, by omega, by omega⟩, fun j => by simp, ?_, unhide BY, fun x hx hp => Nat.ne_of_lt (hlt x hx hp), hn⟩
  by_cases hp : 0 < n
  · exact (unhide R).below hb (fun x hx => hlt x hx hp)
  · exact ⟨(unhide R).1, fun i hi => absurd hi (by omega)⟩
set_option maxHeartbeats 1000000 in
theorem pick_any (p g m mc : Nat) (a : Option Addr) (n c : Nat) (xs : List Int) (K : Int) (w : World) (h : Src w p a n c xs K) (hK : K ≤ 800000) (hm : 1 ≤ m) (hm2 : m ≤ 1000) (hg : g ≠ p) (T : ByteArray → Prop)
    (hT : ∀ i, i < m → ∃ t, w.cell? ⟨g, i, none⟩ = some (.string t) ∧ T t) :
    Calls Try.prog 79 #[.pointer (some ⟨p, 0, none⟩), .slice (some ⟨g, 0, none⟩) m mc] w fun e w' => ∃ t : ByteArray, e = .returned (.string t) ∧ T t ∧ Only p w w' ∧ Src w' p a n c xs (K + 3) := by
  have HT := hide hT
  clear hT
  have hb : ((m : Int) == 0) = false := by simp; omega
  go_enter Try.func79, Try.ntmps79
  go_wp2_with fail
  refine (next_any p a n c xs K (m : Int) w h (by omega) (by omega) (by omega)).mono ?_
  rintro e w1 ⟨r, rfl, hr0, hr1, ho, hs⟩
  obtain ⟨k, rfl⟩ := Int.eq_ofNat_of_zero_le hr0
  obtain ⟨t, ht, hTt⟩ := unhide HT k (by omega)
  have ht1 := (ho.cell (p := ⟨g, k, none⟩) hg).trans ht
  clear ht
  go_wp2_with fail
  go_ret
  exact ⟨t, rfl, hTt, ho, hs⟩

/-- A block that is made leaves a source as it was. -/
theorem Src.alloc {w : World} {p : Nat} {a : Option Addr} {n c : Nat} {xs : List Int} {K : Int} (h : Src w p a n c xs K) (o : Obj) : Src (w.alloc o) p a n c xs K := by
  have hb : Below w.heap.size w (w.alloc o) := (Below.refl _ _).alloc (Nat.le_refl _) _
  obtain ⟨h1, ⟨t, ht, ht0, htK⟩, ⟨s, hs, hs0, hs1⟩, h4, h5, h6, h7, h8⟩ := h
  have hp := cell_lt h1
  refine ⟨(hb.cell (p := ⟨p, 0, none⟩) hp).trans h1, ⟨t, (hb.cell (p := ⟨p, 1, none⟩) hp).trans ht, ht0, htK⟩, ⟨s, (hb.cell (p := ⟨p, 2, none⟩) hp).trans hs, hs0, hs1⟩, fun j => (hb.frozen (p := ⟨p, j, none⟩) hp).trans (h4 j), ?_, h6, h7, h8⟩
  by_cases hn : 0 < n
  · refine h5.below hb (fun x hx => ?_)
    obtain ⟨b, off, e, hc⟩ := h5.2 0 hn
    rw [hx] at e
    cases e
    exact cell_lt hc
  · exact ⟨h5.1, fun i hi => absurd hi (by omega)⟩

end Go.Proofs.Ytbhkmmdcdfjbkaa
