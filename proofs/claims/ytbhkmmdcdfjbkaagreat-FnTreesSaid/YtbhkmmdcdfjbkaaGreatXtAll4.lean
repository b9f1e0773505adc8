/-
  UsA, UsM, UsB, UsC in one.
-/
import Derived.Test.YtbhkmmdcdfjbkaaGreatXtAll3
import Derived.Test.YtbhkmmdcdfjbkaaGreatXtAll1
import Derived.Test.YtbhkmmdcdfjbkaaGreatAppL
import Derived.Test.YtbhkmmdcdfjbkaaGreatPgG
namespace Go.Proofs.YtbhkmmdcdfjbkaaGreat
open Go.RowKit

theorem us_stepApp {P : Program} {ops : Array Oper} {o : Oper} {a : Act} {w : World} {K : Act → World → Prop} {Q : Exit → Act → World → Prop} {E : Prop}
    (hg : o.guard = none) (s x : Operand) (t : TypeId) (hop : o.op = Op.call { callee := Callee.builtin Builtin.append, args := #[s, x], argTypes := #[t, t] })
    (vs vx v' : Value) (w' : World) (hs : a.eval s = vs) (hx : a.eval x = vx) (hrun : (Builtin.append_ #[t, t] o.type #[vs, vx]).run P w = .ok v' w') (hK : K (a.put o.dst v') w') :
    if Region.wanted o (yielded ops a.tmps) = true then Oper.wp P o a w K Q else E := by
  have hw : Region.wanted o (yielded ops a.tmps) = true := by simp [Region.wanted, hg]
  rw [if_pos hw]
  unfold Oper.wp
  simp [execOp, hop, resolve, invoke, builtin, hs, hx, hrun, Result.andThen]
  exact hK
/-- append(a row of bools of the call's own, a list of bools...), nil or not. -/
theorem run_appBo {w : World} {B : Nat} {v : Value} {a : Option Addr} {n c : Nat} {xs gs : List Bool} (ty : TypeId) (hO : w.ownsRow B 4 1 v xs.length (xs.map Value.bool)) (hR : RowC w (.slice a n c) n (gs.map Value.bool)) (hl : gs.length = n) (hx : xs.length ≤ 2000000) (hn : n ≤ 2000000) (hc : a = none → c = 0) (hB : B ≤ w.heap.size) :
    ∃ v' w', (Builtin.append_ #[26, 26] ty #[v, .slice a n c]).run Tryz.prog w = .ok v' w' ∧ w'.ownsRow B 4 1 v' (xs.length + n) ((xs ++ gs).map Value.bool) ∧ w.grownBy w' v.ownBlock := by
  obtain ⟨i0, hi0, hz0, hz1, hz2⟩ := info_parts Tryz.infoBoG
  cases a with
  | none =>
    obtain rfl := hc rfl
    have h0 : gs = [] := by
      cases gs with
      | nil => rfl
      | cons g gs =>
        obtain ⟨b, off, e, _⟩ := hR.at (j := 0) (u := .bool g) rfl
        cases e
    subst h0
    obtain rfl : n = 0 := hl.symm
    exact ⟨v, w, run_append_owned_none (P := Tryz.prog) w B 26 ty 4 i0 1 Tryz.underlying26 hi0 _ _ _ hO, by rw [List.append_nil]; exact hO, ⟨rfl, rfl, rfl, Nat.le_refl _, fun _ _ _ => rfl⟩⟩
  | some ad =>
    obtain ⟨v', w', hr, ho, hg, _⟩ := run_append_own (P := Tryz.prog) w B 26 ty 4 i0 (.bool false) 1 1 Tryz.underlying26 hi0 hz0 hz1 hz2 rfl (by decide) _ _ _ hO ad n c (gs.map Value.bool) (by rw [List.length_map, hl, Nat.mul_one]) (fun t u hu => by
      obtain ⟨b, off, e, hcc⟩ := hR.at hu
      obtain rfl : ad = ⟨b, off, none⟩ := by injection e
      exact (congrArg w.cell? (Addr.add_lit b off t)).trans hcc) (fun u hu => by obtain ⟨g, _, rfl⟩ := List.mem_map.1 hu; rfl) (by unfold maxLen; omega) (by omega) hB
    refine ⟨v', w', hr, ?_, hg⟩
    rw [List.map_append]
    exact ho
theorem here_map (ps : List (Option PageD)) : List.zipWith (fun p g => if g then none else some p) (ps.map pgD) (ps.map (·.isNone)) = ps := by
  induction ps with
  | nil => rfl
  | cons q ps ih =>
    rw [List.map_cons, List.map_cons, List.zipWith_cons_cons, ih]
    cases q <;> rfl
/-- A tree of the specification in memory that the call owns from B on. -/
structure TsOwn (w : World) (B : Nat) (a1 : Option Addr) (c1 : Nat) (a2 : Option Addr) (c2 : Nat) (a3 : Option Addr) (c3 n m : Nat) (hs : List PpH) (ps : List (Option PageD)) (idx : List RefD) : Prop where
  own : TrOwn w B n n (.slice a1 n c1) (.slice a2 n c2) (.slice a3 m c3) hs (ps.map (·.isNone)) idx
  dat : hs.map (·.X) = ps.map pgD
  ln : ps.length = n
  li : idx.length = m
theorem TsOwn.below {w w' : World} {B : Nat} {a1 a2 a3 : Option Addr} {c1 c2 c3 n m : Nat} {hs : List PpH} {ps : List (Option PageD)} {idx : List RefD} (h : TsOwn w B a1 c1 a2 c2 a3 c3 n m hs ps idx) (hb : Below w.heap.size w w') : TsOwn w' B a1 c1 a2 c2 a3 c3 n m hs ps idx := ⟨h.own.below hb, h.dat, h.ln, h.li⟩
theorem TsOwn.dn {w : World} {B C : Nat} {a1 a2 a3 : Option Addr} {c1 c2 c3 n m : Nat} {hs : List PpH} {ps : List (Option PageD)} {idx : List RefD} (h : TsOwn w B a1 c1 a2 c2 a3 c3 n m hs ps idx) (hC : C ≤ B) : TsOwn w C a1 c1 a2 c2 a3 c3 n m hs ps idx := ⟨h.own.dn hC, h.dat, h.ln, h.li⟩
theorem TsOwn.set {w : World} {B q : Nat} {a1 a2 a3 : Option Addr} {c1 c2 c3 n m : Nat} {hs : List PpH} {ps : List (Option PageD)} {idx : List RefD} (h : TsOwn w B a1 c1 a2 c2 a3 c3 n m hs ps idx) (hq : q < B) (j : Nat) (u : Value) : TsOwn (w.setCell ⟨q, j, none⟩ u) B a1 c1 a2 c2 a3 c3 n m hs ps idx := ⟨h.own.set hq j u, h.dat, h.ln, h.li⟩
theorem TsOwn.trIn {w : World} {B : Nat} {a1 a2 a3 : Option Addr} {c1 c2 c3 n m : Nat} {hs : List PpH} {ps : List (Option PageD)} {idx : List RefD} (h : TsOwn w B a1 c1 a2 c2 a3 c3 n m hs ps idx) : TrIn w a1 n c1 a2 n c2 a3 m hs (ps.map (·.isNone)) idx := h.own.reads
theorem TsOwn.here {w : World} {B : Nat} {a1 a2 a3 : Option Addr} {c1 c2 c3 n m : Nat} {hs : List PpH} {ps : List (Option PageD)} {idx : List RefD} (h : TsOwn w B a1 c1 a2 c2 a3 c3 n m hs ps idx) : (trd hs (ps.map (·.isNone)) idx).here = ps := by
  unfold trd TreD.here
  simp only
  rw [h.dat]
  exact here_map ps
theorem TsOwn.hl {w : World} {B : Nat} {a1 a2 a3 : Option Addr} {c1 c2 c3 n m : Nat} {hs : List PpH} {ps : List (Option PageD)} {idx : List RefD} (h : TsOwn w B a1 c1 a2 c2 a3 c3 n m hs ps idx) : hs.length = n := by
  have := congrArg List.length h.dat
  rw [List.length_map, List.length_map, h.ln] at this
  exact this
theorem TsOwn.hX {w : World} {B : Nat} {a1 a2 a3 : Option Addr} {c1 c2 c3 n m : Nat} {hs : List PpH} {ps : List (Option PageD)} {idx : List RefD} (h : TsOwn w B a1 c1 a2 c2 a3 c3 n m hs ps idx) {k : Nat} (hk : k < hs.length) (hp : k < ps.length) : hs[k].X = pgD ps[k] := by
  have e := congrArg (fun l => l[k]?) h.dat
  simp only [List.getElem?_map, List.getElem?_eq_getElem hk, List.getElem?_eq_getElem hp, Option.map_some] at e
  injection e
/-- How long a right page's lists are, a gone one's too. -/
theorem pgD_few {ps : List (Option PageD)} {idx : List RefD} (t : Tre ps idx) {q : Option PageD} (hq : q ∈ ps) : (pgD q).es.length ≤ 32 ∧ (pgD q).ds.length ≤ 12 := by
  cases q with
  | none => exact ⟨by show 0 ≤ 32; omega, by show 0 ≤ 12; omega⟩
  | some p =>
    obtain ⟨k, hk⟩ := mem_getP hq
    have := ok_parts (t.ok _ p hk)
    exact ⟨this.2.1, this.2.2.1⟩
theorem own_cap0 {w : World} {B t s n m c : Nat} {a : Option Addr} {cs : List Value} (h : w.ownsRow B t s (.slice a n c) m cs) : a = none → c = 0 := (rowK_own (B := 0) h).2
/-- A page of a tree as it lies. -/
structure PgAtS (w : World) (B b k : Nat) (x : PpH) : Prop where
  c0 : w.cell? ⟨b, k * 5, none⟩ = some (.string x.X.lo)
  c1 : w.cell? ⟨b, k * 5 + 1, none⟩ = some (.string x.X.hi)
  c2 : w.cell? ⟨b, k * 5 + 2, none⟩ = some (.int .i64 x.X.r)
  c3 : w.cell? ⟨b, k * 5 + 3, none⟩ = some (.slice x.s0.a x.s0.n x.s0.c)
  c4 : w.cell? ⟨b, k * 5 + 4, none⟩ = some (.slice x.s1.a x.s1.n x.s1.c)
  es : ERow w x.s0.a x.s0.n x.X.es
  ds : DRow w x.s1.a x.s1.n x.X.ds
  ce : x.s0.a = none → x.s0.c = 0
  cd : x.s1.a = none → x.s1.c = 0
  ge : B ≤ b
theorem PgAtS.below {w w' : World} {B b k : Nat} {x : PpH} (h : PgAtS w B b k x) (hb : Below w.heap.size w w') : PgAtS w' B b k x :=
  ⟨(hb.cell (p := ⟨b, k * 5, none⟩) (cell_lt h.c0)).trans h.c0, (hb.cell (p := ⟨b, k * 5 + 1, none⟩) (cell_lt h.c1)).trans h.c1, (hb.cell (p := ⟨b, k * 5 + 2, none⟩) (cell_lt h.c2)).trans h.c2, (hb.cell (p := ⟨b, k * 5 + 3, none⟩) (cell_lt h.c3)).trans h.c3, (hb.cell (p := ⟨b, k * 5 + 4, none⟩) (cell_lt h.c4)).trans h.c4, h.es.below hb, h.ds.below hb, h.ce, h.cd, h.ge⟩
theorem TsOwn.at {w : World} {B : Nat} {a1 a2 a3 : Option Addr} {c1 c2 c3 n m : Nat} {hs : List PpH} {ps : List (Option PageD)} {idx : List RefD} (h : TsOwn w B a1 c1 a2 c2 a3 c3 n m hs ps idx) {k : Nat} (hk : k < ps.length) : ∃ (b : Nat) (x : PpH), a1 = some ⟨b, 0, none⟩ ∧ hs[k]? = some x ∧ x.X = pgD ps[k] ∧ PgAtS w B b k x := by
  have hkh : k < hs.length := by rw [h.hl, ← h.ln]; exact hk
  have hx := h.hX hkh hk
  rcases h.own.pg.row.2 with ⟨e, h0⟩ | ⟨g, cap, cur, e, hb, _⟩
  · exfalso
    have := h.ln
    omega
  injection e with e1 _ e3
  subst e1 e3
  have hi : (hs.map ppEl)[k]? = some (ppEl hs[k]) := ppEl_at hkh
  obtain ⟨r1, r2⟩ := PpIn.sub h.own.pg.reads hkh
  have d0 := h.own.pg.dat k 0 ⟨41, 2, hs[k].X.es.length, .slice hs[k].s0.a hs[k].s0.n hs[k].s0.c, ecs hs[k].X.es⟩ (by unfold sbAt; rw [hi]; rfl)
  have d1 := h.own.pg.dat k 1 ⟨90, 4, hs[k].X.ds.length, .slice hs[k].s1.a hs[k].s1.n hs[k].s1.c, dcs hs[k].X.ds⟩ (by unfold sbAt; rw [hi]; rfl)
  refine ⟨g, hs[k], rfl, List.getElem?_eq_getElem hkh, hx, ⟨?_, ?_, ?_, ?_, ?_, erow_C r1, drow_C r2, own_cap0 d0, own_cap0 d1, hb⟩⟩
  · exact h.own.pg.cell (j := 0) hi rfl
  · exact h.own.pg.cell (j := 1) hi rfl
  · exact h.own.pg.cell (j := 2) hi rfl
  · exact h.own.pg.cell (j := 3) hi rfl
  · exact h.own.pg.cell (j := 4) hi rfl
theorem tw_new (w : World) (v0 v1 v2 : Value) : ∃ W, W = (w.alloc (.cells #[v0, v1, v2] 29)).alloc (.cells #[.slice none 0 0, .slice none 0 0, .slice none 0 0] 29) ∧ W.heap[w.heap.size]? = some (.cells #[v0, v1, v2] 29 (0, 0)) ∧ W.heap[w.heap.size + 1]? = some (.cells #[.slice none 0 0, .slice none 0 0, .slice none 0 0] 29 (0, 0)) ∧ W.heap.size = w.heap.size + 1 + 1 ∧ Below w.heap.size w W := by
  have z1 : (w.alloc (.cells #[v0, v1, v2] 29)).heap.size = w.heap.size + 1 := by simp
  have b2 : Below (w.heap.size + 1) (w.alloc (.cells #[v0, v1, v2] 29)) ((w.alloc (.cells #[v0, v1, v2] 29)).alloc (.cells #[.slice none 0 0, .slice none 0 0, .slice none 0 0] 29)) := (Below.refl _ _).alloc (by omega) _
  exact ⟨_, rfl, (b2.block w.heap.size (by omega)).trans (heap_new rfl _ _), heap_new z1 _ _, by simp, ((Below.refl _ _).alloc (Nat.le_refl _) _).alloc (by simp) _⟩
/-- A tree's three lists laid into its box. -/
theorem tg_store {u : World} {B tb : Nat} {vg vi : Value} {gs : List Bool} {idx : List RefD} (hk : u.heap[tb]? = some (.cells #[.slice none 0 0, .slice none 0 0, .slice none 0 0] 29 (0, 0))) (hg : u.ownsRow B 4 1 vg gs.length (gs.map Value.bool)) (hi : JOwns u B vi idx) (hB : B ≤ tb) (hs : B ≤ u.heap.size) :
    TgSt (((u.setCell ⟨tb, 0, none⟩ (.slice none 0 0)).setCell ⟨tb, 1, none⟩ vg).setCell ⟨tb, 2, none⟩ vi) B tb (.slice none 0 0) vg vi [] gs idx ∧ Below B u (((u.setCell ⟨tb, 0, none⟩ (.slice none 0 0)).setCell ⟨tb, 1, none⟩ vg).setCell ⟨tb, 2, none⟩ vi) := by
  have W : WrB (fun i => i = tb) u (((u.setCell ⟨tb, 0, none⟩ (.slice none 0 0)).setCell ⟨tb, 1, none⟩ vg).setCell ⟨tb, 2, none⟩ vi) := (set1_wr u tb 0 (.slice none 0 0)).seq ((set1_wr _ tb 1 vg).seq (set1_wr _ tb 2 vi))
  refine ⟨⟨⟨NOwn.flat (World.ownsRow_nil _ _ _ _) rfl (fun e he => by cases he) (fun e he => by cases he), own_keep hg hk (by decide) W, own_keep hi hk (by decide) W⟩, ?_⟩, WrB.below W (fun i e => by omega) hs⟩
  have h1 := heap_set hk 0 (.slice none 0 0)
  have h2 := heap_set h1 1 vg
  have h3 := heap_set h2 2 vi
  simpa using h3
theorem us_sl {w : World} {B t s n : Nat} {v : Value} {cs : List Value} (h : w.ownsRow B t s v n cs) : ∃ a c, v = .slice a n c := by
  rcases h.2 with ⟨e, h0⟩ | ⟨g, cap, cur, e, _⟩
  · exact ⟨none, 0, by rw [e, h0]⟩
  · exact ⟨_, _, e⟩
/-- What l05Own's first statement has made. -/
structure OwSt (W u : World) (gs : List Bool) (idx : List RefD) (sg si : Option (Value × Bool)) (tb : Option Nat) : Prop where
  bel : Below W.heap.size W u
  g : ∀ v d, sg = some (v, d) → u.ownsRow W.heap.size 4 1 v (if d then gs.length else 0) (if d then gs.map Value.bool else [])
  i : ∀ v d, si = some (v, d) → JOwns u W.heap.size v (if d then idx else [])
  t : ∀ b, tb = some b → W.heap.size ≤ b ∧ u.heap[b]? = some (.cells #[.slice none 0 0, .slice none 0 0, .slice none 0 0] 29 (0, 0))
theorem OwSt.step {W u u' : World} {gs : List Bool} {idx : List RefD} {sg si : Option (Value × Bool)} {tb : Option Nat} (h : OwSt W u gs idx sg si tb) (hb : Below u.heap.size u u') : OwSt W u' gs idx sg si tb :=
  ⟨h.bel.trans (hb.mono h.bel.size), fun v d e => rb_ownsRow_below (h.g v d e) hb, fun v d e => rb_ownsRow_below (h.i v d e) hb, fun b e => ⟨(h.t b e).1, (hb.block b (blk_lt (h.t b e).2)).trans (h.t b e).2⟩⟩
theorem OwSt.litG {W u : World} {gs : List Bool} {idx : List RefD} {si : Option (Value × Bool)} {tb : Option Nat} (h : OwSt W u gs idx none si tb) : OwSt W (u.alloc (.cells #[] 4)) gs idx (some (.slice (some ⟨u.heap.size, 0, none⟩) 0 0, false)) si tb := by
  have s := h.step ((Below.refl u.heap.size u).alloc (Nat.le_refl _) (.cells #[] 4))
  refine ⟨s.bel, fun v d e => ?_, s.i, s.t⟩
  injection e with e
  injection e with e1 e2
  subst e1 e2
  exact gd_base (nil_lit (w := u) 4 1) h.bel.size
theorem OwSt.litI {W u : World} {gs : List Bool} {idx : List RefD} {sg : Option (Value × Bool)} {tb : Option Nat} (h : OwSt W u gs idx sg none tb) : OwSt W (u.alloc (.cells #[] 69)) gs idx sg (some (.slice (some ⟨u.heap.size, 0, none⟩) 0 0, false)) tb := by
  have s := h.step ((Below.refl u.heap.size u).alloc (Nat.le_refl _) (.cells #[] 69))
  refine ⟨s.bel, s.g, fun v d e => ?_, s.t⟩
  injection e with e
  injection e with e1 e2
  subst e1 e2
  exact gd_base (nil_lit (w := u) 69 2) h.bel.size
theorem OwSt.litT {W u : World} {gs : List Bool} {idx : List RefD} {sg si : Option (Value × Bool)} (h : OwSt W u gs idx sg si none) : OwSt W (u.alloc (.cells #[.slice none 0 0, .slice none 0 0, .slice none 0 0] 29)) gs idx sg si (some u.heap.size) := by
  have s := h.step ((Below.refl u.heap.size u).alloc (Nat.le_refl _) (.cells #[.slice none 0 0, .slice none 0 0, .slice none 0 0] 29))
  refine ⟨s.bel, s.g, s.i, fun b e => ?_⟩
  injection e with e
  subst e
  exact ⟨h.bel.size, heap_alloc_new _ _⟩
theorem OwSt.wr {W u u' : World} {gs : List Bool} {idx : List RefD} {sg si : Option (Value × Bool)} {tb : Option Nat} (h : OwSt W u gs idx sg si tb) {P : Nat → Prop} (hw : WrB P u u') (hP : ∀ i, P i → W.heap.size ≤ i) : Below W.heap.size W u' := h.bel.trans (WrB.below hw hP h.bel.size)
theorem OwSt.appG {W u : World} {gs : List Bool} {idx : List RefD} {v : Value} {si : Option (Value × Bool)} {tb : Option Nat} (h : OwSt W u gs idx (some (v, false)) si tb) {a : Option Addr} {n c : Nat} (hR : RowC W (.slice a n c) n (gs.map Value.bool)) (hl : gs.length = n) (hn : n ≤ 1000) (hc : a = none → c = 0) :
    ∃ a' c' u', (Builtin.append_ #[26, 26] 26 #[v, .slice a n c]).run Tryz.prog u = .ok (.slice a' n c') u' ∧ OwSt W u' gs idx (some (.slice a' n c', true)) si tb := by
  have hg := h.g v false rfl
  obtain ⟨v', u', hr, ho, hgr⟩ := run_appBo (xs := []) 26 hg (hR.below h.bel) hl (by simp) (by omega) hc h.bel.size
  have hw := WrB.of_grown hgr
  obtain ⟨a', c', rfl⟩ : ∃ a' c', v' = .slice a' n c' := by
    obtain ⟨a', c', e⟩ := us_sl ho
    exact ⟨a', c', by simpa using e⟩
  refine ⟨a', c', u', hr, ⟨h.wr hw (fun i hi => (hg.lt i hi).1), fun v d e => ?_, fun v d e => rr_owns_wr (h.i v d e) hw (fun i hi => own_other (h.i v d e) hg (by decide) hi), fun b e => ⟨(h.t b e).1, (hw.block b (blk_lt (h.t b e).2) (own_box hg (h.t b e).2 (by decide))).trans (h.t b e).2⟩⟩⟩
  injection e with e
  injection e with e1 e2
  subst e1 e2
  simp only [if_true]
  rw [hl]
  simpa using ho
theorem OwSt.appI {W u : World} {gs : List Bool} {idx : List RefD} {v : Value} {sg : Option (Value × Bool)} {tb : Option Nat} (h : OwSt W u gs idx sg (some (v, false)) tb) {a : Option Addr} {n c : Nat} (hR : JRow W a n idx) (hn : n ≤ 1000) (hc : a = none → c = 0) :
    ∃ a' c' u', (Builtin.append_ #[27, 27] 27 #[v, .slice a n c]).run Tryz.prog u = .ok (.slice a' n c') u' ∧ OwSt W u' gs idx sg (some (.slice a' n c', true)) tb := by
  have hg : JOwns u W.heap.size v [] := h.i v false rfl
  obtain ⟨v', u', hr, ho, hgr, _⟩ := run_appJ (c := c) 27 hg (hR.below h.bel) (by simp) (by omega) hc h.bel.size
  have hw := WrB.of_grown hgr
  obtain ⟨a', c', rfl⟩ : ∃ a' c', v' = .slice a' n c' := by
    obtain ⟨a', c', e⟩ := us_sl ho
    exact ⟨a', c', by rw [e, List.nil_append, hR.1]⟩
  refine ⟨a', c', u', hr, ⟨h.wr hw (fun i hi => (hg.lt i hi).1), fun v d e => rr_owns_wr (h.g v d e) hw (fun i hi => own_other (h.g v d e) hg (by decide) hi), fun v d e => ?_, fun b e => ⟨(h.t b e).1, (hw.block b (blk_lt (h.t b e).2) (own_box hg (h.t b e).2 (by decide))).trans (h.t b e).2⟩⟩⟩
  injection e with e
  injection e with e1 e2
  subst e1 e2
  exact ho
/-- What l05Own gives. -/
def OwnRes (n m : Nat) (ps : List (Option PageD)) (idx : List RefD) (w : World) (e : Ending) (w' : World) : Prop := ∃ a1 c1 a2 c2 a3 c3 hs, e = .returned (.agg #[.slice a1 n c1, .slice a2 n c2, .slice a3 m c3]) ∧ TsOwn w' w.heap.size a1 c1 a2 c2 a3 c3 n m hs ps idx ∧ Below w.heap.size w w'
set_option maxRecDepth 100000 in
set_option maxHeartbeats 8000000 in
theorem l05Own_any (B : Nat) (a1 : Option Addr) (c1 : Nat) (a2 : Option Addr) (c2 : Nat) (a3 : Option Addr) (c3 n m : Nat) (hs : List PpH) (ps : List (Option PageD)) (idx : List RefD) (w : World) (hO : TsOwn w B a1 c1 a2 c2 a3 c3 n m hs ps idx) (hT : Tre ps idx) :
    Calls Tryz.prog 29 #[.agg #[.slice a1 n c1, .slice a2 n c2, .slice a3 m c3]] w fun e w' => OwnRes n m ps idx w e w' := by
  have hn30 : n ≤ 30 := by rw [← hO.ln]; exact hT.len.2
  have hm30 : m ≤ 30 := by rw [← hO.li]; exact Nat.le_trans hT.good.il hT.len.2
  obtain ⟨W, hW, k1, k2, z, b0⟩ := tw_new w (.slice a1 n c1) (.slice a2 n c2) (.slice a3 m c3)
  have O := hide (hO.below b0)
  have cg := own_cap0 hO.own.go
  have ci := own_cap0 hO.own.ix
  have FEW := hide (fun q (hq : q ∈ ps) => pgD_few hT hq)
  have HLN := hide hO.ln
  have HLI := hide hO.li
  clear hO hT
  have e1 := (heap_at k1 1).1
  have e2 := (heap_at k1 2).1
  have hz1 : w.heap.size < W.heap.size := by omega
  have hz2 : w.heap.size + 1 < W.heap.size := by omega
  have b0h := hide b0
  have K1 := hide k1
  have K2 := hide k2
  have S0 := hide (show OwSt W W.drew (ps.map (·.isNone)) idx none none none from ⟨(Below.refl _ _).drew, fun _ _ e => (by cases e), fun _ _ e => (by cases e), fun _ e => (by cases e)⟩)
  have RG := hide (show RowC W (.slice a2 n c2) n ((ps.map (·.isNone)).map Value.bool) from (unhide O).trIn.gone)
  have RI := hide (show JRow W a3 m idx from (unhide O).trIn.ix)
  have LG := hide (show (ps.map (·.isNone)).length = n by rw [List.length_map]; exact unhide HLN)
  clear b0 k1 k2 z
  have HW := hide hW
  clear hW
  go_enter Tryz.func29, Tryz.ntmps29
  go_upto_region 1 with fail
  rw [← unhide HW]
  clear HW
  go_cut [3] (fun v wc => ∃ tb ag cg' ai ci', v = .pointer (some ⟨tb, 0, none⟩) ∧ W.heap.size ≤ tb ∧ Hid (TgSt wc W.heap.size tb (.slice none 0 0) (.slice ag n cg') (.slice ai m ci') [] (ps.map (·.isNone)) idx) ∧ Below W.heap.size W wc)
  case first =>
    have SK := hide (show ∀ u, Below W.heap.size W u → u.cell? ⟨w.heap.size, 1, none⟩ = some (.slice a2 n c2) ∧ u.cell? ⟨w.heap.size, 2, none⟩ = some (.slice a3 m c3) from fun u hu => ⟨(hu.cell (p := ⟨w.heap.size, 1, none⟩) hz1).trans e1, (hu.cell (p := ⟨w.heap.size, 2, none⟩) hz1).trans e2⟩)
    refine wp_region_held_drew (S := (fun u => u.cell? ⟨w.heap.size, 1, none⟩ = some (.slice a2 n c2) ∧ u.cell? ⟨w.heap.size, 2, none⟩ = some (.slice a3 m c3))) (by kernel_rfl) (unhide SK _ (unhide S0).bel) (fun hHeld => ?_)
    have T0 := S0
    clear S0
    generalize W.drew = u0 at *
    refine anyH_take 1 6 (v := ?v1) rfl rfl (by kernel_rfl) (by kernel_rfl) (by kernel_rfl) (fun _ _ _ h => h) (by rfl) ?h1 hHeld ?r1
    case h1 => (intro w hSw; (try dsimp only at hSw); go_simp; try (with_reducible rfl))
    simp only [Act.put, List.setIfInBounds_toArray, List.set_cons_zero, List.set_cons_succ]
    refine anyH_take 2 7 (v := ?v2) rfl rfl (by kernel_rfl) (by kernel_rfl) (by kernel_rfl) (fun _ _ _ h => h) (by rfl) ?h2 hHeld ?r2
    case h2 => (intro w hSw; (try dsimp only at hSw); go_simp; try (with_reducible rfl))
    simp only [Act.put, List.setIfInBounds_toArray, List.set_cons_zero, List.set_cons_succ]
    refine anyH_take 5 10 (v := ?v3) rfl rfl (by kernel_rfl) (by kernel_rfl) (by kernel_rfl) (fun _ _ _ h => h) (by rfl) ?h3 hHeld ?r3
    case h3 => (intro w hSw; (try dsimp only at hSw); go_simp; try (with_reducible rfl))
    simp only [Act.put, List.setIfInBounds_toArray, List.set_cons_zero, List.set_cons_succ]
    refine anyH_take 6 11 (v := ?v4) rfl rfl (by kernel_rfl) (by kernel_rfl) (by kernel_rfl) (fun _ _ _ h => h) (by rfl) ?h4 hHeld ?r4
    case h4 => (intro w hSw; (try dsimp only at hSw); go_simp; try (with_reducible rfl))
    simp only [Act.put, List.setIfInBounds_toArray, List.set_cons_zero, List.set_cons_succ]
    refine wpAnyH_ready (rs := [0, 4, 9]) (by kernel_rfl) (by simp) ?_
    refine AllReadyH.cons rfl (fun K hK => ?_) (AllReadyH.cons rfl (fun K hK => ?_) (AllReadyH.cons rfl (fun K hK => ?_) AllReadyH.nil))
    · have T0 := hide (unhide T0).litG
      go_simp
      generalize u0.alloc (.cells #[] 4) = u0 at *
      generalize u0.heap.size = g5 at *
      refine hK.out _ _ (unhide SK _ (unhide T0).bel) (fun hHeld => ?_)
      clear hK K
      refine wpAnyH_ready (rs := [3, 4, 9]) (by kernel_rfl) (by simp) ?_
      refine AllReadyH.cons rfl (fun K hK => ?_) (AllReadyH.cons rfl (fun K hK => ?_) (AllReadyH.cons rfl (fun K hK => ?_) AllReadyH.nil))
      · obtain ⟨a8, k8, u0_3, hr, hs8⟩ := (unhide T0).appG (unhide RG) (unhide LG) (by omega) cg
        have T0_3 := hide hs8
        clear hs8
        refine us_stepApp rfl (.tmp 5) (.tmp 7) 26 rfl _ _ (.slice a8 n k8) u0_3 (by first | rfl | (simp [Act.eval]; done) | (simp [Act.eval, Act.put]; done)) (by first | rfl | (simp [Act.eval]; done) | (simp [Act.eval, Act.put]; done)) hr ?_
        clear hr
        refine hK.out _ _ (unhide SK _ (unhide T0_3).bel) (fun hHeld => ?_)
        clear hK K
        refine wpAnyH_ready (rs := [4, 9]) (by kernel_rfl) (by simp) ?_
        refine AllReadyH.cons rfl (fun K hK => ?_) (AllReadyH.cons rfl (fun K hK => ?_) AllReadyH.nil)
        · have T0_3_4 := hide (unhide T0_3).litI
          go_simp
          generalize u0_3.alloc (.cells #[] 69) = u0_3_4 at *
          generalize u0_3.heap.size = g9 at *
          refine hK.out _ _ (unhide SK _ (unhide T0_3_4).bel) (fun hHeld => ?_)
          clear hK K
          refine wpAnyH_ready (rs := [7, 9]) (by kernel_rfl) (by simp) ?_
          refine AllReadyH.cons rfl (fun K hK => ?_) (AllReadyH.cons rfl (fun K hK => ?_) AllReadyH.nil)
          · obtain ⟨a12, k12, u0_3_4_7, hr, hs8⟩ := (unhide T0_3_4).appI (unhide RI) (by omega) ci
            have T0_3_4_7 := hide hs8
            clear hs8
            refine us_stepApp rfl (.tmp 9) (.tmp 11) 27 rfl _ _ (.slice a12 m k12) u0_3_4_7 (by first | rfl | (simp [Act.eval]; done) | (simp [Act.eval, Act.put]; done)) (by first | rfl | (simp [Act.eval]; done) | (simp [Act.eval, Act.put]; done)) hr ?_
            clear hr
            refine hK.out _ _ (unhide SK _ (unhide T0_3_4_7).bel) (fun hHeld => ?_)
            clear hK K
            refine anyH_take 8 13 (v := ?v5) rfl rfl (by kernel_rfl) (by kernel_rfl) (by kernel_rfl) (fun _ _ _ h => h) (by rfl) ?h5 hHeld ?r5
            case h5 => (intro w hSw; (try dsimp only at hSw); go_simp; try (with_reducible rfl))
            simp only [Act.put, List.setIfInBounds_toArray]
            refine wpAnyH_ready (rs := [9]) (by kernel_rfl) (by simp) ?_
            refine AllReadyH.cons rfl (fun K hK => ?_) AllReadyH.nil
            have T0_3_4_7_9 := hide (unhide T0_3_4_7).litT
            go_simp
            generalize u0_3_4_7.alloc (.cells #[.slice none 0 0, .slice none 0 0, .slice none 0 0] 29) = u0_3_4_7_9 at *
            generalize u0_3_4_7.heap.size = tb at *
            refine hK.out _ _ (unhide SK _ (unhide T0_3_4_7_9).bel) (fun hHeld => ?_)
            clear hK K
            refine wpAnyH_ready (rs := [10]) (by kernel_rfl) (by simp) ?_
            refine AllReadyH.cons rfl (fun K hK => ?_) AllReadyH.nil
            obtain ⟨hT3, hb3⟩ := tg_store ((unhide T0_3_4_7_9).t tb rfl).2 (show _ from (unhide T0_3_4_7_9).g (.slice a8 n k8) true rfl) (show JOwns _ _ _ idx from (unhide T0_3_4_7_9).i (.slice a12 m k12) true rfl) ((unhide T0_3_4_7_9).t tb rfl).1 (unhide T0_3_4_7_9).bel.size
            have y0 := (heap_at ((unhide T0_3_4_7_9).t tb rfl).2 0).1
            have y1 := (heap_at ((unhide T0_3_4_7_9).t tb rfl).2 1).1
            have y2 := (heap_at ((unhide T0_3_4_7_9).t tb rfl).2 2).1
            have x0 := (heap_at ((unhide T0_3_4_7_9).t tb rfl).2 0).2
            have x1 := (heap_at ((unhide T0_3_4_7_9).t tb rfl).2 1).2
            have x2 := (heap_at ((unhide T0_3_4_7_9).t tb rfl).2 2).2
            have TF := hide hT3
            have htb := ((unhide T0_3_4_7_9).t tb rfl).1
            have BF := hide ((unhide T0_3_4_7_9).bel.trans hb3)
            clear hT3 hb3
            go_simp
            refine hK.out _ _ (unhide SK _ (unhide BF)) (fun hHeld => ?_)
            clear hK K
            refine wpAnyH_done (by kernel_rfl) ?_ _
            go_wp2_with fail
            go_meet
            case rel => exact ⟨tb, a8, k8, a12, k12, rfl, htb, TF, unhide BF⟩
          · have T0_3_4_9 := hide (unhide T0_3_4).litT
            go_simp
            generalize u0_3_4.alloc (.cells #[.slice none 0 0, .slice none 0 0, .slice none 0 0] 29) = u0_3_4_9 at *
            generalize u0_3_4.heap.size = tb at *
            refine hK.out _ _ (unhide SK _ (unhide T0_3_4_9).bel) (fun hHeld => ?_)
            clear hK K
            refine wpAnyH_ready (rs := [7]) (by kernel_rfl) (by simp) ?_
            refine AllReadyH.cons rfl (fun K hK => ?_) AllReadyH.nil
            obtain ⟨a12, k12, u0_3_4_9_7, hr, hs8⟩ := (unhide T0_3_4_9).appI (unhide RI) (by omega) ci
            have T0_3_4_9_7 := hide hs8
            clear hs8
            refine us_stepApp rfl (.tmp 9) (.tmp 11) 27 rfl _ _ (.slice a12 m k12) u0_3_4_9_7 (by first | rfl | (simp [Act.eval]; done) | (simp [Act.eval, Act.put]; done)) (by first | rfl | (simp [Act.eval]; done) | (simp [Act.eval, Act.put]; done)) hr ?_
            clear hr
            refine hK.out _ _ (unhide SK _ (unhide T0_3_4_9_7).bel) (fun hHeld => ?_)
            clear hK K
            refine anyH_take 8 13 (v := ?v6) rfl rfl (by kernel_rfl) (by kernel_rfl) (by kernel_rfl) (fun _ _ _ h => h) (by rfl) ?h6 hHeld ?r6
            case h6 => (intro w hSw; (try dsimp only at hSw); go_simp; try (with_reducible rfl))
            simp only [Act.put, List.setIfInBounds_toArray]
            refine wpAnyH_ready (rs := [10]) (by kernel_rfl) (by simp) ?_
            refine AllReadyH.cons rfl (fun K hK => ?_) AllReadyH.nil
            obtain ⟨hT3, hb3⟩ := tg_store ((unhide T0_3_4_9_7).t tb rfl).2 (show _ from (unhide T0_3_4_9_7).g (.slice a8 n k8) true rfl) (show JOwns _ _ _ idx from (unhide T0_3_4_9_7).i (.slice a12 m k12) true rfl) ((unhide T0_3_4_9_7).t tb rfl).1 (unhide T0_3_4_9_7).bel.size
            have y0 := (heap_at ((unhide T0_3_4_9_7).t tb rfl).2 0).1
            have y1 := (heap_at ((unhide T0_3_4_9_7).t tb rfl).2 1).1
            have y2 := (heap_at ((unhide T0_3_4_9_7).t tb rfl).2 2).1
            have x0 := (heap_at ((unhide T0_3_4_9_7).t tb rfl).2 0).2
            have x1 := (heap_at ((unhide T0_3_4_9_7).t tb rfl).2 1).2
            have x2 := (heap_at ((unhide T0_3_4_9_7).t tb rfl).2 2).2
            have TF := hide hT3
            have htb := ((unhide T0_3_4_9_7).t tb rfl).1
            have BF := hide ((unhide T0_3_4_9_7).bel.trans hb3)
            clear hT3 hb3
            go_simp
            refine hK.out _ _ (unhide SK _ (unhide BF)) (fun hHeld => ?_)
            clear hK K
            refine wpAnyH_done (by kernel_rfl) ?_ _
            go_wp2_with fail
            go_meet
            case rel => exact ⟨tb, a8, k8, a12, k12, rfl, htb, TF, unhide BF⟩
        · have T0_3_9 := hide (unhide T0_3).litT
          go_simp
          generalize u0_3.alloc (.cells #[.slice none 0 0, .slice none 0 0, .slice none 0 0] 29) = u0_3_9 at *
          generalize u0_3.heap.size = tb at *
          refine hK.out _ _ (unhide SK _ (unhide T0_3_9).bel) (fun hHeld => ?_)
          clear hK K
          refine wpAnyH_ready (rs := [4]) (by kernel_rfl) (by simp) ?_
          refine AllReadyH.cons rfl (fun K hK => ?_) AllReadyH.nil
          have T0_3_9_4 := hide (unhide T0_3_9).litI
          go_simp
          generalize u0_3_9.alloc (.cells #[] 69) = u0_3_9_4 at *
          generalize u0_3_9.heap.size = g9 at *
          refine hK.out _ _ (unhide SK _ (unhide T0_3_9_4).bel) (fun hHeld => ?_)
          clear hK K
          refine wpAnyH_ready (rs := [7]) (by kernel_rfl) (by simp) ?_
          refine AllReadyH.cons rfl (fun K hK => ?_) AllReadyH.nil
          obtain ⟨a12, k12, u0_3_9_4_7, hr, hs8⟩ := (unhide T0_3_9_4).appI (unhide RI) (by omega) ci
          have T0_3_9_4_7 := hide hs8
          clear hs8
          refine us_stepApp rfl (.tmp 9) (.tmp 11) 27 rfl _ _ (.slice a12 m k12) u0_3_9_4_7 (by first | rfl | (simp [Act.eval]; done) | (simp [Act.eval, Act.put]; done)) (by first | rfl | (simp [Act.eval]; done) | (simp [Act.eval, Act.put]; done)) hr ?_
          clear hr
          refine hK.out _ _ (unhide SK _ (unhide T0_3_9_4_7).bel) (fun hHeld => ?_)
          clear hK K
          refine anyH_take 8 13 (v := ?v7) rfl rfl (by kernel_rfl) (by kernel_rfl) (by kernel_rfl) (fun _ _ _ h => h) (by rfl) ?h7 hHeld ?r7
          case h7 => (intro w hSw; (try dsimp only at hSw); go_simp; try (with_reducible rfl))
          simp only [Act.put, List.setIfInBounds_toArray]
          refine wpAnyH_ready (rs := [10]) (by kernel_rfl) (by simp) ?_
          refine AllReadyH.cons rfl (fun K hK => ?_) AllReadyH.nil
          obtain ⟨hT3, hb3⟩ := tg_store ((unhide T0_3_9_4_7).t tb rfl).2 (show _ from (unhide T0_3_9_4_7).g (.slice a8 n k8) true rfl) (show JOwns _ _ _ idx from (unhide T0_3_9_4_7).i (.slice a12 m k12) true rfl) ((unhide T0_3_9_4_7).t tb rfl).1 (unhide T0_3_9_4_7).bel.size
          have y0 := (heap_at ((unhide T0_3_9_4_7).t tb rfl).2 0).1
          have y1 := (heap_at ((unhide T0_3_9_4_7).t tb rfl).2 1).1
          have y2 := (heap_at ((unhide T0_3_9_4_7).t tb rfl).2 2).1
          have x0 := (heap_at ((unhide T0_3_9_4_7).t tb rfl).2 0).2
          have x1 := (heap_at ((unhide T0_3_9_4_7).t tb rfl).2 1).2
          have x2 := (heap_at ((unhide T0_3_9_4_7).t tb rfl).2 2).2
          have TF := hide hT3
          have htb := ((unhide T0_3_9_4_7).t tb rfl).1
          have BF := hide ((unhide T0_3_9_4_7).bel.trans hb3)
          clear hT3 hb3
          go_simp
          refine hK.out _ _ (unhide SK _ (unhide BF)) (fun hHeld => ?_)
          clear hK K
          refine wpAnyH_done (by kernel_rfl) ?_ _
          go_wp2_with fail
          go_meet
          case rel => exact ⟨tb, a8, k8, a12, k12, rfl, htb, TF, unhide BF⟩
      · have T0_4 := hide (unhide T0).litI
        go_simp
        generalize u0.alloc (.cells #[] 69) = u0_4 at *
        generalize u0.heap.size = g9 at *
        refine hK.out _ _ (unhide SK _ (unhide T0_4).bel) (fun hHeld => ?_)
        clear hK K
        refine wpAnyH_ready (rs := [3, 9]) (by kernel_rfl) (by simp) ?_
        refine AllReadyH.cons rfl (fun K hK => ?_) (AllReadyH.cons rfl (fun K hK => ?_) AllReadyH.nil)
        · obtain ⟨a8, k8, u0_4_3, hr, hs8⟩ := (unhide T0_4).appG (unhide RG) (unhide LG) (by omega) cg
          have T0_4_3 := hide hs8
          clear hs8
          refine us_stepApp rfl (.tmp 5) (.tmp 7) 26 rfl _ _ (.slice a8 n k8) u0_4_3 (by first | rfl | (simp [Act.eval]; done) | (simp [Act.eval, Act.put]; done)) (by first | rfl | (simp [Act.eval]; done) | (simp [Act.eval, Act.put]; done)) hr ?_
          clear hr
          refine hK.out _ _ (unhide SK _ (unhide T0_4_3).bel) (fun hHeld => ?_)
          clear hK K
          refine wpAnyH_ready (rs := [7, 9]) (by kernel_rfl) (by simp) ?_
          refine AllReadyH.cons rfl (fun K hK => ?_) (AllReadyH.cons rfl (fun K hK => ?_) AllReadyH.nil)
          · obtain ⟨a12, k12, u0_4_3_7, hr, hs8⟩ := (unhide T0_4_3).appI (unhide RI) (by omega) ci
            have T0_4_3_7 := hide hs8
            clear hs8
            refine us_stepApp rfl (.tmp 9) (.tmp 11) 27 rfl _ _ (.slice a12 m k12) u0_4_3_7 (by first | rfl | (simp [Act.eval]; done) | (simp [Act.eval, Act.put]; done)) (by first | rfl | (simp [Act.eval]; done) | (simp [Act.eval, Act.put]; done)) hr ?_
            clear hr
            refine hK.out _ _ (unhide SK _ (unhide T0_4_3_7).bel) (fun hHeld => ?_)
            clear hK K
            refine anyH_take 8 13 (v := ?v8) rfl rfl (by kernel_rfl) (by kernel_rfl) (by kernel_rfl) (fun _ _ _ h => h) (by rfl) ?h8 hHeld ?r8
            case h8 => (intro w hSw; (try dsimp only at hSw); go_simp; try (with_reducible rfl))
            simp only [Act.put, List.setIfInBounds_toArray]
            refine wpAnyH_ready (rs := [9]) (by kernel_rfl) (by simp) ?_
            refine AllReadyH.cons rfl (fun K hK => ?_) AllReadyH.nil
            have T0_4_3_7_9 := hide (unhide T0_4_3_7).litT
            go_simp
            generalize u0_4_3_7.alloc (.cells #[.slice none 0 0, .slice none 0 0, .slice none 0 0] 29) = u0_4_3_7_9 at *
            generalize u0_4_3_7.heap.size = tb at *
            refine hK.out _ _ (unhide SK _ (unhide T0_4_3_7_9).bel) (fun hHeld => ?_)
            clear hK K
            refine wpAnyH_ready (rs := [10]) (by kernel_rfl) (by simp) ?_
            refine AllReadyH.cons rfl (fun K hK => ?_) AllReadyH.nil
            obtain ⟨hT3, hb3⟩ := tg_store ((unhide T0_4_3_7_9).t tb rfl).2 (show _ from (unhide T0_4_3_7_9).g (.slice a8 n k8) true rfl) (show JOwns _ _ _ idx from (unhide T0_4_3_7_9).i (.slice a12 m k12) true rfl) ((unhide T0_4_3_7_9).t tb rfl).1 (unhide T0_4_3_7_9).bel.size
            have y0 := (heap_at ((unhide T0_4_3_7_9).t tb rfl).2 0).1
            have y1 := (heap_at ((unhide T0_4_3_7_9).t tb rfl).2 1).1
            have y2 := (heap_at ((unhide T0_4_3_7_9).t tb rfl).2 2).1
            have x0 := (heap_at ((unhide T0_4_3_7_9).t tb rfl).2 0).2
            have x1 := (heap_at ((unhide T0_4_3_7_9).t tb rfl).2 1).2
            have x2 := (heap_at ((unhide T0_4_3_7_9).t tb rfl).2 2).2
            have TF := hide hT3
            have htb := ((unhide T0_4_3_7_9).t tb rfl).1
            have BF := hide ((unhide T0_4_3_7_9).bel.trans hb3)
            clear hT3 hb3
            go_simp
            refine hK.out _ _ (unhide SK _ (unhide BF)) (fun hHeld => ?_)
            clear hK K
            refine wpAnyH_done (by kernel_rfl) ?_ _
            go_wp2_with fail
            go_meet
            case rel => exact ⟨tb, a8, k8, a12, k12, rfl, htb, TF, unhide BF⟩
          · have T0_4_3_9 := hide (unhide T0_4_3).litT
            go_simp
            generalize u0_4_3.alloc (.cells #[.slice none 0 0, .slice none 0 0, .slice none 0 0] 29) = u0_4_3_9 at *
            generalize u0_4_3.heap.size = tb at *
            refine hK.out _ _ (unhide SK _ (unhide T0_4_3_9).bel) (fun hHeld => ?_)
            clear hK K
            refine wpAnyH_ready (rs := [7]) (by kernel_rfl) (by simp) ?_
            refine AllReadyH.cons rfl (fun K hK => ?_) AllReadyH.nil
            obtain ⟨a12, k12, u0_4_3_9_7, hr, hs8⟩ := (unhide T0_4_3_9).appI (unhide RI) (by omega) ci
            have T0_4_3_9_7 := hide hs8
            clear hs8
            refine us_stepApp rfl (.tmp 9) (.tmp 11) 27 rfl _ _ (.slice a12 m k12) u0_4_3_9_7 (by first | rfl | (simp [Act.eval]; done) | (simp [Act.eval, Act.put]; done)) (by first | rfl | (simp [Act.eval]; done) | (simp [Act.eval, Act.put]; done)) hr ?_
            clear hr
            refine hK.out _ _ (unhide SK _ (unhide T0_4_3_9_7).bel) (fun hHeld => ?_)
            clear hK K
            refine anyH_take 8 13 (v := ?v9) rfl rfl (by kernel_rfl) (by kernel_rfl) (by kernel_rfl) (fun _ _ _ h => h) (by rfl) ?h9 hHeld ?r9
            case h9 => (intro w hSw; (try dsimp only at hSw); go_simp; try (with_reducible rfl))
            simp only [Act.put, List.setIfInBounds_toArray]
            refine wpAnyH_ready (rs := [10]) (by kernel_rfl) (by simp) ?_
            refine AllReadyH.cons rfl (fun K hK => ?_) AllReadyH.nil
            obtain ⟨hT3, hb3⟩ := tg_store ((unhide T0_4_3_9_7).t tb rfl).2 (show _ from (unhide T0_4_3_9_7).g (.slice a8 n k8) true rfl) (show JOwns _ _ _ idx from (unhide T0_4_3_9_7).i (.slice a12 m k12) true rfl) ((unhide T0_4_3_9_7).t tb rfl).1 (unhide T0_4_3_9_7).bel.size
            have y0 := (heap_at ((unhide T0_4_3_9_7).t tb rfl).2 0).1
            have y1 := (heap_at ((unhide T0_4_3_9_7).t tb rfl).2 1).1
            have y2 := (heap_at ((unhide T0_4_3_9_7).t tb rfl).2 2).1
            have x0 := (heap_at ((unhide T0_4_3_9_7).t tb rfl).2 0).2
            have x1 := (heap_at ((unhide T0_4_3_9_7).t tb rfl).2 1).2
            have x2 := (heap_at ((unhide T0_4_3_9_7).t tb rfl).2 2).2
            have TF := hide hT3
            have htb := ((unhide T0_4_3_9_7).t tb rfl).1
            have BF := hide ((unhide T0_4_3_9_7).bel.trans hb3)
            clear hT3 hb3
            go_simp
            refine hK.out _ _ (unhide SK _ (unhide BF)) (fun hHeld => ?_)
            clear hK K
            refine wpAnyH_done (by kernel_rfl) ?_ _
            go_wp2_with fail
            go_meet
            case rel => exact ⟨tb, a8, k8, a12, k12, rfl, htb, TF, unhide BF⟩
        · have T0_4_9 := hide (unhide T0_4).litT
          go_simp
          generalize u0_4.alloc (.cells #[.slice none 0 0, .slice none 0 0, .slice none 0 0] 29) = u0_4_9 at *
          generalize u0_4.heap.size = tb at *
          refine hK.out _ _ (unhide SK _ (unhide T0_4_9).bel) (fun hHeld => ?_)
          clear hK K
          refine wpAnyH_ready (rs := [3]) (by kernel_rfl) (by simp) ?_
          refine AllReadyH.cons rfl (fun K hK => ?_) AllReadyH.nil
          obtain ⟨a8, k8, u0_4_9_3, hr, hs8⟩ := (unhide T0_4_9).appG (unhide RG) (unhide LG) (by omega) cg
          have T0_4_9_3 := hide hs8
          clear hs8
          refine us_stepApp rfl (.tmp 5) (.tmp 7) 26 rfl _ _ (.slice a8 n k8) u0_4_9_3 (by first | rfl | (simp [Act.eval]; done) | (simp [Act.eval, Act.put]; done)) (by first | rfl | (simp [Act.eval]; done) | (simp [Act.eval, Act.put]; done)) hr ?_
          clear hr
          refine hK.out _ _ (unhide SK _ (unhide T0_4_9_3).bel) (fun hHeld => ?_)
          clear hK K
          refine wpAnyH_ready (rs := [7]) (by kernel_rfl) (by simp) ?_
          refine AllReadyH.cons rfl (fun K hK => ?_) AllReadyH.nil
          obtain ⟨a12, k12, u0_4_9_3_7, hr, hs8⟩ := (unhide T0_4_9_3).appI (unhide RI) (by omega) ci
          have T0_4_9_3_7 := hide hs8
          clear hs8
          refine us_stepApp rfl (.tmp 9) (.tmp 11) 27 rfl _ _ (.slice a12 m k12) u0_4_9_3_7 (by first | rfl | (simp [Act.eval]; done) | (simp [Act.eval, Act.put]; done)) (by first | rfl | (simp [Act.eval]; done) | (simp [Act.eval, Act.put]; done)) hr ?_
          clear hr
          refine hK.out _ _ (unhide SK _ (unhide T0_4_9_3_7).bel) (fun hHeld => ?_)
          clear hK K
          refine anyH_take 8 13 (v := ?v10) rfl rfl (by kernel_rfl) (by kernel_rfl) (by kernel_rfl) (fun _ _ _ h => h) (by rfl) ?h10 hHeld ?r10
          case h10 => (intro w hSw; (try dsimp only at hSw); go_simp; try (with_reducible rfl))
          simp only [Act.put, List.setIfInBounds_toArray]
          refine wpAnyH_ready (rs := [10]) (by kernel_rfl) (by simp) ?_
          refine AllReadyH.cons rfl (fun K hK => ?_) AllReadyH.nil
          obtain ⟨hT3, hb3⟩ := tg_store ((unhide T0_4_9_3_7).t tb rfl).2 (show _ from (unhide T0_4_9_3_7).g (.slice a8 n k8) true rfl) (show JOwns _ _ _ idx from (unhide T0_4_9_3_7).i (.slice a12 m k12) true rfl) ((unhide T0_4_9_3_7).t tb rfl).1 (unhide T0_4_9_3_7).bel.size
          have y0 := (heap_at ((unhide T0_4_9_3_7).t tb rfl).2 0).1
          have y1 := (heap_at ((unhide T0_4_9_3_7).t tb rfl).2 1).1
          have y2 := (heap_at ((unhide T0_4_9_3_7).t tb rfl).2 2).1
          have x0 := (heap_at ((unhide T0_4_9_3_7).t tb rfl).2 0).2
          have x1 := (heap_at ((unhide T0_4_9_3_7).t tb rfl).2 1).2
          have x2 := (heap_at ((unhide T0_4_9_3_7).t tb rfl).2 2).2
          have TF := hide hT3
          have htb := ((unhide T0_4_9_3_7).t tb rfl).1
          have BF := hide ((unhide T0_4_9_3_7).bel.trans hb3)
          clear hT3 hb3
          go_simp
          refine hK.out _ _ (unhide SK _ (unhide BF)) (fun hHeld => ?_)
          clear hK K
          refine wpAnyH_done (by kernel_rfl) ?_ _
          go_wp2_with fail
          go_meet
          case rel => exact ⟨tb, a8, k8, a12, k12, rfl, htb, TF, unhide BF⟩
      · have T0_9 := hide (unhide T0).litT
        go_simp
        generalize u0.alloc (.cells #[.slice none 0 0, .slice none 0 0, .slice none 0 0] 29) = u0_9 at *
        generalize u0.heap.size = tb at *
        refine hK.out _ _ (unhide SK _ (unhide T0_9).bel) (fun hHeld => ?_)
        clear hK K
        refine wpAnyH_ready (rs := [3, 4]) (by kernel_rfl) (by simp) ?_
        refine AllReadyH.cons rfl (fun K hK => ?_) (AllReadyH.cons rfl (fun K hK => ?_) AllReadyH.nil)
        · obtain ⟨a8, k8, u0_9_3, hr, hs8⟩ := (unhide T0_9).appG (unhide RG) (unhide LG) (by omega) cg
          have T0_9_3 := hide hs8
          clear hs8
          refine us_stepApp rfl (.tmp 5) (.tmp 7) 26 rfl _ _ (.slice a8 n k8) u0_9_3 (by first | rfl | (simp [Act.eval]; done) | (simp [Act.eval, Act.put]; done)) (by first | rfl | (simp [Act.eval]; done) | (simp [Act.eval, Act.put]; done)) hr ?_
          clear hr
          refine hK.out _ _ (unhide SK _ (unhide T0_9_3).bel) (fun hHeld => ?_)
          clear hK K
          refine wpAnyH_ready (rs := [4]) (by kernel_rfl) (by simp) ?_
          refine AllReadyH.cons rfl (fun K hK => ?_) AllReadyH.nil
          have T0_9_3_4 := hide (unhide T0_9_3).litI
          go_simp
          generalize u0_9_3.alloc (.cells #[] 69) = u0_9_3_4 at *
          generalize u0_9_3.heap.size = g9 at *
          refine hK.out _ _ (unhide SK _ (unhide T0_9_3_4).bel) (fun hHeld => ?_)
          clear hK K
          refine wpAnyH_ready (rs := [7]) (by kernel_rfl) (by simp) ?_
          refine AllReadyH.cons rfl (fun K hK => ?_) AllReadyH.nil
          obtain ⟨a12, k12, u0_9_3_4_7, hr, hs8⟩ := (unhide T0_9_3_4).appI (unhide RI) (by omega) ci
          have T0_9_3_4_7 := hide hs8
          clear hs8
          refine us_stepApp rfl (.tmp 9) (.tmp 11) 27 rfl _ _ (.slice a12 m k12) u0_9_3_4_7 (by first | rfl | (simp [Act.eval]; done) | (simp [Act.eval, Act.put]; done)) (by first | rfl | (simp [Act.eval]; done) | (simp [Act.eval, Act.put]; done)) hr ?_
          clear hr
          refine hK.out _ _ (unhide SK _ (unhide T0_9_3_4_7).bel) (fun hHeld => ?_)
          clear hK K
          refine anyH_take 8 13 (v := ?v11) rfl rfl (by kernel_rfl) (by kernel_rfl) (by kernel_rfl) (fun _ _ _ h => h) (by rfl) ?h11 hHeld ?r11
          case h11 => (intro w hSw; (try dsimp only at hSw); go_simp; try (with_reducible rfl))
          simp only [Act.put, List.setIfInBounds_toArray]
          refine wpAnyH_ready (rs := [10]) (by kernel_rfl) (by simp) ?_
          refine AllReadyH.cons rfl (fun K hK => ?_) AllReadyH.nil
          obtain ⟨hT3, hb3⟩ := tg_store ((unhide T0_9_3_4_7).t tb rfl).2 (show _ from (unhide T0_9_3_4_7).g (.slice a8 n k8) true rfl) (show JOwns _ _ _ idx from (unhide T0_9_3_4_7).i (.slice a12 m k12) true rfl) ((unhide T0_9_3_4_7).t tb rfl).1 (unhide T0_9_3_4_7).bel.size
          have y0 := (heap_at ((unhide T0_9_3_4_7).t tb rfl).2 0).1
          have y1 := (heap_at ((unhide T0_9_3_4_7).t tb rfl).2 1).1
          have y2 := (heap_at ((unhide T0_9_3_4_7).t tb rfl).2 2).1
          have x0 := (heap_at ((unhide T0_9_3_4_7).t tb rfl).2 0).2
          have x1 := (heap_at ((unhide T0_9_3_4_7).t tb rfl).2 1).2
          have x2 := (heap_at ((unhide T0_9_3_4_7).t tb rfl).2 2).2
          have TF := hide hT3
          have htb := ((unhide T0_9_3_4_7).t tb rfl).1
          have BF := hide ((unhide T0_9_3_4_7).bel.trans hb3)
          clear hT3 hb3
          go_simp
          refine hK.out _ _ (unhide SK _ (unhide BF)) (fun hHeld => ?_)
          clear hK K
          refine wpAnyH_done (by kernel_rfl) ?_ _
          go_wp2_with fail
          go_meet
          case rel => exact ⟨tb, a8, k8, a12, k12, rfl, htb, TF, unhide BF⟩
        · have T0_9_4 := hide (unhide T0_9).litI
          go_simp
          generalize u0_9.alloc (.cells #[] 69) = u0_9_4 at *
          generalize u0_9.heap.size = g9 at *
          refine hK.out _ _ (unhide SK _ (unhide T0_9_4).bel) (fun hHeld => ?_)
          clear hK K
          refine wpAnyH_ready (rs := [3]) (by kernel_rfl) (by simp) ?_
          refine AllReadyH.cons rfl (fun K hK => ?_) AllReadyH.nil
          obtain ⟨a8, k8, u0_9_4_3, hr, hs8⟩ := (unhide T0_9_4).appG (unhide RG) (unhide LG) (by omega) cg
          have T0_9_4_3 := hide hs8
          clear hs8
          refine us_stepApp rfl (.tmp 5) (.tmp 7) 26 rfl _ _ (.slice a8 n k8) u0_9_4_3 (by first | rfl | (simp [Act.eval]; done) | (simp [Act.eval, Act.put]; done)) (by first | rfl | (simp [Act.eval]; done) | (simp [Act.eval, Act.put]; done)) hr ?_
          clear hr
          refine hK.out _ _ (unhide SK _ (unhide T0_9_4_3).bel) (fun hHeld => ?_)
          clear hK K
          refine wpAnyH_ready (rs := [7]) (by kernel_rfl) (by simp) ?_
          refine AllReadyH.cons rfl (fun K hK => ?_) AllReadyH.nil
          obtain ⟨a12, k12, u0_9_4_3_7, hr, hs8⟩ := (unhide T0_9_4_3).appI (unhide RI) (by omega) ci
          have T0_9_4_3_7 := hide hs8
          clear hs8
          refine us_stepApp rfl (.tmp 9) (.tmp 11) 27 rfl _ _ (.slice a12 m k12) u0_9_4_3_7 (by first | rfl | (simp [Act.eval]; done) | (simp [Act.eval, Act.put]; done)) (by first | rfl | (simp [Act.eval]; done) | (simp [Act.eval, Act.put]; done)) hr ?_
          clear hr
          refine hK.out _ _ (unhide SK _ (unhide T0_9_4_3_7).bel) (fun hHeld => ?_)
          clear hK K
          refine anyH_take 8 13 (v := ?v12) rfl rfl (by kernel_rfl) (by kernel_rfl) (by kernel_rfl) (fun _ _ _ h => h) (by rfl) ?h12 hHeld ?r12
          case h12 => (intro w hSw; (try dsimp only at hSw); go_simp; try (with_reducible rfl))
          simp only [Act.put, List.setIfInBounds_toArray]
          refine wpAnyH_ready (rs := [10]) (by kernel_rfl) (by simp) ?_
          refine AllReadyH.cons rfl (fun K hK => ?_) AllReadyH.nil
          obtain ⟨hT3, hb3⟩ := tg_store ((unhide T0_9_4_3_7).t tb rfl).2 (show _ from (unhide T0_9_4_3_7).g (.slice a8 n k8) true rfl) (show JOwns _ _ _ idx from (unhide T0_9_4_3_7).i (.slice a12 m k12) true rfl) ((unhide T0_9_4_3_7).t tb rfl).1 (unhide T0_9_4_3_7).bel.size
          have y0 := (heap_at ((unhide T0_9_4_3_7).t tb rfl).2 0).1
          have y1 := (heap_at ((unhide T0_9_4_3_7).t tb rfl).2 1).1
          have y2 := (heap_at ((unhide T0_9_4_3_7).t tb rfl).2 2).1
          have x0 := (heap_at ((unhide T0_9_4_3_7).t tb rfl).2 0).2
          have x1 := (heap_at ((unhide T0_9_4_3_7).t tb rfl).2 1).2
          have x2 := (heap_at ((unhide T0_9_4_3_7).t tb rfl).2 2).2
          have TF := hide hT3
          have htb := ((unhide T0_9_4_3_7).t tb rfl).1
          have BF := hide ((unhide T0_9_4_3_7).bel.trans hb3)
          clear hT3 hb3
          go_simp
          refine hK.out _ _ (unhide SK _ (unhide BF)) (fun hHeld => ?_)
          clear hK K
          refine wpAnyH_done (by kernel_rfl) ?_ _
          go_wp2_with fail
          go_meet
          case rel => exact ⟨tb, a8, k8, a12, k12, rfl, htb, TF, unhide BF⟩
    · have T4 := hide (unhide T0).litI
      go_simp
      generalize u0.alloc (.cells #[] 69) = u4 at *
      generalize u0.heap.size = g9 at *
      refine hK.out _ _ (unhide SK _ (unhide T4).bel) (fun hHeld => ?_)
      clear hK K
      refine wpAnyH_ready (rs := [0, 9]) (by kernel_rfl) (by simp) ?_
      refine AllReadyH.cons rfl (fun K hK => ?_) (AllReadyH.cons rfl (fun K hK => ?_) AllReadyH.nil)
      · have T4_0 := hide (unhide T4).litG
        go_simp
        generalize u4.alloc (.cells #[] 4) = u4_0 at *
        generalize u4.heap.size = g5 at *
        refine hK.out _ _ (unhide SK _ (unhide T4_0).bel) (fun hHeld => ?_)
        clear hK K
        refine wpAnyH_ready (rs := [3, 9]) (by kernel_rfl) (by simp) ?_
        refine AllReadyH.cons rfl (fun K hK => ?_) (AllReadyH.cons rfl (fun K hK => ?_) AllReadyH.nil)
        · obtain ⟨a8, k8, u4_0_3, hr, hs8⟩ := (unhide T4_0).appG (unhide RG) (unhide LG) (by omega) cg
          have T4_0_3 := hide hs8
          clear hs8
          refine us_stepApp rfl (.tmp 5) (.tmp 7) 26 rfl _ _ (.slice a8 n k8) u4_0_3 (by first | rfl | (simp [Act.eval]; done) | (simp [Act.eval, Act.put]; done)) (by first | rfl | (simp [Act.eval]; done) | (simp [Act.eval, Act.put]; done)) hr ?_
          clear hr
          refine hK.out _ _ (unhide SK _ (unhide T4_0_3).bel) (fun hHeld => ?_)
          clear hK K
          refine wpAnyH_ready (rs := [7, 9]) (by kernel_rfl) (by simp) ?_
          refine AllReadyH.cons rfl (fun K hK => ?_) (AllReadyH.cons rfl (fun K hK => ?_) AllReadyH.nil)
          · obtain ⟨a12, k12, u4_0_3_7, hr, hs8⟩ := (unhide T4_0_3).appI (unhide RI) (by omega) ci
            have T4_0_3_7 := hide hs8
            clear hs8
            refine us_stepApp rfl (.tmp 9) (.tmp 11) 27 rfl _ _ (.slice a12 m k12) u4_0_3_7 (by first | rfl | (simp [Act.eval]; done) | (simp [Act.eval, Act.put]; done)) (by first | rfl | (simp [Act.eval]; done) | (simp [Act.eval, Act.put]; done)) hr ?_
            clear hr
            refine hK.out _ _ (unhide SK _ (unhide T4_0_3_7).bel) (fun hHeld => ?_)
            clear hK K
            refine anyH_take 8 13 (v := ?v13) rfl rfl (by kernel_rfl) (by kernel_rfl) (by kernel_rfl) (fun _ _ _ h => h) (by rfl) ?h13 hHeld ?r13
            case h13 => (intro w hSw; (try dsimp only at hSw); go_simp; try (with_reducible rfl))
            simp only [Act.put, List.setIfInBounds_toArray]
            refine wpAnyH_ready (rs := [9]) (by kernel_rfl) (by simp) ?_
            refine AllReadyH.cons rfl (fun K hK => ?_) AllReadyH.nil
            have T4_0_3_7_9 := hide (unhide T4_0_3_7).litT
            go_simp
            generalize u4_0_3_7.alloc (.cells #[.slice none 0 0, .slice none 0 0, .slice none 0 0] 29) = u4_0_3_7_9 at *
            generalize u4_0_3_7.heap.size = tb at *
            refine hK.out _ _ (unhide SK _ (unhide T4_0_3_7_9).bel) (fun hHeld => ?_)
            clear hK K
            refine wpAnyH_ready (rs := [10]) (by kernel_rfl) (by simp) ?_
            refine AllReadyH.cons rfl (fun K hK => ?_) AllReadyH.nil
            obtain ⟨hT3, hb3⟩ := tg_store ((unhide T4_0_3_7_9).t tb rfl).2 (show _ from (unhide T4_0_3_7_9).g (.slice a8 n k8) true rfl) (show JOwns _ _ _ idx from (unhide T4_0_3_7_9).i (.slice a12 m k12) true rfl) ((unhide T4_0_3_7_9).t tb rfl).1 (unhide T4_0_3_7_9).bel.size
            have y0 := (heap_at ((unhide T4_0_3_7_9).t tb rfl).2 0).1
            have y1 := (heap_at ((unhide T4_0_3_7_9).t tb rfl).2 1).1
            have y2 := (heap_at ((unhide T4_0_3_7_9).t tb rfl).2 2).1
            have x0 := (heap_at ((unhide T4_0_3_7_9).t tb rfl).2 0).2
            have x1 := (heap_at ((unhide T4_0_3_7_9).t tb rfl).2 1).2
            have x2 := (heap_at ((unhide T4_0_3_7_9).t tb rfl).2 2).2
            have TF := hide hT3
            have htb := ((unhide T4_0_3_7_9).t tb rfl).1
            have BF := hide ((unhide T4_0_3_7_9).bel.trans hb3)
            clear hT3 hb3
            go_simp
            refine hK.out _ _ (unhide SK _ (unhide BF)) (fun hHeld => ?_)
            clear hK K
            refine wpAnyH_done (by kernel_rfl) ?_ _
            go_wp2_with fail
            go_meet
            case rel => exact ⟨tb, a8, k8, a12, k12, rfl, htb, TF, unhide BF⟩
          · have T4_0_3_9 := hide (unhide T4_0_3).litT
            go_simp
            generalize u4_0_3.alloc (.cells #[.slice none 0 0, .slice none 0 0, .slice none 0 0] 29) = u4_0_3_9 at *
            generalize u4_0_3.heap.size = tb at *
            refine hK.out _ _ (unhide SK _ (unhide T4_0_3_9).bel) (fun hHeld => ?_)
            clear hK K
            refine wpAnyH_ready (rs := [7]) (by kernel_rfl) (by simp) ?_
            refine AllReadyH.cons rfl (fun K hK => ?_) AllReadyH.nil
            obtain ⟨a12, k12, u4_0_3_9_7, hr, hs8⟩ := (unhide T4_0_3_9).appI (unhide RI) (by omega) ci
            have T4_0_3_9_7 := hide hs8
            clear hs8
            refine us_stepApp rfl (.tmp 9) (.tmp 11) 27 rfl _ _ (.slice a12 m k12) u4_0_3_9_7 (by first | rfl | (simp [Act.eval]; done) | (simp [Act.eval, Act.put]; done)) (by first | rfl | (simp [Act.eval]; done) | (simp [Act.eval, Act.put]; done)) hr ?_
            clear hr
            refine hK.out _ _ (unhide SK _ (unhide T4_0_3_9_7).bel) (fun hHeld => ?_)
            clear hK K
            refine anyH_take 8 13 (v := ?v14) rfl rfl (by kernel_rfl) (by kernel_rfl) (by kernel_rfl) (fun _ _ _ h => h) (by rfl) ?h14 hHeld ?r14
            case h14 => (intro w hSw; (try dsimp only at hSw); go_simp; try (with_reducible rfl))
            simp only [Act.put, List.setIfInBounds_toArray]
            refine wpAnyH_ready (rs := [10]) (by kernel_rfl) (by simp) ?_
            refine AllReadyH.cons rfl (fun K hK => ?_) AllReadyH.nil
            obtain ⟨hT3, hb3⟩ := tg_store ((unhide T4_0_3_9_7).t tb rfl).2 (show _ from (unhide T4_0_3_9_7).g (.slice a8 n k8) true rfl) (show JOwns _ _ _ idx from (unhide T4_0_3_9_7).i (.slice a12 m k12) true rfl) ((unhide T4_0_3_9_7).t tb rfl).1 (unhide T4_0_3_9_7).bel.size
            have y0 := (heap_at ((unhide T4_0_3_9_7).t tb rfl).2 0).1
            have y1 := (heap_at ((unhide T4_0_3_9_7).t tb rfl).2 1).1
            have y2 := (heap_at ((unhide T4_0_3_9_7).t tb rfl).2 2).1
            have x0 := (heap_at ((unhide T4_0_3_9_7).t tb rfl).2 0).2
            have x1 := (heap_at ((unhide T4_0_3_9_7).t tb rfl).2 1).2
            have x2 := (heap_at ((unhide T4_0_3_9_7).t tb rfl).2 2).2
            have TF := hide hT3
            have htb := ((unhide T4_0_3_9_7).t tb rfl).1
            have BF := hide ((unhide T4_0_3_9_7).bel.trans hb3)
            clear hT3 hb3
            go_simp
            refine hK.out _ _ (unhide SK _ (unhide BF)) (fun hHeld => ?_)
            clear hK K
            refine wpAnyH_done (by kernel_rfl) ?_ _
            go_wp2_with fail
            go_meet
            case rel => exact ⟨tb, a8, k8, a12, k12, rfl, htb, TF, unhide BF⟩
        · have T4_0_9 := hide (unhide T4_0).litT
          go_simp
          generalize u4_0.alloc (.cells #[.slice none 0 0, .slice none 0 0, .slice none 0 0] 29) = u4_0_9 at *
          generalize u4_0.heap.size = tb at *
          refine hK.out _ _ (unhide SK _ (unhide T4_0_9).bel) (fun hHeld => ?_)
          clear hK K
          refine wpAnyH_ready (rs := [3]) (by kernel_rfl) (by simp) ?_
          refine AllReadyH.cons rfl (fun K hK => ?_) AllReadyH.nil
          obtain ⟨a8, k8, u4_0_9_3, hr, hs8⟩ := (unhide T4_0_9).appG (unhide RG) (unhide LG) (by omega) cg
          have T4_0_9_3 := hide hs8
          clear hs8
          refine us_stepApp rfl (.tmp 5) (.tmp 7) 26 rfl _ _ (.slice a8 n k8) u4_0_9_3 (by first | rfl | (simp [Act.eval]; done) | (simp [Act.eval, Act.put]; done)) (by first | rfl | (simp [Act.eval]; done) | (simp [Act.eval, Act.put]; done)) hr ?_
          clear hr
          refine hK.out _ _ (unhide SK _ (unhide T4_0_9_3).bel) (fun hHeld => ?_)
          clear hK K
          refine wpAnyH_ready (rs := [7]) (by kernel_rfl) (by simp) ?_
          refine AllReadyH.cons rfl (fun K hK => ?_) AllReadyH.nil
          obtain ⟨a12, k12, u4_0_9_3_7, hr, hs8⟩ := (unhide T4_0_9_3).appI (unhide RI) (by omega) ci
          have T4_0_9_3_7 := hide hs8
          clear hs8
          refine us_stepApp rfl (.tmp 9) (.tmp 11) 27 rfl _ _ (.slice a12 m k12) u4_0_9_3_7 (by first | rfl | (simp [Act.eval]; done) | (simp [Act.eval, Act.put]; done)) (by first | rfl | (simp [Act.eval]; done) | (simp [Act.eval, Act.put]; done)) hr ?_
          clear hr
          refine hK.out _ _ (unhide SK _ (unhide T4_0_9_3_7).bel) (fun hHeld => ?_)
          clear hK K
          refine anyH_take 8 13 (v := ?v15) rfl rfl (by kernel_rfl) (by kernel_rfl) (by kernel_rfl) (fun _ _ _ h => h) (by rfl) ?h15 hHeld ?r15
          case h15 => (intro w hSw; (try dsimp only at hSw); go_simp; try (with_reducible rfl))
          simp only [Act.put, List.setIfInBounds_toArray]
          refine wpAnyH_ready (rs := [10]) (by kernel_rfl) (by simp) ?_
          refine AllReadyH.cons rfl (fun K hK => ?_) AllReadyH.nil
          obtain ⟨hT3, hb3⟩ := tg_store ((unhide T4_0_9_3_7).t tb rfl).2 (show _ from (unhide T4_0_9_3_7).g (.slice a8 n k8) true rfl) (show JOwns _ _ _ idx from (unhide T4_0_9_3_7).i (.slice a12 m k12) true rfl) ((unhide T4_0_9_3_7).t tb rfl).1 (unhide T4_0_9_3_7).bel.size
          have y0 := (heap_at ((unhide T4_0_9_3_7).t tb rfl).2 0).1
          have y1 := (heap_at ((unhide T4_0_9_3_7).t tb rfl).2 1).1
          have y2 := (heap_at ((unhide T4_0_9_3_7).t tb rfl).2 2).1
          have x0 := (heap_at ((unhide T4_0_9_3_7).t tb rfl).2 0).2
          have x1 := (heap_at ((unhide T4_0_9_3_7).t tb rfl).2 1).2
          have x2 := (heap_at ((unhide T4_0_9_3_7).t tb rfl).2 2).2
          have TF := hide hT3
          have htb := ((unhide T4_0_9_3_7).t tb rfl).1
          have BF := hide ((unhide T4_0_9_3_7).bel.trans hb3)
          clear hT3 hb3
          go_simp
          refine hK.out _ _ (unhide SK _ (unhide BF)) (fun hHeld => ?_)
          clear hK K
          refine wpAnyH_done (by kernel_rfl) ?_ _
          go_wp2_with fail
          go_meet
          case rel => exact ⟨tb, a8, k8, a12, k12, rfl, htb, TF, unhide BF⟩
      · have T4_9 := hide (unhide T4).litT
        go_simp
        generalize u4.alloc (.cells #[.slice none 0 0, .slice none 0 0, .slice none 0 0] 29) = u4_9 at *
        generalize u4.heap.size = tb at *
        refine hK.out _ _ (unhide SK _ (unhide T4_9).bel) (fun hHeld => ?_)
        clear hK K
        refine wpAnyH_ready (rs := [0]) (by kernel_rfl) (by simp) ?_
        refine AllReadyH.cons rfl (fun K hK => ?_) AllReadyH.nil
        have T4_9_0 := hide (unhide T4_9).litG
        go_simp
        generalize u4_9.alloc (.cells #[] 4) = u4_9_0 at *
        generalize u4_9.heap.size = g5 at *
        refine hK.out _ _ (unhide SK _ (unhide T4_9_0).bel) (fun hHeld => ?_)
        clear hK K
        refine wpAnyH_ready (rs := [3]) (by kernel_rfl) (by simp) ?_
        refine AllReadyH.cons rfl (fun K hK => ?_) AllReadyH.nil
        obtain ⟨a8, k8, u4_9_0_3, hr, hs8⟩ := (unhide T4_9_0).appG (unhide RG) (unhide LG) (by omega) cg
        have T4_9_0_3 := hide hs8
        clear hs8
        refine us_stepApp rfl (.tmp 5) (.tmp 7) 26 rfl _ _ (.slice a8 n k8) u4_9_0_3 (by first | rfl | (simp [Act.eval]; done) | (simp [Act.eval, Act.put]; done)) (by first | rfl | (simp [Act.eval]; done) | (simp [Act.eval, Act.put]; done)) hr ?_
        clear hr
        refine hK.out _ _ (unhide SK _ (unhide T4_9_0_3).bel) (fun hHeld => ?_)
        clear hK K
        refine wpAnyH_ready (rs := [7]) (by kernel_rfl) (by simp) ?_
        refine AllReadyH.cons rfl (fun K hK => ?_) AllReadyH.nil
        obtain ⟨a12, k12, u4_9_0_3_7, hr, hs8⟩ := (unhide T4_9_0_3).appI (unhide RI) (by omega) ci
        have T4_9_0_3_7 := hide hs8
        clear hs8
        refine us_stepApp rfl (.tmp 9) (.tmp 11) 27 rfl _ _ (.slice a12 m k12) u4_9_0_3_7 (by first | rfl | (simp [Act.eval]; done) | (simp [Act.eval, Act.put]; done)) (by first | rfl | (simp [Act.eval]; done) | (simp [Act.eval, Act.put]; done)) hr ?_
        clear hr
        refine hK.out _ _ (unhide SK _ (unhide T4_9_0_3_7).bel) (fun hHeld => ?_)
        clear hK K
        refine anyH_take 8 13 (v := ?v16) rfl rfl (by kernel_rfl) (by kernel_rfl) (by kernel_rfl) (fun _ _ _ h => h) (by rfl) ?h16 hHeld ?r16
        case h16 => (intro w hSw; (try dsimp only at hSw); go_simp; try (with_reducible rfl))
        simp only [Act.put, List.setIfInBounds_toArray]
        refine wpAnyH_ready (rs := [10]) (by kernel_rfl) (by simp) ?_
        refine AllReadyH.cons rfl (fun K hK => ?_) AllReadyH.nil
        obtain ⟨hT3, hb3⟩ := tg_store ((unhide T4_9_0_3_7).t tb rfl).2 (show _ from (unhide T4_9_0_3_7).g (.slice a8 n k8) true rfl) (show JOwns _ _ _ idx from (unhide T4_9_0_3_7).i (.slice a12 m k12) true rfl) ((unhide T4_9_0_3_7).t tb rfl).1 (unhide T4_9_0_3_7).bel.size
        have y0 := (heap_at ((unhide T4_9_0_3_7).t tb rfl).2 0).1
        have y1 := (heap_at ((unhide T4_9_0_3_7).t tb rfl).2 1).1
        have y2 := (heap_at ((unhide T4_9_0_3_7).t tb rfl).2 2).1
        have x0 := (heap_at ((unhide T4_9_0_3_7).t tb rfl).2 0).2
        have x1 := (heap_at ((unhide T4_9_0_3_7).t tb rfl).2 1).2
        have x2 := (heap_at ((unhide T4_9_0_3_7).t tb rfl).2 2).2
        have TF := hide hT3
        have htb := ((unhide T4_9_0_3_7).t tb rfl).1
        have BF := hide ((unhide T4_9_0_3_7).bel.trans hb3)
        clear hT3 hb3
        go_simp
        refine hK.out _ _ (unhide SK _ (unhide BF)) (fun hHeld => ?_)
        clear hK K
        refine wpAnyH_done (by kernel_rfl) ?_ _
        go_wp2_with fail
        go_meet
        case rel => exact ⟨tb, a8, k8, a12, k12, rfl, htb, TF, unhide BF⟩
    · have T9 := hide (unhide T0).litT
      go_simp
      generalize u0.alloc (.cells #[.slice none 0 0, .slice none 0 0, .slice none 0 0] 29) = u9 at *
      generalize u0.heap.size = tb at *
      refine hK.out _ _ (unhide SK _ (unhide T9).bel) (fun hHeld => ?_)
      clear hK K
      refine wpAnyH_ready (rs := [0, 4]) (by kernel_rfl) (by simp) ?_
      refine AllReadyH.cons rfl (fun K hK => ?_) (AllReadyH.cons rfl (fun K hK => ?_) AllReadyH.nil)
      · have T9_0 := hide (unhide T9).litG
        go_simp
        generalize u9.alloc (.cells #[] 4) = u9_0 at *
        generalize u9.heap.size = g5 at *
        refine hK.out _ _ (unhide SK _ (unhide T9_0).bel) (fun hHeld => ?_)
        clear hK K
        refine wpAnyH_ready (rs := [3, 4]) (by kernel_rfl) (by simp) ?_
        refine AllReadyH.cons rfl (fun K hK => ?_) (AllReadyH.cons rfl (fun K hK => ?_) AllReadyH.nil)
        · obtain ⟨a8, k8, u9_0_3, hr, hs8⟩ := (unhide T9_0).appG (unhide RG) (unhide LG) (by omega) cg
          have T9_0_3 := hide hs8
          clear hs8
          refine us_stepApp rfl (.tmp 5) (.tmp 7) 26 rfl _ _ (.slice a8 n k8) u9_0_3 (by first | rfl | (simp [Act.eval]; done) | (simp [Act.eval, Act.put]; done)) (by first | rfl | (simp [Act.eval]; done) | (simp [Act.eval, Act.put]; done)) hr ?_
          clear hr
          refine hK.out _ _ (unhide SK _ (unhide T9_0_3).bel) (fun hHeld => ?_)
          clear hK K
          refine wpAnyH_ready (rs := [4]) (by kernel_rfl) (by simp) ?_
          refine AllReadyH.cons rfl (fun K hK => ?_) AllReadyH.nil
          have T9_0_3_4 := hide (unhide T9_0_3).litI
          go_simp
          generalize u9_0_3.alloc (.cells #[] 69) = u9_0_3_4 at *
          generalize u9_0_3.heap.size = g9 at *
          refine hK.out _ _ (unhide SK _ (unhide T9_0_3_4).bel) (fun hHeld => ?_)
          clear hK K
          refine wpAnyH_ready (rs := [7]) (by kernel_rfl) (by simp) ?_
          refine AllReadyH.cons rfl (fun K hK => ?_) AllReadyH.nil
          obtain ⟨a12, k12, u9_0_3_4_7, hr, hs8⟩ := (unhide T9_0_3_4).appI (unhide RI) (by omega) ci
          have T9_0_3_4_7 := hide hs8
          clear hs8
          refine us_stepApp rfl (.tmp 9) (.tmp 11) 27 rfl _ _ (.slice a12 m k12) u9_0_3_4_7 (by first | rfl | (simp [Act.eval]; done) | (simp [Act.eval, Act.put]; done)) (by first | rfl | (simp [Act.eval]; done) | (simp [Act.eval, Act.put]; done)) hr ?_
          clear hr
          refine hK.out _ _ (unhide SK _ (unhide T9_0_3_4_7).bel) (fun hHeld => ?_)
          clear hK K
          refine anyH_take 8 13 (v := ?v17) rfl rfl (by kernel_rfl) (by kernel_rfl) (by kernel_rfl) (fun _ _ _ h => h) (by rfl) ?h17 hHeld ?r17
          case h17 => (intro w hSw; (try dsimp only at hSw); go_simp; try (with_reducible rfl))
          simp only [Act.put, List.setIfInBounds_toArray]
          refine wpAnyH_ready (rs := [10]) (by kernel_rfl) (by simp) ?_
          refine AllReadyH.cons rfl (fun K hK => ?_) AllReadyH.nil
          obtain ⟨hT3, hb3⟩ := tg_store ((unhide T9_0_3_4_7).t tb rfl).2 (show _ from (unhide T9_0_3_4_7).g (.slice a8 n k8) true rfl) (show JOwns _ _ _ idx from (unhide T9_0_3_4_7).i (.slice a12 m k12) true rfl) ((unhide T9_0_3_4_7).t tb rfl).1 (unhide T9_0_3_4_7).bel.size
          have y0 := (heap_at ((unhide T9_0_3_4_7).t tb rfl).2 0).1
          have y1 := (heap_at ((unhide T9_0_3_4_7).t tb rfl).2 1).1
          have y2 := (heap_at ((unhide T9_0_3_4_7).t tb rfl).2 2).1
          have x0 := (heap_at ((unhide T9_0_3_4_7).t tb rfl).2 0).2
          have x1 := (heap_at ((unhide T9_0_3_4_7).t tb rfl).2 1).2
          have x2 := (heap_at ((unhide T9_0_3_4_7).t tb rfl).2 2).2
          have TF := hide hT3
          have htb := ((unhide T9_0_3_4_7).t tb rfl).1
          have BF := hide ((unhide T9_0_3_4_7).bel.trans hb3)
          clear hT3 hb3
          go_simp
          refine hK.out _ _ (unhide SK _ (unhide BF)) (fun hHeld => ?_)
          clear hK K
          refine wpAnyH_done (by kernel_rfl) ?_ _
          go_wp2_with fail
          go_meet
          case rel => exact ⟨tb, a8, k8, a12, k12, rfl, htb, TF, unhide BF⟩
        · have T9_0_4 := hide (unhide T9_0).litI
          go_simp
          generalize u9_0.alloc (.cells #[] 69) = u9_0_4 at *
          generalize u9_0.heap.size = g9 at *
          refine hK.out _ _ (unhide SK _ (unhide T9_0_4).bel) (fun hHeld => ?_)
          clear hK K
          refine wpAnyH_ready (rs := [3]) (by kernel_rfl) (by simp) ?_
          refine AllReadyH.cons rfl (fun K hK => ?_) AllReadyH.nil
          obtain ⟨a8, k8, u9_0_4_3, hr, hs8⟩ := (unhide T9_0_4).appG (unhide RG) (unhide LG) (by omega) cg
          have T9_0_4_3 := hide hs8
          clear hs8
          refine us_stepApp rfl (.tmp 5) (.tmp 7) 26 rfl _ _ (.slice a8 n k8) u9_0_4_3 (by first | rfl | (simp [Act.eval]; done) | (simp [Act.eval, Act.put]; done)) (by first | rfl | (simp [Act.eval]; done) | (simp [Act.eval, Act.put]; done)) hr ?_
          clear hr
          refine hK.out _ _ (unhide SK _ (unhide T9_0_4_3).bel) (fun hHeld => ?_)
          clear hK K
          refine wpAnyH_ready (rs := [7]) (by kernel_rfl) (by simp) ?_
          refine AllReadyH.cons rfl (fun K hK => ?_) AllReadyH.nil
          obtain ⟨a12, k12, u9_0_4_3_7, hr, hs8⟩ := (unhide T9_0_4_3).appI (unhide RI) (by omega) ci
          have T9_0_4_3_7 := hide hs8
          clear hs8
          refine us_stepApp rfl (.tmp 9) (.tmp 11) 27 rfl _ _ (.slice a12 m k12) u9_0_4_3_7 (by first | rfl | (simp [Act.eval]; done) | (simp [Act.eval, Act.put]; done)) (by first | rfl | (simp [Act.eval]; done) | (simp [Act.eval, Act.put]; done)) hr ?_
          clear hr
          refine hK.out _ _ (unhide SK _ (unhide T9_0_4_3_7).bel) (fun hHeld => ?_)
          clear hK K
          refine anyH_take 8 13 (v := ?v18) rfl rfl (by kernel_rfl) (by kernel_rfl) (by kernel_rfl) (fun _ _ _ h => h) (by rfl) ?h18 hHeld ?r18
          case h18 => (intro w hSw; (try dsimp only at hSw); go_simp; try (with_reducible rfl))
          simp only [Act.put, List.setIfInBounds_toArray]
          refine wpAnyH_ready (rs := [10]) (by kernel_rfl) (by simp) ?_
          refine AllReadyH.cons rfl (fun K hK => ?_) AllReadyH.nil
          obtain ⟨hT3, hb3⟩ := tg_store ((unhide T9_0_4_3_7).t tb rfl).2 (show _ from (unhide T9_0_4_3_7).g (.slice a8 n k8) true rfl) (show JOwns _ _ _ idx from (unhide T9_0_4_3_7).i (.slice a12 m k12) true rfl) ((unhide T9_0_4_3_7).t tb rfl).1 (unhide T9_0_4_3_7).bel.size
          have y0 := (heap_at ((unhide T9_0_4_3_7).t tb rfl).2 0).1
          have y1 := (heap_at ((unhide T9_0_4_3_7).t tb rfl).2 1).1
          have y2 := (heap_at ((unhide T9_0_4_3_7).t tb rfl).2 2).1
          have x0 := (heap_at ((unhide T9_0_4_3_7).t tb rfl).2 0).2
          have x1 := (heap_at ((unhide T9_0_4_3_7).t tb rfl).2 1).2
          have x2 := (heap_at ((unhide T9_0_4_3_7).t tb rfl).2 2).2
          have TF := hide hT3
          have htb := ((unhide T9_0_4_3_7).t tb rfl).1
          have BF := hide ((unhide T9_0_4_3_7).bel.trans hb3)
          clear hT3 hb3
          go_simp
          refine hK.out _ _ (unhide SK _ (unhide BF)) (fun hHeld => ?_)
          clear hK K
          refine wpAnyH_done (by kernel_rfl) ?_ _
          go_wp2_with fail
          go_meet
          case rel => exact ⟨tb, a8, k8, a12, k12, rfl, htb, TF, unhide BF⟩
      · have T9_4 := hide (unhide T9).litI
        go_simp
        generalize u9.alloc (.cells #[] 69) = u9_4 at *
        generalize u9.heap.size = g9 at *
        refine hK.out _ _ (unhide SK _ (unhide T9_4).bel) (fun hHeld => ?_)
        clear hK K
        refine wpAnyH_ready (rs := [0]) (by kernel_rfl) (by simp) ?_
        refine AllReadyH.cons rfl (fun K hK => ?_) AllReadyH.nil
        have T9_4_0 := hide (unhide T9_4).litG
        go_simp
        generalize u9_4.alloc (.cells #[] 4) = u9_4_0 at *
        generalize u9_4.heap.size = g5 at *
        refine hK.out _ _ (unhide SK _ (unhide T9_4_0).bel) (fun hHeld => ?_)
        clear hK K
        refine wpAnyH_ready (rs := [3]) (by kernel_rfl) (by simp) ?_
        refine AllReadyH.cons rfl (fun K hK => ?_) AllReadyH.nil
        obtain ⟨a8, k8, u9_4_0_3, hr, hs8⟩ := (unhide T9_4_0).appG (unhide RG) (unhide LG) (by omega) cg
        have T9_4_0_3 := hide hs8
        clear hs8
        refine us_stepApp rfl (.tmp 5) (.tmp 7) 26 rfl _ _ (.slice a8 n k8) u9_4_0_3 (by first | rfl | (simp [Act.eval]; done) | (simp [Act.eval, Act.put]; done)) (by first | rfl | (simp [Act.eval]; done) | (simp [Act.eval, Act.put]; done)) hr ?_
        clear hr
        refine hK.out _ _ (unhide SK _ (unhide T9_4_0_3).bel) (fun hHeld => ?_)
        clear hK K
        refine wpAnyH_ready (rs := [7]) (by kernel_rfl) (by simp) ?_
        refine AllReadyH.cons rfl (fun K hK => ?_) AllReadyH.nil
        obtain ⟨a12, k12, u9_4_0_3_7, hr, hs8⟩ := (unhide T9_4_0_3).appI (unhide RI) (by omega) ci
        have T9_4_0_3_7 := hide hs8
        clear hs8
        refine us_stepApp rfl (.tmp 9) (.tmp 11) 27 rfl _ _ (.slice a12 m k12) u9_4_0_3_7 (by first | rfl | (simp [Act.eval]; done) | (simp [Act.eval, Act.put]; done)) (by first | rfl | (simp [Act.eval]; done) | (simp [Act.eval, Act.put]; done)) hr ?_
        clear hr
        refine hK.out _ _ (unhide SK _ (unhide T9_4_0_3_7).bel) (fun hHeld => ?_)
        clear hK K
        refine anyH_take 8 13 (v := ?v19) rfl rfl (by kernel_rfl) (by kernel_rfl) (by kernel_rfl) (fun _ _ _ h => h) (by rfl) ?h19 hHeld ?r19
        case h19 => (intro w hSw; (try dsimp only at hSw); go_simp; try (with_reducible rfl))
        simp only [Act.put, List.setIfInBounds_toArray]
        refine wpAnyH_ready (rs := [10]) (by kernel_rfl) (by simp) ?_
        refine AllReadyH.cons rfl (fun K hK => ?_) AllReadyH.nil
        obtain ⟨hT3, hb3⟩ := tg_store ((unhide T9_4_0_3_7).t tb rfl).2 (show _ from (unhide T9_4_0_3_7).g (.slice a8 n k8) true rfl) (show JOwns _ _ _ idx from (unhide T9_4_0_3_7).i (.slice a12 m k12) true rfl) ((unhide T9_4_0_3_7).t tb rfl).1 (unhide T9_4_0_3_7).bel.size
        have y0 := (heap_at ((unhide T9_4_0_3_7).t tb rfl).2 0).1
        have y1 := (heap_at ((unhide T9_4_0_3_7).t tb rfl).2 1).1
        have y2 := (heap_at ((unhide T9_4_0_3_7).t tb rfl).2 2).1
        have x0 := (heap_at ((unhide T9_4_0_3_7).t tb rfl).2 0).2
        have x1 := (heap_at ((unhide T9_4_0_3_7).t tb rfl).2 1).2
        have x2 := (heap_at ((unhide T9_4_0_3_7).t tb rfl).2 2).2
        have TF := hide hT3
        have htb := ((unhide T9_4_0_3_7).t tb rfl).1
        have BF := hide ((unhide T9_4_0_3_7).bel.trans hb3)
        clear hT3 hb3
        go_simp
        refine hK.out _ _ (unhide SK _ (unhide BF)) (fun hHeld => ?_)
        clear hK K
        refine wpAnyH_done (by kernel_rfl) ?_ _
        go_wp2_with fail
        go_meet
        case rel => exact ⟨tb, a8, k8, a12, k12, rfl, htb, TF, unhide BF⟩
  case rest =>
    obtain ⟨tb, ag, cg', ai, ci', rfl, htb, hS0, hb1⟩ := hcut
    clear e1 e2 RG RI S0 cg ci
    go_wp2_with fail
    go_loopw [4] (fun i wr => ∃ (k : Nat) (ap : Option Addr) (cp : Nat) (hs' : List PpH), k ≤ n ∧ i = .int .i64 k ∧ Hid (TgSt wr W.heap.size tb (.slice ap k cp) (.slice ag n cg') (.slice ai m ci') hs' (ps.map (·.isNone)) idx) ∧ Hid (hs'.map (·.X) = (ps.take k).map pgD) ∧ Below W.heap.size W wr) (fun i _ => n - (intOf i).toNat)
    case atStart => exact ⟨0, none, 0, [], Nat.zero_le _, rfl, hS0, rfl, hb1⟩
    case round =>
      clear hS0 hb1
      obtain ⟨k, ap, cp, hs', hk, rfl, hS, hX, hb⟩ := hrel
      have hsl : hs'.length = k := by
        have e := congrArg List.length (unhide hX)
        rw [List.length_map, List.length_map, List.length_take, unhide HLN] at e
        omega
      have x1 : wr.cell? ⟨w.heap.size, 0, none⟩ = some (.slice a1 n c1) := (heap_at ((hb.block w.heap.size hz1).trans (unhide K1)) 0).1
      by_cases hlt : k < n
      case neg =>
        obtain rfl : k = n := by omega
        have ht : ps.take k = ps := List.take_of_length_le (by rw [unhide HLN]; exact Nat.le_refl _)
        rw [ht] at hX
        have t3 := (unhide hS).box
        have z0 := (heap_at t3 0).1
        have z1 := (heap_at t3 1).1
        have z2 := (heap_at t3 2).1
        have hR := (hb.block (w.heap.size + 1) hz2).trans (unhide K2)
        have f0 := (heap_at hR 0).1
        have f1 := (heap_at hR 1).1
        have f2 := (heap_at hR 2).1
        have g0 := (heap_at hR 0).2
        have g1 := (heap_at hR 1).2
        have g2 := (heap_at hR 2).2
        have T0 := (unhide hS).own
        rw [hsl, unhide LG] at T0
        have OWN : TsOwn wr W.heap.size ap cp ag cg' ai ci' k m hs' ps idx := ⟨T0, unhide hX, unhide HLN, unhide HLI⟩
        have O1 := ((OWN.set hz2 0 (.slice ap k cp)).set hz2 1 (.slice ag k cg')).set hz2 2 (.slice ai m ci')
        have bR := (unhide b0h).trans (hb.mono (Nat.le_of_lt hz1))
        have B1 := ((bR.setCell (p := ⟨w.heap.size + 1, 0, none⟩) (Nat.le_succ _) (.slice ap k cp)).setCell (p := ⟨w.heap.size + 1, 1, none⟩) (Nat.le_succ _) (.slice ag k cg')).setCell (p := ⟨w.heap.size + 1, 2, none⟩) (Nat.le_succ _) (.slice ai m ci')
        have RES := hide (show OwnRes k m ps idx w (.returned (.agg #[.slice ap k cp, .slice ag k cg', .slice ai m ci'])) _ from ⟨ap, cp, ag, cg', ai, ci', hs', rfl, O1.dn (Nat.le_of_lt hz1), B1⟩)
        clear t3 hR T0 OWN O1 B1 bR hS ht hX
        go_wp2_with fail
        refine bodyPost_ret (v := .agg #[.slice ap k cp, .slice ag k cg', .slice ai m ci']) (by simp [results, Tryz.results29, go_sem, *]) rfl ?_
        exact unhide RES
      have hkp : k < ps.length := by rw [unhide HLN]; exact hlt
      obtain ⟨b, x, ha, -, hxX, P⟩ := ((unhide O).below hb).at hkp
      subst ha
      obtain ⟨b', x', ha', -, -, P'⟩ := (unhide O).at hkp
      have hbW : b < W.heap.size := by
        injection ha' with e
        injection e with e _ _
        subst e
        exact cell_lt P'.c0
      clear P' ha' x'
      obtain ⟨f32, f12⟩ := unhide FEW ps[k] (List.getElem_mem hkp)
      rw [← hxX] at f32 f12
      have XQ := hide (show ∀ h : PpH, h.X = x.X → (hs' ++ [h]).map (·.X) = (ps.take (k + 1)).map pgD from fun h e => by
        rw [rb_take_snoc ps k hkp, List.map_append, List.map_append, unhide hX, List.map_singleton, List.map_singleton, e, hxX])
      have ln0 : x.s0.n ≤ 32 := by rw [← P.es.1]; exact f32
      have ln1 : x.s1.n ≤ 12 := by rw [← P.ds.1]; exact f12
      have HL := hide (fun (u : World) (hu : Below wr.heap.size wr u) => l04Own_any x.X.lo x.X.hi x.X.r x.s0.a x.s0.n x.s0.c x.X.es x.s1.a x.s1.n x.s1.c x.X.ds u (P.es.below hu) (P.ds.below hu) (by omega) (by omega) P.ce P.cd)
      unfold pgv at HL
      have q0 := P.c0
      have q1 := P.c1
      have q2 := P.c2
      have q3 := P.c3
      have q4 := P.c4
      have tbx := (heap_at (unhide hS).box 0).1
      have tbl := blk_lt (unhide hS).box
      clear P f32 f12 hxX
      obtain ⟨X, ⟨sa, sn, sc⟩, ⟨da, dn, dc⟩⟩ := x
      simp only at q0 q1 q2 q3 q4 HL XQ
      have hBs : W.heap.size ≤ wr.heap.size := hb.size
      have SK := hide (show ∀ u : World, (∀ i, i < W.heap.size → u.heap[i]? = wr.heap[i]?) → (u.cell? ⟨w.heap.size, 0, none⟩ = some (.slice (some ⟨b, 0, none⟩) n c1) ∧ u.cell? ⟨b, k * 5, none⟩ = some (.string X.lo) ∧ u.cell? ⟨b, k * 5 + 1, none⟩ = some (.string X.hi) ∧ u.cell? ⟨b, k * 5 + 2, none⟩ = some (.int .i64 X.r) ∧ u.cell? ⟨b, k * 5 + 3, none⟩ = some (.slice sa sn sc) ∧ u.cell? ⟨b, k * 5 + 4, none⟩ = some (.slice da dn dc)) from fun u hu => ⟨(World.cell?_of_block (a := ⟨w.heap.size, 0, none⟩) (hu w.heap.size hz1)).trans x1, (World.cell?_of_block (a := ⟨b, k * 5, none⟩) (hu b hbW)).trans q0, (World.cell?_of_block (a := ⟨b, k * 5 + 1, none⟩) (hu b hbW)).trans q1, (World.cell?_of_block (a := ⟨b, k * 5 + 2, none⟩) (hu b hbW)).trans q2, (World.cell?_of_block (a := ⟨b, k * 5 + 3, none⟩) (hu b hbW)).trans q3, (World.cell?_of_block (a := ⟨b, k * 5 + 4, none⟩) (hu b hbW)).trans q4⟩)
      have SB := hide (show ∀ u : World, Below wr.heap.size wr u → (∀ i, i < W.heap.size → u.heap[i]? = wr.heap[i]?) from fun u hu i hi => hu.block i (Nat.lt_of_lt_of_le hi hBs))
      have Y1 := hide (show ∀ u : World, Below wr.heap.size wr u → u.cell? ⟨tb, 0, none⟩ = some (.slice ap k cp) from fun u hu => (hu.cell (p := ⟨tb, 0, none⟩) tbl).trans tbx)
      clear tbx
      go_upto_region 5 with fail
      refine wp_region_held_drew (S := (fun u => (u.cell? ⟨w.heap.size, 0, none⟩ = some (.slice (some ⟨b, 0, none⟩) n c1) ∧ u.cell? ⟨b, k * 5, none⟩ = some (.string X.lo) ∧ u.cell? ⟨b, k * 5 + 1, none⟩ = some (.string X.hi) ∧ u.cell? ⟨b, k * 5 + 2, none⟩ = some (.int .i64 X.r) ∧ u.cell? ⟨b, k * 5 + 3, none⟩ = some (.slice sa sn sc) ∧ u.cell? ⟨b, k * 5 + 4, none⟩ = some (.slice da dn dc)))) (by kernel_rfl) (unhide SK _ (unhide SB _ (Below.refl _ _).drew)) (fun hHeld => ?_)
      have D0 := hide (show Below wr.heap.size wr wr.drew from (Below.refl _ _).drew)
      generalize wr.drew = u0 at *
      refine anyH_take 0 21 (v := ?v20) rfl rfl (by kernel_rfl) (by kernel_rfl) (by kernel_rfl) (fun _ _ _ h => h) (by rfl) ?h20 hHeld ?r20
      case h20 => (intro w hSw; (try dsimp only at hSw); go_simp; try (with_reducible rfl))
      simp only [Act.put, List.setIfInBounds_toArray, List.set_cons_zero, List.set_cons_succ]
      refine anyH_take 2 23 (v := ?v21) rfl rfl (by kernel_rfl) (by kernel_rfl) (by kernel_rfl) (fun _ _ _ h => h) (by rfl) ?h21 hHeld ?r21
      case h21 => (intro w hSw; (try dsimp only at hSw); go_simp; try (with_reducible rfl))
      simp only [Act.put, List.setIfInBounds_toArray, List.set_cons_zero, List.set_cons_succ]
      refine anyH_take 3 24 (v := ?v22) rfl rfl (by kernel_rfl) (by kernel_rfl) (by kernel_rfl) (fun _ _ _ h => h) (by rfl) ?h22 hHeld ?r22
      case h22 => (intro w hSw; (try dsimp only at hSw); go_simp; try (with_reducible rfl))
      simp only [Act.put, List.setIfInBounds_toArray, List.set_cons_zero, List.set_cons_succ]
      refine anyH_take 4 25 (v := ?v23) rfl rfl (by kernel_rfl) (by kernel_rfl) (by kernel_rfl) (fun _ _ _ h => h) (by rfl) ?h23 hHeld ?r23
      case h23 => (intro w hSw; (try dsimp only at hSw); go_simp; try (with_reducible rfl))
      simp only [Act.put, List.setIfInBounds_toArray, List.set_cons_zero, List.set_cons_succ]
      refine anyH_take 5 26 (v := ?v24) rfl rfl (by kernel_rfl) (by kernel_rfl) (by kernel_rfl) (fun _ _ _ h => h) (by rfl) ?h24 hHeld ?r24
      case h24 => (intro w hSw; (try dsimp only at hSw); go_simp; try (with_reducible rfl))
      simp only [Act.put, List.setIfInBounds_toArray, List.set_cons_zero, List.set_cons_succ]
      refine anyH_take 6 27 (v := ?v25) rfl rfl (by kernel_rfl) (by kernel_rfl) (by kernel_rfl) (fun _ _ _ h => h) (by rfl) ?h25 hHeld ?r25
      case h25 => (intro w hSw; (try dsimp only at hSw); go_simp; try (with_reducible rfl))
      simp only [Act.put, List.setIfInBounds_toArray, List.set_cons_zero, List.set_cons_succ]
      refine wpAnyH_ready (rs := [1, 7]) (by kernel_rfl) (by simp) ?_
      refine AllReadyH.cons rfl (fun K hK => ?_) (AllReadyH.cons rfl (fun K hK => ?_) AllReadyH.nil)
      · have y := unhide Y1 _ (unhide D0)
        go_simp
        clear y
        refine hK.out _ _ (hHeld) (fun hHeld => ?_)
        clear hK K
        refine wpAnyH_ready (rs := [7]) (by kernel_rfl) (by simp) ?_
        refine AllReadyH.cons rfl (fun K hK => ?_) AllReadyH.nil
        go_simp
        refine (unhide HL _ (unhide D0)).mono ?_
        rintro e u7 ⟨aE, nE, cE, aD, nD, cD, rfl, hPO, hb7⟩
        have D7 := hide ((unhide D0).trans (hb7.mono (unhide D0).size))
        have D8 := hide ((unhide D7).alloc (unhide D7).size (.cells #[.string X.lo, .string X.hi, .int .i64 X.r, .slice aE nE cE, .slice aD nD cD] 67))
        obtain ⟨vP, w6, hrP, S6, b6, k6⟩ := (unhide hS).page (h := (⟨X, ⟨aE, nE, cE⟩, ⟨aD, nD, cD⟩⟩ : PpH)) (unhide D7) (gd_base hPO.1 (unhide D0).size) (gd_base hPO.2.1 (unhide D0).size) htb (by omega) hBs
        obtain ⟨aP, cP, hvP⟩ : ∃ a c, vP = .slice a (k + 1) c := by
          obtain ⟨a, c, e⟩ := us_sl S6.own.pg.row
          exact ⟨a, c, by rw [e, List.length_append, hsl]; rfl⟩
        subst hvP
        simp only at hrP
        have z6 := (heap_at k6 0).1
        have zf := (heap_at k6 0).2
        have S8 := hide S6
        have X8 := hide (unhide XQ (⟨X, ⟨aE, nE, cE⟩, ⟨aD, nD, cD⟩⟩ : PpH) rfl)
        have B8 := hide (hb.trans b6)
        have E6 := hide (show ∀ i, i < W.heap.size → w6.heap[i]? = wr.heap[i]? from fun i hi => (Below.heap_setCell w6 ⟨tb, 0, none⟩ (.slice aP (k + 1) cP) i (by simp; omega)).symm.trans (b6.block i hi))
        have E7 := hide (show ∀ i, i < W.heap.size → (w6.setCell ⟨tb, 0, none⟩ (.slice aP (k + 1) cP)).heap[i]? = wr.heap[i]? from fun i hi => b6.block i hi)
        clear hPO hb7 S6 b6 k6
        refine hK.out _ _ (unhide SK _ (unhide SB _ (unhide D7))) (fun hHeld => ?_)
        clear hK K
        refine wpAnyH_ready (rs := [8]) (by kernel_rfl) (by simp) ?_
        refine AllReadyH.cons rfl (fun K hK => ?_) AllReadyH.nil
        go_simp
        refine hK.out _ _ (unhide SK _ (unhide SB _ (unhide D8))) (fun hHeld => ?_)
        clear hK K
        refine wpAnyH_ready (rs := [9]) (by kernel_rfl) (by simp) ?_
        refine AllReadyH.cons rfl (fun K hK => ?_) AllReadyH.nil
        refine us_stepApp rfl (.tmp 22) (.tmp 29) 25 rfl _ _ (.slice aP (k + 1) cP) w6 (by first | rfl | (simp [Act.eval]; done) | (simp [Act.eval, Act.put]; done)) (by first | rfl | (simp [Act.eval]; done) | (simp [Act.eval, Act.put]; done)) hrP ?_
        clear hrP
        refine hK.out _ _ (unhide SK _ (unhide E6)) (fun hHeld => ?_)
        clear hK K
        refine anyH_take 10 31 (v := ?v26) rfl rfl (by kernel_rfl) (by kernel_rfl) (by kernel_rfl) (fun _ _ _ h => h) (by rfl) ?h26 hHeld ?r26
        case h26 => (intro w hSw; (try dsimp only at hSw); go_simp; try (with_reducible rfl))
        simp only [Act.put, List.setIfInBounds_toArray]
        refine wpAnyH_ready (rs := [11]) (by kernel_rfl) (by simp) ?_
        refine AllReadyH.cons rfl (fun K hK => ?_) AllReadyH.nil
        go_simp
        refine hK.out _ _ (unhide SK _ (unhide E7)) (fun hHeld => ?_)
        clear hK K
        refine wpAnyH_done (by kernel_rfl) ?_ _
        go_wp2_with fail
        go_roundw
        case rel => exact ⟨k + 1, _, _, _, by omega, by go_num, S8, X8, unhide B8⟩
        case measure => simp [intOf]; omega
      · go_simp
        refine (unhide HL _ (unhide D0)).mono ?_
        rintro e u7 ⟨aE, nE, cE, aD, nD, cD, rfl, hPO, hb7⟩
        have D7 := hide ((unhide D0).trans (hb7.mono (unhide D0).size))
        have D8 := hide ((unhide D7).alloc (unhide D7).size (.cells #[.string X.lo, .string X.hi, .int .i64 X.r, .slice aE nE cE, .slice aD nD cD] 67))
        obtain ⟨vP, w6, hrP, S6, b6, k6⟩ := (unhide hS).page (h := (⟨X, ⟨aE, nE, cE⟩, ⟨aD, nD, cD⟩⟩ : PpH)) (unhide D7) (gd_base hPO.1 (unhide D0).size) (gd_base hPO.2.1 (unhide D0).size) htb (by omega) hBs
        obtain ⟨aP, cP, hvP⟩ : ∃ a c, vP = .slice a (k + 1) c := by
          obtain ⟨a, c, e⟩ := us_sl S6.own.pg.row
          exact ⟨a, c, by rw [e, List.length_append, hsl]; rfl⟩
        subst hvP
        simp only at hrP
        have z6 := (heap_at k6 0).1
        have zf := (heap_at k6 0).2
        have S8 := hide S6
        have X8 := hide (unhide XQ (⟨X, ⟨aE, nE, cE⟩, ⟨aD, nD, cD⟩⟩ : PpH) rfl)
        have B8 := hide (hb.trans b6)
        have E6 := hide (show ∀ i, i < W.heap.size → w6.heap[i]? = wr.heap[i]? from fun i hi => (Below.heap_setCell w6 ⟨tb, 0, none⟩ (.slice aP (k + 1) cP) i (by simp; omega)).symm.trans (b6.block i hi))
        have E7 := hide (show ∀ i, i < W.heap.size → (w6.setCell ⟨tb, 0, none⟩ (.slice aP (k + 1) cP)).heap[i]? = wr.heap[i]? from fun i hi => b6.block i hi)
        clear hPO hb7 S6 b6 k6
        refine hK.out _ _ (unhide SK _ (unhide SB _ (unhide D7))) (fun hHeld => ?_)
        clear hK K
        refine wpAnyH_ready (rs := [1, 8]) (by kernel_rfl) (by simp) ?_
        refine AllReadyH.cons rfl (fun K hK => ?_) (AllReadyH.cons rfl (fun K hK => ?_) AllReadyH.nil)
        · have y := unhide Y1 _ (unhide D7)
          go_simp
          clear y
          refine hK.out _ _ (hHeld) (fun hHeld => ?_)
          clear hK K
          refine wpAnyH_ready (rs := [8]) (by kernel_rfl) (by simp) ?_
          refine AllReadyH.cons rfl (fun K hK => ?_) AllReadyH.nil
          go_simp
          refine hK.out _ _ (unhide SK _ (unhide SB _ (unhide D8))) (fun hHeld => ?_)
          clear hK K
          refine wpAnyH_ready (rs := [9]) (by kernel_rfl) (by simp) ?_
          refine AllReadyH.cons rfl (fun K hK => ?_) AllReadyH.nil
          refine us_stepApp rfl (.tmp 22) (.tmp 29) 25 rfl _ _ (.slice aP (k + 1) cP) w6 (by first | rfl | (simp [Act.eval]; done) | (simp [Act.eval, Act.put]; done)) (by first | rfl | (simp [Act.eval]; done) | (simp [Act.eval, Act.put]; done)) hrP ?_
          clear hrP
          refine hK.out _ _ (unhide SK _ (unhide E6)) (fun hHeld => ?_)
          clear hK K
          refine anyH_take 10 31 (v := ?v27) rfl rfl (by kernel_rfl) (by kernel_rfl) (by kernel_rfl) (fun _ _ _ h => h) (by rfl) ?h27 hHeld ?r27
          case h27 => (intro w hSw; (try dsimp only at hSw); go_simp; try (with_reducible rfl))
          simp only [Act.put, List.setIfInBounds_toArray]
          refine wpAnyH_ready (rs := [11]) (by kernel_rfl) (by simp) ?_
          refine AllReadyH.cons rfl (fun K hK => ?_) AllReadyH.nil
          go_simp
          refine hK.out _ _ (unhide SK _ (unhide E7)) (fun hHeld => ?_)
          clear hK K
          refine wpAnyH_done (by kernel_rfl) ?_ _
          go_wp2_with fail
          go_roundw
          case rel => exact ⟨k + 1, _, _, _, by omega, by go_num, S8, X8, unhide B8⟩
          case measure => simp [intOf]; omega
        · go_simp
          refine hK.out _ _ (unhide SK _ (unhide SB _ (unhide D8))) (fun hHeld => ?_)
          clear hK K
          refine wpAnyH_ready (rs := [1]) (by kernel_rfl) (by simp) ?_
          refine AllReadyH.cons rfl (fun K hK => ?_) AllReadyH.nil
          have y := unhide Y1 _ (unhide D8)
          go_simp
          clear y
          refine hK.out _ _ (hHeld) (fun hHeld => ?_)
          clear hK K
          refine wpAnyH_ready (rs := [9]) (by kernel_rfl) (by simp) ?_
          refine AllReadyH.cons rfl (fun K hK => ?_) AllReadyH.nil
          refine us_stepApp rfl (.tmp 22) (.tmp 29) 25 rfl _ _ (.slice aP (k + 1) cP) w6 (by first | rfl | (simp [Act.eval]; done) | (simp [Act.eval, Act.put]; done)) (by first | rfl | (simp [Act.eval]; done) | (simp [Act.eval, Act.put]; done)) hrP ?_
          clear hrP
          refine hK.out _ _ (unhide SK _ (unhide E6)) (fun hHeld => ?_)
          clear hK K
          refine anyH_take 10 31 (v := ?v28) rfl rfl (by kernel_rfl) (by kernel_rfl) (by kernel_rfl) (fun _ _ _ h => h) (by rfl) ?h28 hHeld ?r28
          case h28 => (intro w hSw; (try dsimp only at hSw); go_simp; try (with_reducible rfl))
          simp only [Act.put, List.setIfInBounds_toArray]
          refine wpAnyH_ready (rs := [11]) (by kernel_rfl) (by simp) ?_
          refine AllReadyH.cons rfl (fun K hK => ?_) AllReadyH.nil
          go_simp
          refine hK.out _ _ (unhide SK _ (unhide E7)) (fun hHeld => ?_)
          clear hK K
          refine wpAnyH_done (by kernel_rfl) ?_ _
          go_wp2_with fail
          go_roundw
          case rel => exact ⟨k + 1, _, _, _, by omega, by go_num, S8, X8, unhide B8⟩
          case measure => simp [intOf]; omega
end Go.Proofs.YtbhkmmdcdfjbkaaGreat

namespace Go.Proofs.YtbhkmmdcdfjbkaaGreat
open Go.RowKit

/-- Rows that lie apart come into a record. -/
theorem NOwn.addAp {w : World} {B T S n : Nat} {v : Value} {es : List El} (h : NOwn w B T S v n es) {i : Nat} {e : El} {xs : List Sb} (hi : es[i]? = some e) (ho : ∀ x ∈ xs, w.ownsRow B x.t x.s x.v x.n x.cs) (hap : ∀ x ∈ xs, ∀ g, x.v.ownBlock = some g → ¬ NBl v es g)
    (hf : ∀ (a b : Nat) (x y : Sb), xs[a]? = some x → xs[b]? = some y → a ≠ b → ∀ g, x.v.ownBlock = some g → y.v.ownBlock ≠ some g) :
    NOwn w B T S v n (es.set i ⟨e.hd, xs⟩) := by
  have hil : i < es.length := (List.getElem?_eq_some_iff.1 hi).1
  have sb : ∀ k b y, sbAt (es.set i ⟨e.hd, xs⟩) k b = some y → (k = i ∧ xs[b]? = some y) ∨ (k ≠ i ∧ sbAt es k b = some y) := fun k b y hy => by
    rw [sbAt_set hil] at hy
    by_cases hk : k = i
    · subst hk; rw [if_pos rfl] at hy; exact .inl ⟨rfl, hy⟩
    · rw [if_neg hk] at hy; exact .inr ⟨hk, hy⟩
  have ap : ∀ (b : Nat) (y : Sb), xs[b]? = some y → ∀ (l d : Nat) (z : Sb), sbAt es l d = some z → ∀ g, y.v.ownBlock = some g → z.v.ownBlock ≠ some g := fun b y hy l d z hz g h1 h2 => hap y (List.mem_of_getElem? hy) g h1 (.inr ⟨l, d, z, hz, h2⟩)
  refine ⟨?_, by rw [List.length_set]; exact h.len, fun y hy => ?_, fun k b y hy => ?_, fun k l b d y z hy hz hne => ?_, fun k b y hy => ?_⟩
  · rw [fm_same es h.wid i e _ hi]
    exact h.row
  · rcases List.mem_or_eq_of_mem_set hy with hy | rfl
    · exact h.wid y hy
    · exact h.wid e (List.mem_of_getElem? hi)
  · rcases sb k b y hy with ⟨_, hy⟩ | ⟨_, hy⟩
    · exact ho y (List.mem_of_getElem? hy)
    · exact h.dat k b y hy
  · rcases sb k b y hy with ⟨hk, hy⟩ | ⟨hk, hy⟩
    · rcases sb l d z hz with ⟨hl, hz⟩ | ⟨hl, hz⟩
      · exact hf b d y z hy hz (by rcases hne with h | h; exact absurd (hk.trans hl.symm) h; exact h)
      · exact ap b y hy l d z hz
    · rcases sb l d z hz with ⟨hl, hz⟩ | ⟨hl, hz⟩
      · exact fun g h1 h2 => ap d z hz k b y hy g h2 h1
      · exact h.far k l b d y z hy hz hne
  · rcases sb k b y hy with ⟨_, hy⟩ | ⟨_, hy⟩
    · exact fun g h1 h2 => hap y (List.mem_of_getElem? hy) g h2 (.inl h1)
    · exact h.off k b y hy
/-- A row within a record has grown, in its place or into a new one. -/
theorem NOwn.appSb {w w' : World} {B T S n : Nat} {v : Value} {es : List El} (h : NOwn w B T S v n es) {i a : Nat} {e : El} {x x' : Sb} (hi : es[i]? = some e) (ha : e.sb[a]? = some x) (hv : x'.v.ownBlock = x.v.ownBlock ∨ ∃ f, w.heap.size ≤ f ∧ x'.v.ownBlock = some f) (ho : w'.ownsRow B x'.t x'.s x'.v x'.n x'.cs) (hw : WrB (fun k => x.v.ownBlock = some k) w w') :
    NOwn w' B T S v n (es.set i ⟨e.hd, e.sb.set a x'⟩) := by
  have hil : i < es.length := (List.getElem?_eq_some_iff.1 hi).1
  have hal : a < e.sb.length := (List.getElem?_eq_some_iff.1 ha).1
  have hx0 : sbAt es i a = some x := by unfold sbAt; rw [hi]; exact ha
  have sb : ∀ k b y, sbAt (es.set i ⟨e.hd, e.sb.set a x'⟩) k b = some y → (k = i ∧ b = a ∧ y = x') ∨ (sbAt es k b = some y ∧ (i ≠ k ∨ a ≠ b)) := fun k b y hy => by
    rw [sbAt_set hil] at hy
    by_cases hk : k = i
    · subst hk
      rw [if_pos rfl] at hy
      simp only at hy
      by_cases hb : b = a
      · subst hb
        rw [List.getElem?_set_self hal] at hy
        injection hy with hy
        exact .inl ⟨rfl, rfl, hy.symm⟩
      · rw [List.getElem?_set_ne (fun e => hb e.symm)] at hy
        exact .inr ⟨by unfold sbAt; rw [hi]; exact hy, .inr (fun e => hb e.symm)⟩
    · rw [if_neg hk] at hy
      exact .inr ⟨hy, .inl (fun e => hk e.symm)⟩
  have ap : ∀ (l d : Nat) (z : Sb), sbAt es l d = some z → (i ≠ l ∨ a ≠ d) → ∀ g, x'.v.ownBlock = some g → z.v.ownBlock ≠ some g := fun l d z hz hne g h1 h2 => by
    rcases hv with hv | ⟨f, hf, hv⟩
    · rw [hv] at h1; exact h.far i l a d x z hx0 hz hne g h1 h2
    · rw [hv] at h1; injection h1 with h1; have := ((h.dat l d z hz).lt g h2).2; omega
  refine ⟨?_, by rw [List.length_set]; exact h.len, fun y hy => ?_, fun k b y hy => ?_, fun k l b d y z hy hz hne => ?_, fun k b y hy => ?_⟩
  · rw [fm_same es h.wid i e _ hi]
    exact rr_owns_wr h.row hw (fun k hk e => h.off i a x hx0 k hk e)
  · rcases List.mem_or_eq_of_mem_set hy with hy | rfl
    · exact h.wid y hy
    · exact h.wid e (List.mem_of_getElem? hi)
  · rcases sb k b y hy with ⟨_, _, rfl⟩ | ⟨hy, hne⟩
    · exact ho
    · exact rr_owns_wr (h.dat k b y hy) hw (fun q hq e => h.far i k a b x y hx0 hy hne q e hq)
  · rcases sb k b y hy with ⟨rfl, rfl, rfl⟩ | ⟨qy, hn1⟩
    · rcases sb l d z hz with ⟨rfl, rfl, rfl⟩ | ⟨qz, hn2⟩
      · rcases hne with h | h <;> exact absurd rfl h
      · exact ap l d z qz hn2
    · rcases sb l d z hz with ⟨rfl, rfl, rfl⟩ | ⟨qz, hn2⟩
      · exact fun g h1 h2 => ap k b y qy hn1 g h2 h1
      · exact h.far k l b d y z qy qz hne
  · rcases sb k b y hy with ⟨rfl, rfl, rfl⟩ | ⟨hy, _⟩
    · intro g h1 h2
      rcases hv with hv | ⟨f, hf, hv⟩
      · rw [hv] at h2; exact h.off k b x hx0 g h1 h2
      · rw [hv] at h2; injection h2 with h2; have := (h.row.lt g h1).2; omega
    · exact h.off k b y hy
theorem setAll_wr (g : Nat) : ∀ (vs : List Value) (o : Nat) (w : World), WrB (fun i => i = g) w (setAll g w o vs)
  | [], _, w => WrB.same _ w
  | v :: r, o, w => (set1_wr w g o v).seq (setAll_wr g r (o + 1) _)
theorem TgSt.page_block {w : World} {B tb : Nat} {vp vg vi : Value} {hs : List PpH} {gs : List Bool} {idx : List RefD} (s : TgSt w B tb vp vg vi hs gs idx) (h0 : 0 < hs.length) : ∃ g c, vp = .slice (some ⟨g, 0, none⟩) hs.length c ∧ B ≤ g ∧ g ≠ tb := by
  rcases s.own.pg.row.2 with ⟨_, e⟩ | ⟨g, cap, cur, e, hb, hh, _⟩
  · omega
  · refine ⟨g, cap, e, hb, fun e2 => ?_⟩
    exact own_box s.own.pg.row s.box (by decide) (by rw [e, e2]; rfl)
theorem TgSt.row {w w' : World} {B tb : Nat} {vp vg vi : Value} {hs : List PpH} {gs : List Bool} {idx : List RefD} (s : TgSt w B tb vp vg vi hs gs idx) {hs' : List PpH} (hn : NOwn w' B 67 5 vp hs'.length (hs'.map ppEl)) {P : Nat → Prop} (hw : WrB P w w') (hP : ∀ i, P i → i < w.heap.size → NBl vp (hs.map ppEl) i) : TgSt w' B tb vp vg vi hs' gs idx :=
  ⟨⟨hn, rr_owns_wr s.own.go hw (fun i hi hp => nbl_other s.own.pg s.own.go (by decide) (by decide) (by decide) hi (hP i hp (s.own.go.lt i hi).2)), rr_owns_wr s.own.ix hw (fun i hi hp => nbl_other s.own.pg s.own.ix (by decide) (by decide) (by decide) hi (hP i hp (s.own.ix.lt i hi).2))⟩, (hw.block tb (blk_lt s.box) (fun hp => nbl_tree s.own.pg s.box (by decide) (by decide) (by decide) (hP tb hp (blk_lt s.box)))).trans s.box⟩
/-- The five cells of a page. -/
def pcs (h : PpH) : List Value := [.string h.X.lo, .string h.X.hi, .int .i64 h.X.r, .slice h.s0.a h.s0.n h.s0.c, .slice h.s1.a h.s1.n h.s1.c]
/-- A page laid in another's place. -/
theorem TgSt.put {w : World} {B tb : Nat} {vp vg vi : Value} {hs : List PpH} {gs : List Bool} {idx : List RefD} (s : TgSt w B tb vp vg vi hs gs idx) {k : Nat} (hk : k < hs.length) (h : PpH) (he : w.ownsRow B 41 2 (.slice h.s0.a h.s0.n h.s0.c) h.X.es.length (ecs h.X.es)) (hd : w.ownsRow B 90 4 (.slice h.s1.a h.s1.n h.s1.c) h.X.ds.length (dcs h.X.ds))
    (ae : ∀ g, (Value.slice h.s0.a h.s0.n h.s0.c).ownBlock = some g → ¬ NBl vp (hs.map ppEl) g) (ad : ∀ g, (Value.slice h.s1.a h.s1.n h.s1.c).ownBlock = some g → ¬ NBl vp (hs.map ppEl) g) :
    ∃ g c, vp = .slice (some ⟨g, 0, none⟩) hs.length c ∧ (∀ j (hj : j < 5), w.cell? ⟨g, k * 5 + j, none⟩ = some ((pcs hs[k])[j]'hj)) ∧ (∀ j, w.frozen? ⟨g, j, none⟩ = false) ∧ TgSt (setAll g w (k * 5) (pcs h)) B tb vp vg vi (hs.set k h) gs idx ∧ WrB (fun i => i = g) w (setAll g w (k * 5) (pcs h)) ∧ B ≤ g ∧ g ≠ tb := by
  obtain ⟨g, c, rfl, hB, hne⟩ := s.page_block (by omega)
  have hi : (hs.map ppEl)[k]? = some (ppEl hs[k]) := ppEl_at hk
  have hil : k < (hs.map ppEl).length := by rw [List.length_map]; exact hk
  have h1 := s.own.pg.addAp (xs := (ppEl h).sb) hi (fun x hx => by
      simp only [ppEl, List.mem_cons, List.not_mem_nil, or_false] at hx
      rcases hx with rfl | rfl
      · exact he
      · exact hd) (fun x hx g hg => by
      simp only [ppEl, List.mem_cons, List.not_mem_nil, or_false] at hx
      rcases hx with rfl | rfl
      · exact ae g hg
      · exact ad g hg) (by
      intro a b x y hx hy hne g h1 h2
      match a, b, hx, hy, hne with
      | 0, 1, hx, hy, _ => injection hx with hx; injection hy with hy; subst hx hy; exact own_other he hd (by decide) h1 h2
      | 1, 0, hx, hy, _ => injection hx with hx; injection hy with hy; subst hx hy; exact own_other hd he (by decide) h1 h2
      | 0, 0, _, _, h => exact absurd rfl h
      | 1, 1, _, _, h => exact absurd rfl h
      | a + 2, _, hx, _, _ => cases hx
      | 0, b + 2, _, hy, _ => cases hy
      | 1, b + 2, _, hy, _ => cases hy)
  have h2 := NOwn.store (ppEl h).hd (ppEl hs[k]).hd [] h1 (List.getElem?_set_self hil) rfl
  rw [List.set_set] at h2
  have hN : NOwn (setAll g w (k * 5) (pcs h)) B 67 5 (.slice (some ⟨g, 0, none⟩) hs.length c) (hs.set k h).length ((hs.set k h).map ppEl) := by
    rw [List.map_set, List.length_set]
    exact h2
  have hw := setAll_wr g (pcs h) (k * 5) w
  refine ⟨g, c, rfl, fun j hj => s.own.pg.cell hi ?_, fun j => s.own.pg.free j, s.row hN hw (fun i e _ => .inl (by rw [e]; rfl)), hw, hB, hne⟩
  exact List.getElem?_eq_getElem (l := pcs hs[k]) hj
/-- A flag laid in another's place. -/
theorem TgSt.flagAt {w : World} {B tb : Nat} {vp vg vi : Value} {hs : List PpH} {gs : List Bool} {idx : List RefD} (s : TgSt w B tb vp vg vi hs gs idx) {k : Nat} (hk : k < gs.length) (q : Bool) :
    ∃ g c, vg = .slice (some ⟨g, 0, none⟩) gs.length c ∧ w.cell? ⟨g, k, none⟩ = some (.bool gs[k]) ∧ w.frozen? ⟨g, k, none⟩ = false ∧ TgSt (w.setCell ⟨g, k, none⟩ (.bool q)) B tb vp vg vi hs (gs.set k q) idx ∧ WrB (fun i => i = g) w (w.setCell ⟨g, k, none⟩ (.bool q)) ∧ B ≤ g ∧ g ≠ tb := by
  rcases s.own.go.2 with ⟨_, e⟩ | ⟨g, cap, cur, e, hb, hh, _⟩
  · omega
  subst e
  have hrow := s.own.go
  obtain ⟨hs', _⟩ := World.ownsRow.stored hrow k (.bool q)
  have hw := set1_wr w g k (.bool q)
  have hc : w.cell? ⟨g, k, none⟩ = some (.bool gs[k]) := by
    rw [hrow.cellAt k (by omega), List.getElem?_map, List.getElem?_eq_getElem hk]
    rfl
  refine ⟨g, cap, rfl, hc, (heap_at hh k).2, ⟨⟨s.own.pg.keep hw (fun i hi e => nbl_other s.own.pg s.own.go (by decide) (by decide) (by decide) (show _ = some i by rw [e]; rfl) hi), ?_, rr_owns_wr s.own.ix hw (fun i hi e => own_other s.own.ix s.own.go (by decide) hi (by rw [e]; rfl))⟩, (hw.block tb (blk_lt s.box) (fun e => own_box hrow s.box (by decide) (by rw [e]; rfl))).trans s.box⟩, hw, hb, fun e => own_box hrow s.box (by decide) (by rw [e]; rfl)⟩
  rw [List.length_set, List.map_set]
  exact hs'
/-- Another index laid into a tree's box. -/
theorem TgSt.index {w : World} {B tb : Nat} {vp vg vi v' : Value} {hs : List PpH} {gs : List Bool} {idx idx' : List RefD} (s : TgSt w B tb vp vg vi hs gs idx) (hJ : JOwns w B v' idx') : TgSt (w.setCell ⟨tb, 2, none⟩ v') B tb vp vg v' hs gs idx' := by
  have c := set1_wr w tb 2 v'
  have n7 := s.own.pg.keep c (fun i hi e => by subst e; exact nbl_tree s.own.pg s.box (by decide) (by decide) (by decide) hi)
  have k7 : (w.setCell ⟨tb, 2, none⟩ v').heap[tb]? = some (.cells #[vp, vg, v'] 29 (0, 0)) := by have := heap_set s.box 2 v'; simpa using this
  exact ⟨⟨n7, own_keep s.own.go s.box (by decide) c, own_keep hJ s.box (by decide) c⟩, k7⟩
/-- A change put behind a page's chain. -/
theorem TgSt.chain {w : World} {B tb : Nat} {vp vg vi : Value} {hs : List PpH} {gs : List Bool} {idx : List RefD} (s : TgSt w B tb vp vg vi hs gs idx) {k : Nat} (hk : k < hs.length) {x : PpH} (hx : hs[k]? = some x) (d : DelD) (hn : x.X.ds.length ≤ 1000) (hB : B ≤ w.heap.size) :
    ∃ g c a' c' w6, vp = .slice (some ⟨g, 0, none⟩) hs.length c ∧ (Builtin.append_ #[65, 65] 65 #[.slice x.s1.a x.s1.n x.s1.c, .slice (some ⟨w.heap.size, 0, none⟩) 1 1]).run Tryz.prog (w.alloc (.cells #[.int .i64 d.kind, .string d.k, .string d.v, .int .i64 d.to] 90)) = .ok (.slice a' (x.X.ds.length + 1) c') w6 ∧
      (∀ j (hj : j < 5), w6.cell? ⟨g, k * 5 + j, none⟩ = some ((pcs x)[j]'hj)) ∧ (∀ j, w6.frozen? ⟨g, j, none⟩ = false) ∧ Below B w w6 ∧
      TgSt (w6.setCell ⟨g, k * 5 + 4, none⟩ (.slice a' (x.X.ds.length + 1) c')) B tb vp vg vi (hs.set k ⟨⟨x.X.lo, x.X.hi, x.X.r, x.X.es, x.X.ds ++ [d]⟩, x.s0, ⟨a', x.X.ds.length + 1, c'⟩⟩) gs idx ∧ B ≤ g ∧ g ≠ tb ∧ w6.heap[tb]? = some (.cells #[vp, vg, vi] 29 (0, 0)) := by
  obtain ⟨i0, hi0, hz0, hz1, hz2⟩ := info_parts Tryz.infoDelta
  obtain ⟨g, c, rfl, hg, hne⟩ := s.page_block (by omega)
  have hi : (hs.map ppEl)[k]? = some (ppEl x) := by rw [List.getElem?_map, hx]; rfl
  obtain ⟨W, hW⟩ : ∃ W, W = w.alloc (.cells #[.int .i64 d.kind, .string d.k, .string d.v, .int .i64 d.to] 90) := ⟨_, rfl⟩
  have bA : Below w.heap.size w W := by rw [hW]; exact (Below.refl _ _).alloc (Nat.le_refl _) _
  have zW : W.heap.size = w.heap.size + 1 := by rw [hW]; simp
  have hcells : ∀ j u, ([Value.int .i64 d.kind, .string d.k, .string d.v, .int .i64 d.to])[j]? = some u → W.cell? ((⟨w.heap.size, 0, none⟩ : Addr).add j) = some u := fun j u hu => by
    rw [hW, Addr.add_lit, (heap_at (heap_alloc_new w _) _).1]
    simpa using hu
  rw [← hW]
  have sW := s.below bA
  have d1 := sW.own.pg.dat k 1 ⟨90, 4, x.X.ds.length, .slice x.s1.a x.s1.n x.s1.c, dcs x.X.ds⟩ (by unfold sbAt; rw [hi]; rfl)
  simp only at d1
  obtain ⟨v', w6, hr, ho, hgr, hnn, hbl⟩ := app_at (P := Tryz.prog) (w := W) (B := B) 65 65 90 Tryz.underlying65 hi0 hz0 hz1 hz2 rfl (by decide) d1 ⟨w.heap.size, 0, none⟩ 1 1 [.int .i64 d.kind, .string d.k, .string d.v, .int .i64 d.to] rfl hcells (by
      intro u hu
      simp only [List.mem_cons, List.not_mem_nil, or_false] at hu
      rcases hu with rfl | rfl | rfl | rfl <;> rfl) (by unfold maxLen; omega) (by omega) (by omega) (fun _ => by omega)
  obtain ⟨a', c', rfl⟩ : ∃ a' c', v' = .slice a' (x.X.ds.length + 1) c' := by
    rcases ho.2 with ⟨e, _⟩ | ⟨_, _, _, e, _⟩
    · exact absurd e hnn
    · exact ⟨_, _, e⟩
  have hw := WrB.of_grown hgr
  have hsb : sbAt (hs.map ppEl) k 1 = some ⟨90, 4, x.X.ds.length, .slice x.s1.a x.s1.n x.s1.c, dcs x.X.ds⟩ := by unfold sbAt; rw [hi]; rfl
  have cs' : dcs x.X.ds ++ [.int .i64 d.kind, .string d.k, .string d.v, .int .i64 d.to] = dcs (x.X.ds ++ [d]) := by rw [dcs_append]; rfl
  rw [cs'] at ho
  have N6 := sW.own.pg.appSb (a := 1) (x' := ⟨90, 4, x.X.ds.length + 1, .slice a' (x.X.ds.length + 1) c', dcs (x.X.ds ++ [d])⟩) hi rfl (by
      rcases hbl with h | h
      · exact .inl h
      · exact .inr ⟨_, Nat.le_refl _, h⟩) ho hw
  have hil : k < (hs.map ppEl).length := by rw [List.length_map]; exact hk
  obtain ⟨N7, hw7⟩ := N6.setHd (j := 4) (List.getElem?_set_self hil) (by decide) (.slice a' (x.X.ds.length + 1) c')
  rw [List.set_set] at N7
  have hN : NOwn (w6.setCell ⟨g, k * 5 + 4, none⟩ (.slice a' (x.X.ds.length + 1) c')) B 67 5 (.slice (some ⟨g, 0, none⟩) hs.length c) (hs.set k ⟨⟨x.X.lo, x.X.hi, x.X.r, x.X.es, x.X.ds ++ [d]⟩, x.s0, ⟨a', x.X.ds.length + 1, c'⟩⟩).length ((hs.set k ⟨⟨x.X.lo, x.X.hi, x.X.r, x.X.es, x.X.ds ++ [d]⟩, x.s0, ⟨a', x.X.ds.length + 1, c'⟩⟩).map ppEl) := by
    rw [List.map_set, List.length_set]
    have e : ppEl ⟨⟨x.X.lo, x.X.hi, x.X.r, x.X.es, x.X.ds ++ [d]⟩, x.s0, ⟨a', x.X.ds.length + 1, c'⟩⟩ = ⟨(ppEl x).hd.set 4 (.slice a' (x.X.ds.length + 1) c'), (ppEl x).sb.set 1 ⟨90, 4, x.X.ds.length + 1, .slice a' (x.X.ds.length + 1) c', dcs (x.X.ds ++ [d])⟩⟩ := by
      unfold ppEl
      simp
    rw [e]
    exact N7
  have P6 : ∀ i, (Value.slice x.s1.a x.s1.n x.s1.c).ownBlock = some i → i < W.heap.size → NBl (.slice (some ⟨g, 0, none⟩) hs.length c) (hs.map ppEl) i := fun i hi2 _ => .inr ⟨k, 1, _, hsb, hi2⟩
  have HW : WrB (fun i => (Value.slice x.s1.a x.s1.n x.s1.c).ownBlock = some i ∨ i = g) W (w6.setCell ⟨g, k * 5 + 4, none⟩ (.slice a' (x.X.ds.length + 1) c')) := (hw.weak (fun i hi => .inl hi)).seq (hw7.weak (fun i hi => .inr hi))
  have S7 := sW.row hN HW (fun i hi hl => by
    rcases hi with hi | hi
    · exact P6 i hi hl
    · exact .inl (by rw [hi]; rfl))
  have k6 := (hw.block tb (blk_lt sW.box) (fun hp => nbl_tree sW.own.pg sW.box (by decide) (by decide) (by decide) (P6 tb hp (blk_lt sW.box)))).trans sW.box
  refine ⟨g, c, a', c', w6, rfl, hr, fun j hj => ?_, fun j => N6.free j, (bA.mono hB).trans (WrB.below hw (fun i hi2 => (d1.lt i hi2).1) (by omega)), S7, hg, hne, k6⟩
  refine N6.cell (List.getElem?_set_self hil) ?_
  exact List.getElem?_eq_getElem (l := pcs x) hj
end Go.Proofs.YtbhkmmdcdfjbkaaGreat

namespace Go.Proofs.YtbhkmmdcdfjbkaaGreat
open Go.RowKit

/-- What a step of the specification gives. -/
def SpRes (r : StR) (w : World) (e : Ending) (w' : World) : Prop := ∃ a1 n c1 a2 c2 a3 m c3 hs told, e = .returned (.tuple #[.agg #[.slice a1 n c1, .slice a2 n c2, .slice a3 m c3], .int .i64 told, .int .i64 r.code]) ∧ (r.code = 0 → told = r.told ∧ TsOwn w' w.heap.size a1 c1 a2 c2 a3 c3 n m hs r.ps r.idx) ∧ Below w.heap.size w w'
theorem SpRes.no {r : StR} {w w' : World} {a1 a2 a3 : Option Addr} {n m c1 c2 c3 : Nat} {told : Int} (hr : r.code ≠ 0) (hb : Below w.heap.size w w') : SpRes r w (.returned (.tuple #[.agg #[.slice a1 n c1, .slice a2 n c2, .slice a3 m c3], .int .i64 told, .int .i64 r.code])) w' :=
  ⟨a1, n, c1, a2, c2, a3, m, c3, [], told, rfl, fun h => absurd h hr, hb⟩
theorem TsOwn.few {w : World} {B : Nat} {a1 a2 a3 : Option Addr} {c1 c2 c3 n m : Nat} {hs : List PpH} {ps : List (Option PageD)} {idx : List RefD} (h : TsOwn w B a1 c1 a2 c2 a3 c3 n m hs ps idx) (t : Tre ps idx) : ∀ x ∈ hs, x.s0.n ≤ 32 ∧ x.s1.n ≤ 12 := fun x hx => by
  obtain ⟨i, hi, e⟩ := List.getElem_of_mem hx
  have hp : i < ps.length := by rw [h.ln, ← h.hl]; exact hi
  obtain ⟨b, y, _, hy, hX, P⟩ := h.at hp
  rw [List.getElem?_eq_getElem hi, e] at hy
  injection hy with hy
  subst hy
  have := pgD_few t (List.getElem_mem hp)
  rw [← hX] at this
  exact ⟨by rw [← P.es.1]; exact this.1, by rw [← P.ds.1]; exact this.2⟩
theorem TsOwn.tg {w : World} {B tb : Nat} {a1 a2 a3 : Option Addr} {c1 c2 c3 n m : Nat} {hs : List PpH} {ps : List (Option PageD)} {idx : List RefD} (h : TsOwn w B a1 c1 a2 c2 a3 c3 n m hs ps idx) (hb : w.heap[tb]? = some (.cells #[.slice a1 n c1, .slice a2 n c2, .slice a3 m c3] 29 (0, 0))) : TgSt w B tb (.slice a1 n c1) (.slice a2 n c2) (.slice a3 m c3) hs (ps.map (·.isNone)) idx := by
  refine ⟨?_, hb⟩
  have := h.own
  rw [h.hl, List.length_map, h.ln]
  exact this
theorem TgSt.ts {w : World} {B tb : Nat} {a1 a2 a3 : Option Addr} {c1 c2 c3 n m : Nat} {hs : List PpH} {gs : List Bool} {ps : List (Option PageD)} {idx : List RefD} (s : TgSt w B tb (.slice a1 n c1) (.slice a2 n c2) (.slice a3 m c3) hs gs idx) (hg : gs = ps.map (·.isNone)) (hd : hs.map (·.X) = ps.map pgD) (hn : ps.length = n) (hm : idx.length = m) : TsOwn w B a1 c1 a2 c2 a3 c3 n m hs ps idx := by
  subst hg
  have l1 : hs.length = n := by
    have := congrArg List.length hd
    rw [List.length_map, List.length_map, hn] at this
    exact this
  have l2 : (ps.map (·.isNone)).length = n := by rw [List.length_map]; exact hn
  have := s.own
  rw [l1, l2] at this
  exact ⟨this, hd, hn, hm⟩
theorem getP_is {ps : List (Option PageD)} {k : Nat} {p : PageD} (h : getP ps (k : Int) = some p) : ∃ hk : k < ps.length, ps[k] = some p := by
  rw [getP_nat] at h
  cases e : ps[k]? with
  | none => rw [e] at h; cases h
  | some q =>
    rw [e] at h
    obtain ⟨hk, hq⟩ := List.getElem?_eq_some_iff.1 e
    refine ⟨hk, hq.trans ?_⟩
    cases q with
    | none => cases h
    | some p' => exact h
theorem none_set {ps : List (Option PageD)} {k : Nat} {p q : PageD} (h : getP ps (k : Int) = some p) : ps.map (·.isNone) = (ps.set k (some q)).map (·.isNone) := by
  obtain ⟨hk, he⟩ := getP_is h
  rw [List.map_set]
  symm
  have : (ps.map (·.isNone))[k]'(by rw [List.length_map]; exact hk) = (some q : Option PageD).isNone := by rw [List.getElem_map, he]; rfl
  rw [← this, List.set_getElem_self]
theorem dat_set {hs : List PpH} {ps : List (Option PageD)} (h : hs.map (·.X) = ps.map pgD) (k : Nat) (x : PpH) (q : Option PageD) (e : x.X = pgD q) : (hs.set k x).map (·.X) = (ps.set k q).map pgD := by
  rw [List.map_set, List.map_set, h, e]
theorem us_drow {w : World} (d : DelD) : DRow (w.alloc (.cells #[.int .i64 d.kind, .string d.k, .string d.v, .int .i64 d.to] 90)) (some ⟨w.heap.size, 0, none⟩) 1 [d] := by
  have K := heap_alloc_new w (.cells #[.int .i64 d.kind, .string d.k, .string d.v, .int .i64 d.to] 90)
  refine ⟨rfl, fun i hi => ?_⟩
  obtain rfl : i = 0 := by simpa using hi
  exact ⟨w.heap.size, 0, rfl, (heap_at K 0).1, (heap_at K 1).1, (heap_at K 2).1, (heap_at K 3).1⟩
theorem set5_wr' (w : World) (b : Nat) (v0 v1 v2 v3 v4 : Value) : WrB (fun i => i = b) w (((((w.setCell ⟨b, 0, none⟩ v0).setCell ⟨b, 1, none⟩ v1).setCell ⟨b, 2, none⟩ v2).setCell ⟨b, 3, none⟩ v3).setCell ⟨b, 4, none⟩ v4) :=
  (set1_wr w b 0 v0).seq ((set1_wr _ b 1 v1).seq ((set1_wr _ b 2 v2).seq ((set1_wr _ b 3 v3).seq (set1_wr _ b 4 v4))))
theorem set5_hp {w : World} {b : Nat} {u0 u1 u2 u3 u4 : Value} {t : TypeId} (h : w.heap[b]? = some (.cells #[u0, u1, u2, u3, u4] t (0, 0))) (v0 v1 v2 v3 v4 : Value) : (((((w.setCell ⟨b, 0, none⟩ v0).setCell ⟨b, 1, none⟩ v1).setCell ⟨b, 2, none⟩ v2).setCell ⟨b, 3, none⟩ v3).setCell ⟨b, 4, none⟩ v4).heap[b]? = some (.cells #[v0, v1, v2, v3, v4] t (0, 0)) := by
  have h1 := heap_set h 0 v0
  have h2 := heap_set h1 1 v1
  have h3 := heap_set h2 2 v2
  have h4 := heap_set h3 3 v3
  have h5 := heap_set h4 4 v4
  simpa using h5
theorem set3_hp {w : World} {b : Nat} {u0 u1 u2 : Value} {t : TypeId} (h : w.heap[b]? = some (.cells #[u0, u1, u2] t (0, 0))) (v0 v1 v2 : Value) : (((w.setCell ⟨b, 0, none⟩ v0).setCell ⟨b, 1, none⟩ v1).setCell ⟨b, 2, none⟩ v2).heap[b]? = some (.cells #[v0, v1, v2] t (0, 0)) := by
  have h1 := heap_set h 0 v0
  have h2 := heap_set h1 1 v1
  have h3 := heap_set h2 2 v2
  simpa using h3
/-- The page a change goes to, as it stands ahead of the change. -/
structure RmSt (W V : World) (pb db : Nat) (R : PageD) (D : DelD) (s0 s1 : Sl) : Prop where
  bel : Below W.heap.size W V
  pg : V.heap[pb]? = some (.cells #[.string R.lo, .string R.hi, .int .i64 R.r, .slice s0.a s0.n s0.c, .slice s1.a s1.n s1.c] 67 (0, 0))
  dl : V.heap[db]? = some (.cells #[.int .i64 D.kind, .string D.k, .string D.v, .int .i64 D.to] 90 (0, 0))
  es : ERow V s0.a s0.n R.es
  ds : DRow V s1.a s1.n R.ds
  ce : s0.a = none → s0.c = 0
  cd : s1.a = none → s1.c = 0
  pge : W.heap.size ≤ pb
  dge : W.heap.size ≤ db
/-- The page with its change, in new memory, in its box. -/
structure CgSt (W u : World) (pb : Nat) (X : PageD) (s0 s1 : Sl) : Prop where
  bel : Below W.heap.size W u
  pg : u.heap[pb]? = some (.cells #[.string X.lo, .string X.hi, .int .i64 X.r, .slice s0.a s0.n s0.c, .slice s1.a s1.n s1.c] 67 (0, 0))
  es : EOwns u W.heap.size (.slice s0.a s0.n s0.c) X.es
  ds : DOwns u W.heap.size (.slice s1.a s1.n s1.c) X.ds
theorem CgSt.below {W u u' : World} {pb : Nat} {X : PageD} {s0 s1 : Sl} (h : CgSt W u pb X s0 s1) (hb : Below u.heap.size u u') : CgSt W u' pb X s0 s1 :=
  ⟨h.bel.trans (hb.mono h.bel.size), (hb.block pb (blk_lt h.pg)).trans h.pg, rb_ownsRow_below h.es hb, rb_ownsRow_below h.ds hb⟩
/-- l04Own's page laid into the box. -/
theorem RmSt.own {W V u : World} {pb db : Nat} {R : PageD} {D : DelD} {s0 s1 t0 t1 : Sl} (h : RmSt W V pb db R D s0 s1) (hb : Below V.heap.size V u) (ho : PgOwn u V.heap.size t0.a t0.n t0.c t1.a t1.n t1.c R.es R.ds) :
    CgSt W (((((u.setCell ⟨pb, 0, none⟩ (.string R.lo)).setCell ⟨pb, 1, none⟩ (.string R.hi)).setCell ⟨pb, 2, none⟩ (.int .i64 R.r)).setCell ⟨pb, 3, none⟩ (.slice t0.a t0.n t0.c)).setCell ⟨pb, 4, none⟩ (.slice t1.a t1.n t1.c)) pb R t0 t1 ∧ (((((u.setCell ⟨pb, 0, none⟩ (.string R.lo)).setCell ⟨pb, 1, none⟩ (.string R.hi)).setCell ⟨pb, 2, none⟩ (.int .i64 R.r)).setCell ⟨pb, 3, none⟩ (.slice t0.a t0.n t0.c)).setCell ⟨pb, 4, none⟩ (.slice t1.a t1.n t1.c)).heap[db]? = some (.cells #[.int .i64 D.kind, .string D.k, .string D.v, .int .i64 D.to] 90 (0, 0)) := by
  have kp := (hb.block pb (blk_lt h.pg)).trans h.pg
  have kd := (hb.block db (blk_lt h.dl)).trans h.dl
  have hw := set5_wr' u pb (.string R.lo) (.string R.hi) (.int .i64 R.r) (.slice t0.a t0.n t0.c) (.slice t1.a t1.n t1.c)
  have ne : db ≠ pb := fun e => by rw [e, kp] at kd; injection kd with kd; injection kd with _ kd _; exact absurd kd (by decide)
  have hbu := h.bel.trans (hb.mono h.bel.size)
  refine ⟨⟨hbu.trans (WrB.below hw (fun i e => by rw [e]; exact h.pge) hbu.size), set5_hp kp _ _ _ _ _, gd_base (own_keep ho.1 kp (by decide) hw) h.bel.size, gd_base (own_keep ho.2.1 kp (by decide) hw) h.bel.size⟩, (hw.block db (blk_lt kd) ne).trans kd⟩
/-- The change behind the chain. -/
theorem CgSt.app {W u : World} {pb : Nat} {R : PageD} {D : DelD} {t0 t1 : Sl} (h : CgSt W u pb R t0 t1) (hn : R.ds.length ≤ 1000) (hpb : W.heap.size ≤ pb) :
    ∃ a' n' c' u', (Builtin.append_ #[65, 65] 65 #[.slice t1.a t1.n t1.c, .slice (some ⟨u.heap.size, 0, none⟩) 1 1]).run Tryz.prog (u.alloc (.cells #[.int .i64 D.kind, .string D.k, .string D.v, .int .i64 D.to] 90)) = .ok (.slice a' n' c') u' ∧ u'.heap[pb]? = some (.cells #[.string R.lo, .string R.hi, .int .i64 R.r, .slice t0.a t0.n t0.c, .slice t1.a t1.n t1.c] 67 (0, 0)) ∧ CgSt W (u'.setCell ⟨pb, 4, none⟩ (.slice a' n' c')) pb (addD R D) t0 ⟨a', n', c'⟩ := by
  have bA : Below u.heap.size u (u.alloc (.cells #[.int .i64 D.kind, .string D.k, .string D.v, .int .i64 D.to] 90)) := (Below.refl _ _).alloc (Nat.le_refl _) _
  have hA := h.below bA
  obtain ⟨v', u', hr, ho, hg, _⟩ := run_appD (c := 1) 65 hA.ds (us_drow (w := u) D) (by omega) (by omega) (fun e => by cases e) hA.bel.size
  obtain ⟨a', c', rfl⟩ := us_sl ho
  have hw := WrB.of_grown hg
  have kp := (hw.block pb (blk_lt hA.pg) (own_box hA.ds hA.pg (by decide))).trans hA.pg
  have oe := rr_owns_wr hA.es hw (fun i hi => own_other hA.es hA.ds (by decide) hi)
  have c := set1_wr u' pb 4 (.slice a' (R.ds ++ [D]).length c')
  have bel := hA.bel.trans (WrB.below hw (fun i hi => (hA.ds.lt i hi).1) hA.bel.size)
  refine ⟨a', (R.ds ++ [D]).length, c', u', hr, kp, ⟨bel.trans (WrB.below c (fun i e => by rw [e]; exact hpb) bel.size), ?_, own_keep oe kp (by decide) c, own_keep ho kp (by decide) c⟩⟩
  show (u'.setCell ⟨pb, 4, none⟩ (.slice a' (R.ds ++ [D]).length c')).heap[pb]? = some (.cells #[.string R.lo, .string R.hi, .int .i64 R.r, .slice t0.a t0.n t0.c, .slice a' (R.ds ++ [D]).length c'] 67 (0, 0))
  have := heap_set kp 4 (.slice a' (R.ds ++ [D]).length c')
  simpa using this
set_option maxRecDepth 100000 in
set_option maxHeartbeats 8000000 in
theorem l05Change_any (B : Nat) (a1 : Option Addr) (c1 : Nat) (a2 : Option Addr) (c2 : Nat) (a3 : Option Addr) (c3 n m : Nat) (hs : List PpH) (ps : List (Option PageD)) (idx : List RefD) (ac : AcT) (gone : Bool) (w : World) (hO : TsOwn w B a1 c1 a2 c2 a3 c3 n m hs ps idx) (hT : Tre ps idx) (hkey : keyK ac.key = true) (hval : valK ac.val = true) (hgo : (ac.kind = 1 ∧ gone = false) ∨ (ac.kind = 2 ∧ gone = true)) :
    Calls Tryz.prog 56 #[.agg #[.slice a1 n c1, .slice a2 n c2, .slice a3 m c3], .string ac.key, .string ac.val, .bool gone] w fun e w' => SpRes (chgT ps idx ac) w e w' := by
  obtain ⟨p, hd1, hd2, hd3, _⟩ := hT.good.down ac.key
  have CT : chgT ps idx ac = if 32 < (enP (addD (roomP p) (chgD ac))).length then ⟨ps, idx, 0, 7⟩ else ⟨ps.set (downT ps idx ac.key).1.toNat (some (addD (roomP p) (chgD ac))), idx, (downT ps idx ac.key).1, 0⟩ := by
    unfold chgT
    rw [if_neg (by rw [hkey, hval]; simp), hd1]
  obtain ⟨k, hkE, hkl⟩ := getP_lt hd1
  rw [hkE, Int.toNat_natCast] at CT
  rw [hkE] at hd1
  obtain ⟨_, hpk⟩ := getP_is hd1
  have hokp := hT.ok _ p hd1
  have RO := roomP_ok hokp
  obtain ⟨W, hW, k1, k2, z, b0⟩ := tw_new w (.slice a1 n c1) (.slice a2 n c2) (.slice a3 m c3)
  have OW := hO.below b0
  have few := OW.few hT
  have hkn : k < n := by rw [← OW.ln]; exact hkl
  have HD := hide (l05Down_any a1 n c1 a2 n c2 a3 m c3 hs (ps.map (·.isNone)) idx ac.key W OW.trIn (by rw [OW.here]; exact hT.good) (fun h hh => by have := few h hh; omega))
  rw [OW.here, hkE] at HD
  obtain ⟨b, x, ha, -, hxX, P⟩ := OW.at hkl
  rw [hpk] at hxX
  replace hxX : x.X = p := hxX
  subst hxX
  have hn0 : x.s0.n ≤ 32 := by rw [← P.es.1]; exact (ok_parts hokp).2.1
  have hn1 : x.s1.n ≤ 12 := by rw [← P.ds.1]; exact (ok_parts hokp).2.2.1
  have hfull : (x.s1.n : Int) = 12 ↔ x.X.ds.length = 12 := by rw [P.ds.1]; omega
  subst ha
  have hz1 : w.heap.size < W.heap.size := by omega
  have hz2 : w.heap.size + 1 < W.heap.size := by omega
  have B0 := hide b0
  have K1 := hide k1
  have K2 := hide k2
  have OWh := hide OW
  have Ph := hide P
  have CTh := hide CT
  have HTh := hide hT
  have GPh := hide hd1
  have HW := hide hW
  have ROh := hide RO
  obtain ⟨DD, hDD⟩ : ∃ DD, DD = chgD ac := ⟨_, rfl⟩
  have DDh := hide hDD
  have SKP := hide (show ∀ u, Below W.heap.size W u → u.cell? ⟨w.heap.size, 0, none⟩ = some (.slice (some ⟨b, 0, none⟩) n c1) ∧ u.cell? ⟨w.heap.size, 1, none⟩ = some (.slice a2 n c2) ∧ u.cell? ⟨w.heap.size, 2, none⟩ = some (.slice a3 m c3) from fun u hu => by
    have h := (hu.block w.heap.size hz1).trans k1
    exact ⟨(heap_at h 0).1, (heap_at h 1).1, (heap_at h 2).1⟩)
  have e0 := (heap_at k1 0).1
  have e1 := (heap_at k1 1).1
  have e2 := (heap_at k1 2).1
  clear b0 k1 k2 z OW few P CT hO hT hd1 hd2 hd3 hkE hpk RO hDD hW
  go_enter Tryz.func56, Tryz.ntmps56
  go_upto_region 1 with fail
  rw [← unhide HW]
  clear HW
  go_wp2_with fail
  refine (unhide HD).mono ?_
  rintro e u1 ⟨rfl, hb1⟩
  clear HD e0 e1 e2
  obtain ⟨e0, e1, e2⟩ := unhide SKP u1 hb1
  have P1 := (unhide Ph).below hb1
  have q0 := P1.c0
  have q1 := P1.c1
  have q2 := P1.c2
  have q3 := P1.c3
  have q4 := P1.c4
  have hu1 := hb1.size
  have B1h := hide hb1
  have P1h := hide P1
  clear P1 hb1 Ph
  obtain ⟨X, ⟨sa, sn, sc⟩, ⟨da, dn, dc⟩⟩ := x
  simp only at q0 q1 q2 q3 q4 hn0 hn1 hfull hokp ROh
  rcases hgo with ⟨hkd, rfl⟩ | ⟨hkd, rfl⟩
  · by_cases hf : (dn : Int) = 12
    · have hD : DD = ⟨1, ac.key, ac.val, 0⟩ := by
        rw [unhide DDh]
        unfold chgD
        rw [if_pos (by omega)]
      have hfl : (dn : Int) = 12 := hf
      have hRX : roomP X = conPg X := by
        unfold roomP
        rw [if_pos (hfull.1 hf)]
      have K3 := heap_alloc_new u1 (.cells #[.string X.lo, .string X.hi, .int .i64 X.r, .slice sa sn sc, .slice da dn dc] 67)
      have BA : Below u1.heap.size u1 (u1.alloc (.cells #[.string X.lo, .string X.hi, .int .i64 X.r, .slice sa sn sc, .slice da dn dc] 67)) := (Below.refl _ _).alloc (Nat.le_refl _) _
      have BD : Below (u1.alloc (.cells #[.string X.lo, .string X.hi, .int .i64 X.r, .slice sa sn sc, .slice da dn dc] 67)).heap.size (u1.alloc (.cells #[.string X.lo, .string X.hi, .int .i64 X.r, .slice sa sn sc, .slice da dn dc] 67)) ((u1.alloc (.cells #[.string X.lo, .string X.hi, .int .i64 X.r, .slice sa sn sc, .slice da dn dc] 67)).alloc (.cells #[.int .i64 1, .string ac.key, .string ac.val, .int .i64 0] 90)) := (Below.refl _ _).alloc (Nat.le_refl _) _
      have K4 := heap_alloc_new (u1.alloc (.cells #[.string X.lo, .string X.hi, .int .i64 X.r, .slice sa sn sc, .slice da dn dc] 67)) (.cells #[.int .i64 1, .string ac.key, .string ac.val, .int .i64 0] 90)
      have zA : (u1.alloc (.cells #[.string X.lo, .string X.hi, .int .i64 X.r, .slice sa sn sc, .slice da dn dc] 67)).heap.size = u1.heap.size + 1 := by simp
      have BAD := BA.trans (BD.mono BA.size)
      have K3' := (BD.block u1.heap.size (by omega)).trans K3
      have ST0 := hide (show RmSt W ((u1.alloc (.cells #[.string X.lo, .string X.hi, .int .i64 X.r, .slice sa sn sc, .slice da dn dc] 67)).alloc (.cells #[.int .i64 1, .string ac.key, .string ac.val, .int .i64 0] 90)) u1.heap.size (u1.heap.size + 1) X DD ⟨sa, sn, sc⟩ ⟨da, dn, dc⟩ from ⟨(unhide B1h).trans (BAD.mono hu1), K3', (by rw [hD, ← zA]; exact K4), (unhide P1h).es.below BAD, (unhide P1h).ds.below BAD, (unhide P1h).ce, (unhide P1h).cd, hu1, by omega⟩)
      obtain ⟨C, hC⟩ : ∃ C, C = conPg X := ⟨_, rfl⟩
      have RRE := hide (show C = roomP X by rw [hC, hRX])
      have RRh := hide (show C.es.length ≤ 32 ∧ C.ds.length < 12 from ⟨by rw [hC]; exact enP_len hokp, by rw [hC]; show 0 < 12; decide⟩)
      have CF := hide (show C.lo = X.lo ∧ C.hi = hiP X ∧ C.r = riP X ∧ C.es = enP X ∧ C.ds = [] by rw [hC]; exact ⟨rfl, rfl, rfl, rfl, rfl⟩)
      clear K3 BA BD K4 zA BAD K3' hRX hD hC
      go_upto_region 6 with fail
      generalize (u1.alloc (.cells #[.string X.lo, .string X.hi, .int .i64 X.r, .slice sa sn sc, .slice da dn dc] 67)).alloc (.cells #[.int .i64 1, .string ac.key, .string ac.val, .int .i64 0] 90) = V0 at *
      generalize u1.heap.size = pb at *
      generalize hdb : pb + 1 = db at *
      clear hdb
      obtain ⟨p0, p1, p2, p3, p4⟩ := pg_cells5 (unhide ST0).pg
      have HCN := hide (l04Consolidate_any X.lo X.hi X.r sa sn sc X.es da dn dc X.ds V0 (unhide ST0).es (unhide ST0).ds (by omega) (by omega) (unhide ST0).ce)
      unfold pgv at HCN
      rw [show highE X.hi X.ds = C.hi from (unhide CF).2.1.symm, show rightE X.r X.ds = C.r from (unhide CF).2.2.1.symm, show entsE X.es X.ds = C.es from (unhide CF).2.2.2.1.symm, ← (unhide CF).1] at HCN
      clear q0 q1 q2 q3 q4 e0 e1 e2
      have hLO : X.lo = C.lo := (unhide CF).1.symm
      rw [hLO] at p0
      go_upto_region 7 with fail
      go_wp2_with fail
      refine (unhide HCN).mono ?_
      rintro e uC ⟨aK, nK, kK, rfl, hOK, hbC⟩
      clear HCN p0 p1 p2 p3 p4
      have kpC := (hbC.block pb (blk_lt (unhide ST0).pg)).trans (unhide ST0).pg
      have kdC := (hbC.block db (blk_lt (unhide ST0).dl)).trans (unhide ST0).dl
      obtain ⟨p0, p1, p2, p3, p4⟩ := pg_cells5 kpC
      obtain ⟨f0, f1, f2, f3, f4⟩ := fz_cells kpC
      have ST := hide (show RmSt W (((((uC.setCell ⟨pb, 0, none⟩ (.string C.lo)).setCell ⟨pb, 1, none⟩ (.string C.hi)).setCell ⟨pb, 2, none⟩ (.int .i64 C.r)).setCell ⟨pb, 3, none⟩ (.slice aK nK kK)).setCell ⟨pb, 4, none⟩ (.slice none 0 0)) pb db C DD ⟨aK, nK, kK⟩ ⟨none, 0, 0⟩ from by
        have hw := set5_wr' uC pb (.string C.lo) (.string C.hi) (.int .i64 C.r) (.slice aK nK kK) (.slice none 0 0)
        have ne : db ≠ pb := fun e => by rw [e, kpC] at kdC; injection kdC with kdC; injection kdC with _ kdC _; exact absurd kdC (by decide)
        have hbu := (unhide ST0).bel.trans (hbC.mono (unhide ST0).bel.size)
        have oK := own_keep hOK kpC (by decide) hw
        exact ⟨hbu.trans (WrB.below hw (fun i e => by rw [e]; exact (unhide ST0).pge) hbu.size), set5_hp kpC _ _ _ _ _, (hw.block db (blk_lt kdC) ne).trans kdC, erow_of_owns oK, (by rw [(unhide CF).2.2.2.2]; exact ⟨rfl, fun i hi => absurd hi (Nat.not_lt_zero _)⟩), own_cap0 oK, fun _ => rfl, (unhide ST0).pge, (unhide ST0).dge⟩)
      clear kpC kdC hOK hbC ST0
      go_upto_region 8 with fail
      generalize ((((uC.setCell ⟨pb, 0, none⟩ (.string C.lo)).setCell ⟨pb, 1, none⟩ (.string C.hi)).setCell ⟨pb, 2, none⟩ (.int .i64 C.r)).setCell ⟨pb, 3, none⟩ (.slice aK nK kK)).setCell ⟨pb, 4, none⟩ (.slice none 0 0) = V at *
      clear p0 p1 p2 p3 p4 f0 f1 f2 f3 f4
      have hRd : C.ds.length ≤ 12 := Nat.le_of_lt (unhide RRh).2
      have hRe : C.es.length ≤ 32 := (unhide RRh).1
      have HOW := hide (l04Own_any C.lo C.hi C.r aK nK kK C.es none 0 0 C.ds V (unhide ST).es (unhide ST).ds (by have h : C.es.length = _ := (unhide ST).es.1; simp only at h; omega) (by have h : C.ds.length = _ := (unhide ST).ds.1; simp only at h; omega) (unhide ST).ce (unhide ST).cd)
      unfold pgv at HOW
      obtain ⟨p0, p1, p2, p3, p4⟩ := pg_cells5 (unhide ST).pg
      go_upto_region 8 with fail
      go_wp2_with fail
      refine (unhide HOW).mono ?_
      rintro e u2 ⟨ae, ne, ce, ad, nd, cd, rfl, hPO, hb2⟩
      clear HOW p0 p1 p2 p3 p4
      have kp2 := (hb2.block pb (blk_lt (unhide ST).pg)).trans (unhide ST).pg
      obtain ⟨p0, p1, p2, p3, p4⟩ := pg_cells5 kp2
      obtain ⟨f0, f1, f2, f3, f4⟩ := fz_cells kp2
      obtain ⟨cg, kd⟩ := (unhide ST).own (t0 := ⟨ae, ne, ce⟩) (t1 := ⟨ad, nd, cd⟩) hb2 hPO
      simp only at cg kd
      have CG := hide cg
      have hpge := (unhide ST).pge
      clear cg hPO hb2 kp2
      go_upto_region 9 with fail
      generalize ((((u2.setCell ⟨pb, 0, none⟩ (.string C.lo)).setCell ⟨pb, 1, none⟩ (.string C.hi)).setCell ⟨pb, 2, none⟩ (.int .i64 C.r)).setCell ⟨pb, 3, none⟩ (.slice ae ne ce)).setCell ⟨pb, 4, none⟩ (.slice ad nd cd) = u3 at *
      clear p0 p1 p2 p3 p4 f0 f1 f2 f3 f4
      have p4 := (heap_at (unhide CG).pg 4).1
      have d0 := (heap_at kd 0).1
      have d1 := (heap_at kd 1).1
      have d2 := (heap_at kd 2).1
      have d3 := (heap_at kd 3).1
      obtain ⟨a', n', c', u4, hrD, kp4, cg4⟩ := (unhide CG).app (D := DD) (by omega) hpge
      simp only at hrD kp4 cg4
      have CG4 := hide cg4
      have r4 := (heap_at kp4 4).1
      have f4 := (heap_at kp4 4).2
      clear cg4 kp4 kd
      go_upto_region 10 with (at_builtin; refine wpAppE rfl _ _ 65 rfl _ _ (.slice a' n' c') u4 rfl rfl hrD ?_)
      generalize u4.setCell ⟨pb, 4, none⟩ (.slice a' n' c') = u5 at *
      clear p4 d0 d1 d2 d3 hrD r4 f4
      obtain ⟨p0, p1, p2, p3, p4⟩ := pg_cells5 (unhide CG4).pg
      have hq1 : (addD C DD).es.length = ne := (erow_of_owns (unhide CG4).es).1
      have hq2 : (addD C DD).ds.length = n' := (drow_of_owns (unhide CG4).ds).1
      have hq3 : (addD C DD).es.length = C.es.length := rfl
      have hq4 : (addD C DD).ds.length = C.ds.length + 1 := by show (C.ds ++ [DD]).length = _; rw [List.length_append]; rfl
      have HEN := hide (l04Entries_any (addD C DD).lo (addD C DD).hi (addD C DD).r ae ne ce (addD C DD).es a' n' c' (addD C DD).ds u5 (erow_of_owns (unhide CG4).es) (drow_of_owns (unhide CG4).ds) (by omega) (by omega) (own_cap0 (unhide CG4).es))
      unfold pgv at HEN
      obtain ⟨L, hL⟩ : ∃ L, L = (entsE (addD C DD).es (addD C DD).ds).length := ⟨_, rfl⟩
      rw [← hL] at HEN
      have HL := hide (show (enP (addD (roomP X) (chgD ac))).length = L by rw [hL, ← unhide RRE, ← unhide DDh])
      have hLm : L ≤ maxLen := by
        have h1 : (entsE (addD C DD).es (addD C DD).ds).length ≤ _ := entsE_len _ _
        rw [← hL] at h1
        unfold maxLen
        omega
      clear hL hq1 hq2 hq3 hq4
      unfold maxLen at hLm
      go_wp2_with fail
      refine (unhide HEN).mono ?_
      rintro e u6 ⟨g6, k6, rfl, -, hb6⟩
      have CG6 := hide ((unhide CG4).below hb6)
      have B6 := (unhide CG6).bel
      obtain ⟨e0, e1, e2⟩ := unhide SKP u6 B6
      have kr6 := (B6.block (w.heap.size + 1) hz2).trans (unhide K2)
      have r0 := (heap_at kr6 0).1
      have r1 := (heap_at kr6 1).1
      have r2 := (heap_at kr6 2).1
      have g0 := (heap_at kr6 0).2
      have g1 := (heap_at kr6 1).2
      have g2 := (heap_at kr6 2).2
      have BB := (unhide B0).trans (B6.mono (unhide B0).size)
      clear HEN p0 p1 p2 p3 p4 CG4 kr6 hb6
      by_cases hbig : 32 < L
      · have RES := hide (show SpRes (chgT ps idx ac) w (.returned (.tuple #[.agg #[.slice (some ⟨b, 0, none⟩) n c1, .slice a2 n c2, .slice a3 m c3], .int .i64 (k : Int), .int .i64 7])) (((u6.setCell ⟨w.heap.size + 1, 0, none⟩ (.slice (some ⟨b, 0, none⟩) n c1)).setCell ⟨w.heap.size + 1, 1, none⟩ (.slice a2 n c2)).setCell ⟨w.heap.size + 1, 2, none⟩ (.slice a3 m c3)) by
          rw [unhide CTh, if_pos (by rw [unhide HL]; exact hbig)]
          exact SpRes.no (r := ⟨ps, idx, 0, 7⟩) (show (7 : Int) ≠ 0 by decide) (((BB.setCell (p := ⟨w.heap.size + 1, 0, none⟩) (Nat.le_succ _) _).setCell (p := ⟨w.heap.size + 1, 1, none⟩) (Nat.le_succ _) _).setCell (p := ⟨w.heap.size + 1, 2, none⟩) (Nat.le_succ _) _))
        clear BB B6 CTh HL
        go_wp2_with fail
        refine bodyPost_ret (v := .tuple #[.agg #[.slice (some ⟨b, 0, none⟩) n c1, .slice a2 n c2, .slice a3 m c3], .int .i64 (k : Int), .int .i64 7]) (by simp [results, Tryz.results56, go_sem, *]) rfl ?_
        exact unhide RES
      · have HON := hide (l05Own_any B (some ⟨b, 0, none⟩) c1 a2 c2 a3 c3 n m hs ps idx u6 ((unhide OWh).below B6) (unhide HTh))
        clear r0 r1 r2 g0 g1 g2
        go_wp2_with fail
        refine (unhide HON).mono ?_
        rintro e u7 ⟨b1, k1', b2, k2', b3, k3', hs7, rfl, O7, hb7⟩
        have O8 := O7.below ((Below.refl u7.heap.size u7).alloc (Nat.le_refl _) (.cells #[.slice b1 n k1', .slice b2 n k2', .slice b3 m k3'] 29))
        have CG8 := (unhide CG6).below (hb7.trans (((Below.refl u7.heap.size u7).alloc (Nat.le_refl _) (.cells #[.slice b1 n k1', .slice b2 n k2', .slice b3 m k3'] 29)).mono hb7.size))
        have kT := heap_alloc_new u7 (.cells #[.slice b1 n k1', .slice b2 n k2', .slice b3 m k3'] 29)
        have h67 := hb7.size
        have c6 := (unhide CG6)
        have hW6 := c6.bel.size
        have ape : ∀ g, (Value.slice ae ne ce).ownBlock = some g → ¬ NBl (.slice b1 n k1') (hs7.map ppEl) g := fun g hg hn => by
          have h1 := (O8.own.pg.lt g hn).1
          have h2 := (c6.es.lt g hg).2
          omega
        have apd : ∀ g, (Value.slice a' n' c').ownBlock = some g → ¬ NBl (.slice b1 n k1') (hs7.map ppEl) g := fun g hg hn => by
          have h1 := (O8.own.pg.lt g hn).1
          have h2 := (c6.ds.lt g hg).2
          omega
        have hk7 : k < hs7.length := by rw [O8.hl, ← O8.ln]; exact hkl
        have DAT := hide O8.dat
        have LNS := hide (show ps.length = n ∧ idx.length = m from ⟨O8.ln, O8.li⟩)
        have HL7 := hide O8.hl
        obtain ⟨g, gc, hb1, hcell, hfz, S9, W9, hBg, hgt⟩ := ((O8.dn hW6).tg kT).put hk7 (⟨addD C DD, ⟨ae, ne, ce⟩, ⟨a', n', c'⟩⟩ : PpH) CG8.es CG8.ds ape apd
        injection hb1 with hb1 hbn hbc
        clear hbn
        subst hb1 hbc
        have x0 := hcell 0 (by decide)
        have x1 := hcell 1 (by decide)
        have x2 := hcell 2 (by decide)
        have x3 := hcell 3 (by decide)
        have x4 := hcell 4 (by decide)
        have y0 := hfz (k * 5)
        have y1 := hfz (k * 5 + 1)
        have y2 := hfz (k * 5 + 2)
        have y3 := hfz (k * 5 + 3)
        have y4 := hfz (k * 5 + 4)
        unfold pcs at x0 x1 x2 x3 x4 S9 W9
        simp only [List.getElem_cons_zero, List.getElem_cons_succ, Nat.add_zero] at x0 x1 x2 x3 x4
        unfold setAll setAll setAll setAll setAll setAll at S9 W9
        simp only at S9 W9
        have S9h := hide S9
        have W9h := hide W9
        obtain ⟨p0, p1, p2, p3, p4⟩ := pg_cells5 CG8.pg
        have B8h := hide CG8.bel
        have t0 := (heap_at kT 0).1
        clear O7 hb7 O8 CG8 kT ape apd hcell hfz S9 W9 HON e0 e1 e2 c6 CG6 BB
        go_upto_region 13 with fail
        generalize u7.alloc (.cells #[.slice (some ⟨g, 0, none⟩) n k1', .slice b2 n k2', .slice b3 m k3'] 29) = u8 at *
        generalize u7.heap.size = tb at *
        go_upto_region 14 with fail
        have K9 := (unhide S9h).box
        have B9 := (unhide B8h).trans (WrB.below (unhide W9h) (fun i e => by rw [e]; exact hBg) (unhide B8h).size)
        have RS := hide (show TsOwn _ W.heap.size _ _ _ _ _ _ n m _ (ps.set k (some (addD C DD))) idx from (unhide S9h).ts (none_set (unhide GPh)) (dat_set (unhide DAT) k _ _ rfl) (by rw [List.length_set]; exact (unhide LNS).1) (unhide LNS).2)
        clear S9h W9h x0 x1 x2 x3 x4 y0 y1 y2 y3 y4 p0 p1 p2 p3 p4 t0
        generalize ((((u8.setCell ⟨g, k * 5, none⟩ (.string (addD C DD).lo)).setCell ⟨g, k * 5 + 1, none⟩ (.string (addD C DD).hi)).setCell ⟨g, k * 5 + 1 + 1, none⟩ (.int .i64 (addD C DD).r)).setCell ⟨g, k * 5 + 1 + 1 + 1, none⟩ (.slice ae ne ce)).setCell ⟨g, k * 5 + 1 + 1 + 1 + 1, none⟩ (.slice a' n' c') = u9 at *
        have z0 := (heap_at K9 0).1
        have z1 := (heap_at K9 1).1
        have z2 := (heap_at K9 2).1
        have kr9 := (B9.block (w.heap.size + 1) hz2).trans (unhide K2)
        have r0 := (heap_at kr9 0).1
        have r1 := (heap_at kr9 1).1
        have r2 := (heap_at kr9 2).1
        have g0 := (heap_at kr9 0).2
        have g1 := (heap_at kr9 1).2
        have g2 := (heap_at kr9 2).2
        have BB := (unhide B0).trans (B9.mono (unhide B0).size)
        have RES := hide (show SpRes (chgT ps idx ac) w (.returned (.tuple #[.agg #[.slice (some ⟨g, 0, none⟩) n k1', .slice b2 n k2', .slice b3 m k3'], .int .i64 (k : Int), .int .i64 0])) (((u9.setCell ⟨w.heap.size + 1, 0, none⟩ (.slice (some ⟨g, 0, none⟩) n k1')).setCell ⟨w.heap.size + 1, 1, none⟩ (.slice b2 n k2')).setCell ⟨w.heap.size + 1, 2, none⟩ (.slice b3 m k3')) by
          rw [unhide CTh, if_neg (by rw [unhide HL]; exact hbig), ← unhide RRE, ← unhide DDh]
          exact ⟨_, _, _, _, _, _, _, _, _, _, rfl, fun _ => ⟨rfl, ((((unhide RS).set hz2 0 _).set hz2 1 _).set hz2 2 _).dn (Nat.le_of_lt hz1)⟩, ((BB.setCell (p := ⟨w.heap.size + 1, 0, none⟩) (Nat.le_succ _) _).setCell (p := ⟨w.heap.size + 1, 1, none⟩) (Nat.le_succ _) _).setCell (p := ⟨w.heap.size + 1, 2, none⟩) (Nat.le_succ _) _⟩)
        clear K9 B9 kr9 BB RS CTh HL
        go_wp2_with fail
        refine bodyPost_ret (v := .tuple #[.agg #[.slice (some ⟨g, 0, none⟩) n k1', .slice b2 n k2', .slice b3 m k3'], .int .i64 (k : Int), .int .i64 0]) (by simp [results, Tryz.results56, go_sem, *]) rfl ?_
        exact unhide RES
    · have hD : DD = ⟨1, ac.key, ac.val, 0⟩ := by
        rw [unhide DDh]
        unfold chgD
        rw [if_pos (by omega)]
      have hfl : ¬ ((dn : Int) = 12) := hf
      have hRX : roomP X = X := by
        unfold roomP
        rw [if_neg (fun e => hf (hfull.2 e))]
      have K3 := heap_alloc_new u1 (.cells #[.string X.lo, .string X.hi, .int .i64 X.r, .slice sa sn sc, .slice da dn dc] 67)
      have BA : Below u1.heap.size u1 (u1.alloc (.cells #[.string X.lo, .string X.hi, .int .i64 X.r, .slice sa sn sc, .slice da dn dc] 67)) := (Below.refl _ _).alloc (Nat.le_refl _) _
      have BD : Below (u1.alloc (.cells #[.string X.lo, .string X.hi, .int .i64 X.r, .slice sa sn sc, .slice da dn dc] 67)).heap.size (u1.alloc (.cells #[.string X.lo, .string X.hi, .int .i64 X.r, .slice sa sn sc, .slice da dn dc] 67)) ((u1.alloc (.cells #[.string X.lo, .string X.hi, .int .i64 X.r, .slice sa sn sc, .slice da dn dc] 67)).alloc (.cells #[.int .i64 1, .string ac.key, .string ac.val, .int .i64 0] 90)) := (Below.refl _ _).alloc (Nat.le_refl _) _
      have K4 := heap_alloc_new (u1.alloc (.cells #[.string X.lo, .string X.hi, .int .i64 X.r, .slice sa sn sc, .slice da dn dc] 67)) (.cells #[.int .i64 1, .string ac.key, .string ac.val, .int .i64 0] 90)
      have zA : (u1.alloc (.cells #[.string X.lo, .string X.hi, .int .i64 X.r, .slice sa sn sc, .slice da dn dc] 67)).heap.size = u1.heap.size + 1 := by simp
      have BAD := BA.trans (BD.mono BA.size)
      have K3' := (BD.block u1.heap.size (by omega)).trans K3
      have ST := hide (show RmSt W ((u1.alloc (.cells #[.string X.lo, .string X.hi, .int .i64 X.r, .slice sa sn sc, .slice da dn dc] 67)).alloc (.cells #[.int .i64 1, .string ac.key, .string ac.val, .int .i64 0] 90)) u1.heap.size (u1.heap.size + 1) X DD ⟨sa, sn, sc⟩ ⟨da, dn, dc⟩ from ⟨(unhide B1h).trans (BAD.mono hu1), K3', (by rw [hD, ← zA]; exact K4), (unhide P1h).es.below BAD, (unhide P1h).ds.below BAD, (unhide P1h).ce, (unhide P1h).cd, hu1, by omega⟩)
      have RRE := hide hRX.symm
      have RRh := hide (show X.es.length ≤ 32 ∧ X.ds.length < 12 from ⟨(ok_parts hokp).2.1, by have := (unhide ROh).2.2.2.2.2; rw [hRX] at this; exact this⟩)
      clear K3 BA BD K4 zA BAD K3' hRX hD
      go_upto_region 6 with fail
      generalize (u1.alloc (.cells #[.string X.lo, .string X.hi, .int .i64 X.r, .slice sa sn sc, .slice da dn dc] 67)).alloc (.cells #[.int .i64 1, .string ac.key, .string ac.val, .int .i64 0] 90) = V at *
      generalize u1.heap.size = pb at *
      generalize hdb : pb + 1 = db at *
      clear hdb
      have hRd : X.ds.length ≤ 12 := Nat.le_of_lt (unhide RRh).2
      have hRe : X.es.length ≤ 32 := (unhide RRh).1
      have HOW := hide (l04Own_any X.lo X.hi X.r sa sn sc X.es da dn dc X.ds V (unhide ST).es (unhide ST).ds (by have h : X.es.length = _ := (unhide ST).es.1; simp only at h; omega) (by have h : X.ds.length = _ := (unhide ST).ds.1; simp only at h; omega) (unhide ST).ce (unhide ST).cd)
      unfold pgv at HOW
      obtain ⟨p0, p1, p2, p3, p4⟩ := pg_cells5 (unhide ST).pg
      go_upto_region 8 with fail
      go_wp2_with fail
      refine (unhide HOW).mono ?_
      rintro e u2 ⟨ae, ne, ce, ad, nd, cd, rfl, hPO, hb2⟩
      clear HOW p0 p1 p2 p3 p4
      have kp2 := (hb2.block pb (blk_lt (unhide ST).pg)).trans (unhide ST).pg
      obtain ⟨p0, p1, p2, p3, p4⟩ := pg_cells5 kp2
      obtain ⟨f0, f1, f2, f3, f4⟩ := fz_cells kp2
      obtain ⟨cg, kd⟩ := (unhide ST).own (t0 := ⟨ae, ne, ce⟩) (t1 := ⟨ad, nd, cd⟩) hb2 hPO
      simp only at cg kd
      have CG := hide cg
      have hpge := (unhide ST).pge
      clear cg hPO hb2 kp2
      go_upto_region 9 with fail
      generalize ((((u2.setCell ⟨pb, 0, none⟩ (.string X.lo)).setCell ⟨pb, 1, none⟩ (.string X.hi)).setCell ⟨pb, 2, none⟩ (.int .i64 X.r)).setCell ⟨pb, 3, none⟩ (.slice ae ne ce)).setCell ⟨pb, 4, none⟩ (.slice ad nd cd) = u3 at *
      clear p0 p1 p2 p3 p4 f0 f1 f2 f3 f4
      have p4 := (heap_at (unhide CG).pg 4).1
      have d0 := (heap_at kd 0).1
      have d1 := (heap_at kd 1).1
      have d2 := (heap_at kd 2).1
      have d3 := (heap_at kd 3).1
      obtain ⟨a', n', c', u4, hrD, kp4, cg4⟩ := (unhide CG).app (D := DD) (by omega) hpge
      simp only at hrD kp4 cg4
      have CG4 := hide cg4
      have r4 := (heap_at kp4 4).1
      have f4 := (heap_at kp4 4).2
      clear cg4 kp4 kd
      go_upto_region 10 with (at_builtin; refine wpAppE rfl _ _ 65 rfl _ _ (.slice a' n' c') u4 rfl rfl hrD ?_)
      generalize u4.setCell ⟨pb, 4, none⟩ (.slice a' n' c') = u5 at *
      clear p4 d0 d1 d2 d3 hrD r4 f4
      obtain ⟨p0, p1, p2, p3, p4⟩ := pg_cells5 (unhide CG4).pg
      have hq1 : (addD X DD).es.length = ne := (erow_of_owns (unhide CG4).es).1
      have hq2 : (addD X DD).ds.length = n' := (drow_of_owns (unhide CG4).ds).1
      have hq3 : (addD X DD).es.length = X.es.length := rfl
      have hq4 : (addD X DD).ds.length = X.ds.length + 1 := by show (X.ds ++ [DD]).length = _; rw [List.length_append]; rfl
      have HEN := hide (l04Entries_any (addD X DD).lo (addD X DD).hi (addD X DD).r ae ne ce (addD X DD).es a' n' c' (addD X DD).ds u5 (erow_of_owns (unhide CG4).es) (drow_of_owns (unhide CG4).ds) (by omega) (by omega) (own_cap0 (unhide CG4).es))
      unfold pgv at HEN
      obtain ⟨L, hL⟩ : ∃ L, L = (entsE (addD X DD).es (addD X DD).ds).length := ⟨_, rfl⟩
      rw [← hL] at HEN
      have HL := hide (show (enP (addD (roomP X) (chgD ac))).length = L by rw [hL, ← unhide RRE, ← unhide DDh])
      have hLm : L ≤ maxLen := by
        have h1 : (entsE (addD X DD).es (addD X DD).ds).length ≤ _ := entsE_len _ _
        rw [← hL] at h1
        unfold maxLen
        omega
      clear hL hq1 hq2 hq3 hq4
      unfold maxLen at hLm
      go_wp2_with fail
      refine (unhide HEN).mono ?_
      rintro e u6 ⟨g6, k6, rfl, -, hb6⟩
      have CG6 := hide ((unhide CG4).below hb6)
      have B6 := (unhide CG6).bel
      obtain ⟨e0, e1, e2⟩ := unhide SKP u6 B6
      have kr6 := (B6.block (w.heap.size + 1) hz2).trans (unhide K2)
      have r0 := (heap_at kr6 0).1
      have r1 := (heap_at kr6 1).1
      have r2 := (heap_at kr6 2).1
      have g0 := (heap_at kr6 0).2
      have g1 := (heap_at kr6 1).2
      have g2 := (heap_at kr6 2).2
      have BB := (unhide B0).trans (B6.mono (unhide B0).size)
      clear HEN p0 p1 p2 p3 p4 CG4 kr6 hb6
      by_cases hbig : 32 < L
      · have RES := hide (show SpRes (chgT ps idx ac) w (.returned (.tuple #[.agg #[.slice (some ⟨b, 0, none⟩) n c1, .slice a2 n c2, .slice a3 m c3], .int .i64 (k : Int), .int .i64 7])) (((u6.setCell ⟨w.heap.size + 1, 0, none⟩ (.slice (some ⟨b, 0, none⟩) n c1)).setCell ⟨w.heap.size + 1, 1, none⟩ (.slice a2 n c2)).setCell ⟨w.heap.size + 1, 2, none⟩ (.slice a3 m c3)) by
          rw [unhide CTh, if_pos (by rw [unhide HL]; exact hbig)]
          exact SpRes.no (r := ⟨ps, idx, 0, 7⟩) (show (7 : Int) ≠ 0 by decide) (((BB.setCell (p := ⟨w.heap.size + 1, 0, none⟩) (Nat.le_succ _) _).setCell (p := ⟨w.heap.size + 1, 1, none⟩) (Nat.le_succ _) _).setCell (p := ⟨w.heap.size + 1, 2, none⟩) (Nat.le_succ _) _))
        clear BB B6 CTh HL
        go_wp2_with fail
        refine bodyPost_ret (v := .tuple #[.agg #[.slice (some ⟨b, 0, none⟩) n c1, .slice a2 n c2, .slice a3 m c3], .int .i64 (k : Int), .int .i64 7]) (by simp [results, Tryz.results56, go_sem, *]) rfl ?_
        exact unhide RES
      · have HON := hide (l05Own_any B (some ⟨b, 0, none⟩) c1 a2 c2 a3 c3 n m hs ps idx u6 ((unhide OWh).below B6) (unhide HTh))
        clear r0 r1 r2 g0 g1 g2
        go_wp2_with fail
        refine (unhide HON).mono ?_
        rintro e u7 ⟨b1, k1', b2, k2', b3, k3', hs7, rfl, O7, hb7⟩
        have O8 := O7.below ((Below.refl u7.heap.size u7).alloc (Nat.le_refl _) (.cells #[.slice b1 n k1', .slice b2 n k2', .slice b3 m k3'] 29))
        have CG8 := (unhide CG6).below (hb7.trans (((Below.refl u7.heap.size u7).alloc (Nat.le_refl _) (.cells #[.slice b1 n k1', .slice b2 n k2', .slice b3 m k3'] 29)).mono hb7.size))
        have kT := heap_alloc_new u7 (.cells #[.slice b1 n k1', .slice b2 n k2', .slice b3 m k3'] 29)
        have h67 := hb7.size
        have c6 := (unhide CG6)
        have hW6 := c6.bel.size
        have ape : ∀ g, (Value.slice ae ne ce).ownBlock = some g → ¬ NBl (.slice b1 n k1') (hs7.map ppEl) g := fun g hg hn => by
          have h1 := (O8.own.pg.lt g hn).1
          have h2 := (c6.es.lt g hg).2
          omega
        have apd : ∀ g, (Value.slice a' n' c').ownBlock = some g → ¬ NBl (.slice b1 n k1') (hs7.map ppEl) g := fun g hg hn => by
          have h1 := (O8.own.pg.lt g hn).1
          have h2 := (c6.ds.lt g hg).2
          omega
        have hk7 : k < hs7.length := by rw [O8.hl, ← O8.ln]; exact hkl
        have DAT := hide O8.dat
        have LNS := hide (show ps.length = n ∧ idx.length = m from ⟨O8.ln, O8.li⟩)
        have HL7 := hide O8.hl
        obtain ⟨g, gc, hb1, hcell, hfz, S9, W9, hBg, hgt⟩ := ((O8.dn hW6).tg kT).put hk7 (⟨addD X DD, ⟨ae, ne, ce⟩, ⟨a', n', c'⟩⟩ : PpH) CG8.es CG8.ds ape apd
        injection hb1 with hb1 hbn hbc
        clear hbn
        subst hb1 hbc
        have x0 := hcell 0 (by decide)
        have x1 := hcell 1 (by decide)
        have x2 := hcell 2 (by decide)
        have x3 := hcell 3 (by decide)
        have x4 := hcell 4 (by decide)
        have y0 := hfz (k * 5)
        have y1 := hfz (k * 5 + 1)
        have y2 := hfz (k * 5 + 2)
        have y3 := hfz (k * 5 + 3)
        have y4 := hfz (k * 5 + 4)
        unfold pcs at x0 x1 x2 x3 x4 S9 W9
        simp only [List.getElem_cons_zero, List.getElem_cons_succ, Nat.add_zero] at x0 x1 x2 x3 x4
        unfold setAll setAll setAll setAll setAll setAll at S9 W9
        simp only at S9 W9
        have S9h := hide S9
        have W9h := hide W9
        obtain ⟨p0, p1, p2, p3, p4⟩ := pg_cells5 CG8.pg
        have B8h := hide CG8.bel
        have t0 := (heap_at kT 0).1
        clear O7 hb7 O8 CG8 kT ape apd hcell hfz S9 W9 HON e0 e1 e2 c6 CG6 BB
        go_upto_region 13 with fail
        generalize u7.alloc (.cells #[.slice (some ⟨g, 0, none⟩) n k1', .slice b2 n k2', .slice b3 m k3'] 29) = u8 at *
        generalize u7.heap.size = tb at *
        go_upto_region 14 with fail
        have K9 := (unhide S9h).box
        have B9 := (unhide B8h).trans (WrB.below (unhide W9h) (fun i e => by rw [e]; exact hBg) (unhide B8h).size)
        have RS := hide (show TsOwn _ W.heap.size _ _ _ _ _ _ n m _ (ps.set k (some (addD X DD))) idx from (unhide S9h).ts (none_set (unhide GPh)) (dat_set (unhide DAT) k _ _ rfl) (by rw [List.length_set]; exact (unhide LNS).1) (unhide LNS).2)
        clear S9h W9h x0 x1 x2 x3 x4 y0 y1 y2 y3 y4 p0 p1 p2 p3 p4 t0
        generalize ((((u8.setCell ⟨g, k * 5, none⟩ (.string (addD X DD).lo)).setCell ⟨g, k * 5 + 1, none⟩ (.string (addD X DD).hi)).setCell ⟨g, k * 5 + 1 + 1, none⟩ (.int .i64 (addD X DD).r)).setCell ⟨g, k * 5 + 1 + 1 + 1, none⟩ (.slice ae ne ce)).setCell ⟨g, k * 5 + 1 + 1 + 1 + 1, none⟩ (.slice a' n' c') = u9 at *
        have z0 := (heap_at K9 0).1
        have z1 := (heap_at K9 1).1
        have z2 := (heap_at K9 2).1
        have kr9 := (B9.block (w.heap.size + 1) hz2).trans (unhide K2)
        have r0 := (heap_at kr9 0).1
        have r1 := (heap_at kr9 1).1
        have r2 := (heap_at kr9 2).1
        have g0 := (heap_at kr9 0).2
        have g1 := (heap_at kr9 1).2
        have g2 := (heap_at kr9 2).2
        have BB := (unhide B0).trans (B9.mono (unhide B0).size)
        have RES := hide (show SpRes (chgT ps idx ac) w (.returned (.tuple #[.agg #[.slice (some ⟨g, 0, none⟩) n k1', .slice b2 n k2', .slice b3 m k3'], .int .i64 (k : Int), .int .i64 0])) (((u9.setCell ⟨w.heap.size + 1, 0, none⟩ (.slice (some ⟨g, 0, none⟩) n k1')).setCell ⟨w.heap.size + 1, 1, none⟩ (.slice b2 n k2')).setCell ⟨w.heap.size + 1, 2, none⟩ (.slice b3 m k3')) by
          rw [unhide CTh, if_neg (by rw [unhide HL]; exact hbig), ← unhide RRE, ← unhide DDh]
          exact ⟨_, _, _, _, _, _, _, _, _, _, rfl, fun _ => ⟨rfl, ((((unhide RS).set hz2 0 _).set hz2 1 _).set hz2 2 _).dn (Nat.le_of_lt hz1)⟩, ((BB.setCell (p := ⟨w.heap.size + 1, 0, none⟩) (Nat.le_succ _) _).setCell (p := ⟨w.heap.size + 1, 1, none⟩) (Nat.le_succ _) _).setCell (p := ⟨w.heap.size + 1, 2, none⟩) (Nat.le_succ _) _⟩)
        clear K9 B9 kr9 BB RS CTh HL
        go_wp2_with fail
        refine bodyPost_ret (v := .tuple #[.agg #[.slice (some ⟨g, 0, none⟩) n k1', .slice b2 n k2', .slice b3 m k3'], .int .i64 (k : Int), .int .i64 0]) (by simp [results, Tryz.results56, go_sem, *]) rfl ?_
        exact unhide RES
  · by_cases hf : (dn : Int) = 12
    · have hD : DD = ⟨2, ac.key, ⟨#[]⟩, 0⟩ := by
        rw [unhide DDh]
        unfold chgD
        rw [if_neg (by omega)]
      have hfl : (dn : Int) = 12 := hf
      have hRX : roomP X = conPg X := by
        unfold roomP
        rw [if_pos (hfull.1 hf)]
      have K3 := heap_alloc_new u1 (.cells #[.string X.lo, .string X.hi, .int .i64 X.r, .slice sa sn sc, .slice da dn dc] 67)
      have BA : Below u1.heap.size u1 (u1.alloc (.cells #[.string X.lo, .string X.hi, .int .i64 X.r, .slice sa sn sc, .slice da dn dc] 67)) := (Below.refl _ _).alloc (Nat.le_refl _) _
      have BD : Below (u1.alloc (.cells #[.string X.lo, .string X.hi, .int .i64 X.r, .slice sa sn sc, .slice da dn dc] 67)).heap.size (u1.alloc (.cells #[.string X.lo, .string X.hi, .int .i64 X.r, .slice sa sn sc, .slice da dn dc] 67)) ((u1.alloc (.cells #[.string X.lo, .string X.hi, .int .i64 X.r, .slice sa sn sc, .slice da dn dc] 67)).alloc (.cells #[.int .i64 2, .string ac.key, .string ⟨#[]⟩, .int .i64 0] 90)) := (Below.refl _ _).alloc (Nat.le_refl _) _
      have K4 := heap_alloc_new (u1.alloc (.cells #[.string X.lo, .string X.hi, .int .i64 X.r, .slice sa sn sc, .slice da dn dc] 67)) (.cells #[.int .i64 2, .string ac.key, .string ⟨#[]⟩, .int .i64 0] 90)
      have zA : (u1.alloc (.cells #[.string X.lo, .string X.hi, .int .i64 X.r, .slice sa sn sc, .slice da dn dc] 67)).heap.size = u1.heap.size + 1 := by simp
      have BAD := BA.trans (BD.mono BA.size)
      have K3' := (BD.block u1.heap.size (by omega)).trans K3
      have ST0 := hide (show RmSt W ((u1.alloc (.cells #[.string X.lo, .string X.hi, .int .i64 X.r, .slice sa sn sc, .slice da dn dc] 67)).alloc (.cells #[.int .i64 2, .string ac.key, .string ⟨#[]⟩, .int .i64 0] 90)) u1.heap.size (u1.heap.size + 1) X DD ⟨sa, sn, sc⟩ ⟨da, dn, dc⟩ from ⟨(unhide B1h).trans (BAD.mono hu1), K3', (by rw [hD, ← zA]; exact K4), (unhide P1h).es.below BAD, (unhide P1h).ds.below BAD, (unhide P1h).ce, (unhide P1h).cd, hu1, by omega⟩)
      obtain ⟨C, hC⟩ : ∃ C, C = conPg X := ⟨_, rfl⟩
      have RRE := hide (show C = roomP X by rw [hC, hRX])
      have RRh := hide (show C.es.length ≤ 32 ∧ C.ds.length < 12 from ⟨by rw [hC]; exact enP_len hokp, by rw [hC]; show 0 < 12; decide⟩)
      have CF := hide (show C.lo = X.lo ∧ C.hi = hiP X ∧ C.r = riP X ∧ C.es = enP X ∧ C.ds = [] by rw [hC]; exact ⟨rfl, rfl, rfl, rfl, rfl⟩)
      clear K3 BA BD K4 zA BAD K3' hRX hD hC
      go_upto_region 6 with fail
      generalize (u1.alloc (.cells #[.string X.lo, .string X.hi, .int .i64 X.r, .slice sa sn sc, .slice da dn dc] 67)).alloc (.cells #[.int .i64 2, .string ac.key, .string ⟨#[]⟩, .int .i64 0] 90) = V0 at *
      generalize u1.heap.size = pb at *
      generalize hdb : pb + 1 = db at *
      clear hdb
      obtain ⟨p0, p1, p2, p3, p4⟩ := pg_cells5 (unhide ST0).pg
      have HCN := hide (l04Consolidate_any X.lo X.hi X.r sa sn sc X.es da dn dc X.ds V0 (unhide ST0).es (unhide ST0).ds (by omega) (by omega) (unhide ST0).ce)
      unfold pgv at HCN
      rw [show highE X.hi X.ds = C.hi from (unhide CF).2.1.symm, show rightE X.r X.ds = C.r from (unhide CF).2.2.1.symm, show entsE X.es X.ds = C.es from (unhide CF).2.2.2.1.symm, ← (unhide CF).1] at HCN
      clear q0 q1 q2 q3 q4 e0 e1 e2
      have hLO : X.lo = C.lo := (unhide CF).1.symm
      rw [hLO] at p0
      go_upto_region 7 with fail
      go_wp2_with fail
      refine (unhide HCN).mono ?_
      rintro e uC ⟨aK, nK, kK, rfl, hOK, hbC⟩
      clear HCN p0 p1 p2 p3 p4
      have kpC := (hbC.block pb (blk_lt (unhide ST0).pg)).trans (unhide ST0).pg
      have kdC := (hbC.block db (blk_lt (unhide ST0).dl)).trans (unhide ST0).dl
      obtain ⟨p0, p1, p2, p3, p4⟩ := pg_cells5 kpC
      obtain ⟨f0, f1, f2, f3, f4⟩ := fz_cells kpC
      have ST := hide (show RmSt W (((((uC.setCell ⟨pb, 0, none⟩ (.string C.lo)).setCell ⟨pb, 1, none⟩ (.string C.hi)).setCell ⟨pb, 2, none⟩ (.int .i64 C.r)).setCell ⟨pb, 3, none⟩ (.slice aK nK kK)).setCell ⟨pb, 4, none⟩ (.slice none 0 0)) pb db C DD ⟨aK, nK, kK⟩ ⟨none, 0, 0⟩ from by
        have hw := set5_wr' uC pb (.string C.lo) (.string C.hi) (.int .i64 C.r) (.slice aK nK kK) (.slice none 0 0)
        have ne : db ≠ pb := fun e => by rw [e, kpC] at kdC; injection kdC with kdC; injection kdC with _ kdC _; exact absurd kdC (by decide)
        have hbu := (unhide ST0).bel.trans (hbC.mono (unhide ST0).bel.size)
        have oK := own_keep hOK kpC (by decide) hw
        exact ⟨hbu.trans (WrB.below hw (fun i e => by rw [e]; exact (unhide ST0).pge) hbu.size), set5_hp kpC _ _ _ _ _, (hw.block db (blk_lt kdC) ne).trans kdC, erow_of_owns oK, (by rw [(unhide CF).2.2.2.2]; exact ⟨rfl, fun i hi => absurd hi (Nat.not_lt_zero _)⟩), own_cap0 oK, fun _ => rfl, (unhide ST0).pge, (unhide ST0).dge⟩)
      clear kpC kdC hOK hbC ST0
      go_upto_region 8 with fail
      generalize ((((uC.setCell ⟨pb, 0, none⟩ (.string C.lo)).setCell ⟨pb, 1, none⟩ (.string C.hi)).setCell ⟨pb, 2, none⟩ (.int .i64 C.r)).setCell ⟨pb, 3, none⟩ (.slice aK nK kK)).setCell ⟨pb, 4, none⟩ (.slice none 0 0) = V at *
      clear p0 p1 p2 p3 p4 f0 f1 f2 f3 f4
      have hRd : C.ds.length ≤ 12 := Nat.le_of_lt (unhide RRh).2
      have hRe : C.es.length ≤ 32 := (unhide RRh).1
      have HOW := hide (l04Own_any C.lo C.hi C.r aK nK kK C.es none 0 0 C.ds V (unhide ST).es (unhide ST).ds (by have h : C.es.length = _ := (unhide ST).es.1; simp only at h; omega) (by have h : C.ds.length = _ := (unhide ST).ds.1; simp only at h; omega) (unhide ST).ce (unhide ST).cd)
      unfold pgv at HOW
      obtain ⟨p0, p1, p2, p3, p4⟩ := pg_cells5 (unhide ST).pg
      go_upto_region 8 with fail
      go_wp2_with fail
      refine (unhide HOW).mono ?_
      rintro e u2 ⟨ae, ne, ce, ad, nd, cd, rfl, hPO, hb2⟩
      clear HOW p0 p1 p2 p3 p4
      have kp2 := (hb2.block pb (blk_lt (unhide ST).pg)).trans (unhide ST).pg
      obtain ⟨p0, p1, p2, p3, p4⟩ := pg_cells5 kp2
      obtain ⟨f0, f1, f2, f3, f4⟩ := fz_cells kp2
      obtain ⟨cg, kd⟩ := (unhide ST).own (t0 := ⟨ae, ne, ce⟩) (t1 := ⟨ad, nd, cd⟩) hb2 hPO
      simp only at cg kd
      have CG := hide cg
      have hpge := (unhide ST).pge
      clear cg hPO hb2 kp2
      go_upto_region 9 with fail
      generalize ((((u2.setCell ⟨pb, 0, none⟩ (.string C.lo)).setCell ⟨pb, 1, none⟩ (.string C.hi)).setCell ⟨pb, 2, none⟩ (.int .i64 C.r)).setCell ⟨pb, 3, none⟩ (.slice ae ne ce)).setCell ⟨pb, 4, none⟩ (.slice ad nd cd) = u3 at *
      clear p0 p1 p2 p3 p4 f0 f1 f2 f3 f4
      have p4 := (heap_at (unhide CG).pg 4).1
      have d0 := (heap_at kd 0).1
      have d1 := (heap_at kd 1).1
      have d2 := (heap_at kd 2).1
      have d3 := (heap_at kd 3).1
      obtain ⟨a', n', c', u4, hrD, kp4, cg4⟩ := (unhide CG).app (D := DD) (by omega) hpge
      simp only at hrD kp4 cg4
      have CG4 := hide cg4
      have r4 := (heap_at kp4 4).1
      have f4 := (heap_at kp4 4).2
      clear cg4 kp4 kd
      go_upto_region 10 with (at_builtin; refine wpAppE rfl _ _ 65 rfl _ _ (.slice a' n' c') u4 rfl rfl hrD ?_)
      generalize u4.setCell ⟨pb, 4, none⟩ (.slice a' n' c') = u5 at *
      clear p4 d0 d1 d2 d3 hrD r4 f4
      obtain ⟨p0, p1, p2, p3, p4⟩ := pg_cells5 (unhide CG4).pg
      have hq1 : (addD C DD).es.length = ne := (erow_of_owns (unhide CG4).es).1
      have hq2 : (addD C DD).ds.length = n' := (drow_of_owns (unhide CG4).ds).1
      have hq3 : (addD C DD).es.length = C.es.length := rfl
      have hq4 : (addD C DD).ds.length = C.ds.length + 1 := by show (C.ds ++ [DD]).length = _; rw [List.length_append]; rfl
      have HEN := hide (l04Entries_any (addD C DD).lo (addD C DD).hi (addD C DD).r ae ne ce (addD C DD).es a' n' c' (addD C DD).ds u5 (erow_of_owns (unhide CG4).es) (drow_of_owns (unhide CG4).ds) (by omega) (by omega) (own_cap0 (unhide CG4).es))
      unfold pgv at HEN
      obtain ⟨L, hL⟩ : ∃ L, L = (entsE (addD C DD).es (addD C DD).ds).length := ⟨_, rfl⟩
      rw [← hL] at HEN
      have HL := hide (show (enP (addD (roomP X) (chgD ac))).length = L by rw [hL, ← unhide RRE, ← unhide DDh])
      have hLm : L ≤ maxLen := by
        have h1 : (entsE (addD C DD).es (addD C DD).ds).length ≤ _ := entsE_len _ _
        rw [← hL] at h1
        unfold maxLen
        omega
      clear hL hq1 hq2 hq3 hq4
      unfold maxLen at hLm
      go_wp2_with fail
      refine (unhide HEN).mono ?_
      rintro e u6 ⟨g6, k6, rfl, -, hb6⟩
      have CG6 := hide ((unhide CG4).below hb6)
      have B6 := (unhide CG6).bel
      obtain ⟨e0, e1, e2⟩ := unhide SKP u6 B6
      have kr6 := (B6.block (w.heap.size + 1) hz2).trans (unhide K2)
      have r0 := (heap_at kr6 0).1
      have r1 := (heap_at kr6 1).1
      have r2 := (heap_at kr6 2).1
      have g0 := (heap_at kr6 0).2
      have g1 := (heap_at kr6 1).2
      have g2 := (heap_at kr6 2).2
      have BB := (unhide B0).trans (B6.mono (unhide B0).size)
      clear HEN p0 p1 p2 p3 p4 CG4 kr6 hb6
      by_cases hbig : 32 < L
      · have RES := hide (show SpRes (chgT ps idx ac) w (.returned (.tuple #[.agg #[.slice (some ⟨b, 0, none⟩) n c1, .slice a2 n c2, .slice a3 m c3], .int .i64 (k : Int), .int .i64 7])) (((u6.setCell ⟨w.heap.size + 1, 0, none⟩ (.slice (some ⟨b, 0, none⟩) n c1)).setCell ⟨w.heap.size + 1, 1, none⟩ (.slice a2 n c2)).setCell ⟨w.heap.size + 1, 2, none⟩ (.slice a3 m c3)) by
          rw [unhide CTh, if_pos (by rw [unhide HL]; exact hbig)]
          exact SpRes.no (r := ⟨ps, idx, 0, 7⟩) (show (7 : Int) ≠ 0 by decide) (((BB.setCell (p := ⟨w.heap.size + 1, 0, none⟩) (Nat.le_succ _) _).setCell (p := ⟨w.heap.size + 1, 1, none⟩) (Nat.le_succ _) _).setCell (p := ⟨w.heap.size + 1, 2, none⟩) (Nat.le_succ _) _))
        clear BB B6 CTh HL
        go_wp2_with fail
        refine bodyPost_ret (v := .tuple #[.agg #[.slice (some ⟨b, 0, none⟩) n c1, .slice a2 n c2, .slice a3 m c3], .int .i64 (k : Int), .int .i64 7]) (by simp [results, Tryz.results56, go_sem, *]) rfl ?_
        exact unhide RES
      · have HON := hide (l05Own_any B (some ⟨b, 0, none⟩) c1 a2 c2 a3 c3 n m hs ps idx u6 ((unhide OWh).below B6) (unhide HTh))
        clear r0 r1 r2 g0 g1 g2
        go_wp2_with fail
        refine (unhide HON).mono ?_
        rintro e u7 ⟨b1, k1', b2, k2', b3, k3', hs7, rfl, O7, hb7⟩
        have O8 := O7.below ((Below.refl u7.heap.size u7).alloc (Nat.le_refl _) (.cells #[.slice b1 n k1', .slice b2 n k2', .slice b3 m k3'] 29))
        have CG8 := (unhide CG6).below (hb7.trans (((Below.refl u7.heap.size u7).alloc (Nat.le_refl _) (.cells #[.slice b1 n k1', .slice b2 n k2', .slice b3 m k3'] 29)).mono hb7.size))
        have kT := heap_alloc_new u7 (.cells #[.slice b1 n k1', .slice b2 n k2', .slice b3 m k3'] 29)
        have h67 := hb7.size
        have c6 := (unhide CG6)
        have hW6 := c6.bel.size
        have ape : ∀ g, (Value.slice ae ne ce).ownBlock = some g → ¬ NBl (.slice b1 n k1') (hs7.map ppEl) g := fun g hg hn => by
          have h1 := (O8.own.pg.lt g hn).1
          have h2 := (c6.es.lt g hg).2
          omega
        have apd : ∀ g, (Value.slice a' n' c').ownBlock = some g → ¬ NBl (.slice b1 n k1') (hs7.map ppEl) g := fun g hg hn => by
          have h1 := (O8.own.pg.lt g hn).1
          have h2 := (c6.ds.lt g hg).2
          omega
        have hk7 : k < hs7.length := by rw [O8.hl, ← O8.ln]; exact hkl
        have DAT := hide O8.dat
        have LNS := hide (show ps.length = n ∧ idx.length = m from ⟨O8.ln, O8.li⟩)
        have HL7 := hide O8.hl
        obtain ⟨g, gc, hb1, hcell, hfz, S9, W9, hBg, hgt⟩ := ((O8.dn hW6).tg kT).put hk7 (⟨addD C DD, ⟨ae, ne, ce⟩, ⟨a', n', c'⟩⟩ : PpH) CG8.es CG8.ds ape apd
        injection hb1 with hb1 hbn hbc
        clear hbn
        subst hb1 hbc
        have x0 := hcell 0 (by decide)
        have x1 := hcell 1 (by decide)
        have x2 := hcell 2 (by decide)
        have x3 := hcell 3 (by decide)
        have x4 := hcell 4 (by decide)
        have y0 := hfz (k * 5)
        have y1 := hfz (k * 5 + 1)
        have y2 := hfz (k * 5 + 2)
        have y3 := hfz (k * 5 + 3)
        have y4 := hfz (k * 5 + 4)
        unfold pcs at x0 x1 x2 x3 x4 S9 W9
        simp only [List.getElem_cons_zero, List.getElem_cons_succ, Nat.add_zero] at x0 x1 x2 x3 x4
        unfold setAll setAll setAll setAll setAll setAll at S9 W9
        simp only at S9 W9
        have S9h := hide S9
        have W9h := hide W9
        obtain ⟨p0, p1, p2, p3, p4⟩ := pg_cells5 CG8.pg
        have B8h := hide CG8.bel
        have t0 := (heap_at kT 0).1
        clear O7 hb7 O8 CG8 kT ape apd hcell hfz S9 W9 HON e0 e1 e2 c6 CG6 BB
        go_upto_region 13 with fail
        generalize u7.alloc (.cells #[.slice (some ⟨g, 0, none⟩) n k1', .slice b2 n k2', .slice b3 m k3'] 29) = u8 at *
        generalize u7.heap.size = tb at *
        go_upto_region 14 with fail
        have K9 := (unhide S9h).box
        have B9 := (unhide B8h).trans (WrB.below (unhide W9h) (fun i e => by rw [e]; exact hBg) (unhide B8h).size)
        have RS := hide (show TsOwn _ W.heap.size _ _ _ _ _ _ n m _ (ps.set k (some (addD C DD))) idx from (unhide S9h).ts (none_set (unhide GPh)) (dat_set (unhide DAT) k _ _ rfl) (by rw [List.length_set]; exact (unhide LNS).1) (unhide LNS).2)
        clear S9h W9h x0 x1 x2 x3 x4 y0 y1 y2 y3 y4 p0 p1 p2 p3 p4 t0
        generalize ((((u8.setCell ⟨g, k * 5, none⟩ (.string (addD C DD).lo)).setCell ⟨g, k * 5 + 1, none⟩ (.string (addD C DD).hi)).setCell ⟨g, k * 5 + 1 + 1, none⟩ (.int .i64 (addD C DD).r)).setCell ⟨g, k * 5 + 1 + 1 + 1, none⟩ (.slice ae ne ce)).setCell ⟨g, k * 5 + 1 + 1 + 1 + 1, none⟩ (.slice a' n' c') = u9 at *
        have z0 := (heap_at K9 0).1
        have z1 := (heap_at K9 1).1
        have z2 := (heap_at K9 2).1
        have kr9 := (B9.block (w.heap.size + 1) hz2).trans (unhide K2)
        have r0 := (heap_at kr9 0).1
        have r1 := (heap_at kr9 1).1
        have r2 := (heap_at kr9 2).1
        have g0 := (heap_at kr9 0).2
        have g1 := (heap_at kr9 1).2
        have g2 := (heap_at kr9 2).2
        have BB := (unhide B0).trans (B9.mono (unhide B0).size)
        have RES := hide (show SpRes (chgT ps idx ac) w (.returned (.tuple #[.agg #[.slice (some ⟨g, 0, none⟩) n k1', .slice b2 n k2', .slice b3 m k3'], .int .i64 (k : Int), .int .i64 0])) (((u9.setCell ⟨w.heap.size + 1, 0, none⟩ (.slice (some ⟨g, 0, none⟩) n k1')).setCell ⟨w.heap.size + 1, 1, none⟩ (.slice b2 n k2')).setCell ⟨w.heap.size + 1, 2, none⟩ (.slice b3 m k3')) by
          rw [unhide CTh, if_neg (by rw [unhide HL]; exact hbig), ← unhide RRE, ← unhide DDh]
          exact ⟨_, _, _, _, _, _, _, _, _, _, rfl, fun _ => ⟨rfl, ((((unhide RS).set hz2 0 _).set hz2 1 _).set hz2 2 _).dn (Nat.le_of_lt hz1)⟩, ((BB.setCell (p := ⟨w.heap.size + 1, 0, none⟩) (Nat.le_succ _) _).setCell (p := ⟨w.heap.size + 1, 1, none⟩) (Nat.le_succ _) _).setCell (p := ⟨w.heap.size + 1, 2, none⟩) (Nat.le_succ _) _⟩)
        clear K9 B9 kr9 BB RS CTh HL
        go_wp2_with fail
        refine bodyPost_ret (v := .tuple #[.agg #[.slice (some ⟨g, 0, none⟩) n k1', .slice b2 n k2', .slice b3 m k3'], .int .i64 (k : Int), .int .i64 0]) (by simp [results, Tryz.results56, go_sem, *]) rfl ?_
        exact unhide RES
    · have hD : DD = ⟨2, ac.key, ⟨#[]⟩, 0⟩ := by
        rw [unhide DDh]
        unfold chgD
        rw [if_neg (by omega)]
      have hfl : ¬ ((dn : Int) = 12) := hf
      have hRX : roomP X = X := by
        unfold roomP
        rw [if_neg (fun e => hf (hfull.2 e))]
      have K3 := heap_alloc_new u1 (.cells #[.string X.lo, .string X.hi, .int .i64 X.r, .slice sa sn sc, .slice da dn dc] 67)
      have BA : Below u1.heap.size u1 (u1.alloc (.cells #[.string X.lo, .string X.hi, .int .i64 X.r, .slice sa sn sc, .slice da dn dc] 67)) := (Below.refl _ _).alloc (Nat.le_refl _) _
      have BD : Below (u1.alloc (.cells #[.string X.lo, .string X.hi, .int .i64 X.r, .slice sa sn sc, .slice da dn dc] 67)).heap.size (u1.alloc (.cells #[.string X.lo, .string X.hi, .int .i64 X.r, .slice sa sn sc, .slice da dn dc] 67)) ((u1.alloc (.cells #[.string X.lo, .string X.hi, .int .i64 X.r, .slice sa sn sc, .slice da dn dc] 67)).alloc (.cells #[.int .i64 2, .string ac.key, .string ⟨#[]⟩, .int .i64 0] 90)) := (Below.refl _ _).alloc (Nat.le_refl _) _
      have K4 := heap_alloc_new (u1.alloc (.cells #[.string X.lo, .string X.hi, .int .i64 X.r, .slice sa sn sc, .slice da dn dc] 67)) (.cells #[.int .i64 2, .string ac.key, .string ⟨#[]⟩, .int .i64 0] 90)
      have zA : (u1.alloc (.cells #[.string X.lo, .string X.hi, .int .i64 X.r, .slice sa sn sc, .slice da dn dc] 67)).heap.size = u1.heap.size + 1 := by simp
      have BAD := BA.trans (BD.mono BA.size)
      have K3' := (BD.block u1.heap.size (by omega)).trans K3
      have ST := hide (show RmSt W ((u1.alloc (.cells #[.string X.lo, .string X.hi, .int .i64 X.r, .slice sa sn sc, .slice da dn dc] 67)).alloc (.cells #[.int .i64 2, .string ac.key, .string ⟨#[]⟩, .int .i64 0] 90)) u1.heap.size (u1.heap.size + 1) X DD ⟨sa, sn, sc⟩ ⟨da, dn, dc⟩ from ⟨(unhide B1h).trans (BAD.mono hu1), K3', (by rw [hD, ← zA]; exact K4), (unhide P1h).es.below BAD, (unhide P1h).ds.below BAD, (unhide P1h).ce, (unhide P1h).cd, hu1, by omega⟩)
      have RRE := hide hRX.symm
      have RRh := hide (show X.es.length ≤ 32 ∧ X.ds.length < 12 from ⟨(ok_parts hokp).2.1, by have := (unhide ROh).2.2.2.2.2; rw [hRX] at this; exact this⟩)
      clear K3 BA BD K4 zA BAD K3' hRX hD
      go_upto_region 6 with fail
      generalize (u1.alloc (.cells #[.string X.lo, .string X.hi, .int .i64 X.r, .slice sa sn sc, .slice da dn dc] 67)).alloc (.cells #[.int .i64 2, .string ac.key, .string ⟨#[]⟩, .int .i64 0] 90) = V at *
      generalize u1.heap.size = pb at *
      generalize hdb : pb + 1 = db at *
      clear hdb
      have hRd : X.ds.length ≤ 12 := Nat.le_of_lt (unhide RRh).2
      have hRe : X.es.length ≤ 32 := (unhide RRh).1
      have HOW := hide (l04Own_any X.lo X.hi X.r sa sn sc X.es da dn dc X.ds V (unhide ST).es (unhide ST).ds (by have h : X.es.length = _ := (unhide ST).es.1; simp only at h; omega) (by have h : X.ds.length = _ := (unhide ST).ds.1; simp only at h; omega) (unhide ST).ce (unhide ST).cd)
      unfold pgv at HOW
      obtain ⟨p0, p1, p2, p3, p4⟩ := pg_cells5 (unhide ST).pg
      go_upto_region 8 with fail
      go_wp2_with fail
      refine (unhide HOW).mono ?_
      rintro e u2 ⟨ae, ne, ce, ad, nd, cd, rfl, hPO, hb2⟩
      clear HOW p0 p1 p2 p3 p4
      have kp2 := (hb2.block pb (blk_lt (unhide ST).pg)).trans (unhide ST).pg
      obtain ⟨p0, p1, p2, p3, p4⟩ := pg_cells5 kp2
      obtain ⟨f0, f1, f2, f3, f4⟩ := fz_cells kp2
      obtain ⟨cg, kd⟩ := (unhide ST).own (t0 := ⟨ae, ne, ce⟩) (t1 := ⟨ad, nd, cd⟩) hb2 hPO
      simp only at cg kd
      have CG := hide cg
      have hpge := (unhide ST).pge
      clear cg hPO hb2 kp2
      go_upto_region 9 with fail
      generalize ((((u2.setCell ⟨pb, 0, none⟩ (.string X.lo)).setCell ⟨pb, 1, none⟩ (.string X.hi)).setCell ⟨pb, 2, none⟩ (.int .i64 X.r)).setCell ⟨pb, 3, none⟩ (.slice ae ne ce)).setCell ⟨pb, 4, none⟩ (.slice ad nd cd) = u3 at *
      clear p0 p1 p2 p3 p4 f0 f1 f2 f3 f4
      have p4 := (heap_at (unhide CG).pg 4).1
      have d0 := (heap_at kd 0).1
      have d1 := (heap_at kd 1).1
      have d2 := (heap_at kd 2).1
      have d3 := (heap_at kd 3).1
      obtain ⟨a', n', c', u4, hrD, kp4, cg4⟩ := (unhide CG).app (D := DD) (by omega) hpge
      simp only at hrD kp4 cg4
      have CG4 := hide cg4
      have r4 := (heap_at kp4 4).1
      have f4 := (heap_at kp4 4).2
      clear cg4 kp4 kd
      go_upto_region 10 with (at_builtin; refine wpAppE rfl _ _ 65 rfl _ _ (.slice a' n' c') u4 rfl rfl hrD ?_)
      generalize u4.setCell ⟨pb, 4, none⟩ (.slice a' n' c') = u5 at *
      clear p4 d0 d1 d2 d3 hrD r4 f4
      obtain ⟨p0, p1, p2, p3, p4⟩ := pg_cells5 (unhide CG4).pg
      have hq1 : (addD X DD).es.length = ne := (erow_of_owns (unhide CG4).es).1
      have hq2 : (addD X DD).ds.length = n' := (drow_of_owns (unhide CG4).ds).1
      have hq3 : (addD X DD).es.length = X.es.length := rfl
      have hq4 : (addD X DD).ds.length = X.ds.length + 1 := by show (X.ds ++ [DD]).length = _; rw [List.length_append]; rfl
      have HEN := hide (l04Entries_any (addD X DD).lo (addD X DD).hi (addD X DD).r ae ne ce (addD X DD).es a' n' c' (addD X DD).ds u5 (erow_of_owns (unhide CG4).es) (drow_of_owns (unhide CG4).ds) (by omega) (by omega) (own_cap0 (unhide CG4).es))
      unfold pgv at HEN
      obtain ⟨L, hL⟩ : ∃ L, L = (entsE (addD X DD).es (addD X DD).ds).length := ⟨_, rfl⟩
      rw [← hL] at HEN
      have HL := hide (show (enP (addD (roomP X) (chgD ac))).length = L by rw [hL, ← unhide RRE, ← unhide DDh])
      have hLm : L ≤ maxLen := by
        have h1 : (entsE (addD X DD).es (addD X DD).ds).length ≤ _ := entsE_len _ _
        rw [← hL] at h1
        unfold maxLen
        omega
      clear hL hq1 hq2 hq3 hq4
      unfold maxLen at hLm
      go_wp2_with fail
      refine (unhide HEN).mono ?_
      rintro e u6 ⟨g6, k6, rfl, -, hb6⟩
      have CG6 := hide ((unhide CG4).below hb6)
      have B6 := (unhide CG6).bel
      obtain ⟨e0, e1, e2⟩ := unhide SKP u6 B6
      have kr6 := (B6.block (w.heap.size + 1) hz2).trans (unhide K2)
      have r0 := (heap_at kr6 0).1
      have r1 := (heap_at kr6 1).1
      have r2 := (heap_at kr6 2).1
      have g0 := (heap_at kr6 0).2
      have g1 := (heap_at kr6 1).2
      have g2 := (heap_at kr6 2).2
      have BB := (unhide B0).trans (B6.mono (unhide B0).size)
      clear HEN p0 p1 p2 p3 p4 CG4 kr6 hb6
      by_cases hbig : 32 < L
      · have RES := hide (show SpRes (chgT ps idx ac) w (.returned (.tuple #[.agg #[.slice (some ⟨b, 0, none⟩) n c1, .slice a2 n c2, .slice a3 m c3], .int .i64 (k : Int), .int .i64 7])) (((u6.setCell ⟨w.heap.size + 1, 0, none⟩ (.slice (some ⟨b, 0, none⟩) n c1)).setCell ⟨w.heap.size + 1, 1, none⟩ (.slice a2 n c2)).setCell ⟨w.heap.size + 1, 2, none⟩ (.slice a3 m c3)) by
          rw [unhide CTh, if_pos (by rw [unhide HL]; exact hbig)]
          exact SpRes.no (r := ⟨ps, idx, 0, 7⟩) (show (7 : Int) ≠ 0 by decide) (((BB.setCell (p := ⟨w.heap.size + 1, 0, none⟩) (Nat.le_succ _) _).setCell (p := ⟨w.heap.size + 1, 1, none⟩) (Nat.le_succ _) _).setCell (p := ⟨w.heap.size + 1, 2, none⟩) (Nat.le_succ _) _))
        clear BB B6 CTh HL
        go_wp2_with fail
        refine bodyPost_ret (v := .tuple #[.agg #[.slice (some ⟨b, 0, none⟩) n c1, .slice a2 n c2, .slice a3 m c3], .int .i64 (k : Int), .int .i64 7]) (by simp [results, Tryz.results56, go_sem, *]) rfl ?_
        exact unhide RES
      · have HON := hide (l05Own_any B (some ⟨b, 0, none⟩) c1 a2 c2 a3 c3 n m hs ps idx u6 ((unhide OWh).below B6) (unhide HTh))
        clear r0 r1 r2 g0 g1 g2
        go_wp2_with fail
        refine (unhide HON).mono ?_
        rintro e u7 ⟨b1, k1', b2, k2', b3, k3', hs7, rfl, O7, hb7⟩
        have O8 := O7.below ((Below.refl u7.heap.size u7).alloc (Nat.le_refl _) (.cells #[.slice b1 n k1', .slice b2 n k2', .slice b3 m k3'] 29))
        have CG8 := (unhide CG6).below (hb7.trans (((Below.refl u7.heap.size u7).alloc (Nat.le_refl _) (.cells #[.slice b1 n k1', .slice b2 n k2', .slice b3 m k3'] 29)).mono hb7.size))
        have kT := heap_alloc_new u7 (.cells #[.slice b1 n k1', .slice b2 n k2', .slice b3 m k3'] 29)
        have h67 := hb7.size
        have c6 := (unhide CG6)
        have hW6 := c6.bel.size
        have ape : ∀ g, (Value.slice ae ne ce).ownBlock = some g → ¬ NBl (.slice b1 n k1') (hs7.map ppEl) g := fun g hg hn => by
          have h1 := (O8.own.pg.lt g hn).1
          have h2 := (c6.es.lt g hg).2
          omega
        have apd : ∀ g, (Value.slice a' n' c').ownBlock = some g → ¬ NBl (.slice b1 n k1') (hs7.map ppEl) g := fun g hg hn => by
          have h1 := (O8.own.pg.lt g hn).1
          have h2 := (c6.ds.lt g hg).2
          omega
        have hk7 : k < hs7.length := by rw [O8.hl, ← O8.ln]; exact hkl
        have DAT := hide O8.dat
        have LNS := hide (show ps.length = n ∧ idx.length = m from ⟨O8.ln, O8.li⟩)
        have HL7 := hide O8.hl
        obtain ⟨g, gc, hb1, hcell, hfz, S9, W9, hBg, hgt⟩ := ((O8.dn hW6).tg kT).put hk7 (⟨addD X DD, ⟨ae, ne, ce⟩, ⟨a', n', c'⟩⟩ : PpH) CG8.es CG8.ds ape apd
        injection hb1 with hb1 hbn hbc
        clear hbn
        subst hb1 hbc
        have x0 := hcell 0 (by decide)
        have x1 := hcell 1 (by decide)
        have x2 := hcell 2 (by decide)
        have x3 := hcell 3 (by decide)
        have x4 := hcell 4 (by decide)
        have y0 := hfz (k * 5)
        have y1 := hfz (k * 5 + 1)
        have y2 := hfz (k * 5 + 2)
        have y3 := hfz (k * 5 + 3)
        have y4 := hfz (k * 5 + 4)
        unfold pcs at x0 x1 x2 x3 x4 S9 W9
        simp only [List.getElem_cons_zero, List.getElem_cons_succ, Nat.add_zero] at x0 x1 x2 x3 x4
        unfold setAll setAll setAll setAll setAll setAll at S9 W9
        simp only at S9 W9
        have S9h := hide S9
        have W9h := hide W9
        obtain ⟨p0, p1, p2, p3, p4⟩ := pg_cells5 CG8.pg
        have B8h := hide CG8.bel
        have t0 := (heap_at kT 0).1
        clear O7 hb7 O8 CG8 kT ape apd hcell hfz S9 W9 HON e0 e1 e2 c6 CG6 BB
        go_upto_region 13 with fail
        generalize u7.alloc (.cells #[.slice (some ⟨g, 0, none⟩) n k1', .slice b2 n k2', .slice b3 m k3'] 29) = u8 at *
        generalize u7.heap.size = tb at *
        go_upto_region 14 with fail
        have K9 := (unhide S9h).box
        have B9 := (unhide B8h).trans (WrB.below (unhide W9h) (fun i e => by rw [e]; exact hBg) (unhide B8h).size)
        have RS := hide (show TsOwn _ W.heap.size _ _ _ _ _ _ n m _ (ps.set k (some (addD X DD))) idx from (unhide S9h).ts (none_set (unhide GPh)) (dat_set (unhide DAT) k _ _ rfl) (by rw [List.length_set]; exact (unhide LNS).1) (unhide LNS).2)
        clear S9h W9h x0 x1 x2 x3 x4 y0 y1 y2 y3 y4 p0 p1 p2 p3 p4 t0
        generalize ((((u8.setCell ⟨g, k * 5, none⟩ (.string (addD X DD).lo)).setCell ⟨g, k * 5 + 1, none⟩ (.string (addD X DD).hi)).setCell ⟨g, k * 5 + 1 + 1, none⟩ (.int .i64 (addD X DD).r)).setCell ⟨g, k * 5 + 1 + 1 + 1, none⟩ (.slice ae ne ce)).setCell ⟨g, k * 5 + 1 + 1 + 1 + 1, none⟩ (.slice a' n' c') = u9 at *
        have z0 := (heap_at K9 0).1
        have z1 := (heap_at K9 1).1
        have z2 := (heap_at K9 2).1
        have kr9 := (B9.block (w.heap.size + 1) hz2).trans (unhide K2)
        have r0 := (heap_at kr9 0).1
        have r1 := (heap_at kr9 1).1
        have r2 := (heap_at kr9 2).1
        have g0 := (heap_at kr9 0).2
        have g1 := (heap_at kr9 1).2
        have g2 := (heap_at kr9 2).2
        have BB := (unhide B0).trans (B9.mono (unhide B0).size)
        have RES := hide (show SpRes (chgT ps idx ac) w (.returned (.tuple #[.agg #[.slice (some ⟨g, 0, none⟩) n k1', .slice b2 n k2', .slice b3 m k3'], .int .i64 (k : Int), .int .i64 0])) (((u9.setCell ⟨w.heap.size + 1, 0, none⟩ (.slice (some ⟨g, 0, none⟩) n k1')).setCell ⟨w.heap.size + 1, 1, none⟩ (.slice b2 n k2')).setCell ⟨w.heap.size + 1, 2, none⟩ (.slice b3 m k3')) by
          rw [unhide CTh, if_neg (by rw [unhide HL]; exact hbig), ← unhide RRE, ← unhide DDh]
          exact ⟨_, _, _, _, _, _, _, _, _, _, rfl, fun _ => ⟨rfl, ((((unhide RS).set hz2 0 _).set hz2 1 _).set hz2 2 _).dn (Nat.le_of_lt hz1)⟩, ((BB.setCell (p := ⟨w.heap.size + 1, 0, none⟩) (Nat.le_succ _) _).setCell (p := ⟨w.heap.size + 1, 1, none⟩) (Nat.le_succ _) _).setCell (p := ⟨w.heap.size + 1, 2, none⟩) (Nat.le_succ _) _⟩)
        clear K9 B9 kr9 BB RS CTh HL
        go_wp2_with fail
        refine bodyPost_ret (v := .tuple #[.agg #[.slice (some ⟨g, 0, none⟩) n k1', .slice b2 n k2', .slice b3 m k3'], .int .i64 (k : Int), .int .i64 0]) (by simp [results, Tryz.results56, go_sem, *]) rfl ?_
        exact unhide RES
end Go.Proofs.YtbhkmmdcdfjbkaaGreat

namespace Go.Proofs.YtbhkmmdcdfjbkaaGreat
open Go.RowKit

theorem JRow.take {w : World} {ad : Addr} {n : Nat} {ds : List RefD} (h : JRow w (some ad) n ds) {k : Nat} (hk : k ≤ n) : JRow w (some ad) k (ds.take k) := by
  have hl : (ds.take k).length = k := by rw [List.length_take, h.1]; omega
  refine ⟨hl, fun i hi => ?_⟩
  obtain ⟨b, off, e, c0, c1⟩ := h.2 i (by rw [h.1]; omega)
  refine ⟨b, off, e, ?_, ?_⟩
  · rw [c0, List.getElem_take]
  · rw [c1, List.getElem_take]
theorem JRow.drop {w : World} {b off : Nat} {n : Nat} {ds : List RefD} (h : JRow w (some ⟨b, off, none⟩) n ds) (k : Nat) : JRow w (some ⟨b, off + k * 2, none⟩) (n - k) (ds.drop k) := by
  refine ⟨by rw [List.length_drop, h.1], fun i hi => ?_⟩
  rw [List.length_drop] at hi
  obtain ⟨b', off', e, c0, c1⟩ := h.2 (k + i) (by omega)
  injection e with e
  injection e with e1 e2 _
  subst e1 e2
  refine ⟨b, off + k * 2, rfl, ?_, ?_⟩
  · rw [List.getElem_drop, ← c0]; congr 2; omega
  · rw [List.getElem_drop, ← c1]; congr 2; omega
theorem jrow_nil {w : World} {a : Option Addr} : JRow w a 0 [] := ⟨rfl, fun _ hi => absurd hi (Nat.not_lt_zero _)⟩
/-- An index under way, and a Ref that lies by itself. -/
structure IxSt (W u : World) (r : RefD) (pre : Option (Value × List RefD)) (lit : Option Nat) : Prop where
  bel : Below W.heap.size W u
  pr : ∀ v l, pre = some (v, l) → JOwns u W.heap.size v l ∧ v ≠ .slice none 0 0
  li : ∀ b, lit = some b → W.heap.size ≤ b ∧ u.heap[b]? = some (.cells #[.string r.low, .int .i64 r.id] 69 (0, 0))
  ne : ∀ v l b, pre = some (v, l) → lit = some b → v.ownBlock ≠ some b
theorem IxSt.row {W u : World} {r : RefD} {pre : Option (Value × List RefD)} {b : Nat} (h : IxSt W u r pre (some b)) : JRow u (some ⟨b, 0, none⟩) 1 [r] := by
  have Kp := (h.li b rfl).2
  refine ⟨rfl, fun i hi => ?_⟩
  obtain rfl : i = 0 := by simpa using hi
  exact ⟨b, 0, rfl, (heap_at Kp 0).1, (heap_at Kp 1).1⟩
theorem IxSt.lit {W u : World} {r : RefD} {pre : Option (Value × List RefD)} (h : IxSt W u r pre none) : IxSt W (u.alloc (.cells #[.string r.low, .int .i64 r.id] 69)) r pre (some u.heap.size) := by
  have bA := (Below.refl u.heap.size u).alloc (Nat.le_refl _) (.cells #[.string r.low, .int .i64 r.id] 69)
  refine ⟨h.bel.trans (bA.mono h.bel.size), fun v l e => ⟨rb_ownsRow_below (h.pr v l e).1 bA, (h.pr v l e).2⟩, fun b e => ?_, fun v l b e e2 hv => ?_⟩
  · injection e with e
    subst e
    exact ⟨h.bel.size, heap_alloc_new _ _⟩
  · injection e2 with e2
    subst e2
    have := ((h.pr v l e).1.lt _ hv).2
    omega
theorem IxSt.start {W u : World} {r : RefD} {lit : Option Nat} (h : IxSt W u r none lit) : IxSt W (u.alloc (.cells #[] 69)) r (some (.slice (some ⟨u.heap.size, 0, none⟩) 0 0, [])) lit := by
  have bA := (Below.refl u.heap.size u).alloc (Nat.le_refl _) (.cells #[] 69)
  refine ⟨h.bel.trans (bA.mono h.bel.size), fun v l e => ?_, fun b e => ⟨(h.li b e).1, (bA.block b (blk_lt (h.li b e).2)).trans (h.li b e).2⟩, fun v l b e e2 hv => ?_⟩
  · injection e with e
    injection e with e1 e2
    subst e1 e2
    exact ⟨gd_base (nil_lit (w := u) 69 2) h.bel.size, fun e => by cases e⟩
  · injection e with e
    injection e with e1 _
    subst e1
    have hv' : some u.heap.size = some b := hv
    injection hv' with hv'
    have := blk_lt (h.li b e2).2
    omega
theorem IxSt.app {W u : World} {r : RefD} {v : Value} {l ds : List RefD} {lit : Option Nat} (h : IxSt W u r (some (v, l)) lit) {ad : Addr} {n c : Nat} (hR : JRow u (some ad) n ds) (hn : n ≤ 1000) (hl : l.length ≤ 1000) :
    ∃ a' c' u', (Builtin.append_ #[27, 27] 27 #[v, .slice (some ad) n c]).run Tryz.prog u = .ok (.slice a' (l.length + n) c') u' ∧ IxSt W u' r (some (.slice a' (l.length + n) c', l ++ ds)) lit := by
  obtain ⟨i0, hi0, hz0, hz1, hz2⟩ := info_parts Tryz.infoRef
  obtain ⟨hg, hv⟩ := h.pr v l rfl
  obtain ⟨v', u', hr, ho, hgr, hnn, hbl⟩ := app_at (P := Tryz.prog) (w := u) (B := W.heap.size) 27 27 69 Tryz.underlying27 hi0 hz0 hz1 hz2 rfl (by decide) hg ad n c (jcs ds) (by rw [jcs_len, hR.1]) (jrow_src hR) (jcs_one _) (by unfold maxLen; omega) (by omega) h.bel.size (fun e => absurd e hv)
  obtain ⟨a', c', rfl⟩ : ∃ a' c', v' = .slice a' (l.length + n) c' := us_sl ho
  have hw := WrB.of_grown hgr
  have ho' : JOwns u' W.heap.size (.slice a' (l.length + n) c') (l ++ ds) := by
    unfold JOwns
    rw [jcs_append, List.length_append, hR.1]
    exact ho
  refine ⟨a', c', u', hr, ⟨h.bel.trans (WrB.below hw (fun i hi => (hg.lt i hi).1) h.bel.size), fun v2 l2 e => ?_, fun b e => ⟨(h.li b e).1, (hw.block b (blk_lt (h.li b e).2) (h.ne v l b rfl e)).trans (h.li b e).2⟩, fun v2 l2 b e e2 hb => ?_⟩⟩
  · injection e with e
    injection e with e1 e2
    subst e1 e2
    exact ⟨ho', hnn⟩
  · injection e with e
    injection e with e1 _
    subst e1
    rcases hbl with hbl | hbl
    · rw [hbl] at hb; exact h.ne v l b rfl e2 hb
    · rw [hbl] at hb; injection hb with hb; have := blk_lt (h.li b e2).2; omega
theorem IxSt.noLit {W u : World} {r : RefD} {pre : Option (Value × List RefD)} {lit : Option Nat} (h : IxSt W u r pre lit) : IxSt W u r pre none := ⟨h.bel, h.pr, fun _ e => (by cases e), fun _ _ _ _ e => (by cases e)⟩
/-- The place of a Ref that is not there. -/
theorem pl_post {idx : List RefD} {k : ByteArray} (hr : RiseR idx) (hz : ∃ h : 0 < idx.length, idx[0].low = ⟨#[]⟩ ∧ idx[0].id = 0) (hp : plR idx k < idx.length) : (found (idx.map refE) k = true → idx[plR idx k].low = k) ∧ (found (idx.map refE) k = false → ¬ idx[plR idx k].low = k ∧ plR idx k + 1 = pos (idx.map refE) k) := by
  constructor
  · intro hf
    have e : plR idx k = pos (idx.map refE) k := by unfold plR; rw [hf]; rfl
    obtain ⟨hi, he⟩ := found_in hf
    simp only [e]
    rw [List.getElem_map] at he
    exact he
  · intro hf
    have e : plR idx k = pos (idx.map refE) k - 1 := by unfold plR; rw [hf]; rfl
    obtain ⟨_, _, _, h4⟩ := pl_facts (k := k) hr hz
    have h5 := h4 hf
    refine ⟨fun e2 => ?_, by omega⟩
    have hl : plR idx k < (idx.map refE).length := by rw [List.length_map]; exact hp
    have h6 := pos_lt (idx.map refE) k (plR idx k) hl (by omega)
    rw [List.getElem_map] at h6
    have h7 : ltK idx[plR idx k].low k = true := h6
    rw [e2, ltK_irr] at h7
    cases h7
set_option maxRecDepth 100000 in
set_option maxHeartbeats 8000000 in
theorem l05Post_any (B : Nat) (a1 : Option Addr) (c1 : Nat) (a2 : Option Addr) (c2 : Nat) (a3 : Option Addr) (c3 n m : Nat) (hs : List PpH) (ps : List (Option PageD)) (idx : List RefD) (id : Nat) (p : PageD) (w : World) (hO : TsOwn w B a1 c1 a2 c2 a3 c3 n m hs ps idx) (hT : Tre ps idx) (hg : getP ps (id : Int) = some p) :
    Calls Tryz.prog 59 #[.agg #[.slice a1 n c1, .slice a2 n c2, .slice a3 m c3], .int .i64 (id : Int)] w fun e w' => SpRes (posT ps idx id p) w e w' := by
  obtain ⟨hkl, hpk⟩ := getP_is hg
  obtain ⟨hp, -, -, -⟩ := pl_facts (k := p.lo) hT.rise hT.first
  obtain ⟨PF, PN⟩ := pl_post hT.rise hT.first hp
  have hm30 : m ≤ 30 := by rw [← hO.li]; exact Nat.le_trans hT.good.il hT.len.2
  obtain ⟨W, hW, k1, k2, z, b0⟩ := tw_new w (.slice a1 n c1) (.slice a2 n c2) (.slice a3 m c3)
  have OW := hO.below b0
  have hkn : id < n := by rw [← OW.ln]; exact hkl
  have hpm : plR idx p.lo < m := by rw [← OW.li]; exact hp
  have HPL := hide (l05Place_any a3 m c3 idx p.lo W OW.trIn.ix hT.rise hT.first (by omega))
  obtain ⟨b, x, ha, -, hxX, P⟩ := OW.at hkl
  rw [hpk] at hxX
  replace hxX : x.X = p := hxX
  subst hxX
  subst ha
  obtain ⟨gi, oi, hai, j0, -⟩ := OW.trIn.ix.2 (plR idx x.X.lo) hp
  subst hai
  obtain rfl : oi = 0 := by
    rcases OW.own.ix.2 with ⟨e, _⟩ | ⟨g, cap, cur, e, _⟩
    · injection e with e; cases e
    · injection e with e; injection e with e; injection e
  have hcap : m ≤ c3 := by
    rcases OW.own.ix.2 with ⟨e, _⟩ | ⟨g, cap, cur, e, _, _, hc, _⟩
    · injection e with e; cases e
    · injection e with _ _ e; rw [e, ← OW.li]; exact hc
  have HIX := hide OW.trIn.ix
  have PTN := hide (show found (idx.map refE) x.X.lo = false → posT ps idx id x.X = ⟨ps, idx.take (plR idx x.X.lo + 1) ++ ⟨x.X.lo, (id : Int)⟩ :: idx.drop (plR idx x.X.lo + 1), ((plR idx x.X.lo + 1 : Nat) : Int), 0⟩ from fun h => by
    unfold posT
    rw [if_neg (by rw [h]; simp), (PN h).2])
  have PTF := hide (show found (idx.map refE) x.X.lo = true → posT ps idx id x.X = ⟨ps, idx, 0, 8⟩ from fun h => by
    unfold posT
    rw [if_pos h])
  have hz1 : w.heap.size < W.heap.size := by omega
  have hz2 : w.heap.size + 1 < W.heap.size := by omega
  have B0 := hide b0
  have K1 := hide k1
  have K2 := hide k2
  have OWh := hide OW
  have HTh := hide hT
  have HW := hide hW
  have q0 := P.c0
  have SKP := hide (show ∀ u, Below W.heap.size W u → u.cell? ⟨w.heap.size, 0, none⟩ = some (.slice (some ⟨b, 0, none⟩) n c1) ∧ u.cell? ⟨w.heap.size, 1, none⟩ = some (.slice a2 n c2) ∧ u.cell? ⟨w.heap.size, 2, none⟩ = some (.slice (some ⟨gi, 0, none⟩) m c3) from fun u hu => by
    have h := (hu.block w.heap.size hz1).trans k1
    exact ⟨(heap_at h 0).1, (heap_at h 1).1, (heap_at h 2).1⟩)
  obtain ⟨e0, e1, e2⟩ := unhide SKP W (Below.refl _ _)
  obtain ⟨L, hL⟩ : ∃ L, L = idx[plR idx x.X.lo].low := ⟨_, rfl⟩
  rw [← hL] at j0 PF PN
  obtain ⟨Kp, hK⟩ : ∃ Kp, Kp = plR idx x.X.lo := ⟨_, rfl⟩
  rw [← hK] at j0 HPL PTN hpm
  have LTL := hide (show Kp + 1 ≤ idx.length by rw [hK]; exact hp)
  rw [Nat.zero_add] at j0
  have hLl : found (idx.map refE) x.X.lo = true → L = x.X.lo := PF
  have hLn : found (idx.map refE) x.X.lo = false → ¬ L = x.X.lo := fun h => (PN h).1
  obtain ⟨F, hF⟩ : ∃ F, F = found (idx.map refE) x.X.lo := ⟨_, rfl⟩
  rw [← hF] at hLl hLn PTN PTF
  clear b0 k1 k2 z OW P hO hT hg hpk hW hp PF PN hL hK hF
  go_enter Tryz.func59, Tryz.ntmps59
  go_upto_region 1 with fail
  rw [← unhide HW]
  clear HW
  go_wp2_with fail
  refine (unhide HPL).mono ?_
  rintro e u1 ⟨rfl, hw1⟩
  subst u1
  clear HPL
  have kr := unhide K2
  cases F with
  | true =>
    have hEQ : L = x.X.lo := hLl rfl
    have r0 := (heap_at kr 0).1
    have r1 := (heap_at kr 1).1
    have r2 := (heap_at kr 2).1
    have g0 := (heap_at kr 0).2
    have g1 := (heap_at kr 1).2
    have g2 := (heap_at kr 2).2
    have RES := hide (show SpRes (posT ps idx id x.X) w (.returned (.tuple #[.agg #[.slice (some ⟨b, 0, none⟩) n c1, .slice a2 n c2, .slice (some ⟨gi, 0, none⟩) m c3], .int .i64 0, .int .i64 8])) (((W.setCell ⟨w.heap.size + 1, 0, none⟩ (.slice (some ⟨b, 0, none⟩) n c1)).setCell ⟨w.heap.size + 1, 1, none⟩ (.slice a2 n c2)).setCell ⟨w.heap.size + 1, 2, none⟩ (.slice (some ⟨gi, 0, none⟩) m c3)) by
      rw [unhide PTF rfl]
      exact SpRes.no (r := ⟨ps, idx, 0, 8⟩) (show (8 : Int) ≠ 0 by decide) ((((unhide B0).setCell (p := ⟨w.heap.size + 1, 0, none⟩) (Nat.le_succ _) _).setCell (p := ⟨w.heap.size + 1, 1, none⟩) (Nat.le_succ _) _).setCell (p := ⟨w.heap.size + 1, 2, none⟩) (Nat.le_succ _) _))
    subst hEQ
    clear kr hLl hLn
    go_wp2_with fail
    refine bodyPost_ret (v := .tuple #[.agg #[.slice (some ⟨b, 0, none⟩) n c1, .slice a2 n c2, .slice (some ⟨gi, 0, none⟩) m c3], .int .i64 0, .int .i64 8]) (by simp [results, Tryz.results59, go_sem, *]) rfl ?_
    exact unhide RES
  | false =>
    have hNE : ¬ L = x.X.lo := hLn rfl
    clear hLl hLn
    have hne : (L.toList == x.X.lo.toList) = false := by
      cases hq2 : (L.toList == x.X.lo.toList) with
      | false => rfl
      | true => exact absurd (toList_inj (by simpa using hq2)) hNE
    have HON := hide (l05Own_any B (some ⟨b, 0, none⟩) c1 a2 c2 (some ⟨gi, 0, none⟩) c3 n m hs ps idx W (unhide OWh) (unhide HTh))
    clear kr
    go_upto_region 5 with fail
    go_wp2_with fail
    refine (unhide HON).mono ?_
    rintro e u2 ⟨b1, k1', b2, k2', b3, k3', hs7, rfl, O7, hb7⟩
    have bA := (Below.refl u2.heap.size u2).alloc (Nat.le_refl _) (.cells #[.slice b1 n k1', .slice b2 n k2', .slice b3 m k3'] 29)
    have kT := heap_alloc_new u2 (.cells #[.slice b1 n k1', .slice b2 n k2', .slice b3 m k3'] 29)
    have S8 := hide ((O7.below bA).tg kT)
    have DAT := hide O7.dat
    have LNS := hide (show ps.length = n ∧ idx.length = m from ⟨O7.ln, O7.li⟩)
    have B8 := hide (hb7.trans (bA.mono hb7.size))
    have hh : W.heap.size ≤ u2.heap.size := hb7.size
    clear O7 hb7 bA kT HON e0 e1 e2 j0 q0
    go_upto_region 6 with fail
    generalize u2.alloc (.cells #[.slice b1 n k1', .slice b2 n k2', .slice b3 m k3'] 29) = u3 at *
    have htb : W.heap.size ≤ u2.heap.size := hh
    generalize u2.heap.size = tb at *
    obtain ⟨so, hso, RD⟩ : ∃ so : Nat, (if c3 = Kp + 1 then some (⟨gi, 0, none⟩ : Addr) else some ⟨gi, (Kp + 1) * 2, none⟩) = some ⟨gi, so, none⟩ ∧ JRow W (some ⟨gi, so, none⟩) (m - (Kp + 1)) (idx.drop (Kp + 1)) := by
      by_cases hc : c3 = Kp + 1
      · refine ⟨0, if_pos hc, ?_⟩
        have e : idx.drop (Kp + 1) = [] := List.drop_eq_nil_of_le (by rw [(unhide LNS).2]; omega)
        rw [e, show m - (Kp + 1) = 0 by omega]
        exact jrow_nil
      · refine ⟨(Kp + 1) * 2, if_neg hc, ?_⟩
        have h := (unhide HIX).drop (Kp + 1)
        rw [Nat.zero_add] at h
        exact h
    have RDh := hide RD
    have RT := hide ((unhide HIX).take (k := Kp + 1) (by omega))
    have LT := hide (show (idx.take (Kp + 1)).length = Kp + 1 by rw [List.length_take]; have := unhide LTL; omega)
    have sb0 := unhide B8
    have hu3b : W.heap.size ≤ u3.heap.size := sb0.size
    have hwr : IntKind.i64.wrap ((Kp : Int) + 1) = (Kp : Int) + 1 := by rw [IntKind.wrap_i64]; omega
    have htn : ((Kp : Int) + 1).toNat = Kp + 1 := by omega
    have hc1 : (Kp : Int) + 1 ≤ (c3 : Int) := by omega
    have hm1 : (Kp : Int) + 1 ≤ (m : Int) := by omega
    have hge0 : 0 ≤ (Kp : Int) + 1 := by omega
    have SK := hide (show ∀ u, Below u3.heap.size u3 u → u.cell? ⟨w.heap.size, 2, none⟩ = some (.slice (some ⟨gi, 0, none⟩) m c3) from fun u hu => (unhide SKP u (sb0.trans (hu.mono sb0.size))).2.2)
    have S0 := hide (show IxSt u3 u3.drew ⟨x.X.lo, (id : Int)⟩ none none from ⟨(Below.refl _ _).drew, fun _ _ e => (by cases e), fun _ e => (by cases e), fun _ _ _ e => (by cases e)⟩)
    clear RD sb0
    refine wp_region_held_drew (S := (fun u => u.cell? ⟨w.heap.size, 2, none⟩ = some (.slice (some ⟨gi, 0, none⟩) m c3))) (by kernel_rfl) (unhide SK _ (unhide S0).bel) (fun hHeld => ?_)
    have Ts := S0
    clear S0
    generalize u3.drew = us at *
    refine anyH_take 1 32 (v := ?v1) rfl rfl (by kernel_rfl) (by kernel_rfl) (by kernel_rfl) (fun _ _ _ h => h) (by rfl) ?h1 hHeld ?r1
    case h1 => (intro w hSw; (try dsimp only at hSw); go_simp; try (with_reducible rfl))
    simp only [Act.put, List.setIfInBounds_toArray, List.set_cons_zero, List.set_cons_succ]
    refine anyH_take 2 33 (v := ?v2) rfl rfl (by kernel_rfl) (by kernel_rfl) (by kernel_rfl) (fun _ _ _ h => h) (by rfl) ?h2 hHeld ?r2
    case h2 => (intro w hSw; (try dsimp only at hSw); go_simp; try (with_reducible rfl))
    simp only [Act.put, List.setIfInBounds_toArray, List.set_cons_zero, List.set_cons_succ]
    refine anyH_take 3 34 (v := ?v3) rfl rfl (by kernel_rfl) (by kernel_rfl) (by kernel_rfl) (fun _ _ _ h => h) (by rfl) ?h3 hHeld ?r3
    case h3 => (intro w hSw; (try dsimp only at hSw); go_simp; try (with_reducible rfl))
    simp only [Act.put, List.setIfInBounds_toArray, List.set_cons_zero, List.set_cons_succ]
    refine anyH_take 4 35 (v := ?v4) rfl rfl (by kernel_rfl) (by kernel_rfl) (by kernel_rfl) (fun _ _ _ h => h) (by rfl) ?h4 hHeld ?r4
    case h4 => (intro w hSw; (try dsimp only at hSw); go_simp; try (with_reducible rfl))
    simp only [Act.put, List.setIfInBounds_toArray, List.set_cons_zero, List.set_cons_succ]
    refine anyH_take 5 36 (v := ?v5) rfl rfl (by kernel_rfl) (by kernel_rfl) (by kernel_rfl) (fun _ _ _ h => h) (by rfl) ?h5 hHeld ?r5
    case h5 => (intro w hSw; (try dsimp only at hSw); go_simp; try (with_reducible rfl))
    simp only [Act.put, List.setIfInBounds_toArray, List.set_cons_zero, List.set_cons_succ]
    refine anyH_take 7 38 (v := ?v6) rfl rfl (by kernel_rfl) (by kernel_rfl) (by kernel_rfl) (fun _ _ _ h => h) (by rfl) ?h6 hHeld ?r6
    case h6 => (intro w hSw; (try dsimp only at hSw); go_simp; try (with_reducible rfl))
    simp only [Act.put, List.setIfInBounds_toArray, List.set_cons_zero, List.set_cons_succ]
    refine anyH_take 8 39 (v := ?v7) rfl rfl (by kernel_rfl) (by kernel_rfl) (by kernel_rfl) (fun _ _ _ h => h) (by rfl) ?h7 hHeld ?r7
    case h7 => (intro w hSw; (try dsimp only at hSw); go_simp; try (with_reducible rfl))
    simp only [Act.put, List.setIfInBounds_toArray, List.set_cons_zero, List.set_cons_succ]
    refine anyH_take 9 40 (v := ?v8) rfl rfl (by kernel_rfl) (by kernel_rfl) (by kernel_rfl) (fun _ _ _ h => h) (by rfl) ?h8 hHeld ?r8
    case h8 => (intro w hSw; (try dsimp only at hSw); go_simp; try (with_reducible rfl))
    simp only [Act.put, List.setIfInBounds_toArray, List.set_cons_zero, List.set_cons_succ]
    refine anyH_take 12 43 (v := ?v9) rfl rfl (by kernel_rfl) (by kernel_rfl) (by kernel_rfl) (fun _ _ _ h => h) (by rfl) ?h9 hHeld ?r9
    case h9 => (intro w hSw; (try dsimp only at hSw); go_simp; try (with_reducible rfl))
    simp only [Act.put, List.setIfInBounds_toArray, List.set_cons_zero, List.set_cons_succ]
    refine anyH_take 13 44 (v := ?v10) rfl rfl (by kernel_rfl) (by kernel_rfl) (by kernel_rfl) (fun _ _ _ h => h) (by rfl) ?h10 hHeld ?r10
    case h10 => (intro w hSw; (try dsimp only at hSw); go_simp; try (with_reducible rfl))
    simp only [Act.put, List.setIfInBounds_toArray, List.set_cons_zero, List.set_cons_succ]
    refine anyH_take 14 45 (v := ?v11) rfl rfl (by kernel_rfl) (by kernel_rfl) (by kernel_rfl) (fun _ _ _ h => h) (by rfl) ?h11 hHeld ?r11
    case h11 => (intro w hSw; (try dsimp only at hSw); go_simp; try (with_reducible rfl))
    simp only [Act.put, List.setIfInBounds_toArray, List.set_cons_zero, List.set_cons_succ]
    refine anyH_take 15 46 (v := ?v12) rfl rfl (by kernel_rfl) (by kernel_rfl) (by kernel_rfl) (fun _ _ _ h => h) (by rfl) ?h12 hHeld ?r12
    case h12 => (intro w hSw; (try dsimp only at hSw); go_simp; try (with_reducible rfl))
    simp only [Act.put, List.setIfInBounds_toArray, List.set_cons_zero, List.set_cons_succ]
    refine anyH_take 16 47 (v := ?v13) rfl rfl (by kernel_rfl) (by kernel_rfl) (by kernel_rfl) (fun _ _ _ h => h) (by rfl) ?h13 hHeld ?r13
    case h13 => (intro w hSw; (try dsimp only at hSw); go_simp; try (with_reducible rfl))
    simp only [Act.put, List.setIfInBounds_toArray, List.set_cons_zero, List.set_cons_succ]
    refine wpAnyH_ready (rs := [0, 10]) (by kernel_rfl) (by simp) ?_
    refine AllReadyH.cons rfl (fun K hK => ?_) (AllReadyH.cons rfl (fun K hK => ?_) AllReadyH.nil)
    · have T0 := hide (unhide Ts).start
      go_simp
      generalize us.alloc (.cells #[] 69) = u0 at *
      generalize us.heap.size = g5 at *
      refine hK.out _ _ (unhide SK _ (unhide T0).bel) (fun hHeld => ?_)
      clear hK K
      refine wpAnyH_ready (rs := [6, 10]) (by kernel_rfl) (by simp) ?_
      refine AllReadyH.cons rfl (fun K hK => ?_) (AllReadyH.cons rfl (fun K hK => ?_) AllReadyH.nil)
      · obtain ⟨a6, k6, u0_6, hr, hs8⟩ := (unhide T0).app (c := c3) ((unhide RT).below ((unhide B8).trans ((unhide T0).bel.mono (unhide B8).size))) (by omega) (by simp)
        have T0_6 := hide hs8
        simp only [List.length_nil, Nat.zero_add, List.nil_append] at hr T0_6
        clear hs8
        refine us_stepApp rfl (.tmp 31) (.tmp 36) 27 rfl _ _ (.slice a6 (Kp + 1) k6) u0_6 (by first | rfl | (simp [Act.eval]; done) | (simp [Act.eval, Act.put]; done)) (by first | rfl | (simp [Act.eval]; done) | (simp [Act.eval, Act.put]; done)) hr ?_
        clear hr
        refine hK.out _ _ (unhide SK _ (unhide T0_6).bel) (fun hHeld => ?_)
        clear hK K
        refine wpAnyH_ready (rs := [10]) (by kernel_rfl) (by simp) ?_
        refine AllReadyH.cons rfl (fun K hK => ?_) AllReadyH.nil
        have T0_6_10 := hide (unhide T0_6).lit
        go_simp
        generalize u0_6.alloc (.cells #[.string x.X.lo, .int .i64 (id : Int)] 69) = u0_6_10 at *
        generalize u0_6.heap.size = g6 at *
        refine hK.out _ _ (unhide SK _ (unhide T0_6_10).bel) (fun hHeld => ?_)
        clear hK K
        refine wpAnyH_ready (rs := [11]) (by kernel_rfl) (by simp) ?_
        refine AllReadyH.cons rfl (fun K hK => ?_) AllReadyH.nil
        obtain ⟨a7, k7, u0_6_10_11, hr, hs8⟩ := (unhide T0_6_10).app (c := 1) (unhide T0_6_10).row (by omega) (by rw [unhide LT]; omega)
        rw [unhide LT] at hr hs8
        have T0_6_10_11 := hide hs8.noLit
        clear hs8
        refine us_stepApp rfl (.tmp 37) (.tmp 41) 27 rfl _ _ (.slice a7 (Kp + 1 + 1) k7) u0_6_10_11 (by first | rfl | (simp [Act.eval]; done) | (simp [Act.eval, Act.put]; done)) (by first | rfl | (simp [Act.eval]; done) | (simp [Act.eval, Act.put]; done)) hr ?_
        clear hr
        refine hK.out _ _ (unhide SK _ (unhide T0_6_10_11).bel) (fun hHeld => ?_)
        clear hK K
        refine wpAnyH_ready (rs := [17]) (by kernel_rfl) (by simp) ?_
        refine AllReadyH.cons rfl (fun K hK => ?_) AllReadyH.nil
        obtain ⟨a8, k8, u0_6_10_11_17, hr, hs8⟩ := (unhide T0_6_10_11).app (c := c3 - (Kp + 1)) ((unhide RDh).below ((unhide B8).trans ((unhide T0_6_10_11).bel.mono (unhide B8).size))) (by omega) (by rw [List.length_append, unhide LT]; simp; omega)
        have hln : (idx.take (Kp + 1) ++ [(⟨x.X.lo, (id : Int)⟩ : RefD)]).length + (m - (Kp + 1)) = m + 1 := by rw [List.length_append, unhide LT]; simp only [List.length_singleton]; omega
        rw [hln] at hr hs8
        clear hln
        have T0_6_10_11_17 := hide hs8
        clear hs8
        refine us_stepApp rfl (.tmp 42) (.tmp 47) 27 rfl _ _ (.slice a8 (m + 1) k8) u0_6_10_11_17 (by first | rfl | (simp [Act.eval]; done) | (simp [Act.eval, Act.put]; done)) (by first | rfl | (simp [Act.eval]; done) | (simp [Act.eval, Act.put]; done)) hr ?_
        clear hr
        refine hK.out _ _ (unhide SK _ (unhide T0_6_10_11_17).bel) (fun hHeld => ?_)
        clear hK K
        refine anyH_take 18 49 (v := ?v14) rfl rfl (by kernel_rfl) (by kernel_rfl) (by kernel_rfl) (fun _ _ _ h => h) (by rfl) ?h14 hHeld ?r14
        case h14 => (intro w hSw; (try dsimp only at hSw); go_simp; try (with_reducible rfl))
        simp only [Act.put, List.setIfInBounds_toArray]
        refine wpAnyH_ready (rs := [19]) (by kernel_rfl) (by simp) ?_
        refine AllReadyH.cons rfl (fun K hK => ?_) AllReadyH.nil
        have S9 := (unhide S8).below (unhide T0_6_10_11_17).bel
        have y2 := (heap_at S9.box 2).1
        have f2 := (heap_at S9.box 2).2
        have JN := gd_base ((unhide T0_6_10_11_17).pr _ _ rfl).1 hu3b
        have S10 := hide (S9.index JN)
        have B10 := hide (show Below W.heap.size W _ from ((unhide B8).trans ((unhide T0_6_10_11_17).bel.mono (unhide B8).size)).setCell (p := ⟨tb, 2, none⟩) htb (.slice a8 (m + 1) k8))
        have SKF := hide (show (u0_6_10_11_17.setCell ⟨tb, 2, none⟩ (.slice a8 (m + 1) k8)).cell? ⟨w.heap.size, 2, none⟩ = some (.slice (some ⟨gi, 0, none⟩) m c3) from (unhide SKP _ (unhide B10)).2.2)
        clear S9 JN
        go_simp
        refine hK.out _ _ (unhide SKF) (fun hHeld => ?_)
        clear hK K
        refine wpAnyH_done (by kernel_rfl) ?_ _
        generalize u0_6_10_11_17.setCell ⟨tb, 2, none⟩ (.slice a8 (m + 1) k8) = u9 at *
        have K9 := (unhide S10).box
        have z0 := (heap_at K9 0).1
        have z1 := (heap_at K9 1).1
        have z2 := (heap_at K9 2).1
        have kr9 := ((unhide B10).block (w.heap.size + 1) hz2).trans (unhide K2)
        have r0 := (heap_at kr9 0).1
        have r1 := (heap_at kr9 1).1
        have r2 := (heap_at kr9 2).1
        have g0 := (heap_at kr9 0).2
        have g1 := (heap_at kr9 1).2
        have g2 := (heap_at kr9 2).2
        have BB := (unhide B0).trans ((unhide B10).mono (unhide B0).size)
        have RS := hide (show TsOwn u9 W.heap.size b1 k1' b2 k2' a8 k8 n (m + 1) hs7 ps (idx.take (Kp + 1) ++ ⟨x.X.lo, (id : Int)⟩ :: idx.drop (Kp + 1)) from (by rw [List.append_cons]; exact ((unhide S10).ts rfl (unhide DAT) (unhide LNS).1 (by rw [List.length_append, List.length_append, unhide LT, List.length_drop, (unhide LNS).2]; simp only [List.length_singleton]; omega))))
        have RES := hide (show SpRes (posT ps idx id x.X) w (.returned (.tuple #[.agg #[.slice b1 n k1', .slice b2 n k2', .slice a8 (m + 1) k8], .int .i64 ((Kp + 1 : Nat) : Int), .int .i64 0])) (((u9.setCell ⟨w.heap.size + 1, 0, none⟩ (.slice b1 n k1')).setCell ⟨w.heap.size + 1, 1, none⟩ (.slice b2 n k2')).setCell ⟨w.heap.size + 1, 2, none⟩ (.slice a8 (m + 1) k8)) by
          rw [unhide PTN (by first | rfl | trivial)]
          exact ⟨_, _, _, _, _, _, _, _, _, _, rfl, fun _ => ⟨rfl, ((((unhide RS).set hz2 0 _).set hz2 1 _).set hz2 2 _).dn (Nat.le_of_lt hz1)⟩, ((BB.setCell (p := ⟨w.heap.size + 1, 0, none⟩) (Nat.le_succ _) _).setCell (p := ⟨w.heap.size + 1, 1, none⟩) (Nat.le_succ _) _).setCell (p := ⟨w.heap.size + 1, 2, none⟩) (Nat.le_succ _) _⟩)
        clear K9 kr9 BB RS
        go_wp2_with fail
        refine bodyPost_ret (v := .tuple #[.agg #[.slice b1 n k1', .slice b2 n k2', .slice a8 (m + 1) k8], .int .i64 ((Kp + 1 : Nat) : Int), .int .i64 0]) (by simp [results, Tryz.results59, go_sem, *]) rfl ?_
        exact unhide RES
      · have T0_10 := hide (unhide T0).lit
        go_simp
        generalize u0.alloc (.cells #[.string x.X.lo, .int .i64 (id : Int)] 69) = u0_10 at *
        generalize u0.heap.size = g6 at *
        refine hK.out _ _ (unhide SK _ (unhide T0_10).bel) (fun hHeld => ?_)
        clear hK K
        refine wpAnyH_ready (rs := [6]) (by kernel_rfl) (by simp) ?_
        refine AllReadyH.cons rfl (fun K hK => ?_) AllReadyH.nil
        obtain ⟨a6, k6, u0_10_6, hr, hs8⟩ := (unhide T0_10).app (c := c3) ((unhide RT).below ((unhide B8).trans ((unhide T0_10).bel.mono (unhide B8).size))) (by omega) (by simp)
        have T0_10_6 := hide hs8
        simp only [List.length_nil, Nat.zero_add, List.nil_append] at hr T0_10_6
        clear hs8
        refine us_stepApp rfl (.tmp 31) (.tmp 36) 27 rfl _ _ (.slice a6 (Kp + 1) k6) u0_10_6 (by first | rfl | (simp [Act.eval]; done) | (simp [Act.eval, Act.put]; done)) (by first | rfl | (simp [Act.eval]; done) | (simp [Act.eval, Act.put]; done)) hr ?_
        clear hr
        refine hK.out _ _ (unhide SK _ (unhide T0_10_6).bel) (fun hHeld => ?_)
        clear hK K
        refine wpAnyH_ready (rs := [11]) (by kernel_rfl) (by simp) ?_
        refine AllReadyH.cons rfl (fun K hK => ?_) AllReadyH.nil
        obtain ⟨a7, k7, u0_10_6_11, hr, hs8⟩ := (unhide T0_10_6).app (c := 1) (unhide T0_10_6).row (by omega) (by rw [unhide LT]; omega)
        rw [unhide LT] at hr hs8
        have T0_10_6_11 := hide hs8.noLit
        clear hs8
        refine us_stepApp rfl (.tmp 37) (.tmp 41) 27 rfl _ _ (.slice a7 (Kp + 1 + 1) k7) u0_10_6_11 (by first | rfl | (simp [Act.eval]; done) | (simp [Act.eval, Act.put]; done)) (by first | rfl | (simp [Act.eval]; done) | (simp [Act.eval, Act.put]; done)) hr ?_
        clear hr
        refine hK.out _ _ (unhide SK _ (unhide T0_10_6_11).bel) (fun hHeld => ?_)
        clear hK K
        refine wpAnyH_ready (rs := [17]) (by kernel_rfl) (by simp) ?_
        refine AllReadyH.cons rfl (fun K hK => ?_) AllReadyH.nil
        obtain ⟨a8, k8, u0_10_6_11_17, hr, hs8⟩ := (unhide T0_10_6_11).app (c := c3 - (Kp + 1)) ((unhide RDh).below ((unhide B8).trans ((unhide T0_10_6_11).bel.mono (unhide B8).size))) (by omega) (by rw [List.length_append, unhide LT]; simp; omega)
        have hln : (idx.take (Kp + 1) ++ [(⟨x.X.lo, (id : Int)⟩ : RefD)]).length + (m - (Kp + 1)) = m + 1 := by rw [List.length_append, unhide LT]; simp only [List.length_singleton]; omega
        rw [hln] at hr hs8
        clear hln
        have T0_10_6_11_17 := hide hs8
        clear hs8
        refine us_stepApp rfl (.tmp 42) (.tmp 47) 27 rfl _ _ (.slice a8 (m + 1) k8) u0_10_6_11_17 (by first | rfl | (simp [Act.eval]; done) | (simp [Act.eval, Act.put]; done)) (by first | rfl | (simp [Act.eval]; done) | (simp [Act.eval, Act.put]; done)) hr ?_
        clear hr
        refine hK.out _ _ (unhide SK _ (unhide T0_10_6_11_17).bel) (fun hHeld => ?_)
        clear hK K
        refine anyH_take 18 49 (v := ?v15) rfl rfl (by kernel_rfl) (by kernel_rfl) (by kernel_rfl) (fun _ _ _ h => h) (by rfl) ?h15 hHeld ?r15
        case h15 => (intro w hSw; (try dsimp only at hSw); go_simp; try (with_reducible rfl))
        simp only [Act.put, List.setIfInBounds_toArray]
        refine wpAnyH_ready (rs := [19]) (by kernel_rfl) (by simp) ?_
        refine AllReadyH.cons rfl (fun K hK => ?_) AllReadyH.nil
        have S9 := (unhide S8).below (unhide T0_10_6_11_17).bel
        have y2 := (heap_at S9.box 2).1
        have f2 := (heap_at S9.box 2).2
        have JN := gd_base ((unhide T0_10_6_11_17).pr _ _ rfl).1 hu3b
        have S10 := hide (S9.index JN)
        have B10 := hide (show Below W.heap.size W _ from ((unhide B8).trans ((unhide T0_10_6_11_17).bel.mono (unhide B8).size)).setCell (p := ⟨tb, 2, none⟩) htb (.slice a8 (m + 1) k8))
        have SKF := hide (show (u0_10_6_11_17.setCell ⟨tb, 2, none⟩ (.slice a8 (m + 1) k8)).cell? ⟨w.heap.size, 2, none⟩ = some (.slice (some ⟨gi, 0, none⟩) m c3) from (unhide SKP _ (unhide B10)).2.2)
        clear S9 JN
        go_simp
        refine hK.out _ _ (unhide SKF) (fun hHeld => ?_)
        clear hK K
        refine wpAnyH_done (by kernel_rfl) ?_ _
        generalize u0_10_6_11_17.setCell ⟨tb, 2, none⟩ (.slice a8 (m + 1) k8) = u9 at *
        have K9 := (unhide S10).box
        have z0 := (heap_at K9 0).1
        have z1 := (heap_at K9 1).1
        have z2 := (heap_at K9 2).1
        have kr9 := ((unhide B10).block (w.heap.size + 1) hz2).trans (unhide K2)
        have r0 := (heap_at kr9 0).1
        have r1 := (heap_at kr9 1).1
        have r2 := (heap_at kr9 2).1
        have g0 := (heap_at kr9 0).2
        have g1 := (heap_at kr9 1).2
        have g2 := (heap_at kr9 2).2
        have BB := (unhide B0).trans ((unhide B10).mono (unhide B0).size)
        have RS := hide (show TsOwn u9 W.heap.size b1 k1' b2 k2' a8 k8 n (m + 1) hs7 ps (idx.take (Kp + 1) ++ ⟨x.X.lo, (id : Int)⟩ :: idx.drop (Kp + 1)) from (by rw [List.append_cons]; exact ((unhide S10).ts rfl (unhide DAT) (unhide LNS).1 (by rw [List.length_append, List.length_append, unhide LT, List.length_drop, (unhide LNS).2]; simp only [List.length_singleton]; omega))))
        have RES := hide (show SpRes (posT ps idx id x.X) w (.returned (.tuple #[.agg #[.slice b1 n k1', .slice b2 n k2', .slice a8 (m + 1) k8], .int .i64 ((Kp + 1 : Nat) : Int), .int .i64 0])) (((u9.setCell ⟨w.heap.size + 1, 0, none⟩ (.slice b1 n k1')).setCell ⟨w.heap.size + 1, 1, none⟩ (.slice b2 n k2')).setCell ⟨w.heap.size + 1, 2, none⟩ (.slice a8 (m + 1) k8)) by
          rw [unhide PTN (by first | rfl | trivial)]
          exact ⟨_, _, _, _, _, _, _, _, _, _, rfl, fun _ => ⟨rfl, ((((unhide RS).set hz2 0 _).set hz2 1 _).set hz2 2 _).dn (Nat.le_of_lt hz1)⟩, ((BB.setCell (p := ⟨w.heap.size + 1, 0, none⟩) (Nat.le_succ _) _).setCell (p := ⟨w.heap.size + 1, 1, none⟩) (Nat.le_succ _) _).setCell (p := ⟨w.heap.size + 1, 2, none⟩) (Nat.le_succ _) _⟩)
        clear K9 kr9 BB RS
        go_wp2_with fail
        refine bodyPost_ret (v := .tuple #[.agg #[.slice b1 n k1', .slice b2 n k2', .slice a8 (m + 1) k8], .int .i64 ((Kp + 1 : Nat) : Int), .int .i64 0]) (by simp [results, Tryz.results59, go_sem, *]) rfl ?_
        exact unhide RES
    · have T10 := hide (unhide Ts).lit
      go_simp
      generalize us.alloc (.cells #[.string x.X.lo, .int .i64 (id : Int)] 69) = u10 at *
      generalize us.heap.size = g6 at *
      refine hK.out _ _ (unhide SK _ (unhide T10).bel) (fun hHeld => ?_)
      clear hK K
      refine wpAnyH_ready (rs := [0]) (by kernel_rfl) (by simp) ?_
      refine AllReadyH.cons rfl (fun K hK => ?_) AllReadyH.nil
      have T10_0 := hide (unhide T10).start
      go_simp
      generalize u10.alloc (.cells #[] 69) = u10_0 at *
      generalize u10.heap.size = g5 at *
      refine hK.out _ _ (unhide SK _ (unhide T10_0).bel) (fun hHeld => ?_)
      clear hK K
      refine wpAnyH_ready (rs := [6]) (by kernel_rfl) (by simp) ?_
      refine AllReadyH.cons rfl (fun K hK => ?_) AllReadyH.nil
      obtain ⟨a6, k6, u10_0_6, hr, hs8⟩ := (unhide T10_0).app (c := c3) ((unhide RT).below ((unhide B8).trans ((unhide T10_0).bel.mono (unhide B8).size))) (by omega) (by simp)
      have T10_0_6 := hide hs8
      simp only [List.length_nil, Nat.zero_add, List.nil_append] at hr T10_0_6
      clear hs8
      refine us_stepApp rfl (.tmp 31) (.tmp 36) 27 rfl _ _ (.slice a6 (Kp + 1) k6) u10_0_6 (by first | rfl | (simp [Act.eval]; done) | (simp [Act.eval, Act.put]; done)) (by first | rfl | (simp [Act.eval]; done) | (simp [Act.eval, Act.put]; done)) hr ?_
      clear hr
      refine hK.out _ _ (unhide SK _ (unhide T10_0_6).bel) (fun hHeld => ?_)
      clear hK K
      refine wpAnyH_ready (rs := [11]) (by kernel_rfl) (by simp) ?_
      refine AllReadyH.cons rfl (fun K hK => ?_) AllReadyH.nil
      obtain ⟨a7, k7, u10_0_6_11, hr, hs8⟩ := (unhide T10_0_6).app (c := 1) (unhide T10_0_6).row (by omega) (by rw [unhide LT]; omega)
      rw [unhide LT] at hr hs8
      have T10_0_6_11 := hide hs8.noLit
      clear hs8
      refine us_stepApp rfl (.tmp 37) (.tmp 41) 27 rfl _ _ (.slice a7 (Kp + 1 + 1) k7) u10_0_6_11 (by first | rfl | (simp [Act.eval]; done) | (simp [Act.eval, Act.put]; done)) (by first | rfl | (simp [Act.eval]; done) | (simp [Act.eval, Act.put]; done)) hr ?_
      clear hr
      refine hK.out _ _ (unhide SK _ (unhide T10_0_6_11).bel) (fun hHeld => ?_)
      clear hK K
      refine wpAnyH_ready (rs := [17]) (by kernel_rfl) (by simp) ?_
      refine AllReadyH.cons rfl (fun K hK => ?_) AllReadyH.nil
      obtain ⟨a8, k8, u10_0_6_11_17, hr, hs8⟩ := (unhide T10_0_6_11).app (c := c3 - (Kp + 1)) ((unhide RDh).below ((unhide B8).trans ((unhide T10_0_6_11).bel.mono (unhide B8).size))) (by omega) (by rw [List.length_append, unhide LT]; simp; omega)
      have hln : (idx.take (Kp + 1) ++ [(⟨x.X.lo, (id : Int)⟩ : RefD)]).length + (m - (Kp + 1)) = m + 1 := by rw [List.length_append, unhide LT]; simp only [List.length_singleton]; omega
      rw [hln] at hr hs8
      clear hln
      have T10_0_6_11_17 := hide hs8
      clear hs8
      refine us_stepApp rfl (.tmp 42) (.tmp 47) 27 rfl _ _ (.slice a8 (m + 1) k8) u10_0_6_11_17 (by first | rfl | (simp [Act.eval]; done) | (simp [Act.eval, Act.put]; done)) (by first | rfl | (simp [Act.eval]; done) | (simp [Act.eval, Act.put]; done)) hr ?_
      clear hr
      refine hK.out _ _ (unhide SK _ (unhide T10_0_6_11_17).bel) (fun hHeld => ?_)
      clear hK K
      refine anyH_take 18 49 (v := ?v16) rfl rfl (by kernel_rfl) (by kernel_rfl) (by kernel_rfl) (fun _ _ _ h => h) (by rfl) ?h16 hHeld ?r16
      case h16 => (intro w hSw; (try dsimp only at hSw); go_simp; try (with_reducible rfl))
      simp only [Act.put, List.setIfInBounds_toArray]
      refine wpAnyH_ready (rs := [19]) (by kernel_rfl) (by simp) ?_
      refine AllReadyH.cons rfl (fun K hK => ?_) AllReadyH.nil
      have S9 := (unhide S8).below (unhide T10_0_6_11_17).bel
      have y2 := (heap_at S9.box 2).1
      have f2 := (heap_at S9.box 2).2
      have JN := gd_base ((unhide T10_0_6_11_17).pr _ _ rfl).1 hu3b
      have S10 := hide (S9.index JN)
      have B10 := hide (show Below W.heap.size W _ from ((unhide B8).trans ((unhide T10_0_6_11_17).bel.mono (unhide B8).size)).setCell (p := ⟨tb, 2, none⟩) htb (.slice a8 (m + 1) k8))
      have SKF := hide (show (u10_0_6_11_17.setCell ⟨tb, 2, none⟩ (.slice a8 (m + 1) k8)).cell? ⟨w.heap.size, 2, none⟩ = some (.slice (some ⟨gi, 0, none⟩) m c3) from (unhide SKP _ (unhide B10)).2.2)
      clear S9 JN
      go_simp
      refine hK.out _ _ (unhide SKF) (fun hHeld => ?_)
      clear hK K
      refine wpAnyH_done (by kernel_rfl) ?_ _
      generalize u10_0_6_11_17.setCell ⟨tb, 2, none⟩ (.slice a8 (m + 1) k8) = u9 at *
      have K9 := (unhide S10).box
      have z0 := (heap_at K9 0).1
      have z1 := (heap_at K9 1).1
      have z2 := (heap_at K9 2).1
      have kr9 := ((unhide B10).block (w.heap.size + 1) hz2).trans (unhide K2)
      have r0 := (heap_at kr9 0).1
      have r1 := (heap_at kr9 1).1
      have r2 := (heap_at kr9 2).1
      have g0 := (heap_at kr9 0).2
      have g1 := (heap_at kr9 1).2
      have g2 := (heap_at kr9 2).2
      have BB := (unhide B0).trans ((unhide B10).mono (unhide B0).size)
      have RS := hide (show TsOwn u9 W.heap.size b1 k1' b2 k2' a8 k8 n (m + 1) hs7 ps (idx.take (Kp + 1) ++ ⟨x.X.lo, (id : Int)⟩ :: idx.drop (Kp + 1)) from (by rw [List.append_cons]; exact ((unhide S10).ts rfl (unhide DAT) (unhide LNS).1 (by rw [List.length_append, List.length_append, unhide LT, List.length_drop, (unhide LNS).2]; simp only [List.length_singleton]; omega))))
      have RES := hide (show SpRes (posT ps idx id x.X) w (.returned (.tuple #[.agg #[.slice b1 n k1', .slice b2 n k2', .slice a8 (m + 1) k8], .int .i64 ((Kp + 1 : Nat) : Int), .int .i64 0])) (((u9.setCell ⟨w.heap.size + 1, 0, none⟩ (.slice b1 n k1')).setCell ⟨w.heap.size + 1, 1, none⟩ (.slice b2 n k2')).setCell ⟨w.heap.size + 1, 2, none⟩ (.slice a8 (m + 1) k8)) by
        rw [unhide PTN (by first | rfl | trivial)]
        exact ⟨_, _, _, _, _, _, _, _, _, _, rfl, fun _ => ⟨rfl, ((((unhide RS).set hz2 0 _).set hz2 1 _).set hz2 2 _).dn (Nat.le_of_lt hz1)⟩, ((BB.setCell (p := ⟨w.heap.size + 1, 0, none⟩) (Nat.le_succ _) _).setCell (p := ⟨w.heap.size + 1, 1, none⟩) (Nat.le_succ _) _).setCell (p := ⟨w.heap.size + 1, 2, none⟩) (Nat.le_succ _) _⟩)
      clear K9 kr9 BB RS
      go_wp2_with fail
      refine bodyPost_ret (v := .tuple #[.agg #[.slice b1 n k1', .slice b2 n k2', .slice a8 (m + 1) k8], .int .i64 ((Kp + 1 : Nat) : Int), .int .i64 0]) (by simp [results, Tryz.results59, go_sem, *]) rfl ?_
      exact unhide RES
end Go.Proofs.YtbhkmmdcdfjbkaaGreat
