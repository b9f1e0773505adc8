/-
  KdA, TxF, TxG, TxH, PrA, VvT, VvB, MkT, VrM, SeD, SeM, VrH, FnM, FnH, SeN, HmA in one.
-/
import Derived.Test.YtfajenejngddeaaGreatGdA
import Derived.Test.YtfajenejngddeaaGreatWrT
import Derived.Test.YtfajenejngddeaaGreatRowR
import Derived.Test.YtfajenejngddeaaGreatPrAll1
import Derived.Test.YtfajenejngddeaaGreatSzV
import Derived.Test.YtfajenejngddeaaGreatSeT
import Derived.Test.YtfajenejngddeaaGreatVvA
import Derived.Test.YtfajenejngddeaaGreatOwn
import Derived.Laws.BytesArg
import Derived.Test.YtfajenejngddeaaGreatVrC
import Derived.Deep.RegionWith
import Derived.Test.YtfajenejngddeaaGreatSeA
import Derived.Test.YtfajenejngddeaaGreatFnC
import Derived.Test.YtfajenejngddeaaGreatVrT
import Derived.Test.YtfajenejngddeaaGreatVrL
import Derived.Test.YtfajenejngddeaaGreatVaG
import Derived.Test.YtfajenejngddeaaGreatTakes
import Derived.Maps.OwnOps
import Derived.Maps.OwnSet
import Derived.MapKept
namespace Go.Proofs.YtfajenejngddeaaGreat
open Go.RowKit

theorem own_kind {w : World} {B t s n i : Nat} {v : Value} {cs : List Value} (h : w.ownsRow B t s v n cs) (hi : v.ownBlock = some i) : ∃ cur, w.heap[i]? = some (.cells cur t (0, 0)) := by
  rcases h.2 with ⟨e, _⟩ | ⟨g, cap, cur, e, _, hh, _⟩
  · subst e; cases hi
  · subst e; cases hi; exact ⟨cur, hh⟩
theorem nil_lit {w : World} (e s : Nat) : (w.alloc (.cells #[] e)).ownsRow w.heap.size e s (.slice (some ⟨w.heap.size, 0, none⟩) 0 0) 0 [] := by
  have := World.ownsRow_lit (base := w.heap.size) (e := e) (size := s) w #[] 0 (Nat.le_refl _) (by unfold maxLen; simp) (by simp)
  simpa using this
theorem blk_lt {w : World} {b : Nat} {o : Obj} (h : w.heap[b]? = some o) : b < w.heap.size := (Array.getElem?_eq_some_iff.1 h).1
theorem own_other {w : World} {B C n m s s' t t' : Nat} {v u : Value} {cs cs' : List Value} (h : w.ownsRow B t s v n cs) (h' : w.ownsRow C t' s' u m cs') (ht : t ≠ t') {i : Nat} (hi : v.ownBlock = some i) : ¬ u.ownBlock = some i := fun hb => by
  obtain ⟨cur, hc⟩ := own_kind h hi
  obtain ⟨cur', hc'⟩ := own_kind h' hb
  rw [hc] at hc'
  injection hc' with hc'
  injection hc' with _ hc' _
  exact ht hc'
theorem NOwn.keep {w w' : World} {B T S n : Nat} {v : Value} {es : List El} (h : NOwn w B T S v n es) {P : Nat → Prop} (hw : WrB P w w') (hp : ∀ i, NBl v es i → ¬ P i) : NOwn w' B T S v n es :=
  ⟨rr_owns_wr h.row hw (fun i hi => hp i (.inl hi)), h.len, h.wid, fun k a x hx => rr_owns_wr (h.dat k a x hx) hw (fun i hi => hp i (.inr ⟨k, a, x, hx, hi⟩)), h.far, h.off⟩
theorem own_box {w : World} {B t t' s n tb : Nat} {v : Value} {cs' : List Value} {cs : Array Value} (h : w.ownsRow B t s v n cs') (hb : w.heap[tb]? = some (.cells cs t' (0, 0))) (ht : t ≠ t') : ¬ v.ownBlock = some tb := fun e => by
  obtain ⟨cur, hc⟩ := own_kind h e
  rw [hb] at hc
  injection hc with hc
  injection hc with _ hc _
  exact ht hc.symm
theorem own_keep {w w' : World} {C s n b : Nat} {t t' : TypeId} {v : Value} {cs : List Value} {cb : Array Value} (h : w.ownsRow C t s v n cs) (hb : w.heap[b]? = some (.cells cb t' (0, 0))) (ht : t ≠ t') (hw : WrB (fun i => i = b) w w') : w'.ownsRow C t s v n cs :=
  rr_owns_wr h hw (fun i hi e => by subst e; exact own_box h hb ht hi)
theorem set1_wr (w : World) (b j : Nat) (v : Value) : WrB (fun i => i = b) w (w.setCell ⟨b, j, none⟩ v) := ⟨rfl, rfl, rfl, by simp [World.setCell], fun k _ hk => Below.heap_setCell _ _ _ _ hk⟩
theorem us_stepApp {P : Program} {ops : Array Oper} {o : Oper} {a : Act} {w : World} {K : Act → World → Prop} {Q : Exit → Act → World → Prop} {E : Prop}
    (hg : o.guard = none) (s x : Operand) (t : TypeId) (hop : o.op = Op.call { callee := Callee.builtin Builtin.append, args := #[s, x], argTypes := #[t, t] })
    (vs vx v' : Value) (w' : World) (hs : a.eval s = vs) (hx : a.eval x = vx) (hrun : (Builtin.append_ #[t, t] o.type #[vs, vx]).run P w = .ok v' w') (hK : K (a.put o.dst v') w') :
    if Region.wanted o (yielded ops a.tmps) = true then Oper.wp P o a w K Q else E := by
  have hw : Region.wanted o (yielded ops a.tmps) = true := by simp [Region.wanted, hg]
  rw [if_pos hw]
  unfold Oper.wp
  simp [execOp, hop, resolve, invoke, builtin, hs, hx, hrun, Result.andThen]
  exact hK
theorem us_sl {w : World} {B t s n : Nat} {v : Value} {cs : List Value} (h : w.ownsRow B t s v n cs) : ∃ a c, v = .slice a n c := by
  rcases h.2 with ⟨e, h0⟩ | ⟨g, cap, cur, e, _⟩
  · exact ⟨none, 0, by rw [e, h0]⟩
  · exact ⟨_, _, e⟩
/-- Rows that lie apart come into a record. -/
theorem NOwn.addAp {w : World} {B T S n : Nat} {v : Value} {es : List El} (h : NOwn w B T S v n es) {i : Nat} {e : El} {xs : List Sb} (hi : es[i]? = some e) (ho : ∀ x ∈ xs, w.ownsRow B x.t x.s x.v x.n x.cs) (hap : ∀ x ∈ xs, ∀ g, x.v.ownBlock = some g → ¬ NBl v es g)
    (hf : ∀ (a b : Nat) (x y : Sb), xs[a]? = some x → xs[b]? = some y → a ≠ b → ∀ g, x.v.ownBlock = some g → y.v.ownBlock ≠ some g) :
    NOwn w B T S v n (es.set i ⟨e.hd, xs⟩) := by
  have hil : i < es.length := (List.getElem?_eq_some_iff.1 hi).1
  have sb : ∀ k b y, sbAt (es.set i ⟨e.hd, xs⟩) k b = some y → (k = i ∧ xs[b]? = some y) ∨ (k ≠ i ∧ sbAt es k b = some y) := fun k b y hy => by
    rw [sbAt_set hil] at hy
    by_cases hk : k = i
    · subst hk; rw [if_pos rfl] at hy; exact .inl ⟨rfl, hy⟩
    · rw [if_neg hk] at hy; exact .inr ⟨hk, hy⟩
  have ap : ∀ (b : Nat) (y : Sb), xs[b]? = some y → ∀ (l d : Nat) (z : Sb), sbAt es l d = some z → ∀ g, y.v.ownBlock = some g → z.v.ownBlock ≠ some g := fun b y hy l d z hz g h1 h2 => hap y (List.mem_of_getElem? hy) g h1 (.inr ⟨l, d, z, hz, h2⟩)
  refine ⟨?_, by rw [List.length_set]; exact h.len, fun y hy => ?_, fun k b y hy => ?_, fun k l b d y z hy hz hne => ?_, fun k b y hy => ?_⟩
  · rw [fm_same es h.wid i e _ hi]
    exact h.row
  · rcases List.mem_or_eq_of_mem_set hy with hy | rfl
    · exact h.wid y hy
    · exact h.wid e (List.mem_of_getElem? hi)
  · rcases sb k b y hy with ⟨_, hy⟩ | ⟨_, hy⟩
    · exact ho y (List.mem_of_getElem? hy)
    · exact h.dat k b y hy
  · rcases sb k b y hy with ⟨hk, hy⟩ | ⟨hk, hy⟩
    · rcases sb l d z hz with ⟨hl, hz⟩ | ⟨hl, hz⟩
      · exact hf b d y z hy hz (by rcases hne with h | h; exact absurd (hk.trans hl.symm) h; exact h)
      · exact ap b y hy l d z hz
    · rcases sb l d z hz with ⟨hl, hz⟩ | ⟨hl, hz⟩
      · exact fun g h1 h2 => ap d z hz k b y hy g h2 h1
      · exact h.far k l b d y z hy hz hne
  · rcases sb k b y hy with ⟨_, hy⟩ | ⟨_, hy⟩
    · exact fun g h1 h2 => hap y (List.mem_of_getElem? hy) g h2 (.inl h1)
    · exact h.off k b y hy
end Go.Proofs.YtfajenejngddeaaGreat

namespace Go.Proofs.YtfajenejngddeaaGreat
open Go.RowKit

theorem v_slice {w : World} {B : Nat} {v : Value} {n : Nat} {t s : Nat} {cs : List Value} (h : w.ownsRow B t s v n cs) : ∃ l : Sl, v = .slice l.a l.n l.c ∧ l.n = n := by
  obtain ⟨a, c, e⟩ := us_sl h
  exact ⟨⟨a, n, c⟩, e, rfl⟩
/-- What the first statement of l06Own has made. -/
structure OvSt (W u : World) (d : VsD) (sv sf : Option (Value × Bool)) (tb : Option Nat) : Prop where
  bel : Below W.heap.size W u
  v : ∀ x b, sv = some (x, b) → x ≠ .slice none 0 0 ∧ VOwns u W.heap.size x (if b then d.list else [])
  f : ∀ x b, sf = some (x, b) → x ≠ .slice none 0 0 ∧ FOwns u W.heap.size x (if b then d.fen else [])
  t : ∀ b, tb = some b → W.heap.size ≤ b ∧ u.heap[b]? = some (.cells #[.int .i64 0, .slice none 0 0, .slice none 0 0, .slice none 0 0] 27 (0, 0))
theorem OvSt.step {W u u' : World} {d : VsD} {sv sf : Option (Value × Bool)} {tb : Option Nat} (h : OvSt W u d sv sf tb) (hb : Below u.heap.size u u') : OvSt W u' d sv sf tb :=
  ⟨h.bel.trans (hb.mono h.bel.size), fun x b e => ⟨(h.v x b e).1, rb_ownsRow_below (h.v x b e).2 hb⟩, fun x b e => ⟨(h.f x b e).1, rb_ownsRow_below (h.f x b e).2 hb⟩, fun b e => ⟨(h.t b e).1, (hb.block b (blk_lt (h.t b e).2)).trans (h.t b e).2⟩⟩
theorem OvSt.litV {W u : World} {d : VsD} {sf : Option (Value × Bool)} {tb : Option Nat} (h : OvSt W u d none sf tb) : OvSt W (u.alloc (.cells #[] 39)) d (some (.slice (some ⟨u.heap.size, 0, none⟩) 0 0, false)) sf tb := by
  have s := h.step ((Below.refl u.heap.size u).alloc (Nat.le_refl _) (.cells #[] 39))
  refine ⟨s.bel, fun v b e => ?_, s.f, s.t⟩
  injection e with e
  injection e with e1 e2
  subst e1 e2
  exact ⟨by simp, gd_base (nil_lit (w := u) 39 4) h.bel.size⟩
theorem OvSt.litF {W u : World} {d : VsD} {sv : Option (Value × Bool)} {tb : Option Nat} (h : OvSt W u d sv none tb) : OvSt W (u.alloc (.cells #[] 90)) d sv (some (.slice (some ⟨u.heap.size, 0, none⟩) 0 0, false)) tb := by
  have s := h.step ((Below.refl u.heap.size u).alloc (Nat.le_refl _) (.cells #[] 90))
  refine ⟨s.bel, s.v, fun v b e => ?_, s.t⟩
  injection e with e
  injection e with e1 e2
  subst e1 e2
  exact ⟨by simp, gd_base (nil_lit (w := u) 90 3) h.bel.size⟩
theorem OvSt.litT {W u : World} {d : VsD} {sv sf : Option (Value × Bool)} (h : OvSt W u d sv sf none) : OvSt W (u.alloc (.cells #[.int .i64 0, .slice none 0 0, .slice none 0 0, .slice none 0 0] 27)) d sv sf (some u.heap.size) := by
  have s := h.step ((Below.refl u.heap.size u).alloc (Nat.le_refl _) (.cells #[.int .i64 0, .slice none 0 0, .slice none 0 0, .slice none 0 0] 27))
  refine ⟨s.bel, s.v, s.f, fun b e => ?_⟩
  injection e with e
  subst e
  exact ⟨h.bel.size, heap_alloc_new _ _⟩
theorem OvSt.appV {W u : World} {d : VsD} {v : Value} {sf : Option (Value × Bool)} {tb : Option Nat} (h : OvSt W u d (some (v, false)) sf tb) {l : Sl} (hR : VRow W l.a l.n d.list) (hn : l.n ≤ 1000000) (hc : Cap l) :
    ∃ g k u', (Builtin.append_ #[23, 23] 23 #[v, .slice l.a l.n l.c]).run Tryz.prog u = .ok (.slice (some ⟨g, 0, none⟩) l.n k) u' ∧ OvSt W u' d (some (.slice (some ⟨g, 0, none⟩) l.n k, true)) sf tb := by
  obtain ⟨hv, ho⟩ := h.v v false rfl
  obtain ⟨g, k, u', hr, ho', hg, -⟩ := v_appS (c := l.c) 23 ho hv (hR.below h.bel) hc.2 (by simp; omega) h.bel.size
  have hw := WrB.of_grown hg
  simp only [Bool.false_eq_true, if_false, List.length_nil, Nat.zero_add, List.nil_append] at hr ho'
  refine ⟨g, k, u', hr, ⟨h.bel.trans (WrB.below hw (fun i hi => (ho.lt i hi).1) h.bel.size), fun x b e => ?_, fun x b e => ⟨(h.f x b e).1, rr_owns_wr (h.f x b e).2 hw (fun i hi => own_other (h.f x b e).2 ho (by decide) hi)⟩, fun b e => ⟨(h.t b e).1, (hw.block b (blk_lt (h.t b e).2) (own_box ho (h.t b e).2 (by decide))).trans (h.t b e).2⟩⟩⟩
  injection e with e
  injection e with e1 e2
  subst e1 e2
  exact ⟨by simp, ho'⟩
theorem OvSt.appF {W u : World} {d : VsD} {v : Value} {sv : Option (Value × Bool)} {tb : Option Nat} (h : OvSt W u d sv (some (v, false)) tb) {l : Sl} (hR : FRow W l.a l.n d.fen) (hn : l.n ≤ 1000000) (hc : Cap l) :
    ∃ g k u', (Builtin.append_ #[24, 24] 24 #[v, .slice l.a l.n l.c]).run Tryz.prog u = .ok (.slice (some ⟨g, 0, none⟩) l.n k) u' ∧ OvSt W u' d sv (some (.slice (some ⟨g, 0, none⟩) l.n k, true)) tb := by
  obtain ⟨hv, ho⟩ := h.f v false rfl
  obtain ⟨g, k, u', hr, ho', hg, -⟩ := f_appS (c := l.c) 24 ho hv (hR.below h.bel) hc.2 (by simp; omega) h.bel.size
  have hw := WrB.of_grown hg
  simp only [Bool.false_eq_true, if_false, List.length_nil, Nat.zero_add, List.nil_append] at hr ho'
  refine ⟨g, k, u', hr, ⟨h.bel.trans (WrB.below hw (fun i hi => (ho.lt i hi).1) h.bel.size), fun x b e => ⟨(h.v x b e).1, rr_owns_wr (h.v x b e).2 hw (fun i hi => own_other (h.v x b e).2 ho (by decide) hi)⟩, fun x b e => ?_, fun b e => ⟨(h.t b e).1, (hw.block b (blk_lt (h.t b e).2) (own_box ho (h.t b e).2 (by decide))).trans (h.t b e).2⟩⟩⟩
  injection e with e
  injection e with e1 e2
  subst e1 e2
  exact ⟨by simp, ho'⟩
/-- Versions under way. -/
structure VgSt (wr : World) (B tb : Nat) (next : Int) (l f s : Sl) (hs : List SeH) (ls : List VerD) (fs : List FenD) : Prop where
  vo : VOwns wr B (.slice l.a l.n l.c) ls
  fo : FOwns wr B (.slice f.a f.n f.c) fs
  so : SeOwn wr B (.slice s.a s.n s.c) hs
  far : ∀ i, (Value.slice l.a l.n l.c).ownBlock = some i → ¬ NBl (.slice s.a s.n s.c) (hs.map seEl) i
  box : wr.heap[tb]? = some (.cells (vzC next l f s) 27 (0, 0))
  tge : B ≤ tb
theorem VgSt.below {w w' : World} {B tb : Nat} {next : Int} {l f s : Sl} {hs : List SeH} {ls : List VerD} {fs : List FenD} (h : VgSt w B tb next l f s hs ls fs) (hb : Below w.heap.size w w') : VgSt w' B tb next l f s hs ls fs :=
  ⟨rb_ownsRow_below h.vo hb, rb_ownsRow_below h.fo hb, h.so.below hb, h.far, (hb.block tb (blk_lt h.box)).trans h.box, h.tge⟩
theorem ses_none {v : Value} {i : Nat} (hv : v.ownBlock = none) : ¬ NBl v ([].map seEl) i := fun h => by
  rcases h with h | ⟨k, a, x, hx, _⟩
  · rw [hv] at h; cases h
  · unfold sbAt at hx; simp at hx
/-- A row of records in memory of the call's own lies apart from a box of versions. -/
theorem se_box {w : World} {B n tb : Nat} {v : Value} {hs : List SeH} {cs : Array Value} {t : TypeId} (h : NOwn w B 93 3 v n (hs.map seEl)) (hb : w.heap[tb]? = some (.cells cs t (0, 0))) (h1 : 93 ≠ t) (h2 : 39 ≠ t) : ¬ NBl v (hs.map seEl) tb := fun hn => by
  rcases hn with hn | ⟨k, a, x, hx, hi⟩
  · exact own_box h.row hb h1 hn
  · have ht : x.t = 39 := by
      obtain ⟨e, he, hxe⟩ := sbAt_mem hx
      obtain ⟨y, _, rfl⟩ := List.mem_map.1 he
      rw [List.mem_singleton.1 hxe]
    have hd := h.dat k a x hx
    rw [ht] at hd
    exact own_box hd hb h2 hi
theorem VgSt.store {u : World} {tb : Nat} {d : VsD} {next : Int} {vl vf : Value} {W : World} (h : OvSt W u d (some (vl, true)) (some (vf, true)) (some tb)) :
    ∃ l f : Sl, vl = .slice l.a l.n l.c ∧ vf = .slice f.a f.n f.c ∧ VgSt ((((u.setCell ⟨tb, 0, none⟩ (.int .i64 next)).setCell ⟨tb, 1, none⟩ vl).setCell ⟨tb, 2, none⟩ vf).setCell ⟨tb, 3, none⟩ (.slice none 0 0)) W.heap.size tb next l f ⟨none, 0, 0⟩ [] d.list d.fen ∧ Below W.heap.size W ((((u.setCell ⟨tb, 0, none⟩ (.int .i64 next)).setCell ⟨tb, 1, none⟩ vl).setCell ⟨tb, 2, none⟩ vf).setCell ⟨tb, 3, none⟩ (.slice none 0 0)) := by
  obtain ⟨-, hv⟩ := h.v vl true rfl
  obtain ⟨-, hf⟩ := h.f vf true rfl
  obtain ⟨ht, hk⟩ := h.t tb rfl
  obtain ⟨l, rfl, -⟩ := v_slice hv
  obtain ⟨f, rfl, -⟩ := v_slice hf
  have hW : WrB (fun i => i = tb) u ((((u.setCell ⟨tb, 0, none⟩ (.int .i64 next)).setCell ⟨tb, 1, none⟩ (.slice l.a l.n l.c)).setCell ⟨tb, 2, none⟩ (.slice f.a f.n f.c)).setCell ⟨tb, 3, none⟩ (.slice none 0 0)) := (set1_wr u tb 0 _).seq ((set1_wr _ tb 1 _).seq ((set1_wr _ tb 2 _).seq (set1_wr _ tb 3 _)))
  refine ⟨l, f, rfl, rfl, ⟨own_keep hv hk (by decide) hW, own_keep hf hk (by decide) hW, NOwn.flat (World.ownsRow_nil _ _ _ _) rfl (fun e he => by cases he) (fun e he => by cases he), fun i _ => ses_none rfl, ?_, ht⟩, h.bel.trans (WrB.below hW (fun i e => by omega) h.bel.size)⟩
  have h1 := heap_set hk 0 (.int .i64 next)
  have h2 := heap_set h1 1 (.slice l.a l.n l.c)
  have h3 := heap_set h2 2 (.slice f.a f.n f.c)
  have h4 := heap_set h3 3 (.slice none 0 0)
  simpa using h4
set_option maxRecDepth 100000 in
/-- A session appended. -/
theorem VgSt.ses {wr u : World} {B tb : Nat} {next : Int} {l f s : Sl} {hs : List SeH} {ls : List VerD} {fs : List FenD} (h : VgSt wr B tb next l f s hs ls fs) (hb : Below wr.heap.size wr u) (x : SeH) (hx : VOwns u wr.heap.size (.slice x.s0.a x.s0.n x.s0.c) x.X.ws) (hz : hs.length ≤ 1000) (hB : B ≤ wr.heap.size) :
    ∃ s' : Sl, ∃ w5, s'.n = hs.length + 1 ∧ (Builtin.append_ #[25, 25] 25 #[.slice s.a s.n s.c, .slice (some ⟨u.heap.size, 0, none⟩) 1 1]).run Tryz.prog (u.alloc (.cells #[.bool x.X.o, .int .i64 x.X.t, .slice x.s0.a x.s0.n x.s0.c] 93)) = .ok (.slice s'.a s'.n s'.c) w5 ∧
      VgSt (w5.setCell ⟨tb, 3, none⟩ (.slice s'.a s'.n s'.c)) B tb next l f s' (hs ++ [x]) ls fs ∧ Below B wr (w5.setCell ⟨tb, 3, none⟩ (.slice s'.a s'.n s'.c)) ∧ w5.heap[tb]? = some (.cells (vzC next l f s) 27 (0, 0)) ∧ ∀ i, i < B → w5.heap[i]? = wr.heap[i]? := by
  have hu := h.below hb
  obtain ⟨i0, hi0, hz0, hz1, hz2⟩ := info_parts Tryz.infoSe
  have hlt : ∀ i, NBl (.slice s.a s.n s.c) (hs.map seEl) i → i < wr.heap.size := fun i hi => (h.so.lt i hi).2
  obtain ⟨v', w5, hrun, hN, hg, -⟩ := NOwn.app (e := seEl x) (C := wr.heap.size) 25 Tryz.underlying25 hi0 hz0 hz1 hz2 rfl (by decide) (by decide) hu.so rfl (by intro y hy; simp only [seEl, List.mem_cons, List.not_mem_nil, or_false] at hy; rcases hy with rfl | rfl | rfl <;> rfl) (fun y hy => by rw [List.mem_singleton.1 hy]; exact hx) hlt hB (fun a b y z hy hz' hab => by
    match a, hy, b, hz' with
    | 0, _, 0, _ => exact absurd rfl hab
    | a + 1, hy, _, _ => cases hy
    | 0, _, b + 1, hz' => cases hz') (by omega) (Nat.le_trans hB hb.size)
  obtain ⟨s', rfl, hs'⟩ := v_slice hN.row
  have bA : Below u.heap.size u (u.alloc (.cells (seEl x).hd.toArray 93)) := (Below.refl _ _).alloc (Nat.le_refl _) _
  have hA := hu.below bA
  have hw := WrB.of_grown hg
  have k5 : w5.heap[tb]? = some (.cells (vzC next l f s) 27 (0, 0)) := (hw.block tb (blk_lt hA.box) (own_box hA.so.row hA.box (by decide))).trans hA.box
  have b5 : Below B wr w5 := ((hb.trans (bA.mono hb.size)).mono hB).trans (WrB.below hw (fun i hi => (hA.so.row.lt i hi).1) (Nat.le_trans hB (hb.trans (bA.mono hb.size)).size))
  have v5 : VOwns w5 B (.slice l.a l.n l.c) ls := rr_owns_wr hA.vo hw (fun i hi e => hA.far i hi (.inl e))
  have f5 : FOwns w5 B (.slice f.a f.n f.c) fs := rr_owns_wr hA.fo hw (fun i hi => own_other hA.fo hA.so.row (by decide) hi)
  have hN5 : SeOwn w5 B (.slice s'.a s'.n s'.c) (hs ++ [x]) := by
    have := hN
    rw [← List.map_singleton, ← List.map_append] at this
    rw [show hs.length + 1 = (hs ++ [x]).length by simp] at this
    exact this
  have hS := set1_wr w5 tb 3 (.slice s'.a s'.n s'.c)
  refine ⟨s', w5, hs', hrun, ⟨own_keep v5 k5 (by decide) hS, own_keep f5 k5 (by decide) hS, hN5.keep hS (fun i hi e => by subst e; exact se_box hN5 k5 (by decide) (by decide) hi), fun i hi hn => ?_, ?_, h.tge⟩, b5.trans (WrB.below hS (fun i e => by rw [e]; exact h.tge) (Nat.le_trans hB b5.size)), k5, fun i hi => b5.block i hi⟩
  · rcases hn with hn | ⟨k, a, y, hy, hn⟩
    · exact own_other v5 hN5.row (by decide) hi hn
    · rw [List.map_append] at hy
      rcases sbAt_snoc hy with ⟨_, hy⟩ | ⟨_, hy⟩
      · exact h.far i hi (.inr ⟨k, a, y, hy, hn⟩)
      · have h1 := (h.vo.lt i hi).2
        have h2 : y.v = .slice x.s0.a x.s0.n x.s0.c := by
          match a, hy with
          | 0, hy => injection hy with hy; rw [← hy]
          | a + 1, hy => cases hy
        rw [h2] at hn
        have h3 := (hx.lt i hn).1
        omega
  · have h1 := heap_set k5 3 (.slice s'.a s'.n s'.c)
    simpa using h1
def OvRes (d : VsD) (w : World) (e : Ending) (w' : World) : Prop := ∃ l f s hs, e = .returned (.agg (vzC d.next l f s)) ∧ VzOwn w' w.heap.size l f s hs d ∧ Below w.heap.size w w'
theorem VzOwn.wr {w w' : World} {B : Nat} {l f s : Sl} {hs : List SeH} {d : VsD} (h : VzOwn w B l f s hs d) {P : Nat → Prop} (hw : WrB P w w') (hP : ∀ i, P i → i < B) : VzOwn w' B l f s hs d :=
  ⟨rr_owns_wr h.vo hw (fun i hi e => by have := (h.vo.lt i hi).1; have := hP i e; omega), rr_owns_wr h.fo hw (fun i hi e => by have := (h.fo.lt i hi).1; have := hP i e; omega), h.so.keep hw (fun i hi e => by have := (h.so.lt i hi).1; have := hP i e; omega), h.ss, h.far⟩
theorem set4_wr (w : World) (b : Nat) (v0 v1 v2 v3 : Value) : WrB (fun i => i = b) w ((((w.setCell ⟨b, 0, none⟩ v0).setCell ⟨b, 1, none⟩ v1).setCell ⟨b, 2, none⟩ v2).setCell ⟨b, 3, none⟩ v3) := (set1_wr w b 0 v0).seq ((set1_wr _ b 1 v1).seq ((set1_wr _ b 2 v2).seq (set1_wr _ b 3 v3)))
set_option maxRecDepth 100000 in
set_option maxHeartbeats 8000000 in
theorem l06Own_any (d : VsD) (l f s : Sl) (hs : List SeH) (w : World) (hI : VzIn w l f s hs d) (hln : l.n ≤ 1000000) (hfn : f.n ≤ 1000000) (hsn : s.n ≤ 1000) (hwn : ∀ h ∈ hs, h.s0.n ≤ 1048576) :
    Calls Tryz.prog 22 #[.agg (vzC d.next l f s)] w fun e w' => OvRes d w e w' := by
  obtain ⟨W, hW⟩ : ∃ W, W = (w.alloc (.cells (vzC d.next l f s) 27)).alloc (.cells #[.int .i64 0, .slice none 0 0, .slice none 0 0, .slice none 0 0] 27) := ⟨_, rfl⟩
  obtain ⟨b1, kv, kr, hz⟩ := twoBx hW
  have HI := hide (hI.below b1)
  have LN := hide hI.len
  have RV := hide (hI.vr.below b1)
  have RF := hide (hI.fr.below b1)
  have CL := hide hI.cl
  have CF := hide hI.cf
  have CW := hide hI.cw
  have SN := hide hwn
  have hz1 : w.heap.size < W.heap.size := by omega
  have hz2 : w.heap.size + 1 < W.heap.size := by omega
  have KV := hide kv
  have KR := hide kr
  have BH := hide b1
  have HW := hide hW
  have S0 := hide (show OvSt W W.drew d none none none from ⟨(Below.refl _ _).drew, fun _ _ e => (by cases e), fun _ _ e => (by cases e), fun _ e => (by cases e)⟩)
  have SSD := hide hI.ss
  clear hI hwn b1 kv kr hz hW
  obtain ⟨la, ln, lc⟩ := l
  obtain ⟨fa, fn, fc⟩ := f
  obtain ⟨sa, sn, sc⟩ := s
  unfold vzC at *
  simp only at hln hfn hsn KV HW LN RV RF ⊢
  have e0 := (heap_at (unhide KV) 0).1
  have e1 := (heap_at (unhide KV) 1).1
  have e2 := (heap_at (unhide KV) 2).1
  go_enter Tryz.func22, Tryz.ntmps22
  go_upto_region 1 with fail
  rw [← unhide HW]
  clear HW
  go_cut [3] (fun v wc => ∃ (tb : Nat) (l' f' : Sl), v = .pointer (some ⟨tb, 0, none⟩) ∧ Hid (VgSt wc W.heap.size tb d.next l' f' ⟨none, 0, 0⟩ [] d.list d.fen) ∧ Hid (Below W.heap.size W wc))
  case first =>
    have SK := hide (show ∀ u, Below W.heap.size W u → u.cell? ⟨w.heap.size, 0, none⟩ = some (.int .i64 d.next) ∧ u.cell? ⟨w.heap.size, 1, none⟩ = some (.slice la ln lc) ∧ u.cell? ⟨w.heap.size, 2, none⟩ = some (.slice fa fn fc) from fun u hu => ⟨(hu.cell (p := ⟨w.heap.size, 0, none⟩) hz1).trans e0, (hu.cell (p := ⟨w.heap.size, 1, none⟩) hz1).trans e1, (hu.cell (p := ⟨w.heap.size, 2, none⟩) hz1).trans e2⟩)
    clear e0 e1 e2
    refine wp_region_held_drew (S := (fun u => u.cell? ⟨w.heap.size, 0, none⟩ = some (.int .i64 d.next) ∧ u.cell? ⟨w.heap.size, 1, none⟩ = some (.slice la ln lc) ∧ u.cell? ⟨w.heap.size, 2, none⟩ = some (.slice fa fn fc))) (by kernel_rfl) (unhide SK _ (unhide S0).bel) (fun hHeld => ?_)
    have T0 := S0
    clear S0
    generalize W.drew = u0 at *
    refine anyH_take 0 6 (v := ?v1) rfl rfl (by kernel_rfl) (by kernel_rfl) (by kernel_rfl) (fun _ _ _ h => h) (by rfl) ?h1 hHeld ?r1
    case h1 => (intro w hSw; (try dsimp only at hSw); go_simp; try (with_reducible rfl))
    simp only [Act.put, List.setIfInBounds_toArray, List.set_cons_zero, List.set_cons_succ]
    refine anyH_take 1 7 (v := ?v2) rfl rfl (by kernel_rfl) (by kernel_rfl) (by kernel_rfl) (fun _ _ _ h => h) (by rfl) ?h2 hHeld ?r2
    case h2 => (intro w hSw; (try dsimp only at hSw); go_simp; try (with_reducible rfl))
    simp only [Act.put, List.setIfInBounds_toArray, List.set_cons_zero, List.set_cons_succ]
    refine anyH_take 3 9 (v := ?v3) rfl rfl (by kernel_rfl) (by kernel_rfl) (by kernel_rfl) (fun _ _ _ h => h) (by rfl) ?h3 hHeld ?r3
    case h3 => (intro w hSw; (try dsimp only at hSw); go_simp; try (with_reducible rfl))
    simp only [Act.put, List.setIfInBounds_toArray, List.set_cons_zero, List.set_cons_succ]
    refine anyH_take 4 10 (v := ?v4) rfl rfl (by kernel_rfl) (by kernel_rfl) (by kernel_rfl) (fun _ _ _ h => h) (by rfl) ?h4 hHeld ?r4
    case h4 => (intro w hSw; (try dsimp only at hSw); go_simp; try (with_reducible rfl))
    simp only [Act.put, List.setIfInBounds_toArray, List.set_cons_zero, List.set_cons_succ]
    refine anyH_take 7 13 (v := ?v5) rfl rfl (by kernel_rfl) (by kernel_rfl) (by kernel_rfl) (fun _ _ _ h => h) (by rfl) ?h5 hHeld ?r5
    case h5 => (intro w hSw; (try dsimp only at hSw); go_simp; try (with_reducible rfl))
    simp only [Act.put, List.setIfInBounds_toArray, List.set_cons_zero, List.set_cons_succ]
    refine anyH_take 8 14 (v := ?v6) rfl rfl (by kernel_rfl) (by kernel_rfl) (by kernel_rfl) (fun _ _ _ h => h) (by rfl) ?h6 hHeld ?r6
    case h6 => (intro w hSw; (try dsimp only at hSw); go_simp; try (with_reducible rfl))
    simp only [Act.put, List.setIfInBounds_toArray, List.set_cons_zero, List.set_cons_succ]
    refine wpAnyH_ready (rs := [2, 6, 11]) (by kernel_rfl) (by simp) ?_
    refine AllReadyH.cons rfl (fun K hK => ?_) (AllReadyH.cons rfl (fun K hK => ?_) (AllReadyH.cons rfl (fun K hK => ?_) AllReadyH.nil))
    · have T2 := hide (unhide T0).litV
      go_simp
      generalize u0.alloc (.cells #[] 39) = u2 at *
      generalize u0.heap.size = g5 at *
      refine hK.out _ _ (unhide SK _ (unhide T2).bel) (fun hHeld => ?_)
      clear hK K
      refine wpAnyH_ready (rs := [5, 6, 11]) (by kernel_rfl) (by simp) ?_
      refine AllReadyH.cons rfl (fun K hK => ?_) (AllReadyH.cons rfl (fun K hK => ?_) (AllReadyH.cons rfl (fun K hK => ?_) AllReadyH.nil))
      · obtain ⟨g8, k8, u2_5, hr, hs8⟩ := (unhide T2).appV (l := ⟨la, ln, lc⟩) (unhide RV) hln (unhide CL)
        have T2_5 := hide hs8
        clear hs8
        refine us_stepApp rfl (.tmp 8) (.tmp 10) 23 rfl _ _ (.slice (some ⟨g8, 0, none⟩) ln k8) u2_5 (by first | rfl | (simp [Act.eval]; done) | (simp [Act.eval, Act.put]; done)) (by first | rfl | (simp [Act.eval]; done) | (simp [Act.eval, Act.put]; done)) hr ?_
        clear hr
        refine hK.out _ _ (unhide SK _ (unhide T2_5).bel) (fun hHeld => ?_)
        clear hK K
        refine wpAnyH_ready (rs := [6, 11]) (by kernel_rfl) (by simp) ?_
        refine AllReadyH.cons rfl (fun K hK => ?_) (AllReadyH.cons rfl (fun K hK => ?_) AllReadyH.nil)
        · have T2_5_6 := hide (unhide T2_5).litF
          go_simp
          generalize u2_5.alloc (.cells #[] 90) = u2_5_6 at *
          generalize u2_5.heap.size = g9 at *
          refine hK.out _ _ (unhide SK _ (unhide T2_5_6).bel) (fun hHeld => ?_)
          clear hK K
          refine wpAnyH_ready (rs := [9, 11]) (by kernel_rfl) (by simp) ?_
          refine AllReadyH.cons rfl (fun K hK => ?_) (AllReadyH.cons rfl (fun K hK => ?_) AllReadyH.nil)
          · obtain ⟨g12, k12, u2_5_6_9, hr, hs8⟩ := (unhide T2_5_6).appF (l := ⟨fa, fn, fc⟩) (unhide RF) hfn (unhide CF)
            have T2_5_6_9 := hide hs8
            clear hs8
            refine us_stepApp rfl (.tmp 12) (.tmp 14) 24 rfl _ _ (.slice (some ⟨g12, 0, none⟩) fn k12) u2_5_6_9 (by first | rfl | (simp [Act.eval]; done) | (simp [Act.eval, Act.put]; done)) (by first | rfl | (simp [Act.eval]; done) | (simp [Act.eval, Act.put]; done)) hr ?_
            clear hr
            refine hK.out _ _ (unhide SK _ (unhide T2_5_6_9).bel) (fun hHeld => ?_)
            clear hK K
            refine anyH_take 10 16 (v := ?v7) rfl rfl (by kernel_rfl) (by kernel_rfl) (by kernel_rfl) (fun _ _ _ h => h) (by rfl) ?h7 hHeld ?r7
            case h7 => (intro w hSw; (try dsimp only at hSw); go_simp; try (with_reducible rfl))
            simp only [Act.put, List.setIfInBounds_toArray]
            refine wpAnyH_ready (rs := [11]) (by kernel_rfl) (by simp) ?_
            refine AllReadyH.cons rfl (fun K hK => ?_) AllReadyH.nil
            have T2_5_6_9_11 := hide (unhide T2_5_6_9).litT
            go_simp
            generalize u2_5_6_9.alloc (.cells #[.int .i64 0, .slice none 0 0, .slice none 0 0, .slice none 0 0] 27) = u2_5_6_9_11 at *
            generalize u2_5_6_9.heap.size = tb at *
            refine hK.out _ _ (unhide SK _ (unhide T2_5_6_9_11).bel) (fun hHeld => ?_)
            clear hK K
            refine wpAnyH_ready (rs := [12]) (by kernel_rfl) (by simp) ?_
            refine AllReadyH.cons rfl (fun K hK => ?_) AllReadyH.nil
            obtain ⟨l', f', e1, e2, hT3, hb3⟩ := VgSt.store (next := d.next) (unhide T2_5_6_9_11)
            have y0 := (heap_at ((unhide T2_5_6_9_11).t tb rfl).2 0).1
            have y1 := (heap_at ((unhide T2_5_6_9_11).t tb rfl).2 1).1
            have y2 := (heap_at ((unhide T2_5_6_9_11).t tb rfl).2 2).1
            have y3 := (heap_at ((unhide T2_5_6_9_11).t tb rfl).2 3).1
            have x0 := (heap_at ((unhide T2_5_6_9_11).t tb rfl).2 0).2
            have x1 := (heap_at ((unhide T2_5_6_9_11).t tb rfl).2 1).2
            have x2 := (heap_at ((unhide T2_5_6_9_11).t tb rfl).2 2).2
            have x3 := (heap_at ((unhide T2_5_6_9_11).t tb rfl).2 3).2
            have TF := hide hT3
            have BF := hide hb3
            clear hT3 hb3 e1 e2
            go_simp
            refine hK.out _ _ (unhide SK _ (unhide BF)) (fun hHeld => ?_)
            clear hK K
            refine wpAnyH_done (by kernel_rfl) ?_ _
            go_wp2_with fail
            go_meet
            case rel => exact ⟨tb, l', f', rfl, TF, BF⟩
          · have T2_5_6_11 := hide (unhide T2_5_6).litT
            go_simp
            generalize u2_5_6.alloc (.cells #[.int .i64 0, .slice none 0 0, .slice none 0 0, .slice none 0 0] 27) = u2_5_6_11 at *
            generalize u2_5_6.heap.size = tb at *
            refine hK.out _ _ (unhide SK _ (unhide T2_5_6_11).bel) (fun hHeld => ?_)
            clear hK K
            refine wpAnyH_ready (rs := [9]) (by kernel_rfl) (by simp) ?_
            refine AllReadyH.cons rfl (fun K hK => ?_) AllReadyH.nil
            obtain ⟨g12, k12, u2_5_6_11_9, hr, hs8⟩ := (unhide T2_5_6_11).appF (l := ⟨fa, fn, fc⟩) (unhide RF) hfn (unhide CF)
            have T2_5_6_11_9 := hide hs8
            clear hs8
            refine us_stepApp rfl (.tmp 12) (.tmp 14) 24 rfl _ _ (.slice (some ⟨g12, 0, none⟩) fn k12) u2_5_6_11_9 (by first | rfl | (simp [Act.eval]; done) | (simp [Act.eval, Act.put]; done)) (by first | rfl | (simp [Act.eval]; done) | (simp [Act.eval, Act.put]; done)) hr ?_
            clear hr
            refine hK.out _ _ (unhide SK _ (unhide T2_5_6_11_9).bel) (fun hHeld => ?_)
            clear hK K
            refine anyH_take 10 16 (v := ?v8) rfl rfl (by kernel_rfl) (by kernel_rfl) (by kernel_rfl) (fun _ _ _ h => h) (by rfl) ?h8 hHeld ?r8
            case h8 => (intro w hSw; (try dsimp only at hSw); go_simp; try (with_reducible rfl))
            simp only [Act.put, List.setIfInBounds_toArray]
            refine wpAnyH_ready (rs := [12]) (by kernel_rfl) (by simp) ?_
            refine AllReadyH.cons rfl (fun K hK => ?_) AllReadyH.nil
            obtain ⟨l', f', e1, e2, hT3, hb3⟩ := VgSt.store (next := d.next) (unhide T2_5_6_11_9)
            have y0 := (heap_at ((unhide T2_5_6_11_9).t tb rfl).2 0).1
            have y1 := (heap_at ((unhide T2_5_6_11_9).t tb rfl).2 1).1
            have y2 := (heap_at ((unhide T2_5_6_11_9).t tb rfl).2 2).1
            have y3 := (heap_at ((unhide T2_5_6_11_9).t tb rfl).2 3).1
            have x0 := (heap_at ((unhide T2_5_6_11_9).t tb rfl).2 0).2
            have x1 := (heap_at ((unhide T2_5_6_11_9).t tb rfl).2 1).2
            have x2 := (heap_at ((unhide T2_5_6_11_9).t tb rfl).2 2).2
            have x3 := (heap_at ((unhide T2_5_6_11_9).t tb rfl).2 3).2
            have TF := hide hT3
            have BF := hide hb3
            clear hT3 hb3 e1 e2
            go_simp
            refine hK.out _ _ (unhide SK _ (unhide BF)) (fun hHeld => ?_)
            clear hK K
            refine wpAnyH_done (by kernel_rfl) ?_ _
            go_wp2_with fail
            go_meet
            case rel => exact ⟨tb, l', f', rfl, TF, BF⟩
        · have T2_5_11 := hide (unhide T2_5).litT
          go_simp
          generalize u2_5.alloc (.cells #[.int .i64 0, .slice none 0 0, .slice none 0 0, .slice none 0 0] 27) = u2_5_11 at *
          generalize u2_5.heap.size = tb at *
          refine hK.out _ _ (unhide SK _ (unhide T2_5_11).bel) (fun hHeld => ?_)
          clear hK K
          refine wpAnyH_ready (rs := [6]) (by kernel_rfl) (by simp) ?_
          refine AllReadyH.cons rfl (fun K hK => ?_) AllReadyH.nil
          have T2_5_11_6 := hide (unhide T2_5_11).litF
          go_simp
          generalize u2_5_11.alloc (.cells #[] 90) = u2_5_11_6 at *
          generalize u2_5_11.heap.size = g9 at *
          refine hK.out _ _ (unhide SK _ (unhide T2_5_11_6).bel) (fun hHeld => ?_)
          clear hK K
          refine wpAnyH_ready (rs := [9]) (by kernel_rfl) (by simp) ?_
          refine AllReadyH.cons rfl (fun K hK => ?_) AllReadyH.nil
          obtain ⟨g12, k12, u2_5_11_6_9, hr, hs8⟩ := (unhide T2_5_11_6).appF (l := ⟨fa, fn, fc⟩) (unhide RF) hfn (unhide CF)
          have T2_5_11_6_9 := hide hs8
          clear hs8
          refine us_stepApp rfl (.tmp 12) (.tmp 14) 24 rfl _ _ (.slice (some ⟨g12, 0, none⟩) fn k12) u2_5_11_6_9 (by first | rfl | (simp [Act.eval]; done) | (simp [Act.eval, Act.put]; done)) (by first | rfl | (simp [Act.eval]; done) | (simp [Act.eval, Act.put]; done)) hr ?_
          clear hr
          refine hK.out _ _ (unhide SK _ (unhide T2_5_11_6_9).bel) (fun hHeld => ?_)
          clear hK K
          refine anyH_take 10 16 (v := ?v9) rfl rfl (by kernel_rfl) (by kernel_rfl) (by kernel_rfl) (fun _ _ _ h => h) (by rfl) ?h9 hHeld ?r9
          case h9 => (intro w hSw; (try dsimp only at hSw); go_simp; try (with_reducible rfl))
          simp only [Act.put, List.setIfInBounds_toArray]
          refine wpAnyH_ready (rs := [12]) (by kernel_rfl) (by simp) ?_
          refine AllReadyH.cons rfl (fun K hK => ?_) AllReadyH.nil
          obtain ⟨l', f', e1, e2, hT3, hb3⟩ := VgSt.store (next := d.next) (unhide T2_5_11_6_9)
          have y0 := (heap_at ((unhide T2_5_11_6_9).t tb rfl).2 0).1
          have y1 := (heap_at ((unhide T2_5_11_6_9).t tb rfl).2 1).1
          have y2 := (heap_at ((unhide T2_5_11_6_9).t tb rfl).2 2).1
          have y3 := (heap_at ((unhide T2_5_11_6_9).t tb rfl).2 3).1
          have x0 := (heap_at ((unhide T2_5_11_6_9).t tb rfl).2 0).2
          have x1 := (heap_at ((unhide T2_5_11_6_9).t tb rfl).2 1).2
          have x2 := (heap_at ((unhide T2_5_11_6_9).t tb rfl).2 2).2
          have x3 := (heap_at ((unhide T2_5_11_6_9).t tb rfl).2 3).2
          have TF := hide hT3
          have BF := hide hb3
          clear hT3 hb3 e1 e2
          go_simp
          refine hK.out _ _ (unhide SK _ (unhide BF)) (fun hHeld => ?_)
          clear hK K
          refine wpAnyH_done (by kernel_rfl) ?_ _
          go_wp2_with fail
          go_meet
          case rel => exact ⟨tb, l', f', rfl, TF, BF⟩
      · have T2_6 := hide (unhide T2).litF
        go_simp
        generalize u2.alloc (.cells #[] 90) = u2_6 at *
        generalize u2.heap.size = g9 at *
        refine hK.out _ _ (unhide SK _ (unhide T2_6).bel) (fun hHeld => ?_)
        clear hK K
        refine wpAnyH_ready (rs := [5, 11]) (by kernel_rfl) (by simp) ?_
        refine AllReadyH.cons rfl (fun K hK => ?_) (AllReadyH.cons rfl (fun K hK => ?_) AllReadyH.nil)
        · obtain ⟨g8, k8, u2_6_5, hr, hs8⟩ := (unhide T2_6).appV (l := ⟨la, ln, lc⟩) (unhide RV) hln (unhide CL)
          have T2_6_5 := hide hs8
          clear hs8
          refine us_stepApp rfl (.tmp 8) (.tmp 10) 23 rfl _ _ (.slice (some ⟨g8, 0, none⟩) ln k8) u2_6_5 (by first | rfl | (simp [Act.eval]; done) | (simp [Act.eval, Act.put]; done)) (by first | rfl | (simp [Act.eval]; done) | (simp [Act.eval, Act.put]; done)) hr ?_
          clear hr
          refine hK.out _ _ (unhide SK _ (unhide T2_6_5).bel) (fun hHeld => ?_)
          clear hK K
          refine wpAnyH_ready (rs := [9, 11]) (by kernel_rfl) (by simp) ?_
          refine AllReadyH.cons rfl (fun K hK => ?_) (AllReadyH.cons rfl (fun K hK => ?_) AllReadyH.nil)
          · obtain ⟨g12, k12, u2_6_5_9, hr, hs8⟩ := (unhide T2_6_5).appF (l := ⟨fa, fn, fc⟩) (unhide RF) hfn (unhide CF)
            have T2_6_5_9 := hide hs8
            clear hs8
            refine us_stepApp rfl (.tmp 12) (.tmp 14) 24 rfl _ _ (.slice (some ⟨g12, 0, none⟩) fn k12) u2_6_5_9 (by first | rfl | (simp [Act.eval]; done) | (simp [Act.eval, Act.put]; done)) (by first | rfl | (simp [Act.eval]; done) | (simp [Act.eval, Act.put]; done)) hr ?_
            clear hr
            refine hK.out _ _ (unhide SK _ (unhide T2_6_5_9).bel) (fun hHeld => ?_)
            clear hK K
            refine anyH_take 10 16 (v := ?v10) rfl rfl (by kernel_rfl) (by kernel_rfl) (by kernel_rfl) (fun _ _ _ h => h) (by rfl) ?h10 hHeld ?r10
            case h10 => (intro w hSw; (try dsimp only at hSw); go_simp; try (with_reducible rfl))
            simp only [Act.put, List.setIfInBounds_toArray]
            refine wpAnyH_ready (rs := [11]) (by kernel_rfl) (by simp) ?_
            refine AllReadyH.cons rfl (fun K hK => ?_) AllReadyH.nil
            have T2_6_5_9_11 := hide (unhide T2_6_5_9).litT
            go_simp
            generalize u2_6_5_9.alloc (.cells #[.int .i64 0, .slice none 0 0, .slice none 0 0, .slice none 0 0] 27) = u2_6_5_9_11 at *
            generalize u2_6_5_9.heap.size = tb at *
            refine hK.out _ _ (unhide SK _ (unhide T2_6_5_9_11).bel) (fun hHeld => ?_)
            clear hK K
            refine wpAnyH_ready (rs := [12]) (by kernel_rfl) (by simp) ?_
            refine AllReadyH.cons rfl (fun K hK => ?_) AllReadyH.nil
            obtain ⟨l', f', e1, e2, hT3, hb3⟩ := VgSt.store (next := d.next) (unhide T2_6_5_9_11)
            have y0 := (heap_at ((unhide T2_6_5_9_11).t tb rfl).2 0).1
            have y1 := (heap_at ((unhide T2_6_5_9_11).t tb rfl).2 1).1
            have y2 := (heap_at ((unhide T2_6_5_9_11).t tb rfl).2 2).1
            have y3 := (heap_at ((unhide T2_6_5_9_11).t tb rfl).2 3).1
            have x0 := (heap_at ((unhide T2_6_5_9_11).t tb rfl).2 0).2
            have x1 := (heap_at ((unhide T2_6_5_9_11).t tb rfl).2 1).2
            have x2 := (heap_at ((unhide T2_6_5_9_11).t tb rfl).2 2).2
            have x3 := (heap_at ((unhide T2_6_5_9_11).t tb rfl).2 3).2
            have TF := hide hT3
            have BF := hide hb3
            clear hT3 hb3 e1 e2
            go_simp
            refine hK.out _ _ (unhide SK _ (unhide BF)) (fun hHeld => ?_)
            clear hK K
            refine wpAnyH_done (by kernel_rfl) ?_ _
            go_wp2_with fail
            go_meet
            case rel => exact ⟨tb, l', f', rfl, TF, BF⟩
          · have T2_6_5_11 := hide (unhide T2_6_5).litT
            go_simp
            generalize u2_6_5.alloc (.cells #[.int .i64 0, .slice none 0 0, .slice none 0 0, .slice none 0 0] 27) = u2_6_5_11 at *
            generalize u2_6_5.heap.size = tb at *
            refine hK.out _ _ (unhide SK _ (unhide T2_6_5_11).bel) (fun hHeld => ?_)
            clear hK K
            refine wpAnyH_ready (rs := [9]) (by kernel_rfl) (by simp) ?_
            refine AllReadyH.cons rfl (fun K hK => ?_) AllReadyH.nil
            obtain ⟨g12, k12, u2_6_5_11_9, hr, hs8⟩ := (unhide T2_6_5_11).appF (l := ⟨fa, fn, fc⟩) (unhide RF) hfn (unhide CF)
            have T2_6_5_11_9 := hide hs8
            clear hs8
            refine us_stepApp rfl (.tmp 12) (.tmp 14) 24 rfl _ _ (.slice (some ⟨g12, 0, none⟩) fn k12) u2_6_5_11_9 (by first | rfl | (simp [Act.eval]; done) | (simp [Act.eval, Act.put]; done)) (by first | rfl | (simp [Act.eval]; done) | (simp [Act.eval, Act.put]; done)) hr ?_
            clear hr
            refine hK.out _ _ (unhide SK _ (unhide T2_6_5_11_9).bel) (fun hHeld => ?_)
            clear hK K
            refine anyH_take 10 16 (v := ?v11) rfl rfl (by kernel_rfl) (by kernel_rfl) (by kernel_rfl) (fun _ _ _ h => h) (by rfl) ?h11 hHeld ?r11
            case h11 => (intro w hSw; (try dsimp only at hSw); go_simp; try (with_reducible rfl))
            simp only [Act.put, List.setIfInBounds_toArray]
            refine wpAnyH_ready (rs := [12]) (by kernel_rfl) (by simp) ?_
            refine AllReadyH.cons rfl (fun K hK => ?_) AllReadyH.nil
            obtain ⟨l', f', e1, e2, hT3, hb3⟩ := VgSt.store (next := d.next) (unhide T2_6_5_11_9)
            have y0 := (heap_at ((unhide T2_6_5_11_9).t tb rfl).2 0).1
            have y1 := (heap_at ((unhide T2_6_5_11_9).t tb rfl).2 1).1
            have y2 := (heap_at ((unhide T2_6_5_11_9).t tb rfl).2 2).1
            have y3 := (heap_at ((unhide T2_6_5_11_9).t tb rfl).2 3).1
            have x0 := (heap_at ((unhide T2_6_5_11_9).t tb rfl).2 0).2
            have x1 := (heap_at ((unhide T2_6_5_11_9).t tb rfl).2 1).2
            have x2 := (heap_at ((unhide T2_6_5_11_9).t tb rfl).2 2).2
            have x3 := (heap_at ((unhide T2_6_5_11_9).t tb rfl).2 3).2
            have TF := hide hT3
            have BF := hide hb3
            clear hT3 hb3 e1 e2
            go_simp
            refine hK.out _ _ (unhide SK _ (unhide BF)) (fun hHeld => ?_)
            clear hK K
            refine wpAnyH_done (by kernel_rfl) ?_ _
            go_wp2_with fail
            go_meet
            case rel => exact ⟨tb, l', f', rfl, TF, BF⟩
        · have T2_6_11 := hide (unhide T2_6).litT
          go_simp
          generalize u2_6.alloc (.cells #[.int .i64 0, .slice none 0 0, .slice none 0 0, .slice none 0 0] 27) = u2_6_11 at *
          generalize u2_6.heap.size = tb at *
          refine hK.out _ _ (unhide SK _ (unhide T2_6_11).bel) (fun hHeld => ?_)
          clear hK K
          refine wpAnyH_ready (rs := [5]) (by kernel_rfl) (by simp) ?_
          refine AllReadyH.cons rfl (fun K hK => ?_) AllReadyH.nil
          obtain ⟨g8, k8, u2_6_11_5, hr, hs8⟩ := (unhide T2_6_11).appV (l := ⟨la, ln, lc⟩) (unhide RV) hln (unhide CL)
          have T2_6_11_5 := hide hs8
          clear hs8
          refine us_stepApp rfl (.tmp 8) (.tmp 10) 23 rfl _ _ (.slice (some ⟨g8, 0, none⟩) ln k8) u2_6_11_5 (by first | rfl | (simp [Act.eval]; done) | (simp [Act.eval, Act.put]; done)) (by first | rfl | (simp [Act.eval]; done) | (simp [Act.eval, Act.put]; done)) hr ?_
          clear hr
          refine hK.out _ _ (unhide SK _ (unhide T2_6_11_5).bel) (fun hHeld => ?_)
          clear hK K
          refine wpAnyH_ready (rs := [9]) (by kernel_rfl) (by simp) ?_
          refine AllReadyH.cons rfl (fun K hK => ?_) AllReadyH.nil
          obtain ⟨g12, k12, u2_6_11_5_9, hr, hs8⟩ := (unhide T2_6_11_5).appF (l := ⟨fa, fn, fc⟩) (unhide RF) hfn (unhide CF)
          have T2_6_11_5_9 := hide hs8
          clear hs8
          refine us_stepApp rfl (.tmp 12) (.tmp 14) 24 rfl _ _ (.slice (some ⟨g12, 0, none⟩) fn k12) u2_6_11_5_9 (by first | rfl | (simp [Act.eval]; done) | (simp [Act.eval, Act.put]; done)) (by first | rfl | (simp [Act.eval]; done) | (simp [Act.eval, Act.put]; done)) hr ?_
          clear hr
          refine hK.out _ _ (unhide SK _ (unhide T2_6_11_5_9).bel) (fun hHeld => ?_)
          clear hK K
          refine anyH_take 10 16 (v := ?v12) rfl rfl (by kernel_rfl) (by kernel_rfl) (by kernel_rfl) (fun _ _ _ h => h) (by rfl) ?h12 hHeld ?r12
          case h12 => (intro w hSw; (try dsimp only at hSw); go_simp; try (with_reducible rfl))
          simp only [Act.put, List.setIfInBounds_toArray]
          refine wpAnyH_ready (rs := [12]) (by kernel_rfl) (by simp) ?_
          refine AllReadyH.cons rfl (fun K hK => ?_) AllReadyH.nil
          obtain ⟨l', f', e1, e2, hT3, hb3⟩ := VgSt.store (next := d.next) (unhide T2_6_11_5_9)
          have y0 := (heap_at ((unhide T2_6_11_5_9).t tb rfl).2 0).1
          have y1 := (heap_at ((unhide T2_6_11_5_9).t tb rfl).2 1).1
          have y2 := (heap_at ((unhide T2_6_11_5_9).t tb rfl).2 2).1
          have y3 := (heap_at ((unhide T2_6_11_5_9).t tb rfl).2 3).1
          have x0 := (heap_at ((unhide T2_6_11_5_9).t tb rfl).2 0).2
          have x1 := (heap_at ((unhide T2_6_11_5_9).t tb rfl).2 1).2
          have x2 := (heap_at ((unhide T2_6_11_5_9).t tb rfl).2 2).2
          have x3 := (heap_at ((unhide T2_6_11_5_9).t tb rfl).2 3).2
          have TF := hide hT3
          have BF := hide hb3
          clear hT3 hb3 e1 e2
          go_simp
          refine hK.out _ _ (unhide SK _ (unhide BF)) (fun hHeld => ?_)
          clear hK K
          refine wpAnyH_done (by kernel_rfl) ?_ _
          go_wp2_with fail
          go_meet
          case rel => exact ⟨tb, l', f', rfl, TF, BF⟩
      · have T2_11 := hide (unhide T2).litT
        go_simp
        generalize u2.alloc (.cells #[.int .i64 0, .slice none 0 0, .slice none 0 0, .slice none 0 0] 27) = u2_11 at *
        generalize u2.heap.size = tb at *
        refine hK.out _ _ (unhide SK _ (unhide T2_11).bel) (fun hHeld => ?_)
        clear hK K
        refine wpAnyH_ready (rs := [5, 6]) (by kernel_rfl) (by simp) ?_
        refine AllReadyH.cons rfl (fun K hK => ?_) (AllReadyH.cons rfl (fun K hK => ?_) AllReadyH.nil)
        · obtain ⟨g8, k8, u2_11_5, hr, hs8⟩ := (unhide T2_11).appV (l := ⟨la, ln, lc⟩) (unhide RV) hln (unhide CL)
          have T2_11_5 := hide hs8
          clear hs8
          refine us_stepApp rfl (.tmp 8) (.tmp 10) 23 rfl _ _ (.slice (some ⟨g8, 0, none⟩) ln k8) u2_11_5 (by first | rfl | (simp [Act.eval]; done) | (simp [Act.eval, Act.put]; done)) (by first | rfl | (simp [Act.eval]; done) | (simp [Act.eval, Act.put]; done)) hr ?_
          clear hr
          refine hK.out _ _ (unhide SK _ (unhide T2_11_5).bel) (fun hHeld => ?_)
          clear hK K
          refine wpAnyH_ready (rs := [6]) (by kernel_rfl) (by simp) ?_
          refine AllReadyH.cons rfl (fun K hK => ?_) AllReadyH.nil
          have T2_11_5_6 := hide (unhide T2_11_5).litF
          go_simp
          generalize u2_11_5.alloc (.cells #[] 90) = u2_11_5_6 at *
          generalize u2_11_5.heap.size = g9 at *
          refine hK.out _ _ (unhide SK _ (unhide T2_11_5_6).bel) (fun hHeld => ?_)
          clear hK K
          refine wpAnyH_ready (rs := [9]) (by kernel_rfl) (by simp) ?_
          refine AllReadyH.cons rfl (fun K hK => ?_) AllReadyH.nil
          obtain ⟨g12, k12, u2_11_5_6_9, hr, hs8⟩ := (unhide T2_11_5_6).appF (l := ⟨fa, fn, fc⟩) (unhide RF) hfn (unhide CF)
          have T2_11_5_6_9 := hide hs8
          clear hs8
          refine us_stepApp rfl (.tmp 12) (.tmp 14) 24 rfl _ _ (.slice (some ⟨g12, 0, none⟩) fn k12) u2_11_5_6_9 (by first | rfl | (simp [Act.eval]; done) | (simp [Act.eval, Act.put]; done)) (by first | rfl | (simp [Act.eval]; done) | (simp [Act.eval, Act.put]; done)) hr ?_
          clear hr
          refine hK.out _ _ (unhide SK _ (unhide T2_11_5_6_9).bel) (fun hHeld => ?_)
          clear hK K
          refine anyH_take 10 16 (v := ?v13) rfl rfl (by kernel_rfl) (by kernel_rfl) (by kernel_rfl) (fun _ _ _ h => h) (by rfl) ?h13 hHeld ?r13
          case h13 => (intro w hSw; (try dsimp only at hSw); go_simp; try (with_reducible rfl))
          simp only [Act.put, List.setIfInBounds_toArray]
          refine wpAnyH_ready (rs := [12]) (by kernel_rfl) (by simp) ?_
          refine AllReadyH.cons rfl (fun K hK => ?_) AllReadyH.nil
          obtain ⟨l', f', e1, e2, hT3, hb3⟩ := VgSt.store (next := d.next) (unhide T2_11_5_6_9)
          have y0 := (heap_at ((unhide T2_11_5_6_9).t tb rfl).2 0).1
          have y1 := (heap_at ((unhide T2_11_5_6_9).t tb rfl).2 1).1
          have y2 := (heap_at ((unhide T2_11_5_6_9).t tb rfl).2 2).1
          have y3 := (heap_at ((unhide T2_11_5_6_9).t tb rfl).2 3).1
          have x0 := (heap_at ((unhide T2_11_5_6_9).t tb rfl).2 0).2
          have x1 := (heap_at ((unhide T2_11_5_6_9).t tb rfl).2 1).2
          have x2 := (heap_at ((unhide T2_11_5_6_9).t tb rfl).2 2).2
          have x3 := (heap_at ((unhide T2_11_5_6_9).t tb rfl).2 3).2
          have TF := hide hT3
          have BF := hide hb3
          clear hT3 hb3 e1 e2
          go_simp
          refine hK.out _ _ (unhide SK _ (unhide BF)) (fun hHeld => ?_)
          clear hK K
          refine wpAnyH_done (by kernel_rfl) ?_ _
          go_wp2_with fail
          go_meet
          case rel => exact ⟨tb, l', f', rfl, TF, BF⟩
        · have T2_11_6 := hide (unhide T2_11).litF
          go_simp
          generalize u2_11.alloc (.cells #[] 90) = u2_11_6 at *
          generalize u2_11.heap.size = g9 at *
          refine hK.out _ _ (unhide SK _ (unhide T2_11_6).bel) (fun hHeld => ?_)
          clear hK K
          refine wpAnyH_ready (rs := [5]) (by kernel_rfl) (by simp) ?_
          refine AllReadyH.cons rfl (fun K hK => ?_) AllReadyH.nil
          obtain ⟨g8, k8, u2_11_6_5, hr, hs8⟩ := (unhide T2_11_6).appV (l := ⟨la, ln, lc⟩) (unhide RV) hln (unhide CL)
          have T2_11_6_5 := hide hs8
          clear hs8
          refine us_stepApp rfl (.tmp 8) (.tmp 10) 23 rfl _ _ (.slice (some ⟨g8, 0, none⟩) ln k8) u2_11_6_5 (by first | rfl | (simp [Act.eval]; done) | (simp [Act.eval, Act.put]; done)) (by first | rfl | (simp [Act.eval]; done) | (simp [Act.eval, Act.put]; done)) hr ?_
          clear hr
          refine hK.out _ _ (unhide SK _ (unhide T2_11_6_5).bel) (fun hHeld => ?_)
          clear hK K
          refine wpAnyH_ready (rs := [9]) (by kernel_rfl) (by simp) ?_
          refine AllReadyH.cons rfl (fun K hK => ?_) AllReadyH.nil
          obtain ⟨g12, k12, u2_11_6_5_9, hr, hs8⟩ := (unhide T2_11_6_5).appF (l := ⟨fa, fn, fc⟩) (unhide RF) hfn (unhide CF)
          have T2_11_6_5_9 := hide hs8
          clear hs8
          refine us_stepApp rfl (.tmp 12) (.tmp 14) 24 rfl _ _ (.slice (some ⟨g12, 0, none⟩) fn k12) u2_11_6_5_9 (by first | rfl | (simp [Act.eval]; done) | (simp [Act.eval, Act.put]; done)) (by first | rfl | (simp [Act.eval]; done) | (simp [Act.eval, Act.put]; done)) hr ?_
          clear hr
          refine hK.out _ _ (unhide SK _ (unhide T2_11_6_5_9).bel) (fun hHeld => ?_)
          clear hK K
          refine anyH_take 10 16 (v := ?v14) rfl rfl (by kernel_rfl) (by kernel_rfl) (by kernel_rfl) (fun _ _ _ h => h) (by rfl) ?h14 hHeld ?r14
          case h14 => (intro w hSw; (try dsimp only at hSw); go_simp; try (with_reducible rfl))
          simp only [Act.put, List.setIfInBounds_toArray]
          refine wpAnyH_ready (rs := [12]) (by kernel_rfl) (by simp) ?_
          refine AllReadyH.cons rfl (fun K hK => ?_) AllReadyH.nil
          obtain ⟨l', f', e1, e2, hT3, hb3⟩ := VgSt.store (next := d.next) (unhide T2_11_6_5_9)
          have y0 := (heap_at ((unhide T2_11_6_5_9).t tb rfl).2 0).1
          have y1 := (heap_at ((unhide T2_11_6_5_9).t tb rfl).2 1).1
          have y2 := (heap_at ((unhide T2_11_6_5_9).t tb rfl).2 2).1
          have y3 := (heap_at ((unhide T2_11_6_5_9).t tb rfl).2 3).1
          have x0 := (heap_at ((unhide T2_11_6_5_9).t tb rfl).2 0).2
          have x1 := (heap_at ((unhide T2_11_6_5_9).t tb rfl).2 1).2
          have x2 := (heap_at ((unhide T2_11_6_5_9).t tb rfl).2 2).2
          have x3 := (heap_at ((unhide T2_11_6_5_9).t tb rfl).2 3).2
          have TF := hide hT3
          have BF := hide hb3
          clear hT3 hb3 e1 e2
          go_simp
          refine hK.out _ _ (unhide SK _ (unhide BF)) (fun hHeld => ?_)
          clear hK K
          refine wpAnyH_done (by kernel_rfl) ?_ _
          go_wp2_with fail
          go_meet
          case rel => exact ⟨tb, l', f', rfl, TF, BF⟩
    · have T6 := hide (unhide T0).litF
      go_simp
      generalize u0.alloc (.cells #[] 90) = u6 at *
      generalize u0.heap.size = g9 at *
      refine hK.out _ _ (unhide SK _ (unhide T6).bel) (fun hHeld => ?_)
      clear hK K
      refine wpAnyH_ready (rs := [2, 11]) (by kernel_rfl) (by simp) ?_
      refine AllReadyH.cons rfl (fun K hK => ?_) (AllReadyH.cons rfl (fun K hK => ?_) AllReadyH.nil)
      · have T6_2 := hide (unhide T6).litV
        go_simp
        generalize u6.alloc (.cells #[] 39) = u6_2 at *
        generalize u6.heap.size = g5 at *
        refine hK.out _ _ (unhide SK _ (unhide T6_2).bel) (fun hHeld => ?_)
        clear hK K
        refine wpAnyH_ready (rs := [5, 11]) (by kernel_rfl) (by simp) ?_
        refine AllReadyH.cons rfl (fun K hK => ?_) (AllReadyH.cons rfl (fun K hK => ?_) AllReadyH.nil)
        · obtain ⟨g8, k8, u6_2_5, hr, hs8⟩ := (unhide T6_2).appV (l := ⟨la, ln, lc⟩) (unhide RV) hln (unhide CL)
          have T6_2_5 := hide hs8
          clear hs8
          refine us_stepApp rfl (.tmp 8) (.tmp 10) 23 rfl _ _ (.slice (some ⟨g8, 0, none⟩) ln k8) u6_2_5 (by first | rfl | (simp [Act.eval]; done) | (simp [Act.eval, Act.put]; done)) (by first | rfl | (simp [Act.eval]; done) | (simp [Act.eval, Act.put]; done)) hr ?_
          clear hr
          refine hK.out _ _ (unhide SK _ (unhide T6_2_5).bel) (fun hHeld => ?_)
          clear hK K
          refine wpAnyH_ready (rs := [9, 11]) (by kernel_rfl) (by simp) ?_
          refine AllReadyH.cons rfl (fun K hK => ?_) (AllReadyH.cons rfl (fun K hK => ?_) AllReadyH.nil)
          · obtain ⟨g12, k12, u6_2_5_9, hr, hs8⟩ := (unhide T6_2_5).appF (l := ⟨fa, fn, fc⟩) (unhide RF) hfn (unhide CF)
            have T6_2_5_9 := hide hs8
            clear hs8
            refine us_stepApp rfl (.tmp 12) (.tmp 14) 24 rfl _ _ (.slice (some ⟨g12, 0, none⟩) fn k12) u6_2_5_9 (by first | rfl | (simp [Act.eval]; done) | (simp [Act.eval, Act.put]; done)) (by first | rfl | (simp [Act.eval]; done) | (simp [Act.eval, Act.put]; done)) hr ?_
            clear hr
            refine hK.out _ _ (unhide SK _ (unhide T6_2_5_9).bel) (fun hHeld => ?_)
            clear hK K
            refine anyH_take 10 16 (v := ?v15) rfl rfl (by kernel_rfl) (by kernel_rfl) (by kernel_rfl) (fun _ _ _ h => h) (by rfl) ?h15 hHeld ?r15
            case h15 => (intro w hSw; (try dsimp only at hSw); go_simp; try (with_reducible rfl))
            simp only [Act.put, List.setIfInBounds_toArray]
            refine wpAnyH_ready (rs := [11]) (by kernel_rfl) (by simp) ?_
            refine AllReadyH.cons rfl (fun K hK => ?_) AllReadyH.nil
            have T6_2_5_9_11 := hide (unhide T6_2_5_9).litT
            go_simp
            generalize u6_2_5_9.alloc (.cells #[.int .i64 0, .slice none 0 0, .slice none 0 0, .slice none 0 0] 27) = u6_2_5_9_11 at *
            generalize u6_2_5_9.heap.size = tb at *
            refine hK.out _ _ (unhide SK _ (unhide T6_2_5_9_11).bel) (fun hHeld => ?_)
            clear hK K
            refine wpAnyH_ready (rs := [12]) (by kernel_rfl) (by simp) ?_
            refine AllReadyH.cons rfl (fun K hK => ?_) AllReadyH.nil
            obtain ⟨l', f', e1, e2, hT3, hb3⟩ := VgSt.store (next := d.next) (unhide T6_2_5_9_11)
            have y0 := (heap_at ((unhide T6_2_5_9_11).t tb rfl).2 0).1
            have y1 := (heap_at ((unhide T6_2_5_9_11).t tb rfl).2 1).1
            have y2 := (heap_at ((unhide T6_2_5_9_11).t tb rfl).2 2).1
            have y3 := (heap_at ((unhide T6_2_5_9_11).t tb rfl).2 3).1
            have x0 := (heap_at ((unhide T6_2_5_9_11).t tb rfl).2 0).2
            have x1 := (heap_at ((unhide T6_2_5_9_11).t tb rfl).2 1).2
            have x2 := (heap_at ((unhide T6_2_5_9_11).t tb rfl).2 2).2
            have x3 := (heap_at ((unhide T6_2_5_9_11).t tb rfl).2 3).2
            have TF := hide hT3
            have BF := hide hb3
            clear hT3 hb3 e1 e2
            go_simp
            refine hK.out _ _ (unhide SK _ (unhide BF)) (fun hHeld => ?_)
            clear hK K
            refine wpAnyH_done (by kernel_rfl) ?_ _
            go_wp2_with fail
            go_meet
            case rel => exact ⟨tb, l', f', rfl, TF, BF⟩
          · have T6_2_5_11 := hide (unhide T6_2_5).litT
            go_simp
            generalize u6_2_5.alloc (.cells #[.int .i64 0, .slice none 0 0, .slice none 0 0, .slice none 0 0] 27) = u6_2_5_11 at *
            generalize u6_2_5.heap.size = tb at *
            refine hK.out _ _ (unhide SK _ (unhide T6_2_5_11).bel) (fun hHeld => ?_)
            clear hK K
            refine wpAnyH_ready (rs := [9]) (by kernel_rfl) (by simp) ?_
            refine AllReadyH.cons rfl (fun K hK => ?_) AllReadyH.nil
            obtain ⟨g12, k12, u6_2_5_11_9, hr, hs8⟩ := (unhide T6_2_5_11).appF (l := ⟨fa, fn, fc⟩) (unhide RF) hfn (unhide CF)
            have T6_2_5_11_9 := hide hs8
            clear hs8
            refine us_stepApp rfl (.tmp 12) (.tmp 14) 24 rfl _ _ (.slice (some ⟨g12, 0, none⟩) fn k12) u6_2_5_11_9 (by first | rfl | (simp [Act.eval]; done) | (simp [Act.eval, Act.put]; done)) (by first | rfl | (simp [Act.eval]; done) | (simp [Act.eval, Act.put]; done)) hr ?_
            clear hr
            refine hK.out _ _ (unhide SK _ (unhide T6_2_5_11_9).bel) (fun hHeld => ?_)
            clear hK K
            refine anyH_take 10 16 (v := ?v16) rfl rfl (by kernel_rfl) (by kernel_rfl) (by kernel_rfl) (fun _ _ _ h => h) (by rfl) ?h16 hHeld ?r16
            case h16 => (intro w hSw; (try dsimp only at hSw); go_simp; try (with_reducible rfl))
            simp only [Act.put, List.setIfInBounds_toArray]
            refine wpAnyH_ready (rs := [12]) (by kernel_rfl) (by simp) ?_
            refine AllReadyH.cons rfl (fun K hK => ?_) AllReadyH.nil
            obtain ⟨l', f', e1, e2, hT3, hb3⟩ := VgSt.store (next := d.next) (unhide T6_2_5_11_9)
            have y0 := (heap_at ((unhide T6_2_5_11_9).t tb rfl).2 0).1
            have y1 := (heap_at ((unhide T6_2_5_11_9).t tb rfl).2 1).1
            have y2 := (heap_at ((unhide T6_2_5_11_9).t tb rfl).2 2).1
            have y3 := (heap_at ((unhide T6_2_5_11_9).t tb rfl).2 3).1
            have x0 := (heap_at ((unhide T6_2_5_11_9).t tb rfl).2 0).2
            have x1 := (heap_at ((unhide T6_2_5_11_9).t tb rfl).2 1).2
            have x2 := (heap_at ((unhide T6_2_5_11_9).t tb rfl).2 2).2
            have x3 := (heap_at ((unhide T6_2_5_11_9).t tb rfl).2 3).2
            have TF := hide hT3
            have BF := hide hb3
            clear hT3 hb3 e1 e2
            go_simp
            refine hK.out _ _ (unhide SK _ (unhide BF)) (fun hHeld => ?_)
            clear hK K
            refine wpAnyH_done (by kernel_rfl) ?_ _
            go_wp2_with fail
            go_meet
            case rel => exact ⟨tb, l', f', rfl, TF, BF⟩
        · have T6_2_11 := hide (unhide T6_2).litT
          go_simp
          generalize u6_2.alloc (.cells #[.int .i64 0, .slice none 0 0, .slice none 0 0, .slice none 0 0] 27) = u6_2_11 at *
          generalize u6_2.heap.size = tb at *
          refine hK.out _ _ (unhide SK _ (unhide T6_2_11).bel) (fun hHeld => ?_)
          clear hK K
          refine wpAnyH_ready (rs := [5]) (by kernel_rfl) (by simp) ?_
          refine AllReadyH.cons rfl (fun K hK => ?_) AllReadyH.nil
          obtain ⟨g8, k8, u6_2_11_5, hr, hs8⟩ := (unhide T6_2_11).appV (l := ⟨la, ln, lc⟩) (unhide RV) hln (unhide CL)
          have T6_2_11_5 := hide hs8
          clear hs8
          refine us_stepApp rfl (.tmp 8) (.tmp 10) 23 rfl _ _ (.slice (some ⟨g8, 0, none⟩) ln k8) u6_2_11_5 (by first | rfl | (simp [Act.eval]; done) | (simp [Act.eval, Act.put]; done)) (by first | rfl | (simp [Act.eval]; done) | (simp [Act.eval, Act.put]; done)) hr ?_
          clear hr
          refine hK.out _ _ (unhide SK _ (unhide T6_2_11_5).bel) (fun hHeld => ?_)
          clear hK K
          refine wpAnyH_ready (rs := [9]) (by kernel_rfl) (by simp) ?_
          refine AllReadyH.cons rfl (fun K hK => ?_) AllReadyH.nil
          obtain ⟨g12, k12, u6_2_11_5_9, hr, hs8⟩ := (unhide T6_2_11_5).appF (l := ⟨fa, fn, fc⟩) (unhide RF) hfn (unhide CF)
          have T6_2_11_5_9 := hide hs8
          clear hs8
          refine us_stepApp rfl (.tmp 12) (.tmp 14) 24 rfl _ _ (.slice (some ⟨g12, 0, none⟩) fn k12) u6_2_11_5_9 (by first | rfl | (simp [Act.eval]; done) | (simp [Act.eval, Act.put]; done)) (by first | rfl | (simp [Act.eval]; done) | (simp [Act.eval, Act.put]; done)) hr ?_
          clear hr
          refine hK.out _ _ (unhide SK _ (unhide T6_2_11_5_9).bel) (fun hHeld => ?_)
          clear hK K
          refine anyH_take 10 16 (v := ?v17) rfl rfl (by kernel_rfl) (by kernel_rfl) (by kernel_rfl) (fun _ _ _ h => h) (by rfl) ?h17 hHeld ?r17
          case h17 => (intro w hSw; (try dsimp only at hSw); go_simp; try (with_reducible rfl))
          simp only [Act.put, List.setIfInBounds_toArray]
          refine wpAnyH_ready (rs := [12]) (by kernel_rfl) (by simp) ?_
          refine AllReadyH.cons rfl (fun K hK => ?_) AllReadyH.nil
          obtain ⟨l', f', e1, e2, hT3, hb3⟩ := VgSt.store (next := d.next) (unhide T6_2_11_5_9)
          have y0 := (heap_at ((unhide T6_2_11_5_9).t tb rfl).2 0).1
          have y1 := (heap_at ((unhide T6_2_11_5_9).t tb rfl).2 1).1
          have y2 := (heap_at ((unhide T6_2_11_5_9).t tb rfl).2 2).1
          have y3 := (heap_at ((unhide T6_2_11_5_9).t tb rfl).2 3).1
          have x0 := (heap_at ((unhide T6_2_11_5_9).t tb rfl).2 0).2
          have x1 := (heap_at ((unhide T6_2_11_5_9).t tb rfl).2 1).2
          have x2 := (heap_at ((unhide T6_2_11_5_9).t tb rfl).2 2).2
          have x3 := (heap_at ((unhide T6_2_11_5_9).t tb rfl).2 3).2
          have TF := hide hT3
          have BF := hide hb3
          clear hT3 hb3 e1 e2
          go_simp
          refine hK.out _ _ (unhide SK _ (unhide BF)) (fun hHeld => ?_)
          clear hK K
          refine wpAnyH_done (by kernel_rfl) ?_ _
          go_wp2_with fail
          go_meet
          case rel => exact ⟨tb, l', f', rfl, TF, BF⟩
      · have T6_11 := hide (unhide T6).litT
        go_simp
        generalize u6.alloc (.cells #[.int .i64 0, .slice none 0 0, .slice none 0 0, .slice none 0 0] 27) = u6_11 at *
        generalize u6.heap.size = tb at *
        refine hK.out _ _ (unhide SK _ (unhide T6_11).bel) (fun hHeld => ?_)
        clear hK K
        refine wpAnyH_ready (rs := [2]) (by kernel_rfl) (by simp) ?_
        refine AllReadyH.cons rfl (fun K hK => ?_) AllReadyH.nil
        have T6_11_2 := hide (unhide T6_11).litV
        go_simp
        generalize u6_11.alloc (.cells #[] 39) = u6_11_2 at *
        generalize u6_11.heap.size = g5 at *
        refine hK.out _ _ (unhide SK _ (unhide T6_11_2).bel) (fun hHeld => ?_)
        clear hK K
        refine wpAnyH_ready (rs := [5]) (by kernel_rfl) (by simp) ?_
        refine AllReadyH.cons rfl (fun K hK => ?_) AllReadyH.nil
        obtain ⟨g8, k8, u6_11_2_5, hr, hs8⟩ := (unhide T6_11_2).appV (l := ⟨la, ln, lc⟩) (unhide RV) hln (unhide CL)
        have T6_11_2_5 := hide hs8
        clear hs8
        refine us_stepApp rfl (.tmp 8) (.tmp 10) 23 rfl _ _ (.slice (some ⟨g8, 0, none⟩) ln k8) u6_11_2_5 (by first | rfl | (simp [Act.eval]; done) | (simp [Act.eval, Act.put]; done)) (by first | rfl | (simp [Act.eval]; done) | (simp [Act.eval, Act.put]; done)) hr ?_
        clear hr
        refine hK.out _ _ (unhide SK _ (unhide T6_11_2_5).bel) (fun hHeld => ?_)
        clear hK K
        refine wpAnyH_ready (rs := [9]) (by kernel_rfl) (by simp) ?_
        refine AllReadyH.cons rfl (fun K hK => ?_) AllReadyH.nil
        obtain ⟨g12, k12, u6_11_2_5_9, hr, hs8⟩ := (unhide T6_11_2_5).appF (l := ⟨fa, fn, fc⟩) (unhide RF) hfn (unhide CF)
        have T6_11_2_5_9 := hide hs8
        clear hs8
        refine us_stepApp rfl (.tmp 12) (.tmp 14) 24 rfl _ _ (.slice (some ⟨g12, 0, none⟩) fn k12) u6_11_2_5_9 (by first | rfl | (simp [Act.eval]; done) | (simp [Act.eval, Act.put]; done)) (by first | rfl | (simp [Act.eval]; done) | (simp [Act.eval, Act.put]; done)) hr ?_
        clear hr
        refine hK.out _ _ (unhide SK _ (unhide T6_11_2_5_9).bel) (fun hHeld => ?_)
        clear hK K
        refine anyH_take 10 16 (v := ?v18) rfl rfl (by kernel_rfl) (by kernel_rfl) (by kernel_rfl) (fun _ _ _ h => h) (by rfl) ?h18 hHeld ?r18
        case h18 => (intro w hSw; (try dsimp only at hSw); go_simp; try (with_reducible rfl))
        simp only [Act.put, List.setIfInBounds_toArray]
        refine wpAnyH_ready (rs := [12]) (by kernel_rfl) (by simp) ?_
        refine AllReadyH.cons rfl (fun K hK => ?_) AllReadyH.nil
        obtain ⟨l', f', e1, e2, hT3, hb3⟩ := VgSt.store (next := d.next) (unhide T6_11_2_5_9)
        have y0 := (heap_at ((unhide T6_11_2_5_9).t tb rfl).2 0).1
        have y1 := (heap_at ((unhide T6_11_2_5_9).t tb rfl).2 1).1
        have y2 := (heap_at ((unhide T6_11_2_5_9).t tb rfl).2 2).1
        have y3 := (heap_at ((unhide T6_11_2_5_9).t tb rfl).2 3).1
        have x0 := (heap_at ((unhide T6_11_2_5_9).t tb rfl).2 0).2
        have x1 := (heap_at ((unhide T6_11_2_5_9).t tb rfl).2 1).2
        have x2 := (heap_at ((unhide T6_11_2_5_9).t tb rfl).2 2).2
        have x3 := (heap_at ((unhide T6_11_2_5_9).t tb rfl).2 3).2
        have TF := hide hT3
        have BF := hide hb3
        clear hT3 hb3 e1 e2
        go_simp
        refine hK.out _ _ (unhide SK _ (unhide BF)) (fun hHeld => ?_)
        clear hK K
        refine wpAnyH_done (by kernel_rfl) ?_ _
        go_wp2_with fail
        go_meet
        case rel => exact ⟨tb, l', f', rfl, TF, BF⟩
    · have T11 := hide (unhide T0).litT
      go_simp
      generalize u0.alloc (.cells #[.int .i64 0, .slice none 0 0, .slice none 0 0, .slice none 0 0] 27) = u11 at *
      generalize u0.heap.size = tb at *
      refine hK.out _ _ (unhide SK _ (unhide T11).bel) (fun hHeld => ?_)
      clear hK K
      refine wpAnyH_ready (rs := [2, 6]) (by kernel_rfl) (by simp) ?_
      refine AllReadyH.cons rfl (fun K hK => ?_) (AllReadyH.cons rfl (fun K hK => ?_) AllReadyH.nil)
      · have T11_2 := hide (unhide T11).litV
        go_simp
        generalize u11.alloc (.cells #[] 39) = u11_2 at *
        generalize u11.heap.size = g5 at *
        refine hK.out _ _ (unhide SK _ (unhide T11_2).bel) (fun hHeld => ?_)
        clear hK K
        refine wpAnyH_ready (rs := [5, 6]) (by kernel_rfl) (by simp) ?_
        refine AllReadyH.cons rfl (fun K hK => ?_) (AllReadyH.cons rfl (fun K hK => ?_) AllReadyH.nil)
        · obtain ⟨g8, k8, u11_2_5, hr, hs8⟩ := (unhide T11_2).appV (l := ⟨la, ln, lc⟩) (unhide RV) hln (unhide CL)
          have T11_2_5 := hide hs8
          clear hs8
          refine us_stepApp rfl (.tmp 8) (.tmp 10) 23 rfl _ _ (.slice (some ⟨g8, 0, none⟩) ln k8) u11_2_5 (by first | rfl | (simp [Act.eval]; done) | (simp [Act.eval, Act.put]; done)) (by first | rfl | (simp [Act.eval]; done) | (simp [Act.eval, Act.put]; done)) hr ?_
          clear hr
          refine hK.out _ _ (unhide SK _ (unhide T11_2_5).bel) (fun hHeld => ?_)
          clear hK K
          refine wpAnyH_ready (rs := [6]) (by kernel_rfl) (by simp) ?_
          refine AllReadyH.cons rfl (fun K hK => ?_) AllReadyH.nil
          have T11_2_5_6 := hide (unhide T11_2_5).litF
          go_simp
          generalize u11_2_5.alloc (.cells #[] 90) = u11_2_5_6 at *
          generalize u11_2_5.heap.size = g9 at *
          refine hK.out _ _ (unhide SK _ (unhide T11_2_5_6).bel) (fun hHeld => ?_)
          clear hK K
          refine wpAnyH_ready (rs := [9]) (by kernel_rfl) (by simp) ?_
          refine AllReadyH.cons rfl (fun K hK => ?_) AllReadyH.nil
          obtain ⟨g12, k12, u11_2_5_6_9, hr, hs8⟩ := (unhide T11_2_5_6).appF (l := ⟨fa, fn, fc⟩) (unhide RF) hfn (unhide CF)
          have T11_2_5_6_9 := hide hs8
          clear hs8
          refine us_stepApp rfl (.tmp 12) (.tmp 14) 24 rfl _ _ (.slice (some ⟨g12, 0, none⟩) fn k12) u11_2_5_6_9 (by first | rfl | (simp [Act.eval]; done) | (simp [Act.eval, Act.put]; done)) (by first | rfl | (simp [Act.eval]; done) | (simp [Act.eval, Act.put]; done)) hr ?_
          clear hr
          refine hK.out _ _ (unhide SK _ (unhide T11_2_5_6_9).bel) (fun hHeld => ?_)
          clear hK K
          refine anyH_take 10 16 (v := ?v19) rfl rfl (by kernel_rfl) (by kernel_rfl) (by kernel_rfl) (fun _ _ _ h => h) (by rfl) ?h19 hHeld ?r19
          case h19 => (intro w hSw; (try dsimp only at hSw); go_simp; try (with_reducible rfl))
          simp only [Act.put, List.setIfInBounds_toArray]
          refine wpAnyH_ready (rs := [12]) (by kernel_rfl) (by simp) ?_
          refine AllReadyH.cons rfl (fun K hK => ?_) AllReadyH.nil
          obtain ⟨l', f', e1, e2, hT3, hb3⟩ := VgSt.store (next := d.next) (unhide T11_2_5_6_9)
          have y0 := (heap_at ((unhide T11_2_5_6_9).t tb rfl).2 0).1
          have y1 := (heap_at ((unhide T11_2_5_6_9).t tb rfl).2 1).1
          have y2 := (heap_at ((unhide T11_2_5_6_9).t tb rfl).2 2).1
          have y3 := (heap_at ((unhide T11_2_5_6_9).t tb rfl).2 3).1
          have x0 := (heap_at ((unhide T11_2_5_6_9).t tb rfl).2 0).2
          have x1 := (heap_at ((unhide T11_2_5_6_9).t tb rfl).2 1).2
          have x2 := (heap_at ((unhide T11_2_5_6_9).t tb rfl).2 2).2
          have x3 := (heap_at ((unhide T11_2_5_6_9).t tb rfl).2 3).2
          have TF := hide hT3
          have BF := hide hb3
          clear hT3 hb3 e1 e2
          go_simp
          refine hK.out _ _ (unhide SK _ (unhide BF)) (fun hHeld => ?_)
          clear hK K
          refine wpAnyH_done (by kernel_rfl) ?_ _
          go_wp2_with fail
          go_meet
          case rel => exact ⟨tb, l', f', rfl, TF, BF⟩
        · have T11_2_6 := hide (unhide T11_2).litF
          go_simp
          generalize u11_2.alloc (.cells #[] 90) = u11_2_6 at *
          generalize u11_2.heap.size = g9 at *
          refine hK.out _ _ (unhide SK _ (unhide T11_2_6).bel) (fun hHeld => ?_)
          clear hK K
          refine wpAnyH_ready (rs := [5]) (by kernel_rfl) (by simp) ?_
          refine AllReadyH.cons rfl (fun K hK => ?_) AllReadyH.nil
          obtain ⟨g8, k8, u11_2_6_5, hr, hs8⟩ := (unhide T11_2_6).appV (l := ⟨la, ln, lc⟩) (unhide RV) hln (unhide CL)
          have T11_2_6_5 := hide hs8
          clear hs8
          refine us_stepApp rfl (.tmp 8) (.tmp 10) 23 rfl _ _ (.slice (some ⟨g8, 0, none⟩) ln k8) u11_2_6_5 (by first | rfl | (simp [Act.eval]; done) | (simp [Act.eval, Act.put]; done)) (by first | rfl | (simp [Act.eval]; done) | (simp [Act.eval, Act.put]; done)) hr ?_
          clear hr
          refine hK.out _ _ (unhide SK _ (unhide T11_2_6_5).bel) (fun hHeld => ?_)
          clear hK K
          refine wpAnyH_ready (rs := [9]) (by kernel_rfl) (by simp) ?_
          refine AllReadyH.cons rfl (fun K hK => ?_) AllReadyH.nil
          obtain ⟨g12, k12, u11_2_6_5_9, hr, hs8⟩ := (unhide T11_2_6_5).appF (l := ⟨fa, fn, fc⟩) (unhide RF) hfn (unhide CF)
          have T11_2_6_5_9 := hide hs8
          clear hs8
          refine us_stepApp rfl (.tmp 12) (.tmp 14) 24 rfl _ _ (.slice (some ⟨g12, 0, none⟩) fn k12) u11_2_6_5_9 (by first | rfl | (simp [Act.eval]; done) | (simp [Act.eval, Act.put]; done)) (by first | rfl | (simp [Act.eval]; done) | (simp [Act.eval, Act.put]; done)) hr ?_
          clear hr
          refine hK.out _ _ (unhide SK _ (unhide T11_2_6_5_9).bel) (fun hHeld => ?_)
          clear hK K
          refine anyH_take 10 16 (v := ?v20) rfl rfl (by kernel_rfl) (by kernel_rfl) (by kernel_rfl) (fun _ _ _ h => h) (by rfl) ?h20 hHeld ?r20
          case h20 => (intro w hSw; (try dsimp only at hSw); go_simp; try (with_reducible rfl))
          simp only [Act.put, List.setIfInBounds_toArray]
          refine wpAnyH_ready (rs := [12]) (by kernel_rfl) (by simp) ?_
          refine AllReadyH.cons rfl (fun K hK => ?_) AllReadyH.nil
          obtain ⟨l', f', e1, e2, hT3, hb3⟩ := VgSt.store (next := d.next) (unhide T11_2_6_5_9)
          have y0 := (heap_at ((unhide T11_2_6_5_9).t tb rfl).2 0).1
          have y1 := (heap_at ((unhide T11_2_6_5_9).t tb rfl).2 1).1
          have y2 := (heap_at ((unhide T11_2_6_5_9).t tb rfl).2 2).1
          have y3 := (heap_at ((unhide T11_2_6_5_9).t tb rfl).2 3).1
          have x0 := (heap_at ((unhide T11_2_6_5_9).t tb rfl).2 0).2
          have x1 := (heap_at ((unhide T11_2_6_5_9).t tb rfl).2 1).2
          have x2 := (heap_at ((unhide T11_2_6_5_9).t tb rfl).2 2).2
          have x3 := (heap_at ((unhide T11_2_6_5_9).t tb rfl).2 3).2
          have TF := hide hT3
          have BF := hide hb3
          clear hT3 hb3 e1 e2
          go_simp
          refine hK.out _ _ (unhide SK _ (unhide BF)) (fun hHeld => ?_)
          clear hK K
          refine wpAnyH_done (by kernel_rfl) ?_ _
          go_wp2_with fail
          go_meet
          case rel => exact ⟨tb, l', f', rfl, TF, BF⟩
      · have T11_6 := hide (unhide T11).litF
        go_simp
        generalize u11.alloc (.cells #[] 90) = u11_6 at *
        generalize u11.heap.size = g9 at *
        refine hK.out _ _ (unhide SK _ (unhide T11_6).bel) (fun hHeld => ?_)
        clear hK K
        refine wpAnyH_ready (rs := [2]) (by kernel_rfl) (by simp) ?_
        refine AllReadyH.cons rfl (fun K hK => ?_) AllReadyH.nil
        have T11_6_2 := hide (unhide T11_6).litV
        go_simp
        generalize u11_6.alloc (.cells #[] 39) = u11_6_2 at *
        generalize u11_6.heap.size = g5 at *
        refine hK.out _ _ (unhide SK _ (unhide T11_6_2).bel) (fun hHeld => ?_)
        clear hK K
        refine wpAnyH_ready (rs := [5]) (by kernel_rfl) (by simp) ?_
        refine AllReadyH.cons rfl (fun K hK => ?_) AllReadyH.nil
        obtain ⟨g8, k8, u11_6_2_5, hr, hs8⟩ := (unhide T11_6_2).appV (l := ⟨la, ln, lc⟩) (unhide RV) hln (unhide CL)
        have T11_6_2_5 := hide hs8
        clear hs8
        refine us_stepApp rfl (.tmp 8) (.tmp 10) 23 rfl _ _ (.slice (some ⟨g8, 0, none⟩) ln k8) u11_6_2_5 (by first | rfl | (simp [Act.eval]; done) | (simp [Act.eval, Act.put]; done)) (by first | rfl | (simp [Act.eval]; done) | (simp [Act.eval, Act.put]; done)) hr ?_
        clear hr
        refine hK.out _ _ (unhide SK _ (unhide T11_6_2_5).bel) (fun hHeld => ?_)
        clear hK K
        refine wpAnyH_ready (rs := [9]) (by kernel_rfl) (by simp) ?_
        refine AllReadyH.cons rfl (fun K hK => ?_) AllReadyH.nil
        obtain ⟨g12, k12, u11_6_2_5_9, hr, hs8⟩ := (unhide T11_6_2_5).appF (l := ⟨fa, fn, fc⟩) (unhide RF) hfn (unhide CF)
        have T11_6_2_5_9 := hide hs8
        clear hs8
        refine us_stepApp rfl (.tmp 12) (.tmp 14) 24 rfl _ _ (.slice (some ⟨g12, 0, none⟩) fn k12) u11_6_2_5_9 (by first | rfl | (simp [Act.eval]; done) | (simp [Act.eval, Act.put]; done)) (by first | rfl | (simp [Act.eval]; done) | (simp [Act.eval, Act.put]; done)) hr ?_
        clear hr
        refine hK.out _ _ (unhide SK _ (unhide T11_6_2_5_9).bel) (fun hHeld => ?_)
        clear hK K
        refine anyH_take 10 16 (v := ?v21) rfl rfl (by kernel_rfl) (by kernel_rfl) (by kernel_rfl) (fun _ _ _ h => h) (by rfl) ?h21 hHeld ?r21
        case h21 => (intro w hSw; (try dsimp only at hSw); go_simp; try (with_reducible rfl))
        simp only [Act.put, List.setIfInBounds_toArray]
        refine wpAnyH_ready (rs := [12]) (by kernel_rfl) (by simp) ?_
        refine AllReadyH.cons rfl (fun K hK => ?_) AllReadyH.nil
        obtain ⟨l', f', e1, e2, hT3, hb3⟩ := VgSt.store (next := d.next) (unhide T11_6_2_5_9)
        have y0 := (heap_at ((unhide T11_6_2_5_9).t tb rfl).2 0).1
        have y1 := (heap_at ((unhide T11_6_2_5_9).t tb rfl).2 1).1
        have y2 := (heap_at ((unhide T11_6_2_5_9).t tb rfl).2 2).1
        have y3 := (heap_at ((unhide T11_6_2_5_9).t tb rfl).2 3).1
        have x0 := (heap_at ((unhide T11_6_2_5_9).t tb rfl).2 0).2
        have x1 := (heap_at ((unhide T11_6_2_5_9).t tb rfl).2 1).2
        have x2 := (heap_at ((unhide T11_6_2_5_9).t tb rfl).2 2).2
        have x3 := (heap_at ((unhide T11_6_2_5_9).t tb rfl).2 3).2
        have TF := hide hT3
        have BF := hide hb3
        clear hT3 hb3 e1 e2
        go_simp
        refine hK.out _ _ (unhide SK _ (unhide BF)) (fun hHeld => ?_)
        clear hK K
        refine wpAnyH_done (by kernel_rfl) ?_ _
        go_wp2_with fail
        go_meet
        case rel => exact ⟨tb, l', f', rfl, TF, BF⟩
  case rest =>
    obtain ⟨tb, l', f', rfl, hG, hBc⟩ := hcut
    clear e0 e1 e2 RV RF S0 CL CF
    go_wp2_with fail
    go_loopw [4] (fun i wr => ∃ (k : Nat) (s' : Sl) (hs' : List SeH), i = .int .i64 (k : Int) ∧ k ≤ sn ∧ Hid (VgSt wr W.heap.size tb d.next l' f' s' hs' d.list d.fen) ∧ Hid (hs'.map (·.X) = d.ses.take k) ∧ Hid (Below W.heap.size W wr)) (fun i _ => sn - (intOf i).toNat)
    case atStart => exact ⟨0, _, _, rfl, Nat.zero_le _, hG, hide (by simp), hBc⟩
    case round =>
      clear hG hBc
      obtain ⟨k, s', hs', rfl, hk, hG, hX, hB⟩ := hrel
      have kv := ((unhide hB).block w.heap.size hz1).trans (unhide KV)
      have v3 := (heap_at kv 3).1
      have hwr := (unhide hB).size
      have HL := hide (show hs'.length = k by
        have e := congrArg List.length (unhide hX)
        rw [List.length_map, List.length_take, ← (unhide LN).2, (unhide LN).1] at e
        omega)
      by_cases hlt : k < sn
      case neg =>
        obtain rfl : k = sn := by omega
        have ht : d.ses.take k = d.ses := List.take_of_length_le (by rw [← (unhide LN).2, (unhide LN).1]; exact Nat.le_refl _)
        rw [ht] at hX
        have bx := (unhide hG).box
        have kr := ((unhide hB).block (w.heap.size + 1) hz2).trans (unhide KR)
        unfold vzC at bx
        have z0 := (heap_at bx 0).1
        have z1 := (heap_at bx 1).1
        have z2 := (heap_at bx 2).1
        have z3 := (heap_at bx 3).1
        have y0 := (heap_at kr 0).1
        have y1 := (heap_at kr 1).1
        have y2 := (heap_at kr 2).1
        have y3 := (heap_at kr 3).1
        have g0 := (heap_at kr 0).2
        have g1 := (heap_at kr 1).2
        have g2 := (heap_at kr 2).2
        have g3 := (heap_at kr 3).2
        have OWN : VzOwn wr W.heap.size l' f' s' hs' d := ⟨(unhide hG).vo, (unhide hG).fo, (unhide hG).so, unhide hX, (unhide hG).far⟩
        have hS := set4_wr wr (w.heap.size + 1) (.int .i64 d.next) (.slice l'.a l'.n l'.c) (.slice f'.a f'.n f'.c) (.slice s'.a s'.n s'.c)
        have bR := (unhide BH).trans ((unhide hB).mono (Nat.le_of_lt hz1))
        have RES := hide (show OvRes d w (.returned (.agg #[.int .i64 d.next, .slice l'.a l'.n l'.c, .slice f'.a f'.n f'.c, .slice s'.a s'.n s'.c])) _ from ⟨l', f', s', hs', rfl, (OWN.wr hS (fun i e => by rw [e]; exact hz2)).dn (Nat.le_of_lt hz1), bR.trans (WrB.below hS (fun i e => by rw [e]; exact Nat.le_succ _) bR.size)⟩)
        clear kv kr bx OWN hS bR hG hX ht
        go_wp2_with fail
        refine bodyPost_ret (v := .agg #[.int .i64 d.next, .slice l'.a l'.n l'.c, .slice f'.a f'.n f'.c, .slice s'.a s'.n s'.c]) (by simp [results, Tryz.results22, go_sem, *]) rfl ?_
        exact unhide RES
      have hk2 : k < hs.length := by rw [(unhide LN).1]; exact hlt
      have hkn : (k : Int) < (sn : Int) := by omega
      obtain ⟨b, off, rfl, hbl, c0, c1, c2⟩ := SeIn.cells ((unhide HI).below (unhide hB)).sr hk2
      have RW := hide (SeIn.row (unhide HI).sr hk2)
      have CC := hide (unhide CW hs[k] (List.getElem_mem hk2))
      have hwn := unhide SN hs[k] (List.getElem_mem hk2)
      have XN := hide (show ∀ y : SeH, y.X = hs[k].X → (hs' ++ [y]).map (·.X) = d.ses.take (k + 1) from fun y e => by
        obtain ⟨hd, hx⟩ := (unhide HI).at hk2
        rw [rb_take_snoc d.ses k hd, List.map_append, unhide hX, List.map_singleton, e, hx])
      generalize hs[k] = x at *
      obtain ⟨⟨xo, xt, ws⟩, ⟨wa, wn, wc⟩⟩ := x
      simp only at c0 c1 c2 RW CC hwn XN
      have bA : Below wr.heap.size wr (wr.alloc (.cells #[.bool xo, .int .i64 xt, .slice wa wn wc] 93)) := (Below.refl _ _).alloc (Nat.le_refl _) _
      have kA := heap_alloc_new wr (.cells #[.bool xo, .int .i64 xt, .slice wa wn wc] 93)
      have BA := hide bA
      have KA := hide kA
      clear bA kA kv hX
      go_upto_region 6 with fail
      clear c0 c1 c2 v3 hkn
      generalize hwa : wr.alloc (.cells #[.bool xo, .int .i64 xt, .slice wa wn wc] 93) = u1 at *
      clear hwa
      have hsb : wr.heap.size < u1.heap.size := blk_lt (unhide KA)
      have hu1 := (unhide BA).size
      have bL : Below u1.heap.size u1 (u1.alloc (.cells #[] 39)) := (Below.refl _ _).alloc (Nat.le_refl _) _
      have OL := nil_lit (w := u1) 39 4
      have BL := (unhide BA).trans (bL.mono hu1)
      obtain ⟨g6, k6, u2, hr6, ho6, hg6, -⟩ := v_appS (ds := []) (c := wc) 23 OL (by simp) ((unhide RW).below ((unhide hB).trans (BL.mono hwr))) (unhide CC).2 (by simp; omega) bL.size
      have hw6 := WrB.of_grown hg6
      simp only [List.length_nil, Nat.zero_add, List.nil_append] at hr6 ho6
      have B2 := bL.trans (WrB.below hw6 (fun i hi => (OL.lt i hi).1) bL.size)
      have KB := (B2.block wr.heap.size hsb).trans (unhide KA)
      have q2 := (heap_at KB 2).1
      have p2 := (heap_at KB 2).2
      have KC : (u2.setCell ⟨wr.heap.size, 2, none⟩ (.slice (some ⟨g6, 0, none⟩) wn k6)).heap[wr.heap.size]? = some (.cells #[.bool xo, .int .i64 xt, .slice (some ⟨g6, 0, none⟩) wn k6] 93 (0, 0)) := by have := heap_set KB 2 (.slice (some ⟨g6, 0, none⟩) wn k6); simpa using this
      have hS6 := set1_wr u2 wr.heap.size 2 (.slice (some ⟨g6, 0, none⟩) wn k6)
      have B3 := hide (show Below wr.heap.size wr (u2.setCell ⟨wr.heap.size, 2, none⟩ (.slice (some ⟨g6, 0, none⟩) wn k6)) from ((unhide BA).trans (B2.mono hu1)).trans (WrB.below hS6 (fun i e => by rw [e]; exact Nat.le_refl _) (Nat.le_trans hu1 B2.size)))
      have O3 := hide (gd_base (own_keep ho6 KB (by decide) hS6) hu1)
      have KD := hide KC
      have z2 := (heap_at (unhide KA) 2).1
      have z2L : (u1.alloc (.cells #[] 39)).cell? ⟨wr.heap.size, 2, none⟩ = some (.slice wa wn wc) := (bL.cell (p := ⟨wr.heap.size, 2, none⟩) hsb).trans z2
      clear hw6 hg6 ho6 KB KC hS6 B2 bL OL BL z2
      clear KA BA
      go_upto_region 7 with (at_builtin; refine ky_wpApp rfl (.tmp 29) (.tmp 31) 23 rfl _ _ _ u2 rfl rfl hr6 ?_)
      clear hr6 q2 p2 z2L hsb hu1
      generalize u2.setCell ⟨wr.heap.size, 2, none⟩ (.slice (some ⟨g6, 0, none⟩) wn k6) = u3 at *
      obtain ⟨s5, u5, hs5, hr5, G5, B5, K5, E5⟩ := (unhide hG).ses (unhide B3) ⟨⟨xo, xt, ws⟩, ⟨some ⟨g6, 0, none⟩, wn, k6⟩⟩ (unhide O3) (by rw [unhide HL]; omega) hwr
      have bx := ((unhide hG).below (unhide B3)).box
      unfold vzC at bx K5
      have t3 := (heap_at bx 3).1
      have r0 := (heap_at (unhide KD) 0).1
      have r1 := (heap_at (unhide KD) 1).1
      have r2 := (heap_at (unhide KD) 2).1
      have t5 := (heap_at K5 3).1
      have p5 := (heap_at K5 3).2
      have GX := hide G5
      have BX := hide ((unhide hB).trans B5)
      have XX := hide (unhide XN ⟨⟨xo, xt, ws⟩, ⟨some ⟨g6, 0, none⟩, wn, k6⟩⟩ rfl)
      simp only at hr5
      clear G5 B5 K5 E5 bx KD B3 O3 hG hB hs5
      obtain ⟨s5a, s5n, s5c⟩ := s5
      obtain ⟨s'a, s'n, s'c⟩ := s'
      simp only at hr5 t3 t5 GX BX
      go_wp2_with (at_builtin; refine ky_wpApp rfl (.tmp 35) (.tmp 37) 25 rfl _ _ _ u5 rfl rfl hr5 ?_)
      go_roundw
      case rel => exact ⟨k + 1, _, _, by go_num, by omega, GX, XX, BX⟩
      case measure => simp [intOf]; omega
end Go.Proofs.YtfajenejngddeaaGreat

namespace Go.Proofs.YtfajenejngddeaaGreat
open Go.RowKit

end Go.Proofs.YtfajenejngddeaaGreat

namespace Go.Proofs.YtfajenejngddeaaGreat
open Go.RowKit

abbrev sv4 (w : World) (b : Nat) (v0 v1 v2 v3 : Value) : World := (((w.setCell ⟨b, 0, none⟩ v0).setCell ⟨b, 1, none⟩ v1).setCell ⟨b, 2, none⟩ v2).setCell ⟨b, 3, none⟩ v3
theorem sv4_wr (w : World) (b : Nat) (v0 v1 v2 v3 : Value) : WrB (fun i => i = b) w (sv4 w b v0 v1 v2 v3) := set4_wr w b v0 v1 v2 v3
theorem sv4_heap {w : World} {b : Nat} {u0 u1 u2 u3 : Value} {t : TypeId} (h : w.heap[b]? = some (.cells #[u0, u1, u2, u3] t (0, 0))) (v0 v1 v2 v3 : Value) : (sv4 w b v0 v1 v2 v3).heap[b]? = some (.cells #[v0, v1, v2, v3] t (0, 0)) := by
  have h1 := heap_set h 0 v0
  have h2 := heap_set h1 1 v1
  have h3 := heap_set h2 2 v2
  have h4 := heap_set h3 3 v3
  simpa using h4
theorem bel_sv4 {B b : Nat} {w u : World} (h : Below B w u) (hb : B ≤ b) (v0 v1 v2 v3 : Value) : Below B w (sv4 u b v0 v1 v2 v3) :=
  (((h.setCell (p := ⟨b, 0, none⟩) hb v0).setCell (p := ⟨b, 1, none⟩) hb v1).setCell (p := ⟨b, 2, none⟩) hb v2).setCell (p := ⟨b, 3, none⟩) hb v3
theorem VzOwn.sv {w : World} {B b : Nat} {l f s : Sl} {hs : List SeH} {d : VsD} (h : VzOwn w B l f s hs d) (hb : b < B) (v0 v1 v2 v3 : Value) : VzOwn (sv4 w b v0 v1 v2 v3) B l f s hs d := h.wr (sv4_wr w b v0 v1 v2 v3) (fun i e => by rw [e]; exact hb)
/-- What was laid besides is let alone by a write into a box that holds no version, fence or session. -/
theorem VzOwn.box {w w' : World} {B b : Nat} {l f s : Sl} {hs : List SeH} {d : VsD} {cs : Array Value} {t : TypeId} (h : VzOwn w B l f s hs d) (hk : w.heap[b]? = some (.cells cs t (0, 0))) (h1 : 39 ≠ t) (h2 : 90 ≠ t) (h3 : 93 ≠ t) (hw : WrB (fun i => i = b) w w') : VzOwn w' B l f s hs d :=
  ⟨own_keep h.vo hk h1 hw, own_keep h.fo hk h2 hw, h.so.keep hw (fun i hi e => by subst e; exact se_box h.so hk h3 h1 hi), h.ss, h.far⟩
theorem VzOwn.apart {w w' : World} {B : Nat} {l f s : Sl} {hs : List SeH} {d : VsD} (h : VzOwn w B l f s hs d) {P : Nat → Prop} (hw : WrB P w w') (h1 : ∀ i, (Value.slice l.a l.n l.c).ownBlock = some i → ¬ P i) (h2 : ∀ i, (Value.slice f.a f.n f.c).ownBlock = some i → ¬ P i) (h3 : ∀ i, NBl (.slice s.a s.n s.c) (hs.map seEl) i → ¬ P i) : VzOwn w' B l f s hs d :=
  ⟨rr_owns_wr h.vo hw h1, rr_owns_wr h.fo hw h2, h.so.keep hw h3, h.ss, h.far⟩
/-- A session laid in another's place. -/
theorem VzOwn.put {u : World} {B : Nat} {l f s : Sl} {hs : List SeH} {d : VsD} (h : VzOwn u B l f s hs d) {i : Nat} (hi : i < hs.length) (x : SeH) (ho : VOwns u B (.slice x.s0.a x.s0.n x.s0.c) x.X.ws) (hap : ∀ g, (Value.slice x.s0.a x.s0.n x.s0.c).ownBlock = some g → ¬ NBl (.slice s.a s.n s.c) (hs.map seEl) g ∧ (Value.slice l.a l.n l.c).ownBlock ≠ some g) :
    ∃ g, s.a = some ⟨g, 0, none⟩ ∧ B ≤ g ∧ (u.cell? ⟨g, i * 3, none⟩ = some (.bool hs[i].X.o) ∧ u.cell? ⟨g, i * 3 + 1, none⟩ = some (.int .i64 hs[i].X.t) ∧ u.cell? ⟨g, i * 3 + 2, none⟩ = some (.slice hs[i].s0.a hs[i].s0.n hs[i].s0.c)) ∧ (∀ j, u.frozen? ⟨g, j, none⟩ = false) ∧
      VzOwn (((u.setCell ⟨g, i * 3, none⟩ (.bool x.X.o)).setCell ⟨g, i * 3 + 1, none⟩ (.int .i64 x.X.t)).setCell ⟨g, i * 3 + 1 + 1, none⟩ (.slice x.s0.a x.s0.n x.s0.c)) B l f s (hs.set i x) ⟨d.next, d.list, d.fen, d.ses.set i x.X⟩ ∧
      WrB (fun k => k = g) u (((u.setCell ⟨g, i * 3, none⟩ (.bool x.X.o)).setCell ⟨g, i * 3 + 1, none⟩ (.int .i64 x.X.t)).setCell ⟨g, i * 3 + 1 + 1, none⟩ (.slice x.s0.a x.s0.n x.s0.c)) ∧ (∃ cur, u.heap[g]? = some (.cells cur 93 (0, 0))) := by
  have hne : Value.slice s.a s.n s.c ≠ .slice none 0 0 := fun e => by
    have h1 := h.so.row.2
    rw [e] at h1
    rcases h1 with ⟨_, h1⟩ | ⟨_, _, _, h1, _⟩
    · omega
    · cases h1
  obtain ⟨g, c, e, hB, hg, hc⟩ := owns_form h.so.row hne
  obtain ⟨sa, sn, sc⟩ := s
  injection e with e1 e2 e3
  subst e1 e2 e3
  have hki := own_kind h.so.row (i := g) rfl
  have hel : (hs.map seEl)[i]? = some (seEl hs[i]) := seEl_at hi
  have hil : i < (hs.map seEl).length := by rw [List.length_map]; exact hi
  have h1 := h.so.addAp (xs := (seEl x).sb) hel (fun y hy => by rw [List.mem_singleton.1 hy]; exact ho) (fun y hy g' hg' => by rw [List.mem_singleton.1 hy] at hg'; exact (hap g' hg').1) (by
    intro a b y z hy hz hne g' h1 h2
    match a, b, hy, hz, hne with
    | 0, 0, _, _, h => exact absurd rfl h
    | a + 1, _, hy, _, _ => cases hy
    | 0, b + 1, _, hz, _ => cases hz)
  have h2 := NOwn.store (seEl x).hd (seEl hs[i]).hd [] h1 (List.getElem?_set_self hil) rfl
  rw [List.set_set] at h2
  have hW : WrB (fun k => k = g) u (((u.setCell ⟨g, i * 3, none⟩ (.bool x.X.o)).setCell ⟨g, i * 3 + 1, none⟩ (.int .i64 x.X.t)).setCell ⟨g, i * 3 + 1 + 1, none⟩ (.slice x.s0.a x.s0.n x.s0.c)) := (set1_wr _ _ _ _).seq ((set1_wr _ _ _ _).seq (set1_wr _ _ _ _))
  have hN : SeOwn (((u.setCell ⟨g, i * 3, none⟩ (.bool x.X.o)).setCell ⟨g, i * 3 + 1, none⟩ (.int .i64 x.X.t)).setCell ⟨g, i * 3 + 1 + 1, none⟩ (.slice x.s0.a x.s0.n x.s0.c)) B (.slice (some ⟨g, 0, none⟩) hs.length sc) (hs.set i x) := by
    unfold SeOwn
    rw [List.map_set, List.length_set]
    exact h2
  refine ⟨g, rfl, hB, ⟨?_, ?_, ?_⟩, fun j => h.so.free j, ⟨rr_owns_wr h.vo hW (fun k hk e => by subst e; exact h.far k hk (.inl rfl)), rr_owns_wr h.fo hW (fun k hk e => own_other h.fo h.so.row (by decide) hk (by rw [e]; rfl)), hN, by rw [List.map_set, h.ss], fun k hk hn => ?_⟩, hW, hki⟩
  · have := h.so.cell hel (j := 0) rfl
    simpa using this
  · exact h.so.cell hel (j := 1) rfl
  · exact h.so.cell hel (j := 2) rfl
  · rcases hn with hn | ⟨k', a, y, hy, hn⟩
    · exact h.far k hk (.inl hn)
    · rw [List.map_set] at hy
      rw [sbAt_set hil] at hy
      by_cases hki' : k' = i
      · rw [if_pos hki'] at hy
        have h2 : y.v = .slice x.s0.a x.s0.n x.s0.c := by
          match a, hy with
          | 0, hy => injection hy with hy; rw [← hy]
          | a + 1, hy => cases hy
        rw [h2] at hn
        exact (hap k hn).2 hk
      · rw [if_neg hki'] at hy
        exact h.far k hk (.inr ⟨k', a, y, hy, hn⟩)
/-- One fence appended to a row of the call's own, nil or not. -/
theorem f_app1 {w : World} {B : Nat} {v : Value} {ds : List FenD} (d : FenD) (ho : FOwns w B v ds) (hz : ds.length ≤ 1000000) (hB : B ≤ w.heap.size) :
    ∃ f' : Sl, ∃ w', (Builtin.append_ #[24, 24] 24 #[v, .slice (some ⟨w.heap.size, 0, none⟩) 1 1]).run Tryz.prog (w.alloc (.cells #[.string d.f, .string d.u, .int .i64 d.t] 90)) = .ok (.slice f'.a f'.n f'.c) w' ∧ FOwns w' B (.slice f'.a f'.n f'.c) (ds ++ [d]) ∧ (w.alloc (.cells #[.string d.f, .string d.u, .int .i64 d.t] 90)).grownBy w' v.ownBlock := by
  obtain ⟨i0, hi0, hz0, hz1, hz2⟩ := info_parts Tryz.infoFence
  have hoa := World.ownsRow.alloc ho (.cells #[.string d.f, .string d.u, .int .i64 d.t] 90)
  obtain ⟨v', w', hrun, ho', hg, hnil, -⟩ := app_at (P := Tryz.prog) (w := w.alloc (.cells #[.string d.f, .string d.u, .int .i64 d.t] 90)) (B := B) 24 24 90 Tryz.underlying24 hi0 hz0 hz1 hz2 rfl (by decide) hoa ⟨w.heap.size, 0, none⟩ 1 1 (fcs [d]) (by simp [fcs]) (frow_src (frow_one w d)) (fcs_one _) (by unfold maxLen; omega) (by omega) (by simp; omega) (fun _ => by omega)
  obtain ⟨f', rfl, -⟩ := v_slice ho'
  exact ⟨f', w', hrun, by unfold FOwns; rw [List.length_append, fcs_append]; exact ho', hg⟩
end Go.Proofs.YtfajenejngddeaaGreat

namespace Go.Proofs.YtfajenejngddeaaGreat
open Go.RowKit

/-- The version at a place is the last of its key that is not later than a time. -/
def lastP (ds : List VerD) (t : Int) (i : Nat) (x : VerD) : Bool := match ds[i + 1]? with
  | none => true
  | some y => !decide (y.k = x.k) || decide (t < y.t)
def keepP (ds : List VerD) (t : Int) (i : Nat) (x : VerD) : Bool := decide (t < x.t) || (lastP ds t i x && !x.g)
/-- What is kept of the first so many. -/
def prTo (ds : List VerD) (t : Int) : Nat → List VerD
  | 0 => []
  | j + 1 => match ds[j]? with
    | none => prTo ds t j
    | some x => if keepP ds t j x = true then prTo ds t j ++ [x] else prTo ds t j
def prL (ds : List VerD) (t : Int) : List VerD := prTo ds t ds.length
theorem prTo_step {ds : List VerD} {t : Int} {j : Nat} (hj : j < ds.length) : prTo ds t (j + 1) = if keepP ds t j ds[j] = true then prTo ds t j ++ [ds[j]] else prTo ds t j := by
  rw [prTo, List.getElem?_eq_getElem hj]
theorem prTo_len (ds : List VerD) (t : Int) : ∀ j, (prTo ds t j).length ≤ j
  | 0 => Nat.le_refl _
  | j + 1 => by
    have := prTo_len ds t j
    rw [prTo]
    split
    · omega
    · split
      · rw [List.length_append, List.length_singleton]; omega
      · omega
/-- The first time at which a session may still look. -/
def leastV (d : VsD) : Int := d.ses.foldl (fun m s => if s.o = true then min m s.t else m) d.next
def prF (fs : List FenD) (m : Int) : List FenD := fs.filter fun f => decide (m < f.t)
def noVs : VsD := ⟨0, [], [], []⟩
def prC (d : VsD) (t : Int) : Int := if okVsD d = true then (if leastV d ≤ t then 8 else 0) else 1
def prV (d : VsD) (t : Int) : VsD := if okVsD d = true ∧ ¬ leastV d ≤ t then ⟨d.next, prL d.list t, prF d.fen (leastV d), d.ses⟩ else noVs
/-- What Prune leaves. -/
def PrRes (d : VsD) (t : Int) (w : World) (e : Ending) (w' : World) : Prop := ∃ l f s hs, e = .returned (.tuple #[.agg (vzC (prV d t).next l f s), .int .i64 (prC d t)]) ∧ VzOwn w' w.heap.size l f s hs (prV d t) ∧ Below w.heap.size w w'
theorem vz_zero (w : World) (B : Nat) : VzOwn w B ⟨none, 0, 0⟩ ⟨none, 0, 0⟩ ⟨none, 0, 0⟩ [] noVs := ⟨World.ownsRow_nil _ _ _ _, World.ownsRow_nil _ _ _ _, NOwn.flat (World.ownsRow_nil _ _ _ _) rfl (fun e he => by cases he) (fun e he => by cases he), rfl, fun i hi => by cases hi⟩
theorem pr_bad {d : VsD} {t : Int} {w w' : World} (h : okVsD d = false) (hb : Below w.heap.size w w') : PrRes d t w (.returned (.tuple #[.agg #[.int .i64 0, .slice none 0 0, .slice none 0 0, .slice none 0 0], .int .i64 1])) w' := by
  have hv : prV d t = noVs := by unfold prV; rw [if_neg (fun x => by rw [h] at x; exact absurd x.1 (by decide))]
  have hc : prC d t = 1 := by unfold prC; rw [if_neg (by rw [h]; decide)]
  exact ⟨⟨none, 0, 0⟩, ⟨none, 0, 0⟩, ⟨none, 0, 0⟩, [], by rw [hv, hc]; rfl, by rw [hv]; exact vz_zero _ _, hb⟩
theorem pr_state {d : VsD} {t : Int} {w w' : World} (h : okVsD d = true) (hl : leastV d ≤ t) (hb : Below w.heap.size w w') : PrRes d t w (.returned (.tuple #[.agg #[.int .i64 0, .slice none 0 0, .slice none 0 0, .slice none 0 0], .int .i64 8])) w' := by
  have hv : prV d t = noVs := by unfold prV; rw [if_neg (fun x => x.2 hl)]
  have hc : prC d t = 8 := by unfold prC; rw [if_pos h, if_pos hl]
  exact ⟨⟨none, 0, 0⟩, ⟨none, 0, 0⟩, ⟨none, 0, 0⟩, [], by rw [hv, hc]; rfl, by rw [hv]; exact vz_zero _ _, hb⟩
/-- A session as its cells. -/
def seR (h : SeH) : SesR := ⟨h.X.o, h.X.t, h.s0⟩
theorem vs_of_vz {w : World} {l f s : Sl} {hs : List SeH} {d : VsD} (h : VzIn w l f s hs d) : VsAt w l f s (hs.map seR) d := by
  refine ⟨h.vr, h.fr, ⟨by rw [List.length_map]; exact h.len.1, fun i hi => ?_⟩, ⟨by rw [List.length_map]; exact h.len.2, fun i h1 h2 => ?_⟩⟩
  · rw [List.length_map] at hi
    obtain ⟨b, off, e, _, c0, c1, c2⟩ := SeIn.cells h.sr hi
    refine ⟨b, off, e, ?_, ?_, ?_⟩
    · rw [List.getElem_map]; exact c0
    · rw [List.getElem_map]; exact c1
    · rw [List.getElem_map]; exact c2
  · rw [List.length_map] at h1
    obtain ⟨hd, he⟩ := h.at h1
    have hr := SeIn.row h.sr h1
    rw [List.getElem_map, ← he]
    exact ⟨rfl, rfl, hr⟩
/-- The least time, as far as so many sessions. -/
def leTo (d : VsD) (j : Nat) : Int := (d.ses.take j).foldl (fun m s => if s.o = true then min m s.t else m) d.next
theorem leTo_zero (d : VsD) : leTo d 0 = d.next := by simp [leTo]
theorem leTo_step (d : VsD) {j : Nat} (hj : j < d.ses.length) : leTo d (j + 1) = if d.ses[j].o = true then min (leTo d j) d.ses[j].t else leTo d j := by
  unfold leTo
  rw [takeG_snoc d.ses j hj, List.foldl_append]
  rfl
theorem leTo_all (d : VsD) : leTo d d.ses.length = leastV d := by unfold leTo leastV; rw [List.take_length]
theorem prF_step {fs : List FenD} {m : Int} {j : Nat} (hj : j < fs.length) : prF (fs.take (j + 1)) m = if m < fs[j].t then prF (fs.take j) m ++ [fs[j]] else prF (fs.take j) m := by
  unfold prF
  rw [takeG_snoc fs j hj, List.filter_append]
  by_cases h : m < fs[j].t <;> simp [h]
end Go.Proofs.YtfajenejngddeaaGreat

namespace Go.Proofs.YtfajenejngddeaaGreat
open Go.RowKit

/-- Versions that came in, read with the places of the sessions' rows. -/
structure VzR (w : World) (l f s : Sl) (hs : List SeH) (d : VsD) : Prop where
  v : VRow w l.a l.n d.list
  f : FRow w f.a f.n d.fen
  s : SeIn w (.slice s.a s.n s.c) s.n hs
  ss : hs.map (·.X) = d.ses
theorem VzR.below {w w' : World} {l f s : Sl} {hs : List SeH} {d : VsD} (h : VzR w l f s hs d) (hb : Below w.heap.size w w') : VzR w' l f s hs d := ⟨h.v.below hb, h.f.below hb, h.s.below hb, h.ss⟩
theorem sum_mem {ss : List SesD} {x : SesD} (h : x ∈ ss) : x.ws.length ≤ (ss.map (fun s => s.ws.length)).sum := by
  induction ss with
  | nil => cases h
  | cons y r ih =>
    rw [List.map_cons, List.sum_cons]
    rcases List.mem_cons.1 h with rfl | h
    · omega
    · have := ih h
      omega
/-- They are few. -/
structure VzF (l f s : Sl) (hs : List SeH) : Prop where
  l : l.n ≤ 1048576
  f : f.n ≤ 1048576
  s : s.n ≤ 1048576
  w : ∀ h ∈ hs, h.s0.n ≤ 1048576
theorem VzR.few {w : World} {l f s : Sl} {hs : List SeH} {d : VsD} (h : VzR w l f s hs d) (hd : vsN d ≤ 1048576) : VzF l f s hs := by
  have e1 := h.v.1
  have e2 := h.f.1
  have e3 : hs.length = s.n := by have := h.s.len; simpa using this
  have e4 : hs.length = d.ses.length := by rw [← h.ss, List.length_map]
  unfold vsN at hd
  refine ⟨by omega, by omega, by omega, fun x hx => ?_⟩
  obtain ⟨k, hk, rfl⟩ := List.getElem_of_mem hx
  have e5 := rowC_lenV (SeIn.sub h.s hk)
  have e6 := sum_mem (ss := d.ses) (x := hs[k].X) (by rw [← h.ss]; exact List.mem_map_of_mem hx)
  omega
theorem vzr_of {w : World} {l f s : Sl} {hs : List SeH} {d : VsD} (h : VzIn w l f s hs d) : VzR w l f s hs d := ⟨h.vr, h.fr, h.sr, h.ss⟩
theorem vsfew_of {w : World} {l f s : Sl} {hs : List SeH} {d : VsD} (h : VzIn w l f s hs d) (hd : vsN d ≤ 1048576) : VsFew l f s (hs.map seR) := by
  have e := (vzr_of h).few hd
  exact ⟨e.l, e.f, e.s, fun i hi => by rw [List.getElem_map]; exact e.w _ (List.getElem_mem _)⟩
/-- Versions that came in: their sessions as a list of records. -/
theorem vzr_in {w : World} {l f s : Sl} {rs : List SesR} {d : VsD} (h : VsAt w l f s rs d) : ∃ hs, VzR w l f s hs d := by
  have hl := h.ss.1
  have hn := h.s.1
  obtain ⟨hs, hhs⟩ : ∃ hs, hs = List.zipWith (fun (x : SesD) (r : SesR) => (⟨x, r.ws⟩ : SeH)) d.ses rs := ⟨_, rfl⟩
  have hlen : hs.length = rs.length := by rw [hhs, List.length_zipWith]; omega
  have hat : ∀ i (hi : i < hs.length) (h1 : i < d.ses.length) (h2 : i < rs.length), hs[i] = ⟨d.ses[i], rs[i].ws⟩ := fun i hi h1 h2 => by
    subst hhs
    rw [List.getElem_zipWith]
  clear hhs
  refine ⟨hs, h.v, h.f, ⟨?_, ?_, seEl_wid hs, ?_⟩, ?_⟩
  · refine ⟨s.a, s.c, rfl, fun j u hu => ?_⟩
    have hj : j < hs.length * 3 := by
      have := (List.getElem?_eq_some_iff.1 hu).1
      rw [fm_len _ (seEl_wid hs), List.length_map] at this
      exact this
    have hi : j / 3 < hs.length := by omega
    obtain ⟨b, off, e, c0, c1, c2⟩ := h.s.2 (j / 3) (by omega)
    have hx := hat (j / 3) hi (by omega) (by omega)
    have hv := h.ss.2 (j / 3) (by omega) (by omega)
    refine ⟨b, off, e, ?_⟩
    have hr : j % 3 < 3 := by omega
    have hj2 : j = j / 3 * 3 + j % 3 := by omega
    have hf := fm_at (S := 3) _ (seEl_wid hs) (j / 3) (j % 3) _ (seEl_at hi) hr
    rw [← hj2, hu, hx] at hf
    rw [hj2]
    generalize j % 3 = r at *
    match r, hr, hf with
    | 0, _, hf => injection hf with hf; rw [hf, ← hv.1]; exact c0
    | 1, _, hf => injection hf with hf; rw [hf, ← hv.2.1, ← Nat.add_assoc]; exact c1
    | 2, _, hf => injection hf with hf; rw [hf, ← Nat.add_assoc]; exact c2
  · rw [List.length_map]; omega
  · intro e he x hx
    obtain ⟨y, hy, rfl⟩ := List.mem_map.1 he
    obtain ⟨k, hk, rfl⟩ := List.getElem_of_mem hy
    have ex := hat k hk (by omega) (by omega)
    have hv := h.ss.2 k (by omega) (by omega)
    rw [ex] at hx
    unfold seEl at hx
    simp only [List.mem_cons, List.not_mem_nil, or_false] at hx
    subst hx
    exact rowC_vcs hv.2.2
  · apply List.ext_getElem
    · rw [List.length_map]; omega
    · intro i h1 h2
      rw [List.length_map] at h1
      rw [List.getElem_map, hat i h1 h2 (by omega)]
theorem wrB1 (w : World) (p : Addr) (v : Value) : WrB (fun i => i = p.block) w (w.setCell p v) := ⟨rfl, rfl, rfl, by simp [World.setCell], fun k hk h => Below.heap_setCell _ _ _ _ h⟩
set_option maxRecDepth 100000 in
set_option maxHeartbeats 4000000 in
theorem toVersZ_any (next : Int) (l f s : Sl) (hs0 : List SeH) (d : VsD) (w : World) (h : VzR w l f s hs0 d) (hf : vsN d ≤ 1048576) :
    Calls Tryz.prog 16 #[vsv next l f s] w fun e w' => ∃ l' f' s' hs', e = .returned (.agg (vzC next l' f' s')) ∧ s'.a ≠ none ∧ VzOwn w' w.heap.size l' f' s' hs' d ∧ Below w.heap.size w w' := by
  obtain ⟨la, ln, lc⟩ := l
  obtain ⟨fa, fn, fc⟩ := f
  obtain ⟨sa, sn, sc⟩ := s
  have H := hide h
  have HF := hide (h.few hf)
  clear h hf
  unfold vsv
  simp only
  have b1 : Below w.heap.size w (w.alloc (.cells #[.int .i64 next, .slice la ln lc, .slice fa fn fc, .slice sa sn sc] 52)) := (Below.refl _ _).alloc (Nat.le_refl _) _
  have h1 := heap_alloc_new w (.cells #[.int .i64 next, .slice la ln lc, .slice fa fn fc, .slice sa sn sc] 52)
  obtain ⟨W1, hW1⟩ : ∃ W1, W1 = w.alloc (.cells #[.int .i64 next, .slice la ln lc, .slice fa fn fc, .slice sa sn sc] 52) := ⟨_, rfl⟩
  have z1 : W1.heap.size = w.heap.size + 1 := by rw [hW1]; simp
  have b2 : Below (w.heap.size + 1) W1 (W1.alloc (.cells #[.int .i64 0, .slice none 0 0, .slice none 0 0, .slice none 0 0] 27)) := (Below.refl _ _).alloc (by omega) _
  have h2 : (W1.alloc (.cells #[.int .i64 0, .slice none 0 0, .slice none 0 0, .slice none 0 0] 27)).heap[w.heap.size + 1]? = some (.cells #[.int .i64 0, .slice none 0 0, .slice none 0 0, .slice none 0 0] 27 (0, 0)) := by rw [← z1]; exact heap_alloc_new _ _
  obtain ⟨W2, hW2⟩ : ∃ W2, W2 = W1.alloc (.cells #[.int .i64 0, .slice none 0 0, .slice none 0 0, .slice none 0 0] 27) := ⟨_, rfl⟩
  have z2 : W2.heap.size = w.heap.size + 1 + 1 := by rw [hW2]; simp [z1]
  have b3 : Below (w.heap.size + 1 + 1) W2 (W2.alloc (.cells #[.int .i64 next, .slice none 0 0, .slice none 0 0, .slice none 0 0] 27)) := (Below.refl _ _).alloc (by omega) _
  have h3 : (W2.alloc (.cells #[.int .i64 next, .slice none 0 0, .slice none 0 0, .slice none 0 0] 27)).heap[w.heap.size + 1 + 1]? = some (.cells #[.int .i64 next, .slice none 0 0, .slice none 0 0, .slice none 0 0] 27 (0, 0)) := by rw [← z2]; exact heap_alloc_new _ _
  rw [← hW1] at b1 h1
  rw [← hW2] at b2 h2
  have k1 := hide ((b3.block w.heap.size (by omega)).trans ((b2.block w.heap.size (by omega)).trans h1))
  have k2 := hide ((b3.block (w.heap.size + 1) (by omega)).trans h2)
  have k3 := hide h3
  have B := b1.trans ((b2.mono (by omega)).trans (b3.mono (by omega)))
  have z3 : (W2.alloc (.cells #[.int .i64 next, .slice none 0 0, .slice none 0 0, .slice none 0 0] 27)).heap.size = w.heap.size + 1 + 1 + 1 := by simp [z2]
  clear b1 b2 b3 h1 h2 h3 z1 z2
  subst hW2 hW1
  go_enter Tryz.func16, Tryz.ntmps16
  go_wp2_with fail
  generalize ((w.alloc (.cells #[.int .i64 next, .slice la ln lc, .slice fa fn fc, .slice sa sn sc] 52)).alloc (.cells #[.int .i64 0, .slice none 0 0, .slice none 0 0, .slice none 0 0] 27)).alloc (.cells #[.int .i64 next, .slice none 0 0, .slice none 0 0, .slice none 0 0] 27) = W3 at *
  refine (toVersionS_any la ln lc d.list W3 (unhide HF).l ((unhide H).below B).v).mono ?_
  rintro e w1 ⟨g1, rfl, hO, hb⟩
  have hg1 := hO.lt g1 rfl
  replace k1 := hide ((hb.block w.heap.size (by omega)).trans (unhide k1))
  replace k2 := hide ((hb.block (w.heap.size + 1) (by omega)).trans (unhide k2))
  replace k3 := hide ((hb.block (w.heap.size + 1 + 1) (by omega)).trans (unhide k3))
  replace B := B.trans (hb.mono B.size)
  have O1 := hide (rs_base hO (C := w.heap.size + 1 + 1 + 1) (by omega))
  have zz1 := hb.size
  clear hO hb
  have x1 : w1.cell? ⟨w.heap.size, 2, none⟩ = some (.slice fa fn fc) := (heap_at (unhide k1) 2).1
  have x2 : w1.cell? ⟨w.heap.size + 1 + 1, 1, none⟩ = some (.slice none 0 0) := (heap_at (unhide k3) 1).1
  have x3 := (heap_at (unhide k3) 1).2
  have hc1 := wr_cellV w1 (w.heap.size + 1 + 1) 1 (.slice (some ⟨g1, 0, none⟩) ln ln)
  have K1 := hide ((hc1 w.heap.size (by omega)).trans (unhide k1))
  have K2 := hide ((hc1 (w.heap.size + 1) (by omega)).trans (unhide k2))
  have K3 := hide (show (w1.setCell ⟨w.heap.size + 1 + 1, 1, none⟩ (.slice (some ⟨g1, 0, none⟩) ln ln)).heap[w.heap.size + 1 + 1]? = some (.cells #[.int .i64 next, .slice (some ⟨g1, 0, none⟩) ln ln, .slice none 0 0, .slice none 0 0] 27 (0, 0)) from heap_set (unhide k3) 1 (.slice (some ⟨g1, 0, none⟩) ln ln))
  replace O1 := hide (rs_set (unhide O1) (show w.heap.size + 1 + 1 < w.heap.size + 1 + 1 + 1 by omega) 1 (.slice (some ⟨g1, 0, none⟩) ln ln))
  replace B := B.setCell (p := ⟨w.heap.size + 1 + 1, 1, none⟩) (by show w.heap.size ≤ w.heap.size + 1 + 1; omega) (.slice (some ⟨g1, 0, none⟩) ln ln)
  have zs1 : (w1.setCell ⟨w.heap.size + 1 + 1, 1, none⟩ (.slice (some ⟨g1, 0, none⟩) ln ln)).heap.size = w1.heap.size := by simp [World.setCell]
  clear k1 k2 k3 hc1
  go_wp2_with fail
  generalize w1.setCell ⟨w.heap.size + 1 + 1, 1, none⟩ (.slice (some ⟨g1, 0, none⟩) ln ln) = w2 at *
  clear x1 x2 x3
  refine (toFenceS_any fa fn fc d.fen w2 (unhide HF).f ((unhide H).below B).f).mono ?_
  rintro e w3 ⟨g2, rfl, hO, hb⟩
  have hg2 := hO.lt g2 rfl
  replace K1 := hide ((hb.block w.heap.size (by omega)).trans (unhide K1))
  replace K2 := hide ((hb.block (w.heap.size + 1) (by omega)).trans (unhide K2))
  replace K3 := hide ((hb.block (w.heap.size + 1 + 1) (by omega)).trans (unhide K3))
  replace B := B.trans (hb.mono B.size)
  replace O1 := hide (rb_ownsRow_below (unhide O1) hb)
  have O2 := hide (rs_base hO (C := w.heap.size + 1 + 1 + 1) (by omega))
  have zz2 := hb.size
  clear hO hb
  have x1 : w3.cell? ⟨w.heap.size, 3, none⟩ = some (.slice sa sn sc) := (heap_at (unhide K1) 3).1
  have x2 : w3.cell? ⟨w.heap.size + 1 + 1, 2, none⟩ = some (.slice none 0 0) := (heap_at (unhide K3) 2).1
  have x3 := (heap_at (unhide K3) 2).2
  have hc1 := wr_cellV w3 (w.heap.size + 1 + 1) 2 (.slice (some ⟨g2, 0, none⟩) fn fn)
  have M2 := hide ((hc1 (w.heap.size + 1) (by omega)).trans (unhide K2))
  have M3 := hide (show (w3.setCell ⟨w.heap.size + 1 + 1, 2, none⟩ (.slice (some ⟨g2, 0, none⟩) fn fn)).heap[w.heap.size + 1 + 1]? = some (.cells #[.int .i64 next, .slice (some ⟨g1, 0, none⟩) ln ln, .slice (some ⟨g2, 0, none⟩) fn fn, .slice none 0 0] 27 (0, 0)) from heap_set (unhide K3) 2 (.slice (some ⟨g2, 0, none⟩) fn fn))
  replace O1 := hide (rs_set (unhide O1) (show w.heap.size + 1 + 1 < w.heap.size + 1 + 1 + 1 by omega) 2 (.slice (some ⟨g2, 0, none⟩) fn fn))
  replace O2 := hide (rs_set (unhide O2) (show w.heap.size + 1 + 1 < w.heap.size + 1 + 1 + 1 by omega) 2 (.slice (some ⟨g2, 0, none⟩) fn fn))
  replace B := B.setCell (p := ⟨w.heap.size + 1 + 1, 2, none⟩) (by show w.heap.size ≤ w.heap.size + 1 + 1; omega) (.slice (some ⟨g2, 0, none⟩) fn fn)
  have zs2 : (w3.setCell ⟨w.heap.size + 1 + 1, 2, none⟩ (.slice (some ⟨g2, 0, none⟩) fn fn)).heap.size = w3.heap.size := by simp [World.setCell]
  clear K1 K2 K3 hc1
  go_wp2_with fail
  generalize w3.setCell ⟨w.heap.size + 1 + 1, 2, none⟩ (.slice (some ⟨g2, 0, none⟩) fn fn) = w4 at *
  clear x1 x2 x3
  refine (toSesNS_any sa sn sc hs0 w4 (unhide HF).s ((unhide H).below B).s (unhide HF).w).mono ?_
  rintro e w5 ⟨hs', rfl, hO, hX, hb⟩
  have l2 := (hb.block (w.heap.size + 1) (by omega)).trans (unhide M2)
  have l3 := (hb.block (w.heap.size + 1 + 1) (by omega)).trans (unhide M3)
  have BB := hide (B.trans (hb.mono B.size))
  have OW := hide (show VzOwn w5 (w.heap.size + 1 + 1 + 1) ⟨some ⟨g1, 0, none⟩, ln, ln⟩ ⟨some ⟨g2, 0, none⟩, fn, fn⟩ ⟨some ⟨w4.heap.size, 0, none⟩, sn, sn⟩ hs' d from
    ⟨rb_ownsRow_below (unhide O1) hb, rb_ownsRow_below (unhide O2) hb, by
      have hl : hs'.length = sn := by have := hO.len; simpa using this
      unfold SeOwn
      rw [hl]
      exact hO.down (by omega), hX.trans (unhide H).ss, fun i hi hn => by
      have e : g1 = i := by injection hi
      have := (hO.lt i hn).1
      omega⟩)
  clear hO hX hb B O1 O2 M2 M3
  generalize w4.heap.size = g3 at *
  have t0 : w5.cell? ⟨w.heap.size + 1 + 1, 0, none⟩ = some (.int .i64 next) := (heap_at l3 0).1
  have t1 : w5.cell? ⟨w.heap.size + 1 + 1, 1, none⟩ = some (.slice (some ⟨g1, 0, none⟩) ln ln) := (heap_at l3 1).1
  have t2 : w5.cell? ⟨w.heap.size + 1 + 1, 2, none⟩ = some (.slice (some ⟨g2, 0, none⟩) fn fn) := (heap_at l3 2).1
  have t3 : w5.cell? ⟨w.heap.size + 1 + 1, 3, none⟩ = some (.slice none 0 0) := (heap_at l3 3).1
  have tf := (heap_at l3 3).2
  have u0 : w5.cell? ⟨w.heap.size + 1, 0, none⟩ = some (.int .i64 0) := (heap_at l2 0).1
  have u1 : w5.cell? ⟨w.heap.size + 1, 1, none⟩ = some (.slice none 0 0) := (heap_at l2 1).1
  have u2 : w5.cell? ⟨w.heap.size + 1, 2, none⟩ = some (.slice none 0 0) := (heap_at l2 2).1
  have u3 : w5.cell? ⟨w.heap.size + 1, 3, none⟩ = some (.slice none 0 0) := (heap_at l2 3).1
  have v0 := (heap_at l2 0).2
  have v1 := (heap_at l2 1).2
  have v2 := (heap_at l2 2).2
  have v3 := (heap_at l2 3).2
  clear l2 l3 hg1 hg2 zz1 zz2 zs1 zs2 z3 HF H
  go_wp2_with fail
  have q1 : w.heap.size + 1 < w.heap.size + 1 + 1 + 1 := by omega
  have q2 : w.heap.size + 1 + 1 < w.heap.size + 1 + 1 + 1 := by omega
  have q3 : w.heap.size ≤ w.heap.size + 1 := by omega
  have q4 : w.heap.size ≤ w.heap.size + 1 + 1 := by omega
  refine bodyPost_ret (v := .agg #[.int .i64 next, .slice (some ⟨g1, 0, none⟩) ln ln, .slice (some ⟨g2, 0, none⟩) fn fn, .slice (some ⟨g3, 0, none⟩) sn sn]) (by simp [results, Tryz.results16, go_sem, *]) rfl ⟨⟨some ⟨g1, 0, none⟩, ln, ln⟩, ⟨some ⟨g2, 0, none⟩, fn, fn⟩, ⟨some ⟨g3, 0, none⟩, sn, sn⟩, hs', rfl, (fun h => by cases h), ?_, ?_⟩
  · exact (((((((unhide OW).wr (wrB1 w5 ⟨w.heap.size + 1 + 1, 3, none⟩ _) (fun i e => by rw [e]; exact q2)).wr (wrB1 _ ⟨w.heap.size + 1, 0, none⟩ _) (fun i e => by rw [e]; exact q1)).wr (wrB1 _ ⟨w.heap.size + 1, 1, none⟩ _) (fun i e => by rw [e]; exact q1)).wr (wrB1 _ ⟨w.heap.size + 1, 2, none⟩ _) (fun i e => by rw [e]; exact q1)).wr (wrB1 _ ⟨w.heap.size + 1, 3, none⟩ _) (fun i e => by rw [e]; exact q1))).dn (by omega)
  · exact (((((unhide BB).setCell (p := ⟨w.heap.size + 1 + 1, 3, none⟩) q4 _).setCell (p := ⟨w.heap.size + 1, 0, none⟩) q3 _).setCell (p := ⟨w.heap.size + 1, 1, none⟩) q3 _).setCell (p := ⟨w.heap.size + 1, 2, none⟩) q3 _).setCell (p := ⟨w.heap.size + 1, 3, none⟩) q3 _
end Go.Proofs.YtfajenejngddeaaGreat

namespace Go.Proofs.YtfajenejngddeaaGreat
open Go.RowKit

set_option maxRecDepth 100000 in
set_option maxHeartbeats 1000000 in
theorem eqVersions_any (next : Int) (l1 f1 s1 l2 f2 s2 : Sl) (rs1 rs2 : List SesR) (d : VsD) (w : World) (h1 : VsAt w l1 f1 s1 rs1 d) (h2 : VsAt w l2 f2 s2 rs2 d) (hf : VsFew l1 f1 s1 rs1) :
    Calls Tryz.prog 17 #[vsv next l1 f1 s1, vsv next l2 f2 s2] w fun e w' => e = .returned (.bool true) ∧ Below w.heap.size w w' := by
  obtain ⟨la, ln, lc⟩ := l1
  obtain ⟨fa, fn, fc⟩ := f1
  obtain ⟨sa, sn, sc⟩ := s1
  obtain ⟨la', ln', lc'⟩ := l2
  obtain ⟨fa', fn', fc'⟩ := f2
  obtain ⟨sa', sn', sc'⟩ := s2
  obtain rfl : ln = ln' := h1.v.1.symm.trans h2.v.1
  obtain rfl : fn = fn' := h1.f.1.symm.trans h2.f.1
  obtain rfl : sn = sn' := by have e1 := h1.s.1; have e2 := h2.s.1; have e3 := h1.ss.1; have e4 := h2.ss.1; show sn = sn'; simp only at e1 e2; omega
  have H1 := hide h1
  have H2 := hide h2
  have HF := hide hf
  clear h1 h2 hf
  unfold vsv
  simp only
  have b0 : Below w.heap.size w ((w.alloc (.cells #[.int .i64 next, .slice la ln lc, .slice fa fn fc, .slice sa sn sc] 27)).alloc (.cells #[.int .i64 next, .slice la' ln lc', .slice fa' fn fc', .slice sa' sn sc'] 27)) := ((Below.refl _ _).alloc (Nat.le_refl _) _).alloc (by simp) _
  have k1 : ((w.alloc (.cells #[.int .i64 next, .slice la ln lc, .slice fa fn fc, .slice sa sn sc] 27)).alloc (.cells #[.int .i64 next, .slice la' ln lc', .slice fa' fn fc', .slice sa' sn sc'] 27)).heap[w.heap.size]? = some (.cells #[.int .i64 next, .slice la ln lc, .slice fa fn fc, .slice sa sn sc] 27 (0, 0)) :=
    (((Below.refl (w.heap.size + 1) (w.alloc (.cells #[.int .i64 next, .slice la ln lc, .slice fa fn fc, .slice sa sn sc] 27))).alloc (by simp) _).block w.heap.size (by omega)).trans (heap_alloc_new _ _)
  have k2 : ((w.alloc (.cells #[.int .i64 next, .slice la ln lc, .slice fa fn fc, .slice sa sn sc] 27)).alloc (.cells #[.int .i64 next, .slice la' ln lc', .slice fa' fn fc', .slice sa' sn sc'] 27)).heap[w.heap.size + 1]? = some (.cells #[.int .i64 next, .slice la' ln lc', .slice fa' fn fc', .slice sa' sn sc'] 27 (0, 0)) := by
    have := heap_alloc_new (w.alloc (.cells #[.int .i64 next, .slice la ln lc, .slice fa fn fc, .slice sa sn sc] 27)) (.cells #[.int .i64 next, .slice la' ln lc', .slice fa' fn fc', .slice sa' sn sc'] 27)
    simpa using this
  have K1 := hide k1
  have K2 := hide k2
  clear k1 k2
  go_enter Tryz.func17, Tryz.ntmps17
  go_wp2_with fail
  generalize (w.alloc (.cells #[.int .i64 next, .slice la ln lc, .slice fa fn fc, .slice sa sn sc] 27)).alloc (.cells #[.int .i64 next, .slice la' ln lc', .slice fa' fn fc', .slice sa' sn sc'] 27) = W at *
  refine (eqVersionS_any la la' ln lc lc' d.list W (unhide HF).l ((unhide H1).below b0).v ((unhide H2).below b0).v).mono ?_
  rintro e w1 ⟨rfl, hb⟩
  replace K1 := hide ((hb.block w.heap.size (Array.getElem?_eq_some_iff.1 (unhide K1)).1).trans (unhide K1))
  replace K2 := hide ((hb.block (w.heap.size + 1) (Array.getElem?_eq_some_iff.1 (unhide K2)).1).trans (unhide K2))
  replace b0 := b0.trans (hb.mono b0.size)
  clear hb
  have c1 : w1.cell? ⟨w.heap.size, 2, none⟩ = some (.slice fa fn fc) := (heap_at (unhide K1) 2).1
  have c2 : w1.cell? ⟨w.heap.size + 1, 2, none⟩ = some (.slice fa' fn fc') := (heap_at (unhide K2) 2).1
  go_wp2_with fail
  refine (eqFenceS_any fa fa' fn fc fc' d.fen w1 (unhide HF).f ((unhide H1).below b0).f ((unhide H2).below b0).f).mono ?_
  rintro e w2 ⟨rfl, hb⟩
  replace K1 := hide ((hb.block w.heap.size (Array.getElem?_eq_some_iff.1 (unhide K1)).1).trans (unhide K1))
  replace K2 := hide ((hb.block (w.heap.size + 1) (Array.getElem?_eq_some_iff.1 (unhide K2)).1).trans (unhide K2))
  replace b0 := b0.trans (hb.mono b0.size)
  clear hb c1 c2
  have c1 : w2.cell? ⟨w.heap.size, 3, none⟩ = some (.slice sa sn sc) := (heap_at (unhide K1) 3).1
  have c2 : w2.cell? ⟨w.heap.size + 1, 3, none⟩ = some (.slice sa' sn sc') := (heap_at (unhide K2) 3).1
  go_wp2_with fail
  refine (eqSessionS_any sa sa' sn sc sc' rs1 rs2 d.ses w2 (unhide HF).s ((unhide H1).below b0).s ((unhide H2).below b0).s ((unhide H1).below b0).ss ((unhide H2).below b0).ss (unhide HF).w).mono ?_
  rintro e w3 ⟨rfl, hb⟩
  replace b0 := b0.trans (hb.mono b0.size)
  clear hb c1 c2 K1 K2
  go_wp2_with fail
  go_ret
  exact ⟨rfl, b0⟩
end Go.Proofs.YtfajenejngddeaaGreat

namespace Go.Proofs.YtfajenejngddeaaGreat
open Go.RowKit

/-- The digits of a number ahead of a text, an m ahead of both. -/
def mt (j : Nat) (s : ByteArray) : ByteArray := if _h : j = 0 then strOfNums [109] ++ s else mt (j / 10) (strOfNums [(48 + (j : Int) % 10)] ++ s)
termination_by j
decreasing_by omega
theorem mt_zero (s : ByteArray) : mt 0 s = strOfNums [109] ++ s := by rw [mt, dif_pos rfl]
theorem mt_step {j : Nat} (s : ByteArray) (h : ¬ j = 0) : mt j s = mt (j / 10) (strOfNums [(48 + (j : Int) % 10)] ++ s) := by rw [mt, dif_neg h]
theorem digits_small {j r K : Nat} (h0 : 0 < j) (h : j * 10 ^ r ≤ K) (hK : K ≤ 9999999) : r ≤ 6 := by
  by_cases hr : r ≤ 6
  · exact hr
  · have h1 : 10 ^ 7 ≤ 10 ^ r := Nat.pow_le_pow_right (by omega) (by omega)
    have h2 : 1 * 10 ^ r ≤ j * 10 ^ r := Nat.mul_le_mul_right _ h0
    omega
theorem digits_step {j r K : Nat} (h : j * 10 ^ r ≤ K) : j / 10 * 10 ^ (r + 1) ≤ K := by
  have : j / 10 * 10 ≤ j := Nat.div_mul_le_self j 10
  have h2 : j / 10 * 10 * 10 ^ r ≤ j * 10 ^ r := Nat.mul_le_mul_right _ this
  rw [Nat.pow_succ, Nat.mul_comm (10 ^ r) 10, ← Nat.mul_assoc]
  omega
theorem conv_one {w : World} {x : Int} : (convert 22 9 (.slice (some ⟨w.heap.size, 0, none⟩) 1 1)).run Tryz.prog (w.alloc (.cells #[.int .u8 x] 5)) = .ok (.string (strOfNums [x])) (w.alloc (.cells #[.int .u8 x] 5)) :=
  run_convert_bytes_arg _ 22 5 Tryz.underlying22 Tryz.underlying5 w.heap.size 0 1 1 [x] rfl (fun i hi => by
      have : i = 0 := by simp at hi; omega
      subst this
      simp) 9 Tryz.underlying9

theorem str_size (l : List Int) : (strOfNums l).size = l.length := by
  have h := congrArg List.length (strOfNums_data l)
  simpa using h
set_option maxHeartbeats 1000000 in
theorem markText_any (K : Nat) (w : World) (h0 : 0 < K) (hK : K ≤ 9999999) :
    Calls Tryz.prog 94 #[.int .i64 K] w fun e w' => e = .returned (.string (mt K ByteArray.empty)) ∧ Below w.heap.size w w' := by
  go_enter Tryz.func94, Tryz.ntmps94
  go_wp2_with fail
  go_loopw [0, 3] (fun i o wr => ∃ (j : Nat) (s : ByteArray), j ≤ K ∧ i = .int .i64 j ∧ o = .string s ∧ s.size ≤ 8 ∧ Hid (j * 10 ^ s.size ≤ K) ∧ Hid (mt j s = mt K ByteArray.empty) ∧ Below w.heap.size w wr) (fun i _ _ => (intOf i).toNat)
  case atStart => exact ⟨K, ByteArray.empty, Nat.le_refl _, rfl, rfl, by simp, by show K * 10 ^ 0 ≤ K; omega, rfl, Below.refl _ _⟩
  case round =>
    obtain ⟨j, s, hj, rfl, rfl, hs, hd, hm, hb⟩ := hrel
    by_cases hp : 0 < j
    · have hsz := hb.size
      have h6 := digits_small hp (unhide hd) hK
      have D := hide (digits_step (unhide hd))
      have M := hide ((mt_step s (by omega)).symm.trans (unhide hm))
      have hc := fun x => conv_one (w := wr) (x := x)
      have hz1 : (strOfNums [(48 + (j : Int) % 10)]).size = 1 := str_size _
      have hz2 : (strOfNums [(48 + (j : Int) % 10)] ++ s).size = s.size + 1 := by rw [ByteArray.size_append, hz1]; omega
      go_wp2_with fail
      go_roundw
      case rel => exact ⟨j / 10, _, by omega, by go_num, rfl, by omega, by rw [hz2]; exact unhide D, unhide M, hb.alloc hsz _⟩
      case measure => simp [intOf]; omega
    · obtain rfl : j = 0 := by omega
      have M := hide ((mt_zero s).symm.trans (unhide hm))
      go_wp2_with fail
      go_ret
      exact ⟨by rw [← unhide M]; rfl, hb⟩

theorem markText_at (K : Nat) (x : Int) (w : World) (hx : x = K) (h0 : 0 < K) (hK : K ≤ 9999999) :
    Calls Tryz.prog 94 #[.int .i64 x] w fun e w' => e = .returned (.string (mt K ByteArray.empty)) ∧ Below w.heap.size w w' := by
  subst hx; exact markText_any K w h0 hK

end Go.Proofs.YtfajenejngddeaaGreat

namespace Go.Proofs.YtfajenejngddeaaGreat
open Go.RowKit

def markV (k0 i : Nat) : VerD := ⟨mt (k0 + 4 * i) ByteArray.empty, ((k0 + 4 * i + 1 : Nat) : Int), mt (k0 + 4 * i + 2) ByteArray.empty, decide ((k0 + 4 * i + 3) % 3 = 0)⟩
def markVs (k0 n : Nat) : List VerD := (List.range n).map (markV k0)
theorem markVs_len (k0 n : Nat) : (markVs k0 n).length = n := by simp [markVs]
set_option maxRecDepth 100000 in
set_option maxHeartbeats 4000000 in
theorem markVersionS_some (B g n c k0 : Nat) (ds : List VerD) (w : World) (hp : 0 < k0) (hn : 4 * n + k0 ≤ 9999990) (h1 : VOwns w B (.slice (some ⟨g, 0, none⟩) n c) ds) :
    Calls Tryz.prog 49 #[.slice (some ⟨g, 0, none⟩) n c, .int .i64 k0] w fun e w' => e = .returned (.int .i64 (k0 + 4 * n)) ∧ VOwns w' B (.slice (some ⟨g, 0, none⟩) n c) (markVs k0 n) ∧ w.grownBy w' (some g) := by
  have L := hide (vrow_of_owns h1).1
  have H := hide h1
  clear h1
  go_enter Tryz.func49, Tryz.ntmps49
  go_wp2_with fail
  go_loopw [1, 5] (fun q i wr => ∃ k : Nat, k ≤ n ∧ i = .int .i64 k ∧ q = .int .i64 (k0 + 4 * k) ∧ Hid (VOwns wr B (.slice (some ⟨g, 0, none⟩) n c) (markVs k0 k ++ ds.drop k)) ∧ Hid (w.grownBy wr (some g))) (fun _ i _ => n - (intOf i).toNat)
  case atStart => exact ⟨0, Nat.zero_le _, rfl, by simp, unhide H, rb_grownBy_below (Below.refl _ _)⟩
  case round =>
    clear H
    obtain ⟨k, hk, rfl, rfl, hB, hw⟩ := hrel
    by_cases hlt : k < n
    · have hke : k < ds.length := by have := unhide L; omega
      have hlx : k < (markVs k0 k ++ ds.drop k).length := by rw [List.length_append, markVs_len, List.length_drop]; omega
      have SM := hide (show (markVs k0 k ++ ds.drop k).set k (markV k0 k) = markVs k0 (k + 1) ++ ds.drop (k + 1) from rb_set_mark (markV k0) ds k hke)
      have HXN := hide (vrow_of_owns (unhide hB)).1
      have O0 := hide (show wr.ownsRow B 39 4 (.slice (some ⟨g, 0, none⟩) n c) n (vcs (markVs k0 k ++ ds.drop k)) by have := unhide hB; unfold VOwns at this; rwa [unhide HXN] at this)
      generalize markVs k0 k ++ ds.drop k = xs at *
      have G0 := hw
      clear hB hw
      go_wp2_with fail
      refine (markText_at (k0 + 4 * k) _ wr (by omega) (by omega) (by omega)).mono ?_
      rintro e w10 ⟨rfl, hb0⟩
      replace O0 := hide (rb_ownsRow_below (unhide O0) hb0)
      replace G0 := hide (rb_grown_trans (unhide G0) (rb_grownBy_below hb0))
      clear hb0
      generalize hm0 : mt (k0 + 4 * k) ByteArray.empty = t0 at *
      obtain ⟨u0, e0⟩ := rb_ownsRow_some (unhide O0) (j := k * 4) (by omega)
      have f0 := (unhide O0).frozenAt (k * 4)
      obtain ⟨o0, g0⟩ := World.ownsRow.stored (unhide O0) (k * 4) (.string t0)
      have O1 := hide o0
      have G1 := hide (rb_grown_trans (unhide G0) g0)
      clear o0 g0 O0 G0
      obtain ⟨u1, e1⟩ := rb_ownsRow_some (unhide O1) (j := k * 4 + 1) (by omega)
      have f1 := (unhide O1).frozenAt (k * 4 + 1)
      obtain ⟨o1, g1⟩ := World.ownsRow.stored (unhide O1) (k * 4 + 1) (.int .i64 (k0 + 4 * k + 1))
      have O2 := hide o1
      have G2 := hide (rb_grown_trans (unhide G1) g1)
      clear o1 g1 O1 G1
      go_wp2_with fail
      generalize w10.setCell ⟨g, k * 4, none⟩ (.string t0) = w100 at *
      generalize w100.setCell ⟨g, k * 4 + 1, none⟩ (.int .i64 (k0 + 4 * k + 1)) = w101 at *
      clear e0 f0
      clear e1 f1
      refine (markText_at (k0 + 4 * k + 2) _ w101 (by omega) (by omega) (by omega)).mono ?_
      rintro e w12 ⟨rfl, hb2⟩
      replace O2 := hide (rb_ownsRow_below (unhide O2) hb2)
      replace G2 := hide (rb_grown_trans (unhide G2) (rb_grownBy_below hb2))
      clear hb2
      generalize hm2 : mt (k0 + 4 * k + 2) ByteArray.empty = t2 at *
      obtain ⟨u2, e2⟩ := rb_ownsRow_some (unhide O2) (j := k * 4 + 2) (by omega)
      have f2 := (unhide O2).frozenAt (k * 4 + 2)
      obtain ⟨o2, g2⟩ := World.ownsRow.stored (unhide O2) (k * 4 + 2) (.string t2)
      have O3 := hide o2
      have G3 := hide (rb_grown_trans (unhide G2) g2)
      clear o2 g2 O2 G2
      obtain ⟨u3, e3⟩ := rb_ownsRow_some (unhide O3) (j := k * 4 + 3) (by omega)
      have f3 := (unhide O3).frozenAt (k * 4 + 3)
      obtain ⟨o3, g3⟩ := World.ownsRow.stored (unhide O3) (k * 4 + 3) (.bool (decide (((k0 : Int) + 4 * k + 1 + 1 + 1) % 3 = 0)))
      have O4 := hide o3
      have G4 := hide (rb_grown_trans (unhide G3) g3)
      clear o3 g3 O3 G3
      have O9 := hide (show VOwns ((w12.setCell ⟨g, k * 4 + 2, none⟩ (.string t2)).setCell ⟨g, k * 4 + 3, none⟩ (.bool (decide (((k0 : Int) + 4 * k + 1 + 1 + 1) % 3 = 0)))) B (.slice (some ⟨g, 0, none⟩) n c) (markVs k0 (k + 1) ++ ds.drop (k + 1)) by
        rw [← unhide SM]
        unfold VOwns
        rw [vcs_set, List.length_set, unhide HXN]
        have := unhide O4
        have he1 : ((k0 + 4 * k + 1 : Nat) : Int) = (k0 : Int) + 4 * k + 1 := by omega
        have he3 : decide ((k0 + 4 * k + 3) % 3 = 0) = decide (((k0 : Int) + 4 * k + 1 + 1 + 1) % 3 = 0) := by rw [decide_eq_decide]; omega
        unfold markV
        simp only [hm0, he1, hm2, he3]
        exact this)
      clear O4
      go_wp2_with fail
      all_goals
        go_roundw
        case rel => exact ⟨k + 1, by omega, by go_num, by go_num, unhide O9, unhide G4⟩
        case measure => simp [intOf]; omega
    · obtain rfl : k = n := by omega
      have P := hide (show VOwns wr B (.slice (some ⟨g, 0, none⟩) k c) (markVs k0 k) by
        have := unhide hB
        rw [List.drop_of_length_le (by rw [unhide L]; exact Nat.le_refl _), List.append_nil] at this
        exact this)
      go_wp2_with fail
      go_ret
      exact ⟨rfl, unhide P, unhide hw⟩
theorem markVersionS_none (a : Option Addr) (c : Nat) (k0 : Int) (w : World) :
    Calls Tryz.prog 49 #[.slice a 0 c, .int .i64 k0] w fun e w' => e = .returned (.int .i64 k0) ∧ w' = w := by
  go_enter Tryz.func49, Tryz.ntmps49
  go_wp2_with fail
  refine wp_loop_rounds 1 ?_
  rw [rounds_succ]
  go_wp2_with fail
  go_ret
  exact ⟨rfl, rfl⟩
theorem markVersionS_any (B : Nat) (a : Option Addr) (n c k0 : Nat) (ds : List VerD) (w : World) (hp : 0 < k0) (hn : 4 * n + k0 ≤ 9999990) (h1 : VOwns w B (.slice a n c) ds) :
    Calls Tryz.prog 49 #[.slice a n c, .int .i64 k0] w fun e w' => e = .returned (.int .i64 ((k0 + 4 * n : Nat) : Int)) ∧ VOwns w' B (.slice a n c) (markVs k0 n) ∧ w.grownBy w' (Value.slice a n c).ownBlock := by
  rcases h1.2 with ⟨e, hl⟩ | ⟨g, cap, cur, e, _⟩
  · injection e with e1 e2 e3
    subst e1 e2 e3
    refine (markVersionS_none none 0 k0 w).mono ?_
    rintro e w' ⟨rfl, rfl⟩
    exact ⟨by simp, World.ownsRow_nil _ _ _ _, rb_grownBy_below (Below.refl _ _)⟩
  · injection e with e1 e2 e3
    subst e1 e2 e3
    refine (markVersionS_some B g _ _ k0 ds w hp hn h1).mono ?_
    rintro e w' ⟨rfl, h2, h3⟩
    exact ⟨by simp, h2, h3⟩
end Go.Proofs.YtfajenejngddeaaGreat

namespace Go.Proofs.YtfajenejngddeaaGreat
open Go.RowKit

abbrev verMk (k n : Nat) : List VerD := markVs k n
theorem verMk_len (k n : Nat) : (verMk k n).length = n := markVs_len k n
theorem markVersionS_own (B : Nat) (a : Option Addr) (n c k0 : Nat) (d : List VerD) (w : World) (hn : 0 < k0 ∧ 4 * n + k0 ≤ 9999990) (hd : d.length = n) (h1 : w.ownsRow B 39 4 (.slice a n c) n (vcs d)) :
    Calls Tryz.prog 49 #[.slice a n c, .int .i64 (k0 : Int)] w fun e w' => e = .returned (.int .i64 ((k0 + 4 * n : Nat) : Int)) ∧ w'.ownsRow B 39 4 (.slice a n c) n (vcs (verMk k0 n)) ∧ WrB (fun i => (Value.slice a n c).ownBlock = some i) w w' := by
  subst hd
  refine (markVersionS_any B a _ c k0 d w hn.1 hn.2 h1).mono ?_
  rintro e w' ⟨rfl, h2, h3⟩
  refine ⟨rfl, ?_, WrB.of_grown h3⟩
  have h := h2
  unfold VOwns at h
  rwa [markVs_len] at h
end Go.Proofs.YtfajenejngddeaaGreat

namespace Go.Proofs.YtfajenejngddeaaGreat
open Go.RowKit

def seMkX (k : Nat) (X : SesD) : SesD := ⟨decide (((k : Int)) % 3 = 0), (k : Int) + 1, verMk (k + 2) (X.ws.length)⟩
def seMk (k : Nat) (h : SeH) : SeH := ⟨seMkX k h.X, h.s0⟩
def seCnt (h : SeH) : Nat := 2 + 4 * h.X.ws.length
theorem seown_n {w : World} {B t s n m : Nat} {a : Option Addr} {c : Nat} {cs : List Value} (h : w.ownsRow B t s (.slice a n c) m cs) : n = m := by
  rcases h.2 with ⟨e, rfl⟩ | ⟨g, cap, cur, e, _⟩
  · injection e
  · injection e
set_option maxRecDepth 100000 in
set_option maxHeartbeats 4000000 in
theorem markSessionS_some (B g n c k0 : Nat) (hs : List SeH) (w : World) (_hp : 0 < k0) (hk0 : kG seCnt k0 hs ≤ 9999990) (h1 : NOwn w B 93 3 (.slice (some ⟨g, 0, none⟩) n c) n (hs.map seEl)) :
    Calls Tryz.prog 51 #[.slice (some ⟨g, 0, none⟩) n c, .int .i64 (k0 : Int)] w fun e w' => e = .returned (.int .i64 ((kG seCnt k0 hs : Nat) : Int)) ∧ NOwn w' B 93 3 (.slice (some ⟨g, 0, none⟩) n c) n ((mkG seCnt seMk k0 hs).map seEl) ∧ WrB (NBl (.slice (some ⟨g, 0, none⟩) n c) (hs.map seEl)) w w' := by
  have L := hide (show hs.length = n by have := h1.len; simpa using this)
  have H := hide h1
  have KT := hide (fun j => Nat.le_trans (kG_take seCnt k0 hs j) hk0)
  have KM := hide (fun j => kG_mono seCnt k0 (hs.take j))
  have hnb : n ≤ maxLen := by
    rcases h1.row.2 with ⟨e, _⟩ | ⟨_, cap, _, e, _, _, h1, h2, _⟩
    · cases e
    · omega
  unfold maxLen at hnb
  clear h1
  go_enter Tryz.func51, Tryz.ntmps51
  go_wp2_with fail
  go_loopw [1, 5] (fun q i wr => ∃ j : Nat, j ≤ n ∧ i = .int .i64 j ∧ q = .int .i64 ((kG seCnt k0 (hs.take j) : Nat) : Int) ∧ Hid (NOwn wr B 93 3 (.slice (some ⟨g, 0, none⟩) n c) n ((haG seCnt seMk k0 hs j).map seEl)) ∧ Hid (WrB (NBl (.slice (some ⟨g, 0, none⟩) n c) (hs.map seEl)) w wr)) (fun _ i _ => n - (intOf i).toNat)
  case atStart => exact ⟨0, Nat.zero_le _, rfl, by simp [kG], unhide H, WrB.same _ _⟩
  case round =>
    clear H
    obtain ⟨j, hj, rfl, rfl, hI, hw⟩ := hrel
    by_cases hlt : j < n
    · have hjl : j < hs.length := by rw [unhide L]; exact hlt
      have hkb := unhide KT (j + 1)
      rw [rb_take_snoc hs j hjl, kG_snoc] at hkb
      have hkm := unhide KM j
      have HKK := hide (show kG seCnt k0 (hs.take (j + 1)) = kG seCnt k0 (hs.take j) + seCnt hs[j] by rw [rb_take_snoc hs j hjl, kG_snoc])
      have hjh : j < ((haG seCnt seMk k0 hs j).map seEl).length := by rw [List.length_map, haG_len _ _ _ _ _ (by omega)]; exact hjl
      have EJ := hide (show ((haG seCnt seMk k0 hs j).map seEl)[j]? = some (seEl hs[j]) by rw [List.getElem?_map, haG_at seCnt seMk hjl]; rfl)
      have FIN := hide (show (haG seCnt seMk k0 hs (j + 1)).map seEl = ((haG seCnt seMk k0 hs j).map seEl).set j (seEl (seMk (kG seCnt k0 (hs.take j)) hs[j])) by rw [haG_step seCnt seMk hjl, List.map_set])
      have BL := hide (show ∀ i a y, (seEl hs[j]).sb[a]? = some y → y.v.ownBlock = some i → NBl (.slice (some ⟨g, 0, none⟩) n c) (hs.map seEl) i from fun i a y hy hi => .inr ⟨j, a, y, by unfold sbAt; rw [seEl_at hjl]; exact hy, hi⟩)
      obtain ⟨EE, hEE⟩ : ∃ E, E = seEl (seMk (kG seCnt k0 (hs.take j)) hs[j]) := ⟨_, rfl⟩
      obtain ⟨CC, hCC⟩ : ∃ C, C = seCnt hs[j] := ⟨_, rfl⟩
      rw [← hEE] at FIN
      rw [← hCC] at hkb HKK
      generalize hES : (haG seCnt seMk k0 hs j).map seEl = es at *
      clear hES
      generalize kG seCnt k0 (hs.take j) = K at *
      generalize hs[j] = pd at *
      obtain ⟨X, ⟨a0, n0, c0⟩⟩ := pd
      unfold seEl seMk seMkX at hEE
      unfold seCnt at hCC
      have EJ' := hide (show es[j]? = some ⟨[.bool X.o, .int .i64 X.t, .slice a0 n0 c0], [⟨39, 4, X.ws.length, .slice a0 n0 c0, vcs X.ws⟩]⟩ from unhide EJ)
      have BL' := hide (show ∀ (i a : Nat) (y : Sb), ([⟨39, 4, X.ws.length, .slice a0 n0 c0, vcs X.ws⟩] : List Sb)[a]? = some y → y.v.ownBlock = some i → NBl (.slice (some ⟨g, 0, none⟩) n c) (hs.map seEl) i from unhide BL)
      clear EJ BL
      have EJ := EJ'
      have BL := BL'
      clear EJ' BL'
      simp only at hEE hCC
      obtain ⟨bk, hbk⟩ : ∃ b, b = decide ((K : Int) % 3 = 0) := ⟨_, rfl⟩
      have bq : ((K : Int) % 3 == 0) = bk := by rw [hbk]; rfl
      rw [← hbk] at hEE
      clear hbk
      obtain rfl : n0 = X.ws.length := seown_n ((unhide hI).dat j 0 _ (by unfold sbAt; rw [unhide EJ]; rfl))
      have O0 := hide (show NOwn wr B 93 3 (.slice (some ⟨g, 0, none⟩) n c) n (es.set j ⟨[.bool X.o, .int .i64 X.t, .slice a0 (X.ws.length) c0], [⟨39, 4, X.ws.length, .slice a0 (X.ws.length) c0, vcs X.ws⟩]⟩) from by
        obtain ⟨hl, he⟩ := List.getElem?_eq_some_iff.1 (unhide EJ)
        rw [← he, List.set_getElem_self]
        exact unhide hI)
      generalize hn0 : X.ws.length = n0 at *
      have HN0 := hide hn0
      clear hn0
      generalize X.ws = D0 at *
      generalize X.o = x0 at *
      generalize X.t = x1 at *
      have HEE := hide hEE
      have HCC := hide hCC
      rw [hCC] at hkb
      clear hEE hCC
      have G0 := hw
      clear hI hw EJ
      have e0 : wr.cell? ⟨g, j * 3, none⟩ = some (.bool x0) := (unhide O0).cell (i := j) (j := 0) (List.getElem?_set_self hjh) rfl
      have f0 := (unhide O0).free (j * 3)
      have P0 := (unhide O0).setHd (i := j) (j := 0) (List.getElem?_set_self hjh) (by decide) (.bool bk)
      rw [List.set_set] at P0
      have O1 := hide (show NOwn (wr.setCell ⟨g, j * 3, none⟩ (.bool bk)) B 93 3 (.slice (some ⟨g, 0, none⟩) n c) n (es.set j ⟨[.bool bk, .int .i64 x1, .slice a0 n0 c0], [⟨39, 4, n0, .slice a0 n0 c0, vcs D0⟩]⟩) from P0.1)
      replace G0 := hide ((unhide G0).seq (show WrB _ wr (wr.setCell ⟨g, j * 3, none⟩ (.bool bk)) from P0.2.weak (fun i hi => .inl (by rw [hi]; rfl))))
      clear P0 O0
      have e1 : (wr.setCell ⟨g, j * 3, none⟩ (.bool bk)).cell? ⟨g, j * 3 + 1, none⟩ = some (.int .i64 x1) := (unhide O1).cell (i := j) (j := 1) (List.getElem?_set_self hjh) rfl
      have f1 := (unhide O1).free (j * 3 + 1)
      have P1 := (unhide O1).setHd (i := j) (j := 1) (List.getElem?_set_self hjh) (by decide) (.int .i64 ((K : Int) + 1))
      rw [List.set_set] at P1
      have O2 := hide (show NOwn ((wr.setCell ⟨g, j * 3, none⟩ (.bool bk)).setCell ⟨g, j * 3 + 1, none⟩ (.int .i64 ((K : Int) + 1))) B 93 3 (.slice (some ⟨g, 0, none⟩) n c) n (es.set j ⟨[.bool bk, .int .i64 ((K : Int) + 1), .slice a0 n0 c0], [⟨39, 4, n0, .slice a0 n0 c0, vcs D0⟩]⟩) from P1.1)
      replace G0 := hide ((unhide G0).seq (show WrB _ (wr.setCell ⟨g, j * 3, none⟩ (.bool bk)) ((wr.setCell ⟨g, j * 3, none⟩ (.bool bk)).setCell ⟨g, j * 3 + 1, none⟩ (.int .i64 ((K : Int) + 1))) from P1.2.weak (fun i hi => .inl (by rw [hi]; rfl))))
      clear P1 O1
      have HM := hide (show NOwn ((wr.setCell ⟨g, j * 3, none⟩ (.bool bk)).setCell ⟨g, j * 3 + 1, none⟩ (.int .i64 ((K : Int) + 1))) B 93 3 (.slice (some ⟨g, 0, none⟩) n c) n (es.set j ⟨[.bool bk, .int .i64 ((K : Int) + 1), .slice a0 n0 c0], [⟨39, 4, n0, .slice a0 n0 c0, vcs D0⟩]⟩) from unhide O2)
      clear O2
      have y0 : ((wr.setCell ⟨g, j * 3, none⟩ (.bool bk)).setCell ⟨g, j * 3 + 1, none⟩ (.int .i64 ((K : Int) + 1))).cell? ⟨g, j * 3 + 2, none⟩ = some (.slice a0 n0 c0) := (unhide HM).cell (i := j) (j := 2) (List.getElem?_set_self hjh) rfl
      have C0 := hide (markVersionS_own B a0 n0 c0 (K + 2) D0 ((wr.setCell ⟨g, j * 3, none⟩ (.bool bk)).setCell ⟨g, j * 3 + 1, none⟩ (.int .i64 ((K : Int) + 1))) (by omega) (unhide HN0) ((unhide HM).dat j 0 _ (by unfold sbAt; rw [List.getElem?_set_self hjh]; rfl)))
      rw [show ((K + 2 : Nat) : Int) = (K : Int) + 1 + 1 by omega] at C0
      go_wp2_with fail
      generalize ((wr.setCell ⟨g, j * 3, none⟩ (.bool bk)).setCell ⟨g, j * 3 + 1, none⟩ (.int .i64 ((K : Int) + 1))) = u1 at *
      clear e0 f0
      clear e1 f1
      clear y0
      refine (unhide C0).mono ?_
      rintro e v0 ⟨rfl, ho, hw2⟩
      have Q := (unhide HM).setSb (i := j) (a := 0) (List.getElem?_set_self hjh) rfl (x' := ⟨39, 4, n0, .slice a0 n0 c0, vcs (verMk (K + 2) n0)⟩) rfl ho hw2
      rw [List.set_set] at Q
      replace HM := hide (show NOwn v0 B 93 3 (.slice (some ⟨g, 0, none⟩) n c) n (es.set j ⟨[.bool bk, .int .i64 ((K : Int) + 1), .slice a0 n0 c0], [⟨39, 4, n0, .slice a0 n0 c0, vcs (verMk (K + 2) n0)⟩]⟩) from Q)
      replace G0 := hide ((unhide G0).seq (hw2.weak (fun i hi => unhide BL i 0 _ rfl hi)))
      clear Q ho hw2 C0
      have R := hide (show NOwn v0 B 93 3 (.slice (some ⟨g, 0, none⟩) n c) n ((haG seCnt seMk k0 hs (j + 1)).map seEl) from by
        rw [unhide FIN, unhide HEE]
        have h := unhide HM
        simp only [verMk_len]
        exact h)
      have KE := hide (show ((K + 2 + 4 * n0 : Nat) : Int) = ((kG seCnt k0 (hs.take (j + 1)) : Nat) : Int) by rw [unhide HKK, unhide HCC];  omega)
      clear HM FIN BL HKK HEE HCC
      go_wp2_with fail
      go_roundw
      case rel => exact ⟨j + 1, by omega, by go_num, by rw [← unhide KE]; go_num, unhide R, unhide G0⟩
      case measure => simp [intOf]; omega
    · obtain rfl : j = n := by omega
      have Z := hide (show NOwn wr B 93 3 (.slice (some ⟨g, 0, none⟩) j c) j ((mkG seCnt seMk k0 hs).map seEl) by
        have h := unhide hI
        rwa [← unhide L, haG_all, unhide L] at h)
      have ZK := hide (show kG seCnt k0 (hs.take j) = kG seCnt k0 hs by rw [List.take_of_length_le (by rw [unhide L]; exact Nat.le_refl _)])
      go_wp2_with fail
      go_ret
      exact ⟨ret_int (by rw [unhide ZK]), unhide Z, unhide hw⟩
theorem markSessionS_nil (k0 : Int) (w : World) : Calls Tryz.prog 51 #[.slice none 0 0, .int .i64 k0] w fun e w' => e = .returned (.int .i64 k0) ∧ w' = w := by
  go_enter Tryz.func51, Tryz.ntmps51
  go_wp2_with fail
  refine wp_loop_rounds 1 ?_
  rw [rounds_succ]
  go_wp2_with fail
  go_ret
  exact ⟨rfl, rfl⟩
theorem markSessionS_any (B : Nat) (a : Option Addr) (n c k0 : Nat) (hs : List SeH) (w : World) (_hp : 0 < k0) (hk0 : kG seCnt k0 hs ≤ 9999990) (h1 : NOwn w B 93 3 (.slice a n c) n (hs.map seEl)) :
    Calls Tryz.prog 51 #[.slice a n c, .int .i64 (k0 : Int)] w fun e w' => e = .returned (.int .i64 ((kG seCnt k0 hs : Nat) : Int)) ∧ NOwn w' B 93 3 (.slice a n c) n ((mkG seCnt seMk k0 hs).map seEl) ∧ WrB (NBl (.slice a n c) (hs.map seEl)) w w' := by
  rcases h1.row.2 with ⟨e, hl⟩ | ⟨g, cap, cur, e, _⟩
  · injection e with e1 e2 e3
    subst e1 e2 e3
    obtain rfl : hs = [] := by have := h1.len; simpa using this
    refine (markSessionS_nil k0 w).mono ?_
    rintro e w' ⟨rfl, rfl⟩
    exact ⟨rfl, h1, WrB.same _ _⟩
  · injection e with e1 e2 e3
    subst e1
    exact markSessionS_some B g n c k0 hs w _hp hk0 h1
end Go.Proofs.YtfajenejngddeaaGreat

namespace Go.Proofs.YtfajenejngddeaaGreat
open Go.RowKit

set_option maxRecDepth 100000 in
set_option maxHeartbeats 4000000 in
theorem heldVersionS_any (a : Option Addr) (n c k0 : Nat) (w : World) (hp : 0 < k0) (hn : 4 * n + k0 ≤ 9999990) (h1 : VRow w a n (markVs k0 n)) :
    Calls Tryz.prog 52 #[.slice a n c, .int .i64 k0] w fun e w' => e = .returned (.int .i64 ((k0 + 4 * n : Nat) : Int)) ∧ Below w.heap.size w w' := by
  have H := hide h1
  clear h1
  go_enter Tryz.func52, Tryz.ntmps52
  go_wp2_with fail
  go_loopw [1, 5] (fun q i wr => ∃ k : Nat, k ≤ n ∧ i = .int .i64 k ∧ q = .int .i64 (k0 + 4 * k) ∧ Below w.heap.size w wr) (fun _ i _ => n - (intOf i).toNat)
  case atStart => exact ⟨0, Nat.zero_le _, rfl, by simp, Below.refl _ _⟩
  case round =>
    obtain ⟨k, hk, rfl, rfl, hb⟩ := hrel
    by_cases hlt : k < n
    · have hk2 : k < (markVs k0 n).length := by rw [markVs_len]; exact hlt
      have em : (markVs k0 n)[k] = markV k0 k := by simp [markVs]
      obtain ⟨b, off, rfl, d0, d1, d2, d3⟩ := ((unhide H).below hb).2 k hk2
      rw [em] at d0 d1 d2 d3
      unfold markV at d0 d1 d2 d3
      simp only at d0 d1 d2 d3
      have hsz := hb.size
      have hbw : b < wr.heap.size := cell_lt d0
      have e1 : ((k0 + 4 * k + 1 : Nat) : Int) = (k0 : Int) + 4 * k + 1 := by omega
      have e3 : decide ((k0 + 4 * k + 3) % 3 = 0) = decide (((k0 : Int) + 4 * k + 1 + 1 + 1) % 3 = 0) := by rw [decide_eq_decide]; omega
      rw [e1] at d1
      rw [e3] at d3
      have D1 := hide (show ∀ w', Below wr.heap.size wr w' → w'.cell? ⟨b, off + k * 4 + 1, none⟩ = some (.int .i64 ((k0 : Int) + 4 * k + 1)) ∧ w'.cell? ⟨b, off + k * 4 + 2, none⟩ = some (.string (mt (k0 + 4 * k + 2) ByteArray.empty)) ∧ w'.cell? ⟨b, off + k * 4 + 3, none⟩ = some (.bool (decide (((k0 : Int) + 4 * k + 1 + 1 + 1) % 3 = 0))) ∧ w'.cell? ⟨b, off + k * 4, none⟩ = some (.string (mt (k0 + 4 * k) ByteArray.empty)) ∧ b < w'.heap.size from fun w' hb' => ⟨(hb'.cell (p := ⟨b, off + k * 4 + 1, none⟩) hbw).trans d1, (hb'.cell (p := ⟨b, off + k * 4 + 2, none⟩) hbw).trans d2, (hb'.cell (p := ⟨b, off + k * 4 + 3, none⟩) hbw).trans d3, (hb'.cell (p := ⟨b, off + k * 4, none⟩) hbw).trans d0, by have := hb'.size; omega⟩)
      clear em d1 d2 d3 e1 e3
      go_wp2_with fail
      go_region_with (go_at_call 94; refine (markText_at (k0 + 4 * k) _ _ (by omega) (by omega) (by omega)).mono ?_; rintro e w2 ⟨rfl, hb2⟩; replace hb2 : Below wr.heap.size wr w2 := (by first | exact hb2 | exact rb_bel_of_drew hb2 | exact rb_bel_of_drewN hb2); obtain ⟨x1, x2, x3, x0, hbx⟩ := unhide D1 w2 hb2)
      all_goals
        have bA : Below w.heap.size w w2 := hb.trans (hb2.mono hsz)
        have hs2 := bA.size
        have D2 := hide (show ∀ w', Below w2.heap.size w2 w' → w'.cell? ⟨b, off + k * 4 + 2, none⟩ = some (.string (mt (k0 + 4 * k + 2) ByteArray.empty)) ∧ w'.cell? ⟨b, off + k * 4 + 3, none⟩ = some (.bool (decide (((k0 : Int) + 4 * k + 1 + 1 + 1) % 3 = 0))) from fun w' hb' => ⟨(hb'.cell (p := ⟨b, off + k * 4 + 2, none⟩) hbx).trans x2, (hb'.cell (p := ⟨b, off + k * 4 + 3, none⟩) hbx).trans x3⟩)
        clear hb hb2 d0 x0 x3 D1
        generalize mt (k0 + 4 * k) ByteArray.empty = t0 at *
        go_wp2_with fail
        go_region_with (go_at_call 94; refine (markText_at (k0 + 4 * k + 2) _ _ (by omega) (by omega) (by omega)).mono ?_; rintro e w3 ⟨rfl, hb3⟩; replace hb3 : Below w2.heap.size w2 w3 := (by first | exact hb3 | exact rb_bel_of_drew hb3 | exact rb_bel_of_drewN hb3); obtain ⟨y2, y3⟩ := unhide D2 w3 hb3)
        all_goals
          have bB : Below w.heap.size w w3 := bA.trans (hb3.mono hs2)
          clear bA hb3 D2 x1 x2
          generalize mt (k0 + 4 * k + 2) ByteArray.empty = t1 at *
          by_cases h3 : ((k0 : Int) + 4 * k + 1 + 1 + 1) % 3 = 0
          · rw [decide_eq_true h3] at y3
            go_wp2_with fail
            go_roundw
            case rel => exact ⟨k + 1, by omega, by go_num, by go_num, bB⟩
            case measure => simp [intOf]; omega
          · rw [decide_eq_false h3] at y3
            go_wp2_with fail
            go_roundw
            case rel => exact ⟨k + 1, by omega, by go_num, by go_num, bB⟩
            case measure => simp [intOf]; omega
    · obtain rfl : k = n := by omega
      go_wp2_with fail
      go_ret
      exact ⟨by simp, hb⟩
end Go.Proofs.YtfajenejngddeaaGreat

namespace Go.Proofs.YtfajenejngddeaaGreat
open Go.RowKit

def markF (k0 i : Nat) : FenD := ⟨mt (k0 + 3 * i) ByteArray.empty, mt (k0 + 3 * i + 1) ByteArray.empty, ((k0 + 3 * i + 2 : Nat) : Int)⟩
def markFs (k0 n : Nat) : List FenD := (List.range n).map (markF k0)
theorem markFs_len (k0 n : Nat) : (markFs k0 n).length = n := by simp [markFs]
set_option maxRecDepth 100000 in
set_option maxHeartbeats 4000000 in
theorem markFenceS_some (B g n c k0 : Nat) (ds : List FenD) (w : World) (hp : 0 < k0) (hn : 3 * n + k0 ≤ 9999990) (h1 : FOwns w B (.slice (some ⟨g, 0, none⟩) n c) ds) :
    Calls Tryz.prog 50 #[.slice (some ⟨g, 0, none⟩) n c, .int .i64 k0] w fun e w' => e = .returned (.int .i64 (k0 + 3 * n)) ∧ FOwns w' B (.slice (some ⟨g, 0, none⟩) n c) (markFs k0 n) ∧ w.grownBy w' (some g) := by
  have L := hide (frow_of_owns h1).1
  have H := hide h1
  clear h1
  go_enter Tryz.func50, Tryz.ntmps50
  go_wp2_with fail
  go_loopw [1, 5] (fun q i wr => ∃ k : Nat, k ≤ n ∧ i = .int .i64 k ∧ q = .int .i64 (k0 + 3 * k) ∧ Hid (FOwns wr B (.slice (some ⟨g, 0, none⟩) n c) (markFs k0 k ++ ds.drop k)) ∧ Hid (w.grownBy wr (some g))) (fun _ i _ => n - (intOf i).toNat)
  case atStart => exact ⟨0, Nat.zero_le _, rfl, by simp, unhide H, rb_grownBy_below (Below.refl _ _)⟩
  case round =>
    clear H
    obtain ⟨k, hk, rfl, rfl, hB, hw⟩ := hrel
    by_cases hlt : k < n
    · have hke : k < ds.length := by have := unhide L; omega
      have hlx : k < (markFs k0 k ++ ds.drop k).length := by rw [List.length_append, markFs_len, List.length_drop]; omega
      have SM := hide (show (markFs k0 k ++ ds.drop k).set k (markF k0 k) = markFs k0 (k + 1) ++ ds.drop (k + 1) from rb_set_mark (markF k0) ds k hke)
      have HXN := hide (frow_of_owns (unhide hB)).1
      have O0 := hide (show wr.ownsRow B 90 3 (.slice (some ⟨g, 0, none⟩) n c) n (fcs (markFs k0 k ++ ds.drop k)) by have := unhide hB; unfold FOwns at this; rwa [unhide HXN] at this)
      generalize markFs k0 k ++ ds.drop k = xs at *
      have G0 := hw
      clear hB hw
      go_wp2_with fail
      refine (markText_at (k0 + 3 * k) _ wr (by omega) (by omega) (by omega)).mono ?_
      rintro e w10 ⟨rfl, hb0⟩
      replace O0 := hide (rb_ownsRow_below (unhide O0) hb0)
      replace G0 := hide (rb_grown_trans (unhide G0) (rb_grownBy_below hb0))
      clear hb0
      generalize hm0 : mt (k0 + 3 * k) ByteArray.empty = t0 at *
      obtain ⟨u0, e0⟩ := rb_ownsRow_some (unhide O0) (j := k * 3) (by omega)
      have f0 := (unhide O0).frozenAt (k * 3)
      obtain ⟨o0, g0⟩ := World.ownsRow.stored (unhide O0) (k * 3) (.string t0)
      have O1 := hide o0
      have G1 := hide (rb_grown_trans (unhide G0) g0)
      clear o0 g0 O0 G0
      go_wp2_with fail
      generalize w10.setCell ⟨g, k * 3, none⟩ (.string t0) = w100 at *
      clear e0 f0
      refine (markText_at (k0 + 3 * k + 1) _ w100 (by omega) (by omega) (by omega)).mono ?_
      rintro e w11 ⟨rfl, hb1⟩
      replace O1 := hide (rb_ownsRow_below (unhide O1) hb1)
      replace G1 := hide (rb_grown_trans (unhide G1) (rb_grownBy_below hb1))
      clear hb1
      generalize hm1 : mt (k0 + 3 * k + 1) ByteArray.empty = t1 at *
      obtain ⟨u1, e1⟩ := rb_ownsRow_some (unhide O1) (j := k * 3 + 1) (by omega)
      have f1 := (unhide O1).frozenAt (k * 3 + 1)
      obtain ⟨o1, g1⟩ := World.ownsRow.stored (unhide O1) (k * 3 + 1) (.string t1)
      have O2 := hide o1
      have G2 := hide (rb_grown_trans (unhide G1) g1)
      clear o1 g1 O1 G1
      obtain ⟨u2, e2⟩ := rb_ownsRow_some (unhide O2) (j := k * 3 + 2) (by omega)
      have f2 := (unhide O2).frozenAt (k * 3 + 2)
      obtain ⟨o2, g2⟩ := World.ownsRow.stored (unhide O2) (k * 3 + 2) (.int .i64 (k0 + 3 * k + 1 + 1))
      have O3 := hide o2
      have G3 := hide (rb_grown_trans (unhide G2) g2)
      clear o2 g2 O2 G2
      have O9 := hide (show FOwns ((w11.setCell ⟨g, k * 3 + 1, none⟩ (.string t1)).setCell ⟨g, k * 3 + 2, none⟩ (.int .i64 (k0 + 3 * k + 1 + 1))) B (.slice (some ⟨g, 0, none⟩) n c) (markFs k0 (k + 1) ++ ds.drop (k + 1)) by
        rw [← unhide SM]
        unfold FOwns
        rw [fcs_set, List.length_set, unhide HXN]
        have := unhide O3
        have he2 : ((k0 + 3 * k + 2 : Nat) : Int) = (k0 : Int) + 3 * k + 1 + 1 := by omega
        unfold markF
        simp only [hm0, hm1, he2]
        exact this)
      clear O3
      go_wp2_with fail
      all_goals
        go_roundw
        case rel => exact ⟨k + 1, by omega, by go_num, by go_num, unhide O9, unhide G3⟩
        case measure => simp [intOf]; omega
    · obtain rfl : k = n := by omega
      have P := hide (show FOwns wr B (.slice (some ⟨g, 0, none⟩) k c) (markFs k0 k) by
        have := unhide hB
        rw [List.drop_of_length_le (by rw [unhide L]; exact Nat.le_refl _), List.append_nil] at this
        exact this)
      go_wp2_with fail
      go_ret
      exact ⟨rfl, unhide P, unhide hw⟩
theorem markFenceS_none (a : Option Addr) (c : Nat) (k0 : Int) (w : World) :
    Calls Tryz.prog 50 #[.slice a 0 c, .int .i64 k0] w fun e w' => e = .returned (.int .i64 k0) ∧ w' = w := by
  go_enter Tryz.func50, Tryz.ntmps50
  go_wp2_with fail
  refine wp_loop_rounds 1 ?_
  rw [rounds_succ]
  go_wp2_with fail
  go_ret
  exact ⟨rfl, rfl⟩
theorem markFenceS_any (B : Nat) (a : Option Addr) (n c k0 : Nat) (ds : List FenD) (w : World) (hp : 0 < k0) (hn : 3 * n + k0 ≤ 9999990) (h1 : FOwns w B (.slice a n c) ds) :
    Calls Tryz.prog 50 #[.slice a n c, .int .i64 k0] w fun e w' => e = .returned (.int .i64 ((k0 + 3 * n : Nat) : Int)) ∧ FOwns w' B (.slice a n c) (markFs k0 n) ∧ w.grownBy w' (Value.slice a n c).ownBlock := by
  rcases h1.2 with ⟨e, hl⟩ | ⟨g, cap, cur, e, _⟩
  · injection e with e1 e2 e3
    subst e1 e2 e3
    refine (markFenceS_none none 0 k0 w).mono ?_
    rintro e w' ⟨rfl, rfl⟩
    exact ⟨by simp, World.ownsRow_nil _ _ _ _, rb_grownBy_below (Below.refl _ _)⟩
  · injection e with e1 e2 e3
    subst e1 e2 e3
    refine (markFenceS_some B g _ _ k0 ds w hp hn h1).mono ?_
    rintro e w' ⟨rfl, h2, h3⟩
    exact ⟨by simp, h2, h3⟩
end Go.Proofs.YtfajenejngddeaaGreat

namespace Go.Proofs.YtfajenejngddeaaGreat
open Go.RowKit

set_option maxRecDepth 100000 in
set_option maxHeartbeats 4000000 in
theorem heldFenceS_any (a : Option Addr) (n c k0 : Nat) (w : World) (hp : 0 < k0) (hn : 3 * n + k0 ≤ 9999990) (h1 : FRow w a n (markFs k0 n)) :
    Calls Tryz.prog 53 #[.slice a n c, .int .i64 k0] w fun e w' => e = .returned (.int .i64 ((k0 + 3 * n : Nat) : Int)) ∧ Below w.heap.size w w' := by
  have H := hide h1
  clear h1
  go_enter Tryz.func53, Tryz.ntmps53
  go_wp2_with fail
  go_loopw [1, 5] (fun q i wr => ∃ k : Nat, k ≤ n ∧ i = .int .i64 k ∧ q = .int .i64 (k0 + 3 * k) ∧ Below w.heap.size w wr) (fun _ i _ => n - (intOf i).toNat)
  case atStart => exact ⟨0, Nat.zero_le _, rfl, by simp, Below.refl _ _⟩
  case round =>
    obtain ⟨k, hk, rfl, rfl, hb⟩ := hrel
    by_cases hlt : k < n
    · have hk2 : k < (markFs k0 n).length := by rw [markFs_len]; exact hlt
      have em : (markFs k0 n)[k] = markF k0 k := by simp [markFs]
      obtain ⟨b, off, rfl, d0, d1, d2⟩ := ((unhide H).below hb).2 k hk2
      rw [em] at d0 d1 d2
      unfold markF at d0 d1 d2
      simp only at d0 d1 d2
      have hsz := hb.size
      have hbw : b < wr.heap.size := cell_lt d0
      have e2 : ((k0 + 3 * k + 2 : Nat) : Int) = (k0 : Int) + 3 * k + 1 + 1 := by omega
      rw [e2] at d2
      have D1 := hide (show ∀ w', Below wr.heap.size wr w' → w'.cell? ⟨b, off + k * 3 + 1, none⟩ = some (.string (mt (k0 + 3 * k + 1) ByteArray.empty)) ∧ w'.cell? ⟨b, off + k * 3 + 2, none⟩ = some (.int .i64 ((k0 : Int) + 3 * k + 1 + 1)) ∧ w'.cell? ⟨b, off + k * 3, none⟩ = some (.string (mt (k0 + 3 * k) ByteArray.empty)) ∧ b < w'.heap.size from fun w' hb' => ⟨(hb'.cell (p := ⟨b, off + k * 3 + 1, none⟩) hbw).trans d1, (hb'.cell (p := ⟨b, off + k * 3 + 2, none⟩) hbw).trans d2, (hb'.cell (p := ⟨b, off + k * 3, none⟩) hbw).trans d0, by have := hb'.size; omega⟩)
      clear em d1 d2 e2
      go_wp2_with fail
      go_region_with (go_at_call 94; refine (markText_at (k0 + 3 * k) _ _ (by omega) (by omega) (by omega)).mono ?_; rintro e w2 ⟨rfl, hb2⟩; replace hb2 : Below wr.heap.size wr w2 := (by first | exact hb2 | exact rb_bel_of_drew hb2 | exact rb_bel_of_drewN hb2); obtain ⟨x1, x2, x0, hbx⟩ := unhide D1 w2 hb2)
      all_goals
        have bA : Below w.heap.size w w2 := hb.trans (hb2.mono hsz)
        have hs2 := bA.size
        have D2 := hide (show ∀ w', Below w2.heap.size w2 w' → w'.cell? ⟨b, off + k * 3 + 1, none⟩ = some (.string (mt (k0 + 3 * k + 1) ByteArray.empty)) ∧ w'.cell? ⟨b, off + k * 3 + 2, none⟩ = some (.int .i64 ((k0 : Int) + 3 * k + 1 + 1)) from fun w' hb' => ⟨(hb'.cell (p := ⟨b, off + k * 3 + 1, none⟩) hbx).trans x1, (hb'.cell (p := ⟨b, off + k * 3 + 2, none⟩) hbx).trans x2⟩)
        clear hb hb2 d0 x0 x2 D1
        generalize mt (k0 + 3 * k) ByteArray.empty = t0 at *
        go_wp2_with fail
        go_region_with (go_at_call 94; refine (markText_at (k0 + 3 * k + 1) _ _ (by omega) (by omega) (by omega)).mono ?_; rintro e w3 ⟨rfl, hb3⟩; replace hb3 : Below w2.heap.size w2 w3 := (by first | exact hb3 | exact rb_bel_of_drew hb3 | exact rb_bel_of_drewN hb3); obtain ⟨y1, y2⟩ := unhide D2 w3 hb3)
        all_goals
          have bB : Below w.heap.size w w3 := bA.trans (hb3.mono hs2)
          clear bA hb3 D2 x1
          generalize mt (k0 + 3 * k + 1) ByteArray.empty = t1 at *
          go_wp2_with fail
          go_roundw
          case rel => exact ⟨k + 1, by omega, by go_num, by go_num, bB⟩
          case measure => simp [intOf]; omega
    · obtain rfl : k = n := by omega
      go_wp2_with fail
      go_ret
      exact ⟨by simp, hb⟩
end Go.Proofs.YtfajenejngddeaaGreat

namespace Go.Proofs.YtfajenejngddeaaGreat
open Go.RowKit

abbrev seMh (k : Nat) (hs : List SeH) : List SeH := mkG seCnt seMk k hs
set_option maxRecDepth 100000 in
set_option maxHeartbeats 8000000 in
theorem heldSessionS_any (a : Option Addr) (n c k0 : Nat) (hs : List SeH) (w : World) (hp : 0 < k0) (hk0 : kG seCnt k0 hs ≤ 9999990) (h1 : SeIn w (.slice a n c) n (seMh k0 hs)) :
    Calls Tryz.prog 54 #[.slice a n c, .int .i64 (k0 : Int)] w fun e w' => e = .returned (.int .i64 ((kG seCnt k0 hs : Nat) : Int)) ∧ Below w.heap.size w w' := by
  have L := hide (show hs.length = n by have := h1.len; rw [List.length_map, mkG_len] at this; exact this)
  have H := hide h1
  have KT := hide (fun j => Nat.le_trans (kG_take seCnt k0 hs j) hk0)
  have KM := hide (fun j => kG_mono seCnt k0 (hs.take j))
  have hlen : n ≤ 9999990 := by
    have h := gd_sum_le (fun _ : SeH => 1) seCnt 0 hs (fun x _ => by show 1 ≤ seCnt x + 0; unfold seCnt; omega)
    have h2 : ∀ l : List SeH, (l.map (fun _ : SeH => 1)).sum = l.length := fun l => by
      induction l with
      | nil => rfl
      | cons x r ih => rw [List.map_cons, List.sum_cons, ih, List.length_cons, Nat.add_comm]
    have h4 := h2 hs
    have h3 := kG_sum seCnt k0 hs
    have := unhide L
    omega
  clear h1 hk0
  go_enter Tryz.func54, Tryz.ntmps54
  go_wp2_with fail
  go_loopw [1, 5] (fun q i wr => ∃ j : Nat, j ≤ n ∧ i = .int .i64 j ∧ q = .int .i64 ((kG seCnt k0 (hs.take j) : Nat) : Int) ∧ Below w.heap.size w wr) (fun _ i _ => n - (intOf i).toNat)
  case atStart => exact ⟨0, Nat.zero_le _, rfl, rfl, Below.refl _ _⟩
  case round =>
    obtain ⟨j, hj, rfl, rfl, hb⟩ := hrel
    by_cases hlt : j < n
    · have hjl : j < hs.length := by rw [unhide L]; exact hlt
      have hkb := unhide KT (j + 1)
      have hkm := unhide KM j
      have KS := hide (show kG seCnt k0 (hs.take (j + 1)) = kG seCnt k0 (hs.take j) + (2 + 4 * hs[j].X.ws.length) by rw [List.take_succ_eq_append_getElem hjl, kG_snoc]; rfl)
      rw [unhide KS] at hkb
      have hml : j < (seMh k0 hs).length := by rw [mkG_len]; exact hjl
      have em : (seMh k0 hs)[j] = seMk (kG seCnt k0 (hs.take j)) hs[j] := by
        have h := mkG_at seCnt seMk k0 hs j hjl
        rw [List.getElem?_eq_getElem hml] at h
        injection h
      have I := (unhide H).below hb
      obtain ⟨b, off, hab, hbl, c0, c1, c2⟩ := SeIn.cells I hml
      have r1 := SeIn.row I hml
      rw [em] at c0 c1 c2 r1
      have e1 : hs[j].s0.n = hs[j].X.ws.length := by
        have h := r1.1
        simp only [seMk, seMkX] at h
        rw [verMk_len] at h
        exact h.symm
      simp only [seMk, seMkX] at c0 c1 c2 r1
      rw [← e1] at r1 hkb KS
      generalize kG seCnt k0 (hs.take j) = K at *
      generalize hs[j] = x at *
      obtain ⟨X, ⟨sa, sn, sc⟩⟩ := x
      simp only at c2 r1 hkb KS e1
      subst hab
      have RV := hide r1
      have hsz := hb.size
      have HV := hide (heldVersionS_any sa sn sc (K + 2) wr (by omega) (by omega) r1)
      rw [show (((K + 2 : Nat) : Int)) = (K : Int) + 1 + 1 by omega] at HV
      clear em I r1 hml hjl e1
      by_cases h3 : (K : Int) % 3 = 0
      · rw [decide_eq_true h3] at c0
        go_wp2_with fail
        refine (unhide HV).mono ?_
        rintro e w4 ⟨rfl, hb4⟩
        have bE : Below w.heap.size w w4 := hb.trans (hb4.mono hsz)
        have hn2 : ¬ (((K + 2 + 4 * sn : Nat) : Int) < 0) := by omega
        clear hb4 HV c0 c1 c2
        go_wp2_with fail
        go_roundw
        case rel => exact ⟨j + 1, by omega, by go_num, by rw [unhide KS]; congr 2; omega, bE⟩
        case measure => simp [intOf]; omega
      · rw [decide_eq_false h3] at c0
        go_wp2_with fail
        refine (unhide HV).mono ?_
        rintro e w4 ⟨rfl, hb4⟩
        have bE : Below w.heap.size w w4 := hb.trans (hb4.mono hsz)
        have hn2 : ¬ (((K + 2 + 4 * sn : Nat) : Int) < 0) := by omega
        clear hb4 HV c0 c1 c2
        go_wp2_with fail
        go_roundw
        case rel => exact ⟨j + 1, by omega, by go_num, by rw [unhide KS]; congr 2; omega, bE⟩
        case measure => simp [intOf]; omega
    · obtain rfl : j = n := by omega
      have hE : hs.take j = hs := List.take_of_length_le (by rw [unhide L]; exact Nat.le_refl _)
      rw [hE]
      go_wp2_with fail
      go_ret
      exact ⟨rfl, hb⟩
end Go.Proofs.YtfajenejngddeaaGreat

namespace Go.Proofs.YtfajenejngddeaaGreat
open Go.RowKit Go.Maps

theorem hm_inj {a b : ByteArray} (h : a.data.toList = b.data.toList) : a = b := by
  cases a
  cases b
  simp at h
  simp [h]
/-- A slice in a map reads as itself. -/
def hmElem (v : Value) : Option (DataW Value × List MemPlace) := some (.held v, [])
/-- Block m is a map of at most N entries that has the slices f. -/
def HMap (w : World) (m N : Nat) (f : ByteArray → Value) : Prop :=
  ∃ D : DataW Value, w.ownsMap Tryz.prog 9 hmElem m N D ∧ (∀ k : ByteArray, k.size ≤ maxLen → D.atKey (.string k.data.toList) (.held (.slice none 0 0)) = .held (f k)) ∧ ∀ k : ByteArray, k.size ≤ maxLen → (has D (.string k.data.toList) = true ↔ f k ≠ .slice none 0 0)
theorem HMap.lt {w : World} {m N : Nat} {f : ByteArray → Value} (h : HMap w m N f) : m < w.heap.size := by obtain ⟨D, h, _⟩ := h; exact h.lt
theorem HMap.block {w w' : World} {m N : Nat} {f : ByteArray → Value} (h : HMap w m N f) (hb : w'.heap[m]? = w.heap[m]?) : HMap w' m N f := by
  obtain ⟨D, ⟨es, clock, h1, h2⟩, h3⟩ := h
  exact ⟨D, ⟨es, clock, hb.trans h1, h2⟩, h3⟩
theorem hmap_made (w : World) : HMap (w.alloc (.map #[] 0)) w.heap.size 0 (fun _ => .slice none 0 0) :=
  ⟨.map [], World.ownsMap_made w _ _ _, fun _ _ => rfl, fun k _ => by simp [has_eq]⟩
theorem hm_zero (w : World) : (zeroValue 23).run Tryz.prog w = .ok (.slice none 0 0) w := by kernel_rfl
theorem HMap.lookup {w : World} {m N : Nat} {f : ByteArray → Value} (h : HMap w m N f) {k : ByteArray} (hk : k.size ≤ maxLen) : (Instr.lookup 71 (.map (some m)) (.string k) false).run Tryz.prog w = .ok (f k) w := by
  obtain ⟨D, h1, h2, _⟩ := h
  obtain ⟨v, ps, hrun, hv⟩ := h1.lookup (string_keyed Tryz.underlying9) Tryz.underlying71 (hm_zero w) (zd := .held (.slice none 0 0)) (zp := []) rfl (WideMaps.keyOf_string_mk (P := Tryz.prog) Tryz.underlying9 hk)
  rw [h2 k hk] at hv
  simp [hmElem] at hv
  rw [hrun, hv.1]
theorem HMap.update {w : World} {m N : Nat} {f : ByteArray → Value} (h : HMap w m N f) {k : ByteArray} (hk : k.size ≤ maxLen) (hN : N < maxLen) (v : Value) (hv : v ≠ .slice none 0 0) :
    ∃ w', (Instr.mapUpdate 71 (.map (some m)) (.string k) v).run Tryz.prog w = .ok () w' ∧ HMap w' m (N + 1) (fun x => if x = k then v else f x) ∧ w.grownBy w' (some m) := by
  obtain ⟨D, h1, h2, h3⟩ := h
  obtain ⟨w', hrun, ho, hg⟩ := h1.update (string_keyed Tryz.underlying9) Tryz.underlying71 hN (WideMaps.keyOf_string_mk (P := Tryz.prog) Tryz.underlying9 hk) (val := v) (d := .held v) (ps := []) rfl
  refine ⟨w', hrun, ⟨_, ho, fun j hj => ?_, fun j hj => ?_⟩, hg⟩
  · show _ = DataW.held (if j = k then v else f j)
    by_cases e : j = k
    · subst e
      rw [if_pos rfl, atKey_put_same h1.isMap (show WideAt.IsKeyLit (.string j.data.toList) from trivial)]
    · rw [if_neg e, atKey_put_other (by intro h; injection h with h; exact e (hm_inj h)), h2 j hj]
  · show _ ↔ (if j = k then v else f j) ≠ _
    by_cases e : j = k
    · subst e
      rw [if_pos rfl, has_put_same h1.isMap (show WideAt.IsKeyLit (.string j.data.toList) from trivial)]
      exact ⟨fun _ => hv, fun _ => rfl⟩
    · rw [if_neg e, has_put_other (by intro h; injection h with h; exact e (hm_inj h)), h3 j hj]
/-- A history: a map whose slices the call owns from block B on, no two in one row, none in the map's own block. -/
structure HisAt (w : World) (m N B : Nat) (f : ByteArray → Value) (ds : List VerD) : Prop where
  map : HMap w m N f
  own : ∀ k, VOwns w B (f k) (grp ds k)
  far : ∀ k j, k ≠ j → ∀ g, (f k).ownBlock = some g → (f j).ownBlock ≠ some g
  mb : m < B
  no : ∀ k, grp ds k = [] → f k = .slice none 0 0
theorem HisAt.below {w w' : World} {m N B : Nat} {f : ByteArray → Value} {ds : List VerD} (h : HisAt w m N B f ds) (hb : Below w.heap.size w w') : HisAt w' m N B f ds :=
  ⟨h.map.block (hb.block m h.map.lt), fun k => vowns_below (h.own k) hb, h.far, h.mb, h.no⟩
/-- One version appended to a row of the call's own; where the row then lies. -/
theorem hm_app {w : World} {B : Nat} {v : Value} {ds : List VerD} {d : VerD} (ho : VOwns w B v ds) (hz : ds.length ≤ 1000000) (hB : B ≤ w.heap.size) :
    ∃ v' w', (Builtin.append_ #[23, 23] 23 #[v, .slice (some ⟨w.heap.size, 0, none⟩) 1 1]).run Tryz.prog (w.alloc (.cells #[.string d.k, .int .i64 d.t, .string d.v, .bool d.g] 39)) = .ok v' w' ∧ VOwns w' B v' (ds ++ [d]) ∧ (w.alloc (.cells #[.string d.k, .int .i64 d.t, .string d.v, .bool d.g] 39)).grownBy w' v.ownBlock ∧ (v'.ownBlock = v.ownBlock ∨ v'.ownBlock = some (w.heap.size + 1)) := by
  obtain ⟨i0, hi0, hz0, hz1, hz2⟩ := info_parts Tryz.infoVersion
  have hcells : ∀ j u, (vcs [d])[j]? = some u → (w.alloc (.cells #[.string d.k, .int .i64 d.t, .string d.v, .bool d.g] 39)).cell? ((⟨w.heap.size, 0, none⟩ : Addr).add j) = some u := fun j u hu => by
    have hj : j < 4 := by simpa [vcs] using (List.getElem?_eq_some_iff.1 hu).1
    have e2 : (⟨w.heap.size, 0, none⟩ : Addr).add j = ⟨w.heap.size, j, none⟩ := by unfold Addr.add; split <;> simp_all
    rw [e2]
    refine rb_cell_new rfl ?_
    match j, hj with
    | 0, _ => simpa [vcs] using hu
    | 1, _ => simpa [vcs] using hu
    | 2, _ => simpa [vcs] using hu
    | 3, _ => simpa [vcs] using hu
  have hoa := World.ownsRow.alloc ho (.cells #[.string d.k, .int .i64 d.t, .string d.v, .bool d.g] 39)
  obtain ⟨v', w', hr, ho', hg, _⟩ := run_append_own (P := Tryz.prog) (w.alloc (.cells #[.string d.k, .int .i64 d.t, .string d.v, .bool d.g] 39)) B 23 23 39 i0 _ 4 48 Tryz.underlying23 hi0 hz0 hz1 hz2 rfl (by decide) v _ _ hoa ⟨w.heap.size, 0, none⟩ 1 1 (vcs [d]) (by simp [vcs]) hcells (vcs_one _) (by unfold maxLen; omega) (by omega) (by simp; omega)
  refine ⟨v', w', hr, by unfold VOwns; rw [List.length_append, vcs_append]; exact ho', hg, ?_⟩
  have hsz : (w.alloc (.cells #[.string d.k, .int .i64 d.t, .string d.v, .bool d.g] 39)).heap.size = w.heap.size + 1 := by simp
  rcases hoa.2 with ⟨rfl, h0⟩ | ⟨g', cap', cur, rfl, hbg, hgg, hnc, hcm, hcs, htake⟩
  · have h := run_append_nil (P := Tryz.prog) (w.alloc (.cells #[.string d.k, .int .i64 d.t, .string d.v, .bool d.g] 39)) 23 23 39 i0 _ Tryz.underlying23 hi0 hz0 ⟨w.heap.size, 0, none⟩ 1 1 (vcs [d]) (by rw [hz1]; simp [vcs]) hcells (by omega) (by omega) (by rw [hz2]; omega)
    rw [hr] at h
    injection h with h _
    subst h
    exact .inr (by simp [Value.ownBlock, hsz])
  · by_cases hroom : ds.length + 1 ≤ cap'
    · have h := run_append_room (P := Tryz.prog) (w.alloc (.cells #[.string d.k, .int .i64 d.t, .string d.v, .bool d.g] 39)) 23 23 39 i0 Tryz.underlying23 hi0 g' ds.length cap' cur hgg ⟨w.heap.size, 0, none⟩ 1 1 (vcs [d]) (by rw [hz1]; simp [vcs]) hcells (vcs_one _) hroom (by rw [hz1, hcs]; simp [vcs]; omega)
      rw [hr] at h
      injection h with h _
      subst h
      exact .inl rfl
    · have h := run_append_grow (P := Tryz.prog) (w.alloc (.cells #[.string d.k, .int .i64 d.t, .string d.v, .bool d.g] 39)) 23 23 39 i0 _ Tryz.underlying23 hi0 hz0 ⟨g', 0, none⟩ ds.length cap' (vcs ds) (by rw [hz1, vcs_len]) (fun j u hu => by
          have hj : j < ds.length * 4 := by rw [← vcs_len]; exact (List.getElem?_eq_some_iff.1 hu).1
          have e2 : (⟨g', 0, none⟩ : Addr).add j = ⟨g', j, none⟩ := by unfold Addr.add; split <;> simp_all
          rw [e2, hoa.cellAt j hj, hu]) ⟨w.heap.size, 0, none⟩ 1 1 (vcs [d]) (by rw [hz1]; simp [vcs]) hcells (by omega) (by omega) (by rw [hz2]; exact growslice_fits (by omega) (by omega))
      rw [hr] at h
      injection h with h _
      subst h
      exact .inr (by simp [Value.ownBlock, hsz])
end Go.Proofs.YtfajenejngddeaaGreat
