/-
  TxF, TxG, TxH, PrA, HpL, TxK, PrG, FvA, HmA, HmB, VaA, PuA in one.
-/
import Derived.Test.YtfajenejngddeaaGreatFvAll1
import Derived.Test.YtfajenejngddeaaGreatBase
import Derived.Test.YtfajenejngddeaaGreatVrT
import Derived.Test.YtfajenejngddeaaGreatVrL
import Derived.Test.YtfajenejngddeaaGreatVaG
import Derived.Test.YtfajenejngddeaaGreatWrT
import Derived.Test.YtfajenejngddeaaGreatTakes
import Derived.Maps.OwnOps
import Derived.Maps.OwnSet
import Derived.MapKept
import Derived.Deep.Cut
import Derived.Test.YtfajenejngddeaaGreatVaL
import Derived.Maps.RangeWalk
import Derived.Sort.EncStr
namespace Go.Proofs.YtfajenejngddeaaGreat
open Go.RowKit

theorem v_slice {w : World} {B : Nat} {v : Value} {n : Nat} {t s : Nat} {cs : List Value} (h : w.ownsRow B t s v n cs) : ∃ l : Sl, v = .slice l.a l.n l.c ∧ l.n = n := by
  obtain ⟨a, c, e⟩ := us_sl h
  exact ⟨⟨a, n, c⟩, e, rfl⟩
/-- What the first statement of l06Own has made. -/
structure OvSt (W u : World) (d : VsD) (sv sf : Option (Value × Bool)) (tb : Option Nat) : Prop where
  bel : Below W.heap.size W u
  v : ∀ x b, sv = some (x, b) → x ≠ .slice none 0 0 ∧ VOwns u W.heap.size x (if b then d.list else [])
  f : ∀ x b, sf = some (x, b) → x ≠ .slice none 0 0 ∧ FOwns u W.heap.size x (if b then d.fen else [])
  t : ∀ b, tb = some b → W.heap.size ≤ b ∧ u.heap[b]? = some (.cells #[.int .i64 0, .slice none 0 0, .slice none 0 0, .slice none 0 0] 27 (0, 0))
theorem OvSt.step {W u u' : World} {d : VsD} {sv sf : Option (Value × Bool)} {tb : Option Nat} (h : OvSt W u d sv sf tb) (hb : Below u.heap.size u u') : OvSt W u' d sv sf tb :=
  ⟨h.bel.trans (hb.mono h.bel.size), fun x b e => ⟨(h.v x b e).1, rb_ownsRow_below (h.v x b e).2 hb⟩, fun x b e => ⟨(h.f x b e).1, rb_ownsRow_below (h.f x b e).2 hb⟩, fun b e => ⟨(h.t b e).1, (hb.block b (blk_lt (h.t b e).2)).trans (h.t b e).2⟩⟩
theorem OvSt.litV {W u : World} {d : VsD} {sf : Option (Value × Bool)} {tb : Option Nat} (h : OvSt W u d none sf tb) : OvSt W (u.alloc (.cells #[] 39)) d (some (.slice (some ⟨u.heap.size, 0, none⟩) 0 0, false)) sf tb := by
  have s := h.step ((Below.refl u.heap.size u).alloc (Nat.le_refl _) (.cells #[] 39))
  refine ⟨s.bel, fun v b e => ?_, s.f, s.t⟩
  injection e with e
  injection e with e1 e2
  subst e1 e2
  exact ⟨by simp, gd_base (nil_lit (w := u) 39 4) h.bel.size⟩
theorem OvSt.litF {W u : World} {d : VsD} {sv : Option (Value × Bool)} {tb : Option Nat} (h : OvSt W u d sv none tb) : OvSt W (u.alloc (.cells #[] 90)) d sv (some (.slice (some ⟨u.heap.size, 0, none⟩) 0 0, false)) tb := by
  have s := h.step ((Below.refl u.heap.size u).alloc (Nat.le_refl _) (.cells #[] 90))
  refine ⟨s.bel, s.v, fun v b e => ?_, s.t⟩
  injection e with e
  injection e with e1 e2
  subst e1 e2
  exact ⟨by simp, gd_base (nil_lit (w := u) 90 3) h.bel.size⟩
theorem OvSt.litT {W u : World} {d : VsD} {sv sf : Option (Value × Bool)} (h : OvSt W u d sv sf none) : OvSt W (u.alloc (.cells #[.int .i64 0, .slice none 0 0, .slice none 0 0, .slice none 0 0] 27)) d sv sf (some u.heap.size) := by
  have s := h.step ((Below.refl u.heap.size u).alloc (Nat.le_refl _) (.cells #[.int .i64 0, .slice none 0 0, .slice none 0 0, .slice none 0 0] 27))
  refine ⟨s.bel, s.v, s.f, fun b e => ?_⟩
  injection e with e
  subst e
  exact ⟨h.bel.size, heap_alloc_new _ _⟩
theorem OvSt.appV {W u : World} {d : VsD} {v : Value} {sf : Option (Value × Bool)} {tb : Option Nat} (h : OvSt W u d (some (v, false)) sf tb) {l : Sl} (hR : VRow W l.a l.n d.list) (hn : l.n ≤ 1000000) (hc : Cap l) :
    ∃ g k u', (Builtin.append_ #[23, 23] 23 #[v, .slice l.a l.n l.c]).run Tryz.prog u = .ok (.slice (some ⟨g, 0, none⟩) l.n k) u' ∧ OvSt W u' d (some (.slice (some ⟨g, 0, none⟩) l.n k, true)) sf tb := by
  obtain ⟨hv, ho⟩ := h.v v false rfl
  obtain ⟨g, k, u', hr, ho', hg, -⟩ := v_appS (c := l.c) 23 ho hv (hR.below h.bel) hc.2 (by simp; omega) h.bel.size
  have hw := WrB.of_grown hg
  simp only [Bool.false_eq_true, if_false, List.length_nil, Nat.zero_add, List.nil_append] at hr ho'
  refine ⟨g, k, u', hr, ⟨h.bel.trans (WrB.below hw (fun i hi => (ho.lt i hi).1) h.bel.size), fun x b e => ?_, fun x b e => ⟨(h.f x b e).1, rr_owns_wr (h.f x b e).2 hw (fun i hi => own_other (h.f x b e).2 ho (by decide) hi)⟩, fun b e => ⟨(h.t b e).1, (hw.block b (blk_lt (h.t b e).2) (own_box ho (h.t b e).2 (by decide))).trans (h.t b e).2⟩⟩⟩
  injection e with e
  injection e with e1 e2
  subst e1 e2
  exact ⟨by simp, ho'⟩
theorem OvSt.appF {W u : World} {d : VsD} {v : Value} {sv : Option (Value × Bool)} {tb : Option Nat} (h : OvSt W u d sv (some (v, false)) tb) {l : Sl} (hR : FRow W l.a l.n d.fen) (hn : l.n ≤ 1000000) (hc : Cap l) :
    ∃ g k u', (Builtin.append_ #[24, 24] 24 #[v, .slice l.a l.n l.c]).run Tryz.prog u = .ok (.slice (some ⟨g, 0, none⟩) l.n k) u' ∧ OvSt W u' d sv (some (.slice (some ⟨g, 0, none⟩) l.n k, true)) tb := by
  obtain ⟨hv, ho⟩ := h.f v false rfl
  obtain ⟨g, k, u', hr, ho', hg, -⟩ := f_appS (c := l.c) 24 ho hv (hR.below h.bel) hc.2 (by simp; omega) h.bel.size
  have hw := WrB.of_grown hg
  simp only [Bool.false_eq_true, if_false, List.length_nil, Nat.zero_add, List.nil_append] at hr ho'
  refine ⟨g, k, u', hr, ⟨h.bel.trans (WrB.below hw (fun i hi => (ho.lt i hi).1) h.bel.size), fun x b e => ⟨(h.v x b e).1, rr_owns_wr (h.v x b e).2 hw (fun i hi => own_other (h.v x b e).2 ho (by decide) hi)⟩, fun x b e => ?_, fun b e => ⟨(h.t b e).1, (hw.block b (blk_lt (h.t b e).2) (own_box ho (h.t b e).2 (by decide))).trans (h.t b e).2⟩⟩⟩
  injection e with e
  injection e with e1 e2
  subst e1 e2
  exact ⟨by simp, ho'⟩
/-- Versions under way. -/
structure VgSt (wr : World) (B tb : Nat) (next : Int) (l f s : Sl) (hs : List SeH) (ls : List VerD) (fs : List FenD) : Prop where
  vo : VOwns wr B (.slice l.a l.n l.c) ls
  fo : FOwns wr B (.slice f.a f.n f.c) fs
  so : SeOwn wr B (.slice s.a s.n s.c) hs
  far : ∀ i, (Value.slice l.a l.n l.c).ownBlock = some i → ¬ NBl (.slice s.a s.n s.c) (hs.map seEl) i
  box : wr.heap[tb]? = some (.cells (vzC next l f s) 27 (0, 0))
  tge : B ≤ tb
theorem VgSt.below {w w' : World} {B tb : Nat} {next : Int} {l f s : Sl} {hs : List SeH} {ls : List VerD} {fs : List FenD} (h : VgSt w B tb next l f s hs ls fs) (hb : Below w.heap.size w w') : VgSt w' B tb next l f s hs ls fs :=
  ⟨rb_ownsRow_below h.vo hb, rb_ownsRow_below h.fo hb, h.so.below hb, h.far, (hb.block tb (blk_lt h.box)).trans h.box, h.tge⟩
theorem ses_none {v : Value} {i : Nat} (hv : v.ownBlock = none) : ¬ NBl v ([].map seEl) i := fun h => by
  rcases h with h | ⟨k, a, x, hx, _⟩
  · rw [hv] at h; cases h
  · unfold sbAt at hx; simp at hx
/-- A row of records in memory of the call's own lies apart from a box of versions. -/
theorem se_box {w : World} {B n tb : Nat} {v : Value} {hs : List SeH} {cs : Array Value} {t : TypeId} (h : NOwn w B 93 3 v n (hs.map seEl)) (hb : w.heap[tb]? = some (.cells cs t (0, 0))) (h1 : 93 ≠ t) (h2 : 39 ≠ t) : ¬ NBl v (hs.map seEl) tb := fun hn => by
  rcases hn with hn | ⟨k, a, x, hx, hi⟩
  · exact own_box h.row hb h1 hn
  · have ht : x.t = 39 := by
      obtain ⟨e, he, hxe⟩ := sbAt_mem hx
      obtain ⟨y, _, rfl⟩ := List.mem_map.1 he
      rw [List.mem_singleton.1 hxe]
    have hd := h.dat k a x hx
    rw [ht] at hd
    exact own_box hd hb h2 hi
theorem VgSt.store {u : World} {tb : Nat} {d : VsD} {next : Int} {vl vf : Value} {W : World} (h : OvSt W u d (some (vl, true)) (some (vf, true)) (some tb)) :
    ∃ l f : Sl, vl = .slice l.a l.n l.c ∧ vf = .slice f.a f.n f.c ∧ VgSt ((((u.setCell ⟨tb, 0, none⟩ (.int .i64 next)).setCell ⟨tb, 1, none⟩ vl).setCell ⟨tb, 2, none⟩ vf).setCell ⟨tb, 3, none⟩ (.slice none 0 0)) W.heap.size tb next l f ⟨none, 0, 0⟩ [] d.list d.fen ∧ Below W.heap.size W ((((u.setCell ⟨tb, 0, none⟩ (.int .i64 next)).setCell ⟨tb, 1, none⟩ vl).setCell ⟨tb, 2, none⟩ vf).setCell ⟨tb, 3, none⟩ (.slice none 0 0)) := by
  obtain ⟨-, hv⟩ := h.v vl true rfl
  obtain ⟨-, hf⟩ := h.f vf true rfl
  obtain ⟨ht, hk⟩ := h.t tb rfl
  obtain ⟨l, rfl, -⟩ := v_slice hv
  obtain ⟨f, rfl, -⟩ := v_slice hf
  have hW : WrB (fun i => i = tb) u ((((u.setCell ⟨tb, 0, none⟩ (.int .i64 next)).setCell ⟨tb, 1, none⟩ (.slice l.a l.n l.c)).setCell ⟨tb, 2, none⟩ (.slice f.a f.n f.c)).setCell ⟨tb, 3, none⟩ (.slice none 0 0)) := (set1_wr u tb 0 _).seq ((set1_wr _ tb 1 _).seq ((set1_wr _ tb 2 _).seq (set1_wr _ tb 3 _)))
  refine ⟨l, f, rfl, rfl, ⟨own_keep hv hk (by decide) hW, own_keep hf hk (by decide) hW, NOwn.flat (World.ownsRow_nil _ _ _ _) rfl (fun e he => by cases he) (fun e he => by cases he), fun i _ => ses_none rfl, ?_, ht⟩, h.bel.trans (WrB.below hW (fun i e => by omega) h.bel.size)⟩
  have h1 := heap_set hk 0 (.int .i64 next)
  have h2 := heap_set h1 1 (.slice l.a l.n l.c)
  have h3 := heap_set h2 2 (.slice f.a f.n f.c)
  have h4 := heap_set h3 3 (.slice none 0 0)
  simpa using h4
set_option maxRecDepth 100000 in
/-- A session appended. -/
theorem VgSt.ses {wr u : World} {B tb : Nat} {next : Int} {l f s : Sl} {hs : List SeH} {ls : List VerD} {fs : List FenD} (h : VgSt wr B tb next l f s hs ls fs) (hb : Below wr.heap.size wr u) (x : SeH) (hx : VOwns u wr.heap.size (.slice x.s0.a x.s0.n x.s0.c) x.X.ws) (hz : hs.length ≤ 1000) (hB : B ≤ wr.heap.size) :
    ∃ s' : Sl, ∃ w5, s'.n = hs.length + 1 ∧ (Builtin.append_ #[25, 25] 25 #[.slice s.a s.n s.c, .slice (some ⟨u.heap.size, 0, none⟩) 1 1]).run Tryz.prog (u.alloc (.cells #[.bool x.X.o, .int .i64 x.X.t, .slice x.s0.a x.s0.n x.s0.c] 93)) = .ok (.slice s'.a s'.n s'.c) w5 ∧
      VgSt (w5.setCell ⟨tb, 3, none⟩ (.slice s'.a s'.n s'.c)) B tb next l f s' (hs ++ [x]) ls fs ∧ Below B wr (w5.setCell ⟨tb, 3, none⟩ (.slice s'.a s'.n s'.c)) ∧ w5.heap[tb]? = some (.cells (vzC next l f s) 27 (0, 0)) ∧ ∀ i, i < B → w5.heap[i]? = wr.heap[i]? := by
  have hu := h.below hb
  obtain ⟨i0, hi0, hz0, hz1, hz2⟩ := info_parts Tryz.infoSe
  have hlt : ∀ i, NBl (.slice s.a s.n s.c) (hs.map seEl) i → i < wr.heap.size := fun i hi => (h.so.lt i hi).2
  obtain ⟨v', w5, hrun, hN, hg, -⟩ := NOwn.app (e := seEl x) (C := wr.heap.size) 25 Tryz.underlying25 hi0 hz0 hz1 hz2 rfl (by decide) (by decide) hu.so rfl (by intro y hy; simp only [seEl, List.mem_cons, List.not_mem_nil, or_false] at hy; rcases hy with rfl | rfl | rfl <;> rfl) (fun y hy => by rw [List.mem_singleton.1 hy]; exact hx) hlt hB (fun a b y z hy hz' hab => by
    match a, hy, b, hz' with
    | 0, _, 0, _ => exact absurd rfl hab
    | a + 1, hy, _, _ => cases hy
    | 0, _, b + 1, hz' => cases hz') (by omega) (Nat.le_trans hB hb.size)
  obtain ⟨s', rfl, hs'⟩ := v_slice hN.row
  have bA : Below u.heap.size u (u.alloc (.cells (seEl x).hd.toArray 93)) := (Below.refl _ _).alloc (Nat.le_refl _) _
  have hA := hu.below bA
  have hw := WrB.of_grown hg
  have k5 : w5.heap[tb]? = some (.cells (vzC next l f s) 27 (0, 0)) := (hw.block tb (blk_lt hA.box) (own_box hA.so.row hA.box (by decide))).trans hA.box
  have b5 : Below B wr w5 := ((hb.trans (bA.mono hb.size)).mono hB).trans (WrB.below hw (fun i hi => (hA.so.row.lt i hi).1) (Nat.le_trans hB (hb.trans (bA.mono hb.size)).size))
  have v5 : VOwns w5 B (.slice l.a l.n l.c) ls := rr_owns_wr hA.vo hw (fun i hi e => hA.far i hi (.inl e))
  have f5 : FOwns w5 B (.slice f.a f.n f.c) fs := rr_owns_wr hA.fo hw (fun i hi => own_other hA.fo hA.so.row (by decide) hi)
  have hN5 : SeOwn w5 B (.slice s'.a s'.n s'.c) (hs ++ [x]) := by
    have := hN
    rw [← List.map_singleton, ← List.map_append] at this
    rw [show hs.length + 1 = (hs ++ [x]).length by simp] at this
    exact this
  have hS := set1_wr w5 tb 3 (.slice s'.a s'.n s'.c)
  refine ⟨s', w5, hs', hrun, ⟨own_keep v5 k5 (by decide) hS, own_keep f5 k5 (by decide) hS, hN5.keep hS (fun i hi e => by subst e; exact se_box hN5 k5 (by decide) (by decide) hi), fun i hi hn => ?_, ?_, h.tge⟩, b5.trans (WrB.below hS (fun i e => by rw [e]; exact h.tge) (Nat.le_trans hB b5.size)), k5, fun i hi => b5.block i hi⟩
  · rcases hn with hn | ⟨k, a, y, hy, hn⟩
    · exact own_other v5 hN5.row (by decide) hi hn
    · rw [List.map_append] at hy
      rcases sbAt_snoc hy with ⟨_, hy⟩ | ⟨_, hy⟩
      · exact h.far i hi (.inr ⟨k, a, y, hy, hn⟩)
      · have h1 := (h.vo.lt i hi).2
        have h2 : y.v = .slice x.s0.a x.s0.n x.s0.c := by
          match a, hy with
          | 0, hy => injection hy with hy; rw [← hy]
          | a + 1, hy => cases hy
        rw [h2] at hn
        have h3 := (hx.lt i hn).1
        omega
  · have h1 := heap_set k5 3 (.slice s'.a s'.n s'.c)
    simpa using h1
def OvRes (d : VsD) (w : World) (e : Ending) (w' : World) : Prop := ∃ l f s hs, e = .returned (.agg (vzC d.next l f s)) ∧ VzOwn w' w.heap.size l f s hs d ∧ Below w.heap.size w w'
theorem VzOwn.wr {w w' : World} {B : Nat} {l f s : Sl} {hs : List SeH} {d : VsD} (h : VzOwn w B l f s hs d) {P : Nat → Prop} (hw : WrB P w w') (hP : ∀ i, P i → i < B) : VzOwn w' B l f s hs d :=
  ⟨rr_owns_wr h.vo hw (fun i hi e => by have := (h.vo.lt i hi).1; have := hP i e; omega), rr_owns_wr h.fo hw (fun i hi e => by have := (h.fo.lt i hi).1; have := hP i e; omega), h.so.keep hw (fun i hi e => by have := (h.so.lt i hi).1; have := hP i e; omega), h.ss, h.far⟩
theorem set4_wr (w : World) (b : Nat) (v0 v1 v2 v3 : Value) : WrB (fun i => i = b) w ((((w.setCell ⟨b, 0, none⟩ v0).setCell ⟨b, 1, none⟩ v1).setCell ⟨b, 2, none⟩ v2).setCell ⟨b, 3, none⟩ v3) := (set1_wr w b 0 v0).seq ((set1_wr _ b 1 v1).seq ((set1_wr _ b 2 v2).seq (set1_wr _ b 3 v3)))
set_option maxRecDepth 100000 in
set_option maxHeartbeats 8000000 in
theorem l06Own_any (d : VsD) (l f s : Sl) (hs : List SeH) (w : World) (hI : VzIn w l f s hs d) (hln : l.n ≤ 1000000) (hfn : f.n ≤ 1000000) (hsn : s.n ≤ 1000) (hwn : ∀ h ∈ hs, h.s0.n ≤ 1048576) :
    Calls Tryz.prog 22 #[.agg (vzC d.next l f s)] w fun e w' => OvRes d w e w' := by
  obtain ⟨W, hW⟩ : ∃ W, W = (w.alloc (.cells (vzC d.next l f s) 27)).alloc (.cells #[.int .i64 0, .slice none 0 0, .slice none 0 0, .slice none 0 0] 27) := ⟨_, rfl⟩
  obtain ⟨b1, kv, kr, hz⟩ := twoBx hW
  have HI := hide (hI.below b1)
  have LN := hide hI.len
  have RV := hide (hI.vr.below b1)
  have RF := hide (hI.fr.below b1)
  have CL := hide hI.cl
  have CF := hide hI.cf
  have CW := hide hI.cw
  have SN := hide hwn
  have hz1 : w.heap.size < W.heap.size := by omega
  have hz2 : w.heap.size + 1 < W.heap.size := by omega
  have KV := hide kv
  have KR := hide kr
  have BH := hide b1
  have HW := hide hW
  have S0 := hide (show OvSt W W.drew d none none none from ⟨(Below.refl _ _).drew, fun _ _ e => (by cases e), fun _ _ e => (by cases e), fun _ e => (by cases e)⟩)
  have SSD := hide hI.ss
  clear hI hwn b1 kv kr hz hW
  obtain ⟨la, ln, lc⟩ := l
  obtain ⟨fa, fn, fc⟩ := f
  obtain ⟨sa, sn, sc⟩ := s
  unfold vzC at *
  simp only at hln hfn hsn KV HW LN RV RF ⊢
  have e0 := (heap_at (unhide KV) 0).1
  have e1 := (heap_at (unhide KV) 1).1
  have e2 := (heap_at (unhide KV) 2).1
  go_enter Tryz.func22, Tryz.ntmps22
  go_upto_region 1 with fail
  rw [← unhide HW]
  clear HW
  go_cut [3] (fun v wc => ∃ (tb : Nat) (l' f' : Sl), v = .pointer (some ⟨tb, 0, none⟩) ∧ Hid (VgSt wc W.heap.size tb d.next l' f' ⟨none, 0, 0⟩ [] d.list d.fen) ∧ Hid (Below W.heap.size W wc))
  case first =>
    have SK := hide (show ∀ u, Below W.heap.size W u → u.cell? ⟨w.heap.size, 0, none⟩ = some (.int .i64 d.next) ∧ u.cell? ⟨w.heap.size, 1, none⟩ = some (.slice la ln lc) ∧ u.cell? ⟨w.heap.size, 2, none⟩ = some (.slice fa fn fc) from fun u hu => ⟨(hu.cell (p := ⟨w.heap.size, 0, none⟩) hz1).trans e0, (hu.cell (p := ⟨w.heap.size, 1, none⟩) hz1).trans e1, (hu.cell (p := ⟨w.heap.size, 2, none⟩) hz1).trans e2⟩)
    clear e0 e1 e2
    refine wp_region_held_drew (S := (fun u => u.cell? ⟨w.heap.size, 0, none⟩ = some (.int .i64 d.next) ∧ u.cell? ⟨w.heap.size, 1, none⟩ = some (.slice la ln lc) ∧ u.cell? ⟨w.heap.size, 2, none⟩ = some (.slice fa fn fc))) (by kernel_rfl) (unhide SK _ (unhide S0).bel) (fun hHeld => ?_)
    have T0 := S0
    clear S0
    generalize W.drew = u0 at *
    refine anyH_take 0 6 (v := ?v1) rfl rfl (by kernel_rfl) (by kernel_rfl) (by kernel_rfl) (fun _ _ _ h => h) (by rfl) ?h1 hHeld ?r1
    case h1 => (intro w hSw; (try dsimp only at hSw); go_simp; try (with_reducible rfl))
    simp only [Act.put, List.setIfInBounds_toArray, List.set_cons_zero, List.set_cons_succ]
    refine anyH_take 1 7 (v := ?v2) rfl rfl (by kernel_rfl) (by kernel_rfl) (by kernel_rfl) (fun _ _ _ h => h) (by rfl) ?h2 hHeld ?r2
    case h2 => (intro w hSw; (try dsimp only at hSw); go_simp; try (with_reducible rfl))
    simp only [Act.put, List.setIfInBounds_toArray, List.set_cons_zero, List.set_cons_succ]
    refine anyH_take 3 9 (v := ?v3) rfl rfl (by kernel_rfl) (by kernel_rfl) (by kernel_rfl) (fun _ _ _ h => h) (by rfl) ?h3 hHeld ?r3
    case h3 => (intro w hSw; (try dsimp only at hSw); go_simp; try (with_reducible rfl))
    simp only [Act.put, List.setIfInBounds_toArray, List.set_cons_zero, List.set_cons_succ]
    refine anyH_take 4 10 (v := ?v4) rfl rfl (by kernel_rfl) (by kernel_rfl) (by kernel_rfl) (fun _ _ _ h => h) (by rfl) ?h4 hHeld ?r4
    case h4 => (intro w hSw; (try dsimp only at hSw); go_simp; try (with_reducible rfl))
    simp only [Act.put, List.setIfInBounds_toArray, List.set_cons_zero, List.set_cons_succ]
    refine anyH_take 7 13 (v := ?v5) rfl rfl (by kernel_rfl) (by kernel_rfl) (by kernel_rfl) (fun _ _ _ h => h) (by rfl) ?h5 hHeld ?r5
    case h5 => (intro w hSw; (try dsimp only at hSw); go_simp; try (with_reducible rfl))
    simp only [Act.put, List.setIfInBounds_toArray, List.set_cons_zero, List.set_cons_succ]
    refine anyH_take 8 14 (v := ?v6) rfl rfl (by kernel_rfl) (by kernel_rfl) (by kernel_rfl) (fun _ _ _ h => h) (by rfl) ?h6 hHeld ?r6
    case h6 => (intro w hSw; (try dsimp only at hSw); go_simp; try (with_reducible rfl))
    simp only [Act.put, List.setIfInBounds_toArray, List.set_cons_zero, List.set_cons_succ]
    refine wpAnyH_ready (rs := [2, 6, 11]) (by kernel_rfl) (by simp) ?_
    refine AllReadyH.cons rfl (fun K hK => ?_) (AllReadyH.cons rfl (fun K hK => ?_) (AllReadyH.cons rfl (fun K hK => ?_) AllReadyH.nil))
    · have T2 := hide (unhide T0).litV
      go_simp
      generalize u0.alloc (.cells #[] 39) = u2 at *
      generalize u0.heap.size = g5 at *
      refine hK.out _ _ (unhide SK _ (unhide T2).bel) (fun hHeld => ?_)
      clear hK K
      refine wpAnyH_ready (rs := [5, 6, 11]) (by kernel_rfl) (by simp) ?_
      refine AllReadyH.cons rfl (fun K hK => ?_) (AllReadyH.cons rfl (fun K hK => ?_) (AllReadyH.cons rfl (fun K hK => ?_) AllReadyH.nil))
      · obtain ⟨g8, k8, u2_5, hr, hs8⟩ := (unhide T2).appV (l := ⟨la, ln, lc⟩) (unhide RV) hln (unhide CL)
        have T2_5 := hide hs8
        clear hs8
        refine us_stepApp rfl (.tmp 8) (.tmp 10) 23 rfl _ _ (.slice (some ⟨g8, 0, none⟩) ln k8) u2_5 (by first | rfl | (simp [Act.eval]; done) | (simp [Act.eval, Act.put]; done)) (by first | rfl | (simp [Act.eval]; done) | (simp [Act.eval, Act.put]; done)) hr ?_
        clear hr
        refine hK.out _ _ (unhide SK _ (unhide T2_5).bel) (fun hHeld => ?_)
        clear hK K
        refine wpAnyH_ready (rs := [6, 11]) (by kernel_rfl) (by simp) ?_
        refine AllReadyH.cons rfl (fun K hK => ?_) (AllReadyH.cons rfl (fun K hK => ?_) AllReadyH.nil)
        · have T2_5_6 := hide (unhide T2_5).litF
          go_simp
          generalize u2_5.alloc (.cells #[] 90) = u2_5_6 at *
          generalize u2_5.heap.size = g9 at *
          refine hK.out _ _ (unhide SK _ (unhide T2_5_6).bel) (fun hHeld => ?_)
          clear hK K
          refine wpAnyH_ready (rs := [9, 11]) (by kernel_rfl) (by simp) ?_
          refine AllReadyH.cons rfl (fun K hK => ?_) (AllReadyH.cons rfl (fun K hK => ?_) AllReadyH.nil)
          · obtain ⟨g12, k12, u2_5_6_9, hr, hs8⟩ := (unhide T2_5_6).appF (l := ⟨fa, fn, fc⟩) (unhide RF) hfn (unhide CF)
            have T2_5_6_9 := hide hs8
            clear hs8
            refine us_stepApp rfl (.tmp 12) (.tmp 14) 24 rfl _ _ (.slice (some ⟨g12, 0, none⟩) fn k12) u2_5_6_9 (by first | rfl | (simp [Act.eval]; done) | (simp [Act.eval, Act.put]; done)) (by first | rfl | (simp [Act.eval]; done) | (simp [Act.eval, Act.put]; done)) hr ?_
            clear hr
            refine hK.out _ _ (unhide SK _ (unhide T2_5_6_9).bel) (fun hHeld => ?_)
            clear hK K
            refine anyH_take 10 16 (v := ?v7) rfl rfl (by kernel_rfl) (by kernel_rfl) (by kernel_rfl) (fun _ _ _ h => h) (by rfl) ?h7 hHeld ?r7
            case h7 => (intro w hSw; (try dsimp only at hSw); go_simp; try (with_reducible rfl))
            simp only [Act.put, List.setIfInBounds_toArray]
            refine wpAnyH_ready (rs := [11]) (by kernel_rfl) (by simp) ?_
            refine AllReadyH.cons rfl (fun K hK => ?_) AllReadyH.nil
            have T2_5_6_9_11 := hide (unhide T2_5_6_9).litT
            go_simp
            generalize u2_5_6_9.alloc (.cells #[.int .i64 0, .slice none 0 0, .slice none 0 0, .slice none 0 0] 27) = u2_5_6_9_11 at *
            generalize u2_5_6_9.heap.size = tb at *
            refine hK.out _ _ (unhide SK _ (unhide T2_5_6_9_11).bel) (fun hHeld => ?_)
            clear hK K
            refine wpAnyH_ready (rs := [12]) (by kernel_rfl) (by simp) ?_
            refine AllReadyH.cons rfl (fun K hK => ?_) AllReadyH.nil
            obtain ⟨l', f', e1, e2, hT3, hb3⟩ := VgSt.store (next := d.next) (unhide T2_5_6_9_11)
            have y0 := (heap_at ((unhide T2_5_6_9_11).t tb rfl).2 0).1
            have y1 := (heap_at ((unhide T2_5_6_9_11).t tb rfl).2 1).1
            have y2 := (heap_at ((unhide T2_5_6_9_11).t tb rfl).2 2).1
            have y3 := (heap_at ((unhide T2_5_6_9_11).t tb rfl).2 3).1
            have x0 := (heap_at ((unhide T2_5_6_9_11).t tb rfl).2 0).2
            have x1 := (heap_at ((unhide T2_5_6_9_11).t tb rfl).2 1).2
            have x2 := (heap_at ((unhide T2_5_6_9_11).t tb rfl).2 2).2
            have x3 := (heap_at ((unhide T2_5_6_9_11).t tb rfl).2 3).2
            have TF := hide hT3
            have BF := hide hb3
            clear hT3 hb3 e1 e2
            go_simp
            refine hK.out _ _ (unhide SK _ (unhide BF)) (fun hHeld => ?_)
            clear hK K
            refine wpAnyH_done (by kernel_rfl) ?_ _
            go_wp2_with fail
            go_meet
            case rel => exact ⟨tb, l', f', rfl, TF, BF⟩
          · have T2_5_6_11 := hide (unhide T2_5_6).litT
            go_simp
            generalize u2_5_6.alloc (.cells #[.int .i64 0, .slice none 0 0, .slice none 0 0, .slice none 0 0] 27) = u2_5_6_11 at *
            generalize u2_5_6.heap.size = tb at *
            refine hK.out _ _ (unhide SK _ (unhide T2_5_6_11).bel) (fun hHeld => ?_)
            clear hK K
            refine wpAnyH_ready (rs := [9]) (by kernel_rfl) (by simp) ?_
            refine AllReadyH.cons rfl (fun K hK => ?_) AllReadyH.nil
            obtain ⟨g12, k12, u2_5_6_11_9, hr, hs8⟩ := (unhide T2_5_6_11).appF (l := ⟨fa, fn, fc⟩) (unhide RF) hfn (unhide CF)
            have T2_5_6_11_9 := hide hs8
            clear hs8
            refine us_stepApp rfl (.tmp 12) (.tmp 14) 24 rfl _ _ (.slice (some ⟨g12, 0, none⟩) fn k12) u2_5_6_11_9 (by first | rfl | (simp [Act.eval]; done) | (simp [Act.eval, Act.put]; done)) (by first | rfl | (simp [Act.eval]; done) | (simp [Act.eval, Act.put]; done)) hr ?_
            clear hr
            refine hK.out _ _ (unhide SK _ (unhide T2_5_6_11_9).bel) (fun hHeld => ?_)
            clear hK K
            refine anyH_take 10 16 (v := ?v8) rfl rfl (by kernel_rfl) (by kernel_rfl) (by kernel_rfl) (fun _ _ _ h => h) (by rfl) ?h8 hHeld ?r8
            case h8 => (intro w hSw; (try dsimp only at hSw); go_simp; try (with_reducible rfl))
            simp only [Act.put, List.setIfInBounds_toArray]
            refine wpAnyH_ready (rs := [12]) (by kernel_rfl) (by simp) ?_
            refine AllReadyH.cons rfl (fun K hK => ?_) AllReadyH.nil
            obtain ⟨l', f', e1, e2, hT3, hb3⟩ := VgSt.store (next := d.next) (unhide T2_5_6_11_9)
            have y0 := (heap_at ((unhide T2_5_6_11_9).t tb rfl).2 0).1
            have y1 := (heap_at ((unhide T2_5_6_11_9).t tb rfl).2 1).1
            have y2 := (heap_at ((unhide T2_5_6_11_9).t tb rfl).2 2).1
            have y3 := (heap_at ((unhide T2_5_6_11_9).t tb rfl).2 3).1
            have x0 := (heap_at ((unhide T2_5_6_11_9).t tb rfl).2 0).2
            have x1 := (heap_at ((unhide T2_5_6_11_9).t tb rfl).2 1).2
            have x2 := (heap_at ((unhide T2_5_6_11_9).t tb rfl).2 2).2
            have x3 := (heap_at ((unhide T2_5_6_11_9).t tb rfl).2 3).2
            have TF := hide hT3
            have BF := hide hb3
            clear hT3 hb3 e1 e2
            go_simp
            refine hK.out _ _ (unhide SK _ (unhide BF)) (fun hHeld => ?_)
            clear hK K
            refine wpAnyH_done (by kernel_rfl) ?_ _
            go_wp2_with fail
            go_meet
            case rel => exact ⟨tb, l', f', rfl, TF, BF⟩
        · have T2_5_11 := hide (unhide T2_5).litT
          go_simp
          generalize u2_5.alloc (.cells #[.int .i64 0, .slice none 0 0, .slice none 0 0, .slice none 0 0] 27) = u2_5_11 at *
          generalize u2_5.heap.size = tb at *
          refine hK.out _ _ (unhide SK _ (unhide T2_5_11).bel) (fun hHeld => ?_)
          clear hK K
          refine wpAnyH_ready (rs := [6]) (by kernel_rfl) (by simp) ?_
          refine AllReadyH.cons rfl (fun K hK => ?_) AllReadyH.nil
          have T2_5_11_6 := hide (unhide T2_5_11).litF
          go_simp
          generalize u2_5_11.alloc (.cells #[] 90) = u2_5_11_6 at *
          generalize u2_5_11.heap.size = g9 at *
          refine hK.out _ _ (unhide SK _ (unhide T2_5_11_6).bel) (fun hHeld => ?_)
          clear hK K
          refine wpAnyH_ready (rs := [9]) (by kernel_rfl) (by simp) ?_
          refine AllReadyH.cons rfl (fun K hK => ?_) AllReadyH.nil
          obtain ⟨g12, k12, u2_5_11_6_9, hr, hs8⟩ := (unhide T2_5_11_6).appF (l := ⟨fa, fn, fc⟩) (unhide RF) hfn (unhide CF)
          have T2_5_11_6_9 := hide hs8
          clear hs8
          refine us_stepApp rfl (.tmp 12) (.tmp 14) 24 rfl _ _ (.slice (some ⟨g12, 0, none⟩) fn k12) u2_5_11_6_9 (by first | rfl | (simp [Act.eval]; done) | (simp [Act.eval, Act.put]; done)) (by first | rfl | (simp [Act.eval]; done) | (simp [Act.eval, Act.put]; done)) hr ?_
          clear hr
          refine hK.out _ _ (unhide SK _ (unhide T2_5_11_6_9).bel) (fun hHeld => ?_)
          clear hK K
          refine anyH_take 10 16 (v := ?v9) rfl rfl (by kernel_rfl) (by kernel_rfl) (by kernel_rfl) (fun _ _ _ h => h) (by rfl) ?h9 hHeld ?r9
          case h9 => (intro w hSw; (try dsimp only at hSw); go_simp; try (with_reducible rfl))
          simp only [Act.put, List.setIfInBounds_toArray]
          refine wpAnyH_ready (rs := [12]) (by kernel_rfl) (by simp) ?_
          refine AllReadyH.cons rfl (fun K hK => ?_) AllReadyH.nil
          obtain ⟨l', f', e1, e2, hT3, hb3⟩ := VgSt.store (next := d.next) (unhide T2_5_11_6_9)
          have y0 := (heap_at ((unhide T2_5_11_6_9).t tb rfl).2 0).1
          have y1 := (heap_at ((unhide T2_5_11_6_9).t tb rfl).2 1).1
          have y2 := (heap_at ((unhide T2_5_11_6_9).t tb rfl).2 2).1
          have y3 := (heap_at ((unhide T2_5_11_6_9).t tb rfl).2 3).1
          have x0 := (heap_at ((unhide T2_5_11_6_9).t tb rfl).2 0).2
          have x1 := (heap_at ((unhide T2_5_11_6_9).t tb rfl).2 1).2
          have x2 := (heap_at ((unhide T2_5_11_6_9).t tb rfl).2 2).2
          have x3 := (heap_at ((unhide T2_5_11_6_9).t tb rfl).2 3).2
          have TF := hide hT3
          have BF := hide hb3
          clear hT3 hb3 e1 e2
          go_simp
          refine hK.out _ _ (unhide SK _ (unhide BF)) (fun hHeld => ?_)
          clear hK K
          refine wpAnyH_done (by kernel_rfl) ?_ _
          go_wp2_with fail
          go_meet
          case rel => exact ⟨tb, l', f', rfl, TF, BF⟩
      · have T2_6 := hide (unhide T2).litF
        go_simp
        generalize u2.alloc (.cells #[] 90) = u2_6 at *
        generalize u2.heap.size = g9 at *
        refine hK.out _ _ (unhide SK _ (unhide T2_6).bel) (fun hHeld => ?_)
        clear hK K
        refine wpAnyH_ready (rs := [5, 11]) (by kernel_rfl) (by simp) ?_
        refine AllReadyH.cons rfl (fun K hK => ?_) (AllReadyH.cons rfl (fun K hK => ?_) AllReadyH.nil)
        · obtain ⟨g8, k8, u2_6_5, hr, hs8⟩ := (unhide T2_6).appV (l := ⟨la, ln, lc⟩) (unhide RV) hln (unhide CL)
          have T2_6_5 := hide hs8
          clear hs8
          refine us_stepApp rfl (.tmp 8) (.tmp 10) 23 rfl _ _ (.slice (some ⟨g8, 0, none⟩) ln k8) u2_6_5 (by first | rfl | (simp [Act.eval]; done) | (simp [Act.eval, Act.put]; done)) (by first | rfl | (simp [Act.eval]; done) | (simp [Act.eval, Act.put]; done)) hr ?_
          clear hr
          refine hK.out _ _ (unhide SK _ (unhide T2_6_5).bel) (fun hHeld => ?_)
          clear hK K
          refine wpAnyH_ready (rs := [9, 11]) (by kernel_rfl) (by simp) ?_
          refine AllReadyH.cons rfl (fun K hK => ?_) (AllReadyH.cons rfl (fun K hK => ?_) AllReadyH.nil)
          · obtain ⟨g12, k12, u2_6_5_9, hr, hs8⟩ := (unhide T2_6_5).appF (l := ⟨fa, fn, fc⟩) (unhide RF) hfn (unhide CF)
            have T2_6_5_9 := hide hs8
            clear hs8
            refine us_stepApp rfl (.tmp 12) (.tmp 14) 24 rfl _ _ (.slice (some ⟨g12, 0, none⟩) fn k12) u2_6_5_9 (by first | rfl | (simp [Act.eval]; done) | (simp [Act.eval, Act.put]; done)) (by first | rfl | (simp [Act.eval]; done) | (simp [Act.eval, Act.put]; done)) hr ?_
            clear hr
            refine hK.out _ _ (unhide SK _ (unhide T2_6_5_9).bel) (fun hHeld => ?_)
            clear hK K
            refine anyH_take 10 16 (v := ?v10) rfl rfl (by kernel_rfl) (by kernel_rfl) (by kernel_rfl) (fun _ _ _ h => h) (by rfl) ?h10 hHeld ?r10
            case h10 => (intro w hSw; (try dsimp only at hSw); go_simp; try (with_reducible rfl))
            simp only [Act.put, List.setIfInBounds_toArray]
            refine wpAnyH_ready (rs := [11]) (by kernel_rfl) (by simp) ?_
            refine AllReadyH.cons rfl (fun K hK => ?_) AllReadyH.nil
            have T2_6_5_9_11 := hide (unhide T2_6_5_9).litT
            go_simp
            generalize u2_6_5_9.alloc (.cells #[.int .i64 0, .slice none 0 0, .slice none 0 0, .slice none 0 0] 27) = u2_6_5_9_11 at *
            generalize u2_6_5_9.heap.size = tb at *
            refine hK.out _ _ (unhide SK _ (unhide T2_6_5_9_11).bel) (fun hHeld => ?_)
            clear hK K
            refine wpAnyH_ready (rs := [12]) (by kernel_rfl) (by simp) ?_
            refine AllReadyH.cons rfl (fun K hK => ?_) AllReadyH.nil
            obtain ⟨l', f', e1, e2, hT3, hb3⟩ := VgSt.store (next := d.next) (unhide T2_6_5_9_11)
            have y0 := (heap_at ((unhide T2_6_5_9_11).t tb rfl).2 0).1
            have y1 := (heap_at ((unhide T2_6_5_9_11).t tb rfl).2 1).1
            have y2 := (heap_at ((unhide T2_6_5_9_11).t tb rfl).2 2).1
            have y3 := (heap_at ((unhide T2_6_5_9_11).t tb rfl).2 3).1
            have x0 := (heap_at ((unhide T2_6_5_9_11).t tb rfl).2 0).2
            have x1 := (heap_at ((unhide T2_6_5_9_11).t tb rfl).2 1).2
            have x2 := (heap_at ((unhide T2_6_5_9_11).t tb rfl).2 2).2
            have x3 := (heap_at ((unhide T2_6_5_9_11).t tb rfl).2 3).2
            have TF := hide hT3
            have BF := hide hb3
            clear hT3 hb3 e1 e2
            go_simp
            refine hK.out _ _ (unhide SK _ (unhide BF)) (fun hHeld => ?_)
            clear hK K
            refine wpAnyH_done (by kernel_rfl) ?_ _
            go_wp2_with fail
            go_meet
            case rel => exact ⟨tb, l', f', rfl, TF, BF⟩
          · have T2_6_5_11 := hide (unhide T2_6_5).litT
            go_simp
            generalize u2_6_5.alloc (.cells #[.int .i64 0, .slice none 0 0, .slice none 0 0, .slice none 0 0] 27) = u2_6_5_11 at *
            generalize u2_6_5.heap.size = tb at *
            refine hK.out _ _ (unhide SK _ (unhide T2_6_5_11).bel) (fun hHeld => ?_)
            clear hK K
            refine wpAnyH_ready (rs := [9]) (by kernel_rfl) (by simp) ?_
            refine AllReadyH.cons rfl (fun K hK => ?_) AllReadyH.nil
            obtain ⟨g12, k12, u2_6_5_11_9, hr, hs8⟩ := (unhide T2_6_5_11).appF (l := ⟨fa, fn, fc⟩) (unhide RF) hfn (unhide CF)
            have T2_6_5_11_9 := hide hs8
            clear hs8
            refine us_stepApp rfl (.tmp 12) (.tmp 14) 24 rfl _ _ (.slice (some ⟨g12, 0, none⟩) fn k12) u2_6_5_11_9 (by first | rfl | (simp [Act.eval]; done) | (simp [Act.eval, Act.put]; done)) (by first | rfl | (simp [Act.eval]; done) | (simp [Act.eval, Act.put]; done)) hr ?_
            clear hr
            refine hK.out _ _ (unhide SK _ (unhide T2_6_5_11_9).bel) (fun hHeld => ?_)
            clear hK K
            refine anyH_take 10 16 (v := ?v11) rfl rfl (by kernel_rfl) (by kernel_rfl) (by kernel_rfl) (fun _ _ _ h => h) (by rfl) ?h11 hHeld ?r11
            case h11 => (intro w hSw; (try dsimp only at hSw); go_simp; try (with_reducible rfl))
            simp only [Act.put, List.setIfInBounds_toArray]
            refine wpAnyH_ready (rs := [12]) (by kernel_rfl) (by simp) ?_
            refine AllReadyH.cons rfl (fun K hK => ?_) AllReadyH.nil
            obtain ⟨l', f', e1, e2, hT3, hb3⟩ := VgSt.store (next := d.next) (unhide T2_6_5_11_9)
            have y0 := (heap_at ((unhide T2_6_5_11_9).t tb rfl).2 0).1
            have y1 := (heap_at ((unhide T2_6_5_11_9).t tb rfl).2 1).1
            have y2 := (heap_at ((unhide T2_6_5_11_9).t tb rfl).2 2).1
            have y3 := (heap_at ((unhide T2_6_5_11_9).t tb rfl).2 3).1
            have x0 := (heap_at ((unhide T2_6_5_11_9).t tb rfl).2 0).2
            have x1 := (heap_at ((unhide T2_6_5_11_9).t tb rfl).2 1).2
            have x2 := (heap_at ((unhide T2_6_5_11_9).t tb rfl).2 2).2
            have x3 := (heap_at ((unhide T2_6_5_11_9).t tb rfl).2 3).2
            have TF := hide hT3
            have BF := hide hb3
            clear hT3 hb3 e1 e2
            go_simp
            refine hK.out _ _ (unhide SK _ (unhide BF)) (fun hHeld => ?_)
            clear hK K
            refine wpAnyH_done (by kernel_rfl) ?_ _
            go_wp2_with fail
            go_meet
            case rel => exact ⟨tb, l', f', rfl, TF, BF⟩
        · have T2_6_11 := hide (unhide T2_6).litT
          go_simp
          generalize u2_6.alloc (.cells #[.int .i64 0, .slice none 0 0, .slice none 0 0, .slice none 0 0] 27) = u2_6_11 at *
          generalize u2_6.heap.size = tb at *
          refine hK.out _ _ (unhide SK _ (unhide T2_6_11).bel) (fun hHeld => ?_)
          clear hK K
          refine wpAnyH_ready (rs := [5]) (by kernel_rfl) (by simp) ?_
          refine AllReadyH.cons rfl (fun K hK => ?_) AllReadyH.nil
          obtain ⟨g8, k8, u2_6_11_5, hr, hs8⟩ := (unhide T2_6_11).appV (l := ⟨la, ln, lc⟩) (unhide RV) hln (unhide CL)
          have T2_6_11_5 := hide hs8
          clear hs8
          refine us_stepApp rfl (.tmp 8) (.tmp 10) 23 rfl _ _ (.slice (some ⟨g8, 0, none⟩) ln k8) u2_6_11_5 (by first | rfl | (simp [Act.eval]; done) | (simp [Act.eval, Act.put]; done)) (by first | rfl | (simp [Act.eval]; done) | (simp [Act.eval, Act.put]; done)) hr ?_
          clear hr
          refine hK.out _ _ (unhide SK _ (unhide T2_6_11_5).bel) (fun hHeld => ?_)
          clear hK K
          refine wpAnyH_ready (rs := [9]) (by kernel_rfl) (by simp) ?_
          refine AllReadyH.cons rfl (fun K hK => ?_) AllReadyH.nil
          obtain ⟨g12, k12, u2_6_11_5_9, hr, hs8⟩ := (unhide T2_6_11_5).appF (l := ⟨fa, fn, fc⟩) (unhide RF) hfn (unhide CF)
          have T2_6_11_5_9 := hide hs8
          clear hs8
          refine us_stepApp rfl (.tmp 12) (.tmp 14) 24 rfl _ _ (.slice (some ⟨g12, 0, none⟩) fn k12) u2_6_11_5_9 (by first | rfl | (simp [Act.eval]; done) | (simp [Act.eval, Act.put]; done)) (by first | rfl | (simp [Act.eval]; done) | (simp [Act.eval, Act.put]; done)) hr ?_
          clear hr
          refine hK.out _ _ (unhide SK _ (unhide T2_6_11_5_9).bel) (fun hHeld => ?_)
          clear hK K
          refine anyH_take 10 16 (v := ?v12) rfl rfl (by kernel_rfl) (by kernel_rfl) (by kernel_rfl) (fun _ _ _ h => h) (by rfl) ?h12 hHeld ?r12
          case h12 => (intro w hSw; (try dsimp only at hSw); go_simp; try (with_reducible rfl))
          simp only [Act.put, List.setIfInBounds_toArray]
          refine wpAnyH_ready (rs := [12]) (by kernel_rfl) (by simp) ?_
          refine AllReadyH.cons rfl (fun K hK => ?_) AllReadyH.nil
          obtain ⟨l', f', e1, e2, hT3, hb3⟩ := VgSt.store (next := d.next) (unhide T2_6_11_5_9)
          have y0 := (heap_at ((unhide T2_6_11_5_9).t tb rfl).2 0).1
          have y1 := (heap_at ((unhide T2_6_11_5_9).t tb rfl).2 1).1
          have y2 := (heap_at ((unhide T2_6_11_5_9).t tb rfl).2 2).1
          have y3 := (heap_at ((unhide T2_6_11_5_9).t tb rfl).2 3).1
          have x0 := (heap_at ((unhide T2_6_11_5_9).t tb rfl).2 0).2
          have x1 := (heap_at ((unhide T2_6_11_5_9).t tb rfl).2 1).2
          have x2 := (heap_at ((unhide T2_6_11_5_9).t tb rfl).2 2).2
          have x3 := (heap_at ((unhide T2_6_11_5_9).t tb rfl).2 3).2
          have TF := hide hT3
          have BF := hide hb3
          clear hT3 hb3 e1 e2
          go_simp
          refine hK.out _ _ (unhide SK _ (unhide BF)) (fun hHeld => ?_)
          clear hK K
          refine wpAnyH_done (by kernel_rfl) ?_ _
          go_wp2_with fail
          go_meet
          case rel => exact ⟨tb, l', f', rfl, TF, BF⟩
      · have T2_11 := hide (unhide T2).litT
        go_simp
        generalize u2.alloc (.cells #[.int .i64 0, .slice none 0 0, .slice none 0 0, .slice none 0 0] 27) = u2_11 at *
        generalize u2.heap.size = tb at *
        refine hK.out _ _ (unhide SK _ (unhide T2_11).bel) (fun hHeld => ?_)
        clear hK K
        refine wpAnyH_ready (rs := [5, 6]) (by kernel_rfl) (by simp) ?_
        refine AllReadyH.cons rfl (fun K hK => ?_) (AllReadyH.cons rfl (fun K hK => ?_) AllReadyH.nil)
        · obtain ⟨g8, k8, u2_11_5, hr, hs8⟩ := (unhide T2_11).appV (l := ⟨la, ln, lc⟩) (unhide RV) hln (unhide CL)
          have T2_11_5 := hide hs8
          clear hs8
          refine us_stepApp rfl (.tmp 8) (.tmp 10) 23 rfl _ _ (.slice (some ⟨g8, 0, none⟩) ln k8) u2_11_5 (by first | rfl | (simp [Act.eval]; done) | (simp [Act.eval, Act.put]; done)) (by first | rfl | (simp [Act.eval]; done) | (simp [Act.eval, Act.put]; done)) hr ?_
          clear hr
          refine hK.out _ _ (unhide SK _ (unhide T2_11_5).bel) (fun hHeld => ?_)
          clear hK K
          refine wpAnyH_ready (rs := [6]) (by kernel_rfl) (by simp) ?_
          refine AllReadyH.cons rfl (fun K hK => ?_) AllReadyH.nil
          have T2_11_5_6 := hide (unhide T2_11_5).litF
          go_simp
          generalize u2_11_5.alloc (.cells #[] 90) = u2_11_5_6 at *
          generalize u2_11_5.heap.size = g9 at *
          refine hK.out _ _ (unhide SK _ (unhide T2_11_5_6).bel) (fun hHeld => ?_)
          clear hK K
          refine wpAnyH_ready (rs := [9]) (by kernel_rfl) (by simp) ?_
          refine AllReadyH.cons rfl (fun K hK => ?_) AllReadyH.nil
          obtain ⟨g12, k12, u2_11_5_6_9, hr, hs8⟩ := (unhide T2_11_5_6).appF (l := ⟨fa, fn, fc⟩) (unhide RF) hfn (unhide CF)
          have T2_11_5_6_9 := hide hs8
          clear hs8
          refine us_stepApp rfl (.tmp 12) (.tmp 14) 24 rfl _ _ (.slice (some ⟨g12, 0, none⟩) fn k12) u2_11_5_6_9 (by first | rfl | (simp [Act.eval]; done) | (simp [Act.eval, Act.put]; done)) (by first | rfl | (simp [Act.eval]; done) | (simp [Act.eval, Act.put]; done)) hr ?_
          clear hr
          refine hK.out _ _ (unhide SK _ (unhide T2_11_5_6_9).bel) (fun hHeld => ?_)
          clear hK K
          refine anyH_take 10 16 (v := ?v13) rfl rfl (by kernel_rfl) (by kernel_rfl) (by kernel_rfl) (fun _ _ _ h => h) (by rfl) ?h13 hHeld ?r13
          case h13 => (intro w hSw; (try dsimp only at hSw); go_simp; try (with_reducible rfl))
          simp only [Act.put, List.setIfInBounds_toArray]
          refine wpAnyH_ready (rs := [12]) (by kernel_rfl) (by simp) ?_
          refine AllReadyH.cons rfl (fun K hK => ?_) AllReadyH.nil
          obtain ⟨l', f', e1, e2, hT3, hb3⟩ := VgSt.store (next := d.next) (unhide T2_11_5_6_9)
          have y0 := (heap_at ((unhide T2_11_5_6_9).t tb rfl).2 0).1
          have y1 := (heap_at ((unhide T2_11_5_6_9).t tb rfl).2 1).1
          have y2 := (heap_at ((unhide T2_11_5_6_9).t tb rfl).2 2).1
          have y3 := (heap_at ((unhide T2_11_5_6_9).t tb rfl).2 3).1
          have x0 := (heap_at ((unhide T2_11_5_6_9).t tb rfl).2 0).2
          have x1 := (heap_at ((unhide T2_11_5_6_9).t tb rfl).2 1).2
          have x2 := (heap_at ((unhide T2_11_5_6_9).t tb rfl).2 2).2
          have x3 := (heap_at ((unhide T2_11_5_6_9).t tb rfl).2 3).2
          have TF := hide hT3
          have BF := hide hb3
          clear hT3 hb3 e1 e2
          go_simp
          refine hK.out _ _ (unhide SK _ (unhide BF)) (fun hHeld => ?_)
          clear hK K
          refine wpAnyH_done (by kernel_rfl) ?_ _
          go_wp2_with fail
          go_meet
          case rel => exact ⟨tb, l', f', rfl, TF, BF⟩
        · have T2_11_6 := hide (unhide T2_11).litF
          go_simp
          generalize u2_11.alloc (.cells #[] 90) = u2_11_6 at *
          generalize u2_11.heap.size = g9 at *
          refine hK.out _ _ (unhide SK _ (unhide T2_11_6).bel) (fun hHeld => ?_)
          clear hK K
          refine wpAnyH_ready (rs := [5]) (by kernel_rfl) (by simp) ?_
          refine AllReadyH.cons rfl (fun K hK => ?_) AllReadyH.nil
          obtain ⟨g8, k8, u2_11_6_5, hr, hs8⟩ := (unhide T2_11_6).appV (l := ⟨la, ln, lc⟩) (unhide RV) hln (unhide CL)
          have T2_11_6_5 := hide hs8
          clear hs8
          refine us_stepApp rfl (.tmp 8) (.tmp 10) 23 rfl _ _ (.slice (some ⟨g8, 0, none⟩) ln k8) u2_11_6_5 (by first | rfl | (simp [Act.eval]; done) | (simp [Act.eval, Act.put]; done)) (by first | rfl | (simp [Act.eval]; done) | (simp [Act.eval, Act.put]; done)) hr ?_
          clear hr
          refine hK.out _ _ (unhide SK _ (unhide T2_11_6_5).bel) (fun hHeld => ?_)
          clear hK K
          refine wpAnyH_ready (rs := [9]) (by kernel_rfl) (by simp) ?_
          refine AllReadyH.cons rfl (fun K hK => ?_) AllReadyH.nil
          obtain ⟨g12, k12, u2_11_6_5_9, hr, hs8⟩ := (unhide T2_11_6_5).appF (l := ⟨fa, fn, fc⟩) (unhide RF) hfn (unhide CF)
          have T2_11_6_5_9 := hide hs8
          clear hs8
          refine us_stepApp rfl (.tmp 12) (.tmp 14) 24 rfl _ _ (.slice (some ⟨g12, 0, none⟩) fn k12) u2_11_6_5_9 (by first | rfl | (simp [Act.eval]; done) | (simp [Act.eval, Act.put]; done)) (by first | rfl | (simp [Act.eval]; done) | (simp [Act.eval, Act.put]; done)) hr ?_
          clear hr
          refine hK.out _ _ (unhide SK _ (unhide T2_11_6_5_9).bel) (fun hHeld => ?_)
          clear hK K
          refine anyH_take 10 16 (v := ?v14) rfl rfl (by kernel_rfl) (by kernel_rfl) (by kernel_rfl) (fun _ _ _ h => h) (by rfl) ?h14 hHeld ?r14
          case h14 => (intro w hSw; (try dsimp only at hSw); go_simp; try (with_reducible rfl))
          simp only [Act.put, List.setIfInBounds_toArray]
          refine wpAnyH_ready (rs := [12]) (by kernel_rfl) (by simp) ?_
          refine AllReadyH.cons rfl (fun K hK => ?_) AllReadyH.nil
          obtain ⟨l', f', e1, e2, hT3, hb3⟩ := VgSt.store (next := d.next) (unhide T2_11_6_5_9)
          have y0 := (heap_at ((unhide T2_11_6_5_9).t tb rfl).2 0).1
          have y1 := (heap_at ((unhide T2_11_6_5_9).t tb rfl).2 1).1
          have y2 := (heap_at ((unhide T2_11_6_5_9).t tb rfl).2 2).1
          have y3 := (heap_at ((unhide T2_11_6_5_9).t tb rfl).2 3).1
          have x0 := (heap_at ((unhide T2_11_6_5_9).t tb rfl).2 0).2
          have x1 := (heap_at ((unhide T2_11_6_5_9).t tb rfl).2 1).2
          have x2 := (heap_at ((unhide T2_11_6_5_9).t tb rfl).2 2).2
          have x3 := (heap_at ((unhide T2_11_6_5_9).t tb rfl).2 3).2
          have TF := hide hT3
          have BF := hide hb3
          clear hT3 hb3 e1 e2
          go_simp
          refine hK.out _ _ (unhide SK _ (unhide BF)) (fun hHeld => ?_)
          clear hK K
          refine wpAnyH_done (by kernel_rfl) ?_ _
          go_wp2_with fail
          go_meet
          case rel => exact ⟨tb, l', f', rfl, TF, BF⟩
    · have T6 := hide (unhide T0).litF
      go_simp
      generalize u0.alloc (.cells #[] 90) = u6 at *
      generalize u0.heap.size = g9 at *
      refine hK.out _ _ (unhide SK _ (unhide T6).bel) (fun hHeld => ?_)
      clear hK K
      refine wpAnyH_ready (rs := [2, 11]) (by kernel_rfl) (by simp) ?_
      refine AllReadyH.cons rfl (fun K hK => ?_) (AllReadyH.cons rfl (fun K hK => ?_) AllReadyH.nil)
      · have T6_2 := hide (unhide T6).litV
        go_simp
        generalize u6.alloc (.cells #[] 39) = u6_2 at *
        generalize u6.heap.size = g5 at *
        refine hK.out _ _ (unhide SK _ (unhide T6_2).bel) (fun hHeld => ?_)
        clear hK K
        refine wpAnyH_ready (rs := [5, 11]) (by kernel_rfl) (by simp) ?_
        refine AllReadyH.cons rfl (fun K hK => ?_) (AllReadyH.cons rfl (fun K hK => ?_) AllReadyH.nil)
        · obtain ⟨g8, k8, u6_2_5, hr, hs8⟩ := (unhide T6_2).appV (l := ⟨la, ln, lc⟩) (unhide RV) hln (unhide CL)
          have T6_2_5 := hide hs8
          clear hs8
          refine us_stepApp rfl (.tmp 8) (.tmp 10) 23 rfl _ _ (.slice (some ⟨g8, 0, none⟩) ln k8) u6_2_5 (by first | rfl | (simp [Act.eval]; done) | (simp [Act.eval, Act.put]; done)) (by first | rfl | (simp [Act.eval]; done) | (simp [Act.eval, Act.put]; done)) hr ?_
          clear hr
          refine hK.out _ _ (unhide SK _ (unhide T6_2_5).bel) (fun hHeld => ?_)
          clear hK K
          refine wpAnyH_ready (rs := [9, 11]) (by kernel_rfl) (by simp) ?_
          refine AllReadyH.cons rfl (fun K hK => ?_) (AllReadyH.cons rfl (fun K hK => ?_) AllReadyH.nil)
          · obtain ⟨g12, k12, u6_2_5_9, hr, hs8⟩ := (unhide T6_2_5).appF (l := ⟨fa, fn, fc⟩) (unhide RF) hfn (unhide CF)
            have T6_2_5_9 := hide hs8
            clear hs8
            refine us_stepApp rfl (.tmp 12) (.tmp 14) 24 rfl _ _ (.slice (some ⟨g12, 0, none⟩) fn k12) u6_2_5_9 (by first | rfl | (simp [Act.eval]; done) | (simp [Act.eval, Act.put]; done)) (by first | rfl | (simp [Act.eval]; done) | (simp [Act.eval, Act.put]; done)) hr ?_
            clear hr
            refine hK.out _ _ (unhide SK _ (unhide T6_2_5_9).bel) (fun hHeld => ?_)
            clear hK K
            refine anyH_take 10 16 (v := ?v15) rfl rfl (by kernel_rfl) (by kernel_rfl) (by kernel_rfl) (fun _ _ _ h => h) (by rfl) ?h15 hHeld ?r15
            case h15 => (intro w hSw; (try dsimp only at hSw); go_simp; try (with_reducible rfl))
            simp only [Act.put, List.setIfInBounds_toArray]
            refine wpAnyH_ready (rs := [11]) (by kernel_rfl) (by simp) ?_
            refine AllReadyH.cons rfl (fun K hK => ?_) AllReadyH.nil
            have T6_2_5_9_11 := hide (unhide T6_2_5_9).litT
            go_simp
            generalize u6_2_5_9.alloc (.cells #[.int .i64 0, .slice none 0 0, .slice none 0 0, .slice none 0 0] 27) = u6_2_5_9_11 at *
            generalize u6_2_5_9.heap.size = tb at *
            refine hK.out _ _ (unhide SK _ (unhide T6_2_5_9_11).bel) (fun hHeld => ?_)
            clear hK K
            refine wpAnyH_ready (rs := [12]) (by kernel_rfl) (by simp) ?_
            refine AllReadyH.cons rfl (fun K hK => ?_) AllReadyH.nil
            obtain ⟨l', f', e1, e2, hT3, hb3⟩ := VgSt.store (next := d.next) (unhide T6_2_5_9_11)
            have y0 := (heap_at ((unhide T6_2_5_9_11).t tb rfl).2 0).1
            have y1 := (heap_at ((unhide T6_2_5_9_11).t tb rfl).2 1).1
            have y2 := (heap_at ((unhide T6_2_5_9_11).t tb rfl).2 2).1
            have y3 := (heap_at ((unhide T6_2_5_9_11).t tb rfl).2 3).1
            have x0 := (heap_at ((unhide T6_2_5_9_11).t tb rfl).2 0).2
            have x1 := (heap_at ((unhide T6_2_5_9_11).t tb rfl).2 1).2
            have x2 := (heap_at ((unhide T6_2_5_9_11).t tb rfl).2 2).2
            have x3 := (heap_at ((unhide T6_2_5_9_11).t tb rfl).2 3).2
            have TF := hide hT3
            have BF := hide hb3
            clear hT3 hb3 e1 e2
            go_simp
            refine hK.out _ _ (unhide SK _ (unhide BF)) (fun hHeld => ?_)
            clear hK K
            refine wpAnyH_done (by kernel_rfl) ?_ _
            go_wp2_with fail
            go_meet
            case rel => exact ⟨tb, l', f', rfl, TF, BF⟩
          · have T6_2_5_11 := hide (unhide T6_2_5).litT
            go_simp
            generalize u6_2_5.alloc (.cells #[.int .i64 0, .slice none 0 0, .slice none 0 0, .slice none 0 0] 27) = u6_2_5_11 at *
            generalize u6_2_5.heap.size = tb at *
            refine hK.out _ _ (unhide SK _ (unhide T6_2_5_11).bel) (fun hHeld => ?_)
            clear hK K
            refine wpAnyH_ready (rs := [9]) (by kernel_rfl) (by simp) ?_
            refine AllReadyH.cons rfl (fun K hK => ?_) AllReadyH.nil
            obtain ⟨g12, k12, u6_2_5_11_9, hr, hs8⟩ := (unhide T6_2_5_11).appF (l := ⟨fa, fn, fc⟩) (unhide RF) hfn (unhide CF)
            have T6_2_5_11_9 := hide hs8
            clear hs8
            refine us_stepApp rfl (.tmp 12) (.tmp 14) 24 rfl _ _ (.slice (some ⟨g12, 0, none⟩) fn k12) u6_2_5_11_9 (by first | rfl | (simp [Act.eval]; done) | (simp [Act.eval, Act.put]; done)) (by first | rfl | (simp [Act.eval]; done) | (simp [Act.eval, Act.put]; done)) hr ?_
            clear hr
            refine hK.out _ _ (unhide SK _ (unhide T6_2_5_11_9).bel) (fun hHeld => ?_)
            clear hK K
            refine anyH_take 10 16 (v := ?v16) rfl rfl (by kernel_rfl) (by kernel_rfl) (by kernel_rfl) (fun _ _ _ h => h) (by rfl) ?h16 hHeld ?r16
            case h16 => (intro w hSw; (try dsimp only at hSw); go_simp; try (with_reducible rfl))
            simp only [Act.put, List.setIfInBounds_toArray]
            refine wpAnyH_ready (rs := [12]) (by kernel_rfl) (by simp) ?_
            refine AllReadyH.cons rfl (fun K hK => ?_) AllReadyH.nil
            obtain ⟨l', f', e1, e2, hT3, hb3⟩ := VgSt.store (next := d.next) (unhide T6_2_5_11_9)
            have y0 := (heap_at ((unhide T6_2_5_11_9).t tb rfl).2 0).1
            have y1 := (heap_at ((unhide T6_2_5_11_9).t tb rfl).2 1).1
            have y2 := (heap_at ((unhide T6_2_5_11_9).t tb rfl).2 2).1
            have y3 := (heap_at ((unhide T6_2_5_11_9).t tb rfl).2 3).1
            have x0 := (heap_at ((unhide T6_2_5_11_9).t tb rfl).2 0).2
            have x1 := (heap_at ((unhide T6_2_5_11_9).t tb rfl).2 1).2
            have x2 := (heap_at ((unhide T6_2_5_11_9).t tb rfl).2 2).2
            have x3 := (heap_at ((unhide T6_2_5_11_9).t tb rfl).2 3).2
            have TF := hide hT3
            have BF := hide hb3
            clear hT3 hb3 e1 e2
            go_simp
            refine hK.out _ _ (unhide SK _ (unhide BF)) (fun hHeld => ?_)
            clear hK K
            refine wpAnyH_done (by kernel_rfl) ?_ _
            go_wp2_with fail
            go_meet
            case rel => exact ⟨tb, l', f', rfl, TF, BF⟩
        · have T6_2_11 := hide (unhide T6_2).litT
          go_simp
          generalize u6_2.alloc (.cells #[.int .i64 0, .slice none 0 0, .slice none 0 0, .slice none 0 0] 27) = u6_2_11 at *
          generalize u6_2.heap.size = tb at *
          refine hK.out _ _ (unhide SK _ (unhide T6_2_11).bel) (fun hHeld => ?_)
          clear hK K
          refine wpAnyH_ready (rs := [5]) (by kernel_rfl) (by simp) ?_
          refine AllReadyH.cons rfl (fun K hK => ?_) AllReadyH.nil
          obtain ⟨g8, k8, u6_2_11_5, hr, hs8⟩ := (unhide T6_2_11).appV (l := ⟨la, ln, lc⟩) (unhide RV) hln (unhide CL)
          have T6_2_11_5 := hide hs8
          clear hs8
          refine us_stepApp rfl (.tmp 8) (.tmp 10) 23 rfl _ _ (.slice (some ⟨g8, 0, none⟩) ln k8) u6_2_11_5 (by first | rfl | (simp [Act.eval]; done) | (simp [Act.eval, Act.put]; done)) (by first | rfl | (simp [Act.eval]; done) | (simp [Act.eval, Act.put]; done)) hr ?_
          clear hr
          refine hK.out _ _ (unhide SK _ (unhide T6_2_11_5).bel) (fun hHeld => ?_)
          clear hK K
          refine wpAnyH_ready (rs := [9]) (by kernel_rfl) (by simp) ?_
          refine AllReadyH.cons rfl (fun K hK => ?_) AllReadyH.nil
          obtain ⟨g12, k12, u6_2_11_5_9, hr, hs8⟩ := (unhide T6_2_11_5).appF (l := ⟨fa, fn, fc⟩) (unhide RF) hfn (unhide CF)
          have T6_2_11_5_9 := hide hs8
          clear hs8
          refine us_stepApp rfl (.tmp 12) (.tmp 14) 24 rfl _ _ (.slice (some ⟨g12, 0, none⟩) fn k12) u6_2_11_5_9 (by first | rfl | (simp [Act.eval]; done) | (simp [Act.eval, Act.put]; done)) (by first | rfl | (simp [Act.eval]; done) | (simp [Act.eval, Act.put]; done)) hr ?_
          clear hr
          refine hK.out _ _ (unhide SK _ (unhide T6_2_11_5_9).bel) (fun hHeld => ?_)
          clear hK K
          refine anyH_take 10 16 (v := ?v17) rfl rfl (by kernel_rfl) (by kernel_rfl) (by kernel_rfl) (fun _ _ _ h => h) (by rfl) ?h17 hHeld ?r17
          case h17 => (intro w hSw; (try dsimp only at hSw); go_simp; try (with_reducible rfl))
          simp only [Act.put, List.setIfInBounds_toArray]
          refine wpAnyH_ready (rs := [12]) (by kernel_rfl) (by simp) ?_
          refine AllReadyH.cons rfl (fun K hK => ?_) AllReadyH.nil
          obtain ⟨l', f', e1, e2, hT3, hb3⟩ := VgSt.store (next := d.next) (unhide T6_2_11_5_9)
          have y0 := (heap_at ((unhide T6_2_11_5_9).t tb rfl).2 0).1
          have y1 := (heap_at ((unhide T6_2_11_5_9).t tb rfl).2 1).1
          have y2 := (heap_at ((unhide T6_2_11_5_9).t tb rfl).2 2).1
          have y3 := (heap_at ((unhide T6_2_11_5_9).t tb rfl).2 3).1
          have x0 := (heap_at ((unhide T6_2_11_5_9).t tb rfl).2 0).2
          have x1 := (heap_at ((unhide T6_2_11_5_9).t tb rfl).2 1).2
          have x2 := (heap_at ((unhide T6_2_11_5_9).t tb rfl).2 2).2
          have x3 := (heap_at ((unhide T6_2_11_5_9).t tb rfl).2 3).2
          have TF := hide hT3
          have BF := hide hb3
          clear hT3 hb3 e1 e2
          go_simp
          refine hK.out _ _ (unhide SK _ (unhide BF)) (fun hHeld => ?_)
          clear hK K
          refine wpAnyH_done (by kernel_rfl) ?_ _
          go_wp2_with fail
          go_meet
          case rel => exact ⟨tb, l', f', rfl, TF, BF⟩
      · have T6_11 := hide (unhide T6).litT
        go_simp
        generalize u6.alloc (.cells #[.int .i64 0, .slice none 0 0, .slice none 0 0, .slice none 0 0] 27) = u6_11 at *
        generalize u6.heap.size = tb at *
        refine hK.out _ _ (unhide SK _ (unhide T6_11).bel) (fun hHeld => ?_)
        clear hK K
        refine wpAnyH_ready (rs := [2]) (by kernel_rfl) (by simp) ?_
        refine AllReadyH.cons rfl (fun K hK => ?_) AllReadyH.nil
        have T6_11_2 := hide (unhide T6_11).litV
        go_simp
        generalize u6_11.alloc (.cells #[] 39) = u6_11_2 at *
        generalize u6_11.heap.size = g5 at *
        refine hK.out _ _ (unhide SK _ (unhide T6_11_2).bel) (fun hHeld => ?_)
        clear hK K
        refine wpAnyH_ready (rs := [5]) (by kernel_rfl) (by simp) ?_
        refine AllReadyH.cons rfl (fun K hK => ?_) AllReadyH.nil
        obtain ⟨g8, k8, u6_11_2_5, hr, hs8⟩ := (unhide T6_11_2).appV (l := ⟨la, ln, lc⟩) (unhide RV) hln (unhide CL)
        have T6_11_2_5 := hide hs8
        clear hs8
        refine us_stepApp rfl (.tmp 8) (.tmp 10) 23 rfl _ _ (.slice (some ⟨g8, 0, none⟩) ln k8) u6_11_2_5 (by first | rfl | (simp [Act.eval]; done) | (simp [Act.eval, Act.put]; done)) (by first | rfl | (simp [Act.eval]; done) | (simp [Act.eval, Act.put]; done)) hr ?_
        clear hr
        refine hK.out _ _ (unhide SK _ (unhide T6_11_2_5).bel) (fun hHeld => ?_)
        clear hK K
        refine wpAnyH_ready (rs := [9]) (by kernel_rfl) (by simp) ?_
        refine AllReadyH.cons rfl (fun K hK => ?_) AllReadyH.nil
        obtain ⟨g12, k12, u6_11_2_5_9, hr, hs8⟩ := (unhide T6_11_2_5).appF (l := ⟨fa, fn, fc⟩) (unhide RF) hfn (unhide CF)
        have T6_11_2_5_9 := hide hs8
        clear hs8
        refine us_stepApp rfl (.tmp 12) (.tmp 14) 24 rfl _ _ (.slice (some ⟨g12, 0, none⟩) fn k12) u6_11_2_5_9 (by first | rfl | (simp [Act.eval]; done) | (simp [Act.eval, Act.put]; done)) (by first | rfl | (simp [Act.eval]; done) | (simp [Act.eval, Act.put]; done)) hr ?_
        clear hr
        refine hK.out _ _ (unhide SK _ (unhide T6_11_2_5_9).bel) (fun hHeld => ?_)
        clear hK K
        refine anyH_take 10 16 (v := ?v18) rfl rfl (by kernel_rfl) (by kernel_rfl) (by kernel_rfl) (fun _ _ _ h => h) (by rfl) ?h18 hHeld ?r18
        case h18 => (intro w hSw; (try dsimp only at hSw); go_simp; try (with_reducible rfl))
        simp only [Act.put, List.setIfInBounds_toArray]
        refine wpAnyH_ready (rs := [12]) (by kernel_rfl) (by simp) ?_
        refine AllReadyH.cons rfl (fun K hK => ?_) AllReadyH.nil
        obtain ⟨l', f', e1, e2, hT3, hb3⟩ := VgSt.store (next := d.next) (unhide T6_11_2_5_9)
        have y0 := (heap_at ((unhide T6_11_2_5_9).t tb rfl).2 0).1
        have y1 := (heap_at ((unhide T6_11_2_5_9).t tb rfl).2 1).1
        have y2 := (heap_at ((unhide T6_11_2_5_9).t tb rfl).2 2).1
        have y3 := (heap_at ((unhide T6_11_2_5_9).t tb rfl).2 3).1
        have x0 := (heap_at ((unhide T6_11_2_5_9).t tb rfl).2 0).2
        have x1 := (heap_at ((unhide T6_11_2_5_9).t tb rfl).2 1).2
        have x2 := (heap_at ((unhide T6_11_2_5_9).t tb rfl).2 2).2
        have x3 := (heap_at ((unhide T6_11_2_5_9).t tb rfl).2 3).2
        have TF := hide hT3
        have BF := hide hb3
        clear hT3 hb3 e1 e2
        go_simp
        refine hK.out _ _ (unhide SK _ (unhide BF)) (fun hHeld => ?_)
        clear hK K
        refine wpAnyH_done (by kernel_rfl) ?_ _
        go_wp2_with fail
        go_meet
        case rel => exact ⟨tb, l', f', rfl, TF, BF⟩
    · have T11 := hide (unhide T0).litT
      go_simp
      generalize u0.alloc (.cells #[.int .i64 0, .slice none 0 0, .slice none 0 0, .slice none 0 0] 27) = u11 at *
      generalize u0.heap.size = tb at *
      refine hK.out _ _ (unhide SK _ (unhide T11).bel) (fun hHeld => ?_)
      clear hK K
      refine wpAnyH_ready (rs := [2, 6]) (by kernel_rfl) (by simp) ?_
      refine AllReadyH.cons rfl (fun K hK => ?_) (AllReadyH.cons rfl (fun K hK => ?_) AllReadyH.nil)
      · have T11_2 := hide (unhide T11).litV
        go_simp
        generalize u11.alloc (.cells #[] 39) = u11_2 at *
        generalize u11.heap.size = g5 at *
        refine hK.out _ _ (unhide SK _ (unhide T11_2).bel) (fun hHeld => ?_)
        clear hK K
        refine wpAnyH_ready (rs := [5, 6]) (by kernel_rfl) (by simp) ?_
        refine AllReadyH.cons rfl (fun K hK => ?_) (AllReadyH.cons rfl (fun K hK => ?_) AllReadyH.nil)
        · obtain ⟨g8, k8, u11_2_5, hr, hs8⟩ := (unhide T11_2).appV (l := ⟨la, ln, lc⟩) (unhide RV) hln (unhide CL)
          have T11_2_5 := hide hs8
          clear hs8
          refine us_stepApp rfl (.tmp 8) (.tmp 10) 23 rfl _ _ (.slice (some ⟨g8, 0, none⟩) ln k8) u11_2_5 (by first | rfl | (simp [Act.eval]; done) | (simp [Act.eval, Act.put]; done)) (by first | rfl | (simp [Act.eval]; done) | (simp [Act.eval, Act.put]; done)) hr ?_
          clear hr
          refine hK.out _ _ (unhide SK _ (unhide T11_2_5).bel) (fun hHeld => ?_)
          clear hK K
          refine wpAnyH_ready (rs := [6]) (by kernel_rfl) (by simp) ?_
          refine AllReadyH.cons rfl (fun K hK => ?_) AllReadyH.nil
          have T11_2_5_6 := hide (unhide T11_2_5).litF
          go_simp
          generalize u11_2_5.alloc (.cells #[] 90) = u11_2_5_6 at *
          generalize u11_2_5.heap.size = g9 at *
          refine hK.out _ _ (unhide SK _ (unhide T11_2_5_6).bel) (fun hHeld => ?_)
          clear hK K
          refine wpAnyH_ready (rs := [9]) (by kernel_rfl) (by simp) ?_
          refine AllReadyH.cons rfl (fun K hK => ?_) AllReadyH.nil
          obtain ⟨g12, k12, u11_2_5_6_9, hr, hs8⟩ := (unhide T11_2_5_6).appF (l := ⟨fa, fn, fc⟩) (unhide RF) hfn (unhide CF)
          have T11_2_5_6_9 := hide hs8
          clear hs8
          refine us_stepApp rfl (.tmp 12) (.tmp 14) 24 rfl _ _ (.slice (some ⟨g12, 0, none⟩) fn k12) u11_2_5_6_9 (by first | rfl | (simp [Act.eval]; done) | (simp [Act.eval, Act.put]; done)) (by first | rfl | (simp [Act.eval]; done) | (simp [Act.eval, Act.put]; done)) hr ?_
          clear hr
          refine hK.out _ _ (unhide SK _ (unhide T11_2_5_6_9).bel) (fun hHeld => ?_)
          clear hK K
          refine anyH_take 10 16 (v := ?v19) rfl rfl (by kernel_rfl) (by kernel_rfl) (by kernel_rfl) (fun _ _ _ h => h) (by rfl) ?h19 hHeld ?r19
          case h19 => (intro w hSw; (try dsimp only at hSw); go_simp; try (with_reducible rfl))
          simp only [Act.put, List.setIfInBounds_toArray]
          refine wpAnyH_ready (rs := [12]) (by kernel_rfl) (by simp) ?_
          refine AllReadyH.cons rfl (fun K hK => ?_) AllReadyH.nil
          obtain ⟨l', f', e1, e2, hT3, hb3⟩ := VgSt.store (next := d.next) (unhide T11_2_5_6_9)
          have y0 := (heap_at ((unhide T11_2_5_6_9).t tb rfl).2 0).1
          have y1 := (heap_at ((unhide T11_2_5_6_9).t tb rfl).2 1).1
          have y2 := (heap_at ((unhide T11_2_5_6_9).t tb rfl).2 2).1
          have y3 := (heap_at ((unhide T11_2_5_6_9).t tb rfl).2 3).1
          have x0 := (heap_at ((unhide T11_2_5_6_9).t tb rfl).2 0).2
          have x1 := (heap_at ((unhide T11_2_5_6_9).t tb rfl).2 1).2
          have x2 := (heap_at ((unhide T11_2_5_6_9).t tb rfl).2 2).2
          have x3 := (heap_at ((unhide T11_2_5_6_9).t tb rfl).2 3).2
          have TF := hide hT3
          have BF := hide hb3
          clear hT3 hb3 e1 e2
          go_simp
          refine hK.out _ _ (unhide SK _ (unhide BF)) (fun hHeld => ?_)
          clear hK K
          refine wpAnyH_done (by kernel_rfl) ?_ _
          go_wp2_with fail
          go_meet
          case rel => exact ⟨tb, l', f', rfl, TF, BF⟩
        · have T11_2_6 := hide (unhide T11_2).litF
          go_simp
          generalize u11_2.alloc (.cells #[] 90) = u11_2_6 at *
          generalize u11_2.heap.size = g9 at *
          refine hK.out _ _ (unhide SK _ (unhide T11_2_6).bel) (fun hHeld => ?_)
          clear hK K
          refine wpAnyH_ready (rs := [5]) (by kernel_rfl) (by simp) ?_
          refine AllReadyH.cons rfl (fun K hK => ?_) AllReadyH.nil
          obtain ⟨g8, k8, u11_2_6_5, hr, hs8⟩ := (unhide T11_2_6).appV (l := ⟨la, ln, lc⟩) (unhide RV) hln (unhide CL)
          have T11_2_6_5 := hide hs8
          clear hs8
          refine us_stepApp rfl (.tmp 8) (.tmp 10) 23 rfl _ _ (.slice (some ⟨g8, 0, none⟩) ln k8) u11_2_6_5 (by first | rfl | (simp [Act.eval]; done) | (simp [Act.eval, Act.put]; done)) (by first | rfl | (simp [Act.eval]; done) | (simp [Act.eval, Act.put]; done)) hr ?_
          clear hr
          refine hK.out _ _ (unhide SK _ (unhide T11_2_6_5).bel) (fun hHeld => ?_)
          clear hK K
          refine wpAnyH_ready (rs := [9]) (by kernel_rfl) (by simp) ?_
          refine AllReadyH.cons rfl (fun K hK => ?_) AllReadyH.nil
          obtain ⟨g12, k12, u11_2_6_5_9, hr, hs8⟩ := (unhide T11_2_6_5).appF (l := ⟨fa, fn, fc⟩) (unhide RF) hfn (unhide CF)
          have T11_2_6_5_9 := hide hs8
          clear hs8
          refine us_stepApp rfl (.tmp 12) (.tmp 14) 24 rfl _ _ (.slice (some ⟨g12, 0, none⟩) fn k12) u11_2_6_5_9 (by first | rfl | (simp [Act.eval]; done) | (simp [Act.eval, Act.put]; done)) (by first | rfl | (simp [Act.eval]; done) | (simp [Act.eval, Act.put]; done)) hr ?_
          clear hr
          refine hK.out _ _ (unhide SK _ (unhide T11_2_6_5_9).bel) (fun hHeld => ?_)
          clear hK K
          refine anyH_take 10 16 (v := ?v20) rfl rfl (by kernel_rfl) (by kernel_rfl) (by kernel_rfl) (fun _ _ _ h => h) (by rfl) ?h20 hHeld ?r20
          case h20 => (intro w hSw; (try dsimp only at hSw); go_simp; try (with_reducible rfl))
          simp only [Act.put, List.setIfInBounds_toArray]
          refine wpAnyH_ready (rs := [12]) (by kernel_rfl) (by simp) ?_
          refine AllReadyH.cons rfl (fun K hK => ?_) AllReadyH.nil
          obtain ⟨l', f', e1, e2, hT3, hb3⟩ := VgSt.store (next := d.next) (unhide T11_2_6_5_9)
          have y0 := (heap_at ((unhide T11_2_6_5_9).t tb rfl).2 0).1
          have y1 := (heap_at ((unhide T11_2_6_5_9).t tb rfl).2 1).1
          have y2 := (heap_at ((unhide T11_2_6_5_9).t tb rfl).2 2).1
          have y3 := (heap_at ((unhide T11_2_6_5_9).t tb rfl).2 3).1
          have x0 := (heap_at ((unhide T11_2_6_5_9).t tb rfl).2 0).2
          have x1 := (heap_at ((unhide T11_2_6_5_9).t tb rfl).2 1).2
          have x2 := (heap_at ((unhide T11_2_6_5_9).t tb rfl).2 2).2
          have x3 := (heap_at ((unhide T11_2_6_5_9).t tb rfl).2 3).2
          have TF := hide hT3
          have BF := hide hb3
          clear hT3 hb3 e1 e2
          go_simp
          refine hK.out _ _ (unhide SK _ (unhide BF)) (fun hHeld => ?_)
          clear hK K
          refine wpAnyH_done (by kernel_rfl) ?_ _
          go_wp2_with fail
          go_meet
          case rel => exact ⟨tb, l', f', rfl, TF, BF⟩
      · have T11_6 := hide (unhide T11).litF
        go_simp
        generalize u11.alloc (.cells #[] 90) = u11_6 at *
        generalize u11.heap.size = g9 at *
        refine hK.out _ _ (unhide SK _ (unhide T11_6).bel) (fun hHeld => ?_)
        clear hK K
        refine wpAnyH_ready (rs := [2]) (by kernel_rfl) (by simp) ?_
        refine AllReadyH.cons rfl (fun K hK => ?_) AllReadyH.nil
        have T11_6_2 := hide (unhide T11_6).litV
        go_simp
        generalize u11_6.alloc (.cells #[] 39) = u11_6_2 at *
        generalize u11_6.heap.size = g5 at *
        refine hK.out _ _ (unhide SK _ (unhide T11_6_2).bel) (fun hHeld => ?_)
        clear hK K
        refine wpAnyH_ready (rs := [5]) (by kernel_rfl) (by simp) ?_
        refine AllReadyH.cons rfl (fun K hK => ?_) AllReadyH.nil
        obtain ⟨g8, k8, u11_6_2_5, hr, hs8⟩ := (unhide T11_6_2).appV (l := ⟨la, ln, lc⟩) (unhide RV) hln (unhide CL)
        have T11_6_2_5 := hide hs8
        clear hs8
        refine us_stepApp rfl (.tmp 8) (.tmp 10) 23 rfl _ _ (.slice (some ⟨g8, 0, none⟩) ln k8) u11_6_2_5 (by first | rfl | (simp [Act.eval]; done) | (simp [Act.eval, Act.put]; done)) (by first | rfl | (simp [Act.eval]; done) | (simp [Act.eval, Act.put]; done)) hr ?_
        clear hr
        refine hK.out _ _ (unhide SK _ (unhide T11_6_2_5).bel) (fun hHeld => ?_)
        clear hK K
        refine wpAnyH_ready (rs := [9]) (by kernel_rfl) (by simp) ?_
        refine AllReadyH.cons rfl (fun K hK => ?_) AllReadyH.nil
        obtain ⟨g12, k12, u11_6_2_5_9, hr, hs8⟩ := (unhide T11_6_2_5).appF (l := ⟨fa, fn, fc⟩) (unhide RF) hfn (unhide CF)
        have T11_6_2_5_9 := hide hs8
        clear hs8
        refine us_stepApp rfl (.tmp 12) (.tmp 14) 24 rfl _ _ (.slice (some ⟨g12, 0, none⟩) fn k12) u11_6_2_5_9 (by first | rfl | (simp [Act.eval]; done) | (simp [Act.eval, Act.put]; done)) (by first | rfl | (simp [Act.eval]; done) | (simp [Act.eval, Act.put]; done)) hr ?_
        clear hr
        refine hK.out _ _ (unhide SK _ (unhide T11_6_2_5_9).bel) (fun hHeld => ?_)
        clear hK K
        refine anyH_take 10 16 (v := ?v21) rfl rfl (by kernel_rfl) (by kernel_rfl) (by kernel_rfl) (fun _ _ _ h => h) (by rfl) ?h21 hHeld ?r21
        case h21 => (intro w hSw; (try dsimp only at hSw); go_simp; try (with_reducible rfl))
        simp only [Act.put, List.setIfInBounds_toArray]
        refine wpAnyH_ready (rs := [12]) (by kernel_rfl) (by simp) ?_
        refine AllReadyH.cons rfl (fun K hK => ?_) AllReadyH.nil
        obtain ⟨l', f', e1, e2, hT3, hb3⟩ := VgSt.store (next := d.next) (unhide T11_6_2_5_9)
        have y0 := (heap_at ((unhide T11_6_2_5_9).t tb rfl).2 0).1
        have y1 := (heap_at ((unhide T11_6_2_5_9).t tb rfl).2 1).1
        have y2 := (heap_at ((unhide T11_6_2_5_9).t tb rfl).2 2).1
        have y3 := (heap_at ((unhide T11_6_2_5_9).t tb rfl).2 3).1
        have x0 := (heap_at ((unhide T11_6_2_5_9).t tb rfl).2 0).2
        have x1 := (heap_at ((unhide T11_6_2_5_9).t tb rfl).2 1).2
        have x2 := (heap_at ((unhide T11_6_2_5_9).t tb rfl).2 2).2
        have x3 := (heap_at ((unhide T11_6_2_5_9).t tb rfl).2 3).2
        have TF := hide hT3
        have BF := hide hb3
        clear hT3 hb3 e1 e2
        go_simp
        refine hK.out _ _ (unhide SK _ (unhide BF)) (fun hHeld => ?_)
        clear hK K
        refine wpAnyH_done (by kernel_rfl) ?_ _
        go_wp2_with fail
        go_meet
        case rel => exact ⟨tb, l', f', rfl, TF, BF⟩
  case rest =>
    obtain ⟨tb, l', f', rfl, hG, hBc⟩ := hcut
    clear e0 e1 e2 RV RF S0 CL CF
    go_wp2_with fail
    go_loopw [4] (fun i wr => ∃ (k : Nat) (s' : Sl) (hs' : List SeH), i = .int .i64 (k : Int) ∧ k ≤ sn ∧ Hid (VgSt wr W.heap.size tb d.next l' f' s' hs' d.list d.fen) ∧ Hid (hs'.map (·.X) = d.ses.take k) ∧ Hid (Below W.heap.size W wr)) (fun i _ => sn - (intOf i).toNat)
    case atStart => exact ⟨0, _, _, rfl, Nat.zero_le _, hG, hide (by simp), hBc⟩
    case round =>
      clear hG hBc
      obtain ⟨k, s', hs', rfl, hk, hG, hX, hB⟩ := hrel
      have kv := ((unhide hB).block w.heap.size hz1).trans (unhide KV)
      have v3 := (heap_at kv 3).1
      have hwr := (unhide hB).size
      have HL := hide (show hs'.length = k by
        have e := congrArg List.length (unhide hX)
        rw [List.length_map, List.length_take, ← (unhide LN).2, (unhide LN).1] at e
        omega)
      by_cases hlt : k < sn
      case neg =>
        obtain rfl : k = sn := by omega
        have ht : d.ses.take k = d.ses := List.take_of_length_le (by rw [← (unhide LN).2, (unhide LN).1]; exact Nat.le_refl _)
        rw [ht] at hX
        have bx := (unhide hG).box
        have kr := ((unhide hB).block (w.heap.size + 1) hz2).trans (unhide KR)
        unfold vzC at bx
        have z0 := (heap_at bx 0).1
        have z1 := (heap_at bx 1).1
        have z2 := (heap_at bx 2).1
        have z3 := (heap_at bx 3).1
        have y0 := (heap_at kr 0).1
        have y1 := (heap_at kr 1).1
        have y2 := (heap_at kr 2).1
        have y3 := (heap_at kr 3).1
        have g0 := (heap_at kr 0).2
        have g1 := (heap_at kr 1).2
        have g2 := (heap_at kr 2).2
        have g3 := (heap_at kr 3).2
        have OWN : VzOwn wr W.heap.size l' f' s' hs' d := ⟨(unhide hG).vo, (unhide hG).fo, (unhide hG).so, unhide hX, (unhide hG).far⟩
        have hS := set4_wr wr (w.heap.size + 1) (.int .i64 d.next) (.slice l'.a l'.n l'.c) (.slice f'.a f'.n f'.c) (.slice s'.a s'.n s'.c)
        have bR := (unhide BH).trans ((unhide hB).mono (Nat.le_of_lt hz1))
        have RES := hide (show OvRes d w (.returned (.agg #[.int .i64 d.next, .slice l'.a l'.n l'.c, .slice f'.a f'.n f'.c, .slice s'.a s'.n s'.c])) _ from ⟨l', f', s', hs', rfl, (OWN.wr hS (fun i e => by rw [e]; exact hz2)).dn (Nat.le_of_lt hz1), bR.trans (WrB.below hS (fun i e => by rw [e]; exact Nat.le_succ _) bR.size)⟩)
        clear kv kr bx OWN hS bR hG hX ht
        go_wp2_with fail
        refine bodyPost_ret (v := .agg #[.int .i64 d.next, .slice l'.a l'.n l'.c, .slice f'.a f'.n f'.c, .slice s'.a s'.n s'.c]) (by simp [results, Tryz.results22, go_sem, *]) rfl ?_
        exact unhide RES
      have hk2 : k < hs.length := by rw [(unhide LN).1]; exact hlt
      have hkn : (k : Int) < (sn : Int) := by omega
      obtain ⟨b, off, rfl, hbl, c0, c1, c2⟩ := SeIn.cells ((unhide HI).below (unhide hB)).sr hk2
      have RW := hide (SeIn.row (unhide HI).sr hk2)
      have CC := hide (unhide CW hs[k] (List.getElem_mem hk2))
      have hwn := unhide SN hs[k] (List.getElem_mem hk2)
      have XN := hide (show ∀ y : SeH, y.X = hs[k].X → (hs' ++ [y]).map (·.X) = d.ses.take (k + 1) from fun y e => by
        obtain ⟨hd, hx⟩ := (unhide HI).at hk2
        rw [rb_take_snoc d.ses k hd, List.map_append, unhide hX, List.map_singleton, e, hx])
      generalize hs[k] = x at *
      obtain ⟨⟨xo, xt, ws⟩, ⟨wa, wn, wc⟩⟩ := x
      simp only at c0 c1 c2 RW CC hwn XN
      have bA : Below wr.heap.size wr (wr.alloc (.cells #[.bool xo, .int .i64 xt, .slice wa wn wc] 93)) := (Below.refl _ _).alloc (Nat.le_refl _) _
      have kA := heap_alloc_new wr (.cells #[.bool xo, .int .i64 xt, .slice wa wn wc] 93)
      have BA := hide bA
      have KA := hide kA
      clear bA kA kv hX
      go_upto_region 6 with fail
      clear c0 c1 c2 v3 hkn
      generalize hwa : wr.alloc (.cells #[.bool xo, .int .i64 xt, .slice wa wn wc] 93) = u1 at *
      clear hwa
      have hsb : wr.heap.size < u1.heap.size := blk_lt (unhide KA)
      have hu1 := (unhide BA).size
      have bL : Below u1.heap.size u1 (u1.alloc (.cells #[] 39)) := (Below.refl _ _).alloc (Nat.le_refl _) _
      have OL := nil_lit (w := u1) 39 4
      have BL := (unhide BA).trans (bL.mono hu1)
      obtain ⟨g6, k6, u2, hr6, ho6, hg6, -⟩ := v_appS (ds := []) (c := wc) 23 OL (by simp) ((unhide RW).below ((unhide hB).trans (BL.mono hwr))) (unhide CC).2 (by simp; omega) bL.size
      have hw6 := WrB.of_grown hg6
      simp only [List.length_nil, Nat.zero_add, List.nil_append] at hr6 ho6
      have B2 := bL.trans (WrB.below hw6 (fun i hi => (OL.lt i hi).1) bL.size)
      have KB := (B2.block wr.heap.size hsb).trans (unhide KA)
      have q2 := (heap_at KB 2).1
      have p2 := (heap_at KB 2).2
      have KC : (u2.setCell ⟨wr.heap.size, 2, none⟩ (.slice (some ⟨g6, 0, none⟩) wn k6)).heap[wr.heap.size]? = some (.cells #[.bool xo, .int .i64 xt, .slice (some ⟨g6, 0, none⟩) wn k6] 93 (0, 0)) := by have := heap_set KB 2 (.slice (some ⟨g6, 0, none⟩) wn k6); simpa using this
      have hS6 := set1_wr u2 wr.heap.size 2 (.slice (some ⟨g6, 0, none⟩) wn k6)
      have B3 := hide (show Below wr.heap.size wr (u2.setCell ⟨wr.heap.size, 2, none⟩ (.slice (some ⟨g6, 0, none⟩) wn k6)) from ((unhide BA).trans (B2.mono hu1)).trans (WrB.below hS6 (fun i e => by rw [e]; exact Nat.le_refl _) (Nat.le_trans hu1 B2.size)))
      have O3 := hide (gd_base (own_keep ho6 KB (by decide) hS6) hu1)
      have KD := hide KC
      have z2 := (heap_at (unhide KA) 2).1
      have z2L : (u1.alloc (.cells #[] 39)).cell? ⟨wr.heap.size, 2, none⟩ = some (.slice wa wn wc) := (bL.cell (p := ⟨wr.heap.size, 2, none⟩) hsb).trans z2
      clear hw6 hg6 ho6 KB KC hS6 B2 bL OL BL z2
      clear KA BA
      go_upto_region 7 with (at_builtin; refine ky_wpApp rfl (.tmp 29) (.tmp 31) 23 rfl _ _ _ u2 rfl rfl hr6 ?_)
      clear hr6 q2 p2 z2L hsb hu1
      generalize u2.setCell ⟨wr.heap.size, 2, none⟩ (.slice (some ⟨g6, 0, none⟩) wn k6) = u3 at *
      obtain ⟨s5, u5, hs5, hr5, G5, B5, K5, E5⟩ := (unhide hG).ses (unhide B3) ⟨⟨xo, xt, ws⟩, ⟨some ⟨g6, 0, none⟩, wn, k6⟩⟩ (unhide O3) (by rw [unhide HL]; omega) hwr
      have bx := ((unhide hG).below (unhide B3)).box
      unfold vzC at bx K5
      have t3 := (heap_at bx 3).1
      have r0 := (heap_at (unhide KD) 0).1
      have r1 := (heap_at (unhide KD) 1).1
      have r2 := (heap_at (unhide KD) 2).1
      have t5 := (heap_at K5 3).1
      have p5 := (heap_at K5 3).2
      have GX := hide G5
      have BX := hide ((unhide hB).trans B5)
      have XX := hide (unhide XN ⟨⟨xo, xt, ws⟩, ⟨some ⟨g6, 0, none⟩, wn, k6⟩⟩ rfl)
      simp only at hr5
      clear G5 B5 K5 E5 bx KD B3 O3 hG hB hs5
      obtain ⟨s5a, s5n, s5c⟩ := s5
      obtain ⟨s'a, s'n, s'c⟩ := s'
      simp only at hr5 t3 t5 GX BX
      go_wp2_with (at_builtin; refine ky_wpApp rfl (.tmp 35) (.tmp 37) 25 rfl _ _ _ u5 rfl rfl hr5 ?_)
      go_roundw
      case rel => exact ⟨k + 1, _, _, by go_num, by omega, GX, XX, BX⟩
      case measure => simp [intOf]; omega
end Go.Proofs.YtfajenejngddeaaGreat

namespace Go.Proofs.YtfajenejngddeaaGreat
open Go.RowKit

def noSe : SeH := ⟨clS, ⟨none, 0, 0⟩⟩
theorem no_el : ∀ n : Nat, ((List.replicate n noSe).map seEl).flatMap (·.hd) = (List.replicate n [Value.bool false, .int .i64 0, .slice none 0 0]).flatten
  | 0 => rfl
  | n + 1 => by rw [List.replicate_succ, List.replicate_succ, List.map_cons, List.flatMap_cons, no_el n]; rfl
theorem no_own {w : World} {B g : Nat} (h : w.ownsRow B 93 3 (.slice (some ⟨g, 0, none⟩) 4 4) 4 (madeCells #[Value.bool false, .int .i64 0, .slice none 0 0] (4 * 3)).toList) : SeOwn w B (.slice (some ⟨g, 0, none⟩) 4 4) (List.replicate 4 noSe) := by
  have sb : ∀ k a x, sbAt ((List.replicate 4 noSe).map seEl) k a = some x → x.v = .slice none 0 0 ∧ x.n = 0 ∧ x.cs = [] := fun k a x hx => by
    obtain ⟨e, he, hxe⟩ := sbAt_mem hx
    obtain ⟨y, hy, rfl⟩ := List.mem_map.1 he
    rw [List.eq_of_mem_replicate hy] at hxe
    rw [List.mem_singleton.1 hxe]
    exact ⟨rfl, rfl, rfl⟩
  refine ⟨?_, rfl, seEl_wid _, fun k a x hx => ?_, fun k l a b x y hx hy _ g h1 => ?_, fun k a x hx g _ h1 => ?_⟩
  · rw [no_el, ← smade]
    exact h
  · obtain ⟨e1, e2, e3⟩ := sb k a x hx
    rw [e1, e2, e3]
    exact World.ownsRow_nil _ _ _ _
  · rw [(sb k a x hx).1] at h1; cases h1
  · rw [(sb k a x hx).1] at h1; cases h1
set_option maxRecDepth 100000 in
set_option maxHeartbeats 1000000 in
theorem l06New_any (w : World) : Calls Tryz.prog 20 #[] w fun e w' => OvRes newV w e w' := by
  obtain ⟨i0, hi, hz0, hz1, hz2⟩ := info_parts Tryz.infoSe
  have bA : Below w.heap.size w (w.alloc (.cells #[.int .i64 0, .slice none 0 0, .slice none 0 0, .slice none 0 0] 27)) := (Below.refl _ _).alloc (Nat.le_refl _) _
  have kA := heap_alloc_new w (.cells #[.int .i64 0, .slice none 0 0, .slice none 0 0, .slice none 0 0] 27)
  have hz : w.heap.size < (w.alloc (.cells #[.int .i64 0, .slice none 0 0, .slice none 0 0, .slice none 0 0] 27)).heap.size := by simp
  go_enter Tryz.func20, Tryz.ntmps20
  go_upto_region 1 with fail
  generalize w.alloc (.cells #[.int .i64 0, .slice none 0 0, .slice none 0 0, .slice none 0 0] 27) = W at *
  go_wp2_with (at_make; refine wpList_make_full _ rfl _ _ 25 rfl W.heap.size 93 i0 _ 3 Tryz.underlying25 hi hz0 hz1 _ _ _ _ 4 rfl rfl rfl rfl (by rw [hz2]; omega) (by unfold maxLen; omega) (Nat.le_refl _) ?_)
  intro w1 hown hgrow
  have b1 : Below W.heap.size W w1 := (Below.refl _ _).grown hgrow (Nat.le_refl _) (fun k hk => by cases hk)
  have k1 := (b1.block w.heap.size hz).trans kA
  have y0 := (heap_at k1 0).1
  have y1 := (heap_at k1 1).1
  have y2 := (heap_at k1 2).1
  have y3 := (heap_at k1 3).1
  have g0 := (heap_at k1 0).2
  have g1 := (heap_at k1 1).2
  have g2 := (heap_at k1 2).2
  have g3 := (heap_at k1 3).2
  have OWN : VzOwn w1 W.heap.size ⟨none, 0, 0⟩ ⟨none, 0, 0⟩ ⟨some ⟨W.heap.size, 0, none⟩, 4, 4⟩ (List.replicate 4 noSe) newV := ⟨World.ownsRow_nil _ _ _ _, World.ownsRow_nil _ _ _ _, no_own hown, rfl, fun i hi => by cases hi⟩
  have hS := set4_wr w1 w.heap.size (.int .i64 1) (.slice none 0 0) (.slice none 0 0) (.slice (some ⟨W.heap.size, 0, none⟩) 4 4)
  have bR := bA.trans (b1.mono (Nat.le_of_lt hz))
  have RES := hide (show OvRes newV w (.returned (.agg #[.int .i64 1, .slice none 0 0, .slice none 0 0, .slice (some ⟨W.heap.size, 0, none⟩) 4 4])) _ from ⟨⟨none, 0, 0⟩, ⟨none, 0, 0⟩, ⟨some ⟨W.heap.size, 0, none⟩, 4, 4⟩, _, rfl, (OWN.wr hS (fun i e => by rw [e]; exact hz)).dn (Nat.le_of_lt hz), bR.trans (WrB.below hS (fun i e => by rw [e]; exact Nat.le_refl _) bR.size)⟩)
  clear OWN hS bR hown hgrow k1 kA
  go_wp2_with fail
  refine bodyPost_ret (v := .agg #[.int .i64 1, .slice none 0 0, .slice none 0 0, .slice (some ⟨W.heap.size, 0, none⟩) 4 4]) (by simp [results, Tryz.results20, go_sem, *]) rfl ?_
  exact unhide RES
theorem threeBx {w : World} {c1 c2 c3 : Array Value} {t1 t2 t3 : TypeId} {W : World} (hW : W = ((w.alloc (.cells c1 t1)).alloc (.cells c2 t2)).alloc (.cells c3 t3)) :
    Below w.heap.size w W ∧ W.heap[w.heap.size]? = some (.cells c1 t1 (0, 0)) ∧ W.heap[w.heap.size + 1]? = some (.cells c2 t2 (0, 0)) ∧ W.heap[w.heap.size + 1 + 1]? = some (.cells c3 t3 (0, 0)) ∧ W.heap.size = w.heap.size + 1 + 1 + 1 := by
  obtain ⟨b, k1, k2, hz⟩ := twoBx (w := w) (c1 := c1) (c2 := c2) (t1 := t1) (t2 := t2) rfl
  subst hW
  have bA := (Below.refl ((w.alloc (.cells c1 t1)).alloc (.cells c2 t2)).heap.size ((w.alloc (.cells c1 t1)).alloc (.cells c2 t2))).alloc (Nat.le_refl _) (.cells c3 t3)
  refine ⟨b.trans (bA.mono b.size), (bA.block _ (by omega)).trans k1, (bA.block _ (by omega)).trans k2, ?_, by simp⟩
  rw [← hz]
  exact heap_alloc_new _ _
/-- The list of versions behind so many writes. -/
def putTo (d : VsD) (ws : List VerD) (k : Nat) : List VerD := (ws.take k).foldl insV d.list
theorem putTo_succ (d : VsD) (ws : List VerD) {k : Nat} (h : k < ws.length) : putTo d ws (k + 1) = insV (putTo d ws k) ws[k] := by
  unfold putTo
  rw [takeG_snoc ws k h, List.foldl_append]
  rfl
theorem putTo_len (d : VsD) (ws : List VerD) : ∀ k, k ≤ ws.length → (putTo d ws k).length ≤ d.list.length + k
  | 0, _ => by simp [putTo]
  | k + 1, h => by
    rw [putTo_succ d ws (by omega)]
    have := putTo_len d ws k (by omega)
    have := insV_len (putTo d ws k) ws[k]
    omega
/-- What a commit leaves of versions of the call's own. -/
def CmRes (d : VsD) (ws : List VerD) (l f s : Sl) (w : World) (e : Ending) (w' : World) : Prop :=
  if ws.any (conV d) = true then e = .returned (.tuple #[.agg (vzC d.next l f s), .int .i64 9]) ∧ Below w.heap.size w w'
  else ∃ l' : Sl, e = .returned (.tuple #[.agg (vzC d.next l' f s), .int .i64 0]) ∧ ((l' = l ∧ ws.foldl insV d.list = d.list) ∨ VOwns w' w.heap.size (.slice l'.a l'.n l'.c) (ws.foldl insV d.list)) ∧ Below w.heap.size w w'
set_option maxRecDepth 100000 in
set_option maxHeartbeats 8000000 in
theorem l06Commit_any (d : VsD) (l f s wl : Sl) (o : Bool) (t : Int) (ws : List VerD) (w : World) (hl : VRow w l.a l.n d.list) (hf : FRow w f.a f.n d.fen) (hc : Cap l) (hln : d.list.length + ws.length ≤ 900000) (hfn : f.n ≤ 1000000) (hw : VRow w wl.a wl.n ws) :
    Calls Tryz.prog 61 #[.agg (vzC d.next l f s), .agg (sesC o t wl)] w fun e w' => CmRes d ws l f s w e w' := by
  obtain ⟨la, ln, lc⟩ := l
  obtain ⟨fa, fn, fc⟩ := f
  obtain ⟨sa, sn, sc⟩ := s
  obtain ⟨wa, wn, wc⟩ := wl
  have CFL := hide (fun (u : World) (hb : Below w.heap.size w u) (x : VerD) => l06Conflict_any d.next ⟨la, ln, lc⟩ ⟨fa, fn, fc⟩ ⟨sa, sn, sc⟩ d x u (hl.below hb) (hf.below hb) (by have := hl.1; simp only at this ⊢; omega) hfn)
  unfold vzC sesC at *
  simp only at hl hf hfn hw CFL ⊢
  obtain ⟨W, hW⟩ : ∃ W, W = ((w.alloc (.cells #[.int .i64 d.next, .slice la ln lc, .slice fa fn fc, .slice sa sn sc] 27)).alloc (.cells #[.bool o, .int .i64 t, .slice wa wn wc] 93)).alloc (.cells #[.int .i64 0, .slice none 0 0, .slice none 0 0, .slice none 0 0] 27) := ⟨_, rfl⟩
  obtain ⟨b1, kv, ks, kr, hz⟩ := threeBx hW
  have KV := hide kv
  have KS := hide ks
  have KR := hide kr
  have BH := hide b1
  have HZ := hide hz
  have HL := hide hl
  have HW := hide hw
  have LW := hide hw.1
  have LL := hide hl.1
  have HC := hide hc
  have PS := hide (fun k (h : k < ws.length) => putTo_succ d ws h)
  have PN := hide (fun k h => putTo_len d ws k h)
  have hlw : d.list.length + wn ≤ 900000 := by have := hw.1; omega
  have hb0 : w.heap.size < W.heap.size := by omega
  have hb1 : w.heap.size + 1 < W.heap.size := by omega
  have hb2 : w.heap.size + 1 + 1 < W.heap.size := by omega
  clear hl hf hw b1 kv ks kr hz hc hln
  go_enter Tryz.func61, Tryz.ntmps61
  go_wp2_with fail
  rw [← hW]
  clear hW
  go_loopw [6] (fun i wr => ∃ k : Nat, i = .int .i64 (k : Int) ∧ k ≤ wn ∧ Hid (∀ i (hi : i < ws.length), i < k → conV d ws[i] = false) ∧ Hid (Below W.heap.size W wr)) (fun i _ => wn - (intOf i).toNat)
  case atStart => exact ⟨0, rfl, Nat.zero_le _, (fun i _ h => absurd h (Nat.not_lt_zero _)), Below.refl _ _⟩
  case round =>
    obtain ⟨k, rfl, hk, hN, hB⟩ := hrel
    have kv := ((unhide hB).block w.heap.size hb0).trans (unhide KV)
    have ks := ((unhide hB).block (w.heap.size + 1) hb1).trans (unhide KS)
    have s2 := (heap_at ks 2).1
    have hwr := (unhide hB).size
    by_cases hlt : k < wn
    · have hk2 : k < ws.length := by rw [unhide LW]; exact hlt
      obtain ⟨b, off, rfl, d0, d1, d2, d3⟩ := ((unhide HW).below ((unhide BH).trans ((unhide hB).mono (unhide BH).size))).2 k hk2
      have hkn : (k : Int) < (wn : Int) := by omega
      have v0 := (heap_at kv 0).1
      have v1 := (heap_at kv 1).1
      have v2 := (heap_at kv 2).1
      have v3 := (heap_at kv 3).1
      have UP := hide (fun h => up_to (P := fun y : VerD => conV d y = false) hk2 (unhide hN) h)
      have YES := hide (show conV d ws[k] = true → ws.any (conV d) = true from fun h => List.any_eq_true.2 ⟨_, List.getElem_mem hk2, h⟩)
      have SC := hide (fun (u : World) (hb : Below wr.heap.size wr u) => (unhide CFL u ((unhide BH).trans (((unhide hB).trans (hb.mono hwr)).mono (unhide BH).size)) ws[k]).mono fun e u' h => show e = .returned (.bool (conV d ws[k])) ∧ Below wr.heap.size wr u' from ⟨h.1, hb.trans (h.2.mono hb.size)⟩)
      generalize ws[k] = pd at *
      have SK := hide (show ∀ u, Below wr.heap.size wr u → (u.cell? ⟨w.heap.size, 0, none⟩ = some (.int .i64 d.next) ∧ u.cell? ⟨w.heap.size, 1, none⟩ = some (.slice la ln lc) ∧ u.cell? ⟨w.heap.size, 2, none⟩ = some (.slice fa fn fc) ∧ u.cell? ⟨w.heap.size, 3, none⟩ = some (.slice sa sn sc) ∧ u.cell? ⟨w.heap.size + 1, 2, none⟩ = some (.slice (some ⟨b, off, none⟩) wn wc) ∧ u.cell? ⟨b, off + k * 4, none⟩ = some (.string pd.k) ∧ u.cell? ⟨b, off + k * 4 + 1, none⟩ = some (.int .i64 pd.t) ∧ u.cell? ⟨b, off + k * 4 + 2, none⟩ = some (.string pd.v) ∧ u.cell? ⟨b, off + k * 4 + 3, none⟩ = some (.bool pd.g)) from fun u hb =>
        ⟨(hb.cell (p := ⟨w.heap.size, 0, none⟩) (cell_lt v0)).trans v0, (hb.cell (p := ⟨w.heap.size, 1, none⟩) (cell_lt v1)).trans v1, (hb.cell (p := ⟨w.heap.size, 2, none⟩) (cell_lt v2)).trans v2, (hb.cell (p := ⟨w.heap.size, 3, none⟩) (cell_lt v3)).trans v3, (hb.cell (p := ⟨w.heap.size + 1, 2, none⟩) (cell_lt s2)).trans s2, (hb.cell (p := ⟨b, off + k * 4, none⟩) (cell_lt d0)).trans d0, (hb.cell (p := ⟨b, off + k * 4 + 1, none⟩) (cell_lt d1)).trans d1, (hb.cell (p := ⟨b, off + k * 4 + 2, none⟩) (cell_lt d2)).trans d2, (hb.cell (p := ⟨b, off + k * 4 + 3, none⟩) (cell_lt d3)).trans d3⟩)
      obtain ⟨pk, pt, pv, pg⟩ := pd
      unfold vv at SC
      simp only at SC SK
      have G0 : Below wr.heap.size wr wr.drew := (Below.refl _ _).drew
      clear d0 d1 d2 d3 v0 v1 v2 v3 kv ks hN
      go_upto_region 4 with fail
      clear s2
      refine wp_region_held_drew (S := (fun u => (u.cell? ⟨w.heap.size, 0, none⟩ = some (.int .i64 d.next) ∧ u.cell? ⟨w.heap.size, 1, none⟩ = some (.slice la ln lc) ∧ u.cell? ⟨w.heap.size, 2, none⟩ = some (.slice fa fn fc) ∧ u.cell? ⟨w.heap.size, 3, none⟩ = some (.slice sa sn sc) ∧ u.cell? ⟨w.heap.size + 1, 2, none⟩ = some (.slice (some ⟨b, off, none⟩) wn wc) ∧ u.cell? ⟨b, off + k * 4, none⟩ = some (.string pk) ∧ u.cell? ⟨b, off + k * 4 + 1, none⟩ = some (.int .i64 pt) ∧ u.cell? ⟨b, off + k * 4 + 2, none⟩ = some (.string pv) ∧ u.cell? ⟨b, off + k * 4 + 3, none⟩ = some (.bool pg)))) (by kernel_rfl) (unhide SK _ G0) (fun hHeld => ?_)
      refine anyH_take 0 15 (v := ?v1) rfl rfl (by kernel_rfl) (by kernel_rfl) (by kernel_rfl) (fun _ _ _ h => h) (by rfl) ?h1 hHeld ?r1
      case h1 => (intro w hSw; (try dsimp only at hSw); go_simp; try (with_reducible rfl))
      simp only [Act.put, List.setIfInBounds_toArray, List.set_cons_zero, List.set_cons_succ]
      refine anyH_take 1 16 (v := ?v2) rfl rfl (by kernel_rfl) (by kernel_rfl) (by kernel_rfl) (fun _ _ _ h => h) (by rfl) ?h2 hHeld ?r2
      case h2 => (intro w hSw; (try dsimp only at hSw); go_simp; try (with_reducible rfl))
      simp only [Act.put, List.setIfInBounds_toArray, List.set_cons_zero, List.set_cons_succ]
      refine anyH_take 2 17 (v := ?v3) rfl rfl (by kernel_rfl) (by kernel_rfl) (by kernel_rfl) (fun _ _ _ h => h) (by rfl) ?h3 hHeld ?r3
      case h3 => (intro w hSw; (try dsimp only at hSw); go_simp; try (with_reducible rfl))
      simp only [Act.put, List.setIfInBounds_toArray, List.set_cons_zero, List.set_cons_succ]
      refine anyH_take 3 18 (v := ?v4) rfl rfl (by kernel_rfl) (by kernel_rfl) (by kernel_rfl) (fun _ _ _ h => h) (by rfl) ?h4 hHeld ?r4
      case h4 => (intro w hSw; (try dsimp only at hSw); go_simp; try (with_reducible rfl))
      simp only [Act.put, List.setIfInBounds_toArray, List.set_cons_zero, List.set_cons_succ]
      refine anyH_take 4 19 (v := ?v5) rfl rfl (by kernel_rfl) (by kernel_rfl) (by kernel_rfl) (fun _ _ _ h => h) (by rfl) ?h5 hHeld ?r5
      case h5 => (intro w hSw; (try dsimp only at hSw); go_simp; try (with_reducible rfl))
      simp only [Act.put, List.setIfInBounds_toArray, List.set_cons_zero, List.set_cons_succ]
      refine anyH_take 5 20 (v := ?v6) rfl rfl (by kernel_rfl) (by kernel_rfl) (by kernel_rfl) (fun _ _ _ h => h) (by rfl) ?h6 hHeld ?r6
      case h6 => (intro w hSw; (try dsimp only at hSw); go_simp; try (with_reducible rfl))
      simp only [Act.put, List.setIfInBounds_toArray, List.set_cons_zero, List.set_cons_succ]
      refine wpAnyH_ready (rs := [6]) (by kernel_rfl) (by simp) ?_
      refine AllReadyH.cons rfl (fun K hK => ?_) AllReadyH.nil
      go_simp
      refine (unhide SC _ G0).mono ?_
      rintro e w2 ⟨rfl, b2⟩
      refine hK.out _ _ (unhide SK _ b2) (fun hHeld => ?_)
      clear hK K
      refine wpAnyH_done (by kernel_rfl) ?_ _
      clear SC SK hHeld G0
      have BF := hide ((unhide hB).trans (b2.mono hwr))
      clear hB b2
      generalize hcv : conV d ⟨pk, pt, pv, pg⟩ = cv at *
      cases cv with
      | false =>
        have Z := hide (unhide UP rfl)
        clear UP YES hcv
        go_wp2_with fail
        go_roundw
        case rel => exact ⟨k + 1, by go_num, by omega, unhide Z, unhide BF⟩
        case measure => simp [intOf]; omega
      | true =>
        have Z := hide (unhide YES rfl)
        clear UP YES hcv
        have kv := ((unhide BF).block w.heap.size hb0).trans (unhide KV)
        have kr := ((unhide BF).block (w.heap.size + 1 + 1) hb2).trans (unhide KR)
        have v0 := (heap_at kv 0).1
        have v1 := (heap_at kv 1).1
        have v2 := (heap_at kv 2).1
        have v3 := (heap_at kv 3).1
        have y0 := (heap_at kr 0).1
        have y1 := (heap_at kr 1).1
        have y2 := (heap_at kr 2).1
        have y3 := (heap_at kr 3).1
        have g0 := (heap_at kr 0).2
        have g1 := (heap_at kr 1).2
        have g2 := (heap_at kr 2).2
        have g3 := (heap_at kr 3).2
        have hS := set4_wr w2 (w.heap.size + 1 + 1) (.int .i64 d.next) (.slice la ln lc) (.slice fa fn fc) (.slice sa sn sc)
        have bR := (unhide BH).trans ((unhide BF).mono (unhide BH).size)
        have RES := hide (show CmRes d ws ⟨la, ln, lc⟩ ⟨fa, fn, fc⟩ ⟨sa, sn, sc⟩ w (.returned (.tuple #[.agg #[.int .i64 d.next, .slice la ln lc, .slice fa fn fc, .slice sa sn sc], .int .i64 9])) _ by
          unfold CmRes
          rw [if_pos (unhide Z)]
          exact ⟨rfl, bR.trans (WrB.below hS (fun i e => by rw [e]; omega) bR.size)⟩)
        clear kv kr hS bR
        go_wp2_with fail
        refine bodyPost_ret (v := .tuple #[.agg #[.int .i64 d.next, .slice la ln lc, .slice fa fn fc, .slice sa sn sc], .int .i64 9]) (by simp [results, Tryz.results61, go_sem, *]) rfl ?_
        exact unhide RES
    · obtain rfl : wn = k := by omega
      have NO := hide (show ¬ ws.any (conV d) = true from fun h => by
        obtain ⟨x, hx, hc⟩ := List.any_eq_true.1 h
        obtain ⟨i, hi, rfl⟩ := List.getElem_of_mem hx
        rw [unhide hN i hi (by have := unhide LW; omega)] at hc
        cases hc)
      have hW0 := (unhide BH).size
      clear hN kv ks
      go_wp2_with fail
      clear s2
      have L0 := hide (show putTo d ws 0 = d.list by simp [putTo])
      have PA := hide (show putTo d ws wn = ws.foldl insV d.list by unfold putTo; rw [← unhide LW, List.take_length])
      go_loopw [7] (fun i wr => ∃ (k : Nat) (l' : Sl), i = .int .i64 (k : Int) ∧ k ≤ wn ∧ Hid ((k = 0 ∧ l' = ⟨la, ln, lc⟩) ∨ VOwns wr W.heap.size (.slice l'.a l'.n l'.c) (putTo d ws k)) ∧ Hid (wr.heap[w.heap.size]? = some (.cells #[.int .i64 d.next, .slice l'.a l'.n l'.c, .slice fa fn fc, .slice sa sn sc] 27 (0, 0))) ∧ Hid (Below w.heap.size w wr) ∧ Hid (wr.heap[w.heap.size + 1]? = some (.cells #[.bool o, .int .i64 t, .slice wa wn wc] 93 (0, 0))) ∧ Hid (wr.heap[w.heap.size + 1 + 1]? = some (.cells #[.int .i64 0, .slice none 0 0, .slice none 0 0, .slice none 0 0] 27 (0, 0))) ∧ W.heap.size ≤ wr.heap.size) (fun i _ => wn - (intOf i).toNat)
      case atStart => exact ⟨0, ⟨la, ln, lc⟩, rfl, Nat.zero_le _, hide (.inl ⟨rfl, rfl⟩), ((unhide hB).block w.heap.size hb0).trans (unhide KV), (unhide BH).trans ((unhide hB).mono hW0), ((unhide hB).block (w.heap.size + 1) hb1).trans (unhide KS), ((unhide hB).block (w.heap.size + 1 + 1) hb2).trans (unhide KR), hwr⟩
      case round =>
        clear hB hwr
        obtain ⟨k, l', rfl, hk, hO, hV, hB, hS, hR, hwr⟩ := hrel
        have ROW := hide (show VRow wr l'.a l'.n (putTo d ws k) ∧ Cap l' by
          rcases unhide hO with ⟨rfl, rfl⟩ | h
          · rw [unhide L0]; exact ⟨(unhide HL).below (unhide hB), unhide HC⟩
          · exact ⟨vrow_of_owns h, cap_of_owns h⟩)
        have s2 := (heap_at (unhide hS) 2).1
        by_cases hlt : k < wn
        case neg =>
          obtain rfl : wn = k := by omega
          have v0 := (heap_at (unhide hV) 0).1
          have v1 := (heap_at (unhide hV) 1).1
          have v2 := (heap_at (unhide hV) 2).1
          have v3 := (heap_at (unhide hV) 3).1
          have y0 := (heap_at (unhide hR) 0).1
          have y1 := (heap_at (unhide hR) 1).1
          have y2 := (heap_at (unhide hR) 2).1
          have y3 := (heap_at (unhide hR) 3).1
          have g0 := (heap_at (unhide hR) 0).2
          have g1 := (heap_at (unhide hR) 1).2
          have g2 := (heap_at (unhide hR) 2).2
          have g3 := (heap_at (unhide hR) 3).2
          have hS4 := set4_wr wr (w.heap.size + 1 + 1) (.int .i64 d.next) (.slice l'.a l'.n l'.c) (.slice fa fn fc) (.slice sa sn sc)
          have bR := (unhide hB).trans (WrB.below hS4 (fun i e => by rw [e]; omega) (unhide hB).size)
          have RES := hide (show CmRes d ws ⟨la, ln, lc⟩ ⟨fa, fn, fc⟩ ⟨sa, sn, sc⟩ w (.returned (.tuple #[.agg #[.int .i64 d.next, .slice l'.a l'.n l'.c, .slice fa fn fc, .slice sa sn sc], .int .i64 0])) _ by
            unfold CmRes
            rw [if_neg (unhide NO)]
            refine ⟨l', rfl, ?_, bR⟩
            rw [← unhide PA]
            rcases unhide hO with ⟨h0, rfl⟩ | h
            · exact .inl ⟨rfl, by rw [h0, unhide L0]⟩
            · exact .inr (gd_base (rr_owns_wr h hS4 (fun i hi e => by have := (h.lt i hi).1; omega)) hW0))
          clear hS4 bR ROW hO hV hS hR
          go_wp2_with fail
          refine bodyPost_ret (v := .tuple #[.agg #[.int .i64 d.next, .slice l'.a l'.n l'.c, .slice fa fn fc, .slice sa sn sc], .int .i64 0]) (by simp [results, Tryz.results61, go_sem, *]) rfl ?_
          exact unhide RES
        have hk2 : k < ws.length := by rw [unhide LW]; exact hlt
        obtain ⟨b, off, rfl, d0, d1, d2, d3⟩ := ((unhide HW).below (unhide hB)).2 k hk2
        have hkn : (k : Int) < (wn : Int) := by omega
        have hbw : b < w.heap.size := by obtain ⟨b2, o2, h2, c2, _⟩ := (unhide HW).2 k hk2; injection h2 with h2; injection h2 with h2 _; subst h2; exact cell_lt c2
        have hpl := unhide PN k (by omega)
        have SI := hide (fun (u : World) (hb : Below wr.heap.size wr u) => (l06Insert_any l'.a l'.n l'.c (putTo d ws k) ws[k] u ((unhide ROW).1.below hb) (by have := (unhide ROW).1.1; omega) (unhide ROW).2.1 (unhide ROW).2.2).mono fun e u' h => show ∃ g q, e = .returned (.slice (some ⟨g, 0, none⟩) (putTo d ws (k + 1)).length q) ∧ VOwns u' W.heap.size (.slice (some ⟨g, 0, none⟩) (putTo d ws (k + 1)).length q) (putTo d ws (k + 1)) ∧ Below wr.heap.size wr u' by
          obtain ⟨g, q, h1, h2, h3⟩ := h
          rw [unhide PS k hk2]
          exact ⟨g, q, h1, gd_base h2 (Nat.le_trans hwr hb.size), hb.trans (h3.mono hb.size)⟩)
        generalize ws[k] = pd at *
        obtain ⟨pk, pt, pv, pg⟩ := pd
        unfold vv at SI
        simp only at SI d0 d1 d2 d3
        have SK := hide (show ∀ u : World, (∀ i, i ≠ w.heap.size → i < wr.heap.size → u.heap[i]? = wr.heap[i]?) → (u.cell? ⟨w.heap.size + 1, 2, none⟩ = some (.slice (some ⟨b, off, none⟩) wn wc) ∧ u.cell? ⟨b, off + k * 4, none⟩ = some (.string pk) ∧ u.cell? ⟨b, off + k * 4 + 1, none⟩ = some (.int .i64 pt) ∧ u.cell? ⟨b, off + k * 4 + 2, none⟩ = some (.string pv) ∧ u.cell? ⟨b, off + k * 4 + 3, none⟩ = some (.bool pg)) from fun u hb =>
          ⟨(World.cell?_of_block (a := ⟨w.heap.size + 1, 2, none⟩) (hb _ (by simp) (cell_lt s2))).trans s2, (World.cell?_of_block (a := ⟨b, off + k * 4, none⟩) (hb _ (by simp only; omega) (cell_lt d0))).trans d0, (World.cell?_of_block (a := ⟨b, off + k * 4 + 1, none⟩) (hb _ (by simp only; omega) (cell_lt d1))).trans d1, (World.cell?_of_block (a := ⟨b, off + k * 4 + 2, none⟩) (hb _ (by simp only; omega) (cell_lt d2))).trans d2, (World.cell?_of_block (a := ⟨b, off + k * 4 + 3, none⟩) (hb _ (by simp only; omega) (cell_lt d3))).trans d3⟩)
        have SB := hide (show ∀ u : World, Below wr.heap.size wr u → ∀ i, i ≠ w.heap.size → i < wr.heap.size → u.heap[i]? = wr.heap[i]? from fun u hu i _ hi => hu.block i hi)
        have G0 : Below wr.heap.size wr wr.drew := (Below.refl _ _).drew
        have Y1 := hide (show wr.drew.cell? ⟨w.heap.size, 1, none⟩ = some (.slice l'.a l'.n l'.c) from (G0.cell (p := ⟨w.heap.size, 1, none⟩) (by show w.heap.size < wr.heap.size; omega)).trans (heap_at (unhide hV) 1).1)
        obtain ⟨l'a, l'n, l'c⟩ := l'
        simp only at SI Y1 hV
        clear d0 d1 d2 d3 hO ROW
        go_upto_region 9 with fail
        clear s2
        refine wp_region_held_drew (S := (fun u => (u.cell? ⟨w.heap.size + 1, 2, none⟩ = some (.slice (some ⟨b, off, none⟩) wn wc) ∧ u.cell? ⟨b, off + k * 4, none⟩ = some (.string pk) ∧ u.cell? ⟨b, off + k * 4 + 1, none⟩ = some (.int .i64 pt) ∧ u.cell? ⟨b, off + k * 4 + 2, none⟩ = some (.string pv) ∧ u.cell? ⟨b, off + k * 4 + 3, none⟩ = some (.bool pg)))) (by kernel_rfl) (unhide SK _ (unhide SB _ G0)) (fun hHeld => ?_)
        refine anyH_take 0 30 (v := ?v7) rfl rfl (by kernel_rfl) (by kernel_rfl) (by kernel_rfl) (fun _ _ _ h => h) (by rfl) ?h7 hHeld ?r7
        case h7 => (intro w hSw; (try dsimp only at hSw); go_simp; try (with_reducible rfl))
        simp only [Act.put, List.setIfInBounds_toArray, List.set_cons_zero, List.set_cons_succ]
        refine anyH_take 2 32 (v := ?v8) rfl rfl (by kernel_rfl) (by kernel_rfl) (by kernel_rfl) (fun _ _ _ h => h) (by rfl) ?h8 hHeld ?r8
        case h8 => (intro w hSw; (try dsimp only at hSw); go_simp; try (with_reducible rfl))
        simp only [Act.put, List.setIfInBounds_toArray, List.set_cons_zero, List.set_cons_succ]
        refine anyH_take 3 33 (v := ?v9) rfl rfl (by kernel_rfl) (by kernel_rfl) (by kernel_rfl) (fun _ _ _ h => h) (by rfl) ?h9 hHeld ?r9
        case h9 => (intro w hSw; (try dsimp only at hSw); go_simp; try (with_reducible rfl))
        simp only [Act.put, List.setIfInBounds_toArray, List.set_cons_zero, List.set_cons_succ]
        refine anyH_take 4 34 (v := ?v10) rfl rfl (by kernel_rfl) (by kernel_rfl) (by kernel_rfl) (fun _ _ _ h => h) (by rfl) ?h10 hHeld ?r10
        case h10 => (intro w hSw; (try dsimp only at hSw); go_simp; try (with_reducible rfl))
        simp only [Act.put, List.setIfInBounds_toArray, List.set_cons_zero, List.set_cons_succ]
        refine anyH_take 5 35 (v := ?v11) rfl rfl (by kernel_rfl) (by kernel_rfl) (by kernel_rfl) (fun _ _ _ h => h) (by rfl) ?h11 hHeld ?r11
        case h11 => (intro w hSw; (try dsimp only at hSw); go_simp; try (with_reducible rfl))
        simp only [Act.put, List.setIfInBounds_toArray, List.set_cons_zero, List.set_cons_succ]
        refine anyH_take 6 36 (v := ?v12) rfl rfl (by kernel_rfl) (by kernel_rfl) (by kernel_rfl) (fun _ _ _ h => h) (by rfl) ?h12 hHeld ?r12
        case h12 => (intro w hSw; (try dsimp only at hSw); go_simp; try (with_reducible rfl))
        simp only [Act.put, List.setIfInBounds_toArray, List.set_cons_zero, List.set_cons_succ]
        refine wpAnyH_ready (rs := [1]) (by kernel_rfl) (by simp) ?_
        refine AllReadyH.cons rfl (fun K hK => ?_) AllReadyH.nil
        have y := unhide Y1
        go_simp
        clear y
        refine hK.out _ _ (hHeld) (fun hHeld => ?_)
        clear hK K
        refine wpAnyH_ready (rs := [7]) (by kernel_rfl) (by simp) ?_
        refine AllReadyH.cons rfl (fun K hK => ?_) AllReadyH.nil
        go_simp
        refine (unhide SI _ G0).mono ?_
        rintro e w2 ⟨g, q, rfl, o2, b2⟩
        have kv := (b2.block w.heap.size (by omega)).trans (unhide hV)
        have x1 := (heap_at kv 1).1
        have f1 := (heap_at kv 1).2
        have O3 := hide (gd_set o2 hb0 1 (.slice (some ⟨g, 0, none⟩) (putTo d ws (k + 1)).length q))
        have V3 := hide (show (w2.setCell ⟨w.heap.size, 1, none⟩ (.slice (some ⟨g, 0, none⟩) (putTo d ws (k + 1)).length q)).heap[w.heap.size]? = some (.cells #[.int .i64 d.next, .slice (some ⟨g, 0, none⟩) (putTo d ws (k + 1)).length q, .slice fa fn fc, .slice sa sn sc] 27 (0, 0)) by have := heap_set kv 1 (.slice (some ⟨g, 0, none⟩) (putTo d ws (k + 1)).length q); simpa using this)
        have hS9 := set1_wr w2 w.heap.size 1 (.slice (some ⟨g, 0, none⟩) (putTo d ws (k + 1)).length q)
        have b02 := (unhide hB).trans (b2.mono (unhide hB).size)
        have B3 := hide (b02.trans (WrB.below hS9 (fun i e => by rw [e]; exact Nat.le_refl _) b02.size))
        have E3 := hide (show ∀ i, i ≠ w.heap.size → i < wr.heap.size → (w2.setCell ⟨w.heap.size, 1, none⟩ (.slice (some ⟨g, 0, none⟩) (putTo d ws (k + 1)).length q)).heap[i]? = wr.heap[i]? from fun i h1 h2 => (hS9.block i (Nat.lt_of_lt_of_le h2 b2.size) h1).trans (b2.block i h2))
        have h3 : W.heap.size ≤ (w2.setCell ⟨w.heap.size, 1, none⟩ (.slice (some ⟨g, 0, none⟩) (putTo d ws (k + 1)).length q)).heap.size := Nat.le_trans (Nat.le_trans hwr b2.size) hS9.size
        have BB := hide b2
        clear o2 kv hS9 b02 b2
        refine hK.out _ _ (unhide SK _ (unhide SB _ (unhide BB))) (fun hHeld => ?_)
        clear hK K
        refine anyH_take 8 38 (v := ?v13) rfl rfl (by kernel_rfl) (by kernel_rfl) (by kernel_rfl) (fun _ _ _ h => h) (by rfl) ?h13 hHeld ?r13
        case h13 => (intro w hSw; (try dsimp only at hSw); go_simp; try (with_reducible rfl))
        simp only [Act.put, List.setIfInBounds_toArray, List.set_cons_zero, List.set_cons_succ]
        refine wpAnyH_ready (rs := [9]) (by kernel_rfl) (by simp) ?_
        refine AllReadyH.cons rfl (fun K hK => ?_) AllReadyH.nil
        go_simp
        refine hK.out _ _ (unhide SK _ (unhide E3)) (fun hHeld => ?_)
        clear hK K
        refine wpAnyH_done (by kernel_rfl) ?_ _
        clear hHeld SK SB SI G0 Y1 x1 f1
        go_wp2_with fail
        go_roundw
        case rel => exact ⟨k + 1, ⟨some ⟨g, 0, none⟩, (putTo d ws (k + 1)).length, q⟩, by go_num, by omega, hide (.inr (unhide O3)), V3, B3, (unhide E3 _ (by omega) (by omega)).trans (unhide hS), (unhide E3 _ (by omega) (by omega)).trans (unhide hR), h3⟩
        case measure => simp [intOf]; omega
end Go.Proofs.YtfajenejngddeaaGreat

namespace Go.Proofs.YtfajenejngddeaaGreat
open Go.RowKit

/-- Boxes laid one behind the other. -/
def allocC (w : World) : List (Array Value × TypeId) → World
  | [] => w
  | (c, t) :: r => allocC (w.alloc (.cells c t)) r
theorem allocC_size : ∀ (cs : List (Array Value × TypeId)) (w : World), (allocC w cs).heap.size = w.heap.size + cs.length
  | [], w => rfl
  | (c, t) :: r, w => by rw [allocC, allocC_size r]; simp; omega
theorem allocC_bel : ∀ (cs : List (Array Value × TypeId)) (w : World), Below w.heap.size w (allocC w cs)
  | [], w => Below.refl _ _
  | (c, t) :: r, w => by
    have b : Below w.heap.size w (w.alloc (.cells c t)) := (Below.refl _ _).alloc (Nat.le_refl _) _
    exact b.trans ((allocC_bel r (w.alloc (.cells c t))).mono b.size)
theorem allocC_at : ∀ (cs : List (Array Value × TypeId)) (w : World) (k : Nat) (c : Array Value) (t : TypeId), cs[k]? = some (c, t) → (allocC w cs).heap[w.heap.size + k]? = some (.cells c t (0, 0))
  | [], w, k, c, t, h => by simp at h
  | (c', t') :: r, w, 0, c, t, h => by
    simp at h
    obtain ⟨rfl, rfl⟩ := h
    rw [allocC]
    exact ((allocC_bel r (w.alloc (.cells c' t'))).block w.heap.size (by simp)).trans (heap_alloc_new _ _)
  | (c', t') :: r, w, k + 1, c, t, h => by
    have e := allocC_at r (w.alloc (.cells c' t')) k c t (by simpa using h)
    rw [allocC]
    have hz : (w.alloc (.cells c' t')).heap.size = w.heap.size + 1 := by simp
    rw [hz] at e
    rw [show w.heap.size + (k + 1) = w.heap.size + 1 + k by omega]
    exact e
/-- Versions that are small. -/
structure SmV (d : VsD) : Prop where
  list : d.list.length ≤ 800
  fen : d.fen.length < 4096
  ses : d.ses.length = 4
  ws : ∀ s ∈ d.ses, s.ws.length ≤ 8
  nx : 1 ≤ d.next ∧ d.next ≤ 1000
abbrev repC (c t : Int) (v : ByteArray) (s : Sl) : Array Value := #[.int .i64 c, .int .i64 t, .string v, .slice s.a s.n s.c]
/-- What a step leaves: versions as they read, a reply whose list is its own. -/
def StRes (l0 f0 s0 : Sl) (hs0 : List SeH) (d0 : VsD) (p : VsD × RepD) (w : World) (e : Ending) (w' : World) : Prop := ∃ l f s hs r, e = .returned (.tuple #[.agg (vzC p.1.next l f s), .agg (repC p.2.code p.2.time p.2.val r)]) ∧ ((l = l0 ∧ f = f0 ∧ s = s0 ∧ hs = hs0 ∧ p.1 = d0) ∨ VzOwn w' w.heap.size l f s hs p.1) ∧ EOwns w' w.heap.size (.slice r.a r.n r.c) p.2.list ∧ Below w.heap.size w w'
abbrev sv4 (w : World) (b : Nat) (v0 v1 v2 v3 : Value) : World := (((w.setCell ⟨b, 0, none⟩ v0).setCell ⟨b, 1, none⟩ v1).setCell ⟨b, 2, none⟩ v2).setCell ⟨b, 3, none⟩ v3
theorem sv4_wr (w : World) (b : Nat) (v0 v1 v2 v3 : Value) : WrB (fun i => i = b) w (sv4 w b v0 v1 v2 v3) := set4_wr w b v0 v1 v2 v3
theorem sv4_heap {w : World} {b : Nat} {u0 u1 u2 u3 : Value} {t : TypeId} (h : w.heap[b]? = some (.cells #[u0, u1, u2, u3] t (0, 0))) (v0 v1 v2 v3 : Value) : (sv4 w b v0 v1 v2 v3).heap[b]? = some (.cells #[v0, v1, v2, v3] t (0, 0)) := by
  have h1 := heap_set h 0 v0
  have h2 := heap_set h1 1 v1
  have h3 := heap_set h2 2 v2
  have h4 := heap_set h3 3 v3
  simpa using h4
theorem bel_sv4 {B b : Nat} {w u : World} (h : Below B w u) (hb : B ≤ b) (v0 v1 v2 v3 : Value) : Below B w (sv4 u b v0 v1 v2 v3) :=
  (((h.setCell (p := ⟨b, 0, none⟩) hb v0).setCell (p := ⟨b, 1, none⟩) hb v1).setCell (p := ⟨b, 2, none⟩) hb v2).setCell (p := ⟨b, 3, none⟩) hb v3
/-- Nothing has changed; a code and a time are told. -/
theorem st_old {w u : World} {d : VsD} {l f s : Sl} {hs : List SeH} {p : VsD × RepD} {c t : Int} (_hI : VzIn w l f s hs d) (hb : Below w.heap.size w u) (h : p = (d, repV c t)) : StRes l f s hs d p w (.returned (.tuple #[.agg (vzC d.next l f s), .agg #[.int .i64 c, .int .i64 t, .string ⟨#[]⟩, .slice none 0 0]])) u := by
  subst h
  exact ⟨l, f, s, hs, ⟨none, 0, 0⟩, rfl, .inl ⟨rfl, rfl, rfl, rfl, rfl⟩, World.ownsRow_nil _ _ _ _, hb⟩
/-- Versions of the call's own are given; a code and a time are told. -/
theorem st_own {w u : World} {B : Nat} {d d0 : VsD} {l f s l0 f0 s0 : Sl} {hs hs0 : List SeH} {p : VsD × RepD} {c t : Int} (hO : VzOwn u B l f s hs d) (hB : w.heap.size ≤ B) (hb : Below w.heap.size w u) (h : p = (d, repV c t)) : StRes l0 f0 s0 hs0 d0 p w (.returned (.tuple #[.agg (vzC d.next l f s), .agg #[.int .i64 c, .int .i64 t, .string ⟨#[]⟩, .slice none 0 0]])) u := by
  subst h
  exact ⟨l, f, s, hs, ⟨none, 0, 0⟩, rfl, .inr (hO.dn hB), World.ownsRow_nil _ _ _ _, hb⟩
theorem VzOwn.sv {w : World} {B b : Nat} {l f s : Sl} {hs : List SeH} {d : VsD} (h : VzOwn w B l f s hs d) (hb : b < B) (v0 v1 v2 v3 : Value) : VzOwn (sv4 w b v0 v1 v2 v3) B l f s hs d := h.wr (sv4_wr w b v0 v1 v2 v3) (fun i e => by rw [e]; exact hb)
/-- What was laid besides is let alone by a write into a box that holds no version, fence or session. -/
theorem VzOwn.box {w w' : World} {B b : Nat} {l f s : Sl} {hs : List SeH} {d : VsD} {cs : Array Value} {t : TypeId} (h : VzOwn w B l f s hs d) (hk : w.heap[b]? = some (.cells cs t (0, 0))) (h1 : 39 ≠ t) (h2 : 90 ≠ t) (h3 : 93 ≠ t) (hw : WrB (fun i => i = b) w w') : VzOwn w' B l f s hs d :=
  ⟨own_keep h.vo hk h1 hw, own_keep h.fo hk h2 hw, h.so.keep hw (fun i hi e => by subst e; exact se_box h.so hk h3 h1 hi), h.ss, h.far⟩
theorem VzOwn.apart {w w' : World} {B : Nat} {l f s : Sl} {hs : List SeH} {d : VsD} (h : VzOwn w B l f s hs d) {P : Nat → Prop} (hw : WrB P w w') (h1 : ∀ i, (Value.slice l.a l.n l.c).ownBlock = some i → ¬ P i) (h2 : ∀ i, (Value.slice f.a f.n f.c).ownBlock = some i → ¬ P i) (h3 : ∀ i, NBl (.slice s.a s.n s.c) (hs.map seEl) i → ¬ P i) : VzOwn w' B l f s hs d :=
  ⟨rr_owns_wr h.vo hw h1, rr_owns_wr h.fo hw h2, h.so.keep hw h3, h.ss, h.far⟩
/-- A session as it lies in versions of the call's own. -/
theorem VzOwn.sesAt {u : World} {B : Nat} {l f s : Sl} {hs : List SeH} {d : VsD} (h : VzOwn u B l f s hs d) {i : Nat} (hi : i < hs.length) : ∃ g, s.a = some ⟨g, 0, none⟩ ∧ s.n = hs.length ∧ B ≤ g ∧ g < u.heap.size ∧ u.cell? ⟨g, i * 3, none⟩ = some (.bool hs[i].X.o) ∧ u.cell? ⟨g, i * 3 + 1, none⟩ = some (.int .i64 hs[i].X.t) ∧ u.cell? ⟨g, i * 3 + 2, none⟩ = some (.slice hs[i].s0.a hs[i].s0.n hs[i].s0.c) ∧ VOwns u B (.slice hs[i].s0.a hs[i].s0.n hs[i].s0.c) hs[i].X.ws ∧ ∃ hd : i < d.ses.length, hs[i].X = d.ses[i] := by
  have hne : Value.slice s.a s.n s.c ≠ .slice none 0 0 := fun e => by
    have h1 := h.so.row.2
    rw [e] at h1
    rcases h1 with ⟨_, h1⟩ | ⟨_, _, _, h1, _⟩
    · omega
    · cases h1
  obtain ⟨g, c, e, hB, hg, hc⟩ := owns_form h.so.row hne
  obtain ⟨sa, sn, sc⟩ := s
  injection e with e1 e2 e3
  subst e1 e2 e3
  have hel : (hs.map seEl)[i]? = some (seEl hs[i]) := seEl_at hi
  refine ⟨g, rfl, rfl, hB, hg, ?_, h.so.cell hel (j := 1) rfl, h.so.cell hel (j := 2) rfl, h.so.dat i 0 _ (by unfold sbAt; rw [hel]; rfl), h.reads.at hi⟩
  have := h.so.cell hel (j := 0) rfl
  simpa using this
/-- A session laid in another's place. -/
theorem VzOwn.put {u : World} {B : Nat} {l f s : Sl} {hs : List SeH} {d : VsD} (h : VzOwn u B l f s hs d) {i : Nat} (hi : i < hs.length) (x : SeH) (ho : VOwns u B (.slice x.s0.a x.s0.n x.s0.c) x.X.ws) (hap : ∀ g, (Value.slice x.s0.a x.s0.n x.s0.c).ownBlock = some g → ¬ NBl (.slice s.a s.n s.c) (hs.map seEl) g ∧ (Value.slice l.a l.n l.c).ownBlock ≠ some g) :
    ∃ g, s.a = some ⟨g, 0, none⟩ ∧ B ≤ g ∧ (u.cell? ⟨g, i * 3, none⟩ = some (.bool hs[i].X.o) ∧ u.cell? ⟨g, i * 3 + 1, none⟩ = some (.int .i64 hs[i].X.t) ∧ u.cell? ⟨g, i * 3 + 2, none⟩ = some (.slice hs[i].s0.a hs[i].s0.n hs[i].s0.c)) ∧ (∀ j, u.frozen? ⟨g, j, none⟩ = false) ∧
      VzOwn (((u.setCell ⟨g, i * 3, none⟩ (.bool x.X.o)).setCell ⟨g, i * 3 + 1, none⟩ (.int .i64 x.X.t)).setCell ⟨g, i * 3 + 1 + 1, none⟩ (.slice x.s0.a x.s0.n x.s0.c)) B l f s (hs.set i x) ⟨d.next, d.list, d.fen, d.ses.set i x.X⟩ ∧
      WrB (fun k => k = g) u (((u.setCell ⟨g, i * 3, none⟩ (.bool x.X.o)).setCell ⟨g, i * 3 + 1, none⟩ (.int .i64 x.X.t)).setCell ⟨g, i * 3 + 1 + 1, none⟩ (.slice x.s0.a x.s0.n x.s0.c)) ∧ (∃ cur, u.heap[g]? = some (.cells cur 93 (0, 0))) := by
  have hne : Value.slice s.a s.n s.c ≠ .slice none 0 0 := fun e => by
    have h1 := h.so.row.2
    rw [e] at h1
    rcases h1 with ⟨_, h1⟩ | ⟨_, _, _, h1, _⟩
    · omega
    · cases h1
  obtain ⟨g, c, e, hB, hg, hc⟩ := owns_form h.so.row hne
  obtain ⟨sa, sn, sc⟩ := s
  injection e with e1 e2 e3
  subst e1 e2 e3
  have hki := own_kind h.so.row (i := g) rfl
  have hel : (hs.map seEl)[i]? = some (seEl hs[i]) := seEl_at hi
  have hil : i < (hs.map seEl).length := by rw [List.length_map]; exact hi
  have h1 := h.so.addAp (xs := (seEl x).sb) hel (fun y hy => by rw [List.mem_singleton.1 hy]; exact ho) (fun y hy g' hg' => by rw [List.mem_singleton.1 hy] at hg'; exact (hap g' hg').1) (by
    intro a b y z hy hz hne g' h1 h2
    match a, b, hy, hz, hne with
    | 0, 0, _, _, h => exact absurd rfl h
    | a + 1, _, hy, _, _ => cases hy
    | 0, b + 1, _, hz, _ => cases hz)
  have h2 := NOwn.store (seEl x).hd (seEl hs[i]).hd [] h1 (List.getElem?_set_self hil) rfl
  rw [List.set_set] at h2
  have hW : WrB (fun k => k = g) u (((u.setCell ⟨g, i * 3, none⟩ (.bool x.X.o)).setCell ⟨g, i * 3 + 1, none⟩ (.int .i64 x.X.t)).setCell ⟨g, i * 3 + 1 + 1, none⟩ (.slice x.s0.a x.s0.n x.s0.c)) := (set1_wr _ _ _ _).seq ((set1_wr _ _ _ _).seq (set1_wr _ _ _ _))
  have hN : SeOwn (((u.setCell ⟨g, i * 3, none⟩ (.bool x.X.o)).setCell ⟨g, i * 3 + 1, none⟩ (.int .i64 x.X.t)).setCell ⟨g, i * 3 + 1 + 1, none⟩ (.slice x.s0.a x.s0.n x.s0.c)) B (.slice (some ⟨g, 0, none⟩) hs.length sc) (hs.set i x) := by
    unfold SeOwn
    rw [List.map_set, List.length_set]
    exact h2
  refine ⟨g, rfl, hB, ⟨?_, ?_, ?_⟩, fun j => h.so.free j, ⟨rr_owns_wr h.vo hW (fun k hk e => by subst e; exact h.far k hk (.inl rfl)), rr_owns_wr h.fo hW (fun k hk e => own_other h.fo h.so.row (by decide) hk (by rw [e]; rfl)), hN, by rw [List.map_set, h.ss], fun k hk hn => ?_⟩, hW, hki⟩
  · have := h.so.cell hel (j := 0) rfl
    simpa using this
  · exact h.so.cell hel (j := 1) rfl
  · exact h.so.cell hel (j := 2) rfl
  · rcases hn with hn | ⟨k', a, y, hy, hn⟩
    · exact h.far k hk (.inl hn)
    · rw [List.map_set] at hy
      rw [sbAt_set hil] at hy
      by_cases hki' : k' = i
      · rw [if_pos hki'] at hy
        have h2 : y.v = .slice x.s0.a x.s0.n x.s0.c := by
          match a, hy with
          | 0, hy => injection hy with hy; rw [← hy]
          | a + 1, hy => cases hy
        rw [h2] at hn
        exact (hap k hn).2 hk
      · rw [if_neg hki'] at hy
        exact h.far k hk (.inr ⟨k', a, y, hy, hn⟩)
/-- One fence appended to a row of the call's own, nil or not. -/
theorem f_app1 {w : World} {B : Nat} {v : Value} {ds : List FenD} (d : FenD) (ho : FOwns w B v ds) (hz : ds.length ≤ 1000000) (hB : B ≤ w.heap.size) :
    ∃ f' : Sl, ∃ w', (Builtin.append_ #[24, 24] 24 #[v, .slice (some ⟨w.heap.size, 0, none⟩) 1 1]).run Tryz.prog (w.alloc (.cells #[.string d.f, .string d.u, .int .i64 d.t] 90)) = .ok (.slice f'.a f'.n f'.c) w' ∧ FOwns w' B (.slice f'.a f'.n f'.c) (ds ++ [d]) ∧ (w.alloc (.cells #[.string d.f, .string d.u, .int .i64 d.t] 90)).grownBy w' v.ownBlock := by
  obtain ⟨i0, hi0, hz0, hz1, hz2⟩ := info_parts Tryz.infoFence
  have hoa := World.ownsRow.alloc ho (.cells #[.string d.f, .string d.u, .int .i64 d.t] 90)
  obtain ⟨v', w', hrun, ho', hg, hnil, -⟩ := app_at (P := Tryz.prog) (w := w.alloc (.cells #[.string d.f, .string d.u, .int .i64 d.t] 90)) (B := B) 24 24 90 Tryz.underlying24 hi0 hz0 hz1 hz2 rfl (by decide) hoa ⟨w.heap.size, 0, none⟩ 1 1 (fcs [d]) (by simp [fcs]) (frow_src (frow_one w d)) (fcs_one _) (by unfold maxLen; omega) (by omega) (by simp; omega) (fun _ => by omega)
  obtain ⟨f', rfl, -⟩ := v_slice ho'
  exact ⟨f', w', hrun, by unfold FOwns; rw [List.length_append, fcs_append]; exact ho', hg⟩
set_option maxRecDepth 100000 in
set_option maxHeartbeats 8000000 in
theorem l06Fence_any (B : Nat) (d : VsD) (l f s : Sl) (hs : List SeH) (x : FenD) (p : RepD) (pl : Sl) (wn : Int) (wl wf ws : Sl) (w : World) (hO : VzOwn w B l f s hs d) (hB : B ≤ w.heap.size) (hf : d.fen.length < 4096) :
    Calls Tryz.prog 58 #[.agg (vzC wn wl wf ws), .agg (vzC d.next l f s), fv x, .agg (repC p.code p.time p.val pl)] w fun e w' => ∃ f' : Sl, e = .returned (.tuple #[.agg (vzC d.next l f' s), .agg (repC p.code p.time p.val pl)]) ∧ VzOwn w' B l f' s hs ⟨d.next, d.list, d.fen ++ [x], d.ses⟩ ∧ Below B w w' ∧ WrB (fun i => (Value.slice f.a f.n f.c).ownBlock = some i) w w' := by
  obtain ⟨W, hW⟩ : ∃ W, W = allocC w [(vzC wn wl wf ws, 27), (vzC d.next l f s, 27), (#[.string x.f, .string x.u, .int .i64 x.t], 90), (repC p.code p.time p.val pl, 60), (#[.int .i64 0, .slice none 0 0, .slice none 0 0, .slice none 0 0], 27), (#[.int .i64 0, .int .i64 0, .string ⟨#[]⟩, .slice none 0 0], 60)] := ⟨_, rfl⟩
  have hz := allocC_size [(vzC wn wl wf ws, 27), (vzC d.next l f s, 27), (#[.string x.f, .string x.u, .int .i64 x.t], 90), (repC p.code p.time p.val pl, 60), (#[.int .i64 0, .slice none 0 0, .slice none 0 0, .slice none 0 0], 27), (#[.int .i64 0, .int .i64 0, .string ⟨#[]⟩, .slice none 0 0], 60)] w
  have b1 := allocC_bel [(vzC wn wl wf ws, 27), (vzC d.next l f s, 27), (#[.string x.f, .string x.u, .int .i64 x.t], 90), (repC p.code p.time p.val pl, 60), (#[.int .i64 0, .slice none 0 0, .slice none 0 0, .slice none 0 0], 27), (#[.int .i64 0, .int .i64 0, .string ⟨#[]⟩, .slice none 0 0], 60)] w
  have AT := allocC_at [(vzC wn wl wf ws, 27), (vzC d.next l f s, 27), (#[.string x.f, .string x.u, .int .i64 x.t], 90), (repC p.code p.time p.val pl, 60), (#[.int .i64 0, .slice none 0 0, .slice none 0 0, .slice none 0 0], 27), (#[.int .i64 0, .int .i64 0, .string ⟨#[]⟩, .slice none 0 0], 60)] w
  rw [← hW] at hz b1 AT
  have k1 : W.heap[w.heap.size + 1]? = some (.cells (vzC d.next l f s) 27 (0, 0)) := AT 1 _ _ rfl
  have k2 : W.heap[w.heap.size + 1 + 1]? = some (.cells #[.string x.f, .string x.u, .int .i64 x.t] 90 (0, 0)) := AT 2 _ _ rfl
  have k3 : W.heap[w.heap.size + 1 + 1 + 1]? = some (.cells (repC p.code p.time p.val pl) 60 (0, 0)) := AT 3 _ _ rfl
  have k4 : W.heap[w.heap.size + 1 + 1 + 1 + 1]? = some (.cells #[.int .i64 0, .slice none 0 0, .slice none 0 0, .slice none 0 0] 27 (0, 0)) := AT 4 _ _ rfl
  have k5 : W.heap[w.heap.size + 1 + 1 + 1 + 1 + 1]? = some (.cells #[.int .i64 0, .int .i64 0, .string ⟨#[]⟩, .slice none 0 0] 60 (0, 0)) := AT 5 _ _ rfl
  simp only [List.length_cons, List.length_nil] at hz
  have hfl : f.n = d.fen.length := owns_n hO.fo
  have hW2 : W = _ := hW
  unfold allocC allocC allocC allocC allocC allocC allocC at hW2
  have OW := hO.below b1
  obtain ⟨fs, w3, hr, ho, hg⟩ := f_app1 x OW.fo (by omega) (Nat.le_trans hB b1.size)
  have bA : Below W.heap.size W (W.alloc (.cells #[.string x.f, .string x.u, .int .i64 x.t] 90)) := (Below.refl _ _).alloc (Nat.le_refl _) _
  have OA := OW.below bA
  have hg' := WrB.of_grown hg
  have OA3 : VzOwn w3 B l fs s hs ⟨d.next, d.list, d.fen ++ [x], d.ses⟩ := ⟨rr_owns_wr OA.vo hg' (fun i hi => own_other OA.vo OA.fo (by decide) hi), ho, OA.so.keep hg' (fun i hi e => by
      rcases hi with hi | ⟨k, a, y, hy, hi⟩
      · exact own_other OA.so.row OA.fo (by decide) hi e
      · have hd := OA.so.dat k a y hy
        have ht : y.t = 39 := by
          obtain ⟨z, hz, hyz⟩ := sbAt_mem hy
          obtain ⟨q, _, rfl⟩ := List.mem_map.1 hz
          rw [List.mem_singleton.1 hyz]
        rw [ht] at hd
        exact own_other hd OA.fo (by decide) hi e), OA.ss, OA.far⟩
  have fw : ∀ i, (Value.slice f.a f.n f.c).ownBlock = some i → B ≤ i ∧ i < w.heap.size := fun i hi => hO.fo.lt i hi
  have B3 : ∀ i, i < W.heap.size → (Value.slice f.a f.n f.c).ownBlock ≠ some i → w3.heap[i]? = W.heap[i]? := fun i h1 h2 => (hg'.block i (Nat.lt_of_lt_of_le h1 bA.size) h2).trans (bA.block i h1)
  have new : ∀ i, w.heap.size ≤ i → (Value.slice f.a f.n f.c).ownBlock ≠ some i := fun i h e => by have := (fw i e).2; omega
  have s3 : W.heap.size ≤ w3.heap.size := Nat.le_trans bA.size hg.size
  have q1 := (B3 _ (by omega) (new _ (by omega))).trans k1
  have q2 := (B3 _ (by omega) (new _ (by omega))).trans k2
  have q3 := (B3 _ (by omega) (new _ (by omega))).trans k3
  have q4 := (B3 _ (by omega) (new _ (by omega))).trans k4
  have q5 := (B3 _ (by omega) (new _ (by omega))).trans k5
  -- the box of the versions with the new fences
  have m1 : (w3.setCell ⟨w.heap.size + 1, 2, none⟩ (.slice fs.a fs.n fs.c)).heap[w.heap.size + 1]? = some (.cells (vzC d.next l fs s) 27 (0, 0)) := by have := heap_set q1 2 (.slice fs.a fs.n fs.c); simpa using this
  have hS := set1_wr w3 (w.heap.size + 1) 2 (.slice fs.a fs.n fs.c)
  have m3 := (hS.block _ (blk_lt q3) (by omega)).trans q3
  have m4 := (hS.block _ (blk_lt q4) (by omega)).trans q4
  have m5 := (hS.block _ (blk_lt q5) (by omega)).trans q5
  have O4 := OA3.box q1 (by decide) (by decide) (by decide) hS
  have WW : WrB (fun i => (Value.slice f.a f.n f.c).ownBlock = some i) w (w3.setCell ⟨w.heap.size + 1, 2, none⟩ (.slice fs.a fs.n fs.c)) := ⟨hS.os.trans (hg'.os.trans (bA.os.trans b1.os)), hS.tape.trans (hg'.tape.trans (bA.tape.trans b1.tape)), hS.output.trans (hg'.output.trans (bA.output.trans b1.output)), Nat.le_trans (Nat.le_trans b1.size s3) hS.size, fun i h1 h2 => (hS.block i (Nat.lt_of_lt_of_le h1 (Nat.le_trans b1.size s3)) (by omega)).trans ((B3 i (Nat.lt_of_lt_of_le h1 b1.size) h2).trans (b1.block i h1))⟩
  have M1 := hide m1
  have M3 := hide m3
  have M4 := hide m4
  have M5 := hide m5
  have OH := hide O4
  have WH := hide WW
  have SZ := hide (show w.heap.size + 1 + 1 + 1 + 1 + 1 < (w3.setCell ⟨w.heap.size + 1, 2, none⟩ (.slice fs.a fs.n fs.c)).heap.size from blk_lt m5)
  have y0 := (heap_at q1 2).1
  have f0 := (heap_at q1 2).2
  have z2 := (heap_at k1 2).1
  have x0 := (heap_at k2 0).1
  have x1 := (heap_at k2 1).1
  have x2 := (heap_at k2 2).1
  have HB := hide hB
  have FW := hide fw
  clear k1 k2 k3 k4 k5 q1 q2 q3 q4 q5 m1 m3 m4 m5 O4 WW hS OA OA3 OW hg hg' ho B3 new AT b1 hO bA hW fw s3
  obtain ⟨la, ln, lc⟩ := l
  obtain ⟨fa, fn, fc⟩ := f
  obtain ⟨sa, sn, sc⟩ := s
  obtain ⟨fsa, fsn, fsc⟩ := fs
  obtain ⟨pla, pln, plc⟩ := pl
  obtain ⟨wla, wln, wlc⟩ := wl
  obtain ⟨wfa, wfn, wfc⟩ := wf
  obtain ⟨wsa, wsn, wsc⟩ := ws
  unfold vzC repC at *
  unfold fv
  simp only at hr y0 M1 M3 OH WH z2 hfl SZ hW2 ⊢
  have hne : ((fn : Int) == 4096) = false := by
    have : ¬ (fn : Int) = 4096 := by omega
    simpa using this
  have hne2 : ¬ (fn : Int) = 4096 := by omega
  clear hfl hf hz
  go_enter Tryz.func58, Tryz.ntmps58
  go_upto_region 3 with fail
  rw [← hW2]
  clear hW2
  go_upto_region 4 with (at_builtin; refine ky_wpApp rfl (.tmp 19) (.tmp 21) 24 rfl _ _ _ w3 rfl rfl hr ?_)
  generalize w3.setCell ⟨w.heap.size + 1, 2, none⟩ (.slice fsa fsn fsc) = u at *
  clear hr y0 f0 z2 x0 x1 x2
  have SK := hide (show ∀ v : World, (∀ i, i ≤ w.heap.size + 1 + 1 + 1 → v.heap[i]? = u.heap[i]?) → (fun u => u.cell? ⟨w.heap.size + 1, 0, none⟩ = some (.int .i64 d.next) ∧ u.cell? ⟨w.heap.size + 1, 1, none⟩ = some (.slice la ln lc) ∧ u.cell? ⟨w.heap.size + 1, 2, none⟩ = some (.slice fsa fsn fsc) ∧ u.cell? ⟨w.heap.size + 1, 3, none⟩ = some (.slice sa sn sc) ∧ u.cell? ⟨w.heap.size + 1 + 1 + 1, 0, none⟩ = some (.int .i64 p.code) ∧ u.cell? ⟨w.heap.size + 1 + 1 + 1, 1, none⟩ = some (.int .i64 p.time) ∧ u.cell? ⟨w.heap.size + 1 + 1 + 1, 2, none⟩ = some (.string p.val) ∧ u.cell? ⟨w.heap.size + 1 + 1 + 1, 3, none⟩ = some (.slice pla pln plc)) v from fun v hv => by
    have a1 := (hv (w.heap.size + 1) (by omega)).trans (unhide M1)
    have a3 := (hv (w.heap.size + 1 + 1 + 1) (by omega)).trans (unhide M3)
    exact ⟨(heap_at a1 0).1, (heap_at a1 1).1, (heap_at a1 2).1, (heap_at a1 3).1, (heap_at a3 0).1, (heap_at a3 1).1, (heap_at a3 2).1, (heap_at a3 3).1⟩)
  have D0 := hide (show ∀ i, i ≤ w.heap.size + 1 + 1 + 1 → u.drew.heap[i]? = u.heap[i]? from fun _ _ => rfl)
  have N4 := hide (show u.drew.heap[w.heap.size + 1 + 1 + 1 + 1]? = _ from unhide M4)
  have N5 := hide (show u.drew.heap[w.heap.size + 1 + 1 + 1 + 1 + 1]? = _ from unhide M5)
  have OD := hide ((unhide OH).below (Below.refl u.heap.size u).drew)
  have WD := hide (show WrB (fun i => (Value.slice fa fn fc).ownBlock = some i) w u.drew from ⟨(unhide WH).os, (unhide WH).tape, (unhide WH).output, (unhide WH).size, (unhide WH).block⟩)
  refine wp_region_held_drew (S := (fun u => u.cell? ⟨w.heap.size + 1, 0, none⟩ = some (.int .i64 d.next) ∧ u.cell? ⟨w.heap.size + 1, 1, none⟩ = some (.slice la ln lc) ∧ u.cell? ⟨w.heap.size + 1, 2, none⟩ = some (.slice fsa fsn fsc) ∧ u.cell? ⟨w.heap.size + 1, 3, none⟩ = some (.slice sa sn sc) ∧ u.cell? ⟨w.heap.size + 1 + 1 + 1, 0, none⟩ = some (.int .i64 p.code) ∧ u.cell? ⟨w.heap.size + 1 + 1 + 1, 1, none⟩ = some (.int .i64 p.time) ∧ u.cell? ⟨w.heap.size + 1 + 1 + 1, 2, none⟩ = some (.string p.val) ∧ u.cell? ⟨w.heap.size + 1 + 1 + 1, 3, none⟩ = some (.slice pla pln plc))) (by kernel_rfl) (unhide SK _ (unhide D0)) (fun hHeld => ?_)
  generalize u.drew = ud at *
  refine anyH_take 0 24 (v := ?v1) rfl rfl (by kernel_rfl) (by kernel_rfl) (by kernel_rfl) (fun _ _ _ h => h) (by rfl) ?h1 hHeld ?r1
  case h1 => (intro w hSw; (try dsimp only at hSw); go_simp; try (with_reducible rfl))
  simp only [Act.put, List.setIfInBounds_toArray, List.set_cons_zero, List.set_cons_succ]
  refine anyH_take 1 25 (v := ?v2) rfl rfl (by kernel_rfl) (by kernel_rfl) (by kernel_rfl) (fun _ _ _ h => h) (by rfl) ?h2 hHeld ?r2
  case h2 => (intro w hSw; (try dsimp only at hSw); go_simp; try (with_reducible rfl))
  simp only [Act.put, List.setIfInBounds_toArray, List.set_cons_zero, List.set_cons_succ]
  refine wpAnyH_ready (rs := [2]) (by kernel_rfl) (by simp) ?_
  refine AllReadyH.cons rfl (fun K hK => ?_) AllReadyH.nil
  have c0 := (heap_at (unhide N4) 0).1
  have c1 := (heap_at (unhide N4) 1).1
  have c2 := (heap_at (unhide N4) 2).1
  have c3 := (heap_at (unhide N4) 3).1
  have cf0 := (heap_at (unhide N4) 0).2
  have cf1 := (heap_at (unhide N4) 1).2
  have cf2 := (heap_at (unhide N4) 2).2
  have cf3 := (heap_at (unhide N4) 3).2
  have hw : WrB (fun i => i = w.heap.size + 1 + 1 + 1 + 1) ud ((((ud.setCell ⟨w.heap.size + 1 + 1 + 1 + 1, 0, none⟩ (.int .i64 d.next)).setCell ⟨w.heap.size + 1 + 1 + 1 + 1, 1, none⟩ (.slice la ln lc)).setCell ⟨w.heap.size + 1 + 1 + 1 + 1, 2, none⟩ (.slice fsa fsn fsc)).setCell ⟨w.heap.size + 1 + 1 + 1 + 1, 3, none⟩ (.slice sa sn sc)) := sv4_wr ud (w.heap.size + 1 + 1 + 1 + 1) (.int .i64 d.next) (.slice la ln lc) (.slice fsa fsn fsc) (.slice sa sn sc)
  have E5 := hide ((hw.block (w.heap.size + 1 + 1 + 1 + 1 + 1) (blk_lt (unhide N5)) (by omega)).trans (unhide N5))
  have D1 := hide (show ∀ i, i ≤ w.heap.size + 1 + 1 + 1 → ((((ud.setCell ⟨w.heap.size + 1 + 1 + 1 + 1, 0, none⟩ (.int .i64 d.next)).setCell ⟨w.heap.size + 1 + 1 + 1 + 1, 1, none⟩ (.slice la ln lc)).setCell ⟨w.heap.size + 1 + 1 + 1 + 1, 2, none⟩ (.slice fsa fsn fsc)).setCell ⟨w.heap.size + 1 + 1 + 1 + 1, 3, none⟩ (.slice sa sn sc)).heap[i]? = u.heap[i]? from fun i hi => (hw.block i (by have := blk_lt (unhide N4); omega) (by omega)).trans (unhide D0 i hi))
  have K1 := hide (show ((((ud.setCell ⟨w.heap.size + 1 + 1 + 1 + 1, 0, none⟩ (.int .i64 d.next)).setCell ⟨w.heap.size + 1 + 1 + 1 + 1, 1, none⟩ (.slice la ln lc)).setCell ⟨w.heap.size + 1 + 1 + 1 + 1, 2, none⟩ (.slice fsa fsn fsc)).setCell ⟨w.heap.size + 1 + 1 + 1 + 1, 3, none⟩ (.slice sa sn sc)).heap[w.heap.size + 1 + 1 + 1 + 1]? = some (.cells #[.int .i64 d.next, .slice la ln lc, .slice fsa fsn fsc, .slice sa sn sc] 27 (0, 0)) from sv4_heap (unhide N4) (.int .i64 d.next) (.slice la ln lc) (.slice fsa fsn fsc) (.slice sa sn sc))
  have O1 := hide (show VzOwn ((((ud.setCell ⟨w.heap.size + 1 + 1 + 1 + 1, 0, none⟩ (.int .i64 d.next)).setCell ⟨w.heap.size + 1 + 1 + 1 + 1, 1, none⟩ (.slice la ln lc)).setCell ⟨w.heap.size + 1 + 1 + 1 + 1, 2, none⟩ (.slice fsa fsn fsc)).setCell ⟨w.heap.size + 1 + 1 + 1 + 1, 3, none⟩ (.slice sa sn sc)) B ⟨la, ln, lc⟩ ⟨fsa, fsn, fsc⟩ ⟨sa, sn, sc⟩ hs ⟨d.next, d.list, d.fen ++ [x], d.ses⟩ from (unhide OD).box (unhide N4) (by decide) (by decide) (by decide) hw)
  have W1 := hide (show WrB (fun i => (Value.slice fa fn fc).ownBlock = some i) w ((((ud.setCell ⟨w.heap.size + 1 + 1 + 1 + 1, 0, none⟩ (.int .i64 d.next)).setCell ⟨w.heap.size + 1 + 1 + 1 + 1, 1, none⟩ (.slice la ln lc)).setCell ⟨w.heap.size + 1 + 1 + 1 + 1, 2, none⟩ (.slice fsa fsn fsc)).setCell ⟨w.heap.size + 1 + 1 + 1 + 1, 3, none⟩ (.slice sa sn sc)) from ⟨hw.os.trans (unhide WD).os, hw.tape.trans (unhide WD).tape, hw.output.trans (unhide WD).output, Nat.le_trans (unhide WD).size hw.size, fun i h1 h2 => (hw.block i (Nat.lt_of_lt_of_le h1 (unhide WD).size) (by omega)).trans ((unhide WD).block i h1 h2)⟩)
  clear hw
  go_simp
  skip
  refine hK.out _ _ (unhide SK _ (unhide D1)) (fun hHeld => ?_)
  clear hK K
  clear c0 c1 c2 c3 cf0 cf1 cf2 cf3
  generalize (((ud.setCell ⟨w.heap.size + 1 + 1 + 1 + 1, 0, none⟩ (.int .i64 d.next)).setCell ⟨w.heap.size + 1 + 1 + 1 + 1, 1, none⟩ (.slice la ln lc)).setCell ⟨w.heap.size + 1 + 1 + 1 + 1, 2, none⟩ (.slice fsa fsn fsc)).setCell ⟨w.heap.size + 1 + 1 + 1 + 1, 3, none⟩ (.slice sa sn sc) = ue at *
  refine wpAnyH_ready (rs := [3]) (by kernel_rfl) (by simp) ?_
  refine AllReadyH.cons rfl (fun K hK => ?_) AllReadyH.nil
  have c0 := (heap_at (unhide E5) 0).1
  have c1 := (heap_at (unhide E5) 1).1
  have c2 := (heap_at (unhide E5) 2).1
  have c3 := (heap_at (unhide E5) 3).1
  have cf0 := (heap_at (unhide E5) 0).2
  have cf1 := (heap_at (unhide E5) 1).2
  have cf2 := (heap_at (unhide E5) 2).2
  have cf3 := (heap_at (unhide E5) 3).2
  have hw : WrB (fun i => i = w.heap.size + 1 + 1 + 1 + 1 + 1) ue ((((ue.setCell ⟨w.heap.size + 1 + 1 + 1 + 1 + 1, 0, none⟩ (.int .i64 p.code)).setCell ⟨w.heap.size + 1 + 1 + 1 + 1 + 1, 1, none⟩ (.int .i64 p.time)).setCell ⟨w.heap.size + 1 + 1 + 1 + 1 + 1, 2, none⟩ (.string p.val)).setCell ⟨w.heap.size + 1 + 1 + 1 + 1 + 1, 3, none⟩ (.slice pla pln plc)) := sv4_wr ue (w.heap.size + 1 + 1 + 1 + 1 + 1) (.int .i64 p.code) (.int .i64 p.time) (.string p.val) (.slice pla pln plc)
  have D2 := hide (show ∀ i, i ≤ w.heap.size + 1 + 1 + 1 → ((((ue.setCell ⟨w.heap.size + 1 + 1 + 1 + 1 + 1, 0, none⟩ (.int .i64 p.code)).setCell ⟨w.heap.size + 1 + 1 + 1 + 1 + 1, 1, none⟩ (.int .i64 p.time)).setCell ⟨w.heap.size + 1 + 1 + 1 + 1 + 1, 2, none⟩ (.string p.val)).setCell ⟨w.heap.size + 1 + 1 + 1 + 1 + 1, 3, none⟩ (.slice pla pln plc)).heap[i]? = u.heap[i]? from fun i hi => (hw.block i (by have := blk_lt (unhide E5); omega) (by omega)).trans (unhide D1 i hi))
  have K2 := hide (show ((((ue.setCell ⟨w.heap.size + 1 + 1 + 1 + 1 + 1, 0, none⟩ (.int .i64 p.code)).setCell ⟨w.heap.size + 1 + 1 + 1 + 1 + 1, 1, none⟩ (.int .i64 p.time)).setCell ⟨w.heap.size + 1 + 1 + 1 + 1 + 1, 2, none⟩ (.string p.val)).setCell ⟨w.heap.size + 1 + 1 + 1 + 1 + 1, 3, none⟩ (.slice pla pln plc)).heap[w.heap.size + 1 + 1 + 1 + 1 + 1]? = some (.cells #[.int .i64 p.code, .int .i64 p.time, .string p.val, .slice pla pln plc] 60 (0, 0)) from sv4_heap (unhide E5) (.int .i64 p.code) (.int .i64 p.time) (.string p.val) (.slice pla pln plc))
  have K1b := hide ((hw.block (w.heap.size + 1 + 1 + 1 + 1) (blk_lt (unhide K1)) (by omega)).trans (unhide K1))
  have O2 := hide (show VzOwn ((((ue.setCell ⟨w.heap.size + 1 + 1 + 1 + 1 + 1, 0, none⟩ (.int .i64 p.code)).setCell ⟨w.heap.size + 1 + 1 + 1 + 1 + 1, 1, none⟩ (.int .i64 p.time)).setCell ⟨w.heap.size + 1 + 1 + 1 + 1 + 1, 2, none⟩ (.string p.val)).setCell ⟨w.heap.size + 1 + 1 + 1 + 1 + 1, 3, none⟩ (.slice pla pln plc)) B ⟨la, ln, lc⟩ ⟨fsa, fsn, fsc⟩ ⟨sa, sn, sc⟩ hs ⟨d.next, d.list, d.fen ++ [x], d.ses⟩ from (unhide O1).box (unhide E5) (by decide) (by decide) (by decide) hw)
  have W2 := hide (show WrB (fun i => (Value.slice fa fn fc).ownBlock = some i) w ((((ue.setCell ⟨w.heap.size + 1 + 1 + 1 + 1 + 1, 0, none⟩ (.int .i64 p.code)).setCell ⟨w.heap.size + 1 + 1 + 1 + 1 + 1, 1, none⟩ (.int .i64 p.time)).setCell ⟨w.heap.size + 1 + 1 + 1 + 1 + 1, 2, none⟩ (.string p.val)).setCell ⟨w.heap.size + 1 + 1 + 1 + 1 + 1, 3, none⟩ (.slice pla pln plc)) from ⟨hw.os.trans (unhide W1).os, hw.tape.trans (unhide W1).tape, hw.output.trans (unhide W1).output, Nat.le_trans (unhide W1).size hw.size, fun i h1 h2 => (hw.block i (Nat.lt_of_lt_of_le h1 (unhide W1).size) (by omega)).trans ((unhide W1).block i h1 h2)⟩)
  clear hw
  go_simp
  refine hK.out _ _ (unhide SK _ (unhide D2)) (fun hHeld => ?_)
  clear hK K
  clear c0 c1 c2 c3 cf0 cf1 cf2 cf3
  generalize (((ue.setCell ⟨w.heap.size + 1 + 1 + 1 + 1 + 1, 0, none⟩ (.int .i64 p.code)).setCell ⟨w.heap.size + 1 + 1 + 1 + 1 + 1, 1, none⟩ (.int .i64 p.time)).setCell ⟨w.heap.size + 1 + 1 + 1 + 1 + 1, 2, none⟩ (.string p.val)).setCell ⟨w.heap.size + 1 + 1 + 1 + 1 + 1, 3, none⟩ (.slice pla pln plc) = ug at *
  refine wpAnyH_done (by kernel_rfl) ?_ _
  have r0 := (heap_at (unhide K1b) 0).1
  have r1 := (heap_at (unhide K1b) 1).1
  have r2 := (heap_at (unhide K1b) 2).1
  have r3 := (heap_at (unhide K1b) 3).1
  have t0 := (heap_at (unhide K2) 0).1
  have t1 := (heap_at (unhide K2) 1).1
  have t2 := (heap_at (unhide K2) 2).1
  have t3 := (heap_at (unhide K2) 3).1
  have RES := hide (show ∃ f' : Sl, Ending.returned (.tuple #[.agg #[.int .i64 d.next, .slice la ln lc, .slice fsa fsn fsc, .slice sa sn sc], .agg #[.int .i64 p.code, .int .i64 p.time, .string p.val, .slice pla pln plc]]) = .returned (.tuple #[.agg #[.int .i64 d.next, .slice la ln lc, .slice f'.a f'.n f'.c, .slice sa sn sc], .agg #[.int .i64 p.code, .int .i64 p.time, .string p.val, .slice pla pln plc]]) ∧ VzOwn ug B ⟨la, ln, lc⟩ f' ⟨sa, sn, sc⟩ hs ⟨d.next, d.list, d.fen ++ [x], d.ses⟩ ∧ Below B w ug ∧ WrB (fun i => (Value.slice fa fn fc).ownBlock = some i) w ug from ⟨⟨fsa, fsn, fsc⟩, rfl, unhide O2, WrB.below (unhide W2) (fun i hi => (unhide FW i hi).1) (unhide HB), unhide W2⟩)
  clear hHeld SK D0 N4 N5 OD WD K1 K1b K2 O1 O2 W1 W2 D1 D2
  go_wp2_with fail
  refine bodyPost_ret (v := .tuple #[.agg #[.int .i64 d.next, .slice la ln lc, .slice fsa fsn fsc, .slice sa sn sc], .agg #[.int .i64 p.code, .int .i64 p.time, .string p.val, .slice pla pln plc]]) (by simp [results, Tryz.results58, go_sem, *]) rfl ?_
  exact unhide RES
end Go.Proofs.YtfajenejngddeaaGreat

namespace Go.Proofs.YtfajenejngddeaaGreat
open Go.RowKit

/-- The version at a place is the last of its key that is not later than a time. -/
def lastP (ds : List VerD) (t : Int) (i : Nat) (x : VerD) : Bool := match ds[i + 1]? with
  | none => true
  | some y => !decide (y.k = x.k) || decide (t < y.t)
def keepP (ds : List VerD) (t : Int) (i : Nat) (x : VerD) : Bool := decide (t < x.t) || (lastP ds t i x && !x.g)
/-- What is kept of the first so many. -/
def prTo (ds : List VerD) (t : Int) : Nat → List VerD
  | 0 => []
  | j + 1 => match ds[j]? with
    | none => prTo ds t j
    | some x => if keepP ds t j x = true then prTo ds t j ++ [x] else prTo ds t j
def prL (ds : List VerD) (t : Int) : List VerD := prTo ds t ds.length
theorem prTo_step {ds : List VerD} {t : Int} {j : Nat} (hj : j < ds.length) : prTo ds t (j + 1) = if keepP ds t j ds[j] = true then prTo ds t j ++ [ds[j]] else prTo ds t j := by
  rw [prTo, List.getElem?_eq_getElem hj]
theorem prTo_len (ds : List VerD) (t : Int) : ∀ j, (prTo ds t j).length ≤ j
  | 0 => Nat.le_refl _
  | j + 1 => by
    have := prTo_len ds t j
    rw [prTo]
    split
    · omega
    · split
      · rw [List.length_append, List.length_singleton]; omega
      · omega
/-- The first time at which a session may still look. -/
def leastV (d : VsD) : Int := d.ses.foldl (fun m s => if s.o = true then min m s.t else m) d.next
def prF (fs : List FenD) (m : Int) : List FenD := fs.filter fun f => decide (m < f.t)
def noVs : VsD := ⟨0, [], [], []⟩
def prC (d : VsD) (t : Int) : Int := if okVsD d = true then (if leastV d ≤ t then 8 else 0) else 1
def prV (d : VsD) (t : Int) : VsD := if okVsD d = true ∧ ¬ leastV d ≤ t then ⟨d.next, prL d.list t, prF d.fen (leastV d), d.ses⟩ else noVs
/-- What Prune leaves. -/
def PrRes (d : VsD) (t : Int) (w : World) (e : Ending) (w' : World) : Prop := ∃ l f s hs, e = .returned (.tuple #[.agg (vzC (prV d t).next l f s), .int .i64 (prC d t)]) ∧ VzOwn w' w.heap.size l f s hs (prV d t) ∧ Below w.heap.size w w'
theorem vz_zero (w : World) (B : Nat) : VzOwn w B ⟨none, 0, 0⟩ ⟨none, 0, 0⟩ ⟨none, 0, 0⟩ [] noVs := ⟨World.ownsRow_nil _ _ _ _, World.ownsRow_nil _ _ _ _, NOwn.flat (World.ownsRow_nil _ _ _ _) rfl (fun e he => by cases he) (fun e he => by cases he), rfl, fun i hi => by cases hi⟩
theorem pr_bad {d : VsD} {t : Int} {w w' : World} (h : okVsD d = false) (hb : Below w.heap.size w w') : PrRes d t w (.returned (.tuple #[.agg #[.int .i64 0, .slice none 0 0, .slice none 0 0, .slice none 0 0], .int .i64 1])) w' := by
  have hv : prV d t = noVs := by unfold prV; rw [if_neg (fun x => by rw [h] at x; exact absurd x.1 (by decide))]
  have hc : prC d t = 1 := by unfold prC; rw [if_neg (by rw [h]; decide)]
  exact ⟨⟨none, 0, 0⟩, ⟨none, 0, 0⟩, ⟨none, 0, 0⟩, [], by rw [hv, hc]; rfl, by rw [hv]; exact vz_zero _ _, hb⟩
theorem pr_state {d : VsD} {t : Int} {w w' : World} (h : okVsD d = true) (hl : leastV d ≤ t) (hb : Below w.heap.size w w') : PrRes d t w (.returned (.tuple #[.agg #[.int .i64 0, .slice none 0 0, .slice none 0 0, .slice none 0 0], .int .i64 8])) w' := by
  have hv : prV d t = noVs := by unfold prV; rw [if_neg (fun x => x.2 hl)]
  have hc : prC d t = 8 := by unfold prC; rw [if_pos h, if_pos hl]
  exact ⟨⟨none, 0, 0⟩, ⟨none, 0, 0⟩, ⟨none, 0, 0⟩, [], by rw [hv, hc]; rfl, by rw [hv]; exact vz_zero _ _, hb⟩
/-- A session as its cells. -/
def seR (h : SeH) : SesR := ⟨h.X.o, h.X.t, h.s0⟩
theorem vs_of_vz {w : World} {l f s : Sl} {hs : List SeH} {d : VsD} (h : VzIn w l f s hs d) : VsAt w l f s (hs.map seR) d := by
  refine ⟨h.vr, h.fr, ⟨by rw [List.length_map]; exact h.len.1, fun i hi => ?_⟩, ⟨by rw [List.length_map]; exact h.len.2, fun i h1 h2 => ?_⟩⟩
  · rw [List.length_map] at hi
    obtain ⟨b, off, e, _, c0, c1, c2⟩ := SeIn.cells h.sr hi
    refine ⟨b, off, e, ?_, ?_, ?_⟩
    · rw [List.getElem_map]; exact c0
    · rw [List.getElem_map]; exact c1
    · rw [List.getElem_map]; exact c2
  · rw [List.length_map] at h1
    obtain ⟨hd, he⟩ := h.at h1
    have hr := SeIn.row h.sr h1
    rw [List.getElem_map, ← he]
    exact ⟨rfl, rfl, hr⟩
/-- The least time, as far as so many sessions. -/
def leTo (d : VsD) (j : Nat) : Int := (d.ses.take j).foldl (fun m s => if s.o = true then min m s.t else m) d.next
theorem leTo_zero (d : VsD) : leTo d 0 = d.next := by simp [leTo]
theorem leTo_step (d : VsD) {j : Nat} (hj : j < d.ses.length) : leTo d (j + 1) = if d.ses[j].o = true then min (leTo d j) d.ses[j].t else leTo d j := by
  unfold leTo
  rw [takeG_snoc d.ses j hj, List.foldl_append]
  rfl
theorem leTo_all (d : VsD) : leTo d d.ses.length = leastV d := by unfold leTo leastV; rw [List.take_length]
theorem prF_step {fs : List FenD} {m : Int} {j : Nat} (hj : j < fs.length) : prF (fs.take (j + 1)) m = if m < fs[j].t then prF (fs.take j) m ++ [fs[j]] else prF (fs.take j) m := by
  unfold prF
  rw [takeG_snoc fs j hj, List.filter_append]
  by_cases h : m < fs[j].t <;> simp [h]
end Go.Proofs.YtfajenejngddeaaGreat

namespace Go.Proofs.YtfajenejngddeaaGreat
open Go.RowKit

theorem getD_is {α : Type} {xs : List α} {d : α} {i : Nat} (h : i < xs.length) : xs.getD i d = xs[i] := by simp [List.getD, h]
def gx (xs : List Int) (i : Nat) : Int := xs.getD i 0
theorem gx_at {xs : List Int} {i : Nat} (h : i < xs.length) : gx xs i = xs[i] := by unfold gx; rw [getD_is h]
/-- Two changed for each other. -/
def swL (xs : List Int) (i j : Nat) : List Int := (xs.set i (gx xs j)).set j (gx xs i)
theorem swL_len (xs : List Int) (i j : Nat) : (swL xs i j).length = xs.length := by simp [swL]
theorem swL_at {xs : List Int} {i j k : Nat} (hi : i < xs.length) (hj : j < xs.length) : gx (swL xs i j) k = if k = j then gx xs i else if k = i then gx xs j else gx xs k := by
  unfold swL gx
  simp only [List.getD]
  by_cases h1 : k = j
  · subst h1
    rw [if_pos rfl, List.getElem?_set_self (by simpa using hj)]
    rfl
  · rw [if_neg h1, List.getElem?_set_ne (fun e => h1 e.symm)]
    by_cases h2 : k = i
    · subst h2
      rw [if_pos rfl, List.getElem?_set_self hi]
      rfl
    · rw [if_neg h2, List.getElem?_set_ne (fun e => h2 e.symm)]
def HeapL (xs : List Int) : Prop := ∀ i, 0 < i → i < xs.length → gx xs ((i - 1) / 2) ≤ gx xs i
/-- All but one stand right. -/
def UpL (xs : List Int) (j : Nat) : Prop := (∀ i, 0 < i → i < xs.length → i ≠ j → gx xs ((i - 1) / 2) ≤ gx xs i) ∧ ∀ i, 0 < j → 0 < i → i < xs.length → (i - 1) / 2 = j → gx xs ((j - 1) / 2) ≤ gx xs i
def MinL (xs : List Int) (m : Int) : Prop := (∃ i, i < xs.length ∧ gx xs i = m) ∧ ∀ i, i < xs.length → m ≤ gx xs i
theorem UpL.zero {xs : List Int} (h : UpL xs 0) : HeapL xs := fun i h0 hi => h.1 i h0 hi (by omega)
theorem UpL.stop {xs : List Int} {j : Nat} (h : UpL xs j) (hs : gx xs ((j - 1) / 2) ≤ gx xs j) : HeapL xs := fun i h0 hi => by
  by_cases e : i = j
  · subst e; exact hs
  · exact h.1 i h0 hi e
theorem UpL.step {xs : List Int} {j : Nat} (h : UpL xs j) (hj : j < xs.length) (h0 : 0 < j) (hs : gx xs j < gx xs ((j - 1) / 2)) : UpL (swL xs ((j - 1) / 2) j) ((j - 1) / 2) := by
  obtain ⟨p, hp⟩ : ∃ p, p = (j - 1) / 2 := ⟨_, rfl⟩
  rw [← hp] at hs ⊢
  have hpj : p < j := by omega
  have at' : ∀ k, gx (swL xs p j) k = if k = j then gx xs p else if k = p then gx xs j else gx xs k := fun k => swL_at (by omega) hj
  refine ⟨fun i hi hil hne => ?_, fun i h1 hi hil hip => ?_⟩
  · rw [swL_len] at hil
    rw [at', at']
    by_cases e1 : i = j
    · subst e1
      rw [← hp, if_neg (by omega), if_pos rfl, if_pos rfl]
      omega
    · rw [if_neg e1, if_neg hne]
      have ha := h.1 i hi hil e1
      by_cases e2 : (i - 1) / 2 = j
      · rw [if_pos e2]
        have hb := h.2 i h0 hi hil e2
        rw [← hp] at hb
        exact hb
      · rw [if_neg e2]
        by_cases e3 : (i - 1) / 2 = p
        · rw [if_pos e3]
          rw [e3] at ha
          omega
        · rw [if_neg e3]
          exact ha
  · rw [swL_len] at hil
    rw [at', at', if_neg (by omega), if_neg (by omega)]
    have ha := h.1 p h1 (by omega) (by omega)
    by_cases e1 : i = j
    · rw [if_pos e1]; exact ha
    · rw [if_neg e1, if_neg (by omega)]
      have hb := h.1 i hi hil e1
      rw [hip] at hb
      omega
theorem HeapL.least {xs : List Int} (h : HeapL xs) : ∀ i, i < xs.length → gx xs 0 ≤ gx xs i := by
  intro i
  induction i using Nat.strongRecOn with
  | _ i ih =>
    intro hi
    by_cases h0 : i = 0
    · subst h0; exact Int.le_refl _
    · have h1 := ih ((i - 1) / 2) (by omega) (by omega)
      have h2 := h i (by omega) hi
      omega
theorem HeapL.root {xs : List Int} {m : Int} (h : HeapL xs) (hm : MinL xs m) : gx xs 0 = m := by
  obtain ⟨⟨i, hi, e⟩, h2⟩ := hm
  have h1 := h.least i hi
  have h3 := h2 0 (by omega)
  omega
theorem MinL.sw {xs : List Int} {m : Int} (h : MinL xs m) {i j : Nat} (hi : i < xs.length) (hj : j < xs.length) : MinL (swL xs i j) m := by
  obtain ⟨⟨k, hk, e⟩, h2⟩ := h
  constructor
  · by_cases e1 : k = i
    · subst e1
      exact ⟨j, by rw [swL_len]; exact hj, by rw [swL_at hi hj, if_pos rfl]; exact e⟩
    · by_cases e2 : k = j
      · subst e2
        refine ⟨i, by rw [swL_len]; exact hi, ?_⟩
        rw [swL_at hi hj, if_neg (fun x => e1 x.symm), if_pos rfl]
        exact e
      · exact ⟨k, by rw [swL_len]; exact hk, by rw [swL_at hi hj, if_neg e2, if_neg e1]; exact e⟩
  · intro q hq
    rw [swL_len] at hq
    rw [swL_at hi hj]
    split
    · exact h2 i hi
    · split
      · exact h2 j hj
      · exact h2 q hq
theorem gx_app {xs : List Int} {x : Int} {i : Nat} : gx (xs ++ [x]) i = if i < xs.length then gx xs i else if i = xs.length then x else 0 := by
  unfold gx
  simp only [List.getD]
  by_cases h : i < xs.length
  · rw [if_pos h, List.getElem?_append_left h]
  · rw [if_neg h, List.getElem?_append_right (by omega)]
    by_cases e : i = xs.length
    · rw [if_pos e, e, Nat.sub_self]; rfl
    · rw [if_neg e, List.getElem?_eq_none (by rw [List.length_singleton]; omega)]; rfl
theorem HeapL.app {xs : List Int} (h : HeapL xs) (x : Int) : UpL (xs ++ [x]) xs.length := by
  refine ⟨fun i h0 hi hne => ?_, fun i _ h0 hi hip => ?_⟩
  · rw [List.length_append, List.length_singleton] at hi
    rw [gx_app, gx_app, if_pos (by omega), if_pos (by omega)]
    exact h i h0 (by omega)
  · rw [List.length_append, List.length_singleton] at hi
    omega
theorem MinL.app {xs : List Int} {m : Int} (h : MinL xs m) (x : Int) : MinL (xs ++ [x]) (min m x) := by
  obtain ⟨⟨k, hk, e⟩, h2⟩ := h
  constructor
  · by_cases hx : m ≤ x
    · exact ⟨k, by rw [List.length_append]; omega, by rw [gx_app, if_pos hk]; omega⟩
    · exact ⟨xs.length, by simp, by rw [gx_app, if_neg (by omega), if_pos rfl]; omega⟩
  · intro i hi
    rw [List.length_append, List.length_singleton] at hi
    rw [gx_app]
    by_cases hl : i < xs.length
    · rw [if_pos hl]; have := h2 i hl; omega
    · rw [if_neg hl, if_pos (by omega)]; omega
theorem heap_one (x : Int) : HeapL [x] ∧ MinL [x] x := ⟨fun i h0 hi => by simp at hi; omega, ⟨0, by simp, rfl⟩, fun i hi => by
  obtain rfl : i = 0 := by simpa using hi
  exact Int.le_refl _⟩
end Go.Proofs.YtfajenejngddeaaGreat

namespace Go.Proofs.YtfajenejngddeaaGreat
open Go.RowKit

theorem insV_cons (e : VerD) (r : List VerD) (x : VerD) : insV (e :: r) x = if ltV e x = true then e :: insV r x else if sameV e x = true then x :: r else x :: e :: r := by
  by_cases h : ltV e x = true
  · rw [if_pos h]
    have hp : posV (e :: r) x = posV r x + 1 := by rw [posV, if_pos h]
    have hh : hitV (e :: r) x = hitV r x := by unfold hitV; rw [hp]; rfl
    unfold insV
    rw [hh, hp, List.take_succ_cons, List.cons_append, show posV r x + 1 + (if hitV r x = true then 1 else 0) = (posV r x + (if hitV r x = true then 1 else 0)) + 1 by omega, List.drop_succ_cons]
  · rw [if_neg h]
    have hp : posV (e :: r) x = 0 := by rw [posV, if_neg h]
    have hh : hitV (e :: r) x = sameV e x := by unfold hitV; rw [hp]; rfl
    unfold insV
    rw [hh, hp]
    by_cases hs : sameV e x = true
    · rw [if_pos hs, if_pos hs]; rfl
    · rw [if_neg hs, if_neg hs]; rfl
theorem insV_mem (x y : VerD) : ∀ ds : List VerD, y ∈ insV ds x → y = x ∨ y ∈ ds
  | [], h => by simp [insV, posV, hitV] at h; exact .inl h
  | e :: r, h => by
    rw [insV_cons] at h
    split at h
    · rcases List.mem_cons.1 h with rfl | h
      · exact .inr (List.mem_cons_self ..)
      · rcases insV_mem x y r h with h | h
        · exact .inl h
        · exact .inr (List.mem_cons_of_mem _ h)
    · split at h
      · rcases List.mem_cons.1 h with rfl | h
        · exact .inl rfl
        · exact .inr (List.mem_cons_of_mem _ h)
      · rcases List.mem_cons.1 h with rfl | h
        · exact .inl rfl
        · exact .inr h
theorem ltV_tot {a b : VerD} (h : ltV a b = false) (hs : sameV a b = false) : ltV b a = true := by
  unfold ltV sameV at *
  cases hb : ltK b.k a.k
  · cases ha : ltK a.k b.k
    · have hk := ltK_eq ha hb
      rw [ha, hk] at h
      rw [hk] at hs ⊢
      simp at h hs ⊢
      omega
    · rw [ha] at h; simp at h
  · simp
theorem ltV_same {a b c : VerD} (hs : sameV a b = true) (h : ltV a c = true) : ltV b c = true := by
  unfold sameV at hs
  unfold ltV at *
  simp only [Bool.and_eq_true, decide_eq_true_eq] at hs
  rw [← hs.1, ← hs.2]
  exact h
theorem insV_pair (x : VerD) : ∀ ds : List VerD, (ds.Pairwise fun a b => ltV a b = true) → (insV ds x).Pairwise fun a b => ltV a b = true
  | [], _ => by simp [insV, posV, hitV]
  | e :: r, h => by
    obtain ⟨h1, h2⟩ := List.pairwise_cons.1 h
    rw [insV_cons]
    split
    · rename_i hl
      refine List.pairwise_cons.2 ⟨fun y hy => ?_, insV_pair x r h2⟩
      rcases insV_mem x y r hy with rfl | hy
      · exact hl
      · exact h1 y hy
    · rename_i hl
      split
      · rename_i hs
        exact List.pairwise_cons.2 ⟨fun y hy => ltV_same hs (h1 y hy), h2⟩
      · rename_i hs
        have hx : ltV x e = true := ltV_tot (by simpa using hl) (by simpa using hs)
        refine List.pairwise_cons.2 ⟨fun y hy => ?_, h⟩
        rcases List.mem_cons.1 hy with rfl | hy
        · exact hx
        · exact ltV_trans hx (h1 y hy)
theorem okVs_iff (ds : List VerD) : okVs ds = true ↔ (∀ d ∈ ds, verK d = true) ∧ ds.Pairwise (fun a b => ltV a b = true) := by
  refine ⟨fun h => ⟨fun d hd => ?_, okVs_pair h⟩, fun h => okVs_true fun i hi => ?_⟩
  · obtain ⟨i, hi, rfl⟩ := List.getElem_of_mem hd
    exact okVs_ver h hi
  · cases i with
    | zero => rw [okAtV_zero hi]; exact h.1 _ (List.getElem_mem hi)
    | succ i =>
      rw [okAtV_succ hi, h.1 _ (List.getElem_mem hi), List.pairwise_iff_getElem.1 h.2 i (i + 1) (by omega) hi (by omega)]
      rfl
theorem okVs_ins {ds : List VerD} {x : VerD} (h : okVs ds = true) (hx : verK x = true) : okVs (insV ds x) = true := by
  rw [okVs_iff] at h ⊢
  refine ⟨fun d hd => ?_, insV_pair x ds h.2⟩
  rcases insV_mem x d ds hd with rfl | hd
  · exact hx
  · exact h.1 d hd
theorem okVs_fold : ∀ (ws : List VerD) (ds : List VerD), okVs ds = true → (∀ x ∈ ws, verK x = true) → okVs (ws.foldl insV ds) = true
  | [], _, h, _ => h
  | x :: r, ds, h, hw => okVs_fold r (insV ds x) (okVs_ins h (hw x (List.mem_cons_self ..))) (fun y hy => hw y (List.mem_cons_of_mem _ hy))
theorem fold_mem (y : VerD) : ∀ (ws : List VerD) (ds : List VerD), y ∈ ws.foldl insV ds → y ∈ ws ∨ y ∈ ds
  | [], _, h => .inr h
  | x :: r, ds, h => by
    rcases fold_mem y r (insV ds x) h with h | h
    · exact .inl (List.mem_cons_of_mem _ h)
    · rcases insV_mem x y ds h with rfl | h
      · exact .inl (List.mem_cons_self ..)
      · exact .inr h
theorem fold_len : ∀ (ws : List VerD) (ds : List VerD), (ws.foldl insV ds).length ≤ ds.length + ws.length
  | [], _ => by simp
  | x :: r, ds => by
    rw [List.foldl_cons]
    have := fold_len r (insV ds x)
    have := insV_len ds x
    simp only [List.length_cons]
    omega
theorem sum_set {α : Type} (f : α → Nat) : ∀ (l : List α) (i : Nat) (x : α) (h : i < l.length), ((l.set i x).map f).sum + f l[i] = (l.map f).sum + f x
  | [], i, x, h => by simp at h
  | y :: r, 0, x, _ => by simp; omega
  | y :: r, i + 1, x, h => by
    have := sum_set f r i x (by simpa using h)
    simp only [List.set_cons_succ, List.map_cons, List.sum_cons, List.getElem_cons_succ]
    omega
/-- Versions behind so many acts. -/
structure RunV (d : VsD) (k : Nat) : Prop where
  nx : 1 ≤ d.next ∧ d.next ≤ 1000
  ses : d.ses.length = 4
  ok : okVs d.list = true
  late : ∀ x ∈ d.list, x.t < d.next
  fk : ∀ f ∈ d.fen, fenK d.next f = true
  sk : ∀ s ∈ d.ses, sesK d.next s = true
  cnt : d.list.length + (d.ses.map (·.ws.length)).sum ≤ k
  fen : d.fen.length ≤ k
theorem RunV.okD {d : VsD} {k : Nat} (h : RunV d k) (hk : k ≤ 4096) : okVsD d = true := by
  have h1 := h.cnt
  have h2 := h.fen
  unfold okVsD topK lateK
  rw [decide_eq_true (show 1 ≤ d.next ∧ d.next ≤ 1000 ∧ d.list.length ≤ 4096 ∧ d.fen.length ≤ 4096 ∧ d.ses.length = 4 from ⟨h.nx.1, h.nx.2, by omega, by omega, h.ses⟩), h.ok, List.all_eq_true.2 (fun x hx => decide_eq_true (h.late x hx)), List.all_eq_true.2 h.fk, List.all_eq_true.2 h.sk]
  rfl
theorem sesK_ws {n : Int} {s : SesD} (h : sesK n s = true) : s.ws.length ≤ 8 := by
  unfold sesK wrV at h
  split at h
  · simp at h; omega
  · simp at h; rw [h.2]; simp
theorem RunV.small {d : VsD} {k : Nat} (h : RunV d k) (hk : k ≤ 800) : SmV d :=
  ⟨by have := h.cnt; omega, by have := h.fen; omega, h.ses, fun s hs => sesK_ws (h.sk s hs), h.nx⟩
theorem sesK_open {n : Int} {s : SesD} (h : sesK n s = true) (ho : s.o = true) : 1 ≤ s.t ∧ s.t < n ∧ wrV s.ws s.t = true := by
  unfold sesK at h
  rw [if_pos ho] at h
  simp only [Bool.and_eq_true, decide_eq_true_eq] at h
  exact ⟨h.1, h.2.1, h.2.2⟩
theorem sesK_up {n m : Int} {s : SesD} (h : sesK n s = true) (hm : n ≤ m) : sesK m s = true := by
  unfold sesK at *
  split
  · rename_i ho
    rw [if_pos ho] at h
    simp only [Bool.and_eq_true, decide_eq_true_eq] at h ⊢
    exact ⟨h.1, by omega, h.2.2⟩
  · rename_i ho
    rw [if_neg ho] at h
    exact h
theorem fenK_up {n m : Int} {f : FenD} (h : fenK n f = true) (hm : n ≤ m) : fenK m f = true := by
  unfold fenK at *
  simp only [Bool.and_eq_true, decide_eq_true_eq] at h ⊢
  exact ⟨h.1, h.2.1, h.2.2.1, by omega⟩
theorem clS_ok (n : Int) : sesK n clS = true := rfl
theorem RunV.more {d : VsD} {k m : Nat} (h : RunV d k) (hm : k ≤ m) : RunV d m := ⟨h.nx, h.ses, h.ok, h.late, h.fk, h.sk, by have := h.cnt; omega, by have := h.fen; omega⟩
/-- A session is closed. -/
theorem RunV.close {d : VsD} {k : Nat} (h : RunV d k) {i : Nat} (hi : i < 4) : RunV ⟨d.next, d.list, d.fen, d.ses.set i clS⟩ k := by
  have hil : i < d.ses.length := by rw [h.ses]; exact hi
  refine ⟨h.nx, by simp [h.ses], h.ok, h.late, h.fk, fun s hs => ?_, ?_, h.fen⟩
  · rcases List.mem_or_eq_of_mem_set hs with hs | rfl
    · exact h.sk s hs
    · exact clS_ok _
  · have h1 := sum_set (fun s : SesD => s.ws.length) d.ses i clS hil
    have h2 := h.cnt
    simp only [clS, List.length_nil] at h1 ⊢
    omega
theorem RunV.fence {d : VsD} {k : Nat} (h : RunV d k) {f : FenD} (hf : fenK d.next f = true) {r : RepD} : RunV (fenV d f r).1 (k + 1) := by
  unfold fenV
  split
  · exact h.more (Nat.le_succ _)
  · refine ⟨h.nx, h.ses, h.ok, h.late, fun x hx => ?_, h.sk, by have := h.cnt; simp only at this ⊢; omega, by have := h.fen; simp only [List.length_append, List.length_singleton]; omega⟩
    rcases List.mem_append.1 hx with hx | hx
    · exact h.fk x hx
    · rw [List.mem_singleton.1 hx]; exact hf
theorem nulK_size (k : ByteArray) : (nulK k).size = k.size + 1 := by
  unfold nulK
  rw [ByteArray.size_append]
  rfl
theorem RunV.step {d : VsD} {k : Nat} (h : RunV d k) (a : TxD) : RunV (stepV d a).1 (k + 1) := by
  unfold stepV
  split
  · exact h.more (Nat.le_succ _)
  rename_i hk
  split
  · exact h.more (Nat.le_succ _)
  rename_i hs
  have hi : a.ses.toNat < 4 := by omega
  generalize a.ses.toNat = i at *
  have hil : i < d.ses.length := by rw [h.ses]; exact hi
  have hg : d.ses.getD i clS = d.ses[i] := by rw [List.getD_eq_getElem?_getD, List.getElem?_eq_getElem hil]; rfl
  rw [hg]
  have hsk := h.sk d.ses[i] (List.getElem_mem hil)
  have hnx := h.nx
  unfold sesV
  split
  · split
    · exact h.more (Nat.le_succ _)
    split
    · exact h.more (Nat.le_succ _)
    rename_i hn
    refine ⟨by simp only; omega, by simp [h.ses], h.ok, fun x hx => by have := h.late x hx; simp only; omega, fun f hf => fenK_up (h.fk f hf) (by simp only; omega), fun s hs => ?_, ?_, by have := h.fen; simp only; omega⟩
    · rcases List.mem_or_eq_of_mem_set hs with hs | rfl
      · exact sesK_up (h.sk s hs) (by simp only; omega)
      · unfold sesK
        rw [if_pos rfl]
        simp only [Bool.and_eq_true, decide_eq_true_eq]
        exact ⟨hnx.1, by omega, rfl⟩
    · have h1 := sum_set (fun s : SesD => s.ws.length) d.ses i ⟨true, d.next, []⟩ hil
      have h2 := h.cnt
      simp only [List.length_nil] at h1 ⊢
      omega
  split
  · exact h.more (Nat.le_succ _)
  rename_i ho
  have ho : d.ses[i].o = true := by simpa using ho
  obtain ⟨ht1, ht2, hw⟩ := sesK_open hsk ho
  split
  · exact h.more (Nat.le_succ _)
  rename_i hf
  have hf : fitA a = true := by simpa using hf
  generalize hd : d.ses[i] = s at *
  unfold inV
  split
  · rename_i h2
    refine h.fence ?_
    unfold fitA at hf
    rw [if_pos (.inl h2)] at hf
    simp only [Bool.and_eq_true] at hf
    have hk1 := of_decide_eq_true hf.1
    unfold fenK
    simp only [Bool.and_eq_true, decide_eq_true_eq]
    rw [nulK_size]
    exact ⟨by omega, by omega, ht1, ht2⟩
  split
  · rename_i h2 h3
    refine h.fence ?_
    unfold fitA at hf
    rw [if_neg (by omega), if_pos h3] at hf
    simp only [Bool.and_eq_true, decide_eq_true_eq] at hf
    unfold fenK
    simp only [Bool.and_eq_true, decide_eq_true_eq]
    exact ⟨by omega, by omega, ht1, ht2⟩
  have hwp := hw
  unfold wrV at hwp
  simp only [Bool.and_eq_true, decide_eq_true_eq] at hwp
  split
  · rename_i h45
    split
    · exact h.more (Nat.le_succ _)
    rename_i h8
    have hv : verK (wrA a s.t) = true ∧ (wrA a s.t).t = s.t := by
      unfold fitA at hf
      rw [if_pos (.inr h45)] at hf
      simp only [Bool.and_eq_true] at hf
      unfold wrA
      split
      · refine ⟨?_, rfl⟩
        unfold verK idK
        rw [hf.1]
        simp only [Bool.true_and]
        rw [decide_eq_true (show 0 ≤ s.t ∧ s.t ≤ 1000 by omega), ByteArray.toList_eq]
        rfl
      · refine ⟨?_, rfl⟩
        unfold verK idK
        rw [hf.1, hf.2]
        simp only [Bool.true_and]
        rw [decide_eq_true (show 0 ≤ s.t ∧ s.t ≤ 1000 by omega)]
        rfl
    refine ⟨hnx, by simp [h.ses], h.ok, h.late, h.fk, fun q hq => ?_, ?_, by have := h.fen; simp only; omega⟩
    · rcases List.mem_or_eq_of_mem_set hq with hq | rfl
      · exact h.sk q hq
      · unfold sesK
        rw [if_pos ho]
        simp only [Bool.and_eq_true, decide_eq_true_eq]
        refine ⟨ht1, ht2, ?_⟩
        unfold wrV
        simp only [Bool.and_eq_true, decide_eq_true_eq]
        refine ⟨by omega, okVs_ins hwp.2.1 hv.1, List.all_eq_true.2 fun x hx => decide_eq_true ?_⟩
        rcases insV_mem _ x _ hx with rfl | hx
        · exact hv.2
        · exact of_decide_eq_true (List.all_eq_true.1 hwp.2.2 x hx)
    · have h1 := sum_set (fun s : SesD => s.ws.length) d.ses i ⟨s.o, s.t, insV s.ws (wrA a s.t)⟩ hil
      have h2 := h.cnt
      have h3 := insV_len s.ws (wrA a s.t)
      rw [hd] at h1
      simp only at h1 ⊢
      omega
  split
  · split
    · exact (h.close hi).more (Nat.le_succ _)
    · refine ⟨hnx, by simp [h.ses], okVs_fold _ _ h.ok (fun x hx => ((okVs_iff _).1 hwp.2.1).1 x hx), fun x hx => ?_, h.fk, fun q hq => ?_, ?_, by have := h.fen; simp only; omega⟩
      · rcases fold_mem x s.ws d.list hx with hx | hx
        · have := of_decide_eq_true (List.all_eq_true.1 hwp.2.2 x hx)
          simp only
          omega
        · exact h.late x hx
      · rcases List.mem_or_eq_of_mem_set hq with hq | rfl
        · exact h.sk q hq
        · exact clS_ok _
      · have h1 := sum_set (fun s : SesD => s.ws.length) d.ses i clS hil
        have h2 := h.cnt
        have h3 := fold_len s.ws d.list
        rw [hd] at h1
        simp only [clS, List.length_nil] at h1 ⊢
        omega
  · exact (h.close hi).more (Nat.le_succ _)
theorem RunV.new : RunV newV 0 := ⟨by simp [newV], rfl, rfl, fun x hx => by simp [newV] at hx, fun x hx => by simp [newV] at hx, fun s hs => by rw [List.eq_of_mem_replicate hs]; rfl, by simp [newV, clS], by simp [newV]⟩
theorem runV_take {acts : List TxD} {k : Nat} (h : k < acts.length) : runV (acts.take (k + 1)) = ((stepV (runV (acts.take k)).1 acts[k]).1, (runV (acts.take k)).2 ++ [(stepV (runV (acts.take k)).1 acts[k]).2]) := by
  rw [takeG_snoc acts k h, runV_snoc]
theorem runV_ok (acts : List TxD) : ∀ k, k ≤ acts.length → RunV (runV (acts.take k)).1 k
  | 0, _ => by rw [List.take_zero]; exact RunV.new
  | k + 1, h => by rw [runV_take (by omega)]; exact (runV_ok acts k (by omega)).step _
end Go.Proofs.YtfajenejngddeaaGreat

namespace Go.Proofs.YtfajenejngddeaaGreat
open Go.RowKit

theorem ltV_irr (a : VerD) : ltV a a = false := by unfold ltV; rw [ltK_irr]; simp
/-- Two lists that rise and have the same versions are one. -/
theorem rise_one : ∀ (l m : List VerD), (l.Pairwise fun a b => ltV a b = true) → (m.Pairwise fun a b => ltV a b = true) → (∀ x, x ∈ l ↔ x ∈ m) → l = m
  | [], m, _, _, h => by
    cases m with
    | nil => rfl
    | cons y s => exact absurd ((h y).2 (List.mem_cons_self ..)) List.not_mem_nil
  | x :: r, [], _, _, h => absurd ((h x).1 (List.mem_cons_self ..)) List.not_mem_nil
  | x :: r, y :: s, hl, hm, h => by
    obtain ⟨hx, hr⟩ := List.pairwise_cons.1 hl
    obtain ⟨hy, hs⟩ := List.pairwise_cons.1 hm
    have e : x = y := by
      rcases List.mem_cons.1 ((h x).1 (List.mem_cons_self ..)) with e | e
      · exact e
      · rcases List.mem_cons.1 ((h y).2 (List.mem_cons_self ..)) with e2 | e2
        · exact e2.symm
        · have := ltV_trans (hx y e2) (hy x e)
          rw [ltV_irr] at this
          exact absurd this (by decide)
    subst e
    have hrs := rise_one r s hr hs fun z => by
      constructor
      · intro hz
        rcases List.mem_cons.1 ((h z).1 (List.mem_cons_of_mem _ hz)) with e | e
        · subst e
          have := hx z hz
          rw [ltV_irr] at this
          exact absurd this (by decide)
        · exact e
      · intro hz
        rcases List.mem_cons.1 ((h z).2 (List.mem_cons_of_mem _ hz)) with e | e
        · subst e
          have := hy z hz
          rw [ltV_irr] at this
          exact absurd this (by decide)
        · exact e
    rw [hrs]
theorem grp_mem {ds : List VerD} {k : ByteArray} {x : VerD} : x ∈ grp ds k ↔ x ∈ ds ∧ x.k = k := by
  unfold grp
  rw [List.mem_filter, decide_eq_true_eq]
theorem grp_sub (ds : List VerD) (k : ByteArray) : (grp ds k).Sublist ds := List.filter_sublist
theorem dkeys_mem {ds : List VerD} {k : ByteArray} : k ∈ dkeys ds ↔ ∃ x ∈ ds, x.k = k := by
  unfold dkeys
  rw [dk_mem ds k _ (Nat.le_refl _)]
  constructor
  · rintro ⟨i, hi, _, e⟩
    exact ⟨_, List.getElem_mem hi, e⟩
  · rintro ⟨x, hx, e⟩
    obtain ⟨i, hi, rfl⟩ := List.getElem_of_mem hx
    exact ⟨i, hi, hi, e⟩
/-- A right list is what its keys have, one behind the other. -/
theorem list_flat {ds : List VerD} (ok : okVs ds = true) : (dkeys ds).flatMap (grp ds) = ds := by
  refine rise_one _ _ (List.pairwise_flatMap.2 ⟨fun k _ => (okVs_pair ok).sublist (grp_sub ds k), ?_⟩) (okVs_pair ok) fun x => ?_
  · refine (dk_rise ok _ (Nat.le_refl _)).imp fun {a b} h x hx y hy => ?_
    unfold ltV
    rw [(grp_mem.1 hx).2, (grp_mem.1 hy).2, h]
    rfl
  · rw [List.mem_flatMap]
    constructor
    · rintro ⟨k, _, hx⟩
      exact (grp_mem.1 hx).1
    · intro hx
      exact ⟨x.k, dkeys_mem.2 ⟨x, hx, rfl⟩, grp_mem.2 ⟨hx, rfl⟩⟩
theorem prTo_sub (ds : List VerD) (t : Int) : ∀ j, j ≤ ds.length → (prTo ds t j).Sublist (ds.take j)
  | 0, _ => by simp [prTo]
  | j + 1, hj => by
    have hj2 : j < ds.length := hj
    have ih := prTo_sub ds t j (by omega)
    rw [prTo_step hj2, takeG_snoc ds j hj2]
    split
    · exact ih.append (List.Sublist.refl _)
    · exact ih.trans (List.sublist_append_left _ _)
theorem prL_sub (ds : List VerD) (t : Int) : (prL ds t).Sublist ds := by
  have := prTo_sub ds t ds.length (Nat.le_refl _)
  rwa [List.take_length] at this
theorem prL_ok {ds : List VerD} (ok : okVs ds = true) (t : Int) : okVs (prL ds t) = true := by
  obtain ⟨h1, h2⟩ := (okVs_iff ds).1 ok
  exact (okVs_iff _).2 ⟨fun d hd => h1 d ((prL_sub ds t).subset hd), h2.sublist (prL_sub ds t)⟩
theorem prTo_mem (ds : List VerD) (t : Int) (x : VerD) : ∀ j, j ≤ ds.length → (x ∈ prTo ds t j ↔ ∃ i, ∃ h : i < ds.length, i < j ∧ ds[i] = x ∧ keepP ds t i x = true)
  | 0, _ => by simp [prTo]
  | j + 1, hj => by
    have hj2 : j < ds.length := hj
    have ih := prTo_mem ds t x j (by omega)
    rw [prTo_step hj2]
    by_cases hk : keepP ds t j ds[j] = true
    · rw [if_pos hk, List.mem_append, ih, List.mem_singleton]
      constructor
      · rintro (⟨i, h, h1, h2⟩ | rfl)
        · exact ⟨i, h, by omega, h2⟩
        · exact ⟨j, hj2, by omega, rfl, hk⟩
      · rintro ⟨i, h, h1, h2, h3⟩
        by_cases e : i < j
        · exact .inl ⟨i, h, e, h2, h3⟩
        · obtain rfl : i = j := by omega
          exact .inr h2.symm
    · rw [if_neg hk, ih]
      constructor
      · rintro ⟨i, h, h1, h2⟩
        exact ⟨i, h, by omega, h2⟩
      · rintro ⟨i, h, h1, h2, h3⟩
        by_cases e : i < j
        · exact ⟨i, h, e, h2, h3⟩
        · obtain rfl : i = j := by omega
          subst h2
          exact absurd h3 hk
theorem ltV_key {a b : VerD} (h : ltV a b = true) (hk : a.k = b.k) : a.t < b.t := by
  unfold ltV at h
  rw [hk, ltK_irr] at h
  simpa using h
/-- A version that stands behind another of its key comes behind the next one, too, which is of its key. -/
theorem lastP_iff {ds : List VerD} (ok : okVs ds = true) (t : Int) {i : Nat} (hi : i < ds.length) : lastP ds t i ds[i] = true ↔ ∀ y ∈ ds, y.k = ds[i].k → ds[i].t < y.t → t < y.t := by
  unfold lastP
  by_cases h1 : i + 1 < ds.length
  · rw [List.getElem?_eq_getElem h1]
    have hn := okVs_lt2 ok h1 (Nat.lt_succ_self i)
    simp only [Bool.or_eq_true, Bool.not_eq_true', decide_eq_false_iff_not, decide_eq_true_eq]
    constructor
    · intro h y hy hk hlt
      obtain ⟨j, hj, rfl⟩ := List.getElem_of_mem hy
      have hij : i < j := by
        rcases Nat.lt_trichotomy i j with e | e | e
        · exact e
        · subst e; omega
        · have := ltV_key (okVs_lt2 ok hi e) hk
          omega
      by_cases hj1 : j = i + 1
      · subst hj1
        rcases h with h | h
        · exact absurd hk h
        · exact h
      · have h2 := okVs_lt2 ok hj (show i + 1 < j by omega)
        rcases h with h | h
        · exfalso
          rcases ltV_or hn with e | e
          · rcases ltV_or h2 with e2 | e2
            · have := ltK_trans e e2
              rw [hk, ltK_irr] at this
              exact absurd this (by decide)
            · rw [e2, hk, ltK_irr] at e
              exact absurd e (by decide)
          · exact h e.symm
        · have hk2 : ds[i + 1].k = ds[j].k := by
            rcases ltV_or h2 with e2 | e2
            · rcases ltV_or hn with e | e
              · have := ltK_trans e e2
                rw [hk, ltK_irr] at this
                exact absurd this (by decide)
              · rw [← e, hk, ltK_irr] at e2
                exact absurd e2 (by decide)
            · exact e2
          have := ltV_key h2 hk2
          omega
    · intro h
      by_cases hk : ds[i + 1].k = ds[i].k
      · exact .inr (h _ (List.getElem_mem h1) hk (ltV_key hn hk.symm))
      · exact .inl hk
  · rw [List.getElem?_eq_none (by omega)]
    refine ⟨fun _ y hy hk hlt => ?_, fun _ => rfl⟩
    obtain ⟨j, hj, rfl⟩ := List.getElem_of_mem hy
    by_cases e : j = i
    · subst e; omega
    · have := ltV_key (okVs_lt2 ok hi (show j < i by omega)) hk
      omega
theorem prL_mem {ds : List VerD} (ok : okVs ds = true) (t : Int) (x : VerD) : x ∈ prL ds t ↔ x ∈ ds ∧ (t < x.t ∨ (x.g = false ∧ ∀ y ∈ ds, y.k = x.k → x.t < y.t → t < y.t)) := by
  unfold prL
  rw [prTo_mem ds t x _ (Nat.le_refl _)]
  constructor
  · rintro ⟨i, hi, _, rfl, hk⟩
    refine ⟨List.getElem_mem hi, ?_⟩
    unfold keepP at hk
    simp only [Bool.or_eq_true, Bool.and_eq_true, decide_eq_true_eq, Bool.not_eq_true'] at hk
    rcases hk with hk | ⟨h1, h2⟩
    · exact .inl hk
    · exact .inr ⟨h2, (lastP_iff ok t hi).1 h1⟩
  · rintro ⟨hx, h⟩
    obtain ⟨i, hi, rfl⟩ := List.getElem_of_mem hx
    refine ⟨i, hi, hi, rfl, ?_⟩
    unfold keepP
    simp only [Bool.or_eq_true, Bool.and_eq_true, decide_eq_true_eq, Bool.not_eq_true']
    rcases h with h | ⟨h1, h2⟩
    · exact .inl h
    · exact .inr ⟨(lastP_iff ok t hi).2 h2, h1⟩
theorem cnt_at {L : List VerD} (h : L.Pairwise fun a b => a.t < b.t) (t : Int) {p : Nat} (hp : p < L.length) : L[p].t ≤ t ↔ p < cnt L t := by
  have hw := while_filter h t
  rw [take_cnt] at hw
  constructor
  · intro h1
    have hm : L[p] ∈ L.take (cnt L t) := by
      rw [hw, List.mem_filter]
      exact ⟨List.getElem_mem hp, decide_eq_true h1⟩
    obtain ⟨q, hq, e⟩ := List.getElem_of_mem hm
    rw [List.length_take] at hq
    rw [List.getElem_take] at e
    rcases Nat.lt_trichotomy p q with h2 | h2 | h2
    · omega
    · omega
    · have := List.pairwise_iff_getElem.1 h q p (by omega) hp h2
      rw [e] at this
      omega
  · intro h1
    have hm : L[p] ∈ L.take (cnt L t) := List.mem_take_iff_getElem.2 ⟨p, by omega, rfl⟩
    rw [hw, List.mem_filter, decide_eq_true_eq] at hm
    exact hm.2
/-- From where on the versions of a key are kept. -/
def frP (L : List VerD) (t : Int) : Nat := if 0 < cnt L t ∧ (L.getD (cnt L t - 1) noV).g = false then cnt L t - 1 else cnt L t
theorem frP_le (L : List VerD) (t : Int) : frP L t ≤ L.length := by
  have := cnt_le L t
  unfold frP
  split <;> omega
theorem grp_pr {ds : List VerD} (ok : okVs ds = true) (t : Int) (k : ByteArray) : grp (prL ds t) k = (grp ds k).drop (frP (grp ds k) t) := by
  have hr := grp_rise ok k
  have hL : ∀ x, x ∈ grp ds k ↔ x ∈ ds ∧ x.k = k := fun x => grp_mem
  refine rise_one _ _ ((okVs_pair (prL_ok ok t)).sublist (grp_sub _ _)) (((okVs_pair ok).sublist (grp_sub ds k)).sublist (List.drop_sublist _ _)) fun x => ?_
  rw [grp_mem, prL_mem ok, List.mem_drop_iff_getElem]
  generalize grp ds k = L at *
  have hc := cnt_le L t
  constructor
  · rintro ⟨⟨hx, h⟩, hk⟩
    obtain ⟨p, hp, rfl⟩ := List.getElem_of_mem ((hL x).2 ⟨hx, hk⟩)
    have hfp : frP L t ≤ p := by
      rcases h with h | ⟨hg, h⟩
      · have h1 : ¬ p < cnt L t := fun e => by have := (cnt_at hr t hp).2 e; omega
        unfold frP
        split <;> omega
      · by_cases h1 : p < cnt L t
        · have h2 : p = cnt L t - 1 := by
            by_cases e : p + 1 < cnt L t
            · exfalso
              have h3 := (hL _).1 (List.getElem_mem (show p + 1 < L.length by omega))
              have h4 := h _ h3.1 (h3.2.trans hk.symm) (List.pairwise_iff_getElem.1 hr p (p + 1) hp (by omega) (by omega))
              have h5 := (cnt_at hr t (show p + 1 < L.length by omega)).2 e
              omega
            · omega
          have h6 : (L.getD (cnt L t - 1) noV).g = false := by
            rw [← h2, getD_is hp]
            exact hg
          unfold frP
          rw [if_pos ⟨by omega, h6⟩]
          omega
        · unfold frP
          split <;> omega
    exact ⟨p - frP L t, by omega, by congr 1; omega⟩
  · rintro ⟨q, hq, rfl⟩
    have hp : frP L t + q < L.length := by omega
    obtain ⟨hx, hk⟩ := (hL _).1 (List.getElem_mem hp)
    refine ⟨⟨hx, ?_⟩, hk⟩
    by_cases h1 : frP L t + q < cnt L t
    · have hf : 0 < cnt L t ∧ (L.getD (cnt L t - 1) noV).g = false := by
        by_cases e : 0 < cnt L t ∧ (L.getD (cnt L t - 1) noV).g = false
        · exact e
        · unfold frP at h1
          rw [if_neg e] at h1
          omega
      have e2 : frP L t = cnt L t - 1 := by unfold frP; rw [if_pos hf]
      have hq0 : q = 0 := by omega
      subst hq0
      have e3 : frP L t + 0 = cnt L t - 1 := by omega
      refine .inr ⟨?_, fun y hy hyk hlt => ?_⟩
      · have h2 := hf.2
        rw [getD_is (show cnt L t - 1 < L.length by omega)] at h2
        simp only [e3]
        exact h2
      · obtain ⟨j, hj, rfl⟩ := List.getElem_of_mem ((hL y).2 ⟨hy, hyk.trans hk⟩)
        have h3 : cnt L t - 1 < j := by
          rcases Nat.lt_trichotomy (cnt L t - 1) j with e | e | e
          · exact e
          · exfalso
            simp only [e3, e] at hlt
            omega
          · have h4 := List.pairwise_iff_getElem.1 hr j (frP L t + 0) hj hp (by omega)
            omega
        have h5 : ¬ L[j].t ≤ t := fun e => by have := (cnt_at hr t hj).1 e; omega
        omega
    · have h5 : ¬ L[frP L t + q].t ≤ t := fun e => h1 ((cnt_at hr t hp).1 e)
      exact .inl (by omega)
end Go.Proofs.YtfajenejngddeaaGreat

namespace Go.Proofs.YtfajenejngddeaaGreat
open Go.RowKit

theorem verAt_of {ds : List VerD} {k : ByteArray} {t : Int} {x : VerD} (h : verAt ds k t = some x) : x.k = k ∧ x.t ≤ t ∧ x.g = false ∧ x ∈ ds := by
  unfold verAt at h
  cases hl : lastAt (grp ds k) t with
  | none => rw [hl] at h; cases h
  | some d =>
    rw [hl] at h
    simp only at h
    by_cases hg : d.g = true
    · rw [if_pos hg] at h; cases h
    · rw [if_neg hg] at h
      injection h with h
      subst h
      have hm := List.mem_of_getLast? hl
      rw [List.mem_filter, decide_eq_true_eq] at hm
      have h2 := grp_mem.1 hm.1
      exact ⟨h2.2, hm.2, by simpa using hg, h2.1⟩
theorem ents_at {ds : List VerD} {t : Int} {e : KvD} (he : e ∈ entsAt ds t) : ∃ x, verAt ds e.k t = some x ∧ x.v = e.v ∧ x.t ≤ t ∧ x.g = false := by
  unfold entsAt at he
  rw [ents_dk ds t _ (Nat.le_refl _), List.mem_flatMap] at he
  obtain ⟨k, _, hk⟩ := he
  cases hv : verAt ds k t with
  | none => rw [hv] at hk; simp [kvOf] at hk
  | some x =>
    rw [hv] at hk
    obtain rfl : e = ⟨x.k, x.v⟩ := by simpa [kvOf] using hk
    obtain ⟨h1, h2, h3, _⟩ := verAt_of hv
    exact ⟨x, by rw [h1]; exact hv, rfl, h2, h3⟩
theorem ents_len (ds : List VerD) (t : Int) : (entsAt ds t).length ≤ ds.length := by
  unfold entsAt
  rw [ents_dk ds t _ (Nat.le_refl _)]
  have h1 := dkTo_len ds ds.length
  have h2 : ∀ ks : List ByteArray, (ks.flatMap fun k => kvOf (verAt ds k t)).length ≤ ks.length := fun ks => by
    induction ks with
    | nil => simp
    | cons k r ih =>
      have h3 : (kvOf (verAt ds k t)).length ≤ 1 := by cases verAt ds k t <;> simp [kvOf]
      simp only [List.flatMap_cons, List.length_append, List.length_cons]
      omega
  have := h2 (dkTo ds ds.length)
  omega
/-- The last version of a key that is not later than a time is no other if what is ahead of an earlier one is left out. -/
theorem verAt_pr {ds : List VerD} (ok : okVs ds = true) {t u : Int} (htu : t ≤ u) (k : ByteArray) : verAt (prL ds t) k u = verAt ds k u := by
  have hr := grp_rise ok k
  have hr2 := grp_rise (prL_ok ok t) k
  unfold verAt
  rw [last_cnt hr2, last_cnt hr]
  rw [grp_pr ok] at hr2 ⊢
  generalize grp ds k = L at *
  have hf := frP_le L t
  have hcu := cnt_le L u
  have hct := cnt_le L t
  have hmono : cnt L t ≤ cnt L u := by
    by_cases h0 : cnt L t = 0
    · omega
    · have h1 := (cnt_at hr t (show cnt L t - 1 < L.length by omega)).2 (by omega)
      have h2 := (cnt_at hr u (show cnt L t - 1 < L.length by omega)).1 (by omega)
      omega
  have hfc : frP L t ≤ cnt L t := by unfold frP; split <;> omega
  have hc : cnt (L.drop (frP L t)) u = cnt L u - frP L t := by
    apply Nat.le_antisymm
    · by_cases h0 : cnt (L.drop (frP L t)) u = 0
      · omega
      · have hl := cnt_le (L.drop (frP L t)) u
        have hlt : cnt (L.drop (frP L t)) u - 1 < (L.drop (frP L t)).length := by omega
        have h1 := (cnt_at hr2 u hlt).2 (by omega)
        rw [List.getElem_drop] at h1
        rw [List.length_drop] at hlt
        have h2 := (cnt_at hr u (show frP L t + (cnt (L.drop (frP L t)) u - 1) < L.length by omega)).1 h1
        omega
    · by_cases h0 : cnt L u - frP L t = 0
      · omega
      · have hlt : cnt L u - frP L t - 1 < (L.drop (frP L t)).length := by rw [List.length_drop]; omega
        have h1 := (cnt_at hr u (show frP L t + (cnt L u - frP L t - 1) < L.length by omega)).2 (by omega)
        have h2 := (cnt_at hr2 u hlt).1 (by rw [List.getElem_drop]; exact h1)
        omega
  rw [hc]
  by_cases h0 : cnt L u - frP L t = 0
  · rw [if_pos h0]
    by_cases h1 : cnt L u = 0
    · rw [if_pos h1]
    · rw [if_neg h1]
      have h2 : frP L t = cnt L t ∧ cnt L u = cnt L t := by omega
      have hlt : cnt L u - 1 < L.length := by omega
      rw [List.getElem?_eq_getElem hlt]
      have hg : L[cnt L u - 1].g = true := by
        have h3 := h2.1
        unfold frP at h3
        by_cases hc : 0 < cnt L t ∧ (L.getD (cnt L t - 1) noV).g = false
        · rw [if_pos hc] at h3; omega
        · have h4 : ¬ (L.getD (cnt L t - 1) noV).g = false := fun e => hc ⟨by omega, e⟩
          rw [← h2.2, getD_is hlt] at h4
          simpa using h4
      simp only [hg, if_true]
  · rw [if_neg h0, if_neg (by omega), List.getElem?_drop]
    have e : frP L t + (cnt L u - frP L t - 1) = cnt L u - 1 := by omega
    rw [e]
/-- Two lists of keys that rise and have the same keys are one. -/
theorem keys_one : ∀ (l m : List ByteArray), (l.Pairwise fun a b => ltK a b = true) → (m.Pairwise fun a b => ltK a b = true) → (∀ x, x ∈ l ↔ x ∈ m) → l = m
  | [], m, _, _, h => by
    cases m with
    | nil => rfl
    | cons y s => exact absurd ((h y).2 (List.mem_cons_self ..)) List.not_mem_nil
  | x :: r, [], _, _, h => absurd ((h x).1 (List.mem_cons_self ..)) List.not_mem_nil
  | x :: r, y :: s, hl, hm, h => by
    obtain ⟨hx, hr⟩ := List.pairwise_cons.1 hl
    obtain ⟨hy, hs⟩ := List.pairwise_cons.1 hm
    have no : ∀ z, ltK z z = true → False := fun z hz => by rw [ltK_irr] at hz; exact absurd hz (by decide)
    have e : x = y := by
      rcases List.mem_cons.1 ((h x).1 (List.mem_cons_self ..)) with e | e
      · exact e
      · rcases List.mem_cons.1 ((h y).2 (List.mem_cons_self ..)) with e2 | e2
        · exact e2.symm
        · exact (no _ (ltK_trans (hx y e2) (hy x e))).elim
    subst e
    have hrs := keys_one r s hr hs fun z => by
      constructor
      · intro hz
        rcases List.mem_cons.1 ((h z).1 (List.mem_cons_of_mem _ hz)) with e | e
        · subst e; exact (no _ (hx z hz)).elim
        · exact e
      · intro hz
        rcases List.mem_cons.1 ((h z).2 (List.mem_cons_of_mem _ hz)) with e | e
        · subst e; exact (no _ (hy z hz)).elim
        · exact e
    rw [hrs]
theorem flat_filter {α β : Type} (F : α → List β) (p : α → Bool) : ∀ ks : List α, (∀ k ∈ ks, p k = false → F k = []) → (ks.filter p).flatMap F = ks.flatMap F
  | [], _ => rfl
  | k :: r, h => by
    have ih := flat_filter F p r fun x hx => h x (List.mem_cons_of_mem _ hx)
    cases hp : p k with
    | true => rw [List.filter_cons_of_pos hp, List.flatMap_cons, List.flatMap_cons, ih]
    | false => rw [List.filter_cons_of_neg (by rw [hp]; decide), List.flatMap_cons, h k (List.mem_cons_self ..) hp, List.nil_append, ih]
theorem ents_pr {ds : List VerD} (ok : okVs ds = true) {t u : Int} (htu : t ≤ u) : entsAt (prL ds t) u = entsAt ds u := by
  unfold entsAt
  rw [ents_dk _ u _ (Nat.le_refl _), ents_dk _ u _ (Nat.le_refl _)]
  have e1 : (fun k => kvOf (verAt (prL ds t) k u)) = fun k => kvOf (verAt ds k u) := by funext k; rw [verAt_pr ok htu]
  rw [e1]
  have ok2 := prL_ok ok t
  have hk : dkTo (prL ds t) (prL ds t).length = (dkTo ds ds.length).filter fun k => !(grp (prL ds t) k).isEmpty := by
    refine keys_one _ _ (dk_rise ok2 _ (Nat.le_refl _)) ((dk_rise ok _ (Nat.le_refl _)).filter _) fun x => ?_
    have m1 : x ∈ dkTo (prL ds t) (prL ds t).length ↔ ∃ y ∈ prL ds t, y.k = x := dkeys_mem
    have m2 : x ∈ dkTo ds ds.length ↔ ∃ y ∈ ds, y.k = x := dkeys_mem
    rw [List.mem_filter, m1, m2]
    constructor
    · rintro ⟨y, hy, e⟩
      refine ⟨⟨y, (prL_sub ds t).subset hy, e⟩, ?_⟩
      have h3 := grp_mem.2 ⟨hy, e⟩
      cases hg : grp (prL ds t) x with
      | nil => rw [hg] at h3; exact absurd h3 List.not_mem_nil
      | cons a r => rfl
    · rintro ⟨_, h2⟩
      cases hg : grp (prL ds t) x with
      | nil => rw [hg] at h2; cases h2
      | cons a r =>
        have h3 : a ∈ grp (prL ds t) x := by rw [hg]; exact List.mem_cons_self ..
        obtain ⟨h4, h5⟩ := grp_mem.1 h3
        exact ⟨a, h4, h5⟩
  rw [hk]
  refine flat_filter _ _ _ fun k _ hp => ?_
  have hg : grp (prL ds t) k = [] := by
    cases hg : grp (prL ds t) k with
    | nil => rfl
    | cons a r => rw [hg] at hp; cases hp
  rw [← verAt_pr ok htu k]
  unfold verAt
  rw [hg]
  rfl
end Go.Proofs.YtfajenejngddeaaGreat

namespace Go.Proofs.YtfajenejngddeaaGreat
open Go.RowKit Go.Maps

theorem hm_inj {a b : ByteArray} (h : a.data.toList = b.data.toList) : a = b := by
  cases a
  cases b
  simp at h
  simp [h]
/-- A slice in a map reads as itself. -/
def hmElem (v : Value) : Option (DataW Value × List MemPlace) := some (.held v, [])
/-- Block m is a map of at most N entries that has the slices f. -/
def HMap (w : World) (m N : Nat) (f : ByteArray → Value) : Prop :=
  ∃ D : DataW Value, w.ownsMap Tryz.prog 9 hmElem m N D ∧ (∀ k : ByteArray, k.size ≤ maxLen → D.atKey (.string k.data.toList) (.held (.slice none 0 0)) = .held (f k)) ∧ ∀ k : ByteArray, k.size ≤ maxLen → (has D (.string k.data.toList) = true ↔ f k ≠ .slice none 0 0)
theorem HMap.lt {w : World} {m N : Nat} {f : ByteArray → Value} (h : HMap w m N f) : m < w.heap.size := by obtain ⟨D, h, _⟩ := h; exact h.lt
theorem HMap.block {w w' : World} {m N : Nat} {f : ByteArray → Value} (h : HMap w m N f) (hb : w'.heap[m]? = w.heap[m]?) : HMap w' m N f := by
  obtain ⟨D, ⟨es, clock, h1, h2⟩, h3⟩ := h
  exact ⟨D, ⟨es, clock, hb.trans h1, h2⟩, h3⟩
theorem hmap_made (w : World) : HMap (w.alloc (.map #[] 0)) w.heap.size 0 (fun _ => .slice none 0 0) :=
  ⟨.map [], World.ownsMap_made w _ _ _, fun _ _ => rfl, fun k _ => by simp [has_eq]⟩
theorem hm_zero (w : World) : (zeroValue 23).run Tryz.prog w = .ok (.slice none 0 0) w := by kernel_rfl
theorem HMap.lookup {w : World} {m N : Nat} {f : ByteArray → Value} (h : HMap w m N f) {k : ByteArray} (hk : k.size ≤ maxLen) : (Instr.lookup 71 (.map (some m)) (.string k) false).run Tryz.prog w = .ok (f k) w := by
  obtain ⟨D, h1, h2, _⟩ := h
  obtain ⟨v, ps, hrun, hv⟩ := h1.lookup (string_keyed Tryz.underlying9) Tryz.underlying71 (hm_zero w) (zd := .held (.slice none 0 0)) (zp := []) rfl (WideMaps.keyOf_string_mk (P := Tryz.prog) Tryz.underlying9 hk)
  rw [h2 k hk] at hv
  simp [hmElem] at hv
  rw [hrun, hv.1]
theorem HMap.update {w : World} {m N : Nat} {f : ByteArray → Value} (h : HMap w m N f) {k : ByteArray} (hk : k.size ≤ maxLen) (hN : N < maxLen) (v : Value) (hv : v ≠ .slice none 0 0) :
    ∃ w', (Instr.mapUpdate 71 (.map (some m)) (.string k) v).run Tryz.prog w = .ok () w' ∧ HMap w' m (N + 1) (fun x => if x = k then v else f x) ∧ w.grownBy w' (some m) := by
  obtain ⟨D, h1, h2, h3⟩ := h
  obtain ⟨w', hrun, ho, hg⟩ := h1.update (string_keyed Tryz.underlying9) Tryz.underlying71 hN (WideMaps.keyOf_string_mk (P := Tryz.prog) Tryz.underlying9 hk) (val := v) (d := .held v) (ps := []) rfl
  refine ⟨w', hrun, ⟨_, ho, fun j hj => ?_, fun j hj => ?_⟩, hg⟩
  · show _ = DataW.held (if j = k then v else f j)
    by_cases e : j = k
    · subst e
      rw [if_pos rfl, atKey_put_same h1.isMap (show WideAt.IsKeyLit (.string j.data.toList) from trivial)]
    · rw [if_neg e, atKey_put_other (by intro h; injection h with h; exact e (hm_inj h)), h2 j hj]
  · show _ ↔ (if j = k then v else f j) ≠ _
    by_cases e : j = k
    · subst e
      rw [if_pos rfl, has_put_same h1.isMap (show WideAt.IsKeyLit (.string j.data.toList) from trivial)]
      exact ⟨fun _ => hv, fun _ => rfl⟩
    · rw [if_neg e, has_put_other (by intro h; injection h with h; exact e (hm_inj h)), h3 j hj]
/-- A history: a map whose slices the call owns from block B on, no two in one row, none in the map's own block. -/
structure HisAt (w : World) (m N B : Nat) (f : ByteArray → Value) (ds : List VerD) : Prop where
  map : HMap w m N f
  own : ∀ k, VOwns w B (f k) (grp ds k)
  far : ∀ k j, k ≠ j → ∀ g, (f k).ownBlock = some g → (f j).ownBlock ≠ some g
  mb : m < B
  no : ∀ k, grp ds k = [] → f k = .slice none 0 0
theorem HisAt.below {w w' : World} {m N B : Nat} {f : ByteArray → Value} {ds : List VerD} (h : HisAt w m N B f ds) (hb : Below w.heap.size w w') : HisAt w' m N B f ds :=
  ⟨h.map.block (hb.block m h.map.lt), fun k => vowns_below (h.own k) hb, h.far, h.mb, h.no⟩
/-- One version appended to a row of the call's own; where the row then lies. -/
theorem hm_app {w : World} {B : Nat} {v : Value} {ds : List VerD} {d : VerD} (ho : VOwns w B v ds) (hz : ds.length ≤ 1000000) (hB : B ≤ w.heap.size) :
    ∃ v' w', (Builtin.append_ #[23, 23] 23 #[v, .slice (some ⟨w.heap.size, 0, none⟩) 1 1]).run Tryz.prog (w.alloc (.cells #[.string d.k, .int .i64 d.t, .string d.v, .bool d.g] 39)) = .ok v' w' ∧ VOwns w' B v' (ds ++ [d]) ∧ (w.alloc (.cells #[.string d.k, .int .i64 d.t, .string d.v, .bool d.g] 39)).grownBy w' v.ownBlock ∧ (v'.ownBlock = v.ownBlock ∨ v'.ownBlock = some (w.heap.size + 1)) := by
  obtain ⟨i0, hi0, hz0, hz1, hz2⟩ := info_parts Tryz.infoVersion
  have hcells : ∀ j u, (vcs [d])[j]? = some u → (w.alloc (.cells #[.string d.k, .int .i64 d.t, .string d.v, .bool d.g] 39)).cell? ((⟨w.heap.size, 0, none⟩ : Addr).add j) = some u := fun j u hu => by
    have hj : j < 4 := by simpa [vcs] using (List.getElem?_eq_some_iff.1 hu).1
    have e2 : (⟨w.heap.size, 0, none⟩ : Addr).add j = ⟨w.heap.size, j, none⟩ := by unfold Addr.add; split <;> simp_all
    rw [e2]
    refine rb_cell_new rfl ?_
    match j, hj with
    | 0, _ => simpa [vcs] using hu
    | 1, _ => simpa [vcs] using hu
    | 2, _ => simpa [vcs] using hu
    | 3, _ => simpa [vcs] using hu
  have hoa := World.ownsRow.alloc ho (.cells #[.string d.k, .int .i64 d.t, .string d.v, .bool d.g] 39)
  obtain ⟨v', w', hr, ho', hg, _⟩ := run_append_own (P := Tryz.prog) (w.alloc (.cells #[.string d.k, .int .i64 d.t, .string d.v, .bool d.g] 39)) B 23 23 39 i0 _ 4 48 Tryz.underlying23 hi0 hz0 hz1 hz2 rfl (by decide) v _ _ hoa ⟨w.heap.size, 0, none⟩ 1 1 (vcs [d]) (by simp [vcs]) hcells (vcs_one _) (by unfold maxLen; omega) (by omega) (by simp; omega)
  refine ⟨v', w', hr, by unfold VOwns; rw [List.length_append, vcs_append]; exact ho', hg, ?_⟩
  have hsz : (w.alloc (.cells #[.string d.k, .int .i64 d.t, .string d.v, .bool d.g] 39)).heap.size = w.heap.size + 1 := by simp
  rcases hoa.2 with ⟨rfl, h0⟩ | ⟨g', cap', cur, rfl, hbg, hgg, hnc, hcm, hcs, htake⟩
  · have h := run_append_nil (P := Tryz.prog) (w.alloc (.cells #[.string d.k, .int .i64 d.t, .string d.v, .bool d.g] 39)) 23 23 39 i0 _ Tryz.underlying23 hi0 hz0 ⟨w.heap.size, 0, none⟩ 1 1 (vcs [d]) (by rw [hz1]; simp [vcs]) hcells (by omega) (by omega) (by rw [hz2]; omega)
    rw [hr] at h
    injection h with h _
    subst h
    exact .inr (by simp [Value.ownBlock, hsz])
  · by_cases hroom : ds.length + 1 ≤ cap'
    · have h := run_append_room (P := Tryz.prog) (w.alloc (.cells #[.string d.k, .int .i64 d.t, .string d.v, .bool d.g] 39)) 23 23 39 i0 Tryz.underlying23 hi0 g' ds.length cap' cur hgg ⟨w.heap.size, 0, none⟩ 1 1 (vcs [d]) (by rw [hz1]; simp [vcs]) hcells (vcs_one _) hroom (by rw [hz1, hcs]; simp [vcs]; omega)
      rw [hr] at h
      injection h with h _
      subst h
      exact .inl rfl
    · have h := run_append_grow (P := Tryz.prog) (w.alloc (.cells #[.string d.k, .int .i64 d.t, .string d.v, .bool d.g] 39)) 23 23 39 i0 _ Tryz.underlying23 hi0 hz0 ⟨g', 0, none⟩ ds.length cap' (vcs ds) (by rw [hz1, vcs_len]) (fun j u hu => by
          have hj : j < ds.length * 4 := by rw [← vcs_len]; exact (List.getElem?_eq_some_iff.1 hu).1
          have e2 : (⟨g', 0, none⟩ : Addr).add j = ⟨g', j, none⟩ := by unfold Addr.add; split <;> simp_all
          rw [e2, hoa.cellAt j hj, hu]) ⟨w.heap.size, 0, none⟩ 1 1 (vcs [d]) (by rw [hz1]; simp [vcs]) hcells (by omega) (by omega) (by rw [hz2]; exact growslice_fits (by omega) (by omega))
      rw [hr] at h
      injection h with h _
      subst h
      exact .inr (by simp [Value.ownBlock, hsz])
end Go.Proofs.YtfajenejngddeaaGreat

namespace Go.Proofs.YtfajenejngddeaaGreat
open Go.RowKit Go.Maps

/-- A map's update, as one step of a region that draws. -/
theorem hm_stepUpd {P : Program} {ops : Array Oper} {o : Oper} {a : Act} {w : World} {K : Act → World → Prop} {Q : Exit → Act → World → Prop} {E : Prop}
    (hg : o.guard = none) (m x v : Operand) (t : TypeId) (hop : o.op = Op.mapUpdate t m x v) (vm vx vv : Value) (w' : World) (hm : a.eval m = vm) (hx : a.eval x = vx) (hv : a.eval v = vv)
    (hrun : (Instr.mapUpdate t vm vx vv).run P w = .ok () w') (hK : K (a.put o.dst undef) w') :
    if Region.wanted o (yielded ops a.tmps) = true then Oper.wp P o a w K Q else E := by
  have hw : Region.wanted o (yielded ops a.tmps) = true := by simp [Region.wanted, hg]
  rw [if_pos hw]
  unfold Oper.wp
  simp [execOp, hop, hm, hx, hv, hrun, Result.andThen]
  exact hK
/-- A look-up, and an append, as one step of a region that draws. -/
theorem hm_stepLook {P : Program} {ops : Array Oper} {o : Oper} {a : Act} {w : World} {K : Act → World → Prop} {Q : Exit → Act → World → Prop} {E : Prop}
    (hg : o.guard = none) (m x : Operand) (t : TypeId) (hop : o.op = Op.lookup t m x false) (vm vx v : Value) (hm : a.eval m = vm) (hx : a.eval x = vx)
    (hrun : (Instr.lookup t vm vx false).run P w = .ok v w) (hK : K (a.put o.dst v) w) :
    if Region.wanted o (yielded ops a.tmps) = true then Oper.wp P o a w K Q else E := by
  have hw : Region.wanted o (yielded ops a.tmps) = true := by simp [Region.wanted, hg]
  rw [if_pos hw]
  unfold Oper.wp
  simp [execOp, hop, hm, hx, hrun, Result.andThen]
  exact hK
theorem cb_stepApp2 {P : Program} {ops : Array Oper} {o : Oper} {a : Act} {w : World} {K : Act → World → Prop} {Q : Exit → Act → World → Prop} {E : Prop}
    (hg : o.guard = none) (s x : Operand) (t : TypeId) (hop : o.op = Op.call { callee := Callee.builtin Builtin.append, args := #[s, x], argTypes := #[t, t] })
    (vs vx v' : Value) (w' : World) (hs : a.eval s = vs) (hx : a.eval x = vx) (hrun : (Builtin.append_ #[t, t] o.type #[vs, vx]).run P w = .ok v' w') (hK : K (a.put o.dst v') w') :
    if Region.wanted o (yielded ops a.tmps) = true then Oper.wp P o a w K Q else E := by
  have hw : Region.wanted o (yielded ops a.tmps) = true := by simp [Region.wanted, hg]
  rw [if_pos hw]
  unfold Oper.wp
  simp [execOp, hop, resolve, invoke, builtin, hs, hx, hrun, Result.andThen]
  exact hK
/-- A version put behind those of its key. -/
theorem HisAt.step {w w1 : World} {m N B : Nat} {f : ByteArray → Value} {ds : List VerD} (h : HisAt w m N B f ds) (d : VerD) (hk : d.k.size ≤ maxLen) (hN : N < maxLen) {v' : Value} (o1 : VOwns w1 B v' (grp ds d.k ++ [d]))
    (gr1 : (w.alloc (.cells #[.string d.k, .int .i64 d.t, .string d.v, .bool d.g] 39)).grownBy w1 (f d.k).ownBlock) (loc : v'.ownBlock = (f d.k).ownBlock ∨ v'.ownBlock = some (w.heap.size + 1)) :
    ∃ w2, (Instr.mapUpdate 71 (.map (some m)) (.string d.k) v').run Tryz.prog w1 = .ok () w2 ∧ HisAt w2 m (N + 1) B (fun x => if x = d.k then v' else f x) (ds ++ [d]) ∧ Below m w w1 ∧ Below m w w2 ∧
      ∀ i, i < w.heap.size → i ≠ m → (f d.k).ownBlock ≠ some i → w1.heap[i]? = w.heap[i]? ∧ w2.heap[i]? = w.heap[i]? := by
  have hmw := h.map.lt
  have hmb := h.mb
  have hB : ∀ k g, (f k).ownBlock = some g → B ≤ g ∧ g < w.heap.size := fun k g e => (h.own k).lt g e
  have bA : Below w.heap.size w (w.alloc (.cells #[.string d.k, .int .i64 d.t, .string d.v, .bool d.g] 39)) := (Below.refl _ _).alloc (Nat.le_refl _) _
  have hA : ∀ i, i < w.heap.size → (f d.k).ownBlock ≠ some i → w1.heap[i]? = w.heap[i]? := fun i hi hne => (gr1.block i (Nat.lt_of_lt_of_le hi bA.size) (fun e => hne e.symm)).trans (bA.block i hi)
  have hM1 : HMap w1 m N f := h.map.block (hA m hmw (fun e => by have := (hB _ _ e).1; omega))
  obtain ⟨w2, hr2, hm2, gr2⟩ := hM1.update hk hN v' (fun e => by subst e; have h1 := o1.2; simp at h1)
  have hs1 : w.heap.size ≤ w1.heap.size := Nat.le_trans bA.size gr1.size
  have hA2 : ∀ i, i < w.heap.size → i ≠ m → (f d.k).ownBlock ≠ some i → w2.heap[i]? = w.heap[i]? := fun i hi hm' hne => (gr2.block i (Nat.lt_of_lt_of_le hi hs1) (fun e => hm' (by injection e))).trans (hA i hi hne)
  refine ⟨w2, hr2, ⟨hm2, fun k => ?_, fun k j hkj g hg hj => ?_, hmb, fun k hk0 => ?_⟩, ?_, ?_, fun i hi hm' hne => ⟨hA i hi hne, hA2 i hi hm' hne⟩⟩
  · show VOwns w2 B (if k = d.k then v' else f k) (grp (ds ++ [d]) k)
    by_cases e : k = d.k
    · subst e
      rw [if_pos rfl, grp_snoc_same]
      exact World.ownsRow.kept o1 gr2 (by
        cases hu : v'.ownBlock with
        | none => exact .inl rfl
        | some g => exact .inr fun e => by have h1 := (o1.lt g hu).1; injection e with e; omega)
    · rw [if_neg e, grp_snoc_other _ _ e]
      refine World.ownsRow.kept (World.ownsRow.kept (vowns_below (h.own k) bA) gr1 ?_) gr2 ?_
      · cases hu : (f k).ownBlock with
        | none => exact .inl rfl
        | some g => exact .inr fun e' => h.far k d.k e g hu e'.symm
      · cases hu : (f k).ownBlock with
        | none => exact .inl rfl
        | some g => exact .inr fun e' => by have h1 := (hB k g hu).1; injection e' with e'; omega
  · revert hg hj
    show (if k = d.k then v' else f k).ownBlock = some g → (if j = d.k then v' else f j).ownBlock = some g → False
    intro hg hj
    by_cases e : k = d.k
    · have e2 : ¬ j = d.k := fun e2 => hkj (e.trans e2.symm)
      rw [if_pos e] at hg
      rw [if_neg e2] at hj
      rcases loc with l1 | l1
      · exact h.far j d.k e2 g hj (l1.symm.trans hg)
      · have h1 := (hB j g hj).2
        rw [l1] at hg
        injection hg with hg
        omega
    · rw [if_neg e] at hg
      by_cases e2 : j = d.k
      · rw [if_pos e2] at hj
        rcases loc with l1 | l1
        · exact h.far k d.k e g hg (l1.symm.trans hj)
        · have h1 := (hB k g hg).2
          rw [l1] at hj
          injection hj with hj
          omega
      · rw [if_neg e2] at hj
        exact h.far k j hkj g hg hj
  · show (if k = d.k then v' else f k) = _
    by_cases e : k = d.k
    · subst e
      rw [grp_snoc_same] at hk0
      simp at hk0
    · rw [if_neg e]
      rw [grp_snoc_other _ _ e] at hk0
      exact h.no k hk0
  · exact ⟨gr1.os.trans bA.os, gr1.tape.trans bA.tape, gr1.output.trans bA.output, hs1, fun i hi => hA i (by omega) (fun e => by have := (hB _ _ e).1; omega)⟩
  · exact ⟨gr2.os.trans (gr1.os.trans bA.os), gr2.tape.trans (gr1.tape.trans bA.tape), gr2.output.trans (gr1.output.trans bA.output), Nat.le_trans hs1 gr2.size, fun i hi => hA2 i (by omega) (by omega) (fun e => by have := (hB _ _ e).1; omega)⟩
set_option maxRecDepth 100000 in
set_option maxHeartbeats 4000000 in
theorem historyOf_any (a : Option Addr) (n c : Nat) (ds : List VerD) (w : World) (hn : n ≤ 4096) (hr : VRow w a n ds) (hs : ∀ i (hi : i < ds.length), ds[i].k.size ≤ maxLen) :
    Calls Tryz.prog 26 #[.slice a n c] w fun e w' => ∃ f, e = .returned (.map (some w.heap.size)) ∧ HisAt w' w.heap.size n (w.heap.size + 1) f ds ∧ Below w.heap.size w w' := by
  have hmm := @run_makeMap Tryz.prog
  have L := hide hr.1
  have R := hide hr
  have HS := hide hs
  have H0 := hide (show HisAt (w.alloc (.map #[] 0)) w.heap.size 0 (w.heap.size + 1) (fun _ => .slice none 0 0) [] from
    ⟨hmap_made w, fun k => World.ownsRow_nil _ _ _ _, fun k j h g e => by simp [Value.ownBlock] at e, by omega, fun _ _ => rfl⟩)
  have B0 := hide (show Below w.heap.size w (w.alloc (.map #[] 0)) from (Below.refl _ _).alloc (Nat.le_refl _) _)
  clear hr hs
  go_enter Tryz.func26, Tryz.ntmps26
  go_wp2_with fail
  go_loopw [9] (fun i wr => ∃ (j : Nat) (f : ByteArray → Value), i = .int .i64 (j : Int) ∧ j ≤ n ∧ Hid (HisAt wr w.heap.size j (w.heap.size + 1) f (ds.take j)) ∧ Hid (Below w.heap.size w wr)) (fun i _ => n - (intOf i).toNat)
  case atStart => exact ⟨0, _, rfl, Nat.zero_le _, unhide H0, unhide B0⟩
  case round =>
    clear H0 B0
    obtain ⟨j, f, rfl, hj, hH, hB⟩ := hrel
    by_cases hlt : j < n
    · have hj2 : j < ds.length := by rw [unhide L]; exact hlt
      obtain ⟨b, off, rfl, d0, d1, d2, d3⟩ := ((unhide R).below (unhide hB)).2 j hj2
      have hks := unhide HS j hj2
      have TS := hide (rb_take_snoc ds j hj2)
      have hln : (ds.take j).length ≤ 4096 := by rw [List.length_take]; omega
      have hsr := (unhide hB).size
      have hmw : w.heap.size < wr.heap.size := (unhide hH).map.lt
      generalize ds[j] = pd at *
      obtain ⟨pk, pt, pv, pg⟩ := pd
      simp only at d0 d1 d2 d3 hks
      have B1 : Below wr.heap.size wr (wr.alloc (.cells #[.string pk, .int .i64 pt, .string pv, .bool pg] 39)) := (Below.refl _ _).alloc (Nat.le_refl _) _
      have BX := hide ((unhide hB).trans (B1.mono hsr))
      have HX := hide ((unhide hH).below B1)
      have KX := hide (heap_alloc_new wr (.cells #[.string pk, .int .i64 pt, .string pv, .bool pg] 39))
      have hsx : wr.heap.size + 1 = (wr.alloc (.cells #[.string pk, .int .i64 pt, .string pv, .bool pg] 39)).heap.size := by simp
      have FB : ∀ g, (f pk).ownBlock = some g → g < wr.heap.size := fun g e => (((unhide hH).own pk).lt g e).2
      clear hB hH B1
      go_upto_region 5 with fail
      clear d0 d1 d2 d3
      generalize wr.alloc (.cells #[.string pk, .int .i64 pt, .string pv, .bool pg] 39) = W at *
      generalize wr.heap.size = bx at *
      have SK := hide (show ∀ u, Below w.heap.size w u → u.heap[bx]? = some (.cells #[.string pk, .int .i64 pt, .string pv, .bool pg] 39 (0, 0)) → (fun u => Below w.heap.size w u ∧ u.cell? ⟨bx, 0, none⟩ = some (.string pk) ∧ u.cell? ⟨bx, 1, none⟩ = some (.int .i64 pt) ∧ u.cell? ⟨bx, 2, none⟩ = some (.string pv) ∧ u.cell? ⟨bx, 3, none⟩ = some (.bool pg)) u from fun u hb hk => ⟨hb, (heap_at hk 0).1, (heap_at hk 1).1, (heap_at hk 2).1, (heap_at hk 3).1⟩)
      have HD : HisAt W.drew w.heap.size j (w.heap.size + 1) f (ds.take j) := (unhide HX).below (Below.refl _ _).drew
      have bA : Below W.drew.heap.size W.drew (W.drew.alloc (.cells #[.string pk, .int .i64 pt, .string pv, .bool pg] 39)) := (Below.refl _ _).alloc (Nat.le_refl _) _
      have hWs : w.heap.size ≤ W.drew.heap.size := (unhide BX).size
      have BA := hide ((unhide BX).drew.trans (bA.mono hWs))
      have KA := hide ((bA.block bx (show bx < W.heap.size by omega)).trans (unhide KX))
      have LK := hide (show ∀ u, (u = W.drew ∨ u = W.drew.alloc (.cells #[.string pk, .int .i64 pt, .string pv, .bool pg] 39)) → (Instr.lookup 71 (.map (some w.heap.size)) (.string pk) false).run Tryz.prog u = .ok (f pk) u from fun u hu => by
        rcases hu with rfl | rfl
        · exact HD.map.lookup hks
        · exact (HD.below bA).map.lookup hks)
      have hgl := grp_len (ds.take j) pk
      obtain ⟨v1, w1, hr1, o1, gr1, loc1⟩ := hm_app (d := ⟨pk, pt, pv, pg⟩) (HD.own pk) (by omega) (show w.heap.size + 1 ≤ W.heap.size by omega)
      simp only at hr1 gr1
      obtain ⟨w2, hr2, HN', bb1, bb2, KN⟩ := HD.step ⟨pk, pt, pv, pg⟩ hks (by unfold maxLen; omega) o1 gr1 loc1
      have B1 := hide ((unhide BX).drew.trans bb1)
      have B2 := hide ((unhide BX).drew.trans bb2)
      have kn := KN bx (show bx < W.heap.size by omega) (by omega) (fun e => by have := FB bx e; omega)
      have K1 := hide (kn.1.trans (unhide KX))
      have K2 := hide (kn.2.trans (unhide KX))
      have HN := hide (show HisAt w2 w.heap.size (j + 1) (w.heap.size + 1) (fun x => if x = pk then v1 else f x) (ds.take (j + 1)) by rw [unhide TS]; exact HN')
      simp only at hr2
      clear HN' bb1 bb2 KN kn o1 gr1 loc1 HD bA hgl
      refine wp_region_held_drew (S := (fun u => Below w.heap.size w u ∧ u.cell? ⟨bx, 0, none⟩ = some (.string pk) ∧ u.cell? ⟨bx, 1, none⟩ = some (.int .i64 pt) ∧ u.cell? ⟨bx, 2, none⟩ = some (.string pv) ∧ u.cell? ⟨bx, 3, none⟩ = some (.bool pg))) (by kernel_rfl) (unhide SK _ (unhide BX).drew (unhide KX)) (fun hHeld => ?_)
      refine anyH_take 0 13 (v := ?v1) rfl rfl (by kernel_rfl) (by kernel_rfl) (by kernel_rfl) (fun _ _ _ h => h) (by rfl) ?h1 hHeld ?r1
      case h1 => (intro w hSw; (try dsimp only at hSw); go_simp; try (with_reducible rfl))
      simp only [Act.put, List.setIfInBounds_toArray, List.set_cons_zero, List.set_cons_succ]
      refine anyH_take 1 14 (v := ?v2) rfl rfl (by kernel_rfl) (by kernel_rfl) (by kernel_rfl) (fun _ _ _ h => h) (by rfl) ?h2 hHeld ?r2
      case h2 => (intro w hSw; (try dsimp only at hSw); go_simp; try (with_reducible rfl))
      simp only [Act.put, List.setIfInBounds_toArray, List.set_cons_zero, List.set_cons_succ]
      refine anyH_take 2 15 (v := ?v3) rfl rfl (by kernel_rfl) (by kernel_rfl) (by kernel_rfl) (fun _ _ _ h => h) (by rfl) ?h3 hHeld ?r3
      case h3 => (intro w hSw; (try dsimp only at hSw); go_simp; try (with_reducible rfl))
      simp only [Act.put, List.setIfInBounds_toArray, List.set_cons_zero, List.set_cons_succ]
      refine anyH_take 3 16 (v := ?v4) rfl rfl (by kernel_rfl) (by kernel_rfl) (by kernel_rfl) (fun _ _ _ h => h) (by rfl) ?h4 hHeld ?r4
      case h4 => (intro w hSw; (try dsimp only at hSw); go_simp; try (with_reducible rfl))
      simp only [Act.put, List.setIfInBounds_toArray, List.set_cons_zero, List.set_cons_succ]
      refine anyH_take 4 17 (v := ?v5) rfl rfl (by kernel_rfl) (by kernel_rfl) (by kernel_rfl) (fun _ _ _ h => h) (by rfl) ?h5 hHeld ?r5
      case h5 => (intro w hSw; (try dsimp only at hSw); go_simp; try (with_reducible rfl))
      simp only [Act.put, List.setIfInBounds_toArray, List.set_cons_zero, List.set_cons_succ]
      refine anyH_take 5 18 (v := ?v6) rfl rfl (by kernel_rfl) (by kernel_rfl) (by kernel_rfl) (fun _ _ _ h => h) (by rfl) ?h6 hHeld ?r6
      case h6 => (intro w hSw; (try dsimp only at hSw); go_simp; try (with_reducible rfl))
      simp only [Act.put, List.setIfInBounds_toArray, List.set_cons_zero, List.set_cons_succ]
      refine anyH_take 7 20 (v := ?v7) rfl rfl (by kernel_rfl) (by kernel_rfl) (by kernel_rfl) (fun _ _ _ h => h) (by rfl) ?h7 hHeld ?r7
      case h7 => (intro w hSw; (try dsimp only at hSw); go_simp; try (with_reducible rfl))
      simp only [Act.put, List.setIfInBounds_toArray, List.set_cons_zero, List.set_cons_succ]
      refine wpAnyH_ready (rs := [6, 8]) (by kernel_rfl) (by simp) ?_
      refine AllReadyH.cons rfl (fun K hK => ?_) (AllReadyH.cons rfl (fun K hK => ?_) AllReadyH.nil)
      · refine hm_stepLook rfl (.tmp 16) (.tmp 18) 71 rfl _ _ (f pk) (by first | rfl | (simp [Act.eval]; done) | (simp [Act.eval, Act.put]; done)) (by first | rfl | (simp [Act.eval]; done) | (simp [Act.eval, Act.put]; done)) (unhide LK _ (Or.inl rfl)) ?_
        refine hK.out _ _ (unhide SK _ (unhide BX).drew (unhide KX)) (fun hHeld => ?_)
        clear hK K
        simp only [Act.put, List.setIfInBounds_toArray]
        refine wpAnyH_ready (rs := [8]) (by kernel_rfl) (by simp) ?_
        refine AllReadyH.cons rfl (fun K hK => ?_) AllReadyH.nil
        go_simp
        refine hK.out _ _ (unhide SK _ (unhide BA) (unhide KA)) (fun hHeld => ?_)
        clear hK K
        refine wpAnyH_ready (rs := [9]) (by kernel_rfl) (by simp) ?_
        refine AllReadyH.cons rfl (fun K hK => ?_) AllReadyH.nil
        refine cb_stepApp2 rfl (.tmp 19) (.tmp 21) 23 rfl _ _ v1 w1 (by first | rfl | (simp [Act.eval]; done) | (simp [Act.eval, Act.put]; done)) (by first | rfl | (simp [Act.eval]; done) | (simp [Act.eval, Act.put]; done)) hr1 ?_
        refine hK.out _ _ (unhide SK _ (unhide B1) (unhide K1)) (fun hHeld => ?_)
        clear hK K
        simp only [Act.put, List.setIfInBounds_toArray]
        refine wpAnyH_ready (rs := [10]) (by kernel_rfl) (by simp) ?_
        refine AllReadyH.cons rfl (fun K hK => ?_) AllReadyH.nil
        refine hm_stepUpd rfl (.tmp 13) (.tmp 15) (.tmp 22) 71 rfl _ _ _ w2 (by first | rfl | (simp [Act.eval]; done) | (simp [Act.eval, Act.put]; done)) (by first | rfl | (simp [Act.eval]; done) | (simp [Act.eval, Act.put]; done)) (by first | rfl | (simp [Act.eval]; done) | (simp [Act.eval, Act.put]; done)) hr2 ?_
        refine hK.out _ _ (unhide SK _ (unhide B2) (unhide K2)) (fun hHeld => ?_)
        clear hK K
        refine wpAnyH_done (by kernel_rfl) ?_ _
        go_wp2_with fail
        go_roundw
        case rel => exact ⟨j + 1, _, by go_num, by omega, unhide HN, unhide B2⟩
        case measure => simp [intOf]; omega
      · go_simp
        refine hK.out _ _ (unhide SK _ (unhide BA) (unhide KA)) (fun hHeld => ?_)
        clear hK K
        refine wpAnyH_ready (rs := [6]) (by kernel_rfl) (by simp) ?_
        refine AllReadyH.cons rfl (fun K hK => ?_) AllReadyH.nil
        refine hm_stepLook rfl (.tmp 16) (.tmp 18) 71 rfl _ _ (f pk) (by first | rfl | (simp [Act.eval]; done) | (simp [Act.eval, Act.put]; done)) (by first | rfl | (simp [Act.eval]; done) | (simp [Act.eval, Act.put]; done)) (unhide LK _ (Or.inr rfl)) ?_
        refine hK.out _ _ (unhide SK _ (unhide BA) (unhide KA)) (fun hHeld => ?_)
        clear hK K
        simp only [Act.put]
        refine wpAnyH_ready (rs := [9]) (by kernel_rfl) (by simp) ?_
        refine AllReadyH.cons rfl (fun K hK => ?_) AllReadyH.nil
        refine cb_stepApp2 rfl (.tmp 19) (.tmp 21) 23 rfl _ _ v1 w1 (by first | rfl | (simp [Act.eval]; done) | (simp [Act.eval, Act.put]; done)) (by first | rfl | (simp [Act.eval]; done) | (simp [Act.eval, Act.put]; done)) hr1 ?_
        refine hK.out _ _ (unhide SK _ (unhide B1) (unhide K1)) (fun hHeld => ?_)
        clear hK K
        simp only [Act.put, List.setIfInBounds_toArray]
        refine wpAnyH_ready (rs := [10]) (by kernel_rfl) (by simp) ?_
        refine AllReadyH.cons rfl (fun K hK => ?_) AllReadyH.nil
        refine hm_stepUpd rfl (.tmp 13) (.tmp 15) (.tmp 22) 71 rfl _ _ _ w2 (by first | rfl | (simp [Act.eval]; done) | (simp [Act.eval, Act.put]; done)) (by first | rfl | (simp [Act.eval]; done) | (simp [Act.eval, Act.put]; done)) (by first | rfl | (simp [Act.eval]; done) | (simp [Act.eval, Act.put]; done)) hr2 ?_
        refine hK.out _ _ (unhide SK _ (unhide B2) (unhide K2)) (fun hHeld => ?_)
        clear hK K
        refine wpAnyH_done (by kernel_rfl) ?_ _
        go_wp2_with fail
        go_roundw
        case rel => exact ⟨j + 1, _, by go_num, by omega, unhide HN, unhide B2⟩
        case measure => simp [intOf]; omega
    · obtain rfl : j = n := by omega
      have Z := hide (show HisAt wr w.heap.size j (w.heap.size + 1) f ds by
        have := unhide hH
        rwa [List.take_of_length_le (by rw [unhide L]; exact Nat.le_refl _)] at this)
      go_wp2_with fail
      go_ret
      exact ⟨f, rfl, unhide Z, unhide hB⟩
end Go.Proofs.YtfajenejngddeaaGreat

namespace Go.Proofs.YtfajenejngddeaaGreat
open Go.RowKit Go.Maps

set_option maxRecDepth 100000 in
set_option maxHeartbeats 1000000 in
theorem countUpTo_any (a : Option Addr) (n c : Nat) (L : List VerD) (t : Int) (w : World) (hn : n ≤ 1048576) (hr : VRow w a n L) :
    Calls Tryz.prog 71 #[.slice a n c, .int .i64 t] w fun e w' => e = .returned (.int .i64 (cnt L t : Nat)) ∧ w' = w := by
  have LN := hide hr.1
  have R := hide hr
  clear hr
  go_enter Tryz.func71, Tryz.ntmps71
  go_wp2_with fail
  go_loopw [5] (fun i wr => ∃ k : Nat, k ≤ n ∧ i = .int .i64 k ∧ Hid (∀ i (h : i < L.length), i < k → L[i].t ≤ t) ∧ Hid (wr = w)) (fun i _ => n - (intOf i).toNat)
  case atStart => exact ⟨0, Nat.zero_le _, rfl, (fun i _ hi => absurd hi (Nat.not_lt_zero _)), hide rfl⟩
  case round =>
    obtain ⟨k, hk, rfl, hA, hww⟩ := hrel
    have hww := unhide hww
    subst wr
    by_cases hlt : k < n
    · have hk2 : k < L.length := by rw [unhide LN]; exact hlt
      obtain ⟨b, off, rfl, d0, d1, d2, d3⟩ := (unhide R).2 k hk2
      have FY := hide (fun (h : L[k].t ≤ t) i (hi : i < L.length) (hik : i < k + 1) => show L[i].t ≤ t from if e : i < k then unhide hA i hi e else by
        obtain rfl : i = k := by omega
        exact h)
      have FZ := hide (fun (h : ¬ L[k].t ≤ t) => cnt_step hk2 (unhide hA) h)
      generalize L[k] = pd at *
      obtain ⟨pk, pt, pv, pg⟩ := pd
      simp only at d1 FY FZ
      clear d0 d2 d3 hA
      by_cases ht : pt ≤ t
      · have Z := hide (unhide FY ht)
        clear FY FZ
        go_wp2_with fail
        go_roundw
        case rel => exact ⟨k + 1, by omega, by go_num, unhide Z, by first | exact hide rfl | exact hide trivial⟩
        case measure => simp [intOf]; omega
      · have Z := hide (unhide FZ ht)
        clear FY FZ
        go_wp2_with fail
        go_ret
        exact ⟨ret_int (by rw [unhide Z]), rfl⟩
    · obtain rfl : k = n := by omega
      have Z := hide (show cnt L t = k by rw [cnt_all fun i h => unhide hA i h (by have := unhide LN; omega)]; exact unhide LN)
      go_wp2_with fail
      go_ret
      exact ⟨ret_int (by rw [unhide Z]), rfl⟩
set_option maxHeartbeats 1000000 in
theorem viewAt_any (m : Nat) (t : Int) (w : World) :
    Calls Tryz.prog 29 #[.map (some m), .int .i64 t] w fun e w' => e = .returned (.func (.func 70) #[] #[.pointer (some ⟨w.heap.size, 0, none⟩), .pointer (some ⟨w.heap.size + 1, 0, none⟩)]) ∧ w' = (w.alloc (.cells #[.map (some m)] 71)).alloc (.cells #[.int .i64 t] 3) := by
  have hmf : ∀ (fn : Fn) (first cap : Array Value) (w : World), (Instr.makeFunc fn first cap).run Tryz.prog w = .ok (.func fn first cap) w := fun _ _ _ _ => rfl
  go_enter Tryz.func29, Tryz.ntmps29
  go_wp2_with fail
  go_ret
  exact ⟨by simp, rfl⟩
theorem vowns_slice2 {w : World} {B : Nat} {v : Value} {ds : List VerD} (h : VOwns w B v ds) : ∃ a c, v = .slice a ds.length c := by
  rcases h.2 with ⟨rfl, hn⟩ | ⟨g, cap, cur, rfl, _⟩
  · exact ⟨none, 0, by rw [hn]⟩
  · exact ⟨_, _, rfl⟩
theorem wpList_lookup_his (w : World) {ops : Array Oper} {rest : List Oper} {o : Oper} {a : Act} {Q : Exit → Act → World → Prop}
    (hg : o.guard = none) (m x : Operand) (hop : o.op = Op.lookup 71 m x false) (b : Nat) (k : ByteArray) (v : Value) (hm : a.eval m = .map (some b)) (hx : a.eval x = .string k)
    (hrun : (Instr.lookup 71 (.map (some b)) (.string k) false).run Tryz.prog w = .ok v w) (hK : wpList Tryz.prog ops Q rest (a.put o.dst v) w) : wpList Tryz.prog ops Q (o :: rest) a w := by
  refine wpList_plain hg fun K' hK' => ?_
  unfold Oper.wp
  simp [execOp, hop, hm, hx, hrun, Result.andThen]
  exact hK' _ _ hK
set_option maxRecDepth 100000 in
set_option maxHeartbeats 4000000 in
theorem view_any (hb tb m N B : Nat) (f : ByteArray → Value) (ds : List VerD) (k : ByteArray) (t : Int) (w : World) (hH : HisAt w m N B f ds) (hok : okVs ds = true) (hl : ds.length ≤ 4096) (hk : k.size ≤ maxLen) (h1 : w.cell? ⟨hb, 0, none⟩ = some (.map (some m))) (h2 : w.cell? ⟨tb, 0, none⟩ = some (.int .i64 t)) :
    Calls Tryz.prog 70 #[.string k, .pointer (some ⟨hb, 0, none⟩), .pointer (some ⟨tb, 0, none⟩)] w fun e w' => VwRes ds k t w e w' := by
  have b0 : Below w.heap.size w (w.alloc (.cells #[.string ⟨#[]⟩, .int .i64 0, .string ⟨#[]⟩, .bool false] 39)) := (Below.refl _ _).alloc (Nat.le_refl _) _
  have LK := (hH.below b0).map.lookup hk
  have VR := hide (show ∀ u, Below w.heap.size w u → VOwns u B (f k) (grp ds k) from fun u hu => (hH.below hu).own k)
  have c1 := (b0.cell (p := ⟨hb, 0, none⟩) (cell_lt h1)).trans h1
  have c2 := (b0.cell (p := ⟨tb, 0, none⟩) (cell_lt h2)).trans h2
  have KR := hide (heap_alloc_new w (.cells #[.string ⟨#[]⟩, .int .i64 0, .string ⟨#[]⟩, .bool false] 39))
  have LC := hide (last_cnt (grp_rise hok k) t)
  have hgl := grp_len ds k
  have VA := hide (show verAt ds k t = match lastAt (grp ds k) t with | some d => if d.g = true then none else some d | none => none from rfl)
  obtain ⟨av, cv, hf⟩ := vowns_slice2 (hH.own k)
  rw [hf] at LK VR
  clear hH hok h1 h2 hf
  generalize grp ds k = L at *
  go_enter Tryz.func70, Tryz.ntmps70
  go_wp2_with (at_lookup; refine wpList_lookup_his _ rfl (.tmp 8) (.tmp 9) rfl m k _ rfl rfl LK ?_)
  generalize hW : w.alloc (.cells #[.string ⟨#[]⟩, .int .i64 0, .string ⟨#[]⟩, .bool false] 39) = W at *
  refine (countUpTo_any av L.length cv L t W (by omega) (vrow_of_owns (unhide VR W b0))).mono ?_
  rintro e w1 ⟨rfl, hww⟩
  subst w1
  have hcl := cnt_le L t
  generalize hcn : cnt L t = q at *
  by_cases hq : q = 0
  · subst hq
    have Z := hide (show verAt ds k t = none by rw [unhide VA, unhide LC]; rfl)
    clear LC VA
    obtain ⟨y0, y1, y2, y3⟩ : W.cell? ⟨w.heap.size, 0, none⟩ = some (.string ⟨#[]⟩) ∧ W.cell? ⟨w.heap.size, 1, none⟩ = some (.int .i64 0) ∧ W.cell? ⟨w.heap.size, 2, none⟩ = some (.string ⟨#[]⟩) ∧ W.cell? ⟨w.heap.size, 3, none⟩ = some (.bool false) := ⟨(heap_at (unhide KR) 0).1, (heap_at (unhide KR) 1).1, (heap_at (unhide KR) 2).1, (heap_at (unhide KR) 3).1⟩
    have f0 := (heap_at (unhide KR) 0).2
    have f1 := (heap_at (unhide KR) 1).2
    have f2 := (heap_at (unhide KR) 2).2
    have f3 := (heap_at (unhide KR) 3).2
    have q3 : w.heap.size ≤ w.heap.size := Nat.le_refl _
    go_wp2_with fail
    refine bodyPost_ret (v := .tuple #[vv noV, .bool false]) (by unfold vv noV; simp [results, Tryz.results70, go_sem, *] <;> rfl) rfl ?_
    exact .inl ⟨noV, rfl, unhide Z, (((b0.setCell (p := ⟨w.heap.size, 0, none⟩) q3 _).setCell (p := ⟨w.heap.size, 1, none⟩) q3 _).setCell (p := ⟨w.heap.size, 2, none⟩) q3 _).setCell (p := ⟨w.heap.size, 3, none⟩) q3 _⟩
  · have hql : q - 1 < L.length := by omega
    have hqi : (0 : Int) ≤ (q : Int) - 1 := by omega
    have hqi1 : (1 : Int) ≤ (q : Int) := by omega
    have hqi2 : (q : Int) - 1 < (L.length : Int) := by omega
    have hqt : ((q : Int) - 1).toNat = q - 1 := by omega
    have hwr : IntKind.i64.wrap ((q : Int) - 1) = (q : Int) - 1 := by rw [IntKind.wrap_i64]; omega
    have hq0 : ((q : Int) == 0) = false := by simpa using hq
    obtain ⟨b, off, ea, d0, d1, d2, d3⟩ := (vrow_of_owns (unhide VR W b0)).2 (q - 1) hql
    have ZZ := hide (show verAt ds k t = if L[q - 1].g = true then none else some L[q - 1] by rw [unhide VA, unhide LC, if_neg hq, List.getElem?_eq_getElem hql])
    subst ea
    clear LC VA
    generalize L[q - 1] = xd at *
    obtain ⟨xk, xt, xv, xg⟩ := xd
    simp only at d0 d1 d2 d3 ZZ
    have NEQ := hide hq
    clear hq
    have zs : W.heap.size = w.heap.size + 1 := by rw [← hW]; simp
    have bL : Below W.heap.size W (W.alloc (.cells #[.string xk, .int .i64 xt, .string xv, .bool xg] 39)) := (Below.refl _ _).alloc (Nat.le_refl _) _
    have KL := hide (heap_alloc_new W (.cells #[.string xk, .int .i64 xt, .string xv, .bool xg] 39))
    have KR2 := hide ((bL.block w.heap.size (by omega)).trans (unhide KR))
    have BL := hide (b0.trans (bL.mono b0.size))
    clear bL KR hW
    go_wp2_with (at_lookup; refine wpList_lookup_his _ rfl (.tmp 16) (.tmp 17) rfl m k _ rfl rfl LK ?_)
    generalize W.alloc (.cells #[.string xk, .int .i64 xt, .string xv, .bool xg] 39) = W6 at *
    generalize hlb : W.heap.size = lb at *
    have hne : w.heap.size ≠ lb := by omega
    generalize hrb : w.heap.size = rb at *
    obtain rfl : lb = rb + 1 := by omega
    clear d0 d1 d2 d3 c1 c2 LK VR b0 zs
    have SK := hide (show ∀ u : World, u.heap[rb + 1]? = some (.cells #[.string xk, .int .i64 xt, .string xv, .bool xg] 39 (0, 0)) → (fun u : World => u.cell? ⟨rb + 1, 0, none⟩ = some (.string xk) ∧ u.cell? ⟨rb + 1, 1, none⟩ = some (.int .i64 xt) ∧ u.cell? ⟨rb + 1, 2, none⟩ = some (.string xv) ∧ u.cell? ⟨rb + 1, 3, none⟩ = some (.bool xg)) u from fun u hk => ⟨(heap_at hk 0).1, (heap_at hk 1).1, (heap_at hk 2).1, (heap_at hk 3).1⟩)
    obtain ⟨y0, y1, y2, y3⟩ : W6.cell? ⟨rb, 0, none⟩ = some (.string ⟨#[]⟩) ∧ W6.cell? ⟨rb, 1, none⟩ = some (.int .i64 0) ∧ W6.cell? ⟨rb, 2, none⟩ = some (.string ⟨#[]⟩) ∧ W6.cell? ⟨rb, 3, none⟩ = some (.bool false) := ⟨(heap_at (unhide KR2) 0).1, (heap_at (unhide KR2) 1).1, (heap_at (unhide KR2) 2).1, (heap_at (unhide KR2) 3).1⟩
    have f0 := (heap_at (unhide KR2) 0).2
    have f1 := (heap_at (unhide KR2) 1).2
    have f2 := (heap_at (unhide KR2) 2).2
    have f3 := (heap_at (unhide KR2) 3).2
    have KS := hide (show ((((W6.drew.setCell ⟨rb, 0, none⟩ (.string xk)).setCell ⟨rb, 1, none⟩ (.int .i64 xt)).setCell ⟨rb, 2, none⟩ (.string xv)).setCell ⟨rb, 3, none⟩ (.bool xg)).heap[rb + 1]? = some (.cells #[.string xk, .int .i64 xt, .string xv, .bool xg] 39 (0, 0)) from
      (Below.heap_setCell _ _ _ _ hne.symm).trans ((Below.heap_setCell _ _ _ _ hne.symm).trans ((Below.heap_setCell _ _ _ _ hne.symm).trans ((Below.heap_setCell _ _ _ _ hne.symm).trans (unhide KL)))))
    refine wp_region_held_drew (S := (fun u : World => u.cell? ⟨rb + 1, 0, none⟩ = some (.string xk) ∧ u.cell? ⟨rb + 1, 1, none⟩ = some (.int .i64 xt) ∧ u.cell? ⟨rb + 1, 2, none⟩ = some (.string xv) ∧ u.cell? ⟨rb + 1, 3, none⟩ = some (.bool xg))) (by kernel_rfl) (unhide SK _ (unhide KL)) (fun hHeld => ?_)
    refine anyH_take 0 23 (v := ?v1) rfl rfl (by kernel_rfl) (by kernel_rfl) (by kernel_rfl) (fun _ _ _ h => h) (by rfl) ?h1 hHeld ?r1
    case h1 => (intro w hSw; (try dsimp only at hSw); go_simp; try (with_reducible rfl))
    simp only [Act.put, List.setIfInBounds_toArray, List.set_cons_zero, List.set_cons_succ]
    refine anyH_take 1 24 (v := ?v2) rfl rfl (by kernel_rfl) (by kernel_rfl) (by kernel_rfl) (fun _ _ _ h => h) (by rfl) ?h2 hHeld ?r2
    case h2 => (intro w hSw; (try dsimp only at hSw); go_simp; try (with_reducible rfl))
    simp only [Act.put, List.setIfInBounds_toArray, List.set_cons_zero, List.set_cons_succ]
    refine anyH_take 2 25 (v := ?v3) rfl rfl (by kernel_rfl) (by kernel_rfl) (by kernel_rfl) (fun _ _ _ h => h) (by rfl) ?h3 hHeld ?r3
    case h3 => (intro w hSw; (try dsimp only at hSw); go_simp; try (with_reducible rfl))
    simp only [Act.put, List.setIfInBounds_toArray, List.set_cons_zero, List.set_cons_succ]
    refine anyH_take 3 26 (v := ?v4) rfl rfl (by kernel_rfl) (by kernel_rfl) (by kernel_rfl) (fun _ _ _ h => h) (by rfl) ?h4 hHeld ?r4
    case h4 => (intro w hSw; (try dsimp only at hSw); go_simp; try (with_reducible rfl))
    simp only [Act.put, List.setIfInBounds_toArray, List.set_cons_zero, List.set_cons_succ]
    refine wpAnyH_ready (rs := [4]) (by kernel_rfl) (by simp) ?_
    refine AllReadyH.cons rfl (fun K hK => ?_) AllReadyH.nil
    go_simp
    refine hK.out _ _ (unhide SK _ (unhide KS)) (fun hHeld => ?_)
    clear hK K
    refine anyH_take 5 5 (v := ?v5) rfl rfl (by kernel_rfl) (by kernel_rfl) (by kernel_rfl) (fun _ _ _ h => h) (by rfl) ?h5 hHeld ?r5
    case h5 => (intro w hSw; (try dsimp only at hSw); go_simp; try (with_reducible rfl))
    simp only [Act.put, List.setIfInBounds_toArray, List.set_cons_zero, List.set_cons_succ]
    refine wpAnyH_done (by kernel_rfl) ?_ _
    subst hrb
    have q3 : w.heap.size ≤ w.heap.size := Nat.le_refl _
    have BF := hide ((((((unhide BL).drew.setCell (p := ⟨w.heap.size, 0, none⟩) q3 (.string xk)).setCell (p := ⟨w.heap.size, 1, none⟩) q3 (.int .i64 xt)).setCell (p := ⟨w.heap.size, 2, none⟩) q3 (.string xv)).setCell (p := ⟨w.heap.size, 3, none⟩) q3 (.bool xg)))
    go_wp2_with fail
    cases xg
    · refine bodyPost_ret (v := .tuple #[vv ⟨xk, xt, xv, false⟩, .bool true]) (by unfold vv; simp [results, Tryz.results70, go_sem, *] <;> rfl) rfl ?_
      exact .inr ⟨⟨xk, xt, xv, false⟩, rfl, by simpa using unhide ZZ, unhide BF⟩
    · refine bodyPost_ret (v := .tuple #[vv ⟨xk, xt, xv, true⟩, .bool false]) (by unfold vv; simp [results, Tryz.results70, go_sem, *] <;> rfl) rfl ?_
      exact .inl ⟨⟨xk, xt, xv, true⟩, rfl, by simpa using unhide ZZ, unhide BF⟩
end Go.Proofs.YtfajenejngddeaaGreat

namespace Go.Proofs.YtfajenejngddeaaGreat
open Go.RowKit Go.Maps Go.Sort

theorem HMap.congr {w : World} {m N : Nat} {f g : ByteArray → Value} (h : HMap w m N f) (e : ∀ k : ByteArray, k.size ≤ maxLen → f k = g k) : HMap w m N g := by
  obtain ⟨D, h1, h2, h3⟩ := h
  exact ⟨D, h1, fun k hk => by rw [← e k hk]; exact h2 k hk, fun k hk => by rw [← e k hk]; exact h3 k hk⟩
/-- A history that is only read. -/
structure HisRd (w : World) (m N : Nat) (f : ByteArray → Value) (ds : List VerD) : Prop where
  map : HMap w m N f
  row : ∀ k, ∃ a c, f k = .slice a (grp ds k).length c ∧ VRow w a (grp ds k).length (grp ds k) ∧ (grp ds k).length ≤ c
  no : ∀ k, grp ds k = [] → f k = .slice none 0 0
theorem HisRd.below {w w' : World} {m N : Nat} {f : ByteArray → Value} {ds : List VerD} (h : HisRd w m N f ds) (hb : Below w.heap.size w w') : HisRd w' m N f ds :=
  ⟨h.map.block (hb.block m h.map.lt), fun k => by obtain ⟨a, c, e, r, hc⟩ := h.row k; exact ⟨a, c, e, r.below hb, hc⟩, h.no⟩
theorem HisAt.rd {w : World} {m N B : Nat} {f : ByteArray → Value} {ds : List VerD} (h : HisAt w m N B f ds) : HisRd w m N f ds :=
  ⟨h.map, fun k => by
    obtain ⟨a, c, e⟩ := vowns_slice2 (h.own k)
    have ho := h.own k
    rw [e] at ho
    refine ⟨a, c, e, vrow_of_owns ho, ?_⟩
    rcases ho.2 with ⟨e2, h0⟩ | ⟨g, cap, cur, e2, _, _, hc, _⟩
    · omega
    · injection e2 with _ _ e2; omega, h.no⟩
/-- The row from a place on. -/
def subS (v : Value) (p : Nat) : Value := match v with
  | .slice (some a) n c => .slice (some ⟨a.block, a.off + p * 4, a.spot⟩) (n - p) (c - p)
  | v => v
/-- What is left of a key's row. -/
def prS (v : Value) (L : List VerD) (t : Int) : Value := if frP L t < L.length then subS v (frP L t) else .slice none 0 0
theorem prS_nil {v : Value} {L : List VerD} {t : Int} (h : L = []) : prS v L t = .slice none 0 0 := by
  unfold prS
  rw [if_neg (by rw [h]; simp)]
theorem vrow_sub {w : World} {g o n : Nat} {L : List VerD} (h : VRow w (some ⟨g, o, none⟩) n L) (p : Nat) : VRow w (some ⟨g, o + p * 4, none⟩) (n - p) (L.drop p) := by
  obtain ⟨h1, h2⟩ := h
  refine ⟨by rw [List.length_drop, h1], fun i hi => ?_⟩
  rw [List.length_drop] at hi
  obtain ⟨b, off, e, d0, d1, d2, d3⟩ := h2 (p + i) (by omega)
  injection e with e
  injection e with e1 e2 _
  subst e1 e2
  rw [List.getElem_drop]
  have q : o + p * 4 + i * 4 = o + (p + i) * 4 := by omega
  refine ⟨g, o + p * 4, rfl, ?_, ?_, ?_, ?_⟩
  · rw [q]; exact d0
  · rw [q]; exact d1
  · rw [q]; exact d2
  · rw [q]; exact d3
/-- What pruning leaves of a history. -/
theorem his_pr {w w' : World} {m N m2 N2 : Nat} {f F : ByteArray → Value} {ds : List VerD} {t : Int} (ok : okVs ds = true) (h : HisRd w m N f ds) (hb : Below w.heap.size w w') (hM : HMap w' m2 N2 F) (hF : ∀ k : ByteArray, k.size ≤ maxLen → F k = prS (f k) (grp ds k) t) : HisRd w' m2 N2 (fun k => prS (f k) (grp ds k) t) (prL ds t) := by
  refine ⟨hM.congr hF, fun k => ?_, fun k hk => ?_⟩
  · obtain ⟨a, c, e, r, hc⟩ := h.row k
    rw [grp_pr ok]
    have hl := frP_le (grp ds k) t
    unfold prS
    by_cases hp : frP (grp ds k) t < (grp ds k).length
    · obtain ⟨b, off, ea, _⟩ := r.2 0 (by have := r.1; omega)
      subst ea
      rw [if_pos hp, e]
      have z := (vrow_sub r (frP (grp ds k) t)).below hb
      exact ⟨some ⟨b, off + frP (grp ds k) t * 4, none⟩, c - frP (grp ds k) t, by unfold subS; rw [List.length_drop], by rw [List.length_drop]; exact z, by rw [List.length_drop]; omega⟩
    · rw [if_neg hp]
      have e0 : (grp ds k).drop (frP (grp ds k) t) = [] := List.drop_eq_nil_of_le (by omega)
      rw [e0]
      exact ⟨none, 0, rfl, ⟨rfl, fun i hi => absurd hi (Nat.not_lt_zero _)⟩, Nat.le_refl _⟩
  · rw [grp_pr ok] at hk
    have hl := List.drop_eq_nil_iff.1 hk
    unfold prS
    rw [if_neg (by omega)]
set_option maxRecDepth 100000 in
set_option maxHeartbeats 8000000 in
theorem pruned_any (m N : Nat) (f : ByteArray → Value) (ds : List VerD) (t : Int) (w : World) (hH : HisRd w m N f ds) (ok : okVs ds = true) (hN : N ≤ 100000) (hds : ds.length ≤ 4096) :
    Calls Tryz.prog 35 #[.map (some m), .int .i64 t] w fun e w' => ∃ m2 N2, e = .returned (.map (some m2)) ∧ HisRd w' m2 N2 (fun k => prS (f k) (grp ds k) t) (prL ds t) ∧ w.heap.size ≤ m2 ∧ N2 ≤ 100000 ∧ Below w.heap.size w w' := by
  obtain ⟨D, h1, h2, h3⟩ := hH.map
  have hsz := h1.size_le
  have hml := h1.lt
  have R0 := hide (fun (u : World) (hb : Below w.heap.size w u) => (hH.below hb).row)
  have FIN := hide (fun (u : World) (m2 N2 : Nat) (F : ByteArray → Value) (hb : Below w.heap.size w u) (hM : HMap u m2 N2 F) (hF : ∀ k : ByteArray, k.size ≤ maxLen → F k = prS (f k) (grp ds k) t) => his_pr ok hH hb hM hF)
  have GL := hide (fun k => grp_len ds k)
  have KV := hide h2
  have ST := hide (show ∀ k : ByteArray, k.size ≤ maxLen → (.slice none 0 0 : Value) = if Maps.has D (.string k.data.toList) = true then .slice none 0 0 else prS (f k) (grp ds k) t from fun k hk => by
    by_cases e : Maps.has D (.string k.data.toList) = true
    · rw [if_pos e]
    · rw [if_neg e, prS_nil]
      have h4 : f k = .slice none 0 0 := Classical.byContradiction fun x => e ((h3 k hk).2 x)
      obtain ⟨a, c, e2, r, _⟩ := hH.row k
      rw [h4] at e2
      injection e2 with _ e2 _
      exact List.eq_nil_of_length_eq_zero e2.symm)
  have A1 := World.ownsMap.kept h1 (World.grownBy_alloc w (.map #[] 0) none) (by simp)
  have M0 := hmap_made w
  have ZW := hide (show (w.alloc (.map #[] 0)).heap.size = w.heap.size + 1 by simp)
  have hmm := @run_makeMap Tryz.prog
  clear hH h2 h3 h1
  go_enter Tryz.func35, Tryz.ntmps35
  go_wp2_with (first | (at_range; refine wpList_range_own _ rfl _ 71 rfl 9 23 (string_keyed Tryz.underlying9) Tryz.underlying71 _ m N D rfl A1 ?_; intro w0 hrg0 hg0 hs0))
  go_frame
  have HM0 := hide (M0.block (hg0.block w.heap.size (by rw [unhide ZW]; omega) (by simp)))
  have HB0 := hide (show Below w.heap.size w w0 from ((Below.refl w.heap.size w).alloc (Nat.le_refl _) _).grown hg0 (by rw [unhide ZW]; omega) (fun j hj => by cases hj))
  have HR0 := hide hrg0
  have hr1 : w.heap.size + 1 = (w.alloc (.map #[] 0)).heap.size := (unhide ZW).symm
  clear hg0 hs0 M0 A1 hrg0 ZW
  generalize (w.alloc (.map #[] 0)).heap.size = r at *
  have RW := hide hr1
  have rge : w.heap.size < r := by omega
  clear hr1
  go_loopw [12] (fun _ wr => ∃ (left : Lit → Bool) (q N2 : Nat) (F : ByteArray → Value), N2 + q ≤ Maps.size D ∧ Hid (wr.ranges Tryz.prog 9 hmElem m r N D left q) ∧ Hid (HMap wr w.heap.size N2 F) ∧ Hid (∀ k : ByteArray, k.size ≤ maxLen → F k = if left (.string k.data.toList) = true then .slice none 0 0 else prS (f k) (grp ds k) t) ∧ Hid (Below w.heap.size w wr)) (fun _ wr => wr.rangeLeft m r)
  case atStart => exact ⟨_, _, _, _, by omega, HR0, HM0, ST, HB0⟩
  case round =>
    clear HR0 HM0 ST HB0
    obtain ⟨left, q, N2, F, hq, hR, hM, hF, hB⟩ := hrel
    go_wp2_with (first | (at_next; refine wpList_next_ranges _ rfl _ rfl 9 (string_keyed Tryz.underlying9) hmElem encStr (fun v : Value => v) (fun key kl hk => by obtain ⟨x, hx, _⟩ := Maps.keyOf_str Tryz.underlying9 hk; exact ⟨x, hx⟩) (fun v y _ => ⟨v, rfl⟩) m r N D left q rfl (unhide hR) ?_ ?_))
    · intro _ hl0
      have RES := hide (unhide FIN wr w.heap.size N2 F (unhide hB) (unhide hM) (fun k hk => by rw [unhide hF k hk, hl0, if_neg (by decide)]))
      clear hl0 hF hM hR FIN
      go_wp2_with fail
      go_ret
      exact ⟨w.heap.size, N2, rfl, unhide RES, Nat.le_refl _, by omega, unhide hB⟩
    · intro x v kl yd yp w2 cnt2 hkey hlk hv hat hrg2 hlt hg2 hs2 hen
      obtain ⟨x', ex, rfl, hxl⟩ := Maps.keyOf_str Tryz.underlying9 hkey
      obtain rfl : x = x' := encStr_inj ex
      obtain ⟨k, hk⟩ : ∃ k : ByteArray, k = ⟨x.toArray⟩ := ⟨_, rfl⟩
      have hkx : k.data.toList = x := by rw [hk]
      have hks : k.size ≤ maxLen := by rw [hk]; show x.toArray.size ≤ _; simpa using hxl
      have hvf : v = f k := by
        have h5 := unhide KV k hks
        rw [hkx, hat] at h5
        simp only [hmElem] at hv
        injection hv with hv
        injection hv with hv _
        rw [← hv] at h5
        injection h5
      have B2 : Below w.heap.size w w2 := (unhide hB).grown hg2 (unhide hB).size (fun j hj => by injection hj with hj; omega)
      obtain ⟨a, c, e1, r1, hc⟩ := unhide R0 w2 B2 k
      have hgl := unhide GL k
      have M2 : HMap w2 w.heap.size N2 F := (unhide hM).block (hg2.block w.heap.size (unhide hM).lt (fun e => by injection e with e; omega))
      have es : encStr x = .string k := by rw [hk]
      rw [es] at hen ⊢
      rw [hvf, e1] at hen ⊢
      have hcn := cnt_le (grp ds k) t
      -- what the new map has, whatever has come of this key
      have NEW := hide (show ∀ G : ByteArray → Value, G k = prS (f k) (grp ds k) t → (∀ j, j ≠ k → G j = F j) → ∀ j : ByteArray, j.size ≤ maxLen → G j = if (left (.string j.data.toList) && !(Lit.string j.data.toList).sameKey (.string x)) = true then .slice none 0 0 else prS (f j) (grp ds j) t from fun G h1 h2 j hj => by
        by_cases e : j = k
        · subst e
          rw [hkx, h1, if_neg (by simp [Lit.sameKey])]
        · have e3 : (Lit.string j.data.toList).sameKey (.string x) = false := by
            rw [← hkx]
            simp only [Lit.sameKey]
            rw [beq_eq_false_iff_ne]
            exact fun e4 => e (hm_inj e4)
          rw [h2 j e, unhide hF j hj, e3]
          simp)
      have OUT := hide (show F k = .slice none 0 0 by rw [unhide hF k hks, hkx, if_pos hlk])
      have LE := hide (show w2.rangeLeft m r < wr.rangeLeft m r by rw [hrg2.left_eq, (unhide hR).left_eq]; exact hlt)
      have LV := hide hlt
      have UPD := hide (fun (u : Value) (hu : u ≠ .slice none 0 0) => M2.update hks (show N2 < maxLen by unfold maxLen; omega) u hu)
      have CU := hide (countUpTo_any a (grp ds k).length c (grp ds k) t w2 (by omega) r1)
      have R2 := hide hrg2
      have BB2 := hide B2
      have MM2 := hide M2
      have PRS := hide (show prS (f k) (grp ds k) t = if frP (grp ds k) t < (grp ds k).length then subS (.slice a (grp ds k).length c) (frP (grp ds k) t) else .slice none 0 0 by rw [← e1]; rfl)
      have ROW := hide r1
      have hL4 : (grp ds k).length ≤ 4096 := by omega
      clear hkey hlk hv hat hrg2 hlt hg2 hs2 ex hvf e1 r1 M2 B2 hF hR hM hB hk hgl hxl es
      have FR : frP (grp ds k) t = if 0 < cnt (grp ds k) t ∧ ((grp ds k).getD (cnt (grp ds k) t - 1) noV).g = false then cnt (grp ds k) t - 1 else cnt (grp ds k) t := rfl
      generalize grp ds k = L at *
      go_wp2_with fail
      refine (unhide CU).mono ?_
      rintro e w3 ⟨rfl, hw3⟩
      subst w3
      clear CU hen
      generalize cnt L t = qn at *
      by_cases h0 : 0 < qn
      · have hql : qn - 1 < L.length := by omega
        obtain ⟨b, off, ea, -, -, -, d3⟩ := (unhide ROW).2 (qn - 1) hql
        subst ea
        have hgd : L.getD (qn - 1) noV = L[qn - 1] := getD_is hql
        have z1 : (0 : Int) < (qn : Int) := by omega
        have z2 : (0 : Int) ≤ (qn : Int) - 1 := by omega
        have z3 : (qn : Int) - 1 < (L.length : Int) := by omega
        have z4 : ((qn : Int) - 1).toNat = qn - 1 := by omega
        have z5 : IntKind.i64.wrap ((qn : Int) - 1) = (qn : Int) - 1 := by rw [IntKind.wrap_i64]; omega
        rw [hgd] at FR
        cases hg : L[qn - 1].g with
        | false =>
          rw [hg] at d3 FR
          clear hg hgd
          have FP : frP L t = qn - 1 := by rw [FR, if_pos ⟨h0, rfl⟩]
          have PV := hide (show prS (f k) L t = .slice (some ⟨b, off + (qn - 1) * 4, none⟩) (L.length - (qn - 1)) (c - (qn - 1)) by rw [unhide PRS, FP, if_pos (by omega)]; rfl)
          obtain ⟨w3, hr3, M3, g3⟩ := unhide UPD (.slice (some ⟨b, off + (qn - 1) * 4, none⟩) (L.length - (qn - 1)) (c - (qn - 1))) (by simp)
          have NF := hide (unhide NEW (fun x => if x = k then .slice (some ⟨b, off + (qn - 1) * 4, none⟩) (L.length - (qn - 1)) (c - (qn - 1)) else F x) (by rw [unhide PV]; exact if_pos rfl) (fun j e => if_neg e))
          have R3 := hide ((unhide R2).kept g3 (fun e => by injection e with e; omega) (fun e => by injection e with e; omega))
          have B3 := hide ((unhide BB2).grown g3 (unhide BB2).size (fun j hj => by injection hj with hj; omega))
          have LE3 := hide (show w3.rangeLeft m r < wr.rangeLeft m r by rw [(unhide R3).left_eq, ← (unhide R2).left_eq]; exact unhide LE)
          have MM3 := hide M3
          have lv := unhide LV
          clear M3 g3 PV NEW UPD R2 BB2 MM2 OUT LE FP FR LV PRS ROW
          skip
          go_wp2_with fail
          go_roundw
          case rel => exact ⟨_, cnt2, N2 + 1, _, by omega, R3, MM3, NF, B3⟩
          case measure => exact unhide LE3
        | true =>
          rw [hg] at d3 FR
          clear hg hgd
          have FQ : frP L t = qn := by rw [FR, if_neg (fun x => by exact absurd x.2 (by decide))]
          by_cases hp : qn < L.length
          · have z6 : (qn : Int) < (L.length : Int) := by omega
            have FP : frP L t = qn := FQ
            have PV := hide (show prS (f k) L t = .slice (some ⟨b, off + (qn) * 4, none⟩) (L.length - (qn)) (c - (qn)) by rw [unhide PRS, FP, if_pos (by omega)]; rfl)
            obtain ⟨w3, hr3, M3, g3⟩ := unhide UPD (.slice (some ⟨b, off + (qn) * 4, none⟩) (L.length - (qn)) (c - (qn))) (by simp)
            have NF := hide (unhide NEW (fun x => if x = k then .slice (some ⟨b, off + (qn) * 4, none⟩) (L.length - (qn)) (c - (qn)) else F x) (by rw [unhide PV]; exact if_pos rfl) (fun j e => if_neg e))
            have R3 := hide ((unhide R2).kept g3 (fun e => by injection e with e; omega) (fun e => by injection e with e; omega))
            have B3 := hide ((unhide BB2).grown g3 (unhide BB2).size (fun j hj => by injection hj with hj; omega))
            have LE3 := hide (show w3.rangeLeft m r < wr.rangeLeft m r by rw [(unhide R3).left_eq, ← (unhide R2).left_eq]; exact unhide LE)
            have MM3 := hide M3
            have lv := unhide LV
            clear M3 g3 PV NEW UPD R2 BB2 MM2 OUT LE FP FR LV PRS ROW
            skip
            go_wp2_with fail
            go_roundw
            case rel => exact ⟨_, cnt2, N2 + 1, _, by omega, R3, MM3, NF, B3⟩
            case measure => exact unhide LE3
          · have z6 : ¬ (qn : Int) < (L.length : Int) := by omega
            have NF := hide (unhide NEW F (by rw [unhide OUT, unhide PRS, FQ, if_neg (by omega)]) (fun j _ => rfl))
            have lv := unhide LV
            clear NEW UPD OUT FR LV PRS ROW
            go_wp2_with fail
            go_roundw
            case rel => exact ⟨_, cnt2, N2, F, by omega, R2, MM2, NF, BB2⟩
            case measure => exact unhide LE
      · obtain rfl : qn = 0 := by omega
        have FQ : frP L t = 0 := by rw [FR, if_neg (fun x => by exact absurd x.1 (by omega))]
        by_cases hp : 0 < L.length
        · obtain ⟨b, off, ea, -⟩ := (unhide ROW).2 0 hp
          subst ea
          have FP : frP L t = 0 := FQ
          have PV := hide (show prS (f k) L t = .slice (some ⟨b, off + (0) * 4, none⟩) (L.length - (0)) (c - (0)) by rw [unhide PRS, FP, if_pos (by omega)]; rfl)
          obtain ⟨w3, hr3, M3, g3⟩ := unhide UPD (.slice (some ⟨b, off + (0) * 4, none⟩) (L.length - (0)) (c - (0))) (by simp)
          have NF := hide (unhide NEW (fun x => if x = k then .slice (some ⟨b, off + (0) * 4, none⟩) (L.length - (0)) (c - (0)) else F x) (by rw [unhide PV]; exact if_pos rfl) (fun j e => if_neg e))
          have R3 := hide ((unhide R2).kept g3 (fun e => by injection e with e; omega) (fun e => by injection e with e; omega))
          have B3 := hide ((unhide BB2).grown g3 (unhide BB2).size (fun j hj => by injection hj with hj; omega))
          have LE3 := hide (show w3.rangeLeft m r < wr.rangeLeft m r by rw [(unhide R3).left_eq, ← (unhide R2).left_eq]; exact unhide LE)
          have MM3 := hide M3
          have lv := unhide LV
          clear M3 g3 PV NEW UPD R2 BB2 MM2 OUT LE FP FR LV PRS ROW
          simp only [Nat.zero_mul, Nat.add_zero, Nat.sub_zero] at hr3
          go_wp2_with fail
          go_roundw
          case rel => exact ⟨_, cnt2, N2 + 1, _, by omega, R3, MM3, NF, B3⟩
          case measure => exact unhide LE3
        · have hL0 : L.length = 0 := by omega
          have NF := hide (unhide NEW F (by rw [unhide OUT, unhide PRS, FQ, if_neg (by omega)]) (fun j _ => rfl))
          have lv := unhide LV
          clear NEW UPD OUT FR LV PRS ROW
          go_wp2_with fail
          go_roundw
          case rel => exact ⟨_, cnt2, N2, F, by omega, R2, MM2, NF, BB2⟩
          case measure => exact unhide LE
end Go.Proofs.YtfajenejngddeaaGreat
