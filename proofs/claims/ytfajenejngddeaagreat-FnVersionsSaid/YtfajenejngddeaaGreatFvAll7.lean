/-
  TxM, Src, SrcN, SrcM, PageO, FdD, FdE, SrcZ, TxN, TxO, SvS, PgE, PgP, MkT, PgM, PgH in one.
-/
import Derived.Test.YtfajenejngddeaaGreatFvAll6
import Derived.Test.YtfajenejngddeaaGreatFvAll2
import Derived.Test.YtfajenejngddeaaGreatOwn
import Derived.Deep.RegionWith
import Derived.Test.YtfajenejngddeaaGreatFvAll4
import Derived.Laws.Concat
import Derived.Test.YtfajenejngddeaaGreatXaC
import Derived.Test.YtfajenejngddeaaGreatFvAll1
import Derived.Test.YtfajenejngddeaaGreatTakes
import Derived.Test.YtfajenejngddeaaGreatSsA
import Derived.Test.YtfajenejngddeaaGreatVrT
import Derived.Laws.StructEq
import Derived.Test.YtfajenejngddeaaGreatPageJ
import Derived.Test.YtfajenejngddeaaGreatWrT
import Derived.Laws.BytesArg
namespace Go.Proofs.YtfajenejngddeaaGreat
open Go.RowKit

/-- Replies lie apart from a block of another kind. -/
theorem zr_box {w : World} {B n tb : Nat} {v : Value} {zs : List ZrH} {cs : Array Value} {t : TypeId} (h : NOwn w B 60 4 v n (zs.map zrEl)) (hb : w.heap[tb]? = some (.cells cs t (0, 0))) (h1 : 60 ≠ t) (h2 : 43 ≠ t) : ¬ NBl v (zs.map zrEl) tb := fun hn => by
  rcases hn with hn | ⟨k, a, x, hx, hi⟩
  · exact own_box h.row hb h1 hn
  · have ht : x.t = 43 := by
      obtain ⟨e, he, hxe⟩ := sbAt_mem hx
      obtain ⟨y, _, rfl⟩ := List.mem_map.1 he
      rw [List.mem_singleton.1 hxe]
    have hd := h.dat k a x hx
    rw [ht] at hd
    exact own_box hd hb h2 hi
/-- A run under way. -/
structure TrSt (W v : World) (tb : Nat) (l f s : Sl) (hs : List SeH) (d : VsD) (rv : Value) (zs : List ZrH) : Prop where
  bel : Below W.heap.size W v
  own : VzOwn v W.heap.size l f s hs d
  box : v.heap[tb]? = some (.cells (vzC d.next l f s) 27 (0, 0))
  rep : ZrOwn v W.heap.size rv zs
  tge : W.heap.size ≤ tb
theorem TrSt.below {W v v' : World} {tb : Nat} {l f s : Sl} {hs : List SeH} {d : VsD} {rv : Value} {zs : List ZrH} (h : TrSt W v tb l f s hs d rv zs) (hb : Below v.heap.size v v') : TrSt W v' tb l f s hs d rv zs :=
  ⟨h.bel.trans (hb.mono h.bel.size), h.own.below hb, (hb.block tb (blk_lt h.box)).trans h.box, h.rep.below hb, h.tge⟩
set_option maxRecDepth 100000 in
/-- Versions laid in the box, a reply appended. -/
theorem TrSt.push {W wr u : World} {tb : Nat} {l f s l' f' s' : Sl} {hs hs' : List SeH} {d d' : VsD} {rv : Value} {zs : List ZrH} (h : TrSt W wr tb l f s hs d rv zs) (hb : Below wr.heap.size wr u) (own' : VzOwn u W.heap.size l' f' s' hs' d') (p : RepD) (r : Sl) (eo : EOwns u wr.heap.size (.slice r.a r.n r.c) p.list) (hz : zs.length ≤ 1000) :
    ∃ q : Sl, ∃ w5, (Builtin.append_ #[28, 28] 28 #[rv, .slice (some ⟨(sv4 u tb (.int .i64 d'.next) (.slice l'.a l'.n l'.c) (.slice f'.a f'.n f'.c) (.slice s'.a s'.n s'.c)).heap.size, 0, none⟩) 1 1]).run Tryz.prog ((sv4 u tb (.int .i64 d'.next) (.slice l'.a l'.n l'.c) (.slice f'.a f'.n f'.c) (.slice s'.a s'.n s'.c)).alloc (.cells #[.int .i64 p.code, .int .i64 p.time, .string p.val, .slice r.a r.n r.c] 60)) = .ok (.slice q.a q.n q.c) w5 ∧ TrSt W w5 tb l' f' s' hs' d' (.slice q.a q.n q.c) (zs ++ [⟨p, r⟩]) := by
  have hu := h.below hb
  have hw := sv4_wr u tb (.int .i64 d'.next) (.slice l'.a l'.n l'.c) (.slice f'.a f'.n f'.c) (.slice s'.a s'.n s'.c)
  have hx := sv4_heap hu.box (.int .i64 d'.next) (.slice l'.a l'.n l'.c) (.slice f'.a f'.n f'.c) (.slice s'.a s'.n s'.c)
  have o1 := own'.box hu.box (by decide) (by decide) (by decide) hw
  have e1 := own_keep eo hu.box (by decide) hw
  have r1 : ZrOwn (sv4 u tb (.int .i64 d'.next) (.slice l'.a l'.n l'.c) (.slice f'.a f'.n f'.c) (.slice s'.a s'.n s'.c)) W.heap.size rv zs := hu.rep.keep hw (fun i hi e => by subst e; exact zr_box hu.rep hu.box (by decide) (by decide) hi)
  have b1 := hu.bel.trans (WrB.below hw (fun i e => by rw [e]; exact h.tge) hu.bel.size)
  have hwr : wr.heap.size ≤ (sv4 u tb (.int .i64 d'.next) (.slice l'.a l'.n l'.c) (.slice f'.a f'.n f'.c) (.slice s'.a s'.n s'.c)).heap.size := Nat.le_trans hb.size hw.size
  have hlt : ∀ i, NBl rv (zs.map zrEl) i → i < wr.heap.size := fun i hi => (h.rep.lt i hi).2
  clear hw
  generalize sv4 u tb (.int .i64 d'.next) (.slice l'.a l'.n l'.c) (.slice f'.a f'.n f'.c) (.slice s'.a s'.n s'.c) = u1 at *
  obtain ⟨i0, hi0, hz0, hz1, hz2⟩ := info_parts Tryz.infoZr
  obtain ⟨v', w5, hrun, hN, hg, -⟩ := NOwn.app (e := zrEl ⟨p, r⟩) (C := wr.heap.size) 28 Tryz.underlying28 hi0 hz0 hz1 hz2 rfl (by decide) (by decide) r1 rfl (by intro y hy; simp only [zrEl, List.mem_cons, List.not_mem_nil, or_false] at hy; rcases hy with rfl | rfl | rfl | rfl <;> rfl) (fun y hy => by rw [List.mem_singleton.1 hy]; exact e1) hlt h.bel.size (fun a b y z hy hz' hab => by
    match a, hy, b, hz' with
    | 0, _, 0, _ => exact absurd rfl hab
    | a + 1, hy, _, _ => cases hy
    | 0, _, b + 1, hz' => cases hz') (by omega) b1.size
  obtain ⟨q, rfl, -⟩ := v_slice hN.row
  have bA : Below u1.heap.size u1 (u1.alloc (.cells (zrEl ⟨p, r⟩).hd.toArray 60)) := (Below.refl _ _).alloc (Nat.le_refl _) _
  have hG := WrB.of_grown hg
  have oA := o1.below bA
  have rA := r1.below bA
  have xA := (bA.block tb (blk_lt hx)).trans hx
  have bB := b1.trans (bA.mono b1.size)
  refine ⟨q, w5, hrun, ⟨bB.trans (WrB.below hG (fun i hi => (rA.row.lt i hi).1) bB.size), oA.apart hG (fun i hi => own_other oA.vo rA.row (by decide) hi) (fun i hi => own_other oA.fo rA.row (by decide) hi) (fun i hi e => ?_), (hG.block tb (blk_lt xA) (own_box rA.row xA (by decide))).trans xA, ?_, h.tge⟩⟩
  · obtain ⟨cur, hc⟩ := own_kind rA.row e
    exact se_box oA.so hc (by decide) (by decide) hi
  · have := hN
    rw [← List.map_singleton, ← List.map_append] at this
    rw [show zs.length + 1 = (zs ++ [(⟨p, r⟩ : ZrH)]).length by simp] at this
    exact this
/-- What a round's first statement has made. -/
structure RgT (W wr u : World) (p : VsD × RepD) (res : Option (Sl × Sl × Sl × List SeH × Sl)) (b8 b9 : Option Nat) : Prop where
  bel : Below wr.heap.size wr u
  r : ∀ l f s hs r, res = some (l, f, s, hs, r) → VzOwn u W.heap.size l f s hs p.1 ∧ EOwns u wr.heap.size (.slice r.a r.n r.c) p.2.list
  e8 : ∀ b, b8 = some b → wr.heap.size ≤ b ∧ u.heap[b]? = some (.cells #[.int .i64 0, .slice none 0 0, .slice none 0 0, .slice none 0 0] 27 (0, 0))
  e9 : ∀ b, b9 = some b → wr.heap.size ≤ b ∧ u.heap[b]? = some (.cells #[.int .i64 0, .int .i64 0, .string ⟨#[]⟩, .slice none 0 0] 60 (0, 0))
theorem RgT.step {W wr u u' : World} {p : VsD × RepD} {res : Option (Sl × Sl × Sl × List SeH × Sl)} {b8 b9 : Option Nat} (h : RgT W wr u p res b8 b9) (hb : Below u.heap.size u u') : RgT W wr u' p res b8 b9 :=
  ⟨h.bel.trans (hb.mono h.bel.size), fun l f s hs r e => ⟨(h.r l f s hs r e).1.below hb, rb_ownsRow_below (h.r l f s hs r e).2 hb⟩, fun b e => ⟨(h.e8 b e).1, (hb.block b (blk_lt (h.e8 b e).2)).trans (h.e8 b e).2⟩, fun b e => ⟨(h.e9 b e).1, (hb.block b (blk_lt (h.e9 b e).2)).trans (h.e9 b e).2⟩⟩
theorem RgT.lit8 {W wr u : World} {p : VsD × RepD} {res : Option (Sl × Sl × Sl × List SeH × Sl)} {b9 : Option Nat} (h : RgT W wr u p res none b9) : RgT W wr (u.alloc (.cells #[.int .i64 0, .slice none 0 0, .slice none 0 0, .slice none 0 0] 27)) p res (some u.heap.size) b9 := by
  have s := h.step ((Below.refl u.heap.size u).alloc (Nat.le_refl _) (.cells #[.int .i64 0, .slice none 0 0, .slice none 0 0, .slice none 0 0] 27))
  refine ⟨s.bel, s.r, fun b e => ?_, s.e9⟩
  injection e with e
  subst e
  exact ⟨h.bel.size, heap_alloc_new _ _⟩
theorem RgT.lit9 {W wr u : World} {p : VsD × RepD} {res : Option (Sl × Sl × Sl × List SeH × Sl)} {b8 : Option Nat} (h : RgT W wr u p res b8 none) : RgT W wr (u.alloc (.cells #[.int .i64 0, .int .i64 0, .string ⟨#[]⟩, .slice none 0 0] 60)) p res b8 (some u.heap.size) := by
  have s := h.step ((Below.refl u.heap.size u).alloc (Nat.le_refl _) (.cells #[.int .i64 0, .int .i64 0, .string ⟨#[]⟩, .slice none 0 0] 60))
  refine ⟨s.bel, s.r, s.e8, fun b e => ?_⟩
  injection e with e
  subst e
  exact ⟨h.bel.size, heap_alloc_new _ _⟩
theorem RgT.call {W wr u u' : World} {d : VsD} {p : VsD × RepD} {l f s : Sl} {hs : List SeH} {b8 b9 : Option Nat} {e : Ending} (h : RgT W wr u p none b8 b9) (hO : VzOwn wr W.heap.size l f s hs d) (hW : W.heap.size ≤ wr.heap.size) (hr : StRes l f s hs d p u e u') :
    ∃ l' f' s' : Sl, ∃ (hs' : List SeH) (r : Sl), e = .returned (.tuple #[.agg #[.int .i64 p.1.next, .slice l'.a l'.n l'.c, .slice f'.a f'.n f'.c, .slice s'.a s'.n s'.c], .agg #[.int .i64 p.2.code, .int .i64 p.2.time, .string p.2.val, .slice r.a r.n r.c]]) ∧ RgT W wr u' p (some (l', f', s', hs', r)) b8 b9 := by
  obtain ⟨l', f', s', hs', r, he, hv, heo, hb⟩ := hr
  have s := h.step hb
  refine ⟨l', f', s', hs', r, he, s.bel, fun l2 f2 s2 hs2 r2 e2 => ?_, s.e8, s.e9⟩
  injection e2 with e2
  injection e2 with e1 e2
  injection e2 with e3 e2
  injection e2 with e4 e2
  injection e2 with e5 e6
  subst e1 e3 e4 e5 e6
  refine ⟨?_, gd_base heo h.bel.size⟩
  rcases hv with ⟨rfl, rfl, rfl, rfl, hd⟩ | hv
  · rw [hd]; exact hO.below s.bel
  · exact hv.dn (Nat.le_trans hW h.bel.size)
def txC (acts : List TxD) : Int := if 4096 < acts.length then 2 else if 150 < acts.length then 6 else 0
def txV (acts : List TxD) : VsD := if 150 < acts.length then ⟨0, [], [], []⟩ else (runV acts).1
def txR (acts : List TxD) : List RepD := if 150 < acts.length then [] else (runV acts).2
/-- What TxRun leaves. -/
def TxRes (acts : List TxD) (w : World) (e : Ending) (w' : World) : Prop := ∃ l f s hs, ∃ (q : Sl) (zs : List ZrH), e = .returned (.tuple #[.agg (vzC (txV acts).next l f s), .slice q.a q.n q.c, .int .i64 (txC acts)]) ∧ VzOwn w' w.heap.size l f s hs (txV acts) ∧ ZrOwn w' w.heap.size (.slice q.a q.n q.c) zs ∧ zs.map (·.X) = txR acts ∧ Below w.heap.size w w'
theorem vz_none (w : World) (B : Nat) : VzOwn w B ⟨none, 0, 0⟩ ⟨none, 0, 0⟩ ⟨none, 0, 0⟩ [] ⟨0, [], [], []⟩ := ⟨World.ownsRow_nil _ _ _ _, World.ownsRow_nil _ _ _ _, NOwn.flat (World.ownsRow_nil _ _ _ _) rfl (fun e he => by cases he) (fun e he => by cases he), rfl, fun i hi => by cases hi⟩
theorem zr_lit {w : World} {B : Nat} (hB : B ≤ w.heap.size) : ZrOwn (w.alloc (.cells #[] 60)) B (.slice (some ⟨w.heap.size, 0, none⟩) 0 0) [] := NOwn.flat (gd_base (nil_lit (w := w) 60 4) hB) rfl (fun e he => by cases he) (fun e he => by cases he)
set_option maxRecDepth 100000 in
set_option maxHeartbeats 8000000 in
theorem specTxRun_any (a : Option Addr) (N c : Nat) (acts : List TxD) (w : World) (hR : XRow w a N acts) (hn : N ≤ 1048576) :
    Calls Tryz.prog 5 #[.slice a N c] w fun e w' => TxRes acts w e w' := by
  have L := hide hR.1
  have b0 : Below w.heap.size w (w.alloc (.cells #[.int .i64 0, .slice none 0 0, .slice none 0 0, .slice none 0 0] 27)) := (Below.refl _ _).alloc (Nat.le_refl _) _
  have K0 := heap_alloc_new w (.cells #[.int .i64 0, .slice none 0 0, .slice none 0 0, .slice none 0 0] 27)
  have hz0 : w.heap.size < (w.alloc (.cells #[.int .i64 0, .slice none 0 0, .slice none 0 0, .slice none 0 0] 27)).heap.size := by simp
  have LONG := hide (show 150 < N → ∀ cc : Int, txC acts = cc → TxRes acts w (.returned (.tuple #[.agg #[.int .i64 0, .slice none 0 0, .slice none 0 0, .slice none 0 0], .slice (some ⟨w.heap.size + 1, 0, none⟩) 0 0, .int .i64 cc])) ((w.alloc (.cells #[.int .i64 0, .slice none 0 0, .slice none 0 0, .slice none 0 0] 27)).alloc (.cells #[] 60)) from fun h cc hc => by
    have hz : (w.alloc (.cells #[.int .i64 0, .slice none 0 0, .slice none 0 0, .slice none 0 0] 27)).heap.size = w.heap.size + 1 := by simp
    have h' : 150 < acts.length := by rw [unhide L]; exact h
    have hv : txV acts = ⟨0, [], [], []⟩ := by unfold txV; rw [if_pos h']
    have hr : txR acts = [] := by unfold txR; rw [if_pos h']
    refine ⟨⟨none, 0, 0⟩, ⟨none, 0, 0⟩, ⟨none, 0, 0⟩, [], ⟨some ⟨w.heap.size + 1, 0, none⟩, 0, 0⟩, [], by rw [hc, hv], by rw [hv]; exact vz_none _ _, ?_, by rw [hr]; rfl, b0.alloc b0.size _⟩
    rw [← hz]
    exact zr_lit b0.size)
  by_cases hl1 : 4096 < N
  · have hC : txC acts = 2 := by unfold txC; rw [if_pos (by rw [unhide L]; exact hl1)]
    have RES := hide (unhide LONG (by omega) 2 hC)
    clear hC
    go_enter Tryz.func5, Tryz.ntmps5
    go_wp2_with fail
    refine bodyPost_ret (v := .tuple #[.agg #[.int .i64 0, .slice none 0 0, .slice none 0 0, .slice none 0 0], .slice (some ⟨w.heap.size + 1, 0, none⟩) 0 0, .int .i64 2]) (by simp [results, Tryz.results5, go_sem]) rfl ?_
    exact unhide RES
  by_cases hl2 : 150 < N
  · have hC : txC acts = 6 := by unfold txC; rw [if_neg (by rw [unhide L]; exact hl1), if_pos (by rw [unhide L]; exact hl2)]
    have RES := hide (unhide LONG hl2 6 hC)
    clear hC
    go_enter Tryz.func5, Tryz.ntmps5
    go_wp2_with fail
    refine bodyPost_ret (v := .tuple #[.agg #[.int .i64 0, .slice none 0 0, .slice none 0 0, .slice none 0 0], .slice (some ⟨w.heap.size + 1, 0, none⟩) 0 0, .int .i64 6]) (by simp [results, Tryz.results5, go_sem]) rfl ?_
    exact unhide RES
  have RT := hide (show txC acts = 0 ∧ txV acts = (runV acts).1 ∧ txR acts = (runV acts).2 by
    have h1 : ¬ 4096 < acts.length := by rw [unhide L]; exact hl1
    have h2 : ¬ 150 < acts.length := by rw [unhide L]; exact hl2
    unfold txC txV txR
    rw [if_neg h1, if_neg h2, if_neg h2, if_neg h2]
    exact ⟨rfl, rfl, rfl⟩)
  have R := hide hR
  have HN := hide (l06New_any (w.alloc (.cells #[.int .i64 0, .slice none 0 0, .slice none 0 0, .slice none 0 0] 27)))
  clear hR LONG
  go_enter Tryz.func5, Tryz.ntmps5
  go_wp2_with fail
  generalize w.alloc (.cells #[.int .i64 0, .slice none 0 0, .slice none 0 0, .slice none 0 0] 27) = W at *
  refine (unhide HN).mono ?_
  rintro e w1 ⟨⟨la, ln, lc⟩, ⟨fa, fn, fc⟩, ⟨sa, sn, sc⟩, hs, rfl, hO, hb1⟩
  unfold vzC
  simp only
  have e1 : newV.next = 1 := rfl
  rw [e1]
  have bT := (Below.refl w1.heap.size w1).alloc (Nat.le_refl _) (.cells #[.int .i64 1, .slice la ln lc, .slice fa fn fc, .slice sa sn sc] 27)
  have kT := heap_alloc_new w1 (.cells #[.int .i64 1, .slice la ln lc, .slice fa fn fc, .slice sa sn sc] 27)
  have O1 := hO.below bT
  have B1 := hb1.trans (bT.mono hb1.size)
  have hz1 := hb1.size
  have BZ := hide b0
  have K0h := hide K0
  clear HN hO hb1 bT b0 K0 e1
  go_upto_region 6 with fail
  generalize w1.alloc (.cells #[.int .i64 1, .slice la ln lc, .slice fa fn fc, .slice sa sn sc] 27) = w2 at *
  generalize w1.heap.size = tb at *
  have bL := (Below.refl w2.heap.size w2).alloc (Nat.le_refl _) (.cells #[] 60)
  have S0 := hide (show TrSt W (w2.alloc (.cells #[] 60)) tb ⟨la, ln, lc⟩ ⟨fa, fn, fc⟩ ⟨sa, sn, sc⟩ hs (runV (acts.take 0)).1 (.slice (some ⟨w2.heap.size, 0, none⟩) 0 0) [] from ⟨B1.trans (bL.mono B1.size), O1.below bL, (bL.block tb (blk_lt kT)).trans kT, zr_lit B1.size, hz1⟩)
  clear bL O1 B1 kT
  go_wp2_with fail
  generalize w2.alloc (.cells #[] 60) = w3 at *
  generalize w2.heap.size = cb at *
  go_loopw [6, 7] (fun cv iv wr => ∃ (k : Nat) (l f s : Sl) (hs : List SeH) (q : Sl) (zs : List ZrH), k ≤ N ∧ cv = .slice q.a q.n q.c ∧ iv = .int .i64 k ∧ Hid (TrSt W wr tb l f s hs (runV (acts.take k)).1 (.slice q.a q.n q.c) zs) ∧ Hid (zs.map (·.X) = (runV (acts.take k)).2)) (fun _ iv _ => N - (intOf iv).toNat)
  case atStart => exact ⟨0, _, _, _, _, ⟨some ⟨cb, 0, none⟩, 0, 0⟩, [], Nat.zero_le _, rfl, rfl, S0, rfl⟩
  case round =>
    clear S0
    obtain ⟨k, ⟨la1, ln1, lc1⟩, ⟨fa1, fn1, fc1⟩, ⟨sa1, sn1, sc1⟩, hs1, ⟨qa, qn, qc⟩, zs, hk, rfl, rfl, hS, hX⟩ := hrel
    have hV := hide (runV_ok acts k (by rw [unhide L]; exact hk))
    have bR := (unhide BZ).trans ((unhide hS).bel.mono (unhide BZ).size)
    have kb := (unhide hS).box
    unfold vzC at kb
    simp only at kb
    have t0 := (heap_at kb 0).1
    have t1 := (heap_at kb 1).1
    have t2 := (heap_at kb 2).1
    have t3 := (heap_at kb 3).1
    by_cases hlt : k < N
    case neg =>
      obtain rfl : k = N := by omega
      have ht : acts.take k = acts := List.take_of_length_le (by rw [unhide L]; exact Nat.le_refl _)
      rw [ht] at hS hX hV t0
      have hsm := (unhide hV).small (by omega)
      have ow := (unhide hS).own
      have HON := hide (l06Own_any (runV acts).1 ⟨la1, ln1, lc1⟩ ⟨fa1, fn1, fc1⟩ ⟨sa1, sn1, sc1⟩ hs1 wr ow.reads (by have h1 : ln1 = (runV acts).1.list.length := owns_n ow.vo; have := hsm.list; show ln1 ≤ 1000000; omega) (by have h1 : fn1 = (runV acts).1.fen.length := owns_n ow.fo; have := hsm.fen; show fn1 ≤ 1000000; omega) (by have h1 := ow.reads.len; have := hsm.ses; show sn1 ≤ 1000; simp only at h1; omega) (fun h hh => by
        obtain ⟨j, hj, rfl⟩ := List.getElem_of_mem hh
        obtain ⟨hd, he⟩ := ow.reads.at hj
        have h1 := (SeIn.row ow.reads.sr hj).1
        have h2 := hsm.ws _ (List.getElem_mem hd)
        rw [← he] at h2
        omega))
      unfold vzC at HON
      simp only at HON
      have hwr := (unhide hS).bel.size
      clear ht kb ow hsm
      go_wp2_with fail
      refine (unhide HON).mono ?_
      rintro e w5 ⟨⟨la2, ln2, lc2⟩, ⟨fa2, fn2, fc2⟩, ⟨sa2, sn2, sc2⟩, hs7, rfl, O7, hb7⟩
      have K5 := (hb7.block w.heap.size (Nat.lt_of_lt_of_le hz0 hwr)).trans (((unhide hS).bel.block w.heap.size hz0).trans (unhide K0h))
      have f0 := (heap_at K5 0).1
      have f1 := (heap_at K5 1).1
      have f2 := (heap_at K5 2).1
      have f3 := (heap_at K5 3).1
      have ff0 := (heap_at K5 0).2
      have ff1 := (heap_at K5 1).2
      have ff2 := (heap_at K5 2).2
      have ff3 := (heap_at K5 3).2
      have hw5 : w.heap.size < wr.heap.size := Nat.lt_of_lt_of_le hz0 hwr
      have hw := sv4_wr w5 w.heap.size (.int .i64 (runV acts).1.next) (.slice la2 ln2 lc2) (.slice fa2 fn2 fc2) (.slice sa2 sn2 sc2)
      have OT := O7.wr hw (fun i e => by rw [e]; exact hw5)
      have N5 := (unhide hS).rep.below hb7
      have N1 := N5.keep hw (fun i hi e => by have := (N5.lt i hi).1; omega)
      have BB := bel_sv4 (bR.trans (hb7.mono bR.size)) (Nat.le_refl w.heap.size) (.int .i64 (runV acts).1.next) (.slice la2 ln2 lc2) (.slice fa2 fn2 fc2) (.slice sa2 sn2 sc2)
      have RES := hide (show TxRes acts w (.returned (.tuple #[.agg #[.int .i64 (runV acts).1.next, .slice la2 ln2 lc2, .slice fa2 fn2 fc2, .slice sa2 sn2 sc2], .slice qa qn qc, .int .i64 0])) ((((w5.setCell ⟨w.heap.size, 0, none⟩ (.int .i64 (runV acts).1.next)).setCell ⟨w.heap.size, 1, none⟩ (.slice la2 ln2 lc2)).setCell ⟨w.heap.size, 2, none⟩ (.slice fa2 fn2 fc2)).setCell ⟨w.heap.size, 3, none⟩ (.slice sa2 sn2 sc2)) from ⟨⟨la2, ln2, lc2⟩, ⟨fa2, fn2, fc2⟩, ⟨sa2, sn2, sc2⟩, hs7, ⟨qa, qn, qc⟩, zs, by rw [(unhide RT).1, (unhide RT).2.1], by rw [(unhide RT).2.1]; exact OT.dn (Nat.le_of_lt hw5), N1.down (Nat.le_of_lt hz0), by rw [(unhide RT).2.2]; exact unhide hX, BB⟩)
      clear hw OT N5 N1 BB O7 K5 hS hX hV
      unfold vzC
      simp only
      go_wp2_with fail
      refine bodyPost_ret (v := .tuple #[.agg #[.int .i64 (runV acts).1.next, .slice la2 ln2 lc2, .slice fa2 fn2 fc2, .slice sa2 sn2 sc2], .slice qa qn qc, .int .i64 0]) (by simp [results, Tryz.results5, go_sem, *]) rfl ?_
      exact unhide RES
    have hk2 : k < acts.length := by rw [unhide L]; exact hlt
    have hkn : (k : Int) < (N : Int) := by omega
    obtain ⟨b, off, rfl, d0, d1, d2, d3, d4⟩ := ((unhide R).below bR).2 k hk2
    have hbw : b < wr.heap.size := cell_lt d0
    have RK := hide (runV_take hk2)
    have hsm := (unhide hV).small (by omega)
    have CS := hide (fun (u : World) (hu : Below wr.heap.size wr u) => l06Step_any (runV (acts.take k)).1 acts[k] ⟨la1, ln1, lc1⟩ ⟨fa1, fn1, fc1⟩ ⟨sa1, sn1, sc1⟩ hs1 u ((unhide hS).own.reads.below hu) hsm)
    have HZL := hide (show zs.length ≤ 1000 by
      have e := congrArg List.length (unhide hX)
      rw [List.length_map, runV_len, List.length_take] at e
      omega)
    have XN := hide (show ∀ r : Sl, (zs ++ [(⟨(stepV (runV (acts.take k)).1 acts[k]).2, r⟩ : ZrH)]).map (·.X) = (runV (acts.take (k + 1))).2 from fun r => by rw [unhide RK, List.map_append, unhide hX]; rfl)
    have VN := hide (show (runV (acts.take (k + 1))).1 = (stepV (runV (acts.take k)).1 acts[k]).1 by rw [unhide RK])
    generalize hrn : runV (acts.take (k + 1)) = rn at *
    have HRN := hide hrn
    clear hrn
    generalize (runV (acts.take k)).1 = dk at *
    generalize acts[k] = ac at *
    obtain ⟨xk, xs, xa, xb, xc⟩ := ac
    unfold vzC xv at CS
    simp only at d0 d1 d2 d3 d4 CS
    generalize stepV dk ⟨xk, xs, xa, xb, xc⟩ = pp at *
    have hwrW := (unhide hS).bel.size
    have T00 := hide (show RgT W wr wr.drew pp none none none from ⟨(Below.refl _ _).drew, fun _ _ _ _ _ e => (by cases e), fun _ e => (by cases e), fun _ e => (by cases e)⟩)
    have SK := hide (show ∀ u, Below wr.heap.size wr u → ((fun u => u.cell? ⟨tb, 0, none⟩ = some (.int .i64 dk.next) ∧ u.cell? ⟨tb, 1, none⟩ = some (.slice la1 ln1 lc1) ∧ u.cell? ⟨tb, 2, none⟩ = some (.slice fa1 fn1 fc1) ∧ u.cell? ⟨tb, 3, none⟩ = some (.slice sa1 sn1 sc1) ∧ u.cell? ⟨b, off + k * 5, none⟩ = some (.int .i64 xk) ∧ u.cell? ⟨b, off + k * 5 + 1, none⟩ = some (.int .i64 xs) ∧ u.cell? ⟨b, off + k * 5 + 2, none⟩ = some (.string xa) ∧ u.cell? ⟨b, off + k * 5 + 3, none⟩ = some (.string xb) ∧ u.cell? ⟨b, off + k * 5 + 4, none⟩ = some (.string xc)) u) from fun u hu => ⟨(hu.cell (p := ⟨tb, 0, none⟩) (cell_lt t0)).trans t0, (hu.cell (p := ⟨tb, 1, none⟩) (cell_lt t1)).trans t1, (hu.cell (p := ⟨tb, 2, none⟩) (cell_lt t2)).trans t2, (hu.cell (p := ⟨tb, 3, none⟩) (cell_lt t3)).trans t3, (hu.cell (p := ⟨b, off + k * 5, none⟩) hbw).trans d0, (hu.cell (p := ⟨b, off + k * 5 + 1, none⟩) hbw).trans d1, (hu.cell (p := ⟨b, off + k * 5 + 2, none⟩) hbw).trans d2, (hu.cell (p := ⟨b, off + k * 5 + 3, none⟩) hbw).trans d3, (hu.cell (p := ⟨b, off + k * 5 + 4, none⟩) hbw).trans d4⟩)
    clear d0 d1 d2 d3 d4 t0 t1 t2 t3 kb bR hsm
    go_upto_region 10 with fail
    go_cut [8, 9] (fun v8 v9 wc => ∃ (b8 b9 : Nat) (l' f' s' : Sl) (hs' : List SeH) (r : Sl), v8 = .pointer (some ⟨b8, 0, none⟩) ∧ v9 = .pointer (some ⟨b9, 0, none⟩) ∧ Hid (wc.heap[b8]? = some (.cells #[.int .i64 pp.1.next, .slice l'.a l'.n l'.c, .slice f'.a f'.n f'.c, .slice s'.a s'.n s'.c] 27 (0, 0))) ∧ Hid (wc.heap[b9]? = some (.cells #[.int .i64 pp.2.code, .int .i64 pp.2.time, .string pp.2.val, .slice r.a r.n r.c] 60 (0, 0))) ∧ Hid (VzOwn wc W.heap.size l' f' s' hs' pp.1) ∧ Hid (EOwns wc wr.heap.size (.slice r.a r.n r.c) pp.2.list) ∧ Hid (Below wr.heap.size wr wc) ∧ wr.heap.size ≤ b9)
    case first =>
      refine wp_region_held_drew (S := (fun u => u.cell? ⟨tb, 0, none⟩ = some (.int .i64 dk.next) ∧ u.cell? ⟨tb, 1, none⟩ = some (.slice la1 ln1 lc1) ∧ u.cell? ⟨tb, 2, none⟩ = some (.slice fa1 fn1 fc1) ∧ u.cell? ⟨tb, 3, none⟩ = some (.slice sa1 sn1 sc1) ∧ u.cell? ⟨b, off + k * 5, none⟩ = some (.int .i64 xk) ∧ u.cell? ⟨b, off + k * 5 + 1, none⟩ = some (.int .i64 xs) ∧ u.cell? ⟨b, off + k * 5 + 2, none⟩ = some (.string xa) ∧ u.cell? ⟨b, off + k * 5 + 3, none⟩ = some (.string xb) ∧ u.cell? ⟨b, off + k * 5 + 4, none⟩ = some (.string xc))) (by kernel_rfl) (unhide SK _ (unhide T00).bel) (fun hHeld => ?_)
      have Ts := T00
      clear T00
      generalize wr.drew = us at *
      refine anyH_take 0 29 (v := ?v1) rfl rfl (by kernel_rfl) (by kernel_rfl) (by kernel_rfl) (fun _ _ _ h => h) (by rfl) ?h1 hHeld ?r1
      case h1 => (intro w hSw; (try dsimp only at hSw); go_simp; try (with_reducible rfl))
      simp only [Act.put, List.setIfInBounds_toArray, List.set_cons_zero, List.set_cons_succ]
      refine anyH_take 1 30 (v := ?v2) rfl rfl (by kernel_rfl) (by kernel_rfl) (by kernel_rfl) (fun _ _ _ h => h) (by rfl) ?h2 hHeld ?r2
      case h2 => (intro w hSw; (try dsimp only at hSw); go_simp; try (with_reducible rfl))
      simp only [Act.put, List.setIfInBounds_toArray, List.set_cons_zero, List.set_cons_succ]
      refine anyH_take 2 31 (v := ?v3) rfl rfl (by kernel_rfl) (by kernel_rfl) (by kernel_rfl) (fun _ _ _ h => h) (by rfl) ?h3 hHeld ?r3
      case h3 => (intro w hSw; (try dsimp only at hSw); go_simp; try (with_reducible rfl))
      simp only [Act.put, List.setIfInBounds_toArray, List.set_cons_zero, List.set_cons_succ]
      refine anyH_take 3 32 (v := ?v4) rfl rfl (by kernel_rfl) (by kernel_rfl) (by kernel_rfl) (fun _ _ _ h => h) (by rfl) ?h4 hHeld ?r4
      case h4 => (intro w hSw; (try dsimp only at hSw); go_simp; try (with_reducible rfl))
      simp only [Act.put, List.setIfInBounds_toArray, List.set_cons_zero, List.set_cons_succ]
      refine anyH_take 4 33 (v := ?v5) rfl rfl (by kernel_rfl) (by kernel_rfl) (by kernel_rfl) (fun _ _ _ h => h) (by rfl) ?h5 hHeld ?r5
      case h5 => (intro w hSw; (try dsimp only at hSw); go_simp; try (with_reducible rfl))
      simp only [Act.put, List.setIfInBounds_toArray, List.set_cons_zero, List.set_cons_succ]
      refine wpAnyH_ready (rs := [5, 9, 10]) (by kernel_rfl) (by simp) ?_
      refine AllReadyH.cons rfl (fun K hK => ?_) (AllReadyH.cons rfl (fun K hK => ?_) (AllReadyH.cons rfl (fun K hK => ?_) AllReadyH.nil))
      · go_simp
        refine (unhide CS _ (unhide Ts).bel).mono ?_
        intro e u5 hst
        obtain ⟨l', f', s', hs', r, rfl, hq⟩ := (unhide Ts).call (unhide hS).own hwrW hst
        have T5 := hide hq
        clear hq hst
        refine hK.out _ _ (unhide SK _ (unhide T5).bel) (fun hHeld => ?_)
        clear hK K
        refine anyH_take 6 28 (v := ?v6) rfl rfl (by kernel_rfl) (by kernel_rfl) (by kernel_rfl) (fun _ _ _ h => h) (by rfl) ?h6 hHeld ?r6
        case h6 => (intro w hSw; (try dsimp only at hSw); go_simp; try (with_reducible rfl))
        simp only [Act.put, List.setIfInBounds_toArray, List.set_cons_zero, List.set_cons_succ]
        refine anyH_take 7 35 (v := ?v7) rfl rfl (by kernel_rfl) (by kernel_rfl) (by kernel_rfl) (fun _ _ _ h => h) (by rfl) ?h7 hHeld ?r7
        case h7 => (intro w hSw; (try dsimp only at hSw); go_simp; try (with_reducible rfl))
        simp only [Act.put, List.setIfInBounds_toArray, List.set_cons_zero, List.set_cons_succ]
        refine anyH_take 8 36 (v := ?v8) rfl rfl (by kernel_rfl) (by kernel_rfl) (by kernel_rfl) (fun _ _ _ h => h) (by rfl) ?h8 hHeld ?r8
        case h8 => (intro w hSw; (try dsimp only at hSw); go_simp; try (with_reducible rfl))
        simp only [Act.put, List.setIfInBounds_toArray, List.set_cons_zero, List.set_cons_succ]
        refine wpAnyH_ready (rs := [9, 10]) (by kernel_rfl) (by simp) ?_
        refine AllReadyH.cons rfl (fun K hK => ?_) (AllReadyH.cons rfl (fun K hK => ?_) AllReadyH.nil)
        · have T5_9 := hide (unhide T5).lit8
          go_simp
          generalize u5.alloc (.cells #[.int .i64 0, .slice none 0 0, .slice none 0 0, .slice none 0 0] 27) = u5_9 at *
          generalize u5.heap.size = b8 at *
          refine hK.out _ _ (unhide SK _ (unhide T5_9).bel) (fun hHeld => ?_)
          clear hK K
          refine wpAnyH_ready (rs := [10]) (by kernel_rfl) (by simp) ?_
          refine AllReadyH.cons rfl (fun K hK => ?_) AllReadyH.nil
          have T5_9_10 := hide (unhide T5_9).lit9
          go_simp
          generalize u5_9.alloc (.cells #[.int .i64 0, .int .i64 0, .string ⟨#[]⟩, .slice none 0 0] 60) = u5_9_10 at *
          generalize u5_9.heap.size = b9 at *
          refine hK.out _ _ (unhide SK _ (unhide T5_9_10).bel) (fun hHeld => ?_)
          clear hK K
          refine wpAnyH_ready (rs := [11]) (by kernel_rfl) (by simp) ?_
          refine AllReadyH.cons rfl (fun K hK => ?_) AllReadyH.nil
          obtain ⟨hOw, hEo⟩ := (unhide T5_9_10).r l' f' s' hs' r rfl
          obtain ⟨h8, k8⟩ := (unhide T5_9_10).e8 b8 rfl
          obtain ⟨h9, k9⟩ := (unhide T5_9_10).e9 b9 rfl
          have c0 := (heap_at k8 0).1
          have c1 := (heap_at k8 1).1
          have c2 := (heap_at k8 2).1
          have c3 := (heap_at k8 3).1
          have cf0 := (heap_at k8 0).2
          have cf1 := (heap_at k8 1).2
          have cf2 := (heap_at k8 2).2
          have cf3 := (heap_at k8 3).2
          have h89 : b9 ≠ b8 := fun e => by rw [e, k8] at k9; injection k9 with k9; injection k9 with _ k9 _; exact absurd k9 (by decide)
          have hw : WrB (fun i => i = b8) u5_9_10 ((((u5_9_10.setCell ⟨b8, 0, none⟩ (.int .i64 pp.1.next)).setCell ⟨b8, 1, none⟩ (.slice l'.a l'.n l'.c)).setCell ⟨b8, 2, none⟩ (.slice f'.a f'.n f'.c)).setCell ⟨b8, 3, none⟩ (.slice s'.a s'.n s'.c)) := sv4_wr u5_9_10 b8 (.int .i64 pp.1.next) (.slice l'.a l'.n l'.c) (.slice f'.a f'.n f'.c) (.slice s'.a s'.n s'.c)
          have Q8 := hide (show ((((u5_9_10.setCell ⟨b8, 0, none⟩ (.int .i64 pp.1.next)).setCell ⟨b8, 1, none⟩ (.slice l'.a l'.n l'.c)).setCell ⟨b8, 2, none⟩ (.slice f'.a f'.n f'.c)).setCell ⟨b8, 3, none⟩ (.slice s'.a s'.n s'.c)).heap[b8]? = some (.cells #[.int .i64 pp.1.next, .slice l'.a l'.n l'.c, .slice f'.a f'.n f'.c, .slice s'.a s'.n s'.c] 27 (0, 0)) from sv4_heap k8 (.int .i64 pp.1.next) (.slice l'.a l'.n l'.c) (.slice f'.a f'.n f'.c) (.slice s'.a s'.n s'.c))
          have Q9 := hide (show ((((u5_9_10.setCell ⟨b8, 0, none⟩ (.int .i64 pp.1.next)).setCell ⟨b8, 1, none⟩ (.slice l'.a l'.n l'.c)).setCell ⟨b8, 2, none⟩ (.slice f'.a f'.n f'.c)).setCell ⟨b8, 3, none⟩ (.slice s'.a s'.n s'.c)).heap[b9]? = some (.cells #[.int .i64 0, .int .i64 0, .string ⟨#[]⟩, .slice none 0 0] 60 (0, 0)) from (hw.block b9 (blk_lt k9) h89).trans k9)
          have QO := hide (show VzOwn ((((u5_9_10.setCell ⟨b8, 0, none⟩ (.int .i64 pp.1.next)).setCell ⟨b8, 1, none⟩ (.slice l'.a l'.n l'.c)).setCell ⟨b8, 2, none⟩ (.slice f'.a f'.n f'.c)).setCell ⟨b8, 3, none⟩ (.slice s'.a s'.n s'.c)) W.heap.size l' f' s' hs' pp.1 from hOw.box k8 (by decide) (by decide) (by decide) hw)
          have QE := hide (show EOwns ((((u5_9_10.setCell ⟨b8, 0, none⟩ (.int .i64 pp.1.next)).setCell ⟨b8, 1, none⟩ (.slice l'.a l'.n l'.c)).setCell ⟨b8, 2, none⟩ (.slice f'.a f'.n f'.c)).setCell ⟨b8, 3, none⟩ (.slice s'.a s'.n s'.c)) wr.heap.size (.slice r.a r.n r.c) pp.2.list from own_keep hEo k8 (by decide) hw)
          have QB := hide (show Below wr.heap.size wr ((((u5_9_10.setCell ⟨b8, 0, none⟩ (.int .i64 pp.1.next)).setCell ⟨b8, 1, none⟩ (.slice l'.a l'.n l'.c)).setCell ⟨b8, 2, none⟩ (.slice f'.a f'.n f'.c)).setCell ⟨b8, 3, none⟩ (.slice s'.a s'.n s'.c)) from (unhide T5_9_10).bel.trans (WrB.below hw (fun i e => by rw [e]; exact h8) (unhide T5_9_10).bel.size))
          clear hw hOw hEo k8 k9
          go_simp
          refine hK.out _ _ (unhide SK _ (unhide QB)) (fun hHeld => ?_)
          clear hK K
          clear c0 cf0 c1 cf1 c2 cf2 c3 cf3
          generalize ((((u5_9_10.setCell ⟨b8, 0, none⟩ (.int .i64 pp.1.next)).setCell ⟨b8, 1, none⟩ (.slice l'.a l'.n l'.c)).setCell ⟨b8, 2, none⟩ (.slice f'.a f'.n f'.c)).setCell ⟨b8, 3, none⟩ (.slice s'.a s'.n s'.c)) = ux at *
          refine wpAnyH_ready (rs := [12]) (by kernel_rfl) (by simp) ?_
          refine AllReadyH.cons rfl (fun K hK => ?_) AllReadyH.nil
          have c0 := (heap_at (unhide Q9) 0).1
          have c1 := (heap_at (unhide Q9) 1).1
          have c2 := (heap_at (unhide Q9) 2).1
          have c3 := (heap_at (unhide Q9) 3).1
          have cf0 := (heap_at (unhide Q9) 0).2
          have cf1 := (heap_at (unhide Q9) 1).2
          have cf2 := (heap_at (unhide Q9) 2).2
          have cf3 := (heap_at (unhide Q9) 3).2
          have hw : WrB (fun i => i = b9) ux ((((ux.setCell ⟨b9, 0, none⟩ (.int .i64 pp.2.code)).setCell ⟨b9, 1, none⟩ (.int .i64 pp.2.time)).setCell ⟨b9, 2, none⟩ (.string pp.2.val)).setCell ⟨b9, 3, none⟩ (.slice r.a r.n r.c)) := sv4_wr ux b9 (.int .i64 pp.2.code) (.int .i64 pp.2.time) (.string pp.2.val) (.slice r.a r.n r.c)
          have P9 := hide (show ((((ux.setCell ⟨b9, 0, none⟩ (.int .i64 pp.2.code)).setCell ⟨b9, 1, none⟩ (.int .i64 pp.2.time)).setCell ⟨b9, 2, none⟩ (.string pp.2.val)).setCell ⟨b9, 3, none⟩ (.slice r.a r.n r.c)).heap[b9]? = some (.cells #[.int .i64 pp.2.code, .int .i64 pp.2.time, .string pp.2.val, .slice r.a r.n r.c] 60 (0, 0)) from sv4_heap (unhide Q9) (.int .i64 pp.2.code) (.int .i64 pp.2.time) (.string pp.2.val) (.slice r.a r.n r.c))
          have P8 := hide (show ((((ux.setCell ⟨b9, 0, none⟩ (.int .i64 pp.2.code)).setCell ⟨b9, 1, none⟩ (.int .i64 pp.2.time)).setCell ⟨b9, 2, none⟩ (.string pp.2.val)).setCell ⟨b9, 3, none⟩ (.slice r.a r.n r.c)).heap[b8]? = some (.cells #[.int .i64 pp.1.next, .slice l'.a l'.n l'.c, .slice f'.a f'.n f'.c, .slice s'.a s'.n s'.c] 27 (0, 0)) from (hw.block b8 (blk_lt (unhide Q8)) (fun e => h89 e.symm)).trans (unhide Q8))
          have PO := hide (show VzOwn ((((ux.setCell ⟨b9, 0, none⟩ (.int .i64 pp.2.code)).setCell ⟨b9, 1, none⟩ (.int .i64 pp.2.time)).setCell ⟨b9, 2, none⟩ (.string pp.2.val)).setCell ⟨b9, 3, none⟩ (.slice r.a r.n r.c)) W.heap.size l' f' s' hs' pp.1 from (unhide QO).box (unhide Q9) (by decide) (by decide) (by decide) hw)
          have PE := hide (show EOwns ((((ux.setCell ⟨b9, 0, none⟩ (.int .i64 pp.2.code)).setCell ⟨b9, 1, none⟩ (.int .i64 pp.2.time)).setCell ⟨b9, 2, none⟩ (.string pp.2.val)).setCell ⟨b9, 3, none⟩ (.slice r.a r.n r.c)) wr.heap.size (.slice r.a r.n r.c) pp.2.list from own_keep (unhide QE) (unhide Q9) (by decide) hw)
          have PB := hide (show Below wr.heap.size wr ((((ux.setCell ⟨b9, 0, none⟩ (.int .i64 pp.2.code)).setCell ⟨b9, 1, none⟩ (.int .i64 pp.2.time)).setCell ⟨b9, 2, none⟩ (.string pp.2.val)).setCell ⟨b9, 3, none⟩ (.slice r.a r.n r.c)) from (unhide QB).trans (WrB.below hw (fun i e => by rw [e]; exact h9) (unhide QB).size))
          clear hw
          go_simp
          refine hK.out _ _ (unhide SK _ (unhide PB)) (fun hHeld => ?_)
          clear hK K
          refine wpAnyH_done (by kernel_rfl) ?_ _
          clear hHeld SK
          go_wp2_with fail
          go_meet
          case rel => exact ⟨b8, b9, l', f', s', hs', r, rfl, rfl, P8, P9, PO, PE, PB, h9⟩
        · have T5_10 := hide (unhide T5).lit9
          go_simp
          generalize u5.alloc (.cells #[.int .i64 0, .int .i64 0, .string ⟨#[]⟩, .slice none 0 0] 60) = u5_10 at *
          generalize u5.heap.size = b9 at *
          refine hK.out _ _ (unhide SK _ (unhide T5_10).bel) (fun hHeld => ?_)
          clear hK K
          refine wpAnyH_ready (rs := [9]) (by kernel_rfl) (by simp) ?_
          refine AllReadyH.cons rfl (fun K hK => ?_) AllReadyH.nil
          have T5_10_9 := hide (unhide T5_10).lit8
          go_simp
          generalize u5_10.alloc (.cells #[.int .i64 0, .slice none 0 0, .slice none 0 0, .slice none 0 0] 27) = u5_10_9 at *
          generalize u5_10.heap.size = b8 at *
          refine hK.out _ _ (unhide SK _ (unhide T5_10_9).bel) (fun hHeld => ?_)
          clear hK K
          refine wpAnyH_ready (rs := [11]) (by kernel_rfl) (by simp) ?_
          refine AllReadyH.cons rfl (fun K hK => ?_) AllReadyH.nil
          obtain ⟨hOw, hEo⟩ := (unhide T5_10_9).r l' f' s' hs' r rfl
          obtain ⟨h8, k8⟩ := (unhide T5_10_9).e8 b8 rfl
          obtain ⟨h9, k9⟩ := (unhide T5_10_9).e9 b9 rfl
          have c0 := (heap_at k8 0).1
          have c1 := (heap_at k8 1).1
          have c2 := (heap_at k8 2).1
          have c3 := (heap_at k8 3).1
          have cf0 := (heap_at k8 0).2
          have cf1 := (heap_at k8 1).2
          have cf2 := (heap_at k8 2).2
          have cf3 := (heap_at k8 3).2
          have h89 : b9 ≠ b8 := fun e => by rw [e, k8] at k9; injection k9 with k9; injection k9 with _ k9 _; exact absurd k9 (by decide)
          have hw : WrB (fun i => i = b8) u5_10_9 ((((u5_10_9.setCell ⟨b8, 0, none⟩ (.int .i64 pp.1.next)).setCell ⟨b8, 1, none⟩ (.slice l'.a l'.n l'.c)).setCell ⟨b8, 2, none⟩ (.slice f'.a f'.n f'.c)).setCell ⟨b8, 3, none⟩ (.slice s'.a s'.n s'.c)) := sv4_wr u5_10_9 b8 (.int .i64 pp.1.next) (.slice l'.a l'.n l'.c) (.slice f'.a f'.n f'.c) (.slice s'.a s'.n s'.c)
          have Q8 := hide (show ((((u5_10_9.setCell ⟨b8, 0, none⟩ (.int .i64 pp.1.next)).setCell ⟨b8, 1, none⟩ (.slice l'.a l'.n l'.c)).setCell ⟨b8, 2, none⟩ (.slice f'.a f'.n f'.c)).setCell ⟨b8, 3, none⟩ (.slice s'.a s'.n s'.c)).heap[b8]? = some (.cells #[.int .i64 pp.1.next, .slice l'.a l'.n l'.c, .slice f'.a f'.n f'.c, .slice s'.a s'.n s'.c] 27 (0, 0)) from sv4_heap k8 (.int .i64 pp.1.next) (.slice l'.a l'.n l'.c) (.slice f'.a f'.n f'.c) (.slice s'.a s'.n s'.c))
          have Q9 := hide (show ((((u5_10_9.setCell ⟨b8, 0, none⟩ (.int .i64 pp.1.next)).setCell ⟨b8, 1, none⟩ (.slice l'.a l'.n l'.c)).setCell ⟨b8, 2, none⟩ (.slice f'.a f'.n f'.c)).setCell ⟨b8, 3, none⟩ (.slice s'.a s'.n s'.c)).heap[b9]? = some (.cells #[.int .i64 0, .int .i64 0, .string ⟨#[]⟩, .slice none 0 0] 60 (0, 0)) from (hw.block b9 (blk_lt k9) h89).trans k9)
          have QO := hide (show VzOwn ((((u5_10_9.setCell ⟨b8, 0, none⟩ (.int .i64 pp.1.next)).setCell ⟨b8, 1, none⟩ (.slice l'.a l'.n l'.c)).setCell ⟨b8, 2, none⟩ (.slice f'.a f'.n f'.c)).setCell ⟨b8, 3, none⟩ (.slice s'.a s'.n s'.c)) W.heap.size l' f' s' hs' pp.1 from hOw.box k8 (by decide) (by decide) (by decide) hw)
          have QE := hide (show EOwns ((((u5_10_9.setCell ⟨b8, 0, none⟩ (.int .i64 pp.1.next)).setCell ⟨b8, 1, none⟩ (.slice l'.a l'.n l'.c)).setCell ⟨b8, 2, none⟩ (.slice f'.a f'.n f'.c)).setCell ⟨b8, 3, none⟩ (.slice s'.a s'.n s'.c)) wr.heap.size (.slice r.a r.n r.c) pp.2.list from own_keep hEo k8 (by decide) hw)
          have QB := hide (show Below wr.heap.size wr ((((u5_10_9.setCell ⟨b8, 0, none⟩ (.int .i64 pp.1.next)).setCell ⟨b8, 1, none⟩ (.slice l'.a l'.n l'.c)).setCell ⟨b8, 2, none⟩ (.slice f'.a f'.n f'.c)).setCell ⟨b8, 3, none⟩ (.slice s'.a s'.n s'.c)) from (unhide T5_10_9).bel.trans (WrB.below hw (fun i e => by rw [e]; exact h8) (unhide T5_10_9).bel.size))
          clear hw hOw hEo k8 k9
          go_simp
          refine hK.out _ _ (unhide SK _ (unhide QB)) (fun hHeld => ?_)
          clear hK K
          clear c0 cf0 c1 cf1 c2 cf2 c3 cf3
          generalize ((((u5_10_9.setCell ⟨b8, 0, none⟩ (.int .i64 pp.1.next)).setCell ⟨b8, 1, none⟩ (.slice l'.a l'.n l'.c)).setCell ⟨b8, 2, none⟩ (.slice f'.a f'.n f'.c)).setCell ⟨b8, 3, none⟩ (.slice s'.a s'.n s'.c)) = ux at *
          refine wpAnyH_ready (rs := [12]) (by kernel_rfl) (by simp) ?_
          refine AllReadyH.cons rfl (fun K hK => ?_) AllReadyH.nil
          have c0 := (heap_at (unhide Q9) 0).1
          have c1 := (heap_at (unhide Q9) 1).1
          have c2 := (heap_at (unhide Q9) 2).1
          have c3 := (heap_at (unhide Q9) 3).1
          have cf0 := (heap_at (unhide Q9) 0).2
          have cf1 := (heap_at (unhide Q9) 1).2
          have cf2 := (heap_at (unhide Q9) 2).2
          have cf3 := (heap_at (unhide Q9) 3).2
          have hw : WrB (fun i => i = b9) ux ((((ux.setCell ⟨b9, 0, none⟩ (.int .i64 pp.2.code)).setCell ⟨b9, 1, none⟩ (.int .i64 pp.2.time)).setCell ⟨b9, 2, none⟩ (.string pp.2.val)).setCell ⟨b9, 3, none⟩ (.slice r.a r.n r.c)) := sv4_wr ux b9 (.int .i64 pp.2.code) (.int .i64 pp.2.time) (.string pp.2.val) (.slice r.a r.n r.c)
          have P9 := hide (show ((((ux.setCell ⟨b9, 0, none⟩ (.int .i64 pp.2.code)).setCell ⟨b9, 1, none⟩ (.int .i64 pp.2.time)).setCell ⟨b9, 2, none⟩ (.string pp.2.val)).setCell ⟨b9, 3, none⟩ (.slice r.a r.n r.c)).heap[b9]? = some (.cells #[.int .i64 pp.2.code, .int .i64 pp.2.time, .string pp.2.val, .slice r.a r.n r.c] 60 (0, 0)) from sv4_heap (unhide Q9) (.int .i64 pp.2.code) (.int .i64 pp.2.time) (.string pp.2.val) (.slice r.a r.n r.c))
          have P8 := hide (show ((((ux.setCell ⟨b9, 0, none⟩ (.int .i64 pp.2.code)).setCell ⟨b9, 1, none⟩ (.int .i64 pp.2.time)).setCell ⟨b9, 2, none⟩ (.string pp.2.val)).setCell ⟨b9, 3, none⟩ (.slice r.a r.n r.c)).heap[b8]? = some (.cells #[.int .i64 pp.1.next, .slice l'.a l'.n l'.c, .slice f'.a f'.n f'.c, .slice s'.a s'.n s'.c] 27 (0, 0)) from (hw.block b8 (blk_lt (unhide Q8)) (fun e => h89 e.symm)).trans (unhide Q8))
          have PO := hide (show VzOwn ((((ux.setCell ⟨b9, 0, none⟩ (.int .i64 pp.2.code)).setCell ⟨b9, 1, none⟩ (.int .i64 pp.2.time)).setCell ⟨b9, 2, none⟩ (.string pp.2.val)).setCell ⟨b9, 3, none⟩ (.slice r.a r.n r.c)) W.heap.size l' f' s' hs' pp.1 from (unhide QO).box (unhide Q9) (by decide) (by decide) (by decide) hw)
          have PE := hide (show EOwns ((((ux.setCell ⟨b9, 0, none⟩ (.int .i64 pp.2.code)).setCell ⟨b9, 1, none⟩ (.int .i64 pp.2.time)).setCell ⟨b9, 2, none⟩ (.string pp.2.val)).setCell ⟨b9, 3, none⟩ (.slice r.a r.n r.c)) wr.heap.size (.slice r.a r.n r.c) pp.2.list from own_keep (unhide QE) (unhide Q9) (by decide) hw)
          have PB := hide (show Below wr.heap.size wr ((((ux.setCell ⟨b9, 0, none⟩ (.int .i64 pp.2.code)).setCell ⟨b9, 1, none⟩ (.int .i64 pp.2.time)).setCell ⟨b9, 2, none⟩ (.string pp.2.val)).setCell ⟨b9, 3, none⟩ (.slice r.a r.n r.c)) from (unhide QB).trans (WrB.below hw (fun i e => by rw [e]; exact h9) (unhide QB).size))
          clear hw
          go_simp
          refine hK.out _ _ (unhide SK _ (unhide PB)) (fun hHeld => ?_)
          clear hK K
          refine wpAnyH_done (by kernel_rfl) ?_ _
          clear hHeld SK
          go_wp2_with fail
          go_meet
          case rel => exact ⟨b8, b9, l', f', s', hs', r, rfl, rfl, P8, P9, PO, PE, PB, h9⟩
      · have T9 := hide (unhide Ts).lit8
        go_simp
        generalize us.alloc (.cells #[.int .i64 0, .slice none 0 0, .slice none 0 0, .slice none 0 0] 27) = u9 at *
        generalize us.heap.size = b8 at *
        refine hK.out _ _ (unhide SK _ (unhide T9).bel) (fun hHeld => ?_)
        clear hK K
        refine wpAnyH_ready (rs := [5, 10]) (by kernel_rfl) (by simp) ?_
        refine AllReadyH.cons rfl (fun K hK => ?_) (AllReadyH.cons rfl (fun K hK => ?_) AllReadyH.nil)
        · go_simp
          refine (unhide CS _ (unhide T9).bel).mono ?_
          intro e u9_5 hst
          obtain ⟨l', f', s', hs', r, rfl, hq⟩ := (unhide T9).call (unhide hS).own hwrW hst
          have T9_5 := hide hq
          clear hq hst
          refine hK.out _ _ (unhide SK _ (unhide T9_5).bel) (fun hHeld => ?_)
          clear hK K
          refine anyH_take 6 28 (v := ?v9) rfl rfl (by kernel_rfl) (by kernel_rfl) (by kernel_rfl) (fun _ _ _ h => h) (by rfl) ?h9 hHeld ?r9
          case h9 => (intro w hSw; (try dsimp only at hSw); go_simp; try (with_reducible rfl))
          simp only [Act.put, List.setIfInBounds_toArray, List.set_cons_zero, List.set_cons_succ]
          refine anyH_take 7 35 (v := ?v10) rfl rfl (by kernel_rfl) (by kernel_rfl) (by kernel_rfl) (fun _ _ _ h => h) (by rfl) ?h10 hHeld ?r10
          case h10 => (intro w hSw; (try dsimp only at hSw); go_simp; try (with_reducible rfl))
          simp only [Act.put, List.setIfInBounds_toArray, List.set_cons_zero, List.set_cons_succ]
          refine anyH_take 8 36 (v := ?v11) rfl rfl (by kernel_rfl) (by kernel_rfl) (by kernel_rfl) (fun _ _ _ h => h) (by rfl) ?h11 hHeld ?r11
          case h11 => (intro w hSw; (try dsimp only at hSw); go_simp; try (with_reducible rfl))
          simp only [Act.put, List.setIfInBounds_toArray, List.set_cons_zero, List.set_cons_succ]
          refine wpAnyH_ready (rs := [10]) (by kernel_rfl) (by simp) ?_
          refine AllReadyH.cons rfl (fun K hK => ?_) AllReadyH.nil
          have T9_5_10 := hide (unhide T9_5).lit9
          go_simp
          generalize u9_5.alloc (.cells #[.int .i64 0, .int .i64 0, .string ⟨#[]⟩, .slice none 0 0] 60) = u9_5_10 at *
          generalize u9_5.heap.size = b9 at *
          refine hK.out _ _ (unhide SK _ (unhide T9_5_10).bel) (fun hHeld => ?_)
          clear hK K
          refine wpAnyH_ready (rs := [11]) (by kernel_rfl) (by simp) ?_
          refine AllReadyH.cons rfl (fun K hK => ?_) AllReadyH.nil
          obtain ⟨hOw, hEo⟩ := (unhide T9_5_10).r l' f' s' hs' r rfl
          obtain ⟨h8, k8⟩ := (unhide T9_5_10).e8 b8 rfl
          obtain ⟨h9, k9⟩ := (unhide T9_5_10).e9 b9 rfl
          have c0 := (heap_at k8 0).1
          have c1 := (heap_at k8 1).1
          have c2 := (heap_at k8 2).1
          have c3 := (heap_at k8 3).1
          have cf0 := (heap_at k8 0).2
          have cf1 := (heap_at k8 1).2
          have cf2 := (heap_at k8 2).2
          have cf3 := (heap_at k8 3).2
          have h89 : b9 ≠ b8 := fun e => by rw [e, k8] at k9; injection k9 with k9; injection k9 with _ k9 _; exact absurd k9 (by decide)
          have hw : WrB (fun i => i = b8) u9_5_10 ((((u9_5_10.setCell ⟨b8, 0, none⟩ (.int .i64 pp.1.next)).setCell ⟨b8, 1, none⟩ (.slice l'.a l'.n l'.c)).setCell ⟨b8, 2, none⟩ (.slice f'.a f'.n f'.c)).setCell ⟨b8, 3, none⟩ (.slice s'.a s'.n s'.c)) := sv4_wr u9_5_10 b8 (.int .i64 pp.1.next) (.slice l'.a l'.n l'.c) (.slice f'.a f'.n f'.c) (.slice s'.a s'.n s'.c)
          have Q8 := hide (show ((((u9_5_10.setCell ⟨b8, 0, none⟩ (.int .i64 pp.1.next)).setCell ⟨b8, 1, none⟩ (.slice l'.a l'.n l'.c)).setCell ⟨b8, 2, none⟩ (.slice f'.a f'.n f'.c)).setCell ⟨b8, 3, none⟩ (.slice s'.a s'.n s'.c)).heap[b8]? = some (.cells #[.int .i64 pp.1.next, .slice l'.a l'.n l'.c, .slice f'.a f'.n f'.c, .slice s'.a s'.n s'.c] 27 (0, 0)) from sv4_heap k8 (.int .i64 pp.1.next) (.slice l'.a l'.n l'.c) (.slice f'.a f'.n f'.c) (.slice s'.a s'.n s'.c))
          have Q9 := hide (show ((((u9_5_10.setCell ⟨b8, 0, none⟩ (.int .i64 pp.1.next)).setCell ⟨b8, 1, none⟩ (.slice l'.a l'.n l'.c)).setCell ⟨b8, 2, none⟩ (.slice f'.a f'.n f'.c)).setCell ⟨b8, 3, none⟩ (.slice s'.a s'.n s'.c)).heap[b9]? = some (.cells #[.int .i64 0, .int .i64 0, .string ⟨#[]⟩, .slice none 0 0] 60 (0, 0)) from (hw.block b9 (blk_lt k9) h89).trans k9)
          have QO := hide (show VzOwn ((((u9_5_10.setCell ⟨b8, 0, none⟩ (.int .i64 pp.1.next)).setCell ⟨b8, 1, none⟩ (.slice l'.a l'.n l'.c)).setCell ⟨b8, 2, none⟩ (.slice f'.a f'.n f'.c)).setCell ⟨b8, 3, none⟩ (.slice s'.a s'.n s'.c)) W.heap.size l' f' s' hs' pp.1 from hOw.box k8 (by decide) (by decide) (by decide) hw)
          have QE := hide (show EOwns ((((u9_5_10.setCell ⟨b8, 0, none⟩ (.int .i64 pp.1.next)).setCell ⟨b8, 1, none⟩ (.slice l'.a l'.n l'.c)).setCell ⟨b8, 2, none⟩ (.slice f'.a f'.n f'.c)).setCell ⟨b8, 3, none⟩ (.slice s'.a s'.n s'.c)) wr.heap.size (.slice r.a r.n r.c) pp.2.list from own_keep hEo k8 (by decide) hw)
          have QB := hide (show Below wr.heap.size wr ((((u9_5_10.setCell ⟨b8, 0, none⟩ (.int .i64 pp.1.next)).setCell ⟨b8, 1, none⟩ (.slice l'.a l'.n l'.c)).setCell ⟨b8, 2, none⟩ (.slice f'.a f'.n f'.c)).setCell ⟨b8, 3, none⟩ (.slice s'.a s'.n s'.c)) from (unhide T9_5_10).bel.trans (WrB.below hw (fun i e => by rw [e]; exact h8) (unhide T9_5_10).bel.size))
          clear hw hOw hEo k8 k9
          go_simp
          refine hK.out _ _ (unhide SK _ (unhide QB)) (fun hHeld => ?_)
          clear hK K
          clear c0 cf0 c1 cf1 c2 cf2 c3 cf3
          generalize ((((u9_5_10.setCell ⟨b8, 0, none⟩ (.int .i64 pp.1.next)).setCell ⟨b8, 1, none⟩ (.slice l'.a l'.n l'.c)).setCell ⟨b8, 2, none⟩ (.slice f'.a f'.n f'.c)).setCell ⟨b8, 3, none⟩ (.slice s'.a s'.n s'.c)) = ux at *
          refine wpAnyH_ready (rs := [12]) (by kernel_rfl) (by simp) ?_
          refine AllReadyH.cons rfl (fun K hK => ?_) AllReadyH.nil
          have c0 := (heap_at (unhide Q9) 0).1
          have c1 := (heap_at (unhide Q9) 1).1
          have c2 := (heap_at (unhide Q9) 2).1
          have c3 := (heap_at (unhide Q9) 3).1
          have cf0 := (heap_at (unhide Q9) 0).2
          have cf1 := (heap_at (unhide Q9) 1).2
          have cf2 := (heap_at (unhide Q9) 2).2
          have cf3 := (heap_at (unhide Q9) 3).2
          have hw : WrB (fun i => i = b9) ux ((((ux.setCell ⟨b9, 0, none⟩ (.int .i64 pp.2.code)).setCell ⟨b9, 1, none⟩ (.int .i64 pp.2.time)).setCell ⟨b9, 2, none⟩ (.string pp.2.val)).setCell ⟨b9, 3, none⟩ (.slice r.a r.n r.c)) := sv4_wr ux b9 (.int .i64 pp.2.code) (.int .i64 pp.2.time) (.string pp.2.val) (.slice r.a r.n r.c)
          have P9 := hide (show ((((ux.setCell ⟨b9, 0, none⟩ (.int .i64 pp.2.code)).setCell ⟨b9, 1, none⟩ (.int .i64 pp.2.time)).setCell ⟨b9, 2, none⟩ (.string pp.2.val)).setCell ⟨b9, 3, none⟩ (.slice r.a r.n r.c)).heap[b9]? = some (.cells #[.int .i64 pp.2.code, .int .i64 pp.2.time, .string pp.2.val, .slice r.a r.n r.c] 60 (0, 0)) from sv4_heap (unhide Q9) (.int .i64 pp.2.code) (.int .i64 pp.2.time) (.string pp.2.val) (.slice r.a r.n r.c))
          have P8 := hide (show ((((ux.setCell ⟨b9, 0, none⟩ (.int .i64 pp.2.code)).setCell ⟨b9, 1, none⟩ (.int .i64 pp.2.time)).setCell ⟨b9, 2, none⟩ (.string pp.2.val)).setCell ⟨b9, 3, none⟩ (.slice r.a r.n r.c)).heap[b8]? = some (.cells #[.int .i64 pp.1.next, .slice l'.a l'.n l'.c, .slice f'.a f'.n f'.c, .slice s'.a s'.n s'.c] 27 (0, 0)) from (hw.block b8 (blk_lt (unhide Q8)) (fun e => h89 e.symm)).trans (unhide Q8))
          have PO := hide (show VzOwn ((((ux.setCell ⟨b9, 0, none⟩ (.int .i64 pp.2.code)).setCell ⟨b9, 1, none⟩ (.int .i64 pp.2.time)).setCell ⟨b9, 2, none⟩ (.string pp.2.val)).setCell ⟨b9, 3, none⟩ (.slice r.a r.n r.c)) W.heap.size l' f' s' hs' pp.1 from (unhide QO).box (unhide Q9) (by decide) (by decide) (by decide) hw)
          have PE := hide (show EOwns ((((ux.setCell ⟨b9, 0, none⟩ (.int .i64 pp.2.code)).setCell ⟨b9, 1, none⟩ (.int .i64 pp.2.time)).setCell ⟨b9, 2, none⟩ (.string pp.2.val)).setCell ⟨b9, 3, none⟩ (.slice r.a r.n r.c)) wr.heap.size (.slice r.a r.n r.c) pp.2.list from own_keep (unhide QE) (unhide Q9) (by decide) hw)
          have PB := hide (show Below wr.heap.size wr ((((ux.setCell ⟨b9, 0, none⟩ (.int .i64 pp.2.code)).setCell ⟨b9, 1, none⟩ (.int .i64 pp.2.time)).setCell ⟨b9, 2, none⟩ (.string pp.2.val)).setCell ⟨b9, 3, none⟩ (.slice r.a r.n r.c)) from (unhide QB).trans (WrB.below hw (fun i e => by rw [e]; exact h9) (unhide QB).size))
          clear hw
          go_simp
          refine hK.out _ _ (unhide SK _ (unhide PB)) (fun hHeld => ?_)
          clear hK K
          refine wpAnyH_done (by kernel_rfl) ?_ _
          clear hHeld SK
          go_wp2_with fail
          go_meet
          case rel => exact ⟨b8, b9, l', f', s', hs', r, rfl, rfl, P8, P9, PO, PE, PB, h9⟩
        · have T9_10 := hide (unhide T9).lit9
          go_simp
          generalize u9.alloc (.cells #[.int .i64 0, .int .i64 0, .string ⟨#[]⟩, .slice none 0 0] 60) = u9_10 at *
          generalize u9.heap.size = b9 at *
          refine hK.out _ _ (unhide SK _ (unhide T9_10).bel) (fun hHeld => ?_)
          clear hK K
          refine wpAnyH_ready (rs := [5]) (by kernel_rfl) (by simp) ?_
          refine AllReadyH.cons rfl (fun K hK => ?_) AllReadyH.nil
          go_simp
          refine (unhide CS _ (unhide T9_10).bel).mono ?_
          intro e u9_10_5 hst
          obtain ⟨l', f', s', hs', r, rfl, hq⟩ := (unhide T9_10).call (unhide hS).own hwrW hst
          have T9_10_5 := hide hq
          clear hq hst
          refine hK.out _ _ (unhide SK _ (unhide T9_10_5).bel) (fun hHeld => ?_)
          clear hK K
          refine anyH_take 6 28 (v := ?v12) rfl rfl (by kernel_rfl) (by kernel_rfl) (by kernel_rfl) (fun _ _ _ h => h) (by rfl) ?h12 hHeld ?r12
          case h12 => (intro w hSw; (try dsimp only at hSw); go_simp; try (with_reducible rfl))
          simp only [Act.put, List.setIfInBounds_toArray, List.set_cons_zero, List.set_cons_succ]
          refine anyH_take 7 35 (v := ?v13) rfl rfl (by kernel_rfl) (by kernel_rfl) (by kernel_rfl) (fun _ _ _ h => h) (by rfl) ?h13 hHeld ?r13
          case h13 => (intro w hSw; (try dsimp only at hSw); go_simp; try (with_reducible rfl))
          simp only [Act.put, List.setIfInBounds_toArray, List.set_cons_zero, List.set_cons_succ]
          refine anyH_take 8 36 (v := ?v14) rfl rfl (by kernel_rfl) (by kernel_rfl) (by kernel_rfl) (fun _ _ _ h => h) (by rfl) ?h14 hHeld ?r14
          case h14 => (intro w hSw; (try dsimp only at hSw); go_simp; try (with_reducible rfl))
          simp only [Act.put, List.setIfInBounds_toArray, List.set_cons_zero, List.set_cons_succ]
          refine wpAnyH_ready (rs := [11]) (by kernel_rfl) (by simp) ?_
          refine AllReadyH.cons rfl (fun K hK => ?_) AllReadyH.nil
          obtain ⟨hOw, hEo⟩ := (unhide T9_10_5).r l' f' s' hs' r rfl
          obtain ⟨h8, k8⟩ := (unhide T9_10_5).e8 b8 rfl
          obtain ⟨h9, k9⟩ := (unhide T9_10_5).e9 b9 rfl
          have c0 := (heap_at k8 0).1
          have c1 := (heap_at k8 1).1
          have c2 := (heap_at k8 2).1
          have c3 := (heap_at k8 3).1
          have cf0 := (heap_at k8 0).2
          have cf1 := (heap_at k8 1).2
          have cf2 := (heap_at k8 2).2
          have cf3 := (heap_at k8 3).2
          have h89 : b9 ≠ b8 := fun e => by rw [e, k8] at k9; injection k9 with k9; injection k9 with _ k9 _; exact absurd k9 (by decide)
          have hw : WrB (fun i => i = b8) u9_10_5 ((((u9_10_5.setCell ⟨b8, 0, none⟩ (.int .i64 pp.1.next)).setCell ⟨b8, 1, none⟩ (.slice l'.a l'.n l'.c)).setCell ⟨b8, 2, none⟩ (.slice f'.a f'.n f'.c)).setCell ⟨b8, 3, none⟩ (.slice s'.a s'.n s'.c)) := sv4_wr u9_10_5 b8 (.int .i64 pp.1.next) (.slice l'.a l'.n l'.c) (.slice f'.a f'.n f'.c) (.slice s'.a s'.n s'.c)
          have Q8 := hide (show ((((u9_10_5.setCell ⟨b8, 0, none⟩ (.int .i64 pp.1.next)).setCell ⟨b8, 1, none⟩ (.slice l'.a l'.n l'.c)).setCell ⟨b8, 2, none⟩ (.slice f'.a f'.n f'.c)).setCell ⟨b8, 3, none⟩ (.slice s'.a s'.n s'.c)).heap[b8]? = some (.cells #[.int .i64 pp.1.next, .slice l'.a l'.n l'.c, .slice f'.a f'.n f'.c, .slice s'.a s'.n s'.c] 27 (0, 0)) from sv4_heap k8 (.int .i64 pp.1.next) (.slice l'.a l'.n l'.c) (.slice f'.a f'.n f'.c) (.slice s'.a s'.n s'.c))
          have Q9 := hide (show ((((u9_10_5.setCell ⟨b8, 0, none⟩ (.int .i64 pp.1.next)).setCell ⟨b8, 1, none⟩ (.slice l'.a l'.n l'.c)).setCell ⟨b8, 2, none⟩ (.slice f'.a f'.n f'.c)).setCell ⟨b8, 3, none⟩ (.slice s'.a s'.n s'.c)).heap[b9]? = some (.cells #[.int .i64 0, .int .i64 0, .string ⟨#[]⟩, .slice none 0 0] 60 (0, 0)) from (hw.block b9 (blk_lt k9) h89).trans k9)
          have QO := hide (show VzOwn ((((u9_10_5.setCell ⟨b8, 0, none⟩ (.int .i64 pp.1.next)).setCell ⟨b8, 1, none⟩ (.slice l'.a l'.n l'.c)).setCell ⟨b8, 2, none⟩ (.slice f'.a f'.n f'.c)).setCell ⟨b8, 3, none⟩ (.slice s'.a s'.n s'.c)) W.heap.size l' f' s' hs' pp.1 from hOw.box k8 (by decide) (by decide) (by decide) hw)
          have QE := hide (show EOwns ((((u9_10_5.setCell ⟨b8, 0, none⟩ (.int .i64 pp.1.next)).setCell ⟨b8, 1, none⟩ (.slice l'.a l'.n l'.c)).setCell ⟨b8, 2, none⟩ (.slice f'.a f'.n f'.c)).setCell ⟨b8, 3, none⟩ (.slice s'.a s'.n s'.c)) wr.heap.size (.slice r.a r.n r.c) pp.2.list from own_keep hEo k8 (by decide) hw)
          have QB := hide (show Below wr.heap.size wr ((((u9_10_5.setCell ⟨b8, 0, none⟩ (.int .i64 pp.1.next)).setCell ⟨b8, 1, none⟩ (.slice l'.a l'.n l'.c)).setCell ⟨b8, 2, none⟩ (.slice f'.a f'.n f'.c)).setCell ⟨b8, 3, none⟩ (.slice s'.a s'.n s'.c)) from (unhide T9_10_5).bel.trans (WrB.below hw (fun i e => by rw [e]; exact h8) (unhide T9_10_5).bel.size))
          clear hw hOw hEo k8 k9
          go_simp
          refine hK.out _ _ (unhide SK _ (unhide QB)) (fun hHeld => ?_)
          clear hK K
          clear c0 cf0 c1 cf1 c2 cf2 c3 cf3
          generalize ((((u9_10_5.setCell ⟨b8, 0, none⟩ (.int .i64 pp.1.next)).setCell ⟨b8, 1, none⟩ (.slice l'.a l'.n l'.c)).setCell ⟨b8, 2, none⟩ (.slice f'.a f'.n f'.c)).setCell ⟨b8, 3, none⟩ (.slice s'.a s'.n s'.c)) = ux at *
          refine wpAnyH_ready (rs := [12]) (by kernel_rfl) (by simp) ?_
          refine AllReadyH.cons rfl (fun K hK => ?_) AllReadyH.nil
          have c0 := (heap_at (unhide Q9) 0).1
          have c1 := (heap_at (unhide Q9) 1).1
          have c2 := (heap_at (unhide Q9) 2).1
          have c3 := (heap_at (unhide Q9) 3).1
          have cf0 := (heap_at (unhide Q9) 0).2
          have cf1 := (heap_at (unhide Q9) 1).2
          have cf2 := (heap_at (unhide Q9) 2).2
          have cf3 := (heap_at (unhide Q9) 3).2
          have hw : WrB (fun i => i = b9) ux ((((ux.setCell ⟨b9, 0, none⟩ (.int .i64 pp.2.code)).setCell ⟨b9, 1, none⟩ (.int .i64 pp.2.time)).setCell ⟨b9, 2, none⟩ (.string pp.2.val)).setCell ⟨b9, 3, none⟩ (.slice r.a r.n r.c)) := sv4_wr ux b9 (.int .i64 pp.2.code) (.int .i64 pp.2.time) (.string pp.2.val) (.slice r.a r.n r.c)
          have P9 := hide (show ((((ux.setCell ⟨b9, 0, none⟩ (.int .i64 pp.2.code)).setCell ⟨b9, 1, none⟩ (.int .i64 pp.2.time)).setCell ⟨b9, 2, none⟩ (.string pp.2.val)).setCell ⟨b9, 3, none⟩ (.slice r.a r.n r.c)).heap[b9]? = some (.cells #[.int .i64 pp.2.code, .int .i64 pp.2.time, .string pp.2.val, .slice r.a r.n r.c] 60 (0, 0)) from sv4_heap (unhide Q9) (.int .i64 pp.2.code) (.int .i64 pp.2.time) (.string pp.2.val) (.slice r.a r.n r.c))
          have P8 := hide (show ((((ux.setCell ⟨b9, 0, none⟩ (.int .i64 pp.2.code)).setCell ⟨b9, 1, none⟩ (.int .i64 pp.2.time)).setCell ⟨b9, 2, none⟩ (.string pp.2.val)).setCell ⟨b9, 3, none⟩ (.slice r.a r.n r.c)).heap[b8]? = some (.cells #[.int .i64 pp.1.next, .slice l'.a l'.n l'.c, .slice f'.a f'.n f'.c, .slice s'.a s'.n s'.c] 27 (0, 0)) from (hw.block b8 (blk_lt (unhide Q8)) (fun e => h89 e.symm)).trans (unhide Q8))
          have PO := hide (show VzOwn ((((ux.setCell ⟨b9, 0, none⟩ (.int .i64 pp.2.code)).setCell ⟨b9, 1, none⟩ (.int .i64 pp.2.time)).setCell ⟨b9, 2, none⟩ (.string pp.2.val)).setCell ⟨b9, 3, none⟩ (.slice r.a r.n r.c)) W.heap.size l' f' s' hs' pp.1 from (unhide QO).box (unhide Q9) (by decide) (by decide) (by decide) hw)
          have PE := hide (show EOwns ((((ux.setCell ⟨b9, 0, none⟩ (.int .i64 pp.2.code)).setCell ⟨b9, 1, none⟩ (.int .i64 pp.2.time)).setCell ⟨b9, 2, none⟩ (.string pp.2.val)).setCell ⟨b9, 3, none⟩ (.slice r.a r.n r.c)) wr.heap.size (.slice r.a r.n r.c) pp.2.list from own_keep (unhide QE) (unhide Q9) (by decide) hw)
          have PB := hide (show Below wr.heap.size wr ((((ux.setCell ⟨b9, 0, none⟩ (.int .i64 pp.2.code)).setCell ⟨b9, 1, none⟩ (.int .i64 pp.2.time)).setCell ⟨b9, 2, none⟩ (.string pp.2.val)).setCell ⟨b9, 3, none⟩ (.slice r.a r.n r.c)) from (unhide QB).trans (WrB.below hw (fun i e => by rw [e]; exact h9) (unhide QB).size))
          clear hw
          go_simp
          refine hK.out _ _ (unhide SK _ (unhide PB)) (fun hHeld => ?_)
          clear hK K
          refine wpAnyH_done (by kernel_rfl) ?_ _
          clear hHeld SK
          go_wp2_with fail
          go_meet
          case rel => exact ⟨b8, b9, l', f', s', hs', r, rfl, rfl, P8, P9, PO, PE, PB, h9⟩
      · have T10 := hide (unhide Ts).lit9
        go_simp
        generalize us.alloc (.cells #[.int .i64 0, .int .i64 0, .string ⟨#[]⟩, .slice none 0 0] 60) = u10 at *
        generalize us.heap.size = b9 at *
        refine hK.out _ _ (unhide SK _ (unhide T10).bel) (fun hHeld => ?_)
        clear hK K
        refine wpAnyH_ready (rs := [5, 9]) (by kernel_rfl) (by simp) ?_
        refine AllReadyH.cons rfl (fun K hK => ?_) (AllReadyH.cons rfl (fun K hK => ?_) AllReadyH.nil)
        · go_simp
          refine (unhide CS _ (unhide T10).bel).mono ?_
          intro e u10_5 hst
          obtain ⟨l', f', s', hs', r, rfl, hq⟩ := (unhide T10).call (unhide hS).own hwrW hst
          have T10_5 := hide hq
          clear hq hst
          refine hK.out _ _ (unhide SK _ (unhide T10_5).bel) (fun hHeld => ?_)
          clear hK K
          refine anyH_take 6 28 (v := ?v15) rfl rfl (by kernel_rfl) (by kernel_rfl) (by kernel_rfl) (fun _ _ _ h => h) (by rfl) ?h15 hHeld ?r15
          case h15 => (intro w hSw; (try dsimp only at hSw); go_simp; try (with_reducible rfl))
          simp only [Act.put, List.setIfInBounds_toArray, List.set_cons_zero, List.set_cons_succ]
          refine anyH_take 7 35 (v := ?v16) rfl rfl (by kernel_rfl) (by kernel_rfl) (by kernel_rfl) (fun _ _ _ h => h) (by rfl) ?h16 hHeld ?r16
          case h16 => (intro w hSw; (try dsimp only at hSw); go_simp; try (with_reducible rfl))
          simp only [Act.put, List.setIfInBounds_toArray, List.set_cons_zero, List.set_cons_succ]
          refine anyH_take 8 36 (v := ?v17) rfl rfl (by kernel_rfl) (by kernel_rfl) (by kernel_rfl) (fun _ _ _ h => h) (by rfl) ?h17 hHeld ?r17
          case h17 => (intro w hSw; (try dsimp only at hSw); go_simp; try (with_reducible rfl))
          simp only [Act.put, List.setIfInBounds_toArray, List.set_cons_zero, List.set_cons_succ]
          refine wpAnyH_ready (rs := [9]) (by kernel_rfl) (by simp) ?_
          refine AllReadyH.cons rfl (fun K hK => ?_) AllReadyH.nil
          have T10_5_9 := hide (unhide T10_5).lit8
          go_simp
          generalize u10_5.alloc (.cells #[.int .i64 0, .slice none 0 0, .slice none 0 0, .slice none 0 0] 27) = u10_5_9 at *
          generalize u10_5.heap.size = b8 at *
          refine hK.out _ _ (unhide SK _ (unhide T10_5_9).bel) (fun hHeld => ?_)
          clear hK K
          refine wpAnyH_ready (rs := [11]) (by kernel_rfl) (by simp) ?_
          refine AllReadyH.cons rfl (fun K hK => ?_) AllReadyH.nil
          obtain ⟨hOw, hEo⟩ := (unhide T10_5_9).r l' f' s' hs' r rfl
          obtain ⟨h8, k8⟩ := (unhide T10_5_9).e8 b8 rfl
          obtain ⟨h9, k9⟩ := (unhide T10_5_9).e9 b9 rfl
          have c0 := (heap_at k8 0).1
          have c1 := (heap_at k8 1).1
          have c2 := (heap_at k8 2).1
          have c3 := (heap_at k8 3).1
          have cf0 := (heap_at k8 0).2
          have cf1 := (heap_at k8 1).2
          have cf2 := (heap_at k8 2).2
          have cf3 := (heap_at k8 3).2
          have h89 : b9 ≠ b8 := fun e => by rw [e, k8] at k9; injection k9 with k9; injection k9 with _ k9 _; exact absurd k9 (by decide)
          have hw : WrB (fun i => i = b8) u10_5_9 ((((u10_5_9.setCell ⟨b8, 0, none⟩ (.int .i64 pp.1.next)).setCell ⟨b8, 1, none⟩ (.slice l'.a l'.n l'.c)).setCell ⟨b8, 2, none⟩ (.slice f'.a f'.n f'.c)).setCell ⟨b8, 3, none⟩ (.slice s'.a s'.n s'.c)) := sv4_wr u10_5_9 b8 (.int .i64 pp.1.next) (.slice l'.a l'.n l'.c) (.slice f'.a f'.n f'.c) (.slice s'.a s'.n s'.c)
          have Q8 := hide (show ((((u10_5_9.setCell ⟨b8, 0, none⟩ (.int .i64 pp.1.next)).setCell ⟨b8, 1, none⟩ (.slice l'.a l'.n l'.c)).setCell ⟨b8, 2, none⟩ (.slice f'.a f'.n f'.c)).setCell ⟨b8, 3, none⟩ (.slice s'.a s'.n s'.c)).heap[b8]? = some (.cells #[.int .i64 pp.1.next, .slice l'.a l'.n l'.c, .slice f'.a f'.n f'.c, .slice s'.a s'.n s'.c] 27 (0, 0)) from sv4_heap k8 (.int .i64 pp.1.next) (.slice l'.a l'.n l'.c) (.slice f'.a f'.n f'.c) (.slice s'.a s'.n s'.c))
          have Q9 := hide (show ((((u10_5_9.setCell ⟨b8, 0, none⟩ (.int .i64 pp.1.next)).setCell ⟨b8, 1, none⟩ (.slice l'.a l'.n l'.c)).setCell ⟨b8, 2, none⟩ (.slice f'.a f'.n f'.c)).setCell ⟨b8, 3, none⟩ (.slice s'.a s'.n s'.c)).heap[b9]? = some (.cells #[.int .i64 0, .int .i64 0, .string ⟨#[]⟩, .slice none 0 0] 60 (0, 0)) from (hw.block b9 (blk_lt k9) h89).trans k9)
          have QO := hide (show VzOwn ((((u10_5_9.setCell ⟨b8, 0, none⟩ (.int .i64 pp.1.next)).setCell ⟨b8, 1, none⟩ (.slice l'.a l'.n l'.c)).setCell ⟨b8, 2, none⟩ (.slice f'.a f'.n f'.c)).setCell ⟨b8, 3, none⟩ (.slice s'.a s'.n s'.c)) W.heap.size l' f' s' hs' pp.1 from hOw.box k8 (by decide) (by decide) (by decide) hw)
          have QE := hide (show EOwns ((((u10_5_9.setCell ⟨b8, 0, none⟩ (.int .i64 pp.1.next)).setCell ⟨b8, 1, none⟩ (.slice l'.a l'.n l'.c)).setCell ⟨b8, 2, none⟩ (.slice f'.a f'.n f'.c)).setCell ⟨b8, 3, none⟩ (.slice s'.a s'.n s'.c)) wr.heap.size (.slice r.a r.n r.c) pp.2.list from own_keep hEo k8 (by decide) hw)
          have QB := hide (show Below wr.heap.size wr ((((u10_5_9.setCell ⟨b8, 0, none⟩ (.int .i64 pp.1.next)).setCell ⟨b8, 1, none⟩ (.slice l'.a l'.n l'.c)).setCell ⟨b8, 2, none⟩ (.slice f'.a f'.n f'.c)).setCell ⟨b8, 3, none⟩ (.slice s'.a s'.n s'.c)) from (unhide T10_5_9).bel.trans (WrB.below hw (fun i e => by rw [e]; exact h8) (unhide T10_5_9).bel.size))
          clear hw hOw hEo k8 k9
          go_simp
          refine hK.out _ _ (unhide SK _ (unhide QB)) (fun hHeld => ?_)
          clear hK K
          clear c0 cf0 c1 cf1 c2 cf2 c3 cf3
          generalize ((((u10_5_9.setCell ⟨b8, 0, none⟩ (.int .i64 pp.1.next)).setCell ⟨b8, 1, none⟩ (.slice l'.a l'.n l'.c)).setCell ⟨b8, 2, none⟩ (.slice f'.a f'.n f'.c)).setCell ⟨b8, 3, none⟩ (.slice s'.a s'.n s'.c)) = ux at *
          refine wpAnyH_ready (rs := [12]) (by kernel_rfl) (by simp) ?_
          refine AllReadyH.cons rfl (fun K hK => ?_) AllReadyH.nil
          have c0 := (heap_at (unhide Q9) 0).1
          have c1 := (heap_at (unhide Q9) 1).1
          have c2 := (heap_at (unhide Q9) 2).1
          have c3 := (heap_at (unhide Q9) 3).1
          have cf0 := (heap_at (unhide Q9) 0).2
          have cf1 := (heap_at (unhide Q9) 1).2
          have cf2 := (heap_at (unhide Q9) 2).2
          have cf3 := (heap_at (unhide Q9) 3).2
          have hw : WrB (fun i => i = b9) ux ((((ux.setCell ⟨b9, 0, none⟩ (.int .i64 pp.2.code)).setCell ⟨b9, 1, none⟩ (.int .i64 pp.2.time)).setCell ⟨b9, 2, none⟩ (.string pp.2.val)).setCell ⟨b9, 3, none⟩ (.slice r.a r.n r.c)) := sv4_wr ux b9 (.int .i64 pp.2.code) (.int .i64 pp.2.time) (.string pp.2.val) (.slice r.a r.n r.c)
          have P9 := hide (show ((((ux.setCell ⟨b9, 0, none⟩ (.int .i64 pp.2.code)).setCell ⟨b9, 1, none⟩ (.int .i64 pp.2.time)).setCell ⟨b9, 2, none⟩ (.string pp.2.val)).setCell ⟨b9, 3, none⟩ (.slice r.a r.n r.c)).heap[b9]? = some (.cells #[.int .i64 pp.2.code, .int .i64 pp.2.time, .string pp.2.val, .slice r.a r.n r.c] 60 (0, 0)) from sv4_heap (unhide Q9) (.int .i64 pp.2.code) (.int .i64 pp.2.time) (.string pp.2.val) (.slice r.a r.n r.c))
          have P8 := hide (show ((((ux.setCell ⟨b9, 0, none⟩ (.int .i64 pp.2.code)).setCell ⟨b9, 1, none⟩ (.int .i64 pp.2.time)).setCell ⟨b9, 2, none⟩ (.string pp.2.val)).setCell ⟨b9, 3, none⟩ (.slice r.a r.n r.c)).heap[b8]? = some (.cells #[.int .i64 pp.1.next, .slice l'.a l'.n l'.c, .slice f'.a f'.n f'.c, .slice s'.a s'.n s'.c] 27 (0, 0)) from (hw.block b8 (blk_lt (unhide Q8)) (fun e => h89 e.symm)).trans (unhide Q8))
          have PO := hide (show VzOwn ((((ux.setCell ⟨b9, 0, none⟩ (.int .i64 pp.2.code)).setCell ⟨b9, 1, none⟩ (.int .i64 pp.2.time)).setCell ⟨b9, 2, none⟩ (.string pp.2.val)).setCell ⟨b9, 3, none⟩ (.slice r.a r.n r.c)) W.heap.size l' f' s' hs' pp.1 from (unhide QO).box (unhide Q9) (by decide) (by decide) (by decide) hw)
          have PE := hide (show EOwns ((((ux.setCell ⟨b9, 0, none⟩ (.int .i64 pp.2.code)).setCell ⟨b9, 1, none⟩ (.int .i64 pp.2.time)).setCell ⟨b9, 2, none⟩ (.string pp.2.val)).setCell ⟨b9, 3, none⟩ (.slice r.a r.n r.c)) wr.heap.size (.slice r.a r.n r.c) pp.2.list from own_keep (unhide QE) (unhide Q9) (by decide) hw)
          have PB := hide (show Below wr.heap.size wr ((((ux.setCell ⟨b9, 0, none⟩ (.int .i64 pp.2.code)).setCell ⟨b9, 1, none⟩ (.int .i64 pp.2.time)).setCell ⟨b9, 2, none⟩ (.string pp.2.val)).setCell ⟨b9, 3, none⟩ (.slice r.a r.n r.c)) from (unhide QB).trans (WrB.below hw (fun i e => by rw [e]; exact h9) (unhide QB).size))
          clear hw
          go_simp
          refine hK.out _ _ (unhide SK _ (unhide PB)) (fun hHeld => ?_)
          clear hK K
          refine wpAnyH_done (by kernel_rfl) ?_ _
          clear hHeld SK
          go_wp2_with fail
          go_meet
          case rel => exact ⟨b8, b9, l', f', s', hs', r, rfl, rfl, P8, P9, PO, PE, PB, h9⟩
        · have T10_9 := hide (unhide T10).lit8
          go_simp
          generalize u10.alloc (.cells #[.int .i64 0, .slice none 0 0, .slice none 0 0, .slice none 0 0] 27) = u10_9 at *
          generalize u10.heap.size = b8 at *
          refine hK.out _ _ (unhide SK _ (unhide T10_9).bel) (fun hHeld => ?_)
          clear hK K
          refine wpAnyH_ready (rs := [5]) (by kernel_rfl) (by simp) ?_
          refine AllReadyH.cons rfl (fun K hK => ?_) AllReadyH.nil
          go_simp
          refine (unhide CS _ (unhide T10_9).bel).mono ?_
          intro e u10_9_5 hst
          obtain ⟨l', f', s', hs', r, rfl, hq⟩ := (unhide T10_9).call (unhide hS).own hwrW hst
          have T10_9_5 := hide hq
          clear hq hst
          refine hK.out _ _ (unhide SK _ (unhide T10_9_5).bel) (fun hHeld => ?_)
          clear hK K
          refine anyH_take 6 28 (v := ?v18) rfl rfl (by kernel_rfl) (by kernel_rfl) (by kernel_rfl) (fun _ _ _ h => h) (by rfl) ?h18 hHeld ?r18
          case h18 => (intro w hSw; (try dsimp only at hSw); go_simp; try (with_reducible rfl))
          simp only [Act.put, List.setIfInBounds_toArray, List.set_cons_zero, List.set_cons_succ]
          refine anyH_take 7 35 (v := ?v19) rfl rfl (by kernel_rfl) (by kernel_rfl) (by kernel_rfl) (fun _ _ _ h => h) (by rfl) ?h19 hHeld ?r19
          case h19 => (intro w hSw; (try dsimp only at hSw); go_simp; try (with_reducible rfl))
          simp only [Act.put, List.setIfInBounds_toArray, List.set_cons_zero, List.set_cons_succ]
          refine anyH_take 8 36 (v := ?v20) rfl rfl (by kernel_rfl) (by kernel_rfl) (by kernel_rfl) (fun _ _ _ h => h) (by rfl) ?h20 hHeld ?r20
          case h20 => (intro w hSw; (try dsimp only at hSw); go_simp; try (with_reducible rfl))
          simp only [Act.put, List.setIfInBounds_toArray, List.set_cons_zero, List.set_cons_succ]
          refine wpAnyH_ready (rs := [11]) (by kernel_rfl) (by simp) ?_
          refine AllReadyH.cons rfl (fun K hK => ?_) AllReadyH.nil
          obtain ⟨hOw, hEo⟩ := (unhide T10_9_5).r l' f' s' hs' r rfl
          obtain ⟨h8, k8⟩ := (unhide T10_9_5).e8 b8 rfl
          obtain ⟨h9, k9⟩ := (unhide T10_9_5).e9 b9 rfl
          have c0 := (heap_at k8 0).1
          have c1 := (heap_at k8 1).1
          have c2 := (heap_at k8 2).1
          have c3 := (heap_at k8 3).1
          have cf0 := (heap_at k8 0).2
          have cf1 := (heap_at k8 1).2
          have cf2 := (heap_at k8 2).2
          have cf3 := (heap_at k8 3).2
          have h89 : b9 ≠ b8 := fun e => by rw [e, k8] at k9; injection k9 with k9; injection k9 with _ k9 _; exact absurd k9 (by decide)
          have hw : WrB (fun i => i = b8) u10_9_5 ((((u10_9_5.setCell ⟨b8, 0, none⟩ (.int .i64 pp.1.next)).setCell ⟨b8, 1, none⟩ (.slice l'.a l'.n l'.c)).setCell ⟨b8, 2, none⟩ (.slice f'.a f'.n f'.c)).setCell ⟨b8, 3, none⟩ (.slice s'.a s'.n s'.c)) := sv4_wr u10_9_5 b8 (.int .i64 pp.1.next) (.slice l'.a l'.n l'.c) (.slice f'.a f'.n f'.c) (.slice s'.a s'.n s'.c)
          have Q8 := hide (show ((((u10_9_5.setCell ⟨b8, 0, none⟩ (.int .i64 pp.1.next)).setCell ⟨b8, 1, none⟩ (.slice l'.a l'.n l'.c)).setCell ⟨b8, 2, none⟩ (.slice f'.a f'.n f'.c)).setCell ⟨b8, 3, none⟩ (.slice s'.a s'.n s'.c)).heap[b8]? = some (.cells #[.int .i64 pp.1.next, .slice l'.a l'.n l'.c, .slice f'.a f'.n f'.c, .slice s'.a s'.n s'.c] 27 (0, 0)) from sv4_heap k8 (.int .i64 pp.1.next) (.slice l'.a l'.n l'.c) (.slice f'.a f'.n f'.c) (.slice s'.a s'.n s'.c))
          have Q9 := hide (show ((((u10_9_5.setCell ⟨b8, 0, none⟩ (.int .i64 pp.1.next)).setCell ⟨b8, 1, none⟩ (.slice l'.a l'.n l'.c)).setCell ⟨b8, 2, none⟩ (.slice f'.a f'.n f'.c)).setCell ⟨b8, 3, none⟩ (.slice s'.a s'.n s'.c)).heap[b9]? = some (.cells #[.int .i64 0, .int .i64 0, .string ⟨#[]⟩, .slice none 0 0] 60 (0, 0)) from (hw.block b9 (blk_lt k9) h89).trans k9)
          have QO := hide (show VzOwn ((((u10_9_5.setCell ⟨b8, 0, none⟩ (.int .i64 pp.1.next)).setCell ⟨b8, 1, none⟩ (.slice l'.a l'.n l'.c)).setCell ⟨b8, 2, none⟩ (.slice f'.a f'.n f'.c)).setCell ⟨b8, 3, none⟩ (.slice s'.a s'.n s'.c)) W.heap.size l' f' s' hs' pp.1 from hOw.box k8 (by decide) (by decide) (by decide) hw)
          have QE := hide (show EOwns ((((u10_9_5.setCell ⟨b8, 0, none⟩ (.int .i64 pp.1.next)).setCell ⟨b8, 1, none⟩ (.slice l'.a l'.n l'.c)).setCell ⟨b8, 2, none⟩ (.slice f'.a f'.n f'.c)).setCell ⟨b8, 3, none⟩ (.slice s'.a s'.n s'.c)) wr.heap.size (.slice r.a r.n r.c) pp.2.list from own_keep hEo k8 (by decide) hw)
          have QB := hide (show Below wr.heap.size wr ((((u10_9_5.setCell ⟨b8, 0, none⟩ (.int .i64 pp.1.next)).setCell ⟨b8, 1, none⟩ (.slice l'.a l'.n l'.c)).setCell ⟨b8, 2, none⟩ (.slice f'.a f'.n f'.c)).setCell ⟨b8, 3, none⟩ (.slice s'.a s'.n s'.c)) from (unhide T10_9_5).bel.trans (WrB.below hw (fun i e => by rw [e]; exact h8) (unhide T10_9_5).bel.size))
          clear hw hOw hEo k8 k9
          go_simp
          refine hK.out _ _ (unhide SK _ (unhide QB)) (fun hHeld => ?_)
          clear hK K
          clear c0 cf0 c1 cf1 c2 cf2 c3 cf3
          generalize ((((u10_9_5.setCell ⟨b8, 0, none⟩ (.int .i64 pp.1.next)).setCell ⟨b8, 1, none⟩ (.slice l'.a l'.n l'.c)).setCell ⟨b8, 2, none⟩ (.slice f'.a f'.n f'.c)).setCell ⟨b8, 3, none⟩ (.slice s'.a s'.n s'.c)) = ux at *
          refine wpAnyH_ready (rs := [12]) (by kernel_rfl) (by simp) ?_
          refine AllReadyH.cons rfl (fun K hK => ?_) AllReadyH.nil
          have c0 := (heap_at (unhide Q9) 0).1
          have c1 := (heap_at (unhide Q9) 1).1
          have c2 := (heap_at (unhide Q9) 2).1
          have c3 := (heap_at (unhide Q9) 3).1
          have cf0 := (heap_at (unhide Q9) 0).2
          have cf1 := (heap_at (unhide Q9) 1).2
          have cf2 := (heap_at (unhide Q9) 2).2
          have cf3 := (heap_at (unhide Q9) 3).2
          have hw : WrB (fun i => i = b9) ux ((((ux.setCell ⟨b9, 0, none⟩ (.int .i64 pp.2.code)).setCell ⟨b9, 1, none⟩ (.int .i64 pp.2.time)).setCell ⟨b9, 2, none⟩ (.string pp.2.val)).setCell ⟨b9, 3, none⟩ (.slice r.a r.n r.c)) := sv4_wr ux b9 (.int .i64 pp.2.code) (.int .i64 pp.2.time) (.string pp.2.val) (.slice r.a r.n r.c)
          have P9 := hide (show ((((ux.setCell ⟨b9, 0, none⟩ (.int .i64 pp.2.code)).setCell ⟨b9, 1, none⟩ (.int .i64 pp.2.time)).setCell ⟨b9, 2, none⟩ (.string pp.2.val)).setCell ⟨b9, 3, none⟩ (.slice r.a r.n r.c)).heap[b9]? = some (.cells #[.int .i64 pp.2.code, .int .i64 pp.2.time, .string pp.2.val, .slice r.a r.n r.c] 60 (0, 0)) from sv4_heap (unhide Q9) (.int .i64 pp.2.code) (.int .i64 pp.2.time) (.string pp.2.val) (.slice r.a r.n r.c))
          have P8 := hide (show ((((ux.setCell ⟨b9, 0, none⟩ (.int .i64 pp.2.code)).setCell ⟨b9, 1, none⟩ (.int .i64 pp.2.time)).setCell ⟨b9, 2, none⟩ (.string pp.2.val)).setCell ⟨b9, 3, none⟩ (.slice r.a r.n r.c)).heap[b8]? = some (.cells #[.int .i64 pp.1.next, .slice l'.a l'.n l'.c, .slice f'.a f'.n f'.c, .slice s'.a s'.n s'.c] 27 (0, 0)) from (hw.block b8 (blk_lt (unhide Q8)) (fun e => h89 e.symm)).trans (unhide Q8))
          have PO := hide (show VzOwn ((((ux.setCell ⟨b9, 0, none⟩ (.int .i64 pp.2.code)).setCell ⟨b9, 1, none⟩ (.int .i64 pp.2.time)).setCell ⟨b9, 2, none⟩ (.string pp.2.val)).setCell ⟨b9, 3, none⟩ (.slice r.a r.n r.c)) W.heap.size l' f' s' hs' pp.1 from (unhide QO).box (unhide Q9) (by decide) (by decide) (by decide) hw)
          have PE := hide (show EOwns ((((ux.setCell ⟨b9, 0, none⟩ (.int .i64 pp.2.code)).setCell ⟨b9, 1, none⟩ (.int .i64 pp.2.time)).setCell ⟨b9, 2, none⟩ (.string pp.2.val)).setCell ⟨b9, 3, none⟩ (.slice r.a r.n r.c)) wr.heap.size (.slice r.a r.n r.c) pp.2.list from own_keep (unhide QE) (unhide Q9) (by decide) hw)
          have PB := hide (show Below wr.heap.size wr ((((ux.setCell ⟨b9, 0, none⟩ (.int .i64 pp.2.code)).setCell ⟨b9, 1, none⟩ (.int .i64 pp.2.time)).setCell ⟨b9, 2, none⟩ (.string pp.2.val)).setCell ⟨b9, 3, none⟩ (.slice r.a r.n r.c)) from (unhide QB).trans (WrB.below hw (fun i e => by rw [e]; exact h9) (unhide QB).size))
          clear hw
          go_simp
          refine hK.out _ _ (unhide SK _ (unhide PB)) (fun hHeld => ?_)
          clear hK K
          refine wpAnyH_done (by kernel_rfl) ?_ _
          clear hHeld SK
          go_wp2_with fail
          go_meet
          case rel => exact ⟨b8, b9, l', f', s', hs', r, rfl, rfl, P8, P9, PO, PE, PB, h9⟩
    case rest =>
      obtain ⟨b8, b9, ⟨la2, ln2, lc2⟩, ⟨fa2, fn2, fc2⟩, ⟨sa2, sn2, sc2⟩, hs2, ⟨ra, rn2, rc⟩, rfl, rfl, hK8, hK9, hOW, hEO, hBc, h9⟩ := hcut
      clear SK T00 CS
      obtain ⟨⟨q2a, q2n, q2c⟩, w7, hr7, hS7⟩ := (unhide hS).push (unhide hBc) (unhide hOW) pp.2 ⟨ra, rn2, rc⟩ (unhide hEO) (unhide HZL)
      have kb := ((unhide hS).below (unhide hBc)).box
      unfold vzC at kb
      simp only at kb hr7 hS7 hK8 hK9
      have t0 := (heap_at kb 0).1
      have t1 := (heap_at kb 1).1
      have t2 := (heap_at kb 2).1
      have t3 := (heap_at kb 3).1
      have tf0 := (heap_at kb 0).2
      have tf1 := (heap_at kb 1).2
      have tf2 := (heap_at kb 2).2
      have tf3 := (heap_at kb 3).2
      have y0 := (heap_at (unhide hK8) 0).1
      have y1 := (heap_at (unhide hK8) 1).1
      have y2 := (heap_at (unhide hK8) 2).1
      have y3 := (heap_at (unhide hK8) 3).1
      have h9b : b9 ≠ tb := by have := blk_lt (unhide hS).box; omega
      have k9 := ((sv4_wr wc tb (.int .i64 pp.1.next) (.slice la2 ln2 lc2) (.slice fa2 fn2 fc2) (.slice sa2 sn2 sc2)).block b9 (blk_lt (unhide hK9)) h9b).trans (unhide hK9)
      unfold sv4 at hr7 k9
      have HS7 := hide hS7
      have R7 := hide hr7
      have K9 := hide k9
      clear hS7 kb hr7 k9 hK8 hK9 hS hOW hEO hX
      go_upto_region 12 with fail
      clear t0 t1 t2 t3 tf0 tf1 tf2 tf3 y0 y1 y2 y3
      generalize ((((wc.setCell ⟨tb, 0, none⟩ (.int .i64 pp.1.next)).setCell ⟨tb, 1, none⟩ (.slice la2 ln2 lc2)).setCell ⟨tb, 2, none⟩ (.slice fa2 fn2 fc2)).setCell ⟨tb, 3, none⟩ (.slice sa2 sn2 sc2)) = uz at *
      have hr7 := unhide R7
      have p0 := (heap_at (unhide K9) 0).1
      have p1 := (heap_at (unhide K9) 1).1
      have p2 := (heap_at (unhide K9) 2).1
      have p3 := (heap_at (unhide K9) 3).1
      have REL := hide (show ∃ (k' : Nat) (l f s : Sl) (hs : List SeH) (q : Sl) (zs : List ZrH), k + 1 = k' ∧ Value.slice q2a q2n q2c = .slice q.a q.n q.c ∧ Hid (TrSt W w7 tb l f s hs rn.1 (.slice q.a q.n q.c) zs) ∧ Hid (zs.map (·.X) = rn.2) from ⟨k + 1, ⟨la2, ln2, lc2⟩, ⟨fa2, fn2, fc2⟩, ⟨sa2, sn2, sc2⟩, hs2, ⟨q2a, q2n, q2c⟩, _, rfl, rfl, by rw [unhide VN]; exact HS7, unhide XN ⟨ra, rn2, rc⟩⟩)
      clear HS7 XN VN RK hV
      go_wp2_with (at_builtin; refine ky_wpApp rfl (.tmp 38) (.tmp 40) 28 rfl _ _ _ w7 rfl rfl hr7 ?_)
      go_roundw
      case rel =>
        obtain ⟨k', l, f, s, hs, q, zs', rfl, e2, e3, e4⟩ := unhide REL
        exact ⟨k + 1, l, f, s, hs, q, zs', by omega, e2, by go_num, by rw [unhide HRN]; exact e3, by rw [unhide HRN]; exact e4⟩
      case measure => simp [intOf]; omega
end Go.Proofs.YtfajenejngddeaaGreat

namespace Go.Proofs.YtfajenejngddeaaGreat
open Go.RowKit

/-- A source at block p over the bytes xs of a slice; at most K bytes have been taken. -/
structure Src (w : World) (p : Nat) (a : Option Addr) (n c : Nat) (xs : List Int) (K : Int) : Prop where
  code : w.cell? ⟨p, 0, none⟩ = some (.slice a n c)
  place : ∃ t : Int, w.cell? ⟨p, 1, none⟩ = some (.int .i64 t) ∧ 0 ≤ t ∧ t ≤ K
  seed : ∃ s : Int, w.cell? ⟨p, 2, none⟩ = some (.int .i64 s) ∧ 0 ≤ s ∧ s < 2147483648
  free : ∀ j, w.frozen? ⟨p, j, none⟩ = false
  row : Row w a n xs
  bytes : ∀ i, i < n → 0 ≤ xs.getD i 0 ∧ xs.getD i 0 ≤ 255
  apart : ∀ x, a = some x → 0 < n → x.block ≠ p
  bound : n ≤ 1048576

theorem Only.drewN {p k : Nat} {w w1 : World} (h : Only p w w1) : Only p w (w1.drewN k) := ⟨h.os, h.tape, h.output, h.size, h.block, h.frozen⟩

theorem Only.drew {p : Nat} {w w1 : World} (h : Only p w w1) : Only p w w1.drew := ⟨h.os, h.tape, h.output, h.size, h.block, h.frozen⟩
theorem src_step {w w' : World} {p : Nat} {a : Option Addr} {n c : Nat} {xs : List Int} {K t s : Int} (ho : Only p w w') (h0 : w'.cell? ⟨p, 0, none⟩ = some (.slice a n c)) (h1 : w'.cell? ⟨p, 1, none⟩ = some (.int .i64 t))
    (h2 : w'.cell? ⟨p, 2, none⟩ = some (.int .i64 s)) (ht : 0 ≤ t) (htK : t ≤ K) (hs : 0 ≤ s) (hs1 : s < 2147483648) (hf : ∀ j, w.frozen? ⟨p, j, none⟩ = false) (hr : Row w a n xs)
    (hb : ∀ i, i < n → 0 ≤ xs.getD i 0 ∧ xs.getD i 0 ≤ 255) (ha : ∀ x, a = some x → 0 < n → x.block ≠ p) (hn : n ≤ 1048576) : Src w' p a n c xs K := by
  refine ⟨h0, ⟨t, h1, ht, htK⟩, ⟨s, h2, hs, hs1⟩, fun j => (ho.frozen _).trans (hf j), ?_, hb, ha, hn⟩
  by_cases hp : 0 < n
  · exact hr.of_cells fun x hx q hq => ho.cell (by rw [hq]; exact ha x hx hp)
  · exact ⟨hr.1, fun i hi => absurd hi (by omega)⟩

set_option maxHeartbeats 1000000 in
theorem byte_any (p : Nat) (a : Option Addr) (n c : Nat) (xs : List Int) (K : Int) (w : World) (h : Src w p a n c xs K) (hK : K ≤ 1000000) :
    Calls Tryz.prog 98 #[.pointer (some ⟨p, 0, none⟩)] w fun e w' => ∃ r : Int, e = .returned (.int .i64 r) ∧ 0 ≤ r ∧ r ≤ 255 ∧ Only p w w' ∧ Src w' p a n c xs (K + 1) := by
  obtain ⟨hc, ⟨t, ht, ht0, htK⟩, ⟨s, hs, hs0, hs1⟩, hf, hr, hby, hap, hbd⟩ := h
  have f1 := hf 1
  have f2 := hf 2
  have R := hide hr
  have BY := hide hby
  have AP := hide hap
  have HF := hide hf
  clear hf hr hby hap
  by_cases hlt : t + 1 ≤ (n : Int)
  · obtain ⟨k, rfl⟩ := Int.eq_ofNat_of_zero_le ht0
    obtain ⟨b, off, rfl, e1⟩ := (unhide R).2 k (by omega)
    obtain ⟨x0, x1⟩ := unhide BY k (by omega)
    generalize hx : xs.getD k 0 = x at *
    have hne : ¬ b = p := unhide AP _ rfl (by omega)
    clear hx
    go_enter Tryz.func98, Tryz.ntmps98
    go_wp2_with fail
    go_quiet (fail)
    go_wp2_with fail
    have d0 : ((w.setCell ⟨p, 1, none⟩ (.int .i64 ((k : Int) + 1))).drewN nq).cell? ⟨p, 0, none⟩ = some (.slice (some ⟨b, off, none⟩) n c) := (World.cell?_setCell_other _ _ _ _ (by intro h; simp at h)).trans hc
    have d1 : ((w.setCell ⟨p, 1, none⟩ (.int .i64 ((k : Int) + 1))).drewN nq).cell? ⟨p, 1, none⟩ = some (.int .i64 ((k : Int) + 1)) := World.cell?_setCell_same _ _ _ ht
    have d2 : ((w.setCell ⟨p, 1, none⟩ (.int .i64 ((k : Int) + 1))).drewN nq).cell? ⟨p, 2, none⟩ = some (.int .i64 s) := (World.cell?_setCell_other _ _ _ _ (by intro h; simp at h)).trans hs
    have dr : ((w.setCell ⟨p, 1, none⟩ (.int .i64 ((k : Int) + 1))).drewN nq).cell? ⟨b, off + k, none⟩ = some (.int .u8 x) := (World.cell?_setCell_other _ _ _ _ (by intro h; simp only [Addr.mk.injEq] at h; exact hne h.1.symm)).trans e1
    have df : ((w.setCell ⟨p, 1, none⟩ (.int .i64 ((k : Int) + 1))).drewN nq).frozen? ⟨p, 2, none⟩ = false := by simpa using f2
    have dO : Only p w ((w.setCell ⟨p, 1, none⟩ (.int .i64 ((k : Int) + 1))).drewN nq) := Only.drewN (Only.setCell _ _ _ _)
    have DO := hide dO
    clear dO hc ht hs e1 f1 f2
    generalize (w.setCell ⟨p, 1, none⟩ (.int .i64 ((k : Int) + 1))).drewN nq = W1 at *
    go_region
    go_wp2_with fail
    go_quiet (fail)
    go_wp2_with fail
    go_ret
    refine ⟨x, rfl, x0, x1, Only.drewN (Only.drew ((unhide DO).trans (Only.setCell _ _ _ _))), ?_⟩
    refine src_step (t := (k : Int) + 1) (Only.drewN (Only.drew ((unhide DO).trans (Only.setCell _ _ _ _)))) ((World.cell?_setCell_other _ _ _ _ (by intro h; simp at h)).trans d0) ((World.cell?_setCell_other _ _ _ _ (by intro h; simp at h)).trans d1) (World.cell?_setCell_same _ _ _ d2) (by omega) (by omega) ?_ ?_ (unhide HF) (unhide R) (unhide BY) (unhide AP) hbd
    all_goals omega
  · have hgt : (n : Int) < t + 1 := by omega
    clear hlt
    by_cases h3 : 3000 < t + 1
    · go_enter Tryz.func98, Tryz.ntmps98
      go_wp2_with fail
      go_quiet (fail)
      go_wp2_with fail
      go_ret
      have hO := Only.drewN (k := nq) (Only.setCell w p 1 (.int .i64 (t + 1)))
      exact ⟨0, rfl, by omega, by omega, hO, src_step (t := t + 1) (s := s) hO ((World.cell?_setCell_other _ _ _ _ (by intro h; simp at h)).trans hc) (World.cell?_setCell_same _ _ _ ht) ((World.cell?_setCell_other _ _ _ _ (by intro h; simp at h)).trans hs) (by omega) (by omega) hs0 hs1 (unhide HF) (unhide R) (unhide BY) (unhide AP) hbd⟩
    · go_enter Tryz.func98, Tryz.ntmps98
      go_wp2_with fail
      go_quiet (fail)
      go_wp2_with fail
      go_ret
      have hO := Only.drewN (k := nq) (Only.setCell w p 1 (.int .i64 (t + 1)))
      have hO2 := hO.trans (Only.setCell _ p 2 (.int .i64 ((s * 1103515245 + 12345) % 2147483648)))
      refine ⟨_, rfl, ?_, ?_, hO2, src_step (t := t + 1) hO2 ((World.cell?_setCell_other _ _ _ _ (by intro h; simp at h)).trans ((World.cell?_setCell_other _ _ _ _ (by intro h; simp at h)).trans hc)) ((World.cell?_setCell_other _ _ _ _ (by intro h; simp at h)).trans (World.cell?_setCell_same _ _ _ ht)) (World.cell?_setCell_same _ _ _ ((World.cell?_setCell_other _ _ _ _ (by intro h; simp at h)).trans hs)) (by omega) (by omega) ?_ ?_ (unhide HF) (unhide R) (unhide BY) (unhide AP) hbd⟩
      all_goals omega
end Go.Proofs.YtfajenejngddeaaGreat

namespace Go.Proofs.YtfajenejngddeaaGreat
open Go.RowKit

theorem Src.more {w : World} {p : Nat} {a : Option Addr} {n c : Nat} {xs : List Int} {K K' : Int} (h : Src w p a n c xs K) (hk : K ≤ K') : Src w p a n c xs K' := by
  obtain ⟨h1, ⟨t, ht, ht0, htK⟩, h3, h4, h5, h6, h7, h8⟩ := h
  exact ⟨h1, ⟨t, ht, ht0, by omega⟩, h3, h4, h5, h6, h7, h8⟩

set_option maxHeartbeats 1000000 in
theorem next_any (p : Nat) (a : Option Addr) (n c : Nat) (xs : List Int) (K m : Int) (w : World) (h : Src w p a n c xs K) (hK : K ≤ 900000) (hm : 1 ≤ m) (hm2 : m ≤ 100000) :
    Calls Tryz.prog 62 #[.pointer (some ⟨p, 0, none⟩), .int .i64 m] w fun e w' => ∃ r : Int, e = .returned (.int .i64 r) ∧ 0 ≤ r ∧ r < m ∧ Only p w w' ∧ Src w' p a n c xs (K + 3) := by
  by_cases h1 : m ≤ 1
  · go_enter Tryz.func62, Tryz.ntmps62
    go_wp2_with fail
    go_ret
    exact ⟨0, rfl, by omega, by omega, Only.refl _ _, Src.more h (by omega)⟩
  by_cases h2 : m ≤ 256
  · go_enter Tryz.func62, Tryz.ntmps62
    go_wp2_with fail
    refine (byte_any p a n c xs K w h (by omega)).mono ?_
    rintro e w1 ⟨r, rfl, hr0, hr1, ho, hs⟩
    go_wp2_with fail
    go_ret
    refine ⟨_, rfl, ?_, ?_, ho, Src.more hs (by omega)⟩
    · exact Int.emod_nonneg _ (by omega)
    · exact Int.emod_lt_of_pos _ (by omega)
  · go_enter Tryz.func62, Tryz.ntmps62
    go_wp2_with fail
    refine (byte_any p a n c xs K w h (by omega)).mono ?_
    rintro e w1 ⟨r1, rfl, hr10, hr11, ho1, hs1⟩
    go_wp2_with fail
    refine (byte_any p a n c xs (K + 1) w1 hs1 (by omega)).mono ?_
    rintro e w2 ⟨r2, rfl, hr20, hr21, ho2, hs2⟩
    go_wp2_with fail
    refine (byte_any p a n c xs (K + 1 + 1) w2 hs2 (by omega)).mono ?_
    rintro e w3 ⟨r3, rfl, hr30, hr31, ho3, hs3⟩
    go_wp2_with fail
    go_ret
    refine ⟨_, rfl, ?_, ?_, (ho1.trans ho2).trans ho3, Src.more hs3 (by omega)⟩
    · exact Int.emod_nonneg _ (by omega)
    · exact Int.emod_lt_of_pos _ (by omega)

set_option maxHeartbeats 1000000 in
theorem source_any (a : Option Addr) (n c : Nat) (xs : List Int) (w : World) (hr : Row w a n xs) (hby : ∀ i, i < n → 0 ≤ xs.getD i 0 ∧ xs.getD i 0 ≤ 255) (hn : n ≤ 1048576) :
    Calls Tryz.prog 23 #[.slice a n c] w fun e w' => e = .returned (.pointer (some ⟨w.heap.size, 0, none⟩)) ∧ Src w' w.heap.size a n c xs 0 ∧ Below w.heap.size w w' ∧ w'.heap.size = w.heap.size + 1 := by
  have R := hide hr
  have BY := hide hby
  clear hr hby
  go_enter Tryz.func23, Tryz.ntmps23
  go_wp2_with fail
  go_ret
  refine ⟨rfl, ?_, (Below.refl _ _).alloc (Nat.le_refl _) _, by simp⟩
  have hb : Below w.heap.size w (w.alloc (.cells #[.slice a n c, .int .i64 0, .int .i64 ((n : Int) % 1000)] 113)) := (Below.refl _ _).alloc (Nat.le_refl _) _
  have hlt : ∀ x, a = some x → 0 < n → x.block < w.heap.size := fun x hx hp => by
    obtain ⟨b, off, e, hc⟩ := (unhide R).2 0 hp
    rw [hx] at e
    cases e
    exact cell_lt hc
  refine ⟨by simp, ⟨0, by simp, by omega, by omega⟩, ⟨(n : Int) % 1000, by simp, by omega, by omega⟩, fun j => by simp, ?_, unhide BY, fun x hx hp => Nat.ne_of_lt (hlt x hx hp), hn⟩
  by_cases hp : 0 < n
  · exact (unhide R).below hb (fun x hx => hlt x hx hp)
  · exact ⟨(unhide R).1, fun i hi => absurd hi (by omega)⟩
set_option maxHeartbeats 1000000 in
theorem pick_any (p g m mc : Nat) (a : Option Addr) (n c : Nat) (xs : List Int) (K : Int) (w : World) (h : Src w p a n c xs K) (hK : K ≤ 800000) (hm : 1 ≤ m) (hm2 : m ≤ 1000) (hg : g ≠ p) (T : ByteArray → Prop)
    (hT : ∀ i, i < m → ∃ t, w.cell? ⟨g, i, none⟩ = some (.string t) ∧ T t) :
    Calls Tryz.prog 99 #[.pointer (some ⟨p, 0, none⟩), .slice (some ⟨g, 0, none⟩) m mc] w fun e w' => ∃ t : ByteArray, e = .returned (.string t) ∧ T t ∧ Only p w w' ∧ Src w' p a n c xs (K + 3) := by
  have HT := hide hT
  clear hT
  have hb : ((m : Int) == 0) = false := by simp; omega
  go_enter Tryz.func99, Tryz.ntmps99
  go_wp2_with fail
  refine (next_any p a n c xs K (m : Int) w h (by omega) (by omega) (by omega)).mono ?_
  rintro e w1 ⟨r, rfl, hr0, hr1, ho, hs⟩
  obtain ⟨k, rfl⟩ := Int.eq_ofNat_of_zero_le hr0
  obtain ⟨t, ht, hTt⟩ := unhide HT k (by omega)
  have ht1 := (ho.cell (p := ⟨g, k, none⟩) hg).trans ht
  clear ht
  go_wp2_with fail
  go_ret
  exact ⟨t, rfl, hTt, ho, hs⟩

/-- A block that is made leaves a source as it was. -/
theorem Src.alloc {w : World} {p : Nat} {a : Option Addr} {n c : Nat} {xs : List Int} {K : Int} (h : Src w p a n c xs K) (o : Obj) : Src (w.alloc o) p a n c xs K := by
  have hb : Below w.heap.size w (w.alloc o) := (Below.refl _ _).alloc (Nat.le_refl _) _
  obtain ⟨h1, ⟨t, ht, ht0, htK⟩, ⟨s, hs, hs0, hs1⟩, h4, h5, h6, h7, h8⟩ := h
  have hp := cell_lt h1
  refine ⟨(hb.cell (p := ⟨p, 0, none⟩) hp).trans h1, ⟨t, (hb.cell (p := ⟨p, 1, none⟩) hp).trans ht, ht0, htK⟩, ⟨s, (hb.cell (p := ⟨p, 2, none⟩) hp).trans hs, hs0, hs1⟩, fun j => (hb.frozen (p := ⟨p, j, none⟩) hp).trans (h4 j), ?_, h6, h7, h8⟩
  by_cases hn : 0 < n
  · refine h5.below hb (fun x hx => ?_)
    obtain ⟨b, off, e, hc⟩ := h5.2 0 hn
    rw [hx] at e
    cases e
    exact cell_lt hc
  · exact ⟨h5.1, fun i hi => absurd hi (by omega)⟩

end Go.Proofs.YtfajenejngddeaaGreat

namespace Go.Proofs.YtfajenejngddeaaGreat
open Go.RowKit

theorem Src.of_blocks' {w w' : World} {p : Nat} {a : Option Addr} {n c : Nat} {xs : List Int} {K : Int} (h : Src w p a n c xs K) (hp : w'.heap[p]? = w.heap[p]?) (ha : ∀ x, a = some x → 0 < n → w'.heap[x.block]? = w.heap[x.block]?) : Src w' p a n c xs K := by
  obtain ⟨h1, ⟨t, ht, ht0, htK⟩, ⟨s, hs, hs0, hs1⟩, h4, h5, h6, h7, h8⟩ := h
  refine ⟨(World.cell?_of_block (w := w) (a := ⟨p, 0, none⟩) hp).trans h1, ⟨t, (World.cell?_of_block (w := w) (a := ⟨p, 1, none⟩) hp).trans ht, ht0, htK⟩, ⟨s, (World.cell?_of_block (w := w) (a := ⟨p, 2, none⟩) hp).trans hs, hs0, hs1⟩, fun j => (World.frozen?_of_block (w := w) (a := ⟨p, j, none⟩) hp).trans (h4 j), ⟨h5.1, fun i hi => ?_⟩, h6, h7, h8⟩
  obtain ⟨b, off, e, hc⟩ := h5.2 i hi
  have hb : w'.heap[b]? = w.heap[b]? := ha _ e (by omega)
  exact ⟨b, off, e, (World.cell?_of_block (w := w) (a := ⟨b, off + i, none⟩) hb).trans hc⟩
theorem src_code' {w : World} {p : Nat} {a : Option Addr} {n c : Nat} {xs : List Int} {K : Int} (h : Src w p a n c xs K) : ∀ x, a = some x → 0 < n → x.block < w.heap.size := fun x hx hn => by
  obtain ⟨b, off, e, hc⟩ := h.row.2 0 hn
  rw [hx] at e
  cases e
  exact cell_lt hc
theorem Src.below {w w' : World} {p : Nat} {a : Option Addr} {n c : Nat} {xs : List Int} {K : Int} (h : Src w p a n c xs K) (hb : Below w.heap.size w w') : Src w' p a n c xs K :=
  h.of_blocks' (hb.block _ (cell_lt h.code)) (fun x hx hn => hb.block _ (src_code' h x hx hn))
theorem Src.grown {w w' : World} {p B : Nat} {a : Option Addr} {n c : Nat} {xs : List Int} {K : Int} {row : Option Nat} (h : Src w p a n c xs K) (hg : w.grownBy w' row) (hr : ∀ k, row = some k → B ≤ k) (hp : p < B) (ha : ∀ x, a = some x → 0 < n → x.block < B) : Src w' p a n c xs K :=
  h.of_blocks' (hg.block p (cell_lt h.code) (fun e => by have := hr p e.symm; omega)) (fun x hx hn => hg.block _ (src_code' h x hx hn) (fun e => by have := hr _ e.symm; have := ha x hx hn; omega))
end Go.Proofs.YtfajenejngddeaaGreat

namespace Go.Proofs.YtfajenejngddeaaGreat
open Go.RowKit

end Go.Proofs.YtfajenejngddeaaGreat

namespace Go.Proofs.YtfajenejngddeaaGreat
open Go.RowKit

set_option maxHeartbeats 1000000 in
theorem chanceD_any (p : Nat) (a : Option Addr) (n c : Nat) (xs : List Int) (K m : Int) (w : World) (h : Src w p a n c xs K) (hK : K ≤ 800000) (hm : 1 ≤ m) (hm2 : m ≤ 100000) :
    Calls Tryz.prog 65 #[.pointer (some ⟨p, 0, none⟩), .int .i64 m] w fun e w' => ∃ x : Bool, e = .returned (.bool x) ∧ Wrote p w w' ∧ Src w' p a n c xs (K + 3) := by
  go_enter Tryz.func65, Tryz.ntmps65
  go_wp2_with fail
  refine (next_any p a n c xs K m w h (by omega) hm hm2).mono ?_
  rintro e w1 ⟨r, rfl, hr0, hr1, ho, hs⟩
  have HO := hide ho.wrote
  have HS := hide hs
  clear ho hs
  go_wp2_with fail
  go_ret
  exact ⟨_, rfl, unhide HO, unhide HS⟩
set_option maxHeartbeats 1000000 in
theorem valueD_any (p : Nat) (a : Option Addr) (n c : Nat) (xs : List Int) (K : Int) (w : World) (h : Src w p a n c xs K) (hK : K ≤ 700000) :
    Calls Tryz.prog 100 #[.pointer (some ⟨p, 0, none⟩)] w fun e w' => ∃ t : ByteArray, e = .returned (.string t) ∧ valK t = true ∧ Wrote p w w' ∧ Src w' p a n c xs (K + 3) := by
  have hp := cell_lt h.code
  go_enter Tryz.func100, Tryz.ntmps100
  go_wp2_with fail
  refine (pick_any p w.heap.size 4 4 a n c xs K _ (h.alloc _) (by omega) (by omega) (by omega) (by omega) (fun t => valK t = true) (fun i hi => ?_)).mono ?_
  · match i, hi with
    | 0, _ => exact ⟨_, by simp; rfl, by decide⟩
    | 1, _ => exact ⟨_, by simp; rfl, by decide⟩
    | 2, _ => exact ⟨_, by simp; rfl, by decide⟩
    | 3, _ => exact ⟨_, by simp; rfl, by decide⟩
  · rintro e w1 ⟨t, rfl, ht, ho, hs⟩
    have hb : Wrote p w w1 := (Wrote.alloc w p _).trans ho.wrote
    clear ho
    go_wp2_with fail
    go_ret
    exact ⟨t, rfl, ht, hb, hs⟩
theorem Wrote.loc {p b : Nat} {w w' : World} (h : Wrote p w w') (hb : w.heap.size ≤ b) (j : Nat) (v : Value) : Wrote p w (w'.setCell ⟨b, j, none⟩ v) :=
  ⟨h.os, h.tape, h.output, by simpa [World.setCell] using h.size, fun k hk hl => (Below.heap_setCell _ _ _ _ (by simp; omega)).trans (h.block k hk hl)⟩
theorem Src.set {w : World} {p b : Nat} {a : Option Addr} {n c : Nat} {xs : List Int} {K : Int} (h : Src w p a n c xs K) (hb : p ≠ b) (ha : ∀ x, a = some x → 0 < n → x.block ≠ b) (j : Nat) (v : Value) : Src (w.setCell ⟨b, j, none⟩ v) p a n c xs K :=
  h.of_blocks' (Below.heap_setCell _ _ _ _ hb) (fun x hx hn => Below.heap_setCell _ _ _ _ (ha x hx hn))
end Go.Proofs.YtfajenejngddeaaGreat

namespace Go.Proofs.YtfajenejngddeaaGreat
open Go.RowKit

end Go.Proofs.YtfajenejngddeaaGreat

namespace Go.Proofs.YtfajenejngddeaaGreat
open Go.RowKit

theorem size_draw (p : Nat) (a : Option Addr) (n c : Nat) (xs : List Int) (K : Int) (m : Nat) (w : World) (h : Src w p a n c xs K) :
    Calls Tryz.prog 63 #[.pointer (some ⟨p, 0, none⟩), .int .i64 (m : Int)] w fun e w' => ∃ r : Nat, e = .returned (.int .i64 (r : Int)) ∧ r ≤ m ∧ w' = w := by
  have c0 := h.code
  have hb := h.bound
  have hq : Int.tdiv (n : Int) 12 = ((n / 12 : Nat) : Int) := by rw [Int.tdiv_eq_ediv_of_nonneg (by omega)]; omega
  have wr : IntKind.i64.wrap (1 + ((n / 12 : Nat) : Int)) = ((1 + n / 12 : Nat) : Int) := by rw [IntKind.wrap_i64]; omega
  clear h
  go_enter Tryz.func63, Tryz.ntmps63
  go_wp2_with fail
  all_goals go_ret
  all_goals first | exact ⟨m, rfl, by omega, rfl⟩ | exact ⟨1 + n / 12, by simp, by omega, rfl⟩ | exact ⟨min (1 + n / 12) m, by rw [show min (1 + (n : Int) / 12) (m : Int) = ((min (1 + n / 12) m : Nat) : Int) by omega]; rfl, by omega, rfl⟩
end Go.Proofs.YtfajenejngddeaaGreat

namespace Go.Proofs.YtfajenejngddeaaGreat
open Go.RowKit

/-- A drawn act under way. -/
structure XdSt (w u : World) (p : Nat) (a : Option Addr) (n c : Nat) (xs : List Int) (K : Int) (b : Nat) (d : TxD) : Prop where
  src : Src u p a n c xs K
  wro : Wrote p w u
  res : u.heap[w.heap.size]? = some (.cells #[.int .i64 0, .int .i64 0, .string ⟨#[]⟩, .string ⟨#[]⟩, .string ⟨#[]⟩] 64 (0, 0))
  box : u.heap[b]? = some (.cells #[.int .i64 d.kind, .int .i64 d.ses, .string d.key, .string d.to, .string d.val] 64 (0, 0))
  bge : w.heap.size < b
  hp : p < w.heap.size
  hc : ∀ x, a = some x → 0 < n → x.block < w.heap.size
theorem XdSt.wrote {w u : World} {p : Nat} {a : Option Addr} {n c : Nat} {xs : List Int} {K : Int} {b : Nat} {d : TxD} {u' : World} {K' : Int} (h : XdSt w u p a n c xs K b d) (hs : Src u' p a n c xs K') (hw : Wrote p u u') : XdSt w u' p a n c xs K' b d :=
  ⟨hs, h.wro.trans hw, (hw.block _ (by have := h.hp; omega) (blk_lt h.res)).trans h.res, (hw.block _ (by have := h.hp; have := h.bge; omega) (blk_lt h.box)).trans h.box, h.bge, h.hp, h.hc⟩
theorem XdSt.alloc {w u : World} {p : Nat} {a : Option Addr} {n c : Nat} {xs : List Int} {K : Int} {b : Nat} {d : TxD} (h : XdSt w u p a n c xs K b d) (o : Obj) : XdSt w (u.alloc o) p a n c xs K b d := h.wrote (h.src.alloc o) (Wrote.alloc u p o)
theorem XdSt.set {w u : World} {p : Nat} {a : Option Addr} {n c : Nat} {xs : List Int} {K : Int} {b : Nat} {d : TxD} (h : XdSt w u p a n c xs K b d) (v0 v1 : Int) (v2 v3 v4 : ByteArray) : XdSt w (((((u.setCell ⟨b, 0, none⟩ (.int .i64 v0)).setCell ⟨b, 1, none⟩ (.int .i64 v1)).setCell ⟨b, 2, none⟩ (.string v2)).setCell ⟨b, 3, none⟩ (.string v3)).setCell ⟨b, 4, none⟩ (.string v4)) p a n c xs K b ⟨v0, v1, v2, v3, v4⟩ := by
  have h1 : p ≠ b := by have := h.hp; have := h.bge; omega
  have h2 : ∀ x, a = some x → 0 < n → x.block ≠ b := fun x hx hn => by have := h.hc x hx hn; have := h.bge; omega
  have hw : ∀ (u : World) (j : Nat) (v : Value), Wrote p w u → Wrote p w (u.setCell ⟨b, j, none⟩ v) := fun u j v hu => ⟨hu.os, hu.tape, hu.output, by have := hu.size; simp only [World.setCell] at *; simpa using this, fun k hk hl => (Below.heap_setCell u ⟨b, j, none⟩ v k (by show k ≠ b; have := h.bge; omega)).trans (hu.block k hk hl)⟩
  have hr : ∀ (u : World) (j : Nat) (v : Value) (o : Option Obj), u.heap[w.heap.size]? = o → (u.setCell ⟨b, j, none⟩ v).heap[w.heap.size]? = o := fun u j v o hu => (Below.heap_setCell u ⟨b, j, none⟩ v w.heap.size (by show w.heap.size ≠ b; have := h.bge; omega)).trans hu
  refine ⟨((((h.src.set h1 h2 0 _).set h1 h2 1 _).set h1 h2 2 _).set h1 h2 3 _).set h1 h2 4 _, hw _ _ _ (hw _ _ _ (hw _ _ _ (hw _ _ _ (hw _ _ _ h.wro)))), hr _ _ _ _ (hr _ _ _ _ (hr _ _ _ _ (hr _ _ _ _ (hr _ _ _ _ h.res)))), ?_, h.bge, h.hp, h.hc⟩
  have k0 := heap_set h.box 0 (.int .i64 v0)
  have k1 := heap_set k0 1 (.int .i64 v1)
  have k2 := heap_set k1 2 (.string v2)
  have k3 := heap_set k2 3 (.string v3)
  have k4 := heap_set k3 4 (.string v4)
  simpa using k4
theorem XdSt.kind {w u : World} {p : Nat} {a : Option Addr} {n c : Nat} {xs : List Int} {K : Int} {b : Nat} {d : TxD} (h : XdSt w u p a n c xs K b d) (v : Int) : XdSt w (u.setCell ⟨b, 0, none⟩ (.int .i64 v)) p a n c xs K b ⟨v, d.ses, d.key, d.to, d.val⟩ := by
  have h1 : p ≠ b := by have := h.hp; have := h.bge; omega
  have h2 : ∀ x, a = some x → 0 < n → x.block ≠ b := fun x hx hn => by have := h.hc x hx hn; have := h.bge; omega
  refine ⟨h.src.set h1 h2 0 _, ⟨h.wro.os, h.wro.tape, h.wro.output, by have := h.wro.size; simp only [World.setCell] at *; simpa using this, fun k hk hl => (Below.heap_setCell u ⟨b, 0, none⟩ _ k (by show k ≠ b; have := h.bge; omega)).trans (h.wro.block k hk hl)⟩, (Below.heap_setCell u ⟨b, 0, none⟩ _ w.heap.size (by show w.heap.size ≠ b; have := h.bge; omega)).trans h.res, ?_, h.bge, h.hp, h.hc⟩
  have k0 := heap_set h.box 0 (.int .i64 v)
  simpa using k0
theorem XdSt.val {w u : World} {p : Nat} {a : Option Addr} {n c : Nat} {xs : List Int} {K : Int} {b : Nat} {d : TxD} (h : XdSt w u p a n c xs K b d) (v : ByteArray) : XdSt w (u.setCell ⟨b, 4, none⟩ (.string v)) p a n c xs K b ⟨d.kind, d.ses, d.key, d.to, v⟩ := by
  have h1 : p ≠ b := by have := h.hp; have := h.bge; omega
  have h2 : ∀ x, a = some x → 0 < n → x.block ≠ b := fun x hx hn => by have := h.hc x hx hn; have := h.bge; omega
  refine ⟨h.src.set h1 h2 4 _, ⟨h.wro.os, h.wro.tape, h.wro.output, by have := h.wro.size; simp only [World.setCell] at *; simpa using this, fun k hk hl => (Below.heap_setCell u ⟨b, 4, none⟩ _ k (by show k ≠ b; have := h.bge; omega)).trans (h.wro.block k hk hl)⟩, (Below.heap_setCell u ⟨b, 4, none⟩ _ w.heap.size (by show w.heap.size ≠ b; have := h.bge; omega)).trans h.res, ?_, h.bge, h.hp, h.hc⟩
  have k0 := heap_set h.box 4 (.string v)
  simpa using k0
/-- The end of a draw. -/
theorem XdSt.fin {w u : World} {p : Nat} {a : Option Addr} {n c : Nat} {xs : List Int} {K : Int} {b : Nat} {d : TxD} (h : XdSt w u p a n c xs K b d) (v0 v1 v2 v3 v4 : Value) : Wrote p w (((((u.setCell ⟨w.heap.size, 0, none⟩ v0).setCell ⟨w.heap.size, 1, none⟩ v1).setCell ⟨w.heap.size, 2, none⟩ v2).setCell ⟨w.heap.size, 3, none⟩ v3).setCell ⟨w.heap.size, 4, none⟩ v4) ∧ Src (((((u.setCell ⟨w.heap.size, 0, none⟩ v0).setCell ⟨w.heap.size, 1, none⟩ v1).setCell ⟨w.heap.size, 2, none⟩ v2).setCell ⟨w.heap.size, 3, none⟩ v3).setCell ⟨w.heap.size, 4, none⟩ v4) p a n c xs K := by
  have h1 : p ≠ w.heap.size := by have := h.hp; omega
  have h2 : ∀ x, a = some x → 0 < n → x.block ≠ w.heap.size := fun x hx hn => by have := h.hc x hx hn; omega
  have hw : ∀ (u : World) (j : Nat) (v : Value), Wrote p w u → Wrote p w (u.setCell ⟨w.heap.size, j, none⟩ v) := fun u j v hu => ⟨hu.os, hu.tape, hu.output, by have := hu.size; simp only [World.setCell] at *; simpa using this, fun k hk hl => (Below.heap_setCell u ⟨w.heap.size, j, none⟩ v k (by show k ≠ w.heap.size; omega)).trans (hu.block k hk hl)⟩
  exact ⟨hw _ _ _ (hw _ _ _ (hw _ _ _ (hw _ _ _ (hw _ _ _ h.wro)))), ((((h.src.set h1 h2 0 _).set h1 h2 1 _).set h1 h2 2 _).set h1 h2 3 _).set h1 h2 4 _⟩
theorem str_lit {W : World} {t : TypeId} {cs : Array Value} {m : Nat} (hm : cs.size = m) (hs : ∀ i (h : i < cs.size), ∃ s, cs[i] = .string s) : ∀ i, i < m → ∃ s, (W.alloc (.cells cs t)).cell? ⟨W.heap.size, i, none⟩ = some (.string s) ∧ True := fun i hi => by
  obtain ⟨s, e⟩ := hs i (by omega)
  exact ⟨s, rb_cell_new rfl (by rw [Array.getElem?_eq_getElem (by omega), e]), trivial⟩
theorem five_str {x0 x1 x2 x3 : ByteArray} : ∀ i (h : i < (#[Value.string x0, .string x1, .string x2, .string x3] : Array Value).size), ∃ s, (#[Value.string x0, .string x1, .string x2, .string x3] : Array Value)[i] = .string s := by
  intro i h
  match i, h with
  | 0, _ => exact ⟨_, rfl⟩
  | 1, _ => exact ⟨_, rfl⟩
  | 2, _ => exact ⟨_, rfl⟩
  | 3, _ => exact ⟨_, rfl⟩
theorem three_str {x0 x1 x2 : ByteArray} : ∀ i (h : i < (#[Value.string x0, .string x1, .string x2] : Array Value).size), ∃ s, (#[Value.string x0, .string x1, .string x2] : Array Value)[i] = .string s := by
  intro i h
  match i, h with
  | 0, _ => exact ⟨_, rfl⟩
  | 1, _ => exact ⟨_, rfl⟩
  | 2, _ => exact ⟨_, rfl⟩
theorem xd_cell {w u : World} {p : Nat} {a : Option Addr} {n c : Nat} {xs : List Int} {K : Int} {b : Nat} {d : TxD} (h : XdSt w u p a n c xs K b d) : u.cell? ⟨b, 1, none⟩ = some (.int .i64 d.ses) := (heap_at h.box 1).1
theorem lit_of {u : World} {g : Nat} {t : TypeId} {x0 x1 x2 : Value} (h : u.heap[g]? = some (.cells #[x0, x1, x2] t (0, 0))) (hs : ∀ i (h : i < (#[x0, x1, x2] : Array Value).size), ∃ s, (#[x0, x1, x2] : Array Value)[i] = .string s) : ∀ i, i < 3 → ∃ s, u.cell? ⟨g, i, none⟩ = some (.string s) ∧ True := fun i hi => by
  obtain ⟨s, e⟩ := hs i hi
  exact ⟨s, by rw [(heap_at h i).1, Array.getElem?_eq_getElem hi, e], trivial⟩
set_option maxRecDepth 100000 in
set_option maxHeartbeats 8000000 in
theorem txActD_any (p : Nat) (a : Option Addr) (n c : Nat) (xs : List Int) (Kq : Int) (w : World) (h : Src w p a n c xs Kq) (hKq : Kq ≤ 500000) :
    Calls Tryz.prog 64 #[.pointer (some ⟨p, 0, none⟩)] w fun e w' => ∃ d : TxD, e = .returned (xv d) ∧ (0 ≤ d.ses ∧ d.ses ≤ 2) ∧ Wrote p w w' ∧ Src w' p a n c xs (Kq + 18) := by
  have hp := cell_lt h.code
  have ha := src_code' h
  have S := hide (h.alloc (.cells #[.int .i64 0, .int .i64 0, .string ⟨#[]⟩, .string ⟨#[]⟩, .string ⟨#[]⟩] 64))
  have WW := hide (Wrote.alloc w p (.cells #[.int .i64 0, .int .i64 0, .string ⟨#[]⟩, .string ⟨#[]⟩, .string ⟨#[]⟩] 64))
  have kz := heap_alloc_new w (.cells #[.int .i64 0, .int .i64 0, .string ⟨#[]⟩, .string ⟨#[]⟩, .string ⟨#[]⟩] 64)
  have HA := hide ha
  clear h ha
  go_enter Tryz.func64, Tryz.ntmps64
  go_wp2_with fail
  generalize w.alloc (.cells #[.int .i64 0, .int .i64 0, .string ⟨#[]⟩, .string ⟨#[]⟩, .string ⟨#[]⟩] 64) = W0 at *
  refine (next_any p a n c xs Kq 3 W0 (unhide S) (by omega) (by omega) (by omega)).mono ?_
  rintro e w1 ⟨r, rfl, hr0, hr1, ho, hs⟩
  have hw1 := ho.wrote
  have kz1 := (hw1.block w.heap.size (by omega) (blk_lt kz)).trans kz
  have WW1 := hide ((unhide WW).trans hw1)
  have S1 := hide hs
  clear ho hs S WW kz hw1
  go_wp2_with fail
  have ST := hide (str_lit (W := w1) (t := 9) (cs := #[.string ⟨#[97]⟩, .string ⟨#[98]⟩, .string ⟨#[99]⟩, .string ⟨#[100]⟩]) (m := 4) rfl five_str)
  refine (pick_any p w1.heap.size 4 4 a n c xs (Kq + 3) _ ((unhide S1).alloc _) (by omega) (by omega) (by omega) (by have := cell_lt (unhide S1).code; show w1.heap.size ≠ p; simp only at this; omega) (fun _ => True) (unhide ST)).mono ?_
  rintro e w2 ⟨key, rfl, -, ho, hs⟩
  have hw2 := (Wrote.alloc w1 p (.cells #[.string ⟨#[97]⟩, .string ⟨#[98]⟩, .string ⟨#[99]⟩, .string ⟨#[100]⟩] 9)).trans ho.wrote
  have kz2 := (hw2.block w.heap.size (by omega) (blk_lt kz1)).trans kz1
  have WW2 := (unhide WW1).trans hw2
  have X0 := hide (show XdSt w (w2.alloc (.cells #[.int .i64 2, .int .i64 r, .string key, .string ⟨#[]⟩, .string ⟨#[]⟩] 64)) p a n c xs (Kq + 6) w2.heap.size ⟨2, r, key, ⟨#[]⟩, ⟨#[]⟩⟩ from
    ⟨(show Src w2 p a n c xs (Kq + 6) from hs.more (by omega)).alloc _, WW2.trans (Wrote.alloc w2 p _), (((Below.refl w2.heap.size w2).alloc (Nat.le_refl _) _).block w.heap.size (blk_lt kz2)).trans kz2, heap_alloc_new _ _, blk_lt kz2, hp, unhide HA⟩)
  clear ho hs hw2 kz2 WW2 kz1 WW1 S1 ST
  go_upto_region 2 with fail
  generalize w2.alloc (.cells #[.int .i64 2, .int .i64 r, .string key, .string ⟨#[]⟩, .string ⟨#[]⟩] 64) = w3 at *
  generalize w2.heap.size = b at *
  go_wp2_with fail
  refine (next_any p a n c xs (Kq + 6) 10 w3 (unhide X0).src (by omega) (by omega) (by omega)).mono ?_
  rintro e w4 ⟨q, rfl, hq0, hq1, ho, hs⟩
  have X1 := hide ((unhide X0).wrote (hs.more (show Kq + 6 + 3 ≤ Kq + 9 by omega)) ho.wrote)
  clear ho hs X0
  have RR := hide (show 0 ≤ r ∧ r ≤ 2 by omega)
  clear hr0 hr1
  by_cases h0 : q = 0
  · subst h0
    have kb := (unhide X1).box
    have X2 := hide (show XdSt w (((((w4.setCell ⟨b, 0, none⟩ (.int .i64 1)).setCell ⟨b, 1, none⟩ (.int .i64 r)).setCell ⟨b, 2, none⟩ (.string ⟨#[]⟩)).setCell ⟨b, 3, none⟩ (.string ⟨#[]⟩)).setCell ⟨b, 4, none⟩ (.string ⟨#[]⟩)) p a n c xs _ b ⟨1, r, ⟨#[]⟩, ⟨#[]⟩, ⟨#[]⟩⟩ from (unhide X1).set 1 r ⟨#[]⟩ ⟨#[]⟩ ⟨#[]⟩)
    have k0 := (heap_at kb 0).1
    have kf0 := (heap_at kb 0).2
    have k1 := (heap_at kb 1).1
    have kf1 := (heap_at kb 1).2
    have k2 := (heap_at kb 2).1
    have kf2 := (heap_at kb 2).2
    have k3 := (heap_at kb 3).1
    have kf3 := (heap_at kb 3).2
    have k4 := (heap_at kb 4).1
    have kf4 := (heap_at kb 4).2
    clear kb
    go_upto_region 20 with fail
    clear k0 kf0 k1 kf1 k2 kf2 k3 kf3 k4 kf4
    generalize (((((w4.setCell ⟨b, 0, none⟩ (.int .i64 1)).setCell ⟨b, 1, none⟩ (.int .i64 r)).setCell ⟨b, 2, none⟩ (.string ⟨#[]⟩)).setCell ⟨b, 3, none⟩ (.string ⟨#[]⟩)).setCell ⟨b, 4, none⟩ (.string ⟨#[]⟩)) = w5 at *
    have kb := (unhide X2).box
    have kr := (unhide X2).res
    have FE := hide (((unhide X2).fin (.int .i64 1) (.int .i64 r) (.string ⟨#[]⟩) (.string ⟨#[]⟩) (.string ⟨#[]⟩)))
    have SF := hide ((unhide FE).2.more (show _ ≤ Kq + 18 by omega))
    have k0 := (heap_at kb 0).1
    have k1 := (heap_at kb 1).1
    have k2 := (heap_at kb 2).1
    have k3 := (heap_at kb 3).1
    have k4 := (heap_at kb 4).1
    have z0 := (heap_at kr 0).1
    have zf0 := (heap_at kr 0).2
    have z1 := (heap_at kr 1).1
    have zf1 := (heap_at kr 1).2
    have z2 := (heap_at kr 2).1
    have zf2 := (heap_at kr 2).2
    have z3 := (heap_at kr 3).1
    have zf3 := (heap_at kr 3).2
    have z4 := (heap_at kr 4).1
    have zf4 := (heap_at kr 4).2
    clear kb kr
    go_wp2_with fail
    refine bodyPost_ret (v := xv ⟨1, r, ⟨#[]⟩, ⟨#[]⟩, ⟨#[]⟩⟩) (by simp [results, Tryz.results64, go_sem, xv, *] <;> rfl) rfl ?_
    exact ⟨⟨1, r, ⟨#[]⟩, ⟨#[]⟩, ⟨#[]⟩⟩, rfl, unhide RR, (unhide FE).1, unhide SF⟩
  by_cases h1 : q = 1
  · subst h1
    have kb := (unhide X1).box
    have X2 := hide (show XdSt w (((((w4.setCell ⟨b, 0, none⟩ (.int .i64 1)).setCell ⟨b, 1, none⟩ (.int .i64 r)).setCell ⟨b, 2, none⟩ (.string ⟨#[]⟩)).setCell ⟨b, 3, none⟩ (.string ⟨#[]⟩)).setCell ⟨b, 4, none⟩ (.string ⟨#[]⟩)) p a n c xs _ b ⟨1, r, ⟨#[]⟩, ⟨#[]⟩, ⟨#[]⟩⟩ from (unhide X1).set 1 r ⟨#[]⟩ ⟨#[]⟩ ⟨#[]⟩)
    have k0 := (heap_at kb 0).1
    have kf0 := (heap_at kb 0).2
    have k1 := (heap_at kb 1).1
    have kf1 := (heap_at kb 1).2
    have k2 := (heap_at kb 2).1
    have kf2 := (heap_at kb 2).2
    have k3 := (heap_at kb 3).1
    have kf3 := (heap_at kb 3).2
    have k4 := (heap_at kb 4).1
    have kf4 := (heap_at kb 4).2
    clear kb
    go_upto_region 20 with fail
    clear k0 kf0 k1 kf1 k2 kf2 k3 kf3 k4 kf4
    generalize (((((w4.setCell ⟨b, 0, none⟩ (.int .i64 1)).setCell ⟨b, 1, none⟩ (.int .i64 r)).setCell ⟨b, 2, none⟩ (.string ⟨#[]⟩)).setCell ⟨b, 3, none⟩ (.string ⟨#[]⟩)).setCell ⟨b, 4, none⟩ (.string ⟨#[]⟩)) = w5 at *
    have kb := (unhide X2).box
    have kr := (unhide X2).res
    have FE := hide (((unhide X2).fin (.int .i64 1) (.int .i64 r) (.string ⟨#[]⟩) (.string ⟨#[]⟩) (.string ⟨#[]⟩)))
    have SF := hide ((unhide FE).2.more (show _ ≤ Kq + 18 by omega))
    have k0 := (heap_at kb 0).1
    have k1 := (heap_at kb 1).1
    have k2 := (heap_at kb 2).1
    have k3 := (heap_at kb 3).1
    have k4 := (heap_at kb 4).1
    have z0 := (heap_at kr 0).1
    have zf0 := (heap_at kr 0).2
    have z1 := (heap_at kr 1).1
    have zf1 := (heap_at kr 1).2
    have z2 := (heap_at kr 2).1
    have zf2 := (heap_at kr 2).2
    have z3 := (heap_at kr 3).1
    have zf3 := (heap_at kr 3).2
    have z4 := (heap_at kr 4).1
    have zf4 := (heap_at kr 4).2
    clear kb kr
    go_wp2_with fail
    refine bodyPost_ret (v := xv ⟨1, r, ⟨#[]⟩, ⟨#[]⟩, ⟨#[]⟩⟩) (by simp [results, Tryz.results64, go_sem, xv, *] <;> rfl) rfl ?_
    exact ⟨⟨1, r, ⟨#[]⟩, ⟨#[]⟩, ⟨#[]⟩⟩, rfl, unhide RR, (unhide FE).1, unhide SF⟩
  by_cases h2 : q = 2
  · subst h2
    have kb := (unhide X1).box
    have X2 := hide (show XdSt w (((((w4.setCell ⟨b, 0, none⟩ (.int .i64 6)).setCell ⟨b, 1, none⟩ (.int .i64 r)).setCell ⟨b, 2, none⟩ (.string ⟨#[]⟩)).setCell ⟨b, 3, none⟩ (.string ⟨#[]⟩)).setCell ⟨b, 4, none⟩ (.string ⟨#[]⟩)) p a n c xs _ b ⟨6, r, ⟨#[]⟩, ⟨#[]⟩, ⟨#[]⟩⟩ from (unhide X1).set 6 r ⟨#[]⟩ ⟨#[]⟩ ⟨#[]⟩)
    have k0 := (heap_at kb 0).1
    have kf0 := (heap_at kb 0).2
    have k1 := (heap_at kb 1).1
    have kf1 := (heap_at kb 1).2
    have k2 := (heap_at kb 2).1
    have kf2 := (heap_at kb 2).2
    have k3 := (heap_at kb 3).1
    have kf3 := (heap_at kb 3).2
    have k4 := (heap_at kb 4).1
    have kf4 := (heap_at kb 4).2
    clear kb
    go_upto_region 20 with fail
    clear k0 kf0 k1 kf1 k2 kf2 k3 kf3 k4 kf4
    generalize (((((w4.setCell ⟨b, 0, none⟩ (.int .i64 6)).setCell ⟨b, 1, none⟩ (.int .i64 r)).setCell ⟨b, 2, none⟩ (.string ⟨#[]⟩)).setCell ⟨b, 3, none⟩ (.string ⟨#[]⟩)).setCell ⟨b, 4, none⟩ (.string ⟨#[]⟩)) = w5 at *
    have kb := (unhide X2).box
    have kr := (unhide X2).res
    have FE := hide (((unhide X2).fin (.int .i64 6) (.int .i64 r) (.string ⟨#[]⟩) (.string ⟨#[]⟩) (.string ⟨#[]⟩)))
    have SF := hide ((unhide FE).2.more (show _ ≤ Kq + 18 by omega))
    have k0 := (heap_at kb 0).1
    have k1 := (heap_at kb 1).1
    have k2 := (heap_at kb 2).1
    have k3 := (heap_at kb 3).1
    have k4 := (heap_at kb 4).1
    have z0 := (heap_at kr 0).1
    have zf0 := (heap_at kr 0).2
    have z1 := (heap_at kr 1).1
    have zf1 := (heap_at kr 1).2
    have z2 := (heap_at kr 2).1
    have zf2 := (heap_at kr 2).2
    have z3 := (heap_at kr 3).1
    have zf3 := (heap_at kr 3).2
    have z4 := (heap_at kr 4).1
    have zf4 := (heap_at kr 4).2
    clear kb kr
    go_wp2_with fail
    refine bodyPost_ret (v := xv ⟨6, r, ⟨#[]⟩, ⟨#[]⟩, ⟨#[]⟩⟩) (by simp [results, Tryz.results64, go_sem, xv, *] <;> rfl) rfl ?_
    exact ⟨⟨6, r, ⟨#[]⟩, ⟨#[]⟩, ⟨#[]⟩⟩, rfl, unhide RR, (unhide FE).1, unhide SF⟩
  by_cases h3 : q = 3
  · subst h3
    have kb := (unhide X1).box
    have X2 := hide (show XdSt w (((((w4.setCell ⟨b, 0, none⟩ (.int .i64 6)).setCell ⟨b, 1, none⟩ (.int .i64 r)).setCell ⟨b, 2, none⟩ (.string ⟨#[]⟩)).setCell ⟨b, 3, none⟩ (.string ⟨#[]⟩)).setCell ⟨b, 4, none⟩ (.string ⟨#[]⟩)) p a n c xs _ b ⟨6, r, ⟨#[]⟩, ⟨#[]⟩, ⟨#[]⟩⟩ from (unhide X1).set 6 r ⟨#[]⟩ ⟨#[]⟩ ⟨#[]⟩)
    have k0 := (heap_at kb 0).1
    have kf0 := (heap_at kb 0).2
    have k1 := (heap_at kb 1).1
    have kf1 := (heap_at kb 1).2
    have k2 := (heap_at kb 2).1
    have kf2 := (heap_at kb 2).2
    have k3 := (heap_at kb 3).1
    have kf3 := (heap_at kb 3).2
    have k4 := (heap_at kb 4).1
    have kf4 := (heap_at kb 4).2
    clear kb
    go_upto_region 20 with fail
    clear k0 kf0 k1 kf1 k2 kf2 k3 kf3 k4 kf4
    generalize (((((w4.setCell ⟨b, 0, none⟩ (.int .i64 6)).setCell ⟨b, 1, none⟩ (.int .i64 r)).setCell ⟨b, 2, none⟩ (.string ⟨#[]⟩)).setCell ⟨b, 3, none⟩ (.string ⟨#[]⟩)).setCell ⟨b, 4, none⟩ (.string ⟨#[]⟩)) = w5 at *
    have kb := (unhide X2).box
    have kr := (unhide X2).res
    have FE := hide (((unhide X2).fin (.int .i64 6) (.int .i64 r) (.string ⟨#[]⟩) (.string ⟨#[]⟩) (.string ⟨#[]⟩)))
    have SF := hide ((unhide FE).2.more (show _ ≤ Kq + 18 by omega))
    have k0 := (heap_at kb 0).1
    have k1 := (heap_at kb 1).1
    have k2 := (heap_at kb 2).1
    have k3 := (heap_at kb 3).1
    have k4 := (heap_at kb 4).1
    have z0 := (heap_at kr 0).1
    have zf0 := (heap_at kr 0).2
    have z1 := (heap_at kr 1).1
    have zf1 := (heap_at kr 1).2
    have z2 := (heap_at kr 2).1
    have zf2 := (heap_at kr 2).2
    have z3 := (heap_at kr 3).1
    have zf3 := (heap_at kr 3).2
    have z4 := (heap_at kr 4).1
    have zf4 := (heap_at kr 4).2
    clear kb kr
    go_wp2_with fail
    refine bodyPost_ret (v := xv ⟨6, r, ⟨#[]⟩, ⟨#[]⟩, ⟨#[]⟩⟩) (by simp [results, Tryz.results64, go_sem, xv, *] <;> rfl) rfl ?_
    exact ⟨⟨6, r, ⟨#[]⟩, ⟨#[]⟩, ⟨#[]⟩⟩, rfl, unhide RR, (unhide FE).1, unhide SF⟩
  by_cases h4 : q = 4
  · subst h4
    have kb := (unhide X1).box
    have X2 := hide (show XdSt w (w4.setCell ⟨b, 0, none⟩ (.int .i64 4)) p a n c xs _ b ⟨4, r, key, ⟨#[]⟩, ⟨#[]⟩⟩ from (unhide X1).kind 4)
    have k0 := (heap_at kb 0).1
    have kf0 := (heap_at kb 0).2
    clear kb
    go_upto_region 13 with fail
    clear k0 kf0
    generalize w4.setCell ⟨b, 0, none⟩ (.int .i64 4) = w5 at *
    go_wp2_with fail
    refine (valueD_any p a n c xs (Kq + 9) w5 (unhide X2).src (by omega)).mono ?_
    rintro e w6 ⟨vv0, rfl, -, hw, hs⟩
    have X3 := hide ((unhide X2).wrote (hs.more (show Kq + 9 + 3 ≤ Kq + 12 by omega)) hw)
    clear hw hs X2
    have kb := (unhide X3).box
    have X4 := hide (show XdSt w (w6.setCell ⟨b, 4, none⟩ (.string vv0)) p a n c xs _ b ⟨4, r, key, ⟨#[]⟩, vv0⟩ from (unhide X3).val vv0)
    have k4 := (heap_at kb 4).1
    have kf4 := (heap_at kb 4).2
    clear kb
    go_upto_region 20 with fail
    clear k4 kf4
    generalize w6.setCell ⟨b, 4, none⟩ (.string vv0) = w7 at *
    have kb := (unhide X4).box
    have kr := (unhide X4).res
    have FE := hide (((unhide X4).fin (.int .i64 4) (.int .i64 r) (.string key) (.string ⟨#[]⟩) (.string vv0)))
    have SF := hide ((unhide FE).2.more (show _ ≤ Kq + 18 by omega))
    have k0 := (heap_at kb 0).1
    have k1 := (heap_at kb 1).1
    have k2 := (heap_at kb 2).1
    have k3 := (heap_at kb 3).1
    have k4 := (heap_at kb 4).1
    have z0 := (heap_at kr 0).1
    have zf0 := (heap_at kr 0).2
    have z1 := (heap_at kr 1).1
    have zf1 := (heap_at kr 1).2
    have z2 := (heap_at kr 2).1
    have zf2 := (heap_at kr 2).2
    have z3 := (heap_at kr 3).1
    have zf3 := (heap_at kr 3).2
    have z4 := (heap_at kr 4).1
    have zf4 := (heap_at kr 4).2
    clear kb kr
    go_wp2_with fail
    refine bodyPost_ret (v := xv ⟨4, r, key, ⟨#[]⟩, vv0⟩) (by simp [results, Tryz.results64, go_sem, xv, *] <;> rfl) rfl ?_
    exact ⟨⟨4, r, key, ⟨#[]⟩, vv0⟩, rfl, unhide RR, (unhide FE).1, unhide SF⟩
  by_cases h5 : q = 5
  · subst h5
    have kb := (unhide X1).box
    have X2 := hide (show XdSt w (w4.setCell ⟨b, 0, none⟩ (.int .i64 4)) p a n c xs _ b ⟨4, r, key, ⟨#[]⟩, ⟨#[]⟩⟩ from (unhide X1).kind 4)
    have k0 := (heap_at kb 0).1
    have kf0 := (heap_at kb 0).2
    clear kb
    go_upto_region 13 with fail
    clear k0 kf0
    generalize w4.setCell ⟨b, 0, none⟩ (.int .i64 4) = w5 at *
    go_wp2_with fail
    refine (valueD_any p a n c xs (Kq + 9) w5 (unhide X2).src (by omega)).mono ?_
    rintro e w6 ⟨vv0, rfl, -, hw, hs⟩
    have X3 := hide ((unhide X2).wrote (hs.more (show Kq + 9 + 3 ≤ Kq + 12 by omega)) hw)
    clear hw hs X2
    have kb := (unhide X3).box
    have X4 := hide (show XdSt w (w6.setCell ⟨b, 4, none⟩ (.string vv0)) p a n c xs _ b ⟨4, r, key, ⟨#[]⟩, vv0⟩ from (unhide X3).val vv0)
    have k4 := (heap_at kb 4).1
    have kf4 := (heap_at kb 4).2
    clear kb
    go_upto_region 20 with fail
    clear k4 kf4
    generalize w6.setCell ⟨b, 4, none⟩ (.string vv0) = w7 at *
    have kb := (unhide X4).box
    have kr := (unhide X4).res
    have FE := hide (((unhide X4).fin (.int .i64 4) (.int .i64 r) (.string key) (.string ⟨#[]⟩) (.string vv0)))
    have SF := hide ((unhide FE).2.more (show _ ≤ Kq + 18 by omega))
    have k0 := (heap_at kb 0).1
    have k1 := (heap_at kb 1).1
    have k2 := (heap_at kb 2).1
    have k3 := (heap_at kb 3).1
    have k4 := (heap_at kb 4).1
    have z0 := (heap_at kr 0).1
    have zf0 := (heap_at kr 0).2
    have z1 := (heap_at kr 1).1
    have zf1 := (heap_at kr 1).2
    have z2 := (heap_at kr 2).1
    have zf2 := (heap_at kr 2).2
    have z3 := (heap_at kr 3).1
    have zf3 := (heap_at kr 3).2
    have z4 := (heap_at kr 4).1
    have zf4 := (heap_at kr 4).2
    clear kb kr
    go_wp2_with fail
    refine bodyPost_ret (v := xv ⟨4, r, key, ⟨#[]⟩, vv0⟩) (by simp [results, Tryz.results64, go_sem, xv, *] <;> rfl) rfl ?_
    exact ⟨⟨4, r, key, ⟨#[]⟩, vv0⟩, rfl, unhide RR, (unhide FE).1, unhide SF⟩
  by_cases h6 : q = 6
  · subst h6
    have kb := (unhide X1).box
    have X2 := hide (show XdSt w (w4.setCell ⟨b, 0, none⟩ (.int .i64 4)) p a n c xs _ b ⟨4, r, key, ⟨#[]⟩, ⟨#[]⟩⟩ from (unhide X1).kind 4)
    have k0 := (heap_at kb 0).1
    have kf0 := (heap_at kb 0).2
    clear kb
    go_upto_region 13 with fail
    clear k0 kf0
    generalize w4.setCell ⟨b, 0, none⟩ (.int .i64 4) = w5 at *
    go_wp2_with fail
    refine (valueD_any p a n c xs (Kq + 9) w5 (unhide X2).src (by omega)).mono ?_
    rintro e w6 ⟨vv0, rfl, -, hw, hs⟩
    have X3 := hide ((unhide X2).wrote (hs.more (show Kq + 9 + 3 ≤ Kq + 12 by omega)) hw)
    clear hw hs X2
    have kb := (unhide X3).box
    have X4 := hide (show XdSt w (w6.setCell ⟨b, 4, none⟩ (.string vv0)) p a n c xs _ b ⟨4, r, key, ⟨#[]⟩, vv0⟩ from (unhide X3).val vv0)
    have k4 := (heap_at kb 4).1
    have kf4 := (heap_at kb 4).2
    clear kb
    go_upto_region 20 with fail
    clear k4 kf4
    generalize w6.setCell ⟨b, 4, none⟩ (.string vv0) = w7 at *
    have kb := (unhide X4).box
    have kr := (unhide X4).res
    have FE := hide (((unhide X4).fin (.int .i64 4) (.int .i64 r) (.string key) (.string ⟨#[]⟩) (.string vv0)))
    have SF := hide ((unhide FE).2.more (show _ ≤ Kq + 18 by omega))
    have k0 := (heap_at kb 0).1
    have k1 := (heap_at kb 1).1
    have k2 := (heap_at kb 2).1
    have k3 := (heap_at kb 3).1
    have k4 := (heap_at kb 4).1
    have z0 := (heap_at kr 0).1
    have zf0 := (heap_at kr 0).2
    have z1 := (heap_at kr 1).1
    have zf1 := (heap_at kr 1).2
    have z2 := (heap_at kr 2).1
    have zf2 := (heap_at kr 2).2
    have z3 := (heap_at kr 3).1
    have zf3 := (heap_at kr 3).2
    have z4 := (heap_at kr 4).1
    have zf4 := (heap_at kr 4).2
    clear kb kr
    go_wp2_with fail
    refine bodyPost_ret (v := xv ⟨4, r, key, ⟨#[]⟩, vv0⟩) (by simp [results, Tryz.results64, go_sem, xv, *] <;> rfl) rfl ?_
    exact ⟨⟨4, r, key, ⟨#[]⟩, vv0⟩, rfl, unhide RR, (unhide FE).1, unhide SF⟩
  by_cases h7 : q = 7
  · subst h7
    have kb := (unhide X1).box
    have X2 := hide (show XdSt w (w4.setCell ⟨b, 0, none⟩ (.int .i64 5)) p a n c xs _ b ⟨5, r, key, ⟨#[]⟩, ⟨#[]⟩⟩ from (unhide X1).kind 5)
    have k0 := (heap_at kb 0).1
    have kf0 := (heap_at kb 0).2
    clear kb
    go_upto_region 16 with fail
    clear k0 kf0
    generalize w4.setCell ⟨b, 0, none⟩ (.int .i64 5) = w5 at *
    go_wp2_with fail
    refine (chanceD_any p a n c xs (Kq + 9) 3 w5 (unhide X2).src (by omega) (by omega) (by omega)).mono ?_
    rintro e w6 ⟨x, rfl, hw, hs⟩
    have X3 := hide ((unhide X2).wrote (hs.more (show Kq + 9 + 3 ≤ Kq + 12 by omega)) hw)
    clear hw hs X2
    cases x with
    | true =>
      have kb := (unhide X3).box
      have X4 := hide (show XdSt w (((((w6.setCell ⟨b, 0, none⟩ (.int .i64 7)).setCell ⟨b, 1, none⟩ (.int .i64 r)).setCell ⟨b, 2, none⟩ (.string ⟨#[]⟩)).setCell ⟨b, 3, none⟩ (.string ⟨#[]⟩)).setCell ⟨b, 4, none⟩ (.string ⟨#[]⟩)) p a n c xs _ b ⟨7, r, ⟨#[]⟩, ⟨#[]⟩, ⟨#[]⟩⟩ from (unhide X3).set 7 r ⟨#[]⟩ ⟨#[]⟩ ⟨#[]⟩)
      have k0 := (heap_at kb 0).1
      have kf0 := (heap_at kb 0).2
      have k1 := (heap_at kb 1).1
      have kf1 := (heap_at kb 1).2
      have k2 := (heap_at kb 2).1
      have kf2 := (heap_at kb 2).2
      have k3 := (heap_at kb 3).1
      have kf3 := (heap_at kb 3).2
      have k4 := (heap_at kb 4).1
      have kf4 := (heap_at kb 4).2
      clear kb
      go_upto_region 20 with fail
      clear k0 kf0 k1 kf1 k2 kf2 k3 kf3 k4 kf4
      generalize (((((w6.setCell ⟨b, 0, none⟩ (.int .i64 7)).setCell ⟨b, 1, none⟩ (.int .i64 r)).setCell ⟨b, 2, none⟩ (.string ⟨#[]⟩)).setCell ⟨b, 3, none⟩ (.string ⟨#[]⟩)).setCell ⟨b, 4, none⟩ (.string ⟨#[]⟩)) = w7 at *
      have kb := (unhide X4).box
      have kr := (unhide X4).res
      have FE := hide (((unhide X4).fin (.int .i64 7) (.int .i64 r) (.string ⟨#[]⟩) (.string ⟨#[]⟩) (.string ⟨#[]⟩)))
      have SF := hide ((unhide FE).2.more (show _ ≤ Kq + 18 by omega))
      have k0 := (heap_at kb 0).1
      have k1 := (heap_at kb 1).1
      have k2 := (heap_at kb 2).1
      have k3 := (heap_at kb 3).1
      have k4 := (heap_at kb 4).1
      have z0 := (heap_at kr 0).1
      have zf0 := (heap_at kr 0).2
      have z1 := (heap_at kr 1).1
      have zf1 := (heap_at kr 1).2
      have z2 := (heap_at kr 2).1
      have zf2 := (heap_at kr 2).2
      have z3 := (heap_at kr 3).1
      have zf3 := (heap_at kr 3).2
      have z4 := (heap_at kr 4).1
      have zf4 := (heap_at kr 4).2
      clear kb kr
      go_wp2_with fail
      refine bodyPost_ret (v := xv ⟨7, r, ⟨#[]⟩, ⟨#[]⟩, ⟨#[]⟩⟩) (by simp [results, Tryz.results64, go_sem, xv, *] <;> rfl) rfl ?_
      exact ⟨⟨7, r, ⟨#[]⟩, ⟨#[]⟩, ⟨#[]⟩⟩, rfl, unhide RR, (unhide FE).1, unhide SF⟩
    | false =>
      have kb := (unhide X3).box
      have kr := (unhide X3).res
      have FE := hide (((unhide X3).fin (.int .i64 5) (.int .i64 r) (.string key) (.string ⟨#[]⟩) (.string ⟨#[]⟩)))
      have SF := hide ((unhide FE).2.more (show _ ≤ Kq + 18 by omega))
      have k0 := (heap_at kb 0).1
      have k1 := (heap_at kb 1).1
      have k2 := (heap_at kb 2).1
      have k3 := (heap_at kb 3).1
      have k4 := (heap_at kb 4).1
      have z0 := (heap_at kr 0).1
      have zf0 := (heap_at kr 0).2
      have z1 := (heap_at kr 1).1
      have zf1 := (heap_at kr 1).2
      have z2 := (heap_at kr 2).1
      have zf2 := (heap_at kr 2).2
      have z3 := (heap_at kr 3).1
      have zf3 := (heap_at kr 3).2
      have z4 := (heap_at kr 4).1
      have zf4 := (heap_at kr 4).2
      clear kb kr
      go_wp2_with fail
      refine bodyPost_ret (v := xv ⟨5, r, key, ⟨#[]⟩, ⟨#[]⟩⟩) (by simp [results, Tryz.results64, go_sem, xv, *] <;> rfl) rfl ?_
      exact ⟨⟨5, r, key, ⟨#[]⟩, ⟨#[]⟩⟩, rfl, unhide RR, (unhide FE).1, unhide SF⟩
  by_cases h8 : q = 8
  · subst h8
    go_upto_region 19 with fail
    refine wp_region_held_drew (S := (fun u => u.cell? ⟨b, 1, none⟩ = some (.int .i64 r))) (by kernel_rfl) (xd_cell (unhide X1)) (fun hHeld => ?_)
    have Xs := hide (show XdSt w w4.drew p a n c xs (Kq + 9) b ⟨2, r, key, ⟨#[]⟩, ⟨#[]⟩⟩ from (unhide X1).wrote ((unhide X1).src.below (Below.refl _ _).drew) ⟨rfl, rfl, rfl, Nat.le_refl _, fun _ _ _ => rfl⟩)
    clear X1
    generalize w4.drew = us at *
    refine anyH_take 0 42 (v := ?v1) rfl rfl (by kernel_rfl) (by kernel_rfl) (by kernel_rfl) (fun _ _ _ h => h) (by rfl) ?h1 hHeld ?r1
    case h1 => (intro w hSw; (try dsimp only at hSw); go_simp; try (with_reducible rfl))
    simp only [Act.put, List.setIfInBounds_toArray, List.set_cons_zero, List.set_cons_succ]
    refine anyH_take 1 43 (v := ?v2) rfl rfl (by kernel_rfl) (by kernel_rfl) (by kernel_rfl) (fun _ _ _ h => h) (by rfl) ?h2 hHeld ?r2
    case h2 => (intro w hSw; (try dsimp only at hSw); go_simp; try (with_reducible rfl))
    simp only [Act.put, List.setIfInBounds_toArray, List.set_cons_zero, List.set_cons_succ]
    refine anyH_take 2 44 (v := ?v3) rfl rfl (by kernel_rfl) (by kernel_rfl) (by kernel_rfl) (fun _ _ _ h => h) (by rfl) ?h3 hHeld ?r3
    case h3 => (intro w hSw; (try dsimp only at hSw); go_simp; try (with_reducible rfl))
    simp only [Act.put, List.setIfInBounds_toArray, List.set_cons_zero, List.set_cons_succ]
    refine anyH_take 5 47 (v := ?v4) rfl rfl (by kernel_rfl) (by kernel_rfl) (by kernel_rfl) (fun _ _ _ h => h) (by rfl) ?h4 hHeld ?r4
    case h4 => (intro w hSw; (try dsimp only at hSw); go_simp; try (with_reducible rfl))
    simp only [Act.put, List.setIfInBounds_toArray, List.set_cons_zero, List.set_cons_succ]
    refine wpAnyH_ready (rs := [3, 6]) (by kernel_rfl) (by simp) ?_
    refine AllReadyH.cons rfl (fun K hK => ?_) (AllReadyH.cons rfl (fun K hK => ?_) AllReadyH.nil)
    · have X3 := hide ((unhide Xs).alloc (.cells #[.string ⟨#[]⟩, .string ⟨#[97]⟩, .string ⟨#[98]⟩] 9))
      have G33 := hide (heap_alloc_new us (.cells #[.string ⟨#[]⟩, .string ⟨#[97]⟩, .string ⟨#[98]⟩] 9))
      have hg3 : us.heap.size ≠ p := by have := cell_lt (unhide Xs).src.code; simp only at this; omega
      go_simp
      generalize us.alloc (.cells #[.string ⟨#[]⟩, .string ⟨#[97]⟩, .string ⟨#[98]⟩] 9) = u3 at *
      generalize us.heap.size = g3 at *
      refine hK.out _ _ (xd_cell (unhide X3)) (fun hHeld => ?_)
      clear hK K
      refine wpAnyH_ready (rs := [4, 6]) (by kernel_rfl) (by simp) ?_
      refine AllReadyH.cons rfl (fun K hK => ?_) (AllReadyH.cons rfl (fun K hK => ?_) AllReadyH.nil)
      · go_simp
        refine (pick_any p g3 3 3 a n c xs (Kq + 9) u3 (unhide X3).src (by omega) (by omega) (by omega) hg3 (fun _ => True) (lit_of (unhide G33) three_str)).mono ?_
        rintro e u3_4 ⟨kx, rfl, -, ho, hs⟩
        have X3_4 := hide ((unhide X3).wrote (hs.more (show Kq + 9 + 3 ≤ Kq + 12 by omega)) ho.wrote)
        have G33_4 := hide ((ho.wrote.block g3 hg3 (blk_lt (unhide G33))).trans (unhide G33))
        clear ho hs
        refine hK.out _ _ (xd_cell (unhide X3_4)) (fun hHeld => ?_)
        clear hK K
        refine wpAnyH_ready (rs := [6]) (by kernel_rfl) (by simp) ?_
        refine AllReadyH.cons rfl (fun K hK => ?_) AllReadyH.nil
        have X3_4_6 := hide ((unhide X3_4).alloc (.cells #[.string ⟨#[]⟩, .string ⟨#[99]⟩, .string ⟨#[100]⟩] 9))
        have G63_4_6 := hide (heap_alloc_new u3_4 (.cells #[.string ⟨#[]⟩, .string ⟨#[99]⟩, .string ⟨#[100]⟩] 9))
        have hg6 : u3_4.heap.size ≠ p := by have := cell_lt (unhide X3_4).src.code; simp only at this; omega
        have G33_4_6 := hide ((((Below.refl u3_4.heap.size u3_4).alloc (Nat.le_refl _) (.cells #[.string ⟨#[]⟩, .string ⟨#[99]⟩, .string ⟨#[100]⟩] 9)).block g3 (blk_lt (unhide G33_4))).trans (unhide G33_4))
        go_simp
        generalize u3_4.alloc (.cells #[.string ⟨#[]⟩, .string ⟨#[99]⟩, .string ⟨#[100]⟩] 9) = u3_4_6 at *
        generalize u3_4.heap.size = g6 at *
        refine hK.out _ _ (xd_cell (unhide X3_4_6)) (fun hHeld => ?_)
        clear hK K
        refine wpAnyH_ready (rs := [7]) (by kernel_rfl) (by simp) ?_
        refine AllReadyH.cons rfl (fun K hK => ?_) AllReadyH.nil
        go_simp
        refine (pick_any p g6 3 3 a n c xs (Kq + 12) u3_4_6 (unhide X3_4_6).src (by omega) (by omega) (by omega) hg6 (fun _ => True) (lit_of (unhide G63_4_6) three_str)).mono ?_
        rintro e u3_4_6_7 ⟨ky, rfl, -, ho, hs⟩
        have X3_4_6_7 := hide ((unhide X3_4_6).wrote (hs.more (show Kq + 12 + 3 ≤ Kq + 15 by omega)) ho.wrote)
        have G33_4_6_7 := hide ((ho.wrote.block g3 hg3 (blk_lt (unhide G33_4_6))).trans (unhide G33_4_6))
        have G63_4_6_7 := hide ((ho.wrote.block g6 hg6 (blk_lt (unhide G63_4_6))).trans (unhide G63_4_6))
        clear ho hs
        refine hK.out _ _ (xd_cell (unhide X3_4_6_7)) (fun hHeld => ?_)
        clear hK K
        refine anyH_take 8 50 (v := ?v5) rfl rfl (by kernel_rfl) (by kernel_rfl) (by kernel_rfl) (fun _ _ _ h => h) (by rfl) ?h5 hHeld ?r5
        case h5 => (intro w hSw; (try dsimp only at hSw); go_simp; try (with_reducible rfl))
        simp only [Act.put, List.setIfInBounds_toArray, List.set_cons_zero, List.set_cons_succ]
        refine wpAnyH_ready (rs := [9]) (by kernel_rfl) (by simp) ?_
        refine AllReadyH.cons rfl (fun K hK => ?_) AllReadyH.nil
        have kb := (unhide X3_4_6_7).box
        have XF := hide (show XdSt w (((((u3_4_6_7.setCell ⟨b, 0, none⟩ (.int .i64 3)).setCell ⟨b, 1, none⟩ (.int .i64 r)).setCell ⟨b, 2, none⟩ (.string kx)).setCell ⟨b, 3, none⟩ (.string ky)).setCell ⟨b, 4, none⟩ (.string ⟨#[]⟩)) p a n c xs (Kq + 15) b ⟨3, r, kx, ky, ⟨#[]⟩⟩ from (unhide X3_4_6_7).set 3 r kx ky ⟨#[]⟩)
        have k0 := (heap_at kb 0).1
        have k1 := (heap_at kb 1).1
        have k2 := (heap_at kb 2).1
        have k3 := (heap_at kb 3).1
        have k4 := (heap_at kb 4).1
        have kf0 := (heap_at kb 0).2
        have kf1 := (heap_at kb 1).2
        have kf2 := (heap_at kb 2).2
        have kf3 := (heap_at kb 3).2
        have kf4 := (heap_at kb 4).2
        clear kb
        go_simp
        refine hK.out _ _ (xd_cell (unhide XF)) (fun hHeld => ?_)
        clear hK K
        clear k0 kf0 k1 kf1 k2 kf2 k3 kf3 k4 kf4
        generalize (((((u3_4_6_7.setCell ⟨b, 0, none⟩ (.int .i64 3)).setCell ⟨b, 1, none⟩ (.int .i64 r)).setCell ⟨b, 2, none⟩ (.string kx)).setCell ⟨b, 3, none⟩ (.string ky)).setCell ⟨b, 4, none⟩ (.string ⟨#[]⟩)) = w9 at *
        refine wpAnyH_done (by kernel_rfl) ?_ _
        clear hHeld
        have kb := (unhide XF).box
        have kr := (unhide XF).res
        have FE := hide (((unhide XF).fin (.int .i64 3) (.int .i64 r) (.string kx) (.string ky) (.string ⟨#[]⟩)))
        have SF := hide ((unhide FE).2.more (show _ ≤ Kq + 18 by omega))
        have k0 := (heap_at kb 0).1
        have k1 := (heap_at kb 1).1
        have k2 := (heap_at kb 2).1
        have k3 := (heap_at kb 3).1
        have k4 := (heap_at kb 4).1
        have z0 := (heap_at kr 0).1
        have zf0 := (heap_at kr 0).2
        have z1 := (heap_at kr 1).1
        have zf1 := (heap_at kr 1).2
        have z2 := (heap_at kr 2).1
        have zf2 := (heap_at kr 2).2
        have z3 := (heap_at kr 3).1
        have zf3 := (heap_at kr 3).2
        have z4 := (heap_at kr 4).1
        have zf4 := (heap_at kr 4).2
        clear kb kr
        go_wp2_with fail
        refine bodyPost_ret (v := xv ⟨3, r, kx, ky, ⟨#[]⟩⟩) (by simp [results, Tryz.results64, go_sem, xv, *] <;> rfl) rfl ?_
        exact ⟨⟨3, r, kx, ky, ⟨#[]⟩⟩, rfl, unhide RR, (unhide FE).1, unhide SF⟩
      · have X3_6 := hide ((unhide X3).alloc (.cells #[.string ⟨#[]⟩, .string ⟨#[99]⟩, .string ⟨#[100]⟩] 9))
        have G63_6 := hide (heap_alloc_new u3 (.cells #[.string ⟨#[]⟩, .string ⟨#[99]⟩, .string ⟨#[100]⟩] 9))
        have hg6 : u3.heap.size ≠ p := by have := cell_lt (unhide X3).src.code; simp only at this; omega
        have G33_6 := hide ((((Below.refl u3.heap.size u3).alloc (Nat.le_refl _) (.cells #[.string ⟨#[]⟩, .string ⟨#[99]⟩, .string ⟨#[100]⟩] 9)).block g3 (blk_lt (unhide G33))).trans (unhide G33))
        go_simp
        generalize u3.alloc (.cells #[.string ⟨#[]⟩, .string ⟨#[99]⟩, .string ⟨#[100]⟩] 9) = u3_6 at *
        generalize u3.heap.size = g6 at *
        refine hK.out _ _ (xd_cell (unhide X3_6)) (fun hHeld => ?_)
        clear hK K
        refine wpAnyH_ready (rs := [4]) (by kernel_rfl) (by simp) ?_
        refine AllReadyH.cons rfl (fun K hK => ?_) AllReadyH.nil
        go_simp
        refine (pick_any p g3 3 3 a n c xs (Kq + 9) u3_6 (unhide X3_6).src (by omega) (by omega) (by omega) hg3 (fun _ => True) (lit_of (unhide G33_6) three_str)).mono ?_
        rintro e u3_6_4 ⟨kx, rfl, -, ho, hs⟩
        have X3_6_4 := hide ((unhide X3_6).wrote (hs.more (show Kq + 9 + 3 ≤ Kq + 12 by omega)) ho.wrote)
        have G33_6_4 := hide ((ho.wrote.block g3 hg3 (blk_lt (unhide G33_6))).trans (unhide G33_6))
        have G63_6_4 := hide ((ho.wrote.block g6 hg6 (blk_lt (unhide G63_6))).trans (unhide G63_6))
        clear ho hs
        refine hK.out _ _ (xd_cell (unhide X3_6_4)) (fun hHeld => ?_)
        clear hK K
        refine wpAnyH_ready (rs := [7]) (by kernel_rfl) (by simp) ?_
        refine AllReadyH.cons rfl (fun K hK => ?_) AllReadyH.nil
        go_simp
        refine (pick_any p g6 3 3 a n c xs (Kq + 12) u3_6_4 (unhide X3_6_4).src (by omega) (by omega) (by omega) hg6 (fun _ => True) (lit_of (unhide G63_6_4) three_str)).mono ?_
        rintro e u3_6_4_7 ⟨ky, rfl, -, ho, hs⟩
        have X3_6_4_7 := hide ((unhide X3_6_4).wrote (hs.more (show Kq + 12 + 3 ≤ Kq + 15 by omega)) ho.wrote)
        have G33_6_4_7 := hide ((ho.wrote.block g3 hg3 (blk_lt (unhide G33_6_4))).trans (unhide G33_6_4))
        have G63_6_4_7 := hide ((ho.wrote.block g6 hg6 (blk_lt (unhide G63_6_4))).trans (unhide G63_6_4))
        clear ho hs
        refine hK.out _ _ (xd_cell (unhide X3_6_4_7)) (fun hHeld => ?_)
        clear hK K
        refine anyH_take 8 50 (v := ?v6) rfl rfl (by kernel_rfl) (by kernel_rfl) (by kernel_rfl) (fun _ _ _ h => h) (by rfl) ?h6 hHeld ?r6
        case h6 => (intro w hSw; (try dsimp only at hSw); go_simp; try (with_reducible rfl))
        simp only [Act.put, List.setIfInBounds_toArray, List.set_cons_zero, List.set_cons_succ]
        refine wpAnyH_ready (rs := [9]) (by kernel_rfl) (by simp) ?_
        refine AllReadyH.cons rfl (fun K hK => ?_) AllReadyH.nil
        have kb := (unhide X3_6_4_7).box
        have XF := hide (show XdSt w (((((u3_6_4_7.setCell ⟨b, 0, none⟩ (.int .i64 3)).setCell ⟨b, 1, none⟩ (.int .i64 r)).setCell ⟨b, 2, none⟩ (.string kx)).setCell ⟨b, 3, none⟩ (.string ky)).setCell ⟨b, 4, none⟩ (.string ⟨#[]⟩)) p a n c xs (Kq + 15) b ⟨3, r, kx, ky, ⟨#[]⟩⟩ from (unhide X3_6_4_7).set 3 r kx ky ⟨#[]⟩)
        have k0 := (heap_at kb 0).1
        have k1 := (heap_at kb 1).1
        have k2 := (heap_at kb 2).1
        have k3 := (heap_at kb 3).1
        have k4 := (heap_at kb 4).1
        have kf0 := (heap_at kb 0).2
        have kf1 := (heap_at kb 1).2
        have kf2 := (heap_at kb 2).2
        have kf3 := (heap_at kb 3).2
        have kf4 := (heap_at kb 4).2
        clear kb
        go_simp
        refine hK.out _ _ (xd_cell (unhide XF)) (fun hHeld => ?_)
        clear hK K
        clear k0 kf0 k1 kf1 k2 kf2 k3 kf3 k4 kf4
        generalize (((((u3_6_4_7.setCell ⟨b, 0, none⟩ (.int .i64 3)).setCell ⟨b, 1, none⟩ (.int .i64 r)).setCell ⟨b, 2, none⟩ (.string kx)).setCell ⟨b, 3, none⟩ (.string ky)).setCell ⟨b, 4, none⟩ (.string ⟨#[]⟩)) = w9 at *
        refine wpAnyH_done (by kernel_rfl) ?_ _
        clear hHeld
        have kb := (unhide XF).box
        have kr := (unhide XF).res
        have FE := hide (((unhide XF).fin (.int .i64 3) (.int .i64 r) (.string kx) (.string ky) (.string ⟨#[]⟩)))
        have SF := hide ((unhide FE).2.more (show _ ≤ Kq + 18 by omega))
        have k0 := (heap_at kb 0).1
        have k1 := (heap_at kb 1).1
        have k2 := (heap_at kb 2).1
        have k3 := (heap_at kb 3).1
        have k4 := (heap_at kb 4).1
        have z0 := (heap_at kr 0).1
        have zf0 := (heap_at kr 0).2
        have z1 := (heap_at kr 1).1
        have zf1 := (heap_at kr 1).2
        have z2 := (heap_at kr 2).1
        have zf2 := (heap_at kr 2).2
        have z3 := (heap_at kr 3).1
        have zf3 := (heap_at kr 3).2
        have z4 := (heap_at kr 4).1
        have zf4 := (heap_at kr 4).2
        clear kb kr
        go_wp2_with fail
        refine bodyPost_ret (v := xv ⟨3, r, kx, ky, ⟨#[]⟩⟩) (by simp [results, Tryz.results64, go_sem, xv, *] <;> rfl) rfl ?_
        exact ⟨⟨3, r, kx, ky, ⟨#[]⟩⟩, rfl, unhide RR, (unhide FE).1, unhide SF⟩
    · have X6 := hide ((unhide Xs).alloc (.cells #[.string ⟨#[]⟩, .string ⟨#[99]⟩, .string ⟨#[100]⟩] 9))
      have G66 := hide (heap_alloc_new us (.cells #[.string ⟨#[]⟩, .string ⟨#[99]⟩, .string ⟨#[100]⟩] 9))
      have hg6 : us.heap.size ≠ p := by have := cell_lt (unhide Xs).src.code; simp only at this; omega
      go_simp
      generalize us.alloc (.cells #[.string ⟨#[]⟩, .string ⟨#[99]⟩, .string ⟨#[100]⟩] 9) = u6 at *
      generalize us.heap.size = g6 at *
      refine hK.out _ _ (xd_cell (unhide X6)) (fun hHeld => ?_)
      clear hK K
      refine wpAnyH_ready (rs := [3]) (by kernel_rfl) (by simp) ?_
      refine AllReadyH.cons rfl (fun K hK => ?_) AllReadyH.nil
      have X6_3 := hide ((unhide X6).alloc (.cells #[.string ⟨#[]⟩, .string ⟨#[97]⟩, .string ⟨#[98]⟩] 9))
      have G36_3 := hide (heap_alloc_new u6 (.cells #[.string ⟨#[]⟩, .string ⟨#[97]⟩, .string ⟨#[98]⟩] 9))
      have hg3 : u6.heap.size ≠ p := by have := cell_lt (unhide X6).src.code; simp only at this; omega
      have G66_3 := hide ((((Below.refl u6.heap.size u6).alloc (Nat.le_refl _) (.cells #[.string ⟨#[]⟩, .string ⟨#[97]⟩, .string ⟨#[98]⟩] 9)).block g6 (blk_lt (unhide G66))).trans (unhide G66))
      go_simp
      generalize u6.alloc (.cells #[.string ⟨#[]⟩, .string ⟨#[97]⟩, .string ⟨#[98]⟩] 9) = u6_3 at *
      generalize u6.heap.size = g3 at *
      refine hK.out _ _ (xd_cell (unhide X6_3)) (fun hHeld => ?_)
      clear hK K
      refine wpAnyH_ready (rs := [4]) (by kernel_rfl) (by simp) ?_
      refine AllReadyH.cons rfl (fun K hK => ?_) AllReadyH.nil
      go_simp
      refine (pick_any p g3 3 3 a n c xs (Kq + 9) u6_3 (unhide X6_3).src (by omega) (by omega) (by omega) hg3 (fun _ => True) (lit_of (unhide G36_3) three_str)).mono ?_
      rintro e u6_3_4 ⟨kx, rfl, -, ho, hs⟩
      have X6_3_4 := hide ((unhide X6_3).wrote (hs.more (show Kq + 9 + 3 ≤ Kq + 12 by omega)) ho.wrote)
      have G36_3_4 := hide ((ho.wrote.block g3 hg3 (blk_lt (unhide G36_3))).trans (unhide G36_3))
      have G66_3_4 := hide ((ho.wrote.block g6 hg6 (blk_lt (unhide G66_3))).trans (unhide G66_3))
      clear ho hs
      refine hK.out _ _ (xd_cell (unhide X6_3_4)) (fun hHeld => ?_)
      clear hK K
      refine wpAnyH_ready (rs := [7]) (by kernel_rfl) (by simp) ?_
      refine AllReadyH.cons rfl (fun K hK => ?_) AllReadyH.nil
      go_simp
      refine (pick_any p g6 3 3 a n c xs (Kq + 12) u6_3_4 (unhide X6_3_4).src (by omega) (by omega) (by omega) hg6 (fun _ => True) (lit_of (unhide G66_3_4) three_str)).mono ?_
      rintro e u6_3_4_7 ⟨ky, rfl, -, ho, hs⟩
      have X6_3_4_7 := hide ((unhide X6_3_4).wrote (hs.more (show Kq + 12 + 3 ≤ Kq + 15 by omega)) ho.wrote)
      have G36_3_4_7 := hide ((ho.wrote.block g3 hg3 (blk_lt (unhide G36_3_4))).trans (unhide G36_3_4))
      have G66_3_4_7 := hide ((ho.wrote.block g6 hg6 (blk_lt (unhide G66_3_4))).trans (unhide G66_3_4))
      clear ho hs
      refine hK.out _ _ (xd_cell (unhide X6_3_4_7)) (fun hHeld => ?_)
      clear hK K
      refine anyH_take 8 50 (v := ?v7) rfl rfl (by kernel_rfl) (by kernel_rfl) (by kernel_rfl) (fun _ _ _ h => h) (by rfl) ?h7 hHeld ?r7
      case h7 => (intro w hSw; (try dsimp only at hSw); go_simp; try (with_reducible rfl))
      simp only [Act.put, List.setIfInBounds_toArray, List.set_cons_zero, List.set_cons_succ]
      refine wpAnyH_ready (rs := [9]) (by kernel_rfl) (by simp) ?_
      refine AllReadyH.cons rfl (fun K hK => ?_) AllReadyH.nil
      have kb := (unhide X6_3_4_7).box
      have XF := hide (show XdSt w (((((u6_3_4_7.setCell ⟨b, 0, none⟩ (.int .i64 3)).setCell ⟨b, 1, none⟩ (.int .i64 r)).setCell ⟨b, 2, none⟩ (.string kx)).setCell ⟨b, 3, none⟩ (.string ky)).setCell ⟨b, 4, none⟩ (.string ⟨#[]⟩)) p a n c xs (Kq + 15) b ⟨3, r, kx, ky, ⟨#[]⟩⟩ from (unhide X6_3_4_7).set 3 r kx ky ⟨#[]⟩)
      have k0 := (heap_at kb 0).1
      have k1 := (heap_at kb 1).1
      have k2 := (heap_at kb 2).1
      have k3 := (heap_at kb 3).1
      have k4 := (heap_at kb 4).1
      have kf0 := (heap_at kb 0).2
      have kf1 := (heap_at kb 1).2
      have kf2 := (heap_at kb 2).2
      have kf3 := (heap_at kb 3).2
      have kf4 := (heap_at kb 4).2
      clear kb
      go_simp
      refine hK.out _ _ (xd_cell (unhide XF)) (fun hHeld => ?_)
      clear hK K
      clear k0 kf0 k1 kf1 k2 kf2 k3 kf3 k4 kf4
      generalize (((((u6_3_4_7.setCell ⟨b, 0, none⟩ (.int .i64 3)).setCell ⟨b, 1, none⟩ (.int .i64 r)).setCell ⟨b, 2, none⟩ (.string kx)).setCell ⟨b, 3, none⟩ (.string ky)).setCell ⟨b, 4, none⟩ (.string ⟨#[]⟩)) = w9 at *
      refine wpAnyH_done (by kernel_rfl) ?_ _
      clear hHeld
      have kb := (unhide XF).box
      have kr := (unhide XF).res
      have FE := hide (((unhide XF).fin (.int .i64 3) (.int .i64 r) (.string kx) (.string ky) (.string ⟨#[]⟩)))
      have SF := hide ((unhide FE).2.more (show _ ≤ Kq + 18 by omega))
      have k0 := (heap_at kb 0).1
      have k1 := (heap_at kb 1).1
      have k2 := (heap_at kb 2).1
      have k3 := (heap_at kb 3).1
      have k4 := (heap_at kb 4).1
      have z0 := (heap_at kr 0).1
      have zf0 := (heap_at kr 0).2
      have z1 := (heap_at kr 1).1
      have zf1 := (heap_at kr 1).2
      have z2 := (heap_at kr 2).1
      have zf2 := (heap_at kr 2).2
      have z3 := (heap_at kr 3).1
      have zf3 := (heap_at kr 3).2
      have z4 := (heap_at kr 4).1
      have zf4 := (heap_at kr 4).2
      clear kb kr
      go_wp2_with fail
      refine bodyPost_ret (v := xv ⟨3, r, kx, ky, ⟨#[]⟩⟩) (by simp [results, Tryz.results64, go_sem, xv, *] <;> rfl) rfl ?_
      exact ⟨⟨3, r, kx, ky, ⟨#[]⟩⟩, rfl, unhide RR, (unhide FE).1, unhide SF⟩
  have kb := (unhide X1).box
  have kr := (unhide X1).res
  have FE := hide (((unhide X1).fin (.int .i64 2) (.int .i64 r) (.string key) (.string ⟨#[]⟩) (.string ⟨#[]⟩)))
  have SF := hide ((unhide FE).2.more (show _ ≤ Kq + 18 by omega))
  have k0 := (heap_at kb 0).1
  have k1 := (heap_at kb 1).1
  have k2 := (heap_at kb 2).1
  have k3 := (heap_at kb 3).1
  have k4 := (heap_at kb 4).1
  have z0 := (heap_at kr 0).1
  have zf0 := (heap_at kr 0).2
  have z1 := (heap_at kr 1).1
  have zf1 := (heap_at kr 1).2
  have z2 := (heap_at kr 2).1
  have zf2 := (heap_at kr 2).2
  have z3 := (heap_at kr 3).1
  have zf3 := (heap_at kr 3).2
  have z4 := (heap_at kr 4).1
  have zf4 := (heap_at kr 4).2
  clear kb kr
  go_wp2_with fail
  refine bodyPost_ret (v := xv ⟨2, r, key, ⟨#[]⟩, ⟨#[]⟩⟩) (by simp [results, Tryz.results64, go_sem, xv, *] <;> rfl) rfl ?_
  exact ⟨⟨2, r, key, ⟨#[]⟩, ⟨#[]⟩⟩, rfl, unhide RR, (unhide FE).1, unhide SF⟩
end Go.Proofs.YtfajenejngddeaaGreat

namespace Go.Proofs.YtfajenejngddeaaGreat
open Go.RowKit

theorem Tryz.infoXa : (Tryz.prog.info? 64).map (fun i => (i.zero, i.size, i.bytes)) = some (some (.agg #[.int .i64 0, .int .i64 0, .string ByteArray.empty, .string ByteArray.empty, .string ByteArray.empty]), 5, 64) := by kernel_rfl
/-- A drawn act's session is there. -/
def okX (d : TxD) : Prop := 0 ≤ d.ses ∧ d.ses ≤ 2
/-- Acts under way. -/
structure XaSt (w wr : World) (p : Nat) (a : Option Addr) (n c : Nat) (xs : List Int) (K : Int) (v : Value) (ds : List TxD) : Prop where
  src : Src wr p a n c xs K
  own : XOwns wr w.heap.size v ds
  wro : Wrote p w wr
  hp : p < w.heap.size
  hc : ∀ x, a = some x → 0 < n → x.block < w.heap.size
  ok : ∀ d ∈ ds, okX d
theorem XaSt.wrote {w wr wr2 : World} {p : Nat} {a : Option Addr} {n c : Nat} {xs : List Int} {K K2 : Int} {v : Value} {ds : List TxD} (h : XaSt w wr p a n c xs K v ds) (hs2 : Src wr2 p a n c xs K2) (hw : Wrote p wr wr2) : XaSt w wr2 p a n c xs K2 v ds :=
  have hwb : WrB (fun i => i = p) wr wr2 := ⟨hw.os, hw.tape, hw.output, hw.size, fun k hk hp => hw.block k hp hk⟩
  ⟨hs2, rr_owns_wr h.own hwb (fun i hi e => by have := (World.ownsRow.lt h.own i hi).1; have := h.hp; omega), h.wro.trans hw, h.hp, h.hc, h.ok⟩
theorem XaSt.alloc {w wr : World} {p : Nat} {a : Option Addr} {n c : Nat} {xs : List Int} {K : Int} {v : Value} {ds : List TxD} (h : XaSt w wr p a n c xs K v ds) (o : Obj) : XaSt w (wr.alloc o) p a n c xs K v ds := h.wrote (h.src.alloc o) (Wrote.alloc wr p o)
theorem XaSt.app {w wr : World} {p : Nat} {a : Option Addr} {n c : Nat} {xs : List Int} {K : Int} {v : Value} {ds : List TxD} {d : TxD} (h : XaSt w wr p a n c xs K v ds) (hz : ds.length ≤ 1000) (hv : v ≠ .slice none 0 0) (hd : okX d) :
    ∃ g c' w6, (Builtin.append_ #[31, 31] 31 #[v, .slice (some ⟨wr.heap.size, 0, none⟩) 1 1]).run Tryz.prog (wr.alloc (.cells #[.int .i64 d.kind, .int .i64 d.ses, .string d.key, .string d.to, .string d.val] 64)) = .ok (.slice (some ⟨g, 0, none⟩) (ds.length + 1) c') w6 ∧ XaSt w w6 p a n c xs K (.slice (some ⟨g, 0, none⟩) (ds.length + 1) c') (ds ++ [d]) ∧ ∀ i, i < wr.heap.size → v.ownBlock ≠ some i → w6.heap[i]? = wr.heap[i]? := by
  obtain ⟨i0, hi0, hz0, hz1, hz2⟩ := info_parts Tryz.infoXa
  have bA := (Below.refl wr.heap.size wr).alloc (Nat.le_refl _) (.cells #[.int .i64 d.kind, .int .i64 d.ses, .string d.key, .string d.to, .string d.val] 64)
  have K4 := heap_alloc_new wr (.cells #[.int .i64 d.kind, .int .i64 d.ses, .string d.key, .string d.to, .string d.val] 64)
  have oA := rb_ownsRow_below h.own bA
  have hsz := h.wro.size
  obtain ⟨v', w6, hr, ho, hgr, hnil⟩ := run_append_own (P := Tryz.prog) _ w.heap.size 31 31 64 i0 (.agg #[.int .i64 0, .int .i64 0, .string ByteArray.empty, .string ByteArray.empty, .string ByteArray.empty]) 5 64 Tryz.underlying31 hi0 hz0 hz1 hz2 rfl (by decide) _ _ _ oA ⟨wr.heap.size, 0, none⟩ 1 1 [.int .i64 d.kind, .int .i64 d.ses, .string d.key, .string d.to, .string d.val] rfl (fun j u hu => by
      rw [Addr.add_lit, (heap_at K4 _).1]
      simpa using hu) (by
      intro u hu
      simp only [List.mem_cons, List.not_mem_nil, or_false] at hu
      rcases hu with rfl | rfl | rfl | rfl | rfl <;> rfl) (by unfold maxLen; omega) (by omega) (Nat.le_trans hsz bA.size)
  have hw := WrB.of_grown hgr
  rcases ho.2 with ⟨e, _⟩ | ⟨g, cap, cur, e, hbg, _⟩
  · exact absurd (hnil.1 e).1 hv
  subst e
  refine ⟨g, cap, w6, hr, ⟨?_, ?_, ?_, h.hp, h.hc, fun x hx => (List.mem_append.1 hx).elim (h.ok x) fun e => by cases List.mem_singleton.1 e; exact hd⟩, fun i hi hne => (hw.block i (Nat.lt_of_lt_of_le hi bA.size) hne).trans (bA.block i hi)⟩
  · refine (h.src.alloc _).of_blocks' (hw.block p (by have := h.hp; have := bA.size; omega) (fun e => by have := (World.ownsRow.lt oA p e).1; have := h.hp; omega)) (fun x hx hn => hw.block x.block (by have := h.hc x hx hn; have := bA.size; omega) (fun e => by have := (World.ownsRow.lt oA _ e).1; have := h.hc x hx hn; omega))
  · unfold XOwns
    rw [xcs_append, List.length_append]
    exact ho
  · exact ⟨hw.os.trans (bA.os.trans h.wro.os), hw.tape.trans (bA.tape.trans h.wro.tape), hw.output.trans (bA.output.trans h.wro.output), Nat.le_trans hsz (Nat.le_trans bA.size hw.size), fun k hk hl => (hw.block k (Nat.lt_of_lt_of_le hl (Nat.le_trans hsz bA.size)) (fun e => by have := (World.ownsRow.lt oA k e).1; omega)).trans ((bA.block k (Nat.lt_of_lt_of_le hl hsz)).trans (h.wro.block k hk hl))⟩
def XaRes (p : Nat) (w : World) (e : Ending) (w' : World) : Prop := ∃ g m' c' ds, e = .returned (.slice (some ⟨g, 0, none⟩) m' c') ∧ XOwns w' w.heap.size (.slice (some ⟨g, 0, none⟩) m' c') ds ∧ ds.length ≤ 60 ∧ (∀ d ∈ ds, okX d) ∧ Wrote p w w'
theorem xa_below {w w1 w2 : World} (h1 : Below w.heap.size w w1) (hw : Wrote w.heap.size w1 w2) : Below w.heap.size w w2 := h1.trans (hw.below (Nat.le_refl _) h1.size)
set_option maxRecDepth 100000 in
set_option maxHeartbeats 8000000 in
theorem txActsD_any (p : Nat) (a : Option Addr) (n c : Nat) (xs : List Int) (K : Int) (w : World) (h : Src w p a n c xs K) (hK : K ≤ 100) :
    Calls Tryz.prog 24 #[.pointer (some ⟨p, 0, none⟩)] w fun e w' => XaRes p w e w' := by
  have hp := cell_lt h.code
  have ha := src_code' h
  have bA := (Below.refl w.heap.size w).alloc (Nat.le_refl _) (.cells #[.int .i64 1, .int .i64 0, .string ⟨#[]⟩, .string ⟨#[]⟩, .string ⟨#[]⟩, .int .i64 1, .int .i64 1, .string ⟨#[]⟩, .string ⟨#[]⟩, .string ⟨#[]⟩] 64)
  have T0 := hide (show XaSt w (w.alloc (.cells #[.int .i64 1, .int .i64 0, .string ⟨#[]⟩, .string ⟨#[]⟩, .string ⟨#[]⟩, .int .i64 1, .int .i64 1, .string ⟨#[]⟩, .string ⟨#[]⟩, .string ⟨#[]⟩] 64)) p a n c xs K (.slice (some ⟨w.heap.size, 0, none⟩) 2 2) [⟨1, 0, ⟨#[]⟩, ⟨#[]⟩, ⟨#[]⟩⟩, ⟨1, 1, ⟨#[]⟩, ⟨#[]⟩, ⟨#[]⟩⟩] from
    ⟨h.alloc _, ⟨rfl, .inr ⟨w.heap.size, 2, _, rfl, Nat.le_refl _, heap_alloc_new _ _, Nat.le_refl _, by unfold maxLen; omega, rfl, rfl⟩⟩, ⟨bA.os, bA.tape, bA.output, bA.size, fun k _ hl => bA.block k hl⟩, hp, ha, fun d hd => by
      simp only [List.mem_cons, List.not_mem_nil, or_false] at hd
      rcases hd with rfl | rfl <;> exact ⟨by decide, by decide⟩⟩)
  clear h bA ha
  go_enter Tryz.func24, Tryz.ntmps24
  go_wp2_with fail
  generalize w.alloc (.cells #[.int .i64 1, .int .i64 0, .string ⟨#[]⟩, .string ⟨#[]⟩, .string ⟨#[]⟩, .int .i64 1, .int .i64 1, .string ⟨#[]⟩, .string ⟨#[]⟩, .string ⟨#[]⟩] 64) = W0 at *
  refine (size_draw p a n c xs K 26 W0 (unhide T0).src).mono ?_
  rintro e w1 ⟨r, rfl, hr, hw1⟩
  subst hw1
  have hrw : IntKind.i64.wrap ((r : Int) + 4) = (r : Int) + 4 := by rw [IntKind.wrap_i64]; omega
  go_wp2_with fail
  refine (next_any p a n c xs K ((r : Int) + 4) w1 (unhide T0).src (by omega) (by omega) (by omega)).mono ?_
  rintro e w2 ⟨q, rfl, hq0, hq1, ho, hs⟩
  have T1 := hide ((unhide T0).wrote hs ho.wrote)
  obtain ⟨qn, rfl⟩ : ∃ qn : Nat, q = (qn : Int) := ⟨q.toNat, by omega⟩
  have hqn : qn ≤ 29 := by omega
  clear T0 ho hs hq0 hq1 hrw hr
  generalize w.heap.size = g0 at *
  go_wp2_with fail
  go_loopw [3, 4] (fun ov iv wr => ∃ (k j g cp L : Nat) (ds : List TxD), ov = .slice (some ⟨g, 0, none⟩) L cp ∧ iv = .int .i64 (k : Int) ∧ k + j ≤ 29 ∧ L ≤ 2 + 2 * j ∧ Hid (ds.length = L) ∧ Hid (XaSt w wr p a n c xs (K + 3 + 21 * (j : Int)) (.slice (some ⟨g, 0, none⟩) L cp) ds)) (fun _ iv _ => (intOf iv).toNat)
  case atStart => exact ⟨qn, 0, g0, 2, 2, [⟨1, 0, ⟨#[]⟩, ⟨#[]⟩, ⟨#[]⟩⟩, ⟨1, 1, ⟨#[]⟩, ⟨#[]⟩, ⟨#[]⟩⟩], rfl, rfl, by omega, by omega, rfl, hide (by simpa using unhide T1)⟩
  case round =>
    clear T1
    obtain ⟨k, j, g, cp, L, ds, rfl, rfl, hkL, hLj, hL, hT⟩ := hrel
    by_cases hk : k = 0
    · subst hk
      have hLc : (L : Int) ≤ (cp : Int) := by
        rcases (unhide hT).own.2 with ⟨e, _⟩ | ⟨_, cap, _, e, _, _, hc, _⟩
        · cases e
        · injection e with _ e1 e2; omega
      have hmin : min (L : Int) 150 = (L : Int) := by omega
      have hYR := hide (unhide hT).own
      have hWr := hide (unhide hT).wro
      have hOk := hide (unhide hT).ok
      have hlt : ¬ ((150 : Int) < (L : Int)) := by omega
      have hle : (L : Int) ≤ 150 := by omega
      have htn : (L : Int).toNat = L := by omega
      have hge : (0 : Int) ≤ (L : Int) := by omega
      go_wp2_with fail
      go_ret
      have hl28 : ds.length ≤ 60 := by have := unhide hL; omega
      exact ⟨_, _, _, ds, rfl, unhide hYR, hl28, unhide hOk, unhide hWr⟩
    · obtain ⟨k, rfl⟩ : ∃ j, k = j + 1 := ⟨k - 1, by omega⟩
      have hpos : (0 : Int) < ((k + 1 : Nat) : Int) := by omega
      go_wp2_with fail
      refine (txActD_any p a n c xs (K + 3 + 21 * (j : Int)) wr (unhide hT).src (by omega)).mono ?_
      rintro e w3 ⟨d, rfl, hok, hw, hs⟩
      obtain ⟨dk, di, dy, dt, dv⟩ := d
      unfold xv
      simp only
      have T2 := hide (((unhide hT).wrote hs hw).alloc (.cells #[.int .i64 dk, .int .i64 di, .string dy, .string dt, .string dv] 64))
      have kb := heap_alloc_new w3 (.cells #[.int .i64 dk, .int .i64 di, .string dy, .string dt, .string dv] 64)
      have hgb := (((unhide hT).wrote hs hw).own.lt g rfl).2
      clear hT hw hs
      go_upto_region 6 with fail
      generalize w3.alloc (.cells #[.int .i64 dk, .int .i64 di, .string dy, .string dt, .string dv] 64) = w4 at *
      generalize w3.heap.size = b5 at *
      obtain ⟨g2, c2, w6, hr, T3, hbl⟩ := (unhide T2).app (d := ⟨dk, di, dy, dt, dv⟩) (by have := unhide hL; omega) (fun e => by cases e) hok
      rw [unhide hL] at hr T3
      have kb6 := (hbl b5 (blk_lt kb) (fun e => by injection e with e; simp only at e; omega)).trans kb
      have k0 := (heap_at kb 0).1
      have k1 := (heap_at kb 1).1
      have k2 := (heap_at kb 2).1
      have k3 := (heap_at kb 3).1
      have k4 := (heap_at kb 4).1
      have T3h := hide T3
      have KB := hide kb6
      have hpb : p ≠ b5 := by have := (unhide T2).hp; have := (unhide T2).own.lt g rfl; omega
      have hL2 := hide (show (ds ++ [(⟨dk, di, dy, dt, dv⟩ : TxD)]).length = L + 1 by rw [List.length_append, unhide hL]; rfl)
      simp only at hr
      clear T2 T3 kb kb6 hbl hL
      go_upto_region 7 with (at_builtin; refine ky_wpApp rfl (.tmp 20) (.tmp 22) 31 rfl _ _ _ w6 rfl rfl hr ?_)
      clear k0 k1 k2 k3 k4 hr
      have k0 := (heap_at (unhide KB) 0).1
      have eK : K + 3 + 21 * (j : Int) + 18 + 3 = K + 3 + 21 * ((j + 1 : Nat) : Int) := by omega
      by_cases h6 : dk = 6
      · have h6b : (dk == 6) = true := by simpa using h6
        subst h6
        go_wp2_with fail
        refine (chanceD_any p a n c xs (K + 3 + 21 * (j : Int) + 18) 2 w6 (unhide T3h).src (by omega) (by omega) (by omega)).mono ?_
        rintro e w7 ⟨x, rfl, hw, hs⟩
        rw [eK] at hs
        have T4 := hide ((unhide T3h).wrote hs hw)
        have kb7 := (hw.block b5 (fun e => hpb e.symm) (blk_lt (unhide KB))).trans (unhide KB)
        clear hw hs T3h k0 h6b
        cases x with
        | false =>
          clear kb7 KB
          go_wp2_with fail
          go_roundw
          case rel => exact ⟨k, j + 1, g2, c2, L + 1, _, rfl, by go_num, by omega, by omega, hL2, T4⟩
          case measure => simp [intOf] <;> omega
        | true =>
          have k1 := (heap_at kb7 1).1
          obtain ⟨g3, c3, w8, hr, T5, -⟩ := (unhide T4).app (d := ⟨1, di, ⟨#[]⟩, ⟨#[]⟩, ⟨#[]⟩⟩) (by have := unhide hL2; omega) (fun e => by cases e) hok
          rw [unhide hL2] at hr T5
          have T5h := hide T5
          have hL3 := hide (show ((ds ++ [(⟨6, di, dy, dt, dv⟩ : TxD)]) ++ [(⟨1, di, ⟨#[]⟩, ⟨#[]⟩, ⟨#[]⟩⟩ : TxD)]).length = L + 1 + 1 by rw [List.length_append, unhide hL2]; rfl)
          simp only at hr
          clear T5 T4 kb7 KB hL2
          go_wp2_with (at_builtin; refine ky_wpApp rfl (.tmp 31) (.tmp 35) 31 rfl _ _ _ w8 rfl rfl hr ?_)
          go_roundw
          case rel => exact ⟨k, j + 1, g3, c3, L + 1 + 1, _, rfl, by go_num, by omega, by omega, hL3, T5h⟩
          case measure => simp [intOf] <;> omega
      · have h6b : (dk == 6) = false := by simpa using h6
        have T4 := hide (show XaSt w w6 p a n c xs (K + 3 + 21 * ((j + 1 : Nat) : Int)) (.slice (some ⟨g2, 0, none⟩) (L + 1) c2) (ds ++ [⟨dk, di, dy, dt, dv⟩]) from (unhide T3h).wrote ((unhide T3h).src.more (by omega)) (Wrote.refl _ _))
        clear T3h KB
        go_wp2_with fail
        go_roundw
        case rel => exact ⟨k, j + 1, g2, c2, L + 1, _, rfl, by go_num, by omega, by omega, hL2, T4⟩
        case measure => simp [intOf] <;> omega
set_option maxHeartbeats 1000000 in
theorem txActsOf_any (a : Option Addr) (n c : Nat) (xs : List Int) (w : World) (hr : Row w a n xs) (hby : ∀ i, i < n → 0 ≤ xs.getD i 0 ∧ xs.getD i 0 ≤ 255) (hn : n ≤ 1048576) :
    Calls Tryz.prog 6 #[.slice a n c] w fun e w' => ∃ g m' c' ds, e = .returned (.slice (some ⟨g, 0, none⟩) m' c') ∧ XOwns w' w.heap.size (.slice (some ⟨g, 0, none⟩) m' c') ds ∧ ds.length ≤ 60 ∧ (∀ d ∈ ds, okX d) ∧ Below w.heap.size w w' := by
  have R := hide hr
  have BY := hide hby
  clear hr hby
  go_enter Tryz.func6, Tryz.ntmps6
  go_wp2_with fail
  refine (source_any a n c xs w (unhide R) (unhide BY) hn).mono ?_
  rintro e w1 ⟨rfl, hs1, hb1, hz1⟩
  clear hz1
  go_wp2_with fail
  refine (txActsD_any w.heap.size a n c xs 0 w1 hs1 (by omega)).mono ?_
  rintro e w2 ⟨g, m', c', ds, rfl, hy, hl, hok, hw⟩
  have RES := hide (show ∃ g' m'' c'' ds, Ending.returned (Value.slice (some ⟨g, 0, none⟩) m' c') = .returned (.slice (some ⟨g', 0, none⟩) m'' c'') ∧ XOwns w2 w.heap.size (.slice (some ⟨g', 0, none⟩) m'' c'') ds ∧ ds.length ≤ 60 ∧ (∀ d ∈ ds, okX d) ∧ Below w.heap.size w w2 from ⟨g, m', c', ds, rfl, rs_base hy (hb1.size), hl, hok, xa_below hb1 hw⟩)
  clear hy hl hok hw hb1 hs1
  go_wp2_with fail
  go_ret
  exact unhide RES
end Go.Proofs.YtfajenejngddeaaGreat

namespace Go.Proofs.YtfajenejngddeaaGreat
open Go.RowKit

theorem Tryz.verS : Tryz.prog.underlying 39 = some (.struct (Tryz.prog.fieldsOf 39)) := by kernel_rfl
theorem Tryz.verH : Tryz.prog.stoodInHeld 39 = false := by kernel_rfl
theorem Tryz.verG : Tryz.prog.eqGuardType Tryz.prog.depth 39 = false := by kernel_rfl
set_option maxRecDepth 100000 in
theorem eqVerV (k : ByteArray) (t : Int) (v : ByteArray) (g : Bool) (w : World) : (Op.equalIn 10000 39 (.agg #[.string k, .int .i64 t, .string v, .bool g]) (.agg #[.string k, .int .i64 t, .string v, .bool g])).run Tryz.prog w = .ok true w := by
  rw [run_equalIn_struct w 9999 _ _ _ Tryz.verS Tryz.verH]
  simp [Program.fieldsOf, Tryz.underlying39, Op.eqFields, go_sem, Tryz.underlying9, Tryz.underlying3, Tryz.underlying4]
set_option maxRecDepth 100000 in
set_option maxHeartbeats 2000000 in
theorem sameVersions_any (a a2 : Option Addr) (n c c2 : Nat) (ds : List VerD) (w : World) (h1 : VRow w a n ds) (h2 : VRow w a2 n ds) (hn : n ≤ 100000) :
    Calls Tryz.prog 14 #[.slice a n c, .slice a2 n c2] w fun e w' => e = .returned (.bool true) ∧ Below w.heap.size w w' := by
  have R1 := hide h1
  have R2 := hide h2
  have LN := hide h1.1
  have q3 := Tryz.verG
  have q4 := eqVerV
  clear h1 h2
  go_enter Tryz.func14, Tryz.ntmps14
  go_wp2_with fail
  go_loopw [5] (fun i wr => ∃ k : Nat, k ≤ n ∧ i = .int .i64 k ∧ Below w.heap.size w wr) (fun i _ => n - (intOf i).toNat)
  case atStart => exact ⟨0, Nat.zero_le _, rfl, Below.refl _ _⟩
  case round =>
    obtain ⟨k, hk, rfl, hb⟩ := hrel
    by_cases hlt : k < n
    · have hl := unhide LN
      obtain ⟨b, off, rfl, c0, c1, c2, c3⟩ := ((unhide R1).below hb).2 k (by omega)
      obtain ⟨b', off', rfl, d0, d1, d2, d3⟩ := ((unhide R2).below hb).2 k (by omega)
      generalize ds[k]'(by omega) = em at *
      obtain ⟨ek, et, ev, eg⟩ := em
      simp only at c0 c1 c2 c3 d0 d1 d2 d3
      clear hl
      go_wp2_with fail
      go_quiet (fail)
      go_wp2_with fail
      go_roundw
      case rel => exact ⟨k + 1, by omega, by go_num, bel_drewN hb _⟩
      case measure => simp [intOf]; omega
    · obtain rfl : k = n := by omega
      go_wp2_with fail
      go_ret
      exact ⟨rfl, hb⟩
end Go.Proofs.YtfajenejngddeaaGreat

namespace Go.Proofs.YtfajenejngddeaaGreat
open Go.RowKit

/-- A page that came in. -/
def IsPage (w : World) (lo hi : ByteArray) (ab : Option Addr) (nb : Nat) (es : List EntD) (ac : Option Addr) (nc : Nat) (ds : List DelD) : Prop :=
  ERow w ab nb es ∧ DRow w ac nc ds ∧ lo.size ≤ maxLen ∧ hi.size ≤ maxLen ∧ nb ≤ maxLen ∧ nc ≤ maxLen ∧ (∀ i (hi : i < es.length), es[i].k.size ≤ maxLen ∧ es[i].v.size ≤ maxLen) ∧ (∀ i (hi : i < ds.length), ds[i].k.size ≤ maxLen ∧ ds[i].v.size ≤ maxLen)
theorem IsPage.below {w w' : World} {lo hi : ByteArray} {ab : Option Addr} {nb : Nat} {es : List EntD} {ac : Option Addr} {nc : Nat} {ds : List DelD} (h : IsPage w lo hi ab nb es ac nc ds) (hb : Below w.heap.size w w') : IsPage w' lo hi ab nb es ac nc ds :=
  ⟨h.1.below hb, h.2.1.below hb, h.2.2⟩
end Go.Proofs.YtfajenejngddeaaGreat

namespace Go.Proofs.YtfajenejngddeaaGreat
open Go.RowKit

end Go.Proofs.YtfajenejngddeaaGreat

namespace Go.Proofs.YtfajenejngddeaaGreat
open Go.RowKit

end Go.Proofs.YtfajenejngddeaaGreat

namespace Go.Proofs.YtfajenejngddeaaGreat
open Go.RowKit

end Go.Proofs.YtfajenejngddeaaGreat

namespace Go.Proofs.YtfajenejngddeaaGreat
open Go.RowKit

end Go.Proofs.YtfajenejngddeaaGreat
