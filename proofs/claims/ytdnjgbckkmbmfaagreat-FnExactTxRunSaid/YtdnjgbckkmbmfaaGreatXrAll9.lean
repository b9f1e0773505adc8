/-
  FnExactTxRun is proved: at all lists of acts TxRun answers as the specification, writes into no argument, and its answer owns its memory; no condition beyond the row's own.
-/
import Derived.Test.YtdnjgbckkmbmfaaGreatXrAll8
import Derived.Test.YtdnjgbckkmbmfaaGreatXrAll5
import Derived.Test.YtdnjgbckkmbmfaaGreatXrAll7
import Derived.Test.YtdnjgbckkmbmfaaGreatXrAll6
import Derived.Test.YtdnjgbckkmbmfaaGreatXrAll2
import Derived.Test.YtdnjgbckkmbmfaaGreatXrAll1
import Derived.Deep.RegionWith
import Derived.Test.YtdnjgbckkmbmfaaGreatWrT
import Derived.Test.YtdnjgbckkmbmfaaGreatGdA
import Derived.Test.YtdnjgbckkmbmfaaGreatSlT
import Derived.Deep.Cut
import Derived.Test.YtdnjgbckkmbmfaaGreatRowR
import Derived.Deep.WholeRow
import Derived.Test.YtdnjgbckkmbmfaaGreatXrAll3
import Derived.Test.YtdnjgbckkmbmfaaGreatOwn
import Derived.Deep.Slices
import Derived.Lib.SmallJoins
import Derived.OpenShut
import Derived.ProofKit
import Derived.ShutString
import Derived.ChangeOld
import Derived.Below
namespace Go.Proofs.YtdnjgbckkmbmfaaGreat
open Go.RowKit

theorem zr_box {w : World} {B n tb : Nat} {v : Value} {zs : List ZrH} {cs : Array Value} {t : TypeId} (h : NOwn w B 40 4 v n (zs.map zrEl)) (hb : w.heap[tb]? = some (.cells cs t (0, 0))) (h1 : 40 ≠ t) (h2 : 48 ≠ t) : ¬ NBl v (zs.map zrEl) tb := fun hn => by
  rcases hn with hn | ⟨k, a, x, hx, hi⟩
  · exact own_box h.row hb h1 hn
  · have ht : x.t = 48 := by
      obtain ⟨e, he, hxe⟩ := sbAt_mem hx
      obtain ⟨y, _, rfl⟩ := List.mem_map.1 he
      rw [List.mem_singleton.1 hxe]
    have hd := h.dat k a x hx
    rw [ht] at hd
    exact own_box hd hb h2 hi
structure TrSt (W v : World) (tb : Nat) (l f s : Sl) (hs : List SeH) (d : VsD) (rv : Value) (zs : List ZrH) : Prop where
  bel : Below W.heap.size W v
  own : VzOwn v W.heap.size l f s hs d
  box : v.heap[tb]? = some (.cells (vzC d.next l f s) 29 (0, 0))
  rep : ZrOwn v W.heap.size rv zs
  tge : W.heap.size ≤ tb
theorem TrSt.below {W v v' : World} {tb : Nat} {l f s : Sl} {hs : List SeH} {d : VsD} {rv : Value} {zs : List ZrH} (h : TrSt W v tb l f s hs d rv zs) (hb : Below v.heap.size v v') : TrSt W v' tb l f s hs d rv zs :=
  ⟨h.bel.trans (hb.mono h.bel.size), h.own.below hb, (hb.block tb (blk_lt h.box)).trans h.box, h.rep.below hb, h.tge⟩
set_option maxRecDepth 100000 in
theorem TrSt.push {W wr u : World} {tb : Nat} {l f s l' f' s' : Sl} {hs hs' : List SeH} {d d' : VsD} {rv : Value} {zs : List ZrH} (h : TrSt W wr tb l f s hs d rv zs) (hb : Below wr.heap.size wr u) (own' : VzOwn u W.heap.size l' f' s' hs' d') (p : RepD) (r : Sl) (eo : EOwns u wr.heap.size (.slice r.a r.n r.c) p.list) (hz : zs.length ≤ 1000) :
    ∃ q : Sl, ∃ w5, (Builtin.append_ #[30, 30] 30 #[rv, .slice (some ⟨(sv4 u tb (.int .i64 d'.next) (.slice l'.a l'.n l'.c) (.slice f'.a f'.n f'.c) (.slice s'.a s'.n s'.c)).heap.size, 0, none⟩) 1 1]).run Tryz.prog ((sv4 u tb (.int .i64 d'.next) (.slice l'.a l'.n l'.c) (.slice f'.a f'.n f'.c) (.slice s'.a s'.n s'.c)).alloc (.cells #[.int .i64 p.code, .int .i64 p.time, .string p.val, .slice r.a r.n r.c] 40)) = .ok (.slice q.a q.n q.c) w5 ∧ TrSt W w5 tb l' f' s' hs' d' (.slice q.a q.n q.c) (zs ++ [⟨p, r⟩]) := by
  have hu := h.below hb
  have hw := sv4_wr u tb (.int .i64 d'.next) (.slice l'.a l'.n l'.c) (.slice f'.a f'.n f'.c) (.slice s'.a s'.n s'.c)
  have hx := sv4_heap hu.box (.int .i64 d'.next) (.slice l'.a l'.n l'.c) (.slice f'.a f'.n f'.c) (.slice s'.a s'.n s'.c)
  have o1 := own'.box hu.box (by decide) (by decide) (by decide) hw
  have e1 := own_keep eo hu.box (by decide) hw
  have r1 : ZrOwn (sv4 u tb (.int .i64 d'.next) (.slice l'.a l'.n l'.c) (.slice f'.a f'.n f'.c) (.slice s'.a s'.n s'.c)) W.heap.size rv zs := hu.rep.keep hw (fun i hi e => by subst e; exact zr_box hu.rep hu.box (by decide) (by decide) hi)
  have b1 := hu.bel.trans (WrB.below hw (fun i e => by rw [e]; exact h.tge) hu.bel.size)
  have hwr : wr.heap.size ≤ (sv4 u tb (.int .i64 d'.next) (.slice l'.a l'.n l'.c) (.slice f'.a f'.n f'.c) (.slice s'.a s'.n s'.c)).heap.size := Nat.le_trans hb.size hw.size
  have hlt : ∀ i, NBl rv (zs.map zrEl) i → i < wr.heap.size := fun i hi => (h.rep.lt i hi).2
  clear hw
  generalize sv4 u tb (.int .i64 d'.next) (.slice l'.a l'.n l'.c) (.slice f'.a f'.n f'.c) (.slice s'.a s'.n s'.c) = u1 at *
  obtain ⟨i0, hi0, hz0, hz1, hz2⟩ := info_parts Tryz.infoZr
  obtain ⟨v', w5, hrun, hN, hg, -⟩ := NOwn.app (e := zrEl ⟨p, r⟩) (C := wr.heap.size) 30 Tryz.underlying30 hi0 hz0 hz1 hz2 rfl (by decide) (by decide) r1 rfl (by intro y hy; simp only [zrEl, List.mem_cons, List.not_mem_nil, or_false] at hy; rcases hy with rfl | rfl | rfl | rfl <;> rfl) (fun y hy => by rw [List.mem_singleton.1 hy]; exact e1) hlt h.bel.size (fun a b y z hy hz' hab => by
    match a, hy, b, hz' with
    | 0, _, 0, _ => exact absurd rfl hab
    | a + 1, hy, _, _ => cases hy
    | 0, _, b + 1, hz' => cases hz') (by omega) b1.size
  obtain ⟨q, rfl, -⟩ := v_slice hN.row
  have bA : Below u1.heap.size u1 (u1.alloc (.cells (zrEl ⟨p, r⟩).hd.toArray 40)) := (Below.refl _ _).alloc (Nat.le_refl _) _
  have hG := WrB.of_grown hg
  have oA := o1.below bA
  have rA := r1.below bA
  have xA := (bA.block tb (blk_lt hx)).trans hx
  have bB := b1.trans (bA.mono b1.size)
  refine ⟨q, w5, hrun, ⟨bB.trans (WrB.below hG (fun i hi => (rA.row.lt i hi).1) bB.size), oA.apart hG (fun i hi => own_other oA.vo rA.row (by decide) hi) (fun i hi => own_other oA.fo rA.row (by decide) hi) (fun i hi e => ?_), (hG.block tb (blk_lt xA) (own_box rA.row xA (by decide))).trans xA, ?_, h.tge⟩⟩
  · obtain ⟨cur, hc⟩ := own_kind rA.row e
    exact se_box oA.so hc (by decide) (by decide) hi
  · have := hN
    rw [← List.map_singleton, ← List.map_append] at this
    rw [show zs.length + 1 = (zs ++ [(⟨p, r⟩ : ZrH)]).length by simp] at this
    exact this
structure RgT (W wr u : World) (p : VsD × RepD) (res : Option (Sl × Sl × Sl × List SeH × Sl)) (b8 b9 : Option Nat) : Prop where
  bel : Below wr.heap.size wr u
  r : ∀ l f s hs r, res = some (l, f, s, hs, r) → VzOwn u W.heap.size l f s hs p.1 ∧ EOwns u wr.heap.size (.slice r.a r.n r.c) p.2.list
  e8 : ∀ b, b8 = some b → wr.heap.size ≤ b ∧ u.heap[b]? = some (.cells #[.int .i64 0, .slice none 0 0, .slice none 0 0, .slice none 0 0] 29 (0, 0))
  e9 : ∀ b, b9 = some b → wr.heap.size ≤ b ∧ u.heap[b]? = some (.cells #[.int .i64 0, .int .i64 0, .string ⟨#[]⟩, .slice none 0 0] 40 (0, 0))
theorem RgT.step {W wr u u' : World} {p : VsD × RepD} {res : Option (Sl × Sl × Sl × List SeH × Sl)} {b8 b9 : Option Nat} (h : RgT W wr u p res b8 b9) (hb : Below u.heap.size u u') : RgT W wr u' p res b8 b9 :=
  ⟨h.bel.trans (hb.mono h.bel.size), fun l f s hs r e => ⟨(h.r l f s hs r e).1.below hb, rb_ownsRow_below (h.r l f s hs r e).2 hb⟩, fun b e => ⟨(h.e8 b e).1, (hb.block b (blk_lt (h.e8 b e).2)).trans (h.e8 b e).2⟩, fun b e => ⟨(h.e9 b e).1, (hb.block b (blk_lt (h.e9 b e).2)).trans (h.e9 b e).2⟩⟩
theorem RgT.lit8 {W wr u : World} {p : VsD × RepD} {res : Option (Sl × Sl × Sl × List SeH × Sl)} {b9 : Option Nat} (h : RgT W wr u p res none b9) : RgT W wr (u.alloc (.cells #[.int .i64 0, .slice none 0 0, .slice none 0 0, .slice none 0 0] 29)) p res (some u.heap.size) b9 := by
  have s := h.step ((Below.refl u.heap.size u).alloc (Nat.le_refl _) (.cells #[.int .i64 0, .slice none 0 0, .slice none 0 0, .slice none 0 0] 29))
  refine ⟨s.bel, s.r, fun b e => ?_, s.e9⟩
  injection e with e
  subst e
  exact ⟨h.bel.size, heap_alloc_new _ _⟩
theorem RgT.lit9 {W wr u : World} {p : VsD × RepD} {res : Option (Sl × Sl × Sl × List SeH × Sl)} {b8 : Option Nat} (h : RgT W wr u p res b8 none) : RgT W wr (u.alloc (.cells #[.int .i64 0, .int .i64 0, .string ⟨#[]⟩, .slice none 0 0] 40)) p res b8 (some u.heap.size) := by
  have s := h.step ((Below.refl u.heap.size u).alloc (Nat.le_refl _) (.cells #[.int .i64 0, .int .i64 0, .string ⟨#[]⟩, .slice none 0 0] 40))
  refine ⟨s.bel, s.r, s.e8, fun b e => ?_⟩
  injection e with e
  subst e
  exact ⟨h.bel.size, heap_alloc_new _ _⟩
theorem RgT.call {W wr u u' : World} {d : VsD} {p : VsD × RepD} {l f s : Sl} {hs : List SeH} {b8 b9 : Option Nat} {e : Ending} (h : RgT W wr u p none b8 b9) (hO : VzOwn wr W.heap.size l f s hs d) (hW : W.heap.size ≤ wr.heap.size) (hr : StRes l f s hs d p u e u') :
    ∃ l' f' s' : Sl, ∃ (hs' : List SeH) (r : Sl), e = .returned (.tuple #[.agg #[.int .i64 p.1.next, .slice l'.a l'.n l'.c, .slice f'.a f'.n f'.c, .slice s'.a s'.n s'.c], .agg #[.int .i64 p.2.code, .int .i64 p.2.time, .string p.2.val, .slice r.a r.n r.c]]) ∧ RgT W wr u' p (some (l', f', s', hs', r)) b8 b9 := by
  obtain ⟨l', f', s', hs', r, he, hv, heo, hb⟩ := hr
  have s := h.step hb
  refine ⟨l', f', s', hs', r, he, s.bel, fun l2 f2 s2 hs2 r2 e2 => ?_, s.e8, s.e9⟩
  injection e2 with e2
  injection e2 with e1 e2
  injection e2 with e3 e2
  injection e2 with e4 e2
  injection e2 with e5 e6
  subst e1 e3 e4 e5 e6
  refine ⟨?_, gd_base heo h.bel.size⟩
  rcases hv with ⟨rfl, rfl, rfl, rfl, hd⟩ | hv
  · rw [hd]; exact hO.below s.bel
  · exact hv.dn (Nat.le_trans hW h.bel.size)
def txC (acts : List TxD) : Int := if 4096 < acts.length then 2 else if 150 < acts.length then 6 else 0
def txV (acts : List TxD) : VsD := if 150 < acts.length then ⟨0, [], [], []⟩ else (runV acts).1
def txR (acts : List TxD) : List RepD := if 150 < acts.length then [] else (runV acts).2
def TxRes (acts : List TxD) (w : World) (e : Ending) (w' : World) : Prop := ∃ l f s hs, ∃ (q : Sl) (zs : List ZrH), e = .returned (.tuple #[.agg (vzC (txV acts).next l f s), .slice q.a q.n q.c, .int .i64 (txC acts)]) ∧ VzOwn w' w.heap.size l f s hs (txV acts) ∧ ZrOwn w' w.heap.size (.slice q.a q.n q.c) zs ∧ zs.map (·.X) = txR acts ∧ Below w.heap.size w w'
theorem vz_none (w : World) (B : Nat) : VzOwn w B ⟨none, 0, 0⟩ ⟨none, 0, 0⟩ ⟨none, 0, 0⟩ [] ⟨0, [], [], []⟩ := ⟨World.ownsRow_nil _ _ _ _, World.ownsRow_nil _ _ _ _, NOwn.flat (World.ownsRow_nil _ _ _ _) rfl (fun e he => by cases he) (fun e he => by cases he), rfl, fun i hi => by cases hi⟩
theorem zr_lit {w : World} {B : Nat} (hB : B ≤ w.heap.size) : ZrOwn (w.alloc (.cells #[] 40)) B (.slice (some ⟨w.heap.size, 0, none⟩) 0 0) [] := NOwn.flat (gd_base (nil_lit (w := w) 40 4) hB) rfl (fun e he => by cases he) (fun e he => by cases he)
set_option maxRecDepth 100000 in
set_option maxHeartbeats 8000000 in
theorem specTxRun_any (a : Option Addr) (N c : Nat) (acts : List TxD) (w : World) (hR : XRow w a N acts) (hn : N ≤ 1048576) :
    Calls Tryz.prog 8 #[.slice a N c] w fun e w' => TxRes acts w e w' := by
  have L := hide hR.1
  have b0 : Below w.heap.size w (w.alloc (.cells #[.int .i64 0, .slice none 0 0, .slice none 0 0, .slice none 0 0] 29)) := (Below.refl _ _).alloc (Nat.le_refl _) _
  have K0 := heap_alloc_new w (.cells #[.int .i64 0, .slice none 0 0, .slice none 0 0, .slice none 0 0] 29)
  have hz0 : w.heap.size < (w.alloc (.cells #[.int .i64 0, .slice none 0 0, .slice none 0 0, .slice none 0 0] 29)).heap.size := by simp
  have LONG := hide (show 150 < N → ∀ cc : Int, txC acts = cc → TxRes acts w (.returned (.tuple #[.agg #[.int .i64 0, .slice none 0 0, .slice none 0 0, .slice none 0 0], .slice (some ⟨w.heap.size + 1, 0, none⟩) 0 0, .int .i64 cc])) ((w.alloc (.cells #[.int .i64 0, .slice none 0 0, .slice none 0 0, .slice none 0 0] 29)).alloc (.cells #[] 40)) from fun h cc hc => by
    have hz : (w.alloc (.cells #[.int .i64 0, .slice none 0 0, .slice none 0 0, .slice none 0 0] 29)).heap.size = w.heap.size + 1 := by simp
    have h' : 150 < acts.length := by rw [unhide L]; exact h
    have hv : txV acts = ⟨0, [], [], []⟩ := by unfold txV; rw [if_pos h']
    have hr : txR acts = [] := by unfold txR; rw [if_pos h']
    refine ⟨⟨none, 0, 0⟩, ⟨none, 0, 0⟩, ⟨none, 0, 0⟩, [], ⟨some ⟨w.heap.size + 1, 0, none⟩, 0, 0⟩, [], by rw [hc, hv], by rw [hv]; exact vz_none _ _, ?_, by rw [hr]; rfl, b0.alloc b0.size _⟩
    rw [← hz]
    exact zr_lit b0.size)
  by_cases hl1 : 4096 < N
  · have hC : txC acts = 2 := by unfold txC; rw [if_pos (by rw [unhide L]; exact hl1)]
    have RES := hide (unhide LONG (by omega) 2 hC)
    clear hC
    go_enter Tryz.func8, Tryz.ntmps8
    go_wp2_with fail
    refine bodyPost_ret (v := .tuple #[.agg #[.int .i64 0, .slice none 0 0, .slice none 0 0, .slice none 0 0], .slice (some ⟨w.heap.size + 1, 0, none⟩) 0 0, .int .i64 2]) (by simp [results, Tryz.results8, go_sem]) rfl ?_
    exact unhide RES
  by_cases hl2 : 150 < N
  · have hC : txC acts = 6 := by unfold txC; rw [if_neg (by rw [unhide L]; exact hl1), if_pos (by rw [unhide L]; exact hl2)]
    have RES := hide (unhide LONG hl2 6 hC)
    clear hC
    go_enter Tryz.func8, Tryz.ntmps8
    go_wp2_with fail
    refine bodyPost_ret (v := .tuple #[.agg #[.int .i64 0, .slice none 0 0, .slice none 0 0, .slice none 0 0], .slice (some ⟨w.heap.size + 1, 0, none⟩) 0 0, .int .i64 6]) (by simp [results, Tryz.results8, go_sem]) rfl ?_
    exact unhide RES
  have RT := hide (show txC acts = 0 ∧ txV acts = (runV acts).1 ∧ txR acts = (runV acts).2 by
    have h1 : ¬ 4096 < acts.length := by rw [unhide L]; exact hl1
    have h2 : ¬ 150 < acts.length := by rw [unhide L]; exact hl2
    unfold txC txV txR
    rw [if_neg h1, if_neg h2, if_neg h2, if_neg h2]
    exact ⟨rfl, rfl, rfl⟩)
  have R := hide hR
  have HN := hide (l06New_any (w.alloc (.cells #[.int .i64 0, .slice none 0 0, .slice none 0 0, .slice none 0 0] 29)))
  clear hR LONG
  go_enter Tryz.func8, Tryz.ntmps8
  go_wp2_with fail
  generalize w.alloc (.cells #[.int .i64 0, .slice none 0 0, .slice none 0 0, .slice none 0 0] 29) = W at *
  refine (unhide HN).mono ?_
  rintro e w1 ⟨⟨la, ln, lc⟩, ⟨fa, fn, fc⟩, ⟨sa, sn, sc⟩, hs, rfl, hO, hb1⟩
  unfold vzC
  simp only
  have e1 : newV.next = 1 := rfl
  rw [e1]
  have bT := (Below.refl w1.heap.size w1).alloc (Nat.le_refl _) (.cells #[.int .i64 1, .slice la ln lc, .slice fa fn fc, .slice sa sn sc] 29)
  have kT := heap_alloc_new w1 (.cells #[.int .i64 1, .slice la ln lc, .slice fa fn fc, .slice sa sn sc] 29)
  have O1 := hO.below bT
  have B1 := hb1.trans (bT.mono hb1.size)
  have hz1 := hb1.size
  have BZ := hide b0
  have K0h := hide K0
  clear HN hO hb1 bT b0 K0 e1
  go_upto_region 6 with fail
  generalize w1.alloc (.cells #[.int .i64 1, .slice la ln lc, .slice fa fn fc, .slice sa sn sc] 29) = w2 at *
  generalize w1.heap.size = tb at *
  have bL := (Below.refl w2.heap.size w2).alloc (Nat.le_refl _) (.cells #[] 40)
  have S0 := hide (show TrSt W (w2.alloc (.cells #[] 40)) tb ⟨la, ln, lc⟩ ⟨fa, fn, fc⟩ ⟨sa, sn, sc⟩ hs (runV (acts.take 0)).1 (.slice (some ⟨w2.heap.size, 0, none⟩) 0 0) [] from ⟨B1.trans (bL.mono B1.size), O1.below bL, (bL.block tb (blk_lt kT)).trans kT, zr_lit B1.size, hz1⟩)
  clear bL O1 B1 kT
  go_wp2_with fail
  generalize w2.alloc (.cells #[] 40) = w3 at *
  generalize w2.heap.size = cb at *
  go_loopw [6, 7] (fun cv iv wr => ∃ (k : Nat) (l f s : Sl) (hs : List SeH) (q : Sl) (zs : List ZrH), k ≤ N ∧ cv = .slice q.a q.n q.c ∧ iv = .int .i64 k ∧ Hid (TrSt W wr tb l f s hs (runV (acts.take k)).1 (.slice q.a q.n q.c) zs) ∧ Hid (zs.map (·.X) = (runV (acts.take k)).2)) (fun _ iv _ => N - (intOf iv).toNat)
  case atStart => exact ⟨0, _, _, _, _, ⟨some ⟨cb, 0, none⟩, 0, 0⟩, [], Nat.zero_le _, rfl, rfl, S0, rfl⟩
  case round =>
    clear S0
    obtain ⟨k, ⟨la1, ln1, lc1⟩, ⟨fa1, fn1, fc1⟩, ⟨sa1, sn1, sc1⟩, hs1, ⟨qa, qn, qc⟩, zs, hk, rfl, rfl, hS, hX⟩ := hrel
    have hV := hide (runV_ok acts k (by rw [unhide L]; exact hk))
    have bR := (unhide BZ).trans ((unhide hS).bel.mono (unhide BZ).size)
    have kb := (unhide hS).box
    unfold vzC at kb
    simp only at kb
    have t0 := (heap_at kb 0).1
    have t1 := (heap_at kb 1).1
    have t2 := (heap_at kb 2).1
    have t3 := (heap_at kb 3).1
    by_cases hlt : k < N
    case neg =>
      obtain rfl : k = N := by omega
      have ht : acts.take k = acts := List.take_of_length_le (by rw [unhide L]; exact Nat.le_refl _)
      rw [ht] at hS hX hV t0
      have hsm := (unhide hV).small (by omega)
      have ow := (unhide hS).own
      have HON := hide (l06Own_any (runV acts).1 ⟨la1, ln1, lc1⟩ ⟨fa1, fn1, fc1⟩ ⟨sa1, sn1, sc1⟩ hs1 wr ow.reads (by have h1 : ln1 = (runV acts).1.list.length := owns_n ow.vo; have := hsm.list; show ln1 ≤ 1000000; omega) (by have h1 : fn1 = (runV acts).1.fen.length := owns_n ow.fo; have := hsm.fen; show fn1 ≤ 1000000; omega) (by have h1 := ow.reads.len; have := hsm.ses; show sn1 ≤ 1000; simp only at h1; omega) (fun h hh => by
        obtain ⟨j, hj, rfl⟩ := List.getElem_of_mem hh
        obtain ⟨hd, he⟩ := ow.reads.at hj
        have h1 := (SeIn.row ow.reads.sr hj).1
        have h2 := hsm.ws _ (List.getElem_mem hd)
        rw [← he] at h2
        omega))
      unfold vzC at HON
      simp only at HON
      have hwr := (unhide hS).bel.size
      clear ht kb ow hsm
      go_wp2_with fail
      refine (unhide HON).mono ?_
      rintro e w5 ⟨⟨la2, ln2, lc2⟩, ⟨fa2, fn2, fc2⟩, ⟨sa2, sn2, sc2⟩, hs7, rfl, O7, hb7⟩
      have K5 := (hb7.block w.heap.size (Nat.lt_of_lt_of_le hz0 hwr)).trans (((unhide hS).bel.block w.heap.size hz0).trans (unhide K0h))
      have f0 := (heap_at K5 0).1
      have f1 := (heap_at K5 1).1
      have f2 := (heap_at K5 2).1
      have f3 := (heap_at K5 3).1
      have ff0 := (heap_at K5 0).2
      have ff1 := (heap_at K5 1).2
      have ff2 := (heap_at K5 2).2
      have ff3 := (heap_at K5 3).2
      have hw5 : w.heap.size < wr.heap.size := Nat.lt_of_lt_of_le hz0 hwr
      have hw := sv4_wr w5 w.heap.size (.int .i64 (runV acts).1.next) (.slice la2 ln2 lc2) (.slice fa2 fn2 fc2) (.slice sa2 sn2 sc2)
      have OT := O7.wr hw (fun i e => by rw [e]; exact hw5)
      have N5 := (unhide hS).rep.below hb7
      have N1 := N5.keep hw (fun i hi e => by have := (N5.lt i hi).1; omega)
      have BB := bel_sv4 (bR.trans (hb7.mono bR.size)) (Nat.le_refl w.heap.size) (.int .i64 (runV acts).1.next) (.slice la2 ln2 lc2) (.slice fa2 fn2 fc2) (.slice sa2 sn2 sc2)
      have RES := hide (show TxRes acts w (.returned (.tuple #[.agg #[.int .i64 (runV acts).1.next, .slice la2 ln2 lc2, .slice fa2 fn2 fc2, .slice sa2 sn2 sc2], .slice qa qn qc, .int .i64 0])) ((((w5.setCell ⟨w.heap.size, 0, none⟩ (.int .i64 (runV acts).1.next)).setCell ⟨w.heap.size, 1, none⟩ (.slice la2 ln2 lc2)).setCell ⟨w.heap.size, 2, none⟩ (.slice fa2 fn2 fc2)).setCell ⟨w.heap.size, 3, none⟩ (.slice sa2 sn2 sc2)) from ⟨⟨la2, ln2, lc2⟩, ⟨fa2, fn2, fc2⟩, ⟨sa2, sn2, sc2⟩, hs7, ⟨qa, qn, qc⟩, zs, by rw [(unhide RT).1, (unhide RT).2.1], by rw [(unhide RT).2.1]; exact OT.dn (Nat.le_of_lt hw5), N1.down (Nat.le_of_lt hz0), by rw [(unhide RT).2.2]; exact unhide hX, BB⟩)
      clear hw OT N5 N1 BB O7 K5 hS hX hV
      unfold vzC
      simp only
      go_wp2_with fail
      refine bodyPost_ret (v := .tuple #[.agg #[.int .i64 (runV acts).1.next, .slice la2 ln2 lc2, .slice fa2 fn2 fc2, .slice sa2 sn2 sc2], .slice qa qn qc, .int .i64 0]) (by simp [results, Tryz.results8, go_sem, *]) rfl ?_
      exact unhide RES
    have hk2 : k < acts.length := by rw [unhide L]; exact hlt
    have hkn : (k : Int) < (N : Int) := by omega
    obtain ⟨b, off, rfl, d0, d1, d2, d3, d4⟩ := ((unhide R).below bR).2 k hk2
    have hbw : b < wr.heap.size := cell_lt d0
    have RK := hide (runV_take hk2)
    have hsm := (unhide hV).small (by omega)
    have CS := hide (fun (u : World) (hu : Below wr.heap.size wr u) => l06Step_any (runV (acts.take k)).1 acts[k] ⟨la1, ln1, lc1⟩ ⟨fa1, fn1, fc1⟩ ⟨sa1, sn1, sc1⟩ hs1 u ((unhide hS).own.reads.below hu) hsm)
    have HZL := hide (show zs.length ≤ 1000 by
      have e := congrArg List.length (unhide hX)
      rw [List.length_map, runV_len, List.length_take] at e
      omega)
    have XN := hide (show ∀ r : Sl, (zs ++ [(⟨(stepV (runV (acts.take k)).1 acts[k]).2, r⟩ : ZrH)]).map (·.X) = (runV (acts.take (k + 1))).2 from fun r => by rw [unhide RK, List.map_append, unhide hX]; rfl)
    have VN := hide (show (runV (acts.take (k + 1))).1 = (stepV (runV (acts.take k)).1 acts[k]).1 by rw [unhide RK])
    generalize hrn : runV (acts.take (k + 1)) = rn at *
    have HRN := hide hrn
    clear hrn
    generalize (runV (acts.take k)).1 = dk at *
    generalize acts[k] = ac at *
    obtain ⟨xk, xs, xa, xb, xc⟩ := ac
    unfold vzC xv at CS
    simp only at d0 d1 d2 d3 d4 CS
    generalize stepV dk ⟨xk, xs, xa, xb, xc⟩ = pp at *
    have hwrW := (unhide hS).bel.size
    have T00 := hide (show RgT W wr wr.drew pp none none none from ⟨(Below.refl _ _).drew, fun _ _ _ _ _ e => (by cases e), fun _ e => (by cases e), fun _ e => (by cases e)⟩)
    have SK := hide (show ∀ u, Below wr.heap.size wr u → ((fun u => u.cell? ⟨tb, 0, none⟩ = some (.int .i64 dk.next) ∧ u.cell? ⟨tb, 1, none⟩ = some (.slice la1 ln1 lc1) ∧ u.cell? ⟨tb, 2, none⟩ = some (.slice fa1 fn1 fc1) ∧ u.cell? ⟨tb, 3, none⟩ = some (.slice sa1 sn1 sc1) ∧ u.cell? ⟨b, off + k * 5, none⟩ = some (.int .i64 xk) ∧ u.cell? ⟨b, off + k * 5 + 1, none⟩ = some (.int .i64 xs) ∧ u.cell? ⟨b, off + k * 5 + 2, none⟩ = some (.string xa) ∧ u.cell? ⟨b, off + k * 5 + 3, none⟩ = some (.string xb) ∧ u.cell? ⟨b, off + k * 5 + 4, none⟩ = some (.string xc)) u) from fun u hu => ⟨(hu.cell (p := ⟨tb, 0, none⟩) (cell_lt t0)).trans t0, (hu.cell (p := ⟨tb, 1, none⟩) (cell_lt t1)).trans t1, (hu.cell (p := ⟨tb, 2, none⟩) (cell_lt t2)).trans t2, (hu.cell (p := ⟨tb, 3, none⟩) (cell_lt t3)).trans t3, (hu.cell (p := ⟨b, off + k * 5, none⟩) hbw).trans d0, (hu.cell (p := ⟨b, off + k * 5 + 1, none⟩) hbw).trans d1, (hu.cell (p := ⟨b, off + k * 5 + 2, none⟩) hbw).trans d2, (hu.cell (p := ⟨b, off + k * 5 + 3, none⟩) hbw).trans d3, (hu.cell (p := ⟨b, off + k * 5 + 4, none⟩) hbw).trans d4⟩)
    clear d0 d1 d2 d3 d4 t0 t1 t2 t3 kb bR hsm
    go_upto_region 10 with fail
    go_cut [8, 9] (fun v8 v9 wc => ∃ (b8 b9 : Nat) (l' f' s' : Sl) (hs' : List SeH) (r : Sl), v8 = .pointer (some ⟨b8, 0, none⟩) ∧ v9 = .pointer (some ⟨b9, 0, none⟩) ∧ Hid (wc.heap[b8]? = some (.cells #[.int .i64 pp.1.next, .slice l'.a l'.n l'.c, .slice f'.a f'.n f'.c, .slice s'.a s'.n s'.c] 29 (0, 0))) ∧ Hid (wc.heap[b9]? = some (.cells #[.int .i64 pp.2.code, .int .i64 pp.2.time, .string pp.2.val, .slice r.a r.n r.c] 40 (0, 0))) ∧ Hid (VzOwn wc W.heap.size l' f' s' hs' pp.1) ∧ Hid (EOwns wc wr.heap.size (.slice r.a r.n r.c) pp.2.list) ∧ Hid (Below wr.heap.size wr wc) ∧ wr.heap.size ≤ b9)
    case first =>
      refine wp_region_held_drew (S := (fun u => u.cell? ⟨tb, 0, none⟩ = some (.int .i64 dk.next) ∧ u.cell? ⟨tb, 1, none⟩ = some (.slice la1 ln1 lc1) ∧ u.cell? ⟨tb, 2, none⟩ = some (.slice fa1 fn1 fc1) ∧ u.cell? ⟨tb, 3, none⟩ = some (.slice sa1 sn1 sc1) ∧ u.cell? ⟨b, off + k * 5, none⟩ = some (.int .i64 xk) ∧ u.cell? ⟨b, off + k * 5 + 1, none⟩ = some (.int .i64 xs) ∧ u.cell? ⟨b, off + k * 5 + 2, none⟩ = some (.string xa) ∧ u.cell? ⟨b, off + k * 5 + 3, none⟩ = some (.string xb) ∧ u.cell? ⟨b, off + k * 5 + 4, none⟩ = some (.string xc))) (by kernel_rfl) (unhide SK _ (unhide T00).bel) (fun hHeld => ?_)
      have Ts := T00
      clear T00
      generalize wr.drew = us at *
      refine tk 0 29 (v := ?v1) rfl rfl ?h1 hHeld ?r1
      case h1 => (intro w hSw; (try dsimp only at hSw); go_simp; try (with_reducible rfl))
      simp only [Act.put, List.setIfInBounds_toArray, List.set_cons_zero, List.set_cons_succ]
      refine tk 1 30 (v := ?v2) rfl rfl ?h2 hHeld ?r2
      case h2 => (intro w hSw; (try dsimp only at hSw); go_simp; try (with_reducible rfl))
      simp only [Act.put, List.setIfInBounds_toArray, List.set_cons_zero, List.set_cons_succ]
      refine tk 2 31 (v := ?v3) rfl rfl ?h3 hHeld ?r3
      case h3 => (intro w hSw; (try dsimp only at hSw); go_simp; try (with_reducible rfl))
      simp only [Act.put, List.setIfInBounds_toArray, List.set_cons_zero, List.set_cons_succ]
      refine tk 3 32 (v := ?v4) rfl rfl ?h4 hHeld ?r4
      case h4 => (intro w hSw; (try dsimp only at hSw); go_simp; try (with_reducible rfl))
      simp only [Act.put, List.setIfInBounds_toArray, List.set_cons_zero, List.set_cons_succ]
      refine tk 4 33 (v := ?v5) rfl rfl ?h5 hHeld ?r5
      case h5 => (intro w hSw; (try dsimp only at hSw); go_simp; try (with_reducible rfl))
      simp only [Act.put, List.setIfInBounds_toArray, List.set_cons_zero, List.set_cons_succ]
      refine wpAnyH_ready (rs := [5, 9, 10]) (by kernel_rfl) (by simp) ?_
      refine AllReadyH.cons rfl (fun K hK => ?_) (AllReadyH.cons rfl (fun K hK => ?_) (AllReadyH.cons rfl (fun K hK => ?_) AllReadyH.nil))
      · go_simp
        refine (unhide CS _ (unhide Ts).bel).mono ?_
        intro e u5 hst
        obtain ⟨l', f', s', hs', r, rfl, hq⟩ := (unhide Ts).call (unhide hS).own hwrW hst
        have T5 := hide hq
        clear hq hst
        refine hK.out _ _ (unhide SK _ (unhide T5).bel) (fun hHeld => ?_)
        clear hK K
        refine tk 6 28 (v := ?v6) rfl rfl ?h6 hHeld ?r6
        case h6 => (intro w hSw; (try dsimp only at hSw); go_simp; try (with_reducible rfl))
        simp only [Act.put, List.setIfInBounds_toArray, List.set_cons_zero, List.set_cons_succ]
        refine tk 7 35 (v := ?v7) rfl rfl ?h7 hHeld ?r7
        case h7 => (intro w hSw; (try dsimp only at hSw); go_simp; try (with_reducible rfl))
        simp only [Act.put, List.setIfInBounds_toArray, List.set_cons_zero, List.set_cons_succ]
        refine tk 8 36 (v := ?v8) rfl rfl ?h8 hHeld ?r8
        case h8 => (intro w hSw; (try dsimp only at hSw); go_simp; try (with_reducible rfl))
        simp only [Act.put, List.setIfInBounds_toArray, List.set_cons_zero, List.set_cons_succ]
        refine wpAnyH_ready (rs := [9, 10]) (by kernel_rfl) (by simp) ?_
        refine AllReadyH.cons rfl (fun K hK => ?_) (AllReadyH.cons rfl (fun K hK => ?_) AllReadyH.nil)
        · have T5_9 := hide (unhide T5).lit8
          go_simp
          generalize u5.alloc (.cells #[.int .i64 0, .slice none 0 0, .slice none 0 0, .slice none 0 0] 29) = u5_9 at *
          generalize u5.heap.size = b8 at *
          refine hK.out _ _ (unhide SK _ (unhide T5_9).bel) (fun hHeld => ?_)
          clear hK K
          refine wpAnyH_ready (rs := [10]) (by kernel_rfl) (by simp) ?_
          refine AllReadyH.cons rfl (fun K hK => ?_) AllReadyH.nil
          have T5_9_10 := hide (unhide T5_9).lit9
          go_simp
          generalize u5_9.alloc (.cells #[.int .i64 0, .int .i64 0, .string ⟨#[]⟩, .slice none 0 0] 40) = u5_9_10 at *
          generalize u5_9.heap.size = b9 at *
          refine hK.out _ _ (unhide SK _ (unhide T5_9_10).bel) (fun hHeld => ?_)
          clear hK K
          refine wpAnyH_ready (rs := [11]) (by kernel_rfl) (by simp) ?_
          refine AllReadyH.cons rfl (fun K hK => ?_) AllReadyH.nil
          obtain ⟨hOw, hEo⟩ := (unhide T5_9_10).r l' f' s' hs' r rfl
          obtain ⟨h8, k8⟩ := (unhide T5_9_10).e8 b8 rfl
          obtain ⟨h9, k9⟩ := (unhide T5_9_10).e9 b9 rfl
          have c0 := (heap_at k8 0).1
          have c1 := (heap_at k8 1).1
          have c2 := (heap_at k8 2).1
          have c3 := (heap_at k8 3).1
          have cf0 := (heap_at k8 0).2
          have cf1 := (heap_at k8 1).2
          have cf2 := (heap_at k8 2).2
          have cf3 := (heap_at k8 3).2
          have h89 : b9 ≠ b8 := fun e => by rw [e, k8] at k9; injection k9 with k9; injection k9 with _ k9 _; exact absurd k9 (by decide)
          have hw : WrB (fun i => i = b8) u5_9_10 ((((u5_9_10.setCell ⟨b8, 0, none⟩ (.int .i64 pp.1.next)).setCell ⟨b8, 1, none⟩ (.slice l'.a l'.n l'.c)).setCell ⟨b8, 2, none⟩ (.slice f'.a f'.n f'.c)).setCell ⟨b8, 3, none⟩ (.slice s'.a s'.n s'.c)) := sv4_wr u5_9_10 b8 (.int .i64 pp.1.next) (.slice l'.a l'.n l'.c) (.slice f'.a f'.n f'.c) (.slice s'.a s'.n s'.c)
          have Q8 := hide (show ((((u5_9_10.setCell ⟨b8, 0, none⟩ (.int .i64 pp.1.next)).setCell ⟨b8, 1, none⟩ (.slice l'.a l'.n l'.c)).setCell ⟨b8, 2, none⟩ (.slice f'.a f'.n f'.c)).setCell ⟨b8, 3, none⟩ (.slice s'.a s'.n s'.c)).heap[b8]? = some (.cells #[.int .i64 pp.1.next, .slice l'.a l'.n l'.c, .slice f'.a f'.n f'.c, .slice s'.a s'.n s'.c] 29 (0, 0)) from sv4_heap k8 (.int .i64 pp.1.next) (.slice l'.a l'.n l'.c) (.slice f'.a f'.n f'.c) (.slice s'.a s'.n s'.c))
          have Q9 := hide (show ((((u5_9_10.setCell ⟨b8, 0, none⟩ (.int .i64 pp.1.next)).setCell ⟨b8, 1, none⟩ (.slice l'.a l'.n l'.c)).setCell ⟨b8, 2, none⟩ (.slice f'.a f'.n f'.c)).setCell ⟨b8, 3, none⟩ (.slice s'.a s'.n s'.c)).heap[b9]? = some (.cells #[.int .i64 0, .int .i64 0, .string ⟨#[]⟩, .slice none 0 0] 40 (0, 0)) from (hw.block b9 (blk_lt k9) h89).trans k9)
          have QO := hide (show VzOwn ((((u5_9_10.setCell ⟨b8, 0, none⟩ (.int .i64 pp.1.next)).setCell ⟨b8, 1, none⟩ (.slice l'.a l'.n l'.c)).setCell ⟨b8, 2, none⟩ (.slice f'.a f'.n f'.c)).setCell ⟨b8, 3, none⟩ (.slice s'.a s'.n s'.c)) W.heap.size l' f' s' hs' pp.1 from hOw.box k8 (by decide) (by decide) (by decide) hw)
          have QE := hide (show EOwns ((((u5_9_10.setCell ⟨b8, 0, none⟩ (.int .i64 pp.1.next)).setCell ⟨b8, 1, none⟩ (.slice l'.a l'.n l'.c)).setCell ⟨b8, 2, none⟩ (.slice f'.a f'.n f'.c)).setCell ⟨b8, 3, none⟩ (.slice s'.a s'.n s'.c)) wr.heap.size (.slice r.a r.n r.c) pp.2.list from own_keep hEo k8 (by decide) hw)
          have QB := hide (show Below wr.heap.size wr ((((u5_9_10.setCell ⟨b8, 0, none⟩ (.int .i64 pp.1.next)).setCell ⟨b8, 1, none⟩ (.slice l'.a l'.n l'.c)).setCell ⟨b8, 2, none⟩ (.slice f'.a f'.n f'.c)).setCell ⟨b8, 3, none⟩ (.slice s'.a s'.n s'.c)) from (unhide T5_9_10).bel.trans (WrB.below hw (fun i e => by rw [e]; exact h8) (unhide T5_9_10).bel.size))
          clear hw hOw hEo k8 k9
          go_simp
          refine hK.out _ _ (unhide SK _ (unhide QB)) (fun hHeld => ?_)
          clear hK K
          clear c0 cf0 c1 cf1 c2 cf2 c3 cf3
          generalize ((((u5_9_10.setCell ⟨b8, 0, none⟩ (.int .i64 pp.1.next)).setCell ⟨b8, 1, none⟩ (.slice l'.a l'.n l'.c)).setCell ⟨b8, 2, none⟩ (.slice f'.a f'.n f'.c)).setCell ⟨b8, 3, none⟩ (.slice s'.a s'.n s'.c)) = ux at *
          refine wpAnyH_ready (rs := [12]) (by kernel_rfl) (by simp) ?_
          refine AllReadyH.cons rfl (fun K hK => ?_) AllReadyH.nil
          have c0 := (heap_at (unhide Q9) 0).1
          have c1 := (heap_at (unhide Q9) 1).1
          have c2 := (heap_at (unhide Q9) 2).1
          have c3 := (heap_at (unhide Q9) 3).1
          have cf0 := (heap_at (unhide Q9) 0).2
          have cf1 := (heap_at (unhide Q9) 1).2
          have cf2 := (heap_at (unhide Q9) 2).2
          have cf3 := (heap_at (unhide Q9) 3).2
          have hw : WrB (fun i => i = b9) ux ((((ux.setCell ⟨b9, 0, none⟩ (.int .i64 pp.2.code)).setCell ⟨b9, 1, none⟩ (.int .i64 pp.2.time)).setCell ⟨b9, 2, none⟩ (.string pp.2.val)).setCell ⟨b9, 3, none⟩ (.slice r.a r.n r.c)) := sv4_wr ux b9 (.int .i64 pp.2.code) (.int .i64 pp.2.time) (.string pp.2.val) (.slice r.a r.n r.c)
          have P9 := hide (show ((((ux.setCell ⟨b9, 0, none⟩ (.int .i64 pp.2.code)).setCell ⟨b9, 1, none⟩ (.int .i64 pp.2.time)).setCell ⟨b9, 2, none⟩ (.string pp.2.val)).setCell ⟨b9, 3, none⟩ (.slice r.a r.n r.c)).heap[b9]? = some (.cells #[.int .i64 pp.2.code, .int .i64 pp.2.time, .string pp.2.val, .slice r.a r.n r.c] 40 (0, 0)) from sv4_heap (unhide Q9) (.int .i64 pp.2.code) (.int .i64 pp.2.time) (.string pp.2.val) (.slice r.a r.n r.c))
          have P8 := hide (show ((((ux.setCell ⟨b9, 0, none⟩ (.int .i64 pp.2.code)).setCell ⟨b9, 1, none⟩ (.int .i64 pp.2.time)).setCell ⟨b9, 2, none⟩ (.string pp.2.val)).setCell ⟨b9, 3, none⟩ (.slice r.a r.n r.c)).heap[b8]? = some (.cells #[.int .i64 pp.1.next, .slice l'.a l'.n l'.c, .slice f'.a f'.n f'.c, .slice s'.a s'.n s'.c] 29 (0, 0)) from (hw.block b8 (blk_lt (unhide Q8)) (fun e => h89 e.symm)).trans (unhide Q8))
          have PO := hide (show VzOwn ((((ux.setCell ⟨b9, 0, none⟩ (.int .i64 pp.2.code)).setCell ⟨b9, 1, none⟩ (.int .i64 pp.2.time)).setCell ⟨b9, 2, none⟩ (.string pp.2.val)).setCell ⟨b9, 3, none⟩ (.slice r.a r.n r.c)) W.heap.size l' f' s' hs' pp.1 from (unhide QO).box (unhide Q9) (by decide) (by decide) (by decide) hw)
          have PE := hide (show EOwns ((((ux.setCell ⟨b9, 0, none⟩ (.int .i64 pp.2.code)).setCell ⟨b9, 1, none⟩ (.int .i64 pp.2.time)).setCell ⟨b9, 2, none⟩ (.string pp.2.val)).setCell ⟨b9, 3, none⟩ (.slice r.a r.n r.c)) wr.heap.size (.slice r.a r.n r.c) pp.2.list from own_keep (unhide QE) (unhide Q9) (by decide) hw)
          have PB := hide (show Below wr.heap.size wr ((((ux.setCell ⟨b9, 0, none⟩ (.int .i64 pp.2.code)).setCell ⟨b9, 1, none⟩ (.int .i64 pp.2.time)).setCell ⟨b9, 2, none⟩ (.string pp.2.val)).setCell ⟨b9, 3, none⟩ (.slice r.a r.n r.c)) from (unhide QB).trans (WrB.below hw (fun i e => by rw [e]; exact h9) (unhide QB).size))
          clear hw
          go_simp
          refine hK.out _ _ (unhide SK _ (unhide PB)) (fun hHeld => ?_)
          clear hK K
          refine wpAnyH_done (by kernel_rfl) ?_ _
          clear hHeld SK
          go_wp2_with fail
          go_meet
          case rel => exact ⟨b8, b9, l', f', s', hs', r, rfl, rfl, P8, P9, PO, PE, PB, h9⟩
        · have T5_10 := hide (unhide T5).lit9
          go_simp
          generalize u5.alloc (.cells #[.int .i64 0, .int .i64 0, .string ⟨#[]⟩, .slice none 0 0] 40) = u5_10 at *
          generalize u5.heap.size = b9 at *
          refine hK.out _ _ (unhide SK _ (unhide T5_10).bel) (fun hHeld => ?_)
          clear hK K
          refine wpAnyH_ready (rs := [9]) (by kernel_rfl) (by simp) ?_
          refine AllReadyH.cons rfl (fun K hK => ?_) AllReadyH.nil
          have T5_10_9 := hide (unhide T5_10).lit8
          go_simp
          generalize u5_10.alloc (.cells #[.int .i64 0, .slice none 0 0, .slice none 0 0, .slice none 0 0] 29) = u5_10_9 at *
          generalize u5_10.heap.size = b8 at *
          refine hK.out _ _ (unhide SK _ (unhide T5_10_9).bel) (fun hHeld => ?_)
          clear hK K
          refine wpAnyH_ready (rs := [11]) (by kernel_rfl) (by simp) ?_
          refine AllReadyH.cons rfl (fun K hK => ?_) AllReadyH.nil
          obtain ⟨hOw, hEo⟩ := (unhide T5_10_9).r l' f' s' hs' r rfl
          obtain ⟨h8, k8⟩ := (unhide T5_10_9).e8 b8 rfl
          obtain ⟨h9, k9⟩ := (unhide T5_10_9).e9 b9 rfl
          have c0 := (heap_at k8 0).1
          have c1 := (heap_at k8 1).1
          have c2 := (heap_at k8 2).1
          have c3 := (heap_at k8 3).1
          have cf0 := (heap_at k8 0).2
          have cf1 := (heap_at k8 1).2
          have cf2 := (heap_at k8 2).2
          have cf3 := (heap_at k8 3).2
          have h89 : b9 ≠ b8 := fun e => by rw [e, k8] at k9; injection k9 with k9; injection k9 with _ k9 _; exact absurd k9 (by decide)
          have hw : WrB (fun i => i = b8) u5_10_9 ((((u5_10_9.setCell ⟨b8, 0, none⟩ (.int .i64 pp.1.next)).setCell ⟨b8, 1, none⟩ (.slice l'.a l'.n l'.c)).setCell ⟨b8, 2, none⟩ (.slice f'.a f'.n f'.c)).setCell ⟨b8, 3, none⟩ (.slice s'.a s'.n s'.c)) := sv4_wr u5_10_9 b8 (.int .i64 pp.1.next) (.slice l'.a l'.n l'.c) (.slice f'.a f'.n f'.c) (.slice s'.a s'.n s'.c)
          have Q8 := hide (show ((((u5_10_9.setCell ⟨b8, 0, none⟩ (.int .i64 pp.1.next)).setCell ⟨b8, 1, none⟩ (.slice l'.a l'.n l'.c)).setCell ⟨b8, 2, none⟩ (.slice f'.a f'.n f'.c)).setCell ⟨b8, 3, none⟩ (.slice s'.a s'.n s'.c)).heap[b8]? = some (.cells #[.int .i64 pp.1.next, .slice l'.a l'.n l'.c, .slice f'.a f'.n f'.c, .slice s'.a s'.n s'.c] 29 (0, 0)) from sv4_heap k8 (.int .i64 pp.1.next) (.slice l'.a l'.n l'.c) (.slice f'.a f'.n f'.c) (.slice s'.a s'.n s'.c))
          have Q9 := hide (show ((((u5_10_9.setCell ⟨b8, 0, none⟩ (.int .i64 pp.1.next)).setCell ⟨b8, 1, none⟩ (.slice l'.a l'.n l'.c)).setCell ⟨b8, 2, none⟩ (.slice f'.a f'.n f'.c)).setCell ⟨b8, 3, none⟩ (.slice s'.a s'.n s'.c)).heap[b9]? = some (.cells #[.int .i64 0, .int .i64 0, .string ⟨#[]⟩, .slice none 0 0] 40 (0, 0)) from (hw.block b9 (blk_lt k9) h89).trans k9)
          have QO := hide (show VzOwn ((((u5_10_9.setCell ⟨b8, 0, none⟩ (.int .i64 pp.1.next)).setCell ⟨b8, 1, none⟩ (.slice l'.a l'.n l'.c)).setCell ⟨b8, 2, none⟩ (.slice f'.a f'.n f'.c)).setCell ⟨b8, 3, none⟩ (.slice s'.a s'.n s'.c)) W.heap.size l' f' s' hs' pp.1 from hOw.box k8 (by decide) (by decide) (by decide) hw)
          have QE := hide (show EOwns ((((u5_10_9.setCell ⟨b8, 0, none⟩ (.int .i64 pp.1.next)).setCell ⟨b8, 1, none⟩ (.slice l'.a l'.n l'.c)).setCell ⟨b8, 2, none⟩ (.slice f'.a f'.n f'.c)).setCell ⟨b8, 3, none⟩ (.slice s'.a s'.n s'.c)) wr.heap.size (.slice r.a r.n r.c) pp.2.list from own_keep hEo k8 (by decide) hw)
          have QB := hide (show Below wr.heap.size wr ((((u5_10_9.setCell ⟨b8, 0, none⟩ (.int .i64 pp.1.next)).setCell ⟨b8, 1, none⟩ (.slice l'.a l'.n l'.c)).setCell ⟨b8, 2, none⟩ (.slice f'.a f'.n f'.c)).setCell ⟨b8, 3, none⟩ (.slice s'.a s'.n s'.c)) from (unhide T5_10_9).bel.trans (WrB.below hw (fun i e => by rw [e]; exact h8) (unhide T5_10_9).bel.size))
          clear hw hOw hEo k8 k9
          go_simp
          refine hK.out _ _ (unhide SK _ (unhide QB)) (fun hHeld => ?_)
          clear hK K
          clear c0 cf0 c1 cf1 c2 cf2 c3 cf3
          generalize ((((u5_10_9.setCell ⟨b8, 0, none⟩ (.int .i64 pp.1.next)).setCell ⟨b8, 1, none⟩ (.slice l'.a l'.n l'.c)).setCell ⟨b8, 2, none⟩ (.slice f'.a f'.n f'.c)).setCell ⟨b8, 3, none⟩ (.slice s'.a s'.n s'.c)) = ux at *
          refine wpAnyH_ready (rs := [12]) (by kernel_rfl) (by simp) ?_
          refine AllReadyH.cons rfl (fun K hK => ?_) AllReadyH.nil
          have c0 := (heap_at (unhide Q9) 0).1
          have c1 := (heap_at (unhide Q9) 1).1
          have c2 := (heap_at (unhide Q9) 2).1
          have c3 := (heap_at (unhide Q9) 3).1
          have cf0 := (heap_at (unhide Q9) 0).2
          have cf1 := (heap_at (unhide Q9) 1).2
          have cf2 := (heap_at (unhide Q9) 2).2
          have cf3 := (heap_at (unhide Q9) 3).2
          have hw : WrB (fun i => i = b9) ux ((((ux.setCell ⟨b9, 0, none⟩ (.int .i64 pp.2.code)).setCell ⟨b9, 1, none⟩ (.int .i64 pp.2.time)).setCell ⟨b9, 2, none⟩ (.string pp.2.val)).setCell ⟨b9, 3, none⟩ (.slice r.a r.n r.c)) := sv4_wr ux b9 (.int .i64 pp.2.code) (.int .i64 pp.2.time) (.string pp.2.val) (.slice r.a r.n r.c)
          have P9 := hide (show ((((ux.setCell ⟨b9, 0, none⟩ (.int .i64 pp.2.code)).setCell ⟨b9, 1, none⟩ (.int .i64 pp.2.time)).setCell ⟨b9, 2, none⟩ (.string pp.2.val)).setCell ⟨b9, 3, none⟩ (.slice r.a r.n r.c)).heap[b9]? = some (.cells #[.int .i64 pp.2.code, .int .i64 pp.2.time, .string pp.2.val, .slice r.a r.n r.c] 40 (0, 0)) from sv4_heap (unhide Q9) (.int .i64 pp.2.code) (.int .i64 pp.2.time) (.string pp.2.val) (.slice r.a r.n r.c))
          have P8 := hide (show ((((ux.setCell ⟨b9, 0, none⟩ (.int .i64 pp.2.code)).setCell ⟨b9, 1, none⟩ (.int .i64 pp.2.time)).setCell ⟨b9, 2, none⟩ (.string pp.2.val)).setCell ⟨b9, 3, none⟩ (.slice r.a r.n r.c)).heap[b8]? = some (.cells #[.int .i64 pp.1.next, .slice l'.a l'.n l'.c, .slice f'.a f'.n f'.c, .slice s'.a s'.n s'.c] 29 (0, 0)) from (hw.block b8 (blk_lt (unhide Q8)) (fun e => h89 e.symm)).trans (unhide Q8))
          have PO := hide (show VzOwn ((((ux.setCell ⟨b9, 0, none⟩ (.int .i64 pp.2.code)).setCell ⟨b9, 1, none⟩ (.int .i64 pp.2.time)).setCell ⟨b9, 2, none⟩ (.string pp.2.val)).setCell ⟨b9, 3, none⟩ (.slice r.a r.n r.c)) W.heap.size l' f' s' hs' pp.1 from (unhide QO).box (unhide Q9) (by decide) (by decide) (by decide) hw)
          have PE := hide (show EOwns ((((ux.setCell ⟨b9, 0, none⟩ (.int .i64 pp.2.code)).setCell ⟨b9, 1, none⟩ (.int .i64 pp.2.time)).setCell ⟨b9, 2, none⟩ (.string pp.2.val)).setCell ⟨b9, 3, none⟩ (.slice r.a r.n r.c)) wr.heap.size (.slice r.a r.n r.c) pp.2.list from own_keep (unhide QE) (unhide Q9) (by decide) hw)
          have PB := hide (show Below wr.heap.size wr ((((ux.setCell ⟨b9, 0, none⟩ (.int .i64 pp.2.code)).setCell ⟨b9, 1, none⟩ (.int .i64 pp.2.time)).setCell ⟨b9, 2, none⟩ (.string pp.2.val)).setCell ⟨b9, 3, none⟩ (.slice r.a r.n r.c)) from (unhide QB).trans (WrB.below hw (fun i e => by rw [e]; exact h9) (unhide QB).size))
          clear hw
          go_simp
          refine hK.out _ _ (unhide SK _ (unhide PB)) (fun hHeld => ?_)
          clear hK K
          refine wpAnyH_done (by kernel_rfl) ?_ _
          clear hHeld SK
          go_wp2_with fail
          go_meet
          case rel => exact ⟨b8, b9, l', f', s', hs', r, rfl, rfl, P8, P9, PO, PE, PB, h9⟩
      · have T9 := hide (unhide Ts).lit8
        go_simp
        generalize us.alloc (.cells #[.int .i64 0, .slice none 0 0, .slice none 0 0, .slice none 0 0] 29) = u9 at *
        generalize us.heap.size = b8 at *
        refine hK.out _ _ (unhide SK _ (unhide T9).bel) (fun hHeld => ?_)
        clear hK K
        refine wpAnyH_ready (rs := [5, 10]) (by kernel_rfl) (by simp) ?_
        refine AllReadyH.cons rfl (fun K hK => ?_) (AllReadyH.cons rfl (fun K hK => ?_) AllReadyH.nil)
        · go_simp
          refine (unhide CS _ (unhide T9).bel).mono ?_
          intro e u9_5 hst
          obtain ⟨l', f', s', hs', r, rfl, hq⟩ := (unhide T9).call (unhide hS).own hwrW hst
          have T9_5 := hide hq
          clear hq hst
          refine hK.out _ _ (unhide SK _ (unhide T9_5).bel) (fun hHeld => ?_)
          clear hK K
          refine tk 6 28 (v := ?v9) rfl rfl ?h9 hHeld ?r9
          case h9 => (intro w hSw; (try dsimp only at hSw); go_simp; try (with_reducible rfl))
          simp only [Act.put, List.setIfInBounds_toArray, List.set_cons_zero, List.set_cons_succ]
          refine tk 7 35 (v := ?v10) rfl rfl ?h10 hHeld ?r10
          case h10 => (intro w hSw; (try dsimp only at hSw); go_simp; try (with_reducible rfl))
          simp only [Act.put, List.setIfInBounds_toArray, List.set_cons_zero, List.set_cons_succ]
          refine tk 8 36 (v := ?v11) rfl rfl ?h11 hHeld ?r11
          case h11 => (intro w hSw; (try dsimp only at hSw); go_simp; try (with_reducible rfl))
          simp only [Act.put, List.setIfInBounds_toArray, List.set_cons_zero, List.set_cons_succ]
          refine wpAnyH_ready (rs := [10]) (by kernel_rfl) (by simp) ?_
          refine AllReadyH.cons rfl (fun K hK => ?_) AllReadyH.nil
          have T9_5_10 := hide (unhide T9_5).lit9
          go_simp
          generalize u9_5.alloc (.cells #[.int .i64 0, .int .i64 0, .string ⟨#[]⟩, .slice none 0 0] 40) = u9_5_10 at *
          generalize u9_5.heap.size = b9 at *
          refine hK.out _ _ (unhide SK _ (unhide T9_5_10).bel) (fun hHeld => ?_)
          clear hK K
          refine wpAnyH_ready (rs := [11]) (by kernel_rfl) (by simp) ?_
          refine AllReadyH.cons rfl (fun K hK => ?_) AllReadyH.nil
          obtain ⟨hOw, hEo⟩ := (unhide T9_5_10).r l' f' s' hs' r rfl
          obtain ⟨h8, k8⟩ := (unhide T9_5_10).e8 b8 rfl
          obtain ⟨h9, k9⟩ := (unhide T9_5_10).e9 b9 rfl
          have c0 := (heap_at k8 0).1
          have c1 := (heap_at k8 1).1
          have c2 := (heap_at k8 2).1
          have c3 := (heap_at k8 3).1
          have cf0 := (heap_at k8 0).2
          have cf1 := (heap_at k8 1).2
          have cf2 := (heap_at k8 2).2
          have cf3 := (heap_at k8 3).2
          have h89 : b9 ≠ b8 := fun e => by rw [e, k8] at k9; injection k9 with k9; injection k9 with _ k9 _; exact absurd k9 (by decide)
          have hw : WrB (fun i => i = b8) u9_5_10 ((((u9_5_10.setCell ⟨b8, 0, none⟩ (.int .i64 pp.1.next)).setCell ⟨b8, 1, none⟩ (.slice l'.a l'.n l'.c)).setCell ⟨b8, 2, none⟩ (.slice f'.a f'.n f'.c)).setCell ⟨b8, 3, none⟩ (.slice s'.a s'.n s'.c)) := sv4_wr u9_5_10 b8 (.int .i64 pp.1.next) (.slice l'.a l'.n l'.c) (.slice f'.a f'.n f'.c) (.slice s'.a s'.n s'.c)
          have Q8 := hide (show ((((u9_5_10.setCell ⟨b8, 0, none⟩ (.int .i64 pp.1.next)).setCell ⟨b8, 1, none⟩ (.slice l'.a l'.n l'.c)).setCell ⟨b8, 2, none⟩ (.slice f'.a f'.n f'.c)).setCell ⟨b8, 3, none⟩ (.slice s'.a s'.n s'.c)).heap[b8]? = some (.cells #[.int .i64 pp.1.next, .slice l'.a l'.n l'.c, .slice f'.a f'.n f'.c, .slice s'.a s'.n s'.c] 29 (0, 0)) from sv4_heap k8 (.int .i64 pp.1.next) (.slice l'.a l'.n l'.c) (.slice f'.a f'.n f'.c) (.slice s'.a s'.n s'.c))
          have Q9 := hide (show ((((u9_5_10.setCell ⟨b8, 0, none⟩ (.int .i64 pp.1.next)).setCell ⟨b8, 1, none⟩ (.slice l'.a l'.n l'.c)).setCell ⟨b8, 2, none⟩ (.slice f'.a f'.n f'.c)).setCell ⟨b8, 3, none⟩ (.slice s'.a s'.n s'.c)).heap[b9]? = some (.cells #[.int .i64 0, .int .i64 0, .string ⟨#[]⟩, .slice none 0 0] 40 (0, 0)) from (hw.block b9 (blk_lt k9) h89).trans k9)
          have QO := hide (show VzOwn ((((u9_5_10.setCell ⟨b8, 0, none⟩ (.int .i64 pp.1.next)).setCell ⟨b8, 1, none⟩ (.slice l'.a l'.n l'.c)).setCell ⟨b8, 2, none⟩ (.slice f'.a f'.n f'.c)).setCell ⟨b8, 3, none⟩ (.slice s'.a s'.n s'.c)) W.heap.size l' f' s' hs' pp.1 from hOw.box k8 (by decide) (by decide) (by decide) hw)
          have QE := hide (show EOwns ((((u9_5_10.setCell ⟨b8, 0, none⟩ (.int .i64 pp.1.next)).setCell ⟨b8, 1, none⟩ (.slice l'.a l'.n l'.c)).setCell ⟨b8, 2, none⟩ (.slice f'.a f'.n f'.c)).setCell ⟨b8, 3, none⟩ (.slice s'.a s'.n s'.c)) wr.heap.size (.slice r.a r.n r.c) pp.2.list from own_keep hEo k8 (by decide) hw)
          have QB := hide (show Below wr.heap.size wr ((((u9_5_10.setCell ⟨b8, 0, none⟩ (.int .i64 pp.1.next)).setCell ⟨b8, 1, none⟩ (.slice l'.a l'.n l'.c)).setCell ⟨b8, 2, none⟩ (.slice f'.a f'.n f'.c)).setCell ⟨b8, 3, none⟩ (.slice s'.a s'.n s'.c)) from (unhide T9_5_10).bel.trans (WrB.below hw (fun i e => by rw [e]; exact h8) (unhide T9_5_10).bel.size))
          clear hw hOw hEo k8 k9
          go_simp
          refine hK.out _ _ (unhide SK _ (unhide QB)) (fun hHeld => ?_)
          clear hK K
          clear c0 cf0 c1 cf1 c2 cf2 c3 cf3
          generalize ((((u9_5_10.setCell ⟨b8, 0, none⟩ (.int .i64 pp.1.next)).setCell ⟨b8, 1, none⟩ (.slice l'.a l'.n l'.c)).setCell ⟨b8, 2, none⟩ (.slice f'.a f'.n f'.c)).setCell ⟨b8, 3, none⟩ (.slice s'.a s'.n s'.c)) = ux at *
          refine wpAnyH_ready (rs := [12]) (by kernel_rfl) (by simp) ?_
          refine AllReadyH.cons rfl (fun K hK => ?_) AllReadyH.nil
          have c0 := (heap_at (unhide Q9) 0).1
          have c1 := (heap_at (unhide Q9) 1).1
          have c2 := (heap_at (unhide Q9) 2).1
          have c3 := (heap_at (unhide Q9) 3).1
          have cf0 := (heap_at (unhide Q9) 0).2
          have cf1 := (heap_at (unhide Q9) 1).2
          have cf2 := (heap_at (unhide Q9) 2).2
          have cf3 := (heap_at (unhide Q9) 3).2
          have hw : WrB (fun i => i = b9) ux ((((ux.setCell ⟨b9, 0, none⟩ (.int .i64 pp.2.code)).setCell ⟨b9, 1, none⟩ (.int .i64 pp.2.time)).setCell ⟨b9, 2, none⟩ (.string pp.2.val)).setCell ⟨b9, 3, none⟩ (.slice r.a r.n r.c)) := sv4_wr ux b9 (.int .i64 pp.2.code) (.int .i64 pp.2.time) (.string pp.2.val) (.slice r.a r.n r.c)
          have P9 := hide (show ((((ux.setCell ⟨b9, 0, none⟩ (.int .i64 pp.2.code)).setCell ⟨b9, 1, none⟩ (.int .i64 pp.2.time)).setCell ⟨b9, 2, none⟩ (.string pp.2.val)).setCell ⟨b9, 3, none⟩ (.slice r.a r.n r.c)).heap[b9]? = some (.cells #[.int .i64 pp.2.code, .int .i64 pp.2.time, .string pp.2.val, .slice r.a r.n r.c] 40 (0, 0)) from sv4_heap (unhide Q9) (.int .i64 pp.2.code) (.int .i64 pp.2.time) (.string pp.2.val) (.slice r.a r.n r.c))
          have P8 := hide (show ((((ux.setCell ⟨b9, 0, none⟩ (.int .i64 pp.2.code)).setCell ⟨b9, 1, none⟩ (.int .i64 pp.2.time)).setCell ⟨b9, 2, none⟩ (.string pp.2.val)).setCell ⟨b9, 3, none⟩ (.slice r.a r.n r.c)).heap[b8]? = some (.cells #[.int .i64 pp.1.next, .slice l'.a l'.n l'.c, .slice f'.a f'.n f'.c, .slice s'.a s'.n s'.c] 29 (0, 0)) from (hw.block b8 (blk_lt (unhide Q8)) (fun e => h89 e.symm)).trans (unhide Q8))
          have PO := hide (show VzOwn ((((ux.setCell ⟨b9, 0, none⟩ (.int .i64 pp.2.code)).setCell ⟨b9, 1, none⟩ (.int .i64 pp.2.time)).setCell ⟨b9, 2, none⟩ (.string pp.2.val)).setCell ⟨b9, 3, none⟩ (.slice r.a r.n r.c)) W.heap.size l' f' s' hs' pp.1 from (unhide QO).box (unhide Q9) (by decide) (by decide) (by decide) hw)
          have PE := hide (show EOwns ((((ux.setCell ⟨b9, 0, none⟩ (.int .i64 pp.2.code)).setCell ⟨b9, 1, none⟩ (.int .i64 pp.2.time)).setCell ⟨b9, 2, none⟩ (.string pp.2.val)).setCell ⟨b9, 3, none⟩ (.slice r.a r.n r.c)) wr.heap.size (.slice r.a r.n r.c) pp.2.list from own_keep (unhide QE) (unhide Q9) (by decide) hw)
          have PB := hide (show Below wr.heap.size wr ((((ux.setCell ⟨b9, 0, none⟩ (.int .i64 pp.2.code)).setCell ⟨b9, 1, none⟩ (.int .i64 pp.2.time)).setCell ⟨b9, 2, none⟩ (.string pp.2.val)).setCell ⟨b9, 3, none⟩ (.slice r.a r.n r.c)) from (unhide QB).trans (WrB.below hw (fun i e => by rw [e]; exact h9) (unhide QB).size))
          clear hw
          go_simp
          refine hK.out _ _ (unhide SK _ (unhide PB)) (fun hHeld => ?_)
          clear hK K
          refine wpAnyH_done (by kernel_rfl) ?_ _
          clear hHeld SK
          go_wp2_with fail
          go_meet
          case rel => exact ⟨b8, b9, l', f', s', hs', r, rfl, rfl, P8, P9, PO, PE, PB, h9⟩
        · have T9_10 := hide (unhide T9).lit9
          go_simp
          generalize u9.alloc (.cells #[.int .i64 0, .int .i64 0, .string ⟨#[]⟩, .slice none 0 0] 40) = u9_10 at *
          generalize u9.heap.size = b9 at *
          refine hK.out _ _ (unhide SK _ (unhide T9_10).bel) (fun hHeld => ?_)
          clear hK K
          refine wpAnyH_ready (rs := [5]) (by kernel_rfl) (by simp) ?_
          refine AllReadyH.cons rfl (fun K hK => ?_) AllReadyH.nil
          go_simp
          refine (unhide CS _ (unhide T9_10).bel).mono ?_
          intro e u9_10_5 hst
          obtain ⟨l', f', s', hs', r, rfl, hq⟩ := (unhide T9_10).call (unhide hS).own hwrW hst
          have T9_10_5 := hide hq
          clear hq hst
          refine hK.out _ _ (unhide SK _ (unhide T9_10_5).bel) (fun hHeld => ?_)
          clear hK K
          refine tk 6 28 (v := ?v12) rfl rfl ?h12 hHeld ?r12
          case h12 => (intro w hSw; (try dsimp only at hSw); go_simp; try (with_reducible rfl))
          simp only [Act.put, List.setIfInBounds_toArray, List.set_cons_zero, List.set_cons_succ]
          refine tk 7 35 (v := ?v13) rfl rfl ?h13 hHeld ?r13
          case h13 => (intro w hSw; (try dsimp only at hSw); go_simp; try (with_reducible rfl))
          simp only [Act.put, List.setIfInBounds_toArray, List.set_cons_zero, List.set_cons_succ]
          refine tk 8 36 (v := ?v14) rfl rfl ?h14 hHeld ?r14
          case h14 => (intro w hSw; (try dsimp only at hSw); go_simp; try (with_reducible rfl))
          simp only [Act.put, List.setIfInBounds_toArray, List.set_cons_zero, List.set_cons_succ]
          refine wpAnyH_ready (rs := [11]) (by kernel_rfl) (by simp) ?_
          refine AllReadyH.cons rfl (fun K hK => ?_) AllReadyH.nil
          obtain ⟨hOw, hEo⟩ := (unhide T9_10_5).r l' f' s' hs' r rfl
          obtain ⟨h8, k8⟩ := (unhide T9_10_5).e8 b8 rfl
          obtain ⟨h9, k9⟩ := (unhide T9_10_5).e9 b9 rfl
          have c0 := (heap_at k8 0).1
          have c1 := (heap_at k8 1).1
          have c2 := (heap_at k8 2).1
          have c3 := (heap_at k8 3).1
          have cf0 := (heap_at k8 0).2
          have cf1 := (heap_at k8 1).2
          have cf2 := (heap_at k8 2).2
          have cf3 := (heap_at k8 3).2
          have h89 : b9 ≠ b8 := fun e => by rw [e, k8] at k9; injection k9 with k9; injection k9 with _ k9 _; exact absurd k9 (by decide)
          have hw : WrB (fun i => i = b8) u9_10_5 ((((u9_10_5.setCell ⟨b8, 0, none⟩ (.int .i64 pp.1.next)).setCell ⟨b8, 1, none⟩ (.slice l'.a l'.n l'.c)).setCell ⟨b8, 2, none⟩ (.slice f'.a f'.n f'.c)).setCell ⟨b8, 3, none⟩ (.slice s'.a s'.n s'.c)) := sv4_wr u9_10_5 b8 (.int .i64 pp.1.next) (.slice l'.a l'.n l'.c) (.slice f'.a f'.n f'.c) (.slice s'.a s'.n s'.c)
          have Q8 := hide (show ((((u9_10_5.setCell ⟨b8, 0, none⟩ (.int .i64 pp.1.next)).setCell ⟨b8, 1, none⟩ (.slice l'.a l'.n l'.c)).setCell ⟨b8, 2, none⟩ (.slice f'.a f'.n f'.c)).setCell ⟨b8, 3, none⟩ (.slice s'.a s'.n s'.c)).heap[b8]? = some (.cells #[.int .i64 pp.1.next, .slice l'.a l'.n l'.c, .slice f'.a f'.n f'.c, .slice s'.a s'.n s'.c] 29 (0, 0)) from sv4_heap k8 (.int .i64 pp.1.next) (.slice l'.a l'.n l'.c) (.slice f'.a f'.n f'.c) (.slice s'.a s'.n s'.c))
          have Q9 := hide (show ((((u9_10_5.setCell ⟨b8, 0, none⟩ (.int .i64 pp.1.next)).setCell ⟨b8, 1, none⟩ (.slice l'.a l'.n l'.c)).setCell ⟨b8, 2, none⟩ (.slice f'.a f'.n f'.c)).setCell ⟨b8, 3, none⟩ (.slice s'.a s'.n s'.c)).heap[b9]? = some (.cells #[.int .i64 0, .int .i64 0, .string ⟨#[]⟩, .slice none 0 0] 40 (0, 0)) from (hw.block b9 (blk_lt k9) h89).trans k9)
          have QO := hide (show VzOwn ((((u9_10_5.setCell ⟨b8, 0, none⟩ (.int .i64 pp.1.next)).setCell ⟨b8, 1, none⟩ (.slice l'.a l'.n l'.c)).setCell ⟨b8, 2, none⟩ (.slice f'.a f'.n f'.c)).setCell ⟨b8, 3, none⟩ (.slice s'.a s'.n s'.c)) W.heap.size l' f' s' hs' pp.1 from hOw.box k8 (by decide) (by decide) (by decide) hw)
          have QE := hide (show EOwns ((((u9_10_5.setCell ⟨b8, 0, none⟩ (.int .i64 pp.1.next)).setCell ⟨b8, 1, none⟩ (.slice l'.a l'.n l'.c)).setCell ⟨b8, 2, none⟩ (.slice f'.a f'.n f'.c)).setCell ⟨b8, 3, none⟩ (.slice s'.a s'.n s'.c)) wr.heap.size (.slice r.a r.n r.c) pp.2.list from own_keep hEo k8 (by decide) hw)
          have QB := hide (show Below wr.heap.size wr ((((u9_10_5.setCell ⟨b8, 0, none⟩ (.int .i64 pp.1.next)).setCell ⟨b8, 1, none⟩ (.slice l'.a l'.n l'.c)).setCell ⟨b8, 2, none⟩ (.slice f'.a f'.n f'.c)).setCell ⟨b8, 3, none⟩ (.slice s'.a s'.n s'.c)) from (unhide T9_10_5).bel.trans (WrB.below hw (fun i e => by rw [e]; exact h8) (unhide T9_10_5).bel.size))
          clear hw hOw hEo k8 k9
          go_simp
          refine hK.out _ _ (unhide SK _ (unhide QB)) (fun hHeld => ?_)
          clear hK K
          clear c0 cf0 c1 cf1 c2 cf2 c3 cf3
          generalize ((((u9_10_5.setCell ⟨b8, 0, none⟩ (.int .i64 pp.1.next)).setCell ⟨b8, 1, none⟩ (.slice l'.a l'.n l'.c)).setCell ⟨b8, 2, none⟩ (.slice f'.a f'.n f'.c)).setCell ⟨b8, 3, none⟩ (.slice s'.a s'.n s'.c)) = ux at *
          refine wpAnyH_ready (rs := [12]) (by kernel_rfl) (by simp) ?_
          refine AllReadyH.cons rfl (fun K hK => ?_) AllReadyH.nil
          have c0 := (heap_at (unhide Q9) 0).1
          have c1 := (heap_at (unhide Q9) 1).1
          have c2 := (heap_at (unhide Q9) 2).1
          have c3 := (heap_at (unhide Q9) 3).1
          have cf0 := (heap_at (unhide Q9) 0).2
          have cf1 := (heap_at (unhide Q9) 1).2
          have cf2 := (heap_at (unhide Q9) 2).2
          have cf3 := (heap_at (unhide Q9) 3).2
          have hw : WrB (fun i => i = b9) ux ((((ux.setCell ⟨b9, 0, none⟩ (.int .i64 pp.2.code)).setCell ⟨b9, 1, none⟩ (.int .i64 pp.2.time)).setCell ⟨b9, 2, none⟩ (.string pp.2.val)).setCell ⟨b9, 3, none⟩ (.slice r.a r.n r.c)) := sv4_wr ux b9 (.int .i64 pp.2.code) (.int .i64 pp.2.time) (.string pp.2.val) (.slice r.a r.n r.c)
          have P9 := hide (show ((((ux.setCell ⟨b9, 0, none⟩ (.int .i64 pp.2.code)).setCell ⟨b9, 1, none⟩ (.int .i64 pp.2.time)).setCell ⟨b9, 2, none⟩ (.string pp.2.val)).setCell ⟨b9, 3, none⟩ (.slice r.a r.n r.c)).heap[b9]? = some (.cells #[.int .i64 pp.2.code, .int .i64 pp.2.time, .string pp.2.val, .slice r.a r.n r.c] 40 (0, 0)) from sv4_heap (unhide Q9) (.int .i64 pp.2.code) (.int .i64 pp.2.time) (.string pp.2.val) (.slice r.a r.n r.c))
          have P8 := hide (show ((((ux.setCell ⟨b9, 0, none⟩ (.int .i64 pp.2.code)).setCell ⟨b9, 1, none⟩ (.int .i64 pp.2.time)).setCell ⟨b9, 2, none⟩ (.string pp.2.val)).setCell ⟨b9, 3, none⟩ (.slice r.a r.n r.c)).heap[b8]? = some (.cells #[.int .i64 pp.1.next, .slice l'.a l'.n l'.c, .slice f'.a f'.n f'.c, .slice s'.a s'.n s'.c] 29 (0, 0)) from (hw.block b8 (blk_lt (unhide Q8)) (fun e => h89 e.symm)).trans (unhide Q8))
          have PO := hide (show VzOwn ((((ux.setCell ⟨b9, 0, none⟩ (.int .i64 pp.2.code)).setCell ⟨b9, 1, none⟩ (.int .i64 pp.2.time)).setCell ⟨b9, 2, none⟩ (.string pp.2.val)).setCell ⟨b9, 3, none⟩ (.slice r.a r.n r.c)) W.heap.size l' f' s' hs' pp.1 from (unhide QO).box (unhide Q9) (by decide) (by decide) (by decide) hw)
          have PE := hide (show EOwns ((((ux.setCell ⟨b9, 0, none⟩ (.int .i64 pp.2.code)).setCell ⟨b9, 1, none⟩ (.int .i64 pp.2.time)).setCell ⟨b9, 2, none⟩ (.string pp.2.val)).setCell ⟨b9, 3, none⟩ (.slice r.a r.n r.c)) wr.heap.size (.slice r.a r.n r.c) pp.2.list from own_keep (unhide QE) (unhide Q9) (by decide) hw)
          have PB := hide (show Below wr.heap.size wr ((((ux.setCell ⟨b9, 0, none⟩ (.int .i64 pp.2.code)).setCell ⟨b9, 1, none⟩ (.int .i64 pp.2.time)).setCell ⟨b9, 2, none⟩ (.string pp.2.val)).setCell ⟨b9, 3, none⟩ (.slice r.a r.n r.c)) from (unhide QB).trans (WrB.below hw (fun i e => by rw [e]; exact h9) (unhide QB).size))
          clear hw
          go_simp
          refine hK.out _ _ (unhide SK _ (unhide PB)) (fun hHeld => ?_)
          clear hK K
          refine wpAnyH_done (by kernel_rfl) ?_ _
          clear hHeld SK
          go_wp2_with fail
          go_meet
          case rel => exact ⟨b8, b9, l', f', s', hs', r, rfl, rfl, P8, P9, PO, PE, PB, h9⟩
      · have T10 := hide (unhide Ts).lit9
        go_simp
        generalize us.alloc (.cells #[.int .i64 0, .int .i64 0, .string ⟨#[]⟩, .slice none 0 0] 40) = u10 at *
        generalize us.heap.size = b9 at *
        refine hK.out _ _ (unhide SK _ (unhide T10).bel) (fun hHeld => ?_)
        clear hK K
        refine wpAnyH_ready (rs := [5, 9]) (by kernel_rfl) (by simp) ?_
        refine AllReadyH.cons rfl (fun K hK => ?_) (AllReadyH.cons rfl (fun K hK => ?_) AllReadyH.nil)
        · go_simp
          refine (unhide CS _ (unhide T10).bel).mono ?_
          intro e u10_5 hst
          obtain ⟨l', f', s', hs', r, rfl, hq⟩ := (unhide T10).call (unhide hS).own hwrW hst
          have T10_5 := hide hq
          clear hq hst
          refine hK.out _ _ (unhide SK _ (unhide T10_5).bel) (fun hHeld => ?_)
          clear hK K
          refine tk 6 28 (v := ?v15) rfl rfl ?h15 hHeld ?r15
          case h15 => (intro w hSw; (try dsimp only at hSw); go_simp; try (with_reducible rfl))
          simp only [Act.put, List.setIfInBounds_toArray, List.set_cons_zero, List.set_cons_succ]
          refine tk 7 35 (v := ?v16) rfl rfl ?h16 hHeld ?r16
          case h16 => (intro w hSw; (try dsimp only at hSw); go_simp; try (with_reducible rfl))
          simp only [Act.put, List.setIfInBounds_toArray, List.set_cons_zero, List.set_cons_succ]
          refine tk 8 36 (v := ?v17) rfl rfl ?h17 hHeld ?r17
          case h17 => (intro w hSw; (try dsimp only at hSw); go_simp; try (with_reducible rfl))
          simp only [Act.put, List.setIfInBounds_toArray, List.set_cons_zero, List.set_cons_succ]
          refine wpAnyH_ready (rs := [9]) (by kernel_rfl) (by simp) ?_
          refine AllReadyH.cons rfl (fun K hK => ?_) AllReadyH.nil
          have T10_5_9 := hide (unhide T10_5).lit8
          go_simp
          generalize u10_5.alloc (.cells #[.int .i64 0, .slice none 0 0, .slice none 0 0, .slice none 0 0] 29) = u10_5_9 at *
          generalize u10_5.heap.size = b8 at *
          refine hK.out _ _ (unhide SK _ (unhide T10_5_9).bel) (fun hHeld => ?_)
          clear hK K
          refine wpAnyH_ready (rs := [11]) (by kernel_rfl) (by simp) ?_
          refine AllReadyH.cons rfl (fun K hK => ?_) AllReadyH.nil
          obtain ⟨hOw, hEo⟩ := (unhide T10_5_9).r l' f' s' hs' r rfl
          obtain ⟨h8, k8⟩ := (unhide T10_5_9).e8 b8 rfl
          obtain ⟨h9, k9⟩ := (unhide T10_5_9).e9 b9 rfl
          have c0 := (heap_at k8 0).1
          have c1 := (heap_at k8 1).1
          have c2 := (heap_at k8 2).1
          have c3 := (heap_at k8 3).1
          have cf0 := (heap_at k8 0).2
          have cf1 := (heap_at k8 1).2
          have cf2 := (heap_at k8 2).2
          have cf3 := (heap_at k8 3).2
          have h89 : b9 ≠ b8 := fun e => by rw [e, k8] at k9; injection k9 with k9; injection k9 with _ k9 _; exact absurd k9 (by decide)
          have hw : WrB (fun i => i = b8) u10_5_9 ((((u10_5_9.setCell ⟨b8, 0, none⟩ (.int .i64 pp.1.next)).setCell ⟨b8, 1, none⟩ (.slice l'.a l'.n l'.c)).setCell ⟨b8, 2, none⟩ (.slice f'.a f'.n f'.c)).setCell ⟨b8, 3, none⟩ (.slice s'.a s'.n s'.c)) := sv4_wr u10_5_9 b8 (.int .i64 pp.1.next) (.slice l'.a l'.n l'.c) (.slice f'.a f'.n f'.c) (.slice s'.a s'.n s'.c)
          have Q8 := hide (show ((((u10_5_9.setCell ⟨b8, 0, none⟩ (.int .i64 pp.1.next)).setCell ⟨b8, 1, none⟩ (.slice l'.a l'.n l'.c)).setCell ⟨b8, 2, none⟩ (.slice f'.a f'.n f'.c)).setCell ⟨b8, 3, none⟩ (.slice s'.a s'.n s'.c)).heap[b8]? = some (.cells #[.int .i64 pp.1.next, .slice l'.a l'.n l'.c, .slice f'.a f'.n f'.c, .slice s'.a s'.n s'.c] 29 (0, 0)) from sv4_heap k8 (.int .i64 pp.1.next) (.slice l'.a l'.n l'.c) (.slice f'.a f'.n f'.c) (.slice s'.a s'.n s'.c))
          have Q9 := hide (show ((((u10_5_9.setCell ⟨b8, 0, none⟩ (.int .i64 pp.1.next)).setCell ⟨b8, 1, none⟩ (.slice l'.a l'.n l'.c)).setCell ⟨b8, 2, none⟩ (.slice f'.a f'.n f'.c)).setCell ⟨b8, 3, none⟩ (.slice s'.a s'.n s'.c)).heap[b9]? = some (.cells #[.int .i64 0, .int .i64 0, .string ⟨#[]⟩, .slice none 0 0] 40 (0, 0)) from (hw.block b9 (blk_lt k9) h89).trans k9)
          have QO := hide (show VzOwn ((((u10_5_9.setCell ⟨b8, 0, none⟩ (.int .i64 pp.1.next)).setCell ⟨b8, 1, none⟩ (.slice l'.a l'.n l'.c)).setCell ⟨b8, 2, none⟩ (.slice f'.a f'.n f'.c)).setCell ⟨b8, 3, none⟩ (.slice s'.a s'.n s'.c)) W.heap.size l' f' s' hs' pp.1 from hOw.box k8 (by decide) (by decide) (by decide) hw)
          have QE := hide (show EOwns ((((u10_5_9.setCell ⟨b8, 0, none⟩ (.int .i64 pp.1.next)).setCell ⟨b8, 1, none⟩ (.slice l'.a l'.n l'.c)).setCell ⟨b8, 2, none⟩ (.slice f'.a f'.n f'.c)).setCell ⟨b8, 3, none⟩ (.slice s'.a s'.n s'.c)) wr.heap.size (.slice r.a r.n r.c) pp.2.list from own_keep hEo k8 (by decide) hw)
          have QB := hide (show Below wr.heap.size wr ((((u10_5_9.setCell ⟨b8, 0, none⟩ (.int .i64 pp.1.next)).setCell ⟨b8, 1, none⟩ (.slice l'.a l'.n l'.c)).setCell ⟨b8, 2, none⟩ (.slice f'.a f'.n f'.c)).setCell ⟨b8, 3, none⟩ (.slice s'.a s'.n s'.c)) from (unhide T10_5_9).bel.trans (WrB.below hw (fun i e => by rw [e]; exact h8) (unhide T10_5_9).bel.size))
          clear hw hOw hEo k8 k9
          go_simp
          refine hK.out _ _ (unhide SK _ (unhide QB)) (fun hHeld => ?_)
          clear hK K
          clear c0 cf0 c1 cf1 c2 cf2 c3 cf3
          generalize ((((u10_5_9.setCell ⟨b8, 0, none⟩ (.int .i64 pp.1.next)).setCell ⟨b8, 1, none⟩ (.slice l'.a l'.n l'.c)).setCell ⟨b8, 2, none⟩ (.slice f'.a f'.n f'.c)).setCell ⟨b8, 3, none⟩ (.slice s'.a s'.n s'.c)) = ux at *
          refine wpAnyH_ready (rs := [12]) (by kernel_rfl) (by simp) ?_
          refine AllReadyH.cons rfl (fun K hK => ?_) AllReadyH.nil
          have c0 := (heap_at (unhide Q9) 0).1
          have c1 := (heap_at (unhide Q9) 1).1
          have c2 := (heap_at (unhide Q9) 2).1
          have c3 := (heap_at (unhide Q9) 3).1
          have cf0 := (heap_at (unhide Q9) 0).2
          have cf1 := (heap_at (unhide Q9) 1).2
          have cf2 := (heap_at (unhide Q9) 2).2
          have cf3 := (heap_at (unhide Q9) 3).2
          have hw : WrB (fun i => i = b9) ux ((((ux.setCell ⟨b9, 0, none⟩ (.int .i64 pp.2.code)).setCell ⟨b9, 1, none⟩ (.int .i64 pp.2.time)).setCell ⟨b9, 2, none⟩ (.string pp.2.val)).setCell ⟨b9, 3, none⟩ (.slice r.a r.n r.c)) := sv4_wr ux b9 (.int .i64 pp.2.code) (.int .i64 pp.2.time) (.string pp.2.val) (.slice r.a r.n r.c)
          have P9 := hide (show ((((ux.setCell ⟨b9, 0, none⟩ (.int .i64 pp.2.code)).setCell ⟨b9, 1, none⟩ (.int .i64 pp.2.time)).setCell ⟨b9, 2, none⟩ (.string pp.2.val)).setCell ⟨b9, 3, none⟩ (.slice r.a r.n r.c)).heap[b9]? = some (.cells #[.int .i64 pp.2.code, .int .i64 pp.2.time, .string pp.2.val, .slice r.a r.n r.c] 40 (0, 0)) from sv4_heap (unhide Q9) (.int .i64 pp.2.code) (.int .i64 pp.2.time) (.string pp.2.val) (.slice r.a r.n r.c))
          have P8 := hide (show ((((ux.setCell ⟨b9, 0, none⟩ (.int .i64 pp.2.code)).setCell ⟨b9, 1, none⟩ (.int .i64 pp.2.time)).setCell ⟨b9, 2, none⟩ (.string pp.2.val)).setCell ⟨b9, 3, none⟩ (.slice r.a r.n r.c)).heap[b8]? = some (.cells #[.int .i64 pp.1.next, .slice l'.a l'.n l'.c, .slice f'.a f'.n f'.c, .slice s'.a s'.n s'.c] 29 (0, 0)) from (hw.block b8 (blk_lt (unhide Q8)) (fun e => h89 e.symm)).trans (unhide Q8))
          have PO := hide (show VzOwn ((((ux.setCell ⟨b9, 0, none⟩ (.int .i64 pp.2.code)).setCell ⟨b9, 1, none⟩ (.int .i64 pp.2.time)).setCell ⟨b9, 2, none⟩ (.string pp.2.val)).setCell ⟨b9, 3, none⟩ (.slice r.a r.n r.c)) W.heap.size l' f' s' hs' pp.1 from (unhide QO).box (unhide Q9) (by decide) (by decide) (by decide) hw)
          have PE := hide (show EOwns ((((ux.setCell ⟨b9, 0, none⟩ (.int .i64 pp.2.code)).setCell ⟨b9, 1, none⟩ (.int .i64 pp.2.time)).setCell ⟨b9, 2, none⟩ (.string pp.2.val)).setCell ⟨b9, 3, none⟩ (.slice r.a r.n r.c)) wr.heap.size (.slice r.a r.n r.c) pp.2.list from own_keep (unhide QE) (unhide Q9) (by decide) hw)
          have PB := hide (show Below wr.heap.size wr ((((ux.setCell ⟨b9, 0, none⟩ (.int .i64 pp.2.code)).setCell ⟨b9, 1, none⟩ (.int .i64 pp.2.time)).setCell ⟨b9, 2, none⟩ (.string pp.2.val)).setCell ⟨b9, 3, none⟩ (.slice r.a r.n r.c)) from (unhide QB).trans (WrB.below hw (fun i e => by rw [e]; exact h9) (unhide QB).size))
          clear hw
          go_simp
          refine hK.out _ _ (unhide SK _ (unhide PB)) (fun hHeld => ?_)
          clear hK K
          refine wpAnyH_done (by kernel_rfl) ?_ _
          clear hHeld SK
          go_wp2_with fail
          go_meet
          case rel => exact ⟨b8, b9, l', f', s', hs', r, rfl, rfl, P8, P9, PO, PE, PB, h9⟩
        · have T10_9 := hide (unhide T10).lit8
          go_simp
          generalize u10.alloc (.cells #[.int .i64 0, .slice none 0 0, .slice none 0 0, .slice none 0 0] 29) = u10_9 at *
          generalize u10.heap.size = b8 at *
          refine hK.out _ _ (unhide SK _ (unhide T10_9).bel) (fun hHeld => ?_)
          clear hK K
          refine wpAnyH_ready (rs := [5]) (by kernel_rfl) (by simp) ?_
          refine AllReadyH.cons rfl (fun K hK => ?_) AllReadyH.nil
          go_simp
          refine (unhide CS _ (unhide T10_9).bel).mono ?_
          intro e u10_9_5 hst
          obtain ⟨l', f', s', hs', r, rfl, hq⟩ := (unhide T10_9).call (unhide hS).own hwrW hst
          have T10_9_5 := hide hq
          clear hq hst
          refine hK.out _ _ (unhide SK _ (unhide T10_9_5).bel) (fun hHeld => ?_)
          clear hK K
          refine tk 6 28 (v := ?v18) rfl rfl ?h18 hHeld ?r18
          case h18 => (intro w hSw; (try dsimp only at hSw); go_simp; try (with_reducible rfl))
          simp only [Act.put, List.setIfInBounds_toArray, List.set_cons_zero, List.set_cons_succ]
          refine tk 7 35 (v := ?v19) rfl rfl ?h19 hHeld ?r19
          case h19 => (intro w hSw; (try dsimp only at hSw); go_simp; try (with_reducible rfl))
          simp only [Act.put, List.setIfInBounds_toArray, List.set_cons_zero, List.set_cons_succ]
          refine tk 8 36 (v := ?v20) rfl rfl ?h20 hHeld ?r20
          case h20 => (intro w hSw; (try dsimp only at hSw); go_simp; try (with_reducible rfl))
          simp only [Act.put, List.setIfInBounds_toArray, List.set_cons_zero, List.set_cons_succ]
          refine wpAnyH_ready (rs := [11]) (by kernel_rfl) (by simp) ?_
          refine AllReadyH.cons rfl (fun K hK => ?_) AllReadyH.nil
          obtain ⟨hOw, hEo⟩ := (unhide T10_9_5).r l' f' s' hs' r rfl
          obtain ⟨h8, k8⟩ := (unhide T10_9_5).e8 b8 rfl
          obtain ⟨h9, k9⟩ := (unhide T10_9_5).e9 b9 rfl
          have c0 := (heap_at k8 0).1
          have c1 := (heap_at k8 1).1
          have c2 := (heap_at k8 2).1
          have c3 := (heap_at k8 3).1
          have cf0 := (heap_at k8 0).2
          have cf1 := (heap_at k8 1).2
          have cf2 := (heap_at k8 2).2
          have cf3 := (heap_at k8 3).2
          have h89 : b9 ≠ b8 := fun e => by rw [e, k8] at k9; injection k9 with k9; injection k9 with _ k9 _; exact absurd k9 (by decide)
          have hw : WrB (fun i => i = b8) u10_9_5 ((((u10_9_5.setCell ⟨b8, 0, none⟩ (.int .i64 pp.1.next)).setCell ⟨b8, 1, none⟩ (.slice l'.a l'.n l'.c)).setCell ⟨b8, 2, none⟩ (.slice f'.a f'.n f'.c)).setCell ⟨b8, 3, none⟩ (.slice s'.a s'.n s'.c)) := sv4_wr u10_9_5 b8 (.int .i64 pp.1.next) (.slice l'.a l'.n l'.c) (.slice f'.a f'.n f'.c) (.slice s'.a s'.n s'.c)
          have Q8 := hide (show ((((u10_9_5.setCell ⟨b8, 0, none⟩ (.int .i64 pp.1.next)).setCell ⟨b8, 1, none⟩ (.slice l'.a l'.n l'.c)).setCell ⟨b8, 2, none⟩ (.slice f'.a f'.n f'.c)).setCell ⟨b8, 3, none⟩ (.slice s'.a s'.n s'.c)).heap[b8]? = some (.cells #[.int .i64 pp.1.next, .slice l'.a l'.n l'.c, .slice f'.a f'.n f'.c, .slice s'.a s'.n s'.c] 29 (0, 0)) from sv4_heap k8 (.int .i64 pp.1.next) (.slice l'.a l'.n l'.c) (.slice f'.a f'.n f'.c) (.slice s'.a s'.n s'.c))
          have Q9 := hide (show ((((u10_9_5.setCell ⟨b8, 0, none⟩ (.int .i64 pp.1.next)).setCell ⟨b8, 1, none⟩ (.slice l'.a l'.n l'.c)).setCell ⟨b8, 2, none⟩ (.slice f'.a f'.n f'.c)).setCell ⟨b8, 3, none⟩ (.slice s'.a s'.n s'.c)).heap[b9]? = some (.cells #[.int .i64 0, .int .i64 0, .string ⟨#[]⟩, .slice none 0 0] 40 (0, 0)) from (hw.block b9 (blk_lt k9) h89).trans k9)
          have QO := hide (show VzOwn ((((u10_9_5.setCell ⟨b8, 0, none⟩ (.int .i64 pp.1.next)).setCell ⟨b8, 1, none⟩ (.slice l'.a l'.n l'.c)).setCell ⟨b8, 2, none⟩ (.slice f'.a f'.n f'.c)).setCell ⟨b8, 3, none⟩ (.slice s'.a s'.n s'.c)) W.heap.size l' f' s' hs' pp.1 from hOw.box k8 (by decide) (by decide) (by decide) hw)
          have QE := hide (show EOwns ((((u10_9_5.setCell ⟨b8, 0, none⟩ (.int .i64 pp.1.next)).setCell ⟨b8, 1, none⟩ (.slice l'.a l'.n l'.c)).setCell ⟨b8, 2, none⟩ (.slice f'.a f'.n f'.c)).setCell ⟨b8, 3, none⟩ (.slice s'.a s'.n s'.c)) wr.heap.size (.slice r.a r.n r.c) pp.2.list from own_keep hEo k8 (by decide) hw)
          have QB := hide (show Below wr.heap.size wr ((((u10_9_5.setCell ⟨b8, 0, none⟩ (.int .i64 pp.1.next)).setCell ⟨b8, 1, none⟩ (.slice l'.a l'.n l'.c)).setCell ⟨b8, 2, none⟩ (.slice f'.a f'.n f'.c)).setCell ⟨b8, 3, none⟩ (.slice s'.a s'.n s'.c)) from (unhide T10_9_5).bel.trans (WrB.below hw (fun i e => by rw [e]; exact h8) (unhide T10_9_5).bel.size))
          clear hw hOw hEo k8 k9
          go_simp
          refine hK.out _ _ (unhide SK _ (unhide QB)) (fun hHeld => ?_)
          clear hK K
          clear c0 cf0 c1 cf1 c2 cf2 c3 cf3
          generalize ((((u10_9_5.setCell ⟨b8, 0, none⟩ (.int .i64 pp.1.next)).setCell ⟨b8, 1, none⟩ (.slice l'.a l'.n l'.c)).setCell ⟨b8, 2, none⟩ (.slice f'.a f'.n f'.c)).setCell ⟨b8, 3, none⟩ (.slice s'.a s'.n s'.c)) = ux at *
          refine wpAnyH_ready (rs := [12]) (by kernel_rfl) (by simp) ?_
          refine AllReadyH.cons rfl (fun K hK => ?_) AllReadyH.nil
          have c0 := (heap_at (unhide Q9) 0).1
          have c1 := (heap_at (unhide Q9) 1).1
          have c2 := (heap_at (unhide Q9) 2).1
          have c3 := (heap_at (unhide Q9) 3).1
          have cf0 := (heap_at (unhide Q9) 0).2
          have cf1 := (heap_at (unhide Q9) 1).2
          have cf2 := (heap_at (unhide Q9) 2).2
          have cf3 := (heap_at (unhide Q9) 3).2
          have hw : WrB (fun i => i = b9) ux ((((ux.setCell ⟨b9, 0, none⟩ (.int .i64 pp.2.code)).setCell ⟨b9, 1, none⟩ (.int .i64 pp.2.time)).setCell ⟨b9, 2, none⟩ (.string pp.2.val)).setCell ⟨b9, 3, none⟩ (.slice r.a r.n r.c)) := sv4_wr ux b9 (.int .i64 pp.2.code) (.int .i64 pp.2.time) (.string pp.2.val) (.slice r.a r.n r.c)
          have P9 := hide (show ((((ux.setCell ⟨b9, 0, none⟩ (.int .i64 pp.2.code)).setCell ⟨b9, 1, none⟩ (.int .i64 pp.2.time)).setCell ⟨b9, 2, none⟩ (.string pp.2.val)).setCell ⟨b9, 3, none⟩ (.slice r.a r.n r.c)).heap[b9]? = some (.cells #[.int .i64 pp.2.code, .int .i64 pp.2.time, .string pp.2.val, .slice r.a r.n r.c] 40 (0, 0)) from sv4_heap (unhide Q9) (.int .i64 pp.2.code) (.int .i64 pp.2.time) (.string pp.2.val) (.slice r.a r.n r.c))
          have P8 := hide (show ((((ux.setCell ⟨b9, 0, none⟩ (.int .i64 pp.2.code)).setCell ⟨b9, 1, none⟩ (.int .i64 pp.2.time)).setCell ⟨b9, 2, none⟩ (.string pp.2.val)).setCell ⟨b9, 3, none⟩ (.slice r.a r.n r.c)).heap[b8]? = some (.cells #[.int .i64 pp.1.next, .slice l'.a l'.n l'.c, .slice f'.a f'.n f'.c, .slice s'.a s'.n s'.c] 29 (0, 0)) from (hw.block b8 (blk_lt (unhide Q8)) (fun e => h89 e.symm)).trans (unhide Q8))
          have PO := hide (show VzOwn ((((ux.setCell ⟨b9, 0, none⟩ (.int .i64 pp.2.code)).setCell ⟨b9, 1, none⟩ (.int .i64 pp.2.time)).setCell ⟨b9, 2, none⟩ (.string pp.2.val)).setCell ⟨b9, 3, none⟩ (.slice r.a r.n r.c)) W.heap.size l' f' s' hs' pp.1 from (unhide QO).box (unhide Q9) (by decide) (by decide) (by decide) hw)
          have PE := hide (show EOwns ((((ux.setCell ⟨b9, 0, none⟩ (.int .i64 pp.2.code)).setCell ⟨b9, 1, none⟩ (.int .i64 pp.2.time)).setCell ⟨b9, 2, none⟩ (.string pp.2.val)).setCell ⟨b9, 3, none⟩ (.slice r.a r.n r.c)) wr.heap.size (.slice r.a r.n r.c) pp.2.list from own_keep (unhide QE) (unhide Q9) (by decide) hw)
          have PB := hide (show Below wr.heap.size wr ((((ux.setCell ⟨b9, 0, none⟩ (.int .i64 pp.2.code)).setCell ⟨b9, 1, none⟩ (.int .i64 pp.2.time)).setCell ⟨b9, 2, none⟩ (.string pp.2.val)).setCell ⟨b9, 3, none⟩ (.slice r.a r.n r.c)) from (unhide QB).trans (WrB.below hw (fun i e => by rw [e]; exact h9) (unhide QB).size))
          clear hw
          go_simp
          refine hK.out _ _ (unhide SK _ (unhide PB)) (fun hHeld => ?_)
          clear hK K
          refine wpAnyH_done (by kernel_rfl) ?_ _
          clear hHeld SK
          go_wp2_with fail
          go_meet
          case rel => exact ⟨b8, b9, l', f', s', hs', r, rfl, rfl, P8, P9, PO, PE, PB, h9⟩
    case rest =>
      obtain ⟨b8, b9, ⟨la2, ln2, lc2⟩, ⟨fa2, fn2, fc2⟩, ⟨sa2, sn2, sc2⟩, hs2, ⟨ra, rn2, rc⟩, rfl, rfl, hK8, hK9, hOW, hEO, hBc, h9⟩ := hcut
      clear SK T00 CS
      obtain ⟨⟨q2a, q2n, q2c⟩, w7, hr7, hS7⟩ := (unhide hS).push (unhide hBc) (unhide hOW) pp.2 ⟨ra, rn2, rc⟩ (unhide hEO) (unhide HZL)
      have kb := ((unhide hS).below (unhide hBc)).box
      unfold vzC at kb
      simp only at kb hr7 hS7 hK8 hK9
      have t0 := (heap_at kb 0).1
      have t1 := (heap_at kb 1).1
      have t2 := (heap_at kb 2).1
      have t3 := (heap_at kb 3).1
      have tf0 := (heap_at kb 0).2
      have tf1 := (heap_at kb 1).2
      have tf2 := (heap_at kb 2).2
      have tf3 := (heap_at kb 3).2
      have y0 := (heap_at (unhide hK8) 0).1
      have y1 := (heap_at (unhide hK8) 1).1
      have y2 := (heap_at (unhide hK8) 2).1
      have y3 := (heap_at (unhide hK8) 3).1
      have h9b : b9 ≠ tb := by have := blk_lt (unhide hS).box; omega
      have k9 := ((sv4_wr wc tb (.int .i64 pp.1.next) (.slice la2 ln2 lc2) (.slice fa2 fn2 fc2) (.slice sa2 sn2 sc2)).block b9 (blk_lt (unhide hK9)) h9b).trans (unhide hK9)
      unfold sv4 at hr7 k9
      have HS7 := hide hS7
      have R7 := hide hr7
      have K9 := hide k9
      clear hS7 kb hr7 k9 hK8 hK9 hS hOW hEO hX
      go_upto_region 12 with fail
      clear t0 t1 t2 t3 tf0 tf1 tf2 tf3 y0 y1 y2 y3
      generalize ((((wc.setCell ⟨tb, 0, none⟩ (.int .i64 pp.1.next)).setCell ⟨tb, 1, none⟩ (.slice la2 ln2 lc2)).setCell ⟨tb, 2, none⟩ (.slice fa2 fn2 fc2)).setCell ⟨tb, 3, none⟩ (.slice sa2 sn2 sc2)) = uz at *
      have hr7 := unhide R7
      have p0 := (heap_at (unhide K9) 0).1
      have p1 := (heap_at (unhide K9) 1).1
      have p2 := (heap_at (unhide K9) 2).1
      have p3 := (heap_at (unhide K9) 3).1
      have REL := hide (show ∃ (k' : Nat) (l f s : Sl) (hs : List SeH) (q : Sl) (zs : List ZrH), k + 1 = k' ∧ Value.slice q2a q2n q2c = .slice q.a q.n q.c ∧ Hid (TrSt W w7 tb l f s hs rn.1 (.slice q.a q.n q.c) zs) ∧ Hid (zs.map (·.X) = rn.2) from ⟨k + 1, ⟨la2, ln2, lc2⟩, ⟨fa2, fn2, fc2⟩, ⟨sa2, sn2, sc2⟩, hs2, ⟨q2a, q2n, q2c⟩, _, rfl, rfl, by rw [unhide VN]; exact HS7, unhide XN ⟨ra, rn2, rc⟩⟩)
      clear HS7 XN VN RK hV
      go_wp2_with (at_builtin; refine ky_wpApp rfl (.tmp 38) (.tmp 40) 30 rfl _ _ _ w7 rfl rfl hr7 ?_)
      go_roundw
      case rel =>
        obtain ⟨k', l, f, s, hs, q, zs', rfl, e2, e3, e4⟩ := unhide REL
        exact ⟨k + 1, l, f, s, hs, q, zs', by omega, e2, by go_num, by rw [unhide HRN]; exact e3, by rw [unhide HRN]; exact e4⟩
      case measure => simp [intOf]; omega
end Go.Proofs.YtdnjgbckkmbmfaaGreat

namespace Go.Proofs.YtdnjgbckkmbmfaaGreat
open Go.RowKit

theorem se_new {w : World} {B : Nat} {v : Value} (h : w.ownsRow B 55 3 v 4 (madeCells #[.bool false, .int .i64 0, .slice none 0 0] (4 * 3)).toList) : SeOwn w B v (List.replicate 4 seNil) := by
  rw [se_made] at h
  have hm : ∀ {k a x}, sbAt ((List.replicate 4 seNil).map seEl) k a = some x → x = ⟨43, 4, 0, .slice none 0 0, []⟩ := fun hx => by
    obtain ⟨e, he, hxe⟩ := sbAt_mem hx
    obtain ⟨y, hy, rfl⟩ := List.mem_map.1 he
    rw [List.eq_of_mem_replicate hy] at hxe
    exact List.mem_singleton.1 hxe
  refine ⟨h, rfl, seEl_wid _, fun k a x hx => ?_, fun i j a b x y hx hy _ g hg => ?_, fun i a x hx g _ => ?_⟩
  · rw [hm hx]; exact World.ownsRow_nil _ _ _ _
  · rw [hm hx] at hg; cases hg
  · rw [hm hx]; intro e; cases e
theorem noVersions_vz (w : World) : Calls Tryz.prog 32 #[] w fun e w' => ∃ sc g, e = .returned (.agg (vzC 1 ⟨none, 0, 0⟩ ⟨none, 0, 0⟩ ⟨some ⟨g, 0, none⟩, 4, sc⟩)) ∧ VzOwn w' w.heap.size ⟨none, 0, 0⟩ ⟨none, 0, 0⟩ ⟨some ⟨g, 0, none⟩, 4, sc⟩ (List.replicate 4 seNil) newV ∧ Below w.heap.size w w' :=
  (noVersions_any w).mono fun e w' ⟨sc, g, he, ho, hb⟩ => ⟨sc, g, he, ⟨World.ownsRow_nil _ _ _ _, World.ownsRow_nil _ _ _ _, se_new ho, rfl, fun i hi => by cases hi⟩, hb⟩
theorem LgAt.rd {w : World} {B lb m N : Nat} {h : ByteArray → Value} {f s : Sl} {hs : List SeH} {d : VsD} (q : LgAt w B lb m N h f s hs d) : LdRd w lb m N h f s hs d := by
  obtain ⟨fa, fn, fc⟩ := f
  obtain ⟨sa, sn, sc⟩ := s
  have hl := q.len
  have so := q.vz.so
  refine ⟨q.box, q.his.rd, frow_of_owns q.vz.fo, cap_of_owns (s := ⟨fa, fn, fc⟩) q.vz.fo, ?_, (cap_of_owns (s := ⟨sa, sn, sc⟩) so.row).2, fun x hx => ?_, q.vz.ss⟩
  · have := so.reads
    rw [← hl.1] at this
    exact this
  · obtain ⟨k, hk, rfl⟩ := List.getElem_of_mem hx
    exact cap_of_owns (so.dat k 0 _ (by unfold sbAt; rw [seEl_at hk]; rfl))
theorem nbl_zr {w : World} {B n i : Nat} {v : Value} {zs : List ZrH} (h : NOwn w B 40 4 v n (zs.map zrEl)) (hi : NBl v (zs.map zrEl) i) : ∃ cur T, w.heap[i]? = some (.cells cur T (0, 0)) ∧ (T = 40 ∨ T = 48) := by
  rcases hi with hi | ⟨k, a, x, hx, hi⟩
  · obtain ⟨cur, hc⟩ := own_kind h.row hi
    exact ⟨cur, _, hc, .inl rfl⟩
  · have ht : x.t = 48 := by
      obtain ⟨e, he, hxe⟩ := sbAt_mem hx
      obtain ⟨y, _, rfl⟩ := List.mem_map.1 he
      rw [List.mem_singleton.1 hxe]
    obtain ⟨cur, hc⟩ := own_kind (h.dat k a x hx) hi
    exact ⟨cur, _, hc, .inr ht⟩
theorem not_lk {w : World} {i : Nat} {cs : Array Value} {t : TypeId} (h : w.heap[i]? = some (.cells cs t (0, 0))) (ht : t = 40 ∨ t = 48 ∨ t = 37) : ¬ LK w i := by
  rintro (⟨es, c, e⟩ | ⟨cs', t', fr, e, hk⟩)
  · rw [h] at e; cases e
  · rw [h] at e
    injection e with e
    injection e with _ e2 _
    subst e2
    rcases ht with rfl | rfl | rfl <;> rcases hk with hk | hk | hk | hk <;> exact absurd hk (by decide)
theorem zr_lg {w w' : World} {B C n : Nat} {v : Value} {zs : List ZrH} (h : NOwn w C 40 4 v n (zs.map zrEl)) (hw : LgW B w w') : NOwn w' C 40 4 v n (zs.map zrEl) :=
  h.keep hw fun i hi ⟨_, hk⟩ => by
    obtain ⟨cur, T, hc, hT⟩ := nbl_zr h hi
    exact not_lk hc (hT.elim .inl (fun e => .inr (.inl e))) hk
structure IrSt (w1 wr : World) (lb m N : Nat) (h : ByteArray → Value) (f s : Sl) (hs : List SeH) (d : VsD) (rv : Value) (zs : List ZrH) : Prop where
  bel : Below w1.heap.size w1 wr
  lg : LgAt wr w1.heap.size lb m N h f s hs d
  rep : ZrOwn wr w1.heap.size rv zs
theorem IrSt.below {w1 w w' : World} {lb m N : Nat} {h : ByteArray → Value} {f s : Sl} {hs : List SeH} {d : VsD} {rv : Value} {zs : List ZrH} (q : IrSt w1 w lb m N h f s hs d rv zs) (hb : Below w.heap.size w w') : IrSt w1 w' lb m N h f s hs d rv zs :=
  ⟨q.bel.trans (hb.mono q.bel.size), q.lg.below hb, q.rep.below hb⟩
theorem IrSt.push {w1 wr u : World} {lb m N : Nat} {h : ByteArray → Value} {f s : Sl} {hs : List SeH} {d : VsD} {rv : Value} {zs : List ZrH} (q : IrSt w1 wr lb m N h f s hs d rv zs) {p : VsD × RepD} {N' : Nat} {h' : ByteArray → Value} {f' : Sl} {hs' : List SeH} {r : Sl} (hl : LgAt u w1.heap.size lb m N' h' f' s hs' p.1) (ho : EOwns u wr.heap.size (.slice r.a r.n r.c) p.2.list) (hw : LgW w1.heap.size wr u) (hz : zs.length ≤ 1000) :
    ∃ q' : Sl, ∃ w5, (Builtin.append_ #[30, 30] 30 #[rv, .slice (some ⟨u.heap.size, 0, none⟩) 1 1]).run Tryz.prog (u.alloc (.cells #[.int .i64 p.2.code, .int .i64 p.2.time, .string p.2.val, .slice r.a r.n r.c] 40)) = .ok (.slice q'.a q'.n q'.c) w5 ∧ IrSt w1 w5 lb m N' h' f' s hs' p.1 (.slice q'.a q'.n q'.c) (zs ++ [⟨p.2, r⟩]) := by
  have b1 := q.bel.trans (hw.below q.bel.size)
  have r1 : ZrOwn u w1.heap.size rv zs := zr_lg q.rep hw
  obtain ⟨i0, hi0, hz0, hz1, hz2⟩ := info_parts Tryz.infoZr
  obtain ⟨v', w5, hrun, hN, hg, -⟩ := NOwn.app (e := zrEl ⟨p.2, r⟩) (C := wr.heap.size) 30 Tryz.underlying30 hi0 hz0 hz1 hz2 rfl (by decide) (by decide) r1 rfl (by intro y hy; simp only [zrEl, List.mem_cons, List.not_mem_nil, or_false] at hy; rcases hy with rfl | rfl | rfl | rfl <;> rfl) (fun x hx => by
    rw [List.mem_singleton.1 hx]; exact ho) (fun i hi => (q.rep.lt i hi).2) q.bel.size (fun a b x y hy hz' hab => by
    match a, hy, b, hz' with
    | 0, _, 0, _ => exact absurd rfl hab
    | a + 1, hy, _, _ => cases hy
    | 0, _, b + 1, hz' => cases hz') (by omega) b1.size
  obtain ⟨q', rfl, -⟩ := v_slice hN.row
  have bA : Below u.heap.size u (u.alloc (.cells (zrEl ⟨p.2, r⟩).hd.toArray 40)) := (Below.refl _ _).alloc (Nat.le_refl _) _
  have rA := r1.below bA
  refine ⟨q', w5, hrun, ⟨(b1.trans (bA.mono b1.size)).trans (WrB.below (WrB.of_grown hg) (fun i hi => (rA.row.lt i hi).1) (Nat.le_trans b1.size bA.size)), (hl.below bA).wr (WrB.of_grown hg) (fun i hi => ?_), ?_⟩⟩
  · obtain ⟨cur, hc⟩ := own_kind rA.row hi
    exact not_lk hc (.inl rfl)
  · have := hN
    rw [← List.map_singleton, ← List.map_append] at this
    rw [show zs.length + 1 = (zs ++ [(⟨p.2, r⟩ : ZrH)]).length by simp] at this
    exact this
set_option maxRecDepth 100000 in
set_option maxHeartbeats 8000000 in
theorem implTxRun_any (a : Option Addr) (n c : Nat) (acts : List TxD) (w : World) (hR : XRow w a n acts) (hn : n ≤ 1048576) :
    Calls Tryz.prog 7 #[.slice a n c] w fun e w' => TxRes acts w e w' := by
  have L := hide hR.1
  have b0 : Below w.heap.size w (w.alloc (.cells #[.int .i64 0, .slice none 0 0, .slice none 0 0, .slice none 0 0] 29)) := (Below.refl _ _).alloc (Nat.le_refl _) _
  have K0 := heap_alloc_new w (.cells #[.int .i64 0, .slice none 0 0, .slice none 0 0, .slice none 0 0] 29)
  have ZT : w.heap.size < (w.alloc (.cells #[.int .i64 0, .slice none 0 0, .slice none 0 0, .slice none 0 0] 29)).heap.size := by simp
  have LONG := hide (show 150 < n → ∀ cc : Int, txC acts = cc → TxRes acts w (.returned (.tuple #[.agg #[.int .i64 0, .slice none 0 0, .slice none 0 0, .slice none 0 0], .slice none 0 0, .int .i64 cc])) (w.alloc (.cells #[.int .i64 0, .slice none 0 0, .slice none 0 0, .slice none 0 0] 29)) from fun h cc hc => by
    have h' : 150 < acts.length := by rw [unhide L]; exact h
    have hv : txV acts = ⟨0, [], [], []⟩ := by unfold txV; rw [if_pos h']
    have hr : txR acts = [] := by unfold txR; rw [if_pos h']
    exact ⟨⟨none, 0, 0⟩, ⟨none, 0, 0⟩, ⟨none, 0, 0⟩, [], ⟨none, 0, 0⟩, [], by rw [hc, hv], by rw [hv]; exact vz_none _ _, NOwn.flat (World.ownsRow_nil _ _ _ _) rfl (fun e he => by cases he) (fun e he => by cases he), by rw [hr]; rfl, b0⟩)
  by_cases hl1 : 4096 < n
  · have hC : txC acts = 2 := by unfold txC; rw [if_pos (by rw [unhide L]; exact hl1)]
    have RES := hide (unhide LONG (by omega) 2 hC)
    clear hC
    go_enter Tryz.func7, Tryz.ntmps7
    go_wp2_with fail
    refine bodyPost_ret (v := .tuple #[.agg #[.int .i64 0, .slice none 0 0, .slice none 0 0, .slice none 0 0], .slice none 0 0, .int .i64 2]) (by simp [results, Tryz.results7, go_sem]) rfl ?_
    exact unhide RES
  by_cases hl2 : 150 < n
  · have hC : txC acts = 6 := by unfold txC; rw [if_neg (by rw [unhide L]; exact hl1), if_pos (by rw [unhide L]; exact hl2)]
    have RES := hide (unhide LONG hl2 6 hC)
    clear hC
    go_enter Tryz.func7, Tryz.ntmps7
    go_wp2_with fail
    refine bodyPost_ret (v := .tuple #[.agg #[.int .i64 0, .slice none 0 0, .slice none 0 0, .slice none 0 0], .slice none 0 0, .int .i64 6]) (by simp [results, Tryz.results7, go_sem]) rfl ?_
    exact unhide RES
  have RT := hide (show txC acts = 0 ∧ txV acts = (runV acts).1 ∧ txR acts = (runV acts).2 by
    have h1 : ¬ 4096 < acts.length := by rw [unhide L]; exact hl1
    have h2 : ¬ 150 < acts.length := by rw [unhide L]; exact hl2
    unfold txC txV txR
    rw [if_neg h1, if_neg h2, if_neg h2, if_neg h2]
    exact ⟨rfl, rfl, rfl⟩)
  have R := hide hR
  clear hR LONG
  go_enter Tryz.func7, Tryz.ntmps7
  go_wp2_with fail
  generalize w.alloc (.cells #[.int .i64 0, .slice none 0 0, .slice none 0 0, .slice none 0 0] 29) = W0 at *
  refine (noVersions_vz W0).mono ?_
  rintro e w1 ⟨sc, g, rfl, hO, hb1⟩
  have B1 := b0.trans (hb1.mono b0.size)
  have K1 := (hb1.block w.heap.size ZT).trans K0
  have z1 : w.heap.size < w1.heap.size := Nat.lt_of_lt_of_le ZT hb1.size
  have HL := hide (ledgerOf_any newV ⟨none, 0, 0⟩ ⟨none, 0, 0⟩ ⟨some ⟨g, 0, none⟩, 4, sc⟩ (List.replicate 4 seNil) w1 hO.reads (fun e => by cases e) ⟨Nat.zero_le _, Nat.zero_le _, by show 4 ≤ 1048576; omega, fun i hi => by rw [List.getElem_map, List.getElem_replicate]; exact Nat.zero_le _⟩ (Nat.zero_le _) (fun i hi => by cases hi))
  unfold vzC at HL ⊢
  simp only [show newV.next = 1 from rfl] at HL ⊢
  clear hO hb1 K0 b0
  go_wp2_with fail
  refine (unhide HL).mono ?_
  rintro e w2 ⟨lb, m, N0, h0, f0, s, hs0, rfl, hL, hN0, hX0, hb2⟩
  have G0 := hide (show IrSt w1 w2 lb m N0 h0 f0 s hs0 (runV (acts.take 0)).1 (.slice none 0 0) [] from ⟨hb2, LdAt.lg (d := newV) hL hX0, NOwn.flat (World.ownsRow_nil _ _ _ _) rfl (fun e he => by cases he) (fun e he => by cases he)⟩)
  clear hL hX0 hb2 HL
  go_wp2_with fail
  go_loopw [6, 21] (fun rv iv wr => ∃ (k N : Nat) (h : ByteArray → Value) (f : Sl) (hs : List SeH) (q : Sl) (zs : List ZrH), k ≤ n ∧ N ≤ 4096 + 8 * k ∧ rv = .slice q.a q.n q.c ∧ iv = .int .i64 k ∧ Hid (IrSt w1 wr lb m N h f s hs (runV (acts.take k)).1 (.slice q.a q.n q.c) zs) ∧ Hid (zs.map (·.X) = (runV (acts.take k)).2)) (fun _ iv _ => n - (intOf iv).toNat)
  case atStart => exact ⟨0, N0, h0, f0, hs0, ⟨none, 0, 0⟩, [], Nat.zero_le _, by omega, rfl, rfl, G0, rfl⟩
  case round =>
    clear G0 hN0
    obtain ⟨k, N, h, f, hs, ⟨qa, qn, qc⟩, zs, hk, hNk, rfl, rfl, hS, hX⟩ := hrel
    have hV := hide (runV_ok acts k (by rw [unhide L]; exact hk))
    have bR := B1.trans ((unhide hS).bel.mono (Nat.le_of_lt z1))
    by_cases hlt : k < n
    case neg =>
      obtain rfl : k = n := by omega
      have ht : acts.take k = acts := List.take_of_length_le (by rw [unhide L]; exact Nat.le_refl _)
      rw [ht] at hS hX hV
      have hln := (unhide hS).lg.len
      have HVN := hide (versions_any lb m N h f s hs (runV acts).1 wr (unhide hS).lg.rd (unhide hV).ok (by omega) (by have := (unhide hV).cnt; omega) (by have := (unhide hV).fen; omega) (by have := (unhide hV).ses; omega) (fun x hx => by
        obtain ⟨j, hj, rfl⟩ := List.getElem_of_mem hx
        have h1 := (SeIn.row (unhide hS).lg.vz.so.reads hj).1
        have h2 := (unhide hS).lg.vz.ss
        simp only at h2
        have h3 : hs[j].X ∈ (runV acts).1.ses := by rw [← h2]; exact List.mem_map.2 ⟨hs[j], List.getElem_mem hj, rfl⟩
        have := sesK_ws ((unhide hV).sk _ h3)
        omega))
      clear ht hln
      go_wp2_with fail
      refine (unhide HVN).mono ?_
      rintro e w5 ⟨⟨la2, ln2, lc2⟩, ⟨fa2, fn2, fc2⟩, ⟨sa2, sn2, sc2⟩, hs7, rfl, O7, hb7⟩
      have hwr := (unhide hS).bel.size
      have K5 := (hb7.block w.heap.size (Nat.lt_of_lt_of_le z1 hwr)).trans (((unhide hS).bel.block w.heap.size z1).trans K1)
      have k0 := (heap_at K5 0).1
      have k1 := (heap_at K5 1).1
      have k2 := (heap_at K5 2).1
      have k3 := (heap_at K5 3).1
      have kf0 := (heap_at K5 0).2
      have kf1 := (heap_at K5 1).2
      have kf2 := (heap_at K5 2).2
      have kf3 := (heap_at K5 3).2
      have hw5 : w.heap.size < wr.heap.size := Nat.lt_of_lt_of_le z1 hwr
      have hw := sv4_wr w5 w.heap.size (.int .i64 (runV acts).1.next) (.slice la2 ln2 lc2) (.slice fa2 fn2 fc2) (.slice sa2 sn2 sc2)
      have OT := O7.wr hw (fun i e => by rw [e]; exact hw5)
      have N5 := (unhide hS).rep.below hb7
      have N1 := N5.keep hw (fun i hi e => by have := (N5.lt i hi).1; omega)
      have BB := bel_sv4 (bR.trans (hb7.mono bR.size)) (Nat.le_refl w.heap.size) (.int .i64 (runV acts).1.next) (.slice la2 ln2 lc2) (.slice fa2 fn2 fc2) (.slice sa2 sn2 sc2)
      have RES := hide (show TxRes acts w (.returned (.tuple #[.agg #[.int .i64 (runV acts).1.next, .slice la2 ln2 lc2, .slice fa2 fn2 fc2, .slice sa2 sn2 sc2], .slice qa qn qc, .int .i64 0])) (sv4 w5 w.heap.size (.int .i64 (runV acts).1.next) (.slice la2 ln2 lc2) (.slice fa2 fn2 fc2) (.slice sa2 sn2 sc2)) from ⟨⟨la2, ln2, lc2⟩, ⟨fa2, fn2, fc2⟩, ⟨sa2, sn2, sc2⟩, hs7, ⟨qa, qn, qc⟩, zs, by rw [(unhide RT).1, (unhide RT).2.1], by rw [(unhide RT).2.1]; exact OT.dn (Nat.le_of_lt hw5), N1.down (Nat.le_of_lt z1), by rw [(unhide RT).2.2]; exact unhide hX, BB⟩)
      unfold sv4 at RES
      clear hw OT N5 N1 BB O7 K5 hS hX hV hb7 HVN
      unfold vzC
      simp only
      go_wp2_with fail
      refine bodyPost_ret (v := .tuple #[.agg #[.int .i64 (runV acts).1.next, .slice la2 ln2 lc2, .slice fa2 fn2 fc2, .slice sa2 sn2 sc2], .slice qa qn qc, .int .i64 0]) (by simp [results, Tryz.results7, go_sem, *]) rfl ?_
      exact unhide RES
    have hk2 : k < acts.length := by rw [unhide L]; exact hlt
    obtain ⟨b, off, rfl, d0, d1, d2, d3, d4⟩ := ((unhide R).below bR).2 k hk2
    have RK := hide (runV_take hk2)
    have HZL := hide (show zs.length ≤ 1000 by
      have e := congrArg List.length (unhide hX)
      rw [List.length_map, runV_len, List.length_take] at e
      omega)
    have XN := hide (show ∀ r : Sl, (zs ++ [(⟨(stepV (runV (acts.take k)).1 acts[k]).2, r⟩ : ZrH)]).map (·.X) = (runV (acts.take (k + 1))).2 from fun r => by rw [unhide RK, List.map_append, unhide hX]; rfl)
    have VN := hide (show (runV (acts.take (k + 1))).1 = (stepV (runV (acts.take k)).1 acts[k]).1 by rw [unhide RK])
    generalize hrn : runV (acts.take (k + 1)) = rn at *
    have HRN := hide hrn
    clear hrn
    generalize (runV (acts.take k)).1 = dk at *
    generalize acts[k] = ac at *
    have bx := (Below.refl wr.heap.size wr).alloc (Nat.le_refl _) (.cells #[.int .i64 ac.kind, .int .i64 ac.ses, .string ac.key, .string ac.to, .string ac.val] 37)
    have SX := hide ((unhide hS).below bx)
    have CA := hide (act_any lb w1.heap.size m N k h f s hs dk ac _ (unhide SX).lg (unhide hV) (by omega) (by omega) (unhide SX).bel.size)
    clear bx hS
    generalize stepV dk ac = pp at *
    obtain ⟨xk, xs, xa, xb, xc⟩ := ac
    unfold xv at CA
    simp only at d0 d1 d2 d3 d4 CA SX
    go_wp2_with fail
    refine (unhide CA).mono ?_
    rintro e w3 ⟨N', h', f', hs', ⟨ra, rnn, rc⟩, rfl, hl3, ho3, hw3, hN'⟩
    obtain ⟨⟨q2a, q2n, q2c⟩, w7, hr7, hS7⟩ := (unhide SX).push hl3 ho3 hw3 (unhide HZL)
    have S7 := hide hS7
    simp only at hr7
    clear hS7 hl3 ho3 hw3 CA SX d0 d1 d2 d3 d4
    go_wp2_with (at_builtin; refine wpAppE rfl _ _ 30 rfl _ _ (.slice q2a q2n q2c) w7 rfl rfl hr7 ?_)
    go_roundw
    case rel => exact ⟨k + 1, N', h', f', hs', ⟨q2a, q2n, q2c⟩, _, by omega, by omega, rfl, by go_num, by rw [unhide HRN, unhide VN]; exact S7, by rw [unhide HRN]; exact unhide XN _⟩
    case measure => simp [intOf]; omega
end Go.Proofs.YtdnjgbckkmbmfaaGreat

namespace Go.Proofs.YtdnjgbckkmbmfaaGreat
open Go.RowKit

set_option maxHeartbeats 1000000 in
theorem eqEntry_any (d : EntD) (w : World) :
    Calls Tryz.prog 118 #[.agg #[.string d.k, .string d.v], .agg #[.string d.k, .string d.v]] w fun e w' => e = .returned (.bool true) ∧ Below w.heap.size w w' := by
  obtain ⟨k, v⟩ := d
  go_enter Tryz.func118, Tryz.ntmps118
  go_wp2_with fail
  go_ret
  exact ⟨rfl, ((Below.refl _ _).alloc (Nat.le_refl _) _).alloc (by simp) _⟩
set_option maxHeartbeats 1000000 in
theorem eqEntryS_any (a1 a2 : Option Addr) (n c1 c2 : Nat) (es : List EntD) (w : World) (hn : n ≤ 1048576) (h1 : ERow w a1 n es) (h2 : ERow w a2 n es) :
    Calls Tryz.prog 96 #[.slice a1 n c1, .slice a2 n c2] w fun e w' => e = .returned (.bool true) ∧ Below w.heap.size w w' := by
  have L := hide h1.1
  have R1 := hide h1
  have R2 := hide h2
  clear h1 h2
  go_enter Tryz.func96, Tryz.ntmps96
  go_wp2_with fail
  go_loopw [5] (fun i wr => ∃ k : Nat, k ≤ n ∧ i = .int .i64 k ∧ Below w.heap.size w wr) (fun i _ => n - (intOf i).toNat)
  case atStart => exact ⟨0, by omega, rfl, Below.refl _ _⟩
  case round =>
    obtain ⟨k, hk, rfl, hb⟩ := hrel
    by_cases hlt : k < n
    · have hk2 : k < es.length := by rw [unhide L]; exact hlt
      obtain ⟨b, off, rfl, d0, d1⟩ := ((unhide R1).below hb).2 k hk2
      obtain ⟨b', off', rfl, y0, y1⟩ := ((unhide R2).below hb).2 k hk2
      generalize es[k] = pd at *
      have hsz := hb.size
      go_wp2_with fail
      go_region_with (go_at_call 118; refine (eqEntry_any pd _).mono ?_; rintro e w2 ⟨rfl, hb2⟩)
      all_goals
        have bA : Below w.heap.size w w2 := by first | exact hb.drew.trans (hb2.mono hsz) | exact (bel_drewN hb _).trans (hb2.mono hsz) | exact hb.trans (hb2.mono hsz)
        clear hb hb2 d0 d1 y0 y1
        go_wp2_with fail
        go_roundw
        case rel => exact ⟨k + 1, by omega, by go_num, bA⟩
        case measure => simp [intOf]; omega
    · obtain rfl : k = n := by omega
      go_wp2_with fail
      go_ret
      exact ⟨rfl, hb⟩
def IsPage (w : World) (lo hi : ByteArray) (ab : Option Addr) (nb : Nat) (es : List EntD) (ac : Option Addr) (nc : Nat) (ds : List DelD) : Prop :=
  ERow w ab nb es ∧ DRow w ac nc ds ∧ lo.size ≤ maxLen ∧ hi.size ≤ maxLen ∧ nb ≤ maxLen ∧ nc ≤ maxLen ∧ (∀ i (hi : i < es.length), es[i].k.size ≤ maxLen ∧ es[i].v.size ≤ maxLen) ∧ (∀ i (hi : i < ds.length), ds[i].k.size ≤ maxLen ∧ ds[i].v.size ≤ maxLen)
theorem IsPage.below {w w' : World} {lo hi : ByteArray} {ab : Option Addr} {nb : Nat} {es : List EntD} {ac : Option Addr} {nc : Nat} {ds : List DelD} (h : IsPage w lo hi ab nb es ac nc ds) (hb : Below w.heap.size w w') : IsPage w' lo hi ab nb es ac nc ds :=
  ⟨h.1.below hb, h.2.1.below hb, h.2.2⟩
end Go.Proofs.YtdnjgbckkmbmfaaGreat

namespace Go.Proofs.YtdnjgbckkmbmfaaGreat
open Go.RowKit

end Go.Proofs.YtdnjgbckkmbmfaaGreat

namespace Go.Proofs.YtdnjgbckkmbmfaaGreat
open Go.RowKit

theorem rowC_len {w : World} {a : Option Addr} {n m c : Nat} {cs : List Value} (h : RowC w (.slice a n c) m cs) : n = m := by
  obtain ⟨_, _, e, _⟩ := h
  injection e
theorem erow_C {w : World} {a : Option Addr} {n c : Nat} {es : List EntD} (h : RowC w (.slice a n c) es.length (ecs es)) : ERow w a n es := by
  have hn := rowC_len h
  subst hn
  refine ⟨rfl, fun i hi => ?_⟩
  have e0 := ecs_at0 es i hi
  have e1 := ecs_at1 es i hi
  obtain ⟨b, off, e, q0⟩ := h.at e0
  obtain ⟨b', off', e', q1⟩ := h.at e1
  rw [e] at e'
  cases e'
  exact ⟨b, off, e, q0, by rw [Nat.add_assoc]; exact q1⟩
end Go.Proofs.YtdnjgbckkmbmfaaGreat

namespace Go.Proofs.YtdnjgbckkmbmfaaGreat
open Go.RowKit
end Go.Proofs.YtdnjgbckkmbmfaaGreat

namespace Go.Proofs.YtdnjgbckkmbmfaaGreat
open Go.RowKit

def markE (k0 i : Nat) : EntD := ⟨mt (k0 + 2 * i) ByteArray.empty, mt (k0 + 2 * i + 1) ByteArray.empty⟩
def markEs (k0 n : Nat) : List EntD := (List.range n).map (markE k0)
theorem markEs_len (k0 n : Nat) : (markEs k0 n).length = n := by simp [markEs]
theorem set_mark {α : Type} (f : Nat → α) (l : List α) (k : Nat) (h : k < l.length) : ((List.range k).map f ++ l.drop k).set k (f k) = (List.range (k + 1)).map f ++ l.drop (k + 1) := by
  rw [List.set_append_right _ _ (by simp), List.length_map, List.length_range, Nat.sub_self, List.drop_eq_getElem_cons h, List.set_cons_zero, List.range_succ, List.map_append, List.append_assoc]
  rfl
theorem eowns_set1 {w : World} {B g n c : Nat} {es : List EntD} (h : EOwns w B (.slice (some ⟨g, 0, none⟩) n c) es) (j : Nat) (v : Value) : (w.setCell ⟨g, j, none⟩ v).ownsRow B 48 2 (.slice (some ⟨g, 0, none⟩) n c) n ((ecs es).set j v) ∧ w.grownBy (w.setCell ⟨g, j, none⟩ v) (some g) := by
  obtain rfl := (erow_of_owns h).1
  exact World.ownsRow.stored h j v
theorem grownBy_below {w w' : World} {r : Option Nat} (h : Below w.heap.size w w') : w.grownBy w' r := ⟨h.os, h.tape, h.output, h.size, fun i hi _ => h.block i hi⟩
theorem ownsRow_below {w w' : World} {B e s n : Nat} {v : Value} {vs : List Value} (h : w.ownsRow B e s v n vs) (hb : Below w.heap.size w w') : w'.ownsRow B e s v n vs :=
  World.ownsRow.kept (row := none) h (grownBy_below hb) (by cases hv : v.ownBlock <;> simp)
set_option maxRecDepth 100000 in
set_option maxHeartbeats 4000000 in
theorem markEntryS_some (B g n c k0 : Nat) (es : List EntD) (w : World) (hp : 0 < k0) (hn : 2 * n + k0 ≤ 9999990) (h1 : EOwns w B (.slice (some ⟨g, 0, none⟩) n c) es) :
    Calls Tryz.prog 59 #[.slice (some ⟨g, 0, none⟩) n c, .int .i64 k0] w fun e w' => e = .returned (.int .i64 (k0 + 2 * n)) ∧ EOwns w' B (.slice (some ⟨g, 0, none⟩) n c) (markEs k0 n) ∧ w.grownBy w' (some g) := by
  have L := hide (erow_of_owns h1).1
  have H := hide h1
  clear h1
  go_enter Tryz.func59, Tryz.ntmps59
  go_wp2_with fail
  go_loopw [1, 5] (fun q i wr => ∃ k : Nat, k ≤ n ∧ i = .int .i64 k ∧ q = .int .i64 (k0 + 2 * k) ∧ Hid (EOwns wr B (.slice (some ⟨g, 0, none⟩) n c) (markEs k0 k ++ es.drop k)) ∧ Hid (w.grownBy wr (some g))) (fun _ i _ => n - (intOf i).toNat)
  case atStart => exact ⟨0, Nat.zero_le _, rfl, by simp, unhide H, grownBy_below (Below.refl _ _)⟩
  case round =>
    clear H
    obtain ⟨k, hk, rfl, rfl, hB, hw⟩ := hrel
    by_cases hlt : k < n
    · have hke : k < es.length := by have := unhide L; omega
      have hlx : k < (markEs k0 k ++ es.drop k).length := by rw [List.length_append, markEs_len, List.length_drop]; omega
      have SM := hide (show (markEs k0 k ++ es.drop k).set k (markE k0 k) = markEs k0 (k + 1) ++ es.drop (k + 1) from set_mark (markE k0) es k hke)
      generalize markEs k0 k ++ es.drop k = xs at *
      have hsz := (unhide hw).size
      go_wp2_with fail
      refine (markText_at (k0 + 2 * k) _ wr (by omega) (by omega) (by omega)).mono ?_
      rintro e w2 ⟨rfl, hb2⟩
      have B2 := hide (eowns_below (unhide hB) hb2)
      have G2 := hide (grown_trans (unhide hw) (grownBy_below hb2))
      obtain ⟨e0, e1⟩ := eowns_at (unhide B2) k hlx
      have f0 := eowns_fz (unhide B2) (k * 2)
      obtain ⟨o3, g3⟩ := eowns_set1 (unhide B2) (k * 2) (.string (mt (k0 + 2 * k) ByteArray.empty))
      have O3 := hide o3
      have G3 := hide (grown_trans (unhide G2) g3)
      generalize xs[k].k = u0 at *
      generalize xs[k].v = u1 at *
      generalize hmt : mt (k0 + 2 * k) ByteArray.empty = t0 at *
      clear hb2 hB hw o3 g3
      go_wp2_with fail
      generalize w2.setCell ⟨g, k * 2, none⟩ (.string t0) = w3 at *
      refine (markText_at (k0 + 2 * k + 1) _ w3 (by omega) (by omega) (by omega)).mono ?_
      rintro e w4 ⟨rfl, hb4⟩
      have O4 := hide (ownsRow_below (unhide O3) hb4)
      have G4 := hide (grown_trans (unhide G3) (grownBy_below hb4))
      have e5 : ∃ u, w4.cell? ⟨g, k * 2 + 1, none⟩ = some u := by
        have hl1 : k * 2 + 1 < n * 2 := by omega
        have h := (unhide O4).cellAt (k * 2 + 1) hl1
        have hlen : k * 2 + 1 < ((ecs xs).set (k * 2) (.string t0)).length := by rw [List.length_set, ecs_len]; omega
        exact ⟨_, h.trans (List.getElem?_eq_getElem hlen)⟩
      obtain ⟨u5, e5⟩ := e5
      have f5 := (unhide O4).frozenAt (k * 2 + 1)
      obtain ⟨o6, g6⟩ := World.ownsRow.stored (unhide O4) (k * 2 + 1) (.string (mt (k0 + 2 * k + 1) ByteArray.empty))
      have O6 := hide (show EOwns (w4.setCell ⟨g, k * 2 + 1, none⟩ (.string (mt (k0 + 2 * k + 1) ByteArray.empty))) B (.slice (some ⟨g, 0, none⟩) n c) (markEs k0 (k + 1) ++ es.drop (k + 1)) by
        rw [← unhide SM]
        unfold EOwns
        rw [ecs_set, List.length_set]
        have hxn : xs.length = n := (erow_of_owns (unhide B2)).1
        rw [hxn]
        unfold markE
        rw [hmt]
        exact o6)
      have G6 := hide (grown_trans (unhide G4) g6)
      generalize mt (k0 + 2 * k + 1) ByteArray.empty = t1 at *
      clear hb4 o6 g6 e0 e1 f0 B2 G2 O3 G3 O4 G4
      go_wp2_with fail
      go_roundw
      case rel => exact ⟨k + 1, by omega, by go_num, by go_num, unhide O6, unhide G6⟩
      case measure => simp [intOf]; omega
    · obtain rfl : k = n := by omega
      have P := hide (show EOwns wr B (.slice (some ⟨g, 0, none⟩) k c) (markEs k0 k) by
        have := unhide hB
        rw [List.drop_of_length_le (by rw [unhide L]; exact Nat.le_refl _), List.append_nil] at this
        exact this)
      go_wp2_with fail
      go_ret
      exact ⟨rfl, unhide P, unhide hw⟩
theorem markEntryS_none (a : Option Addr) (c : Nat) (k0 : Int) (w : World) :
    Calls Tryz.prog 59 #[.slice a 0 c, .int .i64 k0] w fun e w' => e = .returned (.int .i64 k0) ∧ w' = w := by
  go_enter Tryz.func59, Tryz.ntmps59
  go_wp2_with fail
  refine wp_loop_rounds 1 ?_
  rw [rounds_succ]
  go_wp2_with fail
  go_ret
  exact ⟨rfl, rfl⟩
theorem markEntryS_any (B : Nat) (a : Option Addr) (n c k0 : Nat) (es : List EntD) (w : World) (hp : 0 < k0) (hn : 2 * n + k0 ≤ 9999990) (h1 : EOwns w B (.slice a n c) es) :
    Calls Tryz.prog 59 #[.slice a n c, .int .i64 k0] w fun e w' => e = .returned (.int .i64 ((k0 + 2 * n : Nat) : Int)) ∧ EOwns w' B (.slice a n c) (markEs k0 n) ∧ w.grownBy w' (Value.slice a n c).ownBlock := by
  rcases h1.2 with ⟨e, hl⟩ | ⟨g, cap, cur, e, _⟩
  · injection e with e1 e2 e3
    subst e1 e2 e3
    refine (markEntryS_none none 0 k0 w).mono ?_
    rintro e w' ⟨rfl, rfl⟩
    exact ⟨by simp, World.ownsRow_nil _ _ _ _, grownBy_below (Below.refl _ _)⟩
  · injection e with e1 e2 e3
    subst e1 e2 e3
    refine (markEntryS_some B g _ _ k0 es w hp hn h1).mono ?_
    rintro e w' ⟨rfl, h2, h3⟩
    exact ⟨by simp, h2, h3⟩
end Go.Proofs.YtdnjgbckkmbmfaaGreat

namespace Go.Proofs.YtdnjgbckkmbmfaaGreat
open Go.RowKit

abbrev entMk (k n : Nat) : List EntD := markEs k n
theorem entMk_len (k n : Nat) : (entMk k n).length = n := markEs_len k n
theorem markEntryS_own (B : Nat) (a : Option Addr) (n c k0 : Nat) (d : List EntD) (w : World) (hn : 0 < k0 ∧ 2 * n + k0 ≤ 9999990) (hd : d.length = n) (h1 : w.ownsRow B 48 2 (.slice a n c) n (ecs d)) :
    Calls Tryz.prog 59 #[.slice a n c, .int .i64 (k0 : Int)] w fun e w' => e = .returned (.int .i64 ((k0 + 2 * n : Nat) : Int)) ∧ w'.ownsRow B 48 2 (.slice a n c) n (ecs (entMk k0 n)) ∧ WrB (fun i => (Value.slice a n c).ownBlock = some i) w w' := by
  subst hd
  refine (markEntryS_any B a _ c k0 d w hn.1 hn.2 h1).mono ?_
  rintro e w' ⟨rfl, h2, h3⟩
  refine ⟨rfl, ?_, WrB.of_grown h3⟩
  have h := h2
  unfold EOwns at h
  rwa [markEs_len] at h
end Go.Proofs.YtdnjgbckkmbmfaaGreat

namespace Go.Proofs.YtdnjgbckkmbmfaaGreat
open Go.RowKit

set_option maxRecDepth 100000 in
set_option maxHeartbeats 4000000 in
theorem heldEntryS_any (a : Option Addr) (n c k0 : Nat) (w : World) (hp : 0 < k0) (hn : 2 * n + k0 ≤ 9999990) (h1 : ERow w a n (markEs k0 n)) :
    Calls Tryz.prog 63 #[.slice a n c, .int .i64 k0] w fun e w' => e = .returned (.int .i64 ((k0 + 2 * n : Nat) : Int)) ∧ Below w.heap.size w w' := by
  have H := hide h1
  clear h1
  go_enter Tryz.func63, Tryz.ntmps63
  go_wp2_with fail
  go_loopw [1, 5] (fun q i wr => ∃ k : Nat, k ≤ n ∧ i = .int .i64 k ∧ q = .int .i64 (k0 + 2 * k) ∧ Below w.heap.size w wr) (fun _ i _ => n - (intOf i).toNat)
  case atStart => exact ⟨0, Nat.zero_le _, rfl, by simp, Below.refl _ _⟩
  case round =>
    obtain ⟨k, hk, rfl, rfl, hb⟩ := hrel
    by_cases hlt : k < n
    · have hk2 : k < (markEs k0 n).length := by rw [markEs_len]; exact hlt
      have em : (markEs k0 n)[k] = markE k0 k := by simp [markEs]
      obtain ⟨b, off, rfl, d0, d1⟩ := ((unhide H).below hb).2 k hk2
      rw [em] at d0 d1
      unfold markE at d0 d1
      simp only at d0 d1
      have hsz := hb.size
      have hbw : b < wr.heap.size := cell_lt d0
      have D1 := hide (show ∀ w', Below wr.heap.size wr w' → w'.cell? ⟨b, off + k * 2 + 1, none⟩ = some (.string (mt (k0 + 2 * k + 1) ByteArray.empty)) ∧ w'.cell? ⟨b, off + k * 2, none⟩ = some (.string (mt (k0 + 2 * k) ByteArray.empty)) ∧ b < w'.heap.size from fun w' hb' => ⟨(hb'.cell (p := ⟨b, off + k * 2 + 1, none⟩) hbw).trans d1, (hb'.cell (p := ⟨b, off + k * 2, none⟩) hbw).trans d0, by have := hb'.size; omega⟩)
      clear em
      go_wp2_with fail
      go_region_with (go_at_call 55; refine (markText_at (k0 + 2 * k) _ _ (by omega) (by omega) (by omega)).mono ?_; rintro e w2 ⟨rfl, hb2⟩; replace hb2 : Below wr.heap.size wr w2 := (by first | exact hb2 | exact bel_of_drew hb2 | exact bel_of_drewN hb2); obtain ⟨x1, x0, hbx⟩ := unhide D1 w2 hb2)
      all_goals
        have bA : Below w.heap.size w w2 := hb.trans (hb2.mono hsz)
        have hs2 := bA.size
        have D2 := hide (show ∀ w', Below w2.heap.size w2 w' → w'.cell? ⟨b, off + k * 2 + 1, none⟩ = some (.string (mt (k0 + 2 * k + 1) ByteArray.empty)) from fun w' hb' => (hb'.cell (p := ⟨b, off + k * 2 + 1, none⟩) hbx).trans x1)
        clear hb hb2 d0 d1 x0 D1
        generalize mt (k0 + 2 * k) ByteArray.empty = t0 at *
        go_wp2_with fail
        go_region_with (go_at_call 55; refine (markText_at (k0 + 2 * k + 1) _ _ (by omega) (by omega) (by omega)).mono ?_; rintro e w3 ⟨rfl, hb3⟩; replace hb3 : Below w2.heap.size w2 w3 := (by first | exact hb3 | exact bel_of_drew hb3 | exact bel_of_drewN hb3); have x3 := unhide D2 w3 hb3)
        all_goals
          have bB : Below w.heap.size w w3 := bA.trans (hb3.mono hs2)
          clear bA hb3 x1 x3 D2
          generalize mt (k0 + 2 * k + 1) ByteArray.empty = t1 at *
          go_wp2_with fail
          go_roundw
          case rel => exact ⟨k + 1, by omega, by go_num, by go_num, bB⟩
          case measure => simp [intOf]; omega
    · obtain rfl : k = n := by omega
      go_wp2_with fail
      go_ret
      exact ⟨by simp, hb⟩
end Go.Proofs.YtdnjgbckkmbmfaaGreat

namespace Go.Proofs.YtdnjgbckkmbmfaaGreat
open Go.RowKit

theorem eqEntryS_C (a1 a2 : Option Addr) (n c1 c2 : Nat) (d : List EntD) (w : World) (hn : n ≤ 1048576) (hd : d.length = n) (h1 : RowC w (.slice a1 n c1) n (ecs d)) (h2 : RowC w (.slice a2 n c2) n (ecs d)) :
    Calls Tryz.prog 96 #[.slice a1 n c1, .slice a2 n c2] w fun e w' => e = .returned (.bool true) ∧ Below w.heap.size w w' := by
  subst hd
  exact eqEntryS_any a1 a2 _ c1 c2 d w hn (erow_C h1) (erow_C h2)
theorem heldEntryS_C (a : Option Addr) (n c k0 : Nat) (w : World) (hp : 0 < k0) (hn : 2 * n + k0 ≤ 9999990) (h1 : RowC w (.slice a n c) n (ecs (entMk k0 n))) :
    Calls Tryz.prog 63 #[.slice a n c, .int .i64 k0] w fun e w' => e = .returned (.int .i64 ((k0 + 2 * n : Nat) : Int)) ∧ Below w.heap.size w w' := by
  have h2 : ERow w a n (markEs k0 n) := erow_C (by rw [markEs_len]; exact h1)
  exact heldEntryS_any a n c k0 w hp hn h2
end Go.Proofs.YtdnjgbckkmbmfaaGreat

namespace Go.Proofs.YtdnjgbckkmbmfaaGreat
open Go.RowKit

set_option maxRecDepth 100000 in
set_option maxHeartbeats 2000000 in
theorem eqTxReply_any (h1 h2 : ZrH) (w : World) (hX : h2.X = h1.X) (r0 : RowC w (.slice h1.s0.a h1.s0.n h1.s0.c) h1.X.list.length (ecs h1.X.list)) (t0 : RowC w (.slice h2.s0.a h2.s0.n h2.s0.c) h1.X.list.length (ecs h1.X.list)) (hl : h1.s0.n ≤ 1048576) :
    Calls Tryz.prog 53 #[zrV h1, zrV h2] w fun e w' => e = .returned (.bool true) ∧ Below w.heap.size w w' := by
  obtain ⟨X, ⟨a0, n0, c0⟩⟩ := h1
  obtain ⟨X2, ⟨b0, m0, d0⟩⟩ := h2
  simp only at hX
  subst hX
  unfold zrV
  simp only at hl r0 t0 ⊢
  obtain hL0 : X2.list.length = n0 := by obtain ⟨_, _, e, _⟩ := r0; injection e with _ e _; exact e.symm
  obtain hM0 : m0 = n0 := by obtain ⟨_, _, e, _⟩ := t0; injection e with _ e _; exact e.trans hL0
  subst hM0
  rw [hL0] at r0 t0
  generalize X2.code = x0 at *
  have hx0 : (x0 != x0) = false := by simp
  generalize X2.time = x1 at *
  have hx1 : (x1 != x1) = false := by simp
  generalize X2.val = x2 at *
  have hx2 : (x2.toList != x2.toList) = false := by simp
  have BB : Below w.heap.size w ((w.alloc (.cells #[.int .i64 x0, .int .i64 x1, .string x2, .slice a0 m0 c0] 40)).alloc (.cells #[.int .i64 x0, .int .i64 x1, .string x2, .slice b0 m0 d0] 40)) := ((Below.refl _ _).alloc (Nat.le_refl _) _).alloc (by simp) _
  have K1 := hide (show ((w.alloc (.cells #[.int .i64 x0, .int .i64 x1, .string x2, .slice a0 m0 c0] 40)).alloc (.cells #[.int .i64 x0, .int .i64 x1, .string x2, .slice b0 m0 d0] 40)).heap[w.heap.size]? = some (.cells #[.int .i64 x0, .int .i64 x1, .string x2, .slice a0 m0 c0] 40 (0, 0)) from (((Below.refl (w.heap.size + 1) _).alloc (by simp) _).block w.heap.size (by omega)).trans (heap_alloc_last w _))
  have K2 := hide (show ((w.alloc (.cells #[.int .i64 x0, .int .i64 x1, .string x2, .slice a0 m0 c0] 40)).alloc (.cells #[.int .i64 x0, .int .i64 x1, .string x2, .slice b0 m0 d0] 40)).heap[w.heap.size + 1]? = some (.cells #[.int .i64 x0, .int .i64 x1, .string x2, .slice b0 m0 d0] 40 (0, 0)) from by
    have h := heap_alloc_last (w.alloc (.cells #[.int .i64 x0, .int .i64 x1, .string x2, .slice a0 m0 c0] 40)) (.cells #[.int .i64 x0, .int .i64 x1, .string x2, .slice b0 m0 d0] 40)
    rwa [show (w.alloc (.cells #[.int .i64 x0, .int .i64 x1, .string x2, .slice a0 m0 c0] 40)).heap.size = w.heap.size + 1 by simp] at h)
  have R0 := hide r0
  have T0 := hide t0
  have L0 := hide hL0
  clear r0 t0 hL0
  go_enter Tryz.func53, Tryz.ntmps53
  go_wp2_with fail
  generalize ((w.alloc (.cells #[.int .i64 x0, .int .i64 x1, .string x2, .slice a0 m0 c0] 40)).alloc (.cells #[.int .i64 x0, .int .i64 x1, .string x2, .slice b0 m0 d0] 40)) = W at *
  refine (eqEntryS_C a0 b0 m0 c0 d0 _ W (by omega) (unhide L0) ((unhide R0).below BB) ((unhide T0).below BB)).mono ?_
  rintro e v0 ⟨rfl, hb⟩
  replace K1 := hide ((hb.block w.heap.size (Array.getElem?_eq_some_iff.1 (unhide K1)).1).trans (unhide K1))
  replace K2 := hide ((hb.block (w.heap.size + 1) (Array.getElem?_eq_some_iff.1 (unhide K2)).1).trans (unhide K2))
  replace BB := BB.trans (hb.mono BB.size)
  clear hb
  clear K1 K2
  go_wp2_with fail
  go_ret
  exact ⟨rfl, BB⟩
set_option maxHeartbeats 2000000 in
theorem eqTxReplyS_any (a1 a2 : Option Addr) (n c1 c2 : Nat) (hs1 hs2 : List ZrH) (w : World) (hn : n ≤ 1048576) (h1 : ZrIn w (.slice a1 n c1) n hs1) (h2 : ZrIn w (.slice a2 n c2) n hs2) (hX : hs2.map (·.X) = hs1.map (·.X)) (hl : ∀ h ∈ hs1, h.s0.n ≤ 1048576) :
    Calls Tryz.prog 22 #[.slice a1 n c1, .slice a2 n c2] w fun e w' => e = .returned (.bool true) ∧ Below w.heap.size w w' := by
  have L1 := hide (show hs1.length = n by have := h1.len; simpa using this)
  have L2 := hide (show hs2.length = n by have := h2.len; simpa using this)
  have R1 := hide h1
  have R2 := hide h2
  have LM := hide hl
  have HX := hide hX
  clear h1 h2 hl hX
  go_enter Tryz.func22, Tryz.ntmps22
  go_wp2_with fail
  go_loopw [5] (fun i wr => ∃ k : Nat, k ≤ n ∧ i = .int .i64 k ∧ Below w.heap.size w wr) (fun i _ => n - (intOf i).toNat)
  case atStart => exact ⟨0, by omega, rfl, Below.refl _ _⟩
  case round =>
    obtain ⟨k, hk, rfl, hb⟩ := hrel
    by_cases hlt : k < n
    · have k1 : k < hs1.length := by rw [unhide L1]; exact hlt
      have k2 : k < hs2.length := by rw [unhide L2]; exact hlt
      have ex : hs2[k].X = hs1[k].X := by
        have e := congrArg (·[k]?) (unhide HX)
        simp only [List.getElem?_map, List.getElem?_eq_getElem k1, List.getElem?_eq_getElem k2, Option.map_some] at e
        injection e
      obtain ⟨b, off, rfl, _, d0, d1, d2, d3⟩ := ZrIn.cells ((unhide R1).below hb) k1
      obtain ⟨b', off', rfl, _, y0, y1, y2, y3⟩ := ZrIn.cells ((unhide R2).below hb) k2
      have C := hide (show ∀ u, Below wr.heap.size wr u → Calls Tryz.prog 53 #[zrV hs1[k], zrV hs2[k]] u fun e w' => e = .returned (.bool true) ∧ Below u.heap.size u w' from fun u hu => by
        have P1 := ZrIn.sub (((unhide R1).below hb).below hu) k1
        have P2 := ZrIn.sub (((unhide R2).below hb).below hu) k2
        rw [ex] at P2
        exact eqTxReply_any hs1[k] hs2[k] u ex P1 P2 (unhide LM _ (List.getElem_mem k1)))
      clear ex
      generalize hs1[k] = pd at *
      generalize hs2[k] = qd at *
      obtain ⟨X, ⟨a0, n0, e0⟩⟩ := pd
      obtain ⟨Y, ⟨b0, m0, f0⟩⟩ := qd
      unfold zrV at C
      simp only at d0 d1 d2 d3 y0 y1 y2 y3 C
      generalize X.code = x0 at *
      generalize Y.code = w0 at *
      generalize X.time = x1 at *
      generalize Y.time = w1 at *
      generalize X.val = x2 at *
      generalize Y.val = w2 at *
      have hsz := hb.size
      go_wp2_with fail
      go_region_with (go_at_call 53; refine (unhide C _ (by first | exact Below.refl _ _ | exact (Below.refl _ _).drew | exact bel_drewN (Below.refl _ _) _)).mono ?_; rintro e w2 ⟨rfl, hb2⟩)
      all_goals
        have bA : Below w.heap.size w w2 := by first | exact hb.drew.trans (hb2.mono hsz) | exact (bel_drewN hb _).trans (hb2.mono hsz) | exact hb.trans (hb2.mono hsz)
        clear hb hb2 d0 d1 d2 d3 y0 y1 y2 y3 C
        go_wp2_with fail
        go_roundw
        case rel => exact ⟨k + 1, by omega, by go_num, bA⟩
        case measure => simp [intOf]; omega
    · obtain rfl : k = n := by omega
      go_wp2_with fail
      go_ret
      exact ⟨rfl, hb⟩
end Go.Proofs.YtdnjgbckkmbmfaaGreat

namespace Go.Proofs.YtdnjgbckkmbmfaaGreat
open Go.RowKit

def zrMkX (k : Nat) (X : RepD) : RepD := ⟨(k : Int), (k : Int) + 1, mt (k + 2) ByteArray.empty, entMk (k + 3) (X.list.length)⟩
def zrMk (k : Nat) (h : ZrH) : ZrH := ⟨zrMkX k h.X, h.s0⟩
def zrCnt (h : ZrH) : Nat := 3 + 2 * h.X.list.length
theorem zrown_n {w : World} {B t s n m : Nat} {a : Option Addr} {c : Nat} {cs : List Value} (h : w.ownsRow B t s (.slice a n c) m cs) : n = m := by
  rcases h.2 with ⟨e, rfl⟩ | ⟨g, cap, cur, e, _⟩
  · injection e
  · injection e
set_option maxRecDepth 100000 in
set_option maxHeartbeats 4000000 in
theorem markTxReplyS_some (B g n c k0 : Nat) (hs : List ZrH) (w : World) (_hp : 0 < k0) (hk0 : kG zrCnt k0 hs ≤ 9999990) (h1 : NOwn w B 40 4 (.slice (some ⟨g, 0, none⟩) n c) n (hs.map zrEl)) :
    Calls Tryz.prog 26 #[.slice (some ⟨g, 0, none⟩) n c, .int .i64 (k0 : Int)] w fun e w' => e = .returned (.int .i64 ((kG zrCnt k0 hs : Nat) : Int)) ∧ NOwn w' B 40 4 (.slice (some ⟨g, 0, none⟩) n c) n ((mkG zrCnt zrMk k0 hs).map zrEl) ∧ WrB (NBl (.slice (some ⟨g, 0, none⟩) n c) (hs.map zrEl)) w w' := by
  have L := hide (show hs.length = n by have := h1.len; simpa using this)
  have H := hide h1
  have KT := hide (fun j => Nat.le_trans (kG_take zrCnt k0 hs j) hk0)
  have KM := hide (fun j => kG_mono zrCnt k0 (hs.take j))
  have hnb : n ≤ maxLen := by
    rcases h1.row.2 with ⟨e, _⟩ | ⟨_, cap, _, e, _, _, h1, h2, _⟩
    · cases e
    · omega
  unfold maxLen at hnb
  clear h1
  go_enter Tryz.func26, Tryz.ntmps26
  go_wp2_with fail
  go_loopw [1, 5] (fun q i wr => ∃ j : Nat, j ≤ n ∧ i = .int .i64 j ∧ q = .int .i64 ((kG zrCnt k0 (hs.take j) : Nat) : Int) ∧ Hid (NOwn wr B 40 4 (.slice (some ⟨g, 0, none⟩) n c) n ((haG zrCnt zrMk k0 hs j).map zrEl)) ∧ Hid (WrB (NBl (.slice (some ⟨g, 0, none⟩) n c) (hs.map zrEl)) w wr)) (fun _ i _ => n - (intOf i).toNat)
  case atStart => exact ⟨0, Nat.zero_le _, rfl, by simp [kG], unhide H, WrB.same _ _⟩
  case round =>
    clear H
    obtain ⟨j, hj, rfl, rfl, hI, hw⟩ := hrel
    by_cases hlt : j < n
    · have hjl : j < hs.length := by rw [unhide L]; exact hlt
      have hkb := unhide KT (j + 1)
      rw [rb_take_snoc hs j hjl, kG_snoc] at hkb
      have hkm := unhide KM j
      have HKK := hide (show kG zrCnt k0 (hs.take (j + 1)) = kG zrCnt k0 (hs.take j) + zrCnt hs[j] by rw [rb_take_snoc hs j hjl, kG_snoc])
      have hjh : j < ((haG zrCnt zrMk k0 hs j).map zrEl).length := by rw [List.length_map, haG_len _ _ _ _ _ (by omega)]; exact hjl
      have EJ := hide (show ((haG zrCnt zrMk k0 hs j).map zrEl)[j]? = some (zrEl hs[j]) by rw [List.getElem?_map, haG_at zrCnt zrMk hjl]; rfl)
      have FIN := hide (show (haG zrCnt zrMk k0 hs (j + 1)).map zrEl = ((haG zrCnt zrMk k0 hs j).map zrEl).set j (zrEl (zrMk (kG zrCnt k0 (hs.take j)) hs[j])) by rw [haG_step zrCnt zrMk hjl, List.map_set])
      have BL := hide (show ∀ i a y, (zrEl hs[j]).sb[a]? = some y → y.v.ownBlock = some i → NBl (.slice (some ⟨g, 0, none⟩) n c) (hs.map zrEl) i from fun i a y hy hi => .inr ⟨j, a, y, by unfold sbAt; rw [zrEl_at hjl]; exact hy, hi⟩)
      obtain ⟨EE, hEE⟩ : ∃ E, E = zrEl (zrMk (kG zrCnt k0 (hs.take j)) hs[j]) := ⟨_, rfl⟩
      obtain ⟨CC, hCC⟩ : ∃ C, C = zrCnt hs[j] := ⟨_, rfl⟩
      rw [← hEE] at FIN
      rw [← hCC] at hkb HKK
      generalize hES : (haG zrCnt zrMk k0 hs j).map zrEl = es at *
      clear hES
      generalize kG zrCnt k0 (hs.take j) = K at *
      generalize hs[j] = pd at *
      obtain ⟨X, ⟨a0, n0, c0⟩⟩ := pd
      unfold zrEl zrMk zrMkX at hEE
      unfold zrCnt at hCC
      have EJ' := hide (show es[j]? = some ⟨[.int .i64 X.code, .int .i64 X.time, .string X.val, .slice a0 n0 c0], [⟨48, 2, X.list.length, .slice a0 n0 c0, ecs X.list⟩]⟩ from unhide EJ)
      have BL' := hide (show ∀ (i a : Nat) (y : Sb), ([⟨48, 2, X.list.length, .slice a0 n0 c0, ecs X.list⟩] : List Sb)[a]? = some y → y.v.ownBlock = some i → NBl (.slice (some ⟨g, 0, none⟩) n c) (hs.map zrEl) i from unhide BL)
      clear EJ BL
      have EJ := EJ'
      have BL := BL'
      clear EJ' BL'
      simp only at hEE hCC
      obtain rfl : n0 = X.list.length := zrown_n ((unhide hI).dat j 0 _ (by unfold sbAt; rw [unhide EJ]; rfl))
      have O0 := hide (show NOwn wr B 40 4 (.slice (some ⟨g, 0, none⟩) n c) n (es.set j ⟨[.int .i64 X.code, .int .i64 X.time, .string X.val, .slice a0 (X.list.length) c0], [⟨48, 2, X.list.length, .slice a0 (X.list.length) c0, ecs X.list⟩]⟩) from by
        obtain ⟨hl, he⟩ := List.getElem?_eq_some_iff.1 (unhide EJ)
        rw [← he, List.set_getElem_self]
        exact unhide hI)
      generalize hn0 : X.list.length = n0 at *
      have HN0 := hide hn0
      clear hn0
      generalize X.list = D0 at *
      generalize X.code = x0 at *
      generalize X.time = x1 at *
      generalize X.val = x2 at *
      have HEE := hide hEE
      have HCC := hide hCC
      rw [hCC] at hkb
      clear hEE hCC
      have G0 := hw
      clear hI hw EJ
      have e0 : wr.cell? ⟨g, j * 4, none⟩ = some (.int .i64 x0) := (unhide O0).cell (i := j) (j := 0) (List.getElem?_set_self hjh) rfl
      have f0 := (unhide O0).free (j * 4)
      have P0 := (unhide O0).setHd (i := j) (j := 0) (List.getElem?_set_self hjh) (by decide) (.int .i64 ((K : Int)))
      rw [List.set_set] at P0
      have O1 := hide (show NOwn (wr.setCell ⟨g, j * 4, none⟩ (.int .i64 ((K : Int)))) B 40 4 (.slice (some ⟨g, 0, none⟩) n c) n (es.set j ⟨[.int .i64 ((K : Int)), .int .i64 x1, .string x2, .slice a0 n0 c0], [⟨48, 2, n0, .slice a0 n0 c0, ecs D0⟩]⟩) from P0.1)
      replace G0 := hide ((unhide G0).seq (show WrB _ wr (wr.setCell ⟨g, j * 4, none⟩ (.int .i64 ((K : Int)))) from P0.2.weak (fun i hi => .inl (by rw [hi]; rfl))))
      clear P0 O0
      have e1 : (wr.setCell ⟨g, j * 4, none⟩ (.int .i64 ((K : Int)))).cell? ⟨g, j * 4 + 1, none⟩ = some (.int .i64 x1) := (unhide O1).cell (i := j) (j := 1) (List.getElem?_set_self hjh) rfl
      have f1 := (unhide O1).free (j * 4 + 1)
      have P1 := (unhide O1).setHd (i := j) (j := 1) (List.getElem?_set_self hjh) (by decide) (.int .i64 ((K : Int) + 1))
      rw [List.set_set] at P1
      have O2 := hide (show NOwn ((wr.setCell ⟨g, j * 4, none⟩ (.int .i64 ((K : Int)))).setCell ⟨g, j * 4 + 1, none⟩ (.int .i64 ((K : Int) + 1))) B 40 4 (.slice (some ⟨g, 0, none⟩) n c) n (es.set j ⟨[.int .i64 ((K : Int)), .int .i64 ((K : Int) + 1), .string x2, .slice a0 n0 c0], [⟨48, 2, n0, .slice a0 n0 c0, ecs D0⟩]⟩) from P1.1)
      replace G0 := hide ((unhide G0).seq (show WrB _ (wr.setCell ⟨g, j * 4, none⟩ (.int .i64 ((K : Int)))) ((wr.setCell ⟨g, j * 4, none⟩ (.int .i64 ((K : Int)))).setCell ⟨g, j * 4 + 1, none⟩ (.int .i64 ((K : Int) + 1))) from P1.2.weak (fun i hi => .inl (by rw [hi]; rfl))))
      clear P1 O1
      go_wp2_with fail
      generalize ((wr.setCell ⟨g, j * 4, none⟩ (.int .i64 ((K : Int)))).setCell ⟨g, j * 4 + 1, none⟩ (.int .i64 ((K : Int) + 1))) = u1 at *
      clear e0 f0
      clear e1 f1
      refine (markText_at (K + 2) _ u1 (by omega) (by omega) (by omega)).mono ?_
      rintro e w12 ⟨rfl, hb⟩
      replace O2 := hide ((unhide O2).below hb)
      replace G0 := hide ((unhide G0).seq (WrB.of_below hb))
      clear hb
      generalize hm2 : mt (K + 2) ByteArray.empty = t2 at *
      have e2 : w12.cell? ⟨g, j * 4 + 2, none⟩ = some (.string x2) := (unhide O2).cell (i := j) (j := 2) (List.getElem?_set_self hjh) rfl
      have f2 := (unhide O2).free (j * 4 + 2)
      have P2 := (unhide O2).setHd (i := j) (j := 2) (List.getElem?_set_self hjh) (by decide) (.string t2)
      rw [List.set_set] at P2
      have O3 := hide (show NOwn (w12.setCell ⟨g, j * 4 + 2, none⟩ (.string t2)) B 40 4 (.slice (some ⟨g, 0, none⟩) n c) n (es.set j ⟨[.int .i64 ((K : Int)), .int .i64 ((K : Int) + 1), .string t2, .slice a0 n0 c0], [⟨48, 2, n0, .slice a0 n0 c0, ecs D0⟩]⟩) from P2.1)
      replace G0 := hide ((unhide G0).seq (show WrB _ w12 (w12.setCell ⟨g, j * 4 + 2, none⟩ (.string t2)) from P2.2.weak (fun i hi => .inl (by rw [hi]; rfl))))
      clear P2 O2
      have HM := hide (show NOwn (w12.setCell ⟨g, j * 4 + 2, none⟩ (.string t2)) B 40 4 (.slice (some ⟨g, 0, none⟩) n c) n (es.set j ⟨[.int .i64 ((K : Int)), .int .i64 ((K : Int) + 1), .string t2, .slice a0 n0 c0], [⟨48, 2, n0, .slice a0 n0 c0, ecs D0⟩]⟩) from unhide O3)
      clear O3
      have y0 : (w12.setCell ⟨g, j * 4 + 2, none⟩ (.string t2)).cell? ⟨g, j * 4 + 3, none⟩ = some (.slice a0 n0 c0) := (unhide HM).cell (i := j) (j := 3) (List.getElem?_set_self hjh) rfl
      have C0 := hide (markEntryS_own B a0 n0 c0 (K + 3) D0 (w12.setCell ⟨g, j * 4 + 2, none⟩ (.string t2)) (by omega) (unhide HN0) ((unhide HM).dat j 0 _ (by unfold sbAt; rw [List.getElem?_set_self hjh]; rfl)))
      rw [show ((K + 3 : Nat) : Int) = (K : Int) + 1 + 1 + 1 by omega] at C0
      go_wp2_with fail
      generalize (w12.setCell ⟨g, j * 4 + 2, none⟩ (.string t2)) = u2 at *
      clear e2 f2
      clear y0
      refine (unhide C0).mono ?_
      rintro e v0 ⟨rfl, ho, hw2⟩
      have Q := (unhide HM).setSb (i := j) (a := 0) (List.getElem?_set_self hjh) rfl (x' := ⟨48, 2, n0, .slice a0 n0 c0, ecs (entMk (K + 3) n0)⟩) rfl ho hw2
      rw [List.set_set] at Q
      replace HM := hide (show NOwn v0 B 40 4 (.slice (some ⟨g, 0, none⟩) n c) n (es.set j ⟨[.int .i64 ((K : Int)), .int .i64 ((K : Int) + 1), .string t2, .slice a0 n0 c0], [⟨48, 2, n0, .slice a0 n0 c0, ecs (entMk (K + 3) n0)⟩]⟩) from Q)
      replace G0 := hide ((unhide G0).seq (hw2.weak (fun i hi => unhide BL i 0 _ rfl hi)))
      clear Q ho hw2 C0
      have R := hide (show NOwn v0 B 40 4 (.slice (some ⟨g, 0, none⟩) n c) n ((haG zrCnt zrMk k0 hs (j + 1)).map zrEl) from by
        rw [unhide FIN, unhide HEE]
        have h := unhide HM
        simp only [entMk_len]
        exact h)
      have KE := hide (show ((K + 3 + 2 * n0 : Nat) : Int) = ((kG zrCnt k0 (hs.take (j + 1)) : Nat) : Int) by rw [unhide HKK, unhide HCC];  omega)
      clear HM FIN BL HKK HEE HCC
      go_wp2_with fail
      go_roundw
      case rel => exact ⟨j + 1, by omega, by go_num, by rw [← unhide KE]; go_num, unhide R, unhide G0⟩
      case measure => simp [intOf]; omega
    · obtain rfl : j = n := by omega
      have Z := hide (show NOwn wr B 40 4 (.slice (some ⟨g, 0, none⟩) j c) j ((mkG zrCnt zrMk k0 hs).map zrEl) by
        have h := unhide hI
        rwa [← unhide L, haG_all, unhide L] at h)
      have ZK := hide (show kG zrCnt k0 (hs.take j) = kG zrCnt k0 hs by rw [List.take_of_length_le (by rw [unhide L]; exact Nat.le_refl _)])
      go_wp2_with fail
      go_ret
      exact ⟨ret_int (by rw [unhide ZK]), unhide Z, unhide hw⟩
theorem markTxReplyS_nil (k0 : Int) (w : World) : Calls Tryz.prog 26 #[.slice none 0 0, .int .i64 k0] w fun e w' => e = .returned (.int .i64 k0) ∧ w' = w := by
  go_enter Tryz.func26, Tryz.ntmps26
  go_wp2_with fail
  refine wp_loop_rounds 1 ?_
  rw [rounds_succ]
  go_wp2_with fail
  go_ret
  exact ⟨rfl, rfl⟩
theorem markTxReplyS_any (B : Nat) (a : Option Addr) (n c k0 : Nat) (hs : List ZrH) (w : World) (hp : 0 < k0) (hk0 : kG zrCnt k0 hs ≤ 9999990) (h1 : NOwn w B 40 4 (.slice a n c) n (hs.map zrEl)) :
    Calls Tryz.prog 26 #[.slice a n c, .int .i64 (k0 : Int)] w fun e w' => e = .returned (.int .i64 ((kG zrCnt k0 hs : Nat) : Int)) ∧ NOwn w' B 40 4 (.slice a n c) n ((mkG zrCnt zrMk k0 hs).map zrEl) ∧ WrB (NBl (.slice a n c) (hs.map zrEl)) w w' := by
  rcases h1.row.2 with ⟨e, hl⟩ | ⟨g, cap, cur, e, _⟩
  · injection e with e1 e2 e3
    subst e1 e2 e3
    obtain rfl : hs = [] := by have := h1.len; simpa using this
    refine (markTxReplyS_nil k0 w).mono ?_
    rintro e w' ⟨rfl, rfl⟩
    exact ⟨rfl, h1, WrB.same _ _⟩
  · injection e with e1 e2 e3
    subst e1
    exact markTxReplyS_some B g n c k0 hs w hp hk0 h1
end Go.Proofs.YtdnjgbckkmbmfaaGreat

namespace Go.Proofs.YtdnjgbckkmbmfaaGreat
open Go.RowKit

abbrev zrMh (k : Nat) (hs : List ZrH) : List ZrH := mkG zrCnt zrMk k hs
set_option maxRecDepth 100000 in
set_option maxHeartbeats 8000000 in
theorem heldTxReplyS_any (a : Option Addr) (n c k0 : Nat) (hs : List ZrH) (w : World) (hp : 0 < k0) (hk0 : kG zrCnt k0 hs ≤ 9999990) (h1 : ZrIn w (.slice a n c) n (zrMh k0 hs)) :
    Calls Tryz.prog 28 #[.slice a n c, .int .i64 (k0 : Int)] w fun e w' => e = .returned (.int .i64 ((kG zrCnt k0 hs : Nat) : Int)) ∧ Below w.heap.size w w' := by
  have L := hide (show hs.length = n by have := h1.len; rw [List.length_map, mkG_len] at this; exact this)
  have H := hide h1
  have KT := hide (fun j => Nat.le_trans (kG_take zrCnt k0 hs j) hk0)
  have KM := hide (fun j => kG_mono zrCnt k0 (hs.take j))
  have hlen : n ≤ 9999990 := by
    have h := gd_sum_le (fun _ : ZrH => 1) zrCnt 0 hs (fun x _ => by show 1 ≤ zrCnt x + 0; unfold zrCnt; omega)
    have h2 : ∀ l : List ZrH, (l.map (fun _ : ZrH => 1)).sum = l.length := fun l => by
      induction l with
      | nil => rfl
      | cons x r ih => rw [List.map_cons, List.sum_cons, ih, List.length_cons, Nat.add_comm]
    have h4 := h2 hs
    have h3 := kG_sum zrCnt k0 hs
    have := unhide L
    omega
  clear h1 hk0
  go_enter Tryz.func28, Tryz.ntmps28
  go_wp2_with fail
  go_loopw [1, 5] (fun q i wr => ∃ j : Nat, j ≤ n ∧ i = .int .i64 j ∧ q = .int .i64 ((kG zrCnt k0 (hs.take j) : Nat) : Int) ∧ Below w.heap.size w wr) (fun _ i _ => n - (intOf i).toNat)
  case atStart => exact ⟨0, Nat.zero_le _, rfl, rfl, Below.refl _ _⟩
  case round =>
    obtain ⟨j, hj, rfl, rfl, hb⟩ := hrel
    by_cases hlt : j < n
    · have hjl : j < hs.length := by rw [unhide L]; exact hlt
      have hkb := unhide KT (j + 1)
      have hkm := unhide KM j
      have KS := hide (show kG zrCnt k0 (hs.take (j + 1)) = kG zrCnt k0 (hs.take j) + (3 + 2 * hs[j].X.list.length) by rw [List.take_succ_eq_append_getElem hjl, kG_snoc]; rfl)
      rw [unhide KS] at hkb
      have hml : j < (zrMh k0 hs).length := by rw [mkG_len]; exact hjl
      have em : (zrMh k0 hs)[j] = zrMk (kG zrCnt k0 (hs.take j)) hs[j] := by
        have h := mkG_at zrCnt zrMk k0 hs j hjl
        rw [List.getElem?_eq_getElem hml] at h
        injection h
      have I := (unhide H).below hb
      obtain ⟨b, off, hab, hbl, c0, c1, c2, c3⟩ := ZrIn.cells I hml
      have r1 := ZrIn.sub I hml
      rw [em] at c0 c1 c2 c3 r1
      have e1 : hs[j].s0.n = hs[j].X.list.length := by
        have h := rowC_len r1
        simp only [zrMk, zrMkX] at h
        rw [h, entMk_len]
      simp only [zrMk, zrMkX] at c0 c1 c2 c3 r1
      rw [entMk_len, ← e1] at r1
      rw [← e1] at hkb KS
      generalize kG zrCnt k0 (hs.take j) = K at *
      generalize hs[j] = x at *
      obtain ⟨X, ⟨sa, sn, sc⟩⟩ := x
      simp only at c0 c1 c2 c3 r1 hkb KS e1
      subst hab
      have RV := hide r1
      have hsz := hb.size
      have D1 := hide (show ∀ w', Below wr.heap.size wr w' → w'.cell? ⟨b, off + j * 4 + 2, none⟩ = some (.string (mt (K + 2) ByteArray.empty)) ∧ w'.cell? ⟨b, off + j * 4 + 3, none⟩ = some (.slice sa sn sc) from fun w' hb' => ⟨(hb'.cell (p := ⟨b, off + j * 4 + 2, none⟩) hbl).trans c2, (hb'.cell (p := ⟨b, off + j * 4 + 3, none⟩) hbl).trans c3⟩)
      have hn0 : ((K : Int) != (K : Int)) = false := by simp
      have hn1 : (((K : Int) + 1) != ((K : Int) + 1)) = false := by simp
      clear em I r1 hml hjl e1 c3
      go_wp2_with fail
      clear c0 c1 hn0 hn1
      go_region_with (go_at_call 55; refine (markText_at (K + 2) _ _ (by omega) (by omega) (by omega)).mono ?_; rintro e w2 ⟨rfl, hb2⟩; replace hb2 : Below wr.heap.size wr w2 := (by first | exact hb2 | exact bel_of_drew hb2 | exact bel_of_drewN hb2); obtain ⟨x2, x3⟩ := unhide D1 w2 hb2)
      all_goals
        have hs2 := hb2.size
        have hb2l : b < w2.heap.size := by omega
        have HE := hide (heldEntryS_C sa sn sc (K + 3) w2 (by omega) (by omega) ((unhide RV).below hb2))
        rw [show (((K + 3 : Nat) : Int)) = (K : Int) + 1 + 1 + 1 by omega] at HE
        have bA := hb.trans (hb2.mono hsz)
        clear hb2 c2
        generalize mt (K + 2) ByteArray.empty = t0 at *
        go_wp2_with fail
        refine (unhide HE).mono ?_
        rintro e w4 ⟨rfl, hb4⟩
        have bE : Below w.heap.size w w4 := bA.trans (hb4.mono (by omega))
        have hn2 : ¬ (((K + 3 + 2 * sn : Nat) : Int) < 0) := by omega
        clear hb4 HE x2 x3
        go_wp2_with fail
        go_roundw
        case rel => exact ⟨j + 1, by omega, by go_num, by rw [unhide KS]; congr 2; omega, bE⟩
        case measure => simp [intOf]; omega
    · obtain rfl : j = n := by omega
      have hE : hs.take j = hs := List.take_of_length_le (by rw [unhide L]; exact Nat.le_refl _)
      rw [hE]
      clear hE
      go_wp2_with fail
      go_ret
      exact ⟨rfl, hb⟩
end Go.Proofs.YtdnjgbckkmbmfaaGreat

namespace Go.Proofs.YtdnjgbckkmbmfaaGreat
open Go.RowKit

structure TuRun (w : World) (B : Nat) (l f s : Sl) (hs : List SeH) (d : VsD) (v : Value) (n : Nat) (zs : List ZrH) : Prop where
  vz : VzOwn w B l f s hs d
  zr : NOwn w B 40 4 v n (zs.map zrEl)
def TuBl (l f s : Sl) (hs : List SeH) (v : Value) (zs : List ZrH) (i : Nat) : Prop := VzBl l f s hs i ∨ NBl v (zs.map zrEl) i
theorem TuRun.lt {w : World} {B n : Nat} {l f s : Sl} {hs : List SeH} {d : VsD} {v : Value} {zs : List ZrH} (h : TuRun w B l f s hs d v n zs) (i : Nat) (hi : TuBl l f s hs v zs i) : B ≤ i ∧ i < w.heap.size := by
  rcases hi with hi | hi
  · exact h.vz.lt i hi
  · exact h.zr.lt i hi
theorem TuRun.below {w w' : World} {B n : Nat} {l f s : Sl} {hs : List SeH} {d : VsD} {v : Value} {zs : List ZrH} (h : TuRun w B l f s hs d v n zs) (hb : Below w.heap.size w w') : TuRun w' B l f s hs d v n zs := ⟨h.vz.below hb, h.zr.below hb⟩
theorem TuRun.off {P : Nat → Prop} {w w' : World} {B n : Nat} {l f s : Sl} {hs : List SeH} {d : VsD} {v : Value} {zs : List ZrH} (h : TuRun w B l f s hs d v n zs) (hw : WrB P w w') (hp : ∀ i, TuBl l f s hs v zs i → ¬ P i) : TuRun w' B l f s hs d v n zs :=
  ⟨h.vz.off hw (fun i hi => hp i (.inl hi)), h.zr.keep hw (fun i hi => hp i (.inr hi))⟩
theorem vz_kind {w : World} {B i : Nat} {l f s : Sl} {hs : List SeH} {d : VsD} (h : VzOwn w B l f s hs d) (hi : VzBl l f s hs i) : ∃ cur T, w.heap[i]? = some (.cells cur T (0, 0)) ∧ (T = 43 ∨ T = 85 ∨ T = 55) := by
  rcases hi with hi | hi | hi
  · obtain ⟨cur, hc⟩ := own_kind h.vo hi
    exact ⟨cur, _, hc, .inl rfl⟩
  · obtain ⟨cur, hc⟩ := own_kind h.fo hi
    exact ⟨cur, _, hc, .inr (.inl rfl)⟩
  · obtain ⟨cur, T, hc, hT⟩ := nbl_se h.so hi
    exact ⟨cur, T, hc, hT.elim (fun e => .inr (.inr e)) .inl⟩
theorem vz_zr {w : World} {B C n i : Nat} {l f s : Sl} {hs : List SeH} {d : VsD} {v : Value} {zs : List ZrH} (h : VzOwn w B l f s hs d) (k : NOwn w C 40 4 v n (zs.map zrEl)) (hi : VzBl l f s hs i) (hj : NBl v (zs.map zrEl) i) : False := by
  obtain ⟨c1, T1, e1, h1⟩ := vz_kind h hi
  obtain ⟨c2, T2, e2, h2⟩ := nbl_zr k hj
  rw [e1] at e2
  injection e2 with e2
  injection e2 with _ e2 _
  subst e2
  rcases h1 with rfl | rfl | rfl <;> rcases h2 with h2 | h2 <;> exact absurd h2 (by decide)
theorem TuRun.mark1 {w w' : World} {B n : Nat} {l f s : Sl} {hs hs' : List SeH} {d d' : VsD} {v : Value} {zs : List ZrH} (h : TuRun w B l f s hs d v n zs) (ho : VzOwn w' B l f s hs' d') (hw : WrB (VzBl l f s hs) w w') : TuRun w' B l f s hs' d' v n zs :=
  ⟨ho, h.zr.keep hw (fun _ hi hp => vz_zr h.vz h.zr hp hi)⟩
theorem TuRun.mark2 {w w' : World} {B n : Nat} {l f s : Sl} {hs : List SeH} {d : VsD} {v : Value} {zs zs' : List ZrH} (h : TuRun w B l f s hs d v n zs) (ho : NOwn w' B 40 4 v n (zs'.map zrEl)) (hw : WrB (NBl v (zs.map zrEl)) w w') : TuRun w' B l f s hs d v n zs' :=
  ⟨h.vz.off hw (fun _ hi hp => vz_zr h.vz h.zr hi hp), ho⟩
theorem step_few {d : VsD} {k : Nat} (h : RunV d k) (hk : k ≤ 150) (a : TxD) : (stepV d a).2.list.length ≤ 200 := by
  have h0 : ∀ c t, (repV c t).list.length ≤ 200 := fun c t => Nat.zero_le _
  have hg : ∀ es x t, (getR es x t).list.length ≤ 200 := fun es x t => by
    unfold getR
    have : ∀ (es : List EntD) (r : RepD), r.list = [] → (es.foldl (fun r e => if e.k = x then ⟨0, t, e.v, []⟩ else r) r).list = [] := fun es => by
      induction es with
      | nil => intro r hr; exact hr
      | cons e es ih =>
        intro r hr
        rw [List.foldl_cons]
        apply ih
        split
        · rfl
        · exact hr
    rw [this es _ rfl]
    exact Nat.zero_le _
  unfold stepV
  split
  · exact h0 _ _
  split
  · exact h0 _ _
  unfold sesV
  split
  · split
    · exact h0 _ _
    split
    · exact h0 _ _
    · exact h0 _ _
  split
  · exact h0 _ _
  split
  · exact h0 _ _
  unfold inV fenV
  split
  · split
    · exact h0 _ _
    · exact hg _ _ _
  split
  · split
    · exact h0 _ _
    · rename_i hs _ _ _ _ _
      show (List.filter _ _).length ≤ 200
      refine Nat.le_trans (List.length_filter_le _ _) ?_
      rename_i hsz _ _ _ _ _ _
      have hi : a.ses.toNat < d.ses.length := by rw [h.ses]; omega
      have hm : d.ses.getD a.ses.toNat clS ∈ d.ses := by
        rw [List.getD_eq_getElem?_getD, List.getElem?_eq_getElem hi]
        exact List.getElem_mem hi
      have hw := sesK_ws (h.sk _ hm)
      have := seenTo_len d (d.ses.getD a.ses.toNat clS) _ (Nat.le_refl _)
      rw [seenTo_all] at this
      have := h.cnt
      omega
  split
  · split
    · exact h0 _ _
    · exact h0 _ _
  split
  · split
    · exact h0 _ _
    · exact h0 _ _
  · exact h0 _ _
theorem run_few (acts : List TxD) (hn : acts.length ≤ 150) : ∀ k, k ≤ acts.length → ∀ r ∈ (runV (acts.take k)).2, r.list.length ≤ 200
  | 0, _, r, hr => by cases hr
  | k + 1, h, r, hr => by
    rw [runV_take (by omega)] at hr
    rcases List.mem_append.1 hr with hr | hr
    · exact run_few acts hn k (by omega) r hr
    · rw [List.mem_singleton.1 hr]
      exact step_few (runV_ok acts k (by omega)) (by omega) _
theorem tx_few (acts : List TxD) : vsN (txV acts) ≤ 1000 ∧ (txR acts).length ≤ 150 ∧ ∀ r ∈ txR acts, r.list.length ≤ 200 := by
  unfold txV txR
  split
  · exact ⟨by decide, Nat.zero_le _, fun r hr => by cases hr⟩
  · rename_i hl
    have hR := runV_ok acts acts.length (Nat.le_refl _)
    have hf := run_few acts (by omega) acts.length (Nat.le_refl _)
    rw [List.take_length] at hR hf
    refine ⟨?_, by rw [runV_len]; omega, hf⟩
    have h1 := hR.cnt
    have h2 := hR.fen
    have h3 := hR.ses
    unfold vsN
    omega
theorem tx_con {acts : List TxD} {W W' : World} {e : Ending} (h : TxRes acts W e W') : ∃ (l f s : Sl) (hs : List SeH) (qa : Option Addr) (qc : Nat) (zs : List ZrH), e = .returned (.tuple #[.agg (vzC (txV acts).next l f s), .slice qa (txR acts).length qc, .int .i64 (txC acts)]) ∧ TuRun W' W.heap.size l f s hs (txV acts) (.slice qa (txR acts).length qc) (txR acts).length zs ∧ zs.map (·.X) = txR acts ∧ Below W.heap.size W W' := by
  obtain ⟨l, f, s, hs, ⟨qa, qn, qc⟩, zs, rfl, ho, hz, hx, hb⟩ := h
  have e1 : qn = zs.length := owns_n hz.row
  have e2 : zs.length = (txR acts).length := by rw [← hx, List.length_map]
  subst e1
  simp only at hz ⊢
  unfold ZrOwn at hz
  rw [e2] at hz ⊢
  exact ⟨l, f, s, hs, qa, qc, zs, rfl, ⟨ho, hz⟩, hx, hb⟩
theorem zr_cnt {zs : List ZrH} {rs : List RepD} (hX : zs.map (·.X) = rs) (hl : rs.length ≤ 150) (hp : ∀ r ∈ rs, r.list.length ≤ 200) (k : Nat) : kG zrCnt k zs ≤ k + 150 * 403 := by
  rw [kG_sum]
  have hc : ∀ h ∈ zs, zrCnt h ≤ 403 := fun h hh => by
    have hm : h.X ∈ rs := by rw [← hX]; exact List.mem_map_of_mem hh
    have := hp _ hm
    unfold zrCnt
    omega
  have : ∀ l : List ZrH, (∀ h ∈ l, zrCnt h ≤ 403) → (l.map zrCnt).sum ≤ l.length * 403 := fun l => by
    induction l with
    | nil => intro _; simp
    | cons x r ih =>
      intro h
      simp only [List.map_cons, List.sum_cons, List.length_cons, Nat.succ_mul]
      have h1 := h x (List.mem_cons_self ..)
      have h2 := ih (fun y hy => h y (List.mem_cons_of_mem _ hy))
      omega
  have h1 := this zs hc
  have h2 : zs.length ≤ 150 := by rw [← hX, List.length_map] at hl; exact hl
  omega
theorem zr_few {w : World} {B n : Nat} {v : Value} {zs : List ZrH} {rs : List RepD} (h : NOwn w B 40 4 v n (zs.map zrEl)) (hX : zs.map (·.X) = rs) (hp : ∀ r ∈ rs, r.list.length ≤ 200) : ∀ x ∈ zs, x.s0.n ≤ 1048576 := fun x hx => by
  obtain ⟨k, hk, rfl⟩ := List.getElem_of_mem hx
  have hm : zs[k].X ∈ rs := by rw [← hX]; exact List.mem_map_of_mem (List.getElem_mem hk)
  have := hp _ hm
  have e1 := rowC_len (ZrIn.sub h.reads hk)
  omega
theorem vzK_le5 {w : World} {l f s : Sl} {hs : List SeH} {d : VsD} (h : VzIn w l f s hs d) (hd : vsN d ≤ 1000) : vzK 1 l.n f.n hs ≤ 5000000 := by
  unfold vzK
  rw [kG_sum, sum_cnt, h.ss]
  have e1 := h.vr.1
  have e2 := h.fr.1
  have e3 := h.len
  unfold vsN at hd
  omega
end Go.Proofs.YtdnjgbckkmbmfaaGreat

namespace Go.Proofs.YtdnjgbckkmbmfaaGreat
open Go.RowKit

theorem szTxAct_any (d : TxD) (left : Int) (w : World) (h0 : 0 ≤ left) (h1 : left ≤ 1048576) (hkey : d.key.size ≤ maxLen) (hto : d.to.size ≤ maxLen) (hval : d.val.size ≤ maxLen) :
    Calls Tryz.prog 48 #[xv d, .int .i64 left] w fun e w' => ∃ r : Int, e = .returned (.int .i64 r) ∧ (r = -1 ∨ (0 ≤ r ∧ r ≤ left)) ∧ Below w.heap.size w w' := by
  unfold xv
  unfold maxLen at hkey hto hval
  have b0 : Below w.heap.size w (w.alloc (.cells #[.int .i64 d.kind, .int .i64 d.ses, .string d.key, .string d.to, .string d.val] 98)) := (Below.refl _ _).alloc (Nat.le_refl _) _
  by_cases ckey : left - d.key.size < 0
  · go_enter Tryz.func48, Tryz.ntmps48
    go_wp2_with fail
    go_ret
    exact ⟨_, rfl, .inl rfl, b0⟩
  · have gkey : 0 ≤ left - d.key.size := by omega
    by_cases cto : left - d.key.size - d.to.size < 0
    · go_enter Tryz.func48, Tryz.ntmps48
      go_wp2_with fail
      go_ret
      exact ⟨_, rfl, .inl rfl, b0⟩
    · have gto : 0 ≤ left - d.key.size - d.to.size := by omega
      by_cases cval : left - d.key.size - d.to.size - d.val.size < 0
      · go_enter Tryz.func48, Tryz.ntmps48
        go_wp2_with fail
        go_ret
        exact ⟨_, rfl, .inl rfl, b0⟩
      · have gval : 0 ≤ left - d.key.size - d.to.size - d.val.size := by omega
        go_enter Tryz.func48, Tryz.ntmps48
        go_wp2_with fail
        go_ret
        exact ⟨_, rfl, .inr ⟨gval, by omega⟩, b0⟩
set_option maxHeartbeats 1000000 in
theorem szTxActS_any (a : Option Addr) (n c : Nat) (ds : List TxD) (left : Int) (w : World) (h0 : 0 ≤ left) (h1 : left ≤ 1048576) (hr : XRow w a n ds) (hn : n ≤ maxLen) (ht : ∀ i (hi : i < ds.length), ds[i].key.size ≤ maxLen ∧ ds[i].to.size ≤ maxLen ∧ ds[i].val.size ≤ maxLen) :
    Calls Tryz.prog 19 #[.slice a n c, .int .i64 left] w fun e w' => ∃ r : Int, e = .returned (.int .i64 r) ∧ (r = -1 ∨ (0 ≤ r ∧ r ≤ left ∧ (n : Int) ≤ left)) ∧ Below w.heap.size w w' := by
  unfold maxLen at hn
  have L := hide hr.1
  have R := hide hr
  have T := hide ht
  clear hr ht
  by_cases hb : left - n < 0
  · go_enter Tryz.func19, Tryz.ntmps19
    go_wp2_with fail
    go_ret
    exact ⟨-1, rfl, .inl rfl, Below.refl _ _⟩
  have hb' : 0 ≤ left - n := by omega
  go_enter Tryz.func19, Tryz.ntmps19
  go_wp2_with fail
  go_loopw [1, 5] (fun l i wr => ∃ k : Nat, k ≤ n ∧ i = .int .i64 k ∧ ∃ q : Int, l = .int .i64 q ∧ 0 ≤ q ∧ q ≤ left - n ∧ Below w.heap.size w wr) (fun _ i _ => n - (intOf i).toNat)
  case atStart => exact ⟨0, by omega, rfl, _, rfl, by omega, by omega, Below.refl _ _⟩
  case round =>
    obtain ⟨k, hk, rfl, q, rfl, hq0, hq1, hbel⟩ := hrel
    by_cases hlt : k < n
    · have hk2 : k < ds.length := by rw [unhide L]; exact hlt
      obtain ⟨b, off, rfl, d0, d1, d2, d3, d4⟩ := ((unhide R).below hbel).2 k hk2
      have hsz := hbel.size
      have hT := unhide T k hk2
      generalize ds[k] = pd at *
      go_wp2_with fail
      refine (szTxAct_any pd q wr hq0 (by omega) hT.1 hT.2.1 hT.2.2).mono ?_
      rintro e w1 ⟨r, rfl, hr, hb1⟩
      have bA := hbel.trans (hb1.mono hsz)
      clear hbel hb1 d0 d1 d2 d3 d4
      rcases hr with rfl | ⟨r0, r1⟩
      · go_wp2_with fail
        go_ret
        exact ⟨-1, rfl, .inl rfl, bA⟩
      · go_wp2_with fail
        go_roundw
        case rel => exact ⟨k + 1, by omega, by go_num, r, rfl, r0, by omega, bA⟩
        case measure => simp [intOf]; omega
    · obtain rfl : k = n := by omega
      go_wp2_with fail
      go_ret
      exact ⟨q, rfl, .inr ⟨hq0, by omega, by omega⟩, hbel⟩
set_option maxHeartbeats 1000000 in
theorem toTxAct_any (d : TxD) (w : World) :
    Calls Tryz.prog 49 #[xv d] w fun e w' => e = .returned (xv d) ∧ Below w.heap.size w w' := by
  obtain ⟨kind, ses, key, tq, val⟩ := d
  unfold xv
  go_enter Tryz.func49, Tryz.ntmps49
  go_wp2_with fail
  exact bodyPost_ret (v := .agg #[.int .i64 kind, .int .i64 ses, .string key, .string tq, .string val]) (by simp [results, Tryz.results49, go_sem]) rfl ⟨rfl, (((Below.refl _ _).alloc (Nat.le_refl _) _).alloc (by simp) _).alloc (by simp; omega) _⟩
theorem Tryz.infoTxAct : (Tryz.prog.info? 37).map (fun i => (i.zero, i.size, i.bytes)) = some (some (.agg #[.int .i64 0, .int .i64 0, .string ByteArray.empty, .string ByteArray.empty, .string ByteArray.empty]), 5, 64) := by kernel_rfl
set_option maxHeartbeats 2000000 in
theorem toTxActS_any (a : Option Addr) (n c : Nat) (ds : List TxD) (w : World) (hn : n ≤ 1048576) (hr : XRow w a n ds) :
    Calls Tryz.prog 20 #[.slice a n c] w fun e w' => ∃ g, e = .returned (.slice (some ⟨g, 0, none⟩) n n) ∧ XOwns w' w.heap.size (.slice (some ⟨g, 0, none⟩) n n) ds ∧ Below w.heap.size w w' := by
  obtain ⟨i0, hi, hz0, hz1, hz2⟩ := info_parts Tryz.infoTxAct
  have L := hide hr.1
  have R := hide hr
  clear hr
  go_enter Tryz.func20, Tryz.ntmps20
  go_wp2_with (at_make; refine wpList_make_full _ rfl _ _ 23 rfl w.heap.size 37 i0 _ 5 Tryz.underlying23 hi hz0 hz1 _ _ _ _ n rfl rfl rfl rfl (by rw [hz2]; omega) (by unfold maxLen; omega) (Nat.le_refl _) ?_)
  intro w1 hown hgrow
  have hl0 := hide (xowns_made (ds := ds) (unhide L) hown)
  have hbel : Below w.heap.size w w1 := (Below.refl _ _).grown hgrow (Nat.le_refl _) (fun k hk => by cases hk)
  clear hown hgrow
  go_wp2_with fail
  go_loopw [4] (fun i wr => ∃ k : Nat, k ≤ n ∧ i = .int .i64 k ∧ Hid (XOwns wr w.heap.size (.slice (some ⟨w.heap.size, 0, none⟩) n n) (filX ds k)) ∧ Below w.heap.size w wr) (fun i _ => n - (intOf i).toNat)
  case atStart => exact ⟨0, by omega, rfl, hl0, hbel⟩
  case round =>
    clear hl0 hbel
    obtain ⟨k, hk, rfl, hla, hb⟩ := hrel
    by_cases hlt : k < n
    · have hk2 : k < ds.length := by rw [unhide L]; exact hlt
      obtain ⟨b, off, rfl, d0, d1, d2, d3, d4⟩ := ((unhide R).below hb).2 k hk2
      have FS := hide (filX_set ds k hk2)
      have FL := hide (filX_len ds (Nat.le_of_lt hk2))
      generalize ds[k] = pd at *
      go_wp2_with fail
      refine (toTxAct_any pd wr).mono ?_
      rintro e w2 ⟨rfl, hb2⟩
      have hl2 := xowns_below (unhide hla) hb2
      have hlx : k < (filX ds k).length := by rw [unhide FL]; exact hk2
      obtain ⟨e0, e1, e2, e3, e4⟩ := xowns_at hl2 k hlx
      have f0 := xowns_fz hl2 (k * 5)
      have f1 := xowns_fz hl2 (k * 5 + 1)
      have f2 := xowns_fz hl2 (k * 5 + 2)
      have f3 := xowns_fz hl2 (k * 5 + 3)
      have f4 := xowns_fz hl2 (k * 5 + 4)
      have S := hide (show XOwns _ _ _ (filX ds (k + 1)) from unhide FS ▸ xowns_store hl2 k pd)
      have B2 := hide ((((((hb.trans (hb2.mono hb.size)).setCell (p := ⟨w.heap.size, k * 5, none⟩) (Nat.le_refl _) (.int .i64 pd.kind)).setCell (p := ⟨w.heap.size, k * 5 + 1, none⟩) (Nat.le_refl _) (.int .i64 pd.ses)).setCell (p := ⟨w.heap.size, k * 5 + 2, none⟩) (Nat.le_refl _) (.string pd.key)).setCell (p := ⟨w.heap.size, k * 5 + 3, none⟩) (Nat.le_refl _) (.string pd.to)).setCell (p := ⟨w.heap.size, k * 5 + 4, none⟩) (Nat.le_refl _) (.string pd.val))
      clear hl2 hb hb2 d0 d1 d2 d3 d4 hla FS FL
      generalize (filX ds k)[k].kind = u0 at *
      generalize (filX ds k)[k].ses = u1 at *
      generalize (filX ds k)[k].key = u2 at *
      generalize (filX ds k)[k].to = u3 at *
      generalize (filX ds k)[k].val = u4 at *
      unfold xv
      go_wp2_with fail
      go_roundw
      case rel => exact ⟨k + 1, by omega, by go_num, unhide S, unhide B2⟩
      case measure => simp [intOf]; omega
    · obtain rfl : k = n := by omega
      have F := hide (show filX ds k = ds by rw [← unhide L]; exact filX_all ds)
      go_wp2_with fail
      go_ret
      exact ⟨_, rfl, by have := unhide hla; rwa [unhide F] at this, hb⟩
end Go.Proofs.YtdnjgbckkmbmfaaGreat

namespace Go.Proofs.YtdnjgbckkmbmfaaGreat
open Go.RowKit

set_option maxHeartbeats 1000000 in
theorem eqTxAct_any (d : TxD) (w : World) :
    Calls Tryz.prog 54 #[xv d, xv d] w fun e w' => e = .returned (.bool true) ∧ Below w.heap.size w w' := by
  obtain ⟨kind, ses, key, tq, val⟩ := d
  unfold xv
  go_enter Tryz.func54, Tryz.ntmps54
  go_wp2_with fail
  all_goals
    go_ret
    exact ⟨rfl, ((Below.refl _ _).alloc (Nat.le_refl _) _).alloc (by simp) _⟩
set_option maxHeartbeats 1000000 in
theorem eqTxActS_any (a1 a2 : Option Addr) (n c1 c2 : Nat) (ds : List TxD) (w : World) (hn : n ≤ 1048576) (h1 : XRow w a1 n ds) (h2 : XRow w a2 n ds) :
    Calls Tryz.prog 23 #[.slice a1 n c1, .slice a2 n c2] w fun e w' => e = .returned (.bool true) ∧ Below w.heap.size w w' := by
  have L := hide h1.1
  have R1 := hide h1
  have R2 := hide h2
  clear h1 h2
  go_enter Tryz.func23, Tryz.ntmps23
  go_wp2_with fail
  go_loopw [5] (fun i wr => ∃ k : Nat, k ≤ n ∧ i = .int .i64 k ∧ Below w.heap.size w wr) (fun i _ => n - (intOf i).toNat)
  case atStart => exact ⟨0, by omega, rfl, Below.refl _ _⟩
  case round =>
    obtain ⟨k, hk, rfl, hb⟩ := hrel
    by_cases hlt : k < n
    · have hk2 : k < ds.length := by rw [unhide L]; exact hlt
      obtain ⟨b, off, rfl, d0, d1, d2, d3, d4⟩ := ((unhide R1).below hb).2 k hk2
      obtain ⟨b', off', rfl, y0, y1, y2, y3, y4⟩ := ((unhide R2).below hb).2 k hk2
      generalize ds[k] = pd at *
      have hsz := hb.size
      go_wp2_with fail
      go_region_with (go_at_call 54; refine (eqTxAct_any pd _).mono ?_; rintro e w2 ⟨rfl, hb2⟩)
      all_goals
        have bA : Below w.heap.size w w2 := by first | exact hb.drew.trans (hb2.mono hsz) | exact (bel_drewN hb _).trans (hb2.mono hsz) | exact hb.trans (hb2.mono hsz)
        clear hb hb2 d0 d1 d2 d3 d4 y0 y1 y2 y3 y4
        go_wp2_with fail
        go_roundw
        case rel => exact ⟨k + 1, by omega, by go_num, bA⟩
        case measure => simp [intOf]; omega
    · obtain rfl : k = n := by omega
      go_wp2_with fail
      go_ret
      exact ⟨rfl, hb⟩
end Go.Proofs.YtdnjgbckkmbmfaaGreat

namespace Go.Proofs.YtdnjgbckkmbmfaaGreat
open Go.RowKit

def markX (k0 i : Nat) : TxD := ⟨((k0 + 5 * i : Nat) : Int), ((k0 + 5 * i + 1 : Nat) : Int), mt (k0 + 5 * i + 2) ByteArray.empty, mt (k0 + 5 * i + 3) ByteArray.empty, mt (k0 + 5 * i + 4) ByteArray.empty⟩
def markXs (k0 n : Nat) : List TxD := (List.range n).map (markX k0)
theorem markXs_len (k0 n : Nat) : (markXs k0 n).length = n := by simp [markXs]
set_option maxRecDepth 100000 in
set_option maxHeartbeats 4000000 in
theorem markTxActS_some (B g n c k0 : Nat) (ds : List TxD) (w : World) (hp : 0 < k0) (hn : 5 * n + k0 ≤ 9999990) (h1 : XOwns w B (.slice (some ⟨g, 0, none⟩) n c) ds) :
    Calls Tryz.prog 24 #[.slice (some ⟨g, 0, none⟩) n c, .int .i64 k0] w fun e w' => e = .returned (.int .i64 (k0 + 5 * n)) ∧ XOwns w' B (.slice (some ⟨g, 0, none⟩) n c) (markXs k0 n) ∧ w.grownBy w' (some g) := by
  have L := hide (xrow_of_owns h1).1
  have H := hide h1
  clear h1
  go_enter Tryz.func24, Tryz.ntmps24
  go_wp2_with fail
  go_loopw [1, 5] (fun q i wr => ∃ k : Nat, k ≤ n ∧ i = .int .i64 k ∧ q = .int .i64 (k0 + 5 * k) ∧ Hid (XOwns wr B (.slice (some ⟨g, 0, none⟩) n c) (markXs k0 k ++ ds.drop k)) ∧ Hid (w.grownBy wr (some g))) (fun _ i _ => n - (intOf i).toNat)
  case atStart => exact ⟨0, Nat.zero_le _, rfl, by simp, unhide H, rb_grownBy_below (Below.refl _ _)⟩
  case round =>
    clear H
    obtain ⟨k, hk, rfl, rfl, hB, hw⟩ := hrel
    by_cases hlt : k < n
    · have hke : k < ds.length := by have := unhide L; omega
      have hlx : k < (markXs k0 k ++ ds.drop k).length := by rw [List.length_append, markXs_len, List.length_drop]; omega
      have SM := hide (show (markXs k0 k ++ ds.drop k).set k (markX k0 k) = markXs k0 (k + 1) ++ ds.drop (k + 1) from rb_set_mark (markX k0) ds k hke)
      have HXN := hide (xrow_of_owns (unhide hB)).1
      have O0 := hide (show wr.ownsRow B 37 5 (.slice (some ⟨g, 0, none⟩) n c) n (xcs (markXs k0 k ++ ds.drop k)) by have := unhide hB; unfold XOwns at this; rwa [unhide HXN] at this)
      generalize markXs k0 k ++ ds.drop k = xs at *
      have G0 := hw
      clear hB hw
      obtain ⟨u0, e0⟩ := rb_ownsRow_some (unhide O0) (j := k * 5) (by omega)
      have f0 := (unhide O0).frozenAt (k * 5)
      obtain ⟨o0, g0⟩ := World.ownsRow.stored (unhide O0) (k * 5) (.int .i64 (k0 + 5 * k))
      have O1 := hide o0
      have G1 := hide (rb_grown_trans (unhide G0) g0)
      clear o0 g0 O0 G0
      obtain ⟨u1, e1⟩ := rb_ownsRow_some (unhide O1) (j := k * 5 + 1) (by omega)
      have f1 := (unhide O1).frozenAt (k * 5 + 1)
      obtain ⟨o1, g1⟩ := World.ownsRow.stored (unhide O1) (k * 5 + 1) (.int .i64 (k0 + 5 * k + 1))
      have O2 := hide o1
      have G2 := hide (rb_grown_trans (unhide G1) g1)
      clear o1 g1 O1 G1
      go_wp2_with fail
      generalize wr.setCell ⟨g, k * 5, none⟩ (.int .i64 (k0 + 5 * k)) = w100 at *
      generalize w100.setCell ⟨g, k * 5 + 1, none⟩ (.int .i64 (k0 + 5 * k + 1)) = w101 at *
      clear e0 f0
      clear e1 f1
      refine (markText_at (k0 + 5 * k + 2) _ w101 (by omega) (by omega) (by omega)).mono ?_
      rintro e w12 ⟨rfl, hb2⟩
      replace O2 := hide (rb_ownsRow_below (unhide O2) hb2)
      replace G2 := hide (rb_grown_trans (unhide G2) (rb_grownBy_below hb2))
      clear hb2
      generalize hm2 : mt (k0 + 5 * k + 2) ByteArray.empty = t2 at *
      obtain ⟨u2, e2⟩ := rb_ownsRow_some (unhide O2) (j := k * 5 + 2) (by omega)
      have f2 := (unhide O2).frozenAt (k * 5 + 2)
      obtain ⟨o2, g2⟩ := World.ownsRow.stored (unhide O2) (k * 5 + 2) (.string t2)
      have O3 := hide o2
      have G3 := hide (rb_grown_trans (unhide G2) g2)
      clear o2 g2 O2 G2
      go_wp2_with fail
      generalize w12.setCell ⟨g, k * 5 + 2, none⟩ (.string t2) = w102 at *
      clear e2 f2
      refine (markText_at (k0 + 5 * k + 3) _ w102 (by omega) (by omega) (by omega)).mono ?_
      rintro e w13 ⟨rfl, hb3⟩
      replace O3 := hide (rb_ownsRow_below (unhide O3) hb3)
      replace G3 := hide (rb_grown_trans (unhide G3) (rb_grownBy_below hb3))
      clear hb3
      generalize hm3 : mt (k0 + 5 * k + 3) ByteArray.empty = t3 at *
      obtain ⟨u3, e3⟩ := rb_ownsRow_some (unhide O3) (j := k * 5 + 3) (by omega)
      have f3 := (unhide O3).frozenAt (k * 5 + 3)
      obtain ⟨o3, g3⟩ := World.ownsRow.stored (unhide O3) (k * 5 + 3) (.string t3)
      have O4 := hide o3
      have G4 := hide (rb_grown_trans (unhide G3) g3)
      clear o3 g3 O3 G3
      go_wp2_with fail
      generalize w13.setCell ⟨g, k * 5 + 3, none⟩ (.string t3) = w103 at *
      clear e3 f3
      refine (markText_at (k0 + 5 * k + 4) _ w103 (by omega) (by omega) (by omega)).mono ?_
      rintro e w14 ⟨rfl, hb4⟩
      replace O4 := hide (rb_ownsRow_below (unhide O4) hb4)
      replace G4 := hide (rb_grown_trans (unhide G4) (rb_grownBy_below hb4))
      clear hb4
      generalize hm4 : mt (k0 + 5 * k + 4) ByteArray.empty = t4 at *
      obtain ⟨u4, e4⟩ := rb_ownsRow_some (unhide O4) (j := k * 5 + 4) (by omega)
      have f4 := (unhide O4).frozenAt (k * 5 + 4)
      obtain ⟨o4, g4⟩ := World.ownsRow.stored (unhide O4) (k * 5 + 4) (.string t4)
      have O5 := hide o4
      have G5 := hide (rb_grown_trans (unhide G4) g4)
      clear o4 g4 O4 G4
      have O9 := hide (show XOwns (w14.setCell ⟨g, k * 5 + 4, none⟩ (.string t4)) B (.slice (some ⟨g, 0, none⟩) n c) (markXs k0 (k + 1) ++ ds.drop (k + 1)) by
        rw [← unhide SM]
        unfold XOwns
        rw [xcs_set, List.length_set, unhide HXN]
        have := unhide O5
        have he0 : ((k0 + 5 * k : Nat) : Int) = (k0 : Int) + 5 * k := by omega
        have he1 : ((k0 + 5 * k + 1 : Nat) : Int) = (k0 : Int) + 5 * k + 1 := by omega
        unfold markX
        simp only [he0, he1, hm2, hm3, hm4]
        exact this)
      clear O5
      go_wp2_with fail
      all_goals
        go_roundw
        case rel => exact ⟨k + 1, by omega, by go_num, by go_num, unhide O9, unhide G5⟩
        case measure => simp [intOf]; omega
    · obtain rfl : k = n := by omega
      have P := hide (show XOwns wr B (.slice (some ⟨g, 0, none⟩) k c) (markXs k0 k) by
        have := unhide hB
        rw [List.drop_of_length_le (by rw [unhide L]; exact Nat.le_refl _), List.append_nil] at this
        exact this)
      go_wp2_with fail
      go_ret
      exact ⟨rfl, unhide P, unhide hw⟩
theorem markTxActS_none (a : Option Addr) (c : Nat) (k0 : Int) (w : World) :
    Calls Tryz.prog 24 #[.slice a 0 c, .int .i64 k0] w fun e w' => e = .returned (.int .i64 k0) ∧ w' = w := by
  go_enter Tryz.func24, Tryz.ntmps24
  go_wp2_with fail
  refine wp_loop_rounds 1 ?_
  rw [rounds_succ]
  go_wp2_with fail
  go_ret
  exact ⟨rfl, rfl⟩
theorem markTxActS_any (B : Nat) (a : Option Addr) (n c k0 : Nat) (ds : List TxD) (w : World) (hp : 0 < k0) (hn : 5 * n + k0 ≤ 9999990) (h1 : XOwns w B (.slice a n c) ds) :
    Calls Tryz.prog 24 #[.slice a n c, .int .i64 k0] w fun e w' => e = .returned (.int .i64 ((k0 + 5 * n : Nat) : Int)) ∧ XOwns w' B (.slice a n c) (markXs k0 n) ∧ w.grownBy w' (Value.slice a n c).ownBlock := by
  rcases h1.2 with ⟨e, hl⟩ | ⟨g, cap, cur, e, _⟩
  · injection e with e1 e2 e3
    subst e1 e2 e3
    refine (markTxActS_none none 0 k0 w).mono ?_
    rintro e w' ⟨rfl, rfl⟩
    exact ⟨by simp, World.ownsRow_nil _ _ _ _, rb_grownBy_below (Below.refl _ _)⟩
  · injection e with e1 e2 e3
    subst e1 e2 e3
    refine (markTxActS_some B g _ _ k0 ds w hp hn h1).mono ?_
    rintro e w' ⟨rfl, h2, h3⟩
    exact ⟨by simp, h2, h3⟩
end Go.Proofs.YtdnjgbckkmbmfaaGreat

namespace Go.Proofs.YtdnjgbckkmbmfaaGreat
open Go.RowKit

set_option maxRecDepth 100000 in
set_option maxHeartbeats 16000000 in
theorem lawTxRun_any (a : Option Addr) (n c : Nat) (acts : List TxD) (w : World) (hI : XRow w a n acts) (hn : n ≤ maxLen) (hl : ∀ i (hi : i < acts.length), acts[i].key.size ≤ maxLen ∧ acts[i].to.size ≤ maxLen ∧ acts[i].val.size ≤ maxLen) :
    Calls Tryz.prog 5 #[.slice a n c] w fun e w' => e = .returned (.bool true) ∧ Below w.heap.size w w' := by
  have P := hide hI
  have CON := hide (fun W e W' (h : TxRes acts W e W') => tx_con h)
  have hf := tx_few acts
  obtain ⟨R, hT⟩ : ∃ R, R = txV acts := ⟨_, rfl⟩
  obtain ⟨RS, hRS⟩ : ∃ x, x = txR acts := ⟨_, rfl⟩
  obtain ⟨C, hC⟩ : ∃ x, x = txC acts := ⟨_, rfl⟩
  rw [← hT, ← hRS, ← hC] at CON
  rw [← hT, ← hRS] at hf
  obtain ⟨RN, hRN⟩ : ∃ x, x = R.next := ⟨_, rfl⟩
  obtain ⟨nR, hnR⟩ : ∃ x, x = RS.length := ⟨_, rfl⟩
  rw [← hRN, ← hnR] at CON
  rw [← hnR] at hf
  have LR := hide hnR.symm
  have b5 : vsN R ≤ 1000 := hf.1
  have HR : vsN R ≤ 1048576 := by omega
  have b1 : nR ≤ 150 := hf.2.1
  have FEW := hide hf.2.2
  clear hT hC hRS hRN hnR hf
  have hCC : (C != C) = false := by simp
  have B := Below.refl w.heap.size w
  have HS := hide (szTxActS_any a n c acts 1048576 w (by omega) (by omega) hI hn hl)
  clear hl hI
  go_enter Tryz.func5, Tryz.ntmps5
  go_wp2_with fail
  refine (unhide HS).mono ?_
  rintro e w_z ⟨q0, rfl, hq, hb⟩
  replace B := B.trans (hb.mono B.size)
  have zz_w_z := hb.size
  clear hb HS
  rcases hq with rfl | ⟨q1, q2, q3⟩
  · go_wp2_with fail
    go_ret
    exact ⟨rfl, B⟩
  have hn2 : n ≤ 1048576 := by omega
  clear hn
  go_wp2_with fail
  refine (toTxActS_any a n c acts w_z hn2 ((unhide P).below B)).mono ?_
  rintro e w_t ⟨g_t, rfl, oo, hb⟩
  obtain ⟨a_t, ha_t⟩ : ∃ x, x = some (⟨g_t, 0, none⟩ : Addr) := ⟨_, rfl⟩
  rw [← ha_t] at oo ⊢
  replace B := B.trans (hb.mono B.size)
  have zz_w_t := hb.size
  clear hb
  have O_t := hide oo
  have M_t := fun i h => World.ownsRow.lt (unhide O_t) i h
  clear oo ha_t
  go_wp2_with fail
  refine (specTxRun_any a_t n n acts w_t (xrow_of_owns (unhide O_t)) hn2).mono ?_
  intro e w_w hcon
  obtain ⟨l_w, f_w, s_w, hs_w, qa_w, qc_w, zs_w, rfl, oo, mm, hb⟩ := unhide CON _ _ _ hcon
  clear hcon
  obtain ⟨la_w, ln_w, lc_w⟩ := l_w
  obtain ⟨fa_w, fn_w, fc_w⟩ := f_w
  obtain ⟨sa_w, sn_w, sc_w⟩ := s_w
  simp only [vzC]
  replace O_t := hide (rb_ownsRow_below (unhide O_t) hb)
  replace B := B.trans (hb.mono B.size)
  have zz_w_w := hb.size
  clear hb
  have MM_w := hide mm
  have O_w := hide oo
  have M_w := fun i h => (unhide O_w).lt i h
  clear oo mm
  have hb : Below w_w.heap.size w_w (w_w.alloc (.cells #[.int .i64 RN, .slice la_w ln_w lc_w, .slice fa_w fn_w fc_w, .slice sa_w sn_w sc_w] 29)) := (Below.refl _ _).alloc (Nat.le_refl _) _
  have K_w := hide (heap_alloc_new w_w (.cells #[.int .i64 RN, .slice la_w ln_w lc_w, .slice fa_w fn_w fc_w, .slice sa_w sn_w sc_w] 29))
  have sz_w : (w_w.alloc (.cells #[.int .i64 RN, .slice la_w ln_w lc_w, .slice fa_w fn_w fc_w, .slice sa_w sn_w sc_w] 29)).heap.size = w_w.heap.size + 1 := by simp
  replace O_t := hide (rb_ownsRow_below (unhide O_t) hb)
  replace O_w := hide ((unhide O_w).below hb)
  replace B := B.trans (hb.mono B.size)
  have zz_b_w := hb.size
  clear hb
  go_upto_region 6 with fail
  generalize w_w.alloc (.cells #[.int .i64 RN, .slice la_w ln_w lc_w, .slice fa_w fn_w fc_w, .slice sa_w sn_w sc_w] 29) = b_w at *
  clear O_t M_t
  go_wp2_with fail
  refine (toTxActS_any a n c acts b_w hn2 ((unhide P).below B)).mono ?_
  rintro e w_x ⟨g_x, rfl, oo, hb⟩
  obtain ⟨a_x, ha_x⟩ : ∃ x, x = some (⟨g_x, 0, none⟩ : Addr) := ⟨_, rfl⟩
  rw [← ha_x] at oo ⊢
  replace O_w := hide ((unhide O_w).below hb)
  replace K_w := hide ((hb.block _ (by omega)).trans (unhide K_w))
  replace B := B.trans (hb.mono B.size)
  have zz_w_x := hb.size
  clear hb
  have O_x := hide oo
  have M_x := fun i h => World.ownsRow.lt (unhide O_x) i h
  clear oo ha_x
  go_wp2_with fail
  refine (implTxRun_any a_x n n acts w_x (xrow_of_owns (unhide O_x)) hn2).mono ?_
  intro e w_g hcon
  obtain ⟨l_g, f_g, s_g, hs_g, qa_g, qc_g, zs_g, rfl, oo, mm, hb⟩ := unhide CON _ _ _ hcon
  clear hcon
  obtain ⟨la_g, ln_g, lc_g⟩ := l_g
  obtain ⟨fa_g, fn_g, fc_g⟩ := f_g
  obtain ⟨sa_g, sn_g, sc_g⟩ := s_g
  simp only [vzC]
  replace O_w := hide ((unhide O_w).below hb)
  replace K_w := hide ((hb.block _ (by omega)).trans (unhide K_w))
  replace O_x := hide (rb_ownsRow_below (unhide O_x) hb)
  replace B := B.trans (hb.mono B.size)
  have zz_w_g := hb.size
  clear hb
  have MM_g := hide mm
  have O_g := hide oo
  have M_g := fun i h => (unhide O_g).lt i h
  clear oo mm
  have hb : Below w_g.heap.size w_g (w_g.alloc (.cells #[.int .i64 RN, .slice la_g ln_g lc_g, .slice fa_g fn_g fc_g, .slice sa_g sn_g sc_g] 29)) := (Below.refl _ _).alloc (Nat.le_refl _) _
  have K_g := hide (heap_alloc_new w_g (.cells #[.int .i64 RN, .slice la_g ln_g lc_g, .slice fa_g fn_g fc_g, .slice sa_g sn_g sc_g] 29))
  have sz_g : (w_g.alloc (.cells #[.int .i64 RN, .slice la_g ln_g lc_g, .slice fa_g fn_g fc_g, .slice sa_g sn_g sc_g] 29)).heap.size = w_g.heap.size + 1 := by simp
  replace O_w := hide ((unhide O_w).below hb)
  replace K_w := hide ((hb.block _ (by omega)).trans (unhide K_w))
  replace O_x := hide (rb_ownsRow_below (unhide O_x) hb)
  replace O_g := hide ((unhide O_g).below hb)
  replace B := B.trans (hb.mono B.size)
  have zz_b_g := hb.size
  clear hb
  go_upto_region 8 with fail
  generalize w_g.alloc (.cells #[.int .i64 RN, .slice la_g ln_g lc_g, .slice fa_g fn_g fc_g, .slice sa_g sn_g sc_g] 29) = b_g at *
  have p0_g := (heap_at (unhide K_g) 0).1
  have p1_g := (heap_at (unhide K_g) 1).1
  have p2_g := (heap_at (unhide K_g) 2).1
  have p3_g := (heap_at (unhide K_g) 3).1
  have p0_w := (heap_at (unhide K_w) 0).1
  have p1_w := (heap_at (unhide K_w) 1).1
  have p2_w := (heap_at (unhide K_w) 2).1
  have p3_w := (heap_at (unhide K_w) 3).1
  go_wp2_with fail
  refine (eqVersZ RN ⟨la_g, ln_g, lc_g⟩ ⟨fa_g, fn_g, fc_g⟩ ⟨sa_g, sn_g, sc_g⟩ hs_g ⟨la_w, ln_w, lc_w⟩ ⟨fa_w, fn_w, fc_w⟩ ⟨sa_w, sn_w, sc_w⟩ hs_w R b_g (unhide O_g).vz.reads (unhide O_w).vz.reads HR).mono ?_
  rintro e e1 ⟨rfl, hb⟩
  clear p0_g p1_g p2_g p3_g
  clear p0_w p1_w p2_w p3_w
  replace O_w := hide ((unhide O_w).below hb)
  replace K_w := hide ((hb.block _ (by omega)).trans (unhide K_w))
  replace O_x := hide (rb_ownsRow_below (unhide O_x) hb)
  replace O_g := hide ((unhide O_g).below hb)
  replace K_g := hide ((hb.block _ (by omega)).trans (unhide K_g))
  replace B := B.trans (hb.mono B.size)
  have zz_e1 := hb.size
  clear hb
  go_wp2_with fail
  refine (eqTxReplyS_any qa_g qa_w nR qc_g qc_w zs_g zs_w e1 (by omega) (unhide O_g).zr.reads (unhide O_w).zr.reads ((unhide MM_w).trans (unhide MM_g).symm) (zr_few (unhide O_g).zr (unhide MM_g) (unhide FEW))).mono ?_
  rintro e e2 ⟨rfl, hb⟩
  replace O_w := hide ((unhide O_w).below hb)
  replace K_w := hide ((hb.block _ (by omega)).trans (unhide K_w))
  replace O_x := hide (rb_ownsRow_below (unhide O_x) hb)
  replace O_g := hide ((unhide O_g).below hb)
  replace K_g := hide ((hb.block _ (by omega)).trans (unhide K_g))
  replace B := B.trans (hb.mono B.size)
  have zz_e2 := hb.size
  clear hb
  go_wp2_with fail
  refine (toTxActS_any a n c acts e2 hn2 ((unhide P).below B)).mono ?_
  rintro e w_s ⟨g_s, rfl, oo, hb⟩
  obtain ⟨a_s, ha_s⟩ : ∃ x, x = some (⟨g_s, 0, none⟩ : Addr) := ⟨_, rfl⟩
  rw [← ha_s] at oo ⊢
  replace O_w := hide ((unhide O_w).below hb)
  replace K_w := hide ((hb.block _ (by omega)).trans (unhide K_w))
  replace O_x := hide (rb_ownsRow_below (unhide O_x) hb)
  replace O_g := hide ((unhide O_g).below hb)
  replace K_g := hide ((hb.block _ (by omega)).trans (unhide K_g))
  replace B := B.trans (hb.mono B.size)
  have zz_w_s := hb.size
  clear hb
  have O_s := hide oo
  have M_s := fun i h => World.ownsRow.lt (unhide O_s) i h
  clear oo ha_s
  go_wp2_with fail
  refine (eqTxActS_any a_x a_s n n n acts w_s hn2 (xrow_of_owns (unhide O_x)) (xrow_of_owns (unhide O_s))).mono ?_
  rintro e e9 ⟨rfl, hb⟩
  replace O_w := hide ((unhide O_w).below hb)
  replace K_w := hide ((hb.block _ (by omega)).trans (unhide K_w))
  replace O_x := hide (rb_ownsRow_below (unhide O_x) hb)
  replace O_g := hide ((unhide O_g).below hb)
  replace K_g := hide ((hb.block _ (by omega)).trans (unhide K_g))
  replace O_s := hide (rb_ownsRow_below (unhide O_s) hb)
  replace B := B.trans (hb.mono B.size)
  have zz_e9 := hb.size
  clear hb
  clear O_s M_s
  go_wp2_with fail
  refine (markTxActS_any _ a_x n n 1 acts e9 (by omega) (by omega) (unhide O_x)).mono ?_
  rintro e wn ⟨rfl, oo, hgr⟩
  have hw := WrB.of_grown hgr
  clear oo hgr
  replace O_w := hide ((unhide O_w).off hw (fun i hi hp => by have h1 := M_w i hi; have h2 := M_x i hp; omega))
  replace K_w := hide ((hw.block _ (by omega) (fun hp => by have h2 := M_x _ hp; omega)).trans (unhide K_w))
  replace O_g := hide ((unhide O_g).off hw (fun i hi hp => by have h1 := M_g i hi; have h2 := M_x i hp; omega))
  replace K_g := hide ((hw.block _ (by omega) (fun hp => by have h2 := M_x _ hp; omega)).trans (unhide K_g))
  replace B := B.trans (hw.below (fun i hp => by have := M_x i hp; omega) B.size)
  have zz_wn := hw.size
  clear hw
  clear O_x M_x
  have hk0 : ¬ (((1 + 5 * n : Nat) : Int) < 0) := by omega
  generalize 1 + 5 * n = km at *
  have p0_g := (heap_at (unhide K_g) 0).1
  have p1_g := (heap_at (unhide K_g) 1).1
  have p2_g := (heap_at (unhide K_g) 2).1
  have p3_g := (heap_at (unhide K_g) 3).1
  have p0_w := (heap_at (unhide K_w) 0).1
  have p1_w := (heap_at (unhide K_w) 1).1
  have p2_w := (heap_at (unhide K_w) 2).1
  have p3_w := (heap_at (unhide K_w) 3).1
  go_wp2_with fail
  refine (eqVersZ RN ⟨la_g, ln_g, lc_g⟩ ⟨fa_g, fn_g, fc_g⟩ ⟨sa_g, sn_g, sc_g⟩ hs_g ⟨la_w, ln_w, lc_w⟩ ⟨fa_w, fn_w, fc_w⟩ ⟨sa_w, sn_w, sc_w⟩ hs_w R wn (unhide O_g).vz.reads (unhide O_w).vz.reads HR).mono ?_
  rintro e e3 ⟨rfl, hb⟩
  clear p0_g p1_g p2_g p3_g
  clear p0_w p1_w p2_w p3_w
  replace O_w := hide ((unhide O_w).below hb)
  replace K_w := hide ((hb.block _ (by omega)).trans (unhide K_w))
  replace O_g := hide ((unhide O_g).below hb)
  replace K_g := hide ((hb.block _ (by omega)).trans (unhide K_g))
  replace B := B.trans (hb.mono B.size)
  have zz_e3 := hb.size
  clear hb
  go_wp2_with fail
  refine (eqTxReplyS_any qa_g qa_w nR qc_g qc_w zs_g zs_w e3 (by omega) (unhide O_g).zr.reads (unhide O_w).zr.reads ((unhide MM_w).trans (unhide MM_g).symm) (zr_few (unhide O_g).zr (unhide MM_g) (unhide FEW))).mono ?_
  rintro e e4 ⟨rfl, hb⟩
  replace O_w := hide ((unhide O_w).below hb)
  replace K_w := hide ((hb.block _ (by omega)).trans (unhide K_w))
  replace O_g := hide ((unhide O_g).below hb)
  replace K_g := hide ((hb.block _ (by omega)).trans (unhide K_g))
  replace B := B.trans (hb.mono B.size)
  have zz_e4 := hb.size
  clear hb
  have hkg := vzK_le (unhide O_g).vz.reads HR
  simp only at hkg
  have HVK : vzK 1 ln_g fn_g hs_g ≤ 5000000 := vzK_le5 (unhide O_g).vz.reads b5
  have p0_g := (heap_at (unhide K_g) 0).1
  have p1_g := (heap_at (unhide K_g) 1).1
  have p2_g := (heap_at (unhide K_g) 2).1
  have p3_g := (heap_at (unhide K_g) 3).1
  go_wp2_with fail
  refine (markVersions_any _ 1 RN ⟨la_g, ln_g, lc_g⟩ ⟨fa_g, fn_g, fc_g⟩ ⟨sa_g, sn_g, sc_g⟩ hs_g R e4 (by omega) hkg (unhide O_g).vz).mono ?_
  rintro e wm ⟨rfl, oo, hw⟩
  have G2 := hide ((unhide O_g).mark1 oo hw)
  have KG := fun i (hp : VzBl ⟨la_g, ln_g, lc_g⟩ ⟨fa_g, fn_g, fc_g⟩ ⟨sa_g, sn_g, sc_g⟩ hs_g i) => M_g i (.inl hp)
  clear oo
  clear p0_g p1_g p2_g p3_g
  replace O_w := hide ((unhide O_w).off hw (fun i hi hp => by have h1 := M_w i hi; have h2 := KG i hp; omega))
  replace K_w := hide ((hw.block _ (by omega) (fun hp => by have h2 := KG _ hp; omega)).trans (unhide K_w))
  replace K_g := hide ((hw.block _ (by omega) (fun hp => by have h2 := KG _ hp; omega)).trans (unhide K_g))
  replace B := B.trans (hw.below (fun i hp => by have := KG i hp; omega) B.size)
  have zz_wm := hw.size
  clear hw
  clear KG O_g
  have O_g := G2
  clear G2
  simp only
  obtain ⟨kt, hkt⟩ : ∃ kt, kt = vzK 1 ln_g fn_g hs_g := ⟨_, rfl⟩
  have HKT := hide hkt
  rw [← hkt] at HVK ⊢
  have hkp : 0 < kt := by rw [hkt]; unfold vzK; have := kG_mono seCnt (1 + 4 * ln_g + 3 * fn_g) hs_g; omega
  have hcz := zr_cnt (unhide MM_g) (by rw [unhide LR]; exact b1) (unhide FEW) kt
  clear hkt
  go_wp2_with fail
  refine (markTxReplyS_any _ qa_g nR qc_g kt zs_g wm hkp (by omega) (unhide O_g).zr).mono ?_
  rintro e wp ⟨rfl, oo, hw⟩
  have G2 := hide ((unhide O_g).mark2 (zs' := zrMh kt zs_g) oo hw)
  have KG := fun i (hp : NBl (.slice qa_g nR qc_g) (zs_g.map zrEl) i) => M_g i (.inr hp)
  clear oo
  replace O_w := hide ((unhide O_w).off hw (fun i hi hp => by have h1 := M_w i hi; have h2 := KG i hp; omega))
  replace K_w := hide ((hw.block _ (by omega) (fun hp => by have h2 := KG _ hp; omega)).trans (unhide K_w))
  replace K_g := hide ((hw.block _ (by omega) (fun hp => by have h2 := KG _ hp; omega)).trans (unhide K_g))
  replace B := B.trans (hw.below (fun i hp => by have := KG i hp; omega) B.size)
  have zz_wp := hw.size
  clear hw
  clear KG O_g M_g
  have O_g := G2
  have M_g := fun i h => (unhide O_g).lt i h
  clear G2
  obtain ⟨kz, hkz⟩ : ∃ kz, kz = kG zrCnt kt zs_g := ⟨_, rfl⟩
  have HKZ := hide hkz
  rw [← hkz] at hcz ⊢
  clear hkz
  have hm0 : ¬ ((kz : Int) < 0) := by omega
  have hmm : ((kz : Int) != (kz : Int)) = false := by simp
  have hm1 : ¬ ((kt : Int) < 0) := by omega
  have p0_g := (heap_at (unhide K_g) 0).1
  have p1_g := (heap_at (unhide K_g) 1).1
  have p2_g := (heap_at (unhide K_g) 2).1
  have p3_g := (heap_at (unhide K_g) 3).1
  go_wp2_with fail
  refine (heldVersZ RN (unhide O_g).vz hkg).mono ?_
  rw [← unhide HKT]
  rintro e e5 ⟨rfl, hb⟩
  simp only
  clear p0_g p1_g p2_g p3_g
  replace O_w := hide ((unhide O_w).below hb)
  replace K_w := hide ((hb.block _ (by omega)).trans (unhide K_w))
  replace K_g := hide ((hb.block _ (by omega)).trans (unhide K_g))
  replace O_g := hide ((unhide O_g).below hb)
  replace B := B.trans (hb.mono B.size)
  have zz_e5 := hb.size
  clear hb
  go_wp2_with fail
  refine (heldTxReplyS_any qa_g nR qc_g kt zs_g e5 hkp (by rw [← unhide HKZ]; omega) (unhide O_g).zr.reads).mono ?_
  rw [← unhide HKZ]
  rintro e e6 ⟨rfl, hb⟩
  replace O_w := hide ((unhide O_w).below hb)
  replace K_w := hide ((hb.block _ (by omega)).trans (unhide K_w))
  replace K_g := hide ((hb.block _ (by omega)).trans (unhide K_g))
  replace O_g := hide ((unhide O_g).below hb)
  replace B := B.trans (hb.mono B.size)
  have zz_e6 := hb.size
  clear hb
  go_wp2_with fail
  refine (toTxActS_any a n c acts e6 hn2 ((unhide P).below B)).mono ?_
  rintro e w_y ⟨g_y, rfl, oo, hb⟩
  obtain ⟨a_y, ha_y⟩ : ∃ x, x = some (⟨g_y, 0, none⟩ : Addr) := ⟨_, rfl⟩
  rw [← ha_y] at oo ⊢
  replace O_w := hide ((unhide O_w).below hb)
  replace K_w := hide ((hb.block _ (by omega)).trans (unhide K_w))
  replace K_g := hide ((hb.block _ (by omega)).trans (unhide K_g))
  replace O_g := hide ((unhide O_g).below hb)
  replace B := B.trans (hb.mono B.size)
  have zz_w_y := hb.size
  clear hb
  have O_y := hide oo
  have M_y := fun i h => World.ownsRow.lt (unhide O_y) i h
  clear oo ha_y
  go_wp2_with fail
  refine (implTxRun_any a_y n n acts w_y (xrow_of_owns (unhide O_y)) hn2).mono ?_
  intro e w_h hcon
  obtain ⟨l_h, f_h, s_h, hs_h, qa_h, qc_h, zs_h, rfl, oo, mm, hb⟩ := unhide CON _ _ _ hcon
  clear hcon
  obtain ⟨la_h, ln_h, lc_h⟩ := l_h
  obtain ⟨fa_h, fn_h, fc_h⟩ := f_h
  obtain ⟨sa_h, sn_h, sc_h⟩ := s_h
  simp only [vzC]
  replace O_w := hide ((unhide O_w).below hb)
  replace K_w := hide ((hb.block _ (by omega)).trans (unhide K_w))
  replace K_g := hide ((hb.block _ (by omega)).trans (unhide K_g))
  replace O_g := hide ((unhide O_g).below hb)
  replace O_y := hide (rb_ownsRow_below (unhide O_y) hb)
  replace B := B.trans (hb.mono B.size)
  have zz_w_h := hb.size
  clear hb
  have MM_h := hide mm
  have O_h := hide oo
  have M_h := fun i h => (unhide O_h).lt i h
  clear oo mm
  have hb : Below w_h.heap.size w_h (w_h.alloc (.cells #[.int .i64 RN, .slice la_h ln_h lc_h, .slice fa_h fn_h fc_h, .slice sa_h sn_h sc_h] 29)) := (Below.refl _ _).alloc (Nat.le_refl _) _
  have K_h := hide (heap_alloc_new w_h (.cells #[.int .i64 RN, .slice la_h ln_h lc_h, .slice fa_h fn_h fc_h, .slice sa_h sn_h sc_h] 29))
  have sz_h : (w_h.alloc (.cells #[.int .i64 RN, .slice la_h ln_h lc_h, .slice fa_h fn_h fc_h, .slice sa_h sn_h sc_h] 29)).heap.size = w_h.heap.size + 1 := by simp
  replace O_w := hide ((unhide O_w).below hb)
  replace K_w := hide ((hb.block _ (by omega)).trans (unhide K_w))
  replace K_g := hide ((hb.block _ (by omega)).trans (unhide K_g))
  replace O_g := hide ((unhide O_g).below hb)
  replace O_y := hide (rb_ownsRow_below (unhide O_y) hb)
  replace O_h := hide ((unhide O_h).below hb)
  replace B := B.trans (hb.mono B.size)
  have zz_b_h := hb.size
  clear hb
  go_upto_region 29 with fail
  generalize w_h.alloc (.cells #[.int .i64 RN, .slice la_h ln_h lc_h, .slice fa_h fn_h fc_h, .slice sa_h sn_h sc_h] 29) = b_h at *
  clear O_y M_y
  have p0_h := (heap_at (unhide K_h) 0).1
  have p1_h := (heap_at (unhide K_h) 1).1
  have p2_h := (heap_at (unhide K_h) 2).1
  have p3_h := (heap_at (unhide K_h) 3).1
  have p0_w := (heap_at (unhide K_w) 0).1
  have p1_w := (heap_at (unhide K_w) 1).1
  have p2_w := (heap_at (unhide K_w) 2).1
  have p3_w := (heap_at (unhide K_w) 3).1
  go_wp2_with fail
  refine (eqVersZ RN ⟨la_h, ln_h, lc_h⟩ ⟨fa_h, fn_h, fc_h⟩ ⟨sa_h, sn_h, sc_h⟩ hs_h ⟨la_w, ln_w, lc_w⟩ ⟨fa_w, fn_w, fc_w⟩ ⟨sa_w, sn_w, sc_w⟩ hs_w R b_h (unhide O_h).vz.reads (unhide O_w).vz.reads HR).mono ?_
  rintro e e7 ⟨rfl, hb⟩
  clear p0_h p1_h p2_h p3_h
  clear p0_w p1_w p2_w p3_w
  replace O_w := hide ((unhide O_w).below hb)
  replace K_w := hide ((hb.block _ (by omega)).trans (unhide K_w))
  replace K_g := hide ((hb.block _ (by omega)).trans (unhide K_g))
  replace O_g := hide ((unhide O_g).below hb)
  replace O_h := hide ((unhide O_h).below hb)
  replace K_h := hide ((hb.block _ (by omega)).trans (unhide K_h))
  replace B := B.trans (hb.mono B.size)
  have zz_e7 := hb.size
  clear hb
  go_wp2_with fail
  refine (eqTxReplyS_any qa_h qa_w nR qc_h qc_w zs_h zs_w e7 (by omega) (unhide O_h).zr.reads (unhide O_w).zr.reads ((unhide MM_w).trans (unhide MM_h).symm) (zr_few (unhide O_h).zr (unhide MM_h) (unhide FEW))).mono ?_
  rintro e e8 ⟨rfl, hb⟩
  replace O_w := hide ((unhide O_w).below hb)
  replace K_w := hide ((hb.block _ (by omega)).trans (unhide K_w))
  replace K_g := hide ((hb.block _ (by omega)).trans (unhide K_g))
  replace O_g := hide ((unhide O_g).below hb)
  replace O_h := hide ((unhide O_h).below hb)
  replace K_h := hide ((hb.block _ (by omega)).trans (unhide K_h))
  replace B := B.trans (hb.mono B.size)
  have zz_e8 := hb.size
  clear hb
  have p0_g := (heap_at (unhide K_g) 0).1
  have p1_g := (heap_at (unhide K_g) 1).1
  have p2_g := (heap_at (unhide K_g) 2).1
  have p3_g := (heap_at (unhide K_g) 3).1
  go_wp2_with fail
  refine (heldVersZ RN (unhide O_g).vz hkg).mono ?_
  rw [← unhide HKT]
  rintro e e9 ⟨rfl, hb⟩
  simp only
  clear p0_g p1_g p2_g p3_g
  replace O_w := hide ((unhide O_w).below hb)
  replace K_w := hide ((hb.block _ (by omega)).trans (unhide K_w))
  replace K_g := hide ((hb.block _ (by omega)).trans (unhide K_g))
  replace O_g := hide ((unhide O_g).below hb)
  replace O_h := hide ((unhide O_h).below hb)
  replace K_h := hide ((hb.block _ (by omega)).trans (unhide K_h))
  replace B := B.trans (hb.mono B.size)
  have zz_e9 := hb.size
  clear hb
  go_wp2_with fail
  refine (heldTxReplyS_any qa_g nR qc_g kt zs_g e9 hkp (by rw [← unhide HKZ]; omega) (unhide O_g).zr.reads).mono ?_
  rw [← unhide HKZ]
  rintro e e10 ⟨rfl, hb⟩
  replace O_w := hide ((unhide O_w).below hb)
  replace K_w := hide ((hb.block _ (by omega)).trans (unhide K_w))
  replace K_g := hide ((hb.block _ (by omega)).trans (unhide K_g))
  replace O_g := hide ((unhide O_g).below hb)
  replace O_h := hide ((unhide O_h).below hb)
  replace K_h := hide ((hb.block _ (by omega)).trans (unhide K_h))
  replace B := B.trans (hb.mono B.size)
  have zz_e10 := hb.size
  clear hb
  go_wp2_with fail
  go_ret
  exact ⟨rfl, B⟩
end Go.Proofs.YtdnjgbckkmbmfaaGreat

namespace Go.Proofs.YtdnjgbckkmbmfaaGreat
open Go.RowKit Go.ChangeShapes Go.WideShapes

theorem trod_struct5 {H : Type} {enc : TypeId × Value → H} {P : Program} {w : World} {base : Nat} {spare : Nat → Bool} {held : Bool} {t : TypeId} {f0 f1 f2 f3 f4 : Field} {fuel : Nat} {cs : List Value} {x : DataW H × List MemPlace} (ht : P.underlying t = some (.struct #[f0, f1, f2, f3, f4])) (h : DataW.trod enc P w base spare held fuel t cs = some x) :
    ∃ y0 y1 y2 y3 y4 n, cs.length = P.cellsOf t ∧ DataW.trod enc P w base spare held n f0.type ((cs.drop f0.offset).take (P.cellsOf f0.type)) = some y0 ∧
      DataW.trod enc P w base spare held n f1.type ((cs.drop f1.offset).take (P.cellsOf f1.type)) = some y1 ∧ DataW.trod enc P w base spare held n f2.type ((cs.drop f2.offset).take (P.cellsOf f2.type)) = some y2 ∧
      DataW.trod enc P w base spare held n f3.type ((cs.drop f3.offset).take (P.cellsOf f3.type)) = some y3 ∧ DataW.trod enc P w base spare held n f4.type ((cs.drop f4.offset).take (P.cellsOf f4.type)) = some y4 := by
  obtain ⟨xs, n, _, rfl, hl, hlen, hf⟩ := DataW.trod_struct ht h
  match xs, hlen with
  | [y0, y1, y2, y3, y4], _ => exact ⟨y0, y1, y2, y3, y4, n, hl, by simpa using hf 0 f0 rfl, by simpa using hf 1 f1 rfl, by simpa using hf 2 f2 rfl, by simpa using hf 3 f3 rfl, by simpa using hf 4 f4 rfl⟩
end Go.Proofs.YtdnjgbckkmbmfaaGreat

namespace Go.Proofs.YtdnjgbckkmbmfaaGreat
open Go.RowKit Go.ChangeShapes Go.WideShapes

set_option maxRecDepth 100000 in
theorem open_xlist {H : Type} {enc : TypeId × Value → H} {w : World} {base : Nat} {spare : Nat → Bool} {held : Bool} {v : Value} {fuel : Nat} {x : DataW H × List MemPlace}
    (h : DataW.trod enc Tryz.prog w base spare held fuel 61 [v] = some x) : ∃ a l c ds, v = .slice a l c ∧ XRow w a l ds ∧ l ≤ maxLen ∧ ∀ i (hi : i < ds.length), ds[i].key.size ≤ maxLen ∧ ds[i].to.size ≤ maxLen ∧ ds[i].val.size ≤ maxLen := by
  rcases Deep.open_slice Tryz.underlying61 h with ⟨hcs, _⟩ | ⟨y, l, c, m, n, D, Pl, hcs, hb, hl, hm, hmm, _, hel⟩
  · simp at hcs
    subst hcs
    exact ⟨none, 0, 0, [], rfl, ⟨rfl, fun i hi => absurd hi (Nat.not_lt_zero _)⟩, by unfold maxLen; omega, fun i hi => absurd hi (Nat.not_lt_zero _)⟩
  simp at hcs
  subst hcs
  have hlm : l ≤ m := by rw [hmm]; split <;> omega
  have cN : Tryz.prog.cellsOf 98 = 5 := by kernel_rfl
  rw [cN] at hel
  have one : ∀ i, i < l → ∃ d : TxD, (d.key.size ≤ maxLen ∧ d.to.size ≤ maxLen ∧ d.val.size ≤ maxLen) ∧ ∃ b off, some y = some (⟨b, off, none⟩ : Addr) ∧ w.cell? ⟨b, off + i * 5, none⟩ = some (.int .i64 d.kind) ∧ w.cell? ⟨b, off + i * 5 + 1, none⟩ = some (.int .i64 d.ses) ∧ w.cell? ⟨b, off + i * 5 + 2, none⟩ = some (.string d.key) ∧ w.cell? ⟨b, off + i * 5 + 3, none⟩ = some (.string d.to) ∧ w.cell? ⟨b, off + i * 5 + 4, none⟩ = some (.string d.val) := by
    intro i hi
    obtain ⟨cs, hc, ht⟩ := hel i (by omega)
    obtain ⟨_, hlen, hcell⟩ := World.cells?_some hc
    obtain ⟨y0, y1, y2, y3, y4, n', _, h0, h1, h2, h3, h4⟩ := trod_struct5 Tryz.underlying98 ht
    obtain ⟨k0, e0, _, w0⟩ := DataW.trod_int Tryz.underlying3 h0
    obtain ⟨k1, e1, _, w1⟩ := DataW.trod_int Tryz.underlying3 h1
    obtain ⟨k2, e2, _, w2⟩ := DataW.trod_string Tryz.underlying9 h2
    obtain ⟨k3, e3, _, w3⟩ := DataW.trod_string Tryz.underlying9 h3
    obtain ⟨k4, e4, _, w4⟩ := DataW.trod_string Tryz.underlying9 h4
    match cs, hlen with
    | [v0, v1, v2, v3, v4], _ =>
      have si : Tryz.prog.cellsOf 3 = 1 := by kernel_rfl
      have ss : Tryz.prog.cellsOf 9 = 1 := by kernel_rfl
      have e0' : v0 = .int .i64 k0 := by simpa [si, ss] using e0
      have e1' : v1 = .int .i64 k1 := by simpa [si, ss] using e1
      have e2' : v2 = .string k2 := by simpa [si, ss] using e2
      have e3' : v3 = .string k3 := by simpa [si, ss] using e3
      have e4' : v4 = .string k4 := by simpa [si, ss] using e4
      subst e0' e1' e2' e3' e4'
      have g0 := hcell 0 (by omega)
      have g1 := hcell 1 (by omega)
      have g2 := hcell 2 (by omega)
      have g3 := hcell 3 (by omega)
      have g4 := hcell 4 (by omega)
      rw [Deep.add_add] at g0 g1 g2 g3 g4
      obtain ⟨b, off, spot⟩ := y
      have hs : spot = none := by
        by_cases hi0 : i = 0
        · have := World.cell?_spot (g0.trans rfl)
          simpa [Addr.add, hi0] using this
        · obtain ⟨cs', hc', ht'⟩ := hel 0 (by omega)
          obtain ⟨_, hlen', hcell'⟩ := World.cells?_some hc'
          have h0' := hcell' 0 (by omega)
          match cs', hlen' with
          | [u0, u1, u2, u3, u4], _ =>
            have := World.cell?_spot (h0'.trans rfl)
            simpa [Addr.add] using this
      subst hs
      have e : ∀ j, (⟨b, off, none⟩ : Addr).add j = ⟨b, off + j, none⟩ := fun j => by unfold Addr.add; split <;> simp_all
      rw [e] at g0 g1 g2 g3 g4
      exact ⟨⟨k0, k1, k2, k3, k4⟩, ⟨w2, w3, w4⟩, b, off, rfl, by simpa using g0, by simpa [Nat.add_assoc] using g1, by simpa [Nat.add_assoc] using g2, by simpa [Nat.add_assoc] using g3, by simpa [Nat.add_assoc] using g4⟩
  have : ∀ i, ∃ d : TxD, i < l → (d.key.size ≤ maxLen ∧ d.to.size ≤ maxLen ∧ d.val.size ≤ maxLen) ∧ ∃ b off, some y = some (⟨b, off, none⟩ : Addr) ∧ w.cell? ⟨b, off + i * 5, none⟩ = some (.int .i64 d.kind) ∧ w.cell? ⟨b, off + i * 5 + 1, none⟩ = some (.int .i64 d.ses) ∧ w.cell? ⟨b, off + i * 5 + 2, none⟩ = some (.string d.key) ∧ w.cell? ⟨b, off + i * 5 + 3, none⟩ = some (.string d.to) ∧ w.cell? ⟨b, off + i * 5 + 4, none⟩ = some (.string d.val) := fun i => by
    by_cases hi : i < l
    · obtain ⟨d, hd⟩ := one i hi
      exact ⟨d, fun _ => hd⟩
    · exact ⟨noX, fun h => absurd h hi⟩
  obtain ⟨F, hF⟩ := Classical.skolem.1 this
  refine ⟨some y, l, c, (List.range l).map F, rfl, ⟨by simp, fun i hi => ?_⟩, by omega, fun i hi => ?_⟩
  · have hi' : i < l := by simpa using hi
    simpa using (hF i hi').2
  · have hi' : i < l := by simpa using hi
    simpa using (hF i hi').1
end Go.Proofs.YtdnjgbckkmbmfaaGreat

namespace Go.Proofs.YtdnjgbckkmbmfaaGreat.fnExactTxRunFrame
open Go.ChangeShapes Go.WideShapes Go.ChangeAt Go.RowKit
open Go.ChangeMaps (open_string shut_string)
set_option linter.unusedVariables false

theorem own : ownKnob Tryz.prog.godebug = none := by kernel_rfl
theorem laidOut : laidOutB Tryz.prog = true := by kernel_rfl

set_option maxRecDepth 100000 in
theorem lifted (os : Os) (started : os.Started) (H : Type) (enc : TypeId × Value → H) :
    ReturnsInHanded {} Tryz.checked os 5 .any (Rows.fnExactTxRunSpec.pre6 enc Tryz.prog Tryz.f5 Rows.fnExactTxRunRow.domain false) (Rows.fnExactTxRunSpec.post enc Tryz.prog Tryz.f5 false true false false) := by
  refine returnsInHanded_of_change (C := Tryz.checked) own started (by kernel_rfl) Tryz.func5
    (ChangeSpec.witness6 (enc := enc) (C := Tryz.checked) false ⟨#[], #[.slice none 0 0], []⟩ 8 (by kernel_rfl) (by kernel_rfl) (by kernel_rfl) (by kernel_rfl)) ?_
  intro W base args ds gs before hval0 hW _ _
  have hval : ∀ (j : Nat) t v, Tryz.f5.params[j]? = some t → args[j]? = some v → Value.okWide Tryz.prog W .any base t v := hval0
  have hW' := hW
  obtain ⟨p, q, hA0, hV, rfl, _, _⟩ := hW
  have hA : DataW.TrodAll enc Tryz.prog W 0 (fun _ => true) true Tryz.f5.params.toList args.toList ds p := hA0
  rw [Tryz.params5] at hA hval
  obtain ⟨v0, vs0, d0, ds0, p0, q0, hargs, rfl, rfl, h0, r0⟩ := trodAll_cons hA
  obtain ⟨rfl, rfl, rfl⟩ := trodAll_nil r0
  obtain rfl : args = #[v0] := by cases args; simp_all
  obtain ⟨rfl, rfl⟩ := trodVars_none hV
  have k0 := h0
  have lt0 : ∀ x ∈ p0, x.block < W.heap.size := by obtain ⟨m, hm⟩ := k0; exact DataW.trod_lt m _ _ _ hm
  obtain ⟨a0, len0, cap0, rfl⟩ := okWide_slice Tryz.underlying61 (hval 0 61 v0 rfl rfl)
  obtain ⟨z0, w0, wn0, wt0⟩ : ∃ ds, XRow W a0 len0 ds ∧ len0 ≤ maxLen ∧ ∀ i (hi : i < ds.length), ds[i].key.size ≤ maxLen ∧ ds[i].to.size ≤ maxLen ∧ ds[i].val.size ≤ maxLen := by
    obtain ⟨fuel, hf⟩ := h0
    obtain ⟨a', l', c', ds, e, r⟩ := open_xlist hf
    cases e
    exact ⟨ds, r⟩
  clear hA0 hval0
  refine (lawTxRun_any a0 len0 cap0 z0 W w0 wn0 wt0).mono fun e W' ⟨he, bel⟩ => ?_
  subst he
  exact ⟨_, rfl, _, _, _, [], _, [], hW', trodAll_mk1 (shut_bool Tryz.underlying4 _), (trodAll_cons_mk (Below.trod laidOut (by kernel_rfl) (of_decide_eq_true (by kernel_rfl)) k0 bel lt0) trodAll_mk0), rfl, bel.frame _, fun h => by cases h⟩

theorem over : Rows.fnExactTxRunRow.holds Tryz.pinned (OpenSpec.ofChange Rows.fnExactTxRunSpec) :=
  OpenClaim.holds_of_wide 5 Tryz.f5 rfl rfl rfl rfl rfl rfl rfl ⟨rfl, rfl, rfl, rfl, rfl⟩ rfl rfl rfl rfl rfl (by kernel_rfl) Tryz.func5 (by kernel_rfl)
    (of_decide_eq_true (by kernel_rfl)) (by unfold Func.isWrapper; first | (rw [if_pos (by decide +kernel)]; kernel_rfl) | (rw [if_neg (by decide +kernel)]; exact ⟨rfl, rfl⟩))
    (fun os started H enc _ => lifted os started H enc)

end Go.Proofs.YtdnjgbckkmbmfaaGreat.fnExactTxRunFrame
namespace Go.Proofs.YtdnjgbckkmbmfaaGreat
theorem fnExactTxRun_proved : Rows.FnExactTxRunSaid := fnExactTxRunFrame.over
#print axioms fnExactTxRun_proved
end Go.Proofs.YtdnjgbckkmbmfaaGreat
