/-
  LkE, FvA, LgP, LgO, LgN, LgQ, Rf, ScJ, ImM, ScK, ReB, RgW, ReC, FlashIn, FlIn8, ReU, DevP, DevC, ImplOK, FlashRdI, ReE in one.
-/
import Derived.Test.YtcflepnckjappaaGreatPageL
import Derived.Test.YtcflepnckjappaaGreatReAll8
import Derived.Test.YtcflepnckjappaaGreatReAll10
import Derived.Test.YtcflepnckjappaaGreatReAll2
import Derived.Test.YtcflepnckjappaaGreatReAll5
import Derived.Test.YtcflepnckjappaaGreatWrT
import Derived.RangeFuncNested
import Derived.RangeFuncBound
import Derived.RangeFuncCalls
import Derived.RangeFuncLeaves
import Derived.Shelf.Abstract
import Derived.Shelf.RegionOpen
import Derived.OwnWalkIn
import Derived.TacticsInMore
import Derived.LoopNIn
import Derived.LoopIn
import Derived.Test.YtcflepnckjappaaGreatReAll7
import Derived.Test.YtcflepnckjappaaGreatImC
import Derived.Test.YtcflepnckjappaaGreatReA
import Derived.Test.YtcflepnckjappaaGreatTakes
import Derived.OrdersIn
import Derived.Test.YtcflepnckjappaaGreatReAll3
import Derived.Test.YtcflepnckjappaaGreatReAll6
import Derived.Deep.Slices
import Derived.Lib.SmallJoins
import Derived.OpenShut
import Derived.Test.YtcflepnckjappaaGreatImgL
import Derived.Deep.WholeRow
namespace Go.Proofs.YtcflepnckjappaaGreat
open Go.RowKit

end Go.Proofs.YtcflepnckjappaaGreat

namespace Go.Proofs.YtcflepnckjappaaGreat
open Go.RowKit

end Go.Proofs.YtcflepnckjappaaGreat

namespace Go.Proofs.YtcflepnckjappaaGreat
open Go.RowKit Go.Lib

end Go.Proofs.YtcflepnckjappaaGreat

namespace Go.Proofs.YtcflepnckjappaaGreat
open Go.RowKit

end Go.Proofs.YtcflepnckjappaaGreat

namespace Go.Proofs.YtcflepnckjappaaGreat
open Go.RowKit

def seNil : SeH := ⟨clS, nilS⟩
theorem se_made (n : Nat) : (madeCells #[.bool false, .int .i64 0, .slice none 0 0] (n * 3)).toList = (List.replicate n ((seEl seNil).hd)).flatMap id := by
  apply List.ext_getElem?
  intro j
  rw [show ∀ (k : Nat), (madeCells #[.bool false, .int .i64 0, .slice none 0 0] (n * 3)).toList[k]? = if k < n * 3 then some (#[.bool false, .int .i64 0, .slice none 0 0][k % 3]!) else none from fun k => by
    by_cases hk : k < n * 3 <;> simp [madeCells, hk]]
  induction n generalizing j with
  | zero => simp
  | succ n ih =>
    rw [List.replicate_succ, List.flatMap_cons]
    match j with
    | 0 => rw [if_pos (by omega)]; rfl
    | 1 => rw [if_pos (by omega)]; rfl
    | 2 => rw [if_pos (by omega)]; rfl
    | j + 3 =>
      rw [show (id (seEl seNil).hd ++ (List.replicate n (seEl seNil).hd).flatMap id)[j + 3]? = ((List.replicate n (seEl seNil).hd).flatMap id)[j]? from rfl, ← ih j, Nat.add_mod_right]
      by_cases hj : j < n * 3
      · rw [if_pos hj, if_pos (by omega)]
      · rw [if_neg hj, if_neg (by omega)]
set_option maxRecDepth 100000 in
set_option maxHeartbeats 2000000 in
theorem noVersions_any (w : World) : Calls Tryz.prog 124 #[] w fun e w' => ∃ sc g, e = .returned (.agg (vzC 1 ⟨none, 0, 0⟩ ⟨none, 0, 0⟩ ⟨some ⟨g, 0, none⟩, 4, sc⟩)) ∧ w'.ownsRow w.heap.size 212 3 (.slice (some ⟨g, 0, none⟩) 4 sc) 4 (madeCells #[.bool false, .int .i64 0, .slice none 0 0] (4 * 3)).toList ∧ Below w.heap.size w w' := by
  obtain ⟨i0, hi, hz0, hz1, hz2⟩ := info_parts Tryz.infoSe
  obtain ⟨W, hW⟩ : ∃ W, W = w.alloc (.cells #[.int .i64 0, .slice none 0 0, .slice none 0 0, .slice none 0 0] 29) := ⟨_, rfl⟩
  have bW : Below w.heap.size w W := by rw [hW]; exact (Below.refl _ _).alloc (Nat.le_refl _) _
  have kW : W.heap[w.heap.size]? = some (.cells #[.int .i64 0, .slice none 0 0, .slice none 0 0, .slice none 0 0] 29 (0, 0)) := by rw [hW]; exact heap_alloc_new _ _
  have hz : W.heap.size = w.heap.size + 1 := by rw [hW]; simp
  go_enter Tryz.func124, Tryz.ntmps124
  go_upto_region 1 with fail
  rw [← hW]
  clear hW
  go_wp2_with (at_make; refine wpList_make_full _ rfl _ _ 27 rfl W.heap.size 212 i0 _ 3 Tryz.underlying27 hi hz0 hz1 _ _ _ _ 4 rfl rfl rfl rfl (by rw [hz2]; omega) (by unfold maxLen; omega) (Nat.le_refl _) ?_)
  intro w1 hown hgrow
  have b1 : Below W.heap.size W w1 := (Below.refl _ _).grown hgrow (Nat.le_refl _) (fun k hk => by cases hk)
  have k1 := (b1.block _ (by omega)).trans kW
  have y0 := (heap_at k1 0).1
  have y1 := (heap_at k1 1).1
  have y2 := (heap_at k1 2).1
  have y3 := (heap_at k1 3).1
  have f0 := (heap_at k1 0).2
  have f1 := (heap_at k1 1).2
  have f2 := (heap_at k1 2).2
  have f3 := (heap_at k1 3).2
  have KE := hide (sv4_heap k1 (.int .i64 1) (.slice none 0 0) (.slice none 0 0) (.slice (some ⟨w.heap.size + 1, 0, none⟩) 4 4))
  have OE := hide (rs_base (rr_owns_wr hown (sv4_wr w1 w.heap.size (.int .i64 1) (.slice none 0 0) (.slice none 0 0) (.slice (some ⟨w.heap.size + 1, 0, none⟩) 4 4)) (fun i hi e => by have := (hown.lt i hi).1; omega)) (show w.heap.size ≤ w.heap.size + 1 by omega))
  have BE := hide (bel_sv4 (bW.trans (b1.mono bW.size)) (Nat.le_refl w.heap.size) (.int .i64 1) (.slice none 0 0) (.slice none 0 0) (.slice (some ⟨w.heap.size + 1, 0, none⟩) 4 4))
  unfold sv4 at KE OE BE
  clear hown hgrow b1 k1 bW kW hz
  go_wp2_with fail
  have x0 := (heap_at (unhide KE) 0).1
  have x1 := (heap_at (unhide KE) 1).1
  have x2 := (heap_at (unhide KE) 2).1
  have x3 := (heap_at (unhide KE) 3).1
  refine bodyPost_ret (v := .agg #[.int .i64 1, .slice none 0 0, .slice none 0 0, .slice (some ⟨w.heap.size + 1, 0, none⟩) 4 4]) (by simp [results, Tryz.results124, go_sem, *]) rfl ?_
  exact ⟨4, w.heap.size + 1, rfl, unhide OE, unhide BE⟩
end Go.Proofs.YtcflepnckjappaaGreat

namespace Go.Proofs.YtcflepnckjappaaGreat
open Go.RowKit

theorem se_new {w : World} {B : Nat} {v : Value} (h : w.ownsRow B 212 3 v 4 (madeCells #[.bool false, .int .i64 0, .slice none 0 0] (4 * 3)).toList) : SeOwn w B v (List.replicate 4 seNil) := by
  rw [se_made] at h
  have hm : ∀ {k a x}, sbAt ((List.replicate 4 seNil).map seEl) k a = some x → x = ⟨51, 4, 0, .slice none 0 0, []⟩ := fun hx => by
    obtain ⟨e, he, hxe⟩ := sbAt_mem hx
    obtain ⟨y, hy, rfl⟩ := List.mem_map.1 he
    rw [List.eq_of_mem_replicate hy] at hxe
    exact List.mem_singleton.1 hxe
  refine ⟨h, rfl, seEl_wid _, fun k a x hx => ?_, fun i j a b x y hx hy _ g hg => ?_, fun i a x hx g _ => ?_⟩
  · rw [hm hx]; exact World.ownsRow_nil _ _ _ _
  · rw [hm hx] at hg; cases hg
  · rw [hm hx]; intro e; cases e
theorem noVersions_vz (w : World) : Calls Tryz.prog 124 #[] w fun e w' => ∃ sc g, e = .returned (.agg (vzC 1 ⟨none, 0, 0⟩ ⟨none, 0, 0⟩ ⟨some ⟨g, 0, none⟩, 4, sc⟩)) ∧ VzOwn w' w.heap.size ⟨none, 0, 0⟩ ⟨none, 0, 0⟩ ⟨some ⟨g, 0, none⟩, 4, sc⟩ (List.replicate 4 seNil) newV ∧ Below w.heap.size w w' :=
  (noVersions_any w).mono fun e w' ⟨sc, g, he, ho, hb⟩ => ⟨sc, g, he, ⟨World.ownsRow_nil _ _ _ _, World.ownsRow_nil _ _ _ _, se_new ho, rfl, fun i hi => by cases hi⟩, hb⟩
theorem LgAt.rd {w : World} {B lb m N : Nat} {h : ByteArray → Value} {f s : Sl} {hs : List SeH} {d : VsD} (q : LgAt w B lb m N h f s hs d) : LdRd w lb m N h f s hs d := by
  obtain ⟨fa, fn, fc⟩ := f
  obtain ⟨sa, sn, sc⟩ := s
  have hl := q.len
  have so := q.vz.so
  refine ⟨q.box, q.his.rd, frow_of_owns q.vz.fo, cap_of_owns (s := ⟨fa, fn, fc⟩) q.vz.fo, ?_, (cap_of_owns (s := ⟨sa, sn, sc⟩) so.row).2, fun x hx => ?_, q.vz.ss⟩
  · have := so.reads
    rw [← hl.1] at this
    exact this
  · obtain ⟨k, hk, rfl⟩ := List.getElem_of_mem hx
    exact cap_of_owns (so.dat k 0 _ (by unfold sbAt; rw [seEl_at hk]; rfl))
theorem nbl_zr {w : World} {B n i : Nat} {v : Value} {zs : List ZrH} (h : NOwn w B 47 4 v n (zs.map zrEl)) (hi : NBl v (zs.map zrEl) i) : ∃ cur T, w.heap[i]? = some (.cells cur T (0, 0)) ∧ (T = 47 ∨ T = 143) := by
  rcases hi with hi | ⟨k, a, x, hx, hi⟩
  · obtain ⟨cur, hc⟩ := own_kind h.row hi
    exact ⟨cur, _, hc, .inl rfl⟩
  · have ht : x.t = 143 := by
      obtain ⟨e, he, hxe⟩ := sbAt_mem hx
      obtain ⟨y, _, rfl⟩ := List.mem_map.1 he
      rw [List.mem_singleton.1 hxe]
    obtain ⟨cur, hc⟩ := own_kind (h.dat k a x hx) hi
    exact ⟨cur, _, hc, .inr ht⟩
theorem not_lk {m : Nat} {w : World} {i : Nat} {cs : Array Value} {t : TypeId} (h : w.heap[i]? = some (.cells cs t (0, 0))) (ht : t = 47 ∨ t = 143 ∨ t = 39) : ¬ LK m w i := by
  rintro (⟨_, es, c, e⟩ | ⟨cs', t', fr, e, hk⟩)
  · rw [h] at e; cases e
  · rw [h] at e
    injection e with e
    injection e with _ e2 _
    subst e2
    rcases ht with rfl | rfl | rfl <;> rcases hk with hk | hk | hk | hk <;> exact absurd hk (by decide)
/-- Replies stay where a ledger changes. -/
theorem zr_lg {w w' : World} {B m C n : Nat} {v : Value} {zs : List ZrH} (h : NOwn w C 47 4 v n (zs.map zrEl)) (hw : LgW B m w w') : NOwn w' C 47 4 v n (zs.map zrEl) :=
  h.keep hw fun i hi ⟨_, hk⟩ => by
    obtain ⟨cur, T, hc, hT⟩ := nbl_zr h hi
    exact not_lk hc (hT.elim .inl (fun e => .inr (.inl e))) hk
/-- A run under way. -/
structure IrSt (w1 wr : World) (lb m N : Nat) (h : ByteArray → Value) (f s : Sl) (hs : List SeH) (d : VsD) (rv : Value) (zs : List ZrH) : Prop where
  bel : Below w1.heap.size w1 wr
  lg : LgAt wr w1.heap.size lb m N h f s hs d
  rep : ZrOwn wr w1.heap.size rv zs
theorem IrSt.below {w1 w w' : World} {lb m N : Nat} {h : ByteArray → Value} {f s : Sl} {hs : List SeH} {d : VsD} {rv : Value} {zs : List ZrH} (q : IrSt w1 w lb m N h f s hs d rv zs) (hb : Below w.heap.size w w') : IrSt w1 w' lb m N h f s hs d rv zs :=
  ⟨q.bel.trans (hb.mono q.bel.size), q.lg.below hb, q.rep.below hb⟩
/-- An act is done, its reply appended. -/
theorem IrSt.push {w1 wr u : World} {lb m N : Nat} {h : ByteArray → Value} {f s : Sl} {hs : List SeH} {d : VsD} {rv : Value} {zs : List ZrH} (q : IrSt w1 wr lb m N h f s hs d rv zs) {p : VsD × RepD} {N' : Nat} {h' : ByteArray → Value} {f' : Sl} {hs' : List SeH} {r : Sl} (hl : LgAt u w1.heap.size lb m N' h' f' s hs' p.1) (ho : EOwns u wr.heap.size (.slice r.a r.n r.c) p.2.list) (hw : LgW w1.heap.size m wr u) (hz : zs.length ≤ 1000) :
    ∃ q' : Sl, ∃ w5, (Builtin.append_ #[35, 35] 35 #[rv, .slice (some ⟨u.heap.size, 0, none⟩) 1 1]).run Tryz.prog (u.alloc (.cells #[.int .i64 p.2.code, .int .i64 p.2.time, .string p.2.val, .slice r.a r.n r.c] 47)) = .ok (.slice q'.a q'.n q'.c) w5 ∧ IrSt w1 w5 lb m N' h' f' s hs' p.1 (.slice q'.a q'.n q'.c) (zs ++ [⟨p.2, r⟩]) := by
  have b1 := q.bel.trans (hw.below q.bel.size)
  have r1 : ZrOwn u w1.heap.size rv zs := zr_lg q.rep hw
  obtain ⟨i0, hi0, hz0, hz1, hz2⟩ := info_parts Tryz.infoZr
  obtain ⟨v', w5, hrun, hN, hg, -⟩ := NOwn.app (e := zrEl ⟨p.2, r⟩) (C := wr.heap.size) 35 Tryz.underlying35 hi0 hz0 hz1 hz2 rfl (by decide) (by decide) r1 rfl (by intro y hy; simp only [zrEl, List.mem_cons, List.not_mem_nil, or_false] at hy; rcases hy with rfl | rfl | rfl | rfl <;> rfl) (fun x hx => by
    rw [List.mem_singleton.1 hx]; exact ho) (fun i hi => (q.rep.lt i hi).2) q.bel.size (fun a b x y hy hz' hab => by
    match a, hy, b, hz' with
    | 0, _, 0, _ => exact absurd rfl hab
    | a + 1, hy, _, _ => cases hy
    | 0, _, b + 1, hz' => cases hz') (by omega) b1.size
  obtain ⟨q', rfl, -⟩ := v_slice hN.row
  have bA : Below u.heap.size u (u.alloc (.cells (zrEl ⟨p.2, r⟩).hd.toArray 47)) := (Below.refl _ _).alloc (Nat.le_refl _) _
  have rA := r1.below bA
  refine ⟨q', w5, hrun, ⟨(b1.trans (bA.mono b1.size)).trans (WrB.below (WrB.of_grown hg) (fun i hi => (rA.row.lt i hi).1) (Nat.le_trans b1.size bA.size)), (hl.below bA).wr (WrB.of_grown hg) (fun i hi => ?_), ?_⟩⟩
  · obtain ⟨cur, hc⟩ := own_kind rA.row hi
    exact not_lk hc (.inl rfl)
  · have := hN
    rw [← List.map_singleton, ← List.map_append] at this
    rw [show zs.length + 1 = (zs ++ [(⟨p.2, r⟩ : ZrH)]).length by simp] at this
    exact this
end Go.Proofs.YtcflepnckjappaaGreat

namespace Go.Proofs.YtcflepnckjappaaGreat
open Go.RowKit Go.Shelf

/-- An iterator's word: of each thing that it hands over a fact holds as it does so; what holds at its end, or where a round has said that no more is wanted. -/
def SeqTells {α : Type} (F : Fence) (n : Nat) (P : Program) (g : Nat) (lb : Array Value) (encs : α → Array Value) (Kp : World → World → Prop) (Fact : List α → α → World → Prop) (Fin FinX : List α → World → Prop) (w : World) : Prop :=
  ∀ (l : Nat) (J Jx : List α → World → Prop) (W : World), Below w.heap.size w W → Kp w W → AbidesFrom W.heap.size J → AbidesFrom W.heap.size Jx →
    (∀ pre x W1, J pre W1 → Fact pre x W1 → YieldAt F (n - 1) P l (encs x) W1 fun e W2 =>
      (e = .returned (.bool true) ∧ J (pre ++ [x]) W2 ∧ Kp W1 W2) ∨ (e = .returned (.bool false) ∧ Jx (pre ++ [x]) W2 ∧ Kp W1 W2)) →
    J [] W →
    CallsIn F n P g (#[.func (.yield l) #[] #[]] ++ lb) W fun e W2 => (∃ v, e = .returned v) ∧ ((∃ xs, Fin xs W2 ∧ J xs W2) ∨ ∃ pre, FinX pre W2 ∧ Jx pre W2)
/-- From B on what is neither cells nor walked through (maps) lies as it lay. -/
structure KeepsW (B : Nat) (W W' : World) : Prop where
  size : W.heap.size ≤ W'.heap.size
  same : ∀ (k : Nat) (o : Obj), B ≤ k → W.heap[k]? = some o → o.isCells = false → o.isWalk = false → W'.heap[k]? = some o
theorem KeepsFrom.w {B : Nat} {W W' : World} (h : KeepsFrom B W W') : KeepsW B W W' := ⟨h.size, fun k o hB hk hc _ => h.same k o hB hk hc⟩
/-- What a round's body owes. -/
def rfPost {α : Type} (B : Nat) (Kp : World → World → Prop) (I : List α → World → Prop) (Ix : Code → List α → World → Prop) (xs : List α) (W : World) : Exit → Act → World → Prop
  | .normal, _, W' => KeepsW B W W' ∧ Kp W W' ∧ I xs W'
  | .ret, _, W' => KeepsW B W W' ∧ Kp W W' ∧ Ix .ret xs W'
  | .exit id, _, W' => KeepsW B W W' ∧ Kp W W' ∧ Ix (.exit id) xs W'
  | .goto t, _, W' => KeepsW B W W' ∧ Kp W W' ∧ Ix (.goto t) xs W'
  | .panic _, _, _ => False
  | .outgrown, _, _ => False
/-- The loop's two blocks of its own, the record in a state. -/
structure RfAt (B : Nat) (r : Loop) (W : World) : Prop where
  rec_ : W.heap[B + 1]? = some (.loop r)
  def_ : W.heap[B]? = some (.deferred (some []))
theorem RfAt.lt {B : Nat} {r : Loop} {W : World} (h : RfAt B r W) : B + 1 < W.heap.size := (Array.getElem?_eq_some_iff.1 h.rec_).1
theorem RfAt.keep {B : Nat} {r : Loop} {W W' : World} (h : RfAt B r W) (k : KeepsFrom B W W') : RfAt B r W' := ⟨k.same _ _ (by omega) h.rec_ rfl, k.same _ _ (Nat.le_refl _) h.def_ rfl⟩
theorem RfAt.keepW {B : Nat} {r : Loop} {W W' : World} (h : RfAt B r W) (k : KeepsW B W W') : RfAt B r W' := ⟨k.same _ _ (by omega) h.rec_ rfl rfl, k.same _ _ (Nat.le_refl _) h.def_ rfl rfl⟩
theorem RfAt.put {B : Nat} {r : Loop} {W : World} (h : RfAt B r W) (r' : Loop) : RfAt B r' (W.putObj (B + 1) (.loop r')) := ⟨World.putObj_heap_same h.lt, (World.putObj_heap_other (by omega)).trans h.def_⟩
theorem RfAt.grown {B C : Nat} {r : Loop} {W W' : World} {row : Option Nat} (h : RfAt B r W) (hg : W.grownBy W' row) (hr : ∀ k, row = some k → C ≤ k ∧ ∃ o : Obj, W.heap[k]? = some o ∧ o.isWalk = true) : RfAt B r W' :=
  ⟨(grownBy_keeps hg (fun k e => (hr k e).2) h.rec_ rfl).trans h.rec_, (grownBy_keeps hg (fun k e => (hr k e).2) h.def_ rfl).trans h.def_⟩
theorem rf_steady {α : Type} {B C : Nat} {I : List α → World → Prop} (h : OwnFrom B I) (hc : B ≤ C) {s : List α} {W W' : World} {row : Option Nat} (hs : I s W) (hg : W.grownBy W' row) (hr : ∀ k, row = some k → C ≤ k ∧ ∃ o : Obj, W.heap[k]? = some o ∧ o.isWalk = true) : I s W' :=
  h s W W' row hs hg fun k e => by
    obtain ⟨h1, o, h2, h3⟩ := hr k e
    exact ⟨by omega, o, h2, Obj.not_cells_of_walk h3⟩
/-- THE LAW. -/
theorem wpIn_rangeTells {F : Fence} {n : Nat} {P : Program} {α : Type} {g : Operand} {ps : Array Tmp} {assign body : Code} {Q : Exit → Act → World → Prop} {a : Act} {w : World}
    (hro : F.round = none) (h1 : 1 ≤ n) {gf : Nat} {lb : Array Value} (hg : a.eval g = .func (.func gf) #[] lb) (hFg : F.fn gf) (eg : ∀ args w, (callFunc gf args).run P w = .ok (.enter gf args) w)
    {encs : α → Array Value} {Kp : World → World → Prop} {Fact : List α → α → World → Prop} {Fin FinX : List α → World → Prop} (hseq : SeqTells F (n - 1) P gf lb encs Kp Fact Fin FinX w)
    (kt : ∀ {A B C : World}, Kp A B → Kp B C → Kp A C) (ka : ∀ o o' : Obj, Kp w ((w.alloc o).alloc o')) (kb : ∀ (W : World) (l : Nat) (o o' : Obj), w.heap.size ≤ l → W.heap[l]? = some o → o.isCells = false → Kp W (W.putObj l o')) (hps : ∀ x, (encs x).size = ps.size)
    (hFin : OwnFrom w.heap.size Fin) (hFinX : OwnFrom w.heap.size FinX)
    (I : List α → World → Prop) (Ix : Code → List α → World → Prop) (hI : OwnFrom w.heap.size I) (hIx : ∀ c, OwnFrom w.heap.size (Ix c)) (h0 : I [] w) (Ax : List α → α → Act → World → Prop) (hAx : ∀ pre x a', OwnFrom w.heap.size (fun (_ : Unit) W => Ax pre x a' W))
    (hassign : ∀ (l : Nat) (pre : List α) (x : α) (W : World) (K : Act → World → Prop), I pre W → Fact pre x W → (∀ a' W', KeepsFrom w.heap.size W W' → Kp W W' → I pre W' → Ax pre x a' W' → K a' W') →
      assign.wpIn (F.inRound l) (n - 1 - 1) P (Exit.then K (fun _ _ _ => False)) { tmps := (ps.zip (encs x)).foldl (fun t (p, v) => t.setIfInBounds p v) a.tmps, defers := [] } W)
    (hbody : ∀ (l : Nat) (pre : List α) (x : α) (a' : Act) (W : World), w.heap.size ≤ l → I pre W → Ax pre x a' W → body.wpIn (F.inRound l) (n - 1 - 1) P (rfPost w.heap.size Kp I Ix (pre ++ [x]) W) a' W)
    (hdone : ∀ (D : Nat) (xs : List α) (W : World), w.heap.size ≤ D → Fin xs W → I xs W → W.heap[D]? = some (.deferred (some [])) → Q .normal { a with defers := { target := .collected D, args := #[] } :: a.defers } W)
    (hstop : ∀ (D : Nat) (c : Code) (pre : List α) (W : World), w.heap.size ≤ D → FinX pre W → Ix c pre W → W.heap[D]? = some (.deferred (some [])) → c.wpIn F n P Q { a with defers := { target := .collected D, args := #[] } :: a.defers } W) :
    (Code.rangeFunc g ps assign body).wpIn F n P Q a w := by
  refine wpIn_rangeFunc ?_
  intro fn hfn
  rw [hro]
  obtain ⟨R, hR⟩ : ∃ R : LoopState → Option Code → Loop, R = fun st pe => { state := st, pending := pe, fn, tmps := a.tmps, params := ps, assign, body, defers := w.heap.size } := ⟨_, rfl⟩
  obtain ⟨V, hV⟩ : ∃ V, (w.alloc (.deferred (some []))).alloc (.loop (R .ready none)) = V := ⟨_, rfl⟩
  have sV : V.heap.size = w.heap.size + 1 + 1 := by rw [← hV]; simp
  have atV : RfAt w.heap.size (R .ready none) V := by
    rw [← hV]
    refine ⟨?_, (Below.heap_alloc _ _ _ (by simp)).trans (World.alloc_heap_new w _)⟩
    have := World.alloc_heap_new (w.alloc (.deferred (some []))) (.loop (R .ready none))
    rwa [World.size_alloc] at this
  have bV : Below w.heap.size w V := by rw [← hV]; exact ((Below.refl _ w).alloc (Nat.le_refl _) _).alloc (by simp) _
  have kV : Kp w V := by rw [← hV]; exact ka _ _
  have iV : I [] V := by rw [← hV]; exact hI.alloc _ (hI.alloc _ h0)
  refine ⟨w.heap.size + 1, [{ target := .collected w.heap.size, args := #[] }], V, { target := .fn (.func gf) lb, args := #[.func (.yield (w.heap.size + 1)) #[] #[]] }, V, gf,
    #[.func (.yield (w.heap.size + 1)) #[] #[]] ++ lb, V, ?_, ?_, ?_, ?_, fun _ => h1, ?_⟩
  · rw [← hV, hR]; exact run_enterLoop_outer _ _ _ _ _
  · simp only [resolve, hg]
    simp [go_sem]
  · intro f' hf'; simp [Target.leads] at hf'; subst hf'; exact hFg
  · simp [invoke, go_sem, eg]
  have hword := hseq (w.heap.size + 1) (fun pre W => I pre W ∧ RfAt w.heap.size (R .ready none) W) (fun pre W => ∃ c, Ix c pre W ∧ RfAt w.heap.size (R .done (some c)) W) V bV kV
    (fun s A B row hs hgr hr => ⟨rf_steady hI (by omega) hs.1 hgr hr, hs.2.grown hgr hr⟩)
    (fun s A B row hs hgr hr => by
      obtain ⟨c, hc, hl⟩ := hs
      exact ⟨c, rf_steady (hIx c) (by omega) hc hgr hr, hl.grown hgr hr⟩)
    (fun pre x W hJ hF => by
      obtain ⟨hi, hl⟩ := hJ
      have hy := run_yield (P := P) (args := encs x) hl.rec_ (by rw [hR]; exact hps x)
      rw [hR] at hy
      refine ⟨fn, _, assign, body, hy, roundIn_of_wpIn hfn (hassign _ pre x W _ hi hF ?_)⟩
      clear hy
      intro a' Wa keepA kpA hia hax
      have atA := hl.keep keepA
      refine ⟨_, run_beginRound atA.rec_ (by rw [hR]), ?_⟩
      have atB := atA.put { R .ready none with state := .busy }
      have kpB : Kp Wa (Wa.putObj (w.heap.size + 1) (.loop { R .ready none with state := .busy })) := kb _ _ _ _ (by omega) atA.rec_ rfl
      refine wpIn_mono (hbody _ pre x a' _ (by omega) (hI.putObj _ hia (by omega) atA.rec_ rfl) ((hAx pre x a').putObj (s := ()) _ hax (by omega) atA.rec_ rfl)) ?_
      have close : ∀ (jump : Option Code) (W3 : World), KeepsW w.heap.size (Wa.putObj (w.heap.size + 1) (.loop { R .ready none with state := .busy })) W3 →
          (Instr.endRound (w.heap.size + 1) jump).run P W3 = .ok (.bool jump.isNone) (W3.putObj (w.heap.size + 1) (.loop (R (if jump.isNone then .ready else .done) jump))) ∧ RfAt w.heap.size { R .ready none with state := .busy } W3 := fun jump W3 hk3 => by
        have at3 := atB.keepW hk3
        have := run_endRound (P := P) jump at3.rec_
        rw [hR] at this at3 ⊢
        exact ⟨this, at3⟩
      have leave : ∀ (c : Code) (W3 : World), KeepsW w.heap.size (Wa.putObj (w.heap.size + 1) (.loop { R .ready none with state := .busy })) W3 → Kp (Wa.putObj (w.heap.size + 1) (.loop { R .ready none with state := .busy })) W3 → Ix c (pre ++ [x]) W3 →
          ∃ W4, (Instr.endRound (w.heap.size + 1) (some c)).run P W3 = .ok (.bool false) W4 ∧ (Ix c (pre ++ [x]) W4 ∧ RfAt w.heap.size (R .done (some c)) W4) ∧ Kp W W4 := fun c W3 hk3 hp3 hi3 => by
        obtain ⟨hr, at3⟩ := close (some c) W3 hk3
        exact ⟨_, hr, ⟨(hIx c).putObj _ hi3 (by omega) at3.rec_ rfl, at3.put _⟩, kt kpA (kt (kt kpB hp3) (kb _ _ _ _ (by omega) at3.rec_ rfl))⟩
      rintro e a3 W3 hp
      cases e with
      | normal =>
        obtain ⟨hk3, hp3, hi3⟩ := hp
        obtain ⟨hr, at3⟩ := close none W3 hk3
        exact ⟨_, _, hr, .inl ⟨rfl, ⟨hI.putObj _ hi3 (by omega) at3.rec_ rfl, at3.put _⟩, kt kpA (kt (kt kpB hp3) (kb _ _ _ _ (by omega) at3.rec_ rfl))⟩⟩
      | ret =>
        obtain ⟨W4, hr, hi4, hk4⟩ := leave _ W3 hp.1 hp.2.1 hp.2.2
        exact ⟨_, _, hr, .inr ⟨rfl, ⟨_, hi4⟩, hk4⟩⟩
      | exit id =>
        obtain ⟨W4, hr, hi4, hk4⟩ := leave _ W3 hp.1 hp.2.1 hp.2.2
        exact ⟨_, _, hr, .inr ⟨rfl, ⟨_, hi4⟩, hk4⟩⟩
      | goto t =>
        obtain ⟨W4, hr, hi4, hk4⟩ := leave _ W3 hp.1 hp.2.1 hp.2.2
        exact ⟨_, _, hr, .inr ⟨rfl, ⟨_, hi4⟩, hk4⟩⟩
      | panic ch => exact hp.elim
      | outgrown => exact hp.elim)
    ⟨iV, atV⟩
  refine hword.mono ?_
  rintro e W2 ⟨⟨v, rfl⟩, (⟨xs, hS, hi, hl⟩ | ⟨pre, hS, c, hi, hl⟩)⟩
  · exact ⟨none, _, by have := run_endLoop (P := P) hl.rec_ (by rw [hR]; simp); rw [hR] at this; exact this, hdone _ xs _ (Nat.le_refl _) (hFin.putObj _ hS (by omega) hl.rec_ rfl) (hI.putObj _ hi (by omega) hl.rec_ rfl) ((World.putObj_heap_other (by omega)).trans hl.def_)⟩
  · exact ⟨some c, _, by have := run_endLoop (P := P) hl.rec_ (by rw [hR]; simp); rw [hR] at this; exact this, hstop _ c pre _ (Nat.le_refl _) (hFinX.putObj _ hS (by omega) hl.rec_ rfl) ((hIx c).putObj _ hi (by omega) hl.rec_ rfl) ((World.putObj_heap_other (by omega)).trans hl.def_)⟩
end Go.Proofs.YtcflepnckjappaaGreat

namespace Go.Proofs.YtcflepnckjappaaGreat
open Go.RowKit Go.Shelf
attribute [local go_sem] Oper.semAt_some

/-- An image that is handed over: where its bytes lie, the place behind it. -/
structure ImY where
  X : ImD
  g : Nat
  c : Nat
  nx : Nat
def yH (y : ImY) : ImH := ⟨y.X, y.g, y.c⟩
def yV (y : ImY) : Array Value := #[iv y.X.id y.X.gone (some ⟨y.g, 0, none⟩) y.X.xs.length y.c, .int .i64 (y.nx : Int)]
/-- What lay below a block stays, and all bytes and slices of bytes. -/
structure KpU (n0 : Nat) (W W' : World) : Prop where
  bel : Below n0 W W'
  keep : ∀ (k : Nat) (cur : Array Value) (t : TypeId) (fr : Nat × Nat), W.heap[k]? = some (Obj.cells cur t fr) → (t = 5 ∨ t = 22) → W'.heap[k]? = W.heap[k]?
theorem KpU.trans {n0 : Nat} {A B C : World} (h : KpU n0 A B) (k : KpU n0 B C) : KpU n0 A C :=
  ⟨h.bel.trans k.bel, fun i cur t fr hi ht => by
    have h1 := h.keep i cur t fr hi ht
    exact (k.keep i cur t fr (h1.trans hi) ht).trans h1⟩
theorem KpU.of_below {n0 : Nat} {A B : World} (h : Below A.heap.size A B) (hn : n0 ≤ A.heap.size) : KpU n0 A B :=
  ⟨h.mono hn, fun k _ _ _ hk _ => h.block k (Array.getElem?_eq_some_iff.1 hk).1⟩
theorem KpU.alloc {n0 : Nat} (W : World) (o : Obj) (hn : n0 ≤ W.heap.size) : KpU n0 W (W.alloc o) := KpU.of_below ((Below.refl _ _).alloc (Nat.le_refl _) _) hn
def endOf (ys : List ImY) : Nat := match ys.getLast? with
  | some y => y.nx
  | none => 0
theorem endOf_snoc (ys : List ImY) (y : ImY) : endOf (ys ++ [y]) = y.nx := by simp [endOf]
def YFact (n0 : Nat) (pre : List ImY) (y : ImY) (W : World) : Prop := Owns W n0 (.slice (some ⟨y.g, 0, none⟩) y.X.xs.length y.c) y.X.xs ∧ (∀ x ∈ pre, x.g ≠ y.g) ∧ pre.length ≤ 65536
/-- The same, and that they all stand there one behind the other. -/
def YFactS (xs : List Int) (n0 : Nat) (pre : List ImY) (y : ImY) (W : World) : Prop := YFact n0 pre y W ∧ Steps xs ((pre ++ [y]).map (·.X)) y.nx
theorem SeqTells.weak {α : Type} {F : Fence} {n : Nat} {P : Program} {g : Nat} {lb : Array Value} {encs : α → Array Value} {Kp : World → World → Prop} {Fact Fact' : List α → α → World → Prop} {Fin FinX : List α → World → Prop} {w : World} (h : SeqTells F n P g lb encs Kp Fact' Fin FinX w) (hf : ∀ pre x W, Fact' pre x W → Fact pre x W) : SeqTells F n P g lb encs Kp Fact Fin FinX w :=
  fun l J Jx W h1 h2 h3 h4 h5 h6 => h l J Jx W h1 h2 h3 h4 (fun pre x W1 hj hF => h5 pre x W1 hj (hf pre x W1 hF)) h6
def YFin (xs : List Int) (ys : List ImY) (_ : World) : Prop := Steps xs (ys.map (·.X)) (endOf ys) ∧ nextI xs (endOf ys) = none
def YFinX (xs : List Int) (ys : List ImY) (_ : World) : Prop := Steps xs (ys.map (·.X)) (endOf ys)
set_option maxRecDepth 100000 in
set_option maxHeartbeats 8000000 in
theorem images_tellsS (m n0 n1 hb : Nat) (a : Option Addr) (n c : Nat) (xs : List Int) (w0 w : World) (hn0 : n0 ≤ w.heap.size) (hn1 : n1 ≤ w.heap.size) (hbel : Below n0 w0 w) (hbox : w.heap[hb]? = some (.cells #[.slice a n c] 22 (0, 0)))
    (hR : ∀ u, Below n0 w0 u → Row u a n xs) (h8 : Bytes8 xs) (hn : n ≤ 65536) (hc : n ≤ c) (hc2 : c ≤ maxLen) (ha : a = none → c = 0) (hm : 1 ≤ m) :
    SeqTells Fence.wide m Tryz.prog 213 #[.pointer (some ⟨hb, 0, none⟩)] yV (KpU n0) (YFactS xs n1) (YFin xs) (YFinX xs) w := by
  intro l J Jx W hW kW hJ _ hY h0
  have IM := hide (fun (p : Nat) (u : World) (hp : p ≤ n) (hu : Below n0 w0 u) => imageAt_any a n c p xs u (hR u hu) h8 hp hn hc hc2 ha)
  have LN := hide (hR w hbel).1
  have YY := hide hY
  have HJ := hide (show ∀ pre u u', J pre u → Below u.heap.size u u' → J pre u' from fun pre u u' h hb => hJ pre u u' none h (rb_grownBy_below hb) (fun r e => by cases e))
  have B0 := hide (show Below n0 w0 W from hbel.trans (hW.mono hn0))
  have K0 := hide ((kW.keep hb _ _ _ hbox (.inr rfl)).trans hbox)
  have sz0 : w.heap.size ≤ W.heap.size := hW.size
  have hro : Fence.wide.round = none := rfl
  clear hW kW hJ hY hR h8 hbel hbox
  refine callsIn_of_wp Tryz.func213 rfl trivial ?_ hro
  simp only [Tryz.ntmps213, List.size_toArray, List.length_cons, List.length_nil, Nat.reduceAdd, Nat.reduceSub, Array.replicate_succ, Array.replicate_zero, List.push_toArray, List.append_toArray, List.nil_append, List.cons_append]
  gi_wp2
  gi_loopw [3] (fun i wr => ∃ (p : Nat) (pre : List ImY), i = .int .i64 (p : Int) ∧ p ≤ n ∧ Hid (p = endOf pre) ∧ Hid (Steps xs (pre.map (·.X)) p) ∧ J pre wr ∧ Hid (Below n0 w0 wr) ∧ Hid (wr.heap[hb]? = some (.cells #[.slice a n c] 22 (0, 0))) ∧ w.heap.size ≤ wr.heap.size ∧ Hid (∀ x ∈ pre, x.g < wr.heap.size)) (fun i _ => n - (intOf i).toNat)
  case atStart => exact ⟨0, [], rfl, Nat.zero_le _, hide rfl, Steps.start, h0, unhide B0, unhide K0, sz0, fun x hx => absurd hx List.not_mem_nil⟩
  case round =>
    clear h0 B0 K0 sz0
    obtain ⟨p, pre, rfl, hp, hpe, hS, hJs, hB, hK, hsz, hG⟩ := hrel
    have c0 : wr.cell? ⟨hb, 0, none⟩ = some (.slice a n c) := (heap_at (unhide hK) 0).1
    have hf1 : Fence.wide.fn 214 := trivial
    have LAY := hide (show ∀ (X : ImD) (g cp : Nat) (w2 : World), nextI xs p = some X → Owns w2 wr.heap.size (.slice (some ⟨g, 0, none⟩) X.xs.length cp) X.xs → Below wr.heap.size wr w2 →
        ∃ fn tmps assign body, (Instr.yield l #[.agg #[.int .i64 X.id, .bool X.gone, .slice (some ⟨g, 0, none⟩) X.xs.length cp], .int .i64 ((p : Int) + 9 + (X.xs.length : Int))]).run Tryz.prog (w2.alloc (.cells #[.int .i64 X.id, .bool X.gone, .slice (some ⟨g, 0, none⟩) X.xs.length cp] 72)) = .ok (.round l fn tmps assign body) (w2.alloc (.cells #[.int .i64 X.id, .bool X.gone, .slice (some ⟨g, 0, none⟩) X.xs.length cp] 72)) ∧
          RoundIn Fence.wide (m - 1) Tryz.prog l fn tmps assign body (w2.alloc (.cells #[.int .i64 X.id, .bool X.gone, .slice (some ⟨g, 0, none⟩) X.xs.length cp] 72)) fun e W' => (e = .returned (.bool true) ∧ J (pre ++ [⟨X, g, cp, p + 9 + X.xs.length⟩]) W' ∧ KpU n0 (w2.alloc (.cells #[.int .i64 X.id, .bool X.gone, .slice (some ⟨g, 0, none⟩) X.xs.length cp] 72)) W') ∨ (e = .returned (.bool false) ∧ Jx (pre ++ [⟨X, g, cp, p + 9 + X.xs.length⟩]) W' ∧ KpU n0 (w2.alloc (.cells #[.int .i64 X.id, .bool X.gone, .slice (some ⟨g, 0, none⟩) X.xs.length cp] 72)) W') from fun X g cp w2 hnx0 ho hb1 => by
      have bA : Below w2.heap.size w2 (w2.alloc (.cells #[.int .i64 X.id, .bool X.gone, .slice (some ⟨g, 0, none⟩) X.xs.length cp] 72)) := (Below.refl _ _).alloc (Nat.le_refl _) _
      have hy := unhide YY pre ⟨X, g, cp, p + 9 + X.xs.length⟩ (w2.alloc (.cells #[.int .i64 X.id, .bool X.gone, .slice (some ⟨g, 0, none⟩) X.xs.length cp] 72)) (unhide HJ _ _ _ hJs (hb1.trans (bA.mono hb1.size))) ⟨⟨sc_down (owns_below ho bA) (Nat.le_trans hn1 hsz), fun x hx e => by
        have h1 := unhide hG x hx
        have h2 := (ho.lt g rfl).1
        simp only at e
        omega, by
        have h1 := (unhide hS).le
        rw [List.length_map] at h1
        omega⟩, by rw [List.map_append]; exact Steps.more (unhide hS) hnx0⟩
      unfold yV iv at hy
      simp only at hy
      rw [show ((p + 9 + X.xs.length : Nat) : Int) = (p : Int) + 9 + (X.xs.length : Int) by omega] at hy
      exact hy)
    have PLE := hide (show ∀ X, nextI xs p = some X → p + 9 + X.xs.length ≤ n from fun X h => by have := (next_some h).2.2.2; rw [unhide LN] at this; exact this)
    clear YY
    gi_wp2_with fail
    refine (callsIn_wide.2 (unhide IM p wr hp (unhide hB))).mono ?_
    intro e w2 hv
    rcases hv with ⟨hnx, rfl, hb1⟩ | ⟨X, g, cp, hnx, rfl, ho, hb1⟩
    · have bA : Below w2.heap.size w2 (w2.alloc (.cells #[.int .i64 0, .bool false, .slice none 0 0] 72)) := (Below.refl _ _).alloc (Nat.le_refl _) _
      have FIN := hide (show YFin xs pre (w2.alloc (.cells #[.int .i64 0, .bool false, .slice none 0 0] 72)) ∧ J pre (w2.alloc (.cells #[.int .i64 0, .bool false, .slice none 0 0] 72)) from ⟨⟨by rw [← unhide hpe]; exact unhide hS, by rw [← unhide hpe]; exact hnx⟩, unhide HJ _ _ _ hJs (hb1.trans (bA.mono hb1.size))⟩)
      unfold iv
      clear LAY bA
      gi_wp2
      refine ⟨fun _ h => (by cases h), ?_⟩
      gi_wp2
      refine bodyPost_ret (results_none rfl _ _ _) rfl ?_
      exact ⟨⟨_, rfl⟩, .inl ⟨pre, (unhide FIN).1, (unhide FIN).2⟩⟩
    · obtain ⟨fn, tmps, assign, body, hy, hRd⟩ := unhide LAY X g cp w2 hnx ho hb1
      have hxb := heap_alloc_new w2 (.cells #[.int .i64 X.id, .bool X.gone, .slice (some ⟨g, 0, none⟩) X.xs.length cp] 72)
      have x0 : (w2.alloc (.cells #[.int .i64 X.id, .bool X.gone, .slice (some ⟨g, 0, none⟩) X.xs.length cp] 72)).cell? ⟨w2.heap.size, 0, none⟩ = some (.int .i64 X.id) := (heap_at hxb 0).1
      have x1 : (w2.alloc (.cells #[.int .i64 X.id, .bool X.gone, .slice (some ⟨g, 0, none⟩) X.xs.length cp] 72)).cell? ⟨w2.heap.size, 1, none⟩ = some (.bool X.gone) := (heap_at hxb 1).1
      have x2 : (w2.alloc (.cells #[.int .i64 X.id, .bool X.gone, .slice (some ⟨g, 0, none⟩) X.xs.length cp] 72)).cell? ⟨w2.heap.size, 2, none⟩ = some (.slice (some ⟨g, 0, none⟩) X.xs.length cp) := (heap_at hxb 2).1
      have hpl := unhide PLE X hnx
      have bA : Below w2.heap.size w2 (w2.alloc (.cells #[.int .i64 X.id, .bool X.gone, .slice (some ⟨g, 0, none⟩) X.xs.length cp] 72)) := (Below.refl _ _).alloc (Nat.le_refl _) _
      have BN := hide (hb1.trans (bA.mono hb1.size))
      have ST := hide (show Steps xs ((pre ++ [(⟨X, g, cp, p + 9 + X.xs.length⟩ : ImY)]).map (fun y : ImY => y.X)) (p + 9 + X.xs.length) by rw [List.map_append]; exact Steps.more (unhide hS) hnx)
      have GN : g < (w2.alloc (.cells #[.int .i64 X.id, .bool X.gone, .slice (some ⟨g, 0, none⟩) X.xs.length cp] 72)).heap.size := Nat.lt_of_lt_of_le (ho.lt g rfl).2 bA.size
      clear hxb LAY PLE bA ho hb1
      unfold iv
      gi_wp2
      refine hRd.mono ?_
      rintro e W3 (⟨rfl, hJ3, hk3⟩ | ⟨rfl, hJx3, hk3⟩)
      · have KN := hide ((hk3.keep hb _ _ _ (((unhide BN).block hb (Array.getElem?_eq_some_iff.1 (unhide hK)).1).trans (unhide hK)) (.inr rfl)).trans (((unhide BN).block hb (Array.getElem?_eq_some_iff.1 (unhide hK)).1).trans (unhide hK)))
        have BB := hide ((unhide hB).trans (((unhide BN).mono (Nat.le_trans hn0 hsz)).trans hk3.bel))
        have s3 := hk3.bel.size
        have sBN := (unhide BN).size
        have GG := hide (show ∀ x ∈ pre ++ [(⟨X, g, cp, p + 9 + X.xs.length⟩ : ImY)], x.g < W3.heap.size from fun x hx => by
          rcases List.mem_append.1 hx with hx | hx
          · have := unhide hG x hx
            omega
          · obtain rfl := List.mem_singleton.1 hx
            exact Nat.lt_of_lt_of_le GN s3)
        clear hRd hy hk3 BN x0 x1 x2 hK hB hG hS
        gi_wp2
        go_roundw
        case rel => exact ⟨p + 9 + X.xs.length, pre ++ [(⟨X, g, cp, p + 9 + X.xs.length⟩ : ImY)], by first | rfl | go_num, hpl, hide (endOf_snoc pre (⟨X, g, cp, p + 9 + X.xs.length⟩ : ImY)).symm, ST, hJ3, BB, KN, by omega, GG⟩
        case measure => simp [intOf]; omega
      · clear hRd hy x0 x1 x2
        gi_wp2
        refine bodyPost_ret (results_none rfl _ _ _) rfl ?_
        exact ⟨⟨_, rfl⟩, .inr ⟨_, by unfold YFinX; rw [endOf_snoc]; exact unhide ST, hJx3⟩⟩
end Go.Proofs.YtcflepnckjappaaGreat

namespace Go.Proofs.YtcflepnckjappaaGreat
open Go.RowKit

def mkH (k : Nat) (h : ImH) : ImH := ⟨⟨(k : Int), decide ((k + 1) % 3 = 0), marks ((k + 2 : Nat) : Int) h.X.xs.length⟩, h.g, h.c⟩
/-- Header cells of an image set anew. -/
theorem gcs_set2 (ds : List ImR) (i : Nat) (hi : i < ds.length) (id : Int) (g : Bool) : ((gcs ds).set (i * 3) (.int .i64 id)).set (i * 3 + 1) (.bool g) = gcs (ds.set i ⟨id, g, ds[i].d⟩) := by
  rw [gcs_set]
  simp only
  symm
  apply List.ext_getElem?
  intro m
  by_cases e : m = i * 3 + 2
  · subst e
    rw [List.getElem?_set_self (by simp [gcs_len]; omega), List.getElem?_set_ne (by omega), List.getElem?_set_ne (by omega)]
    exact (gcs_at ds i hi).2.2.symm
  · rw [List.getElem?_set_ne (by omega)]
/-- One image marked: its header, its bytes. -/
theorem IOwn.mark {w w1 w2 : World} {B g n c : Nat} {hs : List ImH} (h : IOwn w B (.slice (some ⟨g, 0, none⟩) n c) hs) {j k : Nat} (hj : j < hs.length) (he : w1 = (w.setCell ⟨g, j * 3, none⟩ (.int .i64 (k : Int))).setCell ⟨g, j * 3 + 1, none⟩ (.bool (decide ((k + 1) % 3 = 0))))
    (hm : Row w2 (some ⟨hs[j].g, 0, none⟩) hs[j].X.xs.length (marks ((k + 2 : Nat) : Int) hs[j].X.xs.length)) (ht : Touch (some ⟨hs[j].g, 0, none⟩) w1 w2) :
    IOwn w2 B (.slice (some ⟨g, 0, none⟩) n c) (hs.set j (mkH k hs[j])) ∧ WrB (fun i => i = g ∨ i = hs[j].g) w w2 := by
  have hn : n = (hs.map hr).length := (grow_of_owns h.row).1.symm
  have hgl : g < w.heap.size := (h.row.lt g rfl).2
  have hne : ∀ i (hi : i < hs.length), hs[i].g ≠ g := fun i hi e => h.off i hi (by rw [e]; rfl)
  have only1 : Only g w w1 := by rw [he]; exact (Only.setCell _ _ _ _).trans (Only.setCell _ _ _ _)
  have sz2 : w2.heap.size = w.heap.size := by rw [ht.size, only1.size]
  have keep2 : ∀ i, i ≠ hs[j].g → w2.heap[i]? = w1.heap[i]? := fun i hi => by
    rcases ht with rfl | ⟨x, hx, ho⟩
    · rfl
    · cases hx
      exact ho.block i hi
  have r1 : GOwns w1 B (.slice (some ⟨g, 0, none⟩) n c) ((hs.map hr).set j ⟨(k : Int), decide ((k + 1) % 3 = 0), (hr hs[j]).d⟩) := by
    have hr0 : w.ownsRow B 72 3 (.slice (some ⟨g, 0, none⟩) n c) n (gcs (hs.map hr)) := by have := h.row; unfold GOwns at this; rwa [← hn] at this
    obtain ⟨o1, _⟩ := World.ownsRow.stored hr0 (j * 3) (.int .i64 (k : Int))
    obtain ⟨o2, _⟩ := World.ownsRow.stored o1 (j * 3 + 1) (.bool (decide ((k + 1) % 3 = 0)))
    rw [gcs_set2 _ j (by simpa using hj), ← he] at o2
    unfold GOwns
    rw [List.length_set, ← hn]
    simpa using o2
  refine ⟨⟨?_, fun i hi => ?_, fun i i' hi hi' hii => ?_, fun i hi => ?_⟩, ⟨?_, ?_, ?_, Nat.le_of_eq sz2.symm, fun i hi hp => ?_⟩⟩
  · have e : (hs.set j (mkH k hs[j])).map hr = (hs.map hr).set j ⟨(k : Int), decide ((k + 1) % 3 = 0), (hr hs[j]).d⟩ := by
      rw [List.map_set]
      congr 1
      unfold hr mkH
      simp only [marks_length]
    rw [e]
    exact ownsRow_heap r1 (fun i hi => by
      have : i = g := by simpa [Value.ownBlock] using hi.symm
      subst this
      exact keep2 _ (fun e => hne j hj e.symm))
  · have hi' : i < hs.length := by simpa using hi
    by_cases e : i = j
    · subst e
      rw [List.getElem_set_self]
      unfold hDat mkH
      simp only [marks_length]
      refine ⟨hm, fun x hx => ?_⟩
      cases hx
      obtain ⟨p1, p2, p3⟩ := (h.dat i hi').own _ rfl
      refine ⟨p1, by rw [sz2]; exact p2, fun q => ?_⟩
      rcases ht with rfl | ⟨y, _, ho⟩
      · exact (only1.frozen _).trans (p3 q)
      · exact (ho.frozen _).trans ((only1.frozen _).trans (p3 q))
    · rw [List.getElem_set_ne (fun e' => e e'.symm)]
      exact (h.dat i hi').of_blocks (Nat.le_of_eq sz2.symm) (fun x hx => by
        cases hx
        exact (keep2 _ (h.far i j hi' hj e)).trans (only1.block _ (hne i hi')))
  · have gg : ∀ q (hq : q < (hs.set j (mkH k hs[j])).length), (hs.set j (mkH k hs[j]))[q].g = (hs[q]'(by simpa using hq)).g := fun q hq => by
      by_cases e : q = j
      · subst e; rw [List.getElem_set_self]; rfl
      · rw [List.getElem_set_ne (fun e' => e e'.symm)]
    rw [gg, gg]
    exact h.far i i' (by simpa using hi) (by simpa using hi') hii
  · have gg : (hs.set j (mkH k hs[j]))[i].g = (hs[i]'(by simpa using hi)).g := by
      by_cases e : i = j
      · subst e; rw [List.getElem_set_self]; rfl
      · rw [List.getElem_set_ne (fun e' => e e'.symm)]
    rw [gg]
    exact h.off i (by simpa using hi)
  · rcases ht with rfl | ⟨y, _, ho⟩
    · exact only1.os
    · exact ho.os.trans only1.os
  · rcases ht with rfl | ⟨y, _, ho⟩
    · exact only1.tape
    · exact ho.tape.trans only1.tape
  · rcases ht with rfl | ⟨y, _, ho⟩
    · exact only1.output
    · exact ho.output.trans only1.output
  · exact (keep2 i (fun e => hp (.inr e))).trans (only1.block i (fun e => hp (.inl e)))
end Go.Proofs.YtcflepnckjappaaGreat

namespace Go.Proofs.YtcflepnckjappaaGreat
open Go.RowKit Go.Shelf
attribute [local go_sem] Oper.semAt_some

theorem sc_wpAppIn {F : Fence} {n : Nat} {P : Program} {ops : Array Oper} {rest : List Oper} {o : Oper} {a : Act} {w : World} {Q : Exit → Act → World → Prop}
    (hg : o.guard = none) (s x : Operand) (t : TypeId) (hop : o.op = Op.call { callee := Callee.builtin Builtin.append, args := #[s, x], argTypes := #[t, t] })
    (vs vx v' : Value) (w' : World) (hs : a.eval s = vs) (hx : a.eval x = vx) (hrun : (Builtin.append_ #[t, t] o.type #[vs, vx]).run P w = .ok v' w') (h : wpListIn F n P ops Q rest (a.put o.dst v') w') :
    wpListIn F n P ops Q (o :: rest) a w := by
  refine wpListIn_plain hg fun K hK => ?_
  unfold Oper.wpIn
  refine ⟨by simp [Oper.about, hop, resolve, Target.leads, Sem.run_pure], ?_⟩
  rw [Oper.semAt_plain F _ _ (by rw [hop]; intro c hc; cases hc)]
  simp [execOp, hop, resolve, invoke, builtin, hs, hx, hrun, Result.andThen]
  exact hK _ _ h
set_option maxHeartbeats 1000000 in
theorem standingImages_any (a : Option Addr) (n c : Nat) (w : World) :
    Calls Tryz.prog 135 #[.slice a n c] w fun e w' => e = .returned (.func (.func 213) #[] #[.pointer (some ⟨w.heap.size, 0, none⟩)]) ∧ w' = w.alloc (.cells #[.slice a n c] 22) := by
  have hmf : ∀ (fn : Fn) (first cap : Array Value) (w : World), (Instr.makeFunc fn first cap).run Tryz.prog w = .ok (.func fn first cap) w := fun _ _ _ _ => rfl
  go_enter Tryz.func135, Tryz.ntmps135
  go_wp2_with fail
  go_ret
  exact ⟨rfl, rfl⟩
/-- Cells stay where what is written is none. -/
theorem rf_cells {A B : World} {row : Option Nat} {k : Nat} {cur : Array Value} {t : TypeId} {fr : Nat × Nat} (hg : A.grownBy B row) (hr : ∀ r, row = some r → ∃ o : Obj, A.heap[r]? = some o ∧ o.isCells = false) (h : A.heap[k]? = some (.cells cur t fr)) : B.heap[k]? = A.heap[k]? :=
  hg.block k (Array.getElem?_eq_some_iff.1 h).1 (fun e => by
    obtain ⟨o, ho, hc⟩ := hr k e.symm
    rw [h] at ho
    cases ho
    cases hc)
theorem IOwn.rf {A B : World} {b : Nat} {v : Value} {hs : List ImH} (h : IOwn A b v hs) (hk : ∀ (k : Nat) (cur : Array Value) (t : TypeId) (fr : Nat × Nat), A.heap[k]? = some (Obj.cells cur t fr) → B.heap[k]? = A.heap[k]?) (hsz : A.heap.size ≤ B.heap.size) (hd : ∀ i (hi : i < hs.length), ∃ cur t fr, A.heap[hs[i].g]? = some (Obj.cells cur t fr)) : IOwn B b v hs :=
  ⟨ownsRow_heap h.row (fun g hg => by
    rcases h.row.2 with ⟨e, _⟩ | ⟨g', cap, cur, e, _, hh, _⟩
    · subst e; cases hg
    · subst e
      obtain rfl : g' = g := by simpa [Value.ownBlock] using hg
      exact hk _ _ _ _ hh), fun i hi => (h.dat i hi).of_blocks hsz (fun x hx => by
        cases hx
        obtain ⟨cur, t, fr, hh⟩ := hd i hi
        exact hk _ _ _ _ hh), h.far, h.off⟩
theorem kpu_put {n0 : Nat} {W : World} {l : Nat} {o o' : Obj} (hl : n0 ≤ l) (h : W.heap[l]? = some o) (hc : o.isCells = false) : KpU n0 W (W.putObj l o') :=
  ⟨⟨rfl, rfl, rfl, by simp [World.putObj], fun k hk => World.putObj_heap_other (by omega)⟩, fun k cur t fr hk _ => World.putObj_heap_other (fun e => by
    subst e
    rw [h] at hk
    cases hk
    cases hc)⟩
theorem im_knd {w : World} {B : Nat} {v : Value} {rs : List ImR} {k : Nat} (h : GOwns w B v rs) (hk : v.ownBlock = some k) : ∃ cur, w.heap[k]? = some (Obj.cells cur 72 (0, 0)) := by
  rcases h.2 with ⟨e, _⟩ | ⟨g', cap, cur, e, _, hh, _⟩
  · subst e; cases hk
  · subst e
    obtain rfl : g' = k := by simpa [Value.ownBlock] using hk
    exact ⟨cur, hh⟩
theorem by_knd {w : World} {B g n c : Nat} {xs : List Int} (h : Owns w B (.slice (some ⟨g, 0, none⟩) n c) xs) : ∃ cur, w.heap[g]? = some (Obj.cells cur 5 (0, 0)) := by
  rcases h.2 with ⟨e, _⟩ | ⟨g', cap, cur, e, _, hh, _⟩
  · cases e
  · injection e with e1 _ _
    injection e1 with e1
    injection e1 with e1
    subst e1
    exact ⟨cur, hh⟩
end Go.Proofs.YtcflepnckjappaaGreat

namespace Go.Proofs.YtcflepnckjappaaGreat
open Go.RowKit Go.Shelf

theorem IOwn.stay {A B : World} {b : Nat} {v : Value} {hs : List ImH} (h : IOwn A b v hs) (hrow : ∀ g, v.ownBlock = some g → B.heap[g]? = A.heap[g]?) (hdat : ∀ x ∈ hs, B.heap[x.g]? = A.heap[x.g]?) (hsz : A.heap.size ≤ B.heap.size) : IOwn B b v hs :=
  ⟨ownsRow_heap h.row hrow, fun i hi => (h.dat i hi).of_blocks hsz (fun x hx => by
    cases hx
    exact hdat _ (List.getElem_mem hi)), h.far, h.off⟩
theorem LgAt.dn {w : World} {B C lb m N : Nat} {h : ByteArray → Value} {f s : Sl} {hs : List SeH} {d : VsD} (q : LgAt w B lb m N h f s hs d) (hc : C ≤ B) : LgAt w C lb m N h f s hs d :=
  ⟨q.box, q.his, q.vz.dn hc, q.far, Nat.le_trans hc q.mge, Nat.le_trans hc q.lge⟩
theorem lgw_keep {B m : Nat} {W W' : World} (h : LgW B m W W') {k : Nat} {cur : Array Value} {t : TypeId} {fr : Nat × Nat} (hk : W.heap[k]? = some (.cells cur t fr)) (ht : t ≠ 51 ∧ t ≠ 232 ∧ t ≠ 212 ∧ t ≠ 223) : W'.heap[k]? = W.heap[k]? := by
  refine h.block k (Array.getElem?_eq_some_iff.1 hk).1 (fun hp => ?_)
  rcases hp.2 with ⟨_, es, c, e⟩ | ⟨cs', t', fr', e, ht'⟩
  · rw [hk] at e; cases e
  · rw [hk] at e
    injection e with e
    injection e with _ e _
    subst e
    rcases ht' with e | e | e | e
    · exact ht.1 e
    · exact ht.2.1 e
    · exact ht.2.2.1 e
    · exact ht.2.2.2 e
theorem lgw_kpu {n0 B m : Nat} {W W' : World} (h : LgW B m W W') (hB : n0 ≤ B) (hs : B ≤ W.heap.size) : KpU n0 W W' :=
  ⟨(h.below hs).mono hB, fun k cur t fr hk ht => lgw_keep h hk (by rcases ht with rfl | rfl <;> decide)⟩
theorem lgw_keepsW {B m C : Nat} {W W' : World} (h : LgW B m W W') (hm : m < C) : KeepsW C W W' :=
  ⟨h.size, fun k o hk ho hc _ => by
    refine (h.block k (Array.getElem?_eq_some_iff.1 ho).1 (fun hp => ?_)).trans ho
    rcases hp.2 with ⟨e, _⟩ | ⟨cs', t', fr', e, _⟩
    · omega
    · rw [ho] at e
      cases e
      cases hc⟩
theorem KeepsW.of_below {C : Nat} {W W' : World} (h : Below W.heap.size W W') : KeepsW C W W' := ⟨h.size, fun k _ _ ho _ _ => (h.block k (Array.getElem?_eq_some_iff.1 ho).1).trans ho⟩
theorem KeepsW.trans {B : Nat} {X Y Z : World} (h : KeepsW B X Y) (k : KeepsW B Y Z) : KeepsW B X Z := ⟨Nat.le_trans h.size k.size, fun i o hB hi ho hw => k.same i o hB (h.same i o hB hi ho hw) ho hw⟩
/-- What is kept between two rounds. -/
structure ReI_ (w : World) (B lb m z : Nat) (f s : Sl) (hs : List SeH) (pre : List ImY) (made : List ImD) (W : World) (N : Nat) (h : ByteArray → Value) (v : Value) : Prop where
  lp : W.heap[z]? = some (.cells #[.pointer (some ⟨lb, 0, none⟩)] 120 (0, 0))
  mp : W.heap[z + 1]? = some (.cells #[v] 74 (0, 0))
  lg : LgAt W B lb m N h f s hs (reD made)
  own : IOwn W (z + 2) v (pre.map yH)
  knd : ∀ y ∈ pre, ∃ cur fr, W.heap[y.g]? = some (Obj.cells cur 5 fr)
  bel : Below w.heap.size w W
  siz : z + 3 ≤ W.heap.size
  mz : m < z
  wB : w.heap.size ≤ B
  Bz : B ≤ z
def ReI (w : World) (B lb m z : Nat) (f s : Sl) (hs : List SeH) (pre : List ImY) (W : World) : Prop := ∃ N h v, ReI_ w B lb m z f s hs pre (pre.map (·.X)) W N h v ∧ N ≤ 4096 + 8 * pre.length ∧ Made (pre.map (·.X))
/-- The same where other blocks change. -/
theorem ReI_.step {w : World} {B lb m z N : Nat} {f s : Sl} {hs : List SeH} {pre : List ImY} {made : List ImD} {A C : World} {h : ByteArray → Value} {v : Value} (q : ReI_ w B lb m z f s hs pre made A N h v) {P : Nat → Prop} (hw : WrB P A C) (hz : ∀ i, P i → z + 3 ≤ i) (hp : ∀ i, P i → ∀ cur t fr, A.heap[i]? ≠ some (.cells cur t fr)) : ReI_ w B lb m z f s hs pre made C N h v := by
  have kc : ∀ {k cur t fr}, A.heap[k]? = some (Obj.cells cur t fr) → C.heap[k]? = A.heap[k]? := fun {k cur t fr} hk => hw.block k (Array.getElem?_eq_some_iff.1 hk).1 (fun h => hp k h _ _ _ hk)
  have s1 := q.mz
  have s2 := q.Bz
  have s3 := q.wB
  have s4 := q.siz
  refine ⟨(kc q.lp).trans q.lp, (kc q.mp).trans q.mp, q.lg.wr hw (fun i hi hl => ?_), q.own.stay (fun g hg => ?_) (fun x hx => ?_) hw.size, fun y hy => ?_, q.bel.trans (WrB.below hw (fun i hi => by have := hz i hi; omega) (by omega)), Nat.le_trans s4 hw.size, s1, s3, s2⟩
  · rcases hl with ⟨e, _⟩ | ⟨cs', t', fr', e, _⟩
    · have := hz i hi; omega
    · exact hp i hi _ _ _ e
  · obtain ⟨cur, hk⟩ := im_knd q.own.row hg
    exact kc hk
  · obtain ⟨y, hy, rfl⟩ := List.mem_map.1 hx
    obtain ⟨cur, fr, hk⟩ := q.knd y hy
    exact kc hk
  · obtain ⟨cur, fr, hk⟩ := q.knd y hy
    exact ⟨cur, fr, (kc hk).trans hk⟩
theorem ReI_.below {w : World} {B lb m z N : Nat} {f s : Sl} {hs : List SeH} {pre : List ImY} {made : List ImD} {A C : World} {h : ByteArray → Value} {v : Value} (q : ReI_ w B lb m z f s hs pre made A N h v) (hb : Below A.heap.size A C) : ReI_ w B lb m z f s hs pre made C N h v :=
  q.step (P := fun _ => False) (WrB.of_below hb) (fun _ h => h.elim) (fun _ h => h.elim)
theorem rei_grown {w : World} {B lb m z : Nat} {f s : Sl} {hs : List SeH} {pre : List ImY} {A C : World} {row : Option Nat} (q : ReI w B lb m z f s hs pre A) (hg : A.grownBy C row) (hr : ∀ r, row = some r → z + 3 ≤ r ∧ ∃ o : Obj, A.heap[r]? = some o ∧ o.isCells = false) : ReI w B lb m z f s hs pre C := by
  obtain ⟨N, h, v, q, hN, hM⟩ := q
  refine ⟨N, h, v, q.step (WrB.of_grown hg) (fun i e => (hr i e).1) (fun i e cur t fr hk => ?_), hN, hM⟩
  obtain ⟨_, o, ho, hc⟩ := hr i e
  rw [hk] at ho
  cases ho
  cases hc
theorem rei_own (w : World) (B lb m z : Nat) (f s : Sl) (hs : List SeH) (D : Nat) (hD : z + 3 ≤ D) : OwnFrom D (ReI w B lb m z f s hs) := fun _ _ _ _ q hg hr => rei_grown q hg (fun r e => ⟨Nat.le_trans hD (hr r e).1, (hr r e).2⟩)
/-- A ledger changes. -/
theorem ReI_.led {w : World} {B lb m z N N' : Nat} {f s : Sl} {hs : List SeH} {pre : List ImY} {made made' : List ImD} {A C : World} {h h' : ByteArray → Value} {v : Value} (q : ReI_ w B lb m z f s hs pre made A N h v) (hw : LgW B m A C) (hl : LgAt C B lb m N' h' f s hs (reD made')) : ReI_ w B lb m z f s hs pre made' C N' h' v := by
  have s1 := q.mz
  have s2 := q.Bz
  have s3 := q.wB
  have s4 := q.siz
  refine ⟨hw.box q.lp (by decide), hw.box q.mp (by decide), hl, q.own.stay (fun g hg => ?_) (fun x hx => ?_) hw.size, fun y hy => ?_, q.bel.trans ((hw.below (by omega)).mono s3), Nat.le_trans s4 hw.size, s1, s3, s2⟩
  · obtain ⟨cur, hk⟩ := im_knd q.own.row hg
    exact lgw_keep hw hk (by decide)
  · obtain ⟨y, hy, rfl⟩ := List.mem_map.1 hx
    obtain ⟨cur, fr, hk⟩ := q.knd y hy
    exact lgw_keep hw hk (by decide)
  · obtain ⟨cur, fr, hk⟩ := q.knd y hy
    exact ⟨cur, fr, (lgw_keep hw hk (by decide)).trans hk⟩
/-- An image put behind the others. -/
theorem ReI_.push {w W w' : World} {B lb m z N : Nat} {f s : Sl} {hs : List SeH} {pre : List ImY} {made : List ImD} {y : ImY} {h : ByteArray → Value} {v v' : Value} (q : ReI_ w B lb m z f s hs pre made W N h v) (ho : Owns W (z + 2) (.slice (some ⟨y.g, 0, none⟩) y.X.xs.length y.c) y.X.xs) (ho' : IOwn w' (z + 2) v' (pre.map yH ++ [yH y])) (hg : (W.alloc (.cells #[.int .i64 y.X.id, .bool y.X.gone, .slice (some ⟨y.g, 0, none⟩) y.X.xs.length y.c] 72)).grownBy w' v.ownBlock) :
    (w'.heap[z + 1]? = some (.cells #[v] 74 (0, 0))) ∧
    ReI_ w B lb m z f s hs (pre ++ [y]) made (w'.setCell ⟨z + 1, 0, none⟩ v') N h v' ∧ KeepsW (z + 3) W (w'.setCell ⟨z + 1, 0, none⟩ v') ∧ KpU w.heap.size W (w'.setCell ⟨z + 1, 0, none⟩ v') := by
  have bA : Below W.heap.size W (W.alloc (.cells #[.int .i64 y.X.id, .bool y.X.gone, .slice (some ⟨y.g, 0, none⟩) y.X.xs.length y.c] 72)) := (Below.refl _ _).alloc (Nat.le_refl _) _
  have s1 := q.mz
  have s2 := q.Bz
  have s3 := q.wB
  have s4 := q.siz
  have vge : ∀ k, v.ownBlock = some k → z + 2 ≤ k := fun k hk => (q.own.row.lt k hk).1
  have hw1 : WrB (fun i => v.ownBlock = some i ∨ i = z + 1) W w' := (WrB.of_below bA).seq ((WrB.of_grown hg).weak fun i e => .inl e)
  have l1 : w'.heap[z + 1]? = some (.cells #[v] 74 (0, 0)) := (hg.block _ (Nat.lt_of_lt_of_le (show z + 1 < W.heap.size by omega) bA.size) (fun e => by have := vge _ e.symm; omega)).trans ((bA.block _ (by omega)).trans q.mp)
  obtain ⟨V, hV⟩ : ∃ V, V = w'.setCell ⟨z + 1, 0, none⟩ v' := ⟨_, rfl⟩
  have hw2 : WrB (fun i => v.ownBlock = some i ∨ i = z + 1) w' V := by rw [hV]; exact (set1_wr w' (z + 1) 0 v').weak fun i e => .inr e
  have hw := hw1.seq hw2
  have kc : ∀ {k cur t fr}, W.heap[k]? = some (Obj.cells cur t fr) → t ≠ 72 → k ≠ z + 1 → V.heap[k]? = W.heap[k]? := fun {k cur t fr} hk ht hne => hw.block k (Array.getElem?_eq_some_iff.1 hk).1 (fun hp => by
    rcases hp with hp | hp
    · obtain ⟨cur', hk'⟩ := im_knd q.own.row hp
      rw [hk] at hk'
      injection hk' with e
      injection e with _ e _
      exact ht e
    · exact hne hp)
  have nc : ∀ i, (v.ownBlock = some i ∨ i = z + 1) → ∃ cur t, W.heap[i]? = some (Obj.cells cur t (0, 0)) ∧ (t = 72 ∨ t = 74) := fun i hp => by
    rcases hp with hp | rfl
    · obtain ⟨cur', hk'⟩ := im_knd q.own.row hp
      exact ⟨_, _, hk', .inl rfl⟩
    · exact ⟨_, _, q.mp, .inr rfl⟩
  refine ⟨l1, ?_⟩
  rw [← hV]
  have hge : ∀ i, (v.ownBlock = some i ∨ i = z + 1) → w.heap.size ≤ i := fun i hp => by
    rcases hp with hp | hp
    · have := vge i hp; omega
    · omega
  have hbw : Below w.heap.size W V := WrB.below hw hge (by omega)
  refine ⟨⟨?_, ?_, ?_, ?_, fun x hx => ?_, q.bel.trans hbw, Nat.le_trans s4 hw.size, s1, s3, s2⟩, ⟨hw.size, fun k o hk ho hc _ => ?_⟩, ⟨hbw, fun k cur t fr hk ht => ?_⟩⟩
  · exact (kc q.lp (by decide) (by omega)).trans q.lp
  · rw [hV]; exact heap_set l1 0 v'
  · refine q.lg.wr hw (fun i hp hl => ?_)
    obtain ⟨cur, t, hk, ht⟩ := nc i hp
    rcases hl with ⟨_, es, c, e⟩ | ⟨cs', t', fr', e, ht'⟩
    · rw [hk] at e; cases e
    · rw [hk] at e
      injection e with e
      injection e with _ e _
      subst e
      rcases ht with rfl | rfl <;> rcases ht' with e | e | e | e <;> exact absurd e (by decide)
  · rw [List.map_append]
    have hne : ∀ i, i ≠ z + 1 → V.heap[i]? = w'.heap[i]? := fun i hi => by rw [hV]; exact Below.heap_setCell _ _ _ _ hi
    refine ho'.stay (fun g hg' => hne g (by have := (ho'.row.lt g hg').1; omega)) (fun x hx => hne _ ?_) (by rw [hV]; simp [World.setCell])
    obtain ⟨i, hi, rfl⟩ := List.getElem_of_mem hx
    have := (hDat.lt (ho'.dat i hi)).1
    omega
  · rcases List.mem_append.1 hx with hx | hx
    · obtain ⟨cur, fr, hk⟩ := q.knd x hx
      refine ⟨cur, fr, (kc hk (by decide) (fun e => ?_)).trans hk⟩
      rw [e, q.mp] at hk
      injection hk with hk
      injection hk with _ hk _
      exact absurd hk (by decide)
    · obtain rfl := List.mem_singleton.1 hx
      obtain ⟨cur, hk⟩ := by_knd ho
      refine ⟨cur, _, (kc hk (by decide) (fun e => ?_)).trans hk⟩
      rw [e, q.mp] at hk
      injection hk with hk
      injection hk with _ hk _
      exact absurd hk (by decide)
  · refine (hw.block k (Array.getElem?_eq_some_iff.1 ho).1 (fun hp => ?_)).trans ho
    obtain ⟨cur, t, hk', _⟩ := nc k hp
    rw [ho] at hk'
    cases hk'
    cases hc
  · refine kc hk (by rcases ht with rfl | rfl <;> decide) (fun e => ?_)
    rw [e, q.mp] at hk
    injection hk with hk
    injection hk with _ hk _
    subst hk
    rcases ht with ht | ht <;> exact absurd ht (by decide)
/-- What recovered gives. -/
def RvcRes (xs : List Int) (w : World) (e : Ending) (w' : World) : Prop :=
  ∃ (lb m N : Nat) (h : ByteArray → Value) (f s : Sl) (hs : List SeH) (v : Value) (ims : List ImH), e = .returned (.tuple #[.pointer (some ⟨lb, 0, none⟩), v]) ∧ LgAt w' w.heap.size lb m N h f s hs (reD (reT [] (scanB xs).1)) ∧ N ≤ 8000 ∧ IOwn w' w.heap.size v ims ∧ ims.map (·.X) = reT [] (scanB xs).1 ∧ Made (reT [] (scanB xs).1) ∧ Below w.heap.size w w'
end Go.Proofs.YtcflepnckjappaaGreat

namespace Go.Proofs.YtcflepnckjappaaGreat
open Go.RowKit

theorem rowsIn_wideR {l n : Nat} {P : Program} {row : String} {args : Array Value} {w : World} {R : Value → World → Prop} (h : Rows P row args w R) : RowsIn (Fence.wide.inRound l) n P row args w R := fun c cs _ => by
  obtain ⟨v, w', r, s⟩ := h c cs
  exact ⟨v, w', r, stepsIn_wide.2 s⟩
theorem oper_wpIn_wide {l n : Nat} {P : Program} {o : Oper} {a : Act} {w : World} {K : Act → World → Prop} {Q : Exit → Act → World → Prop} (hd : ∀ c, o.op ≠ .defer c) (h : o.wp P a w K Q) : o.wpIn (Fence.wide.inRound l) n P a w K Q := by
  refine ⟨fun _ _ => trivial, ?_⟩
  rw [Oper.semAt_plain _ _ _ hd]
  unfold Oper.wp at h
  generalize (execOp a.eval o).run P w = r at *
  cases r with
  | ok x w' =>
    cases x <;> simp only [Oper.upon, Oper.uponIn] at h ⊢
    case value => exact h
    case skip => exact h
    case defer => exact h
    case enter f args => exact ⟨fun hs => (by cases hs), CallsIn.inRound l (callsIn_wide.2 h)⟩
    case row => exact ⟨fun hs => (by cases hs), rowsIn_wideR h⟩
  | halt x w' => cases x <;> simp only [Oper.upon, Oper.uponIn] at h ⊢ <;> exact h
/-- No operation defers a call. -/
def calmB (ops : Array Oper) : Bool := ops.all fun o => match o.op with
  | .defer _ => false
  | _ => true
theorem calm_at {ops : Array Oper} (h : calmB ops = true) {i : Nat} {o : Oper} (hi : ops[i]? = some o) : ∀ c, o.op ≠ .defer c := fun c e => by
  unfold calmB at h
  rw [Array.all_eq_true'] at h
  have := h o (Array.mem_of_getElem? hi)
  rw [e] at this
  cases this
theorem wpAnyIn_wide {l n : Nat} {P : Program} {ops : Array Oper} {md : Region.Mode} {Q : Exit → Act → World → Prop} {S : World → Prop} (hc : calmB ops = true) (hq : ¬ LetsOut Q) : ∀ (fuel : Nat) (listed : Array Bool) (a : Act) (w : World), wpAnyH P md ops Q S fuel listed a w → wpAnyIn (Fence.wide.inRound l) n P md ops Q fuel listed a w
  | 0, _, _, _, h => h
  | fuel + 1, _, a, w, h => ⟨h.1, fun i hi => by
    have h2 := h.2 i hi
    unfold wpOp at h2
    unfold wpOpIn
    cases ho : ops[i]? with
    | none =>
      rw [ho] at h2
      exact wpAnyIn_wide hc hq fuel _ _ _ h2.2
    | some o =>
      simp only [ho] at h2 ⊢
      split
      · rename_i hw
        simp only [hw, if_true] at h2
        rcases h2 with h2 | h2
        · exact Oper.wpIn_mono (fun a' w' h' => wpAnyIn_wide hc hq fuel _ a' w' h'.2) (oper_wpIn_wide (calm_at hc ho) h2)
        · exact absurd h2.2 hq
      · rename_i hw
        simp only [hw] at h2
        exact ⟨fun _ _ => trivial, wpAnyIn_wide hc hq fuel _ _ _ h2.2⟩⟩
theorem wpIn_region_held_drew {l n : Nat} {P : Program} {ops : Array Oper} {Q : Exit → Act → World → Prop} {S : World → Prop} {id : Nat} {a : Act} {w : World} (hm : P.follows .mixedOrders = true) (hc : calmB ops = true) (hq : ¬ LetsOut Q) (hS : S w.drew)
    (h : S w.drew → wpAnyH P .any ops Q S ops.size (Array.replicate ops.size false) a w.drew) : (Code.region id ops true).wpIn (Fence.wide.inRound l) n P Q a w :=
  wpIn_region_any hm (wpAnyIn_wide hc hq _ _ _ _ (h hS))
end Go.Proofs.YtcflepnckjappaaGreat

namespace Go.Proofs.YtcflepnckjappaaGreat
open Go.RowKit Go.Shelf
attribute [local go_sem] Oper.semAt_some

theorem rec_ok {pre : List ImD} {X : ImD} {code : Int} (hl : X.xs.length ≤ 65536) (hc : rcC X.id X.xs = code) : reOK pre X = (!X.gone && (decide (code = 0) && (decide (1 ≤ X.id) && (decide (X.id < 1000) && !pre.any fun y => decide (y.id = X.id))))) := by
  unfold reOK
  have e : decide (1 ≤ X.id ∧ X.id < 1000) = (decide (1 ≤ X.id) && decide (X.id < 1000)) := by rw [Bool.decide_and]
  rw [e]
  by_cases h1 : 1 ≤ X.id ∧ X.id < 1000
  · have hi : idK X.id = true := by unfold idK; rw [decide_eq_true (by omega)]
    have h2 : rcOK X.id X.xs = decide (code = 0) := by
      by_cases h : rcOK X.id X.xs = true
      · rw [rc_ok hl hi h] at hc; rw [h, ← hc]; rfl
      · rw [rc_form hl hi (by simpa using h)] at hc
        rw [decide_eq_false (by omega)]; simpa using h
    rw [h2]
    cases X.gone <;> cases decide (code = 0) <;> cases decide (1 ≤ X.id) <;> cases decide (X.id < 1000) <;> rfl
  · have h3 : (decide (1 ≤ X.id) && decide (X.id < 1000)) = false := by rw [← e]; exact decide_eq_false h1
    rw [← Bool.and_assoc (decide (1 ≤ X.id)), h3]
    simp
theorem num_any (pre : List ImY) (i : Int) : ((pre.map yH).map hr).any (numX i) = (pre.map (·.X)).any fun y => decide (y.id = i) := by
  rw [List.map_map, List.any_map, List.any_map]
  have : (numX i ∘ hr ∘ yH) = ((fun y : ImD => decide (y.id = i)) ∘ fun y : ImY => y.X) := by
    funext y
    show ((hr (yH y)).id == i) = decide (y.X.id = i)
    by_cases h : y.X.id = i
    · rw [decide_eq_true h]; simp [hr, yH, h]
    · rw [decide_eq_false h]; simp [hr, yH, h]
  rw [this]
set_option maxRecDepth 100000 in
set_option maxHeartbeats 8000000 in
theorem recovered_any (a : Option Addr) (n c : Nat) (xs : List Int) (w : World) (hR : Row w a n xs) (h8 : Bytes8 xs) (hn : n ≤ 2048) (hc : n ≤ c) (hc2 : c ≤ maxLen) (ha : a = none → c = 0) :
    Calls Tryz.prog 59 #[.slice a n c] w fun e w' => RvcRes xs w e w' := by
  have LN := hide hR.1
  refine (callsIn_wide (n := 6)).1 ?_
  have hf1 : Fence.wide.fn 135 := trivial
  have hf2 : Fence.wide.fn 124 := trivial
  have hf3 : Fence.wide.fn 123 := trivial
  have hf4 : Fence.wide.fn 136 := trivial
  have hf5 : Fence.wide.fn 137 := trivial
  have hf6 : Fence.wide.fn 139 := trivial
  have hro : Fence.wide.round = none := rfl
  refine callsIn_of_wp_marks Tryz.func59 rfl trivial ?_ hro
  simp only [Tryz.ntmps59, List.size_toArray, List.length_cons, List.length_nil, Nat.reduceAdd, Nat.reduceSub, Array.replicate_succ, Array.replicate_zero, List.push_toArray, List.append_toArray, List.nil_append, List.cons_append]
  gi_wp2_with fail
  refine (callsIn_wide.2 (noVersions_vz w)).mono ?_
  rintro e w1 ⟨sc, g, rfl, hO, hb1⟩
  have B1 := hide hb1
  have HL := hide (ledgerOf_any newV ⟨none, 0, 0⟩ ⟨none, 0, 0⟩ ⟨some ⟨g, 0, none⟩, 4, sc⟩ (List.replicate 4 seNil) w1 hO.reads (fun e => by cases e) ⟨Nat.zero_le _, Nat.zero_le _, by show 4 ≤ 1048576; omega, fun i hi => by rw [List.getElem_map, List.getElem_replicate]; exact Nat.zero_le _⟩ (Nat.zero_le _) (fun i hi => by cases hi))
  unfold vzC at HL ⊢
  simp only [show newV.next = 1 from rfl] at HL ⊢
  clear hO hb1
  gi_wp2_with fail
  refine (callsIn_wide.2 (unhide HL)).mono ?_
  rintro e w2 ⟨lb, m, N0, h0, f, s, hs0, rfl, hL, hN0, hX0, hb2⟩
  have G0 := hide (LdAt.lg (d := newV) hL hX0)
  have B2 := hide ((unhide B1).trans (hb2.mono (unhide B1).size))
  have z1 := (unhide B1).size
  have z2 := hb2.size
  have mz : m < w2.heap.size := hL.his.map.lt
  clear hL hb2 HL B1
  gi_wp2_with (gi_at_call 135; refine (callsIn_wide.2 (standingImages_any a n c _)).mono ?_; rintro e w' ⟨rfl, rfl⟩)
  obtain ⟨W0, hW0⟩ : ∃ W0, ((w2.alloc (.cells #[.pointer (some ⟨lb, 0, none⟩)] 120)).alloc (.cells #[.slice none 0 0] 74)).alloc (.cells #[.slice a n c] 22) = W0 := ⟨_, rfl⟩
  have z0 : W0.heap.size = w2.heap.size + 3 := by rw [← hW0]; simp
  have bW : Below w2.heap.size w2 W0 := by rw [← hW0]; exact (((Below.refl _ w2).alloc (Nat.le_refl _) _).alloc (by simp) _).alloc (by simp; omega) _
  have k0 : W0.heap[w2.heap.size]? = some (.cells #[.pointer (some ⟨lb, 0, none⟩)] 120 (0, 0)) := by
    rw [← hW0, Below.heap_alloc _ _ _ (by simp; omega), Below.heap_alloc _ _ _ (by simp)]
    exact heap_alloc_new _ _
  have k1 : W0.heap[w2.heap.size + 1]? = some (.cells #[.slice none 0 0] 74 (0, 0)) := by
    rw [← hW0, Below.heap_alloc _ _ _ (by simp)]
    have := heap_alloc_new (w2.alloc (.cells #[.pointer (some ⟨lb, 0, none⟩)] 120)) (.cells #[.slice none 0 0] 74)
    simpa using this
  have k2 : W0.heap[w2.heap.size + 1 + 1]? = some (.cells #[.slice a n c] 22 (0, 0)) := by
    have := heap_alloc_new ((w2.alloc (.cells #[.pointer (some ⟨lb, 0, none⟩)] 120)).alloc (.cells #[.slice none 0 0] 74)) (.cells #[.slice a n c] 22)
    rw [hW0] at this
    simpa using this
  rw [hW0]
  have bW0 : Below w.heap.size w W0 := (unhide B2).trans (bW.mono (by omega))
  have TEL := images_tellsS 5 w.heap.size (w2.heap.size + 2) (w2.heap.size + 1 + 1) a n c xs w W0 (by omega) (by omega) bW0 k2 (fun u hu => row_grow' hR hu) h8 (by omega) hc hc2 ha (by omega)
  have ST0 : ReI w w1.heap.size lb m w2.heap.size f s hs0 [] W0 := ⟨N0, h0, .slice none 0 0, ⟨k0, k1, (unhide G0).below bW, IOwn.nil _ _, fun y hy => absurd hy List.not_mem_nil, bW0, by omega, mz, z1, z2⟩, by simp; omega, Made.nil⟩
  have H8 := hide h8
  refine wpIn_rangeTells hro (by omega) (gf := 213) (lb := #[.pointer (some ⟨w2.heap.size + 1 + 1, 0, none⟩)]) rfl trivial (enters_of Tryz.func213 (by kernel_rfl) rfl) TEL
    (fun h k => h.trans k) (fun o o' => (KpU.alloc W0 o (by omega)).trans (KpU.alloc _ o' (by simp; omega))) (fun W l o o' hl h hc => kpu_put (by omega) h hc) (fun _ => rfl)
    (fun _ _ _ _ hs _ _ => hs) (fun _ _ _ _ hs _ _ => hs)
    (ReI w w1.heap.size lb m w2.heap.size f s hs0) (fun co prx W => co = .exit 0 ∧ ∃ pre y, prx = pre ++ [y] ∧ ReI w w1.heap.size lb m w2.heap.size f s hs0 pre W ∧ reOK (pre.map (·.X)) y.X = false) (rei_own w _ _ _ _ _ _ _ _ (by omega)) (fun co prx A C row q hg hr => by
      obtain ⟨e, pre, y, e2, q, hx⟩ := q
      exact ⟨e, pre, y, e2, rei_grown q hg (fun r e => by have := hr r e; exact ⟨by omega, this.2⟩), hx⟩) ST0
    (fun pre y a' W => ∃ xb, w2.heap.size + 3 ≤ xb ∧ W.heap[xb]? = some (.cells #[.int .i64 y.X.id, .bool y.X.gone, .slice (some ⟨y.g, 0, none⟩) y.X.xs.length y.c] 72 (0, 0)) ∧
      a' = { tmps := #[.slice a n c, undef, .pointer none, .slice none 0 0, .pointer (some ⟨w2.heap.size, 0, none⟩), .pointer (some ⟨w2.heap.size + 1, 0, none⟩), .pointer (some ⟨xb, 0, none⟩), undef, undef, undef, .agg #[.int .i64 1, .slice none 0 0, .slice none 0 0, .slice (some ⟨g, 0, none⟩) 4 sc], .pointer (some ⟨lb, 0, none⟩), .slice a n c, .func (.func 213) #[] #[.pointer (some ⟨w2.heap.size + 1 + 1, 0, none⟩)], iv y.X.id y.X.gone (some ⟨y.g, 0, none⟩) y.X.xs.length y.c, .int .i64 (y.nx : Int), undef, undef, undef, undef, undef, undef, undef, undef, undef, undef, undef, undef, undef, undef, undef, undef, undef, undef, undef, undef, undef, undef, undef, undef, undef, undef, undef, undef, undef, undef, undef, undef, undef, undef, undef, undef, undef, undef, undef, undef, undef, undef, undef, undef, undef, undef, undef, undef, undef, undef], defers := [] } ∧
      YFactS xs (w2.heap.size + 2) pre y W)
    ?_ ?assign ?body ?done ?stop
  · rintro pre y a' _ A C row ⟨xb, h1, h2, h3, ⟨h4, h5⟩, h6⟩ hg hr
    obtain ⟨cur, hh⟩ := by_knd h4
    refine ⟨xb, h1, (rf_cells hg (fun r e => (hr r e).2) h2).trans h2, h3, ⟨ownsRow_heap h4 (fun k hk => ?_), h5⟩, h6⟩
    obtain rfl : y.g = k := by simpa [Value.ownBlock] using hk
    exact rf_cells hg (fun r e => (hr r e).2) hh
  case assign =>
    intro l pre y W K hi hF hK
    have s3 : w2.heap.size + 3 ≤ W.heap.size := by obtain ⟨_, _, _, h, _⟩ := hi; exact h.siz
    have bA : Below W.heap.size W (W.alloc (.cells #[.int .i64 y.X.id, .bool y.X.gone, .slice (some ⟨y.g, 0, none⟩) y.X.xs.length y.c] 72)) := (Below.refl _ _).alloc (Nat.le_refl _) _
    have Z := hide (hK { tmps := #[.slice a n c, undef, .pointer none, .slice none 0 0, .pointer (some ⟨w2.heap.size, 0, none⟩), .pointer (some ⟨w2.heap.size + 1, 0, none⟩), .pointer (some ⟨W.heap.size, 0, none⟩), undef, undef, undef, .agg #[.int .i64 1, .slice none 0 0, .slice none 0 0, .slice (some ⟨g, 0, none⟩) 4 sc], .pointer (some ⟨lb, 0, none⟩), .slice a n c, .func (.func 213) #[] #[.pointer (some ⟨w2.heap.size + 1 + 1, 0, none⟩)], iv y.X.id y.X.gone (some ⟨y.g, 0, none⟩) y.X.xs.length y.c, .int .i64 (y.nx : Int), undef, undef, undef, undef, undef, undef, undef, undef, undef, undef, undef, undef, undef, undef, undef, undef, undef, undef, undef, undef, undef, undef, undef, undef, undef, undef, undef, undef, undef, undef, undef, undef, undef, undef, undef, undef, undef, undef, undef, undef, undef, undef, undef, undef, undef, undef, undef, undef, undef, undef], defers := [] } (W.alloc (.cells #[.int .i64 y.X.id, .bool y.X.gone, .slice (some ⟨y.g, 0, none⟩) y.X.xs.length y.c] 72))
      ((KeepsOthers.alloc _ _).from _) (KpU.alloc _ _ (by omega)) (rei_grown (row := none) hi (rb_grownBy_below bA) (fun r e => by cases e)) ⟨W.heap.size, by omega, heap_alloc_new _ _, rfl, ⟨owns_below hF.1.1 bA, hF.1.2⟩, hF.2⟩)
    clear hK hF hi
    unfold yV iv
    unfold iv at Z
    gi_wp2
    exact unhide Z
  case body =>
    rintro l pre ⟨⟨yi, yg, ys⟩, y2, y3, ynx⟩ a' W hl ⟨N, h, v, hi, hN, hM⟩ ⟨xb, hxb, hkx, rfl, ⟨hO, hfr, hpl⟩, hST⟩
    simp only at hkx hO hST hfr
    have s3 := hi.siz
    have sm := steps_ok (unhide H8) hST ⟨yi, yg, ys⟩ (by simp)
    have hsm := ok_small sm.1
    simp only at hsm
    have cp := cap_of_owns (s := ⟨some ⟨y2, 0, none⟩, ys.length, y3⟩) hO
    have hys := hsm.1
    have FAR := hide (fun k g (e : (h k).ownBlock = some g) => ((hi.lg.his.own k).lt g e).2)
    have RC := hide (implReadCommit_any (some ⟨y2, 0, none⟩) ys.length y3 ys yi W (hdat_of_owns (h := ⟨⟨yi, yg, ys⟩, y2, y3⟩) hO).row (re_by sm.2) cp.1 (by omega) (fun x hx => by cases hx; exact (hO.lt y2 rfl).2))
    have SUM := hide (show ((pre.map (fun y : ImY => y.X) ++ [(⟨yi, yg, ys⟩ : ImD)]).map fun x : ImD => x.xs.length + 9).sum ≤ 2048 by
      have h1 := steps_sum hST
      have h2 := hST.le.1
      rw [List.map_append] at h1
      have h3 := unhide LN
      show ((pre.map (fun y : ImY => y.X) ++ [(⟨yi, yg, ys⟩ : ImD)]).map fun x : ImD => x.xs.length + 9).sum ≤ 2048
      have e : ((pre.map (fun y : ImY => y.X) ++ [(⟨yi, yg, ys⟩ : ImD)]).map fun x : ImD => x.xs.length + 9).sum = ynx := h1
      omega)
    have x0 : W.cell? ⟨xb, 0, none⟩ = some (.int .i64 yi) := (heap_at hkx 0).1
    have x1 : W.cell? ⟨xb, 1, none⟩ = some (.bool yg) := (heap_at hkx 1).1
    have x2 : W.cell? ⟨xb, 2, none⟩ = some (.slice (some ⟨y2, 0, none⟩) ys.length y3) := (heap_at hkx 2).1
    have ROK := hide (fun (cd : Int) (hc : rcC yi ys = cd) => rec_ok (pre := pre.map (·.X)) (X := ⟨yi, yg, ys⟩) (show ys.length ≤ 65536 by omega) hc)
    clear sm hST
    gi_wp2_with fail
    refine (CallsIn.inRound _ (callsIn_wide.2 (unhide RC))).mono ?_
    rintro e w5 ⟨v5, rfl, hv5, hb5⟩
    obtain ⟨a5, c5, rfl⟩ := vowns_slice hv5
    have V5 := hide hv5
    have q5 := hi.below hb5
    obtain ⟨av, cv, hvv⟩ := im_slice hi.own
    rw [List.length_map] at hvv
    subst hvv
    have k5 := (hb5.block xb (blk_lt hkx)).trans hkx
    have O5 := hide (owns_below hO hb5)
    have G5 := hide hb5
    have CI := hide (containsIm_any xb yi yg _ av pre.length cv ((pre.map yH).map hr) w5 (by omega) (by have := im_row (n := pre.length) (c := cv) (a := av) q5.own; exact this) k5)
    rw [num_any] at CI
    have c1 : w5.cell? ⟨w2.heap.size + 1, 0, none⟩ = some (.slice av pre.length cv) := (heap_at q5.mp 0).1
    clear hv5 hb5 RC hi hO x0 x1 x2
    obtain ⟨cd, hcd⟩ : ∃ cd, cd = rcC yi ys := ⟨_, rfl⟩
    rw [← hcd]
    obtain ⟨ag, hag⟩ : ∃ ag, ag = (pre.map (·.X)).any fun y => decide (y.id = yi) := ⟨_, rfl⟩
    rw [← hag] at CI
    have RK := hide (unhide ROK cd hcd.symm)
    rw [← hag] at RK
    have HCD := hide hcd
    clear ROK hag hcd
    gi_wp2_with fail
    refine (CallsIn.inRound _ (callsIn_wide.2 (unhide CI))).mono ?_
    rintro e w6 ⟨rfl, hb6⟩
    have q6 := q5.below hb6
    have k6 := (hb6.block xb (blk_lt k5)).trans k5
    have O6 := hide (owns_below (unhide O5) hb6)
    have V6 := hide (vowns_below (unhide V5) hb6)
    have G6 := hide ((unhide G5).trans (hb6.mono (unhide G5).size))
    have x0 : w6.cell? ⟨xb, 0, none⟩ = some (.int .i64 yi) := (heap_at k6 0).1
    have x1 : w6.cell? ⟨xb, 1, none⟩ = some (.bool yg) := (heap_at k6 1).1
    have K6 := hide k6
    have Q6 := hide q6
    have STOP := hide (fun (hx : reOK (pre.map (·.X)) ⟨yi, yg, ys⟩ = false) => show KeepsW W0.heap.size W w6 ∧ KpU w.heap.size W w6 ∧ (∃ p y, pre ++ [(⟨⟨yi, yg, ys⟩, y2, y3, ynx⟩ : ImY)] = p ++ [y] ∧ ReI w w1.heap.size lb m w2.heap.size f s hs0 p w6 ∧ reOK (p.map (·.X)) y.X = false) from
      ⟨KeepsW.of_below (unhide G6), KpU.of_below (unhide G6) (by omega), pre, _, rfl, ⟨N, h, _, q6, hN, hM⟩, hx⟩)
    clear c1 CI V5 O5 G5 hb6 q5 k5 hkx
    cases yg with
    | true =>
      have Z := hide (unhide STOP (by rw [unhide RK]; rfl))
      clear STOP RK q6 k6 V6 O6 G6 SUM hM hfr K6 Q6 FAR
      gi_wp2_with fail
      exact ⟨(unhide Z).1, (unhide Z).2.1, rfl, (unhide Z).2.2⟩
    | false =>
      by_cases hc0 : cd = 0
      case neg =>
        have Z := hide (unhide STOP (by rw [unhide RK, decide_eq_false hc0]; rfl))
        clear STOP RK q6 k6 V6 O6 G6 SUM hM hfr HCD K6 Q6 FAR
        gi_wp2_with fail
        exact ⟨(unhide Z).1, (unhide Z).2.1, rfl, (unhide Z).2.2⟩
      subst hc0
      by_cases h1 : 1 ≤ yi
      case neg =>
        have Z := hide (unhide STOP (by rw [unhide RK, decide_eq_false h1]; rfl))
        have h1' : yi < 1 := by omega
        clear STOP RK q6 k6 V6 O6 G6 SUM hM hfr HCD K6 Q6 FAR
        gi_wp2_with fail
        exact ⟨(unhide Z).1, (unhide Z).2.1, rfl, (unhide Z).2.2⟩
      have h1' : ¬ yi < 1 := by omega
      by_cases h2 : yi < 1000
      case neg =>
        have Z := hide (unhide STOP (by rw [unhide RK, decide_eq_false h2, decide_eq_true h1]; rfl))
        have h2' : 1000 ≤ yi := by omega
        clear STOP RK q6 k6 V6 O6 G6 SUM hM hfr HCD K6 Q6 FAR
        gi_wp2_with fail
        exact ⟨(unhide Z).1, (unhide Z).2.1, rfl, (unhide Z).2.2⟩
      have h2' : ¬ 1000 ≤ yi := by omega
      cases ag with
      | true =>
        have Z := hide (unhide STOP (by rw [unhide RK, decide_eq_true h2, decide_eq_true h1]; rfl))
        clear STOP RK q6 k6 V6 O6 G6 SUM hM hfr HCD K6 Q6 FAR
        gi_wp2_with fail
        exact ⟨(unhide Z).1, (unhide Z).2.1, rfl, (unhide Z).2.2⟩
      | false =>
        have OKX : reOK (pre.map (·.X)) ⟨yi, false, ys⟩ = true := by rw [unhide RK, decide_eq_true h2, decide_eq_true h1]; rfl
        clear STOP RK k6
        have WF := rcOK_facts (reOK_facts OKX).1
        simp only at WF
        have RA := hide (show rcA yi ys = rcL yi ys by unfold rcA; rw [if_pos (unhide HCD).symm])
        have hn8 := (wrV_ok WF.1).1
        have hbl := cbAll_len (rcL yi ys)
        rw [WF.2] at hbl
        have hsum := unhide SUM
        rw [List.map_append, List.sum_append, List.map_cons, List.map_nil, List.sum_cons, List.sum_nil] at hsum
        simp only at hsum
        have hml := hM.len
        have hpre9 : 9 * pre.length ≤ 2048 := by
          have h1 : ∀ L : List ImD, 9 * L.length ≤ (L.map fun x : ImD => x.xs.length + 9).sum := fun L => by
            induction L with
            | nil => simp
            | cons x r ih => simp only [List.length_cons, List.map_cons, List.sum_cons]; omega
          have h2 := h1 (pre.map fun y : ImY => y.X)
          rw [List.length_map] at h2
          omega
        have hver := wrV_ver WF.1
        have ACC := hide (accept_any lb w1.heap.size m N W.heap.size h f s hs0 (reD (pre.map (fun y : ImY => y.X))) a5 (rcA yi ys).length c5 (rcA yi ys) w6 q6.lg (show okVs (reV (pre.map (fun y : ImY => y.X))) = true from hM.ok) (by rw [unhide RA]; exact fun x hx => (hver x hx).1) (unhide V6) (fun k g e e2 => by have h1 := unhide FAR k g e; have h2 := ((unhide V6).lt g e2).1; omega) (by rw [unhide RA]; omega) (by show (reV _).length + _ ≤ _; rw [unhide RA]; omega))
        have l6 := (heap_at (unhide Q6).lp 0).1
        clear hver hml hsum hbl hn8 WF q6 HCD V6 SUM FAR
        gi_wp2_with fail
        refine (CallsIn.inRound _ (callsIn_wide.2 (unhide ACC))).mono ?_
        rintro e w7 ⟨rfl, ⟨N', h', hN', q7⟩, lw7⟩
        have LW := hide lw7
        have k7 := lw7.box (unhide K6) (by decide)
        have l7 := lw7.box (unhide Q6).lp (by decide)
        have b7 := q7.box
        have x0 := (heap_at k7 0).1
        have c0 := (heap_at l7 0).1
        have d0 := (heap_at b7 0).1
        have f0 := (heap_at b7 0).2
        have Q7 := hide q7
        have K7 := hide k7
        have hlz : w2.heap.size ≠ lb := fun e => by rw [e, b7] at l7; injection l7 with l7; injection l7 with _ l7; exact absurd l7 (by decide)
        have hlx : xb ≠ lb := fun e => by rw [e, b7] at k7; injection k7 with k7; injection k7 with _ k7; exact absurd k7 (by decide)
        clear lw7 q7 k7 l7 b7 ACC x1
        have hv : IntKind.i64.wrap (yi + 1) = yi + 1 := by rw [IntKind.wrap_i64]; omega
        have SHOW := hide (show ∀ v, (w7.drew.setCell ⟨lb, 0, none⟩ v).cell? ⟨w2.heap.size, 0, none⟩ = some (.pointer (some ⟨lb, 0, none⟩)) ∧ (w7.drew.setCell ⟨lb, 0, none⟩ v).cell? ⟨xb, 0, none⟩ = some (.int .i64 yi) from fun v =>
          ⟨(World.cell?_setCell_other _ _ _ _ (fun e => by injection e with e; exact hlz e.symm)).trans c0, (World.cell?_setCell_other _ _ _ _ (fun e => by injection e with e; exact hlx e.symm)).trans x0⟩)
        gi_wp2_with fail
        refine wpIn_region_held_drew (S := (fun u => u.cell? ⟨w2.heap.size, 0, none⟩ = some (.pointer (some ⟨lb, 0, none⟩)) ∧ u.cell? ⟨xb, 0, none⟩ = some (.int .i64 yi))) (by kernel_rfl) (by kernel_rfl) (by rintro ⟨_, _, h⟩; exact h) (⟨c0, x0⟩) (fun hHeld => ?_)
        refine anyH_take 0 49 (v := ?v1) rfl rfl (by kernel_rfl) (by kernel_rfl) (by kernel_rfl) (fun _ _ _ h => h) (by rfl) ?h1 hHeld ?r1
        case h1 => (intro w hSw; (try dsimp only at hSw); go_simp; try (with_reducible rfl))
        simp only [Act.put, List.setIfInBounds_toArray, List.set_cons_zero, List.set_cons_succ]
        refine anyH_take 1 50 (v := ?v2) rfl rfl (by kernel_rfl) (by kernel_rfl) (by kernel_rfl) (fun _ _ _ h => h) (by rfl) ?h2 hHeld ?r2
        case h2 => (intro w hSw; (try dsimp only at hSw); go_simp; try (with_reducible rfl))
        simp only [Act.put, List.setIfInBounds_toArray, List.set_cons_zero, List.set_cons_succ]
        refine anyH_take 2 51 (v := ?v3) rfl rfl (by kernel_rfl) (by kernel_rfl) (by kernel_rfl) (fun _ _ _ h => h) (by rfl) ?h3 hHeld ?r3
        case h3 => (intro w hSw; (try dsimp only at hSw); go_simp; try (with_reducible rfl))
        simp only [Act.put, List.setIfInBounds_toArray, List.set_cons_zero, List.set_cons_succ]
        refine anyH_take 3 52 (v := ?v4) rfl rfl (by kernel_rfl) (by kernel_rfl) (by kernel_rfl) (fun _ _ _ h => h) (by rfl) ?h4 hHeld ?r4
        case h4 => (intro w hSw; (try dsimp only at hSw); go_simp; try (with_reducible rfl))
        simp only [Act.put, List.setIfInBounds_toArray, List.set_cons_zero, List.set_cons_succ]
        refine anyH_take 5 54 (v := ?v5) rfl rfl (by kernel_rfl) (by kernel_rfl) (by kernel_rfl) (fun _ _ _ h => h) (by rfl) ?h5 hHeld ?r5
        case h5 => (intro w hSw; (try dsimp only at hSw); go_simp; try (with_reducible rfl))
        simp only [Act.put, List.setIfInBounds_toArray, List.set_cons_zero, List.set_cons_succ]
        refine anyH_take 6 55 (v := ?v6) rfl rfl (by kernel_rfl) (by kernel_rfl) (by kernel_rfl) (fun _ _ _ h => h) (by rfl) ?h6 hHeld ?r6
        case h6 => (intro w hSw; (try dsimp only at hSw); go_simp; try (with_reducible rfl))
        simp only [Act.put, List.setIfInBounds_toArray, List.set_cons_zero, List.set_cons_succ]
        refine anyH_take 7 56 (v := ?v7) rfl rfl (by kernel_rfl) (by kernel_rfl) (by kernel_rfl) (fun _ _ _ h => h) (by rfl) ?h7 hHeld ?r7
        case h7 => (intro w hSw; (try dsimp only at hSw); go_simp; try (with_reducible rfl))
        simp only [Act.put, List.setIfInBounds_toArray, List.set_cons_zero, List.set_cons_succ]
        refine wpAnyH_ready (rs := [4]) (by kernel_rfl) (by simp) ?_
        refine AllReadyH.cons rfl (fun K hK => ?_) AllReadyH.nil
        have y : w7.drew.cell? ⟨lb, 0, none⟩ = some (.int .i64 (reN (pre.map (fun y : ImY => y.X)))) := d0
        go_simp
        clear y
        refine hK.out _ _ (hHeld) (fun hHeld => ?_)
        clear hK K
        refine anyH_take 8 57 (v := ?v8) rfl rfl (by kernel_rfl) (by kernel_rfl) (by kernel_rfl) (fun _ _ _ h => h) (by rfl) ?h8 hHeld ?r8
        case h8 => (intro w hSw; (try dsimp only at hSw); go_simp; try (with_reducible rfl))
        simp only [Act.put, List.setIfInBounds_toArray, List.set_cons_zero, List.set_cons_succ]
        refine anyH_take 9 58 (v := ?v9) rfl rfl (by kernel_rfl) (by kernel_rfl) (by kernel_rfl) (fun _ _ _ h => h) (by rfl) ?h9 hHeld ?r9
        case h9 => (intro w hSw; (try dsimp only at hSw); go_simp; try (with_reducible rfl))
        simp only [Act.put, List.setIfInBounds_toArray, List.set_cons_zero, List.set_cons_succ]
        refine anyH_take 10 59 (v := ?v10) rfl rfl (by kernel_rfl) (by kernel_rfl) (by kernel_rfl) (fun _ _ _ h => h) (by rfl) ?h10 hHeld ?r10
        case h10 => (intro w hSw; (try dsimp only at hSw); go_simp; try (with_reducible rfl))
        simp only [Act.put, List.setIfInBounds_toArray, List.set_cons_zero, List.set_cons_succ]
        refine wpAnyH_ready (rs := [11]) (by kernel_rfl) (by simp) ?_
        refine AllReadyH.cons rfl (fun K hK => ?_) AllReadyH.nil
        have y : w7.drew.cell? ⟨lb, 0, none⟩ = some (.int .i64 (reN (pre.map (fun y : ImY => y.X)))) := d0
        have y2 : w7.drew.frozen? ⟨lb, 0, none⟩ = false := f0
        go_simp
        clear y y2
        refine hK.out _ _ (unhide SHOW _) (fun hHeld => ?_)
        clear hK K
        refine wpAnyH_done (by kernel_rfl) ?_ _
        clear hHeld
        have hLW8 := (unhide LW).trans (((unhide Q7).next (max (reN (pre.map (fun y : ImY => y.X))) (yi + 1))).2.trans (LgW.of_below (Below.refl _ (w7.setCell ⟨lb, 0, none⟩ (.int .i64 (max (reN (pre.map (fun y : ImY => y.X))) (yi + 1))))).drew))
        have hq8 := ((unhide Q7).next (max (reN (pre.map (fun y : ImY => y.X))) (yi + 1))).1.below (Below.refl _ (w7.setCell ⟨lb, 0, none⟩ (.int .i64 (max (reN (pre.map (fun y : ImY => y.X))) (yi + 1))))).drew
        have hRD : reD (pre.map (fun y : ImY => y.X) ++ [⟨yi, false, ys⟩]) = ⟨max (reN (pre.map (fun y : ImY => y.X))) (yi + 1), (rcA yi ys).foldl insV (reV (pre.map (fun y : ImY => y.X))), [], List.replicate 4 clS⟩ := by
          unfold reD
          rw [reN_snoc, reV_snoc, unhide RA]
        have Q8 := (unhide Q6).led hLW8 (by rw [hRD]; exact hq8)
        have O8 := (hLW8.row (unhide O6) (by decide))
        have k8 := hLW8.box (unhide K6) (by decide)
        have hs6 := (unhide Q6).siz
        clear SHOW c0 d0 f0 x0 l6 hq8 hRD Q7 K7 O6 K6 Q6 hlz hlx
        clear x0
        generalize (w7.setCell ⟨lb, 0, none⟩ (.int .i64 (max (reN (pre.map (fun y : ImY => y.X))) (yi + 1)))).drew = w8 at *
        have m1 := (heap_at Q8.mp 0).1
        have x0 := (heap_at k8 0).1
        have x1 := (heap_at k8 1).1
        have x2 := (heap_at k8 2).1
        obtain ⟨v', w', hr', ho', hg', hv'⟩ := im_app (h := ⟨⟨yi, false, ys⟩, y2, y3⟩) Q8.own (hdat_of_owns (h := ⟨⟨yi, false, ys⟩, y2, y3⟩) O8) (fun i hlt e => by
          have := hfr (pre[i]'(by simpa using hlt)) (List.getElem_mem _)
          rw [List.getElem_map] at e
          exact this e) (fun e => by
          obtain ⟨cur', h'⟩ := im_knd Q8.own.row e
          obtain ⟨cur, hh⟩ := by_knd O8
          rw [hh] at h'
          injection h' with h'
          injection h' with _ h' _
          exact absurd h' (by decide)) (by rw [List.length_map]; omega) (by have := Q8.siz; omega)
        simp only at hr' hg'
        obtain ⟨n1, q9, kw, ku⟩ := Q8.push (y := ⟨⟨yi, false, ys⟩, y2, y3, ynx⟩) O8 ho' hg'
        have m2 := (heap_at n1 0).1
        have g2 := (heap_at n1 0).2
        obtain ⟨va, vc, hvv⟩ := im_slice ho'
        rw [List.length_append, List.length_map, List.length_singleton] at hvv
        subst hvv
        have hn8 := (wrV_ok (rcOK_facts (reOK_facts OKX).1).1).1
        simp only at hn8
        rw [← unhide RA] at hn8
        have Z := hide (show KeepsW W0.heap.size W (w'.setCell ⟨w2.heap.size + 1, 0, none⟩ (.slice va (pre.length + 1) vc)) ∧ KpU w.heap.size W (w'.setCell ⟨w2.heap.size + 1, 0, none⟩ (.slice va (pre.length + 1) vc)) ∧ ReI w w1.heap.size lb m w2.heap.size f s hs0 (pre ++ [(⟨⟨yi, false, ys⟩, y2, y3, ynx⟩ : ImY)]) (w'.setCell ⟨w2.heap.size + 1, 0, none⟩ (.slice va (pre.length + 1) vc)) from
          ⟨(KeepsW.of_below (unhide G6)).trans ((lgw_keepsW hLW8 (by omega)).trans (by rw [z0]; exact kw)), (KpU.of_below (unhide G6) (by omega)).trans ((lgw_kpu hLW8 z1 (by omega)).trans ku), N', h', _, by rw [List.map_append]; exact q9, by rw [List.length_append, List.length_singleton]; omega, by rw [List.map_append]; exact hM.snoc OKX⟩)
        clear hLW8 Q8 O8 k8 ho' hg' hv' n1 q9 kw ku G6 RA OKX hn8 LW
        gi_wp2_with (gi_at_builtin; refine sc_wpAppIn rfl (.tmp 60) (.tmp 62) 74 rfl _ _ _ w' rfl rfl hr' ?_)
        exact unhide Z
  case done =>
    rintro D ys W hD hFin ⟨N, h, v, hi, hN, hM⟩ hK
    have E := re_end hFin.1 hFin.2 hM
    have hst := hFin.1
    have hle := hst.le
    rw [List.length_map] at hle
    have hn9 : 9 * ys.length ≤ 2048 := by have := unhide LN; omega
    have l0 := (heap_at hi.lp 0).1
    have m0 := (heap_at hi.mp 0).1
    have hKD : W.drew.heap[D]? = some (.deferred (some [])) := hK
    have q2 := (hi.below (Below.refl _ W).drew).step (WrB.of_grown (grownBy_putObj' W.drew D (.deferred none))) (fun i e => by cases e; omega) (fun i e cur t fr hk => by cases e; rw [hKD] at hk; cases hk)
    have Z := hide (show RvcRes xs w (.returned (.tuple #[.pointer (some ⟨lb, 0, none⟩), v])) (W.drew.putObj D (.deferred none)) from
      ⟨lb, m, N, h, f, s, hs0, v, ys.map yH, rfl, by rw [E]; exact q2.lg.dn q2.wB, by omega, q2.own.down (by omega), by rw [E, List.map_map]; rfl, by rw [E]; exact hM, q2.bel⟩)
    clear q2 E hi hst hFin hM hle
    gi_wp2
    gi_region
    all_goals
      gi_wp2
      refine ⟨by simp, .inl ⟨_, _, rfl, run_takeDeferred hKD, ?_⟩⟩
      exact ⟨.tuple #[.pointer (some ⟨lb, 0, none⟩), v], by simp [results, Tryz.results59], unhide Z⟩
  case stop =>
    rintro D co prx W hD hFin ⟨rfl, pre, y, rfl, ⟨N, h, v, hi, hN, hM⟩, hx⟩ hK
    have hst : Steps xs (pre.map (fun y : ImY => y.X) ++ [y.X]) (endOf (pre ++ [y])) := by have h1 := hFin; unfold YFinX at h1; rw [List.map_append] at h1; exact h1
    have E := re_break hst hM hx
    have hle0 := hst.le
    rw [List.length_append, List.length_map] at hle0
    replace hst : 9 * pre.length ≤ n := by have := unhide LN; omega
    have hn9 : 9 * pre.length ≤ 2048 := by omega
    have l0 := (heap_at hi.lp 0).1
    have m0 := (heap_at hi.mp 0).1
    have hKD : W.drew.heap[D]? = some (.deferred (some [])) := hK
    have q2 := (hi.below (Below.refl _ W).drew).step (WrB.of_grown (grownBy_putObj' W.drew D (.deferred none))) (fun i e => by cases e; omega) (fun i e cur t fr hk => by cases e; rw [hKD] at hk; cases hk)
    have Z := hide (show RvcRes xs w (.returned (.tuple #[.pointer (some ⟨lb, 0, none⟩), v])) (W.drew.putObj D (.deferred none)) from
      ⟨lb, m, N, h, f, s, hs0, v, pre.map yH, rfl, by rw [E]; exact q2.lg.dn q2.wB, by omega, q2.own.down (by omega), by rw [E, List.map_map]; rfl, by rw [E]; exact hM, q2.bel⟩)
    clear q2 E hi hst hFin hM hle0 hx
    gi_wp2
    gi_region
    all_goals
      gi_wp2
      refine ⟨by simp, .inl ⟨_, _, rfl, run_takeDeferred hKD, ?_⟩⟩
      exact ⟨.tuple #[.pointer (some ⟨lb, 0, none⟩), v], by simp [results, Tryz.results59], unhide Z⟩
end Go.Proofs.YtcflepnckjappaaGreat

namespace Go.Proofs.YtcflepnckjappaaGreat
open Go.RowKit Go.ChangeShapes Go.WideShapes

/-- A device that came in. -/
def IsFlash (w : World) (ah : Option Addr) (nh : Nat) (aw : Option Addr) (nw : Nat) (held : List Int) (ws : List WD) : Prop := Row w ah nh held ∧ nh ≤ maxLen ∧ WRow w aw nw ws ∧ nw ≤ maxLen
end Go.Proofs.YtcflepnckjappaaGreat

namespace Go.Proofs.YtcflepnckjappaaGreat
open Go.RowKit Go.ChangeShapes Go.WideShapes

theorem open_bytes8c {H : Type} {enc : TypeId × Value → H} {w : World} {base : Nat} {spare : Nat → Bool} {held : Bool} {v : Value} {fuel : Nat} {x : DataW H × List MemPlace}
    (h : DataW.trod enc Tryz.prog w base spare held fuel 22 [v] = some x) : ∃ a l c xs, v = .slice a l c ∧ Row w a l xs ∧ l ≤ maxLen ∧ l ≤ c ∧ Bytes8 xs := by
  rcases open_ints Tryz.underlying22 Tryz.underlying5 (by kernel_rfl) h with ⟨hcs, _⟩ | ⟨y, l, c, zs, hcs, _, hl, hm, hz, _, hcell, hwz⟩
  · simp at hcs
    subst hcs
    exact ⟨none, 0, 0, [], rfl, ⟨rfl, fun i hi => absurd hi (Nat.not_lt_zero _)⟩, by unfold maxLen; omega, Nat.le_refl _, fun i hi => absurd hi (Nat.not_lt_zero _)⟩
  · simp at hcs
    subst hcs
    have hlz : l ≤ zs.length := by rw [hz]; split <;> omega
    have hR : IsRow .u8 w (some y) l zs.length zs := .inr ⟨y, rfl, hlz, by rw [hz]; split <;> omega, rfl, hcell, hwz⟩
    exact ⟨some y, l, c, zs.take l, rfl, (row_of_isRow hR).1, (row_of_isRow hR).2.1, hl, fun i hi => bytes_of_isRow hR i (by have := (row_of_isRow hR).1.1; rw [this] at hi; exact hi)⟩

set_option maxRecDepth 100000 in
theorem open_writes8 {H : Type} {enc : TypeId × Value → H} {w : World} {base : Nat} {spare : Nat → Bool} {held : Bool} {v : Value} {fuel : Nat} {x : DataW H × List MemPlace}
    (h : DataW.trod enc Tryz.prog w base spare held fuel 81 [v] = some x) : ∃ a len cap ws, v = .slice a len cap ∧ WRow w a len ws ∧ len ≤ maxLen ∧ ∀ d ∈ ws, Bytes8 d.xs := by
  rcases Deep.open_slice Tryz.underlying81 h with ⟨hcs, _⟩ | ⟨y, l, c, m, n, D, Pl, hcs, hb, hl, hm, hmm, _, hel⟩
  · simp at hcs
    subst hcs
    exact ⟨none, 0, 0, [], rfl, ⟨rfl, fun i hi => absurd hi (Nat.not_lt_zero _)⟩, by unfold maxLen; omega, fun d hd => absurd hd (List.not_mem_nil)⟩
  simp at hcs
  subst hcs
  have hlm : l ≤ m := by rw [hmm]; split <;> omega
  have c2 : Tryz.prog.cellsOf 272 = 2 := by kernel_rfl
  rw [c2] at hel
  have one : ∀ i, i < l → ∃ d : WD, ∃ b off, some y = some (⟨b, off, none⟩ : Addr) ∧ w.cell? ⟨b, off + i * 2, none⟩ = some (.int .i64 d.at_) ∧
      ∃ a' c', w.cell? ⟨b, off + i * 2 + 1, none⟩ = some (.slice a' d.xs.length c') ∧ (d.xs.length ≤ maxLen ∧ d.xs.length ≤ c') ∧ Row w a' d.xs.length d.xs ∧ Bytes8 d.xs := by
    intro i hi
    obtain ⟨cs, hc, ht⟩ := hel i (by omega)
    obtain ⟨_, hlen, hcell⟩ := World.cells?_some hc
    obtain ⟨y0, y1, n', _, _, h0, h1⟩ := trod_struct2 Tryz.underlying272 ht
    obtain ⟨k0, e0, _, w0⟩ := DataW.trod_int Tryz.underlying3 h0
    match cs, hlen with
    | [v0, v1], _ =>
      have s0 : Tryz.prog.cellsOf 3 = 1 := by kernel_rfl
      have s1 : Tryz.prog.cellsOf 22 = 1 := by kernel_rfl
      have e0' : v0 = .int .i64 k0 := by simpa [s0] using e0
      have h1' : DataW.trod enc Tryz.prog w base spare held n' 22 [v1] = some y1 := by simpa [s1] using h1
      subst e0'
      obtain ⟨a', l', c', xs, rfl, hr, hl', hlc, h8⟩ := open_bytes8c h1'
      have g0 := hcell 0 (by omega)
      have g1 := hcell 1 (by omega)
      rw [Deep.add_add] at g0 g1
      obtain ⟨b, off, spot⟩ := y
      have hs : spot = none := by
        by_cases hi0 : i = 0
        · have := World.cell?_spot (g0.trans rfl)
          simpa [Addr.add, hi0] using this
        · obtain ⟨cs', hc', ht'⟩ := hel 0 (by omega)
          obtain ⟨_, hlen', hcell'⟩ := World.cells?_some hc'
          have h0' := hcell' 0 (by omega)
          match cs', hlen' with
          | [u0, u1], _ =>
            have := World.cell?_spot (h0'.trans rfl)
            simpa [Addr.add] using this
      subst hs
      have e : ∀ j, (⟨b, off, none⟩ : Addr).add j = ⟨b, off + j, none⟩ := fun j => by unfold Addr.add; split <;> simp_all
      rw [e] at g0 g1
      have hxl := hr.1
      subst hxl
      exact ⟨⟨k0, xs⟩, b, off, rfl, by simpa using g0, a', c', by simpa [Nat.add_assoc] using g1, ⟨hl', hlc⟩, hr, h8⟩
  have : ∀ i, ∃ d : WD, i < l → ∃ b off, some y = some (⟨b, off, none⟩ : Addr) ∧ w.cell? ⟨b, off + i * 2, none⟩ = some (.int .i64 d.at_) ∧
      ∃ a' c', w.cell? ⟨b, off + i * 2 + 1, none⟩ = some (.slice a' d.xs.length c') ∧ (d.xs.length ≤ maxLen ∧ d.xs.length ≤ c') ∧ Row w a' d.xs.length d.xs ∧ Bytes8 d.xs := fun i => by
    by_cases hi : i < l
    · obtain ⟨d, hd⟩ := one i hi
      exact ⟨d, fun _ => hd⟩
    · exact ⟨⟨0, []⟩, fun h => absurd h hi⟩
  obtain ⟨F, hF⟩ := Classical.skolem.1 this
  refine ⟨some y, l, c, (List.range l).map F, rfl, ⟨by simp, fun i hi => ?_⟩, by omega, fun d hd => ?_⟩
  · have hi' : i < l := by simpa using hi
    obtain ⟨b, off, e1, e2, a', c', e3, e4, e5, _⟩ := hF i hi'
    exact ⟨b, off, e1, by simpa using e2, a', c', by simpa using e3, by simpa using e4, by simpa using e5⟩
  · obtain ⟨i, hi, rfl⟩ := List.mem_map.1 hd
    obtain ⟨b, off, e1, e2, a', c', e3, e4, e5, e6⟩ := hF i (by simpa using hi)
    exact e6

/-- A device that came in: its bytes are bytes. -/
def IsFlash8 (w : World) (ah : Option Addr) (nh : Nat) (aw : Option Addr) (nw : Nat) (held : List Int) (ws : List WD) : Prop := IsFlash w ah nh aw nw held ws ∧ Bytes8 held ∧ ∀ d ∈ ws, Bytes8 d.xs
set_option maxRecDepth 100000 in
theorem open_flash8 {H : Type} {enc : TypeId × Value → H} {w : World} {base : Nat} {spare : Nat → Bool} {held : Bool} {v : Value} {r : Reach} {b0 : Nat} {d : DataW H} {p : List MemPlace}
    (hv : Value.okWide Tryz.prog w r b0 83 v) (h : DataW.Trod enc Tryz.prog w base spare held 83 v d p) : ∃ ah nh ch aw nw cw xs ws, v = fv ah nh ch aw nw cw ∧ IsFlash8 w ah nh aw nw xs ws := by
  obtain ⟨v0, v1, y0, y1, n, rfl, _, _, h0, h1⟩ := Go.Joins.open_agg2 Tryz.underlying83 (by kernel_rfl) (by kernel_rfl) hv h
  obtain ⟨ah, nh, ch, xs, rfl, hr, hl, _, h8⟩ := open_bytes8c h0
  obtain ⟨aw, nw, cw, ws, rfl, hr2, hl2, h8w⟩ := open_writes8 h1
  exact ⟨ah, nh, ch, aw, nw, cw, xs, ws, rfl, ⟨hr, hl, hr2, hl2⟩, h8, h8w⟩
theorem putD_bytes {b : List Int} {d : WD} {n : Nat} (hb : Bytes8 b) (hd : Bytes8 d.xs) : Bytes8 (putD b d n) := by
  rw [bytes8_mem] at *
  intro x hx
  have hg : ∀ x ∈ growD b ((d.at_.toNat + 1) * 16), 0 ≤ x ∧ x ≤ 255 := fun x hx => by
    unfold growD at hx
    rcases List.mem_append.1 hx with h | h
    · exact hb x h
    · have := List.eq_of_mem_replicate h
      omega
  unfold putD putB at hx
  rcases List.mem_append.1 hx with h | h
  · rcases List.mem_append.1 h with h | h
    · exact hg x (List.mem_of_mem_take h)
    · exact hd x (List.mem_of_mem_take h)
  · exact hg x (List.mem_of_mem_drop h)
theorem readD_bytes : ∀ (ws : List WD) (b : List Int), Bytes8 b → (∀ d ∈ ws, Bytes8 d.xs) → Bytes8 (readD b ws)
  | [], _, hb, _ => hb
  | d :: ws, _, hb, hw => readD_bytes ws _ (putD_bytes hb (hw d (List.mem_cons_self ..))) (fun x hx => hw x (List.mem_cons_of_mem _ hx))
end Go.Proofs.YtcflepnckjappaaGreat

namespace Go.Proofs.YtcflepnckjappaaGreat
open Go.RowKit

theorem im_sl {w : World} {B : Nat} {v : Value} {hs : List ImH} (h : IOwn w B v hs) : ∃ a c, v = .slice a hs.length c := by
  rcases h.row.2 with ⟨e, h0⟩ | ⟨g, cap, cur, e, _⟩
  · rw [List.length_map] at h0
    exact ⟨none, 0, by rw [e, h0]⟩
  · rw [List.length_map] at e
    exact ⟨_, _, e⟩
theorem Made_reT : ∀ (L pre : List ImD), Made pre → Made (reT pre L)
  | [], pre, h => h
  | X :: l, pre, h => by
    unfold reT
    by_cases hx : reOK pre X = true
    · rw [if_pos hx]
      exact Made_reT l _ (h.snoc hx)
    · rw [if_neg hx]
      exact h
theorem reT_pre : ∀ (L pre : List ImD), ∃ k, reT pre L = pre ++ L.take k
  | [], pre => ⟨0, by simp [reT]⟩
  | X :: l, pre => by
    unfold reT
    by_cases hx : reOK pre X = true
    · rw [if_pos hx]
      obtain ⟨k, hk⟩ := reT_pre l (pre ++ [X])
      exact ⟨k + 1, by rw [hk]; simp⟩
    · rw [if_neg hx]
      exact ⟨0, by simp⟩
theorem take_sum {α : Type} (f : α → Nat) : ∀ (L : List α) (k : Nat), ((L.take k).map f).sum ≤ (L.map f).sum
  | [], k => by simp
  | X :: l, 0 => by simp
  | X :: l, k + 1 => by
    have := take_sum f l k
    simp only [List.take_succ_cons, List.map_cons, List.sum_cons]
    omega
theorem re_size {b : List Int} (h : b.length ≤ 2048) : (reV (reT [] (scanB b).1)).length ≤ 682 := by
  have h1 := (Made_reT (scanB b).1 [] Made.nil).len
  obtain ⟨k, hk⟩ := reT_pre (scanB b).1 []
  have h2 := take_sum (fun x : ImD => x.xs.length + 9) (scanB b).1 k
  have h3 := steps_sum (scanB_met b)
  have h4 := (scanB_met b).le
  rw [hk, List.nil_append] at h1 ⊢
  omega
theorem rv_size (xs : List Int) (ws : List WD) (h : okD xs.length ws = true) : (reV (rvL xs ws)).length ≤ 682 ∧ Made (rvL xs ws) := by
  have h1 := (scan_few h).1
  exact ⟨re_size h1, Made_reT _ _ Made.nil⟩
theorem VzOwn.lens {w : World} {B : Nat} {l f s : Sl} {hs : List SeH} {d : VsD} (h : VzOwn w B l f s hs d) : l.n = d.list.length ∧ f.n = d.fen.length ∧ s.n = d.ses.length :=
  ⟨owns_n h.vo, owns_n h.fo, by rw [← h.ss, List.length_map]; exact owns_n h.so.row⟩
set_option maxRecDepth 100000 in
set_option maxHeartbeats 4000000 in
theorem specRecover_any (b off n c : Nat) (aw : Option Addr) (nw cw : Nat) (xs : List Int) (ws : List WD) (w : World) (hR : Row w (some ⟨b, off, none⟩) n xs) (hW : WRow w aw nw ws) (hn : n ≤ 1048576) (hnw : nw ≤ 1048576) (h8 : Bytes8 xs) (h8w : ∀ d ∈ ws, Bytes8 d.xs) :
    Calls Tryz.prog 27 #[fv (some ⟨b, off, none⟩) n c aw nw cw] w fun e w' => RvRes xs ws w e w' := by
  have hxl := hR.1
  have H8 := hide (readD_bytes ws xs h8 h8w)
  clear h8 h8w
  have hwl := hW.1
  obtain ⟨w0, hw0⟩ : ∃ w0, w0 = (w.alloc (.cells #[.slice (some ⟨b, off, none⟩) n c, .slice aw nw cw] 32)).alloc (.cells #[.int .i64 0, .slice none 0 0, .slice none 0 0, .slice none 0 0] 29) := ⟨_, rfl⟩
  obtain ⟨b0, kf, kr, hz⟩ := twoBx hw0
  have HW := hide (hW.below b0)
  have HR := hide (row_grow hR b0)
  have B0 := hide b0
  have x0 := (heap_at kf 0).1
  have x1 := (heap_at kf 1).1
  have KR := hide kr
  have KF := hide kf
  clear hR hW b0 kr kf
  go_enter Tryz.func27, Tryz.ntmps27
  go_upto_region 1 with fail
  rw [← hw0]
  clear hw0
  go_wp2_with fail
  refine (specFlashOK_any (some ⟨b, off, none⟩) n c aw nw cw ws w0 (by unfold maxLen; omega) (by unfold maxLen; omega) (unhide HW)).mono ?_
  rintro e w1 ⟨rfl, hb1⟩
  have y0 := (hb1.cell (p := ⟨w.heap.size, 0, none⟩) (cell_lt x0)).trans x0
  have y1 := (hb1.cell (p := ⟨w.heap.size, 1, none⟩) (cell_lt x1)).trans x1
  have hs1 := hb1.size
  have W1 := hide ((unhide HW).below hb1)
  have R1 := hide (row_grow (unhide HR) hb1)
  have B1 := hide ((unhide B0).trans (hb1.mono (by omega)))
  have K1 := hide ((hb1.block (w.heap.size + 1) (blk_lt (unhide KR))).trans (unhide KR))
  clear HW HR B0 hb1 x0 x1 KR KF
  by_cases ho : okD n ws = true
  · rw [ho]
    obtain ⟨k1, k2, k3, k4⟩ := okD_parts ho
    have HO := hide (show okD xs.length ws = true by rw [hxl]; exact ho)
    have FW := hide (scan_few (unhide HO))
    have HP := hide (fun c => l02Read_any b off n c aw nw cw xs ws w1 (unhide R1) (unhide W1) k2 k1 (by omega) k4)
    clear k1 k2 k3 k4 ho
    go_wp2_with fail
    refine (unhide HP _).mono ?_
    rintro e w2 ⟨g, cap, rfl, hO, hb2⟩
    have M3 := hide (mine_row8 (mine_of_owns hO))
    have B3 := hide ((unhide B1).trans (hb2.mono (by omega)))
    have K3 := hide ((hb2.block (w.heap.size + 1) (blk_lt (unhide K1))).trans (unhide K1))
    clear hO hb2 y0 y1 HP K1 B1
    go_wp2_with fail
    refine (l03ScanC_any _ (readD xs ws).length cap (readD xs ws) w2 (unhide M3).1 (unhide H8) (by have := (unhide FW).1; omega) (unhide M3).2.2.1 (unhide M3).2.2.2).mono ?_
    rintro e w4 ⟨v, hs, rfl, hI, hX, hb4, hC⟩
    have X4 := hide hX
    have S4 := hide (steps_ok (unhide H8) (scanB_met (readD xs ws)))
    have N4 := hide (scan_few2 (unhide FW).1)
    have B4 := hide ((unhide B3).trans (hb4.mono (unhide B3).size))
    have K4 := hide ((hb4.block (w.heap.size + 1) (blk_lt (unhide K3))).trans (unhide K3))
    obtain ⟨a5, c5, rfl⟩ := im_sl hI
    have LR := hide (l07Recover_any a5 hs.length c5 w2.heap.size hs w4 hI (by rw [unhide X4]; exact unhide S4) hC (by have := unhide N4; rw [← unhide X4, List.length_map] at this; omega))
    clear hI hX hb4 hC M3 B3 K3
    go_wp2_with fail
    refine (unhide LR).mono ?_
    rw [unhide X4]
    rintro e w5 ⟨⟨la, ln, lc⟩, ⟨fa, fn, fc⟩, ⟨sa, sn, sc⟩, ss, rfl, hV, hb5⟩
    have LR5 := hide (show reT [] (scanB (readD xs ws)).1 = rvL xs ws from rfl)
    rw [unhide LR5] at hV ⊢
    clear LR LR5 X4 S4
    have bT := (Below.refl w5.heap.size w5).alloc (Nat.le_refl _) (.cells (vzC (reN (rvL xs ws)) ⟨la, ln, lc⟩ ⟨fa, fn, fc⟩ ⟨sa, sn, sc⟩) 29)
    have hln := hV.lens
    have hsi := rv_size xs ws (unhide HO)
    have OW := hide (l06Own_any (reD (rvL xs ws)) ⟨la, ln, lc⟩ ⟨fa, fn, fc⟩ ⟨sa, sn, sc⟩ ss (w5.alloc (.cells (vzC (reN (rvL xs ws)) ⟨la, ln, lc⟩ ⟨fa, fn, fc⟩ ⟨sa, sn, sc⟩) 29)) (hV.reads.below bT) (by have h1 := hln.1; have h2 : (reD (rvL xs ws)).list.length ≤ 682 := hsi.1; simp only at h1 ⊢; omega) (by have h1 := hln.2.1; have h2 : (reD (rvL xs ws)).fen.length = 0 := rfl; simp only at h1 ⊢; omega) (by have h1 := hln.2.2; have h2 : (reD (rvL xs ws)).ses.length = 4 := List.length_replicate; simp only at h1 ⊢; omega) (fun x hx => by
      obtain ⟨j, hj, rfl⟩ := List.getElem_of_mem hx
      have h1 := (SeIn.row hV.so.reads hj).1
      have h2 := hV.ss
      have h3 : ss[j].X ∈ (reD (rvL xs ws)).ses := by rw [← h2]; exact List.mem_map.2 ⟨ss[j], List.getElem_mem hj, rfl⟩
      rw [List.eq_of_mem_replicate h3] at h1
      simp only [clS, List.length_nil] at h1
      omega))
    have B5 := hide ((unhide B4).trans ((hb5.trans (bT.mono hb5.size)).mono (unhide B4).size))
    have K5 := hide (((hb5.trans (bT.mono hb5.size)).block (w.heap.size + 1) (blk_lt (unhide K4))).trans (unhide K4))
    clear hV hb5 bT K4 B4 hln hsi
    unfold vzC at OW ⊢
    have RN := hide (show (reD (rvL xs ws)).next = reN (rvL xs ws) from rfl)
    rw [unhide RN] at OW
    simp only at OW ⊢
    go_wp2_with fail
    refine (unhide OW).mono ?_
    rintro e w6 ⟨⟨l1, l2, l3⟩, ⟨f1, f2, f3⟩, ⟨s1, s2, s3⟩, ss6, rfl, hV6, hb6⟩
    rw [unhide RN]
    unfold vzC
    simp only
    have hK6 := (hb6.block (w.heap.size + 1) (blk_lt (unhide K5))).trans (unhide K5)
    have c0 := (heap_at hK6 0).1
    have c1 := (heap_at hK6 1).1
    have c2 := (heap_at hK6 2).1
    have c3 := (heap_at hK6 3).1
    have g0 := (heap_at hK6 0).2
    have g1 := (heap_at hK6 1).2
    have g2 := (heap_at hK6 2).2
    have g3 := (heap_at hK6 3).2
    have hz5 := (unhide B5).size
    have b6 := (unhide B5).trans (hb6.mono hz5)
    have h4 := blk_lt (unhide K5)
    have hS := set4_wr w6 (w.heap.size + 1) (.int .i64 (reN (rvL xs ws))) (.slice l1 l2 l3) (.slice f1 f2 f3) (.slice s1 s2 s3)
    have Z := hide (show RvRes xs ws w (.returned (.tuple #[.agg #[.int .i64 (reN (rvL xs ws)), .slice l1 l2 l3, .slice f1 f2 f3, .slice s1 s2 s3], .int .i64 ((rvL xs ws).length : Int), .int .i64 0])) _ from by
      unfold RvRes
      rw [if_pos (unhide HO)]
      exact ⟨⟨l1, l2, l3⟩, ⟨f1, f2, f3⟩, ⟨s1, s2, s3⟩, ss6, rfl, (hV6.wr hS (fun i e => by rw [e]; exact h4)).dn hz5, b6.trans (WrB.below hS (fun i e => by rw [e]; omega) b6.size)⟩)
    clear hS b6 hV6 hb6 hK6 OW RN K5 B5
    go_wp2_with fail
    refine bodyPost_ret (v := .tuple #[.agg #[.int .i64 (reN (rvL xs ws)), .slice l1 l2 l3, .slice f1 f2 f3, .slice s1 s2 s3], .int .i64 ((rvL xs ws).length : Int), .int .i64 0]) (by simp [results, Tryz.results27, go_sem, *]) rfl ?_
    exact unhide Z
  · have ho : okD n ws = false := by simpa using ho
    rw [ho]
    have hK6 := unhide K1
    have c0 := (heap_at hK6 0).1
    have c1 := (heap_at hK6 1).1
    have c2 := (heap_at hK6 2).1
    have c3 := (heap_at hK6 3).1
    have g0 := (heap_at hK6 0).2
    have g1 := (heap_at hK6 1).2
    have g2 := (heap_at hK6 2).2
    have g3 := (heap_at hK6 3).2
    have hS := set4_wr w1 (w.heap.size + 1) (.int .i64 0) (.slice none 0 0) (.slice none 0 0) (.slice none 0 0)
    have Z := hide (show RvRes xs ws w (.returned (.tuple #[.agg #[.int .i64 0, .slice none 0 0, .slice none 0 0, .slice none 0 0], .int .i64 0, .int .i64 1])) _ from by
      unfold RvRes
      rw [if_neg (by rw [hxl, ho]; decide)]
      exact ⟨rfl, (unhide B1).trans (WrB.below hS (fun i e => by rw [e]; omega) (unhide B1).size)⟩)
    clear hS hK6 K1 B1 W1 R1 y0 y1 H8
    go_wp2_with fail
    refine bodyPost_ret (v := .tuple #[.agg #[.int .i64 0, .slice none 0 0, .slice none 0 0, .slice none 0 0], .int .i64 0, .int .i64 1]) (by simp [results, Tryz.results27, go_sem, *]) rfl ?_
    exact unhide Z
end Go.Proofs.YtcflepnckjappaaGreat

namespace Go.Proofs.YtcflepnckjappaaGreat
open Go.RowKit Go.Maps

theorem dev_drew {w : World} {base p N : Nat} {S : DS} (h : Dev w base p N S) : Dev w.drew base p N S := by
  obtain ⟨mh, mr, v, hd⟩ := h
  exact ⟨mh, mr, v, hd.kept (fun _ _ _ => rfl)⟩
set_option maxRecDepth 100000 in
set_option maxHeartbeats 4000000 in
theorem deviceOf_any (ah : Option Addr) (m ch : Nat) (aw : Option Addr) (nw cw : Nat) (xs : List Int) (ws : List WD) (w : World) (hR : Row w ah (m * 16) xs) (hW : WRow w aw nw ws) (hch : m * 16 ≤ ch) (hch2 : ch ≤ maxLen) (h2 : m ≤ 128) (h3 : nw ≤ 4096) (hall : ∀ i (hi : i < ws.length), okW ws[i] = true) :
    Calls Tryz.prog 60 #[fv ah (m * 16) ch aw nw cw] w fun e w' => e = .returned (.pointer (some ⟨w.heap.size + 1 + 1, 0, none⟩)) ∧ Dev w' w.heap.size (w.heap.size + 1 + 1) 5000 (devDS xs m ws) ∧ Below w.heap.size w w' := by
  have HR := hide hR
  have HW := hide hW
  have HA := hide hall
  have hxl := hR.1
  clear hR hW hall
  have hmm := @run_makeMap Tryz.prog
  have hdiv : ((m : Int) * 16).tdiv 16 = (m : Int) := by rw [Int.tdiv_eq_ediv_of_nonneg (by omega)]; omega
  have L0 := hide (Laying.start (w := w) (ah := ah) (nh := m * 16) (ch := ch) (aw := aw) (nw := nw) (cw := cw) (xs := xs))
  go_enter Tryz.func60, Tryz.ntmps60
  go_wp2_with fail
  go_loopw [15] (fun i wr => ∃ k : Nat, k ≤ m ∧ i = .int .i64 k ∧ Hid (Laying w wr ah (m * 16) ch aw nw cw xs k)) (fun i _ => m - (intOf i).toNat)
  case atStart => exact ⟨0, Nat.zero_le _, rfl, unhide L0⟩
  case round =>
    clear hmm L0
    obtain ⟨k, hk, rfl, hL⟩ := hrel
    by_cases hlt : k < m
    · obtain ⟨bh, oh, rfl, _⟩ := (unhide HR).2 0 (by omega)
      obtain ⟨cs, hcs⟩ : ∃ cs, cs = ((secAt xs k).map (Value.int .u8)).toArray := ⟨_, rfl⟩
      have h16 := secAt_len hxl hlt
      have hsv : secV (secAt xs k) = .agg cs := by rw [hcs]; rfl
      have hz : cs.size = 16 := by rw [hcs]; simp [h16]
      have Y : ∀ j, j < 16 → wr.cell? ⟨bh, oh + k * 16 + j, none⟩ = cs[j]? := fun j hj => by
        obtain ⟨b', o', e, hc⟩ := (row_grow (unhide HR) (unhide hL).bel).2 (k * 16 + j) (by omega)
        injection e with e
        injection e with e1 e2
        subst e1 e2
        rw [Nat.add_assoc, hc, hcs]
        have h1 : k * 16 + j < xs.length := by omega
        simp [List.getD, h1, secAt, hj]
      have y0 : wr.cell? ⟨bh, oh + k * 16, none⟩ = some cs[0] := (Y 0 (by omega)).trans (Array.getElem?_eq_getElem (by omega))
      have y1 : wr.cell? ⟨bh, oh + k * 16 + 1, none⟩ = some cs[1] := (Y 1 (by omega)).trans (Array.getElem?_eq_getElem (by omega))
      have y2 : wr.cell? ⟨bh, oh + k * 16 + 2, none⟩ = some cs[2] := (Y 2 (by omega)).trans (Array.getElem?_eq_getElem (by omega))
      have y3 : wr.cell? ⟨bh, oh + k * 16 + 3, none⟩ = some cs[3] := (Y 3 (by omega)).trans (Array.getElem?_eq_getElem (by omega))
      have y4 : wr.cell? ⟨bh, oh + k * 16 + 4, none⟩ = some cs[4] := (Y 4 (by omega)).trans (Array.getElem?_eq_getElem (by omega))
      have y5 : wr.cell? ⟨bh, oh + k * 16 + 5, none⟩ = some cs[5] := (Y 5 (by omega)).trans (Array.getElem?_eq_getElem (by omega))
      have y6 : wr.cell? ⟨bh, oh + k * 16 + 6, none⟩ = some cs[6] := (Y 6 (by omega)).trans (Array.getElem?_eq_getElem (by omega))
      have y7 : wr.cell? ⟨bh, oh + k * 16 + 7, none⟩ = some cs[7] := (Y 7 (by omega)).trans (Array.getElem?_eq_getElem (by omega))
      have y8 : wr.cell? ⟨bh, oh + k * 16 + 8, none⟩ = some cs[8] := (Y 8 (by omega)).trans (Array.getElem?_eq_getElem (by omega))
      have y9 : wr.cell? ⟨bh, oh + k * 16 + 9, none⟩ = some cs[9] := (Y 9 (by omega)).trans (Array.getElem?_eq_getElem (by omega))
      have y10 : wr.cell? ⟨bh, oh + k * 16 + 10, none⟩ = some cs[10] := (Y 10 (by omega)).trans (Array.getElem?_eq_getElem (by omega))
      have y11 : wr.cell? ⟨bh, oh + k * 16 + 11, none⟩ = some cs[11] := (Y 11 (by omega)).trans (Array.getElem?_eq_getElem (by omega))
      have y12 : wr.cell? ⟨bh, oh + k * 16 + 12, none⟩ = some cs[12] := (Y 12 (by omega)).trans (Array.getElem?_eq_getElem (by omega))
      have y13 : wr.cell? ⟨bh, oh + k * 16 + 13, none⟩ = some cs[13] := (Y 13 (by omega)).trans (Array.getElem?_eq_getElem (by omega))
      have y14 : wr.cell? ⟨bh, oh + k * 16 + 14, none⟩ = some cs[14] := (Y 14 (by omega)).trans (Array.getElem?_eq_getElem (by omega))
      have y15 : wr.cell? ⟨bh, oh + k * 16 + 15, none⟩ = some cs[15] := (Y 15 (by omega)).trans (Array.getElem?_eq_getElem (by omega))
      have p0 := (unhide hL).p0
      have hA := fun (w : World) => run_arrayAt (P := Tryz.prog) (w := w) 226 5 16 (some ⟨bh, oh + k * 16, none⟩) 16 16 Tryz.underlying226 (Nat.le_refl _)
      have hP := put_any (w.heap.size + 1 + 1) 0 (w.heap.size + 1) k k k (secFn xs k) (secAt xs k) wr h16 (unhide hL).held (by unfold maxLen; omega) (by omega) (unhide hL).c0 (unhide hL).c1 ((unhide hL).free 0) (by omega)
      have hP2 := put_any (w.heap.size + 1 + 1) 0 (w.heap.size + 1) k k k (secFn xs k) (secAt xs k) wr.drew h16 (unhide hL).held (by unfold maxLen; omega) (by omega) (unhide hL).c0 (unhide hL).c1 ((unhide hL).free 0) (by omega)
      rw [hsv, show (Value.agg cs) = .agg #[cs[0], cs[1], cs[2], cs[3], cs[4], cs[5], cs[6], cs[7], cs[8], cs[9], cs[10], cs[11], cs[12], cs[13], cs[14], cs[15]] by rw [eta16 hz]] at hP hP2
      have HP := hide hP
      have HP2 := hide hP2
      clear hP hP2 hcs hsv Y
      go_wp2_with fail
      go_region_with (first
        | (go_at_call 141; (first | refine (sectorOf_any bh oh (m * 16) ch k wr.drew (by omega) hch hch2).mono ?_ | refine (sectorOf_any bh oh (m * 16) ch k wr (by omega) hch hch2).mono ?_); rintro e w3 ⟨rfl, rfl⟩)
        | (go_at_call 140; (first | refine (unhide HP2).mono ?_ | refine (unhide HP).mono ?_); rintro e w3 ⟨rfl, hm3, hc3, hp3⟩))
      all_goals
        have L3 := hide ((unhide hL).put hm3 hc3 ⟨hp3.os, hp3.tape, hp3.output, hp3.size, hp3.block, hp3.cell, hp3.frozen, hp3.kind⟩)
        clear hm3 hc3 hp3 hL
        go_wp2_with fail
        go_roundw
        case rel => exact ⟨k + 1, by omega, by go_num, unhide L3⟩
        case measure => simp [intOf]; omega
    · obtain rfl : k = m := by omega
      have c2 := (unhide hL).c2
      have c3 := (unhide hL).c3
      have f2 := (unhide hL).free 2
      have f3 := (unhide hL).free 3
      have hsz := (unhide hL).size
      go_wp2_with fail
      refine (secs_clone_any (w.heap.size + 1 + 1) 0 (w.heap.size + 1) k k (secFn xs k) wr (unhide hL).held (unhide hL).c0 (unhide hL).c1).mono ?_
      rintro e w4 ⟨g, rfl, hg, hs4, hb4⟩
      have d2 := (hb4.cell (p := ⟨w.heap.size + 1 + 1, 2, none⟩) hsz).trans c2
      have d3 := (hb4.cell (p := ⟨w.heap.size + 1 + 1, 3, none⟩) hsz).trans c3
      have g2 := (hb4.frozen (p := ⟨w.heap.size + 1 + 1, 2, none⟩) hsz).trans f2
      have g3 := (hb4.frozen (p := ⟨w.heap.size + 1 + 1, 3, none⟩) hsz).trans f3
      have q1 : w4.cell? ⟨w.heap.size, 1, none⟩ = some (.slice aw nw cw) := (hb4.cell (p := ⟨w.heap.size, 1, none⟩) (by simp; omega)).trans (unhide hL).p1
      have D5 := hide ((unhide hL).cloned hxl h2 hb4 hg hs4)
      have hs5 : w.heap.size + 1 + 1 < w4.heap.size := Nat.lt_of_lt_of_le hsz hb4.size
      clear c2 c3 f2 f3 hg hs4 hb4 hL hdiv hsz
      go_wp2_with fail
      clear d2 d3 g2 g3
      obtain ⟨w5, hw5⟩ : ∃ w5, w5 = (w4.setCell ⟨w.heap.size + 1 + 1, 2, none⟩ (.int .i64 (k : Int))).setCell ⟨w.heap.size + 1 + 1, 3, none⟩ (.map (some g)) := ⟨_, rfl⟩
      rw [← hw5] at D5 ⊢
      clear hw5 q1 hs5
      go_loopw [40] (fun i wr => ∃ k2 : Nat, k2 ≤ nw ∧ i = .int .i64 k2 ∧ Hid (Dev wr w.heap.size (w.heap.size + 1 + 1) (k + k2) (devDS xs k (ws.take k2))) ∧ Below w.heap.size w wr) (fun i _ => nw - (intOf i).toNat)
      case atStart => exact ⟨0, Nat.zero_le _, rfl, ⟨_, _, _, by rw [List.take_zero]; exact (unhide D5).1⟩, (unhide D5).2⟩
      case round =>
        clear D5
        obtain ⟨k2, hk2, rfl, hD, hb⟩ := hrel
        have hwl := (unhide HW).1
        by_cases hlt : k2 < nw
        · have hk3 : k2 < ws.length := by omega
          obtain ⟨bw, ow, rfl, e0, ad, cd, e1, _, rd⟩ := ((unhide HW).below hb).2 k2 hk3
          obtain ⟨n, s, hpd, hn, h16⟩ := okW_form (unhide HA k2 hk3)
          have hstep := devDS_snoc xs k ws k2 hk3
          rw [hpd] at e0 e1 rd hstep
          simp only at e0 e1 rd
          rw [h16] at e1 rd
          obtain ⟨bd, od, rfl, _⟩ := rd.2 0 (by omega)
          obtain ⟨cs, hcs⟩ : ∃ cs, cs = (s.map (Value.int .u8)).toArray := ⟨_, rfl⟩
          have hsv : secV s = .agg cs := by rw [hcs]; rfl
          have hz : cs.size = 16 := by rw [hcs]; simp [h16]
          have hsz := hb.size
          obtain ⟨wx, hwx⟩ : ∃ wx, wx = wr.alloc (.cells #[.int .i64 (n : Int), .slice (some ⟨bd, od, none⟩) 16 cd] 214) := ⟨_, rfl⟩
          have hbx : Below wr.heap.size wr wx := by rw [hwx]; exact (Below.refl _ _).alloc (Nat.le_refl _) _
          have Y : ∀ j, j < 16 → wx.cell? ⟨bd, od + j, none⟩ = cs[j]? := fun j hj => by
            obtain ⟨b', o', e, hc⟩ := (row_grow rd hbx).2 j hj
            injection e with e
            injection e with e1 e2
            subst e1 e2
            rw [hc, hcs]
            have h2 : j < s.length := by omega
            simp [List.getD, h2]
          have y0 : wx.cell? ⟨bd, od, none⟩ = some cs[0] := (Y 0 (by omega)).trans (Array.getElem?_eq_getElem (by omega))
          have y1 : wx.cell? ⟨bd, od + 1, none⟩ = some cs[1] := (Y 1 (by omega)).trans (Array.getElem?_eq_getElem (by omega))
          have y2 : wx.cell? ⟨bd, od + 2, none⟩ = some cs[2] := (Y 2 (by omega)).trans (Array.getElem?_eq_getElem (by omega))
          have y3 : wx.cell? ⟨bd, od + 3, none⟩ = some cs[3] := (Y 3 (by omega)).trans (Array.getElem?_eq_getElem (by omega))
          have y4 : wx.cell? ⟨bd, od + 4, none⟩ = some cs[4] := (Y 4 (by omega)).trans (Array.getElem?_eq_getElem (by omega))
          have y5 : wx.cell? ⟨bd, od + 5, none⟩ = some cs[5] := (Y 5 (by omega)).trans (Array.getElem?_eq_getElem (by omega))
          have y6 : wx.cell? ⟨bd, od + 6, none⟩ = some cs[6] := (Y 6 (by omega)).trans (Array.getElem?_eq_getElem (by omega))
          have y7 : wx.cell? ⟨bd, od + 7, none⟩ = some cs[7] := (Y 7 (by omega)).trans (Array.getElem?_eq_getElem (by omega))
          have y8 : wx.cell? ⟨bd, od + 8, none⟩ = some cs[8] := (Y 8 (by omega)).trans (Array.getElem?_eq_getElem (by omega))
          have y9 : wx.cell? ⟨bd, od + 9, none⟩ = some cs[9] := (Y 9 (by omega)).trans (Array.getElem?_eq_getElem (by omega))
          have y10 : wx.cell? ⟨bd, od + 10, none⟩ = some cs[10] := (Y 10 (by omega)).trans (Array.getElem?_eq_getElem (by omega))
          have y11 : wx.cell? ⟨bd, od + 11, none⟩ = some cs[11] := (Y 11 (by omega)).trans (Array.getElem?_eq_getElem (by omega))
          have y12 : wx.cell? ⟨bd, od + 12, none⟩ = some cs[12] := (Y 12 (by omega)).trans (Array.getElem?_eq_getElem (by omega))
          have y13 : wx.cell? ⟨bd, od + 13, none⟩ = some cs[13] := (Y 13 (by omega)).trans (Array.getElem?_eq_getElem (by omega))
          have y14 : wx.cell? ⟨bd, od + 14, none⟩ = some cs[14] := (Y 14 (by omega)).trans (Array.getElem?_eq_getElem (by omega))
          have y15 : wx.cell? ⟨bd, od + 15, none⟩ = some cs[15] := (Y 15 (by omega)).trans (Array.getElem?_eq_getElem (by omega))
          have x0 : wx.cell? ⟨wr.heap.size, 0, none⟩ = some (.int .i64 (n : Int)) := by rw [hwx]; exact (cell_new rfl).trans rfl
          have x1 : wx.cell? ⟨wr.heap.size, 1, none⟩ = some (.slice (some ⟨bd, od, none⟩) 16 cd) := by rw [hwx]; exact (cell_new rfl).trans rfl
          have hA := fun (w : World) => run_arrayAt (P := Tryz.prog) (w := w) 226 5 16 (some ⟨bd, od, none⟩) 16 cd Tryz.underlying226 (Nat.le_refl _)
          have hDx : Dev wx w.heap.size (w.heap.size + 1 + 1) (k + k2) (devDS xs k (ws.take k2)) := by
            obtain ⟨mh, mr, v, hd⟩ := unhide hD
            exact ⟨mh, mr, v, hd.below hbx⟩
          have hP := fun (x : World) (hx : Dev x w.heap.size (w.heap.size + 1 + 1) (k + k2) (devDS xs k (ws.take k2))) => wait_any w.heap.size (w.heap.size + 1 + 1) (k + k2) n (devDS xs k (ws.take k2)) s x hx (by unfold maxLen; omega) (by rw [(devDS_ws xs k (ws.take k2)).1, List.length_take]; omega) h16 hn
          rw [hsv, show (Value.agg cs) = .agg #[cs[0], cs[1], cs[2], cs[3], cs[4], cs[5], cs[6], cs[7], cs[8], cs[9], cs[10], cs[11], cs[12], cs[13], cs[14], cs[15]] by rw [eta16 hz]] at hP
          have HP := hide hP
          have HD := hide hDx
          have HB := hide (hb.trans (hbx.mono hsz))
          have hstep2 : devDS xs k (ws.take (k2 + 1)) = { devDS xs k (ws.take k2) with rc := max (devDS xs k (ws.take k2)).rc (n + 1), rf := updS (devDS xs k (ws.take k2)).rf n s, ws := (devDS xs k (ws.take k2)).ws ++ [⟨n, s⟩] } := by
            rw [hstep]; rfl
          have HS := hide hstep2
          clear hP hDx hbx hcs hsv Y rd hstep hstep2 hpd hb hD
          go_wp2_with fail
          rw [← hwx]
          clear hwx e0 e1
          go_region_with (go_at_call 143; (first | refine (unhide HP wx.drew (dev_drew (unhide HD))).mono ?_ | refine (unhide HP wx (unhide HD)).mono ?_); rintro e w6 ⟨rfl, hd6, hb6⟩)
          all_goals
            have D6 := hide (show Dev w6 w.heap.size (w.heap.size + 1 + 1) (k + (k2 + 1)) (devDS xs k (ws.take (k2 + 1))) by rw [unhide HS]; exact hd6)
            have B6 := hide (show Below w.heap.size w w6 from (unhide HB).trans ⟨hb6.os, hb6.tape, hb6.output, hb6.size, hb6.block⟩)
            clear hd6 hb6 HD HB HS HP
            go_wp2_with fail
            go_roundw
            case rel => exact ⟨k2 + 1, by omega, by go_num, unhide D6, unhide B6⟩
            case measure => simp [intOf]; omega
        · obtain rfl : k2 = nw := by omega
          go_wp2_with fail
          go_ret
          refine ⟨rfl, ?_, hb⟩
          obtain ⟨mh, mr, v, hd⟩ := unhide hD
          rw [List.take_of_length_le (by omega)] at hd
          exact ⟨mh, mr, v, hd.mono (by omega)⟩
end Go.Proofs.YtcflepnckjappaaGreat

namespace Go.Proofs.YtcflepnckjappaaGreat
open Go.RowKit Go.Maps

/-- The law of a sector that is laid into the box that was made last. -/
theorem wpList_box (w : World) {ops : Array Oper} {rest : List Oper} {o : Oper} {a : Act} {Q : Exit → Act → World → Prop} (hg : o.guard = none) (x y : Operand) (hop : o.op = Op.store 226 x y) (c c' : Array Value)
    (hx : a.eval x = .pointer (some ⟨w.heap.size, 0, none⟩)) (hy : a.eval y = .agg c') (hc : c.size = 16) (hc' : c'.size = 16) (h1 : c'.all (·.oneCell') = true)
    (hK : wpList Tryz.prog ops Q rest (a.put o.dst undef) (w.alloc (.cells c' 226))) : wpList Tryz.prog ops Q (o :: rest) a (w.alloc (.cells c 226)) := by
  refine wpList_plain hg fun K' hK' => ?_
  have hrun := run_storeAt_new (P := Tryz.prog) w 226 c c' (by rw [sec_info, hc']) (by rw [hc, hc']) h1
  unfold Oper.wp
  simp [execOp, hop, hx, hy, hrun, Result.andThen]
  exact hK' _ _ hK
theorem sec_one (s : List Int) : ((s.map (Value.int .u8)).toArray).all (·.oneCell') = true := all_oneCell_toArray (all_u8 s)
theorem secBytes_step (c k : Nat) (f : Nat → List Int) (h : ∀ i, (f i).length = 16) (hk : k < c) : putB (secBytes k f ++ List.replicate ((c - k) * 16) 0) (k * 16) (f k) = secBytes (k + 1) f ++ List.replicate ((c - (k + 1)) * 16) 0 := by
  have hl := secBytes_len f h k
  have e : secBytes (k + 1) f = secBytes k f ++ f k := by
    unfold secBytes
    rw [List.range_succ, List.flatMap_append]; simp
  unfold putB
  rw [e, List.take_append_of_le_length (by omega), List.take_of_length_le (by omega), h k, List.drop_append, List.drop_eq_nil_of_le (by omega), List.nil_append, hl, List.drop_replicate]
  congr 2
  omega
set_option maxRecDepth 100000 in
set_option maxHeartbeats 2000000 in
theorem bytes_any (p o m N c : Nat) (f : Nat → List Int) (w : World) (hm : SecMap w m N f) (h16 : ∀ i, (f i).length = 16) (hc : c ≤ 128) (c0 : w.cell? ⟨p, o, none⟩ = some (.int .i64 (c : Int))) (c1 : w.cell? ⟨p, o + 1, none⟩ = some (.map (some m))) :
    Calls Tryz.prog 61 #[.pointer (some ⟨p, o, none⟩)] w fun e w' => e = .returned (.slice (some ⟨w.heap.size, 0, none⟩) (c * 16) (c * 16)) ∧ Mine w' w.heap.size (.slice (some ⟨w.heap.size, 0, none⟩) (c * 16) (c * 16)) (secBytes c f) ∧ Below w.heap.size w w' := by
  obtain ⟨i0, hi, hz0, hz1, hz2⟩ := info_parts Tryz.infoU8
  have hl : p < w.heap.size := cell_lt c0
  have HM := hide hm
  have H16 := hide h16
  clear hm h16
  go_enter Tryz.func61, Tryz.ntmps61
  go_wp2_with (at_make; refine wpList_make_full _ rfl _ _ 22 rfl w.heap.size 5 i0 (.int .u8 0) 1 Tryz.underlying22 hi hz0 hz1 _ _ _ _ (c * 16) rfl rfl (by go_num) rfl (by rw [hz2]; omega) (by unfold maxLen; omega) (Nat.le_refl _) ?_)
  intro w1 hown hgrow
  rw [toList_madeCells_one] at hown
  have hbel : Below w.heap.size w w1 := (Below.refl _ _).grown hgrow (Nat.le_refl _) (fun k hk => by cases hk)
  have hB := buf_made hown
  clear hown hgrow
  have d0 := (hbel.cell (p := ⟨p, o, none⟩) hl).trans c0
  go_wp2_with fail
  clear d0 c0
  go_loopw [16] (fun i wr => ∃ k : Nat, k ≤ c ∧ i = .int .i64 k ∧ Hid (Buf wr w.heap.size (secBytes k f ++ List.replicate ((c - k) * 16) 0)) ∧ Below w.heap.size w wr) (fun i _ => c - (intOf i).toNat)
  case atStart => exact ⟨0, Nat.zero_le _, rfl, hB, hbel⟩
  case round =>
    clear hB hbel
    obtain ⟨k, hk, rfl, hB, hb⟩ := hrel
    by_cases hlt : k < c
    · have d1 := (hb.cell (p := ⟨p, o + 1, none⟩) hl).trans c1
      have hmr : SecMap wr m N f := (unhide HM).below hb (unhide HM).lt
      have hk16 := unhide H16 k
      have hsz := hb.size
      have hgl := (unhide hB).lt
      go_wp2_with (first
        | (at_lookup; refine wpList_lookup_sec _ rfl _ _ rfl m N f k rfl rfl hmr (by omega) ?_)
        | (refine wpList_box _ rfl _ _ rfl _ ((f k).map (Value.int .u8)).toArray rfl rfl rfl (by simp [hk16]) (sec_one _) ?_))
      obtain ⟨wx, hwx⟩ : ∃ wx, wx = wr.alloc (.cells ((f k).map (Value.int .u8)).toArray 226) := ⟨_, rfl⟩
      rw [← hwx]
      have hbx : Below wr.heap.size wr wx := by rw [hwx]; exact (Below.refl _ _).alloc (Nat.le_refl _) _
      have hBx : Buf wx w.heap.size (secBytes k f ++ List.replicate ((c - k) * 16) 0) := (unhide hB).block (hbx.block _ hgl)
      have hRx : Row wx (some ⟨wr.heap.size, 0, none⟩) (f k).length (f k) := ⟨rfl, fun i hi => ⟨_, 0, rfl, by rw [hwx, Nat.zero_add, cell_new rfl]; simp [List.getD, hi]⟩⟩
      obtain ⟨w2, hcp, hB2, hO2⟩ := Buf.copy (w := wx.drew) (o := k * 16) hBx hRx (by rw [hk16, List.length_append, secBytes_len f (unhide H16)]; simp; omega) 16 16 16 16 (by rw [hk16]; rfl)
      rw [secBytes_step c k f (unhide H16) hlt] at hB2
      rw [hk16] at hcp
      have hS := sectorOf_any w.heap.size 0 (c * 16) (c * 16) k
      rw [Nat.zero_add] at hS
      have HS := hide (fun w => hS w (by omega) (Nat.le_refl _) (by unfold maxLen; omega))
      have HB2 := hide hB2
      have HO := hide (show Below w.heap.size w w2 from (hb.trans (hbx.mono hsz)).trans (show Below w.heap.size wx w2 from have h := hO2.below (B := w.heap.size) (Nat.le_refl _); ⟨h.os, h.tape, h.output, h.size, h.block⟩))
      clear hwx hbx hBx hRx hB2 hO2 hS hb hmr hB d1
      go_wp2_with fail
      go_region_with (go_at_call 141; refine (unhide HS _).mono ?_; rintro e w3 ⟨rfl, rfl⟩)
      all_goals
        clear hcp
        go_wp2_with fail
        go_roundw
        case rel => exact ⟨k + 1, by omega, by go_num, unhide HB2, unhide HO⟩
        case measure => simp [intOf]; omega
    · obtain rfl : k = c := by omega
      have M := hide (show Mine wr w.heap.size (.slice (some ⟨w.heap.size, 0, none⟩) (k * 16) (k * 16)) (secBytes k f) from by
        have hB2 := unhide hB
        simp only [Nat.sub_self, Nat.zero_mul, List.replicate_zero, List.append_nil] at hB2
        have := hB2.mine (Nat.le_refl _) (by rw [secBytes_len f (unhide H16)]; unfold maxLen; omega)
        rwa [secBytes_len f (unhide H16)] at this)
      go_wp2_with fail
      go_ret
      exact ⟨rfl, unhide M, hb⟩
end Go.Proofs.YtcflepnckjappaaGreat

namespace Go.Proofs.YtcflepnckjappaaGreat
open Go.RowKit

set_option maxHeartbeats 1000000 in
theorem implFlashOK_any (ah : Option Addr) (nh ch : Nat) (aw : Option Addr) (nw cw : Nat) (ws : List WD) (w : World) (hnh : nh ≤ maxLen) (hn : nw ≤ maxLen) (hr : WRow w aw nw ws) :
    Calls Tryz.prog 58 #[fv ah nh ch aw nw cw] w fun e w' => e = .returned (.bool (okD nh ws)) ∧ Below w.heap.size w w' := by
  have L := hide hr.1
  have R := hide hr.2
  clear hr
  unfold maxLen at hnh hn
  have t1 : ∀ x : Nat, (x : Int).tmod 16 = ((x % 16 : Nat) : Int) := fun x => by rw [Int.tmod_eq_emod_of_nonneg (by omega)]; omega
  have B0 : ∀ o, Below w.heap.size w (w.alloc o) := fun o => (Below.refl _ _).alloc (Nat.le_refl _) _
  by_cases h1 : nh % 16 = 0
  · have q1 : ((nh : Int).tmod 16 != 0) = false := by rw [t1, h1]; rfl
    by_cases h2 : nh ≤ 2048
    · have q2 : decide ((2048 : Int) < (nh : Int)) = false := by simp; omega
      by_cases h3 : nw ≤ 4096
      · have q3 : decide ((4096 : Int) < (nw : Int)) = false := by simp; omega
        have hF := hide (okD_all (ws := ws) (nh := nh) ⟨h1, h2, by rw [unhide L]; exact h3⟩)
        clear t1
        go_enter Tryz.func58, Tryz.ntmps58
        go_wp2_with fail
        go_loopw [25] (fun i wr => ∃ k : Nat, k ≤ nw ∧ i = .int .i64 k ∧ Hid (∀ i (hi : i < ws.length), i < k → okW ws[i] = true) ∧ Below w.heap.size w wr) (fun i _ => nw - (intOf i).toNat)
        case atStart => exact ⟨0, Nat.zero_le _, rfl, fun i _ hi => absurd hi (Nat.not_lt_zero _), B0 _⟩
        case round =>
          clear B0
          obtain ⟨k, hk, rfl, hA, hb⟩ := hrel
          by_cases hlt2 : k < nw
          · have hk2 : k < ws.length := by rw [unhide L]; exact hlt2
            obtain ⟨b, off, rfl, e0, a', c', e1, hm, _⟩ := unhide R k hk2
            have hbl : b < w.heap.size := cell_lt e0
            have d0 := (hb.cell (p := ⟨b, off + k * 2, none⟩) hbl).trans e0
            have d1 := (hb.cell (p := ⟨b, off + k * 2 + 1, none⟩) hbl).trans e1
            clear e0 e1
            replace hm := hm.1
            unfold maxLen at hm
            have hS := hide (fun (hx : okW ws[k] = true) i (hi : i < ws.length) (h : i < k + 1) => show okW ws[i] = true from if e : i = k then by subst e; exact hx else unhide hA i hi (by omega))
            have hN := hide (fun (hx : okW ws[k] = false) => (unhide hF).trans (not_all hk2 hx))
            clear hA
            generalize ws[k] = pd at *
            have hsz := hb.size
            by_cases h16 : pd.xs.length = 16
            · have q : ((pd.xs.length : Int) != 16) = false := by rw [h16]; rfl
              by_cases hin : 0 ≤ pd.at_ ∧ pd.at_ ≤ 127
              · have hS2 := hide (unhide hS (by unfold okW; exact decide_eq_true ⟨hin.1, hin.2, h16⟩))
                clear hS hN
                go_wp2_with fail
                refine (sectorNumberOK_any pd.at_ _).mono ?_
                rintro e w2 ⟨rfl, rfl⟩
                rw [decide_eq_true hin]
                go_wp2_with fail
                go_roundw
                case rel => exact ⟨k + 1, by omega, by go_num, unhide hS2, hb.alloc hsz _⟩
                case measure => simp [intOf]; omega
              · have hN2 := hide (unhide hN (by unfold okW; exact decide_eq_false (fun h => hin ⟨h.1, h.2.1⟩)))
                clear hS hN
                go_wp2_with fail
                refine (sectorNumberOK_any pd.at_ _).mono ?_
                rintro e w2 ⟨rfl, rfl⟩
                rw [decide_eq_false hin]
                go_wp2_with fail
                go_ret
                exact ⟨ret_bool (unhide hN2).symm, hb.alloc hsz _⟩
            · have q : ((pd.xs.length : Int) != 16) = true := by simp; omega
              have hN2 := hide (unhide hN (by unfold okW; exact decide_eq_false (fun h => h16 h.2.2)))
              clear hS hN
              go_wp2_with fail
              go_ret
              exact ⟨ret_bool (unhide hN2).symm, hb.alloc hsz _⟩
          · obtain rfl : k = nw := by omega
            have hT := hide ((unhide hF).trans (all_of fun i hi => unhide hA i hi (by rw [← unhide L]; exact hi)))
            go_wp2_with fail
            go_ret
            exact ⟨ret_bool (unhide hT).symm, hb⟩
      · have q3 : decide ((4096 : Int) < (nw : Int)) = true := by simp; omega
        have hF := hide (okD_bad (ws := ws) (nh := nh) (by rw [unhide L]; omega))
        clear t1
        go_enter Tryz.func58, Tryz.ntmps58
        go_wp2_with fail
        go_ret
        exact ⟨ret_bool (unhide hF).symm, B0 _⟩
    · have q2 : decide ((2048 : Int) < (nh : Int)) = true := by simp; omega
      have hF := hide (okD_bad (ws := ws) (nh := nh) (by omega))
      clear t1
      go_enter Tryz.func58, Tryz.ntmps58
      go_wp2_with fail
      go_ret
      exact ⟨ret_bool (unhide hF).symm, B0 _⟩
  · have q1 : ((nh : Int).tmod 16 != 0) = true := by rw [t1]; simp; omega
    have hF := hide (okD_bad (ws := ws) (nh := nh) (by omega))
    clear t1
    go_enter Tryz.func58, Tryz.ntmps58
    go_wp2_with fail
    go_ret
    exact ⟨ret_bool (unhide hF).symm, B0 _⟩
end Go.Proofs.YtcflepnckjappaaGreat

namespace Go.Proofs.YtcflepnckjappaaGreat
open Go.RowKit Go.Maps

end Go.Proofs.YtcflepnckjappaaGreat

namespace Go.Proofs.YtcflepnckjappaaGreat
open Go.RowKit

set_option maxRecDepth 100000 in
set_option maxHeartbeats 4000000 in
theorem implRecover_any (ah : Option Addr) (n c : Nat) (aw : Option Addr) (nw cw : Nat) (xs : List Int) (ws : List WD) (w : World) (hR : Row w ah n xs) (hW : WRow w aw nw ws) (hn : n ≤ 1048576) (hnw : nw ≤ 1048576) (hc : n ≤ c) (hc2 : c ≤ maxLen) (h8 : Bytes8 xs) (h8w : ∀ d ∈ ws, Bytes8 d.xs) :
    Calls Tryz.prog 15 #[fv ah n c aw nw cw] w fun e w' => RvRes xs ws w e w' := by
  have hxl := hR.1
  have H8 := hide (readD_bytes ws xs h8 h8w)
  clear h8 h8w
  have hwl := hW.1
  obtain ⟨w0, hw0⟩ : ∃ w0, w0 = (w.alloc (.cells #[.slice ah n c, .slice aw nw cw] 32)).alloc (.cells #[.int .i64 0, .slice none 0 0, .slice none 0 0, .slice none 0 0] 29) := ⟨_, rfl⟩
  obtain ⟨b0, kf, kr, hz⟩ := twoBx hw0
  have HW := hide (hW.below b0)
  have HR := hide (row_grow hR b0)
  have B0 := hide b0
  have x0 := (heap_at kf 0).1
  have x1 := (heap_at kf 1).1
  have KR := hide kr
  clear hR hW b0 kr kf
  go_enter Tryz.func15, Tryz.ntmps15
  go_upto_region 1 with fail
  rw [← hw0]
  clear hw0
  go_wp2_with fail
  refine (implFlashOK_any ah n c aw nw cw ws w0 (by unfold maxLen; omega) (by unfold maxLen; omega) (unhide HW)).mono ?_
  rintro e w1 ⟨rfl, hb1⟩
  have y0 := (hb1.cell (p := ⟨w.heap.size, 0, none⟩) (cell_lt x0)).trans x0
  have y1 := (hb1.cell (p := ⟨w.heap.size, 1, none⟩) (cell_lt x1)).trans x1
  have hs1 := hb1.size
  have W1 := hide ((unhide HW).below hb1)
  have R1 := hide (row_grow (unhide HR) hb1)
  have B1 := hide ((unhide B0).trans (hb1.mono (by omega)))
  have K1 := hide ((hb1.block (w.heap.size + 1) (blk_lt (unhide KR))).trans (unhide KR))
  clear HW HR B0 hb1 x0 x1 KR
  by_cases ho : okD n ws = true
  · rw [ho]
    obtain ⟨k1, k2, k3, k4⟩ := okD_parts ho
    have HO := hide (show okD xs.length ws = true by rw [hxl]; exact ho)
    have FW := hide (scan_few (unhide HO))
    obtain ⟨m, hm⟩ : ∃ m, n = m * 16 := ⟨n / 16, by omega⟩
    have hP := deviceOf_any ah m c aw nw cw xs ws w1 (by rw [← hm]; exact unhide R1) (unhide W1) (by omega) hc2 (by omega) (by omega) (fun i hi => k4 _ (List.getElem_mem hi))
    rw [← hm] at hP
    have HP := hide hP
    have HQ := hide (devDS_read (ws := ws) (show xs.length = m * 16 by omega) (by omega) k4)
    clear k1 k2 k3 k4 ho hP hm
    go_wp2_with fail
    refine (unhide HP).mono ?_
    rintro e w2 ⟨rfl, ⟨mh, mr, v, hd⟩, hb2⟩
    have B2 := hide ((unhide B1).trans (hb2.mono (by omega)))
    have K2 := hide ((hb2.block (w.heap.size + 1) (blk_lt (unhide K1))).trans (unhide K1))
    have hs2 := hb2.size
    have HD := hide hd
    clear hb2 y0 y1 HP hd K1 B1
    go_wp2_with fail
    refine (bytes_any (w1.heap.size + 1 + 1) 2 mr 5000 (devDS xs m ws).rc (devDS xs m ws).rf w2 (unhide HD).read (unhide HD).rok.2.1 (unhide HD).rok.1 (unhide HD).c2 (unhide HD).c3).mono ?_
    rintro e w3 ⟨rfl, hM, hb3⟩
    rw [unhide HQ] at hM
    have hlen := (mine_row8 hM).2.1
    rw [hlen] at hM ⊢
    have M3 := hide hM
    have B3 := hide ((unhide B2).trans (hb3.mono (by omega)))
    have K3 := hide ((hb3.block (w.heap.size + 1) (blk_lt (unhide K2))).trans (unhide K2))
    clear hM hb3 HD HQ hlen K2 B2
    go_wp2_with fail
    refine (recovered_any _ (readD xs ws).length (readD xs ws).length (readD xs ws) w3 (mine_row8 (unhide M3)).1 (unhide H8) (unhide FW).1 (Nat.le_refl _) (by have := (unhide FW).1; unfold maxLen; omega) (fun e => by cases e)).mono ?_
    rintro e w4 ⟨lb, lm, N, h, f, s, hs, v4, ims, rfl, hL, hN, hI, hX, hMd, hb4⟩
    have LR := hide (show reT [] (scanB (readD xs ws)).1 = rvL xs ws from rfl)
    rw [unhide LR] at hL hX hMd
    have hsi := (rv_size xs ws (unhide HO)).1
    have hlen := hL.len
    have VN := hide (versions_any lb lm N h f s hs (reD (rvL xs ws)) w4 hL.rd hMd.ok (by omega) (by show (reV (rvL xs ws)).length ≤ _; omega) (by have := hlen.2.2; simp only [reD, List.length_nil] at this; omega) (by have := hlen.1; have := hlen.2.1; simp only [reD, List.length_replicate] at this; omega) (fun x hx => by
      obtain ⟨j, hj, rfl⟩ := List.getElem_of_mem hx
      have h1 := (SeIn.row hL.vz.so.reads hj).1
      have h2 := hL.vz.ss
      simp only at h2
      have h3 : hs[j].X ∈ (reD (rvL xs ws)).ses := by rw [← h2]; exact List.mem_map.2 ⟨hs[j], List.getElem_mem hj, rfl⟩
      rw [List.eq_of_mem_replicate h3] at h1
      simp only [clS, List.length_nil] at h1
      omega))
    have IL : ims.length = (rvL xs ws).length := by rw [← hX, List.length_map]
    obtain ⟨a4, c4, rfl⟩ := im_slice hI
    rw [IL]
    have B4 := hide ((unhide B3).trans (hb4.mono (unhide B3).size))
    have K4 := hide ((hb4.block (w.heap.size + 1) (blk_lt (unhide K3))).trans (unhide K3))
    clear hL hI hX hMd hb4 B3 K3 M3 LR IL hN hlen hsi
    go_wp2_with fail
    refine (unhide VN).mono ?_
    rintro e w6 ⟨⟨l1, l2, l3⟩, ⟨f1, f2, f3⟩, ⟨s1, s2, s3⟩, ss6, rfl, hV6, hb6⟩
    have RN := hide (show (reD (rvL xs ws)).next = reN (rvL xs ws) from rfl)
    rw [unhide RN]
    unfold vzC
    simp only
    have hK6 := (hb6.block (w.heap.size + 1) (blk_lt (unhide K4))).trans (unhide K4)
    have c0 := (heap_at hK6 0).1
    have c1 := (heap_at hK6 1).1
    have c2 := (heap_at hK6 2).1
    have c3 := (heap_at hK6 3).1
    have g0 := (heap_at hK6 0).2
    have g1 := (heap_at hK6 1).2
    have g2 := (heap_at hK6 2).2
    have g3 := (heap_at hK6 3).2
    have hz5 := (unhide B4).size
    have b6 := (unhide B4).trans (hb6.mono hz5)
    have h4 := blk_lt (unhide K4)
    have hS := set4_wr w6 (w.heap.size + 1) (.int .i64 (reN (rvL xs ws))) (.slice l1 l2 l3) (.slice f1 f2 f3) (.slice s1 s2 s3)
    have Z := hide (show RvRes xs ws w (.returned (.tuple #[.agg #[.int .i64 (reN (rvL xs ws)), .slice l1 l2 l3, .slice f1 f2 f3, .slice s1 s2 s3], .int .i64 ((rvL xs ws).length : Int), .int .i64 0])) _ from by
      unfold RvRes
      rw [if_pos (unhide HO)]
      exact ⟨⟨l1, l2, l3⟩, ⟨f1, f2, f3⟩, ⟨s1, s2, s3⟩, ss6, rfl, (hV6.wr hS (fun i e => by rw [e]; exact h4)).dn hz5, b6.trans (WrB.below hS (fun i e => by rw [e]; omega) b6.size)⟩)
    clear hS b6 hV6 hb6 hK6 VN RN K4 B4
    go_wp2_with fail
    refine bodyPost_ret (v := .tuple #[.agg #[.int .i64 (reN (rvL xs ws)), .slice l1 l2 l3, .slice f1 f2 f3, .slice s1 s2 s3], .int .i64 ((rvL xs ws).length : Int), .int .i64 0]) (by simp [results, Tryz.results15, go_sem, *]) rfl ?_
    exact unhide Z
  · have ho : okD n ws = false := by simpa using ho
    rw [ho]
    have hK6 := unhide K1
    have c0 := (heap_at hK6 0).1
    have c1 := (heap_at hK6 1).1
    have c2 := (heap_at hK6 2).1
    have c3 := (heap_at hK6 3).1
    have g0 := (heap_at hK6 0).2
    have g1 := (heap_at hK6 1).2
    have g2 := (heap_at hK6 2).2
    have g3 := (heap_at hK6 3).2
    have hS := set4_wr w1 (w.heap.size + 1) (.int .i64 0) (.slice none 0 0) (.slice none 0 0) (.slice none 0 0)
    have Z := hide (show RvRes xs ws w (.returned (.tuple #[.agg #[.int .i64 0, .slice none 0 0, .slice none 0 0, .slice none 0 0], .int .i64 0, .int .i64 1])) _ from by
      unfold RvRes
      rw [if_neg (by rw [hxl, ho]; decide)]
      exact ⟨rfl, (unhide B1).trans (WrB.below hS (fun i e => by rw [e]; omega) (unhide B1).size)⟩)
    clear hS hK6 K1 B1 W1 R1 y0 y1 H8
    go_wp2_with fail
    refine bodyPost_ret (v := .tuple #[.agg #[.int .i64 0, .slice none 0 0, .slice none 0 0, .slice none 0 0], .int .i64 0, .int .i64 1]) (by simp [results, Tryz.results15, go_sem, *]) rfl ?_
    exact unhide Z
end Go.Proofs.YtcflepnckjappaaGreat
