/-
  TxI5, TxI6, TxI7, TxJ, ZrA, TxM, To in one.
-/
import Derived.Test.YtcflepnckjappaaGreatReAll3
import Derived.Test.YtcflepnckjappaaGreatReAll4
import Derived.Test.YtcflepnckjappaaGreatGdA
import Derived.Test.YtcflepnckjappaaGreatReAll1
import Derived.Test.YtcflepnckjappaaGreatSlT
import Derived.Deep.RegionWith
import Derived.Deep.Cut
import Derived.Test.YtcflepnckjappaaGreatMark
namespace Go.Proofs.YtcflepnckjappaaGreat
open Go.RowKit

end Go.Proofs.YtcflepnckjappaaGreat

namespace Go.Proofs.YtcflepnckjappaaGreat
open Go.RowKit

end Go.Proofs.YtcflepnckjappaaGreat

namespace Go.Proofs.YtcflepnckjappaaGreat
open Go.RowKit

end Go.Proofs.YtcflepnckjappaaGreat

namespace Go.Proofs.YtcflepnckjappaaGreat
open Go.RowKit

end Go.Proofs.YtcflepnckjappaaGreat

namespace Go.Proofs.YtcflepnckjappaaGreat
open Go.RowKit

/-- A record and where its rows lie. -/
structure ZrH where
  X : RepD
  s0 : Sl
def zrEl (h : ZrH) : El := ⟨[.int .i64 h.X.code, .int .i64 h.X.time, .string h.X.val, .slice h.s0.a h.s0.n h.s0.c], [⟨143, 2, h.X.list.length, .slice h.s0.a h.s0.n h.s0.c, ecs h.X.list⟩]⟩
abbrev ZrOwn (w : World) (B : Nat) (v : Value) (hs : List ZrH) : Prop := NOwn w B 47 4 v hs.length (hs.map zrEl)
abbrev ZrIn (w : World) (v : Value) (n : Nat) (hs : List ZrH) : Prop := NIn w 4 v n (hs.map zrEl)
theorem zrEl_at {hs : List ZrH} {k : Nat} (hk : k < hs.length) : (hs.map zrEl)[k]? = some (zrEl hs[k]) := by rw [List.getElem?_map, List.getElem?_eq_getElem hk]; rfl
theorem ZrIn.sub {w : World} {v : Value} {n : Nat} {hs : List ZrH} (h : ZrIn w v n hs) {k : Nat} (hk : k < hs.length) : RowC w (.slice hs[k].s0.a hs[k].s0.n hs[k].s0.c) hs[k].X.list.length (ecs hs[k].X.list) := by
  have d := h.dat (zrEl hs[k]) (List.mem_map_of_mem (List.getElem_mem hk))
  exact d _ (List.Mem.head _)
theorem ZrIn.cells {w : World} {a : Option Addr} {n c : Nat} {hs : List ZrH} (h : ZrIn w (.slice a n c) n hs) {k : Nat} (hk : k < hs.length) : ∃ b off, a = some ⟨b, off, none⟩ ∧ b < w.heap.size ∧ w.cell? ⟨b, off + k * 4, none⟩ = some (.int .i64 hs[k].X.code) ∧ w.cell? ⟨b, off + k * 4 + 1, none⟩ = some (.int .i64 hs[k].X.time) ∧ w.cell? ⟨b, off + k * 4 + 2, none⟩ = some (.string hs[k].X.val) ∧ w.cell? ⟨b, off + k * 4 + 3, none⟩ = some (.slice hs[k].s0.a hs[k].s0.n hs[k].s0.c) := by
  obtain ⟨b, off, e, hb, q⟩ := h.cell (zrEl_at hk) (by decide)
  exact ⟨b, off, e, hb, q 0 _ rfl, by rw [Nat.add_assoc]; exact q 1 _ rfl, by rw [Nat.add_assoc]; exact q 2 _ rfl, by rw [Nat.add_assoc]; exact q 3 _ rfl⟩
theorem Tryz.infoZr : (Tryz.prog.info? 47).map (fun i => (i.zero, i.size, i.bytes)) = some (some (.agg #[.int .i64 0, .int .i64 0, .string ByteArray.empty, .slice none 0 0]), 4, 56) := by kernel_rfl
end Go.Proofs.YtcflepnckjappaaGreat

namespace Go.Proofs.YtcflepnckjappaaGreat
open Go.RowKit

/-- Replies lie apart from a block of another kind. -/
theorem zr_box {w : World} {B n tb : Nat} {v : Value} {zs : List ZrH} {cs : Array Value} {t : TypeId} (h : NOwn w B 47 4 v n (zs.map zrEl)) (hb : w.heap[tb]? = some (.cells cs t (0, 0))) (h1 : 47 ≠ t) (h2 : 143 ≠ t) : ¬ NBl v (zs.map zrEl) tb := fun hn => by
  rcases hn with hn | ⟨k, a, x, hx, hi⟩
  · exact own_box h.row hb h1 hn
  · have ht : x.t = 143 := by
      obtain ⟨e, he, hxe⟩ := sbAt_mem hx
      obtain ⟨y, _, rfl⟩ := List.mem_map.1 he
      rw [List.mem_singleton.1 hxe]
    have hd := h.dat k a x hx
    rw [ht] at hd
    exact own_box hd hb h2 hi
/-- A run under way. -/
structure TrSt (W v : World) (tb : Nat) (l f s : Sl) (hs : List SeH) (d : VsD) (rv : Value) (zs : List ZrH) : Prop where
  bel : Below W.heap.size W v
  own : VzOwn v W.heap.size l f s hs d
  box : v.heap[tb]? = some (.cells (vzC d.next l f s) 29 (0, 0))
  rep : ZrOwn v W.heap.size rv zs
  tge : W.heap.size ≤ tb
theorem TrSt.below {W v v' : World} {tb : Nat} {l f s : Sl} {hs : List SeH} {d : VsD} {rv : Value} {zs : List ZrH} (h : TrSt W v tb l f s hs d rv zs) (hb : Below v.heap.size v v') : TrSt W v' tb l f s hs d rv zs :=
  ⟨h.bel.trans (hb.mono h.bel.size), h.own.below hb, (hb.block tb (blk_lt h.box)).trans h.box, h.rep.below hb, h.tge⟩
set_option maxRecDepth 100000 in
/-- Versions laid in the box, a reply appended. -/
theorem TrSt.push {W wr u : World} {tb : Nat} {l f s l' f' s' : Sl} {hs hs' : List SeH} {d d' : VsD} {rv : Value} {zs : List ZrH} (h : TrSt W wr tb l f s hs d rv zs) (hb : Below wr.heap.size wr u) (own' : VzOwn u W.heap.size l' f' s' hs' d') (p : RepD) (r : Sl) (eo : EOwns u wr.heap.size (.slice r.a r.n r.c) p.list) (hz : zs.length ≤ 1000) :
    ∃ q : Sl, ∃ w5, (Builtin.append_ #[35, 35] 35 #[rv, .slice (some ⟨(sv4 u tb (.int .i64 d'.next) (.slice l'.a l'.n l'.c) (.slice f'.a f'.n f'.c) (.slice s'.a s'.n s'.c)).heap.size, 0, none⟩) 1 1]).run Tryz.prog ((sv4 u tb (.int .i64 d'.next) (.slice l'.a l'.n l'.c) (.slice f'.a f'.n f'.c) (.slice s'.a s'.n s'.c)).alloc (.cells #[.int .i64 p.code, .int .i64 p.time, .string p.val, .slice r.a r.n r.c] 47)) = .ok (.slice q.a q.n q.c) w5 ∧ TrSt W w5 tb l' f' s' hs' d' (.slice q.a q.n q.c) (zs ++ [⟨p, r⟩]) := by
  have hu := h.below hb
  have hw := sv4_wr u tb (.int .i64 d'.next) (.slice l'.a l'.n l'.c) (.slice f'.a f'.n f'.c) (.slice s'.a s'.n s'.c)
  have hx := sv4_heap hu.box (.int .i64 d'.next) (.slice l'.a l'.n l'.c) (.slice f'.a f'.n f'.c) (.slice s'.a s'.n s'.c)
  have o1 := own'.box hu.box (by decide) (by decide) (by decide) hw
  have e1 := own_keep eo hu.box (by decide) hw
  have r1 : ZrOwn (sv4 u tb (.int .i64 d'.next) (.slice l'.a l'.n l'.c) (.slice f'.a f'.n f'.c) (.slice s'.a s'.n s'.c)) W.heap.size rv zs := hu.rep.keep hw (fun i hi e => by subst e; exact zr_box hu.rep hu.box (by decide) (by decide) hi)
  have b1 := hu.bel.trans (WrB.below hw (fun i e => by rw [e]; exact h.tge) hu.bel.size)
  have hwr : wr.heap.size ≤ (sv4 u tb (.int .i64 d'.next) (.slice l'.a l'.n l'.c) (.slice f'.a f'.n f'.c) (.slice s'.a s'.n s'.c)).heap.size := Nat.le_trans hb.size hw.size
  have hlt : ∀ i, NBl rv (zs.map zrEl) i → i < wr.heap.size := fun i hi => (h.rep.lt i hi).2
  clear hw
  generalize sv4 u tb (.int .i64 d'.next) (.slice l'.a l'.n l'.c) (.slice f'.a f'.n f'.c) (.slice s'.a s'.n s'.c) = u1 at *
  obtain ⟨i0, hi0, hz0, hz1, hz2⟩ := info_parts Tryz.infoZr
  obtain ⟨v', w5, hrun, hN, hg, -⟩ := NOwn.app (e := zrEl ⟨p, r⟩) (C := wr.heap.size) 35 Tryz.underlying35 hi0 hz0 hz1 hz2 rfl (by decide) (by decide) r1 rfl (by intro y hy; simp only [zrEl, List.mem_cons, List.not_mem_nil, or_false] at hy; rcases hy with rfl | rfl | rfl | rfl <;> rfl) (fun y hy => by rw [List.mem_singleton.1 hy]; exact e1) hlt h.bel.size (fun a b y z hy hz' hab => by
    match a, hy, b, hz' with
    | 0, _, 0, _ => exact absurd rfl hab
    | a + 1, hy, _, _ => cases hy
    | 0, _, b + 1, hz' => cases hz') (by omega) b1.size
  obtain ⟨q, rfl, -⟩ := v_slice hN.row
  have bA : Below u1.heap.size u1 (u1.alloc (.cells (zrEl ⟨p, r⟩).hd.toArray 47)) := (Below.refl _ _).alloc (Nat.le_refl _) _
  have hG := WrB.of_grown hg
  have oA := o1.below bA
  have rA := r1.below bA
  have xA := (bA.block tb (blk_lt hx)).trans hx
  have bB := b1.trans (bA.mono b1.size)
  refine ⟨q, w5, hrun, ⟨bB.trans (WrB.below hG (fun i hi => (rA.row.lt i hi).1) bB.size), oA.apart hG (fun i hi => own_other oA.vo rA.row (by decide) hi) (fun i hi => own_other oA.fo rA.row (by decide) hi) (fun i hi e => ?_), (hG.block tb (blk_lt xA) (own_box rA.row xA (by decide))).trans xA, ?_, h.tge⟩⟩
  · obtain ⟨cur, hc⟩ := own_kind rA.row e
    exact se_box oA.so hc (by decide) (by decide) hi
  · have := hN
    rw [← List.map_singleton, ← List.map_append] at this
    rw [show zs.length + 1 = (zs ++ [(⟨p, r⟩ : ZrH)]).length by simp] at this
    exact this
/-- What a round's first statement has made. -/
structure RgT (W wr u : World) (p : VsD × RepD) (res : Option (Sl × Sl × Sl × List SeH × Sl)) (b8 b9 : Option Nat) : Prop where
  bel : Below wr.heap.size wr u
  r : ∀ l f s hs r, res = some (l, f, s, hs, r) → VzOwn u W.heap.size l f s hs p.1 ∧ EOwns u wr.heap.size (.slice r.a r.n r.c) p.2.list
  e8 : ∀ b, b8 = some b → wr.heap.size ≤ b ∧ u.heap[b]? = some (.cells #[.int .i64 0, .slice none 0 0, .slice none 0 0, .slice none 0 0] 29 (0, 0))
  e9 : ∀ b, b9 = some b → wr.heap.size ≤ b ∧ u.heap[b]? = some (.cells #[.int .i64 0, .int .i64 0, .string ⟨#[]⟩, .slice none 0 0] 47 (0, 0))
theorem RgT.step {W wr u u' : World} {p : VsD × RepD} {res : Option (Sl × Sl × Sl × List SeH × Sl)} {b8 b9 : Option Nat} (h : RgT W wr u p res b8 b9) (hb : Below u.heap.size u u') : RgT W wr u' p res b8 b9 :=
  ⟨h.bel.trans (hb.mono h.bel.size), fun l f s hs r e => ⟨(h.r l f s hs r e).1.below hb, rb_ownsRow_below (h.r l f s hs r e).2 hb⟩, fun b e => ⟨(h.e8 b e).1, (hb.block b (blk_lt (h.e8 b e).2)).trans (h.e8 b e).2⟩, fun b e => ⟨(h.e9 b e).1, (hb.block b (blk_lt (h.e9 b e).2)).trans (h.e9 b e).2⟩⟩
theorem RgT.call {W wr u u' : World} {d : VsD} {p : VsD × RepD} {l f s : Sl} {hs : List SeH} {b8 b9 : Option Nat} {e : Ending} (h : RgT W wr u p none b8 b9) (hO : VzOwn wr W.heap.size l f s hs d) (hW : W.heap.size ≤ wr.heap.size) (hr : StRes l f s hs d p u e u') :
    ∃ l' f' s' : Sl, ∃ (hs' : List SeH) (r : Sl), e = .returned (.tuple #[.agg #[.int .i64 p.1.next, .slice l'.a l'.n l'.c, .slice f'.a f'.n f'.c, .slice s'.a s'.n s'.c], .agg #[.int .i64 p.2.code, .int .i64 p.2.time, .string p.2.val, .slice r.a r.n r.c]]) ∧ RgT W wr u' p (some (l', f', s', hs', r)) b8 b9 := by
  obtain ⟨l', f', s', hs', r, he, hv, heo, hb⟩ := hr
  have s := h.step hb
  refine ⟨l', f', s', hs', r, he, s.bel, fun l2 f2 s2 hs2 r2 e2 => ?_, s.e8, s.e9⟩
  injection e2 with e2
  injection e2 with e1 e2
  injection e2 with e3 e2
  injection e2 with e4 e2
  injection e2 with e5 e6
  subst e1 e3 e4 e5 e6
  refine ⟨?_, gd_base heo h.bel.size⟩
  rcases hv with ⟨rfl, rfl, rfl, rfl, hd⟩ | hv
  · rw [hd]; exact hO.below s.bel
  · exact hv.dn (Nat.le_trans hW h.bel.size)
theorem vz_none (w : World) (B : Nat) : VzOwn w B ⟨none, 0, 0⟩ ⟨none, 0, 0⟩ ⟨none, 0, 0⟩ [] ⟨0, [], [], []⟩ := ⟨World.ownsRow_nil _ _ _ _, World.ownsRow_nil _ _ _ _, NOwn.flat (World.ownsRow_nil _ _ _ _) rfl (fun e he => by cases he) (fun e he => by cases he), rfl, fun i hi => by cases hi⟩
end Go.Proofs.YtcflepnckjappaaGreat

namespace Go.Proofs.YtcflepnckjappaaGreat
open Go.RowKit

/-- The first k of xs, then noughts. -/
def upTo (xs : List Int) (n k : Nat) : List Int := xs.take k ++ List.replicate (n - k) 0
theorem upTo_zero (xs : List Int) (n : Nat) : (upTo xs n 0).map (Value.int .u8) = List.replicate n (Value.int .u8 0) := by simp [upTo]
theorem upTo_at {xs : List Int} {n k : Nat} (hl : xs.length = n) (hk : k < n) : (upTo xs n k)[k]? = some 0 := by
  have h1 : (xs.take k).length = k := by simp; omega
  simp only [upTo]
  rw [List.getElem?_append_right (show (xs.take k).length ≤ k by omega), h1, Nat.sub_self]
  have h2 : n - k = (n - (k + 1)) + 1 := by omega
  rw [h2, List.replicate_succ]; rfl
theorem upTo_set {xs : List Int} {n k : Nat} {x : Int} (hl : xs.length = n) (hk : k < n) (hx : x = xs.getD k 0) : ((upTo xs n k).map (Value.int .u8)).set k (.int .u8 x) = (upTo xs n (k + 1)).map (Value.int .u8) := by
  have h1 : (xs.take k).length = k := by simp; omega
  have h2 : n - k = (n - (k + 1)) + 1 := by omega
  rw [← List.map_set]
  congr 1
  simp only [upTo]
  rw [List.set_append_right _ _ (show (xs.take k).length ≤ k by omega), h1, Nat.sub_self, h2, List.replicate_succ, List.set_cons_zero, List.take_succ_eq_append_getElem (by omega), List.append_assoc]
  simp [hx, List.getD, hl, hk]
theorem upTo_all {xs : List Int} {n : Nat} (hl : xs.length = n) : upTo xs n n = xs := by simp [upTo, ← hl]
set_option maxHeartbeats 400000 in
theorem toByteS_at (a : Option Addr) (n c : Nat) (xs : List Int) (w : World) (hn : n ≤ 1048576) (h1 : Row w a n xs) :
    Calls Tryz.prog 94 #[.slice a n c] w fun e w' => e = .returned (.slice (some ⟨w.heap.size, 0, none⟩) n n) ∧ Mine w' w.heap.size (.slice (some ⟨w.heap.size, 0, none⟩) n n) xs ∧ Below w.heap.size w w' := by
  obtain ⟨i0, hi, hz0, hz1, hz2⟩ := info_parts Tryz.infoU8
  have L1 := hide h1.1
  have H1 := hide h1.2
  clear h1
  go_enter Tryz.func94, Tryz.ntmps94
  go_wp2_with (at_make; refine wpList_make_full _ rfl _ _ 22 rfl w.heap.size 5 i0 (.int .u8 0) 1 Tryz.underlying22 hi hz0 hz1 _ _ _ _ n rfl rfl rfl rfl (by rw [hz2]; omega) (by unfold maxLen; omega) (Nat.le_refl _) ?_)
  intro w1 hown hgrow
  rw [toList_madeCells_one] at hown
  have hbel : Below w.heap.size w w1 := (Below.refl _ _).grown hgrow (Nat.le_refl _) (fun k hk => by cases hk)
  have hown1 : w1.ownsRow w.heap.size 5 1 (.slice (some ⟨w.heap.size, 0, none⟩) n n) n ((upTo xs n 0).map (Value.int .u8)) := by
    rw [upTo_zero]; exact hown
  clear hown hgrow
  go_wp2_with fail
  go_loopw [4] (fun i wr => ∃ k : Nat, k ≤ n ∧ i = .int .i64 k ∧ wr.ownsRow w.heap.size 5 1 (.slice (some ⟨w.heap.size, 0, none⟩) n n) n ((upTo xs n k).map (Value.int .u8)) ∧ Below w.heap.size w wr) (fun i _ => n - (intOf i).toNat)
  case atStart => exact ⟨0, Nat.zero_le _, rfl, hown1, hbel⟩
  case round =>
    clear hown1 hbel
    obtain ⟨k, hk, rfl, ho, hb⟩ := hrel
    by_cases hlt : k < n
    · obtain ⟨b, off, rfl, e1⟩ := unhide H1 k hlt
      have e2 := (hb.cell (p := ⟨b, off + k, none⟩) (cell_lt e1)).trans e1
      have e3 := ho.cellAt k (by omega)
      have e4 := ho.frozenAt k
      obtain ⟨x, hx⟩ : ∃ x, x = xs.getD k 0 := ⟨_, rfl⟩
      rw [← hx] at e2
      rw [List.getElem?_map, upTo_at (unhide L1) hlt] at e3
      have R := hide (ho.stored k (.int .u8 x)).1
      rw [upTo_set (unhide L1) hlt hx] at R
      have R2 := hide (hb.setCell (p := ⟨w.heap.size, k, none⟩) (Nat.le_refl _) (.int .u8 x))
      clear e1 hx ho hb
      go_wp2_with fail
      go_roundw
      case rel => exact ⟨k + 1, by omega, by go_num, unhide R, unhide R2⟩
      case measure => simp [intOf]; omega
    · obtain rfl : k = n := by omega
      rw [upTo_all (unhide L1)] at ho
      have hl := unhide L1
      subst hl
      have M := hide (mine_of_owns ho)
      clear ho
      go_wp2_with fail
      go_ret
      exact ⟨rfl, unhide M, hb⟩
theorem toByteS_any (a : Option Addr) (n c : Nat) (xs : List Int) (w : World) (hn : n ≤ 1048576) (h1 : Row w a n xs) :
    Calls Tryz.prog 94 #[.slice a n c] w fun e w' => ∃ v, e = .returned v ∧ Mine w' w.heap.size v xs ∧ Below w.heap.size w w' :=
  (toByteS_at a n c xs w hn h1).mono fun _ _ ⟨h1, h2, h3⟩ => ⟨_, h1, h2, h3⟩
end Go.Proofs.YtcflepnckjappaaGreat
