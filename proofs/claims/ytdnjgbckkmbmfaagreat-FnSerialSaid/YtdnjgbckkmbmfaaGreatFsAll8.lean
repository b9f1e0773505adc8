/-
  FsE, PgK, FdS, FsD, PageO, PageP, PageQ, PageR, LvA, XtP, Src, SrcN, SrcM, FdD, FdE, SrcZ, TxN, TxO, SvS, At, VoB in one.
-/
import Derived.Test.YtdnjgbckkmbmfaaGreatFsAll7
import Derived.Laws.StructEq
import Derived.Deep.DeepCutAuto
import Derived.Deep.RegionWith
import Derived.Laws.Concat
set_option maxRecDepth 100000
namespace Go.Proofs.YtdnjgbckkmbmfaaGreat
open Go.RowKit

theorem run_pre (acts : List TxD) {k : Nat} (hk : k < acts.length) : ∀ m, k + 1 + m ≤ acts.length → (runV (acts.take (k + 1 + m))).2[k]? = some (stepV (runV (acts.take k)).1 acts[k]).2
 | 0, h => by
  rw [Nat.add_zero, runV_take hk]
  simp only
  rw [List.getElem?_append_right (by rw [runV_len, List.length_take]; omega), runV_len, List.length_take, Nat.min_eq_left (by omega), Nat.sub_self]
  rfl
 | m + 1, h => by
  have ih := run_pre acts hk m (by omega)
  rw [show k + 1 + (m + 1) = k + 1 + m + 1 by omega, runV_take (by omega)]
  simp only
  rw [List.getElem?_append_left (by rw [runV_len, List.length_take]; omega)]
  exact ih
theorem run_at (acts : List TxD) {k : Nat} (hk : k < acts.length) : (runV acts).2[k]? = some (stepV (runV (acts.take k)).1 acts[k]).2 := by
 have := run_pre acts hk (acts.length - (k + 1)) (by omega)
 rwa [show k + 1 + (acts.length - (k + 1)) = acts.length by omega, List.take_length] at this
theorem ownRun_succ (acts : List TxD) {k : Nat} (hk : k < acts.length) : ownRun acts (k + 1) = ownS (ownRun acts k) acts[k] (stepV (runV (acts.take k)).1 acts[k]).2 := by
 show (if h : k < acts.length then _ else _) = _
 rw [dif_pos hk]
theorem ownS_len {own : List (List VerD)} {a : TxD} {r : RepD} {k : Nat} (h : own.length = 4 ∧ ∀ i, (own.getD i []).length ≤ k) : (ownS own a r).length = 4 ∧ ∀ i, ((ownS own a r).getD i []).length ≤ k + 1 := by
 have up : own.length = 4 ∧ ∀ i, (own.getD i []).length ≤ k + 1 := ⟨h.1, fun i => Nat.le_succ_of_le (h.2 i)⟩
 have st : ∀ (j : Nat) (ws : List VerD), ws.length ≤ k + 1 → (own.set j ws).length = 4 ∧ ∀ i, ((own.set j ws).getD i []).length ≤ k + 1 := fun j ws hw => by
  refine ⟨by rw [List.length_set]; exact h.1, fun i => ?_⟩
  rw [List.getD_eq_getElem?_getD, List.getElem?_set]
  split
  ·split
   ·exact hw
   ·exact Nat.zero_le _
  ·rw [← List.getD_eq_getElem?_getD]
   exact up.2 i
 unfold ownS
 split
 ·exact up
 split
 ·split
  ·exact st _ _ (Nat.zero_le _)
  ·exact up
 split
 ·split
  ·refine st _ _ ?_
   rw [List.length_append, List.length_singleton]
   have := h.2 a.ses.toNat
   omega
  ·exact up
 ·exact up
theorem ownRun_len (acts : List TxD) : ∀ k, k ≤ acts.length → (ownRun acts k).length = 4 ∧ ∀ i, ((ownRun acts k).getD i []).length ≤ k
 | 0, _ => ⟨rfl, fun i => by
  match i with
  | 0 => exact Nat.le_refl _
  | 1 => exact Nat.le_refl _
  | 2 => exact Nat.le_refl _
  | 3 => exact Nat.le_refl _
  | i + 4 => exact Nat.le_refl _⟩
 | k + 1, h => by
  rw [ownRun_succ acts (by omega)]
  exact ownS_len (ownRun_len acts k (by omega))
structure FsSt (W wr : World) (gb k : Nat) (acts : List TxD) (os : List OwH) : Prop where
 bel : Below W.heap.size W wr
 own : OwOwn wr W.heap.size (.slice (some ⟨gb, 0, none⟩) 4 4) 4 os
 eq : os.map (·.X) = ownRun acts k
theorem FsSt.below {W w w' : World} {gb k : Nat} {acts : List TxD} {os : List OwH} (h : FsSt W w gb k acts os) (hb : Below w.heap.size w w') : FsSt W w' gb k acts os := ⟨h.bel.trans (hb.mono h.bel.size), h.own.below hb, h.eq⟩
theorem FsSt.len {W w : World} {gb k : Nat} {acts : List TxD} {os : List OwH} (h : FsSt W w gb k acts os) (hk : k ≤ acts.length) : os.length = 4 := by
 have := (ownRun_len acts k hk).1
 rw [← h.eq, List.length_map] at this
 exact this
theorem FsSt.ow {W w : World} {gb k i : Nat} {acts : List TxD} {os : List OwH} (h : FsSt W w gb k acts os) (hi : i < os.length) : os[i].X = (ownRun acts k).getD i [] := by
 rw [← h.eq, List.getD_eq_getElem?_getD, List.getElem?_map, List.getElem?_eq_getElem hi]
 rfl
theorem FsSt.stay {W w : World} {gb k : Nat} {acts : List TxD} {os : List OwH} (h : FsSt W w gb k acts os) (hk : k < acts.length) (hn : (acts[k].kind ≠ 1 ∧ ¬ (acts[k].kind = 4 ∨ acts[k].kind = 5)) ∨ (stepV (runV (acts.take k)).1 acts[k]).2.code ≠ 0) : FsSt W w gb (k + 1) acts os :=
 ⟨h.bel, h.own, by rw [ownRun_succ acts hk, ownS_no hn]; exact h.eq⟩
theorem FsSt.new {W w : World} {gb k i : Nat} {acts : List TxD} {os : List OwH} (h : FsSt W w gb k acts os) (hk : k < acts.length) (hi : i < 4) (hs : acts[k].ses = (i : Int)) (h1 : acts[k].kind = 1) (hc : (stepV (runV (acts.take k)).1 acts[k]).2.code = 0) :
  ∃ os', FsSt W ((w.alloc (.cells #[] 43)).setCell ⟨gb, i, none⟩ (.slice (some ⟨w.heap.size, 0, none⟩) 0 0)) gb (k + 1) acts os' := by
 have hl := h.len (by omega)
 have bA : Below w.heap.size w (w.alloc (.cells #[] 43)) := (Below.refl _ _).alloc (Nat.le_refl _) _
 have hA := h.below bA
 have hO := hA.own.put (i := i) (by omega) ⟨[], ⟨some ⟨w.heap.size, 0, none⟩, 0, 0⟩⟩ (gd_base (nil_lit (w := w) 43 4) h.bel.size) (fun b hb hn => by
  simp only [Value.ownBlock] at hb
  injection hb with hb
  have := (h.own.lt b hn).2
  omega)
 refine ⟨_, hA.bel.trans (WrB.below hO.2 (fun j hj => by rw [hj]; exact (h.own.row.lt gb rfl).1) hA.bel.size), hO.1, ?_⟩
 rw [ownRun_succ acts hk]
 unfold ownS
 rw [if_neg (by omega), if_pos h1, if_pos hc, hs, Int.toNat_natCast, List.map_set, h.eq]
theorem FsSt.note {W w : World} {gb k i : Nat} {acts : List TxD} {os : List OwH} (h : FsSt W w gb k acts os) (hk : k < acts.length) (hk2 : k ≤ 900) (hi : i < 4) (hio : i < os.length) (hs : acts[k].ses = (i : Int)) (h45 : acts[k].kind = 4 ∨ acts[k].kind = 5) (hc : (stepV (runV (acts.take k)).1 acts[k]).2.code = 0) :
  ∃ (s' : Sl) (w1 : World) (os' : List OwH), (Builtin.append_ #[25, 25] 25 #[.slice os[i].s0.a os[i].s0.n os[i].s0.c, .slice (some ⟨w.heap.size, 0, none⟩) 1 1]).run Tryz.prog (w.alloc (.cells #[.string acts[k].key, .int .i64 0, .string acts[k].val, .bool (decide (acts[k].kind = 5))] 43)) = .ok (.slice s'.a s'.n s'.c) w1 ∧
   FsSt W (w1.setCell ⟨gb, i, none⟩ (.slice s'.a s'.n s'.c)) gb (k + 1) acts os' ∧ Below W.heap.size w w1 ∧ w1.cell? ⟨gb, i, none⟩ = some (.slice os[i].s0.a os[i].s0.n os[i].s0.c) ∧ w1.frozen? ⟨gb, i, none⟩ = false ∧ ∀ (b : Nat) (cs : Array Value) (t : TypeId), w.heap[b]? = some (.cells cs t (0, 0)) → 43 ≠ t → w1.heap[b]? = some (.cells cs t (0, 0)) := by
 have hx := h.ow hio
 have hln := (ownRun_len acts k (by omega)).2 i
 rw [← hx] at hln
 obtain ⟨s', w1, hrun, hO, hb1, hb2, hc1, hf1, hk1⟩ := h.own.app h.bel.size hio (ownX acts[k]) (by omega)
 refine ⟨s', w1, _, hrun, ⟨h.bel.trans hb2, hO, ?_⟩, hb1, hc1, hf1, hk1⟩
 rw [ownRun_succ acts hk]
 unfold ownS
 rw [if_neg (by omega), if_neg (by omega), if_pos h45, if_pos hc, hs, Int.toNat_natCast, List.map_set, h.eq, hx]
end Go.Proofs.YtdnjgbckkmbmfaaGreat

namespace Go.Proofs.YtdnjgbckkmbmfaaGreat
open Go.RowKit

end Go.Proofs.YtdnjgbckkmbmfaaGreat

namespace Go.Proofs.YtdnjgbckkmbmfaaGreat
open Go.RowKit

theorem Tryz.entS : Tryz.prog.underlying 48 = some (.struct (Tryz.prog.fieldsOf 48)) := by kernel_rfl
theorem Tryz.entH : Tryz.prog.stoodInHeld 48 = false := by kernel_rfl
theorem Tryz.entG : Tryz.prog.eqGuardType Tryz.prog.depth 48 = false := by kernel_rfl
theorem eqEntV (e : EntD) (w : World) : (Op.equalIn 10000 48 (.agg #[.string e.k, .string e.v]) (.agg #[.string e.k, .string e.v])).run Tryz.prog w = .ok true w := by
 rw [run_equalIn_struct w 9999 _ _ _ Tryz.entS Tryz.entH]
 simp [Program.fieldsOf, Tryz.underlying48, Op.eqFields, go_sem, Tryz.underlying9]
set_option maxHeartbeats 2000000 in
theorem sameEntries_any (a a2 : Option Addr) (n c c2 : Nat) (es : List EntD) (w : World) (h1 : ERow w a n es) (h2 : ERow w a2 n es) (hn : n ≤ 1000) :
  Calls Tryz.prog 15 #[.slice a n c, .slice a2 n c2] w fun e w' => e = .returned (.bool true) ∧ Below w.heap.size w w' := by
 have R1 := hide h1
 have R2 := hide h2
 have LN := hide h1.1
 have q3 := Tryz.entG
 have q4 := eqEntV
 clear h1 h2
 go_enter Tryz.func15, Tryz.ntmps15
 go_wp2_with fail
 go_loopw [5] (fun i wr => ∃ k : Nat, k ≤ n ∧ i = .int .i64 k ∧ Below w.heap.size w wr) (fun i _ => n - (intOf i).toNat)
 case atStart => exact ⟨0, Nat.zero_le _, rfl, Below.refl _ _⟩
 case round =>
  obtain ⟨k, hk, rfl, hb⟩ := hrel
  by_cases hlt : k < n
  ·have hl := unhide LN
   obtain ⟨b, off, rfl, c0, c1⟩ := ((unhide R1).below hb).2 k (by omega)
   obtain ⟨b', off', rfl, d0, d1⟩ := ((unhide R2).below hb).2 k (by omega)
   generalize es[k]'(by omega) = em at *
   clear hl
   go_wp2_with fail
   go_quiet (fail)
   go_wp2_with fail
   go_roundw
   case rel => exact ⟨k + 1, by omega, by go_num, bel_drewN hb _⟩
   case measure => simp [intOf]; omega
  ·obtain rfl : k = n := by omega
   go_wp2_with fail
   go_ret
   exact ⟨rfl, hb⟩
end Go.Proofs.YtdnjgbckkmbmfaaGreat

namespace Go.Proofs.YtdnjgbckkmbmfaaGreat
open Go.RowKit

set_option maxHeartbeats 4000000 in
theorem sameReply_any (p : RepD) (a a2 : Option Addr) (n c c2 : Nat) (w : World) (h1 : ERow w a n p.list) (h2 : ERow w a2 n p.list) (hn : n ≤ 1000) :
  Calls Tryz.prog 11 #[.agg #[.int .i64 p.code, .int .i64 p.time, .string p.val, .slice a n c], .agg #[.int .i64 p.code, .int .i64 p.time, .string p.val, .slice a2 n c2]] w fun e w' => e = .returned (.bool true) ∧ Below w.heap.size w w' := by
 obtain ⟨C, T, V, L⟩ := p
 simp only at h1 h2 ⊢
 obtain ⟨W, hW⟩ : ∃ W, W = (w.alloc (.cells #[.int .i64 C, .int .i64 T, .string V, .slice a n c] 40)).alloc (.cells #[.int .i64 C, .int .i64 T, .string V, .slice a2 n c2] 40) := ⟨_, rfl⟩
 obtain ⟨bW, k1, k2, -⟩ := twoBx hW
 have CS := hide (sameEntries_any a a2 n c c2 L W (h1.below bW) (h2.below bW) hn)
 have p0 := (heap_at k1 0).1
 have p1 := (heap_at k1 1).1
 have p2 := (heap_at k1 2).1
 have p3 := (heap_at k1 3).1
 have q0 := (heap_at k2 0).1
 have q1 := (heap_at k2 1).1
 have q2 := (heap_at k2 2).1
 have q3 := (heap_at k2 3).1
 have e0 : (C == C) = true := by simp
 have e1 : (T == T) = true := by simp
 have e2 : (V.toList == V.toList) = true := by simp
 clear h1 h2 k1 k2
 go_enter Tryz.func11, Tryz.ntmps11
 go_upto_region 1 with fail
 rw [← hW]
 clear hW
 go_wp2_with fail
 refine (unhide CS).mono ?_
 rintro e w1 ⟨rfl, hb⟩
 have BE := bW.trans (hb.mono bW.size)
 clear hb CS
 go_wp2_with fail
 go_ret
 exact ⟨rfl, BE⟩
set_option maxHeartbeats 4000000 in
theorem specEntriesAt_nn (a : Option Addr) (n c : Nat) (ds : List VerD) (t : Int) (w : World) (hn : n ≤ 4096) (hr : VRow w a n ds) (ok : okVs ds = true) :
  Calls Tryz.prog 12 #[.slice a n c, .int .i64 t] w fun e w' => ∃ v, e = .returned (.tuple #[v, .int .i64 0]) ∧ KNn w' w.heap.size v (entsAt ds t) ∧ Below w.heap.size w w' := by
 have R := hide hr
 clear hr
 have g4 : ¬ (4096 : Int) < (n : Int) := by omega
 have EN := hide (fun (u : World) (hb : Below w.heap.size w u) => l06Entries_nn a n c ds t u (by omega) ((unhide R).below hb))
 go_enter Tryz.func12, Tryz.ntmps12
 go_wp2_with fail
 refine (l06List_any a n c ds w (by omega) (unhide R)).mono ?_
 rintro e w1 ⟨rfl, hb1⟩
 rw [ok]
 go_wp2_with fail
 refine (unhide EN w1 hb1).mono ?_
 rintro e w2 ⟨v, rfl, ho, hb2⟩
 have Z := hide (show KNn w2 w.heap.size v (entsAt ds t) from ⟨gd_base ho.1 hb1.size, ho.2⟩)
 have BE := hb1.trans (hb2.mono hb1.size)
 clear R EN ho hb1 hb2
 go_wp2_with fail
 go_ret2
 exact ⟨v, rfl, unhide Z, BE⟩
end Go.Proofs.YtdnjgbckkmbmfaaGreat

namespace Go.Proofs.YtdnjgbckkmbmfaaGreat
open Go.RowKit

end Go.Proofs.YtdnjgbckkmbmfaaGreat

namespace Go.Proofs.YtdnjgbckkmbmfaaGreat
open Go.RowKit

end Go.Proofs.YtdnjgbckkmbmfaaGreat

namespace Go.Proofs.YtdnjgbckkmbmfaaGreat
open Go.RowKit

end Go.Proofs.YtdnjgbckkmbmfaaGreat

namespace Go.Proofs.YtdnjgbckkmbmfaaGreat
open Go.RowKit

end Go.Proofs.YtdnjgbckkmbmfaaGreat

namespace Go.Proofs.YtdnjgbckkmbmfaaGreat
open Go.RowKit

def valA (es : List EntD) (key : ByteArray) : Value := match lookE es key with
 | some v => .tuple #[.string v, .bool true]
 | none => .tuple #[.string ⟨#[]⟩, .bool false]
set_option maxHeartbeats 2000000 in
theorem lawValue_any (a : Option Addr) (n c : Nat) (es : List EntD) (key : ByteArray) (w : World) (h1 : ERow w a n es) (hn : n ≤ 1000) :
  Calls Tryz.prog 14 #[.slice a n c, .string key] w fun e w' => e = .returned (valA es key) ∧ Below w.heap.size w w' := by
 have R1 := hide h1
 have LN := hide h1.1
 obtain ⟨V, hV⟩ : ∃ V, V = valA es key := ⟨_, rfl⟩
 rw [← hV]
 have HV := hide hV
 clear h1 hV
 go_enter Tryz.func14, Tryz.ntmps14
 go_wp2_with fail
 go_loopw [6] (fun i wr => ∃ k : Nat, k ≤ n ∧ i = .int .i64 k ∧ Hid (∀ j (hj : j < es.length), j < k → (es[j].k.toList == key.toList) = false) ∧ Below w.heap.size w wr) (fun i _ => n - (intOf i).toNat)
 case atStart => exact ⟨0, Nat.zero_le _, rfl, fun j _ h => absurd h (Nat.not_lt_zero _), Below.refl _ _⟩
 case round =>
  obtain ⟨k, hk, rfl, hno, hb⟩ := hrel
  by_cases hlt : k < n
  ·have hl : k < es.length := by rw [unhide LN]; exact hlt
   obtain ⟨b, off, rfl, c0, c1⟩ := ((unhide R1).below hb).2 k hl
   cases heq : (es[k].k.toList == key.toList) with
   | true =>
    have HE := hide (show V = .tuple #[.string es[k].v, .bool true] by rw [unhide HV]; unfold valA; rw [look_some hl (unhide hno) heq])
    generalize es[k] = em at *
    clear hno hl HV
    go_wp2_with fail
    go_ret2
    exact ⟨by rw [unhide HE]; rfl, by first | exact hb | exact bel_drewN hb _⟩
   | false =>
    have NX := hide (show ∀ j (hj : j < es.length), j < k + 1 → (es[j].k.toList == key.toList) = false from fun j hj h => by
     by_cases hjk : j = k
     ·subst hjk; exact heq
     ·exact unhide hno j hj (by omega))
    generalize es[k] = em at *
    clear hno hl
    go_wp2_with fail
    go_roundw
    case rel => exact ⟨k + 1, by omega, by go_num, NX, by first | exact hb | exact bel_drewN hb _⟩
    case measure => simp [intOf]; omega
  ·obtain rfl : k = n := by omega
   have HE := hide (show V = .tuple #[.string ⟨#[]⟩, .bool false] by rw [unhide HV]; unfold valA; rw [look_none (fun i hi => unhide hno i hi (by rw [← unhide LN]; exact hi))])
   clear hno HV
   go_wp2_with fail
   go_ret2
   exact ⟨by rw [unhide HE]; rfl, hb⟩
theorem xt_eqlb (x : Bool) (w : World) : (binOp .neq 4 (.bool x) (.bool x)).run Tryz.prog w = .ok (.bool false) w := by cases x <;> kernel_rfl
end Go.Proofs.YtdnjgbckkmbmfaaGreat

namespace Go.Proofs.YtdnjgbckkmbmfaaGreat
open Go.RowKit

set_option maxHeartbeats 4000000 in
theorem lawPut_any (b off n c : Nat) (es : List EntD) (e : EntD) (gone : Bool) (w : World) (hE : ERow w (some ⟨b, off, none⟩) n es) (hn : n ≤ 1000) (hc : n ≤ c) :
  Calls Tryz.prog 13 #[.slice (some ⟨b, off, none⟩) n c, .agg #[.string e.k, .string e.v], .bool gone] w fun x w' => ∃ g cap, x = .returned (.slice (some ⟨g, 0, none⟩) (putE es e gone).length cap) ∧ EOwns w' w.heap.size (.slice (some ⟨g, 0, none⟩) (putE es e gone).length cap) (putE es e gone) ∧ Below w.heap.size w w' := by
 obtain ⟨i0, hi0, hz0, hz1, hz2⟩ := info_parts Tryz.infoEntry
 have LE := hide hE.1
 have RE := hide hE
 have PL := hide (pos_le es e.k)
 clear hE
 have b1 : Below w.heap.size w ((w.alloc (.cells #[.string e.k, .string e.v] 48)).alloc (.cells #[] 48)) := ((Below.refl _ _).alloc (Nat.le_refl _) _).alloc (by simp) _
 have O0 := hide (show EOwns ((w.alloc (.cells #[.string e.k, .string e.v] 48)).alloc (.cells #[] 48)) (w.heap.size + 1) (.slice (some ⟨w.heap.size + 1, 0, none⟩) 0 0) [] by
  have := World.ownsRow_lit (base := w.heap.size + 1) (e := 48) (size := 2) (w.alloc (.cells #[.string e.k, .string e.v] 48)) #[] 0 (by simp) (by unfold maxLen; simp) rfl
  simp at this
  exact this)
 go_enter Tryz.func13, Tryz.ntmps13
 go_wp2_with fail
 go_loopw [7, 8] (fun v i wr => ∃ (j g cap : Nat), i = .int .i64 (j : Int) ∧ v = .slice (some ⟨g, 0, none⟩) j cap ∧ j ≤ pos es e.k ∧ Hid (EOwns wr (w.heap.size + 1) (.slice (some ⟨g, 0, none⟩) j cap) (es.take j)) ∧ Hid (Below (w.heap.size + 1) ((w.alloc (.cells #[.string e.k, .string e.v] 48)).alloc (.cells #[] 48)) wr)) (fun _ i _ => n - (intOf i).toNat)
 case atStart => exact ⟨0, w.heap.size + 1, 0, rfl, rfl, Nat.zero_le _, unhide O0, Below.refl _ _⟩
 case round =>
  clear O0
  obtain ⟨j, g, cap, rfl, rfl, hj, hO, hB⟩ := hrel
  have BW := hide (b1.trans ((unhide hB).mono (by omega)))
  have e0 : wr.cell? ⟨w.heap.size, 0, none⟩ = some (.string e.k) := ((unhide hB).cell (p := ⟨w.heap.size, 0, none⟩) (by simp)).trans (by simp)
  have e1 : wr.cell? ⟨w.heap.size, 1, none⟩ = some (.string e.v) := ((unhide hB).cell (p := ⟨w.heap.size, 1, none⟩) (by simp)).trans (by simp)
  by_cases hlt : j < pos es e.k
  ·have hje : j < es.length := by have := unhide PL; omega
   have hjn : j < n := by have := unhide LE; omega
   obtain ⟨b', off', he, d0, d1⟩ := ((unhide RE).below (unhide BW)).2 j hje
   injection he with he
   injection he with he1 he2
   subst he1 he2
   have hl := less_at hje hlt
   have TS := hide (takeG_snoc es j hje)
   have HTL := hide (show (es.take j).length = j by rw [List.length_take]; omega)
   generalize es[j] = em at *
   go_wp2_with fail
   go_quiet (fail)
   have O2 : wr.ownsRow (w.heap.size + 1) 48 2 (.slice (some ⟨g, 0, none⟩) j cap) j (ecs (es.take j)) := by have := unhide hO; unfold EOwns at this; rwa [unhide HTL] at this
   have hsz : w.heap.size + 1 ≤ wr.heap.size := by have := (unhide hB).size; simp at this; omega
   go_wp2_with (at_builtin; refine wpList_append_own _ rfl _ _ 38 rfl (w.heap.size + 1) 48 i0 (.agg #[.string ByteArray.empty, .string ByteArray.empty]) 2 32 Tryz.underlying38 hi0 hz0 hz1 hz2 rfl (by decide) _ _ _ rfl (World.ownsRow.alloc O2 _) ⟨wr.heap.size, 0, none⟩ 1 1 [.string em.k, .string em.v] rfl rfl (cells_new (vs := [.string em.k, .string em.v])) (by intro u hu; simp at hu; rcases hu with rfl | rfl <;> rfl) (by unfold maxLen; omega) (by omega) (by simp; omega) ?_)
   intro v3 w3 h1 h2 h3
   have O3 : EOwns w3 (w.heap.size + 1) v3 (es.take (j + 1)) := by
    rw [unhide TS]
    refine eapp ?_
    rw [unhide HTL]
    exact h1
   obtain ⟨g3, cap3, rfl, hg3⟩ := eowns_some O3 (fun h => by subst h; simp at h3)
   have hl3 : (es.take (j + 1)).length = j + 1 := by rw [List.length_take]; omega
   rw [hl3] at O3 ⊢
   have O4 := hide O3
   have B4 := hide (((bel_drewN (unhide hB) _).alloc hsz _).grown h2 (by simp; omega) (fun k hk => (O2.lt k hk).1))
   clear h1 h2 h3 O3 O2
   go_wp2_with fail
   go_roundw
   case rel => exact ⟨j + 1, g3, cap3, by go_num, rfl, by omega, unhide O4, unhide B4⟩
   case measure => simp [intOf]; omega
  ·obtain rfl : j = pos es e.k := by omega
   have HTL := hide (show (es.take (pos es e.k)).length = pos es e.k by have := unhide PL; rw [List.length_take]; omega)
   have hsz : w.heap.size + 1 ≤ wr.heap.size := by have := (unhide hB).size; simp at this; omega
   have O2 := hide (show wr.ownsRow (w.heap.size + 1) 48 2 (.slice (some ⟨g, 0, none⟩) (pos es e.k) cap) (pos es e.k) (ecs (es.take (pos es e.k))) by have := unhide hO; unfold EOwns at this; rwa [unhide HTL] at this)
   by_cases hpn : pos es e.k < es.length
   ·obtain ⟨b', off', he, d0, d1⟩ := ((unhide RE).below (unhide BW)).2 _ hpn
    injection he with he
    injection he with he1 he2
    subst he1 he2
    have hl : Op.bytesLess es[pos es e.k].k.toList e.k.toList = false := pos_at es e.k hpn
    have hjn : pos es e.k < n := by have := unhide LE; omega
    have hbl : b < w.heap.size := by obtain ⟨b2, o2, h2, c2, _⟩ := (unhide RE).2 _ hpn; injection h2 with h2; injection h2 with h2 _; subst h2; exact cell_lt c2
    have FD := hide (show (es[pos es e.k].k.toList == e.k.toList) = found es e.k by unfold found; rw [List.getElem?_eq_getElem hpn])
    generalize hp : pos es e.k = p at *
    go_wp2_with fail
    go_quiet (fail)
    have O2q := hide (show (wr.drewN nq).ownsRow (w.heap.size + 1) 48 2 (.slice (some ⟨g, 0, none⟩) p cap) p (ecs (es.take p)) from unhide O2)
    have B2q := hide (bel_drewN (unhide hB) nq)
    have e0q : (wr.drewN nq).cell? ⟨w.heap.size, 0, none⟩ = some (.string e.k) := e0
    have e1q : (wr.drewN nq).cell? ⟨w.heap.size, 1, none⟩ = some (.string e.v) := e1
    have hszq : w.heap.size + 1 ≤ (wr.drewN nq).heap.size := hsz
    have d0q : (wr.drewN nq).cell? ⟨b, off + p * 2, none⟩ = some (.string es[p].k) := d0
    clear O2 hO hB BW e0 e1 hsz d0 d1
    generalize wr.drewN nq = wq at *
    cases gone with
    | true =>
     have OX := hide (unhide O2q)
     have BY := hide (unhide B2q)
     have BX := hide (b1.trans ((unhide B2q).mono (by omega)))
     clear O2q B2q e1q
     by_cases hf : found es e.k = true
     ·have hfe : (es[p].k.toList == e.k.toList) = true := by rw [unhide FD]; exact hf
      have ST := hide (show putE es e true = (es.take p) ++ es.drop (p + 1) by unfold putE stepE; rw [if_neg (by simp), hp, hf]; simp)
      go_wp2_with fail
      go_quiet (fail)
      obtain ⟨A, hA, hsrc⟩ := drop_src (k := (p + 1)) ((unhide RE).below (unhide BX)) hc
      have HN := hide (show (ecs (es.drop (p + 1))).length = (n - (p + 1)) * 2 by rw [ecs_len, List.length_drop, unhide LE])
      have hsX : w.heap.size + 1 ≤ wq.heap.size := by have := (unhide BY).size; simp at this; omega
      go_wp2_with (at_builtin; refine wpList_append_own _ rfl _ _ 38 rfl (w.heap.size + 1) 48 i0 (.agg #[.string ByteArray.empty, .string ByteArray.empty]) 2 32 Tryz.underlying38 hi0 hz0 hz1 hz2 rfl (by decide) _ _ _ rfl (show (wq.drewN nq).ownsRow (w.heap.size + 1) 48 2 (.slice (some ⟨g, 0, none⟩) p cap) p (ecs (es.take p)) from unhide OX) A (n - (p + 1)) (c - (p + 1)) (ecs (es.drop (p + 1))) rfl (unhide HN) (unhide hsrc) (ecs_one _) (by unfold maxLen; omega) (by omega) hsX ?_)
      intro v5 w5 h1 h2 h3
      have O5 : EOwns w5 w.heap.size v5 (putE es e true) := by
       rw [unhide ST]
       refine ownsRow_base2 ?_ (Nat.le_succ _)
       rw [ecs_append, List.length_append, List.length_drop, unhide LE, unhide HTL]
       exact h1
      obtain ⟨g5, cap5, rfl, _⟩ := eowns_some O5 (fun h => by first | exact h3 h | (subst h; simp at h3))
      have O6 := hide O5
      have B6 := hide (b1.trans (((bel_drewN (unhide BY) nq).grown h2 hsX (fun k hk => (World.ownsRow.lt (show (wq.drewN nq).ownsRow (w.heap.size + 1) 48 2 (.slice (some ⟨g, 0, none⟩) p cap) p (ecs (es.take p)) from unhide OX) k hk).1)).mono (by omega)))
      clear h1 h2 h3 O5
      go_wp2_with fail
      go_ret
      exact ⟨g5, cap5, rfl, unhide O6, unhide B6⟩
     ·have hfe : (es[p].k.toList == e.k.toList) = false := by rw [unhide FD]; simpa using hf
      have hf : found es e.k = false := by simpa using hf
      have ST := hide (show putE es e true = (es.take p) ++ es.drop p by unfold putE stepE; rw [if_neg (by simp), hp, hf]; simp)
      go_wp2_with fail
      go_quiet (fail)
      obtain ⟨A, hA, hsrc⟩ := drop_src (k := p) ((unhide RE).below (unhide BX)) hc
      have HN := hide (show (ecs (es.drop p)).length = (n - p) * 2 by rw [ecs_len, List.length_drop, unhide LE])
      have hsX : w.heap.size + 1 ≤ wq.heap.size := by have := (unhide BY).size; simp at this; omega
      go_wp2_with (at_builtin; refine wpList_append_own _ rfl _ _ 38 rfl (w.heap.size + 1) 48 i0 (.agg #[.string ByteArray.empty, .string ByteArray.empty]) 2 32 Tryz.underlying38 hi0 hz0 hz1 hz2 rfl (by decide) _ _ _ rfl (show (wq.drewN nq).ownsRow (w.heap.size + 1) 48 2 (.slice (some ⟨g, 0, none⟩) p cap) p (ecs (es.take p)) from unhide OX) A (n - p) (c - p) (ecs (es.drop p)) rfl (unhide HN) (unhide hsrc) (ecs_one _) (by unfold maxLen; omega) (by omega) hsX ?_)
      intro v5 w5 h1 h2 h3
      have O5 : EOwns w5 w.heap.size v5 (putE es e true) := by
       rw [unhide ST]
       refine ownsRow_base2 ?_ (Nat.le_succ _)
       rw [ecs_append, List.length_append, List.length_drop, unhide LE, unhide HTL]
       exact h1
      obtain ⟨g5, cap5, rfl, _⟩ := eowns_some O5 (fun h => by first | exact h3 h | (subst h; simp at h3))
      have O6 := hide O5
      have B6 := hide (b1.trans (((bel_drewN (unhide BY) nq).grown h2 hsX (fun k hk => (World.ownsRow.lt (show (wq.drewN nq).ownsRow (w.heap.size + 1) 48 2 (.slice (some ⟨g, 0, none⟩) p cap) p (ecs (es.take p)) from unhide OX) k hk).1)).mono (by omega)))
      clear h1 h2 h3 O5
      go_wp2_with fail
      go_ret
      exact ⟨g5, cap5, rfl, unhide O6, unhide B6⟩
    | false =>
     go_wp2_with (at_builtin; refine wpList_append_own _ rfl _ _ 38 rfl (w.heap.size + 1) 48 i0 (.agg #[.string ByteArray.empty, .string ByteArray.empty]) 2 32 Tryz.underlying38 hi0 hz0 hz1 hz2 rfl (by decide) _ _ _ rfl (World.ownsRow.alloc (unhide O2q) _) ⟨wq.heap.size, 0, none⟩ 1 1 [.string e.k, .string e.v] rfl rfl (cells_new (vs := [.string e.k, .string e.v])) (by intro u hu; simp at hu; rcases hu with rfl | rfl <;> rfl) (by unfold maxLen; omega) (by omega) (by simp; omega) ?_)
     intro v3 w3 h1 h2 h3
     have O3 : EOwns w3 (w.heap.size + 1) v3 (es.take p ++ [e]) := by
      refine eapp ?_
      rw [unhide HTL]
      exact h1
     obtain ⟨g3, cap3, rfl, hg3⟩ := eowns_some O3 (fun h => by subst h; simp at h3)
     have hl3 : (es.take p ++ [e]).length = p + 1 := by rw [List.length_append, unhide HTL]; rfl
     unfold EOwns at O3
     rw [hl3] at O3 ⊢
     have OX := hide O3
     have bZ : Below (w.heap.size + 1) wq w3 := ((Below.refl _ _).alloc hszq _).grown h2 (by simp; omega) (fun k hk => ((unhide O2q).lt k hk).1)
     have BY := hide ((unhide B2q).trans bZ)
     have BX := hide (b1.trans ((unhide BY).mono (by omega)))
     have e0r := (bZ.cell (p := ⟨w.heap.size, 0, none⟩) (by show w.heap.size < w.heap.size + 1; omega)).trans e0q
     have d0r := (bZ.cell (p := ⟨b, off + p * 2, none⟩) (by show b < w.heap.size + 1; omega)).trans d0q
     clear h1 h2 h3 O3 bZ O2q B2q e0q e1q hl3 d0q
     by_cases hf : found es e.k = true
     ·have hfe : (es[p].k.toList == e.k.toList) = true := by rw [unhide FD]; exact hf
      have ST := hide (show putE es e false = (es.take p ++ [e]) ++ es.drop (p + 1) by unfold putE stepE; rw [if_neg (by simp), hp, hf]; simp)
      go_wp2_with fail
      go_quiet (fail)
      obtain ⟨A, hA, hsrc⟩ := drop_src (k := (p + 1)) ((unhide RE).below (unhide BX)) hc
      have HN := hide (show (ecs (es.drop (p + 1))).length = (n - (p + 1)) * 2 by rw [ecs_len, List.length_drop, unhide LE])
      have hsX : w.heap.size + 1 ≤ w3.heap.size := by have := (unhide BY).size; simp at this; omega
      go_wp2_with (at_builtin; refine wpList_append_own _ rfl _ _ 38 rfl (w.heap.size + 1) 48 i0 (.agg #[.string ByteArray.empty, .string ByteArray.empty]) 2 32 Tryz.underlying38 hi0 hz0 hz1 hz2 rfl (by decide) _ _ _ rfl (show (w3.drewN nq).ownsRow (w.heap.size + 1) 48 2 (.slice (some ⟨g3, 0, none⟩) (p + 1) cap3) (p + 1) (ecs (es.take p ++ [e])) from unhide OX) A (n - (p + 1)) (c - (p + 1)) (ecs (es.drop (p + 1))) rfl (unhide HN) (unhide hsrc) (ecs_one _) (by unfold maxLen; omega) (by omega) hsX ?_)
      intro v5 w5 h1 h2 h3
      have O5 : EOwns w5 w.heap.size v5 (putE es e false) := by
       rw [unhide ST]
       refine ownsRow_base2 ?_ (Nat.le_succ _)
       rw [ecs_append, List.length_append, List.length_drop, unhide LE, List.length_append, unhide HTL]
       exact h1
      obtain ⟨g5, cap5, rfl, _⟩ := eowns_some O5 (fun h => by first | exact h3 h | (subst h; simp at h3))
      have O6 := hide O5
      have B6 := hide (b1.trans (((bel_drewN (unhide BY) nq).grown h2 hsX (fun k hk => (World.ownsRow.lt (show (w3.drewN nq).ownsRow (w.heap.size + 1) 48 2 (.slice (some ⟨g3, 0, none⟩) (p + 1) cap3) (p + 1) (ecs (es.take p ++ [e])) from unhide OX) k hk).1)).mono (by omega)))
      clear h1 h2 h3 O5
      go_wp2_with fail
      go_ret
      exact ⟨g5, cap5, rfl, unhide O6, unhide B6⟩
     ·have hfe : (es[p].k.toList == e.k.toList) = false := by rw [unhide FD]; simpa using hf
      have hf : found es e.k = false := by simpa using hf
      have ST := hide (show putE es e false = (es.take p ++ [e]) ++ es.drop p by unfold putE stepE; rw [if_neg (by simp), hp, hf]; simp)
      go_wp2_with fail
      go_quiet (fail)
      obtain ⟨A, hA, hsrc⟩ := drop_src (k := p) ((unhide RE).below (unhide BX)) hc
      have HN := hide (show (ecs (es.drop p)).length = (n - p) * 2 by rw [ecs_len, List.length_drop, unhide LE])
      have hsX : w.heap.size + 1 ≤ w3.heap.size := by have := (unhide BY).size; simp at this; omega
      go_wp2_with (at_builtin; refine wpList_append_own _ rfl _ _ 38 rfl (w.heap.size + 1) 48 i0 (.agg #[.string ByteArray.empty, .string ByteArray.empty]) 2 32 Tryz.underlying38 hi0 hz0 hz1 hz2 rfl (by decide) _ _ _ rfl (show (w3.drewN nq).ownsRow (w.heap.size + 1) 48 2 (.slice (some ⟨g3, 0, none⟩) (p + 1) cap3) (p + 1) (ecs (es.take p ++ [e])) from unhide OX) A (n - p) (c - p) (ecs (es.drop p)) rfl (unhide HN) (unhide hsrc) (ecs_one _) (by unfold maxLen; omega) (by omega) hsX ?_)
      intro v5 w5 h1 h2 h3
      have O5 : EOwns w5 w.heap.size v5 (putE es e false) := by
       rw [unhide ST]
       refine ownsRow_base2 ?_ (Nat.le_succ _)
       rw [ecs_append, List.length_append, List.length_drop, unhide LE, List.length_append, unhide HTL]
       exact h1
      obtain ⟨g5, cap5, rfl, _⟩ := eowns_some O5 (fun h => by first | exact h3 h | (subst h; simp at h3))
      have O6 := hide O5
      have B6 := hide (b1.trans (((bel_drewN (unhide BY) nq).grown h2 hsX (fun k hk => (World.ownsRow.lt (show (w3.drewN nq).ownsRow (w.heap.size + 1) 48 2 (.slice (some ⟨g3, 0, none⟩) (p + 1) cap3) (p + 1) (ecs (es.take p ++ [e])) from unhide OX) k hk).1)).mono (by omega)))
      clear h1 h2 h3 O5
      go_wp2_with fail
      go_ret
      exact ⟨g5, cap5, rfl, unhide O6, unhide B6⟩
   ·have hjn : n ≤ pos es e.k := by have := unhide LE; have := unhide PL; omega
    have hjm : pos es e.k ≤ n := by have := unhide LE; have := unhide PL; omega
    have FN := hide (show found es e.k = false by unfold found; rw [List.getElem?_eq_none (by have := unhide LE; omega)])
    generalize hp : pos es e.k = p at *
    have hd1 : decide (p < n) = false := decide_eq_false (by omega)
    have hd2 : decide ((p : Int) < (n : Int)) = false := decide_eq_false (by omega)
    go_wp2_with fail
    go_quiet (fail)
    have O2q := hide (show (wr.drewN nq).ownsRow (w.heap.size + 1) 48 2 (.slice (some ⟨g, 0, none⟩) p cap) p (ecs (es.take p)) from unhide O2)
    have B2q := hide (bel_drewN (unhide hB) nq)
    have e0q : (wr.drewN nq).cell? ⟨w.heap.size, 0, none⟩ = some (.string e.k) := e0
    have e1q : (wr.drewN nq).cell? ⟨w.heap.size, 1, none⟩ = some (.string e.v) := e1
    have hszq : w.heap.size + 1 ≤ (wr.drewN nq).heap.size := hsz
    clear O2 hO hB BW e0 e1 hsz
    generalize wr.drewN nq = wq at *
    cases gone with
    | true =>
     have OX := hide (unhide O2q)
     have BY := hide (unhide B2q)
     have BX := hide (b1.trans ((unhide B2q).mono (by omega)))
     clear O2q B2q e1q
     have ST := hide (show putE es e true = (es.take p) by unfold putE stepE; rw [if_neg (by simp), hp, unhide FN, List.drop_of_length_le (by have := unhide LE; simp; omega)]; simp)
     go_wp2_with fail
     go_quiet (fail)
     obtain ⟨A, hA, hsrc⟩ := drop_src (k := p) ((unhide RE).below (unhide BX)) hc
     have hsX : w.heap.size + 1 ≤ wq.heap.size := by have := (unhide BY).size; simp at this; omega
     go_wp2_with (at_builtin; refine wpList_append_own _ rfl _ _ 38 rfl (w.heap.size + 1) 48 i0 (.agg #[.string ByteArray.empty, .string ByteArray.empty]) 2 32 Tryz.underlying38 hi0 hz0 hz1 hz2 rfl (by decide) _ _ _ rfl (show (wq.drewN nq).ownsRow (w.heap.size + 1) 48 2 (.slice (some ⟨g, 0, none⟩) p cap) p (ecs (es.take p)) from unhide OX) A 0 (c - p) [] rfl rfl (fun j u h => by simp at h) (fun u h => by simp at h) (by unfold maxLen; omega) (by omega) hsX ?_)
     intro v5 w5 h1 h2 h3
     have O5 : EOwns w5 w.heap.size v5 (putE es e true) := by
      rw [unhide ST]
      refine ownsRow_base2 ?_ (Nat.le_succ _)
      rw [unhide HTL]
      simpa using h1
     obtain ⟨g5, cap5, rfl, _⟩ := eowns_some O5 (fun h => by first | exact h3 h | (subst h; simp at h3))
     have O6 := hide O5
     have B6 := hide (b1.trans (((bel_drewN (unhide BY) nq).grown h2 hsX (fun k hk => (World.ownsRow.lt (show (wq.drewN nq).ownsRow (w.heap.size + 1) 48 2 (.slice (some ⟨g, 0, none⟩) p cap) p (ecs (es.take p)) from unhide OX) k hk).1)).mono (by omega)))
     clear h1 h2 h3 O5
     go_wp2_with fail
     go_ret
     exact ⟨g5, cap5, rfl, unhide O6, unhide B6⟩
    | false =>
     go_wp2_with (at_builtin; refine wpList_append_own _ rfl _ _ 38 rfl (w.heap.size + 1) 48 i0 (.agg #[.string ByteArray.empty, .string ByteArray.empty]) 2 32 Tryz.underlying38 hi0 hz0 hz1 hz2 rfl (by decide) _ _ _ rfl (World.ownsRow.alloc (unhide O2q) _) ⟨wq.heap.size, 0, none⟩ 1 1 [.string e.k, .string e.v] rfl rfl (cells_new (vs := [.string e.k, .string e.v])) (by intro u hu; simp at hu; rcases hu with rfl | rfl <;> rfl) (by unfold maxLen; omega) (by omega) (by simp; omega) ?_)
     intro v3 w3 h1 h2 h3
     have O3 : EOwns w3 (w.heap.size + 1) v3 (es.take p ++ [e]) := by
      refine eapp ?_
      rw [unhide HTL]
      exact h1
     obtain ⟨g3, cap3, rfl, hg3⟩ := eowns_some O3 (fun h => by subst h; simp at h3)
     have hl3 : (es.take p ++ [e]).length = p + 1 := by rw [List.length_append, unhide HTL]; rfl
     unfold EOwns at O3
     rw [hl3] at O3 ⊢
     have OX := hide O3
     have bZ : Below (w.heap.size + 1) wq w3 := ((Below.refl _ _).alloc hszq _).grown h2 (by simp; omega) (fun k hk => ((unhide O2q).lt k hk).1)
     have BY := hide ((unhide B2q).trans bZ)
     have BX := hide (b1.trans ((unhide BY).mono (by omega)))
     have e0r := (bZ.cell (p := ⟨w.heap.size, 0, none⟩) (by show w.heap.size < w.heap.size + 1; omega)).trans e0q
     clear h1 h2 h3 O3 bZ O2q B2q e0q e1q hl3
     have ST := hide (show putE es e false = (es.take p ++ [e]) by unfold putE stepE; rw [if_neg (by simp), hp, unhide FN, List.drop_of_length_le (by have := unhide LE; simp; omega)]; simp)
     go_wp2_with fail
     go_quiet (fail)
     obtain ⟨A, hA, hsrc⟩ := drop_src (k := p) ((unhide RE).below (unhide BX)) hc
     have hsX : w.heap.size + 1 ≤ w3.heap.size := by have := (unhide BY).size; simp at this; omega
     go_wp2_with (at_builtin; refine wpList_append_own _ rfl _ _ 38 rfl (w.heap.size + 1) 48 i0 (.agg #[.string ByteArray.empty, .string ByteArray.empty]) 2 32 Tryz.underlying38 hi0 hz0 hz1 hz2 rfl (by decide) _ _ _ rfl (show (w3.drewN nq).ownsRow (w.heap.size + 1) 48 2 (.slice (some ⟨g3, 0, none⟩) (p + 1) cap3) (p + 1) (ecs (es.take p ++ [e])) from unhide OX) A 0 (c - p) [] rfl rfl (fun j u h => by simp at h) (fun u h => by simp at h) (by unfold maxLen; omega) (by omega) hsX ?_)
     intro v5 w5 h1 h2 h3
     have O5 : EOwns w5 w.heap.size v5 (putE es e false) := by
      rw [unhide ST]
      refine ownsRow_base2 ?_ (Nat.le_succ _)
      rw [List.length_append, unhide HTL]
      simpa using h1
     obtain ⟨g5, cap5, rfl, _⟩ := eowns_some O5 (fun h => by first | exact h3 h | (subst h; simp at h3))
     have O6 := hide O5
     have B6 := hide (b1.trans (((bel_drewN (unhide BY) nq).grown h2 hsX (fun k hk => (World.ownsRow.lt (show (w3.drewN nq).ownsRow (w.heap.size + 1) 48 2 (.slice (some ⟨g3, 0, none⟩) (p + 1) cap3) (p + 1) (ecs (es.take p ++ [e])) from unhide OX) k hk).1)).mono (by omega)))
     clear h1 h2 h3 O5
     go_wp2_with fail
     go_ret
     exact ⟨g5, cap5, rfl, unhide O6, unhide B6⟩
end Go.Proofs.YtdnjgbckkmbmfaaGreat

namespace Go.Proofs.YtdnjgbckkmbmfaaGreat
open Go.RowKit

structure Src (w : World) (p : Nat) (a : Option Addr) (n c : Nat) (xs : List Int) (K : Int) : Prop where
 code : w.cell? ⟨p, 0, none⟩ = some (.slice a n c)
 place : ∃ t : Int, w.cell? ⟨p, 1, none⟩ = some (.int .i64 t) ∧ 0 ≤ t ∧ t ≤ K
 seed : ∃ s : Int, w.cell? ⟨p, 2, none⟩ = some (.int .i64 s) ∧ 0 ≤ s ∧ s < 2147483648
 free : ∀ j, w.frozen? ⟨p, j, none⟩ = false
 row : Row w a n xs
 bytes : ∀ i, i < n → 0 ≤ xs.getD i 0 ∧ xs.getD i 0 ≤ 255
 apart : ∀ x, a = some x → 0 < n → x.block ≠ p
 bound : n ≤ 1048576

theorem Only.drewN {p k : Nat} {w w1 : World} (h : Only p w w1) : Only p w (w1.drewN k) := ⟨h.os, h.tape, h.output, h.size, h.block, h.frozen⟩

theorem Only.drew {p : Nat} {w w1 : World} (h : Only p w w1) : Only p w w1.drew := ⟨h.os, h.tape, h.output, h.size, h.block, h.frozen⟩
theorem src_step {w w' : World} {p : Nat} {a : Option Addr} {n c : Nat} {xs : List Int} {K t s : Int} (ho : Only p w w') (h0 : w'.cell? ⟨p, 0, none⟩ = some (.slice a n c)) (h1 : w'.cell? ⟨p, 1, none⟩ = some (.int .i64 t))
  (h2 : w'.cell? ⟨p, 2, none⟩ = some (.int .i64 s)) (ht : 0 ≤ t) (htK : t ≤ K) (hs : 0 ≤ s) (hs1 : s < 2147483648) (hf : ∀ j, w.frozen? ⟨p, j, none⟩ = false) (hr : Row w a n xs)
  (hb : ∀ i, i < n → 0 ≤ xs.getD i 0 ∧ xs.getD i 0 ≤ 255) (ha : ∀ x, a = some x → 0 < n → x.block ≠ p) (hn : n ≤ 1048576) : Src w' p a n c xs K := by
 refine ⟨h0, ⟨t, h1, ht, htK⟩, ⟨s, h2, hs, hs1⟩, fun j => (ho.frozen _).trans (hf j), ?_, hb, ha, hn⟩
 by_cases hp : 0 < n
 ·exact hr.of_cells fun x hx q hq => ho.cell (by rw [hq]; exact ha x hx hp)
 ·exact ⟨hr.1, fun i hi => absurd hi (by omega)⟩

set_option maxHeartbeats 1000000 in
theorem byte_any (p : Nat) (a : Option Addr) (n c : Nat) (xs : List Int) (K : Int) (w : World) (h : Src w p a n c xs K) (hK : K ≤ 1000000) :
  Calls Tryz.prog 97 #[.pointer (some ⟨p, 0, none⟩)] w fun e w' => ∃ r : Int, e = .returned (.int .i64 r) ∧ 0 ≤ r ∧ r ≤ 255 ∧ Only p w w' ∧ Src w' p a n c xs (K + 1) := by
 obtain ⟨hc, ⟨t, ht, ht0, htK⟩, ⟨s, hs, hs0, hs1⟩, hf, hr, hby, hap, hbd⟩ := h
 have f1 := hf 1
 have f2 := hf 2
 have R := hide hr
 have BY := hide hby
 have AP := hide hap
 have HF := hide hf
 clear hf hr hby hap
 by_cases hlt : t + 1 ≤ (n : Int)
 ·obtain ⟨k, rfl⟩ := Int.eq_ofNat_of_zero_le ht0
  obtain ⟨b, off, rfl, e1⟩ := (unhide R).2 k (by omega)
  obtain ⟨x0, x1⟩ := unhide BY k (by omega)
  generalize hx : xs.getD k 0 = x at *
  have hne : ¬ b = p := unhide AP _ rfl (by omega)
  clear hx
  go_enter Tryz.func97, Tryz.ntmps97
  go_wp2_with fail
  go_quiet (fail)
  go_wp2_with fail
  have d0 : ((w.setCell ⟨p, 1, none⟩ (.int .i64 ((k : Int) + 1))).drewN nq).cell? ⟨p, 0, none⟩ = some (.slice (some ⟨b, off, none⟩) n c) := (World.cell?_setCell_other _ _ _ _ (by intro h; simp at h)).trans hc
  have d1 : ((w.setCell ⟨p, 1, none⟩ (.int .i64 ((k : Int) + 1))).drewN nq).cell? ⟨p, 1, none⟩ = some (.int .i64 ((k : Int) + 1)) := World.cell?_setCell_same _ _ _ ht
  have d2 : ((w.setCell ⟨p, 1, none⟩ (.int .i64 ((k : Int) + 1))).drewN nq).cell? ⟨p, 2, none⟩ = some (.int .i64 s) := (World.cell?_setCell_other _ _ _ _ (by intro h; simp at h)).trans hs
  have dr : ((w.setCell ⟨p, 1, none⟩ (.int .i64 ((k : Int) + 1))).drewN nq).cell? ⟨b, off + k, none⟩ = some (.int .u8 x) := (World.cell?_setCell_other _ _ _ _ (by intro h; simp only [Addr.mk.injEq] at h; exact hne h.1.symm)).trans e1
  have df : ((w.setCell ⟨p, 1, none⟩ (.int .i64 ((k : Int) + 1))).drewN nq).frozen? ⟨p, 2, none⟩ = false := by simpa using f2
  have dO : Only p w ((w.setCell ⟨p, 1, none⟩ (.int .i64 ((k : Int) + 1))).drewN nq) := Only.drewN (Only.setCell _ _ _ _)
  have DO := hide dO
  clear dO hc ht hs e1 f1 f2
  generalize (w.setCell ⟨p, 1, none⟩ (.int .i64 ((k : Int) + 1))).drewN nq = W1 at *
  go_region
  go_wp2_with fail
  go_quiet (fail)
  go_wp2_with fail
  go_ret
  refine ⟨x, rfl, x0, x1, Only.drewN (Only.drew ((unhide DO).trans (Only.setCell _ _ _ _))), ?_⟩
  refine src_step (t := (k : Int) + 1) (Only.drewN (Only.drew ((unhide DO).trans (Only.setCell _ _ _ _)))) ((World.cell?_setCell_other _ _ _ _ (by intro h; simp at h)).trans d0) ((World.cell?_setCell_other _ _ _ _ (by intro h; simp at h)).trans d1) (World.cell?_setCell_same _ _ _ d2) (by omega) (by omega) ?_ ?_ (unhide HF) (unhide R) (unhide BY) (unhide AP) hbd
  all_goals omega
 ·have hgt : (n : Int) < t + 1 := by omega
  clear hlt
  by_cases h3 : 3000 < t + 1
  ·go_enter Tryz.func97, Tryz.ntmps97
   go_wp2_with fail
   go_quiet (fail)
   go_wp2_with fail
   go_ret
   have hO := Only.drewN (k := nq) (Only.setCell w p 1 (.int .i64 (t + 1)))
   exact ⟨0, rfl, by omega, by omega, hO, src_step (t := t + 1) (s := s) hO ((World.cell?_setCell_other _ _ _ _ (by intro h; simp at h)).trans hc) (World.cell?_setCell_same _ _ _ ht) ((World.cell?_setCell_other _ _ _ _ (by intro h; simp at h)).trans hs) (by omega) (by omega) hs0 hs1 (unhide HF) (unhide R) (unhide BY) (unhide AP) hbd⟩
  ·go_enter Tryz.func97, Tryz.ntmps97
   go_wp2_with fail
   go_quiet (fail)
   go_wp2_with fail
   go_ret
   have hO := Only.drewN (k := nq) (Only.setCell w p 1 (.int .i64 (t + 1)))
   have hO2 := hO.trans (Only.setCell _ p 2 (.int .i64 ((s * 1103515245 + 12345) % 2147483648)))
   refine ⟨_, rfl, ?_, ?_, hO2, src_step (t := t + 1) hO2 ((World.cell?_setCell_other _ _ _ _ (by intro h; simp at h)).trans ((World.cell?_setCell_other _ _ _ _ (by intro h; simp at h)).trans hc)) ((World.cell?_setCell_other _ _ _ _ (by intro h; simp at h)).trans (World.cell?_setCell_same _ _ _ ht)) (World.cell?_setCell_same _ _ _ ((World.cell?_setCell_other _ _ _ _ (by intro h; simp at h)).trans hs)) (by omega) (by omega) ?_ ?_ (unhide HF) (unhide R) (unhide BY) (unhide AP) hbd⟩
   all_goals omega
end Go.Proofs.YtdnjgbckkmbmfaaGreat

namespace Go.Proofs.YtdnjgbckkmbmfaaGreat
open Go.RowKit

theorem Src.more {w : World} {p : Nat} {a : Option Addr} {n c : Nat} {xs : List Int} {K K' : Int} (h : Src w p a n c xs K) (hk : K ≤ K') : Src w p a n c xs K' := by
 obtain ⟨h1, ⟨t, ht, ht0, htK⟩, h3, h4, h5, h6, h7, h8⟩ := h
 exact ⟨h1, ⟨t, ht, ht0, by omega⟩, h3, h4, h5, h6, h7, h8⟩

set_option maxHeartbeats 1000000 in
theorem next_any (p : Nat) (a : Option Addr) (n c : Nat) (xs : List Int) (K m : Int) (w : World) (h : Src w p a n c xs K) (hK : K ≤ 900000) (hm : 1 ≤ m) (hm2 : m ≤ 100000) :
  Calls Tryz.prog 64 #[.pointer (some ⟨p, 0, none⟩), .int .i64 m] w fun e w' => ∃ r : Int, e = .returned (.int .i64 r) ∧ 0 ≤ r ∧ r < m ∧ Only p w w' ∧ Src w' p a n c xs (K + 3) := by
 by_cases h1 : m ≤ 1
 ·go_enter Tryz.func64, Tryz.ntmps64
  go_wp2_with fail
  go_ret
  exact ⟨0, rfl, by omega, by omega, Only.refl _ _, Src.more h (by omega)⟩
 by_cases h2 : m ≤ 256
 ·go_enter Tryz.func64, Tryz.ntmps64
  go_wp2_with fail
  refine (byte_any p a n c xs K w h (by omega)).mono ?_
  rintro e w1 ⟨r, rfl, hr0, hr1, ho, hs⟩
  go_wp2_with fail
  go_ret
  refine ⟨_, rfl, ?_, ?_, ho, Src.more hs (by omega)⟩
  ·exact Int.emod_nonneg _ (by omega)
  ·exact Int.emod_lt_of_pos _ (by omega)
 ·go_enter Tryz.func64, Tryz.ntmps64
  go_wp2_with fail
  refine (byte_any p a n c xs K w h (by omega)).mono ?_
  rintro e w1 ⟨r1, rfl, hr10, hr11, ho1, hs1⟩
  go_wp2_with fail
  refine (byte_any p a n c xs (K + 1) w1 hs1 (by omega)).mono ?_
  rintro e w2 ⟨r2, rfl, hr20, hr21, ho2, hs2⟩
  go_wp2_with fail
  refine (byte_any p a n c xs (K + 1 + 1) w2 hs2 (by omega)).mono ?_
  rintro e w3 ⟨r3, rfl, hr30, hr31, ho3, hs3⟩
  go_wp2_with fail
  go_ret
  refine ⟨_, rfl, ?_, ?_, (ho1.trans ho2).trans ho3, Src.more hs3 (by omega)⟩
  ·exact Int.emod_nonneg _ (by omega)
  ·exact Int.emod_lt_of_pos _ (by omega)

set_option maxHeartbeats 1000000 in
theorem source_any (a : Option Addr) (n c : Nat) (xs : List Int) (w : World) (hr : Row w a n xs) (hby : ∀ i, i < n → 0 ≤ xs.getD i 0 ∧ xs.getD i 0 ≤ 255) (hn : n ≤ 1048576) :
  Calls Tryz.prog 29 #[.slice a n c] w fun e w' => e = .returned (.pointer (some ⟨w.heap.size, 0, none⟩)) ∧ Src w' w.heap.size a n c xs 0 ∧ Below w.heap.size w w' ∧ w'.heap.size = w.heap.size + 1 := by
 have R := hide hr
 have BY := hide hby
 clear hr hby
 go_enter Tryz.func29, Tryz.ntmps29
 go_wp2_with fail
 go_ret
 refine ⟨rfl, ?_, (Below.refl _ _).alloc (Nat.le_refl _) _, by simp⟩
 have hb : Below w.heap.size w (w.alloc (.cells #[.slice a n c, .int .i64 0, .int .i64 ((n : Int) % 1000)] 109)) := (Below.refl _ _).alloc (Nat.le_refl _) _
 have hlt : ∀ x, a = some x → 0 < n → x.block < w.heap.size := fun x hx hp => by
  obtain ⟨b, off, e, hc⟩ := (unhide R).2 0 hp
  rw [hx] at e
  cases e
  exact cell_lt hc
 refine ⟨by simp, ⟨0, by simp, by omega, by omega⟩, ⟨(n : Int) % 1000, by simp, by omega, by omega⟩, fun j => by simp, ?_, unhide BY, fun x hx hp => Nat.ne_of_lt (hlt x hx hp), hn⟩
 by_cases hp : 0 < n
 ·exact (unhide R).below hb (fun x hx => hlt x hx hp)
 ·exact ⟨(unhide R).1, fun i hi => absurd hi (by omega)⟩
set_option maxHeartbeats 1000000 in
theorem pick_any (p g m mc : Nat) (a : Option Addr) (n c : Nat) (xs : List Int) (K : Int) (w : World) (h : Src w p a n c xs K) (hK : K ≤ 800000) (hm : 1 ≤ m) (hm2 : m ≤ 1000) (hg : g ≠ p) (T : ByteArray → Prop)
  (hT : ∀ i, i < m → ∃ t, w.cell? ⟨g, i, none⟩ = some (.string t) ∧ T t) :
  Calls Tryz.prog 90 #[.pointer (some ⟨p, 0, none⟩), .slice (some ⟨g, 0, none⟩) m mc] w fun e w' => ∃ t : ByteArray, e = .returned (.string t) ∧ T t ∧ Only p w w' ∧ Src w' p a n c xs (K + 3) := by
 have HT := hide hT
 clear hT
 have hb : ((m : Int) == 0) = false := by simp; omega
 go_enter Tryz.func90, Tryz.ntmps90
 go_wp2_with fail
 refine (next_any p a n c xs K (m : Int) w h (by omega) (by omega) (by omega)).mono ?_
 rintro e w1 ⟨r, rfl, hr0, hr1, ho, hs⟩
 obtain ⟨k, rfl⟩ := Int.eq_ofNat_of_zero_le hr0
 obtain ⟨t, ht, hTt⟩ := unhide HT k (by omega)
 have ht1 := (ho.cell (p := ⟨g, k, none⟩) hg).trans ht
 clear ht
 go_wp2_with fail
 go_ret
 exact ⟨t, rfl, hTt, ho, hs⟩

theorem Src.alloc {w : World} {p : Nat} {a : Option Addr} {n c : Nat} {xs : List Int} {K : Int} (h : Src w p a n c xs K) (o : Obj) : Src (w.alloc o) p a n c xs K := by
 have hb : Below w.heap.size w (w.alloc o) := (Below.refl _ _).alloc (Nat.le_refl _) _
 obtain ⟨h1, ⟨t, ht, ht0, htK⟩, ⟨s, hs, hs0, hs1⟩, h4, h5, h6, h7, h8⟩ := h
 have hp := cell_lt h1
 refine ⟨(hb.cell (p := ⟨p, 0, none⟩) hp).trans h1, ⟨t, (hb.cell (p := ⟨p, 1, none⟩) hp).trans ht, ht0, htK⟩, ⟨s, (hb.cell (p := ⟨p, 2, none⟩) hp).trans hs, hs0, hs1⟩, fun j => (hb.frozen (p := ⟨p, j, none⟩) hp).trans (h4 j), ?_, h6, h7, h8⟩
 by_cases hn : 0 < n
 ·refine h5.below hb (fun x hx => ?_)
  obtain ⟨b, off, e, hc⟩ := h5.2 0 hn
  rw [hx] at e
  cases e
  exact cell_lt hc
 ·exact ⟨h5.1, fun i hi => absurd hi (by omega)⟩

end Go.Proofs.YtdnjgbckkmbmfaaGreat

namespace Go.Proofs.YtdnjgbckkmbmfaaGreat
open Go.RowKit

theorem Src.of_blocks' {w w' : World} {p : Nat} {a : Option Addr} {n c : Nat} {xs : List Int} {K : Int} (h : Src w p a n c xs K) (hp : w'.heap[p]? = w.heap[p]?) (ha : ∀ x, a = some x → 0 < n → w'.heap[x.block]? = w.heap[x.block]?) : Src w' p a n c xs K := by
 obtain ⟨h1, ⟨t, ht, ht0, htK⟩, ⟨s, hs, hs0, hs1⟩, h4, h5, h6, h7, h8⟩ := h
 refine ⟨(World.cell?_of_block (w := w) (a := ⟨p, 0, none⟩) hp).trans h1, ⟨t, (World.cell?_of_block (w := w) (a := ⟨p, 1, none⟩) hp).trans ht, ht0, htK⟩, ⟨s, (World.cell?_of_block (w := w) (a := ⟨p, 2, none⟩) hp).trans hs, hs0, hs1⟩, fun j => (World.frozen?_of_block (w := w) (a := ⟨p, j, none⟩) hp).trans (h4 j), ⟨h5.1, fun i hi => ?_⟩, h6, h7, h8⟩
 obtain ⟨b, off, e, hc⟩ := h5.2 i hi
 have hb : w'.heap[b]? = w.heap[b]? := ha _ e (by omega)
 exact ⟨b, off, e, (World.cell?_of_block (w := w) (a := ⟨b, off + i, none⟩) hb).trans hc⟩
theorem src_code' {w : World} {p : Nat} {a : Option Addr} {n c : Nat} {xs : List Int} {K : Int} (h : Src w p a n c xs K) : ∀ x, a = some x → 0 < n → x.block < w.heap.size := fun x hx hn => by
 obtain ⟨b, off, e, hc⟩ := h.row.2 0 hn
 rw [hx] at e
 cases e
 exact cell_lt hc
theorem Src.below {w w' : World} {p : Nat} {a : Option Addr} {n c : Nat} {xs : List Int} {K : Int} (h : Src w p a n c xs K) (hb : Below w.heap.size w w') : Src w' p a n c xs K :=
 h.of_blocks' (hb.block _ (cell_lt h.code)) (fun x hx hn => hb.block _ (src_code' h x hx hn))
end Go.Proofs.YtdnjgbckkmbmfaaGreat

namespace Go.Proofs.YtdnjgbckkmbmfaaGreat
open Go.RowKit

set_option maxHeartbeats 1000000 in
theorem chanceD_any (p : Nat) (a : Option Addr) (n c : Nat) (xs : List Int) (K m : Int) (w : World) (h : Src w p a n c xs K) (hK : K ≤ 800000) (hm : 1 ≤ m) (hm2 : m ≤ 100000) :
  Calls Tryz.prog 67 #[.pointer (some ⟨p, 0, none⟩), .int .i64 m] w fun e w' => ∃ x : Bool, e = .returned (.bool x) ∧ Wrote p w w' ∧ Src w' p a n c xs (K + 3) := by
 go_enter Tryz.func67, Tryz.ntmps67
 go_wp2_with fail
 refine (next_any p a n c xs K m w h (by omega) hm hm2).mono ?_
 rintro e w1 ⟨r, rfl, hr0, hr1, ho, hs⟩
 have HO := hide ho.wrote
 have HS := hide hs
 clear ho hs
 go_wp2_with fail
 go_ret
 exact ⟨_, rfl, unhide HO, unhide HS⟩
set_option maxHeartbeats 1000000 in
theorem valueD_any (p : Nat) (a : Option Addr) (n c : Nat) (xs : List Int) (K : Int) (w : World) (h : Src w p a n c xs K) (hK : K ≤ 700000) :
  Calls Tryz.prog 98 #[.pointer (some ⟨p, 0, none⟩)] w fun e w' => ∃ t : ByteArray, e = .returned (.string t) ∧ valK t = true ∧ Wrote p w w' ∧ Src w' p a n c xs (K + 3) := by
 have hp := cell_lt h.code
 go_enter Tryz.func98, Tryz.ntmps98
 go_wp2_with fail
 refine (pick_any p w.heap.size 4 4 a n c xs K _ (h.alloc _) (by omega) (by omega) (by omega) (by omega) (fun t => valK t = true) (fun i hi => ?_)).mono ?_
 ·match i, hi with
  | 0, _ => exact ⟨_, by simp; rfl, by decide⟩
  | 1, _ => exact ⟨_, by simp; rfl, by decide⟩
  | 2, _ => exact ⟨_, by simp; rfl, by decide⟩
  | 3, _ => exact ⟨_, by simp; rfl, by decide⟩
 ·rintro e w1 ⟨t, rfl, ht, ho, hs⟩
  have hb : Wrote p w w1 := (Wrote.alloc w p _).trans ho.wrote
  clear ho
  go_wp2_with fail
  go_ret
  exact ⟨t, rfl, ht, hb, hs⟩
theorem Src.set {w : World} {p b : Nat} {a : Option Addr} {n c : Nat} {xs : List Int} {K : Int} (h : Src w p a n c xs K) (hb : p ≠ b) (ha : ∀ x, a = some x → 0 < n → x.block ≠ b) (j : Nat) (v : Value) : Src (w.setCell ⟨b, j, none⟩ v) p a n c xs K :=
 h.of_blocks' (Below.heap_setCell _ _ _ _ hb) (fun x hx hn => Below.heap_setCell _ _ _ _ (ha x hx hn))
end Go.Proofs.YtdnjgbckkmbmfaaGreat

namespace Go.Proofs.YtdnjgbckkmbmfaaGreat
open Go.RowKit

end Go.Proofs.YtdnjgbckkmbmfaaGreat

namespace Go.Proofs.YtdnjgbckkmbmfaaGreat
open Go.RowKit

theorem size_draw (p : Nat) (a : Option Addr) (n c : Nat) (xs : List Int) (K : Int) (m : Nat) (w : World) (h : Src w p a n c xs K) :
  Calls Tryz.prog 65 #[.pointer (some ⟨p, 0, none⟩), .int .i64 (m : Int)] w fun e w' => ∃ r : Nat, e = .returned (.int .i64 (r : Int)) ∧ r ≤ m ∧ w' = w := by
 have c0 := h.code
 have hb := h.bound
 have hq : Int.tdiv (n : Int) 12 = ((n / 12 : Nat) : Int) := by rw [Int.tdiv_eq_ediv_of_nonneg (by omega)]; omega
 have wr : IntKind.i64.wrap (1 + ((n / 12 : Nat) : Int)) = ((1 + n / 12 : Nat) : Int) := by rw [IntKind.wrap_i64]; omega
 clear h
 go_enter Tryz.func65, Tryz.ntmps65
 go_wp2_with fail
 all_goals go_ret
 all_goals first | exact ⟨m, rfl, by omega, rfl⟩ | exact ⟨1 + n / 12, by simp, by omega, rfl⟩ | exact ⟨min (1 + n / 12) m, by rw [show min (1 + (n : Int) / 12) (m : Int) = ((min (1 + n / 12) m : Nat) : Int) by omega]; rfl, by omega, rfl⟩
end Go.Proofs.YtdnjgbckkmbmfaaGreat

namespace Go.Proofs.YtdnjgbckkmbmfaaGreat
open Go.RowKit

structure XdSt (w u : World) (p : Nat) (a : Option Addr) (n c : Nat) (xs : List Int) (K : Int) (b : Nat) (d : TxD) : Prop where
 src : Src u p a n c xs K
 wro : Wrote p w u
 res : u.heap[w.heap.size]? = some (.cells #[.int .i64 0, .int .i64 0, .string ⟨#[]⟩, .string ⟨#[]⟩, .string ⟨#[]⟩] 37 (0, 0))
 box : u.heap[b]? = some (.cells #[.int .i64 d.kind, .int .i64 d.ses, .string d.key, .string d.to, .string d.val] 37 (0, 0))
 bge : w.heap.size < b
 hp : p < w.heap.size
 hc : ∀ x, a = some x → 0 < n → x.block < w.heap.size
theorem XdSt.wrote {w u : World} {p : Nat} {a : Option Addr} {n c : Nat} {xs : List Int} {K : Int} {b : Nat} {d : TxD} {u' : World} {K' : Int} (h : XdSt w u p a n c xs K b d) (hs : Src u' p a n c xs K') (hw : Wrote p u u') : XdSt w u' p a n c xs K' b d :=
 ⟨hs, h.wro.trans hw, (hw.block _ (by have := h.hp; omega) (blk_lt h.res)).trans h.res, (hw.block _ (by have := h.hp; have := h.bge; omega) (blk_lt h.box)).trans h.box, h.bge, h.hp, h.hc⟩
theorem XdSt.alloc {w u : World} {p : Nat} {a : Option Addr} {n c : Nat} {xs : List Int} {K : Int} {b : Nat} {d : TxD} (h : XdSt w u p a n c xs K b d) (o : Obj) : XdSt w (u.alloc o) p a n c xs K b d := h.wrote (h.src.alloc o) (Wrote.alloc u p o)
theorem XdSt.set {w u : World} {p : Nat} {a : Option Addr} {n c : Nat} {xs : List Int} {K : Int} {b : Nat} {d : TxD} (h : XdSt w u p a n c xs K b d) (v0 v1 : Int) (v2 v3 v4 : ByteArray) : XdSt w (((((u.setCell ⟨b, 0, none⟩ (.int .i64 v0)).setCell ⟨b, 1, none⟩ (.int .i64 v1)).setCell ⟨b, 2, none⟩ (.string v2)).setCell ⟨b, 3, none⟩ (.string v3)).setCell ⟨b, 4, none⟩ (.string v4)) p a n c xs K b ⟨v0, v1, v2, v3, v4⟩ := by
 have h1 : p ≠ b := by have := h.hp; have := h.bge; omega
 have h2 : ∀ x, a = some x → 0 < n → x.block ≠ b := fun x hx hn => by have := h.hc x hx hn; have := h.bge; omega
 have hw : ∀ (u : World) (j : Nat) (v : Value), Wrote p w u → Wrote p w (u.setCell ⟨b, j, none⟩ v) := fun u j v hu => ⟨hu.os, hu.tape, hu.output, by have := hu.size; simp only [World.setCell] at *; simpa using this, fun k hk hl => (Below.heap_setCell u ⟨b, j, none⟩ v k (by show k ≠ b; have := h.bge; omega)).trans (hu.block k hk hl)⟩
 have hr : ∀ (u : World) (j : Nat) (v : Value) (o : Option Obj), u.heap[w.heap.size]? = o → (u.setCell ⟨b, j, none⟩ v).heap[w.heap.size]? = o := fun u j v o hu => (Below.heap_setCell u ⟨b, j, none⟩ v w.heap.size (by show w.heap.size ≠ b; have := h.bge; omega)).trans hu
 refine ⟨((((h.src.set h1 h2 0 _).set h1 h2 1 _).set h1 h2 2 _).set h1 h2 3 _).set h1 h2 4 _, hw _ _ _ (hw _ _ _ (hw _ _ _ (hw _ _ _ (hw _ _ _ h.wro)))), hr _ _ _ _ (hr _ _ _ _ (hr _ _ _ _ (hr _ _ _ _ (hr _ _ _ _ h.res)))), ?_, h.bge, h.hp, h.hc⟩
 have k0 := heap_set h.box 0 (.int .i64 v0)
 have k1 := heap_set k0 1 (.int .i64 v1)
 have k2 := heap_set k1 2 (.string v2)
 have k3 := heap_set k2 3 (.string v3)
 have k4 := heap_set k3 4 (.string v4)
 simpa using k4
theorem XdSt.kind {w u : World} {p : Nat} {a : Option Addr} {n c : Nat} {xs : List Int} {K : Int} {b : Nat} {d : TxD} (h : XdSt w u p a n c xs K b d) (v : Int) : XdSt w (u.setCell ⟨b, 0, none⟩ (.int .i64 v)) p a n c xs K b ⟨v, d.ses, d.key, d.to, d.val⟩ := by
 have h1 : p ≠ b := by have := h.hp; have := h.bge; omega
 have h2 : ∀ x, a = some x → 0 < n → x.block ≠ b := fun x hx hn => by have := h.hc x hx hn; have := h.bge; omega
 refine ⟨h.src.set h1 h2 0 _, ⟨h.wro.os, h.wro.tape, h.wro.output, by have := h.wro.size; simp only [World.setCell] at *; simpa using this, fun k hk hl => (Below.heap_setCell u ⟨b, 0, none⟩ _ k (by show k ≠ b; have := h.bge; omega)).trans (h.wro.block k hk hl)⟩, (Below.heap_setCell u ⟨b, 0, none⟩ _ w.heap.size (by show w.heap.size ≠ b; have := h.bge; omega)).trans h.res, ?_, h.bge, h.hp, h.hc⟩
 have k0 := heap_set h.box 0 (.int .i64 v)
 simpa using k0
theorem XdSt.val {w u : World} {p : Nat} {a : Option Addr} {n c : Nat} {xs : List Int} {K : Int} {b : Nat} {d : TxD} (h : XdSt w u p a n c xs K b d) (v : ByteArray) : XdSt w (u.setCell ⟨b, 4, none⟩ (.string v)) p a n c xs K b ⟨d.kind, d.ses, d.key, d.to, v⟩ := by
 have h1 : p ≠ b := by have := h.hp; have := h.bge; omega
 have h2 : ∀ x, a = some x → 0 < n → x.block ≠ b := fun x hx hn => by have := h.hc x hx hn; have := h.bge; omega
 refine ⟨h.src.set h1 h2 4 _, ⟨h.wro.os, h.wro.tape, h.wro.output, by have := h.wro.size; simp only [World.setCell] at *; simpa using this, fun k hk hl => (Below.heap_setCell u ⟨b, 4, none⟩ _ k (by show k ≠ b; have := h.bge; omega)).trans (h.wro.block k hk hl)⟩, (Below.heap_setCell u ⟨b, 4, none⟩ _ w.heap.size (by show w.heap.size ≠ b; have := h.bge; omega)).trans h.res, ?_, h.bge, h.hp, h.hc⟩
 have k0 := heap_set h.box 4 (.string v)
 simpa using k0
theorem XdSt.fin {w u : World} {p : Nat} {a : Option Addr} {n c : Nat} {xs : List Int} {K : Int} {b : Nat} {d : TxD} (h : XdSt w u p a n c xs K b d) (v0 v1 v2 v3 v4 : Value) : Wrote p w (((((u.setCell ⟨w.heap.size, 0, none⟩ v0).setCell ⟨w.heap.size, 1, none⟩ v1).setCell ⟨w.heap.size, 2, none⟩ v2).setCell ⟨w.heap.size, 3, none⟩ v3).setCell ⟨w.heap.size, 4, none⟩ v4) ∧ Src (((((u.setCell ⟨w.heap.size, 0, none⟩ v0).setCell ⟨w.heap.size, 1, none⟩ v1).setCell ⟨w.heap.size, 2, none⟩ v2).setCell ⟨w.heap.size, 3, none⟩ v3).setCell ⟨w.heap.size, 4, none⟩ v4) p a n c xs K := by
 have h1 : p ≠ w.heap.size := by have := h.hp; omega
 have h2 : ∀ x, a = some x → 0 < n → x.block ≠ w.heap.size := fun x hx hn => by have := h.hc x hx hn; omega
 have hw : ∀ (u : World) (j : Nat) (v : Value), Wrote p w u → Wrote p w (u.setCell ⟨w.heap.size, j, none⟩ v) := fun u j v hu => ⟨hu.os, hu.tape, hu.output, by have := hu.size; simp only [World.setCell] at *; simpa using this, fun k hk hl => (Below.heap_setCell u ⟨w.heap.size, j, none⟩ v k (by show k ≠ w.heap.size; omega)).trans (hu.block k hk hl)⟩
 exact ⟨hw _ _ _ (hw _ _ _ (hw _ _ _ (hw _ _ _ (hw _ _ _ h.wro)))), ((((h.src.set h1 h2 0 _).set h1 h2 1 _).set h1 h2 2 _).set h1 h2 3 _).set h1 h2 4 _⟩
theorem str_lit {W : World} {t : TypeId} {cs : Array Value} {m : Nat} (hm : cs.size = m) (hs : ∀ i (h : i < cs.size), ∃ s, cs[i] = .string s) : ∀ i, i < m → ∃ s, (W.alloc (.cells cs t)).cell? ⟨W.heap.size, i, none⟩ = some (.string s) ∧ True := fun i hi => by
 obtain ⟨s, e⟩ := hs i (by omega)
 exact ⟨s, rb_cell_new rfl (by rw [Array.getElem?_eq_getElem (by omega), e]), trivial⟩
theorem five_str {x0 x1 x2 x3 : ByteArray} : ∀ i (h : i < (#[Value.string x0, .string x1, .string x2, .string x3] : Array Value).size), ∃ s, (#[Value.string x0, .string x1, .string x2, .string x3] : Array Value)[i] = .string s := by
 intro i h
 match i, h with
 | 0, _ => exact ⟨_, rfl⟩
 | 1, _ => exact ⟨_, rfl⟩
 | 2, _ => exact ⟨_, rfl⟩
 | 3, _ => exact ⟨_, rfl⟩
theorem three_str {x0 x1 x2 : ByteArray} : ∀ i (h : i < (#[Value.string x0, .string x1, .string x2] : Array Value).size), ∃ s, (#[Value.string x0, .string x1, .string x2] : Array Value)[i] = .string s := by
 intro i h
 match i, h with
 | 0, _ => exact ⟨_, rfl⟩
 | 1, _ => exact ⟨_, rfl⟩
 | 2, _ => exact ⟨_, rfl⟩
theorem xd_cell {w u : World} {p : Nat} {a : Option Addr} {n c : Nat} {xs : List Int} {K : Int} {b : Nat} {d : TxD} (h : XdSt w u p a n c xs K b d) : u.cell? ⟨b, 1, none⟩ = some (.int .i64 d.ses) := (heap_at h.box 1).1
theorem lit_of {u : World} {g : Nat} {t : TypeId} {x0 x1 x2 : Value} (h : u.heap[g]? = some (.cells #[x0, x1, x2] t (0, 0))) (hs : ∀ i (h : i < (#[x0, x1, x2] : Array Value).size), ∃ s, (#[x0, x1, x2] : Array Value)[i] = .string s) : ∀ i, i < 3 → ∃ s, u.cell? ⟨g, i, none⟩ = some (.string s) ∧ True := fun i hi => by
 obtain ⟨s, e⟩ := hs i hi
 exact ⟨s, by rw [(heap_at h i).1, Array.getElem?_eq_getElem hi, e], trivial⟩
set_option maxHeartbeats 8000000 in
theorem txActD_any (p : Nat) (a : Option Addr) (n c : Nat) (xs : List Int) (Kq : Int) (w : World) (h : Src w p a n c xs Kq) (hKq : Kq ≤ 500000) :
  Calls Tryz.prog 66 #[.pointer (some ⟨p, 0, none⟩)] w fun e w' => ∃ d : TxD, e = .returned (xv d) ∧ (0 ≤ d.ses ∧ d.ses ≤ 2) ∧ Wrote p w w' ∧ Src w' p a n c xs (Kq + 18) := by
 have hp := cell_lt h.code
 have ha := src_code' h
 have S := hide (h.alloc (.cells #[.int .i64 0, .int .i64 0, .string ⟨#[]⟩, .string ⟨#[]⟩, .string ⟨#[]⟩] 37))
 have WW := hide (Wrote.alloc w p (.cells #[.int .i64 0, .int .i64 0, .string ⟨#[]⟩, .string ⟨#[]⟩, .string ⟨#[]⟩] 37))
 have kz := heap_alloc_new w (.cells #[.int .i64 0, .int .i64 0, .string ⟨#[]⟩, .string ⟨#[]⟩, .string ⟨#[]⟩] 37)
 have HA := hide ha
 clear h ha
 go_enter Tryz.func66, Tryz.ntmps66
 go_wp2_with fail
 generalize w.alloc (.cells #[.int .i64 0, .int .i64 0, .string ⟨#[]⟩, .string ⟨#[]⟩, .string ⟨#[]⟩] 37) = W0 at *
 refine (next_any p a n c xs Kq 3 W0 (unhide S) (by omega) (by omega) (by omega)).mono ?_
 rintro e w1 ⟨r, rfl, hr0, hr1, ho, hs⟩
 have hw1 := ho.wrote
 have kz1 := (hw1.block w.heap.size (by omega) (blk_lt kz)).trans kz
 have WW1 := hide ((unhide WW).trans hw1)
 have S1 := hide hs
 clear ho hs S WW kz hw1
 go_wp2_with fail
 have ST := hide (str_lit (W := w1) (t := 9) (cs := #[.string ⟨#[97]⟩, .string ⟨#[98]⟩, .string ⟨#[99]⟩, .string ⟨#[100]⟩]) (m := 4) rfl five_str)
 refine (pick_any p w1.heap.size 4 4 a n c xs (Kq + 3) _ ((unhide S1).alloc _) (by omega) (by omega) (by omega) (by have := cell_lt (unhide S1).code; show w1.heap.size ≠ p; simp only at this; omega) (fun _ => True) (unhide ST)).mono ?_
 rintro e w2 ⟨key, rfl, -, ho, hs⟩
 have hw2 := (Wrote.alloc w1 p (.cells #[.string ⟨#[97]⟩, .string ⟨#[98]⟩, .string ⟨#[99]⟩, .string ⟨#[100]⟩] 9)).trans ho.wrote
 have kz2 := (hw2.block w.heap.size (by omega) (blk_lt kz1)).trans kz1
 have WW2 := (unhide WW1).trans hw2
 have X0 := hide (show XdSt w (w2.alloc (.cells #[.int .i64 2, .int .i64 r, .string key, .string ⟨#[]⟩, .string ⟨#[]⟩] 37)) p a n c xs (Kq + 6) w2.heap.size ⟨2, r, key, ⟨#[]⟩, ⟨#[]⟩⟩ from
  ⟨(show Src w2 p a n c xs (Kq + 6) from hs.more (by omega)).alloc _, WW2.trans (Wrote.alloc w2 p _), (((Below.refl w2.heap.size w2).alloc (Nat.le_refl _) _).block w.heap.size (blk_lt kz2)).trans kz2, heap_alloc_new _ _, blk_lt kz2, hp, unhide HA⟩)
 clear ho hs hw2 kz2 WW2 kz1 WW1 S1 ST
 go_upto_region 2 with fail
 generalize w2.alloc (.cells #[.int .i64 2, .int .i64 r, .string key, .string ⟨#[]⟩, .string ⟨#[]⟩] 37) = w3 at *
 generalize w2.heap.size = b at *
 go_wp2_with fail
 refine (next_any p a n c xs (Kq + 6) 10 w3 (unhide X0).src (by omega) (by omega) (by omega)).mono ?_
 rintro e w4 ⟨q, rfl, hq0, hq1, ho, hs⟩
 have X1 := hide ((unhide X0).wrote (hs.more (show Kq + 6 + 3 ≤ Kq + 9 by omega)) ho.wrote)
 clear ho hs X0
 have RR := hide (show 0 ≤ r ∧ r ≤ 2 by omega)
 clear hr0 hr1
 by_cases h0 : q = 0
 ·subst h0
  have kb := (unhide X1).box
  have X2 := hide (show XdSt w (((((w4.setCell ⟨b, 0, none⟩ (.int .i64 1)).setCell ⟨b, 1, none⟩ (.int .i64 r)).setCell ⟨b, 2, none⟩ (.string ⟨#[]⟩)).setCell ⟨b, 3, none⟩ (.string ⟨#[]⟩)).setCell ⟨b, 4, none⟩ (.string ⟨#[]⟩)) p a n c xs _ b ⟨1, r, ⟨#[]⟩, ⟨#[]⟩, ⟨#[]⟩⟩ from (unhide X1).set 1 r ⟨#[]⟩ ⟨#[]⟩ ⟨#[]⟩)
  have k0 := (heap_at kb 0).1
  have kf0 := (heap_at kb 0).2
  have k1 := (heap_at kb 1).1
  have kf1 := (heap_at kb 1).2
  have k2 := (heap_at kb 2).1
  have kf2 := (heap_at kb 2).2
  have k3 := (heap_at kb 3).1
  have kf3 := (heap_at kb 3).2
  have k4 := (heap_at kb 4).1
  have kf4 := (heap_at kb 4).2
  clear kb
  go_upto_region 20 with fail
  clear k0 kf0 k1 kf1 k2 kf2 k3 kf3 k4 kf4
  generalize (((((w4.setCell ⟨b, 0, none⟩ (.int .i64 1)).setCell ⟨b, 1, none⟩ (.int .i64 r)).setCell ⟨b, 2, none⟩ (.string ⟨#[]⟩)).setCell ⟨b, 3, none⟩ (.string ⟨#[]⟩)).setCell ⟨b, 4, none⟩ (.string ⟨#[]⟩)) = w5 at *
  have kb := (unhide X2).box
  have kr := (unhide X2).res
  have FE := hide (((unhide X2).fin (.int .i64 1) (.int .i64 r) (.string ⟨#[]⟩) (.string ⟨#[]⟩) (.string ⟨#[]⟩)))
  have SF := hide ((unhide FE).2.more (show _ ≤ Kq + 18 by omega))
  have k0 := (heap_at kb 0).1
  have k1 := (heap_at kb 1).1
  have k2 := (heap_at kb 2).1
  have k3 := (heap_at kb 3).1
  have k4 := (heap_at kb 4).1
  have z0 := (heap_at kr 0).1
  have zf0 := (heap_at kr 0).2
  have z1 := (heap_at kr 1).1
  have zf1 := (heap_at kr 1).2
  have z2 := (heap_at kr 2).1
  have zf2 := (heap_at kr 2).2
  have z3 := (heap_at kr 3).1
  have zf3 := (heap_at kr 3).2
  have z4 := (heap_at kr 4).1
  have zf4 := (heap_at kr 4).2
  clear kb kr
  go_wp2_with fail
  refine bodyPost_ret (v := xv ⟨1, r, ⟨#[]⟩, ⟨#[]⟩, ⟨#[]⟩⟩) (by simp [results, Tryz.results66, go_sem, xv, *] <;> rfl) rfl ?_
  exact ⟨⟨1, r, ⟨#[]⟩, ⟨#[]⟩, ⟨#[]⟩⟩, rfl, unhide RR, (unhide FE).1, unhide SF⟩
 by_cases h1 : q = 1
 ·subst h1
  have kb := (unhide X1).box
  have X2 := hide (show XdSt w (((((w4.setCell ⟨b, 0, none⟩ (.int .i64 1)).setCell ⟨b, 1, none⟩ (.int .i64 r)).setCell ⟨b, 2, none⟩ (.string ⟨#[]⟩)).setCell ⟨b, 3, none⟩ (.string ⟨#[]⟩)).setCell ⟨b, 4, none⟩ (.string ⟨#[]⟩)) p a n c xs _ b ⟨1, r, ⟨#[]⟩, ⟨#[]⟩, ⟨#[]⟩⟩ from (unhide X1).set 1 r ⟨#[]⟩ ⟨#[]⟩ ⟨#[]⟩)
  have k0 := (heap_at kb 0).1
  have kf0 := (heap_at kb 0).2
  have k1 := (heap_at kb 1).1
  have kf1 := (heap_at kb 1).2
  have k2 := (heap_at kb 2).1
  have kf2 := (heap_at kb 2).2
  have k3 := (heap_at kb 3).1
  have kf3 := (heap_at kb 3).2
  have k4 := (heap_at kb 4).1
  have kf4 := (heap_at kb 4).2
  clear kb
  go_upto_region 20 with fail
  clear k0 kf0 k1 kf1 k2 kf2 k3 kf3 k4 kf4
  generalize (((((w4.setCell ⟨b, 0, none⟩ (.int .i64 1)).setCell ⟨b, 1, none⟩ (.int .i64 r)).setCell ⟨b, 2, none⟩ (.string ⟨#[]⟩)).setCell ⟨b, 3, none⟩ (.string ⟨#[]⟩)).setCell ⟨b, 4, none⟩ (.string ⟨#[]⟩)) = w5 at *
  have kb := (unhide X2).box
  have kr := (unhide X2).res
  have FE := hide (((unhide X2).fin (.int .i64 1) (.int .i64 r) (.string ⟨#[]⟩) (.string ⟨#[]⟩) (.string ⟨#[]⟩)))
  have SF := hide ((unhide FE).2.more (show _ ≤ Kq + 18 by omega))
  have k0 := (heap_at kb 0).1
  have k1 := (heap_at kb 1).1
  have k2 := (heap_at kb 2).1
  have k3 := (heap_at kb 3).1
  have k4 := (heap_at kb 4).1
  have z0 := (heap_at kr 0).1
  have zf0 := (heap_at kr 0).2
  have z1 := (heap_at kr 1).1
  have zf1 := (heap_at kr 1).2
  have z2 := (heap_at kr 2).1
  have zf2 := (heap_at kr 2).2
  have z3 := (heap_at kr 3).1
  have zf3 := (heap_at kr 3).2
  have z4 := (heap_at kr 4).1
  have zf4 := (heap_at kr 4).2
  clear kb kr
  go_wp2_with fail
  refine bodyPost_ret (v := xv ⟨1, r, ⟨#[]⟩, ⟨#[]⟩, ⟨#[]⟩⟩) (by simp [results, Tryz.results66, go_sem, xv, *] <;> rfl) rfl ?_
  exact ⟨⟨1, r, ⟨#[]⟩, ⟨#[]⟩, ⟨#[]⟩⟩, rfl, unhide RR, (unhide FE).1, unhide SF⟩
 by_cases h2 : q = 2
 ·subst h2
  have kb := (unhide X1).box
  have X2 := hide (show XdSt w (((((w4.setCell ⟨b, 0, none⟩ (.int .i64 6)).setCell ⟨b, 1, none⟩ (.int .i64 r)).setCell ⟨b, 2, none⟩ (.string ⟨#[]⟩)).setCell ⟨b, 3, none⟩ (.string ⟨#[]⟩)).setCell ⟨b, 4, none⟩ (.string ⟨#[]⟩)) p a n c xs _ b ⟨6, r, ⟨#[]⟩, ⟨#[]⟩, ⟨#[]⟩⟩ from (unhide X1).set 6 r ⟨#[]⟩ ⟨#[]⟩ ⟨#[]⟩)
  have k0 := (heap_at kb 0).1
  have kf0 := (heap_at kb 0).2
  have k1 := (heap_at kb 1).1
  have kf1 := (heap_at kb 1).2
  have k2 := (heap_at kb 2).1
  have kf2 := (heap_at kb 2).2
  have k3 := (heap_at kb 3).1
  have kf3 := (heap_at kb 3).2
  have k4 := (heap_at kb 4).1
  have kf4 := (heap_at kb 4).2
  clear kb
  go_upto_region 20 with fail
  clear k0 kf0 k1 kf1 k2 kf2 k3 kf3 k4 kf4
  generalize (((((w4.setCell ⟨b, 0, none⟩ (.int .i64 6)).setCell ⟨b, 1, none⟩ (.int .i64 r)).setCell ⟨b, 2, none⟩ (.string ⟨#[]⟩)).setCell ⟨b, 3, none⟩ (.string ⟨#[]⟩)).setCell ⟨b, 4, none⟩ (.string ⟨#[]⟩)) = w5 at *
  have kb := (unhide X2).box
  have kr := (unhide X2).res
  have FE := hide (((unhide X2).fin (.int .i64 6) (.int .i64 r) (.string ⟨#[]⟩) (.string ⟨#[]⟩) (.string ⟨#[]⟩)))
  have SF := hide ((unhide FE).2.more (show _ ≤ Kq + 18 by omega))
  have k0 := (heap_at kb 0).1
  have k1 := (heap_at kb 1).1
  have k2 := (heap_at kb 2).1
  have k3 := (heap_at kb 3).1
  have k4 := (heap_at kb 4).1
  have z0 := (heap_at kr 0).1
  have zf0 := (heap_at kr 0).2
  have z1 := (heap_at kr 1).1
  have zf1 := (heap_at kr 1).2
  have z2 := (heap_at kr 2).1
  have zf2 := (heap_at kr 2).2
  have z3 := (heap_at kr 3).1
  have zf3 := (heap_at kr 3).2
  have z4 := (heap_at kr 4).1
  have zf4 := (heap_at kr 4).2
  clear kb kr
  go_wp2_with fail
  refine bodyPost_ret (v := xv ⟨6, r, ⟨#[]⟩, ⟨#[]⟩, ⟨#[]⟩⟩) (by simp [results, Tryz.results66, go_sem, xv, *] <;> rfl) rfl ?_
  exact ⟨⟨6, r, ⟨#[]⟩, ⟨#[]⟩, ⟨#[]⟩⟩, rfl, unhide RR, (unhide FE).1, unhide SF⟩
 by_cases h3 : q = 3
 ·subst h3
  have kb := (unhide X1).box
  have X2 := hide (show XdSt w (((((w4.setCell ⟨b, 0, none⟩ (.int .i64 6)).setCell ⟨b, 1, none⟩ (.int .i64 r)).setCell ⟨b, 2, none⟩ (.string ⟨#[]⟩)).setCell ⟨b, 3, none⟩ (.string ⟨#[]⟩)).setCell ⟨b, 4, none⟩ (.string ⟨#[]⟩)) p a n c xs _ b ⟨6, r, ⟨#[]⟩, ⟨#[]⟩, ⟨#[]⟩⟩ from (unhide X1).set 6 r ⟨#[]⟩ ⟨#[]⟩ ⟨#[]⟩)
  have k0 := (heap_at kb 0).1
  have kf0 := (heap_at kb 0).2
  have k1 := (heap_at kb 1).1
  have kf1 := (heap_at kb 1).2
  have k2 := (heap_at kb 2).1
  have kf2 := (heap_at kb 2).2
  have k3 := (heap_at kb 3).1
  have kf3 := (heap_at kb 3).2
  have k4 := (heap_at kb 4).1
  have kf4 := (heap_at kb 4).2
  clear kb
  go_upto_region 20 with fail
  clear k0 kf0 k1 kf1 k2 kf2 k3 kf3 k4 kf4
  generalize (((((w4.setCell ⟨b, 0, none⟩ (.int .i64 6)).setCell ⟨b, 1, none⟩ (.int .i64 r)).setCell ⟨b, 2, none⟩ (.string ⟨#[]⟩)).setCell ⟨b, 3, none⟩ (.string ⟨#[]⟩)).setCell ⟨b, 4, none⟩ (.string ⟨#[]⟩)) = w5 at *
  have kb := (unhide X2).box
  have kr := (unhide X2).res
  have FE := hide (((unhide X2).fin (.int .i64 6) (.int .i64 r) (.string ⟨#[]⟩) (.string ⟨#[]⟩) (.string ⟨#[]⟩)))
  have SF := hide ((unhide FE).2.more (show _ ≤ Kq + 18 by omega))
  have k0 := (heap_at kb 0).1
  have k1 := (heap_at kb 1).1
  have k2 := (heap_at kb 2).1
  have k3 := (heap_at kb 3).1
  have k4 := (heap_at kb 4).1
  have z0 := (heap_at kr 0).1
  have zf0 := (heap_at kr 0).2
  have z1 := (heap_at kr 1).1
  have zf1 := (heap_at kr 1).2
  have z2 := (heap_at kr 2).1
  have zf2 := (heap_at kr 2).2
  have z3 := (heap_at kr 3).1
  have zf3 := (heap_at kr 3).2
  have z4 := (heap_at kr 4).1
  have zf4 := (heap_at kr 4).2
  clear kb kr
  go_wp2_with fail
  refine bodyPost_ret (v := xv ⟨6, r, ⟨#[]⟩, ⟨#[]⟩, ⟨#[]⟩⟩) (by simp [results, Tryz.results66, go_sem, xv, *] <;> rfl) rfl ?_
  exact ⟨⟨6, r, ⟨#[]⟩, ⟨#[]⟩, ⟨#[]⟩⟩, rfl, unhide RR, (unhide FE).1, unhide SF⟩
 by_cases h4 : q = 4
 ·subst h4
  have kb := (unhide X1).box
  have X2 := hide (show XdSt w (w4.setCell ⟨b, 0, none⟩ (.int .i64 4)) p a n c xs _ b ⟨4, r, key, ⟨#[]⟩, ⟨#[]⟩⟩ from (unhide X1).kind 4)
  have k0 := (heap_at kb 0).1
  have kf0 := (heap_at kb 0).2
  clear kb
  go_upto_region 13 with fail
  clear k0 kf0
  generalize w4.setCell ⟨b, 0, none⟩ (.int .i64 4) = w5 at *
  go_wp2_with fail
  refine (valueD_any p a n c xs (Kq + 9) w5 (unhide X2).src (by omega)).mono ?_
  rintro e w6 ⟨vv0, rfl, -, hw, hs⟩
  have X3 := hide ((unhide X2).wrote (hs.more (show Kq + 9 + 3 ≤ Kq + 12 by omega)) hw)
  clear hw hs X2
  have kb := (unhide X3).box
  have X4 := hide (show XdSt w (w6.setCell ⟨b, 4, none⟩ (.string vv0)) p a n c xs _ b ⟨4, r, key, ⟨#[]⟩, vv0⟩ from (unhide X3).val vv0)
  have k4 := (heap_at kb 4).1
  have kf4 := (heap_at kb 4).2
  clear kb
  go_upto_region 20 with fail
  clear k4 kf4
  generalize w6.setCell ⟨b, 4, none⟩ (.string vv0) = w7 at *
  have kb := (unhide X4).box
  have kr := (unhide X4).res
  have FE := hide (((unhide X4).fin (.int .i64 4) (.int .i64 r) (.string key) (.string ⟨#[]⟩) (.string vv0)))
  have SF := hide ((unhide FE).2.more (show _ ≤ Kq + 18 by omega))
  have k0 := (heap_at kb 0).1
  have k1 := (heap_at kb 1).1
  have k2 := (heap_at kb 2).1
  have k3 := (heap_at kb 3).1
  have k4 := (heap_at kb 4).1
  have z0 := (heap_at kr 0).1
  have zf0 := (heap_at kr 0).2
  have z1 := (heap_at kr 1).1
  have zf1 := (heap_at kr 1).2
  have z2 := (heap_at kr 2).1
  have zf2 := (heap_at kr 2).2
  have z3 := (heap_at kr 3).1
  have zf3 := (heap_at kr 3).2
  have z4 := (heap_at kr 4).1
  have zf4 := (heap_at kr 4).2
  clear kb kr
  go_wp2_with fail
  refine bodyPost_ret (v := xv ⟨4, r, key, ⟨#[]⟩, vv0⟩) (by simp [results, Tryz.results66, go_sem, xv, *] <;> rfl) rfl ?_
  exact ⟨⟨4, r, key, ⟨#[]⟩, vv0⟩, rfl, unhide RR, (unhide FE).1, unhide SF⟩
 by_cases h5 : q = 5
 ·subst h5
  have kb := (unhide X1).box
  have X2 := hide (show XdSt w (w4.setCell ⟨b, 0, none⟩ (.int .i64 4)) p a n c xs _ b ⟨4, r, key, ⟨#[]⟩, ⟨#[]⟩⟩ from (unhide X1).kind 4)
  have k0 := (heap_at kb 0).1
  have kf0 := (heap_at kb 0).2
  clear kb
  go_upto_region 13 with fail
  clear k0 kf0
  generalize w4.setCell ⟨b, 0, none⟩ (.int .i64 4) = w5 at *
  go_wp2_with fail
  refine (valueD_any p a n c xs (Kq + 9) w5 (unhide X2).src (by omega)).mono ?_
  rintro e w6 ⟨vv0, rfl, -, hw, hs⟩
  have X3 := hide ((unhide X2).wrote (hs.more (show Kq + 9 + 3 ≤ Kq + 12 by omega)) hw)
  clear hw hs X2
  have kb := (unhide X3).box
  have X4 := hide (show XdSt w (w6.setCell ⟨b, 4, none⟩ (.string vv0)) p a n c xs _ b ⟨4, r, key, ⟨#[]⟩, vv0⟩ from (unhide X3).val vv0)
  have k4 := (heap_at kb 4).1
  have kf4 := (heap_at kb 4).2
  clear kb
  go_upto_region 20 with fail
  clear k4 kf4
  generalize w6.setCell ⟨b, 4, none⟩ (.string vv0) = w7 at *
  have kb := (unhide X4).box
  have kr := (unhide X4).res
  have FE := hide (((unhide X4).fin (.int .i64 4) (.int .i64 r) (.string key) (.string ⟨#[]⟩) (.string vv0)))
  have SF := hide ((unhide FE).2.more (show _ ≤ Kq + 18 by omega))
  have k0 := (heap_at kb 0).1
  have k1 := (heap_at kb 1).1
  have k2 := (heap_at kb 2).1
  have k3 := (heap_at kb 3).1
  have k4 := (heap_at kb 4).1
  have z0 := (heap_at kr 0).1
  have zf0 := (heap_at kr 0).2
  have z1 := (heap_at kr 1).1
  have zf1 := (heap_at kr 1).2
  have z2 := (heap_at kr 2).1
  have zf2 := (heap_at kr 2).2
  have z3 := (heap_at kr 3).1
  have zf3 := (heap_at kr 3).2
  have z4 := (heap_at kr 4).1
  have zf4 := (heap_at kr 4).2
  clear kb kr
  go_wp2_with fail
  refine bodyPost_ret (v := xv ⟨4, r, key, ⟨#[]⟩, vv0⟩) (by simp [results, Tryz.results66, go_sem, xv, *] <;> rfl) rfl ?_
  exact ⟨⟨4, r, key, ⟨#[]⟩, vv0⟩, rfl, unhide RR, (unhide FE).1, unhide SF⟩
 by_cases h6 : q = 6
 ·subst h6
  have kb := (unhide X1).box
  have X2 := hide (show XdSt w (w4.setCell ⟨b, 0, none⟩ (.int .i64 4)) p a n c xs _ b ⟨4, r, key, ⟨#[]⟩, ⟨#[]⟩⟩ from (unhide X1).kind 4)
  have k0 := (heap_at kb 0).1
  have kf0 := (heap_at kb 0).2
  clear kb
  go_upto_region 13 with fail
  clear k0 kf0
  generalize w4.setCell ⟨b, 0, none⟩ (.int .i64 4) = w5 at *
  go_wp2_with fail
  refine (valueD_any p a n c xs (Kq + 9) w5 (unhide X2).src (by omega)).mono ?_
  rintro e w6 ⟨vv0, rfl, -, hw, hs⟩
  have X3 := hide ((unhide X2).wrote (hs.more (show Kq + 9 + 3 ≤ Kq + 12 by omega)) hw)
  clear hw hs X2
  have kb := (unhide X3).box
  have X4 := hide (show XdSt w (w6.setCell ⟨b, 4, none⟩ (.string vv0)) p a n c xs _ b ⟨4, r, key, ⟨#[]⟩, vv0⟩ from (unhide X3).val vv0)
  have k4 := (heap_at kb 4).1
  have kf4 := (heap_at kb 4).2
  clear kb
  go_upto_region 20 with fail
  clear k4 kf4
  generalize w6.setCell ⟨b, 4, none⟩ (.string vv0) = w7 at *
  have kb := (unhide X4).box
  have kr := (unhide X4).res
  have FE := hide (((unhide X4).fin (.int .i64 4) (.int .i64 r) (.string key) (.string ⟨#[]⟩) (.string vv0)))
  have SF := hide ((unhide FE).2.more (show _ ≤ Kq + 18 by omega))
  have k0 := (heap_at kb 0).1
  have k1 := (heap_at kb 1).1
  have k2 := (heap_at kb 2).1
  have k3 := (heap_at kb 3).1
  have k4 := (heap_at kb 4).1
  have z0 := (heap_at kr 0).1
  have zf0 := (heap_at kr 0).2
  have z1 := (heap_at kr 1).1
  have zf1 := (heap_at kr 1).2
  have z2 := (heap_at kr 2).1
  have zf2 := (heap_at kr 2).2
  have z3 := (heap_at kr 3).1
  have zf3 := (heap_at kr 3).2
  have z4 := (heap_at kr 4).1
  have zf4 := (heap_at kr 4).2
  clear kb kr
  go_wp2_with fail
  refine bodyPost_ret (v := xv ⟨4, r, key, ⟨#[]⟩, vv0⟩) (by simp [results, Tryz.results66, go_sem, xv, *] <;> rfl) rfl ?_
  exact ⟨⟨4, r, key, ⟨#[]⟩, vv0⟩, rfl, unhide RR, (unhide FE).1, unhide SF⟩
 by_cases h7 : q = 7
 ·subst h7
  have kb := (unhide X1).box
  have X2 := hide (show XdSt w (w4.setCell ⟨b, 0, none⟩ (.int .i64 5)) p a n c xs _ b ⟨5, r, key, ⟨#[]⟩, ⟨#[]⟩⟩ from (unhide X1).kind 5)
  have k0 := (heap_at kb 0).1
  have kf0 := (heap_at kb 0).2
  clear kb
  go_upto_region 16 with fail
  clear k0 kf0
  generalize w4.setCell ⟨b, 0, none⟩ (.int .i64 5) = w5 at *
  go_wp2_with fail
  refine (chanceD_any p a n c xs (Kq + 9) 3 w5 (unhide X2).src (by omega) (by omega) (by omega)).mono ?_
  rintro e w6 ⟨x, rfl, hw, hs⟩
  have X3 := hide ((unhide X2).wrote (hs.more (show Kq + 9 + 3 ≤ Kq + 12 by omega)) hw)
  clear hw hs X2
  cases x with
  | true =>
   have kb := (unhide X3).box
   have X4 := hide (show XdSt w (((((w6.setCell ⟨b, 0, none⟩ (.int .i64 7)).setCell ⟨b, 1, none⟩ (.int .i64 r)).setCell ⟨b, 2, none⟩ (.string ⟨#[]⟩)).setCell ⟨b, 3, none⟩ (.string ⟨#[]⟩)).setCell ⟨b, 4, none⟩ (.string ⟨#[]⟩)) p a n c xs _ b ⟨7, r, ⟨#[]⟩, ⟨#[]⟩, ⟨#[]⟩⟩ from (unhide X3).set 7 r ⟨#[]⟩ ⟨#[]⟩ ⟨#[]⟩)
   have k0 := (heap_at kb 0).1
   have kf0 := (heap_at kb 0).2
   have k1 := (heap_at kb 1).1
   have kf1 := (heap_at kb 1).2
   have k2 := (heap_at kb 2).1
   have kf2 := (heap_at kb 2).2
   have k3 := (heap_at kb 3).1
   have kf3 := (heap_at kb 3).2
   have k4 := (heap_at kb 4).1
   have kf4 := (heap_at kb 4).2
   clear kb
   go_upto_region 20 with fail
   clear k0 kf0 k1 kf1 k2 kf2 k3 kf3 k4 kf4
   generalize (((((w6.setCell ⟨b, 0, none⟩ (.int .i64 7)).setCell ⟨b, 1, none⟩ (.int .i64 r)).setCell ⟨b, 2, none⟩ (.string ⟨#[]⟩)).setCell ⟨b, 3, none⟩ (.string ⟨#[]⟩)).setCell ⟨b, 4, none⟩ (.string ⟨#[]⟩)) = w7 at *
   have kb := (unhide X4).box
   have kr := (unhide X4).res
   have FE := hide (((unhide X4).fin (.int .i64 7) (.int .i64 r) (.string ⟨#[]⟩) (.string ⟨#[]⟩) (.string ⟨#[]⟩)))
   have SF := hide ((unhide FE).2.more (show _ ≤ Kq + 18 by omega))
   have k0 := (heap_at kb 0).1
   have k1 := (heap_at kb 1).1
   have k2 := (heap_at kb 2).1
   have k3 := (heap_at kb 3).1
   have k4 := (heap_at kb 4).1
   have z0 := (heap_at kr 0).1
   have zf0 := (heap_at kr 0).2
   have z1 := (heap_at kr 1).1
   have zf1 := (heap_at kr 1).2
   have z2 := (heap_at kr 2).1
   have zf2 := (heap_at kr 2).2
   have z3 := (heap_at kr 3).1
   have zf3 := (heap_at kr 3).2
   have z4 := (heap_at kr 4).1
   have zf4 := (heap_at kr 4).2
   clear kb kr
   go_wp2_with fail
   refine bodyPost_ret (v := xv ⟨7, r, ⟨#[]⟩, ⟨#[]⟩, ⟨#[]⟩⟩) (by simp [results, Tryz.results66, go_sem, xv, *] <;> rfl) rfl ?_
   exact ⟨⟨7, r, ⟨#[]⟩, ⟨#[]⟩, ⟨#[]⟩⟩, rfl, unhide RR, (unhide FE).1, unhide SF⟩
  | false =>
   have kb := (unhide X3).box
   have kr := (unhide X3).res
   have FE := hide (((unhide X3).fin (.int .i64 5) (.int .i64 r) (.string key) (.string ⟨#[]⟩) (.string ⟨#[]⟩)))
   have SF := hide ((unhide FE).2.more (show _ ≤ Kq + 18 by omega))
   have k0 := (heap_at kb 0).1
   have k1 := (heap_at kb 1).1
   have k2 := (heap_at kb 2).1
   have k3 := (heap_at kb 3).1
   have k4 := (heap_at kb 4).1
   have z0 := (heap_at kr 0).1
   have zf0 := (heap_at kr 0).2
   have z1 := (heap_at kr 1).1
   have zf1 := (heap_at kr 1).2
   have z2 := (heap_at kr 2).1
   have zf2 := (heap_at kr 2).2
   have z3 := (heap_at kr 3).1
   have zf3 := (heap_at kr 3).2
   have z4 := (heap_at kr 4).1
   have zf4 := (heap_at kr 4).2
   clear kb kr
   go_wp2_with fail
   refine bodyPost_ret (v := xv ⟨5, r, key, ⟨#[]⟩, ⟨#[]⟩⟩) (by simp [results, Tryz.results66, go_sem, xv, *] <;> rfl) rfl ?_
   exact ⟨⟨5, r, key, ⟨#[]⟩, ⟨#[]⟩⟩, rfl, unhide RR, (unhide FE).1, unhide SF⟩
 by_cases h8 : q = 8
 ·subst h8
  go_upto_region 19 with fail
  refine wp_region_held_drew (S := (fun u => u.cell? ⟨b, 1, none⟩ = some (.int .i64 r))) (by kernel_rfl) (xd_cell (unhide X1)) (fun hHeld => ?_)
  have Xs := hide (show XdSt w w4.drew p a n c xs (Kq + 9) b ⟨2, r, key, ⟨#[]⟩, ⟨#[]⟩⟩ from (unhide X1).wrote ((unhide X1).src.below (Below.refl _ _).drew) ⟨rfl, rfl, rfl, Nat.le_refl _, fun _ _ _ => rfl⟩)
  clear X1
  generalize w4.drew = us at *
  refine tk 0 42 rfl rfl hHeld ?_
  simp only [Act.put, lA, lB, lC]
  refine tk 1 43 rfl rfl hHeld ?_
  simp only [Act.put, lA, lB, lC]
  refine tk 2 44 rfl rfl hHeld ?_
  simp only [Act.put, lA, lB, lC]
  refine tk 5 47 rfl rfl hHeld ?_
  simp only [Act.put, lA, lB, lC]
  refine wpAnyH_ready (rs := [3, 6]) (by kernel_rfl) (by simp) ?_
  refine AllReadyH.cons rfl (fun K hK => ?_) (AllReadyH.cons rfl (fun K hK => ?_) AllReadyH.nil)
  ·have X3 := hide ((unhide Xs).alloc (.cells #[.string ⟨#[]⟩, .string ⟨#[97]⟩, .string ⟨#[98]⟩] 9))
   have G33 := hide (heap_alloc_new us (.cells #[.string ⟨#[]⟩, .string ⟨#[97]⟩, .string ⟨#[98]⟩] 9))
   have hg3 : us.heap.size ≠ p := by have := cell_lt (unhide Xs).src.code; simp only at this; omega
   go_simp
   generalize us.alloc (.cells #[.string ⟨#[]⟩, .string ⟨#[97]⟩, .string ⟨#[98]⟩] 9) = u3 at *
   generalize us.heap.size = g3 at *
   refine hK.out _ _ (xd_cell (unhide X3)) (fun hHeld => ?_)
   clear hK K
   refine wpAnyH_ready (rs := [4, 6]) (by kernel_rfl) (by simp) ?_
   refine AllReadyH.cons rfl (fun K hK => ?_) (AllReadyH.cons rfl (fun K hK => ?_) AllReadyH.nil)
   ·go_simp
    refine (pick_any p g3 3 3 a n c xs (Kq + 9) u3 (unhide X3).src (by omega) (by omega) (by omega) hg3 (fun _ => True) (lit_of (unhide G33) three_str)).mono ?_
    rintro e u3_4 ⟨kx, rfl, -, ho, hs⟩
    have X3_4 := hide ((unhide X3).wrote (hs.more (show Kq + 9 + 3 ≤ Kq + 12 by omega)) ho.wrote)
    have G33_4 := hide ((ho.wrote.block g3 hg3 (blk_lt (unhide G33))).trans (unhide G33))
    clear ho hs
    refine hK.out _ _ (xd_cell (unhide X3_4)) (fun hHeld => ?_)
    clear hK K
    refine rd [6] (.cons rfl (fun K hK => ?_) .nil)
    have X3_4_6 := hide ((unhide X3_4).alloc (.cells #[.string ⟨#[]⟩, .string ⟨#[99]⟩, .string ⟨#[100]⟩] 9))
    have G63_4_6 := hide (heap_alloc_new u3_4 (.cells #[.string ⟨#[]⟩, .string ⟨#[99]⟩, .string ⟨#[100]⟩] 9))
    have hg6 : u3_4.heap.size ≠ p := by have := cell_lt (unhide X3_4).src.code; simp only at this; omega
    have G33_4_6 := hide ((((Below.refl u3_4.heap.size u3_4).alloc (Nat.le_refl _) (.cells #[.string ⟨#[]⟩, .string ⟨#[99]⟩, .string ⟨#[100]⟩] 9)).block g3 (blk_lt (unhide G33_4))).trans (unhide G33_4))
    go_simp
    generalize u3_4.alloc (.cells #[.string ⟨#[]⟩, .string ⟨#[99]⟩, .string ⟨#[100]⟩] 9) = u3_4_6 at *
    generalize u3_4.heap.size = g6 at *
    refine hK.out _ _ (xd_cell (unhide X3_4_6)) (fun hHeld => ?_)
    clear hK K
    refine rd [7] (.cons rfl (fun K hK => ?_) .nil)
    go_simp
    refine (pick_any p g6 3 3 a n c xs (Kq + 12) u3_4_6 (unhide X3_4_6).src (by omega) (by omega) (by omega) hg6 (fun _ => True) (lit_of (unhide G63_4_6) three_str)).mono ?_
    rintro e u3_4_6_7 ⟨ky, rfl, -, ho, hs⟩
    have X3_4_6_7 := hide ((unhide X3_4_6).wrote (hs.more (show Kq + 12 + 3 ≤ Kq + 15 by omega)) ho.wrote)
    have G33_4_6_7 := hide ((ho.wrote.block g3 hg3 (blk_lt (unhide G33_4_6))).trans (unhide G33_4_6))
    have G63_4_6_7 := hide ((ho.wrote.block g6 hg6 (blk_lt (unhide G63_4_6))).trans (unhide G63_4_6))
    clear ho hs
    refine hK.out _ _ (xd_cell (unhide X3_4_6_7)) (fun hHeld => ?_)
    clear hK K
    refine tk 8 50 rfl rfl hHeld ?_
    simp only [Act.put, lA, lB, lC]
    refine rd [9] (.cons rfl (fun K hK => ?_) .nil)
    have kb := (unhide X3_4_6_7).box
    have XF := hide (show XdSt w (((((u3_4_6_7.setCell ⟨b, 0, none⟩ (.int .i64 3)).setCell ⟨b, 1, none⟩ (.int .i64 r)).setCell ⟨b, 2, none⟩ (.string kx)).setCell ⟨b, 3, none⟩ (.string ky)).setCell ⟨b, 4, none⟩ (.string ⟨#[]⟩)) p a n c xs (Kq + 15) b ⟨3, r, kx, ky, ⟨#[]⟩⟩ from (unhide X3_4_6_7).set 3 r kx ky ⟨#[]⟩)
    have k0 := (heap_at kb 0).1
    have k1 := (heap_at kb 1).1
    have k2 := (heap_at kb 2).1
    have k3 := (heap_at kb 3).1
    have k4 := (heap_at kb 4).1
    have kf0 := (heap_at kb 0).2
    have kf1 := (heap_at kb 1).2
    have kf2 := (heap_at kb 2).2
    have kf3 := (heap_at kb 3).2
    have kf4 := (heap_at kb 4).2
    clear kb
    go_simp
    refine hK.out _ _ (xd_cell (unhide XF)) (fun hHeld => ?_)
    clear hK K
    clear k0 kf0 k1 kf1 k2 kf2 k3 kf3 k4 kf4
    generalize (((((u3_4_6_7.setCell ⟨b, 0, none⟩ (.int .i64 3)).setCell ⟨b, 1, none⟩ (.int .i64 r)).setCell ⟨b, 2, none⟩ (.string kx)).setCell ⟨b, 3, none⟩ (.string ky)).setCell ⟨b, 4, none⟩ (.string ⟨#[]⟩)) = w9 at *
    refine wpAnyH_done (by kernel_rfl) ?_ _
    clear hHeld
    have kb := (unhide XF).box
    have kr := (unhide XF).res
    have FE := hide (((unhide XF).fin (.int .i64 3) (.int .i64 r) (.string kx) (.string ky) (.string ⟨#[]⟩)))
    have SF := hide ((unhide FE).2.more (show _ ≤ Kq + 18 by omega))
    have k0 := (heap_at kb 0).1
    have k1 := (heap_at kb 1).1
    have k2 := (heap_at kb 2).1
    have k3 := (heap_at kb 3).1
    have k4 := (heap_at kb 4).1
    have z0 := (heap_at kr 0).1
    have zf0 := (heap_at kr 0).2
    have z1 := (heap_at kr 1).1
    have zf1 := (heap_at kr 1).2
    have z2 := (heap_at kr 2).1
    have zf2 := (heap_at kr 2).2
    have z3 := (heap_at kr 3).1
    have zf3 := (heap_at kr 3).2
    have z4 := (heap_at kr 4).1
    have zf4 := (heap_at kr 4).2
    clear kb kr
    go_wp2_with fail
    refine bodyPost_ret (v := xv ⟨3, r, kx, ky, ⟨#[]⟩⟩) (by simp [results, Tryz.results66, go_sem, xv, *] <;> rfl) rfl ?_
    exact ⟨⟨3, r, kx, ky, ⟨#[]⟩⟩, rfl, unhide RR, (unhide FE).1, unhide SF⟩
   ·have X3_6 := hide ((unhide X3).alloc (.cells #[.string ⟨#[]⟩, .string ⟨#[99]⟩, .string ⟨#[100]⟩] 9))
    have G63_6 := hide (heap_alloc_new u3 (.cells #[.string ⟨#[]⟩, .string ⟨#[99]⟩, .string ⟨#[100]⟩] 9))
    have hg6 : u3.heap.size ≠ p := by have := cell_lt (unhide X3).src.code; simp only at this; omega
    have G33_6 := hide ((((Below.refl u3.heap.size u3).alloc (Nat.le_refl _) (.cells #[.string ⟨#[]⟩, .string ⟨#[99]⟩, .string ⟨#[100]⟩] 9)).block g3 (blk_lt (unhide G33))).trans (unhide G33))
    go_simp
    generalize u3.alloc (.cells #[.string ⟨#[]⟩, .string ⟨#[99]⟩, .string ⟨#[100]⟩] 9) = u3_6 at *
    generalize u3.heap.size = g6 at *
    refine hK.out _ _ (xd_cell (unhide X3_6)) (fun hHeld => ?_)
    clear hK K
    refine rd [4] (.cons rfl (fun K hK => ?_) .nil)
    go_simp
    refine (pick_any p g3 3 3 a n c xs (Kq + 9) u3_6 (unhide X3_6).src (by omega) (by omega) (by omega) hg3 (fun _ => True) (lit_of (unhide G33_6) three_str)).mono ?_
    rintro e u3_6_4 ⟨kx, rfl, -, ho, hs⟩
    have X3_6_4 := hide ((unhide X3_6).wrote (hs.more (show Kq + 9 + 3 ≤ Kq + 12 by omega)) ho.wrote)
    have G33_6_4 := hide ((ho.wrote.block g3 hg3 (blk_lt (unhide G33_6))).trans (unhide G33_6))
    have G63_6_4 := hide ((ho.wrote.block g6 hg6 (blk_lt (unhide G63_6))).trans (unhide G63_6))
    clear ho hs
    refine hK.out _ _ (xd_cell (unhide X3_6_4)) (fun hHeld => ?_)
    clear hK K
    refine rd [7] (.cons rfl (fun K hK => ?_) .nil)
    go_simp
    refine (pick_any p g6 3 3 a n c xs (Kq + 12) u3_6_4 (unhide X3_6_4).src (by omega) (by omega) (by omega) hg6 (fun _ => True) (lit_of (unhide G63_6_4) three_str)).mono ?_
    rintro e u3_6_4_7 ⟨ky, rfl, -, ho, hs⟩
    have X3_6_4_7 := hide ((unhide X3_6_4).wrote (hs.more (show Kq + 12 + 3 ≤ Kq + 15 by omega)) ho.wrote)
    have G33_6_4_7 := hide ((ho.wrote.block g3 hg3 (blk_lt (unhide G33_6_4))).trans (unhide G33_6_4))
    have G63_6_4_7 := hide ((ho.wrote.block g6 hg6 (blk_lt (unhide G63_6_4))).trans (unhide G63_6_4))
    clear ho hs
    refine hK.out _ _ (xd_cell (unhide X3_6_4_7)) (fun hHeld => ?_)
    clear hK K
    refine tk 8 50 rfl rfl hHeld ?_
    simp only [Act.put, lA, lB, lC]
    refine rd [9] (.cons rfl (fun K hK => ?_) .nil)
    have kb := (unhide X3_6_4_7).box
    have XF := hide (show XdSt w (((((u3_6_4_7.setCell ⟨b, 0, none⟩ (.int .i64 3)).setCell ⟨b, 1, none⟩ (.int .i64 r)).setCell ⟨b, 2, none⟩ (.string kx)).setCell ⟨b, 3, none⟩ (.string ky)).setCell ⟨b, 4, none⟩ (.string ⟨#[]⟩)) p a n c xs (Kq + 15) b ⟨3, r, kx, ky, ⟨#[]⟩⟩ from (unhide X3_6_4_7).set 3 r kx ky ⟨#[]⟩)
    have k0 := (heap_at kb 0).1
    have k1 := (heap_at kb 1).1
    have k2 := (heap_at kb 2).1
    have k3 := (heap_at kb 3).1
    have k4 := (heap_at kb 4).1
    have kf0 := (heap_at kb 0).2
    have kf1 := (heap_at kb 1).2
    have kf2 := (heap_at kb 2).2
    have kf3 := (heap_at kb 3).2
    have kf4 := (heap_at kb 4).2
    clear kb
    go_simp
    refine hK.out _ _ (xd_cell (unhide XF)) (fun hHeld => ?_)
    clear hK K
    clear k0 kf0 k1 kf1 k2 kf2 k3 kf3 k4 kf4
    generalize (((((u3_6_4_7.setCell ⟨b, 0, none⟩ (.int .i64 3)).setCell ⟨b, 1, none⟩ (.int .i64 r)).setCell ⟨b, 2, none⟩ (.string kx)).setCell ⟨b, 3, none⟩ (.string ky)).setCell ⟨b, 4, none⟩ (.string ⟨#[]⟩)) = w9 at *
    refine wpAnyH_done (by kernel_rfl) ?_ _
    clear hHeld
    have kb := (unhide XF).box
    have kr := (unhide XF).res
    have FE := hide (((unhide XF).fin (.int .i64 3) (.int .i64 r) (.string kx) (.string ky) (.string ⟨#[]⟩)))
    have SF := hide ((unhide FE).2.more (show _ ≤ Kq + 18 by omega))
    have k0 := (heap_at kb 0).1
    have k1 := (heap_at kb 1).1
    have k2 := (heap_at kb 2).1
    have k3 := (heap_at kb 3).1
    have k4 := (heap_at kb 4).1
    have z0 := (heap_at kr 0).1
    have zf0 := (heap_at kr 0).2
    have z1 := (heap_at kr 1).1
    have zf1 := (heap_at kr 1).2
    have z2 := (heap_at kr 2).1
    have zf2 := (heap_at kr 2).2
    have z3 := (heap_at kr 3).1
    have zf3 := (heap_at kr 3).2
    have z4 := (heap_at kr 4).1
    have zf4 := (heap_at kr 4).2
    clear kb kr
    go_wp2_with fail
    refine bodyPost_ret (v := xv ⟨3, r, kx, ky, ⟨#[]⟩⟩) (by simp [results, Tryz.results66, go_sem, xv, *] <;> rfl) rfl ?_
    exact ⟨⟨3, r, kx, ky, ⟨#[]⟩⟩, rfl, unhide RR, (unhide FE).1, unhide SF⟩
  ·have X6 := hide ((unhide Xs).alloc (.cells #[.string ⟨#[]⟩, .string ⟨#[99]⟩, .string ⟨#[100]⟩] 9))
   have G66 := hide (heap_alloc_new us (.cells #[.string ⟨#[]⟩, .string ⟨#[99]⟩, .string ⟨#[100]⟩] 9))
   have hg6 : us.heap.size ≠ p := by have := cell_lt (unhide Xs).src.code; simp only at this; omega
   go_simp
   generalize us.alloc (.cells #[.string ⟨#[]⟩, .string ⟨#[99]⟩, .string ⟨#[100]⟩] 9) = u6 at *
   generalize us.heap.size = g6 at *
   refine hK.out _ _ (xd_cell (unhide X6)) (fun hHeld => ?_)
   clear hK K
   refine rd [3] (.cons rfl (fun K hK => ?_) .nil)
   have X6_3 := hide ((unhide X6).alloc (.cells #[.string ⟨#[]⟩, .string ⟨#[97]⟩, .string ⟨#[98]⟩] 9))
   have G36_3 := hide (heap_alloc_new u6 (.cells #[.string ⟨#[]⟩, .string ⟨#[97]⟩, .string ⟨#[98]⟩] 9))
   have hg3 : u6.heap.size ≠ p := by have := cell_lt (unhide X6).src.code; simp only at this; omega
   have G66_3 := hide ((((Below.refl u6.heap.size u6).alloc (Nat.le_refl _) (.cells #[.string ⟨#[]⟩, .string ⟨#[97]⟩, .string ⟨#[98]⟩] 9)).block g6 (blk_lt (unhide G66))).trans (unhide G66))
   go_simp
   generalize u6.alloc (.cells #[.string ⟨#[]⟩, .string ⟨#[97]⟩, .string ⟨#[98]⟩] 9) = u6_3 at *
   generalize u6.heap.size = g3 at *
   refine hK.out _ _ (xd_cell (unhide X6_3)) (fun hHeld => ?_)
   clear hK K
   refine rd [4] (.cons rfl (fun K hK => ?_) .nil)
   go_simp
   refine (pick_any p g3 3 3 a n c xs (Kq + 9) u6_3 (unhide X6_3).src (by omega) (by omega) (by omega) hg3 (fun _ => True) (lit_of (unhide G36_3) three_str)).mono ?_
   rintro e u6_3_4 ⟨kx, rfl, -, ho, hs⟩
   have X6_3_4 := hide ((unhide X6_3).wrote (hs.more (show Kq + 9 + 3 ≤ Kq + 12 by omega)) ho.wrote)
   have G36_3_4 := hide ((ho.wrote.block g3 hg3 (blk_lt (unhide G36_3))).trans (unhide G36_3))
   have G66_3_4 := hide ((ho.wrote.block g6 hg6 (blk_lt (unhide G66_3))).trans (unhide G66_3))
   clear ho hs
   refine hK.out _ _ (xd_cell (unhide X6_3_4)) (fun hHeld => ?_)
   clear hK K
   refine rd [7] (.cons rfl (fun K hK => ?_) .nil)
   go_simp
   refine (pick_any p g6 3 3 a n c xs (Kq + 12) u6_3_4 (unhide X6_3_4).src (by omega) (by omega) (by omega) hg6 (fun _ => True) (lit_of (unhide G66_3_4) three_str)).mono ?_
   rintro e u6_3_4_7 ⟨ky, rfl, -, ho, hs⟩
   have X6_3_4_7 := hide ((unhide X6_3_4).wrote (hs.more (show Kq + 12 + 3 ≤ Kq + 15 by omega)) ho.wrote)
   have G36_3_4_7 := hide ((ho.wrote.block g3 hg3 (blk_lt (unhide G36_3_4))).trans (unhide G36_3_4))
   have G66_3_4_7 := hide ((ho.wrote.block g6 hg6 (blk_lt (unhide G66_3_4))).trans (unhide G66_3_4))
   clear ho hs
   refine hK.out _ _ (xd_cell (unhide X6_3_4_7)) (fun hHeld => ?_)
   clear hK K
   refine tk 8 50 rfl rfl hHeld ?_
   simp only [Act.put, lA, lB, lC]
   refine rd [9] (.cons rfl (fun K hK => ?_) .nil)
   have kb := (unhide X6_3_4_7).box
   have XF := hide (show XdSt w (((((u6_3_4_7.setCell ⟨b, 0, none⟩ (.int .i64 3)).setCell ⟨b, 1, none⟩ (.int .i64 r)).setCell ⟨b, 2, none⟩ (.string kx)).setCell ⟨b, 3, none⟩ (.string ky)).setCell ⟨b, 4, none⟩ (.string ⟨#[]⟩)) p a n c xs (Kq + 15) b ⟨3, r, kx, ky, ⟨#[]⟩⟩ from (unhide X6_3_4_7).set 3 r kx ky ⟨#[]⟩)
   have k0 := (heap_at kb 0).1
   have k1 := (heap_at kb 1).1
   have k2 := (heap_at kb 2).1
   have k3 := (heap_at kb 3).1
   have k4 := (heap_at kb 4).1
   have kf0 := (heap_at kb 0).2
   have kf1 := (heap_at kb 1).2
   have kf2 := (heap_at kb 2).2
   have kf3 := (heap_at kb 3).2
   have kf4 := (heap_at kb 4).2
   clear kb
   go_simp
   refine hK.out _ _ (xd_cell (unhide XF)) (fun hHeld => ?_)
   clear hK K
   clear k0 kf0 k1 kf1 k2 kf2 k3 kf3 k4 kf4
   generalize (((((u6_3_4_7.setCell ⟨b, 0, none⟩ (.int .i64 3)).setCell ⟨b, 1, none⟩ (.int .i64 r)).setCell ⟨b, 2, none⟩ (.string kx)).setCell ⟨b, 3, none⟩ (.string ky)).setCell ⟨b, 4, none⟩ (.string ⟨#[]⟩)) = w9 at *
   refine wpAnyH_done (by kernel_rfl) ?_ _
   clear hHeld
   have kb := (unhide XF).box
   have kr := (unhide XF).res
   have FE := hide (((unhide XF).fin (.int .i64 3) (.int .i64 r) (.string kx) (.string ky) (.string ⟨#[]⟩)))
   have SF := hide ((unhide FE).2.more (show _ ≤ Kq + 18 by omega))
   have k0 := (heap_at kb 0).1
   have k1 := (heap_at kb 1).1
   have k2 := (heap_at kb 2).1
   have k3 := (heap_at kb 3).1
   have k4 := (heap_at kb 4).1
   have z0 := (heap_at kr 0).1
   have zf0 := (heap_at kr 0).2
   have z1 := (heap_at kr 1).1
   have zf1 := (heap_at kr 1).2
   have z2 := (heap_at kr 2).1
   have zf2 := (heap_at kr 2).2
   have z3 := (heap_at kr 3).1
   have zf3 := (heap_at kr 3).2
   have z4 := (heap_at kr 4).1
   have zf4 := (heap_at kr 4).2
   clear kb kr
   go_wp2_with fail
   refine bodyPost_ret (v := xv ⟨3, r, kx, ky, ⟨#[]⟩⟩) (by simp [results, Tryz.results66, go_sem, xv, *] <;> rfl) rfl ?_
   exact ⟨⟨3, r, kx, ky, ⟨#[]⟩⟩, rfl, unhide RR, (unhide FE).1, unhide SF⟩
 have kb := (unhide X1).box
 have kr := (unhide X1).res
 have FE := hide (((unhide X1).fin (.int .i64 2) (.int .i64 r) (.string key) (.string ⟨#[]⟩) (.string ⟨#[]⟩)))
 have SF := hide ((unhide FE).2.more (show _ ≤ Kq + 18 by omega))
 have k0 := (heap_at kb 0).1
 have k1 := (heap_at kb 1).1
 have k2 := (heap_at kb 2).1
 have k3 := (heap_at kb 3).1
 have k4 := (heap_at kb 4).1
 have z0 := (heap_at kr 0).1
 have zf0 := (heap_at kr 0).2
 have z1 := (heap_at kr 1).1
 have zf1 := (heap_at kr 1).2
 have z2 := (heap_at kr 2).1
 have zf2 := (heap_at kr 2).2
 have z3 := (heap_at kr 3).1
 have zf3 := (heap_at kr 3).2
 have z4 := (heap_at kr 4).1
 have zf4 := (heap_at kr 4).2
 clear kb kr
 go_wp2_with fail
 refine bodyPost_ret (v := xv ⟨2, r, key, ⟨#[]⟩, ⟨#[]⟩⟩) (by simp [results, Tryz.results66, go_sem, xv, *] <;> rfl) rfl ?_
 exact ⟨⟨2, r, key, ⟨#[]⟩, ⟨#[]⟩⟩, rfl, unhide RR, (unhide FE).1, unhide SF⟩
end Go.Proofs.YtdnjgbckkmbmfaaGreat

namespace Go.Proofs.YtdnjgbckkmbmfaaGreat
open Go.RowKit

theorem Tryz.infoXa : (Tryz.prog.info? 37).map (fun i => (i.zero, i.size, i.bytes)) = some (some (.agg #[.int .i64 0, .int .i64 0, .string ByteArray.empty, .string ByteArray.empty, .string ByteArray.empty]), 5, 64) := by kernel_rfl
def okX (d : TxD) : Prop := 0 ≤ d.ses ∧ d.ses ≤ 2
structure XaSt (w wr : World) (p : Nat) (a : Option Addr) (n c : Nat) (xs : List Int) (K : Int) (v : Value) (ds : List TxD) : Prop where
 src : Src wr p a n c xs K
 own : XOwns wr w.heap.size v ds
 wro : Wrote p w wr
 hp : p < w.heap.size
 hc : ∀ x, a = some x → 0 < n → x.block < w.heap.size
 ok : ∀ d ∈ ds, okX d
theorem XaSt.wrote {w wr wr2 : World} {p : Nat} {a : Option Addr} {n c : Nat} {xs : List Int} {K K2 : Int} {v : Value} {ds : List TxD} (h : XaSt w wr p a n c xs K v ds) (hs2 : Src wr2 p a n c xs K2) (hw : Wrote p wr wr2) : XaSt w wr2 p a n c xs K2 v ds :=
 have hwb : WrB (fun i => i = p) wr wr2 := ⟨hw.os, hw.tape, hw.output, hw.size, fun k hk hp => hw.block k hp hk⟩
 ⟨hs2, rr_owns_wr h.own hwb (fun i hi e => by have := (World.ownsRow.lt h.own i hi).1; have := h.hp; omega), h.wro.trans hw, h.hp, h.hc, h.ok⟩
theorem XaSt.alloc {w wr : World} {p : Nat} {a : Option Addr} {n c : Nat} {xs : List Int} {K : Int} {v : Value} {ds : List TxD} (h : XaSt w wr p a n c xs K v ds) (o : Obj) : XaSt w (wr.alloc o) p a n c xs K v ds := h.wrote (h.src.alloc o) (Wrote.alloc wr p o)
theorem XaSt.app {w wr : World} {p : Nat} {a : Option Addr} {n c : Nat} {xs : List Int} {K : Int} {v : Value} {ds : List TxD} {d : TxD} (h : XaSt w wr p a n c xs K v ds) (hz : ds.length ≤ 1000) (hv : v ≠ .slice none 0 0) (hd : okX d) :
  ∃ g c' w6, (Builtin.append_ #[23, 23] 23 #[v, .slice (some ⟨wr.heap.size, 0, none⟩) 1 1]).run Tryz.prog (wr.alloc (.cells #[.int .i64 d.kind, .int .i64 d.ses, .string d.key, .string d.to, .string d.val] 37)) = .ok (.slice (some ⟨g, 0, none⟩) (ds.length + 1) c') w6 ∧ XaSt w w6 p a n c xs K (.slice (some ⟨g, 0, none⟩) (ds.length + 1) c') (ds ++ [d]) ∧ ∀ i, i < wr.heap.size → v.ownBlock ≠ some i → w6.heap[i]? = wr.heap[i]? := by
 obtain ⟨i0, hi0, hz0, hz1, hz2⟩ := info_parts Tryz.infoXa
 have bA := (Below.refl wr.heap.size wr).alloc (Nat.le_refl _) (.cells #[.int .i64 d.kind, .int .i64 d.ses, .string d.key, .string d.to, .string d.val] 37)
 have K4 := heap_alloc_new wr (.cells #[.int .i64 d.kind, .int .i64 d.ses, .string d.key, .string d.to, .string d.val] 37)
 have oA := rb_ownsRow_below h.own bA
 have hsz := h.wro.size
 obtain ⟨v', w6, hr, ho, hgr, hnil⟩ := run_append_own (P := Tryz.prog) _ w.heap.size 23 23 37 i0 (.agg #[.int .i64 0, .int .i64 0, .string ByteArray.empty, .string ByteArray.empty, .string ByteArray.empty]) 5 64 Tryz.underlying23 hi0 hz0 hz1 hz2 rfl (by decide) _ _ _ oA ⟨wr.heap.size, 0, none⟩ 1 1 [.int .i64 d.kind, .int .i64 d.ses, .string d.key, .string d.to, .string d.val] rfl (fun j u hu => by
   rw [Addr.add_lit, (heap_at K4 _).1]
   simpa using hu) (by
   intro u hu
   simp only [List.mem_cons, List.not_mem_nil, or_false] at hu
   rcases hu with rfl | rfl | rfl | rfl | rfl <;> rfl) (by unfold maxLen; omega) (by omega) (Nat.le_trans hsz bA.size)
 have hw := WrB.of_grown hgr
 rcases ho.2 with ⟨e, _⟩ | ⟨g, cap, cur, e, hbg, _⟩
 ·exact absurd (hnil.1 e).1 hv
 subst e
 refine ⟨g, cap, w6, hr, ⟨?_, ?_, ?_, h.hp, h.hc, fun x hx => (List.mem_append.1 hx).elim (h.ok x) fun e => by cases List.mem_singleton.1 e; exact hd⟩, fun i hi hne => (hw.block i (Nat.lt_of_lt_of_le hi bA.size) hne).trans (bA.block i hi)⟩
 ·refine (h.src.alloc _).of_blocks' (hw.block p (by have := h.hp; have := bA.size; omega) (fun e => by have := (World.ownsRow.lt oA p e).1; have := h.hp; omega)) (fun x hx hn => hw.block x.block (by have := h.hc x hx hn; have := bA.size; omega) (fun e => by have := (World.ownsRow.lt oA _ e).1; have := h.hc x hx hn; omega))
 ·unfold XOwns
  rw [xcs_append, List.length_append]
  exact ho
 ·exact ⟨hw.os.trans (bA.os.trans h.wro.os), hw.tape.trans (bA.tape.trans h.wro.tape), hw.output.trans (bA.output.trans h.wro.output), Nat.le_trans hsz (Nat.le_trans bA.size hw.size), fun k hk hl => (hw.block k (Nat.lt_of_lt_of_le hl (Nat.le_trans hsz bA.size)) (fun e => by have := (World.ownsRow.lt oA k e).1; omega)).trans ((bA.block k (Nat.lt_of_lt_of_le hl hsz)).trans (h.wro.block k hk hl))⟩
def XaRes (p : Nat) (w : World) (e : Ending) (w' : World) : Prop := ∃ g m' c' ds, e = .returned (.slice (some ⟨g, 0, none⟩) m' c') ∧ XOwns w' w.heap.size (.slice (some ⟨g, 0, none⟩) m' c') ds ∧ ds.length ≤ 60 ∧ (∀ d ∈ ds, okX d) ∧ Wrote p w w'
theorem xa_below {w w1 w2 : World} (h1 : Below w.heap.size w w1) (hw : Wrote w.heap.size w1 w2) : Below w.heap.size w w2 := h1.trans (hw.below (Nat.le_refl _) h1.size)
set_option maxHeartbeats 8000000 in
theorem txActsD_any (p : Nat) (a : Option Addr) (n c : Nat) (xs : List Int) (K : Int) (w : World) (h : Src w p a n c xs K) (hK : K ≤ 100) :
  Calls Tryz.prog 30 #[.pointer (some ⟨p, 0, none⟩)] w fun e w' => XaRes p w e w' := by
 have hp := cell_lt h.code
 have ha := src_code' h
 have bA := (Below.refl w.heap.size w).alloc (Nat.le_refl _) (.cells #[.int .i64 1, .int .i64 0, .string ⟨#[]⟩, .string ⟨#[]⟩, .string ⟨#[]⟩, .int .i64 1, .int .i64 1, .string ⟨#[]⟩, .string ⟨#[]⟩, .string ⟨#[]⟩] 37)
 have T0 := hide (show XaSt w (w.alloc (.cells #[.int .i64 1, .int .i64 0, .string ⟨#[]⟩, .string ⟨#[]⟩, .string ⟨#[]⟩, .int .i64 1, .int .i64 1, .string ⟨#[]⟩, .string ⟨#[]⟩, .string ⟨#[]⟩] 37)) p a n c xs K (.slice (some ⟨w.heap.size, 0, none⟩) 2 2) [⟨1, 0, ⟨#[]⟩, ⟨#[]⟩, ⟨#[]⟩⟩, ⟨1, 1, ⟨#[]⟩, ⟨#[]⟩, ⟨#[]⟩⟩] from
  ⟨h.alloc _, ⟨rfl, .inr ⟨w.heap.size, 2, _, rfl, Nat.le_refl _, heap_alloc_new _ _, Nat.le_refl _, by unfold maxLen; omega, rfl, rfl⟩⟩, ⟨bA.os, bA.tape, bA.output, bA.size, fun k _ hl => bA.block k hl⟩, hp, ha, fun d hd => by
   simp only [List.mem_cons, List.not_mem_nil, or_false] at hd
   rcases hd with rfl | rfl <;> exact ⟨by decide, by decide⟩⟩)
 clear h bA ha
 go_enter Tryz.func30, Tryz.ntmps30
 go_wp2_with fail
 generalize w.alloc (.cells #[.int .i64 1, .int .i64 0, .string ⟨#[]⟩, .string ⟨#[]⟩, .string ⟨#[]⟩, .int .i64 1, .int .i64 1, .string ⟨#[]⟩, .string ⟨#[]⟩, .string ⟨#[]⟩] 37) = W0 at *
 refine (size_draw p a n c xs K 26 W0 (unhide T0).src).mono ?_
 rintro e w1 ⟨r, rfl, hr, hw1⟩
 subst hw1
 have hrw : IntKind.i64.wrap ((r : Int) + 4) = (r : Int) + 4 := by rw [IntKind.wrap_i64]; omega
 go_wp2_with fail
 refine (next_any p a n c xs K ((r : Int) + 4) w1 (unhide T0).src (by omega) (by omega) (by omega)).mono ?_
 rintro e w2 ⟨q, rfl, hq0, hq1, ho, hs⟩
 have T1 := hide ((unhide T0).wrote hs ho.wrote)
 obtain ⟨qn, rfl⟩ : ∃ qn : Nat, q = (qn : Int) := ⟨q.toNat, by omega⟩
 have hqn : qn ≤ 29 := by omega
 clear T0 ho hs hq0 hq1 hrw hr
 generalize w.heap.size = g0 at *
 go_wp2_with fail
 go_loopw [3, 4] (fun ov iv wr => ∃ (k j g cp L : Nat) (ds : List TxD), ov = .slice (some ⟨g, 0, none⟩) L cp ∧ iv = .int .i64 (k : Int) ∧ k + j ≤ 29 ∧ L ≤ 2 + 2 * j ∧ Hid (ds.length = L) ∧ Hid (XaSt w wr p a n c xs (K + 3 + 21 * (j : Int)) (.slice (some ⟨g, 0, none⟩) L cp) ds)) (fun _ iv _ => (intOf iv).toNat)
 case atStart => exact ⟨qn, 0, g0, 2, 2, [⟨1, 0, ⟨#[]⟩, ⟨#[]⟩, ⟨#[]⟩⟩, ⟨1, 1, ⟨#[]⟩, ⟨#[]⟩, ⟨#[]⟩⟩], rfl, rfl, by omega, by omega, rfl, hide (by simpa using unhide T1)⟩
 case round =>
  clear T1
  obtain ⟨k, j, g, cp, L, ds, rfl, rfl, hkL, hLj, hL, hT⟩ := hrel
  by_cases hk : k = 0
  ·subst hk
   have hLc : (L : Int) ≤ (cp : Int) := by
    rcases (unhide hT).own.2 with ⟨e, _⟩ | ⟨_, cap, _, e, _, _, hc, _⟩
    ·cases e
    ·injection e with _ e1 e2; omega
   have hmin : min (L : Int) 150 = (L : Int) := by omega
   have hYR := hide (unhide hT).own
   have hWr := hide (unhide hT).wro
   have hOk := hide (unhide hT).ok
   have hlt : ¬ ((150 : Int) < (L : Int)) := by omega
   have hle : (L : Int) ≤ 150 := by omega
   have htn : (L : Int).toNat = L := by omega
   have hge : (0 : Int) ≤ (L : Int) := by omega
   go_wp2_with fail
   go_ret
   have hl28 : ds.length ≤ 60 := by have := unhide hL; omega
   exact ⟨_, _, _, ds, rfl, unhide hYR, hl28, unhide hOk, unhide hWr⟩
  ·obtain ⟨k, rfl⟩ : ∃ j, k = j + 1 := ⟨k - 1, by omega⟩
   have hpos : (0 : Int) < ((k + 1 : Nat) : Int) := by omega
   go_wp2_with fail
   refine (txActD_any p a n c xs (K + 3 + 21 * (j : Int)) wr (unhide hT).src (by omega)).mono ?_
   rintro e w3 ⟨d, rfl, hok, hw, hs⟩
   obtain ⟨dk, di, dy, dt, dv⟩ := d
   unfold xv
   simp only
   have T2 := hide (((unhide hT).wrote hs hw).alloc (.cells #[.int .i64 dk, .int .i64 di, .string dy, .string dt, .string dv] 37))
   have kb := heap_alloc_new w3 (.cells #[.int .i64 dk, .int .i64 di, .string dy, .string dt, .string dv] 37)
   have hgb := (((unhide hT).wrote hs hw).own.lt g rfl).2
   clear hT hw hs
   go_upto_region 6 with fail
   generalize w3.alloc (.cells #[.int .i64 dk, .int .i64 di, .string dy, .string dt, .string dv] 37) = w4 at *
   generalize w3.heap.size = b5 at *
   obtain ⟨g2, c2, w6, hr, T3, hbl⟩ := (unhide T2).app (d := ⟨dk, di, dy, dt, dv⟩) (by have := unhide hL; omega) (fun e => by cases e) hok
   rw [unhide hL] at hr T3
   have kb6 := (hbl b5 (blk_lt kb) (fun e => by injection e with e; simp only at e; omega)).trans kb
   have k0 := (heap_at kb 0).1
   have k1 := (heap_at kb 1).1
   have k2 := (heap_at kb 2).1
   have k3 := (heap_at kb 3).1
   have k4 := (heap_at kb 4).1
   have T3h := hide T3
   have KB := hide kb6
   have hpb : p ≠ b5 := by have := (unhide T2).hp; have := (unhide T2).own.lt g rfl; omega
   have hL2 := hide (show (ds ++ [(⟨dk, di, dy, dt, dv⟩ : TxD)]).length = L + 1 by rw [List.length_append, unhide hL]; rfl)
   simp only at hr
   clear T2 T3 kb kb6 hbl hL
   go_upto_region 7 with (at_builtin; refine ky_wpApp rfl (.tmp 20) (.tmp 22) 23 rfl _ _ _ w6 rfl rfl hr ?_)
   clear k0 k1 k2 k3 k4 hr
   have k0 := (heap_at (unhide KB) 0).1
   have eK : K + 3 + 21 * (j : Int) + 18 + 3 = K + 3 + 21 * ((j + 1 : Nat) : Int) := by omega
   by_cases h6 : dk = 6
   ·have h6b : (dk == 6) = true := by simpa using h6
    subst h6
    go_wp2_with fail
    refine (chanceD_any p a n c xs (K + 3 + 21 * (j : Int) + 18) 2 w6 (unhide T3h).src (by omega) (by omega) (by omega)).mono ?_
    rintro e w7 ⟨x, rfl, hw, hs⟩
    rw [eK] at hs
    have T4 := hide ((unhide T3h).wrote hs hw)
    have kb7 := (hw.block b5 (fun e => hpb e.symm) (blk_lt (unhide KB))).trans (unhide KB)
    clear hw hs T3h k0 h6b
    cases x with
    | false =>
     clear kb7 KB
     go_wp2_with fail
     go_roundw
     case rel => exact ⟨k, j + 1, g2, c2, L + 1, _, rfl, by go_num, by omega, by omega, hL2, T4⟩
     case measure => simp [intOf] <;> omega
    | true =>
     have k1 := (heap_at kb7 1).1
     obtain ⟨g3, c3, w8, hr, T5, -⟩ := (unhide T4).app (d := ⟨1, di, ⟨#[]⟩, ⟨#[]⟩, ⟨#[]⟩⟩) (by have := unhide hL2; omega) (fun e => by cases e) hok
     rw [unhide hL2] at hr T5
     have T5h := hide T5
     have hL3 := hide (show ((ds ++ [(⟨6, di, dy, dt, dv⟩ : TxD)]) ++ [(⟨1, di, ⟨#[]⟩, ⟨#[]⟩, ⟨#[]⟩⟩ : TxD)]).length = L + 1 + 1 by rw [List.length_append, unhide hL2]; rfl)
     simp only at hr
     clear T5 T4 kb7 KB hL2
     go_wp2_with (at_builtin; refine ky_wpApp rfl (.tmp 31) (.tmp 35) 23 rfl _ _ _ w8 rfl rfl hr ?_)
     go_roundw
     case rel => exact ⟨k, j + 1, g3, c3, L + 1 + 1, _, rfl, by go_num, by omega, by omega, hL3, T5h⟩
     case measure => simp [intOf] <;> omega
   ·have h6b : (dk == 6) = false := by simpa using h6
    have T4 := hide (show XaSt w w6 p a n c xs (K + 3 + 21 * ((j + 1 : Nat) : Int)) (.slice (some ⟨g2, 0, none⟩) (L + 1) c2) (ds ++ [⟨dk, di, dy, dt, dv⟩]) from (unhide T3h).wrote ((unhide T3h).src.more (by omega)) (Wrote.refl _ _))
    clear T3h KB
    go_wp2_with fail
    go_roundw
    case rel => exact ⟨k, j + 1, g2, c2, L + 1, _, rfl, by go_num, by omega, by omega, hL2, T4⟩
    case measure => simp [intOf] <;> omega
set_option maxHeartbeats 1000000 in
theorem txActsOf_any (a : Option Addr) (n c : Nat) (xs : List Int) (w : World) (hr : Row w a n xs) (hby : ∀ i, i < n → 0 ≤ xs.getD i 0 ∧ xs.getD i 0 ≤ 255) (hn : n ≤ 1048576) :
  Calls Tryz.prog 6 #[.slice a n c] w fun e w' => ∃ g m' c' ds, e = .returned (.slice (some ⟨g, 0, none⟩) m' c') ∧ XOwns w' w.heap.size (.slice (some ⟨g, 0, none⟩) m' c') ds ∧ ds.length ≤ 60 ∧ (∀ d ∈ ds, okX d) ∧ Below w.heap.size w w' := by
 have R := hide hr
 have BY := hide hby
 clear hr hby
 go_enter Tryz.func6, Tryz.ntmps6
 go_wp2_with fail
 refine (source_any a n c xs w (unhide R) (unhide BY) hn).mono ?_
 rintro e w1 ⟨rfl, hs1, hb1, hz1⟩
 clear hz1
 go_wp2_with fail
 refine (txActsD_any w.heap.size a n c xs 0 w1 hs1 (by omega)).mono ?_
 rintro e w2 ⟨g, m', c', ds, rfl, hy, hl, hok, hw⟩
 have RES := hide (show ∃ g' m'' c'' ds, Ending.returned (Value.slice (some ⟨g, 0, none⟩) m' c') = .returned (.slice (some ⟨g', 0, none⟩) m'' c'') ∧ XOwns w2 w.heap.size (.slice (some ⟨g', 0, none⟩) m'' c'') ds ∧ ds.length ≤ 60 ∧ (∀ d ∈ ds, okX d) ∧ Below w.heap.size w w2 from ⟨g, m', c', ds, rfl, rs_base hy (hb1.size), hl, hok, xa_below hb1 hw⟩)
 clear hy hl hok hw hb1 hs1
 go_wp2_with fail
 go_ret
 exact unhide RES
end Go.Proofs.YtdnjgbckkmbmfaaGreat

namespace Go.Proofs.YtdnjgbckkmbmfaaGreat
open Go.RowKit

theorem Tryz.verS : Tryz.prog.underlying 43 = some (.struct (Tryz.prog.fieldsOf 43)) := by kernel_rfl
theorem Tryz.verH : Tryz.prog.stoodInHeld 43 = false := by kernel_rfl
theorem Tryz.verG : Tryz.prog.eqGuardType Tryz.prog.depth 43 = false := by kernel_rfl
theorem eqVerV (k : ByteArray) (t : Int) (v : ByteArray) (g : Bool) (w : World) : (Op.equalIn 10000 43 (.agg #[.string k, .int .i64 t, .string v, .bool g]) (.agg #[.string k, .int .i64 t, .string v, .bool g])).run Tryz.prog w = .ok true w := by
 rw [run_equalIn_struct w 9999 _ _ _ Tryz.verS Tryz.verH]
 simp [Program.fieldsOf, Tryz.underlying43, Op.eqFields, go_sem, Tryz.underlying9, Tryz.underlying3, Tryz.underlying4]
set_option maxHeartbeats 2000000 in
theorem sameVersions_any (a a2 : Option Addr) (n c c2 : Nat) (ds : List VerD) (w : World) (h1 : VRow w a n ds) (h2 : VRow w a2 n ds) (hn : n ≤ 100000) :
  Calls Tryz.prog 9 #[.slice a n c, .slice a2 n c2] w fun e w' => e = .returned (.bool true) ∧ Below w.heap.size w w' := by
 have R1 := hide h1
 have R2 := hide h2
 have LN := hide h1.1
 have q3 := Tryz.verG
 have q4 := eqVerV
 clear h1 h2
 go_enter Tryz.func9, Tryz.ntmps9
 go_wp2_with fail
 go_loopw [5] (fun i wr => ∃ k : Nat, k ≤ n ∧ i = .int .i64 k ∧ Below w.heap.size w wr) (fun i _ => n - (intOf i).toNat)
 case atStart => exact ⟨0, Nat.zero_le _, rfl, Below.refl _ _⟩
 case round =>
  obtain ⟨k, hk, rfl, hb⟩ := hrel
  by_cases hlt : k < n
  ·have hl := unhide LN
   obtain ⟨b, off, rfl, c0, c1, c2, c3⟩ := ((unhide R1).below hb).2 k (by omega)
   obtain ⟨b', off', rfl, d0, d1, d2, d3⟩ := ((unhide R2).below hb).2 k (by omega)
   generalize ds[k]'(by omega) = em at *
   obtain ⟨ek, et, ev, eg⟩ := em
   simp only at c0 c1 c2 c3 d0 d1 d2 d3
   clear hl
   go_wp2_with fail
   go_quiet (fail)
   go_wp2_with fail
   go_roundw
   case rel => exact ⟨k + 1, by omega, by go_num, bel_drewN hb _⟩
   case measure => simp [intOf]; omega
  ·obtain rfl : k = n := by omega
   go_wp2_with fail
   go_ret
   exact ⟨rfl, hb⟩
end Go.Proofs.YtdnjgbckkmbmfaaGreat

namespace Go.Proofs.YtdnjgbckkmbmfaaGreat
open Go.RowKit

end Go.Proofs.YtdnjgbckkmbmfaaGreat

namespace Go.Proofs.YtdnjgbckkmbmfaaGreat
open Go.RowKit

theorem ok_top {d : VsD} (h : topK d = false) : false = okVsD d := by unfold okVsD; rw [h]; rfl
theorem top_yes {d : VsD} (h1 : 1 ≤ d.next) (h2 : d.next ≤ 1000) (h3 : d.list.length ≤ 4096) (h4 : d.fen.length ≤ 4096) (h5 : d.ses.length = 4) : topK d = true := decide_eq_true ⟨h1, h2, h3, h4, h5⟩
theorem top_no {d : VsD} (h : ¬ (1 ≤ d.next ∧ d.next ≤ 1000 ∧ d.list.length ≤ 4096 ∧ d.fen.length ≤ 4096 ∧ d.ses.length = 4)) : topK d = false := decide_eq_false h
theorem step_all {α : Type} {p : α → Bool} {l : List α} {k : Nat} (hk : k < l.length) (h : ∀ i (hi : i < l.length), i < k → p l[i] = true) (hp : p l[k] = true) : ∀ i (hi : i < l.length), i < k + 1 → p l[i] = true := fun i hi hik => by
 by_cases e : i < k
 ·exact h i hi e
 ·obtain rfl : i = k := by omega
  exact hp
set_option maxHeartbeats 8000000 in
theorem implVersionsOK_any (l f s : Sl) (rs : List SesR) (d : VsD) (w : World) (h : VsAt w l f s rs d) (hf : VsFew l f s rs) :
  Calls Tryz.prog 10 #[vsv d.next l f s] w fun e w' => e = .returned (.bool (okVsD d)) ∧ Below w.heap.size w w' := by
 obtain ⟨la, ln, lc⟩ := l
 obtain ⟨fa, fn, fc⟩ := f
 obtain ⟨sa, sn, sc⟩ := s
 have hmf : ∀ (fn : Fn) (first cap : Array Value) (w : World), (Instr.makeFunc fn first cap).run Tryz.prog w = .ok (.func fn first cap) w := fun _ _ _ _ => rfl
 have H := hide h
 have HF := hide hf
 have e1 : d.list.length = ln := h.v.1
 have e2 : d.fen.length = fn := h.f.1
 have e3 : d.ses.length = sn := h.ss.1.symm.trans h.s.1
 have TN := hide (fun (hx : ¬ (1 ≤ d.next ∧ d.next ≤ 1000 ∧ ln ≤ 4096 ∧ fn ≤ 4096 ∧ sn = 4)) => ok_top (top_no (by rw [e1, e2, e3]; exact hx)))
 have TY := hide (fun (h1 : 1 ≤ d.next) (h2 : d.next ≤ 1000) (h3 : ln ≤ 4096) (h4 : fn ≤ 4096) (h5 : sn = 4) => show okVsD d = (okVs d.list && (lateK d.list d.next && (d.fen.all (fenK d.next) && d.ses.all (sesK d.next)))) by
  unfold okVsD
  rw [top_yes h1 h2 (by rw [e1]; exact h3) (by rw [e2]; exact h4) (by rw [e3]; exact h5)]
  rfl)
 have EQ := hide (And.intro e1 (And.intro e2 e3))
 clear h hf e1 e2 e3
 have b0 : Below w.heap.size w (w.alloc (.cells #[.int .i64 d.next, .slice la ln lc, .slice fa fn fc, .slice sa sn sc] 29)) := (Below.refl _ _).alloc (Nat.le_refl _) _
 have k0 := heap_alloc_new w (.cells #[.int .i64 d.next, .slice la ln lc, .slice fa fn fc, .slice sa sn sc] 29)
 have K := hide k0
 clear k0
 unfold vsv
 simp only
 by_cases h1 : 1 ≤ d.next
 case neg =>
  have Z := hide (unhide TN (by omega))
  have g1 : d.next < 1 := by omega
  generalize d.next = nx at *
  clear TY TN H HF EQ
  go_enter Tryz.func10, Tryz.ntmps10
  go_wp2_with fail
  go_ret
  exact ⟨ret_bool (unhide Z), b0⟩
 by_cases h2 : d.next ≤ 1000
 case neg =>
  have Z := hide (unhide TN (by omega))
  have g1 : ¬ d.next < 1 := by omega
  have g2 : 1000 < d.next := by omega
  generalize d.next = nx at *
  clear TY TN H HF EQ
  go_enter Tryz.func10, Tryz.ntmps10
  go_wp2_with fail
  go_ret
  exact ⟨ret_bool (unhide Z), b0⟩
 by_cases h3 : ln ≤ 4096
 case neg =>
  have Z := hide (unhide TN (by omega))
  have g1 : ¬ d.next < 1 := by omega
  have g2 : ¬ 1000 < d.next := by omega
  have g3 : (4096 : Int) < (ln : Int) := by omega
  generalize d.next = nx at *
  clear TY TN H HF EQ
  go_enter Tryz.func10, Tryz.ntmps10
  go_wp2_with fail
  go_ret
  exact ⟨ret_bool (unhide Z), b0⟩
 by_cases h4 : fn ≤ 4096
 case neg =>
  have Z := hide (unhide TN (by omega))
  have g1 : ¬ d.next < 1 := by omega
  have g2 : ¬ 1000 < d.next := by omega
  have g3 : ¬ (4096 : Int) < (ln : Int) := by omega
  have g4 : (4096 : Int) < (fn : Int) := by omega
  generalize d.next = nx at *
  clear TY TN H HF EQ
  go_enter Tryz.func10, Tryz.ntmps10
  go_wp2_with fail
  go_ret
  exact ⟨ret_bool (unhide Z), b0⟩
 by_cases h5 : sn = 4
 case neg =>
  have Z := hide (unhide TN (by omega))
  have g1 : ¬ d.next < 1 := by omega
  have g2 : ¬ 1000 < d.next := by omega
  have g3 : ¬ (4096 : Int) < (ln : Int) := by omega
  have g4 : ¬ (4096 : Int) < (fn : Int) := by omega
  have g5 : ((sn : Int) != 4) = true := by simp [bne]; omega
  generalize d.next = nx at *
  clear TY TN H HF EQ
  go_enter Tryz.func10, Tryz.ntmps10
  go_wp2_with fail
  go_ret
  exact ⟨ret_bool (unhide Z), b0⟩
 subst h5
 have E := hide (unhide TY h1 h2 h3 h4 rfl)
 have g1 : ¬ d.next < 1 := by omega
 have g2 : ¬ 1000 < d.next := by omega
 have g3 : ¬ (4096 : Int) < (ln : Int) := by omega
 have g4 : ¬ (4096 : Int) < (fn : Int) := by omega
 clear TY TN h1 h2
 obtain ⟨nx, hnx⟩ : ∃ nx, nx = d.next := ⟨_, rfl⟩
 rw [← hnx] at g1 g2 b0 K E ⊢
 have HNX := hide hnx
 clear hnx
 go_enter Tryz.func10, Tryz.ntmps10
 go_wp2_with fail
 generalize w.alloc (.cells #[.int .i64 nx, .slice la ln lc, .slice fa fn fc, .slice sa 4 sc] 29) = W at *
 generalize hbx : w.heap.size = bx at *
 clear g1 g2 g3 g4
 refine (listOK_any la ln lc d.list W (by omega) ((by subst hbx; exact (unhide H).below b0 : VsAt W ⟨la, ln, lc⟩ ⟨fa, fn, fc⟩ ⟨sa, 4, sc⟩ rs d)).v).mono ?_
 rintro e w1 ⟨rfl, hb⟩
 replace K := hide ((hb.block bx (Array.getElem?_eq_some_iff.1 (unhide K)).1).trans (unhide K))
 replace b0 := b0.trans (hb.mono (by subst hbx; exact b0.size))
 clear hb
 have HH := hide (show ∀ u, Below bx w u → VsAt u ⟨la, ln, lc⟩ ⟨fa, fn, fc⟩ ⟨sa, 4, sc⟩ rs d from fun u hu => by subst hbx; exact (unhide H).below hu)
 have hbs : bx ≤ w1.heap.size := by subst hbx; exact b0.size
 generalize okVs d.list = ok1 at *
 cases ok1
 ·have Z := hide (show false = okVsD d by rw [unhide E]; rfl)
  have c1 : w1.cell? ⟨bx, 1, none⟩ = some (.slice la ln lc) := (heap_at (unhide K) 1).1
  go_wp2_with fail
  go_ret
  exact ⟨ret_bool (unhide Z), by subst hbx; exact b0⟩
 have c0 : w1.cell? ⟨bx, 0, none⟩ = some (.int .i64 nx) := (heap_at (unhide K) 0).1
 have c1 : w1.cell? ⟨bx, 1, none⟩ = some (.slice la ln lc) := (heap_at (unhide K) 1).1
 have CL := hide (containsLate_any bx la ln lc d.list nx w1 (by omega) (unhide HH w1 b0).v c0)
 replace E := hide (show okVsD d = (lateK d.list nx && (d.fen.all (fenK nx) && d.ses.all (sesK nx))) by rw [unhide E]; rfl)
 clear c0
 go_wp2_with fail
 refine (unhide CL).mono ?_
 rintro e w2 ⟨rfl, hb⟩
 replace K := hide ((hb.block bx (Array.getElem?_eq_some_iff.1 (unhide K)).1).trans (unhide K))
 replace b0 := b0.trans (hb.mono hbs)
 replace hbs := Nat.le_trans hbs hb.size
 clear hb CL c1
 generalize lateK d.list nx = ok2 at *
 cases ok2
 ·have Z := hide (show false = okVsD d by rw [unhide E]; rfl)
  go_wp2_with fail
  go_ret
  exact ⟨ret_bool (unhide Z), by subst hbx; exact b0⟩
 replace E := hide (show okVsD d = (d.fen.all (fenK nx) && d.ses.all (sesK nx)) by rw [unhide E]; rfl)
 have c2 : w2.cell? ⟨bx, 2, none⟩ = some (.slice fa fn fc) := (heap_at (unhide K) 2).1
 go_wp2_with fail
 clear c2
 go_loopw [48] (fun i wr => ∃ k : Nat, k ≤ fn ∧ i = .int .i64 k ∧ Hid (∀ i (hi : i < d.fen.length), i < k → fenK nx d.fen[i] = true) ∧ Hid (Below bx w wr) ∧ Hid (wr.heap[bx]? = some (.cells #[.int .i64 nx, .slice la ln lc, .slice fa fn fc, .slice sa 4 sc] 29 (0, 0))) ∧ bx ≤ wr.heap.size) (fun i _ => fn - (intOf i).toNat)
 case atStart => exact ⟨0, Nat.zero_le _, rfl, (fun i _ hi => absurd hi (Nat.not_lt_zero _)), b0, unhide K, hbs⟩
 case round =>
  clear b0 K hbs
  obtain ⟨k, hk, rfl, hA, hB, hK, hbs⟩ := hrel
  by_cases hlt : k < fn
  ·have hk2 : k < d.fen.length := by rw [(unhide EQ).2.1]; exact hlt
   obtain ⟨b, off, rfl, d0, d1, d2⟩ := (unhide HH _ (unhide hB)).f.2 k hk2
   have C := hide (fenceOK_any d.fen[k] nx)
   have FZ := hide (fun (hf : fenK nx d.fen[k] = false) => show false = okVsD d by rw [unhide E, all_false hk2 hf]; rfl)
   have FY := hide (step_all (p := fenK nx) hk2 (unhide hA))
   generalize fenK nx d.fen[k] = fk at *
   generalize d.fen[k] = pd at *
   obtain ⟨pf, pu, pt⟩ := pd
   unfold fv at C
   simp only at d0 d1 d2 C
   have B1 : Below wr.heap.size wr (wr.alloc (.cells #[.string pf, .string pu, .int .i64 pt] 85)) := (Below.refl _ _).alloc (Nat.le_refl _) _
   have K1 := hide ((B1.block bx (Array.getElem?_eq_some_iff.1 (unhide hK)).1).trans (unhide hK))
   have B2 := hide ((unhide hB).trans (B1.mono hbs))
   have hs2 := Nat.le_trans hbs B1.size
   have x0 : (wr.alloc (.cells #[.string pf, .string pu, .int .i64 pt] 85)).cell? ⟨bx, 0, none⟩ = some (.int .i64 nx) := (heap_at (unhide K1) 0).1
   clear B1 hB hK hA
   go_wp2_with fail
   generalize wr.alloc (.cells #[.string pf, .string pu, .int .i64 pt] 85) = W2 at *
   refine (unhide C W2).mono ?_
   rintro e w3 ⟨rfl, hb⟩
   have K3 := hide ((hb.block bx (Array.getElem?_eq_some_iff.1 (unhide K1)).1).trans (unhide K1))
   have B3 := hide ((unhide B2).trans (hb.mono hs2))
   have hs3 := Nat.le_trans hs2 hb.size
   clear hb d0 d1 d2 x0 C K1 B2 hs2
   cases fk
   ·have Z := hide (unhide FZ rfl)
    clear FZ FY
    go_wp2_with fail
    go_ret
    exact ⟨ret_bool (unhide Z), by subst hbx; exact unhide B3⟩
   ·have Z := hide (unhide FY rfl)
    clear FZ FY
    go_wp2_with fail
    go_roundw
    case rel => exact ⟨k + 1, by omega, by go_num, unhide Z, unhide B3, unhide K3, hs3⟩
    case measure => simp [intOf]; omega
  ·obtain rfl : k = fn := by omega
   have E' := hide (show okVsD d = d.ses.all (sesK nx) by
    rw [unhide E, all_true fun i hi => unhide hA i hi (by have := (unhide EQ).2.1; omega)]; rfl)
   have c3 : wr.cell? ⟨bx, 3, none⟩ = some (.slice sa 4 sc) := (heap_at (unhide hK) 3).1
   clear hA E
   go_wp2_with fail
   clear c3
   go_loopw [61] (fun i wr => ∃ k : Nat, k ≤ 4 ∧ i = .int .i64 k ∧ Hid (∀ i (hi : i < d.ses.length), i < k → sesK nx d.ses[i] = true) ∧ Hid (Below bx w wr) ∧ Hid (∃ f0 fn' fc', wr.heap[bx]? = some (.cells #[.int .i64 nx, .slice la ln lc, .slice f0 fn' fc', .slice sa 4 sc] 29 (0, 0))) ∧ bx ≤ wr.heap.size) (fun i _ => 4 - (intOf i).toNat)
   case atStart => exact ⟨0, Nat.zero_le _, rfl, (fun i _ hi => absurd hi (Nat.not_lt_zero _)), unhide hB, ⟨_, _, _, unhide hK⟩, hbs⟩
   case round =>
    clear hB hK hbs
    obtain ⟨j, hj, rfl, hA, hB, hK, hbs⟩ := hrel
    by_cases hlt2 : j < 4
    ·have hj2 : j < d.ses.length := by rw [(unhide EQ).2.2]; exact hlt2
     have hj3 : j < rs.length := by rw [(unhide HH _ (unhide hB)).ss.1]; exact hj2
     obtain ⟨b, off, rfl, d0, d1, d2⟩ := (unhide HH _ (unhide hB)).s.2 j hj3
     obtain ⟨f0, fn', fc', hK⟩ := unhide hK
     have C := hide (show ∀ u, Below bx w u → Calls Tryz.prog 42 #[sv rs[j], .int .i64 nx] u fun e w' => e = .returned (.bool (sesK nx d.ses[j])) ∧ Below u.heap.size u w' from fun u hu => by
      obtain ⟨p1, p2, p3⟩ := (unhide HH u hu).ss.2 j hj3 hj2
      exact sessionOK_any rs[j] d.ses[j] nx u p1 p2 p3 ((unhide HF).w j hj3))
     have FZ := hide (fun (hf : sesK nx d.ses[j] = false) => show false = okVsD d by rw [unhide E', all_false hj2 hf])
     have FY := hide (step_all (p := sesK nx) hj2 (unhide hA))
     generalize sesK nx d.ses[j] = fk at *
     generalize rs[j] = pd at *
     obtain ⟨po, pt, pa, pn, pc⟩ := pd
     unfold sv at C
     simp only at d0 d1 d2 C
     have B1 : Below wr.heap.size wr (wr.alloc (.cells #[.bool po, .int .i64 pt, .slice pa pn pc] 55)) := (Below.refl _ _).alloc (Nat.le_refl _) _
     have K1 := hide ((B1.block bx (Array.getElem?_eq_some_iff.1 hK).1).trans hK)
     have B2 := hide ((unhide hB).trans (B1.mono hbs))
     have hs2 := Nat.le_trans hbs B1.size
     have x0 : (wr.alloc (.cells #[.bool po, .int .i64 pt, .slice pa pn pc] 55)).cell? ⟨bx, 0, none⟩ = some (.int .i64 nx) := (heap_at (unhide K1) 0).1
     clear B1 hB hK hA
     go_wp2_with fail
     generalize wr.alloc (.cells #[.bool po, .int .i64 pt, .slice pa pn pc] 55) = W2 at *
     refine (unhide C W2 (unhide B2)).mono ?_
     rintro e w3 ⟨rfl, hb⟩
     have K3 := hide ((hb.block bx (Array.getElem?_eq_some_iff.1 (unhide K1)).1).trans (unhide K1))
     have B3 := hide ((unhide B2).trans (hb.mono hs2))
     have hs3 := Nat.le_trans hs2 hb.size
     clear hb d0 d1 d2 x0 C K1 B2 hs2
     cases fk
     ·have Z := hide (unhide FZ rfl)
      clear FZ FY
      go_wp2_with fail
      go_ret
      exact ⟨ret_bool (unhide Z), by subst hbx; exact unhide B3⟩
     ·have Z := hide (unhide FY rfl)
      clear FZ FY
      go_wp2_with fail
      go_roundw
      case rel => exact ⟨j + 1, by omega, by go_num, unhide Z, unhide B3, ⟨_, _, _, unhide K3⟩, hs3⟩
      case measure => simp [intOf]; omega
    ·obtain rfl : j = 4 := by omega
     have Z := hide (show true = okVsD d by rw [unhide E', all_true fun i hi => unhide hA i hi (by have := (unhide EQ).2.2; omega)])
     go_wp2_with fail
     go_ret
     exact ⟨ret_bool (unhide Z), by subst hbx; exact unhide hB⟩
end Go.Proofs.YtdnjgbckkmbmfaaGreat
