/-
  PuW, TxK, PageN, PgC, PgT, PgG, VcG, ScG, OsA, FcG, LdA, LgA, ZrA, LgB, VnI, VnS, LgC, HpL, PrG, PuA in one.
-/
import Derived.Test.YtdnjgbckkmbmfaaGreatFsAll2
import Derived.Laws.AppendOwnNone
import Derived.Lib.AppendZeros
import Derived.Deep.RegionWith
import Derived.Deep.Cut
import Derived.Maps.RangeWalk
import Derived.Sort.EncStr
set_option maxRecDepth 100000
namespace Go.Proofs.YtdnjgbckkmbmfaaGreat
open Go.RowKit

def NoV (w : World) (i : Nat) : Prop := ∀ cur, w.heap[i]? ≠ some (.cells cur 43 (0, 0))
theorem noV_kind {w : World} {i : Nat} {cs : Array Value} {t : TypeId} (h : w.heap[i]? = some (.cells cs t (0, 0))) (ht : 43 ≠ t) : NoV w i := fun cur e => by
 rw [h] at e
 injection e with e
 injection e with _ e _
 exact ht e.symm
theorem HMap.wr {w w' : World} {m N : Nat} {f : ByteArray → Value} (h : HMap w m N f) {P : Nat → Prop} (hw : WrB P w w') (hp : ¬ P m) : HMap w' m N f := h.block (hw.block m h.lt hp)
theorem HisAt.wr {w w' : World} {m N B : Nat} {f : ByteArray → Value} {ds : List VerD} (h : HisAt w m N B f ds) {P : Nat → Prop} (hw : WrB P w w') (hm : ¬ P m) (hp : ∀ i, P i → NoV w i) : HisAt w' m N B f ds :=
 ⟨h.map.wr hw hm, fun k => rr_owns_wr (h.own k) hw (fun i hi hP => by obtain ⟨cur, hc⟩ := own_kind (h.own k) hi; exact hp i hP cur hc), h.far, h.mb, h.no⟩
theorem HMap.ne {w : World} {m N b : Nat} {f : ByteArray → Value} (h : HMap w m N f) {cs : Array Value} {t : TypeId} (hb : w.heap[b]? = some (.cells cs t (0, 0))) : m ≠ b := fun e => by
 obtain ⟨D, ⟨es, clock, h1, _⟩, _⟩ := h
 rw [e, hb] at h1
 cases h1
theorem se_far {w : World} {B b : Nat} {v : Value} {hs : List SeH} (h : SeOwn w B v hs) {cs : Array Value} {t : TypeId} (hb : w.heap[b]? = some (.cells cs t (0, 0))) (h1 : 55 ≠ t) (h2 : 43 ≠ t) : ¬ NBl v (hs.map seEl) b := by
 rintro (hi | ⟨k, a, x, hx, hi⟩)
 ·exact own_box h.row hb h1 hi
 ·have ho := h.dat k a x hx
  obtain ⟨e, he, hxe⟩ := sbAt_mem hx
  obtain ⟨y, _, rfl⟩ := List.mem_map.1 he
  have : x = _ := List.mem_singleton.1 hxe
  subst this
  exact own_box ho hb h2 hi
theorem grown_wr {w w' : World} {r : Option Nat} (h : w.grownBy w' r) : WrB (fun i => r = some i) w w' := ⟨h.os, h.tape, h.output, h.size, fun i hi hp => h.block i hi (fun e => hp e.symm)⟩
theorem nbl_se {w : World} {B n i : Nat} {v : Value} {hs : List SeH} (h : NOwn w B 55 3 v n (hs.map seEl)) (hi : NBl v (hs.map seEl) i) : ∃ cur T, w.heap[i]? = some (.cells cur T (0, 0)) ∧ (T = 55 ∨ T = 43) := by
 rcases hi with hi | ⟨k, a, x, hx, hi⟩
 ·obtain ⟨cur, hc⟩ := own_kind h.row hi
  exact ⟨cur, _, hc, .inl rfl⟩
 ·obtain ⟨cur, hc⟩ := own_kind (h.dat k a x hx) hi
  obtain ⟨e, he, hxe⟩ := sbAt_mem hx
  obtain ⟨y, _, rfl⟩ := List.mem_map.1 he
  have : x = _ := List.mem_singleton.1 hxe
  subst this
  exact ⟨cur, _, hc, .inr rfl⟩
end Go.Proofs.YtdnjgbckkmbmfaaGreat

namespace Go.Proofs.YtdnjgbckkmbmfaaGreat
open Go.RowKit

theorem insV_cons (e : VerD) (r : List VerD) (x : VerD) : insV (e :: r) x = if ltV e x = true then e :: insV r x else if sameV e x = true then x :: r else x :: e :: r := by
 by_cases h : ltV e x = true
 ·rw [if_pos h]
  have hp : posV (e :: r) x = posV r x + 1 := by rw [posV, if_pos h]
  have hh : hitV (e :: r) x = hitV r x := by unfold hitV; rw [hp]; rfl
  unfold insV
  rw [hh, hp, List.take_succ_cons, List.cons_append, show posV r x + 1 + (if hitV r x = true then 1 else 0) = (posV r x + (if hitV r x = true then 1 else 0)) + 1 by omega, List.drop_succ_cons]
 ·rw [if_neg h]
  have hp : posV (e :: r) x = 0 := by rw [posV, if_neg h]
  have hh : hitV (e :: r) x = sameV e x := by unfold hitV; rw [hp]; rfl
  unfold insV
  rw [hh, hp]
  by_cases hs : sameV e x = true
  ·rw [if_pos hs, if_pos hs]; rfl
  ·rw [if_neg hs, if_neg hs]; rfl
theorem insV_mem (x y : VerD) : ∀ ds : List VerD, y ∈ insV ds x → y = x ∨ y ∈ ds
 | [], h => by simp [insV, posV, hitV] at h; exact .inl h
 | e :: r, h => by
  rw [insV_cons] at h
  split at h
  ·rcases List.mem_cons.1 h with rfl | h
   ·exact .inr (List.mem_cons_self ..)
   ·rcases insV_mem x y r h with h | h
    ·exact .inl h
    ·exact .inr (List.mem_cons_of_mem _ h)
  ·split at h
   ·rcases List.mem_cons.1 h with rfl | h
    ·exact .inl rfl
    ·exact .inr (List.mem_cons_of_mem _ h)
   ·rcases List.mem_cons.1 h with rfl | h
    ·exact .inl rfl
    ·exact .inr h
theorem ltV_tot {a b : VerD} (h : ltV a b = false) (hs : sameV a b = false) : ltV b a = true := by
 unfold ltV sameV at *
 cases hb : ltK b.k a.k
 ·cases ha : ltK a.k b.k
  ·have hk := ltK_eq ha hb
   rw [ha, hk] at h
   rw [hk] at hs ⊢
   simp at h hs ⊢
   omega
  ·rw [ha] at h; simp at h
 ·simp
theorem ltV_same {a b c : VerD} (hs : sameV a b = true) (h : ltV a c = true) : ltV b c = true := by
 unfold sameV at hs
 unfold ltV at *
 simp only [Bool.and_eq_true, decide_eq_true_eq] at hs
 rw [← hs.1, ← hs.2]
 exact h
theorem insV_pair (x : VerD) : ∀ ds : List VerD, (ds.Pairwise fun a b => ltV a b = true) → (insV ds x).Pairwise fun a b => ltV a b = true
 | [], _ => by simp [insV, posV, hitV]
 | e :: r, h => by
  obtain ⟨h1, h2⟩ := List.pairwise_cons.1 h
  rw [insV_cons]
  split
  ·rename_i hl
   refine List.pairwise_cons.2 ⟨fun y hy => ?_, insV_pair x r h2⟩
   rcases insV_mem x y r hy with rfl | hy
   ·exact hl
   ·exact h1 y hy
  ·rename_i hl
   split
   ·rename_i hs
    exact List.pairwise_cons.2 ⟨fun y hy => ltV_same hs (h1 y hy), h2⟩
   ·rename_i hs
    have hx : ltV x e = true := ltV_tot (by simpa using hl) (by simpa using hs)
    refine List.pairwise_cons.2 ⟨fun y hy => ?_, h⟩
    rcases List.mem_cons.1 hy with rfl | hy
    ·exact hx
    ·exact ltV_trans hx (h1 y hy)
theorem okVs_iff (ds : List VerD) : okVs ds = true ↔ (∀ d ∈ ds, verK d = true) ∧ ds.Pairwise (fun a b => ltV a b = true) := by
 refine ⟨fun h => ⟨fun d hd => ?_, okVs_pair h⟩, fun h => okVs_true fun i hi => ?_⟩
 ·obtain ⟨i, hi, rfl⟩ := List.getElem_of_mem hd
  exact okVs_ver h hi
 ·cases i with
  | zero => rw [okAtV_zero hi]; exact h.1 _ (List.getElem_mem hi)
  | succ i =>
   rw [okAtV_succ hi, h.1 _ (List.getElem_mem hi), List.pairwise_iff_getElem.1 h.2 i (i + 1) (by omega) hi (by omega)]
   rfl
theorem okVs_ins {ds : List VerD} {x : VerD} (h : okVs ds = true) (hx : verK x = true) : okVs (insV ds x) = true := by
 rw [okVs_iff] at h ⊢
 refine ⟨fun d hd => ?_, insV_pair x ds h.2⟩
 rcases insV_mem x d ds hd with rfl | hd
 ·exact hx
 ·exact h.1 d hd
theorem okVs_fold : ∀ (ws : List VerD) (ds : List VerD), okVs ds = true → (∀ x ∈ ws, verK x = true) → okVs (ws.foldl insV ds) = true
 | [], _, h, _ => h
 | x :: r, ds, h, hw => okVs_fold r (insV ds x) (okVs_ins h (hw x (List.mem_cons_self ..))) (fun y hy => hw y (List.mem_cons_of_mem _ hy))
theorem fold_mem (y : VerD) : ∀ (ws : List VerD) (ds : List VerD), y ∈ ws.foldl insV ds → y ∈ ws ∨ y ∈ ds
 | [], _, h => .inr h
 | x :: r, ds, h => by
  rcases fold_mem y r (insV ds x) h with h | h
  ·exact .inl (List.mem_cons_of_mem _ h)
  ·rcases insV_mem x y ds h with rfl | h
   ·exact .inl (List.mem_cons_self ..)
   ·exact .inr h
theorem fold_len : ∀ (ws : List VerD) (ds : List VerD), (ws.foldl insV ds).length ≤ ds.length + ws.length
 | [], _ => by simp
 | x :: r, ds => by
  rw [List.foldl_cons]
  have := fold_len r (insV ds x)
  have := insV_len ds x
  simp only [List.length_cons]
  omega
theorem sum_set {α : Type} (f : α → Nat) : ∀ (l : List α) (i : Nat) (x : α) (h : i < l.length), ((l.set i x).map f).sum + f l[i] = (l.map f).sum + f x
 | [], i, x, h => by simp at h
 | y :: r, 0, x, _ => by simp; omega
 | y :: r, i + 1, x, h => by
  have := sum_set f r i x (by simpa using h)
  simp only [List.set_cons_succ, List.map_cons, List.sum_cons, List.getElem_cons_succ]
  omega
structure RunV (d : VsD) (k : Nat) : Prop where
 nx : 1 ≤ d.next ∧ d.next ≤ 1000
 ses : d.ses.length = 4
 ok : okVs d.list = true
 late : ∀ x ∈ d.list, x.t < d.next
 fk : ∀ f ∈ d.fen, fenK d.next f = true
 sk : ∀ s ∈ d.ses, sesK d.next s = true
 cnt : d.list.length + (d.ses.map (·.ws.length)).sum ≤ k
 fen : d.fen.length ≤ k
theorem RunV.okD {d : VsD} {k : Nat} (h : RunV d k) (hk : k ≤ 4096) : okVsD d = true := by
 have h1 := h.cnt
 have h2 := h.fen
 unfold okVsD topK lateK
 rw [decide_eq_true (show 1 ≤ d.next ∧ d.next ≤ 1000 ∧ d.list.length ≤ 4096 ∧ d.fen.length ≤ 4096 ∧ d.ses.length = 4 from ⟨h.nx.1, h.nx.2, by omega, by omega, h.ses⟩), h.ok, List.all_eq_true.2 (fun x hx => decide_eq_true (h.late x hx)), List.all_eq_true.2 h.fk, List.all_eq_true.2 h.sk]
 rfl
theorem sesK_ws {n : Int} {s : SesD} (h : sesK n s = true) : s.ws.length ≤ 8 := by
 unfold sesK wrV at h
 split at h
 ·simp at h; omega
 ·simp at h; rw [h.2]; simp
theorem RunV.small {d : VsD} {k : Nat} (h : RunV d k) (hk : k ≤ 800) : SmV d :=
 ⟨by have := h.cnt; omega, by have := h.fen; omega, h.ses, fun s hs => sesK_ws (h.sk s hs), h.nx⟩
theorem sesK_open {n : Int} {s : SesD} (h : sesK n s = true) (ho : s.o = true) : 1 ≤ s.t ∧ s.t < n ∧ wrV s.ws s.t = true := by
 unfold sesK at h
 rw [if_pos ho] at h
 simp only [Bool.and_eq_true, decide_eq_true_eq] at h
 exact ⟨h.1, h.2.1, h.2.2⟩
theorem sesK_up {n m : Int} {s : SesD} (h : sesK n s = true) (hm : n ≤ m) : sesK m s = true := by
 unfold sesK at *
 split
 ·rename_i ho
  rw [if_pos ho] at h
  simp only [Bool.and_eq_true, decide_eq_true_eq] at h ⊢
  exact ⟨h.1, by omega, h.2.2⟩
 ·rename_i ho
  rw [if_neg ho] at h
  exact h
theorem fenK_up {n m : Int} {f : FenD} (h : fenK n f = true) (hm : n ≤ m) : fenK m f = true := by
 unfold fenK at *
 simp only [Bool.and_eq_true, decide_eq_true_eq] at h ⊢
 exact ⟨h.1, h.2.1, h.2.2.1, by omega⟩
theorem clS_ok (n : Int) : sesK n clS = true := rfl
theorem RunV.more {d : VsD} {k m : Nat} (h : RunV d k) (hm : k ≤ m) : RunV d m := ⟨h.nx, h.ses, h.ok, h.late, h.fk, h.sk, by have := h.cnt; omega, by have := h.fen; omega⟩
theorem RunV.close {d : VsD} {k : Nat} (h : RunV d k) {i : Nat} (hi : i < 4) : RunV ⟨d.next, d.list, d.fen, d.ses.set i clS⟩ k := by
 have hil : i < d.ses.length := by rw [h.ses]; exact hi
 refine ⟨h.nx, by simp [h.ses], h.ok, h.late, h.fk, fun s hs => ?_, ?_, h.fen⟩
 ·rcases List.mem_or_eq_of_mem_set hs with hs | rfl
  ·exact h.sk s hs
  ·exact clS_ok _
 ·have h1 := sum_set (fun s : SesD => s.ws.length) d.ses i clS hil
  have h2 := h.cnt
  simp only [clS, List.length_nil] at h1 ⊢
  omega
theorem RunV.fence {d : VsD} {k : Nat} (h : RunV d k) {f : FenD} (hf : fenK d.next f = true) {r : RepD} : RunV (fenV d f r).1 (k + 1) := by
 unfold fenV
 split
 ·exact h.more (Nat.le_succ _)
 ·refine ⟨h.nx, h.ses, h.ok, h.late, fun x hx => ?_, h.sk, by have := h.cnt; simp only at this ⊢; omega, by have := h.fen; simp only [List.length_append, List.length_singleton]; omega⟩
  rcases List.mem_append.1 hx with hx | hx
  ·exact h.fk x hx
  ·rw [List.mem_singleton.1 hx]; exact hf
theorem nulK_size (k : ByteArray) : (nulK k).size = k.size + 1 := by
 unfold nulK
 rw [ByteArray.size_append]
 rfl
theorem RunV.step {d : VsD} {k : Nat} (h : RunV d k) (a : TxD) : RunV (stepV d a).1 (k + 1) := by
 unfold stepV
 split
 ·exact h.more (Nat.le_succ _)
 rename_i hk
 split
 ·exact h.more (Nat.le_succ _)
 rename_i hs
 have hi : a.ses.toNat < 4 := by omega
 generalize a.ses.toNat = i at *
 have hil : i < d.ses.length := by rw [h.ses]; exact hi
 have hg : d.ses.getD i clS = d.ses[i] := by rw [List.getD_eq_getElem?_getD, List.getElem?_eq_getElem hil]; rfl
 rw [hg]
 have hsk := h.sk d.ses[i] (List.getElem_mem hil)
 have hnx := h.nx
 unfold sesV
 split
 ·split
  ·exact h.more (Nat.le_succ _)
  split
  ·exact h.more (Nat.le_succ _)
  rename_i hn
  refine ⟨by simp only; omega, by simp [h.ses], h.ok, fun x hx => by have := h.late x hx; simp only; omega, fun f hf => fenK_up (h.fk f hf) (by simp only; omega), fun s hs => ?_, ?_, by have := h.fen; simp only; omega⟩
  ·rcases List.mem_or_eq_of_mem_set hs with hs | rfl
   ·exact sesK_up (h.sk s hs) (by simp only; omega)
   ·unfold sesK
    rw [if_pos rfl]
    simp only [Bool.and_eq_true, decide_eq_true_eq]
    exact ⟨hnx.1, by omega, rfl⟩
  ·have h1 := sum_set (fun s : SesD => s.ws.length) d.ses i ⟨true, d.next, []⟩ hil
   have h2 := h.cnt
   simp only [List.length_nil] at h1 ⊢
   omega
 split
 ·exact h.more (Nat.le_succ _)
 rename_i ho
 have ho : d.ses[i].o = true := by simpa using ho
 obtain ⟨ht1, ht2, hw⟩ := sesK_open hsk ho
 split
 ·exact h.more (Nat.le_succ _)
 rename_i hf
 have hf : fitA a = true := by simpa using hf
 generalize hd : d.ses[i] = s at *
 unfold inV
 split
 ·rename_i h2
  refine h.fence ?_
  unfold fitA at hf
  rw [if_pos (.inl h2)] at hf
  simp only [Bool.and_eq_true] at hf
  have hk1 := of_decide_eq_true hf.1
  unfold fenK
  simp only [Bool.and_eq_true, decide_eq_true_eq]
  rw [nulK_size]
  exact ⟨by omega, by omega, ht1, ht2⟩
 split
 ·rename_i h2 h3
  refine h.fence ?_
  unfold fitA at hf
  rw [if_neg (by omega), if_pos h3] at hf
  simp only [Bool.and_eq_true, decide_eq_true_eq] at hf
  unfold fenK
  simp only [Bool.and_eq_true, decide_eq_true_eq]
  exact ⟨by omega, by omega, ht1, ht2⟩
 have hwp := hw
 unfold wrV at hwp
 simp only [Bool.and_eq_true, decide_eq_true_eq] at hwp
 split
 ·rename_i h45
  split
  ·exact h.more (Nat.le_succ _)
  rename_i h8
  have hv : verK (wrA a s.t) = true ∧ (wrA a s.t).t = s.t := by
   unfold fitA at hf
   rw [if_pos (.inr h45)] at hf
   simp only [Bool.and_eq_true] at hf
   unfold wrA
   split
   ·refine ⟨?_, rfl⟩
    unfold verK idK
    rw [hf.1]
    simp only [Bool.true_and]
    rw [decide_eq_true (show 0 ≤ s.t ∧ s.t ≤ 1000 by omega), ByteArray.toList_eq]
    rfl
   ·refine ⟨?_, rfl⟩
    unfold verK idK
    rw [hf.1, hf.2]
    simp only [Bool.true_and]
    rw [decide_eq_true (show 0 ≤ s.t ∧ s.t ≤ 1000 by omega)]
    rfl
  refine ⟨hnx, by simp [h.ses], h.ok, h.late, h.fk, fun q hq => ?_, ?_, by have := h.fen; simp only; omega⟩
  ·rcases List.mem_or_eq_of_mem_set hq with hq | rfl
   ·exact h.sk q hq
   ·unfold sesK
    rw [if_pos ho]
    simp only [Bool.and_eq_true, decide_eq_true_eq]
    refine ⟨ht1, ht2, ?_⟩
    unfold wrV
    simp only [Bool.and_eq_true, decide_eq_true_eq]
    refine ⟨by omega, okVs_ins hwp.2.1 hv.1, List.all_eq_true.2 fun x hx => decide_eq_true ?_⟩
    rcases insV_mem _ x _ hx with rfl | hx
    ·exact hv.2
    ·exact of_decide_eq_true (List.all_eq_true.1 hwp.2.2 x hx)
  ·have h1 := sum_set (fun s : SesD => s.ws.length) d.ses i ⟨s.o, s.t, insV s.ws (wrA a s.t)⟩ hil
   have h2 := h.cnt
   have h3 := insV_len s.ws (wrA a s.t)
   rw [hd] at h1
   simp only at h1 ⊢
   omega
 split
 ·split
  ·exact (h.close hi).more (Nat.le_succ _)
  ·refine ⟨hnx, by simp [h.ses], okVs_fold _ _ h.ok (fun x hx => ((okVs_iff _).1 hwp.2.1).1 x hx), fun x hx => ?_, h.fk, fun q hq => ?_, ?_, by have := h.fen; simp only; omega⟩
   ·rcases fold_mem x s.ws d.list hx with hx | hx
    ·have := of_decide_eq_true (List.all_eq_true.1 hwp.2.2 x hx)
     simp only
     omega
    ·exact h.late x hx
   ·rcases List.mem_or_eq_of_mem_set hq with hq | rfl
    ·exact h.sk q hq
    ·exact clS_ok _
   ·have h1 := sum_set (fun s : SesD => s.ws.length) d.ses i clS hil
    have h2 := h.cnt
    have h3 := fold_len s.ws d.list
    rw [hd] at h1
    simp only [clS, List.length_nil] at h1 ⊢
    omega
 ·exact (h.close hi).more (Nat.le_succ _)
theorem RunV.new : RunV newV 0 := ⟨by simp [newV], rfl, rfl, fun x hx => by simp [newV] at hx, fun x hx => by simp [newV] at hx, fun s hs => by rw [List.eq_of_mem_replicate hs]; rfl, by simp [newV, clS], by simp [newV]⟩
theorem runV_take {acts : List TxD} {k : Nat} (h : k < acts.length) : runV (acts.take (k + 1)) = ((stepV (runV (acts.take k)).1 acts[k]).1, (runV (acts.take k)).2 ++ [(stepV (runV (acts.take k)).1 acts[k]).2]) := by
 rw [takeG_snoc acts k h, runV_snoc]
theorem runV_ok (acts : List TxD) : ∀ k, k ≤ acts.length → RunV (runV (acts.take k)).1 k
 | 0, _ => by rw [List.take_zero]; exact RunV.new
 | k + 1, h => by rw [runV_take (by omega)]; exact (runV_ok acts k (by omega)).step _
end Go.Proofs.YtdnjgbckkmbmfaaGreat

namespace Go.Proofs.YtdnjgbckkmbmfaaGreat
open Go.RowKit

theorem wpAppE {P : Program} {ops : Array Oper} {rest : List Oper} {o : Oper} {a : Act} {w : World} {Q : Exit → Act → World → Prop}
  (hg : o.guard = none) (s x : Operand) (t : TypeId) (hop : o.op = Op.call { callee := Callee.builtin Builtin.append, args := #[s, x], argTypes := #[t, t] })
  (vs vx v' : Value) (w' : World) (hs : a.eval s = vs) (hx : a.eval x = vx) (hrun : (Builtin.append_ #[t, t] o.type #[vs, vx]).run P w = .ok v' w') (h : wpList P ops Q rest (a.put o.dst v') w') :
  wpList P ops Q (o :: rest) a w :=
 wpList_plain hg fun _ hK => by
  unfold Oper.wp
  simp [execOp, hop, resolve, invoke, builtin, hs, hx, hrun, Result.andThen]
  exact hK _ _ h
end Go.Proofs.YtdnjgbckkmbmfaaGreat

namespace Go.Proofs.YtdnjgbckkmbmfaaGreat
open Go.RowKit

end Go.Proofs.YtdnjgbckkmbmfaaGreat

namespace Go.Proofs.YtdnjgbckkmbmfaaGreat
open Go.RowKit

end Go.Proofs.YtdnjgbckkmbmfaaGreat

namespace Go.Proofs.YtdnjgbckkmbmfaaGreat
open Go.RowKit

theorem grow_owns {w : World} {B e size n : Nat} {z : Value} (hz : z.cells.size = size) (hn : n ≤ maxLen) (hB : B ≤ w.heap.size) : (w.drew.alloc (.cells (Builtin.zeroCells z.cells n ++ Builtin.zeroCells z.cells (grownCap w n 0 e - n)) e)).ownsRow B e size (.slice (some ⟨w.heap.size, 0, none⟩) 0 (grownCap w n 0 e)) 0 [] := by
 have hge := grownCap_ge w n 0 e
 have hcm := grownCap_le_maxLen w n 0 e hn
 refine ⟨by simp, .inr ⟨w.heap.size, _, _, rfl, hB, heap_alloc_new w.drew _, Nat.zero_le _, hcm, ?_, by simp⟩⟩
 rw [Array.size_append, size_zeroCells, size_zeroCells, hz, ← Nat.add_mul]
 congr 1
 omega

end Go.Proofs.YtdnjgbckkmbmfaaGreat

namespace Go.Proofs.YtdnjgbckkmbmfaaGreat
open Go.RowKit

theorem run_appV {w : World} {B : Nat} {v : Value} {a : Option Addr} {n c : Nat} {xs ds : List VerD} (ty : TypeId) (hO : VOwns w B v xs) (hR : VRow w a n ds) (hx : xs.length ≤ 2000000) (hn : n ≤ 2000000) (hc : a = none → c = 0) (hB : B ≤ w.heap.size) :
  ∃ v' w', (Builtin.append_ #[25, 25] ty #[v, .slice a n c]).run Tryz.prog w = .ok v' w' ∧ VOwns w' B v' (xs ++ ds) ∧ w.grownBy w' v.ownBlock ∧ (v ≠ .slice none 0 0 → v' ≠ .slice none 0 0) := by
 obtain ⟨i0, hi0, hz0, hz1, hz2⟩ := info_parts Tryz.infoVersion
 cases a with
 | none =>
  obtain rfl := hc rfl
  obtain ⟨rfl, rfl⟩ := vrow_none hR
  exact ⟨v, w, run_append_owned_none (P := Tryz.prog) w B 25 ty 43 i0 4 Tryz.underlying25 hi0 _ _ _ hO, by rw [List.append_nil]; exact hO, ⟨rfl, rfl, rfl, Nat.le_refl _, fun _ _ _ => rfl⟩, fun h => h⟩
 | some ad =>
  obtain ⟨v', w', hr, ho, hg, hv⟩ := run_append_own (P := Tryz.prog) w B 25 ty 43 i0 (.agg #[.string ByteArray.empty, .int .i64 0, .string ByteArray.empty, .bool false]) 4 48 Tryz.underlying25 hi0 hz0 hz1 hz2 rfl (by decide) _ _ _ hO ad n c (vcs ds) (by rw [vcs_len, hR.1]) (vrow_src hR) (vcs_one _) (by unfold maxLen; omega) (by omega) hB
  refine ⟨v', w', hr, ?_, hg, fun h h' => h (hv.1 h').1⟩
  unfold VOwns
  rw [vcs_append, List.length_append, hR.1]
  exact ho
set_option maxHeartbeats 4000000 in
theorem growV (n : Nat) (w : World) (hn : n ≤ 2000000) :
  Calls Tryz.prog 120 #[.slice none 0 0, .int .i64 (n : Int)] w fun e w' => ∃ v, e = .returned v ∧ VOwns w' w.heap.size v [] ∧ (0 < n → v ≠ .slice none 0 0) ∧ Below w.heap.size w w' := by
 obtain ⟨i0, hi0, hz0, hz1, hz2⟩ := info_parts Tryz.infoVersion
 by_cases h0 : 0 < n
 ·have hr := Lib.run_append_nil_zeros (P := Tryz.prog) w 25 3 25 43 i0 (.agg #[.string ByteArray.empty, .int .i64 0, .string ByteArray.empty, .bool false]) .i64 .i64 Tryz.underlying25 Tryz.underlying3 hi0 hz0 n h0 (by omega) (by omega) (by rw [hz2]; omega)
  have HO := hide (grow_owns (w := w) (B := w.heap.size) (e := 43) (size := 4) (n := n) (z := .agg #[.string ByteArray.empty, .int .i64 0, .string ByteArray.empty, .bool false]) rfl (by unfold maxLen; omega) (Nat.le_refl _))
  have HB := hide (show Below w.heap.size w _ from ((Below.refl w.heap.size w).drew.alloc (Nat.le_refl _) (.cells (Builtin.zeroCells (Value.cells (.agg #[.string ByteArray.empty, .int .i64 0, .string ByteArray.empty, .bool false])) n ++ Builtin.zeroCells (Value.cells (.agg #[.string ByteArray.empty, .int .i64 0, .string ByteArray.empty, .bool false])) (grownCap w n 0 43 - n)) 43)))
  obtain ⟨W, hW⟩ : ∃ W, W = w.drew.alloc (.cells (Builtin.zeroCells (Value.cells (.agg #[.string ByteArray.empty, .int .i64 0, .string ByteArray.empty, .bool false])) n ++ Builtin.zeroCells (Value.cells (.agg #[.string ByteArray.empty, .int .i64 0, .string ByteArray.empty, .bool false])) (grownCap w n 0 43 - n)) 43) := ⟨_, rfl⟩
  rw [← hW] at hr HO HB
  generalize grownCap w n 0 43 = cap at *
  clear hW
  go_enter Tryz.func120, Tryz.ntmps120
  go_wp2_with (at_builtin; refine Lib.wpList_append_run _ rfl _ _ 25 3 rfl _ _ rfl rfl _ W hr ?_)
  go_ret
  exact ⟨.slice (some ⟨w.heap.size, 0, none⟩) 0 cap, rfl, unhide HO, fun _ h => (by cases h), unhide HB⟩
 ·obtain rfl : n = 0 := by omega
  go_enter Tryz.func120, Tryz.ntmps120
  go_wp2_with fail
  go_ret
  exact ⟨.slice none 0 0, rfl, World.ownsRow_nil _ _ _ _, fun h => absurd h (by omega), Below.refl _ _⟩
set_option maxHeartbeats 4000000 in
theorem concatV1 (ob : Nat) (a : Option Addr) (n c : Nat) (es : List VerD) (w : World) (hc : w.cell? ⟨ob, 0, none⟩ = some (.slice a n c)) (hR : VRow w a n es) (hcn : a = none → c = 0) (hn : n ≤ 1100000) :
  Calls Tryz.prog 101 #[.slice (some ⟨ob, 0, none⟩) 1 1] w fun e w' => ∃ v, e = .returned v ∧ VOwns w' w.heap.size v es ∧ Below w.heap.size w w' := by
 have R := hide hR
 have hob := cell_lt hc
 clear hR
 go_enter Tryz.func101, Tryz.ntmps101
 go_wp2_with fail
 refine wp_loop_rounds 2 ?_
 rw [rounds_succ]
 go_wp2_with fail
 rw [rounds_succ]
 go_wp2_with fail
 refine (growV n w (by omega)).mono ?_
 rintro e w1 ⟨v1, rfl, hO, _, hb⟩
 obtain ⟨v2, w2, hr, hO2, hg2, _⟩ := run_appV (c := c) 25 hO ((unhide R).below hb) (by simp) (by omega) hcn hb.size
 have hc1 := (hb.cell (p := ⟨ob, 0, none⟩) hob).trans hc
 have B2 := hide (hb.trans ((Below.refl w.heap.size w1).grown hg2 hb.size (fun k hk => (hO.lt k hk).1)))
 have O2 := hide (show VOwns w2 w.heap.size v2 es from hO2)
 clear hO hO2 hg2 hb R
 go_wp2_with fail
 refine wp_loop_rounds 2 ?_
 rw [rounds_succ]
 go_wp2_with (at_builtin; refine wpAppE rfl _ _ 25 rfl _ _ v2 w2 rfl rfl hr ?_)
 rw [rounds_succ]
 go_wp2_with fail
 go_ret
 exact ⟨v2, rfl, unhide O2, unhide B2⟩
end Go.Proofs.YtdnjgbckkmbmfaaGreat

namespace Go.Proofs.YtdnjgbckkmbmfaaGreat
open Go.RowKit

theorem srow_src {w : World} {ad : Addr} {n : Nat} {ds : List SesR} (h : SRow w (some ad) n ds) : ∀ t u, (scs ds)[t]? = some u → w.cell? (ad.add t) = some u := by
 intro t u hu
 have hl : t < ds.length * 3 := by
  have := (List.getElem?_eq_some_iff.1 hu).1
  rwa [scs_len] at this
 obtain ⟨m, r, hr, rfl⟩ : ∃ m r, r < 3 ∧ t = m * 3 + r := ⟨t / 3, t % 3, Nat.mod_lt _ (by omega), by omega⟩
 have hm : m < ds.length := by omega
 obtain ⟨b, off, e, c0, c1, c2⟩ := h.2 m hm
 injection e with e
 subst e
 rw [Addr.add_lit]
 obtain ⟨a0, a1, a2⟩ := scs_at ds m hm
 match r, hr with
 | 0, _ => rw [Nat.add_zero] at hu ⊢; rw [a0] at hu; rw [c0, ← hu]
 | 1, _ => rw [a1] at hu; rw [← Nat.add_assoc, c1, ← hu]
 | 2, _ => rw [a2] at hu; rw [← Nat.add_assoc, c2, ← hu]
theorem srow_none {w : World} {n : Nat} {ds : List SesR} (h : SRow w none n ds) : n = 0 ∧ ds = [] := by
 have h0 : ds.length = 0 := by
  rcases Nat.eq_zero_or_pos ds.length with h' | h'
  ·exact h'
  ·obtain ⟨_, _, e, _⟩ := h.2 0 h'; cases e
 exact ⟨by have := h.1; omega, List.eq_nil_of_length_eq_zero h0⟩
theorem run_appS {w : World} {B : Nat} {v : Value} {a : Option Addr} {n c : Nat} {xs ds : List SesR} (ty : TypeId) (hO : SOwns w B v xs) (hR : SRow w a n ds) (hx : xs.length ≤ 2000000) (hn : n ≤ 2000000) (hc : a = none → c = 0) (hB : B ≤ w.heap.size) :
  ∃ v' w', (Builtin.append_ #[27, 27] ty #[v, .slice a n c]).run Tryz.prog w = .ok v' w' ∧ SOwns w' B v' (xs ++ ds) ∧ w.grownBy w' v.ownBlock ∧ (v ≠ .slice none 0 0 → v' ≠ .slice none 0 0) := by
 obtain ⟨i0, hi0, hz0, hz1, hz2⟩ := info_parts Tryz.infoSession
 cases a with
 | none =>
  obtain rfl := hc rfl
  obtain ⟨rfl, rfl⟩ := srow_none hR
  exact ⟨v, w, run_append_owned_none (P := Tryz.prog) w B 27 ty 55 i0 3 Tryz.underlying27 hi0 _ _ _ hO, by rw [List.append_nil]; exact hO, ⟨rfl, rfl, rfl, Nat.le_refl _, fun _ _ _ => rfl⟩, fun h => h⟩
 | some ad =>
  obtain ⟨v', w', hr, ho, hg, hv⟩ := run_append_own (P := Tryz.prog) w B 27 ty 55 i0 (.agg #[.bool false, .int .i64 0, .slice none 0 0]) 3 40 Tryz.underlying27 hi0 hz0 hz1 hz2 rfl (by decide) _ _ _ hO ad n c (scs ds) (by rw [scs_len, hR.1]) (srow_src hR) (scs_one _) (by unfold maxLen; omega) (by omega) hB
  refine ⟨v', w', hr, ?_, hg, fun h h' => h (hv.1 h').1⟩
  unfold SOwns
  rw [scs_append, List.length_append, hR.1]
  exact ho
set_option maxHeartbeats 4000000 in
theorem growS (n : Nat) (w : World) (hn : n ≤ 2000000) :
  Calls Tryz.prog 119 #[.slice none 0 0, .int .i64 (n : Int)] w fun e w' => ∃ v, e = .returned v ∧ SOwns w' w.heap.size v [] ∧ (0 < n → v ≠ .slice none 0 0) ∧ Below w.heap.size w w' := by
 obtain ⟨i0, hi0, hz0, hz1, hz2⟩ := info_parts Tryz.infoSession
 by_cases h0 : 0 < n
 ·have hr := Lib.run_append_nil_zeros (P := Tryz.prog) w 27 3 27 55 i0 (.agg #[.bool false, .int .i64 0, .slice none 0 0]) .i64 .i64 Tryz.underlying27 Tryz.underlying3 hi0 hz0 n h0 (by omega) (by omega) (by rw [hz2]; omega)
  have HO := hide (grow_owns (w := w) (B := w.heap.size) (e := 55) (size := 3) (n := n) (z := .agg #[.bool false, .int .i64 0, .slice none 0 0]) rfl (by unfold maxLen; omega) (Nat.le_refl _))
  have HB := hide (show Below w.heap.size w _ from ((Below.refl w.heap.size w).drew.alloc (Nat.le_refl _) (.cells (Builtin.zeroCells (Value.cells (.agg #[.bool false, .int .i64 0, .slice none 0 0])) n ++ Builtin.zeroCells (Value.cells (.agg #[.bool false, .int .i64 0, .slice none 0 0])) (grownCap w n 0 55 - n)) 55)))
  obtain ⟨W, hW⟩ : ∃ W, W = w.drew.alloc (.cells (Builtin.zeroCells (Value.cells (.agg #[.bool false, .int .i64 0, .slice none 0 0])) n ++ Builtin.zeroCells (Value.cells (.agg #[.bool false, .int .i64 0, .slice none 0 0])) (grownCap w n 0 55 - n)) 55) := ⟨_, rfl⟩
  rw [← hW] at hr HO HB
  generalize grownCap w n 0 55 = cap at *
  clear hW
  go_enter Tryz.func119, Tryz.ntmps119
  go_wp2_with (at_builtin; refine Lib.wpList_append_run _ rfl _ _ 27 3 rfl _ _ rfl rfl _ W hr ?_)
  go_ret
  exact ⟨.slice (some ⟨w.heap.size, 0, none⟩) 0 cap, rfl, unhide HO, fun _ h => (by cases h), unhide HB⟩
 ·obtain rfl : n = 0 := by omega
  go_enter Tryz.func119, Tryz.ntmps119
  go_wp2_with fail
  go_ret
  exact ⟨.slice none 0 0, rfl, World.ownsRow_nil _ _ _ _, fun h => absurd h (by omega), Below.refl _ _⟩
set_option maxHeartbeats 4000000 in
theorem concatS1 (ob : Nat) (a : Option Addr) (n c : Nat) (es : List SesR) (w : World) (hc : w.cell? ⟨ob, 0, none⟩ = some (.slice a n c)) (hR : SRow w a n es) (hcn : a = none → c = 0) (hn : n ≤ 1100000) :
  Calls Tryz.prog 100 #[.slice (some ⟨ob, 0, none⟩) 1 1] w fun e w' => ∃ v, e = .returned v ∧ SOwns w' w.heap.size v es ∧ Below w.heap.size w w' := by
 have R := hide hR
 have hob := cell_lt hc
 clear hR
 go_enter Tryz.func100, Tryz.ntmps100
 go_wp2_with fail
 refine wp_loop_rounds 2 ?_
 rw [rounds_succ]
 go_wp2_with fail
 rw [rounds_succ]
 go_wp2_with fail
 refine (growS n w (by omega)).mono ?_
 rintro e w1 ⟨v1, rfl, hO, _, hb⟩
 obtain ⟨v2, w2, hr, hO2, hg2, _⟩ := run_appS (c := c) 27 hO ((unhide R).below hb) (by simp) (by omega) hcn hb.size
 have hc1 := (hb.cell (p := ⟨ob, 0, none⟩) hob).trans hc
 have B2 := hide (hb.trans ((Below.refl w.heap.size w1).grown hg2 hb.size (fun k hk => (hO.lt k hk).1)))
 have O2 := hide (show SOwns w2 w.heap.size v2 es from hO2)
 clear hO hO2 hg2 hb R
 go_wp2_with fail
 refine wp_loop_rounds 2 ?_
 rw [rounds_succ]
 go_wp2_with (at_builtin; refine wpAppE rfl _ _ 27 rfl _ _ v2 w2 rfl rfl hr ?_)
 rw [rounds_succ]
 go_wp2_with fail
 go_ret
 exact ⟨v2, rfl, unhide O2, unhide B2⟩
end Go.Proofs.YtdnjgbckkmbmfaaGreat

namespace Go.Proofs.YtdnjgbckkmbmfaaGreat
open Go.RowKit

def flE (h : SeH) : El := ⟨(seEl h).hd, []⟩
theorem scs_flat : ∀ hs : List SeH, scs (hs.map seR) = (hs.map flE).flatMap (·.hd)
 | [] => rfl
 | h :: r => by
  rw [List.map_cons, List.map_cons, List.flatMap_cons, scs, scs_flat r]
  rfl
theorem srow_of_in {w : World} {s : Sl} {hs : List SeH} (h : SeIn w (.slice s.a s.n s.c) s.n hs) : SRow w s.a s.n (hs.map seR) := by
 have hl : hs.length = s.n := by have := h.len; rw [List.length_map] at this; exact this
 refine ⟨by rw [List.length_map]; exact hl, fun i hi => ?_⟩
 rw [List.length_map] at hi
 obtain ⟨b, off, e, _, c0, c1, c2⟩ := SeIn.cells h hi
 refine ⟨b, off, e, ?_, ?_, ?_⟩
 ·rw [List.getElem_map]; exact c0
 ·rw [List.getElem_map]; exact c1
 ·rw [List.getElem_map]; exact c2
theorem os_at {done hs : List SeH} {k : Nat} (hd : done.length = k) (hk : k < hs.length) : (done.map seEl ++ (hs.drop k).map flE)[k]? = some (flE hs[k]) := by
 rw [List.getElem?_append_right (by rw [List.length_map]; omega), List.length_map, hd, Nat.sub_self, List.drop_eq_getElem_cons hk]
 rfl
theorem os_set {done hs : List SeH} {k : Nat} (hd : done.length = k) (hk : k < hs.length) (x : SeH) : (done.map seEl ++ (hs.drop k).map flE).set k (seEl x) = (done ++ [x]).map seEl ++ (hs.drop (k + 1)).map flE := by
 rw [List.set_append_right _ _ (by rw [List.length_map]; omega), List.length_map, hd, Nat.sub_self, List.drop_eq_getElem_cons hk, List.map_append, List.append_assoc]
 rfl
theorem os_step {wr w5 : World} {B C g n c k : Nat} {hs done : List SeH} (h : NOwn wr B 55 3 (.slice (some ⟨g, 0, none⟩) n c) n (done.map seEl ++ (hs.drop k).map flE)) (hd : done.length = k) (hk : k < hs.length) (hb : Below wr.heap.size wr w5) (q : Sl) (ho : VOwns w5 C (.slice q.a q.n q.c) hs[k].X.ws) (hC : wr.heap.size ≤ C) (hBC : B ≤ C) :
  NOwn (w5.setCell ⟨g, k * 3 + 2, none⟩ (.slice q.a q.n q.c)) B 55 3 (.slice (some ⟨g, 0, none⟩) n c) n ((done ++ [(⟨hs[k].X, q⟩ : SeH)]).map seEl ++ (hs.drop (k + 1)).map flE) ∧ WrB (fun i => i = g) w5 (w5.setCell ⟨g, k * 3 + 2, none⟩ (.slice q.a q.n q.c)) ∧ w5.cell? ⟨g, k * 3 + 2, none⟩ = some (.slice hs[k].s0.a hs[k].s0.n hs[k].s0.c) ∧ w5.frozen? ⟨g, k * 3 + 2, none⟩ = false := by
 have hi := os_at hd hk
 have h1 := h.addSb (xs := [(⟨43, 4, hs[k].X.ws.length, .slice q.a q.n q.c, vcs hs[k].X.ws⟩ : Sb)]) hi hb hC hBC (fun x hx => by rw [List.mem_singleton.1 hx]; exact ho) (fun a b x y hx hy hab => by
  match a, hx, b, hy with
  | 0, _, 0, _ => exact absurd rfl hab
  | a + 1, hx, _, _ => cases hx
  | 0, _, b + 1, hy => cases hy)
 have hl := (List.getElem?_eq_some_iff.1 hi).1
 have h2 := h1.setHd (j := 2) (List.getElem?_set_self hl) (by decide) (.slice q.a q.n q.c)
 rw [List.set_set] at h2
 refine ⟨?_, h2.2, h1.cell (j := 2) (List.getElem?_set_self hl) rfl, h1.free _⟩
 have h3 := h2.1
 have e : (⟨(flE hs[k]).hd.set 2 (.slice q.a q.n q.c), [⟨43, 4, hs[k].X.ws.length, .slice q.a q.n q.c, vcs hs[k].X.ws⟩]⟩ : El) = seEl ⟨hs[k].X, q⟩ := rfl
 rw [e, os_set hd hk] at h3
 exact h3
set_option maxHeartbeats 4000000 in
theorem ownSessions_any (s : Sl) (hs : List SeH) (w : World) (hI : SeIn w (.slice s.a s.n s.c) s.n hs) (hcs : s.a = none → s.c = 0) (hcw : ∀ h ∈ hs, Cap h.s0) (hn : s.n ≤ 1048576) (hwn : ∀ h ∈ hs, h.s0.n ≤ 1048576) :
  Calls Tryz.prog 69 #[.slice s.a s.n s.c] w fun e w' => ∃ (s' : Sl) (hs' : List SeH), e = .returned (.slice s'.a s'.n s'.c) ∧ SeOwn w' w.heap.size (.slice s'.a s'.n s'.c) hs' ∧ hs'.map (·.X) = hs.map (·.X) ∧ Below w.heap.size w w' := by
 obtain ⟨W, hW⟩ : ∃ W, W = w.alloc (.cells #[.slice s.a s.n s.c] 27) := ⟨_, rfl⟩
 have b1 : Below w.heap.size w W := by subst hW; exact (Below.refl _ _).alloc (Nat.le_refl _) _
 have c1 : W.cell? ⟨w.heap.size, 0, none⟩ = some (.slice s.a s.n s.c) := by subst hW; exact (heap_at (heap_alloc_new _ _) 0).1
 have hl : hs.length = s.n := by have := hI.len; rw [List.length_map] at this; exact this
 have CS := hide (concatS1 w.heap.size s.a s.n s.c (hs.map seR) W c1 ((srow_of_in hI).below b1) hcs (by omega))
 have BH := hide b1
 have HI := hide hI
 have CW := hide hcw
 have WN := hide hwn
 obtain ⟨sa, sn, sc⟩ := s
 simp only at hW CS hn hl HI ⊢
 clear b1 c1 hI hcw hwn hcs
 go_enter Tryz.func69, Tryz.ntmps69
 go_wp2_with fail
 rw [← hW]
 clear hW
 refine (unhide CS).mono ?_
 rintro e w1 ⟨v, rfl, hO, hb⟩
 obtain ⟨⟨va, vn, vc⟩, rfl, hvn⟩ := v_slice hO
 simp only [List.length_map] at hvn
 obtain rfl : vn = sn := by omega
 have N0 := hide (show NOwn w1 w.heap.size 55 3 (.slice va vn vc) vn (([] : List SeH).map seEl ++ (hs.drop 0).map flE) by
  have h0 := gd_base hO (unhide BH).size
  rw [scs_flat, List.length_map, hl] at h0
  exact NOwn.flat h0 (by simpa using hl) (fun e he => by obtain ⟨x, _, rfl⟩ := List.mem_map.1 he; rfl) (fun e he => by obtain ⟨x, _, rfl⟩ := List.mem_map.1 he; rfl))
 have B0 := hide ((unhide BH).trans (hb.mono (unhide BH).size))
 have HLn := hide hl
 clear hO hb CS hvn hl
 go_wp2_with fail
 go_loopw [9] (fun i wr => ∃ (k : Nat) (done : List SeH), i = .int .i64 (k : Int) ∧ k ≤ vn ∧ Hid (done.length = k ∧ done.map (·.X) = (hs.take k).map (·.X)) ∧ Hid (NOwn wr w.heap.size 55 3 (.slice va vn vc) vn (done.map seEl ++ (hs.drop k).map flE)) ∧ Hid (Below w.heap.size w wr)) (fun i _ => vn - (intOf i).toNat)
 case atStart => exact ⟨0, [], rfl, Nat.zero_le _, hide ⟨rfl, rfl⟩, N0, B0⟩
 case round =>
  clear N0 B0
  obtain ⟨k, done, rfl, hk, hD, hN, hB⟩ := hrel
  by_cases hlt : k < vn
  case neg =>
   obtain rfl : k = vn := by omega
   have RES := hide (show SeOwn wr w.heap.size (.slice va k vc) done ∧ done.map (·.X) = hs.map (·.X) by
    have h1 := unhide hN
    have h2 := (unhide hD).2
    rw [List.take_of_length_le (by rw [unhide HLn]; exact Nat.le_refl _)] at h2
    rw [List.drop_eq_nil_of_le (by rw [unhide HLn]; exact Nat.le_refl _), List.map_nil, List.append_nil] at h1
    have h3 := (unhide hD).1
    refine ⟨?_, h2⟩
    show NOwn _ _ _ _ _ done.length _
    rw [h3]
    exact h1)
   go_wp2_with fail
   go_ret
   exact ⟨⟨va, k, vc⟩, rfl, done, (unhide RES).1, (unhide RES).2, unhide hB⟩
  have hk2 : k < hs.length := by rw [unhide HLn]; exact hlt
  have hkn : (k : Int) < (vn : Int) := by omega
  have hne : Value.slice va vn vc ≠ .slice none 0 0 := fun e => by injection e with _ e _; omega
  obtain ⟨g, c, e, hgB, hg, hc⟩ := owns_form (unhide hN).row hne
  injection e with e1 _ e3
  subst e1 e3
  have d2 := (unhide hN).cell (j := 2) (os_at (unhide hD).1 hk2) rfl
  have RW := SeIn.row ((unhide HI).below (unhide hB)) hk2
  have CC := unhide CW hs[k] (List.getElem_mem hk2)
  have hwn := unhide WN hs[k] (List.getElem_mem hk2)
  have bA : Below wr.heap.size wr (wr.alloc (.cells #[.slice hs[k].s0.a hs[k].s0.n hs[k].s0.c] 25)) := (Below.refl _ _).alloc (Nat.le_refl _) _
  have cA : (wr.alloc (.cells #[.slice hs[k].s0.a hs[k].s0.n hs[k].s0.c] 25)).cell? ⟨wr.heap.size, 0, none⟩ = some (.slice hs[k].s0.a hs[k].s0.n hs[k].s0.c) := (heap_at (heap_alloc_new _ _) 0).1
  have CV := hide (concatV1 wr.heap.size hs[k].s0.a hs[k].s0.n hs[k].s0.c hs[k].X.ws (wr.alloc (.cells #[.slice hs[k].s0.a hs[k].s0.n hs[k].s0.c] 25)) cA (RW.below bA) CC.2 (by omega))
  have STP := hide (fun (w5 : World) (q : Sl) (hb : Below wr.heap.size wr w5) (ho : VOwns w5 wr.heap.size (.slice q.a q.n q.c) hs[k].X.ws) => os_step (unhide hN) (unhide hD).1 hk2 hb q ho (Nat.le_refl _) (unhide hB).size)
  have TK := hide (show ∀ q : Sl, (done ++ [(⟨hs[k].X, q⟩ : SeH)]).length = k + 1 ∧ (done ++ [(⟨hs[k].X, q⟩ : SeH)]).map (·.X) = (hs.take (k + 1)).map (·.X) from fun q => ⟨by rw [List.length_append, (unhide hD).1]; rfl, by rw [takeG_snoc hs k hk2, List.map_append, List.map_append, (unhide hD).2]; rfl⟩)
  have BA := hide bA
  have d2' : wr.cell? ⟨g, k * 3 + 2, none⟩ = some (.slice hs[k].s0.a hs[k].s0.n hs[k].s0.c) := d2
  clear bA cA RW CC hwn d2 hN hD
  generalize hs[k] = x at *
  obtain ⟨X, ⟨wa, wn, wc⟩⟩ := x
  simp only at CV STP TK d2' BA
  go_wp2_with fail
  refine (unhide CV).mono ?_
  rintro e w5 ⟨v5, rfl, o5, b5⟩
  obtain ⟨⟨qa, qn, qc⟩, rfl, -⟩ := v_slice o5
  have b6 := (unhide BA).trans (b5.mono (unhide BA).size)
  obtain ⟨N5, W5, d5, f5⟩ := unhide STP w5 ⟨qa, qn, qc⟩ b6 (gd_base o5 (unhide BA).size)
  have bw := (unhide hB).trans (b6.mono (unhide hB).size)
  have NX := hide N5
  have BX := hide (bw.trans (WrB.below W5 (fun i e => by rw [e]; exact hgB) bw.size))
  have DX := hide (unhide TK ⟨qa, qn, qc⟩)
  simp only at d5 NX BX
  clear N5 W5 bw b6 o5 b5 CV STP TK BA d2'
  simp only
  go_wp2_with fail
  go_roundw
  case rel => exact ⟨k + 1, _, by go_num, by omega, DX, NX, BX⟩
  case measure => simp [intOf]; omega
end Go.Proofs.YtdnjgbckkmbmfaaGreat

namespace Go.Proofs.YtdnjgbckkmbmfaaGreat
open Go.RowKit

theorem run_appF {w : World} {B : Nat} {v : Value} {a : Option Addr} {n c : Nat} {xs ds : List FenD} (ty : TypeId) (hO : FOwns w B v xs) (hR : FRow w a n ds) (hx : xs.length ≤ 2000000) (hn : n ≤ 2000000) (hc : a = none → c = 0) (hB : B ≤ w.heap.size) :
  ∃ v' w', (Builtin.append_ #[26, 26] ty #[v, .slice a n c]).run Tryz.prog w = .ok v' w' ∧ FOwns w' B v' (xs ++ ds) ∧ w.grownBy w' v.ownBlock ∧ (v ≠ .slice none 0 0 → v' ≠ .slice none 0 0) := by
 obtain ⟨i0, hi0, hz0, hz1, hz2⟩ := info_parts Tryz.infoFence
 cases a with
 | none =>
  obtain rfl := hc rfl
  obtain ⟨rfl, rfl⟩ := frow_none hR
  exact ⟨v, w, run_append_owned_none (P := Tryz.prog) w B 26 ty 85 i0 3 Tryz.underlying26 hi0 _ _ _ hO, by rw [List.append_nil]; exact hO, ⟨rfl, rfl, rfl, Nat.le_refl _, fun _ _ _ => rfl⟩, fun h => h⟩
 | some ad =>
  obtain ⟨v', w', hr, ho, hg, hv⟩ := run_append_own (P := Tryz.prog) w B 26 ty 85 i0 (.agg #[.string ByteArray.empty, .string ByteArray.empty, .int .i64 0]) 3 40 Tryz.underlying26 hi0 hz0 hz1 hz2 rfl (by decide) _ _ _ hO ad n c (fcs ds) (by rw [fcs_len, hR.1]) (frow_src hR) (fcs_one _) (by unfold maxLen; omega) (by omega) hB
  refine ⟨v', w', hr, ?_, hg, fun h h' => h (hv.1 h').1⟩
  unfold FOwns
  rw [fcs_append, List.length_append, hR.1]
  exact ho
set_option maxHeartbeats 4000000 in
theorem growF (n : Nat) (w : World) (hn : n ≤ 2000000) :
  Calls Tryz.prog 99 #[.slice none 0 0, .int .i64 (n : Int)] w fun e w' => ∃ v, e = .returned v ∧ FOwns w' w.heap.size v [] ∧ (0 < n → v ≠ .slice none 0 0) ∧ Below w.heap.size w w' := by
 obtain ⟨i0, hi0, hz0, hz1, hz2⟩ := info_parts Tryz.infoFence
 by_cases h0 : 0 < n
 ·have hr := Lib.run_append_nil_zeros (P := Tryz.prog) w 26 3 26 85 i0 (.agg #[.string ByteArray.empty, .string ByteArray.empty, .int .i64 0]) .i64 .i64 Tryz.underlying26 Tryz.underlying3 hi0 hz0 n h0 (by omega) (by omega) (by rw [hz2]; omega)
  have HO := hide (grow_owns (w := w) (B := w.heap.size) (e := 85) (size := 3) (n := n) (z := .agg #[.string ByteArray.empty, .string ByteArray.empty, .int .i64 0]) rfl (by unfold maxLen; omega) (Nat.le_refl _))
  have HB := hide (show Below w.heap.size w _ from ((Below.refl w.heap.size w).drew.alloc (Nat.le_refl _) (.cells (Builtin.zeroCells (Value.cells (.agg #[.string ByteArray.empty, .string ByteArray.empty, .int .i64 0])) n ++ Builtin.zeroCells (Value.cells (.agg #[.string ByteArray.empty, .string ByteArray.empty, .int .i64 0])) (grownCap w n 0 85 - n)) 85)))
  obtain ⟨W, hW⟩ : ∃ W, W = w.drew.alloc (.cells (Builtin.zeroCells (Value.cells (.agg #[.string ByteArray.empty, .string ByteArray.empty, .int .i64 0])) n ++ Builtin.zeroCells (Value.cells (.agg #[.string ByteArray.empty, .string ByteArray.empty, .int .i64 0])) (grownCap w n 0 85 - n)) 85) := ⟨_, rfl⟩
  rw [← hW] at hr HO HB
  generalize grownCap w n 0 85 = cap at *
  clear hW
  go_enter Tryz.func99, Tryz.ntmps99
  go_wp2_with (at_builtin; refine Lib.wpList_append_run _ rfl _ _ 26 3 rfl _ _ rfl rfl _ W hr ?_)
  go_ret
  exact ⟨.slice (some ⟨w.heap.size, 0, none⟩) 0 cap, rfl, unhide HO, fun _ h => (by cases h), unhide HB⟩
 ·obtain rfl : n = 0 := by omega
  go_enter Tryz.func99, Tryz.ntmps99
  go_wp2_with fail
  go_ret
  exact ⟨.slice none 0 0, rfl, World.ownsRow_nil _ _ _ _, fun h => absurd h (by omega), Below.refl _ _⟩
set_option maxHeartbeats 4000000 in
theorem concatF1 (ob : Nat) (a : Option Addr) (n c : Nat) (es : List FenD) (w : World) (hc : w.cell? ⟨ob, 0, none⟩ = some (.slice a n c)) (hR : FRow w a n es) (hcn : a = none → c = 0) (hn : n ≤ 1100000) :
  Calls Tryz.prog 68 #[.slice (some ⟨ob, 0, none⟩) 1 1] w fun e w' => ∃ v, e = .returned v ∧ FOwns w' w.heap.size v es ∧ Below w.heap.size w w' := by
 have R := hide hR
 have hob := cell_lt hc
 clear hR
 go_enter Tryz.func68, Tryz.ntmps68
 go_wp2_with fail
 refine wp_loop_rounds 2 ?_
 rw [rounds_succ]
 go_wp2_with fail
 rw [rounds_succ]
 go_wp2_with fail
 refine (growF n w (by omega)).mono ?_
 rintro e w1 ⟨v1, rfl, hO, _, hb⟩
 obtain ⟨v2, w2, hr, hO2, hg2, _⟩ := run_appF (c := c) 26 hO ((unhide R).below hb) (by simp) (by omega) hcn hb.size
 have hc1 := (hb.cell (p := ⟨ob, 0, none⟩) hob).trans hc
 have B2 := hide (hb.trans ((Below.refl w.heap.size w1).grown hg2 hb.size (fun k hk => (hO.lt k hk).1)))
 have O2 := hide (show FOwns w2 w.heap.size v2 es from hO2)
 clear hO hO2 hg2 hb R
 go_wp2_with fail
 refine wp_loop_rounds 2 ?_
 rw [rounds_succ]
 go_wp2_with (at_builtin; refine wpAppE rfl _ _ 26 rfl _ _ v2 w2 rfl rfl hr ?_)
 rw [rounds_succ]
 go_wp2_with fail
 go_ret
 exact ⟨v2, rfl, unhide O2, unhide B2⟩
end Go.Proofs.YtdnjgbckkmbmfaaGreat

namespace Go.Proofs.YtdnjgbckkmbmfaaGreat
open Go.RowKit

structure LdAt (w : World) (B lb m N : Nat) (h : ByteArray → Value) (next : Int) (f s : Sl) (hs : List SeH) (ds : List VerD) (fs : List FenD) : Prop where
 box : w.heap[lb]? = some (.cells #[.int .i64 next, .map (some m), .slice f.a f.n f.c, .slice s.a s.n s.c] 116 (0, 0))
 his : HisAt w m N (m + 1) h ds
 fo : FOwns w B (.slice f.a f.n f.c) fs
 so : SeOwn w B (.slice s.a s.n s.c) hs
 far : ∀ k g, (h k).ownBlock = some g → ¬ NBl (.slice s.a s.n s.c) (hs.map seEl) g
 mge : B ≤ m
 lge : B ≤ lb
def LoRes (d : VsD) (w : World) (e : Ending) (w' : World) : Prop := ∃ (lb m N : Nat) (h : ByteArray → Value) (f s : Sl) (hs : List SeH), e = .returned (.pointer (some ⟨lb, 0, none⟩)) ∧ LdAt w' w.heap.size lb m N h d.next f s hs d.list d.fen ∧ N ≤ 4096 ∧ hs.map (·.X) = d.ses ∧ Below w.heap.size w w'
set_option maxHeartbeats 8000000 in
theorem ledgerOf_any (d : VsD) (l f s : Sl) (hs : List SeH) (w : World) (hI : VzIn w l f s hs d) (hcs : s.a = none → s.c = 0) (hl : VsFew l f s (hs.map seR)) (hln : l.n ≤ 4096) (hk : ∀ i (hi : i < d.list.length), d.list[i].k.size ≤ maxLen) :
  Calls Tryz.prog 31 #[.agg (vzC d.next l f s)] w (LoRes d w) := by
 obtain ⟨W, hW⟩ : ∃ W, W = w.alloc (.cells (vzC d.next l f s) 29) := ⟨_, rfl⟩
 have b1 : Below w.heap.size w W := by subst hW; exact (Below.refl _ _).alloc (Nat.le_refl _) _
 have kv : W.heap[w.heap.size]? = some (.cells (vzC d.next l f s) 29 (0, 0)) := by subst hW; exact heap_alloc_new _ _
 have hz0 : w.heap.size < W.heap.size := blk_lt kv
 have IW := hI.below b1
 have SSD := hide hI.ss
 have SH := hide (fun (u : World) (hb : Below W.heap.size W u) => historyOf_any l.a l.n l.c d.list u hln (IW.vr.below hb) hk)
 have SF := hide (fun (ob : Nat) (u : World) (hb : Below W.heap.size W u) (hc : u.cell? ⟨ob, 0, none⟩ = some (.slice f.a f.n f.c)) => concatF1 ob f.a f.n f.c d.fen u hc (IW.fr.below hb) IW.cf.2 (by have := hl.f; omega))
 have SS := hide (fun (u : World) (hb : Below W.heap.size W u) => ownSessions_any s hs u (IW.below hb).sr hcs IW.cw (by have := hl.s; omega) (fun h hh => by
  obtain ⟨k, hk, rfl⟩ := List.getElem_of_mem hh
  have h1 := hl.w k (by simpa using hk)
  rw [List.getElem_map] at h1
  exact h1))
 have BH := hide b1
 have HLN := hide hln
 obtain ⟨la, ln, lc⟩ := l
 obtain ⟨fa, fn, fc⟩ := f
 obtain ⟨sa, sn, sc⟩ := s
 unfold vzC at *
 simp only at hW kv SH SF SS HLN ⊢
 have SK := hide (show ∀ u, Below W.heap.size W u → (u.cell? ⟨w.heap.size, 0, none⟩ = some (.int .i64 d.next) ∧ u.cell? ⟨w.heap.size, 1, none⟩ = some (.slice la ln lc) ∧ u.cell? ⟨w.heap.size, 2, none⟩ = some (.slice fa fn fc) ∧ u.cell? ⟨w.heap.size, 3, none⟩ = some (.slice sa sn sc)) from fun u hu => ⟨(hu.cell (p := ⟨w.heap.size, 0, none⟩) hz0).trans (heap_at kv 0).1, (hu.cell (p := ⟨w.heap.size, 1, none⟩) hz0).trans (heap_at kv 1).1, (hu.cell (p := ⟨w.heap.size, 2, none⟩) hz0).trans (heap_at kv 2).1, (hu.cell (p := ⟨w.heap.size, 3, none⟩) hz0).trans (heap_at kv 3).1⟩)
 have B0 := hide (Below.refl W.heap.size W).drew
 clear hI hl hk b1 kv IW hcs hln
 go_enter Tryz.func31, Tryz.ntmps31
 go_upto_region 1 with fail
 rw [← hW]
 clear hW
 refine wp_region_held_drew (S := (fun u => (u.cell? ⟨w.heap.size, 0, none⟩ = some (.int .i64 d.next) ∧ u.cell? ⟨w.heap.size, 1, none⟩ = some (.slice la ln lc) ∧ u.cell? ⟨w.heap.size, 2, none⟩ = some (.slice fa fn fc) ∧ u.cell? ⟨w.heap.size, 3, none⟩ = some (.slice sa sn sc)))) (by kernel_rfl) (unhide SK _ (unhide B0)) (fun hHeld => ?_)
 generalize W.drew = u0 at *
 refine tk 0 3 rfl rfl hHeld ?_
 simp only [Act.put, lA, lB, lC]
 refine tk 1 4 rfl rfl hHeld ?_
 simp only [Act.put, lA, lB, lC]
 refine tk 2 5 rfl rfl hHeld ?_
 simp only [Act.put, lA, lB, lC]
 refine tk 3 6 rfl rfl hHeld ?_
 simp only [Act.put, lA, lB, lC]
 refine tk 5 8 rfl rfl hHeld ?_
 simp only [Act.put, lA, lB, lC]
 refine tk 6 9 rfl rfl hHeld ?_
 simp only [Act.put, lA, lB, lC]
 refine tk 9 12 rfl rfl hHeld ?_
 simp only [Act.put, lA, lB, lC]
 refine tk 10 13 rfl rfl hHeld ?_
 simp only [Act.put, lA, lB, lC]
 refine wpAnyH_ready (rs := [4, 7]) (by kernel_rfl) (by simp) ?_
 refine AllReadyH.cons rfl (fun K hK => ?_) (AllReadyH.cons rfl (fun K hK => ?_) AllReadyH.nil)
 ·go_simp
  refine (unhide SH _ (unhide B0)).mono ?_
  rintro e u4 ⟨h, rfl, hH, hb4⟩
  have HH4 := hide hH
  have M4 := (unhide B0).size
  have B4 := hide ((unhide B0).trans (hb4.mono (unhide B0).size))
  clear hH hb4
  generalize u0.heap.size = m4 at *
  refine hK.out _ _ (unhide SK _ (unhide B4)) (fun hHeld => ?_)
  clear hK K
  refine rd [7] (.cons rfl (fun K hK => ?_) .nil)
  have bA7 : Below u4.heap.size u4 (u4.alloc (.cells #[.slice fa fn fc] 26)) := (Below.refl _ _).alloc (Nat.le_refl _) _
  have C7 := hide (show (u4.alloc (.cells #[.slice fa fn fc] 26)).cell? ⟨u4.heap.size, 0, none⟩ = some (.slice fa fn fc) from (heap_at (heap_alloc_new _ _) 0).1)
  have B4_7 := hide ((unhide B4).trans (bA7.mono (unhide B4).size))
  have HH7 := hide ((unhide HH4).below bA7)
  go_simp
  generalize u4.alloc (.cells #[.slice fa fn fc] 26) = u4_7 at *
  generalize hq7 : u4.heap.size = o7 at *
  clear bA7
  refine hK.out _ _ (unhide SK _ (unhide B4_7)) (fun hHeld => ?_)
  clear hK K
  refine rd [8] (.cons rfl (fun K hK => ?_) .nil)
  go_simp
  refine (unhide SF _ _ (unhide B4_7) (unhide C7)).mono ?_
  rintro e u4_7_8 ⟨v8, rfl, oF, hb8⟩
  obtain ⟨⟨fa8, fn8, fc8⟩, rfl, -⟩ := v_slice oF
  have OF := hide (gd_base oF (unhide B4_7).size)
  have HH8 := hide ((unhide HH7).below hb8)
  have B4_7_8 := hide ((unhide B4_7).trans (hb8.mono (unhide B4_7).size))
  clear oF hb8
  refine hK.out _ _ (unhide SK _ (unhide B4_7_8)) (fun hHeld => ?_)
  clear hK K
  refine rd [11] (.cons rfl (fun K hK => ?_) .nil)
  go_simp
  refine (unhide SS _ (unhide B4_7_8)).mono ?_
  rintro e u4_7_8_11 ⟨⟨sa1, sn1, sc1⟩, hs1, rfl, oS, hX, hb11⟩
  have FAR := hide (show ∀ k g, (h k).ownBlock = some g → ¬ NBl (.slice sa1 sn1 sc1) (hs1.map seEl) g from fun k g hg hn => Nat.lt_irrefl _ (Nat.lt_of_lt_of_le ((unhide HH8).own k |>.lt g hg).2 (oS.lt g hn).1))
  have OS := hide (oS.down (unhide B4_7_8).size)
  have OF1 := hide (rb_ownsRow_below (unhide OF) hb11)
  have HH11 := hide ((unhide HH8).below hb11)
  have HX := hide (hX.trans (unhide SSD))
  have B4_7_8_11 := hide ((unhide B4_7_8).trans (hb11.mono (unhide B4_7_8).size))
  clear oS hX hb11
  refine hK.out _ _ (unhide SK _ (unhide B4_7_8_11)) (fun hHeld => ?_)
  clear hK K
  refine tk 12 15 rfl rfl hHeld ?_
  simp only [Act.put, lA, lB, lC]
  refine rd [13] (.cons rfl (fun K hK => ?_) .nil)
  have bL : Below u4_7_8_11.heap.size u4_7_8_11 (u4_7_8_11.alloc (.cells #[.int .i64 d.next, .map (some m4), .slice fa8 fn8 fc8, .slice sa1 sn1 sc1] 116)) := (Below.refl _ _).alloc (Nat.le_refl _) _
  have B4_7_8_11_13 := hide ((unhide B4_7_8_11).trans (bL.mono (unhide B4_7_8_11).size))
  have LD := hide (show LdAt (u4_7_8_11.alloc (.cells #[.int .i64 d.next, .map (some m4), .slice fa8 fn8 fc8, .slice sa1 sn1 sc1] 116)) w.heap.size u4_7_8_11.heap.size m4 _ h d.next ⟨fa8, fn8, fc8⟩ ⟨sa1, sn1, sc1⟩ hs1 d.list d.fen from ⟨heap_alloc_new _ _, (unhide HH11).below bL, gd_base (rb_ownsRow_below (unhide OF1) bL) (Nat.le_of_lt hz0), ((unhide OS).below bL).down (Nat.le_of_lt hz0), unhide FAR, Nat.le_trans (Nat.le_of_lt hz0) M4, Nat.le_trans (Nat.le_of_lt hz0) (unhide B4_7_8_11).size⟩)
  have BE := hide ((unhide BH).trans ((unhide B4_7_8_11_13).mono (Nat.le_of_lt hz0)))
  clear bL
  go_simp
  refine hK.out _ _ (unhide SK _ (unhide B4_7_8_11_13)) (fun hHeld => ?_)
  clear hK K
  refine tk 14 2 rfl rfl hHeld ?_
  simp only [Act.put, lA, lB, lC]
  refine wpAnyH_done (by kernel_rfl) ?_ _
  clear hHeld SK SH SF SS
  go_wp2_with fail
  go_ret
  exact ⟨_, _, _, _, _, _, _, rfl, unhide LD, unhide HLN, unhide HX, unhide BE⟩
 ·have bA7 : Below u0.heap.size u0 (u0.alloc (.cells #[.slice fa fn fc] 26)) := (Below.refl _ _).alloc (Nat.le_refl _) _
  have C7 := hide (show (u0.alloc (.cells #[.slice fa fn fc] 26)).cell? ⟨u0.heap.size, 0, none⟩ = some (.slice fa fn fc) from (heap_at (heap_alloc_new _ _) 0).1)
  have B7 := hide ((unhide B0).trans (bA7.mono (unhide B0).size))
  go_simp
  generalize u0.alloc (.cells #[.slice fa fn fc] 26) = u7 at *
  generalize u0.heap.size = o7 at *
  clear bA7
  refine hK.out _ _ (unhide SK _ (unhide B7)) (fun hHeld => ?_)
  clear hK K
  refine rd [4] (.cons rfl (fun K hK => ?_) .nil)
  go_simp
  refine (unhide SH _ (unhide B7)).mono ?_
  rintro e u7_4 ⟨h, rfl, hH, hb4⟩
  have HH4 := hide hH
  have M4 := (unhide B7).size
  have B7_4 := hide ((unhide B7).trans (hb4.mono (unhide B7).size))
  have C8 := hide ((hb4.cell (p := ⟨o7, 0, none⟩) (cell_lt (unhide C7))).trans (unhide C7))
  clear hH hb4
  generalize u7.heap.size = m4 at *
  refine hK.out _ _ (unhide SK _ (unhide B7_4)) (fun hHeld => ?_)
  clear hK K
  refine rd [8] (.cons rfl (fun K hK => ?_) .nil)
  go_simp
  refine (unhide SF _ _ (unhide B7_4) (unhide C8)).mono ?_
  rintro e u7_4_8 ⟨v8, rfl, oF, hb8⟩
  obtain ⟨⟨fa8, fn8, fc8⟩, rfl, -⟩ := v_slice oF
  have OF := hide (gd_base oF (unhide B7_4).size)
  have HH8 := hide ((unhide HH4).below hb8)
  have B7_4_8 := hide ((unhide B7_4).trans (hb8.mono (unhide B7_4).size))
  clear oF hb8
  refine hK.out _ _ (unhide SK _ (unhide B7_4_8)) (fun hHeld => ?_)
  clear hK K
  refine rd [11] (.cons rfl (fun K hK => ?_) .nil)
  go_simp
  refine (unhide SS _ (unhide B7_4_8)).mono ?_
  rintro e u7_4_8_11 ⟨⟨sa1, sn1, sc1⟩, hs1, rfl, oS, hX, hb11⟩
  have FAR := hide (show ∀ k g, (h k).ownBlock = some g → ¬ NBl (.slice sa1 sn1 sc1) (hs1.map seEl) g from fun k g hg hn => Nat.lt_irrefl _ (Nat.lt_of_lt_of_le ((unhide HH8).own k |>.lt g hg).2 (oS.lt g hn).1))
  have OS := hide (oS.down (unhide B7_4_8).size)
  have OF1 := hide (rb_ownsRow_below (unhide OF) hb11)
  have HH11 := hide ((unhide HH8).below hb11)
  have HX := hide (hX.trans (unhide SSD))
  have B7_4_8_11 := hide ((unhide B7_4_8).trans (hb11.mono (unhide B7_4_8).size))
  clear oS hX hb11
  refine hK.out _ _ (unhide SK _ (unhide B7_4_8_11)) (fun hHeld => ?_)
  clear hK K
  refine tk 12 15 rfl rfl hHeld ?_
  simp only [Act.put, lA, lB, lC]
  refine rd [13] (.cons rfl (fun K hK => ?_) .nil)
  have bL : Below u7_4_8_11.heap.size u7_4_8_11 (u7_4_8_11.alloc (.cells #[.int .i64 d.next, .map (some m4), .slice fa8 fn8 fc8, .slice sa1 sn1 sc1] 116)) := (Below.refl _ _).alloc (Nat.le_refl _) _
  have B7_4_8_11_13 := hide ((unhide B7_4_8_11).trans (bL.mono (unhide B7_4_8_11).size))
  have LD := hide (show LdAt (u7_4_8_11.alloc (.cells #[.int .i64 d.next, .map (some m4), .slice fa8 fn8 fc8, .slice sa1 sn1 sc1] 116)) w.heap.size u7_4_8_11.heap.size m4 _ h d.next ⟨fa8, fn8, fc8⟩ ⟨sa1, sn1, sc1⟩ hs1 d.list d.fen from ⟨heap_alloc_new _ _, (unhide HH11).below bL, gd_base (rb_ownsRow_below (unhide OF1) bL) (Nat.le_of_lt hz0), ((unhide OS).below bL).down (Nat.le_of_lt hz0), unhide FAR, Nat.le_trans (Nat.le_of_lt hz0) M4, Nat.le_trans (Nat.le_of_lt hz0) (unhide B7_4_8_11).size⟩)
  have BE := hide ((unhide BH).trans ((unhide B7_4_8_11_13).mono (Nat.le_of_lt hz0)))
  clear bL
  go_simp
  refine hK.out _ _ (unhide SK _ (unhide B7_4_8_11_13)) (fun hHeld => ?_)
  clear hK K
  refine tk 14 2 rfl rfl hHeld ?_
  simp only [Act.put, lA, lB, lC]
  refine wpAnyH_done (by kernel_rfl) ?_ _
  clear hHeld SK SH SF SS
  go_wp2_with fail
  go_ret
  exact ⟨_, _, _, _, _, _, _, rfl, unhide LD, unhide HLN, unhide HX, unhide BE⟩
end Go.Proofs.YtdnjgbckkmbmfaaGreat

namespace Go.Proofs.YtdnjgbckkmbmfaaGreat
open Go.RowKit

def LK (w : World) (i : Nat) : Prop := (∃ es c, w.heap[i]? = some (.map es c)) ∨ ∃ cs t fr, w.heap[i]? = some (.cells cs t fr) ∧ (t = 43 ∨ t = 85 ∨ t = 55 ∨ t = 116)
def LgW (B : Nat) (w w' : World) : Prop := WrB (fun i => B ≤ i ∧ LK w i) w w'
theorem LK.same {w w' : World} {i : Nat} (h : w'.heap[i]? = w.heap[i]?) : LK w' i ↔ LK w i := by unfold LK; rw [h]
theorem LgW.trans {B : Nat} {w w1 w2 : World} (h : LgW B w w1) (k : LgW B w1 w2) : LgW B w w2 :=
 ⟨k.os.trans h.os, k.tape.trans h.tape, k.output.trans h.output, Nat.le_trans h.size k.size, fun i hi hp => by
  have h1 := h.block i hi hp
  refine (k.block i (Nat.lt_of_lt_of_le hi h.size) (fun hq => hp ⟨hq.1, (LK.same h1).1 hq.2⟩)).trans h1⟩
theorem LgW.of_below {B : Nat} {w w' : World} (h : Below w.heap.size w w') : LgW B w w' := WrB.of_below h
theorem LgW.refl (B : Nat) (w : World) : LgW B w w := WrB.same _ _
theorem LgW.below {B : Nat} {w w' : World} (h : LgW B w w') (hB : B ≤ w.heap.size) : Below B w w' := ⟨h.os, h.tape, h.output, h.size, fun i hi => h.block i (by omega) (fun hp => by omega)⟩
theorem LgW.of_wr {B : Nat} {w w' : World} {P : Nat → Prop} (h : WrB P w w') (hp : ∀ i, P i → B ≤ i ∧ LK w i) : LgW B w w' := h.weak hp
theorem lk_kind {w : World} {i : Nat} {cs : Array Value} {t : TypeId} (h : w.heap[i]? = some (.cells cs t (0, 0))) (ht : t = 43 ∨ t = 85 ∨ t = 55 ∨ t = 116) : LK w i := .inr ⟨cs, t, _, h, ht⟩
theorem LgW.box {B : Nat} {w w' : World} (h : LgW B w w') {b : Nat} {cs : Array Value} {t : TypeId} (hb : w.heap[b]? = some (.cells cs t (0, 0))) (ht : t ≠ 43 ∧ t ≠ 85 ∧ t ≠ 55 ∧ t ≠ 116) : w'.heap[b]? = some (.cells cs t (0, 0)) := by
 refine (h.block b (blk_lt hb) (fun hp => ?_)).trans hb
 rcases hp.2 with ⟨es, c, e⟩ | ⟨cs', t', fr, e, ht'⟩
 ·rw [hb] at e; cases e
 ·rw [hb] at e
  injection e with e
  injection e with _ e _
  subst e
  rcases ht' with e | e | e | e
  ·exact ht.1 e
  ·exact ht.2.1 e
  ·exact ht.2.2.1 e
  ·exact ht.2.2.2 e
structure LgAt (w : World) (B lb m N : Nat) (h : ByteArray → Value) (f s : Sl) (hs : List SeH) (d : VsD) : Prop where
 box : w.heap[lb]? = some (.cells #[.int .i64 d.next, .map (some m), .slice f.a f.n f.c, .slice s.a s.n s.c] 116 (0, 0))
 his : HisAt w m N (m + 1) h d.list
 vz : VzOwn w B ⟨none, 0, 0⟩ f s hs ⟨d.next, [], d.fen, d.ses⟩
 far : ∀ k g, (h k).ownBlock = some g → ¬ NBl (.slice s.a s.n s.c) (hs.map seEl) g
 mge : B ≤ m
 lge : B ≤ lb
theorem LdAt.lg {w : World} {B lb m N : Nat} {h : ByteArray → Value} {f s : Sl} {hs : List SeH} {d : VsD} (q : LdAt w B lb m N h d.next f s hs d.list d.fen) (hx : hs.map (·.X) = d.ses) : LgAt w B lb m N h f s hs d :=
 ⟨q.box, q.his, ⟨World.ownsRow_nil _ _ _ _, q.fo, q.so, hx, fun i hi => by cases hi⟩, q.far, q.mge, q.lge⟩
theorem LgAt.below {w w' : World} {B lb m N : Nat} {h : ByteArray → Value} {f s : Sl} {hs : List SeH} {d : VsD} (q : LgAt w B lb m N h f s hs d) (hb : Below w.heap.size w w') : LgAt w' B lb m N h f s hs d :=
 ⟨(hb.block lb (blk_lt q.box)).trans q.box, q.his.below hb, q.vz.below hb, q.far, q.mge, q.lge⟩
theorem LgAt.wr {w w' : World} {B lb m N : Nat} {h : ByteArray → Value} {f s : Sl} {hs : List SeH} {d : VsD} (q : LgAt w B lb m N h f s hs d) {P : Nat → Prop} (hw : WrB P w w') (hp : ∀ i, P i → ¬ LK w i) : LgAt w' B lb m N h f s hs d := by
 have kv : ∀ {C s n : Nat} {v : Value} {cs : List Value} {t : TypeId}, w.ownsRow C t s v n cs → (t = 43 ∨ t = 85 ∨ t = 55 ∨ t = 116) → ∀ i, v.ownBlock = some i → ¬ P i := fun ho ht i hi hP => by
  obtain ⟨cur, hc⟩ := own_kind ho hi
  exact hp i hP (lk_kind hc ht)
 refine ⟨(hw.block lb (blk_lt q.box) (fun hP => hp lb hP (lk_kind q.box (by simp)))).trans q.box, q.his.wr hw (fun hP => ?_) (fun i hi cur hc => hp i hi (lk_kind hc (by simp))), q.vz.apart hw (fun i hi => by cases hi) (kv q.vz.fo (by simp)) (fun i hi hP => ?_), q.far, q.mge, q.lge⟩
 ·obtain ⟨D, ⟨es, clock, h1, _⟩, _⟩ := q.his.map
  exact hp m hP (.inl ⟨es, clock, h1⟩)
 ·obtain ⟨cur, T, hc, hT⟩ := nbl_se q.vz.so hi
  exact hp i hP (lk_kind hc (by rcases hT with e | e <;> simp [e]))
theorem LgAt.len {w : World} {B lb m N : Nat} {h : ByteArray → Value} {f s : Sl} {hs : List SeH} {d : VsD} (q : LgAt w B lb m N h f s hs d) : s.n = hs.length ∧ hs.length = d.ses.length ∧ f.n = d.fen.length := ⟨owns_n q.vz.so.row, by rw [← q.vz.ss, List.length_map], owns_n q.vz.fo⟩
set_option maxHeartbeats 1000000 in
theorem isSession_any (lb : Nat) (n : Int) (B m N : Nat) (h : ByteArray → Value) (f s : Sl) (hs : List SeH) (d : VsD) (w : World) (q : LgAt w B lb m N h f s hs d) (h4 : hs.length = 4) :
  Calls Tryz.prog 70 #[.pointer (some ⟨lb, 0, none⟩), .int .i64 n] w fun e w' => e = .returned (.bool (decide (0 ≤ n ∧ n ≤ 3))) ∧ w' = w := by
 have c3 := (heap_at q.box 3).1
 simp only [List.getElem?_toArray, List.getElem?_cons_zero, List.getElem?_cons_succ] at c3
 have hsn : s.n = 4 := by rw [q.len.1, h4]
 rw [hsn] at c3
 clear q hsn
 by_cases h0 : 0 ≤ n
 ·have e : decide (0 ≤ n ∧ n ≤ 3) = decide (n < 4) := by rw [decide_eq_decide]; omega
  rw [e]
  clear e
  go_enter Tryz.func70, Tryz.ntmps70
  go_wp2_with fail
  go_ret
  exact ⟨rfl, rfl⟩
 ·have e : decide (0 ≤ n ∧ n ≤ 3) = false := decide_eq_false (by omega)
  rw [e]
  clear e
  go_enter Tryz.func70, Tryz.ntmps70
  go_wp2_with fail
  go_ret
  exact ⟨rfl, rfl⟩
end Go.Proofs.YtdnjgbckkmbmfaaGreat

namespace Go.Proofs.YtdnjgbckkmbmfaaGreat
open Go.RowKit

structure ZrH where
 X : RepD
 s0 : Sl
def zrEl (h : ZrH) : El := ⟨[.int .i64 h.X.code, .int .i64 h.X.time, .string h.X.val, .slice h.s0.a h.s0.n h.s0.c], [⟨48, 2, h.X.list.length, .slice h.s0.a h.s0.n h.s0.c, ecs h.X.list⟩]⟩
abbrev ZrOwn (w : World) (B : Nat) (v : Value) (hs : List ZrH) : Prop := NOwn w B 40 4 v hs.length (hs.map zrEl)
abbrev ZrIn (w : World) (v : Value) (n : Nat) (hs : List ZrH) : Prop := NIn w 4 v n (hs.map zrEl)
theorem zrEl_at {hs : List ZrH} {k : Nat} (hk : k < hs.length) : (hs.map zrEl)[k]? = some (zrEl hs[k]) := by rw [List.getElem?_map, List.getElem?_eq_getElem hk]; rfl
theorem ZrIn.sub {w : World} {v : Value} {n : Nat} {hs : List ZrH} (h : ZrIn w v n hs) {k : Nat} (hk : k < hs.length) : RowC w (.slice hs[k].s0.a hs[k].s0.n hs[k].s0.c) hs[k].X.list.length (ecs hs[k].X.list) := by
 have d := h.dat (zrEl hs[k]) (List.mem_map_of_mem (List.getElem_mem hk))
 exact d _ (List.Mem.head _)
theorem ZrIn.cells {w : World} {a : Option Addr} {n c : Nat} {hs : List ZrH} (h : ZrIn w (.slice a n c) n hs) {k : Nat} (hk : k < hs.length) : ∃ b off, a = some ⟨b, off, none⟩ ∧ b < w.heap.size ∧ w.cell? ⟨b, off + k * 4, none⟩ = some (.int .i64 hs[k].X.code) ∧ w.cell? ⟨b, off + k * 4 + 1, none⟩ = some (.int .i64 hs[k].X.time) ∧ w.cell? ⟨b, off + k * 4 + 2, none⟩ = some (.string hs[k].X.val) ∧ w.cell? ⟨b, off + k * 4 + 3, none⟩ = some (.slice hs[k].s0.a hs[k].s0.n hs[k].s0.c) := by
 obtain ⟨b, off, e, hb, q⟩ := h.cell (zrEl_at hk) (by decide)
 exact ⟨b, off, e, hb, q 0 _ rfl, by rw [Nat.add_assoc]; exact q 1 _ rfl, by rw [Nat.add_assoc]; exact q 2 _ rfl, by rw [Nat.add_assoc]; exact q 3 _ rfl⟩
theorem Tryz.infoZr : (Tryz.prog.info? 40).map (fun i => (i.zero, i.size, i.bytes)) = some (some (.agg #[.int .i64 0, .int .i64 0, .string ByteArray.empty, .slice none 0 0]), 4, 56) := by kernel_rfl
end Go.Proofs.YtdnjgbckkmbmfaaGreat

namespace Go.Proofs.YtdnjgbckkmbmfaaGreat
open Go.RowKit

theorem nbl_set {v : Value} {hs : List SeH} {i : Nat} {x : SeH} {k : Nat} (h : NBl v ((hs.set i x).map seEl) k) : NBl v (hs.map seEl) k ∨ (Value.slice x.s0.a x.s0.n x.s0.c).ownBlock = some k := by
 rcases h with h | ⟨j, a, y, hy, hk⟩
 ·exact .inl (.inl h)
 ·rw [List.map_set] at hy
  by_cases hi : i < (hs.map seEl).length
  ·rw [sbAt_set hi] at hy
   by_cases e : j = i
   ·rw [if_pos e] at hy
    have h2 : y.v = .slice x.s0.a x.s0.n x.s0.c := by
     match a, hy with
     | 0, hy => injection hy with hy; rw [← hy]
     | a + 1, hy => cases hy
    rw [h2] at hk
    exact .inr hk
   ·rw [if_neg e] at hy
    exact .inl (.inr ⟨j, a, y, hy, hk⟩)
  ·rw [List.set_eq_of_length_le (by omega)] at hy
   exact .inl (.inr ⟨j, a, y, hy, hk⟩)
abbrev st3 (w : World) (g i : Nat) (x : SeH) : World := ((w.setCell ⟨g, i * 3, none⟩ (.bool x.X.o)).setCell ⟨g, i * 3 + 1, none⟩ (.int .i64 x.X.t)).setCell ⟨g, i * 3 + 1 + 1, none⟩ (.slice x.s0.a x.s0.n x.s0.c)
theorem LgAt.put {w : World} {B lb m N : Nat} {h : ByteArray → Value} {f s : Sl} {hs : List SeH} {d : VsD} (q : LgAt w B lb m N h f s hs d) {i : Nat} (hi : i < hs.length) (x : SeH) (ho : VOwns w B (.slice x.s0.a x.s0.n x.s0.c) x.X.ws) (hap : ∀ g, (Value.slice x.s0.a x.s0.n x.s0.c).ownBlock = some g → ¬ NBl (.slice s.a s.n s.c) (hs.map seEl) g) (hah : ∀ k g, (h k).ownBlock = some g → (Value.slice x.s0.a x.s0.n x.s0.c).ownBlock ≠ some g) :
  ∃ g, s.a = some ⟨g, 0, none⟩ ∧ (w.cell? ⟨g, i * 3, none⟩ = some (.bool hs[i].X.o) ∧ w.cell? ⟨g, i * 3 + 1, none⟩ = some (.int .i64 hs[i].X.t) ∧ w.cell? ⟨g, i * 3 + 2, none⟩ = some (.slice hs[i].s0.a hs[i].s0.n hs[i].s0.c)) ∧ (∀ j, w.frozen? ⟨g, j, none⟩ = false) ∧ LgAt (st3 w g i x) B lb m N h f s (hs.set i x) ⟨d.next, d.list, d.fen, d.ses.set i x.X⟩ ∧ LgW B w (st3 w g i x) := by
 obtain ⟨g, hg, hB, hc, hf, hv, hw, ⟨cur, hk⟩⟩ := q.vz.put hi x ho (fun g hg => ⟨hap g hg, fun e => by cases e⟩)
 refine ⟨g, hg, hc, hf, ⟨?_, ?_, hv, fun k g' hg' hn => ?_, q.mge, q.lge⟩, LgW.of_wr hw (fun j e => by rw [e]; exact ⟨hB, lk_kind hk (by simp)⟩)⟩
 ·exact (hw.block lb (blk_lt q.box) (fun e => own_box q.vz.so.row q.box (by decide) (by rw [hg, e]; rfl))).trans q.box
 ·exact q.his.wr hw (q.his.map.ne hk) (fun j e => by rw [e]; exact noV_kind hk (by decide))
 ·rcases nbl_set hn with hn | hn
  ·exact q.far k g' hg' hn
  ·exact hah k g' hg' hn
theorem LgAt.next {w : World} {B lb m N : Nat} {h : ByteArray → Value} {f s : Sl} {hs : List SeH} {d : VsD} (q : LgAt w B lb m N h f s hs d) (n : Int) : LgAt (w.setCell ⟨lb, 0, none⟩ (.int .i64 n)) B lb m N h f s hs ⟨n, d.list, d.fen, d.ses⟩ ∧ LgW B w (w.setCell ⟨lb, 0, none⟩ (.int .i64 n)) := by
 have hw := set1_wr w lb 0 (.int .i64 n)
 have hv := q.vz.box q.box (by decide) (by decide) (by decide) hw
 exact ⟨⟨heap_set q.box 0 _, q.his.wr hw (q.his.map.ne q.box) (fun j e => by rw [e]; exact noV_kind q.box (by decide)), ⟨hv.vo, hv.fo, hv.so, hv.ss, hv.far⟩, q.far, q.mge, q.lge⟩, LgW.of_wr hw (fun j e => by rw [e]; exact ⟨q.lge, lk_kind q.box (by simp)⟩)⟩
theorem LgAt.grown {w w' : World} {B lb m N : Nat} {h : ByteArray → Value} {f s : Sl} {hs : List SeH} {d : VsD} (q : LgAt w B lb m N h f s hs d) (hg : w.grownBy w' (Value.slice f.a f.n f.c).ownBlock) :
  w'.heap[lb]? = some (.cells #[.int .i64 d.next, .map (some m), .slice f.a f.n f.c, .slice s.a s.n s.c] 116 (0, 0)) ∧ HisAt w' m N (m + 1) h d.list ∧ SeOwn w' B (.slice s.a s.n s.c) hs ∧ LgW B w w' := by
 have hw := grown_wr hg
 have kd : ∀ i, (Value.slice f.a f.n f.c).ownBlock = some i → ∃ cur, w.heap[i]? = some (.cells cur 85 (0, 0)) := fun i e => own_kind q.vz.fo e
 refine ⟨(hw.block lb (blk_lt q.box) (own_box q.vz.fo q.box (by decide))).trans q.box, q.his.wr hw (fun e => by obtain ⟨cur, hc⟩ := kd _ e; exact q.his.map.ne hc rfl) (fun i e => by obtain ⟨cur, hc⟩ := kd _ e; exact noV_kind hc (by decide)), q.vz.so.keep hw (fun i hi e => by obtain ⟨cur, hc⟩ := kd _ e; exact se_far q.vz.so hc (by decide) (by decide) hi), LgW.of_wr hw (fun i e => by obtain ⟨cur, hc⟩ := kd _ e; exact ⟨(q.vz.fo.lt i e).1, lk_kind hc (by simp)⟩)⟩
def nilS : Sl := ⟨none, 0, 0⟩
theorem LgAt.put0 {w : World} {B lb m N : Nat} {h : ByteArray → Value} {f s : Sl} {hs : List SeH} {d : VsD} (q : LgAt w B lb m N h f s hs d) {i : Nat} (hi : i < hs.length) (o : Bool) (t : Int) :
  ∃ g, s.a = some ⟨g, 0, none⟩ ∧ (w.cell? ⟨g, i * 3, none⟩ = some (.bool hs[i].X.o) ∧ w.cell? ⟨g, i * 3 + 1, none⟩ = some (.int .i64 hs[i].X.t) ∧ w.cell? ⟨g, i * 3 + 2, none⟩ = some (.slice hs[i].s0.a hs[i].s0.n hs[i].s0.c)) ∧ (∀ j, w.frozen? ⟨g, j, none⟩ = false) ∧ LgAt (st3 w g i ⟨⟨o, t, []⟩, nilS⟩) B lb m N h f s (hs.set i ⟨⟨o, t, []⟩, nilS⟩) ⟨d.next, d.list, d.fen, d.ses.set i ⟨o, t, []⟩⟩ ∧ LgW B w (st3 w g i ⟨⟨o, t, []⟩, nilS⟩) :=
 q.put hi ⟨⟨o, t, []⟩, nilS⟩ (World.ownsRow_nil _ _ _ _) (fun g hg => by cases hg) (fun k g _ hg => by cases hg)
set_option maxHeartbeats 1000000 in
theorem close_any (lb B m N g i : Nat) (h : ByteArray → Value) (f s : Sl) (hs : List SeH) (d : VsD) (w : World) (q : LgAt w B lb m N h f s hs d) (hg : s.a = some ⟨g, 0, none⟩) (hi : i < hs.length) :
  Calls Tryz.prog 108 #[.pointer (some ⟨g, i * 3, none⟩)] w fun e w' => e = .returned (.tuple #[]) ∧ LgAt w' B lb m N h f s (hs.set i ⟨clS, nilS⟩) ⟨d.next, d.list, d.fen, d.ses.set i clS⟩ ∧ LgW B w w' := by
 obtain ⟨g', hg', ⟨c0, c1, c2⟩, fz, q2, lw⟩ := q.put0 hi false 0
 rw [hg] at hg'
 injection hg' with hg'
 injection hg' with hg' _ _
 subst hg'
 have f0 := fz (i * 3)
 have f1 := fz (i * 3 + 1)
 have f2 := fz (i * 3 + 2)
 have RES := hide (And.intro q2 lw)
 unfold st3 nilS at RES
 simp only at RES
 clear q q2 lw fz hg
 generalize hs[i] = x at *
 go_enter Tryz.func108, Tryz.ntmps108
 go_wp2_with fail
 go_end0
 exact ⟨rfl, (unhide RES).1, (unhide RES).2⟩
def LaRes (B lb m N : Nat) (s : Sl) (p : VsD × RepD) (w : World) (e : Ending) (w' : World) : Prop := ∃ (N' : Nat) (h : ByteArray → Value) (f : Sl) (hs : List SeH) (r : Sl), e = .returned (.agg #[.int .i64 p.2.code, .int .i64 p.2.time, .string p.2.val, .slice r.a r.n r.c]) ∧ LgAt w' B lb m N' h f s hs p.1 ∧ EOwns w' w.heap.size (.slice r.a r.n r.c) p.2.list ∧ LgW B w w' ∧ N' ≤ N + 8
theorem LgAt.fresh {w : World} {B lb m N : Nat} {h : ByteArray → Value} {f s : Sl} {hs : List SeH} {d : VsD} (q : LgAt w B lb m N h f s hs d) (cs : Array Value) (t : TypeId) : LgAt (w.alloc (.cells cs t)) B lb m N h f s hs d ∧ LgW B w (w.alloc (.cells cs t)) :=
 have b : Below w.heap.size w (w.alloc (.cells cs t)) := (Below.refl _ _).alloc (Nat.le_refl _) _
 ⟨q.below b, LgW.of_below b⟩
theorem LgW.sv {B rb : Nat} {w u : World} (h : LgW B w u) (hr : w.heap.size ≤ rb) (v0 v1 v2 v3 : Value) : LgW B w (sv4 u rb v0 v1 v2 v3) := by
 have k := sv4_wr u rb v0 v1 v2 v3
 exact ⟨k.os.trans h.os, k.tape.trans h.tape, k.output.trans h.output, Nat.le_trans h.size k.size, fun i hi hp => (k.block i (Nat.lt_of_lt_of_le hi h.size) (by omega)).trans (h.block i hi hp)⟩
abbrev zRep : Array Value := #[.int .i64 0, .int .i64 0, .string ⟨#[]⟩, .slice none 0 0]
theorem rep_box {w : World} {b : Nat} {cs : Array Value} (h : w.heap[b]? = some (.cells cs 40 (0, 0))) : ¬ LK w b := by
 rintro (⟨es, c, e⟩ | ⟨cs', t', fr, e, ht⟩)
 ·rw [h] at e; cases e
 ·rw [h] at e
  injection e with e
  injection e with _ e _
  subst e
  rcases ht with e | e | e | e <;> exact absurd e (by decide)
theorem LgAt.rep {w : World} {B lb m N rb : Nat} {h : ByteArray → Value} {f s : Sl} {hs : List SeH} {d : VsD} {cs : Array Value} (q : LgAt w B lb m N h f s hs d) (hb : w.heap[rb]? = some (.cells cs 40 (0, 0))) (v0 v1 v2 v3 : Value) : LgAt (sv4 w rb v0 v1 v2 v3) B lb m N h f s hs d := q.wr (sv4_wr w rb v0 v1 v2 v3) (fun i e => by rw [e]; exact rep_box hb)
set_option maxHeartbeats 4000000 in
theorem begin_any (lb B m N g i : Nat) (h : ByteArray → Value) (f s : Sl) (hs : List SeH) (d : VsD) (w : World) (q : LgAt w B lb m N h f s hs d) (hg : s.a = some ⟨g, 0, none⟩) (hi : i < hs.length) (hnx : 0 ≤ d.next ∧ d.next ≤ 1000) :
  Calls Tryz.prog 71 #[.pointer (some ⟨lb, 0, none⟩), .pointer (some ⟨g, i * 3, none⟩)] w (LaRes B lb m N s (if hs[i].X.o = true then (d, repV 8 0) else if d.next = 1000 then (d, repV 7 0) else (⟨d.next + 1, d.list, d.fen, d.ses.set i ⟨true, d.next, []⟩⟩, repV 0 d.next)) w) := by
 obtain ⟨W, hW⟩ : ∃ W, W = w.alloc (.cells zRep 40) := ⟨_, rfl⟩
 have bW : Below w.heap.size w W := by rw [hW]; exact (Below.refl _ _).alloc (Nat.le_refl _) _
 have kW : W.heap[w.heap.size]? = some (.cells zRep 40 (0, 0)) := by rw [hW]; exact heap_alloc_new _ _
 have qW := q.below bW
 obtain ⟨g', hg', ⟨c0, c1, c2⟩, fz, q2, lw⟩ := qW.put0 hi true d.next
 rw [hg] at hg'
 injection hg' with hg'
 injection hg' with hg' _ _
 subst hg'
 have l0 := (heap_at qW.box 0).1
 simp only [List.getElem?_toArray, List.getElem?_cons_zero] at l0
 have y0 := (heap_at kW 0).1
 have y1 := (heap_at kW 1).1
 have y2 := (heap_at kW 2).1
 have y3 := (heap_at kW 3).1
 have yf0 := (heap_at kW 0).2
 have yf1 := (heap_at kW 1).2
 have yf2 := (heap_at kW 2).2
 have yf3 := (heap_at kW 3).2
 have LW0 := hide (LgW.of_below (B := B) bW)
 have ENIL := hide (show ∀ u C, EOwns u C (.slice none 0 0) [] from fun u C => World.ownsRow_nil _ _ _ _)
 have OLD := hide (fun c : Int => q.fresh #[.int .i64 c, .int .i64 0, .string ⟨#[]⟩, .slice none 0 0] 40)
 have HG := hide hg
 clear q bW hg
 cases ho : hs[i].X.o with
 | true =>
  rw [if_pos rfl]
  rw [ho] at c0
  have RES := hide (unhide OLD 8)
  rw [hW] at c0 y0 y1 y2 y3 yf0 yf1 yf2 yf3
  clear q2 lw OLD kW qW LW0 l0 hW fz c1 c2 ho
  go_enter Tryz.func71, Tryz.ntmps71
  go_wp2_with fail
  refine bodyPost_ret (v := .agg #[.int .i64 8, .int .i64 0, .string ⟨#[]⟩, .slice none 0 0]) (by simp [results, Tryz.results71, go_sem, *]) rfl ?_
  exact ⟨N, h, f, hs, nilS, rfl, (unhide RES).1, unhide ENIL _ _, (unhide RES).2, by omega⟩
 | false =>
  rw [if_neg (by decide)]
  rw [ho] at c0
  by_cases h1000 : d.next = 1000
  ·rw [if_pos h1000]
   have RES := hide (unhide OLD 7)
   rw [h1000] at l0
   rw [hW] at c0 l0 y0 y1 y2 y3 yf0 yf1 yf2 yf3
   clear q2 lw OLD kW qW LW0 hW fz c1 c2 ho h1000 hnx
   go_enter Tryz.func71, Tryz.ntmps71
   go_wp2_with fail
   refine bodyPost_ret (v := .agg #[.int .i64 7, .int .i64 0, .string ⟨#[]⟩, .slice none 0 0]) (by simp [results, Tryz.results71, go_sem, *]) rfl ?_
   exact ⟨N, h, f, hs, nilS, rfl, (unhide RES).1, unhide ENIL _ _, (unhide RES).2, by omega⟩
  ·rw [if_neg h1000]
   obtain ⟨W1, hW1⟩ : ∃ W1, W1 = st3 W g i ⟨⟨true, d.next, []⟩, nilS⟩ := ⟨_, rfl⟩
   rw [← hW1] at q2 lw
   have k1 := lw.box kW ⟨by decide, by decide, by decide, by decide⟩
   have m0 := (heap_at q2.box 0).1
   have mf0 := (heap_at q2.box 0).2
   simp only [List.getElem?_toArray, List.getElem?_cons_zero] at m0
   obtain ⟨q3, lw3⟩ := q2.next (d.next + 1)
   obtain ⟨W2, hW2⟩ : ∃ W2, W2 = W1.setCell ⟨lb, 0, none⟩ (.int .i64 (d.next + 1)) := ⟨_, rfl⟩
   rw [← hW2] at q3 lw3
   have k2 := lw3.box k1 ⟨by decide, by decide, by decide, by decide⟩
   obtain ⟨g2, hg2, -, -, -, t1, -⟩ := q3.vz.sesAt (show i < (hs.set i ⟨⟨true, d.next, []⟩, nilS⟩).length by rw [List.length_set]; exact hi)
   rw [unhide HG] at hg2
   injection hg2 with hg2
   injection hg2 with hg2 _ _
   subst hg2
   simp only [List.getElem_set_self] at t1
   have RES := hide (show LgAt (sv4 W2 w.heap.size (.int .i64 0) (.int .i64 d.next) (.string ⟨#[]⟩) (.slice none 0 0)) B lb m N h f s (hs.set i ⟨⟨true, d.next, []⟩, nilS⟩) ⟨d.next + 1, d.list, d.fen, d.ses.set i ⟨true, d.next, []⟩⟩ ∧ LgW B w (sv4 W2 w.heap.size (.int .i64 0) (.int .i64 d.next) (.string ⟨#[]⟩) (.slice none 0 0)) from ⟨q3.rep k2 _ _ _ _, ((unhide LW0).trans (lw.trans lw3)).sv (Nat.le_refl _) _ _ _ _⟩)
   have KE := hide (sv4_heap k2 (.int .i64 0) (.int .i64 d.next) (.string ⟨#[]⟩) (.slice none 0 0))
   have z0 := (heap_at k2 0).1
   have z1 := (heap_at k2 1).1
   have z2 := (heap_at k2 2).1
   have z3 := (heap_at k2 3).1
   have zf0 := (heap_at k2 0).2
   have zf1 := (heap_at k2 1).2
   have zf2 := (heap_at k2 2).2
   have zf3 := (heap_at k2 3).2
   have f0 := fz (i * 3)
   have f1 := fz (i * 3 + 1)
   have f2 := fz (i * 3 + 2)
   have hwn : IntKind.i64.wrap (d.next + 1) = d.next + 1 := by rw [IntKind.wrap_i64]; omega
   have hneq : (d.next == 1000) = false := by simpa using h1000
   unfold sv4 at RES KE
   unfold st3 nilS at hW1
   simp only at hW1
   rw [hW2, hW1] at t1 z0 z1 z2 z3 zf0 zf1 zf2 zf3
   rw [hW1] at m0 mf0 hW2
   rw [hW] at c0 c1 c2 f0 f1 f2 l0 t1 z0 z1 z2 z3 zf0 zf1 zf2 zf3 m0 mf0 hW2
   clear q2 lw OLD kW qW LW0 fz ho h1000 k1 q3 lw3 k2 HG y0 y1 y2 y3 yf0 yf1 yf2 yf3 hW1 hW
   generalize hs[i] = x at *
   generalize d.next = nx at *
   go_enter Tryz.func71, Tryz.ntmps71
   go_wp2_with fail
   rw [← hW2]
   have KE' := unhide KE
   have x0 := (heap_at KE' 0).1
   have x1 := (heap_at KE' 1).1
   have x2 := (heap_at KE' 2).1
   have x3 := (heap_at KE' 3).1
   refine bodyPost_ret (v := .agg #[.int .i64 0, .int .i64 nx, .string ⟨#[]⟩, .slice none 0 0]) (by simp [results, Tryz.results71, go_sem, *]) rfl ?_
   exact ⟨N, h, f, _, nilS, rfl, (unhide RES).1, unhide ENIL _ _, (unhide RES).2, by omega⟩
set_option maxHeartbeats 4000000 in
theorem note_any (lb B m N : Nat) (h : ByteArray → Value) (f s : Sl) (hs : List SeH) (d : VsD) (x : FenD) (w : World) (q : LgAt w B lb m N h f s hs d) (hf : d.fen.length < 4096) (hB : B ≤ w.heap.size) :
  Calls Tryz.prog 121 #[.pointer (some ⟨lb, 0, none⟩), fv x] w fun e w' => e = .returned (.bool true) ∧ (∃ f', LgAt w' B lb m N h f' s hs ⟨d.next, d.list, d.fen ++ [x], d.ses⟩) ∧ LgW B w w' := by
 obtain ⟨W, hW⟩ : ∃ W, W = w.alloc (.cells #[.string x.f, .string x.u, .int .i64 x.t] 85) := ⟨_, rfl⟩
 have bW : Below w.heap.size w W := by rw [hW]; exact (Below.refl _ _).alloc (Nat.le_refl _) _
 have kW : W.heap[w.heap.size]? = some (.cells #[.string x.f, .string x.u, .int .i64 x.t] 85 (0, 0)) := by rw [hW]; exact heap_alloc_new _ _
 have qW := q.below bW
 have qD : LgAt W.drew B lb m N h f s hs d := qW.below (Below.refl _ _).drew
 have hsz : B ≤ W.drew.heap.size := Nat.le_trans hB bW.size
 have bA : Below W.drew.heap.size W.drew (W.drew.alloc (.cells #[.string x.f, .string x.u, .int .i64 x.t] 85)) := (Below.refl _ _).alloc (Nat.le_refl _) _
 have qA := qD.below bA
 obtain ⟨f', w1, hrun, ho1, hg1⟩ := f_app1 x qD.vz.fo (by show d.fen.length ≤ 1000000; omega) hsz
 have hg1' : (W.drew.alloc (.cells #[.string x.f, .string x.u, .int .i64 x.t] 85)).grownBy w1 (Value.slice f.a f.n f.c).ownBlock := hg1
 obtain ⟨bx, hh, so, lw⟩ := qA.grown hg1'
 have q1 : LgAt w1 B lb m N h f s hs d ∨ True := .inr trivial
 have l2 := (heap_at qW.box 2).1
 have l2A := (heap_at (qW.fresh #[.string x.f, .string x.u, .int .i64 x.t] 85).1.box 2).1
 have m2 := (heap_at bx 2).1
 have mf2 := (heap_at bx 2).2
 simp only [List.getElem?_toArray, List.getElem?_cons_zero, List.getElem?_cons_succ] at l2 l2A m2
 have e0 := (heap_at kW 0).1
 have e1 := (heap_at kW 1).1
 have e2 := (heap_at kW 2).1
 have hw2 := set1_wr w1 lb 2 (.slice f'.a f'.n f'.c)
 have sS : NOwn (w1.setCell ⟨lb, 2, none⟩ (.slice f'.a f'.n f'.c)) B 55 3 (.slice s.a s.n s.c) hs.length (hs.map seEl) := so.keep hw2 (fun i hi e => by rw [e] at hi; exact se_far so bx (by decide) (by decide) hi)
 have RES := hide (show LgAt (w1.setCell ⟨lb, 2, none⟩ (.slice f'.a f'.n f'.c)) B lb m N h f' s hs ⟨d.next, d.list, d.fen ++ [x], d.ses⟩ from ⟨heap_set bx 2 _, hh.wr hw2 (hh.map.ne bx) (fun i e => by rw [e]; exact noV_kind bx (by decide)), ⟨World.ownsRow_nil _ _ _ _, own_keep ho1 bx (by decide) hw2, sS, q.vz.ss, fun i hi => by cases hi⟩, q.far, q.mge, q.lge⟩)
 have LW := hide (show LgW B w (w1.setCell ⟨lb, 2, none⟩ (.slice f'.a f'.n f'.c)) from (LgW.of_below bW).trans ((LgW.of_below (show Below W.heap.size W (W.drew.alloc _) from (Below.refl _ _).drew.trans bA)).trans (lw.trans (LgW.of_wr hw2 (fun i e => by rw [e]; exact ⟨q.lge, lk_kind bx (by simp)⟩)))))
 have hfl : f.n ≠ 4096 := by have := q.len.2.2; omega
 have hfb : ((f.n : Int) == 4096) = false := by rw [beq_eq_false_iff_ne]; omega
 obtain ⟨fa, fn, fc⟩ := f
 obtain ⟨fa', fn', fc'⟩ := f'
 unfold fv
 simp only at l2 l2A m2 hrun RES LW hfl hfb
 clear q qW qD bW bA qA ho1 hg1 hg1' bx hh so lw q1 hw2 sS kW hsz hB hf
 have l2w := l2
 rw [hW] at l2w
 go_enter Tryz.func121, Tryz.ntmps121
 go_upto_region 3 with fail
 rw [← hW]
 clear hW l2w
 refine wp_region_held_drew (S := (fun _ => True)) (by kernel_rfl) (trivial) (fun hHeld => ?_)
 refine tk 0 11 rfl rfl hHeld ?_
 simp only [Act.put, lA, lB, lC]
 refine tk 1 12 rfl rfl hHeld ?_
 simp only [Act.put, lA, lB, lC]
 refine tk 2 13 rfl rfl hHeld ?_
 simp only [Act.put, lA, lB, lC]
 refine tk 3 14 rfl rfl hHeld ?_
 simp only [Act.put, lA, lB, lC]
 refine wpAnyH_ready (rs := [4, 5]) (by kernel_rfl) (by simp) ?_
 refine AllReadyH.cons rfl (fun K hK => ?_) (AllReadyH.cons rfl (fun K hK => ?_) AllReadyH.nil)
 ·have cL := l2
  go_simp
  refine hK.out _ _ (trivial) (fun hHeld => ?_)
  clear hK K
  (try simp only [Act.put, lA, lB, lC])
  refine rd [5] (.cons rfl (fun K hK => ?_) .nil)
  go_simp
  refine hK.out _ _ (trivial) (fun hHeld => ?_)
  clear hK K
  (try simp only [Act.put, lA, lB, lC])
  refine rd [6] (.cons rfl (fun K hK => ?_) .nil)
  go_simp
  refine hK.out _ _ (trivial) (fun hHeld => ?_)
  clear hK K
  (try simp only [Act.put, lA, lB, lC])
  refine rd [7] (.cons rfl (fun K hK => ?_) .nil)
  refine us_stepApp rfl (.tmp 15) (.tmp 17) 26 rfl _ _ _ w1 (by first | rfl | (simp [Act.eval]; done) | (simp [Act.eval, Act.put]; done)) (by first | rfl | (simp [Act.eval]; done) | (simp [Act.eval, Act.put]; done)) hrun ?_
  refine hK.out _ _ (trivial) (fun hHeld => ?_)
  clear hK K
  (try simp only [Act.put, lA])
  refine tk 8 19 rfl rfl hHeld ?_
  simp only [Act.put]
  refine tk 9 20 rfl rfl hHeld ?_
  simp only [Act.put]
  refine rd [10] (.cons rfl (fun K hK => ?_) .nil)
  go_simp
  refine hK.out _ _ (trivial) (fun hHeld => ?_)
  clear hK K
  (try simp only [Act.put, lA, lB, lC])
  refine wpAnyH_done (by kernel_rfl) ?_ _
  go_wp2_with fail
  go_ret
  exact ⟨rfl, ⟨_, unhide RES⟩, unhide LW⟩
 ·go_simp
  refine hK.out _ _ (trivial) (fun hHeld => ?_)
  clear hK K
  (try simp only [Act.put, lA, lB, lC])
  refine wpAnyH_ready (rs := [4, 6]) (by kernel_rfl) (by simp) ?_
  refine AllReadyH.cons rfl (fun K hK => ?_) (AllReadyH.cons rfl (fun K hK => ?_) AllReadyH.nil)
  ·have cL := l2
   go_simp
   refine hK.out _ _ (trivial) (fun hHeld => ?_)
   clear hK K
   (try simp only [Act.put, lA, lB, lC])
   refine rd [6] (.cons rfl (fun K hK => ?_) .nil)
   go_simp
   refine hK.out _ _ (trivial) (fun hHeld => ?_)
   clear hK K
   (try simp only [Act.put, lA, lB, lC])
   refine rd [7] (.cons rfl (fun K hK => ?_) .nil)
   refine us_stepApp rfl (.tmp 15) (.tmp 17) 26 rfl _ _ _ w1 (by first | rfl | (simp [Act.eval]; done) | (simp [Act.eval, Act.put]; done)) (by first | rfl | (simp [Act.eval]; done) | (simp [Act.eval, Act.put]; done)) hrun ?_
   refine hK.out _ _ (trivial) (fun hHeld => ?_)
   clear hK K
   (try simp only [Act.put, lA])
   refine tk 8 19 rfl rfl hHeld ?_
   simp only [Act.put]
   refine tk 9 20 rfl rfl hHeld ?_
   simp only [Act.put]
   refine rd [10] (.cons rfl (fun K hK => ?_) .nil)
   go_simp
   refine hK.out _ _ (trivial) (fun hHeld => ?_)
   clear hK K
   (try simp only [Act.put, lA, lB, lC])
   refine wpAnyH_done (by kernel_rfl) ?_ _
   go_wp2_with fail
   go_ret
   exact ⟨rfl, ⟨_, unhide RES⟩, unhide LW⟩
  ·go_simp
   refine hK.out _ _ (trivial) (fun hHeld => ?_)
   clear hK K
   (try simp only [Act.put, lA, lB, lC])
   refine rd [4] (.cons rfl (fun K hK => ?_) .nil)
   have cL := l2A
   go_simp
   refine hK.out _ _ (trivial) (fun hHeld => ?_)
   clear hK K
   (try simp only [Act.put, lA, lB, lC])
   refine rd [7] (.cons rfl (fun K hK => ?_) .nil)
   refine us_stepApp rfl (.tmp 15) (.tmp 17) 26 rfl _ _ _ w1 (by first | rfl | (simp [Act.eval]; done) | (simp [Act.eval, Act.put]; done)) (by first | rfl | (simp [Act.eval]; done) | (simp [Act.eval, Act.put]; done)) hrun ?_
   refine hK.out _ _ (trivial) (fun hHeld => ?_)
   clear hK K
   (try simp only [Act.put, lA])
   refine tk 8 19 rfl rfl hHeld ?_
   simp only [Act.put]
   refine tk 9 20 rfl rfl hHeld ?_
   simp only [Act.put]
   refine rd [10] (.cons rfl (fun K hK => ?_) .nil)
   go_simp
   refine hK.out _ _ (trivial) (fun hHeld => ?_)
   clear hK K
   (try simp only [Act.put, lA, lB, lC])
   refine wpAnyH_done (by kernel_rfl) ?_ _
   go_wp2_with fail
   go_ret
   exact ⟨rfl, ⟨_, unhide RES⟩, unhide LW⟩
end Go.Proofs.YtdnjgbckkmbmfaaGreat

namespace Go.Proofs.YtdnjgbckkmbmfaaGreat
open Go.RowKit

theorem vcs_takeN : ∀ (es : List VerD) (n : Nat), vcs (es.take n) = (vcs es).take (n * 4)
 | [], n => by simp [vcs]
 | e :: r, 0 => by simp [vcs]
 | e :: r, n + 1 => by
  rw [List.take_succ_cons, show (n + 1) * 4 = n * 4 + 1 + 1 + 1 + 1 by omega]
  simp only [vcs, List.take_succ_cons, vcs_takeN r n]
theorem vcs_dropN : ∀ (es : List VerD) (n : Nat), vcs (es.drop n) = (vcs es).drop (n * 4)
 | [], n => by simp [vcs]
 | e :: r, 0 => by simp [vcs]
 | e :: r, n + 1 => by
  rw [List.drop_succ_cons, show (n + 1) * 4 = n * 4 + 1 + 1 + 1 + 1 by omega]
  simp only [vcs, List.drop_succ_cons, vcs_dropN r n]
def LocV (w : World) (v : Value) (r : Option Nat) : Prop := v.ownBlock = r ∨ ∃ b, w.heap.size ≤ b ∧ v.ownBlock = some b
theorem run_copy_rowV (w : World) (ty : TypeId) (g o dLen dCap : Nat) (a : Addr) (sLen sCap : Nat) (cur : Array Value) (cs : List Value)
  (hg : w.heap[g]? = some (.cells cur 43 (0, 0))) (hn : cs.length = Nat.min sLen dLen * 4)
  (hsrc : ∀ j v, cs[j]? = some v → w.cell? (a.add j) = some v) (hfit : o + cs.length ≤ cur.size) (h1 : ∀ v ∈ cs, v.oneCell' = true) :
  (Builtin.copy_ #[25, 25] ty #[.slice (some ⟨g, o, none⟩) dLen dCap, .slice (some a) sLen sCap]).run Tryz.prog w =
   .ok (goInt (Nat.min sLen dLen)) (w.setRow g (cur.toList.take o ++ cs ++ cur.toList.drop (o + cs.length)).toArray) := by
 have hl := run_loadCells_list (P := Tryz.prog) w a cs hsrc
 have hst := run_storeCells_at Tryz.prog g o 43 cs 0 cur w hg (by simpa using hfit) h1
 obtain ⟨i, hq, _, hi, _⟩ := info_parts Tryz.infoVersion
 simp [Builtin.copy_, run_underlying Tryz.underlying25, Builtin.lenOf, Builtin.firstCells, sizeOf, typeInfo, hq, hi, ← hn, hl, hst]
set_option maxHeartbeats 4000000 in
theorem insV_end (B : Nat) (a : Option Addr) (c : Nat) (es : List VerD) (e : VerD) (vb : Nat) (w : World) (hown : VOwns w B (.slice a es.length c) es) (hlen : es.length ≤ 1000) (hB : B ≤ w.heap.size)
  (hv : w.heap[vb]? = some (.cells #[.string e.k, .int .i64 e.t, .string e.v, .bool e.g] 43 (0, 0))) :
  Calls Tryz.prog 142 #[.slice a es.length c, .int .i64 (es.length : Int), .slice (some ⟨vb, 0, none⟩) 1 1] w fun x w' => ∃ v', x = .returned v' ∧ VOwns w' B v' (es ++ [e]) ∧ v' ≠ .slice none 0 0 ∧ w.grownBy w' (Value.slice a es.length c).ownBlock ∧ LocV w v' (Value.slice a es.length c).ownBlock := by
 obtain ⟨i0, hi0, hz0, hz1, hz2⟩ := info_parts Tryz.infoVersion
 have hvs : ∀ j u, [Value.string e.k, Value.int .i64 e.t, Value.string e.v, Value.bool e.g][j]? = some u → w.cell? ((⟨vb, 0, none⟩ : Addr).add j) = some u := fun j u hj => by
  match j, hj with
  | 0, hj => simp at hj; subst hj; simp [Addr.add, World.cell?, hv]
  | 1, hj => simp at hj; subst hj; simp [Addr.add, World.cell?, hv]
  | 2, hj => simp at hj; subst hj; simp [Addr.add, World.cell?, hv]
  | 3, hj => simp at hj; subst hj; simp [Addr.add, World.cell?, hv]
 have hcap : es.length ≤ c := by
  rcases hown.2 with ⟨e, hn⟩ | ⟨g, cap, cur, e, _, _, h1, _⟩
  ·omega
  ·injection e with _ _ e3; omega
 obtain ⟨v', w', hrun, ho', hg, hnn, hloc⟩ := app_at (P := Tryz.prog) (w := w) (B := B) 25 25 43 Tryz.underlying25 hi0 hz0 hz1 hz2 rfl (by decide) hown ⟨vb, 0, none⟩ 1 1 [.string e.k, .int .i64 e.t, .string e.v, .bool e.g] rfl hvs (by intro u hu; simp at hu; rcases hu with rfl | rfl | rfl | rfl <;> rfl) (by unfold maxLen; omega) (by omega) hB (fun _ => by omega)
 have RES := hide (show VOwns w' B v' (es ++ [e]) ∧ v' ≠ .slice none 0 0 ∧ w.grownBy w' (Value.slice a es.length c).ownBlock ∧ LocV w v' (Value.slice a es.length c).ownBlock from ⟨by
  have h := ho'
  rw [← show vcs [e] = [.string e.k, .int .i64 e.t, .string e.v, .bool e.g] from rfl, ← vcs_append] at h
  unfold VOwns
  rw [List.length_append]
  exact h, hnn, hg, by
  rcases hloc with h | h
  ·exact .inl h
  ·exact .inr ⟨_, Nat.le_refl _, h⟩⟩)
 clear hown hvs hv ho' hg hnn hloc hi0 hz0 hz1 hz2
 go_enter Tryz.func142, Tryz.ntmps142
 go_wp2_with (at_builtin; refine wpAppE rfl _ _ 25 rfl _ _ v' w' rfl rfl hrun ?_)
 all_goals
  go_ret
  exact ⟨v', rfl, by have h := unhide RES; cases a <;> exact h⟩
theorem vIform {w : World} {B n c : Nat} {a : Option Addr} {es : List VerD} (h : VOwns w B (.slice a n c) es) (h0 : 0 < es.length) : ∃ g cur, a = some ⟨g, 0, none⟩ ∧ n = es.length ∧ B ≤ g ∧ w.heap[g]? = some (.cells cur 43 (0, 0)) ∧ n ≤ c ∧ c ≤ maxLen ∧ cur.size = c * 4 ∧ cur.toList.take (n * 4) = vcs es := by
 rcases h.2 with ⟨e, hn⟩ | ⟨g, cap, cur, e, hb, hh, h1, h2, h3, h4⟩
 ·omega
 ·injection e with e1 e2 e3
  subst e1 e2 e3
  exact ⟨g, cur, rfl, rfl, hb, hh, h1, h2, h3, h4⟩
theorem vIback {w : World} {B g c n : Nat} {es : List VerD} {cur : Array Value} (hb : B ≤ g) (hh : w.heap[g]? = some (.cells cur 43 (0, 0))) (hn : n = es.length) (h1 : n ≤ c) (h2 : c ≤ maxLen) (h3 : cur.size = c * 4) (h4 : cur.toList.take (n * 4) = vcs es) : VOwns w B (.slice (some ⟨g, 0, none⟩) n c) es := by
 subst hn
 exact ⟨vcs_len es, .inr ⟨g, c, cur, rfl, hb, hh, h1, h2, h3, h4⟩⟩
theorem shift_list4 {cur E : List Value} {p q : Nat} (x y z u : Value) (hE : cur.take q = E) (hq : E.length = q) (hp : p ≤ q) (hl : q + 4 ≤ cur.length) :
  (cur.take (p + 4) ++ E.drop p ++ cur.drop (p + 4 + (E.drop p).length)).length = cur.length ∧
  (((cur.take (p + 4) ++ E.drop p ++ cur.drop (p + 4 + (E.drop p).length)).take p ++ [x, y, z, u] ++ (cur.take (p + 4) ++ E.drop p ++ cur.drop (p + 4 + (E.drop p).length)).drop (p + 4)).length = cur.length) ∧
  ((cur.take (p + 4) ++ E.drop p ++ cur.drop (p + 4 + (E.drop p).length)).take p ++ [x, y, z, u] ++ (cur.take (p + 4) ++ E.drop p ++ cur.drop (p + 4 + (E.drop p).length)).drop (p + 4)).take (q + 4) = E.take p ++ x :: y :: z :: u :: E.drop p := by
 have l1 : (cur.take (p + 4)).length = p + 4 := by rw [List.length_take]; omega
 have l2 : (E.drop p).length = q - p := by rw [List.length_drop, hq]
 have t1 : (cur.take (p + 4) ++ E.drop p ++ cur.drop (p + 4 + (E.drop p).length)).take p = E.take p := by
  rw [List.append_assoc, List.take_append_of_le_length (by omega), List.take_take, ← hE, List.take_take]
  congr 1
  omega
 have t2 : (cur.take (p + 4) ++ E.drop p ++ cur.drop (p + 4 + (E.drop p).length)).drop (p + 4) = E.drop p ++ cur.drop (p + 4 + (E.drop p).length) := by
  rw [List.append_assoc, List.drop_append_of_le_length (by omega), List.drop_of_length_le (by omega), List.nil_append]
 have l3 : (cur.drop (p + 4 + (q - p))).length = cur.length - (q + 4) := by rw [List.length_drop]; omega
 have l4 : (E.take p).length = p := by rw [List.length_take]; omega
 refine ⟨?_, ?_, ?_⟩
 ·simp only [List.length_append, l1, l2, l3]; omega
 ·rw [t1, t2]
  simp only [List.length_append, l2, l3, l4, List.length_cons, List.length_nil]; omega
 ·rw [t1, t2, show E.take p ++ [x, y, z, u] ++ (E.drop p ++ cur.drop (p + 4 + (E.drop p).length)) = (E.take p ++ x :: y :: z :: u :: E.drop p) ++ cur.drop (p + 4 + (E.drop p).length) by simp]
  rw [List.take_append_of_le_length (by simp only [List.length_append, List.length_cons, l2, l4]; omega), List.take_of_length_le (by simp only [List.length_append, List.length_cons, l2, l4]; omega)]
set_option maxHeartbeats 4000000 in
theorem insV_room (B g c n i : Nat) (es : List VerD) (e : VerD) (vb : Nat) (cur : Array Value) (w : World) (hb : B ≤ g) (hh : w.heap[g]? = some (.cells cur 43 (0, 0))) (hn : n = es.length) (h1 : n + 1 ≤ c) (h2 : c ≤ maxLen) (h3 : cur.size = c * 4) (h4 : cur.toList.take (n * 4) = vcs es)
  (hi : i < n) (hlen : n ≤ 1000) (hv : w.heap[vb]? = some (.cells #[.string e.k, .int .i64 e.t, .string e.v, .bool e.g] 43 (0, 0))) (hne : vb ≠ g) :
  Calls Tryz.prog 142 #[.slice (some ⟨g, 0, none⟩) n c, .int .i64 (i : Int), .slice (some ⟨vb, 0, none⟩) 1 1] w fun x w' => ∃ v', x = .returned v' ∧ VOwns w' B v' (es.take i ++ e :: es.drop i) ∧ v' ≠ .slice none 0 0 ∧ w.grownBy w' (some g) ∧ LocV w v' (some g) := by
 have hel := vcs_len es
 have hc63 : c ≤ 9223372036854775807 := by unfold maxLen at h2; omega
 have hz1 : ¬ ((i : Int) = (n : Int)) := by omega
 have hov : ∀ lb cb, (callFunc 160 #[.slice (some ⟨vb, 0, none⟩) 1 1, .slice (some ⟨g, (i + 1) * 4, none⟩) lb cb]).run Tryz.prog w = .ok (.value (.bool false)) w := fun lb cb => by
  rw [run_callFunc_extern Tryz.func160 (by kernel_rfl) (by kernel_rfl) (by kernel_rfl) (e := Extern.SlicesOverlaps.overlaps #[25, 25] #[4]) (by kernel_rfl),
   Lib.run_overlaps_apart w 25 4 43 Tryz.underlying25 4 (fun w => by obtain ⟨i, hq, _, hi, _⟩ := info_parts Tryz.infoVersion; simp [sizeOf, typeInfo, hq, hi]) ⟨vb, 0, none⟩ ⟨g, (i + 1) * 4, none⟩ 1 1 lb cb hne 43 43 4 (c * 4) (by simp [World.shape?, hv]) (by simp [World.shape?, hh, h3]) (by omega) (by simp [World.frozen?, hv]) (by simp [World.frozen?, hv])]
  rfl
 have hE2 : cur.toList.take (n * 4) = vcs es := h4
 obtain ⟨sl1, sl2, sl3⟩ := shift_list4 (p := i * 4) (.string e.k) (.int .i64 e.t) (.string e.v) (.bool e.g) hE2 (by rw [vcs_len, hn]) (by omega) (by simp [h3]; omega)
 have hdl : (List.drop (i * 4) (vcs es)).length = (n - i) * 4 := by rw [List.length_drop, vcs_len, ← hn]; omega
 obtain ⟨R1, hR1⟩ : ∃ R1, R1 = cur.toList.take (i * 4 + 4) ++ (vcs es).drop (i * 4) ++ cur.toList.drop (i * 4 + 4 + ((vcs es).drop (i * 4)).length) := ⟨_, rfl⟩
 rw [← hR1] at sl1 sl2 sl3
 obtain ⟨R2, hR2⟩ : ∃ R2, R2 = R1.take (i * 4) ++ [Value.string e.k, Value.int .i64 e.t, Value.string e.v, Value.bool e.g] ++ R1.drop (i * 4 + 4) := ⟨_, rfl⟩
 rw [← hR2] at sl2 sl3
 obtain ⟨W1, hW1⟩ : ∃ W1, W1 = w.drew.setRow g R1.toArray := ⟨_, rfl⟩
 have hg1 : W1.heap[g]? = some (.cells R1.toArray 43 (0, 0)) := by rw [hW1]; exact setRow_heap w.drew g cur _ _ _ hh
 have hv1 : W1.heap[vb]? = some (.cells #[.string e.k, .int .i64 e.t, .string e.v, .bool e.g] 43 (0, 0)) := by rw [hW1, setRow_other _ _ _ _ hne]; exact hv
 have hcp1 : ∀ dc sc, (Builtin.copy_ #[25, 25] 3 #[.slice (some ⟨g, (i + 1) * 4, none⟩) (n + 1 - (i + 1)) dc, .slice (some ⟨g, i * 4, none⟩) (n + 1 - i) sc]).run Tryz.prog w.drew = .ok (goInt (Nat.min (n + 1 - i) (n + 1 - (i + 1)))) W1 := fun dc sc => by
  rw [hW1, hR1, run_copy_rowV w.drew 3 g ((i + 1) * 4) (n + 1 - (i + 1)) dc ⟨g, i * 4, none⟩ (n + 1 - i) sc cur ((vcs es).drop (i * 4)) hh (by rw [hdl]; show _ = min _ _ * 4; omega) (fun j u hj => by
   rw [Addr.add_lit]
   rw [List.getElem?_drop, ← hE2, List.getElem?_take] at hj
   split at hj
   ·show w.cell? _ = _
    simp only [World.cell?, hh]
    simpa using hj
   ·cases hj) (by rw [hdl, h3]; omega) (fun u hu => vcs_one es u (List.mem_of_mem_drop hu)), show (i + 1) * 4 = i * 4 + 4 by omega]
 have hcp2 : ∀ dc, (Builtin.copy_ #[25, 25] 3 #[.slice (some ⟨g, i * 4, none⟩) (n + 1 - i) dc, .slice (some ⟨vb, 0, none⟩) 1 1]).run Tryz.prog W1 = .ok (goInt (Nat.min 1 (n + 1 - i))) (W1.setRow g R2.toArray) := fun dc => by
  rw [run_copy_rowV W1 3 g (i * 4) (n + 1 - i) dc ⟨vb, 0, none⟩ 1 1 R1.toArray [.string e.k, .int .i64 e.t, .string e.v, .bool e.g] hg1 (by show 4 = min _ _ * 4; omega) (fun j u hj => by
   match j, hj with
   | 0, hj => simp at hj; subst hj; simp [Addr.add, World.cell?, hv1]
   | 1, hj => simp at hj; subst hj; simp [Addr.add, World.cell?, hv1]
   | 2, hj => simp at hj; subst hj; simp [Addr.add, World.cell?, hv1]
   | 3, hj => simp at hj; subst hj; simp [Addr.add, World.cell?, hv1]) (by simp [sl1, h3]; omega) (by intro u hu; simp at hu; rcases hu with rfl | rfl | rfl | rfl <;> rfl), hR2]
  rfl
 have hOW : VOwns (W1.setRow g R2.toArray) B (.slice (some ⟨g, 0, none⟩) (n + 1) c) (es.take i ++ e :: es.drop i) := by
  refine vIback hb (setRow_heap W1 g _ _ _ _ hg1) (by simp; omega) h1 h2 (by simp [sl2, h3]) ?_
  rw [vcs_append]
  simp only [vcs]
  rw [vcs_takeN, vcs_dropN]
  rw [← sl3, show (n + 1) * 4 = n * 4 + 4 by omega]
 have hGR : w.grownBy (W1.setRow g R2.toArray) (some g) := by
  refine grown_trans ?_ (grown_setRow W1 g _)
  rw [hW1]
  have := grown_setRow w.drew g R1.toArray
  exact ⟨this.os, this.tape, this.output, this.size, this.block⟩
 have HOW := hide hOW
 have HGR := hide hGR
 clear hOW hGR sl1 sl2 sl3 hR1 hR2 hW1 hg1 hv1 hdl hE2 h4 hv hh h3 hel
 have hw1 : IntKind.i64.wrap ((i : Int) + 1) = (i : Int) + 1 := by rw [IntKind.wrap_i64]; omega
 have hb1 : (0 : Int) ≤ (i : Int) + 1 := by omega
 have hin : i ≤ n := by omega
 have htn : ((i : Int) + 1).toNat = i + 1 := by omega
 have hb2 : ¬ (c = i + 1) := by omega
 have hb3 : (i : Int) ≤ (n : Int) + 1 := by omega
 have hb4 : ¬ (c = i) := by omega
 clear hn
 go_enter Tryz.func142, Tryz.ntmps142
 go_wp2_with (simp only [hov])
 go_region_law (refine stepCopyE rfl (.tmp 73) (.tmp 76) 25 rfl (.slice (some ⟨g, (i + 1) * 4, none⟩) (n + 1 - (i + 1)) (c - (i + 1))) (.slice (some ⟨g, i * 4, none⟩) (n + 1 - i) (c - i)) (goInt (Nat.min (n + 1 - i) (n + 1 - (i + 1)))) W1 (by simp [Act.eval, Act.put]) (by simp [Act.eval, Act.put]) (hcp1 _ _) ?_)
 go_wp2_with (at_builtin; refine wpCopyE rfl (.tmp 80) (.tmp 81) 25 rfl (.slice (some ⟨g, i * 4, none⟩) (n + 1 - i) (c - i)) (.slice (some ⟨vb, 0, none⟩) 1 1) (goInt (Nat.min 1 (n + 1 - i))) (W1.setRow g R2.toArray) rfl rfl (hcp2 _) ?_)
 go_ret
 exact ⟨_, rfl, unhide HOW, by simp, unhide HGR, .inl rfl⟩
theorem grow_list4 {E Z1 Z2 : List Value} {p q : Nat} (x y z u : Value) (hq : E.length = q) (hp : p ≤ q) (hz : Z1.length = q + 4 - p) :
  (E.take p ++ Z1 ++ Z2).length = q + 4 + Z2.length ∧
  ((E.take p ++ Z1 ++ Z2).take p ++ [x, y, z, u] ++ (E.take p ++ Z1 ++ Z2).drop (p + 4)).length = q + 4 + Z2.length ∧
  (((E.take p ++ Z1 ++ Z2).take p ++ [x, y, z, u] ++ (E.take p ++ Z1 ++ Z2).drop (p + 4)).take (p + 4) ++ E.drop p ++ ((E.take p ++ Z1 ++ Z2).take p ++ [x, y, z, u] ++ (E.take p ++ Z1 ++ Z2).drop (p + 4)).drop (p + 4 + (E.drop p).length)).length = q + 4 + Z2.length ∧
  (((E.take p ++ Z1 ++ Z2).take p ++ [x, y, z, u] ++ (E.take p ++ Z1 ++ Z2).drop (p + 4)).take (p + 4) ++ E.drop p ++ ((E.take p ++ Z1 ++ Z2).take p ++ [x, y, z, u] ++ (E.take p ++ Z1 ++ Z2).drop (p + 4)).drop (p + 4 + (E.drop p).length)).take (q + 4) = E.take p ++ x :: y :: z :: u :: E.drop p := by
 have l4 : (E.take p).length = p := by rw [List.length_take]; omega
 have l2 : (E.drop p).length = q - p := by rw [List.length_drop, hq]
 have l0 : (E.take p ++ Z1 ++ Z2).length = q + 4 + Z2.length := by simp only [List.length_append, l4, hz]; omega
 have t1 : (E.take p ++ Z1 ++ Z2).take p = E.take p := by rw [List.append_assoc, List.take_append_of_le_length (by omega), List.take_of_length_le (by omega)]
 obtain ⟨D, hD⟩ : ∃ D, D = (E.take p ++ Z1 ++ Z2).drop (p + 4) := ⟨_, rfl⟩
 have lD : D.length = q + Z2.length - p := by rw [hD, List.length_drop, l0]; omega
 rw [t1, ← hD]
 have t3 : (E.take p ++ [x, y, z, u] ++ D).take (p + 4) = E.take p ++ [x, y, z, u] := by
  rw [List.take_append_of_le_length (by simp only [List.length_append, l4, List.length_cons, List.length_nil]; omega), List.take_of_length_le (by simp only [List.length_append, l4, List.length_cons, List.length_nil]; omega)]
 refine ⟨l0, ?_, ?_, ?_⟩
 ·simp only [List.length_append, l4, lD, List.length_cons, List.length_nil]; omega
 ·rw [t3]
  simp only [List.length_append, List.length_drop, l2, l4, lD, List.length_cons, List.length_nil]; omega
 ·rw [t3, show E.take p ++ [x, y, z, u] ++ E.drop p = E.take p ++ x :: y :: z :: u :: E.drop p by simp]
  rw [List.take_append_of_le_length (by simp only [List.length_append, List.length_cons, l2, l4]; omega), List.take_of_length_le (by simp only [List.length_append, List.length_cons, l2, l4]; omega)]
set_option maxHeartbeats 4000000 in
theorem insV_grow (B g n i : Nat) (es : List VerD) (e : VerD) (vb : Nat) (cur : Array Value) (w : World) (hB : B ≤ w.heap.size) (hh : w.heap[g]? = some (.cells cur 43 (0, 0))) (hn : n = es.length) (h4 : cur.toList.take (n * 4) = vcs es)
  (hi : i < n) (hlen : n ≤ 1000) (hv : w.heap[vb]? = some (.cells #[.string e.k, .int .i64 e.t, .string e.v, .bool e.g] 43 (0, 0))) :
  Calls Tryz.prog 142 #[.slice (some ⟨g, 0, none⟩) n n, .int .i64 (i : Int), .slice (some ⟨vb, 0, none⟩) 1 1] w fun x w' => ∃ v', x = .returned v' ∧ VOwns w' B v' (es.take i ++ e :: es.drop i) ∧ v' ≠ .slice none 0 0 ∧ w.grownBy w' (some g) ∧ LocV w v' (some g) := by
 obtain ⟨i0, hi0, hz0, hzs, hzb⟩ := info_parts Tryz.infoVersion
 have hel := vcs_len es
 have hgw : g < w.heap.size := (Array.getElem?_eq_some_iff.1 hh).1
 have hvw : vb < w.heap.size := (Array.getElem?_eq_some_iff.1 hv).1
 have hik : i + (n + 1 - i) = n + 1 := by omega
 have hold : (Builtin.firstCells i0.size i (.slice (some ⟨g, 0, none⟩) i n)).run Tryz.prog w.drew = .ok ((vcs es).take (i * 4)).toArray w.drew := by
  rw [hzs]
  exact run_firstCells_some w.drew 4 i ⟨g, 0, none⟩ i n ((vcs es).take (i * 4)) (by rw [List.length_take]; omega) (fun j v hj => by
   rw [Addr.add_lit]
   rw [List.getElem?_take, ← h4, List.getElem?_take] at hj
   split at hj
   ·split at hj
    ·show w.cell? _ = _
     simp only [World.cell?, hh]
     simpa using hj
    ·cases hj
   ·cases hj)
 obtain ⟨G, hG⟩ : ∃ G, G = grownCap w (n + 1) n 43 := ⟨_, rfl⟩
 have hGn : n + 1 ≤ G := by rw [hG]; exact grownCap_ge w _ _ _
 have hGm : G ≤ maxLen := by rw [hG]; exact grownCap_le_maxLen w (n + 1) n 43 (by unfold maxLen; omega)
 obtain ⟨Z1, hZ1⟩ : ∃ Z1, Z1 = (Builtin.zeroCells (Value.agg #[.string ByteArray.empty, .int .i64 0, .string ByteArray.empty, .bool false]).cells (n + 1 - i)).toList := ⟨_, rfl⟩
 obtain ⟨Z2, hZ2⟩ : ∃ Z2, Z2 = (Builtin.zeroCells (Value.agg #[.string ByteArray.empty, .int .i64 0, .string ByteArray.empty, .bool false]).cells (G - (n + 1))).toList := ⟨_, rfl⟩
 have lz1 : Z1.length = n * 4 + 4 - i * 4 := by rw [hZ1]; simp [Builtin.zeroCells, Value.cells]; omega
 have lz2 : Z2.length = (G - (n + 1)) * 4 := by rw [hZ2]; simp [Builtin.zeroCells, Value.cells]
 obtain ⟨g0, g1, g2, g3⟩ := grow_list4 (E := vcs es) (Z1 := Z1) (Z2 := Z2) (p := i * 4) (q := n * 4) (.string e.k) (.int .i64 e.t) (.string e.v) (.bool e.g) (by rw [hel, hn]) (by omega) lz1
 obtain ⟨R0, hR0⟩ : ∃ R0, R0 = (vcs es).take (i * 4) ++ Z1 ++ Z2 := ⟨_, rfl⟩
 rw [← hR0] at g0 g1 g2 g3
 obtain ⟨R1, hR1⟩ : ∃ R1, R1 = R0.take (i * 4) ++ [Value.string e.k, Value.int .i64 e.t, Value.string e.v, Value.bool e.g] ++ R0.drop (i * 4 + 4) := ⟨_, rfl⟩
 rw [← hR1] at g1 g2 g3
 obtain ⟨R2, hR2⟩ : ∃ R2, R2 = R1.take (i * 4 + 4) ++ (vcs es).drop (i * 4) ++ R1.drop (i * 4 + 4 + ((vcs es).drop (i * 4)).length) := ⟨_, rfl⟩
 rw [← hR2] at g2 g3
 obtain ⟨W1, hW1⟩ : ∃ W1, W1 = w.drew.alloc (.cells R0.toArray 43) := ⟨_, rfl⟩
 have hrz : ∀ ty, (Builtin.append_ #[25, 3] ty #[.slice (some ⟨g, 0, none⟩) i n, .int .i64 ((n : Int) + 1 - (i : Int))]).run Tryz.prog w = .ok (.slice (some ⟨w.heap.size, 0, none⟩) (n + 1) G) W1 := fun ty => by
  have h := Lib.run_append_grow_zeros w 25 3 ty 43 i0 _ .i64 .i64 Tryz.underlying25 Tryz.underlying3 hi0 hz0 (some ⟨g, 0, none⟩) i n ((vcs es).take (i * 4)) hold (n + 1 - i) (by omega) (by omega) (by omega) (by omega) (by rw [hzb]; omega) (by rw [hzb, hik]; exact growslice_fits (by omega) (by omega))
  rw [hik, ← hG] at h
  rw [show (n : Int) + 1 - (i : Int) = ((n + 1 - i : Nat) : Int) by omega, h, hW1, hR0, hZ1, hZ2]
  congr 4
  apply Array.ext'
  simp
 have hsw : W1.heap.size = w.heap.size + 1 := by rw [hW1]; simp
 have hg1 : W1.heap[w.heap.size]? = some (.cells R0.toArray 43 (0, 0)) := by rw [hW1]; exact heap_alloc_new w.drew _
 have hbl : Below w.heap.size w W1 := by
  have := ((Below.refl w.heap.size w).alloc (Nat.le_refl _) (.cells R0.toArray 43))
  rw [hW1]
  exact ⟨this.os, this.tape, this.output, this.size, this.block⟩
 have hv1 : W1.heap[vb]? = some (.cells #[.string e.k, .int .i64 e.t, .string e.v, .bool e.g] 43 (0, 0)) := (hbl.block vb hvw).trans hv
 have hh1 : W1.heap[g]? = some (.cells cur 43 (0, 0)) := (hbl.block g hgw).trans hh
 obtain ⟨W2, hW2⟩ : ∃ W2, W2 = W1.setRow w.heap.size R1.toArray := ⟨_, rfl⟩
 have hg2 : W2.heap[w.heap.size]? = some (.cells R1.toArray 43 (0, 0)) := by rw [hW2]; exact setRow_heap W1 _ _ _ _ _ hg1
 have hh2 : W2.heap[g]? = some (.cells cur 43 (0, 0)) := by rw [hW2, setRow_other _ _ _ _ (by omega)]; exact hh1
 have hcp1 : ∀ dc, (Builtin.copy_ #[25, 25] 3 #[.slice (some ⟨w.heap.size, i * 4, none⟩) (n + 1 - i) dc, .slice (some ⟨vb, 0, none⟩) 1 1]).run Tryz.prog W1 = .ok (goInt (Nat.min 1 (n + 1 - i))) W2 := fun dc => by
  rw [run_copy_rowV W1 3 w.heap.size (i * 4) (n + 1 - i) dc ⟨vb, 0, none⟩ 1 1 R0.toArray [.string e.k, .int .i64 e.t, .string e.v, .bool e.g] hg1 (by show 4 = min _ _ * 4; omega) (fun j u hj => by
   match j, hj with
   | 0, hj => simp at hj; subst hj; simp [Addr.add, World.cell?, hv1]
   | 1, hj => simp at hj; subst hj; simp [Addr.add, World.cell?, hv1]
   | 2, hj => simp at hj; subst hj; simp [Addr.add, World.cell?, hv1]
   | 3, hj => simp at hj; subst hj; simp [Addr.add, World.cell?, hv1]) (by simp [g0]; omega) (by intro u hu; simp at hu; rcases hu with rfl | rfl | rfl | rfl <;> rfl), hW2, hR1]
  rfl
 have hdl : (List.drop (i * 4) (vcs es)).length = (n - i) * 4 := by rw [List.length_drop, hel, ← hn]; omega
 obtain ⟨W3, hW3⟩ : ∃ W3, W3 = W2.drew.setRow w.heap.size R2.toArray := ⟨_, rfl⟩
 have hcp2 : ∀ dc sc, (Builtin.copy_ #[25, 25] 3 #[.slice (some ⟨w.heap.size, (i + 1) * 4, none⟩) (n + 1 - (i + 1)) dc, .slice (some ⟨g, i * 4, none⟩) (n - i) sc]).run Tryz.prog W2.drew = .ok (goInt (Nat.min (n - i) (n + 1 - (i + 1)))) W3 := fun dc sc => by
  rw [hW3, hR2, run_copy_rowV W2.drew 3 w.heap.size ((i + 1) * 4) (n + 1 - (i + 1)) dc ⟨g, i * 4, none⟩ (n - i) sc R1.toArray ((vcs es).drop (i * 4)) hg2 (by rw [hdl]; show _ = min _ _ * 4; omega) (fun j u hj => by
   rw [Addr.add_lit]
   rw [List.getElem?_drop, ← h4, List.getElem?_take] at hj
   split at hj
   ·show W2.cell? _ = _
    simp only [World.cell?, hh2]
    simpa using hj
   ·cases hj) (by rw [hdl]; simp [g1]; omega) (fun u hu => vcs_one es u (List.mem_of_mem_drop hu)), show (i + 1) * 4 = i * 4 + 4 by omega]
 have hOW : VOwns W3 B (.slice (some ⟨w.heap.size, 0, none⟩) (n + 1) G) (es.take i ++ e :: es.drop i) := by
  refine vIback hB (by rw [hW3]; exact setRow_heap W2.drew _ _ _ _ _ hg2) (by simp; omega) hGn hGm (by simp [g2, lz2]; omega) ?_
  rw [vcs_append]
  simp only [vcs]
  rw [vcs_takeN, vcs_dropN]
  rw [← g3, show (n + 1) * 4 = n * 4 + 4 by omega]
 have hGR : w.grownBy W3 (some g) := by
  refine grown_new ?_
  have hb2 : Below w.heap.size w W2 := by
   refine ⟨by rw [hW2]; exact hbl.os, by rw [hW2]; exact hbl.tape, by rw [hW2]; exact hbl.output, by rw [hW2, setRow_size]; exact hbl.size, fun k hk => ?_⟩
   rw [hW2, setRow_other _ _ _ _ (by omega)]
   exact hbl.block k hk
  refine ⟨by rw [hW3]; exact hb2.os, by rw [hW3]; exact hb2.tape, by rw [hW3]; exact hb2.output, by rw [hW3, setRow_size]; exact hb2.size, fun k hk => ?_⟩
  rw [hW3, setRow_other _ _ _ _ (by omega)]
  exact hb2.block k hk
 have HOW := hide hOW
 have HGR := hide hGR
 have hG63 : G ≤ 9223372036854775807 := by unfold maxLen at hGm; omega
 clear hOW hGR g0 g1 g2 g3 hR0 hR1 hR2 hW1 hW2 hW3 hg1 hg2 hv1 hh1 hh2 hdl h4 hv hh hel hold hG hZ1 hZ2 lz1 lz2 hbl hsw hik hz0 hzs hzb hi0
 have hw1 : IntKind.i64.wrap ((i : Int) + 1) = (i : Int) + 1 := by rw [IntKind.wrap_i64]; omega
 have hb1 : (0 : Int) ≤ (i : Int) + 1 := by omega
 have hz1 : ¬ ((i : Int) = (n : Int)) := by omega
 have hin : i ≤ n := by omega
 have htn : ((i : Int) + 1).toNat = i + 1 := by omega
 have hb2 : ¬ (G = i + 1) := by omega
 have hb3 : (i : Int) ≤ (n : Int) := by omega
 have hb4 : ¬ (G = i) := by omega
 have hb5 : ¬ (n = i) := by omega
 clear hn
 go_enter Tryz.func142, Tryz.ntmps142
 go_wp2_with (first
  | (at_builtin; refine Lib.wpList_append_run _ rfl _ _ _ _ rfl (.slice (some ⟨g, 0, none⟩) i n) (.int .i64 ((n : Int) + 1 - (i : Int))) rfl rfl (.slice (some ⟨w.heap.size, 0, none⟩) (n + 1) G) W1 (hrz _) ?_)
  | (at_builtin; refine wpCopyE rfl (.tmp 43) (.tmp 44) 25 rfl (.slice (some ⟨w.heap.size, i * 4, none⟩) (n + 1 - i) (G - i)) (.slice (some ⟨vb, 0, none⟩) 1 1) (goInt (Nat.min 1 (n + 1 - i))) W2 rfl rfl (hcp1 _) ?_))
 go_region_law (refine stepCopyE rfl (.tmp 50) (.tmp 53) 25 rfl (.slice (some ⟨w.heap.size, (i + 1) * 4, none⟩) (n + 1 - (i + 1)) (G - (i + 1))) (.slice (some ⟨g, i * 4, none⟩) (n - i) (n - i)) (goInt (Nat.min (n - i) (n + 1 - (i + 1)))) W3 (by simp [Act.eval, Act.put]) (by simp [Act.eval, Act.put]) (hcp2 _ _) ?_)
 go_wp2_with fail
 go_ret
 exact ⟨_, rfl, unhide HOW, by simp, unhide HGR, .inr ⟨_, Nat.le_refl _, rfl⟩⟩
theorem insertV_any (B : Nat) (a : Option Addr) (n c i : Nat) (es : List VerD) (e : VerD) (vb : Nat) (w : World) (hown : VOwns w B (.slice a n c) es) (hn : n = es.length) (hi : i ≤ n) (hlen : n ≤ 1000) (hB : B ≤ w.heap.size)
  (hv : w.heap[vb]? = some (.cells #[.string e.k, .int .i64 e.t, .string e.v, .bool e.g] 43 (0, 0))) (hne : ∀ x, a = some x → vb ≠ x.block) :
  Calls Tryz.prog 142 #[.slice a n c, .int .i64 (i : Int), .slice (some ⟨vb, 0, none⟩) 1 1] w fun x w' => ∃ v', x = .returned v' ∧ VOwns w' B v' (es.take i ++ e :: es.drop i) ∧ v' ≠ .slice none 0 0 ∧ w.grownBy w' (Value.slice a n c).ownBlock ∧ LocV w v' (Value.slice a n c).ownBlock := by
 rcases Nat.lt_or_eq_of_le hi with hlt | rfl
 ·obtain ⟨g, cur, rfl, _, hb, hh, h1, h2, h3, h4⟩ := vIform hown (by omega)
  by_cases hr : n + 1 ≤ c
  ·exact insV_room B g c n i es e vb cur w hb hh hn hr h2 h3 h4 hlt hlen hv (hne _ rfl)
  ·obtain rfl : c = n := by omega
   exact insV_grow B g c i es e vb cur w hB hh hn h4 hlt hlen hv
 ·subst hn
  have := insV_end B a c es e vb w hown hlen hB hv
  rw [List.take_length, List.drop_length]
  exact this
end Go.Proofs.YtdnjgbckkmbmfaaGreat

namespace Go.Proofs.YtdnjgbckkmbmfaaGreat
open Go.RowKit

theorem posV_uni {L : List VerD} {x : VerD} {f : Nat} (hf : f ≤ L.length) (lo : ∀ i (hi : i < L.length), i < f → ltV L[i] x = true) (hi : ∀ h : f < L.length, ltV L[f] x = false) : f = posV L x := by
 have hle := posV_le L x
 rcases Nat.lt_trichotomy f (posV L x) with h | h | h
 ·have h1 := posV_lt L x f (by omega) h
  rw [hi (by omega)] at h1
  cases h1
 ·exact h
 ·have h1 := posV_at L x (by omega)
  rw [lo (posV L x) (by omega) h] at h1
  cases h1
theorem pairV_lt {L : List VerD} (h : L.Pairwise fun a b => ltV a b = true) {i j : Nat} (hj : j < L.length) (hij : i < j) : ltV (L[i]'(by omega)) L[j] = true := List.pairwise_iff_getElem.1 h i j (by omega) hj hij
theorem ltV_up {L : List VerD} {x : VerD} (h : L.Pairwise fun a b => ltV a b = true) {m : Nat} (hm : m < L.length) (hl : ltV L[m] x = true) : ∀ i (_ : i < L.length), i < m + 1 → ltV L[i] x = true := fun i hi hlt => by
 by_cases e : i = m
 ·subst e; exact hl
 ·exact ltV_trans (pairV_lt h hm (by omega)) hl
theorem ltV_dn {L : List VerD} {x : VerD} (h : L.Pairwise fun a b => ltV a b = true) {m : Nat} (hm : m < L.length) (hl : ltV L[m] x = false) : ∀ i (_ : i < L.length), m ≤ i → ltV L[i] x = false := fun i hi hle => by
 by_cases e : m = i
 ·subst e; exact hl
 ·cases hx : ltV L[i] x with
  | false => rfl
  | true =>
   have := ltV_trans (pairV_lt h hi (show m < i by omega)) hx
   rw [hl] at this
   cases this
theorem hitV_at {L : List VerD} {x : VerD} (h : hitV L x = true) : ∃ hp : posV L x < L.length, sameV L[posV L x] x = true := by
 unfold hitV at h
 by_cases hp : posV L x < L.length
 ·rw [List.getElem?_eq_getElem hp] at h
  exact ⟨hp, h⟩
 ·rw [List.getElem?_eq_none (by omega)] at h
  cases h
theorem insV_hit {L : List VerD} {x : VerD} (h : hitV L x = true) : insV L x = L.set (posV L x) x := by
 obtain ⟨hp, -⟩ := hitV_at h
 unfold insV
 rw [if_pos h, List.set_eq_take_append_cons_drop, if_pos hp]
theorem insV_new {L : List VerD} {x : VerD} (h : hitV L x = false) : insV L x = L.take (posV L x) ++ x :: L.drop (posV L x) := by
 unfold insV
 rw [h, if_neg (by decide), Nat.add_zero]
theorem ltV_sameT {a b : VerD} (h : a.t = b.t) : ltV a b = ltK a.k b.k ∧ sameV a b = (a.k.toList == b.k.toList) := by
 constructor
 ·unfold ltV
  rw [h, decide_eq_false (Int.lt_irrefl b.t), Bool.and_false, Bool.or_false]
 ·unfold sameV
  rw [h, decide_eq_true rfl, Bool.and_true]
  by_cases e : a.k = b.k
  ·rw [e, decide_eq_true rfl, beq_self_eq_true]
  ·rw [decide_eq_false e]
   symm
   rw [beq_eq_false_iff_ne]
   intro e2
   rw [ByteArray.toList_eq, ByteArray.toList_eq] at e2
   exact e (by cases a with | mk ak at' av ag => cases b with | mk bk bt bv bg => cases ak; cases bk; simp at e2; simp [e2])
theorem ltV_sameK {a b : VerD} (h : a.k = b.k) : ltV a b = decide (a.t < b.t) ∧ sameV a b = (a.t == b.t) := by
 constructor
 ·unfold ltV
  rw [h, ltK_irr, Bool.false_or, decide_eq_true rfl, Bool.true_and]
 ·unfold sameV
  rw [h, decide_eq_true rfl, Bool.true_and]
  rfl
set_option maxHeartbeats 1000000 in
theorem keyVK_any (x : VerD) (w : World) : Calls Tryz.prog 130 #[vv x] w fun e w' => e = .returned (.string x.k) ∧ Below w.heap.size w w' := by
 unfold vv
 go_enter Tryz.func130, Tryz.ntmps130
 go_wp2_with fail
 go_ret
 exact ⟨rfl, (Below.refl _ _).alloc (Nat.le_refl _) _⟩
set_option maxHeartbeats 4000000 in
theorem searchK_any (a : Option Addr) (n c : Nat) (L : List VerD) (x : VerD) (w : World) (hR : VRow w a n L) (hS : L.Pairwise fun a b => ltV a b = true) (hT : ∀ d ∈ L, d.t = x.t) (hn : n ≤ 100000) :
  Calls Tryz.prog 138 #[.slice a n c, .string x.k, .func (.func 130) #[] #[]] w fun e w' => e = .returned (.tuple #[.int .i64 (posV L x : Nat), .bool (hitV L x)]) ∧ Below w.heap.size w w' := by
 have R := hide hR
 have S := hide hS
 have LT := hide (fun (m : Nat) (hm : m < L.length) => ltV_sameT (hT L[m] (List.getElem_mem hm)))
 have LN := hide hR.1
 clear hR hS hT
 have PL := hide (posV_le L x)
 go_enter Tryz.func138, Tryz.ntmps138
 go_wp2_with fail
 go_loopw [8, 9] (fun p q wr => ∃ (f t : Nat), p = .int .i64 (f : Int) ∧ q = .int .i64 (t : Int) ∧ f ≤ t ∧ t ≤ n ∧ Hid (∀ i (hi : i < L.length), i < f → ltV L[i] x = true) ∧ Hid (∀ i (hi : i < L.length), t ≤ i → ltV L[i] x = false) ∧ Below w.heap.size w wr) (fun p q _ => (intOf q).toNat - (intOf p).toNat)
 case atStart => exact ⟨0, n, rfl, rfl, Nat.zero_le _, Nat.le_refl _, fun i _ h => absurd h (Nat.not_lt_zero _), fun i hi h => absurd hi (by have := unhide LN; omega), Below.refl _ _⟩
 case round =>
  obtain ⟨f, t, rfl, rfl, hft, htn, hlo, hup, hb⟩ := hrel
  by_cases hlt : f < t
  ·have R1 := hide ((unhide R).below hb)
   have hdiv : ((t : Int) - (f : Int)) / 2 = (((t - f) / 2 : Nat) : Int) := by omega
   obtain ⟨m, hmm⟩ : ∃ m, m = f + (t - f) / 2 := ⟨_, rfl⟩
   have hm' : m < L.length := by have := unhide LN; omega
   obtain ⟨b, off, rfl, c0, c1, c2, c3⟩ := (unhide R1).2 m hm'
   have hm1 : f ≤ m := by omega
   have hm2 : m < t := by omega
   have HM := hide hmm
   clear hmm
   have KC := hide (keyVK_any L[m])
   have lte := (unhide LT m hm').1
   have LO := hide (fun (h : Op.bytesLess L[m].k.toList x.k.toList = true) => ltV_up (unhide S) hm' (by rw [lte]; exact h))
   have UP := hide (fun (h : Op.bytesLess L[m].k.toList x.k.toList = false) => ltV_dn (unhide S) hm' (by rw [lte]; exact h))
   clear lte
   generalize L[m] = em at *
   obtain ⟨ek, et, ev, eg⟩ := em
   unfold vv at KC
   simp only at c0 c1 c2 c3 KC LO UP
   rw [unhide HM] at c0 c1 c2 c3
   by_cases hl : Op.bytesLess ek.toList x.k.toList = true
   ·have Z := hide (unhide LO hl)
    clear LO UP
    go_wp2_with fail
    refine (unhide KC _).mono ?_
    rintro e w1 ⟨rfl, hb1⟩
    have B1 := hb.trans (hb1.mono hb.size)
    clear hb hb1 c0 c1 c2 c3
    go_wp2_with fail
    go_roundw
    case rel => exact ⟨m + 1, t, by rw [unhide HM]; go_num, rfl, by omega, htn, unhide Z, unhide hup, B1⟩
    case measure => have := unhide HM; simp [intOf]; omega
   ·have hl : Op.bytesLess ek.toList x.k.toList = false := by simpa using hl
    have Z := hide (unhide UP hl)
    clear LO UP
    go_wp2_with fail
    refine (unhide KC _).mono ?_
    rintro e w1 ⟨rfl, hb1⟩
    have B1 := hb.trans (hb1.mono hb.size)
    clear hb hb1 c0 c1 c2 c3
    go_wp2_with fail
    go_roundw
    case rel => exact ⟨f, m, rfl, by rw [unhide HM]; go_num, by omega, by omega, unhide hlo, unhide Z, B1⟩
    case measure => have := unhide HM; simp [intOf]; omega
  ·obtain rfl : f = t := by omega
   have HP := hide (posV_uni (show f ≤ L.length by have := unhide LN; omega) (unhide hlo) (fun hi => unhide hup f hi (Nat.le_refl _)))
   have FD := hide (show hitV L x = match L[f]? with
    | some e => sameV e x
    | none => false by rw [unhide HP]; rfl)
   by_cases hi : f < L.length
   ·have R1 := hide ((unhide R).below hb)
    obtain ⟨b, off, rfl, c0, c1, c2, c3⟩ := (unhide R1).2 f hi
    have FD2 := hide (show (L[f].k.toList == x.k.toList) = hitV L x by rw [unhide FD, List.getElem?_eq_getElem hi]; exact (unhide LT f hi).2.symm)
    have KC := hide (keyVK_any L[f])
    clear FD
    have hfn : f < n := by have := unhide LN; omega
    generalize L[f] = em at *
    obtain ⟨ek, et, ev, eg⟩ := em
    unfold vv at KC
    simp only at c0 c1 c2 c3 KC FD2
    go_wp2_with fail
    refine (unhide KC _).mono ?_
    rintro e w1 ⟨rfl, hb1⟩
    have B1 := hb.trans (hb1.mono hb.size)
    clear hb hb1 c0 c1 c2 c3
    go_wp2_with fail
    go_ret2
    exact ⟨tup_ib (by rw [← unhide HP]) (unhide FD2), B1⟩
   ·have FD2 := hide (show false = hitV L x by rw [unhide FD, List.getElem?_eq_none (by omega)])
    clear FD
    have hfn : ¬ f < n := by have := unhide LN; omega
    go_wp2_with fail
    go_ret2
    exact ⟨tup_ib (by rw [← unhide HP]) (unhide FD2), hb⟩
set_option maxHeartbeats 4000000 in
theorem placedK_any (B : Nat) (a : Option Addr) (n c : Nat) (L : List VerD) (x : VerD) (w : World) (hown : VOwns w B (.slice a n c) L) (hS : L.Pairwise fun a b => ltV a b = true) (hT : ∀ d ∈ L, d.t = x.t) (hn : n ≤ 1000) (hB : B ≤ w.heap.size) :
  Calls Tryz.prog 129 #[.slice a n c, vv x, .func (.func 130) #[] #[]] w fun e w' => ∃ v', e = .returned v' ∧ VOwns w' B v' (insV L x) ∧ v' ≠ .slice none 0 0 ∧ w.grownBy w' (Value.slice a n c).ownBlock ∧ LocV w v' (Value.slice a n c).ownBlock := by
 have HL := hide (show n = L.length from owns_n hown)
 obtain ⟨W1, hW1⟩ : ∃ W1, W1 = w.alloc (.cells #[.string x.k, .int .i64 x.t, .string x.v, .bool x.g] 43) := ⟨_, rfl⟩
 have B0 : Below w.heap.size w W1 := by rw [hW1]; exact (Below.refl _ _).alloc (Nat.le_refl _) _
 have k0 : W1.heap[w.heap.size]? = some (.cells #[.string x.k, .int .i64 x.t, .string x.v, .bool x.g] 43 (0, 0)) := by rw [hW1]; exact heap_alloc_new _ _
 have HO := hide (rb_ownsRow_below hown B0)
 have K0 := hide k0
 have CK := hide (keyVK_any x W1)
 have CS := hide (fun (u : World) (hu : VRow u a n L) => searchK_any a n c L x u hu hS hT (by omega))
 have d0 := (heap_at k0 0).1
 have d1 := (heap_at k0 1).1
 have d2 := (heap_at k0 2).1
 have d3 := (heap_at k0 3).1
 rw [hW1] at d0 d1 d2 d3
 clear hown hS hT k0
 have EX := hide (show (⟨x.k, x.t, x.v, x.g⟩ : VerD) = x from rfl)
 unfold vv at CK ⊢
 go_enter Tryz.func129, Tryz.ntmps129
 go_wp2_with fail
 rw [← hW1]
 clear hW1 d0 d1 d2 d3
 refine (unhide CK).mono ?_
 rintro e w1 ⟨rfl, hb1⟩
 replace HO := hide (rb_ownsRow_below (unhide HO) hb1)
 replace K0 := hide ((hb1.block w.heap.size (blk_lt (unhide K0))).trans (unhide K0))
 replace B0 := B0.trans (hb1.mono B0.size)
 clear hb1 CK
 go_wp2_with fail
 refine (unhide CS w1 (vrow_of_owns (unhide HO))).mono ?_
 rintro e w2 ⟨rfl, hb2⟩
 replace HO := hide (rb_ownsRow_below (unhide HO) hb2)
 replace K0 := hide ((hb2.block w.heap.size (blk_lt (unhide K0))).trans (unhide K0))
 replace B0 := B0.trans (hb2.mono B0.size)
 clear hb2 CS
 have PL := hide (posV_le L x)
 have e0 := (heap_at (unhide K0) 0).1
 have e1 := (heap_at (unhide K0) 1).1
 have e2 := (heap_at (unhide K0) 2).1
 have e3 := (heap_at (unhide K0) 3).1
 by_cases hf : hitV L x = true
 ·rw [hf]
  have IH := hide (insV_hit hf)
  obtain ⟨hp, -⟩ := hitV_at hf
  have hne : Value.slice a n c ≠ .slice none 0 0 := fun e => by injection e with _ e _; have := unhide HL; omega
  obtain ⟨g, c2, e, hgB, hg, hc⟩ := owns_form (unhide HO) hne
  injection e with e1' e2' e3'
  clear e2'
  subst e1' e3'
  obtain ⟨t0, t1, t2, t3⟩ := vowns_at (unhide HO) (posV L x) hp
  have f0 := vowns_fz (unhide HO) (posV L x * 4)
  have f1 := vowns_fz (unhide HO) (posV L x * 4 + 1)
  have f2 := vowns_fz (unhide HO) (posV L x * 4 + 2)
  have f3 := vowns_fz (unhide HO) (posV L x * 4 + 3)
  have DN := hide (vowns_store (unhide HO) (posV L x) x)
  have hpn : posV L x < n := by have := unhide HL; omega
  have GR := hide (show w2.grownBy ((((w2.setCell ⟨g, posV L x * 4, none⟩ (.string x.k)).setCell ⟨g, posV L x * 4 + 1, none⟩ (.int .i64 x.t)).setCell ⟨g, posV L x * 4 + 2, none⟩ (.string x.v)).setCell ⟨g, posV L x * 4 + 3, none⟩ (.bool x.g)) (some g) from ⟨rfl, rfl, rfl, by simp [World.setCell], fun i _ hne => (Below.heap_setCell _ _ _ _ (fun e => hne (by rw [e]))).trans ((Below.heap_setCell _ _ _ _ (fun e => hne (by rw [e]))).trans ((Below.heap_setCell _ _ _ _ (fun e => hne (by rw [e]))).trans (Below.heap_setCell _ _ _ _ (fun e => hne (by rw [e])))))⟩)
  clear hne hg hc hgB
  generalize L[posV L x] = tk at *
  generalize posV L x = p at *
  go_wp2_with fail
  go_ret
  exact ⟨.slice (some ⟨g, 0, none⟩) n c, rfl, by rw [unhide IH]; exact unhide DN, by simp, grown_trans (grown_new B0) (unhide GR), .inl rfl⟩
 ·have hf : hitV L x = false := by simpa using hf
  rw [hf]
  have B1 : Below w2.heap.size w2 (w2.alloc (.cells #[.string x.k, .int .i64 x.t, .string x.v, .bool x.g] 43)) := (Below.refl _ _).alloc (Nat.le_refl _) _
  have IN := hide (insertV_any B a n c (posV L x) L x w2.heap.size (w2.alloc (.cells #[.string x.k, .int .i64 x.t, .string x.v, .bool x.g] 43)) (rb_ownsRow_below (unhide HO) B1) (unhide HL) (by have := unhide PL; have := unhide HL; omega) (by omega) (by have := B1.size; have := B0.size; omega) (heap_alloc_new w2 _) (fun y hy => by have := ((unhide HO).lt y.block (by rw [hy]; rfl)).2; omega))
  have ST := hide (insV_new hf)
  generalize posV L x = p at *
  generalize x.k = xk at *
  generalize x.t = xt at *
  generalize x.v = xv at *
  generalize x.g = xg at *
  go_wp2_with fail
  refine (unhide IN).mono ?_
  rintro e w5 ⟨v', rfl, hO, hne, hgr⟩
  have F := hide (And.intro hO (And.intro hne hgr))
  clear hO hne hgr
  go_wp2_with fail
  go_ret
  exact ⟨v', rfl, by rw [unhide ST]; exact (unhide F).1, (unhide F).2.1, grown_trans (grown_new (B0.trans (B1.mono B0.size))) (unhide F).2.2.1, by
   rcases (unhide F).2.2.2 with h | ⟨b, hb, h⟩
   ·exact .inl h
   ·exact .inr ⟨b, by have := B1.size; have := B0.size; omega, h⟩⟩
set_option maxHeartbeats 1000000 in
theorem keyVT_any (x : VerD) (w : World) : Calls Tryz.prog 145 #[vv x] w fun e w' => e = .returned (.int .i64 x.t) ∧ Below w.heap.size w w' := by
 unfold vv
 go_enter Tryz.func145, Tryz.ntmps145
 go_wp2_with fail
 go_ret
 exact ⟨rfl, (Below.refl _ _).alloc (Nat.le_refl _) _⟩
set_option maxHeartbeats 4000000 in
theorem searchT_any (a : Option Addr) (n c : Nat) (L : List VerD) (x : VerD) (w : World) (hR : VRow w a n L) (hS : L.Pairwise fun a b => ltV a b = true) (hT : ∀ d ∈ L, d.k = x.k) (hn : n ≤ 100000) :
  Calls Tryz.prog 164 #[.slice a n c, .int .i64 x.t, .func (.func 145) #[] #[]] w fun e w' => e = .returned (.tuple #[.int .i64 (posV L x : Nat), .bool (hitV L x)]) ∧ Below w.heap.size w w' := by
 have R := hide hR
 have S := hide hS
 have LT := hide (fun (m : Nat) (hm : m < L.length) => ltV_sameK (hT L[m] (List.getElem_mem hm)))
 have LN := hide hR.1
 clear hR hS hT
 have PL := hide (posV_le L x)
 go_enter Tryz.func164, Tryz.ntmps164
 go_wp2_with fail
 go_loopw [8, 9] (fun p q wr => ∃ (f t : Nat), p = .int .i64 (f : Int) ∧ q = .int .i64 (t : Int) ∧ f ≤ t ∧ t ≤ n ∧ Hid (∀ i (hi : i < L.length), i < f → ltV L[i] x = true) ∧ Hid (∀ i (hi : i < L.length), t ≤ i → ltV L[i] x = false) ∧ Below w.heap.size w wr) (fun p q _ => (intOf q).toNat - (intOf p).toNat)
 case atStart => exact ⟨0, n, rfl, rfl, Nat.zero_le _, Nat.le_refl _, fun i _ h => absurd h (Nat.not_lt_zero _), fun i hi h => absurd hi (by have := unhide LN; omega), Below.refl _ _⟩
 case round =>
  obtain ⟨f, t, rfl, rfl, hft, htn, hlo, hup, hb⟩ := hrel
  by_cases hlt : f < t
  ·have R1 := hide ((unhide R).below hb)
   have hdiv : ((t : Int) - (f : Int)) / 2 = (((t - f) / 2 : Nat) : Int) := by omega
   obtain ⟨m, hmm⟩ : ∃ m, m = f + (t - f) / 2 := ⟨_, rfl⟩
   have hm' : m < L.length := by have := unhide LN; omega
   obtain ⟨b, off, rfl, c0, c1, c2, c3⟩ := (unhide R1).2 m hm'
   have hm1 : f ≤ m := by omega
   have hm2 : m < t := by omega
   have HM := hide hmm
   clear hmm
   have KC := hide (keyVT_any L[m])
   have lte := (unhide LT m hm').1
   have LO := hide (fun (h : decide (L[m].t < x.t) = true) => ltV_up (unhide S) hm' (by rw [lte]; exact h))
   have UP := hide (fun (h : decide (L[m].t < x.t) = false) => ltV_dn (unhide S) hm' (by rw [lte]; exact h))
   clear lte
   generalize L[m] = em at *
   obtain ⟨ek, et, ev, eg⟩ := em
   unfold vv at KC
   simp only at c0 c1 c2 c3 KC LO UP
   rw [unhide HM] at c0 c1 c2 c3
   by_cases hl : et < x.t
   ·have Z := hide (unhide LO (decide_eq_true hl))
    clear LO UP
    go_wp2_with fail
    refine (unhide KC _).mono ?_
    rintro e w1 ⟨rfl, hb1⟩
    have B1 := hb.trans (hb1.mono hb.size)
    clear hb hb1 c0 c1 c2 c3
    go_wp2_with fail
    go_roundw
    case rel => exact ⟨m + 1, t, by rw [unhide HM]; go_num, rfl, by omega, htn, unhide Z, unhide hup, B1⟩
    case measure => have := unhide HM; simp [intOf]; omega
   ·have Z := hide (unhide UP (decide_eq_false hl))
    clear LO UP
    go_wp2_with fail
    refine (unhide KC _).mono ?_
    rintro e w1 ⟨rfl, hb1⟩
    have B1 := hb.trans (hb1.mono hb.size)
    clear hb hb1 c0 c1 c2 c3
    go_wp2_with fail
    go_roundw
    case rel => exact ⟨f, m, rfl, by rw [unhide HM]; go_num, by omega, by omega, unhide hlo, unhide Z, B1⟩
    case measure => have := unhide HM; simp [intOf]; omega
  ·obtain rfl : f = t := by omega
   have HP := hide (posV_uni (show f ≤ L.length by have := unhide LN; omega) (unhide hlo) (fun hi => unhide hup f hi (Nat.le_refl _)))
   have FD := hide (show hitV L x = match L[f]? with
    | some e => sameV e x
    | none => false by rw [unhide HP]; rfl)
   by_cases hi : f < L.length
   ·have R1 := hide ((unhide R).below hb)
    obtain ⟨b, off, rfl, c0, c1, c2, c3⟩ := (unhide R1).2 f hi
    have FD2 := hide (show (L[f].t == x.t) = hitV L x by rw [unhide FD, List.getElem?_eq_getElem hi]; exact (unhide LT f hi).2.symm)
    have KC := hide (keyVT_any L[f])
    clear FD
    have hfn : f < n := by have := unhide LN; omega
    generalize L[f] = em at *
    obtain ⟨ek, et, ev, eg⟩ := em
    unfold vv at KC
    simp only at c0 c1 c2 c3 KC FD2
    go_wp2_with fail
    refine (unhide KC _).mono ?_
    rintro e w1 ⟨rfl, hb1⟩
    have B1 := hb.trans (hb1.mono hb.size)
    clear hb hb1 c0 c1 c2 c3
    go_wp2_with fail
    go_ret2
    exact ⟨tup_ib (by rw [← unhide HP]) (unhide FD2), B1⟩
   ·have FD2 := hide (show false = hitV L x by rw [unhide FD, List.getElem?_eq_none (by omega)])
    clear FD
    have hfn : ¬ f < n := by have := unhide LN; omega
    go_wp2_with fail
    go_ret2
    exact ⟨tup_ib (by rw [← unhide HP]) (unhide FD2), hb⟩
set_option maxHeartbeats 4000000 in
theorem placedT_any (B : Nat) (a : Option Addr) (n c : Nat) (L : List VerD) (x : VerD) (w : World) (hown : VOwns w B (.slice a n c) L) (hS : L.Pairwise fun a b => ltV a b = true) (hT : ∀ d ∈ L, d.k = x.k) (hn : n ≤ 1000) (hB : B ≤ w.heap.size) :
  Calls Tryz.prog 144 #[.slice a n c, vv x, .func (.func 145) #[] #[]] w fun e w' => ∃ v', e = .returned v' ∧ VOwns w' B v' (insV L x) ∧ v' ≠ .slice none 0 0 ∧ w.grownBy w' (Value.slice a n c).ownBlock ∧ LocV w v' (Value.slice a n c).ownBlock := by
 have HL := hide (show n = L.length from owns_n hown)
 obtain ⟨W1, hW1⟩ : ∃ W1, W1 = w.alloc (.cells #[.string x.k, .int .i64 x.t, .string x.v, .bool x.g] 43) := ⟨_, rfl⟩
 have B0 : Below w.heap.size w W1 := by rw [hW1]; exact (Below.refl _ _).alloc (Nat.le_refl _) _
 have k0 : W1.heap[w.heap.size]? = some (.cells #[.string x.k, .int .i64 x.t, .string x.v, .bool x.g] 43 (0, 0)) := by rw [hW1]; exact heap_alloc_new _ _
 have HO := hide (rb_ownsRow_below hown B0)
 have K0 := hide k0
 have CK := hide (keyVT_any x W1)
 have CS := hide (fun (u : World) (hu : VRow u a n L) => searchT_any a n c L x u hu hS hT (by omega))
 have d0 := (heap_at k0 0).1
 have d1 := (heap_at k0 1).1
 have d2 := (heap_at k0 2).1
 have d3 := (heap_at k0 3).1
 rw [hW1] at d0 d1 d2 d3
 clear hown hS hT k0
 have EX := hide (show (⟨x.k, x.t, x.v, x.g⟩ : VerD) = x from rfl)
 unfold vv at CK ⊢
 go_enter Tryz.func144, Tryz.ntmps144
 go_wp2_with fail
 rw [← hW1]
 clear hW1 d0 d1 d2 d3
 refine (unhide CK).mono ?_
 rintro e w1 ⟨rfl, hb1⟩
 replace HO := hide (rb_ownsRow_below (unhide HO) hb1)
 replace K0 := hide ((hb1.block w.heap.size (blk_lt (unhide K0))).trans (unhide K0))
 replace B0 := B0.trans (hb1.mono B0.size)
 clear hb1 CK
 go_wp2_with fail
 refine (unhide CS w1 (vrow_of_owns (unhide HO))).mono ?_
 rintro e w2 ⟨rfl, hb2⟩
 replace HO := hide (rb_ownsRow_below (unhide HO) hb2)
 replace K0 := hide ((hb2.block w.heap.size (blk_lt (unhide K0))).trans (unhide K0))
 replace B0 := B0.trans (hb2.mono B0.size)
 clear hb2 CS
 have PL := hide (posV_le L x)
 have e0 := (heap_at (unhide K0) 0).1
 have e1 := (heap_at (unhide K0) 1).1
 have e2 := (heap_at (unhide K0) 2).1
 have e3 := (heap_at (unhide K0) 3).1
 by_cases hf : hitV L x = true
 ·rw [hf]
  have IH := hide (insV_hit hf)
  obtain ⟨hp, -⟩ := hitV_at hf
  have hne : Value.slice a n c ≠ .slice none 0 0 := fun e => by injection e with _ e _; have := unhide HL; omega
  obtain ⟨g, c2, e, hgB, hg, hc⟩ := owns_form (unhide HO) hne
  injection e with e1' e2' e3'
  clear e2'
  subst e1' e3'
  obtain ⟨t0, t1, t2, t3⟩ := vowns_at (unhide HO) (posV L x) hp
  have f0 := vowns_fz (unhide HO) (posV L x * 4)
  have f1 := vowns_fz (unhide HO) (posV L x * 4 + 1)
  have f2 := vowns_fz (unhide HO) (posV L x * 4 + 2)
  have f3 := vowns_fz (unhide HO) (posV L x * 4 + 3)
  have DN := hide (vowns_store (unhide HO) (posV L x) x)
  have hpn : posV L x < n := by have := unhide HL; omega
  have GR := hide (show w2.grownBy ((((w2.setCell ⟨g, posV L x * 4, none⟩ (.string x.k)).setCell ⟨g, posV L x * 4 + 1, none⟩ (.int .i64 x.t)).setCell ⟨g, posV L x * 4 + 2, none⟩ (.string x.v)).setCell ⟨g, posV L x * 4 + 3, none⟩ (.bool x.g)) (some g) from ⟨rfl, rfl, rfl, by simp [World.setCell], fun i _ hne => (Below.heap_setCell _ _ _ _ (fun e => hne (by rw [e]))).trans ((Below.heap_setCell _ _ _ _ (fun e => hne (by rw [e]))).trans ((Below.heap_setCell _ _ _ _ (fun e => hne (by rw [e]))).trans (Below.heap_setCell _ _ _ _ (fun e => hne (by rw [e])))))⟩)
  clear hne hg hc hgB
  generalize L[posV L x] = tk at *
  generalize posV L x = p at *
  go_wp2_with fail
  go_ret
  exact ⟨.slice (some ⟨g, 0, none⟩) n c, rfl, by rw [unhide IH]; exact unhide DN, by simp, grown_trans (grown_new B0) (unhide GR), .inl rfl⟩
 ·have hf : hitV L x = false := by simpa using hf
  rw [hf]
  have B1 : Below w2.heap.size w2 (w2.alloc (.cells #[.string x.k, .int .i64 x.t, .string x.v, .bool x.g] 43)) := (Below.refl _ _).alloc (Nat.le_refl _) _
  have IN := hide (insertV_any B a n c (posV L x) L x w2.heap.size (w2.alloc (.cells #[.string x.k, .int .i64 x.t, .string x.v, .bool x.g] 43)) (rb_ownsRow_below (unhide HO) B1) (unhide HL) (by have := unhide PL; have := unhide HL; omega) (by omega) (by have := B1.size; have := B0.size; omega) (heap_alloc_new w2 _) (fun y hy => by have := ((unhide HO).lt y.block (by rw [hy]; rfl)).2; omega))
  have ST := hide (insV_new hf)
  generalize posV L x = p at *
  generalize x.k = xk at *
  generalize x.t = xt at *
  generalize x.v = xv at *
  generalize x.g = xg at *
  go_wp2_with fail
  refine (unhide IN).mono ?_
  rintro e w5 ⟨v', rfl, hO, hne, hgr⟩
  have F := hide (And.intro hO (And.intro hne hgr))
  clear hO hne hgr
  go_wp2_with fail
  go_ret
  exact ⟨v', rfl, by rw [unhide ST]; exact (unhide F).1, (unhide F).2.1, grown_trans (grown_new (B0.trans (B1.mono B0.size))) (unhide F).2.2.1, by
   rcases (unhide F).2.2.2 with h | ⟨b, hb, h⟩
   ·exact .inl h
   ·exact .inr ⟨b, by have := B1.size; have := B0.size; omega, h⟩⟩
end Go.Proofs.YtdnjgbckkmbmfaaGreat

namespace Go.Proofs.YtdnjgbckkmbmfaaGreat
open Go.RowKit

theorem LgAt.putW {w : World} {B lb m N : Nat} {h : ByteArray → Value} {f s : Sl} {hs : List SeH} {d : VsD} (q : LgAt w B lb m N h f s hs d) {i g : Nat} (hg : s.a = some ⟨g, 0, none⟩) (hi : i < hs.length) (ws : List VerD) (s0 : Sl) (ho : VOwns w B (.slice s0.a s0.n s0.c) ws) (hap : ∀ g, (Value.slice s0.a s0.n s0.c).ownBlock = some g → ¬ NBl (.slice s.a s.n s.c) (hs.map seEl) g) (hah : ∀ k g, (h k).ownBlock = some g → (Value.slice s0.a s0.n s0.c).ownBlock ≠ some g) :
  LgAt (w.setCell ⟨g, i * 3 + 2, none⟩ (.slice s0.a s0.n s0.c)) B lb m N h f s (hs.set i ⟨⟨hs[i].X.o, hs[i].X.t, ws⟩, s0⟩) ⟨d.next, d.list, d.fen, d.ses.set i ⟨hs[i].X.o, hs[i].X.t, ws⟩⟩ ∧ LgW B w (w.setCell ⟨g, i * 3 + 2, none⟩ (.slice s0.a s0.n s0.c)) := by
 obtain ⟨sa, sn, sc⟩ := s
 simp only at hg
 subst hg
 have so : SeOwn w B (.slice (some ⟨g, 0, none⟩) sn sc) hs := q.vz.so
 have hsn : sn = hs.length := q.len.1
 subst hsn
 have hel : (hs.map seEl)[i]? = some (seEl hs[i]) := seEl_at hi
 have hil : i < (hs.map seEl).length := by rw [List.length_map]; exact hi
 obtain ⟨cur, hk⟩ := own_kind so.row (i := g) rfl
 have hB : B ≤ g := (so.row.lt g rfl).1
 have h1 := so.addAp (xs := [(⟨43, 4, ws.length, .slice s0.a s0.n s0.c, vcs ws⟩ : Sb)]) hel (fun y hy => by rw [List.mem_singleton.1 hy]; exact ho) (fun y hy g' hg' => by rw [List.mem_singleton.1 hy] at hg'; exact hap g' hg') (by
  intro a b y z hy hz hne g' h1 h2
  match a, b, hy, hz, hne with
  | 0, 0, _, _, h => exact absurd rfl h
  | a + 1, _, hy, _, _ => cases hy
  | 0, b + 1, _, hz, _ => cases hz)
 have h2 := h1.setHd (j := 2) (List.getElem?_set_self hil) (by decide) (.slice s0.a s0.n s0.c)
 rw [List.set_set] at h2
 have hw := h2.2
 have hN : SeOwn (w.setCell ⟨g, i * 3 + 2, none⟩ (.slice s0.a s0.n s0.c)) B (.slice (some ⟨g, 0, none⟩) hs.length sc) (hs.set i ⟨⟨hs[i].X.o, hs[i].X.t, ws⟩, s0⟩) := by
  unfold SeOwn
  rw [List.map_set, List.length_set]
  exact h2.1
 refine ⟨⟨?_, ?_, ⟨World.ownsRow_nil _ _ _ _, rr_owns_wr q.vz.fo hw (fun k hk e => own_other q.vz.fo so.row (by decide) hk (by rw [e]; rfl)), hN, ?_, fun k hk => by cases hk⟩, fun k g' hg' hn => ?_, q.mge, q.lge⟩, LgW.of_wr hw (fun j e => by rw [e]; exact ⟨hB, lk_kind hk (by simp)⟩)⟩
 ·exact (hw.block lb (blk_lt q.box) (fun e => own_box so.row q.box (by decide) (by rw [e]; rfl))).trans q.box
 ·exact q.his.wr hw (q.his.map.ne hk) (fun j e => by rw [e]; exact noV_kind hk (by decide))
 ·show (hs.set i _).map (·.X) = d.ses.set i _
  rw [List.map_set]
  have := q.vz.ss
  simp only at this
  rw [this]
 ·rcases nbl_set hn with hn | hn
  ·exact q.far k g' hg' hn
  ·exact hah k g' hg' hn
def awC (ws : List VerD) : Int := if 8 < ws.length then 7 else 0
def awD (d : VsD) (i : Nat) (o : Bool) (t : Int) (ws : List VerD) : VsD := if 8 < ws.length then d else ⟨d.next, d.list, d.fen, d.ses.set i ⟨o, t, ws⟩⟩
set_option maxHeartbeats 8000000 in
theorem addWrite_any (lb B m N g i : Nat) (h : ByteArray → Value) (f s : Sl) (hs : List SeH) (d : VsD) (x : VerD) (w : World) (q : LgAt w B lb m N h f s hs d) (hg : s.a = some ⟨g, 0, none⟩) (hi : i < hs.length) (hx : x.t = hs[i].X.t) (hws : wrV hs[i].X.ws hs[i].X.t = true) :
  Calls Tryz.prog 106 #[.pointer (some ⟨g, i * 3, none⟩), vv x] w fun e w' => e = .returned (.int .i64 (awC (insV hs[i].X.ws x))) ∧ (∃ hs', LgAt w' B lb m N h f s hs' (awD d i hs[i].X.o hs[i].X.t (insV hs[i].X.ws x))) ∧ LgW B w w' := by
 obtain ⟨W, hW⟩ : ∃ W, W = w.alloc (.cells #[.string x.k, .int .i64 x.t, .string x.v, .bool x.g] 43) := ⟨_, rfl⟩
 have bW : Below w.heap.size w W := by rw [hW]; exact (Below.refl _ _).alloc (Nat.le_refl _) _
 have kW : W.heap[w.heap.size]? = some (.cells #[.string x.k, .int .i64 x.t, .string x.v, .bool x.g] 43 (0, 0)) := by rw [hW]; exact heap_alloc_new _ _
 have hBw : B ≤ w.heap.size := Nat.le_of_lt (Nat.lt_of_le_of_lt q.lge (blk_lt q.box))
 have qW := q.below bW
 obtain ⟨g', hg', -, -, -, -, c1, c2, hwo, -⟩ := qW.vz.sesAt hi
 rw [hg] at hg'
 injection hg' with hg'
 injection hg' with hg' _ _
 subst hg'
 have hwl := hws
 unfold wrV at hwl
 simp only [Bool.and_eq_true, decide_eq_true_eq] at hwl
 have hsP := okVs_pair hwl.2.1
 have hsT : ∀ y ∈ hs[i].X.ws, y.t = x.t := fun y hy => by
  obtain ⟨j, hj, rfl⟩ := List.getElem_of_mem hy
  rw [hx]
  exact oneT_at hwl.2.2 hj
 have QB := hide (fun (u : World) (hu : Below W.heap.size W u) => qW.below hu)
 have VR := hide (fun (u : World) (hu : Below W.heap.size W u) => (vrow_of_owns hwo).below hu)
 have CAP := hide (cap_of_owns (s := ⟨hs[i].s0.a, hs[i].s0.n, hs[i].s0.c⟩) hwo)
 have hwn : hs[i].s0.n ≤ 8 := by have := owns_n hwo; omega
 have CC := hide (fun (ob : Nat) (u : World) (hu : Below W.heap.size W u) (hc : u.cell? ⟨ob, 0, none⟩ = some (.slice hs[i].s0.a hs[i].s0.n hs[i].s0.c)) => concatV1 ob hs[i].s0.a hs[i].s0.n hs[i].s0.c hs[i].X.ws u hc (unhide VR u hu) (unhide CAP).2 (by omega))
 have CP := hide (fun (C : Nat) (a : Option Addr) (c : Nat) (u : World) (ho : VOwns u C (.slice a hs[i].X.ws.length c) hs[i].X.ws) (hC : C ≤ u.heap.size) => placedK_any C a _ c hs[i].X.ws x u ho hsP hsT (by omega) hC)
 have PUT := hide (fun (u : World) (hu : Below W.heap.size W u) (s0 : Sl) (ho : VOwns u W.heap.size (.slice s0.a s0.n s0.c) (insV hs[i].X.ws x)) => (qW.below hu).putW hg hi (insV hs[i].X.ws x) s0 (gd_base ho (Nat.le_trans hBw bW.size)) (fun g hg hn => by have h1 := (ho.lt g hg).1; have h2 := (qW.vz.so.lt g hn).2; omega) (fun k g hg hh => by have h1 := (ho.lt g hh).1; have h2 := ((qW.his.own k).lt g hg).2; omega))
 have LW0 := hide (LgW.of_below (B := B) bW)
 have hgl : g < W.heap.size := cell_lt c2
 have hz0 : w.heap.size < W.heap.size := blk_lt kW
 have FZ := hide (fun (u : World) (hu : Below W.heap.size W u) (j : Nat) => show u.frozen? ⟨g, j, none⟩ = false from by
  have := (qW.below hu).vz.so
  rw [hg] at this
  unfold SeOwn at this
  rw [← q.len.1] at this
  exact this.free j)
 unfold vv at CP ⊢
 clear q qW bW hwo hws hwl hsP hsT hx
 generalize insV hs[i].X.ws x = nws at *
 generalize hs[i].X.ws = ws at *
 generalize hs[i].X.o = so at *
 generalize hs[i].X.t = st at *
 generalize hs[i].s0 = s0 at *
 obtain ⟨wa, wn, wc⟩ := s0
 obtain ⟨xk, xt, xv, xg⟩ := x
 simp only at c1 c2 CC CP hW kW hwn VR CAP PUT ⊢
 have SK := hide (show ∀ u, Below W.heap.size W u → (u.cell? ⟨g, i * 3 + 2, none⟩ = some (.slice wa wn wc) ∧ u.cell? ⟨w.heap.size, 0, none⟩ = some (.string xk) ∧ u.cell? ⟨w.heap.size, 1, none⟩ = some (.int .i64 xt) ∧ u.cell? ⟨w.heap.size, 2, none⟩ = some (.string xv) ∧ u.cell? ⟨w.heap.size, 3, none⟩ = some (.bool xg)) from fun u hu => ⟨(hu.cell (p := ⟨g, i * 3 + 2, none⟩) hgl).trans c2, (hu.cell (p := ⟨w.heap.size, 0, none⟩) hz0).trans (heap_at kW 0).1, (hu.cell (p := ⟨w.heap.size, 1, none⟩) hz0).trans (heap_at kW 1).1, (hu.cell (p := ⟨w.heap.size, 2, none⟩) hz0).trans (heap_at kW 2).1, (hu.cell (p := ⟨w.heap.size, 3, none⟩) hz0).trans (heap_at kW 3).1⟩)
 have G0 := hide (Below.refl W.heap.size W).drew
 clear c1 c2 kW VR CAP
 go_enter Tryz.func106, Tryz.ntmps106
 go_upto_region 1 with fail
 rw [← hW]
 clear hW
 refine wp_region_held_drew (S := (fun u => (u.cell? ⟨g, i * 3 + 2, none⟩ = some (.slice wa wn wc) ∧ u.cell? ⟨w.heap.size, 0, none⟩ = some (.string xk) ∧ u.cell? ⟨w.heap.size, 1, none⟩ = some (.int .i64 xt) ∧ u.cell? ⟨w.heap.size, 2, none⟩ = some (.string xv) ∧ u.cell? ⟨w.heap.size, 3, none⟩ = some (.bool xg)))) (by kernel_rfl) (unhide SK _ (unhide G0)) (fun hHeld => ?_)
 generalize W.drew = u0 at *
 refine tk 0 6 rfl rfl hHeld ?_
 simp only [Act.put, lA, lB, lC]
 refine tk 1 7 rfl rfl hHeld ?_
 simp only [Act.put, lA, lB, lC]
 refine tk 2 8 rfl rfl hHeld ?_
 simp only [Act.put, lA, lB, lC]
 refine tk 3 9 rfl rfl hHeld ?_
 simp only [Act.put, lA, lB, lC]
 refine tk 6 12 rfl rfl hHeld ?_
 simp only [Act.put, lA, lB, lC]
 refine rd [4] (.cons rfl (fun K hK => ?_) .nil)
 have bA : Below u0.heap.size u0 (u0.alloc (.cells #[.slice wa wn wc] 25)) := (Below.refl _ _).alloc (Nat.le_refl _) _
 have C7 := hide (show (u0.alloc (.cells #[.slice wa wn wc] 25)).cell? ⟨u0.heap.size, 0, none⟩ = some (.slice wa wn wc) from (heap_at (heap_alloc_new _ _) 0).1)
 have G4 := hide ((unhide G0).trans (bA.mono (unhide G0).size))
 go_simp
 generalize u0.alloc (.cells #[.slice wa wn wc] 25) = u4 at *
 generalize hq7 : u0.heap.size = o7 at *
 clear bA
 refine hK.out _ _ (unhide SK _ (unhide G4)) (fun hHeld => ?_)
 clear hK K
 refine rd [5] (.cons rfl (fun K hK => ?_) .nil)
 go_simp
 refine (unhide CC _ _ (unhide G4) (unhide C7)).mono ?_
 rintro e u5 ⟨v5, rfl, o5, b5⟩
 obtain ⟨⟨a5, n5, c5⟩, rfl, -⟩ := v_slice o5
 have hn5 : n5 = ws.length := owns_n o5
 subst hn5
 have O5 := hide (show VOwns u5 W.heap.size (.slice a5 ws.length c5) ws from gd_base o5 (unhide G4).size)
 have G5 := hide ((unhide G4).trans (b5.mono (unhide G4).size))
 clear o5 b5
 refine hK.out _ _ (unhide SK _ (unhide G5)) (fun hHeld => ?_)
 clear hK K
 refine rd [7] (.cons rfl (fun K hK => ?_) .nil)
 go_simp
 refine (unhide CP W.heap.size a5 c5 u5 (unhide O5) (unhide G5).size).mono ?_
 rintro e u6 ⟨v6, rfl, o6, n6, g6, -⟩
 have G6 := hide ((unhide G5).grown g6 (unhide G5).size (fun k hk => ((unhide O5).lt k hk).1))
 obtain ⟨⟨a6, n6s, c6⟩, rfl, -⟩ := v_slice o6
 have hn6 : n6s = nws.length := owns_n o6
 subst hn6
 have O6 := hide o6
 clear o6 g6 n6
 refine hK.out _ _ (unhide SK _ (unhide G6)) (fun hHeld => ?_)
 clear hK K
 refine tk 8 5 rfl rfl hHeld ?_
 simp only [Act.put, lA, lB, lC]
 refine wpAnyH_done (by kernel_rfl) ?_ _
 clear hHeld
 have SKE := unhide SK _ (unhide G6)
 have c2 := SKE.1
 have LW6 := hide (LgW.of_below (B := B) (unhide G6))
 clear SKE SK CC CP C7 O5
 by_cases h8 : 8 < nws.length
 ·have h8i : (8 : Int) < (nws.length : Int) := by omega
  have RES := hide (show LgAt u6 B lb m N h f s hs (awD d i so st nws) by unfold awD; rw [if_pos h8]; exact unhide QB _ (unhide G6))
  have EC := hide (show awC nws = 7 by unfold awC; rw [if_pos h8])
  go_wp2_with fail
  go_ret
  exact ⟨ret_int (unhide EC).symm, ⟨_, unhide RES⟩, (unhide LW0).trans (unhide LW6)⟩
 ·have h8i : ¬ (8 : Int) < (nws.length : Int) := by omega
  have EC := hide (show awC nws = 0 by unfold awC; rw [if_neg h8])
  have ED := hide (show awD d i so st nws = ⟨d.next, d.list, d.fen, d.ses.set i ⟨so, st, nws⟩⟩ by unfold awD; rw [if_neg h8])
  have RES := hide (unhide PUT _ (unhide G6) ⟨a6, nws.length, c6⟩ (unhide O6))
  have f2 := unhide FZ _ (unhide G6) (i * 3 + 2)
  simp only at RES
  generalize hnl : nws.length = nl at *
  clear hnl
  go_wp2_with fail
  go_ret
  exact ⟨ret_int (unhide EC).symm, ⟨_, by rw [unhide ED]; exact (unhide RES).1⟩, (unhide LW0).trans ((unhide LW6).trans (unhide RES).2)⟩
end Go.Proofs.YtdnjgbckkmbmfaaGreat

namespace Go.Proofs.YtdnjgbckkmbmfaaGreat
open Go.RowKit

theorem getD_is {α : Type} {xs : List α} {d : α} {i : Nat} (h : i < xs.length) : xs.getD i d = xs[i] := by simp [List.getD, h]
end Go.Proofs.YtdnjgbckkmbmfaaGreat

namespace Go.Proofs.YtdnjgbckkmbmfaaGreat
open Go.RowKit

theorem ltV_irr (a : VerD) : ltV a a = false := by unfold ltV; rw [ltK_irr]; simp
theorem rise_one : ∀ (l m : List VerD), (l.Pairwise fun a b => ltV a b = true) → (m.Pairwise fun a b => ltV a b = true) → (∀ x, x ∈ l ↔ x ∈ m) → l = m
 | [], m, _, _, h => by
  cases m with
  | nil => rfl
  | cons y s => exact absurd ((h y).2 (List.mem_cons_self ..)) List.not_mem_nil
 | x :: r, [], _, _, h => absurd ((h x).1 (List.mem_cons_self ..)) List.not_mem_nil
 | x :: r, y :: s, hl, hm, h => by
  obtain ⟨hx, hr⟩ := List.pairwise_cons.1 hl
  obtain ⟨hy, hs⟩ := List.pairwise_cons.1 hm
  have e : x = y := by
   rcases List.mem_cons.1 ((h x).1 (List.mem_cons_self ..)) with e | e
   ·exact e
   ·rcases List.mem_cons.1 ((h y).2 (List.mem_cons_self ..)) with e2 | e2
    ·exact e2.symm
    ·have := ltV_trans (hx y e2) (hy x e)
     rw [ltV_irr] at this
     exact absurd this (by decide)
  subst e
  have hrs := rise_one r s hr hs fun z => by
   constructor
   ·intro hz
    rcases List.mem_cons.1 ((h z).1 (List.mem_cons_of_mem _ hz)) with e | e
    ·subst e
     have := hx z hz
     rw [ltV_irr] at this
     exact absurd this (by decide)
    ·exact e
   ·intro hz
    rcases List.mem_cons.1 ((h z).2 (List.mem_cons_of_mem _ hz)) with e | e
    ·subst e
     have := hy z hz
     rw [ltV_irr] at this
     exact absurd this (by decide)
    ·exact e
  rw [hrs]
theorem grp_mem {ds : List VerD} {k : ByteArray} {x : VerD} : x ∈ grp ds k ↔ x ∈ ds ∧ x.k = k := by
 unfold grp
 rw [List.mem_filter, decide_eq_true_eq]
theorem grp_sub (ds : List VerD) (k : ByteArray) : (grp ds k).Sublist ds := List.filter_sublist
theorem dkeys_mem {ds : List VerD} {k : ByteArray} : k ∈ dkeys ds ↔ ∃ x ∈ ds, x.k = k := by
 unfold dkeys
 rw [dk_mem ds k _ (Nat.le_refl _)]
 constructor
 ·rintro ⟨i, hi, _, e⟩
  exact ⟨_, List.getElem_mem hi, e⟩
 ·rintro ⟨x, hx, e⟩
  obtain ⟨i, hi, rfl⟩ := List.getElem_of_mem hx
  exact ⟨i, hi, hi, e⟩
theorem list_flat {ds : List VerD} (ok : okVs ds = true) : (dkeys ds).flatMap (grp ds) = ds := by
 refine rise_one _ _ (List.pairwise_flatMap.2 ⟨fun k _ => (okVs_pair ok).sublist (grp_sub ds k), ?_⟩) (okVs_pair ok) fun x => ?_
 ·refine (dk_rise ok _ (Nat.le_refl _)).imp fun {a b} h x hx y hy => ?_
  unfold ltV
  rw [(grp_mem.1 hx).2, (grp_mem.1 hy).2, h]
  rfl
 ·rw [List.mem_flatMap]
  constructor
  ·rintro ⟨k, _, hx⟩
   exact (grp_mem.1 hx).1
  ·intro hx
   exact ⟨x.k, dkeys_mem.2 ⟨x, hx, rfl⟩, grp_mem.2 ⟨hx, rfl⟩⟩
end Go.Proofs.YtdnjgbckkmbmfaaGreat

namespace Go.Proofs.YtdnjgbckkmbmfaaGreat
open Go.RowKit Go.Maps Go.Sort

structure HisRd (w : World) (m N : Nat) (f : ByteArray → Value) (ds : List VerD) : Prop where
 map : HMap w m N f
 row : ∀ k, ∃ a c, f k = .slice a (grp ds k).length c ∧ VRow w a (grp ds k).length (grp ds k) ∧ (grp ds k).length ≤ c
 no : ∀ k, grp ds k = [] → f k = .slice none 0 0
theorem HisRd.below {w w' : World} {m N : Nat} {f : ByteArray → Value} {ds : List VerD} (h : HisRd w m N f ds) (hb : Below w.heap.size w w') : HisRd w' m N f ds :=
 ⟨h.map.block (hb.block m h.map.lt), fun k => by obtain ⟨a, c, e, r, hc⟩ := h.row k; exact ⟨a, c, e, r.below hb, hc⟩, h.no⟩
theorem HisAt.rd {w : World} {m N B : Nat} {f : ByteArray → Value} {ds : List VerD} (h : HisAt w m N B f ds) : HisRd w m N f ds :=
 ⟨h.map, fun k => by
  obtain ⟨a, c, e⟩ := vowns_slice2 (h.own k)
  have ho := h.own k
  rw [e] at ho
  refine ⟨a, c, e, vrow_of_owns ho, ?_⟩
  rcases ho.2 with ⟨e2, h0⟩ | ⟨g, cap, cur, e2, _, _, hc, _⟩
  ·omega
  ·injection e2 with _ _ e2; omega, h.no⟩
end Go.Proofs.YtdnjgbckkmbmfaaGreat
