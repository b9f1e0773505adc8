/-
  TxH, TxK, CbA, CbI, CbJ, ReL, LtL, LtR, Bits, ScB, LtS, RpI, RpJ, RcI, RcJ, RcK, RpS, RpT, VsC, RcS in one.
-/
import Derived.Test.YtcflepnckjappaaGreatReAll2
import Derived.Test.YtcflepnckjappaaGreatVrL
import Derived.Test.YtcflepnckjappaaGreatTakes
import Derived.Lib.AppendStr
import Derived.Test.YtcflepnckjappaaGreatReAll1
import Derived.Test.YtcflepnckjappaaGreatScL
import Derived.Test.YtcflepnckjappaaGreatRcL
import Derived.Test.YtcflepnckjappaaGreatImC
import Derived.Test.YtcflepnckjappaaGreatBase
import Derived.Laws.BitsAllLaws
import Derived.Laws.Bits64
import Derived.Test.YtcflepnckjappaaGreatWrT
import Derived.Test.YtcflepnckjappaaGreatAppL
import Derived.Laws.AppendOwnNone
import Derived.Deep.Cut
import Derived.Test.YtcflepnckjappaaGreatRpL
import Derived.Test.YtcflepnckjappaaGreatVrT
namespace Go.Proofs.YtcflepnckjappaaGreat
open Go.RowKit

abbrev repC (c t : Int) (v : ByteArray) (s : Sl) : Array Value := #[.int .i64 c, .int .i64 t, .string v, .slice s.a s.n s.c]
/-- What a step leaves: versions as they read, a reply whose list is its own. -/
def StRes (l0 f0 s0 : Sl) (hs0 : List SeH) (d0 : VsD) (p : VsD × RepD) (w : World) (e : Ending) (w' : World) : Prop := ∃ l f s hs r, e = .returned (.tuple #[.agg (vzC p.1.next l f s), .agg (repC p.2.code p.2.time p.2.val r)]) ∧ ((l = l0 ∧ f = f0 ∧ s = s0 ∧ hs = hs0 ∧ p.1 = d0) ∨ VzOwn w' w.heap.size l f s hs p.1) ∧ EOwns w' w.heap.size (.slice r.a r.n r.c) p.2.list ∧ Below w.heap.size w w'
abbrev sv4 (w : World) (b : Nat) (v0 v1 v2 v3 : Value) : World := (((w.setCell ⟨b, 0, none⟩ v0).setCell ⟨b, 1, none⟩ v1).setCell ⟨b, 2, none⟩ v2).setCell ⟨b, 3, none⟩ v3
theorem sv4_wr (w : World) (b : Nat) (v0 v1 v2 v3 : Value) : WrB (fun i => i = b) w (sv4 w b v0 v1 v2 v3) := set4_wr w b v0 v1 v2 v3
theorem sv4_heap {w : World} {b : Nat} {u0 u1 u2 u3 : Value} {t : TypeId} (h : w.heap[b]? = some (.cells #[u0, u1, u2, u3] t (0, 0))) (v0 v1 v2 v3 : Value) : (sv4 w b v0 v1 v2 v3).heap[b]? = some (.cells #[v0, v1, v2, v3] t (0, 0)) := by
  have h1 := heap_set h 0 v0
  have h2 := heap_set h1 1 v1
  have h3 := heap_set h2 2 v2
  have h4 := heap_set h3 3 v3
  simpa using h4
theorem bel_sv4 {B b : Nat} {w u : World} (h : Below B w u) (hb : B ≤ b) (v0 v1 v2 v3 : Value) : Below B w (sv4 u b v0 v1 v2 v3) :=
  (((h.setCell (p := ⟨b, 0, none⟩) hb v0).setCell (p := ⟨b, 1, none⟩) hb v1).setCell (p := ⟨b, 2, none⟩) hb v2).setCell (p := ⟨b, 3, none⟩) hb v3
theorem VzOwn.sv {w : World} {B b : Nat} {l f s : Sl} {hs : List SeH} {d : VsD} (h : VzOwn w B l f s hs d) (hb : b < B) (v0 v1 v2 v3 : Value) : VzOwn (sv4 w b v0 v1 v2 v3) B l f s hs d := h.wr (sv4_wr w b v0 v1 v2 v3) (fun i e => by rw [e]; exact hb)
/-- What was laid besides is let alone by a write into a box that holds no version, fence or session. -/
theorem VzOwn.box {w w' : World} {B b : Nat} {l f s : Sl} {hs : List SeH} {d : VsD} {cs : Array Value} {t : TypeId} (h : VzOwn w B l f s hs d) (hk : w.heap[b]? = some (.cells cs t (0, 0))) (h1 : 51 ≠ t) (h2 : 232 ≠ t) (h3 : 212 ≠ t) (hw : WrB (fun i => i = b) w w') : VzOwn w' B l f s hs d :=
  ⟨own_keep h.vo hk h1 hw, own_keep h.fo hk h2 hw, h.so.keep hw (fun i hi e => by subst e; exact se_box h.so hk h3 h1 hi), h.ss, h.far⟩
theorem VzOwn.apart {w w' : World} {B : Nat} {l f s : Sl} {hs : List SeH} {d : VsD} (h : VzOwn w B l f s hs d) {P : Nat → Prop} (hw : WrB P w w') (h1 : ∀ i, (Value.slice l.a l.n l.c).ownBlock = some i → ¬ P i) (h2 : ∀ i, (Value.slice f.a f.n f.c).ownBlock = some i → ¬ P i) (h3 : ∀ i, NBl (.slice s.a s.n s.c) (hs.map seEl) i → ¬ P i) : VzOwn w' B l f s hs d :=
  ⟨rr_owns_wr h.vo hw h1, rr_owns_wr h.fo hw h2, h.so.keep hw h3, h.ss, h.far⟩
/-- A session as it lies in versions of the call's own. -/
theorem VzOwn.sesAt {u : World} {B : Nat} {l f s : Sl} {hs : List SeH} {d : VsD} (h : VzOwn u B l f s hs d) {i : Nat} (hi : i < hs.length) : ∃ g, s.a = some ⟨g, 0, none⟩ ∧ s.n = hs.length ∧ B ≤ g ∧ g < u.heap.size ∧ u.cell? ⟨g, i * 3, none⟩ = some (.bool hs[i].X.o) ∧ u.cell? ⟨g, i * 3 + 1, none⟩ = some (.int .i64 hs[i].X.t) ∧ u.cell? ⟨g, i * 3 + 2, none⟩ = some (.slice hs[i].s0.a hs[i].s0.n hs[i].s0.c) ∧ VOwns u B (.slice hs[i].s0.a hs[i].s0.n hs[i].s0.c) hs[i].X.ws ∧ ∃ hd : i < d.ses.length, hs[i].X = d.ses[i] := by
  have hne : Value.slice s.a s.n s.c ≠ .slice none 0 0 := fun e => by
    have h1 := h.so.row.2
    rw [e] at h1
    rcases h1 with ⟨_, h1⟩ | ⟨_, _, _, h1, _⟩
    · omega
    · cases h1
  obtain ⟨g, c, e, hB, hg, hc⟩ := owns_form h.so.row hne
  obtain ⟨sa, sn, sc⟩ := s
  injection e with e1 e2 e3
  subst e1 e2 e3
  have hel : (hs.map seEl)[i]? = some (seEl hs[i]) := seEl_at hi
  refine ⟨g, rfl, rfl, hB, hg, ?_, h.so.cell hel (j := 1) rfl, h.so.cell hel (j := 2) rfl, h.so.dat i 0 _ (by unfold sbAt; rw [hel]; rfl), h.reads.at hi⟩
  have := h.so.cell hel (j := 0) rfl
  simpa using this
/-- A session laid in another's place. -/
theorem VzOwn.put {u : World} {B : Nat} {l f s : Sl} {hs : List SeH} {d : VsD} (h : VzOwn u B l f s hs d) {i : Nat} (hi : i < hs.length) (x : SeH) (ho : VOwns u B (.slice x.s0.a x.s0.n x.s0.c) x.X.ws) (hap : ∀ g, (Value.slice x.s0.a x.s0.n x.s0.c).ownBlock = some g → ¬ NBl (.slice s.a s.n s.c) (hs.map seEl) g ∧ (Value.slice l.a l.n l.c).ownBlock ≠ some g) :
    ∃ g, s.a = some ⟨g, 0, none⟩ ∧ B ≤ g ∧ (u.cell? ⟨g, i * 3, none⟩ = some (.bool hs[i].X.o) ∧ u.cell? ⟨g, i * 3 + 1, none⟩ = some (.int .i64 hs[i].X.t) ∧ u.cell? ⟨g, i * 3 + 2, none⟩ = some (.slice hs[i].s0.a hs[i].s0.n hs[i].s0.c)) ∧ (∀ j, u.frozen? ⟨g, j, none⟩ = false) ∧
      VzOwn (((u.setCell ⟨g, i * 3, none⟩ (.bool x.X.o)).setCell ⟨g, i * 3 + 1, none⟩ (.int .i64 x.X.t)).setCell ⟨g, i * 3 + 1 + 1, none⟩ (.slice x.s0.a x.s0.n x.s0.c)) B l f s (hs.set i x) ⟨d.next, d.list, d.fen, d.ses.set i x.X⟩ ∧
      WrB (fun k => k = g) u (((u.setCell ⟨g, i * 3, none⟩ (.bool x.X.o)).setCell ⟨g, i * 3 + 1, none⟩ (.int .i64 x.X.t)).setCell ⟨g, i * 3 + 1 + 1, none⟩ (.slice x.s0.a x.s0.n x.s0.c)) ∧ (∃ cur, u.heap[g]? = some (.cells cur 212 (0, 0))) := by
  have hne : Value.slice s.a s.n s.c ≠ .slice none 0 0 := fun e => by
    have h1 := h.so.row.2
    rw [e] at h1
    rcases h1 with ⟨_, h1⟩ | ⟨_, _, _, h1, _⟩
    · omega
    · cases h1
  obtain ⟨g, c, e, hB, hg, hc⟩ := owns_form h.so.row hne
  obtain ⟨sa, sn, sc⟩ := s
  injection e with e1 e2 e3
  subst e1 e2 e3
  have hki := own_kind h.so.row (i := g) rfl
  have hel : (hs.map seEl)[i]? = some (seEl hs[i]) := seEl_at hi
  have hil : i < (hs.map seEl).length := by rw [List.length_map]; exact hi
  have h1 := h.so.addAp (xs := (seEl x).sb) hel (fun y hy => by rw [List.mem_singleton.1 hy]; exact ho) (fun y hy g' hg' => by rw [List.mem_singleton.1 hy] at hg'; exact (hap g' hg').1) (by
    intro a b y z hy hz hne g' h1 h2
    match a, b, hy, hz, hne with
    | 0, 0, _, _, h => exact absurd rfl h
    | a + 1, _, hy, _, _ => cases hy
    | 0, b + 1, _, hz, _ => cases hz)
  have h2 := NOwn.store (seEl x).hd (seEl hs[i]).hd [] h1 (List.getElem?_set_self hil) rfl
  rw [List.set_set] at h2
  have hW : WrB (fun k => k = g) u (((u.setCell ⟨g, i * 3, none⟩ (.bool x.X.o)).setCell ⟨g, i * 3 + 1, none⟩ (.int .i64 x.X.t)).setCell ⟨g, i * 3 + 1 + 1, none⟩ (.slice x.s0.a x.s0.n x.s0.c)) := (set1_wr _ _ _ _).seq ((set1_wr _ _ _ _).seq (set1_wr _ _ _ _))
  have hN : SeOwn (((u.setCell ⟨g, i * 3, none⟩ (.bool x.X.o)).setCell ⟨g, i * 3 + 1, none⟩ (.int .i64 x.X.t)).setCell ⟨g, i * 3 + 1 + 1, none⟩ (.slice x.s0.a x.s0.n x.s0.c)) B (.slice (some ⟨g, 0, none⟩) hs.length sc) (hs.set i x) := by
    unfold SeOwn
    rw [List.map_set, List.length_set]
    exact h2
  refine ⟨g, rfl, hB, ⟨?_, ?_, ?_⟩, fun j => h.so.free j, ⟨rr_owns_wr h.vo hW (fun k hk e => by subst e; exact h.far k hk (.inl rfl)), rr_owns_wr h.fo hW (fun k hk e => own_other h.fo h.so.row (by decide) hk (by rw [e]; rfl)), hN, by rw [List.map_set, h.ss], fun k hk hn => ?_⟩, hW, hki⟩
  · have := h.so.cell hel (j := 0) rfl
    simpa using this
  · exact h.so.cell hel (j := 1) rfl
  · exact h.so.cell hel (j := 2) rfl
  · rcases hn with hn | ⟨k', a, y, hy, hn⟩
    · exact h.far k hk (.inl hn)
    · rw [List.map_set] at hy
      rw [sbAt_set hil] at hy
      by_cases hki' : k' = i
      · rw [if_pos hki'] at hy
        have h2 : y.v = .slice x.s0.a x.s0.n x.s0.c := by
          match a, hy with
          | 0, hy => injection hy with hy; rw [← hy]
          | a + 1, hy => cases hy
        rw [h2] at hn
        exact (hap k hn).2 hk
      · rw [if_neg hki'] at hy
        exact h.far k hk (.inr ⟨k', a, y, hy, hn⟩)
end Go.Proofs.YtcflepnckjappaaGreat

namespace Go.Proofs.YtcflepnckjappaaGreat
open Go.RowKit

theorem insV_cons (e : VerD) (r : List VerD) (x : VerD) : insV (e :: r) x = if ltV e x = true then e :: insV r x else if sameV e x = true then x :: r else x :: e :: r := by
  by_cases h : ltV e x = true
  · rw [if_pos h]
    have hp : posV (e :: r) x = posV r x + 1 := by rw [posV, if_pos h]
    have hh : hitV (e :: r) x = hitV r x := by unfold hitV; rw [hp]; rfl
    unfold insV
    rw [hh, hp, List.take_succ_cons, List.cons_append, show posV r x + 1 + (if hitV r x = true then 1 else 0) = (posV r x + (if hitV r x = true then 1 else 0)) + 1 by omega, List.drop_succ_cons]
  · rw [if_neg h]
    have hp : posV (e :: r) x = 0 := by rw [posV, if_neg h]
    have hh : hitV (e :: r) x = sameV e x := by unfold hitV; rw [hp]; rfl
    unfold insV
    rw [hh, hp]
    by_cases hs : sameV e x = true
    · rw [if_pos hs, if_pos hs]; rfl
    · rw [if_neg hs, if_neg hs]; rfl
theorem insV_mem (x y : VerD) : ∀ ds : List VerD, y ∈ insV ds x → y = x ∨ y ∈ ds
  | [], h => by simp [insV, posV, hitV] at h; exact .inl h
  | e :: r, h => by
    rw [insV_cons] at h
    split at h
    · rcases List.mem_cons.1 h with rfl | h
      · exact .inr (List.mem_cons_self ..)
      · rcases insV_mem x y r h with h | h
        · exact .inl h
        · exact .inr (List.mem_cons_of_mem _ h)
    · split at h
      · rcases List.mem_cons.1 h with rfl | h
        · exact .inl rfl
        · exact .inr (List.mem_cons_of_mem _ h)
      · rcases List.mem_cons.1 h with rfl | h
        · exact .inl rfl
        · exact .inr h
theorem ltV_tot {a b : VerD} (h : ltV a b = false) (hs : sameV a b = false) : ltV b a = true := by
  unfold ltV sameV at *
  cases hb : ltK b.k a.k
  · cases ha : ltK a.k b.k
    · have hk := ltK_eq ha hb
      rw [ha, hk] at h
      rw [hk] at hs ⊢
      simp at h hs ⊢
      omega
    · rw [ha] at h; simp at h
  · simp
theorem ltV_same {a b c : VerD} (hs : sameV a b = true) (h : ltV a c = true) : ltV b c = true := by
  unfold sameV at hs
  unfold ltV at *
  simp only [Bool.and_eq_true, decide_eq_true_eq] at hs
  rw [← hs.1, ← hs.2]
  exact h
theorem insV_pair (x : VerD) : ∀ ds : List VerD, (ds.Pairwise fun a b => ltV a b = true) → (insV ds x).Pairwise fun a b => ltV a b = true
  | [], _ => by simp [insV, posV, hitV]
  | e :: r, h => by
    obtain ⟨h1, h2⟩ := List.pairwise_cons.1 h
    rw [insV_cons]
    split
    · rename_i hl
      refine List.pairwise_cons.2 ⟨fun y hy => ?_, insV_pair x r h2⟩
      rcases insV_mem x y r hy with rfl | hy
      · exact hl
      · exact h1 y hy
    · rename_i hl
      split
      · rename_i hs
        exact List.pairwise_cons.2 ⟨fun y hy => ltV_same hs (h1 y hy), h2⟩
      · rename_i hs
        have hx : ltV x e = true := ltV_tot (by simpa using hl) (by simpa using hs)
        refine List.pairwise_cons.2 ⟨fun y hy => ?_, h⟩
        rcases List.mem_cons.1 hy with rfl | hy
        · exact hx
        · exact ltV_trans hx (h1 y hy)
theorem okVs_iff (ds : List VerD) : okVs ds = true ↔ (∀ d ∈ ds, verK d = true) ∧ ds.Pairwise (fun a b => ltV a b = true) := by
  refine ⟨fun h => ⟨fun d hd => ?_, okVs_pair h⟩, fun h => okVs_true fun i hi => ?_⟩
  · obtain ⟨i, hi, rfl⟩ := List.getElem_of_mem hd
    exact okVs_ver h hi
  · cases i with
    | zero => rw [okAtV_zero hi]; exact h.1 _ (List.getElem_mem hi)
    | succ i =>
      rw [okAtV_succ hi, h.1 _ (List.getElem_mem hi), List.pairwise_iff_getElem.1 h.2 i (i + 1) (by omega) hi (by omega)]
      rfl
theorem okVs_ins {ds : List VerD} {x : VerD} (h : okVs ds = true) (hx : verK x = true) : okVs (insV ds x) = true := by
  rw [okVs_iff] at h ⊢
  refine ⟨fun d hd => ?_, insV_pair x ds h.2⟩
  rcases insV_mem x d ds hd with rfl | hd
  · exact hx
  · exact h.1 d hd
theorem okVs_fold : ∀ (ws : List VerD) (ds : List VerD), okVs ds = true → (∀ x ∈ ws, verK x = true) → okVs (ws.foldl insV ds) = true
  | [], _, h, _ => h
  | x :: r, ds, h, hw => okVs_fold r (insV ds x) (okVs_ins h (hw x (List.mem_cons_self ..))) (fun y hy => hw y (List.mem_cons_of_mem _ hy))
theorem fold_mem (y : VerD) : ∀ (ws : List VerD) (ds : List VerD), y ∈ ws.foldl insV ds → y ∈ ws ∨ y ∈ ds
  | [], _, h => .inr h
  | x :: r, ds, h => by
    rcases fold_mem y r (insV ds x) h with h | h
    · exact .inl (List.mem_cons_of_mem _ h)
    · rcases insV_mem x y ds h with rfl | h
      · exact .inl (List.mem_cons_self ..)
      · exact .inr h
theorem fold_len : ∀ (ws : List VerD) (ds : List VerD), (ws.foldl insV ds).length ≤ ds.length + ws.length
  | [], _ => by simp
  | x :: r, ds => by
    rw [List.foldl_cons]
    have := fold_len r (insV ds x)
    have := insV_len ds x
    simp only [List.length_cons]
    omega
theorem sum_set {α : Type} (f : α → Nat) : ∀ (l : List α) (i : Nat) (x : α) (h : i < l.length), ((l.set i x).map f).sum + f l[i] = (l.map f).sum + f x
  | [], i, x, h => by simp at h
  | y :: r, 0, x, _ => by simp; omega
  | y :: r, i + 1, x, h => by
    have := sum_set f r i x (by simpa using h)
    simp only [List.set_cons_succ, List.map_cons, List.sum_cons, List.getElem_cons_succ]
    omega
/-- Versions behind so many acts. -/
structure RunV (d : VsD) (k : Nat) : Prop where
  nx : 1 ≤ d.next ∧ d.next ≤ 1000
  ses : d.ses.length = 4
  ok : okVs d.list = true
  late : ∀ x ∈ d.list, x.t < d.next
  fk : ∀ f ∈ d.fen, fenK d.next f = true
  sk : ∀ s ∈ d.ses, sesK d.next s = true
  cnt : d.list.length + (d.ses.map (·.ws.length)).sum ≤ k
  fen : d.fen.length ≤ k
theorem RunV.okD {d : VsD} {k : Nat} (h : RunV d k) (hk : k ≤ 4096) : okVsD d = true := by
  have h1 := h.cnt
  have h2 := h.fen
  unfold okVsD topK lateK
  rw [decide_eq_true (show 1 ≤ d.next ∧ d.next ≤ 1000 ∧ d.list.length ≤ 4096 ∧ d.fen.length ≤ 4096 ∧ d.ses.length = 4 from ⟨h.nx.1, h.nx.2, by omega, by omega, h.ses⟩), h.ok, List.all_eq_true.2 (fun x hx => decide_eq_true (h.late x hx)), List.all_eq_true.2 h.fk, List.all_eq_true.2 h.sk]
  rfl
theorem sesK_open {n : Int} {s : SesD} (h : sesK n s = true) (ho : s.o = true) : 1 ≤ s.t ∧ s.t < n ∧ wrV s.ws s.t = true := by
  unfold sesK at h
  rw [if_pos ho] at h
  simp only [Bool.and_eq_true, decide_eq_true_eq] at h
  exact ⟨h.1, h.2.1, h.2.2⟩
theorem sesK_up {n m : Int} {s : SesD} (h : sesK n s = true) (hm : n ≤ m) : sesK m s = true := by
  unfold sesK at *
  split
  · rename_i ho
    rw [if_pos ho] at h
    simp only [Bool.and_eq_true, decide_eq_true_eq] at h ⊢
    exact ⟨h.1, by omega, h.2.2⟩
  · rename_i ho
    rw [if_neg ho] at h
    exact h
theorem fenK_up {n m : Int} {f : FenD} (h : fenK n f = true) (hm : n ≤ m) : fenK m f = true := by
  unfold fenK at *
  simp only [Bool.and_eq_true, decide_eq_true_eq] at h ⊢
  exact ⟨h.1, h.2.1, h.2.2.1, by omega⟩
theorem clS_ok (n : Int) : sesK n clS = true := rfl
theorem RunV.more {d : VsD} {k m : Nat} (h : RunV d k) (hm : k ≤ m) : RunV d m := ⟨h.nx, h.ses, h.ok, h.late, h.fk, h.sk, by have := h.cnt; omega, by have := h.fen; omega⟩
/-- A session is closed. -/
theorem RunV.close {d : VsD} {k : Nat} (h : RunV d k) {i : Nat} (hi : i < 4) : RunV ⟨d.next, d.list, d.fen, d.ses.set i clS⟩ k := by
  have hil : i < d.ses.length := by rw [h.ses]; exact hi
  refine ⟨h.nx, by simp [h.ses], h.ok, h.late, h.fk, fun s hs => ?_, ?_, h.fen⟩
  · rcases List.mem_or_eq_of_mem_set hs with hs | rfl
    · exact h.sk s hs
    · exact clS_ok _
  · have h1 := sum_set (fun s : SesD => s.ws.length) d.ses i clS hil
    have h2 := h.cnt
    simp only [clS, List.length_nil] at h1 ⊢
    omega
theorem RunV.fence {d : VsD} {k : Nat} (h : RunV d k) {f : FenD} (hf : fenK d.next f = true) {r : RepD} : RunV (fenV d f r).1 (k + 1) := by
  unfold fenV
  split
  · exact h.more (Nat.le_succ _)
  · refine ⟨h.nx, h.ses, h.ok, h.late, fun x hx => ?_, h.sk, by have := h.cnt; simp only at this ⊢; omega, by have := h.fen; simp only [List.length_append, List.length_singleton]; omega⟩
    rcases List.mem_append.1 hx with hx | hx
    · exact h.fk x hx
    · rw [List.mem_singleton.1 hx]; exact hf
theorem nulK_size (k : ByteArray) : (nulK k).size = k.size + 1 := by
  unfold nulK
  rw [ByteArray.size_append]
  rfl
theorem RunV.step {d : VsD} {k : Nat} (h : RunV d k) (a : TxD) : RunV (stepV d a).1 (k + 1) := by
  unfold stepV
  split
  · exact h.more (Nat.le_succ _)
  rename_i hk
  split
  · exact h.more (Nat.le_succ _)
  rename_i hs
  have hi : a.ses.toNat < 4 := by omega
  generalize a.ses.toNat = i at *
  have hil : i < d.ses.length := by rw [h.ses]; exact hi
  have hg : d.ses.getD i clS = d.ses[i] := by rw [List.getD_eq_getElem?_getD, List.getElem?_eq_getElem hil]; rfl
  rw [hg]
  have hsk := h.sk d.ses[i] (List.getElem_mem hil)
  have hnx := h.nx
  unfold sesV
  split
  · split
    · exact h.more (Nat.le_succ _)
    split
    · exact h.more (Nat.le_succ _)
    rename_i hn
    refine ⟨by simp only; omega, by simp [h.ses], h.ok, fun x hx => by have := h.late x hx; simp only; omega, fun f hf => fenK_up (h.fk f hf) (by simp only; omega), fun s hs => ?_, ?_, by have := h.fen; simp only; omega⟩
    · rcases List.mem_or_eq_of_mem_set hs with hs | rfl
      · exact sesK_up (h.sk s hs) (by simp only; omega)
      · unfold sesK
        rw [if_pos rfl]
        simp only [Bool.and_eq_true, decide_eq_true_eq]
        exact ⟨hnx.1, by omega, rfl⟩
    · have h1 := sum_set (fun s : SesD => s.ws.length) d.ses i ⟨true, d.next, []⟩ hil
      have h2 := h.cnt
      simp only [List.length_nil] at h1 ⊢
      omega
  split
  · exact h.more (Nat.le_succ _)
  rename_i ho
  have ho : d.ses[i].o = true := by simpa using ho
  obtain ⟨ht1, ht2, hw⟩ := sesK_open hsk ho
  split
  · exact h.more (Nat.le_succ _)
  rename_i hf
  have hf : fitA a = true := by simpa using hf
  generalize hd : d.ses[i] = s at *
  unfold inV
  split
  · rename_i h2
    refine h.fence ?_
    unfold fitA at hf
    rw [if_pos (.inl h2)] at hf
    simp only [Bool.and_eq_true] at hf
    have hk1 := of_decide_eq_true hf.1
    unfold fenK
    simp only [Bool.and_eq_true, decide_eq_true_eq]
    rw [nulK_size]
    exact ⟨by omega, by omega, ht1, ht2⟩
  split
  · rename_i h2 h3
    refine h.fence ?_
    unfold fitA at hf
    rw [if_neg (by omega), if_pos h3] at hf
    simp only [Bool.and_eq_true, decide_eq_true_eq] at hf
    unfold fenK
    simp only [Bool.and_eq_true, decide_eq_true_eq]
    exact ⟨by omega, by omega, ht1, ht2⟩
  have hwp := hw
  unfold wrV at hwp
  simp only [Bool.and_eq_true, decide_eq_true_eq] at hwp
  split
  · rename_i h45
    split
    · exact h.more (Nat.le_succ _)
    rename_i h8
    have hv : verK (wrA a s.t) = true ∧ (wrA a s.t).t = s.t := by
      unfold fitA at hf
      rw [if_pos (.inr h45)] at hf
      simp only [Bool.and_eq_true] at hf
      unfold wrA
      split
      · refine ⟨?_, rfl⟩
        unfold verK idK
        rw [hf.1]
        simp only [Bool.true_and]
        rw [decide_eq_true (show 0 ≤ s.t ∧ s.t ≤ 1000 by omega), ByteArray.toList_eq]
        rfl
      · refine ⟨?_, rfl⟩
        unfold verK idK
        rw [hf.1, hf.2]
        simp only [Bool.true_and]
        rw [decide_eq_true (show 0 ≤ s.t ∧ s.t ≤ 1000 by omega)]
        rfl
    refine ⟨hnx, by simp [h.ses], h.ok, h.late, h.fk, fun q hq => ?_, ?_, by have := h.fen; simp only; omega⟩
    · rcases List.mem_or_eq_of_mem_set hq with hq | rfl
      · exact h.sk q hq
      · unfold sesK
        rw [if_pos ho]
        simp only [Bool.and_eq_true, decide_eq_true_eq]
        refine ⟨ht1, ht2, ?_⟩
        unfold wrV
        simp only [Bool.and_eq_true, decide_eq_true_eq]
        refine ⟨by omega, okVs_ins hwp.2.1 hv.1, List.all_eq_true.2 fun x hx => decide_eq_true ?_⟩
        rcases insV_mem _ x _ hx with rfl | hx
        · exact hv.2
        · exact of_decide_eq_true (List.all_eq_true.1 hwp.2.2 x hx)
    · have h1 := sum_set (fun s : SesD => s.ws.length) d.ses i ⟨s.o, s.t, insV s.ws (wrA a s.t)⟩ hil
      have h2 := h.cnt
      have h3 := insV_len s.ws (wrA a s.t)
      rw [hd] at h1
      simp only at h1 ⊢
      omega
  split
  · split
    · exact (h.close hi).more (Nat.le_succ _)
    · refine ⟨hnx, by simp [h.ses], okVs_fold _ _ h.ok (fun x hx => ((okVs_iff _).1 hwp.2.1).1 x hx), fun x hx => ?_, h.fk, fun q hq => ?_, ?_, by have := h.fen; simp only; omega⟩
      · rcases fold_mem x s.ws d.list hx with hx | hx
        · have := of_decide_eq_true (List.all_eq_true.1 hwp.2.2 x hx)
          simp only
          omega
        · exact h.late x hx
      · rcases List.mem_or_eq_of_mem_set hq with hq | rfl
        · exact h.sk q hq
        · exact clS_ok _
      · have h1 := sum_set (fun s : SesD => s.ws.length) d.ses i clS hil
        have h2 := h.cnt
        have h3 := fold_len s.ws d.list
        rw [hd] at h1
        simp only [clS, List.length_nil] at h1 ⊢
        omega
  · exact (h.close hi).more (Nat.le_succ _)
theorem RunV.new : RunV newV 0 := ⟨by simp [newV], rfl, rfl, fun x hx => by simp [newV] at hx, fun x hx => by simp [newV] at hx, fun s hs => by rw [List.eq_of_mem_replicate hs]; rfl, by simp [newV, clS], by simp [newV]⟩
end Go.Proofs.YtcflepnckjappaaGreat

namespace Go.Proofs.YtcflepnckjappaaGreat
open Go.RowKit

theorem cb_strCells (t : ByteArray) : Lib.strCells t = (cbText t).map (Value.int .u8) := by
  rw [Lib.strCells, cbText, List.map_map]; rfl
theorem cb_owns_line {w : World} {B : Nat} {v : Value} {xs : List Int} {t : ByteArray} (h : w.ownsRow B 5 1 v (xs.length + 1 + t.size) (xs.map (Value.int .u8) ++ .int .u8 (t.size : Int) :: Lib.strCells t)) : Owns w B v (xs ++ cbLine t) := by
  unfold Owns
  rw [List.length_append, cbLine_length, List.map_append, cbLine, List.map_cons, ← cb_strCells, show xs.length + (t.size + 1) = xs.length + 1 + t.size by omega]
  exact h
theorem cb_below_grown {B : Nat} {w wr w1 : World} {n : Nat} {v : Value} {xs : List Value} (hb : Below B w wr) (hB : B ≤ wr.heap.size) (hown : wr.ownsRow B 5 1 v n xs) (hg : wr.grownBy w1 v.ownBlock) : Below B w w1 :=
  hb.grown hg hB (fun k hk => (hown.lt k hk).1)
/-- Blocks that are no row of bytes stay. -/
def CbKeep (w w' : World) : Prop := ∀ (b : Nat) (cs : Array Value) (t : TypeId), t ≠ 5 → w.heap[b]? = some (.cells cs t (0, 0)) → w'.heap[b]? = some (.cells cs t (0, 0))
theorem CbKeep.refl (w : World) : CbKeep w w := fun _ _ _ _ h => h
theorem CbKeep.trans {a b c : World} (h : CbKeep a b) (k : CbKeep b c) : CbKeep a c := fun i cs t ht e => k i cs t ht (h i cs t ht e)
theorem cb_heap_lt {w : World} {b : Nat} {o : Obj} (h : w.heap[b]? = some o) : b < w.heap.size := (Array.getElem?_eq_some_iff.1 h).1
theorem CbKeep.below {w w' : World} (h : Below w.heap.size w w') : CbKeep w w' := fun b _ _ _ e => (h.block b (cb_heap_lt e)).trans e
theorem CbKeep.grown {w w' : World} {B : Nat} {v : Value} {xs : List Int} (ho : Owns w B v xs) (h : w.grownBy w' v.ownBlock) : CbKeep w w' := by
  intro b cs t ht e
  rw [h.block b (cb_heap_lt e) ?_]
  · exact e
  · intro hb
    rcases ho.2 with ⟨rfl, _⟩ | ⟨g, cap, cur, rfl, _, hg, _⟩
    · cases hb
    · have hbg : b = g := by simpa [Value.ownBlock] using hb
      subst hbg
      rw [e] at hg
      injection hg with hg
      injection hg with _ h2 _
      exact ht h2
theorem CbKeep.app {w w' : World} {B : Nat} {v : Value} {xs : List Int} {o : Obj} (ho : Owns w B v xs) (h : (w.alloc o).grownBy w' v.ownBlock) : CbKeep w w' :=
  (CbKeep.below ((Below.refl _ _).alloc (Nat.le_refl _) o)).trans (CbKeep.grown (World.ownsRow.alloc ho o) h)
theorem cb_lit1 {w : World} {B : Nat} (x : Int) (h : B ≤ w.heap.size) : Owns (w.alloc (.cells #[.int .u8 x] 5)) B (.slice (some ⟨w.heap.size, 0, none⟩) 1 1) [x] :=
  World.ownsRow_lit _ _ _ h (by unfold maxLen; simp) rfl
theorem cb_nil (w : World) (B : Nat) : Owns w B (.slice none 0 0) [] := ⟨rfl, .inl ⟨rfl, rfl⟩⟩
/-- The cells of a row of bytes that the call owns. -/
theorem cb_cells {w : World} {B g n cap : Nat} {xs : List Int} (h : Owns w B (.slice (some ⟨g, 0, none⟩) n cap) xs) : ∀ j u, (xs.map (Value.int .u8))[j]? = some u → w.cell? ((⟨g, 0, none⟩ : Addr).add j) = some u := by
  intro j u hu
  have hj : j < xs.length := by simpa using (List.getElem?_eq_some_iff.1 hu).1
  have e : n = xs.length := by
    rcases h.2 with ⟨e, _⟩ | ⟨g', cap', cur, e, _⟩
    · cases e
    · injection e
  subst e
  have := World.ownsRow.cellAt h j (by omega)
  have e2 : (⟨g, 0, none⟩ : Addr).add j = ⟨g, j, none⟩ := by unfold Addr.add; split <;> simp_all
  rw [e2, this, hu]
/-- The append of a row of bytes that lies at g; where the row then lies. -/
theorem cb_app {w : World} {B C g m cap : Nat} {v : Value} {xs ys : List Int} (ho : Owns w B v xs) (ol : Owns w C (.slice (some ⟨g, 0, none⟩) m cap) ys) (hm : ys.length = m) (hm0 : 0 < m) (hmm : m ≤ 100000) (hz : xs.length ≤ 10000000) (hB : B ≤ w.heap.size) :
    ∃ v' w', (Builtin.append_ #[22, 22] 22 #[v, .slice (some ⟨g, 0, none⟩) m cap]).run Tryz.prog w = .ok v' w' ∧ Owns w' B v' (xs ++ ys) ∧ w.grownBy w' v.ownBlock ∧ (v'.ownBlock = v.ownBlock ∨ v'.ownBlock = some w.heap.size) := by
  obtain ⟨i0, hi0, hz0, hz1, hz2⟩ := info_parts Tryz.infoU8
  obtain ⟨v', w', hr, ho', hg, _⟩ := run_append_own (P := Tryz.prog) w B 22 22 5 i0 (.int .u8 0) 1 1 Tryz.underlying22 hi0 hz0 hz1 hz2 rfl (by decide) v _ _ ho ⟨g, 0, none⟩ m cap (ys.map (Value.int .u8)) (by simp [hm]) (cb_cells ol) (all_u8 _) (by unfold maxLen; omega) (by omega) hB
  refine ⟨v', w', hr, owns_apps hm ho', hg, ?_⟩
  rcases ho.2 with ⟨rfl, h0⟩ | ⟨g', cap', cur, rfl, hbg, hgg, hnc, hcm, hcs, htake⟩
  · have h := run_append_nil (P := Tryz.prog) w 22 22 5 i0 (.int .u8 0) Tryz.underlying22 hi0 hz0 ⟨g, 0, none⟩ m cap (ys.map (Value.int .u8)) (by rw [hz1]; simp [hm]) (cb_cells ol) (by omega) (by omega) (by rw [hz2]; omega)
    rw [hr] at h
    injection h with h _
    subst h
    exact .inr rfl
  · by_cases hroom : xs.length + m ≤ cap'
    · have h := run_append_room (P := Tryz.prog) w 22 22 5 i0 Tryz.underlying22 hi0 g' xs.length cap' cur hgg ⟨g, 0, none⟩ m cap (ys.map (Value.int .u8)) (by rw [hz1]; simp [hm]) (cb_cells ol) (all_u8 _) hroom (by rw [hz1, hcs]; simp; omega)
      rw [hr] at h
      injection h with h _
      subst h
      exact .inl rfl
    · have h := run_append_grow (P := Tryz.prog) w 22 22 5 i0 (.int .u8 0) Tryz.underlying22 hi0 hz0 ⟨g', 0, none⟩ xs.length cap' (xs.map (Value.int .u8)) (by rw [hz1]; simp) (cb_cells ho) ⟨g, 0, none⟩ m cap (ys.map (Value.int .u8)) (by rw [hz1]; simp [hm]) (cb_cells ol) (by omega) (by omega) (by rw [hz2]; exact growslice_fits (by omega) (by omega))
      rw [hr] at h
      injection h with h _
      subst h
      exact .inr rfl
/-- An append whose run is known, as one step of a region that draws. -/
theorem cb_stepApp {P : Program} {ops : Array Oper} {o : Oper} {a : Act} {w : World} {K : Act → World → Prop} {Q : Exit → Act → World → Prop} {E : Prop}
    (hg : o.guard = none) (s x : Operand) (t : TypeId) (hop : o.op = Op.call { callee := Callee.builtin Builtin.append, args := #[s, x], argTypes := #[t, t] })
    (vs vx v' : Value) (w' : World) (hs : a.eval s = vs) (hx : a.eval x = vx) (hrun : (Builtin.append_ #[t, t] o.type #[vs, vx]).run P w = .ok v' w') (hK : K (a.put o.dst v') w') :
    if Region.wanted o (yielded ops a.tmps) = true then Oper.wp P o a w K Q else E := by
  have hw : Region.wanted o (yielded ops a.tmps) = true := by simp [Region.wanted, hg]
  rw [if_pos hw]
  unfold Oper.wp
  simp [execOp, hop, resolve, invoke, builtin, hs, hx, hrun, Result.andThen]
  exact hK
set_option maxHeartbeats 1000000 in
theorem cb_short (B : Nat) (v0 : Value) (zs : List Int) (t : ByteArray) (w : World) (hB : B ≤ w.heap.size) (hz : zs.length ≤ 10000000) (ht : t.size ≤ 255) (ho : Owns w B v0 zs) :
    Calls Tryz.prog 75 #[v0, .string t] w fun e w' => ∃ v, e = .returned v ∧ Owns w' B v (zs ++ cbLine t) ∧ Below B w w' ∧ CbKeep w w' := by
  obtain ⟨i0, hi, hz0, hz1, hz2⟩ := info_parts Tryz.infoU8
  have hq : (t.size : Int) % 256 = (t.size : Int) := by omega
  go_enter Tryz.func75, Tryz.ntmps75
  go_wp2_with (at_builtin; refine wpList_append_own _ rfl _ _ 22 rfl B 5 i0 (.int .u8 0) 1 1 Tryz.underlying22 hi hz0 hz1 hz2 rfl (by decide) _ _ _ rfl (ho.alloc _) ⟨w.heap.size, 0, none⟩ 1 1 [.int .u8 (t.size : Int)] rfl rfl (cell_one_new _ _ _) (one_u8 _) (by unfold maxLen; omega) (by omega) (by simp; omega) ?_)
  intro v1 w1 hown1 hgrow1 _
  have O1 := owns_app hown1
  have R2 := below_app (Below.refl _ _) hB ho hgrow1
  have R4 := CbKeep.app ho hgrow1
  have hs1 : B ≤ w1.heap.size := Nat.le_trans hB R2.size
  have hl1 : (zs ++ [(t.size : Int)]).length ≤ 10000001 := by simp; omega
  clear ho hown1 hgrow1
  go_wp2_with (at_builtin; refine Lib.wpList_append_own_string _ rfl _ _ 22 9 rfl B 5 i0 Tryz.underlying22 Tryz.underlying9 hi hz0 hz1 hz2 _ _ _ rfl O1 t rfl (by unfold maxLen; omega) (by omega) hs1 ?_)
  intro v2 w2 hown2 hgrow2 _
  have R1 := hide (cb_owns_line hown2)
  have R3 := hide (cb_below_grown R2 hs1 O1 hgrow2)
  have R5 := hide (R4.trans (CbKeep.grown O1 hgrow2))
  clear O1 R2 R4 hown2 hgrow2
  go_wp2_with fail
  go_ret
  exact ⟨_, rfl, unhide R1, unhide R3, unhide R5⟩
end Go.Proofs.YtcflepnckjappaaGreat

namespace Go.Proofs.YtcflepnckjappaaGreat
open Go.RowKit

set_option maxRecDepth 100000 in
set_option maxHeartbeats 4000000 in
theorem commitBytes_any (a : Option Addr) (n c : Nat) (ds : List VerD) (w : World) (hn : n ≤ 4096) (hr : VRow w a n ds) (hs : ∀ i (hi : i < ds.length), ds[i].k.size ≤ 255 ∧ ds[i].v.size ≤ 255) :
    Calls Tryz.prog 218 #[.slice a n c] w fun e w' => ∃ v, e = .returned v ∧ Owns w' w.heap.size v (cbAll ds) ∧ Below w.heap.size w w' := by
  have L := hide hr.1
  have R := hide hr
  have H := hide hs
  clear hr hs
  go_enter Tryz.func218, Tryz.ntmps218
  go_wp2_with fail
  go_loopw [3, 9] (fun v i wr => ∃ j : Nat, i = .int .i64 (j : Int) ∧ j ≤ n ∧ Hid (Owns wr w.heap.size v (cbAll (ds.take j))) ∧ Hid (Below w.heap.size w wr)) (fun _ i _ => n - (intOf i).toNat)
  case atStart => exact ⟨0, rfl, Nat.zero_le _, cb_nil _ _, Below.refl _ _⟩
  case round =>
    obtain ⟨j, rfl, hj, hO, hB⟩ := hrel
    by_cases hlt : j < n
    · have hj2 : j < ds.length := by rw [unhide L]; exact hlt
      obtain ⟨b, off, rfl, d0, d1, d2, d3⟩ := ((unhide R).below (unhide hB)).2 j hj2
      have hsr := (unhide hB).size
      have hl : (cbAll (ds.take j)).length ≤ 9000000 := by
        have h1 := cbAll_le (ds.take j) (fun i hi' => by have := unhide H i (by rw [List.length_take] at hi'; omega); simpa using this)
        rw [List.length_take] at h1
        omega
      have hsm := unhide H j hj2
      have TS := hide (show cbAll (ds.take (j + 1)) = cbAll (ds.take j) ++ cbOne ds[j] by rw [rb_take_snoc ds j hj2, cbAll_snoc])
      generalize ds[j] = pd at *
      obtain ⟨pk, pt, pv, pg⟩ := pd
      simp only at d0 d1 d2 d3 hsm
      have BX := hide ((unhide hB).alloc hsr (.cells #[.string pk, .int .i64 pt, .string pv, .bool pg] 51))
      have OX := hide (World.ownsRow.alloc (unhide hO) (.cells #[.string pk, .int .i64 pt, .string pv, .bool pg] 51))
      have KX := hide (heap_alloc_new wr (.cells #[.string pk, .int .i64 pt, .string pv, .bool pg] 51))
      generalize cbAll (ds.take j) = zj at *
      clear hB hO
      cases pg
      · have TZ := hide (show zj ++ [1] ++ cbLine pk ++ cbLine pv = cbAll (ds.take (j + 1)) by rw [unhide TS]; simp [cbOne, cbMark])
        go_upto_region 8 with fail
        clear d0 d1 d2 d3
        generalize wr.alloc (.cells #[.string pk, .int .i64 pt, .string pv, .bool false] 51) = W at *
        generalize wr.heap.size = bx at *
        have hsW := (unhide BX).size
        have SK := hide (show ∀ u, Below w.heap.size w u → u.heap[bx]? = some (.cells #[.string pk, .int .i64 pt, .string pv, .bool false] 51 (0, 0)) → (fun u => Below w.heap.size w u ∧ u.cell? ⟨bx, 0, none⟩ = some (.string pk) ∧ u.cell? ⟨bx, 2, none⟩ = some (.string pv)) u from fun u hb hk => ⟨hb, by simp [World.cell?, hk], by simp [World.cell?, hk]⟩)
        refine wp_region_held_drew (S := (fun u => Below w.heap.size w u ∧ u.cell? ⟨bx, 0, none⟩ = some (.string pk) ∧ u.cell? ⟨bx, 2, none⟩ = some (.string pv))) (by kernel_rfl) (unhide SK _ (unhide BX).drew (unhide KX)) (fun hHeld => ?_)
        refine anyH_take 0 15 (v := ?v1) rfl rfl (by kernel_rfl) (by kernel_rfl) (by kernel_rfl) (fun _ _ _ h => h) (by rfl) ?h1 hHeld ?r1
        case h1 => (intro w hSw; (try dsimp only at hSw); go_simp; try (with_reducible rfl))
        simp only [Act.put, List.setIfInBounds_toArray, List.set_cons_zero, List.set_cons_succ]
        refine anyH_take 1 16 (v := ?v2) rfl rfl (by kernel_rfl) (by kernel_rfl) (by kernel_rfl) (fun _ _ _ h => h) (by rfl) ?h2 hHeld ?r2
        case h2 => (intro w hSw; (try dsimp only at hSw); go_simp; try (with_reducible rfl))
        simp only [Act.put, List.setIfInBounds_toArray, List.set_cons_zero, List.set_cons_succ]
        refine anyH_take 4 19 (v := ?v3) rfl rfl (by kernel_rfl) (by kernel_rfl) (by kernel_rfl) (fun _ _ _ h => h) (by rfl) ?h3 hHeld ?r3
        case h3 => (intro w hSw; (try dsimp only at hSw); go_simp; try (with_reducible rfl))
        simp only [Act.put, List.setIfInBounds_toArray, List.set_cons_zero, List.set_cons_succ]
        refine anyH_take 5 20 (v := ?v4) rfl rfl (by kernel_rfl) (by kernel_rfl) (by kernel_rfl) (fun _ _ _ h => h) (by rfl) ?h4 hHeld ?r4
        case h4 => (intro w hSw; (try dsimp only at hSw); go_simp; try (with_reducible rfl))
        simp only [Act.put, List.setIfInBounds_toArray, List.set_cons_zero, List.set_cons_succ]
        refine anyH_take 7 22 (v := ?v5) rfl rfl (by kernel_rfl) (by kernel_rfl) (by kernel_rfl) (fun _ _ _ h => h) (by rfl) ?h5 hHeld ?r5
        case h5 => (intro w hSw; (try dsimp only at hSw); go_simp; try (with_reducible rfl))
        simp only [Act.put, List.setIfInBounds_toArray, List.set_cons_zero, List.set_cons_succ]
        refine anyH_take 8 23 (v := ?v6) rfl rfl (by kernel_rfl) (by kernel_rfl) (by kernel_rfl) (fun _ _ _ h => h) (by rfl) ?h6 hHeld ?r6
        case h6 => (intro w hSw; (try dsimp only at hSw); go_simp; try (with_reducible rfl))
        simp only [Act.put, List.setIfInBounds_toArray, List.set_cons_zero, List.set_cons_succ]
        refine wpAnyH_ready (rs := [2]) (by kernel_rfl) (by simp) ?_
        refine AllReadyH.cons rfl (fun K hK => ?_) AllReadyH.nil
        go_simp
        have bA := (unhide BX).drew.alloc (o := .cells #[.int .u8 1] 5) hsW
        have kA := CbKeep.below ((Below.refl W.drew.heap.size W.drew).alloc (Nat.le_refl _) (.cells #[.int .u8 1] 5)) _ _ _ (by decide) (unhide KX)
        refine hK.out _ _ (unhide SK _ bA kA) (fun hHeld => ?_)
        clear hK K
        refine wpAnyH_ready (rs := [3]) (by kernel_rfl) (by simp) ?_
        refine AllReadyH.cons rfl (fun K hK => ?_) AllReadyH.nil
        obtain ⟨v1, w1, hr1, o1, g1, _⟩ := cb_app (w := W.drew.alloc (.cells #[.int .u8 1] 5)) (World.ownsRow.alloc (unhide OX) _) (cb_lit1 (w := W.drew) 1 hsW) rfl (by omega) (by omega) (by omega) (Nat.le_trans hsW (by simp))
        refine cb_stepApp rfl (.tmp 15) (.tmp 17) 22 rfl _ _ v1 w1 (by first | rfl | (simp [Act.eval]; done) | (simp [Act.eval, Act.put]; done)) (by first | rfl | (simp [Act.eval]; done) | (simp [Act.eval, Act.put]; done)) hr1 ?_
        have b1 := cb_below_grown bA (Nat.le_trans hsW (by simp)) (World.ownsRow.alloc (unhide OX) _) g1
        have k1 := CbKeep.grown (w := W.drew.alloc (.cells #[.int .u8 1] 5)) (World.ownsRow.alloc (unhide OX) _) g1 _ _ _ (by decide) kA
        clear hr1 g1
        refine hK.out _ _ (unhide SK _ b1 k1) (fun hHeld => ?_)
        clear hK K
        simp only [Act.put, List.setIfInBounds_toArray]
        refine wpAnyH_ready (rs := [6]) (by kernel_rfl) (by simp) ?_
        refine AllReadyH.cons rfl (fun K hK => ?_) AllReadyH.nil
        go_simp
        refine (cb_short w.heap.size v1 (zj ++ [1]) pk w1 b1.size (by simp; omega) hsm.1 o1).mono ?_
        rintro e w2 ⟨v2, rfl, o2, b2, k2⟩
        replace b2 := b1.trans b2
        replace k2 := k2 _ _ _ (by decide) k1
        refine hK.out _ _ (unhide SK _ b2 k2) (fun hHeld => ?_)
        clear hK K
        refine wpAnyH_ready (rs := [9]) (by kernel_rfl) (by simp) ?_
        refine AllReadyH.cons rfl (fun K hK => ?_) AllReadyH.nil
        go_simp
        refine (cb_short w.heap.size v2 (zj ++ [1] ++ cbLine pk) pv w2 b2.size (by simp [cbLine_length]; omega) hsm.2 o2).mono ?_
        rintro e w3 ⟨v3, rfl, o3, b3, k3⟩
        replace b3 := b2.trans b3
        replace k3 := k3 _ _ _ (by decide) k2
        refine hK.out _ _ (unhide SK _ b3 k3) (fun hHeld => ?_)
        clear hK K
        refine anyH_take 10 3 (v := ?v7) rfl rfl (by kernel_rfl) (by kernel_rfl) (by kernel_rfl) (fun _ _ _ h => h) (by rfl) ?h7 hHeld ?r7
        case h7 => (intro w hSw; (try dsimp only at hSw); go_simp; try (with_reducible rfl))
        simp only [Act.put, List.setIfInBounds_toArray, List.set_cons_zero, List.set_cons_succ]
        refine wpAnyH_done (by kernel_rfl) ?_ _
        clear k1 k2 k3 b1 b2 bA kA o1 o2
        replace o3 := hide (unhide TZ ▸ o3)
        replace b3 := hide b3
        go_wp2_with fail
        go_roundw
        case rel => exact ⟨j + 1, by go_num, by omega, unhide o3, unhide b3⟩
        case measure => simp [intOf]; omega
      · have TZ := hide (show zj ++ [2] ++ cbLine pk ++ cbLine pv = cbAll (ds.take (j + 1)) by rw [unhide TS]; simp [cbOne, cbMark])
        go_upto_region 8 with fail
        clear d0 d1 d2 d3
        generalize wr.alloc (.cells #[.string pk, .int .i64 pt, .string pv, .bool true] 51) = W at *
        generalize wr.heap.size = bx at *
        have hsW := (unhide BX).size
        have SK := hide (show ∀ u, Below w.heap.size w u → u.heap[bx]? = some (.cells #[.string pk, .int .i64 pt, .string pv, .bool true] 51 (0, 0)) → (fun u => Below w.heap.size w u ∧ u.cell? ⟨bx, 0, none⟩ = some (.string pk) ∧ u.cell? ⟨bx, 2, none⟩ = some (.string pv)) u from fun u hb hk => ⟨hb, by simp [World.cell?, hk], by simp [World.cell?, hk]⟩)
        refine wp_region_held_drew (S := (fun u => Below w.heap.size w u ∧ u.cell? ⟨bx, 0, none⟩ = some (.string pk) ∧ u.cell? ⟨bx, 2, none⟩ = some (.string pv))) (by kernel_rfl) (unhide SK _ (unhide BX).drew (unhide KX)) (fun hHeld => ?_)
        refine anyH_take 0 15 (v := ?v8) rfl rfl (by kernel_rfl) (by kernel_rfl) (by kernel_rfl) (fun _ _ _ h => h) (by rfl) ?h8 hHeld ?r8
        case h8 => (intro w hSw; (try dsimp only at hSw); go_simp; try (with_reducible rfl))
        simp only [Act.put, List.setIfInBounds_toArray, List.set_cons_zero, List.set_cons_succ]
        refine anyH_take 1 16 (v := ?v9) rfl rfl (by kernel_rfl) (by kernel_rfl) (by kernel_rfl) (fun _ _ _ h => h) (by rfl) ?h9 hHeld ?r9
        case h9 => (intro w hSw; (try dsimp only at hSw); go_simp; try (with_reducible rfl))
        simp only [Act.put, List.setIfInBounds_toArray, List.set_cons_zero, List.set_cons_succ]
        refine anyH_take 4 19 (v := ?v10) rfl rfl (by kernel_rfl) (by kernel_rfl) (by kernel_rfl) (fun _ _ _ h => h) (by rfl) ?h10 hHeld ?r10
        case h10 => (intro w hSw; (try dsimp only at hSw); go_simp; try (with_reducible rfl))
        simp only [Act.put, List.setIfInBounds_toArray, List.set_cons_zero, List.set_cons_succ]
        refine anyH_take 5 20 (v := ?v11) rfl rfl (by kernel_rfl) (by kernel_rfl) (by kernel_rfl) (fun _ _ _ h => h) (by rfl) ?h11 hHeld ?r11
        case h11 => (intro w hSw; (try dsimp only at hSw); go_simp; try (with_reducible rfl))
        simp only [Act.put, List.setIfInBounds_toArray, List.set_cons_zero, List.set_cons_succ]
        refine anyH_take 7 22 (v := ?v12) rfl rfl (by kernel_rfl) (by kernel_rfl) (by kernel_rfl) (fun _ _ _ h => h) (by rfl) ?h12 hHeld ?r12
        case h12 => (intro w hSw; (try dsimp only at hSw); go_simp; try (with_reducible rfl))
        simp only [Act.put, List.setIfInBounds_toArray, List.set_cons_zero, List.set_cons_succ]
        refine anyH_take 8 23 (v := ?v13) rfl rfl (by kernel_rfl) (by kernel_rfl) (by kernel_rfl) (fun _ _ _ h => h) (by rfl) ?h13 hHeld ?r13
        case h13 => (intro w hSw; (try dsimp only at hSw); go_simp; try (with_reducible rfl))
        simp only [Act.put, List.setIfInBounds_toArray, List.set_cons_zero, List.set_cons_succ]
        refine wpAnyH_ready (rs := [2]) (by kernel_rfl) (by simp) ?_
        refine AllReadyH.cons rfl (fun K hK => ?_) AllReadyH.nil
        go_simp
        have bA := (unhide BX).drew.alloc (o := .cells #[.int .u8 2] 5) hsW
        have kA := CbKeep.below ((Below.refl W.drew.heap.size W.drew).alloc (Nat.le_refl _) (.cells #[.int .u8 2] 5)) _ _ _ (by decide) (unhide KX)
        refine hK.out _ _ (unhide SK _ bA kA) (fun hHeld => ?_)
        clear hK K
        refine wpAnyH_ready (rs := [3]) (by kernel_rfl) (by simp) ?_
        refine AllReadyH.cons rfl (fun K hK => ?_) AllReadyH.nil
        obtain ⟨v1, w1, hr1, o1, g1, _⟩ := cb_app (w := W.drew.alloc (.cells #[.int .u8 2] 5)) (World.ownsRow.alloc (unhide OX) _) (cb_lit1 (w := W.drew) 2 hsW) rfl (by omega) (by omega) (by omega) (Nat.le_trans hsW (by simp))
        refine cb_stepApp rfl (.tmp 15) (.tmp 17) 22 rfl _ _ v1 w1 (by first | rfl | (simp [Act.eval]; done) | (simp [Act.eval, Act.put]; done)) (by first | rfl | (simp [Act.eval]; done) | (simp [Act.eval, Act.put]; done)) hr1 ?_
        have b1 := cb_below_grown bA (Nat.le_trans hsW (by simp)) (World.ownsRow.alloc (unhide OX) _) g1
        have k1 := CbKeep.grown (w := W.drew.alloc (.cells #[.int .u8 2] 5)) (World.ownsRow.alloc (unhide OX) _) g1 _ _ _ (by decide) kA
        clear hr1 g1
        refine hK.out _ _ (unhide SK _ b1 k1) (fun hHeld => ?_)
        clear hK K
        simp only [Act.put, List.setIfInBounds_toArray]
        refine wpAnyH_ready (rs := [6]) (by kernel_rfl) (by simp) ?_
        refine AllReadyH.cons rfl (fun K hK => ?_) AllReadyH.nil
        go_simp
        refine (cb_short w.heap.size v1 (zj ++ [2]) pk w1 b1.size (by simp; omega) hsm.1 o1).mono ?_
        rintro e w2 ⟨v2, rfl, o2, b2, k2⟩
        replace b2 := b1.trans b2
        replace k2 := k2 _ _ _ (by decide) k1
        refine hK.out _ _ (unhide SK _ b2 k2) (fun hHeld => ?_)
        clear hK K
        refine wpAnyH_ready (rs := [9]) (by kernel_rfl) (by simp) ?_
        refine AllReadyH.cons rfl (fun K hK => ?_) AllReadyH.nil
        go_simp
        refine (cb_short w.heap.size v2 (zj ++ [2] ++ cbLine pk) pv w2 b2.size (by simp [cbLine_length]; omega) hsm.2 o2).mono ?_
        rintro e w3 ⟨v3, rfl, o3, b3, k3⟩
        replace b3 := b2.trans b3
        replace k3 := k3 _ _ _ (by decide) k2
        refine hK.out _ _ (unhide SK _ b3 k3) (fun hHeld => ?_)
        clear hK K
        refine anyH_take 10 3 (v := ?v14) rfl rfl (by kernel_rfl) (by kernel_rfl) (by kernel_rfl) (fun _ _ _ h => h) (by rfl) ?h14 hHeld ?r14
        case h14 => (intro w hSw; (try dsimp only at hSw); go_simp; try (with_reducible rfl))
        simp only [Act.put, List.setIfInBounds_toArray, List.set_cons_zero, List.set_cons_succ]
        refine wpAnyH_done (by kernel_rfl) ?_ _
        clear k1 k2 k3 b1 b2 bA kA o1 o2
        replace o3 := hide (unhide TZ ▸ o3)
        replace b3 := hide b3
        go_wp2_with fail
        go_roundw
        case rel => exact ⟨j + 1, by go_num, by omega, unhide o3, unhide b3⟩
        case measure => simp [intOf]; omega
    · obtain rfl : j = n := by omega
      have Z := hide (show Owns wr w.heap.size _ (cbAll ds) by
        have := unhide hO
        rwa [List.take_of_length_le (by rw [unhide L]; exact Nat.le_refl _)] at this)
      go_wp2_with fail
      go_ret
      exact ⟨_, rfl, unhide Z, unhide hB⟩
end Go.Proofs.YtcflepnckjappaaGreat

namespace Go.Proofs.YtcflepnckjappaaGreat
open Go.RowKit

theorem wrV_ok {ds : List VerD} {t : Int} (h : wrV ds t = true) : ds.length ≤ 8 ∧ okVs ds = true ∧ oneT ds t = true := by
  unfold wrV at h
  simp only [Bool.and_eq_true, decide_eq_true_eq] at h
  exact h
end Go.Proofs.YtcflepnckjappaaGreat

namespace Go.Proofs.YtcflepnckjappaaGreat
open Go.RowKit

/-- An image makes a commit behind those that did. -/
def reOK (pre : List ImD) (X : ImD) : Bool := rcOK X.id X.xs && (!X.gone && (decide (1 ≤ X.id ∧ X.id < 1000) && !pre.any fun y => decide (y.id = X.id)))
/-- All that make commits, behind those that did. -/
def reT : List ImD → List ImD → List ImD
  | pre, [] => pre
  | pre, X :: l => if reOK pre X = true then reT (pre ++ [X]) l else pre
def reN (pre : List ImD) : Int := pre.foldl (fun n X => max n (X.id + 1)) 1
def reV (pre : List ImD) : List VerD := pre.foldl (fun ds X => (rcL X.id X.xs).foldl insV ds) []
theorem reN_snoc (pre : List ImD) (X : ImD) : reN (pre ++ [X]) = max (reN pre) (X.id + 1) := by simp [reN]
theorem reV_snoc (pre : List ImD) (X : ImD) : reV (pre ++ [X]) = (rcL X.id X.xs).foldl insV (reV pre) := by simp [reV]
theorem reOK_facts {pre : List ImD} {X : ImD} (h : reOK pre X = true) : rcOK X.id X.xs = true ∧ X.gone = false ∧ 1 ≤ X.id ∧ X.id < 1000 ∧ ∀ y ∈ pre, y.id ≠ X.id := by
  unfold reOK at h
  simp only [Bool.and_eq_true, Bool.not_eq_true', decide_eq_true_eq, List.any_eq_false] at h
  exact ⟨h.1, h.2.1, h.2.2.1.1, h.2.2.1.2, h.2.2.2⟩
/-- Images that all made commits. -/
inductive Made : List ImD → Prop
  | nil : Made []
  | snoc {pre : List ImD} {X : ImD} : Made pre → reOK pre X = true → Made (pre ++ [X])
theorem Made.good {pre : List ImD} (h : Made pre) : ∀ l, reT [] (pre ++ l) = reT pre l := by
  induction h with
  | nil => intro l; rfl
  | @snoc pre X _ hx ih =>
    intro l
    rw [List.append_assoc, ih]
    exact if_pos hx
theorem Made.all {pre : List ImD} (h : Made pre) : reT [] pre = pre := by
  have := h.good []
  rw [List.append_nil] at this
  exact this
theorem Made.stop {pre : List ImD} {X : ImD} (h : Made pre) (hx : reOK pre X = false) (l : List ImD) : reT [] (pre ++ X :: l) = pre := by
  rw [h.good]
  exact if_neg (by rw [hx]; decide)
/-- The images met are the first of all. -/
theorem steps_pre {b : List Int} {L : List ImD} {p : Nat} (h : Steps b L p) : ∃ l, (scanB b).1 = L ++ l := by
  have hl := h.le
  unfold scanB
  rw [scanI_steps h _ (by omega)]
  exact ⟨_, rfl⟩
theorem re_end {b : List Int} {L : List ImD} {p : Nat} (h : Steps b L p) (hn : nextI b p = none) (hm : Made L) : reT [] (scanB b).1 = L := by
  rw [scan_end h hn]
  exact hm.all
theorem re_break {b : List Int} {L : List ImD} {X : ImD} {p : Nat} (h : Steps b (L ++ [X]) p) (hm : Made L) (hx : reOK L X = false) : reT [] (scanB b).1 = L := by
  obtain ⟨l, hl⟩ := steps_pre h
  rw [hl, List.append_assoc]
  exact hm.stop hx l
theorem take_snoc_im (L : List ImD) (i : Nat) (hi : i < L.length) : L.take (i + 1) = L.take i ++ [L[i]] := by
  rw [List.take_add_one, List.getElem?_eq_getElem hi]
  rfl
theorem re_stop {L : List ImD} {i : Nat} (hi : i < L.length) (hm : Made (L.take i)) (hx : reOK (L.take i) L[i] = false) : reT [] L = L.take i := by
  have h := hm.stop hx (L.drop (i + 1))
  rw [← List.drop_eq_getElem_cons hi, List.take_append_drop] at h
  exact h
theorem Made.next {pre : List ImD} (h : Made pre) : 1 ≤ reN pre ∧ reN pre ≤ 1000 := by
  induction h with
  | nil => exact ⟨by decide, by decide⟩
  | snoc _ hx ih =>
    obtain ⟨_, _, h1, h2, _⟩ := reOK_facts hx
    rw [reN_snoc]
    omega
theorem rcOK_facts {t : Int} {xs : List Int} (h : rcOK t xs = true) : wrV (rcL t xs) t = true ∧ cbAll (rcL t xs) = xs := by
  unfold rcOK at h
  rw [Bool.and_eq_true] at h
  exact ⟨h.1, of_decide_eq_true h.2⟩
theorem wrV_ver {ws : List VerD} {t : Int} (h : wrV ws t = true) : ∀ x ∈ ws, verK x = true ∧ x.t = t := fun x hx => by
  obtain ⟨_, h2, h3⟩ := wrV_ok h
  obtain ⟨i, hi, rfl⟩ := List.getElem_of_mem hx
  exact ⟨okVs_ver h2 hi, oneT_at h3 hi⟩
theorem Made.ok {pre : List ImD} (h : Made pre) : okVs (reV pre) = true := by
  induction h with
  | nil => rfl
  | snoc _ hx ih =>
    rw [reV_snoc]
    exact okVs_fold _ _ ih fun x hm => (wrV_ver (rcOK_facts (reOK_facts hx).1).1 x hm).1
theorem Made.time {pre : List ImD} (h : Made pre) : ∀ x ∈ reV pre, ∃ y ∈ pre, y.id = x.t := by
  induction h with
  | nil => intro x hx; cases hx
  | @snoc pre X _ hx ih =>
    intro x hm
    rw [reV_snoc] at hm
    rcases fold_mem x _ _ hm with hm | hm
    · exact ⟨X, by simp, (wrV_ver (rcOK_facts (reOK_facts hx).1).1 x hm).2.symm⟩
    · obtain ⟨y, hy, e⟩ := ih x hm
      exact ⟨y, List.mem_append_left _ hy, e⟩
theorem Made.ids {pre : List ImD} (h : Made pre) : ∀ y ∈ pre, 1 ≤ y.id ∧ y.id < reN pre := by
  induction h with
  | nil => intro x hx; cases hx
  | snoc _ hx ih =>
    intro y hy
    rw [reN_snoc]
    rcases List.mem_append.1 hy with hy | hy
    · have := ih y hy
      omega
    · obtain rfl := List.mem_singleton.1 hy
      obtain ⟨_, _, h1, _⟩ := reOK_facts hx
      omega
theorem Made.late {pre : List ImD} (h : Made pre) : ∀ x ∈ reV pre, 1 ≤ x.t ∧ x.t < reN pre := fun x hx => by
  obtain ⟨y, hy, e⟩ := h.time x hx
  rw [← e]
  exact h.ids y hy
theorem cbAll_len : ∀ ds : List VerD, 3 * ds.length ≤ (cbAll ds).length
  | [] => by simp
  | d :: r => by
    have h1 := cbAll_len r
    have h2 := cbOne_length d
    have h3 : (cbAll (d :: r)).length = (cbOne d).length + (cbAll r).length := by simp [cbAll]
    rw [List.length_cons]
    omega
theorem Made.len {pre : List ImD} (h : Made pre) : 3 * (reV pre).length ≤ (pre.map fun x => x.xs.length + 9).sum := by
  induction h with
  | nil => simp [reV]
  | @snoc pre X _ hx ih =>
    have h1 := fold_len (rcL X.id X.xs) (reV pre)
    have h2 := cbAll_len (rcL X.id X.xs)
    rw [(rcOK_facts (reOK_facts hx).1).2] at h2
    rw [reV_snoc, List.map_append, List.sum_append]
    simp only [List.map_cons, List.map_nil, List.sum_cons, List.sum_nil]
    omega
/-- Which ids were there. -/
def seenI (pre : List ImD) : List Bool := (List.range 1001).map fun (i : Nat) => pre.any fun y => decide (y.id = (i : Int))
theorem seenI_len (pre : List ImD) : (seenI pre).length = 1001 := by rw [seenI, List.length_map, List.length_range]
theorem seenI_nil : seenI [] = List.replicate 1001 false := by
  have e : seenI [] = (List.range 1001).map fun _ => false := rfl
  rw [e, List.map_const', List.length_range]
theorem seenI_at (pre : List ImD) (k : Nat) (hk : k < 1001) : (seenI pre)[k]'(by rw [seenI_len]; exact hk) = pre.any fun y => decide (y.id = (k : Int)) := by simp only [seenI, List.getElem_map, List.getElem_range]
theorem seenI_snoc (pre : List ImD) (X : ImD) (h : 0 ≤ X.id) : seenI (pre ++ [X]) = (seenI pre).set X.id.toNat true := by
  refine List.ext_getElem (by rw [List.length_set, seenI_len, seenI_len]) fun i h1 h2 => ?_
  rw [seenI_len] at h1
  rw [seenI_at _ _ h1, List.getElem_set, List.any_append]
  split
  · rename_i e
    have : X.id = (i : Int) := by omega
    simp [this]
  · rename_i e
    have : ¬ X.id = (i : Int) := by omega
    rw [seenI_at _ _ h1]
    simp [this]
end Go.Proofs.YtcflepnckjappaaGreat

namespace Go.Proofs.YtcflepnckjappaaGreat
section
variable {α β : Type}

/-- x stands in a list, and none of its key behind it. -/
def LastIn (k : α → Int) (hs : List α) (x : α) : Prop := ∃ pre post, hs = pre ++ x :: post ∧ ∀ y ∈ post, k y ≠ k x
/-- R: the last of each key, rising, without those that are gone. -/
structure Lat (k : α → Int) (g : α → Bool) (hs R : List α) : Prop where
  up : R.Pairwise (fun a b => k a < k b)
  all : ∀ x, x ∈ R ↔ LastIn k hs x ∧ g x = false

theorem up_one (k : α → Int) : ∀ (l1 l2 : List α), l1.Pairwise (fun a b => k a < k b) → l2.Pairwise (fun a b => k a < k b) → (∀ x, x ∈ l1 ↔ x ∈ l2) → l1 = l2
  | [], [], _, _, _ => rfl
  | [], b :: _, _, _, h => absurd ((h b).2 (List.mem_cons_self ..)) (List.not_mem_nil)
  | a :: _, [], _, _, h => absurd ((h a).1 (List.mem_cons_self ..)) (List.not_mem_nil)
  | a :: xs, b :: ys, h1, h2, h => by
    rw [List.pairwise_cons] at h1 h2
    have e : a = b := by
      rcases List.mem_cons.1 ((h a).1 (List.mem_cons_self ..)) with e | m1
      · exact e
      · rcases List.mem_cons.1 ((h b).2 (List.mem_cons_self ..)) with e | m2
        · exact e.symm
        · exact absurd (h1.1 b m2) (Int.not_lt.2 (Int.le_of_lt (h2.1 a m1)))
    subst e
    rw [up_one k xs ys h1.2 h2.2 (fun x => ⟨fun hx => ?_, fun hx => ?_⟩)]
    · rcases List.mem_cons.1 ((h x).1 (List.mem_cons_of_mem _ hx)) with e | m
      · subst e; exact absurd (h1.1 _ hx) (Int.lt_irrefl _)
      · exact m
    · rcases List.mem_cons.1 ((h x).2 (List.mem_cons_of_mem _ hx)) with e | m
      · subst e; exact absurd (h2.1 _ hx) (Int.lt_irrefl _)
      · exact m
theorem Lat.one {k : α → Int} {g : α → Bool} {hs R1 R2 : List α} (h1 : Lat k g hs R1) (h2 : Lat k g hs R2) : R1 = R2 :=
  up_one k R1 R2 h1.up h2.up (fun x => (h1.all x).trans (h2.all x).symm)
theorem Lat.map {k : α → Int} {g : α → Bool} {k' : β → Int} {g' : β → Bool} (f : α → β) (hk : ∀ x, k' (f x) = k x) (hg : ∀ x, g' (f x) = g x) {hs R : List α} (h : Lat k g hs R) : Lat k' g' (hs.map f) (R.map f) := by
  refine ⟨List.pairwise_map.2 (h.up.imp (fun {a b} hab => by rw [hk, hk]; exact hab)), fun x => ⟨fun hx => ?_, fun ⟨⟨pre, post, e, hp⟩, hx⟩ => ?_⟩⟩
  · obtain ⟨r, hr, rfl⟩ := List.mem_map.1 hx
    obtain ⟨⟨pre, post, e, hp⟩, hr2⟩ := (h.all r).1 hr
    refine ⟨⟨pre.map f, post.map f, by rw [e]; simp, fun y hy => ?_⟩, by rw [hg]; exact hr2⟩
    obtain ⟨z, hz, rfl⟩ := List.mem_map.1 hy
    rw [hk, hk]
    exact hp z hz
  · obtain ⟨l1, l2, rfl, rfl, e2⟩ := List.map_eq_append_iff.1 e
    obtain ⟨a, l3, rfl, rfl, rfl⟩ := List.map_eq_cons_iff.1 e2
    refine List.mem_map_of_mem ((h.all a).2 ⟨⟨l1, l3, rfl, fun y hy => ?_⟩, by rw [← hg]; exact hx⟩)
    have := hp (f y) (List.mem_map_of_mem hy)
    rwa [hk, hk] at this
theorem lastIn_snoc {k : α → Int} {hs : List α} {x y : α} : LastIn k (hs ++ [x]) y ↔ y = x ∨ (LastIn k hs y ∧ k y ≠ k x) := by
  refine ⟨fun ⟨pre, post, e, hp⟩ => ?_, ?_⟩
  · rcases List.eq_nil_or_concat post with rfl | ⟨p, z, rfl⟩
    · exact .inl (by have := List.append_inj_right' e rfl; simpa using this.symm)
    · rw [List.concat_eq_append] at e hp
      have e' : hs ++ [x] = (pre ++ y :: p) ++ [z] := by rw [e]; simp
      have h1 := List.append_inj_left' e' rfl
      have h2 := List.append_inj_right' e' rfl
      simp at h2
      subst h2
      exact .inr ⟨⟨pre, p, h1, fun v hv => hp v (List.mem_append_left _ hv)⟩, fun ek => hp x (by simp) ek.symm⟩
  · rintro (rfl | ⟨⟨pre, post, rfl, hp⟩, hne⟩)
    · exact ⟨hs, [], rfl, fun _ hy => absurd hy (List.not_mem_nil)⟩
    · refine ⟨pre, post ++ [x], by simp, fun v hv => ?_⟩
      rcases List.mem_append.1 hv with hv | hv
      · exact hp v hv
      · obtain rfl := List.mem_singleton.1 hv
        exact fun ek => hne ek.symm
theorem Lat.nil (k : α → Int) (g : α → Bool) : Lat k g [] [] :=
  ⟨List.Pairwise.nil, fun _ => ⟨fun h => absurd h (List.not_mem_nil), fun ⟨⟨_, _, e, _⟩, _⟩ => absurd e (by simp)⟩⟩
/-- One more behind them: it takes the place of the one of its key. -/
theorem Lat.snoc {k : α → Int} {g : α → Bool} {hs A M C : List α} {x : α} (h : Lat k g hs (A ++ (M ++ C))) (hA : ∀ a ∈ A, k a < k x) (hM : ∀ m ∈ M, k m = k x) (hC : ∀ c ∈ C, k x < k c) :
    Lat k g (hs ++ [x]) (A ++ ((if g x then [] else [x]) ++ C)) := by
  have hp := h.up
  rw [List.pairwise_append, List.pairwise_append] at hp
  obtain ⟨pA, ⟨_, pC, _⟩, pAC⟩ := hp
  refine ⟨?_, fun y => ?_⟩
  · rw [List.pairwise_append, List.pairwise_append]
    refine ⟨pA, ⟨by split <;> simp, pC, fun a ha c hc => ?_⟩, fun a ha b hb => ?_⟩
    · split at ha
      · exact absurd ha (List.not_mem_nil)
      · obtain rfl := List.mem_singleton.1 ha
        exact hC c hc
    · rcases List.mem_append.1 hb with hb | hb
      · split at hb
        · exact absurd hb (List.not_mem_nil)
        · obtain rfl := List.mem_singleton.1 hb
          exact hA a ha
      · exact pAC a ha b (List.mem_append_right _ hb)
  · rw [lastIn_snoc]
    have hall := h.all y
    simp only [List.mem_append] at hall ⊢
    constructor
    · rintro (hy | hy | hy)
      · have := hall.1 (.inl hy)
        exact ⟨.inr ⟨this.1, Int.ne_of_lt (hA y hy)⟩, this.2⟩
      · split at hy
        · exact absurd hy (List.not_mem_nil)
        · rename_i hg
          obtain rfl := List.mem_singleton.1 hy
          exact ⟨.inl rfl, by simpa using hg⟩
      · have := hall.1 (.inr (.inr hy))
        exact ⟨.inr ⟨this.1, (Int.ne_of_lt (hC y hy)).symm⟩, this.2⟩
    · rintro ⟨rfl | ⟨hl, hne⟩, hg⟩
      · exact .inr (.inl (by simp [hg]))
      · rcases hall.2 ⟨hl, hg⟩ with hy | hy | hy
        · exact .inl hy
        · exact absurd (hM y hy) hne
        · exact .inr (.inr hy)
end
end Go.Proofs.YtcflepnckjappaaGreat

namespace Go.Proofs.YtcflepnckjappaaGreat
open Go.RowKit

/-- The headers' cells. -/
def hcs (R : List ImH) : List Value := gcs (R.map hr)
theorem hcs_len (R : List ImH) : (hcs R).length = R.length * 3 := by unfold hcs; rw [gcs_len, List.length_map]
/-- A row of n headers that the call owns. -/
def ROwn (w : World) (B g n cap : Nat) (R : List ImH) : Prop := R.length = n ∧ w.ownsRow B 72 3 (.slice (some ⟨g, 0, none⟩) n cap) n (hcs R)
theorem ROwn.below {w w' : World} {B g n cap : Nat} {R : List ImH} (h : ROwn w B g n cap R) (hb : Below w.heap.size w w') : ROwn w' B g n cap R := ⟨h.1, rb_ownsRow_below h.2 hb⟩
theorem ROwn.drew {w : World} {B g n cap : Nat} {R : List ImH} (h : ROwn w B g n cap R) (q : Nat) : ROwn (w.drewN q) B g n cap R := h
theorem ROwn.lt {w : World} {B g n cap : Nat} {R : List ImH} (h : ROwn w B g n cap R) : B ≤ g ∧ g < w.heap.size := h.2.lt g rfl
theorem ROwn.down {w : World} {B C g n cap : Nat} {R : List ImH} (h : ROwn w B g n cap R) (hC : C ≤ B) : ROwn w C g n cap R := by
  refine ⟨h.1, h.2.1, ?_⟩
  rcases h.2.2 with ⟨e, _⟩ | ⟨g', cap', cur, e, h0, r⟩
  · cases e
  · exact .inr ⟨g', cap', cur, e, Nat.le_trans hC h0, r⟩
theorem ROwn.gowns {w : World} {B g n cap : Nat} {R : List ImH} (h : ROwn w B g n cap R) : GOwns w B (.slice (some ⟨g, 0, none⟩) n cap) (R.map hr) := by
  unfold GOwns
  rw [List.length_map, h.1]
  exact h.2
theorem ROwn.at {w : World} {B g n cap : Nat} {R : List ImH} (h : ROwn w B g n cap R) (i : Nat) (hi : i < R.length) : w.cell? ⟨g, i * 3, none⟩ = some (.int .i64 R[i].X.id) ∧ w.cell? ⟨g, i * 3 + 1, none⟩ = some (.bool R[i].X.gone) ∧ w.cell? ⟨g, i * 3 + 2, none⟩ = some (.slice (some ⟨R[i].g, 0, none⟩) R[i].X.xs.length R[i].c) := by
  have := gowns_at h.gowns i (by simpa using hi)
  simpa [hr] using this
theorem hcs_take (R : List ImH) (k : Nat) : (hcs R).take (k * 3) = hcs (R.take k) := by
  by_cases h : k ≤ R.length
  · have e : hcs R = hcs (R.take k) ++ hcs (R.drop k) := by unfold hcs; rw [← gcs_append, ← List.map_append, List.take_append_drop]
    have hl : (hcs (R.take k)).length = k * 3 := by rw [hcs_len, List.length_take]; omega
    rw [e, ← hl, List.take_left]
  · rw [List.take_of_length_le (by rw [hcs_len]; omega), List.take_of_length_le (by omega)]
theorem ROwn.take {w : World} {B g n cap : Nat} {R : List ImH} (h : ROwn w B g n cap R) (k : Nat) (hk : k ≤ n) : ROwn w B g k cap (R.take k) := by
  have hl := h.1
  refine ⟨by rw [List.length_take]; omega, by rw [hcs_len, List.length_take]; omega, ?_⟩
  rcases h.2.2 with ⟨e, _⟩ | ⟨g', cap', cur, e, h0, h1, h2, h3, h4, h5⟩
  · cases e
  · cases e
    refine .inr ⟨g, cap, cur, rfl, h0, h1, by omega, h3, h4, ?_⟩
    rw [← hcs_take, ← h5, List.take_take, Nat.min_eq_left (by omega)]
theorem ROwn.kept {w w' : World} {B g n cap r : Nat} {R : List ImH} (h : ROwn w B g n cap R) (hg : w.grownBy w' (some r)) (hne : r ≠ g) : ROwn w' B g n cap R := ⟨h.1, h.2.kept hg (by simp [Value.ownBlock]; omega)⟩
/-- Headers appended. -/
theorem ROwn.app {w : World} {B g n cap : Nat} {R : List ImH} (h : ROwn w B g n cap R) (A : Addr) (m c : Nat) (C : List ImH) (hm : C.length = m) (hsrc : ∀ t u, (hcs C)[t]? = some u → w.cell? (A.add t) = some u) (hz : n + m ≤ 1000000) (hB : B ≤ w.heap.size) :
    ∃ g' cap' w', (Builtin.append_ #[74, 74] 74 #[.slice (some ⟨g, 0, none⟩) n cap, .slice (some A) m c]).run Tryz.prog w = .ok (.slice (some ⟨g', 0, none⟩) (n + m) cap') w' ∧ ROwn w' B g' (n + m) cap' (R ++ C) ∧ w.grownBy w' (some g) ∧ (g' = g ∨ g' = w.heap.size) := by
  obtain ⟨i0, hi0, hz0, hz1, hz2⟩ := info_parts infoIm
  obtain ⟨v', w', hrun, ho', hg, hn, hloc⟩ := app_at (P := Tryz.prog) (w := w) (B := B) 74 74 72 Tryz.underlying74 hi0 hz0 hz1 hz2 rfl (by decide) h.2 A m c (hcs C) (by rw [hcs_len, hm]) hsrc (gcs_one _) (by unfold maxLen; omega) (by omega) hB (fun e => by cases e)
  rcases ho'.2 with ⟨e, _⟩ | ⟨g', cap', cur, rfl, h0⟩
  · exact absurd e hn
  · have ho2 : ROwn w' B g' (n + m) cap' (R ++ C) := ⟨by rw [List.length_append, h.1, hm], by unfold hcs at ho' ⊢; rw [List.map_append, gcs_append]; exact ho'⟩
    refine ⟨g', cap', w', hrun, ho2, hg, ?_⟩
    rcases hloc with e | e
    · exact .inl (by simpa [Value.ownBlock] using e)
    · exact .inr (by simpa [Value.ownBlock] using e)

end Go.Proofs.YtcflepnckjappaaGreat

namespace Go.Proofs.YtcflepnckjappaaGreat
open Go.RowKit

end Go.Proofs.YtcflepnckjappaaGreat

namespace Go.Proofs.YtcflepnckjappaaGreat
open Go.RowKit

theorem sc_conv {w : World} {a : Option Addr} {n c : Nat} {xs : List Int} (h : Row w a n xs) : (convert 22 9 (.slice a n c)).run Tryz.prog w = .ok (.string (strOfNums xs)) w := by
  by_cases hn : 0 < n
  · obtain ⟨b, off, rfl, _⟩ := h.2 0 hn
    exact run_convert_bytes_arg _ 22 5 Tryz.underlying22 Tryz.underlying5 b off n c xs h.1 (fun i hi => by
      obtain ⟨b', off', e, hc⟩ := h.2 i hi
      cases e
      exact hc) 9 Tryz.underlying9
  · obtain rfl : n = 0 := by omega
    obtain rfl : xs = [] := List.eq_nil_of_length_eq_zero h.1
    cases a with
    | none => rw [run_convert_bytes_string (P := Tryz.prog) w 22 9 5 none 0 c Tryz.underlying22 Tryz.underlying5 Tryz.underlying9]; rfl
    | some x =>
      obtain ⟨b, off, spot⟩ := x
      rw [run_convert_bytes_string (P := Tryz.prog) w 22 9 5 (some ⟨b, off, spot⟩) 0 c Tryz.underlying22 Tryz.underlying5 Tryz.underlying9]; rfl
theorem sc_back {xs : List Int} (hb : Bytes8 xs) : (strOfNums xs).data.toList.map (fun b : UInt8 => (b.toNat : Int)) = xs := by
  rw [strOfNums_data, List.map_map]
  have : ∀ x ∈ xs, ((fun b : UInt8 => (b.toNat : Int)) ∘ fun n : Int => UInt8.ofNat n.toNat) x = x := fun x hx => by
    have := bytes8_mem.1 hb x hx
    simp
    omega
  rw [List.map_congr_left this, List.map_id']
theorem sc_strs {xs ys : List Int} (hx : Bytes8 xs) (hy : Bytes8 ys) : ((strOfNums xs).toList == (strOfNums ys).toList) = decide (xs = ys) := by
  by_cases h : xs = ys
  · subst h; simp
  · rw [decide_eq_false h]
    cases hq : ((strOfNums xs).toList == (strOfNums ys).toList) with
    | false => rfl
    | true =>
      refine absurd ?_ h
      have e : (strOfNums xs).toList = (strOfNums ys).toList := by simpa using hq
      rw [ByteArray.toList_eq, ByteArray.toList_eq] at e
      rw [← sc_back hx, ← sc_back hy, e]
set_option maxHeartbeats 1000000 in
theorem scEqual_any (a1 a2 : Option Addr) (n1 c1 n2 c2 : Nat) (xs ys : List Int) (w : World) (h1 : Row w a1 n1 xs) (h2 : Row w a2 n2 ys) (hx : Bytes8 xs) (hy : Bytes8 ys) :
    Calls Tryz.prog 217 #[.slice a1 n1 c1, .slice a2 n2 c2] w fun e w' => e = .returned (.bool (decide (xs = ys))) ∧ w' = w := by
  have v1 := sc_conv (c := c1) h1
  have v2 := sc_conv (c := c2) h2
  have E := hide (sc_strs hx hy)
  clear h1 h2 hx hy
  generalize strOfNums xs = s1 at *
  generalize strOfNums ys = s2 at *
  go_enter Tryz.func217, Tryz.ntmps217
  go_wp2_with fail
  first | (go_quiet (fail); go_wp2_with fail) | skip
  go_ret
  exact ⟨ret_bool (unhide E), rfl⟩
theorem sc_row_take {w : World} {a : Option Addr} {n m : Nat} {xs : List Int} (h : Row w a n xs) (hm : m ≤ n) : Row w a m (xs.take m) := by
  refine ⟨by rw [List.length_take, h.1]; omega, fun i hi => ?_⟩
  obtain ⟨b, off, e, c⟩ := h.2 i (by omega)
  refine ⟨b, off, e, c.trans ?_⟩
  simp [List.getD, hi]
theorem sc_row_drop {w : World} {b off n : Nat} {xs : List Int} (h : Row w (some ⟨b, off, none⟩) n xs) (m : Nat) : Row w (some ⟨b, off + m, none⟩) (n - m) (xs.drop m) := by
  refine ⟨by rw [List.length_drop, h.1], fun i hi => ?_⟩
  obtain ⟨b', off', e, c⟩ := h.2 (m + i) (by omega)
  cases e
  refine ⟨b, off + m, rfl, ?_⟩
  rw [show off + m + i = off + (m + i) by omega, c]
  simp [List.getD]
set_option maxRecDepth 100000 in
set_option maxHeartbeats 1000000 in
theorem hasPrefix_any (a1 a2 : Option Addr) (n1 c1 n2 c2 : Nat) (xs ys : List Int) (w : World) (h1 : Row w a1 n1 xs) (h2 : Row w a2 n2 ys) (hx : Bytes8 xs) (hy : Bytes8 ys) (hc : n1 ≤ c1) (hm : c1 ≤ maxLen) (ha : a1 = none → c1 = 0) :
    Calls Tryz.prog 281 #[.slice a1 n1 c1, .slice a2 n2 c2] w fun e w' => e = .returned (.bool (decide (xs.take n2 = ys))) ∧ w' = w := by
  unfold maxLen at hm
  by_cases hle : n2 ≤ n1
  · have g1 : (n2 : Int) ≤ (n1 : Int) := by omega
    have g2 : (n2 : Int) ≤ (c1 : Int) := by omega
    have EQ := hide (fun cc => scEqual_any a1 a2 n2 cc n2 c2 (xs.take n2) ys w (sc_row_take h1 hle) h2 (bytes8_drop (n := 0) hx n2) hy)
    clear h1 h2 hx hy
    generalize decide (xs.take n2 = ys) = r at *
    cases a1 with
    | none =>
      obtain rfl := ha rfl
      obtain rfl : n2 = 0 := by omega
      go_enter Tryz.func281, Tryz.ntmps281
      go_wp2_with fail
      refine (unhide EQ _).mono ?_
      rintro e w1 ⟨rfl, hw⟩
      subst w1
      go_wp2_with fail
      go_ret
      exact ⟨rfl, rfl⟩
    | some x =>
      go_enter Tryz.func281, Tryz.ntmps281
      go_wp2_with fail
      refine (unhide EQ _).mono ?_
      rintro e w1 ⟨rfl, hw⟩
      subst w1
      go_wp2_with fail
      go_ret
      exact ⟨rfl, rfl⟩
  · have g1 : ¬ (n2 : Int) ≤ (n1 : Int) := by omega
    have E := hide (show decide (xs.take n2 = ys) = false from decide_eq_false fun e => by
      have := congrArg List.length e
      rw [List.length_take, h1.1, h2.1] at this
      omega)
    clear h1 h2 hx hy
    go_enter Tryz.func281, Tryz.ntmps281
    go_wp2_with fail
    go_ret
    exact ⟨ret_bool (unhide E).symm, rfl⟩
/-- append([]byte{}, s...): the copy lies in a new block. -/
theorem sc_copy {w : World} {B b off n c : Nat} {xs : List Int} (ty : TypeId) (hr : Row w (some ⟨b, off, none⟩) n xs) (hn : n ≤ 1000000) (hB : B ≤ w.heap.size) :
    ∃ g cap w', (Builtin.append_ #[22, 22] ty #[.slice (some ⟨w.heap.size, 0, none⟩) 0 0, .slice (some ⟨b, off, none⟩) n c]).run Tryz.prog (w.alloc (.cells #[] 5)) = .ok (.slice (some ⟨g, 0, none⟩) n cap) w' ∧ Owns w' B (.slice (some ⟨g, 0, none⟩) n cap) xs ∧ w.heap.size ≤ g ∧ Below w.heap.size w w' := by
  obtain ⟨i0, hi0, hz0, hz1, hz2⟩ := info_parts Tryz.infoU8
  have bA : Below w.heap.size w (w.alloc (.cells #[] 5)) := (Below.refl _ _).alloc (Nat.le_refl _) _
  have hO : Owns (w.alloc (.cells #[] 5)) w.heap.size (.slice (some ⟨w.heap.size, 0, none⟩) 0 0) [] := World.ownsRow_lit _ _ _ (Nat.le_refl _) (by unfold maxLen; simp) rfl
  obtain rfl := hr.1
  have hs : ∀ j u, (xs.map (Value.int .u8))[j]? = some u → (w.alloc (.cells #[] 5)).cell? ((⟨b, off, none⟩ : Addr).add j) = some u := fun j u hu => by
    have hj : j < xs.length := by simpa using (List.getElem?_eq_some_iff.1 hu).1
    obtain ⟨b', off', e, hc⟩ := hr.2 j hj
    cases e
    have e2 : (⟨b, off, none⟩ : Addr).add j = ⟨b, off + j, none⟩ := by unfold Addr.add; split <;> simp_all
    rw [e2, bA.cell (p := ⟨b, off + j, none⟩) (cell_lt hc), hc]
    rw [List.getElem?_map] at hu
    rw [← hu]
    simp [List.getD, hj]
  obtain ⟨v', w', hrun, ho, hg, hv⟩ := run_append_own (P := Tryz.prog) (w.alloc (.cells #[] 5)) w.heap.size 22 ty 5 i0 (.int .u8 0) 1 1 Tryz.underlying22 hi0 hz0 hz1 hz2 rfl (by decide) _ _ _ hO ⟨b, off, none⟩ xs.length c (xs.map (Value.int .u8)) (by simp) hs (all_u8 _) (by unfold maxLen; simp; omega) (by simp; omega) bA.size
  have ho' : Owns w' w.heap.size v' xs := by
    have := ho
    simp only [List.length_nil, Nat.zero_add, List.map_nil, List.nil_append] at this
    exact this
  have hb' : Below w.heap.size w w' := bA.trans ((Below.refl _ _).grown hg bA.size (fun k hk => (hO.lt k hk).1))
  rcases ho'.2 with ⟨e, _⟩ | ⟨g, cap, cur, e, hbg, r⟩
  · exfalso
    have := (hv.1 e).1
    cases this
  · subst e
    refine ⟨g, cap, w', hrun, ⟨ho'.1, .inr ⟨g, cap, cur, rfl, Nat.le_trans hB hbg, r⟩⟩, hbg, hb'⟩
/-- The same, other blocks made between. -/
theorem sc_copy2 {w : World} {C q b off n c : Nat} {xs : List Int} (ty : TypeId) (hO : Owns w C (.slice (some ⟨q, 0, none⟩) 0 0) []) (hr : Row w (some ⟨b, off, none⟩) n xs) (hn : n ≤ 1000000) (hC : C ≤ w.heap.size) :
    ∃ g cap w', (Builtin.append_ #[22, 22] ty #[.slice (some ⟨q, 0, none⟩) 0 0, .slice (some ⟨b, off, none⟩) n c]).run Tryz.prog w = .ok (.slice (some ⟨g, 0, none⟩) n cap) w' ∧ Owns w' C (.slice (some ⟨g, 0, none⟩) n cap) xs ∧ (g = q ∨ g = w.heap.size) ∧ w.grownBy w' (some q) := by
  obtain ⟨i0, hi0, hz0, hz1, hz2⟩ := info_parts Tryz.infoU8
  obtain rfl := hr.1
  have hs : ∀ j u, (xs.map (Value.int .u8))[j]? = some u → w.cell? ((⟨b, off, none⟩ : Addr).add j) = some u := fun j u hu => by
    have hj : j < xs.length := by simpa using (List.getElem?_eq_some_iff.1 hu).1
    obtain ⟨b', off', e, hc⟩ := hr.2 j hj
    cases e
    have e2 : (⟨b, off, none⟩ : Addr).add j = ⟨b, off + j, none⟩ := by unfold Addr.add; split <;> simp_all
    rw [e2, hc]
    rw [List.getElem?_map] at hu
    rw [← hu]
    simp [List.getD, hj]
  obtain ⟨v', w', hrun, ho, hg, hv, hloc⟩ := app_at (P := Tryz.prog) (w := w) (B := C) 22 ty 5 Tryz.underlying22 hi0 hz0 hz1 hz2 rfl (by decide) hO ⟨b, off, none⟩ xs.length c (xs.map (Value.int .u8)) (by simp) hs (all_u8 _) (by unfold maxLen; simp; omega) (by simp; omega) hC (fun e => by cases e)
  have ho' : Owns w' C v' xs := by
    have := ho
    simp only [List.length_nil, Nat.zero_add, List.map_nil, List.nil_append] at this
    exact this
  rcases ho'.2 with ⟨e, _⟩ | ⟨g, cap, cur, e, hbg, r⟩
  · exact absurd e hv
  · subst e
    refine ⟨g, cap, w', hrun, ho', ?_, hg⟩
    simpa [Value.ownBlock] using hloc
theorem sc_wpApp {P : Program} {ops : Array Oper} {rest : List Oper} {o : Oper} {a : Act} {w : World} {Q : Exit → Act → World → Prop}
    (hg : o.guard = none) (s x : Operand) (t : TypeId) (hop : o.op = Op.call { callee := Callee.builtin Builtin.append, args := #[s, x], argTypes := #[t, t] })
    (vs vx v' : Value) (w' : World) (hs : a.eval s = vs) (hx : a.eval x = vx) (hrun : (Builtin.append_ #[t, t] o.type #[vs, vx]).run P w = .ok v' w') (h : wpList P ops Q rest (a.put o.dst v') w') :
    wpList P ops Q (o :: rest) a w :=
  wpList_plain hg fun _ hK => by
    unfold Oper.wp
    simp [execOp, hop, resolve, invoke, builtin, hs, hx, hrun, Result.andThen]
    exact hK _ _ h
theorem sc_stepApp {P : Program} {ops : Array Oper} {o : Oper} {a : Act} {w : World} {K : Act → World → Prop} {Q : Exit → Act → World → Prop} {E : Prop}
    (hg : o.guard = none) (s x : Operand) (t : TypeId) (hop : o.op = Op.call { callee := Callee.builtin Builtin.append, args := #[s, x], argTypes := #[t, t] })
    (vs vx v' : Value) (w' : World) (hs : a.eval s = vs) (hx : a.eval x = vx) (hrun : (Builtin.append_ #[t, t] o.type #[vs, vx]).run P w = .ok v' w') (hK : K (a.put o.dst v') w') :
    if Region.wanted o (yielded ops a.tmps) = true then Oper.wp P o a w K Q else E := by
  have hw : Region.wanted o (yielded ops a.tmps) = true := by simp [Region.wanted, hg]
  rw [if_pos hw]
  unfold Oper.wp
  simp [execOp, hop, resolve, invoke, builtin, hs, hx, hrun, Result.andThen]
  exact hK
theorem sc_eql_nil (w : World) (x : Addr) (n c : Nat) : (binOp .eql 22 (.slice (some x) n c) (.slice none 0 0)).run Tryz.prog w = .ok (.bool false) w := by
  have e0 : ∀ d, (Op.equalIn (d + 1) 22 (.slice (some x) n c) (.slice none 0 0)).run Tryz.prog w = .ok false w := fun d => by simp [Op.equalIn, run_underlying Tryz.underlying22]
  simp only [binOp]
  simp [show Op.equal 22 (.slice (some x) n c) (.slice none 0 0) = Op.equalIn (9999 + 1) 22 (.slice (some x) n c) (.slice none 0 0) from rfl, e0 9999]
set_option maxRecDepth 100000 in
set_option maxHeartbeats 1000000 in
theorem clone_any (b off n c : Nat) (xs : List Int) (w : World) (hr : Row w (some ⟨b, off, none⟩) n xs) (hn : n ≤ 1000000) :
    Calls Tryz.prog 168 #[.slice (some ⟨b, off, none⟩) n c] w fun e w' => ∃ g cap, e = .returned (.slice (some ⟨g, 0, none⟩) n cap) ∧ Owns w' w.heap.size (.slice (some ⟨g, 0, none⟩) n cap) xs ∧ Below w.heap.size w w' := by
  obtain ⟨g, cap, w', hrun, ho, _, hb⟩ := sc_copy (c := c) (B := w.heap.size) 22 hr hn (Nat.le_refl _)
  have Z := hide (And.intro ho hb)
  have hnil := sc_eql_nil w ⟨b, off, none⟩ n c
  clear ho hb hr
  go_enter Tryz.func168, Tryz.ntmps168
  go_wp2_with (at_builtin; refine sc_wpApp rfl (.tmp 5) (.tmp 6) 22 rfl _ _ _ w' rfl rfl hrun ?_)
  go_ret
  exact ⟨g, cap, rfl, (unhide Z).1, (unhide Z).2⟩
theorem sc_or_two (x y : Int) (hx : 0 ≤ x ∧ x ≤ 255) (hy : 0 ≤ y ∧ y ≤ 255) : bits .or .i64 (x * 256) y = x * 256 + y := by
  obtain ⟨a, rfl⟩ := Int.eq_ofNat_of_zero_le hx.1
  obtain ⟨b, rfl⟩ := Int.eq_ofNat_of_zero_le hy.1
  show IntKind.i64.wrap ((BitVec.ofInt 64 ((a : Int) * 256) ||| BitVec.ofInt 64 (b : Int)).toNat : Int) = _
  have e1 : (BitVec.ofInt 64 ((a : Int) * 256)).toNat = a * 256 := by rw [BitVec.toNat_ofInt]; omega
  have e2 : (BitVec.ofInt 64 (b : Int)).toNat = b := by rw [BitVec.toNat_ofInt]; omega
  rw [BitVec.toNat_or, e1, e2, nat_join 8 (a * 256) b (by omega) (by omega), IntKind.wrap_i64]
  omega
set_option maxHeartbeats 1000000 in
theorem scTwo_any (a : Option Addr) (n c at_ : Nat) (xs : List Int) (w : World) (h : Row w a n xs) (hb : Bytes8 xs) (hat : at_ + 1 < n) (hn : n ≤ 1000000000) :
    Calls Tryz.prog 252 #[.slice a n c, .int .i64 at_] w fun e w' => e = .returned (.int .i64 (xs.getD at_ 0 * 256 + xs.getD (at_ + 1) 0)) ∧ Below w.heap.size w w' := by
  obtain ⟨b, off, rfl, c0⟩ := h.2 at_ (by omega)
  obtain ⟨b', off', e, c1⟩ := h.2 (at_ + 1) (by omega)
  cases e
  have x0 := getD_bytes hb at_
  have x1 := getD_bytes hb (at_ + 1)
  have hor := sc_or_two _ _ x0 x1
  generalize xs.getD at_ 0 = u at *
  generalize xs.getD (at_ + 1) 0 = v at *
  have h0 : (0 : Int) ≤ (at_ : Int) := by omega
  have h1 : (at_ : Int) < (n : Int) := by omega
  have h2 : (at_ : Int) + 1 < (n : Int) := by omega
  have w1 : IntKind.i64.wrap ((at_ : Int) + 1) = (at_ : Int) + 1 := by rw [IntKind.wrap_i64]; omega
  have w2 : IntKind.i64.wrap u = u := by rw [IntKind.wrap_i64]; omega
  have w3 : IntKind.i64.wrap v = v := by rw [IntKind.wrap_i64]; omega
  have w4 : IntKind.i64.wrap (u * 256) = u * 256 := by rw [IntKind.wrap_i64]; omega
  have w5 : ((at_ : Int) + 1).toNat = at_ + 1 := by omega
  clear h hb
  go_enter Tryz.func252, Tryz.ntmps252
  go_wp2_with fail
  go_quiet (fail)
  go_wp2_with fail
  go_ret
  exact ⟨rfl, bel_drewN (Below.refl _ _) _⟩
end Go.Proofs.YtcflepnckjappaaGreat

namespace Go.Proofs.YtcflepnckjappaaGreat
open Go.RowKit

theorem lts_cells {w : World} {a : Option Addr} {n : Nat} {hs : List ImH} (hR : GRow w a n (hs.map hr)) (i : Nat) (hi : i < hs.length) : ∃ b off, a = some ⟨b, off, none⟩ ∧ b < w.heap.size ∧ w.cell? ⟨b, off + i * 3, none⟩ = some (.int .i64 hs[i].X.id) ∧ w.cell? ⟨b, off + i * 3 + 1, none⟩ = some (.bool hs[i].X.gone) ∧ w.cell? ⟨b, off + i * 3 + 2, none⟩ = some (.slice (some ⟨hs[i].g, 0, none⟩) hs[i].X.xs.length hs[i].c) := by
  obtain ⟨b, off, e, c0, c1, c2⟩ := hR.2 i (by simpa using hi)
  exact ⟨b, off, e, cell_lt c0, by simpa [hr] using c0, by simpa [hr] using c1, by simpa [hr] using c2⟩
end Go.Proofs.YtcflepnckjappaaGreat

namespace Go.Proofs.YtcflepnckjappaaGreat
open Go.RowKit

/-- A reader in memory: what is left, and whether it was too short. -/
def RdAt (w : World) (rb D : Nat) (s : Rs) : Prop :=
  ∃ a n c, w.heap[rb]? = some (.cells #[.slice a n c, .bool s.2] 163 (0, 0)) ∧ Row w a n s.1 ∧ n ≤ c ∧ (∀ x, a = some x → x.block ≠ rb ∧ x.block < D) ∧ n ≤ 65536 ∧ rb < D
theorem wr_cell (w : World) (b o : Nat) (v : Value) : Wr (fun i => i = b) w (w.setCell ⟨b, o, none⟩ v) := ⟨rfl, rfl, rfl, by simp [World.setCell], fun k _ hk => Below.heap_setCell _ _ _ _ hk⟩
theorem Row.wr {P : Nat → Prop} {w w' : World} {a : Option Addr} {n : Nat} {xs : List Int} (h : Row w a n xs) (hw : Wr P w w') (hp : ∀ x, a = some x → ¬ P x.block) : Row w' a n xs := by
  refine ⟨h.1, fun i hi => ?_⟩
  obtain ⟨b, off, e, c⟩ := h.2 i hi
  exact ⟨b, off, e, (World.cell?_of_block (w := w) (hw.block b (cell_lt c) (hp _ e))).trans c⟩
theorem heap_lt1 {w : World} {b : Nat} {o : Obj} (h : w.heap[b]? = some o) : b < w.heap.size := (Array.getElem?_eq_some_iff.1 h).1
theorem RdAt.wr {P : Nat → Prop} {w w' : World} {rb D : Nat} {s : Rs} (h : RdAt w rb D s) (hw : Wr P w w') (hp : ∀ i, P i → D ≤ i) : RdAt w' rb D s := by
  obtain ⟨a, n, c, h1, h2, h3, h4, h5, h6⟩ := h
  exact ⟨a, n, c, (hw.block rb (heap_lt1 h1) (fun h => by have := hp _ h; omega)).trans h1, h2.wr hw (fun x hx h => by have := hp _ h; have := (h4 x hx).2; omega), h3, h4, h5, h6⟩
theorem RdAt.below {w w' : World} {rb D : Nat} {s : Rs} (h : RdAt w rb D s) (hb : Below w.heap.size w w') : RdAt w' rb D s :=
  h.wr (P := fun _ => False) (Wr.of_below hb) (fun _ h => h.elim)
theorem RdAt.lt {w : World} {rb D : Nat} {s : Rs} (h : RdAt w rb D s) : rb < w.heap.size ∧ rb < D := by obtain ⟨a, n, c, h1, _, _, _, _, h6⟩ := h; exact ⟨heap_lt1 h1, h6⟩
theorem add_block (y : Addr) (k : Nat) : (y.add k).block = y.block := by
  unfold Addr.add
  split
  · rfl
  · rfl
theorem map_add0 (a : Option Addr) : a.map (·.add 0) = a := by cases a <;> simp [Addr.add]
theorem row_take {w : World} {a : Option Addr} {n k : Nat} {xs : List Int} (h : Row w a n xs) (hk : k ≤ n) : Row w a k (xs.take k) := by
  refine ⟨by rw [List.length_take, h.1]; omega, fun i hi => ?_⟩
  obtain ⟨b, off, e, c⟩ := h.2 i (by omega)
  exact ⟨b, off, e, by rw [c]; simp [List.getD_eq_getElem?_getD, hi]⟩
theorem row_drop {w : World} {b off n k : Nat} {xs : List Int} (h : Row w (some ⟨b, off, none⟩) n xs) (hk : k ≤ n) : Row w (some ⟨b, off + k, none⟩) (n - k) (xs.drop k) := by
  refine ⟨by rw [List.length_drop, h.1], fun i hi => ?_⟩
  obtain ⟨b', off', e, c⟩ := h.2 (k + i) (by omega)
  cases e
  exact ⟨b, off + k, rfl, by rw [Nat.add_assoc, c]; simp [List.getD_eq_getElem?_getD, List.getElem?_drop]⟩
/-- The reader's two cells stored anew. -/
theorem rd_set {w : World} {rb : Nat} {v0 v1 : Value} {t : TypeId} (h : w.heap[rb]? = some (.cells #[v0, v1] t (0, 0))) (u : Value) : (w.setCell ⟨rb, 0, none⟩ u).heap[rb]? = some (.cells #[u, v1] t (0, 0)) := by
  simpa using heap_set h 0 u
theorem rd_set1 {w : World} {rb : Nat} {v0 v1 : Value} {t : TypeId} (h : w.heap[rb]? = some (.cells #[v0, v1] t (0, 0))) (u : Value) : (w.setCell ⟨rb, 1, none⟩ u).heap[rb]? = some (.cells #[v0, u] t (0, 0)) := by
  simpa using heap_set h 1 u
theorem rd_cells {w : World} {rb : Nat} {v0 v1 : Value} {t : TypeId} (h : w.heap[rb]? = some (.cells #[v0, v1] t (0, 0))) : w.cell? ⟨rb, 0, none⟩ = some v0 ∧ w.cell? ⟨rb, 1, none⟩ = some v1 ∧ w.frozen? ⟨rb, 0, none⟩ = false ∧ w.frozen? ⟨rb, 1, none⟩ = false := by
  refine ⟨?_, ?_, ?_, ?_⟩ <;> simp [World.cell?, World.frozen?, h]
/-- What take leaves. -/
def TkRes (w : World) (rb D k : Nat) (s : Rs) (e : Ending) (w' : World) : Prop :=
  ∃ a c, e = .returned (.slice a k c) ∧ Row w' a k (tk k s).1 ∧ RdAt w' rb D (tk k s).2 ∧ Wr (fun i => i = rb) w w'
set_option maxRecDepth 100000 in
set_option maxHeartbeats 4000000 in
theorem take_any (rb D k : Nat) (s : Rs) (w : World) (h : RdAt w rb D s) (hk : k ≤ 65535) :
    Calls Tryz.prog 251 #[.pointer (some ⟨rb, 0, none⟩), .int .i64 k] w fun e w' => TkRes w rb D k s e w' := by
  obtain ⟨i0, hi, hz0, hz1, hz2⟩ := info_parts Tryz.infoU8
  obtain ⟨a, n, c, h1, h2, h3, h4, h5, h6⟩ := h
  obtain ⟨c0, c1, f0, f1⟩ := rd_cells h1
  have hL := h2.1
  by_cases hs : n < k
  · have ET := hide (show tk k s = (List.replicate k 0, ([], true)) by unfold tk; rw [if_pos (by omega)])
    have S1 := rd_set1 h1 (.bool true)
    have S2 := rd_set S1 (.slice none 0 0)
    have W2 := (wr_cell w rb 1 (.bool true)).trans (wr_cell (w.setCell ⟨rb, 1, none⟩ (.bool true)) rb 0 (.slice none 0 0))
    have g0 := (rd_cells S1).2.2.1
    have HS := hide S2
    have HW := hide W2
    have hsz : rb < ((w.setCell ⟨rb, 1, none⟩ (.bool true)).setCell ⟨rb, 0, none⟩ (.slice none 0 0)).heap.size := heap_lt1 S2
    have hki : (n : Int) < (k : Int) := by omega
    clear h1 h2 S1 S2 W2 hL
    go_enter Tryz.func251, Tryz.ntmps251
    go_wp2_with (at_make; refine wpList_make_full _ rfl _ _ 22 rfl w.heap.size 5 i0 (.int .u8 0) 1 Tryz.underlying22 hi hz0 hz1 _ _ _ _ k rfl rfl rfl rfl (by rw [hz2]; omega) (by unfold maxLen; omega) (by simp) ?_)
    intro w1 hown hgrow
    rw [toList_madeCells_one] at hown
    have hr : Row w1 (some ⟨w.heap.size, 0, none⟩) k (List.replicate k 0) := by
      refine ⟨by simp, fun i hi => ⟨_, 0, rfl, ?_⟩⟩
      rw [Nat.zero_add, hown.cellAt i (by omega)]
      simp [hi, List.getD_eq_getElem?_getD]
    have hwr : Wr (fun i => i = rb) w w1 := (unhide HW).trans (Wr.of_grown hgrow (fun i h => by cases h))
    have hR : RdAt w1 rb D ([], true) := ⟨none, 0, 0, (hgrow.block rb hsz (by simp)).trans (unhide HS), ⟨rfl, fun i hi => absurd hi (Nat.not_lt_zero _)⟩, Nat.le_refl _, (fun x hx => by cases hx), by omega, h6⟩
    have FIN := hide (show TkRes w rb D k s (.returned (.slice (some ⟨w.heap.size, 0, none⟩) k k)) w1 from ⟨_, _, rfl, by rw [unhide ET]; exact hr, by rw [unhide ET]; exact hR, hwr⟩)
    clear hown hgrow hr hwr hR
    go_wp2_with fail
    go_ret
    exact unhide FIN
  · have hkn : k ≤ n := by omega
    have hki : ¬ ((n : Int) < (k : Int)) := by omega
    have hk1 : (0 : Int) ≤ (k : Int) := by omega
    have hk2 : (k : Int) ≤ (c : Int) := by omega
    have hk3 : (k : Int) ≤ (n : Int) := by omega
    have ET := hide (show tk k s = (s.1.take k, (s.1.drop k, s.2)) by unfold tk; rw [if_neg (by omega)])
    obtain ⟨av, hav⟩ : ∃ av, av = (if c = k then a else a.map (·.add k)) := ⟨_, rfl⟩
    have hD : Row w av (n - k) (s.1.drop k) ∧ ∀ x, av = some x → x.block ≠ rb ∧ x.block < D := by
      by_cases hck : c = k
      · rw [if_pos hck] at hav
        have : n - k = 0 := by omega
        rw [this, hav]
        exact ⟨⟨by rw [List.length_drop, h2.1]; omega, fun i hi => absurd hi (Nat.not_lt_zero _)⟩, h4⟩
      · rw [if_neg hck] at hav
        by_cases h0 : n = 0
        · have : n - k = 0 := by omega
          rw [this]
          refine ⟨⟨by rw [List.length_drop, h2.1]; omega, fun i hi => absurd hi (Nat.not_lt_zero _)⟩, fun x hx => ?_⟩
          rw [hav] at hx
          cases ha : a with
          | none => rw [ha] at hx; cases hx
          | some y =>
            rw [ha] at hx
            simp only [Option.map_some, Option.some.injEq] at hx
            have := h4 y ha
            rw [← hx, add_block]
            exact this
        · obtain ⟨b, off, ha, _⟩ := h2.2 0 (by omega)
          rw [ha] at hav h2
          have e : (⟨b, off, none⟩ : Addr).add k = ⟨b, off + k, none⟩ := by unfold Addr.add; split <;> simp_all
          rw [hav]
          simp only [Option.map_some, e]
          exact ⟨row_drop h2 hkn, fun x hx => by injection hx with hx; rw [← hx]; exact h4 ⟨b, off, none⟩ ha⟩
    have T := row_take h2 hkn
    have S2 := rd_set h1 (.slice av (n - k) (c - k))
    have W2 := wr_cell w rb 0 (.slice av (n - k) (c - k))
    have FIN := hide (show TkRes w rb D k s (.returned (.slice a k k)) (w.setCell ⟨rb, 0, none⟩ (.slice av (n - k) (c - k))) from ⟨_, _, rfl, by rw [unhide ET]; exact T.wr W2 (fun x hx => (h4 x hx).1), by rw [unhide ET]; exact ⟨_, _, _, S2, hD.1.wr W2 (fun x hx => (hD.2 x hx).1), by omega, hD.2, by omega, h6⟩, W2⟩)
    have fin : ∀ v, v = .slice av (n - k) (c - k) → TkRes w rb D k s (.returned (.slice a k k)) (w.setCell ⟨rb, 0, none⟩ v) := fun v hv => by rw [hv]; exact unhide FIN
    have FN := hide fin
    have HAV := hide hav
    clear h1 h2 hD T S2 W2 FIN fin hav
    by_cases hck : c = k
    · subst hck
      have ea : av = a := by rw [unhide HAV, if_pos rfl]
      go_enter Tryz.func251, Tryz.ntmps251
      go_wp2_with fail
      go_ret
      exact unhide FN _ (by rw [ea]; simp; omega)
    · have hck' : ¬ (k = c) := fun h => hck h.symm
      have ea : av = a.map (·.add k) := by rw [unhide HAV, if_neg hck]
      by_cases hk0 : k = 0
      · subst hk0
        go_enter Tryz.func251, Tryz.ntmps251
        go_wp2_with fail
        go_ret
        exact unhide FN _ (by rw [ea, map_add0]; simp)
      · go_enter Tryz.func251, Tryz.ntmps251
        go_wp2_with fail
        go_ret
        exact unhide FN _ (by rw [ea])
end Go.Proofs.YtcflepnckjappaaGreat

namespace Go.Proofs.YtcflepnckjappaaGreat
open Go.RowKit

/-- What a reading leaves: its answer, the reader behind it, nothing else written. -/
def Rds (w : World) (rb D : Nat) (v : Value) (s : Rs) (e : Ending) (w' : World) : Prop := e = .returned v ∧ RdAt w' rb D s ∧ Wr (fun i => i = rb) w w'
set_option maxHeartbeats 1000000 in
theorem one_any (rb D : Nat) (s : Rs) (w : World) (h : RdAt w rb D s) (hb : By s.1) :
    Calls Tryz.prog 174 #[.pointer (some ⟨rb, 0, none⟩)] w fun e w' => Rds w rb D (.int .i64 (rOne s).1) (rOne s).2 e w' := by
  have LE := hide (rOne_le hb)
  have H := hide h
  clear h
  go_enter Tryz.func174, Tryz.ntmps174
  go_wp2_with fail
  refine (take_any rb D 1 s w (unhide H) (by omega)).mono ?_
  rintro e w1 ⟨a, c, rfl, hr, hR, hw⟩
  obtain ⟨b, off, rfl, c0⟩ := hr.2 0 (by omega)
  have e0 : (tk 1 s).1.getD 0 0 = (rOne s).1 := rfl
  rw [e0, Nat.add_zero] at c0
  have w2 : IntKind.i64.wrap (rOne s).1 = (rOne s).1 := by have := unhide LE; rw [IntKind.wrap_i64]; omega
  obtain ⟨x, hx⟩ : ∃ x, x = (rOne s).1 := ⟨_, rfl⟩
  have FIN := hide (show Rds w rb D (.int .i64 (rOne s).1) (rOne s).2 (.returned (.int .i64 x)) w1 from ⟨by rw [hx], hR, hw⟩)
  rw [← hx] at c0 w2
  clear hr hR hw e0 hx
  go_wp2_with fail
  go_ret
  exact unhide FIN
theorem conv_text {w : World} {a : Option Addr} {n c : Nat} {xs : List Int} (h : Row w a n xs) : (convert 22 9 (.slice a n c)).run Tryz.prog w = .ok (.string (strOfNums xs)) w := by
  by_cases hn : 0 < n
  · obtain ⟨b, off, rfl, _⟩ := h.2 0 hn
    exact run_convert_bytes_arg _ 22 5 Tryz.underlying22 Tryz.underlying5 b off n c xs h.1 (fun i hi => by
      obtain ⟨b', off', e, hc⟩ := h.2 i hi
      cases e
      exact hc) 9 Tryz.underlying9
  · obtain rfl : n = 0 := by omega
    obtain rfl : xs = [] := List.eq_nil_of_length_eq_zero h.1
    cases a with
    | none => rw [run_convert_bytes_string (P := Tryz.prog) w 22 9 5 none 0 c Tryz.underlying22 Tryz.underlying5 Tryz.underlying9]; rfl
    | some x =>
      obtain ⟨b, off, spot⟩ := x
      rw [run_convert_bytes_string (P := Tryz.prog) w 22 9 5 (some ⟨b, off, spot⟩) 0 c Tryz.underlying22 Tryz.underlying5 Tryz.underlying9]; rfl
set_option maxHeartbeats 1000000 in
theorem textR_any (rb D : Nat) (s : Rs) (w : World) (h : RdAt w rb D s) (hb : By s.1) :
    Calls Tryz.prog 172 #[.pointer (some ⟨rb, 0, none⟩)] w fun e w' => Rds w rb D (.string (rText s).1) (rText s).2 e w' := by
  have H := hide h
  have LE := rOne_le hb
  obtain ⟨m, hm⟩ : ∃ m : Nat, (rOne s).1 = (m : Int) := Int.eq_ofNat_of_zero_le LE.1
  have ET := hide (show rText s = (strOfNums (tk m (rOne s).2).1, (tk m (rOne s).2).2) by
    have : (rOne s).1.toNat = m := by omega
    rw [← this]; rfl)
  have HM := hide hm
  have hm2 : m ≤ 255 := by omega
  clear h hm LE
  go_enter Tryz.func172, Tryz.ntmps172
  go_wp2_with fail
  refine (one_any rb D s w (unhide H) hb).mono ?_
  rintro e w1 ⟨rfl, hR, hw⟩
  have HA := hide hR
  have HW := hide hw
  clear hR hw
  rw [unhide HM]
  go_wp2_with fail
  refine (take_any rb D m (rOne s).2 w1 (unhide HA) (by omega)).mono ?_
  rintro e w2 ⟨a, c, rfl, hr, hR, hw⟩
  have hcv := conv_text (c := c) hr
  have FIN := hide (show Rds w rb D (.string (rText s).1) (rText s).2 (.returned (.string (strOfNums (tk m (rOne s).2).1))) w2 from ⟨by rw [unhide ET], by rw [unhide ET]; exact hR, (unhide HW).trans hw⟩)
  clear hr hR hw
  generalize strOfNums (tk m (rOne s).2).1 = x at *
  go_wp2_with fail
  go_ret
  exact unhide FIN
end Go.Proofs.YtcflepnckjappaaGreat

namespace Go.Proofs.YtcflepnckjappaaGreat
open Go.RowKit

/-- An append whose run is known. -/
theorem rc_wpApp {P : Program} {ops : Array Oper} {rest : List Oper} {o : Oper} {a : Act} {w : World} {Q : Exit → Act → World → Prop}
    (hg : o.guard = none) (s x : Operand) (t : TypeId) (hop : o.op = Op.call { callee := Callee.builtin Builtin.append, args := #[s, x], argTypes := #[t, t] })
    (vs vx v' : Value) (w' : World) (hs : a.eval s = vs) (hx : a.eval x = vx) (hrun : (Builtin.append_ #[t, t] o.type #[vs, vx]).run P w = .ok v' w') (h : wpList P ops Q rest (a.put o.dst v') w') :
    wpList P ops Q (o :: rest) a w :=
  wpList_plain hg fun _ hK => by
    unfold Oper.wp
    simp [execOp, hop, resolve, invoke, builtin, hs, hx, hrun, Result.andThen]
    exact hK _ _ h
/-- One version appended to a row of the call's own. -/
theorem rc_app {w : World} {B : Nat} {v : Value} {ds : List VerD} {d : VerD} (ho : VOwns w B v ds) (hz : ds.length ≤ 1000000) (hB : B ≤ w.heap.size) :
    ∃ v' w', (Builtin.append_ #[25, 25] 25 #[v, .slice (some ⟨w.heap.size, 0, none⟩) 1 1]).run Tryz.prog (w.alloc (.cells #[.string d.k, .int .i64 d.t, .string d.v, .bool d.g] 51)) = .ok v' w' ∧ VOwns w' B v' (ds ++ [d]) ∧ (w.alloc (.cells #[.string d.k, .int .i64 d.t, .string d.v, .bool d.g] 51)).grownBy w' v.ownBlock := by
  obtain ⟨i0, hi0, hz0, hz1, hz2⟩ := info_parts Tryz.infoVersion
  obtain ⟨v', w', hr, ho', hg, _⟩ := run_append_own (P := Tryz.prog) (w.alloc (.cells #[.string d.k, .int .i64 d.t, .string d.v, .bool d.g] 51)) B 25 25 51 i0 _ 4 48 Tryz.underlying25 hi0 hz0 hz1 hz2 rfl (by decide) v _ _ (World.ownsRow.alloc ho _) ⟨w.heap.size, 0, none⟩ 1 1 (vcs [d]) (by simp [vcs]) (fun j u hu => by
    have hj : j < 4 := by simpa [vcs] using (List.getElem?_eq_some_iff.1 hu).1
    have e2 : (⟨w.heap.size, 0, none⟩ : Addr).add j = ⟨w.heap.size, j, none⟩ := by unfold Addr.add; split <;> simp_all
    rw [e2]
    refine rb_cell_new rfl ?_
    match j, hj with
    | 0, _ => simpa [vcs] using hu
    | 1, _ => simpa [vcs] using hu
    | 2, _ => simpa [vcs] using hu
    | 3, _ => simpa [vcs] using hu) (vcs_one _) (by unfold maxLen; omega) (by omega) (by simp; omega)
  refine ⟨v', w', hr, ?_, hg⟩
  unfold VOwns
  rw [List.length_append, vcs_append]
  exact ho'
/-- What is left of the reader's bytes. -/
def restLen (w : World) (rb : Nat) : Nat := match w.cell? ⟨rb, 0, none⟩ with
  | some (.slice _ n _) => n
  | _ => 0
theorem rest_of {w : World} {rb D : Nat} {s : Rs} (h : RdAt w rb D s) : restLen w rb = s.1.length := by
  obtain ⟨a, n, c, h1, h2, _⟩ := h
  unfold restLen
  rw [(rd_cells h1).1]
  exact h2.1.symm
/-- A write that is being read: the list, the reader, the write's block. -/
structure WvSt (w wr : World) (rb D bx : Nat) (v : Value) (L : List VerD) (s : Rs) (cs : Array Value) : Prop where
  own : VOwns wr w.heap.size v L
  rd : RdAt wr rb D s
  hw : Wr (fun i => i = rb) w wr
  lt : rb < D ∧ D ≤ w.heap.size
  k : wr.heap[bx]? = some (.cells cs 51 (0, 0))
  far : w.heap.size ≤ bx ∧ v.ownBlock ≠ some bx
theorem WvSt.read {w wr w1 : World} {rb D bx : Nat} {v : Value} {L : List VerD} {s s' : Rs} {cs : Array Value} (h : WvSt w wr rb D bx v L s cs) (hr : RdAt w1 rb D s') (hw : Wr (fun i => i = rb) wr w1) : WvSt w w1 rb D bx v L s' cs :=
  have hl := h.lt
  have hf := h.far
  ⟨owns_wr h.own hw (fun i hi e => by have := (h.own.lt i hi).1; omega), hr, h.hw.trans hw, hl, loc_wr h.k hw (by omega), hf⟩
theorem WvSt.set {w wr : World} {rb D bx : Nat} {v : Value} {L : List VerD} {s : Rs} {cs : Array Value} (h : WvSt w wr rb D bx v L s cs) (j : Nat) (u : Value) : WvSt w (wr.setCell ⟨bx, j, none⟩ u) rb D bx v L s (cs.setIfInBounds j u) :=
  have hl := h.lt
  have hf := h.far
  have hc := wr_cell wr bx j u
  ⟨owns_wr h.own hc (fun i hi e => hf.2 (by rw [hi, e])), h.rd.wr hc (fun i e => by omega), ⟨hc.os.trans h.hw.os, hc.tape.trans h.hw.tape, hc.output.trans h.hw.output, Nat.le_trans h.hw.size hc.size, fun i hi hp => (hc.block i (Nat.lt_of_lt_of_le hi h.hw.size) (by omega)).trans (h.hw.block i hi hp)⟩, hl, heap_set h.k j u, hf⟩
theorem WvSt.fin {w wr w' : World} {rb D bx : Nat} {v : Value} {L : List VerD} {s : Rs} {cs : Array Value} {o : Obj} (h : WvSt w wr rb D bx v L s cs) (hg : (wr.alloc o).grownBy w' v.ownBlock) : RdAt w' rb D s ∧ Wr (fun i => i = rb) w w' := by
  have hl := h.lt
  have b : Below wr.heap.size wr (wr.alloc o) := (Below.refl _ _).alloc (Nat.le_refl _) _
  have hw1 : Wr (fun i => v.ownBlock = some i) (wr.alloc o) w' := Wr.of_grown hg (fun i e => e)
  refine ⟨(h.rd.below b).wr hw1 (fun i e => by have := (h.own.lt i e).1; omega), ⟨hg.os.trans (b.os.trans h.hw.os), hg.tape.trans (b.tape.trans h.hw.tape), hg.output.trans (b.output.trans h.hw.output), Nat.le_trans h.hw.size (Nat.le_trans b.size hg.size), fun i hi hp => ?_⟩⟩
  have hs := h.hw.size
  have hs1 := b.size
  exact (hw1.block i (by omega) (fun e => by have := (h.own.lt i e).1; omega)).trans ((b.block i (by omega)).trans (h.hw.block i hi hp))
set_option maxRecDepth 100000 in
set_option maxHeartbeats 4000000 in
theorem rWrites_any (rb D : Nat) (s0 : Rs) (t : Int) (w : World) (h : RdAt w rb D s0) (hb : By s0.1) (hD : D ≤ w.heap.size) (hl0 : s0.1.length ≤ 65536) :
    Calls Tryz.prog 215 #[.pointer (some ⟨rb, 0, none⟩), .int .i64 t] w fun e w' => ∃ v, e = .returned v ∧ VOwns w' w.heap.size v (rAll t s0) ∧ (rAll t s0).length ≤ 65536 ∧ Wr (fun i => i = rb) w w' := by
  have H := hide h
  have HB := hide hb
  have hlt := h.lt
  clear h hb
  go_enter Tryz.func215, Tryz.ntmps215
  go_wp2_with fail
  go_loopw [5] (fun v wr => ∃ (s : Rs) (L : List VerD), Hid (VOwns wr w.heap.size v L) ∧ Hid (RdAt wr rb D s) ∧ Hid (Wr (fun i => i = rb) w wr) ∧ Hid (By s.1) ∧ Hid (rAll t s0 = L ++ rAll t s) ∧ L.length + s.1.length ≤ 65536) (fun _ wr => restLen wr rb)
  case atStart => exact ⟨s0, [], World.ownsRow_nil _ _ _ _, unhide H, Wr.of_below (Below.refl _ _), unhide HB, rfl, by simpa using hl0⟩
  case round =>
    clear H HB
    obtain ⟨s, L, hO, hR, hW, hB, hE, hlen⟩ := hrel
    have hrest := rest_of (unhide hR)
    obtain ⟨a, n, c, h1, h2, _⟩ := unhide hR
    obtain ⟨c0, c1, f0, f1⟩ := rd_cells h1
    have hn : n = s.1.length := h2.1.symm
    clear h1 h2
    by_cases h0 : s.1 = []
    · have hn0 : n = 0 := by rw [hn, h0]; rfl
      subst hn0
      have Z := hide (show rAll t s0 = L by rw [unhide hE, rAll_nil t h0, List.append_nil])
      clear hn hrest
      go_wp2_with fail
      go_ret
      exact ⟨_, rfl, by rw [unhide Z]; exact unhide hO, by rw [unhide Z]; omega, unhide hW⟩
    · have hpos : 0 < s.1.length := List.length_pos_iff.2 h0
      have hng : (0 : Int) < (n : Int) := by omega
      have hless := ver_less t s h0
      have NE := hide h0
      clear h0
      have hsz := (unhide hW).size
      have B1 : Below wr.heap.size wr (wr.alloc (.cells #[.string ⟨#[]⟩, .int .i64 t, .string ⟨#[]⟩, .bool false] 51)) := (Below.refl _ _).alloc (Nat.le_refl _) _
      have ST := hide (show WvSt w (wr.alloc (.cells #[.string ⟨#[]⟩, .int .i64 t, .string ⟨#[]⟩, .bool false] 51)) rb D wr.heap.size u5 L s #[.string ⟨#[]⟩, .int .i64 t, .string ⟨#[]⟩, .bool false] from
        ⟨vowns_below (unhide hO) B1, (unhide hR).below B1, (unhide hW).trans (Wr.of_below B1), ⟨hlt.2, hD⟩, heap_alloc_new _ _, ⟨hsz, fun e => by have := ((unhide hO).lt _ e).2; omega⟩⟩)
      have HRS := hide hrest
      have HLS := hide hlen
      have hL : L.length ≤ 65536 := by omega
      clear hO hR hW B1 hn hrest hlen hpos
      have EV := hide (show rVer t s = (⟨(rText (rOne s).2).1, t, (rText (rText (rOne s).2).2).1, decide ((rOne s).1 = 2)⟩, (rText (rText (rOne s).2).2).2) from rfl)
      have BY1 := hide (good_one.by_ s (unhide hB))
      have BY2 := hide (good_text.by_ _ (unhide BY1))
      have BY3 := hide (good_text.by_ _ (unhide BY2))
      go_wp2_with fail
      generalize wr.alloc (.cells #[.string ⟨#[]⟩, .int .i64 t, .string ⟨#[]⟩, .bool false] 51) = W at *
      generalize wr.heap.size = bx at *
      clear c0 c1 f0 f1
      refine (one_any rb D s W (unhide ST).rd (unhide hB)).mono ?_
      rintro e w2 ⟨rfl, hr2, hw2⟩
      replace ST := hide ((unhide ST).read hr2 hw2)
      have m3 : w2.cell? ⟨bx, 3, none⟩ = some (.bool false) := (heap_at (unhide ST).k 3).1
      have z3 := (heap_at (unhide ST).k 3).2
      replace ST := hide ((unhide ST).set 3 (.bool (decide ((rOne s).1 = 2))))
      clear hr2 hw2
      generalize (rOne s).1 = x1 at *
      generalize (rOne s).2 = s1 at *
      have eb : (x1 == 2) = decide (x1 = 2) := rfl
      go_wp2_with fail
      first | rw [eb] | skip
      generalize w2.setCell ⟨bx, 3, none⟩ (.bool (decide (x1 = 2))) = w3 at *
      clear m3 z3
      refine (textR_any rb D s1 w3 (unhide ST).rd (unhide BY1)).mono ?_
      rintro e w4 ⟨rfl, hr4, hw4⟩
      replace ST := hide ((unhide ST).read hr4 hw4)
      have m0 : w4.cell? ⟨bx, 0, none⟩ = some (.string ⟨#[]⟩) := (heap_at (unhide ST).k 0).1
      have z0 := (heap_at (unhide ST).k 0).2
      generalize (rText s1).1 = tk at *
      generalize (rText s1).2 = s2 at *
      replace ST := hide ((unhide ST).set 0 (.string tk))
      clear hr4 hw4
      go_wp2_with fail
      generalize w4.setCell ⟨bx, 0, none⟩ (.string tk) = w5 at *
      clear m0 z0
      refine (textR_any rb D s2 w5 (unhide ST).rd (unhide BY2)).mono ?_
      rintro e w6 ⟨rfl, hr6, hw6⟩
      replace ST := hide ((unhide ST).read hr6 hw6)
      have m2 : w6.cell? ⟨bx, 2, none⟩ = some (.string ⟨#[]⟩) := (heap_at (unhide ST).k 2).1
      have z2 := (heap_at (unhide ST).k 2).2
      generalize (rText s2).1 = tv at *
      generalize (rText s2).2 = s3 at *
      replace ST := hide (show WvSt w (w6.setCell ⟨bx, 2, none⟩ (.string tv)) rb D bx u5 L s3 #[.string tk, .int .i64 t, .string tv, .bool (decide (x1 = 2))] from (unhide ST).set 2 (.string tv))
      clear hr6 hw6
      have n0 : (w6.setCell ⟨bx, 2, none⟩ (.string tv)).cell? ⟨bx, 0, none⟩ = some (.string tk) := (heap_at (unhide ST).k 0).1
      have n1 : (w6.setCell ⟨bx, 2, none⟩ (.string tv)).cell? ⟨bx, 1, none⟩ = some (.int .i64 t) := (heap_at (unhide ST).k 1).1
      have n2 : (w6.setCell ⟨bx, 2, none⟩ (.string tv)).cell? ⟨bx, 2, none⟩ = some (.string tv) := (heap_at (unhide ST).k 2).1
      have n3 : (w6.setCell ⟨bx, 2, none⟩ (.string tv)).cell? ⟨bx, 3, none⟩ = some (.bool (decide (x1 = 2))) := (heap_at (unhide ST).k 3).1
      go_upto_region 7 with fail
      generalize w6.setCell ⟨bx, 2, none⟩ (.string tv) = w7 at *
      clear m2 z2
      obtain ⟨v8, w8, hr8, o8, g8⟩ := rc_app (d := ⟨tk, t, tv, decide (x1 = 2)⟩) (unhide ST).own (by omega) (unhide ST).hw.size
      have FIN := hide ((unhide ST).fin g8)
      have O8 := hide o8
      clear g8 o8
      have hr8' := hr8
      simp only at hr8'
      go_wp2_with (at_builtin; refine rc_wpApp rfl (.tmp 25) (.tmp 27) 25 rfl _ _ v8 w8 rfl rfl hr8' ?_)
      have HRE := hide (rest_of (unhide FIN).1)
      have ELL := hide (show rAll t s0 = (L ++ [⟨tk, t, tv, decide (x1 = 2)⟩]) ++ rAll t s3 by
        rw [unhide hE, rAll_cons t (unhide NE), unhide EV]; simp)
      have hl3 : s3.1.length < s.1.length := by rw [unhide EV] at hless; exact hless
      clear n0 n1 n2 n3 hr8 hr8' hless EV hE
      go_roundw
      case rel => exact ⟨s3, _, unhide O8, (unhide FIN).1, (unhide FIN).2, unhide BY3, unhide ELL, by have := unhide HLS; simp; omega⟩
      case measure => (rw [unhide HRE]; have := unhide HRS; omega)
end Go.Proofs.YtcflepnckjappaaGreat

namespace Go.Proofs.YtcflepnckjappaaGreat
open Go.RowKit

theorem rc_txt {xs : List Int} (hb : By xs) : cbText (strOfNums xs) = xs := by
  unfold cbText
  rw [strOfNums_data, List.map_map]
  have : ∀ x ∈ xs, ((fun b : UInt8 => (b.toNat : Int)) ∘ fun n : Int => UInt8.ofNat n.toNat) x = x := fun x hx => by
    have := hb x hx
    simp
    omega
  rw [List.map_congr_left this, List.map_id']
theorem rc_strs {xs ys : List Int} (hx : By xs) (hy : By ys) : ((strOfNums xs).toList == (strOfNums ys).toList) = decide (xs = ys) := by
  by_cases h : xs = ys
  · subst h; simp
  · rw [decide_eq_false h]
    cases hq : ((strOfNums xs).toList == (strOfNums ys).toList) with
    | false => rfl
    | true =>
      refine absurd ?_ h
      have e : (strOfNums xs).toList = (strOfNums ys).toList := by simpa using hq
      rw [ByteArray.toList_eq, ByteArray.toList_eq] at e
      have e2 : strOfNums xs = strOfNums ys := by
        generalize strOfNums xs = a at *
        generalize strOfNums ys = b at *
        cases a
        cases b
        simp at e
        simp [e]
      rw [← rc_txt hx, ← rc_txt hy, e2]
theorem by_text (t : ByteArray) : By (cbText t) := fun x hx => by
  obtain ⟨b, _, rfl⟩ := List.mem_map.1 hx
  have := b.toNat_lt
  exact ⟨by omega, by omega⟩
theorem by_one {d : VerD} (hk : d.k.size ≤ 255) (hv : d.v.size ≤ 255) : By (cbOne d) := fun x hx => by
  unfold cbOne cbLine at hx
  simp only [List.mem_cons, List.mem_append] at hx
  rcases hx with rfl | (rfl | hx) | (rfl | hx)
  · unfold cbMark; cases d.g <;> simp
  · omega
  · exact by_text _ x hx
  · omega
  · exact by_text _ x hx
theorem by_all : ∀ {ds : List VerD}, (∀ i (hi : i < ds.length), ds[i].k.size ≤ 255 ∧ ds[i].v.size ≤ 255) → By (cbAll ds)
  | [], _ => fun x hx => by cases hx
  | d :: r, h => fun x hx => by
    have h0 := h 0 (by simp)
    rcases List.mem_append.1 (show x ∈ cbOne d ++ cbAll r from hx) with h1 | h1
    · exact by_one h0.1 h0.2 x h1
    · exact by_all (fun i hi => h (i + 1) (by simpa using hi)) x h1
set_option maxHeartbeats 1000000 in
theorem bytesEqual_any (a1 a2 : Option Addr) (n1 c1 n2 c2 : Nat) (xs ys : List Int) (w : World) (h1 : Row w a1 n1 xs) (h2 : Row w a2 n2 ys) (hx : By xs) (hy : By ys) :
    Calls Tryz.prog 217 #[.slice a1 n1 c1, .slice a2 n2 c2] w fun e w' => e = .returned (.bool (decide (xs = ys))) ∧ w' = w := by
  have v1 := conv_text (c := c1) h1
  have v2 := conv_text (c := c2) h2
  have E := hide (rc_strs hx hy)
  clear h1 h2 hx hy
  generalize strOfNums xs = s1 at *
  generalize strOfNums ys = s2 at *
  go_enter Tryz.func217, Tryz.ntmps217
  go_wp2_with fail
  first | (go_quiet (fail); go_wp2_with fail) | skip
  go_ret
  exact ⟨ret_bool (unhide E), rfl⟩
/-- What ReadCommit answers. -/
def rcC (t : Int) (xs : List Int) : Int := if xs.length ≤ 65536 then (if idK t = true then (if rcOK t xs = true then 0 else 3) else 4) else 2
def rcA (t : Int) (xs : List Int) : List VerD := if rcC t xs = 0 then rcL t xs else []
def RcRes (t : Int) (xs : List Int) (w : World) (e : Ending) (w' : World) : Prop := ∃ v, e = .returned (.tuple #[v, .int .i64 (rcC t xs)]) ∧ VOwns w' w.heap.size v (rcA t xs) ∧ Below w.heap.size w w'
theorem rc_no {t : Int} {xs : List Int} {w w' : World} {v : Value} {k : Int} (hk : k ≠ 0) (hc : rcC t xs = k) (ho : VOwns w' w.heap.size v []) (hb : Below w.heap.size w w') : RcRes t xs w (.returned (.tuple #[v, .int .i64 k])) w' :=
  ⟨v, by rw [hc], by unfold rcA; rw [if_neg (by rw [hc]; exact hk)]; exact ho, hb⟩
theorem rc_yes {t : Int} {xs : List Int} {w w' : World} {v : Value} (hc : rcC t xs = 0) (ho : VOwns w' w.heap.size v (rcL t xs)) (hb : Below w.heap.size w w') : RcRes t xs w (.returned (.tuple #[v, .int .i64 0])) w' :=
  ⟨v, by rw [hc], by unfold rcA; rw [if_pos hc]; exact ho, hb⟩
theorem rc_long {t : Int} {xs : List Int} (h : ¬ xs.length ≤ 65536) : rcC t xs = 2 := by unfold rcC; rw [if_neg h]
theorem rc_range {t : Int} {xs : List Int} (h : xs.length ≤ 65536) (h2 : idK t = false) : rcC t xs = 4 := by unfold rcC; rw [if_pos h, if_neg (by rw [h2]; decide)]
theorem rc_form {t : Int} {xs : List Int} (h : xs.length ≤ 65536) (h2 : idK t = true) (h3 : rcOK t xs = false) : rcC t xs = 3 := by unfold rcC; rw [if_pos h, if_pos h2, if_neg (by rw [h3]; decide)]
theorem rc_ok {t : Int} {xs : List Int} (h : xs.length ≤ 65536) (h2 : idK t = true) (h3 : rcOK t xs = true) : rcC t xs = 0 := by unfold rcC; rw [if_pos h, if_pos h2, if_pos h3]
theorem vowns_slice {w : World} {B : Nat} {v : Value} {ds : List VerD} (h : VOwns w B v ds) : ∃ a c, v = .slice a ds.length c := by
  rcases h.2 with ⟨rfl, hn⟩ | ⟨g, cap, cur, rfl, _⟩
  · exact ⟨none, 0, by rw [hn]⟩
  · exact ⟨_, _, rfl⟩
theorem vowns_dn {w : World} {B C : Nat} {v : Value} {ds : List VerD} (h : VOwns w B v ds) (hc : C ≤ B) : VOwns w C v ds := by
  obtain ⟨h1, h2⟩ := h
  refine ⟨h1, ?_⟩
  rcases h2 with h2 | ⟨g, cap, cur, e, hb, r⟩
  · exact .inl h2
  · exact .inr ⟨g, cap, cur, e, Nat.le_trans hc hb, r⟩
end Go.Proofs.YtcflepnckjappaaGreat

namespace Go.Proofs.YtcflepnckjappaaGreat
open Go.RowKit

set_option maxRecDepth 100000 in
set_option maxHeartbeats 4000000 in
theorem implReadCommit_any (a : Option Addr) (n c : Nat) (xs : List Int) (t : Int) (w : World) (hr : Row w a n xs) (hb : By xs) (hnc : n ≤ c) (hn : n ≤ 1048576) (ha : ∀ x, a = some x → x.block < w.heap.size) :
    Calls Tryz.prog 136 #[.slice a n c, .int .i64 t] w fun e w' => RcRes t xs w e w' := by
  have L := hide hr.1
  have R := hide hr
  have BY := hide hb
  clear hr hb
  by_cases h4 : n ≤ 65536
  · have g4 : ¬ (65536 : Int) < (n : Int) := by omega
    have l4 : xs.length ≤ 65536 := by rw [unhide L]; exact h4
    have SI := hide (idOK_any t)
    cases hid : idK t with
    | false =>
      rw [hid] at SI
      have Z := hide (rc_no (w := w) (w' := w) (v := .slice none 0 0) (by decide) (rc_range l4 hid) (World.ownsRow_nil _ _ _ _) (Below.refl _ _))
      go_enter Tryz.func136, Tryz.ntmps136
      go_wp2_with (go_at_call 165; refine (unhide SI _).mono ?_; rintro e w1 ⟨rfl, hww⟩; subst w1)
      go_ret2
      exact unhide Z
    | true =>
      rw [hid] at SI
      have b0 : Below w.heap.size w (w.alloc (.cells #[.slice a n c, .bool false] 163)) := (Below.refl _ _).alloc (Nat.le_refl _) _
      have k0 := heap_alloc_new w (.cells #[.slice a n c, .bool false] 163)
      have RW : Row (w.alloc (.cells #[.slice a n c, .bool false] 163)) a n xs := (unhide R).below b0 ha
      have zs : (w.alloc (.cells #[.slice a n c, .bool false] 163)).heap.size = w.heap.size + 1 := by simp
      have RD := hide (show RdAt (w.alloc (.cells #[.slice a n c, .bool false] 163)) w.heap.size (w.heap.size + 1) (xs, false) from
        ⟨a, n, c, k0, RW, hnc, fun x hx => ⟨by have := ha x hx; omega, by have := ha x hx; omega⟩, h4, by omega⟩)
      go_enter Tryz.func136, Tryz.ntmps136
      go_wp2_with (go_at_call 165; refine (unhide SI _).mono ?_; rintro e w1 ⟨rfl, hww⟩; subst w1)
      generalize w.alloc (.cells #[.slice a n c, .bool false] 163) = W at *
      refine (rWrites_any w.heap.size (w.heap.size + 1) (xs, false) t W (unhide RD) (unhide BY) (by omega) l4).mono ?_
      rintro e w2 ⟨v, rfl, ho, hl, hw⟩
      have B2 : Below w.heap.size w w2 := b0.trans (hw.below (fun i e => by omega) b0.size)
      obtain ⟨av, cv, rfl⟩ := vowns_slice ho
      have R2 := hide ((unhide R).below B2 ha)
      have ho' : VOwns w2 W.heap.size (.slice av (rcL t xs).length cv) (rcL t xs) := ho
      have hl' : (rcL t xs).length ≤ 65536 := hl
      have HO := hide ho'
      have VR := hide (vrow_of_owns ho')
      have EL := hide (show (rAll t (xs, false)).length = (rcL t xs).length from rfl)
      rw [unhide EL]
      clear ho ho' hl hw RD k0 RW b0
      have hs2 := B2.size
      have EOK := hide (show rcOK t xs = (wrV (rcL t xs) t && decide (cbAll (rcL t xs) = xs)) from rfl)
      have ZN := hide (fun (u : World) (hu : Below w.heap.size w u) (h3 : rcOK t xs = false) => rc_no (w := w) (w' := u) (v := .slice none 0 0) (by decide) (rc_form l4 hid h3) (World.ownsRow_nil _ _ _ _) hu)
      have ZY := hide (fun (u : World) (v : Value) (ho : VOwns u w.heap.size v (rcL t xs)) (hu : Below w.heap.size w u) (h3 : rcOK t xs = true) => rc_yes (rc_ok l4 hid h3) ho hu)
      have SM := hide (fun (h : wrV (rcL t xs) t = true) => show (rcL t xs).length ≤ 8 ∧ ∀ i (hi : i < (rcL t xs).length), (rcL t xs)[i].k.size ≤ 255 ∧ (rcL t xs)[i].v.size ≤ 255 from ⟨(wrV_ok h).1, fun i hi => by have := verK_small (okVs_ver (wrV_ok h).2.1 hi); omega⟩)
      generalize rcL t xs = Ls at *
      go_wp2_with fail
      refine (writesOK_any av Ls.length cv Ls t w2 (by omega) (unhide VR)).mono ?_
      rintro e w3 ⟨rfl, hb3⟩
      have B3 := B2.trans (hb3.mono hs2)
      have hs3 := B3.size
      replace VR := hide ((unhide VR).below hb3)
      replace HO := hide (vowns_below (unhide HO) hb3)
      clear hb3
      cases hwr : wrV Ls t with
      | false =>
        have Z := hide (unhide ZN w3 B3 (by rw [unhide EOK, hwr]; rfl))
        go_wp2_with fail
        go_ret2
        exact unhide Z
      | true =>
        obtain ⟨hl8, hsm⟩ := unhide SM hwr
        have BYC := hide (by_all hsm)
        have CB := hide (commitBytes_any av Ls.length cv Ls w3 (by omega) (unhide VR) hsm)
        clear hsm
        go_wp2_with fail
        refine (unhide CB).mono ?_
        rintro e w4 ⟨vb, rfl, ob, hb4⟩
        have B4 := B3.trans (hb4.mono hs3)
        replace HO := hide (vowns_below (unhide HO) hb4)
        obtain ⟨ab, cb, rfl, _, _, rb, _⟩ := mine_of_owns ob
        have RB := hide rb
        have R4 := hide ((unhide R).below B4 ha)
        clear ob hb4 rb CB
        go_wp2_with fail
        refine (bytesEqual_any ab a (cbAll Ls).length cb n c (cbAll Ls) xs w4 (unhide RB) (unhide R4) (unhide BYC) (unhide BY)).mono ?_
        rintro e w5 ⟨rfl, rfl⟩
        by_cases he : cbAll Ls = xs
        · have Z := hide (unhide ZY w5 _ (vowns_dn (unhide HO) (by omega)) B4 (by rw [unhide EOK, hwr, decide_eq_true he]; rfl))
          rw [decide_eq_true he]
          clear he
          go_wp2_with fail
          go_ret2
          exact unhide Z
        · have Z := hide (unhide ZN w5 B4 (by rw [unhide EOK, hwr, decide_eq_false he]; rfl))
          rw [decide_eq_false he]
          clear he
          go_wp2_with fail
          go_ret2
          exact unhide Z
  · have g4 : (65536 : Int) < (n : Int) := by omega
    have Z := hide (rc_no (w := w) (w' := w) (v := .slice none 0 0) (by decide) (rc_long (t := t) (by rw [unhide L]; exact h4)) (World.ownsRow_nil _ _ _ _) (Below.refl _ _))
    go_enter Tryz.func136, Tryz.ntmps136
    go_wp2_with fail
    go_ret2
    exact unhide Z
end Go.Proofs.YtcflepnckjappaaGreat

namespace Go.Proofs.YtcflepnckjappaaGreat
open Go.RowKit

/-- The specification's reader in memory: its bytes, the place, the flag. -/
structure SdAt (w : World) (rb D : Nat) (a : Option Addr) (n c : Nat) (xs : List Int) (s : Ss) : Prop where
  k : w.heap[rb]? = some (.cells #[.slice a n c, .int .i64 (s.1 : Int), .bool s.2] 339 (0, 0))
  row : Row w a n xs
  cap : n ≤ c
  far : ∀ x, a = some x → x.block ≠ rb ∧ x.block < D
  len : n ≤ 65536
  pos : s.1 ≤ n
  lt : rb < D
theorem SdAt.wr {P : Nat → Prop} {w w' : World} {rb D : Nat} {a : Option Addr} {n c : Nat} {xs : List Int} {s : Ss} (h : SdAt w rb D a n c xs s) (hw : Wr P w w') (hp : ∀ i, P i → D ≤ i) : SdAt w' rb D a n c xs s :=
  have hl := h.lt
  ⟨loc_wr h.k hw (fun e => by have := hp _ e; omega), h.row.wr hw (fun x hx e => by have := hp _ e; have := (h.far x hx).2; omega), h.cap, h.far, h.len, h.pos, h.lt⟩
theorem SdAt.below {w w' : World} {rb D : Nat} {a : Option Addr} {n c : Nat} {xs : List Int} {s : Ss} (h : SdAt w rb D a n c xs s) (hb : Below w.heap.size w w') : SdAt w' rb D a n c xs s :=
  h.wr (P := fun _ => False) (Wr.of_below hb) (fun _ h => h.elim)
theorem SdAt.cells {w : World} {rb D : Nat} {a : Option Addr} {n c : Nat} {xs : List Int} {s : Ss} (h : SdAt w rb D a n c xs s) : w.cell? ⟨rb, 0, none⟩ = some (.slice a n c) ∧ w.cell? ⟨rb, 1, none⟩ = some (.int .i64 (s.1 : Int)) ∧ w.cell? ⟨rb, 2, none⟩ = some (.bool s.2) ∧ w.frozen? ⟨rb, 1, none⟩ = false ∧ w.frozen? ⟨rb, 2, none⟩ = false :=
  ⟨(heap_at h.k 0).1, (heap_at h.k 1).1, (heap_at h.k 2).1, (heap_at h.k 1).2, (heap_at h.k 2).2⟩
/-- The flag set. -/
theorem SdAt.bad {w : World} {rb D : Nat} {a : Option Addr} {n c : Nat} {xs : List Int} {s : Ss} (h : SdAt w rb D a n c xs s) : SdAt (w.setCell ⟨rb, 2, none⟩ (.bool true)) rb D a n c xs (s.1, true) := by
  have hc := wr_cell w rb 2 (.bool true)
  exact ⟨by simpa using heap_set h.k 2 (.bool true), h.row.wr hc (fun x hx => (h.far x hx).1), h.cap, h.far, h.len, h.pos, h.lt⟩
/-- The place set. -/
theorem SdAt.go {w : World} {rb D : Nat} {a : Option Addr} {n c : Nat} {xs : List Int} {s : Ss} (h : SdAt w rb D a n c xs s) (p : Nat) (hp : p ≤ n) : SdAt (w.setCell ⟨rb, 1, none⟩ (.int .i64 (p : Int))) rb D a n c xs (p, s.2) := by
  have hc := wr_cell w rb 1 (.int .i64 (p : Int))
  exact ⟨by simpa using heap_set h.k 1 (.int .i64 (p : Int)), h.row.wr hc (fun x hx => (h.far x hx).1), h.cap, h.far, h.len, hp, h.lt⟩
theorem SdAt.same {w w' : World} {rb D : Nat} {a : Option Addr} {n c : Nat} {xs : List Int} {s : Ss} (h : SdAt w rb D a n c xs s) (e : w'.heap = w.heap) : SdAt w' rb D a n c xs s :=
  ⟨by rw [e]; exact h.k, h.row.of_cells fun x _ p _ => World.cell?_of_block (w := w) (by rw [e]), h.cap, h.far, h.len, h.pos, h.lt⟩
theorem Wr.same {P : Nat → Prop} {w w1 w' : World} (h : Wr P w w1) (e : w'.heap = w1.heap) (e1 : w'.os = w1.os) (e2 : w'.tape = w1.tape) (e3 : w'.output = w1.output) : Wr P w w' :=
  ⟨e1.trans h.os, e2.trans h.tape, e3.trans h.output, by rw [e]; exact h.size, fun k hk hp => by rw [e]; exact h.block k hk hp⟩
/-- What a reading leaves. -/
def Sds (w : World) (rb D : Nat) (a : Option Addr) (n c : Nat) (xs : List Int) (v : Value) (s : Ss) (e : Ending) (w' : World) : Prop := e = .returned v ∧ SdAt w' rb D a n c xs s ∧ Wr (fun i => i = rb) w w'
theorem Wr.refl (P : Nat → Prop) (w : World) : Wr P w w := Wr.of_below (Below.refl _ _)
set_option maxRecDepth 100000 in
set_option maxHeartbeats 2000000 in
theorem sone_any (rb D : Nat) (a : Option Addr) (n c : Nat) (xs : List Int) (s : Ss) (w : World) (h : SdAt w rb D a n c xs s) (hb : By xs) :
    Calls Tryz.prog 254 #[.pointer (some ⟨rb, 0, none⟩)] w fun e w' => Sds w rb D a n c xs (.int .i64 (sOne xs s).1) (sOne xs s).2 e w' := by
  obtain ⟨c0, c1, c2, f1, f2⟩ := h.cells
  have hL := h.row.1
  obtain ⟨p, b⟩ := s
  simp only at c1 c2
  cases b with
  | true =>
    have E := hide (show sOne xs (p, true) = (0, (p, true)) by unfold sOne; rw [if_pos (.inl rfl)])
    have FIN := hide (show ∀ w', w'.heap = (w.setCell ⟨rb, 2, none⟩ (.bool true)).heap → w'.os = w.os → w'.tape = w.tape → w'.output = w.output → Sds w rb D a n c xs (.int .i64 (sOne xs (p, true)).1) (sOne xs (p, true)).2 (.returned (.int .i64 0)) w' from fun w' g1 g2 g3 g4 => ⟨by rw [unhide E], by rw [unhide E]; exact h.bad.same g1, (wr_cell w rb 2 _).same g1 g2 g3 g4⟩)
    clear h hL
    go_enter Tryz.func254, Tryz.ntmps254
    go_wp2_with fail
    go_quiet (fail)
    go_wp2_with fail
    go_ret
    exact unhide FIN _ rfl rfl rfl rfl
  | false =>
    by_cases hl : n ≤ p
    · have E := hide (show sOne xs (p, false) = (0, (p, true)) by unfold sOne; rw [if_pos (.inr (by omega))])
      have FIN := hide (show ∀ w', w'.heap = (w.setCell ⟨rb, 2, none⟩ (.bool true)).heap → w'.os = w.os → w'.tape = w.tape → w'.output = w.output → Sds w rb D a n c xs (.int .i64 (sOne xs (p, false)).1) (sOne xs (p, false)).2 (.returned (.int .i64 0)) w' from fun w' g1 g2 g3 g4 => ⟨by rw [unhide E], by rw [unhide E]; exact h.bad.same g1, (wr_cell w rb 2 _).same g1 g2 g3 g4⟩)
      have hli : (n : Int) ≤ (p : Int) := by omega
      clear h hL
      go_enter Tryz.func254, Tryz.ntmps254
      go_wp2_with fail
      go_quiet (fail)
      go_wp2_with fail
      go_ret
      exact unhide FIN _ rfl rfl rfl rfl
    · have E := hide (show sOne xs (p, false) = (xs.getD p 0, (p + 1, false)) by unfold sOne; rw [if_neg (by simp; omega)])
      have G := h.go (p + 1) (by omega)
      have hx := hb.getD p
      obtain ⟨x, hxx⟩ : ∃ x, x = xs.getD p 0 := ⟨_, rfl⟩
      have FIN := hide (show ∀ w', w'.heap = (w.setCell ⟨rb, 1, none⟩ (.int .i64 ((p + 1 : Nat) : Int))).heap → w'.os = w.os → w'.tape = w.tape → w'.output = w.output → Sds w rb D a n c xs (.int .i64 (sOne xs (p, false)).1) (sOne xs (p, false)).2 (.returned (.int .i64 x)) w' from fun w' g1 g2 g3 g4 => ⟨by rw [unhide E, hxx], by rw [unhide E]; exact G.same g1, (wr_cell w rb 1 _).same g1 g2 g3 g4⟩)
      have hr := h.row
      obtain ⟨bb, off, rfl, ce⟩ := hr.2 p (by omega)
      have hn1 : ¬ (bb = rb) := (h.far _ rfl).1
      have hn2 : ¬ (rb = bb) := fun e => hn1 e.symm
      rw [← hxx] at ce hx
      have hli : ¬ ((n : Int) ≤ (p : Int)) := by omega
      have w1 : IntKind.i64.wrap ((p : Int) + 1) = (p : Int) + 1 := by rw [IntKind.wrap_i64]; have := h.len; have := h.pos; omega
      have w2 : IntKind.i64.wrap (p : Int) = (p : Int) := by rw [IntKind.wrap_i64]; have := h.len; have := h.pos; omega
      have w3 : IntKind.i64.wrap x = x := by rw [IntKind.wrap_i64]; omega
      have e1 : ((p + 1 : Nat) : Int) = (p : Int) + 1 := by omega
      have e2 : (p : Int) + 1 - 1 = (p : Int) := by omega
      have hpn : (p : Int) < (n : Int) := by omega
      rw [e1] at FIN
      clear h hL G hr hxx e1
      go_enter Tryz.func254, Tryz.ntmps254
      go_wp2_with fail
      go_quiet (fail)
      go_wp2_with fail
      go_quiet (fail)
      go_wp2_with fail
      go_ret
      exact unhide FIN _ rfl rfl rfl rfl
end Go.Proofs.YtcflepnckjappaaGreat

namespace Go.Proofs.YtcflepnckjappaaGreat
open Go.RowKit

theorem sOne_le {xs : List Int} (h : By xs) (s : Ss) : 0 ≤ (sOne xs s).1 ∧ (sOne xs s).1 ≤ 255 := by
  unfold sOne
  split
  · exact ⟨by simp, by simp⟩
  · exact h.getD _
set_option maxRecDepth 100000 in
set_option maxHeartbeats 2000000 in
theorem sline_any (rb D : Nat) (a : Option Addr) (n c : Nat) (xs : List Int) (s : Ss) (w : World) (h : SdAt w rb D a n c xs s) (hb : By xs) :
    Calls Tryz.prog 255 #[.pointer (some ⟨rb, 0, none⟩)] w fun e w' => Sds w rb D a n c xs (.string (sLine xs s).1) (sLine xs s).2 e w' := by
  have H := hide h
  have l0 := sOne_le hb s
  obtain ⟨m, hm⟩ : ∃ m : Nat, (sOne xs s).1 = (m : Int) := Int.eq_ofNat_of_zero_le l0.1
  rw [hm] at l0
  obtain ⟨t, ht⟩ : ∃ t, (sOne xs s).2 = t := ⟨_, rfl⟩
  have E := hide (show sLine xs s = sLn xs m t by rw [← ht, ← Int.toNat_natCast m, ← hm]; rfl)
  have HM := hide hm
  have HT := hide ht
  have hm2 : m ≤ 255 := by omega
  clear h hm ht
  go_enter Tryz.func255, Tryz.ntmps255
  go_wp2_with fail
  refine (sone_any rb D a n c xs s w (unhide H) hb).mono ?_
  rintro e w2 ⟨rfl, h2, hw2⟩
  rw [unhide HM]
  rw [unhide HT] at h2
  obtain ⟨c0, c1, c2, f1, f2⟩ := h2.cells
  have hL := h2.row.1
  have hlen := h2.len
  have hpos := h2.pos
  obtain ⟨p, b⟩ := t
  simp only at c1 c2 hpos
  have wp : IntKind.i64.wrap ((p : Int) + (m : Int)) = (p : Int) + (m : Int) := by rw [IntKind.wrap_i64]; omega
  have BADF := hide (show sLn xs m (p, b) = (ByteArray.empty, (p, true)) → ∀ w', w'.heap = (w2.setCell ⟨rb, 2, none⟩ (.bool true)).heap → w'.os = w2.os → w'.tape = w2.tape → w'.output = w2.output → Sds w rb D a n c xs (.string (sLine xs s).1) (sLine xs s).2 (.returned (.string ByteArray.empty)) w' from fun hE w' g1 g2 g3 g4 => ⟨by rw [unhide E, hE], by rw [unhide E, hE]; exact h2.bad.same g1, hw2.trans ((wr_cell w2 rb 2 _).same g1 g2 g3 g4)⟩)
  cases b with
  | true =>
    have B2 := hide (unhide BADF (by unfold sLn; rw [if_pos (.inl rfl)]))
    clear h2 hw2 hL BADF
    go_wp2_with fail
    go_quiet (fail)
    go_wp2_with fail
    go_ret
    exact unhide B2 _ rfl rfl rfl rfl
  | false =>
    by_cases hl : n < p + m
    · have B2 := hide (unhide BADF (by unfold sLn; rw [if_pos (.inr (by rw [hL]; exact hl))]))
      have hli : (n : Int) < (p : Int) + (m : Int) := by omega
      clear h2 hw2 hL BADF
      go_wp2_with fail
      go_quiet (fail)
      go_wp2_with fail
      go_ret
      exact unhide B2 _ rfl rfl rfl rfl
    · have hli : ¬ ((n : Int) < (p : Int) + (m : Int)) := by omega
      have EL : sLn xs m (p, false) = (strOfNums ((xs.drop p).take m), (p + m, false)) := by unfold sLn; rw [if_neg (by simp; omega)]
      have G := h2.go (p + m) (by omega)
      have cap := h2.cap
      obtain ⟨av, hav⟩ : ∃ av, av = (if c = p then a else a.map (·.add p)) := ⟨_, rfl⟩
      have hD : Row (w2.setCell ⟨rb, 1, none⟩ (.int .i64 ((p + m : Nat) : Int))) av m ((xs.drop p).take m) := by
        by_cases h0 : m = 0
        · subst h0
          exact ⟨by simp, fun i hi => absurd hi (Nat.not_lt_zero _)⟩
        · obtain ⟨b, off, ha, _⟩ := G.row.2 0 (by omega)
          have hr := G.row
          rw [ha] at hr
          rw [hav, if_neg (by omega), ha]
          have e : (⟨b, off, none⟩ : Addr).add p = ⟨b, off + p, none⟩ := by unfold Addr.add; split <;> simp_all
          simp only [Option.map_some, e]
          exact row_take (row_drop hr (by omega)) (by omega)
      have GF := hide (show ∀ w', w'.heap = (w2.setCell ⟨rb, 1, none⟩ (.int .i64 ((p : Int) + (m : Int)))).heap → w'.os = w2.os → w'.tape = w2.tape → w'.output = w2.output → Sds w rb D a n c xs (.string (sLine xs s).1) (sLine xs s).2 (.returned (.string (strOfNums ((xs.drop p).take m)))) w' from fun w' g1 g2 g3 g4 => ⟨by rw [unhide E, EL], by rw [unhide E, EL]; rw [← show ((p + m : Nat) : Int) = (p : Int) + (m : Int) by omega] at g1; exact G.same g1, hw2.trans ((wr_cell w2 rb 1 _).same g1 g2 g3 g4)⟩)
      have g0 := (heap_at G.k 0).1
      have g1 := (heap_at G.k 1).1
      have HD := hide hD
      have HAV := hide hav
      clear h2 hw2 hL BADF G EL hD hav
      go_wp2_with fail
      go_quiet (fail)
      go_wp2_with fail
      clear c0 c1 c2 f1 f2
      obtain ⟨X, hX⟩ : ∃ X, X = (w2.drewN nq).setCell ⟨rb, 1, none⟩ (.int .i64 ((p : Int) + (m : Int))) := ⟨_, rfl⟩
      have eh : X.heap = (w2.setCell ⟨rb, 1, none⟩ (.int .i64 ((p + m : Nat) : Int))).heap := by rw [hX, show ((p + m : Nat) : Int) = (p : Int) + (m : Int) by omega]; rfl
      have x0 : X.cell? ⟨rb, 0, none⟩ = some (.slice a n c) := (World.cell?_of_block (w := w2.setCell ⟨rb, 1, none⟩ (.int .i64 ((p + m : Nat) : Int))) (by rw [eh])).trans g0
      have x1 : X.cell? ⟨rb, 1, none⟩ = some (.int .i64 ((p : Int) + (m : Int))) := by
        have := (World.cell?_of_block (a := ⟨rb, 1, none⟩) (w := w2.setCell ⟨rb, 1, none⟩ (.int .i64 ((p + m : Nat) : Int))) (w' := X) (by rw [eh])).trans g1
        rw [this]
        simp
      have hr : Row X av m ((xs.drop p).take m) := (unhide HD).of_cells fun x _ z _ => World.cell?_of_block (w := w2.setCell ⟨rb, 1, none⟩ (.int .i64 ((p + m : Nat) : Int))) (by rw [eh])
      have hcv : ∀ q cc, (convert 22 9 (.slice av m cc)).run Tryz.prog (X.drewN q) = .ok (.string (strOfNums ((xs.drop p).take m))) (X.drewN q) := fun q cc => conv_text (w := X.drewN q) hr
      have GX := hide (show ∀ q, Sds w rb D a n c xs (.string (sLine xs s).1) (sLine xs s).2 (.returned (.string (strOfNums ((xs.drop p).take m)))) (X.drewN q) from fun q => unhide GF _ (by rw [hX]; rfl) (by rw [hX]; rfl) (by rw [hX]; rfl) (by rw [hX]; rfl))
      rw [← hX]
      clear hX eh g0 g1 HD GF hr
      have e1 : (p : Int) + (m : Int) - (m : Int) = (p : Int) := by omega
      have e2 : IntKind.i64.wrap (p : Int) = (p : Int) := by rw [IntKind.wrap_i64]; omega
      have e3 : ((p : Int) + (m : Int)).toNat = p + m := by omega
      have e4 : (p : Int) ≤ (p : Int) + (m : Int) := by omega
      have e5 : (p : Int) + (m : Int) ≤ (c : Int) := by omega
      generalize strOfNums ((xs.drop p).take m) = str at *
      by_cases hck : c = p
      · have ea : av = a := by rw [unhide HAV, if_pos hck]
        obtain rfl : m = 0 := by omega
        subst hck
        rw [ea] at hcv
        go_quiet (fail)
        go_wp2_with fail
        go_ret
        exact unhide GX _
      · have hck' : ¬ (p = c) := fun h => hck h.symm
        have ea : av = a.map (·.add p) := by rw [unhide HAV, if_neg hck]
        rw [ea] at hcv
        by_cases hp0 : p = 0
        · subst hp0
          rw [map_add0] at hcv
          go_quiet (fail)
          go_wp2_with fail
          go_ret
          exact unhide GX _
        · go_quiet (fail)
          go_wp2_with fail
          go_ret
          exact unhide GX _
end Go.Proofs.YtcflepnckjappaaGreat

namespace Go.Proofs.YtcflepnckjappaaGreat
open Go.RowKit

theorem comV_pos {ds : List VerD} (h : 0 < ds.length) : comV ds = (decide (ds.length ≤ 8) && (okVs ds && oneT ds ds[0].t)) := by
  unfold comV
  rw [decide_eq_false (by omega), List.getD_eq_getElem?_getD, List.getElem?_eq_getElem h]
  rfl
theorem comV_none {ds : List VerD} (h : ds.length = 0) : comV ds = true := by unfold comV; rw [decide_eq_true h]; rfl
theorem okVs_lt {ds : List VerD} (h : okVs ds = true) {k : Nat} (hk : k < ds.length) (hp : 0 < k) : ltV (ds[k - 1]'(by omega)) ds[k] = true := by
  obtain ⟨j, rfl⟩ : ∃ j, k = j + 1 := ⟨k - 1, by omega⟩
  have := okVs_at h hk
  rw [okAtV_succ hk, Bool.and_eq_true] at this
  exact this.2
set_option maxRecDepth 100000 in
set_option maxHeartbeats 8000000 in
theorem l07Writes_any (a : Option Addr) (n c : Nat) (ds : List VerD) (w : World) (hn : n ≤ 1048576) (hr : VRow w a n ds) :
    Calls Tryz.prog 256 #[.slice a n c] w fun e w' => e = .returned (.bool (comV ds)) ∧ Below w.heap.size w w' := by
  have L := hide hr.1
  have R := hide hr
  have C := hide (l06List_any a n c ds w hn hr)
  clear hr
  by_cases h8 : n ≤ 8
  · have g8 : ¬ (8 : Int) < (n : Int) := by omega
    generalize hok : okVs ds = ok at *
    cases ok
    · have Z := hide (show false = comV ds by
        have hp : 0 < ds.length := by
          cases ds with
          | nil => simp [okVs] at hok
          | cons x r => simp
        rw [comV_pos hp, hok]; simp)
      go_enter Tryz.func256, Tryz.ntmps256
      go_wp2_with fail
      refine (unhide C).mono ?_
      rintro e w1 ⟨rfl, hb⟩
      clear C
      go_wp2_with fail
      go_ret
      exact ⟨ret_bool (unhide Z), hb⟩
    · have HOK := hide hok
      clear hok
      go_enter Tryz.func256, Tryz.ntmps256
      go_wp2_with fail
      refine (unhide C).mono ?_
      rintro e w1 ⟨rfl, hb⟩
      replace R := hide ((unhide R).below hb)
      have B1 := hide hb
      have hsz := hb.size
      clear C hb
      go_wp2_with fail
      go_loopw [3] (fun i wr => ∃ k : Nat, 1 ≤ k ∧ (k ≤ n ∨ n = 0) ∧ k ≤ 9 ∧ i = .int .i64 k ∧ Hid (∀ i (h : i < ds.length), i < k → ds[i].t = (ds.getD 0 noV).t) ∧ ∃ q, wr = w1.drewN q) (fun i _ => n - (intOf i).toNat)
      case atStart => exact ⟨1, by omega, by omega, by omega, rfl, (fun i h hi => by obtain rfl : i = 0 := by omega
                                                                                     rw [List.getD_eq_getElem?_getD, List.getElem?_eq_getElem h]; rfl), 0, rfl⟩
      case round =>
        obtain ⟨k, hk1, hkn, hk9, rfl, hT, q, rfl⟩ := hrel
        by_cases hlt : k < n
        · have hk2 : k < ds.length := by rw [unhide L]; exact hlt
          have hj : k - 1 < ds.length := by omega
          have hp0 : 0 < ds.length := by omega
          obtain ⟨b, off, rfl, d0, d1, d2, d3⟩ := (unhide R).2 k hk2
          obtain ⟨b', off', e', q0, q1, q2, q3⟩ := (unhide R).2 (k - 1) hj
          cases e'
          have LT := hide (okVs_lt (unhide HOK) hk2 (by omega))
          have TP := hide (unhide hT (k - 1) hj (by omega))
          have ST := hide (show ds[k].t = ds[k - 1].t → ∀ i (h : i < ds.length), i < k + 1 → ds[i].t = (ds.getD 0 noV).t from fun e i h hi => by
            by_cases e' : i < k
            · exact unhide hT i h e'
            · obtain rfl : i = k := by omega
              rw [e]; exact unhide TP)
          have SF := hide (show ds[k].t ≠ ds[k - 1].t → false = comV ds from fun e => by
            have h0 : ds[0].t = (ds.getD 0 noV).t := by rw [List.getD_eq_getElem?_getD, List.getElem?_eq_getElem hp0]; rfl
            rw [comV_pos hp0, oneT_false (t := ds[0].t) hk2 (by rw [h0, ← unhide TP]; exact e)]; simp)
          have hi1 : ((k : Int) - 1).toNat = k - 1 := by omega
          have hi2 : (0 : Int) ≤ (k : Int) - 1 := by omega
          have hi4 : (1 : Int) ≤ (k : Int) := by omega
          have hwr : IntKind.i64.wrap ((k : Int) - 1) = (k : Int) - 1 := by rw [IntKind.wrap_i64]; omega
          have hi3 : (k : Int) - 1 < (n : Int) := by omega
          have hi5 : (k : Int) < (n : Int) := by omega
          clear hT TP
          generalize ds[k] = pd at *
          generalize ds[k - 1] = qd at *
          obtain ⟨pk, pt, pv, pg⟩ := pd
          obtain ⟨qk, qt, qv, qg⟩ := qd
          simp only at d0 d1 d2 d3 q0 q1 q2 q3 ST SF
          by_cases ht : pt = qt
          · have hne : (qk.toList == pk.toList) = false := vs_ne (ltV_other (unhide LT) ht.symm)
            subst ht
            have Z := hide (unhide ST rfl)
            have hd : (pt != pt) = false := by simp
            clear ST SF LT d2 d3 q2 q3
            go_wp2_with fail
            go_quiet (fail)
            go_wp2_with fail
            go_roundw
            case rel => exact ⟨k + 1, by omega, by omega, by omega, by go_num, unhide Z, _, rfl⟩
            case measure => simp [intOf]; omega
          · have Z := hide (unhide SF ht)
            have hd : (qt != pt) = true := by simp [bne]; exact fun e => ht e.symm
            clear ST SF LT d2 d3 q2 q3
            by_cases hkk : qk = pk
            · subst hkk
              have hne : (qk.toList == qk.toList) = true := by simp
              go_wp2_with fail
              go_quiet (fail)
              go_wp2_with fail
              go_ret
              exact ⟨ret_bool (unhide Z), bel_drewN (bel_drewN (unhide B1) _) _⟩
            · have hne := vs_ne hkk
              go_wp2_with fail
              go_quiet (fail)
              go_wp2_with fail
              go_ret
              exact ⟨ret_bool (unhide Z), bel_drewN (bel_drewN (unhide B1) _) _⟩
        · have Z := hide (show true = comV ds by
            by_cases h0 : ds.length = 0
            · exact (comV_none h0).symm
            · have hp0 : 0 < ds.length := by omega
              have e0 : ds[0].t = (ds.getD 0 noV).t := by rw [List.getD_eq_getElem?_getD, List.getElem?_eq_getElem hp0]; rfl
              rw [comV_pos hp0, unhide HOK, decide_eq_true (by rw [unhide L]; exact h8), oneT_true fun i hi => by rw [e0]; exact unhide hT i hi (by have := unhide L; omega)]
              rfl)
          have hi5 : ¬ (k : Int) < (n : Int) := by omega
          go_wp2_with fail
          go_ret
          exact ⟨ret_bool (unhide Z), bel_drewN (unhide B1) _⟩
  · have g8 : (8 : Int) < (n : Int) := by omega
    have Z := hide (show false = comV ds by rw [comV_pos (by rw [unhide L]; omega), decide_eq_false (by rw [unhide L]; exact h8)]; rfl)
    clear C
    go_enter Tryz.func256, Tryz.ntmps256
    go_wp2_with fail
    go_ret
    exact ⟨ret_bool (unhide Z), Below.refl _ _⟩
end Go.Proofs.YtcflepnckjappaaGreat

namespace Go.Proofs.YtcflepnckjappaaGreat
open Go.RowKit

/-- The reader's place. -/
def posOf (w : World) (rb : Nat) : Nat := match w.cell? ⟨rb, 1, none⟩ with
  | some (.int _ p) => p.toNat
  | _ => 0
theorem pos_of {w : World} {rb D : Nat} {a : Option Addr} {n c : Nat} {xs : List Int} {s : Ss} (h : SdAt w rb D a n c xs s) : posOf w rb = s.1 := by
  unfold posOf
  rw [h.cells.2.1]
  simp
theorem rc_lit0 {w : World} {B : Nat} (h : B ≤ w.heap.size) : VOwns (w.alloc (.cells #[] 51)) B (.slice (some ⟨w.heap.size, 0, none⟩) 0 0) [] :=
  World.ownsRow_lit _ _ _ h (by unfold maxLen; simp) rfl
/-- What is kept along the reading: the list, the reader, all that was there. -/
structure SvSt (w wr : World) (D : Nat) (a : Option Addr) (n c : Nat) (xs : List Int) (v : Value) (L : List VerD) (s : Ss) : Prop where
  own : VOwns wr D v L
  rd : SdAt wr w.heap.size D a n c xs s
  bel : Below w.heap.size w wr
  dd : D = w.heap.size + 1
theorem SvSt.read {w wr w1 : World} {D : Nat} {a : Option Addr} {n c : Nat} {xs : List Int} {v : Value} {L : List VerD} {s s' : Ss} (h : SvSt w wr D a n c xs v L s) (hr : SdAt w1 w.heap.size D a n c xs s') (hw : Wr (fun i => i = w.heap.size) wr w1) : SvSt w w1 D a n c xs v L s' :=
  have hd := h.dd
  ⟨owns_wr h.own hw (fun i hi e => by have := (h.own.lt i hi).1; omega), hr, h.bel.trans (hw.below (fun i e => by omega) h.bel.size), hd⟩
theorem SvSt.below {w wr w1 : World} {D : Nat} {a : Option Addr} {n c : Nat} {xs : List Int} {v : Value} {L : List VerD} {s : Ss} (h : SvSt w wr D a n c xs v L s) (hb : Below wr.heap.size wr w1) : SvSt w w1 D a n c xs v L s :=
  ⟨vowns_below h.own hb, h.rd.below hb, h.bel.trans (hb.mono h.bel.size), h.dd⟩
theorem SvSt.fin {w wr w' : World} {D : Nat} {a : Option Addr} {n c : Nat} {xs : List Int} {v v' : Value} {L L' : List VerD} {s : Ss} {o : Obj} (h : SvSt w wr D a n c xs v L s) (ho : VOwns w' D v' L') (hg : (wr.alloc o).grownBy w' v.ownBlock) : SvSt w w' D a n c xs v' L' s := by
  have hd := h.dd
  have b : Below wr.heap.size wr (wr.alloc o) := (Below.refl _ _).alloc (Nat.le_refl _) _
  have hw1 : Wr (fun i => v.ownBlock = some i) (wr.alloc o) w' := Wr.of_grown hg (fun i e => e)
  exact ⟨ho, (h.rd.below b).wr hw1 (fun i e => by have := (h.own.lt i e).1; omega), (h.bel.trans (b.mono h.bel.size)).trans (hw1.below (fun i e => by have := (h.own.lt i e).1; omega) (Nat.le_trans h.bel.size b.size)), hd⟩
/-- What l07Read answers. -/
def SrRes (t : Int) (xs : List Int) (w : World) (e : Ending) (w' : World) : Prop :=
  ∃ v, e = .returned (.tuple #[v, .bool ((sAll t xs (0, false)).2 && comV (sAll t xs (0, false)).1)]) ∧ (((sAll t xs (0, false)).2 && comV (sAll t xs (0, false)).1) = true → VOwns w' w.heap.size v (sAll t xs (0, false)).1) ∧ Below w.heap.size w w'
theorem sr_no {t : Int} {xs : List Int} {w w' : World} {v : Value} (h : false = ((sAll t xs (0, false)).2 && comV (sAll t xs (0, false)).1)) (hb : Below w.heap.size w w') : SrRes t xs w (.returned (.tuple #[v, .bool false])) w' :=
  ⟨v, by rw [← h], fun e => (by rw [← h] at e; cases e), hb⟩
theorem sr_yes {t : Int} {xs : List Int} {w w' : World} {v : Value} {b : Bool} (h : b = ((sAll t xs (0, false)).2 && comV (sAll t xs (0, false)).1)) (ho : VOwns w' w.heap.size v (sAll t xs (0, false)).1) (hb : Below w.heap.size w w') : SrRes t xs w (.returned (.tuple #[v, .bool b])) w' :=
  ⟨v, by rw [← h], fun _ => ho, hb⟩
set_option maxRecDepth 100000 in
set_option maxHeartbeats 4000000 in
theorem l07Read_any (a : Option Addr) (n c : Nat) (xs : List Int) (t : Int) (w : World) (hr : Row w a n xs) (hb : By xs) (hnc : n ≤ c) (hn : n ≤ 65536) (ha : ∀ x, a = some x → x.block < w.heap.size) :
    Calls Tryz.prog 182 #[.slice a n c, .int .i64 t] w fun e w' => SrRes t xs w e w' := by
  have LX := hide hr.1
  have BY := hide hb
  have b0 : Below w.heap.size w (w.alloc (.cells #[.slice a n c, .int .i64 0, .bool false] 339)) := (Below.refl _ _).alloc (Nat.le_refl _) _
  have zs : (w.alloc (.cells #[.slice a n c, .int .i64 0, .bool false] 339)).heap.size = w.heap.size + 1 := by simp
  have RD : SdAt (w.alloc (.cells #[.slice a n c, .int .i64 0, .bool false] 339)) w.heap.size (w.heap.size + 1) a n c xs (0, false) :=
    ⟨heap_alloc_new _ _, hr.below b0 ha, hnc, fun x hx => ⟨by have := ha x hx; omega, by have := ha x hx; omega⟩, hn, Nat.zero_le _, by omega⟩
  have b1 : Below (w.alloc (.cells #[.slice a n c, .int .i64 0, .bool false] 339)).heap.size (w.alloc (.cells #[.slice a n c, .int .i64 0, .bool false] 339)) ((w.alloc (.cells #[.slice a n c, .int .i64 0, .bool false] 339)).alloc (.cells #[] 51)) := (Below.refl _ _).alloc (Nat.le_refl _) _
  have ST := hide (show SvSt w ((w.alloc (.cells #[.slice a n c, .int .i64 0, .bool false] 339)).alloc (.cells #[] 51)) (w.heap.size + 1) a n c xs (.slice (some ⟨w.heap.size + 1, 0, none⟩) 0 0) [] (0, false) from
    ⟨by have := rc_lit0 (w := w.alloc (.cells #[.slice a n c, .int .i64 0, .bool false] 339)) (B := w.heap.size + 1) (by omega); rw [zs] at this; exact this, RD.below b1, b0.trans (b1.mono b0.size), rfl⟩)
  clear hr hb b0 zs RD b1 ha
  go_enter Tryz.func182, Tryz.ntmps182
  go_wp2_with fail
  generalize (w.alloc (.cells #[.slice a n c, .int .i64 0, .bool false] 339)).alloc (.cells #[] 51) = W at *
  go_loopw [7] (fun v wr => ∃ (s : Ss) (L : List VerD), Hid (SvSt w wr (w.heap.size + 1) a n c xs v L s) ∧ Hid (sAll t xs (0, false) = (L ++ (sAll t xs s).1, (sAll t xs s).2)) ∧ L.length ≤ s.1) (fun _ wr => n - posOf wr w.heap.size)
  case atStart => exact ⟨(0, false), [], unhide ST, rfl, Nat.le_refl _⟩
  case round =>
    clear ST
    obtain ⟨s, L, hS, hE, hL⟩ := hrel
    obtain ⟨c0, c1, c2, _, _⟩ := (unhide hS).rd.cells
    have hpos := (unhide hS).rd.pos
    have hrest := pos_of (unhide hS).rd
    by_cases h0 : s.1 < xs.length ∧ s.2 = false
    · have hk0 : (s.1 : Int) < (n : Int) := by have := unhide LX; omega
      have hmore := sVer_more t h0.1 h0.2
      have H0 := hide h0
      have hbf := h0.2
      rw [hbf] at c2
      have EV := hide (show sVer t xs s = (⟨(sLine xs (sOne xs s).2).1, t, (sLine xs (sLine xs (sOne xs s).2).2).1, decide ((sOne xs s).1 = 2)⟩, (sLine xs (sLine xs (sOne xs s).2).2).2) from rfl)
      have HRS := hide hrest
      have KB := hide (fun (h : kindK (sOne xs s).1 = false) => sAll_bad t h0 h)
      have KG := hide (fun (h : kindK (sOne xs s).1 = true) => sAll_cons t h0 h)
      clear h0 hrest hbf
      go_wp2_with fail
      refine (sone_any w.heap.size (w.heap.size + 1) a n c xs s wr (unhide hS).rd (unhide BY)).mono ?_
      rintro e w2 ⟨rfl, hr2, hw2⟩
      replace hS := hide ((unhide hS).read hr2 hw2)
      clear hr2 hw2 c0 c1 c2
      generalize (sOne xs s).1 = x1 at *
      generalize (sOne xs s).2 = s1 at *
      go_wp2_with fail
      refine (sline_any w.heap.size (w.heap.size + 1) a n c xs s1 w2 (unhide hS).rd (unhide BY)).mono ?_
      rintro e w3 ⟨rfl, hr3, hw3⟩
      replace hS := hide ((unhide hS).read hr3 hw3)
      clear hr3 hw3
      generalize (sLine xs s1).1 = tk at *
      generalize (sLine xs s1).2 = s2 at *
      go_wp2_with fail
      refine (sline_any w.heap.size (w.heap.size + 1) a n c xs s2 w3 (unhide hS).rd (unhide BY)).mono ?_
      rintro e w4 ⟨rfl, hr4, hw4⟩
      replace hS := hide ((unhide hS).read hr4 hw4)
      clear hr4 hw4
      generalize (sLine xs s2).1 = tv at *
      generalize (sLine xs s2).2 = s3 at *
      have eb : (x1 == 2) = decide (x1 = 2) := rfl
      have b5 : Below w4.heap.size w4 (w4.alloc (.cells #[.string tk, .int .i64 t, .string tv, .bool (decide (x1 = 2))] 51)) := (Below.refl _ _).alloc (Nat.le_refl _) _
      have k5 := heap_alloc_new w4 (.cells #[.string tk, .int .i64 t, .string tv, .bool (decide (x1 = 2))] 51)
      replace hS := hide ((unhide hS).below b5)
      clear b5
      have SI := hide (vs_l01In x1 1 2)
      have EK := hide (show (decide (1 ≤ x1) && decide (x1 ≤ 2)) = kindK x1 from rfl)
      rw [unhide EK] at SI
      go_wp2_with fail
      first | rw [eb] | skip
      generalize w4.alloc (.cells #[.string tk, .int .i64 t, .string tv, .bool (decide (x1 = 2))] 51) = w5 at *
      generalize w4.heap.size = bx at *
      refine (unhide SI w5).mono ?_
      rintro e w6 ⟨rfl, hww⟩
      subst w6
      generalize hkk : kindK x1 = kk at *
      cases kk
      · have Z := hide (show false = ((sAll t xs (0, false)).2 && comV (sAll t xs (0, false)).1) by rw [unhide hE, unhide KB rfl]; rfl)
        have BL := (unhide hS).bel
        go_wp2_with fail
        go_ret2
        exact sr_no (unhide Z) BL
      · have ELL := hide (show sAll t xs (0, false) = ((L ++ [⟨tk, t, tv, decide (x1 = 2)⟩]) ++ (sAll t xs s3).1, (sAll t xs s3).2) by
          rw [unhide hE, unhide KG rfl, unhide EV]; simp)
        have hl3 : s.1 < s3.1 := by rw [unhide EV] at hmore; exact hmore
        clear KG KB hmore EV hE
        have n0 : w5.cell? ⟨bx, 0, none⟩ = some (.string tk) := (heap_at k5 0).1
        have n1 : w5.cell? ⟨bx, 1, none⟩ = some (.int .i64 t) := (heap_at k5 1).1
        have n2 : w5.cell? ⟨bx, 2, none⟩ = some (.string tv) := (heap_at k5 2).1
        have n3 : w5.cell? ⟨bx, 3, none⟩ = some (.bool (decide (x1 = 2))) := (heap_at k5 3).1
        clear k5
        obtain ⟨v8, w8, hr8, o8, g8⟩ := rc_app (d := ⟨tk, t, tv, decide (x1 = 2)⟩) (unhide hS).own (by omega) (show w.heap.size + 1 ≤ w5.heap.size from heap_lt1 (unhide hS).rd.k)
        have FIN := hide ((unhide hS).fin o8 g8)
        clear g8 o8
        simp only at hr8
        go_wp2_with (at_builtin; refine rc_wpApp rfl (.tmp 42) (.tmp 44) 25 rfl _ _ v8 w8 rfl rfl hr8 ?_)
        have HRE := hide (pos_of (unhide FIN).rd)
        clear n0 n1 n2 n3 hr8
        go_roundw
        case rel => exact ⟨s3, _, unhide FIN, unhide ELL, by simp; omega⟩
        case measure => (rw [unhide HRE]; have := unhide HRS; have := (unhide FIN).rd.pos; omega)
    · have EE := hide (show sAll t xs (0, false) = (L, !s.2) by rw [unhide hE, sAll_end t h0]; simp)
      have VR := hide (unhide hS).own
      have BL := hide (unhide hS).bel
      have hdd : w.heap.size ≤ w.heap.size + 1 := by omega
      by_cases hlt : s.1 < xs.length
      · have hk0 : (s.1 : Int) < (n : Int) := by have := unhide LX; omega
        have hs2 : s.2 = true := by
          cases hq : s.2 with
          | true => rfl
          | false => exact absurd ⟨hlt, hq⟩ h0
        rw [hs2] at c2
        have Z := hide (show false = ((sAll t xs (0, false)).2 && comV (sAll t xs (0, false)).1) by rw [unhide EE, hs2]; rfl)
        clear h0 hs2 hlt hrest
        go_wp2_with fail
        go_ret2
        exact sr_no (unhide Z) (unhide BL)
      · have hk0 : ¬ (s.1 : Int) < (n : Int) := by have := unhide LX; omega
        cases hq : s.2 with
        | true =>
          rw [hq] at c2
          have Z := hide (show false = ((sAll t xs (0, false)).2 && comV (sAll t xs (0, false)).1) by rw [unhide EE, hq]; rfl)
          clear h0 hq hlt hrest
          go_wp2_with fail
          go_ret2
          exact sr_no (unhide Z) (unhide BL)
        | false =>
          rw [hq] at c2
          have Z := hide (show comV L = ((sAll t xs (0, false)).2 && comV (sAll t xs (0, false)).1) by rw [unhide EE, hq]; rfl)
          have EL := hide (show (sAll t xs (0, false)).1 = L by rw [unhide EE])
          obtain ⟨av, cv, rfl⟩ := vowns_slice (unhide VR)
          have CW := hide (l07Writes_any av L.length cv L wr (by omega) (vrow_of_owns (unhide VR)))
          have hs3 := (unhide BL).size
          clear h0 hq hlt hrest
          go_wp2_with fail
          refine (unhide CW).mono ?_
          rintro e w9 ⟨rfl, hb9⟩
          have O9 := hide (vowns_dn (vowns_below (unhide VR) hb9) hdd)
          have B9 := hide ((unhide BL).trans (hb9.mono hs3))
          clear hb9 CW VR
          go_wp2_with fail
          go_ret2
          exact sr_yes (unhide Z) (by rw [unhide EL]; exact unhide O9) (unhide B9)
end Go.Proofs.YtcflepnckjappaaGreat
