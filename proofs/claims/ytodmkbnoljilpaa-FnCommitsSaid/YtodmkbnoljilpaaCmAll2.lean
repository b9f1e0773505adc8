/-
  TxH, TxI1, TxI0, PageN, RgE, TxI2, TxI3 in one.
-/
import Derived.Test.YtodmkbnoljilpaaCmAll1
import Derived.Test.YtodmkbnoljilpaaTxL
import Derived.Test.YtodmkbnoljilpaaPageM
import Derived.Laws.AppendOwnNone
namespace Go.Proofs.Ytodmkbnoljilpaa
open Go.RowKit

/-- Boxes laid one behind the other. -/
def allocC (w : World) : List (Array Value × TypeId) → World
  | [] => w
  | (c, t) :: r => allocC (w.alloc (.cells c t)) r
theorem allocC_size : ∀ (cs : List (Array Value × TypeId)) (w : World), (allocC w cs).heap.size = w.heap.size + cs.length
  | [], w => rfl
  | (c, t) :: r, w => by rw [allocC, allocC_size r]; simp; omega
theorem allocC_bel : ∀ (cs : List (Array Value × TypeId)) (w : World), Below w.heap.size w (allocC w cs)
  | [], w => Below.refl _ _
  | (c, t) :: r, w => by
    have b : Below w.heap.size w (w.alloc (.cells c t)) := (Below.refl _ _).alloc (Nat.le_refl _) _
    exact b.trans ((allocC_bel r (w.alloc (.cells c t))).mono b.size)
theorem allocC_at : ∀ (cs : List (Array Value × TypeId)) (w : World) (k : Nat) (c : Array Value) (t : TypeId), cs[k]? = some (c, t) → (allocC w cs).heap[w.heap.size + k]? = some (.cells c t (0, 0))
  | [], w, k, c, t, h => by simp at h
  | (c', t') :: r, w, 0, c, t, h => by
    simp at h
    obtain ⟨rfl, rfl⟩ := h
    rw [allocC]
    exact ((allocC_bel r (w.alloc (.cells c' t'))).block w.heap.size (by simp)).trans (heap_alloc_new _ _)
  | (c', t') :: r, w, k + 1, c, t, h => by
    have e := allocC_at r (w.alloc (.cells c' t')) k c t (by simpa using h)
    rw [allocC]
    have hz : (w.alloc (.cells c' t')).heap.size = w.heap.size + 1 := by simp
    rw [hz] at e
    rw [show w.heap.size + (k + 1) = w.heap.size + 1 + k by omega]
    exact e
/-- Versions that are small. -/
structure SmV (d : VsD) : Prop where
  list : d.list.length ≤ 800
  fen : d.fen.length < 4096
  ses : d.ses.length = 4
  ws : ∀ s ∈ d.ses, s.ws.length ≤ 8
  nx : 1 ≤ d.next ∧ d.next ≤ 1000
abbrev repC (c t : Int) (v : ByteArray) (s : Sl) : Array Value := #[.int .i64 c, .int .i64 t, .string v, .slice s.a s.n s.c]
/-- What a step leaves: versions as they read, a reply whose list is its own. -/
def StRes (l0 f0 s0 : Sl) (hs0 : List SeH) (d0 : VsD) (p : VsD × RepD) (w : World) (e : Ending) (w' : World) : Prop := ∃ l f s hs r, e = .returned (.tuple #[.agg (vzC p.1.next l f s), .agg (repC p.2.code p.2.time p.2.val r)]) ∧ ((l = l0 ∧ f = f0 ∧ s = s0 ∧ hs = hs0 ∧ p.1 = d0) ∨ VzOwn w' w.heap.size l f s hs p.1) ∧ EOwns w' w.heap.size (.slice r.a r.n r.c) p.2.list ∧ Below w.heap.size w w'
abbrev sv4 (w : World) (b : Nat) (v0 v1 v2 v3 : Value) : World := (((w.setCell ⟨b, 0, none⟩ v0).setCell ⟨b, 1, none⟩ v1).setCell ⟨b, 2, none⟩ v2).setCell ⟨b, 3, none⟩ v3
theorem sv4_wr (w : World) (b : Nat) (v0 v1 v2 v3 : Value) : WrB (fun i => i = b) w (sv4 w b v0 v1 v2 v3) := set4_wr w b v0 v1 v2 v3
theorem sv4_heap {w : World} {b : Nat} {u0 u1 u2 u3 : Value} {t : TypeId} (h : w.heap[b]? = some (.cells #[u0, u1, u2, u3] t (0, 0))) (v0 v1 v2 v3 : Value) : (sv4 w b v0 v1 v2 v3).heap[b]? = some (.cells #[v0, v1, v2, v3] t (0, 0)) := by
  have h1 := heap_set h 0 v0
  have h2 := heap_set h1 1 v1
  have h3 := heap_set h2 2 v2
  have h4 := heap_set h3 3 v3
  simpa using h4
theorem bel_sv4 {B b : Nat} {w u : World} (h : Below B w u) (hb : B ≤ b) (v0 v1 v2 v3 : Value) : Below B w (sv4 u b v0 v1 v2 v3) :=
  (((h.setCell (p := ⟨b, 0, none⟩) hb v0).setCell (p := ⟨b, 1, none⟩) hb v1).setCell (p := ⟨b, 2, none⟩) hb v2).setCell (p := ⟨b, 3, none⟩) hb v3
/-- Nothing has changed; a code and a time are told. -/
theorem st_old {w u : World} {d : VsD} {l f s : Sl} {hs : List SeH} {p : VsD × RepD} {c t : Int} (_hI : VzIn w l f s hs d) (hb : Below w.heap.size w u) (h : p = (d, repV c t)) : StRes l f s hs d p w (.returned (.tuple #[.agg (vzC d.next l f s), .agg #[.int .i64 c, .int .i64 t, .string ⟨#[]⟩, .slice none 0 0]])) u := by
  subst h
  exact ⟨l, f, s, hs, ⟨none, 0, 0⟩, rfl, .inl ⟨rfl, rfl, rfl, rfl, rfl⟩, World.ownsRow_nil _ _ _ _, hb⟩
/-- Versions of the call's own are given; a code and a time are told. -/
theorem st_own {w u : World} {B : Nat} {d d0 : VsD} {l f s l0 f0 s0 : Sl} {hs hs0 : List SeH} {p : VsD × RepD} {c t : Int} (hO : VzOwn u B l f s hs d) (hB : w.heap.size ≤ B) (hb : Below w.heap.size w u) (h : p = (d, repV c t)) : StRes l0 f0 s0 hs0 d0 p w (.returned (.tuple #[.agg (vzC d.next l f s), .agg #[.int .i64 c, .int .i64 t, .string ⟨#[]⟩, .slice none 0 0]])) u := by
  subst h
  exact ⟨l, f, s, hs, ⟨none, 0, 0⟩, rfl, .inr (hO.dn hB), World.ownsRow_nil _ _ _ _, hb⟩
theorem VzOwn.sv {w : World} {B b : Nat} {l f s : Sl} {hs : List SeH} {d : VsD} (h : VzOwn w B l f s hs d) (hb : b < B) (v0 v1 v2 v3 : Value) : VzOwn (sv4 w b v0 v1 v2 v3) B l f s hs d := h.wr (sv4_wr w b v0 v1 v2 v3) (fun i e => by rw [e]; exact hb)
/-- What was laid besides is let alone by a write into a box that holds no version, fence or session. -/
theorem VzOwn.box {w w' : World} {B b : Nat} {l f s : Sl} {hs : List SeH} {d : VsD} {cs : Array Value} {t : TypeId} (h : VzOwn w B l f s hs d) (hk : w.heap[b]? = some (.cells cs t (0, 0))) (h1 : 55 ≠ t) (h2 : 74 ≠ t) (h3 : 36 ≠ t) (hw : WrB (fun i => i = b) w w') : VzOwn w' B l f s hs d :=
  ⟨own_keep h.vo hk h1 hw, own_keep h.fo hk h2 hw, h.so.keep hw (fun i hi e => by subst e; exact se_box h.so hk h3 h1 hi), h.ss, h.far⟩
theorem VzOwn.apart {w w' : World} {B : Nat} {l f s : Sl} {hs : List SeH} {d : VsD} (h : VzOwn w B l f s hs d) {P : Nat → Prop} (hw : WrB P w w') (h1 : ∀ i, (Value.slice l.a l.n l.c).ownBlock = some i → ¬ P i) (h2 : ∀ i, (Value.slice f.a f.n f.c).ownBlock = some i → ¬ P i) (h3 : ∀ i, NBl (.slice s.a s.n s.c) (hs.map seEl) i → ¬ P i) : VzOwn w' B l f s hs d :=
  ⟨rr_owns_wr h.vo hw h1, rr_owns_wr h.fo hw h2, h.so.keep hw h3, h.ss, h.far⟩
/-- A session as it lies in versions of the call's own. -/
theorem VzOwn.sesAt {u : World} {B : Nat} {l f s : Sl} {hs : List SeH} {d : VsD} (h : VzOwn u B l f s hs d) {i : Nat} (hi : i < hs.length) : ∃ g, s.a = some ⟨g, 0, none⟩ ∧ s.n = hs.length ∧ B ≤ g ∧ g < u.heap.size ∧ u.cell? ⟨g, i * 3, none⟩ = some (.bool hs[i].X.o) ∧ u.cell? ⟨g, i * 3 + 1, none⟩ = some (.int .i64 hs[i].X.t) ∧ u.cell? ⟨g, i * 3 + 2, none⟩ = some (.slice hs[i].s0.a hs[i].s0.n hs[i].s0.c) ∧ VOwns u B (.slice hs[i].s0.a hs[i].s0.n hs[i].s0.c) hs[i].X.ws ∧ ∃ hd : i < d.ses.length, hs[i].X = d.ses[i] := by
  have hne : Value.slice s.a s.n s.c ≠ .slice none 0 0 := fun e => by
    have h1 := h.so.row.2
    rw [e] at h1
    rcases h1 with ⟨_, h1⟩ | ⟨_, _, _, h1, _⟩
    · omega
    · cases h1
  obtain ⟨g, c, e, hB, hg, hc⟩ := owns_form h.so.row hne
  obtain ⟨sa, sn, sc⟩ := s
  injection e with e1 e2 e3
  subst e1 e2 e3
  have hel : (hs.map seEl)[i]? = some (seEl hs[i]) := seEl_at hi
  refine ⟨g, rfl, rfl, hB, hg, ?_, h.so.cell hel (j := 1) rfl, h.so.cell hel (j := 2) rfl, h.so.dat i 0 _ (by unfold sbAt; rw [hel]; rfl), h.reads.at hi⟩
  have := h.so.cell hel (j := 0) rfl
  simpa using this
/-- A session laid in another's place. -/
theorem VzOwn.put {u : World} {B : Nat} {l f s : Sl} {hs : List SeH} {d : VsD} (h : VzOwn u B l f s hs d) {i : Nat} (hi : i < hs.length) (x : SeH) (ho : VOwns u B (.slice x.s0.a x.s0.n x.s0.c) x.X.ws) (hap : ∀ g, (Value.slice x.s0.a x.s0.n x.s0.c).ownBlock = some g → ¬ NBl (.slice s.a s.n s.c) (hs.map seEl) g ∧ (Value.slice l.a l.n l.c).ownBlock ≠ some g) :
    ∃ g, s.a = some ⟨g, 0, none⟩ ∧ B ≤ g ∧ (u.cell? ⟨g, i * 3, none⟩ = some (.bool hs[i].X.o) ∧ u.cell? ⟨g, i * 3 + 1, none⟩ = some (.int .i64 hs[i].X.t) ∧ u.cell? ⟨g, i * 3 + 2, none⟩ = some (.slice hs[i].s0.a hs[i].s0.n hs[i].s0.c)) ∧ (∀ j, u.frozen? ⟨g, j, none⟩ = false) ∧
      VzOwn (((u.setCell ⟨g, i * 3, none⟩ (.bool x.X.o)).setCell ⟨g, i * 3 + 1, none⟩ (.int .i64 x.X.t)).setCell ⟨g, i * 3 + 1 + 1, none⟩ (.slice x.s0.a x.s0.n x.s0.c)) B l f s (hs.set i x) ⟨d.next, d.list, d.fen, d.ses.set i x.X⟩ ∧
      WrB (fun k => k = g) u (((u.setCell ⟨g, i * 3, none⟩ (.bool x.X.o)).setCell ⟨g, i * 3 + 1, none⟩ (.int .i64 x.X.t)).setCell ⟨g, i * 3 + 1 + 1, none⟩ (.slice x.s0.a x.s0.n x.s0.c)) ∧ (∃ cur, u.heap[g]? = some (.cells cur 36 (0, 0))) := by
  have hne : Value.slice s.a s.n s.c ≠ .slice none 0 0 := fun e => by
    have h1 := h.so.row.2
    rw [e] at h1
    rcases h1 with ⟨_, h1⟩ | ⟨_, _, _, h1, _⟩
    · omega
    · cases h1
  obtain ⟨g, c, e, hB, hg, hc⟩ := owns_form h.so.row hne
  obtain ⟨sa, sn, sc⟩ := s
  injection e with e1 e2 e3
  subst e1 e2 e3
  have hki := own_kind h.so.row (i := g) rfl
  have hel : (hs.map seEl)[i]? = some (seEl hs[i]) := seEl_at hi
  have hil : i < (hs.map seEl).length := by rw [List.length_map]; exact hi
  have h1 := h.so.addAp (xs := (seEl x).sb) hel (fun y hy => by rw [List.mem_singleton.1 hy]; exact ho) (fun y hy g' hg' => by rw [List.mem_singleton.1 hy] at hg'; exact (hap g' hg').1) (by
    intro a b y z hy hz hne g' h1 h2
    match a, b, hy, hz, hne with
    | 0, 0, _, _, h => exact absurd rfl h
    | a + 1, _, hy, _, _ => cases hy
    | 0, b + 1, _, hz, _ => cases hz)
  have h2 := NOwn.store (seEl x).hd (seEl hs[i]).hd [] h1 (List.getElem?_set_self hil) rfl
  rw [List.set_set] at h2
  have hW : WrB (fun k => k = g) u (((u.setCell ⟨g, i * 3, none⟩ (.bool x.X.o)).setCell ⟨g, i * 3 + 1, none⟩ (.int .i64 x.X.t)).setCell ⟨g, i * 3 + 1 + 1, none⟩ (.slice x.s0.a x.s0.n x.s0.c)) := (set1_wr _ _ _ _).seq ((set1_wr _ _ _ _).seq (set1_wr _ _ _ _))
  have hN : SeOwn (((u.setCell ⟨g, i * 3, none⟩ (.bool x.X.o)).setCell ⟨g, i * 3 + 1, none⟩ (.int .i64 x.X.t)).setCell ⟨g, i * 3 + 1 + 1, none⟩ (.slice x.s0.a x.s0.n x.s0.c)) B (.slice (some ⟨g, 0, none⟩) hs.length sc) (hs.set i x) := by
    unfold SeOwn
    rw [List.map_set, List.length_set]
    exact h2
  refine ⟨g, rfl, hB, ⟨?_, ?_, ?_⟩, fun j => h.so.free j, ⟨rr_owns_wr h.vo hW (fun k hk e => by subst e; exact h.far k hk (.inl rfl)), rr_owns_wr h.fo hW (fun k hk e => own_other h.fo h.so.row (by decide) hk (by rw [e]; rfl)), hN, by rw [List.map_set, h.ss], fun k hk hn => ?_⟩, hW, hki⟩
  · have := h.so.cell hel (j := 0) rfl
    simpa using this
  · exact h.so.cell hel (j := 1) rfl
  · exact h.so.cell hel (j := 2) rfl
  · rcases hn with hn | ⟨k', a, y, hy, hn⟩
    · exact h.far k hk (.inl hn)
    · rw [List.map_set] at hy
      rw [sbAt_set hil] at hy
      by_cases hki' : k' = i
      · rw [if_pos hki'] at hy
        have h2 : y.v = .slice x.s0.a x.s0.n x.s0.c := by
          match a, hy with
          | 0, hy => injection hy with hy; rw [← hy]
          | a + 1, hy => cases hy
        rw [h2] at hn
        exact (hap k hn).2 hk
      · rw [if_neg hki'] at hy
        exact h.far k hk (.inr ⟨k', a, y, hy, hn⟩)
/-- One fence appended to a row of the call's own, nil or not. -/
theorem f_app1 {w : World} {B : Nat} {v : Value} {ds : List FenD} (d : FenD) (ho : FOwns w B v ds) (hz : ds.length ≤ 1000000) (hB : B ≤ w.heap.size) :
    ∃ f' : Sl, ∃ w', (Builtin.append_ #[28, 28] 28 #[v, .slice (some ⟨w.heap.size, 0, none⟩) 1 1]).run Try.prog (w.alloc (.cells #[.string d.f, .string d.u, .int .i64 d.t] 74)) = .ok (.slice f'.a f'.n f'.c) w' ∧ FOwns w' B (.slice f'.a f'.n f'.c) (ds ++ [d]) ∧ (w.alloc (.cells #[.string d.f, .string d.u, .int .i64 d.t] 74)).grownBy w' v.ownBlock := by
  obtain ⟨i0, hi0, hz0, hz1, hz2⟩ := info_parts Try.infoFence
  have hoa := World.ownsRow.alloc ho (.cells #[.string d.f, .string d.u, .int .i64 d.t] 74)
  obtain ⟨v', w', hrun, ho', hg, hnil, -⟩ := app_at (P := Try.prog) (w := w.alloc (.cells #[.string d.f, .string d.u, .int .i64 d.t] 74)) (B := B) 28 28 74 Try.underlying28 hi0 hz0 hz1 hz2 rfl (by decide) hoa ⟨w.heap.size, 0, none⟩ 1 1 (fcs [d]) (by simp [fcs]) (frow_src (frow_one w d)) (fcs_one _) (by unfold maxLen; omega) (by omega) (by simp; omega) (fun _ => by omega)
  obtain ⟨f', rfl, -⟩ := v_slice ho'
  exact ⟨f', w', hrun, by unfold FOwns; rw [List.length_append, fcs_append]; exact ho', hg⟩
set_option maxRecDepth 100000 in
set_option maxHeartbeats 8000000 in
theorem l06Fence_any (B : Nat) (d : VsD) (l f s : Sl) (hs : List SeH) (x : FenD) (p : RepD) (pl : Sl) (wn : Int) (wl wf ws : Sl) (w : World) (hO : VzOwn w B l f s hs d) (hB : B ≤ w.heap.size) (hf : d.fen.length < 4096) :
    Calls Try.prog 29 #[.agg (vzC wn wl wf ws), .agg (vzC d.next l f s), fv x, .agg (repC p.code p.time p.val pl)] w fun e w' => ∃ f' : Sl, e = .returned (.tuple #[.agg (vzC d.next l f' s), .agg (repC p.code p.time p.val pl)]) ∧ VzOwn w' B l f' s hs ⟨d.next, d.list, d.fen ++ [x], d.ses⟩ ∧ Below B w w' ∧ WrB (fun i => (Value.slice f.a f.n f.c).ownBlock = some i) w w' := by
  obtain ⟨W, hW⟩ : ∃ W, W = allocC w [(vzC wn wl wf ws, 31), (vzC d.next l f s, 31), (#[.string x.f, .string x.u, .int .i64 x.t], 74), (repC p.code p.time p.val pl, 49), (#[.int .i64 0, .slice none 0 0, .slice none 0 0, .slice none 0 0], 31), (#[.int .i64 0, .int .i64 0, .string ⟨#[]⟩, .slice none 0 0], 49)] := ⟨_, rfl⟩
  have hz := allocC_size [(vzC wn wl wf ws, 31), (vzC d.next l f s, 31), (#[.string x.f, .string x.u, .int .i64 x.t], 74), (repC p.code p.time p.val pl, 49), (#[.int .i64 0, .slice none 0 0, .slice none 0 0, .slice none 0 0], 31), (#[.int .i64 0, .int .i64 0, .string ⟨#[]⟩, .slice none 0 0], 49)] w
  have b1 := allocC_bel [(vzC wn wl wf ws, 31), (vzC d.next l f s, 31), (#[.string x.f, .string x.u, .int .i64 x.t], 74), (repC p.code p.time p.val pl, 49), (#[.int .i64 0, .slice none 0 0, .slice none 0 0, .slice none 0 0], 31), (#[.int .i64 0, .int .i64 0, .string ⟨#[]⟩, .slice none 0 0], 49)] w
  have AT := allocC_at [(vzC wn wl wf ws, 31), (vzC d.next l f s, 31), (#[.string x.f, .string x.u, .int .i64 x.t], 74), (repC p.code p.time p.val pl, 49), (#[.int .i64 0, .slice none 0 0, .slice none 0 0, .slice none 0 0], 31), (#[.int .i64 0, .int .i64 0, .string ⟨#[]⟩, .slice none 0 0], 49)] w
  rw [← hW] at hz b1 AT
  have k1 : W.heap[w.heap.size + 1]? = some (.cells (vzC d.next l f s) 31 (0, 0)) := AT 1 _ _ rfl
  have k2 : W.heap[w.heap.size + 1 + 1]? = some (.cells #[.string x.f, .string x.u, .int .i64 x.t] 74 (0, 0)) := AT 2 _ _ rfl
  have k3 : W.heap[w.heap.size + 1 + 1 + 1]? = some (.cells (repC p.code p.time p.val pl) 49 (0, 0)) := AT 3 _ _ rfl
  have k4 : W.heap[w.heap.size + 1 + 1 + 1 + 1]? = some (.cells #[.int .i64 0, .slice none 0 0, .slice none 0 0, .slice none 0 0] 31 (0, 0)) := AT 4 _ _ rfl
  have k5 : W.heap[w.heap.size + 1 + 1 + 1 + 1 + 1]? = some (.cells #[.int .i64 0, .int .i64 0, .string ⟨#[]⟩, .slice none 0 0] 49 (0, 0)) := AT 5 _ _ rfl
  simp only [List.length_cons, List.length_nil] at hz
  have hfl : f.n = d.fen.length := owns_n hO.fo
  have hW2 : W = _ := hW
  unfold allocC allocC allocC allocC allocC allocC allocC at hW2
  have OW := hO.below b1
  obtain ⟨fs, w3, hr, ho, hg⟩ := f_app1 x OW.fo (by omega) (Nat.le_trans hB b1.size)
  have bA : Below W.heap.size W (W.alloc (.cells #[.string x.f, .string x.u, .int .i64 x.t] 74)) := (Below.refl _ _).alloc (Nat.le_refl _) _
  have OA := OW.below bA
  have hg' := WrB.of_grown hg
  have OA3 : VzOwn w3 B l fs s hs ⟨d.next, d.list, d.fen ++ [x], d.ses⟩ := ⟨rr_owns_wr OA.vo hg' (fun i hi => own_other OA.vo OA.fo (by decide) hi), ho, OA.so.keep hg' (fun i hi e => by
      rcases hi with hi | ⟨k, a, y, hy, hi⟩
      · exact own_other OA.so.row OA.fo (by decide) hi e
      · have hd := OA.so.dat k a y hy
        have ht : y.t = 55 := by
          obtain ⟨z, hz, hyz⟩ := sbAt_mem hy
          obtain ⟨q, _, rfl⟩ := List.mem_map.1 hz
          rw [List.mem_singleton.1 hyz]
        rw [ht] at hd
        exact own_other hd OA.fo (by decide) hi e), OA.ss, OA.far⟩
  have fw : ∀ i, (Value.slice f.a f.n f.c).ownBlock = some i → B ≤ i ∧ i < w.heap.size := fun i hi => hO.fo.lt i hi
  have B3 : ∀ i, i < W.heap.size → (Value.slice f.a f.n f.c).ownBlock ≠ some i → w3.heap[i]? = W.heap[i]? := fun i h1 h2 => (hg'.block i (Nat.lt_of_lt_of_le h1 bA.size) h2).trans (bA.block i h1)
  have new : ∀ i, w.heap.size ≤ i → (Value.slice f.a f.n f.c).ownBlock ≠ some i := fun i h e => by have := (fw i e).2; omega
  have s3 : W.heap.size ≤ w3.heap.size := Nat.le_trans bA.size hg.size
  have q1 := (B3 _ (by omega) (new _ (by omega))).trans k1
  have q2 := (B3 _ (by omega) (new _ (by omega))).trans k2
  have q3 := (B3 _ (by omega) (new _ (by omega))).trans k3
  have q4 := (B3 _ (by omega) (new _ (by omega))).trans k4
  have q5 := (B3 _ (by omega) (new _ (by omega))).trans k5
  -- the box of the versions with the new fences
  have m1 : (w3.setCell ⟨w.heap.size + 1, 2, none⟩ (.slice fs.a fs.n fs.c)).heap[w.heap.size + 1]? = some (.cells (vzC d.next l fs s) 31 (0, 0)) := by have := heap_set q1 2 (.slice fs.a fs.n fs.c); simpa using this
  have hS := set1_wr w3 (w.heap.size + 1) 2 (.slice fs.a fs.n fs.c)
  have m3 := (hS.block _ (blk_lt q3) (by omega)).trans q3
  have m4 := (hS.block _ (blk_lt q4) (by omega)).trans q4
  have m5 := (hS.block _ (blk_lt q5) (by omega)).trans q5
  have O4 := OA3.box q1 (by decide) (by decide) (by decide) hS
  have WW : WrB (fun i => (Value.slice f.a f.n f.c).ownBlock = some i) w (w3.setCell ⟨w.heap.size + 1, 2, none⟩ (.slice fs.a fs.n fs.c)) := ⟨hS.os.trans (hg'.os.trans (bA.os.trans b1.os)), hS.tape.trans (hg'.tape.trans (bA.tape.trans b1.tape)), hS.output.trans (hg'.output.trans (bA.output.trans b1.output)), Nat.le_trans (Nat.le_trans b1.size s3) hS.size, fun i h1 h2 => (hS.block i (Nat.lt_of_lt_of_le h1 (Nat.le_trans b1.size s3)) (by omega)).trans ((B3 i (Nat.lt_of_lt_of_le h1 b1.size) h2).trans (b1.block i h1))⟩
  have M1 := hide m1
  have M3 := hide m3
  have M4 := hide m4
  have M5 := hide m5
  have OH := hide O4
  have WH := hide WW
  have SZ := hide (show w.heap.size + 1 + 1 + 1 + 1 + 1 < (w3.setCell ⟨w.heap.size + 1, 2, none⟩ (.slice fs.a fs.n fs.c)).heap.size from blk_lt m5)
  have y0 := (heap_at q1 2).1
  have f0 := (heap_at q1 2).2
  have z2 := (heap_at k1 2).1
  have x0 := (heap_at k2 0).1
  have x1 := (heap_at k2 1).1
  have x2 := (heap_at k2 2).1
  have HB := hide hB
  have FW := hide fw
  clear k1 k2 k3 k4 k5 q1 q2 q3 q4 q5 m1 m3 m4 m5 O4 WW hS OA OA3 OW hg hg' ho B3 new AT b1 hO bA hW fw s3
  obtain ⟨la, ln, lc⟩ := l
  obtain ⟨fa, fn, fc⟩ := f
  obtain ⟨sa, sn, sc⟩ := s
  obtain ⟨fsa, fsn, fsc⟩ := fs
  obtain ⟨pla, pln, plc⟩ := pl
  obtain ⟨wla, wln, wlc⟩ := wl
  obtain ⟨wfa, wfn, wfc⟩ := wf
  obtain ⟨wsa, wsn, wsc⟩ := ws
  unfold vzC repC at *
  unfold fv
  simp only at hr y0 M1 M3 OH WH z2 hfl SZ hW2 ⊢
  have hne : ((fn : Int) == 4096) = false := by
    have : ¬ (fn : Int) = 4096 := by omega
    simpa using this
  have hne2 : ¬ (fn : Int) = 4096 := by omega
  clear hfl hf hz
  go_enter Try.func29, Try.ntmps29
  go_upto_region 3 with fail
  rw [← hW2]
  clear hW2
  go_upto_region 4 with (at_builtin; refine ky_wpApp rfl (.tmp 19) (.tmp 21) 28 rfl _ _ _ w3 rfl rfl hr ?_)
  generalize w3.setCell ⟨w.heap.size + 1, 2, none⟩ (.slice fsa fsn fsc) = u at *
  clear hr y0 f0 z2 x0 x1 x2
  have SK := hide (show ∀ v : World, (∀ i, i ≤ w.heap.size + 1 + 1 + 1 → v.heap[i]? = u.heap[i]?) → (fun u => u.cell? ⟨w.heap.size + 1, 0, none⟩ = some (.int .i64 d.next) ∧ u.cell? ⟨w.heap.size + 1, 1, none⟩ = some (.slice la ln lc) ∧ u.cell? ⟨w.heap.size + 1, 2, none⟩ = some (.slice fsa fsn fsc) ∧ u.cell? ⟨w.heap.size + 1, 3, none⟩ = some (.slice sa sn sc) ∧ u.cell? ⟨w.heap.size + 1 + 1 + 1, 0, none⟩ = some (.int .i64 p.code) ∧ u.cell? ⟨w.heap.size + 1 + 1 + 1, 1, none⟩ = some (.int .i64 p.time) ∧ u.cell? ⟨w.heap.size + 1 + 1 + 1, 2, none⟩ = some (.string p.val) ∧ u.cell? ⟨w.heap.size + 1 + 1 + 1, 3, none⟩ = some (.slice pla pln plc)) v from fun v hv => by
    have a1 := (hv (w.heap.size + 1) (by omega)).trans (unhide M1)
    have a3 := (hv (w.heap.size + 1 + 1 + 1) (by omega)).trans (unhide M3)
    exact ⟨(heap_at a1 0).1, (heap_at a1 1).1, (heap_at a1 2).1, (heap_at a1 3).1, (heap_at a3 0).1, (heap_at a3 1).1, (heap_at a3 2).1, (heap_at a3 3).1⟩)
  have D0 := hide (show ∀ i, i ≤ w.heap.size + 1 + 1 + 1 → u.drew.heap[i]? = u.heap[i]? from fun _ _ => rfl)
  have N4 := hide (show u.drew.heap[w.heap.size + 1 + 1 + 1 + 1]? = _ from unhide M4)
  have N5 := hide (show u.drew.heap[w.heap.size + 1 + 1 + 1 + 1 + 1]? = _ from unhide M5)
  have OD := hide ((unhide OH).below (Below.refl u.heap.size u).drew)
  have WD := hide (show WrB (fun i => (Value.slice fa fn fc).ownBlock = some i) w u.drew from ⟨(unhide WH).os, (unhide WH).tape, (unhide WH).output, (unhide WH).size, (unhide WH).block⟩)
  refine wp_region_held_drew (S := (fun u => u.cell? ⟨w.heap.size + 1, 0, none⟩ = some (.int .i64 d.next) ∧ u.cell? ⟨w.heap.size + 1, 1, none⟩ = some (.slice la ln lc) ∧ u.cell? ⟨w.heap.size + 1, 2, none⟩ = some (.slice fsa fsn fsc) ∧ u.cell? ⟨w.heap.size + 1, 3, none⟩ = some (.slice sa sn sc) ∧ u.cell? ⟨w.heap.size + 1 + 1 + 1, 0, none⟩ = some (.int .i64 p.code) ∧ u.cell? ⟨w.heap.size + 1 + 1 + 1, 1, none⟩ = some (.int .i64 p.time) ∧ u.cell? ⟨w.heap.size + 1 + 1 + 1, 2, none⟩ = some (.string p.val) ∧ u.cell? ⟨w.heap.size + 1 + 1 + 1, 3, none⟩ = some (.slice pla pln plc))) (by kernel_rfl) (unhide SK _ (unhide D0)) (fun hHeld => ?_)
  generalize u.drew = ud at *
  refine anyH_take 0 24 (v := ?v1) rfl rfl (by kernel_rfl) (by kernel_rfl) (by kernel_rfl) (fun _ _ _ h => h) (by rfl) ?h1 hHeld ?r1
  case h1 => (intro w hSw; (try dsimp only at hSw); go_simp; try (with_reducible rfl))
  simp only [Act.put, List.setIfInBounds_toArray, List.set_cons_zero, List.set_cons_succ]
  refine anyH_take 1 25 (v := ?v2) rfl rfl (by kernel_rfl) (by kernel_rfl) (by kernel_rfl) (fun _ _ _ h => h) (by rfl) ?h2 hHeld ?r2
  case h2 => (intro w hSw; (try dsimp only at hSw); go_simp; try (with_reducible rfl))
  simp only [Act.put, List.setIfInBounds_toArray, List.set_cons_zero, List.set_cons_succ]
  refine wpAnyH_ready (rs := [2]) (by kernel_rfl) (by simp) ?_
  refine AllReadyH.cons rfl (fun K hK => ?_) AllReadyH.nil
  have c0 := (heap_at (unhide N4) 0).1
  have c1 := (heap_at (unhide N4) 1).1
  have c2 := (heap_at (unhide N4) 2).1
  have c3 := (heap_at (unhide N4) 3).1
  have cf0 := (heap_at (unhide N4) 0).2
  have cf1 := (heap_at (unhide N4) 1).2
  have cf2 := (heap_at (unhide N4) 2).2
  have cf3 := (heap_at (unhide N4) 3).2
  have hw : WrB (fun i => i = w.heap.size + 1 + 1 + 1 + 1) ud ((((ud.setCell ⟨w.heap.size + 1 + 1 + 1 + 1, 0, none⟩ (.int .i64 d.next)).setCell ⟨w.heap.size + 1 + 1 + 1 + 1, 1, none⟩ (.slice la ln lc)).setCell ⟨w.heap.size + 1 + 1 + 1 + 1, 2, none⟩ (.slice fsa fsn fsc)).setCell ⟨w.heap.size + 1 + 1 + 1 + 1, 3, none⟩ (.slice sa sn sc)) := sv4_wr ud (w.heap.size + 1 + 1 + 1 + 1) (.int .i64 d.next) (.slice la ln lc) (.slice fsa fsn fsc) (.slice sa sn sc)
  have E5 := hide ((hw.block (w.heap.size + 1 + 1 + 1 + 1 + 1) (blk_lt (unhide N5)) (by omega)).trans (unhide N5))
  have D1 := hide (show ∀ i, i ≤ w.heap.size + 1 + 1 + 1 → ((((ud.setCell ⟨w.heap.size + 1 + 1 + 1 + 1, 0, none⟩ (.int .i64 d.next)).setCell ⟨w.heap.size + 1 + 1 + 1 + 1, 1, none⟩ (.slice la ln lc)).setCell ⟨w.heap.size + 1 + 1 + 1 + 1, 2, none⟩ (.slice fsa fsn fsc)).setCell ⟨w.heap.size + 1 + 1 + 1 + 1, 3, none⟩ (.slice sa sn sc)).heap[i]? = u.heap[i]? from fun i hi => (hw.block i (by have := blk_lt (unhide N4); omega) (by omega)).trans (unhide D0 i hi))
  have K1 := hide (show ((((ud.setCell ⟨w.heap.size + 1 + 1 + 1 + 1, 0, none⟩ (.int .i64 d.next)).setCell ⟨w.heap.size + 1 + 1 + 1 + 1, 1, none⟩ (.slice la ln lc)).setCell ⟨w.heap.size + 1 + 1 + 1 + 1, 2, none⟩ (.slice fsa fsn fsc)).setCell ⟨w.heap.size + 1 + 1 + 1 + 1, 3, none⟩ (.slice sa sn sc)).heap[w.heap.size + 1 + 1 + 1 + 1]? = some (.cells #[.int .i64 d.next, .slice la ln lc, .slice fsa fsn fsc, .slice sa sn sc] 31 (0, 0)) from sv4_heap (unhide N4) (.int .i64 d.next) (.slice la ln lc) (.slice fsa fsn fsc) (.slice sa sn sc))
  have O1 := hide (show VzOwn ((((ud.setCell ⟨w.heap.size + 1 + 1 + 1 + 1, 0, none⟩ (.int .i64 d.next)).setCell ⟨w.heap.size + 1 + 1 + 1 + 1, 1, none⟩ (.slice la ln lc)).setCell ⟨w.heap.size + 1 + 1 + 1 + 1, 2, none⟩ (.slice fsa fsn fsc)).setCell ⟨w.heap.size + 1 + 1 + 1 + 1, 3, none⟩ (.slice sa sn sc)) B ⟨la, ln, lc⟩ ⟨fsa, fsn, fsc⟩ ⟨sa, sn, sc⟩ hs ⟨d.next, d.list, d.fen ++ [x], d.ses⟩ from (unhide OD).box (unhide N4) (by decide) (by decide) (by decide) hw)
  have W1 := hide (show WrB (fun i => (Value.slice fa fn fc).ownBlock = some i) w ((((ud.setCell ⟨w.heap.size + 1 + 1 + 1 + 1, 0, none⟩ (.int .i64 d.next)).setCell ⟨w.heap.size + 1 + 1 + 1 + 1, 1, none⟩ (.slice la ln lc)).setCell ⟨w.heap.size + 1 + 1 + 1 + 1, 2, none⟩ (.slice fsa fsn fsc)).setCell ⟨w.heap.size + 1 + 1 + 1 + 1, 3, none⟩ (.slice sa sn sc)) from ⟨hw.os.trans (unhide WD).os, hw.tape.trans (unhide WD).tape, hw.output.trans (unhide WD).output, Nat.le_trans (unhide WD).size hw.size, fun i h1 h2 => (hw.block i (Nat.lt_of_lt_of_le h1 (unhide WD).size) (by omega)).trans ((unhide WD).block i h1 h2)⟩)
  clear hw
  go_simp
  skip
  refine hK.out _ _ (unhide SK _ (unhide D1)) (fun hHeld => ?_)
  clear hK K
  clear c0 c1 c2 c3 cf0 cf1 cf2 cf3
  generalize (((ud.setCell ⟨w.heap.size + 1 + 1 + 1 + 1, 0, none⟩ (.int .i64 d.next)).setCell ⟨w.heap.size + 1 + 1 + 1 + 1, 1, none⟩ (.slice la ln lc)).setCell ⟨w.heap.size + 1 + 1 + 1 + 1, 2, none⟩ (.slice fsa fsn fsc)).setCell ⟨w.heap.size + 1 + 1 + 1 + 1, 3, none⟩ (.slice sa sn sc) = ue at *
  refine wpAnyH_ready (rs := [3]) (by kernel_rfl) (by simp) ?_
  refine AllReadyH.cons rfl (fun K hK => ?_) AllReadyH.nil
  have c0 := (heap_at (unhide E5) 0).1
  have c1 := (heap_at (unhide E5) 1).1
  have c2 := (heap_at (unhide E5) 2).1
  have c3 := (heap_at (unhide E5) 3).1
  have cf0 := (heap_at (unhide E5) 0).2
  have cf1 := (heap_at (unhide E5) 1).2
  have cf2 := (heap_at (unhide E5) 2).2
  have cf3 := (heap_at (unhide E5) 3).2
  have hw : WrB (fun i => i = w.heap.size + 1 + 1 + 1 + 1 + 1) ue ((((ue.setCell ⟨w.heap.size + 1 + 1 + 1 + 1 + 1, 0, none⟩ (.int .i64 p.code)).setCell ⟨w.heap.size + 1 + 1 + 1 + 1 + 1, 1, none⟩ (.int .i64 p.time)).setCell ⟨w.heap.size + 1 + 1 + 1 + 1 + 1, 2, none⟩ (.string p.val)).setCell ⟨w.heap.size + 1 + 1 + 1 + 1 + 1, 3, none⟩ (.slice pla pln plc)) := sv4_wr ue (w.heap.size + 1 + 1 + 1 + 1 + 1) (.int .i64 p.code) (.int .i64 p.time) (.string p.val) (.slice pla pln plc)
  have D2 := hide (show ∀ i, i ≤ w.heap.size + 1 + 1 + 1 → ((((ue.setCell ⟨w.heap.size + 1 + 1 + 1 + 1 + 1, 0, none⟩ (.int .i64 p.code)).setCell ⟨w.heap.size + 1 + 1 + 1 + 1 + 1, 1, none⟩ (.int .i64 p.time)).setCell ⟨w.heap.size + 1 + 1 + 1 + 1 + 1, 2, none⟩ (.string p.val)).setCell ⟨w.heap.size + 1 + 1 + 1 + 1 + 1, 3, none⟩ (.slice pla pln plc)).heap[i]? = u.heap[i]? from fun i hi => (hw.block i (by have := blk_lt (unhide E5); omega) (by omega)).trans (unhide D1 i hi))
  have K2 := hide (show ((((ue.setCell ⟨w.heap.size + 1 + 1 + 1 + 1 + 1, 0, none⟩ (.int .i64 p.code)).setCell ⟨w.heap.size + 1 + 1 + 1 + 1 + 1, 1, none⟩ (.int .i64 p.time)).setCell ⟨w.heap.size + 1 + 1 + 1 + 1 + 1, 2, none⟩ (.string p.val)).setCell ⟨w.heap.size + 1 + 1 + 1 + 1 + 1, 3, none⟩ (.slice pla pln plc)).heap[w.heap.size + 1 + 1 + 1 + 1 + 1]? = some (.cells #[.int .i64 p.code, .int .i64 p.time, .string p.val, .slice pla pln plc] 49 (0, 0)) from sv4_heap (unhide E5) (.int .i64 p.code) (.int .i64 p.time) (.string p.val) (.slice pla pln plc))
  have K1b := hide ((hw.block (w.heap.size + 1 + 1 + 1 + 1) (blk_lt (unhide K1)) (by omega)).trans (unhide K1))
  have O2 := hide (show VzOwn ((((ue.setCell ⟨w.heap.size + 1 + 1 + 1 + 1 + 1, 0, none⟩ (.int .i64 p.code)).setCell ⟨w.heap.size + 1 + 1 + 1 + 1 + 1, 1, none⟩ (.int .i64 p.time)).setCell ⟨w.heap.size + 1 + 1 + 1 + 1 + 1, 2, none⟩ (.string p.val)).setCell ⟨w.heap.size + 1 + 1 + 1 + 1 + 1, 3, none⟩ (.slice pla pln plc)) B ⟨la, ln, lc⟩ ⟨fsa, fsn, fsc⟩ ⟨sa, sn, sc⟩ hs ⟨d.next, d.list, d.fen ++ [x], d.ses⟩ from (unhide O1).box (unhide E5) (by decide) (by decide) (by decide) hw)
  have W2 := hide (show WrB (fun i => (Value.slice fa fn fc).ownBlock = some i) w ((((ue.setCell ⟨w.heap.size + 1 + 1 + 1 + 1 + 1, 0, none⟩ (.int .i64 p.code)).setCell ⟨w.heap.size + 1 + 1 + 1 + 1 + 1, 1, none⟩ (.int .i64 p.time)).setCell ⟨w.heap.size + 1 + 1 + 1 + 1 + 1, 2, none⟩ (.string p.val)).setCell ⟨w.heap.size + 1 + 1 + 1 + 1 + 1, 3, none⟩ (.slice pla pln plc)) from ⟨hw.os.trans (unhide W1).os, hw.tape.trans (unhide W1).tape, hw.output.trans (unhide W1).output, Nat.le_trans (unhide W1).size hw.size, fun i h1 h2 => (hw.block i (Nat.lt_of_lt_of_le h1 (unhide W1).size) (by omega)).trans ((unhide W1).block i h1 h2)⟩)
  clear hw
  go_simp
  refine hK.out _ _ (unhide SK _ (unhide D2)) (fun hHeld => ?_)
  clear hK K
  clear c0 c1 c2 c3 cf0 cf1 cf2 cf3
  generalize (((ue.setCell ⟨w.heap.size + 1 + 1 + 1 + 1 + 1, 0, none⟩ (.int .i64 p.code)).setCell ⟨w.heap.size + 1 + 1 + 1 + 1 + 1, 1, none⟩ (.int .i64 p.time)).setCell ⟨w.heap.size + 1 + 1 + 1 + 1 + 1, 2, none⟩ (.string p.val)).setCell ⟨w.heap.size + 1 + 1 + 1 + 1 + 1, 3, none⟩ (.slice pla pln plc) = ug at *
  refine wpAnyH_done (by kernel_rfl) ?_ _
  have r0 := (heap_at (unhide K1b) 0).1
  have r1 := (heap_at (unhide K1b) 1).1
  have r2 := (heap_at (unhide K1b) 2).1
  have r3 := (heap_at (unhide K1b) 3).1
  have t0 := (heap_at (unhide K2) 0).1
  have t1 := (heap_at (unhide K2) 1).1
  have t2 := (heap_at (unhide K2) 2).1
  have t3 := (heap_at (unhide K2) 3).1
  have RES := hide (show ∃ f' : Sl, Ending.returned (.tuple #[.agg #[.int .i64 d.next, .slice la ln lc, .slice fsa fsn fsc, .slice sa sn sc], .agg #[.int .i64 p.code, .int .i64 p.time, .string p.val, .slice pla pln plc]]) = .returned (.tuple #[.agg #[.int .i64 d.next, .slice la ln lc, .slice f'.a f'.n f'.c, .slice sa sn sc], .agg #[.int .i64 p.code, .int .i64 p.time, .string p.val, .slice pla pln plc]]) ∧ VzOwn ug B ⟨la, ln, lc⟩ f' ⟨sa, sn, sc⟩ hs ⟨d.next, d.list, d.fen ++ [x], d.ses⟩ ∧ Below B w ug ∧ WrB (fun i => (Value.slice fa fn fc).ownBlock = some i) w ug from ⟨⟨fsa, fsn, fsc⟩, rfl, unhide O2, WrB.below (unhide W2) (fun i hi => (unhide FW i hi).1) (unhide HB), unhide W2⟩)
  clear hHeld SK D0 N4 N5 OD WD K1 K1b K2 O1 O2 W1 W2 D1 D2
  go_wp2_with fail
  refine bodyPost_ret (v := .tuple #[.agg #[.int .i64 d.next, .slice la ln lc, .slice fsa fsn fsc, .slice sa sn sc], .agg #[.int .i64 p.code, .int .i64 p.time, .string p.val, .slice pla pln plc]]) (by simp [results, Try.results29, go_sem, *]) rfl ?_
  exact unhide RES
end Go.Proofs.Ytodmkbnoljilpaa

namespace Go.Proofs.Ytodmkbnoljilpaa
open Go.RowKit

set_option maxRecDepth 100000 in
set_option maxHeartbeats 8000000 in
theorem l06Step_1 (d : VsD) (i : Nat) (key tu val : ByteArray) (l f s : Sl) (hs : List SeH) (w : World) (hI : VzIn w l f s hs d) (hS : SmV d) (hi : i < 4) :
    Calls Try.prog 13 #[.agg (vzC d.next l f s), .agg #[.int .i64 1, .int .i64 (i : Int), .string key, .string tu, .string val]] w fun e w' => StRes l f s hs d (stepV d ⟨1, (i : Int), key, tu, val⟩) w e w' := by
  have hz := allocC_size [(vzC d.next l f s, 31), (#[.int .i64 1, .int .i64 (i : Int), .string key, .string tu, .string val], 26), (#[.int .i64 0, .slice none 0 0, .slice none 0 0, .slice none 0 0], 31), (#[.int .i64 0, .int .i64 0, .string ⟨#[]⟩, .slice none 0 0], 49)] w
  have b1 := allocC_bel [(vzC d.next l f s, 31), (#[.int .i64 1, .int .i64 (i : Int), .string key, .string tu, .string val], 26), (#[.int .i64 0, .slice none 0 0, .slice none 0 0, .slice none 0 0], 31), (#[.int .i64 0, .int .i64 0, .string ⟨#[]⟩, .slice none 0 0], 49)] w
  have AT := allocC_at [(vzC d.next l f s, 31), (#[.int .i64 1, .int .i64 (i : Int), .string key, .string tu, .string val], 26), (#[.int .i64 0, .slice none 0 0, .slice none 0 0, .slice none 0 0], 31), (#[.int .i64 0, .int .i64 0, .string ⟨#[]⟩, .slice none 0 0], 49)] w
  obtain ⟨W, hW⟩ : ∃ W, W = allocC w [(vzC d.next l f s, 31), (#[.int .i64 1, .int .i64 (i : Int), .string key, .string tu, .string val], 26), (#[.int .i64 0, .slice none 0 0, .slice none 0 0, .slice none 0 0], 31), (#[.int .i64 0, .int .i64 0, .string ⟨#[]⟩, .slice none 0 0], 49)] := ⟨_, rfl⟩
  rw [← hW] at hz b1 AT
  simp only [List.length_cons, List.length_nil] at hz
  have k0 : W.heap[w.heap.size]? = some (.cells (vzC d.next l f s) 31 (0, 0)) := AT 0 _ _ rfl
  have k1 : W.heap[w.heap.size + 1]? = some (.cells #[.int .i64 1, .int .i64 (i : Int), .string key, .string tu, .string val] 26 (0, 0)) := AT 1 _ _ rfl
  have k2 : W.heap[w.heap.size + 1 + 1]? = some (.cells #[.int .i64 0, .slice none 0 0, .slice none 0 0, .slice none 0 0] 31 (0, 0)) := AT 2 _ _ rfl
  have k3 : W.heap[w.heap.size + 1 + 1 + 1]? = some (.cells #[.int .i64 0, .int .i64 0, .string ⟨#[]⟩, .slice none 0 0] 49 (0, 0)) := AT 3 _ _ rfl
  have hz0 : w.heap.size < W.heap.size := by omega
  have hz1 : w.heap.size + 1 < W.heap.size := by omega
  have hz2 : w.heap.size + 1 + 1 < W.heap.size := by omega
  have hz3 : w.heap.size + 1 + 1 + 1 < W.heap.size := by omega
  unfold allocC allocC allocC allocC allocC at hW
  have CO := hide (l06Own_any d l f s hs W (hI.below b1) (by have := hI.vr.1; have := hS.list; omega) (by have := hI.fr.1; have := hS.fen; omega) (by have := hI.len; have := hS.ses; omega) (fun h hh => by
    obtain ⟨k, hk, rfl⟩ := List.getElem_of_mem hh
    obtain ⟨hd, he⟩ := hI.at hk
    have h1 := (SeIn.row hI.sr hk).1
    have h2 := hS.ws d.ses[k] (List.getElem_mem hd)
    rw [← he] at h2
    omega))
  have BH := hide b1
  have HI := hide hI
  have HS := hide hS
  obtain ⟨la, ln, lc⟩ := l
  obtain ⟨fa, fn, fc⟩ := f
  obtain ⟨sa, sn, sc⟩ := s
  unfold vzC at k0 hW CO ⊢
  simp only at k0 hW CO ⊢
  have K0 := hide k0
  have K1 := hide k1
  have K2 := hide k2
  have K3 := hide k3
  have hnx := hS.nx
  have hi0 : decide ((0 : Int) ≤ (i : Int)) = true := decide_eq_true (by omega)
  have hi3 : decide ((i : Int) ≤ 3) = true := decide_eq_true (by omega)
  have a0 := (heap_at k1 0).1
  have a1 := (heap_at k1 1).1
  have v0 := (heap_at k0 0).1
  have v1 := (heap_at k0 1).1
  have v2 := (heap_at k0 2).1
  have v3 := (heap_at k0 3).1
  clear hI hS hz b1 AT k0 k1 k2 k3
  go_enter Try.func13, Try.ntmps13
  go_wp2_with (go_at_call 26; refine (l01In_any _ _ _ _).mono ?_; rintro e w9 ⟨rfl, rfl⟩)
  rw [← hW]
  clear hW
  refine (unhide CO).mono ?_
  rintro e w1 ⟨⟨la1, ln1, lc1⟩, ⟨fa1, fn1, fc1⟩, ⟨sa1, sn1, sc1⟩, hs1, rfl, hO, hb1⟩
  clear a0 a1 v0 v1 v2 v3 hi0 hi3 CO
  have hl4 : hs1.length = 4 := by rw [hO.reads.len.2]; exact (unhide HS).ses
  have hih : i < hs1.length := by omega
  obtain ⟨g, hsa, hsn, hgB, hgw, c0, c1, c2, hwo, hid, hxd⟩ := hO.sesAt hih
  simp only at hsa hsn
  rw [hl4] at hsn
  subst hsa hsn
  unfold vzC
  simp only
  have STP := hide (show stepV d ⟨1, (i : Int), key, tu, val⟩ = sesV d ⟨1, (i : Int), key, tu, val⟩ i hs1[i].X by
    unfold stepV
    rw [if_neg (by simp), if_neg (by simp only; omega), hxd]
    congr 1
    rw [show ((i : Nat) : Int).toNat = i by omega, List.getD_eq_getElem?_getD, List.getElem?_eq_getElem hid]
    rfl)
  have XL := hide (show hs1[i].X.ws.length ≤ 8 by rw [hxd]; exact (unhide HS).ws _ (List.getElem_mem hid))
  have SX := hide hxd
  clear hxd
  generalize hx1 : hs1[i] = x at *
  have HX := hide hx1
  clear hx1
  obtain ⟨⟨o, t, wl⟩, ⟨wa, wn, wc⟩⟩ := x
  simp only at c0 c1 c2 hwo STP XL
  have bA : Below w1.heap.size w1 ((w1.alloc (.cells #[.int .i64 d.next, .slice la1 ln1 lc1, .slice fa1 fn1 fc1, .slice (some ⟨g, 0, none⟩) 4 sc1] 31)).alloc (.cells #[.bool o, .int .i64 t, .slice wa wn wc] 36)) := ((Below.refl _ _).alloc (Nat.le_refl _) _).alloc (by simp) _
  obtain ⟨-, k6, k7, z7⟩ := twoBx (w := w1) (c1 := #[.int .i64 d.next, .slice la1 ln1 lc1, .slice fa1 fn1 fc1, .slice (some ⟨g, 0, none⟩) 4 sc1]) (t1 := 31) (c2 := #[.bool o, .int .i64 t, .slice wa wn wc]) (t2 := 36) rfl
  have hW1 := hb1.size
  have NBS := hide (fun q hq => (hO.so.lt q hq).2)
  have NBV := hide (fun q hq => (hO.vo.lt q hq).2)
  have NBF := hide (fun q hq => (hO.fo.lt q hq).2)
  have OU := hide (hO.below bA)
  have BU := hide (hb1.trans (bA.mono hW1))
  have OX := hide (rb_ownsRow_below hwo bA)
  have K6 := hide k6
  have K7 := hide k7
  have hb6 : W.heap.size ≤ w1.heap.size := hW1
  have a1 : (w1.alloc (.cells #[.int .i64 d.next, .slice la1 ln1 lc1, .slice fa1 fn1 fc1, .slice (some ⟨g, 0, none⟩) 4 sc1] 31)).cell? ⟨w.heap.size + 1, 1, none⟩ = some (.int .i64 (i : Int)) := (((Below.refl w1.heap.size w1).alloc (Nat.le_refl _) (.cells #[.int .i64 d.next, .slice la1 ln1 lc1, .slice fa1 fn1 fc1, .slice (some ⟨g, 0, none⟩) 4 sc1] 31)).cell (p := ⟨w.heap.size + 1, 1, none⟩) (by show w.heap.size + 1 < w1.heap.size; omega)).trans ((heap_at ((hb1.block (w.heap.size + 1) hz1).trans (unhide K1)) 1).1)
  have d0 := (((Below.refl w1.heap.size w1).alloc (Nat.le_refl _) (.cells #[.int .i64 d.next, .slice la1 ln1 lc1, .slice fa1 fn1 fc1, .slice (some ⟨g, 0, none⟩) 4 sc1] 31)).cell (p := ⟨g, i * 3, none⟩) hgw).trans c0
  have d1 := (((Below.refl w1.heap.size w1).alloc (Nat.le_refl _) (.cells #[.int .i64 d.next, .slice la1 ln1 lc1, .slice fa1 fn1 fc1, .slice (some ⟨g, 0, none⟩) 4 sc1] 31)).cell (p := ⟨g, i * 3 + 1, none⟩) hgw).trans c1
  have d2 := (((Below.refl w1.heap.size w1).alloc (Nat.le_refl _) (.cells #[.int .i64 d.next, .slice la1 ln1 lc1, .slice fa1 fn1 fc1, .slice (some ⟨g, 0, none⟩) 4 sc1] 31)).cell (p := ⟨g, i * 3 + 2, none⟩) hgw).trans c2
  have hin : (i : Int) < 4 := by omega
  clear hO hwo bA k6 k7 c0 c1 c2 hb1 z7
  go_upto_region 7 with fail
  clear d0 d1 d2 a1 hin
  generalize (w1.alloc (.cells #[.int .i64 d.next, .slice la1 ln1 lc1, .slice fa1 fn1 fc1, .slice (some ⟨g, 0, none⟩) 4 sc1] 31)).alloc (.cells #[.bool o, .int .i64 t, .slice wa wn wc] 36) = u at *
  generalize hb6e : w1.heap.size = b6 at *
  clear hb6e
  cases o with
  | true =>
    have kv := ((unhide BU).block w.heap.size hz0).trans (unhide K0)
    have v0 := (heap_at kv 0).1
    have v1 := (heap_at kv 1).1
    have v2 := (heap_at kv 2).1
    have v3 := (heap_at kv 3).1
    have ka := ((unhide BU).block (w.heap.size + 1) hz1).trans (unhide K1)
    have a0 := (heap_at ka 0).1
    have a1 := (heap_at ka 1).1
    have a2 := (heap_at ka 2).1
    have a3 := (heap_at ka 3).1
    have a4 := (heap_at ka 4).1
    have ky := ((unhide BU).block (w.heap.size + 1 + 1) hz2).trans (unhide K2)
    have y0 := (heap_at ky 0).1
    have y1 := (heap_at ky 1).1
    have y2 := (heap_at ky 2).1
    have y3 := (heap_at ky 3).1
    have yf0 := (heap_at ky 0).2
    have yf1 := (heap_at ky 1).2
    have yf2 := (heap_at ky 2).2
    have yf3 := (heap_at ky 3).2
    have kt := ((unhide BU).block (w.heap.size + 1 + 1 + 1) hz3).trans (unhide K3)
    have t0 := (heap_at kt 0).1
    have t1 := (heap_at kt 1).1
    have t2 := (heap_at kt 2).1
    have t3 := (heap_at kt 3).1
    have tf0 := (heap_at kt 0).2
    have tf1 := (heap_at kt 1).2
    have tf2 := (heap_at kt 2).2
    have tf3 := (heap_at kt 3).2
    have x0 := (heap_at (unhide K7) 0).1
    have RES := hide (show StRes ⟨la, ln, lc⟩ ⟨fa, fn, fc⟩ ⟨sa, sn, sc⟩ hs d (stepV d ⟨1, (i : Int), key, tu, val⟩) w (.returned (.tuple #[.agg #[.int .i64 d.next, .slice la ln lc, .slice fa fn fc, .slice sa sn sc], .agg #[.int .i64 8, .int .i64 0, .string ⟨#[]⟩, .slice none 0 0]])) ((((((((u.setCell ⟨w.heap.size + 1 + 1, 0, none⟩ (.int .i64 d.next)).setCell ⟨w.heap.size + 1 + 1, 1, none⟩ (.slice la ln lc)).setCell ⟨w.heap.size + 1 + 1, 2, none⟩ (.slice fa fn fc)).setCell ⟨w.heap.size + 1 + 1, 3, none⟩ (.slice sa sn sc)).setCell ⟨w.heap.size + 1 + 1 + 1, 0, none⟩ (.int .i64 8)).setCell ⟨w.heap.size + 1 + 1 + 1, 1, none⟩ (.int .i64 0)).setCell ⟨w.heap.size + 1 + 1 + 1, 2, none⟩ (.string ⟨#[]⟩)).setCell ⟨w.heap.size + 1 + 1 + 1, 3, none⟩ (.slice none 0 0)) from st_old (unhide HI) (bel_sv4 (bel_sv4 ((unhide BH).trans ((unhide BU).mono (unhide BH).size)) (by omega) _ _ _ _) (by omega) _ _ _ _) (by rw [unhide STP]; unfold sesV; rw [if_pos rfl, if_pos rfl]))
    go_wp2_with fail
    refine bodyPost_ret (v := .tuple #[.agg #[.int .i64 d.next, .slice la ln lc, .slice fa fn fc, .slice sa sn sc], .agg #[.int .i64 8, .int .i64 0, .string ⟨#[]⟩, .slice none 0 0]]) (by simp [results, Try.results13, go_sem, *]) rfl ?_
    exact unhide RES
  | false =>
    have kv := ((unhide BU).block w.heap.size hz0).trans (unhide K0)
    have v0 := (heap_at kv 0).1
    have v1 := (heap_at kv 1).1
    have v2 := (heap_at kv 2).1
    have v3 := (heap_at kv 3).1
    have ka := ((unhide BU).block (w.heap.size + 1) hz1).trans (unhide K1)
    have a0 := (heap_at ka 0).1
    have a1 := (heap_at ka 1).1
    have a2 := (heap_at ka 2).1
    have a3 := (heap_at ka 3).1
    have a4 := (heap_at ka 4).1
    have ky := ((unhide BU).block (w.heap.size + 1 + 1) hz2).trans (unhide K2)
    have y0 := (heap_at ky 0).1
    have y1 := (heap_at ky 1).1
    have y2 := (heap_at ky 2).1
    have y3 := (heap_at ky 3).1
    have yf0 := (heap_at ky 0).2
    have yf1 := (heap_at ky 1).2
    have yf2 := (heap_at ky 2).2
    have yf3 := (heap_at ky 3).2
    have kt := ((unhide BU).block (w.heap.size + 1 + 1 + 1) hz3).trans (unhide K3)
    have t0 := (heap_at kt 0).1
    have t1 := (heap_at kt 1).1
    have t2 := (heap_at kt 2).1
    have t3 := (heap_at kt 3).1
    have tf0 := (heap_at kt 0).2
    have tf1 := (heap_at kt 1).2
    have tf2 := (heap_at kt 2).2
    have tf3 := (heap_at kt 3).2
    have x0 := (heap_at (unhide K7) 0).1
    by_cases hnn : d.next = 1000
    · have hn2 : (d.next == 1000) = true := by simpa using hnn
      have ST2 := hide (show stepV d ⟨1, (i : Int), key, tu, val⟩ = (d, repV 7 0) by rw [unhide STP]; unfold sesV; rw [if_pos rfl, if_neg (by simp), if_pos hnn])
      clear hnn
      have RES := hide (show StRes ⟨la, ln, lc⟩ ⟨fa, fn, fc⟩ ⟨sa, sn, sc⟩ hs d (stepV d ⟨1, (i : Int), key, tu, val⟩) w (.returned (.tuple #[.agg #[.int .i64 d.next, .slice la ln lc, .slice fa fn fc, .slice sa sn sc], .agg #[.int .i64 7, .int .i64 0, .string ⟨#[]⟩, .slice none 0 0]])) ((((((((u.setCell ⟨w.heap.size + 1 + 1, 0, none⟩ (.int .i64 d.next)).setCell ⟨w.heap.size + 1 + 1, 1, none⟩ (.slice la ln lc)).setCell ⟨w.heap.size + 1 + 1, 2, none⟩ (.slice fa fn fc)).setCell ⟨w.heap.size + 1 + 1, 3, none⟩ (.slice sa sn sc)).setCell ⟨w.heap.size + 1 + 1 + 1, 0, none⟩ (.int .i64 7)).setCell ⟨w.heap.size + 1 + 1 + 1, 1, none⟩ (.int .i64 0)).setCell ⟨w.heap.size + 1 + 1 + 1, 2, none⟩ (.string ⟨#[]⟩)).setCell ⟨w.heap.size + 1 + 1 + 1, 3, none⟩ (.slice none 0 0)) from st_old (unhide HI) (bel_sv4 (bel_sv4 ((unhide BH).trans ((unhide BU).mono (unhide BH).size)) (by omega) _ _ _ _) (by omega) _ _ _ _) (by rw [unhide ST2]))
      go_wp2_with fail
      refine bodyPost_ret (v := .tuple #[.agg #[.int .i64 d.next, .slice la ln lc, .slice fa fn fc, .slice sa sn sc], .agg #[.int .i64 7, .int .i64 0, .string ⟨#[]⟩, .slice none 0 0]]) (by simp [results, Try.results13, go_sem, *]) rfl ?_
      exact unhide RES
    · have hn2 : (d.next == 1000) = false := by simpa using hnn
      have ST2 := hide (show stepV d ⟨1, (i : Int), key, tu, val⟩ = (⟨d.next + 1, d.list, d.fen, d.ses.set i ⟨true, d.next, []⟩⟩, repV 0 d.next) by rw [unhide STP]; unfold sesV; rw [if_pos rfl, if_neg (by simp), if_neg hnn])
      clear hnn
      have z3 := (heap_at (unhide K6) 3).1
      have bL : Below u.heap.size u (u.alloc (.cells #[] 55)) := (Below.refl _ _).alloc (Nat.le_refl _) _
      have OL := (unhide OU).below bL
      have NL := gd_base (nil_lit (w := u) 55 4) (unhide BU).size
      have hih : i < hs1.length := by omega
      obtain ⟨g2, hg2, -, ⟨c0, c1, c2⟩, hfz, OP, WP, hki⟩ := OL.put hih ⟨⟨true, d.next, []⟩, ⟨some ⟨u.heap.size, 0, none⟩, 0, 0⟩⟩ NL (fun q hq => by
        injection hq with hq
        subst hq
        exact ⟨fun hn => Nat.lt_irrefl _ ((unhide OU).so.lt _ hn).2, fun e => Nat.lt_irrefl _ ((unhide OU).vo.lt _ e).2⟩)
      simp only at hg2
      injection hg2 with hg2
      injection hg2 with hg2 _ _
      subst hg2
      rw [unhide HX] at c0 c1 c2
      simp only at c0 c1 c2 OP WP
      have hf0 := hfz (i * 3)
      have hf1 := hfz (i * 3 + 1)
      have hf2 := hfz (i * 3 + 1 + 1)
      obtain ⟨cur, hcur⟩ := hki
      have BL := (unhide BU).trans (bL.mono (unhide BU).size)
      have BP := hide (BL.trans (WrB.below WP (fun k e => by rw [e]; exact hgB) BL.size))
      have K6L := (bL.block b6 (blk_lt (unhide K6))).trans (unhide K6)
      have h6g : b6 ≠ g := fun e => by rw [e, hcur] at K6L; injection K6L with K6L; injection K6L with _ K6L _; exact absurd K6L (by decide)
      have K6P := hide ((WP.block b6 (blk_lt K6L) h6g).trans K6L)
      have OPh := hide OP
      have a1L := (bL.cell (p := ⟨w.heap.size + 1, 1, none⟩) (cell_lt a1)).trans a1
      have v0L := (bL.cell (p := ⟨w.heap.size, 0, none⟩) (cell_lt v0)).trans v0
      have z3L := (bL.cell (p := ⟨b6, 3, none⟩) (cell_lt z3)).trans z3
      have K6Q := (unhide K6P)
      have hin : (i : Int) < 4 := by omega
      have hW13 : WrB (fun k => k = b6) ((((u.alloc (.cells #[] 55)).setCell ⟨g, i * 3, none⟩ (.bool true)).setCell ⟨g, i * 3 + 1, none⟩ (.int .i64 d.next)).setCell ⟨g, i * 3 + 1 + 1, none⟩ (.slice (some ⟨u.heap.size, 0, none⟩) 0 0)) (((((u.alloc (.cells #[] 55)).setCell ⟨g, i * 3, none⟩ (.bool true)).setCell ⟨g, i * 3 + 1, none⟩ (.int .i64 d.next)).setCell ⟨g, i * 3 + 1 + 1, none⟩ (.slice (some ⟨u.heap.size, 0, none⟩) 0 0)).setCell ⟨b6, 0, none⟩ (.int .i64 (d.next + 1))) := set1_wr _ _ _ _
      have OF := hide (show VzOwn (((((u.alloc (.cells #[] 55)).setCell ⟨g, i * 3, none⟩ (.bool true)).setCell ⟨g, i * 3 + 1, none⟩ (.int .i64 d.next)).setCell ⟨g, i * 3 + 1 + 1, none⟩ (.slice (some ⟨u.heap.size, 0, none⟩) 0 0)).setCell ⟨b6, 0, none⟩ (.int .i64 (d.next + 1))) W.heap.size ⟨la1, ln1, lc1⟩ ⟨fa1, fn1, fc1⟩ ⟨some ⟨g, 0, none⟩, 4, sc1⟩ _ ⟨d.next + 1, d.list, d.fen, d.ses.set i ⟨true, d.next, []⟩⟩ from (let h := OP.box K6Q (by decide) (by decide) (by decide) hW13; ⟨h.vo, h.fo, h.so, h.ss, h.far⟩))
      have BF := hide (show Below w.heap.size w (((((u.alloc (.cells #[] 55)).setCell ⟨g, i * 3, none⟩ (.bool true)).setCell ⟨g, i * 3 + 1, none⟩ (.int .i64 d.next)).setCell ⟨g, i * 3 + 1 + 1, none⟩ (.slice (some ⟨u.heap.size, 0, none⟩) 0 0)).setCell ⟨b6, 0, none⟩ (.int .i64 (d.next + 1))) from ((unhide BH).trans ((unhide BP).mono (unhide BH).size)).trans (WrB.below hW13 (fun k e => by rw [e]; omega) (Nat.le_trans (unhide BH).size (unhide BP).size)))
      have BF2 := hide (show Below W.heap.size W (((((u.alloc (.cells #[] 55)).setCell ⟨g, i * 3, none⟩ (.bool true)).setCell ⟨g, i * 3 + 1, none⟩ (.int .i64 d.next)).setCell ⟨g, i * 3 + 1 + 1, none⟩ (.slice (some ⟨u.heap.size, 0, none⟩) 0 0)).setCell ⟨b6, 0, none⟩ (.int .i64 (d.next + 1))) from (unhide BP).trans (WrB.below hW13 (fun k e => by rw [e]; omega) (unhide BP).size))
      have K6F := hide (show (((((u.alloc (.cells #[] 55)).setCell ⟨g, i * 3, none⟩ (.bool true)).setCell ⟨g, i * 3 + 1, none⟩ (.int .i64 d.next)).setCell ⟨g, i * 3 + 1 + 1, none⟩ (.slice (some ⟨u.heap.size, 0, none⟩) 0 0)).setCell ⟨b6, 0, none⟩ (.int .i64 (d.next + 1))).heap[b6]? = some (.cells #[.int .i64 (d.next + 1), .slice la1 ln1 lc1, .slice fa1 fn1 fc1, .slice (some ⟨g, 0, none⟩) 4 sc1] 31 (0, 0)) by have := heap_set K6Q 0 (.int .i64 (d.next + 1)); simpa using this)
      have z0P := (heap_at K6Q 0).1
      have zf0P := (heap_at K6Q 0).2
      have hwr : IntKind.i64.wrap (d.next + 1) = d.next + 1 := by rw [IntKind.wrap_i64]; omega
      clear OP WP hW13 K6Q K6L BL bL OL NL hfz hcur kv ka ky kt
      go_upto_region 13 with fail
      go_upto_region 14 with fail
      generalize ((((u.alloc (.cells #[] 55)).setCell ⟨g, i * 3, none⟩ (.bool true)).setCell ⟨g, i * 3 + 1, none⟩ (.int .i64 d.next)).setCell ⟨g, i * 3 + 1 + 1, none⟩ (.slice (some ⟨u.heap.size, 0, none⟩) 0 0)).setCell ⟨b6, 0, none⟩ (.int .i64 (d.next + 1)) = uf at *
      clear v0 v1 v2 v3 a0 a1 a2 a3 a4 y0 y1 y2 y3 yf0 yf1 yf2 yf3 t0 t1 t2 t3 tf0 tf1 tf2 tf3 x0 c0 c1 c2 hf0 hf1 hf2 a1L v0L z3L z3 z0P zf0P
      have kv := ((unhide BF2).block w.heap.size hz0).trans (unhide K0)
      have v0 := (heap_at kv 0).1
      have v1 := (heap_at kv 1).1
      have v2 := (heap_at kv 2).1
      have v3 := (heap_at kv 3).1
      have z0 := (heap_at (unhide K6F) 0).1
      have z1 := (heap_at (unhide K6F) 1).1
      have z2 := (heap_at (unhide K6F) 2).1
      have z3 := (heap_at (unhide K6F) 3).1
      have N2 := hide (((unhide BF2).block (w.heap.size + 1 + 1) hz2).trans (unhide K2))
      have N3 := hide (((unhide BF2).block (w.heap.size + 1 + 1 + 1) hz3).trans (unhide K3))
      have h60 : b6 < uf.heap.size := blk_lt (unhide K6F)
      have h6W : W.heap.size ≤ uf.heap.size := (unhide BF2).size
      have LD := hide (show ∀ v : World, (∀ i, i ≠ w.heap.size + 1 + 1 → i ≠ w.heap.size + 1 + 1 + 1 → i < uf.heap.size → v.heap[i]? = uf.heap[i]?) → (fun u => u.cell? ⟨b6, 0, none⟩ = some (.int .i64 (d.next + 1)) ∧ u.cell? ⟨b6, 1, none⟩ = some (.slice la1 ln1 lc1) ∧ u.cell? ⟨b6, 2, none⟩ = some (.slice fa1 fn1 fc1) ∧ u.cell? ⟨b6, 3, none⟩ = some (.slice (some ⟨g, 0, none⟩) 4 sc1) ∧ u.cell? ⟨w.heap.size, 0, none⟩ = some (.int .i64 d.next)) v from fun v hv => ⟨(World.cell?_of_block (a := ⟨b6, 0, none⟩) (hv b6 (by omega) (by omega) h60)).trans z0, (World.cell?_of_block (a := ⟨b6, 1, none⟩) (hv b6 (by omega) (by omega) h60)).trans z1, (World.cell?_of_block (a := ⟨b6, 2, none⟩) (hv b6 (by omega) (by omega) h60)).trans z2, (World.cell?_of_block (a := ⟨b6, 3, none⟩) (hv b6 (by omega) (by omega) h60)).trans z3, (World.cell?_of_block (a := ⟨w.heap.size, 0, none⟩) (hv w.heap.size (by omega) (by omega) (by omega))).trans v0⟩)
      have D0 := hide (show ∀ i, i ≠ w.heap.size + 1 + 1 → i ≠ w.heap.size + 1 + 1 + 1 → i < uf.heap.size → uf.drew.heap[i]? = uf.heap[i]? from fun _ _ _ _ => rfl)
      have ZD0 := hide (show uf.heap.size ≤ uf.drew.heap.size from Nat.le_refl _)
      have BD0 := hide (show Below w.heap.size w uf.drew from (unhide BF).drew)
      replace N2 := hide (show uf.drew.heap[w.heap.size + 1 + 1]? = _ from unhide N2)
      replace N3 := hide (show uf.drew.heap[w.heap.size + 1 + 1 + 1]? = _ from unhide N3)
      go_upto_region 14 with fail
      refine wp_region_held_drew (S := (fun u => u.cell? ⟨b6, 0, none⟩ = some (.int .i64 (d.next + 1)) ∧ u.cell? ⟨b6, 1, none⟩ = some (.slice la1 ln1 lc1) ∧ u.cell? ⟨b6, 2, none⟩ = some (.slice fa1 fn1 fc1) ∧ u.cell? ⟨b6, 3, none⟩ = some (.slice (some ⟨g, 0, none⟩) 4 sc1) ∧ u.cell? ⟨w.heap.size, 0, none⟩ = some (.int .i64 d.next))) (by kernel_rfl) (unhide LD _ (unhide D0)) (fun hHeld => ?_)
      generalize uf.drew = ud at *
      refine anyH_take 0 59 (v := ?v1) rfl rfl (by kernel_rfl) (by kernel_rfl) (by kernel_rfl) (fun _ _ _ h => h) (by rfl) ?h1 hHeld ?r1
      case h1 => (intro w hSw; (try dsimp only at hSw); go_simp; try (with_reducible rfl))
      simp only [Act.put, List.setIfInBounds_toArray, List.set_cons_zero, List.set_cons_succ]
      refine anyH_take 1 60 (v := ?v2) rfl rfl (by kernel_rfl) (by kernel_rfl) (by kernel_rfl) (fun _ _ _ h => h) (by rfl) ?h2 hHeld ?r2
      case h2 => (intro w hSw; (try dsimp only at hSw); go_simp; try (with_reducible rfl))
      simp only [Act.put, List.setIfInBounds_toArray, List.set_cons_zero, List.set_cons_succ]
      refine anyH_take 2 61 (v := ?v3) rfl rfl (by kernel_rfl) (by kernel_rfl) (by kernel_rfl) (fun _ _ _ h => h) (by rfl) ?h3 hHeld ?r3
      case h3 => (intro w hSw; (try dsimp only at hSw); go_simp; try (with_reducible rfl))
      simp only [Act.put, List.setIfInBounds_toArray, List.set_cons_zero, List.set_cons_succ]
      refine anyH_take 3 62 (v := ?v4) rfl rfl (by kernel_rfl) (by kernel_rfl) (by kernel_rfl) (fun _ _ _ h => h) (by rfl) ?h4 hHeld ?r4
      case h4 => (intro w hSw; (try dsimp only at hSw); go_simp; try (with_reducible rfl))
      simp only [Act.put, List.setIfInBounds_toArray, List.set_cons_zero, List.set_cons_succ]
      refine wpAnyH_ready (rs := [4]) (by kernel_rfl) (by simp) ?_
      refine AllReadyH.cons rfl (fun K hK => ?_) AllReadyH.nil
      have c0 := (heap_at (unhide N2) 0).1
      have c1 := (heap_at (unhide N2) 1).1
      have c2 := (heap_at (unhide N2) 2).1
      have c3 := (heap_at (unhide N2) 3).1
      have cf0 := (heap_at (unhide N2) 0).2
      have cf1 := (heap_at (unhide N2) 1).2
      have cf2 := (heap_at (unhide N2) 2).2
      have cf3 := (heap_at (unhide N2) 3).2
      have hw : WrB (fun i => i = w.heap.size + 1 + 1) ud ((((ud.setCell ⟨w.heap.size + 1 + 1, 0, none⟩ (.int .i64 (d.next + 1))).setCell ⟨w.heap.size + 1 + 1, 1, none⟩ (.slice la1 ln1 lc1)).setCell ⟨w.heap.size + 1 + 1, 2, none⟩ (.slice fa1 fn1 fc1)).setCell ⟨w.heap.size + 1 + 1, 3, none⟩ (.slice (some ⟨g, 0, none⟩) 4 sc1)) := sv4_wr ud (w.heap.size + 1 + 1) (.int .i64 (d.next + 1)) (.slice la1 ln1 lc1) (.slice fa1 fn1 fc1) (.slice (some ⟨g, 0, none⟩) 4 sc1)
      have D1 := hide (show ∀ i, i ≠ w.heap.size + 1 + 1 → i ≠ w.heap.size + 1 + 1 + 1 → i < uf.heap.size → ((((ud.setCell ⟨w.heap.size + 1 + 1, 0, none⟩ (.int .i64 (d.next + 1))).setCell ⟨w.heap.size + 1 + 1, 1, none⟩ (.slice la1 ln1 lc1)).setCell ⟨w.heap.size + 1 + 1, 2, none⟩ (.slice fa1 fn1 fc1)).setCell ⟨w.heap.size + 1 + 1, 3, none⟩ (.slice (some ⟨g, 0, none⟩) 4 sc1)).heap[i]? = uf.heap[i]? from fun i h1 h2 h3 => (hw.block i (Nat.lt_of_lt_of_le h3 (unhide ZD0)) (by first | exact h1 | exact h2)).trans (unhide D0 i h1 h2 h3))
      have ZD1 := hide (show uf.heap.size ≤ ((((ud.setCell ⟨w.heap.size + 1 + 1, 0, none⟩ (.int .i64 (d.next + 1))).setCell ⟨w.heap.size + 1 + 1, 1, none⟩ (.slice la1 ln1 lc1)).setCell ⟨w.heap.size + 1 + 1, 2, none⟩ (.slice fa1 fn1 fc1)).setCell ⟨w.heap.size + 1 + 1, 3, none⟩ (.slice (some ⟨g, 0, none⟩) 4 sc1)).heap.size from Nat.le_trans (unhide ZD0) hw.size)
      have Ka := hide (show ((((ud.setCell ⟨w.heap.size + 1 + 1, 0, none⟩ (.int .i64 (d.next + 1))).setCell ⟨w.heap.size + 1 + 1, 1, none⟩ (.slice la1 ln1 lc1)).setCell ⟨w.heap.size + 1 + 1, 2, none⟩ (.slice fa1 fn1 fc1)).setCell ⟨w.heap.size + 1 + 1, 3, none⟩ (.slice (some ⟨g, 0, none⟩) 4 sc1)).heap[w.heap.size + 1 + 1]? = some (.cells #[.int .i64 (d.next + 1), .slice la1 ln1 lc1, .slice fa1 fn1 fc1, .slice (some ⟨g, 0, none⟩) 4 sc1] 31 (0, 0)) from sv4_heap (unhide N2) (.int .i64 (d.next + 1)) (.slice la1 ln1 lc1) (.slice fa1 fn1 fc1) (.slice (some ⟨g, 0, none⟩) 4 sc1))
      have BD1 := hide (show Below w.heap.size w ((((ud.setCell ⟨w.heap.size + 1 + 1, 0, none⟩ (.int .i64 (d.next + 1))).setCell ⟨w.heap.size + 1 + 1, 1, none⟩ (.slice la1 ln1 lc1)).setCell ⟨w.heap.size + 1 + 1, 2, none⟩ (.slice fa1 fn1 fc1)).setCell ⟨w.heap.size + 1 + 1, 3, none⟩ (.slice (some ⟨g, 0, none⟩) 4 sc1)) from bel_sv4 (unhide BD0) (by omega) (.int .i64 (d.next + 1)) (.slice la1 ln1 lc1) (.slice fa1 fn1 fc1) (.slice (some ⟨g, 0, none⟩) 4 sc1))
      have E3 := hide ((hw.block (w.heap.size + 1 + 1 + 1) (blk_lt (unhide N3)) (by omega)).trans (unhide N3))
      clear hw
      go_simp
      refine hK.out _ _ (unhide LD _ (unhide D1)) (fun hHeld => ?_)
      clear hK K
      clear c0 c1 c2 c3 cf0 cf1 cf2 cf3
      generalize ((((ud.setCell ⟨w.heap.size + 1 + 1, 0, none⟩ (.int .i64 (d.next + 1))).setCell ⟨w.heap.size + 1 + 1, 1, none⟩ (.slice la1 ln1 lc1)).setCell ⟨w.heap.size + 1 + 1, 2, none⟩ (.slice fa1 fn1 fc1)).setCell ⟨w.heap.size + 1 + 1, 3, none⟩ (.slice (some ⟨g, 0, none⟩) 4 sc1)) = ue at *
      refine wpAnyH_ready (rs := [5]) (by kernel_rfl) (by simp) ?_
      refine AllReadyH.cons rfl (fun K hK => ?_) AllReadyH.nil
      have c0 := (heap_at (unhide E3) 0).1
      have c1 := (heap_at (unhide E3) 1).1
      have c2 := (heap_at (unhide E3) 2).1
      have c3 := (heap_at (unhide E3) 3).1
      have cf0 := (heap_at (unhide E3) 0).2
      have cf1 := (heap_at (unhide E3) 1).2
      have cf2 := (heap_at (unhide E3) 2).2
      have cf3 := (heap_at (unhide E3) 3).2
      have hw : WrB (fun i => i = w.heap.size + 1 + 1 + 1) ue ((((ue.setCell ⟨w.heap.size + 1 + 1 + 1, 0, none⟩ (.int .i64 0)).setCell ⟨w.heap.size + 1 + 1 + 1, 1, none⟩ (.int .i64 d.next)).setCell ⟨w.heap.size + 1 + 1 + 1, 2, none⟩ (.string ⟨#[]⟩)).setCell ⟨w.heap.size + 1 + 1 + 1, 3, none⟩ (.slice none 0 0)) := sv4_wr ue (w.heap.size + 1 + 1 + 1) (.int .i64 0) (.int .i64 d.next) (.string ⟨#[]⟩) (.slice none 0 0)
      have D2 := hide (show ∀ i, i ≠ w.heap.size + 1 + 1 → i ≠ w.heap.size + 1 + 1 + 1 → i < uf.heap.size → ((((ue.setCell ⟨w.heap.size + 1 + 1 + 1, 0, none⟩ (.int .i64 0)).setCell ⟨w.heap.size + 1 + 1 + 1, 1, none⟩ (.int .i64 d.next)).setCell ⟨w.heap.size + 1 + 1 + 1, 2, none⟩ (.string ⟨#[]⟩)).setCell ⟨w.heap.size + 1 + 1 + 1, 3, none⟩ (.slice none 0 0)).heap[i]? = uf.heap[i]? from fun i h1 h2 h3 => (hw.block i (Nat.lt_of_lt_of_le h3 (unhide ZD1)) (by first | exact h1 | exact h2)).trans (unhide D1 i h1 h2 h3))
      have ZD2 := hide (show uf.heap.size ≤ ((((ue.setCell ⟨w.heap.size + 1 + 1 + 1, 0, none⟩ (.int .i64 0)).setCell ⟨w.heap.size + 1 + 1 + 1, 1, none⟩ (.int .i64 d.next)).setCell ⟨w.heap.size + 1 + 1 + 1, 2, none⟩ (.string ⟨#[]⟩)).setCell ⟨w.heap.size + 1 + 1 + 1, 3, none⟩ (.slice none 0 0)).heap.size from Nat.le_trans (unhide ZD1) hw.size)
      have Kb := hide (show ((((ue.setCell ⟨w.heap.size + 1 + 1 + 1, 0, none⟩ (.int .i64 0)).setCell ⟨w.heap.size + 1 + 1 + 1, 1, none⟩ (.int .i64 d.next)).setCell ⟨w.heap.size + 1 + 1 + 1, 2, none⟩ (.string ⟨#[]⟩)).setCell ⟨w.heap.size + 1 + 1 + 1, 3, none⟩ (.slice none 0 0)).heap[w.heap.size + 1 + 1 + 1]? = some (.cells #[.int .i64 0, .int .i64 d.next, .string ⟨#[]⟩, .slice none 0 0] 49 (0, 0)) from sv4_heap (unhide E3) (.int .i64 0) (.int .i64 d.next) (.string ⟨#[]⟩) (.slice none 0 0))
      have BD2 := hide (show Below w.heap.size w ((((ue.setCell ⟨w.heap.size + 1 + 1 + 1, 0, none⟩ (.int .i64 0)).setCell ⟨w.heap.size + 1 + 1 + 1, 1, none⟩ (.int .i64 d.next)).setCell ⟨w.heap.size + 1 + 1 + 1, 2, none⟩ (.string ⟨#[]⟩)).setCell ⟨w.heap.size + 1 + 1 + 1, 3, none⟩ (.slice none 0 0)) from bel_sv4 (unhide BD1) (by omega) (.int .i64 0) (.int .i64 d.next) (.string ⟨#[]⟩) (.slice none 0 0))
      have Kc := hide ((hw.block (w.heap.size + 1 + 1) (blk_lt (unhide Ka)) (by omega)).trans (unhide Ka))
      clear hw
      go_simp
      refine hK.out _ _ (unhide LD _ (unhide D2)) (fun hHeld => ?_)
      clear hK K
      clear c0 c1 c2 c3 cf0 cf1 cf2 cf3
      generalize ((((ue.setCell ⟨w.heap.size + 1 + 1 + 1, 0, none⟩ (.int .i64 0)).setCell ⟨w.heap.size + 1 + 1 + 1, 1, none⟩ (.int .i64 d.next)).setCell ⟨w.heap.size + 1 + 1 + 1, 2, none⟩ (.string ⟨#[]⟩)).setCell ⟨w.heap.size + 1 + 1 + 1, 3, none⟩ (.slice none 0 0)) = ug at *
      refine wpAnyH_done (by kernel_rfl) ?_ _
      have r0 := (heap_at (unhide Kc) 0).1
      have r1 := (heap_at (unhide Kc) 1).1
      have r2 := (heap_at (unhide Kc) 2).1
      have r3 := (heap_at (unhide Kc) 3).1
      have q0 := (heap_at (unhide Kb) 0).1
      have q1 := (heap_at (unhide Kb) 1).1
      have q2 := (heap_at (unhide Kb) 2).1
      have q3 := (heap_at (unhide Kb) 3).1
      have OG := (unhide OF).wr (P := fun i => i = w.heap.size + 1 + 1 ∨ i = w.heap.size + 1 + 1 + 1) (w' := ug) ⟨(unhide BD2).os.trans (unhide BF).os.symm, (unhide BD2).tape.trans (unhide BF).tape.symm, (unhide BD2).output.trans (unhide BF).output.symm, unhide ZD2, fun i hi hp => unhide D2 i (fun e => hp (.inl e)) (fun e => hp (.inr e)) hi⟩ (fun i e => by rcases e with e | e <;> omega)
      have RES := hide (show StRes ⟨la, ln, lc⟩ ⟨fa, fn, fc⟩ ⟨sa, sn, sc⟩ hs d (stepV d ⟨1, (i : Int), key, tu, val⟩) w (.returned (.tuple #[.agg #[.int .i64 (d.next + 1), .slice la1 ln1 lc1, .slice fa1 fn1 fc1, .slice (some ⟨g, 0, none⟩) 4 sc1], .agg #[.int .i64 0, .int .i64 d.next, .string ⟨#[]⟩, .slice none 0 0]])) ug from st_own OG (Nat.le_of_lt hz0) (unhide BD2) (unhide ST2))
      clear hHeld LD D0 D1 D2 N2 N3 E3 Ka Kb Kc
      go_wp2_with fail
      refine bodyPost_ret (v := .tuple #[.agg #[.int .i64 (d.next + 1), .slice la1 ln1 lc1, .slice fa1 fn1 fc1, .slice (some ⟨g, 0, none⟩) 4 sc1], .agg #[.int .i64 0, .int .i64 d.next, .string ⟨#[]⟩, .slice none 0 0]]) (by simp [results, Try.results13, go_sem, *]) rfl ?_
      exact unhide RES
end Go.Proofs.Ytodmkbnoljilpaa

namespace Go.Proofs.Ytodmkbnoljilpaa
open Go.RowKit

theorem getR_snoc (l : List EntD) (e : EntD) (k : ByteArray) (t : Int) : getR (l ++ [e]) k t = if e.k = k then ⟨0, t, e.v, []⟩ else getR l k t := by
  unfold getR
  rw [List.foldl_append]
  rfl
theorem getR_fold (k : ByteArray) (t : Int) : ∀ (l : List EntD) (r : RepD), r.time = t → r.list = [] → (l.foldl (fun r e => if e.k = k then ⟨0, t, e.v, []⟩ else r) r).time = t ∧ (l.foldl (fun r e => if e.k = k then (⟨0, t, e.v, []⟩ : RepD) else r) r).list = []
  | [], r, h1, h2 => ⟨h1, h2⟩
  | e :: l, r, h1, h2 => by
    rw [List.foldl_cons]
    by_cases h : e.k = k
    · rw [if_pos h]; exact getR_fold k t l _ rfl rfl
    · rw [if_neg h]; exact getR_fold k t l _ h1 h2
theorem getR_time (l : List EntD) (k : ByteArray) (t : Int) : (getR l k t).time = t ∧ (getR l k t).list = [] := getR_fold k t l _ rfl rfl
end Go.Proofs.Ytodmkbnoljilpaa

namespace Go.Proofs.Ytodmkbnoljilpaa
open Go.RowKit

/-- An append whose run is known. -/
theorem wpAppE {P : Program} {ops : Array Oper} {rest : List Oper} {o : Oper} {a : Act} {w : World} {Q : Exit → Act → World → Prop}
    (hg : o.guard = none) (s x : Operand) (t : TypeId) (hop : o.op = Op.call { callee := Callee.builtin Builtin.append, args := #[s, x], argTypes := #[t, t] })
    (vs vx v' : Value) (w' : World) (hs : a.eval s = vs) (hx : a.eval x = vx) (hrun : (Builtin.append_ #[t, t] o.type #[vs, vx]).run P w = .ok v' w') (h : wpList P ops Q rest (a.put o.dst v') w') :
    wpList P ops Q (o :: rest) a w :=
  wpList_plain hg fun _ hK => by
    unfold Oper.wp
    simp [execOp, hop, resolve, invoke, builtin, hs, hx, hrun, Result.andThen]
    exact hK _ _ h
end Go.Proofs.Ytodmkbnoljilpaa

namespace Go.Proofs.Ytodmkbnoljilpaa
open Go.RowKit

/-- One entry appended to a row of the call's own, and where the new row lies. -/
theorem e_app {w : World} {B : Nat} {v : Value} {es : List EntD} {d : EntD} (ho : EOwns w B v es) (hz : es.length ≤ 1000000) (hB : B ≤ w.heap.size) :
    ∃ v' w', (Builtin.append_ #[47, 47] 47 #[v, .slice (some ⟨w.heap.size, 0, none⟩) 1 1]).run Try.prog (w.alloc (.cells #[.string d.k, .string d.v] 71)) = .ok v' w' ∧ EOwns w' B v' (es ++ [d]) ∧ (w.alloc (.cells #[.string d.k, .string d.v] 71)).grownBy w' v.ownBlock ∧ (v'.ownBlock = v.ownBlock ∨ ∃ g, v'.ownBlock = some g ∧ (w.alloc (.cells #[.string d.k, .string d.v] 71)).heap.size ≤ g) := by
  obtain ⟨i0, hi0, hz0, hz1, hz2⟩ := info_parts Try.infoEntry
  obtain ⟨W, hW⟩ : ∃ W, W = w.alloc (.cells #[.string d.k, .string d.v] 71) := ⟨_, rfl⟩
  have bA : Below w.heap.size w W := by rw [hW]; exact (Below.refl _ _).alloc (Nat.le_refl _) _
  have zW : W.heap.size = w.heap.size + 1 := by rw [hW]; simp
  have hcells : ∀ j u, (ecs [d])[j]? = some u → W.cell? ((⟨w.heap.size, 0, none⟩ : Addr).add j) = some u := fun j u hu => by
    have hj : j < 2 := by simpa [ecs] using (List.getElem?_eq_some_iff.1 hu).1
    have e2 : (⟨w.heap.size, 0, none⟩ : Addr).add j = ⟨w.heap.size, j, none⟩ := by unfold Addr.add; split <;> simp_all
    rw [e2, hW]
    refine rb_cell_new rfl ?_
    match j, hj with
    | 0, _ => simpa [ecs] using hu
    | 1, _ => simpa [ecs] using hu
  have hoa : EOwns W B v es := rb_ownsRow_below ho bA
  rw [← hW]
  obtain ⟨v', w', hrun, ho', hg, _, hl⟩ := app_at (P := Try.prog) (w := W) (B := B) 47 47 71 Try.underlying47 hi0 hz0 hz1 hz2 rfl (by decide) hoa ⟨w.heap.size, 0, none⟩ 1 1 (ecs [d]) (by simp [ecs]) hcells (ecs_one _) (by unfold maxLen; omega) (by omega) (by omega) (fun _ => by omega)
  refine ⟨v', w', hrun, ?_, hg, ?_⟩
  · unfold EOwns
    rw [ecs_append, List.length_append]
    exact ho'
  · rcases hl with h | h
    · exact .inl h
    · exact .inr ⟨_, h, Nat.le_refl _⟩
theorem filt_yes {l : List EntD} {f : EntD → Bool} {j : Nat} (h : j < l.length) (hf : f l[j] = true) : (l.take (j + 1)).filter f = (l.take j).filter f ++ [l[j]] := by
  rw [rb_take_snoc l j h, List.filter_append, List.filter_cons_of_pos hf, List.filter_nil]
theorem filt_no {l : List EntD} {f : EntD → Bool} {j : Nat} (h : j < l.length) (hf : f l[j] = false) : (l.take (j + 1)).filter f = (l.take j).filter f := by
  rw [rb_take_snoc l j h, List.filter_append, List.filter_cons_of_neg (by rw [hf]; decide), List.filter_nil, List.append_nil]
theorem eowns_slice {w : World} {B : Nat} {v : Value} {es : List EntD} (h : EOwns w B v es) : ∃ a c, v = .slice a es.length c ∧ (a = none → c = 0) := by
  rcases h.2 with ⟨e, h0⟩ | ⟨g, cap, cur, e, _⟩
  · exact ⟨none, 0, by rw [e, h0], fun _ => rfl⟩
  · exact ⟨_, _, e, fun h => by cases h⟩
theorem inK_parts (fr tu k : ByteArray) : inK fr tu k = (!ltK k fr && underK k tu) := rfl
set_option maxRecDepth 100000 in
set_option maxHeartbeats 8000000 in
theorem l05Range_any (a : Option Addr) (n c : Nat) (es : List EntD) (fr tu : ByteArray) (w : World) (hR : ERow w a n es) (hn : n ≤ 1000) :
    Calls Try.prog 30 #[.slice a n c, .string fr, .string tu] w fun e w' => ∃ a n c, e = .returned (.slice a n c) ∧ EOwns w' w.heap.size (.slice a n c) (es.filter (fun e => inK fr tu e.k)) ∧ Below w.heap.size w w' := by
  have R := hide hR
  have L := hide hR.1
  clear hR
  have OA := hide (nil_lit (w := w) 71 2)
  have bL : Below w.heap.size w (w.alloc (.cells #[] 71)) := (Below.refl _ _).alloc (Nat.le_refl _) _
  go_enter Try.func30, Try.ntmps30
  go_wp2_with fail
  go_loopw [7, 8] (fun lv iv wr => ∃ (j : Nat) (a : Option Addr) (m k : Nat), j ≤ n ∧ lv = .slice a m k ∧ iv = .int .i64 (j : Int) ∧ Hid (EOwns wr w.heap.size (.slice a m k) ((es.take j).filter (fun e => inK fr tu e.k))) ∧ Below w.heap.size w wr) (fun _ iv _ => n - (intOf iv).toNat)
  case atStart => exact ⟨0, _, _, _, Nat.zero_le _, rfl, rfl, OA, bL⟩
  case round =>
    clear bL OA
    obtain ⟨j, aJ, nJ, kJ, hj, rfl, rfl, hO, hb⟩ := hrel
    by_cases hlt : j < n
    case neg =>
      obtain rfl : j = n := by omega
      have E := hide (show EOwns wr w.heap.size (.slice aJ nJ kJ) (es.filter (fun e => inK fr tu e.k)) by
        have h := unhide hO
        rw [List.take_of_length_le (by rw [unhide L]; exact Nat.le_refl _)] at h
        exact h)
      clear hO
      go_wp2_with fail
      go_ret
      exact ⟨_, _, _, rfl, unhide E, hb⟩
    have hjE : j < es.length := by rw [unhide L]; exact hlt
    obtain ⟨bE, oE, haE, d0, d1⟩ := ((unhide R).below hb).2 j hjE
    subst haE
    have HU := hide (fun u => l04Under_any es[j].k tu u)
    have FY := hide (fun h => filt_yes (f := fun e => inK fr tu e.k) hjE h)
    have FN := hide (fun h => filt_no (f := fun e => inK fr tu e.k) hjE h)
    generalize hej : es[j] = ej at *
    obtain ⟨ek, ev⟩ := ej
    simp only at d0 d1 HU FY FN
    cases h1 : Op.bytesLess ek.toList fr.toList with
    | true =>
      have K := hide (show EOwns wr w.heap.size (.slice aJ nJ kJ) ((es.take (j + 1)).filter (fun e => inK fr tu e.k)) by
        rw [unhide FN (by rw [inK_parts]; unfold ltK; rw [h1]; rfl)]
        exact unhide hO)
      clear hO hej
      go_wp2_with fail
      go_roundw
      case rel => exact ⟨j + 1, aJ, nJ, kJ, by omega, rfl, by go_num, K, hb⟩
      case measure => simp [intOf]; omega
    | false =>
      cases h2 : underK ek tu with
      | false =>
        rw [h2] at HU
        have K := hide (show EOwns wr w.heap.size (.slice aJ nJ kJ) ((es.take (j + 1)).filter (fun e => inK fr tu e.k)) by
          rw [unhide FN (by rw [inK_parts, h2]; simp)]
          exact unhide hO)
        clear hO hej
        go_wp2_with fail
        refine (unhide HU _).mono ?_
        rintro e w3 ⟨rfl, hw3⟩
        subst w3
        clear HU
        go_wp2_with fail
        go_roundw
        case rel => exact ⟨j + 1, aJ, nJ, kJ, by omega, rfl, by go_num, K, hb⟩
        case measure => simp [intOf]; omega
      | true =>
        rw [h2] at HU
        have hacc : ((es.take j).filter (fun e : EntD => inK fr tu e.k)).length ≤ 1000000 := by
          have h3 := List.length_filter_le (fun e : EntD => inK fr tu e.k) (es.take j)
          rw [List.length_take] at h3
          omega
        obtain ⟨v2, w4, hr, ho, hgr, _⟩ := e_app (d := ⟨ek, ev⟩) (unhide hO) hacc hb.size
        have bA : Below wr.heap.size wr (wr.alloc (.cells #[.string ek, .string ev] 71)) := (Below.refl _ _).alloc (Nat.le_refl _) _
        have b4 : Below w.heap.size w w4 := by
          have b3 := hb.trans (bA.mono hb.size)
          exact b3.trans ((Below.refl _ _).grown hgr b3.size (fun k hk => ((unhide hO).lt k hk).1))
        simp only at hr
        rw [← unhide FY (by rw [inK_parts, h2]; unfold ltK; rw [h1]; rfl)] at ho
        obtain ⟨aV, cV, hV, _⟩ := eowns_slice ho
        have O4 := hide ho
        generalize ((es.take (j + 1)).filter (fun e : EntD => inK fr tu e.k)).length = nV at *
        subst hV
        clear hO hgr ho bA hej hacc
        go_wp2_with fail
        refine (unhide HU _).mono ?_
        rintro e w3 ⟨rfl, hw3⟩
        subst w3
        clear HU
        go_wp2_with (at_builtin; refine wpAppE rfl _ _ 47 rfl _ _ (.slice aV nV cV) w4 rfl rfl hr ?_)
        go_roundw
        case rel => exact ⟨j + 1, aV, nV, cV, by omega, rfl, by go_num, O4, b4⟩
        case measure => simp [intOf]; omega
end Go.Proofs.Ytodmkbnoljilpaa

namespace Go.Proofs.Ytodmkbnoljilpaa
open Go.RowKit

set_option maxRecDepth 100000 in
set_option maxHeartbeats 8000000 in
theorem l06Step_2 (d : VsD) (i : Nat) (key tu val : ByteArray) (l f s : Sl) (hs : List SeH) (w : World) (hI : VzIn w l f s hs d) (hS : SmV d) (hi : i < 4) :
    Calls Try.prog 13 #[.agg (vzC d.next l f s), .agg #[.int .i64 2, .int .i64 (i : Int), .string key, .string tu, .string val]] w fun e w' => StRes l f s hs d (stepV d ⟨2, (i : Int), key, tu, val⟩) w e w' := by
  have hz := allocC_size [(vzC d.next l f s, 31), (#[.int .i64 2, .int .i64 (i : Int), .string key, .string tu, .string val], 26), (#[.int .i64 0, .slice none 0 0, .slice none 0 0, .slice none 0 0], 31), (#[.int .i64 0, .int .i64 0, .string ⟨#[]⟩, .slice none 0 0], 49)] w
  have b1 := allocC_bel [(vzC d.next l f s, 31), (#[.int .i64 2, .int .i64 (i : Int), .string key, .string tu, .string val], 26), (#[.int .i64 0, .slice none 0 0, .slice none 0 0, .slice none 0 0], 31), (#[.int .i64 0, .int .i64 0, .string ⟨#[]⟩, .slice none 0 0], 49)] w
  have AT := allocC_at [(vzC d.next l f s, 31), (#[.int .i64 2, .int .i64 (i : Int), .string key, .string tu, .string val], 26), (#[.int .i64 0, .slice none 0 0, .slice none 0 0, .slice none 0 0], 31), (#[.int .i64 0, .int .i64 0, .string ⟨#[]⟩, .slice none 0 0], 49)] w
  obtain ⟨W, hW⟩ : ∃ W, W = allocC w [(vzC d.next l f s, 31), (#[.int .i64 2, .int .i64 (i : Int), .string key, .string tu, .string val], 26), (#[.int .i64 0, .slice none 0 0, .slice none 0 0, .slice none 0 0], 31), (#[.int .i64 0, .int .i64 0, .string ⟨#[]⟩, .slice none 0 0], 49)] := ⟨_, rfl⟩
  rw [← hW] at hz b1 AT
  simp only [List.length_cons, List.length_nil] at hz
  have k0 : W.heap[w.heap.size]? = some (.cells (vzC d.next l f s) 31 (0, 0)) := AT 0 _ _ rfl
  have k1 : W.heap[w.heap.size + 1]? = some (.cells #[.int .i64 2, .int .i64 (i : Int), .string key, .string tu, .string val] 26 (0, 0)) := AT 1 _ _ rfl
  have k2 : W.heap[w.heap.size + 1 + 1]? = some (.cells #[.int .i64 0, .slice none 0 0, .slice none 0 0, .slice none 0 0] 31 (0, 0)) := AT 2 _ _ rfl
  have k3 : W.heap[w.heap.size + 1 + 1 + 1]? = some (.cells #[.int .i64 0, .int .i64 0, .string ⟨#[]⟩, .slice none 0 0] 49 (0, 0)) := AT 3 _ _ rfl
  have hz0 : w.heap.size < W.heap.size := by omega
  have hz1 : w.heap.size + 1 < W.heap.size := by omega
  have hz2 : w.heap.size + 1 + 1 < W.heap.size := by omega
  have hz3 : w.heap.size + 1 + 1 + 1 < W.heap.size := by omega
  unfold allocC allocC allocC allocC allocC at hW
  have CO := hide (l06Own_any d l f s hs W (hI.below b1) (by have := hI.vr.1; have := hS.list; omega) (by have := hI.fr.1; have := hS.fen; omega) (by have := hI.len; have := hS.ses; omega) (fun h hh => by
    obtain ⟨k, hk, rfl⟩ := List.getElem_of_mem hh
    obtain ⟨hd, he⟩ := hI.at hk
    have h1 := (SeIn.row hI.sr hk).1
    have h2 := hS.ws d.ses[k] (List.getElem_mem hd)
    rw [← he] at h2
    omega))
  have BH := hide b1
  have HI := hide hI
  have HS := hide hS
  obtain ⟨la, ln, lc⟩ := l
  obtain ⟨fa, fn, fc⟩ := f
  obtain ⟨sa, sn, sc⟩ := s
  unfold vzC at k0 hW CO ⊢
  simp only at k0 hW CO ⊢
  have K0 := hide k0
  have K1 := hide k1
  have K2 := hide k2
  have K3 := hide k3
  have hnx := hS.nx
  have hi0 : decide ((0 : Int) ≤ (i : Int)) = true := decide_eq_true (by omega)
  have hi3 : decide ((i : Int) ≤ 3) = true := decide_eq_true (by omega)
  have a0 := (heap_at k1 0).1
  have a1 := (heap_at k1 1).1
  have v0 := (heap_at k0 0).1
  have v1 := (heap_at k0 1).1
  have v2 := (heap_at k0 2).1
  have v3 := (heap_at k0 3).1
  clear hI hS hz b1 AT k0 k1 k2 k3
  go_enter Try.func13, Try.ntmps13
  go_wp2_with (go_at_call 26; refine (l01In_any _ _ _ _).mono ?_; rintro e w9 ⟨rfl, rfl⟩)
  rw [← hW]
  clear hW
  refine (unhide CO).mono ?_
  rintro e w1 ⟨⟨la1, ln1, lc1⟩, ⟨fa1, fn1, fc1⟩, ⟨sa1, sn1, sc1⟩, hs1, rfl, hO, hb1⟩
  clear a0 a1 v0 v1 v2 v3 hi0 hi3 CO
  have hl4 : hs1.length = 4 := by rw [hO.reads.len.2]; exact (unhide HS).ses
  have hih : i < hs1.length := by omega
  obtain ⟨g, hsa, hsn, hgB, hgw, c0, c1, c2, hwo, hid, hxd⟩ := hO.sesAt hih
  simp only at hsa hsn
  rw [hl4] at hsn
  subst hsa hsn
  unfold vzC
  simp only
  have STP := hide (show stepV d ⟨2, (i : Int), key, tu, val⟩ = sesV d ⟨2, (i : Int), key, tu, val⟩ i hs1[i].X by
    unfold stepV
    rw [if_neg (by simp), if_neg (by simp only; omega), hxd]
    congr 1
    rw [show ((i : Nat) : Int).toNat = i by omega, List.getD_eq_getElem?_getD, List.getElem?_eq_getElem hid]
    rfl)
  have XL := hide (show hs1[i].X.ws.length ≤ 8 by rw [hxd]; exact (unhide HS).ws _ (List.getElem_mem hid))
  have SX := hide hxd
  clear hxd
  generalize hx1 : hs1[i] = x at *
  have HX := hide hx1
  clear hx1
  obtain ⟨⟨o, t, wl⟩, ⟨wa, wn, wc⟩⟩ := x
  simp only at c0 c1 c2 hwo STP XL
  have bA : Below w1.heap.size w1 ((w1.alloc (.cells #[.int .i64 d.next, .slice la1 ln1 lc1, .slice fa1 fn1 fc1, .slice (some ⟨g, 0, none⟩) 4 sc1] 31)).alloc (.cells #[.bool o, .int .i64 t, .slice wa wn wc] 36)) := ((Below.refl _ _).alloc (Nat.le_refl _) _).alloc (by simp) _
  obtain ⟨-, k6, k7, z7⟩ := twoBx (w := w1) (c1 := #[.int .i64 d.next, .slice la1 ln1 lc1, .slice fa1 fn1 fc1, .slice (some ⟨g, 0, none⟩) 4 sc1]) (t1 := 31) (c2 := #[.bool o, .int .i64 t, .slice wa wn wc]) (t2 := 36) rfl
  have hW1 := hb1.size
  have NBS := hide (fun q hq => (hO.so.lt q hq).2)
  have NBV := hide (fun q hq => (hO.vo.lt q hq).2)
  have NBF := hide (fun q hq => (hO.fo.lt q hq).2)
  have OU := hide (hO.below bA)
  have BU := hide (hb1.trans (bA.mono hW1))
  have OX := hide (rb_ownsRow_below hwo bA)
  have K6 := hide k6
  have K7 := hide k7
  have hb6 : W.heap.size ≤ w1.heap.size := hW1
  have a1 : (w1.alloc (.cells #[.int .i64 d.next, .slice la1 ln1 lc1, .slice fa1 fn1 fc1, .slice (some ⟨g, 0, none⟩) 4 sc1] 31)).cell? ⟨w.heap.size + 1, 1, none⟩ = some (.int .i64 (i : Int)) := (((Below.refl w1.heap.size w1).alloc (Nat.le_refl _) (.cells #[.int .i64 d.next, .slice la1 ln1 lc1, .slice fa1 fn1 fc1, .slice (some ⟨g, 0, none⟩) 4 sc1] 31)).cell (p := ⟨w.heap.size + 1, 1, none⟩) (by show w.heap.size + 1 < w1.heap.size; omega)).trans ((heap_at ((hb1.block (w.heap.size + 1) hz1).trans (unhide K1)) 1).1)
  have d0 := (((Below.refl w1.heap.size w1).alloc (Nat.le_refl _) (.cells #[.int .i64 d.next, .slice la1 ln1 lc1, .slice fa1 fn1 fc1, .slice (some ⟨g, 0, none⟩) 4 sc1] 31)).cell (p := ⟨g, i * 3, none⟩) hgw).trans c0
  have d1 := (((Below.refl w1.heap.size w1).alloc (Nat.le_refl _) (.cells #[.int .i64 d.next, .slice la1 ln1 lc1, .slice fa1 fn1 fc1, .slice (some ⟨g, 0, none⟩) 4 sc1] 31)).cell (p := ⟨g, i * 3 + 1, none⟩) hgw).trans c1
  have d2 := (((Below.refl w1.heap.size w1).alloc (Nat.le_refl _) (.cells #[.int .i64 d.next, .slice la1 ln1 lc1, .slice fa1 fn1 fc1, .slice (some ⟨g, 0, none⟩) 4 sc1] 31)).cell (p := ⟨g, i * 3 + 2, none⟩) hgw).trans c2
  have hin : (i : Int) < 4 := by omega
  clear hO hwo bA k6 k7 c0 c1 c2 hb1 z7
  go_upto_region 7 with fail
  clear d0 d1 d2 a1 hin
  generalize (w1.alloc (.cells #[.int .i64 d.next, .slice la1 ln1 lc1, .slice fa1 fn1 fc1, .slice (some ⟨g, 0, none⟩) 4 sc1] 31)).alloc (.cells #[.bool o, .int .i64 t, .slice wa wn wc] 36) = u at *
  generalize hb6e : w1.heap.size = b6 at *
  clear hb6e
  cases o with
  | false =>
    have kv := ((unhide BU).block w.heap.size hz0).trans (unhide K0)
    have v0 := (heap_at kv 0).1
    have v1 := (heap_at kv 1).1
    have v2 := (heap_at kv 2).1
    have v3 := (heap_at kv 3).1
    have ka := ((unhide BU).block (w.heap.size + 1) hz1).trans (unhide K1)
    have a0 := (heap_at ka 0).1
    have a1 := (heap_at ka 1).1
    have a2 := (heap_at ka 2).1
    have a3 := (heap_at ka 3).1
    have a4 := (heap_at ka 4).1
    have ky := ((unhide BU).block (w.heap.size + 1 + 1) hz2).trans (unhide K2)
    have y0 := (heap_at ky 0).1
    have y1 := (heap_at ky 1).1
    have y2 := (heap_at ky 2).1
    have y3 := (heap_at ky 3).1
    have yf0 := (heap_at ky 0).2
    have yf1 := (heap_at ky 1).2
    have yf2 := (heap_at ky 2).2
    have yf3 := (heap_at ky 3).2
    have kt := ((unhide BU).block (w.heap.size + 1 + 1 + 1) hz3).trans (unhide K3)
    have t0 := (heap_at kt 0).1
    have t1 := (heap_at kt 1).1
    have t2 := (heap_at kt 2).1
    have t3 := (heap_at kt 3).1
    have tf0 := (heap_at kt 0).2
    have tf1 := (heap_at kt 1).2
    have tf2 := (heap_at kt 2).2
    have tf3 := (heap_at kt 3).2
    have x0 := (heap_at (unhide K7) 0).1
    have RES := hide (show StRes ⟨la, ln, lc⟩ ⟨fa, fn, fc⟩ ⟨sa, sn, sc⟩ hs d (stepV d ⟨2, (i : Int), key, tu, val⟩) w (.returned (.tuple #[.agg #[.int .i64 d.next, .slice la ln lc, .slice fa fn fc, .slice sa sn sc], .agg #[.int .i64 10, .int .i64 0, .string ⟨#[]⟩, .slice none 0 0]])) ((((((((u.setCell ⟨w.heap.size + 1 + 1, 0, none⟩ (.int .i64 d.next)).setCell ⟨w.heap.size + 1 + 1, 1, none⟩ (.slice la ln lc)).setCell ⟨w.heap.size + 1 + 1, 2, none⟩ (.slice fa fn fc)).setCell ⟨w.heap.size + 1 + 1, 3, none⟩ (.slice sa sn sc)).setCell ⟨w.heap.size + 1 + 1 + 1, 0, none⟩ (.int .i64 10)).setCell ⟨w.heap.size + 1 + 1 + 1, 1, none⟩ (.int .i64 0)).setCell ⟨w.heap.size + 1 + 1 + 1, 2, none⟩ (.string ⟨#[]⟩)).setCell ⟨w.heap.size + 1 + 1 + 1, 3, none⟩ (.slice none 0 0)) from st_old (unhide HI) (bel_sv4 (bel_sv4 ((unhide BH).trans ((unhide BU).mono (unhide BH).size)) (by omega) _ _ _ _) (by omega) _ _ _ _) (by rw [unhide STP]; unfold sesV; rw [if_neg (by simp), if_pos rfl]))
    go_wp2_with fail
    refine bodyPost_ret (v := .tuple #[.agg #[.int .i64 d.next, .slice la ln lc, .slice fa fn fc, .slice sa sn sc], .agg #[.int .i64 10, .int .i64 0, .string ⟨#[]⟩, .slice none 0 0]]) (by simp [results, Try.results13, go_sem, *]) rfl ?_
    exact unhide RES
  | true =>
    have x0 := (heap_at (unhide K7) 0).1
    have x1 := (heap_at (unhide K7) 1).1
    have ka := ((unhide BU).block (w.heap.size + 1) hz1).trans (unhide K1)
    have a0 := (heap_at ka 0).1
    have bR : Below u.heap.size u (u.alloc (.cells #[.int .i64 0, .int .i64 t, .string ⟨#[]⟩, .slice none 0 0] 49)) := (Below.refl _ _).alloc (Nat.le_refl _) _
    have k8 := heap_alloc_new u (.cells #[.int .i64 0, .int .i64 t, .string ⟨#[]⟩, .slice none 0 0] 49)
    have OR := hide ((unhide OU).below bR)
    have BR := hide ((unhide BU).trans (bR.mono (unhide BU).size))
    have XR := hide (rb_ownsRow_below (unhide OX) bR)
    have K6R := hide ((bR.block b6 (blk_lt (unhide K6))).trans (unhide K6))
    have K7R := hide ((bR.block (b6 + 1) (blk_lt (unhide K7))).trans (unhide K7))
    have K8 := hide k8
    have h78 : b6 + 1 < u.heap.size := blk_lt (unhide K7)
    clear OU BU OX K6 K7 k8 bR ka
    go_upto_region 18 with fail
    clear x0 x1 a0
    generalize u.alloc (.cells #[.int .i64 0, .int .i64 t, .string ⟨#[]⟩, .slice none 0 0] 49) = ur at *
    generalize hb8e : u.heap.size = b8 at *
    clear hb8e
    have ka := ((unhide BR).block (w.heap.size + 1) hz1).trans (unhide K1)
    have a0 := (heap_at ka 0).1
    have a1 := (heap_at ka 1).1
    have a2 := (heap_at ka 2).1
    have a3 := (heap_at ka 3).1
    have a4 := (heap_at ka 4).1
    have CK := hide (fun u => l04Key_any key u)
    have FIT := hide (show fitA ⟨2, (i : Int), key, tu, val⟩ = (keyK key && valK val) by unfold fitA; rw [if_pos (by simp)])
    have STB := hide (show fitA ⟨2, (i : Int), key, tu, val⟩ = false → stepV d ⟨2, (i : Int), key, tu, val⟩ = (d, repV 11 t) from fun h => by rw [unhide STP]; unfold sesV; rw [if_neg (by simp), if_neg (by simp), if_pos h])
    generalize hkk : keyK key = kk at *
    by_cases hok : kk = true ∧ val.size ≤ 100
    case neg =>
      have ST2 := hide (unhide STB (by
        rw [unhide FIT]
        cases kk
        · rfl
        · unfold valK
          rw [decide_eq_false (fun h => hok ⟨rfl, h⟩)]
          rfl))
      clear STB FIT hkk
      cases kk with
      | false =>
        clear hok
        have kvv := ((unhide BR).block w.heap.size hz0).trans (unhide K0)
        have v0 := (heap_at kvv 0).1
        have v1 := (heap_at kvv 1).1
        have v2 := (heap_at kvv 2).1
        have v3 := (heap_at kvv 3).1
        have k7x := (heap_at (unhide K7R) 1).1
        have N2 := hide (((unhide BR).block (w.heap.size + 1 + 1) hz2).trans (unhide K2))
        have N3 := hide (((unhide BR).block (w.heap.size + 1 + 1 + 1) hz3).trans (unhide K3))
        have BF := hide ((unhide BH).trans ((unhide BR).mono (unhide BH).size))
        have h70 : b6 + 1 < ur.heap.size := blk_lt (unhide K7R)
        have h6W : W.heap.size ≤ ur.heap.size := (unhide BR).size
        have LD := hide (show ∀ v : World, (∀ i, i ≠ w.heap.size + 1 + 1 → i ≠ w.heap.size + 1 + 1 + 1 → i < ur.heap.size → v.heap[i]? = ur.heap[i]?) → (fun u => u.cell? ⟨w.heap.size, 0, none⟩ = some (.int .i64 d.next) ∧ u.cell? ⟨w.heap.size, 1, none⟩ = some (.slice la ln lc) ∧ u.cell? ⟨w.heap.size, 2, none⟩ = some (.slice fa fn fc) ∧ u.cell? ⟨w.heap.size, 3, none⟩ = some (.slice sa sn sc) ∧ u.cell? ⟨b6 + 1, 1, none⟩ = some (.int .i64 t)) v from fun v hv => ⟨(World.cell?_of_block (a := ⟨w.heap.size, 0, none⟩) (hv w.heap.size (by omega) (by omega) (by omega))).trans v0, (World.cell?_of_block (a := ⟨w.heap.size, 1, none⟩) (hv w.heap.size (by omega) (by omega) (by omega))).trans v1, (World.cell?_of_block (a := ⟨w.heap.size, 2, none⟩) (hv w.heap.size (by omega) (by omega) (by omega))).trans v2, (World.cell?_of_block (a := ⟨w.heap.size, 3, none⟩) (hv w.heap.size (by omega) (by omega) (by omega))).trans v3, (World.cell?_of_block (a := ⟨b6 + 1, 1, none⟩) (hv (b6 + 1) (by omega) (by omega) h70)).trans k7x⟩)
        clear v0 v1 v2 v3 k7x kvv
        have D0 := hide (show ∀ i, i ≠ w.heap.size + 1 + 1 → i ≠ w.heap.size + 1 + 1 + 1 → i < ur.heap.size → ur.drew.heap[i]? = ur.heap[i]? from fun _ _ _ _ => rfl)
        have ZD0 := hide (show ur.heap.size ≤ ur.drew.heap.size from Nat.le_refl _)
        have BD0 := hide (show Below w.heap.size w ur.drew from (unhide BF).drew)
        replace N2 := hide (show ur.drew.heap[w.heap.size + 1 + 1]? = _ from unhide N2)
        replace N3 := hide (show ur.drew.heap[w.heap.size + 1 + 1 + 1]? = _ from unhide N3)
        go_upto_region 23 with (go_at_call 27; refine (unhide CK _).mono ?_; rintro e w9 ⟨rfl, hw9⟩; subst w9)
        clear a0 a1 a2 a3 a4 CK
        refine wp_region_held_drew (S := (fun u => u.cell? ⟨w.heap.size, 0, none⟩ = some (.int .i64 d.next) ∧ u.cell? ⟨w.heap.size, 1, none⟩ = some (.slice la ln lc) ∧ u.cell? ⟨w.heap.size, 2, none⟩ = some (.slice fa fn fc) ∧ u.cell? ⟨w.heap.size, 3, none⟩ = some (.slice sa sn sc) ∧ u.cell? ⟨b6 + 1, 1, none⟩ = some (.int .i64 t))) (by kernel_rfl) (unhide LD _ (unhide D0)) (fun hHeld => ?_)
        generalize ur.drew = ud at *
        refine anyH_take 0 87 (v := ?v5) rfl rfl (by kernel_rfl) (by kernel_rfl) (by kernel_rfl) (fun _ _ _ h => h) (by rfl) ?h5 hHeld ?r5
        case h5 => (intro w hSw; (try dsimp only at hSw); go_simp; try (with_reducible rfl))
        simp only [Act.put, List.setIfInBounds_toArray, List.set_cons_zero, List.set_cons_succ]
        refine anyH_take 1 88 (v := ?v6) rfl rfl (by kernel_rfl) (by kernel_rfl) (by kernel_rfl) (fun _ _ _ h => h) (by rfl) ?h6 hHeld ?r6
        case h6 => (intro w hSw; (try dsimp only at hSw); go_simp; try (with_reducible rfl))
        simp only [Act.put, List.setIfInBounds_toArray, List.set_cons_zero, List.set_cons_succ]
        refine anyH_take 2 89 (v := ?v7) rfl rfl (by kernel_rfl) (by kernel_rfl) (by kernel_rfl) (fun _ _ _ h => h) (by rfl) ?h7 hHeld ?r7
        case h7 => (intro w hSw; (try dsimp only at hSw); go_simp; try (with_reducible rfl))
        simp only [Act.put, List.setIfInBounds_toArray, List.set_cons_zero, List.set_cons_succ]
        refine anyH_take 3 90 (v := ?v8) rfl rfl (by kernel_rfl) (by kernel_rfl) (by kernel_rfl) (fun _ _ _ h => h) (by rfl) ?h8 hHeld ?r8
        case h8 => (intro w hSw; (try dsimp only at hSw); go_simp; try (with_reducible rfl))
        simp only [Act.put, List.setIfInBounds_toArray, List.set_cons_zero, List.set_cons_succ]
        refine wpAnyH_ready (rs := [4]) (by kernel_rfl) (by simp) ?_
        refine AllReadyH.cons rfl (fun K hK => ?_) AllReadyH.nil
        have c0 := (heap_at (unhide N2) 0).1
        have c1 := (heap_at (unhide N2) 1).1
        have c2 := (heap_at (unhide N2) 2).1
        have c3 := (heap_at (unhide N2) 3).1
        have cf0 := (heap_at (unhide N2) 0).2
        have cf1 := (heap_at (unhide N2) 1).2
        have cf2 := (heap_at (unhide N2) 2).2
        have cf3 := (heap_at (unhide N2) 3).2
        have hw : WrB (fun i => i = w.heap.size + 1 + 1) ud ((((ud.setCell ⟨w.heap.size + 1 + 1, 0, none⟩ (.int .i64 d.next)).setCell ⟨w.heap.size + 1 + 1, 1, none⟩ (.slice la ln lc)).setCell ⟨w.heap.size + 1 + 1, 2, none⟩ (.slice fa fn fc)).setCell ⟨w.heap.size + 1 + 1, 3, none⟩ (.slice sa sn sc)) := sv4_wr ud (w.heap.size + 1 + 1) (.int .i64 d.next) (.slice la ln lc) (.slice fa fn fc) (.slice sa sn sc)
        have D1 := hide (show ∀ i, i ≠ w.heap.size + 1 + 1 → i ≠ w.heap.size + 1 + 1 + 1 → i < ur.heap.size → ((((ud.setCell ⟨w.heap.size + 1 + 1, 0, none⟩ (.int .i64 d.next)).setCell ⟨w.heap.size + 1 + 1, 1, none⟩ (.slice la ln lc)).setCell ⟨w.heap.size + 1 + 1, 2, none⟩ (.slice fa fn fc)).setCell ⟨w.heap.size + 1 + 1, 3, none⟩ (.slice sa sn sc)).heap[i]? = ur.heap[i]? from fun i h1 h2 h3 => (hw.block i (Nat.lt_of_lt_of_le h3 (unhide ZD0)) (by first | exact h1 | exact h2)).trans (unhide D0 i h1 h2 h3))
        have ZD1 := hide (show ur.heap.size ≤ ((((ud.setCell ⟨w.heap.size + 1 + 1, 0, none⟩ (.int .i64 d.next)).setCell ⟨w.heap.size + 1 + 1, 1, none⟩ (.slice la ln lc)).setCell ⟨w.heap.size + 1 + 1, 2, none⟩ (.slice fa fn fc)).setCell ⟨w.heap.size + 1 + 1, 3, none⟩ (.slice sa sn sc)).heap.size from Nat.le_trans (unhide ZD0) hw.size)
        have Ka := hide (show ((((ud.setCell ⟨w.heap.size + 1 + 1, 0, none⟩ (.int .i64 d.next)).setCell ⟨w.heap.size + 1 + 1, 1, none⟩ (.slice la ln lc)).setCell ⟨w.heap.size + 1 + 1, 2, none⟩ (.slice fa fn fc)).setCell ⟨w.heap.size + 1 + 1, 3, none⟩ (.slice sa sn sc)).heap[w.heap.size + 1 + 1]? = some (.cells #[.int .i64 d.next, .slice la ln lc, .slice fa fn fc, .slice sa sn sc] 31 (0, 0)) from sv4_heap (unhide N2) (.int .i64 d.next) (.slice la ln lc) (.slice fa fn fc) (.slice sa sn sc))
        have BD1 := hide (show Below w.heap.size w ((((ud.setCell ⟨w.heap.size + 1 + 1, 0, none⟩ (.int .i64 d.next)).setCell ⟨w.heap.size + 1 + 1, 1, none⟩ (.slice la ln lc)).setCell ⟨w.heap.size + 1 + 1, 2, none⟩ (.slice fa fn fc)).setCell ⟨w.heap.size + 1 + 1, 3, none⟩ (.slice sa sn sc)) from bel_sv4 (unhide BD0) (by omega) (.int .i64 d.next) (.slice la ln lc) (.slice fa fn fc) (.slice sa sn sc))
        have E3 := hide ((hw.block (w.heap.size + 1 + 1 + 1) (blk_lt (unhide N3)) (by omega)).trans (unhide N3))
        clear hw
        go_simp
        refine hK.out _ _ (unhide LD _ (unhide D1)) (fun hHeld => ?_)
        clear hK K
        clear c0 c1 c2 c3 cf0 cf1 cf2 cf3
        generalize ((((ud.setCell ⟨w.heap.size + 1 + 1, 0, none⟩ (.int .i64 d.next)).setCell ⟨w.heap.size + 1 + 1, 1, none⟩ (.slice la ln lc)).setCell ⟨w.heap.size + 1 + 1, 2, none⟩ (.slice fa fn fc)).setCell ⟨w.heap.size + 1 + 1, 3, none⟩ (.slice sa sn sc)) = ue at *
        refine wpAnyH_ready (rs := [5]) (by kernel_rfl) (by simp) ?_
        refine AllReadyH.cons rfl (fun K hK => ?_) AllReadyH.nil
        have c0 := (heap_at (unhide E3) 0).1
        have c1 := (heap_at (unhide E3) 1).1
        have c2 := (heap_at (unhide E3) 2).1
        have c3 := (heap_at (unhide E3) 3).1
        have cf0 := (heap_at (unhide E3) 0).2
        have cf1 := (heap_at (unhide E3) 1).2
        have cf2 := (heap_at (unhide E3) 2).2
        have cf3 := (heap_at (unhide E3) 3).2
        have hw : WrB (fun i => i = w.heap.size + 1 + 1 + 1) ue ((((ue.setCell ⟨w.heap.size + 1 + 1 + 1, 0, none⟩ (.int .i64 11)).setCell ⟨w.heap.size + 1 + 1 + 1, 1, none⟩ (.int .i64 t)).setCell ⟨w.heap.size + 1 + 1 + 1, 2, none⟩ (.string ⟨#[]⟩)).setCell ⟨w.heap.size + 1 + 1 + 1, 3, none⟩ (.slice none 0 0)) := sv4_wr ue (w.heap.size + 1 + 1 + 1) (.int .i64 11) (.int .i64 t) (.string ⟨#[]⟩) (.slice none 0 0)
        have D2 := hide (show ∀ i, i ≠ w.heap.size + 1 + 1 → i ≠ w.heap.size + 1 + 1 + 1 → i < ur.heap.size → ((((ue.setCell ⟨w.heap.size + 1 + 1 + 1, 0, none⟩ (.int .i64 11)).setCell ⟨w.heap.size + 1 + 1 + 1, 1, none⟩ (.int .i64 t)).setCell ⟨w.heap.size + 1 + 1 + 1, 2, none⟩ (.string ⟨#[]⟩)).setCell ⟨w.heap.size + 1 + 1 + 1, 3, none⟩ (.slice none 0 0)).heap[i]? = ur.heap[i]? from fun i h1 h2 h3 => (hw.block i (Nat.lt_of_lt_of_le h3 (unhide ZD1)) (by first | exact h1 | exact h2)).trans (unhide D1 i h1 h2 h3))
        have ZD2 := hide (show ur.heap.size ≤ ((((ue.setCell ⟨w.heap.size + 1 + 1 + 1, 0, none⟩ (.int .i64 11)).setCell ⟨w.heap.size + 1 + 1 + 1, 1, none⟩ (.int .i64 t)).setCell ⟨w.heap.size + 1 + 1 + 1, 2, none⟩ (.string ⟨#[]⟩)).setCell ⟨w.heap.size + 1 + 1 + 1, 3, none⟩ (.slice none 0 0)).heap.size from Nat.le_trans (unhide ZD1) hw.size)
        have Kb := hide (show ((((ue.setCell ⟨w.heap.size + 1 + 1 + 1, 0, none⟩ (.int .i64 11)).setCell ⟨w.heap.size + 1 + 1 + 1, 1, none⟩ (.int .i64 t)).setCell ⟨w.heap.size + 1 + 1 + 1, 2, none⟩ (.string ⟨#[]⟩)).setCell ⟨w.heap.size + 1 + 1 + 1, 3, none⟩ (.slice none 0 0)).heap[w.heap.size + 1 + 1 + 1]? = some (.cells #[.int .i64 11, .int .i64 t, .string ⟨#[]⟩, .slice none 0 0] 49 (0, 0)) from sv4_heap (unhide E3) (.int .i64 11) (.int .i64 t) (.string ⟨#[]⟩) (.slice none 0 0))
        have BD2 := hide (show Below w.heap.size w ((((ue.setCell ⟨w.heap.size + 1 + 1 + 1, 0, none⟩ (.int .i64 11)).setCell ⟨w.heap.size + 1 + 1 + 1, 1, none⟩ (.int .i64 t)).setCell ⟨w.heap.size + 1 + 1 + 1, 2, none⟩ (.string ⟨#[]⟩)).setCell ⟨w.heap.size + 1 + 1 + 1, 3, none⟩ (.slice none 0 0)) from bel_sv4 (unhide BD1) (by omega) (.int .i64 11) (.int .i64 t) (.string ⟨#[]⟩) (.slice none 0 0))
        have Kc := hide ((hw.block (w.heap.size + 1 + 1) (blk_lt (unhide Ka)) (by omega)).trans (unhide Ka))
        clear hw
        go_simp
        refine hK.out _ _ (unhide LD _ (unhide D2)) (fun hHeld => ?_)
        clear hK K
        clear c0 c1 c2 c3 cf0 cf1 cf2 cf3
        generalize ((((ue.setCell ⟨w.heap.size + 1 + 1 + 1, 0, none⟩ (.int .i64 11)).setCell ⟨w.heap.size + 1 + 1 + 1, 1, none⟩ (.int .i64 t)).setCell ⟨w.heap.size + 1 + 1 + 1, 2, none⟩ (.string ⟨#[]⟩)).setCell ⟨w.heap.size + 1 + 1 + 1, 3, none⟩ (.slice none 0 0)) = ug at *
        refine wpAnyH_done (by kernel_rfl) ?_ _
        have r0 := (heap_at (unhide Kc) 0).1
        have r1 := (heap_at (unhide Kc) 1).1
        have r2 := (heap_at (unhide Kc) 2).1
        have r3 := (heap_at (unhide Kc) 3).1
        have q0 := (heap_at (unhide Kb) 0).1
        have q1 := (heap_at (unhide Kb) 1).1
        have q2 := (heap_at (unhide Kb) 2).1
        have q3 := (heap_at (unhide Kb) 3).1
        have RES := hide (show StRes ⟨la, ln, lc⟩ ⟨fa, fn, fc⟩ ⟨sa, sn, sc⟩ hs d (stepV d ⟨2, (i : Int), key, tu, val⟩) w (.returned (.tuple #[.agg #[.int .i64 d.next, .slice la ln lc, .slice fa fn fc, .slice sa sn sc], .agg #[.int .i64 11, .int .i64 t, .string ⟨#[]⟩, .slice none 0 0]])) ug from st_old (unhide HI) (unhide BD2) (unhide ST2))
        clear hHeld LD D0 D1 D2 N2 N3 E3 Ka Kb Kc
        go_wp2_with fail
        refine bodyPost_ret (v := .tuple #[.agg #[.int .i64 d.next, .slice la ln lc, .slice fa fn fc, .slice sa sn sc], .agg #[.int .i64 11, .int .i64 t, .string ⟨#[]⟩, .slice none 0 0]]) (by simp [results, Try.results13, go_sem, *]) rfl ?_
        exact unhide RES
      | true =>
        have hvs : ¬ (val.size : Int) ≤ 100 := fun h => hok ⟨rfl, by omega⟩
        have hvd : decide ((100 : Int) < (val.size : Int)) = true := decide_eq_true (by omega)
        have hvn : (100 : Int) < (val.size : Int) := by omega
        clear hok
        have kvv := ((unhide BR).block w.heap.size hz0).trans (unhide K0)
        have v0 := (heap_at kvv 0).1
        have v1 := (heap_at kvv 1).1
        have v2 := (heap_at kvv 2).1
        have v3 := (heap_at kvv 3).1
        have k7x := (heap_at (unhide K7R) 1).1
        have N2 := hide (((unhide BR).block (w.heap.size + 1 + 1) hz2).trans (unhide K2))
        have N3 := hide (((unhide BR).block (w.heap.size + 1 + 1 + 1) hz3).trans (unhide K3))
        have BF := hide ((unhide BH).trans ((unhide BR).mono (unhide BH).size))
        have h70 : b6 + 1 < ur.heap.size := blk_lt (unhide K7R)
        have h6W : W.heap.size ≤ ur.heap.size := (unhide BR).size
        have LD := hide (show ∀ v : World, (∀ i, i ≠ w.heap.size + 1 + 1 → i ≠ w.heap.size + 1 + 1 + 1 → i < ur.heap.size → v.heap[i]? = ur.heap[i]?) → (fun u => u.cell? ⟨w.heap.size, 0, none⟩ = some (.int .i64 d.next) ∧ u.cell? ⟨w.heap.size, 1, none⟩ = some (.slice la ln lc) ∧ u.cell? ⟨w.heap.size, 2, none⟩ = some (.slice fa fn fc) ∧ u.cell? ⟨w.heap.size, 3, none⟩ = some (.slice sa sn sc) ∧ u.cell? ⟨b6 + 1, 1, none⟩ = some (.int .i64 t)) v from fun v hv => ⟨(World.cell?_of_block (a := ⟨w.heap.size, 0, none⟩) (hv w.heap.size (by omega) (by omega) (by omega))).trans v0, (World.cell?_of_block (a := ⟨w.heap.size, 1, none⟩) (hv w.heap.size (by omega) (by omega) (by omega))).trans v1, (World.cell?_of_block (a := ⟨w.heap.size, 2, none⟩) (hv w.heap.size (by omega) (by omega) (by omega))).trans v2, (World.cell?_of_block (a := ⟨w.heap.size, 3, none⟩) (hv w.heap.size (by omega) (by omega) (by omega))).trans v3, (World.cell?_of_block (a := ⟨b6 + 1, 1, none⟩) (hv (b6 + 1) (by omega) (by omega) h70)).trans k7x⟩)
        clear v0 v1 v2 v3 k7x kvv
        have D0 := hide (show ∀ i, i ≠ w.heap.size + 1 + 1 → i ≠ w.heap.size + 1 + 1 + 1 → i < ur.heap.size → ur.drew.heap[i]? = ur.heap[i]? from fun _ _ _ _ => rfl)
        have ZD0 := hide (show ur.heap.size ≤ ur.drew.heap.size from Nat.le_refl _)
        have BD0 := hide (show Below w.heap.size w ur.drew from (unhide BF).drew)
        replace N2 := hide (show ur.drew.heap[w.heap.size + 1 + 1]? = _ from unhide N2)
        replace N3 := hide (show ur.drew.heap[w.heap.size + 1 + 1 + 1]? = _ from unhide N3)
        go_upto_region 23 with (go_at_call 27; refine (unhide CK _).mono ?_; rintro e w9 ⟨rfl, hw9⟩; subst w9)
        clear a0 a1 a2 a3 a4 CK
        refine wp_region_held_drew (S := (fun u => u.cell? ⟨w.heap.size, 0, none⟩ = some (.int .i64 d.next) ∧ u.cell? ⟨w.heap.size, 1, none⟩ = some (.slice la ln lc) ∧ u.cell? ⟨w.heap.size, 2, none⟩ = some (.slice fa fn fc) ∧ u.cell? ⟨w.heap.size, 3, none⟩ = some (.slice sa sn sc) ∧ u.cell? ⟨b6 + 1, 1, none⟩ = some (.int .i64 t))) (by kernel_rfl) (unhide LD _ (unhide D0)) (fun hHeld => ?_)
        generalize ur.drew = ud at *
        refine anyH_take 0 87 (v := ?v9) rfl rfl (by kernel_rfl) (by kernel_rfl) (by kernel_rfl) (fun _ _ _ h => h) (by rfl) ?h9 hHeld ?r9
        case h9 => (intro w hSw; (try dsimp only at hSw); go_simp; try (with_reducible rfl))
        simp only [Act.put, List.setIfInBounds_toArray, List.set_cons_zero, List.set_cons_succ]
        refine anyH_take 1 88 (v := ?v10) rfl rfl (by kernel_rfl) (by kernel_rfl) (by kernel_rfl) (fun _ _ _ h => h) (by rfl) ?h10 hHeld ?r10
        case h10 => (intro w hSw; (try dsimp only at hSw); go_simp; try (with_reducible rfl))
        simp only [Act.put, List.setIfInBounds_toArray, List.set_cons_zero, List.set_cons_succ]
        refine anyH_take 2 89 (v := ?v11) rfl rfl (by kernel_rfl) (by kernel_rfl) (by kernel_rfl) (fun _ _ _ h => h) (by rfl) ?h11 hHeld ?r11
        case h11 => (intro w hSw; (try dsimp only at hSw); go_simp; try (with_reducible rfl))
        simp only [Act.put, List.setIfInBounds_toArray, List.set_cons_zero, List.set_cons_succ]
        refine anyH_take 3 90 (v := ?v12) rfl rfl (by kernel_rfl) (by kernel_rfl) (by kernel_rfl) (fun _ _ _ h => h) (by rfl) ?h12 hHeld ?r12
        case h12 => (intro w hSw; (try dsimp only at hSw); go_simp; try (with_reducible rfl))
        simp only [Act.put, List.setIfInBounds_toArray, List.set_cons_zero, List.set_cons_succ]
        refine wpAnyH_ready (rs := [4]) (by kernel_rfl) (by simp) ?_
        refine AllReadyH.cons rfl (fun K hK => ?_) AllReadyH.nil
        have c0 := (heap_at (unhide N2) 0).1
        have c1 := (heap_at (unhide N2) 1).1
        have c2 := (heap_at (unhide N2) 2).1
        have c3 := (heap_at (unhide N2) 3).1
        have cf0 := (heap_at (unhide N2) 0).2
        have cf1 := (heap_at (unhide N2) 1).2
        have cf2 := (heap_at (unhide N2) 2).2
        have cf3 := (heap_at (unhide N2) 3).2
        have hw : WrB (fun i => i = w.heap.size + 1 + 1) ud ((((ud.setCell ⟨w.heap.size + 1 + 1, 0, none⟩ (.int .i64 d.next)).setCell ⟨w.heap.size + 1 + 1, 1, none⟩ (.slice la ln lc)).setCell ⟨w.heap.size + 1 + 1, 2, none⟩ (.slice fa fn fc)).setCell ⟨w.heap.size + 1 + 1, 3, none⟩ (.slice sa sn sc)) := sv4_wr ud (w.heap.size + 1 + 1) (.int .i64 d.next) (.slice la ln lc) (.slice fa fn fc) (.slice sa sn sc)
        have D1 := hide (show ∀ i, i ≠ w.heap.size + 1 + 1 → i ≠ w.heap.size + 1 + 1 + 1 → i < ur.heap.size → ((((ud.setCell ⟨w.heap.size + 1 + 1, 0, none⟩ (.int .i64 d.next)).setCell ⟨w.heap.size + 1 + 1, 1, none⟩ (.slice la ln lc)).setCell ⟨w.heap.size + 1 + 1, 2, none⟩ (.slice fa fn fc)).setCell ⟨w.heap.size + 1 + 1, 3, none⟩ (.slice sa sn sc)).heap[i]? = ur.heap[i]? from fun i h1 h2 h3 => (hw.block i (Nat.lt_of_lt_of_le h3 (unhide ZD0)) (by first | exact h1 | exact h2)).trans (unhide D0 i h1 h2 h3))
        have ZD1 := hide (show ur.heap.size ≤ ((((ud.setCell ⟨w.heap.size + 1 + 1, 0, none⟩ (.int .i64 d.next)).setCell ⟨w.heap.size + 1 + 1, 1, none⟩ (.slice la ln lc)).setCell ⟨w.heap.size + 1 + 1, 2, none⟩ (.slice fa fn fc)).setCell ⟨w.heap.size + 1 + 1, 3, none⟩ (.slice sa sn sc)).heap.size from Nat.le_trans (unhide ZD0) hw.size)
        have Ka := hide (show ((((ud.setCell ⟨w.heap.size + 1 + 1, 0, none⟩ (.int .i64 d.next)).setCell ⟨w.heap.size + 1 + 1, 1, none⟩ (.slice la ln lc)).setCell ⟨w.heap.size + 1 + 1, 2, none⟩ (.slice fa fn fc)).setCell ⟨w.heap.size + 1 + 1, 3, none⟩ (.slice sa sn sc)).heap[w.heap.size + 1 + 1]? = some (.cells #[.int .i64 d.next, .slice la ln lc, .slice fa fn fc, .slice sa sn sc] 31 (0, 0)) from sv4_heap (unhide N2) (.int .i64 d.next) (.slice la ln lc) (.slice fa fn fc) (.slice sa sn sc))
        have BD1 := hide (show Below w.heap.size w ((((ud.setCell ⟨w.heap.size + 1 + 1, 0, none⟩ (.int .i64 d.next)).setCell ⟨w.heap.size + 1 + 1, 1, none⟩ (.slice la ln lc)).setCell ⟨w.heap.size + 1 + 1, 2, none⟩ (.slice fa fn fc)).setCell ⟨w.heap.size + 1 + 1, 3, none⟩ (.slice sa sn sc)) from bel_sv4 (unhide BD0) (by omega) (.int .i64 d.next) (.slice la ln lc) (.slice fa fn fc) (.slice sa sn sc))
        have E3 := hide ((hw.block (w.heap.size + 1 + 1 + 1) (blk_lt (unhide N3)) (by omega)).trans (unhide N3))
        clear hw
        go_simp
        refine hK.out _ _ (unhide LD _ (unhide D1)) (fun hHeld => ?_)
        clear hK K
        clear c0 c1 c2 c3 cf0 cf1 cf2 cf3
        generalize ((((ud.setCell ⟨w.heap.size + 1 + 1, 0, none⟩ (.int .i64 d.next)).setCell ⟨w.heap.size + 1 + 1, 1, none⟩ (.slice la ln lc)).setCell ⟨w.heap.size + 1 + 1, 2, none⟩ (.slice fa fn fc)).setCell ⟨w.heap.size + 1 + 1, 3, none⟩ (.slice sa sn sc)) = ue at *
        refine wpAnyH_ready (rs := [5]) (by kernel_rfl) (by simp) ?_
        refine AllReadyH.cons rfl (fun K hK => ?_) AllReadyH.nil
        have c0 := (heap_at (unhide E3) 0).1
        have c1 := (heap_at (unhide E3) 1).1
        have c2 := (heap_at (unhide E3) 2).1
        have c3 := (heap_at (unhide E3) 3).1
        have cf0 := (heap_at (unhide E3) 0).2
        have cf1 := (heap_at (unhide E3) 1).2
        have cf2 := (heap_at (unhide E3) 2).2
        have cf3 := (heap_at (unhide E3) 3).2
        have hw : WrB (fun i => i = w.heap.size + 1 + 1 + 1) ue ((((ue.setCell ⟨w.heap.size + 1 + 1 + 1, 0, none⟩ (.int .i64 11)).setCell ⟨w.heap.size + 1 + 1 + 1, 1, none⟩ (.int .i64 t)).setCell ⟨w.heap.size + 1 + 1 + 1, 2, none⟩ (.string ⟨#[]⟩)).setCell ⟨w.heap.size + 1 + 1 + 1, 3, none⟩ (.slice none 0 0)) := sv4_wr ue (w.heap.size + 1 + 1 + 1) (.int .i64 11) (.int .i64 t) (.string ⟨#[]⟩) (.slice none 0 0)
        have D2 := hide (show ∀ i, i ≠ w.heap.size + 1 + 1 → i ≠ w.heap.size + 1 + 1 + 1 → i < ur.heap.size → ((((ue.setCell ⟨w.heap.size + 1 + 1 + 1, 0, none⟩ (.int .i64 11)).setCell ⟨w.heap.size + 1 + 1 + 1, 1, none⟩ (.int .i64 t)).setCell ⟨w.heap.size + 1 + 1 + 1, 2, none⟩ (.string ⟨#[]⟩)).setCell ⟨w.heap.size + 1 + 1 + 1, 3, none⟩ (.slice none 0 0)).heap[i]? = ur.heap[i]? from fun i h1 h2 h3 => (hw.block i (Nat.lt_of_lt_of_le h3 (unhide ZD1)) (by first | exact h1 | exact h2)).trans (unhide D1 i h1 h2 h3))
        have ZD2 := hide (show ur.heap.size ≤ ((((ue.setCell ⟨w.heap.size + 1 + 1 + 1, 0, none⟩ (.int .i64 11)).setCell ⟨w.heap.size + 1 + 1 + 1, 1, none⟩ (.int .i64 t)).setCell ⟨w.heap.size + 1 + 1 + 1, 2, none⟩ (.string ⟨#[]⟩)).setCell ⟨w.heap.size + 1 + 1 + 1, 3, none⟩ (.slice none 0 0)).heap.size from Nat.le_trans (unhide ZD1) hw.size)
        have Kb := hide (show ((((ue.setCell ⟨w.heap.size + 1 + 1 + 1, 0, none⟩ (.int .i64 11)).setCell ⟨w.heap.size + 1 + 1 + 1, 1, none⟩ (.int .i64 t)).setCell ⟨w.heap.size + 1 + 1 + 1, 2, none⟩ (.string ⟨#[]⟩)).setCell ⟨w.heap.size + 1 + 1 + 1, 3, none⟩ (.slice none 0 0)).heap[w.heap.size + 1 + 1 + 1]? = some (.cells #[.int .i64 11, .int .i64 t, .string ⟨#[]⟩, .slice none 0 0] 49 (0, 0)) from sv4_heap (unhide E3) (.int .i64 11) (.int .i64 t) (.string ⟨#[]⟩) (.slice none 0 0))
        have BD2 := hide (show Below w.heap.size w ((((ue.setCell ⟨w.heap.size + 1 + 1 + 1, 0, none⟩ (.int .i64 11)).setCell ⟨w.heap.size + 1 + 1 + 1, 1, none⟩ (.int .i64 t)).setCell ⟨w.heap.size + 1 + 1 + 1, 2, none⟩ (.string ⟨#[]⟩)).setCell ⟨w.heap.size + 1 + 1 + 1, 3, none⟩ (.slice none 0 0)) from bel_sv4 (unhide BD1) (by omega) (.int .i64 11) (.int .i64 t) (.string ⟨#[]⟩) (.slice none 0 0))
        have Kc := hide ((hw.block (w.heap.size + 1 + 1) (blk_lt (unhide Ka)) (by omega)).trans (unhide Ka))
        clear hw
        go_simp
        refine hK.out _ _ (unhide LD _ (unhide D2)) (fun hHeld => ?_)
        clear hK K
        clear c0 c1 c2 c3 cf0 cf1 cf2 cf3
        generalize ((((ue.setCell ⟨w.heap.size + 1 + 1 + 1, 0, none⟩ (.int .i64 11)).setCell ⟨w.heap.size + 1 + 1 + 1, 1, none⟩ (.int .i64 t)).setCell ⟨w.heap.size + 1 + 1 + 1, 2, none⟩ (.string ⟨#[]⟩)).setCell ⟨w.heap.size + 1 + 1 + 1, 3, none⟩ (.slice none 0 0)) = ug at *
        refine wpAnyH_done (by kernel_rfl) ?_ _
        have r0 := (heap_at (unhide Kc) 0).1
        have r1 := (heap_at (unhide Kc) 1).1
        have r2 := (heap_at (unhide Kc) 2).1
        have r3 := (heap_at (unhide Kc) 3).1
        have q0 := (heap_at (unhide Kb) 0).1
        have q1 := (heap_at (unhide Kb) 1).1
        have q2 := (heap_at (unhide Kb) 2).1
        have q3 := (heap_at (unhide Kb) 3).1
        have RES := hide (show StRes ⟨la, ln, lc⟩ ⟨fa, fn, fc⟩ ⟨sa, sn, sc⟩ hs d (stepV d ⟨2, (i : Int), key, tu, val⟩) w (.returned (.tuple #[.agg #[.int .i64 d.next, .slice la ln lc, .slice fa fn fc, .slice sa sn sc], .agg #[.int .i64 11, .int .i64 t, .string ⟨#[]⟩, .slice none 0 0]])) ug from st_old (unhide HI) (unhide BD2) (unhide ST2))
        clear hHeld LD D0 D1 D2 N2 N3 E3 Ka Kb Kc
        go_wp2_with fail
        refine bodyPost_ret (v := .tuple #[.agg #[.int .i64 d.next, .slice la ln lc, .slice fa fn fc, .slice sa sn sc], .agg #[.int .i64 11, .int .i64 t, .string ⟨#[]⟩, .slice none 0 0]]) (by simp [results, Try.results13, go_sem, *]) rfl ?_
        exact unhide RES
    obtain ⟨rfl, hvs⟩ := hok
    have hvn : ¬ (100 : Int) < (val.size : Int) := by omega
    have hvd : decide ((100 : Int) < (val.size : Int)) = false := decide_eq_false hvn
    have STG := hide (show stepV d ⟨2, (i : Int), key, tu, val⟩ = (⟨d.next, d.list, d.fen ++ [⟨key, nulK key, t⟩], d.ses⟩, getR (seenV d ⟨true, t, wl⟩) key t) by
      rw [unhide STP]
      unfold sesV
      rw [if_neg (by simp), if_neg (by simp), if_neg (by rw [unhide FIT]; unfold valK; rw [decide_eq_true hvs]; simp)]
      unfold inV
      rw [if_pos rfl]
      unfold fenV
      rw [if_neg (by have := (unhide HS).fen; omega)])
    have hcc : ¬ 9223372036854775807 < key.size + 1 := by
      unfold keyK at hkk
      have := of_decide_eq_true hkk
      omega
    clear STB FIT hkk hvs
    have kv := ((unhide BR).block w.heap.size hz0).trans (unhide K0)
    have v0 := (heap_at kv 0).1
    have v1 := (heap_at kv 1).1
    have v2 := (heap_at kv 2).1
    have v3 := (heap_at kv 3).1
    have x0 := (heap_at (unhide K7R) 0).1
    have x1 := (heap_at (unhide K7R) 1).1
    have x2 := (heap_at (unhide K7R) 2).1
    have CS := hide (l06Seen_any d.next ⟨la, ln, lc⟩ ⟨fa, fn, fc⟩ ⟨sa, sn, sc⟩ ⟨wa, wn, wc⟩ d ⟨true, t, wl⟩ ur ((unhide HI).vr.below ((unhide BH).trans ((unhide BR).mono (unhide BH).size))) (vrow_of_owns (unhide XR)) (by have := (unhide HS).list; have := unhide XL; show d.list.length + wl.length ≤ 1000; omega))
    unfold vzC sesC at CS
    simp only at CS
    have hurW := (unhide BR).size
    clear ka kv
    go_wp2_with (go_at_call 27; refine (unhide CK _).mono ?_; rintro e w9 ⟨rfl, hw9⟩; subst w9)
    clear a0 a1 a2 a3 a4 v0 v1 v2 v3 x0 x1 x2 CK
    refine (unhide CS).mono ?_
    rintro e w3 ⟨g9, k9, rfl, o9, b9⟩
    clear CS
    have hnb : (seenV d ⟨true, t, wl⟩).length ≤ 1000 := by
      have h1 := seenTo_len d ⟨true, t, wl⟩ _ (Nat.le_refl _)
      rw [seenTo_all] at h1
      have h2 := (unhide HS).list
      have h3 := unhide XL
      simp only at h1
      omega
    generalize seenV d ⟨true, t, wl⟩ = es at *
    obtain ⟨nn, hnn⟩ : ∃ nn, nn = es.length := ⟨_, rfl⟩
    rw [← hnn] at o9 hnb ⊢
    have LN := hide hnn.symm
    clear hnn
    have k8 := (b9.block b8 (blk_lt (unhide K8))).trans (unhide K8)
    have p0 := (heap_at k8 0).1
    have pf0 := (heap_at k8 0).2
    have B3 := hide ((unhide BR).trans (b9.mono hurW))
    have O3 := hide ((unhide OR).below b9)
    have K63 := hide ((b9.block b6 (blk_lt (unhide K6R))).trans (unhide K6R))
    have K73 := hide ((b9.block (b6 + 1) (blk_lt (unhide K7R))).trans (unhide K7R))
    have OE := hide (show EOwns w3 ur.heap.size (.slice (some ⟨g9, 0, none⟩) nn k9) es from o9)
    have K83 := hide k8
    have KR0 := hide (show (w3.setCell ⟨b8, 0, none⟩ (.int .i64 5)).heap[b8]? = some (.cells #[.int .i64 (getR (es.take 0) key t).code, .int .i64 t, .string (getR (es.take 0) key t).val, .slice none 0 0] 49 (0, 0)) by have := heap_set k8 0 (.int .i64 5); simpa [getR] using this)
    have W0 := hide (set1_wr w3 b8 0 (.int .i64 5))
    have hge8 : W.heap.size ≤ b8 := by omega
    clear b9 o9 k8 OR BR XR K6R K7R K8
    go_upto_region 31 with fail
    clear p0 pf0
    generalize w3.setCell ⟨b8, 0, none⟩ (.int .i64 5) = u0 at *
    go_wp2_with fail
    go_loopw [10] (fun iv wr => ∃ (j : Nat), iv = .int .i64 (j : Int) ∧ j ≤ nn ∧ Hid (wr.heap[b8]? = some (.cells #[.int .i64 (getR (es.take j) key t).code, .int .i64 t, .string (getR (es.take j) key t).val, .slice none 0 0] 49 (0, 0))) ∧ Hid (WrB (fun k => k = b8) w3 wr)) (fun iv _ => nn - (intOf iv).toNat)
    case atStart => exact ⟨0, rfl, Nat.zero_le _, KR0, W0⟩
    case round =>
      clear KR0 W0
      obtain ⟨j, rfl, hj, hR, hWr⟩ := hrel
      have ka := ((unhide hWr).block (w.heap.size + 1) (Nat.lt_of_lt_of_le hz1 (unhide B3).size) (by omega)).trans (((unhide B3).block (w.heap.size + 1) hz1).trans (unhide K1))
      have a2 := (heap_at ka 2).1
      by_cases hlt : j < nn
      · have hj2 : j < es.length := by rw [unhide LN]; exact hlt
        have hkn : (j : Int) < (nn : Int) := by omega
        have OEr := own_keep (unhide OE) (unhide K83) (by decide) (unhide hWr)
        obtain ⟨b, off, he, d0, d1⟩ := (erow_of_owns OEr).2 j hj2
        injection he with he
        injection he with he1 he2 _
        subst he1 he2
        rw [Nat.zero_add] at d0 d1
        have GS := hide (show getR (es.take (j + 1)) key t = if es[j].k = key then ⟨0, t, es[j].v, []⟩ else getR (es.take j) key t by rw [takeG_snoc es j hj2, getR_snoc])
        generalize es[j] = pe at *
        obtain ⟨pk, pv⟩ := pe
        simp only at d0 d1 GS
        clear ka OEr
        have bD : ∀ q, WrB (fun k => k = b8) w3 (wr.drewN q) := fun q => ⟨(unhide hWr).os, (unhide hWr).tape, (unhide hWr).output, (unhide hWr).size, (unhide hWr).block⟩
        have BDH := hide bD
        clear bD
        by_cases hke : pk = key
        · have hkb : (pk.toList == key.toList) = true := by rw [hke]; simp
          have GT := hide (show getR (es.take (j + 1)) key t = ⟨0, t, pv, []⟩ by rw [unhide GS, if_pos hke])
          clear hke GS
          go_wp2_with fail
          go_quiet (fail)
          have BD := hide (unhide BDH nq)
          have HRq := hide (show (wr.drewN nq).heap[b8]? = _ from unhide hR)
          have p0q := (heap_at (unhide HRq) 0).1
          have pf0q := (heap_at (unhide HRq) 0).2
          have KN0 := heap_set (unhide HRq) 0 (.int .i64 0)
          have p2q := (heap_at KN0 2).1
          have pf2q := (heap_at KN0 2).2
          have d1q : (wr.drewN nq).cell? ⟨g9, j * 2 + 1, none⟩ = some (.string pv) := d1
          have hg9 : g9 ≠ b8 := fun e => by
            have h := own_box (unhide OE) (unhide K83) (by decide)
            exact h (by rw [e]; rfl)
          clear BDH d0 d1 a2 hR hWr KN0
          generalize wr.drewN nq = wq at *
          have d1r : (wq.setCell ⟨b8, 0, none⟩ (.int .i64 0)).cell? ⟨g9, j * 2 + 1, none⟩ = some (.string pv) := (World.cell?_of_block (a := ⟨g9, j * 2 + 1, none⟩) (Below.heap_setCell wq ⟨b8, 0, none⟩ (.int .i64 0) g9 hg9)).trans d1q
          have KN := hide (show ((wq.setCell ⟨b8, 0, none⟩ (.int .i64 0)).setCell ⟨b8, 2, none⟩ (.string pv)).heap[b8]? = some (.cells #[.int .i64 (getR (es.take (j + 1)) key t).code, .int .i64 t, .string (getR (es.take (j + 1)) key t).val, .slice none 0 0] 49 (0, 0)) by
            rw [unhide GT]
            have h1 := heap_set (unhide HRq) 0 (.int .i64 0)
            have h2 := heap_set h1 2 (.string pv)
            simpa using h2)
          have WN := hide ((unhide BD).seq ((set1_wr wq b8 0 (.int .i64 0)).seq (set1_wr _ b8 2 (.string pv))))
          clear BD HRq GT
          go_wp2_with fail
          go_roundw
          case rel => exact ⟨j + 1, by go_num, by omega, KN, WN⟩
          case measure => simp [intOf]; omega
        · have hkb : (pk.toList == key.toList) = false := by simpa using fun e => hke (toList_inj e)
          have KN := hide (show wr.heap[b8]? = some (.cells #[.int .i64 (getR (es.take (j + 1)) key t).code, .int .i64 t, .string (getR (es.take (j + 1)) key t).val, .slice none 0 0] 49 (0, 0)) by rw [unhide GS, if_neg hke]; exact unhide hR)
          clear hke GS hR
          go_wp2_with fail
          go_quiet (fail)
          have BD := hide (unhide BDH nq)
          have KNq := hide (show (wr.drewN nq).heap[b8]? = _ from unhide KN)
          clear BDH KN a2 d0 d1 hWr
          go_wp2_with fail
          go_roundw
          case rel => exact ⟨j + 1, by go_num, by omega, KNq, BD⟩
          case measure => simp [intOf]; omega
      · obtain rfl : nn = j := by omega
        have ht : es.take nn = es := List.take_of_length_le (by rw [unhide LN]; exact Nat.le_refl _)
        rw [ht] at hR
        have BUX := hide ((unhide B3).trans (WrB.below (unhide hWr) (fun k e => by rw [e]; exact hge8) (unhide B3).size))
        have OUX := hide ((unhide O3).box (unhide K83) (by decide) (by decide) (by decide) (unhide hWr))
        have kv := ((unhide BUX).block w.heap.size hz0).trans (unhide K0)
        have k6 := ((unhide hWr).block b6 (blk_lt (unhide K63)) (by omega)).trans (unhide K63)
        have k7 := ((unhide hWr).block (b6 + 1) (blk_lt (unhide K73)) (by omega)).trans (unhide K73)
        have v0 := (heap_at kv 0).1
        have v1 := (heap_at kv 1).1
        have v2 := (heap_at kv 2).1
        have v3 := (heap_at kv 3).1
        have z0 := (heap_at k6 0).1
        have z1 := (heap_at k6 1).1
        have z2 := (heap_at k6 2).1
        have z3 := (heap_at k6 3).1
        have x1 := (heap_at k7 1).1
        have p0 := (heap_at (unhide hR) 0).1
        have p1 := (heap_at (unhide hR) 1).1
        have p2 := (heap_at (unhide hR) 2).1
        have p3 := (heap_at (unhide hR) 3).1
        have GT := hide (getR_time es key t)
        have CF := hide (l06Fence_any W.heap.size d ⟨la1, ln1, lc1⟩ ⟨fa1, fn1, fc1⟩ ⟨some ⟨g, 0, none⟩, 4, sc1⟩ hs1 ⟨key, nulK key, t⟩ ⟨(getR es key t).code, t, (getR es key t).val, []⟩ ⟨none, 0, 0⟩ d.next ⟨la, ln, lc⟩ ⟨fa, fn, fc⟩ ⟨sa, sn, sc⟩ wr (unhide OUX) (unhide BUX).size (unhide HS).fen)
        unfold vzC repC fv at CF
        simp only at CF
        have NK : nulK key = key ++ ⟨#[0]⟩ := rfl
        clear kv k6 k7 ht hR hWr O3 OE B3 K63 K73 K83 ka
        generalize hGC : (getR es key t).code = gc at *
        generalize hGV : (getR es key t).val = gv at *
        have HGC := hide hGC
        have HGV := hide hGV
        clear hGC hGV NK
        go_wp2_with fail
        clear v0 v1 v2 v3 z0 z1 z2 z3 x1 p0 p1 p2 p3 a2
        refine (unhide CF).mono ?_
        rintro e w6 ⟨⟨fa6, fn6, fc6⟩, rfl, hO6, hB6, hW6⟩
        have B6 := hide ((unhide BUX).trans hB6)
        have ky := ((unhide B6).block (w.heap.size + 1 + 1) hz2).trans (unhide K2)
        have kt := ((unhide B6).block (w.heap.size + 1 + 1 + 1) hz3).trans (unhide K3)
        have y0 := (heap_at ky 0).1
        have y1 := (heap_at ky 1).1
        have y2 := (heap_at ky 2).1
        have y3 := (heap_at ky 3).1
        have yf0 := (heap_at ky 0).2
        have yf1 := (heap_at ky 1).2
        have yf2 := (heap_at ky 2).2
        have yf3 := (heap_at ky 3).2
        have tt0 := (heap_at kt 0).1
        have tt1 := (heap_at kt 1).1
        have tt2 := (heap_at kt 2).1
        have tt3 := (heap_at kt 3).1
        have ttf0 := (heap_at kt 0).2
        have ttf1 := (heap_at kt 1).2
        have ttf2 := (heap_at kt 2).2
        have ttf3 := (heap_at kt 3).2
        have hwy : WrB (fun i => i = w.heap.size + 1 + 1) w6 ((((w6.setCell ⟨w.heap.size + 1 + 1, 0, none⟩ (.int .i64 d.next)).setCell ⟨w.heap.size + 1 + 1, 1, none⟩ (.slice la1 ln1 lc1)).setCell ⟨w.heap.size + 1 + 1, 2, none⟩ (.slice fa6 fn6 fc6)).setCell ⟨w.heap.size + 1 + 1, 3, none⟩ (.slice (some ⟨g, 0, none⟩) 4 sc1)) := sv4_wr w6 (w.heap.size + 1 + 1) (.int .i64 d.next) (.slice la1 ln1 lc1) (.slice fa6 fn6 fc6) (.slice (some ⟨g, 0, none⟩) 4 sc1)
        have hwt : WrB (fun i => i = w.heap.size + 1 + 1 + 1) ((((w6.setCell ⟨w.heap.size + 1 + 1, 0, none⟩ (.int .i64 d.next)).setCell ⟨w.heap.size + 1 + 1, 1, none⟩ (.slice la1 ln1 lc1)).setCell ⟨w.heap.size + 1 + 1, 2, none⟩ (.slice fa6 fn6 fc6)).setCell ⟨w.heap.size + 1 + 1, 3, none⟩ (.slice (some ⟨g, 0, none⟩) 4 sc1)) ((((((((w6.setCell ⟨w.heap.size + 1 + 1, 0, none⟩ (.int .i64 d.next)).setCell ⟨w.heap.size + 1 + 1, 1, none⟩ (.slice la1 ln1 lc1)).setCell ⟨w.heap.size + 1 + 1, 2, none⟩ (.slice fa6 fn6 fc6)).setCell ⟨w.heap.size + 1 + 1, 3, none⟩ (.slice (some ⟨g, 0, none⟩) 4 sc1)).setCell ⟨w.heap.size + 1 + 1 + 1, 0, none⟩ (.int .i64 gc)).setCell ⟨w.heap.size + 1 + 1 + 1, 1, none⟩ (.int .i64 t)).setCell ⟨w.heap.size + 1 + 1 + 1, 2, none⟩ (.string gv)).setCell ⟨w.heap.size + 1 + 1 + 1, 3, none⟩ (.slice none 0 0)) := sv4_wr _ (w.heap.size + 1 + 1 + 1) (.int .i64 gc) (.int .i64 t) (.string gv) (.slice none 0 0)
        have BG := hide (show Below w.heap.size w ((((((((w6.setCell ⟨w.heap.size + 1 + 1, 0, none⟩ (.int .i64 d.next)).setCell ⟨w.heap.size + 1 + 1, 1, none⟩ (.slice la1 ln1 lc1)).setCell ⟨w.heap.size + 1 + 1, 2, none⟩ (.slice fa6 fn6 fc6)).setCell ⟨w.heap.size + 1 + 1, 3, none⟩ (.slice (some ⟨g, 0, none⟩) 4 sc1)).setCell ⟨w.heap.size + 1 + 1 + 1, 0, none⟩ (.int .i64 gc)).setCell ⟨w.heap.size + 1 + 1 + 1, 1, none⟩ (.int .i64 t)).setCell ⟨w.heap.size + 1 + 1 + 1, 2, none⟩ (.string gv)).setCell ⟨w.heap.size + 1 + 1 + 1, 3, none⟩ (.slice none 0 0)) from bel_sv4 (bel_sv4 ((unhide BH).trans ((unhide B6).mono (unhide BH).size)) (by omega) _ _ _ _) (by omega) _ _ _ _)
        have OG := (hO6.wr hwy (fun i e => by rw [e]; exact hz2)).wr hwt (fun i e => by rw [e]; exact hz3)
        have RES := hide (show StRes ⟨la, ln, lc⟩ ⟨fa, fn, fc⟩ ⟨sa, sn, sc⟩ hs d (stepV d ⟨2, (i : Int), key, tu, val⟩) w (.returned (.tuple #[.agg #[.int .i64 d.next, .slice la1 ln1 lc1, .slice fa6 fn6 fc6, .slice (some ⟨g, 0, none⟩) 4 sc1], .agg #[.int .i64 gc, .int .i64 t, .string gv, .slice none 0 0]])) ((((((((w6.setCell ⟨w.heap.size + 1 + 1, 0, none⟩ (.int .i64 d.next)).setCell ⟨w.heap.size + 1 + 1, 1, none⟩ (.slice la1 ln1 lc1)).setCell ⟨w.heap.size + 1 + 1, 2, none⟩ (.slice fa6 fn6 fc6)).setCell ⟨w.heap.size + 1 + 1, 3, none⟩ (.slice (some ⟨g, 0, none⟩) 4 sc1)).setCell ⟨w.heap.size + 1 + 1 + 1, 0, none⟩ (.int .i64 gc)).setCell ⟨w.heap.size + 1 + 1 + 1, 1, none⟩ (.int .i64 t)).setCell ⟨w.heap.size + 1 + 1 + 1, 2, none⟩ (.string gv)).setCell ⟨w.heap.size + 1 + 1 + 1, 3, none⟩ (.slice none 0 0)) from (by
          rw [unhide STG]
          exact ⟨⟨la1, ln1, lc1⟩, ⟨fa6, fn6, fc6⟩, ⟨some ⟨g, 0, none⟩, 4, sc1⟩, hs1, ⟨none, 0, 0⟩, by rw [unhide HGC, unhide HGV, (unhide GT).1], (.inr (OG.dn (Nat.le_of_lt hz0))), by rw [(unhide GT).2]; exact World.ownsRow_nil _ _ _ _, unhide BG⟩))
        clear hwy hwt OG ky kt hO6 hB6 hW6
        go_wp2_with fail
        refine bodyPost_ret (v := .tuple #[.agg #[.int .i64 d.next, .slice la1 ln1 lc1, .slice fa6 fn6 fc6, .slice (some ⟨g, 0, none⟩) 4 sc1], .agg #[.int .i64 gc, .int .i64 t, .string gv, .slice none 0 0]]) (by simp [results, Try.results13, go_sem, *]) rfl ?_
        exact unhide RES
end Go.Proofs.Ytodmkbnoljilpaa

namespace Go.Proofs.Ytodmkbnoljilpaa
open Go.RowKit

set_option maxRecDepth 100000 in
set_option maxHeartbeats 8000000 in
theorem l06Step_3 (d : VsD) (i : Nat) (key tu val : ByteArray) (l f s : Sl) (hs : List SeH) (w : World) (hI : VzIn w l f s hs d) (hS : SmV d) (hi : i < 4) :
    Calls Try.prog 13 #[.agg (vzC d.next l f s), .agg #[.int .i64 3, .int .i64 (i : Int), .string key, .string tu, .string val]] w fun e w' => StRes l f s hs d (stepV d ⟨3, (i : Int), key, tu, val⟩) w e w' := by
  have hz := allocC_size [(vzC d.next l f s, 31), (#[.int .i64 3, .int .i64 (i : Int), .string key, .string tu, .string val], 26), (#[.int .i64 0, .slice none 0 0, .slice none 0 0, .slice none 0 0], 31), (#[.int .i64 0, .int .i64 0, .string ⟨#[]⟩, .slice none 0 0], 49)] w
  have b1 := allocC_bel [(vzC d.next l f s, 31), (#[.int .i64 3, .int .i64 (i : Int), .string key, .string tu, .string val], 26), (#[.int .i64 0, .slice none 0 0, .slice none 0 0, .slice none 0 0], 31), (#[.int .i64 0, .int .i64 0, .string ⟨#[]⟩, .slice none 0 0], 49)] w
  have AT := allocC_at [(vzC d.next l f s, 31), (#[.int .i64 3, .int .i64 (i : Int), .string key, .string tu, .string val], 26), (#[.int .i64 0, .slice none 0 0, .slice none 0 0, .slice none 0 0], 31), (#[.int .i64 0, .int .i64 0, .string ⟨#[]⟩, .slice none 0 0], 49)] w
  obtain ⟨W, hW⟩ : ∃ W, W = allocC w [(vzC d.next l f s, 31), (#[.int .i64 3, .int .i64 (i : Int), .string key, .string tu, .string val], 26), (#[.int .i64 0, .slice none 0 0, .slice none 0 0, .slice none 0 0], 31), (#[.int .i64 0, .int .i64 0, .string ⟨#[]⟩, .slice none 0 0], 49)] := ⟨_, rfl⟩
  rw [← hW] at hz b1 AT
  simp only [List.length_cons, List.length_nil] at hz
  have k0 : W.heap[w.heap.size]? = some (.cells (vzC d.next l f s) 31 (0, 0)) := AT 0 _ _ rfl
  have k1 : W.heap[w.heap.size + 1]? = some (.cells #[.int .i64 3, .int .i64 (i : Int), .string key, .string tu, .string val] 26 (0, 0)) := AT 1 _ _ rfl
  have k2 : W.heap[w.heap.size + 1 + 1]? = some (.cells #[.int .i64 0, .slice none 0 0, .slice none 0 0, .slice none 0 0] 31 (0, 0)) := AT 2 _ _ rfl
  have k3 : W.heap[w.heap.size + 1 + 1 + 1]? = some (.cells #[.int .i64 0, .int .i64 0, .string ⟨#[]⟩, .slice none 0 0] 49 (0, 0)) := AT 3 _ _ rfl
  have hz0 : w.heap.size < W.heap.size := by omega
  have hz1 : w.heap.size + 1 < W.heap.size := by omega
  have hz2 : w.heap.size + 1 + 1 < W.heap.size := by omega
  have hz3 : w.heap.size + 1 + 1 + 1 < W.heap.size := by omega
  unfold allocC allocC allocC allocC allocC at hW
  have CO := hide (l06Own_any d l f s hs W (hI.below b1) (by have := hI.vr.1; have := hS.list; omega) (by have := hI.fr.1; have := hS.fen; omega) (by have := hI.len; have := hS.ses; omega) (fun h hh => by
    obtain ⟨k, hk, rfl⟩ := List.getElem_of_mem hh
    obtain ⟨hd, he⟩ := hI.at hk
    have h1 := (SeIn.row hI.sr hk).1
    have h2 := hS.ws d.ses[k] (List.getElem_mem hd)
    rw [← he] at h2
    omega))
  have BH := hide b1
  have HI := hide hI
  have HS := hide hS
  obtain ⟨la, ln, lc⟩ := l
  obtain ⟨fa, fn, fc⟩ := f
  obtain ⟨sa, sn, sc⟩ := s
  unfold vzC at k0 hW CO ⊢
  simp only at k0 hW CO ⊢
  have K0 := hide k0
  have K1 := hide k1
  have K2 := hide k2
  have K3 := hide k3
  have hnx := hS.nx
  have hi0 : decide ((0 : Int) ≤ (i : Int)) = true := decide_eq_true (by omega)
  have hi3 : decide ((i : Int) ≤ 3) = true := decide_eq_true (by omega)
  have a0 := (heap_at k1 0).1
  have a1 := (heap_at k1 1).1
  have v0 := (heap_at k0 0).1
  have v1 := (heap_at k0 1).1
  have v2 := (heap_at k0 2).1
  have v3 := (heap_at k0 3).1
  clear hI hS hz b1 AT k0 k1 k2 k3
  go_enter Try.func13, Try.ntmps13
  go_wp2_with (go_at_call 26; refine (l01In_any _ _ _ _).mono ?_; rintro e w9 ⟨rfl, rfl⟩)
  rw [← hW]
  clear hW
  refine (unhide CO).mono ?_
  rintro e w1 ⟨⟨la1, ln1, lc1⟩, ⟨fa1, fn1, fc1⟩, ⟨sa1, sn1, sc1⟩, hs1, rfl, hO, hb1⟩
  clear a0 a1 v0 v1 v2 v3 hi0 hi3 CO
  have hl4 : hs1.length = 4 := by rw [hO.reads.len.2]; exact (unhide HS).ses
  have hih : i < hs1.length := by omega
  obtain ⟨g, hsa, hsn, hgB, hgw, c0, c1, c2, hwo, hid, hxd⟩ := hO.sesAt hih
  simp only at hsa hsn
  rw [hl4] at hsn
  subst hsa hsn
  unfold vzC
  simp only
  have STP := hide (show stepV d ⟨3, (i : Int), key, tu, val⟩ = sesV d ⟨3, (i : Int), key, tu, val⟩ i hs1[i].X by
    unfold stepV
    rw [if_neg (by simp), if_neg (by simp only; omega), hxd]
    congr 1
    rw [show ((i : Nat) : Int).toNat = i by omega, List.getD_eq_getElem?_getD, List.getElem?_eq_getElem hid]
    rfl)
  have XL := hide (show hs1[i].X.ws.length ≤ 8 by rw [hxd]; exact (unhide HS).ws _ (List.getElem_mem hid))
  have SX := hide hxd
  clear hxd
  generalize hx1 : hs1[i] = x at *
  have HX := hide hx1
  clear hx1
  obtain ⟨⟨o, t, wl⟩, ⟨wa, wn, wc⟩⟩ := x
  simp only at c0 c1 c2 hwo STP XL
  have bA : Below w1.heap.size w1 ((w1.alloc (.cells #[.int .i64 d.next, .slice la1 ln1 lc1, .slice fa1 fn1 fc1, .slice (some ⟨g, 0, none⟩) 4 sc1] 31)).alloc (.cells #[.bool o, .int .i64 t, .slice wa wn wc] 36)) := ((Below.refl _ _).alloc (Nat.le_refl _) _).alloc (by simp) _
  obtain ⟨-, k6, k7, z7⟩ := twoBx (w := w1) (c1 := #[.int .i64 d.next, .slice la1 ln1 lc1, .slice fa1 fn1 fc1, .slice (some ⟨g, 0, none⟩) 4 sc1]) (t1 := 31) (c2 := #[.bool o, .int .i64 t, .slice wa wn wc]) (t2 := 36) rfl
  have hW1 := hb1.size
  have NBS := hide (fun q hq => (hO.so.lt q hq).2)
  have NBV := hide (fun q hq => (hO.vo.lt q hq).2)
  have NBF := hide (fun q hq => (hO.fo.lt q hq).2)
  have OU := hide (hO.below bA)
  have BU := hide (hb1.trans (bA.mono hW1))
  have OX := hide (rb_ownsRow_below hwo bA)
  have K6 := hide k6
  have K7 := hide k7
  have hb6 : W.heap.size ≤ w1.heap.size := hW1
  have a1 : (w1.alloc (.cells #[.int .i64 d.next, .slice la1 ln1 lc1, .slice fa1 fn1 fc1, .slice (some ⟨g, 0, none⟩) 4 sc1] 31)).cell? ⟨w.heap.size + 1, 1, none⟩ = some (.int .i64 (i : Int)) := (((Below.refl w1.heap.size w1).alloc (Nat.le_refl _) (.cells #[.int .i64 d.next, .slice la1 ln1 lc1, .slice fa1 fn1 fc1, .slice (some ⟨g, 0, none⟩) 4 sc1] 31)).cell (p := ⟨w.heap.size + 1, 1, none⟩) (by show w.heap.size + 1 < w1.heap.size; omega)).trans ((heap_at ((hb1.block (w.heap.size + 1) hz1).trans (unhide K1)) 1).1)
  have d0 := (((Below.refl w1.heap.size w1).alloc (Nat.le_refl _) (.cells #[.int .i64 d.next, .slice la1 ln1 lc1, .slice fa1 fn1 fc1, .slice (some ⟨g, 0, none⟩) 4 sc1] 31)).cell (p := ⟨g, i * 3, none⟩) hgw).trans c0
  have d1 := (((Below.refl w1.heap.size w1).alloc (Nat.le_refl _) (.cells #[.int .i64 d.next, .slice la1 ln1 lc1, .slice fa1 fn1 fc1, .slice (some ⟨g, 0, none⟩) 4 sc1] 31)).cell (p := ⟨g, i * 3 + 1, none⟩) hgw).trans c1
  have d2 := (((Below.refl w1.heap.size w1).alloc (Nat.le_refl _) (.cells #[.int .i64 d.next, .slice la1 ln1 lc1, .slice fa1 fn1 fc1, .slice (some ⟨g, 0, none⟩) 4 sc1] 31)).cell (p := ⟨g, i * 3 + 2, none⟩) hgw).trans c2
  have hin : (i : Int) < 4 := by omega
  clear hO hwo bA k6 k7 c0 c1 c2 hb1 z7
  go_upto_region 7 with fail
  clear d0 d1 d2 a1 hin
  generalize (w1.alloc (.cells #[.int .i64 d.next, .slice la1 ln1 lc1, .slice fa1 fn1 fc1, .slice (some ⟨g, 0, none⟩) 4 sc1] 31)).alloc (.cells #[.bool o, .int .i64 t, .slice wa wn wc] 36) = u at *
  generalize hb6e : w1.heap.size = b6 at *
  clear hb6e
  cases o with
  | false =>
    have kv := ((unhide BU).block w.heap.size hz0).trans (unhide K0)
    have v0 := (heap_at kv 0).1
    have v1 := (heap_at kv 1).1
    have v2 := (heap_at kv 2).1
    have v3 := (heap_at kv 3).1
    have ka := ((unhide BU).block (w.heap.size + 1) hz1).trans (unhide K1)
    have a0 := (heap_at ka 0).1
    have a1 := (heap_at ka 1).1
    have a2 := (heap_at ka 2).1
    have a3 := (heap_at ka 3).1
    have a4 := (heap_at ka 4).1
    have ky := ((unhide BU).block (w.heap.size + 1 + 1) hz2).trans (unhide K2)
    have y0 := (heap_at ky 0).1
    have y1 := (heap_at ky 1).1
    have y2 := (heap_at ky 2).1
    have y3 := (heap_at ky 3).1
    have yf0 := (heap_at ky 0).2
    have yf1 := (heap_at ky 1).2
    have yf2 := (heap_at ky 2).2
    have yf3 := (heap_at ky 3).2
    have kt := ((unhide BU).block (w.heap.size + 1 + 1 + 1) hz3).trans (unhide K3)
    have t0 := (heap_at kt 0).1
    have t1 := (heap_at kt 1).1
    have t2 := (heap_at kt 2).1
    have t3 := (heap_at kt 3).1
    have tf0 := (heap_at kt 0).2
    have tf1 := (heap_at kt 1).2
    have tf2 := (heap_at kt 2).2
    have tf3 := (heap_at kt 3).2
    have x0 := (heap_at (unhide K7) 0).1
    have RES := hide (show StRes ⟨la, ln, lc⟩ ⟨fa, fn, fc⟩ ⟨sa, sn, sc⟩ hs d (stepV d ⟨3, (i : Int), key, tu, val⟩) w (.returned (.tuple #[.agg #[.int .i64 d.next, .slice la ln lc, .slice fa fn fc, .slice sa sn sc], .agg #[.int .i64 10, .int .i64 0, .string ⟨#[]⟩, .slice none 0 0]])) ((((((((u.setCell ⟨w.heap.size + 1 + 1, 0, none⟩ (.int .i64 d.next)).setCell ⟨w.heap.size + 1 + 1, 1, none⟩ (.slice la ln lc)).setCell ⟨w.heap.size + 1 + 1, 2, none⟩ (.slice fa fn fc)).setCell ⟨w.heap.size + 1 + 1, 3, none⟩ (.slice sa sn sc)).setCell ⟨w.heap.size + 1 + 1 + 1, 0, none⟩ (.int .i64 10)).setCell ⟨w.heap.size + 1 + 1 + 1, 1, none⟩ (.int .i64 0)).setCell ⟨w.heap.size + 1 + 1 + 1, 2, none⟩ (.string ⟨#[]⟩)).setCell ⟨w.heap.size + 1 + 1 + 1, 3, none⟩ (.slice none 0 0)) from st_old (unhide HI) (bel_sv4 (bel_sv4 ((unhide BH).trans ((unhide BU).mono (unhide BH).size)) (by omega) _ _ _ _) (by omega) _ _ _ _) (by rw [unhide STP]; unfold sesV; rw [if_neg (by simp), if_pos rfl]))
    go_wp2_with fail
    refine bodyPost_ret (v := .tuple #[.agg #[.int .i64 d.next, .slice la ln lc, .slice fa fn fc, .slice sa sn sc], .agg #[.int .i64 10, .int .i64 0, .string ⟨#[]⟩, .slice none 0 0]]) (by simp [results, Try.results13, go_sem, *]) rfl ?_
    exact unhide RES
  | true =>
    have x0 := (heap_at (unhide K7) 0).1
    have x1 := (heap_at (unhide K7) 1).1
    have ka := ((unhide BU).block (w.heap.size + 1) hz1).trans (unhide K1)
    have a0 := (heap_at ka 0).1
    have bR : Below u.heap.size u (u.alloc (.cells #[.int .i64 0, .int .i64 t, .string ⟨#[]⟩, .slice none 0 0] 49)) := (Below.refl _ _).alloc (Nat.le_refl _) _
    have k8 := heap_alloc_new u (.cells #[.int .i64 0, .int .i64 t, .string ⟨#[]⟩, .slice none 0 0] 49)
    have OR := hide ((unhide OU).below bR)
    have BR := hide ((unhide BU).trans (bR.mono (unhide BU).size))
    have XR := hide (rb_ownsRow_below (unhide OX) bR)
    have K6R := hide ((bR.block b6 (blk_lt (unhide K6))).trans (unhide K6))
    have K7R := hide ((bR.block (b6 + 1) (blk_lt (unhide K7))).trans (unhide K7))
    have K8 := hide k8
    have h78 : b6 + 1 < u.heap.size := blk_lt (unhide K7)
    clear OU BU OX K6 K7 k8 bR ka
    go_upto_region 18 with fail
    clear x0 x1 a0
    generalize u.alloc (.cells #[.int .i64 0, .int .i64 t, .string ⟨#[]⟩, .slice none 0 0] 49) = ur at *
    generalize hb8e : u.heap.size = b8 at *
    clear hb8e
    have ka := ((unhide BR).block (w.heap.size + 1) hz1).trans (unhide K1)
    have a0 := (heap_at ka 0).1
    have a1 := (heap_at ka 1).1
    have a2 := (heap_at ka 2).1
    have a3 := (heap_at ka 3).1
    have a4 := (heap_at ka 4).1
    have FIT := hide (show fitA ⟨3, (i : Int), key, tu, val⟩ = (decide (key.size ≤ 40) && decide (tu.size ≤ 40)) by unfold fitA; rw [if_neg (by simp), if_pos (by simp)])
    have STB := hide (show fitA ⟨3, (i : Int), key, tu, val⟩ = false → stepV d ⟨3, (i : Int), key, tu, val⟩ = (d, repV 11 t) from fun h => by rw [unhide STP]; unfold sesV; rw [if_neg (by simp), if_neg (by simp), if_pos h])
    by_cases hk40 : key.size ≤ 40
    case neg =>
      have ST2 := hide (unhide STB (by rw [unhide FIT, decide_eq_false hk40]; rfl))
      have hkn : (40 : Int) < (key.size : Int) := by omega
      have hkd : decide ((40 : Int) < (key.size : Int)) = true := decide_eq_true hkn
      clear STB FIT hk40 ka
      have kvv := ((unhide BR).block w.heap.size hz0).trans (unhide K0)
      have v0 := (heap_at kvv 0).1
      have v1 := (heap_at kvv 1).1
      have v2 := (heap_at kvv 2).1
      have v3 := (heap_at kvv 3).1
      have k7x := (heap_at (unhide K7R) 1).1
      have N2 := hide (((unhide BR).block (w.heap.size + 1 + 1) hz2).trans (unhide K2))
      have N3 := hide (((unhide BR).block (w.heap.size + 1 + 1 + 1) hz3).trans (unhide K3))
      have BF := hide ((unhide BH).trans ((unhide BR).mono (unhide BH).size))
      have h70 : b6 + 1 < ur.heap.size := blk_lt (unhide K7R)
      have h6W : W.heap.size ≤ ur.heap.size := (unhide BR).size
      have LD := hide (show ∀ v : World, (∀ i, i ≠ w.heap.size + 1 + 1 → i ≠ w.heap.size + 1 + 1 + 1 → i < ur.heap.size → v.heap[i]? = ur.heap[i]?) → (fun u => u.cell? ⟨w.heap.size, 0, none⟩ = some (.int .i64 d.next) ∧ u.cell? ⟨w.heap.size, 1, none⟩ = some (.slice la ln lc) ∧ u.cell? ⟨w.heap.size, 2, none⟩ = some (.slice fa fn fc) ∧ u.cell? ⟨w.heap.size, 3, none⟩ = some (.slice sa sn sc) ∧ u.cell? ⟨b6 + 1, 1, none⟩ = some (.int .i64 t)) v from fun v hv => ⟨(World.cell?_of_block (a := ⟨w.heap.size, 0, none⟩) (hv w.heap.size (by omega) (by omega) (by omega))).trans v0, (World.cell?_of_block (a := ⟨w.heap.size, 1, none⟩) (hv w.heap.size (by omega) (by omega) (by omega))).trans v1, (World.cell?_of_block (a := ⟨w.heap.size, 2, none⟩) (hv w.heap.size (by omega) (by omega) (by omega))).trans v2, (World.cell?_of_block (a := ⟨w.heap.size, 3, none⟩) (hv w.heap.size (by omega) (by omega) (by omega))).trans v3, (World.cell?_of_block (a := ⟨b6 + 1, 1, none⟩) (hv (b6 + 1) (by omega) (by omega) h70)).trans k7x⟩)
      clear v0 v1 v2 v3 k7x kvv
      have D0 := hide (show ∀ i, i ≠ w.heap.size + 1 + 1 → i ≠ w.heap.size + 1 + 1 + 1 → i < ur.heap.size → ur.drew.heap[i]? = ur.heap[i]? from fun _ _ _ _ => rfl)
      have ZD0 := hide (show ur.heap.size ≤ ur.drew.heap.size from Nat.le_refl _)
      have BD0 := hide (show Below w.heap.size w ur.drew from (unhide BF).drew)
      replace N2 := hide (show ur.drew.heap[w.heap.size + 1 + 1]? = _ from unhide N2)
      replace N3 := hide (show ur.drew.heap[w.heap.size + 1 + 1 + 1]? = _ from unhide N3)
      go_upto_region 26 with fail
      clear a0 a1 a2 a3 a4
      refine wp_region_held_drew (S := (fun u => u.cell? ⟨w.heap.size, 0, none⟩ = some (.int .i64 d.next) ∧ u.cell? ⟨w.heap.size, 1, none⟩ = some (.slice la ln lc) ∧ u.cell? ⟨w.heap.size, 2, none⟩ = some (.slice fa fn fc) ∧ u.cell? ⟨w.heap.size, 3, none⟩ = some (.slice sa sn sc) ∧ u.cell? ⟨b6 + 1, 1, none⟩ = some (.int .i64 t))) (by kernel_rfl) (unhide LD _ (unhide D0)) (fun hHeld => ?_)
      generalize ur.drew = ud at *
      refine anyH_take 0 103 (v := ?v20) rfl rfl (by kernel_rfl) (by kernel_rfl) (by kernel_rfl) (fun _ _ _ h => h) (by rfl) ?h20 hHeld ?r20
      case h20 => (intro w hSw; (try dsimp only at hSw); go_simp; try (with_reducible rfl))
      simp only [Act.put, List.setIfInBounds_toArray, List.set_cons_zero, List.set_cons_succ]
      refine anyH_take 1 104 (v := ?v21) rfl rfl (by kernel_rfl) (by kernel_rfl) (by kernel_rfl) (fun _ _ _ h => h) (by rfl) ?h21 hHeld ?r21
      case h21 => (intro w hSw; (try dsimp only at hSw); go_simp; try (with_reducible rfl))
      simp only [Act.put, List.setIfInBounds_toArray, List.set_cons_zero, List.set_cons_succ]
      refine anyH_take 2 105 (v := ?v22) rfl rfl (by kernel_rfl) (by kernel_rfl) (by kernel_rfl) (fun _ _ _ h => h) (by rfl) ?h22 hHeld ?r22
      case h22 => (intro w hSw; (try dsimp only at hSw); go_simp; try (with_reducible rfl))
      simp only [Act.put, List.setIfInBounds_toArray, List.set_cons_zero, List.set_cons_succ]
      refine anyH_take 3 106 (v := ?v23) rfl rfl (by kernel_rfl) (by kernel_rfl) (by kernel_rfl) (fun _ _ _ h => h) (by rfl) ?h23 hHeld ?r23
      case h23 => (intro w hSw; (try dsimp only at hSw); go_simp; try (with_reducible rfl))
      simp only [Act.put, List.setIfInBounds_toArray, List.set_cons_zero, List.set_cons_succ]
      refine wpAnyH_ready (rs := [4]) (by kernel_rfl) (by simp) ?_
      refine AllReadyH.cons rfl (fun K hK => ?_) AllReadyH.nil
      have c0 := (heap_at (unhide N2) 0).1
      have c1 := (heap_at (unhide N2) 1).1
      have c2 := (heap_at (unhide N2) 2).1
      have c3 := (heap_at (unhide N2) 3).1
      have cf0 := (heap_at (unhide N2) 0).2
      have cf1 := (heap_at (unhide N2) 1).2
      have cf2 := (heap_at (unhide N2) 2).2
      have cf3 := (heap_at (unhide N2) 3).2
      have hw : WrB (fun i => i = w.heap.size + 1 + 1) ud ((((ud.setCell ⟨w.heap.size + 1 + 1, 0, none⟩ (.int .i64 d.next)).setCell ⟨w.heap.size + 1 + 1, 1, none⟩ (.slice la ln lc)).setCell ⟨w.heap.size + 1 + 1, 2, none⟩ (.slice fa fn fc)).setCell ⟨w.heap.size + 1 + 1, 3, none⟩ (.slice sa sn sc)) := sv4_wr ud (w.heap.size + 1 + 1) (.int .i64 d.next) (.slice la ln lc) (.slice fa fn fc) (.slice sa sn sc)
      have D1 := hide (show ∀ i, i ≠ w.heap.size + 1 + 1 → i ≠ w.heap.size + 1 + 1 + 1 → i < ur.heap.size → ((((ud.setCell ⟨w.heap.size + 1 + 1, 0, none⟩ (.int .i64 d.next)).setCell ⟨w.heap.size + 1 + 1, 1, none⟩ (.slice la ln lc)).setCell ⟨w.heap.size + 1 + 1, 2, none⟩ (.slice fa fn fc)).setCell ⟨w.heap.size + 1 + 1, 3, none⟩ (.slice sa sn sc)).heap[i]? = ur.heap[i]? from fun i h1 h2 h3 => (hw.block i (Nat.lt_of_lt_of_le h3 (unhide ZD0)) (by first | exact h1 | exact h2)).trans (unhide D0 i h1 h2 h3))
      have ZD1 := hide (show ur.heap.size ≤ ((((ud.setCell ⟨w.heap.size + 1 + 1, 0, none⟩ (.int .i64 d.next)).setCell ⟨w.heap.size + 1 + 1, 1, none⟩ (.slice la ln lc)).setCell ⟨w.heap.size + 1 + 1, 2, none⟩ (.slice fa fn fc)).setCell ⟨w.heap.size + 1 + 1, 3, none⟩ (.slice sa sn sc)).heap.size from Nat.le_trans (unhide ZD0) hw.size)
      have Ka := hide (show ((((ud.setCell ⟨w.heap.size + 1 + 1, 0, none⟩ (.int .i64 d.next)).setCell ⟨w.heap.size + 1 + 1, 1, none⟩ (.slice la ln lc)).setCell ⟨w.heap.size + 1 + 1, 2, none⟩ (.slice fa fn fc)).setCell ⟨w.heap.size + 1 + 1, 3, none⟩ (.slice sa sn sc)).heap[w.heap.size + 1 + 1]? = some (.cells #[.int .i64 d.next, .slice la ln lc, .slice fa fn fc, .slice sa sn sc] 31 (0, 0)) from sv4_heap (unhide N2) (.int .i64 d.next) (.slice la ln lc) (.slice fa fn fc) (.slice sa sn sc))
      have BD1 := hide (show Below w.heap.size w ((((ud.setCell ⟨w.heap.size + 1 + 1, 0, none⟩ (.int .i64 d.next)).setCell ⟨w.heap.size + 1 + 1, 1, none⟩ (.slice la ln lc)).setCell ⟨w.heap.size + 1 + 1, 2, none⟩ (.slice fa fn fc)).setCell ⟨w.heap.size + 1 + 1, 3, none⟩ (.slice sa sn sc)) from bel_sv4 (unhide BD0) (by omega) (.int .i64 d.next) (.slice la ln lc) (.slice fa fn fc) (.slice sa sn sc))
      have E3 := hide ((hw.block (w.heap.size + 1 + 1 + 1) (blk_lt (unhide N3)) (by omega)).trans (unhide N3))
      clear hw
      go_simp
      refine hK.out _ _ (unhide LD _ (unhide D1)) (fun hHeld => ?_)
      clear hK K
      clear c0 c1 c2 c3 cf0 cf1 cf2 cf3
      generalize ((((ud.setCell ⟨w.heap.size + 1 + 1, 0, none⟩ (.int .i64 d.next)).setCell ⟨w.heap.size + 1 + 1, 1, none⟩ (.slice la ln lc)).setCell ⟨w.heap.size + 1 + 1, 2, none⟩ (.slice fa fn fc)).setCell ⟨w.heap.size + 1 + 1, 3, none⟩ (.slice sa sn sc)) = ue at *
      refine wpAnyH_ready (rs := [5]) (by kernel_rfl) (by simp) ?_
      refine AllReadyH.cons rfl (fun K hK => ?_) AllReadyH.nil
      have c0 := (heap_at (unhide E3) 0).1
      have c1 := (heap_at (unhide E3) 1).1
      have c2 := (heap_at (unhide E3) 2).1
      have c3 := (heap_at (unhide E3) 3).1
      have cf0 := (heap_at (unhide E3) 0).2
      have cf1 := (heap_at (unhide E3) 1).2
      have cf2 := (heap_at (unhide E3) 2).2
      have cf3 := (heap_at (unhide E3) 3).2
      have hw : WrB (fun i => i = w.heap.size + 1 + 1 + 1) ue ((((ue.setCell ⟨w.heap.size + 1 + 1 + 1, 0, none⟩ (.int .i64 11)).setCell ⟨w.heap.size + 1 + 1 + 1, 1, none⟩ (.int .i64 t)).setCell ⟨w.heap.size + 1 + 1 + 1, 2, none⟩ (.string ⟨#[]⟩)).setCell ⟨w.heap.size + 1 + 1 + 1, 3, none⟩ (.slice none 0 0)) := sv4_wr ue (w.heap.size + 1 + 1 + 1) (.int .i64 11) (.int .i64 t) (.string ⟨#[]⟩) (.slice none 0 0)
      have D2 := hide (show ∀ i, i ≠ w.heap.size + 1 + 1 → i ≠ w.heap.size + 1 + 1 + 1 → i < ur.heap.size → ((((ue.setCell ⟨w.heap.size + 1 + 1 + 1, 0, none⟩ (.int .i64 11)).setCell ⟨w.heap.size + 1 + 1 + 1, 1, none⟩ (.int .i64 t)).setCell ⟨w.heap.size + 1 + 1 + 1, 2, none⟩ (.string ⟨#[]⟩)).setCell ⟨w.heap.size + 1 + 1 + 1, 3, none⟩ (.slice none 0 0)).heap[i]? = ur.heap[i]? from fun i h1 h2 h3 => (hw.block i (Nat.lt_of_lt_of_le h3 (unhide ZD1)) (by first | exact h1 | exact h2)).trans (unhide D1 i h1 h2 h3))
      have ZD2 := hide (show ur.heap.size ≤ ((((ue.setCell ⟨w.heap.size + 1 + 1 + 1, 0, none⟩ (.int .i64 11)).setCell ⟨w.heap.size + 1 + 1 + 1, 1, none⟩ (.int .i64 t)).setCell ⟨w.heap.size + 1 + 1 + 1, 2, none⟩ (.string ⟨#[]⟩)).setCell ⟨w.heap.size + 1 + 1 + 1, 3, none⟩ (.slice none 0 0)).heap.size from Nat.le_trans (unhide ZD1) hw.size)
      have Kb := hide (show ((((ue.setCell ⟨w.heap.size + 1 + 1 + 1, 0, none⟩ (.int .i64 11)).setCell ⟨w.heap.size + 1 + 1 + 1, 1, none⟩ (.int .i64 t)).setCell ⟨w.heap.size + 1 + 1 + 1, 2, none⟩ (.string ⟨#[]⟩)).setCell ⟨w.heap.size + 1 + 1 + 1, 3, none⟩ (.slice none 0 0)).heap[w.heap.size + 1 + 1 + 1]? = some (.cells #[.int .i64 11, .int .i64 t, .string ⟨#[]⟩, .slice none 0 0] 49 (0, 0)) from sv4_heap (unhide E3) (.int .i64 11) (.int .i64 t) (.string ⟨#[]⟩) (.slice none 0 0))
      have BD2 := hide (show Below w.heap.size w ((((ue.setCell ⟨w.heap.size + 1 + 1 + 1, 0, none⟩ (.int .i64 11)).setCell ⟨w.heap.size + 1 + 1 + 1, 1, none⟩ (.int .i64 t)).setCell ⟨w.heap.size + 1 + 1 + 1, 2, none⟩ (.string ⟨#[]⟩)).setCell ⟨w.heap.size + 1 + 1 + 1, 3, none⟩ (.slice none 0 0)) from bel_sv4 (unhide BD1) (by omega) (.int .i64 11) (.int .i64 t) (.string ⟨#[]⟩) (.slice none 0 0))
      have Kc := hide ((hw.block (w.heap.size + 1 + 1) (blk_lt (unhide Ka)) (by omega)).trans (unhide Ka))
      clear hw
      go_simp
      refine hK.out _ _ (unhide LD _ (unhide D2)) (fun hHeld => ?_)
      clear hK K
      clear c0 c1 c2 c3 cf0 cf1 cf2 cf3
      generalize ((((ue.setCell ⟨w.heap.size + 1 + 1 + 1, 0, none⟩ (.int .i64 11)).setCell ⟨w.heap.size + 1 + 1 + 1, 1, none⟩ (.int .i64 t)).setCell ⟨w.heap.size + 1 + 1 + 1, 2, none⟩ (.string ⟨#[]⟩)).setCell ⟨w.heap.size + 1 + 1 + 1, 3, none⟩ (.slice none 0 0)) = ug at *
      refine wpAnyH_done (by kernel_rfl) ?_ _
      have r0 := (heap_at (unhide Kc) 0).1
      have r1 := (heap_at (unhide Kc) 1).1
      have r2 := (heap_at (unhide Kc) 2).1
      have r3 := (heap_at (unhide Kc) 3).1
      have q0 := (heap_at (unhide Kb) 0).1
      have q1 := (heap_at (unhide Kb) 1).1
      have q2 := (heap_at (unhide Kb) 2).1
      have q3 := (heap_at (unhide Kb) 3).1
      have RES := hide (show StRes ⟨la, ln, lc⟩ ⟨fa, fn, fc⟩ ⟨sa, sn, sc⟩ hs d (stepV d ⟨3, (i : Int), key, tu, val⟩) w (.returned (.tuple #[.agg #[.int .i64 d.next, .slice la ln lc, .slice fa fn fc, .slice sa sn sc], .agg #[.int .i64 11, .int .i64 t, .string ⟨#[]⟩, .slice none 0 0]])) ug from st_old (unhide HI) (unhide BD2) (unhide ST2))
      clear hHeld LD D0 D1 D2 N2 N3 E3 Ka Kb Kc
      go_wp2_with fail
      refine bodyPost_ret (v := .tuple #[.agg #[.int .i64 d.next, .slice la ln lc, .slice fa fn fc, .slice sa sn sc], .agg #[.int .i64 11, .int .i64 t, .string ⟨#[]⟩, .slice none 0 0]]) (by simp [results, Try.results13, go_sem, *]) rfl ?_
      exact unhide RES
    by_cases ht40 : tu.size ≤ 40
    case neg =>
      have ST2 := hide (unhide STB (by rw [unhide FIT, decide_eq_false ht40]; simp))
      have hkn : ¬ (40 : Int) < (key.size : Int) := by omega
      have hkd : decide ((40 : Int) < (key.size : Int)) = false := decide_eq_false hkn
      have htn : (40 : Int) < (tu.size : Int) := by omega
      have htd : decide ((40 : Int) < (tu.size : Int)) = true := decide_eq_true htn
      clear STB FIT hk40 ht40 ka
      have kvv := ((unhide BR).block w.heap.size hz0).trans (unhide K0)
      have v0 := (heap_at kvv 0).1
      have v1 := (heap_at kvv 1).1
      have v2 := (heap_at kvv 2).1
      have v3 := (heap_at kvv 3).1
      have k7x := (heap_at (unhide K7R) 1).1
      have N2 := hide (((unhide BR).block (w.heap.size + 1 + 1) hz2).trans (unhide K2))
      have N3 := hide (((unhide BR).block (w.heap.size + 1 + 1 + 1) hz3).trans (unhide K3))
      have BF := hide ((unhide BH).trans ((unhide BR).mono (unhide BH).size))
      have h70 : b6 + 1 < ur.heap.size := blk_lt (unhide K7R)
      have h6W : W.heap.size ≤ ur.heap.size := (unhide BR).size
      have LD := hide (show ∀ v : World, (∀ i, i ≠ w.heap.size + 1 + 1 → i ≠ w.heap.size + 1 + 1 + 1 → i < ur.heap.size → v.heap[i]? = ur.heap[i]?) → (fun u => u.cell? ⟨w.heap.size, 0, none⟩ = some (.int .i64 d.next) ∧ u.cell? ⟨w.heap.size, 1, none⟩ = some (.slice la ln lc) ∧ u.cell? ⟨w.heap.size, 2, none⟩ = some (.slice fa fn fc) ∧ u.cell? ⟨w.heap.size, 3, none⟩ = some (.slice sa sn sc) ∧ u.cell? ⟨b6 + 1, 1, none⟩ = some (.int .i64 t)) v from fun v hv => ⟨(World.cell?_of_block (a := ⟨w.heap.size, 0, none⟩) (hv w.heap.size (by omega) (by omega) (by omega))).trans v0, (World.cell?_of_block (a := ⟨w.heap.size, 1, none⟩) (hv w.heap.size (by omega) (by omega) (by omega))).trans v1, (World.cell?_of_block (a := ⟨w.heap.size, 2, none⟩) (hv w.heap.size (by omega) (by omega) (by omega))).trans v2, (World.cell?_of_block (a := ⟨w.heap.size, 3, none⟩) (hv w.heap.size (by omega) (by omega) (by omega))).trans v3, (World.cell?_of_block (a := ⟨b6 + 1, 1, none⟩) (hv (b6 + 1) (by omega) (by omega) h70)).trans k7x⟩)
      clear v0 v1 v2 v3 k7x kvv
      have D0 := hide (show ∀ i, i ≠ w.heap.size + 1 + 1 → i ≠ w.heap.size + 1 + 1 + 1 → i < ur.heap.size → ur.drew.heap[i]? = ur.heap[i]? from fun _ _ _ _ => rfl)
      have ZD0 := hide (show ur.heap.size ≤ ur.drew.heap.size from Nat.le_refl _)
      have BD0 := hide (show Below w.heap.size w ur.drew from (unhide BF).drew)
      replace N2 := hide (show ur.drew.heap[w.heap.size + 1 + 1]? = _ from unhide N2)
      replace N3 := hide (show ur.drew.heap[w.heap.size + 1 + 1 + 1]? = _ from unhide N3)
      go_upto_region 26 with fail
      clear a0 a1 a2 a3 a4
      refine wp_region_held_drew (S := (fun u => u.cell? ⟨w.heap.size, 0, none⟩ = some (.int .i64 d.next) ∧ u.cell? ⟨w.heap.size, 1, none⟩ = some (.slice la ln lc) ∧ u.cell? ⟨w.heap.size, 2, none⟩ = some (.slice fa fn fc) ∧ u.cell? ⟨w.heap.size, 3, none⟩ = some (.slice sa sn sc) ∧ u.cell? ⟨b6 + 1, 1, none⟩ = some (.int .i64 t))) (by kernel_rfl) (unhide LD _ (unhide D0)) (fun hHeld => ?_)
      generalize ur.drew = ud at *
      refine anyH_take 0 103 (v := ?v24) rfl rfl (by kernel_rfl) (by kernel_rfl) (by kernel_rfl) (fun _ _ _ h => h) (by rfl) ?h24 hHeld ?r24
      case h24 => (intro w hSw; (try dsimp only at hSw); go_simp; try (with_reducible rfl))
      simp only [Act.put, List.setIfInBounds_toArray, List.set_cons_zero, List.set_cons_succ]
      refine anyH_take 1 104 (v := ?v25) rfl rfl (by kernel_rfl) (by kernel_rfl) (by kernel_rfl) (fun _ _ _ h => h) (by rfl) ?h25 hHeld ?r25
      case h25 => (intro w hSw; (try dsimp only at hSw); go_simp; try (with_reducible rfl))
      simp only [Act.put, List.setIfInBounds_toArray, List.set_cons_zero, List.set_cons_succ]
      refine anyH_take 2 105 (v := ?v26) rfl rfl (by kernel_rfl) (by kernel_rfl) (by kernel_rfl) (fun _ _ _ h => h) (by rfl) ?h26 hHeld ?r26
      case h26 => (intro w hSw; (try dsimp only at hSw); go_simp; try (with_reducible rfl))
      simp only [Act.put, List.setIfInBounds_toArray, List.set_cons_zero, List.set_cons_succ]
      refine anyH_take 3 106 (v := ?v27) rfl rfl (by kernel_rfl) (by kernel_rfl) (by kernel_rfl) (fun _ _ _ h => h) (by rfl) ?h27 hHeld ?r27
      case h27 => (intro w hSw; (try dsimp only at hSw); go_simp; try (with_reducible rfl))
      simp only [Act.put, List.setIfInBounds_toArray, List.set_cons_zero, List.set_cons_succ]
      refine wpAnyH_ready (rs := [4]) (by kernel_rfl) (by simp) ?_
      refine AllReadyH.cons rfl (fun K hK => ?_) AllReadyH.nil
      have c0 := (heap_at (unhide N2) 0).1
      have c1 := (heap_at (unhide N2) 1).1
      have c2 := (heap_at (unhide N2) 2).1
      have c3 := (heap_at (unhide N2) 3).1
      have cf0 := (heap_at (unhide N2) 0).2
      have cf1 := (heap_at (unhide N2) 1).2
      have cf2 := (heap_at (unhide N2) 2).2
      have cf3 := (heap_at (unhide N2) 3).2
      have hw : WrB (fun i => i = w.heap.size + 1 + 1) ud ((((ud.setCell ⟨w.heap.size + 1 + 1, 0, none⟩ (.int .i64 d.next)).setCell ⟨w.heap.size + 1 + 1, 1, none⟩ (.slice la ln lc)).setCell ⟨w.heap.size + 1 + 1, 2, none⟩ (.slice fa fn fc)).setCell ⟨w.heap.size + 1 + 1, 3, none⟩ (.slice sa sn sc)) := sv4_wr ud (w.heap.size + 1 + 1) (.int .i64 d.next) (.slice la ln lc) (.slice fa fn fc) (.slice sa sn sc)
      have D1 := hide (show ∀ i, i ≠ w.heap.size + 1 + 1 → i ≠ w.heap.size + 1 + 1 + 1 → i < ur.heap.size → ((((ud.setCell ⟨w.heap.size + 1 + 1, 0, none⟩ (.int .i64 d.next)).setCell ⟨w.heap.size + 1 + 1, 1, none⟩ (.slice la ln lc)).setCell ⟨w.heap.size + 1 + 1, 2, none⟩ (.slice fa fn fc)).setCell ⟨w.heap.size + 1 + 1, 3, none⟩ (.slice sa sn sc)).heap[i]? = ur.heap[i]? from fun i h1 h2 h3 => (hw.block i (Nat.lt_of_lt_of_le h3 (unhide ZD0)) (by first | exact h1 | exact h2)).trans (unhide D0 i h1 h2 h3))
      have ZD1 := hide (show ur.heap.size ≤ ((((ud.setCell ⟨w.heap.size + 1 + 1, 0, none⟩ (.int .i64 d.next)).setCell ⟨w.heap.size + 1 + 1, 1, none⟩ (.slice la ln lc)).setCell ⟨w.heap.size + 1 + 1, 2, none⟩ (.slice fa fn fc)).setCell ⟨w.heap.size + 1 + 1, 3, none⟩ (.slice sa sn sc)).heap.size from Nat.le_trans (unhide ZD0) hw.size)
      have Ka := hide (show ((((ud.setCell ⟨w.heap.size + 1 + 1, 0, none⟩ (.int .i64 d.next)).setCell ⟨w.heap.size + 1 + 1, 1, none⟩ (.slice la ln lc)).setCell ⟨w.heap.size + 1 + 1, 2, none⟩ (.slice fa fn fc)).setCell ⟨w.heap.size + 1 + 1, 3, none⟩ (.slice sa sn sc)).heap[w.heap.size + 1 + 1]? = some (.cells #[.int .i64 d.next, .slice la ln lc, .slice fa fn fc, .slice sa sn sc] 31 (0, 0)) from sv4_heap (unhide N2) (.int .i64 d.next) (.slice la ln lc) (.slice fa fn fc) (.slice sa sn sc))
      have BD1 := hide (show Below w.heap.size w ((((ud.setCell ⟨w.heap.size + 1 + 1, 0, none⟩ (.int .i64 d.next)).setCell ⟨w.heap.size + 1 + 1, 1, none⟩ (.slice la ln lc)).setCell ⟨w.heap.size + 1 + 1, 2, none⟩ (.slice fa fn fc)).setCell ⟨w.heap.size + 1 + 1, 3, none⟩ (.slice sa sn sc)) from bel_sv4 (unhide BD0) (by omega) (.int .i64 d.next) (.slice la ln lc) (.slice fa fn fc) (.slice sa sn sc))
      have E3 := hide ((hw.block (w.heap.size + 1 + 1 + 1) (blk_lt (unhide N3)) (by omega)).trans (unhide N3))
      clear hw
      go_simp
      refine hK.out _ _ (unhide LD _ (unhide D1)) (fun hHeld => ?_)
      clear hK K
      clear c0 c1 c2 c3 cf0 cf1 cf2 cf3
      generalize ((((ud.setCell ⟨w.heap.size + 1 + 1, 0, none⟩ (.int .i64 d.next)).setCell ⟨w.heap.size + 1 + 1, 1, none⟩ (.slice la ln lc)).setCell ⟨w.heap.size + 1 + 1, 2, none⟩ (.slice fa fn fc)).setCell ⟨w.heap.size + 1 + 1, 3, none⟩ (.slice sa sn sc)) = ue at *
      refine wpAnyH_ready (rs := [5]) (by kernel_rfl) (by simp) ?_
      refine AllReadyH.cons rfl (fun K hK => ?_) AllReadyH.nil
      have c0 := (heap_at (unhide E3) 0).1
      have c1 := (heap_at (unhide E3) 1).1
      have c2 := (heap_at (unhide E3) 2).1
      have c3 := (heap_at (unhide E3) 3).1
      have cf0 := (heap_at (unhide E3) 0).2
      have cf1 := (heap_at (unhide E3) 1).2
      have cf2 := (heap_at (unhide E3) 2).2
      have cf3 := (heap_at (unhide E3) 3).2
      have hw : WrB (fun i => i = w.heap.size + 1 + 1 + 1) ue ((((ue.setCell ⟨w.heap.size + 1 + 1 + 1, 0, none⟩ (.int .i64 11)).setCell ⟨w.heap.size + 1 + 1 + 1, 1, none⟩ (.int .i64 t)).setCell ⟨w.heap.size + 1 + 1 + 1, 2, none⟩ (.string ⟨#[]⟩)).setCell ⟨w.heap.size + 1 + 1 + 1, 3, none⟩ (.slice none 0 0)) := sv4_wr ue (w.heap.size + 1 + 1 + 1) (.int .i64 11) (.int .i64 t) (.string ⟨#[]⟩) (.slice none 0 0)
      have D2 := hide (show ∀ i, i ≠ w.heap.size + 1 + 1 → i ≠ w.heap.size + 1 + 1 + 1 → i < ur.heap.size → ((((ue.setCell ⟨w.heap.size + 1 + 1 + 1, 0, none⟩ (.int .i64 11)).setCell ⟨w.heap.size + 1 + 1 + 1, 1, none⟩ (.int .i64 t)).setCell ⟨w.heap.size + 1 + 1 + 1, 2, none⟩ (.string ⟨#[]⟩)).setCell ⟨w.heap.size + 1 + 1 + 1, 3, none⟩ (.slice none 0 0)).heap[i]? = ur.heap[i]? from fun i h1 h2 h3 => (hw.block i (Nat.lt_of_lt_of_le h3 (unhide ZD1)) (by first | exact h1 | exact h2)).trans (unhide D1 i h1 h2 h3))
      have ZD2 := hide (show ur.heap.size ≤ ((((ue.setCell ⟨w.heap.size + 1 + 1 + 1, 0, none⟩ (.int .i64 11)).setCell ⟨w.heap.size + 1 + 1 + 1, 1, none⟩ (.int .i64 t)).setCell ⟨w.heap.size + 1 + 1 + 1, 2, none⟩ (.string ⟨#[]⟩)).setCell ⟨w.heap.size + 1 + 1 + 1, 3, none⟩ (.slice none 0 0)).heap.size from Nat.le_trans (unhide ZD1) hw.size)
      have Kb := hide (show ((((ue.setCell ⟨w.heap.size + 1 + 1 + 1, 0, none⟩ (.int .i64 11)).setCell ⟨w.heap.size + 1 + 1 + 1, 1, none⟩ (.int .i64 t)).setCell ⟨w.heap.size + 1 + 1 + 1, 2, none⟩ (.string ⟨#[]⟩)).setCell ⟨w.heap.size + 1 + 1 + 1, 3, none⟩ (.slice none 0 0)).heap[w.heap.size + 1 + 1 + 1]? = some (.cells #[.int .i64 11, .int .i64 t, .string ⟨#[]⟩, .slice none 0 0] 49 (0, 0)) from sv4_heap (unhide E3) (.int .i64 11) (.int .i64 t) (.string ⟨#[]⟩) (.slice none 0 0))
      have BD2 := hide (show Below w.heap.size w ((((ue.setCell ⟨w.heap.size + 1 + 1 + 1, 0, none⟩ (.int .i64 11)).setCell ⟨w.heap.size + 1 + 1 + 1, 1, none⟩ (.int .i64 t)).setCell ⟨w.heap.size + 1 + 1 + 1, 2, none⟩ (.string ⟨#[]⟩)).setCell ⟨w.heap.size + 1 + 1 + 1, 3, none⟩ (.slice none 0 0)) from bel_sv4 (unhide BD1) (by omega) (.int .i64 11) (.int .i64 t) (.string ⟨#[]⟩) (.slice none 0 0))
      have Kc := hide ((hw.block (w.heap.size + 1 + 1) (blk_lt (unhide Ka)) (by omega)).trans (unhide Ka))
      clear hw
      go_simp
      refine hK.out _ _ (unhide LD _ (unhide D2)) (fun hHeld => ?_)
      clear hK K
      clear c0 c1 c2 c3 cf0 cf1 cf2 cf3
      generalize ((((ue.setCell ⟨w.heap.size + 1 + 1 + 1, 0, none⟩ (.int .i64 11)).setCell ⟨w.heap.size + 1 + 1 + 1, 1, none⟩ (.int .i64 t)).setCell ⟨w.heap.size + 1 + 1 + 1, 2, none⟩ (.string ⟨#[]⟩)).setCell ⟨w.heap.size + 1 + 1 + 1, 3, none⟩ (.slice none 0 0)) = ug at *
      refine wpAnyH_done (by kernel_rfl) ?_ _
      have r0 := (heap_at (unhide Kc) 0).1
      have r1 := (heap_at (unhide Kc) 1).1
      have r2 := (heap_at (unhide Kc) 2).1
      have r3 := (heap_at (unhide Kc) 3).1
      have q0 := (heap_at (unhide Kb) 0).1
      have q1 := (heap_at (unhide Kb) 1).1
      have q2 := (heap_at (unhide Kb) 2).1
      have q3 := (heap_at (unhide Kb) 3).1
      have RES := hide (show StRes ⟨la, ln, lc⟩ ⟨fa, fn, fc⟩ ⟨sa, sn, sc⟩ hs d (stepV d ⟨3, (i : Int), key, tu, val⟩) w (.returned (.tuple #[.agg #[.int .i64 d.next, .slice la ln lc, .slice fa fn fc, .slice sa sn sc], .agg #[.int .i64 11, .int .i64 t, .string ⟨#[]⟩, .slice none 0 0]])) ug from st_old (unhide HI) (unhide BD2) (unhide ST2))
      clear hHeld LD D0 D1 D2 N2 N3 E3 Ka Kb Kc
      go_wp2_with fail
      refine bodyPost_ret (v := .tuple #[.agg #[.int .i64 d.next, .slice la ln lc, .slice fa fn fc, .slice sa sn sc], .agg #[.int .i64 11, .int .i64 t, .string ⟨#[]⟩, .slice none 0 0]]) (by simp [results, Try.results13, go_sem, *]) rfl ?_
      exact unhide RES
    have hkn : ¬ (40 : Int) < (key.size : Int) := by omega
    have hkd : decide ((40 : Int) < (key.size : Int)) = false := decide_eq_false hkn
    have htn : ¬ (40 : Int) < (tu.size : Int) := by omega
    have htd : decide ((40 : Int) < (tu.size : Int)) = false := decide_eq_false htn
    have STG := hide (show stepV d ⟨3, (i : Int), key, tu, val⟩ = (⟨d.next, d.list, d.fen ++ [⟨key, tu, t⟩], d.ses⟩, ⟨0, t, ⟨#[]⟩, ((seenV d ⟨true, t, wl⟩).filter (fun e => inK key tu e.k))⟩) by
      rw [unhide STP]
      unfold sesV
      rw [if_neg (by simp), if_neg (by simp), if_neg (by rw [unhide FIT, decide_eq_true hk40, decide_eq_true ht40]; simp)]
      unfold inV
      rw [if_neg (by simp), if_pos rfl]
      unfold fenV
      rw [if_neg (by have := (unhide HS).fen; omega)])
    clear STB FIT hk40 ht40
    have hurW := (unhide BR).size
    have hur0 : w.heap.size ≤ ur.heap.size := by omega
    have hge8 : W.heap.size ≤ b8 := by omega
    have h7u : b6 + 1 < ur.heap.size := blk_lt (unhide K7R)
    have hnb : (seenV d ⟨true, t, wl⟩).length ≤ 1000 := by
      have h1 := seenTo_len d ⟨true, t, wl⟩ _ (Nat.le_refl _)
      rw [seenTo_all] at h1
      have h2 := (unhide HS).list
      have h3 := unhide XL
      simp only at h1
      omega
    have kv := ((unhide BR).block w.heap.size hz0).trans (unhide K0)
    have v0 := (heap_at kv 0).1
    have v1 := (heap_at kv 1).1
    have v2 := (heap_at kv 2).1
    have v3 := (heap_at kv 3).1
    have x0 := (heap_at (unhide K7R) 0).1
    have x1 := (heap_at (unhide K7R) 1).1
    have x2 := (heap_at (unhide K7R) 2).1
    have CS := hide (fun (u : World) (hu : Below ur.heap.size ur u) => (l06Seen_any d.next ⟨la, ln, lc⟩ ⟨fa, fn, fc⟩ ⟨sa, sn, sc⟩ ⟨wa, wn, wc⟩ d ⟨true, t, wl⟩ u ((unhide HI).vr.below ((unhide BH).trans (((unhide BR).trans (hu.mono hurW)).mono (unhide BH).size))) (vrow_of_owns (rb_ownsRow_below (unhide XR) hu)) (by have := (unhide HS).list; have := unhide XL; show d.list.length + wl.length ≤ 1000; omega)).mono fun e u' h => show ∃ g k, e = .returned (.slice (some ⟨g, 0, none⟩) (seenV d ⟨true, t, wl⟩).length k) ∧ EOwns u' ur.heap.size (.slice (some ⟨g, 0, none⟩) (seenV d ⟨true, t, wl⟩).length k) (seenV d ⟨true, t, wl⟩) ∧ Below ur.heap.size ur u' by
      obtain ⟨g, k, h1, h2, h3⟩ := h
      exact ⟨g, k, h1, gd_base h2 hu.size, hu.trans (h3.mono hu.size)⟩)
    unfold vzC sesC at CS
    simp only at CS
    have LDX := hide (show ∀ v : World, (∀ i, i ≠ b8 → i < ur.heap.size → v.heap[i]? = ur.heap[i]?) → (fun u => u.cell? ⟨w.heap.size, 0, none⟩ = some (.int .i64 d.next) ∧ u.cell? ⟨w.heap.size, 1, none⟩ = some (.slice la ln lc) ∧ u.cell? ⟨w.heap.size, 2, none⟩ = some (.slice fa fn fc) ∧ u.cell? ⟨w.heap.size, 3, none⟩ = some (.slice sa sn sc) ∧ u.cell? ⟨b6 + 1, 0, none⟩ = some (.bool true) ∧ u.cell? ⟨b6 + 1, 1, none⟩ = some (.int .i64 t) ∧ u.cell? ⟨b6 + 1, 2, none⟩ = some (.slice wa wn wc) ∧ u.cell? ⟨w.heap.size + 1, 2, none⟩ = some (.string key) ∧ u.cell? ⟨w.heap.size + 1, 3, none⟩ = some (.string tu)) v from fun v hv => ⟨(World.cell?_of_block (a := ⟨w.heap.size, 0, none⟩) (hv w.heap.size (by omega) (by omega))).trans v0, (World.cell?_of_block (a := ⟨w.heap.size, 1, none⟩) (hv w.heap.size (by omega) (by omega))).trans v1, (World.cell?_of_block (a := ⟨w.heap.size, 2, none⟩) (hv w.heap.size (by omega) (by omega))).trans v2, (World.cell?_of_block (a := ⟨w.heap.size, 3, none⟩) (hv w.heap.size (by omega) (by omega))).trans v3, (World.cell?_of_block (a := ⟨b6 + 1, 0, none⟩) (hv (b6 + 1) (by omega) h7u)).trans x0, (World.cell?_of_block (a := ⟨b6 + 1, 1, none⟩) (hv (b6 + 1) (by omega) h7u)).trans x1, (World.cell?_of_block (a := ⟨b6 + 1, 2, none⟩) (hv (b6 + 1) (by omega) h7u)).trans x2, (World.cell?_of_block (a := ⟨w.heap.size + 1, 2, none⟩) (hv (w.heap.size + 1) (by omega) (by omega))).trans a2, (World.cell?_of_block (a := ⟨w.heap.size + 1, 3, none⟩) (hv (w.heap.size + 1) (by omega) (by omega))).trans a3⟩)
    have LDB := hide (show ∀ v : World, Below ur.heap.size ur v → (fun u => u.cell? ⟨w.heap.size, 0, none⟩ = some (.int .i64 d.next) ∧ u.cell? ⟨w.heap.size, 1, none⟩ = some (.slice la ln lc) ∧ u.cell? ⟨w.heap.size, 2, none⟩ = some (.slice fa fn fc) ∧ u.cell? ⟨w.heap.size, 3, none⟩ = some (.slice sa sn sc) ∧ u.cell? ⟨b6 + 1, 0, none⟩ = some (.bool true) ∧ u.cell? ⟨b6 + 1, 1, none⟩ = some (.int .i64 t) ∧ u.cell? ⟨b6 + 1, 2, none⟩ = some (.slice wa wn wc) ∧ u.cell? ⟨w.heap.size + 1, 2, none⟩ = some (.string key) ∧ u.cell? ⟨w.heap.size + 1, 3, none⟩ = some (.string tu)) v from fun v hv => unhide LDX v (fun i _ hi => hv.block i hi))
    have D0 : Below ur.heap.size ur ur.drew := (Below.refl _ _).drew
    clear ka kv
    go_upto_region 39 with fail
    clear a0 a1 a2 a3 a4 v0 v1 v2 v3 x0 x1 x2
    refine wp_region_held_drew (S := (fun u => u.cell? ⟨w.heap.size, 0, none⟩ = some (.int .i64 d.next) ∧ u.cell? ⟨w.heap.size, 1, none⟩ = some (.slice la ln lc) ∧ u.cell? ⟨w.heap.size, 2, none⟩ = some (.slice fa fn fc) ∧ u.cell? ⟨w.heap.size, 3, none⟩ = some (.slice sa sn sc) ∧ u.cell? ⟨b6 + 1, 0, none⟩ = some (.bool true) ∧ u.cell? ⟨b6 + 1, 1, none⟩ = some (.int .i64 t) ∧ u.cell? ⟨b6 + 1, 2, none⟩ = some (.slice wa wn wc) ∧ u.cell? ⟨w.heap.size + 1, 2, none⟩ = some (.string key) ∧ u.cell? ⟨w.heap.size + 1, 3, none⟩ = some (.string tu))) (by kernel_rfl) (unhide LDB _ D0) (fun hHeld => ?_)
    refine anyH_take 0 152 (v := ?v13) rfl rfl (by kernel_rfl) (by kernel_rfl) (by kernel_rfl) (fun _ _ _ h => h) (by rfl) ?h13 hHeld ?r13
    case h13 => (intro w hSw; (try dsimp only at hSw); go_simp; try (with_reducible rfl))
    simp only [Act.put, List.setIfInBounds_toArray, List.set_cons_zero, List.set_cons_succ]
    refine anyH_take 1 153 (v := ?v14) rfl rfl (by kernel_rfl) (by kernel_rfl) (by kernel_rfl) (fun _ _ _ h => h) (by rfl) ?h14 hHeld ?r14
    case h14 => (intro w hSw; (try dsimp only at hSw); go_simp; try (with_reducible rfl))
    simp only [Act.put, List.setIfInBounds_toArray, List.set_cons_zero, List.set_cons_succ]
    refine anyH_take 3 155 (v := ?v15) rfl rfl (by kernel_rfl) (by kernel_rfl) (by kernel_rfl) (fun _ _ _ h => h) (by rfl) ?h15 hHeld ?r15
    case h15 => (intro w hSw; (try dsimp only at hSw); go_simp; try (with_reducible rfl))
    simp only [Act.put, List.setIfInBounds_toArray, List.set_cons_zero, List.set_cons_succ]
    refine anyH_take 4 156 (v := ?v16) rfl rfl (by kernel_rfl) (by kernel_rfl) (by kernel_rfl) (fun _ _ _ h => h) (by rfl) ?h16 hHeld ?r16
    case h16 => (intro w hSw; (try dsimp only at hSw); go_simp; try (with_reducible rfl))
    simp only [Act.put, List.setIfInBounds_toArray, List.set_cons_zero, List.set_cons_succ]
    refine anyH_take 5 157 (v := ?v17) rfl rfl (by kernel_rfl) (by kernel_rfl) (by kernel_rfl) (fun _ _ _ h => h) (by rfl) ?h17 hHeld ?r17
    case h17 => (intro w hSw; (try dsimp only at hSw); go_simp; try (with_reducible rfl))
    simp only [Act.put, List.setIfInBounds_toArray, List.set_cons_zero, List.set_cons_succ]
    refine anyH_take 6 158 (v := ?v18) rfl rfl (by kernel_rfl) (by kernel_rfl) (by kernel_rfl) (fun _ _ _ h => h) (by rfl) ?h18 hHeld ?r18
    case h18 => (intro w hSw; (try dsimp only at hSw); go_simp; try (with_reducible rfl))
    simp only [Act.put, List.setIfInBounds_toArray, List.set_cons_zero, List.set_cons_succ]
    refine wpAnyH_ready (rs := [2]) (by kernel_rfl) (by simp) ?_
    refine AllReadyH.cons rfl (fun K hK => ?_) AllReadyH.nil
    go_simp
    refine (unhide CS _ D0).mono ?_
    rintro e w3 ⟨g9, k9, rfl, o9, b9⟩
    have O9 := hide o9
    clear o9
    refine hK.out _ _ (unhide LDB _ b9) (fun hHeld => ?_)
    clear hK K
    refine wpAnyH_ready (rs := [7]) (by kernel_rfl) (by simp) ?_
    refine AllReadyH.cons rfl (fun K hK => ?_) AllReadyH.nil
    go_simp
    refine (l05Range_any (some ⟨g9, 0, none⟩) (seenV d ⟨true, t, wl⟩).length k9 (seenV d ⟨true, t, wl⟩) key tu w3 (erow_of_owns (unhide O9)) hnb).mono ?_
    rintro e w4 ⟨aL, nL, cL, rfl, oL, bL⟩
    have b4 := b9.trans (bL.mono b9.size)
    have k8 := (b4.block b8 (blk_lt (unhide K8))).trans (unhide K8)
    have p3 := (heap_at k8 3).1
    have pf3 := (heap_at k8 3).2
    have hw4 : WrB (fun k => k = b8) w4 (w4.setCell ⟨b8, 3, none⟩ (.slice aL nL cL)) := set1_wr _ _ _ _
    have KR0 := hide (show (w4.setCell ⟨b8, 3, none⟩ (.slice aL nL cL)).heap[b8]? = some (.cells #[.int .i64 0, .int .i64 t, .string ⟨#[]⟩, .slice aL nL cL] 49 (0, 0)) by have := heap_set k8 3 (.slice aL nL cL); simpa using this)
    have OE := hide (show EOwns (w4.setCell ⟨b8, 3, none⟩ (.slice aL nL cL)) ur.heap.size (.slice aL nL cL) ((seenV d ⟨true, t, wl⟩).filter (fun e => inK key tu e.k)) from gd_base (own_keep oL k8 (by decide) hw4) b9.size)
    have B4w := (unhide BR).trans (b4.mono hurW)
    have BUX := hide (show Below W.heap.size W (w4.setCell ⟨b8, 3, none⟩ (.slice aL nL cL)) from B4w.trans (WrB.below hw4 (fun k e => by rw [e]; exact hge8) B4w.size))
    have OUX := hide (show VzOwn (w4.setCell ⟨b8, 3, none⟩ (.slice aL nL cL)) W.heap.size ⟨la1, ln1, lc1⟩ ⟨fa1, fn1, fc1⟩ ⟨some ⟨g, 0, none⟩, 4, sc1⟩ hs1 d from ((unhide OR).below b4).box k8 (by decide) (by decide) (by decide) hw4)
    have EX := hide (show ∀ i, i ≠ b8 → i < ur.heap.size → (w4.setCell ⟨b8, 3, none⟩ (.slice aL nL cL)).heap[i]? = ur.heap[i]? from fun i h1 h2 => (hw4.block i (Nat.lt_of_lt_of_le h2 b4.size) h1).trans (b4.block i h2))
    have LD4 := unhide LDB _ b4
    clear oL bL hw4 B4w k8 O9
    refine hK.out _ _ (LD4) (fun hHeld => ?_)
    clear hK K
    refine anyH_take 8 160 (v := ?v19) rfl rfl (by kernel_rfl) (by kernel_rfl) (by kernel_rfl) (fun _ _ _ h => h) (by rfl) ?h19 hHeld ?r19
    case h19 => (intro w hSw; (try dsimp only at hSw); go_simp; try (with_reducible rfl))
    simp only [Act.put, List.setIfInBounds_toArray, List.set_cons_zero, List.set_cons_succ]
    refine wpAnyH_ready (rs := [9]) (by kernel_rfl) (by simp) ?_
    refine AllReadyH.cons rfl (fun K hK => ?_) AllReadyH.nil
    go_simp
    refine hK.out _ _ (unhide LDX _ (unhide EX)) (fun hHeld => ?_)
    clear hK K
    refine wpAnyH_done (by kernel_rfl) ?_ _
    clear hHeld LDB LDX CS p3 pf3 b9 b4 LD4 D0
    generalize w4.setCell ⟨b8, 3, none⟩ (.slice aL nL cL) = u0 at *
    have kv := ((unhide BUX).block w.heap.size hz0).trans (unhide K0)
    have ka := ((unhide BUX).block (w.heap.size + 1) hz1).trans (unhide K1)
    have k6 := (unhide EX b6 (by omega) (by omega)).trans (unhide K6R)
    have k7 := (unhide EX (b6 + 1) (by omega) (blk_lt (unhide K7R))).trans (unhide K7R)
    have v0 := (heap_at kv 0).1
    have v1 := (heap_at kv 1).1
    have v2 := (heap_at kv 2).1
    have v3 := (heap_at kv 3).1
    have z0 := (heap_at k6 0).1
    have z1 := (heap_at k6 1).1
    have z2 := (heap_at k6 2).1
    have z3 := (heap_at k6 3).1
    have x1 := (heap_at k7 1).1
    have a2 := (heap_at ka 2).1
    have a3 := (heap_at ka 3).1
    have p0 := (heap_at (unhide KR0) 0).1
    have p1 := (heap_at (unhide KR0) 1).1
    have p2 := (heap_at (unhide KR0) 2).1
    have p3 := (heap_at (unhide KR0) 3).1
    have CF := hide (l06Fence_any W.heap.size d ⟨la1, ln1, lc1⟩ ⟨fa1, fn1, fc1⟩ ⟨some ⟨g, 0, none⟩, 4, sc1⟩ hs1 ⟨key, tu, t⟩ ⟨0, t, ⟨#[]⟩, []⟩ ⟨aL, nL, cL⟩ d.next ⟨la, ln, lc⟩ ⟨fa, fn, fc⟩ ⟨sa, sn, sc⟩ u0 (unhide OUX) (unhide BUX).size (unhide HS).fen)
    unfold vzC repC fv at CF
    simp only at CF
    clear kv ka k6 k7 KR0 EX K6R K7R K8 OR BR XR
    go_wp2_with fail
    clear v0 v1 v2 v3 z0 z1 z2 z3 x1 p0 p1 p2 p3 a2 a3
    refine (unhide CF).mono ?_
    rintro e w6 ⟨⟨fa6, fn6, fc6⟩, rfl, hO6, hB6, hW6⟩
    have B6 := hide ((unhide BUX).trans hB6)
    have ky := ((unhide B6).block (w.heap.size + 1 + 1) hz2).trans (unhide K2)
    have kt := ((unhide B6).block (w.heap.size + 1 + 1 + 1) hz3).trans (unhide K3)
    have y0 := (heap_at ky 0).1
    have y1 := (heap_at ky 1).1
    have y2 := (heap_at ky 2).1
    have y3 := (heap_at ky 3).1
    have yf0 := (heap_at ky 0).2
    have yf1 := (heap_at ky 1).2
    have yf2 := (heap_at ky 2).2
    have yf3 := (heap_at ky 3).2
    have tt0 := (heap_at kt 0).1
    have tt1 := (heap_at kt 1).1
    have tt2 := (heap_at kt 2).1
    have tt3 := (heap_at kt 3).1
    have ttf0 := (heap_at kt 0).2
    have ttf1 := (heap_at kt 1).2
    have ttf2 := (heap_at kt 2).2
    have ttf3 := (heap_at kt 3).2
    have hwy : WrB (fun i => i = w.heap.size + 1 + 1) w6 ((((w6.setCell ⟨w.heap.size + 1 + 1, 0, none⟩ (.int .i64 d.next)).setCell ⟨w.heap.size + 1 + 1, 1, none⟩ (.slice la1 ln1 lc1)).setCell ⟨w.heap.size + 1 + 1, 2, none⟩ (.slice fa6 fn6 fc6)).setCell ⟨w.heap.size + 1 + 1, 3, none⟩ (.slice (some ⟨g, 0, none⟩) 4 sc1)) := sv4_wr w6 (w.heap.size + 1 + 1) (.int .i64 d.next) (.slice la1 ln1 lc1) (.slice fa6 fn6 fc6) (.slice (some ⟨g, 0, none⟩) 4 sc1)
    have hwt : WrB (fun i => i = w.heap.size + 1 + 1 + 1) ((((w6.setCell ⟨w.heap.size + 1 + 1, 0, none⟩ (.int .i64 d.next)).setCell ⟨w.heap.size + 1 + 1, 1, none⟩ (.slice la1 ln1 lc1)).setCell ⟨w.heap.size + 1 + 1, 2, none⟩ (.slice fa6 fn6 fc6)).setCell ⟨w.heap.size + 1 + 1, 3, none⟩ (.slice (some ⟨g, 0, none⟩) 4 sc1)) ((((((((w6.setCell ⟨w.heap.size + 1 + 1, 0, none⟩ (.int .i64 d.next)).setCell ⟨w.heap.size + 1 + 1, 1, none⟩ (.slice la1 ln1 lc1)).setCell ⟨w.heap.size + 1 + 1, 2, none⟩ (.slice fa6 fn6 fc6)).setCell ⟨w.heap.size + 1 + 1, 3, none⟩ (.slice (some ⟨g, 0, none⟩) 4 sc1)).setCell ⟨w.heap.size + 1 + 1 + 1, 0, none⟩ (.int .i64 0)).setCell ⟨w.heap.size + 1 + 1 + 1, 1, none⟩ (.int .i64 t)).setCell ⟨w.heap.size + 1 + 1 + 1, 2, none⟩ (.string ⟨#[]⟩)).setCell ⟨w.heap.size + 1 + 1 + 1, 3, none⟩ (.slice aL nL cL)) := sv4_wr _ (w.heap.size + 1 + 1 + 1) (.int .i64 0) (.int .i64 t) (.string ⟨#[]⟩) (.slice aL nL cL)
    have BG := hide (show Below w.heap.size w ((((((((w6.setCell ⟨w.heap.size + 1 + 1, 0, none⟩ (.int .i64 d.next)).setCell ⟨w.heap.size + 1 + 1, 1, none⟩ (.slice la1 ln1 lc1)).setCell ⟨w.heap.size + 1 + 1, 2, none⟩ (.slice fa6 fn6 fc6)).setCell ⟨w.heap.size + 1 + 1, 3, none⟩ (.slice (some ⟨g, 0, none⟩) 4 sc1)).setCell ⟨w.heap.size + 1 + 1 + 1, 0, none⟩ (.int .i64 0)).setCell ⟨w.heap.size + 1 + 1 + 1, 1, none⟩ (.int .i64 t)).setCell ⟨w.heap.size + 1 + 1 + 1, 2, none⟩ (.string ⟨#[]⟩)).setCell ⟨w.heap.size + 1 + 1 + 1, 3, none⟩ (.slice aL nL cL)) from bel_sv4 (bel_sv4 ((unhide BH).trans ((unhide B6).mono (unhide BH).size)) (by omega) _ _ _ _) (by omega) _ _ _ _)
    have OG := (hO6.wr hwy (fun i e => by rw [e]; exact hz2)).wr hwt (fun i e => by rw [e]; exact hz3)
    have hOE := unhide OE
    have hlo : ∀ q, (Value.slice aL nL cL).ownBlock = some q → ur.heap.size ≤ q := fun q hq => (hOE.lt q hq).1
    have OLG := gd_base (rr_owns_wr (rr_owns_wr (rr_owns_wr hOE hW6 (fun q hq => own_other hOE (unhide OUX).fo (by decide) hq)) hwy (fun q hq e => by have := hlo q hq; omega)) hwt (fun q hq e => by have := hlo q hq; omega)) hur0
    have RES := hide (show StRes ⟨la, ln, lc⟩ ⟨fa, fn, fc⟩ ⟨sa, sn, sc⟩ hs d (stepV d ⟨3, (i : Int), key, tu, val⟩) w (.returned (.tuple #[.agg #[.int .i64 d.next, .slice la1 ln1 lc1, .slice fa6 fn6 fc6, .slice (some ⟨g, 0, none⟩) 4 sc1], .agg #[.int .i64 0, .int .i64 t, .string ⟨#[]⟩, .slice aL nL cL]])) ((((((((w6.setCell ⟨w.heap.size + 1 + 1, 0, none⟩ (.int .i64 d.next)).setCell ⟨w.heap.size + 1 + 1, 1, none⟩ (.slice la1 ln1 lc1)).setCell ⟨w.heap.size + 1 + 1, 2, none⟩ (.slice fa6 fn6 fc6)).setCell ⟨w.heap.size + 1 + 1, 3, none⟩ (.slice (some ⟨g, 0, none⟩) 4 sc1)).setCell ⟨w.heap.size + 1 + 1 + 1, 0, none⟩ (.int .i64 0)).setCell ⟨w.heap.size + 1 + 1 + 1, 1, none⟩ (.int .i64 t)).setCell ⟨w.heap.size + 1 + 1 + 1, 2, none⟩ (.string ⟨#[]⟩)).setCell ⟨w.heap.size + 1 + 1 + 1, 3, none⟩ (.slice aL nL cL)) from (by
      rw [unhide STG]
      exact ⟨⟨la1, ln1, lc1⟩, ⟨fa6, fn6, fc6⟩, ⟨some ⟨g, 0, none⟩, 4, sc1⟩, hs1, ⟨aL, nL, cL⟩, rfl, (.inr (OG.dn (Nat.le_of_lt hz0))), OLG, unhide BG⟩))
    clear hwy hwt OG OLG hlo hOE ky kt hO6 hB6 hW6
    go_wp2_with fail
    refine bodyPost_ret (v := .tuple #[.agg #[.int .i64 d.next, .slice la1 ln1 lc1, .slice fa6 fn6 fc6, .slice (some ⟨g, 0, none⟩) 4 sc1], .agg #[.int .i64 0, .int .i64 t, .string ⟨#[]⟩, .slice aL nL cL]]) (by simp [results, Try.results13, go_sem, *]) rfl ?_
    exact unhide RES
end Go.Proofs.Ytodmkbnoljilpaa
