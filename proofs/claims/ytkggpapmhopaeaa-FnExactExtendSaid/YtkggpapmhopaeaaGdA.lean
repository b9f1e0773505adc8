/-
  Lists of records in memory of the call's own, with rows of their own within: plain facts.
-/
import Derived.Test.YtkggpapmhopaeaaRowR
import Derived.Test.YtkggpapmhopaeaaWrT
namespace Go.Proofs.Ytkggpapmhopaeaa
open Go.RowKit

/-- A row within a record. -/
structure Sb where
  t : TypeId
  s : Nat
  n : Nat
  v : Value
  cs : List Value
/-- A record: its cells, and the rows within. -/
structure El where
  hd : List Value
  sb : List Sb
theorem fm_len {S : Nat} : ∀ (es : List El), (∀ e ∈ es, e.hd.length = S) → (es.flatMap (·.hd)).length = es.length * S
  | [], _ => by simp
  | e :: r, h => by
    rw [List.flatMap_cons, List.length_append, fm_len r (fun x hx => h x (List.mem_cons_of_mem _ hx)), h e (List.mem_cons_self ..), List.length_cons, Nat.succ_mul]
    omega
theorem fm_at {S : Nat} : ∀ (es : List El), (∀ e ∈ es, e.hd.length = S) → ∀ (i j : Nat) (e : El), es[i]? = some e → j < S → (es.flatMap (·.hd))[i * S + j]? = e.hd[j]?
  | [], _, i, j, e, hi, _ => by simp at hi
  | x :: r, h, 0, j, e, hi, hj => by
    have hx := h x (List.mem_cons_self ..)
    simp at hi
    subst hi
    rw [List.flatMap_cons, List.getElem?_append_left (by omega)]
    simp
  | x :: r, h, i + 1, j, e, hi, hj => by
    have hx := h x (List.mem_cons_self ..)
    have ih := fm_at r (fun y hy => h y (List.mem_cons_of_mem _ hy)) i j e (by simpa using hi) hj
    rw [List.flatMap_cons, List.getElem?_append_right (by rw [hx, Nat.succ_mul]; omega), hx, Nat.succ_mul, show i * S + S + j - S = i * S + j by omega]
    exact ih
theorem fm_set {S : Nat} : ∀ (es : List El), (∀ e ∈ es, e.hd.length = S) → ∀ (i j : Nat) (e : El) (u : Value) (sb : List Sb), es[i]? = some e → j < S → (es.flatMap (·.hd)).set (i * S + j) u = (es.set i ⟨e.hd.set j u, sb⟩).flatMap (·.hd)
  | [], _, i, j, e, u, sb, hi, _ => by simp at hi
  | x :: r, h, 0, j, e, u, sb, hi, hj => by
    have hx := h x (List.mem_cons_self ..)
    simp at hi
    subst hi
    rw [List.set_cons_zero, List.flatMap_cons, List.flatMap_cons, List.set_append_left _ _ (by omega)]
    simp
  | x :: r, h, i + 1, j, e, u, sb, hi, hj => by
    have hx := h x (List.mem_cons_self ..)
    have ih := fm_set r (fun y hy => h y (List.mem_cons_of_mem _ hy)) i j e u sb (by simpa using hi) hj
    rw [List.set_cons_succ, List.flatMap_cons, List.flatMap_cons, List.set_append_right _ _ (by rw [hx, Nat.succ_mul]; omega), hx, Nat.succ_mul, show i * S + S + j - S = i * S + j by omega, ih]
theorem fm_same {S : Nat} : ∀ (es : List El), (∀ e ∈ es, e.hd.length = S) → ∀ (i : Nat) (e : El) (sb : List Sb), es[i]? = some e → (es.set i ⟨e.hd, sb⟩).flatMap (·.hd) = es.flatMap (·.hd)
  | [], _, i, e, sb, hi => by simp at hi
  | x :: r, h, 0, e, sb, hi => by
    simp at hi
    subst hi
    rw [List.set_cons_zero, List.flatMap_cons, List.flatMap_cons]
  | x :: r, h, i + 1, e, sb, hi => by
    have ih := fm_same r (fun y hy => h y (List.mem_cons_of_mem _ hy)) i e sb (by simpa using hi)
    rw [List.set_cons_succ, List.flatMap_cons, List.flatMap_cons, ih]
/-- The row within a record by numbers. -/
def sbAt (es : List El) (i a : Nat) : Option Sb := es[i]?.bind (·.sb[a]?)
theorem sbAt_mem {es : List El} {i a : Nat} {x : Sb} (h : sbAt es i a = some x) : ∃ e ∈ es, x ∈ e.sb := by
  unfold sbAt at h
  cases hi : es[i]? with
  | none => rw [hi] at h; cases h
  | some e =>
    rw [hi] at h
    exact ⟨e, List.mem_of_getElem? hi, List.mem_of_getElem? h⟩
theorem sbAt_of {es : List El} {e : El} {x : Sb} (he : e ∈ es) (hx : x ∈ e.sb) : ∃ i a, sbAt es i a = some x := by
  obtain ⟨i, hi, rfl⟩ := List.getElem_of_mem he
  obtain ⟨a, ha, rfl⟩ := List.getElem_of_mem hx
  exact ⟨i, a, by unfold sbAt; rw [List.getElem?_eq_getElem hi]; simp [ha]⟩
theorem sbAt_set {es : List El} {i k a : Nat} {e : El} (hi : i < es.length) : sbAt (es.set i e) k a = if k = i then e.sb[a]? else sbAt es k a := by
  unfold sbAt
  by_cases h : k = i
  · subst h; rw [if_pos rfl, List.getElem?_set_self hi]; rfl
  · rw [if_neg h, List.getElem?_set_ne (fun e => h e.symm)]
/-- A list of records that the call owns from block B on: no two of its rows share memory. -/
structure NOwn (w : World) (B T S : Nat) (v : Value) (n : Nat) (es : List El) : Prop where
  row : w.ownsRow B T S v n (es.flatMap (·.hd))
  len : es.length = n
  wid : ∀ e ∈ es, e.hd.length = S
  dat : ∀ i a x, sbAt es i a = some x → w.ownsRow B x.t x.s x.v x.n x.cs
  far : ∀ i j a b x y, sbAt es i a = some x → sbAt es j b = some y → (i ≠ j ∨ a ≠ b) → ∀ g, x.v.ownBlock = some g → y.v.ownBlock ≠ some g
  off : ∀ i a x, sbAt es i a = some x → ∀ g, v.ownBlock = some g → x.v.ownBlock ≠ some g
/-- The blocks of a list of records. -/
def NBl (v : Value) (es : List El) (i : Nat) : Prop := v.ownBlock = some i ∨ ∃ k a x, sbAt es k a = some x ∧ x.v.ownBlock = some i
theorem NOwn.lt {w : World} {B T S n : Nat} {v : Value} {es : List El} (h : NOwn w B T S v n es) (i : Nat) (hi : NBl v es i) : B ≤ i ∧ i < w.heap.size := by
  rcases hi with hi | ⟨k, a, x, hx, hi⟩
  · exact h.row.lt i hi
  · exact (h.dat k a x hx).lt i hi
theorem NOwn.wr {P : Nat → Prop} {w w' : World} {B T S n : Nat} {v : Value} {es : List El} (h : NOwn w B T S v n es) (hw : WrB P w w') (hp : ∀ i, NBl v es i → ¬ P i) : NOwn w' B T S v n es :=
  ⟨rr_owns_wr h.row hw (fun i hi => hp i (.inl hi)), h.len, h.wid, fun i a x hx => rr_owns_wr (h.dat i a x hx) hw (fun k hk => hp k (.inr ⟨i, a, x, hx, hk⟩)), h.far, h.off⟩
theorem NOwn.below {w w' : World} {B T S n : Nat} {v : Value} {es : List El} (h : NOwn w B T S v n es) (hb : Below w.heap.size w w') : NOwn w' B T S v n es :=
  ⟨rb_ownsRow_below h.row hb, h.len, h.wid, fun i a x hx => rb_ownsRow_below (h.dat i a x hx) hb, h.far, h.off⟩
theorem gd_base {w : World} {B C e s n : Nat} {v : Value} {vs : List Value} (h : w.ownsRow B e s v n vs) (hc : C ≤ B) : w.ownsRow C e s v n vs := by
  obtain ⟨h1, h2⟩ := h
  refine ⟨h1, ?_⟩
  rcases h2 with h2 | ⟨g, cap, cur, e, hb, r⟩
  · exact .inl h2
  · exact .inr ⟨g, cap, cur, e, Nat.le_trans hc hb, r⟩
theorem gd_set {w : World} {B e s n : Nat} {v : Value} {vs : List Value} {q : Nat} (h : w.ownsRow B e s v n vs) (hq : q < B) (j : Nat) (u : Value) : (w.setCell ⟨q, j, none⟩ u).ownsRow B e s v n vs :=
  ownsRow_heap h (fun g hg => Below.heap_setCell _ _ _ _ (by have := (h.lt g hg).1; show g ≠ q; omega))
theorem NOwn.down {w : World} {B C T S n : Nat} {v : Value} {es : List El} (h : NOwn w B T S v n es) (hc : C ≤ B) : NOwn w C T S v n es :=
  ⟨gd_base h.row hc, h.len, h.wid, fun i a x hx => gd_base (h.dat i a x hx) hc, h.far, h.off⟩
theorem NOwn.cell {w : World} {B T S g n c : Nat} {es : List El} (h : NOwn w B T S (.slice (some ⟨g, 0, none⟩) n c) n es) {i j : Nat} {e : El} {u : Value} (hi : es[i]? = some e) (hu : e.hd[j]? = some u) : w.cell? ⟨g, i * S + j, none⟩ = some u := by
  have hil : i < es.length := (List.getElem?_eq_some_iff.1 hi).1
  have hj : j < S := by have := (List.getElem?_eq_some_iff.1 hu).1; rw [h.wid e (List.mem_of_getElem? hi)] at this; exact this
  have hlt : i * S + j < n * S := by
    rw [← h.len]
    calc i * S + j < i * S + S := by omega
      _ = (i + 1) * S := by rw [Nat.succ_mul]
      _ ≤ es.length * S := Nat.mul_le_mul_right S hil
  rw [h.row.cellAt _ hlt, fm_at es h.wid i j e hi hj, hu]
theorem NOwn.free {w : World} {B T S g n c : Nat} {es : List El} (h : NOwn w B T S (.slice (some ⟨g, 0, none⟩) n c) n es) (j : Nat) : w.frozen? ⟨g, j, none⟩ = false := h.row.frozenAt j
/-- A cell of a record set anew. -/
theorem NOwn.setHd {w : World} {B T S g n c : Nat} {es : List El} (h : NOwn w B T S (.slice (some ⟨g, 0, none⟩) n c) n es) {i j : Nat} {e : El} (hi : es[i]? = some e) (hj : j < S) (u : Value) :
    NOwn (w.setCell ⟨g, i * S + j, none⟩ u) B T S (.slice (some ⟨g, 0, none⟩) n c) n (es.set i ⟨e.hd.set j u, e.sb⟩) ∧ WrB (fun k => k = g) w (w.setCell ⟨g, i * S + j, none⟩ u) := by
  have hil : i < es.length := (List.getElem?_eq_some_iff.1 hi).1
  have hw : WrB (fun k => k = g) w (w.setCell ⟨g, i * S + j, none⟩ u) := ⟨rfl, rfl, rfl, by simp [World.setCell], fun k _ hk => Below.heap_setCell _ _ _ _ hk⟩
  have sb : ∀ k a, sbAt (es.set i ⟨e.hd.set j u, e.sb⟩) k a = sbAt es k a := fun k a => by
    rw [sbAt_set hil]
    by_cases hk : k = i
    · subst hk; rw [if_pos rfl]; unfold sbAt; rw [hi]; rfl
    · rw [if_neg hk]
  refine ⟨⟨?_, by rw [List.length_set]; exact h.len, fun x hx => ?_, fun k a x hx => ?_, fun k l a b x y hx hy => ?_, fun k a x hx => ?_⟩, hw⟩
  · rw [← fm_set es h.wid i j e u e.sb hi hj]
    exact (World.ownsRow.stored h.row (i * S + j) u).1
  · rcases List.mem_or_eq_of_mem_set hx with hx | rfl
    · exact h.wid x hx
    · show (e.hd.set j u).length = S
      rw [List.length_set]
      exact h.wid e (List.mem_of_getElem? hi)
  · rw [sb] at hx
    exact rr_owns_wr (h.dat k a x hx) hw (fun q hq e => h.off k a x hx g rfl (by rw [← e]; exact hq))
  · rw [sb] at hx hy
    exact h.far k l a b x y hx hy
  · rw [sb] at hx
    exact h.off k a x hx
/-- Cells laid one behind the other. -/
def setAll (g : Nat) : World → Nat → List Value → World
  | w, _, [] => w
  | w, o, v :: r => setAll g (w.setCell ⟨g, o, none⟩ v) (o + 1) r
theorem NOwn.store {B T S g n c i : Nat} : ∀ (new old pre : List Value) {w : World} {es : List El} {sb : List Sb}, NOwn w B T S (.slice (some ⟨g, 0, none⟩) n c) n es → es[i]? = some ⟨pre ++ old, sb⟩ → old.length = new.length →
    NOwn (setAll g w (i * S + pre.length) new) B T S (.slice (some ⟨g, 0, none⟩) n c) n (es.set i ⟨pre ++ new, sb⟩)
  | [], old, pre, w, es, sb, h, hi, hl => by
    obtain rfl : old = [] := List.eq_nil_of_length_eq_zero hl
    have hil := (List.getElem?_eq_some_iff.1 hi)
    obtain ⟨hil, he⟩ := hil
    rw [← he, List.set_getElem_self]
    exact h
  | v :: r, [], pre, w, es, sb, h, hi, hl => by simp at hl
  | v :: r, u :: old, pre, w, es, sb, h, hi, hl => by
    have hil := (List.getElem?_eq_some_iff.1 hi).1
    have hw := h.wid _ (List.mem_of_getElem? hi)
    simp only [List.length_append, List.length_cons] at hw
    obtain ⟨h1, _⟩ := h.setHd hi (j := pre.length) (by omega) v
    have e : (pre ++ u :: old).set pre.length v = (pre ++ [v]) ++ old := by rw [List.set_append_right _ _ (Nat.le_refl _), Nat.sub_self, List.set_cons_zero, List.append_assoc, List.singleton_append]
    simp only at h1
    rw [e] at h1
    have h2 := NOwn.store r old (pre ++ [v]) h1 (List.getElem?_set_self hil) (by simpa using hl)
    rw [List.set_set, List.length_append, List.length_singleton, List.append_assoc, List.singleton_append] at h2
    exact h2
/-- A row within a record has changed. -/
theorem NOwn.setSb {w w' : World} {B T S n : Nat} {v : Value} {es : List El} (h : NOwn w B T S v n es) {i a : Nat} {e : El} {x x' : Sb} (hi : es[i]? = some e) (ha : e.sb[a]? = some x) (hv : x'.v = x.v) (ho : w'.ownsRow B x'.t x'.s x'.v x'.n x'.cs) (hw : WrB (fun k => x.v.ownBlock = some k) w w') :
    NOwn w' B T S v n (es.set i ⟨e.hd, e.sb.set a x'⟩) := by
  have hil : i < es.length := (List.getElem?_eq_some_iff.1 hi).1
  have hal : a < e.sb.length := (List.getElem?_eq_some_iff.1 ha).1
  have hx0 : sbAt es i a = some x := by unfold sbAt; rw [hi]; exact ha
  have sb : ∀ k b y, sbAt (es.set i ⟨e.hd, e.sb.set a x'⟩) k b = some y → (k = i ∧ b = a ∧ y = x') ∨ (sbAt es k b = some y ∧ (i ≠ k ∨ a ≠ b)) := fun k b y hy => by
    rw [sbAt_set hil] at hy
    by_cases hk : k = i
    · subst hk
      rw [if_pos rfl] at hy
      simp only at hy
      by_cases hb : b = a
      · subst hb
        rw [List.getElem?_set_self hal] at hy
        injection hy with hy
        exact .inl ⟨rfl, rfl, hy.symm⟩
      · rw [List.getElem?_set_ne (fun e => hb e.symm)] at hy
        exact .inr ⟨by unfold sbAt; rw [hi]; exact hy, .inr (fun e => hb e.symm)⟩
    · rw [if_neg hk] at hy
      exact .inr ⟨hy, .inl (fun e => hk e.symm)⟩
  refine ⟨?_, by rw [List.length_set]; exact h.len, fun y hy => ?_, fun k b y hy => ?_, fun k l b d y z hy hz hne => ?_, fun k b y hy => ?_⟩
  · rw [fm_same es h.wid i e _ hi]
    exact rr_owns_wr h.row hw (fun k hk e => h.off i a x hx0 k hk e)
  · rcases List.mem_or_eq_of_mem_set hy with hy | rfl
    · exact h.wid y hy
    · exact h.wid e (List.mem_of_getElem? hi)
  · rcases sb k b y hy with ⟨_, _, rfl⟩ | ⟨hy, hne⟩
    · exact ho
    · exact rr_owns_wr (h.dat k b y hy) hw (fun q hq e => h.far i k a b x y hx0 hy hne q e hq)
  · rcases sb k b y hy with ⟨rfl, rfl, rfl⟩ | ⟨qy, hn1⟩
    · rcases sb l d z hz with ⟨rfl, rfl, rfl⟩ | ⟨qz, hn2⟩
      · rcases hne with h | h <;> exact absurd rfl h
      · rw [hv]; exact h.far k l b d x z hx0 qz hn2
    · rcases sb l d z hz with ⟨rfl, rfl, rfl⟩ | ⟨qz, hn2⟩
      · rw [hv]; exact h.far k l b d y x qy hx0 hne
      · exact h.far k l b d y z qy qz hne
  · rcases sb k b y hy with ⟨rfl, rfl, rfl⟩ | ⟨hy, _⟩
    · rw [hv]; exact h.off k b x hx0
    · exact h.off k b y hy
/-- New rows come into a record that had none. -/
theorem NOwn.addSb {w w' : World} {B C T S n : Nat} {v : Value} {es : List El} (h : NOwn w B T S v n es) {i : Nat} {e : El} {xs : List Sb} (hi : es[i]? = some e) (hb : Below w.heap.size w w') (hC : w.heap.size ≤ C) (hBC : B ≤ C) (ho : ∀ x ∈ xs, w'.ownsRow C x.t x.s x.v x.n x.cs)
    (hf : ∀ (a b : Nat) (x y : Sb), xs[a]? = some x → xs[b]? = some y → a ≠ b → ∀ g, x.v.ownBlock = some g → y.v.ownBlock ≠ some g) :
    NOwn w' B T S v n (es.set i ⟨e.hd, xs⟩) := by
  have hil : i < es.length := (List.getElem?_eq_some_iff.1 hi).1
  have sb : ∀ k b y, sbAt (es.set i ⟨e.hd, xs⟩) k b = some y → (k = i ∧ xs[b]? = some y) ∨ (k ≠ i ∧ sbAt es k b = some y) := fun k b y hy => by
    rw [sbAt_set hil] at hy
    by_cases hk : k = i
    · subst hk; rw [if_pos rfl] at hy; exact .inl ⟨rfl, hy⟩
    · rw [if_neg hk] at hy; exact .inr ⟨hk, hy⟩
  have lo : ∀ (b : Nat) (y : Sb), xs[b]? = some y → ∀ g, y.v.ownBlock = some g → w.heap.size ≤ g := fun b y hy g hg => Nat.le_trans hC ((ho y (List.mem_of_getElem? hy)).lt g hg).1
  have up : ∀ (k b : Nat) (y : Sb), sbAt es k b = some y → ∀ g, y.v.ownBlock = some g → g < w.heap.size := fun k b y hy g hg => ((h.dat k b y hy).lt g hg).2
  refine ⟨?_, by rw [List.length_set]; exact h.len, fun y hy => ?_, fun k b y hy => ?_, fun k l b d y z hy hz hne => ?_, fun k b y hy => ?_⟩
  · rw [fm_same es h.wid i e _ hi]
    exact rb_ownsRow_below h.row hb
  · rcases List.mem_or_eq_of_mem_set hy with hy | rfl
    · exact h.wid y hy
    · exact h.wid e (List.mem_of_getElem? hi)
  · rcases sb k b y hy with ⟨_, hy⟩ | ⟨_, hy⟩
    · exact gd_base (ho y (List.mem_of_getElem? hy)) hBC
    · exact rb_ownsRow_below (h.dat k b y hy) hb
  · rcases sb k b y hy with ⟨hk, hy⟩ | ⟨hk, hy⟩
    · rcases sb l d z hz with ⟨hl, hz⟩ | ⟨hl, hz⟩
      · exact hf b d y z hy hz (by rcases hne with h | h; exact absurd (hk.trans hl.symm) h; exact h)
      · exact fun g h1 h2 => by have := lo b y hy g h1; have := up l d z hz g h2; omega
    · rcases sb l d z hz with ⟨hl, hz⟩ | ⟨hl, hz⟩
      · exact fun g h1 h2 => by have := up k b y hy g h1; have := lo d z hz g h2; omega
      · exact h.far k l b d y z hy hz hne
  · rcases sb k b y hy with ⟨_, hy⟩ | ⟨_, hy⟩
    · exact fun g h1 h2 => by have := lo b y hy g h2; have := (h.row.lt g h1).2; omega
    · exact h.off k b y hy
/-- A record laid at a place where there was one without rows. -/
theorem NOwn.put {w w' : World} {B C T S g n c i : Nat} {es : List El} {e e' : El} (h : NOwn w B T S (.slice (some ⟨g, 0, none⟩) n c) n es) (hi : es[i]? = some e) (hb : Below w.heap.size w w') (hC : w.heap.size ≤ C) (hBC : B ≤ C) (ho : ∀ x ∈ e'.sb, w'.ownsRow C x.t x.s x.v x.n x.cs)
    (hf : ∀ (a b : Nat) (x y : Sb), e'.sb[a]? = some x → e'.sb[b]? = some y → a ≠ b → ∀ g, x.v.ownBlock = some g → y.v.ownBlock ≠ some g) (hl : e.hd.length = e'.hd.length) :
    NOwn (setAll g w' (i * S) e'.hd) B T S (.slice (some ⟨g, 0, none⟩) n c) n (es.set i e') := by
  have hil := (List.getElem?_eq_some_iff.1 hi).1
  have h1 := h.addSb hi hb hC hBC ho hf
  have h2 := NOwn.store e'.hd e.hd [] h1 (List.getElem?_set_self hil) hl
  rw [List.set_set] at h2
  exact h2
theorem setAll_below {B g : Nat} (hg : B ≤ g) : ∀ (vs : List Value) (o : Nat) {w w' : World}, Below B w w' → Below B w (setAll g w' o vs)
  | [], _, _, _, h => h
  | v :: r, o, _, _, h => setAll_below hg r (o + 1) (h.setCell (p := ⟨g, o, none⟩) hg v)
/-- Records without rows. -/
theorem NOwn.flat {w : World} {B T S n : Nat} {v : Value} {es : List El} (h : w.ownsRow B T S v n (es.flatMap (·.hd))) (hl : es.length = n) (hw : ∀ e ∈ es, e.hd.length = S) (hs : ∀ e ∈ es, e.sb = []) : NOwn w B T S v n es := by
  have no : ∀ i a x, sbAt es i a ≠ some x := fun i a x hx => by
    obtain ⟨e, he, hx⟩ := sbAt_mem hx
    rw [hs e he] at hx
    cases hx
  exact ⟨h, hl, hw, fun i a x hx => absurd hx (no i a x), fun i j a b x y hx => absurd hx (no i a x), fun i a x hx => absurd hx (no i a x)⟩
/-- A row as it reads. -/
def RowC (w : World) (v : Value) (n : Nat) (cs : List Value) : Prop := ∃ a c, v = .slice a n c ∧ ∀ j u, cs[j]? = some u → ∃ b off, a = some ⟨b, off, none⟩ ∧ w.cell? ⟨b, off + j, none⟩ = some u
theorem RowC.below {w w' : World} {v : Value} {n : Nat} {cs : List Value} (h : RowC w v n cs) (hb : Below w.heap.size w w') : RowC w' v n cs := by
  obtain ⟨a, c, e, h⟩ := h
  refine ⟨a, c, e, fun j u hu => ?_⟩
  obtain ⟨b, off, e2, h2⟩ := h j u hu
  exact ⟨b, off, e2, (hb.cell (p := ⟨b, off + j, none⟩) (cell_lt h2)).trans h2⟩
theorem rowC_of_owns {w : World} {B t s n : Nat} {v : Value} {cs : List Value} (h : w.ownsRow B t s v n cs) : RowC w v n cs := by
  rcases h.2 with ⟨rfl, rfl⟩ | ⟨g, cap, cur, rfl, _⟩
  · exact ⟨none, 0, rfl, fun j u hu => by have := (List.getElem?_eq_some_iff.1 hu).1; have := h.1; omega⟩
  · exact ⟨_, cap, rfl, fun j u hu => ⟨g, 0, rfl, by rw [Nat.zero_add, h.cellAt j (by rw [← h.1]; exact (List.getElem?_eq_some_iff.1 hu).1), hu]⟩⟩
theorem RowC.at {w : World} {a : Option Addr} {n c j : Nat} {cs : List Value} {u : Value} (h : RowC w (.slice a n c) n cs) (hu : cs[j]? = some u) : ∃ b off, a = some ⟨b, off, none⟩ ∧ w.cell? ⟨b, off + j, none⟩ = some u := by
  obtain ⟨a', c', e, h⟩ := h
  injection e with e _ _
  rw [e]
  exact h j u hu
/-- A list of records as it reads. -/
structure NIn (w : World) (S : Nat) (v : Value) (n : Nat) (es : List El) : Prop where
  row : RowC w v n (es.flatMap (·.hd))
  len : es.length = n
  wid : ∀ e ∈ es, e.hd.length = S
  dat : ∀ e ∈ es, ∀ x ∈ e.sb, RowC w x.v x.n x.cs
theorem NIn.below {w w' : World} {S n : Nat} {v : Value} {es : List El} (h : NIn w S v n es) (hb : Below w.heap.size w w') : NIn w' S v n es :=
  ⟨h.row.below hb, h.len, h.wid, fun e he x hx => (h.dat e he x hx).below hb⟩
theorem NOwn.reads {w : World} {B T S n : Nat} {v : Value} {es : List El} (h : NOwn w B T S v n es) : NIn w S v n es :=
  ⟨rowC_of_owns h.row, h.len, h.wid, fun e he x hx => by
    obtain ⟨i, a, hi⟩ := sbAt_of he hx
    exact rowC_of_owns (h.dat i a x hi)⟩
theorem NIn.cell {w : World} {S n : Nat} {a : Option Addr} {c : Nat} {es : List El} (h : NIn w S (.slice a n c) n es) {i : Nat} {e : El} (hi : es[i]? = some e) (h0 : 0 < S) : ∃ b off, a = some ⟨b, off, none⟩ ∧ b < w.heap.size ∧ ∀ j u, e.hd[j]? = some u → w.cell? ⟨b, off + (i * S + j), none⟩ = some u := by
  obtain ⟨a', c', e', h1⟩ := h.row
  injection e' with e1 _ _
  subst e1
  have hw := h.wid e (List.mem_of_getElem? hi)
  obtain ⟨b, off, rfl, q⟩ := h1 (i * S + 0) (e.hd[0]'(by omega)) (by rw [fm_at es h.wid i 0 e hi h0]; exact List.getElem?_eq_getElem _)
  refine ⟨b, off, rfl, cell_lt q, fun j u hu => ?_⟩
  obtain ⟨b', off', e2, q2⟩ := h1 (i * S + j) u (by rw [fm_at es h.wid i j e hi (by have := (List.getElem?_eq_some_iff.1 hu).1; omega)]; exact hu)
  cases e2
  exact q2
/-! Marks, one behind the other. -/
section
variable {H : Type} (cnt : H → Nat) (mk : Nat → H → H)
/-- The next mark behind some. -/
def kG (k : Nat) : List H → Nat
  | [] => k
  | h :: r => kG (k + cnt h) r
/-- All marked. -/
def mkG (k : Nat) : List H → List H
  | [] => []
  | h :: r => mk k h :: mkG (k + cnt h) r
theorem kG_snoc : ∀ (k : Nat) (hs : List H) (h : H), kG cnt k (hs ++ [h]) = kG cnt k hs + cnt h
  | k, [], h => rfl
  | k, x :: r, h => by simp only [List.cons_append, kG]; exact kG_snoc _ r h
theorem mkG_snoc : ∀ (k : Nat) (hs : List H) (h : H), mkG cnt mk k (hs ++ [h]) = mkG cnt mk k hs ++ [mk (kG cnt k hs) h]
  | k, [], h => rfl
  | k, x :: r, h => by simp only [List.cons_append, mkG, kG]; rw [mkG_snoc _ r h]
theorem mkG_len : ∀ (k : Nat) (hs : List H), (mkG cnt mk k hs).length = hs.length
  | k, [] => rfl
  | k, x :: r => by simp only [mkG, List.length_cons]; rw [mkG_len _ r]
theorem kG_mono : ∀ (k : Nat) (hs : List H), k ≤ kG cnt k hs
  | k, [] => Nat.le_refl _
  | k, x :: r => Nat.le_trans (by omega) (kG_mono _ r)
theorem kG_take (k : Nat) (hs : List H) (j : Nat) : kG cnt k (hs.take j) ≤ kG cnt k hs := by
  induction hs generalizing k j with
  | nil => simp [kG]
  | cons x r ih =>
    cases j with
    | zero => exact kG_mono cnt _ _
    | succ j => exact ih _ j
theorem kG_sum : ∀ (k : Nat) (hs : List H), kG cnt k hs = k + (hs.map cnt).sum
  | k, [] => rfl
  | k, x :: r => by simp only [kG, List.map_cons, List.sum_cons]; rw [kG_sum _ r]; omega
/-- The first j marked, the others as they were. -/
def haG (k : Nat) (hs : List H) (j : Nat) : List H := mkG cnt mk k (hs.take j) ++ hs.drop j
theorem haG_len (k : Nat) (hs : List H) (j : Nat) (hj : j ≤ hs.length) : (haG cnt mk k hs j).length = hs.length := by
  unfold haG
  rw [List.length_append, mkG_len, List.length_take, List.length_drop]
  omega
theorem haG_at {k : Nat} {hs : List H} {j : Nat} (hj : j < hs.length) : (haG cnt mk k hs j)[j]? = some hs[j] := by
  unfold haG
  rw [List.getElem?_append_right (by rw [mkG_len, List.length_take]; omega), mkG_len, List.length_take, show j - min j hs.length = 0 by omega, List.getElem?_drop]
  simp [hj]
theorem haG_step {k : Nat} {hs : List H} {j : Nat} (hj : j < hs.length) : haG cnt mk k hs (j + 1) = (haG cnt mk k hs j).set j (mk (kG cnt k (hs.take j)) hs[j]) := by
  unfold haG
  rw [rb_take_snoc hs j hj, mkG_snoc, List.set_append_right _ _ (by rw [mkG_len, List.length_take]; omega), mkG_len, List.length_take, show j - min j hs.length = 0 by omega, List.drop_eq_getElem_cons hj, List.set_cons_zero, List.append_assoc, List.singleton_append]
theorem haG_all (k : Nat) (hs : List H) : haG cnt mk k hs hs.length = mkG cnt mk k hs := by unfold haG; simp
theorem mkG_at : ∀ (k : Nat) (hs : List H) (j : Nat) (hj : j < hs.length), (mkG cnt mk k hs)[j]? = some (mk (kG cnt k (hs.take j)) hs[j])
  | k, [], j, hj => by simp at hj
  | k, x :: r, 0, _ => rfl
  | k, x :: r, j + 1, hj => by
    have e := mkG_at (k + cnt x) r j (by simpa using hj)
    simp only [mkG, List.getElem?_cons_succ, List.take_succ_cons, kG, List.getElem_cons_succ]
    exact e
end
theorem gd_le_sum {H : Type} (f : H → Nat) : ∀ (l : List H) (h : H), h ∈ l → f h ≤ (l.map f).sum
  | [], h, hh => by simp at hh
  | x :: r, h, hh => by
    simp only [List.map_cons, List.sum_cons]
    rcases List.mem_cons.1 hh with rfl | hh
    · omega
    · have := gd_le_sum f r h hh; omega
theorem gd_sum_le {H : Type} (f g : H → Nat) (c : Nat) : ∀ (l : List H), (∀ h ∈ l, f h ≤ g h + c) → (l.map f).sum ≤ (l.map g).sum + l.length * c
  | [], _ => by simp
  | x :: r, h => by
    simp only [List.map_cons, List.sum_cons, List.length_cons, Nat.succ_mul]
    have h1 := h x (List.mem_cons_self ..)
    have h2 := gd_sum_le f g c r (fun y hy => h y (List.mem_cons_of_mem _ hy))
    omega
theorem WrB.seq {P : Nat → Prop} {w1 w2 w3 : World} (h : WrB P w1 w2) (k : WrB P w2 w3) : WrB P w1 w3 :=
  ⟨k.os.trans h.os, k.tape.trans h.tape, k.output.trans h.output, Nat.le_trans h.size k.size, fun i hi hp => (k.block i (Nat.lt_of_lt_of_le hi h.size) hp).trans (h.block i hi hp)⟩
theorem WrB.weak {P Q : Nat → Prop} {w w' : World} (h : WrB P w w') (hpq : ∀ i, P i → Q i) : WrB Q w w' := ⟨h.os, h.tape, h.output, h.size, fun k hk hq => h.block k hk (fun hp => hq (hpq k hp))⟩
theorem WrB.same (P : Nat → Prop) (w : World) : WrB P w w := ⟨rfl, rfl, rfl, Nat.le_refl _, fun _ _ _ => rfl⟩
theorem WrB.of_below {P : Nat → Prop} {w w' : World} (h : Below w.heap.size w w') : WrB P w w' := ⟨h.os, h.tape, h.output, h.size, fun k hk _ => h.block k hk⟩
end Go.Proofs.Ytkggpapmhopaeaa
