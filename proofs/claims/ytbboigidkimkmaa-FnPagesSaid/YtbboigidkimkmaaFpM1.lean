/-
  HeldB, RowR, GdA, KdA, PageT, PageU, PgCc, PageV, PageW, FdM, FpB, FpC, SrcZ, KyD, FdH, FdI, FdS, FdJ, FpK, FpP in one.
-/
import Derived.Test.YtbboigidkimkmaaMark
import Derived.Test.YtbboigidkimkmaaRowB
import Derived.Test.YtbboigidkimkmaaBytes
import Derived.Test.YtbboigidkimkmaaMarkB
import Derived.Test.YtbboigidkimkmaaWrT
import Derived.Test.YtbboigidkimkmaaPageS
import Derived.Test.YtbboigidkimkmaaPgK
import Derived.Test.YtbboigidkimkmaaPgG
import Derived.Test.YtbboigidkimkmaaFdL
import Derived.Test.YtbboigidkimkmaaPgB
import Derived.Test.YtbboigidkimkmaaFdG
import Derived.Test.YtbboigidkimkmaaFpA
import Derived.Test.YtbboigidkimkmaaSrcN
import Derived.Test.YtbboigidkimkmaaFdD
import Derived.Test.YtbboigidkimkmaaFdE
import Derived.Deep.RegionWith
import Derived.Laws.StructEq
import Derived.Deep.DeepCutAuto
import Derived.ProofKit
import Derived.OpenShut
import Derived.ShutString
import Derived.ChangeOld
import Derived.Below
namespace Go.Proofs.Ytbboigidkimkmaa
open Go.RowKit

end Go.Proofs.Ytbboigidkimkmaa

namespace Go.Proofs.Ytbboigidkimkmaa
open Go.RowKit

/-- Blocks of which P does not hold stay. -/
structure WrB (P : Nat → Prop) (w w' : World) : Prop where
  os : w'.os = w.os
  tape : w'.tape = w.tape
  output : w'.output = w.output
  size : w.heap.size ≤ w'.heap.size
  block : ∀ k, k < w.heap.size → ¬ P k → w'.heap[k]? = w.heap[k]?
theorem WrB.of_grown {w w' : World} {r : Option Nat} (h : w.grownBy w' r) : WrB (fun i => r = some i) w w' :=
  ⟨h.os, h.tape, h.output, h.size, fun k hk hp => h.block k hk (fun e => hp e.symm)⟩
theorem WrB.of_touch {a : Option Addr} {w w' : World} (h : Touch a w w') : WrB (fun i => ∃ x, a = some x ∧ i = x.block) w w' := by
  rcases h with rfl | ⟨x, hx, ho⟩
  · exact ⟨rfl, rfl, rfl, Nat.le_refl _, fun _ _ _ => rfl⟩
  · exact ⟨ho.os, ho.tape, ho.output, Nat.le_of_eq ho.size.symm, fun k _ hk => ho.block k (fun e => hk ⟨x, hx, e⟩)⟩
theorem WrB.below {P : Nat → Prop} {w w' : World} {B : Nat} (h : WrB P w w') (hB : ∀ i, P i → B ≤ i) (hs : B ≤ w.heap.size) : Below B w w' :=
  ⟨h.os, h.tape, h.output, h.size, fun k hk => h.block k (by omega) (fun hp => by have := hB k hp; omega)⟩
theorem rr_owns_wr {P : Nat → Prop} {w w' : World} {B e s n : Nat} {v : Value} {vs : List Value} (h : w.ownsRow B e s v n vs) (hw : WrB P w w') (hp : ∀ i, v.ownBlock = some i → ¬ P i) : w'.ownsRow B e s v n vs := by
  have hlt := fun i hi => (h.lt i hi).2
  obtain ⟨hl, h⟩ := h
  refine ⟨hl, ?_⟩
  rcases h with h | ⟨g, cap, cur, e, hb, hh, r⟩
  · exact .inl h
  · subst e
    exact .inr ⟨g, cap, cur, rfl, hb, (hw.block g (hlt g rfl) (hp g rfl)).trans hh, r⟩
/-- A row of bytes of one's own. -/
structure BR (w : World) (B : Nat) (a : Option Addr) (n : Nat) (xs : List Int) : Prop where
  row : Row w a n xs
  own : ∀ x, a = some x → B ≤ x.block ∧ x.block < w.heap.size ∧ ∀ j, w.frozen? ⟨x.block, j, none⟩ = false
theorem BR.own' {w : World} {B n : Nat} {a : Option Addr} {xs : List Int} (h : BR w B a n xs) (x : Addr) (hx : a = some x) : B ≤ x.block ∧ x.block < w.heap.size := ⟨(h.own x hx).1, (h.own x hx).2.1⟩
theorem BR.of_blocks {w w' : World} {B n : Nat} {a : Option Addr} {xs : List Int} (h : BR w B a n xs) (hs : w.heap.size ≤ w'.heap.size) (hb : ∀ x, a = some x → w'.heap[x.block]? = w.heap[x.block]?) : BR w' B a n xs :=
  ⟨h.row.of_cells fun x hx p hp => World.cell?_of_block (w := w) (by rw [hp]; exact hb x hx), fun x hx => ⟨(h.own x hx).1, Nat.lt_of_lt_of_le (h.own x hx).2.1 hs, fun j => (show w'.frozen? ⟨x.block, j, none⟩ = w.frozen? ⟨x.block, j, none⟩ from World.frozen?_of_block (w := w) (hb x hx)).trans ((h.own x hx).2.2 j)⟩⟩
theorem BR.below {w w' : World} {B n : Nat} {a : Option Addr} {xs : List Int} (h : BR w B a n xs) (hb : Below w.heap.size w w') : BR w' B a n xs :=
  h.of_blocks hb.size (fun x hx => hb.block _ (h.own x hx).2.1)
theorem BR.wr {P : Nat → Prop} {w w' : World} {B n : Nat} {a : Option Addr} {xs : List Int} (h : BR w B a n xs) (hw : WrB P w w') (hp : ∀ x, a = some x → ¬ P x.block) : BR w' B a n xs :=
  h.of_blocks hw.size (fun x hx => hw.block x.block (h.own x hx).2.1 (hp x hx))
theorem BR.marked {w w' : World} {B n : Nat} {a : Option Addr} {xs ys : List Int} (h : BR w B a n xs) (hr : Row w' a n ys) (ht : Touch a w w') : BR w' B a n ys := by
  refine ⟨hr, fun x hx => ?_⟩
  rcases ht with rfl | ⟨y, _, ho⟩
  · exact h.own x hx
  · exact ⟨(h.own x hx).1, by rw [ho.size]; exact (h.own x hx).2.1, fun j => (ho.frozen _).trans ((h.own x hx).2.2 j)⟩
theorem br_of_owns {w : World} {B : Nat} {v : Value} {xs : List Int} (h : Owns w B v xs) : ∃ a c, v = .slice a xs.length c ∧ BR w B a xs.length xs := by
  obtain ⟨a, c, e, _, _, h3, h4⟩ := mine_of_owns h
  exact ⟨a, c, e, h3, h4⟩
end Go.Proofs.Ytbboigidkimkmaa

namespace Go.Proofs.Ytbboigidkimkmaa
open Go.RowKit

/-- A row within a record. -/
structure Sb where
  t : TypeId
  s : Nat
  n : Nat
  v : Value
  cs : List Value
/-- A record: its cells, and the rows within. -/
structure El where
  hd : List Value
  sb : List Sb
theorem fm_len {S : Nat} : ∀ (es : List El), (∀ e ∈ es, e.hd.length = S) → (es.flatMap (·.hd)).length = es.length * S
  | [], _ => by simp
  | e :: r, h => by
    rw [List.flatMap_cons, List.length_append, fm_len r (fun x hx => h x (List.mem_cons_of_mem _ hx)), h e (List.mem_cons_self ..), List.length_cons, Nat.succ_mul]
    omega
theorem fm_at {S : Nat} : ∀ (es : List El), (∀ e ∈ es, e.hd.length = S) → ∀ (i j : Nat) (e : El), es[i]? = some e → j < S → (es.flatMap (·.hd))[i * S + j]? = e.hd[j]?
  | [], _, i, j, e, hi, _ => by simp at hi
  | x :: r, h, 0, j, e, hi, hj => by
    have hx := h x (List.mem_cons_self ..)
    simp at hi
    subst hi
    rw [List.flatMap_cons, List.getElem?_append_left (by omega)]
    simp
  | x :: r, h, i + 1, j, e, hi, hj => by
    have hx := h x (List.mem_cons_self ..)
    have ih := fm_at r (fun y hy => h y (List.mem_cons_of_mem _ hy)) i j e (by simpa using hi) hj
    rw [List.flatMap_cons, List.getElem?_append_right (by rw [hx, Nat.succ_mul]; omega), hx, Nat.succ_mul, show i * S + S + j - S = i * S + j by omega]
    exact ih
theorem fm_set {S : Nat} : ∀ (es : List El), (∀ e ∈ es, e.hd.length = S) → ∀ (i j : Nat) (e : El) (u : Value) (sb : List Sb), es[i]? = some e → j < S → (es.flatMap (·.hd)).set (i * S + j) u = (es.set i ⟨e.hd.set j u, sb⟩).flatMap (·.hd)
  | [], _, i, j, e, u, sb, hi, _ => by simp at hi
  | x :: r, h, 0, j, e, u, sb, hi, hj => by
    have hx := h x (List.mem_cons_self ..)
    simp at hi
    subst hi
    rw [List.set_cons_zero, List.flatMap_cons, List.flatMap_cons, List.set_append_left _ _ (by omega)]
    simp
  | x :: r, h, i + 1, j, e, u, sb, hi, hj => by
    have hx := h x (List.mem_cons_self ..)
    have ih := fm_set r (fun y hy => h y (List.mem_cons_of_mem _ hy)) i j e u sb (by simpa using hi) hj
    rw [List.set_cons_succ, List.flatMap_cons, List.flatMap_cons, List.set_append_right _ _ (by rw [hx, Nat.succ_mul]; omega), hx, Nat.succ_mul, show i * S + S + j - S = i * S + j by omega, ih]
theorem fm_same {S : Nat} : ∀ (es : List El), (∀ e ∈ es, e.hd.length = S) → ∀ (i : Nat) (e : El) (sb : List Sb), es[i]? = some e → (es.set i ⟨e.hd, sb⟩).flatMap (·.hd) = es.flatMap (·.hd)
  | [], _, i, e, sb, hi => by simp at hi
  | x :: r, h, 0, e, sb, hi => by
    simp at hi
    subst hi
    rw [List.set_cons_zero, List.flatMap_cons, List.flatMap_cons]
  | x :: r, h, i + 1, e, sb, hi => by
    have ih := fm_same r (fun y hy => h y (List.mem_cons_of_mem _ hy)) i e sb (by simpa using hi)
    rw [List.set_cons_succ, List.flatMap_cons, List.flatMap_cons, ih]
/-- The row within a record by numbers. -/
def sbAt (es : List El) (i a : Nat) : Option Sb := es[i]?.bind (·.sb[a]?)
theorem sbAt_mem {es : List El} {i a : Nat} {x : Sb} (h : sbAt es i a = some x) : ∃ e ∈ es, x ∈ e.sb := by
  unfold sbAt at h
  cases hi : es[i]? with
  | none => rw [hi] at h; cases h
  | some e =>
    rw [hi] at h
    exact ⟨e, List.mem_of_getElem? hi, List.mem_of_getElem? h⟩
theorem sbAt_of {es : List El} {e : El} {x : Sb} (he : e ∈ es) (hx : x ∈ e.sb) : ∃ i a, sbAt es i a = some x := by
  obtain ⟨i, hi, rfl⟩ := List.getElem_of_mem he
  obtain ⟨a, ha, rfl⟩ := List.getElem_of_mem hx
  exact ⟨i, a, by unfold sbAt; rw [List.getElem?_eq_getElem hi]; simp [ha]⟩
theorem sbAt_set {es : List El} {i k a : Nat} {e : El} (hi : i < es.length) : sbAt (es.set i e) k a = if k = i then e.sb[a]? else sbAt es k a := by
  unfold sbAt
  by_cases h : k = i
  · subst h; rw [if_pos rfl, List.getElem?_set_self hi]; rfl
  · rw [if_neg h, List.getElem?_set_ne (fun e => h e.symm)]
/-- A list of records that the call owns from block B on: no two of its rows share memory. -/
structure NOwn (w : World) (B T S : Nat) (v : Value) (n : Nat) (es : List El) : Prop where
  row : w.ownsRow B T S v n (es.flatMap (·.hd))
  len : es.length = n
  wid : ∀ e ∈ es, e.hd.length = S
  dat : ∀ i a x, sbAt es i a = some x → w.ownsRow B x.t x.s x.v x.n x.cs
  far : ∀ i j a b x y, sbAt es i a = some x → sbAt es j b = some y → (i ≠ j ∨ a ≠ b) → ∀ g, x.v.ownBlock = some g → y.v.ownBlock ≠ some g
  off : ∀ i a x, sbAt es i a = some x → ∀ g, v.ownBlock = some g → x.v.ownBlock ≠ some g
/-- The blocks of a list of records. -/
def NBl (v : Value) (es : List El) (i : Nat) : Prop := v.ownBlock = some i ∨ ∃ k a x, sbAt es k a = some x ∧ x.v.ownBlock = some i
theorem NOwn.lt {w : World} {B T S n : Nat} {v : Value} {es : List El} (h : NOwn w B T S v n es) (i : Nat) (hi : NBl v es i) : B ≤ i ∧ i < w.heap.size := by
  rcases hi with hi | ⟨k, a, x, hx, hi⟩
  · exact h.row.lt i hi
  · exact (h.dat k a x hx).lt i hi
theorem NOwn.wr {P : Nat → Prop} {w w' : World} {B T S n : Nat} {v : Value} {es : List El} (h : NOwn w B T S v n es) (hw : WrB P w w') (hp : ∀ i, NBl v es i → ¬ P i) : NOwn w' B T S v n es :=
  ⟨rr_owns_wr h.row hw (fun i hi => hp i (.inl hi)), h.len, h.wid, fun i a x hx => rr_owns_wr (h.dat i a x hx) hw (fun k hk => hp k (.inr ⟨i, a, x, hx, hk⟩)), h.far, h.off⟩
theorem NOwn.below {w w' : World} {B T S n : Nat} {v : Value} {es : List El} (h : NOwn w B T S v n es) (hb : Below w.heap.size w w') : NOwn w' B T S v n es :=
  ⟨rb_ownsRow_below h.row hb, h.len, h.wid, fun i a x hx => rb_ownsRow_below (h.dat i a x hx) hb, h.far, h.off⟩
theorem gd_base {w : World} {B C e s n : Nat} {v : Value} {vs : List Value} (h : w.ownsRow B e s v n vs) (hc : C ≤ B) : w.ownsRow C e s v n vs := by
  obtain ⟨h1, h2⟩ := h
  refine ⟨h1, ?_⟩
  rcases h2 with h2 | ⟨g, cap, cur, e, hb, r⟩
  · exact .inl h2
  · exact .inr ⟨g, cap, cur, e, Nat.le_trans hc hb, r⟩
theorem gd_set {w : World} {B e s n : Nat} {v : Value} {vs : List Value} {q : Nat} (h : w.ownsRow B e s v n vs) (hq : q < B) (j : Nat) (u : Value) : (w.setCell ⟨q, j, none⟩ u).ownsRow B e s v n vs :=
  ownsRow_heap h (fun g hg => Below.heap_setCell _ _ _ _ (by have := (h.lt g hg).1; show g ≠ q; omega))
theorem NOwn.down {w : World} {B C T S n : Nat} {v : Value} {es : List El} (h : NOwn w B T S v n es) (hc : C ≤ B) : NOwn w C T S v n es :=
  ⟨gd_base h.row hc, h.len, h.wid, fun i a x hx => gd_base (h.dat i a x hx) hc, h.far, h.off⟩
theorem NOwn.cell {w : World} {B T S g n c : Nat} {es : List El} (h : NOwn w B T S (.slice (some ⟨g, 0, none⟩) n c) n es) {i j : Nat} {e : El} {u : Value} (hi : es[i]? = some e) (hu : e.hd[j]? = some u) : w.cell? ⟨g, i * S + j, none⟩ = some u := by
  have hil : i < es.length := (List.getElem?_eq_some_iff.1 hi).1
  have hj : j < S := by have := (List.getElem?_eq_some_iff.1 hu).1; rw [h.wid e (List.mem_of_getElem? hi)] at this; exact this
  have hlt : i * S + j < n * S := by
    rw [← h.len]
    calc i * S + j < i * S + S := by omega
      _ = (i + 1) * S := by rw [Nat.succ_mul]
      _ ≤ es.length * S := Nat.mul_le_mul_right S hil
  rw [h.row.cellAt _ hlt, fm_at es h.wid i j e hi hj, hu]
theorem NOwn.free {w : World} {B T S g n c : Nat} {es : List El} (h : NOwn w B T S (.slice (some ⟨g, 0, none⟩) n c) n es) (j : Nat) : w.frozen? ⟨g, j, none⟩ = false := h.row.frozenAt j
/-- A cell of a record set anew. -/
theorem NOwn.setHd {w : World} {B T S g n c : Nat} {es : List El} (h : NOwn w B T S (.slice (some ⟨g, 0, none⟩) n c) n es) {i j : Nat} {e : El} (hi : es[i]? = some e) (hj : j < S) (u : Value) :
    NOwn (w.setCell ⟨g, i * S + j, none⟩ u) B T S (.slice (some ⟨g, 0, none⟩) n c) n (es.set i ⟨e.hd.set j u, e.sb⟩) ∧ WrB (fun k => k = g) w (w.setCell ⟨g, i * S + j, none⟩ u) := by
  have hil : i < es.length := (List.getElem?_eq_some_iff.1 hi).1
  have hw : WrB (fun k => k = g) w (w.setCell ⟨g, i * S + j, none⟩ u) := ⟨rfl, rfl, rfl, by simp [World.setCell], fun k _ hk => Below.heap_setCell _ _ _ _ hk⟩
  have sb : ∀ k a, sbAt (es.set i ⟨e.hd.set j u, e.sb⟩) k a = sbAt es k a := fun k a => by
    rw [sbAt_set hil]
    by_cases hk : k = i
    · subst hk; rw [if_pos rfl]; unfold sbAt; rw [hi]; rfl
    · rw [if_neg hk]
  refine ⟨⟨?_, by rw [List.length_set]; exact h.len, fun x hx => ?_, fun k a x hx => ?_, fun k l a b x y hx hy => ?_, fun k a x hx => ?_⟩, hw⟩
  · rw [← fm_set es h.wid i j e u e.sb hi hj]
    exact (World.ownsRow.stored h.row (i * S + j) u).1
  · rcases List.mem_or_eq_of_mem_set hx with hx | rfl
    · exact h.wid x hx
    · show (e.hd.set j u).length = S
      rw [List.length_set]
      exact h.wid e (List.mem_of_getElem? hi)
  · rw [sb] at hx
    exact rr_owns_wr (h.dat k a x hx) hw (fun q hq e => h.off k a x hx g rfl (by rw [← e]; exact hq))
  · rw [sb] at hx hy
    exact h.far k l a b x y hx hy
  · rw [sb] at hx
    exact h.off k a x hx
/-- Cells laid one behind the other. -/
def setAll (g : Nat) : World → Nat → List Value → World
  | w, _, [] => w
  | w, o, v :: r => setAll g (w.setCell ⟨g, o, none⟩ v) (o + 1) r
theorem NOwn.store {B T S g n c i : Nat} : ∀ (new old pre : List Value) {w : World} {es : List El} {sb : List Sb}, NOwn w B T S (.slice (some ⟨g, 0, none⟩) n c) n es → es[i]? = some ⟨pre ++ old, sb⟩ → old.length = new.length →
    NOwn (setAll g w (i * S + pre.length) new) B T S (.slice (some ⟨g, 0, none⟩) n c) n (es.set i ⟨pre ++ new, sb⟩)
  | [], old, pre, w, es, sb, h, hi, hl => by
    obtain rfl : old = [] := List.eq_nil_of_length_eq_zero hl
    have hil := (List.getElem?_eq_some_iff.1 hi)
    obtain ⟨hil, he⟩ := hil
    rw [← he, List.set_getElem_self]
    exact h
  | v :: r, [], pre, w, es, sb, h, hi, hl => by simp at hl
  | v :: r, u :: old, pre, w, es, sb, h, hi, hl => by
    have hil := (List.getElem?_eq_some_iff.1 hi).1
    have hw := h.wid _ (List.mem_of_getElem? hi)
    simp only [List.length_append, List.length_cons] at hw
    obtain ⟨h1, _⟩ := h.setHd hi (j := pre.length) (by omega) v
    have e : (pre ++ u :: old).set pre.length v = (pre ++ [v]) ++ old := by rw [List.set_append_right _ _ (Nat.le_refl _), Nat.sub_self, List.set_cons_zero, List.append_assoc, List.singleton_append]
    simp only at h1
    rw [e] at h1
    have h2 := NOwn.store r old (pre ++ [v]) h1 (List.getElem?_set_self hil) (by simpa using hl)
    rw [List.set_set, List.length_append, List.length_singleton, List.append_assoc, List.singleton_append] at h2
    exact h2
/-- A row within a record has changed. -/
theorem NOwn.setSb {w w' : World} {B T S n : Nat} {v : Value} {es : List El} (h : NOwn w B T S v n es) {i a : Nat} {e : El} {x x' : Sb} (hi : es[i]? = some e) (ha : e.sb[a]? = some x) (hv : x'.v = x.v) (ho : w'.ownsRow B x'.t x'.s x'.v x'.n x'.cs) (hw : WrB (fun k => x.v.ownBlock = some k) w w') :
    NOwn w' B T S v n (es.set i ⟨e.hd, e.sb.set a x'⟩) := by
  have hil : i < es.length := (List.getElem?_eq_some_iff.1 hi).1
  have hal : a < e.sb.length := (List.getElem?_eq_some_iff.1 ha).1
  have hx0 : sbAt es i a = some x := by unfold sbAt; rw [hi]; exact ha
  have sb : ∀ k b y, sbAt (es.set i ⟨e.hd, e.sb.set a x'⟩) k b = some y → (k = i ∧ b = a ∧ y = x') ∨ (sbAt es k b = some y ∧ (i ≠ k ∨ a ≠ b)) := fun k b y hy => by
    rw [sbAt_set hil] at hy
    by_cases hk : k = i
    · subst hk
      rw [if_pos rfl] at hy
      simp only at hy
      by_cases hb : b = a
      · subst hb
        rw [List.getElem?_set_self hal] at hy
        injection hy with hy
        exact .inl ⟨rfl, rfl, hy.symm⟩
      · rw [List.getElem?_set_ne (fun e => hb e.symm)] at hy
        exact .inr ⟨by unfold sbAt; rw [hi]; exact hy, .inr (fun e => hb e.symm)⟩
    · rw [if_neg hk] at hy
      exact .inr ⟨hy, .inl (fun e => hk e.symm)⟩
  refine ⟨?_, by rw [List.length_set]; exact h.len, fun y hy => ?_, fun k b y hy => ?_, fun k l b d y z hy hz hne => ?_, fun k b y hy => ?_⟩
  · rw [fm_same es h.wid i e _ hi]
    exact rr_owns_wr h.row hw (fun k hk e => h.off i a x hx0 k hk e)
  · rcases List.mem_or_eq_of_mem_set hy with hy | rfl
    · exact h.wid y hy
    · exact h.wid e (List.mem_of_getElem? hi)
  · rcases sb k b y hy with ⟨_, _, rfl⟩ | ⟨hy, hne⟩
    · exact ho
    · exact rr_owns_wr (h.dat k b y hy) hw (fun q hq e => h.far i k a b x y hx0 hy hne q e hq)
  · rcases sb k b y hy with ⟨rfl, rfl, rfl⟩ | ⟨qy, hn1⟩
    · rcases sb l d z hz with ⟨rfl, rfl, rfl⟩ | ⟨qz, hn2⟩
      · rcases hne with h | h <;> exact absurd rfl h
      · rw [hv]; exact h.far k l b d x z hx0 qz hn2
    · rcases sb l d z hz with ⟨rfl, rfl, rfl⟩ | ⟨qz, hn2⟩
      · rw [hv]; exact h.far k l b d y x qy hx0 hne
      · exact h.far k l b d y z qy qz hne
  · rcases sb k b y hy with ⟨rfl, rfl, rfl⟩ | ⟨hy, _⟩
    · rw [hv]; exact h.off k b x hx0
    · exact h.off k b y hy
/-- New rows come into a record that had none. -/
theorem NOwn.addSb {w w' : World} {B C T S n : Nat} {v : Value} {es : List El} (h : NOwn w B T S v n es) {i : Nat} {e : El} {xs : List Sb} (hi : es[i]? = some e) (hb : Below w.heap.size w w') (hC : w.heap.size ≤ C) (hBC : B ≤ C) (ho : ∀ x ∈ xs, w'.ownsRow C x.t x.s x.v x.n x.cs)
    (hf : ∀ (a b : Nat) (x y : Sb), xs[a]? = some x → xs[b]? = some y → a ≠ b → ∀ g, x.v.ownBlock = some g → y.v.ownBlock ≠ some g) :
    NOwn w' B T S v n (es.set i ⟨e.hd, xs⟩) := by
  have hil : i < es.length := (List.getElem?_eq_some_iff.1 hi).1
  have sb : ∀ k b y, sbAt (es.set i ⟨e.hd, xs⟩) k b = some y → (k = i ∧ xs[b]? = some y) ∨ (k ≠ i ∧ sbAt es k b = some y) := fun k b y hy => by
    rw [sbAt_set hil] at hy
    by_cases hk : k = i
    · subst hk; rw [if_pos rfl] at hy; exact .inl ⟨rfl, hy⟩
    · rw [if_neg hk] at hy; exact .inr ⟨hk, hy⟩
  have lo : ∀ (b : Nat) (y : Sb), xs[b]? = some y → ∀ g, y.v.ownBlock = some g → w.heap.size ≤ g := fun b y hy g hg => Nat.le_trans hC ((ho y (List.mem_of_getElem? hy)).lt g hg).1
  have up : ∀ (k b : Nat) (y : Sb), sbAt es k b = some y → ∀ g, y.v.ownBlock = some g → g < w.heap.size := fun k b y hy g hg => ((h.dat k b y hy).lt g hg).2
  refine ⟨?_, by rw [List.length_set]; exact h.len, fun y hy => ?_, fun k b y hy => ?_, fun k l b d y z hy hz hne => ?_, fun k b y hy => ?_⟩
  · rw [fm_same es h.wid i e _ hi]
    exact rb_ownsRow_below h.row hb
  · rcases List.mem_or_eq_of_mem_set hy with hy | rfl
    · exact h.wid y hy
    · exact h.wid e (List.mem_of_getElem? hi)
  · rcases sb k b y hy with ⟨_, hy⟩ | ⟨_, hy⟩
    · exact gd_base (ho y (List.mem_of_getElem? hy)) hBC
    · exact rb_ownsRow_below (h.dat k b y hy) hb
  · rcases sb k b y hy with ⟨hk, hy⟩ | ⟨hk, hy⟩
    · rcases sb l d z hz with ⟨hl, hz⟩ | ⟨hl, hz⟩
      · exact hf b d y z hy hz (by rcases hne with h | h; exact absurd (hk.trans hl.symm) h; exact h)
      · exact fun g h1 h2 => by have := lo b y hy g h1; have := up l d z hz g h2; omega
    · rcases sb l d z hz with ⟨hl, hz⟩ | ⟨hl, hz⟩
      · exact fun g h1 h2 => by have := up k b y hy g h1; have := lo d z hz g h2; omega
      · exact h.far k l b d y z hy hz hne
  · rcases sb k b y hy with ⟨_, hy⟩ | ⟨_, hy⟩
    · exact fun g h1 h2 => by have := lo b y hy g h2; have := (h.row.lt g h1).2; omega
    · exact h.off k b y hy
/-- A record laid at a place where there was one without rows. -/
theorem NOwn.put {w w' : World} {B C T S g n c i : Nat} {es : List El} {e e' : El} (h : NOwn w B T S (.slice (some ⟨g, 0, none⟩) n c) n es) (hi : es[i]? = some e) (hb : Below w.heap.size w w') (hC : w.heap.size ≤ C) (hBC : B ≤ C) (ho : ∀ x ∈ e'.sb, w'.ownsRow C x.t x.s x.v x.n x.cs)
    (hf : ∀ (a b : Nat) (x y : Sb), e'.sb[a]? = some x → e'.sb[b]? = some y → a ≠ b → ∀ g, x.v.ownBlock = some g → y.v.ownBlock ≠ some g) (hl : e.hd.length = e'.hd.length) :
    NOwn (setAll g w' (i * S) e'.hd) B T S (.slice (some ⟨g, 0, none⟩) n c) n (es.set i e') := by
  have hil := (List.getElem?_eq_some_iff.1 hi).1
  have h1 := h.addSb hi hb hC hBC ho hf
  have h2 := NOwn.store e'.hd e.hd [] h1 (List.getElem?_set_self hil) hl
  rw [List.set_set] at h2
  exact h2
theorem setAll_below {B g : Nat} (hg : B ≤ g) : ∀ (vs : List Value) (o : Nat) {w w' : World}, Below B w w' → Below B w (setAll g w' o vs)
  | [], _, _, _, h => h
  | v :: r, o, _, _, h => setAll_below hg r (o + 1) (h.setCell (p := ⟨g, o, none⟩) hg v)
/-- Records without rows. -/
theorem NOwn.flat {w : World} {B T S n : Nat} {v : Value} {es : List El} (h : w.ownsRow B T S v n (es.flatMap (·.hd))) (hl : es.length = n) (hw : ∀ e ∈ es, e.hd.length = S) (hs : ∀ e ∈ es, e.sb = []) : NOwn w B T S v n es := by
  have no : ∀ i a x, sbAt es i a ≠ some x := fun i a x hx => by
    obtain ⟨e, he, hx⟩ := sbAt_mem hx
    rw [hs e he] at hx
    cases hx
  exact ⟨h, hl, hw, fun i a x hx => absurd hx (no i a x), fun i j a b x y hx => absurd hx (no i a x), fun i a x hx => absurd hx (no i a x)⟩
/-- A row as it reads. -/
def RowC (w : World) (v : Value) (n : Nat) (cs : List Value) : Prop := ∃ a c, v = .slice a n c ∧ ∀ j u, cs[j]? = some u → ∃ b off, a = some ⟨b, off, none⟩ ∧ w.cell? ⟨b, off + j, none⟩ = some u
theorem RowC.below {w w' : World} {v : Value} {n : Nat} {cs : List Value} (h : RowC w v n cs) (hb : Below w.heap.size w w') : RowC w' v n cs := by
  obtain ⟨a, c, e, h⟩ := h
  refine ⟨a, c, e, fun j u hu => ?_⟩
  obtain ⟨b, off, e2, h2⟩ := h j u hu
  exact ⟨b, off, e2, (hb.cell (p := ⟨b, off + j, none⟩) (cell_lt h2)).trans h2⟩
theorem rowC_of_owns {w : World} {B t s n : Nat} {v : Value} {cs : List Value} (h : w.ownsRow B t s v n cs) : RowC w v n cs := by
  rcases h.2 with ⟨rfl, rfl⟩ | ⟨g, cap, cur, rfl, _⟩
  · exact ⟨none, 0, rfl, fun j u hu => by have := (List.getElem?_eq_some_iff.1 hu).1; have := h.1; omega⟩
  · exact ⟨_, cap, rfl, fun j u hu => ⟨g, 0, rfl, by rw [Nat.zero_add, h.cellAt j (by rw [← h.1]; exact (List.getElem?_eq_some_iff.1 hu).1), hu]⟩⟩
theorem RowC.at {w : World} {a : Option Addr} {n c j : Nat} {cs : List Value} {u : Value} (h : RowC w (.slice a n c) n cs) (hu : cs[j]? = some u) : ∃ b off, a = some ⟨b, off, none⟩ ∧ w.cell? ⟨b, off + j, none⟩ = some u := by
  obtain ⟨a', c', e, h⟩ := h
  injection e with e _ _
  rw [e]
  exact h j u hu
/-- A list of records as it reads. -/
structure NIn (w : World) (S : Nat) (v : Value) (n : Nat) (es : List El) : Prop where
  row : RowC w v n (es.flatMap (·.hd))
  len : es.length = n
  wid : ∀ e ∈ es, e.hd.length = S
  dat : ∀ e ∈ es, ∀ x ∈ e.sb, RowC w x.v x.n x.cs
theorem NIn.below {w w' : World} {S n : Nat} {v : Value} {es : List El} (h : NIn w S v n es) (hb : Below w.heap.size w w') : NIn w' S v n es :=
  ⟨h.row.below hb, h.len, h.wid, fun e he x hx => (h.dat e he x hx).below hb⟩
theorem NOwn.reads {w : World} {B T S n : Nat} {v : Value} {es : List El} (h : NOwn w B T S v n es) : NIn w S v n es :=
  ⟨rowC_of_owns h.row, h.len, h.wid, fun e he x hx => by
    obtain ⟨i, a, hi⟩ := sbAt_of he hx
    exact rowC_of_owns (h.dat i a x hi)⟩
theorem NIn.cell {w : World} {S n : Nat} {a : Option Addr} {c : Nat} {es : List El} (h : NIn w S (.slice a n c) n es) {i : Nat} {e : El} (hi : es[i]? = some e) (h0 : 0 < S) : ∃ b off, a = some ⟨b, off, none⟩ ∧ b < w.heap.size ∧ ∀ j u, e.hd[j]? = some u → w.cell? ⟨b, off + (i * S + j), none⟩ = some u := by
  obtain ⟨a', c', e', h1⟩ := h.row
  injection e' with e1 _ _
  subst e1
  have hw := h.wid e (List.mem_of_getElem? hi)
  obtain ⟨b, off, rfl, q⟩ := h1 (i * S + 0) (e.hd[0]'(by omega)) (by rw [fm_at es h.wid i 0 e hi h0]; exact List.getElem?_eq_getElem _)
  refine ⟨b, off, rfl, cell_lt q, fun j u hu => ?_⟩
  obtain ⟨b', off', e2, q2⟩ := h1 (i * S + j) u (by rw [fm_at es h.wid i j e hi (by have := (List.getElem?_eq_some_iff.1 hu).1; omega)]; exact hu)
  cases e2
  exact q2
/-! Marks, one behind the other. -/
section
variable {H : Type} (cnt : H → Nat) (mk : Nat → H → H)
/-- The next mark behind some. -/
def kG (k : Nat) : List H → Nat
  | [] => k
  | h :: r => kG (k + cnt h) r
/-- All marked. -/
def mkG (k : Nat) : List H → List H
  | [] => []
  | h :: r => mk k h :: mkG (k + cnt h) r
theorem kG_snoc : ∀ (k : Nat) (hs : List H) (h : H), kG cnt k (hs ++ [h]) = kG cnt k hs + cnt h
  | k, [], h => rfl
  | k, x :: r, h => by simp only [List.cons_append, kG]; exact kG_snoc _ r h
theorem mkG_snoc : ∀ (k : Nat) (hs : List H) (h : H), mkG cnt mk k (hs ++ [h]) = mkG cnt mk k hs ++ [mk (kG cnt k hs) h]
  | k, [], h => rfl
  | k, x :: r, h => by simp only [List.cons_append, mkG, kG]; rw [mkG_snoc _ r h]
theorem mkG_len : ∀ (k : Nat) (hs : List H), (mkG cnt mk k hs).length = hs.length
  | k, [] => rfl
  | k, x :: r => by simp only [mkG, List.length_cons]; rw [mkG_len _ r]
theorem kG_mono : ∀ (k : Nat) (hs : List H), k ≤ kG cnt k hs
  | k, [] => Nat.le_refl _
  | k, x :: r => Nat.le_trans (by omega) (kG_mono _ r)
theorem kG_take (k : Nat) (hs : List H) (j : Nat) : kG cnt k (hs.take j) ≤ kG cnt k hs := by
  induction hs generalizing k j with
  | nil => simp [kG]
  | cons x r ih =>
    cases j with
    | zero => exact kG_mono cnt _ _
    | succ j => exact ih _ j
theorem kG_sum : ∀ (k : Nat) (hs : List H), kG cnt k hs = k + (hs.map cnt).sum
  | k, [] => rfl
  | k, x :: r => by simp only [kG, List.map_cons, List.sum_cons]; rw [kG_sum _ r]; omega
/-- The first j marked, the others as they were. -/
def haG (k : Nat) (hs : List H) (j : Nat) : List H := mkG cnt mk k (hs.take j) ++ hs.drop j
theorem haG_len (k : Nat) (hs : List H) (j : Nat) (hj : j ≤ hs.length) : (haG cnt mk k hs j).length = hs.length := by
  unfold haG
  rw [List.length_append, mkG_len, List.length_take, List.length_drop]
  omega
theorem haG_at {k : Nat} {hs : List H} {j : Nat} (hj : j < hs.length) : (haG cnt mk k hs j)[j]? = some hs[j] := by
  unfold haG
  rw [List.getElem?_append_right (by rw [mkG_len, List.length_take]; omega), mkG_len, List.length_take, show j - min j hs.length = 0 by omega, List.getElem?_drop]
  simp [hj]
theorem haG_step {k : Nat} {hs : List H} {j : Nat} (hj : j < hs.length) : haG cnt mk k hs (j + 1) = (haG cnt mk k hs j).set j (mk (kG cnt k (hs.take j)) hs[j]) := by
  unfold haG
  rw [rb_take_snoc hs j hj, mkG_snoc, List.set_append_right _ _ (by rw [mkG_len, List.length_take]; omega), mkG_len, List.length_take, show j - min j hs.length = 0 by omega, List.drop_eq_getElem_cons hj, List.set_cons_zero, List.append_assoc, List.singleton_append]
theorem haG_all (k : Nat) (hs : List H) : haG cnt mk k hs hs.length = mkG cnt mk k hs := by unfold haG; simp
theorem mkG_at : ∀ (k : Nat) (hs : List H) (j : Nat) (hj : j < hs.length), (mkG cnt mk k hs)[j]? = some (mk (kG cnt k (hs.take j)) hs[j])
  | k, [], j, hj => by simp at hj
  | k, x :: r, 0, _ => rfl
  | k, x :: r, j + 1, hj => by
    have e := mkG_at (k + cnt x) r j (by simpa using hj)
    simp only [mkG, List.getElem?_cons_succ, List.take_succ_cons, kG, List.getElem_cons_succ]
    exact e
end
theorem gd_le_sum {H : Type} (f : H → Nat) : ∀ (l : List H) (h : H), h ∈ l → f h ≤ (l.map f).sum
  | [], h, hh => by simp at hh
  | x :: r, h, hh => by
    simp only [List.map_cons, List.sum_cons]
    rcases List.mem_cons.1 hh with rfl | hh
    · omega
    · have := gd_le_sum f r h hh; omega
theorem gd_sum_le {H : Type} (f g : H → Nat) (c : Nat) : ∀ (l : List H), (∀ h ∈ l, f h ≤ g h + c) → (l.map f).sum ≤ (l.map g).sum + l.length * c
  | [], _ => by simp
  | x :: r, h => by
    simp only [List.map_cons, List.sum_cons, List.length_cons, Nat.succ_mul]
    have h1 := h x (List.mem_cons_self ..)
    have h2 := gd_sum_le f g c r (fun y hy => h y (List.mem_cons_of_mem _ hy))
    omega
theorem WrB.seq {P : Nat → Prop} {w1 w2 w3 : World} (h : WrB P w1 w2) (k : WrB P w2 w3) : WrB P w1 w3 :=
  ⟨k.os.trans h.os, k.tape.trans h.tape, k.output.trans h.output, Nat.le_trans h.size k.size, fun i hi hp => (k.block i (Nat.lt_of_lt_of_le hi h.size) hp).trans (h.block i hi hp)⟩
theorem WrB.weak {P Q : Nat → Prop} {w w' : World} (h : WrB P w w') (hpq : ∀ i, P i → Q i) : WrB Q w w' := ⟨h.os, h.tape, h.output, h.size, fun k hk hq => h.block k hk (fun hp => hq (hpq k hp))⟩
theorem WrB.same (P : Nat → Prop) (w : World) : WrB P w w := ⟨rfl, rfl, rfl, Nat.le_refl _, fun _ _ _ => rfl⟩
theorem WrB.of_below {P : Nat → Prop} {w w' : World} (h : Below w.heap.size w w') : WrB P w w' := ⟨h.os, h.tape, h.output, h.size, fun k hk _ => h.block k hk⟩
end Go.Proofs.Ytbboigidkimkmaa

namespace Go.Proofs.Ytbboigidkimkmaa
open Go.RowKit

theorem own_kind {w : World} {B t s n i : Nat} {v : Value} {cs : List Value} (h : w.ownsRow B t s v n cs) (hi : v.ownBlock = some i) : ∃ cur, w.heap[i]? = some (.cells cur t (0, 0)) := by
  rcases h.2 with ⟨e, _⟩ | ⟨g, cap, cur, e, _, hh, _⟩
  · subst e; cases hi
  · subst e; cases hi; exact ⟨cur, hh⟩
theorem nil_lit {w : World} (e s : Nat) : (w.alloc (.cells #[] e)).ownsRow w.heap.size e s (.slice (some ⟨w.heap.size, 0, none⟩) 0 0) 0 [] := by
  have := World.ownsRow_lit (base := w.heap.size) (e := e) (size := s) w #[] 0 (Nat.le_refl _) (by unfold maxLen; simp) (by simp)
  simpa using this
theorem blk_lt {w : World} {b : Nat} {o : Obj} (h : w.heap[b]? = some o) : b < w.heap.size := (Array.getElem?_eq_some_iff.1 h).1
theorem own_other {w : World} {B C n m s s' t t' : Nat} {v u : Value} {cs cs' : List Value} (h : w.ownsRow B t s v n cs) (h' : w.ownsRow C t' s' u m cs') (ht : t ≠ t') {i : Nat} (hi : v.ownBlock = some i) : ¬ u.ownBlock = some i := fun hb => by
  obtain ⟨cur, hc⟩ := own_kind h hi
  obtain ⟨cur', hc'⟩ := own_kind h' hb
  rw [hc] at hc'
  injection hc' with hc'
  injection hc' with _ hc' _
  exact ht hc'
theorem NOwn.keep {w w' : World} {B T S n : Nat} {v : Value} {es : List El} (h : NOwn w B T S v n es) {P : Nat → Prop} (hw : WrB P w w') (hp : ∀ i, NBl v es i → ¬ P i) : NOwn w' B T S v n es :=
  ⟨rr_owns_wr h.row hw (fun i hi => hp i (.inl hi)), h.len, h.wid, fun k a x hx => rr_owns_wr (h.dat k a x hx) hw (fun i hi => hp i (.inr ⟨k, a, x, hx, hi⟩)), h.far, h.off⟩
theorem own_box {w : World} {B t t' s n tb : Nat} {v : Value} {cs' : List Value} {cs : Array Value} (h : w.ownsRow B t s v n cs') (hb : w.heap[tb]? = some (.cells cs t' (0, 0))) (ht : t ≠ t') : ¬ v.ownBlock = some tb := fun e => by
  obtain ⟨cur, hc⟩ := own_kind h e
  rw [hb] at hc
  injection hc with hc
  injection hc with _ hc _
  exact ht hc.symm
theorem own_keep {w w' : World} {C s n b : Nat} {t t' : TypeId} {v : Value} {cs : List Value} {cb : Array Value} (h : w.ownsRow C t s v n cs) (hb : w.heap[b]? = some (.cells cb t' (0, 0))) (ht : t ≠ t') (hw : WrB (fun i => i = b) w w') : w'.ownsRow C t s v n cs :=
  rr_owns_wr h hw (fun i hi e => by subst e; exact own_box h hb ht hi)
theorem set1_wr (w : World) (b j : Nat) (v : Value) : WrB (fun i => i = b) w (w.setCell ⟨b, j, none⟩ v) := ⟨rfl, rfl, rfl, by simp [World.setCell], fun k _ hk => Below.heap_setCell _ _ _ _ hk⟩
theorem us_stepApp {P : Program} {ops : Array Oper} {o : Oper} {a : Act} {w : World} {K : Act → World → Prop} {Q : Exit → Act → World → Prop} {E : Prop}
    (hg : o.guard = none) (s x : Operand) (t : TypeId) (hop : o.op = Op.call { callee := Callee.builtin Builtin.append, args := #[s, x], argTypes := #[t, t] })
    (vs vx v' : Value) (w' : World) (hs : a.eval s = vs) (hx : a.eval x = vx) (hrun : (Builtin.append_ #[t, t] o.type #[vs, vx]).run P w = .ok v' w') (hK : K (a.put o.dst v') w') :
    if Region.wanted o (yielded ops a.tmps) = true then Oper.wp P o a w K Q else E := by
  have hw : Region.wanted o (yielded ops a.tmps) = true := by simp [Region.wanted, hg]
  rw [if_pos hw]
  unfold Oper.wp
  simp [execOp, hop, resolve, invoke, builtin, hs, hx, hrun, Result.andThen]
  exact hK
theorem us_sl {w : World} {B t s n : Nat} {v : Value} {cs : List Value} (h : w.ownsRow B t s v n cs) : ∃ a c, v = .slice a n c := by
  rcases h.2 with ⟨e, h0⟩ | ⟨g, cap, cur, e, _⟩
  · exact ⟨none, 0, by rw [e, h0]⟩
  · exact ⟨_, _, e⟩
/-- Rows that lie apart come into a record. -/
theorem NOwn.addAp {w : World} {B T S n : Nat} {v : Value} {es : List El} (h : NOwn w B T S v n es) {i : Nat} {e : El} {xs : List Sb} (hi : es[i]? = some e) (ho : ∀ x ∈ xs, w.ownsRow B x.t x.s x.v x.n x.cs) (hap : ∀ x ∈ xs, ∀ g, x.v.ownBlock = some g → ¬ NBl v es g)
    (hf : ∀ (a b : Nat) (x y : Sb), xs[a]? = some x → xs[b]? = some y → a ≠ b → ∀ g, x.v.ownBlock = some g → y.v.ownBlock ≠ some g) :
    NOwn w B T S v n (es.set i ⟨e.hd, xs⟩) := by
  have hil : i < es.length := (List.getElem?_eq_some_iff.1 hi).1
  have sb : ∀ k b y, sbAt (es.set i ⟨e.hd, xs⟩) k b = some y → (k = i ∧ xs[b]? = some y) ∨ (k ≠ i ∧ sbAt es k b = some y) := fun k b y hy => by
    rw [sbAt_set hil] at hy
    by_cases hk : k = i
    · subst hk; rw [if_pos rfl] at hy; exact .inl ⟨rfl, hy⟩
    · rw [if_neg hk] at hy; exact .inr ⟨hk, hy⟩
  have ap : ∀ (b : Nat) (y : Sb), xs[b]? = some y → ∀ (l d : Nat) (z : Sb), sbAt es l d = some z → ∀ g, y.v.ownBlock = some g → z.v.ownBlock ≠ some g := fun b y hy l d z hz g h1 h2 => hap y (List.mem_of_getElem? hy) g h1 (.inr ⟨l, d, z, hz, h2⟩)
  refine ⟨?_, by rw [List.length_set]; exact h.len, fun y hy => ?_, fun k b y hy => ?_, fun k l b d y z hy hz hne => ?_, fun k b y hy => ?_⟩
  · rw [fm_same es h.wid i e _ hi]
    exact h.row
  · rcases List.mem_or_eq_of_mem_set hy with hy | rfl
    · exact h.wid y hy
    · exact h.wid e (List.mem_of_getElem? hi)
  · rcases sb k b y hy with ⟨_, hy⟩ | ⟨_, hy⟩
    · exact ho y (List.mem_of_getElem? hy)
    · exact h.dat k b y hy
  · rcases sb k b y hy with ⟨hk, hy⟩ | ⟨hk, hy⟩
    · rcases sb l d z hz with ⟨hl, hz⟩ | ⟨hl, hz⟩
      · exact hf b d y z hy hz (by rcases hne with h | h; exact absurd (hk.trans hl.symm) h; exact h)
      · exact ap b y hy l d z hz
    · rcases sb l d z hz with ⟨hl, hz⟩ | ⟨hl, hz⟩
      · exact fun g h1 h2 => ap d z hz k b y hy g h2 h1
      · exact h.far k l b d y z hy hz hne
  · rcases sb k b y hy with ⟨_, hy⟩ | ⟨_, hy⟩
    · exact fun g h1 h2 => hap y (List.mem_of_getElem? hy) g h2 (.inl h1)
    · exact h.off k b y hy
/-- A row within a record has grown, in its place or into a new one. -/
theorem NOwn.appSb {w w' : World} {B T S n : Nat} {v : Value} {es : List El} (h : NOwn w B T S v n es) {i a : Nat} {e : El} {x x' : Sb} (hi : es[i]? = some e) (ha : e.sb[a]? = some x) (hv : x'.v.ownBlock = x.v.ownBlock ∨ ∃ f, w.heap.size ≤ f ∧ x'.v.ownBlock = some f) (ho : w'.ownsRow B x'.t x'.s x'.v x'.n x'.cs) (hw : WrB (fun k => x.v.ownBlock = some k) w w') :
    NOwn w' B T S v n (es.set i ⟨e.hd, e.sb.set a x'⟩) := by
  have hil : i < es.length := (List.getElem?_eq_some_iff.1 hi).1
  have hal : a < e.sb.length := (List.getElem?_eq_some_iff.1 ha).1
  have hx0 : sbAt es i a = some x := by unfold sbAt; rw [hi]; exact ha
  have sb : ∀ k b y, sbAt (es.set i ⟨e.hd, e.sb.set a x'⟩) k b = some y → (k = i ∧ b = a ∧ y = x') ∨ (sbAt es k b = some y ∧ (i ≠ k ∨ a ≠ b)) := fun k b y hy => by
    rw [sbAt_set hil] at hy
    by_cases hk : k = i
    · subst hk
      rw [if_pos rfl] at hy
      simp only at hy
      by_cases hb : b = a
      · subst hb
        rw [List.getElem?_set_self hal] at hy
        injection hy with hy
        exact .inl ⟨rfl, rfl, hy.symm⟩
      · rw [List.getElem?_set_ne (fun e => hb e.symm)] at hy
        exact .inr ⟨by unfold sbAt; rw [hi]; exact hy, .inr (fun e => hb e.symm)⟩
    · rw [if_neg hk] at hy
      exact .inr ⟨hy, .inl (fun e => hk e.symm)⟩
  have ap : ∀ (l d : Nat) (z : Sb), sbAt es l d = some z → (i ≠ l ∨ a ≠ d) → ∀ g, x'.v.ownBlock = some g → z.v.ownBlock ≠ some g := fun l d z hz hne g h1 h2 => by
    rcases hv with hv | ⟨f, hf, hv⟩
    · rw [hv] at h1; exact h.far i l a d x z hx0 hz hne g h1 h2
    · rw [hv] at h1; injection h1 with h1; have := ((h.dat l d z hz).lt g h2).2; omega
  refine ⟨?_, by rw [List.length_set]; exact h.len, fun y hy => ?_, fun k b y hy => ?_, fun k l b d y z hy hz hne => ?_, fun k b y hy => ?_⟩
  · rw [fm_same es h.wid i e _ hi]
    exact rr_owns_wr h.row hw (fun k hk e => h.off i a x hx0 k hk e)
  · rcases List.mem_or_eq_of_mem_set hy with hy | rfl
    · exact h.wid y hy
    · exact h.wid e (List.mem_of_getElem? hi)
  · rcases sb k b y hy with ⟨_, _, rfl⟩ | ⟨hy, hne⟩
    · exact ho
    · exact rr_owns_wr (h.dat k b y hy) hw (fun q hq e => h.far i k a b x y hx0 hy hne q e hq)
  · rcases sb k b y hy with ⟨rfl, rfl, rfl⟩ | ⟨qy, hn1⟩
    · rcases sb l d z hz with ⟨rfl, rfl, rfl⟩ | ⟨qz, hn2⟩
      · rcases hne with h | h <;> exact absurd rfl h
      · exact ap l d z qz hn2
    · rcases sb l d z hz with ⟨rfl, rfl, rfl⟩ | ⟨qz, hn2⟩
      · exact fun g h1 h2 => ap k b y qy hn1 g h2 h1
      · exact h.far k l b d y z qy qz hne
  · rcases sb k b y hy with ⟨rfl, rfl, rfl⟩ | ⟨hy, _⟩
    · intro g h1 h2
      rcases hv with hv | ⟨f, hf, hv⟩
      · rw [hv] at h2; exact h.off k b x hx0 g h1 h2
      · rw [hv] at h2; injection h2 with h2; have := (h.row.lt g h1).2; omega
    · exact h.off k b y hy
end Go.Proofs.Ytbboigidkimkmaa

namespace Go.Proofs.Ytbboigidkimkmaa
open Go.RowKit

/-- A page put together. -/
def conP (lo hi : ByteArray) (r : Int) (es : List EntD) (ds : List DelD) : PageD := if okPage lo hi r es ds = true then ⟨lo, highE hi ds, rightE r ds, entsE es ds, []⟩ else ⟨ByteArray.empty, ByteArray.empty, 0, [], []⟩
def conC (lo hi : ByteArray) (r : Int) (es : List EntD) (ds : List DelD) : Int := if okPage lo hi r es ds = true then 0 else 1
theorem conP_ds (lo hi : ByteArray) (r : Int) (es : List EntD) (ds : List DelD) : (conP lo hi r es ds).ds = [] := by unfold conP; split <;> rfl
theorem conP_len (lo hi : ByteArray) (r : Int) (es : List EntD) (ds : List DelD) : (conP lo hi r es ds).es.length ≤ 32 := by
  unfold conP
  split
  · rename_i h; exact (ok_len h).2.2
  · simp
/-- The answer of Consolidate. -/
def ConRes (lo hi : ByteArray) (r : Int) (es : List EntD) (ds : List DelD) (w : World) (e : Ending) (w' : World) : Prop :=
  ∃ a n c, e = .returned (.tuple #[pgv (conP lo hi r es ds).lo (conP lo hi r es ds).hi (conP lo hi r es ds).r a n c none 0 0, .int .i64 (conC lo hi r es ds)]) ∧ EOwns w' w.heap.size (.slice a n c) (conP lo hi r es ds).es ∧ Below w.heap.size w w'
/-- Five cells of a block stored anew. -/
abbrev set5 (w : World) (b : Nat) (v0 v1 v2 v3 v4 : Value) : World := ((((w.setCell ⟨b, 0, none⟩ v0).setCell ⟨b, 1, none⟩ v1).setCell ⟨b, 2, none⟩ v2).setCell ⟨b, 3, none⟩ v3).setCell ⟨b, 4, none⟩ v4
theorem set5_below {w w1 : World} {B b : Nat} (h : Below B w w1) (hb : B ≤ b) (v0 v1 v2 v3 v4 : Value) : Below B w (set5 w1 b v0 v1 v2 v3 v4) :=
  ((((h.setCell (p := ⟨b, 0, none⟩) hb _).setCell (p := ⟨b, 1, none⟩) hb _).setCell (p := ⟨b, 2, none⟩) hb _).setCell (p := ⟨b, 3, none⟩) hb _).setCell (p := ⟨b, 4, none⟩) hb _
theorem set5_owns {w : World} {B b e s n : Nat} {v : Value} {vs : List Value} (h : w.ownsRow B e s v n vs) (hb : b < B) (v0 v1 v2 v3 v4 : Value) : (set5 w b v0 v1 v2 v3 v4).ownsRow B e s v n vs :=
  ownsRow_set (ownsRow_set (ownsRow_set (ownsRow_set (ownsRow_set h hb _ _) hb _ _) hb _ _) hb _ _) hb _ _
theorem fz_cells {w : World} {b : Nat} {cs : Array Value} {t : TypeId} (h : w.heap[b]? = some (.cells cs t (0, 0))) : w.frozen? ⟨b, 0, none⟩ = false ∧ w.frozen? ⟨b, 1, none⟩ = false ∧ w.frozen? ⟨b, 2, none⟩ = false ∧ w.frozen? ⟨b, 3, none⟩ = false ∧ w.frozen? ⟨b, 4, none⟩ = false :=
  ⟨heap_frozen h 0, heap_frozen h 1, heap_frozen h 2, heap_frozen h 3, heap_frozen h 4⟩
theorem pg_cells5 {w : World} {b : Nat} {v0 v1 v2 v3 v4 : Value} {t : TypeId} (h : w.heap[b]? = some (.cells #[v0, v1, v2, v3, v4] t (0, 0))) : w.cell? ⟨b, 0, none⟩ = some v0 ∧ w.cell? ⟨b, 1, none⟩ = some v1 ∧ w.cell? ⟨b, 2, none⟩ = some v2 ∧ w.cell? ⟨b, 3, none⟩ = some v3 ∧ w.cell? ⟨b, 4, none⟩ = some v4 :=
  ⟨heap_cell h 0, heap_cell h 1, heap_cell h 2, heap_cell h 3, heap_cell h 4⟩
set_option maxRecDepth 100000 in
set_option maxHeartbeats 4000000 in
theorem page_any (sb : Nat) (lo hi : ByteArray) (r : Int) (a : Option Addr) (n c : Nat) (w : World) (h : SetAt w sb lo hi r (.slice a n c)) :
    Calls Try.prog 22 #[.pointer (some ⟨sb, 0, none⟩)] w fun e w' => e = .returned (pgv lo hi r a n c none 0 0) ∧ Below w.heap.size w w' := by
  have b0 : Below w.heap.size w (w.alloc (.cells #[.string ⟨#[]⟩, .string ⟨#[]⟩, .int .i64 0, .slice none 0 0, .slice none 0 0] 26)) := (Below.refl _ _).alloc (Nat.le_refl _) _
  have h' := h.below b0 h.lt
  have c0 := h'.c0
  have c1 := h'.c1
  have c2 := h'.c2
  have c3 := h'.c3
  obtain ⟨y0, y1, y2, y3, y4⟩ := pg_cells5 (heap_new (w := w) rfl #[.string ⟨#[]⟩, .string ⟨#[]⟩, .int .i64 0, .slice none 0 0, .slice none 0 0] 26)
  obtain ⟨f0, f1, f2, f3, f4⟩ := fz_cells (heap_new (w := w) rfl #[.string ⟨#[]⟩, .string ⟨#[]⟩, .int .i64 0, .slice none 0 0, .slice none 0 0] 26)
  clear h h'
  go_enter Try.func22, Try.ntmps22
  go_wp2_with fail
  generalize w.alloc (.cells #[.string ⟨#[]⟩, .string ⟨#[]⟩, .int .i64 0, .slice none 0 0, .slice none 0 0] 26) = W0 at *
  go_region
  all_goals
    go_wp2_with fail
    have B5 := (set5_below b0 (Nat.le_refl _) (.string lo) (.string hi) (.int .i64 r) (.slice a n c) (.slice none 0 0)).drew
    refine bodyPost_ret (v := pgv lo hi r a n c none 0 0) (by simp [results, Try.results22, go_sem, *]) rfl ?_
    exact ⟨rfl, B5⟩
/-- Two blocks at a call's head: a page and room for an answer. -/
theorem two_new (w : World) (v0 v1 v2 v3 v4 : Value) : ∃ W, W = (w.alloc (.cells #[v0, v1, v2, v3, v4] 26)).alloc (.cells #[.string ⟨#[]⟩, .string ⟨#[]⟩, .int .i64 0, .slice none 0 0, .slice none 0 0] 26) ∧ W.heap[w.heap.size]? = some (.cells #[v0, v1, v2, v3, v4] 26 (0, 0)) ∧
    W.heap[w.heap.size + 1]? = some (.cells #[.string ⟨#[]⟩, .string ⟨#[]⟩, .int .i64 0, .slice none 0 0, .slice none 0 0] 26 (0, 0)) ∧ W.heap.size = w.heap.size + 1 + 1 ∧ Below w.heap.size w W := by
  have z1 : (w.alloc (.cells #[v0, v1, v2, v3, v4] 26)).heap.size = w.heap.size + 1 := by simp
  have b2 : Below (w.heap.size + 1) (w.alloc (.cells #[v0, v1, v2, v3, v4] 26)) ((w.alloc (.cells #[v0, v1, v2, v3, v4] 26)).alloc (.cells #[.string ⟨#[]⟩, .string ⟨#[]⟩, .int .i64 0, .slice none 0 0, .slice none 0 0] 26)) := (Below.refl _ _).alloc (by omega) _
  exact ⟨_, rfl, (b2.block w.heap.size (by omega)).trans (heap_new rfl _ _), heap_new z1 _ _, by simp, ((Below.refl _ _).alloc (Nat.le_refl _) _).alloc (by simp) _⟩
end Go.Proofs.Ytbboigidkimkmaa

namespace Go.Proofs.Ytbboigidkimkmaa
open Go.RowKit

theorem con_ok {lo hi : ByteArray} {r : Int} {es : List EntD} {ds : List DelD} (h : okPage lo hi r es ds = true) : conP lo hi r es ds = ⟨lo, highE hi ds, rightE r ds, entsE es ds, []⟩ ∧ conC lo hi r es ds = 0 := by unfold conP conC; rw [if_pos h, if_pos h]; exact ⟨rfl, rfl⟩
theorem con_bad {lo hi : ByteArray} {r : Int} {es : List EntD} {ds : List DelD} (h : okPage lo hi r es ds = false) : conP lo hi r es ds = ⟨ByteArray.empty, ByteArray.empty, 0, [], []⟩ ∧ conC lo hi r es ds = 1 := by unfold conP conC; rw [if_neg (by rw [h]; decide), if_neg (by rw [h]; decide)]; exact ⟨rfl, rfl⟩
theorem conRes_bad {lo hi : ByteArray} {r : Int} {es : List EntD} {ds : List DelD} {w w' : World} (h : okPage lo hi r es ds = false) (hb : Below w.heap.size w w') : ConRes lo hi r es ds w (.returned (.tuple #[pgv ByteArray.empty ByteArray.empty 0 none 0 0 none 0 0, .int .i64 1])) w' := by
  unfold ConRes
  rw [(con_bad h).1, (con_bad h).2]
  exact ⟨none, 0, 0, rfl, World.ownsRow_nil _ _ _ _, hb⟩
theorem conRes_ok {lo hi : ByteArray} {r : Int} {es : List EntD} {ds : List DelD} {w w' : World} {a : Option Addr} {n c : Nat} (h : okPage lo hi r es ds = true) (ho : EOwns w' w.heap.size (.slice a n c) (entsE es ds)) (hb : Below w.heap.size w w') : ConRes lo hi r es ds w (.returned (.tuple #[pgv lo (highE hi ds) (rightE r ds) a n c none 0 0, .int .i64 0])) w' := by
  unfold ConRes
  rw [(con_ok h).1, (con_ok h).2]
  exact ⟨a, n, c, rfl, ho, hb⟩
set_option maxRecDepth 100000 in
set_option maxHeartbeats 4000000 in
theorem implConsolidate_any (lo hi : ByteArray) (r : Int) (ab : Option Addr) (nb cb : Nat) (es : List EntD) (ac : Option Addr) (nc cc : Nat) (ds : List DelD) (w : World) (hE : ERow w ab nb es) (hD : DRow w ac nc ds) :
    Calls Try.prog 7 #[pgv lo hi r ab nb cb ac nc cc] w fun e w' => ConRes lo hi r es ds w e w' := by
  obtain ⟨W, hW, k1, k2, z, b0⟩ := two_new w (.string lo) (.string hi) (.int .i64 r) (.slice ab nb cb) (.slice ac nc cc)
  have RE := hide (hE.below b0)
  have RD := hide (hD.below b0)
  have K2 := hide k2
  clear hE hD k1 k2
  go_enter Try.func7, Try.ntmps7
  go_wp2_with fail
  rw [← hW]
  clear hW
  refine (settle_any lo hi r ab nb cb es ac nc cc ds W (unhide RE) (unhide RD)).mono ?_
  rintro e w1 ⟨v, b, rfl, ⟨hb, hs⟩, hb1⟩
  have K2' := hide ((hb1.block (w.heap.size + 1) (by omega)).trans (unhide K2))
  have B1 := b0.trans (hb1.mono b0.size)
  have z1 : w.heap.size + 1 + 1 ≤ w1.heap.size := by have := hb1.size; omega
  clear hb1 b0 RE RD K2
  cases b with
  | false =>
    have HOK := hide hb.symm
    clear hb hs
    obtain ⟨t0, t1, t2, t3, t4⟩ := pg_cells5 (unhide K2')
    obtain ⟨f0, f1, f2, f3, f4⟩ := fz_cells (unhide K2')
    go_wp2_with fail
    refine bodyPost_ret (v := .tuple #[pgv ByteArray.empty ByteArray.empty 0 none 0 0 none 0 0, .int .i64 1]) (by simp [results, Try.results7, go_sem, *] <;> rfl) rfl ?_
    exact conRes_bad (unhide HOK) (by first | exact set5_below B1 (Nat.le_succ _) _ _ _ _ _ | exact B1)
  | true =>
    obtain ⟨sb, a', n', c', rfl, hsb, hS⟩ := hs rfl
    have HOK := hide hb.symm
    have HS := hide hS
    clear hb hs hS
    go_wp2_with fail
    refine (page_any sb lo (highE hi ds) (rightE r ds) a' n' c' w1 (unhide HS).at_).mono ?_
    rintro e w2 ⟨rfl, hb2⟩
    have B2 := B1.trans (hb2.mono B1.size)
    have S2 := hide ((unhide HS).step hb2)
    obtain ⟨t0, t1, t2, t3, t4⟩ := pg_cells5 ((hb2.block (w.heap.size + 1) (by omega)).trans (unhide K2'))
    obtain ⟨f0, f1, f2, f3, f4⟩ := fz_cells ((hb2.block (w.heap.size + 1) (by omega)).trans (unhide K2'))
    clear hb2 K2' HS
    have HR := hide (fun w' (ho : EOwns w' w.heap.size (.slice a' n' c') (entsE es ds)) hb => conRes_ok (w := w) (unhide HOK) ho hb)
    have O2 := hide (unhide S2).own
    have hlt : w.heap.size + 1 < sb + 1 := by omega
    generalize highE hi ds = hi1 at *
    generalize rightE r ds = r1 at *
    go_wp2_with fail
    refine bodyPost_ret (v := .tuple #[pgv lo hi1 r1 a' n' c' none 0 0, .int .i64 0]) (by simp [results, Try.results7, go_sem, *]) rfl ?_
    exact unhide HR _ (ownsRow_base (set5_owns (unhide O2) hlt _ _ _ _ _) (by omega)) (set5_below B2 (Nat.le_succ _) _ _ _ _ _)
end Go.Proofs.Ytbboigidkimkmaa

namespace Go.Proofs.Ytbboigidkimkmaa
open Go.RowKit

set_option maxRecDepth 100000 in
set_option maxHeartbeats 4000000 in
theorem concatE1 (ob : Nat) (a : Option Addr) (n c : Nat) (es : List EntD) (w : World) (hc : w.cell? ⟨ob, 0, none⟩ = some (.slice a n c)) (hR : ERow w a n es) (hcn : a = none → c = 0) (hn : n ≤ 1100000) :
    Calls Try.prog 38 #[.slice (some ⟨ob, 0, none⟩) 1 1] w fun e w' => ∃ v, e = .returned v ∧ EOwns w' w.heap.size v es ∧ Below w.heap.size w w' := by
  have R := hide hR
  have hob := cell_lt hc
  clear hR
  go_enter Try.func38, Try.ntmps38
  go_wp2_with fail
  refine wp_loop_rounds 2 ?_
  rw [rounds_succ]
  go_wp2_with fail
  rw [rounds_succ]
  go_wp2_with fail
  refine (growE n w (by omega)).mono ?_
  rintro e w1 ⟨v1, rfl, hO, _, hb⟩
  obtain ⟨v2, w2, hr, hO2, hg2, _⟩ := run_appE (c := c) 23 hO ((unhide R).below hb) (by simp) (by omega) hcn hb.size
  have hc1 := (hb.cell (p := ⟨ob, 0, none⟩) hob).trans hc
  have B2 := hide (hb.trans ((Below.refl w.heap.size w1).grown hg2 hb.size (fun k hk => (hO.lt k hk).1)))
  have O2 := hide (show EOwns w2 w.heap.size v2 es from hO2)
  clear hO hO2 hg2 hb R
  go_wp2_with fail
  refine wp_loop_rounds 2 ?_
  rw [rounds_succ]
  go_wp2_with (at_builtin; refine wpAppE rfl _ _ 23 rfl _ _ v2 w2 rfl rfl hr ?_)
  rw [rounds_succ]
  go_wp2_with fail
  go_ret
  exact ⟨v2, rfl, unhide O2, unhide B2⟩
set_option maxRecDepth 100000 in
set_option maxHeartbeats 4000000 in
theorem concatD2 (ob : Nat) (a : Option Addr) (n c : Nat) (ds : List DelD) (b : Nat) (d : DelD) (w : World) (hc : w.cell? ⟨ob, 0, none⟩ = some (.slice a n c)) (hc2 : w.cell? ⟨ob, 1, none⟩ = some (.slice (some ⟨b, 0, none⟩) 1 1)) (hR : DRow w a n ds) (hD : DRow w (some ⟨b, 0, none⟩) 1 [d]) (hcn : a = none → c = 0) (hn : n ≤ 1100000) :
    Calls Try.prog 39 #[.slice (some ⟨ob, 0, none⟩) 2 2] w fun e w' => ∃ v, e = .returned v ∧ DOwns w' w.heap.size v (ds ++ [d]) ∧ Below w.heap.size w w' := by
  have R := hide hR
  have R2 := hide hD
  have LD := hide hR.1
  have hob := cell_lt hc
  clear hR hD
  go_enter Try.func39, Try.ntmps39
  go_wp2_with fail
  refine wp_loop_rounds 3 ?_
  rw [rounds_succ]
  go_wp2_with fail
  rw [rounds_succ]
  go_wp2_with fail
  rw [rounds_succ]
  go_wp2_with fail
  refine (growDP (n + 1) w (by omega)).mono ?_
  rintro e w1 ⟨v1, rfl, hO, _, hb⟩
  obtain ⟨v2, w2, hr, hO2, hg2, _⟩ := run_appD (c := c) 24 hO ((unhide R).below hb) (by simp) (by omega) hcn hb.size
  have hc1 := (hb.cell (p := ⟨ob, 0, none⟩) hob).trans hc
  have b2 : Below w.heap.size w w2 := hb.trans ((Below.refl w.heap.size w1).grown hg2 hb.size (fun k hk => (hO.lt k hk).1))
  have hc3 := (b2.cell (p := ⟨ob, 1, none⟩) hob).trans hc2
  obtain ⟨v3, w3, hr3, hO3, hg3, _⟩ := run_appD (c := 1) 24 hO2 ((unhide R2).below b2) (by have := unhide LD; simp; omega) (by omega) (fun h => by cases h) b2.size
  have B3 := hide (b2.trans ((Below.refl w.heap.size w2).grown hg3 b2.size (fun k hk => (hO2.lt k hk).1)))
  have O3 := hide (show DOwns w3 w.heap.size v3 (ds ++ [d]) from hO3)
  clear hO hO2 hg2 hb R R2 hO3 hg3 b2
  go_wp2_with fail
  refine wp_loop_rounds 3 ?_
  rw [rounds_succ]
  go_wp2_with (at_builtin; refine wpAppE rfl _ _ 24 rfl _ _ v2 w2 rfl rfl hr ?_)
  rw [rounds_succ]
  go_wp2_with (at_builtin; refine wpAppE rfl _ _ 24 rfl _ _ v3 w3 rfl rfl hr3 ?_)
  rw [rounds_succ]
  go_wp2_with fail
  go_ret
  exact ⟨v3, rfl, unhide O3, unhide B3⟩
end Go.Proofs.Ytbboigidkimkmaa

namespace Go.Proofs.Ytbboigidkimkmaa
open Go.RowKit

set_option maxRecDepth 100000 in
set_option maxHeartbeats 4000000 in
theorem l04Own_any (lo hi : ByteArray) (r : Int) (ab : Option Addr) (nb cb : Nat) (es : List EntD) (ac : Option Addr) (nc cc : Nat) (ds : List DelD) (w : World) (hE : ERow w ab nb es) (hD : DRow w ac nc ds) (hnb : nb ≤ 1100000) (hnc : nc ≤ 1100000) (hcb : ab = none → cb = 0) (hcc : ac = none → cc = 0) :
    Calls Try.prog 42 #[pgv lo hi r ab nb cb ac nc cc] w fun e w' => ∃ a n c a2 n2 c2, e = .returned (pgv lo hi r a n c a2 n2 c2) ∧ PgOwn w' w.heap.size a n c a2 n2 c2 es ds ∧ Below w.heap.size w w' := by
  obtain ⟨W, hW, k1, k2, z, b0⟩ := two_new w (.string lo) (.string hi) (.int .i64 r) (.slice ab nb cb) (.slice ac nc cc)
  have bA : Below W.heap.size W (W.alloc (.cells #[] 57)) := (Below.refl _ _).alloc (Nat.le_refl _) _
  have OA := nil_lit (w := W) 57 2
  have zA : (W.alloc (.cells #[] 57)).heap.size = W.heap.size + 1 := by simp
  have KA1 := (bA.block w.heap.size (by omega)).trans k1
  have KA2 := (bA.block (w.heap.size + 1) (by omega)).trans k2
  obtain ⟨v1, w1, hr1, hO1, hg1, hv1⟩ := run_appE (c := cb) 23 (show EOwns _ _ _ [] from OA) ((hE.below b0).below bA) (by simp) (by omega) hcb (by omega)
  have b1 : Below W.heap.size W w1 := bA.trans ((Below.refl _ _).grown hg1 (by omega) (fun k hk => (World.ownsRow.lt OA k hk).1))
  have zW1 : W.heap.size ≤ w1.heap.size := b1.size
  obtain ⟨a1, n1, c1, rfl⟩ : ∃ a n c, v1 = .slice a n c := by
    rcases hO1.2 with ⟨e, _⟩ | ⟨g, cap, cur, e, _⟩
    · exact ⟨_, _, _, e⟩
    · exact ⟨_, _, _, e⟩
  have K1 := (b1.block w.heap.size (by omega)).trans k1
  have K2 := (b1.block (w.heap.size + 1) (by omega)).trans k2
  have B1 := b0.trans (b1.mono b0.size)
  clear bA OA zA KA2 hg1 b1 k2
  have c13 : w1.cell? ⟨w.heap.size, 3, none⟩ = some (.slice ab nb cb) := heap_cell K1 3
  have f13 := heap_frozen K1 3
  have zs : (w1.setCell ⟨w.heap.size, 3, none⟩ (.slice a1 n1 c1)).heap.size = w1.heap.size := by simp [World.setCell]
  have K1s := heap_set K1 3 (.slice a1 n1 c1)
  have K2s := (Below.heap_setCell w1 ⟨w.heap.size, 3, none⟩ (.slice a1 n1 c1) (w.heap.size + 1) (by simp)).trans K2
  have O1s := ownsRow_set (show w1.ownsRow _ _ _ _ _ _ from hO1) (sb := w.heap.size) (by omega) 3 (.slice a1 n1 c1)
  have Bs := B1.setCell (p := ⟨w.heap.size, 3, none⟩) (Nat.le_refl _) (.slice a1 n1 c1)
  obtain ⟨ws, hws⟩ : ∃ ws, ws = w1.setCell ⟨w.heap.size, 3, none⟩ (.slice a1 n1 c1) := ⟨_, rfl⟩
  rw [← hws] at zs K1s K2s O1s Bs
  have bC : Below ws.heap.size ws (ws.alloc (.cells #[] 41)) := (Below.refl _ _).alloc (Nat.le_refl _) _
  have OC := nil_lit (w := ws) 41 4
  have zC : (ws.alloc (.cells #[] 41)).heap.size = ws.heap.size + 1 := by simp
  obtain ⟨v3, w3, hr3, hO3, hg3, hv3⟩ := run_appD (c := cc) 24 (show DOwns _ _ _ [] from OC) ((hD.below Bs).below bC) (by simp) (by omega) hcc (by omega)
  have b3 : Below ws.heap.size ws w3 := bC.trans ((Below.refl _ _).grown hg3 (by omega) (fun k hk => (World.ownsRow.lt OC k hk).1))
  obtain ⟨a3, n3, c3, rfl⟩ : ∃ a n c, v3 = .slice a n c := by
    rcases hO3.2 with ⟨e, _⟩ | ⟨g, cap, cur, e, _⟩
    · exact ⟨_, _, _, e⟩
    · exact ⟨_, _, _, e⟩
  have K1c := (bC.block w.heap.size (by omega)).trans K1s
  have K1t := (b3.block w.heap.size (by omega)).trans K1s
  have K2t := (b3.block (w.heap.size + 1) (by omega)).trans K2s
  have O1t := ownsRow_below O1s b3
  have B3 := Bs.trans (b3.mono Bs.size)
  have zz3 := b3.size
  have AP : ∀ i, (Value.slice a1 n1 c1).ownBlock = some i → ¬ (Value.slice a3 n3 c3).ownBlock = some i := fun i h1 h2 => by
    have := (O1s.lt i h1).2
    have := (hO3.lt i h2).1
    omega
  have K1u := heap_set K1t 4 (.slice a3 n3 c3)
  have K2u := (Below.heap_setCell w3 ⟨w.heap.size, 4, none⟩ (.slice a3 n3 c3) (w.heap.size + 1) (by simp)).trans K2t
  have O1u := ownsRow_set O1t (sb := w.heap.size) (by omega) 4 (.slice a3 n3 c3)
  have O3u := ownsRow_set (show w3.ownsRow _ _ _ _ _ _ from hO3) (sb := w.heap.size) (by omega) 4 (.slice a3 n3 c3)
  have Bu := B3.setCell (p := ⟨w.heap.size, 4, none⟩) (Nat.le_refl _) (.slice a3 n3 c3)
  have d3 : (ws.alloc (.cells #[] 41)).cell? ⟨w.heap.size, 4, none⟩ = some (.slice ac nc cc) := heap_cell K1c 4
  have c34 : w3.cell? ⟨w.heap.size, 4, none⟩ = some (.slice ac nc cc) := heap_cell K1t 4
  have f34 := heap_frozen K1t 4
  have cA3 : (W.alloc (.cells #[] 57)).cell? ⟨w.heap.size, 3, none⟩ = some (.slice ab nb cb) := heap_cell KA1 3
  obtain ⟨wu, hwu⟩ : ∃ wu, wu = w3.setCell ⟨w.heap.size, 4, none⟩ (.slice a3 n3 c3) := ⟨_, rfl⟩
  rw [← hwu] at K1u K2u O1u O3u Bu
  have u0 : wu.cell? ⟨w.heap.size, 0, none⟩ = some (.string lo) := heap_cell K1u 0
  have u1 : wu.cell? ⟨w.heap.size, 1, none⟩ = some (.string hi) := heap_cell K1u 1
  have u2 : wu.cell? ⟨w.heap.size, 2, none⟩ = some (.int .i64 r) := heap_cell K1u 2
  have u3 : wu.cell? ⟨w.heap.size, 3, none⟩ = some (.slice a1 n1 c1) := heap_cell K1u 3
  have u4 : wu.cell? ⟨w.heap.size, 4, none⟩ = some (.slice a3 n3 c3) := heap_cell K1u 4
  obtain ⟨t0, t1, t2, t3, t4⟩ := pg_cells5 K2u
  obtain ⟨f0, f1, f2, f3, f4⟩ := fz_cells K2u
  have hb1 : w.heap.size + 1 < W.heap.size := by omega
  have hb3 : w.heap.size + 1 < ws.heap.size := by omega
  have FE := hide (set5_owns O1u hb1 (.string lo) (.string hi) (.int .i64 r) (.slice a1 n1 c1) (.slice a3 n3 c3))
  have FD := hide (set5_owns O3u hb3 (.string lo) (.string hi) (.int .i64 r) (.slice a1 n1 c1) (.slice a3 n3 c3))
  have FB := hide (set5_below Bu (Nat.le_succ _) (.string lo) (.string hi) (.int .i64 r) (.slice a1 n1 c1) (.slice a3 n3 c3))
  have HR1 := hide hr1
  have HR3 := hide hr3
  have HWS := hide hws
  have HWU := hide hwu
  have HW := hide hW
  have HAP := hide AP
  have hle1 : w.heap.size ≤ W.heap.size := by omega
  have hle2 : w.heap.size ≤ ws.heap.size := by omega
  clear K1u K2u O1u O3u Bu K1t K2t O1t B3 hO3 hg3 b3 K1c bC OC zC O1s Bs K1s K2s K1 K2 hO1 KA1 B1 k1 b0 hE hD hr1 hr3 hws hwu hW AP hv1 hv3 zz3 zW1 hb1 hb3 z zs
  go_enter Try.func42, Try.ntmps42
  go_upto_region 1 with fail
  rw [← unhide HW]
  go_upto_region 2 with (at_builtin; refine wpAppE rfl _ _ 23 rfl _ _ _ w1 rfl rfl (unhide HR1) ?_)
  rw [← unhide HWS]
  clear cA3 c13 f13
  go_upto_region 3 with (at_builtin; refine wpAppE rfl _ _ 24 rfl _ _ _ w3 rfl rfl (unhide HR3) ?_)
  rw [← unhide HWU]
  clear d3 c34 f34
  go_wp2_with fail
  refine bodyPost_ret (v := pgv lo hi r a1 n1 c1 a3 n3 c3) (by simp [results, Try.results42, go_sem, *]) rfl ?_
  exact ⟨_, _, _, _, _, _, rfl, ⟨ownsRow_base (unhide FE) hle1, ownsRow_base (unhide FD) hle2, unhide HAP⟩, unhide FB⟩
end Go.Proofs.Ytbboigidkimkmaa

namespace Go.Proofs.Ytbboigidkimkmaa
open Go.RowKit

/-- A change as a value. -/
abbrev dv (d : DelD) : Value := .agg #[.int .i64 d.kind, .string d.k, .string d.v, .int .i64 d.to]
/-- The code of Extend. -/
def extC (lo hi : ByteArray) (r : Int) (es : List EntD) (ds : List DelD) (d : DelD) : Int :=
  if okPage lo hi r es ds = false then 1 else if okDel lo (highE hi ds) d = false then 4 else if ds.length = 12 then 7 else if 32 < (entsE es (ds ++ [d])).length then 6 else 0
/-- The page of Extend. -/
def extP (lo hi : ByteArray) (r : Int) (es : List EntD) (ds : List DelD) (d : DelD) : PageD := if extC lo hi r es ds d = 0 then ⟨lo, hi, r, es, ds ++ [d]⟩ else ⟨ByteArray.empty, ByteArray.empty, 0, [], []⟩
/-- The answer of Extend. -/
def ExtRes (lo hi : ByteArray) (r : Int) (es : List EntD) (ds : List DelD) (d : DelD) (w : World) (e : Ending) (w' : World) : Prop :=
  ∃ a n c a2 n2 c2, e = .returned (.tuple #[pgv (extP lo hi r es ds d).lo (extP lo hi r es ds d).hi (extP lo hi r es ds d).r a n c a2 n2 c2, .int .i64 (extC lo hi r es ds d)]) ∧ PgOwn w' w.heap.size a n c a2 n2 c2 (extP lo hi r es ds d).es (extP lo hi r es ds d).ds ∧ Below w.heap.size w w'
theorem own_apart {w : World} {B C : Nat} {v v2 : Value} {es : List EntD} {ds : List DelD} (h1 : EOwns w B v es) (h2 : DOwns w C v2 ds) : ∀ i, v.ownBlock = some i → ¬ v2.ownBlock = some i := by
  intro i e1 e2
  rcases h1.2 with ⟨rfl, _⟩ | ⟨g, cap, cur, rfl, _, hh, _⟩
  · cases e1
  rcases h2.2 with ⟨rfl, _⟩ | ⟨g2, cap2, cur2, rfl, _, hh2, _⟩
  · cases e2
  simp only [Value.ownBlock, Option.some.injEq] at e1 e2
  subst e1 e2
  rw [hh] at hh2
  injection hh2 with hh2
  injection hh2 with _ hh2
  exact absurd hh2 (by decide)
theorem pgown_nil (w : World) (B : Nat) : PgOwn w B none 0 0 none 0 0 [] [] := ⟨World.ownsRow_nil _ _ _ _, World.ownsRow_nil _ _ _ _, fun i h => by cases h⟩
theorem ext_bad {lo hi : ByteArray} {r : Int} {es : List EntD} {ds : List DelD} {d : DelD} {w w' : World} {k : Int} (h : extC lo hi r es ds d = k) (hk : k ≠ 0) (hb : Below w.heap.size w w') : ExtRes lo hi r es ds d w (.returned (.tuple #[pgv ByteArray.empty ByteArray.empty 0 none 0 0 none 0 0, .int .i64 k])) w' := by
  have e : extP lo hi r es ds d = ⟨ByteArray.empty, ByteArray.empty, 0, [], []⟩ := by unfold extP; rw [if_neg (by rw [h]; exact hk)]
  unfold ExtRes
  rw [e, h]
  exact ⟨none, 0, 0, none, 0, 0, rfl, pgown_nil _ _, hb⟩
theorem ext_good {lo hi : ByteArray} {r : Int} {es : List EntD} {ds : List DelD} {d : DelD} {w w' : World} {a : Option Addr} {n c : Nat} {a2 : Option Addr} {n2 c2 : Nat} (h : extC lo hi r es ds d = 0) (ho : EOwns w' w.heap.size (.slice a n c) es) (ho2 : DOwns w' w.heap.size (.slice a2 n2 c2) (ds ++ [d])) (hb : Below w.heap.size w w') : ExtRes lo hi r es ds d w (.returned (.tuple #[pgv lo hi r a n c a2 n2 c2, .int .i64 0])) w' := by
  have e : extP lo hi r es ds d = ⟨lo, hi, r, es, ds ++ [d]⟩ := by unfold extP; rw [if_pos h]
  unfold ExtRes
  rw [e, h]
  exact ⟨a, n, c, a2, n2, c2, rfl, ⟨ho, ho2, own_apart ho ho2⟩, hb⟩
theorem ext1 {lo hi : ByteArray} {r : Int} {es : List EntD} {ds : List DelD} {d : DelD} (h : okPage lo hi r es ds = false) : extC lo hi r es ds d = 1 := by unfold extC; rw [if_pos h]
theorem ext4 {lo hi : ByteArray} {r : Int} {es : List EntD} {ds : List DelD} {d : DelD} (h : okPage lo hi r es ds = true) (h1 : okDel lo (highE hi ds) d = false) : extC lo hi r es ds d = 4 := by unfold extC; rw [if_neg (by rw [h]; decide), if_pos h1]
theorem ext7 {lo hi : ByteArray} {r : Int} {es : List EntD} {ds : List DelD} {d : DelD} (h : okPage lo hi r es ds = true) (h1 : okDel lo (highE hi ds) d = true) (h2 : ds.length = 12) : extC lo hi r es ds d = 7 := by unfold extC; rw [if_neg (by rw [h]; decide), if_neg (by rw [h1]; decide), if_pos h2]
theorem ext6 {lo hi : ByteArray} {r : Int} {es : List EntD} {ds : List DelD} {d : DelD} (h : okPage lo hi r es ds = true) (h1 : okDel lo (highE hi ds) d = true) (h2 : ¬ ds.length = 12) (h3 : 32 < (entsE es (ds ++ [d])).length) : extC lo hi r es ds d = 6 := by unfold extC; rw [if_neg (by rw [h]; decide), if_neg (by rw [h1]; decide), if_neg h2, if_pos h3]
theorem ext0 {lo hi : ByteArray} {r : Int} {es : List EntD} {ds : List DelD} {d : DelD} (h : okPage lo hi r es ds = true) (h1 : okDel lo (highE hi ds) d = true) (h2 : ¬ ds.length = 12) (h3 : ¬ 32 < (entsE es (ds ++ [d])).length) : extC lo hi r es ds d = 0 := by unfold extC; rw [if_neg (by rw [h]; decide), if_neg (by rw [h1]; decide), if_neg h2, if_neg h3]
/-- Three blocks at a call's head: a page, a change and room for an answer. -/
theorem three_new (w : World) (v0 v1 v2 v3 v4 : Value) (d : DelD) : ∃ W, W = ((w.alloc (.cells #[v0, v1, v2, v3, v4] 26)).alloc (.cells #[.int .i64 d.kind, .string d.k, .string d.v, .int .i64 d.to] 41)).alloc (.cells #[.string ⟨#[]⟩, .string ⟨#[]⟩, .int .i64 0, .slice none 0 0, .slice none 0 0] 26) ∧ W.heap[w.heap.size]? = some (.cells #[v0, v1, v2, v3, v4] 26 (0, 0)) ∧
    W.heap[w.heap.size + 1]? = some (.cells #[.int .i64 d.kind, .string d.k, .string d.v, .int .i64 d.to] 41 (0, 0)) ∧ W.heap[w.heap.size + 1 + 1]? = some (.cells #[.string ⟨#[]⟩, .string ⟨#[]⟩, .int .i64 0, .slice none 0 0, .slice none 0 0] 26 (0, 0)) ∧ W.heap.size = w.heap.size + 1 + 1 + 1 ∧ Below w.heap.size w W := by
  obtain ⟨W1, h1⟩ : ∃ W1, W1 = w.alloc (.cells #[v0, v1, v2, v3, v4] 26) := ⟨_, rfl⟩
  have z1 : W1.heap.size = w.heap.size + 1 := by rw [h1]; simp
  have k1 : W1.heap[w.heap.size]? = some (.cells #[v0, v1, v2, v3, v4] 26 (0, 0)) := by rw [h1]; exact heap_new rfl _ _
  have b1 : Below w.heap.size w W1 := by rw [h1]; exact (Below.refl _ _).alloc (Nat.le_refl _) _
  obtain ⟨W2, h2⟩ : ∃ W2, W2 = W1.alloc (.cells #[.int .i64 d.kind, .string d.k, .string d.v, .int .i64 d.to] 41) := ⟨_, rfl⟩
  have z2 : W2.heap.size = w.heap.size + 1 + 1 := by rw [h2]; simp [z1]
  have k2 : W2.heap[w.heap.size + 1]? = some (.cells #[.int .i64 d.kind, .string d.k, .string d.v, .int .i64 d.to] 41 (0, 0)) := by rw [h2]; exact heap_new z1 _ _
  have b2 : Below W1.heap.size W1 W2 := by rw [h2]; exact (Below.refl _ _).alloc (Nat.le_refl _) _
  obtain ⟨W3, h3⟩ : ∃ W3, W3 = W2.alloc (.cells #[.string ⟨#[]⟩, .string ⟨#[]⟩, .int .i64 0, .slice none 0 0, .slice none 0 0] 26) := ⟨_, rfl⟩
  have b3 : Below W2.heap.size W2 W3 := by rw [h3]; exact (Below.refl _ _).alloc (Nat.le_refl _) _
  refine ⟨W3, by rw [h3, h2, h1], (b3.block _ (by omega)).trans ((b2.block _ (by omega)).trans k1), (b3.block _ (by omega)).trans k2, by rw [h3]; exact heap_new z2 _ _, by rw [h3]; simp [z2], ?_⟩
  exact b1.trans ((b2.mono (by omega)).trans (b3.mono (by omega)))
theorem d_cells {w : World} {b : Nat} {d : DelD} {t : TypeId} (h : w.heap[b]? = some (.cells #[.int .i64 d.kind, .string d.k, .string d.v, .int .i64 d.to] t (0, 0))) : w.cell? ⟨b, 0, none⟩ = some (.int .i64 d.kind) ∧ w.cell? ⟨b, 1, none⟩ = some (.string d.k) ∧ w.cell? ⟨b, 2, none⟩ = some (.string d.v) ∧ w.cell? ⟨b, 3, none⟩ = some (.int .i64 d.to) :=
  ⟨heap_cell h 0, heap_cell h 1, heap_cell h 2, heap_cell h 3⟩
theorem drow_one {w : World} {b : Nat} {d : DelD} {t : TypeId} (h : w.heap[b]? = some (.cells #[.int .i64 d.kind, .string d.k, .string d.v, .int .i64 d.to] t (0, 0))) : DRow w (some ⟨b, 0, none⟩) 1 [d] := by
  obtain ⟨h0, h1, h2, h3⟩ := d_cells h
  refine ⟨rfl, fun i hi => ⟨b, 0, rfl, ?_⟩⟩
  obtain rfl : i = 0 := by simp at hi; omega
  exact ⟨h0, h1, h2, h3⟩
theorem heap_lt {w : World} {b : Nat} {o : Obj} (h : w.heap[b]? = some o) : b < w.heap.size := (Array.getElem?_eq_some_iff.1 h).1
set_option maxRecDepth 100000 in
set_option maxHeartbeats 8000000 in
theorem specExtend_any (lo hi : ByteArray) (r : Int) (ab : Option Addr) (nb cb : Nat) (es : List EntD) (ac : Option Addr) (nc cc : Nat) (ds : List DelD) (d : DelD) (w : World) (hE : ERow w ab nb es) (hD : DRow w ac nc ds) (hcb : ab = none → cb = 0) (hcc : ac = none → cc = 0) :
    Calls Try.prog 17 #[pgv lo hi r ab nb cb ac nc cc, dv d] w fun e w' => ExtRes lo hi r es ds d w e w' := by
  obtain ⟨W, hW, k1, k2, k3, z, b0⟩ := three_new w (.string lo) (.string hi) (.int .i64 r) (.slice ab nb cb) (.slice ac nc cc) d
  have RE := hide (hE.below b0)
  have RD := hide (hD.below b0)
  have LE := hide hE.1
  have LD := hide hD.1
  have K1 := hide k1
  have K2 := hide k2
  have K3 := hide k3
  clear hE hD k1 k2 k3
  go_enter Try.func17, Try.ntmps17
  go_wp2_with fail
  rw [← hW]
  clear hW
  refine (specPageOK_any lo hi r ab nb cb es ac nc cc ds W (unhide RE) (unhide RD) hcb).mono ?_
  rintro e w1 ⟨rfl, hb⟩
  replace K1 := hide ((hb.block w.heap.size (by omega)).trans (unhide K1))
  replace K2 := hide ((hb.block (w.heap.size + 1) (by omega)).trans (unhide K2))
  replace K3 := hide ((hb.block (w.heap.size + 1 + 1) (by omega)).trans (unhide K3))
  replace RE := hide ((unhide RE).below hb)
  replace RD := hide ((unhide RD).below hb)
  have B1 := b0.trans (hb.mono b0.size)
  have z1 : w.heap.size + 1 + 1 + 1 ≤ w1.heap.size := by have := hb.size; omega
  clear hb b0 z
  by_cases hok : okPage lo hi r es ds = true
  · have hl := ok_len hok
    have HOK := hide hok
    have hb' : nb ≤ 100 := by have := unhide LE; omega
    have hc' : nc ≤ 12 := by have := unhide LD; omega
    rw [hok]
    clear hok hl
    obtain ⟨p0, p1, p2, p3, p4⟩ := pg_cells5 (unhide K1)
    go_wp2_with fail
    refine (l04Bounds_any lo hi r (.slice ab nb cb) ac nc cc ds w1 (unhide RD) (by omega)).mono ?_
    rintro e w2 ⟨rfl, hb⟩
    replace K1 := hide ((hb.block w.heap.size (by omega)).trans (unhide K1))
    replace K2 := hide ((hb.block (w.heap.size + 1) (by omega)).trans (unhide K2))
    replace K3 := hide ((hb.block (w.heap.size + 1 + 1) (by omega)).trans (unhide K3))
    replace RE := hide ((unhide RE).below hb)
    replace RD := hide ((unhide RD).below hb)
    replace B1 := B1.trans (hb.mono B1.size)
    have z2 : w.heap.size + 1 + 1 + 1 ≤ w2.heap.size := by have := hb.size; omega
    clear hb p0 p1 p2 p3 p4 z1
    obtain ⟨p0, p1, p2, p3, p4⟩ := pg_cells5 (unhide K1)
    obtain ⟨q0, q1, q2, q3⟩ := d_cells (unhide K2)
    go_wp2_with fail
    refine (l04Delta_any d lo (highE hi ds) w2).mono ?_
    rintro e w3 ⟨rfl, hb⟩
    replace K1 := hide ((hb.block w.heap.size (by omega)).trans (unhide K1))
    replace K2 := hide ((hb.block (w.heap.size + 1) (by omega)).trans (unhide K2))
    replace K3 := hide ((hb.block (w.heap.size + 1 + 1) (by omega)).trans (unhide K3))
    replace RE := hide ((unhide RE).below hb)
    replace RD := hide ((unhide RD).below hb)
    replace B1 := B1.trans (hb.mono B1.size)
    have z3 : w.heap.size + 1 + 1 + 1 ≤ w3.heap.size := by have := hb.size; omega
    clear hb p0 p1 p2 p3 p4 q0 q1 q2 q3 z2
    obtain ⟨p0, p1, p2, p3, p4⟩ := pg_cells5 (unhide K1)
    by_cases hdl : okDel lo (highE hi ds) d = true
    · have HDL := hide hdl
      rw [hdl]
      clear hdl
      by_cases h12 : nc = 12
      · have hn12 : ds.length = 12 := by rw [unhide LD]; exact h12
        have h12' : ((nc : Int) == 12) = true := by simp [h12]
        have H12 := hide hn12
        clear h12 hn12
        obtain ⟨t0, t1, t2, t3, t4⟩ := pg_cells5 (unhide K3)
        obtain ⟨f0, f1, f2, f3, f4⟩ := fz_cells (unhide K3)
        have EX := hide (ext7 (unhide HOK) (unhide HDL) (unhide H12))
        go_wp2_with fail
        refine bodyPost_ret (v := .tuple #[pgv ByteArray.empty ByteArray.empty 0 none 0 0 none 0 0, .int .i64 7]) (by simp [results, Try.results17, go_sem, *] <;> rfl) rfl ?_
        exact ext_bad (unhide EX) (by decide) (by first | exact set5_below B1 (by omega) _ _ _ _ _ | exact B1)
      · have hn12 : ¬ ds.length = 12 := by rw [unhide LD]; exact h12
        have h12' : ((nc : Int) == 12) = false := by simp; omega
        have H12 := hide hn12
        have hc11 : nc ≤ 11 := by omega
        clear h12 hn12
        go_wp2_with fail
        refine (l04Own_any lo hi r ab nb cb es ac nc cc ds w3 (unhide RE) (unhide RD) (by omega) (by omega) hcb hcc).mono ?_
        rintro e w4 ⟨a4, n4, c4, a5, n5, c5, rfl, hO, hb⟩
        have OW := hide hO
        replace K2 := hide ((hb.block (w.heap.size + 1) (by omega)).trans (unhide K2))
        replace K3 := hide ((hb.block (w.heap.size + 1 + 1) (by omega)).trans (unhide K3))
        replace B1 := B1.trans (hb.mono B1.size)
        have z4 : w.heap.size + 1 + 1 + 1 ≤ w4.heap.size := by have := hb.size; omega
        have z34 : w3.heap.size ≤ w4.heap.size := hb.size
        clear hb p0 p1 p2 p3 p4 K1 RE RD hO
        have bx : Below w4.heap.size w4 (w4.alloc (.cells #[.string lo, .string hi, .int .i64 r, .slice a4 n4 c4, .slice a5 n5 c5] 26)) := (Below.refl _ _).alloc (Nat.le_refl _) _
        have KX := hide (heap_alloc_new w4 (.cells #[.string lo, .string hi, .int .i64 r, .slice a4 n4 c4, .slice a5 n5 c5] 26))
        have zx : (w4.alloc (.cells #[.string lo, .string hi, .int .i64 r, .slice a4 n4 c4, .slice a5 n5 c5] 26)).heap.size = w4.heap.size + 1 := by simp
        have BLK := hide (show ∀ i, PgBlk a4 n4 c4 a5 n5 c5 i → i < w4.heap.size from fun i h => ((unhide OW).blk h).2)
        replace OW := hide ((unhide OW).below bx)
        replace K2 := hide ((bx.block (w.heap.size + 1) (by omega)).trans (unhide K2))
        replace K3 := hide ((bx.block (w.heap.size + 1 + 1) (by omega)).trans (unhide K3))
        replace B1 := B1.trans (bx.mono B1.size)
        obtain ⟨wx, hwx⟩ : ∃ wx, wx = w4.alloc (.cells #[.string lo, .string hi, .int .i64 r, .slice a4 n4 c4, .slice a5 n5 c5] 26) := ⟨_, rfl⟩
        rw [← hwx] at KX zx OW K2 K3 B1
        obtain ⟨bo, hbo⟩ : ∃ bo, bo = w4.heap.size := ⟨_, rfl⟩
        rw [← hbo] at KX zx BLK z4 z34
        have HWX := hide hwx
        have HBO := hide hbo
        clear hwx bx
        -- the append
        have by' : Below wx.heap.size wx (wx.alloc (.cells #[.int .i64 d.kind, .string d.k, .string d.v, .int .i64 d.to] 41)) := (Below.refl _ _).alloc (Nat.le_refl _) _
        have KD := drow_one (heap_alloc_new wx (.cells #[.int .i64 d.kind, .string d.k, .string d.v, .int .i64 d.to] 41))
        have zy : (wx.alloc (.cells #[.int .i64 d.kind, .string d.k, .string d.v, .int .i64 d.to] 41)).heap.size = wx.heap.size + 1 := by simp
        have OY := (unhide OW).below by'
        have KXy := (by'.block bo (by omega)).trans (unhide KX)
        have K3y := (by'.block (w.heap.size + 1 + 1) (by omega)).trans (unhide K3)
        have By := B1.trans (by'.mono B1.size)
        obtain ⟨v6, w6, hr6, hO6, hg6, _⟩ := run_appD (c := 1) 24 OY.2.1 KD (by have := unhide LD; omega) (by omega) (fun h => by cases h) (by omega)
        have NB5 : ∀ i, i = bo ∨ i = w.heap.size + 1 + 1 → some i ≠ (Value.slice a5 n5 c5).ownBlock := fun i hi e => by
          have h1 := unhide BLK i (.inr e.symm)
          have h2 := (OY.2.1.lt i e.symm).1
          omega
        have KX6 := (hg6.block bo (by omega) (NB5 bo (.inl rfl))).trans KXy
        have K36 := (hg6.block (w.heap.size + 1 + 1) (by omega) (NB5 _ (.inr rfl))).trans K3y
        have OE6 := ownsRow_heap OY.1 (fun g hg => hg6.block g (OY.1.lt g hg).2 (fun e => OY.2.2 g hg e.symm))
        have B6 := By.trans ((Below.refl w.heap.size _).grown hg6 (by omega) (fun k hk => by have := (OY.2.1.lt k hk).1; omega))
        obtain ⟨a6, n6, c6, rfl⟩ : ∃ a n c, v6 = .slice a n c := by
          rcases hO6.2 with ⟨e, _⟩ | ⟨g, cap, cur, e, _⟩
          · exact ⟨_, _, _, e⟩
          · exact ⟨_, _, _, e⟩
        have zg6 := hg6.size
        have KX7 := heap_set KX6 4 (.slice a6 n6 c6)
        have K37 := (Below.heap_setCell w6 ⟨bo, 4, none⟩ (.slice a6 n6 c6) (w.heap.size + 1 + 1) (by show w.heap.size + 1 + 1 ≠ bo; omega)).trans K36
        have AP6 := own_apart OE6 hO6
        have hbE : ∀ g, (Value.slice a4 n4 c4).ownBlock = some g → g ≠ bo := fun g hg e => by have := unhide BLK g (.inl hg); omega
        have hbD : ∀ g, (Value.slice a6 n6 c6).ownBlock = some g → g ≠ bo := fun g hg e => by
          rcases hO6.2 with ⟨e', _⟩ | ⟨g', cap, cur, e', _, hh, _⟩
          · rw [e'] at hg; cases hg
          · rw [e'] at hg
            simp only [Value.ownBlock, Option.some.injEq] at hg
            subst hg e
            rw [KX6] at hh
            injection hh with hh
            injection hh with _ hh
            exact absurd hh (by decide)
        have OE7 := ownsRow_heap (w' := w6.setCell ⟨bo, 4, none⟩ (.slice a6 n6 c6)) OE6 (fun g hg => Below.heap_setCell _ _ _ _ (hbE g hg))
        have OD7 := ownsRow_heap (w' := w6.setCell ⟨bo, 4, none⟩ (.slice a6 n6 c6)) hO6 (fun g hg => Below.heap_setCell _ _ _ _ (hbD g hg))
        have B7 := B6.setCell (p := ⟨bo, 4, none⟩) (by show w.heap.size ≤ bo; omega) (.slice a6 n6 c6)
        have z7 : (w6.setCell ⟨bo, 4, none⟩ (.slice a6 n6 c6)).heap.size = w6.heap.size := by simp [World.setCell]
        have x4 : wx.cell? ⟨bo, 4, none⟩ = some (.slice a5 n5 c5) := heap_cell (unhide KX) 4
        obtain ⟨q0, q1, q2, q3⟩ := d_cells (unhide K2)
        have x64 : w6.cell? ⟨bo, 4, none⟩ = some (.slice a5 n5 c5) := heap_cell KX6 4
        have fx6 := heap_frozen KX6 4
        obtain ⟨w7, hw7⟩ : ∃ w7, w7 = w6.setCell ⟨bo, 4, none⟩ (.slice a6 n6 c6) := ⟨_, rfl⟩
        rw [← hw7] at KX7 K37 OE7 OD7 B7 z7
        have R7 := hide (show ERow w7 a4 n4 es from erow_of_owns OE7)
        have D7 := hide (show DRow w7 a6 n6 (ds ++ [d]) from drow_of_owns OD7)
        have hn4 : n4 ≤ 100 := by have := (unhide R7).1; have := unhide LE; omega
        have hn6 : n6 ≤ 100 := by have := (unhide D7).1; have := unhide LD; simp at *; omega
        have hc4 : a4 = none → c4 = 0 := fun h => by
          subst h
          rcases OE7.2 with ⟨e, _⟩ | ⟨g, cap, cur, e, _⟩
          · injection e
          · cases e
        have FE := hide OE7
        have FD := hide OD7
        have KX' := hide KX7
        have K3' := hide K37
        have HR6 := hide hr6
        have HW7 := hide hw7
        have hbo7 : bo < w7.heap.size := by omega
        have hbb : w.heap.size + 1 + 1 < bo := by omega
        have hzz7 : w.heap.size + 1 + 1 + 1 ≤ w7.heap.size := by omega
        clear KX KX6 KX7 K36 K37 OE6 OE7 OD7 hO6 hg6 AP6 hbE hbD OY KXy K3y By B6 by' KD zy z7 zg6 NB5 hr6 hw7 BLK OW K2 K3 zx
        clear hbo
        go_upto_region 9 with fail
        rw [← unhide HWX, ← unhide HBO]
        go_upto_region 10 with (at_builtin; refine wpAppE rfl _ _ 24 rfl _ _ _ w6 rfl rfl (unhide HR6) ?_)
        rw [← unhide HW7]
        clear x4 q0 q1 q2 q3 x64 fx6
        have u0 : w7.cell? ⟨bo, 0, none⟩ = some (.string lo) := heap_cell (unhide KX') 0
        have u1 : w7.cell? ⟨bo, 1, none⟩ = some (.string hi) := heap_cell (unhide KX') 1
        have u2 : w7.cell? ⟨bo, 2, none⟩ = some (.int .i64 r) := heap_cell (unhide KX') 2
        have u3 : w7.cell? ⟨bo, 3, none⟩ = some (.slice a4 n4 c4) := heap_cell (unhide KX') 3
        have u4 : w7.cell? ⟨bo, 4, none⟩ = some (.slice a6 n6 c6) := heap_cell (unhide KX') 4
        go_wp2_with fail
        refine (l04Entries_any lo hi r a4 n4 c4 es a6 n6 c6 (ds ++ [d]) w7 (unhide R7) (unhide D7) hn4 hn6 hc4).mono ?_
        rintro e w8 ⟨g8, c8, rfl, _, hb⟩
        have K3 := hide ((hb.block (w.heap.size + 1 + 1) (by omega)).trans (unhide K3'))
        have KX8 := hide ((hb.block bo (by omega)).trans (unhide KX'))
        have B8 := B7.trans (hb.mono B7.size)
        have FE8 := hide (ownsRow_below (unhide FE) hb)
        have FD8 := hide (ownsRow_below (unhide FD) hb)
        clear hb u0 u1 u2 u3 u4 K3' KX' FE FD R7 D7
        obtain ⟨m, hm⟩ : ∃ m, m = (entsE es (ds ++ [d])).length := ⟨_, rfl⟩
        rw [← hm]
        have HM := hide hm
        clear hm
        by_cases h32 : 32 < m
        · have h32i : (32 : Int) < (m : Int) := by omega
          have H32 := hide (show 32 < (entsE es (ds ++ [d])).length by rw [← unhide HM]; exact h32)
          clear h32
          obtain ⟨t0, t1, t2, t3, t4⟩ := pg_cells5 (unhide K3)
          obtain ⟨f0, f1, f2, f3, f4⟩ := fz_cells (unhide K3)
          have EX := hide (ext6 (unhide HOK) (unhide HDL) (unhide H12) (unhide H32))
          go_wp2_with fail
          refine bodyPost_ret (v := .tuple #[pgv ByteArray.empty ByteArray.empty 0 none 0 0 none 0 0, .int .i64 6]) (by simp [results, Try.results17, go_sem, *] <;> rfl) rfl ?_
          exact ext_bad (unhide EX) (by decide) (by first | exact set5_below B8 (by omega) _ _ _ _ _ | exact B8)
        · have h32i : ¬ (32 : Int) < (m : Int) := by omega
          have EX := hide (ext0 (unhide HOK) (unhide HDL) (unhide H12) (show ¬ 32 < (entsE es (ds ++ [d])).length by rw [← unhide HM]; exact h32))
          clear h32
          obtain ⟨t0, t1, t2, t3, t4⟩ := pg_cells5 (unhide K3)
          obtain ⟨f0, f1, f2, f3, f4⟩ := fz_cells (unhide K3)
          have u0 : w8.cell? ⟨bo, 0, none⟩ = some (.string lo) := heap_cell (unhide KX8) 0
          have u1 : w8.cell? ⟨bo, 1, none⟩ = some (.string hi) := heap_cell (unhide KX8) 1
          have u2 : w8.cell? ⟨bo, 2, none⟩ = some (.int .i64 r) := heap_cell (unhide KX8) 2
          have u3 : w8.cell? ⟨bo, 3, none⟩ = some (.slice a4 n4 c4) := heap_cell (unhide KX8) 3
          have u4 : w8.cell? ⟨bo, 4, none⟩ = some (.slice a6 n6 c6) := heap_cell (unhide KX8) 4
          have hlt3 : w.heap.size + 1 + 1 < w3.heap.size := by omega
          have FE9 := hide (set5_owns (unhide FE8) hlt3 (.string lo) (.string hi) (.int .i64 r) (.slice a4 n4 c4) (.slice a6 n6 c6))
          have FD9 := hide (set5_owns (unhide FD8) hlt3 (.string lo) (.string hi) (.int .i64 r) (.slice a4 n4 c4) (.slice a6 n6 c6))
          have hle3 : w.heap.size ≤ w3.heap.size := by omega
          have hle4 : w.heap.size ≤ w.heap.size + 1 + 1 := by omega
          go_wp2_with fail
          refine bodyPost_ret (v := .tuple #[pgv lo hi r a4 n4 c4 a6 n6 c6, .int .i64 0]) (by simp [results, Try.results17, go_sem, *]) rfl ?_
          exact ext_good (unhide EX) (ownsRow_base (unhide FE9) hle3) (ownsRow_base (unhide FD9) hle3) (set5_below B8 hle4 _ _ _ _ _)
    · have hdl : okDel lo (highE hi ds) d = false := by simpa using hdl
      have HDL := hide hdl
      rw [hdl]
      clear hdl
      obtain ⟨t0, t1, t2, t3, t4⟩ := pg_cells5 (unhide K3)
      obtain ⟨f0, f1, f2, f3, f4⟩ := fz_cells (unhide K3)
      have EX := hide (ext4 (unhide HOK) (unhide HDL))
      go_wp2_with fail
      refine bodyPost_ret (v := .tuple #[pgv ByteArray.empty ByteArray.empty 0 none 0 0 none 0 0, .int .i64 4]) (by simp [results, Try.results17, go_sem, *] <;> rfl) rfl ?_
      exact ext_bad (unhide EX) (by decide) (by first | exact set5_below B1 (by omega) _ _ _ _ _ | exact B1)
  · have hok : okPage lo hi r es ds = false := by simpa using hok
    have HOK := hide hok
    rw [hok]
    clear hok
    obtain ⟨t0, t1, t2, t3, t4⟩ := pg_cells5 (unhide K3)
    obtain ⟨f0, f1, f2, f3, f4⟩ := fz_cells (unhide K3)
    have EX := hide (ext1 (d := d) (unhide HOK))
    go_wp2_with fail
    refine bodyPost_ret (v := .tuple #[pgv ByteArray.empty ByteArray.empty 0 none 0 0 none 0 0, .int .i64 1]) (by simp [results, Try.results17, go_sem, *] <;> rfl) rfl ?_
    exact ext_bad (unhide EX) (by decide) (by first | exact set5_below B1 (by omega) _ _ _ _ _ | exact B1)
end Go.Proofs.Ytbboigidkimkmaa

namespace Go.Proofs.Ytbboigidkimkmaa
open Go.RowKit

/-- What Find answers of a right page and a key: value, number, code. -/
def findI (lo hi : ByteArray) (r : Int) (es : List EntD) (k : ByteArray) : ByteArray × Int × Int :=
  if ltK k lo = true then (ByteArray.empty, 0, 4)
  else if underK k hi = false then (ByteArray.empty, r, 12)
  else match lookE es k with
    | some v => (v, 0, 0)
    | none => (ByteArray.empty, 0, 5)
/-- What Find answers. -/
def findT (lo hi : ByteArray) (r : Int) (es : List EntD) (ds : List DelD) (k : ByteArray) : ByteArray × Int × Int :=
  if 65536 < k.size then (ByteArray.empty, 0, 2)
  else if okPage lo hi r es ds = true ∧ keyK k = true then findI lo (highE hi ds) (rightE r ds) (entsE es ds) k
  else (ByteArray.empty, 0, 1)
theorem findT_in {lo hi : ByteArray} {r : Int} {es : List EntD} {ds : List DelD} {k : ByteArray} (h : okPage lo hi r es ds = true) (hk : keyK k = true) (hs : ¬ 65536 < k.size) : findT lo hi r es ds k = findI lo (highE hi ds) (rightE r ds) (entsE es ds) k := by
  have c : okPage lo hi r es ds = true ∧ keyK k = true := ⟨h, hk⟩
  unfold findT
  rw [if_neg hs, if_pos c]
abbrev tup3 (t : ByteArray × Int × Int) : Value := .tuple #[.string t.1, .int .i64 t.2.1, .int .i64 t.2.2]
theorem findA_eq (lo hi : ByteArray) (r : Int) (es : List EntD) (ds : List DelD) (k : ByteArray) : findA lo hi r es ds k = tup3 (findT lo hi r es ds k) := by
  unfold findA findT findV findI
  split
  · rfl
  · split
    · split
      · rfl
      · split
        · rfl
        · cases lookE (entsE es ds) k <;> rfl
    · rfl
theorem ext_facts {lo hi : ByteArray} {r : Int} {es : List EntD} {ds : List DelD} {d : DelD} (h : extC lo hi r es ds d = 0) : okPage lo hi r es ds = true ∧ okDel lo (highE hi ds) d = true ∧ okPage lo hi r es (ds ++ [d]) = true := by
  unfold extC at h
  split at h
  · cases h
  · rename_i h1
    split at h
    · cases h
    · rename_i h2
      split at h
      · cases h
      · rename_i h3
        split at h
        · cases h
        · rename_i h4
          have k1 : okPage lo hi r es ds = true := by simpa using h1
          have k2 : okDel lo (highE hi ds) d = true := by simpa using h2
          obtain ⟨p1, p2, p3, p4, p5, p6⟩ := ok_parts k1
          refine ⟨k1, k2, ?_⟩
          unfold okPage
          simp only [Bool.and_eq_true, decide_eq_true_eq]
          refine ⟨⟨⟨⟨⟨p1, p2⟩, by simp; omega⟩, p4⟩, ?_⟩, by omega⟩
          refine okChain_true fun i hi' => ?_
          rw [okAtD_at hi']
          rw [List.length_append] at hi'
          by_cases hl : i < ds.length
          · rw [List.getElem_append_left hl, List.take_append_of_le_length (by omega)]
            unfold okChain at p5
            rw [List.all_eq_true] at p5
            have := p5 i (by simpa using hl)
            rw [okAtD_at hl] at this
            exact this
          · obtain rfl : i = ds.length := by simp at hi'; omega
            rw [List.take_append_of_le_length (Nat.le_refl _), List.take_length]
            simpa using k2
theorem okDel_parts {lo hi : ByteArray} {d : DelD} (h : okDel lo hi d = true) : keyK d.k = true ∧ ltK d.k lo = false ∧ underK d.k hi = true ∧ (d.kind = 1 ∨ d.kind = 2 ∨ d.kind = 3) := by
  unfold okDel at h
  simp only [Bool.and_eq_true, Bool.or_eq_true, decide_eq_true_eq] at h
  obtain ⟨⟨h1, h2⟩, h3⟩ := h
  unfold inK at h2
  simp only [Bool.and_eq_true, Bool.not_eq_true'] at h2
  refine ⟨h1, h2.1, by unfold underK; exact h2.2, ?_⟩
  rcases h3 with (h | h) | h
  · exact .inl h.1.1
  · exact .inr (.inl h.1.1)
  · exact .inr (.inr h.1.1.1)
theorem key_small {k : ByteArray} (h : keyK k = true) : ¬ 65536 < k.size := by unfold keyK at h; simp at h; omega
theorem find_own {lo hi : ByteArray} {r : Int} {es : List EntD} {ds : List DelD} {d : DelD} (h : extC lo hi r es ds d = 0) :
    (d.kind = 1 → findT lo hi r es (ds ++ [d]) d.k = (d.v, 0, 0)) ∧ (d.kind = 2 → findT lo hi r es (ds ++ [d]) d.k = (ByteArray.empty, 0, 5)) ∧ (d.kind = 3 → findT lo hi r es (ds ++ [d]) d.k = (ByteArray.empty, d.to, 12)) := by
  obtain ⟨h1, h2, h3⟩ := ext_facts h
  obtain ⟨g1, g2, g3, _⟩ := okDel_parts h2
  have hR := ok_rise h1
  rw [findT_in h3 g1 (key_small g1)]
  unfold findI
  rw [if_neg (show ¬ ltK d.k lo = true by rw [g2]; decide)]
  rw [highE_snoc, rightE_snoc, entsE_snoc]
  have hu : ¬ underK d.k (highE hi ds) = false := by rw [g3]; decide
  refine ⟨fun hk => ?_, fun hk => ?_, fun hk => ?_⟩
  · have hn3 : ¬ d.kind = 3 := by omega
    simp only [if_neg hn3, if_neg hu]
    rw [(look_step hR d).1 hk]
  · have hn3 : ¬ d.kind = 3 := by omega
    simp only [if_neg hn3, if_neg hu]
    rw [(look_step hR d).2 hk]
  · simp only [if_pos hk]
    rw [if_pos ?_]
    unfold underK
    rw [ltK_irr]
    have hne : d.k.toList.isEmpty = false := by
      unfold keyK at g1
      simp only [decide_eq_true_eq] at g1
      cases hl : d.k.toList with
      | nil =>
        have e0 : d.k = ByteArray.empty := toList_inj (by rw [hl]; first | (simp; done) | decide +kernel)
        rw [e0] at g1
        exact absurd g1.1 (by decide)
      | cons x xs => rfl
    rw [hne]
    rfl
theorem find_other {lo hi : ByteArray} {r : Int} {es : List EntD} {ds : List DelD} {d : DelD} (h : extC lo hi r es ds d = 0) {o : ByteArray} (ho : o ≠ d.k) (h3' : d.kind = 3 → ltK o d.k = true) :
    (findT lo hi r es ds o).1 = (findT lo hi r es (ds ++ [d]) o).1 ∧ (findT lo hi r es ds o).2.2 = (findT lo hi r es (ds ++ [d]) o).2.2 := by
  obtain ⟨h1, h2, h3⟩ := ext_facts h
  obtain ⟨g1, g2, g3, g4⟩ := okDel_parts h2
  have hR := ok_rise h1
  by_cases a1 : 65536 < o.size
  · unfold findT
    rw [if_pos a1, if_pos a1]
    exact ⟨rfl, rfl⟩
  by_cases a2 : keyK o = true
  · rw [findT_in h1 a2 a1, findT_in h3 a2 a1, highE_snoc, entsE_snoc]
    unfold findI
    by_cases a3 : ltK o lo = true
    · rw [if_pos a3, if_pos a3]
      exact ⟨rfl, rfl⟩
    · rw [if_neg a3, if_neg a3, look_other hR d g4 ho h3']
      by_cases hk : d.kind = 3
      · rw [if_pos hk]
        have u2 : underK o d.k = true := by unfold underK; rw [h3' hk]; simp
        have u1 : underK o (highE hi ds) = true := by
          unfold underK at g3 ⊢
          cases he : (highE hi ds).toList.isEmpty with
          | true => rfl
          | false =>
            rw [he] at g3
            simp only [Bool.false_or] at g3 ⊢
            exact ltK_trans (h3' hk) g3
        rw [if_neg (show ¬ underK o (highE hi ds) = false by rw [u1]; decide), if_neg (show ¬ underK o d.k = false by rw [u2]; decide)]
        exact ⟨rfl, rfl⟩
      · rw [if_neg hk]
        by_cases a4 : underK o (highE hi ds) = false
        · rw [if_pos a4, if_pos a4]
          exact ⟨rfl, rfl⟩
        · rw [if_neg a4, if_neg a4]
          exact ⟨rfl, rfl⟩
  · have c1 : ¬ (okPage lo hi r es ds = true ∧ keyK o = true) := fun h => a2 h.2
    have c2 : ¬ (okPage lo hi r es (ds ++ [d]) = true ∧ keyK o = true) := fun h => a2 h.2
    unfold findT
    rw [if_neg a1, if_neg c1, if_neg a1, if_neg c2]
    exact ⟨rfl, rfl⟩
end Go.Proofs.Ytbboigidkimkmaa

namespace Go.Proofs.Ytbboigidkimkmaa
open Go.RowKit

/-- And it finds the same. -/
theorem con_find {lo hi : ByteArray} {r : Int} {es : List EntD} {ds : List DelD} (h : okPage lo hi r es ds = true) (k : ByteArray) : findT lo (highE hi ds) (rightE r ds) (entsE es ds) [] k = findT lo hi r es ds k := by
  unfold findT
  rw [conPage_ok h, h]
  rfl
end Go.Proofs.Ytbboigidkimkmaa

namespace Go.Proofs.Ytbboigidkimkmaa
open Go.RowKit

theorem By.app {xs ys : List Int} (h1 : By xs) (h2 : By ys) : By (xs ++ ys) := fun x hx => by
  rcases List.mem_append.1 hx with hx | hx
  · exact h1 x hx
  · exact h2 x hx
theorem By.one {x : Int} (h1 : 0 ≤ x) (h2 : x ≤ 255) : By [x] := fun y hy => by
  obtain rfl : y = x := by simpa using hy
  exact ⟨h1, h2⟩
theorem by_bytesL (t : ByteArray) : By (bytesL t) := fun x hx => by
  unfold bytesL at hx
  obtain ⟨b, _, rfl⟩ := List.mem_map.1 hx
  have := b.toNat_lt
  omega
theorem by_line {t : ByteArray} (h : t.size ≤ 255) : By (lineL t) := (By.one (x := (t.size : Int)) (by omega) (by omega)).app (by_bytesL t)
theorem by_two {n : Int} (h1 : 0 ≤ n) (h2 : n ≤ 65535) : By (twoL n) := (By.one (x := n / 256) (by omega) (by omega)).app (By.one (x := n % 256) (by omega) (by omega))
theorem by_page {lo hi : ByteArray} {r : Int} {es : List EntD} {ds : List DelD} (h : SmallP lo hi r es ds) : By (pageL lo hi r es ds) := by
  obtain ⟨h1, h2, h3, h4, h5, h6, h7, h8⟩ := h
  refine (((((((by_line (by omega)).app (by_line (by omega))).app (by_two h3 (by omega))).app (By.one (by omega) (by omega)))).app ?_).app (By.one (by omega) (by omega))).app ?_
  · intro x hx
    obtain ⟨e, he, hx⟩ := List.mem_flatMap.1 hx
    obtain ⟨i, hi', rfl⟩ := List.mem_iff_getElem.1 he
    have := h7 i hi'
    exact ((by_line (by omega)).app (by_line (by omega))) x hx
  · intro x hx
    obtain ⟨e, he, hx⟩ := List.mem_flatMap.1 hx
    obtain ⟨i, hi', rfl⟩ := List.mem_iff_getElem.1 he
    have := h8 i hi'
    exact ((By.one (by omega) (by omega)).app (((by_line (by omega)).app (by_line (by omega))).app (by_two (by omega) (by omega)))) x hx
theorem row_own {w : World} {B : Nat} {v : Value} {xs : List Int} (h : Owns w B v xs) : ∃ a n c, v = .slice a n c ∧ Row w a n xs ∧ n ≤ c ∧ ∀ x, a = some x → x.block < w.heap.size := by
  rcases h.2 with ⟨e, hn⟩ | ⟨g, cap, cur, e, hb, hh, hc, h1⟩
  · obtain rfl := List.eq_nil_of_length_eq_zero hn
    exact ⟨none, 0, 0, e, ⟨rfl, fun i hi => absurd hi (Nat.not_lt_zero _)⟩, Nat.le_refl _, fun x hx => by cases hx⟩
  · subst e
    refine ⟨some ⟨g, 0, none⟩, xs.length, cap, rfl, ?_, hc, fun x hx => ?_⟩
    · obtain ⟨a, c, e, _, _, h3, _⟩ := mine_of_owns h
      injection e with e1
      subst e1
      exact h3
    · injection hx with hx
      subst hx
      exact heap_ltD hh
end Go.Proofs.Ytbboigidkimkmaa

namespace Go.Proofs.Ytbboigidkimkmaa
open Go.RowKit

end Go.Proofs.Ytbboigidkimkmaa

namespace Go.Proofs.Ytbboigidkimkmaa
open Go.RowKit

theorem src_below {w w1 w2 : World} (h1 : Below w.heap.size w w1) (hw : Wrote w.heap.size w1 w2) : Below w.heap.size w w2 := h1.trans (hw.below (Nat.le_refl _) h1.size)
set_option maxHeartbeats 1000000 in
theorem keyOfD_any (a : Option Addr) (n c : Nat) (xs : List Int) (w : World) (hr : Row w a n xs) (hby : ∀ i, i < n → 0 ≤ xs.getD i 0 ∧ xs.getD i 0 ≤ 255) (hn : n ≤ 1048576) :
    Calls Try.prog 6 #[.slice a n c] w fun e w' => ∃ t : ByteArray, e = .returned (.string t) ∧ keyK t = true ∧ Below w.heap.size w w' := by
  have R := hide hr
  have BY := hide hby
  clear hr hby
  go_enter Try.func6, Try.ntmps6
  go_wp2_with fail
  refine (source_any a n c xs w (unhide R) (unhide BY) hn).mono ?_
  rintro e w1 ⟨rfl, hs1, hb1, hz1⟩
  go_wp2_with fail
  refine (longKeyD_any w.heap.size a n c xs 0 w1 hs1 (by omega)).mono ?_
  rintro e w2 ⟨t, rfl, hk, hw, _⟩
  have bA := hide (src_below hb1 hw)
  clear hb1 hw hs1 hz1
  go_wp2_with fail
  go_ret
  exact ⟨t, rfl, hk, unhide bA⟩
end Go.Proofs.Ytbboigidkimkmaa

namespace Go.Proofs.Ytbboigidkimkmaa
open Go.RowKit

theorem DgSt.done {w wr : World} {p : Nat} {a : Option Addr} {n c : Nat} {xs : List Int} {K : Int} {lo hi : ByteArray} {r : Int} {a1 : Option Addr} {n1 c1 : Nat} {a2 : Option Addr} {n2 c2 : Nat} {es : List EntD} {ds : List DelD} (h : DgSt w wr p a n c xs K lo hi r (.slice a1 n1 c1) (.slice a2 n2 c2) es ds) (v0 v1 v2 v3 v4 : Value) :
    PgOwn (((((wr.setCell ⟨w.heap.size, 0, none⟩ v0).setCell ⟨w.heap.size, 1, none⟩ v1).setCell ⟨w.heap.size, 2, none⟩ v2).setCell ⟨w.heap.size, 3, none⟩ v3).setCell ⟨w.heap.size, 4, none⟩ v4) w.heap.size a1 n1 c1 a2 n2 c2 es ds ∧ Wrote p w (((((wr.setCell ⟨w.heap.size, 0, none⟩ v0).setCell ⟨w.heap.size, 1, none⟩ v1).setCell ⟨w.heap.size, 2, none⟩ v2).setCell ⟨w.heap.size, 3, none⟩ v3).setCell ⟨w.heap.size, 4, none⟩ v4) := by
  have st : ∀ (X : World) (j : Nat) (v : Value), PgOwn X (w.heap.size + 2) a1 n1 c1 a2 n2 c2 es ds → PgOwn (X.setCell ⟨w.heap.size, j, none⟩ v) (w.heap.size + 2) a1 n1 c1 a2 n2 c2 es ds := fun X j v h => h.wr (wr_one X _ j v) (fun i hi e => by have := (h.blk hi).1; omega)
  exact ⟨(st _ 4 v4 (st _ 3 v3 (st _ 2 v2 (st _ 1 v1 (st _ 0 v0 ⟨h.oe, h.od, own_apart2 h.oe h.od⟩))))).base (by omega), ((((h.wt.loc (Nat.le_refl _) 0 v0).loc (Nat.le_refl _) 1 v1).loc (Nat.le_refl _) 2 v2).loc (Nat.le_refl _) 3 v3).loc (Nat.le_refl _) 4 v4⟩
theorem slice_eown {w : World} {B : Nat} {v : Value} {es : List EntD} (h : EOwns w B v es) : ∃ a n c, v = .slice a n c := by
  rcases h.2 with ⟨e, _⟩ | ⟨g, cap, cur, e, _⟩
  · exact ⟨_, _, _, e⟩
  · exact ⟨_, _, _, e⟩
theorem slice_down {w : World} {B : Nat} {v : Value} {ds : List DelD} (h : DOwns w B v ds) : ∃ a n c, v = .slice a n c := by
  rcases h.2 with ⟨e, _⟩ | ⟨g, cap, cur, e, _⟩
  · exact ⟨_, _, _, e⟩
  · exact ⟨_, _, _, e⟩
set_option maxRecDepth 100000 in
set_option maxHeartbeats 16000000 in
theorem pageD_any (p : Nat) (a : Option Addr) (n c : Nat) (xs : List Int) (w : World) (h : Src w p a n c xs 0) :
    Calls Try.prog 19 #[.pointer (some ⟨p, 0, none⟩)] w fun e w' => ∃ lo hi r a1 n1 c1 a2 n2 c2 es ds, e = .returned (pgv lo hi r a1 n1 c1 a2 n2 c2) ∧ PgOwn w' w.heap.size a1 n1 c1 a2 n2 c2 es ds ∧ (okPage lo hi r es ds = true ∧ es.length ≤ 6 ∧ ds.length ≤ 6) ∧ Wrote p w w' := by
  have hp := cell_lt h.code
  have ha := src_code' h
  have b0 : Below w.heap.size w ((w.alloc (.cells #[.string ⟨#[]⟩, .string ⟨#[]⟩, .int .i64 0, .slice none 0 0, .slice none 0 0] 26)).alloc (.cells #[.string ⟨#[]⟩, .string ⟨#[]⟩, .int .i64 (-1), .slice none 0 0, .slice none 0 0] 26)) := ((Below.refl _ _).alloc (Nat.le_refl _) _).alloc (by simp) _
  have ST := hide (show DgSt w ((w.alloc (.cells #[.string ⟨#[]⟩, .string ⟨#[]⟩, .int .i64 0, .slice none 0 0, .slice none 0 0] 26)).alloc (.cells #[.string ⟨#[]⟩, .string ⟨#[]⟩, .int .i64 (-1), .slice none 0 0, .slice none 0 0] 26)) p a n c xs 0 ⟨#[]⟩ ⟨#[]⟩ (-1) (.slice none 0 0) (.slice none 0 0) [] [] by
    have b2 : Below (w.heap.size + 1) (w.alloc (.cells #[.string ⟨#[]⟩, .string ⟨#[]⟩, .int .i64 0, .slice none 0 0, .slice none 0 0] 26)) ((w.alloc (.cells #[.string ⟨#[]⟩, .string ⟨#[]⟩, .int .i64 0, .slice none 0 0, .slice none 0 0] 26)).alloc (.cells #[.string ⟨#[]⟩, .string ⟨#[]⟩, .int .i64 (-1), .slice none 0 0, .slice none 0 0] 26)) := (Below.refl _ _).alloc (by simp) _
    refine ⟨(b2.block w.heap.size (by omega)).trans (heap_alloc_new w _), ?_, World.ownsRow_nil _ _ _ _, World.ownsRow_nil _ _ _ _, h.below b0, wrote_below b0, hp, ha⟩
    have := heap_alloc_new (w.alloc (.cells #[.string ⟨#[]⟩, .string ⟨#[]⟩, .int .i64 0, .slice none 0 0, .slice none 0 0] 26)) (.cells #[.string ⟨#[]⟩, .string ⟨#[]⟩, .int .i64 (-1), .slice none 0 0, .slice none 0 0] 26)
    simpa using this)
  clear h b0 ha
  go_enter Try.func19, Try.ntmps19
  go_wp2_with fail
  generalize (w.alloc (.cells #[.string ⟨#[]⟩, .string ⟨#[]⟩, .int .i64 0, .slice none 0 0, .slice none 0 0] 26)).alloc (.cells #[.string ⟨#[]⟩, .string ⟨#[]⟩, .int .i64 (-1), .slice none 0 0, .slice none 0 0] 26) = W0 at *
  refine (chanceD_any p a n c xs 0 3 _ (unhide ST).src (by omega) (by omega) (by omega)).mono ?_
  rintro e w1 ⟨x, rfl, hw, hs⟩
  replace ST := hide ((unhide ST).draw hs hw)
  clear hw hs
  cases x with
  | true =>
    go_wp2_with fail
    refine (pick_any p (w1).heap.size 3 3 a n c xs 3 _ ((unhide ST).src.alloc _) (by omega) (by omega) (by omega) (by have := (unhide ST).lt; have := (unhide ST).wt.size; omega) (fun t => LowOK t) (fun i hi => ?_)).mono ?_
    · match i, hi with
      | 0, _ => exact ⟨_, by simp <;> rfl, low_a⟩
      | 1, _ => exact ⟨_, by simp <;> rfl, low_b⟩
      | 2, _ => exact ⟨_, by simp <;> rfl, low_c⟩
    rintro e w2 ⟨t, rfl, ht, ho, hs⟩
    replace ST := hide ((unhide ST).draw (hs) ((Wrote.alloc w1 p _).trans ho.wrote))
    obtain ⟨⟨p0, p1, p2, p3, p4⟩, fz⟩ := five_of (unhide ST).k2
    have f0 := fz 0
    clear ho hs fz
    go_wp2_with fail
    clear p0 p1 p2 p3 p4 f0
    replace ST := hide ((unhide ST).set (lo' := t) (hi' := ⟨#[]⟩) (r' := -1) 0 (.string t) rfl)
    have LO := hide ht
    clear ht
    generalize w2.setCell ⟨w.heap.size + 1, 0, none⟩ (.string t) = w3 at *
    refine (chanceD_any p a n c xs (3 + 3) 3 _ (unhide ST).src (by omega) (by omega) (by omega)).mono ?_
    rintro e w4 ⟨x, rfl, hw, hs⟩
    replace ST := hide ((unhide ST).draw hs hw)
    clear hw hs
    cases x with
    | true =>
      go_wp2_with fail
      refine (pick_any p (w4).heap.size 3 3 a n c xs (3 + 3 + 3) _ ((unhide ST).src.alloc _) (by omega) (by omega) (by omega) (by have := (unhide ST).lt; have := (unhide ST).wt.size; omega) (fun t => HighOK t) (fun i hi => ?_)).mono ?_
      · match i, hi with
        | 0, _ => exact ⟨_, by simp <;> rfl, .inl rfl⟩
        | 1, _ => exact ⟨_, by simp <;> rfl, .inr (.inl rfl)⟩
        | 2, _ => exact ⟨_, by simp <;> rfl, .inr (.inr rfl)⟩
      rintro e w5 ⟨u, rfl, hu, ho, hs⟩
      replace ST := hide ((unhide ST).draw (hs) ((Wrote.alloc w4 p _).trans ho.wrote))
      obtain ⟨⟨p0, p1, p2, p3, p4⟩, fz⟩ := five_of (unhide ST).k2
      have f1 := fz 1
      clear ho hs fz
      go_wp2_with fail
      clear p0 p1 p2 p3 p4 f1
      replace ST := hide ((unhide ST).set (lo' := t) (hi' := u) (r' := -1) 1 (.string u) rfl)
      have HU := hide hu
      clear hu
      generalize w5.setCell ⟨w.heap.size + 1, 1, none⟩ (.string u) = w6 at *
      refine (next_any p a n c xs (3 + 3 + 3 + 3) 5 _ (unhide ST).src (by omega) (by omega) (by omega)).mono ?_
      rintro e w7 ⟨r, rfl, hr0, hr1, ho, hs⟩
      replace ST := hide ((unhide ST).draw hs ho.wrote)
      obtain ⟨⟨p0, p1, p2, p3, p4⟩, fz⟩ := five_of (unhide ST).k2
      have f2 := fz 2
      clear ho hs fz
      go_wp2_with fail
      clear p0 p1 p2 p3 p4 f2
      replace ST := hide ((unhide ST).set (lo' := t) (hi' := u) (r' := r) 2 (.int .i64 r) rfl)
      have BO := hide (bounds_some (unhide LO) (unhide HU) hr0 hr1)
      clear hr0 hr1
      generalize w7.setCell ⟨w.heap.size + 1, 2, none⟩ (.int .i64 r) = w8 at *
      refine (next_any p a n c xs (3 + 3 + 3 + 3 + 3) 7 _ (unhide ST).src (by omega) (by omega) (by omega)).mono ?_
      rintro e w9 ⟨q, rfl, hq0, hq1, ho, hs⟩
      obtain ⟨q, rfl⟩ := Int.eq_ofNat_of_zero_le hq0
      replace ST := hide ((unhide ST).draw hs ho.wrote)
      clear ho hs
      go_wp2_with fail
      go_loopw [4] (fun i wr => ∃ (j : Nat) (K : Int) (es : List EntD) (vb : Value), i = .int .i64 j ∧ es.length + j ≤ 6 ∧ K + 20 * j ≤ 200 ∧ Hid (BaseOK t u es) ∧ Hid (DgSt w wr p a n c xs K t u r vb (.slice none 0 0) es [])) (fun i _ => (intOf i).toNat)
      case atStart => exact ⟨q, 3 + 3 + 3 + 3 + 3 + 3, [], _, rfl, by simp; omega, by omega, ⟨List.Pairwise.nil, fun e he => by cases he⟩, ST⟩
      case round =>
        clear ST
        obtain ⟨j, K, es, vb, rfl, hl, hK, BA, ST⟩ := hrel
        by_cases hj : 0 < j
        · obtain ⟨j, rfl⟩ : ∃ i, j = i + 1 := ⟨j - 1, by omega⟩
          have hji : (0 : Int) < (j : Int) + 1 := by omega
          have ej : (j : Int) + 1 - 1 = (j : Int) := by omega
          have wj : IntKind.i64.wrap (j : Int) = (j : Int) := by rw [IntKind.wrap_i64]; omega
          go_wp2_with fail
          refine (keyD_any p a n c xs K _ (unhide ST).src (by omega)).mono ?_
          rintro e wa ⟨k, rfl, hk, hw, hs⟩
          replace ST := hide ((unhide ST).draw hs hw)
          clear hw hs
          obtain ⟨⟨p0, p1, p2, p3, p4⟩, _⟩ := five_of (unhide ST).k2
          by_cases hin : inK t u k = true
          · have hge : Op.bytesLess k.toList t.toList = false := by unfold inK ltK at hin; simp only [Bool.and_eq_true, Bool.not_eq_true'] at hin; exact hin.1
            have hun : underK k u = true := by unfold inK at hin; simp only [Bool.and_eq_true] at hin; exact hin.2
            have KK := hide hk.1
            have IN := hide hin
            clear hk hin
            go_wp2_with fail
            refine (l04Under_any k u _).mono ?_
            rintro e wb ⟨rfl, hwb⟩
            subst wb
            rw [hun]
            have hform : (vb = .slice none 0 0 ∧ es = []) ∨ ∃ g cap, vb = .slice (some ⟨g, 0, none⟩) es.length cap ∧ es.length ≤ cap := by
              rcases (unhide ST).oe.2 with ⟨e, hn⟩ | ⟨g, cap, cur, e, _, _, hc, _⟩
              · exact .inl ⟨e, List.eq_nil_of_length_eq_zero hn⟩
              · exact .inr ⟨g, cap, e, hc⟩
            have CV := hide (show Calls Try.prog 50 #[.pointer (some ⟨p, 0, none⟩)] wa.drew fun e w' => ∃ t' : ByteArray, e = .returned (.string t') ∧ valK t' = true ∧ DgSt w w' p a n c xs (K + 3 + 3) t u r vb (.slice none 0 0) es [] from (valueD_any p a n c xs (K + 3) wa.drew ((unhide ST).draw (K' := K + 3) ((unhide ST).src.of_blocks' rfl (fun _ _ _ => rfl)) ⟨rfl, rfl, rfl, Nat.le_refl _, fun _ _ _ => rfl⟩ : DgSt w wa.drew p a n c xs (K + 3) t u r vb (.slice none 0 0) es []).src (by omega)).mono fun e w' ⟨v, h1, h2, h3, h4⟩ => ⟨v, h1, h2, (unhide ST).draw h4 ⟨h3.os, h3.tape, h3.output, h3.size, h3.block⟩⟩)
            have CP := hide (show ∀ (X : World) (v : ByteArray), valK v = true → DgSt w X p a n c xs (K + 3 + 3) t u r vb (.slice none 0 0) es [] → Calls Try.prog 49 #[vb, .agg #[.string k, .string v], .bool false] X fun e w' => ∃ g cap nn, e = .returned (.slice (some ⟨g, 0, none⟩) nn cap) ∧ (w'.cell? ⟨w.heap.size + 1, 3, none⟩ = some vb ∧ w'.frozen? ⟨w.heap.size + 1, 3, none⟩ = false) ∧ DgSt w (w'.setCell ⟨w.heap.size + 1, 3, none⟩ (.slice (some ⟨g, 0, none⟩) nn cap)) p a n c xs (K + 3 + 3) t u r (.slice (some ⟨g, 0, none⟩) nn cap) (.slice none 0 0) (putE es ⟨k, v⟩ false) [] ∧ BaseOK t u (putE es ⟨k, v⟩ false) from fun X v hv hX => by
              have hB := (unhide BA).put (e := ⟨k, v⟩) (by unfold okEnt; rw [unhide KK, hv, unhide IN]; rfl)
              rcases hform with ⟨rfl, rfl⟩ | ⟨g, cap, rfl, hc⟩
              · refine (l04Put_nil ⟨k, v⟩ X).mono ?_
                rintro e w' ⟨g, cap, h1, h2, h3⟩
                obtain ⟨⟨_, _, _, q3, _⟩, fz⟩ := five_of (hX.below h3).k2
                exact ⟨g, cap, 1, h1, ⟨q3, fz 3⟩, hX.base h3 (by have e : putE [] ⟨k, v⟩ false = [⟨k, v⟩] := rfl; rw [e]; exact h2), hB⟩
              · refine (l04Put_any g 0 es.length cap es ⟨k, v⟩ false X (erow_of_owns hX.oe) (by omega) hc).mono ?_
                rintro e w' ⟨g', cap', h1, h2, h3⟩
                obtain ⟨⟨_, _, _, q3, _⟩, fz⟩ := five_of (hX.below h3).k2
                exact ⟨g', cap', _, h1, ⟨q3, fz 3⟩, hX.base h3 h2, hB⟩)
            have LP := hide (fun v => putE_len es ⟨k, v⟩)
            go_wp2_with fail
            go_region_with (first
              | (go_at_call 50; refine (unhide CV).mono ?_; rintro e wc ⟨v, rfl, hv, hd⟩; obtain ⟨⟨_, _, _, q3, _⟩, _⟩ := five_of hd.k2; have HV := hide hv; have HD := hide hd; clear hv hd)
              | (go_at_call 49; refine (unhide CP _ _ (unhide HV) (unhide HD)).mono ?_; rintro e wd ⟨g, cap, nn, rfl, ⟨q5, q6⟩, hd, hb⟩; have HD2 := hide hd; have HB2 := hide hb; clear hd hb))
            all_goals
              go_wp2_with fail
              go_roundw
              case rel => exact ⟨j, K + 3 + 3, _, _, by go_num, by have := unhide LP v; omega, by omega, HB2, HD2⟩
              case measure => simp [intOf]
          · have hin' : inK t u k = false := by simpa using hin
            by_cases hge : Op.bytesLess k.toList t.toList = true
            · go_wp2_with fail
              go_roundw
              case rel => exact ⟨j, K + 3, es, vb, by go_num, by omega, by omega, BA, ST⟩
              case measure => simp [intOf]
            · have hge : Op.bytesLess k.toList t.toList = false := by simpa using hge
              have hun : underK k u = false := by unfold inK ltK at hin'; rw [hge] at hin'; simpa [underK, ltK] using hin'
              go_wp2_with fail
              refine (l04Under_any k u _).mono ?_
              rintro e wb ⟨rfl, hwb⟩
              subst wb
              rw [hun]
              go_wp2_with fail
              go_roundw
              case rel => exact ⟨j, K + 3, es, vb, by go_num, by omega, by omega, BA, ST⟩
              case measure => simp [intOf]
        · obtain rfl : j = 0 := by omega
          go_wp2_with fail
          refine (next_any p a n c xs K 6 _ (unhide ST).src (by omega) (by omega) (by omega)).mono ?_
          rintro e wf ⟨q2, rfl, hq20, hq21, ho, hs⟩
          obtain ⟨q2, rfl⟩ := Int.eq_ofNat_of_zero_le hq20
          replace ST := hide ((unhide ST).draw hs ho.wrote)
          clear ho hs
          go_wp2_with fail
          go_loopw [6] (fun i wr => ∃ (j : Nat) (K : Int) (ds : List DelD) (vc : Value), i = .int .i64 j ∧ ds.length + j ≤ 6 ∧ K + 20 * j ≤ 400 ∧ Hid (okChain t u ds = true) ∧ Hid (DgSt w wr p a n c xs K t u r vb vc es ds)) (fun i _ => (intOf i).toNat)
          case atStart => exact ⟨q2, K + 3, [], _, rfl, by simp; omega, by omega, hide rfl, ST⟩
          case round =>
            clear ST
            obtain ⟨j, K, ds, vc, rfl, hm, hK, CH, ST⟩ := hrel
            obtain ⟨ac, nc, cc, rfl⟩ := slice_down (unhide ST).od
            have hnc : nc ≤ 100 := by have := (drow_of_owns (unhide ST).od).1; omega
            by_cases hj : 0 < j
            · obtain ⟨j, rfl⟩ : ∃ i, j = i + 1 := ⟨j - 1, by omega⟩
              have hji : (0 : Int) < (j : Int) + 1 := by omega
              have ej : (j : Int) + 1 - 1 = (j : Int) := by omega
              have wj : IntKind.i64.wrap (j : Int) = (j : Int) := by rw [IntKind.wrap_i64]; omega
              go_wp2_with fail
              refine (deltaD_any p a n c xs K _ (unhide ST).src (by omega)).mono ?_
              rintro e wa ⟨d, rfl, hw, hs⟩
              replace ST := hide ((unhide ST).draw hs hw)
              clear hw hs
              unfold dV
              have KB := hide (heap_alloc_new wa (.cells #[.int .i64 d.kind, .string d.k, .string d.v, .int .i64 d.to] 41))
              replace ST := hide ((unhide ST).below ((Below.refl _ _).alloc (Nat.le_refl _) (.cells #[.int .i64 d.kind, .string d.k, .string d.v, .int .i64 d.to] 41)))
              go_upto_region 17 with fail
              generalize wa.alloc (.cells #[.int .i64 d.kind, .string d.k, .string d.v, .int .i64 d.to] 41) = wb at *
              generalize wa.heap.size = bo at *
              obtain ⟨⟨p0, p1, p2, p3, p4⟩, _⟩ := five_of (unhide ST).k2
              go_wp2_with fail
              clear p0 p1 p2 p3 p4
              refine (l04Bounds_any t u r vb ac nc cc ds _ (drow_of_owns (unhide ST).od) (by omega)).mono ?_
              rintro e wc ⟨rfl, hb⟩
              replace ST := hide ((unhide ST).below hb)
              replace KB := hide ((hb.block bo (heap_ltD (unhide KB))).trans (unhide KB))
              clear hb
              obtain ⟨⟨p0, p1, p2, p3, p4⟩, _⟩ := five_of (unhide ST).k2
              obtain ⟨d0, d1, d2, d3⟩ := d_cells (unhide KB)
              go_wp2_with fail
              clear p0 p1 p2 p3 p4 d0 d1 d2 d3
              refine (l04Delta_any d t (highE u ds) _).mono ?_
              rintro e wd ⟨rfl, hb⟩
              replace ST := hide ((unhide ST).below hb)
              replace KB := hide ((hb.block bo (heap_ltD (unhide KB))).trans (unhide KB))
              clear hb
              by_cases hd : okDel t (highE u ds) d = true
              · rw [hd]
                have CH2 := hide (okChain_snoc (unhide CH) hd)
                have by' : Below wd.heap.size wd (wd.alloc (.cells #[.int .i64 d.kind, .string d.k, .string d.v, .int .i64 d.to] 41)) := (Below.refl _ _).alloc (Nat.le_refl _) _
                have SY := (unhide ST).below by'
                have KD := drow_one (heap_alloc_new wd (.cells #[.int .i64 d.kind, .string d.k, .string d.v, .int .i64 d.to] 41))
                have hz := heap_ltD SY.k2
                obtain ⟨v6, w6, hr6, hO6, hg6, _⟩ := run_appD (c := 1) 24 SY.od KD (by omega) (by omega) (fun h => by cases h) (by omega)
                obtain ⟨a6, n6, c6, rfl⟩ := slice_down hO6
                have S6 := hide (SY.chain hg6 hO6)
                obtain ⟨⟨_, _, _, _, x4⟩, fz⟩ := five_of ((hg6.block (w.heap.size + 1) hz (fun e => by have := (SY.od.lt _ e.symm).1; omega)).trans SY.k2)
                have x5 := fz 4
                obtain ⟨⟨_, _, _, _, p4⟩, _⟩ := five_of (unhide ST).k2
                obtain ⟨d0, d1, d2, d3⟩ := d_cells (unhide KB)
                clear KD SY hO6 hg6 fz by' hz hd
                go_wp2_with (at_builtin; refine wpAppE rfl (.tmp 71) (.tmp 73) 24 rfl _ _ _ w6 rfl rfl hr6 ?_)
                go_roundw
                case rel => exact ⟨j, K + 12, ds ++ [d], .slice a6 n6 c6, by go_num, by simp; omega, by omega, CH2, S6⟩
                case measure => simp [intOf]
              · rw [show okDel t (highE u ds) d = false by simpa using hd]
                go_wp2_with fail
                go_roundw
                case rel => exact ⟨j, K + 12, ds, _, by go_num, by omega, by omega, CH, ST⟩
                case measure => simp [intOf]
            · obtain rfl : j = 0 := by omega
              obtain ⟨a1, n1, c1, rfl⟩ := slice_eown (unhide ST).oe
              obtain ⟨⟨p0, p1, p2, p3, p4⟩, _⟩ := five_of (unhide ST).k2
              obtain ⟨⟨e0, e1, e2, e3, e4⟩, fz⟩ := five_of (unhide ST).k1
              have f0 := fz 0
              have f1 := fz 1
              have f2 := fz 2
              have f3 := fz 3
              have f4 := fz 4
              clear fz
              have DN := hide ((unhide ST).done (.string t) (.string u) (.int .i64 r) (.slice a1 n1 c1) (.slice ac nc cc))
              have OK := hide (okPage_of (unhide BO) (unhide BA) (unhide CH) (by omega) (by omega))
              go_wp2_with fail
              refine bodyPost_ret (v := pgv t u r a1 n1 c1 ac nc cc) (by simp [results, Try.results19, go_sem, pgv, *] <;> rfl) rfl ?_
              exact ⟨t, u, r, a1, n1, c1, ac, nc, cc, es, ds, rfl, (unhide DN).1, ⟨unhide OK, by omega, by omega⟩, (unhide DN).2⟩
    | false =>
      obtain ⟨u, hU⟩ : ∃ t : ByteArray, t = ⟨#[]⟩ := ⟨_, rfl⟩
      obtain ⟨r, hR⟩ : ∃ r : Int, r = -1 := ⟨_, rfl⟩
      have BO := hide (show okBounds t u r = true by rw [hU, hR]; exact bounds_none (unhide LO))
      replace ST := hide (show DgSt w w4 p a n c xs (3 + 3 + 3) t u r (.slice none 0 0) (.slice none 0 0) [] [] by rw [hU, hR]; exact unhide ST)
      clear hU hR
      replace ST := hide ((unhide ST).more (show (3 + 3 + 3 : Int) ≤ 3 + 3 + 3 + 3 + 3 by omega))
      go_wp2_with fail
      refine (next_any p a n c xs (3 + 3 + 3 + 3 + 3) 7 _ (unhide ST).src (by omega) (by omega) (by omega)).mono ?_
      rintro e w9 ⟨q, rfl, hq0, hq1, ho, hs⟩
      obtain ⟨q, rfl⟩ := Int.eq_ofNat_of_zero_le hq0
      replace ST := hide ((unhide ST).draw hs ho.wrote)
      clear ho hs
      go_wp2_with fail
      go_loopw [4] (fun i wr => ∃ (j : Nat) (K : Int) (es : List EntD) (vb : Value), i = .int .i64 j ∧ es.length + j ≤ 6 ∧ K + 20 * j ≤ 200 ∧ Hid (BaseOK t u es) ∧ Hid (DgSt w wr p a n c xs K t u r vb (.slice none 0 0) es [])) (fun i _ => (intOf i).toNat)
      case atStart => exact ⟨q, 3 + 3 + 3 + 3 + 3 + 3, [], _, rfl, by simp; omega, by omega, ⟨List.Pairwise.nil, fun e he => by cases he⟩, ST⟩
      case round =>
        clear ST
        obtain ⟨j, K, es, vb, rfl, hl, hK, BA, ST⟩ := hrel
        by_cases hj : 0 < j
        · obtain ⟨j, rfl⟩ : ∃ i, j = i + 1 := ⟨j - 1, by omega⟩
          have hji : (0 : Int) < (j : Int) + 1 := by omega
          have ej : (j : Int) + 1 - 1 = (j : Int) := by omega
          have wj : IntKind.i64.wrap (j : Int) = (j : Int) := by rw [IntKind.wrap_i64]; omega
          go_wp2_with fail
          refine (keyD_any p a n c xs K _ (unhide ST).src (by omega)).mono ?_
          rintro e wa ⟨k, rfl, hk, hw, hs⟩
          replace ST := hide ((unhide ST).draw hs hw)
          clear hw hs
          obtain ⟨⟨p0, p1, p2, p3, p4⟩, _⟩ := five_of (unhide ST).k2
          by_cases hin : inK t u k = true
          · have hge : Op.bytesLess k.toList t.toList = false := by unfold inK ltK at hin; simp only [Bool.and_eq_true, Bool.not_eq_true'] at hin; exact hin.1
            have hun : underK k u = true := by unfold inK at hin; simp only [Bool.and_eq_true] at hin; exact hin.2
            have KK := hide hk.1
            have IN := hide hin
            clear hk hin
            go_wp2_with fail
            refine (l04Under_any k u _).mono ?_
            rintro e wb ⟨rfl, hwb⟩
            subst wb
            rw [hun]
            have hform : (vb = .slice none 0 0 ∧ es = []) ∨ ∃ g cap, vb = .slice (some ⟨g, 0, none⟩) es.length cap ∧ es.length ≤ cap := by
              rcases (unhide ST).oe.2 with ⟨e, hn⟩ | ⟨g, cap, cur, e, _, _, hc, _⟩
              · exact .inl ⟨e, List.eq_nil_of_length_eq_zero hn⟩
              · exact .inr ⟨g, cap, e, hc⟩
            have CV := hide (show Calls Try.prog 50 #[.pointer (some ⟨p, 0, none⟩)] wa.drew fun e w' => ∃ t' : ByteArray, e = .returned (.string t') ∧ valK t' = true ∧ DgSt w w' p a n c xs (K + 3 + 3) t u r vb (.slice none 0 0) es [] from (valueD_any p a n c xs (K + 3) wa.drew ((unhide ST).draw (K' := K + 3) ((unhide ST).src.of_blocks' rfl (fun _ _ _ => rfl)) ⟨rfl, rfl, rfl, Nat.le_refl _, fun _ _ _ => rfl⟩ : DgSt w wa.drew p a n c xs (K + 3) t u r vb (.slice none 0 0) es []).src (by omega)).mono fun e w' ⟨v, h1, h2, h3, h4⟩ => ⟨v, h1, h2, (unhide ST).draw h4 ⟨h3.os, h3.tape, h3.output, h3.size, h3.block⟩⟩)
            have CP := hide (show ∀ (X : World) (v : ByteArray), valK v = true → DgSt w X p a n c xs (K + 3 + 3) t u r vb (.slice none 0 0) es [] → Calls Try.prog 49 #[vb, .agg #[.string k, .string v], .bool false] X fun e w' => ∃ g cap nn, e = .returned (.slice (some ⟨g, 0, none⟩) nn cap) ∧ (w'.cell? ⟨w.heap.size + 1, 3, none⟩ = some vb ∧ w'.frozen? ⟨w.heap.size + 1, 3, none⟩ = false) ∧ DgSt w (w'.setCell ⟨w.heap.size + 1, 3, none⟩ (.slice (some ⟨g, 0, none⟩) nn cap)) p a n c xs (K + 3 + 3) t u r (.slice (some ⟨g, 0, none⟩) nn cap) (.slice none 0 0) (putE es ⟨k, v⟩ false) [] ∧ BaseOK t u (putE es ⟨k, v⟩ false) from fun X v hv hX => by
              have hB := (unhide BA).put (e := ⟨k, v⟩) (by unfold okEnt; rw [unhide KK, hv, unhide IN]; rfl)
              rcases hform with ⟨rfl, rfl⟩ | ⟨g, cap, rfl, hc⟩
              · refine (l04Put_nil ⟨k, v⟩ X).mono ?_
                rintro e w' ⟨g, cap, h1, h2, h3⟩
                obtain ⟨⟨_, _, _, q3, _⟩, fz⟩ := five_of (hX.below h3).k2
                exact ⟨g, cap, 1, h1, ⟨q3, fz 3⟩, hX.base h3 (by have e : putE [] ⟨k, v⟩ false = [⟨k, v⟩] := rfl; rw [e]; exact h2), hB⟩
              · refine (l04Put_any g 0 es.length cap es ⟨k, v⟩ false X (erow_of_owns hX.oe) (by omega) hc).mono ?_
                rintro e w' ⟨g', cap', h1, h2, h3⟩
                obtain ⟨⟨_, _, _, q3, _⟩, fz⟩ := five_of (hX.below h3).k2
                exact ⟨g', cap', _, h1, ⟨q3, fz 3⟩, hX.base h3 h2, hB⟩)
            have LP := hide (fun v => putE_len es ⟨k, v⟩)
            go_wp2_with fail
            go_region_with (first
              | (go_at_call 50; refine (unhide CV).mono ?_; rintro e wc ⟨v, rfl, hv, hd⟩; obtain ⟨⟨_, _, _, q3, _⟩, _⟩ := five_of hd.k2; have HV := hide hv; have HD := hide hd; clear hv hd)
              | (go_at_call 49; refine (unhide CP _ _ (unhide HV) (unhide HD)).mono ?_; rintro e wd ⟨g, cap, nn, rfl, ⟨q5, q6⟩, hd, hb⟩; have HD2 := hide hd; have HB2 := hide hb; clear hd hb))
            all_goals
              go_wp2_with fail
              go_roundw
              case rel => exact ⟨j, K + 3 + 3, _, _, by go_num, by have := unhide LP v; omega, by omega, HB2, HD2⟩
              case measure => simp [intOf]
          · have hin' : inK t u k = false := by simpa using hin
            by_cases hge : Op.bytesLess k.toList t.toList = true
            · go_wp2_with fail
              go_roundw
              case rel => exact ⟨j, K + 3, es, vb, by go_num, by omega, by omega, BA, ST⟩
              case measure => simp [intOf]
            · have hge : Op.bytesLess k.toList t.toList = false := by simpa using hge
              have hun : underK k u = false := by unfold inK ltK at hin'; rw [hge] at hin'; simpa [underK, ltK] using hin'
              go_wp2_with fail
              refine (l04Under_any k u _).mono ?_
              rintro e wb ⟨rfl, hwb⟩
              subst wb
              rw [hun]
              go_wp2_with fail
              go_roundw
              case rel => exact ⟨j, K + 3, es, vb, by go_num, by omega, by omega, BA, ST⟩
              case measure => simp [intOf]
        · obtain rfl : j = 0 := by omega
          go_wp2_with fail
          refine (next_any p a n c xs K 6 _ (unhide ST).src (by omega) (by omega) (by omega)).mono ?_
          rintro e wf ⟨q2, rfl, hq20, hq21, ho, hs⟩
          obtain ⟨q2, rfl⟩ := Int.eq_ofNat_of_zero_le hq20
          replace ST := hide ((unhide ST).draw hs ho.wrote)
          clear ho hs
          go_wp2_with fail
          go_loopw [6] (fun i wr => ∃ (j : Nat) (K : Int) (ds : List DelD) (vc : Value), i = .int .i64 j ∧ ds.length + j ≤ 6 ∧ K + 20 * j ≤ 400 ∧ Hid (okChain t u ds = true) ∧ Hid (DgSt w wr p a n c xs K t u r vb vc es ds)) (fun i _ => (intOf i).toNat)
          case atStart => exact ⟨q2, K + 3, [], _, rfl, by simp; omega, by omega, hide rfl, ST⟩
          case round =>
            clear ST
            obtain ⟨j, K, ds, vc, rfl, hm, hK, CH, ST⟩ := hrel
            obtain ⟨ac, nc, cc, rfl⟩ := slice_down (unhide ST).od
            have hnc : nc ≤ 100 := by have := (drow_of_owns (unhide ST).od).1; omega
            by_cases hj : 0 < j
            · obtain ⟨j, rfl⟩ : ∃ i, j = i + 1 := ⟨j - 1, by omega⟩
              have hji : (0 : Int) < (j : Int) + 1 := by omega
              have ej : (j : Int) + 1 - 1 = (j : Int) := by omega
              have wj : IntKind.i64.wrap (j : Int) = (j : Int) := by rw [IntKind.wrap_i64]; omega
              go_wp2_with fail
              refine (deltaD_any p a n c xs K _ (unhide ST).src (by omega)).mono ?_
              rintro e wa ⟨d, rfl, hw, hs⟩
              replace ST := hide ((unhide ST).draw hs hw)
              clear hw hs
              unfold dV
              have KB := hide (heap_alloc_new wa (.cells #[.int .i64 d.kind, .string d.k, .string d.v, .int .i64 d.to] 41))
              replace ST := hide ((unhide ST).below ((Below.refl _ _).alloc (Nat.le_refl _) (.cells #[.int .i64 d.kind, .string d.k, .string d.v, .int .i64 d.to] 41)))
              go_upto_region 17 with fail
              generalize wa.alloc (.cells #[.int .i64 d.kind, .string d.k, .string d.v, .int .i64 d.to] 41) = wb at *
              generalize wa.heap.size = bo at *
              obtain ⟨⟨p0, p1, p2, p3, p4⟩, _⟩ := five_of (unhide ST).k2
              go_wp2_with fail
              clear p0 p1 p2 p3 p4
              refine (l04Bounds_any t u r vb ac nc cc ds _ (drow_of_owns (unhide ST).od) (by omega)).mono ?_
              rintro e wc ⟨rfl, hb⟩
              replace ST := hide ((unhide ST).below hb)
              replace KB := hide ((hb.block bo (heap_ltD (unhide KB))).trans (unhide KB))
              clear hb
              obtain ⟨⟨p0, p1, p2, p3, p4⟩, _⟩ := five_of (unhide ST).k2
              obtain ⟨d0, d1, d2, d3⟩ := d_cells (unhide KB)
              go_wp2_with fail
              clear p0 p1 p2 p3 p4 d0 d1 d2 d3
              refine (l04Delta_any d t (highE u ds) _).mono ?_
              rintro e wd ⟨rfl, hb⟩
              replace ST := hide ((unhide ST).below hb)
              replace KB := hide ((hb.block bo (heap_ltD (unhide KB))).trans (unhide KB))
              clear hb
              by_cases hd : okDel t (highE u ds) d = true
              · rw [hd]
                have CH2 := hide (okChain_snoc (unhide CH) hd)
                have by' : Below wd.heap.size wd (wd.alloc (.cells #[.int .i64 d.kind, .string d.k, .string d.v, .int .i64 d.to] 41)) := (Below.refl _ _).alloc (Nat.le_refl _) _
                have SY := (unhide ST).below by'
                have KD := drow_one (heap_alloc_new wd (.cells #[.int .i64 d.kind, .string d.k, .string d.v, .int .i64 d.to] 41))
                have hz := heap_ltD SY.k2
                obtain ⟨v6, w6, hr6, hO6, hg6, _⟩ := run_appD (c := 1) 24 SY.od KD (by omega) (by omega) (fun h => by cases h) (by omega)
                obtain ⟨a6, n6, c6, rfl⟩ := slice_down hO6
                have S6 := hide (SY.chain hg6 hO6)
                obtain ⟨⟨_, _, _, _, x4⟩, fz⟩ := five_of ((hg6.block (w.heap.size + 1) hz (fun e => by have := (SY.od.lt _ e.symm).1; omega)).trans SY.k2)
                have x5 := fz 4
                obtain ⟨⟨_, _, _, _, p4⟩, _⟩ := five_of (unhide ST).k2
                obtain ⟨d0, d1, d2, d3⟩ := d_cells (unhide KB)
                clear KD SY hO6 hg6 fz by' hz hd
                go_wp2_with (at_builtin; refine wpAppE rfl (.tmp 71) (.tmp 73) 24 rfl _ _ _ w6 rfl rfl hr6 ?_)
                go_roundw
                case rel => exact ⟨j, K + 12, ds ++ [d], .slice a6 n6 c6, by go_num, by simp; omega, by omega, CH2, S6⟩
                case measure => simp [intOf]
              · rw [show okDel t (highE u ds) d = false by simpa using hd]
                go_wp2_with fail
                go_roundw
                case rel => exact ⟨j, K + 12, ds, _, by go_num, by omega, by omega, CH, ST⟩
                case measure => simp [intOf]
            · obtain rfl : j = 0 := by omega
              obtain ⟨a1, n1, c1, rfl⟩ := slice_eown (unhide ST).oe
              obtain ⟨⟨p0, p1, p2, p3, p4⟩, _⟩ := five_of (unhide ST).k2
              obtain ⟨⟨e0, e1, e2, e3, e4⟩, fz⟩ := five_of (unhide ST).k1
              have f0 := fz 0
              have f1 := fz 1
              have f2 := fz 2
              have f3 := fz 3
              have f4 := fz 4
              clear fz
              have DN := hide ((unhide ST).done (.string t) (.string u) (.int .i64 r) (.slice a1 n1 c1) (.slice ac nc cc))
              have OK := hide (okPage_of (unhide BO) (unhide BA) (unhide CH) (by omega) (by omega))
              go_wp2_with fail
              refine bodyPost_ret (v := pgv t u r a1 n1 c1 ac nc cc) (by simp [results, Try.results19, go_sem, pgv, *] <;> rfl) rfl ?_
              exact ⟨t, u, r, a1, n1, c1, ac, nc, cc, es, ds, rfl, (unhide DN).1, ⟨unhide OK, by omega, by omega⟩, (unhide DN).2⟩
  | false =>
    obtain ⟨t, hT⟩ : ∃ t : ByteArray, t = ⟨#[]⟩ := ⟨_, rfl⟩
    have LO := hide (show LowOK t by rw [hT]; exact low_none)
    replace ST := hide (show DgSt w w1 p a n c xs 3 t ⟨#[]⟩ (-1) (.slice none 0 0) (.slice none 0 0) [] [] by rw [hT]; exact unhide ST)
    clear hT
    replace ST := hide ((unhide ST).more (show (3 : Int) ≤ 3 + 3 by omega))
    go_wp2_with fail
    refine (chanceD_any p a n c xs (3 + 3) 3 _ (unhide ST).src (by omega) (by omega) (by omega)).mono ?_
    rintro e w4 ⟨x, rfl, hw, hs⟩
    replace ST := hide ((unhide ST).draw hs hw)
    clear hw hs
    cases x with
    | true =>
      go_wp2_with fail
      refine (pick_any p (w4).heap.size 3 3 a n c xs (3 + 3 + 3) _ ((unhide ST).src.alloc _) (by omega) (by omega) (by omega) (by have := (unhide ST).lt; have := (unhide ST).wt.size; omega) (fun t => HighOK t) (fun i hi => ?_)).mono ?_
      · match i, hi with
        | 0, _ => exact ⟨_, by simp <;> rfl, .inl rfl⟩
        | 1, _ => exact ⟨_, by simp <;> rfl, .inr (.inl rfl)⟩
        | 2, _ => exact ⟨_, by simp <;> rfl, .inr (.inr rfl)⟩
      rintro e w5 ⟨u, rfl, hu, ho, hs⟩
      replace ST := hide ((unhide ST).draw (hs) ((Wrote.alloc w4 p _).trans ho.wrote))
      obtain ⟨⟨p0, p1, p2, p3, p4⟩, fz⟩ := five_of (unhide ST).k2
      have f1 := fz 1
      clear ho hs fz
      go_wp2_with fail
      clear p0 p1 p2 p3 p4 f1
      replace ST := hide ((unhide ST).set (lo' := t) (hi' := u) (r' := -1) 1 (.string u) rfl)
      have HU := hide hu
      clear hu
      generalize w5.setCell ⟨w.heap.size + 1, 1, none⟩ (.string u) = w6 at *
      refine (next_any p a n c xs (3 + 3 + 3 + 3) 5 _ (unhide ST).src (by omega) (by omega) (by omega)).mono ?_
      rintro e w7 ⟨r, rfl, hr0, hr1, ho, hs⟩
      replace ST := hide ((unhide ST).draw hs ho.wrote)
      obtain ⟨⟨p0, p1, p2, p3, p4⟩, fz⟩ := five_of (unhide ST).k2
      have f2 := fz 2
      clear ho hs fz
      go_wp2_with fail
      clear p0 p1 p2 p3 p4 f2
      replace ST := hide ((unhide ST).set (lo' := t) (hi' := u) (r' := r) 2 (.int .i64 r) rfl)
      have BO := hide (bounds_some (unhide LO) (unhide HU) hr0 hr1)
      clear hr0 hr1
      generalize w7.setCell ⟨w.heap.size + 1, 2, none⟩ (.int .i64 r) = w8 at *
      refine (next_any p a n c xs (3 + 3 + 3 + 3 + 3) 7 _ (unhide ST).src (by omega) (by omega) (by omega)).mono ?_
      rintro e w9 ⟨q, rfl, hq0, hq1, ho, hs⟩
      obtain ⟨q, rfl⟩ := Int.eq_ofNat_of_zero_le hq0
      replace ST := hide ((unhide ST).draw hs ho.wrote)
      clear ho hs
      go_wp2_with fail
      go_loopw [4] (fun i wr => ∃ (j : Nat) (K : Int) (es : List EntD) (vb : Value), i = .int .i64 j ∧ es.length + j ≤ 6 ∧ K + 20 * j ≤ 200 ∧ Hid (BaseOK t u es) ∧ Hid (DgSt w wr p a n c xs K t u r vb (.slice none 0 0) es [])) (fun i _ => (intOf i).toNat)
      case atStart => exact ⟨q, 3 + 3 + 3 + 3 + 3 + 3, [], _, rfl, by simp; omega, by omega, ⟨List.Pairwise.nil, fun e he => by cases he⟩, ST⟩
      case round =>
        clear ST
        obtain ⟨j, K, es, vb, rfl, hl, hK, BA, ST⟩ := hrel
        by_cases hj : 0 < j
        · obtain ⟨j, rfl⟩ : ∃ i, j = i + 1 := ⟨j - 1, by omega⟩
          have hji : (0 : Int) < (j : Int) + 1 := by omega
          have ej : (j : Int) + 1 - 1 = (j : Int) := by omega
          have wj : IntKind.i64.wrap (j : Int) = (j : Int) := by rw [IntKind.wrap_i64]; omega
          go_wp2_with fail
          refine (keyD_any p a n c xs K _ (unhide ST).src (by omega)).mono ?_
          rintro e wa ⟨k, rfl, hk, hw, hs⟩
          replace ST := hide ((unhide ST).draw hs hw)
          clear hw hs
          obtain ⟨⟨p0, p1, p2, p3, p4⟩, _⟩ := five_of (unhide ST).k2
          by_cases hin : inK t u k = true
          · have hge : Op.bytesLess k.toList t.toList = false := by unfold inK ltK at hin; simp only [Bool.and_eq_true, Bool.not_eq_true'] at hin; exact hin.1
            have hun : underK k u = true := by unfold inK at hin; simp only [Bool.and_eq_true] at hin; exact hin.2
            have KK := hide hk.1
            have IN := hide hin
            clear hk hin
            go_wp2_with fail
            refine (l04Under_any k u _).mono ?_
            rintro e wb ⟨rfl, hwb⟩
            subst wb
            rw [hun]
            have hform : (vb = .slice none 0 0 ∧ es = []) ∨ ∃ g cap, vb = .slice (some ⟨g, 0, none⟩) es.length cap ∧ es.length ≤ cap := by
              rcases (unhide ST).oe.2 with ⟨e, hn⟩ | ⟨g, cap, cur, e, _, _, hc, _⟩
              · exact .inl ⟨e, List.eq_nil_of_length_eq_zero hn⟩
              · exact .inr ⟨g, cap, e, hc⟩
            have CV := hide (show Calls Try.prog 50 #[.pointer (some ⟨p, 0, none⟩)] wa.drew fun e w' => ∃ t' : ByteArray, e = .returned (.string t') ∧ valK t' = true ∧ DgSt w w' p a n c xs (K + 3 + 3) t u r vb (.slice none 0 0) es [] from (valueD_any p a n c xs (K + 3) wa.drew ((unhide ST).draw (K' := K + 3) ((unhide ST).src.of_blocks' rfl (fun _ _ _ => rfl)) ⟨rfl, rfl, rfl, Nat.le_refl _, fun _ _ _ => rfl⟩ : DgSt w wa.drew p a n c xs (K + 3) t u r vb (.slice none 0 0) es []).src (by omega)).mono fun e w' ⟨v, h1, h2, h3, h4⟩ => ⟨v, h1, h2, (unhide ST).draw h4 ⟨h3.os, h3.tape, h3.output, h3.size, h3.block⟩⟩)
            have CP := hide (show ∀ (X : World) (v : ByteArray), valK v = true → DgSt w X p a n c xs (K + 3 + 3) t u r vb (.slice none 0 0) es [] → Calls Try.prog 49 #[vb, .agg #[.string k, .string v], .bool false] X fun e w' => ∃ g cap nn, e = .returned (.slice (some ⟨g, 0, none⟩) nn cap) ∧ (w'.cell? ⟨w.heap.size + 1, 3, none⟩ = some vb ∧ w'.frozen? ⟨w.heap.size + 1, 3, none⟩ = false) ∧ DgSt w (w'.setCell ⟨w.heap.size + 1, 3, none⟩ (.slice (some ⟨g, 0, none⟩) nn cap)) p a n c xs (K + 3 + 3) t u r (.slice (some ⟨g, 0, none⟩) nn cap) (.slice none 0 0) (putE es ⟨k, v⟩ false) [] ∧ BaseOK t u (putE es ⟨k, v⟩ false) from fun X v hv hX => by
              have hB := (unhide BA).put (e := ⟨k, v⟩) (by unfold okEnt; rw [unhide KK, hv, unhide IN]; rfl)
              rcases hform with ⟨rfl, rfl⟩ | ⟨g, cap, rfl, hc⟩
              · refine (l04Put_nil ⟨k, v⟩ X).mono ?_
                rintro e w' ⟨g, cap, h1, h2, h3⟩
                obtain ⟨⟨_, _, _, q3, _⟩, fz⟩ := five_of (hX.below h3).k2
                exact ⟨g, cap, 1, h1, ⟨q3, fz 3⟩, hX.base h3 (by have e : putE [] ⟨k, v⟩ false = [⟨k, v⟩] := rfl; rw [e]; exact h2), hB⟩
              · refine (l04Put_any g 0 es.length cap es ⟨k, v⟩ false X (erow_of_owns hX.oe) (by omega) hc).mono ?_
                rintro e w' ⟨g', cap', h1, h2, h3⟩
                obtain ⟨⟨_, _, _, q3, _⟩, fz⟩ := five_of (hX.below h3).k2
                exact ⟨g', cap', _, h1, ⟨q3, fz 3⟩, hX.base h3 h2, hB⟩)
            have LP := hide (fun v => putE_len es ⟨k, v⟩)
            go_wp2_with fail
            go_region_with (first
              | (go_at_call 50; refine (unhide CV).mono ?_; rintro e wc ⟨v, rfl, hv, hd⟩; obtain ⟨⟨_, _, _, q3, _⟩, _⟩ := five_of hd.k2; have HV := hide hv; have HD := hide hd; clear hv hd)
              | (go_at_call 49; refine (unhide CP _ _ (unhide HV) (unhide HD)).mono ?_; rintro e wd ⟨g, cap, nn, rfl, ⟨q5, q6⟩, hd, hb⟩; have HD2 := hide hd; have HB2 := hide hb; clear hd hb))
            all_goals
              go_wp2_with fail
              go_roundw
              case rel => exact ⟨j, K + 3 + 3, _, _, by go_num, by have := unhide LP v; omega, by omega, HB2, HD2⟩
              case measure => simp [intOf]
          · have hin' : inK t u k = false := by simpa using hin
            by_cases hge : Op.bytesLess k.toList t.toList = true
            · go_wp2_with fail
              go_roundw
              case rel => exact ⟨j, K + 3, es, vb, by go_num, by omega, by omega, BA, ST⟩
              case measure => simp [intOf]
            · have hge : Op.bytesLess k.toList t.toList = false := by simpa using hge
              have hun : underK k u = false := by unfold inK ltK at hin'; rw [hge] at hin'; simpa [underK, ltK] using hin'
              go_wp2_with fail
              refine (l04Under_any k u _).mono ?_
              rintro e wb ⟨rfl, hwb⟩
              subst wb
              rw [hun]
              go_wp2_with fail
              go_roundw
              case rel => exact ⟨j, K + 3, es, vb, by go_num, by omega, by omega, BA, ST⟩
              case measure => simp [intOf]
        · obtain rfl : j = 0 := by omega
          go_wp2_with fail
          refine (next_any p a n c xs K 6 _ (unhide ST).src (by omega) (by omega) (by omega)).mono ?_
          rintro e wf ⟨q2, rfl, hq20, hq21, ho, hs⟩
          obtain ⟨q2, rfl⟩ := Int.eq_ofNat_of_zero_le hq20
          replace ST := hide ((unhide ST).draw hs ho.wrote)
          clear ho hs
          go_wp2_with fail
          go_loopw [6] (fun i wr => ∃ (j : Nat) (K : Int) (ds : List DelD) (vc : Value), i = .int .i64 j ∧ ds.length + j ≤ 6 ∧ K + 20 * j ≤ 400 ∧ Hid (okChain t u ds = true) ∧ Hid (DgSt w wr p a n c xs K t u r vb vc es ds)) (fun i _ => (intOf i).toNat)
          case atStart => exact ⟨q2, K + 3, [], _, rfl, by simp; omega, by omega, hide rfl, ST⟩
          case round =>
            clear ST
            obtain ⟨j, K, ds, vc, rfl, hm, hK, CH, ST⟩ := hrel
            obtain ⟨ac, nc, cc, rfl⟩ := slice_down (unhide ST).od
            have hnc : nc ≤ 100 := by have := (drow_of_owns (unhide ST).od).1; omega
            by_cases hj : 0 < j
            · obtain ⟨j, rfl⟩ : ∃ i, j = i + 1 := ⟨j - 1, by omega⟩
              have hji : (0 : Int) < (j : Int) + 1 := by omega
              have ej : (j : Int) + 1 - 1 = (j : Int) := by omega
              have wj : IntKind.i64.wrap (j : Int) = (j : Int) := by rw [IntKind.wrap_i64]; omega
              go_wp2_with fail
              refine (deltaD_any p a n c xs K _ (unhide ST).src (by omega)).mono ?_
              rintro e wa ⟨d, rfl, hw, hs⟩
              replace ST := hide ((unhide ST).draw hs hw)
              clear hw hs
              unfold dV
              have KB := hide (heap_alloc_new wa (.cells #[.int .i64 d.kind, .string d.k, .string d.v, .int .i64 d.to] 41))
              replace ST := hide ((unhide ST).below ((Below.refl _ _).alloc (Nat.le_refl _) (.cells #[.int .i64 d.kind, .string d.k, .string d.v, .int .i64 d.to] 41)))
              go_upto_region 17 with fail
              generalize wa.alloc (.cells #[.int .i64 d.kind, .string d.k, .string d.v, .int .i64 d.to] 41) = wb at *
              generalize wa.heap.size = bo at *
              obtain ⟨⟨p0, p1, p2, p3, p4⟩, _⟩ := five_of (unhide ST).k2
              go_wp2_with fail
              clear p0 p1 p2 p3 p4
              refine (l04Bounds_any t u r vb ac nc cc ds _ (drow_of_owns (unhide ST).od) (by omega)).mono ?_
              rintro e wc ⟨rfl, hb⟩
              replace ST := hide ((unhide ST).below hb)
              replace KB := hide ((hb.block bo (heap_ltD (unhide KB))).trans (unhide KB))
              clear hb
              obtain ⟨⟨p0, p1, p2, p3, p4⟩, _⟩ := five_of (unhide ST).k2
              obtain ⟨d0, d1, d2, d3⟩ := d_cells (unhide KB)
              go_wp2_with fail
              clear p0 p1 p2 p3 p4 d0 d1 d2 d3
              refine (l04Delta_any d t (highE u ds) _).mono ?_
              rintro e wd ⟨rfl, hb⟩
              replace ST := hide ((unhide ST).below hb)
              replace KB := hide ((hb.block bo (heap_ltD (unhide KB))).trans (unhide KB))
              clear hb
              by_cases hd : okDel t (highE u ds) d = true
              · rw [hd]
                have CH2 := hide (okChain_snoc (unhide CH) hd)
                have by' : Below wd.heap.size wd (wd.alloc (.cells #[.int .i64 d.kind, .string d.k, .string d.v, .int .i64 d.to] 41)) := (Below.refl _ _).alloc (Nat.le_refl _) _
                have SY := (unhide ST).below by'
                have KD := drow_one (heap_alloc_new wd (.cells #[.int .i64 d.kind, .string d.k, .string d.v, .int .i64 d.to] 41))
                have hz := heap_ltD SY.k2
                obtain ⟨v6, w6, hr6, hO6, hg6, _⟩ := run_appD (c := 1) 24 SY.od KD (by omega) (by omega) (fun h => by cases h) (by omega)
                obtain ⟨a6, n6, c6, rfl⟩ := slice_down hO6
                have S6 := hide (SY.chain hg6 hO6)
                obtain ⟨⟨_, _, _, _, x4⟩, fz⟩ := five_of ((hg6.block (w.heap.size + 1) hz (fun e => by have := (SY.od.lt _ e.symm).1; omega)).trans SY.k2)
                have x5 := fz 4
                obtain ⟨⟨_, _, _, _, p4⟩, _⟩ := five_of (unhide ST).k2
                obtain ⟨d0, d1, d2, d3⟩ := d_cells (unhide KB)
                clear KD SY hO6 hg6 fz by' hz hd
                go_wp2_with (at_builtin; refine wpAppE rfl (.tmp 71) (.tmp 73) 24 rfl _ _ _ w6 rfl rfl hr6 ?_)
                go_roundw
                case rel => exact ⟨j, K + 12, ds ++ [d], .slice a6 n6 c6, by go_num, by simp; omega, by omega, CH2, S6⟩
                case measure => simp [intOf]
              · rw [show okDel t (highE u ds) d = false by simpa using hd]
                go_wp2_with fail
                go_roundw
                case rel => exact ⟨j, K + 12, ds, _, by go_num, by omega, by omega, CH, ST⟩
                case measure => simp [intOf]
            · obtain rfl : j = 0 := by omega
              obtain ⟨a1, n1, c1, rfl⟩ := slice_eown (unhide ST).oe
              obtain ⟨⟨p0, p1, p2, p3, p4⟩, _⟩ := five_of (unhide ST).k2
              obtain ⟨⟨e0, e1, e2, e3, e4⟩, fz⟩ := five_of (unhide ST).k1
              have f0 := fz 0
              have f1 := fz 1
              have f2 := fz 2
              have f3 := fz 3
              have f4 := fz 4
              clear fz
              have DN := hide ((unhide ST).done (.string t) (.string u) (.int .i64 r) (.slice a1 n1 c1) (.slice ac nc cc))
              have OK := hide (okPage_of (unhide BO) (unhide BA) (unhide CH) (by omega) (by omega))
              go_wp2_with fail
              refine bodyPost_ret (v := pgv t u r a1 n1 c1 ac nc cc) (by simp [results, Try.results19, go_sem, pgv, *] <;> rfl) rfl ?_
              exact ⟨t, u, r, a1, n1, c1, ac, nc, cc, es, ds, rfl, (unhide DN).1, ⟨unhide OK, by omega, by omega⟩, (unhide DN).2⟩
    | false =>
      obtain ⟨u, hU⟩ : ∃ t : ByteArray, t = ⟨#[]⟩ := ⟨_, rfl⟩
      obtain ⟨r, hR⟩ : ∃ r : Int, r = -1 := ⟨_, rfl⟩
      have BO := hide (show okBounds t u r = true by rw [hU, hR]; exact bounds_none (unhide LO))
      replace ST := hide (show DgSt w w4 p a n c xs (3 + 3 + 3) t u r (.slice none 0 0) (.slice none 0 0) [] [] by rw [hU, hR]; exact unhide ST)
      clear hU hR
      replace ST := hide ((unhide ST).more (show (3 + 3 + 3 : Int) ≤ 3 + 3 + 3 + 3 + 3 by omega))
      go_wp2_with fail
      refine (next_any p a n c xs (3 + 3 + 3 + 3 + 3) 7 _ (unhide ST).src (by omega) (by omega) (by omega)).mono ?_
      rintro e w9 ⟨q, rfl, hq0, hq1, ho, hs⟩
      obtain ⟨q, rfl⟩ := Int.eq_ofNat_of_zero_le hq0
      replace ST := hide ((unhide ST).draw hs ho.wrote)
      clear ho hs
      go_wp2_with fail
      go_loopw [4] (fun i wr => ∃ (j : Nat) (K : Int) (es : List EntD) (vb : Value), i = .int .i64 j ∧ es.length + j ≤ 6 ∧ K + 20 * j ≤ 200 ∧ Hid (BaseOK t u es) ∧ Hid (DgSt w wr p a n c xs K t u r vb (.slice none 0 0) es [])) (fun i _ => (intOf i).toNat)
      case atStart => exact ⟨q, 3 + 3 + 3 + 3 + 3 + 3, [], _, rfl, by simp; omega, by omega, ⟨List.Pairwise.nil, fun e he => by cases he⟩, ST⟩
      case round =>
        clear ST
        obtain ⟨j, K, es, vb, rfl, hl, hK, BA, ST⟩ := hrel
        by_cases hj : 0 < j
        · obtain ⟨j, rfl⟩ : ∃ i, j = i + 1 := ⟨j - 1, by omega⟩
          have hji : (0 : Int) < (j : Int) + 1 := by omega
          have ej : (j : Int) + 1 - 1 = (j : Int) := by omega
          have wj : IntKind.i64.wrap (j : Int) = (j : Int) := by rw [IntKind.wrap_i64]; omega
          go_wp2_with fail
          refine (keyD_any p a n c xs K _ (unhide ST).src (by omega)).mono ?_
          rintro e wa ⟨k, rfl, hk, hw, hs⟩
          replace ST := hide ((unhide ST).draw hs hw)
          clear hw hs
          obtain ⟨⟨p0, p1, p2, p3, p4⟩, _⟩ := five_of (unhide ST).k2
          by_cases hin : inK t u k = true
          · have hge : Op.bytesLess k.toList t.toList = false := by unfold inK ltK at hin; simp only [Bool.and_eq_true, Bool.not_eq_true'] at hin; exact hin.1
            have hun : underK k u = true := by unfold inK at hin; simp only [Bool.and_eq_true] at hin; exact hin.2
            have KK := hide hk.1
            have IN := hide hin
            clear hk hin
            go_wp2_with fail
            refine (l04Under_any k u _).mono ?_
            rintro e wb ⟨rfl, hwb⟩
            subst wb
            rw [hun]
            have hform : (vb = .slice none 0 0 ∧ es = []) ∨ ∃ g cap, vb = .slice (some ⟨g, 0, none⟩) es.length cap ∧ es.length ≤ cap := by
              rcases (unhide ST).oe.2 with ⟨e, hn⟩ | ⟨g, cap, cur, e, _, _, hc, _⟩
              · exact .inl ⟨e, List.eq_nil_of_length_eq_zero hn⟩
              · exact .inr ⟨g, cap, e, hc⟩
            have CV := hide (show Calls Try.prog 50 #[.pointer (some ⟨p, 0, none⟩)] wa.drew fun e w' => ∃ t' : ByteArray, e = .returned (.string t') ∧ valK t' = true ∧ DgSt w w' p a n c xs (K + 3 + 3) t u r vb (.slice none 0 0) es [] from (valueD_any p a n c xs (K + 3) wa.drew ((unhide ST).draw (K' := K + 3) ((unhide ST).src.of_blocks' rfl (fun _ _ _ => rfl)) ⟨rfl, rfl, rfl, Nat.le_refl _, fun _ _ _ => rfl⟩ : DgSt w wa.drew p a n c xs (K + 3) t u r vb (.slice none 0 0) es []).src (by omega)).mono fun e w' ⟨v, h1, h2, h3, h4⟩ => ⟨v, h1, h2, (unhide ST).draw h4 ⟨h3.os, h3.tape, h3.output, h3.size, h3.block⟩⟩)
            have CP := hide (show ∀ (X : World) (v : ByteArray), valK v = true → DgSt w X p a n c xs (K + 3 + 3) t u r vb (.slice none 0 0) es [] → Calls Try.prog 49 #[vb, .agg #[.string k, .string v], .bool false] X fun e w' => ∃ g cap nn, e = .returned (.slice (some ⟨g, 0, none⟩) nn cap) ∧ (w'.cell? ⟨w.heap.size + 1, 3, none⟩ = some vb ∧ w'.frozen? ⟨w.heap.size + 1, 3, none⟩ = false) ∧ DgSt w (w'.setCell ⟨w.heap.size + 1, 3, none⟩ (.slice (some ⟨g, 0, none⟩) nn cap)) p a n c xs (K + 3 + 3) t u r (.slice (some ⟨g, 0, none⟩) nn cap) (.slice none 0 0) (putE es ⟨k, v⟩ false) [] ∧ BaseOK t u (putE es ⟨k, v⟩ false) from fun X v hv hX => by
              have hB := (unhide BA).put (e := ⟨k, v⟩) (by unfold okEnt; rw [unhide KK, hv, unhide IN]; rfl)
              rcases hform with ⟨rfl, rfl⟩ | ⟨g, cap, rfl, hc⟩
              · refine (l04Put_nil ⟨k, v⟩ X).mono ?_
                rintro e w' ⟨g, cap, h1, h2, h3⟩
                obtain ⟨⟨_, _, _, q3, _⟩, fz⟩ := five_of (hX.below h3).k2
                exact ⟨g, cap, 1, h1, ⟨q3, fz 3⟩, hX.base h3 (by have e : putE [] ⟨k, v⟩ false = [⟨k, v⟩] := rfl; rw [e]; exact h2), hB⟩
              · refine (l04Put_any g 0 es.length cap es ⟨k, v⟩ false X (erow_of_owns hX.oe) (by omega) hc).mono ?_
                rintro e w' ⟨g', cap', h1, h2, h3⟩
                obtain ⟨⟨_, _, _, q3, _⟩, fz⟩ := five_of (hX.below h3).k2
                exact ⟨g', cap', _, h1, ⟨q3, fz 3⟩, hX.base h3 h2, hB⟩)
            have LP := hide (fun v => putE_len es ⟨k, v⟩)
            go_wp2_with fail
            go_region_with (first
              | (go_at_call 50; refine (unhide CV).mono ?_; rintro e wc ⟨v, rfl, hv, hd⟩; obtain ⟨⟨_, _, _, q3, _⟩, _⟩ := five_of hd.k2; have HV := hide hv; have HD := hide hd; clear hv hd)
              | (go_at_call 49; refine (unhide CP _ _ (unhide HV) (unhide HD)).mono ?_; rintro e wd ⟨g, cap, nn, rfl, ⟨q5, q6⟩, hd, hb⟩; have HD2 := hide hd; have HB2 := hide hb; clear hd hb))
            all_goals
              go_wp2_with fail
              go_roundw
              case rel => exact ⟨j, K + 3 + 3, _, _, by go_num, by have := unhide LP v; omega, by omega, HB2, HD2⟩
              case measure => simp [intOf]
          · have hin' : inK t u k = false := by simpa using hin
            by_cases hge : Op.bytesLess k.toList t.toList = true
            · go_wp2_with fail
              go_roundw
              case rel => exact ⟨j, K + 3, es, vb, by go_num, by omega, by omega, BA, ST⟩
              case measure => simp [intOf]
            · have hge : Op.bytesLess k.toList t.toList = false := by simpa using hge
              have hun : underK k u = false := by unfold inK ltK at hin'; rw [hge] at hin'; simpa [underK, ltK] using hin'
              go_wp2_with fail
              refine (l04Under_any k u _).mono ?_
              rintro e wb ⟨rfl, hwb⟩
              subst wb
              rw [hun]
              go_wp2_with fail
              go_roundw
              case rel => exact ⟨j, K + 3, es, vb, by go_num, by omega, by omega, BA, ST⟩
              case measure => simp [intOf]
        · obtain rfl : j = 0 := by omega
          go_wp2_with fail
          refine (next_any p a n c xs K 6 _ (unhide ST).src (by omega) (by omega) (by omega)).mono ?_
          rintro e wf ⟨q2, rfl, hq20, hq21, ho, hs⟩
          obtain ⟨q2, rfl⟩ := Int.eq_ofNat_of_zero_le hq20
          replace ST := hide ((unhide ST).draw hs ho.wrote)
          clear ho hs
          go_wp2_with fail
          go_loopw [6] (fun i wr => ∃ (j : Nat) (K : Int) (ds : List DelD) (vc : Value), i = .int .i64 j ∧ ds.length + j ≤ 6 ∧ K + 20 * j ≤ 400 ∧ Hid (okChain t u ds = true) ∧ Hid (DgSt w wr p a n c xs K t u r vb vc es ds)) (fun i _ => (intOf i).toNat)
          case atStart => exact ⟨q2, K + 3, [], _, rfl, by simp; omega, by omega, hide rfl, ST⟩
          case round =>
            clear ST
            obtain ⟨j, K, ds, vc, rfl, hm, hK, CH, ST⟩ := hrel
            obtain ⟨ac, nc, cc, rfl⟩ := slice_down (unhide ST).od
            have hnc : nc ≤ 100 := by have := (drow_of_owns (unhide ST).od).1; omega
            by_cases hj : 0 < j
            · obtain ⟨j, rfl⟩ : ∃ i, j = i + 1 := ⟨j - 1, by omega⟩
              have hji : (0 : Int) < (j : Int) + 1 := by omega
              have ej : (j : Int) + 1 - 1 = (j : Int) := by omega
              have wj : IntKind.i64.wrap (j : Int) = (j : Int) := by rw [IntKind.wrap_i64]; omega
              go_wp2_with fail
              refine (deltaD_any p a n c xs K _ (unhide ST).src (by omega)).mono ?_
              rintro e wa ⟨d, rfl, hw, hs⟩
              replace ST := hide ((unhide ST).draw hs hw)
              clear hw hs
              unfold dV
              have KB := hide (heap_alloc_new wa (.cells #[.int .i64 d.kind, .string d.k, .string d.v, .int .i64 d.to] 41))
              replace ST := hide ((unhide ST).below ((Below.refl _ _).alloc (Nat.le_refl _) (.cells #[.int .i64 d.kind, .string d.k, .string d.v, .int .i64 d.to] 41)))
              go_upto_region 17 with fail
              generalize wa.alloc (.cells #[.int .i64 d.kind, .string d.k, .string d.v, .int .i64 d.to] 41) = wb at *
              generalize wa.heap.size = bo at *
              obtain ⟨⟨p0, p1, p2, p3, p4⟩, _⟩ := five_of (unhide ST).k2
              go_wp2_with fail
              clear p0 p1 p2 p3 p4
              refine (l04Bounds_any t u r vb ac nc cc ds _ (drow_of_owns (unhide ST).od) (by omega)).mono ?_
              rintro e wc ⟨rfl, hb⟩
              replace ST := hide ((unhide ST).below hb)
              replace KB := hide ((hb.block bo (heap_ltD (unhide KB))).trans (unhide KB))
              clear hb
              obtain ⟨⟨p0, p1, p2, p3, p4⟩, _⟩ := five_of (unhide ST).k2
              obtain ⟨d0, d1, d2, d3⟩ := d_cells (unhide KB)
              go_wp2_with fail
              clear p0 p1 p2 p3 p4 d0 d1 d2 d3
              refine (l04Delta_any d t (highE u ds) _).mono ?_
              rintro e wd ⟨rfl, hb⟩
              replace ST := hide ((unhide ST).below hb)
              replace KB := hide ((hb.block bo (heap_ltD (unhide KB))).trans (unhide KB))
              clear hb
              by_cases hd : okDel t (highE u ds) d = true
              · rw [hd]
                have CH2 := hide (okChain_snoc (unhide CH) hd)
                have by' : Below wd.heap.size wd (wd.alloc (.cells #[.int .i64 d.kind, .string d.k, .string d.v, .int .i64 d.to] 41)) := (Below.refl _ _).alloc (Nat.le_refl _) _
                have SY := (unhide ST).below by'
                have KD := drow_one (heap_alloc_new wd (.cells #[.int .i64 d.kind, .string d.k, .string d.v, .int .i64 d.to] 41))
                have hz := heap_ltD SY.k2
                obtain ⟨v6, w6, hr6, hO6, hg6, _⟩ := run_appD (c := 1) 24 SY.od KD (by omega) (by omega) (fun h => by cases h) (by omega)
                obtain ⟨a6, n6, c6, rfl⟩ := slice_down hO6
                have S6 := hide (SY.chain hg6 hO6)
                obtain ⟨⟨_, _, _, _, x4⟩, fz⟩ := five_of ((hg6.block (w.heap.size + 1) hz (fun e => by have := (SY.od.lt _ e.symm).1; omega)).trans SY.k2)
                have x5 := fz 4
                obtain ⟨⟨_, _, _, _, p4⟩, _⟩ := five_of (unhide ST).k2
                obtain ⟨d0, d1, d2, d3⟩ := d_cells (unhide KB)
                clear KD SY hO6 hg6 fz by' hz hd
                go_wp2_with (at_builtin; refine wpAppE rfl (.tmp 71) (.tmp 73) 24 rfl _ _ _ w6 rfl rfl hr6 ?_)
                go_roundw
                case rel => exact ⟨j, K + 12, ds ++ [d], .slice a6 n6 c6, by go_num, by simp; omega, by omega, CH2, S6⟩
                case measure => simp [intOf]
              · rw [show okDel t (highE u ds) d = false by simpa using hd]
                go_wp2_with fail
                go_roundw
                case rel => exact ⟨j, K + 12, ds, _, by go_num, by omega, by omega, CH, ST⟩
                case measure => simp [intOf]
            · obtain rfl : j = 0 := by omega
              obtain ⟨a1, n1, c1, rfl⟩ := slice_eown (unhide ST).oe
              obtain ⟨⟨p0, p1, p2, p3, p4⟩, _⟩ := five_of (unhide ST).k2
              obtain ⟨⟨e0, e1, e2, e3, e4⟩, fz⟩ := five_of (unhide ST).k1
              have f0 := fz 0
              have f1 := fz 1
              have f2 := fz 2
              have f3 := fz 3
              have f4 := fz 4
              clear fz
              have DN := hide ((unhide ST).done (.string t) (.string u) (.int .i64 r) (.slice a1 n1 c1) (.slice ac nc cc))
              have OK := hide (okPage_of (unhide BO) (unhide BA) (unhide CH) (by omega) (by omega))
              go_wp2_with fail
              refine bodyPost_ret (v := pgv t u r a1 n1 c1 ac nc cc) (by simp [results, Try.results19, go_sem, pgv, *] <;> rfl) rfl ?_
              exact ⟨t, u, r, a1, n1, c1, ac, nc, cc, es, ds, rfl, (unhide DN).1, ⟨unhide OK, by omega, by omega⟩, (unhide DN).2⟩
end Go.Proofs.Ytbboigidkimkmaa

namespace Go.Proofs.Ytbboigidkimkmaa
open Go.RowKit

theorem own_sets {X : World} {B b : Nat} {a1 : Option Addr} {n1 c1 : Nat} {a2 : Option Addr} {n2 c2 : Nat} {es : List EntD} {ds : List DelD} (h : PgOwn X B a1 n1 c1 a2 n2 c2 es ds) (hb : b < B) (v0 v1 v2 v3 v4 : Value) : PgOwn (((((X.setCell ⟨b, 0, none⟩ v0).setCell ⟨b, 1, none⟩ v1).setCell ⟨b, 2, none⟩ v2).setCell ⟨b, 3, none⟩ v3).setCell ⟨b, 4, none⟩ v4) B a1 n1 c1 a2 n2 c2 es ds := by
  have st : ∀ (X : World) (j : Nat) (v : Value), PgOwn X B a1 n1 c1 a2 n2 c2 es ds → PgOwn (X.setCell ⟨b, j, none⟩ v) B a1 n1 c1 a2 n2 c2 es ds := fun X j v h => h.wr (wr_one X _ j v) (fun i hi e => by have := (h.blk hi).1; omega)
  exact st _ 4 v4 (st _ 3 v3 (st _ 2 v2 (st _ 1 v1 (st _ 0 v0 h))))
theorem below_sets4 {w X : World} {B b : Nat} (h : Below B w X) (hb : B ≤ b) (v0 v1 v2 v3 : Value) : Below B w ((((X.setCell ⟨b, 0, none⟩ v0).setCell ⟨b, 1, none⟩ v1).setCell ⟨b, 2, none⟩ v2).setCell ⟨b, 3, none⟩ v3) :=
  (((h.setCell (p := ⟨b, 0, none⟩) hb v0).setCell (p := ⟨b, 1, none⟩) hb v1).setCell (p := ⟨b, 2, none⟩) hb v2).setCell (p := ⟨b, 3, none⟩) hb v3
theorem below_sets5 {w X : World} {B b : Nat} (h : Below B w X) (hb : B ≤ b) (v0 v1 v2 v3 v4 : Value) : Below B w (((((X.setCell ⟨b, 0, none⟩ v0).setCell ⟨b, 1, none⟩ v1).setCell ⟨b, 2, none⟩ v2).setCell ⟨b, 3, none⟩ v3).setCell ⟨b, 4, none⟩ v4) :=
  (below_sets4 h hb v0 v1 v2 v3).setCell (p := ⟨b, 4, none⟩) hb v4
set_option maxHeartbeats 1000000 in
theorem pageOf_any (a : Option Addr) (n c : Nat) (xs : List Int) (w : World) (hr : Row w a n xs) (hby : ∀ i, i < n → 0 ≤ xs.getD i 0 ∧ xs.getD i 0 ≤ 255) (hn : n ≤ 1048576) :
    Calls Try.prog 5 #[.slice a n c] w fun e w' => ∃ lo hi r a1 n1 c1 a2 n2 c2 es ds, e = .returned (pgv lo hi r a1 n1 c1 a2 n2 c2) ∧ PgOwn w' w.heap.size a1 n1 c1 a2 n2 c2 es ds ∧ (okPage lo hi r es ds = true ∧ es.length ≤ 6 ∧ ds.length ≤ 6) ∧ Below w.heap.size w w' := by
  have R := hide (row_alloc (o := .cells #[.string ⟨#[]⟩, .string ⟨#[]⟩, .int .i64 0, .slice none 0 0, .slice none 0 0] 26) hr)
  have BY := hide hby
  have b0 : Below w.heap.size w (w.alloc (.cells #[.string ⟨#[]⟩, .string ⟨#[]⟩, .int .i64 0, .slice none 0 0, .slice none 0 0] 26)) := (Below.refl _ _).alloc (Nat.le_refl _) _
  have KZ := heap_alloc_new w (.cells #[.string ⟨#[]⟩, .string ⟨#[]⟩, .int .i64 0, .slice none 0 0, .slice none 0 0] 26)
  have HZ := hide (show (w.alloc (.cells #[.string ⟨#[]⟩, .string ⟨#[]⟩, .int .i64 0, .slice none 0 0, .slice none 0 0] 26)).heap.size = w.heap.size + 1 by simp)
  clear hr hby
  go_enter Try.func5, Try.ntmps5
  go_wp2_with fail
  generalize w.alloc (.cells #[.string ⟨#[]⟩, .string ⟨#[]⟩, .int .i64 0, .slice none 0 0, .slice none 0 0] 26) = W0 at *
  refine (source_any a n c xs W0 (unhide R) (unhide BY) hn).mono ?_
  rintro e w1 ⟨rfl, hs1, hb1, hz1⟩
  go_wp2_with fail
  refine (pageD_any W0.heap.size a n c xs w1 hs1).mono ?_
  rintro e w2 ⟨lo, hi, r, a1, n1, c1, a2, n2, c2, es, ds, rfl, ho, hok, hw⟩
  have hz := unhide HZ
  have bA := b0.trans ((src_below hb1 hw).mono (by omega))
  have K2 := (hw.block w.heap.size (by omega) (by omega)).trans ((hb1.block w.heap.size (by omega)).trans KZ)
  have O := hide ((own_sets (b := w.heap.size) ho (by omega) (.string lo) (.string hi) (.int .i64 r) (.slice a1 n1 c1) (.slice a2 n2 c2)).base (show w.heap.size ≤ w1.heap.size by omega))
  have bB := hide (below_sets5 (b := w.heap.size) bA (Nat.le_refl _) (.string lo) (.string hi) (.int .i64 r) (.slice a1 n1 c1) (.slice a2 n2 c2))
  have OK := hide hok
  obtain ⟨⟨e0, e1, e2, e3, e4⟩, fz⟩ := five_of K2
  have f0 := fz 0
  have f1 := fz 1
  have f2 := fz 2
  have f3 := fz 3
  have f4 := fz 4
  clear fz hb1 hw hs1 ho hok hz1 hz bA K2 KZ HZ b0 R BY
  go_wp2_with fail
  refine bodyPost_ret (v := pgv lo hi r a1 n1 c1 a2 n2 c2) (by simp [results, Try.results5, go_sem, pgv, *] <;> rfl) rfl ?_
  exact ⟨lo, hi, r, a1, n1, c1, a2, n2, c2, es, ds, rfl, unhide O, unhide OK, unhide bB⟩
set_option maxHeartbeats 1000000 in
theorem deltaOf_any (a : Option Addr) (n c : Nat) (xs : List Int) (w : World) (hr : Row w a n xs) (hby : ∀ i, i < n → 0 ≤ xs.getD i 0 ∧ xs.getD i 0 ≤ 255) (hn : n ≤ 1048576) :
    Calls Try.prog 15 #[.slice a n c] w fun e w' => ∃ d : DelD, e = .returned (dV d) ∧ Below w.heap.size w w' := by
  have R := hide (row_alloc (o := .cells #[.int .i64 0, .string ⟨#[]⟩, .string ⟨#[]⟩, .int .i64 0] 41) hr)
  have BY := hide hby
  have b0 : Below w.heap.size w (w.alloc (.cells #[.int .i64 0, .string ⟨#[]⟩, .string ⟨#[]⟩, .int .i64 0] 41)) := (Below.refl _ _).alloc (Nat.le_refl _) _
  have KZ := heap_alloc_new w (.cells #[.int .i64 0, .string ⟨#[]⟩, .string ⟨#[]⟩, .int .i64 0] 41)
  have HZ := hide (show (w.alloc (.cells #[.int .i64 0, .string ⟨#[]⟩, .string ⟨#[]⟩, .int .i64 0] 41)).heap.size = w.heap.size + 1 by simp)
  clear hr hby
  go_enter Try.func15, Try.ntmps15
  go_wp2_with fail
  generalize w.alloc (.cells #[.int .i64 0, .string ⟨#[]⟩, .string ⟨#[]⟩, .int .i64 0] 41) = W0 at *
  refine (source_any a n c xs W0 (unhide R) (unhide BY) hn).mono ?_
  rintro e w1 ⟨rfl, hs1, hb1, hz1⟩
  go_wp2_with fail
  refine (deltaD_any W0.heap.size a n c xs 0 w1 hs1 (by omega)).mono ?_
  rintro e w2 ⟨d, rfl, hw, _⟩
  have hz := unhide HZ
  have bA := b0.trans ((src_below hb1 hw).mono (by omega))
  have K2 := (hw.block w.heap.size (by omega) (by omega)).trans ((hb1.block w.heap.size (by omega)).trans KZ)
  have bB := hide (below_sets4 (b := w.heap.size) bA (Nat.le_refl _) (.int .i64 d.kind) (.string d.k) (.string d.v) (.int .i64 d.to))
  obtain ⟨⟨e0, e1, e2, e3⟩, f0, f1, f2, f3⟩ := four_set K2
  clear hb1 hw hs1 hz1 hz bA K2 KZ HZ b0 R BY
  unfold dV
  go_wp2_with fail
  refine bodyPost_ret (v := dV d) (by simp [results, Try.results15, go_sem, dV, *] <;> rfl) rfl ?_
  exact ⟨d, rfl, unhide bB⟩
end Go.Proofs.Ytbboigidkimkmaa

namespace Go.Proofs.Ytbboigidkimkmaa
open Go.RowKit

theorem Try.entS : Try.prog.underlying 57 = some (.struct (Try.prog.fieldsOf 57)) := by kernel_rfl
theorem Try.entH : Try.prog.stoodInHeld 57 = false := by kernel_rfl
theorem Try.entG : Try.prog.eqGuardType Try.prog.depth 57 = false := by kernel_rfl
theorem Try.delS : Try.prog.underlying 41 = some (.struct (Try.prog.fieldsOf 41)) := by kernel_rfl
theorem Try.delH : Try.prog.stoodInHeld 41 = false := by kernel_rfl
theorem Try.delG : Try.prog.eqGuardType Try.prog.depth 41 = false := by kernel_rfl
set_option maxRecDepth 100000 in
theorem eqEntV (e : EntD) (w : World) : (Op.equalIn 10000 57 (.agg #[.string e.k, .string e.v]) (.agg #[.string e.k, .string e.v])).run Try.prog w = .ok true w := by
  rw [run_equalIn_struct w 9999 _ _ _ Try.entS Try.entH]
  simp [Program.fieldsOf, Try.underlying57, Op.eqFields, go_sem, Try.underlying9]
set_option maxRecDepth 100000 in
theorem eqDelV (d : DelD) (w : World) : (Op.equalIn 10000 41 (.agg #[.int .i64 d.kind, .string d.k, .string d.v, .int .i64 d.to]) (.agg #[.int .i64 d.kind, .string d.k, .string d.v, .int .i64 d.to])).run Try.prog w = .ok true w := by
  rw [run_equalIn_struct w 9999 _ _ _ Try.delS Try.delH]
  simp [Program.fieldsOf, Try.underlying41, Op.eqFields, go_sem, Try.underlying9, Try.underlying3]
set_option maxRecDepth 100000 in
set_option maxHeartbeats 2000000 in
theorem sameEntries_any (a a2 : Option Addr) (n c c2 : Nat) (es : List EntD) (w : World) (h1 : ERow w a n es) (h2 : ERow w a2 n es) (hn : n ≤ 1000) :
    Calls Try.prog 33 #[.slice a n c, .slice a2 n c2] w fun e w' => e = .returned (.bool true) ∧ Below w.heap.size w w' := by
  have R1 := hide h1
  have R2 := hide h2
  have LN := hide h1.1
  have q3 := Try.entG
  have q4 := eqEntV
  clear h1 h2
  go_enter Try.func33, Try.ntmps33
  go_wp2_with fail
  go_loopw [5] (fun i wr => ∃ k : Nat, k ≤ n ∧ i = .int .i64 k ∧ Below w.heap.size w wr) (fun i _ => n - (intOf i).toNat)
  case atStart => exact ⟨0, Nat.zero_le _, rfl, Below.refl _ _⟩
  case round =>
    obtain ⟨k, hk, rfl, hb⟩ := hrel
    by_cases hlt : k < n
    · have hl := unhide LN
      obtain ⟨b, off, rfl, c0, c1⟩ := ((unhide R1).below hb).2 k (by omega)
      obtain ⟨b', off', rfl, d0, d1⟩ := ((unhide R2).below hb).2 k (by omega)
      generalize es[k]'(by omega) = em at *
      clear hl
      go_wp2_with fail
      go_quiet (fail)
      go_wp2_with fail
      go_roundw
      case rel => exact ⟨k + 1, by omega, by go_num, bel_drewN hb _⟩
      case measure => simp [intOf]; omega
    · obtain rfl : k = n := by omega
      go_wp2_with fail
      go_ret
      exact ⟨rfl, hb⟩
theorem two_boxes (w : World) (cs ds : Array Value) (t u : TypeId) : ∃ W, W = (w.alloc (.cells cs t)).alloc (.cells ds u) ∧ Below w.heap.size w W ∧ W.heap[w.heap.size]? = some (.cells cs t (0, 0)) ∧ W.heap[w.heap.size + 1]? = some (.cells ds u (0, 0)) ∧ W.heap.size = w.heap.size + 2 := by
  refine ⟨_, rfl, ((Below.refl _ _).alloc (Nat.le_refl _) _).alloc (by simp) _, ?_, ?_, by simp⟩
  · have b2 : Below (w.heap.size + 1) (w.alloc (.cells cs t)) ((w.alloc (.cells cs t)).alloc (.cells ds u)) := (Below.refl _ _).alloc (by simp) _
    exact (b2.block w.heap.size (by omega)).trans (heap_alloc_new w _)
  · have := heap_alloc_new (w.alloc (.cells cs t)) (.cells ds u)
    simpa using this
theorem five_in {w : World} {b : Nat} {v0 v1 v2 v3 v4 : Value} {t : TypeId} (h : w.heap[b]? = some (.cells #[v0, v1, v2, v3, v4] t (0, 0))) : w.cell? ⟨b, 0, none⟩ = some v0 ∧ w.cell? ⟨b, 1, none⟩ = some v1 ∧ w.cell? ⟨b, 2, none⟩ = some v2 ∧ w.cell? ⟨b, 3, none⟩ = some v3 ∧ w.cell? ⟨b, 4, none⟩ = some v4 := by
  refine ⟨?_, ?_, ?_, ?_, ?_⟩ <;> simp [World.cell?, h]
theorem heap_lt2 {w : World} {b : Nat} {o : Obj} (h : w.heap[b]? = some o) : b < w.heap.size := (Array.getElem?_eq_some_iff.1 h).1
set_option maxRecDepth 100000 in
set_option maxHeartbeats 4000000 in
theorem samePage_any (lo hi : ByteArray) (r : Int) (a a' : Option Addr) (n c c' : Nat) (es : List EntD) (a2 a2' : Option Addr) (n2 c2 c2' : Nat) (ds : List DelD) (w : World) (h1 : ERow w a n es) (h2 : ERow w a' n es) (g1 : DRow w a2 n2 ds) (g2 : DRow w a2' n2 ds) (hn : n ≤ 1000) (hn2 : n2 ≤ 1000) :
    Calls Try.prog 14 #[pgv lo hi r a n c a2 n2 c2, pgv lo hi r a' n c' a2' n2 c2'] w fun e w' => e = .returned (.bool true) ∧ Below w.heap.size w w' := by
  obtain ⟨W0, hW0, hB0, k1, k2, hz⟩ := two_boxes w #[.string lo, .string hi, .int .i64 r, .slice a n c, .slice a2 n2 c2] #[.string lo, .string hi, .int .i64 r, .slice a' n c', .slice a2' n2 c2'] 26 26
  have R1 := hide (h1.below hB0)
  have R2 := hide (h2.below hB0)
  have D1 := hide (g1.below hB0)
  have D2 := hide (g2.below hB0)
  have LN := hide g1.1
  have q3 := Try.delG
  have q4 := eqDelV
  obtain ⟨p0, p1, p2, p3, p4⟩ := five_in k1
  obtain ⟨s0, s1, s2, s3, s4⟩ := five_in k2
  have K1 := hide k1
  have K2 := hide k2
  clear h1 h2 g1 g2 k1 k2
  go_enter Try.func14, Try.ntmps14
  go_upto_region 1 with fail
  rw [← hW0]
  clear hW0
  go_wp2_with fail
  refine (sameEntries_any a a' n c c' es W0 (unhide R1) (unhide R2) hn).mono ?_
  rintro e w1 ⟨rfl, hb1⟩
  replace D1 := hide ((unhide D1).below hb1)
  replace D2 := hide ((unhide D2).below hb1)
  replace K1 := hide ((hb1.block _ (heap_lt2 (unhide K1))).trans (unhide K1))
  replace K2 := hide ((hb1.block _ (heap_lt2 (unhide K2))).trans (unhide K2))
  have B1 := hB0.trans (hb1.mono hB0.size)
  clear p0 p1 p2 p3 p4 s0 s1 s2 s3 s4 hb1 hB0 R1 R2
  obtain ⟨p0, p1, p2, p3, p4⟩ := five_in (unhide K1)
  obtain ⟨s0, s1, s2, s3, s4⟩ := five_in (unhide K2)
  go_wp2_with fail
  clear p0 p1 p2 p3 s0 s1 s2 s3
  go_loopw [5] (fun i wr => ∃ k : Nat, k ≤ n2 ∧ i = .int .i64 k ∧ Below w1.heap.size w1 wr) (fun i _ => n2 - (intOf i).toNat)
  case atStart => exact ⟨0, Nat.zero_le _, rfl, Below.refl _ _⟩
  case round =>
    obtain ⟨k, hk, rfl, hb⟩ := hrel
    have x4 := (hb.cell (p := ⟨w.heap.size, 4, none⟩) (heap_lt2 (unhide K1))).trans p4
    have y4 := (hb.cell (p := ⟨w.heap.size + 1, 4, none⟩) (heap_lt2 (unhide K2))).trans s4
    by_cases hlt : k < n2
    · have hl := unhide LN
      obtain ⟨b, off, rfl, c0, c1, e2, e3⟩ := ((unhide D1).below hb).2 k (by omega)
      obtain ⟨b', off', rfl, d0, d1, f2, f3⟩ := ((unhide D2).below hb).2 k (by omega)
      generalize ds[k]'(by omega) = em at *
      clear hl
      go_wp2_with fail
      go_quiet (fail)
      go_wp2_with fail
      go_roundw
      case rel => exact ⟨k + 1, by omega, by go_num, bel_drewN hb _⟩
      case measure => simp [intOf]; omega
    · obtain rfl : k = n2 := by omega
      go_wp2_with fail
      go_ret
      exact ⟨rfl, B1.trans (hb.mono B1.size)⟩
end Go.Proofs.Ytbboigidkimkmaa

namespace Go.Proofs.Ytbboigidkimkmaa
open Go.RowKit

theorem row_growF {w w' : World} {a : Option Addr} {n : Nat} {xs : List Int} (h : Row w a n xs) (hb : Below w.heap.size w w') : Row w' a n xs := by
  refine ⟨h.1, fun i hi => ?_⟩
  obtain ⟨b, off, e, c⟩ := h.2 i hi
  exact ⟨b, off, e, (hb.cell (p := ⟨b, off + i, none⟩) (cell_lt c)).trans c⟩
theorem cap_eown {w : World} {B n c : Nat} {a : Option Addr} {es : List EntD} (h : EOwns w B (.slice a n c) es) : a = none → c = 0 := fun e => by
  subst e
  rcases h.2 with ⟨e, _⟩ | ⟨g, cap, cur, e, _⟩
  · injection e
  · cases e
theorem cap_down {w : World} {B n c : Nat} {a : Option Addr} {ds : List DelD} (h : DOwns w B (.slice a n c) ds) : a = none → c = 0 := fun e => by
  subst e
  rcases h.2 with ⟨e, _⟩ | ⟨g, cap, cur, e, _⟩
  · injection e
  · cases e
/-- A page at a block, with its lists. -/
structure PgAt (w : World) (b : Nat) (lo hi : ByteArray) (r : Int) (a1 : Option Addr) (n1 c1 : Nat) (a2 : Option Addr) (n2 c2 : Nat) (es : List EntD) (ds : List DelD) : Prop where
  k : w.heap[b]? = some (.cells #[.string lo, .string hi, .int .i64 r, .slice a1 n1 c1, .slice a2 n2 c2] 26 (0, 0))
  er : ERow w a1 n1 es
  dr : DRow w a2 n2 ds
  ce : a1 = none → c1 = 0
  cd : a2 = none → c2 = 0
theorem PgAt.below {w w' : World} {b : Nat} {lo hi : ByteArray} {r : Int} {a1 : Option Addr} {n1 c1 : Nat} {a2 : Option Addr} {n2 c2 : Nat} {es : List EntD} {ds : List DelD} (h : PgAt w b lo hi r a1 n1 c1 a2 n2 c2 es ds) (hb : Below w.heap.size w w') : PgAt w' b lo hi r a1 n1 c1 a2 n2 c2 es ds :=
  ⟨(hb.block b (heap_ltD h.k)).trans h.k, h.er.below hb, h.dr.below hb, h.ce, h.cd⟩
/-- A page of the call's own, laid at a new block. -/
theorem PgAt.new {w : World} {B : Nat} {lo hi : ByteArray} {r : Int} {a1 : Option Addr} {n1 c1 : Nat} {a2 : Option Addr} {n2 c2 : Nat} {es : List EntD} {ds : List DelD} (h : PgOwn w B a1 n1 c1 a2 n2 c2 es ds) : PgAt (w.alloc (.cells #[.string lo, .string hi, .int .i64 r, .slice a1 n1 c1, .slice a2 n2 c2] 26)) w.heap.size lo hi r a1 n1 c1 a2 n2 c2 es ds :=
  have b : Below w.heap.size w (w.alloc (.cells #[.string lo, .string hi, .int .i64 r, .slice a1 n1 c1, .slice a2 n2 c2] 26)) := (Below.refl _ _).alloc (Nat.le_refl _) _
  ⟨heap_alloc_new w _, (erow_of_owns h.1).below b, (drow_of_owns h.2.1).below b, cap_eown h.1, cap_down h.2.1⟩
end Go.Proofs.Ytbboigidkimkmaa

namespace Go.Proofs.Ytbboigidkimkmaa
open Go.RowKit

set_option maxRecDepth 100000 in
set_option maxHeartbeats 8000000 in
theorem fnPages_law (a1 : Option Addr) (n1 c1 : Nat) (zs1 : List Int) (a2 : Option Addr) (n2 c2 : Nat) (zs2 : List Int) (w : World) (h1 : IsRow .u8 w a1 n1 c1 zs1) (h2 : IsRow .u8 w a2 n2 c2 zs2) :
    Calls Try.prog 3 #[.slice a1 n1 c1, .slice a2 n2 c2] w fun e w' => e = .returned (.bool true) ∧ Below w.heap.size w w' := by
  obtain ⟨hr1, hm1, _⟩ := row_of_isRow h1
  obtain ⟨hr2, hm2, _⟩ := row_of_isRow h2
  have by1 := hide (bytes_of_isRow h1)
  have by2 := hide (bytes_of_isRow h2)
  clear h1 h2
  unfold maxLen at hm1 hm2
  by_cases hbig : 1048576 < n1 ∨ 1048576 < n2
  · clear hr1 hr2 by1 by2
    by_cases hb1 : 1048576 < n1
    all_goals
      go_enter Try.func3, Try.ntmps3
      go_wp2_with fail
      go_ret
      exact ⟨rfl, Below.refl _ _⟩
  have hn1 : n1 ≤ 1048576 := by omega
  have hn2 : n2 ≤ 1048576 := by omega
  clear hbig hm1 hm2
  generalize zs1.take n1 = xs1 at *
  generalize zs2.take n2 = xs2 at *
  have R1 := hide hr1
  have R2 := hide hr2
  clear hr1 hr2
  go_enter Try.func3, Try.ntmps3
  go_wp2_with fail
  refine (pageOf_any a1 n1 c1 xs1 w (unhide R1) (unhide by1) hn1).mono ?_
  rintro e w1 ⟨lo, hi, r, b1, m1, d1, b2, m2, d2, es, ds, rfl, ho, hok, hb⟩
  obtain ⟨rfl, rfl⟩ := ho.len
  have bN : Below w1.heap.size w1 (w1.alloc (.cells #[.string lo, .string hi, .int .i64 r, .slice b1 es.length d1, .slice b2 ds.length d2] 26)) := (Below.refl _ _).alloc (Nat.le_refl _) _
  have P := hide (PgAt.new (lo := lo) (hi := hi) (r := r) ho)
  have BW := hide (hb.trans (bN.mono hb.size))
  replace R2 := hide (row_growF (unhide R2) (unhide BW))
  have OK := hide hok
  clear ho hok hb bN R1 by1
  go_wp2_with fail
  generalize w1.alloc (.cells #[.string lo, .string hi, .int .i64 r, .slice b1 es.length d1, .slice b2 ds.length d2] 26) = wA at *
  generalize w1.heap.size = bp at *
  refine (keyOfD_any a2 n2 c2 xs2 _ (unhide R2) (unhide by2) hn2).mono ?_
  rintro e w2 ⟨k, rfl, _, bT⟩
  replace P := hide ((unhide P).below bT)
  replace BW := hide ((unhide BW).trans (bT.mono (unhide BW).size))
  clear bT R2 by2
  obtain ⟨H, hH⟩ : ∃ H, H = highE hi ds := ⟨_, rfl⟩
  obtain ⟨R, hR⟩ : ∃ R, R = rightE r ds := ⟨_, rfl⟩
  obtain ⟨E, hE⟩ : ∃ E, E = entsE es ds := ⟨_, rfl⟩
  obtain ⟨X, hX⟩ : ∃ X, X = pageL lo hi r es ds := ⟨_, rfl⟩
  obtain ⟨⟨t1, t2, t3⟩, hT⟩ : ∃ T, findT lo hi r es ds k = T := ⟨_, rfl⟩
  have ok := (unhide OK).1
  have qk : okPage lo H R E [] = true := by rw [hH, hR, hE]; exact conPage_ok ok
  have hQ : findT lo H R E [] k = (t1, t2, t3) := by rw [hH, hR, hE, con_find ok, hT]
  have sm := ok_small ok
  have rb := rd_back ok (by have := pageL_length sm; omega)
  have CC := hide (show ∀ (u : World), PgAt u bp lo hi r b1 es.length d1 b2 ds.length d2 es ds → Calls Try.prog 7 #[pgv lo hi r b1 es.length d1 b2 ds.length d2] u fun e w' => ∃ a c, e = .returned (.tuple #[pgv lo H R a E.length c none 0 0, .int .i64 0]) ∧ PgOwn w' u.heap.size a E.length c none 0 0 E [] ∧ Below u.heap.size u w' from fun u h => (implConsolidate_any lo hi r b1 es.length d1 es b2 ds.length d2 ds u h.er h.dr).mono fun e w' ⟨a, n, c, h1, h2, h3⟩ => by
    have e1 : conP lo hi r es ds = ⟨lo, H, R, E, []⟩ := by rw [hH, hR, hE]; unfold conP; rw [if_pos ok]
    have e2 : conC lo hi r es ds = 0 := by unfold conC; rw [if_pos ok]
    rw [e1, e2] at h1
    rw [e1] at h2
    obtain rfl : n = E.length := (erow_of_owns h2).1.symm
    exact ⟨a, c, h1, ⟨h2, World.ownsRow_nil _ _ _ _, fun i hi hj => by cases hj⟩, h3⟩)
  have CF := hide (show ∀ (u : World), PgAt u bp lo hi r b1 es.length d1 b2 ds.length d2 es ds → Calls Try.prog 8 #[pgv lo hi r b1 es.length d1 b2 ds.length d2, .string k] u fun e w' => e = .returned (.tuple #[.string t1, .int .i64 t2, .int .i64 t3]) ∧ Below u.heap.size u w' from fun u h => (implFind_any lo hi r b1 es.length d1 es b2 ds.length d2 ds k u h.er h.dr).mono fun e w' ⟨h1, h2⟩ => ⟨by rw [h1, findA_eq, hT], h2⟩)
  have CW := hide (show ∀ (u : World), PgAt u bp lo hi r b1 es.length d1 b2 ds.length d2 es ds → Calls Try.prog 9 #[pgv lo hi r b1 es.length d1 b2 ds.length d2, .string k] u fun e w' => e = .returned (.tuple #[.string t1, .int .i64 t2, .int .i64 t3]) ∧ Below u.heap.size u w' from fun u h => (specFind_any lo hi r b1 es.length d1 es b2 ds.length d2 ds k u h.er h.dr h.ce).mono fun e w' ⟨h1, h2⟩ => ⟨by rw [h1, findA_eq, hT], h2⟩)
  have CB := hide (show ∀ (u : World), PgAt u bp lo hi r b1 es.length d1 b2 ds.length d2 es ds → Calls Try.prog 10 #[pgv lo hi r b1 es.length d1 b2 ds.length d2] u fun e w' => e = .returned (.tuple #[.string H, .int .i64 R, .int .i64 0]) ∧ Below u.heap.size u w' from fun u h => (implBounds_any lo hi r b1 es.length d1 es b2 ds.length d2 ds u h.er h.dr).mono fun e w' ⟨h1, h2⟩ => ⟨by rw [h1, if_pos ok, hH, hR], h2⟩)
  have CP := hide (show ∀ (u : World), PgAt u bp lo hi r b1 es.length d1 b2 ds.length d2 es ds → Calls Try.prog 11 #[pgv lo hi r b1 es.length d1 b2 ds.length d2] u fun e w' => ∃ a n c, e = .returned (.tuple #[.slice a n c, .int .i64 0]) ∧ (Row w' a n X ∧ n ≤ c ∧ ∀ x, a = some x → x.block < w'.heap.size) ∧ Below u.heap.size u w' from fun u h => (implPageBytes_any lo hi r b1 es.length d1 es b2 ds.length d2 ds u h.er h.dr).mono fun e w' ⟨v, h1, h2, h3⟩ => by
    have e1 : pbC lo hi r es ds = 0 := by unfold pbC; rw [if_pos ok]
    have e2 : pbL lo hi r es ds = X := by unfold pbL; rw [if_pos ok, hX]
    rw [e1] at h1
    rw [e2] at h2
    obtain ⟨a, n, c, rfl, g⟩ := row_own h2
    exact ⟨a, n, c, h1, g, h3⟩)
  have CQ := hide (show ∀ (u : World) (bq : Nat) (a : Option Addr) (c : Nat), PgAt u bq lo H R a E.length c none 0 0 E [] → Calls Try.prog 8 #[pgv lo H R a E.length c none 0 0, .string k] u fun e w' => e = .returned (.tuple #[.string t1, .int .i64 t2, .int .i64 t3]) ∧ Below u.heap.size u w' from fun u bq a c h => (implFind_any lo H R a E.length c E none 0 0 [] k u h.er h.dr).mono fun e w' ⟨h1, h2⟩ => ⟨by rw [h1, findA_eq, hQ], h2⟩)
  have CR := hide (show ∀ (u : World) (bq : Nat) (a : Option Addr) (c : Nat), PgAt u bq lo H R a E.length c none 0 0 E [] → Calls Try.prog 10 #[pgv lo H R a E.length c none 0 0] u fun e w' => e = .returned (.tuple #[.string H, .int .i64 R, .int .i64 0]) ∧ Below u.heap.size u w' from fun u bq a c h => (implBounds_any lo H R a E.length c E none 0 0 [] u h.er h.dr).mono fun e w' ⟨h1, h2⟩ => ⟨by rw [h1, if_pos qk]; rfl, h2⟩)
  have CO := hide (show ∀ (u : World) (bq : Nat) (a : Option Addr) (c : Nat), PgAt u bq lo H R a E.length c none 0 0 E [] → Calls Try.prog 13 #[pgv lo H R a E.length c none 0 0] u fun e w' => e = .returned (.bool true) ∧ Below u.heap.size u w' from fun u bq a c h => (implPageOK_any lo H R a E.length c E none 0 0 [] u h.er h.dr).mono fun e w' ⟨h1, h2⟩ => ⟨by rw [h1, qk], h2⟩)
  have CD := hide (show ∀ (u : World) (a : Option Addr) (n c : Nat), (Row u a n X ∧ n ≤ c ∧ ∀ x, a = some x → x.block < u.heap.size) → Calls Try.prog 12 #[.slice a n c] u fun e w' => ∃ a1 c1 a2 c2, e = .returned (.tuple #[pgv lo hi r a1 es.length c1 a2 ds.length c2, .int .i64 0]) ∧ PgOwn w' u.heap.size a1 es.length c1 a2 ds.length c2 es ds ∧ Below u.heap.size u w' from fun u a n c h => (implReadPage_any a n c X u h.1 (by rw [hX]; exact by_page sm) h.2.1 h.2.2).mono fun e w' ⟨a1, m1, c1, a2, m2, c2, h1, h2, h3⟩ => by
    have e1 : rdP X = ⟨lo, hi, r, es, ds⟩ := by rw [hX]; exact rb.1
    have e2 : rdC X = 0 := by rw [hX]; exact rb.2
    rw [e1, e2] at h1
    rw [e1] at h2
    obtain ⟨rfl, rfl⟩ := h2.len
    exact ⟨a1, c1, a2, c2, h1, h2, h3⟩)
  have LN := hide (unhide OK).2
  clear hH hR hE hX hT ok qk hQ sm rb OK
  obtain ⟨⟨p0, p1, p2, p3, p4⟩, _⟩ := five_of (unhide P).k
  go_wp2_with fail
  clear p0 p1 p2 p3 p4
  refine (unhide CC _ (unhide P)).mono ?_
  rintro e w3 ⟨e1, f1, rfl, ho, hb⟩
  have bN : Below w3.heap.size w3 (w3.alloc (.cells #[.string lo, .string H, .int .i64 R, .slice e1 E.length f1, .slice none 0 0] 26)) := (Below.refl _ _).alloc (Nat.le_refl _) _
  have bT := hb.trans (bN.mono hb.size)
  replace P := hide ((unhide P).below bT)
  replace BW := hide ((unhide BW).trans (bT.mono (unhide BW).size))
  have Q := hide (PgAt.new (lo := lo) (hi := H) (r := R) ho)
  clear hb bN bT ho CC
  go_upto_region 6 with fail
  generalize w3.alloc (.cells #[.string lo, .string H, .int .i64 R, .slice e1 E.length f1, .slice none 0 0] 26) = wC at *
  generalize w3.heap.size = bq at *
  obtain ⟨⟨p0, p1, p2, p3, p4⟩, _⟩ := five_of (unhide P).k
  go_wp2_with fail
  clear p0 p1 p2 p3 p4
  refine (unhide CF _ (unhide P)).mono ?_
  rintro e w4 ⟨rfl, bT⟩
  replace P := hide ((unhide P).below bT)
  replace BW := hide ((unhide BW).trans (bT.mono (unhide BW).size))
  replace Q := hide ((unhide Q).below bT)
  clear bT CF
  obtain ⟨⟨p0, p1, p2, p3, p4⟩, _⟩ := five_of (unhide Q).k
  go_wp2_with fail
  clear p0 p1 p2 p3 p4
  refine (unhide CQ _ bq _ _ (unhide Q)).mono ?_
  rintro e w5 ⟨rfl, bT⟩
  replace P := hide ((unhide P).below bT)
  replace BW := hide ((unhide BW).trans (bT.mono (unhide BW).size))
  replace Q := hide ((unhide Q).below bT)
  clear bT CQ
  obtain ⟨⟨p0, p1, p2, p3, p4⟩, _⟩ := five_of (unhide P).k
  go_wp2_with fail
  clear p0 p1 p2 p3 p4
  refine (unhide CW _ (unhide P)).mono ?_
  rintro e w6 ⟨rfl, bT⟩
  replace P := hide ((unhide P).below bT)
  replace BW := hide ((unhide BW).trans (bT.mono (unhide BW).size))
  replace Q := hide ((unhide Q).below bT)
  clear bT CW
  obtain ⟨⟨p0, p1, p2, p3, p4⟩, _⟩ := five_of (unhide P).k
  go_wp2_with fail
  clear p0 p1 p2 p3 p4
  refine (unhide CB _ (unhide P)).mono ?_
  rintro e w7 ⟨rfl, bT⟩
  replace P := hide ((unhide P).below bT)
  replace BW := hide ((unhide BW).trans (bT.mono (unhide BW).size))
  replace Q := hide ((unhide Q).below bT)
  clear bT CB
  obtain ⟨⟨p0, p1, p2, p3, p4⟩, _⟩ := five_of (unhide Q).k
  go_wp2_with fail
  clear p0 p1 p2 p3 p4
  refine (unhide CR _ bq _ _ (unhide Q)).mono ?_
  rintro e w8 ⟨rfl, bT⟩
  replace P := hide ((unhide P).below bT)
  replace BW := hide ((unhide BW).trans (bT.mono (unhide BW).size))
  replace Q := hide ((unhide Q).below bT)
  clear bT CR
  obtain ⟨⟨p0, p1, p2, p3, p4⟩, _⟩ := five_of (unhide P).k
  go_wp2_with fail
  clear p0 p1 p2 p3 p4
  refine (unhide CP _ (unhide P)).mono ?_
  rintro e w9 ⟨ab, nb, cb, rfl, hx, bT⟩
  replace P := hide ((unhide P).below bT)
  replace BW := hide ((unhide BW).trans (bT.mono (unhide BW).size))
  replace Q := hide ((unhide Q).below bT)
  have XX := hide hx
  clear bT CP hx
  go_wp2_with fail
  refine (unhide CD _ ab nb cb (unhide XX)).mono ?_
  rintro e wa ⟨e2, f2, e3, f3, rfl, ho, hb⟩
  have bN : Below wa.heap.size wa (wa.alloc (.cells #[.string lo, .string hi, .int .i64 r, .slice e2 es.length f2, .slice e3 ds.length f3] 26)) := (Below.refl _ _).alloc (Nat.le_refl _) _
  have bT := hb.trans (bN.mono hb.size)
  replace P := hide ((unhide P).below bT)
  replace BW := hide ((unhide BW).trans (bT.mono (unhide BW).size))
  replace Q := hide ((unhide Q).below bT)
  have V := hide (PgAt.new (lo := lo) (hi := hi) (r := r) ho)
  clear hb bN bT ho CD XX
  go_upto_region 13 with fail
  generalize wa.alloc (.cells #[.string lo, .string hi, .int .i64 r, .slice e2 es.length f2, .slice e3 ds.length f3] 26) = wE at *
  generalize wa.heap.size = bv at *
  obtain ⟨⟨p0, p1, p2, p3, p4⟩, _⟩ := five_of (unhide Q).k
  go_wp2_with fail
  clear p0 p1 p2 p3 p4
  refine (unhide CO _ bq _ _ (unhide Q)).mono ?_
  rintro e wf ⟨rfl, bT⟩
  replace P := hide ((unhide P).below bT)
  replace BW := hide ((unhide BW).trans (bT.mono (unhide BW).size))
  replace Q := hide ((unhide Q).below bT)
  replace V := hide ((unhide V).below bT)
  clear bT CO
  obtain ⟨⟨p0, p1, p2, p3, p4⟩, _⟩ := five_of (unhide V).k
  obtain ⟨⟨q0, q1, q2, q3, q4⟩, _⟩ := five_of (unhide P).k
  go_wp2_with fail
  clear p0 p1 p2 p3 p4 q0 q1 q2 q3 q4
  refine (samePage_any lo hi r e2 b1 es.length f2 d1 es e3 b2 ds.length f3 d2 ds _ (unhide V).er (unhide P).er (unhide V).dr (unhide P).dr (by have := (unhide LN).1; omega) (by have := (unhide LN).2; omega)).mono ?_
  rintro e wg ⟨rfl, bT⟩
  replace BW := hide ((unhide BW).trans (bT.mono (unhide BW).size))
  clear bT
  go_wp2_with fail
  go_ret
  exact ⟨rfl, unhide BW⟩
end Go.Proofs.Ytbboigidkimkmaa

namespace Go.Proofs.Ytbboigidkimkmaa.fnPagesFrame
open Go.ChangeShapes Go.WideShapes Go.ChangeAt Go.RowKit
open Go.ChangeMaps (open_string shut_string)
set_option linter.unusedVariables false

theorem own : ownKnob Try.prog.godebug = none := by kernel_rfl
theorem laidOut : laidOutB Try.prog = true := by kernel_rfl

set_option maxRecDepth 100000 in
theorem lifted (os : Os) (started : os.Started) (H : Type) (enc : TypeId × Value → H) :
    ReturnsInHanded {} Try.checked os 3 .any (Rows.fnPagesSpec.pre6 enc Try.prog Try.f3 Rows.fnPagesRow.domain false) (Rows.fnPagesSpec.post enc Try.prog Try.f3 false true false false) := by
  refine returnsInHanded_of_change (C := Try.checked) own started (by kernel_rfl) Try.func3
    (ChangeSpec.witness6 (enc := enc) (C := Try.checked) false ⟨#[], #[.slice none 0 0, .slice none 0 0], []⟩ 8 (by kernel_rfl) (by kernel_rfl) (by kernel_rfl) (by kernel_rfl)) ?_
  intro W base args ds gs before hval0 hW _ _
  have hval : ∀ (j : Nat) t v, Try.f3.params[j]? = some t → args[j]? = some v → Value.okWide Try.prog W .any base t v := hval0
  have hW' := hW
  obtain ⟨p, q, hA0, hV, rfl, _, _⟩ := hW
  have hA : DataW.TrodAll enc Try.prog W 0 (fun _ => true) true Try.f3.params.toList args.toList ds p := hA0
  rw [Try.params3] at hA hval
  obtain ⟨v0, vs0, d0, ds0, p0, q0, hargs, rfl, rfl, h0, r0⟩ := trodAll_cons hA
  obtain ⟨v1, vs1, d1, ds1, p1, q1, rfl, rfl, rfl, h1, r1⟩ := trodAll_cons r0
  obtain ⟨rfl, rfl, rfl⟩ := trodAll_nil r1
  obtain rfl : args = #[v0, v1] := by cases args; simp_all
  obtain ⟨rfl, rfl⟩ := trodVars_none hV
  have k0 := h0
  have lt0 : ∀ x ∈ p0, x.block < W.heap.size := by obtain ⟨m, hm⟩ := k0; exact DataW.trod_lt m _ _ _ hm
  have k1 := h1
  have lt1 : ∀ x ∈ p1, x.block < W.heap.size := by obtain ⟨m, hm⟩ := k1; exact DataW.trod_lt m _ _ _ hm
  obtain ⟨a0, len0, cap0, rfl⟩ := okWide_slice Try.underlying22 (hval 0 22 v0 rfl rfl)
  obtain ⟨z0, w0⟩ : ∃ zs, IsRow .u8 W a0 len0 cap0 zs := by
    obtain ⟨fuel, hf⟩ := h0
    rcases open_ints Try.underlying22 Try.underlying5 (by kernel_rfl) hf with ⟨hcs, _⟩ | ⟨x, l, c, zs, hcs, _, hl, hm, hz, _, hcell, hwz⟩
    · simp [Value.cells] at hcs
      obtain ⟨rfl, rfl, rfl⟩ := hcs
      exact ⟨[], .inl ⟨rfl, rfl, rfl, rfl⟩⟩
    · simp [Value.cells] at hcs
      obtain ⟨rfl, rfl, rfl⟩ := hcs
      exact ⟨zs, .inr ⟨_, rfl, hl, hm, by simpa using hz, hcell, hwz⟩⟩
  obtain ⟨a1, len1, cap1, rfl⟩ := okWide_slice Try.underlying22 (hval 1 22 v1 rfl rfl)
  obtain ⟨z1, w1⟩ : ∃ zs, IsRow .u8 W a1 len1 cap1 zs := by
    obtain ⟨fuel, hf⟩ := h1
    rcases open_ints Try.underlying22 Try.underlying5 (by kernel_rfl) hf with ⟨hcs, _⟩ | ⟨x, l, c, zs, hcs, _, hl, hm, hz, _, hcell, hwz⟩
    · simp [Value.cells] at hcs
      obtain ⟨rfl, rfl, rfl⟩ := hcs
      exact ⟨[], .inl ⟨rfl, rfl, rfl, rfl⟩⟩
    · simp [Value.cells] at hcs
      obtain ⟨rfl, rfl, rfl⟩ := hcs
      exact ⟨zs, .inr ⟨_, rfl, hl, hm, by simpa using hz, hcell, hwz⟩⟩
  clear hA0 hval0
  refine (fnPages_law a0 len0 cap0 z0 a1 len1 cap1 z1 W w0 w1).mono fun e W' ⟨he, bel⟩ => ?_
  subst he
  exact ⟨_, rfl, _, _, _, [], _, [], hW', trodAll_mk1 (shut_bool Try.underlying4 _), (trodAll_cons_mk (Below.trod laidOut (by kernel_rfl) (of_decide_eq_true (by kernel_rfl)) k0 bel lt0) (trodAll_cons_mk (Below.trod laidOut (by kernel_rfl) (of_decide_eq_true (by kernel_rfl)) k1 bel lt1) trodAll_mk0)), rfl, bel.frame _, fun h => by cases h⟩

theorem over : Rows.fnPagesRow.holds Try.pinned (OpenSpec.ofChange Rows.fnPagesSpec) :=
  OpenClaim.holds_of_wide 3 Try.f3 rfl rfl rfl rfl rfl rfl rfl ⟨rfl, rfl, rfl, rfl, rfl⟩ rfl rfl rfl rfl rfl (by kernel_rfl) Try.func3 (by kernel_rfl)
    (of_decide_eq_true (by kernel_rfl)) (by unfold Func.isWrapper; first | (rw [if_pos (by decide +kernel)]; kernel_rfl) | (rw [if_neg (by decide +kernel)]; exact ⟨rfl, rfl⟩))
    (fun os started H enc _ => lifted os started H enc)

end Go.Proofs.Ytbboigidkimkmaa.fnPagesFrame
namespace Go.Proofs.Ytbboigidkimkmaa
/-- THE STATEMENT. -/
theorem fnPages_proved : Rows.FnPagesSaid := fnPagesFrame.over
#print axioms fnPages_proved
end Go.Proofs.Ytbboigidkimkmaa
