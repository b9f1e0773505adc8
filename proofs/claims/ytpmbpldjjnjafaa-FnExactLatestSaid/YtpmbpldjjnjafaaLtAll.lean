/-
  LtL, LtR, LtS, LtT, LtI, FlashIn, FlIn8, ImplOK, LtA, FlashRdS, FlashRdI, FlashT, FlashS, FlashE, FlashOKLaw, FlashM, FlashReadLaw, LtLaw, LtP in one.
-/
import Derived.Test.YtpmbpldjjnjafaaScL
import Derived.Test.YtpmbpldjjnjafaaImC
import Derived.Test.YtpmbpldjjnjafaaScB
import Derived.Deep.Cut
import Derived.Test.YtpmbpldjjnjafaaSfI
import Derived.Deep.LoopGhost
import Derived.Shelf.SlSortCmp.NoneTotal
import Derived.WalkMore
import Derived.Test.YtpmbpldjjnjafaaFlashD
import Derived.Deep.Slices
import Derived.Lib.SmallJoins
import Derived.OpenShut
import Derived.Test.YtpmbpldjjnjafaaImgL
import Derived.Test.YtpmbpldjjnjafaaFlashOK
import Derived.Test.YtpmbpldjjnjafaaScK
import Derived.Test.YtpmbpldjjnjafaaReadD
import Derived.Test.YtpmbpldjjnjafaaDevP
import Derived.Test.YtpmbpldjjnjafaaDevC
import Derived.Test.YtpmbpldjjnjafaaTo
import Derived.Test.YtpmbpldjjnjafaaBytes
import Derived.Deep.RegionWith
import Derived.Test.YtpmbpldjjnjafaaTail
import Derived.Test.YtpmbpldjjnjafaaHeldB
import Derived.Test.YtpmbpldjjnjafaaSiLaw
import Derived.ProofKit
import Derived.ShutString
import Derived.ChangeOld
import Derived.Below
namespace Go.Proofs.Ytpmbpldjjnjafaa
section
variable {α β : Type}

/-- x stands in a list, and none of its key behind it. -/
def LastIn (k : α → Int) (hs : List α) (x : α) : Prop := ∃ pre post, hs = pre ++ x :: post ∧ ∀ y ∈ post, k y ≠ k x
/-- R: the last of each key, rising, without those that are gone. -/
structure Lat (k : α → Int) (g : α → Bool) (hs R : List α) : Prop where
  up : R.Pairwise (fun a b => k a < k b)
  all : ∀ x, x ∈ R ↔ LastIn k hs x ∧ g x = false

theorem up_one (k : α → Int) : ∀ (l1 l2 : List α), l1.Pairwise (fun a b => k a < k b) → l2.Pairwise (fun a b => k a < k b) → (∀ x, x ∈ l1 ↔ x ∈ l2) → l1 = l2
  | [], [], _, _, _ => rfl
  | [], b :: _, _, _, h => absurd ((h b).2 (List.mem_cons_self ..)) (List.not_mem_nil)
  | a :: _, [], _, _, h => absurd ((h a).1 (List.mem_cons_self ..)) (List.not_mem_nil)
  | a :: xs, b :: ys, h1, h2, h => by
    rw [List.pairwise_cons] at h1 h2
    have e : a = b := by
      rcases List.mem_cons.1 ((h a).1 (List.mem_cons_self ..)) with e | m1
      · exact e
      · rcases List.mem_cons.1 ((h b).2 (List.mem_cons_self ..)) with e | m2
        · exact e.symm
        · exact absurd (h1.1 b m2) (Int.not_lt.2 (Int.le_of_lt (h2.1 a m1)))
    subst e
    rw [up_one k xs ys h1.2 h2.2 (fun x => ⟨fun hx => ?_, fun hx => ?_⟩)]
    · rcases List.mem_cons.1 ((h x).1 (List.mem_cons_of_mem _ hx)) with e | m
      · subst e; exact absurd (h1.1 _ hx) (Int.lt_irrefl _)
      · exact m
    · rcases List.mem_cons.1 ((h x).2 (List.mem_cons_of_mem _ hx)) with e | m
      · subst e; exact absurd (h2.1 _ hx) (Int.lt_irrefl _)
      · exact m
theorem Lat.one {k : α → Int} {g : α → Bool} {hs R1 R2 : List α} (h1 : Lat k g hs R1) (h2 : Lat k g hs R2) : R1 = R2 :=
  up_one k R1 R2 h1.up h2.up (fun x => (h1.all x).trans (h2.all x).symm)
theorem Lat.map {k : α → Int} {g : α → Bool} {k' : β → Int} {g' : β → Bool} (f : α → β) (hk : ∀ x, k' (f x) = k x) (hg : ∀ x, g' (f x) = g x) {hs R : List α} (h : Lat k g hs R) : Lat k' g' (hs.map f) (R.map f) := by
  refine ⟨List.pairwise_map.2 (h.up.imp (fun {a b} hab => by rw [hk, hk]; exact hab)), fun x => ⟨fun hx => ?_, fun ⟨⟨pre, post, e, hp⟩, hx⟩ => ?_⟩⟩
  · obtain ⟨r, hr, rfl⟩ := List.mem_map.1 hx
    obtain ⟨⟨pre, post, e, hp⟩, hr2⟩ := (h.all r).1 hr
    refine ⟨⟨pre.map f, post.map f, by rw [e]; simp, fun y hy => ?_⟩, by rw [hg]; exact hr2⟩
    obtain ⟨z, hz, rfl⟩ := List.mem_map.1 hy
    rw [hk, hk]
    exact hp z hz
  · obtain ⟨l1, l2, rfl, rfl, e2⟩ := List.map_eq_append_iff.1 e
    obtain ⟨a, l3, rfl, rfl, rfl⟩ := List.map_eq_cons_iff.1 e2
    refine List.mem_map_of_mem ((h.all a).2 ⟨⟨l1, l3, rfl, fun y hy => ?_⟩, by rw [← hg]; exact hx⟩)
    have := hp (f y) (List.mem_map_of_mem hy)
    rwa [hk, hk] at this
theorem lastIn_snoc {k : α → Int} {hs : List α} {x y : α} : LastIn k (hs ++ [x]) y ↔ y = x ∨ (LastIn k hs y ∧ k y ≠ k x) := by
  refine ⟨fun ⟨pre, post, e, hp⟩ => ?_, ?_⟩
  · rcases List.eq_nil_or_concat post with rfl | ⟨p, z, rfl⟩
    · exact .inl (by have := List.append_inj_right' e rfl; simpa using this.symm)
    · rw [List.concat_eq_append] at e hp
      have e' : hs ++ [x] = (pre ++ y :: p) ++ [z] := by rw [e]; simp
      have h1 := List.append_inj_left' e' rfl
      have h2 := List.append_inj_right' e' rfl
      simp at h2
      subst h2
      exact .inr ⟨⟨pre, p, h1, fun v hv => hp v (List.mem_append_left _ hv)⟩, fun ek => hp x (by simp) ek.symm⟩
  · rintro (rfl | ⟨⟨pre, post, rfl, hp⟩, hne⟩)
    · exact ⟨hs, [], rfl, fun _ hy => absurd hy (List.not_mem_nil)⟩
    · refine ⟨pre, post ++ [x], by simp, fun v hv => ?_⟩
      rcases List.mem_append.1 hv with hv | hv
      · exact hp v hv
      · obtain rfl := List.mem_singleton.1 hv
        exact fun ek => hne ek.symm
theorem Lat.nil (k : α → Int) (g : α → Bool) : Lat k g [] [] :=
  ⟨List.Pairwise.nil, fun _ => ⟨fun h => absurd h (List.not_mem_nil), fun ⟨⟨_, _, e, _⟩, _⟩ => absurd e (by simp)⟩⟩
/-- One more behind them: it takes the place of the one of its key. -/
theorem Lat.snoc {k : α → Int} {g : α → Bool} {hs A M C : List α} {x : α} (h : Lat k g hs (A ++ (M ++ C))) (hA : ∀ a ∈ A, k a < k x) (hM : ∀ m ∈ M, k m = k x) (hC : ∀ c ∈ C, k x < k c) :
    Lat k g (hs ++ [x]) (A ++ ((if g x then [] else [x]) ++ C)) := by
  have hp := h.up
  rw [List.pairwise_append, List.pairwise_append] at hp
  obtain ⟨pA, ⟨_, pC, _⟩, pAC⟩ := hp
  refine ⟨?_, fun y => ?_⟩
  · rw [List.pairwise_append, List.pairwise_append]
    refine ⟨pA, ⟨by split <;> simp, pC, fun a ha c hc => ?_⟩, fun a ha b hb => ?_⟩
    · split at ha
      · exact absurd ha (List.not_mem_nil)
      · obtain rfl := List.mem_singleton.1 ha
        exact hC c hc
    · rcases List.mem_append.1 hb with hb | hb
      · split at hb
        · exact absurd hb (List.not_mem_nil)
        · obtain rfl := List.mem_singleton.1 hb
          exact hA a ha
      · exact pAC a ha b (List.mem_append_right _ hb)
  · rw [lastIn_snoc]
    have hall := h.all y
    simp only [List.mem_append] at hall ⊢
    constructor
    · rintro (hy | hy | hy)
      · have := hall.1 (.inl hy)
        exact ⟨.inr ⟨this.1, Int.ne_of_lt (hA y hy)⟩, this.2⟩
      · split at hy
        · exact absurd hy (List.not_mem_nil)
        · rename_i hg
          obtain rfl := List.mem_singleton.1 hy
          exact ⟨.inl rfl, by simpa using hg⟩
      · have := hall.1 (.inr (.inr hy))
        exact ⟨.inr ⟨this.1, (Int.ne_of_lt (hC y hy)).symm⟩, this.2⟩
    · rintro ⟨rfl | ⟨hl, hne⟩, hg⟩
      · exact .inr (.inl (by simp [hg]))
      · rcases hall.2 ⟨hl, hg⟩ with hy | hy | hy
        · exact .inl hy
        · exact absurd (hM y hy) hne
        · exact .inr (.inr hy)
/-- Those that no later one of their key follows, and that are not gone, as they stand. -/
def keepL (k : α → Int) (g : α → Bool) : List α → List α
  | [] => []
  | x :: t => if (t.any fun y => decide (k y = k x)) || g x then keepL k g t else x :: keepL k g t
theorem mem_keepL {k : α → Int} {g : α → Bool} : ∀ {hs : List α} {x : α}, x ∈ keepL k g hs ↔ LastIn k hs x ∧ g x = false
  | [], x => ⟨fun h => absurd h (List.not_mem_nil), fun ⟨⟨_, _, e, _⟩, _⟩ => absurd e (by simp)⟩
  | a :: t, x => by
    have ih := @mem_keepL k g t x
    have key : LastIn k (a :: t) x ↔ (x = a ∧ ∀ y ∈ t, k y ≠ k a) ∨ LastIn k t x := by
      constructor
      · rintro ⟨pre, post, e, hp⟩
        cases pre with
        | nil =>
          simp at e
          obtain ⟨rfl, rfl⟩ := e
          exact .inl ⟨rfl, hp⟩
        | cons b pre =>
          simp at e
          exact .inr ⟨pre, post, e.2, hp⟩
      · rintro (⟨rfl, hp⟩ | ⟨pre, post, rfl, hp⟩)
        · exact ⟨[], t, rfl, hp⟩
        · exact ⟨a :: pre, post, rfl, hp⟩
    have hany : ((t.any fun y => decide (k y = k a)) = true) ↔ ¬ ∀ y ∈ t, k y ≠ k a := by simp
    rw [key]
    unfold keepL
    by_cases h1 : (t.any fun y => decide (k y = k a)) = true
    · rw [if_pos (by rw [h1]; rfl), ih]
      have := hany.1 h1
      exact ⟨fun h => ⟨.inr h.1, h.2⟩, fun ⟨h, h2⟩ => ⟨h.resolve_left (fun h => this h.2), h2⟩⟩
    · have hn := Classical.not_not.1 (fun h => h1 (hany.2 h))
      have h1' : (t.any fun y => decide (k y = k a)) = false := by simpa using h1
      rw [h1', Bool.false_or]
      by_cases h2 : g a = true
      · rw [if_pos h2, ih]
        refine ⟨fun h => ⟨.inr h.1, h.2⟩, fun ⟨h, h3⟩ => ⟨h.resolve_left (fun h => ?_), h3⟩⟩
        rw [h.1, h2] at h3
        exact absurd h3 (by simp)
      · rw [if_neg h2, List.mem_cons, ih]
        have h2' : g a = false := by simpa using h2
        constructor
        · rintro (rfl | h)
          · exact ⟨.inl ⟨rfl, hn⟩, h2'⟩
          · exact ⟨.inr h.1, h.2⟩
        · rintro ⟨⟨rfl, _⟩ | h, h3⟩
          · exact .inl rfl
          · exact .inr ⟨h, h3⟩
theorem keepL_apart {k : α → Int} {g : α → Bool} : ∀ hs : List α, (keepL k g hs).Pairwise (fun a b => k a ≠ k b)
  | [] => List.Pairwise.nil
  | a :: t => by
    unfold keepL
    split
    · exact keepL_apart t
    · rename_i h
      refine List.pairwise_cons.2 ⟨fun y hy => ?_, keepL_apart t⟩
      obtain ⟨⟨pre, post, rfl, _⟩, _⟩ := mem_keepL.1 hy
      simp at h
      exact fun e => h.1.2.1 e.symm
theorem keepL_sub {k : α → Int} {g : α → Bool} : ∀ hs : List α, (keepL k g hs).Sublist hs
  | [] => List.Sublist.refl _
  | a :: t => by
    unfold keepL
    split
    · exact (keepL_sub t).cons a
    · exact (keepL_sub t).cons_cons a
/-- A rising order of those: the latest. -/
theorem Lat.of_perm {k : α → Int} {g : α → Bool} {hs R : List α} (hp : R.Perm (keepL k g hs)) (hs' : R.Pairwise (fun a b => k a ≤ k b)) : Lat k g hs R := by
  refine ⟨?_, fun x => hp.mem_iff.trans mem_keepL⟩
  have h2 : R.Pairwise (fun a b => k a ≠ k b) := (keepL_apart hs).perm hp.symm (fun h => Ne.symm h)
  exact (hs'.and h2).imp (fun ⟨h1, h2⟩ => Int.lt_iff_le_and_ne.2 ⟨h1, h2⟩)
end
end Go.Proofs.Ytpmbpldjjnjafaa

namespace Go.Proofs.Ytpmbpldjjnjafaa
open Go.RowKit

abbrev kH (h : ImH) : Int := h.X.id
abbrev gH (h : ImH) : Bool := h.X.gone
/-- The headers' cells. -/
def hcs (R : List ImH) : List Value := gcs (R.map hr)
theorem hcs_len (R : List ImH) : (hcs R).length = R.length * 3 := by unfold hcs; rw [gcs_len, List.length_map]
/-- A row of n headers that the call owns. -/
def ROwn (w : World) (B g n cap : Nat) (R : List ImH) : Prop := R.length = n ∧ w.ownsRow B 48 3 (.slice (some ⟨g, 0, none⟩) n cap) n (hcs R)
theorem ROwn.below {w w' : World} {B g n cap : Nat} {R : List ImH} (h : ROwn w B g n cap R) (hb : Below w.heap.size w w') : ROwn w' B g n cap R := ⟨h.1, rb_ownsRow_below h.2 hb⟩
theorem ROwn.drew {w : World} {B g n cap : Nat} {R : List ImH} (h : ROwn w B g n cap R) (q : Nat) : ROwn (w.drewN q) B g n cap R := h
theorem ROwn.lt {w : World} {B g n cap : Nat} {R : List ImH} (h : ROwn w B g n cap R) : B ≤ g ∧ g < w.heap.size := h.2.lt g rfl
theorem ROwn.cap_le {w : World} {B g n cap : Nat} {R : List ImH} (h : ROwn w B g n cap R) : n ≤ cap ∧ cap ≤ maxLen := by
  rcases h.2.2 with ⟨e, _⟩ | ⟨g', cap', cur, e, _, _, h1, h2, _⟩
  · cases e
  · cases e; exact ⟨h1, h2⟩
theorem ROwn.down {w : World} {B C g n cap : Nat} {R : List ImH} (h : ROwn w B g n cap R) (hC : C ≤ B) : ROwn w C g n cap R := by
  refine ⟨h.1, h.2.1, ?_⟩
  rcases h.2.2 with ⟨e, _⟩ | ⟨g', cap', cur, e, h0, r⟩
  · cases e
  · exact .inr ⟨g', cap', cur, e, Nat.le_trans hC h0, r⟩
theorem ROwn.gowns {w : World} {B g n cap : Nat} {R : List ImH} (h : ROwn w B g n cap R) : GOwns w B (.slice (some ⟨g, 0, none⟩) n cap) (R.map hr) := by
  unfold GOwns
  rw [List.length_map, h.1]
  exact h.2
theorem ROwn.at {w : World} {B g n cap : Nat} {R : List ImH} (h : ROwn w B g n cap R) (i : Nat) (hi : i < R.length) : w.cell? ⟨g, i * 3, none⟩ = some (.int .i64 R[i].X.id) ∧ w.cell? ⟨g, i * 3 + 1, none⟩ = some (.bool R[i].X.gone) ∧ w.cell? ⟨g, i * 3 + 2, none⟩ = some (.slice (some ⟨R[i].g, 0, none⟩) R[i].X.xs.length R[i].c) := by
  have := gowns_at h.gowns i (by simpa using hi)
  simpa [hr] using this
theorem hcs_take (R : List ImH) (k : Nat) : (hcs R).take (k * 3) = hcs (R.take k) := by
  by_cases h : k ≤ R.length
  · have e : hcs R = hcs (R.take k) ++ hcs (R.drop k) := by unfold hcs; rw [← gcs_append, ← List.map_append, List.take_append_drop]
    have hl : (hcs (R.take k)).length = k * 3 := by rw [hcs_len, List.length_take]; omega
    rw [e, ← hl, List.take_left]
  · rw [List.take_of_length_le (by rw [hcs_len]; omega), List.take_of_length_le (by omega)]
theorem hcs_drop (R : List ImH) (k : Nat) (h : k ≤ R.length) : (hcs R).drop (k * 3) = hcs (R.drop k) := by
  have e : hcs R = hcs (R.take k) ++ hcs (R.drop k) := by unfold hcs; rw [← gcs_append, ← List.map_append, List.take_append_drop]
  have hl : (hcs (R.take k)).length = k * 3 := by rw [hcs_len, List.length_take]; omega
  rw [e, ← hl, List.drop_left]
theorem ROwn.take {w : World} {B g n cap : Nat} {R : List ImH} (h : ROwn w B g n cap R) (k : Nat) (hk : k ≤ n) : ROwn w B g k cap (R.take k) := by
  have hl := h.1
  refine ⟨by rw [List.length_take]; omega, by rw [hcs_len, List.length_take]; omega, ?_⟩
  rcases h.2.2 with ⟨e, _⟩ | ⟨g', cap', cur, e, h0, h1, h2, h3, h4, h5⟩
  · cases e
  · cases e
    refine .inr ⟨g, cap, cur, rfl, h0, h1, by omega, h3, h4, ?_⟩
    rw [← hcs_take, ← h5, List.take_take, Nat.min_eq_left (by omega)]
/-- The headers from a place on, as a slice expression gives them. -/
theorem ROwn.src {w : World} {B g n cap : Nat} {R : List ImH} (h : ROwn w B g n cap R) (k : Nat) (hk : k ≤ n) : ∃ A : Addr, (if cap = k then some (⟨g, 0, none⟩ : Addr) else some ⟨g, k * 3, none⟩) = some A ∧ A.block = g ∧ Hid (∀ t u, (hcs (R.drop k))[t]? = some u → w.cell? (A.add t) = some u) := by
  have hc := h.cap_le
  have hl := h.1
  by_cases e : cap = k
  · refine ⟨⟨g, 0, none⟩, by simp [e], rfl, fun t u hu => ?_⟩
    rw [List.drop_of_length_le (by omega)] at hu
    simp [hcs, gcs] at hu
  · refine ⟨⟨g, k * 3, none⟩, by simp [e], rfl, fun t u hu => ?_⟩
    rw [Addr.add_lit, ← hcs_drop R k (by omega), List.getElem?_drop] at *
    have hlt := (List.getElem?_eq_some_iff.1 hu).1
    rw [hcs_len] at hlt
    rw [h.2.cellAt _ (by omega), hu]
theorem ROwn.src0 {w : World} {B g n cap : Nat} {R : List ImH} (h : ROwn w B g n cap R) : ∀ t u, (hcs R)[t]? = some u → w.cell? ((⟨g, 0, none⟩ : Addr).add t) = some u := h.2.cells rfl
theorem ROwn.kept {w w' : World} {B g n cap r : Nat} {R : List ImH} (h : ROwn w B g n cap R) (hg : w.grownBy w' (some r)) (hne : r ≠ g) : ROwn w' B g n cap R := ⟨h.1, h.2.kept hg (by simp [Value.ownBlock]; omega)⟩
/-- Headers appended. -/
theorem ROwn.app {w : World} {B g n cap : Nat} {R : List ImH} (h : ROwn w B g n cap R) (A : Addr) (m c : Nat) (C : List ImH) (hm : C.length = m) (hsrc : ∀ t u, (hcs C)[t]? = some u → w.cell? (A.add t) = some u) (hz : n + m ≤ 1000000) (hB : B ≤ w.heap.size) :
    ∃ g' cap' w', (Builtin.append_ #[23, 23] 23 #[.slice (some ⟨g, 0, none⟩) n cap, .slice (some A) m c]).run Try.prog w = .ok (.slice (some ⟨g', 0, none⟩) (n + m) cap') w' ∧ ROwn w' B g' (n + m) cap' (R ++ C) ∧ w.grownBy w' (some g) ∧ (g' = g ∨ g' = w.heap.size) := by
  obtain ⟨i0, hi0, hz0, hz1, hz2⟩ := info_parts infoIm
  obtain ⟨v', w', hrun, ho', hg, hn, hloc⟩ := app_at (P := Try.prog) (w := w) (B := B) 23 23 48 Try.underlying23 hi0 hz0 hz1 hz2 rfl (by decide) h.2 A m c (hcs C) (by rw [hcs_len, hm]) hsrc (gcs_one _) (by unfold maxLen; omega) (by omega) hB (fun e => by cases e)
  rcases ho'.2 with ⟨e, _⟩ | ⟨g', cap', cur, rfl, h0⟩
  · exact absurd e hn
  · have ho2 : ROwn w' B g' (n + m) cap' (R ++ C) := ⟨by rw [List.length_append, h.1, hm], by unfold hcs at ho' ⊢; rw [List.map_append, gcs_append]; exact ho'⟩
    refine ⟨g', cap', w', hrun, ho2, hg, ?_⟩
    rcases hloc with e | e
    · exact .inl (by simpa [Value.ownBlock] using e)
    · exact .inr (by simpa [Value.ownBlock] using e)
/-- One header as a literal lays it. -/
theorem one_src (w : World) (x : ImH) (o : Array Value) (ho : o = #[.int .i64 x.X.id, .bool x.X.gone, .slice (some ⟨x.g, 0, none⟩) x.X.xs.length x.c]) : ∀ t u, (hcs [x])[t]? = some u → (w.alloc (.cells o 48)).cell? ((⟨w.heap.size, 0, none⟩ : Addr).add t) = some u := fun t u hu => by
  have hj : t < 3 := by simpa [hcs, gcs] using (List.getElem?_eq_some_iff.1 hu).1
  rw [Addr.add_lit, Nat.zero_add, ho]
  refine rb_cell_new rfl ?_
  match t, hj with
  | 0, _ => simpa [hcs, gcs, hr] using hu
  | 1, _ => simpa [hcs, gcs, hr] using hu
  | 2, _ => simpa [hcs, gcs, hr] using hu
/-- The cells of headers stay where their block does. -/
theorem src_kept {w w' : World} {A : Addr} {C : List ImH} (h : ∀ t u, (hcs C)[t]? = some u → w.cell? (A.add t) = some u) (hk : w'.heap[A.block]? = w.heap[A.block]?) : ∀ t u, (hcs C)[t]? = some u → w'.cell? (A.add t) = some u := fun t u hu => by
  refine (World.cell?_of_block ?_).trans (h t u hu)
  have : (A.add t).block = A.block := by unfold Addr.add; split <;> rfl
  rw [this]
  exact hk

/-- The place of a key. -/
def posH (k : Int) : List ImH → Nat
  | [] => 0
  | y :: t => if y.X.id < k then posH k t + 1 else 0
theorem posH_le (k : Int) : ∀ R : List ImH, posH k R ≤ R.length
  | [] => Nat.le_refl _
  | y :: t => by
    unfold posH
    split
    · exact Nat.succ_le_succ (posH_le k t)
    · exact Nat.zero_le _
theorem posH_lt (k : Int) : ∀ (R : List ImH) (i : Nat) (hi : i < R.length), i < posH k R → R[i].X.id < k
  | [], _, hi, _ => absurd hi (Nat.not_lt_zero _)
  | y :: t, i, hi, h => by
    unfold posH at h
    split at h
    · cases i with
      | zero => assumption
      | succ i => exact posH_lt k t i (by simpa using hi) (by omega)
    · omega
theorem posH_at (k : Int) : ∀ (R : List ImH) (hi : posH k R < R.length), ¬ R[posH k R].X.id < k
  | [], hi => absurd hi (Nat.not_lt_zero _)
  | y :: t, hi => by
    by_cases h : y.X.id < k
    · have e : posH k (y :: t) = posH k t + 1 := by rw [posH, if_pos h]
      simp only [e, List.getElem_cons_succ]
      exact posH_at k t (by rw [e] at hi; simpa using hi)
    · have e : posH k (y :: t) = 0 := by rw [posH, if_neg h]
      simp only [e, List.getElem_cons_zero]
      exact h
theorem lat_take {k : Int} {R : List ImH} {p : Nat} (hp : p = posH k R) : ∀ a ∈ R.take p, kH a < k := fun a ha => by
  obtain ⟨i, hi, rfl⟩ := List.getElem_of_mem ha
  rw [List.length_take] at hi
  rw [List.getElem_take]
  exact posH_lt k R i (by omega) (by omega)
theorem lat_eq {hs R : List ImH} {i p : Nat} (hi : i < hs.length) (h : Lat kH gH (hs.take i) R) (hp : p = posH hs[i].X.id R) (hl : p < R.length) (he : R[p].X.id = hs[i].X.id) :
    Lat kH gH (hs.take (i + 1)) (R.take p ++ ((if hs[i].X.gone then [] else [hs[i]]) ++ R.drop (p + 1))) := by
  have e : R = R.take p ++ ([R[p]] ++ R.drop (p + 1)) := by
    rw [List.singleton_append, ← List.drop_eq_getElem_cons hl, List.take_append_drop]
  have h' := h
  rw [e] at h'
  rw [List.take_succ_eq_append_getElem hi]
  refine Lat.snoc h' (lat_take hp) (fun m hm => by obtain rfl := List.mem_singleton.1 hm; exact he) (fun c hc => ?_)
  have hu := h'.up
  rw [List.pairwise_append, List.pairwise_append] at hu
  have := hu.2.1.2.2 R[p] (by simp) c hc
  show hs[i].X.id < c.X.id
  rw [← he]
  exact this
theorem lat_ne {hs R : List ImH} {i p : Nat} (hi : i < hs.length) (h : Lat kH gH (hs.take i) R) (hp : p = posH hs[i].X.id R) (hne : ∀ hl : p < R.length, R[p].X.id ≠ hs[i].X.id) :
    Lat kH gH (hs.take (i + 1)) (R.take p ++ ((if hs[i].X.gone then [] else [hs[i]]) ++ R.drop p)) := by
  have h' := h
  rw [show R = R.take p ++ ([] ++ R.drop p) by simp] at h'
  rw [List.take_succ_eq_append_getElem hi]
  refine Lat.snoc h' (lat_take hp) (fun m hm => absurd hm (List.not_mem_nil)) (fun c hc => ?_)
  by_cases hl : p < R.length
  · have h1 : ¬ R[p].X.id < hs[i].X.id := by
      have := posH_at hs[i].X.id R (by rw [← hp]; exact hl)
      simp only [← hp] at this
      exact this
    have h2 := hne hl
    rw [List.drop_eq_getElem_cons hl] at hc
    rcases List.mem_cons.1 hc with rfl | hc
    · show hs[i].X.id < R[p].X.id
      omega
    · have hu := h.up
      rw [show R = R.take p ++ (R[p] :: R.drop (p + 1)) by rw [← List.drop_eq_getElem_cons hl, List.take_append_drop], List.pairwise_append, List.pairwise_cons] at hu
      have h3 : R[p].X.id < c.X.id := hu.2.1.1 c hc
      show hs[i].X.id < c.X.id
      omega
  · rw [List.drop_of_length_le (by omega)] at hc
    exact absurd hc (List.not_mem_nil)
end Go.Proofs.Ytpmbpldjjnjafaa

namespace Go.Proofs.Ytpmbpldjjnjafaa
open Go.RowKit

/-- What l03Latest hands back. -/
def LtRes (hs : List ImH) (w : World) (e : Ending) (w' : World) : Prop := ∃ g n cap R, e = .returned (.slice (some ⟨g, 0, none⟩) n cap) ∧ ROwn w' w.heap.size g n cap R ∧ Lat kH gH hs R ∧ Below w.heap.size w w' ∧ R.length ≤ hs.length
theorem lts_cells {w : World} {a : Option Addr} {n : Nat} {hs : List ImH} (hR : GRow w a n (hs.map hr)) (i : Nat) (hi : i < hs.length) : ∃ b off, a = some ⟨b, off, none⟩ ∧ b < w.heap.size ∧ w.cell? ⟨b, off + i * 3, none⟩ = some (.int .i64 hs[i].X.id) ∧ w.cell? ⟨b, off + i * 3 + 1, none⟩ = some (.bool hs[i].X.gone) ∧ w.cell? ⟨b, off + i * 3 + 2, none⟩ = some (.slice (some ⟨hs[i].g, 0, none⟩) hs[i].X.xs.length hs[i].c) := by
  obtain ⟨b, off, e, c0, c1, c2⟩ := hR.2 i (by simpa using hi)
  exact ⟨b, off, e, cell_lt c0, by simpa [hr] using c0, by simpa [hr] using c1, by simpa [hr] using c2⟩
set_option maxRecDepth 100000 in
set_option maxHeartbeats 8000000 in
theorem l03Latest_any (a : Option Addr) (n c : Nat) (hs : List ImH) (w : World) (hR : GRow w a n (hs.map hr)) (hn : n ≤ 100000) :
    Calls Try.prog 27 #[.slice a n c] w fun e w' => LtRes hs w e w' := by
  have LN := hide (show hs.length = n by simpa using hR.1)
  have RW := hide (fun u (hu : Below w.heap.size w u) => lts_cells (GRow.below hR hu))
  have H0 := hide (show ROwn (w.alloc (.cells #[] 48)) w.heap.size w.heap.size 0 0 [] from ⟨rfl, World.ownsRow_lit _ _ _ (Nat.le_refl _) (by unfold maxLen; simp) rfl⟩)
  have B0 := hide (show Below w.heap.size w (w.alloc (.cells #[] 48)) from (Below.refl _ _).alloc (Nat.le_refl _) _)
  clear hR
  go_enter Try.func27, Try.ntmps27
  go_wp2_with fail
  go_loopw [3, 4] (fun o ii wr => ∃ (i g m cap : Nat) (R : List ImH), o = .slice (some ⟨g, 0, none⟩) m cap ∧ ii = .int .i64 (i : Int) ∧ i ≤ n ∧ m ≤ i ∧ Hid (Lat kH gH (hs.take i) R) ∧ Hid (ROwn wr w.heap.size g m cap R) ∧ Hid (Below w.heap.size w wr)) (fun _ ii _ => n - (intOf ii).toNat)
  case atStart => exact ⟨0, w.heap.size, 0, 0, [], rfl, rfl, Nat.zero_le _, Nat.le_refl _, Lat.nil _ _, unhide H0, unhide B0⟩
  case round =>
    clear H0 B0
    obtain ⟨i, g, m, cap, R, rfl, rfl, hi, hm, hL, hO, hB⟩ := hrel
    by_cases hin : i < n
    · have hih : i < hs.length := by rw [unhide LN]; exact hin
      obtain ⟨b, off, ha, hbl, -, -, -⟩ := unhide RW wr (unhide hB) i hih
      have RX := hide (fun u (hu : Below w.heap.size w u) => show u.cell? ⟨b, off + i * 3, none⟩ = some (.int .i64 hs[i].X.id) ∧ u.cell? ⟨b, off + i * 3 + 1, none⟩ = some (.bool hs[i].X.gone) ∧ u.cell? ⟨b, off + i * 3 + 2, none⟩ = some (.slice (some ⟨hs[i].g, 0, none⟩) hs[i].X.xs.length hs[i].c) by
        obtain ⟨b', off', ha', _, h0, h1, h2⟩ := unhide RW u hu i hih
        rw [ha] at ha'
        injection ha' with ha'
        injection ha' with e1 e2
        subst e1 e2
        exact ⟨h0, h1, h2⟩)
      clear RW
      subst ha
      go_wp2_with fail
      go_loopw [5] (fun kk wq => ∃ (k : Nat), kk = .int .i64 (k : Int) ∧ k ≤ posH hs[i].X.id R ∧ Hid (ROwn wq w.heap.size g m cap R) ∧ Hid (Below w.heap.size w wq)) (fun kk _ => m - (intOf kk).toNat)
      case atStart => exact ⟨0, rfl, Nat.zero_le _, unhide hO, unhide hB⟩
      case round =>
        clear hO hB
        obtain ⟨k, rfl, hk, hQ, hQB⟩ := hrel
        have hmR := (unhide hQ).1
        have PL := posH_le hs[i].X.id R
        obtain ⟨x0, x1, x2⟩ := unhide RX _ (unhide hQB)
        by_cases hkp : k < posH hs[i].X.id R
        · have hkR : k < R.length := by omega
          have hkm : k < m := by omega
          have hlt := posH_lt hs[i].X.id R k hkR hkp
          obtain ⟨y0, -, -⟩ := (unhide hQ).at k hkR
          have hkp' := hide hkp
          clear hkp x1 x2 hmR PL
          generalize R[k].X.id = yv at *
          generalize hxv : hs[i].X.id = xv at *
          go_wp2_with fail
          go_quiet (fail)
          go_wp2_with fail
          go_roundw
          case rel => exact ⟨k + 1, by go_num, by have := unhide hkp'; omega, (unhide hQ).drew _, bel_drewN (unhide hQB) _⟩
          case measure => simp [intOf]; omega
        · obtain rfl : k = posH hs[i].X.id R := by omega
          have hnl := posH_at hs[i].X.id R
          have hpe : posH hs[i].X.id R = posH hs[i].X.id R := rfl
          generalize hp : posH hs[i].X.id R = p at hnl hpe hk hkp PL ⊢
          clear hpe
          by_cases hpm : p < m
          · have hpR : p < R.length := by omega
            have hnl := hnl hpR
            obtain ⟨y0, -, -⟩ := (unhide hQ).at p hpR
            have YV := hide (rfl : R[p].X.id = R[p].X.id)
            go_wp2_with fail
            go_quiet (fail)
            have OQ := hide ((unhide hQ).drew nq)
            have BQ := hide (bel_drewN (unhide hQB) nq)
            clear hQ hQB x0 x1 x2
            generalize wr.drewN nq = wq at *
            have hzq : w.heap.size ≤ wq.heap.size := (unhide BQ).size
            have hgq := (unhide OQ).lt
            have hcq := (unhide OQ).cap_le
            obtain ⟨A, hA, hAb, hsrc⟩ := (unhide OQ).src p (by omega)
            have DL := hide (show (R.drop p).length = m - p by rw [List.length_drop]; omega)
            have OL : ROwn (wq.alloc (.cells #[] 48)) wq.heap.size wq.heap.size 0 0 [] := ⟨rfl, World.ownsRow_lit _ _ _ (Nat.le_refl _) (by unfold maxLen; simp) rfl⟩
            obtain ⟨g6, cap6, w6, hrun6, O6, G6, L6⟩ := OL.app A (m - p) (cap - p) (R.drop p) (unhide DL) (src_kept (unhide hsrc) (Below.heap_alloc _ _ _ (by omega))) (by omega) (by simp)
            rw [Nat.zero_add] at hrun6 O6
            rw [List.nil_append] at O6
            have B6 := hide (((unhide BQ).alloc hzq (.cells #[] 48)).grown G6 (by simp; omega) (fun k hk => by injection hk with hk; omega))
            have OQ6 := hide (((unhide OQ).below ((Below.refl _ _).alloc (Nat.le_refl _) (.cells #[] 48))).kept G6 (by omega))
            have O6H := hide O6
            have hg6 := O6.lt
            have hgg : g ≠ g6 := by omega
            have hc6 := O6.cap_le
            obtain ⟨x0, x1, x2⟩ := unhide RX w6 (unhide B6)
            clear G6 L6 O6 OL OQ BQ hsrc
            go_upto_region 9 with (at_builtin; refine sc_wpApp rfl (.tmp 33) (.tmp 36) 23 rfl _ _ _ w6 rfl rfl hrun6 ?_)
            clear hA hrun6
            have y0 : w6.cell? ⟨g6, 0, none⟩ = some (.int .i64 R[p].X.id) := by
              have := ((unhide O6H).at 0 (by rw [unhide DL]; omega)).1
              simpa using this
            have hmp : 0 < m - p := by omega
            by_cases heq : R[p].X.id = hs[i].X.id
            · go_wp2_with fail
              go_quiet (fail)
              have O9 := hide ((unhide OQ6).drew nq)
              have O69 := hide ((unhide O6H).drew nq)
              have B9 := hide (bel_drewN (unhide B6) nq)
              have x0 : (w6.drewN nq).cell? ⟨b, off + i * 3, none⟩ = some (.int .i64 hs[i].X.id) := x0
              have x1 : (w6.drewN nq).cell? ⟨b, off + i * 3 + 1, none⟩ = some (.bool hs[i].X.gone) := x1
              have x2 : (w6.drewN nq).cell? ⟨b, off + i * 3 + 2, none⟩ = some (.slice (some ⟨hs[i].g, 0, none⟩) hs[i].X.xs.length hs[i].c) := x2
              have hg6 := (unhide O69).lt
              clear OQ6 O6H B6
              generalize w6.drewN nq = w9 at *
              obtain ⟨A1, hA1, hAb1, hsrc1⟩ := (unhide O69).src 1 (by omega)
              have S9 := hide (show ∀ t u, (hcs (R.drop (p + 1)))[t]? = some u → w9.cell? (A1.add t) = some u by have := unhide hsrc1; rwa [List.drop_drop] at this)
              clear hsrc1
              have O11 := (unhide O9).take p (by omega)
              have LT := hide (lat_eq hih (unhide hL) hp.symm hpR heq)
              have CL := hide (show (R.drop (p + 1)).length = (m - p - 1) by rw [List.length_drop]; omega)
              have hz9 : w.heap.size ≤ w9.heap.size := (unhide B9).size
              have hg9 := (unhide O9).lt
              cases hgone : hs[i].X.gone with
              | true =>
                have LT2 := hide (show Lat kH gH (hs.take (i + 1)) (R.take p ++ R.drop (p + 1)) by have := unhide LT; rw [hgone] at this; simpa using this)
                obtain ⟨g7, cap7, w7, hrun7, O7, G7, -⟩ := O11.app A1 (m - p - 1) (cap6 - 1) (R.drop (p + 1)) (unhide CL) (unhide S9) (by omega) hz9
                have B7 := hide ((unhide B9).grown G7 hz9 (fun k hk => by injection hk with hk; omega))
                have O7H := hide O7
                rw [hgone] at x1
                clear O7 G7 O11 O9 S9 B9 LT CL x0 x2
                go_wp2_with (at_builtin; refine sc_wpApp rfl (.tmp 71) (.tmp 72) 23 rfl _ _ _ w7 rfl rfl hrun7 ?_)
                go_roundw
                case rel => exact ⟨i + 1, g7, p + (m - p - 1), cap7, _, rfl, by go_num, by omega, by omega, unhide LT2, unhide O7H, unhide B7⟩
                case measure => simp [intOf]; omega
              | false =>
                have LT2 := hide (show Lat kH gH (hs.take (i + 1)) ((R.take p ++ [hs[i]]) ++ R.drop (p + 1)) by have := unhide LT; rw [hgone] at this; simpa using this)
                have hone := one_src w9 hs[i] #[.int .i64 hs[i].X.id, .bool hs[i].X.gone, .slice (some ⟨hs[i].g, 0, none⟩) hs[i].X.xs.length hs[i].c] rfl
                obtain ⟨g7, cap7, w7, hrun7, O7, G7, L7⟩ := (O11.below ((Below.refl _ _).alloc (Nat.le_refl _) (.cells #[.int .i64 hs[i].X.id, .bool hs[i].X.gone, .slice (some ⟨hs[i].g, 0, none⟩) hs[i].X.xs.length hs[i].c] 48))).app ⟨w9.heap.size, 0, none⟩ 1 1 [hs[i]] rfl hone (by omega) (by simp; omega)
                have B7 := ((unhide B9).alloc hz9 (.cells #[.int .i64 hs[i].X.id, .bool hs[i].X.gone, .slice (some ⟨hs[i].g, 0, none⟩) hs[i].X.xs.length hs[i].c] 48)).grown G7 (by simp; omega) (fun k hk => by injection hk with hk; omega)
                have S7 := src_kept (unhide S9) (w' := w7) ((G7.block _ (by simp; omega) (fun e => by injection e with e; omega)).trans (Below.heap_alloc _ _ _ (by omega)))
                have hz7 : w.heap.size ≤ w7.heap.size := B7.size
                obtain ⟨g8, cap8, w8, hrun8, O8, G8, -⟩ := O7.app A1 (m - p - 1) (cap6 - 1) (R.drop (p + 1)) (unhide CL) S7 (by omega) hz7
                have B8 := hide (B7.grown G8 hz7 (fun k hk => by injection hk with hk; have := O7.lt; omega))
                have O8H := hide O8
                rw [hgone] at x1 hrun7
                clear O8 G8 O7 G7 L7 B7 S7 O11 O9 S9 B9 LT CL hone
                go_wp2_with (at_builtin; first | refine sc_wpApp rfl (.tmp 64) (.tmp 69) 23 rfl _ _ _ w7 rfl rfl hrun7 ?_ | refine sc_wpApp rfl (.tmp 71) (.tmp 72) 23 rfl _ _ _ w8 rfl rfl hrun8 ?_)
                go_roundw
                case rel => exact ⟨i + 1, g8, p + 1 + (m - p - 1), cap8, _, rfl, by go_num, by omega, by omega, unhide LT2, unhide O8H, unhide B8⟩
                case measure => simp [intOf]; omega
            · go_wp2_with fail
              go_quiet (fail)
              have O9 := hide ((unhide OQ6).drew nq)
              have O69 := hide ((unhide O6H).drew nq)
              have B9 := hide (bel_drewN (unhide B6) nq)
              have x0 : (w6.drewN nq).cell? ⟨b, off + i * 3, none⟩ = some (.int .i64 hs[i].X.id) := x0
              have x1 : (w6.drewN nq).cell? ⟨b, off + i * 3 + 1, none⟩ = some (.bool hs[i].X.gone) := x1
              have x2 : (w6.drewN nq).cell? ⟨b, off + i * 3 + 2, none⟩ = some (.slice (some ⟨hs[i].g, 0, none⟩) hs[i].X.xs.length hs[i].c) := x2
              have hg6 := (unhide O69).lt
              clear OQ6 O6H B6
              generalize w6.drewN nq = w9 at *
              have S9 := hide (unhide O69).src0
              have hAb1 : (⟨g6, 0, none⟩ : Addr).block = g6 := rfl
              have O11 := (unhide O9).take p (by omega)
              have LT := hide (lat_ne hih (unhide hL) hp.symm (fun _ => heq))
              have CL := hide (show (R.drop p).length = (m - p) by rw [List.length_drop]; omega)
              have hz9 : w.heap.size ≤ w9.heap.size := (unhide B9).size
              have hg9 := (unhide O9).lt
              cases hgone : hs[i].X.gone with
              | true =>
                have LT2 := hide (show Lat kH gH (hs.take (i + 1)) (R.take p ++ R.drop p) by have := unhide LT; rw [hgone] at this; simpa using this)
                obtain ⟨g7, cap7, w7, hrun7, O7, G7, -⟩ := O11.app ⟨g6, 0, none⟩ (m - p) cap6 (R.drop p) (unhide CL) (unhide S9) (by omega) hz9
                have B7 := hide ((unhide B9).grown G7 hz9 (fun k hk => by injection hk with hk; omega))
                have O7H := hide O7
                rw [hgone] at x1
                clear O7 G7 O11 O9 S9 B9 LT CL x0 x2
                go_wp2_with (at_builtin; refine sc_wpApp rfl (.tmp 71) (.tmp 72) 23 rfl _ _ _ w7 rfl rfl hrun7 ?_)
                go_roundw
                case rel => exact ⟨i + 1, g7, p + (m - p), cap7, _, rfl, by go_num, by omega, by omega, unhide LT2, unhide O7H, unhide B7⟩
                case measure => simp [intOf]; omega
              | false =>
                have LT2 := hide (show Lat kH gH (hs.take (i + 1)) ((R.take p ++ [hs[i]]) ++ R.drop p) by have := unhide LT; rw [hgone] at this; simpa using this)
                have hone := one_src w9 hs[i] #[.int .i64 hs[i].X.id, .bool hs[i].X.gone, .slice (some ⟨hs[i].g, 0, none⟩) hs[i].X.xs.length hs[i].c] rfl
                obtain ⟨g7, cap7, w7, hrun7, O7, G7, L7⟩ := (O11.below ((Below.refl _ _).alloc (Nat.le_refl _) (.cells #[.int .i64 hs[i].X.id, .bool hs[i].X.gone, .slice (some ⟨hs[i].g, 0, none⟩) hs[i].X.xs.length hs[i].c] 48))).app ⟨w9.heap.size, 0, none⟩ 1 1 [hs[i]] rfl hone (by omega) (by simp; omega)
                have B7 := ((unhide B9).alloc hz9 (.cells #[.int .i64 hs[i].X.id, .bool hs[i].X.gone, .slice (some ⟨hs[i].g, 0, none⟩) hs[i].X.xs.length hs[i].c] 48)).grown G7 (by simp; omega) (fun k hk => by injection hk with hk; omega)
                have S7 := src_kept (unhide S9) (w' := w7) ((G7.block _ (by simp; omega) (fun e => by injection e with e; omega)).trans (Below.heap_alloc _ _ _ (by omega)))
                have hz7 : w.heap.size ≤ w7.heap.size := B7.size
                obtain ⟨g8, cap8, w8, hrun8, O8, G8, -⟩ := O7.app ⟨g6, 0, none⟩ (m - p) cap6 (R.drop p) (unhide CL) S7 (by omega) hz7
                have B8 := hide (B7.grown G8 hz7 (fun k hk => by injection hk with hk; have := O7.lt; omega))
                have O8H := hide O8
                rw [hgone] at x1 hrun7
                clear O8 G8 O7 G7 L7 B7 S7 O11 O9 S9 B9 LT CL hone
                go_wp2_with (at_builtin; first | refine sc_wpApp rfl (.tmp 64) (.tmp 69) 23 rfl _ _ _ w7 rfl rfl hrun7 ?_ | refine sc_wpApp rfl (.tmp 71) (.tmp 72) 23 rfl _ _ _ w8 rfl rfl hrun8 ?_)
                go_roundw
                case rel => exact ⟨i + 1, g8, p + 1 + (m - p), cap8, _, rfl, by go_num, by omega, by omega, unhide LT2, unhide O8H, unhide B8⟩
                case measure => simp [intOf]; omega
          · obtain rfl : p = m := by omega
            go_wp2_with fail
            go_quiet (fail)
            have OQ := hide ((unhide hQ).drew nq)
            have BQ := hide (bel_drewN (unhide hQB) nq)
            clear hQ hQB x0 x1 x2
            generalize wr.drewN nq = wq at *
            have hzq : w.heap.size ≤ wq.heap.size := (unhide BQ).size
            have hgq := (unhide OQ).lt
            have hcq := (unhide OQ).cap_le
            obtain ⟨A, hA, hAb, hsrc⟩ := (unhide OQ).src p (by omega)
            have DL := hide (show (R.drop p).length = 0 by rw [List.length_drop]; omega)
            have OL : ROwn (wq.alloc (.cells #[] 48)) wq.heap.size wq.heap.size 0 0 [] := ⟨rfl, World.ownsRow_lit _ _ _ (Nat.le_refl _) (by unfold maxLen; simp) rfl⟩
            obtain ⟨g6, cap6, w6, hrun6, O6, G6, L6⟩ := OL.app A 0 (cap - p) (R.drop p) (unhide DL) (src_kept (unhide hsrc) (Below.heap_alloc _ _ _ (by omega))) (by omega) (by simp)
            rw [Nat.zero_add] at hrun6 O6
            rw [List.nil_append] at O6
            have B6 := hide (((unhide BQ).alloc hzq (.cells #[] 48)).grown G6 (by simp; omega) (fun k hk => by injection hk with hk; omega))
            have OQ6 := hide (((unhide OQ).below ((Below.refl _ _).alloc (Nat.le_refl _) (.cells #[] 48))).kept G6 (by omega))
            have O6H := hide O6
            have hg6 := O6.lt
            have hgg : g ≠ g6 := by omega
            have hc6 := O6.cap_le
            obtain ⟨x0, x1, x2⟩ := unhide RX w6 (unhide B6)
            clear G6 L6 O6 OL OQ BQ hsrc
            go_upto_region 9 with (at_builtin; refine sc_wpApp rfl (.tmp 33) (.tmp 36) 23 rfl _ _ _ w6 rfl rfl hrun6 ?_)
            clear hA hrun6
            go_wp2_with fail
            go_quiet (fail)
            have O9 := hide ((unhide OQ6).drew nq)
            have O69 := hide ((unhide O6H).drew nq)
            have B9 := hide (bel_drewN (unhide B6) nq)
            have x0 : (w6.drewN nq).cell? ⟨b, off + i * 3, none⟩ = some (.int .i64 hs[i].X.id) := x0
            have x1 : (w6.drewN nq).cell? ⟨b, off + i * 3 + 1, none⟩ = some (.bool hs[i].X.gone) := x1
            have x2 : (w6.drewN nq).cell? ⟨b, off + i * 3 + 2, none⟩ = some (.slice (some ⟨hs[i].g, 0, none⟩) hs[i].X.xs.length hs[i].c) := x2
            have hg6 := (unhide O69).lt
            clear OQ6 O6H B6
            generalize w6.drewN nq = w9 at *
            have S9 := hide (unhide O69).src0
            have hAb1 : (⟨g6, 0, none⟩ : Addr).block = g6 := rfl
            have O11 := (unhide O9).take p (by omega)
            have LT := hide (lat_ne hih (unhide hL) hp.symm (fun hl => by omega))
            have CL := hide (show (R.drop p).length = 0 by rw [List.length_drop]; omega)
            have hz9 : w.heap.size ≤ w9.heap.size := (unhide B9).size
            have hg9 := (unhide O9).lt
            cases hgone : hs[i].X.gone with
            | true =>
              have LT2 := hide (show Lat kH gH (hs.take (i + 1)) (R.take p ++ R.drop p) by have := unhide LT; rw [hgone] at this; simpa using this)
              obtain ⟨g7, cap7, w7, hrun7, O7, G7, -⟩ := O11.app ⟨g6, 0, none⟩ 0 cap6 (R.drop p) (unhide CL) (unhide S9) (by omega) hz9
              have B7 := hide ((unhide B9).grown G7 hz9 (fun k hk => by injection hk with hk; omega))
              have O7H := hide O7
              rw [hgone] at x1
              clear O7 G7 O11 O9 S9 B9 LT CL x0 x2
              go_wp2_with (at_builtin; refine sc_wpApp rfl (.tmp 71) (.tmp 72) 23 rfl _ _ _ w7 rfl rfl hrun7 ?_)
              go_roundw
              case rel => exact ⟨i + 1, g7, p + 0, cap7, _, rfl, by go_num, by omega, by omega, unhide LT2, unhide O7H, unhide B7⟩
              case measure => simp [intOf]; omega
            | false =>
              have LT2 := hide (show Lat kH gH (hs.take (i + 1)) ((R.take p ++ [hs[i]]) ++ R.drop p) by have := unhide LT; rw [hgone] at this; simpa using this)
              have hone := one_src w9 hs[i] #[.int .i64 hs[i].X.id, .bool hs[i].X.gone, .slice (some ⟨hs[i].g, 0, none⟩) hs[i].X.xs.length hs[i].c] rfl
              obtain ⟨g7, cap7, w7, hrun7, O7, G7, L7⟩ := (O11.below ((Below.refl _ _).alloc (Nat.le_refl _) (.cells #[.int .i64 hs[i].X.id, .bool hs[i].X.gone, .slice (some ⟨hs[i].g, 0, none⟩) hs[i].X.xs.length hs[i].c] 48))).app ⟨w9.heap.size, 0, none⟩ 1 1 [hs[i]] rfl hone (by omega) (by simp; omega)
              have B7 := ((unhide B9).alloc hz9 (.cells #[.int .i64 hs[i].X.id, .bool hs[i].X.gone, .slice (some ⟨hs[i].g, 0, none⟩) hs[i].X.xs.length hs[i].c] 48)).grown G7 (by simp; omega) (fun k hk => by injection hk with hk; omega)
              have S7 := src_kept (unhide S9) (w' := w7) ((G7.block _ (by simp; omega) (fun e => by injection e with e; omega)).trans (Below.heap_alloc _ _ _ (by omega)))
              have hz7 : w.heap.size ≤ w7.heap.size := B7.size
              obtain ⟨g8, cap8, w8, hrun8, O8, G8, -⟩ := O7.app ⟨g6, 0, none⟩ 0 cap6 (R.drop p) (unhide CL) S7 (by omega) hz7
              have B8 := hide (B7.grown G8 hz7 (fun k hk => by injection hk with hk; have := O7.lt; omega))
              have O8H := hide O8
              rw [hgone] at x1 hrun7
              clear O8 G8 O7 G7 L7 B7 S7 O11 O9 S9 B9 LT CL hone
              go_wp2_with (at_builtin; first | refine sc_wpApp rfl (.tmp 64) (.tmp 69) 23 rfl _ _ _ w7 rfl rfl hrun7 ?_ | refine sc_wpApp rfl (.tmp 71) (.tmp 72) 23 rfl _ _ _ w8 rfl rfl hrun8 ?_)
              go_roundw
              case rel => exact ⟨i + 1, g8, p + 1 + 0, cap8, _, rfl, by go_num, by omega, by omega, unhide LT2, unhide O8H, unhide B8⟩
              case measure => simp [intOf]; omega
    · have e : i = n := by omega
      have HS := hide (show hs.take i = hs by rw [List.take_of_length_le (by rw [unhide LN]; omega)])
      go_wp2_with fail
      go_ret
      exact ⟨g, m, cap, R, rfl, unhide hO, (by have := unhide hL; rwa [unhide HS] at this), unhide hB, by have := (unhide hO).1; have := unhide LN; omega⟩
end Go.Proofs.Ytpmbpldjjnjafaa

namespace Go.Proofs.Ytpmbpldjjnjafaa
open Go.RowKit Go.Sort

/-- Two Ids compared. -/
def ltC (x y : Int) : Int := if x < y then -1 else if y < x then 1 else 0
set_option maxHeartbeats 400000 in
theorem lt_isNaN_any (x : Int) (w : World) : Calls Try.prog 58 #[.int .i64 x] w fun e w' => e = .returned (.bool false) ∧ w' = w := by
  go_enter Try.func58, Try.ntmps58
  go_wp2_with fail
  all_goals go_ret
  all_goals exact ⟨by first | rfl | exact ret_bool (by simp), rfl⟩
set_option maxHeartbeats 400000 in
theorem lt_cmpInt_any (x y : Int) (w : World) : Calls Try.prog 49 #[.int .i64 x, .int .i64 y] w fun e w' => e = .returned (.int .i64 (ltC x y)) ∧ w' = w := by
  rcases (show x < y ∨ x = y ∨ y < x from by omega) with h | h | h
  · have H := hide (show ltC x y = -1 by simp [ltC, h])
    go_enter Try.func49, Try.ntmps49
    go_wp2_with (go_at_call 58; refine (lt_isNaN_any _ _).mono ?_; rintro e w' ⟨rfl, rfl⟩)
    all_goals go_ret
    all_goals exact ⟨ret_int (unhide H).symm, rfl⟩
  · subst h
    have H := hide (show ltC x x = 0 by simp [ltC])
    go_enter Try.func49, Try.ntmps49
    go_wp2_with (go_at_call 58; refine (lt_isNaN_any _ _).mono ?_; rintro e w' ⟨rfl, rfl⟩)
    all_goals go_ret
    all_goals exact ⟨ret_int (unhide H).symm, rfl⟩
  · have H := hide (show ltC x y = 1 by simp [ltC, h]; omega)
    go_enter Try.func49, Try.ntmps49
    go_wp2_with (go_at_call 58; refine (lt_isNaN_any _ _).mono ?_; rintro e w' ⟨rfl, rfl⟩)
    all_goals go_ret
    all_goals exact ⟨ret_int (unhide H).symm, rfl⟩
instance : Inhabited ImH := ⟨⟨⟨0, false, []⟩, 0, 0⟩⟩
/-- A header's three cells. -/
def encH (x : ImH) : List Value := [.int .i64 x.X.id, .bool x.X.gone, .slice (some ⟨x.g, 0, none⟩) x.X.xs.length x.c]
def cfH (x y : ImH) : Int := ltC x.X.id y.X.id
theorem ltH (x y : ImH) : ltOf cfH x y = decide (x.X.id < y.X.id) := by
  unfold ltOf cfH ltC
  by_cases h1 : x.X.id < y.X.id
  · simp [h1]
  · by_cases h2 : y.X.id < x.X.id <;> simp [h1, h2]
theorem swoH : SWO (ltOf cfH) where
  irrefl x := by rw [ltH]; simp
  trans x y z h1 h2 := by rw [ltH] at *; simp at *; omega
  ntrans x y z h1 h2 := by rw [ltH] at *; simp at *; omega
set_option maxHeartbeats 1000000 in
theorem lt_closure_any (x y : ImH) (W : World) : Calls Try.prog 48 #[.agg #[.int .i64 x.X.id, .bool x.X.gone, .slice (some ⟨x.g, 0, none⟩) x.X.xs.length x.c], .agg #[.int .i64 y.X.id, .bool y.X.gone, .slice (some ⟨y.g, 0, none⟩) y.X.xs.length y.c]] W fun e w' => e = .returned (.int .i64 (cfH x y)) ∧ ∃ q os', w' = grow (W.drewN q) os' := by
  have hcon := fun W' => lt_cmpInt_any x.X.id y.X.id W'
  unfold cfH
  generalize ltC x.X.id y.X.id = r at hcon ⊢
  go_enter Try.func48, Try.ntmps48
  go_wp2_with (go_at_call 49; refine (hcon _).mono ?_; rintro e w' ⟨rfl, rfl⟩)
  go_ret
  exact ⟨rfl, 0, _, by rw [alloc_eq_grow, alloc_eq_grow, grow_grow]; rfl⟩
theorem lt_cmpLays (blk off size : Nat) (w : World) : CmpLays Try.prog 48 #[] encH 3 cfH blk off size w :=
  fun _ _ _ _ x y => lt_closure_any x y _
theorem flat_hcs (d : Array ImH) : (flatK encH 3 d).toList = hcs d.toList := by
  refine List.ext_getElem (by simp [hcs_len]) (fun t h1 h2 => ?_)
  have ht : t < d.size * 3 := by simpa using h1
  have hi : t / 3 < d.size := by omega
  have e1 : (flatK encH 3 d).toList[t] = (encH d[t / 3]!)[t % 3]! := by
    rw [Array.getElem_toList, ← getElem!_pos (flatK encH 3 d) t (by simpa using ht)]
    exact get_flatK _ _ _ _ ht
  have h3 := gcs_at (d.toList.map hr) (t / 3) (by simpa using hi)
  have e2 : (hcs d.toList)[t]? = some (hcs d.toList)[t] := List.getElem?_eq_getElem h2
  rw [getElem!_pos d _ hi] at e1
  have hx : (d.toList.map hr)[t / 3]'(by simpa using hi) = hr d[t / 3] := by simp
  rw [hx] at h3
  rw [e1]
  refine Option.some.inj ?_
  rw [← e2]
  unfold hcs
  rcases (show t % 3 = 0 ∨ t % 3 = 1 ∨ t % 3 = 2 by omega) with h | h | h
  · have e := h3.1
    rw [show t / 3 * 3 = t by omega] at e
    rw [h, e]
    rfl
  · have e := h3.2.1
    rw [show t / 3 * 3 + 1 = t by omega] at e
    rw [h, e]
    rfl
  · have e := h3.2.2
    rw [show t / 3 * 3 + 2 = t by omega] at e
    rw [h, e]
    rfl
theorem ROwn.holds {w : World} {B g n cap : Nat} {R : List ImH} (h : ROwn w B g n cap R) : HoldsK encH 3 w g 0 R.toArray := by
  intro j hj
  have hl := h.1
  have hj' : j < R.length * 3 := by simpa using hj
  rw [Nat.zero_add]
  refine ⟨?_, gowns_fz h.gowns j⟩
  rw [h.2.cellAt j (by omega), show hcs R = hcs R.toArray.toList from rfl, ← flat_hcs, getElem!_pos _ j hj, Array.getElem?_toList, Array.getElem?_eq_getElem hj]
  rfl
/-- The row behind the sort. -/
theorem ROwn.sorted {w : World} {B g n cap q : Nat} {R : List ImH} (h : ROwn w B g n cap R) (d : Array ImH) (hd : d.size = n) (os : Array Obj) :
    ROwn (sortWorldK encH 3 w g 0 q d os) B g n cap d.toList ∧ Below g w (sortWorldK encH 3 w g 0 q d os) ∧ ∀ k, k < w.heap.size → k ≠ g → (sortWorldK encH 3 w g 0 q d os).heap[k]? = w.heap[k]? := by
  have hg := h.lt
  have blk : ∀ k, k < w.heap.size → k ≠ g → (sortWorldK encH 3 w g 0 q d os).heap[k]? = w.heap[k]? := fun k hk hne => by
    unfold sortWorldK
    rw [heap_grow_old _ _ (by unfold putRowK; simpa using hk)]
    unfold putRowK putRow mapBlock
    simp only [Array.getElem?_modify, heap_ahead]
    rw [if_neg (Ne.symm hne)]
  have hsz : w.heap.size ≤ (sortWorldK encH 3 w g 0 q d os).heap.size := by
    unfold sortWorldK putRowK
    simp
  refine ⟨⟨by simpa using hd, by rw [hcs_len]; simp [hd], ?_⟩, ⟨rfl, rfl, rfl, hsz, fun k hk => blk k (by omega) (by omega)⟩, blk⟩
  rcases h.2.2 with ⟨e, _⟩ | ⟨g', cap', cur, e, h0, h1, h2, h3, h4, h5⟩
  · cases e
  · cases e
    refine .inr ⟨g, cap, putCells id 0 (flatK encH 3 d) cur, rfl, h0, ?_, h2, h3, ?_, ?_⟩
    · unfold sortWorldK
      rw [heap_grow_old _ _ (by unfold putRowK; simpa using hg.2)]
      unfold putRowK putRow mapBlock
      simp only [Array.getElem?_modify, heap_ahead, if_true, h1, Option.map_some, onCells]
    · unfold putCells
      simpa using h4
    · rw [← flat_hcs]
      refine List.ext_getElem (by unfold putCells; simp [h4, hd]; omega) (fun t t1 t2 => ?_)
      have ht : t < d.size * 3 := by simpa using t2
      rw [List.getElem_take]
      unfold putCells
      simp [ht]
/-- Sorted: the headers rise by Id. -/
theorem sorted_up {d d' : Array ImH} (hp : PermIn 0 d.size d d') (hs : SortedIn (ltOf cfH) 0 d.size d') : d'.size = d.size ∧ d'.toList.Perm d.toList ∧ d'.toList.Pairwise (fun a b => kH a ≤ kH b) := by
  have hsz := hp.1
  refine ⟨hsz, ?_, ?_⟩
  · have h := hp.2.2
    have e1 : d'.extract 0 d.size = d' := by rw [← hsz]; simp
    have e2 : d.extract 0 d.size = d := by simp
    rw [e1, e2] at h
    exact h
  · rw [List.pairwise_iff_getElem]
    intro i j hi hj hij
    have hj' : j < d'.size := by simpa using hj
    have hi' : i < d'.size := by simpa using hi
    have h := hs i j (Nat.zero_le _) hij (by omega)
    rw [getElem!_pos d' j hj', getElem!_pos d' i hi', ltH] at h
    simp at h
    simpa using h
end Go.Proofs.Ytpmbpldjjnjafaa

namespace Go.Proofs.Ytpmbpldjjnjafaa
open Go.RowKit Go.Sort

/-- What lastOfEach hands back. -/
def LeRes (hs : List ImH) (w : World) (e : Ending) (w' : World) : Prop := ∃ v R, e = .returned v ∧ GOwns w' w.heap.size v (R.map hr) ∧ Lat kH gH hs R ∧ Below w.heap.size w w' ∧ R.length ≤ hs.length
/-- The images behind one, as a slice expression gives them. -/
theorem le_later {w : World} {b off n c : Nat} {hs : List ImH} (hR : GRow w (some ⟨b, off, none⟩) n (hs.map hr)) (hc : n ≤ c) (i : Nat) : ∃ b2 off2, (if c = i + 1 then some (⟨b, off, none⟩ : Addr) else some ⟨b, off + (i + 1) * 3, none⟩) = some ⟨b2, off2, none⟩ ∧ Hid (∀ u, Below w.heap.size w u → ∀ k (hk : i + 1 + k < hs.length), u.cell? ⟨b2, off2 + k * 3, none⟩ = some (.int .i64 hs[i + 1 + k].X.id) ∧ u.cell? ⟨b2, off2 + k * 3 + 1, none⟩ = some (.bool hs[i + 1 + k].X.gone) ∧ u.cell? ⟨b2, off2 + k * 3 + 2, none⟩ = some (.slice (some ⟨hs[i + 1 + k].g, 0, none⟩) hs[i + 1 + k].X.xs.length hs[i + 1 + k].c)) := by
  have hl : hs.length = n := by simpa using hR.1
  by_cases e : c = i + 1
  · exact ⟨b, off, by simp [e], fun u _ k hk => absurd hk (by omega)⟩
  · refine ⟨b, off + (i + 1) * 3, by simp [e], fun u hu k hk => ?_⟩
    obtain ⟨b', off', ha, _, h0, h1, h2⟩ := lts_cells (GRow.below hR hu) (i + 1 + k) hk
    injection ha with ha
    injection ha with e1 e2
    subst e1 e2
    rw [show off + (i + 1) * 3 + k * 3 = off + (i + 1 + k) * 3 by omega]
    exact ⟨h0, h1, h2⟩
theorem keep_skip {hs : List ImH} {i : Nat} (hi : i < hs.length) {k : Nat} (hk : i + 1 + k < hs.length) (he : hs[i + 1 + k].X.id = hs[i].X.id) : keepL kH gH (hs.drop i) = keepL kH gH (hs.drop (i + 1)) := by
  rw [List.drop_eq_getElem_cons hi, keepL, if_pos]
  rw [Bool.or_eq_true]
  refine .inl (List.any_eq_true.2 ⟨hs[i + 1 + k], ?_, by simpa using he⟩)
  rw [List.mem_iff_getElem]
  exact ⟨k, by rw [List.length_drop]; omega, by rw [List.getElem_drop]⟩
theorem keep_gone {hs : List ImH} {i : Nat} (hi : i < hs.length) (hg : hs[i].X.gone = true) : keepL kH gH (hs.drop i) = keepL kH gH (hs.drop (i + 1)) := by
  rw [List.drop_eq_getElem_cons hi, keepL, if_pos]
  rw [Bool.or_eq_true]
  exact .inr hg
theorem keep_here {hs : List ImH} {i : Nat} (hi : i < hs.length) (hg : hs[i].X.gone = false) (hne : ∀ k (hk : i + 1 + k < hs.length), hs[i + 1 + k].X.id ≠ hs[i].X.id) : keepL kH gH (hs.drop i) = hs[i] :: keepL kH gH (hs.drop (i + 1)) := by
  rw [List.drop_eq_getElem_cons hi, keepL, if_neg]
  rw [Bool.or_eq_true]
  rintro (h | h)
  · obtain ⟨x, hx, he⟩ := List.any_eq_true.1 h
    obtain ⟨k, hk, rfl⟩ := List.mem_iff_getElem.1 hx
    rw [List.getElem_drop] at he
    exact hne k (by rw [List.length_drop] at hk; omega) (by simpa using he)
  · exact absurd (hg.symm.trans h) (by simp)
/-- A header appended to a row that may be nil. -/
theorem ga_app {w : World} {B : Nat} {v : Value} {K : List ImH} (h : GOwns w B v (K.map hr)) (x : ImH) (hz : K.length ≤ 200000) (hB : B ≤ w.heap.size) :
    ∃ v' w', (Builtin.append_ #[23, 23] 23 #[v, .slice (some ⟨w.heap.size, 0, none⟩) 1 1]).run Try.prog (w.alloc (.cells #[.int .i64 x.X.id, .bool x.X.gone, .slice (some ⟨x.g, 0, none⟩) x.X.xs.length x.c] 48)) = .ok v' w' ∧ GOwns w' B v' ((K ++ [x]).map hr) ∧ (w.alloc (.cells #[.int .i64 x.X.id, .bool x.X.gone, .slice (some ⟨x.g, 0, none⟩) x.X.xs.length x.c] 48)).grownBy w' v.ownBlock := by
  obtain ⟨i0, hi0, hz0, hz1, hz2⟩ := info_parts infoIm
  have hl : (K.map hr).length ≤ 200000 := by simpa using hz
  obtain ⟨v', w', hrun, ho', hg, -, -⟩ := app_at (P := Try.prog) (w := w.alloc (.cells #[.int .i64 x.X.id, .bool x.X.gone, .slice (some ⟨x.g, 0, none⟩) x.X.xs.length x.c] 48)) (B := B) 23 23 48 Try.underlying23 hi0 hz0 hz1 hz2 rfl (by decide) (World.ownsRow.alloc h _) ⟨w.heap.size, 0, none⟩ 1 1 (hcs [x]) rfl (one_src w x _ rfl) (gcs_one _) (by unfold maxLen; omega) (by omega) (by simp; omega) (fun _ => Nat.one_pos)
  refine ⟨v', w', hrun, ?_, hg⟩
  unfold GOwns
  rw [List.map_append, List.length_append, gcs_append]
  exact ho'
theorem sort_none (cb : Array Value) (w : World) : Calls Try.prog 47 #[.slice none 0 0, .func (.func 48) #[] cb] w fun e w' => e = .returned (.tuple #[]) ∧ w' = w := AnyF.slices_SortFunc_none sortImg none 0 _ w
theorem sort_some {w : World} {B g n cap : Nat} {R : List ImH} (h : ROwn w B g n cap R) (hn : n ≤ 1000000) : Calls Try.prog 47 #[.slice (some ⟨g, 0, none⟩) n cap, .func (.func 48) #[] #[]] w fun e w' => e = .returned (.tuple #[]) ∧ ∃ d nn os, PermIn 0 R.toArray.size R.toArray d ∧ SortedIn (ltOf cfH) 0 R.toArray.size d ∧ w' = sortWorldK encH 3 w g 0 nn d os := by
  have eg : ∀ args w, (callFunc 48 args).run Try.prog w = .ok (.enter 48 args) w := enters_of Try.func48 (by kernel_rfl) rfl
  have hcon := AnyQ.slices_SortFunc sortImg 3 Try.isAgg48 Try.sizeOf48 encH (fun _ => rfl) (fun x v hv => by simp [encH] at hv; rcases hv with rfl | rfl | rfl <;> rfl) cfH swoH 48 #[] g 0 cap R.toArray w eg (lt_cmpLays g 0 R.toArray.size w) h.holds h.lt.2 (by have := h.1; simp; omega)
  change Calls Try.prog 47 _ _ _ at hcon
  obtain rfl := h.1
  simpa using hcon
set_option maxRecDepth 100000 in
set_option maxHeartbeats 8000000 in
theorem lastOfEach_any (a : Option Addr) (n c : Nat) (hs : List ImH) (w : World) (hR : GRow w a n (hs.map hr)) (hn : n ≤ 100000) (hc : n ≤ c) :
    Calls Try.prog 32 #[.slice a n c] w fun e w' => LeRes hs w e w' := by
  have LN := hide (show hs.length = n by simpa using hR.1)
  have RW := hide hR
  clear hR
  go_enter Try.func32, Try.ntmps32
  go_wp2_with fail
  go_step3
  go_wp2_with fail
  go_step3
  go_wp2_with fail
  go_loopg [3, 10] n (fun gq v ii wr => ∃ (i : Nat) (K : List ImH), i + gq = n ∧ ii = .int .i64 (i : Int) ∧ K.length ≤ i ∧ Hid (K ++ keepL kH gH (hs.drop i) = keepL kH gH hs) ∧ Hid (GOwns wr w.heap.size v (K.map hr)) ∧ Hid (Below w.heap.size w wr))
  case atStart => exact ⟨0, [], by omega, rfl, Nat.le_refl _, by simp [Hid], World.ownsRow_nil _ _ _ _, Below.refl _ _⟩
  case round =>
    obtain ⟨i, K, hig, rfl, hK, hL, hO, hB⟩ := hrel
    cases gk with
    | zero =>
      have hinz : ¬ ((i : Int) < (n : Int)) := by omega
      have E : K = keepL kH gH hs := by
        have := unhide hL
        rw [List.drop_of_length_le (by rw [unhide LN]; omega)] at this
        simpa [keepL] using this
      rcases (unhide hO).2 with ⟨rfl, h0⟩ | ⟨g, cap, cur, rfl, hr0⟩
      · have E0 : K = [] := by simpa using h0
        have hcon := fun W => sort_none #[] W
        have Z := hide (show LeRes hs w (.returned (.slice none 0 0)) wr from ⟨_, [], rfl, World.ownsRow_nil _ _ _ _, Lat.of_perm (by rw [← E, E0]) List.Pairwise.nil, unhide hB, Nat.zero_le _⟩)
        clear hL hO hB E E0 h0 RW
        go_wp2_with (go_at_call 47; refine (hcon _).mono ?_; rintro e w' ⟨rfl, rfl⟩)
        try rw [Exit.noGoto_ret]
        go_ret
        exact unhide Z
      · have hKl : (K.map hr).length = K.length := List.length_map ..
        have RO : ROwn wr w.heap.size g K.length cap K := ⟨rfl, by have := unhide hO; unfold GOwns at this; rw [hKl] at this; exact this⟩
        have hcon := sort_some RO (by omega)
        rw [hKl]
        have Z := hide (show ∀ d : Array ImH, ∀ nn os, PermIn 0 K.toArray.size K.toArray d → SortedIn (ltOf cfH) 0 K.toArray.size d → LeRes hs w (.returned (.slice (some ⟨g, 0, none⟩) K.length cap)) (sortWorldK encH 3 wr g 0 nn d os) from fun d nn os hp hso => by
          obtain ⟨h1, h2, h3⟩ := sorted_up hp hso
          obtain ⟨r1, r2, r3⟩ := RO.sorted (q := nn) d (by simpa using h1) os
          refine ⟨_, d.toList, rfl, r1.gowns, Lat.of_perm (by rw [← E]; simpa using h2) h3, (unhide hB).trans (r2.mono RO.lt.1), by have e1 := h2.length_eq; rw [E] at e1; have e2 := (keepL_sub (k := kH) (g := gH) hs).length_le; simp only [List.length_map] at *; omega⟩)
        clear hL hO hB E RW RO hKl hr0
        go_wp2_with (go_at_call 47; refine hcon.mono ?_; rintro e w' ⟨rfl, d, nn, os, hp, hso, rfl⟩)
        try rw [Exit.noGoto_ret]
        go_ret
        exact unhide Z d nn os hp hso
    | succ gq =>
      have hin : i < n := by omega
      have hih : i < hs.length := by rw [unhide LN]; exact hin
      obtain ⟨b, off, ha, hbl, x0, x1, x2⟩ := lts_cells (GRow.below (unhide RW) (unhide hB)) i hih
      subst ha
      obtain ⟨b2, off2, hA, LR⟩ := le_later (unhide RW) hc i
      have wr1 : IntKind.i64.wrap ((i : Int) + 1) = ((i + 1 : Nat) : Int) := by rw [IntKind.wrap_i64]; omega
      have hc1 : i + 1 ≤ c := by omega
      have hn1 : i + 1 ≤ n := by omega
      go_wp2_with fail
      have B1 := hide ((unhide hB).alloc (unhide hB).size (.cells #[.int .i64 hs[i].X.id, .bool hs[i].X.gone, .slice (some ⟨hs[i].g, 0, none⟩) hs[i].X.xs.length hs[i].c] 48))
      have O1 := hide (World.ownsRow.alloc (unhide hO) (.cells #[.int .i64 hs[i].X.id, .bool hs[i].X.gone, .slice (some ⟨hs[i].g, 0, none⟩) hs[i].X.xs.length hs[i].c] 48))
      have KX := hide (heap_alloc_new wr (.cells #[.int .i64 hs[i].X.id, .bool hs[i].X.gone, .slice (some ⟨hs[i].g, 0, none⟩) hs[i].X.xs.length hs[i].c] 48))
      clear hO hB x0 x1 x2 hA
      generalize wr.alloc (.cells #[.int .i64 hs[i].X.id, .bool hs[i].X.gone, .slice (some ⟨hs[i].g, 0, none⟩) hs[i].X.xs.length hs[i].c] 48) = W1 at *
      generalize wr.heap.size = bx at *
      have hbx : bx < W1.heap.size := (Array.getElem?_eq_some_iff.1 (unhide KX)).1
      go_loopg [20] (n - (i + 1)) (fun g2 s wq => ∃ (k : Nat), k + g2 = n - (i + 1) ∧ s = .int .i64 (k : Int) ∧ Hid (∀ j (hj : i + 1 + j < hs.length), j < k → hs[i + 1 + j].X.id ≠ hs[i].X.id) ∧ Hid (Below W1.heap.size W1 wq))
      case atStart => exact ⟨0, by omega, rfl, fun j _ hj => absurd hj (Nat.not_lt_zero _), Below.refl _ _⟩
      case round =>
        obtain ⟨k, hkg, rfl, hN, hB2⟩ := hrel
        have KB := ((unhide hB2).block bx hbx).trans (unhide KX)
        have x0 : wr.cell? ⟨bx, 0, none⟩ = some (.int .i64 hs[i].X.id) := (heap_at KB 0).1
        have x1 : wr.cell? ⟨bx, 1, none⟩ = some (.bool hs[i].X.gone) := (heap_at KB 1).1
        have x2 : wr.cell? ⟨bx, 2, none⟩ = some (.slice (some ⟨hs[i].g, 0, none⟩) hs[i].X.xs.length hs[i].c) := (heap_at KB 2).1
        have B2 := hide ((unhide B1).trans ((unhide hB2).mono (unhide B1).size))
        have O2 := hide (rb_ownsRow_below (unhide O1) (unhide hB2))
        clear KB
        cases gk with
        | zero =>
          have hkz : ¬ ((k : Int) < ((n - (i + 1) : Nat) : Int)) := by omega
          cases hgone : hs[i].X.gone with
          | true =>
            have E := hide (show K ++ keepL kH gH (hs.drop (i + 1)) = keepL kH gH hs by rw [← keep_gone hih hgone]; exact unhide hL)
            rw [hgone] at x1
            clear hL LR hN hB2 x0 x2
            go_wp2_with fail
            go_roundg gq
            case measure => omega
            case rel => exact ⟨i + 1, K, by omega, by first | rfl | go_num, by omega, unhide E, unhide O2, unhide B2⟩
          | false =>
            have E := hide (show (K ++ [hs[i]]) ++ keepL kH gH (hs.drop (i + 1)) = keepL kH gH hs by rw [List.append_assoc, List.singleton_append, ← keep_here hih hgone (fun j hj => unhide hN j hj (by have := unhide LN; omega))]; exact unhide hL)
            have hKl : (K ++ [hs[i]]).length ≤ i + 1 := by simp; omega
            obtain ⟨v', w', hrun, ho', hg'⟩ := ga_app (unhide O2) hs[i] (by omega) (unhide B2).size
            have B3 := hide (((unhide B2).alloc (unhide B2).size _).grown hg' (by have := (unhide B2).size; simp; omega) (fun q hq => ((unhide O2).lt q hq).1))
            have O3 := hide ho'
            rw [hgone] at x1 hrun
            clear hL LR hN hB2 ho' hg'
            go_wp2_with (at_builtin; refine sc_wpApp rfl (.tmp 33) (.tmp 35) 23 rfl _ _ _ w' rfl rfl hrun ?_)
            go_roundg gq
            case measure => omega
            case rel => exact ⟨i + 1, K ++ [hs[i]], by omega, by first | rfl | go_num, hKl, unhide E, unhide O3, unhide B3⟩
        | succ g2 =>
          have hkz : (k : Int) < ((n - (i + 1) : Nat) : Int) := by omega
          have hkh : i + 1 + k < hs.length := by have := unhide LN; omega
          obtain ⟨y0, y1, y2⟩ := unhide LR wr (unhide B2) k hkh
          have x0' : ∀ o, (wr.alloc o).cell? ⟨bx, 0, none⟩ = some (.int .i64 hs[i].X.id) := fun o => (((Below.refl wr.heap.size wr).alloc (Nat.le_refl _) o).cell (p := ⟨bx, 0, none⟩) (cell_lt x0)).trans x0
          have B4 := hide (fun o => (unhide hB2).alloc (unhide hB2).size o)
          have O4 := hide (fun o => World.ownsRow.alloc (unhide O2) o)
          have B5 := hide (fun o => (unhide B2).alloc (unhide B2).size o)
          clear x1 x2 hB2 O2 B2
          by_cases he : hs[i + 1 + k].X.id = hs[i].X.id
          · have E := hide (show K ++ keepL kH gH (hs.drop (i + 1)) = keepL kH gH hs by rw [← keep_skip hih hkh he]; exact unhide hL)
            clear hL LR hN
            go_wp2_with fail
            go_roundg gq
            case measure => omega
            case rel => exact ⟨i + 1, K, by omega, by first | rfl | go_num, by omega, unhide E, unhide O4 _, unhide B5 _⟩
          · have E := hide (show ∀ j (hj : i + 1 + j < hs.length), j < k + 1 → hs[i + 1 + j].X.id ≠ hs[i].X.id from fun j hj hjk => by
              by_cases e : j = k
              · subst e; exact he
              · exact unhide hN j hj (by omega))
            clear LR hN
            go_wp2_with fail
            go_roundg g2
            case measure => omega
            case rel => exact ⟨k + 1, by omega, by first | rfl | go_num, unhide E, unhide B4 _⟩
end Go.Proofs.Ytpmbpldjjnjafaa

namespace Go.Proofs.Ytpmbpldjjnjafaa
open Go.RowKit Go.ChangeShapes Go.WideShapes

theorem open_bytes {H : Type} {enc : TypeId × Value → H} {w : World} {base : Nat} {spare : Nat → Bool} {held : Bool} {v : Value} {fuel : Nat} {x : DataW H × List MemPlace}
    (h : DataW.trod enc Try.prog w base spare held fuel 22 [v] = some x) : ∃ a l c xs, v = .slice a l c ∧ Row w a l xs ∧ l ≤ maxLen ∧ l ≤ c := by
  rcases open_ints Try.underlying22 Try.underlying5 (by kernel_rfl) h with ⟨hcs, _⟩ | ⟨y, l, c, zs, hcs, _, hl, hm, hz, _, hcell, hwz⟩
  · simp at hcs
    subst hcs
    exact ⟨none, 0, 0, [], rfl, ⟨rfl, fun i hi => absurd hi (Nat.not_lt_zero _)⟩, by unfold maxLen; omega, Nat.le_refl _⟩
  · simp at hcs
    subst hcs
    have hlz : l ≤ zs.length := by rw [hz]; split <;> omega
    have hR : IsRow .u8 w (some y) l zs.length zs := .inr ⟨y, rfl, hlz, by rw [hz]; split <;> omega, rfl, hcell, hwz⟩
    exact ⟨some y, l, c, zs.take l, rfl, (row_of_isRow hR).1, (row_of_isRow hR).2.1, hl⟩

set_option maxRecDepth 100000 in
theorem open_writes {H : Type} {enc : TypeId × Value → H} {w : World} {base : Nat} {spare : Nat → Bool} {held : Bool} {v : Value} {fuel : Nat} {x : DataW H × List MemPlace}
    (h : DataW.trod enc Try.prog w base spare held fuel 32 [v] = some x) : ∃ a len cap ws, v = .slice a len cap ∧ WRow w a len ws ∧ len ≤ maxLen := by
  rcases Deep.open_slice Try.underlying32 h with ⟨hcs, _⟩ | ⟨y, l, c, m, n, D, Pl, hcs, hb, hl, hm, hmm, _, hel⟩
  · simp at hcs
    subst hcs
    exact ⟨none, 0, 0, [], rfl, ⟨rfl, fun i hi => absurd hi (Nat.not_lt_zero _)⟩, by unfold maxLen; omega⟩
  simp at hcs
  subst hcs
  have hlm : l ≤ m := by rw [hmm]; split <;> omega
  have c2 : Try.prog.cellsOf 72 = 2 := by kernel_rfl
  rw [c2] at hel
  have one : ∀ i, i < l → ∃ d : WD, ∃ b off, some y = some (⟨b, off, none⟩ : Addr) ∧ w.cell? ⟨b, off + i * 2, none⟩ = some (.int .i64 d.at_) ∧
      ∃ a' c', w.cell? ⟨b, off + i * 2 + 1, none⟩ = some (.slice a' d.xs.length c') ∧ (d.xs.length ≤ maxLen ∧ d.xs.length ≤ c') ∧ Row w a' d.xs.length d.xs := by
    intro i hi
    obtain ⟨cs, hc, ht⟩ := hel i (by omega)
    obtain ⟨_, hlen, hcell⟩ := World.cells?_some hc
    obtain ⟨y0, y1, n', _, _, h0, h1⟩ := trod_struct2 Try.underlying72 ht
    obtain ⟨k0, e0, _, w0⟩ := DataW.trod_int Try.underlying3 h0
    match cs, hlen with
    | [v0, v1], _ =>
      have s0 : Try.prog.cellsOf 3 = 1 := by kernel_rfl
      have s1 : Try.prog.cellsOf 22 = 1 := by kernel_rfl
      have e0' : v0 = .int .i64 k0 := by simpa [s0] using e0
      have h1' : DataW.trod enc Try.prog w base spare held n' 22 [v1] = some y1 := by simpa [s1] using h1
      subst e0'
      obtain ⟨a', l', c', xs, rfl, hr, hl', hlc⟩ := open_bytes h1'
      have g0 := hcell 0 (by omega)
      have g1 := hcell 1 (by omega)
      rw [Deep.add_add] at g0 g1
      obtain ⟨b, off, spot⟩ := y
      have hs : spot = none := by
        by_cases hi0 : i = 0
        · have := World.cell?_spot (g0.trans rfl)
          simpa [Addr.add, hi0] using this
        · obtain ⟨cs', hc', ht'⟩ := hel 0 (by omega)
          obtain ⟨_, hlen', hcell'⟩ := World.cells?_some hc'
          have h0' := hcell' 0 (by omega)
          match cs', hlen' with
          | [u0, u1], _ =>
            have := World.cell?_spot (h0'.trans rfl)
            simpa [Addr.add] using this
      subst hs
      have e : ∀ j, (⟨b, off, none⟩ : Addr).add j = ⟨b, off + j, none⟩ := fun j => by unfold Addr.add; split <;> simp_all
      rw [e] at g0 g1
      have hxl := hr.1
      subst hxl
      exact ⟨⟨k0, xs⟩, b, off, rfl, by simpa using g0, a', c', by simpa [Nat.add_assoc] using g1, ⟨hl', hlc⟩, hr⟩
  have : ∀ i, ∃ d : WD, i < l → ∃ b off, some y = some (⟨b, off, none⟩ : Addr) ∧ w.cell? ⟨b, off + i * 2, none⟩ = some (.int .i64 d.at_) ∧
      ∃ a' c', w.cell? ⟨b, off + i * 2 + 1, none⟩ = some (.slice a' d.xs.length c') ∧ (d.xs.length ≤ maxLen ∧ d.xs.length ≤ c') ∧ Row w a' d.xs.length d.xs := fun i => by
    by_cases hi : i < l
    · obtain ⟨d, hd⟩ := one i hi
      exact ⟨d, fun _ => hd⟩
    · exact ⟨⟨0, []⟩, fun h => absurd h hi⟩
  obtain ⟨F, hF⟩ := Classical.skolem.1 this
  refine ⟨some y, l, c, (List.range l).map F, rfl, ⟨by simp, fun i hi => ?_⟩, by omega⟩
  have hi' : i < l := by simpa using hi
  simpa using hF i hi'

/-- A device that came in. -/
def IsFlash (w : World) (ah : Option Addr) (nh : Nat) (aw : Option Addr) (nw : Nat) (held : List Int) (ws : List WD) : Prop := Row w ah nh held ∧ nh ≤ maxLen ∧ WRow w aw nw ws ∧ nw ≤ maxLen
set_option maxRecDepth 100000 in
theorem open_flash {H : Type} {enc : TypeId × Value → H} {w : World} {base : Nat} {spare : Nat → Bool} {held : Bool} {v : Value} {r : Reach} {b0 : Nat} {d : DataW H} {p : List MemPlace}
    (hv : Value.okWide Try.prog w r b0 34 v) (h : DataW.Trod enc Try.prog w base spare held 34 v d p) : ∃ ah nh ch aw nw cw xs ws, v = fv ah nh ch aw nw cw ∧ IsFlash w ah nh aw nw xs ws := by
  obtain ⟨v0, v1, y0, y1, n, rfl, _, _, h0, h1⟩ := Go.Joins.open_agg2 Try.underlying34 (by kernel_rfl) (by kernel_rfl) hv h
  obtain ⟨ah, nh, ch, xs, rfl, hr, hl, _⟩ := open_bytes h0
  obtain ⟨aw, nw, cw, ws, rfl, hr2, hl2⟩ := open_writes h1
  exact ⟨ah, nh, ch, aw, nw, cw, xs, ws, rfl, hr, hl, hr2, hl2⟩
end Go.Proofs.Ytpmbpldjjnjafaa

namespace Go.Proofs.Ytpmbpldjjnjafaa
open Go.RowKit Go.ChangeShapes Go.WideShapes

theorem open_bytes8c {H : Type} {enc : TypeId × Value → H} {w : World} {base : Nat} {spare : Nat → Bool} {held : Bool} {v : Value} {fuel : Nat} {x : DataW H × List MemPlace}
    (h : DataW.trod enc Try.prog w base spare held fuel 22 [v] = some x) : ∃ a l c xs, v = .slice a l c ∧ Row w a l xs ∧ l ≤ maxLen ∧ l ≤ c ∧ Bytes8 xs := by
  rcases open_ints Try.underlying22 Try.underlying5 (by kernel_rfl) h with ⟨hcs, _⟩ | ⟨y, l, c, zs, hcs, _, hl, hm, hz, _, hcell, hwz⟩
  · simp at hcs
    subst hcs
    exact ⟨none, 0, 0, [], rfl, ⟨rfl, fun i hi => absurd hi (Nat.not_lt_zero _)⟩, by unfold maxLen; omega, Nat.le_refl _, fun i hi => absurd hi (Nat.not_lt_zero _)⟩
  · simp at hcs
    subst hcs
    have hlz : l ≤ zs.length := by rw [hz]; split <;> omega
    have hR : IsRow .u8 w (some y) l zs.length zs := .inr ⟨y, rfl, hlz, by rw [hz]; split <;> omega, rfl, hcell, hwz⟩
    exact ⟨some y, l, c, zs.take l, rfl, (row_of_isRow hR).1, (row_of_isRow hR).2.1, hl, fun i hi => bytes_of_isRow hR i (by have := (row_of_isRow hR).1.1; rw [this] at hi; exact hi)⟩

set_option maxRecDepth 100000 in
theorem open_writes8 {H : Type} {enc : TypeId × Value → H} {w : World} {base : Nat} {spare : Nat → Bool} {held : Bool} {v : Value} {fuel : Nat} {x : DataW H × List MemPlace}
    (h : DataW.trod enc Try.prog w base spare held fuel 32 [v] = some x) : ∃ a len cap ws, v = .slice a len cap ∧ WRow w a len ws ∧ len ≤ maxLen ∧ ∀ d ∈ ws, Bytes8 d.xs := by
  rcases Deep.open_slice Try.underlying32 h with ⟨hcs, _⟩ | ⟨y, l, c, m, n, D, Pl, hcs, hb, hl, hm, hmm, _, hel⟩
  · simp at hcs
    subst hcs
    exact ⟨none, 0, 0, [], rfl, ⟨rfl, fun i hi => absurd hi (Nat.not_lt_zero _)⟩, by unfold maxLen; omega, fun d hd => absurd hd (List.not_mem_nil)⟩
  simp at hcs
  subst hcs
  have hlm : l ≤ m := by rw [hmm]; split <;> omega
  have c2 : Try.prog.cellsOf 72 = 2 := by kernel_rfl
  rw [c2] at hel
  have one : ∀ i, i < l → ∃ d : WD, ∃ b off, some y = some (⟨b, off, none⟩ : Addr) ∧ w.cell? ⟨b, off + i * 2, none⟩ = some (.int .i64 d.at_) ∧
      ∃ a' c', w.cell? ⟨b, off + i * 2 + 1, none⟩ = some (.slice a' d.xs.length c') ∧ (d.xs.length ≤ maxLen ∧ d.xs.length ≤ c') ∧ Row w a' d.xs.length d.xs ∧ Bytes8 d.xs := by
    intro i hi
    obtain ⟨cs, hc, ht⟩ := hel i (by omega)
    obtain ⟨_, hlen, hcell⟩ := World.cells?_some hc
    obtain ⟨y0, y1, n', _, _, h0, h1⟩ := trod_struct2 Try.underlying72 ht
    obtain ⟨k0, e0, _, w0⟩ := DataW.trod_int Try.underlying3 h0
    match cs, hlen with
    | [v0, v1], _ =>
      have s0 : Try.prog.cellsOf 3 = 1 := by kernel_rfl
      have s1 : Try.prog.cellsOf 22 = 1 := by kernel_rfl
      have e0' : v0 = .int .i64 k0 := by simpa [s0] using e0
      have h1' : DataW.trod enc Try.prog w base spare held n' 22 [v1] = some y1 := by simpa [s1] using h1
      subst e0'
      obtain ⟨a', l', c', xs, rfl, hr, hl', hlc, h8⟩ := open_bytes8c h1'
      have g0 := hcell 0 (by omega)
      have g1 := hcell 1 (by omega)
      rw [Deep.add_add] at g0 g1
      obtain ⟨b, off, spot⟩ := y
      have hs : spot = none := by
        by_cases hi0 : i = 0
        · have := World.cell?_spot (g0.trans rfl)
          simpa [Addr.add, hi0] using this
        · obtain ⟨cs', hc', ht'⟩ := hel 0 (by omega)
          obtain ⟨_, hlen', hcell'⟩ := World.cells?_some hc'
          have h0' := hcell' 0 (by omega)
          match cs', hlen' with
          | [u0, u1], _ =>
            have := World.cell?_spot (h0'.trans rfl)
            simpa [Addr.add] using this
      subst hs
      have e : ∀ j, (⟨b, off, none⟩ : Addr).add j = ⟨b, off + j, none⟩ := fun j => by unfold Addr.add; split <;> simp_all
      rw [e] at g0 g1
      have hxl := hr.1
      subst hxl
      exact ⟨⟨k0, xs⟩, b, off, rfl, by simpa using g0, a', c', by simpa [Nat.add_assoc] using g1, ⟨hl', hlc⟩, hr, h8⟩
  have : ∀ i, ∃ d : WD, i < l → ∃ b off, some y = some (⟨b, off, none⟩ : Addr) ∧ w.cell? ⟨b, off + i * 2, none⟩ = some (.int .i64 d.at_) ∧
      ∃ a' c', w.cell? ⟨b, off + i * 2 + 1, none⟩ = some (.slice a' d.xs.length c') ∧ (d.xs.length ≤ maxLen ∧ d.xs.length ≤ c') ∧ Row w a' d.xs.length d.xs ∧ Bytes8 d.xs := fun i => by
    by_cases hi : i < l
    · obtain ⟨d, hd⟩ := one i hi
      exact ⟨d, fun _ => hd⟩
    · exact ⟨⟨0, []⟩, fun h => absurd h hi⟩
  obtain ⟨F, hF⟩ := Classical.skolem.1 this
  refine ⟨some y, l, c, (List.range l).map F, rfl, ⟨by simp, fun i hi => ?_⟩, by omega, fun d hd => ?_⟩
  · have hi' : i < l := by simpa using hi
    obtain ⟨b, off, e1, e2, a', c', e3, e4, e5, _⟩ := hF i hi'
    exact ⟨b, off, e1, by simpa using e2, a', c', by simpa using e3, by simpa using e4, by simpa using e5⟩
  · obtain ⟨i, hi, rfl⟩ := List.mem_map.1 hd
    obtain ⟨b, off, e1, e2, a', c', e3, e4, e5, e6⟩ := hF i (by simpa using hi)
    exact e6

/-- A device that came in: its bytes are bytes. -/
def IsFlash8 (w : World) (ah : Option Addr) (nh : Nat) (aw : Option Addr) (nw : Nat) (held : List Int) (ws : List WD) : Prop := IsFlash w ah nh aw nw held ws ∧ Bytes8 held ∧ ∀ d ∈ ws, Bytes8 d.xs
set_option maxRecDepth 100000 in
theorem open_flash8 {H : Type} {enc : TypeId × Value → H} {w : World} {base : Nat} {spare : Nat → Bool} {held : Bool} {v : Value} {r : Reach} {b0 : Nat} {d : DataW H} {p : List MemPlace}
    (hv : Value.okWide Try.prog w r b0 34 v) (h : DataW.Trod enc Try.prog w base spare held 34 v d p) : ∃ ah nh ch aw nw cw xs ws, v = fv ah nh ch aw nw cw ∧ IsFlash8 w ah nh aw nw xs ws := by
  obtain ⟨v0, v1, y0, y1, n, rfl, _, _, h0, h1⟩ := Go.Joins.open_agg2 Try.underlying34 (by kernel_rfl) (by kernel_rfl) hv h
  obtain ⟨ah, nh, ch, xs, rfl, hr, hl, _, h8⟩ := open_bytes8c h0
  obtain ⟨aw, nw, cw, ws, rfl, hr2, hl2, h8w⟩ := open_writes8 h1
  exact ⟨ah, nh, ch, aw, nw, cw, xs, ws, rfl, ⟨hr, hl, hr2, hl2⟩, h8, h8w⟩
theorem putD_bytes {b : List Int} {d : WD} {n : Nat} (hb : Bytes8 b) (hd : Bytes8 d.xs) : Bytes8 (putD b d n) := by
  rw [bytes8_mem] at *
  intro x hx
  have hg : ∀ x ∈ growD b ((d.at_.toNat + 1) * 16), 0 ≤ x ∧ x ≤ 255 := fun x hx => by
    unfold growD at hx
    rcases List.mem_append.1 hx with h | h
    · exact hb x h
    · have := List.eq_of_mem_replicate h
      omega
  unfold putD putB at hx
  rcases List.mem_append.1 hx with h | h
  · rcases List.mem_append.1 h with h | h
    · exact hg x (List.mem_of_mem_take h)
    · exact hd x (List.mem_of_mem_take h)
  · exact hg x (List.mem_of_mem_drop h)
theorem readD_bytes : ∀ (ws : List WD) (b : List Int), Bytes8 b → (∀ d ∈ ws, Bytes8 d.xs) → Bytes8 (readD b ws)
  | [], _, hb, _ => hb
  | d :: ws, _, hb, hw => readD_bytes ws _ (putD_bytes hb (hw d (List.mem_cons_self ..))) (fun x hx => hw x (List.mem_cons_of_mem _ hx))
end Go.Proofs.Ytpmbpldjjnjafaa

namespace Go.Proofs.Ytpmbpldjjnjafaa
open Go.RowKit

set_option maxHeartbeats 1000000 in
theorem implFlashOK_any (ah : Option Addr) (nh ch : Nat) (aw : Option Addr) (nw cw : Nat) (ws : List WD) (w : World) (hnh : nh ≤ maxLen) (hn : nw ≤ maxLen) (hr : WRow w aw nw ws) :
    Calls Try.prog 29 #[fv ah nh ch aw nw cw] w fun e w' => e = .returned (.bool (okD nh ws)) ∧ Below w.heap.size w w' := by
  have L := hide hr.1
  have R := hide hr.2
  clear hr
  unfold maxLen at hnh hn
  have t1 : ∀ x : Nat, (x : Int).tmod 16 = ((x % 16 : Nat) : Int) := fun x => by rw [Int.tmod_eq_emod_of_nonneg (by omega)]; omega
  have B0 : ∀ o, Below w.heap.size w (w.alloc o) := fun o => (Below.refl _ _).alloc (Nat.le_refl _) _
  by_cases h1 : nh % 16 = 0
  · have q1 : ((nh : Int).tmod 16 != 0) = false := by rw [t1, h1]; rfl
    by_cases h2 : nh ≤ 2048
    · have q2 : decide ((2048 : Int) < (nh : Int)) = false := by simp; omega
      by_cases h3 : nw ≤ 4096
      · have q3 : decide ((4096 : Int) < (nw : Int)) = false := by simp; omega
        have hF := hide (okD_all (ws := ws) (nh := nh) ⟨h1, h2, by rw [unhide L]; exact h3⟩)
        clear t1
        go_enter Try.func29, Try.ntmps29
        go_wp2_with fail
        go_loopw [25] (fun i wr => ∃ k : Nat, k ≤ nw ∧ i = .int .i64 k ∧ Hid (∀ i (hi : i < ws.length), i < k → okW ws[i] = true) ∧ Below w.heap.size w wr) (fun i _ => nw - (intOf i).toNat)
        case atStart => exact ⟨0, Nat.zero_le _, rfl, fun i _ hi => absurd hi (Nat.not_lt_zero _), B0 _⟩
        case round =>
          clear B0
          obtain ⟨k, hk, rfl, hA, hb⟩ := hrel
          by_cases hlt2 : k < nw
          · have hk2 : k < ws.length := by rw [unhide L]; exact hlt2
            obtain ⟨b, off, rfl, e0, a', c', e1, hm, _⟩ := unhide R k hk2
            have hbl : b < w.heap.size := cell_lt e0
            have d0 := (hb.cell (p := ⟨b, off + k * 2, none⟩) hbl).trans e0
            have d1 := (hb.cell (p := ⟨b, off + k * 2 + 1, none⟩) hbl).trans e1
            clear e0 e1
            replace hm := hm.1
            unfold maxLen at hm
            have hS := hide (fun (hx : okW ws[k] = true) i (hi : i < ws.length) (h : i < k + 1) => show okW ws[i] = true from if e : i = k then by subst e; exact hx else unhide hA i hi (by omega))
            have hN := hide (fun (hx : okW ws[k] = false) => (unhide hF).trans (not_all hk2 hx))
            clear hA
            generalize ws[k] = pd at *
            have hsz := hb.size
            by_cases h16 : pd.xs.length = 16
            · have q : ((pd.xs.length : Int) != 16) = false := by rw [h16]; rfl
              by_cases hin : 0 ≤ pd.at_ ∧ pd.at_ ≤ 127
              · have hS2 := hide (unhide hS (by unfold okW; exact decide_eq_true ⟨hin.1, hin.2, h16⟩))
                clear hS hN
                go_wp2_with fail
                refine (sectorNumberOK_any pd.at_ _).mono ?_
                rintro e w2 ⟨rfl, rfl⟩
                rw [decide_eq_true hin]
                go_wp2_with fail
                go_roundw
                case rel => exact ⟨k + 1, by omega, by go_num, unhide hS2, hb.alloc hsz _⟩
                case measure => simp [intOf]; omega
              · have hN2 := hide (unhide hN (by unfold okW; exact decide_eq_false (fun h => hin ⟨h.1, h.2.1⟩)))
                clear hS hN
                go_wp2_with fail
                refine (sectorNumberOK_any pd.at_ _).mono ?_
                rintro e w2 ⟨rfl, rfl⟩
                rw [decide_eq_false hin]
                go_wp2_with fail
                go_ret
                exact ⟨ret_bool (unhide hN2).symm, hb.alloc hsz _⟩
            · have q : ((pd.xs.length : Int) != 16) = true := by simp; omega
              have hN2 := hide (unhide hN (by unfold okW; exact decide_eq_false (fun h => h16 h.2.2)))
              clear hS hN
              go_wp2_with fail
              go_ret
              exact ⟨ret_bool (unhide hN2).symm, hb.alloc hsz _⟩
          · obtain rfl : k = nw := by omega
            have hT := hide ((unhide hF).trans (all_of fun i hi => unhide hA i hi (by rw [← unhide L]; exact hi)))
            go_wp2_with fail
            go_ret
            exact ⟨ret_bool (unhide hT).symm, hb⟩
      · have q3 : decide ((4096 : Int) < (nw : Int)) = true := by simp; omega
        have hF := hide (okD_bad (ws := ws) (nh := nh) (by rw [unhide L]; omega))
        clear t1
        go_enter Try.func29, Try.ntmps29
        go_wp2_with fail
        go_ret
        exact ⟨ret_bool (unhide hF).symm, B0 _⟩
    · have q2 : decide ((2048 : Int) < (nh : Int)) = true := by simp; omega
      have hF := hide (okD_bad (ws := ws) (nh := nh) (by omega))
      clear t1
      go_enter Try.func29, Try.ntmps29
      go_wp2_with fail
      go_ret
      exact ⟨ret_bool (unhide hF).symm, B0 _⟩
  · have q1 : ((nh : Int).tmod 16 != 0) = true := by rw [t1]; simp; omega
    have hF := hide (okD_bad (ws := ws) (nh := nh) (by omega))
    clear t1
    go_enter Try.func29, Try.ntmps29
    go_wp2_with fail
    go_ret
    exact ⟨ret_bool (unhide hF).symm, B0 _⟩
end Go.Proofs.Ytpmbpldjjnjafaa

namespace Go.Proofs.Ytpmbpldjjnjafaa
open Go.RowKit Go.Maps

/-- The images that stand on a device. -/
def laS (xs : List Int) (ws : List WD) : List ImD := if okD xs.length ws = true then (scanB (readD xs ws)).1 else []
/-- What Latest gives. -/
def LaRes (xs : List Int) (ws : List WD) (w : World) (e : Ending) (w' : World) : Prop :=
  ∃ v hs, e = .returned (.tuple #[v, .int .i64 (rdC xs ws)]) ∧ IOwn w' w.heap.size v hs ∧ Lat ImD.id ImD.gone (laS xs ws) (hs.map (·.X)) ∧ Below w.heap.size w w' ∧ hs.length ≤ 2048
theorem laRes_bad {xs : List Int} {ws : List WD} {v : Value} {w w' : World} (h : okD xs.length ws = false) (ho : IOwn w' w.heap.size v []) (hb : Below w.heap.size w w') : LaRes xs ws w (.returned (.tuple #[v, .int .i64 1])) w' := by
  refine ⟨v, [], by unfold rdC; rw [h]; rfl, ho, ?_, hb, Nat.zero_le _⟩
  unfold laS
  rw [h]
  exact Lat.nil _ _
theorem lat_mem {hs R : List ImH} (h : Lat kH gH hs R) {x : ImH} (hx : x ∈ R) : x ∈ hs := by
  obtain ⟨⟨pre, post, rfl, _⟩, _⟩ := (h.all x).1 hx
  simp
theorem ownsRow_down {w : World} {B C e s n : Nat} {v : Value} {vs : List Value} (h : w.ownsRow B e s v n vs) (hC : C ≤ B) : w.ownsRow C e s v n vs := by
  refine ⟨h.1, ?_⟩
  rcases h.2 with h | ⟨g, cap, cur, e, hb, r⟩
  · exact .inl h
  · exact .inr ⟨g, cap, cur, e, Nat.le_trans hC hb, r⟩
/-- The latest of owned images are owned. -/
theorem iown_lat {w1 w2 : World} {B : Nat} {v v2 : Value} {hs R : List ImH} (ho : IOwn w1 B v hs) (hb : Below w1.heap.size w1 w2) (hr2 : GOwns w2 w1.heap.size v2 (R.map hr)) (h : Lat kH gH hs R) (hB : B ≤ w1.heap.size) : IOwn w2 B v2 R := by
  have key : ∀ i (hi : i < R.length), ∃ j, ∃ hj : j < hs.length, hs[j] = R[i] := fun i hi => List.mem_iff_getElem.1 (lat_mem h (List.getElem_mem hi))
  have hup := List.pairwise_iff_getElem.1 h.up
  refine ⟨ownsRow_down hr2 hB, fun i hi => ?_, fun i j hi hj hij => ?_, fun i hi => ?_⟩
  · obtain ⟨j, hj, e⟩ := key i hi
    have := (ho.dat j hj).below hb
    rw [e] at this
    exact this
  · obtain ⟨a, ha, ea⟩ := key i hi
    obtain ⟨b, hb', eb⟩ := key j hj
    rw [← ea, ← eb]
    refine ho.far a b ha hb' (fun e => ?_)
    subst e
    rw [ea] at eb
    rcases Nat.lt_or_gt_of_ne hij with h1 | h1
    · have := hup i j hi hj h1
      simp only [kH] at this
      rw [eb] at this
      omega
    · have := hup j i hj hi h1
      simp only [kH] at this
      rw [eb] at this
      omega
  · obtain ⟨a, ha, ea⟩ := key i hi
    have h1 := (hDat.lt (ho.dat a ha)).2
    rw [ea] at h1
    intro e
    have := (hr2.lt _ e).1
    omega
theorem laRes_some {xs : List Int} {ws : List WD} {v v2 : Value} {w w1 w2 : World} {hs R : List ImH} (hk : okD xs.length ws = true) (ho : IOwn w1 w.heap.size v hs) (he : hs.map (·.X) = (scanB (readD xs ws)).1) (hb1 : Below w.heap.size w w1) (hb : Below w1.heap.size w1 w2) (hr2 : GOwns w2 w1.heap.size v2 (R.map hr)) (h : Lat kH gH hs R) (hl : R.length ≤ 2048) : LaRes xs ws w (.returned (.tuple #[v2, .int .i64 0])) w2 := by
  refine ⟨v2, R, by unfold rdC; rw [hk]; rfl, iown_lat ho hb hr2 h hb1.size, ?_, hb1.trans (hb.mono hb1.size), hl⟩
  unfold laS
  rw [if_pos hk, ← he]
  exact Lat.map (k' := ImD.id) (g' := ImD.gone) (fun x : ImH => x.X) (fun _ => rfl) (fun _ => rfl) h
theorem im_cap {w : World} {B : Nat} {v : Value} {hs : List ImH} (h : IOwn w B v hs) : ∃ a c, v = .slice a hs.length c ∧ hs.length ≤ c ∧ GRow w a hs.length (hs.map hr) := by
  obtain ⟨a, c, rfl⟩ := im_slice h
  refine ⟨a, c, rfl, ?_, im_row h⟩
  rcases h.row.2 with ⟨e, h0⟩ | ⟨g, cap, cur, e, _, _, h1, _⟩
  · injection e with _ e2 _
    omega
  · injection e with _ e2 e3
    rw [List.length_map] at h1
    omega
theorem scanI_len (b : List Int) : ∀ f p, p ≤ b.length → (scanI b f p).1.length ≤ b.length - p := by
  intro f
  induction f with
  | zero => intro p _; simp [scanI]
  | succ f ih =>
    intro p hp
    cases hn : nextI b p with
    | none => rw [scanI_none hn]; simp
    | some x =>
      obtain ⟨_, _, _, h4⟩ := next_some hn
      have := ih (p + 9 + x.xs.length) (by omega)
      simp only [scanI, hn]
      simp
      omega
theorem scan_len_le (b : List Int) {m : Nat} (h : b.length ≤ m) : (scanB b).1.length ≤ m := by
  have := scanI_len b (b.length + 1) 0 (Nat.zero_le _)
  unfold scanB
  omega
theorem mine_row8 {w : World} {B n cap : Nat} {a : Option Addr} {xs : List Int} (h : Mine w B (.slice a n cap) xs) : Row w a n xs ∧ n = xs.length ∧ n ≤ cap ∧ cap ≤ maxLen := by
  obtain ⟨a', c', e, h1, h2, h3, h4⟩ := h
  injection e with e1 e2 e3
  subst e1 e2 e3
  exact ⟨h3, rfl, h1, h2⟩
theorem scan_few {xs : List Int} {ws : List WD} (h : okD xs.length ws = true) : (readD xs ws).length ≤ 2048 ∧ (scanB (readD xs ws)).1.length ≤ 2048 := by
  obtain ⟨k1, k2, k3, k4⟩ := okD_parts h
  have h1 := (readD_bounds xs ws k1 k2 k4).2
  refine ⟨h1, ?_⟩
  exact scan_len_le _ h1
set_option maxRecDepth 100000 in
set_option maxHeartbeats 2000000 in
theorem implLatest_any (ah : Option Addr) (n c : Nat) (aw : Option Addr) (nw cw : Nat) (xs : List Int) (ws : List WD) (w : World) (hR : Row w ah n xs) (hW : WRow w aw nw ws) (hn : n ≤ 1048576) (hnw : nw ≤ 1048576) (hc : n ≤ c) (hc2 : c ≤ maxLen) (h8 : Bytes8 xs) (h8w : ∀ d ∈ ws, Bytes8 d.xs) :
    Calls Try.prog 16 #[fv ah n c aw nw cw] w fun e w' => LaRes xs ws w e w' := by
  have hxl := hR.1
  have H8 := hide (readD_bytes ws xs h8 h8w)
  clear h8 h8w
  have hwl := hW.1
  have b0 : Below w.heap.size w (w.alloc (.cells #[.slice ah n c, .slice aw nw cw] 40)) := (Below.refl _ _).alloc (Nat.le_refl _) _
  have HW := hide (hW.below b0)
  have HR := hide (row_grow hR b0)
  have B0 := hide b0
  have x0 : (w.alloc (.cells #[.slice ah n c, .slice aw nw cw] 40)).cell? ⟨w.heap.size, 0, none⟩ = some (.slice ah n c) := (cell_new rfl).trans rfl
  have x1 : (w.alloc (.cells #[.slice ah n c, .slice aw nw cw] 40)).cell? ⟨w.heap.size, 1, none⟩ = some (.slice aw nw cw) := (cell_new rfl).trans rfl
  have hz : (w.alloc (.cells #[.slice ah n c, .slice aw nw cw] 40)).heap.size = w.heap.size + 1 := by simp
  clear hR hW b0
  go_enter Try.func16, Try.ntmps16
  go_wp2_with fail
  generalize w.alloc (.cells #[.slice ah n c, .slice aw nw cw] 40) = w0 at *
  refine (implFlashOK_any ah n c aw nw cw ws w0 (by unfold maxLen; omega) (by unfold maxLen; omega) (unhide HW)).mono ?_
  rintro e w1 ⟨rfl, hb1⟩
  have y0 := (hb1.cell (p := ⟨w.heap.size, 0, none⟩) (show w.heap.size < w0.heap.size by omega)).trans x0
  have y1 := (hb1.cell (p := ⟨w.heap.size, 1, none⟩) (show w.heap.size < w0.heap.size by omega)).trans x1
  have hs1 := hb1.size
  have W1 := hide ((unhide HW).below hb1)
  have R1 := hide (row_grow (unhide HR) hb1)
  have B1 := hide ((unhide B0).trans (hb1.mono (by omega)))
  clear HW HR B0 hb1 x0 x1
  by_cases ho : okD n ws = true
  · rw [ho]
    obtain ⟨k1, k2, k3, k4⟩ := okD_parts ho
    have HO := hide (show okD xs.length ws = true by rw [hxl]; exact ho)
    have FW := hide (scan_few (unhide HO))
    obtain ⟨m, hm⟩ : ∃ m, n = m * 16 := ⟨n / 16, by omega⟩
    have hP := deviceOf_any ah m c aw nw cw xs ws w1 (by rw [← hm]; exact unhide R1) (unhide W1) (by omega) hc2 (by omega) (by omega) (fun i hi => k4 _ (List.getElem_mem hi))
    rw [← hm] at hP
    have HP := hide hP
    have HQ := hide (devDS_read (ws := ws) (show xs.length = m * 16 by omega) (by omega) k4)
    clear k1 k2 k3 k4 ho hP hm
    go_wp2_with fail
    refine (unhide HP).mono ?_
    rintro e w2 ⟨rfl, ⟨mh, mr, v, hd⟩, hb2⟩
    have B2 := hide ((unhide B1).trans (hb2.mono (by omega)))
    have hs2 := hb2.size
    have HD := hide hd
    clear hb2 y0 y1 HP hd
    go_wp2_with fail
    refine (bytes_any (w1.heap.size + 1 + 1) 2 mr 5000 (devDS xs m ws).rc (devDS xs m ws).rf w2 (unhide HD).read (unhide HD).rok.2.1 (unhide HD).rok.1 (unhide HD).c2 (unhide HD).c3).mono ?_
    rintro e w3 ⟨rfl, hM, hb3⟩
    rw [unhide HQ] at hM
    have hlen := (mine_row8 hM).2.1
    rw [hlen] at hM ⊢
    have M3 := hide hM
    have B3 := hide ((unhide B2).trans (hb3.mono (by omega)))
    clear hM hb3 HD HQ hlen
    go_wp2_with fail
    refine (scan_any _ (readD xs ws).length (readD xs ws).length (readD xs ws) w3 (mine_row8 (unhide M3)).1 (unhide H8) (by have := (unhide FW).1; omega) (Nat.le_refl _) (by have := (unhide FW).1; unfold maxLen; omega) (fun e => by cases e)).mono ?_
    rintro e w4 ⟨v, hs, rfl, hI, hX, hb4⟩
    have I4 := hide (hI.down (unhide B3).size)
    have X4 := hide hX
    have B4 := hide ((unhide B3).trans (hb4.mono (unhide B3).size))
    obtain ⟨a5, c5, rfl, hc5, hr5⟩ := im_cap hI
    have hl5 : hs.length ≤ 2048 := by have := (unhide FW).2; rw [← unhide X4, List.length_map] at this; exact this
    have R5 := hide hr5
    clear hI hX hb4 M3 B3 hr5
    go_wp2_with fail
    refine (lastOfEach_any a5 hs.length c5 hs w4 (unhide R5) (by omega) hc5).mono ?_
    rintro e w5 ⟨v5, R, rfl, hG, hLt, hb5, hle⟩
    have Z := hide (laRes_some (unhide HO) (unhide I4) (unhide X4) (unhide B4) hb5 hG hLt (by omega))
    clear hG hLt hb5 hle I4 X4 B4 R5
    go_wp2_with fail
    go_ret2
    exact unhide Z
  · have ho : okD n ws = false := by simpa using ho
    rw [ho]
    have HO := hide (show okD xs.length ws = false by rw [hxl]; exact ho)
    clear ho
    go_wp2_with fail
    go_ret2
    exact laRes_bad (unhide HO) (IOwn.nil _ _) (unhide B1)
set_option maxRecDepth 100000 in
set_option maxHeartbeats 2000000 in
theorem specLatest_any (b off n c : Nat) (aw : Option Addr) (nw cw : Nat) (xs : List Int) (ws : List WD) (w : World) (hR : Row w (some ⟨b, off, none⟩) n xs) (hW : WRow w aw nw ws) (hn : n ≤ 1048576) (hnw : nw ≤ 1048576) (h8 : Bytes8 xs) (h8w : ∀ d ∈ ws, Bytes8 d.xs) :
    Calls Try.prog 14 #[fv (some ⟨b, off, none⟩) n c aw nw cw] w fun e w' => LaRes xs ws w e w' := by
  have hxl := hR.1
  have H8 := hide (readD_bytes ws xs h8 h8w)
  clear h8 h8w
  have hwl := hW.1
  have b0 : Below w.heap.size w (w.alloc (.cells #[.slice (some ⟨b, off, none⟩) n c, .slice aw nw cw] 40)) := (Below.refl _ _).alloc (Nat.le_refl _) _
  have HW := hide (hW.below b0)
  have HR := hide (row_grow hR b0)
  have B0 := hide b0
  have x0 : (w.alloc (.cells #[.slice (some ⟨b, off, none⟩) n c, .slice aw nw cw] 40)).cell? ⟨w.heap.size, 0, none⟩ = some (.slice (some ⟨b, off, none⟩) n c) := (cell_new rfl).trans rfl
  have x1 : (w.alloc (.cells #[.slice (some ⟨b, off, none⟩) n c, .slice aw nw cw] 40)).cell? ⟨w.heap.size, 1, none⟩ = some (.slice aw nw cw) := (cell_new rfl).trans rfl
  have hz : (w.alloc (.cells #[.slice (some ⟨b, off, none⟩) n c, .slice aw nw cw] 40)).heap.size = w.heap.size + 1 := by simp
  clear hR hW b0
  go_enter Try.func14, Try.ntmps14
  go_wp2_with fail
  generalize w.alloc (.cells #[.slice (some ⟨b, off, none⟩) n c, .slice aw nw cw] 40) = w0 at *
  refine (specFlashOK_any (some ⟨b, off, none⟩) n c aw nw cw ws w0 (by unfold maxLen; omega) (by unfold maxLen; omega) (unhide HW)).mono ?_
  rintro e w1 ⟨rfl, hb1⟩
  have y0 := (hb1.cell (p := ⟨w.heap.size, 0, none⟩) (show w.heap.size < w0.heap.size by omega)).trans x0
  have y1 := (hb1.cell (p := ⟨w.heap.size, 1, none⟩) (show w.heap.size < w0.heap.size by omega)).trans x1
  have hs1 := hb1.size
  have W1 := hide ((unhide HW).below hb1)
  have R1 := hide (row_grow (unhide HR) hb1)
  have B1 := hide ((unhide B0).trans (hb1.mono (by omega)))
  clear HW HR B0 hb1 x0 x1
  by_cases ho : okD n ws = true
  · rw [ho]
    obtain ⟨k1, k2, k3, k4⟩ := okD_parts ho
    have HO := hide (show okD xs.length ws = true by rw [hxl]; exact ho)
    have FW := hide (scan_few (unhide HO))
    have HP := hide (fun c => l02Read_any b off n c aw nw cw xs ws w1 (unhide R1) (unhide W1) k2 k1 (by omega) k4)
    clear k1 k2 k3 k4 ho
    go_wp2_with fail
    refine (unhide HP _).mono ?_
    rintro e w2 ⟨g, cap, rfl, hO, hb2⟩
    have M3 := hide (mine_row8 (mine_of_owns hO))
    have B3 := hide ((unhide B1).trans (hb2.mono (by omega)))
    clear hO hb2 y0 y1 HP
    go_wp2_with fail
    refine (l03Scan_any _ (readD xs ws).length cap (readD xs ws) w2 (unhide M3).1 (unhide H8) (by have := (unhide FW).1; omega) (unhide M3).2.2.1 (unhide M3).2.2.2).mono ?_
    rintro e w4 ⟨v, hs, rfl, hI, hX, hb4⟩
    have I4 := hide (hI.down (unhide B3).size)
    have X4 := hide hX
    have B4 := hide ((unhide B3).trans (hb4.mono (unhide B3).size))
    obtain ⟨a5, c5, rfl, hc5, hr5⟩ := im_cap hI
    have hl5 : hs.length ≤ 2048 := by have := (unhide FW).2; rw [← unhide X4, List.length_map] at this; exact this
    have R5 := hide hr5
    clear hI hX hb4 M3 B3 hr5
    go_wp2_with fail
    refine (l03Latest_any a5 hs.length c5 hs w4 (unhide R5) (by omega)).mono ?_
    rintro e w5 ⟨g5, n5, c6, R, rfl, hG, hLt, hb5, hle⟩
    have Z := hide (laRes_some (unhide HO) (unhide I4) (unhide X4) (unhide B4) hb5 hG.gowns hLt (by omega))
    clear hG hLt hb5 hle I4 X4 B4 R5
    go_wp2_with fail
    go_ret2
    exact unhide Z
  · have ho : okD n ws = false := by simpa using ho
    rw [ho]
    have HO := hide (show okD xs.length ws = false by rw [hxl]; exact ho)
    clear ho
    go_wp2_with fail
    go_ret2
    exact laRes_bad (unhide HO) (IOwn.lit (by omega)) ((unhide B1).alloc (by omega) _)
end Go.Proofs.Ytpmbpldjjnjafaa

namespace Go.Proofs.Ytpmbpldjjnjafaa
open Go.RowKit Go.Maps

end Go.Proofs.Ytpmbpldjjnjafaa

namespace Go.Proofs.Ytpmbpldjjnjafaa
open Go.RowKit Go.Maps

end Go.Proofs.Ytpmbpldjjnjafaa

namespace Go.Proofs.Ytpmbpldjjnjafaa
open Go.RowKit

theorem szByteS_any (a : Option Addr) (n c : Nat) (left : Int) (w : World) (h0 : 0 ≤ left) (h1 : left ≤ 1048576) (hn : n ≤ maxLen) :
    Calls Try.prog 23 #[.slice a n c, .int .i64 left] w fun e w' => ∃ r : Int, e = .returned (.int .i64 r) ∧ (r = -1 ∨ (0 ≤ r ∧ r ≤ left ∧ (n : Int) ≤ left)) ∧ w' = w := by
  unfold maxLen at hn
  by_cases h : left - n < 0
  · go_enter Try.func23, Try.ntmps23
    go_wp2_with fail
    go_ret
    exact ⟨_, rfl, .inl rfl, rfl⟩
  · have hge : 0 ≤ left - n := by omega
    go_enter Try.func23, Try.ntmps23
    go_wp2_with fail
    go_ret
    exact ⟨_, rfl, .inr ⟨hge, by omega, by omega⟩, rfl⟩

theorem szWrite_any (x : Int) (a : Option Addr) (n c : Nat) (left : Int) (w : World) (h0 : 0 ≤ left) (h1 : left ≤ 1048576) (hn : n ≤ maxLen) :
    Calls Try.prog 37 #[wv x a n c, .int .i64 left] w fun e w' => ∃ r : Int, e = .returned (.int .i64 r) ∧ (r = -1 ∨ (0 ≤ r ∧ r ≤ left ∧ (n : Int) ≤ left)) ∧ Below w.heap.size w w' := by
  go_enter Try.func37, Try.ntmps37
  go_wp2_with fail
  refine (szByteS_any a n c left _ h0 h1 hn).mono ?_
  rintro e w1 ⟨r, rfl, hr, rfl⟩
  rcases hr with rfl | ⟨r0, r1, r2⟩
  · go_wp2_with fail
    go_ret
    exact ⟨-1, rfl, .inl rfl, (Below.refl _ _).alloc (Nat.le_refl _) _⟩
  · go_wp2_with fail
    go_ret
    exact ⟨r, rfl, .inr ⟨r0, r1, r2⟩, (Below.refl _ _).alloc (Nat.le_refl _) _⟩

set_option maxHeartbeats 1000000 in
theorem szWriteS_any (a : Option Addr) (n c : Nat) (ws : List WD) (left : Int) (w : World) (h0 : 0 ≤ left) (h1 : left ≤ 1048576) (hr : WRow w a n ws) (hn : n ≤ maxLen) :
    Calls Try.prog 24 #[.slice a n c, .int .i64 left] w fun e w' => ∃ r : Int, e = .returned (.int .i64 r) ∧ (r = -1 ∨ (0 ≤ r ∧ r ≤ left ∧ (n : Int) ≤ left ∧ ∀ i (hi : i < ws.length), (ws[i].xs.length : Int) ≤ left)) ∧ Below w.heap.size w w' := by
  unfold maxLen at hn
  have L := hide hr.1
  have R := hide hr.2
  clear hr
  by_cases hb : left - n < 0
  · go_enter Try.func24, Try.ntmps24
    go_wp2_with fail
    go_ret
    exact ⟨-1, rfl, .inl rfl, Below.refl _ _⟩
  have hb' : 0 ≤ left - n := by omega
  go_enter Try.func24, Try.ntmps24
  go_wp2_with fail
  go_loopw [1, 5] (fun l i wr => ∃ k : Nat, k ≤ n ∧ i = .int .i64 k ∧ ∃ q : Int, l = .int .i64 q ∧ 0 ≤ q ∧ q ≤ left - n ∧ Hid (∀ i (hi : i < ws.length), i < k → (ws[i].xs.length : Int) ≤ left) ∧ Below w.heap.size w wr) (fun _ i _ => n - (intOf i).toNat)
  case atStart => exact ⟨0, by omega, rfl, _, rfl, by omega, by omega, fun i _ hi => absurd hi (Nat.not_lt_zero _), Below.refl _ _⟩
  case round =>
    obtain ⟨k, hk, rfl, q, rfl, hq0, hq1, hA, hbel⟩ := hrel
    by_cases hlt : k < n
    · have hk2 : k < ws.length := by rw [unhide L]; exact hlt
      obtain ⟨b, off, rfl, c0, a', c', c1, hm, _⟩ := unhide R k hk2
      have hsz := hbel.size
      have hbl : b < w.heap.size := cell_lt c0
      have d0 := (hbel.cell (p := ⟨b, off + k * 2, none⟩) hbl).trans c0
      have d1 := (hbel.cell (p := ⟨b, off + k * 2 + 1, none⟩) hbl).trans c1
      have hS := hide (fun (hx : (ws[k].xs.length : Int) ≤ left) i (hi : i < ws.length) (h : i < k + 1) => show (ws[i].xs.length : Int) ≤ left from if e : i = k then by subst e; exact hx else unhide hA i hi (by omega))
      clear c0 c1 hA
      generalize ws[k] = pd at *
      go_wp2_with fail
      refine (szWrite_any pd.at_ a' pd.xs.length c' q wr hq0 (by omega) hm.1).mono ?_
      rintro e w1 ⟨r, rfl, hr, hb1⟩
      have bA := hbel.trans (hb1.mono hsz)
      clear hbel hb1 d0 d1
      rcases hr with rfl | ⟨r0, r1, r2⟩
      · go_wp2_with fail
        go_ret
        exact ⟨-1, rfl, .inl rfl, bA⟩
      · have hS2 := hide (unhide hS (by omega))
        clear hS
        go_wp2_with fail
        go_roundw
        case rel => exact ⟨k + 1, by omega, by go_num, r, rfl, r0, by omega, unhide hS2, bA⟩
        case measure => simp [intOf]; omega
    · obtain rfl : k = n := by omega
      go_wp2_with fail
      go_ret
      exact ⟨q, rfl, .inr ⟨hq0, by omega, by omega, fun i hi => unhide hA i hi (by rw [← unhide L]; exact hi)⟩, hbel⟩

theorem szFlash_any (ah : Option Addr) (nh ch : Nat) (aw : Option Addr) (nw cw : Nat) (ws : List WD) (left : Int) (w : World) (h0 : 0 ≤ left) (h1 : left ≤ 1048576) (hnh : nh ≤ maxLen) (hr : WRow w aw nw ws) (hn : nw ≤ maxLen) :
    Calls Try.prog 13 #[fv ah nh ch aw nw cw, .int .i64 left] w fun e w' => ∃ r : Int, e = .returned (.int .i64 r) ∧ (r = -1 ∨ (0 ≤ r ∧ r ≤ left ∧ (nh : Int) ≤ left ∧ (nw : Int) ≤ left ∧ ∀ i (hi : i < ws.length), (ws[i].xs.length : Int) ≤ left)) ∧ Below w.heap.size w w' := by
  have R := hide fun o => hr.below ((Below.refl _ _).alloc (Nat.le_refl _) o)
  clear hr
  go_enter Try.func13, Try.ntmps13
  go_wp2_with fail
  refine (szByteS_any ah nh ch left _ h0 h1 hnh).mono ?_
  rintro e w1 ⟨r, rfl, hr, rfl⟩
  rcases hr with rfl | ⟨r0, r1, r2⟩
  · go_wp2_with fail
    go_ret
    exact ⟨-1, rfl, .inl rfl, (Below.refl _ _).alloc (Nat.le_refl _) _⟩
  · go_wp2_with fail
    refine (szWriteS_any aw nw cw ws r _ r0 (by omega) (unhide R _) hn).mono ?_
    rintro e w2 ⟨r', rfl, hr', hb⟩
    have hb2 : Below w.heap.size w w2 := ((Below.refl _ _).alloc (Nat.le_refl _) _).trans (hb.mono (by simp))
    clear hb
    rcases hr' with rfl | ⟨q0, q1, q2, q3⟩
    · go_wp2_with fail
      go_ret
      exact ⟨-1, rfl, .inl rfl, hb2⟩
    · have Q := hide q3
      clear q3
      go_wp2_with fail
      go_ret
      exact ⟨r', rfl, .inr ⟨q0, by omega, r2, by omega, fun i hi => by have := unhide Q i hi; omega⟩, hb2⟩

set_option maxHeartbeats 1000000 in
theorem toWrite_any (d : WD) (a : Option Addr) (c : Nat) (w : World) (hn : d.xs.length ≤ 1048576) (h1 : Row w a d.xs.length d.xs) :
    Calls Try.prog 41 #[wv d.at_ a d.xs.length c] w fun e w' => ∃ a' c', e = .returned (wv d.at_ a' d.xs.length c') ∧ Mine w' w.heap.size (.slice a' d.xs.length c') d.xs ∧ Below w.heap.size w w' := by
  have R := hide fun o1 o2 o3 => row_alloc (o := o3) (row_alloc (o := o2) (row_alloc (o := o1) h1))
  clear h1
  obtain ⟨x, xs⟩ := d
  go_enter Try.func41, Try.ntmps41
  go_wp2_with fail
  refine (toByteS_any a xs.length c xs _ hn (unhide R _ _ _)).mono ?_
  clear R
  rintro e w1 ⟨v, rfl, hm, hb⟩
  obtain ⟨a', c', rfl, m1, m2, m3, m4⟩ := hm
  have hs := hb.size
  simp at hs
  have hM := hide (show Mine w1 w.heap.size (.slice a' xs.length c') xs from ⟨a', c', rfl, m1, m2, m3, fun x hx => ⟨by have := (m4 x hx).1; simp at this; omega, (m4 x hx).2⟩⟩)
  have hN := hide (show ∀ x, a' = some x → w.heap.size + 1 + 1 + 1 ≤ x.block from fun x hx => by have := (m4 x hx).1; simpa using this)
  clear m1 m2 m3 m4
  have d0 : w1.cell? ⟨w.heap.size + 1 + 1, 0, none⟩ = some (.int .i64 x) := (hb.cell (p := ⟨w.heap.size + 1 + 1, 0, none⟩) (by simp)).trans ((cell_new (by simp)).trans rfl)
  have d1 : w1.cell? ⟨w.heap.size + 1 + 1, 1, none⟩ = some (.slice none 0 0) := (hb.cell (p := ⟨w.heap.size + 1 + 1, 1, none⟩) (by simp)).trans ((cell_new (by simp)).trans rfl)
  have f1 : w1.frozen? ⟨w.heap.size + 1 + 1, 1, none⟩ = false := (hb.frozen (p := ⟨w.heap.size + 1 + 1, 1, none⟩) (by simp)).trans (frozen_new (by simp))
  have g0 : w1.cell? ⟨w.heap.size + 1, 0, none⟩ = some (.int .i64 0) := (hb.cell (p := ⟨w.heap.size + 1, 0, none⟩) (by simp)).trans ((cell_old (by simp)).trans ((cell_new (by simp)).trans rfl))
  have g1 : w1.cell? ⟨w.heap.size + 1, 1, none⟩ = some (.slice none 0 0) := (hb.cell (p := ⟨w.heap.size + 1, 1, none⟩) (by simp)).trans ((cell_old (by simp)).trans ((cell_new (by simp)).trans rfl))
  have e0 : w1.frozen? ⟨w.heap.size + 1, 0, none⟩ = false := (hb.frozen (p := ⟨w.heap.size + 1, 0, none⟩) (by simp)).trans ((frozen_old (by simp)).trans (frozen_new (by simp)))
  have e1 : w1.frozen? ⟨w.heap.size + 1, 1, none⟩ = false := (hb.frozen (p := ⟨w.heap.size + 1, 1, none⟩) (by simp)).trans ((frozen_old (by simp)).trans (frozen_new (by simp)))
  have BB := hide ((((((Below.refl w.heap.size w).alloc (Nat.le_refl _) _).alloc (by simp) _).alloc (by simp; omega) _).trans (hb.mono (by simp; omega))))
  clear hb
  go_wp2_with fail
  have B3 := hide ((((unhide BB).setCell (p := ⟨w.heap.size + 1 + 1, 1, none⟩) (by simp; omega) (.slice a' xs.length c')).setCell (p := ⟨w.heap.size + 1, 0, none⟩) (by simp) (.int .i64 x)).setCell (p := ⟨w.heap.size + 1, 1, none⟩) (by simp) (.slice a' xs.length c'))
  have hlt : w.heap.size + 1 < w1.heap.size := by omega
  refine bodyPost_ret (v := wv x a' xs.length c') (by simp [results, Try.results41, go_sem, g0, g1]) rfl ⟨a', c', rfl, ?_, unhide B3⟩
  obtain ⟨a1, c1, e, m1, m2, m3, m4⟩ := unhide hM
  injection e with e1 _ e3
  subst e1 e3
  refine ⟨a', c', rfl, m1, m2, m3.of_cells fun y hy p hp => ?_, fun y hy => ⟨(m4 y hy).1, by simpa using (m4 y hy).2.1, fun j => by simpa using (m4 y hy).2.2 j⟩⟩
  have := unhide hN y hy
  rw [World.cell?_setCell_other _ _ _ _ (by intro e; rw [← e] at hp; simp at hp; omega), World.cell?_setCell_other _ _ _ _ (by intro e; rw [← e] at hp; simp at hp; omega), World.cell?_setCell_other _ _ _ _ (by intro e; rw [← e] at hp; simp at hp; omega)]
end Go.Proofs.Ytpmbpldjjnjafaa

namespace Go.Proofs.Ytpmbpldjjnjafaa
open Go.RowKit

theorem wown_made {w : World} {base g n : Nat} (h : w.ownsRow base 75 2 (.slice (some ⟨g, 0, none⟩) n n) n (madeCells #[.int .i64 0, .slice none 0 0] (n * 2)).toList) : WOwn w g n (fun _ => ⟨0, []⟩) (fun _ => none) (fun _ => 0) := by
  have e : ∀ j, j < n * 2 → (madeCells #[.int .i64 0, .slice none 0 0] (n * 2)).toList[j]? = some ((#[.int .i64 0, .slice none 0 0] : Array Value)[j % 2]!) := fun j hj => by simp [madeCells, hj]
  refine ⟨(h.lt g rfl).2, fun j => h.frozenAt j, fun i hi => ?_, fun i hi => ?_, fun i hi => ⟨by unfold maxLen; simp, by simp⟩, fun i hi => ⟨rfl, fun j hj => absurd hj (Nat.not_lt_zero _)⟩, fun i hi x hx => (by cases hx), fun i j _ _ _ x y hx => (by cases hx)⟩
  · rw [h.cellAt _ (by omega), e _ (by omega), show i * 2 % 2 = 0 by omega]; rfl
  · rw [h.cellAt _ (by omega), e _ (by omega), show (i * 2 + 1) % 2 = 1 by omega]; rfl

set_option maxHeartbeats 2000000 in
theorem toWriteS_any (a : Option Addr) (n c : Nat) (ws : List WD) (w : World) (hn : n ≤ 1048576) (hx : ∀ i (hi : i < ws.length), ws[i].xs.length ≤ 1048576) (hr : WRow w a n ws) :
    Calls Try.prog 28 #[.slice a n c] w fun e w' => ∃ g W A C, e = .returned (.slice (some ⟨g, 0, none⟩) n n) ∧ w.heap.size ≤ g ∧ WOwn w' g n W A C ∧ (∀ i (hi : i < ws.length), W i = ws[i]) ∧ (∀ i x, A i = some x → w.heap.size ≤ x.block) ∧ Below w.heap.size w w' := by
  obtain ⟨i0, hi, hz0, hz1, hz2⟩ := info_parts Try.infoWrite
  have L := hide hr.1
  have R := hide hr.2
  have X := hide hx
  clear hr hx
  go_enter Try.func28, Try.ntmps28
  go_wp2_with (at_make; refine wpList_make_full _ rfl _ _ 38 rfl w.heap.size 75 i0 _ 2 Try.underlying38 hi hz0 hz1 _ _ _ _ n rfl rfl rfl rfl (by rw [hz2]; omega) (by unfold maxLen; omega) (Nat.le_refl _) ?_)
  intro w1 hown hgrow
  have hl0 := wown_made hown
  have hbel : Below w.heap.size w w1 := (Below.refl _ _).grown hgrow (Nat.le_refl _) (fun k hk => by cases hk)
  clear hown hgrow
  go_wp2_with fail
  go_loopw [4] (fun i wr => ∃ k : Nat, k ≤ n ∧ i = .int .i64 k ∧ (∃ W A C, Hid (WOwn wr w.heap.size n W A C) ∧ Hid (∀ i (hi : i < ws.length), i < k → W i = ws[i]) ∧ Hid (∀ i x, A i = some x → w.heap.size ≤ x.block)) ∧ Below w.heap.size w wr) (fun i _ => n - (intOf i).toNat)
  case atStart => exact ⟨0, by omega, rfl, ⟨_, _, _, hl0, fun i _ hi => absurd hi (Nat.not_lt_zero _), fun i x hx => by cases hx⟩, hbel⟩
  case round =>
    clear hl0 hbel
    obtain ⟨k, hk, rfl, ⟨W, A, C, hO, hW, hA⟩, hb⟩ := hrel
    by_cases hlt : k < n
    · have hk2 : k < ws.length := by rw [unhide L]; exact hlt
      obtain ⟨b, off, rfl, c0, a', c', c1, _, r1⟩ := unhide R k hk2
      have hX := unhide X k hk2
      have hbl : b < w.heap.size := cell_lt c0
      have d0 := (hb.cell (p := ⟨b, off + k * 2, none⟩) hbl).trans c0
      have d1 := (hb.cell (p := ⟨b, off + k * 2 + 1, none⟩) hbl).trans c1
      have r2 := hide (row_grow r1 hb)
      have hW2 := hide (fun i (hi : i < ws.length) (h : i < k + 1) => show updW W k ws[k] i = ws[i] from if e : i = k then by subst e; simp [updW] else by simp [updW, e]; exact unhide hW i hi (by omega))
      clear c0 c1 r1 hW
      generalize ws[k] = pd at *
      go_wp2_with fail
      refine (toWrite_any pd a' c' wr hX (unhide r2)).mono ?_
      rintro e w2 ⟨a2, c2, rfl, hm, hb2⟩
      have O2 := (unhide hO).below hb2
      have S := hide (O2.lay (d := pd) (a := a2) (c := c2) hlt (B := wr.heap.size) (unhide hO).lt (fun i hi x hx => ((unhide hO).own i hi x hx).2.1) hm)
      have A2 := hide (show ∀ i x, updA A k a2 i = some x → w.heap.size ≤ x.block from fun i x hx => by
        unfold updA at hx
        by_cases e : i = k
        · rw [if_pos e] at hx
          obtain ⟨a3, c3, e3, _, _, _, h4⟩ := hm
          injection e3 with e3
          have h5 := (h4 x (e3 ▸ hx)).1
          have h6 := hb.size
          omega
        · rw [if_neg e] at hx; exact unhide hA i x hx)
      have e0 := O2.at_ k hlt
      have e1 := O2.data k hlt
      have f0 := O2.free (k * 2)
      have f1 := O2.free (k * 2 + 1)
      have B2 := hide (((hb.trans (hb2.mono hb.size)).setCell (p := ⟨w.heap.size, k * 2, none⟩) (Nat.le_refl _) (.int .i64 pd.at_)).setCell (p := ⟨w.heap.size, k * 2 + 1, none⟩) (Nat.le_refl _) (.slice a2 pd.xs.length c2))
      clear O2 hb hb2 d0 d1 hO hA r2 hm
      go_wp2_with fail
      go_roundw
      case rel => exact ⟨k + 1, by omega, by go_num, ⟨_, _, _, unhide S, unhide hW2, unhide A2⟩, unhide B2⟩
      case measure => simp [intOf]; omega
    · obtain rfl : k = n := by omega
      go_wp2_with fail
      go_ret
      exact ⟨_, W, A, C, rfl, Nat.le_refl _, unhide hO, fun i hi => unhide hW i hi (by rw [← unhide L]; exact hi), unhide hA, hb⟩

/-- A device in memory of the call's own, from block 'lo' on. -/
def FMine (w : World) (lo : Nat) (ah : Option Addr) (nh ch g nw : Nat) (xs : List Int) (ws : List WD) : Prop :=
  (∃ b, ah = some ⟨b, 0, none⟩) ∧ xs.length = nh ∧ ws.length = nw ∧ Mine w lo (.slice ah nh ch) xs ∧ lo ≤ g ∧ ∃ W A C, WOwn w g nw W A C ∧ (∀ i (hi : i < ws.length), W i = ws[i]) ∧ (∀ i x, A i = some x → lo ≤ x.block) ∧ ∀ x, ah = some x → x.block ≠ g ∧ ∀ i y, A i = some y → x.block ≠ y.block
theorem mine_below {w w' : World} {B : Nat} {v : Value} {xs : List Int} (h : Mine w B v xs) (hb : Below w.heap.size w w') : Mine w' B v xs := by
  obtain ⟨a, c, e, h1, h2, h3, h4⟩ := h
  exact ⟨a, c, e, h1, h2, row_grow h3 hb, fun x hx => ⟨(h4 x hx).1, Nat.lt_of_lt_of_le (h4 x hx).2.1 hb.size, fun j => (hb.frozen (p := ⟨x.block, j, none⟩) (h4 x hx).2.1).trans ((h4 x hx).2.2 j)⟩⟩
theorem FMine.below {w w' : World} {lo : Nat} {ah : Option Addr} {nh ch g nw : Nat} {xs : List Int} {ws : List WD} (h : FMine w lo ah nh ch g nw xs ws) (hb : Below w.heap.size w w') : FMine w' lo ah nh ch g nw xs ws := by
  obtain ⟨h0, h1, h2, h3, h4, W, A, C, h5, h6, h7, h8⟩ := h
  exact ⟨h0, h1, h2, mine_below h3 hb, h4, W, A, C, h5.below hb, h6, h7, h8⟩
theorem Kept.mine {S : Nat → Prop} {w w' : World} {B : Nat} {v : Value} {xs : List Int} (hk : Kept S w w') (h : Mine w B v xs) (hS : ∀ k, B ≤ k → S k) : Mine w' B v xs := by
  obtain ⟨a, c, e, h1, h2, h3, h4⟩ := h
  exact ⟨a, c, e, h1, h2, hk.row h3 (fun x hx => hS _ (h4 x hx).1), fun x hx => ⟨(h4 x hx).1, Nat.lt_of_lt_of_le (h4 x hx).2.1 hk.1, fun j => (hk.frozen (p := ⟨x.block, j, none⟩) (hS _ (h4 x hx).1) (h4 x hx).2.1).trans ((h4 x hx).2.2 j)⟩⟩
theorem FMine.kept {S : Nat → Prop} {w w' : World} {lo : Nat} {ah : Option Addr} {nh ch g nw : Nat} {xs : List Int} {ws : List WD} (h : FMine w lo ah nh ch g nw xs ws) (hk : Kept S w w') (hS : ∀ k, lo ≤ k → S k) : FMine w' lo ah nh ch g nw xs ws := by
  obtain ⟨h0, h1, h2, h3, h4, W, A, C, h5, h6, h7, h8⟩ := h
  exact ⟨h0, h1, h2, hk.mine h3 hS, h4, W, A, C, h5.kept hk (hS _ h4) (fun i _ x hx => hS _ (h7 i x hx)), h6, h7, h8⟩
theorem FMine.mono {w : World} {lo lo' : Nat} {ah : Option Addr} {nh ch g nw : Nat} {xs : List Int} {ws : List WD} (h : FMine w lo ah nh ch g nw xs ws) (hl : lo' ≤ lo) : FMine w lo' ah nh ch g nw xs ws := by
  obtain ⟨h0, h1, h2, h3, h4, W, A, C, h5, h6, h7, h8⟩ := h
  exact ⟨h0, h1, h2, mine_mono h3 hl, Nat.le_trans hl h4, W, A, C, h5, h6, fun i x hx => Nat.le_trans hl (h7 i x hx), h8⟩
theorem FMine.row {w : World} {lo : Nat} {ah : Option Addr} {nh ch g nw : Nat} {xs : List Int} {ws : List WD} (h : FMine w lo ah nh ch g nw xs ws) : Row w ah nh xs := by
  obtain ⟨_, h1, _, ⟨a, c, e, _, _, h3, _⟩, _⟩ := h
  injection e with e1 e2
  subst e1
  rw [← h1]; exact h3
theorem FMine.wrow {w : World} {lo : Nat} {ah : Option Addr} {nh ch g nw : Nat} {xs : List Int} {ws : List WD} (h : FMine w lo ah nh ch g nw xs ws) : WRow w (some ⟨g, 0, none⟩) nw ws := by
  obtain ⟨_, _, h2, _, _, W, A, C, h5, h6, _⟩ := h
  exact h5.wrow h2 h6

set_option maxHeartbeats 1000000 in
theorem toFlash_any (ah : Option Addr) (nh ch : Nat) (aw : Option Addr) (nw cw : Nat) (xs : List Int) (ws : List WD) (w : World) (hnh : nh ≤ 1048576) (hn : nw ≤ 1048576) (hx : ∀ i (hi : i < ws.length), ws[i].xs.length ≤ 1048576) (hh : Row w ah nh xs) (hr : WRow w aw nw ws) :
    Calls Try.prog 15 #[fv ah nh ch aw nw cw] w fun e w' => ∃ ah' ch' g, e = .returned (fv ah' nh ch' (some ⟨g, 0, none⟩) nw nw) ∧ FMine w' w.heap.size ah' nh ch' g nw xs ws ∧ Below w.heap.size w w' := by
  have hb0 : ∀ o1 o2 o3, Below w.heap.size w (((w.alloc o1).alloc o2).alloc o3) := fun o1 o2 o3 => (((Below.refl w.heap.size w).alloc (Nat.le_refl _) _).alloc (by simp) _).alloc (by simp; omega) _
  have R1 := hide fun o1 o2 o3 => row_grow hh (hb0 o1 o2 o3)
  have R2 := hide hr
  have hxl := hide hh.1
  have hwl := hide hr.1
  have X := hide hx
  clear hh hr hx
  go_enter Try.func15, Try.ntmps15
  go_wp2_with fail
  refine (toByteS_at ah nh ch xs _ hnh (unhide R1 _ _ _)).mono ?_
  clear R1
  rintro e w1 ⟨rfl, hm, hb⟩
  obtain ⟨a1, c1, ea, m1, m2, m3, m4⟩ := hm
  have ha1 : ∃ b, a1 = some ⟨b, 0, none⟩ := by injection ea with e1; exact ⟨_, e1.symm⟩
  have hA1 := hide ha1
  clear ha1
  rw [ea]
  clear ea
  rw [unhide hxl] at m1 m3 ⊢
  have hs := hb.size
  simp at hs
  have M := hide (show Mine w1 (w.heap.size + 1 + 1 + 1) (.slice a1 nh c1) xs from ⟨a1, c1, by rw [unhide hxl], by rw [unhide hxl]; exact m1, m2, by rw [unhide hxl]; exact m3, fun x hx => ⟨by have := (m4 x hx).1; simpa using this, (m4 x hx).2⟩⟩)
  clear m1 m2 m3 m4
  have d1 : w1.cell? ⟨w.heap.size, 1, none⟩ = some (.slice aw nw cw) := (hb.cell (p := ⟨w.heap.size, 1, none⟩) (by simp; omega)).trans ((cell_old (by simp; omega)).trans ((cell_old (by simp)).trans ((cell_new rfl).trans rfl)))
  have o0 : w1.cell? ⟨w.heap.size + 1 + 1, 0, none⟩ = some (.slice none 0 0) := (hb.cell (p := ⟨w.heap.size + 1 + 1, 0, none⟩) (by simp)).trans ((cell_new (by simp)).trans rfl)
  have o1 : w1.cell? ⟨w.heap.size + 1 + 1, 1, none⟩ = some (.slice none 0 0) := (hb.cell (p := ⟨w.heap.size + 1 + 1, 1, none⟩) (by simp)).trans ((cell_new (by simp)).trans rfl)
  have g0 : w1.cell? ⟨w.heap.size + 1, 0, none⟩ = some (.slice none 0 0) := (hb.cell (p := ⟨w.heap.size + 1, 0, none⟩) (by simp)).trans ((cell_old (by simp)).trans ((cell_new (by simp)).trans rfl))
  have g1 : w1.cell? ⟨w.heap.size + 1, 1, none⟩ = some (.slice none 0 0) := (hb.cell (p := ⟨w.heap.size + 1, 1, none⟩) (by simp)).trans ((cell_old (by simp)).trans ((cell_new (by simp)).trans rfl))
  have fo : ∀ j, w1.frozen? ⟨w.heap.size + 1 + 1, j, none⟩ = false := fun j => (hb.frozen (p := ⟨w.heap.size + 1 + 1, j, none⟩) (by simp)).trans (frozen_new (by simp))
  have fg : ∀ j, w1.frozen? ⟨w.heap.size + 1, j, none⟩ = false := fun j => (hb.frozen (p := ⟨w.heap.size + 1, j, none⟩) (by simp)).trans ((frozen_old (by simp)).trans (frozen_new (by simp)))
  have BB := (hb0 (.cells #[.slice ah nh ch, .slice aw nw cw] 34) (.cells #[.slice none 0 0, .slice none 0 0] 40) (.cells #[.slice none 0 0, .slice none 0 0] 40)).trans (hb.mono (by simp; omega))
  clear hb hb0
  -- behind the first store
  obtain ⟨wx, hwx⟩ : ∃ wx, wx = w1.setCell ⟨w.heap.size + 1 + 1, 0, none⟩ (.slice a1 nh c1) := ⟨_, rfl⟩
  have x0 : wx.cell? ⟨w.heap.size + 1 + 1, 0, none⟩ = some (.slice a1 nh c1) := by rw [hwx]; exact World.cell?_setCell_same _ _ _ o0
  have ot : ∀ p : Addr, p ≠ ⟨w.heap.size + 1 + 1, 0, none⟩ → wx.cell? p = w1.cell? p := fun p hp => by rw [hwx]; exact World.cell?_setCell_other _ _ _ _ (fun e => hp e.symm)
  have x1 := (ot ⟨w.heap.size + 1 + 1, 1, none⟩ (by simp)).trans o1
  have y1 := (ot ⟨w.heap.size, 1, none⟩ (by simp)).trans d1
  have z0 := (ot ⟨w.heap.size + 1, 0, none⟩ (by simp)).trans g0
  have z1 := (ot ⟨w.heap.size + 1, 1, none⟩ (by simp)).trans g1
  have ff : ∀ p, wx.frozen? p = w1.frozen? p := fun p => by rw [hwx]; simp
  have BX := hide (show Below w.heap.size w wx by rw [hwx]; exact BB.setCell (p := ⟨w.heap.size + 1 + 1, 0, none⟩) (by simp; omega) _)
  have hsx : w.heap.size + 1 + 1 + 1 ≤ wx.heap.size := by rw [hwx]; simpa using hs
  have MX := hide (show Mine wx (w.heap.size + 1 + 1 + 1) (.slice a1 nh c1) xs from by
    obtain ⟨a, c, e, m1, m2, m3, m4⟩ := unhide M
    refine ⟨a, c, e, m1, m2, m3.of_cells fun y hy p hp => ot p (fun e => by have := (m4 y hy).1; rw [← hp, e] at this; simp at this; omega), fun y hy => ⟨(m4 y hy).1, by rw [hwx]; simpa using (m4 y hy).2.1, fun j => (ff _).trans ((m4 y hy).2.2 j)⟩⟩)
  have RX := hide ((unhide R2).below (unhide BX))
  have fo0 := fo 0
  clear M R2 BB ot hs g0 g1
  go_wp2_with fail
  rw [← hwx]
  clear hwx o0 o1 fo0 d1
  refine (toWriteS_any aw nw cw ws wx hn (unhide X) (unhide RX)).mono ?_
  rintro e w2 ⟨g, W, A, C, rfl, hg, hO, hW, hA, hb⟩
  have hlt1 : w.heap.size + 1 + 1 < wx.heap.size := by omega
  have p0 := (hb.cell (p := ⟨w.heap.size + 1 + 1, 0, none⟩) hlt1).trans x0
  have p1 := (hb.cell (p := ⟨w.heap.size + 1 + 1, 1, none⟩) hlt1).trans x1
  have q0 := (hb.cell (p := ⟨w.heap.size + 1, 0, none⟩) (show w.heap.size + 1 < wx.heap.size by omega)).trans z0
  have q1 := (hb.cell (p := ⟨w.heap.size + 1, 1, none⟩) (show w.heap.size + 1 < wx.heap.size by omega)).trans z1
  have f1 : w2.frozen? ⟨w.heap.size + 1 + 1, 1, none⟩ = false := (hb.frozen (p := ⟨w.heap.size + 1 + 1, 1, none⟩) hlt1).trans ((ff _).trans (fo 1))
  have k0 : w2.frozen? ⟨w.heap.size + 1, 0, none⟩ = false := (hb.frozen (p := ⟨w.heap.size + 1, 0, none⟩) (show w.heap.size + 1 < wx.heap.size by omega)).trans ((ff _).trans (fg 0))
  have k1 : w2.frozen? ⟨w.heap.size + 1, 1, none⟩ = false := (hb.frozen (p := ⟨w.heap.size + 1, 1, none⟩) (show w.heap.size + 1 < wx.heap.size by omega)).trans ((ff _).trans (fg 1))
  have F2 := hide (show FMine w2 (w.heap.size + 1 + 1 + 1) a1 nh c1 g nw xs ws from ⟨unhide hA1, unhide hxl, unhide hwl, mine_below (unhide MX) hb, by omega, W, A, C, hO, hW, fun i x hx => by have := hA i x hx; omega, fun x hx => by
    obtain ⟨a, c, e, _, _, _, m4⟩ := unhide MX
    injection e with e1
    have := (m4 x (e1 ▸ hx)).2.1
    exact ⟨by omega, fun i y hy => by have := hA i y hy; omega⟩⟩)
  have B2 := hide ((unhide BX).trans (hb.mono (by omega)))
  have hs2 : w.heap.size + 1 < w2.heap.size := by have := hb.size; omega
  clear x0 x1 z0 z1 ff MX BX RX hO hW hA hb fo fg
  go_wp2_with fail
  have B3 := hide ((((unhide B2).setCell (p := ⟨w.heap.size + 1 + 1, 1, none⟩) (by simp; omega) (.slice (some ⟨g, 0, none⟩) nw nw)).setCell (p := ⟨w.heap.size + 1, 0, none⟩) (by simp) (.slice a1 nh c1)).setCell (p := ⟨w.heap.size + 1, 1, none⟩) (by simp) (.slice (some ⟨g, 0, none⟩) nw nw))
  refine bodyPost_ret (v := fv a1 nh c1 (some ⟨g, 0, none⟩) nw nw) (by simp [results, Try.results15, go_sem, q0, q1]) rfl ⟨a1, c1, g, rfl, ?_, unhide B3⟩
  exact ((unhide F2).kept (S := fun k => w.heap.size + 1 + 1 + 1 ≤ k) (((Kept.set (by simp) _ _ _).trans (Kept.set (by simp; omega) _ _ _)).trans (Kept.set (by simp; omega) _ _ _)) (fun _ h => h)).mono (by omega)
end Go.Proofs.Ytpmbpldjjnjafaa

namespace Go.Proofs.Ytpmbpldjjnjafaa
open Go.RowKit

theorem eqBytes_same (a1 a2 : Option Addr) (n c1 c2 : Nat) (xs : List Int) (w : World) (hn : n ≤ maxLen) (h1 : Row w a1 n xs) (h2 : Row w a2 n xs) :
    Calls Try.prog 9 #[.slice a1 n c1, .slice a2 n c2] w fun e w' => e = .returned (.bool true) ∧ Below w.heap.size w w' := by
  refine (eqByteS_any a1 a2 n n c1 c2 xs xs w hn hn h1 h2).mono ?_
  rintro e w' ⟨rfl, k, rfl⟩
  exact ⟨ret_bool (by simp), bel_drewN (Below.refl _ _) _⟩
set_option maxHeartbeats 1000000 in
theorem eqWrite_any (x : Int) (a1 a2 : Option Addr) (n c1 c2 : Nat) (xs : List Int) (w : World) (hn : n ≤ maxLen) (h1 : Row w a1 n xs) (h2 : Row w a2 n xs) :
    Calls Try.prog 50 #[wv x a1 n c1, wv x a2 n c2] w fun e w' => e = .returned (.bool true) ∧ Below w.heap.size w w' := by
  have hb0 : ∀ o1 o2, Below w.heap.size w ((w.alloc o1).alloc o2) := fun o1 o2 => ((Below.refl w.heap.size w).alloc (Nat.le_refl _) _).alloc (by simp) _
  have R1 := hide fun o1 o2 => row_grow h1 (hb0 o1 o2)
  have R2 := hide fun o1 o2 => row_grow h2 (hb0 o1 o2)
  clear h1 h2
  go_enter Try.func50, Try.ntmps50
  go_wp2_with fail
  refine (eqBytes_same a1 a2 n c1 c2 xs _ hn (unhide R1 _ _) (unhide R2 _ _)).mono ?_
  rintro e w1 ⟨rfl, hb⟩
  have B := hide ((hb0 _ _).trans (hb.mono (by simp; omega)))
  clear hb
  go_wp2_with fail
  go_ret
  exact ⟨rfl, unhide B⟩
set_option maxHeartbeats 1000000 in
theorem eqWriteS_any (a1 a2 : Option Addr) (n c1 c2 : Nat) (ws : List WD) (w : World) (hn : n ≤ maxLen) (h1 : WRow w a1 n ws) (h2 : WRow w a2 n ws) :
    Calls Try.prog 33 #[.slice a1 n c1, .slice a2 n c2] w fun e w' => e = .returned (.bool true) ∧ Below w.heap.size w w' := by
  have L := hide h1.1
  have R1 := hide h1
  have R2 := hide h2
  clear h1 h2
  unfold maxLen at hn
  go_enter Try.func33, Try.ntmps33
  go_wp2_with fail
  go_loopw [5] (fun i wr => ∃ k : Nat, k ≤ n ∧ i = .int .i64 k ∧ Below w.heap.size w wr) (fun i _ => n - (intOf i).toNat)
  case atStart => exact ⟨0, by omega, rfl, Below.refl _ _⟩
  case round =>
    obtain ⟨k, hk, rfl, hb⟩ := hrel
    by_cases hlt : k < n
    · have hk2 : k < ws.length := by rw [unhide L]; exact hlt
      obtain ⟨b, off, rfl, d0, a', c', d1, hm, r1⟩ := ((unhide R1).below hb).2 k hk2
      obtain ⟨b', off', rfl, y0, a'', c'', y1, _, r2⟩ := ((unhide R2).below hb).2 k hk2
      have H1 := hide r1
      have H2 := hide r2
      clear r1 r2
      generalize ws[k] = pd at *
      have hsz := hb.size
      go_wp2_with fail
      go_region_with (go_at_call 50; (first | refine (eqWrite_any pd.at_ a' a'' pd.xs.length c' c'' pd.xs wr.drew hm.1 (unhide H1) (unhide H2)).mono ?_ | refine (eqWrite_any pd.at_ a' a'' pd.xs.length c' c'' pd.xs wr hm.1 (unhide H1) (unhide H2)).mono ?_); rintro e w2 ⟨rfl, hb2⟩)
      all_goals
        have bA : Below w.heap.size w w2 := by first | exact hb.drew.trans (hb2.mono hsz) | exact (bel_drewN hb _).trans (hb2.mono hsz) | exact hb.trans (hb2.mono hsz)
        clear hb hb2 d0 d1 y0 y1
        go_wp2_with fail
        go_roundw
        case rel => exact ⟨k + 1, by omega, by go_num, bA⟩
        case measure => simp [intOf]; omega
    · obtain rfl : k = n := by omega
      go_wp2_with fail
      go_ret
      exact ⟨rfl, hb⟩
set_option maxHeartbeats 1000000 in
theorem eqFlash_any (a1 a2 : Option Addr) (nh c1 c2 : Nat) (b1 b2 : Option Addr) (nw d1 d2 : Nat) (xs : List Int) (ws : List WD) (w : World) (hnh : nh ≤ maxLen) (hn : nw ≤ maxLen) (h1 : Row w a1 nh xs) (h2 : Row w a2 nh xs) (h3 : WRow w b1 nw ws) (h4 : WRow w b2 nw ws) :
    Calls Try.prog 17 #[fv a1 nh c1 b1 nw d1, fv a2 nh c2 b2 nw d2] w fun e w' => e = .returned (.bool true) ∧ Below w.heap.size w w' := by
  have hb0 : ∀ o1 o2, Below w.heap.size w ((w.alloc o1).alloc o2) := fun o1 o2 => ((Below.refl w.heap.size w).alloc (Nat.le_refl _) _).alloc (by simp) _
  have R1 := hide fun o1 o2 => row_grow h1 (hb0 o1 o2)
  have R2 := hide fun o1 o2 => row_grow h2 (hb0 o1 o2)
  have R3 := hide h3
  have R4 := hide h4
  clear h1 h2 h3 h4
  go_enter Try.func17, Try.ntmps17
  go_wp2_with fail
  refine (eqBytes_same a1 a2 nh c1 c2 xs _ hnh (unhide R1 _ _) (unhide R2 _ _)).mono ?_
  rintro e w1 ⟨rfl, hb⟩
  have B := hide ((hb0 (.cells #[.slice a1 nh c1, .slice b1 nw d1] 40) (.cells #[.slice a2 nh c2, .slice b2 nw d2] 40)).trans (hb.mono (by simp; omega)))
  have p1 : w1.cell? ⟨w.heap.size, 1, none⟩ = some (.slice b1 nw d1) := (hb.cell (p := ⟨w.heap.size, 1, none⟩) (by simp; omega)).trans ((cell_old (by simp)).trans ((cell_new rfl).trans rfl))
  have p2 : w1.cell? ⟨w.heap.size + 1, 1, none⟩ = some (.slice b2 nw d2) := (hb.cell (p := ⟨w.heap.size + 1, 1, none⟩) (by simp)).trans ((cell_new (by simp)).trans rfl)
  have hsz := (unhide B).size
  clear hb
  go_wp2_with fail
  refine (eqWriteS_any b1 b2 nw d1 d2 ws w1 hn ((unhide R3).below (unhide B)) ((unhide R4).below (unhide B))).mono ?_
  rintro e w2 ⟨rfl, hb2⟩
  have B2 := hide ((unhide B).trans (hb2.mono hsz))
  clear hb2 p1 p2
  go_wp2_with fail
  go_ret
  exact ⟨rfl, unhide B2⟩
end Go.Proofs.Ytpmbpldjjnjafaa

namespace Go.Proofs.Ytpmbpldjjnjafaa
open Go.RowKit

/-- The law's argument as it lies in its own block, and behind it. -/
structure Args (w wr : World) (ah : Option Addr) (nh ch : Nat) (aw : Option Addr) (nw cw : Nat) (xs : List Int) (ws : List WD) : Prop where
  bel : Below w.heap.size w wr
  size : w.heap.size + 1 ≤ wr.heap.size
  c0 : wr.cell? ⟨w.heap.size, 0, none⟩ = some (.slice ah nh ch)
  c1 : wr.cell? ⟨w.heap.size, 1, none⟩ = some (.slice aw nw cw)
  row : Row wr ah nh xs
  wrow : WRow wr aw nw ws
theorem Args.start {w : World} {ah : Option Addr} {nh ch : Nat} {aw : Option Addr} {nw cw : Nat} {xs : List Int} {ws : List WD} (hr : Row w ah nh xs) (hw : WRow w aw nw ws) (t : TypeId) :
    Args w (w.alloc (.cells #[.slice ah nh ch, .slice aw nw cw] t)) ah nh ch aw nw cw xs ws :=
  have b : Below w.heap.size w (w.alloc (.cells #[.slice ah nh ch, .slice aw nw cw] t)) := (Below.refl _ _).alloc (Nat.le_refl _) _
  ⟨b, by simp, (cell_new rfl).trans rfl, (cell_new rfl).trans rfl, row_grow hr b, hw.below b⟩
theorem Args.step {w wr w2 : World} {ah : Option Addr} {nh ch : Nat} {aw : Option Addr} {nw cw : Nat} {xs : List Int} {ws : List WD} (h : Args w wr ah nh ch aw nw cw xs ws) (hb : Below wr.heap.size wr w2) : Args w w2 ah nh ch aw nw cw xs ws :=
  have hs := h.size
  ⟨h.bel.trans (hb.mono h.bel.size), Nat.le_trans h.size hb.size, (hb.cell (p := ⟨w.heap.size, 0, none⟩) (by simp; omega)).trans h.c0, (hb.cell (p := ⟨w.heap.size, 1, none⟩) (by simp; omega)).trans h.c1, row_grow h.row hb, h.wrow.below hb⟩

end Go.Proofs.Ytpmbpldjjnjafaa

namespace Go.Proofs.Ytpmbpldjjnjafaa
open Go.RowKit

theorem WOwn.setAt {w : World} {g n k : Nat} {W : Nat → WD} {A : Nat → Option Addr} {C : Nat → Nat} (h : WOwn w g n W A C) (hk : k < n) (x : Int) : WOwn (w.setCell ⟨g, k * 2, none⟩ (.int .i64 x)) g n (updW W k ⟨x, (W k).xs⟩) A C := by
  have ne : ∀ p q : Nat, p ≠ q → (⟨g, p, none⟩ : Addr) ≠ ⟨g, q, none⟩ := fun p q hpq e => hpq (by injection e)
  have nb : ∀ p : Addr, p.block ≠ g → (w.setCell ⟨g, k * 2, none⟩ (.int .i64 x)).cell? p = w.cell? p := fun p hp => World.cell?_setCell_other _ _ _ _ (by intro e; rw [← e] at hp; exact hp rfl)
  have hx : ∀ i, (updW W k ⟨x, (W k).xs⟩ i).xs = (W i).xs := fun i => by
    unfold updW
    split
    · rename_i e; rw [e]
    · rfl
  refine ⟨by simpa using h.lt, fun j => by simpa using h.free j, fun i hi => ?_, fun i hi => ?_, fun i hi => ?_, fun i hi => ?_, fun i hi y hy => ⟨(h.own i hi y hy).1, by simpa using (h.own i hi y hy).2.1, fun j => by simpa using (h.own i hi y hy).2.2 j⟩, h.apart⟩
  · unfold updW
    by_cases e : i = k
    · subst e
      rw [if_pos rfl]
      exact World.cell?_setCell_same _ _ _ (h.at_ i hi)
    · rw [if_neg e, World.cell?_setCell_other _ _ _ _ (ne _ _ (by omega))]
      exact h.at_ i hi
  · rw [hx, World.cell?_setCell_other _ _ _ _ (ne _ _ (by omega))]
    exact h.data i hi
  · rw [hx]; exact h.len i hi
  · rw [hx]; exact (h.row i hi).of_cells fun y hy p hp => nb p (by rw [hp]; exact (h.own i hi y hy).1)
theorem WOwn.marked {w w' : World} {g n k : Nat} {W : Nat → WD} {A : Nat → Option Addr} {C : Nat → Nat} {ys : List Int} (h : WOwn w g n W A C) (hk : k < n) (ht : Touch (A k) w w') (hr : Row w' (A k) (W k).xs.length ys) : WOwn w' g n (updW W k ⟨(W k).at_, ys⟩) A C := by
  have hl := hr.1
  have hs := ht.size
  have kept : ∀ b, (∀ x, A k = some x → b ≠ x.block) → w'.heap[b]? = w.heap[b]? := fun b hb => by
    rcases ht with rfl | ⟨x, hx, ho⟩
    · rfl
    · exact ho.block b (hb x hx)
  have fz : ∀ a, w'.frozen? a = w.frozen? a := fun a => by
    rcases ht with rfl | ⟨x, hx, ho⟩
    · rfl
    · exact ho.frozen a
  have hg : w'.heap[g]? = w.heap[g]? := kept g (fun x hx e => (h.own k hk x hx).1 e.symm)
  have cg : ∀ j, w'.cell? ⟨g, j, none⟩ = w.cell? ⟨g, j, none⟩ := fun j => World.cell?_of_block (w := w) (a := ⟨g, j, none⟩) hg
  refine ⟨by rw [hs]; exact h.lt, fun j => (fz _).trans (h.free j), fun i hi => ?_, fun i hi => ?_, fun i hi => ?_, fun i hi => ?_, fun i hi x hx => ⟨(h.own i hi x hx).1, by rw [hs]; exact (h.own i hi x hx).2.1, fun j => (fz _).trans ((h.own i hi x hx).2.2 j)⟩, h.apart⟩
  · rw [cg]
    unfold updW
    by_cases e : i = k
    · subst e; rw [if_pos rfl]; exact h.at_ i hi
    · rw [if_neg e]; exact h.at_ i hi
  · rw [cg]
    unfold updW
    by_cases e : i = k
    · subst e; rw [if_pos rfl, hl]; exact h.data i hi
    · rw [if_neg e]; exact h.data i hi
  · unfold updW
    by_cases e : i = k
    · subst e; rw [if_pos rfl, hl]; exact h.len i hi
    · rw [if_neg e]; exact h.len i hi
  · unfold updW
    by_cases e : i = k
    · subst e; rw [if_pos rfl, hl]; exact hr
    · rw [if_neg e]
      exact (h.row i hi).of_cells fun x hx p hp => World.cell?_of_block (w := w) (kept p.block (fun y hy => by rw [hp]; exact h.apart i k hi hk e x y hx hy))
/-- The blocks of S hold what they held, and nothing else of the world has changed. -/
structure Band (S : Nat → Prop) (w w' : World) : Prop where
  os : w'.os = w.os
  tape : w'.tape = w.tape
  output : w'.output = w.output
  kept : Kept S w w'
theorem Band.refl (S : Nat → Prop) (w : World) : Band S w w := ⟨rfl, rfl, rfl, Kept.refl _ _⟩
theorem Band.trans {S : Nat → Prop} {w1 w2 w3 : World} (h : Band S w1 w2) (k : Band S w2 w3) : Band S w1 w3 := ⟨k.os.trans h.os, k.tape.trans h.tape, k.output.trans h.output, h.kept.trans k.kept⟩
theorem Band.set {S : Nat → Prop} {b : Nat} (h : ¬ S b) (w : World) (o : Nat) (v : Value) : Band S w (w.setCell ⟨b, o, none⟩ v) := ⟨rfl, rfl, rfl, Kept.set h _ _ _⟩
theorem Band.touch {S : Nat → Prop} {a : Option Addr} {w w' : World} (ht : Touch a w w') (h : ∀ x, a = some x → ¬ S x.block) : Band S w w' := by
  rcases ht with rfl | ⟨x, hx, ho⟩
  · exact Band.refl _ _
  · exact ⟨ho.os, ho.tape, ho.output, by rw [ho.size]; exact Nat.le_refl _, fun k hk _ => ho.block k (fun e => h x hx (e ▸ hk))⟩
theorem Band.grow {S : Nat → Prop} {w w' : World} (h : Below w.heap.size w w') : Band S w w' := ⟨h.os, h.tape, h.output, Kept.grow h⟩
theorem Band.below {S : Nat → Prop} {w w' : World} {B : Nat} (h : Band S w w') (hB : B ≤ w.heap.size) (hS : ∀ k, k < B → S k) : Below B w w' := ⟨h.os, h.tape, h.output, h.kept.1, fun k hk => h.kept.2 k (hS k hk) (by omega)⟩
theorem Band.mono {S T : Nat → Prop} {w w' : World} (h : Band S w w') (hS : ∀ k, T k → S k) : Band T w w' := ⟨h.os, h.tape, h.output, h.kept.mono hS⟩

set_option maxHeartbeats 2000000 in
theorem markWriteS_any (S : Nat → Prop) (g n c k0 : Nat) (W : Nat → WD) (A : Nat → Option Addr) (C : Nat → Nat) (w : World) (hn : n ≤ 1048576) (hk0 : k0 ≤ 10000000) (h : WOwn w g n W A C) (hl : ∀ i, i < n → (W i).xs.length ≤ 1048576) (hg : ¬ S g) (hA : ∀ i, i < n → ∀ x, A i = some x → ¬ S x.block) :
    Calls Try.prog 34 #[.slice (some ⟨g, 0, none⟩) n c, .int .i64 (k0 : Int)] w fun e w' => ∃ k : Nat, e = .returned (.int .i64 (k : Int)) ∧ Band S w w' ∧ k ≤ 2000000000000 := by
  have H := hide h
  have HL := hide hl
  have HA := hide hA
  clear h hl hA
  go_enter Try.func34, Try.ntmps34
  go_wp2_with fail
  go_loopw [1, 5] (fun q i wr => ∃ (k m : Nat) (V : Nat → WD), k ≤ n ∧ i = .int .i64 k ∧ q = .int .i64 (m : Int) ∧ m ≤ 10000000 + k * 1048577 ∧ Hid (WOwn wr g n V A C) ∧ Hid (∀ i, i < n → (V i).xs.length ≤ 1048576) ∧ Band S w wr) (fun _ i _ => n - (intOf i).toNat)
  case atStart => exact ⟨0, k0, W, Nat.zero_le _, rfl, rfl, by omega, unhide H, unhide HL, Band.refl _ _⟩
  case round =>
    clear H HL
    obtain ⟨k, m, V, hk, rfl, rfl, hm, hO, hL, hB⟩ := hrel
    by_cases hlt : k < n
    · have e0 := (unhide hO).at_ k hlt
      have f0 := (unhide hO).free (k * 2)
      have O1 := hide ((unhide hO).setAt hlt (m : Int))
      have B1 := hide (hB.trans (Band.set hg wr (k * 2) (.int .i64 (m : Int))))
      have hl1 : (V k).xs.length ≤ 1048576 := unhide hL k hlt
      have e1 := (unhide hO).data k hlt
      have hx : ∀ i, (updW V k ⟨(m : Int), (V k).xs⟩ i).xs = (V i).xs := fun i => by
        unfold updW
        split
        · rename_i e; rw [e]
        · rfl
      have R1 := (unhide O1).row k hlt
      have F1 := fun x hx' => ((unhide O1).own k hlt x hx').2.2
      rw [hx] at R1
      have HR := hide R1
      have HF := hide F1
      have L1 := hide (show ∀ i, i < n → (updW V k ⟨(m : Int), (V k).xs⟩ i).xs.length ≤ 1048576 from fun i hi => by rw [hx]; exact unhide hL i hi)
      clear hO hB hL R1 F1
      go_wp2_with fail
      refine (markByteS_any (A k) (V k).xs.length (C k) (V k).xs ((m : Int) + 1) _ (by omega) (by omega) (by omega) (unhide HR) (unhide HF)).mono ?_
      rintro e w2 ⟨rfl, r2, t2⟩
      have O2 := hide ((unhide O1).marked hlt t2 (by rw [hx]; exact r2))
      have B2 := hide ((unhide B1).trans (Band.touch t2 (unhide HA k hlt)))
      have hml := marks_length ((m : Int) + 1) (V k).xs.length
      have L2 := hide (show ∀ i, i < n → (updW (updW V k ⟨(m : Int), (V k).xs⟩) k ⟨(updW V k ⟨(m : Int), (V k).xs⟩ k).at_, marks ((m : Int) + 1) (V k).xs.length⟩ i).xs.length ≤ 1048576 from fun i hi => by
        by_cases e : i = k
        · simp only [updW, e, if_true]; rw [hml]; exact hl1
        · simp only [updW, e, if_false]; exact (by have := unhide L1 i hi; rw [hx] at this; exact this))
      clear O1 B1 L1 r2 t2 HR HF hx hml e0 e1 f0
      go_wp2_with fail
      go_roundw
      case rel => exact ⟨k + 1, m + 1 + (V k).xs.length, _, by omega, by go_num, by go_num, by omega, unhide O2, unhide L2, unhide B2⟩
      case measure => simp [intOf]; omega
    · obtain rfl : k = n := by omega
      go_wp2_with fail
      go_ret
      exact ⟨m, rfl, hB, by omega⟩

/-- A device in memory of the call's own, from block 'lo' on, ahead of block 'hi'. -/
def FIn (w : World) (lo hi : Nat) (ah : Option Addr) (nh ch g nw : Nat) (xs : List Int) (ws : List WD) : Prop :=
  (∃ b, ah = some ⟨b, 0, none⟩) ∧ xs.length = nh ∧ ws.length = nw ∧ Mine w lo (.slice ah nh ch) xs ∧ (∀ x, ah = some x → x.block < hi) ∧ lo ≤ g ∧ g < hi ∧ ∃ W A C, WOwn w g nw W A C ∧ (∀ i (hi : i < ws.length), W i = ws[i]) ∧ (∀ i x, A i = some x → lo ≤ x.block) ∧ (∀ i, i < nw → ∀ x, A i = some x → x.block < hi) ∧ ∀ x, ah = some x → x.block ≠ g ∧ ∀ i y, A i = some y → x.block ≠ y.block
theorem FIn.below {w w' : World} {lo hi : Nat} {ah : Option Addr} {nh ch g nw : Nat} {xs : List Int} {ws : List WD} (h : FIn w lo hi ah nh ch g nw xs ws) (hb : Below w.heap.size w w') : FIn w' lo hi ah nh ch g nw xs ws := by
  obtain ⟨h0, h1, h2, h3, h3', h4, h4', W, A, C, h5, h6, h7, h7', h8⟩ := h
  exact ⟨h0, h1, h2, mine_below h3 hb, h3', h4, h4', W, A, C, h5.below hb, h6, h7, h7', h8⟩
theorem FIn.mine {w : World} {lo hi : Nat} {ah : Option Addr} {nh ch g nw : Nat} {xs : List Int} {ws : List WD} (h : FIn w lo hi ah nh ch g nw xs ws) : FMine w lo ah nh ch g nw xs ws := by
  obtain ⟨h0, h1, h2, h3, h3', h4, h4', W, A, C, h5, h6, h7, h7', h8⟩ := h
  exact ⟨h0, h1, h2, h3, h4, W, A, C, h5, h6, h7, h8⟩
theorem FMine.fin {w : World} {lo : Nat} {ah : Option Addr} {nh ch g nw : Nat} {xs : List Int} {ws : List WD} (h : FMine w lo ah nh ch g nw xs ws) : FIn w lo w.heap.size ah nh ch g nw xs ws := by
  obtain ⟨h0, h1, h2, h3, h4, W, A, C, h5, h6, h7, h8⟩ := h
  refine ⟨h0, h1, h2, h3, fun x hx => ?_, h4, h5.lt, W, A, C, h5, h6, h7, fun i hi x hx => (h5.own i hi x hx).2.1, h8⟩
  obtain ⟨a, c, e, _, _, _, m4⟩ := h3
  injection e with e1
  exact (m4 x (e1 ▸ hx)).2.1
set_option maxRecDepth 100000 in
set_option maxHeartbeats 2000000 in
theorem markFlash_any (lo hi : Nat) (ah : Option Addr) (nh ch g nw cw : Nat) (xs : List Int) (ws : List WD) (w : World) (hnh : nh ≤ 1048576) (hn : nw ≤ 1048576) (hx : ∀ i (hi : i < ws.length), ws[i].xs.length ≤ 1048576) (h : FIn w lo hi ah nh ch g nw xs ws) (hhi : hi ≤ w.heap.size) :
    Calls Try.prog 18 #[fv ah nh ch (some ⟨g, 0, none⟩) nw cw, .int .i64 1] w fun e w' => ∃ k : Nat, e = .returned (.int .i64 (k : Int)) ∧ Band (fun b => b < lo ∨ hi ≤ b) w w' ∧ k ≤ 2000000000000 := by
  obtain ⟨_, rfl, h2, ⟨a1, c1, e1, m1, m2, m3, m4⟩, h3, h4, h4', W, A, C, h5, h6, h7, h7', h8⟩ := h
  obtain ⟨rfl, rfl⟩ : ah = a1 ∧ ch = c1 := by injection e1 with e1 _ e3; exact ⟨e1, e3⟩
  clear e1
  have hb0 : ∀ o, Below w.heap.size w (w.alloc o) := fun o => (Below.refl _ _).alloc (Nat.le_refl _) _
  have HR := hide fun o => row_grow m3 (hb0 o)
  have HF := hide fun (o : Obj) (x : Addr) (hx : ah = some x) (j : Nat) => ((hb0 o).frozen (p := ⟨x.block, j, none⟩) (m4 x hx).2.1).trans ((m4 x hx).2.2 j)
  have HO := hide h5
  have H3 := hide (fun x hx => And.intro (m4 x hx).1 (h3 x hx))
  have H7 := hide (fun i hi x hx => And.intro (h7 i x hx) (h7' i hi x hx))
  have H8 := hide h8
  have HL := hide (show ∀ i, i < nw → (W i).xs.length ≤ 1048576 from fun i hi => by rw [h6 i (by omega)]; exact hx i (by omega))
  have H0 := hide hb0
  clear m1 m2 m3 m4 h3 h5 h6 h7 h7' h8 hx h2 hb0
  have hR1 := fun o => markByteS_any ah xs.length ch xs 1 (w.alloc o) (by omega) (by omega) (by omega) (unhide HR o) (unhide HF o)
  have HC := hide hR1
  clear hR1
  go_enter Try.func18, Try.ntmps18
  go_wp2_with fail
  refine (unhide HC _).mono ?_
  rintro e w1 ⟨rfl, r1, t1⟩
  have hsz := t1.size
  simp at hsz
  have B1 := hide ((Band.grow (S := fun b => b < lo ∨ hi ≤ b) (unhide H0 (.cells #[.slice ah xs.length ch, .slice (some ⟨g, 0, none⟩) nw cw] 40))).trans (Band.touch t1 (fun x hx => by have := unhide H3 x hx; omega)))
  have hbl : ∀ b, (∀ x, ah = some x → b ≠ x.block) → b < w.heap.size → w1.heap[b]? = w.heap[b]? := fun b hb hl => by
    rw [← Below.heap_alloc w (.cells #[.slice ah xs.length ch, .slice (some ⟨g, 0, none⟩) nw cw] 40) b hl]
    rcases t1 with rfl | ⟨x, hx, ho⟩
    · rfl
    · exact ho.block b (hb x hx)
  have O1 := hide ((unhide HO).kept (S := fun b => b < w.heap.size ∧ ∀ x, ah = some x → b ≠ x.block) ⟨by omega, fun b hb hl => hbl b hb.2 hl⟩ ⟨(unhide HO).lt, fun x hx e => (unhide H8 x hx).1 e.symm⟩ (fun i hi x hx => ⟨((unhide HO).own i hi x hx).2.1, fun y hy e => (unhide H8 y hy).2 i x hx e.symm⟩))
  have p1 : w1.cell? ⟨w.heap.size, 1, none⟩ = some (.slice (some ⟨g, 0, none⟩) nw cw) := by
    rcases t1 with rfl | ⟨x, hx, ho⟩
    · exact (cell_new rfl).trans rfl
    · have := (unhide H3 x hx).2
      exact (ho.cell (p := ⟨w.heap.size, 1, none⟩) (by simp; omega)).trans ((cell_new rfl).trans rfl)
  have hcast : (1 : Int) + (xs.length : Int) = ((1 + xs.length : Nat) : Int) := by omega
  rw [hcast]
  clear HC r1 t1 HR HF hcast hbl
  go_wp2_with fail
  refine (markWriteS_any (fun b => b < lo ∨ hi ≤ b) g nw cw (1 + xs.length) W A C w1 hn (by omega) (unhide O1) (unhide HL) (by omega) (fun i hi' x hx => by have := unhide H7 i hi' x hx; omega)).mono ?_
  rintro e w2 ⟨k, rfl, hb2, hkb⟩
  have B2 := hide ((unhide B1).trans hb2)
  clear hb2 p1
  go_wp2_with fail
  go_ret
  exact ⟨k, rfl, unhide B2, hkb⟩
end Go.Proofs.Ytpmbpldjjnjafaa

namespace Go.Proofs.Ytpmbpldjjnjafaa
open Go.RowKit

theorem rdB_len (xs : List Int) (ws : List WD) : (rdB xs ws).length ≤ 2048 := by
  unfold rdB
  by_cases h : okD xs.length ws = true
  · rw [if_pos h]
    obtain ⟨k1, k2, k3, k4⟩ := okD_parts h
    exact (readD_bounds xs ws k1 k2 k4).2
  · rw [if_neg h]; simp
theorem Args.band {S : Nat → Prop} {w wr w2 : World} {ah : Option Addr} {nh ch : Nat} {aw : Option Addr} {nw cw : Nat} {xs : List Int} {ws : List WD} (hr : Row w ah nh xs) (hw : WRow w aw nw ws) (h : Args w wr ah nh ch aw nw cw xs ws) (hb : Band S wr w2) (hS : ∀ k, k < w.heap.size + 1 → S k) : Args w w2 ah nh ch aw nw cw xs ws :=
  have hs := h.size
  have b : Below w.heap.size w w2 := h.bel.trans (hb.below (by omega) (fun k hk => hS k (by omega)))
  ⟨b, Nat.le_trans h.size hb.kept.1, (hb.kept.cell (p := ⟨w.heap.size, 0, none⟩) (hS _ (by simp)) (by simp; omega)).trans h.c0, (hb.kept.cell (p := ⟨w.heap.size, 1, none⟩) (hS _ (by simp)) (by simp; omega)).trans h.c1, row_grow hr b, hw.below b⟩
theorem mine_row {w : World} {B n cap : Nat} {a : Option Addr} {xs : List Int} (h : Mine w B (.slice a n cap) xs) : Row w a n xs ∧ n = xs.length ∧ n ≤ cap ∧ cap ≤ maxLen ∧ ∀ x, a = some x → B ≤ x.block ∧ x.block < w.heap.size ∧ ∀ j, w.frozen? ⟨x.block, j, none⟩ = false := by
  obtain ⟨a', c', e, h1, h2, h3, h4⟩ := h
  injection e with e1 e2 e3
  subst e1 e2 e3
  exact ⟨h3, rfl, h1, h2, h4⟩

end Go.Proofs.Ytpmbpldjjnjafaa

namespace Go.Proofs.Ytpmbpldjjnjafaa
open Go.RowKit

theorem la_con {xs : List Int} {ws : List WD} {hs0 : List ImH} (h0 : Lat ImD.id ImD.gone (laS xs ws) (hs0.map (·.X))) : ∀ W e W', LaRes xs ws W e W' → ∃ a c hs, e = .returned (.tuple #[.slice a hs0.length c, .int .i64 (rdC xs ws)]) ∧ IOwn W' W.heap.size (.slice a hs0.length c) hs ∧ hs.map (·.X) = hs0.map (·.X) ∧ Below W.heap.size W W' := fun W e W' h => by
  obtain ⟨v, hs, e, o, m, b, _⟩ := h
  have hm := Lat.one m h0
  obtain ⟨a, c, rfl⟩ := im_slice o
  have hl : hs.length = hs0.length := by have := congrArg List.length hm; simpa using this
  rw [hl] at o e
  exact ⟨a, c, hs, e, o, hm, b⟩
theorem la_mem {xs : List Int} {ws : List WD} {L : List ImD} (h0 : Lat ImD.id ImD.gone (laS xs ws) L) {x : ImD} (hx : x ∈ L) : x.xs.length ≤ 2048 := by
  obtain ⟨⟨pre, post, e, _⟩, _⟩ := (h0.all x).1 hx
  have hm : x ∈ laS xs ws := by rw [e]; simp
  unfold laS at hm
  split at hm
  · rename_i hk
    have h1 := mem_sum hm
    have h2 := steps_sum (scanB_steps (readD xs ws))
    have h3 := (scanB_steps (readD xs ws)).le
    have h4 := (scan_few hk).1
    omega
  · exact absurd hm (List.not_mem_nil)
theorem la_sum (L : List ImD) (h : ∀ x ∈ L, x.xs.length ≤ 2048) : (L.map fun x => x.xs.length + 2).sum ≤ L.length * 2050 := by
  induction L with
  | nil => simp
  | cons y r ih =>
    have h1 := h y (List.mem_cons_self ..)
    have h2 := ih (fun x hx => h x (List.mem_cons_of_mem _ hx))
    simp only [List.map_cons, List.sum_cons, List.length_cons]
    omega
theorem la_kof {xs : List Int} {ws : List WD} {hs0 : List ImH} (h0 : Lat ImD.id ImD.gone (laS xs ws) (hs0.map (·.X))) (hl : hs0.length ≤ 2048) : ∀ hs : List ImH, hs.map (·.X) = hs0.map (·.X) → kOf 1 hs ≤ 10000000 := fun hs h => by
  rw [kOf_sum, show (hs.map fun h => h.X.xs.length + 2) = (hs.map (·.X)).map (fun x : ImD => x.xs.length + 2) by rw [List.map_map]; rfl, h]
  have h1 := la_sum (hs0.map (·.X)) (fun x hx => la_mem h0 hx)
  rw [List.length_map] at h1
  omega
theorem la_len {xs : List Int} {ws : List WD} {hs0 : List ImH} (h0 : Lat ImD.id ImD.gone (laS xs ws) (hs0.map (·.X))) : ∀ hs : List ImH, hs.map (·.X) = hs0.map (·.X) → ∀ i (hi : i < hs.length), hs[i].X.xs.length ≤ maxLen := fun hs h i hi => by
  have h1 : hs[i].X ∈ hs0.map (·.X) := by rw [← h]; exact List.mem_map_of_mem (List.getElem_mem hi)
  have h2 := la_mem h0 h1
  unfold maxLen
  omega
theorem la_wrb {S : Nat → Prop} {w w' : World} (h : Band S w w') : WrB (fun i => ¬ S i) w w' := ⟨h.os, h.tape, h.output, h.kept.1, fun k hk hp => h.kept.2 k (Classical.not_not.1 hp) hk⟩
theorem la_band {S P : Nat → Prop} {w w' : World} (h : WrB P w w') (hS : ∀ i, P i → ¬ S i) : Band S w w' := ⟨h.os, h.tape, h.output, h.size, fun k hk hl => h.block k hl (fun hp => hS k hp hk)⟩
set_option maxRecDepth 100000 in
set_option maxHeartbeats 16000000 in
theorem latest_law (ah : Option Addr) (nh ch : Nat) (aw : Option Addr) (nw cw : Nat) (xs : List Int) (ws : List WD) (w : World) (h0 : IsFlash8 w ah nh aw nw xs ws) :
    Calls Try.prog 4 #[fv ah nh ch aw nw cw] w fun e w' => e = .returned (.bool true) ∧ Below w.heap.size w w' := by
  obtain ⟨⟨hR, hnh, hW, hnw⟩, h8, h8w⟩ := h0
  have E8 := hide h8
  have E8W := hide h8w
  clear h8 h8w
  have A0 := hide (Args.start (ch := ch) (cw := cw) hR hW 34)
  have HR := hide hR
  have HW := hide hW
  clear hR hW
  go_enter Try.func4, Try.ntmps4
  go_wp2_with fail
  refine (szFlash_any ah nh ch aw nw cw ws 1048576 _ (by omega) (by omega) hnh (unhide A0).wrow hnw).mono ?_
  rintro e w1 ⟨r, rfl, hr, hb1⟩
  have A1 := hide ((unhide A0).step hb1)
  clear A0 hb1
  rcases hr with rfl | ⟨r0, r1, n1, n2, n3⟩
  · go_wp2_with fail
    go_ret
    exact ⟨rfl, (unhide A1).bel⟩
  have N3 := hide (show ∀ i (hi : i < ws.length), ws[i].xs.length ≤ 1048576 from fun i hi => by have := n3 i hi; omega)
  clear n3
  have p0 := (unhide A1).c0
  have p1 := (unhide A1).c1
  go_wp2_with fail
  clear p0 p1
  refine (toFlash_any ah nh ch aw nw cw xs ws w1 (by omega) (by omega) (unhide N3) (unhide A1).row (unhide A1).wrow).mono ?_
  rintro e w2 ⟨ah2, ch2, g2, rfl, hF2, hb2⟩
  have A2 := hide ((unhide A1).step hb2)
  obtain ⟨b2, rfl⟩ := hF2.1
  have F2 := hide hF2
  clear A1 hF2 hb2
  go_wp2_with fail
  refine (specLatest_any b2 0 nh ch2 _ nw nw xs ws w2 (unhide F2).row (unhide F2).wrow (by omega) (by omega) (unhide E8) (unhide E8W)).mono ?_
  rintro e w3 ⟨v3, hs3, rfl, hM3, hLt, hb3, hl3⟩
  have CON := hide (la_con (hs0 := hs3) hLt)
  have KO := hide (la_kof hLt hl3)
  have KL := hide (la_len hLt)
  obtain ⟨a3, c3, rfl⟩ := im_slice hM3
  obtain ⟨Q, hQ⟩ : ∃ q, q = hs3.map (fun x : ImH => x.X) := ⟨_, rfl⟩
  obtain ⟨nR, hN⟩ : ∃ q, q = hs3.length := ⟨_, rfl⟩
  rw [← hQ, ← hN] at CON
  rw [← hQ] at KO KL
  rw [← hN] at hl3 hM3 ⊢
  have A3 := hide ((unhide A2).step hb3)
  have Z3 := hide hM3
  have MM3 := hide hQ.symm
  have O3 := fun i h => (unhide Z3).lt i h
  have s23 := (unhide A2).size
  have s3 := hb3.size
  clear A2 F2 hb3 hM3 hLt hQ hN
  have p0 := (unhide A3).c0
  have p1 := (unhide A3).c1
  go_wp2_with fail
  clear p0 p1
  refine (toFlash_any ah nh ch aw nw cw xs ws w3 (by omega) (by omega) (unhide N3) (unhide A3).row (unhide A3).wrow).mono ?_
  rintro e w4 ⟨ah4, ch4, g4, rfl, hF4, hb4⟩
  have A4 := hide ((unhide A3).step hb4)
  have F4 := hide hF4.fin
  have M4 := hide (mine_row hF4.2.2.2.1)
  have Z4 := hide ((unhide Z3).below hb4)
  have s4 := hb4.size
  clear A3 hF4 hb4 Z3
  have b5 : Below w4.heap.size w4 (w4.alloc (.cells #[.slice ah4 nh ch4, .slice (some ⟨g4, 0, none⟩) nw nw] 40)) := (Below.refl _ _).alloc (Nat.le_refl _) _
  have A5 := hide ((unhide A4).step b5)
  have F5 := hide ((unhide F4).below b5)
  have Z5 := hide ((unhide Z4).below b5)
  have x0 : (w4.alloc (.cells #[.slice ah4 nh ch4, .slice (some ⟨g4, 0, none⟩) nw nw] 40)).cell? ⟨w4.heap.size, 0, none⟩ = some (.slice ah4 nh ch4) := (cell_new rfl).trans rfl
  have x1 : (w4.alloc (.cells #[.slice ah4 nh ch4, .slice (some ⟨g4, 0, none⟩) nw nw] 40)).cell? ⟨w4.heap.size, 1, none⟩ = some (.slice (some ⟨g4, 0, none⟩) nw nw) := (cell_new rfl).trans rfl
  have hz : (w4.alloc (.cells #[.slice ah4 nh ch4, .slice (some ⟨g4, 0, none⟩) nw nw] 40)).heap.size = w4.heap.size + 1 := by simp
  clear b5 A4 F4 Z4
  go_wp2_with fail
  generalize w4.alloc (.cells #[.slice ah4 nh ch4, .slice (some ⟨g4, 0, none⟩) nw nw] 40) = w5 at *
  have hlt5 : w4.heap.size < w5.heap.size := by omega
  refine (implLatest_any ah4 nh ch4 _ nw nw xs ws w5 (unhide F5).mine.row (unhide F5).mine.wrow (by omega) (by omega) (unhide M4).2.2.1 (unhide M4).2.2.2.1 (unhide E8) (unhide E8W)).mono ?_
  intro e w6 hcon
  obtain ⟨a6, c6, hs6, rfl, hM6, mm6, hb6⟩ := unhide CON _ _ _ hcon
  have MM6 := hide mm6
  clear hcon mm6
  have A6 := hide ((unhide A5).step hb6)
  have F6 := hide ((unhide F5).below hb6)
  have Z6 := hide ((unhide Z5).below hb6)
  have x0 := (hb6.cell (p := ⟨w4.heap.size, 0, none⟩) hlt5).trans x0
  have x1 := (hb6.cell (p := ⟨w4.heap.size, 1, none⟩) hlt5).trans x1
  have s6 := hb6.size
  have G6 := hide hM6
  have O6 := fun i h => (unhide G6).lt i h
  clear A5 F5 Z5 hb6 hM6 M4
  have hq : (rdC xs ws != rdC xs ws) = false := by simp
  have HI := hide (fun (a : Option Addr) (c : Nat) (b : Option Addr) (x : World) (h1 : Row x a nh xs) (h2 : WRow x b nw ws) (h3 : nh ≤ c) (h4 : c ≤ maxLen) => implLatest_any a nh c b nw nw xs ws x h1 h2 (by omega) (by omega) h3 h4 (unhide E8) (unhide E8W))
  generalize rdC xs ws = C at *
  have hkg := unhide KO hs6 (unhide MM6)
  go_wp2_with fail
  refine (eqImageS_any a6 a3 nR c6 c3 _ _ hs6 hs3 w6 (by omega) (unhide G6) (unhide Z6) ((unhide MM6).trans (unhide MM3).symm) (unhide KL _ (unhide MM6))).mono ?_
  rintro e w7 ⟨rfl, hb7⟩
  have hlt6 : w4.heap.size < w6.heap.size := by omega
  have A7 := hide ((unhide A6).step hb7)
  have F7 := hide ((unhide F6).below hb7)
  have Z7 := hide ((unhide Z6).below hb7)
  have G7 := hide ((unhide G6).below hb7)
  have x0 := (hb7.cell (p := ⟨w4.heap.size, 0, none⟩) hlt6).trans x0
  have x1 := (hb7.cell (p := ⟨w4.heap.size, 1, none⟩) hlt6).trans x1
  have s7 := hb7.size
  have p0 := (unhide A7).c0
  have p1 := (unhide A7).c1
  clear A6 F6 Z6 G6 hb7
  go_wp2_with fail
  go_region_with (first
    | (go_at_call 15
       (first | refine (toFlash_any ah nh ch aw nw cw xs ws w7.drew (by omega) (by omega) (unhide N3) (unhide A7).row (unhide A7).wrow).mono ?_ | refine (toFlash_any ah nh ch aw nw cw xs ws w7 (by omega) (by omega) (unhide N3) (unhide A7).row (unhide A7).wrow).mono ?_)
       rintro e w8 ⟨ah8, ch8, g8, rfl, hF8, hb8⟩
       replace hb8 : Below w7.heap.size w7 w8 := ⟨hb8.os, hb8.tape, hb8.output, hb8.size, hb8.block⟩
       have y0 := (hb8.cell (p := ⟨w4.heap.size, 0, none⟩) (show w4.heap.size < w7.heap.size by omega)).trans x0
       have y1 := (hb8.cell (p := ⟨w4.heap.size, 1, none⟩) (show w4.heap.size < w7.heap.size by omega)).trans x1)
    | (go_at_call 17
       refine (eqFlash_any ah4 ah8 nh ch4 ch8 _ _ nw nw nw xs ws w8 hnh hnw (row_grow (unhide F7).mine.row hb8) hF8.row ((unhide F7).mine.wrow.below hb8) hF8.wrow).mono ?_
       rintro e w9 ⟨rfl, hb9⟩))
  all_goals
    have hb79 : Below w7.heap.size w7 w9 := hb8.trans (hb9.mono hb8.size)
    have A9 := hide ((unhide A7).step hb79)
    have F9 := hide ((unhide F7).below hb79)
    have Z9 := hide ((unhide Z7).below hb79)
    have G9 := hide ((unhide G7).below hb79)
    have v0 := (hb79.cell (p := ⟨w4.heap.size, 0, none⟩) (show w4.heap.size < w7.heap.size by omega)).trans x0
    have v1 := (hb79.cell (p := ⟨w4.heap.size, 1, none⟩) (show w4.heap.size < w7.heap.size by omega)).trans x1
    have s9 := hb79.size
    clear A7 F7 Z7 G7 hb79 hb8 hb9 hF8 x0 x1 y0 y1 p0 p1
    go_wp2_with fail
    refine (markFlash_any w3.heap.size w4.heap.size ah4 nh ch4 g4 nw nw xs ws w9 (by omega) (by omega) (unhide N3) (unhide F9) (by omega)).mono ?_
    rintro e w10 ⟨k10, rfl, hB, _⟩
    have s10 := hB.kept.1
    have A10 := hide (Args.band (unhide HR) (unhide HW) (unhide A9) hB (fun k hk => by omega))
    have Z10 := hide ((unhide Z9).wr (la_wrb hB) (fun i hi hp => by have h1 := O3 i hi; exact hp (.inl (by omega))))
    have G10 := hide ((unhide G9).wr (la_wrb hB) (fun i hi hp => by have h1 := O6 i hi; exact hp (.inr (by omega))))
    clear A9 F9 Z9 G9 hB v0 v1
    go_wp2_with fail
    refine (eqImageS_any a6 a3 nR c6 c3 _ _ hs6 hs3 w10 (by omega) (unhide G10) (unhide Z10) ((unhide MM6).trans (unhide MM3).symm) (unhide KL _ (unhide MM6))).mono ?_
    rintro e w11 ⟨rfl, hb11⟩
    have A11 := hide ((unhide A10).step hb11)
    have Z11 := hide ((unhide Z10).below hb11)
    have G11 := hide ((unhide G10).below hb11)
    have s11 := hb11.size
    clear A10 Z10 G10 hb11
    go_wp2_with fail
    refine (markImageS_any _ a6 nR c6 1 hs6 w11 (by omega) (unhide G11)).mono ?_
    rintro e w12 ⟨rfl, oo, hw⟩
    have A12 := hide (Args.band (S := fun b => b < w5.heap.size) (unhide HR) (unhide HW) (unhide A11) (la_band hw (fun i hp => by have := O6 i hp; omega)) (fun k hk => by omega))
    have Z12 := hide ((unhide Z11).wr hw (fun i hi hp => by have h1 := O3 i hi; have h2 := O6 i hp; omega))
    have s12 := hw.size
    have G12 := hide oo
    clear A11 Z11 G11 oo hw
    generalize hkq : kOf 1 hs6 = kq at *
    have HKQ := hide hkq
    clear hkq
    have hm0 : ¬ ((kq : Int) < 0) := by omega
    have hmm : ((kq : Int) != (kq : Int)) = false := by simp
    go_wp2_with fail
    refine (heldImageS_any _ a6 nR c6 1 hs6 w12 (by rw [unhide HKQ]; omega) (unhide G12)).mono ?_
    rintro e w12' ⟨rfl, rfl⟩
    rw [unhide HKQ]
    have p0 := (unhide A12).c0
    have p1 := (unhide A12).c1
    go_wp2_with fail
    clear p0 p1
    refine (toFlash_any ah nh ch aw nw cw xs ws w12' (by omega) (by omega) (unhide N3) (unhide A12).row (unhide A12).wrow).mono ?_
    rintro e w13 ⟨ah13, ch13, g13, rfl, hF13, hb13⟩
    have A13 := hide ((unhide A12).step hb13)
    have Z13 := hide ((unhide Z12).below hb13)
    have G13 := hide ((unhide G12).below hb13)
    have M13 := hide (mine_row hF13.2.2.2.1)
    have F13 := hide hF13
    clear A12 Z12 G12 hb13 hF13
    go_wp2_with fail
    refine ((unhide HI) ah13 ch13 _ w13 (unhide F13).row (unhide F13).wrow (unhide M13).2.2.1 (unhide M13).2.2.2.1).mono ?_
    intro e w14 hcon
    obtain ⟨a14, c14, hs14, rfl, hM14, mm14, hb14⟩ := unhide CON _ _ _ hcon
    have MM14 := hide mm14
    clear hcon mm14
    have A14 := hide ((unhide A13).step hb14)
    have Z14 := hide ((unhide Z13).below hb14)
    have G14 := hide ((unhide G13).below hb14)
    have H14 := hide hM14
    clear A13 Z13 G13 F13 M13 hM14 hb14
    go_wp2_with fail
    refine (eqImageS_any a14 a3 nR c14 c3 _ _ hs14 hs3 w14 (by omega) (unhide H14) (unhide Z14) ((unhide MM14).trans (unhide MM3).symm) (unhide KL _ (unhide MM14))).mono ?_
    rintro e w15 ⟨rfl, hb15⟩
    have A15 := hide ((unhide A14).step hb15)
    have G15 := hide ((unhide G14).below hb15)
    clear A14 Z14 G14 H14 hb15
    go_wp2_with fail
    refine (heldImageS_any _ a6 nR c6 1 hs6 w15 (by rw [unhide HKQ]; omega) (unhide G15)).mono ?_
    rintro e w16 ⟨rfl, rfl⟩
    rw [unhide HKQ]
    go_wp2_with fail
    go_ret
    exact ⟨rfl, (unhide A15).bel⟩
end Go.Proofs.Ytpmbpldjjnjafaa

namespace Go.Proofs.Ytpmbpldjjnjafaa.fnExactLatestFrame
open Go.ChangeShapes Go.WideShapes Go.ChangeAt Go.RowKit
open Go.ChangeMaps (open_string shut_string)
set_option linter.unusedVariables false

theorem own : ownKnob Try.prog.godebug = none := by kernel_rfl
theorem laidOut : laidOutB Try.prog = true := by kernel_rfl

set_option maxRecDepth 100000 in
theorem lifted (os : Os) (started : os.Started) (H : Type) (enc : TypeId × Value → H) :
    ReturnsInHanded {} Try.checked os 4 .any (Rows.fnExactLatestSpec.pre6 enc Try.prog Try.f4 Rows.fnExactLatestRow.domain false) (Rows.fnExactLatestSpec.post enc Try.prog Try.f4 false true false false) := by
  refine returnsInHanded_of_change (C := Try.checked) own started (by kernel_rfl) Try.func4
    (ChangeSpec.witness6 (enc := enc) (C := Try.checked) false ⟨#[], #[.agg #[.slice none 0 0, .slice none 0 0]], []⟩ 8 (by kernel_rfl) (by kernel_rfl) (by kernel_rfl) (by kernel_rfl)) ?_
  intro W base args ds gs before hval0 hW _ _
  have hval : ∀ (j : Nat) t v, Try.f4.params[j]? = some t → args[j]? = some v → Value.okWide Try.prog W .any base t v := hval0
  have hW' := hW
  obtain ⟨p, q, hA0, hV, rfl, _, _⟩ := hW
  have hA : DataW.TrodAll enc Try.prog W 0 (fun _ => true) true Try.f4.params.toList args.toList ds p := hA0
  rw [Try.params4] at hA hval
  obtain ⟨v0, vs0, d0, ds0, p0, q0, hargs, rfl, rfl, h0, r0⟩ := trodAll_cons hA
  obtain ⟨rfl, rfl, rfl⟩ := trodAll_nil r0
  obtain rfl : args = #[v0] := by cases args; simp_all
  obtain ⟨rfl, rfl⟩ := trodVars_none hV
  have k0 := h0
  have lt0 : ∀ x ∈ p0, x.block < W.heap.size := by obtain ⟨m, hm⟩ := k0; exact DataW.trod_lt m _ _ _ hm
  obtain ⟨ah0, nh0, ch0, aw0, nw0, cw0, xs0, ws0, rfl, w0⟩ := open_flash8 (hval 0 34 v0 rfl rfl) h0
  clear hA0 hval0
  refine (latest_law ah0 nh0 ch0 aw0 nw0 cw0 xs0 ws0 W w0).mono fun e W' ⟨he, bel⟩ => ?_
  subst he
  exact ⟨_, rfl, _, _, _, [], _, [], hW', trodAll_mk1 (shut_bool Try.underlying4 _), (trodAll_cons_mk (Below.trod laidOut (by kernel_rfl) (of_decide_eq_true (by kernel_rfl)) k0 bel lt0) trodAll_mk0), rfl, bel.frame _, fun h => by cases h⟩

theorem over : Rows.fnExactLatestRow.holds Try.pinned (OpenSpec.ofChange Rows.fnExactLatestSpec) :=
  OpenClaim.holds_of_wide 4 Try.f4 rfl rfl rfl rfl rfl rfl rfl ⟨rfl, rfl, rfl, rfl, rfl⟩ rfl rfl rfl rfl rfl (by kernel_rfl) Try.func4 (by kernel_rfl)
    (of_decide_eq_true (by kernel_rfl)) (by unfold Func.isWrapper; first | (rw [if_pos (by decide +kernel)]; kernel_rfl) | (rw [if_neg (by decide +kernel)]; exact ⟨rfl, rfl⟩))
    (fun os started H enc _ => lifted os started H enc)

end Go.Proofs.Ytpmbpldjjnjafaa.fnExactLatestFrame
namespace Go.Proofs.Ytpmbpldjjnjafaa
/-- THE STATEMENT. -/
theorem fnExactLatest_proved : Rows.FnExactLatestSaid := fnExactLatestFrame.over
#print axioms fnExactLatest_proved
end Go.Proofs.Ytpmbpldjjnjafaa
