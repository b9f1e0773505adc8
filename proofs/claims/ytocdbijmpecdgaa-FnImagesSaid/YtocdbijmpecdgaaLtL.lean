/-
  The latest images as plain data: the last of each Id, rising, without those that are gone.
-/
import Derived.Test.YtocdbijmpecdgaaScL
namespace Go.Proofs.Ytocdbijmpecdgaa
section
variable {α β : Type}

/-- x stands in a list, and none of its key behind it. -/
def LastIn (k : α → Int) (hs : List α) (x : α) : Prop := ∃ pre post, hs = pre ++ x :: post ∧ ∀ y ∈ post, k y ≠ k x
/-- R: the last of each key, rising, without those that are gone. -/
structure Lat (k : α → Int) (g : α → Bool) (hs R : List α) : Prop where
  up : R.Pairwise (fun a b => k a < k b)
  all : ∀ x, x ∈ R ↔ LastIn k hs x ∧ g x = false

theorem up_one (k : α → Int) : ∀ (l1 l2 : List α), l1.Pairwise (fun a b => k a < k b) → l2.Pairwise (fun a b => k a < k b) → (∀ x, x ∈ l1 ↔ x ∈ l2) → l1 = l2
  | [], [], _, _, _ => rfl
  | [], b :: _, _, _, h => absurd ((h b).2 (List.mem_cons_self ..)) (List.not_mem_nil)
  | a :: _, [], _, _, h => absurd ((h a).1 (List.mem_cons_self ..)) (List.not_mem_nil)
  | a :: xs, b :: ys, h1, h2, h => by
    rw [List.pairwise_cons] at h1 h2
    have e : a = b := by
      rcases List.mem_cons.1 ((h a).1 (List.mem_cons_self ..)) with e | m1
      · exact e
      · rcases List.mem_cons.1 ((h b).2 (List.mem_cons_self ..)) with e | m2
        · exact e.symm
        · exact absurd (h1.1 b m2) (Int.not_lt.2 (Int.le_of_lt (h2.1 a m1)))
    subst e
    rw [up_one k xs ys h1.2 h2.2 (fun x => ⟨fun hx => ?_, fun hx => ?_⟩)]
    · rcases List.mem_cons.1 ((h x).1 (List.mem_cons_of_mem _ hx)) with e | m
      · subst e; exact absurd (h1.1 _ hx) (Int.lt_irrefl _)
      · exact m
    · rcases List.mem_cons.1 ((h x).2 (List.mem_cons_of_mem _ hx)) with e | m
      · subst e; exact absurd (h2.1 _ hx) (Int.lt_irrefl _)
      · exact m
theorem Lat.one {k : α → Int} {g : α → Bool} {hs R1 R2 : List α} (h1 : Lat k g hs R1) (h2 : Lat k g hs R2) : R1 = R2 :=
  up_one k R1 R2 h1.up h2.up (fun x => (h1.all x).trans (h2.all x).symm)
theorem Lat.map {k : α → Int} {g : α → Bool} {k' : β → Int} {g' : β → Bool} (f : α → β) (hk : ∀ x, k' (f x) = k x) (hg : ∀ x, g' (f x) = g x) {hs R : List α} (h : Lat k g hs R) : Lat k' g' (hs.map f) (R.map f) := by
  refine ⟨List.pairwise_map.2 (h.up.imp (fun {a b} hab => by rw [hk, hk]; exact hab)), fun x => ⟨fun hx => ?_, fun ⟨⟨pre, post, e, hp⟩, hx⟩ => ?_⟩⟩
  · obtain ⟨r, hr, rfl⟩ := List.mem_map.1 hx
    obtain ⟨⟨pre, post, e, hp⟩, hr2⟩ := (h.all r).1 hr
    refine ⟨⟨pre.map f, post.map f, by rw [e]; simp, fun y hy => ?_⟩, by rw [hg]; exact hr2⟩
    obtain ⟨z, hz, rfl⟩ := List.mem_map.1 hy
    rw [hk, hk]
    exact hp z hz
  · obtain ⟨l1, l2, rfl, rfl, e2⟩ := List.map_eq_append_iff.1 e
    obtain ⟨a, l3, rfl, rfl, rfl⟩ := List.map_eq_cons_iff.1 e2
    refine List.mem_map_of_mem ((h.all a).2 ⟨⟨l1, l3, rfl, fun y hy => ?_⟩, by rw [← hg]; exact hx⟩)
    have := hp (f y) (List.mem_map_of_mem hy)
    rwa [hk, hk] at this
theorem lastIn_snoc {k : α → Int} {hs : List α} {x y : α} : LastIn k (hs ++ [x]) y ↔ y = x ∨ (LastIn k hs y ∧ k y ≠ k x) := by
  refine ⟨fun ⟨pre, post, e, hp⟩ => ?_, ?_⟩
  · rcases List.eq_nil_or_concat post with rfl | ⟨p, z, rfl⟩
    · exact .inl (by have := List.append_inj_right' e rfl; simpa using this.symm)
    · rw [List.concat_eq_append] at e hp
      have e' : hs ++ [x] = (pre ++ y :: p) ++ [z] := by rw [e]; simp
      have h1 := List.append_inj_left' e' rfl
      have h2 := List.append_inj_right' e' rfl
      simp at h2
      subst h2
      exact .inr ⟨⟨pre, p, h1, fun v hv => hp v (List.mem_append_left _ hv)⟩, fun ek => hp x (by simp) ek.symm⟩
  · rintro (rfl | ⟨⟨pre, post, rfl, hp⟩, hne⟩)
    · exact ⟨hs, [], rfl, fun _ hy => absurd hy (List.not_mem_nil)⟩
    · refine ⟨pre, post ++ [x], by simp, fun v hv => ?_⟩
      rcases List.mem_append.1 hv with hv | hv
      · exact hp v hv
      · obtain rfl := List.mem_singleton.1 hv
        exact fun ek => hne ek.symm
theorem Lat.nil (k : α → Int) (g : α → Bool) : Lat k g [] [] :=
  ⟨List.Pairwise.nil, fun _ => ⟨fun h => absurd h (List.not_mem_nil), fun ⟨⟨_, _, e, _⟩, _⟩ => absurd e (by simp)⟩⟩
/-- One more behind them: it takes the place of the one of its key. -/
theorem Lat.snoc {k : α → Int} {g : α → Bool} {hs A M C : List α} {x : α} (h : Lat k g hs (A ++ (M ++ C))) (hA : ∀ a ∈ A, k a < k x) (hM : ∀ m ∈ M, k m = k x) (hC : ∀ c ∈ C, k x < k c) :
    Lat k g (hs ++ [x]) (A ++ ((if g x then [] else [x]) ++ C)) := by
  have hp := h.up
  rw [List.pairwise_append, List.pairwise_append] at hp
  obtain ⟨pA, ⟨_, pC, _⟩, pAC⟩ := hp
  refine ⟨?_, fun y => ?_⟩
  · rw [List.pairwise_append, List.pairwise_append]
    refine ⟨pA, ⟨by split <;> simp, pC, fun a ha c hc => ?_⟩, fun a ha b hb => ?_⟩
    · split at ha
      · exact absurd ha (List.not_mem_nil)
      · obtain rfl := List.mem_singleton.1 ha
        exact hC c hc
    · rcases List.mem_append.1 hb with hb | hb
      · split at hb
        · exact absurd hb (List.not_mem_nil)
        · obtain rfl := List.mem_singleton.1 hb
          exact hA a ha
      · exact pAC a ha b (List.mem_append_right _ hb)
  · rw [lastIn_snoc]
    have hall := h.all y
    simp only [List.mem_append] at hall ⊢
    constructor
    · rintro (hy | hy | hy)
      · have := hall.1 (.inl hy)
        exact ⟨.inr ⟨this.1, Int.ne_of_lt (hA y hy)⟩, this.2⟩
      · split at hy
        · exact absurd hy (List.not_mem_nil)
        · rename_i hg
          obtain rfl := List.mem_singleton.1 hy
          exact ⟨.inl rfl, by simpa using hg⟩
      · have := hall.1 (.inr (.inr hy))
        exact ⟨.inr ⟨this.1, (Int.ne_of_lt (hC y hy)).symm⟩, this.2⟩
    · rintro ⟨rfl | ⟨hl, hne⟩, hg⟩
      · exact .inr (.inl (by simp [hg]))
      · rcases hall.2 ⟨hl, hg⟩ with hy | hy | hy
        · exact .inl hy
        · exact absurd (hM y hy) hne
        · exact .inr (.inr hy)
/-- Those that no later one of their key follows, and that are not gone, as they stand. -/
def keepL (k : α → Int) (g : α → Bool) : List α → List α
  | [] => []
  | x :: t => if (t.any fun y => decide (k y = k x)) || g x then keepL k g t else x :: keepL k g t
theorem mem_keepL {k : α → Int} {g : α → Bool} : ∀ {hs : List α} {x : α}, x ∈ keepL k g hs ↔ LastIn k hs x ∧ g x = false
  | [], x => ⟨fun h => absurd h (List.not_mem_nil), fun ⟨⟨_, _, e, _⟩, _⟩ => absurd e (by simp)⟩
  | a :: t, x => by
    have ih := @mem_keepL k g t x
    have key : LastIn k (a :: t) x ↔ (x = a ∧ ∀ y ∈ t, k y ≠ k a) ∨ LastIn k t x := by
      constructor
      · rintro ⟨pre, post, e, hp⟩
        cases pre with
        | nil =>
          simp at e
          obtain ⟨rfl, rfl⟩ := e
          exact .inl ⟨rfl, hp⟩
        | cons b pre =>
          simp at e
          exact .inr ⟨pre, post, e.2, hp⟩
      · rintro (⟨rfl, hp⟩ | ⟨pre, post, rfl, hp⟩)
        · exact ⟨[], t, rfl, hp⟩
        · exact ⟨a :: pre, post, rfl, hp⟩
    have hany : ((t.any fun y => decide (k y = k a)) = true) ↔ ¬ ∀ y ∈ t, k y ≠ k a := by simp
    rw [key]
    unfold keepL
    by_cases h1 : (t.any fun y => decide (k y = k a)) = true
    · rw [if_pos (by rw [h1]; rfl), ih]
      have := hany.1 h1
      exact ⟨fun h => ⟨.inr h.1, h.2⟩, fun ⟨h, h2⟩ => ⟨h.resolve_left (fun h => this h.2), h2⟩⟩
    · have hn := Classical.not_not.1 (fun h => h1 (hany.2 h))
      have h1' : (t.any fun y => decide (k y = k a)) = false := by simpa using h1
      rw [h1', Bool.false_or]
      by_cases h2 : g a = true
      · rw [if_pos h2, ih]
        refine ⟨fun h => ⟨.inr h.1, h.2⟩, fun ⟨h, h3⟩ => ⟨h.resolve_left (fun h => ?_), h3⟩⟩
        rw [h.1, h2] at h3
        exact absurd h3 (by simp)
      · rw [if_neg h2, List.mem_cons, ih]
        have h2' : g a = false := by simpa using h2
        constructor
        · rintro (rfl | h)
          · exact ⟨.inl ⟨rfl, hn⟩, h2'⟩
          · exact ⟨.inr h.1, h.2⟩
        · rintro ⟨⟨rfl, _⟩ | h, h3⟩
          · exact .inl rfl
          · exact .inr ⟨h, h3⟩
theorem keepL_apart {k : α → Int} {g : α → Bool} : ∀ hs : List α, (keepL k g hs).Pairwise (fun a b => k a ≠ k b)
  | [] => List.Pairwise.nil
  | a :: t => by
    unfold keepL
    split
    · exact keepL_apart t
    · rename_i h
      refine List.pairwise_cons.2 ⟨fun y hy => ?_, keepL_apart t⟩
      obtain ⟨⟨pre, post, rfl, _⟩, _⟩ := mem_keepL.1 hy
      simp at h
      exact fun e => h.1.2.1 e.symm
theorem keepL_sub {k : α → Int} {g : α → Bool} : ∀ hs : List α, (keepL k g hs).Sublist hs
  | [] => List.Sublist.refl _
  | a :: t => by
    unfold keepL
    split
    · exact (keepL_sub t).cons a
    · exact (keepL_sub t).cons_cons a
/-- A rising order of those: the latest. -/
theorem Lat.of_perm {k : α → Int} {g : α → Bool} {hs R : List α} (hp : R.Perm (keepL k g hs)) (hs' : R.Pairwise (fun a b => k a ≤ k b)) : Lat k g hs R := by
  refine ⟨?_, fun x => hp.mem_iff.trans mem_keepL⟩
  have h2 : R.Pairwise (fun a b => k a ≠ k b) := (keepL_apart hs).perm hp.symm (fun h => Ne.symm h)
  exact (hs'.and h2).imp (fun ⟨h1, h2⟩ => Int.lt_iff_le_and_ne.2 ⟨h1, h2⟩)
end
end Go.Proofs.Ytocdbijmpecdgaa
