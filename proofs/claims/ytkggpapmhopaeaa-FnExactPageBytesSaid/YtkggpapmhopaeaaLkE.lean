/-
  Look-ups in entries; rising entries are known by them.
-/
import Derived.Test.YtkggpapmhopaeaaPageL
namespace Go.Proofs.Ytkggpapmhopaeaa
open Go.RowKit

/-- The value of a key. -/
def lookE (es : List EntD) (k : ByteArray) : Option ByteArray := (es.find? (fun e => e.k.toList == k.toList)).map (·.v)
theorem look_none {es : List EntD} {k : ByteArray} (h : ∀ i (hi : i < es.length), (es[i].k.toList == k.toList) = false) : lookE es k = none := by
  unfold lookE
  rw [List.find?_eq_none.2]
  · rfl
  · intro e he
    obtain ⟨i, hi, rfl⟩ := List.mem_iff_getElem.1 he
    rw [h i hi]; decide
theorem look_some {es : List EntD} {k : ByteArray} {i : Nat} (hi : i < es.length) (h0 : ∀ j (hj : j < es.length), j < i → (es[j].k.toList == k.toList) = false) (h : (es[i].k.toList == k.toList) = true) : lookE es k = some es[i].v := by
  unfold lookE
  have : es.find? (fun e => e.k.toList == k.toList) = some es[i] := by
    rw [List.find?_eq_some_iff_getElem]
    exact ⟨h, i, hi, rfl, fun j hj => by rw [h0 j (by omega) hj]; rfl⟩
  rw [this]
  rfl
theorem look_rise {es : List EntD} {k : ByteArray} (h : Rise es) : (found es k = true → ∀ hp : pos es k < es.length, lookE es k = some (es[pos es k]'hp).v) ∧ (found es k = false → lookE es k = none) := by
  have below : ∀ j (hj : j < es.length), j < pos es k → (es[j].k.toList == k.toList) = false := fun j hj hjp => by
    have hlt := pos_lt es k j hj hjp
    cases hq : (es[j].k.toList == k.toList)
    · rfl
    · have e : es[j].k = k := toList_inj (by simpa using hq)
      rw [e, ltK_irr] at hlt
      cases hlt
  refine ⟨fun hf hp => ?_, fun hf => ?_⟩
  · obtain ⟨hp', hk⟩ := found_in hf
    exact look_some hp below (by rw [hk]; simp)
  · refine look_none fun i hi => ?_
    rcases Nat.lt_or_ge i (pos es k) with h' | h'
    · exact below i hi h'
    · have hp : pos es k < es.length := by omega
      have h0 := found_not hf hp
      have : ltK k es[i].k = true := by
        rcases Nat.eq_or_lt_of_le h' with e | e
        · subst e; exact h0
        · exact ltK_trans h0 (h.lt hi e)
      cases hq : (es[i].k.toList == k.toList)
      · rfl
      · have e : es[i].k = k := toList_inj (by simpa using hq)
        rw [e, ltK_irr] at this
        cases this
theorem nek {k : ByteArray} {e : EntD} (h : e.k ≠ k) : (e.k.toList == k.toList) = false := by
  cases hq : (e.k.toList == k.toList) with
  | false => rfl
  | true => exact absurd (toList_inj (by simpa using hq)) h
theorem find_no {A : List EntD} {k : ByteArray} (h : ∀ e ∈ A, e.k ≠ k) : A.find? (fun e => e.k.toList == k.toList) = none :=
  List.find?_eq_none.2 (fun e he => by rw [nek (h e he)]; decide)
theorem look_app {A B : List EntD} {k : ByteArray} (h : ∀ e ∈ A, e.k ≠ k) : lookE (A ++ B) k = lookE B k := by
  unfold lookE
  rw [List.find?_append, find_no h]
  rfl
theorem look_app_r {A B : List EntD} {k : ByteArray} (h : ∀ e ∈ B, e.k ≠ k) : lookE (A ++ B) k = lookE A k := by
  unfold lookE
  rw [List.find?_append, find_no h]
  simp
theorem look_here {B : List EntD} {k v : ByteArray} : lookE (⟨k, v⟩ :: B) k = some v := by
  unfold lookE
  rw [List.find?_cons_of_pos (by simp)]
  rfl
theorem look_skip {B : List EntD} {e : EntD} {k : ByteArray} (h : e.k ≠ k) : lookE (e :: B) k = lookE B k := by
  unfold lookE
  rw [List.find?_cons_of_neg (by rw [nek h]; decide)]
theorem look_no {A : List EntD} {k : ByteArray} (h : ∀ e ∈ A, e.k ≠ k) : lookE A k = none := by
  have := look_app (B := []) h
  rw [List.append_nil] at this
  exact this
theorem look_mid {A B : List EntD} {e : EntD} {k : ByteArray} (h : e.k ≠ k) : lookE (A ++ e :: B) k = lookE (A ++ B) k := by
  unfold lookE
  rw [List.find?_append, List.find?_append, List.find?_cons_of_neg (by rw [nek h]; decide)]
theorem ltK_ne {a b : ByteArray} (h : ltK a b = true) : a ≠ b := fun e => by rw [e, ltK_irr] at h; cases h
theorem take_lt {es : List EntD} {k : ByteArray} : ∀ e ∈ es.take (pos es k), ltK e.k k = true := by
  intro e he
  obtain ⟨i, hi, rfl⟩ := List.mem_iff_getElem.1 he
  rw [List.getElem_take]
  rw [List.length_take] at hi
  exact pos_lt es k i (by omega) (by omega)
theorem drop_ge {es : List EntD} (h : Rise es) {k : ByteArray} : ∀ e ∈ es.drop (pos es k), ltK e.k k = false := by
  intro e he
  obtain ⟨i, hi, rfl⟩ := List.mem_iff_getElem.1 he
  rw [List.getElem_drop]
  rw [List.length_drop] at hi
  exact h.ge (i := pos es k) (by omega) (by omega) (pos_at es k (by omega))
theorem drop_gt {es : List EntD} (h : Rise es) {k : ByteArray} (hf : found es k = true) : ∀ e ∈ es.drop (pos es k + 1), ltK k e.k = true := by
  intro e he
  obtain ⟨hp, hk⟩ := found_in hf
  obtain ⟨i, hi, rfl⟩ := List.mem_iff_getElem.1 he
  rw [List.getElem_drop]
  rw [List.length_drop] at hi
  have := h.lt (i := pos es k) (j := pos es k + 1 + i) (by omega) (by omega)
  rw [hk] at this
  exact this
/-- The value of the change's own key. -/
theorem look_step {es : List EntD} (h : Rise es) (d : DelD) : (d.kind = 1 → lookE (stepE es d) d.k = some d.v) ∧ (d.kind = 2 → lookE (stepE es d) d.k = none) := by
  have ht : ∀ e ∈ es.take (pos es d.k), e.k ≠ d.k := fun e he => ltK_ne (take_lt e he)
  constructor
  · intro hk
    cases hf : found es d.k with
    | false =>
      rw [stepE_put_new hk hf, look_app ht, look_here]
    | true =>
      obtain ⟨hp, _⟩ := found_in hf
      rw [stepE_put_old hk hf, List.set_eq_take_append_cons_drop, if_pos hp, look_app ht, look_here]
  · intro hk
    cases hf : found es d.k with
    | false => rw [stepE_drop_new hk hf]; exact (look_rise h).2 hf
    | true =>
      rw [stepE_drop_old hk hf, look_app ht]
      exact look_no fun e he => (ltK_ne (drop_gt h hf e he)).symm
/-- The value of another key. -/
theorem look_other {es : List EntD} (hR : Rise es) (d : DelD) (hk : d.kind = 1 ∨ d.kind = 2 ∨ d.kind = 3) {o : ByteArray} (ho : o ≠ d.k) (h3 : d.kind = 3 → ltK o d.k = true) : lookE (stepE es d) o = lookE es o := by
  have e0 : es = es.take (pos es d.k) ++ es.drop (pos es d.k) := (List.take_append_drop _ _).symm
  rcases hk with hk | hk | hk
  · cases hf : found es d.k with
    | false =>
      rw [stepE_put_new hk hf, look_mid (e := ⟨d.k, d.v⟩) (fun h => ho h.symm), ← e0]
    | true =>
      obtain ⟨hp, hx⟩ := found_in hf
      rw [stepE_put_old hk hf, List.set_eq_take_append_cons_drop, if_pos hp, look_mid (e := ⟨d.k, d.v⟩) (fun h => ho h.symm)]
      have e1 : es = es.take (pos es d.k) ++ es[pos es d.k] :: es.drop (pos es d.k + 1) := by
        rw [← List.drop_eq_getElem_cons hp]; exact e0
      have := look_mid (A := es.take (pos es d.k)) (B := es.drop (pos es d.k + 1)) (e := es[pos es d.k]) (k := o) (by rw [hx]; exact fun h => ho h.symm)
      rw [← e1] at this
      exact this.symm
  · cases hf : found es d.k with
    | false => rw [stepE_drop_new hk hf]
    | true =>
      obtain ⟨hp, hx⟩ := found_in hf
      rw [stepE_drop_old hk hf]
      have e1 : es = es.take (pos es d.k) ++ es[pos es d.k] :: es.drop (pos es d.k + 1) := by
        rw [← List.drop_eq_getElem_cons hp]; exact e0
      have := look_mid (A := es.take (pos es d.k)) (B := es.drop (pos es d.k + 1)) (e := es[pos es d.k]) (k := o) (by rw [hx]; exact fun h => ho h.symm)
      rw [← e1] at this
      exact this.symm
  · rw [stepE_split hk]
    have := look_app_r (A := es.take (pos es d.k)) (B := es.drop (pos es d.k)) (k := o) (fun e he h => by
      have g := drop_ge hR e he
      rw [h, h3 hk] at g
      cases g)
    rw [← e0] at this
    exact this.symm
theorem mem_look {es : List EntD} (h : Rise es) : ∀ {e : EntD}, e ∈ es → lookE es e.k = some e.v := by
  intro e he
  induction es with
  | nil => cases he
  | cons x r ih =>
    have hr : Rise r := (List.pairwise_cons.1 h).2
    rcases List.mem_cons.1 he with rfl | he
    · exact look_here
    · have hlt := (List.pairwise_cons.1 h).1 e he
      rw [look_skip (ltK_ne hlt)]
      exact ih hr he
theorem look_mem {es : List EntD} {k v : ByteArray} (h : lookE es k = some v) : (⟨k, v⟩ : EntD) ∈ es := by
  unfold lookE at h
  cases hf : es.find? (fun e => e.k.toList == k.toList) with
  | none => rw [hf] at h; cases h
  | some e =>
    rw [hf] at h
    injection h with h
    have h1 := List.find?_some hf
    have h2 := List.mem_of_find?_eq_some hf
    have h3 : e.k = k := toList_inj (by simpa using h1)
    obtain ⟨ek, ev⟩ := e
    simp only at h h3
    subst h h3
    exact h2
/-- Rising entries are known by their keys' values. -/
theorem rise_ext : ∀ {a b : List EntD}, Rise a → Rise b → (∀ k, lookE a k = lookE b k) → a = b
  | [], [], _, _, _ => rfl
  | [], y :: r, _, hb, h => by
    have h1 := h y.k
    rw [mem_look hb (List.mem_cons_self ..), look_no (fun e he => by cases he)] at h1
    cases h1
  | x :: r, [], ha, _, h => by
    have h1 := h x.k
    rw [mem_look ha (List.mem_cons_self ..), look_no (fun e he => by cases he)] at h1
    cases h1
  | x :: r, y :: s, ha, hb, h => by
    have hr : Rise r := (List.pairwise_cons.1 ha).2
    have hs : Rise s := (List.pairwise_cons.1 hb).2
    have lx := (List.pairwise_cons.1 ha).1
    have ly := (List.pairwise_cons.1 hb).1
    have m1 : (⟨x.k, x.v⟩ : EntD) ∈ y :: s := look_mem ((h x.k).symm.trans (mem_look ha (List.mem_cons_self ..)))
    have m2 : (⟨y.k, y.v⟩ : EntD) ∈ x :: r := look_mem ((h y.k).trans (mem_look hb (List.mem_cons_self ..)))
    have hxy : x = y := by
      rcases List.mem_cons.1 m1 with e | m1
      · exact e
      · rcases List.mem_cons.1 m2 with e | m2
        · exact e.symm
        · have h1 := ly _ m1
          have h2 := lx _ m2
          simp only at h1 h2
          rw [ltK_asymm h1] at h2
          cases h2
    subst hxy
    congr 1
    refine rise_ext hr hs fun k => ?_
    by_cases hk : x.k = k
    · subst hk
      rw [look_no (fun e he e2 => ltK_ne (lx e he) e2.symm), look_no (fun e he e2 => ltK_ne (ly e he) e2.symm)]
    · have := h k
      rw [look_skip hk, look_skip hk] at this
      exact this
end Go.Proofs.Ytkggpapmhopaeaa
