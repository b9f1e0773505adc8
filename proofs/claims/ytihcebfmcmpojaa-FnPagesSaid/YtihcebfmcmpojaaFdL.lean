/-
  What a change behind a page's chain does to what is found, as plain data.
-/
import Derived.Test.YtihcebfmcmpojaaPageW
namespace Go.Proofs.Ytihcebfmcmpojaa
open Go.RowKit

theorem nek {k : ByteArray} {e : EntD} (h : e.k ≠ k) : (e.k.toList == k.toList) = false := by
  cases hq : (e.k.toList == k.toList) with
  | false => rfl
  | true => exact absurd (toList_inj (by simpa using hq)) h
theorem find_no {A : List EntD} {k : ByteArray} (h : ∀ e ∈ A, e.k ≠ k) : A.find? (fun e => e.k.toList == k.toList) = none :=
  List.find?_eq_none.2 (fun e he => by rw [nek (h e he)]; decide)
theorem look_app {A B : List EntD} {k : ByteArray} (h : ∀ e ∈ A, e.k ≠ k) : lookE (A ++ B) k = lookE B k := by
  unfold lookE
  rw [List.find?_append, find_no h]
  rfl
theorem look_app_r {A B : List EntD} {k : ByteArray} (h : ∀ e ∈ B, e.k ≠ k) : lookE (A ++ B) k = lookE A k := by
  unfold lookE
  rw [List.find?_append, find_no h]
  simp
theorem look_here {B : List EntD} {k v : ByteArray} : lookE (⟨k, v⟩ :: B) k = some v := by
  unfold lookE
  rw [List.find?_cons_of_pos (by simp)]
  rfl
theorem look_skip {B : List EntD} {e : EntD} {k : ByteArray} (h : e.k ≠ k) : lookE (e :: B) k = lookE B k := by
  unfold lookE
  rw [List.find?_cons_of_neg (by rw [nek h]; decide)]
theorem look_no {A : List EntD} {k : ByteArray} (h : ∀ e ∈ A, e.k ≠ k) : lookE A k = none := by
  have := look_app (B := []) h
  rw [List.append_nil] at this
  exact this
theorem look_mid {A B : List EntD} {e : EntD} {k : ByteArray} (h : e.k ≠ k) : lookE (A ++ e :: B) k = lookE (A ++ B) k := by
  unfold lookE
  rw [List.find?_append, List.find?_append, List.find?_cons_of_neg (by rw [nek h]; decide)]
theorem ltK_ne {a b : ByteArray} (h : ltK a b = true) : a ≠ b := fun e => by rw [e, ltK_irr] at h; cases h
theorem take_lt {es : List EntD} {k : ByteArray} : ∀ e ∈ es.take (pos es k), ltK e.k k = true := by
  intro e he
  obtain ⟨i, hi, rfl⟩ := List.mem_iff_getElem.1 he
  rw [List.getElem_take]
  rw [List.length_take] at hi
  exact pos_lt es k i (by omega) (by omega)
theorem drop_ge {es : List EntD} (h : Rise es) {k : ByteArray} : ∀ e ∈ es.drop (pos es k), ltK e.k k = false := by
  intro e he
  obtain ⟨i, hi, rfl⟩ := List.mem_iff_getElem.1 he
  rw [List.getElem_drop]
  rw [List.length_drop] at hi
  exact h.ge (i := pos es k) (by omega) (by omega) (pos_at es k (by omega))
theorem drop_gt {es : List EntD} (h : Rise es) {k : ByteArray} (hf : found es k = true) : ∀ e ∈ es.drop (pos es k + 1), ltK k e.k = true := by
  intro e he
  obtain ⟨hp, hk⟩ := found_in hf
  obtain ⟨i, hi, rfl⟩ := List.mem_iff_getElem.1 he
  rw [List.getElem_drop]
  rw [List.length_drop] at hi
  have := h.lt (i := pos es k) (j := pos es k + 1 + i) (by omega) (by omega)
  rw [hk] at this
  exact this
/-- The value of the change's own key. -/
theorem look_step {es : List EntD} (h : Rise es) (d : DelD) : (d.kind = 1 → lookE (stepE es d) d.k = some d.v) ∧ (d.kind = 2 → lookE (stepE es d) d.k = none) := by
  have ht : ∀ e ∈ es.take (pos es d.k), e.k ≠ d.k := fun e he => ltK_ne (take_lt e he)
  constructor
  · intro hk
    cases hf : found es d.k with
    | false =>
      rw [stepE_put_new hk hf, look_app ht, look_here]
    | true =>
      obtain ⟨hp, _⟩ := found_in hf
      rw [stepE_put_old hk hf, List.set_eq_take_append_cons_drop, if_pos hp, look_app ht, look_here]
  · intro hk
    cases hf : found es d.k with
    | false => rw [stepE_drop_new hk hf]; exact (look_rise h).2 hf
    | true =>
      rw [stepE_drop_old hk hf, look_app ht]
      exact look_no fun e he => (ltK_ne (drop_gt h hf e he)).symm
/-- The value of another key. -/
theorem look_other {es : List EntD} (hR : Rise es) (d : DelD) (hk : d.kind = 1 ∨ d.kind = 2 ∨ d.kind = 3) {o : ByteArray} (ho : o ≠ d.k) (h3 : d.kind = 3 → ltK o d.k = true) : lookE (stepE es d) o = lookE es o := by
  have e0 : es = es.take (pos es d.k) ++ es.drop (pos es d.k) := (List.take_append_drop _ _).symm
  rcases hk with hk | hk | hk
  · cases hf : found es d.k with
    | false =>
      rw [stepE_put_new hk hf, look_mid (e := ⟨d.k, d.v⟩) (fun h => ho h.symm), ← e0]
    | true =>
      obtain ⟨hp, hx⟩ := found_in hf
      rw [stepE_put_old hk hf, List.set_eq_take_append_cons_drop, if_pos hp, look_mid (e := ⟨d.k, d.v⟩) (fun h => ho h.symm)]
      have e1 : es = es.take (pos es d.k) ++ es[pos es d.k] :: es.drop (pos es d.k + 1) := by
        rw [← List.drop_eq_getElem_cons hp]; exact e0
      have := look_mid (A := es.take (pos es d.k)) (B := es.drop (pos es d.k + 1)) (e := es[pos es d.k]) (k := o) (by rw [hx]; exact fun h => ho h.symm)
      rw [← e1] at this
      exact this.symm
  · cases hf : found es d.k with
    | false => rw [stepE_drop_new hk hf]
    | true =>
      obtain ⟨hp, hx⟩ := found_in hf
      rw [stepE_drop_old hk hf]
      have e1 : es = es.take (pos es d.k) ++ es[pos es d.k] :: es.drop (pos es d.k + 1) := by
        rw [← List.drop_eq_getElem_cons hp]; exact e0
      have := look_mid (A := es.take (pos es d.k)) (B := es.drop (pos es d.k + 1)) (e := es[pos es d.k]) (k := o) (by rw [hx]; exact fun h => ho h.symm)
      rw [← e1] at this
      exact this.symm
  · rw [stepE_split hk]
    have := look_app_r (A := es.take (pos es d.k)) (B := es.drop (pos es d.k)) (k := o) (fun e he h => by
      have g := drop_ge hR e he
      rw [h, h3 hk] at g
      cases g)
    rw [← e0] at this
    exact this.symm
end Go.Proofs.Ytihcebfmcmpojaa
