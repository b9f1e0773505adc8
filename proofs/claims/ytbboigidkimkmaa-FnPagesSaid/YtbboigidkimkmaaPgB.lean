/-
  Right pages as plain data: what a page put together has.
-/
import Derived.Test.YtbboigidkimkmaaFdL
namespace Go.Proofs.Ytbboigidkimkmaa
open Go.RowKit

theorem ok_parts {lo hi : ByteArray} {r : Int} {es : List EntD} {ds : List DelD} (h : okPage lo hi r es ds = true) : okBounds lo hi r = true ∧ es.length ≤ 32 ∧ ds.length ≤ 12 ∧ okBase lo hi es = true ∧ okChain lo hi ds = true ∧ (entsE es ds).length ≤ 32 := by
  unfold okPage at h
  simp only [Bool.and_eq_true, decide_eq_true_eq] at h
  exact ⟨h.1.1.1.1.1, h.1.1.1.1.2, h.1.1.1.2, h.1.1.2, h.1.2, h.2⟩
theorem ok_rise {lo hi : ByteArray} {r : Int} {es : List EntD} {ds : List DelD} (h : okPage lo hi r es ds = true) : Rise (entsE es ds) := by
  refine entsE_rise (rise_of_ok (lo := lo) (hi := hi) fun i hi' => ?_) ds
  have := (ok_parts h).2.2.2.1
  unfold okBase at this
  rw [List.all_eq_true] at this
  exact this i (by simpa using hi')
def BaseOK (lo hi : ByteArray) (es : List EntD) : Prop := Rise es ∧ ∀ e ∈ es, okEnt lo hi e = true
theorem okBase_of {lo hi : ByteArray} {es : List EntD} (h : BaseOK lo hi es) : okBase lo hi es = true := by
  refine okBase_true fun i hi' => ?_
  cases i with
  | zero => rw [okAtE_first hi']; exact h.2 _ (List.getElem_mem _)
  | succ i => rw [okAtE_next hi', h.2 _ (List.getElem_mem _), h.1.lt hi' (Nat.lt_succ_self i)]; rfl
theorem okChain_snoc {lo hi : ByteArray} {ds : List DelD} {d : DelD} (h : okChain lo hi ds = true) (hd : okDel lo (highE hi ds) d = true) : okChain lo hi (ds ++ [d]) = true := by
  refine okChain_true fun i hi' => ?_
  rw [okAtD_at hi']
  rw [List.length_append] at hi'
  by_cases hl : i < ds.length
  · rw [List.getElem_append_left hl, List.take_append_of_le_length (by omega)]
    unfold okChain at h
    rw [List.all_eq_true] at h
    have := h i (by simpa using hl)
    rw [okAtD_at hl] at this
    exact this
  · obtain rfl : i = ds.length := by simp at hi'; omega
    rw [List.take_append_of_le_length (Nat.le_refl _), List.take_length]
    simpa using hd
theorem isE_key {k : ByteArray} (h : keyK k = true) : k.toList.isEmpty = false := by
  unfold keyK at h
  simp only [decide_eq_true_eq] at h
  cases hl : k.toList with
  | nil =>
    have e0 : k = ByteArray.empty := toList_inj (by rw [hl]; first | (simp; done) | decide +kernel)
    rw [e0] at h
    exact absurd h.1 (by decide)
  | cons x xs => rfl
theorem stepE_mem {es : List EntD} {d : DelD} {x : EntD} (h : x ∈ stepE es d) (h3 : d.kind ≠ 3) : x ∈ es ∨ (d.kind ≠ 2 ∧ x = ⟨d.k, d.v⟩) := by
  unfold stepE at h
  rw [if_neg h3] at h
  rcases List.mem_append.1 h with h | h
  · rcases List.mem_append.1 h with h | h
    · exact .inl (List.mem_of_mem_take h)
    · by_cases h2 : d.kind = 2
      · rw [if_pos h2] at h
        cases h
      · rw [if_neg h2] at h
        exact .inr ⟨h2, by simpa using h⟩
  · exact .inl (List.mem_of_mem_drop h)
theorem con_step {lo H : ByteArray} {R : Int} {es : List EntD} {d : DelD} (h1 : okBounds lo H R = true) (h2 : BaseOK lo H es) (h3 : okDel lo H d = true) :
    okBounds lo (if d.kind = 3 then d.k else H) (if d.kind = 3 then d.to else R) = true ∧ BaseOK lo (if d.kind = 3 then d.k else H) (stepE es d) := by
  unfold okDel at h3
  simp only [Bool.and_eq_true, Bool.or_eq_true, decide_eq_true_eq] at h3
  obtain ⟨⟨k1, k2⟩, k3⟩ := h3
  by_cases hk : d.kind = 3
  · rw [if_pos hk, if_pos hk]
    have k4 : ltK lo d.k = true ∧ idK d.to = true := by
      rcases k3 with (k3 | k3) | k3
      · omega
      · omega
      · exact ⟨k3.1.2, k3.2⟩
    refine ⟨?_, stepE_rise h2.1 d, fun x hx => ?_⟩
    · unfold okBounds at h1 ⊢
      simp only [Bool.and_eq_true, decide_eq_true_eq] at h1 ⊢
      have hs : d.k.size ≤ 40 := by unfold keyK at k1; simp at k1; omega
      refine ⟨⟨h1.1.1, hs⟩, ?_⟩
      rw [if_neg (show ¬ d.k.toList.isEmpty = true by rw [isE_key k1]; decide), k4.1, k4.2]
      rfl
    · unfold stepE at hx
      rw [if_pos hk] at hx
      have a := h2.2 x (List.mem_of_mem_take hx)
      have b := take_lt x hx
      unfold okEnt inK at a ⊢
      simp only [Bool.and_eq_true] at a ⊢
      exact ⟨a.1, a.2.1, by rw [b]; simp⟩
  · rw [if_neg hk, if_neg hk]
    refine ⟨h1, stepE_rise h2.1 d, fun x hx => ?_⟩
    rcases stepE_mem hx hk with hx | ⟨hn2, rfl⟩
    · exact h2.2 x hx
    · have kv : valK d.v = true := by
        rcases k3 with (k3 | k3) | k3
        · exact k3.1.2
        · exact absurd k3.1.1 hn2
        · exact absurd k3.1.1.1 hk
      unfold okEnt
      simp only [Bool.and_eq_true]
      exact ⟨⟨k1, kv⟩, k2⟩
theorem con_inv {lo hi : ByteArray} {r : Int} {es : List EntD} {ds : List DelD} (h1 : okBounds lo hi r = true) (h2 : BaseOK lo hi es) (h3 : okChain lo hi ds = true) : ∀ n, n ≤ ds.length → okBounds lo (highE hi (ds.take n)) (rightE r (ds.take n)) = true ∧ BaseOK lo (highE hi (ds.take n)) (entsE es (ds.take n))
  | 0, _ => by rw [List.take_zero]; exact ⟨h1, h2⟩
  | n + 1, hn => by
    obtain ⟨a, b⟩ := con_inv h1 h2 h3 n (by omega)
    have c : okDel lo (highE hi (ds.take n)) ds[n] = true := by
      unfold okChain at h3
      rw [List.all_eq_true] at h3
      have := h3 n (by simp; omega)
      rw [okAtD_at (by omega)] at this
      exact this
    rw [← List.take_append_getElem (show n < ds.length by omega), highE_snoc, rightE_snoc, entsE_snoc]
    exact con_step a b c
theorem baseOK_of {lo hi : ByteArray} {es : List EntD} (h : okBase lo hi es = true) : BaseOK lo hi es := by
  unfold okBase at h
  rw [List.all_eq_true] at h
  have h' : ∀ i, i < es.length → okAtE lo hi es i = true := fun i hi' => h i (by simpa using hi')
  refine ⟨rise_of_ok h', fun e he => ?_⟩
  obtain ⟨i, hi', rfl⟩ := List.mem_iff_getElem.1 he
  have := h' i hi'
  unfold okAtE at this
  rw [List.getElem?_eq_getElem hi'] at this
  simp only [Bool.and_eq_true] at this
  exact this.1
/-- A page put together is right. -/
theorem conPage_ok {lo hi : ByteArray} {r : Int} {es : List EntD} {ds : List DelD} (h : okPage lo hi r es ds = true) : okPage lo (highE hi ds) (rightE r ds) (entsE es ds) [] = true := by
  obtain ⟨p1, p2, p3, p4, p5, p6⟩ := ok_parts h
  obtain ⟨a, b⟩ := con_inv p1 (baseOK_of p4) p5 ds.length (Nat.le_refl _)
  rw [List.take_length] at a b
  unfold okPage
  simp only [Bool.and_eq_true, decide_eq_true_eq]
  exact ⟨⟨⟨⟨⟨a, p6⟩, by simp⟩, okBase_of b⟩, okChain_true fun i hi' => by simp at hi'⟩, p6⟩
end Go.Proofs.Ytbboigidkimkmaa
