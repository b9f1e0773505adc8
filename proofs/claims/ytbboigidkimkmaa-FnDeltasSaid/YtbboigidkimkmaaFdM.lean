/-
  What is found of a page that a change stands behind, as plain data.
-/
import Derived.Test.YtbboigidkimkmaaFdL
import Derived.Test.YtbboigidkimkmaaPageW
import Derived.Test.YtbboigidkimkmaaPgB
namespace Go.Proofs.Ytbboigidkimkmaa
open Go.RowKit

/-- What Find answers of a right page and a key: value, number, code. -/
def findI (lo hi : ByteArray) (r : Int) (es : List EntD) (k : ByteArray) : ByteArray × Int × Int :=
  if ltK k lo = true then (ByteArray.empty, 0, 4)
  else if underK k hi = false then (ByteArray.empty, r, 12)
  else match lookE es k with
    | some v => (v, 0, 0)
    | none => (ByteArray.empty, 0, 5)
/-- What Find answers. -/
def findT (lo hi : ByteArray) (r : Int) (es : List EntD) (ds : List DelD) (k : ByteArray) : ByteArray × Int × Int :=
  if 65536 < k.size then (ByteArray.empty, 0, 2)
  else if okPage lo hi r es ds = true ∧ keyK k = true then findI lo (highE hi ds) (rightE r ds) (entsE es ds) k
  else (ByteArray.empty, 0, 1)
theorem findT_in {lo hi : ByteArray} {r : Int} {es : List EntD} {ds : List DelD} {k : ByteArray} (h : okPage lo hi r es ds = true) (hk : keyK k = true) (hs : ¬ 65536 < k.size) : findT lo hi r es ds k = findI lo (highE hi ds) (rightE r ds) (entsE es ds) k := by
  have c : okPage lo hi r es ds = true ∧ keyK k = true := ⟨h, hk⟩
  unfold findT
  rw [if_neg hs, if_pos c]
abbrev tup3 (t : ByteArray × Int × Int) : Value := .tuple #[.string t.1, .int .i64 t.2.1, .int .i64 t.2.2]
theorem findA_eq (lo hi : ByteArray) (r : Int) (es : List EntD) (ds : List DelD) (k : ByteArray) : findA lo hi r es ds k = tup3 (findT lo hi r es ds k) := by
  unfold findA findT findV findI
  split
  · rfl
  · split
    · split
      · rfl
      · split
        · rfl
        · cases lookE (entsE es ds) k <;> rfl
    · rfl
theorem ext_facts {lo hi : ByteArray} {r : Int} {es : List EntD} {ds : List DelD} {d : DelD} (h : extC lo hi r es ds d = 0) : okPage lo hi r es ds = true ∧ okDel lo (highE hi ds) d = true ∧ okPage lo hi r es (ds ++ [d]) = true := by
  unfold extC at h
  split at h
  · cases h
  · rename_i h1
    split at h
    · cases h
    · rename_i h2
      split at h
      · cases h
      · rename_i h3
        split at h
        · cases h
        · rename_i h4
          have k1 : okPage lo hi r es ds = true := by simpa using h1
          have k2 : okDel lo (highE hi ds) d = true := by simpa using h2
          obtain ⟨p1, p2, p3, p4, p5, p6⟩ := ok_parts k1
          refine ⟨k1, k2, ?_⟩
          unfold okPage
          simp only [Bool.and_eq_true, decide_eq_true_eq]
          refine ⟨⟨⟨⟨⟨p1, p2⟩, by simp; omega⟩, p4⟩, ?_⟩, by omega⟩
          refine okChain_true fun i hi' => ?_
          rw [okAtD_at hi']
          rw [List.length_append] at hi'
          by_cases hl : i < ds.length
          · rw [List.getElem_append_left hl, List.take_append_of_le_length (by omega)]
            unfold okChain at p5
            rw [List.all_eq_true] at p5
            have := p5 i (by simpa using hl)
            rw [okAtD_at hl] at this
            exact this
          · obtain rfl : i = ds.length := by simp at hi'; omega
            rw [List.take_append_of_le_length (Nat.le_refl _), List.take_length]
            simpa using k2
theorem okDel_parts {lo hi : ByteArray} {d : DelD} (h : okDel lo hi d = true) : keyK d.k = true ∧ ltK d.k lo = false ∧ underK d.k hi = true ∧ (d.kind = 1 ∨ d.kind = 2 ∨ d.kind = 3) := by
  unfold okDel at h
  simp only [Bool.and_eq_true, Bool.or_eq_true, decide_eq_true_eq] at h
  obtain ⟨⟨h1, h2⟩, h3⟩ := h
  unfold inK at h2
  simp only [Bool.and_eq_true, Bool.not_eq_true'] at h2
  refine ⟨h1, h2.1, by unfold underK; exact h2.2, ?_⟩
  rcases h3 with (h | h) | h
  · exact .inl h.1.1
  · exact .inr (.inl h.1.1)
  · exact .inr (.inr h.1.1.1)
theorem key_small {k : ByteArray} (h : keyK k = true) : ¬ 65536 < k.size := by unfold keyK at h; simp at h; omega
theorem find_own {lo hi : ByteArray} {r : Int} {es : List EntD} {ds : List DelD} {d : DelD} (h : extC lo hi r es ds d = 0) :
    (d.kind = 1 → findT lo hi r es (ds ++ [d]) d.k = (d.v, 0, 0)) ∧ (d.kind = 2 → findT lo hi r es (ds ++ [d]) d.k = (ByteArray.empty, 0, 5)) ∧ (d.kind = 3 → findT lo hi r es (ds ++ [d]) d.k = (ByteArray.empty, d.to, 12)) := by
  obtain ⟨h1, h2, h3⟩ := ext_facts h
  obtain ⟨g1, g2, g3, _⟩ := okDel_parts h2
  have hR := ok_rise h1
  rw [findT_in h3 g1 (key_small g1)]
  unfold findI
  rw [if_neg (show ¬ ltK d.k lo = true by rw [g2]; decide)]
  rw [highE_snoc, rightE_snoc, entsE_snoc]
  have hu : ¬ underK d.k (highE hi ds) = false := by rw [g3]; decide
  refine ⟨fun hk => ?_, fun hk => ?_, fun hk => ?_⟩
  · have hn3 : ¬ d.kind = 3 := by omega
    simp only [if_neg hn3, if_neg hu]
    rw [(look_step hR d).1 hk]
  · have hn3 : ¬ d.kind = 3 := by omega
    simp only [if_neg hn3, if_neg hu]
    rw [(look_step hR d).2 hk]
  · simp only [if_pos hk]
    rw [if_pos ?_]
    unfold underK
    rw [ltK_irr]
    have hne : d.k.toList.isEmpty = false := by
      unfold keyK at g1
      simp only [decide_eq_true_eq] at g1
      cases hl : d.k.toList with
      | nil =>
        have e0 : d.k = ByteArray.empty := toList_inj (by rw [hl]; first | (simp; done) | decide +kernel)
        rw [e0] at g1
        exact absurd g1.1 (by decide)
      | cons x xs => rfl
    rw [hne]
    rfl
theorem find_other {lo hi : ByteArray} {r : Int} {es : List EntD} {ds : List DelD} {d : DelD} (h : extC lo hi r es ds d = 0) {o : ByteArray} (ho : o ≠ d.k) (h3' : d.kind = 3 → ltK o d.k = true) :
    (findT lo hi r es ds o).1 = (findT lo hi r es (ds ++ [d]) o).1 ∧ (findT lo hi r es ds o).2.2 = (findT lo hi r es (ds ++ [d]) o).2.2 := by
  obtain ⟨h1, h2, h3⟩ := ext_facts h
  obtain ⟨g1, g2, g3, g4⟩ := okDel_parts h2
  have hR := ok_rise h1
  by_cases a1 : 65536 < o.size
  · unfold findT
    rw [if_pos a1, if_pos a1]
    exact ⟨rfl, rfl⟩
  by_cases a2 : keyK o = true
  · rw [findT_in h1 a2 a1, findT_in h3 a2 a1, highE_snoc, entsE_snoc]
    unfold findI
    by_cases a3 : ltK o lo = true
    · rw [if_pos a3, if_pos a3]
      exact ⟨rfl, rfl⟩
    · rw [if_neg a3, if_neg a3, look_other hR d g4 ho h3']
      by_cases hk : d.kind = 3
      · rw [if_pos hk]
        have u2 : underK o d.k = true := by unfold underK; rw [h3' hk]; simp
        have u1 : underK o (highE hi ds) = true := by
          unfold underK at g3 ⊢
          cases he : (highE hi ds).toList.isEmpty with
          | true => rfl
          | false =>
            rw [he] at g3
            simp only [Bool.false_or] at g3 ⊢
            exact ltK_trans (h3' hk) g3
        rw [if_neg (show ¬ underK o (highE hi ds) = false by rw [u1]; decide), if_neg (show ¬ underK o d.k = false by rw [u2]; decide)]
        exact ⟨rfl, rfl⟩
      · rw [if_neg hk]
        by_cases a4 : underK o (highE hi ds) = false
        · rw [if_pos a4, if_pos a4]
          exact ⟨rfl, rfl⟩
        · rw [if_neg a4, if_neg a4]
          exact ⟨rfl, rfl⟩
  · have c1 : ¬ (okPage lo hi r es ds = true ∧ keyK o = true) := fun h => a2 h.2
    have c2 : ¬ (okPage lo hi r es (ds ++ [d]) = true ∧ keyK o = true) := fun h => a2 h.2
    unfold findT
    rw [if_neg a1, if_neg c1, if_neg a1, if_neg c2]
    exact ⟨rfl, rfl⟩
end Go.Proofs.Ytbboigidkimkmaa
