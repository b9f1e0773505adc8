/-
  Keys of several parts rise as the parts do, and are read back: plain facts.
-/
import Derived.Test.YtgifcaeemfaihaaTupL
import Derived.Test.YtgifcaeemfaihaaCmpL
import Derived.Test.YtgifcaeemfaihaaNum8
import Derived.Test.YtgifcaeemfaihaaRankBack
set_option maxRecDepth 100000
namespace Go.Proofs.Ytgifcaeemfaihaa
open Go.RowKit

/-- Two lists part at a place, where the first has the lesser. -/
def Diff (x y : List Int) : Prop := ∃ c a b u v, x = c ++ a :: u ∧ y = c ++ b :: v ∧ a < b
theorem Diff.cons {x y : List Int} (z : Int) (h : Diff x y) : Diff (z :: x) (z :: y) := by
  obtain ⟨c, a, b, u, v, rfl, rfl, hab⟩ := h
  exact ⟨z :: c, a, b, u, v, rfl, rfl, hab⟩
theorem lessI_same (x r s : List Int) : lessI (x ++ r) (x ++ s) = lessI r s := by
  induction x with
  | nil => rfl
  | cons z x ih => simp [lessI, ih]
theorem Diff.less {x y : List Int} (h : Diff x y) (r s : List Int) : lessI (x ++ r) (y ++ s) = true ∧ lessI (y ++ s) (x ++ r) = false ∧ x ++ r ≠ y ++ s := by
  obtain ⟨c, a, b, u, v, rfl, rfl, hab⟩ := h
  simp only [List.append_assoc, List.cons_append, lessI_same]
  refine ⟨by simp [lessI, hab], ?_, ?_⟩
  · have h1 : ¬ b < a := by omega
    have h2 : ¬ b = a := by omega
    simp [lessI, h1, h2]
  · intro e
    have := List.append_cancel_left e
    injection this with h1 _
    omega
theorem diff_of_less : ∀ (x y : List Int), x.length = y.length → lessI x y = true → Diff x y
  | [], [], _, h => by simp [lessI] at h
  | [], _ :: _, hl, _ => by simp at hl
  | _ :: _, [], hl, _ => by simp at hl
  | a :: x, b :: y, hl, h => by
    simp only [lessI, Bool.or_eq_true, Bool.and_eq_true, decide_eq_true_eq] at h
    rcases h with h | ⟨rfl, h⟩
    · exact ⟨[], a, b, x, y, rfl, rfl, h⟩
    · exact (diff_of_less x y (by simpa using hl) h).cons a
theorem diff_eights {n m : Int} (h0 : 0 ≤ n) (h1 : n < 18446744073709551616) (g0 : 0 ≤ m) (g1 : m < 18446744073709551616) (h : n < m) : Diff (eights n 8) (eights m 8) := by
  refine diff_of_less _ _ (by rw [eights_length, eights_length]) ?_
  rw [less_val _ _ (by rw [eights_length, eights_length]) (eights_bytes n) (eights_bytes m), ← num_val, ← num_val, num_eights n h0 h1, num_eights m g0 g1]
  simpa using h
theorem diff_text : ∀ (a b : List UInt8), Op.bytesLess a b = true → Diff (esc a ++ [0, 1]) (esc b ++ [0, 1])
  | [], [], h => by simp [Op.bytesLess] at h
  | [], d :: s, _ => by
    by_cases hd : d = 0
    · subst hd; exact ⟨[0], 1, 255, [], esc s ++ [0, 1], rfl, by simp [esc], by omega⟩
    · have hp : (0 : Int) < d.toNat := by
        have : d.toNat ≠ 0 := fun e => hd (UInt8.toNat_inj.1 e)
        omega
      exact ⟨[], 0, d.toNat, [1], esc s ++ [0, 1], rfl, by simp [esc, hd], hp⟩
  | c :: r, [], h => by simp [Op.bytesLess] at h
  | c :: r, d :: s, h => by
    have e1 : Op.bytesLess (c :: r) (d :: s) = (decide (c < d) || (c == d && Op.bytesLess r s)) := rfl
    rw [e1] at h
    simp only [Bool.or_eq_true, Bool.and_eq_true, decide_eq_true_eq, beq_iff_eq] at h
    rcases h with h | ⟨rfl, h⟩
    · have hlt : c.toNat < d.toNat := UInt8.lt_iff_toNat_lt.1 h
      have hd : ¬ d = 0 := fun e => by rw [e] at hlt; exact absurd hlt (Nat.not_lt_zero _)
      by_cases hc : c = 0
      · subst hc
        exact ⟨[], 0, d.toNat, 255 :: (esc r ++ [0, 1]), esc s ++ [0, 1], by simp [esc], by simp [esc, hd], by have : (0 : UInt8).toNat = 0 := rfl
                                                                                                               omega⟩
      · exact ⟨[], c.toNat, d.toNat, esc r ++ [0, 1], esc s ++ [0, 1], by simp [esc, hc], by simp [esc, hd], by omega⟩
    · have ih := diff_text r s h
      by_cases hc : c = 0
      · subst hc
        have := (ih.cons 255).cons 0
        simpa [esc] using this
      · have := ih.cons c.toNat
        simpa [esc, hc] using this

/-- A part whose number is one of 64 bits and whose float is one. -/
def Fits (d : PartD) : Prop := -9223372036854775808 ≤ d.n ∧ d.n < 9223372036854775808 ∧ d.f < 18446744073709551616
theorem cmpI_neg {x y : Int} : cmpI x y < 0 ↔ x < y := by
  unfold cmpI
  split
  · omega
  · split <;> omega
theorem cmpI_zero {x y : Int} : cmpI x y = 0 ↔ x = y := by
  unfold cmpI
  split
  · omega
  · split <;> omega
theorem cmpI_turn (x y : Int) : cmpI y x = - cmpI x y := by
  unfold cmpI
  by_cases h1 : x < y
  · have h2 : ¬ y < x := by omega
    simp [h1, h2]
  · by_cases h2 : y < x
    · simp [h1, h2]
    · simp [h1, h2]
theorem cmpT_neg {a b : ByteArray} : cmpT a b < 0 ↔ Op.bytesLess a.data.toList b.data.toList = true := by
  unfold cmpT
  rw [ByteArray.toList_eq, ByteArray.toList_eq]
  cases h1 : Op.bytesLess a.data.toList b.data.toList
  · cases h2 : Op.bytesLess b.data.toList a.data.toList <;> simp
  · simp
theorem less_both {a b : List UInt8} (h1 : Op.bytesLess a b = true) : Op.bytesLess b a = false := by
  rw [less_turn]; simp [h1]
theorem cmpT_zero {a b : ByteArray} (h : cmpT a b = 0) : a.data.toList = b.data.toList := by
  unfold cmpT at h
  rw [ByteArray.toList_eq, ByteArray.toList_eq] at h
  cases h1 : Op.bytesLess a.data.toList b.data.toList
  · cases h2 : Op.bytesLess b.data.toList a.data.toList
    · have := less_turn a.data.toList b.data.toList
      rw [h1, h2] at this
      simpa using this
    · rw [h1, h2] at h; simp at h
  · rw [h1] at h; simp at h
theorem cmpT_turn (a b : ByteArray) : cmpT b a = - cmpT a b := by
  unfold cmpT
  rw [ByteArray.toList_eq, ByteArray.toList_eq]
  cases h1 : Op.bytesLess a.data.toList b.data.toList
  · cases h2 : Op.bytesLess b.data.toList a.data.toList <;> simp
  · have h2 := less_both h1
    simp [h2]
theorem cmpD_turn (d e : PartD) : cmpD e d = - cmpD d e := by
  unfold cmpD
  by_cases h : d.k = e.k
  · have h' : e.k = d.k := h.symm
    rw [if_neg (show ¬ (e.k ≠ d.k) from fun hn => hn h'), if_neg (show ¬ (d.k ≠ e.k) from fun hn => hn h)]
    by_cases h1 : d.k = 1
    · rw [if_pos (show e.k = 1 by omega), if_pos h1, cmpI_turn]
    · rw [if_neg (show ¬ e.k = 1 by omega), if_neg h1]
      by_cases h2 : d.k = 2
      · rw [if_pos (show e.k = 2 by omega), if_pos h2, cmpI_turn]
      · rw [if_neg (show ¬ e.k = 2 by omega), if_neg h2, cmpT_turn]
  · rw [if_pos (show e.k ≠ d.k from fun hh => h hh.symm), if_pos (show d.k ≠ e.k from h), cmpI_turn]
theorem pkey_diff {d e : PartD} (fd : Fits d) (fe : Fits e) (h : cmpD d e < 0) : Diff (pkey d) (pkey e) := by
  unfold cmpD at h
  by_cases hk : d.k = e.k
  · rw [if_neg (show ¬ (d.k ≠ e.k) from fun hn => hn hk)] at h
    unfold pkey
    by_cases h1 : d.k = 1
    · rw [if_pos h1] at h
      rw [if_pos h1, if_pos (show e.k = 1 by omega), ← hk]
      have hlt := cmpI_neg.1 h
      refine Diff.cons _ (diff_eights ?_ ?_ ?_ ?_ ?_)
      all_goals (try rw [rank_nat fd.1 fd.2.1])
      all_goals (try rw [rank_nat fe.1 fe.2.1])
      · have := fd.1; omega
      · have := fd.2.1; omega
      · have := fe.1; omega
      · have := fe.2.1; omega
      · omega
    · rw [if_neg h1] at h
      rw [if_neg h1, if_neg (show ¬ e.k = 1 by omega), ← hk]
      by_cases h2 : d.k = 2
      · rw [if_pos h2] at h
        rw [if_pos h2, if_pos h2]
        have hlt := cmpI_neg.1 h
        exact Diff.cons _ (diff_eights (frank_range fd.2.2).1 (frank_range fd.2.2).2 (frank_range fe.2.2).1 (frank_range fe.2.2).2 hlt)
      · rw [if_neg h2] at h
        rw [if_neg h2, if_neg h2]
        exact Diff.cons _ (diff_text _ _ (cmpT_neg.1 h))
  · rw [if_pos (show d.k ≠ e.k from hk)] at h
    have hlt := cmpI_neg.1 h
    exact ⟨[], d.k, e.k, _, _, rfl, rfl, hlt⟩
theorem pkey_same {d e : PartD} (h : cmpD d e = 0) : pkey d = pkey e := by
  unfold cmpD at h
  by_cases hk : d.k = e.k
  · rw [if_neg (show ¬ (d.k ≠ e.k) from fun hn => hn hk)] at h
    unfold pkey
    by_cases h1 : d.k = 1
    · rw [if_pos h1] at h
      rw [if_pos h1, if_pos (show e.k = 1 by omega), ← hk, cmpI_zero.1 h]
    · rw [if_neg h1] at h
      rw [if_neg h1, if_neg (show ¬ e.k = 1 by omega), ← hk]
      by_cases h2 : d.k = 2
      · rw [if_pos h2] at h
        rw [if_pos h2, if_pos h2, cmpI_zero.1 h]
      · rw [if_neg h2] at h
        rw [if_neg h2, if_neg h2, cmpT_zero h]
  · rw [if_pos (show d.k ≠ e.k from hk)] at h
    exact absurd (cmpI_zero.1 h) hk
theorem pkey_pos (d : PartD) : ∃ z r, pkey d = z :: r := ⟨_, _, rfl⟩
/-- KEYS OF PARTS RISE AS THE PARTS DO. -/
theorem tkey_order : ∀ (p q : List PartD), (∀ d ∈ p, Fits d) → (∀ d ∈ q, Fits d) →
    lessI (tkey p) (tkey q) = decide (cmpsD p q < 0) ∧ (tkey p = tkey q ↔ cmpsD p q = 0)
  | [], [], _, _ => by simp [tkey, lessI, cmpsD, cmpI]
  | [], e :: s, _, _ => by
    obtain ⟨z, r, hz⟩ := pkey_pos e
    have hc : cmpsD [] (e :: s) = -1 := by unfold cmpsD cmpI; rw [if_pos (by simp <;> omega)]
    rw [hc]
    simp [tkey, hz, lessI]
  | d :: r, [], _, _ => by
    obtain ⟨z, r', hz⟩ := pkey_pos d
    have hc : cmpsD (d :: r) [] = 1 := by unfold cmpsD cmpI; rw [if_neg (by simp <;> omega), if_pos (by simp <;> omega)]
    rw [hc]
    simp [tkey, hz, lessI]
  | d :: r, e :: s, fp, fq => by
    have ih := tkey_order r s (fun x hx => fp x (by simp [hx])) (fun x hx => fq x (by simp [hx]))
    have fd := fp d (by simp)
    have fe := fq e (by simp)
    have e1 : tkey (d :: r) = pkey d ++ tkey r := by simp [tkey]
    have e2 : tkey (e :: s) = pkey e ++ tkey s := by simp [tkey]
    rw [e1, e2, cmpsD]
    by_cases hz : cmpD d e = 0
    · rw [if_pos hz, pkey_same hz, lessI_same]
      exact ⟨ih.1, by rw [List.append_cancel_left_eq]; exact ih.2⟩
    · rw [if_neg hz]
      by_cases hn : cmpD d e < 0
      · have hD := (pkey_diff fd fe hn).less (tkey r) (tkey s)
        exact ⟨by rw [hD.1]; simp [hn], ⟨fun h => absurd h hD.2.2, fun h => absurd h hz⟩⟩
      · have hn2 : cmpD e d < 0 := by rw [cmpD_turn]; omega
        have hD := (pkey_diff fe fd hn2).less (tkey s) (tkey r)
        exact ⟨by rw [hD.2.1]; simp [hn], ⟨fun h => absurd h.symm hD.2.2, fun h => absurd h hz⟩⟩
theorem esc_bytes : ∀ (l : List UInt8), ∀ b ∈ esc l ++ [0, 1], 0 ≤ b ∧ b ≤ 255
  | [], b, hb => by
    simp [esc] at hb
    rcases hb with rfl | rfl <;> omega
  | c :: r, b, hb => by
    have ih := esc_bytes r b
    simp only [esc] at hb
    split at hb
    · simp only [List.cons_append, List.mem_cons] at hb
      rcases hb with rfl | rfl | hb
      · omega
      · omega
      · exact ih hb
    · simp only [List.cons_append, List.mem_cons] at hb
      rcases hb with rfl | hb
      · have := c.toNat_lt; omega
      · exact ih hb
theorem pkey_bytes {d : PartD} (h : okD d = true) : ∀ b ∈ pkey d, 0 ≤ b ∧ b ≤ 255 := by
  intro b hb
  have hk := okD_kind h
  unfold pkey at hb
  simp only [List.mem_cons] at hb
  rcases hb with rfl | hb
  · omega
  · split at hb
    · exact eights_bytes _ _ hb
    · split at hb
      · exact eights_bytes _ _ hb
      · exact esc_bytes _ _ hb
theorem tkey_bytes {ps : List PartD} (h : ps.all okD = true) : ∀ b ∈ tkey ps, 0 ≤ b ∧ b ≤ 255 := by
  intro b hb
  obtain ⟨d, hd, hb⟩ := List.mem_flatMap.1 hb
  rw [List.all_eq_true] at h
  exact pkey_bytes (h d hd) b hb
end Go.Proofs.Ytgifcaeemfaihaa
