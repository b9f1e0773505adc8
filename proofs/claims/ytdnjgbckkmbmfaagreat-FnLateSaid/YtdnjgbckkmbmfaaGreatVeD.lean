/-
  The keys of a right list of versions, each once, as they rise; the entries at a time are told by them.
-/
import Derived.Test.YtdnjgbckkmbmfaaGreatVeL
import Derived.Sort.KeysCollected
import Derived.Sort.Walk0
namespace Go.Proofs.YtdnjgbckkmbmfaaGreat
open Go.RowKit Go.Maps

def dkTo (ds : List VerD) : Nat → List ByteArray
 | 0 => []
 | j + 1 => dkTo ds j ++ (if hi : j < ds.length then (if 0 < j ∧ (ds[j - 1]'(by omega)).k = ds[j].k then [] else [ds[j].k]) else [])
def dkeys (ds : List VerD) : List ByteArray := dkTo ds ds.length
theorem dk_again {ds : List VerD} {j : Nat} (hj : j < ds.length) (h : 0 < j ∧ (ds[j - 1]'(by omega)).k = ds[j].k) : dkTo ds (j + 1) = dkTo ds j := by
 simp only [dkTo, dif_pos hj, if_pos h, List.append_nil]
theorem dk_new {ds : List VerD} {j : Nat} (hj : j < ds.length) (h : ¬ (0 < j ∧ (ds[j - 1]'(by omega)).k = ds[j].k)) : dkTo ds (j + 1) = dkTo ds j ++ [ds[j].k] := by
 simp only [dkTo, dif_pos hj, if_neg h]
theorem ents_dk (ds : List VerD) (t : Int) : ∀ j, j ≤ ds.length → entsTo ds t j = (dkTo ds j).flatMap fun k => kvOf (verAt ds k t)
 | 0, _ => rfl
 | j + 1, hj => by
  have hj2 : j < ds.length := hj
  by_cases h : 0 < j ∧ (ds[j - 1]'(by omega)).k = ds[j].k
  ·rw [dk_again hj2 h, ents_again hj2 h.1 h.2, ents_dk ds t j (by omega)]
  ·rw [dk_new hj2 h, ents_new hj2 h, ents_dk ds t j (by omega), List.flatMap_append]
   simp
theorem dk_mem (ds : List VerD) (x : ByteArray) : ∀ j, j ≤ ds.length → (x ∈ dkTo ds j ↔ ∃ i, ∃ h : i < ds.length, i < j ∧ ds[i].k = x)
 | 0, _ => by simp [dkTo]
 | j + 1, hj => by
  have hj2 : j < ds.length := hj
  have ih := dk_mem ds x j (by omega)
  by_cases h : 0 < j ∧ (ds[j - 1]'(by omega)).k = ds[j].k
  ·rw [dk_again hj2 h, ih]
   constructor
   ·rintro ⟨i, hi, h1, h2⟩
    exact ⟨i, hi, by omega, h2⟩
   ·rintro ⟨i, hi, h1, h2⟩
    by_cases e : i < j
    ·exact ⟨i, hi, e, h2⟩
    ·obtain rfl : i = j := by omega
     exact ⟨i - 1, by omega, by omega, h.2.trans h2⟩
  ·rw [dk_new hj2 h, List.mem_append, ih, List.mem_singleton]
   constructor
   ·rintro (⟨i, hi, h1, h2⟩ | h2)
    ·exact ⟨i, hi, by omega, h2⟩
    ·exact ⟨j, hj2, by omega, h2.symm⟩
   ·rintro ⟨i, hi, h1, h2⟩
    by_cases e : i < j
    ·exact .inl ⟨i, hi, e, h2⟩
    ·obtain rfl : i = j := by omega
     exact .inr h2.symm
theorem okVs_lt2 {ds : List VerD} (h : okVs ds = true) {i j : Nat} (hj : j < ds.length) (hij : i < j) : ltV (ds[i]'(by omega)) ds[j] = true := List.pairwise_iff_getElem.1 (okVs_pair h) i j _ hj hij
theorem ltV_or {a b : VerD} (h : ltV a b = true) : ltK a.k b.k = true ∨ a.k = b.k := by
 unfold ltV at h
 simp only [Bool.or_eq_true, Bool.and_eq_true, decide_eq_true_eq] at h
 rcases h with h | h
 ·exact .inl h
 ·exact .inr h.1
theorem dk_rise {ds : List VerD} (ok : okVs ds = true) : ∀ j, j ≤ ds.length → (dkTo ds j).Pairwise fun a b => ltK a b = true
 | 0, _ => List.Pairwise.nil
 | j + 1, hj => by
  have hj2 : j < ds.length := hj
  have ih := dk_rise ok j (by omega)
  by_cases h : 0 < j ∧ (ds[j - 1]'(by omega)).k = ds[j].k
  ·rw [dk_again hj2 h]
   exact ih
  ·rw [dk_new hj2 h, List.pairwise_append]
   refine ⟨ih, List.pairwise_singleton _ _, fun a ha b hb => ?_⟩
   obtain rfl : b = ds[j].k := by simpa using hb
   obtain ⟨i, hi, hij, rfl⟩ := (dk_mem ds a j (by omega)).1 ha
   rcases ltV_or (okVs_lt2 ok hj2 hij) with e | e
   ·exact e
   ·exfalso
    have hp : ¬ (ds[j - 1]'(by omega)).k = ds[j].k := fun e => h ⟨by omega, e⟩
    by_cases e1 : i = j - 1
    ·subst e1
     exact hp e
    ·have h2 := ltV_or (okVs_lt2 ok (i := j - 1) hj2 (by omega))
     have h1 := ltV_or (okVs_lt2 ok (i := i) (j := j - 1) (by omega) (by omega))
     rcases h2 with h2 | h2
     ·rcases h1 with h1 | h1
      ·have := ltK_trans h1 h2
       rw [e, ltK_irr] at this
       exact absurd this (by decide)
      ·rw [← h1, e, ltK_irr] at h2
       exact absurd h2 (by decide)
     ·exact hp h2
theorem ltK_le {a b : ByteArray} (h : ltK a b = true) : a.data.toList < b.data.toList := by
 unfold ltK at h
 rw [ByteArray.toList_eq, ByteArray.toList_eq, bytesLess_eq] at h
 exact of_decide_eq_true h
def dkB (ds : List VerD) : List (List UInt8) := (dkeys ds).map fun k => k.data.toList
theorem dkB_lt {ds : List VerD} (ok : okVs ds = true) : (dkB ds).Pairwise fun a b => a < b := List.pairwise_map.2 ((dk_rise ok _ (Nat.le_refl _)).imp fun h => ltK_le h)
theorem dkB_nodup {ds : List VerD} (ok : okVs ds = true) : (dkB ds).Nodup := (dkB_lt ok).imp fun {a b} h e => by subst e; exact List.lt_irrefl _ h
theorem dkB_sort {ds : List VerD} (ok : okVs ds = true) {ss : List (List UInt8)} (h : ss.Perm (dkB ds)) : ss.mergeSort (fun x y => decide (x ≤ y)) = dkB ds := by
 rw [mergeSort_of_perm h]
 refine List.mergeSort_of_pairwise ((dkB_lt ok).imp fun h => ?_)
 exact decide_eq_true (List.le_of_lt h)
theorem dkB_mem {ds : List VerD} (x : List UInt8) : x ∈ dkB ds ↔ ∃ i, ∃ h : i < ds.length, ds[i].k.data.toList = x := by
 unfold dkB dkeys
 rw [List.mem_map]
 constructor
 ·rintro ⟨k, hk, rfl⟩
  obtain ⟨i, hi, _, rfl⟩ := (dk_mem ds k _ (Nat.le_refl _)).1 hk
  exact ⟨i, hi, rfl⟩
 ·rintro ⟨i, hi, rfl⟩
  exact ⟨_, (dk_mem ds _ _ (Nat.le_refl _)).2 ⟨i, hi, hi, rfl⟩, rfl⟩
theorem dkTo_len (ds : List VerD) : ∀ j, (dkTo ds j).length ≤ j
 | 0 => by simp [dkTo]
 | j + 1 => by
  have := dkTo_len ds j
  simp only [dkTo, List.length_append]
  split
  ·split <;> simp <;> omega
  ·simp; omega
theorem grp_ne {ds : List VerD} {k : ByteArray} : grp ds k ≠ [] ↔ ∃ i, ∃ h : i < ds.length, ds[i].k = k := by
 constructor
 ·intro h
  obtain ⟨d, hd⟩ := List.exists_mem_of_ne_nil _ h
  obtain ⟨h1, h2⟩ := List.mem_filter.1 hd
  obtain ⟨i, hi, rfl⟩ := List.getElem_of_mem h1
  exact ⟨i, hi, of_decide_eq_true h2⟩
 ·rintro ⟨i, hi, rfl⟩ e
  have : ds[i] ∈ grp ds ds[i].k := List.mem_filter.2 ⟨List.getElem_mem hi, decide_eq_true rfl⟩
  rw [e] at this
  exact absurd this (List.not_mem_nil)
end Go.Proofs.YtdnjgbckkmbmfaaGreat
