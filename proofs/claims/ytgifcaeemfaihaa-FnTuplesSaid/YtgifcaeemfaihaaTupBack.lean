/-
  Parts are read back from their key: plain facts.
-/
import Derived.Test.YtgifcaeemfaihaaTupOrd
import Derived.Test.YtgifcaeemfaihaaReadTL
import Derived.Test.YtgifcaeemfaihaaLex
set_option maxRecDepth 100000
namespace Go.Proofs.Ytgifcaeemfaihaa
open Go.RowKit

theorem getD_behind (pre l : List Int) (i : Nat) : (pre ++ l).getD (pre.length + i) 0 = l.getD i 0 := by
  simp [List.getD, List.getElem?_append_right]
theorem oct_behind (pre l : List Int) (k : Nat) : oct (pre ++ l) (pre.length + k) = oct l k := by
  unfold oct
  simp only [Nat.add_assoc, getD_behind]
theorem oct_eights (z n : Int) (post : List Int) : oct (z :: (eights n 8 ++ post)) 1 = eights n 8 := by
  rw [eights_list]
  rfl
theorem empty_of {t : ByteArray} (h : t.toList.isEmpty = true) : t = ByteArray.empty := by
  rw [ByteArray.toList_eq] at h
  have h1 : t.data = #[] := by simpa using h
  cases t
  simp only at h1
  subst h1
  rfl
theorem unr_rank {n : Int} (h : -9223372036854775808 ≤ n) (h1 : n < 9223372036854775808) : unr (rank n) = n := by
  rw [rank_nat h h1]; unfold unr; omega
theorem unf_frank {f : Nat} (h : f < 18446744073709551616) : unf (frank f) = f := by
  unfold frank unf
  split <;> split <;> omega
theorem rdP_back (pre post : List Int) (d : PartD) (h : okD d = true) (hf : Fits d) : rdP (pre ++ (pkey d ++ post)) pre.length = some (d, pre.length + (pkey d).length) := by
  obtain ⟨k, n, f, t⟩ := d
  have hk := okD_kind h
  have ht := okD_text h
  obtain ⟨f1, f2, f3⟩ := hf
  simp only at hk ht f1 f2 f3
  have hg : (pre ++ (pkey ⟨k, n, f, t⟩ ++ post)).getD pre.length 0 = k := by
    have := getD_behind pre (pkey ⟨k, n, f, t⟩ ++ post) 0
    rw [Nat.add_zero] at this
    rw [this]
    rfl
  unfold rdP
  rw [hg]
  rcases hk with rfl | rfl | rfl
  · simp only [okD, if_true, Bool.and_eq_true, decide_eq_true_eq] at h
    obtain ⟨rfl, he⟩ := h
    obtain rfl := empty_of he
    have hpk : pkey ⟨1, n, 0, ByteArray.empty⟩ = 1 :: eights (rank n) 8 := by simp [pkey]
    rw [if_pos rfl, hpk, if_pos (by simp [eights_length] <;> omega), oct_behind]
    have := oct_eights 1 (rank n) post
    rw [List.cons_append, this, num_eights _ (by rw [rank_nat f1 f2]; omega) (by rw [rank_nat f1 f2]; omega), unr_rank f1 f2]
    simp [eights_length]
  · simp only [okD, if_true, Bool.and_eq_true, decide_eq_true_eq, show ¬ (2 : Int) = 1 by omega, if_false] at h
    obtain ⟨rfl, he⟩ := h
    obtain rfl := empty_of he
    have hpk : pkey ⟨2, 0, f, ByteArray.empty⟩ = 2 :: eights (frank f) 8 := by simp [pkey]
    rw [if_neg (by omega), if_pos rfl, hpk, if_pos (by simp [eights_length] <;> omega), oct_behind]
    have := oct_eights 2 (frank f) post
    rw [List.cons_append, this, num_eights _ (frank_range f3).1 (frank_range f3).2, unf_frank f3]
    simp [eights_length]
  · simp only [okD, if_true, Bool.and_eq_true, decide_eq_true_eq, show ¬ (3 : Int) = 1 by omega, show ¬ (3 : Int) = 2 by omega, if_false] at h
    obtain ⟨⟨rfl, rfl⟩, _⟩ := h
    have hpk : pkey ⟨3, 0, 0, t⟩ = 3 :: (esc t.data.toList ++ [0, 1]) := by simp [pkey]
    rw [if_neg (by omega), if_neg (by omega), if_pos rfl, hpk]
    have hdr : (pre ++ (3 :: (esc t.data.toList ++ [0, 1]) ++ post)).drop (pre.length + 1) = esc t.data.toList ++ [0, 1] ++ post := by
      rw [← List.drop_drop, List.drop_left]; rfl
    rw [hdr, rd_esc, short_some (by
      have : t.data.toList.length = t.size := by simp
      simp only [List.nil_append, List.length_map]; omega)]
    simp only [Option.map_some, List.nil_append, strOf_bytes]
    simp
    omega
theorem rdT_back : ∀ (ps acc : List PartD) (pre : List Int) (f : Nat), ps.all okD = true → (∀ d ∈ ps, Fits d) → acc.length + ps.length ≤ 6 → (tkey ps).length ≤ f → rdT f (pre ++ tkey ps) pre.length acc = (acc ++ ps, 0)
  | [], acc, pre, f, _, _, _, _ => by
    have e : tkey ([] : List PartD) = [] := rfl
    rw [e, List.append_nil, List.append_nil]
    exact rdT_end (Nat.le_refl _)
  | d :: r, acc, pre, f, hok, hf, h6, hl => by
    simp only [List.all_cons, Bool.and_eq_true] at hok
    have e : tkey (d :: r) = pkey d ++ tkey r := by simp [tkey]
    have hb := rdP_back pre (tkey r) d hok.1 (hf d (by simp))
    have hp : 0 < (pkey d).length := by obtain ⟨z, r', hz⟩ := pkey_pos d; rw [hz]; simp
    rw [e] at hl ⊢
    rw [List.length_append] at hl
    cases f with
    | zero => omega
    | succ g =>
      rw [rdT, if_pos (by simp only [List.length_append]; omega), hb]
      simp only [List.length_cons] at h6 ⊢
      rw [if_neg (by omega)]
      have ih := rdT_back r (acc ++ [d]) (pre ++ pkey d) g hok.2 (fun x hx => hf x (by simp [hx])) (by simp; omega) (by omega)
      rw [List.length_append, List.append_assoc] at ih
      rw [ih]
      simp
/-- PARTS ARE READ BACK FROM THEIR KEY. -/
theorem rtA_back {ps : List PartD} (h : oksD ps = true) (hf : ∀ d ∈ ps, Fits d) : rtA (tkey ps) = (ps, 0) := by
  obtain ⟨h6, hall⟩ := oks_all h
  have hl := tkey_length hall
  unfold rtA
  rw [if_neg (by omega)]
  have := rdT_back ps [] [] (tkey ps).length hall hf (by simpa using h6) (Nat.le_refl _)
  simpa using this
end Go.Proofs.Ytgifcaeemfaihaa
