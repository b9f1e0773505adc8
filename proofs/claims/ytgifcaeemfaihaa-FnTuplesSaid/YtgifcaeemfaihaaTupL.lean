/-
  The key of several parts: plain facts.
-/
import Derived.Test.YtgifcaeemfaihaaPartOK
import Derived.Test.YtgifcaeemfaihaaTextL
import Derived.Test.YtgifcaeemfaihaaEightL
import Derived.Test.YtgifcaeemfaihaaRank
set_option maxRecDepth 100000
namespace Go.Proofs.Ytgifcaeemfaihaa
open Go.RowKit

/-- The key of a part, its Kind first. -/
def pkey (d : PartD) : List Int := d.k :: (if d.k = 1 then eights (rank d.n) 8 else if d.k = 2 then eights (frank d.f) 8 else esc d.t.data.toList ++ [0, 1])
def tkey (ps : List PartD) : List Int := ps.flatMap pkey
theorem size_of_empty {t : ByteArray} (h : t.toList.isEmpty = true) : t.size = 0 := by
  rw [ByteArray.toList_eq] at h
  have h1 : t.data = #[] := by simpa using h
  show t.data.size = 0
  rw [h1]; rfl
theorem okD_text {d : PartD} (h : okD d = true) : d.t.size ≤ 100 := by
  unfold okD at h
  split at h
  · simp only [Bool.and_eq_true] at h; rw [size_of_empty h.2]; omega
  · split at h
    · simp only [Bool.and_eq_true] at h; rw [size_of_empty h.2]; omega
    · split at h
      · simp only [Bool.and_eq_true, decide_eq_true_eq] at h; omega
      · cases h
theorem okD_kind {d : PartD} (h : okD d = true) : d.k = 1 ∨ d.k = 2 ∨ d.k = 3 := by
  unfold okD at h
  split at h
  · exact .inl ‹_›
  · split at h
    · exact .inr (.inl ‹_›)
    · split at h
      · exact .inr (.inr ‹_›)
      · cases h
theorem pkey_length {d : PartD} (h : okD d = true) : (pkey d).length ≤ 203 := by
  have ht := okD_text h
  have he := esc_length d.t.data.toList
  have hs : d.t.data.toList.length = d.t.size := by simp
  unfold pkey
  split
  · simp [eights_length]
  · split
    · simp [eights_length]
    · simp only [List.length_cons, List.length_append, List.length_nil]; omega
theorem tkey_length {ps : List PartD} (h : ps.all okD = true) : (tkey ps).length ≤ 203 * ps.length := by
  induction ps with
  | nil => simp [tkey]
  | cons d r ih =>
    simp only [List.all_cons, Bool.and_eq_true] at h
    have h1 := pkey_length h.1
    have h2 := ih h.2
    simp only [tkey, List.flatMap_cons, List.length_append, List.length_cons] at h2 ⊢
    omega
theorem tkey_step {ps : List PartD} {k : Nat} (h : k < ps.length) : tkey (ps.take (k + 1)) = tkey (ps.take k) ++ pkey ps[k] := by
  unfold tkey; rw [List.take_succ_eq_append_getElem h, List.flatMap_append]; simp
theorem oks_all {ps : List PartD} (h : oksD ps = true) : ps.length ≤ 6 ∧ ps.all okD = true := by
  simpa [oksD, Bool.and_eq_true] using h
theorem all_take {ps : List PartD} (h : ps.all okD = true) (k : Nat) : (ps.take k).all okD = true := by
  rw [List.all_eq_true] at h ⊢
  exact fun x hx => h x (List.mem_of_mem_take hx)
/-- What TupleKey answers, and its code. -/
def tupL (ps : List PartD) : List Int := if 4096 < ps.length then [] else if oksD ps = true then tkey ps else []
def tupC (ps : List PartD) : Int := if 4096 < ps.length then 2 else if oksD ps = true then 0 else 1
theorem tup_long {ps : List PartD} (h : 4096 < ps.length) : tupL ps = [] ∧ tupC ps = 2 := by simp [tupL, tupC, h]
theorem tup_bad {ps : List PartD} (h : ¬ 4096 < ps.length) (h2 : oksD ps = false) : tupL ps = [] ∧ tupC ps = 1 := by
  unfold tupL tupC; rw [if_neg h, if_neg h, if_neg (by simp [h2]), if_neg (by simp [h2])]; exact ⟨rfl, rfl⟩
theorem tup_ok {ps : List PartD} (h : ¬ 4096 < ps.length) (h2 : oksD ps = true) : tupL ps = tkey ps ∧ tupC ps = 0 := by
  unfold tupL tupC; rw [if_neg h, if_neg h, if_pos h2, if_pos h2]; exact ⟨rfl, rfl⟩
theorem tupL_length (ps : List PartD) : (tupL ps).length ≤ 1218 := by
  unfold tupL
  split
  · simp
  · split
    · have h := oks_all ‹_›
      have := tkey_length h.2
      omega
    · simp
end Go.Proofs.Ytgifcaeemfaihaa
