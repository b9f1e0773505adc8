/-
  The images that stand in bytes, one behind the other: plain data.
-/
import Derived.Test.YtdiakahaghggiaaImgL
namespace Go.Proofs.Ytdiakahaghggiaa
open Go.RowKit

/-- An image. -/
structure ImD where
  id : Int
  gone : Bool
  xs : List Int
def ImD.ok (x : ImD) : Bool := imOK x.id x.gone x.xs.length
def ImD.by (x : ImD) : List Int := imgL x.id x.gone x.xs
theorem ImD.by_len (x : ImD) : x.by.length = x.xs.length + 9 := imgL_length _ _ _
/-- The length that is told at a place, and the image that is told there. -/
def lenAt (b : List Int) (p : Nat) : Nat := (b.getD (p + 3) 0 * 256 + b.getD (p + 4) 0).toNat
def imAt (b : List Int) (p : Nat) : ImD := ⟨b.getD (p + 1) 0 * 256 + b.getD (p + 2) 0, decide (b.getD p 0 = 2), (b.drop (p + 5)).take (lenAt b p)⟩
/-- The image at a place. -/
def nextI (b : List Int) (p : Nat) : Option ImD :=
  if p + 5 ≤ b.length ∧ p + 5 + lenAt b p ≤ b.length ∧ (imAt b p).ok = true ∧ (b.drop p).take (lenAt b p + 9) = (imAt b p).by then some (imAt b p) else none
theorem imAt_len {b : List Int} {p : Nat} (h : p + 5 + lenAt b p ≤ b.length) : (imAt b p).xs.length = lenAt b p := by
  simp only [imAt, List.length_take, List.length_drop]
  omega
theorem next_yes {b : List Int} {p : Nat} (h1 : p + 5 ≤ b.length) (h2 : p + 5 + lenAt b p ≤ b.length) (h3 : (imAt b p).ok = true) (h4 : (b.drop p).take (lenAt b p + 9) = (imAt b p).by) : nextI b p = some (imAt b p) := if_pos ⟨h1, h2, h3, h4⟩
theorem next_no {b : List Int} {p : Nat} (h : ¬ (p + 5 ≤ b.length ∧ p + 5 + lenAt b p ≤ b.length ∧ (imAt b p).ok = true ∧ (b.drop p).take (lenAt b p + 9) = (imAt b p).by)) : nextI b p = none := if_neg h
theorem next_some {b : List Int} {p : Nat} {x : ImD} (h : nextI b p = some x) : x = imAt b p ∧ x.ok = true ∧ (b.drop p).take (x.xs.length + 9) = x.by ∧ p + 9 + x.xs.length ≤ b.length := by
  unfold nextI at h
  split at h
  · rename_i hc
    obtain ⟨h1, h2, h3, h4⟩ := hc
    injection h with h
    subst h
    have hl := imAt_len h2
    refine ⟨rfl, h3, by rw [hl]; exact h4, ?_⟩
    have h5 := congrArg List.length h4
    rw [ImD.by_len, hl, List.length_take, List.length_drop] at h5
    omega
  · cases h
theorem next_mark {b : List Int} {p : Nat} (h2 : p + 5 + lenAt b p ≤ b.length) (h4 : (b.drop p).take (lenAt b p + 9) = (imAt b p).by) : p + 9 + lenAt b p ≤ b.length ∧ (b.getD p 0 = 1 ∨ b.getD p 0 = 2) := by
  have hl := imAt_len h2
  have h5 := congrArg List.length h4
  rw [ImD.by_len, hl, List.length_take, List.length_drop] at h5
  have h7 : ((b.drop p).take (lenAt b p + 9)).getD 0 0 = b.getD p 0 := by simp [List.getD]
  have h8 : ((imAt b p).by).getD 0 0 = imMark (imAt b p).gone := rfl
  have h6 : b.getD p 0 = imMark (imAt b p).gone := by rw [← h7, h4, h8]
  refine ⟨by omega, ?_⟩
  rw [h6]
  unfold imMark
  split
  · exact .inr rfl
  · exact .inl rfl
theorem next_no9 {b : List Int} {p : Nat} (h : ¬ (p + 9 ≤ b.length ∧ (b.getD p 0 = 1 ∨ b.getD p 0 = 2) ∧ p + 9 + lenAt b p ≤ b.length)) : nextI b p = none :=
  next_no fun ⟨_, h2, _, h4⟩ => by
    obtain ⟨h5, h6⟩ := next_mark h2 h4
    exact h ⟨by omega, h6, h5⟩
/-- The images that were met, and the place behind them. -/
inductive Steps (b : List Int) : List ImD → Nat → Prop
  | start : Steps b [] 0
  | more {L : List ImD} {p : Nat} {x : ImD} : Steps b L p → nextI b p = some x → Steps b (L ++ [x]) (p + 9 + x.xs.length)
theorem Steps.le {b : List Int} {L : List ImD} {p : Nat} (h : Steps b L p) : p ≤ b.length ∧ 9 * L.length ≤ p := by
  induction h with
  | start => simp
  | more _ hn ih =>
    have := (next_some hn).2.2.2
    simp
    omega
/-- The images from a place on, and the place behind them. -/
def scanI (b : List Int) : Nat → Nat → List ImD × Nat
  | 0, p => ([], p)
  | f + 1, p => match nextI b p with
    | none => ([], p)
    | some x => (x :: (scanI b f (p + 9 + x.xs.length)).1, (scanI b f (p + 9 + x.xs.length)).2)
def scanB (b : List Int) : List ImD × Nat := scanI b (b.length + 1) 0
theorem scanI_none {b : List Int} {p : Nat} (h : nextI b p = none) (f : Nat) : scanI b f p = ([], p) := by
  cases f with
  | zero => rfl
  | succ f => simp only [scanI, h]
theorem scanI_steps {b : List Int} {L : List ImD} {p : Nat} (h : Steps b L p) : ∀ f, L.length ≤ f → scanI b f 0 = (L ++ (scanI b (f - L.length) p).1, (scanI b (f - L.length) p).2) := by
  induction h with
  | start => intro f _; simp
  | @more L p x hs hn ih =>
    intro f hf
    simp only [List.length_append, List.length_singleton] at hf
    rw [ih f (by omega)]
    obtain ⟨g, hg⟩ : ∃ g, f - L.length = g + 1 := ⟨f - L.length - 1, by omega⟩
    have e : f - (L ++ [x]).length = g := by simp; omega
    rw [hg, e]
    simp only [scanI, hn, List.append_assoc, List.singleton_append]
theorem scan_end {b : List Int} {L : List ImD} {p : Nat} (h : Steps b L p) (hn : nextI b p = none) : scanB b = (L, p) := by
  have hl := h.le
  unfold scanB
  rw [scanI_steps h _ (by omega), scanI_none hn]
  simp
theorem getD_bytes {b : List Int} (h : Bytes8 b) (i : Nat) : 0 ≤ b.getD i 0 ∧ b.getD i 0 ≤ 255 := by
  by_cases hi : i < b.length
  · exact h i hi
  · rw [show b.getD i 0 = 0 by simp [List.getD, List.getElem?_eq_none (by omega : b.length ≤ i)]]
    omega
theorem lenAt_eq {b : List Int} (h : Bytes8 b) (p : Nat) : (lenAt b p : Int) = b.getD (p + 3) 0 * 256 + b.getD (p + 4) 0 := by
  have h1 := getD_bytes h (p + 3)
  have h2 := getD_bytes h (p + 4)
  unfold lenAt
  omega
theorem lenAt_le {b : List Int} (h : Bytes8 b) (p : Nat) : lenAt b p ≤ 65535 := by
  have h1 := getD_bytes h (p + 3)
  have h2 := getD_bytes h (p + 4)
  unfold lenAt
  omega
theorem bytes8_drop {b : List Int} (h : Bytes8 b) (n m : Nat) : Bytes8 ((b.drop n).take m) := by
  rw [bytes8_mem] at h ⊢
  intro x hx
  exact h x (List.mem_of_mem_drop (List.mem_of_mem_take hx))
theorem imAt_bytes {b : List Int} (h : Bytes8 b) (p : Nat) : Bytes8 (imAt b p).xs := bytes8_drop h _ _
theorem imAt_id {b : List Int} (h : Bytes8 b) (p : Nat) : 0 ≤ (imAt b p).id ∧ (imAt b p).id ≤ 65535 := by
  have h1 := getD_bytes h (p + 1)
  have h2 := getD_bytes h (p + 2)
  simp only [imAt]
  omega
theorem ok_small {x : ImD} (h : x.ok = true) : x.xs.length ≤ 1000 ∧ 0 ≤ x.id ∧ x.id ≤ 1000 := by
  have := of_decide_eq_true h
  omega
theorem steps_ok {b : List Int} (h8 : Bytes8 b) {L : List ImD} {p : Nat} (h : Steps b L p) : ∀ x ∈ L, x.ok = true ∧ Bytes8 x.xs := by
  induction h with
  | start => simp
  | more _ hn ih =>
    intro y hy
    rcases List.mem_append.1 hy with hy | hy
    · exact ih y hy
    · obtain rfl := List.mem_singleton.1 hy
      obtain ⟨e, h1, _⟩ := next_some hn
      exact ⟨h1, by rw [e]; exact imAt_bytes h8 _⟩
theorem steps_sum {b : List Int} {L : List ImD} {p : Nat} (h : Steps b L p) : (L.map fun x => x.xs.length + 9).sum = p := by
  induction h with
  | start => rfl
  | more _ _ ih => rw [List.map_append, List.sum_append, ih]; simp; omega
end Go.Proofs.Ytdiakahaghggiaa
