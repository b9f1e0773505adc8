/-
  An image's bytes: plain facts.
-/
import Derived.Test.YtdiakahaghggiaaCrcL
namespace Go.Proofs.Ytdiakahaghggiaa
open Go.RowKit

abbrev iv (id : Int) (gone : Bool) (a : Option Addr) (n c : Nat) : Value := .agg #[.int .i64 id, .bool gone, .slice a n c]
/-- An image is right. -/
def imOK (id : Int) (gone : Bool) (n : Nat) : Bool := decide (0 ≤ id ∧ id ≤ 1000 ∧ n ≤ 1000 ∧ (gone = true → n = 0))
theorem imOK_yes {id : Int} {gone : Bool} {n : Nat} (h0 : 0 ≤ id) (h1 : id ≤ 1000) (h2 : n ≤ 1000) (h3 : gone = true → n = 0) : imOK id gone n = true := decide_eq_true ⟨h0, h1, h2, h3⟩
theorem imOK_no {id : Int} {gone : Bool} {n : Nat} (h : ¬ (0 ≤ id ∧ id ≤ 1000 ∧ n ≤ 1000 ∧ (gone = true → n = 0))) : imOK id gone n = false := decide_eq_false h
def imMark (gone : Bool) : Int := if gone = true then 2 else 1
def four (v : Nat) : List Int := [(v : Int) / 16777216, (v : Int) / 65536 % 256, (v : Int) / 256 % 256, (v : Int) % 256]
/-- An image's bytes ahead of the sum. -/
def imgH (id : Int) (gone : Bool) (xs : List Int) : List Int := imMark gone :: id / 256 :: id % 256 :: (xs.length : Int) / 256 :: (xs.length : Int) % 256 :: xs
def imgL (id : Int) (gone : Bool) (xs : List Int) : List Int := imgH id gone xs ++ four (crcV (imgH id gone xs))
theorem imgH_length (id : Int) (gone : Bool) (xs : List Int) : (imgH id gone xs).length = xs.length + 5 := rfl
theorem imgL_length (id : Int) (gone : Bool) (xs : List Int) : (imgL id gone xs).length = xs.length + 9 := by simp [imgL, imgH_length, four]
theorem bytes8_mem {xs : List Int} : Bytes8 xs ↔ ∀ x ∈ xs, 0 ≤ x ∧ x ≤ 255 := by
  constructor
  · intro h x hx
    obtain ⟨i, hi, rfl⟩ := List.getElem_of_mem hx
    have := h i hi
    simpa [List.getD, hi] using this
  · intro h i hi
    have := h xs[i] (List.getElem_mem hi)
    simpa [List.getD, hi] using this
theorem imMark_bd (gone : Bool) : 0 ≤ imMark gone ∧ imMark gone ≤ 255 := by unfold imMark; split <;> omega
theorem imgH_bytes {id : Int} {gone : Bool} {xs : List Int} (h : Bytes8 xs) (h0 : 0 ≤ id) (h1 : id ≤ 65535) (h2 : xs.length ≤ 65535) : Bytes8 (imgH id gone xs) := by
  rw [bytes8_mem] at h ⊢
  intro x hx
  have hm := imMark_bd gone
  simp only [imgH, List.mem_cons] at hx
  rcases hx with rfl | rfl | rfl | rfl | rfl | hx
  · exact hm
  · omega
  · omega
  · omega
  · omega
  · exact h x hx
theorem four_bytes {v : Nat} (h : v < 4294967296) : Bytes8 (four v) := by
  rw [bytes8_mem]
  intro x hx
  simp only [four, List.mem_cons, List.not_mem_nil, or_false] at hx
  rcases hx with rfl | rfl | rfl | rfl <;> omega
theorem bytes8_append {xs ys : List Int} (h : Bytes8 xs) (h2 : Bytes8 ys) : Bytes8 (xs ++ ys) := by
  rw [bytes8_mem] at h h2 ⊢
  intro x hx
  rcases List.mem_append.1 hx with hx | hx
  · exact h x hx
  · exact h2 x hx
theorem imgL_bytes {id : Int} {gone : Bool} {xs : List Int} (h : Bytes8 xs) (h0 : 0 ≤ id) (h1 : id ≤ 65535) (h2 : xs.length ≤ 65535) : Bytes8 (imgL id gone xs) :=
  have hh := imgH_bytes (gone := gone) h h0 h1 h2
  bytes8_append hh (four_bytes (crcV_lt hh))
/-- What ImageBytes answers. -/
def ibL (id : Int) (gone : Bool) (xs : List Int) : List Int := if imOK id gone xs.length = true then imgL id gone xs else []
def ibC (id : Int) (gone : Bool) (xs : List Int) : Int := if imOK id gone xs.length = true then 0 else 1
theorem ibL_length (id : Int) (gone : Bool) (xs : List Int) : (ibL id gone xs).length ≤ 1009 := by
  unfold ibL
  split
  · rename_i h
    have := of_decide_eq_true h
    rw [imgL_length]; omega
  · simp
end Go.Proofs.Ytdiakahaghggiaa
