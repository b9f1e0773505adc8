/-
  The version that a key has at a time, as plain data.
-/
import Derived.Test.YtodmkbnoljilpaaVaG
namespace Go.Proofs.Ytodmkbnoljilpaa
open Go.RowKit

def lastAt (L : List VerD) (t : Int) : Option VerD := (L.filter fun d => decide (d.t ≤ t)).getLast?
/-- The version that a key has at a time. -/
def verAt (ds : List VerD) (k : ByteArray) (t : Int) : Option VerD := match lastAt (grp ds k) t with
  | some d => if d.g = true then none else some d
  | none => none
/-- How many are not later. -/
def cnt (L : List VerD) (t : Int) : Nat := (L.takeWhile fun d => decide (d.t ≤ t)).length
theorem ltV_trans {a b c : VerD} (h1 : ltV a b = true) (h2 : ltV b c = true) : ltV a c = true := by
  unfold ltV at *
  simp only [Bool.or_eq_true, Bool.and_eq_true, decide_eq_true_eq] at *
  rcases h1 with h1 | ⟨h1, h1'⟩
  · rcases h2 with h2 | ⟨h2, _⟩
    · exact .inl (ltK_trans h1 h2)
    · exact .inl (h2 ▸ h1)
  · rcases h2 with h2 | ⟨h2, h2'⟩
    · exact .inl (h1 ▸ h2)
    · exact .inr ⟨h1.trans h2, by omega⟩
theorem okVs_next {ds : List VerD} (h : okVs ds = true) {i : Nat} (hi : i + 1 < ds.length) : ltV (ds[i]'(by omega)) ds[i + 1] = true := by
  have := okVs_at h hi
  rw [okAtV_succ hi, Bool.and_eq_true] at this
  exact this.2
theorem okVs_rise {ds : List VerD} (h : okVs ds = true) {i : Nat} : ∀ (m : Nat) (hj : i + m + 1 < ds.length), ltV (ds[i]'(by omega)) ds[i + m + 1] = true
  | 0, hj => okVs_next h hj
  | m + 1, hj => ltV_trans (okVs_rise h m (by omega)) (okVs_next h (i := i + m + 1) hj)
theorem okVs_pair {ds : List VerD} (h : okVs ds = true) : ds.Pairwise fun a b => ltV a b = true := by
  rw [List.pairwise_iff_getElem]
  intro i j hi hj hij
  obtain ⟨m, rfl⟩ : ∃ m, j = i + m + 1 := ⟨j - i - 1, by omega⟩
  exact okVs_rise h m hj
/-- What a view gives. -/
def VwRes (ds : List VerD) (k : ByteArray) (t : Int) (w : World) (e : Ending) (w' : World) : Prop :=
  (∃ x, e = .returned (.tuple #[vv x, .bool false]) ∧ verAt ds k t = none ∧ Below w.heap.size w w') ∨ ∃ x, e = .returned (.tuple #[vv x, .bool true]) ∧ verAt ds k t = some x ∧ Below w.heap.size w w'
end Go.Proofs.Ytodmkbnoljilpaa
