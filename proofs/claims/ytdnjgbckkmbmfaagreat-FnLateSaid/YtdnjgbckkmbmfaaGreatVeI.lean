/-
  impl.entriesSeen: the entries of those keys that a view shows.
-/
import Derived.Test.YtdnjgbckkmbmfaaGreatVeS
import Derived.Test.YtdnjgbckkmbmfaaGreatVeK
namespace Go.Proofs.YtdnjgbckkmbmfaaGreat
open Go.RowKit Go.Maps

def StrRow (w : World) (a : Option Addr) (n : Nat) (ks : List ByteArray) : Prop :=
 ks.length = n ∧ ∀ i (hi : i < ks.length), ∃ b off, a = some ⟨b, off, none⟩ ∧ w.cell? ⟨b, off + i, none⟩ = some (.string ks[i])
theorem StrRow.below {w w' : World} {a : Option Addr} {n : Nat} {ks : List ByteArray} (h : StrRow w a n ks) (hb : Below w.heap.size w w') : StrRow w' a n ks := by
 refine ⟨h.1, fun i hi => ?_⟩
 obtain ⟨b, off, e, c⟩ := h.2 i hi
 exact ⟨b, off, e, (hb.cell (p := ⟨b, off + i, none⟩) (cell_lt c)).trans c⟩
theorem strrow_of_owns {w : World} {B : Nat} {v : Value} {ks : List ByteArray} (h : StrOwns w B v ks) : ∃ a c, v = .slice a ks.length c ∧ StrRow w a ks.length ks := by
 have h' := h
 rcases h.2 with ⟨rfl, h0⟩ | ⟨g, cap, cur, rfl, _⟩
 ·exact ⟨none, 0, by rw [h0], rfl, fun i hi => absurd hi (by omega)⟩
 ·refine ⟨_, cap, rfl, rfl, fun i hi => ⟨g, 0, rfl, ?_⟩⟩
  rw [Nat.zero_add, h'.cellAt i (by omega)]
  simp [hi]
def VwGives (o : Option VerD) (w : World) (e : Ending) (w' : World) : Prop :=
 (∃ x, e = .returned (.tuple #[vv x, .bool false]) ∧ o = none ∧ Below w.heap.size w w') ∨ ∃ x, e = .returned (.tuple #[vv x, .bool true]) ∧ o = some x ∧ Below w.heap.size w w'
def seeK (k : ByteArray) : Option VerD → List KvD
 | some x => [⟨k, x.v⟩]
 | none => []
theorem seeK_len (k : ByteArray) (o : Option VerD) : (seeK k o).length ≤ 1 := by cases o <;> simp [seeK]
def seenL (see : ByteArray → Option VerD) (ks : List ByteArray) : List KvD := ks.flatMap fun k => seeK k (see k)
theorem seenL_len (see : ByteArray → Option VerD) : ∀ ks : List ByteArray, (seenL see ks).length ≤ ks.length
 | [] => by simp [seenL]
 | k :: r => by
  have h1 := seenL_len see r
  have h2 := seeK_len k (see k)
  simp only [seenL, List.flatMap_cons, List.length_append, List.length_cons] at *
  omega
theorem seenL_snoc (see : ByteArray → Option VerD) (ks : List ByteArray) (k : ByteArray) : seenL see (ks ++ [k]) = seenL see ks ++ seeK k (see k) := by simp [seenL]
end Go.Proofs.YtdnjgbckkmbmfaaGreat
