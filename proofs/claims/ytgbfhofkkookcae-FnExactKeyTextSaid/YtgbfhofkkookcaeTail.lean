/-
  What the exact laws do with an answer of bytes: it is marked, and the marks are found again; what is carried over between.
-/
import Derived.Test.YtgbfhofkkookcaeTo
namespace Go.Proofs.Ytgbfhofkkookcae
open Go.RowKit

theorem Row.below {w w' : World} {B : Nat} {a : Option Addr} {n : Nat} {xs : List Int} (h : Row w a n xs) (hb : Below B w w') (ha : ∀ x, a = some x → x.block < B) : Row w' a n xs :=
  h.of_cells fun x hx p hp => hb.cell (by rw [hp]; exact ha x hx)
theorem Row.drewN {w : World} {k : Nat} {a : Option Addr} {n : Nat} {xs : List Int} (h : Row w a n xs) : Row (w.drewN k) a n xs := h
theorem bel_drewN {B : Nat} {a w : World} (h : Below B a w) (n : Nat) : Below B a (w.drewN n) := h.trans ⟨rfl, rfl, rfl, Nat.le_refl _, fun _ _ => rfl⟩
/-- Nothing is written but in the block that an address leads to. -/
def Touch (a : Option Addr) (w w' : World) : Prop := w' = w ∨ ∃ x, a = some x ∧ Only x.block w w'
theorem Touch.below {a : Option Addr} {w w' : World} {B : Nat} (h : Touch a w w') (ha : ∀ x, a = some x → B ≤ x.block) : Below B w w' := by
  rcases h with rfl | ⟨x, hx, ho⟩
  · exact Below.refl _ _
  · exact ho.below (ha x hx)
theorem Touch.size {a : Option Addr} {w w' : World} (h : Touch a w w') : w'.heap.size = w.heap.size := by
  rcases h with rfl | ⟨x, hx, ho⟩
  · rfl
  · exact ho.size
theorem Row.touch {w w' : World} {a a1 : Option Addr} {n : Nat} {xs : List Int} (h : Row w a n xs) (ht : Touch a1 w w') (ha : ∀ x y, a = some x → a1 = some y → x.block ≠ y.block) : Row w' a n xs := by
  rcases ht with rfl | ⟨y, hy, ho⟩
  · exact h
  · exact h.of_cells fun x hx p hp => ho.cell (by rw [hp]; exact ha x y hx hy)

/-- A slice of integers that came in: nil, or a row of 'cap' cells whose first 'len' are its elements. -/
def IsRow (k : IntKind) (w : World) (a : Option Addr) (len cap : Nat) (zs : List Int) : Prop :=
  (a = none ∧ len = 0 ∧ cap = 0 ∧ zs = []) ∨
  ∃ x, a = some x ∧ len ≤ cap ∧ cap ≤ maxLen ∧ zs.length = cap ∧ (∀ i, i < zs.length → w.cell? (x.add i) = some (.int k (zs.getD i 0))) ∧ ∀ n ∈ zs, (Lit.int k n).wf = true
theorem row_of_isRow {w : World} {a : Option Addr} {len cap : Nat} {zs : List Int} (h : IsRow .u8 w a len cap zs) : Row w a len (zs.take len) ∧ len ≤ maxLen ∧ ∀ x, a = some x → 0 < len → x.block < w.heap.size := by
  rcases h with ⟨rfl, rfl, rfl, rfl⟩ | ⟨x, rfl, hl, hm, hz, hcell, _⟩
  · exact ⟨⟨rfl, fun i hi => absurd hi (Nat.not_lt_zero _)⟩, by unfold maxLen; omega, fun x hx => by cases hx⟩
  · have key : ∀ i, i < len → ∃ b off, some x = some ⟨b, off, none⟩ ∧ w.cell? ⟨b, off + i, none⟩ = some (.int .u8 ((zs.take len).getD i 0)) := fun i hi => by
      have h0 := hcell i (by omega)
      obtain ⟨b, off, spot⟩ := x
      have hs : spot = none := by simpa [Addr.add] using World.cell?_spot (hcell 0 (by omega))
      subst hs
      refine ⟨b, off, rfl, ?_⟩
      have e : (⟨b, off, none⟩ : Addr).add i = ⟨b, off + i, none⟩ := by unfold Addr.add; split <;> simp_all
      rw [e] at h0
      rw [h0]
      simp [List.getD, hi]
    refine ⟨⟨by simp; omega, key⟩, by omega, fun y hy hp => ?_⟩
    cases hy
    obtain ⟨b, off, e, hc⟩ := key 0 hp
    cases e
    exact cell_lt hc
theorem markByteS_any (a : Option Addr) (n c : Nat) (xs : List Int) (k0 : Int) (w : World) (hn : n ≤ 4611686018427387904) (hk : 0 ≤ k0) (hk2 : k0 ≤ 1000) (h1 : Row w a n xs) (h2 : ∀ x, a = some x → ∀ j, w.frozen? ⟨x.block, j, none⟩ = false) :
    Calls Try.prog 12 #[.slice a n c, .int .i64 k0] w fun e w' => e = .returned (.int .i64 (k0 + n)) ∧ Row w' a n (marks k0 n) ∧ Touch a w w' := by
  by_cases h0 : n = 0
  · subst h0
    refine (markByteS_none a c k0 w).mono ?_
    rintro e w' ⟨rfl, rfl⟩
    exact ⟨ret_int (by simp), ⟨rfl, fun i hi => absurd hi (Nat.not_lt_zero _)⟩, .inl rfl⟩
  · obtain ⟨b, off, rfl, _⟩ := h1.2 0 (by omega)
    refine (markByteS_some b off n c xs k0 w hn hk hk2 (fun i hi => ?_) (fun i hi => h2 _ rfl _)).mono ?_
    · obtain ⟨b', off', e, h⟩ := h1.2 i hi
      cases e
      exact h
    · rintro e w' ⟨rfl, hr, ho⟩
      exact ⟨rfl, hr, .inr ⟨_, rfl, ho⟩⟩
end Go.Proofs.Ytgbfhofkkookcae
