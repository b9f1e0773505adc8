/-
  A device that came in as an argument, opened: what it holds and what waits, as they lie in memory.
-/
import Derived.Test.YtdiakahaghggiaaFlashD
import Derived.Deep.Slices
import Derived.Lib.SmallJoins
import Derived.OpenShut
namespace Go.Proofs.Ytdiakahaghggiaa
open Go.RowKit Go.ChangeShapes Go.WideShapes

theorem open_bytes {H : Type} {enc : TypeId × Value → H} {w : World} {base : Nat} {spare : Nat → Bool} {held : Bool} {v : Value} {fuel : Nat} {x : DataW H × List MemPlace}
    (h : DataW.trod enc Try.prog w base spare held fuel 22 [v] = some x) : ∃ a l c xs, v = .slice a l c ∧ Row w a l xs ∧ l ≤ maxLen ∧ l ≤ c := by
  rcases open_ints Try.underlying22 Try.underlying5 (by kernel_rfl) h with ⟨hcs, _⟩ | ⟨y, l, c, zs, hcs, _, hl, hm, hz, _, hcell, hwz⟩
  · simp at hcs
    subst hcs
    exact ⟨none, 0, 0, [], rfl, ⟨rfl, fun i hi => absurd hi (Nat.not_lt_zero _)⟩, by unfold maxLen; omega, Nat.le_refl _⟩
  · simp at hcs
    subst hcs
    have hlz : l ≤ zs.length := by rw [hz]; split <;> omega
    have hR : IsRow .u8 w (some y) l zs.length zs := .inr ⟨y, rfl, hlz, by rw [hz]; split <;> omega, rfl, hcell, hwz⟩
    exact ⟨some y, l, c, zs.take l, rfl, (row_of_isRow hR).1, (row_of_isRow hR).2.1, hl⟩

set_option maxRecDepth 100000 in
theorem open_writes {H : Type} {enc : TypeId × Value → H} {w : World} {base : Nat} {spare : Nat → Bool} {held : Bool} {v : Value} {fuel : Nat} {x : DataW H × List MemPlace}
    (h : DataW.trod enc Try.prog w base spare held fuel 23 [v] = some x) : ∃ a len cap ws, v = .slice a len cap ∧ WRow w a len ws ∧ len ≤ maxLen := by
  rcases Deep.open_slice Try.underlying23 h with ⟨hcs, _⟩ | ⟨y, l, c, m, n, D, Pl, hcs, hb, hl, hm, hmm, _, hel⟩
  · simp at hcs
    subst hcs
    exact ⟨none, 0, 0, [], rfl, ⟨rfl, fun i hi => absurd hi (Nat.not_lt_zero _)⟩, by unfold maxLen; omega⟩
  simp at hcs
  subst hcs
  have hlm : l ≤ m := by rw [hmm]; split <;> omega
  have c2 : Try.prog.cellsOf 84 = 2 := by kernel_rfl
  rw [c2] at hel
  have one : ∀ i, i < l → ∃ d : WD, ∃ b off, some y = some (⟨b, off, none⟩ : Addr) ∧ w.cell? ⟨b, off + i * 2, none⟩ = some (.int .i64 d.at_) ∧
      ∃ a' c', w.cell? ⟨b, off + i * 2 + 1, none⟩ = some (.slice a' d.xs.length c') ∧ (d.xs.length ≤ maxLen ∧ d.xs.length ≤ c') ∧ Row w a' d.xs.length d.xs := by
    intro i hi
    obtain ⟨cs, hc, ht⟩ := hel i (by omega)
    obtain ⟨_, hlen, hcell⟩ := World.cells?_some hc
    obtain ⟨y0, y1, n', _, _, h0, h1⟩ := trod_struct2 Try.underlying84 ht
    obtain ⟨k0, e0, _, w0⟩ := DataW.trod_int Try.underlying3 h0
    match cs, hlen with
    | [v0, v1], _ =>
      have s0 : Try.prog.cellsOf 3 = 1 := by kernel_rfl
      have s1 : Try.prog.cellsOf 22 = 1 := by kernel_rfl
      have e0' : v0 = .int .i64 k0 := by simpa [s0] using e0
      have h1' : DataW.trod enc Try.prog w base spare held n' 22 [v1] = some y1 := by simpa [s1] using h1
      subst e0'
      obtain ⟨a', l', c', xs, rfl, hr, hl', hlc⟩ := open_bytes h1'
      have g0 := hcell 0 (by omega)
      have g1 := hcell 1 (by omega)
      rw [Deep.add_add] at g0 g1
      obtain ⟨b, off, spot⟩ := y
      have hs : spot = none := by
        by_cases hi0 : i = 0
        · have := World.cell?_spot (g0.trans rfl)
          simpa [Addr.add, hi0] using this
        · obtain ⟨cs', hc', ht'⟩ := hel 0 (by omega)
          obtain ⟨_, hlen', hcell'⟩ := World.cells?_some hc'
          have h0' := hcell' 0 (by omega)
          match cs', hlen' with
          | [u0, u1], _ =>
            have := World.cell?_spot (h0'.trans rfl)
            simpa [Addr.add] using this
      subst hs
      have e : ∀ j, (⟨b, off, none⟩ : Addr).add j = ⟨b, off + j, none⟩ := fun j => by unfold Addr.add; split <;> simp_all
      rw [e] at g0 g1
      have hxl := hr.1
      subst hxl
      exact ⟨⟨k0, xs⟩, b, off, rfl, by simpa using g0, a', c', by simpa [Nat.add_assoc] using g1, ⟨hl', hlc⟩, hr⟩
  have : ∀ i, ∃ d : WD, i < l → ∃ b off, some y = some (⟨b, off, none⟩ : Addr) ∧ w.cell? ⟨b, off + i * 2, none⟩ = some (.int .i64 d.at_) ∧
      ∃ a' c', w.cell? ⟨b, off + i * 2 + 1, none⟩ = some (.slice a' d.xs.length c') ∧ (d.xs.length ≤ maxLen ∧ d.xs.length ≤ c') ∧ Row w a' d.xs.length d.xs := fun i => by
    by_cases hi : i < l
    · obtain ⟨d, hd⟩ := one i hi
      exact ⟨d, fun _ => hd⟩
    · exact ⟨⟨0, []⟩, fun h => absurd h hi⟩
  obtain ⟨F, hF⟩ := Classical.skolem.1 this
  refine ⟨some y, l, c, (List.range l).map F, rfl, ⟨by simp, fun i hi => ?_⟩, by omega⟩
  have hi' : i < l := by simpa using hi
  simpa using hF i hi'

/-- A device that came in. -/
def IsFlash (w : World) (ah : Option Addr) (nh : Nat) (aw : Option Addr) (nw : Nat) (held : List Int) (ws : List WD) : Prop := Row w ah nh held ∧ nh ≤ maxLen ∧ WRow w aw nw ws ∧ nw ≤ maxLen
set_option maxRecDepth 100000 in
theorem open_flash {H : Type} {enc : TypeId × Value → H} {w : World} {base : Nat} {spare : Nat → Bool} {held : Bool} {v : Value} {r : Reach} {b0 : Nat} {d : DataW H} {p : List MemPlace}
    (hv : Value.okWide Try.prog w r b0 25 v) (h : DataW.Trod enc Try.prog w base spare held 25 v d p) : ∃ ah nh ch aw nw cw xs ws, v = fv ah nh ch aw nw cw ∧ IsFlash w ah nh aw nw xs ws := by
  obtain ⟨v0, v1, y0, y1, n, rfl, _, _, h0, h1⟩ := Go.Joins.open_agg2 Try.underlying25 (by kernel_rfl) (by kernel_rfl) hv h
  obtain ⟨ah, nh, ch, xs, rfl, hr, hl, _⟩ := open_bytes h0
  obtain ⟨aw, nw, cw, ws, rfl, hr2, hl2⟩ := open_writes h1
  exact ⟨ah, nh, ch, aw, nw, cw, xs, ws, rfl, hr, hl, hr2, hl2⟩
end Go.Proofs.Ytdiakahaghggiaa
