/-
  A list of records that came in as an argument, opened (Fence).
-/
import Derived.Test.YtdnneomdokcpeaaFnC
import Derived.Deep.Slices
import Derived.Lib.SmallJoins
import Derived.OpenShut
namespace Go.Proofs.Ytdnneomdokcpeaa
open Go.RowKit Go.ChangeShapes Go.WideShapes

set_option maxRecDepth 100000 in
theorem open_flist {H : Type} {enc : TypeId × Value → H} {w : World} {base : Nat} {spare : Nat → Bool} {held : Bool} {v : Value} {fuel : Nat} {x : DataW H × List MemPlace}
    (h : DataW.trod enc Try.prog w base spare held fuel 38 [v] = some x) : ∃ a l c ds, v = .slice a l c ∧ FRow w a l ds ∧ l ≤ maxLen ∧ ∀ i (hi : i < ds.length), ds[i].f.size ≤ maxLen ∧ ds[i].u.size ≤ maxLen := by
  rcases Deep.open_slice Try.underlying38 h with ⟨hcs, _⟩ | ⟨y, l, c, m, n, D, Pl, hcs, hb, hl, hm, hmm, _, hel⟩
  · simp at hcs
    subst hcs
    exact ⟨none, 0, 0, [], rfl, ⟨rfl, fun i hi => absurd hi (Nat.not_lt_zero _)⟩, by unfold maxLen; omega, fun i hi => absurd hi (Nat.not_lt_zero _)⟩
  simp at hcs
  subst hcs
  have hlm : l ≤ m := by rw [hmm]; split <;> omega
  have cN : Try.prog.cellsOf 102 = 3 := by kernel_rfl
  rw [cN] at hel
  have one : ∀ i, i < l → ∃ d : FenD, (d.f.size ≤ maxLen ∧ d.u.size ≤ maxLen) ∧ ∃ b off, some y = some (⟨b, off, none⟩ : Addr) ∧ w.cell? ⟨b, off + i * 3, none⟩ = some (.string d.f) ∧ w.cell? ⟨b, off + i * 3 + 1, none⟩ = some (.string d.u) ∧ w.cell? ⟨b, off + i * 3 + 2, none⟩ = some (.int .i64 d.t) := by
    intro i hi
    obtain ⟨cs, hc, ht⟩ := hel i (by omega)
    obtain ⟨_, hlen, hcell⟩ := World.cells?_some hc
    obtain ⟨y0, y1, y2, n', _, _, h0, h1, h2⟩ := Go.Deep.trod_struct3 Try.underlying102 ht
    obtain ⟨k0, e0, _, w0⟩ := DataW.trod_string Try.underlying9 h0
    obtain ⟨k1, e1, _, w1⟩ := DataW.trod_string Try.underlying9 h1
    obtain ⟨k2, e2, _, w2⟩ := DataW.trod_int Try.underlying3 h2
    match cs, hlen with
    | [v0, v1, v2], _ =>
      have si : Try.prog.cellsOf 3 = 1 := by kernel_rfl
      have ss : Try.prog.cellsOf 9 = 1 := by kernel_rfl
      have e0' : v0 = .string k0 := by simpa [si, ss] using e0
      have e1' : v1 = .string k1 := by simpa [si, ss] using e1
      have e2' : v2 = .int .i64 k2 := by simpa [si, ss] using e2
      subst e0' e1' e2'
      have g0 := hcell 0 (by omega)
      have g1 := hcell 1 (by omega)
      have g2 := hcell 2 (by omega)
      rw [Deep.add_add] at g0 g1 g2
      obtain ⟨b, off, spot⟩ := y
      have hs : spot = none := by
        by_cases hi0 : i = 0
        · have := World.cell?_spot (g0.trans rfl)
          simpa [Addr.add, hi0] using this
        · obtain ⟨cs', hc', ht'⟩ := hel 0 (by omega)
          obtain ⟨_, hlen', hcell'⟩ := World.cells?_some hc'
          have h0' := hcell' 0 (by omega)
          match cs', hlen' with
          | [u0, u1, u2], _ =>
            have := World.cell?_spot (h0'.trans rfl)
            simpa [Addr.add] using this
      subst hs
      have e : ∀ j, (⟨b, off, none⟩ : Addr).add j = ⟨b, off + j, none⟩ := fun j => by unfold Addr.add; split <;> simp_all
      rw [e] at g0 g1 g2
      exact ⟨⟨k0, k1, k2⟩, ⟨w0, w1⟩, b, off, rfl, by simpa using g0, by simpa [Nat.add_assoc] using g1, by simpa [Nat.add_assoc] using g2⟩
  have : ∀ i, ∃ d : FenD, i < l → (d.f.size ≤ maxLen ∧ d.u.size ≤ maxLen) ∧ ∃ b off, some y = some (⟨b, off, none⟩ : Addr) ∧ w.cell? ⟨b, off + i * 3, none⟩ = some (.string d.f) ∧ w.cell? ⟨b, off + i * 3 + 1, none⟩ = some (.string d.u) ∧ w.cell? ⟨b, off + i * 3 + 2, none⟩ = some (.int .i64 d.t) := fun i => by
    by_cases hi : i < l
    · obtain ⟨d, hd⟩ := one i hi
      exact ⟨d, fun _ => hd⟩
    · exact ⟨noF, fun h => absurd h hi⟩
  obtain ⟨F, hF⟩ := Classical.skolem.1 this
  refine ⟨some y, l, c, (List.range l).map F, rfl, ⟨by simp, fun i hi => ?_⟩, by omega, fun i hi => ?_⟩
  · have hi' : i < l := by simpa using hi
    simpa using (hF i hi').2
  · have hi' : i < l := by simpa using hi
    simpa using (hF i hi').1
end Go.Proofs.Ytdnneomdokcpeaa
