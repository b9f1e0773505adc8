/-
  A page that came in as an argument, opened: its bounds, its entries and changes as they lie in memory.
-/
import Derived.Test.YtkggpapmhopaeaaT5
import Derived.Test.YtkggpapmhopaeaaPgP
import Derived.Deep.Slices
import Derived.Lib.SmallJoins
import Derived.OpenShut
namespace Go.Proofs.Ytkggpapmhopaeaa
open Go.RowKit Go.ChangeShapes Go.WideShapes

set_option maxRecDepth 100000 in
theorem open_entries {H : Type} {enc : TypeId × Value → H} {w : World} {base : Nat} {spare : Nat → Bool} {held : Bool} {v : Value} {fuel : Nat} {x : DataW H × List MemPlace}
    (h : DataW.trod enc Try.prog w base spare held fuel 22 [v] = some x) : ∃ a l c es, v = .slice a l c ∧ ERow w a l es ∧ l ≤ maxLen ∧ ∀ i (hi : i < es.length), es[i].k.size ≤ maxLen ∧ es[i].v.size ≤ maxLen := by
  rcases Deep.open_slice Try.underlying22 h with ⟨hcs, _⟩ | ⟨y, l, c, m, n, D, Pl, hcs, hb, hl, hm, hmm, _, hel⟩
  · simp at hcs
    subst hcs
    exact ⟨none, 0, 0, [], rfl, ⟨rfl, fun i hi => absurd hi (Nat.not_lt_zero _)⟩, by unfold maxLen; omega, fun i hi => absurd hi (Nat.not_lt_zero _)⟩
  simp at hcs
  subst hcs
  have hlm : l ≤ m := by rw [hmm]; split <;> omega
  have c2 : Try.prog.cellsOf 92 = 2 := by kernel_rfl
  rw [c2] at hel
  have one : ∀ i, i < l → ∃ d : EntD, (d.k.size ≤ maxLen ∧ d.v.size ≤ maxLen) ∧ ∃ b off, some y = some (⟨b, off, none⟩ : Addr) ∧ w.cell? ⟨b, off + i * 2, none⟩ = some (.string d.k) ∧ w.cell? ⟨b, off + i * 2 + 1, none⟩ = some (.string d.v) := by
    intro i hi
    obtain ⟨cs, hc, ht⟩ := hel i (by omega)
    obtain ⟨_, hlen, hcell⟩ := World.cells?_some hc
    obtain ⟨y0, y1, n', _, _, h0, h1⟩ := trod_struct2 Try.underlying92 ht
    obtain ⟨k0, e0, _, w0⟩ := DataW.trod_string Try.underlying9 h0
    obtain ⟨k1, e1, _, w1⟩ := DataW.trod_string Try.underlying9 h1
    match cs, hlen with
    | [v0, v1], _ =>
      have s0 : Try.prog.cellsOf 9 = 1 := by kernel_rfl
      have e0' : v0 = .string k0 := by simpa [s0] using e0
      have e1' : v1 = .string k1 := by simpa [s0] using e1
      subst e0' e1'
      have g0 := hcell 0 (by omega)
      have g1 := hcell 1 (by omega)
      rw [Deep.add_add] at g0 g1
      obtain ⟨b, off, spot⟩ := y
      have hs : spot = none := by
        by_cases hi0 : i = 0
        · have := World.cell?_spot (g0.trans rfl)
          simpa [Addr.add, hi0] using this
        · obtain ⟨cs', hc', ht'⟩ := hel 0 (by omega)
          obtain ⟨_, hlen', hcell'⟩ := World.cells?_some hc'
          have h0' := hcell' 0 (by omega)
          match cs', hlen' with
          | [u0, u1], _ =>
            have := World.cell?_spot (h0'.trans rfl)
            simpa [Addr.add] using this
      subst hs
      have e : ∀ j, (⟨b, off, none⟩ : Addr).add j = ⟨b, off + j, none⟩ := fun j => by unfold Addr.add; split <;> simp_all
      rw [e] at g0 g1
      exact ⟨⟨k0, k1⟩, ⟨w0, w1⟩, b, off, rfl, by simpa using g0, by simpa [Nat.add_assoc] using g1⟩
  have : ∀ i, ∃ d : EntD, i < l → (d.k.size ≤ maxLen ∧ d.v.size ≤ maxLen) ∧ ∃ b off, some y = some (⟨b, off, none⟩ : Addr) ∧ w.cell? ⟨b, off + i * 2, none⟩ = some (.string d.k) ∧ w.cell? ⟨b, off + i * 2 + 1, none⟩ = some (.string d.v) := fun i => by
    by_cases hi : i < l
    · obtain ⟨d, hd⟩ := one i hi
      exact ⟨d, fun _ => hd⟩
    · exact ⟨noE, fun h => absurd h hi⟩
  obtain ⟨F, hF⟩ := Classical.skolem.1 this
  refine ⟨some y, l, c, (List.range l).map F, rfl, ⟨by simp, fun i hi => ?_⟩, by omega, fun i hi => ?_⟩
  · have hi' : i < l := by simpa using hi
    simpa using (hF i hi').2
  · have hi' : i < l := by simpa using hi
    simpa using (hF i hi').1
set_option maxRecDepth 100000 in
theorem open_deltas {H : Type} {enc : TypeId × Value → H} {w : World} {base : Nat} {spare : Nat → Bool} {held : Bool} {v : Value} {fuel : Nat} {x : DataW H × List MemPlace}
    (h : DataW.trod enc Try.prog w base spare held fuel 23 [v] = some x) : ∃ a l c ds, v = .slice a l c ∧ DRow w a l ds ∧ l ≤ maxLen ∧ ∀ i (hi : i < ds.length), ds[i].k.size ≤ maxLen ∧ ds[i].v.size ≤ maxLen := by
  rcases Deep.open_slice Try.underlying23 h with ⟨hcs, _⟩ | ⟨y, l, c, m, n, D, Pl, hcs, hb, hl, hm, hmm, _, hel⟩
  · simp at hcs
    subst hcs
    exact ⟨none, 0, 0, [], rfl, ⟨rfl, fun i hi => absurd hi (Nat.not_lt_zero _)⟩, by unfold maxLen; omega, fun i hi => absurd hi (Nat.not_lt_zero _)⟩
  simp at hcs
  subst hcs
  have hlm : l ≤ m := by rw [hmm]; split <;> omega
  have c4 : Try.prog.cellsOf 40 = 4 := by kernel_rfl
  rw [c4] at hel
  have one : ∀ i, i < l → ∃ d : DelD, (d.k.size ≤ maxLen ∧ d.v.size ≤ maxLen) ∧ ∃ b off, some y = some (⟨b, off, none⟩ : Addr) ∧ w.cell? ⟨b, off + i * 4, none⟩ = some (.int .i64 d.kind) ∧ w.cell? ⟨b, off + i * 4 + 1, none⟩ = some (.string d.k) ∧
      w.cell? ⟨b, off + i * 4 + 2, none⟩ = some (.string d.v) ∧ w.cell? ⟨b, off + i * 4 + 3, none⟩ = some (.int .i64 d.to) := by
    intro i hi
    obtain ⟨cs, hc, ht⟩ := hel i (by omega)
    obtain ⟨_, hlen, hcell⟩ := World.cells?_some hc
    obtain ⟨y0, y1, y2, y3, n', _, _, h0, h1, h2, h3⟩ := Go.Joins.trod_struct4 Try.underlying40 ht
    obtain ⟨k0, e0, _, w0⟩ := DataW.trod_int Try.underlying3 h0
    obtain ⟨k1, e1, _, w1⟩ := DataW.trod_string Try.underlying9 h1
    obtain ⟨k2, e2, _, w2⟩ := DataW.trod_string Try.underlying9 h2
    obtain ⟨k3, e3, _, w3⟩ := DataW.trod_int Try.underlying3 h3
    match cs, hlen with
    | [v0, v1, v2, v3], _ =>
      have s0 : Try.prog.cellsOf 3 = 1 := by kernel_rfl
      have s3 : Try.prog.cellsOf 9 = 1 := by kernel_rfl
      have e0' : v0 = .int .i64 k0 := by simpa [s0] using e0
      have e1' : v1 = .string k1 := by simpa [s0, s3] using e1
      have e2' : v2 = .string k2 := by simpa [s0, s3] using e2
      have e3' : v3 = .int .i64 k3 := by simpa [s0, s3] using e3
      subst e0' e1' e2' e3'
      have g0 := hcell 0 (by omega)
      have g1 := hcell 1 (by omega)
      have g2 := hcell 2 (by omega)
      have g3 := hcell 3 (by omega)
      rw [Deep.add_add] at g0 g1 g2 g3
      obtain ⟨b, off, spot⟩ := y
      have hs : spot = none := by
        by_cases hi0 : i = 0
        · have := World.cell?_spot (g0.trans rfl)
          simpa [Addr.add, hi0] using this
        · obtain ⟨cs', hc', ht'⟩ := hel 0 (by omega)
          obtain ⟨_, hlen', hcell'⟩ := World.cells?_some hc'
          have h0' := hcell' 0 (by omega)
          match cs', hlen' with
          | [u0, u1, u2, u3], _ =>
            have := World.cell?_spot (h0'.trans rfl)
            simpa [Addr.add] using this
      subst hs
      have e : ∀ j, (⟨b, off, none⟩ : Addr).add j = ⟨b, off + j, none⟩ := fun j => by unfold Addr.add; split <;> simp_all
      rw [e] at g0 g1 g2 g3
      exact ⟨⟨k0, k1, k2, k3⟩, ⟨w1, w2⟩, b, off, rfl, by simpa using g0, by simpa [Nat.add_assoc] using g1, by simpa [Nat.add_assoc] using g2, by simpa [Nat.add_assoc] using g3⟩
  have : ∀ i, ∃ d : DelD, i < l → (d.k.size ≤ maxLen ∧ d.v.size ≤ maxLen) ∧ ∃ b off, some y = some (⟨b, off, none⟩ : Addr) ∧ w.cell? ⟨b, off + i * 4, none⟩ = some (.int .i64 d.kind) ∧ w.cell? ⟨b, off + i * 4 + 1, none⟩ = some (.string d.k) ∧
      w.cell? ⟨b, off + i * 4 + 2, none⟩ = some (.string d.v) ∧ w.cell? ⟨b, off + i * 4 + 3, none⟩ = some (.int .i64 d.to) := fun i => by
    by_cases hi : i < l
    · obtain ⟨d, hd⟩ := one i hi
      exact ⟨d, fun _ => hd⟩
    · exact ⟨noD, fun h => absurd h hi⟩
  obtain ⟨F, hF⟩ := Classical.skolem.1 this
  refine ⟨some y, l, c, (List.range l).map F, rfl, ⟨by simp, fun i hi => ?_⟩, by omega, fun i hi => ?_⟩
  · have hi' : i < l := by simpa using hi
    simpa using (hF i hi').2
  · have hi' : i < l := by simpa using hi
    simpa using (hF i hi').1
theorem array5 {α : Type} {cs : Array α} (h : cs.size = 5) : ∃ c0 c1 c2 c3 c4, cs = #[c0, c1, c2, c3, c4] := by
  obtain ⟨l⟩ := cs
  match l, h with
  | [c0, c1, c2, c3, c4], _ => exact ⟨c0, c1, c2, c3, c4, rfl⟩
/-- Five cells that read as a page. -/
theorem open_page_cells {H : Type} {enc : TypeId × Value → H} {w : World} {base : Nat} {spare : Nat → Bool} {held : Bool} {v0 v1 v2 v3 v4 : Value} {fuel : Nat} {x : DataW H × List MemPlace}
    (h : DataW.trod enc Try.prog w base spare held fuel 25 [v0, v1, v2, v3, v4] = some x) : ∃ lo hi r ab nb cb es ac nc cc ds, v0 = .string lo ∧ v1 = .string hi ∧ v2 = .int .i64 r ∧ v3 = .slice ab nb cb ∧ v4 = .slice ac nc cc ∧ IsPage w lo hi ab nb es ac nc ds := by
  obtain ⟨y0, y1, y2, y3, y4, n, _, h0, h1, h2, h3, h4⟩ := trod_struct5 Try.underlying25 h
  have s0 : Try.prog.cellsOf 3 = 1 := by kernel_rfl
  have s1 : Try.prog.cellsOf 9 = 1 := by kernel_rfl
  have s2 : Try.prog.cellsOf 22 = 1 := by kernel_rfl
  have s3 : Try.prog.cellsOf 23 = 1 := by kernel_rfl
  obtain ⟨lo, e0, _, w0⟩ := DataW.trod_string Try.underlying9 h0
  obtain ⟨hi, e1, _, w1⟩ := DataW.trod_string Try.underlying9 h1
  obtain ⟨r, e2, _, w2⟩ := DataW.trod_int Try.underlying3 h2
  have h3' : DataW.trod enc Try.prog w base spare held n 22 [v3] = some y3 := by simpa [s2] using h3
  have h4' : DataW.trod enc Try.prog w base spare held n 23 [v4] = some y4 := by simpa [s3] using h4
  obtain ⟨ab, nb, cb, es, rfl, hE, hnb, hTE⟩ := open_entries h3'
  obtain ⟨ac, nc, cc, ds, rfl, hD, hnc, hTD⟩ := open_deltas h4'
  exact ⟨lo, hi, r, ab, nb, cb, es, ac, nc, cc, ds, by simpa [s1] using e0, by simpa [s1] using e1, by simpa [s0] using e2, rfl, rfl, hE, hD, w0, w1, hnb, hnc, hTE, hTD⟩
set_option maxRecDepth 100000 in
theorem open_page {H : Type} {enc : TypeId × Value → H} {w : World} {base : Nat} {spare : Nat → Bool} {held : Bool} {v : Value} {r0 : Reach} {b0 : Nat} {d : DataW H} {p : List MemPlace}
    (hv : Value.okWide Try.prog w r0 b0 25 v) (h : DataW.Trod enc Try.prog w base spare held 25 v d p) : ∃ lo hi r ab nb cb es ac nc cc ds, v = pgv lo hi r ab nb cb ac nc cc ∧ IsPage w lo hi ab nb es ac nc ds := by
  have hC : Try.prog.cellsOf 25 = 5 := by kernel_rfl
  obtain ⟨cs, rfl, hsz⟩ := okWide_struct Try.underlying25 hv
  obtain ⟨c0, c1, c2, c3, c4, rfl⟩ := array5 (hsz.trans hC)
  obtain ⟨fuel, hf⟩ := h
  obtain ⟨lo, hi, r, ab, nb, cb, es, ac, nc, cc, ds, rfl, rfl, rfl, rfl, rfl, hP⟩ := open_page_cells (v0 := c0) (v1 := c1) (v2 := c2) (v3 := c3) (v4 := c4) (by simpa [Value.cells] using hf)
  exact ⟨lo, hi, r, ab, nb, cb, es, ac, nc, cc, ds, rfl, hP⟩
end Go.Proofs.Ytkggpapmhopaeaa
