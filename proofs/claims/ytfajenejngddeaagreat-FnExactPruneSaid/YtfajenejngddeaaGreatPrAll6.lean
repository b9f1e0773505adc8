/-
  VrIn, FnIn, VoIn, PrP in one.
-/
import Derived.Test.YtfajenejngddeaaGreatVrC
import Derived.Deep.Slices
import Derived.Lib.SmallJoins
import Derived.OpenShut
import Derived.Test.YtfajenejngddeaaGreatFnC
import Derived.Test.YtfajenejngddeaaGreatVvA
import Derived.Deep.Strs
import Derived.Test.YtfajenejngddeaaGreatPrAll5
import Derived.ProofKit
import Derived.ShutString
import Derived.ChangeOld
import Derived.Below
namespace Go.Proofs.YtfajenejngddeaaGreat
open Go.RowKit Go.ChangeShapes Go.WideShapes

set_option maxRecDepth 100000 in
theorem open_vlist {H : Type} {enc : TypeId × Value → H} {w : World} {base : Nat} {spare : Nat → Bool} {held : Bool} {v : Value} {fuel : Nat} {x : DataW H × List MemPlace}
    (h : DataW.trod enc Tryz.prog w base spare held fuel 48 [v] = some x) : ∃ a l c ds, v = .slice a l c ∧ VRow w a l ds ∧ l ≤ maxLen ∧ ∀ i (hi : i < ds.length), ds[i].k.size ≤ maxLen ∧ ds[i].v.size ≤ maxLen := by
  rcases Deep.open_slice Tryz.underlying48 h with ⟨hcs, _⟩ | ⟨y, l, c, m, n, D, Pl, hcs, hb, hl, hm, hmm, _, hel⟩
  · simp at hcs
    subst hcs
    exact ⟨none, 0, 0, [], rfl, ⟨rfl, fun i hi => absurd hi (Nat.not_lt_zero _)⟩, by unfold maxLen; omega, fun i hi => absurd hi (Nat.not_lt_zero _)⟩
  simp at hcs
  subst hcs
  have hlm : l ≤ m := by rw [hmm]; split <;> omega
  have cN : Tryz.prog.cellsOf 138 = 4 := by kernel_rfl
  rw [cN] at hel
  have one : ∀ i, i < l → ∃ d : VerD, (d.k.size ≤ maxLen ∧ d.v.size ≤ maxLen) ∧ ∃ b off, some y = some (⟨b, off, none⟩ : Addr) ∧ w.cell? ⟨b, off + i * 4, none⟩ = some (.string d.k) ∧ w.cell? ⟨b, off + i * 4 + 1, none⟩ = some (.int .i64 d.t) ∧ w.cell? ⟨b, off + i * 4 + 2, none⟩ = some (.string d.v) ∧ w.cell? ⟨b, off + i * 4 + 3, none⟩ = some (.bool d.g) := by
    intro i hi
    obtain ⟨cs, hc, ht⟩ := hel i (by omega)
    obtain ⟨_, hlen, hcell⟩ := World.cells?_some hc
    obtain ⟨y0, y1, y2, y3, n', _, _, h0, h1, h2, h3⟩ := Go.Joins.trod_struct4 Tryz.underlying138 ht
    obtain ⟨k0, e0, _, w0⟩ := DataW.trod_string Tryz.underlying9 h0
    obtain ⟨k1, e1, _, w1⟩ := DataW.trod_int Tryz.underlying3 h1
    obtain ⟨k2, e2, _, w2⟩ := DataW.trod_string Tryz.underlying9 h2
    obtain ⟨k3, e3, _⟩ := DataW.trod_bool Tryz.underlying4 h3
    match cs, hlen with
    | [v0, v1, v2, v3], _ =>
      have sb : Tryz.prog.cellsOf 4 = 1 := by kernel_rfl
      have si : Tryz.prog.cellsOf 3 = 1 := by kernel_rfl
      have ss : Tryz.prog.cellsOf 9 = 1 := by kernel_rfl
      have e0' : v0 = .string k0 := by simpa [sb, si, ss] using e0
      have e1' : v1 = .int .i64 k1 := by simpa [sb, si, ss] using e1
      have e2' : v2 = .string k2 := by simpa [sb, si, ss] using e2
      have e3' : v3 = .bool k3 := by simpa [sb, si, ss] using e3
      subst e0' e1' e2' e3'
      have g0 := hcell 0 (by omega)
      have g1 := hcell 1 (by omega)
      have g2 := hcell 2 (by omega)
      have g3 := hcell 3 (by omega)
      rw [Deep.add_add] at g0 g1 g2 g3
      obtain ⟨b, off, spot⟩ := y
      have hs : spot = none := by
        by_cases hi0 : i = 0
        · have := World.cell?_spot (g0.trans rfl)
          simpa [Addr.add, hi0] using this
        · obtain ⟨cs', hc', ht'⟩ := hel 0 (by omega)
          obtain ⟨_, hlen', hcell'⟩ := World.cells?_some hc'
          have h0' := hcell' 0 (by omega)
          match cs', hlen' with
          | [u0, u1, u2, u3], _ =>
            have := World.cell?_spot (h0'.trans rfl)
            simpa [Addr.add] using this
      subst hs
      have e : ∀ j, (⟨b, off, none⟩ : Addr).add j = ⟨b, off + j, none⟩ := fun j => by unfold Addr.add; split <;> simp_all
      rw [e] at g0 g1 g2 g3
      exact ⟨⟨k0, k1, k2, k3⟩, ⟨w0, w2⟩, b, off, rfl, by simpa using g0, by simpa [Nat.add_assoc] using g1, by simpa [Nat.add_assoc] using g2, by simpa [Nat.add_assoc] using g3⟩
  have : ∀ i, ∃ d : VerD, i < l → (d.k.size ≤ maxLen ∧ d.v.size ≤ maxLen) ∧ ∃ b off, some y = some (⟨b, off, none⟩ : Addr) ∧ w.cell? ⟨b, off + i * 4, none⟩ = some (.string d.k) ∧ w.cell? ⟨b, off + i * 4 + 1, none⟩ = some (.int .i64 d.t) ∧ w.cell? ⟨b, off + i * 4 + 2, none⟩ = some (.string d.v) ∧ w.cell? ⟨b, off + i * 4 + 3, none⟩ = some (.bool d.g) := fun i => by
    by_cases hi : i < l
    · obtain ⟨d, hd⟩ := one i hi
      exact ⟨d, fun _ => hd⟩
    · exact ⟨noV, fun h => absurd h hi⟩
  obtain ⟨F, hF⟩ := Classical.skolem.1 this
  refine ⟨some y, l, c, (List.range l).map F, rfl, ⟨by simp, fun i hi => ?_⟩, by omega, fun i hi => ?_⟩
  · have hi' : i < l := by simpa using hi
    simpa using (hF i hi').2
  · have hi' : i < l := by simpa using hi
    simpa using (hF i hi').1
end Go.Proofs.YtfajenejngddeaaGreat

namespace Go.Proofs.YtfajenejngddeaaGreat
open Go.RowKit Go.ChangeShapes Go.WideShapes

set_option maxRecDepth 100000 in
theorem open_flist {H : Type} {enc : TypeId × Value → H} {w : World} {base : Nat} {spare : Nat → Bool} {held : Bool} {v : Value} {fuel : Nat} {x : DataW H × List MemPlace}
    (h : DataW.trod enc Tryz.prog w base spare held fuel 49 [v] = some x) : ∃ a l c ds, v = .slice a l c ∧ FRow w a l ds ∧ l ≤ maxLen ∧ ∀ i (hi : i < ds.length), ds[i].f.size ≤ maxLen ∧ ds[i].u.size ≤ maxLen := by
  rcases Deep.open_slice Tryz.underlying49 h with ⟨hcs, _⟩ | ⟨y, l, c, m, n, D, Pl, hcs, hb, hl, hm, hmm, _, hel⟩
  · simp at hcs
    subst hcs
    exact ⟨none, 0, 0, [], rfl, ⟨rfl, fun i hi => absurd hi (Nat.not_lt_zero _)⟩, by unfold maxLen; omega, fun i hi => absurd hi (Nat.not_lt_zero _)⟩
  simp at hcs
  subst hcs
  have hlm : l ≤ m := by rw [hmm]; split <;> omega
  have cN : Tryz.prog.cellsOf 140 = 3 := by kernel_rfl
  rw [cN] at hel
  have one : ∀ i, i < l → ∃ d : FenD, (d.f.size ≤ maxLen ∧ d.u.size ≤ maxLen) ∧ ∃ b off, some y = some (⟨b, off, none⟩ : Addr) ∧ w.cell? ⟨b, off + i * 3, none⟩ = some (.string d.f) ∧ w.cell? ⟨b, off + i * 3 + 1, none⟩ = some (.string d.u) ∧ w.cell? ⟨b, off + i * 3 + 2, none⟩ = some (.int .i64 d.t) := by
    intro i hi
    obtain ⟨cs, hc, ht⟩ := hel i (by omega)
    obtain ⟨_, hlen, hcell⟩ := World.cells?_some hc
    obtain ⟨y0, y1, y2, n', _, _, h0, h1, h2⟩ := Go.Deep.trod_struct3 Tryz.underlying140 ht
    obtain ⟨k0, e0, _, w0⟩ := DataW.trod_string Tryz.underlying9 h0
    obtain ⟨k1, e1, _, w1⟩ := DataW.trod_string Tryz.underlying9 h1
    obtain ⟨k2, e2, _, w2⟩ := DataW.trod_int Tryz.underlying3 h2
    match cs, hlen with
    | [v0, v1, v2], _ =>
      have si : Tryz.prog.cellsOf 3 = 1 := by kernel_rfl
      have ss : Tryz.prog.cellsOf 9 = 1 := by kernel_rfl
      have e0' : v0 = .string k0 := by simpa [si, ss] using e0
      have e1' : v1 = .string k1 := by simpa [si, ss] using e1
      have e2' : v2 = .int .i64 k2 := by simpa [si, ss] using e2
      subst e0' e1' e2'
      have g0 := hcell 0 (by omega)
      have g1 := hcell 1 (by omega)
      have g2 := hcell 2 (by omega)
      rw [Deep.add_add] at g0 g1 g2
      obtain ⟨b, off, spot⟩ := y
      have hs : spot = none := by
        by_cases hi0 : i = 0
        · have := World.cell?_spot (g0.trans rfl)
          simpa [Addr.add, hi0] using this
        · obtain ⟨cs', hc', ht'⟩ := hel 0 (by omega)
          obtain ⟨_, hlen', hcell'⟩ := World.cells?_some hc'
          have h0' := hcell' 0 (by omega)
          match cs', hlen' with
          | [u0, u1, u2], _ =>
            have := World.cell?_spot (h0'.trans rfl)
            simpa [Addr.add] using this
      subst hs
      have e : ∀ j, (⟨b, off, none⟩ : Addr).add j = ⟨b, off + j, none⟩ := fun j => by unfold Addr.add; split <;> simp_all
      rw [e] at g0 g1 g2
      exact ⟨⟨k0, k1, k2⟩, ⟨w0, w1⟩, b, off, rfl, by simpa using g0, by simpa [Nat.add_assoc] using g1, by simpa [Nat.add_assoc] using g2⟩
  have : ∀ i, ∃ d : FenD, i < l → (d.f.size ≤ maxLen ∧ d.u.size ≤ maxLen) ∧ ∃ b off, some y = some (⟨b, off, none⟩ : Addr) ∧ w.cell? ⟨b, off + i * 3, none⟩ = some (.string d.f) ∧ w.cell? ⟨b, off + i * 3 + 1, none⟩ = some (.string d.u) ∧ w.cell? ⟨b, off + i * 3 + 2, none⟩ = some (.int .i64 d.t) := fun i => by
    by_cases hi : i < l
    · obtain ⟨d, hd⟩ := one i hi
      exact ⟨d, fun _ => hd⟩
    · exact ⟨noF, fun h => absurd h hi⟩
  obtain ⟨F, hF⟩ := Classical.skolem.1 this
  refine ⟨some y, l, c, (List.range l).map F, rfl, ⟨by simp, fun i hi => ?_⟩, by omega, fun i hi => ?_⟩
  · have hi' : i < l := by simpa using hi
    simpa using (hF i hi').2
  · have hi' : i < l := by simpa using hi
    simpa using (hF i hi').1
end Go.Proofs.YtfajenejngddeaaGreat

namespace Go.Proofs.YtfajenejngddeaaGreat
open Go.RowKit Go.ChangeShapes Go.WideShapes

set_option maxRecDepth 100000 in
theorem open_slist {H : Type} {enc : TypeId × Value → H} {w : World} {base : Nat} {spare : Nat → Bool} {held : Bool} {v : Value} {fuel : Nat} {x : DataW H × List MemPlace}
    (h : DataW.trod enc Tryz.prog w base spare held fuel 50 [v] = some x) : ∃ a l c rs ss, v = .slice a l c ∧ SRow w a l rs ∧ SsAt w rs ss ∧ l ≤ maxLen ∧ LimS rs ss := by
  rcases Deep.open_slice Tryz.underlying50 h with ⟨hcs, _⟩ | ⟨y, l, c, m, n, D, Pl, hcs, hb, hl, hm, hmm, _, hel⟩
  · simp at hcs
    subst hcs
    exact ⟨none, 0, 0, [], [], rfl, ⟨rfl, fun i hi => absurd hi (Nat.not_lt_zero _)⟩, ⟨rfl, fun i hi => absurd hi (Nat.not_lt_zero _)⟩, by unfold maxLen; omega, fun i hi => absurd hi (Nat.not_lt_zero _)⟩
  simp at hcs
  subst hcs
  have hlm : l ≤ m := by rw [hmm]; split <;> omega
  have cN : Tryz.prog.cellsOf 143 = 3 := by kernel_rfl
  rw [cN] at hel
  have one : ∀ i, i < l → ∃ (r : SesR) (s : SesD), (r.o = s.o ∧ r.t = s.t ∧ VRow w r.ws.a r.ws.n s.ws ∧ r.ws.n ≤ maxLen ∧ LimV s.ws) ∧ ∃ b off, some y = some (⟨b, off, none⟩ : Addr) ∧ w.cell? ⟨b, off + i * 3, none⟩ = some (.bool r.o) ∧ w.cell? ⟨b, off + i * 3 + 1, none⟩ = some (.int .i64 r.t) ∧ w.cell? ⟨b, off + i * 3 + 2, none⟩ = some (.slice r.ws.a r.ws.n r.ws.c) := by
    intro i hi
    obtain ⟨cs, hc, ht⟩ := hel i (by omega)
    obtain ⟨_, hlen, hcell⟩ := World.cells?_some hc
    obtain ⟨y0, y1, y2, n', _, _, h0, h1, h2⟩ := Go.Deep.trod_struct3 Tryz.underlying143 ht
    obtain ⟨k0, e0, _⟩ := DataW.trod_bool Tryz.underlying4 h0
    obtain ⟨k1, e1, _, w1⟩ := DataW.trod_int Tryz.underlying3 h1
    match cs, hlen with
    | [v0, v1, v2], _ =>
      have sb : Tryz.prog.cellsOf 4 = 1 := by kernel_rfl
      have si : Tryz.prog.cellsOf 3 = 1 := by kernel_rfl
      have sl : Tryz.prog.cellsOf 48 = 1 := by kernel_rfl
      have e0' : v0 = .bool k0 := by simpa [sb, si] using e0
      have e1' : v1 = .int .i64 k1 := by simpa [sb, si] using e1
      have h2' : DataW.trod enc Tryz.prog w base spare held n' 48 [v2] = some y2 := by simpa [sl] using h2
      obtain ⟨va, vl, vc, ds, e2', hV, hVn, hVl⟩ := open_vlist h2'
      subst e0' e1' e2'
      have g0 := hcell 0 (by omega)
      have g1 := hcell 1 (by omega)
      have g2 := hcell 2 (by omega)
      rw [Deep.add_add] at g0 g1 g2
      obtain ⟨b, off, spot⟩ := y
      have hs : spot = none := by
        by_cases hi0 : i = 0
        · have := World.cell?_spot (g0.trans rfl)
          simpa [Addr.add, hi0] using this
        · obtain ⟨cs', hc', ht'⟩ := hel 0 (by omega)
          obtain ⟨_, hlen', hcell'⟩ := World.cells?_some hc'
          have h0' := hcell' 0 (by omega)
          match cs', hlen' with
          | [u0, u1, u2], _ =>
            have := World.cell?_spot (h0'.trans rfl)
            simpa [Addr.add] using this
      subst hs
      have e : ∀ j, (⟨b, off, none⟩ : Addr).add j = ⟨b, off + j, none⟩ := fun j => by unfold Addr.add; split <;> simp_all
      rw [e] at g0 g1 g2
      exact ⟨⟨k0, k1, ⟨va, vl, vc⟩⟩, ⟨k0, k1, ds⟩, ⟨rfl, rfl, hV, hVn, hVl⟩, b, off, rfl, by simpa using g0, by simpa [Nat.add_assoc] using g1, by simpa [Nat.add_assoc] using g2⟩
  have : ∀ i, ∃ p : SesR × SesD, i < l → (p.1.o = p.2.o ∧ p.1.t = p.2.t ∧ VRow w p.1.ws.a p.1.ws.n p.2.ws ∧ p.1.ws.n ≤ maxLen ∧ LimV p.2.ws) ∧ ∃ b off, some y = some (⟨b, off, none⟩ : Addr) ∧ w.cell? ⟨b, off + i * 3, none⟩ = some (.bool p.1.o) ∧ w.cell? ⟨b, off + i * 3 + 1, none⟩ = some (.int .i64 p.1.t) ∧ w.cell? ⟨b, off + i * 3 + 2, none⟩ = some (.slice p.1.ws.a p.1.ws.n p.1.ws.c) := fun i => by
    by_cases hi : i < l
    · obtain ⟨r, s, hd⟩ := one i hi
      exact ⟨(r, s), fun _ => hd⟩
    · exact ⟨(noS, ⟨false, 0, []⟩), fun h => absurd h hi⟩
  obtain ⟨F, hF⟩ := Classical.skolem.1 this
  refine ⟨some y, l, c, (List.range l).map fun i => (F i).1, (List.range l).map fun i => (F i).2, rfl, ⟨by simp, fun i hi => ?_⟩, ⟨by simp, fun i hi hi2 => ?_⟩, by omega, fun i hi hi2 => ?_⟩
  · have hi' : i < l := by simpa using hi
    simpa using (hF i hi').2
  · have hi' : i < l := by simpa using hi
    have := (hF i hi').1
    simpa using ⟨this.1, this.2.1, this.2.2.1⟩
  · have hi' : i < l := by simpa using hi
    have := (hF i hi').1
    simpa using ⟨this.2.2.2.1, this.2.2.2.2⟩
set_option maxRecDepth 100000 in
theorem open_versions {H : Type} {enc : TypeId × Value → H} {w : World} {base : Nat} {spare : Nat → Bool} {held : Bool} {v : Value} {r0 : Reach} {b0 : Nat} {dd : DataW H} {p : List MemPlace}
    (hv : Value.okWide Tryz.prog w r0 b0 52 v) (h : DataW.Trod enc Tryz.prog w base spare held 52 v dd p) : ∃ l f s rs d, v = vsv d.next l f s ∧ VsAt w l f s rs d ∧ VsIn l f s rs d := by
  have hC : Tryz.prog.cellsOf 52 = 4 := by kernel_rfl
  obtain ⟨cs, rfl, hsz⟩ := okWide_struct Tryz.underlying52 hv
  obtain ⟨fuel, hf⟩ := h
  obtain ⟨c0, c1, c2, c3, rfl⟩ : ∃ c0 c1 c2 c3, cs = #[c0, c1, c2, c3] := by
    have := hsz.trans hC
    obtain ⟨l⟩ := cs
    match l, this with
    | [c0, c1, c2, c3], _ => exact ⟨c0, c1, c2, c3, rfl⟩
  have hf' : DataW.trod enc Tryz.prog w base spare held fuel 52 [c0, c1, c2, c3] = some (dd, p) := by simpa [Value.cells] using hf
  obtain ⟨y0, y1, y2, y3, n', _, _, h0, h1, h2, h3⟩ := Go.Joins.trod_struct4 Tryz.underlying52 hf'
  have si : Tryz.prog.cellsOf 3 = 1 := by kernel_rfl
  have s1 : Tryz.prog.cellsOf 48 = 1 := by kernel_rfl
  have s2 : Tryz.prog.cellsOf 49 = 1 := by kernel_rfl
  have s3 : Tryz.prog.cellsOf 50 = 1 := by kernel_rfl
  obtain ⟨nx, e0, _, _⟩ := DataW.trod_int Tryz.underlying3 h0
  have h1' : DataW.trod enc Tryz.prog w base spare held n' 48 [c1] = some y1 := by simpa [s1] using h1
  have h2' : DataW.trod enc Tryz.prog w base spare held n' 49 [c2] = some y2 := by simpa [s2] using h2
  have h3' : DataW.trod enc Tryz.prog w base spare held n' 50 [c3] = some y3 := by simpa [s3] using h3
  obtain ⟨la, ln, lc, ds, e1, hV, hVn, hVl⟩ := open_vlist h1'
  obtain ⟨fa, fn, fc, fs, e2, hFr, hFn, hFl⟩ := open_flist h2'
  obtain ⟨sa, sn, sc, rs, ss, e3, hS, hSS, hSn, hSl⟩ := open_slist h3'
  have e0' : c0 = .int .i64 nx := by simpa [si] using e0
  subst e0' e1 e2 e3
  exact ⟨⟨la, ln, lc⟩, ⟨fa, fn, fc⟩, ⟨sa, sn, sc⟩, rs, ⟨nx, ds, fs, ss⟩, rfl, ⟨hV, hFr, hS, hSS⟩, ⟨hVn, hFn, hSn, hVl, hFl, hSl⟩⟩
end Go.Proofs.YtfajenejngddeaaGreat

namespace Go.Proofs.YtfajenejngddeaaGreat.fnExactPruneFrame
open Go.ChangeShapes Go.WideShapes Go.ChangeAt Go.RowKit
open Go.ChangeMaps (open_string shut_string)
set_option linter.unusedVariables false

theorem own : ownKnob Tryz.prog.godebug = none := by kernel_rfl
theorem laidOut : laidOutB Tryz.prog = true := by kernel_rfl

set_option maxRecDepth 100000 in
theorem lifted (os : Os) (started : os.Started) (H : Type) (enc : TypeId × Value → H) :
    ReturnsInHanded {} Tryz.checked os 4 .any (Rows.fnExactPruneSpec.pre6 enc Tryz.prog Tryz.f4 Rows.fnExactPruneRow.domain false) (Rows.fnExactPruneSpec.post enc Tryz.prog Tryz.f4 false true false false) := by
  refine returnsInHanded_of_change (C := Tryz.checked) own started (by kernel_rfl) Tryz.func4
    (ChangeSpec.witness6 (enc := enc) (C := Tryz.checked) false ⟨#[], #[.agg #[.int .i64 0, .slice none 0 0, .slice none 0 0, .slice none 0 0], .int .i64 0], []⟩ 8 (by kernel_rfl) (by kernel_rfl) (by kernel_rfl) (by kernel_rfl)) ?_
  intro W base args ds gs before hval0 hW _ _
  have hval : ∀ (j : Nat) t v, Tryz.f4.params[j]? = some t → args[j]? = some v → Value.okWide Tryz.prog W .any base t v := hval0
  have hW' := hW
  obtain ⟨p, q, hA0, hV, rfl, _, _⟩ := hW
  have hA : DataW.TrodAll enc Tryz.prog W 0 (fun _ => true) true Tryz.f4.params.toList args.toList ds p := hA0
  rw [Tryz.params4] at hA hval
  obtain ⟨v0, vs0, d0, ds0, p0, q0, hargs, rfl, rfl, h0, r0⟩ := trodAll_cons hA
  obtain ⟨v1, vs1, d1, ds1, p1, q1, rfl, rfl, rfl, h1, r1⟩ := trodAll_cons r0
  obtain ⟨rfl, rfl, rfl⟩ := trodAll_nil r1
  obtain rfl : args = #[v0, v1] := by cases args; simp_all
  obtain ⟨rfl, rfl⟩ := trodVars_none hV
  have k0 := h0
  have lt0 : ∀ x ∈ p0, x.block < W.heap.size := by obtain ⟨m, hm⟩ := k0; exact DataW.trod_lt m _ _ _ hm
  have k1 := h1
  have lt1 : ∀ x ∈ p1, x.block < W.heap.size := by obtain ⟨m, hm⟩ := k1; exact DataW.trod_lt m _ _ _ hm
  obtain ⟨vl0, vf0, vss0, vrs0, vd0, rfl, w0, wi0⟩ := open_versions (hval 0 52 v0 rfl rfl) h0
  obtain ⟨x1, rfl, rfl, rfl, w1⟩ := open_int Tryz.underlying3 (hval 1 3 v1 rfl rfl) h1
  clear hA0 hval0
  refine (lawPrune_any vl0 vf0 vss0 vrs0 vd0 x1 W w0 wi0 w1).mono fun e W' ⟨he, bel⟩ => ?_
  subst he
  exact ⟨_, rfl, _, _, _, [], _, [], hW', trodAll_mk1 (shut_bool Tryz.underlying4 _), (trodAll_cons_mk (Below.trod laidOut (by kernel_rfl) (of_decide_eq_true (by kernel_rfl)) k0 bel lt0) (trodAll_cons_mk (Below.trod laidOut (by kernel_rfl) (of_decide_eq_true (by kernel_rfl)) k1 bel lt1) trodAll_mk0)), rfl, bel.frame _, fun h => by cases h⟩

theorem over : Rows.fnExactPruneRow.holds Tryz.pinned (OpenSpec.ofChange Rows.fnExactPruneSpec) :=
  OpenClaim.holds_of_wide 4 Tryz.f4 rfl rfl rfl rfl rfl rfl rfl ⟨rfl, rfl, rfl, rfl, rfl⟩ rfl rfl rfl rfl rfl (by kernel_rfl) Tryz.func4 (by kernel_rfl)
    (of_decide_eq_true (by kernel_rfl)) (by unfold Func.isWrapper; first | (rw [if_pos (by decide +kernel)]; kernel_rfl) | (rw [if_neg (by decide +kernel)]; exact ⟨rfl, rfl⟩))
    (fun os started H enc _ => lifted os started H enc)

end Go.Proofs.YtfajenejngddeaaGreat.fnExactPruneFrame
namespace Go.Proofs.YtfajenejngddeaaGreat
/-- THE STATEMENT. -/
theorem fnExactPrune_proved : Rows.FnExactPruneSaid := fnExactPruneFrame.over
#print axioms fnExactPrune_proved
end Go.Proofs.YtfajenejngddeaaGreat
