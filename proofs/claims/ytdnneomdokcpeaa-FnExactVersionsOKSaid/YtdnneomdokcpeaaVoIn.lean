/-
  Versions that came in as an argument, opened.
-/
import Derived.Test.YtdnneomdokcpeaaVvA
import Derived.Test.YtdnneomdokcpeaaVrIn
import Derived.Test.YtdnneomdokcpeaaFnIn
import Derived.Deep.Slices
import Derived.Deep.Strs
import Derived.Lib.SmallJoins
import Derived.OpenShut
namespace Go.Proofs.Ytdnneomdokcpeaa
open Go.RowKit Go.ChangeShapes Go.WideShapes

set_option maxRecDepth 100000 in
theorem open_slist {H : Type} {enc : TypeId × Value → H} {w : World} {base : Nat} {spare : Nat → Bool} {held : Bool} {v : Value} {fuel : Nat} {x : DataW H × List MemPlace}
    (h : DataW.trod enc Try.prog w base spare held fuel 39 [v] = some x) : ∃ a l c rs ss, v = .slice a l c ∧ SRow w a l rs ∧ SsAt w rs ss ∧ l ≤ maxLen ∧ LimS rs ss := by
  rcases Deep.open_slice Try.underlying39 h with ⟨hcs, _⟩ | ⟨y, l, c, m, n, D, Pl, hcs, hb, hl, hm, hmm, _, hel⟩
  · simp at hcs
    subst hcs
    exact ⟨none, 0, 0, [], [], rfl, ⟨rfl, fun i hi => absurd hi (Nat.not_lt_zero _)⟩, ⟨rfl, fun i hi => absurd hi (Nat.not_lt_zero _)⟩, by unfold maxLen; omega, fun i hi => absurd hi (Nat.not_lt_zero _)⟩
  simp at hcs
  subst hcs
  have hlm : l ≤ m := by rw [hmm]; split <;> omega
  have cN : Try.prog.cellsOf 105 = 3 := by kernel_rfl
  rw [cN] at hel
  have one : ∀ i, i < l → ∃ (r : SesR) (s : SesD), (r.o = s.o ∧ r.t = s.t ∧ VRow w r.ws.a r.ws.n s.ws ∧ r.ws.n ≤ maxLen ∧ LimV s.ws) ∧ ∃ b off, some y = some (⟨b, off, none⟩ : Addr) ∧ w.cell? ⟨b, off + i * 3, none⟩ = some (.bool r.o) ∧ w.cell? ⟨b, off + i * 3 + 1, none⟩ = some (.int .i64 r.t) ∧ w.cell? ⟨b, off + i * 3 + 2, none⟩ = some (.slice r.ws.a r.ws.n r.ws.c) := by
    intro i hi
    obtain ⟨cs, hc, ht⟩ := hel i (by omega)
    obtain ⟨_, hlen, hcell⟩ := World.cells?_some hc
    obtain ⟨y0, y1, y2, n', _, _, h0, h1, h2⟩ := Go.Deep.trod_struct3 Try.underlying105 ht
    obtain ⟨k0, e0, _⟩ := DataW.trod_bool Try.underlying4 h0
    obtain ⟨k1, e1, _, w1⟩ := DataW.trod_int Try.underlying3 h1
    match cs, hlen with
    | [v0, v1, v2], _ =>
      have sb : Try.prog.cellsOf 4 = 1 := by kernel_rfl
      have si : Try.prog.cellsOf 3 = 1 := by kernel_rfl
      have sl : Try.prog.cellsOf 22 = 1 := by kernel_rfl
      have e0' : v0 = .bool k0 := by simpa [sb, si] using e0
      have e1' : v1 = .int .i64 k1 := by simpa [sb, si] using e1
      have h2' : DataW.trod enc Try.prog w base spare held n' 22 [v2] = some y2 := by simpa [sl] using h2
      obtain ⟨va, vl, vc, ds, e2', hV, hVn, hVl⟩ := open_vlist h2'
      subst e0' e1' e2'
      have g0 := hcell 0 (by omega)
      have g1 := hcell 1 (by omega)
      have g2 := hcell 2 (by omega)
      rw [Deep.add_add] at g0 g1 g2
      obtain ⟨b, off, spot⟩ := y
      have hs : spot = none := by
        by_cases hi0 : i = 0
        · have := World.cell?_spot (g0.trans rfl)
          simpa [Addr.add, hi0] using this
        · obtain ⟨cs', hc', ht'⟩ := hel 0 (by omega)
          obtain ⟨_, hlen', hcell'⟩ := World.cells?_some hc'
          have h0' := hcell' 0 (by omega)
          match cs', hlen' with
          | [u0, u1, u2], _ =>
            have := World.cell?_spot (h0'.trans rfl)
            simpa [Addr.add] using this
      subst hs
      have e : ∀ j, (⟨b, off, none⟩ : Addr).add j = ⟨b, off + j, none⟩ := fun j => by unfold Addr.add; split <;> simp_all
      rw [e] at g0 g1 g2
      exact ⟨⟨k0, k1, ⟨va, vl, vc⟩⟩, ⟨k0, k1, ds⟩, ⟨rfl, rfl, hV, hVn, hVl⟩, b, off, rfl, by simpa using g0, by simpa [Nat.add_assoc] using g1, by simpa [Nat.add_assoc] using g2⟩
  have : ∀ i, ∃ p : SesR × SesD, i < l → (p.1.o = p.2.o ∧ p.1.t = p.2.t ∧ VRow w p.1.ws.a p.1.ws.n p.2.ws ∧ p.1.ws.n ≤ maxLen ∧ LimV p.2.ws) ∧ ∃ b off, some y = some (⟨b, off, none⟩ : Addr) ∧ w.cell? ⟨b, off + i * 3, none⟩ = some (.bool p.1.o) ∧ w.cell? ⟨b, off + i * 3 + 1, none⟩ = some (.int .i64 p.1.t) ∧ w.cell? ⟨b, off + i * 3 + 2, none⟩ = some (.slice p.1.ws.a p.1.ws.n p.1.ws.c) := fun i => by
    by_cases hi : i < l
    · obtain ⟨r, s, hd⟩ := one i hi
      exact ⟨(r, s), fun _ => hd⟩
    · exact ⟨(noS, ⟨false, 0, []⟩), fun h => absurd h hi⟩
  obtain ⟨F, hF⟩ := Classical.skolem.1 this
  refine ⟨some y, l, c, (List.range l).map fun i => (F i).1, (List.range l).map fun i => (F i).2, rfl, ⟨by simp, fun i hi => ?_⟩, ⟨by simp, fun i hi hi2 => ?_⟩, by omega, fun i hi hi2 => ?_⟩
  · have hi' : i < l := by simpa using hi
    simpa using (hF i hi').2
  · have hi' : i < l := by simpa using hi
    have := (hF i hi').1
    simpa using ⟨this.1, this.2.1, this.2.2.1⟩
  · have hi' : i < l := by simpa using hi
    have := (hF i hi').1
    simpa using ⟨this.2.2.2.1, this.2.2.2.2⟩
set_option maxRecDepth 100000 in
theorem open_versions {H : Type} {enc : TypeId × Value → H} {w : World} {base : Nat} {spare : Nat → Bool} {held : Bool} {v : Value} {r0 : Reach} {b0 : Nat} {dd : DataW H} {p : List MemPlace}
    (hv : Value.okWide Try.prog w r0 b0 41 v) (h : DataW.Trod enc Try.prog w base spare held 41 v dd p) : ∃ l f s rs d, v = vsv d.next l f s ∧ VsAt w l f s rs d ∧ VsIn l f s rs d := by
  have hC : Try.prog.cellsOf 41 = 4 := by kernel_rfl
  obtain ⟨cs, rfl, hsz⟩ := okWide_struct Try.underlying41 hv
  obtain ⟨fuel, hf⟩ := h
  obtain ⟨c0, c1, c2, c3, rfl⟩ : ∃ c0 c1 c2 c3, cs = #[c0, c1, c2, c3] := by
    have := hsz.trans hC
    obtain ⟨l⟩ := cs
    match l, this with
    | [c0, c1, c2, c3], _ => exact ⟨c0, c1, c2, c3, rfl⟩
  have hf' : DataW.trod enc Try.prog w base spare held fuel 41 [c0, c1, c2, c3] = some (dd, p) := by simpa [Value.cells] using hf
  obtain ⟨y0, y1, y2, y3, n', _, _, h0, h1, h2, h3⟩ := Go.Joins.trod_struct4 Try.underlying41 hf'
  have si : Try.prog.cellsOf 3 = 1 := by kernel_rfl
  have s1 : Try.prog.cellsOf 22 = 1 := by kernel_rfl
  have s2 : Try.prog.cellsOf 38 = 1 := by kernel_rfl
  have s3 : Try.prog.cellsOf 39 = 1 := by kernel_rfl
  obtain ⟨nx, e0, _, _⟩ := DataW.trod_int Try.underlying3 h0
  have h1' : DataW.trod enc Try.prog w base spare held n' 22 [c1] = some y1 := by simpa [s1] using h1
  have h2' : DataW.trod enc Try.prog w base spare held n' 38 [c2] = some y2 := by simpa [s2] using h2
  have h3' : DataW.trod enc Try.prog w base spare held n' 39 [c3] = some y3 := by simpa [s3] using h3
  obtain ⟨la, ln, lc, ds, e1, hV, hVn, hVl⟩ := open_vlist h1'
  obtain ⟨fa, fn, fc, fs, e2, hFr, hFn, hFl⟩ := open_flist h2'
  obtain ⟨sa, sn, sc, rs, ss, e3, hS, hSS, hSn, hSl⟩ := open_slist h3'
  have e0' : c0 = .int .i64 nx := by simpa [si] using e0
  subst e0' e1 e2 e3
  exact ⟨⟨la, ln, lc⟩, ⟨fa, fn, fc⟩, ⟨sa, sn, sc⟩, rs, ⟨nx, ds, fs, ss⟩, rfl, ⟨hV, hFr, hS, hSS⟩, ⟨hVn, hFn, hSn, hVl, hFl, hSl⟩⟩
end Go.Proofs.Ytdnneomdokcpeaa
