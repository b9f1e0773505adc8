/-
  A slice of parts that came in as an argument, opened: its parts as they lie in memory.
-/
import Derived.Test.YtmnijhjlindfbabPartD
import Derived.Deep.Slices
import Derived.Lib.SmallJoins
import Derived.OpenShut
namespace Go.Proofs.Ytmnijhjlindfbab
open Go.RowKit Go.ChangeShapes Go.WideShapes

/-- A part that a Go program can hold. -/
def FitD (d : PartD) : Prop := (Lit.int .i64 d.k).wf = true ∧ (Lit.int .i64 d.n).wf = true ∧ d.f < 18446744073709551616 ∧ d.t.size ≤ maxLen
/-- A slice of parts that came in. -/
def IsParts (w : World) (a : Option Addr) (len : Nat) (ps : List PartD) : Prop :=
  PRow w a len ps ∧ len ≤ maxLen ∧ ∀ i (hi : i < ps.length), FitD ps[i]

theorem trod_f {H : Type} {enc : TypeId × Value → H} {P : Program} {w : World} {base : Nat} {spare : Nat → Bool} {held : Bool} {t : TypeId} {fuel : Nat} {cs : List Value} {x : DataW H × List MemPlace} (ht : P.underlying t = some (.float .f64)) (h : DataW.trod enc P w base spare held fuel t cs = some x) :
    ∃ b, cs = [.float .f64 b] ∧ b < 18446744073709551616 := by
  cases fuel with
  | zero => simp [DataW.trod] at h
  | succ n =>
    unfold DataW.trod at h
    rw [ht] at h
    split at h <;> simp_all only [Option.some.injEq, TypeDesc.float.injEq, reduceCtorEq]
    rename_i k k' b hk
    subst hk
    by_cases hc : k' = .f64 ∧ (Lit.float .f64 b).wf = true
    · obtain ⟨rfl, hw⟩ := hc
      exact ⟨b, rfl, by simpa [Lit.wf] using hw⟩
    · exact absurd h (by simp_all)

theorem open_parts {H : Type} {enc : TypeId × Value → H} {w : World} {base : Nat} {spare : Nat → Bool} {held : Bool} {a : Option Addr} {len cap fuel : Nat} {x : DataW H × List MemPlace}
    (h : DataW.trod enc Try.prog w base spare held fuel 22 [.slice a len cap] = some x) : ∃ ps, IsParts w a len ps := by
  rcases Deep.open_slice Try.underlying22 h with ⟨hcs, _⟩ | ⟨y, l, c, m, n, D, Pl, hcs, hb, hl, hm, hmm, _, hel⟩
  · simp at hcs
    obtain ⟨rfl, rfl, rfl⟩ := hcs
    exact ⟨[], ⟨rfl, fun i hi => absurd hi (Nat.not_lt_zero _)⟩, by unfold maxLen; omega, fun i hi => absurd hi (Nat.not_lt_zero _)⟩
  simp at hcs
  obtain ⟨rfl, rfl, rfl⟩ := hcs
  have hlm : len ≤ m := by rw [hmm]; split <;> omega
  have c4 : Try.prog.cellsOf 44 = 4 := by kernel_rfl
  rw [c4] at hel
  have one : ∀ i, i < len → ∃ d : PartD, FitD d ∧ ∃ b off, some y = some (⟨b, off, none⟩ : Addr) ∧ w.cell? ⟨b, off + i * 4, none⟩ = some (.int .i64 d.k) ∧ w.cell? ⟨b, off + i * 4 + 1, none⟩ = some (.int .i64 d.n) ∧
      w.cell? ⟨b, off + i * 4 + 2, none⟩ = some (.float .f64 d.f) ∧ w.cell? ⟨b, off + i * 4 + 3, none⟩ = some (.string d.t) := by
    intro i hi
    obtain ⟨cs, hc, ht⟩ := hel i (by omega)
    obtain ⟨_, hlen, hcell⟩ := World.cells?_some hc
    obtain ⟨y0, y1, y2, y3, n', _, _, h0, h1, h2, h3⟩ := Go.Joins.trod_struct4 Try.underlying44 ht
    obtain ⟨k0, e0, _, w0⟩ := DataW.trod_int Try.underlying3 h0
    obtain ⟨k1, e1, _, w1⟩ := DataW.trod_int Try.underlying3 h1
    obtain ⟨k2, e2, w2⟩ := trod_f Try.underlying42 h2
    obtain ⟨k3, e3, _, w3⟩ := DataW.trod_string Try.underlying9 h3
    match cs, hlen with
    | [v0, v1, v2, v3], _ =>
      have s0 : Try.prog.cellsOf 3 = 1 := by kernel_rfl
      have s2 : Try.prog.cellsOf 42 = 1 := by kernel_rfl
      have s3 : Try.prog.cellsOf 9 = 1 := by kernel_rfl
      have e0' : v0 = .int .i64 k0 := by simpa [s0] using e0
      have e1' : v1 = .int .i64 k1 := by simpa [s0] using e1
      have e2' : v2 = .float .f64 k2 := by simpa [s2] using e2
      have e3' : v3 = .string k3 := by simpa [s3] using e3
      subst e0' e1' e2' e3'
      have g0 := hcell 0 (by omega)
      have g1 := hcell 1 (by omega)
      have g2 := hcell 2 (by omega)
      have g3 := hcell 3 (by omega)
      rw [Deep.add_add] at g0 g1 g2 g3
      have gz := g1
      obtain ⟨b, off, spot⟩ := y
      have hs : spot = none := by
        by_cases hi0 : i = 0
        · have := World.cell?_spot (g0.trans rfl)
          simpa [Addr.add, hi0] using this
        · obtain ⟨cs', hc', ht'⟩ := hel 0 (by omega)
          obtain ⟨_, hlen', hcell'⟩ := World.cells?_some hc'
          have h0' := hcell' 0 (by omega)
          match cs', hlen' with
          | [u0, u1, u2, u3], _ =>
            have := World.cell?_spot (h0'.trans rfl)
            simpa [Addr.add] using this
      subst hs
      have e : ∀ j, (⟨b, off, none⟩ : Addr).add j = ⟨b, off + j, none⟩ := fun j => by unfold Addr.add; split <;> simp_all
      rw [e] at g0 g1 g2 g3
      exact ⟨⟨k0, k1, k2, k3⟩, ⟨w0, w1, w2, w3⟩, b, off, rfl, by simpa using g0, by simpa [Nat.add_assoc] using g1, by simpa [Nat.add_assoc] using g2, by simpa [Nat.add_assoc] using g3⟩
  have : ∀ i, ∃ d : PartD, i < len → FitD d ∧ ∃ b off, some y = some (⟨b, off, none⟩ : Addr) ∧ w.cell? ⟨b, off + i * 4, none⟩ = some (.int .i64 d.k) ∧ w.cell? ⟨b, off + i * 4 + 1, none⟩ = some (.int .i64 d.n) ∧
      w.cell? ⟨b, off + i * 4 + 2, none⟩ = some (.float .f64 d.f) ∧ w.cell? ⟨b, off + i * 4 + 3, none⟩ = some (.string d.t) := fun i => by
    by_cases hi : i < len
    · obtain ⟨d, hd⟩ := one i hi
      exact ⟨d, fun _ => hd⟩
    · exact ⟨⟨0, 0, 0, ByteArray.empty⟩, fun h => absurd h hi⟩
  obtain ⟨F, hF⟩ := Classical.skolem.1 this
  refine ⟨(List.range len).map F, ⟨by simp, fun i hi => ?_⟩, by omega, fun i hi => ?_⟩
  · have hi' : i < len := by simpa using hi
    simpa using (hF i hi').2
  · have hi' : i < len := by simpa using hi
    simpa using (hF i hi').1
end Go.Proofs.Ytmnijhjlindfbab
