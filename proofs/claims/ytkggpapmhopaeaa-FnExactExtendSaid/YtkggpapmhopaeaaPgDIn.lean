/-
  A change that came in as an argument, opened.
-/
import Derived.Test.YtkggpapmhopaeaaPageW
import Derived.Lib.SmallJoins
import Derived.OpenShut
namespace Go.Proofs.Ytkggpapmhopaeaa
open Go.RowKit Go.ChangeShapes Go.WideShapes

set_option maxRecDepth 100000 in
theorem open_delta {H : Type} {enc : TypeId × Value → H} {w : World} {base : Nat} {spare : Nat → Bool} {held : Bool} {v : Value} {r : Reach} {b0 : Nat} {d : DataW H} {p : List MemPlace}
    (hv : Value.okWide Try.prog w r b0 40 v) (h : DataW.Trod enc Try.prog w base spare held 40 v d p) : ∃ x : DelD, v = dv x ∧ x.k.size ≤ maxLen ∧ x.v.size ≤ maxLen := by
  obtain ⟨v0, v1, v2, v3, y0, y1, y2, y3, n, rfl, _, _, h0, h1, h2, h3⟩ := Go.Joins.open_agg4 Try.underlying40 (by kernel_rfl) (by kernel_rfl) hv h
  obtain ⟨kd, e0, _, _⟩ := DataW.trod_int Try.underlying3 h0
  obtain ⟨k, e1, _, w1⟩ := DataW.trod_string Try.underlying9 h1
  obtain ⟨u, e2, _, w2⟩ := DataW.trod_string Try.underlying9 h2
  obtain ⟨to', e3, _, _⟩ := DataW.trod_int Try.underlying3 h3
  simp at e0 e1 e2 e3
  subst e0 e1 e2 e3
  exact ⟨⟨kd, k, u, to'⟩, rfl, w1, w2⟩
end Go.Proofs.Ytkggpapmhopaeaa
