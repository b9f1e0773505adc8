/-
  Rows of versions as cells: how they read.
-/
import Derived.Test.YtdnjgbckkmbmfaaGreatGdA
import Derived.Test.YtdnjgbckkmbmfaaGreatVrC
import Derived.Test.YtdnjgbckkmbmfaaGreatVrT
namespace Go.Proofs.YtdnjgbckkmbmfaaGreat
open Go.RowKit

theorem rowC_lenV {w : World} {a : Option Addr} {n m c : Nat} {cs : List Value} (h : RowC w (.slice a n c) m cs) : n = m := by
  obtain ⟨_, _, e, _⟩ := h
  injection e
theorem vrow_C {w : World} {a : Option Addr} {n c : Nat} {ds : List VerD} (h : RowC w (.slice a n c) ds.length (vcs ds)) : VRow w a n ds := by
  have hn := rowC_lenV h
  subst hn
  refine ⟨rfl, fun i hi => ?_⟩
  obtain ⟨e0, e1, e2, e3⟩ := vcs_at ds i hi
  obtain ⟨b, off, e, q0⟩ := h.at e0
  obtain ⟨b1, o1, f1, q1⟩ := h.at e1
  obtain ⟨b2, o2, f2, q2⟩ := h.at e2
  obtain ⟨b3, o3, f3, q3⟩ := h.at e3
  rw [e] at f1 f2 f3
  cases f1
  cases f2
  cases f3
  exact ⟨b, off, e, q0, by rw [Nat.add_assoc]; exact q1, by rw [Nat.add_assoc]; exact q2, by rw [Nat.add_assoc]; exact q3⟩
end Go.Proofs.YtdnjgbckkmbmfaaGreat
