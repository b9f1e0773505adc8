/-
  Rows of versions as cells: how they read.
-/
import Derived.Test.YtfajenejngddeaaGreatGdA
import Derived.Test.YtfajenejngddeaaGreatVrC
import Derived.Test.YtfajenejngddeaaGreatVrT
namespace Go.Proofs.YtfajenejngddeaaGreat
open Go.RowKit

theorem rowC_lenV {w : World} {a : Option Addr} {n m c : Nat} {cs : List Value} (h : RowC w (.slice a n c) m cs) : n = m := by
  obtain ⟨_, _, e, _⟩ := h
  injection e
theorem vrow_C {w : World} {a : Option Addr} {n c : Nat} {ds : List VerD} (h : RowC w (.slice a n c) ds.length (vcs ds)) : VRow w a n ds := by
  have hn := rowC_lenV h
  subst hn
  refine ⟨rfl, fun i hi => ?_⟩
  obtain ⟨e0, e1, e2, e3⟩ := vcs_at ds i hi
  obtain ⟨b, off, e, q0⟩ := h.at e0
  obtain ⟨b1, o1, f1, q1⟩ := h.at e1
  obtain ⟨b2, o2, f2, q2⟩ := h.at e2
  obtain ⟨b3, o3, f3, q3⟩ := h.at e3
  rw [e] at f1 f2 f3
  cases f1
  cases f2
  cases f3
  exact ⟨b, off, e, q0, by rw [Nat.add_assoc]; exact q1, by rw [Nat.add_assoc]; exact q2, by rw [Nat.add_assoc]; exact q3⟩
theorem rowC_vcs {w : World} {a : Option Addr} {n c : Nat} {ds : List VerD} (h : VRow w a n ds) : RowC w (.slice a n c) ds.length (vcs ds) := by
  refine ⟨a, c, by rw [h.1], fun j u hu => ?_⟩
  have hj : j < ds.length * 4 := by rw [← vcs_len]; exact (List.getElem?_eq_some_iff.1 hu).1
  have hi : j / 4 < ds.length := by omega
  obtain ⟨b, off, e, c0, c1, c2, c3⟩ := h.2 (j / 4) hi
  obtain ⟨a0, a1, a2, a3⟩ := vcs_at ds (j / 4) hi
  refine ⟨b, off, e, ?_⟩
  have hr : j % 4 < 4 := by omega
  have hj2 : j = j / 4 * 4 + j % 4 := by omega
  generalize j % 4 = r at *
  generalize j / 4 = k at *
  subst hj2
  match r, hr with
  | 0, _ => rw [Nat.add_zero] at hu ⊢; rw [a0] at hu; rw [← hu]; exact c0
  | 1, _ => rw [a1] at hu; rw [← hu, ← Nat.add_assoc]; exact c1
  | 2, _ => rw [a2] at hu; rw [← hu, ← Nat.add_assoc]; exact c2
  | 3, _ => rw [a3] at hu; rw [← hu, ← Nat.add_assoc]; exact c3
end Go.Proofs.YtfajenejngddeaaGreat
