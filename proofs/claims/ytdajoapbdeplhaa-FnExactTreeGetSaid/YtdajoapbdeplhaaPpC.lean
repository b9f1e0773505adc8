/-
  Rows of entries and of changes as cells: how they read.
-/
import Derived.Test.YtdajoapbdeplhaaGdA
import Derived.Test.YtdajoapbdeplhaaPgP
namespace Go.Proofs.Ytdajoapbdeplhaa
open Go.RowKit

theorem rowC_len {w : World} {a : Option Addr} {n m c : Nat} {cs : List Value} (h : RowC w (.slice a n c) m cs) : n = m := by
  obtain ⟨_, _, e, _⟩ := h
  injection e
theorem erow_C {w : World} {a : Option Addr} {n c : Nat} {es : List EntD} (h : RowC w (.slice a n c) es.length (ecs es)) : ERow w a n es := by
  have hn := rowC_len h
  subst hn
  refine ⟨rfl, fun i hi => ?_⟩
  have e0 := ecs_at0 es i hi
  have e1 := ecs_at1 es i hi
  obtain ⟨b, off, e, q0⟩ := h.at e0
  obtain ⟨b', off', e', q1⟩ := h.at e1
  rw [e] at e'
  cases e'
  exact ⟨b, off, e, q0, by rw [Nat.add_assoc]; exact q1⟩
theorem drow_C {w : World} {a : Option Addr} {n c : Nat} {ds : List DelD} (h : RowC w (.slice a n c) ds.length (dcs ds)) : DRow w a n ds := by
  have hn := rowC_len h
  subst hn
  refine ⟨rfl, fun i hi => ?_⟩
  obtain ⟨e0, e1, e2, e3⟩ := dcs_at ds i hi
  obtain ⟨b, off, e, q0⟩ := h.at e0
  obtain ⟨b1, o1, f1, q1⟩ := h.at e1
  obtain ⟨b2, o2, f2, q2⟩ := h.at e2
  obtain ⟨b3, o3, f3, q3⟩ := h.at e3
  rw [e] at f1 f2 f3
  cases f1
  cases f2
  cases f3
  exact ⟨b, off, e, q0, by rw [Nat.add_assoc]; exact q1, by rw [Nat.add_assoc]; exact q2, by rw [Nat.add_assoc]; exact q3⟩
theorem rowC_ecs {w : World} {a : Option Addr} {n c : Nat} {es : List EntD} (h : ERow w a n es) : RowC w (.slice a n c) es.length (ecs es) := by
  refine ⟨a, c, by rw [h.1], fun j u hu => ?_⟩
  have hj : j < es.length * 2 := by rw [← ecs_len]; exact (List.getElem?_eq_some_iff.1 hu).1
  have hi : j / 2 < es.length := by omega
  obtain ⟨b, off, e, c0, c1⟩ := h.2 (j / 2) hi
  have a0 := ecs_at0 es (j / 2) hi
  have a1 := ecs_at1 es (j / 2) hi
  refine ⟨b, off, e, ?_⟩
  have hr : j % 2 < 2 := by omega
  have hj2 : j = j / 2 * 2 + j % 2 := by omega
  generalize j % 2 = r at *
  generalize j / 2 = k at *
  subst hj2
  match r, hr with
  | 0, _ => rw [Nat.add_zero] at hu ⊢; rw [a0] at hu; rw [← hu]; exact c0
  | 1, _ => rw [a1] at hu; rw [← hu, ← Nat.add_assoc]; exact c1
theorem rowC_dcs {w : World} {a : Option Addr} {n c : Nat} {ds : List DelD} (h : DRow w a n ds) : RowC w (.slice a n c) ds.length (dcs ds) := by
  refine ⟨a, c, by rw [h.1], fun j u hu => ?_⟩
  have hj : j < ds.length * 4 := by rw [← dcs_len]; exact (List.getElem?_eq_some_iff.1 hu).1
  have hi : j / 4 < ds.length := by omega
  obtain ⟨b, off, e, c0, c1, c2, c3⟩ := h.2 (j / 4) hi
  obtain ⟨a0, a1, a2, a3⟩ := dcs_at ds (j / 4) hi
  refine ⟨b, off, e, ?_⟩
  have hr : j % 4 < 4 := by omega
  have hj2 : j = j / 4 * 4 + j % 4 := by omega
  generalize j % 4 = r at *
  generalize j / 4 = k at *
  subst hj2
  match r, hr with
  | 0, _ => rw [Nat.add_zero] at hu ⊢; rw [a0] at hu; rw [← hu]; exact c0
  | 1, _ => rw [a1] at hu; rw [← hu, ← Nat.add_assoc]; exact c1
  | 2, _ => rw [a2] at hu; rw [← hu, ← Nat.add_assoc]; exact c2
  | 3, _ => rw [a3] at hu; rw [← hu, ← Nat.add_assoc]; exact c3
end Go.Proofs.Ytdajoapbdeplhaa
