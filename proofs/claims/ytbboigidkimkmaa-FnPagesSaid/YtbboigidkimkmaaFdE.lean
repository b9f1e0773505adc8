/-
  A drawn change: the walk.
-/
import Derived.Test.YtbboigidkimkmaaFdD
namespace Go.Proofs.Ytbboigidkimkmaa
open Go.RowKit

theorem heap_ltD {w : World} {b : Nat} {o : Obj} (h : w.heap[b]? = some o) : b < w.heap.size := (Array.getElem?_eq_some_iff.1 h).1
theorem four_end {w w' : World} {p : Nat} {a : Option Addr} {n c : Nat} {xs : List Int} {K : Int} (hw : Wrote p w w') (hs : Src w' p a n c xs K) (hp : p < w.heap.size) (ha : ∀ x, a = some x → 0 < n → x.block < w.heap.size) (v0 v1 v2 v3 : Value) :
    Wrote p w ((((w'.setCell ⟨w.heap.size, 0, none⟩ v0).setCell ⟨w.heap.size, 1, none⟩ v1).setCell ⟨w.heap.size, 2, none⟩ v2).setCell ⟨w.heap.size, 3, none⟩ v3) ∧ Src ((((w'.setCell ⟨w.heap.size, 0, none⟩ v0).setCell ⟨w.heap.size, 1, none⟩ v1).setCell ⟨w.heap.size, 2, none⟩ v2).setCell ⟨w.heap.size, 3, none⟩ v3) p a n c xs K := by
  have h1 : p ≠ w.heap.size := by omega
  have h2 : ∀ x, a = some x → 0 < n → x.block ≠ w.heap.size := fun x hx hn => by have := ha x hx hn; omega
  exact ⟨(((hw.loc (Nat.le_refl _) 0 v0).loc (Nat.le_refl _) 1 v1).loc (Nat.le_refl _) 2 v2).loc (Nat.le_refl _) 3 v3, (((hs.set h1 h2 0 v0).set h1 h2 1 v1).set h1 h2 2 v2).set h1 h2 3 v3⟩
set_option maxRecDepth 100000 in
set_option maxHeartbeats 4000000 in
theorem deltaD_any (p : Nat) (a : Option Addr) (n c : Nat) (xs : List Int) (K : Int) (w : World) (h : Src w p a n c xs K) (hK : K ≤ 500000) :
    Calls Try.prog 34 #[.pointer (some ⟨p, 0, none⟩)] w fun e w' => ∃ d : DelD, e = .returned (dV d) ∧ Wrote p w w' ∧ Src w' p a n c xs (K + 12) := by
  have hp := cell_lt h.code
  have ha := src_code' h
  have b0 : Below w.heap.size w (w.alloc (.cells #[.int .i64 0, .string ⟨#[]⟩, .string ⟨#[]⟩, .int .i64 0] 41)) := (Below.refl _ _).alloc (Nat.le_refl _) _
  have S := hide (h.alloc (.cells #[.int .i64 0, .string ⟨#[]⟩, .string ⟨#[]⟩, .int .i64 0] 41))
  have kz := heap_alloc_new w (.cells #[.int .i64 0, .string ⟨#[]⟩, .string ⟨#[]⟩, .int .i64 0] 41)
  have WW := hide (show Wrote p w (w.alloc (.cells #[.int .i64 0, .string ⟨#[]⟩, .string ⟨#[]⟩, .int .i64 0] 41)) from ⟨b0.os, b0.tape, b0.output, b0.size, fun k _ hl => b0.block k hl⟩)
  have KZ := hide kz
  have HA := hide ha
  have hlt := heap_ltD kz
  clear h b0 kz ha
  go_enter Try.func34, Try.ntmps34
  go_wp2_with fail
  generalize w.alloc (.cells #[.int .i64 0, .string ⟨#[]⟩, .string ⟨#[]⟩, .int .i64 0] 41) = W0 at *
  refine (next_any p a n c xs K 5 W0 (unhide S) (by omega) (by omega) (by omega)).mono ?_
  rintro e w1 ⟨r, rfl, hr0, hr1, ho, hs⟩
  replace KZ := hide ((ho.wrote.block w.heap.size (by omega) hlt).trans (unhide KZ))
  replace WW := hide ((unhide WW).trans ho.wrote)
  replace S := hide hs
  clear ho hs hlt
  have hlt := heap_ltD (unhide KZ)
  by_cases h01 : r = 0 ∨ r = 1
  · rcases h01 with rfl | rfl
    all_goals
      go_wp2_with fail
      refine (keyD_any p a n c xs (K + 3) w1 (unhide S) (by omega)).mono ?_
      rintro e w2 ⟨t, rfl, _, hw, hs⟩
      replace KZ := hide ((hw.block w.heap.size (by omega) hlt).trans (unhide KZ))
      replace WW := hide ((unhide WW).trans hw)
      replace S := hide hs
      clear hw hs hlt
      have hlt := heap_ltD (unhide KZ)
      obtain ⟨⟨c0, c1, c2, c3⟩, f0, f1, f2, f3⟩ := four_set (unhide KZ)
      have FE := hide (four_end (unhide WW) ((unhide S).more (K' := K + 12) (by omega)) hp (unhide HA) (.int .i64 2) (.string t) (.string ⟨#[]⟩) (.int .i64 0))
      go_wp2_with fail
      refine bodyPost_ret (v := dV ⟨2, t, ⟨#[]⟩, 0⟩) (by simp [results, Try.results34, go_sem, dV, *] <;> rfl) rfl ?_
      exact ⟨⟨2, t, ⟨#[]⟩, 0⟩, rfl, (unhide FE).1, (unhide FE).2⟩
  have h0 : ¬ r = 0 := fun h => h01 (.inl h)
  have h1 : ¬ r = 1 := fun h => h01 (.inr h)
  clear h01
  by_cases h2 : r = 2
  · subst h2
    go_wp2_with fail
    refine (chanceD_any p a n c xs (K + 3) 2 w1 (unhide S) (by omega) (by omega) (by omega)).mono ?_
    rintro e w2 ⟨x, rfl, hw, hs⟩
    replace KZ := hide ((hw.block w.heap.size (by omega) hlt).trans (unhide KZ))
    replace WW := hide ((unhide WW).trans hw)
    replace S := hide hs
    clear hw hs hlt
    have hlt := heap_ltD (unhide KZ)
    cases x with
    | true =>
      go_wp2_with fail
      refine (keyD_any p a n c xs (K + 3 + 3) w2 (unhide S) (by omega)).mono ?_
      rintro e w3 ⟨t, rfl, _, hw, hs⟩
      replace KZ := hide ((hw.block w.heap.size (by omega) hlt).trans (unhide KZ))
      replace WW := hide ((unhide WW).trans hw)
      replace S := hide hs
      clear hw hs hlt
      have hlt := heap_ltD (unhide KZ)
      go_wp2_with fail
      refine (next_any p a n c xs (K + 3 + 3 + 3) 9 w3 (unhide S) (by omega) (by omega) (by omega)).mono ?_
      rintro e w4 ⟨q, rfl, _, _, ho, hs⟩
      have hw := ho.wrote
      replace KZ := hide ((hw.block w.heap.size (by omega) hlt).trans (unhide KZ))
      replace WW := hide ((unhide WW).trans hw)
      replace S := hide hs
      clear hw hs hlt ho
      obtain ⟨⟨c0, c1, c2, c3⟩, f0, f1, f2, f3⟩ := four_set (unhide KZ)
      have FE := hide (four_end (unhide WW) ((unhide S).more (K' := K + 12) (by omega)) hp (unhide HA) (.int .i64 3) (.string t) (.string ⟨#[]⟩) (.int .i64 q))
      go_wp2_with fail
      refine bodyPost_ret (v := dV ⟨3, t, ⟨#[]⟩, q⟩) (by simp [results, Try.results34, go_sem, dV, *] <;> rfl) rfl ?_
      exact ⟨⟨3, t, ⟨#[]⟩, q⟩, rfl, (unhide FE).1, (unhide FE).2⟩
    | false =>
      go_wp2_with fail
      refine (keyD_any p a n c xs (K + 3 + 3) w2 (unhide S) (by omega)).mono ?_
      rintro e w3 ⟨t, rfl, _, hw, hs⟩
      replace KZ := hide ((hw.block w.heap.size (by omega) hlt).trans (unhide KZ))
      replace WW := hide ((unhide WW).trans hw)
      replace S := hide hs
      clear hw hs hlt
      have hlt := heap_ltD (unhide KZ)
      go_wp2_with fail
      refine (valueD_any p a n c xs (K + 3 + 3 + 3) w3 (unhide S) (by omega)).mono ?_
      rintro e w4 ⟨u, rfl, _, hw, hs⟩
      replace KZ := hide ((hw.block w.heap.size (by omega) hlt).trans (unhide KZ))
      replace WW := hide ((unhide WW).trans hw)
      replace S := hide hs
      clear hw hs hlt
      have hlt := heap_ltD (unhide KZ)
      obtain ⟨⟨c0, c1, c2, c3⟩, f0, f1, f2, f3⟩ := four_set (unhide KZ)
      have FE := hide (four_end (unhide WW) ((unhide S).more (K' := K + 12) (by omega)) hp (unhide HA) (.int .i64 1) (.string t) (.string u) (.int .i64 0))
      go_wp2_with fail
      refine bodyPost_ret (v := dV ⟨1, t, u, 0⟩) (by simp [results, Try.results34, go_sem, dV, *] <;> rfl) rfl ?_
      exact ⟨⟨1, t, u, 0⟩, rfl, (unhide FE).1, (unhide FE).2⟩
  · go_wp2_with fail
    refine (keyD_any p a n c xs (K + 3) w1 (unhide S) (by omega)).mono ?_
    rintro e w3 ⟨t, rfl, _, hw, hs⟩
    replace KZ := hide ((hw.block w.heap.size (by omega) hlt).trans (unhide KZ))
    replace WW := hide ((unhide WW).trans hw)
    replace S := hide hs
    clear hw hs hlt
    have hlt := heap_ltD (unhide KZ)
    go_wp2_with fail
    refine (valueD_any p a n c xs (K + 3 + 3) w3 (unhide S) (by omega)).mono ?_
    rintro e w4 ⟨u, rfl, _, hw, hs⟩
    replace KZ := hide ((hw.block w.heap.size (by omega) hlt).trans (unhide KZ))
    replace WW := hide ((unhide WW).trans hw)
    replace S := hide hs
    clear hw hs hlt
    have hlt := heap_ltD (unhide KZ)
    obtain ⟨⟨c0, c1, c2, c3⟩, f0, f1, f2, f3⟩ := four_set (unhide KZ)
    have FE := hide (four_end (unhide WW) ((unhide S).more (K' := K + 12) (by omega)) hp (unhide HA) (.int .i64 1) (.string t) (.string u) (.int .i64 0))
    go_wp2_with fail
    refine bodyPost_ret (v := dV ⟨1, t, u, 0⟩) (by simp [results, Try.results34, go_sem, dV, *] <;> rfl) rfl ?_
    exact ⟨⟨1, t, u, 0⟩, rfl, (unhide FE).1, (unhide FE).2⟩
end Go.Proofs.Ytbboigidkimkmaa
