/-
  SrcM, FdD, FdE, SrcZ, XtD, XnA, XnB, XnC, FdS, XtS, XtP, MtF, XnK, XnP in one.
-/
import Derived.Test.YtbhkmmdcdfjbkaaXnAll4
import Derived.Deep.RegionWith
import Derived.Test.YtbhkmmdcdfjbkaaPageO
import Derived.Laws.Concat
import Derived.Test.YtbhkmmdcdfjbkaaXnAll1
import Derived.Test.YtbhkmmdcdfjbkaaXnAll3
import Derived.Laws.StructEq
import Derived.Deep.DeepCutAuto
import Derived.Test.YtbhkmmdcdfjbkaaMtE
import Derived.Test.YtbhkmmdcdfjbkaaXnAll2
import Derived.Test.YtbhkmmdcdfjbkaaPageM
import Derived.ProofKit
import Derived.OpenShut
import Derived.ShutString
import Derived.ChangeOld
import Derived.Below
namespace Go.Proofs.Ytbhkmmdcdfjbkaa
open Go.RowKit

theorem Src.of_blocks' {w w' : World} {p : Nat} {a : Option Addr} {n c : Nat} {xs : List Int} {K : Int} (h : Src w p a n c xs K) (hp : w'.heap[p]? = w.heap[p]?) (ha : ∀ x, a = some x → 0 < n → w'.heap[x.block]? = w.heap[x.block]?) : Src w' p a n c xs K := by
  obtain ⟨h1, ⟨t, ht, ht0, htK⟩, ⟨s, hs, hs0, hs1⟩, h4, h5, h6, h7, h8⟩ := h
  refine ⟨(World.cell?_of_block (w := w) (a := ⟨p, 0, none⟩) hp).trans h1, ⟨t, (World.cell?_of_block (w := w) (a := ⟨p, 1, none⟩) hp).trans ht, ht0, htK⟩, ⟨s, (World.cell?_of_block (w := w) (a := ⟨p, 2, none⟩) hp).trans hs, hs0, hs1⟩, fun j => (World.frozen?_of_block (w := w) (a := ⟨p, j, none⟩) hp).trans (h4 j), ⟨h5.1, fun i hi => ?_⟩, h6, h7, h8⟩
  obtain ⟨b, off, e, hc⟩ := h5.2 i hi
  have hb : w'.heap[b]? = w.heap[b]? := ha _ e (by omega)
  exact ⟨b, off, e, (World.cell?_of_block (w := w) (a := ⟨b, off + i, none⟩) hb).trans hc⟩
theorem src_code' {w : World} {p : Nat} {a : Option Addr} {n c : Nat} {xs : List Int} {K : Int} (h : Src w p a n c xs K) : ∀ x, a = some x → 0 < n → x.block < w.heap.size := fun x hx hn => by
  obtain ⟨b, off, e, hc⟩ := h.row.2 0 hn
  rw [hx] at e
  cases e
  exact cell_lt hc
theorem Src.below {w w' : World} {p : Nat} {a : Option Addr} {n c : Nat} {xs : List Int} {K : Int} (h : Src w p a n c xs K) (hb : Below w.heap.size w w') : Src w' p a n c xs K :=
  h.of_blocks' (hb.block _ (cell_lt h.code)) (fun x hx hn => hb.block _ (src_code' h x hx hn))
theorem Src.grown {w w' : World} {p B : Nat} {a : Option Addr} {n c : Nat} {xs : List Int} {K : Int} {row : Option Nat} (h : Src w p a n c xs K) (hg : w.grownBy w' row) (hr : ∀ k, row = some k → B ≤ k) (hp : p < B) (ha : ∀ x, a = some x → 0 < n → x.block < B) : Src w' p a n c xs K :=
  h.of_blocks' (hg.block p (cell_lt h.code) (fun e => by have := hr p e.symm; omega)) (fun x hx hn => hg.block _ (src_code' h x hx hn) (fun e => by have := hr _ e.symm; have := ha x hx hn; omega))
end Go.Proofs.Ytbhkmmdcdfjbkaa

namespace Go.Proofs.Ytbhkmmdcdfjbkaa
open Go.RowKit

set_option maxHeartbeats 1000000 in
theorem chanceD_any (p : Nat) (a : Option Addr) (n c : Nat) (xs : List Int) (K m : Int) (w : World) (h : Src w p a n c xs K) (hK : K ≤ 800000) (hm : 1 ≤ m) (hm2 : m ≤ 100000) :
    Calls Try.prog 59 #[.pointer (some ⟨p, 0, none⟩), .int .i64 m] w fun e w' => ∃ x : Bool, e = .returned (.bool x) ∧ Wrote p w w' ∧ Src w' p a n c xs (K + 3) := by
  go_enter Try.func59, Try.ntmps59
  go_wp2_with fail
  refine (next_any p a n c xs K m w h (by omega) hm hm2).mono ?_
  rintro e w1 ⟨r, rfl, hr0, hr1, ho, hs⟩
  have HO := hide ho.wrote
  have HS := hide hs
  clear ho hs
  go_wp2_with fail
  go_ret
  exact ⟨_, rfl, unhide HO, unhide HS⟩
set_option maxHeartbeats 1000000 in
theorem keyD_any (p : Nat) (a : Option Addr) (n c : Nat) (xs : List Int) (K : Int) (w : World) (h : Src w p a n c xs K) (hK : K ≤ 700000) :
    Calls Try.prog 78 #[.pointer (some ⟨p, 0, none⟩)] w fun e w' => ∃ t : ByteArray, e = .returned (.string t) ∧ (keyK t = true ∧ t.size = 1) ∧ Wrote p w w' ∧ Src w' p a n c xs (K + 3) := by
  have hp := cell_lt h.code
  go_enter Try.func78, Try.ntmps78
  go_wp2_with fail
  refine (pick_any p w.heap.size 10 10 a n c xs K _ (h.alloc _) (by omega) (by omega) (by omega) (by omega) (fun t => keyK t = true ∧ t.size = 1) (fun i hi => ?_)).mono ?_
  · match i, hi with
    | 0, _ => exact ⟨_, by simp; rfl, by decide, rfl⟩
    | 1, _ => exact ⟨_, by simp; rfl, by decide, rfl⟩
    | 2, _ => exact ⟨_, by simp; rfl, by decide, rfl⟩
    | 3, _ => exact ⟨_, by simp; rfl, by decide, rfl⟩
    | 4, _ => exact ⟨_, by simp; rfl, by decide, rfl⟩
    | 5, _ => exact ⟨_, by simp; rfl, by decide, rfl⟩
    | 6, _ => exact ⟨_, by simp; rfl, by decide, rfl⟩
    | 7, _ => exact ⟨_, by simp; rfl, by decide, rfl⟩
    | 8, _ => exact ⟨_, by simp; rfl, by decide, rfl⟩
    | 9, _ => exact ⟨_, by simp; rfl, by decide, rfl⟩
  · rintro e w1 ⟨t, rfl, ht, ho, hs⟩
    have hb : Wrote p w w1 := (Wrote.alloc w p _).trans ho.wrote
    clear ho
    go_wp2_with fail
    go_ret
    exact ⟨t, rfl, ht, hb, hs⟩
set_option maxHeartbeats 1000000 in
theorem valueD_any (p : Nat) (a : Option Addr) (n c : Nat) (xs : List Int) (K : Int) (w : World) (h : Src w p a n c xs K) (hK : K ≤ 700000) :
    Calls Try.prog 61 #[.pointer (some ⟨p, 0, none⟩)] w fun e w' => ∃ t : ByteArray, e = .returned (.string t) ∧ valK t = true ∧ Wrote p w w' ∧ Src w' p a n c xs (K + 3) := by
  have hp := cell_lt h.code
  go_enter Try.func61, Try.ntmps61
  go_wp2_with fail
  refine (pick_any p w.heap.size 4 4 a n c xs K _ (h.alloc _) (by omega) (by omega) (by omega) (by omega) (fun t => valK t = true) (fun i hi => ?_)).mono ?_
  · match i, hi with
    | 0, _ => exact ⟨_, by simp; rfl, by decide⟩
    | 1, _ => exact ⟨_, by simp; rfl, by decide⟩
    | 2, _ => exact ⟨_, by simp; rfl, by decide⟩
    | 3, _ => exact ⟨_, by simp; rfl, by decide⟩
  · rintro e w1 ⟨t, rfl, ht, ho, hs⟩
    have hb : Wrote p w w1 := (Wrote.alloc w p _).trans ho.wrote
    clear ho
    go_wp2_with fail
    go_ret
    exact ⟨t, rfl, ht, hb, hs⟩
set_option maxHeartbeats 1000000 in
theorem longKeyD_any (p : Nat) (a : Option Addr) (n c : Nat) (xs : List Int) (K : Int) (w : World) (h : Src w p a n c xs K) (hK : K ≤ 600000) :
    Calls Try.prog 60 #[.pointer (some ⟨p, 0, none⟩)] w fun e w' => ∃ t : ByteArray, e = .returned (.string t) ∧ keyK t = true ∧ Wrote p w w' ∧ Src w' p a n c xs (K + 6) := by
  go_enter Try.func60, Try.ntmps60
  go_wp2_with fail
  refine (keyD_any p a n c xs K w h (by omega)).mono ?_
  rintro e w1 ⟨t, rfl, ht, hw1, hs1⟩
  have hp := cell_lt hs1.code
  have T1 := hide ht.2
  have W1 := hide hw1
  have S1 := hide hs1
  clear ht hw1 hs1
  go_wp2_with fail
  refine (pick_any p w1.heap.size 6 6 a n c xs (K + 3) _ ((unhide S1).alloc _) (by omega) (by omega) (by omega) (by omega) (fun t => t.size ≤ 1) (fun i hi => ?_)).mono ?_
  · match i, hi with
    | 0, _ => exact ⟨_, by simp; rfl, by decide⟩
    | 1, _ => exact ⟨_, by simp; rfl, by decide⟩
    | 2, _ => exact ⟨_, by simp; rfl, by decide⟩
    | 3, _ => exact ⟨_, by simp; rfl, by decide⟩
    | 4, _ => exact ⟨_, by simp; rfl, by decide⟩
    | 5, _ => exact ⟨_, by simp; rfl, by decide⟩
  · rintro e w2 ⟨u, rfl, hu, ho, hs⟩
    have hb : Wrote p w w2 := (unhide W1).trans ((Wrote.alloc w1 p _).trans ho.wrote)
    have HU := hide hu
    have HB := hide hb
    have HS := hide (hs.more (K' := K + 6) (by omega))
    have hcat : ∀ w', (Op.stringOp .add t u).run Try.prog w' = .ok (.string (t ++ u)) w' := fun w' => run_string_add_sum w' t u (by have := unhide T1; omega)
    clear ho hb hu hs
    go_wp2_with fail
    go_ret
    exact ⟨_, rfl, by have h1 := unhide T1; have h2 := unhide HU; unfold keyK; simp [h1]; omega, unhide HB, unhide HS⟩
theorem four_set {w : World} {b : Nat} {v0 v1 v2 v3 : Value} {t : TypeId} (h : w.heap[b]? = some (.cells #[v0, v1, v2, v3] t (0, 0))) : (w.cell? ⟨b, 0, none⟩ = some v0 ∧ w.cell? ⟨b, 1, none⟩ = some v1 ∧ w.cell? ⟨b, 2, none⟩ = some v2 ∧ w.cell? ⟨b, 3, none⟩ = some v3) ∧ w.frozen? ⟨b, 0, none⟩ = false ∧ w.frozen? ⟨b, 1, none⟩ = false ∧ w.frozen? ⟨b, 2, none⟩ = false ∧ w.frozen? ⟨b, 3, none⟩ = false := by
  refine ⟨⟨?_, ?_, ?_, ?_⟩, ?_, ?_, ?_, ?_⟩ <;> simp [World.cell?, World.frozen?, h]
theorem Wrote.loc {p b : Nat} {w w' : World} (h : Wrote p w w') (hb : w.heap.size ≤ b) (j : Nat) (v : Value) : Wrote p w (w'.setCell ⟨b, j, none⟩ v) :=
  ⟨h.os, h.tape, h.output, by simpa [World.setCell] using h.size, fun k hk hl => (Below.heap_setCell _ _ _ _ (by simp; omega)).trans (h.block k hk hl)⟩
theorem Src.set {w : World} {p b : Nat} {a : Option Addr} {n c : Nat} {xs : List Int} {K : Int} (h : Src w p a n c xs K) (hb : p ≠ b) (ha : ∀ x, a = some x → 0 < n → x.block ≠ b) (j : Nat) (v : Value) : Src (w.setCell ⟨b, j, none⟩ v) p a n c xs K :=
  h.of_blocks' (Below.heap_setCell _ _ _ _ hb) (fun x hx hn => Below.heap_setCell _ _ _ _ (ha x hx hn))
end Go.Proofs.Ytbhkmmdcdfjbkaa

namespace Go.Proofs.Ytbhkmmdcdfjbkaa
open Go.RowKit

theorem heap_ltD {w : World} {b : Nat} {o : Obj} (h : w.heap[b]? = some o) : b < w.heap.size := (Array.getElem?_eq_some_iff.1 h).1
theorem four_end {w w' : World} {p : Nat} {a : Option Addr} {n c : Nat} {xs : List Int} {K : Int} (hw : Wrote p w w') (hs : Src w' p a n c xs K) (hp : p < w.heap.size) (ha : ∀ x, a = some x → 0 < n → x.block < w.heap.size) (v0 v1 v2 v3 : Value) :
    Wrote p w ((((w'.setCell ⟨w.heap.size, 0, none⟩ v0).setCell ⟨w.heap.size, 1, none⟩ v1).setCell ⟨w.heap.size, 2, none⟩ v2).setCell ⟨w.heap.size, 3, none⟩ v3) ∧ Src ((((w'.setCell ⟨w.heap.size, 0, none⟩ v0).setCell ⟨w.heap.size, 1, none⟩ v1).setCell ⟨w.heap.size, 2, none⟩ v2).setCell ⟨w.heap.size, 3, none⟩ v3) p a n c xs K := by
  have h1 : p ≠ w.heap.size := by omega
  have h2 : ∀ x, a = some x → 0 < n → x.block ≠ w.heap.size := fun x hx hn => by have := ha x hx hn; omega
  exact ⟨(((hw.loc (Nat.le_refl _) 0 v0).loc (Nat.le_refl _) 1 v1).loc (Nat.le_refl _) 2 v2).loc (Nat.le_refl _) 3 v3, (((hs.set h1 h2 0 v0).set h1 h2 1 v1).set h1 h2 2 v2).set h1 h2 3 v3⟩
end Go.Proofs.Ytbhkmmdcdfjbkaa

namespace Go.Proofs.Ytbhkmmdcdfjbkaa
open Go.RowKit

theorem size_draw (p : Nat) (a : Option Addr) (n c : Nat) (xs : List Int) (K : Int) (m : Nat) (w : World) (h : Src w p a n c xs K) :
    Calls Try.prog 38 #[.pointer (some ⟨p, 0, none⟩), .int .i64 (m : Int)] w fun e w' => ∃ r : Nat, e = .returned (.int .i64 (r : Int)) ∧ r ≤ m ∧ w' = w := by
  have c0 := h.code
  have hb := h.bound
  have hq : Int.tdiv (n : Int) 12 = ((n / 12 : Nat) : Int) := by rw [Int.tdiv_eq_ediv_of_nonneg (by omega)]; omega
  have wr : IntKind.i64.wrap (1 + ((n / 12 : Nat) : Int)) = ((1 + n / 12 : Nat) : Int) := by rw [IntKind.wrap_i64]; omega
  clear h
  go_enter Try.func38, Try.ntmps38
  go_wp2_with fail
  · go_ret
    exact ⟨m, rfl, by omega, rfl⟩
  · go_ret
    exact ⟨1 + n / 12, by simp, by omega, rfl⟩
end Go.Proofs.Ytbhkmmdcdfjbkaa

namespace Go.Proofs.Ytbhkmmdcdfjbkaa
open Go.RowKit

/-- A put has a right key and a right value. -/
def okY (d : AcT) : Prop := d.kind = 1 → keyK d.key = true ∧ valK d.val = true
def yV (d : AcT) : Value := .agg #[.int .i64 d.kind, .int .i64 d.id, .string d.key, .string d.val]
set_option maxRecDepth 100000 in
set_option maxHeartbeats 4000000 in
theorem treeActD_any (p : Nat) (a : Option Addr) (n c : Nat) (xs : List Int) (K : Int) (m : Int) (w : World) (h : Src w p a n c xs K) (hK : K ≤ 500000) (hm : 1 ≤ m) (hm2 : m ≤ 1000) :
    Calls Try.prog 39 #[.pointer (some ⟨p, 0, none⟩), .int .i64 m] w fun e w' => ∃ d : AcT, e = .returned (yV d) ∧ okY d ∧ Wrote p w w' ∧ Src w' p a n c xs (K + 15) := by
  have hp := cell_lt h.code
  have ha := src_code' h
  have b0 : Below w.heap.size w (w.alloc (.cells #[.int .i64 0, .int .i64 0, .string ⟨#[]⟩, .string ⟨#[]⟩] 35)) := (Below.refl _ _).alloc (Nat.le_refl _) _
  have S := hide (h.alloc (.cells #[.int .i64 0, .int .i64 0, .string ⟨#[]⟩, .string ⟨#[]⟩] 35))
  have kz := heap_alloc_new w (.cells #[.int .i64 0, .int .i64 0, .string ⟨#[]⟩, .string ⟨#[]⟩] 35)
  have WW := hide (show Wrote p w (w.alloc (.cells #[.int .i64 0, .int .i64 0, .string ⟨#[]⟩, .string ⟨#[]⟩] 35)) from ⟨b0.os, b0.tape, b0.output, b0.size, fun k _ hl => b0.block k hl⟩)
  have KZ := hide kz
  have HA := hide ha
  have hlt := heap_ltD kz
  clear h b0 kz ha
  go_enter Try.func39, Try.ntmps39
  go_wp2_with fail
  generalize w.alloc (.cells #[.int .i64 0, .int .i64 0, .string ⟨#[]⟩, .string ⟨#[]⟩] 35) = W0 at *
  refine (next_any p a n c xs K 9 W0 (unhide S) (by omega) (by omega) (by omega)).mono ?_
  rintro e w1 ⟨r, rfl, hr0, hr1, ho, hs⟩
  have hw := ho.wrote
  replace KZ := hide ((hw.block w.heap.size (by omega) hlt).trans (unhide KZ))
  replace WW := hide ((unhide WW).trans hw)
  replace S := hide hs
  clear hw hs hlt
  have hlt := heap_ltD (unhide KZ)
  clear ho
  by_cases h0 : r = 0
  · subst h0
    go_wp2_with fail
    refine (next_any p a n c xs (K + 3) m w1 (unhide S) (by omega) (by omega) (by omega)).mono ?_
    rintro e w2 ⟨q, rfl, _, _, ho, hs⟩
    have hw := ho.wrote
    replace KZ := hide ((hw.block w.heap.size (by omega) hlt).trans (unhide KZ))
    replace WW := hide ((unhide WW).trans hw)
    replace S := hide hs
    clear hw hs hlt
    have hlt := heap_ltD (unhide KZ)
    clear ho
    obtain ⟨⟨c0, c1, c2, c3⟩, f0, f1, f2, f3⟩ := four_set (unhide KZ)
    have FE := hide (four_end (unhide WW) ((unhide S).more (K' := K + 15) (by omega)) hp (unhide HA) (.int .i64 3) (.int .i64 q) (.string ⟨#[]⟩) (.string ⟨#[]⟩))
    go_wp2_with fail
    refine bodyPost_ret (v := yV ⟨3, q, ⟨#[]⟩, ⟨#[]⟩⟩) (by simp [results, Try.results39, go_sem, yV, *] <;> rfl) rfl ?_
    exact ⟨⟨3, q, ⟨#[]⟩, ⟨#[]⟩⟩, rfl, fun h => absurd (show (3 : Int) = 1 from h) (by decide), (unhide FE).1, (unhide FE).2⟩
  by_cases h12 : r = 1 ∨ r = 2
  · rcases h12 with rfl | rfl
    · go_wp2_with fail
      refine (next_any p a n c xs (K + 3) m w1 (unhide S) (by omega) (by omega) (by omega)).mono ?_
      rintro e w2 ⟨q, rfl, _, _, ho, hs⟩
      have hw := ho.wrote
      replace KZ := hide ((hw.block w.heap.size (by omega) hlt).trans (unhide KZ))
      replace WW := hide ((unhide WW).trans hw)
      replace S := hide hs
      clear hw hs hlt
      have hlt := heap_ltD (unhide KZ)
      clear ho
      obtain ⟨⟨c0, c1, c2, c3⟩, f0, f1, f2, f3⟩ := four_set (unhide KZ)
      have FE := hide (four_end (unhide WW) ((unhide S).more (K' := K + 15) (by omega)) hp (unhide HA) (.int .i64 4) (.int .i64 q) (.string ⟨#[]⟩) (.string ⟨#[]⟩))
      go_wp2_with fail
      refine bodyPost_ret (v := yV ⟨4, q, ⟨#[]⟩, ⟨#[]⟩⟩) (by simp [results, Try.results39, go_sem, yV, *] <;> rfl) rfl ?_
      exact ⟨⟨4, q, ⟨#[]⟩, ⟨#[]⟩⟩, rfl, fun h => absurd (show (4 : Int) = 1 from h) (by decide), (unhide FE).1, (unhide FE).2⟩
    · go_wp2_with fail
      refine (next_any p a n c xs (K + 3) m w1 (unhide S) (by omega) (by omega) (by omega)).mono ?_
      rintro e w2 ⟨q, rfl, _, _, ho, hs⟩
      have hw := ho.wrote
      replace KZ := hide ((hw.block w.heap.size (by omega) hlt).trans (unhide KZ))
      replace WW := hide ((unhide WW).trans hw)
      replace S := hide hs
      clear hw hs hlt
      have hlt := heap_ltD (unhide KZ)
      clear ho
      obtain ⟨⟨c0, c1, c2, c3⟩, f0, f1, f2, f3⟩ := four_set (unhide KZ)
      have FE := hide (four_end (unhide WW) ((unhide S).more (K' := K + 15) (by omega)) hp (unhide HA) (.int .i64 4) (.int .i64 q) (.string ⟨#[]⟩) (.string ⟨#[]⟩))
      go_wp2_with fail
      refine bodyPost_ret (v := yV ⟨4, q, ⟨#[]⟩, ⟨#[]⟩⟩) (by simp [results, Try.results39, go_sem, yV, *] <;> rfl) rfl ?_
      exact ⟨⟨4, q, ⟨#[]⟩, ⟨#[]⟩⟩, rfl, fun h => absurd (show (4 : Int) = 1 from h) (by decide), (unhide FE).1, (unhide FE).2⟩
  have h1 : ¬ r = 1 := fun h => h12 (.inl h)
  have h2 : ¬ r = 2 := fun h => h12 (.inr h)
  clear h12
  by_cases h3 : r = 3
  · subst h3
    go_wp2_with fail
    refine (next_any p a n c xs (K + 3) m w1 (unhide S) (by omega) (by omega) (by omega)).mono ?_
    rintro e w2 ⟨q, rfl, _, _, ho, hs⟩
    have hw := ho.wrote
    replace KZ := hide ((hw.block w.heap.size (by omega) hlt).trans (unhide KZ))
    replace WW := hide ((unhide WW).trans hw)
    replace S := hide hs
    clear hw hs hlt
    have hlt := heap_ltD (unhide KZ)
    clear ho
    obtain ⟨⟨c0, c1, c2, c3⟩, f0, f1, f2, f3⟩ := four_set (unhide KZ)
    have FE := hide (four_end (unhide WW) ((unhide S).more (K' := K + 15) (by omega)) hp (unhide HA) (.int .i64 5) (.int .i64 q) (.string ⟨#[]⟩) (.string ⟨#[]⟩))
    go_wp2_with fail
    refine bodyPost_ret (v := yV ⟨5, q, ⟨#[]⟩, ⟨#[]⟩⟩) (by simp [results, Try.results39, go_sem, yV, *] <;> rfl) rfl ?_
    exact ⟨⟨5, q, ⟨#[]⟩, ⟨#[]⟩⟩, rfl, fun h => absurd (show (5 : Int) = 1 from h) (by decide), (unhide FE).1, (unhide FE).2⟩
  by_cases h4 : r = 4
  · subst h4
    go_wp2_with fail
    refine (chanceD_any p a n c xs (K + 3) 2 w1 (unhide S) (by omega) (by omega) (by omega)).mono ?_
    rintro e w2 ⟨x, rfl, hw, hs⟩
    replace KZ := hide ((hw.block w.heap.size (by omega) hlt).trans (unhide KZ))
    replace WW := hide ((unhide WW).trans hw)
    replace S := hide hs
    clear hw hs hlt
    have hlt := heap_ltD (unhide KZ)
    cases x with
    | true =>
      go_wp2_with fail
      refine (next_any p a n c xs (K + 3 + 3) m w2 (unhide S) (by omega) (by omega) (by omega)).mono ?_
      rintro e w3 ⟨q, rfl, _, _, ho, hs⟩
      have hw := ho.wrote
      replace KZ := hide ((hw.block w.heap.size (by omega) hlt).trans (unhide KZ))
      replace WW := hide ((unhide WW).trans hw)
      replace S := hide hs
      clear hw hs hlt
      have hlt := heap_ltD (unhide KZ)
      clear ho
      obtain ⟨⟨c0, c1, c2, c3⟩, f0, f1, f2, f3⟩ := four_set (unhide KZ)
      have FE := hide (four_end (unhide WW) ((unhide S).more (K' := K + 15) (by omega)) hp (unhide HA) (.int .i64 6) (.int .i64 q) (.string ⟨#[]⟩) (.string ⟨#[]⟩))
      go_wp2_with fail
      refine bodyPost_ret (v := yV ⟨6, q, ⟨#[]⟩, ⟨#[]⟩⟩) (by simp [results, Try.results39, go_sem, yV, *] <;> rfl) rfl ?_
      exact ⟨⟨6, q, ⟨#[]⟩, ⟨#[]⟩⟩, rfl, fun h => absurd (show (6 : Int) = 1 from h) (by decide), (unhide FE).1, (unhide FE).2⟩
    | false =>
      go_wp2_with fail
      refine (longKeyD_any p a n c xs (K + 3 + 3) w2 (unhide S) (by omega)).mono ?_
      rintro e w3 ⟨t, rfl, hk, hw, hs⟩
      have TK := hide hk
      clear hk
      replace KZ := hide ((hw.block w.heap.size (by omega) hlt).trans (unhide KZ))
      replace WW := hide ((unhide WW).trans hw)
      replace S := hide hs
      clear hw hs hlt
      have hlt := heap_ltD (unhide KZ)
      go_wp2_with fail
      refine (valueD_any p a n c xs (K + 3 + 3 + 6) w3 (unhide S) (by omega)).mono ?_
      rintro e w4 ⟨u, rfl, hv, hw, hs⟩
      have TV := hide hv
      clear hv
      replace KZ := hide ((hw.block w.heap.size (by omega) hlt).trans (unhide KZ))
      replace WW := hide ((unhide WW).trans hw)
      replace S := hide hs
      clear hw hs hlt
      have hlt := heap_ltD (unhide KZ)
      obtain ⟨⟨c0, c1, c2, c3⟩, f0, f1, f2, f3⟩ := four_set (unhide KZ)
      have FE := hide (four_end (unhide WW) ((unhide S).more (K' := K + 15) (by omega)) hp (unhide HA) (.int .i64 1) (.int .i64 0) (.string t) (.string u))
      go_wp2_with fail
      refine bodyPost_ret (v := yV ⟨1, 0, t, u⟩) (by simp [results, Try.results39, go_sem, yV, *] <;> rfl) rfl ?_
      exact ⟨⟨1, 0, t, u⟩, rfl, fun _ => ⟨unhide TK, unhide TV⟩, (unhide FE).1, (unhide FE).2⟩
  by_cases h5 : r = 5
  · subst h5
    go_wp2_with fail
    refine (longKeyD_any p a n c xs (K + 3) w1 (unhide S) (by omega)).mono ?_
    rintro e w2 ⟨t, rfl, hk, hw, hs⟩
    have TK := hide hk
    clear hk
    replace KZ := hide ((hw.block w.heap.size (by omega) hlt).trans (unhide KZ))
    replace WW := hide ((unhide WW).trans hw)
    replace S := hide hs
    clear hw hs hlt
    have hlt := heap_ltD (unhide KZ)
    clear TK
    obtain ⟨⟨c0, c1, c2, c3⟩, f0, f1, f2, f3⟩ := four_set (unhide KZ)
    have FE := hide (four_end (unhide WW) ((unhide S).more (K' := K + 15) (by omega)) hp (unhide HA) (.int .i64 2) (.int .i64 0) (.string t) (.string ⟨#[]⟩))
    go_wp2_with fail
    refine bodyPost_ret (v := yV ⟨2, 0, t, ⟨#[]⟩⟩) (by simp [results, Try.results39, go_sem, yV, *] <;> rfl) rfl ?_
    exact ⟨⟨2, 0, t, ⟨#[]⟩⟩, rfl, fun h => absurd (show (2 : Int) = 1 from h) (by decide), (unhide FE).1, (unhide FE).2⟩
  · go_wp2_with fail
    refine (longKeyD_any p a n c xs (K + 3) w1 (unhide S) (by omega)).mono ?_
    rintro e w2 ⟨t, rfl, hk, hw, hs⟩
    have TK := hide hk
    clear hk
    replace KZ := hide ((hw.block w.heap.size (by omega) hlt).trans (unhide KZ))
    replace WW := hide ((unhide WW).trans hw)
    replace S := hide hs
    clear hw hs hlt
    have hlt := heap_ltD (unhide KZ)
    go_wp2_with fail
    refine (valueD_any p a n c xs (K + 3 + 6) w2 (unhide S) (by omega)).mono ?_
    rintro e w3 ⟨u, rfl, hv, hw, hs⟩
    have TV := hide hv
    clear hv
    replace KZ := hide ((hw.block w.heap.size (by omega) hlt).trans (unhide KZ))
    replace WW := hide ((unhide WW).trans hw)
    replace S := hide hs
    clear hw hs hlt
    have hlt := heap_ltD (unhide KZ)
    obtain ⟨⟨c0, c1, c2, c3⟩, f0, f1, f2, f3⟩ := four_set (unhide KZ)
    have FE := hide (four_end (unhide WW) ((unhide S).more (K' := K + 15) (by omega)) hp (unhide HA) (.int .i64 1) (.int .i64 0) (.string t) (.string u))
    go_wp2_with fail
    refine bodyPost_ret (v := yV ⟨1, 0, t, u⟩) (by simp [results, Try.results39, go_sem, yV, *] <;> rfl) rfl ?_
    exact ⟨⟨1, 0, t, u⟩, rfl, fun _ => ⟨unhide TK, unhide TV⟩, (unhide FE).1, (unhide FE).2⟩
theorem Try.infoTa : (Try.prog.info? 35).map (fun i => (i.zero, i.size, i.bytes)) = some (some (.agg #[.int .i64 0, .int .i64 0, .string ByteArray.empty, .string ByteArray.empty]), 4, 48) := by kernel_rfl
/-- Acts under way. -/
structure TaSt (w wr : World) (p : Nat) (a : Option Addr) (n c : Nat) (xs : List Int) (K : Int) (v : Value) (ds : List AcT) : Prop where
  src : Src wr p a n c xs K
  own : YOwns wr w.heap.size v ds
  wro : Wrote p w wr
  hp : p < w.heap.size
  hc : ∀ x, a = some x → 0 < n → x.block < w.heap.size
  ok : ∀ d ∈ ds, okY d
theorem TaSt.wrote {w wr wr2 : World} {p : Nat} {a : Option Addr} {n c : Nat} {xs : List Int} {K K2 : Int} {v : Value} {ds : List AcT} (h : TaSt w wr p a n c xs K v ds) (hs2 : Src wr2 p a n c xs K2) (hw : Wrote p wr wr2) : TaSt w wr2 p a n c xs K2 v ds :=
  have hwb : WrB (fun i => i = p) wr wr2 := ⟨hw.os, hw.tape, hw.output, hw.size, fun k hk hp => hw.block k hp hk⟩
  ⟨hs2, rr_owns_wr h.own hwb (fun i hi e => by have := (World.ownsRow.lt h.own i hi).1; have := h.hp; omega), h.wro.trans hw, h.hp, h.hc, h.ok⟩
theorem TaSt.app {w wr : World} {p : Nat} {a : Option Addr} {n c : Nat} {xs : List Int} {K : Int} {v : Value} {ds : List AcT} {d : AcT} (h : TaSt w wr p a n c xs K v ds) (hz : ds.length ≤ 1000) (hv : v ≠ .slice none 0 0) (hd : okY d) :
    ∃ g c' w6, (Builtin.append_ #[32, 32] 32 #[v, .slice (some ⟨wr.heap.size, 0, none⟩) 1 1]).run Try.prog (wr.alloc (.cells #[.int .i64 d.kind, .int .i64 d.id, .string d.key, .string d.val] 35)) = .ok (.slice (some ⟨g, 0, none⟩) (ds.length + 1) c') w6 ∧ TaSt w w6 p a n c xs K (.slice (some ⟨g, 0, none⟩) (ds.length + 1) c') (ds ++ [d]) := by
  obtain ⟨i0, hi0, hz0, hz1, hz2⟩ := info_parts Try.infoTa
  have bA := (Below.refl wr.heap.size wr).alloc (Nat.le_refl _) (.cells #[.int .i64 d.kind, .int .i64 d.id, .string d.key, .string d.val] 35)
  have K4 := heap_alloc_new wr (.cells #[.int .i64 d.kind, .int .i64 d.id, .string d.key, .string d.val] 35)
  have oA := rb_ownsRow_below h.own bA
  have hsz := h.wro.size
  obtain ⟨v', w6, hr, ho, hgr, hnil⟩ := run_append_own (P := Try.prog) _ w.heap.size 32 32 35 i0 (.agg #[.int .i64 0, .int .i64 0, .string ByteArray.empty, .string ByteArray.empty]) 4 48 Try.underlying32 hi0 hz0 hz1 hz2 rfl (by decide) _ _ _ oA ⟨wr.heap.size, 0, none⟩ 1 1 [.int .i64 d.kind, .int .i64 d.id, .string d.key, .string d.val] rfl (fun j u hu => by
      rw [Addr.add_lit, (heap_at K4 _).1]
      simpa using hu) (by
      intro u hu
      simp only [List.mem_cons, List.not_mem_nil, or_false] at hu
      rcases hu with rfl | rfl | rfl | rfl <;> rfl) (by unfold maxLen; omega) (by omega) (Nat.le_trans hsz bA.size)
  have hw := WrB.of_grown hgr
  rcases ho.2 with ⟨e, _⟩ | ⟨g, cap, cur, e, hbg, _⟩
  · exact absurd (hnil.1 e).1 hv
  subst e
  refine ⟨g, cap, w6, hr, ⟨?_, ?_, ?_, h.hp, h.hc, fun x hx => (List.mem_append.1 hx).elim (h.ok x) fun e => by cases List.mem_singleton.1 e; exact hd⟩⟩
  · refine (h.src.alloc _).of_blocks' (hw.block p (by have := h.hp; have := bA.size; omega) (fun e => by have := (World.ownsRow.lt oA p e).1; have := h.hp; omega)) (fun x hx hn => hw.block x.block (by have := h.hc x hx hn; have := bA.size; omega) (fun e => by have := (World.ownsRow.lt oA _ e).1; have := h.hc x hx hn; omega))
  · unfold YOwns
    rw [ycs_append, List.length_append]
    exact ho
  · exact ⟨hw.os.trans (bA.os.trans h.wro.os), hw.tape.trans (bA.tape.trans h.wro.tape), hw.output.trans (bA.output.trans h.wro.output), Nat.le_trans hsz (Nat.le_trans bA.size hw.size), fun k hk hl => (hw.block k (Nat.lt_of_lt_of_le hl (Nat.le_trans hsz bA.size)) (fun e => by have := (World.ownsRow.lt oA k e).1; omega)).trans ((bA.block k (Nat.lt_of_lt_of_le hl hsz)).trans (h.wro.block k hk hl))⟩
def TaRes (p : Nat) (w : World) (e : Ending) (w' : World) : Prop := ∃ a' m' c' ds, e = .returned (.slice a' m' c') ∧ YRow w' a' m' ds ∧ ds.length ≤ 28 ∧ (∀ d ∈ ds, okY d) ∧ Wrote p w w'
theorem x_below {w w1 w2 : World} (h1 : Below w.heap.size w w1) (hw : Wrote w.heap.size w1 w2) : Below w.heap.size w w2 := h1.trans (hw.below (Nat.le_refl _) h1.size)
set_option maxRecDepth 100000 in
set_option maxHeartbeats 4000000 in
theorem treeActsD_any (p : Nat) (a : Option Addr) (n c : Nat) (xs : List Int) (K : Int) (w : World) (h : Src w p a n c xs K) (hK : K ≤ 100) :
    Calls Try.prog 16 #[.pointer (some ⟨p, 0, none⟩)] w fun e w' => TaRes p w e w' := by
  have hp := cell_lt h.code
  have ha := src_code' h
  have bA := (Below.refl w.heap.size w).alloc (Nat.le_refl _) (.cells #[] 35)
  have T0 := hide (show TaSt w (w.alloc (.cells #[] 35)) p a n c xs K (.slice (some ⟨w.heap.size, 0, none⟩) 0 0) [] from ⟨h.alloc _, nil_lit (w := w) 35 4, ⟨bA.os, bA.tape, bA.output, bA.size, fun k _ hl => bA.block k hl⟩, hp, ha, fun _ h => by cases h⟩)
  clear h bA ha
  go_enter Try.func16, Try.ntmps16
  go_wp2_with fail
  generalize w.alloc (.cells #[] 35) = W0 at *
  refine (size_draw p a n c xs K 24 W0 (unhide T0).src).mono ?_
  rintro e w1 ⟨r, rfl, hr, hw1⟩
  subst hw1
  have hrw : IntKind.i64.wrap ((r : Int) + 4) = (r : Int) + 4 := by rw [IntKind.wrap_i64]; omega
  go_wp2_with fail
  refine (next_any p a n c xs K ((r : Int) + 4) w1 (unhide T0).src (by omega) (by omega) (by omega)).mono ?_
  rintro e w2 ⟨q, rfl, hq0, hq1, ho, hs⟩
  have T1 := hide ((unhide T0).wrote hs ho.wrote)
  obtain ⟨qn, rfl⟩ : ∃ qn : Nat, q = (qn : Int) := ⟨q.toNat, by omega⟩
  have hqn : qn ≤ 28 := by omega
  clear T0 ho hs hq0 hq1 hrw hr
  generalize w.heap.size = g0 at *
  go_wp2_with fail
  go_loopw [3, 4] (fun ov iv wr => ∃ (k g cp L : Nat) (ds : List AcT), ov = .slice (some ⟨g, 0, none⟩) L cp ∧ iv = .int .i64 (k : Int) ∧ k + L ≤ 28 ∧ Hid (ds.length = L) ∧ Hid (TaSt w wr p a n c xs (K + 3 + 15 * (L : Int)) (.slice (some ⟨g, 0, none⟩) L cp) ds)) (fun _ iv _ => (intOf iv).toNat)
  case atStart => exact ⟨qn, g0, 0, 0, [], rfl, rfl, by omega, rfl, hide (by simpa using unhide T1)⟩
  case round =>
    clear T1
    obtain ⟨k, g, cp, L, ds, rfl, rfl, hkL, hL, hT⟩ := hrel
    by_cases hk : k = 0
    · subst hk
      have hLc : (L : Int) ≤ (cp : Int) := by
        rcases (unhide hT).own.2 with ⟨e, _⟩ | ⟨_, cap, _, e, _, _, hc, _⟩
        · cases e
        · injection e with _ e1 e2; omega
      have hmin : min (L : Int) 150 = (L : Int) := by omega
      have hYR := hide (yrow_of_owns (unhide hT).own)
      have hWr := hide (unhide hT).wro
      have hOk := hide (unhide hT).ok
      have hlt : ¬ ((150 : Int) < (L : Int)) := by omega
      have hle : (L : Int) ≤ 150 := by omega
      have htn : (L : Int).toNat = L := by omega
      have hge : (0 : Int) ≤ (L : Int) := by omega
      go_wp2_with fail
      go_ret
      have hl28 : ds.length ≤ 28 := by have := unhide hL; omega
      exact ⟨_, _, _, ds, rfl, unhide hYR, hl28, unhide hOk, unhide hWr⟩
    · obtain ⟨j, rfl⟩ : ∃ j, k = j + 1 := ⟨k - 1, by omega⟩
      obtain ⟨Q, hQ⟩ : ∃ Q, Q = L / 4 := ⟨_, rfl⟩
      have hQi : (L : Int) / 4 = (Q : Int) := by omega
      have hQt : (L : Int).tdiv 4 = (Q : Int) := by rw [Int.tdiv_eq_ediv_of_nonneg (by omega)]; exact hQi
      have hQw : IntKind.i64.wrap (1 + (Q : Int)) = 1 + (Q : Int) := by rw [IntKind.wrap_i64]; omega
      have hpos : (0 : Int) < ((j + 1 : Nat) : Int) := by omega
      clear hQ
      have hQ8 : Q ≤ 8 := by omega
      go_wp2_with fail
      refine (treeActD_any p a n c xs (K + 3 + 15 * (L : Int)) (1 + (Q : Int)) wr (unhide hT).src (by omega) (by omega) (by omega)).mono ?_
      rintro e w3 ⟨d, rfl, hok, hw, hs⟩
      have T2 := (unhide hT).wrote hs hw
      obtain ⟨g2, c2, w6, hr, T3⟩ := T2.app (d := d) (by have := unhide hL; omega) (fun e => by cases e) hok
      rw [unhide hL] at hr T3
      have eK : K + 3 + 15 * (L : Int) + 15 = K + 3 + 15 * ((L + 1 : Nat) : Int) := by omega
      rw [eK] at T3
      have T3h := hide T3
      clear eK
      have hL2 := hide (show (ds ++ [d]).length = L + 1 by rw [List.length_append, unhide hL]; rfl)
      clear hT T2 T3 hw hs hL hok
      unfold yV
      obtain ⟨dk, di, dy, dv⟩ := d
      simp only at hr
      go_wp2_with (at_builtin; refine wpAppE rfl _ _ 32 rfl _ _ (.slice (some ⟨g2, 0, none⟩) (L + 1) c2) w6 rfl rfl hr ?_)
      go_roundw
      case rel => exact ⟨j, g2, c2, L + 1, ds ++ [⟨dk, di, dy, dv⟩], rfl, by go_num, by omega, hL2, T3h⟩
      case measure => simp [intOf] <;> omega
set_option maxHeartbeats 1000000 in
theorem treeActsOf_ok (a : Option Addr) (n c : Nat) (xs : List Int) (w : World) (hr : Row w a n xs) (hby : ∀ i, i < n → 0 ≤ xs.getD i 0 ∧ xs.getD i 0 ≤ 255) (hn : n ≤ 1048576) :
    Calls Try.prog 6 #[.slice a n c] w fun e w' => ∃ a' m' c' ds, e = .returned (.slice a' m' c') ∧ YRow w' a' m' ds ∧ ds.length ≤ 28 ∧ (∀ d ∈ ds, okY d) ∧ Below w.heap.size w w' := by
  have R := hide hr
  have BY := hide hby
  clear hr hby
  go_enter Try.func6, Try.ntmps6
  go_wp2_with fail
  refine (source_any a n c xs w (unhide R) (unhide BY) hn).mono ?_
  rintro e w1 ⟨rfl, hs1, hb1, hz1⟩
  clear hz1
  go_wp2_with fail
  refine (treeActsD_any w.heap.size a n c xs 0 w1 hs1 (by omega)).mono ?_
  rintro e w2 ⟨a', m', c', ds, rfl, hy, hl, hok, hw⟩
  have RES := hide (show ∃ a'' m'' c'' ds, Ending.returned (Value.slice a' m' c') = .returned (.slice a'' m'' c'') ∧ YRow w2 a'' m'' ds ∧ ds.length ≤ 28 ∧ (∀ d ∈ ds, okY d) ∧ Below w.heap.size w w2 from ⟨a', m', c', ds, rfl, hy, hl, hok, x_below hb1 hw⟩)
  clear hy hl hok hw hb1 hs1
  go_wp2_with fail
  go_ret
  exact unhide RES
end Go.Proofs.Ytbhkmmdcdfjbkaa

namespace Go.Proofs.Ytbhkmmdcdfjbkaa
open Go.RowKit

/-- The put of an entry. -/
def putA (e : EntD) : AcT := ⟨1, 0, e.k, e.v⟩
/-- The tree that entries make. -/
def blt (es : List EntD) : RunS := runS (es.map putA)
def okEs (es : List EntD) : Prop := ∀ e ∈ es, keyK e.k = true ∧ valK e.v = true
theorem one_step {idx : List RefD} {p : PageD} {e : EntD} (t : Tre [some p] idx) (hk : keyK e.k = true) (hv : valK e.v = true) (hl : (enP p).length ≤ 31) : ∃ p', stepT [some p] idx (putA e) = ⟨[some p'], idx, 0, 0⟩ ∧ (enP p').length ≤ (enP p).length + 1 := by
  obtain ⟨q, hq⟩ := t.good.down e.k
  have h0 : (downT [some p] idx e.k).1 = 0 := by
    obtain ⟨k, e1, hk1⟩ := getP_lt hq.1
    have h1 : k < 1 := hk1
    have h2 : k = 0 := by omega
    rw [e1, h2]
    rfl
  have hg : getP [some p] 0 = some p := at_getP (ps := [some p]) (i := 0) rfl
  have hr := roomP_ok (t.ok 0 p hg)
  have hlen : (enP (addD (roomP p) (chgD (putA e)))).length ≤ (enP p).length + 1 := by
    rw [addD_en, hr.2.2.2.2.1]
    exact stepE_len _ _
  have e1 : (putA e).key = e.k := rfl
  have e2 : (putA e).val = e.v := rfl
  have hs : stepT [some p] idx (putA e) = chgT [some p] idx (putA e) := stepT_chg (Or.inl rfl)
  rw [hs]
  unfold chgT
  rw [e1, e2, if_neg (fun h => h.elim (fun h => by rw [hk] at h; cases h) (fun h => by rw [hv] at h; cases h)), h0, hg]
  simp only
  rw [if_neg (by omega)]
  exact ⟨_, rfl, hlen⟩
theorem blt_one {es : List EntD} (h : okEs es) (hl : es.length ≤ 32) : ∀ k, k ≤ es.length → ∃ p, (blt (es.take k)).ps = [some p] ∧ (enP p).length ≤ k
  | 0, _ => ⟨_, rfl, Nat.le_refl _⟩
  | k + 1, hk => by
    obtain ⟨p, hp, hpl⟩ := blt_one h hl k (by omega)
    have hm : (es.map putA).length = es.length := List.length_map _
    have e0 : (es.map putA).take k = (es.take k).map putA := List.map_take.symm
    have e1 : (es.map putA).take (k + 1) = (es.take (k + 1)).map putA := List.map_take.symm
    have t := (runS_tre (es.map putA) k (by omega)).1
    have hs := runS_take (es.map putA) k (by omega)
    rw [e0] at t
    rw [e0, e1, List.getElem_map] at hs
    unfold blt at hp ⊢
    rw [hp] at t hs
    have hm2 := h es[k] (List.getElem_mem _)
    obtain ⟨p', hst, hl'⟩ := one_step t hm2.1 hm2.2 (by omega)
    rw [hs, hst]
    exact ⟨p', rfl, by omega⟩
theorem blt_tre (es : List EntD) (k : Nat) (hk : k ≤ es.length) : Tre (blt (es.take k)).ps (blt (es.take k)).idx := by
  have t := (runS_tre (es.map putA) k (by rw [List.length_map]; exact hk)).1
  rw [← List.map_take] at t
  exact t
theorem blt_next (es : List EntD) {k : Nat} (hk : k < es.length) : (blt (es.take (k + 1))).ps = (stepT (blt (es.take k)).ps (blt (es.take k)).idx (putA es[k])).ps ∧ (blt (es.take (k + 1))).idx = (stepT (blt (es.take k)).ps (blt (es.take k)).idx (putA es[k])).idx := by
  have hs := runS_take (es.map putA) k (by rw [List.length_map]; exact hk)
  rw [← List.map_take, ← List.map_take, List.getElem_map] at hs
  unfold blt
  rw [hs]
  exact ⟨rfl, rfl⟩
theorem blt_code {es : List EntD} (h : okEs es) (hl : es.length ≤ 32) {k : Nat} (hk : k < es.length) : (stepT (blt (es.take k)).ps (blt (es.take k)).idx (putA es[k])).code = 0 := by
  obtain ⟨p, hp, hpl⟩ := blt_one h hl k (by omega)
  have t := blt_tre es k (by omega)
  have hm2 := h es[k] (List.getElem_mem _)
  rw [hp] at t ⊢
  obtain ⟨p', hst, _⟩ := one_step t hm2.1 hm2.2 (by omega)
  rw [hst]
theorem blt_ents {es : List EntD} (h : okEs es) (hl : es.length ≤ 32) {k : Nat} (hk : k < es.length) : treeE (blt (es.take (k + 1))).ps = putE (treeE (blt (es.take k)).ps) es[k] false := by
  have hm : k < (es.map putA).length := by rw [List.length_map]; exact hk
  have hr := run_ents (es.map putA) hm
  rw [← List.map_take, ← List.map_take, List.getElem_map] at hr
  have hc := blt_code h hl hk
  unfold blt at hc ⊢
  rw [hr, if_pos ⟨hc, by show (1 : Int) ≤ 2; decide⟩]
  rfl
theorem blt_snoc {es : List EntD} {e : EntD} (h : okEs (es ++ [e])) (hl : (es ++ [e]).length ≤ 32) : treeE (blt (es ++ [e])).ps = putE (treeE (blt es).ps) e false := by
  have hk : es.length < (es ++ [e]).length := by rw [List.length_append]; exact Nat.lt_succ_self _
  have h1 := blt_ents h hl hk
  rw [List.take_of_length_le (by rw [List.length_append]; exact Nat.le_refl _), List.take_left, List.getElem_concat_length rfl] at h1
  exact h1
/-- The entries of the puts among acts. -/
def enA (acts : List AcT) : List EntD := (acts.filter (fun a => a.kind == 1)).map (fun a => ⟨a.key, a.val⟩)
theorem enA_len (acts : List AcT) : (enA acts).length ≤ acts.length := by
  unfold enA
  rw [List.length_map]
  exact List.length_filter_le _ _
theorem enA_ok {acts : List AcT} (h : ∀ a ∈ acts, okY a) : okEs (enA acts) := fun e he => by
  unfold enA at he
  obtain ⟨a, ha, rfl⟩ := List.mem_map.1 he
  obtain ⟨h1, h2⟩ := List.mem_filter.1 ha
  exact h a h1 (by simpa using h2)
theorem enA_next (acts : List AcT) {k : Nat} (hk : k < acts.length) : enA (acts.take (k + 1)) = if acts[k].kind = 1 then enA (acts.take k) ++ [⟨acts[k].key, acts[k].val⟩] else enA (acts.take k) := by
  unfold enA
  rw [List.take_succ_eq_append_getElem hk, List.filter_append, List.map_append]
  split
  · rename_i h
    rw [List.filter_cons_of_pos (by simp [h])]
    rfl
  · rename_i h
    rw [List.filter_cons_of_neg (by simp [h])]
    simp
end Go.Proofs.Ytbhkmmdcdfjbkaa

namespace Go.Proofs.Ytbhkmmdcdfjbkaa
open Go.RowKit

/-- What fit leaves where the put is done. -/
def FitRes (B mb : Nat) (vp vi : Value) (r : StR) (w : World) (e : Ending) (w' : World) : Prop := ∃ qs' vp' vi', e = .returned (.bool true) ∧ TbF w' B mb qs' r.idx vp' vi' ∧ qsP qs' = r.ps ∧ WrB (TbW mb vp vi) w w'
set_option maxRecDepth 100000 in
set_option maxHeartbeats 4000000 in
theorem fit_any (B mb : Nat) (qs : List (Option (Nat × PpH))) (idx : List RefD) (vp vi : Value) (e : EntD) (w : World) (hF : TbF w B mb qs idx vp vi) (hB : B ≤ w.heap.size) (hT : Tre (qsP qs) idx) (h0 : (stepT (qsP qs) idx (putA e)).code = 0) :
    Calls Try.prog 19 #[.pointer (some ⟨mb, 0, none⟩), .agg #[.string e.k, .string e.v]] w fun e' w' => FitRes B mb vp vi (stepT (qsP qs) idx (putA e)) w e' w' := by
  obtain ⟨k, v⟩ := e
  have b1 := (Below.refl w.heap.size w).alloc (Nat.le_refl _) (.cells #[.string k, .string v] 37)
  have k1 := heap_alloc_new w (.cells #[.string k, .string v] 37)
  have F1 := hide (hF.below b1)
  have Z1 := hide (Nat.le_trans hB b1.size)
  obtain ⟨ST, hST⟩ : ∃ ST, ST = stepT (qsP qs) idx (putA ⟨k, v⟩) := ⟨_, rfl⟩
  rw [← hST] at h0 ⊢
  have EST := hide hST
  clear hF hB hST
  go_enter Try.func19, Try.ntmps19
  go_upto_region 1 with fail
  generalize w.alloc (.cells #[.string k, .string v] 37) = W1 at *
  have f0 := (heap_at k1 0).1
  have f1 := (heap_at k1 1).1
  have b2 := (Below.refl W1.heap.size W1).alloc (Nat.le_refl _) (.cells #[.int .i64 1, .int .i64 0, .string k, .string v] 35)
  have HS := hide (step_any B mb qs idx vp vi (putA ⟨k, v⟩) _ ((unhide F1).below b2) (Nat.le_trans (unhide Z1) b2.size) hT)
  have BB := hide (b1.trans (b2.mono b1.size))
  rw [← unhide EST] at HS
  unfold putA at HS
  simp only at HS
  clear EST b1 b2 F1 Z1 hT k1
  obtain ⟨P1, X1, T1, C1⟩ := ST
  simp only at h0
  subst h0
  go_wp2_with fail
  refine (unhide HS).mono ?_
  rintro e w3 hS3
  obtain ⟨qs', vp', vi', rfl, hF3, hQ3, hW3⟩ := TbRs.ahead (unhide BB) hS3
  have F3 := hide hF3
  have Q3 := hide hQ3
  have W3 := hide hW3
  clear hS3 hF3 hQ3 hW3
  go_wp2_with fail
  go_ret
  exact ⟨qs', vp', vi', rfl, unhide F3, unhide Q3, unhide W3⟩

/-- What BuildTree leaves. -/
def BtRes (es : List EntD) (w : World) (e : Ending) (w' : World) : Prop := ∃ a1 c1 a2 c2 a3 c3 hs, e = .returned (.tuple #[.agg #[.slice a1 (blt es).ps.length c1, .slice a2 (blt es).ps.length c2, .slice a3 (blt es).idx.length c3], .int .i64 0]) ∧ TsOwn w' w.heap.size a1 c1 a2 c2 a3 c3 (blt es).ps.length (blt es).idx.length hs (blt es).ps (blt es).idx ∧ Below w.heap.size w w'
set_option maxRecDepth 100000 in
set_option maxHeartbeats 8000000 in
theorem implBuildTree_any (a : Option Addr) (n c : Nat) (es : List EntD) (w : World) (hR : ERow w a n es) (hn : n ≤ 28) (hok : okEs es) :
    Calls Try.prog 8 #[.slice a n c] w fun e w' => BtRes es w e w' := by
  have L := hide hR.1
  have ZT : w.heap.size < (w.alloc (.cells #[.slice none 0 0, .slice none 0 0, .slice none 0 0] 30)).heap.size := by simp
  have b0 : Below w.heap.size w (w.alloc (.cells #[.slice none 0 0, .slice none 0 0, .slice none 0 0] 30)) := (Below.refl _ _).alloc (Nat.le_refl _) _
  have K0 := heap_alloc_new w (.cells #[.slice none 0 0, .slice none 0 0, .slice none 0 0] 30)
  have R := hide (hR.below b0)
  have OK := hide hok
  have B0 := hide b0
  clear hR hok b0
  go_enter Try.func8, Try.ntmps8
  go_wp2_with fail
  generalize w.alloc (.cells #[.slice none 0 0, .slice none 0 0, .slice none 0 0] 30) = W0 at *
  go_loopw [16] (fun iv wr => ∃ k : Nat, k ≤ n ∧ iv = .int .i64 k ∧ Hid (Below W0.heap.size W0 wr)) (fun iv _ => n - (intOf iv).toNat)
  case atStart => exact ⟨0, Nat.zero_le _, rfl, Below.refl _ _⟩
  case round =>
    obtain ⟨k, hk, rfl, hb⟩ := hrel
    by_cases hlt : k < n
    case pos =>
      have hka : k < es.length := by rw [unhide L]; exact hlt
      obtain ⟨b, off, rfl, d0, d1⟩ := ((unhide R).below (unhide hb)).2 k hka
      have hm := unhide OK es[k] (List.getElem_mem _)
      generalize es[k] = ek at *
      obtain ⟨ky, vl⟩ := ek
      simp only at d0 d1 hm
      have HB := hide ((unhide hb).trans (((Below.refl wr.heap.size wr).alloc (Nat.le_refl _) (.cells #[.string ky, .string vl] 37)).mono (unhide hb).size))
      have H1 := hm.1
      have H2 := hm.2
      clear hm
      go_upto_region 6 with fail
      have kz := heap_alloc_new wr (.cells #[.string ky, .string vl] 37)
      generalize wr.alloc (.cells #[.string ky, .string vl] 37) = W2 at *
      have f0 := (heap_at kz 0).1
      have f1 := (heap_at kz 1).1
      clear kz
      go_wp2_with fail
      refine (keyOK_any ky W2).mono ?_
      rintro e _ ⟨rfl, rfl⟩
      rw [H1]
      go_wp2_with fail
      refine (valueOK_any vl _).mono ?_
      rintro e _ ⟨rfl, rfl⟩
      rw [H2]
      go_wp2_with fail
      go_roundw
      case rel => exact ⟨k + 1, by omega, by go_num, HB⟩
      case measure => simp [intOf]; omega
    obtain rfl : k = n := by omega
    go_wp2_with fail
    refine (implNewTree_any wr).mono ?_
    rintro e w1 ⟨p, g, i, rfl, hT1, _, hb1⟩
    have HT := hide (newTable_any hT1)
    unfold tv at HT ⊢
    have b01 := (unhide B0).trans (((unhide hb).trans (hb1.mono (unhide hb).size)).mono (unhide B0).size)
    have z1 : w.heap.size < w1.heap.size := Nat.lt_of_lt_of_le ZT (Nat.le_trans (unhide hb).size hb1.size)
    have K1 := (hb1.block w.heap.size (Nat.lt_of_lt_of_le ZT (unhide hb).size)).trans (((unhide hb).block w.heap.size ZT).trans K0)
    have R1 := hide ((((unhide R).below (unhide hb)).below hb1))
    have B1 := hide b01
    clear hT1 hb1 hb b01 K0 B0 R ZT
    go_wp2_with fail
    refine (unhide HT).mono ?_
    rintro e w2 ⟨mb, qs0, vp0, vi0, rfl, hF0, hq0, hb2⟩
    have F0 := hide hF0
    have Q0 := hide hq0
    clear hF0 hq0 HT
    go_wp2_with fail
    go_loopw [39] (fun iv wr => ∃ (j : Nat) (qs : List (Option (Nat × PpH))) (vp vi : Value), j ≤ k ∧ iv = .int .i64 j ∧ Hid (TbF wr w1.heap.size mb qs (blt (es.take j)).idx vp vi) ∧ Hid (qsP qs = (blt (es.take j)).ps) ∧ Hid (Below w1.heap.size w1 wr)) (fun iv _ => k - (intOf iv).toNat)
    case atStart => exact ⟨0, qs0, vp0, vi0, Nat.zero_le _, rfl, F0, Q0, hb2⟩
    case round =>
      clear F0 Q0 hb2
      obtain ⟨j, qs, vp, vi, hj, rfl, hF, hQ, hb⟩ := hrel
      have hT := blt_tre es j (by rw [unhide L]; exact hj)
      by_cases hlt : j < k
      case neg =>
        obtain rfl : j = k := by omega
        have ht : es.take j = es := List.take_of_length_le (by rw [unhide L]; exact Nat.le_refl _)
        rw [ht] at hF hQ hT
        have hql : qs.length = (blt es).ps.length := by rw [← unhide hQ, qsP_len]
        have HTR := hide (tree_any w1.heap.size mb qs (blt es).idx vp vi wr (unhide hF) (by rw [unhide hQ]; exact hT))
        rw [hql] at HTR
        have GO := hide (show goneQ qs = (blt es).ps.map (·.isNone) by rw [← unhide hQ]; unfold goneQ qsP; rw [List.map_map]; congr 1; funext q; cases q <;> rfl)
        clear ht hql
        go_wp2_with fail
        refine (unhide HTR).mono ?_
        rintro e w5 ⟨a1, c1, a2, c2, a3, c3, hs, rfl, oT, hX, hb5⟩
        have K5 := (hb5.block w.heap.size (Nat.lt_of_lt_of_le z1 (unhide hb).size)).trans (((unhide hb).block w.heap.size z1).trans K1)
        have f0 := (heap_at K5 0).1
        have f1 := (heap_at K5 1).1
        have f2 := (heap_at K5 2).1
        have g0 := (heap_at K5 0).2
        have g1 := (heap_at K5 1).2
        have g2 := (heap_at K5 2).2
        have hw5 : w.heap.size < wr.heap.size := Nat.lt_of_lt_of_le z1 (unhide hb).size
        rw [unhide GO] at oT
        rw [unhide hQ] at hX
        have O1 := ((oT.set hw5 0 (.slice a1 (blt es).ps.length c1)).set hw5 1 (.slice a2 (blt es).ps.length c2)).set hw5 2 (.slice a3 (blt es).idx.length c3)
        have bR := (unhide B1).trans (((unhide hb).trans (hb5.mono (unhide hb).size)).mono (Nat.le_of_lt z1))
        have BB := (((bR.setCell (p := ⟨w.heap.size, 0, none⟩) (Nat.le_refl _) (.slice a1 (blt es).ps.length c1)).setCell (p := ⟨w.heap.size, 1, none⟩) (Nat.le_refl _) (.slice a2 (blt es).ps.length c2)).setCell (p := ⟨w.heap.size, 2, none⟩) (Nat.le_refl _) (.slice a3 (blt es).idx.length c3))
        have RES := hide (show BtRes es w (.returned (.tuple #[.agg #[.slice a1 (blt es).ps.length c1, .slice a2 (blt es).ps.length c2, .slice a3 (blt es).idx.length c3], .int .i64 0])) _ from ⟨a1, c1, a2, c2, a3, c3, hs, rfl, ⟨O1.dn (Nat.le_of_lt hw5), hX, rfl, rfl⟩, BB⟩)
        clear K5 O1 BB oT hX hb5 hF hQ bR hT
        go_wp2_with fail
        refine bodyPost_ret (v := .tuple #[.agg #[.slice a1 (blt es).ps.length c1, .slice a2 (blt es).ps.length c2, .slice a3 (blt es).idx.length c3], .int .i64 0]) (by simp [results, Try.results8, go_sem, *]) rfl ?_
        exact unhide RES
      have hka : j < es.length := by rw [unhide L]; exact hlt
      obtain ⟨b, off, rfl, d0, d1⟩ := ((unhide R1).below (unhide hb)).2 j hka
      have RK := hide (blt_next es hka)
      have HC := hide (blt_code (unhide OK) (by rw [unhide L]; omega) hka)
      generalize es[j] = ej at *
      have bx := (Below.refl wr.heap.size wr).alloc (Nat.le_refl _) (.cells #[.string ej.k, .string ej.v] 37)
      have FX := (unhide hF).below bx
      have HS := hide (fit_any w1.heap.size mb qs (blt (es.take j)).idx vp vi ej _ FX (Nat.le_trans (unhide hb).size bx.size) (by rw [unhide hQ]; exact hT) (by rw [unhide hQ]; exact unhide HC))
      rw [unhide hQ] at HS
      have GB := hide (fun i (hi : TbW mb vp vi i) => FX.own.geB hi)
      have BX := hide ((unhide hb).trans (bx.mono (unhide hb).size))
      clear FX bx HC
      obtain ⟨ky, vl⟩ := ej
      simp only at d0 d1 HS
      go_wp2_with fail
      refine (unhide HS).mono ?_
      rintro e w3 ⟨qs', vp', vi', rfl, hF3, hQ3, hW3⟩
      have B3 := hide ((unhide BX).trans (WrB.below hW3 (fun i hi => unhide GB i hi) (unhide BX).size))
      rw [← (unhide RK).2] at hF3
      rw [← (unhide RK).1] at hQ3
      have F3 := hide hF3
      have Q3 := hide hQ3
      clear hF3 hQ3 hW3 HS GB BX hF hQ RK hT d0 d1
      go_wp2_with fail
      go_roundw
      case rel => exact ⟨j + 1, qs', vp', vi', by omega, by go_num, F3, Q3, B3⟩
      case measure => simp [intOf]; omega
end Go.Proofs.Ytbhkmmdcdfjbkaa

namespace Go.Proofs.Ytbhkmmdcdfjbkaa
open Go.RowKit

/-- A tree under way: the tree's box and what it holds. -/
structure BgSt (W v : World) (tb : Nat) (a1 : Option Addr) (c1 : Nat) (a2 : Option Addr) (c2 : Nat) (a3 : Option Addr) (c3 n m : Nat) (hs : List PpH) (ps : List (Option PageD)) (idx : List RefD) : Prop where
  bel : Below W.heap.size W v
  own : TsOwn v W.heap.size a1 c1 a2 c2 a3 c3 n m hs ps idx
  box : v.heap[tb]? = some (.cells #[.slice a1 n c1, .slice a2 n c2, .slice a3 m c3] 30 (0, 0))
  tge : W.heap.size ≤ tb
theorem BgSt.below {W v v' : World} {tb : Nat} {a1 a2 a3 : Option Addr} {c1 c2 c3 n m : Nat} {hs : List PpH} {ps : List (Option PageD)} {idx : List RefD} (h : BgSt W v tb a1 c1 a2 c2 a3 c3 n m hs ps idx) (hb : Below v.heap.size v v') : BgSt W v' tb a1 c1 a2 c2 a3 c3 n m hs ps idx :=
  ⟨h.bel.trans (hb.mono h.bel.size), h.own.below hb, (hb.block tb (blk_lt h.box)).trans h.box, h.tge⟩
theorem put_chg (ps : List (Option PageD)) (idx : List RefD) (e : EntD) : stepT ps idx (putA e) = chgT ps idx (putA e) := stepT_chg (Or.inl rfl)
set_option maxRecDepth 100000 in
set_option maxHeartbeats 8000000 in
theorem specBuildTree_any (a : Option Addr) (N c : Nat) (es : List EntD) (w : World) (hR : ERow w a N es) (hn : N ≤ 28) (hok : okEs es) :
    Calls Try.prog 9 #[.slice a N c] w fun e w' => BtRes es w e w' := by
  have L := hide hR.1
  have ZT : w.heap.size < (w.alloc (.cells #[.slice none 0 0, .slice none 0 0, .slice none 0 0] 30)).heap.size := by simp
  have b0 : Below w.heap.size w (w.alloc (.cells #[.slice none 0 0, .slice none 0 0, .slice none 0 0] 30)) := (Below.refl _ _).alloc (Nat.le_refl _) _
  have K0 := heap_alloc_new w (.cells #[.slice none 0 0, .slice none 0 0, .slice none 0 0] 30)
  have R := hide (hR.below b0)
  have OK := hide hok
  have HN := hide (l05New_any (w.alloc (.cells #[.slice none 0 0, .slice none 0 0, .slice none 0 0] 30)))
  have BZ := hide b0
  have K0h := hide K0
  clear hR hok b0 K0
  go_enter Try.func9, Try.ntmps9
  go_wp2_with fail
  generalize w.alloc (.cells #[.slice none 0 0, .slice none 0 0, .slice none 0 0] 30) = W at *
  refine (unhide HN).mono ?_
  rintro e w1 ⟨p, g, i, rfl, hT1, ⟨hgp, hgg, hgi⟩, hb1⟩
  unfold tv
  have bT := (Below.refl w1.heap.size w1).alloc (Nat.le_refl _) (.cells #[.slice (some ⟨p, 0, none⟩) 1 1, .slice (some ⟨g, 0, none⟩) 1 1, .slice (some ⟨i, 0, none⟩) 1 1] 30)
  have kT := heap_alloc_new w1 (.cells #[.slice (some ⟨p, 0, none⟩) 1 1, .slice (some ⟨g, 0, none⟩) 1 1, .slice (some ⟨i, 0, none⟩) 1 1] 30)
  have S0 := hide (show BgSt W (w1.alloc (.cells #[.slice (some ⟨p, 0, none⟩) 1 1, .slice (some ⟨g, 0, none⟩) 1 1, .slice (some ⟨i, 0, none⟩) 1 1] 30)) w1.heap.size (some ⟨p, 0, none⟩) 1 (some ⟨g, 0, none⟩) 1 (some ⟨i, 0, none⟩) 1 1 1 [newH] (blt (es.take 0)).ps (blt (es.take 0)).idx from ⟨hb1.trans (bT.mono hb1.size), (new_own hT1 hgp hgg hgi).below bT, kT, hb1.size⟩)
  clear HN hT1 hb1 bT kT
  go_wp2_with fail
  generalize w1.alloc (.cells #[.slice (some ⟨p, 0, none⟩) 1 1, .slice (some ⟨g, 0, none⟩) 1 1, .slice (some ⟨i, 0, none⟩) 1 1] 30) = w2 at *
  generalize w1.heap.size = tb at *
  go_loopw [5] (fun iv wr => ∃ (k : Nat) (a1 : Option Addr) (c1 : Nat) (a2 : Option Addr) (c2 : Nat) (a3 : Option Addr) (c3 n m : Nat) (hs : List PpH), k ≤ N ∧ iv = .int .i64 k ∧ Hid (BgSt W wr tb a1 c1 a2 c2 a3 c3 n m hs (blt (es.take k)).ps (blt (es.take k)).idx)) (fun iv _ => N - (intOf iv).toNat)
  case atStart => exact ⟨0, _, _, _, _, _, _, _, _, _, Nat.zero_le _, rfl, S0⟩
  case round =>
    clear S0
    obtain ⟨k, a1, c1, a2, c2, a3, c3, n, m, hs, hk, rfl, hS⟩ := hrel
    have hT := blt_tre es k (by rw [unhide L]; exact hk)
    by_cases hlt : k < N
    case neg =>
      obtain rfl : k = N := by omega
      have ht : es.take k = es := List.take_of_length_le (by rw [unhide L]; exact Nat.le_refl _)
      rw [ht] at hS hT
      have t0 := (heap_at (unhide hS).box 0).1
      have t1 := (heap_at (unhide hS).box 1).1
      have t2 := (heap_at (unhide hS).box 2).1
      obtain rfl : n = (blt es).ps.length := (unhide hS).own.ln.symm
      obtain rfl : m = (blt es).idx.length := (unhide hS).own.li.symm
      have HON := hide (l05Own_any W.heap.size a1 c1 a2 c2 a3 c3 (blt es).ps.length (blt es).idx.length hs (blt es).ps (blt es).idx wr (unhide hS).own hT)
      have hwr := (unhide hS).bel.size
      have bR := (unhide BZ).trans ((unhide hS).bel.mono (unhide BZ).size)
      clear ht
      go_wp2_with fail
      refine (unhide HON).mono ?_
      rintro e w5 ⟨b1, k1, b2, k2, b3, k3, hs7, rfl, O7, hb7⟩
      have K5 := (hb7.block w.heap.size (Nat.lt_of_lt_of_le ZT hwr)).trans (((unhide hS).bel.block w.heap.size ZT).trans (unhide K0h))
      have f0 := (heap_at K5 0).1
      have f1 := (heap_at K5 1).1
      have f2 := (heap_at K5 2).1
      have g0 := (heap_at K5 0).2
      have g1 := (heap_at K5 1).2
      have g2 := (heap_at K5 2).2
      have hw5 : w.heap.size < wr.heap.size := Nat.lt_of_lt_of_le ZT hwr
      have OT := ((O7.set hw5 0 (.slice b1 (blt es).ps.length k1)).set hw5 1 (.slice b2 (blt es).ps.length k2)).set hw5 2 (.slice b3 (blt es).idx.length k3)
      have BB := ((((bR.trans (hb7.mono bR.size)).setCell (p := ⟨w.heap.size, 0, none⟩) (Nat.le_refl _) (.slice b1 (blt es).ps.length k1)).setCell (p := ⟨w.heap.size, 1, none⟩) (Nat.le_refl _) (.slice b2 (blt es).ps.length k2)).setCell (p := ⟨w.heap.size, 2, none⟩) (Nat.le_refl _) (.slice b3 (blt es).idx.length k3))
      have RES := hide (show BtRes es w (.returned (.tuple #[.agg #[.slice b1 (blt es).ps.length k1, .slice b2 (blt es).ps.length k2, .slice b3 (blt es).idx.length k3], .int .i64 0])) _ from ⟨b1, k1, b2, k2, b3, k3, hs7, rfl, OT.dn (Nat.le_of_lt hw5), BB⟩)
      clear K5 OT BB O7 hb7 hS hT HON bR t0 t1 t2
      go_wp2_with fail
      refine bodyPost_ret (v := .tuple #[.agg #[.slice b1 (blt es).ps.length k1, .slice b2 (blt es).ps.length k2, .slice b3 (blt es).idx.length k3], .int .i64 0]) (by simp [results, Try.results9, go_sem, *]) rfl ?_
      exact unhide RES
    have hka : k < es.length := by rw [unhide L]; exact hlt
    obtain ⟨b, off, rfl, d0, d1⟩ := ((unhide R).below (unhide hS).bel).2 k hka
    have hm := unhide OK es[k] (List.getElem_mem _)
    have RK := hide (blt_next es hka)
    have HC := hide (blt_code (unhide OK) (by rw [unhide L]; omega) hka)
    generalize es[k] = ek at *
    rw [put_chg] at RK HC
    obtain ⟨ky, vl⟩ := ek
    simp only at d0 d1 hm
    have SX := hide ((unhide hS).below ((Below.refl wr.heap.size wr).alloc (Nat.le_refl _) (.cells #[.string ky, .string vl] 37)))
    have kz := heap_alloc_new wr (.cells #[.string ky, .string vl] 37)
    have H1 := hm.1
    have H2 : ¬ (100 : Int) < (vl.size : Int) := by have := hm.2; unfold valK at this; simp only [decide_eq_true_eq] at this; omega
    have HH := hide hm
    clear hm hS
    go_upto_region 8 with fail
    generalize wr.alloc (.cells #[.string ky, .string vl] 37) = W2 at *
    have f0 := (heap_at kz 0).1
    have f1 := (heap_at kz 1).1
    have t0 := (heap_at (unhide SX).box 0).1
    have t1 := (heap_at (unhide SX).box 1).1
    have t2 := (heap_at (unhide SX).box 2).1
    have HS := hide (l05Change_any W.heap.size a1 c1 a2 c2 a3 c3 n m hs (blt (es.take k)).ps (blt (es.take k)).idx (putA ⟨ky, vl⟩) false W2 (unhide SX).own hT (unhide HH).1 (unhide HH).2 (Or.inl ⟨rfl, rfl⟩))
    obtain ⟨ST, hST⟩ : ∃ ST, ST = chgT (blt (es.take k)).ps (blt (es.take k)).idx (putA ⟨ky, vl⟩) := ⟨_, rfl⟩
    rw [← hST] at HS RK HC
    unfold putA at HS
    simp only at HS
    clear hST kz hT d0 d1 HH
    go_wp2_with fail
    refine (l04Key_any ky W2).mono ?_
    rintro e _ ⟨rfl, rfl⟩
    rw [H1]
    go_wp2_with fail
    refine (unhide HS).mono ?_
    rintro e w5 ⟨b1, n', k1, b2, k2, b3, m', k3, hs', told, rfl, hnew, hb⟩
    obtain ⟨-, hO5⟩ := hnew (unhide HC)
    have hC0 := unhide HC
    have bN := (Below.refl w5.heap.size w5).alloc (Nat.le_refl _) (.cells #[.slice b1 n' k1, .slice b2 n' k2, .slice b3 m' k3] 30)
    have kN := heap_alloc_new w5 (.cells #[.slice b1 n' k1, .slice b2 n' k2, .slice b3 m' k3] 30)
    have S5 := hide (((unhide SX).below hb).below bN)
    have O5 := hide ((hO5.below bN).dn (unhide SX).bel.size)
    have KN := hide kN
    clear hnew hO5 hb bN kN t0 t1 t2 f0 f1 SX
    obtain ⟨P5, X5, T5, C5⟩ := ST
    simp only at hC0 RK O5
    subst hC0
    go_upto_region 11 with fail
    generalize w5.alloc (.cells #[.slice b1 n' k1, .slice b2 n' k2, .slice b3 m' k3] 30) = v5 at *
    generalize w5.heap.size = nb at *
    have hW4 : WrB (fun i => i = tb) v5 (((v5.setCell ⟨tb, 0, none⟩ (.slice b1 n' k1)).setCell ⟨tb, 1, none⟩ (.slice b2 n' k2)).setCell ⟨tb, 2, none⟩ (.slice b3 m' k3)) := (set1_wr _ tb 0 _).seq ((set1_wr _ tb 1 _).seq (set1_wr _ tb 2 _))
    have hge := (unhide S5).tge
    have S6 := hide (show BgSt W (((v5.setCell ⟨tb, 0, none⟩ (.slice b1 n' k1)).setCell ⟨tb, 1, none⟩ (.slice b2 n' k2)).setCell ⟨tb, 2, none⟩ (.slice b3 m' k3)) tb b1 k1 b2 k2 b3 k3 n' m' hs' (blt (es.take (k + 1))).ps (blt (es.take (k + 1))).idx by
      rw [(unhide RK).1, (unhide RK).2]
      exact ⟨(unhide S5).bel.trans (WrB.below hW4 (fun i e => by rw [e]; exact hge) (unhide S5).bel.size), (unhide O5).keepT (unhide S5).box hW4, set3_hp (unhide S5).box _ _ _, hge⟩)
    have t0 := (heap_at (unhide S5).box 0).1
    have t1 := (heap_at (unhide S5).box 1).1
    have t2 := (heap_at (unhide S5).box 2).1
    have f0 := (heap_at (unhide S5).box 0).2
    have f1 := (heap_at (unhide S5).box 1).2
    have f2 := (heap_at (unhide S5).box 2).2
    have m0 := (heap_at (unhide KN) 0).1
    have m1 := (heap_at (unhide KN) 1).1
    have m2 := (heap_at (unhide KN) 2).1
    clear hW4 hge
    go_wp2_with fail
    go_roundw
    case rel => exact ⟨k + 1, _, _, _, _, _, _, _, _, _, by omega, by go_num, S6⟩
    case measure => simp [intOf]; omega
end Go.Proofs.Ytbhkmmdcdfjbkaa

namespace Go.Proofs.Ytbhkmmdcdfjbkaa
open Go.RowKit

theorem Try.entS : Try.prog.underlying 37 = some (.struct (Try.prog.fieldsOf 37)) := by kernel_rfl
theorem Try.entH : Try.prog.stoodInHeld 37 = false := by kernel_rfl
theorem Try.entG : Try.prog.eqGuardType Try.prog.depth 37 = false := by kernel_rfl
theorem Try.delS : Try.prog.underlying 86 = some (.struct (Try.prog.fieldsOf 86)) := by kernel_rfl
theorem Try.delH : Try.prog.stoodInHeld 86 = false := by kernel_rfl
theorem Try.delG : Try.prog.eqGuardType Try.prog.depth 86 = false := by kernel_rfl
set_option maxRecDepth 100000 in
theorem eqEntV (e : EntD) (w : World) : (Op.equalIn 10000 37 (.agg #[.string e.k, .string e.v]) (.agg #[.string e.k, .string e.v])).run Try.prog w = .ok true w := by
  rw [run_equalIn_struct w 9999 _ _ _ Try.entS Try.entH]
  simp [Program.fieldsOf, Try.underlying37, Op.eqFields, go_sem, Try.underlying9]
set_option maxRecDepth 100000 in
theorem eqDelV (d : DelD) (w : World) : (Op.equalIn 10000 86 (.agg #[.int .i64 d.kind, .string d.k, .string d.v, .int .i64 d.to]) (.agg #[.int .i64 d.kind, .string d.k, .string d.v, .int .i64 d.to])).run Try.prog w = .ok true w := by
  rw [run_equalIn_struct w 9999 _ _ _ Try.delS Try.delH]
  simp [Program.fieldsOf, Try.underlying86, Op.eqFields, go_sem, Try.underlying9, Try.underlying3]
set_option maxRecDepth 100000 in
set_option maxHeartbeats 2000000 in
theorem sameEntries_any (a a2 : Option Addr) (n c c2 : Nat) (es : List EntD) (w : World) (h1 : ERow w a n es) (h2 : ERow w a2 n es) (hn : n ≤ 1000) :
    Calls Try.prog 12 #[.slice a n c, .slice a2 n c2] w fun e w' => e = .returned (.bool true) ∧ Below w.heap.size w w' := by
  have R1 := hide h1
  have R2 := hide h2
  have LN := hide h1.1
  have q3 := Try.entG
  have q4 := eqEntV
  clear h1 h2
  go_enter Try.func12, Try.ntmps12
  go_wp2_with fail
  go_loopw [5] (fun i wr => ∃ k : Nat, k ≤ n ∧ i = .int .i64 k ∧ Below w.heap.size w wr) (fun i _ => n - (intOf i).toNat)
  case atStart => exact ⟨0, Nat.zero_le _, rfl, Below.refl _ _⟩
  case round =>
    obtain ⟨k, hk, rfl, hb⟩ := hrel
    by_cases hlt : k < n
    · have hl := unhide LN
      obtain ⟨b, off, rfl, c0, c1⟩ := ((unhide R1).below hb).2 k (by omega)
      obtain ⟨b', off', rfl, d0, d1⟩ := ((unhide R2).below hb).2 k (by omega)
      generalize es[k]'(by omega) = em at *
      clear hl
      go_wp2_with fail
      go_quiet (fail)
      go_wp2_with fail
      go_roundw
      case rel => exact ⟨k + 1, by omega, by go_num, bel_drewN hb _⟩
      case measure => simp [intOf]; omega
    · obtain rfl : k = n := by omega
      go_wp2_with fail
      go_ret
      exact ⟨rfl, hb⟩
theorem two_boxes (w : World) (cs ds : Array Value) (t u : TypeId) : ∃ W, W = (w.alloc (.cells cs t)).alloc (.cells ds u) ∧ Below w.heap.size w W ∧ W.heap[w.heap.size]? = some (.cells cs t (0, 0)) ∧ W.heap[w.heap.size + 1]? = some (.cells ds u (0, 0)) ∧ W.heap.size = w.heap.size + 2 := by
  refine ⟨_, rfl, ((Below.refl _ _).alloc (Nat.le_refl _) _).alloc (by simp) _, ?_, ?_, by simp⟩
  · have b2 : Below (w.heap.size + 1) (w.alloc (.cells cs t)) ((w.alloc (.cells cs t)).alloc (.cells ds u)) := (Below.refl _ _).alloc (by simp) _
    exact (b2.block w.heap.size (by omega)).trans (heap_alloc_new w _)
  · have := heap_alloc_new (w.alloc (.cells cs t)) (.cells ds u)
    simpa using this
theorem five_in {w : World} {b : Nat} {v0 v1 v2 v3 v4 : Value} {t : TypeId} (h : w.heap[b]? = some (.cells #[v0, v1, v2, v3, v4] t (0, 0))) : w.cell? ⟨b, 0, none⟩ = some v0 ∧ w.cell? ⟨b, 1, none⟩ = some v1 ∧ w.cell? ⟨b, 2, none⟩ = some v2 ∧ w.cell? ⟨b, 3, none⟩ = some v3 ∧ w.cell? ⟨b, 4, none⟩ = some v4 := by
  refine ⟨?_, ?_, ?_, ?_, ?_⟩ <;> simp [World.cell?, h]
theorem heap_lt2 {w : World} {b : Nat} {o : Obj} (h : w.heap[b]? = some o) : b < w.heap.size := (Array.getElem?_eq_some_iff.1 h).1
set_option maxRecDepth 100000 in
set_option maxHeartbeats 4000000 in
theorem samePage_any (lo hi : ByteArray) (r : Int) (a a' : Option Addr) (n c c' : Nat) (es : List EntD) (a2 a2' : Option Addr) (n2 c2 c2' : Nat) (ds : List DelD) (w : World) (h1 : ERow w a n es) (h2 : ERow w a' n es) (g1 : DRow w a2 n2 ds) (g2 : DRow w a2' n2 ds) (hn : n ≤ 1000) (hn2 : n2 ≤ 1000) :
    Calls Try.prog 28 #[pgv lo hi r a n c a2 n2 c2, pgv lo hi r a' n c' a2' n2 c2'] w fun e w' => e = .returned (.bool true) ∧ Below w.heap.size w w' := by
  obtain ⟨W0, hW0, hB0, k1, k2, hz⟩ := two_boxes w #[.string lo, .string hi, .int .i64 r, .slice a n c, .slice a2 n2 c2] #[.string lo, .string hi, .int .i64 r, .slice a' n c', .slice a2' n2 c2'] 51 51
  have R1 := hide (h1.below hB0)
  have R2 := hide (h2.below hB0)
  have D1 := hide (g1.below hB0)
  have D2 := hide (g2.below hB0)
  have LN := hide g1.1
  have q3 := Try.delG
  have q4 := eqDelV
  obtain ⟨p0, p1, p2, p3, p4⟩ := five_in k1
  obtain ⟨s0, s1, s2, s3, s4⟩ := five_in k2
  have K1 := hide k1
  have K2 := hide k2
  clear h1 h2 g1 g2 k1 k2
  go_enter Try.func28, Try.ntmps28
  go_upto_region 1 with fail
  rw [← hW0]
  clear hW0
  go_wp2_with fail
  refine (sameEntries_any a a' n c c' es W0 (unhide R1) (unhide R2) hn).mono ?_
  rintro e w1 ⟨rfl, hb1⟩
  replace D1 := hide ((unhide D1).below hb1)
  replace D2 := hide ((unhide D2).below hb1)
  replace K1 := hide ((hb1.block _ (heap_lt2 (unhide K1))).trans (unhide K1))
  replace K2 := hide ((hb1.block _ (heap_lt2 (unhide K2))).trans (unhide K2))
  have B1 := hB0.trans (hb1.mono hB0.size)
  clear p0 p1 p2 p3 p4 s0 s1 s2 s3 s4 hb1 hB0 R1 R2
  obtain ⟨p0, p1, p2, p3, p4⟩ := five_in (unhide K1)
  obtain ⟨s0, s1, s2, s3, s4⟩ := five_in (unhide K2)
  go_wp2_with fail
  clear p0 p1 p2 p3 s0 s1 s2 s3
  go_loopw [5] (fun i wr => ∃ k : Nat, k ≤ n2 ∧ i = .int .i64 k ∧ Below w1.heap.size w1 wr) (fun i _ => n2 - (intOf i).toNat)
  case atStart => exact ⟨0, Nat.zero_le _, rfl, Below.refl _ _⟩
  case round =>
    obtain ⟨k, hk, rfl, hb⟩ := hrel
    have x4 := (hb.cell (p := ⟨w.heap.size, 4, none⟩) (heap_lt2 (unhide K1))).trans p4
    have y4 := (hb.cell (p := ⟨w.heap.size + 1, 4, none⟩) (heap_lt2 (unhide K2))).trans s4
    by_cases hlt : k < n2
    · have hl := unhide LN
      obtain ⟨b, off, rfl, c0, c1, e2, e3⟩ := ((unhide D1).below hb).2 k (by omega)
      obtain ⟨b', off', rfl, d0, d1, f2, f3⟩ := ((unhide D2).below hb).2 k (by omega)
      generalize ds[k]'(by omega) = em at *
      clear hl
      go_wp2_with fail
      go_quiet (fail)
      go_wp2_with fail
      go_roundw
      case rel => exact ⟨k + 1, by omega, by go_num, bel_drewN hb _⟩
      case measure => simp [intOf]; omega
    · obtain rfl : k = n2 := by omega
      go_wp2_with fail
      go_ret
      exact ⟨rfl, B1.trans (hb.mono B1.size)⟩
end Go.Proofs.Ytbhkmmdcdfjbkaa

namespace Go.Proofs.Ytbhkmmdcdfjbkaa
open Go.RowKit

theorem Try.refS : Try.prog.underlying 53 = some (.struct (Try.prog.fieldsOf 53)) := by kernel_rfl
theorem Try.refH : Try.prog.stoodInHeld 53 = false := by kernel_rfl
theorem Try.refG : Try.prog.eqGuardType Try.prog.depth 53 = false := by kernel_rfl
set_option maxRecDepth 100000 in
theorem eqRefV (d : RefD) (w : World) : (Op.equalIn 10000 53 (.agg #[.string d.low, .int .i64 d.id]) (.agg #[.string d.low, .int .i64 d.id])).run Try.prog w = .ok true w := by
  rw [run_equalIn_struct w 9999 _ _ _ Try.refS Try.refH]
  simp [Program.fieldsOf, Try.underlying53, Op.eqFields, go_sem, Try.underlying9, Try.underlying3]
theorem xt_eqlb (x : Bool) (w : World) : (binOp .neq 4 (.bool x) (.bool x)).run Try.prog w = .ok (.bool false) w := by cases x <;> kernel_rfl
theorem three_in {w : World} {b : Nat} {v0 v1 v2 : Value} {t : TypeId} (h : w.heap[b]? = some (.cells #[v0, v1, v2] t (0, 0))) : w.cell? ⟨b, 0, none⟩ = some v0 ∧ w.cell? ⟨b, 1, none⟩ = some v1 ∧ w.cell? ⟨b, 2, none⟩ = some v2 := by
  refine ⟨?_, ?_, ?_⟩ <;> simp [World.cell?, h]
set_option maxRecDepth 100000 in
set_option maxHeartbeats 8000000 in
theorem sameTree_any (ap ap' : Option Addr) (np cp cp' : Nat) (ag ag' : Option Addr) (cg cg' : Nat) (ai ai' : Option Addr) (ni ci ci' : Nat) (hs hs' : List PpH) (gs : List Bool) (idx : List RefD) (w : World) (h1 : TrIn w ap np cp ag np cg ai ni hs gs idx) (h2 : TrIn w ap' np cp' ag' np cg' ai' ni hs' gs idx) (hX : hs'.map (·.X) = hs.map (·.X)) (hn : np ≤ 1000 ∧ ni ≤ 1000) (hl : ∀ h ∈ hs, h.s0.n ≤ 1000 ∧ h.s1.n ≤ 1000) :
    Calls Try.prog 11 #[.agg #[.slice ap np cp, .slice ag np cg, .slice ai ni ci], .agg #[.slice ap' np cp', .slice ag' np cg', .slice ai' ni ci']] w fun e w' => e = .returned (.bool true) ∧ Below w.heap.size w w' := by
  obtain ⟨W0, hW0, hB0, k1, k2, hz⟩ := two_boxes w #[.slice ap np cp, .slice ag np cg, .slice ai ni ci] #[.slice ap' np cp', .slice ag' np cg', .slice ai' ni ci'] 30 30
  have T1 := hide (h1.below hB0)
  have T2 := hide (h2.below hB0)
  have LP := hide h1.plen
  have LP2 := hide h2.plen
  have LG := hide h1.glen
  have LI := hide h1.ix.1
  have XX := hide hX
  have LL := hide hl
  have K1 := hide k1
  have K2 := hide k2
  obtain ⟨p0, p1, p2⟩ := three_in k1
  obtain ⟨s0, s1, s2⟩ := three_in k2
  obtain ⟨hn1, hn2⟩ := hn
  clear h1 h2 hX hl k1 k2 hz
  go_enter Try.func11, Try.ntmps11
  go_upto_region 1 with fail
  rw [← hW0]
  clear hW0
  go_wp2_with fail
  clear p0 p1 p2 s0 s1 s2
  go_loopw [5] (fun i wr => ∃ k : Nat, k ≤ np ∧ i = .int .i64 k ∧ Below W0.heap.size W0 wr) (fun i _ => np - (intOf i).toNat)
  case atStart => exact ⟨0, Nat.zero_le _, rfl, Below.refl _ _⟩
  case round =>
    obtain ⟨k, hk, rfl, hb⟩ := hrel
    have SB := hide (show ∀ u, Below W0.heap.size W0 u → (u.cell? ⟨w.heap.size, 0, none⟩ = some (.slice ap np cp) ∧ u.cell? ⟨w.heap.size, 1, none⟩ = some (.slice ag np cg) ∧ u.cell? ⟨w.heap.size, 2, none⟩ = some (.slice ai ni ci) ∧ u.cell? ⟨w.heap.size + 1, 0, none⟩ = some (.slice ap' np cp') ∧ u.cell? ⟨w.heap.size + 1, 1, none⟩ = some (.slice ag' np cg') ∧ u.cell? ⟨w.heap.size + 1, 2, none⟩ = some (.slice ai' ni ci')) from fun u hu => by
      obtain ⟨a0, a1, a2⟩ := three_in ((hu.block w.heap.size (heap_lt2 (unhide K1))).trans (unhide K1))
      obtain ⟨b0, b1, b2⟩ := three_in ((hu.block (w.heap.size + 1) (heap_lt2 (unhide K2))).trans (unhide K2))
      exact ⟨a0, a1, a2, b0, b1, b2⟩)
    obtain ⟨a0, a1, a2, b0, b1, b2⟩ := unhide SB wr hb
    by_cases hlt : k < np
    · have hk1 : k < hs.length := by rw [unhide LP]; exact hlt
      have hk2 : k < hs'.length := by rw [unhide LP2]; exact hlt
      have hkg : k < gs.length := by rw [unhide LG]; exact hlt
      have ex : hs'[k].X = hs[k].X := by
        have e := congrArg (·[k]?) (unhide XX)
        simp only [List.getElem?_map, List.getElem?_eq_getElem hk1, List.getElem?_eq_getElem hk2, Option.map_some] at e
        injection e
      have A := (unhide T1).below hb
      have B := (unhide T2).below hb
      obtain ⟨b, off, hab, hbl, c0, c1, c2, c3, c4⟩ := PpIn.cells A.pgs hk1
      obtain ⟨b', off', hab', hbl', d0, d1, d2, d3, d4⟩ := PpIn.cells B.pgs hk2
      obtain ⟨r1, r2⟩ := PpIn.sub A.pgs hk1
      obtain ⟨r3, r4⟩ := PpIn.sub B.pgs hk2
      have hl0 := unhide LL hs[k] (List.getElem_mem hk1)
      have n1 := rowC_len r1
      have n2 := rowC_len r2
      have n3 := rowC_len r3
      have n4 := rowC_len r4
      rw [ex] at d0 d1 d2 r3 r4 n3 n4
      have e3 : hs'[k].s0.n = hs[k].s0.n := by omega
      have e4 : hs'[k].s1.n = hs[k].s1.n := by omega
      have HP := hide (fun (u : World) (hu : Below wr.heap.size wr u) => samePage_any hs[k].X.lo hs[k].X.hi hs[k].X.r hs[k].s0.a hs'[k].s0.a hs[k].s0.n hs[k].s0.c hs'[k].s0.c hs[k].X.es hs[k].s1.a hs'[k].s1.a hs[k].s1.n hs[k].s1.c hs'[k].s1.c hs[k].X.ds u ((erow_C r1).below hu) (by have h := (erow_C r3).below hu; rw [e3] at h; exact h) ((drow_C r2).below hu) (by have h := (drow_C r4).below hu; rw [e4] at h; exact h) hl0.1 hl0.2)
      unfold pgv at HP
      rw [e3] at d3
      rw [e4] at d4
      obtain ⟨gb, go, hgb, f0⟩ := A.gone.at (j := k) (u := .bool gs[k]) (by rw [List.getElem?_map, List.getElem?_eq_getElem hkg]; rfl)
      obtain ⟨gb', go', hgb', f1⟩ := B.gone.at (j := k) (u := .bool gs[k]) (by rw [List.getElem?_map, List.getElem?_eq_getElem hkg]; rfl)
      subst hab hab' hgb hgb'
      have gl := cell_lt f0
      have gl' := cell_lt f1
      simp only at gl gl'
      have q4 := xt_eqlb
      generalize gs[k] = gk at *
      generalize hs[k] = x at *
      generalize hs'[k] = x' at *
      obtain ⟨X, ⟨sa, sn, sc⟩, ⟨da, dn, dc⟩⟩ := x
      obtain ⟨X', ⟨ta, tn, tc⟩, ⟨va, vn, vc⟩⟩ := x'
      simp only at c0 c1 c2 c3 c4 d0 d1 d2 d3 d4 HP
      have SK := hide (show ∀ u, Below wr.heap.size wr u → (u.cell? ⟨w.heap.size, 0, none⟩ = some (.slice (some ⟨b, off, none⟩) np cp) ∧ u.cell? ⟨w.heap.size, 1, none⟩ = some (.slice (some ⟨gb, go, none⟩) np cg) ∧ u.cell? ⟨w.heap.size, 2, none⟩ = some (.slice ai ni ci) ∧ u.cell? ⟨w.heap.size + 1, 0, none⟩ = some (.slice (some ⟨b', off', none⟩) np cp') ∧ u.cell? ⟨w.heap.size + 1, 1, none⟩ = some (.slice (some ⟨gb', go', none⟩) np cg') ∧ u.cell? ⟨w.heap.size + 1, 2, none⟩ = some (.slice ai' ni ci') ∧ u.cell? ⟨b, off + k * 5, none⟩ = some (.string X.lo) ∧ u.cell? ⟨b, off + k * 5 + 1, none⟩ = some (.string X.hi) ∧ u.cell? ⟨b, off + k * 5 + 2, none⟩ = some (.int .i64 X.r) ∧ u.cell? ⟨b, off + k * 5 + 3, none⟩ = some (.slice sa sn sc) ∧ u.cell? ⟨b, off + k * 5 + 4, none⟩ = some (.slice da dn dc) ∧ u.cell? ⟨b', off' + k * 5, none⟩ = some (.string X.lo) ∧ u.cell? ⟨b', off' + k * 5 + 1, none⟩ = some (.string X.hi) ∧ u.cell? ⟨b', off' + k * 5 + 2, none⟩ = some (.int .i64 X.r) ∧ u.cell? ⟨b', off' + k * 5 + 3, none⟩ = some (.slice ta sn tc) ∧ u.cell? ⟨b', off' + k * 5 + 4, none⟩ = some (.slice va dn vc) ∧ u.cell? ⟨gb, go + k, none⟩ = some (.bool gk) ∧ u.cell? ⟨gb', go' + k, none⟩ = some (.bool gk)) from fun u hu => by
        obtain ⟨a0, a1, a2, b0, b1, b2⟩ := unhide SB u (hb.trans (hu.mono hb.size))
        exact ⟨a0, a1, a2, b0, b1, b2, (hu.cell (p := ⟨b, off + k * 5, none⟩) hbl).trans c0, (hu.cell (p := ⟨b, off + k * 5 + 1, none⟩) hbl).trans c1, (hu.cell (p := ⟨b, off + k * 5 + 2, none⟩) hbl).trans c2, (hu.cell (p := ⟨b, off + k * 5 + 3, none⟩) hbl).trans c3, (hu.cell (p := ⟨b, off + k * 5 + 4, none⟩) hbl).trans c4, (hu.cell (p := ⟨b', off' + k * 5, none⟩) hbl').trans d0, (hu.cell (p := ⟨b', off' + k * 5 + 1, none⟩) hbl').trans d1, (hu.cell (p := ⟨b', off' + k * 5 + 2, none⟩) hbl').trans d2, (hu.cell (p := ⟨b', off' + k * 5 + 3, none⟩) hbl').trans d3, (hu.cell (p := ⟨b', off' + k * 5 + 4, none⟩) hbl').trans d4, (hu.cell (p := ⟨gb, go + k, none⟩) gl).trans f0, (hu.cell (p := ⟨gb', go' + k, none⟩) gl').trans f1⟩)
      clear ex A B r1 r2 r3 r4 n1 n2 n3 n4 e3 e4 hl0 hk1 hk2 hkg
      go_upto_region 6 with fail
      clear a0 a1 a2 b0 b1 b2 c0 c1 c2 c3 c4 d0 d1 d2 d3 d4 f0 f1
      refine wp_region_held_drew (S := (fun u => (u.cell? ⟨w.heap.size, 0, none⟩ = some (.slice (some ⟨b, off, none⟩) np cp) ∧ u.cell? ⟨w.heap.size, 1, none⟩ = some (.slice (some ⟨gb, go, none⟩) np cg) ∧ u.cell? ⟨w.heap.size, 2, none⟩ = some (.slice ai ni ci) ∧ u.cell? ⟨w.heap.size + 1, 0, none⟩ = some (.slice (some ⟨b', off', none⟩) np cp') ∧ u.cell? ⟨w.heap.size + 1, 1, none⟩ = some (.slice (some ⟨gb', go', none⟩) np cg') ∧ u.cell? ⟨w.heap.size + 1, 2, none⟩ = some (.slice ai' ni ci') ∧ u.cell? ⟨b, off + k * 5, none⟩ = some (.string X.lo) ∧ u.cell? ⟨b, off + k * 5 + 1, none⟩ = some (.string X.hi) ∧ u.cell? ⟨b, off + k * 5 + 2, none⟩ = some (.int .i64 X.r) ∧ u.cell? ⟨b, off + k * 5 + 3, none⟩ = some (.slice sa sn sc) ∧ u.cell? ⟨b, off + k * 5 + 4, none⟩ = some (.slice da dn dc) ∧ u.cell? ⟨b', off' + k * 5, none⟩ = some (.string X.lo) ∧ u.cell? ⟨b', off' + k * 5 + 1, none⟩ = some (.string X.hi) ∧ u.cell? ⟨b', off' + k * 5 + 2, none⟩ = some (.int .i64 X.r) ∧ u.cell? ⟨b', off' + k * 5 + 3, none⟩ = some (.slice ta sn tc) ∧ u.cell? ⟨b', off' + k * 5 + 4, none⟩ = some (.slice va dn vc) ∧ u.cell? ⟨gb, go + k, none⟩ = some (.bool gk) ∧ u.cell? ⟨gb', go' + k, none⟩ = some (.bool gk)))) (by kernel_rfl) (unhide SK _ ((Below.refl _ _).drew)) (fun hHeld => ?_)
      have Ds := hide (show Below wr.heap.size wr wr.drew from (Below.refl _ _).drew)
      generalize wr.drew = us at *
      refine anyH_take 0 39 (v := ?v1) rfl rfl (by kernel_rfl) (by kernel_rfl) (by kernel_rfl) (fun _ _ _ h => h) (by rfl) ?h1 hHeld ?r1
      case h1 => (intro w hSw; (try dsimp only at hSw); go_simp; try (with_reducible rfl))
      simp only [Act.put, List.setIfInBounds_toArray, List.set_cons_zero, List.set_cons_succ]
      refine anyH_take 1 40 (v := ?v2) rfl rfl (by kernel_rfl) (by kernel_rfl) (by kernel_rfl) (fun _ _ _ h => h) (by rfl) ?h2 hHeld ?r2
      case h2 => (intro w hSw; (try dsimp only at hSw); go_simp; try (with_reducible rfl))
      simp only [Act.put, List.setIfInBounds_toArray, List.set_cons_zero, List.set_cons_succ]
      refine anyH_take 2 41 (v := ?v3) rfl rfl (by kernel_rfl) (by kernel_rfl) (by kernel_rfl) (fun _ _ _ h => h) (by rfl) ?h3 hHeld ?r3
      case h3 => (intro w hSw; (try dsimp only at hSw); go_simp; try (with_reducible rfl))
      simp only [Act.put, List.setIfInBounds_toArray, List.set_cons_zero, List.set_cons_succ]
      refine anyH_take 3 42 (v := ?v4) rfl rfl (by kernel_rfl) (by kernel_rfl) (by kernel_rfl) (fun _ _ _ h => h) (by rfl) ?h4 hHeld ?r4
      case h4 => (intro w hSw; (try dsimp only at hSw); go_simp; try (with_reducible rfl))
      simp only [Act.put, List.setIfInBounds_toArray, List.set_cons_zero, List.set_cons_succ]
      refine anyH_take 4 43 (v := ?v5) rfl rfl (by kernel_rfl) (by kernel_rfl) (by kernel_rfl) (fun _ _ _ h => h) (by rfl) ?h5 hHeld ?r5
      case h5 => (intro w hSw; (try dsimp only at hSw); go_simp; try (with_reducible rfl))
      simp only [Act.put, List.setIfInBounds_toArray, List.set_cons_zero, List.set_cons_succ]
      refine anyH_take 5 44 (v := ?v6) rfl rfl (by kernel_rfl) (by kernel_rfl) (by kernel_rfl) (fun _ _ _ h => h) (by rfl) ?h6 hHeld ?r6
      case h6 => (intro w hSw; (try dsimp only at hSw); go_simp; try (with_reducible rfl))
      simp only [Act.put, List.setIfInBounds_toArray, List.set_cons_zero, List.set_cons_succ]
      refine anyH_take 6 45 (v := ?v7) rfl rfl (by kernel_rfl) (by kernel_rfl) (by kernel_rfl) (fun _ _ _ h => h) (by rfl) ?h7 hHeld ?r7
      case h7 => (intro w hSw; (try dsimp only at hSw); go_simp; try (with_reducible rfl))
      simp only [Act.put, List.setIfInBounds_toArray, List.set_cons_zero, List.set_cons_succ]
      refine anyH_take 7 46 (v := ?v8) rfl rfl (by kernel_rfl) (by kernel_rfl) (by kernel_rfl) (fun _ _ _ h => h) (by rfl) ?h8 hHeld ?r8
      case h8 => (intro w hSw; (try dsimp only at hSw); go_simp; try (with_reducible rfl))
      simp only [Act.put, List.setIfInBounds_toArray, List.set_cons_zero, List.set_cons_succ]
      refine anyH_take 8 47 (v := ?v9) rfl rfl (by kernel_rfl) (by kernel_rfl) (by kernel_rfl) (fun _ _ _ h => h) (by rfl) ?h9 hHeld ?r9
      case h9 => (intro w hSw; (try dsimp only at hSw); go_simp; try (with_reducible rfl))
      simp only [Act.put, List.setIfInBounds_toArray, List.set_cons_zero, List.set_cons_succ]
      refine anyH_take 9 48 (v := ?v10) rfl rfl (by kernel_rfl) (by kernel_rfl) (by kernel_rfl) (fun _ _ _ h => h) (by rfl) ?h10 hHeld ?r10
      case h10 => (intro w hSw; (try dsimp only at hSw); go_simp; try (with_reducible rfl))
      simp only [Act.put, List.setIfInBounds_toArray, List.set_cons_zero, List.set_cons_succ]
      refine wpAnyH_ready (rs := [10]) (by kernel_rfl) (by simp) ?_
      refine AllReadyH.cons rfl (fun K hK => ?_) AllReadyH.nil
      go_simp
      refine (unhide HP us (unhide Ds)).mono ?_
      rintro e u7 ⟨rfl, hb7⟩
      have D7 := hide ((unhide Ds).trans (hb7.mono (unhide Ds).size))
      clear hb7
      refine hK.out _ _ (unhide SK _ (unhide D7)) (fun hHeld => ?_)
      clear hK K
      refine anyH_take 11 50 (v := ?v11) rfl rfl (by kernel_rfl) (by kernel_rfl) (by kernel_rfl) (fun _ _ _ h => h) (by rfl) ?h11 hHeld ?r11
      case h11 => (intro w hSw; (try dsimp only at hSw); go_simp; try (with_reducible rfl))
      simp only [Act.put, List.setIfInBounds_toArray, List.set_cons_zero, List.set_cons_succ]
      refine anyH_take 12 51 (v := ?v12) rfl rfl (by kernel_rfl) (by kernel_rfl) (by kernel_rfl) (fun _ _ _ h => h) (by rfl) ?h12 hHeld ?r12
      case h12 => (intro w hSw; (try dsimp only at hSw); go_simp; try (with_reducible rfl))
      simp only [Act.put, List.setIfInBounds_toArray, List.set_cons_zero, List.set_cons_succ]
      refine anyH_take 13 52 (v := ?v13) rfl rfl (by kernel_rfl) (by kernel_rfl) (by kernel_rfl) (fun _ _ _ h => h) (by rfl) ?h13 hHeld ?r13
      case h13 => (intro w hSw; (try dsimp only at hSw); go_simp; try (with_reducible rfl))
      simp only [Act.put, List.setIfInBounds_toArray, List.set_cons_zero, List.set_cons_succ]
      refine anyH_take 14 53 (v := ?v14) rfl rfl (by kernel_rfl) (by kernel_rfl) (by kernel_rfl) (fun _ _ _ h => h) (by rfl) ?h14 hHeld ?r14
      case h14 => (intro w hSw; (try dsimp only at hSw); go_simp; try (with_reducible rfl))
      simp only [Act.put, List.setIfInBounds_toArray, List.set_cons_zero, List.set_cons_succ]
      refine anyH_take 15 54 (v := ?v15) rfl rfl (by kernel_rfl) (by kernel_rfl) (by kernel_rfl) (fun _ _ _ h => h) (by rfl) ?h15 hHeld ?r15
      case h15 => (intro w hSw; (try dsimp only at hSw); go_simp; try (with_reducible rfl))
      simp only [Act.put, List.setIfInBounds_toArray, List.set_cons_zero, List.set_cons_succ]
      refine anyH_take 16 55 (v := ?v16) rfl rfl (by kernel_rfl) (by kernel_rfl) (by kernel_rfl) (fun _ _ _ h => h) (by rfl) ?h16 hHeld ?r16
      case h16 => (intro w hSw; (try dsimp only at hSw); go_simp; try (with_reducible rfl))
      simp only [Act.put, List.setIfInBounds_toArray, List.set_cons_zero, List.set_cons_succ]
      refine anyH_take 17 56 (v := ?v17) rfl rfl (by kernel_rfl) (by kernel_rfl) (by kernel_rfl) (fun _ _ _ h => h) (by rfl) ?h17 hHeld ?r17
      case h17 => (intro w hSw; (try dsimp only at hSw); go_simp; try (with_reducible rfl))
      simp only [Act.put, List.setIfInBounds_toArray, List.set_cons_zero, List.set_cons_succ]
      refine anyH_take 18 57 (v := ?v18) rfl rfl (by kernel_rfl) (by kernel_rfl) (by kernel_rfl) (fun _ _ _ h => h) (by rfl) ?h18 hHeld ?r18
      case h18 => (intro w hSw; (try dsimp only at hSw); go_simp; try (with_reducible rfl))
      simp only [Act.put, List.setIfInBounds_toArray, List.set_cons_zero, List.set_cons_succ]
      refine anyH_take 19 58 (v := ?v19) rfl rfl (by kernel_rfl) (by kernel_rfl) (by kernel_rfl) (fun _ _ _ h => h) (by rfl) ?h19 hHeld ?r19
      case h19 => (intro w hSw; (try dsimp only at hSw); go_simp; try (with_reducible rfl))
      simp only [Act.put, List.setIfInBounds_toArray, List.set_cons_zero, List.set_cons_succ]
      refine anyH_take 20 59 (v := ?v20) rfl rfl (by kernel_rfl) (by kernel_rfl) (by kernel_rfl) (fun _ _ _ h => h) (by rfl) ?h20 hHeld ?r20
      case h20 => (intro w hSw; (try dsimp only at hSw); go_simp; try (with_reducible rfl))
      simp only [Act.put, List.setIfInBounds_toArray, List.set_cons_zero, List.set_cons_succ]
      refine anyH_take 21 60 (v := ?v21) rfl rfl (by kernel_rfl) (by kernel_rfl) (by kernel_rfl) (fun _ _ _ h => h) (by rfl) ?h21 hHeld ?r21
      case h21 => (intro w hSw; (try dsimp only at hSw); go_simp; try (with_reducible rfl))
      simp only [Act.put, List.setIfInBounds_toArray, List.set_cons_zero, List.set_cons_succ]
      refine anyH_take 22 61 (v := ?v22) rfl rfl (by kernel_rfl) (by kernel_rfl) (by kernel_rfl) (fun _ _ _ h => h) (by rfl) ?h22 hHeld ?r22
      case h22 => (intro w hSw; (try dsimp only at hSw); go_simp; try (with_reducible rfl))
      simp only [Act.put, List.setIfInBounds_toArray, List.set_cons_zero, List.set_cons_succ]
      refine anyH_take 23 62 (v := ?v23) rfl rfl (by kernel_rfl) (by kernel_rfl) (by kernel_rfl) (fun _ _ _ h => h) (by rfl) ?h23 hHeld ?r23
      case h23 => (intro w hSw; (try dsimp only at hSw); go_simp; try (with_reducible rfl))
      simp only [Act.put, List.setIfInBounds_toArray, List.set_cons_zero, List.set_cons_succ]
      refine anyH_take 24 63 (v := ?v24) rfl rfl (by kernel_rfl) (by kernel_rfl) (by kernel_rfl) (fun _ _ _ h => h) (by rfl) ?h24 hHeld ?r24
      case h24 => (intro w hSw; (try dsimp only at hSw); go_simp; try (with_reducible rfl))
      simp only [Act.put, List.setIfInBounds_toArray, List.set_cons_zero, List.set_cons_succ]
      refine wpAnyH_done (by kernel_rfl) ?_ _
      have bF := hb.trans ((unhide D7).mono hb.size)
      go_wp2_with fail
      go_roundw
      case rel => exact ⟨k + 1, by omega, by go_num, by first | exact bF | exact bel_drewN bF _⟩
      case measure => simp [intOf]; omega
    · obtain rfl : k = np := by omega
      go_wp2_with fail
      go_loopw [6] (fun i wx => ∃ k : Nat, k ≤ ni ∧ i = .int .i64 k ∧ Below W0.heap.size W0 wx) (fun i _ => ni - (intOf i).toNat)
      case atStart => exact ⟨0, Nat.zero_le _, rfl, hb⟩
      case round =>
        rename_i wx
        obtain ⟨k2, hk2, rfl, hb2⟩ := hrel
        clear a0 a1 a2 b0 b1 b2
        obtain ⟨a0, a1, a2, b0, b1, b2⟩ := unhide SB _ hb2
        by_cases hlt2 : k2 < ni
        · have hki : k2 < idx.length := by rw [unhide LI]; exact hlt2
          obtain ⟨b, off, rfl, c0, c1⟩ := ((unhide T1).below hb2).ix.2 k2 hki
          obtain ⟨b', off', rfl, d0, d1⟩ := ((unhide T2).below hb2).ix.2 k2 hki
          generalize idx[k2] = em at *
          have q3 := Try.refG
          have q4 := eqRefV
          clear hki hb
          go_wp2_with fail
          go_quiet (fail)
          go_wp2_with fail
          go_roundw
          case rel => exact ⟨k2 + 1, by omega, by go_num, bel_drewN hb2 _⟩
          case measure => simp [intOf]; omega
        · obtain rfl : k2 = ni := by omega
          go_wp2_with fail
          go_ret
          exact ⟨rfl, hB0.trans (hb2.mono hB0.size)⟩
end Go.Proofs.Ytbhkmmdcdfjbkaa

namespace Go.Proofs.Ytbhkmmdcdfjbkaa
open Go.RowKit

set_option maxRecDepth 100000 in
set_option maxHeartbeats 4000000 in
theorem lawPut_any (b off n c : Nat) (es : List EntD) (e : EntD) (gone : Bool) (w : World) (hE : ERow w (some ⟨b, off, none⟩) n es) (hn : n ≤ 1000) (hc : n ≤ c) :
    Calls Try.prog 7 #[.slice (some ⟨b, off, none⟩) n c, .agg #[.string e.k, .string e.v], .bool gone] w fun x w' => ∃ g cap, x = .returned (.slice (some ⟨g, 0, none⟩) (putE es e gone).length cap) ∧ EOwns w' w.heap.size (.slice (some ⟨g, 0, none⟩) (putE es e gone).length cap) (putE es e gone) ∧ Below w.heap.size w w' := by
  obtain ⟨i0, hi0, hz0, hz1, hz2⟩ := info_parts Try.infoEntry
  have LE := hide hE.1
  have RE := hide hE
  have PL := hide (pos_le es e.k)
  clear hE
  have b1 : Below w.heap.size w ((w.alloc (.cells #[.string e.k, .string e.v] 37)).alloc (.cells #[] 37)) := ((Below.refl _ _).alloc (Nat.le_refl _) _).alloc (by simp) _
  have O0 := hide (show EOwns ((w.alloc (.cells #[.string e.k, .string e.v] 37)).alloc (.cells #[] 37)) (w.heap.size + 1) (.slice (some ⟨w.heap.size + 1, 0, none⟩) 0 0) [] by
    have := World.ownsRow_lit (base := w.heap.size + 1) (e := 37) (size := 2) (w.alloc (.cells #[.string e.k, .string e.v] 37)) #[] 0 (by simp) (by unfold maxLen; simp) rfl
    simp at this
    exact this)
  go_enter Try.func7, Try.ntmps7
  go_wp2_with fail
  go_loopw [7, 8] (fun v i wr => ∃ (j g cap : Nat), i = .int .i64 (j : Int) ∧ v = .slice (some ⟨g, 0, none⟩) j cap ∧ j ≤ pos es e.k ∧ Hid (EOwns wr (w.heap.size + 1) (.slice (some ⟨g, 0, none⟩) j cap) (es.take j)) ∧ Hid (Below (w.heap.size + 1) ((w.alloc (.cells #[.string e.k, .string e.v] 37)).alloc (.cells #[] 37)) wr)) (fun _ i _ => n - (intOf i).toNat)
  case atStart => exact ⟨0, w.heap.size + 1, 0, rfl, rfl, Nat.zero_le _, unhide O0, Below.refl _ _⟩
  case round =>
    clear O0
    obtain ⟨j, g, cap, rfl, rfl, hj, hO, hB⟩ := hrel
    have BW := hide (b1.trans ((unhide hB).mono (by omega)))
    have e0 : wr.cell? ⟨w.heap.size, 0, none⟩ = some (.string e.k) := ((unhide hB).cell (p := ⟨w.heap.size, 0, none⟩) (by simp)).trans (by simp)
    have e1 : wr.cell? ⟨w.heap.size, 1, none⟩ = some (.string e.v) := ((unhide hB).cell (p := ⟨w.heap.size, 1, none⟩) (by simp)).trans (by simp)
    by_cases hlt : j < pos es e.k
    · have hje : j < es.length := by have := unhide PL; omega
      have hjn : j < n := by have := unhide LE; omega
      obtain ⟨b', off', he, d0, d1⟩ := ((unhide RE).below (unhide BW)).2 j hje
      injection he with he
      injection he with he1 he2
      subst he1 he2
      have hl := less_at hje hlt
      have TS := hide (takeG_snoc es j hje)
      have HTL := hide (show (es.take j).length = j by rw [List.length_take]; omega)
      generalize es[j] = em at *
      go_wp2_with fail
      go_quiet (fail)
      have O2 : wr.ownsRow (w.heap.size + 1) 37 2 (.slice (some ⟨g, 0, none⟩) j cap) j (ecs (es.take j)) := by have := unhide hO; unfold EOwns at this; rwa [unhide HTL] at this
      have hsz : w.heap.size + 1 ≤ wr.heap.size := by have := (unhide hB).size; simp at this; omega
      go_wp2_with (at_builtin; refine wpList_append_own _ rfl _ _ 23 rfl (w.heap.size + 1) 37 i0 (.agg #[.string ByteArray.empty, .string ByteArray.empty]) 2 32 Try.underlying23 hi0 hz0 hz1 hz2 rfl (by decide) _ _ _ rfl (World.ownsRow.alloc O2 _) ⟨wr.heap.size, 0, none⟩ 1 1 [.string em.k, .string em.v] rfl rfl (cells_new (vs := [.string em.k, .string em.v])) (by intro u hu; simp at hu; rcases hu with rfl | rfl <;> rfl) (by unfold maxLen; omega) (by omega) (by simp; omega) ?_)
      intro v3 w3 h1 h2 h3
      have O3 : EOwns w3 (w.heap.size + 1) v3 (es.take (j + 1)) := by
        rw [unhide TS]
        refine eapp ?_
        rw [unhide HTL]
        exact h1
      obtain ⟨g3, cap3, rfl, hg3⟩ := eowns_some O3 (fun h => by subst h; simp at h3)
      have hl3 : (es.take (j + 1)).length = j + 1 := by rw [List.length_take]; omega
      rw [hl3] at O3 ⊢
      have O4 := hide O3
      have B4 := hide (((bel_drewN (unhide hB) _).alloc hsz _).grown h2 (by simp; omega) (fun k hk => (O2.lt k hk).1))
      clear h1 h2 h3 O3 O2
      go_wp2_with fail
      go_roundw
      case rel => exact ⟨j + 1, g3, cap3, by go_num, rfl, by omega, unhide O4, unhide B4⟩
      case measure => simp [intOf]; omega
    · obtain rfl : j = pos es e.k := by omega
      have HTL := hide (show (es.take (pos es e.k)).length = pos es e.k by have := unhide PL; rw [List.length_take]; omega)
      have hsz : w.heap.size + 1 ≤ wr.heap.size := by have := (unhide hB).size; simp at this; omega
      have O2 := hide (show wr.ownsRow (w.heap.size + 1) 37 2 (.slice (some ⟨g, 0, none⟩) (pos es e.k) cap) (pos es e.k) (ecs (es.take (pos es e.k))) by have := unhide hO; unfold EOwns at this; rwa [unhide HTL] at this)
      by_cases hpn : pos es e.k < es.length
      · obtain ⟨b', off', he, d0, d1⟩ := ((unhide RE).below (unhide BW)).2 _ hpn
        injection he with he
        injection he with he1 he2
        subst he1 he2
        have hl : Op.bytesLess es[pos es e.k].k.toList e.k.toList = false := pos_at es e.k hpn
        have hjn : pos es e.k < n := by have := unhide LE; omega
        have hbl : b < w.heap.size := by obtain ⟨b2, o2, h2, c2, _⟩ := (unhide RE).2 _ hpn; injection h2 with h2; injection h2 with h2 _; subst h2; exact cell_lt c2
        have FD := hide (show (es[pos es e.k].k.toList == e.k.toList) = found es e.k by unfold found; rw [List.getElem?_eq_getElem hpn])
        generalize hp : pos es e.k = p at *
        go_wp2_with fail
        go_quiet (fail)
        have O2q := hide (show (wr.drewN nq).ownsRow (w.heap.size + 1) 37 2 (.slice (some ⟨g, 0, none⟩) p cap) p (ecs (es.take p)) from unhide O2)
        have B2q := hide (bel_drewN (unhide hB) nq)
        have e0q : (wr.drewN nq).cell? ⟨w.heap.size, 0, none⟩ = some (.string e.k) := e0
        have e1q : (wr.drewN nq).cell? ⟨w.heap.size, 1, none⟩ = some (.string e.v) := e1
        have hszq : w.heap.size + 1 ≤ (wr.drewN nq).heap.size := hsz
        have d0q : (wr.drewN nq).cell? ⟨b, off + p * 2, none⟩ = some (.string es[p].k) := d0
        clear O2 hO hB BW e0 e1 hsz d0 d1
        generalize wr.drewN nq = wq at *
        cases gone with
        | true =>
          have OX := hide (unhide O2q)
          have BY := hide (unhide B2q)
          have BX := hide (b1.trans ((unhide B2q).mono (by omega)))
          clear O2q B2q e1q
          by_cases hf : found es e.k = true
          · have hfe : (es[p].k.toList == e.k.toList) = true := by rw [unhide FD]; exact hf
            have ST := hide (show putE es e true = (es.take p) ++ es.drop (p + 1) by unfold putE stepE; rw [if_neg (by simp), hp, hf]; simp)
            go_wp2_with fail
            go_quiet (fail)
            obtain ⟨A, hA, hsrc⟩ := drop_src (k := (p + 1)) ((unhide RE).below (unhide BX)) hc
            have HN := hide (show (ecs (es.drop (p + 1))).length = (n - (p + 1)) * 2 by rw [ecs_len, List.length_drop, unhide LE])
            have hsX : w.heap.size + 1 ≤ wq.heap.size := by have := (unhide BY).size; simp at this; omega
            go_wp2_with (at_builtin; refine wpList_append_own _ rfl _ _ 23 rfl (w.heap.size + 1) 37 i0 (.agg #[.string ByteArray.empty, .string ByteArray.empty]) 2 32 Try.underlying23 hi0 hz0 hz1 hz2 rfl (by decide) _ _ _ rfl (show (wq.drewN nq).ownsRow (w.heap.size + 1) 37 2 (.slice (some ⟨g, 0, none⟩) p cap) p (ecs (es.take p)) from unhide OX) A (n - (p + 1)) (c - (p + 1)) (ecs (es.drop (p + 1))) rfl (unhide HN) (unhide hsrc) (ecs_one _) (by unfold maxLen; omega) (by omega) hsX ?_)
            intro v5 w5 h1 h2 h3
            have O5 : EOwns w5 w.heap.size v5 (putE es e true) := by
              rw [unhide ST]
              refine ownsRow_base2 ?_ (Nat.le_succ _)
              rw [ecs_append, List.length_append, List.length_drop, unhide LE, unhide HTL]
              exact h1
            obtain ⟨g5, cap5, rfl, _⟩ := eowns_some O5 (fun h => by first | exact h3 h | (subst h; simp at h3))
            have O6 := hide O5
            have B6 := hide (b1.trans (((bel_drewN (unhide BY) nq).grown h2 hsX (fun k hk => (World.ownsRow.lt (show (wq.drewN nq).ownsRow (w.heap.size + 1) 37 2 (.slice (some ⟨g, 0, none⟩) p cap) p (ecs (es.take p)) from unhide OX) k hk).1)).mono (by omega)))
            clear h1 h2 h3 O5
            go_wp2_with fail
            go_ret
            exact ⟨g5, cap5, rfl, unhide O6, unhide B6⟩
          · have hfe : (es[p].k.toList == e.k.toList) = false := by rw [unhide FD]; simpa using hf
            have hf : found es e.k = false := by simpa using hf
            have ST := hide (show putE es e true = (es.take p) ++ es.drop p by unfold putE stepE; rw [if_neg (by simp), hp, hf]; simp)
            go_wp2_with fail
            go_quiet (fail)
            obtain ⟨A, hA, hsrc⟩ := drop_src (k := p) ((unhide RE).below (unhide BX)) hc
            have HN := hide (show (ecs (es.drop p)).length = (n - p) * 2 by rw [ecs_len, List.length_drop, unhide LE])
            have hsX : w.heap.size + 1 ≤ wq.heap.size := by have := (unhide BY).size; simp at this; omega
            go_wp2_with (at_builtin; refine wpList_append_own _ rfl _ _ 23 rfl (w.heap.size + 1) 37 i0 (.agg #[.string ByteArray.empty, .string ByteArray.empty]) 2 32 Try.underlying23 hi0 hz0 hz1 hz2 rfl (by decide) _ _ _ rfl (show (wq.drewN nq).ownsRow (w.heap.size + 1) 37 2 (.slice (some ⟨g, 0, none⟩) p cap) p (ecs (es.take p)) from unhide OX) A (n - p) (c - p) (ecs (es.drop p)) rfl (unhide HN) (unhide hsrc) (ecs_one _) (by unfold maxLen; omega) (by omega) hsX ?_)
            intro v5 w5 h1 h2 h3
            have O5 : EOwns w5 w.heap.size v5 (putE es e true) := by
              rw [unhide ST]
              refine ownsRow_base2 ?_ (Nat.le_succ _)
              rw [ecs_append, List.length_append, List.length_drop, unhide LE, unhide HTL]
              exact h1
            obtain ⟨g5, cap5, rfl, _⟩ := eowns_some O5 (fun h => by first | exact h3 h | (subst h; simp at h3))
            have O6 := hide O5
            have B6 := hide (b1.trans (((bel_drewN (unhide BY) nq).grown h2 hsX (fun k hk => (World.ownsRow.lt (show (wq.drewN nq).ownsRow (w.heap.size + 1) 37 2 (.slice (some ⟨g, 0, none⟩) p cap) p (ecs (es.take p)) from unhide OX) k hk).1)).mono (by omega)))
            clear h1 h2 h3 O5
            go_wp2_with fail
            go_ret
            exact ⟨g5, cap5, rfl, unhide O6, unhide B6⟩
        | false =>
          go_wp2_with (at_builtin; refine wpList_append_own _ rfl _ _ 23 rfl (w.heap.size + 1) 37 i0 (.agg #[.string ByteArray.empty, .string ByteArray.empty]) 2 32 Try.underlying23 hi0 hz0 hz1 hz2 rfl (by decide) _ _ _ rfl (World.ownsRow.alloc (unhide O2q) _) ⟨wq.heap.size, 0, none⟩ 1 1 [.string e.k, .string e.v] rfl rfl (cells_new (vs := [.string e.k, .string e.v])) (by intro u hu; simp at hu; rcases hu with rfl | rfl <;> rfl) (by unfold maxLen; omega) (by omega) (by simp; omega) ?_)
          intro v3 w3 h1 h2 h3
          have O3 : EOwns w3 (w.heap.size + 1) v3 (es.take p ++ [e]) := by
            refine eapp ?_
            rw [unhide HTL]
            exact h1
          obtain ⟨g3, cap3, rfl, hg3⟩ := eowns_some O3 (fun h => by subst h; simp at h3)
          have hl3 : (es.take p ++ [e]).length = p + 1 := by rw [List.length_append, unhide HTL]; rfl
          unfold EOwns at O3
          rw [hl3] at O3 ⊢
          have OX := hide O3
          have bZ : Below (w.heap.size + 1) wq w3 := ((Below.refl _ _).alloc hszq _).grown h2 (by simp; omega) (fun k hk => ((unhide O2q).lt k hk).1)
          have BY := hide ((unhide B2q).trans bZ)
          have BX := hide (b1.trans ((unhide BY).mono (by omega)))
          have e0r := (bZ.cell (p := ⟨w.heap.size, 0, none⟩) (by show w.heap.size < w.heap.size + 1; omega)).trans e0q
          have d0r := (bZ.cell (p := ⟨b, off + p * 2, none⟩) (by show b < w.heap.size + 1; omega)).trans d0q
          clear h1 h2 h3 O3 bZ O2q B2q e0q e1q hl3 d0q
          by_cases hf : found es e.k = true
          · have hfe : (es[p].k.toList == e.k.toList) = true := by rw [unhide FD]; exact hf
            have ST := hide (show putE es e false = (es.take p ++ [e]) ++ es.drop (p + 1) by unfold putE stepE; rw [if_neg (by simp), hp, hf]; simp)
            go_wp2_with fail
            go_quiet (fail)
            obtain ⟨A, hA, hsrc⟩ := drop_src (k := (p + 1)) ((unhide RE).below (unhide BX)) hc
            have HN := hide (show (ecs (es.drop (p + 1))).length = (n - (p + 1)) * 2 by rw [ecs_len, List.length_drop, unhide LE])
            have hsX : w.heap.size + 1 ≤ w3.heap.size := by have := (unhide BY).size; simp at this; omega
            go_wp2_with (at_builtin; refine wpList_append_own _ rfl _ _ 23 rfl (w.heap.size + 1) 37 i0 (.agg #[.string ByteArray.empty, .string ByteArray.empty]) 2 32 Try.underlying23 hi0 hz0 hz1 hz2 rfl (by decide) _ _ _ rfl (show (w3.drewN nq).ownsRow (w.heap.size + 1) 37 2 (.slice (some ⟨g3, 0, none⟩) (p + 1) cap3) (p + 1) (ecs (es.take p ++ [e])) from unhide OX) A (n - (p + 1)) (c - (p + 1)) (ecs (es.drop (p + 1))) rfl (unhide HN) (unhide hsrc) (ecs_one _) (by unfold maxLen; omega) (by omega) hsX ?_)
            intro v5 w5 h1 h2 h3
            have O5 : EOwns w5 w.heap.size v5 (putE es e false) := by
              rw [unhide ST]
              refine ownsRow_base2 ?_ (Nat.le_succ _)
              rw [ecs_append, List.length_append, List.length_drop, unhide LE, List.length_append, unhide HTL]
              exact h1
            obtain ⟨g5, cap5, rfl, _⟩ := eowns_some O5 (fun h => by first | exact h3 h | (subst h; simp at h3))
            have O6 := hide O5
            have B6 := hide (b1.trans (((bel_drewN (unhide BY) nq).grown h2 hsX (fun k hk => (World.ownsRow.lt (show (w3.drewN nq).ownsRow (w.heap.size + 1) 37 2 (.slice (some ⟨g3, 0, none⟩) (p + 1) cap3) (p + 1) (ecs (es.take p ++ [e])) from unhide OX) k hk).1)).mono (by omega)))
            clear h1 h2 h3 O5
            go_wp2_with fail
            go_ret
            exact ⟨g5, cap5, rfl, unhide O6, unhide B6⟩
          · have hfe : (es[p].k.toList == e.k.toList) = false := by rw [unhide FD]; simpa using hf
            have hf : found es e.k = false := by simpa using hf
            have ST := hide (show putE es e false = (es.take p ++ [e]) ++ es.drop p by unfold putE stepE; rw [if_neg (by simp), hp, hf]; simp)
            go_wp2_with fail
            go_quiet (fail)
            obtain ⟨A, hA, hsrc⟩ := drop_src (k := p) ((unhide RE).below (unhide BX)) hc
            have HN := hide (show (ecs (es.drop p)).length = (n - p) * 2 by rw [ecs_len, List.length_drop, unhide LE])
            have hsX : w.heap.size + 1 ≤ w3.heap.size := by have := (unhide BY).size; simp at this; omega
            go_wp2_with (at_builtin; refine wpList_append_own _ rfl _ _ 23 rfl (w.heap.size + 1) 37 i0 (.agg #[.string ByteArray.empty, .string ByteArray.empty]) 2 32 Try.underlying23 hi0 hz0 hz1 hz2 rfl (by decide) _ _ _ rfl (show (w3.drewN nq).ownsRow (w.heap.size + 1) 37 2 (.slice (some ⟨g3, 0, none⟩) (p + 1) cap3) (p + 1) (ecs (es.take p ++ [e])) from unhide OX) A (n - p) (c - p) (ecs (es.drop p)) rfl (unhide HN) (unhide hsrc) (ecs_one _) (by unfold maxLen; omega) (by omega) hsX ?_)
            intro v5 w5 h1 h2 h3
            have O5 : EOwns w5 w.heap.size v5 (putE es e false) := by
              rw [unhide ST]
              refine ownsRow_base2 ?_ (Nat.le_succ _)
              rw [ecs_append, List.length_append, List.length_drop, unhide LE, List.length_append, unhide HTL]
              exact h1
            obtain ⟨g5, cap5, rfl, _⟩ := eowns_some O5 (fun h => by first | exact h3 h | (subst h; simp at h3))
            have O6 := hide O5
            have B6 := hide (b1.trans (((bel_drewN (unhide BY) nq).grown h2 hsX (fun k hk => (World.ownsRow.lt (show (w3.drewN nq).ownsRow (w.heap.size + 1) 37 2 (.slice (some ⟨g3, 0, none⟩) (p + 1) cap3) (p + 1) (ecs (es.take p ++ [e])) from unhide OX) k hk).1)).mono (by omega)))
            clear h1 h2 h3 O5
            go_wp2_with fail
            go_ret
            exact ⟨g5, cap5, rfl, unhide O6, unhide B6⟩
      · have hjn : n ≤ pos es e.k := by have := unhide LE; have := unhide PL; omega
        have hjm : pos es e.k ≤ n := by have := unhide LE; have := unhide PL; omega
        have FN := hide (show found es e.k = false by unfold found; rw [List.getElem?_eq_none (by have := unhide LE; omega)])
        generalize hp : pos es e.k = p at *
        have hd1 : decide (p < n) = false := decide_eq_false (by omega)
        have hd2 : decide ((p : Int) < (n : Int)) = false := decide_eq_false (by omega)
        go_wp2_with fail
        go_quiet (fail)
        have O2q := hide (show (wr.drewN nq).ownsRow (w.heap.size + 1) 37 2 (.slice (some ⟨g, 0, none⟩) p cap) p (ecs (es.take p)) from unhide O2)
        have B2q := hide (bel_drewN (unhide hB) nq)
        have e0q : (wr.drewN nq).cell? ⟨w.heap.size, 0, none⟩ = some (.string e.k) := e0
        have e1q : (wr.drewN nq).cell? ⟨w.heap.size, 1, none⟩ = some (.string e.v) := e1
        have hszq : w.heap.size + 1 ≤ (wr.drewN nq).heap.size := hsz
        clear O2 hO hB BW e0 e1 hsz
        generalize wr.drewN nq = wq at *
        cases gone with
        | true =>
          have OX := hide (unhide O2q)
          have BY := hide (unhide B2q)
          have BX := hide (b1.trans ((unhide B2q).mono (by omega)))
          clear O2q B2q e1q
          have ST := hide (show putE es e true = (es.take p) by unfold putE stepE; rw [if_neg (by simp), hp, unhide FN, List.drop_of_length_le (by have := unhide LE; simp; omega)]; simp)
          go_wp2_with fail
          go_quiet (fail)
          obtain ⟨A, hA, hsrc⟩ := drop_src (k := p) ((unhide RE).below (unhide BX)) hc
          have hsX : w.heap.size + 1 ≤ wq.heap.size := by have := (unhide BY).size; simp at this; omega
          go_wp2_with (at_builtin; refine wpList_append_own _ rfl _ _ 23 rfl (w.heap.size + 1) 37 i0 (.agg #[.string ByteArray.empty, .string ByteArray.empty]) 2 32 Try.underlying23 hi0 hz0 hz1 hz2 rfl (by decide) _ _ _ rfl (show (wq.drewN nq).ownsRow (w.heap.size + 1) 37 2 (.slice (some ⟨g, 0, none⟩) p cap) p (ecs (es.take p)) from unhide OX) A 0 (c - p) [] rfl rfl (fun j u h => by simp at h) (fun u h => by simp at h) (by unfold maxLen; omega) (by omega) hsX ?_)
          intro v5 w5 h1 h2 h3
          have O5 : EOwns w5 w.heap.size v5 (putE es e true) := by
            rw [unhide ST]
            refine ownsRow_base2 ?_ (Nat.le_succ _)
            rw [unhide HTL]
            simpa using h1
          obtain ⟨g5, cap5, rfl, _⟩ := eowns_some O5 (fun h => by first | exact h3 h | (subst h; simp at h3))
          have O6 := hide O5
          have B6 := hide (b1.trans (((bel_drewN (unhide BY) nq).grown h2 hsX (fun k hk => (World.ownsRow.lt (show (wq.drewN nq).ownsRow (w.heap.size + 1) 37 2 (.slice (some ⟨g, 0, none⟩) p cap) p (ecs (es.take p)) from unhide OX) k hk).1)).mono (by omega)))
          clear h1 h2 h3 O5
          go_wp2_with fail
          go_ret
          exact ⟨g5, cap5, rfl, unhide O6, unhide B6⟩
        | false =>
          go_wp2_with (at_builtin; refine wpList_append_own _ rfl _ _ 23 rfl (w.heap.size + 1) 37 i0 (.agg #[.string ByteArray.empty, .string ByteArray.empty]) 2 32 Try.underlying23 hi0 hz0 hz1 hz2 rfl (by decide) _ _ _ rfl (World.ownsRow.alloc (unhide O2q) _) ⟨wq.heap.size, 0, none⟩ 1 1 [.string e.k, .string e.v] rfl rfl (cells_new (vs := [.string e.k, .string e.v])) (by intro u hu; simp at hu; rcases hu with rfl | rfl <;> rfl) (by unfold maxLen; omega) (by omega) (by simp; omega) ?_)
          intro v3 w3 h1 h2 h3
          have O3 : EOwns w3 (w.heap.size + 1) v3 (es.take p ++ [e]) := by
            refine eapp ?_
            rw [unhide HTL]
            exact h1
          obtain ⟨g3, cap3, rfl, hg3⟩ := eowns_some O3 (fun h => by subst h; simp at h3)
          have hl3 : (es.take p ++ [e]).length = p + 1 := by rw [List.length_append, unhide HTL]; rfl
          unfold EOwns at O3
          rw [hl3] at O3 ⊢
          have OX := hide O3
          have bZ : Below (w.heap.size + 1) wq w3 := ((Below.refl _ _).alloc hszq _).grown h2 (by simp; omega) (fun k hk => ((unhide O2q).lt k hk).1)
          have BY := hide ((unhide B2q).trans bZ)
          have BX := hide (b1.trans ((unhide BY).mono (by omega)))
          have e0r := (bZ.cell (p := ⟨w.heap.size, 0, none⟩) (by show w.heap.size < w.heap.size + 1; omega)).trans e0q
          clear h1 h2 h3 O3 bZ O2q B2q e0q e1q hl3
          have ST := hide (show putE es e false = (es.take p ++ [e]) by unfold putE stepE; rw [if_neg (by simp), hp, unhide FN, List.drop_of_length_le (by have := unhide LE; simp; omega)]; simp)
          go_wp2_with fail
          go_quiet (fail)
          obtain ⟨A, hA, hsrc⟩ := drop_src (k := p) ((unhide RE).below (unhide BX)) hc
          have hsX : w.heap.size + 1 ≤ w3.heap.size := by have := (unhide BY).size; simp at this; omega
          go_wp2_with (at_builtin; refine wpList_append_own _ rfl _ _ 23 rfl (w.heap.size + 1) 37 i0 (.agg #[.string ByteArray.empty, .string ByteArray.empty]) 2 32 Try.underlying23 hi0 hz0 hz1 hz2 rfl (by decide) _ _ _ rfl (show (w3.drewN nq).ownsRow (w.heap.size + 1) 37 2 (.slice (some ⟨g3, 0, none⟩) (p + 1) cap3) (p + 1) (ecs (es.take p ++ [e])) from unhide OX) A 0 (c - p) [] rfl rfl (fun j u h => by simp at h) (fun u h => by simp at h) (by unfold maxLen; omega) (by omega) hsX ?_)
          intro v5 w5 h1 h2 h3
          have O5 : EOwns w5 w.heap.size v5 (putE es e false) := by
            rw [unhide ST]
            refine ownsRow_base2 ?_ (Nat.le_succ _)
            rw [List.length_append, unhide HTL]
            simpa using h1
          obtain ⟨g5, cap5, rfl, _⟩ := eowns_some O5 (fun h => by first | exact h3 h | (subst h; simp at h3))
          have O6 := hide O5
          have B6 := hide (b1.trans (((bel_drewN (unhide BY) nq).grown h2 hsX (fun k hk => (World.ownsRow.lt (show (w3.drewN nq).ownsRow (w.heap.size + 1) 37 2 (.slice (some ⟨g3, 0, none⟩) (p + 1) cap3) (p + 1) (ecs (es.take p ++ [e])) from unhide OX) k hk).1)).mono (by omega)))
          clear h1 h2 h3 O5
          go_wp2_with fail
          go_ret
          exact ⟨g5, cap5, rfl, unhide O6, unhide B6⟩
end Go.Proofs.Ytbhkmmdcdfjbkaa

namespace Go.Proofs.Ytbhkmmdcdfjbkaa
open Go.RowKit

set_option maxHeartbeats 1000000 in
theorem implTreeOK_any (ap : Option Addr) (np cp : Nat) (ag : Option Addr) (ng cg : Nat) (ai : Option Addr) (ni ci : Nat) (hs : List PpH) (gs : List Bool) (idx : List RefD) (w : World) (hT : TrIn w ap np cp ag ng cg ai ni hs gs idx) (hci : ai = none → ci = 0) :
    Calls Try.prog 10 #[.agg #[.slice ap np cp, .slice ag ng cg, .slice ai ni ci]] w fun e w' => e = .returned (.bool (okT (trd hs gs idx))) ∧ Below w.heap.size w w' := by
  have b0 : ∀ o, Below w.heap.size w (w.alloc o) := fun o => (Below.refl _ _).alloc (Nat.le_refl _) _
  have C := hide (fun o => tableOf_any ap np cp ag ng cg ai ni ci hs gs idx (w.alloc o) (hT.below (b0 o)) hci)
  clear hT
  go_enter Try.func10, Try.ntmps10
  go_wp2_with fail
  refine (unhide C _).mono ?_
  rintro e w2 ⟨v, rfl, hb, _⟩
  go_wp2_with fail
  go_ret
  exact ⟨rfl, (b0 _).trans (hb.mono (b0 _).size)⟩
end Go.Proofs.Ytbhkmmdcdfjbkaa

namespace Go.Proofs.Ytbhkmmdcdfjbkaa
open Go.RowKit

theorem xn_row {w w' : World} {a : Option Addr} {n : Nat} {xs : List Int} (h : Row w a n xs) (hb : Below w.heap.size w w') : Row w' a n xs := by
  refine ⟨h.1, fun i hi => ?_⟩
  obtain ⟨b, off, e, c⟩ := h.2 i hi
  exact ⟨b, off, e, (hb.cell (p := ⟨b, off + i, none⟩) (cell_lt c)).trans c⟩
theorem set2_hp {w : World} {b : Nat} {u0 u1 : Value} {t : TypeId} (h : w.heap[b]? = some (.cells #[u0, u1] t (0, 0))) (v0 v1 : Value) : ((w.setCell ⟨b, 0, none⟩ v0).setCell ⟨b, 1, none⟩ v1).heap[b]? = some (.cells #[v0, v1] t (0, 0)) := by
  have h1 := heap_set h 0 v0
  have h2 := heap_set h1 1 v1
  simpa using h2
theorem new_none : treeE newT = [] := rfl
set_option maxRecDepth 100000 in
set_option maxHeartbeats 16000000 in
theorem fnNew_law (aa : Option Addr) (na ca : Nat) (zs1 : List Int) (w : World) (h1 : IsRow .u8 w aa na ca zs1) :
    Calls Try.prog 3 #[.slice aa na ca] w fun e w' => e = .returned (.bool true) ∧ Below w.heap.size w w' := by
  obtain ⟨hr1, hm1, _⟩ := row_of_isRow h1
  have by1 := hide (bytes_of_isRow h1)
  clear h1
  unfold maxLen at hm1
  by_cases hbig : 1048576 < na
  · clear hr1 by1
    go_enter Try.func3, Try.ntmps3
    go_wp2_with fail
    go_ret
    exact ⟨rfl, Below.refl _ _⟩
  have hn1 : na ≤ 1048576 := by omega
  clear hm1
  generalize zs1.take na = xs1 at *
  have R1 := hide hr1
  clear hr1
  go_enter Try.func3, Try.ntmps3
  go_wp2_with fail
  refine (implNewTree_any w).mono ?_
  rintro e w1 ⟨p, g, i, rfl, hT1, ⟨hgp, hgg, hgi⟩, hb1⟩
  unfold tv
  have O1 := hide (new_own (B := w.heap.size) hT1 hgp hgg hgi)
  have B := hide hb1
  replace R1 := hide (xn_row (unhide R1) hb1)
  clear hT1 hb1 hgp hgg hgi
  go_wp2_with fail
  refine (implTreeScan_any _ 1 _ _ 1 _ _ 1 _ [newH] (newT.map (·.isNone)) [⟨⟨#[]⟩, 0⟩] ⟨#[]⟩ ⟨#[]⟩ w1 (unhide O1).trIn (own_cap0 (unhide O1).own.ix)).mono ?_
  intro e w2 hres
  obtain ⟨E1, E2⟩ := scan_tre newT_tre (unhide O1).dat (fr := ⟨#[]⟩) (tu := ⟨#[]⟩) (by decide) (by decide)
  unfold SnRes at hres
  rw [E1, E2, range_all, new_none] at hres
  obtain ⟨sa, sn, sc, rfl, oS, hb⟩ := hres
  obtain rfl : sn = 0 := (erow_of_owns oS).1.symm
  replace B := hide ((unhide B).trans (hb.mono (unhide B).size))
  replace R1 := hide (xn_row (unhide R1) hb)
  clear oS hb E1 E2 O1
  go_wp2_with fail
  refine (treeActsOf_ok aa na ca xs1 w2 (unhide R1) (unhide by1) hn1).mono ?_
  rintro e w3 ⟨ya, yn, yc, acts, rfl, hY, hYl, hYo, hb⟩
  have YL := hide hY.1
  have Y := hide hY
  have YO := hide hYo
  have hyn : yn ≤ 28 := by rw [← unhide YL]; exact hYl
  have bL := (Below.refl w3.heap.size w3).alloc (Nat.le_refl _) (.cells #[] 37)
  have L0 := hide (show EOwns (w3.alloc (.cells #[] 37)) w3.heap.size (.slice (some ⟨w3.heap.size, 0, none⟩) 0 0) (enA (acts.take 0)) from nil_lit (w := w3) 37 2)
  have z3 : w3.heap.size < (w3.alloc (.cells #[] 37)).heap.size := by simp
  replace B := hide ((unhide B).trans (hb.mono (unhide B).size))
  have B3 := hide bL
  clear hY hYl hYo hb R1 by1 bL
  go_upto_region 6 with fail
  generalize w3.alloc (.cells #[] 37) = w4 at *
  have bL := (Below.refl w4.heap.size w4).alloc (Nat.le_refl _) (.cells #[] 37)
  have T0 := hide (show EOwns (w4.alloc (.cells #[] 37)) w3.heap.size (.slice (some ⟨w4.heap.size, 0, none⟩) 0 0) (treeE (blt (enA (acts.take 0))).ps) from gd_base (nil_lit (w := w4) 37 2) (Nat.le_of_lt z3))
  replace L0 := hide (rb_ownsRow_below (unhide L0) bL)
  replace B3 := hide ((unhide B3).trans (bL.mono (unhide B3).size))
  have NE0 := hide (show (Value.slice (some ⟨w3.heap.size, 0, none⟩) 0 0).ownBlock ≠ some w4.heap.size from fun h => by
    have h2 : some w3.heap.size = some w4.heap.size := h
    injection h2 with h2
    omega)
  clear bL
  go_upto_region 7 with fail
  generalize w4.alloc (.cells #[] 37) = w5 at *
  generalize w4.heap.size = g4 at *
  clear z3
  go_wp2_with fail
  go_loopw [6, 7, 8] (fun av lv iv wr => ∃ (k : Nat) (ab : Option Addr) (nb cb g L cap : Nat), k ≤ yn ∧ av = .slice ab nb cb ∧ lv = .slice (some ⟨g, 0, none⟩) L cap ∧ iv = .int .i64 (k : Int) ∧ Hid (EOwns wr w3.heap.size (.slice ab nb cb) (enA (acts.take k))) ∧ Hid (EOwns wr w3.heap.size (.slice (some ⟨g, 0, none⟩) L cap) (treeE (blt (enA (acts.take k))).ps)) ∧ Hid ((Value.slice ab nb cb).ownBlock ≠ some g) ∧ Hid (Below w3.heap.size w3 wr)) (fun _ _ iv _ => yn - (intOf iv).toNat)
  case atStart => exact ⟨0, _, 0, 0, g4, 0, 0, Nat.zero_le _, rfl, rfl, rfl, L0, T0, NE0, B3⟩
  case round =>
    clear L0 T0 NE0 B3
    obtain ⟨k, ab, nb, cb, g, L, cap, hk, rfl, rfl, rfl, hA, hE, hNe, hb⟩ := hrel
    have OKk := hide (show ∀ j, j ≤ acts.length → okEs (enA (acts.take j)) from fun j _ => enA_ok fun a ha => unhide YO a (List.mem_of_mem_take ha))
    have LNk := hide (show ∀ j, j ≤ acts.length → (enA (acts.take j)).length ≤ 28 from fun j hj => Nat.le_trans (enA_len _) (by rw [List.length_take]; have := unhide YL; omega))
    have TRk := hide (show ∀ j, Tre (blt (enA (acts.take j))).ps (blt (enA (acts.take j))).idx from fun j => by have h := blt_tre (enA (acts.take j)) _ (Nat.le_refl _); rw [List.take_length] at h; exact h)
    have LE := hide (show (treeE (blt (enA (acts.take k))).ps).length = L from (erow_of_owns (unhide hE)).1)
    have hL : L ≤ 960 := by rw [← unhide LE]; exact tree_few (unhide TRk k)
    by_cases hlt : k < yn
    · have hka : k < acts.length := by rw [unhide YL]; exact hlt
      obtain ⟨yb, yo, rfl, d0, d1, d2, d3⟩ := ((unhide Y).below (unhide hb)).2 k hka
      have NX := hide (enA_next acts hka)
      have OK1 := hide (unhide OKk (k + 1) hka)
      have LN0 := hide (unhide LNk k (by omega))
      have LN1 := hide (unhide LNk (k + 1) hka)
      generalize acts[k] = ak at *
      obtain ⟨akk, aki, aky, akv⟩ := ak
      simp only at d0 d1 d2 d3 NX
      by_cases hk1 : akk = 1
      · have hb1 : (akk == 1) = true := by rw [hk1]; rfl
        have N1 := hide (show enA (acts.take (k + 1)) = enA (acts.take k) ++ [⟨aky, akv⟩] by rw [unhide NX, if_pos hk1])
        have PE := hide (show treeE (blt (enA (acts.take (k + 1)))).ps = putE (treeE (blt (enA (acts.take k))).ps) ⟨aky, akv⟩ false by
          have h1 := unhide OK1
          have h2 := unhide LN1
          rw [unhide N1] at h1 h2 ⊢
          exact blt_snoc h1 (by omega))
        have hcap : L ≤ cap := by
          rcases (unhide hE).2 with ⟨e, _⟩ | ⟨_, cp, _, e, _, _, hc, _⟩
          · cases e
          · injection e with _ _ e2
            have := unhide LE
            omega
        have SK := hide (show ∀ u, Below wr.heap.size wr u → (u.cell? ⟨yb, yo + k * 4 + 2, none⟩ = some (.string aky) ∧ u.cell? ⟨yb, yo + k * 4 + 3, none⟩ = some (.string akv)) from fun u hu => ⟨(hu.cell (p := ⟨yb, yo + k * 4 + 2, none⟩) (cell_lt d2)).trans d2, (hu.cell (p := ⟨yb, yo + k * 4 + 3, none⟩) (cell_lt d3)).trans d3⟩)
        have hkl : (k : Int) < (yn : Int) := by omega
        clear hk1 NX OK1 OKk LNk TRk
        go_upto_region 11 with fail
        clear d0 d1 d2 d3 hb1
        refine wp_region_held_drew (S := (fun u => (u.cell? ⟨yb, yo + k * 4 + 2, none⟩ = some (.string aky) ∧ u.cell? ⟨yb, yo + k * 4 + 3, none⟩ = some (.string akv)))) (by kernel_rfl) (unhide SK _ ((Below.refl _ _).drew)) (fun hHeld => ?_)
        have Ds := hide (show Below wr.heap.size wr wr.drew from (Below.refl _ _).drew)
        generalize wr.drew = us at *
        refine anyH_take 0 40 (v := ?v1) rfl rfl (by kernel_rfl) (by kernel_rfl) (by kernel_rfl) (fun _ _ _ h => h) (by rfl) ?h1 hHeld ?r1
        case h1 => (intro w hSw; (try dsimp only at hSw); go_simp; try (with_reducible rfl))
        simp only [Act.put, List.setIfInBounds_toArray, List.set_cons_zero, List.set_cons_succ]
        refine anyH_take 1 41 (v := ?v2) rfl rfl (by kernel_rfl) (by kernel_rfl) (by kernel_rfl) (fun _ _ _ h => h) (by rfl) ?h2 hHeld ?r2
        case h2 => (intro w hSw; (try dsimp only at hSw); go_simp; try (with_reducible rfl))
        simp only [Act.put, List.setIfInBounds_toArray, List.set_cons_zero, List.set_cons_succ]
        refine anyH_take 2 42 (v := ?v3) rfl rfl (by kernel_rfl) (by kernel_rfl) (by kernel_rfl) (fun _ _ _ h => h) (by rfl) ?h3 hHeld ?r3
        case h3 => (intro w hSw; (try dsimp only at hSw); go_simp; try (with_reducible rfl))
        simp only [Act.put, List.setIfInBounds_toArray, List.set_cons_zero, List.set_cons_succ]
        refine anyH_take 3 43 (v := ?v4) rfl rfl (by kernel_rfl) (by kernel_rfl) (by kernel_rfl) (fun _ _ _ h => h) (by rfl) ?h4 hHeld ?r4
        case h4 => (intro w hSw; (try dsimp only at hSw); go_simp; try (with_reducible rfl))
        simp only [Act.put, List.setIfInBounds_toArray, List.set_cons_zero, List.set_cons_succ]
        refine anyH_take 4 44 (v := ?v5) rfl rfl (by kernel_rfl) (by kernel_rfl) (by kernel_rfl) (fun _ _ _ h => h) (by rfl) ?h5 hHeld ?r5
        case h5 => (intro w hSw; (try dsimp only at hSw); go_simp; try (with_reducible rfl))
        simp only [Act.put, List.setIfInBounds_toArray, List.set_cons_zero, List.set_cons_succ]
        refine anyH_take 5 45 (v := ?v6) rfl rfl (by kernel_rfl) (by kernel_rfl) (by kernel_rfl) (fun _ _ _ h => h) (by rfl) ?h6 hHeld ?r6
        case h6 => (intro w hSw; (try dsimp only at hSw); go_simp; try (with_reducible rfl))
        simp only [Act.put, List.setIfInBounds_toArray, List.set_cons_zero, List.set_cons_succ]
        refine anyH_take 6 46 (v := ?v7) rfl rfl (by kernel_rfl) (by kernel_rfl) (by kernel_rfl) (fun _ _ _ h => h) (by rfl) ?h7 hHeld ?r7
        case h7 => (intro w hSw; (try dsimp only at hSw); go_simp; try (with_reducible rfl))
        simp only [Act.put, List.setIfInBounds_toArray, List.set_cons_zero, List.set_cons_succ]
        refine anyH_take 7 47 (v := ?v8) rfl rfl (by kernel_rfl) (by kernel_rfl) (by kernel_rfl) (fun _ _ _ h => h) (by rfl) ?h8 hHeld ?r8
        case h8 => (intro w hSw; (try dsimp only at hSw); go_simp; try (with_reducible rfl))
        simp only [Act.put, List.setIfInBounds_toArray, List.set_cons_zero, List.set_cons_succ]
        refine anyH_take 8 48 (v := ?v9) rfl rfl (by kernel_rfl) (by kernel_rfl) (by kernel_rfl) (fun _ _ _ h => h) (by rfl) ?h9 hHeld ?r9
        case h9 => (intro w hSw; (try dsimp only at hSw); go_simp; try (with_reducible rfl))
        simp only [Act.put, List.setIfInBounds_toArray, List.set_cons_zero, List.set_cons_succ]
        refine anyH_take 9 49 (v := ?v10) rfl rfl (by kernel_rfl) (by kernel_rfl) (by kernel_rfl) (fun _ _ _ h => h) (by rfl) ?h10 hHeld ?r10
        case h10 => (intro w hSw; (try dsimp only at hSw); go_simp; try (with_reducible rfl))
        simp only [Act.put, List.setIfInBounds_toArray, List.set_cons_zero, List.set_cons_succ]
        refine anyH_take 10 50 (v := ?v11) rfl rfl (by kernel_rfl) (by kernel_rfl) (by kernel_rfl) (fun _ _ _ h => h) (by rfl) ?h11 hHeld ?r11
        case h11 => (intro w hSw; (try dsimp only at hSw); go_simp; try (with_reducible rfl))
        simp only [Act.put, List.setIfInBounds_toArray, List.set_cons_zero, List.set_cons_succ]
        refine wpAnyH_ready (rs := [11]) (by kernel_rfl) (by simp) ?_
        refine AllReadyH.cons rfl (fun K hK => ?_) AllReadyH.nil
        have D1 := hide ((unhide Ds).alloc (unhide Ds).size (.cells #[.string ⟨#[]⟩, .string ⟨#[]⟩] 37))
        have KX := hide (heap_alloc_new us (.cells #[.string ⟨#[]⟩, .string ⟨#[]⟩] 37))
        have XG := hide (unhide Ds).size
        go_simp
        generalize us.alloc (.cells #[.string ⟨#[]⟩, .string ⟨#[]⟩] 37) = u1 at *
        generalize us.heap.size = xb at *
        refine hK.out _ _ (unhide SK _ (unhide D1)) (fun hHeld => ?_)
        clear hK K
        refine wpAnyH_ready (rs := [12]) (by kernel_rfl) (by simp) ?_
        refine AllReadyH.cons rfl (fun K hK => ?_) AllReadyH.nil
        have y0 := (heap_at (unhide KX) 0).1
        have y1 := (heap_at (unhide KX) 1).1
        have x0 := (heap_at (unhide KX) 0).2
        have x1 := (heap_at (unhide KX) 1).2
        have D2 := hide (((unhide D1).setCell (p := ⟨xb, 0, none⟩) (unhide XG) (.string aky)).setCell (p := ⟨xb, 1, none⟩) (unhide XG) (.string akv))
        have K2 := hide (set2_hp (unhide KX) (.string aky) (.string akv))
        go_simp
        refine hK.out _ _ (unhide SK _ (unhide D2)) (fun hHeld => ?_)
        clear hK K
        refine wpAnyH_done (by kernel_rfl) ?_ _
        generalize ((u1.setCell ⟨xb, 0, none⟩ (.string aky)).setCell ⟨xb, 1, none⟩ (.string akv)) = v5 at *
        clear y0 y1 x0 x1 KX D1 Ds SK
        have A5 := rb_ownsRow_below (unhide hA) (unhide D2)
        have E5 := rb_ownsRow_below (unhide hE) (unhide D2)
        have m0 := (heap_at (unhide K2) 0).1
        have m1 := (heap_at (unhide K2) 1).1
        have b5 := (unhide hb).trans ((unhide D2).mono (unhide hb).size)
        obtain ⟨v6, w6, hr, ho, hg, hv6⟩ := e_app (d := ⟨aky, akv⟩) A5 (by have := unhide LN0; omega) b5.size
        have bx := (Below.refl v5.heap.size v5).alloc (Nat.le_refl _) (.cells #[.string aky, .string akv] 37)
        have hw := WrB.of_grown hg
        have hAl : ∀ i, (Value.slice ab nb cb).ownBlock = some i → i < wr.heap.size := fun i hi => ((unhide hA).lt i hi).2
        have E6 := hide (rr_owns_wr (rb_ownsRow_below E5 bx) hw (fun i hi e => (unhide hNe) (by rw [e]; exact hi.symm ▸ rfl)))
        have K6 := (hw.block xb (Nat.lt_of_lt_of_le (blk_lt (unhide K2)) bx.size) (fun e => by have := hAl xb e; have := unhide XG; omega)).trans ((bx.block xb (blk_lt (unhide K2))).trans (unhide K2))
        have q0 := (heap_at K6 0).1
        have q1 := (heap_at K6 1).1
        have b6 := hide ((b5.trans (bx.mono b5.size)).trans (WrB.below hw (fun i hi => ((unhide hA).lt i hi).1) (Nat.le_trans b5.size bx.size)))
        have s56 : v5.heap.size ≤ w6.heap.size := Nat.le_trans bx.size hw.size
        have A6 := hide (show EOwns w6 w3.heap.size v6 (enA (acts.take (k + 1))) by rw [unhide N1]; exact ho)
        have V6 := hide (show ∀ i, v6.ownBlock = some i → i < w6.heap.size from fun i hi => (World.ownsRow.lt ho i hi).2)
        obtain ⟨a6, n6, c6, rfl⟩ : ∃ a n c, v6 = .slice a n c := by
          rcases ho.2 with ⟨e, _⟩ | ⟨_, _, _, e, _⟩
          · exact ⟨_, _, _, e⟩
          · exact ⟨_, _, _, e⟩
        have HP := hide (lawPut_any g 0 L cap (treeE (blt (enA (acts.take k))).ps) ⟨aky, akv⟩ false w6 (erow_of_owns (unhide E6)) (by omega) hcap)
        rw [← unhide PE] at HP
        simp only at HP hr
        clear A5 E5 ho hg hv6 bx hw hAl K6 K2 D2 XG b5 hA hE hNe LN0 LN1 N1 PE E6
        go_wp2_with (at_builtin; refine wpAppE rfl _ _ 23 rfl _ _ (.slice a6 n6 c6) w6 rfl rfl hr ?_)
        refine (unhide HP).mono ?_
        rintro e w7 ⟨g7, c7, rfl, o7, hb7⟩
        have A7 := hide (rb_ownsRow_below (unhide A6) hb7)
        have E7 := hide (gd_base o7 (unhide b6).size)
        have B7 := hide ((unhide b6).trans (hb7.mono (unhide b6).size))
        have N7 := hide (show (Value.slice a6 n6 c6).ownBlock ≠ some g7 from fun h => by
          have h1 := unhide V6 g7 h
          have h2 := (World.ownsRow.lt o7 g7 rfl).1
          omega)
        clear o7 hb7 A6 b6 V6 HP hr m0 m1 q0 q1
        go_wp2_with fail
        go_roundw
        case rel => exact ⟨k + 1, a6, n6, c6, g7, _, c7, by omega, rfl, rfl, by go_num, A7, E7, N7, B7⟩
        case measure => simp [intOf]; omega
      · have hb1 : (akk == 1) = false := by rw [beq_eq_false_iff_ne]; exact hk1
        have A2 := hide (show EOwns wr w3.heap.size (.slice ab nb cb) (enA (acts.take (k + 1))) by rw [unhide NX, if_neg hk1]; exact unhide hA)
        have E2 := hide (show EOwns wr w3.heap.size (.slice (some ⟨g, 0, none⟩) L cap) (treeE (blt (enA (acts.take (k + 1)))).ps) by rw [unhide NX, if_neg hk1]; exact unhide hE)
        clear hA hE NX
        go_wp2_with fail
        go_roundw
        case rel => exact ⟨k + 1, ab, nb, cb, g, L, cap, by omega, rfl, rfl, by go_num, A2, E2, hNe, hb⟩
        case measure => simp [intOf]; omega
    · obtain rfl : k = yn := by omega
      have ht : acts.take k = acts := List.take_of_length_le (by rw [unhide YL]; exact Nat.le_refl _)
      have OKa := hide (show okEs (enA acts) by have h := unhide OKk k (by rw [unhide YL]; exact hk); rw [ht] at h; exact h)
      have LNa := hide (show (enA acts).length ≤ 28 by have h := unhide LNk k (by rw [unhide YL]; exact hk); rw [ht] at h; exact h)
      have TR := hide (show Tre (blt (enA acts)).ps (blt (enA acts)).idx by have h := unhide TRk k; rw [ht] at h; exact h)
      rw [ht] at hA hE LE
      have hnb : nb ≤ 28 := by have h := (erow_of_owns (unhide hA)).1; have := unhide LNa; omega
      generalize enA acts = es at *
      replace B := hide ((unhide B).trans ((unhide hb).mono (unhide B).size))
      have BT := hide (fun W e W' (h : BtRes es W e W') => show ∃ a1 c1 a2 c2 a3 c3 hs, e = .returned (.tuple #[.agg #[.slice a1 (blt es).ps.length c1, .slice a2 (blt es).ps.length c2, .slice a3 (blt es).idx.length c3], .int .i64 0]) ∧ TsOwn W' W.heap.size a1 c1 a2 c2 a3 c3 (blt es).ps.length (blt es).idx.length hs (blt es).ps (blt es).idx ∧ Below W.heap.size W W' from h)
      obtain ⟨ps, hps⟩ : ∃ ps, ps = (blt es).ps := ⟨_, rfl⟩
      obtain ⟨idx, hidx⟩ : ∃ idx, idx = (blt es).idx := ⟨_, rfl⟩
      rw [← hps, ← hidx] at TR BT
      rw [← hps] at hE LE
      obtain ⟨N, hN⟩ : ∃ N, N = ps.length := ⟨_, rfl⟩
      obtain ⟨M, hM⟩ : ∃ M, M = idx.length := ⟨_, rfl⟩
      rw [← hN, ← hM] at BT
      have hN30 : N ≤ 30 := by rw [hN]; exact (unhide TR).len.2
      have hM30 : M ≤ 30 := by rw [hM]; exact Nat.le_trans (unhide TR).good.il (unhide TR).len.2
      clear ht hps hidx hN hM hb hNe OKk LNk TRk Y YO YL hlt hk
      have A := hide (erow_of_owns (unhide hA))
      have E := hide (erow_of_owns (unhide hE))
      clear hA hE
      go_wp2_with fail
      refine (implBuildTree_any ab nb cb es wr (unhide A) hnb (unhide OKa)).mono ?_
      intro e w_t hcon
      obtain ⟨a1_t, c1_t, a2_t, c2_t, a3_t, c3_t, hs_t, rfl, oo, hb⟩ := unhide BT _ _ _ hcon
      clear hcon
      replace A := hide ((unhide A).below hb)
      replace E := hide ((unhide E).below hb)
      replace B := hide ((unhide B).trans (hb.mono (unhide B).size))
      clear hb
      have O_t := hide oo
      clear oo
      have hb : Below w_t.heap.size w_t (w_t.alloc (.cells #[.slice a1_t N c1_t, .slice a2_t N c2_t, .slice a3_t M c3_t] 30)) := (Below.refl _ _).alloc (Nat.le_refl _) _
      have K_t := hide (heap_alloc_new w_t (.cells #[.slice a1_t N c1_t, .slice a2_t N c2_t, .slice a3_t M c3_t] 30))
      replace A := hide ((unhide A).below hb)
      replace E := hide ((unhide E).below hb)
      replace O_t := hide ((unhide O_t).below hb)
      replace B := hide ((unhide B).trans (hb.mono (unhide B).size))
      clear hb
      go_upto_region 15 with fail
      generalize w_t.alloc (.cells #[.slice a1_t N c1_t, .slice a2_t N c2_t, .slice a3_t M c3_t] 30) = b_t at *
      generalize w_t.heap.size = z_t at *
      go_wp2_with fail
      refine (specBuildTree_any ab nb cb es b_t (unhide A) hnb (unhide OKa)).mono ?_
      intro e w_v hcon
      obtain ⟨a1_v, c1_v, a2_v, c2_v, a3_v, c3_v, hs_v, rfl, oo, hb⟩ := unhide BT _ _ _ hcon
      clear hcon
      replace A := hide ((unhide A).below hb)
      replace E := hide ((unhide E).below hb)
      replace O_t := hide ((unhide O_t).below hb)
      replace K_t := hide ((hb.block _ (blk_lt (unhide K_t))).trans (unhide K_t))
      replace B := hide ((unhide B).trans (hb.mono (unhide B).size))
      clear hb
      have O_v := hide oo
      clear oo
      have hb : Below w_v.heap.size w_v (w_v.alloc (.cells #[.slice a1_v N c1_v, .slice a2_v N c2_v, .slice a3_v M c3_v] 30)) := (Below.refl _ _).alloc (Nat.le_refl _) _
      have K_v := hide (heap_alloc_new w_v (.cells #[.slice a1_v N c1_v, .slice a2_v N c2_v, .slice a3_v M c3_v] 30))
      replace A := hide ((unhide A).below hb)
      replace E := hide ((unhide E).below hb)
      replace O_t := hide ((unhide O_t).below hb)
      replace K_t := hide ((hb.block _ (blk_lt (unhide K_t))).trans (unhide K_t))
      replace O_v := hide ((unhide O_v).below hb)
      replace B := hide ((unhide B).trans (hb.mono (unhide B).size))
      clear hb
      go_upto_region 16 with fail
      generalize w_v.alloc (.cells #[.slice a1_v N c1_v, .slice a2_v N c2_v, .slice a3_v M c3_v] 30) = b_v at *
      generalize w_v.heap.size = z_v at *
      clear A OKa LNa BT
      have capi := own_cap0 (unhide O_t).own.ix
      have p0 := (heap_at (unhide K_t) 0).1
      have p1 := (heap_at (unhide K_t) 1).1
      have p2 := (heap_at (unhide K_t) 2).1
      go_wp2_with fail
      refine (implTreeScan_any _ N _ _ N _ _ M _ hs_t (ps.map (·.isNone)) idx ⟨#[]⟩ ⟨#[]⟩ b_v (unhide O_t).trIn capi).mono ?_
      intro e s1 hres
      obtain ⟨E1, E2⟩ := scan_tre (unhide TR) (unhide O_t).dat (fr := ⟨#[]⟩) (tu := ⟨#[]⟩) (by decide) (by decide)
      unfold SnRes at hres
      rw [E1, E2, range_all] at hres
      obtain ⟨ta, tn, tc, rfl, oS, hb⟩ := hres
      obtain rfl : tn = L := by
        have h := (erow_of_owns oS).1
        have := unhide LE
        omega
      replace E := hide ((unhide E).below hb)
      replace O_t := hide ((unhide O_t).below hb)
      replace K_t := hide ((hb.block _ (blk_lt (unhide K_t))).trans (unhide K_t))
      replace O_v := hide ((unhide O_v).below hb)
      replace K_v := hide ((hb.block _ (blk_lt (unhide K_v))).trans (unhide K_v))
      replace B := hide ((unhide B).trans (hb.mono (unhide B).size))
      clear hb
      have S5 := hide (erow_of_owns oS)
      clear oS E1 E2 p0 p1 p2
      go_wp2_with fail
      refine (implNewTree_any s1).mono ?_
      rintro e s2 ⟨p8, g8, i8, rfl, hT8, _, hb⟩
      unfold tv
      replace E := hide ((unhide E).below hb)
      replace O_t := hide ((unhide O_t).below hb)
      replace K_t := hide ((hb.block _ (blk_lt (unhide K_t))).trans (unhide K_t))
      replace O_v := hide ((unhide O_v).below hb)
      replace K_v := hide ((hb.block _ (blk_lt (unhide K_v))).trans (unhide K_v))
      replace S5 := hide ((unhide S5).below hb)
      replace B := hide ((unhide B).trans (hb.mono (unhide B).size))
      clear hb
      go_wp2_with fail
      refine (implTreeOK_any _ 1 _ _ 1 _ _ 1 _ [newH] [false] [⟨⟨#[]⟩, 0⟩] s2 (new_in hT8) (fun e => by cases e)).mono ?_
      rw [new_okT]
      rintro e s3 ⟨rfl, hb⟩
      clear hT8
      replace E := hide ((unhide E).below hb)
      replace O_t := hide ((unhide O_t).below hb)
      replace K_t := hide ((hb.block _ (blk_lt (unhide K_t))).trans (unhide K_t))
      replace O_v := hide ((unhide O_v).below hb)
      replace K_v := hide ((hb.block _ (blk_lt (unhide K_v))).trans (unhide K_v))
      replace S5 := hide ((unhide S5).below hb)
      replace B := hide ((unhide B).trans (hb.mono (unhide B).size))
      clear hb
      have p0_t := (heap_at (unhide K_t) 0).1
      have p1_t := (heap_at (unhide K_t) 1).1
      have p2_t := (heap_at (unhide K_t) 2).1
      have p0_v := (heap_at (unhide K_v) 0).1
      have p1_v := (heap_at (unhide K_v) 1).1
      have p2_v := (heap_at (unhide K_v) 2).1
      go_wp2_with fail
      refine (sameTree_any _ _ N _ _ _ _ _ _ _ _ M _ _ hs_t hs_v (ps.map (·.isNone)) idx s3 (unhide O_t).trIn (unhide O_v).trIn ((unhide O_v).dat.trans (unhide O_t).dat.symm) ⟨by omega, by omega⟩ (fun h hh => by have := (unhide O_t).few (unhide TR) h hh; omega)).mono ?_
      rintro e s4 ⟨rfl, hb⟩
      replace E := hide ((unhide E).below hb)
      replace S5 := hide ((unhide S5).below hb)
      replace B := hide ((unhide B).trans (hb.mono (unhide B).size))
      clear hb p0_t p1_t p2_t p0_v p1_v p2_v
      go_wp2_with fail
      refine (sameEntries_any ta (some ⟨g, 0, none⟩) tn tc cap (treeE ps) s4 (unhide S5) (unhide E) (by omega)).mono ?_
      rintro e s5 ⟨rfl, hb⟩
      have RES := hide ((unhide B).trans (hb.mono (unhide B).size))
      clear hb
      go_wp2_with fail
      go_ret
      exact ⟨rfl, unhide RES⟩
end Go.Proofs.Ytbhkmmdcdfjbkaa

namespace Go.Proofs.Ytbhkmmdcdfjbkaa.fnNewFrame
open Go.ChangeShapes Go.WideShapes Go.ChangeAt Go.RowKit
open Go.ChangeMaps (open_string shut_string)
set_option linter.unusedVariables false

theorem own : ownKnob Try.prog.godebug = none := by kernel_rfl
theorem laidOut : laidOutB Try.prog = true := by kernel_rfl

set_option maxRecDepth 100000 in
theorem lifted (os : Os) (started : os.Started) (H : Type) (enc : TypeId × Value → H) :
    ReturnsInHanded {} Try.checked os 3 .any (Rows.fnNewSpec.pre6 enc Try.prog Try.f3 Rows.fnNewRow.domain false) (Rows.fnNewSpec.post enc Try.prog Try.f3 false true false false) := by
  refine returnsInHanded_of_change (C := Try.checked) own started (by kernel_rfl) Try.func3
    (ChangeSpec.witness6 (enc := enc) (C := Try.checked) false ⟨#[], #[.slice none 0 0], []⟩ 8 (by kernel_rfl) (by kernel_rfl) (by kernel_rfl) (by kernel_rfl)) ?_
  intro W base args ds gs before hval0 hW _ _
  have hval : ∀ (j : Nat) t v, Try.f3.params[j]? = some t → args[j]? = some v → Value.okWide Try.prog W .any base t v := hval0
  have hW' := hW
  obtain ⟨p, q, hA0, hV, rfl, _, _⟩ := hW
  have hA : DataW.TrodAll enc Try.prog W 0 (fun _ => true) true Try.f3.params.toList args.toList ds p := hA0
  rw [Try.params3] at hA hval
  obtain ⟨v0, vs0, d0, ds0, p0, q0, hargs, rfl, rfl, h0, r0⟩ := trodAll_cons hA
  obtain ⟨rfl, rfl, rfl⟩ := trodAll_nil r0
  obtain rfl : args = #[v0] := by cases args; simp_all
  obtain ⟨rfl, rfl⟩ := trodVars_none hV
  have k0 := h0
  have lt0 : ∀ x ∈ p0, x.block < W.heap.size := by obtain ⟨m, hm⟩ := k0; exact DataW.trod_lt m _ _ _ hm
  obtain ⟨a0, len0, cap0, rfl⟩ := okWide_slice Try.underlying22 (hval 0 22 v0 rfl rfl)
  obtain ⟨z0, w0⟩ : ∃ zs, IsRow .u8 W a0 len0 cap0 zs := by
    obtain ⟨fuel, hf⟩ := h0
    rcases open_ints Try.underlying22 Try.underlying5 (by kernel_rfl) hf with ⟨hcs, _⟩ | ⟨x, l, c, zs, hcs, _, hl, hm, hz, _, hcell, hwz⟩
    · simp [Value.cells] at hcs
      obtain ⟨rfl, rfl, rfl⟩ := hcs
      exact ⟨[], .inl ⟨rfl, rfl, rfl, rfl⟩⟩
    · simp [Value.cells] at hcs
      obtain ⟨rfl, rfl, rfl⟩ := hcs
      exact ⟨zs, .inr ⟨_, rfl, hl, hm, by simpa using hz, hcell, hwz⟩⟩
  clear hA0 hval0
  refine (fnNew_law a0 len0 cap0 z0 W w0).mono fun e W' ⟨he, bel⟩ => ?_
  subst he
  exact ⟨_, rfl, _, _, _, [], _, [], hW', trodAll_mk1 (shut_bool Try.underlying4 _), (trodAll_cons_mk (Below.trod laidOut (by kernel_rfl) (of_decide_eq_true (by kernel_rfl)) k0 bel lt0) trodAll_mk0), rfl, bel.frame _, fun h => by cases h⟩

theorem over : Rows.fnNewRow.holds Try.pinned (OpenSpec.ofChange Rows.fnNewSpec) :=
  OpenClaim.holds_of_wide 3 Try.f3 rfl rfl rfl rfl rfl rfl rfl ⟨rfl, rfl, rfl, rfl, rfl⟩ rfl rfl rfl rfl rfl (by kernel_rfl) Try.func3 (by kernel_rfl)
    (of_decide_eq_true (by kernel_rfl)) (by unfold Func.isWrapper; first | (rw [if_pos (by decide +kernel)]; kernel_rfl) | (rw [if_neg (by decide +kernel)]; exact ⟨rfl, rfl⟩))
    (fun os started H enc _ => lifted os started H enc)

end Go.Proofs.Ytbhkmmdcdfjbkaa.fnNewFrame
namespace Go.Proofs.Ytbhkmmdcdfjbkaa
/-- THE STATEMENT. -/
theorem fnNew_proved : Rows.FnNewSaid := fnNewFrame.over
#print axioms fnNew_proved
end Go.Proofs.Ytbhkmmdcdfjbkaa
