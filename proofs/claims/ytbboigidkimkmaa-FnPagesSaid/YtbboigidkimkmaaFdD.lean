/-
  Drawn keys, values and changes.
-/
import Derived.Test.YtbboigidkimkmaaSrcM
import Derived.Test.YtbboigidkimkmaaPageO
import Derived.Laws.Concat
namespace Go.Proofs.Ytbboigidkimkmaa
open Go.RowKit

theorem strOne (x : UInt8) : keyK ⟨#[x]⟩ = true := by rfl
set_option maxHeartbeats 1000000 in
theorem chanceD_any (p : Nat) (a : Option Addr) (n c : Nat) (xs : List Int) (K m : Int) (w : World) (h : Src w p a n c xs K) (hK : K ≤ 800000) (hm : 1 ≤ m) (hm2 : m ≤ 100000) :
    Calls Try.prog 44 #[.pointer (some ⟨p, 0, none⟩), .int .i64 m] w fun e w' => ∃ x : Bool, e = .returned (.bool x) ∧ Wrote p w w' ∧ Src w' p a n c xs (K + 3) := by
  go_enter Try.func44, Try.ntmps44
  go_wp2_with fail
  refine (next_any p a n c xs K m w h (by omega) hm hm2).mono ?_
  rintro e w1 ⟨r, rfl, hr0, hr1, ho, hs⟩
  have HO := hide ho.wrote
  have HS := hide hs
  clear ho hs
  go_wp2_with fail
  go_ret
  exact ⟨_, rfl, unhide HO, unhide HS⟩
set_option maxHeartbeats 1000000 in
theorem keyD_any (p : Nat) (a : Option Addr) (n c : Nat) (xs : List Int) (K : Int) (w : World) (h : Src w p a n c xs K) (hK : K ≤ 700000) :
    Calls Try.prog 47 #[.pointer (some ⟨p, 0, none⟩)] w fun e w' => ∃ t : ByteArray, e = .returned (.string t) ∧ (keyK t = true ∧ t.size = 1) ∧ Wrote p w w' ∧ Src w' p a n c xs (K + 3) := by
  have hp := cell_lt h.code
  go_enter Try.func47, Try.ntmps47
  go_wp2_with fail
  refine (pick_any p w.heap.size 10 10 a n c xs K _ (h.alloc _) (by omega) (by omega) (by omega) (by omega) (fun t => keyK t = true ∧ t.size = 1) (fun i hi => ?_)).mono ?_
  · match i, hi with
    | 0, _ => exact ⟨_, by simp; rfl, by decide, rfl⟩
    | 1, _ => exact ⟨_, by simp; rfl, by decide, rfl⟩
    | 2, _ => exact ⟨_, by simp; rfl, by decide, rfl⟩
    | 3, _ => exact ⟨_, by simp; rfl, by decide, rfl⟩
    | 4, _ => exact ⟨_, by simp; rfl, by decide, rfl⟩
    | 5, _ => exact ⟨_, by simp; rfl, by decide, rfl⟩
    | 6, _ => exact ⟨_, by simp; rfl, by decide, rfl⟩
    | 7, _ => exact ⟨_, by simp; rfl, by decide, rfl⟩
    | 8, _ => exact ⟨_, by simp; rfl, by decide, rfl⟩
    | 9, _ => exact ⟨_, by simp; rfl, by decide, rfl⟩
  · rintro e w1 ⟨t, rfl, ht, ho, hs⟩
    have hb : Wrote p w w1 := (Wrote.alloc w p _).trans ho.wrote
    clear ho
    go_wp2_with fail
    go_ret
    exact ⟨t, rfl, ht, hb, hs⟩
set_option maxHeartbeats 1000000 in
theorem valueD_any (p : Nat) (a : Option Addr) (n c : Nat) (xs : List Int) (K : Int) (w : World) (h : Src w p a n c xs K) (hK : K ≤ 700000) :
    Calls Try.prog 50 #[.pointer (some ⟨p, 0, none⟩)] w fun e w' => ∃ t : ByteArray, e = .returned (.string t) ∧ valK t = true ∧ Wrote p w w' ∧ Src w' p a n c xs (K + 3) := by
  have hp := cell_lt h.code
  go_enter Try.func50, Try.ntmps50
  go_wp2_with fail
  refine (pick_any p w.heap.size 4 4 a n c xs K _ (h.alloc _) (by omega) (by omega) (by omega) (by omega) (fun t => valK t = true) (fun i hi => ?_)).mono ?_
  · match i, hi with
    | 0, _ => exact ⟨_, by simp; rfl, by decide⟩
    | 1, _ => exact ⟨_, by simp; rfl, by decide⟩
    | 2, _ => exact ⟨_, by simp; rfl, by decide⟩
    | 3, _ => exact ⟨_, by simp; rfl, by decide⟩
  · rintro e w1 ⟨t, rfl, ht, ho, hs⟩
    have hb : Wrote p w w1 := (Wrote.alloc w p _).trans ho.wrote
    clear ho
    go_wp2_with fail
    go_ret
    exact ⟨t, rfl, ht, hb, hs⟩
set_option maxHeartbeats 1000000 in
theorem longKeyD_any (p : Nat) (a : Option Addr) (n c : Nat) (xs : List Int) (K : Int) (w : World) (h : Src w p a n c xs K) (hK : K ≤ 600000) :
    Calls Try.prog 20 #[.pointer (some ⟨p, 0, none⟩)] w fun e w' => ∃ t : ByteArray, e = .returned (.string t) ∧ keyK t = true ∧ Wrote p w w' ∧ Src w' p a n c xs (K + 6) := by
  go_enter Try.func20, Try.ntmps20
  go_wp2_with fail
  refine (keyD_any p a n c xs K w h (by omega)).mono ?_
  rintro e w1 ⟨t, rfl, ht, hw1, hs1⟩
  have hp := cell_lt hs1.code
  have T1 := hide ht.2
  have W1 := hide hw1
  have S1 := hide hs1
  clear ht hw1 hs1
  go_wp2_with fail
  refine (pick_any p w1.heap.size 6 6 a n c xs (K + 3) _ ((unhide S1).alloc _) (by omega) (by omega) (by omega) (by omega) (fun t => t.size ≤ 1) (fun i hi => ?_)).mono ?_
  · match i, hi with
    | 0, _ => exact ⟨_, by simp; rfl, by decide⟩
    | 1, _ => exact ⟨_, by simp; rfl, by decide⟩
    | 2, _ => exact ⟨_, by simp; rfl, by decide⟩
    | 3, _ => exact ⟨_, by simp; rfl, by decide⟩
    | 4, _ => exact ⟨_, by simp; rfl, by decide⟩
    | 5, _ => exact ⟨_, by simp; rfl, by decide⟩
  · rintro e w2 ⟨u, rfl, hu, ho, hs⟩
    have hb : Wrote p w w2 := (unhide W1).trans ((Wrote.alloc w1 p _).trans ho.wrote)
    have HU := hide hu
    have HB := hide hb
    have HS := hide (hs.more (K' := K + 6) (by omega))
    have hcat : ∀ w', (Op.stringOp .add t u).run Try.prog w' = .ok (.string (t ++ u)) w' := fun w' => run_string_add_sum w' t u (by have := unhide T1; omega)
    clear ho hb hu hs
    go_wp2_with fail
    go_ret
    exact ⟨_, rfl, by have h1 := unhide T1; have h2 := unhide HU; unfold keyK; simp [h1]; omega, unhide HB, unhide HS⟩
/-- A drawn change. -/
def dV (d : DelD) : Value := .agg #[.int .i64 d.kind, .string d.k, .string d.v, .int .i64 d.to]
theorem four_set {w : World} {b : Nat} {v0 v1 v2 v3 : Value} {t : TypeId} (h : w.heap[b]? = some (.cells #[v0, v1, v2, v3] t (0, 0))) : (w.cell? ⟨b, 0, none⟩ = some v0 ∧ w.cell? ⟨b, 1, none⟩ = some v1 ∧ w.cell? ⟨b, 2, none⟩ = some v2 ∧ w.cell? ⟨b, 3, none⟩ = some v3) ∧ w.frozen? ⟨b, 0, none⟩ = false ∧ w.frozen? ⟨b, 1, none⟩ = false ∧ w.frozen? ⟨b, 2, none⟩ = false ∧ w.frozen? ⟨b, 3, none⟩ = false := by
  refine ⟨⟨?_, ?_, ?_, ?_⟩, ?_, ?_, ?_, ?_⟩ <;> simp [World.cell?, World.frozen?, h]
theorem Wrote.loc {p b : Nat} {w w' : World} (h : Wrote p w w') (hb : w.heap.size ≤ b) (j : Nat) (v : Value) : Wrote p w (w'.setCell ⟨b, j, none⟩ v) :=
  ⟨h.os, h.tape, h.output, by simpa [World.setCell] using h.size, fun k hk hl => (Below.heap_setCell _ _ _ _ (by simp; omega)).trans (h.block k hk hl)⟩
theorem Src.set {w : World} {p b : Nat} {a : Option Addr} {n c : Nat} {xs : List Int} {K : Int} (h : Src w p a n c xs K) (hb : p ≠ b) (ha : ∀ x, a = some x → 0 < n → x.block ≠ b) (j : Nat) (v : Value) : Src (w.setCell ⟨b, j, none⟩ v) p a n c xs K :=
  h.of_blocks' (Below.heap_setCell _ _ _ _ hb) (fun x hx hn => Below.heap_setCell _ _ _ _ (ha x hx hn))
end Go.Proofs.Ytbboigidkimkmaa
