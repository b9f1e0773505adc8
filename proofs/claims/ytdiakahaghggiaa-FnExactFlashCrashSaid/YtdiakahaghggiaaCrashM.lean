/-
  The walks of markFlash and heldFlash of a device where nothing waits; flags that came in as an argument, opened.
-/
import Derived.Test.YtdiakahaghggiaaBoolS
import Derived.Test.YtdiakahaghggiaaHeldB
import Derived.Test.YtdiakahaghggiaaTail
import Derived.Test.YtdiakahaghggiaaFlashIn
import Derived.Deep.Grids
namespace Go.Proofs.Ytdiakahaghggiaa
open Go.RowKit Go.ChangeShapes Go.WideShapes

theorem markWriteS_nil (k0 : Int) (w : World) : Calls Try.prog 44 #[.slice none 0 0, .int .i64 k0] w fun e w' => e = .returned (.int .i64 k0) ∧ w' = w := by
  go_enter Try.func44, Try.ntmps44
  go_wp2_with fail
  refine wp_loop_rounds 1 ?_
  rw [rounds_succ]
  go_wp2_with fail
  go_ret
  exact ⟨rfl, rfl⟩
theorem heldWriteS_nil (k0 : Int) (w : World) : Calls Try.prog 48 #[.slice none 0 0, .int .i64 k0] w fun e w' => e = .returned (.int .i64 k0) ∧ w' = w := by
  go_enter Try.func48, Try.ntmps48
  go_wp2_with fail
  refine wp_loop_rounds 1 ?_
  rw [rounds_succ]
  go_wp2_with fail
  go_ret
  exact ⟨rfl, rfl⟩
set_option maxHeartbeats 1000000 in
theorem markFlash0_any (S : Nat → Prop) (a : Option Addr) (n c : Nat) (k0 : Nat) (xs : List Int) (w : World) (hn : n ≤ 1048576) (hk : k0 ≤ 4000000) (h1 : Row w a n xs) (h2 : ∀ x, a = some x → x.block < w.heap.size ∧ ∀ j, w.frozen? ⟨x.block, j, none⟩ = false) (hS : ∀ x, a = some x → ¬ S x.block) :
    Calls Try.prog 16 #[fv a n c none 0 0, .int .i64 (k0 : Int)] w fun e w' => e = .returned (.int .i64 ((k0 + n : Nat) : Int)) ∧ Row w' a n (marks (k0 : Int) n) ∧ Band S w w' := by
  have hb0 : ∀ o, Below w.heap.size w (w.alloc o) := fun o => (Below.refl _ _).alloc (Nat.le_refl _) _
  have HC := hide (fun o => markByteS_any a n c xs (k0 : Int) (w.alloc o) (by omega) (by omega) (by omega) (row_grow h1 (hb0 o)) (fun x hx j => ((hb0 o).frozen (p := ⟨x.block, j, none⟩) (h2 x hx).1).trans ((h2 x hx).2 j)))
  have H0 := hide hb0
  have H2 := hide (show ∀ x, a = some x → x.block ≠ w.heap.size from fun x hx => by have := (h2 x hx).1; omega)
  clear h1 h2 hb0
  go_enter Try.func16, Try.ntmps16
  go_wp2_with fail
  refine (unhide HC _).mono ?_
  rintro e w1 ⟨rfl, r1, t1⟩
  have p1 : w1.cell? ⟨w.heap.size, 1, none⟩ = some (.slice none 0 0) := by
    rcases t1 with rfl | ⟨x, hx, ho⟩
    · exact (cell_new rfl).trans rfl
    · exact (ho.cell (p := ⟨w.heap.size, 1, none⟩) (fun e => unhide H2 x hx e.symm)).trans ((cell_new rfl).trans rfl)
  have B1 := hide ((Band.grow (S := S) (unhide H0 (.cells #[.slice a n c, .slice none 0 0] 30))).trans (Band.touch t1 hS))
  have R1 := hide r1
  have HM := hide (fun w => markWriteS_nil ((k0 : Int) + (n : Int)) w)
  clear HC H0 r1 t1
  go_wp2_with fail
  refine (unhide HM _).mono ?_
  rintro e w2 ⟨rfl, rfl⟩
  go_wp2_with fail
  go_ret
  exact ⟨ret_int (by omega), unhide R1, unhide B1⟩
set_option maxHeartbeats 1000000 in
theorem heldFlash0_any (a : Option Addr) (n c : Nat) (k0 : Nat) (w : World) (hn : n ≤ 1048576) (hk : k0 ≤ 4000000) (h1 : Row w a n (marks (k0 : Int) n)) :
    Calls Try.prog 24 #[fv a n c none 0 0, .int .i64 (k0 : Int)] w fun e w' => e = .returned (.int .i64 ((k0 + n : Nat) : Int)) ∧ Below w.heap.size w w' := by
  have hb0 : ∀ o, Below w.heap.size w (w.alloc o) := fun o => (Below.refl _ _).alloc (Nat.le_refl _) _
  have HC := hide (fun o => heldByteS_any a n c (k0 : Int) (w.alloc o) (by omega) (by omega) (by omega) (row_grow h1 (hb0 o)))
  have H0 := hide hb0
  clear h1 hb0
  go_enter Try.func24, Try.ntmps24
  go_wp2_with fail
  refine (unhide HC _).mono ?_
  rintro e w1 ⟨rfl, rfl⟩
  have HM := hide (fun w => heldWriteS_nil ((k0 : Int) + (n : Int)) w)
  clear HC
  go_wp2_with fail
  refine (unhide HM _).mono ?_
  rintro e w2 ⟨rfl, rfl⟩
  go_wp2_with fail
  go_ret
  exact ⟨ret_int (by omega), unhide H0 _⟩
/-- Flags that came in. -/
def IsBools (w : World) (a : Option Addr) (n : Nat) (bs : List Bool) : Prop := BRow w a n bs ∧ n ≤ maxLen
theorem open_bools {H : Type} {enc : TypeId × Value → H} {w : World} {base : Nat} {held : Bool} {a : Option Addr} {len cap : Nat} {fuel : Nat} {x : DataW H × List MemPlace}
    (h : DataW.trod enc Try.prog w base (fun _ => true) held fuel 39 [.slice a len cap] = some x) : ∃ bs, IsBools w a len bs := by
  rcases Deep.open_bools Try.underlying39 Try.underlying4 (by kernel_rfl) h with ⟨hcs, _⟩ | ⟨y, l, c, B, hcs, _, hl, hm, _, hcell⟩
  · simp at hcs
    obtain ⟨rfl, rfl, rfl⟩ := hcs
    exact ⟨[], ⟨rfl, fun i hi => absurd hi (Nat.not_lt_zero _)⟩, by unfold maxLen; omega⟩
  · simp at hcs
    obtain ⟨rfl, rfl, rfl⟩ := hcs
    refine ⟨(List.range len).map B, ⟨by simp, fun i hi => ?_⟩, by omega⟩
    obtain ⟨b, off, spot⟩ := y
    have hs : spot = none := by simpa [Addr.add] using World.cell?_spot (hcell 0 (by omega))
    subst hs
    have e : (⟨b, off, none⟩ : Addr).add i = ⟨b, off + i, none⟩ := by unfold Addr.add; split <;> simp_all
    have := hcell i (by omega)
    rw [e] at this
    exact ⟨b, off, rfl, by rw [this]; simp [List.getD, hi]⟩
end Go.Proofs.Ytdiakahaghggiaa
