/-
  The device's sync, and how many sectors some bytes touch.
-/
import Derived.Test.YtjhmammoakiknaaDevS
import Derived.Test.YtjhmammoakiknaaWriteL
namespace Go.Proofs.Ytjhmammoakiknaa
open Go.RowKit Go.Maps

set_option maxHeartbeats 2000000 in
theorem sync_keep (base p N : Nat) (S : DS) (w : World) (hD : Dev w base p N S) :
    Calls Try.prog 51 #[.pointer (some ⟨p, 0, none⟩)] w fun e w' => e = .returned (.tuple #[]) ∧ Dev w' base p N ⟨S.rc, S.rf, S.rc, S.rf, []⟩ ∧ Below base w w' ∧ KeepB w w' := by
  obtain ⟨mh, mr, v, hd⟩ := hD
  have D0 := hd
  have hD := hide hd
  clear hd
  have k0 := D0.c0
  have k1 := D0.c1
  have k4 := D0.c4
  have hpr : p < w.heap.size := cell_lt D0.c0
  have HCL := hide (secs_clone_any p 2 mr N S.rc S.rf w D0.read D0.c2 D0.c3)
  clear D0
  go_enter Try.func51, Try.ntmps51
  go_wp2_with fail
  refine (unhide HCL).mono ?_
  rintro e w4 ⟨g, rfl, hg, hs4, hb4⟩
  have q0 := (hb4.cell (p := ⟨p, 0, none⟩) hpr).trans k0
  have q1 := (hb4.cell (p := ⟨p, 1, none⟩) hpr).trans k1
  have q4 := (hb4.cell (p := ⟨p, 4, none⟩) hpr).trans k4
  have f0 := (hb4.frozen (p := ⟨p, 0, none⟩) hpr).trans ((unhide hD).free 0)
  have f1 := (hb4.frozen (p := ⟨p, 1, none⟩) hpr).trans ((unhide hD).free 1)
  have f4 := (hb4.frozen (p := ⟨p, 4, none⟩) hpr).trans ((unhide hD).free 4)
  have R := hide ((unhide hD).synced hb4 hg hs4)
  have KB := hide (show ∀ a b c, KeepB w (((w4.setCell ⟨p, 0, none⟩ a).setCell ⟨p, 1, none⟩ b).setCell ⟨p, 4, none⟩ c) from fun a b c => KeepB.of_dev (unhide hD) fun k hk h1 _ _ _ => ((Below.heap_setCell _ _ _ _ h1).trans ((Below.heap_setCell _ _ _ _ h1).trans (Below.heap_setCell _ _ _ _ h1))).trans (hb4.block k hk))
  clear hs4 hb4 k0 k1 k4 HCL
  go_wp2_with fail
  go_end0
  exact ⟨rfl, ⟨g, mr, _, (unhide R).1⟩, (unhide R).2, unhide KB _ _ _⟩
theorem sync_any (base p N : Nat) (S : DS) (w : World) (hD : Dev w base p N S) :
    Calls Try.prog 51 #[.pointer (some ⟨p, 0, none⟩)] w fun e w' => e = .returned (.tuple #[]) ∧ Dev w' base p N ⟨S.rc, S.rf, S.rc, S.rf, []⟩ ∧ Below base w w' :=
  (sync_keep base p N S w hD).mono fun _ _ ⟨h1, h2, h3, _⟩ => ⟨h1, h2, h3⟩
set_option maxHeartbeats 1000000 in
theorem touched_any (at_ n : Nat) (w : World) (h : at_ + n ≤ 100000) :
    Calls Try.prog 69 #[.int .i64 (at_ : Int), .int .i64 (n : Int)] w fun e w' => e = .returned (.int .i64 ((touchN at_ n : Nat) : Int)) ∧ w' = w := by
  by_cases h0 : n = 0
  · subst h0
    go_enter Try.func69, Try.ntmps69
    go_wp2_with fail
    go_ret
    exact ⟨rfl, rfl⟩
  · have hn : ¬ ((n : Int) = 0) := by omega
    have hb : ((n : Int) == 0) = false := by simpa using hn
    have T := hide (show ((touchN at_ n : Nat) : Int) = ((at_ + n - 1) / 16 - at_ / 16 + 1 : Nat) by unfold touchN; rw [if_neg h0])
    have w1 : IntKind.i64.wrap ((at_ : Int) + (n : Int)) = (at_ : Int) + (n : Int) := by rw [IntKind.wrap_i64]; omega
    have w2 : IntKind.i64.wrap ((at_ : Int) + (n : Int) - 1) = (at_ : Int) + (n : Int) - 1 := by rw [IntKind.wrap_i64]; omega
    go_enter Try.func69, Try.ntmps69
    go_wp2_with fail
    go_ret
    exact ⟨ret_int (by rw [unhide T]; simp; omega), rfl⟩
end Go.Proofs.Ytjhmammoakiknaa
