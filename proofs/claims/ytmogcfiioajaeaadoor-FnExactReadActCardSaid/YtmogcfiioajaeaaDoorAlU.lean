/-
  actOf: whatever panics while words are read means that they tell no act.
-/
import Derived.Test.YtmogcfiioajaeaaDoorAlG
import Derived.Defers
import Derived.Recover
import Derived.Tactics2
namespace Go.Proofs.YtmogcfiioajaeaaDoor
open Go.RowKit

set_option maxRecDepth 100000 in
set_option maxHeartbeats 2000000 in
theorem catch_panicking (A C : Nat) (x : Value) (T : TypeId) (older : List PanicEntry) (u0 u1 u2 u3 u4 u5 u6 u7 c0 : Value) (w : World) (hA : w.heap[A]? = some (.cells #[u0, u1, u2, u3, u4, u5, u6, u7] 26 (0, 0))) (hC : w.heap[C]? = some (.cells #[c0] 3 (0, 0))) (hne : C ≠ A) :
    CallsD Tryd.prog 20 #[.pointer (some ⟨A, 0, none⟩), .pointer (some ⟨C, 0, none⟩)] (.panicking ({ v := .iface T x, recovered := false } :: older)) w fun e u' w' =>
      e = .returned (.tuple #[]) ∧ u' = .panicking ({ v := .iface T x, recovered := true } :: older) ∧ w' = (sv8 w A (.int .i64 0) (.int .i64 0) (.int .i64 0) (.int .i64 0) (.string ⟨#[]⟩) (.string ⟨#[]⟩) (.string ⟨#[]⟩) (.slice none 0 0)).setCell ⟨C, 0, none⟩ (.int .i64 3) := by
  have run := run_storeAl hA noAl none 0 0
  unfold sv8d noAl at run
  simp only at run
  have KC : (sv8 w A (.int .i64 0) (.int .i64 0) (.int .i64 0) (.int .i64 0) (.string ⟨#[]⟩) (.string ⟨#[]⟩) (.string ⟨#[]⟩) (.slice none 0 0)).heap[C]? = some (.cells #[c0] 3 (0, 0)) := (sv8_other hne _ _ _ _ _ _ _ _).trans hC
  have hc := (heap_at KC 0).1
  have hz := (heap_at KC 0).2
  have run2 := run_storeN hc hz 3
  generalize sv8 w A (.int .i64 0) (.int .i64 0) (.int .i64 0) (.int .i64 0) (.string ⟨#[]⟩) (.string ⟨#[]⟩) (.string ⟨#[]⟩) (.slice none 0 0) = W at *
  clear hc hz KC hA hC
  refine callsD_of_wpS Tryd.func20 rfl fun c₀ cs hu => ?_
  apply wpS_seq
  apply wpS_region
  simp [wpOpsS, go_sem, recoverD, hu, Tryd.ntmps20, Exit.thenS]
  refine wpS_cond (t := true) (by simp [Act.eval, Array.replicate]) ?_
  simp only [if_true]
  refine wpS_of_wp ?_
  go_wp2_with (first | (refine al_wpStore rfl (.tmp 0) (.tmp 4) 26 rfl _ _ _ (by simp [Act.eval]) (by simp [Act.eval]) run ?_) | (refine al_wpStore rfl (.tmp 1) _ 3 rfl _ _ _ (by rfl) (by rfl) run2 ?_))
  simp [bodyPostS, results, Tryd.results20, go_sem]
theorem catch_idle (A C : Nat) (w : World) :
    CallsD Tryd.prog 20 #[.pointer (some ⟨A, 0, none⟩), .pointer (some ⟨C, 0, none⟩)] .returning w fun e u' w' => e = .returned (.tuple #[]) ∧ u' = .returning ∧ w' = w := by
  refine callsD_of_wpS Tryd.func20 rfl fun c₀ cs hu => ?_
  apply wpS_seq
  apply wpS_region
  simp [wpOpsS, go_sem, recoverD, hu, Tryd.ntmps20, Exit.thenS]
  refine wpS_cond (t := false) (by simp [Act.eval, Array.replicate]) ?_
  simp only [Bool.false_eq_true, if_false]
  refine wpS_of_wp (wp_skip ?_)
  cases c₀
  simp_all [bodyPostS, results, Tryd.results20]
end Go.Proofs.YtmogcfiioajaeaaDoor
