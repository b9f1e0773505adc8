/-
  spec.VersionAt.
-/
import Derived.Test.YtdnneomdokcpeaaVaS
import Derived.Test.YtdnneomdokcpeaaVsB
namespace Go.Proofs.Ytdnneomdokcpeaa
open Go.RowKit Go.Maps

set_option maxRecDepth 100000 in
set_option maxHeartbeats 4000000 in
theorem specVersionAt_any (a : Option Addr) (n c : Nat) (ds : List VerD) (k : ByteArray) (t : Int) (w : World) (hn : n ≤ 1048576) (hr : VRow w a n ds) :
    Calls Try.prog 25 #[.slice a n c, .string k, .int .i64 t] w fun e w' => VaRes ds k t w e w' := by
  have LN := hide hr.1
  have R := hide hr
  clear hr
  have b0 : Below w.heap.size w (w.alloc (.cells #[.string ⟨#[]⟩, .int .i64 0, .string ⟨#[]⟩, .bool false] 52)) := (Below.refl _ _).alloc (Nat.le_refl _) _
  have KR := hide (heap_alloc_new w (.cells #[.string ⟨#[]⟩, .int .i64 0, .string ⟨#[]⟩, .bool false] 52))
  have zs : (w.alloc (.cells #[.string ⟨#[]⟩, .int .i64 0, .string ⟨#[]⟩, .bool false] 52)).heap.size = w.heap.size + 1 := by simp
  have q3 : w.heap.size ≤ w.heap.size := Nat.le_refl _
  by_cases h4 : n ≤ 4096
  · have g4 : ¬ (4096 : Int) < (n : Int) := by omega
    by_cases h5 : k.size ≤ 65536
    · have g5 : ¬ (65536 : Int) < (k.size : Int) := by omega
      have LL : ds.length ≤ 4096 ∧ k.size ≤ 65536 := ⟨by rw [unhide LN]; exact h4, h5⟩
      have RW := hide ((unhide R).below b0)
      go_enter Try.func25, Try.ntmps25
      go_wp2_with fail
      generalize w.alloc (.cells #[.string ⟨#[]⟩, .int .i64 0, .string ⟨#[]⟩, .bool false] 52) = W at *
      refine (l06List_any a n c ds W hn (unhide RW)).mono ?_
      rintro e w1 ⟨rfl, hb1⟩
      have B1 := b0.trans (hb1.mono b0.size)
      have KR1 := hide ((hb1.block w.heap.size (by omega)).trans (unhide KR))
      have R1 := hide ((unhide R).below B1)
      have s1 := hb1.size
      clear KR RW R hb1 b0
      cases hok : okVs ds with
      | false =>
        obtain ⟨y0, y1, y2, y3⟩ : w1.cell? ⟨w.heap.size, 0, none⟩ = some (.string ⟨#[]⟩) ∧ w1.cell? ⟨w.heap.size, 1, none⟩ = some (.int .i64 0) ∧ w1.cell? ⟨w.heap.size, 2, none⟩ = some (.string ⟨#[]⟩) ∧ w1.cell? ⟨w.heap.size, 3, none⟩ = some (.bool false) := ⟨(heap_at (unhide KR1) 0).1, (heap_at (unhide KR1) 1).1, (heap_at (unhide KR1) 2).1, (heap_at (unhide KR1) 3).1⟩
        have f0 := (heap_at (unhide KR1) 0).2
        have f1 := (heap_at (unhide KR1) 1).2
        have f2 := (heap_at (unhide KR1) 2).2
        have f3 := (heap_at (unhide KR1) 3).2
        go_wp2_with fail
        refine bodyPost_ret (v := .tuple #[vv noV, .int .i64 1]) (by unfold vv noV; simp [results, Try.results25, go_sem, *] <;> rfl) rfl ?_
        exact va_bad LL hok ((((B1.setCell (p := ⟨w.heap.size, 0, none⟩) q3 _).setCell (p := ⟨w.heap.size, 1, none⟩) q3 _).setCell (p := ⟨w.heap.size, 2, none⟩) q3 _).setCell (p := ⟨w.heap.size, 3, none⟩) q3 _)
      | true =>
        have VW := hide (l06At_any a n c ds k t w1 hn (unhide R1))
        go_wp2_with fail
        refine (unhide VW).mono ?_
        intro e w4 hv
        rcases hv with ⟨x, rfl, hva, hb4⟩ | ⟨x, rfl, hva, hb4⟩
        · have B4 := B1.trans (hb4.mono B1.size)
          have KR4 := hide ((hb4.block w.heap.size (by omega)).trans (unhide KR1))
          have s4 := hb4.size
          clear KR1 hb4 VW R1
          obtain ⟨xk, xt, xv, xg⟩ := x
          unfold vv
          have bL : Below w4.heap.size w4 (w4.alloc (.cells #[.string xk, .int .i64 xt, .string xv, .bool xg] 52)) := (Below.refl _ _).alloc (Nat.le_refl _) _
          have B5 := B4.trans (bL.mono B4.size)
          have KR5 := hide ((bL.block w.heap.size (by omega)).trans (unhide KR4))
          clear KR4 bL B1
          obtain ⟨y0, y1, y2, y3⟩ : (w4.alloc (.cells #[.string xk, .int .i64 xt, .string xv, .bool xg] 52)).cell? ⟨w.heap.size, 0, none⟩ = some (.string ⟨#[]⟩) ∧ (w4.alloc (.cells #[.string xk, .int .i64 xt, .string xv, .bool xg] 52)).cell? ⟨w.heap.size, 1, none⟩ = some (.int .i64 0) ∧ (w4.alloc (.cells #[.string xk, .int .i64 xt, .string xv, .bool xg] 52)).cell? ⟨w.heap.size, 2, none⟩ = some (.string ⟨#[]⟩) ∧ (w4.alloc (.cells #[.string xk, .int .i64 xt, .string xv, .bool xg] 52)).cell? ⟨w.heap.size, 3, none⟩ = some (.bool false) := ⟨(heap_at (unhide KR5) 0).1, (heap_at (unhide KR5) 1).1, (heap_at (unhide KR5) 2).1, (heap_at (unhide KR5) 3).1⟩
          have f0 := (heap_at (unhide KR5) 0).2
          have f1 := (heap_at (unhide KR5) 1).2
          have f2 := (heap_at (unhide KR5) 2).2
          have f3 := (heap_at (unhide KR5) 3).2
          go_wp2_with fail
          refine bodyPost_ret (v := .tuple #[vv noV, .int .i64 5]) (by unfold vv noV; simp [results, Try.results25, go_sem, *] <;> rfl) rfl ?_
          exact va_none LL hok hva ((((B5.setCell (p := ⟨w.heap.size, 0, none⟩) q3 _).setCell (p := ⟨w.heap.size, 1, none⟩) q3 _).setCell (p := ⟨w.heap.size, 2, none⟩) q3 _).setCell (p := ⟨w.heap.size, 3, none⟩) q3 _)
        · have B4 := B1.trans (hb4.mono B1.size)
          have KR4 := hide ((hb4.block w.heap.size (by omega)).trans (unhide KR1))
          have s4 := hb4.size
          clear KR1 hb4 VW R1
          obtain ⟨xk, xt, xv, xg⟩ := x
          unfold vv
          have bL : Below w4.heap.size w4 (w4.alloc (.cells #[.string xk, .int .i64 xt, .string xv, .bool xg] 52)) := (Below.refl _ _).alloc (Nat.le_refl _) _
          have B5 := B4.trans (bL.mono B4.size)
          have KR5 := hide ((bL.block w.heap.size (by omega)).trans (unhide KR4))
          clear KR4 bL B1
          obtain ⟨y0, y1, y2, y3⟩ : (w4.alloc (.cells #[.string xk, .int .i64 xt, .string xv, .bool xg] 52)).cell? ⟨w.heap.size, 0, none⟩ = some (.string ⟨#[]⟩) ∧ (w4.alloc (.cells #[.string xk, .int .i64 xt, .string xv, .bool xg] 52)).cell? ⟨w.heap.size, 1, none⟩ = some (.int .i64 0) ∧ (w4.alloc (.cells #[.string xk, .int .i64 xt, .string xv, .bool xg] 52)).cell? ⟨w.heap.size, 2, none⟩ = some (.string ⟨#[]⟩) ∧ (w4.alloc (.cells #[.string xk, .int .i64 xt, .string xv, .bool xg] 52)).cell? ⟨w.heap.size, 3, none⟩ = some (.bool false) := ⟨(heap_at (unhide KR5) 0).1, (heap_at (unhide KR5) 1).1, (heap_at (unhide KR5) 2).1, (heap_at (unhide KR5) 3).1⟩
          have f0 := (heap_at (unhide KR5) 0).2
          have f1 := (heap_at (unhide KR5) 1).2
          have f2 := (heap_at (unhide KR5) 2).2
          have f3 := (heap_at (unhide KR5) 3).2
          go_wp2_with fail
          refine bodyPost_ret (v := .tuple #[vv ⟨xk, xt, xv, xg⟩, .int .i64 0]) (by unfold vv; simp [results, Try.results25, go_sem, *] <;> rfl) rfl ?_
          exact va_some LL hok hva ((((B5.setCell (p := ⟨w.heap.size, 0, none⟩) q3 _).setCell (p := ⟨w.heap.size, 1, none⟩) q3 _).setCell (p := ⟨w.heap.size, 2, none⟩) q3 _).setCell (p := ⟨w.heap.size, 3, none⟩) q3 _)
    · have g5 : (65536 : Int) < (k.size : Int) := by omega
      go_enter Try.func25, Try.ntmps25
      go_wp2_with fail
      refine bodyPost_ret (v := .tuple #[vv noV, .int .i64 2]) (by unfold vv noV; simp [results, Try.results25, go_sem, *] <;> rfl) rfl ?_
      exact va_long (by exact fun x => h5 x.2) b0
  · have g4 : (4096 : Int) < (n : Int) := by omega
    go_enter Try.func25, Try.ntmps25
    go_wp2_with fail
    refine bodyPost_ret (v := .tuple #[vv noV, .int .i64 2]) (by unfold vv noV; simp [results, Try.results25, go_sem, *] <;> rfl) rfl ?_
    exact va_long (by exact fun x => h4 (by have := unhide LN; omega)) b0
end Go.Proofs.Ytdnneomdokcpeaa
