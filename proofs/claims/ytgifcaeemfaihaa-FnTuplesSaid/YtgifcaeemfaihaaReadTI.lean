/-
  The walk of ReadTuple, the program's.
-/
import Derived.Test.YtgifcaeemfaihaaReadTL
set_option maxRecDepth 100000
namespace Go.Proofs.Ytgifcaeemfaihaa
open Go.RowKit
attribute [local go_sem] run_store_float

set_option maxHeartbeats 2000000 in
theorem readTuple_any (a : Option Addr) (n c : Nat) (xs : List Int) (w : World) (hn : n ≤ 1048576) (hnc : n ≤ c) (hc : c ≤ maxLen) (hr : Row w a n xs) (hby : ∀ i, i < n → 0 ≤ xs.getD i 0 ∧ xs.getD i 0 ≤ 255) :
    Calls Try.prog 24 #[.slice a n c] w fun e w' => ∃ v, e = .returned (.tuple #[v, .int .i64 (rtA xs).2]) ∧ POwns w' w.heap.size v (rtA xs).1 ∧ Below w.heap.size w w' := by
  obtain ⟨i0, hi, hz0, hz1, hz2⟩ := info_parts Try.infoPart
  have L := hide hr.1
  have H := hide hr
  have BY := hide hby
  clear hr hby
  by_cases hl : 65536 < n
  · have E := hide (show rtA xs = ([], 2) by unfold rtA; rw [if_pos (by rw [unhide L]; exact hl)])
    go_enter Try.func24, Try.ntmps24
    go_wp2_with fail
    go_ret2
    exact ⟨_, by rw [unhide E]; rfl, by rw [unhide E]; exact World.ownsRow_nil _ _ _ _, Below.refl _ _⟩
  have E := hide (show rtA xs = rdT n xs 0 [] by unfold rtA; rw [if_neg (by rw [unhide L]; exact hl), unhide L])
  go_enter Try.func24, Try.ntmps24
  go_wp2_with fail
  go_loopw [4, 5] (fun v i wr => ∃ (k : Nat) (acc : List PartD) (f : Nat), k ≤ n ∧ i = .int .i64 k ∧ acc.length ≤ 6 ∧ POwns wr w.heap.size v acc ∧ Below w.heap.size w wr ∧ Hid (n - k ≤ f) ∧ Hid (rdT n xs 0 [] = rdT f xs k acc)) (fun _ i _ => n - (intOf i).toNat)
  case atStart => exact ⟨0, [], n, by omega, rfl, by simp, World.ownsRow_nil _ _ _ _, Below.refl _ _, by show n - 0 ≤ n; omega, rfl⟩
  case round =>
    obtain ⟨k, acc, f, hk, rfl, h6, ho, hb, hf, he⟩ := hrel
    by_cases hlt : k < n
    · have hkx : k < xs.length := by rw [unhide L]; exact hlt
      have hfx : xs.length - k ≤ f := by rw [unhide L]; exact unhide hf
      obtain ⟨b, off, rfl, e1⟩ := (unhide H).2 k hlt
      have hbl : b < w.heap.size := cell_lt e1
      have R := hide ((unhide H).below hb (fun x hx => by cases hx; exact hbl))
      have hsz := hb.size
      have O := hide ho
      have EN := hide (fun h => (unhide he).trans (rdT_none (acc := acc) hkx hfx h))
      have EF := hide (fun d q (h : rdP xs k = some (d, q)) (h6 : acc.length = 6) => (unhide he).trans (rdT_full hkx hfx h h6))
      have ES := hide (fun d q (h : rdP xs k = some (d, q)) (h6 : ¬ acc.length = 6) => rdT_step hkx hfx h h6)
      have PL := hide (fun d q (h : rdP xs k = some (d, q)) => rdP_place hkx h)
      clear e1 ho hfx hkx
      go_wp2_with fail
      refine (partAt_any b off n c k xs wr hn hnc hc hlt (unhide R) (unhide BY)).mono ?_
      rintro e w2 ⟨rfl, hb2⟩
      have bA : Below w.heap.size w w2 := hb.trans (hb2.mono hsz)
      have hs2 : w.heap.size ≤ w2.heap.size := bA.size
      have O2 := powns_below (unhide O) hb2
      clear hb hb2 R O
      cases hrp : rdP xs k with
      | none =>
        have E2 := hide ((unhide E).trans (unhide EN hrp))
        clear hrp O2
        simp only [paV]
        go_wp2_with fail
        go_ret2
        exact ⟨_, by rw [unhide E2]; rfl, by rw [unhide E2]; exact World.ownsRow_nil _ _ _ _, bA.alloc hs2 _⟩
      | some x =>
        obtain ⟨d, q⟩ := x
        have hq := unhide PL d q hrp
        rw [unhide L] at hq
        obtain ⟨hq1, hq2⟩ := hq
        by_cases hfull : acc.length = 6
        · have E2 := hide ((unhide E).trans (unhide EF d q hrp hfull))
          have hv := powns_val O2
          rw [hfull] at hv
          obtain ⟨a1, c1, rfl⟩ := hv
          clear hrp O2 hfull EN EF ES PL
          simp only [paV]
          go_wp2_with fail
          go_ret2
          exact ⟨_, by rw [unhide E2]; rfl, by rw [unhide E2]; exact World.ownsRow_nil _ _ _ _, bA.alloc hs2 _⟩
        · obtain ⟨f2, hf2, he2⟩ := unhide ES d q hrp hfull
          have HF := hide (show n - q ≤ f2 by rw [unhide L] at hf2; exact hf2)
          have HE := hide ((unhide he).trans he2)
          have hq6 : ((acc.length : Int) == 6) = false := by simp; omega
          obtain ⟨a1, c1, rfl⟩ := powns_val O2
          clear hrp EN EF ES PL hf2 he2
          simp only [paV]
          go_wp2_with (at_builtin; refine wpList_append_own _ rfl _ _ 40 rfl w.heap.size 47 i0 (.agg #[.int .i64 0, .int .i64 0, .float .f64 0, .string ByteArray.empty]) 4 40 Try.underlying40 hi hz0 hz1 hz2 rfl (by decide) _ _ _ rfl ((O2.alloc _).alloc _) ⟨w2.heap.size + 1, 0, none⟩ 1 1 (cells4 d) rfl rfl cells_new1 (part_cells d) (by unfold maxLen; omega) (by omega) (by simp; omega) ?_)
          intro v3 w3 hown3 hgrow3 _
          have O3 := hide (powns_app hown3)
          have B3 := hide (below_appP bA hs2 O2 hgrow3)
          clear O2 hown3 hgrow3 bA hs2
          go_wp2_with fail
          go_roundw
          case rel => exact ⟨q, acc ++ [d], f2, by omega, rfl, by simp; omega, unhide O3, unhide B3, unhide HF, unhide HE⟩
          case measure => simp [intOf]; omega
    · have E2 := hide ((unhide E).trans ((unhide he).trans (rdT_end (by rw [unhide L]; omega))))
      have O := hide ho
      clear ho
      go_wp2_with fail
      go_ret2
      exact ⟨_, by rw [unhide E2]; rfl, by rw [unhide E2]; exact unhide O, hb⟩
end Go.Proofs.Ytgifcaeemfaihaa
