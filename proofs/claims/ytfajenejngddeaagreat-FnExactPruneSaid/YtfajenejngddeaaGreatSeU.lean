/-
  Rows of versions within records: laid anew.
-/
import Derived.Test.YtfajenejngddeaaGreatVnC
import Derived.Test.YtfajenejngddeaaGreatVrT
namespace Go.Proofs.YtfajenejngddeaaGreat
open Go.RowKit

set_option maxHeartbeats 2000000 in
theorem toVersionS_at (a : Option Addr) (n c : Nat) (ds : List VerD) (w : World) (hn : n ≤ 1048576) (hr : VRow w a n ds) :
    Calls Tryz.prog 43 #[.slice a n c] w fun e w' => e = .returned (.slice (some ⟨w.heap.size, 0, none⟩) n n) ∧ VOwns w' w.heap.size (.slice (some ⟨w.heap.size, 0, none⟩) n n) ds ∧ Below w.heap.size w w' := by
  obtain ⟨i0, hi, hz0, hz1, hz2⟩ := info_parts Tryz.infoVersion
  have L := hide hr.1
  have R := hide hr
  clear hr
  go_enter Tryz.func43, Tryz.ntmps43
  go_wp2_with (at_make; refine wpList_make_full _ rfl _ _ 23 rfl w.heap.size 39 i0 _ 4 Tryz.underlying23 hi hz0 hz1 _ _ _ _ n rfl rfl rfl rfl (by rw [hz2]; omega) (by unfold maxLen; omega) (Nat.le_refl _) ?_)
  intro w1 hown hgrow
  have hl0 := hide (vowns_made (ds := ds) (unhide L) hown)
  have hbel : Below w.heap.size w w1 := (Below.refl _ _).grown hgrow (Nat.le_refl _) (fun k hk => by cases hk)
  clear hown hgrow
  go_wp2_with fail
  go_loopw [4] (fun i wr => ∃ k : Nat, k ≤ n ∧ i = .int .i64 k ∧ Hid (VOwns wr w.heap.size (.slice (some ⟨w.heap.size, 0, none⟩) n n) (filV ds k)) ∧ Below w.heap.size w wr) (fun i _ => n - (intOf i).toNat)
  case atStart => exact ⟨0, by omega, rfl, hl0, hbel⟩
  case round =>
    clear hl0 hbel
    obtain ⟨k, hk, rfl, hla, hb⟩ := hrel
    by_cases hlt : k < n
    · have hk2 : k < ds.length := by rw [unhide L]; exact hlt
      obtain ⟨b, off, rfl, d0, d1, d2, d3⟩ := ((unhide R).below hb).2 k hk2
      have FS := hide (filV_set ds k hk2)
      have FL := hide (filV_len ds (Nat.le_of_lt hk2))
      generalize ds[k] = pd at *
      go_wp2_with fail
      refine (toVersion_any pd wr).mono ?_
      rintro e w2 ⟨rfl, hb2⟩
      have hl2 := vowns_below (unhide hla) hb2
      have hlx : k < (filV ds k).length := by rw [unhide FL]; exact hk2
      obtain ⟨e0, e1, e2, e3⟩ := vowns_at hl2 k hlx
      have f0 := vowns_fz hl2 (k * 4)
      have f1 := vowns_fz hl2 (k * 4 + 1)
      have f2 := vowns_fz hl2 (k * 4 + 2)
      have f3 := vowns_fz hl2 (k * 4 + 3)
      have S := hide (show VOwns _ _ _ (filV ds (k + 1)) from unhide FS ▸ vowns_store hl2 k pd)
      have B2 := hide (((((hb.trans (hb2.mono hb.size)).setCell (p := ⟨w.heap.size, k * 4, none⟩) (Nat.le_refl _) (.string pd.k)).setCell (p := ⟨w.heap.size, k * 4 + 1, none⟩) (Nat.le_refl _) (.int .i64 pd.t)).setCell (p := ⟨w.heap.size, k * 4 + 2, none⟩) (Nat.le_refl _) (.string pd.v)).setCell (p := ⟨w.heap.size, k * 4 + 3, none⟩) (Nat.le_refl _) (.bool pd.g))
      clear hl2 hb hb2 d0 d1 d2 d3 hla FS FL
      generalize (filV ds k)[k].k = u0 at *
      generalize (filV ds k)[k].t = u1 at *
      generalize (filV ds k)[k].v = u2 at *
      generalize (filV ds k)[k].g = u3 at *
      unfold vv
      go_wp2_with fail
      go_roundw
      case rel => exact ⟨k + 1, by omega, by go_num, unhide S, unhide B2⟩
      case measure => simp [intOf]; omega
    · obtain rfl : k = n := by omega
      have F := hide (show filV ds k = ds by rw [← unhide L]; exact filV_all ds)
      go_wp2_with fail
      go_ret
      exact ⟨rfl, by have := unhide hla; rwa [unhide F] at this, hb⟩
theorem toVersionS_own (a : Option Addr) (n c : Nat) (ds : List VerD) (w : World) (hn : n ≤ 1048576) (hl : ds.length = n) (hr : RowC w (.slice a n c) n (vcs ds)) :
    Calls Tryz.prog 43 #[.slice a n c] w fun e w' => e = .returned (.slice (some ⟨w.heap.size, 0, none⟩) n n) ∧ w'.ownsRow w.heap.size 39 4 (.slice (some ⟨w.heap.size, 0, none⟩) n n) n (vcs ds) ∧ Below w.heap.size w w' := by
  subst hl
  refine (toVersionS_at a _ c ds w hn (vrow_C hr)).mono ?_
  rintro e w' ⟨rfl, ho, hb⟩
  exact ⟨rfl, ho, hb⟩
end Go.Proofs.YtfajenejngddeaaGreat
