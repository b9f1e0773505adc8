/-
  The walks of szFence, szFenceS, toFence, toFenceS.
-/
import Derived.Test.YtdnneomdokcpeaaFnC
namespace Go.Proofs.Ytdnneomdokcpeaa
open Go.RowKit

theorem szFence_any (d : FenD) (left : Int) (w : World) (h0 : 0 ≤ left) (h1 : left ≤ 1048576) (hf : d.f.size ≤ maxLen) (hu : d.u.size ≤ maxLen) :
    Calls Try.prog 62 #[fncV d, .int .i64 left] w fun e w' => ∃ r : Int, e = .returned (.int .i64 r) ∧ (r = -1 ∨ (0 ≤ r ∧ r ≤ left)) ∧ Below w.heap.size w w' := by
  unfold fncV
  unfold maxLen at hf hu
  have b0 : Below w.heap.size w (w.alloc (.cells #[.string d.f, .string d.u, .int .i64 d.t] 102)) := (Below.refl _ _).alloc (Nat.le_refl _) _
  by_cases cf : left - d.f.size < 0
  · go_enter Try.func62, Try.ntmps62
    go_wp2_with fail
    go_ret
    exact ⟨_, rfl, .inl rfl, b0⟩
  · have gf : 0 ≤ left - d.f.size := by omega
    by_cases cu : left - d.f.size - d.u.size < 0
    · go_enter Try.func62, Try.ntmps62
      go_wp2_with fail
      go_ret
      exact ⟨_, rfl, .inl rfl, b0⟩
    · have gu : 0 ≤ left - d.f.size - d.u.size := by omega
      go_enter Try.func62, Try.ntmps62
      go_wp2_with fail
      go_ret
      exact ⟨_, rfl, .inr ⟨gu, by omega⟩, b0⟩
set_option maxHeartbeats 1000000 in
theorem szFenceS_any (a : Option Addr) (n c : Nat) (ds : List FenD) (left : Int) (w : World) (h0 : 0 ≤ left) (h1 : left ≤ 1048576) (hr : FRow w a n ds) (hn : n ≤ maxLen) (ht : ∀ i (hi : i < ds.length), ds[i].f.size ≤ maxLen ∧ ds[i].u.size ≤ maxLen) :
    Calls Try.prog 40 #[.slice a n c, .int .i64 left] w fun e w' => ∃ r : Int, e = .returned (.int .i64 r) ∧ (r = -1 ∨ (0 ≤ r ∧ r ≤ left ∧ (n : Int) ≤ left)) ∧ Below w.heap.size w w' := by
  unfold maxLen at hn
  have L := hide hr.1
  have R := hide hr
  have T := hide ht
  clear hr ht
  by_cases hb : left - n < 0
  · go_enter Try.func40, Try.ntmps40
    go_wp2_with fail
    go_ret
    exact ⟨-1, rfl, .inl rfl, Below.refl _ _⟩
  have hb' : 0 ≤ left - n := by omega
  go_enter Try.func40, Try.ntmps40
  go_wp2_with fail
  go_loopw [1, 5] (fun l i wr => ∃ k : Nat, k ≤ n ∧ i = .int .i64 k ∧ ∃ q : Int, l = .int .i64 q ∧ 0 ≤ q ∧ q ≤ left - n ∧ Below w.heap.size w wr) (fun _ i _ => n - (intOf i).toNat)
  case atStart => exact ⟨0, by omega, rfl, _, rfl, by omega, by omega, Below.refl _ _⟩
  case round =>
    obtain ⟨k, hk, rfl, q, rfl, hq0, hq1, hbel⟩ := hrel
    by_cases hlt : k < n
    · have hk2 : k < ds.length := by rw [unhide L]; exact hlt
      obtain ⟨b, off, rfl, d0, d1, d2⟩ := ((unhide R).below hbel).2 k hk2
      have hsz := hbel.size
      have hT := unhide T k hk2
      generalize ds[k] = pd at *
      go_wp2_with fail
      refine (szFence_any pd q wr hq0 (by omega) hT.1 hT.2).mono ?_
      rintro e w1 ⟨r, rfl, hr, hb1⟩
      have bA := hbel.trans (hb1.mono hsz)
      clear hbel hb1 d0 d1 d2
      rcases hr with rfl | ⟨r0, r1⟩
      · go_wp2_with fail
        go_ret
        exact ⟨-1, rfl, .inl rfl, bA⟩
      · go_wp2_with fail
        go_roundw
        case rel => exact ⟨k + 1, by omega, by go_num, r, rfl, r0, by omega, bA⟩
        case measure => simp [intOf]; omega
    · obtain rfl : k = n := by omega
      go_wp2_with fail
      go_ret
      exact ⟨q, rfl, .inr ⟨hq0, by omega, by omega⟩, hbel⟩
set_option maxHeartbeats 1000000 in
theorem toFence_any (d : FenD) (w : World) :
    Calls Try.prog 66 #[fncV d] w fun e w' => e = .returned (fncV d) ∧ Below w.heap.size w w' := by
  obtain ⟨f, u, t⟩ := d
  unfold fncV
  go_enter Try.func66, Try.ntmps66
  go_wp2_with fail
  exact bodyPost_ret (v := .agg #[.string f, .string u, .int .i64 t]) (by simp [results, Try.results66, go_sem]) rfl ⟨rfl, (((Below.refl _ _).alloc (Nat.le_refl _) _).alloc (by simp) _).alloc (by simp; omega) _⟩
theorem Try.infoFence : (Try.prog.info? 74).map (fun i => (i.zero, i.size, i.bytes)) = some (some (.agg #[.string ByteArray.empty, .string ByteArray.empty, .int .i64 0]), 3, 40) := by kernel_rfl
set_option maxHeartbeats 2000000 in
theorem toFenceS_any (a : Option Addr) (n c : Nat) (ds : List FenD) (w : World) (hn : n ≤ 1048576) (hr : FRow w a n ds) :
    Calls Try.prog 43 #[.slice a n c] w fun e w' => ∃ g, e = .returned (.slice (some ⟨g, 0, none⟩) n n) ∧ FOwns w' w.heap.size (.slice (some ⟨g, 0, none⟩) n n) ds ∧ Below w.heap.size w w' := by
  obtain ⟨i0, hi, hz0, hz1, hz2⟩ := info_parts Try.infoFence
  have L := hide hr.1
  have R := hide hr
  clear hr
  go_enter Try.func43, Try.ntmps43
  go_wp2_with (at_make; refine wpList_make_full _ rfl _ _ 44 rfl w.heap.size 74 i0 _ 3 Try.underlying44 hi hz0 hz1 _ _ _ _ n rfl rfl rfl rfl (by rw [hz2]; omega) (by unfold maxLen; omega) (Nat.le_refl _) ?_)
  intro w1 hown hgrow
  have hl0 := hide (fowns_made (ds := ds) (unhide L) hown)
  have hbel : Below w.heap.size w w1 := (Below.refl _ _).grown hgrow (Nat.le_refl _) (fun k hk => by cases hk)
  clear hown hgrow
  go_wp2_with fail
  go_loopw [4] (fun i wr => ∃ k : Nat, k ≤ n ∧ i = .int .i64 k ∧ Hid (FOwns wr w.heap.size (.slice (some ⟨w.heap.size, 0, none⟩) n n) (filF ds k)) ∧ Below w.heap.size w wr) (fun i _ => n - (intOf i).toNat)
  case atStart => exact ⟨0, by omega, rfl, hl0, hbel⟩
  case round =>
    clear hl0 hbel
    obtain ⟨k, hk, rfl, hla, hb⟩ := hrel
    by_cases hlt : k < n
    · have hk2 : k < ds.length := by rw [unhide L]; exact hlt
      obtain ⟨b, off, rfl, d0, d1, d2⟩ := ((unhide R).below hb).2 k hk2
      have FS := hide (filF_set ds k hk2)
      have FL := hide (filF_len ds (Nat.le_of_lt hk2))
      generalize ds[k] = pd at *
      go_wp2_with fail
      refine (toFence_any pd wr).mono ?_
      rintro e w2 ⟨rfl, hb2⟩
      have hl2 := fowns_below (unhide hla) hb2
      have hlx : k < (filF ds k).length := by rw [unhide FL]; exact hk2
      obtain ⟨e0, e1, e2⟩ := fowns_at hl2 k hlx
      have f0 := fowns_fz hl2 (k * 3)
      have f1 := fowns_fz hl2 (k * 3 + 1)
      have f2 := fowns_fz hl2 (k * 3 + 2)
      have S := hide (show FOwns _ _ _ (filF ds (k + 1)) from unhide FS ▸ fowns_store hl2 k pd)
      have B2 := hide ((((hb.trans (hb2.mono hb.size)).setCell (p := ⟨w.heap.size, k * 3, none⟩) (Nat.le_refl _) (.string pd.f)).setCell (p := ⟨w.heap.size, k * 3 + 1, none⟩) (Nat.le_refl _) (.string pd.u)).setCell (p := ⟨w.heap.size, k * 3 + 2, none⟩) (Nat.le_refl _) (.int .i64 pd.t))
      clear hl2 hb hb2 d0 d1 d2 hla FS FL
      generalize (filF ds k)[k].f = u0 at *
      generalize (filF ds k)[k].u = u1 at *
      generalize (filF ds k)[k].t = u2 at *
      unfold fncV
      go_wp2_with fail
      go_roundw
      case rel => exact ⟨k + 1, by omega, by go_num, unhide S, unhide B2⟩
      case measure => simp [intOf]; omega
    · obtain rfl : k = n := by omega
      have F := hide (show filF ds k = ds by rw [← unhide L]; exact filF_all ds)
      go_wp2_with fail
      go_ret
      exact ⟨_, rfl, by have := unhide hla; rwa [unhide F] at this, hb⟩
end Go.Proofs.Ytdnneomdokcpeaa
