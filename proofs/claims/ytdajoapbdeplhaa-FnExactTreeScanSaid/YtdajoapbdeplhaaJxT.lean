/-
  The walks of szRef, szRefS, toRef, toRefS.
-/
import Derived.Test.YtdajoapbdeplhaaJxC
namespace Go.Proofs.Ytdajoapbdeplhaa
open Go.RowKit

theorem szRef_any (d : RefD) (left : Int) (w : World) (h0 : 0 ≤ left) (h1 : left ≤ 1048576) (hlow : d.low.size ≤ maxLen) :
    Calls Try.prog 48 #[jv d, .int .i64 left] w fun e w' => ∃ r : Int, e = .returned (.int .i64 r) ∧ (r = -1 ∨ (0 ≤ r ∧ r ≤ left)) ∧ Below w.heap.size w w' := by
  unfold jv
  unfold maxLen at hlow
  have b0 : Below w.heap.size w (w.alloc (.cells #[.string d.low, .int .i64 d.id] 89)) := (Below.refl _ _).alloc (Nat.le_refl _) _
  by_cases clow : left - d.low.size < 0
  · go_enter Try.func48, Try.ntmps48
    go_wp2_with fail
    go_ret
    exact ⟨_, rfl, .inl rfl, b0⟩
  · have glow : 0 ≤ left - d.low.size := by omega
    go_enter Try.func48, Try.ntmps48
    go_wp2_with fail
    go_ret
    exact ⟨_, rfl, .inr ⟨glow, by omega⟩, b0⟩
set_option maxHeartbeats 1000000 in
theorem szRefS_any (a : Option Addr) (n c : Nat) (ds : List RefD) (left : Int) (w : World) (h0 : 0 ≤ left) (h1 : left ≤ 1048576) (hr : JRow w a n ds) (hn : n ≤ maxLen) (ht : ∀ i (hi : i < ds.length), ds[i].low.size ≤ maxLen) :
    Calls Try.prog 21 #[.slice a n c, .int .i64 left] w fun e w' => ∃ r : Int, e = .returned (.int .i64 r) ∧ (r = -1 ∨ (0 ≤ r ∧ r ≤ left ∧ (n : Int) ≤ left)) ∧ Below w.heap.size w w' := by
  unfold maxLen at hn
  have L := hide hr.1
  have R := hide hr
  have T := hide ht
  clear hr ht
  by_cases hb : left - n < 0
  · go_enter Try.func21, Try.ntmps21
    go_wp2_with fail
    go_ret
    exact ⟨-1, rfl, .inl rfl, Below.refl _ _⟩
  have hb' : 0 ≤ left - n := by omega
  go_enter Try.func21, Try.ntmps21
  go_wp2_with fail
  go_loopw [1, 5] (fun l i wr => ∃ k : Nat, k ≤ n ∧ i = .int .i64 k ∧ ∃ q : Int, l = .int .i64 q ∧ 0 ≤ q ∧ q ≤ left - n ∧ Below w.heap.size w wr) (fun _ i _ => n - (intOf i).toNat)
  case atStart => exact ⟨0, by omega, rfl, _, rfl, by omega, by omega, Below.refl _ _⟩
  case round =>
    obtain ⟨k, hk, rfl, q, rfl, hq0, hq1, hbel⟩ := hrel
    by_cases hlt : k < n
    · have hk2 : k < ds.length := by rw [unhide L]; exact hlt
      obtain ⟨b, off, rfl, d0, d1⟩ := ((unhide R).below hbel).2 k hk2
      have hsz := hbel.size
      have hT := unhide T k hk2
      generalize ds[k] = pd at *
      go_wp2_with fail
      refine (szRef_any pd q wr hq0 (by omega) hT).mono ?_
      rintro e w1 ⟨r, rfl, hr, hb1⟩
      have bA := hbel.trans (hb1.mono hsz)
      clear hbel hb1 d0 d1
      rcases hr with rfl | ⟨r0, r1⟩
      · go_wp2_with fail
        go_ret
        exact ⟨-1, rfl, .inl rfl, bA⟩
      · go_wp2_with fail
        go_roundw
        case rel => exact ⟨k + 1, by omega, by go_num, r, rfl, r0, by omega, bA⟩
        case measure => simp [intOf]; omega
    · obtain rfl : k = n := by omega
      go_wp2_with fail
      go_ret
      exact ⟨q, rfl, .inr ⟨hq0, by omega, by omega⟩, hbel⟩
set_option maxHeartbeats 1000000 in
theorem toRef_any (d : RefD) (w : World) :
    Calls Try.prog 54 #[jv d] w fun e w' => e = .returned (jv d) ∧ Below w.heap.size w w' := by
  obtain ⟨low, id⟩ := d
  unfold jv
  go_enter Try.func54, Try.ntmps54
  go_wp2_with fail
  exact bodyPost_ret (v := .agg #[.string low, .int .i64 id]) (by simp [results, Try.results54, go_sem]) rfl ⟨rfl, (((Below.refl _ _).alloc (Nat.le_refl _) _).alloc (by simp) _).alloc (by simp; omega) _⟩
theorem Try.infoRef : (Try.prog.info? 55).map (fun i => (i.zero, i.size, i.bytes)) = some (some (.agg #[.string ByteArray.empty, .int .i64 0]), 2, 24) := by kernel_rfl
set_option maxHeartbeats 2000000 in
theorem toRefS_any (a : Option Addr) (n c : Nat) (ds : List RefD) (w : World) (hn : n ≤ 1048576) (hr : JRow w a n ds) :
    Calls Try.prog 28 #[.slice a n c] w fun e w' => ∃ g, e = .returned (.slice (some ⟨g, 0, none⟩) n n) ∧ JOwns w' w.heap.size (.slice (some ⟨g, 0, none⟩) n n) ds ∧ Below w.heap.size w w' := by
  obtain ⟨i0, hi, hz0, hz1, hz2⟩ := info_parts Try.infoRef
  have L := hide hr.1
  have R := hide hr
  clear hr
  go_enter Try.func28, Try.ntmps28
  go_wp2_with (at_make; refine wpList_make_full _ rfl _ _ 30 rfl w.heap.size 55 i0 _ 2 Try.underlying30 hi hz0 hz1 _ _ _ _ n rfl rfl rfl rfl (by rw [hz2]; omega) (by unfold maxLen; omega) (Nat.le_refl _) ?_)
  intro w1 hown hgrow
  have hl0 := hide (jowns_made (ds := ds) (unhide L) hown)
  have hbel : Below w.heap.size w w1 := (Below.refl _ _).grown hgrow (Nat.le_refl _) (fun k hk => by cases hk)
  clear hown hgrow
  go_wp2_with fail
  go_loopw [4] (fun i wr => ∃ k : Nat, k ≤ n ∧ i = .int .i64 k ∧ Hid (JOwns wr w.heap.size (.slice (some ⟨w.heap.size, 0, none⟩) n n) (filJ ds k)) ∧ Below w.heap.size w wr) (fun i _ => n - (intOf i).toNat)
  case atStart => exact ⟨0, by omega, rfl, hl0, hbel⟩
  case round =>
    clear hl0 hbel
    obtain ⟨k, hk, rfl, hla, hb⟩ := hrel
    by_cases hlt : k < n
    · have hk2 : k < ds.length := by rw [unhide L]; exact hlt
      obtain ⟨b, off, rfl, d0, d1⟩ := ((unhide R).below hb).2 k hk2
      have FS := hide (filJ_set ds k hk2)
      have FL := hide (filJ_len ds (Nat.le_of_lt hk2))
      generalize ds[k] = pd at *
      go_wp2_with fail
      refine (toRef_any pd wr).mono ?_
      rintro e w2 ⟨rfl, hb2⟩
      have hl2 := jowns_below (unhide hla) hb2
      have hlx : k < (filJ ds k).length := by rw [unhide FL]; exact hk2
      obtain ⟨e0, e1⟩ := jowns_at hl2 k hlx
      have f0 := jowns_fz hl2 (k * 2)
      have f1 := jowns_fz hl2 (k * 2 + 1)
      have S := hide (show JOwns _ _ _ (filJ ds (k + 1)) from unhide FS ▸ jowns_store hl2 k pd)
      have B2 := hide (((hb.trans (hb2.mono hb.size)).setCell (p := ⟨w.heap.size, k * 2, none⟩) (Nat.le_refl _) (.string pd.low)).setCell (p := ⟨w.heap.size, k * 2 + 1, none⟩) (Nat.le_refl _) (.int .i64 pd.id))
      clear hl2 hb hb2 d0 d1 hla FS FL
      generalize (filJ ds k)[k].low = u0 at *
      generalize (filJ ds k)[k].id = u1 at *
      unfold jv
      go_wp2_with fail
      go_roundw
      case rel => exact ⟨k + 1, by omega, by go_num, unhide S, unhide B2⟩
      case measure => simp [intOf]; omega
    · obtain rfl : k = n := by omega
      have F := hide (show filJ ds k = ds by rw [← unhide L]; exact filJ_all ds)
      go_wp2_with fail
      go_ret
      exact ⟨_, rfl, by have := unhide hla; rwa [unhide F] at this, hb⟩
end Go.Proofs.Ytdajoapbdeplhaa
