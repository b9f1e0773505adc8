/-
  The walks of szEntry, szEntryS, szDelta, szDeltaS, szPage, toEntry, toEntryS, toDelta, toDeltaS, toPage.
-/
import Derived.Test.YtkggpapmhopaeaaPgC
namespace Go.Proofs.Ytkggpapmhopaeaa
open Go.RowKit

theorem szEntry_any (d : EntD) (left : Int) (w : World) (h0 : 0 ≤ left) (h1 : left ≤ 1048576) (hk : d.k.size ≤ maxLen) (hv : d.v.size ≤ maxLen) :
    Calls Try.prog 63 #[.agg #[.string d.k, .string d.v], .int .i64 left] w fun e w' => ∃ r : Int, e = .returned (.int .i64 r) ∧ (r = -1 ∨ (0 ≤ r ∧ r ≤ left)) ∧ Below w.heap.size w w' := by
  unfold maxLen at hk hv
  have b0 : Below w.heap.size w (w.alloc (.cells #[.string d.k, .string d.v] 92)) := (Below.refl _ _).alloc (Nat.le_refl _) _
  by_cases h : left - d.k.size < 0
  · go_enter Try.func63, Try.ntmps63
    go_wp2_with fail
    go_ret
    exact ⟨_, rfl, .inl rfl, b0⟩
  · have hge : 0 ≤ left - d.k.size := by omega
    by_cases h' : left - d.k.size - d.v.size < 0
    · go_enter Try.func63, Try.ntmps63
      go_wp2_with fail
      go_ret
      exact ⟨_, rfl, .inl rfl, b0⟩
    · have hge' : 0 ≤ left - d.k.size - d.v.size := by omega
      go_enter Try.func63, Try.ntmps63
      go_wp2_with fail
      go_ret
      exact ⟨_, rfl, .inr ⟨hge', by omega⟩, b0⟩
theorem szDelta_any (d : DelD) (left : Int) (w : World) (h0 : 0 ≤ left) (h1 : left ≤ 1048576) (hk : d.k.size ≤ maxLen) (hv : d.v.size ≤ maxLen) :
    Calls Try.prog 18 #[.agg #[.int .i64 d.kind, .string d.k, .string d.v, .int .i64 d.to], .int .i64 left] w fun e w' => ∃ r : Int, e = .returned (.int .i64 r) ∧ (r = -1 ∨ (0 ≤ r ∧ r ≤ left)) ∧ Below w.heap.size w w' := by
  unfold maxLen at hk hv
  have b0 : Below w.heap.size w (w.alloc (.cells #[.int .i64 d.kind, .string d.k, .string d.v, .int .i64 d.to] 40)) := (Below.refl _ _).alloc (Nat.le_refl _) _
  by_cases h : left - d.k.size < 0
  · go_enter Try.func18, Try.ntmps18
    go_wp2_with fail
    go_ret
    exact ⟨_, rfl, .inl rfl, b0⟩
  · have hge : 0 ≤ left - d.k.size := by omega
    by_cases h' : left - d.k.size - d.v.size < 0
    · go_enter Try.func18, Try.ntmps18
      go_wp2_with fail
      go_ret
      exact ⟨_, rfl, .inl rfl, b0⟩
    · have hge' : 0 ≤ left - d.k.size - d.v.size := by omega
      go_enter Try.func18, Try.ntmps18
      go_wp2_with fail
      go_ret
      exact ⟨_, rfl, .inr ⟨hge', by omega⟩, b0⟩
set_option maxHeartbeats 1000000 in
theorem szEntryS_any (a : Option Addr) (n c : Nat) (es : List EntD) (left : Int) (w : World) (h0 : 0 ≤ left) (h1 : left ≤ 1048576) (hr : ERow w a n es) (hn : n ≤ maxLen) (ht : ∀ i (hi : i < es.length), es[i].k.size ≤ maxLen ∧ es[i].v.size ≤ maxLen) :
    Calls Try.prog 31 #[.slice a n c, .int .i64 left] w fun e w' => ∃ r : Int, e = .returned (.int .i64 r) ∧ (r = -1 ∨ (0 ≤ r ∧ r ≤ left ∧ (n : Int) ≤ left)) ∧ Below w.heap.size w w' := by
  unfold maxLen at hn
  have L := hide hr.1
  have R := hide hr
  have T := hide ht
  clear hr ht
  by_cases hb : left - n < 0
  · go_enter Try.func31, Try.ntmps31
    go_wp2_with fail
    go_ret
    exact ⟨-1, rfl, .inl rfl, Below.refl _ _⟩
  have hb' : 0 ≤ left - n := by omega
  go_enter Try.func31, Try.ntmps31
  go_wp2_with fail
  go_loopw [1, 5] (fun l i wr => ∃ k : Nat, k ≤ n ∧ i = .int .i64 k ∧ ∃ q : Int, l = .int .i64 q ∧ 0 ≤ q ∧ q ≤ left - n ∧ Below w.heap.size w wr) (fun _ i _ => n - (intOf i).toNat)
  case atStart => exact ⟨0, by omega, rfl, _, rfl, by omega, by omega, Below.refl _ _⟩
  case round =>
    obtain ⟨k, hk, rfl, q, rfl, hq0, hq1, hbel⟩ := hrel
    by_cases hlt : k < n
    · have hk2 : k < es.length := by rw [unhide L]; exact hlt
      obtain ⟨b, off, rfl, d0, d1⟩ := ((unhide R).below hbel).2 k hk2
      have hsz := hbel.size
      have hT := unhide T k hk2
      generalize es[k] = pd at *
      go_wp2_with fail
      refine (szEntry_any _ q wr hq0 (by omega) hT.1 hT.2).mono ?_
      rintro e w1 ⟨r, rfl, hr, hb1⟩
      have bA := hbel.trans (hb1.mono hsz)
      clear hbel hb1 d0 d1
      rcases hr with rfl | ⟨r0, r1⟩
      · go_wp2_with fail
        go_ret
        exact ⟨-1, rfl, .inl rfl, bA⟩
      · go_wp2_with fail
        go_roundw
        case rel => exact ⟨k + 1, by omega, by go_num, r, rfl, r0, by omega, bA⟩
        case measure => simp [intOf]; omega
    · obtain rfl : k = n := by omega
      go_wp2_with fail
      go_ret
      exact ⟨q, rfl, .inr ⟨hq0, by omega, by omega⟩, hbel⟩
set_option maxHeartbeats 1000000 in
theorem szDeltaS_any (a : Option Addr) (n c : Nat) (ds : List DelD) (left : Int) (w : World) (h0 : 0 ≤ left) (h1 : left ≤ 1048576) (hr : DRow w a n ds) (hn : n ≤ maxLen) (ht : ∀ i (hi : i < ds.length), ds[i].k.size ≤ maxLen ∧ ds[i].v.size ≤ maxLen) :
    Calls Try.prog 32 #[.slice a n c, .int .i64 left] w fun e w' => ∃ r : Int, e = .returned (.int .i64 r) ∧ (r = -1 ∨ (0 ≤ r ∧ r ≤ left ∧ (n : Int) ≤ left)) ∧ Below w.heap.size w w' := by
  unfold maxLen at hn
  have L := hide hr.1
  have R := hide hr
  have T := hide ht
  clear hr ht
  by_cases hb : left - n < 0
  · go_enter Try.func32, Try.ntmps32
    go_wp2_with fail
    go_ret
    exact ⟨-1, rfl, .inl rfl, Below.refl _ _⟩
  have hb' : 0 ≤ left - n := by omega
  go_enter Try.func32, Try.ntmps32
  go_wp2_with fail
  go_loopw [1, 5] (fun l i wr => ∃ k : Nat, k ≤ n ∧ i = .int .i64 k ∧ ∃ q : Int, l = .int .i64 q ∧ 0 ≤ q ∧ q ≤ left - n ∧ Below w.heap.size w wr) (fun _ i _ => n - (intOf i).toNat)
  case atStart => exact ⟨0, by omega, rfl, _, rfl, by omega, by omega, Below.refl _ _⟩
  case round =>
    obtain ⟨k, hk, rfl, q, rfl, hq0, hq1, hbel⟩ := hrel
    by_cases hlt : k < n
    · have hk2 : k < ds.length := by rw [unhide L]; exact hlt
      obtain ⟨b, off, rfl, d0, d1, d2, d3⟩ := ((unhide R).below hbel).2 k hk2
      have hsz := hbel.size
      have hT := unhide T k hk2
      generalize ds[k] = pd at *
      go_wp2_with fail
      refine (szDelta_any _ q wr hq0 (by omega) hT.1 hT.2).mono ?_
      rintro e w1 ⟨r, rfl, hr, hb1⟩
      have bA := hbel.trans (hb1.mono hsz)
      clear hbel hb1 d0 d1 d2 d3
      rcases hr with rfl | ⟨r0, r1⟩
      · go_wp2_with fail
        go_ret
        exact ⟨-1, rfl, .inl rfl, bA⟩
      · go_wp2_with fail
        go_roundw
        case rel => exact ⟨k + 1, by omega, by go_num, r, rfl, r0, by omega, bA⟩
        case measure => simp [intOf]; omega
    · obtain rfl : k = n := by omega
      go_wp2_with fail
      go_ret
      exact ⟨q, rfl, .inr ⟨hq0, by omega, by omega⟩, hbel⟩
set_option maxHeartbeats 1000000 in
theorem toEntry_any (d : EntD) (w : World) :
    Calls Try.prog 65 #[.agg #[.string d.k, .string d.v]] w fun e w' => e = .returned (.agg #[.string d.k, .string d.v]) ∧ Below w.heap.size w w' := by
  obtain ⟨k, v⟩ := d
  go_enter Try.func65, Try.ntmps65
  go_wp2_with fail
  exact bodyPost_ret (v := .agg #[.string k, .string v]) (by simp [results, Try.results65, go_sem]) rfl ⟨rfl, (((Below.refl _ _).alloc (Nat.le_refl _) _).alloc (by simp) _).alloc (by simp; omega) _⟩
set_option maxHeartbeats 1000000 in
theorem toDelta_any (d : DelD) (w : World) :
    Calls Try.prog 20 #[.agg #[.int .i64 d.kind, .string d.k, .string d.v, .int .i64 d.to]] w fun e w' => e = .returned (.agg #[.int .i64 d.kind, .string d.k, .string d.v, .int .i64 d.to]) ∧ Below w.heap.size w w' := by
  obtain ⟨kind, k, v, u⟩ := d
  go_enter Try.func20, Try.ntmps20
  go_wp2_with fail
  exact bodyPost_ret (v := .agg #[.int .i64 kind, .string k, .string v, .int .i64 u]) (by simp [results, Try.results20, go_sem]) rfl ⟨rfl, (((Below.refl _ _).alloc (Nat.le_refl _) _).alloc (by simp) _).alloc (by simp; omega) _⟩
theorem Try.infoDelta : (Try.prog.info? 44).map (fun i => (i.zero, i.size, i.bytes)) = some (some (.agg #[.int .i64 0, .string ByteArray.empty, .string ByteArray.empty, .int .i64 0]), 4, 48) := by kernel_rfl
set_option maxHeartbeats 2000000 in
theorem toEntryS_any (a : Option Addr) (n c : Nat) (es : List EntD) (w : World) (hn : n ≤ 1048576) (hr : ERow w a n es) :
    Calls Try.prog 38 #[.slice a n c] w fun e w' => ∃ g, e = .returned (.slice (some ⟨g, 0, none⟩) n n) ∧ EOwns w' w.heap.size (.slice (some ⟨g, 0, none⟩) n n) es ∧ Below w.heap.size w w' := by
  obtain ⟨i0, hi, hz0, hz1, hz2⟩ := info_parts Try.infoEntry
  have L := hide hr.1
  have R := hide hr
  clear hr
  go_enter Try.func38, Try.ntmps38
  go_wp2_with (at_make; refine wpList_make_full _ rfl _ _ 28 rfl w.heap.size 58 i0 _ 2 Try.underlying28 hi hz0 hz1 _ _ _ _ n rfl rfl rfl rfl (by rw [hz2]; omega) (by unfold maxLen; omega) (Nat.le_refl _) ?_)
  intro w1 hown hgrow
  have hl0 := hide (eowns_made (es := es) (unhide L) hown)
  have hbel : Below w.heap.size w w1 := (Below.refl _ _).grown hgrow (Nat.le_refl _) (fun k hk => by cases hk)
  clear hown hgrow
  go_wp2_with fail
  go_loopw [4] (fun i wr => ∃ k : Nat, k ≤ n ∧ i = .int .i64 k ∧ Hid (EOwns wr w.heap.size (.slice (some ⟨w.heap.size, 0, none⟩) n n) (filE es k)) ∧ Below w.heap.size w wr) (fun i _ => n - (intOf i).toNat)
  case atStart => exact ⟨0, by omega, rfl, hl0, hbel⟩
  case round =>
    clear hl0 hbel
    obtain ⟨k, hk, rfl, hla, hb⟩ := hrel
    by_cases hlt : k < n
    · have hk2 : k < es.length := by rw [unhide L]; exact hlt
      obtain ⟨b, off, rfl, d0, d1⟩ := ((unhide R).below hb).2 k hk2
      have FS := hide (filE_set es k hk2)
      have FL := hide (filE_len es (Nat.le_of_lt hk2))
      generalize es[k] = pd at *
      go_wp2_with fail
      refine (toEntry_any pd wr).mono ?_
      rintro e w2 ⟨rfl, hb2⟩
      have hl2 := eowns_below (unhide hla) hb2
      have hlx : k < (filE es k).length := by rw [unhide FL]; exact hk2
      obtain ⟨e0, e1⟩ := eowns_at hl2 k hlx
      have f0 := eowns_fz hl2 (k * 2)
      have f1 := eowns_fz hl2 (k * 2 + 1)
      have S := hide (show EOwns _ _ _ (filE es (k + 1)) from unhide FS ▸ eowns_store hl2 k pd)
      have B2 := hide (((hb.trans (hb2.mono hb.size)).setCell (p := ⟨w.heap.size, k * 2, none⟩) (Nat.le_refl _) (.string pd.k)).setCell (p := ⟨w.heap.size, k * 2 + 1, none⟩) (Nat.le_refl _) (.string pd.v))
      clear hl2 hb hb2 d0 d1 hla FS FL
      generalize (filE es k)[k].k = u0 at *
      generalize (filE es k)[k].v = u1 at *
      go_wp2_with fail
      go_roundw
      case rel => exact ⟨k + 1, by omega, by go_num, unhide S, unhide B2⟩
      case measure => simp [intOf]; omega
    · obtain rfl : k = n := by omega
      have F := hide (show filE es k = es by rw [← unhide L]; exact filE_all es)
      go_wp2_with fail
      go_ret
      exact ⟨_, rfl, by have := unhide hla; rwa [unhide F] at this, hb⟩
set_option maxHeartbeats 2000000 in
theorem toDeltaS_any (a : Option Addr) (n c : Nat) (ds : List DelD) (w : World) (hn : n ≤ 1048576) (hr : DRow w a n ds) :
    Calls Try.prog 39 #[.slice a n c] w fun e w' => ∃ g, e = .returned (.slice (some ⟨g, 0, none⟩) n n) ∧ DOwns w' w.heap.size (.slice (some ⟨g, 0, none⟩) n n) ds ∧ Below w.heap.size w w' := by
  obtain ⟨i0, hi, hz0, hz1, hz2⟩ := info_parts Try.infoDelta
  have L := hide hr.1
  have R := hide hr
  clear hr
  go_enter Try.func39, Try.ntmps39
  go_wp2_with (at_make; refine wpList_make_full _ rfl _ _ 29 rfl w.heap.size 44 i0 _ 4 Try.underlying29 hi hz0 hz1 _ _ _ _ n rfl rfl rfl rfl (by rw [hz2]; omega) (by unfold maxLen; omega) (Nat.le_refl _) ?_)
  intro w1 hown hgrow
  have hl0 := hide (downs_made (ds := ds) (unhide L) hown)
  have hbel : Below w.heap.size w w1 := (Below.refl _ _).grown hgrow (Nat.le_refl _) (fun k hk => by cases hk)
  clear hown hgrow
  go_wp2_with fail
  go_loopw [4] (fun i wr => ∃ k : Nat, k ≤ n ∧ i = .int .i64 k ∧ Hid (DOwns wr w.heap.size (.slice (some ⟨w.heap.size, 0, none⟩) n n) (filD ds k)) ∧ Below w.heap.size w wr) (fun i _ => n - (intOf i).toNat)
  case atStart => exact ⟨0, by omega, rfl, hl0, hbel⟩
  case round =>
    clear hl0 hbel
    obtain ⟨k, hk, rfl, hla, hb⟩ := hrel
    by_cases hlt : k < n
    · have hk2 : k < ds.length := by rw [unhide L]; exact hlt
      obtain ⟨b, off, rfl, d0, d1, d2, d3⟩ := ((unhide R).below hb).2 k hk2
      have FS := hide (filD_set ds k hk2)
      have FL := hide (filD_len ds (Nat.le_of_lt hk2))
      generalize ds[k] = pd at *
      go_wp2_with fail
      refine (toDelta_any pd wr).mono ?_
      rintro e w2 ⟨rfl, hb2⟩
      have hl2 := downs_below (unhide hla) hb2
      have hlx : k < (filD ds k).length := by rw [unhide FL]; exact hk2
      obtain ⟨e0, e1, e2, e3⟩ := downs_at hl2 k hlx
      have f0 := downs_fz hl2 (k * 4)
      have f1 := downs_fz hl2 (k * 4 + 1)
      have f2 := downs_fz hl2 (k * 4 + 2)
      have f3 := downs_fz hl2 (k * 4 + 3)
      have S := hide (show DOwns _ _ _ (filD ds (k + 1)) from unhide FS ▸ downs_store hl2 k pd)
      have B2 := hide (((((hb.trans (hb2.mono hb.size)).setCell (p := ⟨w.heap.size, k * 4, none⟩) (Nat.le_refl _) (.int .i64 pd.kind)).setCell (p := ⟨w.heap.size, k * 4 + 1, none⟩) (Nat.le_refl _) (.string pd.k)).setCell (p := ⟨w.heap.size, k * 4 + 2, none⟩) (Nat.le_refl _) (.string pd.v)).setCell (p := ⟨w.heap.size, k * 4 + 3, none⟩) (Nat.le_refl _) (.int .i64 pd.to))
      clear hl2 hb hb2 d0 d1 d2 d3 hla FS FL
      generalize (filD ds k)[k].kind = u0 at *
      generalize (filD ds k)[k].k = u1 at *
      generalize (filD ds k)[k].v = u2 at *
      generalize (filD ds k)[k].to = u3 at *
      go_wp2_with fail
      go_roundw
      case rel => exact ⟨k + 1, by omega, by go_num, unhide S, unhide B2⟩
      case measure => simp [intOf]; omega
    · obtain rfl : k = n := by omega
      have F := hide (show filD ds k = ds by rw [← unhide L]; exact filD_all ds)
      go_wp2_with fail
      go_ret
      exact ⟨_, rfl, by have := unhide hla; rwa [unhide F] at this, hb⟩
end Go.Proofs.Ytkggpapmhopaeaa
