/-
  The walks of l03Image, l03Bytes and ImageBytes, the specification's.
-/
import Derived.Test.YtdiakahaghggiaaImgI
import Derived.Test.YtdiakahaghggiaaCrcS
namespace Go.Proofs.Ytdiakahaghggiaa
open Go.RowKit

theorem l01In_i (p lo hi : Int) (w : World) : Calls Try.prog 37 #[.int .i64 p, .int .i64 lo, .int .i64 hi] w fun e w' => e = .returned (.bool (decide (lo ≤ p) && decide (p ≤ hi))) ∧ w' = w := by
  go_enter Try.func37, Try.ntmps37
  go_wp2_with fail
  all_goals go_ret
  all_goals exact ⟨ret_bool (by simp_all; try omega), rfl⟩
set_option maxHeartbeats 1000000 in
theorem l03Image_any (id : Int) (gone : Bool) (a : Option Addr) (n c : Nat) (w : World) (hn : n ≤ maxLen) :
    Calls Try.prog 51 #[iv id gone a n c] w fun e w' => e = .returned (.bool (imOK id gone n)) ∧ Below w.heap.size w w' := by
  unfold maxLen at hn
  have B0 : ∀ o, Below w.heap.size w (w.alloc o) := fun o => (Below.refl _ _).alloc (Nat.le_refl _) _
  by_cases h1 : 0 ≤ id ∧ id ≤ 1000
  · have hI : ∀ w, Calls Try.prog 37 #[.int .i64 id, .int .i64 0, .int .i64 1000] w fun e w' => e = .returned (.bool true) ∧ w' = w := fun w => by
      have := l01In_i id 0 1000 w
      rwa [decide_eq_true h1.1, decide_eq_true h1.2] at this
    have HI := hide hI
    clear hI
    cases gone
    all_goals
      go_enter Try.func51, Try.ntmps51
      go_wp2_with (go_at_call 37; refine (unhide HI _).mono ?_; rintro e w1 ⟨rfl, rfl⟩)
      all_goals go_ret
      all_goals exact ⟨ret_bool (by rw [Bool.eq_iff_iff]; simp_all [imOK]; try omega), B0 _⟩
  · have hI : ∀ w, Calls Try.prog 37 #[.int .i64 id, .int .i64 0, .int .i64 1000] w fun e w' => e = .returned (.bool false) ∧ w' = w := fun w => by
      have := l01In_i id 0 1000 w
      have e : (decide (0 ≤ id) && decide (id ≤ 1000)) = false := by rw [← Bool.decide_and]; exact decide_eq_false h1
      rwa [e] at this
    have HI := hide hI
    clear hI
    go_enter Try.func51, Try.ntmps51
    go_wp2_with (go_at_call 37; refine (unhide HI _).mono ?_; rintro e w1 ⟨rfl, rfl⟩)
    go_ret
    exact ⟨ret_bool (imOK_no (fun h => h1 ⟨h.1, h.2.1⟩)).symm, B0 _⟩
set_option maxRecDepth 100000 in
set_option maxHeartbeats 4000000 in
theorem l03Bytes_false (id : Int) (b off c : Nat) (xs : List Int) (w : World) (h : imOK id false xs.length = true) (h1 : Row w (some ⟨b, off, none⟩) xs.length xs) (h8 : Bytes8 xs) :
    Calls Try.prog 52 #[iv id false (some ⟨b, off, none⟩) xs.length c] w fun e w' => ∃ v, e = .returned v ∧ Owns w' w.heap.size v (imgL id false xs) ∧ v ≠ .slice none 0 0 ∧ Below w.heap.size w w' := by
  obtain ⟨i0, hi, hz0, hz1, hz2⟩ := info_parts Try.infoU8
  obtain ⟨g0, g1, g2, g3⟩ := of_decide_eq_true h
  clear g3
  have H8 := hide h8
  have R := hide h1
  clear h h1 h8
  have hb0 : Below w.heap.size w (w.alloc (.cells #[.int .i64 id, .bool false, .slice (some ⟨b, off, none⟩) xs.length c] 53)) := (Below.refl _ _).alloc (Nat.le_refl _) _
  have x0 : (w.alloc (.cells #[.int .i64 id, .bool false, .slice (some ⟨b, off, none⟩) xs.length c] 53)).cell? ⟨w.heap.size, 0, none⟩ = some (.int .i64 id) := (cell_new1 rfl).trans rfl
  have x1 : (w.alloc (.cells #[.int .i64 id, .bool false, .slice (some ⟨b, off, none⟩) xs.length c] 53)).cell? ⟨w.heap.size, 1, none⟩ = some (.bool false) := (cell_new1 rfl).trans rfl
  have x2 : (w.alloc (.cells #[.int .i64 id, .bool false, .slice (some ⟨b, off, none⟩) xs.length c] 53)).cell? ⟨w.heap.size, 2, none⟩ = some (.slice (some ⟨b, off, none⟩) xs.length c) := (cell_new1 rfl).trans rfl
  have hsz : (w.alloc (.cells #[.int .i64 id, .bool false, .slice (some ⟨b, off, none⟩) xs.length c] 53)).heap.size = w.heap.size + 1 := by simp
  have q1 : (xs.length : Int) / 256 % 256 = (xs.length : Int) / 256 := by omega
  have q2 : id / 256 % 256 = id / 256 := by omega
  have O0 : Owns ((w.alloc (.cells #[.int .i64 id, .bool false, .slice (some ⟨b, off, none⟩) xs.length c] 53)).alloc (.cells #[.int .u8 1, .int .u8 (id / 256), .int .u8 (id % 256), .int .u8 ((xs.length : Int) / 256), .int .u8 ((xs.length : Int) % 256)] 5)) (w.heap.size + 1) (.slice (some ⟨w.heap.size + 1, 0, none⟩) 5 5) [1, id / 256, id % 256, (xs.length : Int) / 256, (xs.length : Int) % 256] := by
    have := World.ownsRow_lit (base := w.heap.size + 1) (e := 5) (size := 1) (w.alloc (.cells #[.int .i64 id, .bool false, .slice (some ⟨b, off, none⟩) xs.length c] 53)) #[.int .u8 1, .int .u8 (id / 256), .int .u8 (id % 256), .int .u8 ((xs.length : Int) / 256), .int .u8 ((xs.length : Int) % 256)] 5 (by simp) (by unfold maxLen; simp) rfl
    rw [hsz] at this
    exact this
  have HO := hide O0
  have HBB := hide (hb0.alloc (by rw [hsz]; omega) (.cells #[.int .u8 1, .int .u8 (id / 256), .int .u8 (id % 256), .int .u8 ((xs.length : Int) / 256), .int .u8 ((xs.length : Int) % 256)] 5))
  clear O0
  clear hsz
  go_enter Try.func52, Try.ntmps52
  go_wp2_with (at_builtin; refine wpList_append_own _ rfl _ _ 22 rfl (w.heap.size + 1) 5 i0 (.int .u8 0) 1 1 Try.underlying22 hi hz0 hz1 hz2 rfl (by decide) _ 5 _ rfl (unhide HO) ⟨b, off, none⟩ xs.length c (xs.map (Value.int .u8)) rfl (by simp) (row_cells' (row_grow' (unhide R) (unhide HBB))) (all_u8 _) (by unfold maxLen; omega) (by omega) (by simp) ?_)
  intro v3 w3 hown3 hgrow3 hnil3
  have O3 : Owns w3 (w.heap.size + 1) v3 (imgH id false xs) := owns_apps (xs := [1, id / 256, id % 256, (xs.length : Int) / 256, (xs.length : Int) % 256]) rfl hown3
  have HB3 := hide ((unhide HBB).grown hgrow3 (by simp; omega) (fun k hk => by cases hk; simp))
  have hs3 : w.heap.size + 1 ≤ w3.heap.size := by have := hgrow3.size; simp at this; omega
  have hv3 : v3 ≠ .slice none 0 0 := fun e => by subst e; have := congrArg List.length (owns_nonnil O3); simp [imgH] at this
  obtain ⟨g, cap, rfl, hr3⟩ := owns_row O3 hv3
  have HH := hide (imgH_bytes (gone := false) (unhide H8) g0 (show id ≤ 65535 by omega) (show xs.length ≤ 65535 by omega))
  have hl3 : (imgH id false xs).length ≤ 2000 := by rw [imgH_length]; omega
  have HI := hide (show imgL id false xs = imgH id false xs ++ four (crcV (imgH id false xs)) from rfl)
  have hcv := crcV_lt (unhide HH)
  clear hown3 hgrow3 hnil3 HO HBB hv3 R x0 x1 x2 hb0 H8 q1 q2
  generalize imgH id false xs = ys at *
  have q3 : (crcV ys : Int) / 16777216 % 256 = (crcV ys : Int) / 16777216 := by omega
  go_wp2_with (first | (go_at_call 49; refine (l03Crc_any (some ⟨g, 0, none⟩) ys.length cap ys w3 (by omega) hr3 (unhide HH)).mono ?_; rintro e w4 ⟨rfl, rfl⟩) | (at_builtin; refine wpList_append_own _ rfl _ _ 22 rfl (w.heap.size + 1) 5 i0 (.int .u8 0) 1 1 Try.underlying22 hi hz0 hz1 hz2 rfl (by decide) _ ys.length _ rfl (World.ownsRow.alloc O3 _) ⟨w4.heap.size, 0, none⟩ 4 4 [.int .u8 ((crcV ys : Int) / 16777216), .int .u8 ((crcV ys : Int) / 65536 % 256), .int .u8 ((crcV ys : Int) / 256 % 256), .int .u8 ((crcV ys : Int) % 256)] rfl rfl cells_new (four_u8 _ _ _ _) (by unfold maxLen; omega) (by omega) (by simp; omega) ?_))
  intro v5 w5 hown5 hgrow5 hnil5
  have O5 := hide (owns_down (owns_app4 hown5) (show w.heap.size ≤ w.heap.size + 1 by omega))
  have B5 := hide (below_app (unhide HB3) (by omega) (owns_down O3 (show w.heap.size ≤ w.heap.size + 1 by omega)) hgrow5)
  have N5 := hide (show v5 ≠ .slice none 0 0 from hnil5)
  clear hown5 hgrow5 hnil5 O3 HB3 hr3
  go_wp2_with fail
  go_ret
  exact ⟨_, rfl, by rw [unhide HI]; exact unhide O5, unhide N5, unhide B5⟩
set_option maxRecDepth 100000 in
set_option maxHeartbeats 4000000 in
theorem l03Bytes_true (id : Int) (b off c : Nat) (xs : List Int) (w : World) (h : imOK id true xs.length = true) (h1 : Row w (some ⟨b, off, none⟩) xs.length xs) (h8 : Bytes8 xs) :
    Calls Try.prog 52 #[iv id true (some ⟨b, off, none⟩) xs.length c] w fun e w' => ∃ v, e = .returned v ∧ Owns w' w.heap.size v (imgL id true xs) ∧ v ≠ .slice none 0 0 ∧ Below w.heap.size w w' := by
  obtain ⟨i0, hi, hz0, hz1, hz2⟩ := info_parts Try.infoU8
  obtain ⟨g0, g1, g2, g3⟩ := of_decide_eq_true h
  clear g3
  have H8 := hide h8
  have R := hide h1
  clear h h1 h8
  have hb0 : Below w.heap.size w (w.alloc (.cells #[.int .i64 id, .bool true, .slice (some ⟨b, off, none⟩) xs.length c] 53)) := (Below.refl _ _).alloc (Nat.le_refl _) _
  have x0 : (w.alloc (.cells #[.int .i64 id, .bool true, .slice (some ⟨b, off, none⟩) xs.length c] 53)).cell? ⟨w.heap.size, 0, none⟩ = some (.int .i64 id) := (cell_new1 rfl).trans rfl
  have x1 : (w.alloc (.cells #[.int .i64 id, .bool true, .slice (some ⟨b, off, none⟩) xs.length c] 53)).cell? ⟨w.heap.size, 1, none⟩ = some (.bool true) := (cell_new1 rfl).trans rfl
  have x2 : (w.alloc (.cells #[.int .i64 id, .bool true, .slice (some ⟨b, off, none⟩) xs.length c] 53)).cell? ⟨w.heap.size, 2, none⟩ = some (.slice (some ⟨b, off, none⟩) xs.length c) := (cell_new1 rfl).trans rfl
  have hsz : (w.alloc (.cells #[.int .i64 id, .bool true, .slice (some ⟨b, off, none⟩) xs.length c] 53)).heap.size = w.heap.size + 1 := by simp
  have q1 : (xs.length : Int) / 256 % 256 = (xs.length : Int) / 256 := by omega
  have q2 : id / 256 % 256 = id / 256 := by omega
  have O0 : Owns ((w.alloc (.cells #[.int .i64 id, .bool true, .slice (some ⟨b, off, none⟩) xs.length c] 53)).alloc (.cells #[.int .u8 2, .int .u8 (id / 256), .int .u8 (id % 256), .int .u8 ((xs.length : Int) / 256), .int .u8 ((xs.length : Int) % 256)] 5)) (w.heap.size + 1) (.slice (some ⟨w.heap.size + 1, 0, none⟩) 5 5) [2, id / 256, id % 256, (xs.length : Int) / 256, (xs.length : Int) % 256] := by
    have := World.ownsRow_lit (base := w.heap.size + 1) (e := 5) (size := 1) (w.alloc (.cells #[.int .i64 id, .bool true, .slice (some ⟨b, off, none⟩) xs.length c] 53)) #[.int .u8 2, .int .u8 (id / 256), .int .u8 (id % 256), .int .u8 ((xs.length : Int) / 256), .int .u8 ((xs.length : Int) % 256)] 5 (by simp) (by unfold maxLen; simp) rfl
    rw [hsz] at this
    exact this
  have HO := hide O0
  have HBB := hide (hb0.alloc (by rw [hsz]; omega) (.cells #[.int .u8 2, .int .u8 (id / 256), .int .u8 (id % 256), .int .u8 ((xs.length : Int) / 256), .int .u8 ((xs.length : Int) % 256)] 5))
  clear O0
  clear hsz
  go_enter Try.func52, Try.ntmps52
  go_wp2_with (at_builtin; refine wpList_append_own _ rfl _ _ 22 rfl (w.heap.size + 1) 5 i0 (.int .u8 0) 1 1 Try.underlying22 hi hz0 hz1 hz2 rfl (by decide) _ 5 _ rfl (unhide HO) ⟨b, off, none⟩ xs.length c (xs.map (Value.int .u8)) rfl (by simp) (row_cells' (row_grow' (unhide R) (unhide HBB))) (all_u8 _) (by unfold maxLen; omega) (by omega) (by simp) ?_)
  intro v3 w3 hown3 hgrow3 hnil3
  have O3 : Owns w3 (w.heap.size + 1) v3 (imgH id true xs) := owns_apps (xs := [2, id / 256, id % 256, (xs.length : Int) / 256, (xs.length : Int) % 256]) rfl hown3
  have HB3 := hide ((unhide HBB).grown hgrow3 (by simp; omega) (fun k hk => by cases hk; simp))
  have hs3 : w.heap.size + 1 ≤ w3.heap.size := by have := hgrow3.size; simp at this; omega
  have hv3 : v3 ≠ .slice none 0 0 := fun e => by subst e; have := congrArg List.length (owns_nonnil O3); simp [imgH] at this
  obtain ⟨g, cap, rfl, hr3⟩ := owns_row O3 hv3
  have HH := hide (imgH_bytes (gone := true) (unhide H8) g0 (show id ≤ 65535 by omega) (show xs.length ≤ 65535 by omega))
  have hl3 : (imgH id true xs).length ≤ 2000 := by rw [imgH_length]; omega
  have HI := hide (show imgL id true xs = imgH id true xs ++ four (crcV (imgH id true xs)) from rfl)
  have hcv := crcV_lt (unhide HH)
  clear hown3 hgrow3 hnil3 HO HBB hv3 R x0 x1 x2 hb0 H8 q1 q2
  generalize imgH id true xs = ys at *
  have q3 : (crcV ys : Int) / 16777216 % 256 = (crcV ys : Int) / 16777216 := by omega
  go_wp2_with (first | (go_at_call 49; refine (l03Crc_any (some ⟨g, 0, none⟩) ys.length cap ys w3 (by omega) hr3 (unhide HH)).mono ?_; rintro e w4 ⟨rfl, rfl⟩) | (at_builtin; refine wpList_append_own _ rfl _ _ 22 rfl (w.heap.size + 1) 5 i0 (.int .u8 0) 1 1 Try.underlying22 hi hz0 hz1 hz2 rfl (by decide) _ ys.length _ rfl (World.ownsRow.alloc O3 _) ⟨w4.heap.size, 0, none⟩ 4 4 [.int .u8 ((crcV ys : Int) / 16777216), .int .u8 ((crcV ys : Int) / 65536 % 256), .int .u8 ((crcV ys : Int) / 256 % 256), .int .u8 ((crcV ys : Int) % 256)] rfl rfl cells_new (four_u8 _ _ _ _) (by unfold maxLen; omega) (by omega) (by simp; omega) ?_))
  intro v5 w5 hown5 hgrow5 hnil5
  have O5 := hide (owns_down (owns_app4 hown5) (show w.heap.size ≤ w.heap.size + 1 by omega))
  have B5 := hide (below_app (unhide HB3) (by omega) (owns_down O3 (show w.heap.size ≤ w.heap.size + 1 by omega)) hgrow5)
  have N5 := hide (show v5 ≠ .slice none 0 0 from hnil5)
  clear hown5 hgrow5 hnil5 O3 HB3 hr3
  go_wp2_with fail
  go_ret
  exact ⟨_, rfl, by rw [unhide HI]; exact unhide O5, unhide N5, unhide B5⟩
theorem l03Bytes_any0 (id : Int) (gone : Bool) (b off c : Nat) (xs : List Int) (w : World) (h : imOK id gone xs.length = true) (h1 : Row w (some ⟨b, off, none⟩) xs.length xs) (h8 : Bytes8 xs) :
    Calls Try.prog 52 #[iv id gone (some ⟨b, off, none⟩) xs.length c] w fun e w' => ∃ v, e = .returned v ∧ Owns w' w.heap.size v (imgL id gone xs) ∧ v ≠ .slice none 0 0 ∧ Below w.heap.size w w' := by
  cases gone
  · exact l03Bytes_false id b off c xs w h h1 h8
  · exact l03Bytes_true id b off c xs w h h1 h8
theorem l03Bytes_any (id : Int) (gone : Bool) (b off c : Nat) (xs : List Int) (w : World) (_ : xs.length ≤ c) (h : imOK id gone xs.length = true) (h1 : Row w (some ⟨b, off, none⟩) xs.length xs) (h8 : Bytes8 xs) :
    Calls Try.prog 52 #[iv id gone (some ⟨b, off, none⟩) xs.length c] w fun e w' => ∃ v, e = .returned v ∧ Owns w' w.heap.size v (imgL id gone xs) ∧ v ≠ .slice none 0 0 ∧ Below w.heap.size w w' := l03Bytes_any0 id gone b off c xs w h h1 h8
end Go.Proofs.Ytdiakahaghggiaa
