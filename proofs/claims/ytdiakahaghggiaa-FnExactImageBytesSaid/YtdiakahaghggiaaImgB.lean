/-
  The walks of ImageBytes, the program's and the specification's.
-/
import Derived.Test.YtdiakahaghggiaaImgI1
import Derived.Test.YtdiakahaghggiaaImgI2
import Derived.Test.YtdiakahaghggiaaImgS
namespace Go.Proofs.Ytdiakahaghggiaa
open Go.RowKit

theorem imageBytes_any0 (id : Int) (gone : Bool) (b off c : Nat) (xs : List Int) (w : World) (h : imOK id gone xs.length = true) (h1 : Row w (some ⟨b, off, none⟩) xs.length xs) (h8 : Bytes8 xs) :
    Calls Try.prog 54 #[iv id gone (some ⟨b, off, none⟩) xs.length c] w fun e w' => ∃ v, e = .returned v ∧ Owns w' w.heap.size v (imgL id gone xs) ∧ v ≠ .slice none 0 0 ∧ Below w.heap.size w w' := by
  cases gone
  · exact imageBytes_false id b off c xs w h h1 h8
  · exact imageBytes_true id b off c xs w h h1 h8
theorem imageBytes_any (id : Int) (gone : Bool) (b off c : Nat) (xs : List Int) (w : World) (_ : xs.length ≤ c) (h : imOK id gone xs.length = true) (h1 : Row w (some ⟨b, off, none⟩) xs.length xs) (h8 : Bytes8 xs) :
    Calls Try.prog 54 #[iv id gone (some ⟨b, off, none⟩) xs.length c] w fun e w' => ∃ v, e = .returned v ∧ Owns w' w.heap.size v (imgL id gone xs) ∧ v ≠ .slice none 0 0 ∧ Below w.heap.size w w' := imageBytes_any0 id gone b off c xs w h h1 h8
set_option maxHeartbeats 1000000 in
theorem implImageBytes_any (id : Int) (gone : Bool) (b off c : Nat) (xs : List Int) (w : World) (hn : xs.length ≤ 1048576) (hc : xs.length ≤ c) (h1 : Row w (some ⟨b, off, none⟩) xs.length xs) (h8 : Bytes8 xs) :
    Calls Try.prog 31 #[iv id gone (some ⟨b, off, none⟩) xs.length c] w fun e w' => ∃ a cap, e = .returned (.tuple #[.slice a (ibL id gone xs).length cap, .int .i64 (ibC id gone xs)]) ∧ Mine w' w.heap.size (.slice a (ibL id gone xs).length cap) (ibL id gone xs) ∧ Below w.heap.size w w' := by
  have R := hide h1
  have H8 := hide h8
  have HO := hide (fun w => imageOK_any id gone (some ⟨b, off, none⟩) xs.length c w (by unfold maxLen; omega))
  have B0 := hide (fun o => (Below.refl w.heap.size w).alloc (Nat.le_refl _) o)
  clear h1 h8
  by_cases h : imOK id gone xs.length = true
  · have HE := hide (show ibL id gone xs = imgL id gone xs ∧ ibC id gone xs = 0 by unfold ibL ibC; rw [h]; exact ⟨rfl, rfl⟩)
    have HC := hide (fun w' (hb : Below w.heap.size w w') => imageBytes_any id gone b off c xs w' hc h (row_grow' (unhide R) hb) (unhide H8))
    rw [h] at HO
    clear h
    go_enter Try.func31, Try.ntmps31
    go_wp2_with fail
    refine (unhide HO _).mono ?_
    rintro e w1 ⟨rfl, hb1⟩
    have B1 : Below w.heap.size w w1 := (unhide B0 _).trans (hb1.mono (by simp))
    have y0 : w1.cell? ⟨w.heap.size, 0, none⟩ = some (.int .i64 id) := (hb1.cell (p := ⟨w.heap.size, 0, none⟩) (by simp)).trans ((cell_new1 rfl).trans rfl)
    have y1 : w1.cell? ⟨w.heap.size, 1, none⟩ = some (.bool gone) := (hb1.cell (p := ⟨w.heap.size, 1, none⟩) (by simp)).trans ((cell_new1 rfl).trans rfl)
    have y2 : w1.cell? ⟨w.heap.size, 2, none⟩ = some (.slice (some ⟨b, off, none⟩) xs.length c) := (hb1.cell (p := ⟨w.heap.size, 2, none⟩) (by simp)).trans ((cell_new1 rfl).trans rfl)
    have hs1 := B1.size
    clear hb1 HO
    go_wp2_with fail
    refine (unhide HC _ B1).mono ?_
    rintro e w2 ⟨v, rfl, ho, hv, hb2⟩
    obtain ⟨g, cap, rfl, _⟩ := owns_row ho hv
    have M2 := hide (mine_mono (mine_of_owns ho) hs1)
    have B2 := hide (B1.trans (hb2.mono hs1))
    clear ho hv hb2 HC
    go_wp2_with fail
    go_ret2
    rw [(unhide HE).1, (unhide HE).2]
    exact ⟨_, _, rfl, unhide M2, unhide B2⟩
  · have h : imOK id gone xs.length = false := by simpa using h
    have HE := hide (show ibL id gone xs = [] ∧ ibC id gone xs = 1 by unfold ibL ibC; rw [h]; exact ⟨rfl, rfl⟩)
    rw [h] at HO
    clear h
    go_enter Try.func31, Try.ntmps31
    go_wp2_with fail
    refine (unhide HO _).mono ?_
    rintro e w1 ⟨rfl, hb1⟩
    have B1 : Below w.heap.size w w1 := (unhide B0 _).trans (hb1.mono (by simp))
    have y0 : w1.cell? ⟨w.heap.size, 0, none⟩ = some (.int .i64 id) := (hb1.cell (p := ⟨w.heap.size, 0, none⟩) (by simp)).trans ((cell_new1 rfl).trans rfl)
    have y1 : w1.cell? ⟨w.heap.size, 1, none⟩ = some (.bool gone) := (hb1.cell (p := ⟨w.heap.size, 1, none⟩) (by simp)).trans ((cell_new1 rfl).trans rfl)
    have y2 : w1.cell? ⟨w.heap.size, 2, none⟩ = some (.slice (some ⟨b, off, none⟩) xs.length c) := (hb1.cell (p := ⟨w.heap.size, 2, none⟩) (by simp)).trans ((cell_new1 rfl).trans rfl)
    have hs1 := B1.size
    clear hb1 HO
    go_wp2_with fail
    go_ret2
    rw [(unhide HE).1, (unhide HE).2]
    exact ⟨none, 0, rfl, mine_nil _ _, B1⟩
set_option maxHeartbeats 1000000 in
theorem specImageBytes_any (id : Int) (gone : Bool) (b off c : Nat) (xs : List Int) (w : World) (hn : xs.length ≤ 1048576) (hc : xs.length ≤ c) (h1 : Row w (some ⟨b, off, none⟩) xs.length xs) (h8 : Bytes8 xs) :
    Calls Try.prog 29 #[iv id gone (some ⟨b, off, none⟩) xs.length c] w fun e w' => ∃ a cap, e = .returned (.tuple #[.slice a (ibL id gone xs).length cap, .int .i64 (ibC id gone xs)]) ∧ Mine w' w.heap.size (.slice a (ibL id gone xs).length cap) (ibL id gone xs) ∧ Below w.heap.size w w' := by
  have R := hide h1
  have H8 := hide h8
  have HO := hide (fun w => l03Image_any id gone (some ⟨b, off, none⟩) xs.length c w (by unfold maxLen; omega))
  have B0 := hide (fun o => (Below.refl w.heap.size w).alloc (Nat.le_refl _) o)
  clear h1 h8
  by_cases h : imOK id gone xs.length = true
  · have HE := hide (show ibL id gone xs = imgL id gone xs ∧ ibC id gone xs = 0 by unfold ibL ibC; rw [h]; exact ⟨rfl, rfl⟩)
    have HC := hide (fun w' (hb : Below w.heap.size w w') => l03Bytes_any id gone b off c xs w' hc h (row_grow' (unhide R) hb) (unhide H8))
    rw [h] at HO
    clear h
    go_enter Try.func29, Try.ntmps29
    go_wp2_with fail
    refine (unhide HO _).mono ?_
    rintro e w1 ⟨rfl, hb1⟩
    have B1 : Below w.heap.size w w1 := (unhide B0 _).trans (hb1.mono (by simp))
    have y0 : w1.cell? ⟨w.heap.size, 0, none⟩ = some (.int .i64 id) := (hb1.cell (p := ⟨w.heap.size, 0, none⟩) (by simp)).trans ((cell_new1 rfl).trans rfl)
    have y1 : w1.cell? ⟨w.heap.size, 1, none⟩ = some (.bool gone) := (hb1.cell (p := ⟨w.heap.size, 1, none⟩) (by simp)).trans ((cell_new1 rfl).trans rfl)
    have y2 : w1.cell? ⟨w.heap.size, 2, none⟩ = some (.slice (some ⟨b, off, none⟩) xs.length c) := (hb1.cell (p := ⟨w.heap.size, 2, none⟩) (by simp)).trans ((cell_new1 rfl).trans rfl)
    have hs1 := B1.size
    clear hb1 HO
    go_wp2_with fail
    refine (unhide HC _ B1).mono ?_
    rintro e w2 ⟨v, rfl, ho, hv, hb2⟩
    obtain ⟨g, cap, rfl, _⟩ := owns_row ho hv
    have M2 := hide (mine_mono (mine_of_owns ho) hs1)
    have B2 := hide (B1.trans (hb2.mono hs1))
    clear ho hv hb2 HC
    go_wp2_with fail
    go_ret2
    rw [(unhide HE).1, (unhide HE).2]
    exact ⟨_, _, rfl, unhide M2, unhide B2⟩
  · have h : imOK id gone xs.length = false := by simpa using h
    have HE := hide (show ibL id gone xs = [] ∧ ibC id gone xs = 1 by unfold ibL ibC; rw [h]; exact ⟨rfl, rfl⟩)
    rw [h] at HO
    clear h
    go_enter Try.func29, Try.ntmps29
    go_wp2_with fail
    refine (unhide HO _).mono ?_
    rintro e w1 ⟨rfl, hb1⟩
    have B1 : Below w.heap.size w w1 := (unhide B0 _).trans (hb1.mono (by simp))
    have y0 : w1.cell? ⟨w.heap.size, 0, none⟩ = some (.int .i64 id) := (hb1.cell (p := ⟨w.heap.size, 0, none⟩) (by simp)).trans ((cell_new1 rfl).trans rfl)
    have y1 : w1.cell? ⟨w.heap.size, 1, none⟩ = some (.bool gone) := (hb1.cell (p := ⟨w.heap.size, 1, none⟩) (by simp)).trans ((cell_new1 rfl).trans rfl)
    have y2 : w1.cell? ⟨w.heap.size, 2, none⟩ = some (.slice (some ⟨b, off, none⟩) xs.length c) := (hb1.cell (p := ⟨w.heap.size, 2, none⟩) (by simp)).trans ((cell_new1 rfl).trans rfl)
    have hs1 := B1.size
    clear hb1 HO
    go_wp2_with fail
    go_ret2
    rw [(unhide HE).1, (unhide HE).2]
    exact ⟨_, 0, rfl, mine_empty _ hs1, B1.alloc hs1 _⟩
end Go.Proofs.Ytdiakahaghggiaa
