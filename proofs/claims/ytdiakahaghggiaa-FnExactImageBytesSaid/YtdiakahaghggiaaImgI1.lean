/-
  The walk of imageBytes, the program's, of an image that is not Gone.
-/
import Derived.Test.YtdiakahaghggiaaImgI
import Derived.Deep.RegionWith
namespace Go.Proofs.Ytdiakahaghggiaa
open Go.RowKit

set_option maxRecDepth 100000 in
set_option maxHeartbeats 40000000 in
theorem imageBytes_false (id : Int) (b off c : Nat) (xs : List Int) (w : World) (h : imOK id false xs.length = true) (h1 : Row w (some ⟨b, off, none⟩) xs.length xs) (h8 : Bytes8 xs) :
    Calls Try.prog 54 #[iv id false (some ⟨b, off, none⟩) xs.length c] w fun e w' => ∃ v, e = .returned v ∧ Owns w' w.heap.size v (imgL id false xs) ∧ v ≠ .slice none 0 0 ∧ Below w.heap.size w w' := by
  obtain ⟨i0, hi, hz0, hz1, hz2⟩ := info_parts Try.infoU8
  obtain ⟨g0, g1, g2, g3⟩ := of_decide_eq_true h
  clear g3
  have H8 := hide h8
  have R := hide h1
  clear h h1 h8
  have hb0 : Below w.heap.size w (w.alloc (.cells #[.int .i64 id, .bool false, .slice (some ⟨b, off, none⟩) xs.length c] 53)) := (Below.refl _ _).alloc (Nat.le_refl _) _
  have x0 : (w.alloc (.cells #[.int .i64 id, .bool false, .slice (some ⟨b, off, none⟩) xs.length c] 53)).cell? ⟨w.heap.size, 0, none⟩ = some (.int .i64 id) := (cell_new1 rfl).trans rfl
  have x2 : (w.alloc (.cells #[.int .i64 id, .bool false, .slice (some ⟨b, off, none⟩) xs.length c] 53)).cell? ⟨w.heap.size, 2, none⟩ = some (.slice (some ⟨b, off, none⟩) xs.length c) := (cell_new1 rfl).trans rfl
  have hsz : (w.alloc (.cells #[.int .i64 id, .bool false, .slice (some ⟨b, off, none⟩) xs.length c] 53)).heap.size = w.heap.size + 1 := by simp
  go_enter Try.func54, Try.ntmps54
  go_wp2_with fail
  generalize w.alloc (.cells #[.int .i64 id, .bool false, .slice (some ⟨b, off, none⟩) xs.length c] 53) = w0 at *
  have O0 := hide (owns_one (w := w0) (B := w0.heap.size) 1 (Nat.le_refl _))
  have B1 := hide ((Below.refl w0.heap.size w0).alloc (Nat.le_refl _) (.cells #[.int .u8 1] 5))
  have HS := hide hsz
  have hlt : w.heap.size < w0.heap.size := by omega
  have gid : id ≤ 65535 := by omega
  have gl1 : [(1 : Int)].length ≤ 10000000 := by simp
  have gl2 : ([(1 : Int)] ++ [id / 256, id % 256]).length ≤ 10000000 := by simp
  have gl3 : (xs.length : Int) ≤ 65535 := by omega
  have gl0 : (0 : Int) ≤ (xs.length : Int) := by omega
  have hle : ∀ o, w0.heap.size ≤ (w0.alloc o).heap.size := fun o => by simp
  have HA := hide (appendTwo_any w0.heap.size (.slice (some ⟨w0.heap.size, 0, none⟩) 1 1) [1] id (w0.alloc (.cells #[.int .u8 1] 5)).drew (hle _) gl1 g0 gid (unhide O0))
  clear hsz O0
  go_region_with (first
    | (revert hb1; intro hb1; go_at_call 66; refine (appendTwo_any w0.heap.size v1 ([1] ++ [id / 256, id % 256]) (xs.length : Int) w1 hb1.size gl2 gl0 gl3 ho1).mono ?_; rintro e w2 ⟨v2, rfl, ho2, hb2⟩)
    | (go_at_call 66; refine (unhide HA).mono ?_; rintro e w1 ⟨v1, rfl, ho1, hb1⟩; replace hb1 : Below w0.heap.size w0 w1 := (unhide B1).trans ⟨hb1.os, hb1.tape, hb1.output, hb1.size, hb1.block⟩; have y2 := (hb1.cell (p := ⟨w.heap.size, 2, none⟩) hlt).trans x2))
  all_goals
    have hb3 : Below w0.heap.size w0 w2 := hb1.trans hb2
    have HB := hide (hb0.trans (hb3.mono (by omega)))
    have z2 := (hb3.cell (p := ⟨w.heap.size, 2, none⟩) hlt).trans x2
    have RC := hide (row_cells' (row_grow' (unhide R) (unhide HB)))
    have hs2 := hb3.size
    clear hb3 hb2 hb1 ho1 y2 x0 x2 HA B1 hle gl1 gl2 gl3 gl0 hb0
    have e4 : [(1 : Int)] ++ [id / 256, id % 256] ++ [(xs.length : Int) / 256, (xs.length : Int) % 256] = [1, id / 256, id % 256, (xs.length : Int) / 256, (xs.length : Int) % 256] := rfl
    rw [e4] at ho2
    clear e4
    go_wp2_with (at_builtin; refine wpList_append_own _ rfl _ _ 22 rfl w0.heap.size 5 i0 (.int .u8 0) 1 1 Try.underlying22 hi hz0 hz1 hz2 rfl (by decide) _ 5 _ rfl ho2 ⟨b, off, none⟩ xs.length c (xs.map (Value.int .u8)) rfl (by simp) (unhide RC) (all_u8 _) (by unfold maxLen; omega) (by omega) (by omega) ?_)
    intro v3 w3 hown3 hgrow3 hnil3
    have O3 : Owns w3 w0.heap.size v3 (imgH id false xs) := by
      have := owns_apps (xs := [1, id / 256, id % 256, (xs.length : Int) / 256, (xs.length : Int) % 256]) rfl hown3
      exact this
    have HB3 := hide ((unhide HB).grown hgrow3 (by omega) (fun k hk => by have := (ho2.lt k hk).1; omega))
    have hs3 : w0.heap.size ≤ w3.heap.size := by have := hgrow3.size; omega
    have hv3 : v3 ≠ .slice none 0 0 := fun e => by subst e; have := congrArg List.length (owns_nonnil O3); simp [imgH] at this
    obtain ⟨g, cap, rfl, hr3⟩ := owns_row O3 hv3
    have HH := hide (imgH_bytes (gone := false) (unhide H8) g0 gid (by omega))
    have hl3 : (imgH id false xs).length ≤ 2000 := by rw [imgH_length]; omega
    have HI := hide (show imgL id false xs = imgH id false xs ++ four (crcV (imgH id false xs)) from rfl)
    have hcv := crcV_lt (unhide HH)
    clear hown3 hgrow3 hnil3 ho2 HB RC z2 hv3 R
    generalize imgH id false xs = ys at *
    go_wp2_with (first | (go_at_call 50; refine (crcOf_any (some ⟨g, 0, none⟩) ys.length cap ys w3 (by omega) hr3 (unhide HH)).mono ?_; rintro e w4 ⟨rfl, rfl⟩) | (at_builtin; refine wpList_append_own _ rfl _ _ 22 rfl w0.heap.size 5 i0 (.int .u8 0) 1 1 Try.underlying22 hi hz0 hz1 hz2 rfl (by decide) _ ys.length _ rfl (World.ownsRow.alloc O3 _) ⟨w4.heap.size, 0, none⟩ 4 4 [.int .u8 ((crcV ys : Int) / 16777216), .int .u8 ((crcV ys : Int) / 65536 % 256), .int .u8 ((crcV ys : Int) / 256 % 256), .int .u8 ((crcV ys : Int) % 256)] rfl rfl cells_new (four_u8 _ _ _ _) (by unfold maxLen; omega) (by omega) (by simp; omega) ?_))
    intro v5 w5 hown5 hgrow5 hnil5
    have O5 := hide (owns_down (owns_app4 hown5) (show w.heap.size ≤ w0.heap.size by omega))
    have B5 := hide (below_app (unhide HB3) (by omega) (owns_down O3 (show w.heap.size ≤ w0.heap.size by omega)) hgrow5)
    have N5 := hide (show v5 ≠ .slice none 0 0 from hnil5)
    clear hown5 hgrow5 hnil5 O3 HB3 hr3
    go_wp2_with fail
    go_ret
    exact ⟨_, rfl, by rw [unhide HI]; exact unhide O5, unhide N5, unhide B5⟩
end Go.Proofs.Ytdiakahaghggiaa
