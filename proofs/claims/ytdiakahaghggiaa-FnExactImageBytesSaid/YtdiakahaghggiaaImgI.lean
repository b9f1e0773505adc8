/-
  The walks of imageOK, appendTwo, imageBytes and ImageBytes, the program's.
-/
import Derived.Test.YtdiakahaghggiaaImgL
import Derived.Test.YtdiakahaghggiaaCrcI
import Derived.Deep.MidRow
namespace Go.Proofs.Ytdiakahaghggiaa
open Go.RowKit

theorem cell_new1 {w : World} {cs : Array Value} {t : TypeId} {g j : Nat} (hg : g = w.heap.size) : (w.alloc (.cells cs t)).cell? ⟨g, j, none⟩ = cs[j]? := by subst hg; simp
/-- The bounds of an image's number. -/
def idI (n : Int) : Bool := decide (0 ≤ n ∧ n ≤ 1000)
theorem idOK_img (n : Int) (w : World) : Calls Try.prog 65 #[.int .i64 n] w fun e w' => e = .returned (.bool (idI n)) ∧ w' = w := by
  by_cases h : 0 ≤ n
  · have E := hide (show decide (n ≤ 1000) = idI n by unfold idI; rw [decide_eq_decide]; omega)
    go_enter Try.func65, Try.ntmps65
    go_wp2_with fail
    go_ret
    exact ⟨ret_bool (unhide E), rfl⟩
  · have E := hide (show false = idI n by unfold idI; rw [decide_eq_false]; omega)
    go_enter Try.func65, Try.ntmps65
    go_wp2_with fail
    go_ret
    exact ⟨ret_bool (unhide E), rfl⟩
set_option maxHeartbeats 1000000 in
theorem imageOK_any (id : Int) (gone : Bool) (a : Option Addr) (n c : Nat) (w : World) (hn : n ≤ maxLen) :
    Calls Try.prog 53 #[iv id gone a n c] w fun e w' => e = .returned (.bool (imOK id gone n)) ∧ Below w.heap.size w w' := by
  unfold maxLen at hn
  have B0 : ∀ o, Below w.heap.size w (w.alloc o) := fun o => (Below.refl _ _).alloc (Nat.le_refl _) _
  cases gone
  all_goals
    go_enter Try.func53, Try.ntmps53
    go_wp2_with (go_at_call 65; refine (idOK_img id _).mono ?_; rintro e w1 ⟨rfl, rfl⟩)
    all_goals go_ret
    all_goals exact ⟨ret_bool (by simp_all [imOK, idI]; try omega), B0 _⟩
set_option maxHeartbeats 1000000 in
theorem appendTwo_any (B : Nat) (v0 : Value) (zs : List Int) (n : Int) (w : World) (hB : B ≤ w.heap.size) (hz : zs.length ≤ 10000000) (h0 : 0 ≤ n) (h1 : n ≤ 65535) (ho : Owns w B v0 zs) :
    Calls Try.prog 66 #[v0, .int .i64 n] w fun e w' => ∃ v, e = .returned v ∧ Owns w' B v (zs ++ [n / 256, n % 256]) ∧ Below B w w' := by
  obtain ⟨i0, hi, hz0, hz1, hz2⟩ := info_parts Try.infoU8
  have hq : n / 256 % 256 = n / 256 := by omega
  go_enter Try.func66, Try.ntmps66
  go_wp2_with (at_builtin; refine wpList_append_own _ rfl _ _ 22 rfl B 5 i0 (.int .u8 0) 1 1 Try.underlying22 hi hz0 hz1 hz2 rfl (by decide) _ _ _ rfl (ho.alloc _) ⟨w.heap.size, 0, none⟩ 2 2 [.int .u8 (n / 256), .int .u8 (n % 256)] rfl rfl cell_two (two_u8 _ _) (by unfold maxLen; omega) (by omega) (by simp; omega) ?_)
  intro v1 w1 hown1 hgrow1 _
  have R1 := hide (owns_app2 hown1)
  have R2 := hide (below_app (Below.refl _ _) hB ho hgrow1)
  clear ho hown1 hgrow1
  go_wp2_with fail
  go_ret
  exact ⟨_, rfl, unhide R1, unhide R2⟩
theorem owns_one {w : World} {B : Nat} (x : Int) (h : B ≤ w.heap.size) : Owns (w.alloc (.cells #[.int .u8 x] 5)) B (.slice (some ⟨w.heap.size, 0, none⟩) 1 1) [x] :=
  World.ownsRow_lit _ _ _ h (by unfold maxLen; simp) rfl
theorem owns_down {w : World} {B C : Nat} {v : Value} {xs : List Int} (h : Owns w B v xs) (hc : C ≤ B) : Owns w C v xs := by
  obtain ⟨h1, h2⟩ := h
  refine ⟨h1, ?_⟩
  rcases h2 with h2 | ⟨g, cap, cur, e, hb, r⟩
  · exact .inl h2
  · exact .inr ⟨g, cap, cur, e, Nat.le_trans hc hb, r⟩
/-- The cells of a row of bytes, as a law of the library asks them. -/
theorem row_cells' {w : World} {b off : Nat} {xs : List Int} (h : Row w (some ⟨b, off, none⟩) xs.length xs) : ∀ j u, (xs.map (Value.int .u8))[j]? = some u → w.cell? ((⟨b, off, none⟩ : Addr).add j) = some u := by
  intro j u hu
  have hj : j < xs.length := by simpa using (List.getElem?_eq_some_iff.1 hu).1
  obtain ⟨b', off', e, hc⟩ := h.2 j hj
  injection e with e
  injection e with e1 e2
  subst e1 e2
  rw [Addr.add_mid, hc, ← hu]
  simp [List.getD, hj]
theorem row_grow' {w w' : World} {a : Option Addr} {n : Nat} {xs : List Int} (h : Row w a n xs) (hb : Below w.heap.size w w') : Row w' a n xs := by
  refine ⟨h.1, fun i hi => ?_⟩
  obtain ⟨b, off, e, hc⟩ := h.2 i hi
  exact ⟨b, off, e, (hb.cell (p := ⟨b, off + i, none⟩) (cell_lt hc)).trans hc⟩
theorem owns_row {w : World} {B : Nat} {v : Value} {xs : List Int} (h : Owns w B v xs) (hv : v ≠ .slice none 0 0) : ∃ g cap, v = .slice (some ⟨g, 0, none⟩) xs.length cap ∧ Row w (some ⟨g, 0, none⟩) xs.length xs := by
  rcases h.2 with ⟨e, _⟩ | ⟨g, cap, cur, rfl, _⟩
  · exact absurd e hv
  · refine ⟨g, cap, rfl, rfl, fun i hi => ⟨g, 0, rfl, ?_⟩⟩
    have := World.ownsRow.cellAt h i (by omega)
    rw [Nat.zero_add, this]
    simp [List.getD, hi]
theorem owns_app4 {w : World} {B : Nat} {v : Value} {xs : List Int} {x y z u : Int} (h : w.ownsRow B 5 1 v (xs.length + 4) (xs.map (Value.int .u8) ++ [.int .u8 x, .int .u8 y, .int .u8 z, .int .u8 u])) : Owns w B v (xs ++ [x, y, z, u]) := by
  unfold Owns
  rw [List.length_append, List.map_append]; exact h
theorem four_u8 (x y z u : Int) : ∀ t ∈ [Value.int .u8 x, Value.int .u8 y, Value.int .u8 z, Value.int .u8 u], t.oneCell' = true := by
  intro t ht
  simp at ht
  rcases ht with rfl | rfl | rfl | rfl <;> rfl
theorem owns_nonnil {w : World} {B : Nat} {xs : List Int} (h : Owns w B (.slice none 0 0) xs) : xs = [] := by
  rcases h.2 with ⟨_, e⟩ | ⟨g, cap, cur, e, _⟩
  · exact List.eq_nil_of_length_eq_zero e
  · cases e
end Go.Proofs.Ytdiakahaghggiaa
