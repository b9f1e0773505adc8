/-
  The walks of szImage, toImage, eqImage and markImage; an image that came in as an argument, opened.
-/
import Derived.Test.YtdiakahaghggiaaFlashT
import Derived.Test.YtdiakahaghggiaaFlashE
import Derived.Test.YtdiakahaghggiaaFlashIn
import Derived.Test.YtdiakahaghggiaaImgL
import Derived.Test.YtdiakahaghggiaaTail
import Derived.Test.YtdiakahaghggiaaFlashM
namespace Go.Proofs.Ytdiakahaghggiaa
open Go.RowKit Go.ChangeShapes Go.WideShapes

theorem szImage_any (id : Int) (gone : Bool) (a : Option Addr) (n c : Nat) (left : Int) (w : World) (h0 : 0 ≤ left) (h1 : left ≤ 1048576) (hn : n ≤ maxLen) :
    Calls Try.prog 28 #[iv id gone a n c, .int .i64 left] w fun e w' => ∃ r : Int, e = .returned (.int .i64 r) ∧ (r = -1 ∨ (0 ≤ r ∧ r ≤ left ∧ (n : Int) ≤ left)) ∧ Below w.heap.size w w' := by
  go_enter Try.func28, Try.ntmps28
  go_wp2_with fail
  refine (szByteS_any a n c left _ h0 h1 hn).mono ?_
  rintro e w1 ⟨r, rfl, hr, rfl⟩
  rcases hr with rfl | ⟨r0, r1, r2⟩
  · go_wp2_with fail
    go_ret
    exact ⟨-1, rfl, .inl rfl, (Below.refl _ _).alloc (Nat.le_refl _) _⟩
  · go_wp2_with fail
    go_ret
    exact ⟨r, rfl, .inr ⟨r0, r1, r2⟩, (Below.refl _ _).alloc (Nat.le_refl _) _⟩
set_option maxHeartbeats 1000000 in
theorem toImage_any (id : Int) (gone : Bool) (a : Option Addr) (c : Nat) (xs : List Int) (w : World) (hn : xs.length ≤ 1048576) (h1 : Row w a xs.length xs) :
    Calls Try.prog 30 #[iv id gone a xs.length c] w fun e w' => ∃ g c', e = .returned (iv id gone (some ⟨g, 0, none⟩) xs.length c') ∧ Mine w' w.heap.size (.slice (some ⟨g, 0, none⟩) xs.length c') xs ∧ w.heap.size ≤ g ∧ g < w'.heap.size ∧ Below w.heap.size w w' := by
  have R := hide fun o1 o2 o3 => row_alloc (o := o3) (row_alloc (o := o2) (row_alloc (o := o1) h1))
  clear h1
  go_enter Try.func30, Try.ntmps30
  go_wp2_with fail
  refine (toByteS_at a xs.length c xs _ hn (unhide R _ _ _)).mono ?_
  clear R
  rintro e w1 ⟨rfl, hm, hb⟩
  obtain ⟨g, hg⟩ : ∃ g, g = w.heap.size + 1 + 1 + 1 := ⟨_, rfl⟩
  have hsz3 : ∀ o1 o2 o3, (((w.alloc o1).alloc o2).alloc o3).heap.size = g := fun o1 o2 o3 => by rw [hg]; simp
  rw [hsz3] at hm hb ⊢
  obtain ⟨a', c', e0, m1, m2, m3, m4⟩ := hm
  injection e0 with e1 _ e3
  subst e1 e3
  have hM := hide (show Mine w1 w.heap.size (.slice (some ⟨g, 0, none⟩) xs.length xs.length) xs from ⟨_, _, rfl, m1, m2, m3, fun x hx => ⟨by have := (m4 x hx).1; omega, (m4 x hx).2⟩⟩)
  have hgl := (m4 _ rfl).2.1
  simp only at hgl
  have B0 : ∀ o1 o2 o3, Below w.heap.size w (((w.alloc o1).alloc o2).alloc o3) := fun o1 o2 o3 => (((Below.refl w.heap.size w).alloc (Nat.le_refl _) _).alloc (by simp) _).alloc (by simp; omega) _
  have d0 : w1.cell? ⟨w.heap.size + 1 + 1, 0, none⟩ = some (.int .i64 id) := (hb.cell (p := ⟨w.heap.size + 1 + 1, 0, none⟩) (by simp; omega)).trans ((cell_new (by simp)).trans rfl)
  have d1 : w1.cell? ⟨w.heap.size + 1 + 1, 1, none⟩ = some (.bool gone) := (hb.cell (p := ⟨w.heap.size + 1 + 1, 1, none⟩) (by simp; omega)).trans ((cell_new (by simp)).trans rfl)
  have d2 : w1.cell? ⟨w.heap.size + 1 + 1, 2, none⟩ = some (.slice none 0 0) := (hb.cell (p := ⟨w.heap.size + 1 + 1, 2, none⟩) (by simp; omega)).trans ((cell_new (by simp)).trans rfl)
  have f2 : w1.frozen? ⟨w.heap.size + 1 + 1, 2, none⟩ = false := (hb.frozen (p := ⟨w.heap.size + 1 + 1, 2, none⟩) (by simp; omega)).trans (frozen_new (by simp))
  have g0 : w1.cell? ⟨w.heap.size + 1, 0, none⟩ = some (.int .i64 0) := (hb.cell (p := ⟨w.heap.size + 1, 0, none⟩) (by simp; omega)).trans ((cell_old (by simp)).trans ((cell_new (by simp)).trans rfl))
  have g1 : w1.cell? ⟨w.heap.size + 1, 1, none⟩ = some (.bool false) := (hb.cell (p := ⟨w.heap.size + 1, 1, none⟩) (by simp; omega)).trans ((cell_old (by simp)).trans ((cell_new (by simp)).trans rfl))
  have g2 : w1.cell? ⟨w.heap.size + 1, 2, none⟩ = some (.slice none 0 0) := (hb.cell (p := ⟨w.heap.size + 1, 2, none⟩) (by simp; omega)).trans ((cell_old (by simp)).trans ((cell_new (by simp)).trans rfl))
  have e0 : w1.frozen? ⟨w.heap.size + 1, 0, none⟩ = false := (hb.frozen (p := ⟨w.heap.size + 1, 0, none⟩) (by simp; omega)).trans ((frozen_old (by simp)).trans (frozen_new (by simp)))
  have e1 : w1.frozen? ⟨w.heap.size + 1, 1, none⟩ = false := (hb.frozen (p := ⟨w.heap.size + 1, 1, none⟩) (by simp; omega)).trans ((frozen_old (by simp)).trans (frozen_new (by simp)))
  have e2 : w1.frozen? ⟨w.heap.size + 1, 2, none⟩ = false := (hb.frozen (p := ⟨w.heap.size + 1, 2, none⟩) (by simp; omega)).trans ((frozen_old (by simp)).trans (frozen_new (by simp)))
  have BB := hide ((B0 _ _ _).trans (hb.mono (by omega)))
  have hgg : w.heap.size + 1 + 1 < g := by omega
  clear hb m1 m2 m3 m4 hsz3 B0 hg
  go_wp2_with fail
  have B3 := hide (((((unhide BB).setCell (p := ⟨w.heap.size + 1 + 1, 2, none⟩) (by simp; omega) (.slice (some ⟨g, 0, none⟩) xs.length xs.length)).setCell (p := ⟨w.heap.size + 1, 0, none⟩) (by simp) (.int .i64 id)).setCell (p := ⟨w.heap.size + 1, 1, none⟩) (by simp) (.bool gone)).setCell (p := ⟨w.heap.size + 1, 2, none⟩) (by simp) (.slice (some ⟨g, 0, none⟩) xs.length xs.length))
  have hlt : w.heap.size + 1 < w1.heap.size := by omega
  refine bodyPost_ret (v := iv id gone (some ⟨g, 0, none⟩) xs.length xs.length) (by simp [results, Try.results30, go_sem, g0, g1, g2]) rfl ⟨g, xs.length, rfl, ?_, by omega, by simp [World.setCell]; omega, unhide B3⟩
  obtain ⟨a1, c1, e, m1, m2, m3, m4⟩ := unhide hM
  injection e with e1 _ e3
  subst e1 e3
  refine ⟨_, _, rfl, m1, m2, m3.of_cells fun y hy p hp => ?_, fun y hy => ⟨(m4 y hy).1, by simpa using (m4 y hy).2.1, fun j => by simpa using (m4 y hy).2.2 j⟩⟩
  cases hy
  simp only at hp
  rw [World.cell?_setCell_other _ _ _ _ (by intro e; rw [← e] at hp; simp at hp; omega), World.cell?_setCell_other _ _ _ _ (by intro e; rw [← e] at hp; simp at hp; omega), World.cell?_setCell_other _ _ _ _ (by intro e; rw [← e] at hp; simp at hp; omega), World.cell?_setCell_other _ _ _ _ (by intro e; rw [← e] at hp; simp at hp; omega)]
set_option maxHeartbeats 1000000 in
theorem eqImage_any (id : Int) (gone : Bool) (a1 a2 : Option Addr) (n c1 c2 : Nat) (xs : List Int) (w : World) (hn : n ≤ maxLen) (h1 : Row w a1 n xs) (h2 : Row w a2 n xs) :
    Calls Try.prog 32 #[iv id gone a1 n c1, iv id gone a2 n c2] w fun e w' => e = .returned (.bool true) ∧ Below w.heap.size w w' := by
  have hb0 : ∀ o1 o2, Below w.heap.size w ((w.alloc o1).alloc o2) := fun o1 o2 => ((Below.refl w.heap.size w).alloc (Nat.le_refl _) _).alloc (by simp) _
  have R1 := hide fun o1 o2 => row_grow h1 (hb0 o1 o2)
  have R2 := hide fun o1 o2 => row_grow h2 (hb0 o1 o2)
  have hg : (gone != gone) = false := by cases gone <;> rfl
  clear h1 h2
  go_enter Try.func32, Try.ntmps32
  go_wp2_with fail
  refine (eqBytes_same a1 a2 n c1 c2 xs _ hn (unhide R1 _ _) (unhide R2 _ _)).mono ?_
  rintro e w1 ⟨rfl, hb⟩
  have B := hide ((hb0 _ _).trans (hb.mono (by simp; omega)))
  clear hb
  go_wp2_with fail
  go_ret
  exact ⟨rfl, unhide B⟩
/-- The image's bytes are marked: nothing is written but their block. -/
theorem markImage_any (S : Nat → Prop) (id : Int) (gone : Bool) (a : Option Addr) (n c : Nat) (xs : List Int) (w : World) (hn : n ≤ 1048576) (h1 : Row w a n xs) (h2 : ∀ x, a = some x → x.block < w.heap.size ∧ ∀ j, w.frozen? ⟨x.block, j, none⟩ = false) (hS : ∀ x, a = some x → ¬ S x.block) :
    Calls Try.prog 33 #[iv id gone a n c, .int .i64 1] w fun e w' => ∃ k : Nat, e = .returned (.int .i64 (k : Int)) ∧ Band S w w' := by
  have hb0 : ∀ o, Below w.heap.size w (w.alloc o) := fun o => (Below.refl _ _).alloc (Nat.le_refl _) _
  have HC := hide (fun o => markByteS_any a n c xs 1 (w.alloc o) (by omega) (by omega) (by omega) (row_grow h1 (hb0 o)) (fun x hx j => ((hb0 o).frozen (p := ⟨x.block, j, none⟩) (h2 x hx).1).trans ((h2 x hx).2 j)))
  have H0 := hide hb0
  clear h1 h2 hb0
  go_enter Try.func33, Try.ntmps33
  go_wp2_with fail
  refine (unhide HC _).mono ?_
  rintro e w1 ⟨rfl, r1, t1⟩
  have hcast : (1 : Int) + (n : Int) = ((1 + n : Nat) : Int) := by omega
  rw [hcast]
  have B1 := hide ((Band.grow (S := S) (unhide H0 (.cells #[.int .i64 id, .bool gone, .slice a n c] 53))).trans (Band.touch t1 hS))
  clear HC H0 r1 t1 hcast
  go_wp2_with fail
  go_ret
  exact ⟨_, rfl, unhide B1⟩
/-- A slice of bytes that came in: its bytes are bytes. -/
theorem open_bytes8 {H : Type} {enc : TypeId × Value → H} {w : World} {base : Nat} {spare : Nat → Bool} {held : Bool} {v : Value} {fuel : Nat} {x : DataW H × List MemPlace}
    (h : DataW.trod enc Try.prog w base spare held fuel 22 [v] = some x) : ∃ a c xs, v = .slice a xs.length c ∧ Row w a xs.length xs ∧ xs.length ≤ maxLen ∧ Bytes8 xs := by
  rcases open_ints Try.underlying22 Try.underlying5 (by kernel_rfl) h with ⟨hcs, _⟩ | ⟨y, l, c, zs, hcs, _, hl, hm, hz, _, hcell, hwz⟩
  · simp at hcs
    subst hcs
    exact ⟨none, 0, [], rfl, ⟨rfl, fun i hi => absurd hi (Nat.not_lt_zero _)⟩, by unfold maxLen; simp, fun i hi => absurd hi (Nat.not_lt_zero _)⟩
  · simp at hcs
    subst hcs
    have hlz : l ≤ zs.length := by rw [hz]; split <;> omega
    have hR : IsRow .u8 w (some y) l zs.length zs := .inr ⟨y, rfl, hlz, by rw [hz]; split <;> omega, rfl, hcell, hwz⟩
    have hr := (row_of_isRow hR).1
    have hlen : (zs.take l).length = l := hr.1
    refine ⟨some y, c, zs.take l, by rw [hlen], by rw [hlen]; exact hr, by rw [hlen]; exact (row_of_isRow hR).2.1, fun i hi => bytes_of_isRow hR i (by rw [hlen] at hi; exact hi)⟩
/-- An image that came in. -/
def IsImage (w : World) (a : Option Addr) (xs : List Int) : Prop := Row w a xs.length xs ∧ xs.length ≤ maxLen ∧ Bytes8 xs
set_option maxRecDepth 100000 in
theorem open_image {H : Type} {enc : TypeId × Value → H} {w : World} {base : Nat} {spare : Nat → Bool} {held : Bool} {v : Value} {r : Reach} {b0 : Nat} {d : DataW H} {p : List MemPlace}
    (hv : Value.okWide Try.prog w r b0 50 v) (h : DataW.Trod enc Try.prog w base spare held 50 v d p) : ∃ id gone a c xs, v = iv id gone a xs.length c ∧ IsImage w a xs := by
  obtain ⟨v0, v1, v2, y0, y1, y2, n, rfl, _, _, h0, h1, h2⟩ := Go.Joins.open_agg3 Try.underlying50 (by kernel_rfl) (by kernel_rfl) hv h
  obtain ⟨id, e0, _, _⟩ := DataW.trod_int Try.underlying3 h0
  obtain ⟨gone, e1, _⟩ := DataW.trod_bool Try.underlying4 h1
  obtain ⟨a, c, xs, rfl, hr, hl, h8⟩ := open_bytes8 h2
  simp at e0 e1
  subst e0 e1
  exact ⟨id, gone, a, c, xs, rfl, hr, hl, h8⟩
end Go.Proofs.Ytdiakahaghggiaa
