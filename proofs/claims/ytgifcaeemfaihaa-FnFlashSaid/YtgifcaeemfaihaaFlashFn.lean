/-
  The walk of FnFlash.
-/
import Derived.Test.YtgifcaeemfaihaaConv
import Derived.Test.YtgifcaeemfaihaaFlashDr
import Derived.Test.YtgifcaeemfaihaaCrashI
import Derived.Test.YtgifcaeemfaihaaFlashRdI
import Derived.Test.YtgifcaeemfaihaaFlashRdS
import Derived.Laws.BytesArg
set_option maxRecDepth 100000
namespace Go.Proofs.Ytgifcaeemfaihaa
open Go.RowKit

theorem keptD_all (ws : List WD) : keptD ws (List.replicate ws.length true) = ws := by
  induction ws with
  | nil => rfl
  | cons d r ih => simp only [List.length_cons, List.replicate_succ, keptD, if_true, ih]
theorem crashD_all (xs : List Int) (ws : List WD) : crashD xs ws (List.replicate ws.length true) 16 = readD xs ws := by
  unfold crashD
  rw [keptD_all]
  rcases List.eq_nil_or_concat ws with rfl | ⟨K, d, rfl⟩
  · rw [crB_nil]; rfl
  · rw [List.concat_eq_append, crB_snoc, readD_append]; rfl
theorem crashD_no (xs : List Int) (ws : List WD) (t : Nat) : crashD xs ws [] t = xs := by
  unfold crashD
  rw [keptD_nil, crB_nil]
/-- The box of a device that is a local. -/
def Bx (w : World) (b : Nat) (a : Option Addr) (n c : Nat) (a' : Option Addr) (n' c' : Nat) : Prop := w.cell? ⟨b, 0, none⟩ = some (.slice a n c) ∧ w.cell? ⟨b, 1, none⟩ = some (.slice a' n' c')
theorem Bx.new (w : World) (a : Option Addr) (n c : Nat) (a' : Option Addr) (n' c' : Nat) (t : TypeId) : Bx (w.alloc (.cells #[.slice a n c, .slice a' n' c'] t)) w.heap.size a n c a' n' c' := ⟨(cell_new rfl).trans rfl, (cell_new rfl).trans rfl⟩
theorem Bx.step {w w2 : World} {b : Nat} {a : Option Addr} {n c : Nat} {a' : Option Addr} {n' c' : Nat} (h : Bx w b a n c a' n' c') (hb : Below w.heap.size w w2) : Bx w2 b a n c a' n' c' :=
  ⟨(hb.cell (p := ⟨b, 0, none⟩) (cell_lt h.1)).trans h.1, (hb.cell (p := ⟨b, 1, none⟩) (cell_lt h.2)).trans h.2⟩
/-- The box of a device that holds nothing yet, made from block B on. -/
def BoxK (w : World) (B b : Nat) : Prop := B ≤ b ∧ w.heap[b]? = some (.cells #[.slice none 0 0, .slice none 0 0] 50 (0, 0))
theorem boxK_new {X u : World} {B : Nat} (hb : Below (X.alloc (.cells #[.slice none 0 0, .slice none 0 0] 50)).heap.size (X.alloc (.cells #[.slice none 0 0, .slice none 0 0] 50)) u) (hB : B ≤ X.heap.size) : BoxK u B X.heap.size :=
  ⟨hB, (hb.block X.heap.size (by simp)).trans (heap_alloc_last _ _)⟩
theorem boxK_newD {X u : World} {B : Nat} (hb : Below (X.alloc (.cells #[.slice none 0 0, .slice none 0 0] 50)).drew.heap.size (X.alloc (.cells #[.slice none 0 0, .slice none 0 0] 50)).drew u) (hB : B ≤ X.heap.size) : BoxK u B X.heap.size :=
  ⟨hB, (hb.block X.heap.size (by show X.heap.size < (X.alloc _).heap.size; simp)).trans (heap_alloc_last _ _)⟩
theorem BoxK.step {u u' : World} {B b : Nat} (h : BoxK u B b) (hb : Below u.heap.size u u') : BoxK u' B b := ⟨h.1, (hb.block b (Array.getElem?_eq_some_iff.1 h.2).1).trans h.2⟩
theorem BoxK.c0 {u : World} {B b : Nat} (h : BoxK u B b) : u.cell? ⟨b, 0, none⟩ = some (.slice none 0 0) := by obtain ⟨_, h⟩ := h; simp [World.cell?, h]
theorem BoxK.c1 {u : World} {B b : Nat} (h : BoxK u B b) : u.cell? ⟨b, 1, none⟩ = some (.slice none 0 0) := by obtain ⟨_, h⟩ := h; simp [World.cell?, h]
theorem BoxK.fz {u : World} {B b : Nat} (h : BoxK u B b) (j : Nat) : u.frozen? ⟨b, j, none⟩ = false := by obtain ⟨_, h⟩ := h; simp [World.frozen?, h]
theorem BoxK.set {u : World} {B b : Nat} {a : Option Addr} {n c : Nat} (h : BoxK u B b) : Bx ((u.setCell ⟨b, 0, none⟩ (.slice a n c)).setCell ⟨b, 1, none⟩ (.slice none 0 0)) b a n c none 0 0 :=
  ⟨(World.cell?_setCell_other _ _ _ _ (by simp)).trans (World.cell?_setCell_same _ _ _ h.c0), World.cell?_setCell_same _ _ _ ((World.cell?_setCell_other _ _ _ _ (by simp)).trans h.c1)⟩
theorem mine_rowF {w : World} {B n cap : Nat} {a : Option Addr} {xs : List Int} (h : Mine w B (.slice a n cap) xs) : Row w a n xs := by
  obtain ⟨a', c', e, h1, h2, h3, h4⟩ := h
  injection e with e1 e2 e3
  subst e1 e2 e3
  exact h3
set_option maxHeartbeats 1000000 in
theorem flashOf_any (a : Option Addr) (n c : Nat) (xs : List Int) (w : World) (hr : Row w a n xs) (hby : ∀ i, i < n → 0 ≤ xs.getD i 0 ∧ xs.getD i 0 ≤ 255) (hn : n ≤ 1048576) :
    Calls Try.prog 25 #[.slice a n c] w fun e w' => ∃ (b m cb : Nat) (aw : Option Addr) (nw cw : Nat) (ys : List Int) (ws : List WD), e = .returned (fv (some ⟨b, 0, none⟩) m cb aw nw cw) ∧ Row w' (some ⟨b, 0, none⟩) m ys ∧ WRow w' aw nw ws ∧ okD m ws = true ∧ m ≤ cb ∧ cb ≤ maxLen ∧ Below w.heap.size w w' := by
  have R := hide hr
  have BY := hide hby
  clear hr hby
  go_enter Try.func25, Try.ntmps25
  go_wp2_with fail
  have b0 : Below w.heap.size w (w.alloc (.cells #[.slice none 0 0, .slice none 0 0] 50)) := (Below.refl _ _).alloc (Nat.le_refl _) _
  have rb : (w.alloc (.cells #[.slice none 0 0, .slice none 0 0] 50)).heap[w.heap.size]? = some (.cells #[.slice none 0 0, .slice none 0 0] 50 (0, 0)) := heap_alloc_last _ _
  have hz0 : w.heap.size < (w.alloc (.cells #[.slice none 0 0, .slice none 0 0] 50)).heap.size := by simp
  generalize w.alloc (.cells #[.slice none 0 0, .slice none 0 0] 50) = w0 at *
  refine (sourceF_any a n c xs w0 (row_grow (unhide R) b0) (unhide BY) hn).mono ?_
  rintro e w1 ⟨rfl, hs1, hb1, hz1⟩
  have HS := hide hs1
  have rb1 := (hb1.block w.heap.size hz0).trans rb
  have s1 := hb1.size
  clear hs1 rb
  go_wp2_with fail
  refine (flash_draw w0.heap.size a n c xs w1 _ (unhide HS)).mono ?_
  rintro e w2 ⟨b, m, cb, aw, nw, cw, ys, ws, rfl, hr2, hw2, hok, hcb, hcb2, hwr⟩
  have rb2 := (hwr.block w.heap.size (by omega) (by omega)).trans rb1
  have c0 : w2.cell? ⟨w.heap.size, 0, none⟩ = some (.slice none 0 0) := by simp [World.cell?, rb2]
  have c1 : w2.cell? ⟨w.heap.size, 1, none⟩ = some (.slice none 0 0) := by simp [World.cell?, rb2]
  have f0 : w2.frozen? ⟨w.heap.size, 0, none⟩ = false := by simp [World.frozen?, rb2]
  have f1 : w2.frozen? ⟨w.heap.size, 1, none⟩ = false := by simp [World.frozen?, rb2]
  have hl2 : w.heap.size < w2.heap.size := (Array.getElem?_eq_some_iff.1 rb2).1
  have B2 := hide ((b0.trans (hb1.mono (by omega))).trans (hwr.below (by omega) (by omega)))
  have RR := hide (row_box hr2 rb2 (.slice (some ⟨b, 0, none⟩) m cb) (.slice aw nw cw))
  have RW := hide (hw2.box rb2 (.slice (some ⟨b, 0, none⟩) m cb) (.slice aw nw cw))
  clear hr2 hw2 hwr hb1 b0 rb1 rb2 HS
  go_wp2_with fail
  have B3 := ((unhide B2).setCell (p := ⟨w.heap.size, 0, none⟩) (Nat.le_refl _) (.slice (some ⟨b, 0, none⟩) m cb)).setCell (p := ⟨w.heap.size, 1, none⟩) (Nat.le_refl _) (.slice aw nw cw)
  refine bodyPost_ret (v := fv (some ⟨b, 0, none⟩) m cb aw nw cw) (by simp [results, Try.results25, go_sem, c0, c1]) rfl ⟨b, m, cb, aw, nw, cw, ys, ws, rfl, unhide RR, unhide RW, hok, hcb, hcb2, B3⟩
end Go.Proofs.Ytgifcaeemfaihaa
