/-
  Consolidate, of the specification and of impl.
-/
import Derived.Test.YtbboigidkimkmaaPageS
import Derived.Test.YtbboigidkimkmaaPgK
namespace Go.Proofs.Ytbboigidkimkmaa
open Go.RowKit

/-- A page put together. -/
def conP (lo hi : ByteArray) (r : Int) (es : List EntD) (ds : List DelD) : PageD := if okPage lo hi r es ds = true then ⟨lo, highE hi ds, rightE r ds, entsE es ds, []⟩ else ⟨ByteArray.empty, ByteArray.empty, 0, [], []⟩
def conC (lo hi : ByteArray) (r : Int) (es : List EntD) (ds : List DelD) : Int := if okPage lo hi r es ds = true then 0 else 1
theorem conP_ds (lo hi : ByteArray) (r : Int) (es : List EntD) (ds : List DelD) : (conP lo hi r es ds).ds = [] := by unfold conP; split <;> rfl
theorem conP_len (lo hi : ByteArray) (r : Int) (es : List EntD) (ds : List DelD) : (conP lo hi r es ds).es.length ≤ 32 := by
  unfold conP
  split
  · rename_i h; exact (ok_len h).2.2
  · simp
/-- The answer of Consolidate. -/
def ConRes (lo hi : ByteArray) (r : Int) (es : List EntD) (ds : List DelD) (w : World) (e : Ending) (w' : World) : Prop :=
  ∃ a n c, e = .returned (.tuple #[pgv (conP lo hi r es ds).lo (conP lo hi r es ds).hi (conP lo hi r es ds).r a n c none 0 0, .int .i64 (conC lo hi r es ds)]) ∧ EOwns w' w.heap.size (.slice a n c) (conP lo hi r es ds).es ∧ Below w.heap.size w w'
/-- Five cells of a block stored anew. -/
abbrev set5 (w : World) (b : Nat) (v0 v1 v2 v3 v4 : Value) : World := ((((w.setCell ⟨b, 0, none⟩ v0).setCell ⟨b, 1, none⟩ v1).setCell ⟨b, 2, none⟩ v2).setCell ⟨b, 3, none⟩ v3).setCell ⟨b, 4, none⟩ v4
theorem set5_below {w w1 : World} {B b : Nat} (h : Below B w w1) (hb : B ≤ b) (v0 v1 v2 v3 v4 : Value) : Below B w (set5 w1 b v0 v1 v2 v3 v4) :=
  ((((h.setCell (p := ⟨b, 0, none⟩) hb _).setCell (p := ⟨b, 1, none⟩) hb _).setCell (p := ⟨b, 2, none⟩) hb _).setCell (p := ⟨b, 3, none⟩) hb _).setCell (p := ⟨b, 4, none⟩) hb _
theorem set5_owns {w : World} {B b e s n : Nat} {v : Value} {vs : List Value} (h : w.ownsRow B e s v n vs) (hb : b < B) (v0 v1 v2 v3 v4 : Value) : (set5 w b v0 v1 v2 v3 v4).ownsRow B e s v n vs :=
  ownsRow_set (ownsRow_set (ownsRow_set (ownsRow_set (ownsRow_set h hb _ _) hb _ _) hb _ _) hb _ _) hb _ _
theorem fz_cells {w : World} {b : Nat} {cs : Array Value} {t : TypeId} (h : w.heap[b]? = some (.cells cs t (0, 0))) : w.frozen? ⟨b, 0, none⟩ = false ∧ w.frozen? ⟨b, 1, none⟩ = false ∧ w.frozen? ⟨b, 2, none⟩ = false ∧ w.frozen? ⟨b, 3, none⟩ = false ∧ w.frozen? ⟨b, 4, none⟩ = false :=
  ⟨heap_frozen h 0, heap_frozen h 1, heap_frozen h 2, heap_frozen h 3, heap_frozen h 4⟩
theorem pg_cells5 {w : World} {b : Nat} {v0 v1 v2 v3 v4 : Value} {t : TypeId} (h : w.heap[b]? = some (.cells #[v0, v1, v2, v3, v4] t (0, 0))) : w.cell? ⟨b, 0, none⟩ = some v0 ∧ w.cell? ⟨b, 1, none⟩ = some v1 ∧ w.cell? ⟨b, 2, none⟩ = some v2 ∧ w.cell? ⟨b, 3, none⟩ = some v3 ∧ w.cell? ⟨b, 4, none⟩ = some v4 :=
  ⟨heap_cell h 0, heap_cell h 1, heap_cell h 2, heap_cell h 3, heap_cell h 4⟩
set_option maxRecDepth 100000 in
set_option maxHeartbeats 4000000 in
theorem page_any (sb : Nat) (lo hi : ByteArray) (r : Int) (a : Option Addr) (n c : Nat) (w : World) (h : SetAt w sb lo hi r (.slice a n c)) :
    Calls Try.prog 22 #[.pointer (some ⟨sb, 0, none⟩)] w fun e w' => e = .returned (pgv lo hi r a n c none 0 0) ∧ Below w.heap.size w w' := by
  have b0 : Below w.heap.size w (w.alloc (.cells #[.string ⟨#[]⟩, .string ⟨#[]⟩, .int .i64 0, .slice none 0 0, .slice none 0 0] 26)) := (Below.refl _ _).alloc (Nat.le_refl _) _
  have h' := h.below b0 h.lt
  have c0 := h'.c0
  have c1 := h'.c1
  have c2 := h'.c2
  have c3 := h'.c3
  obtain ⟨y0, y1, y2, y3, y4⟩ := pg_cells5 (heap_new (w := w) rfl #[.string ⟨#[]⟩, .string ⟨#[]⟩, .int .i64 0, .slice none 0 0, .slice none 0 0] 26)
  obtain ⟨f0, f1, f2, f3, f4⟩ := fz_cells (heap_new (w := w) rfl #[.string ⟨#[]⟩, .string ⟨#[]⟩, .int .i64 0, .slice none 0 0, .slice none 0 0] 26)
  clear h h'
  go_enter Try.func22, Try.ntmps22
  go_wp2_with fail
  generalize w.alloc (.cells #[.string ⟨#[]⟩, .string ⟨#[]⟩, .int .i64 0, .slice none 0 0, .slice none 0 0] 26) = W0 at *
  go_region
  all_goals
    go_wp2_with fail
    have B5 := (set5_below b0 (Nat.le_refl _) (.string lo) (.string hi) (.int .i64 r) (.slice a n c) (.slice none 0 0)).drew
    refine bodyPost_ret (v := pgv lo hi r a n c none 0 0) (by simp [results, Try.results22, go_sem, *]) rfl ?_
    exact ⟨rfl, B5⟩
/-- Two blocks at a call's head: a page and room for an answer. -/
theorem two_new (w : World) (v0 v1 v2 v3 v4 : Value) : ∃ W, W = (w.alloc (.cells #[v0, v1, v2, v3, v4] 26)).alloc (.cells #[.string ⟨#[]⟩, .string ⟨#[]⟩, .int .i64 0, .slice none 0 0, .slice none 0 0] 26) ∧ W.heap[w.heap.size]? = some (.cells #[v0, v1, v2, v3, v4] 26 (0, 0)) ∧
    W.heap[w.heap.size + 1]? = some (.cells #[.string ⟨#[]⟩, .string ⟨#[]⟩, .int .i64 0, .slice none 0 0, .slice none 0 0] 26 (0, 0)) ∧ W.heap.size = w.heap.size + 1 + 1 ∧ Below w.heap.size w W := by
  have z1 : (w.alloc (.cells #[v0, v1, v2, v3, v4] 26)).heap.size = w.heap.size + 1 := by simp
  have b2 : Below (w.heap.size + 1) (w.alloc (.cells #[v0, v1, v2, v3, v4] 26)) ((w.alloc (.cells #[v0, v1, v2, v3, v4] 26)).alloc (.cells #[.string ⟨#[]⟩, .string ⟨#[]⟩, .int .i64 0, .slice none 0 0, .slice none 0 0] 26)) := (Below.refl _ _).alloc (by omega) _
  exact ⟨_, rfl, (b2.block w.heap.size (by omega)).trans (heap_new rfl _ _), heap_new z1 _ _, by simp, ((Below.refl _ _).alloc (Nat.le_refl _) _).alloc (by simp) _⟩
end Go.Proofs.Ytbboigidkimkmaa
