/-
  Consolidate, of the specification and of impl.
-/
import Derived.Test.YtkggpapmhopaeaaPageS
import Derived.Test.YtkggpapmhopaeaaPgK
namespace Go.Proofs.Ytkggpapmhopaeaa
open Go.RowKit

/-- A page put together. -/
def conP (lo hi : ByteArray) (r : Int) (es : List EntD) (ds : List DelD) : PageD := if okPage lo hi r es ds = true then ⟨lo, highE hi ds, rightE r ds, entsE es ds, []⟩ else ⟨ByteArray.empty, ByteArray.empty, 0, [], []⟩
def conC (lo hi : ByteArray) (r : Int) (es : List EntD) (ds : List DelD) : Int := if okPage lo hi r es ds = true then 0 else 1
theorem conP_ds (lo hi : ByteArray) (r : Int) (es : List EntD) (ds : List DelD) : (conP lo hi r es ds).ds = [] := by unfold conP; split <;> rfl
theorem conP_len (lo hi : ByteArray) (r : Int) (es : List EntD) (ds : List DelD) : (conP lo hi r es ds).es.length ≤ 32 := by
  unfold conP
  split
  · rename_i h; exact (ok_len h).2.2
  · simp
/-- The answer of Consolidate. -/
def ConRes (lo hi : ByteArray) (r : Int) (es : List EntD) (ds : List DelD) (w : World) (e : Ending) (w' : World) : Prop :=
  ∃ a n c, e = .returned (.tuple #[pgv (conP lo hi r es ds).lo (conP lo hi r es ds).hi (conP lo hi r es ds).r a n c none 0 0, .int .i64 (conC lo hi r es ds)]) ∧ EOwns w' w.heap.size (.slice a n c) (conP lo hi r es ds).es ∧ Below w.heap.size w w'
/-- Five cells of a block stored anew. -/
abbrev set5 (w : World) (b : Nat) (v0 v1 v2 v3 v4 : Value) : World := ((((w.setCell ⟨b, 0, none⟩ v0).setCell ⟨b, 1, none⟩ v1).setCell ⟨b, 2, none⟩ v2).setCell ⟨b, 3, none⟩ v3).setCell ⟨b, 4, none⟩ v4
theorem set5_below {w w1 : World} {B b : Nat} (h : Below B w w1) (hb : B ≤ b) (v0 v1 v2 v3 v4 : Value) : Below B w (set5 w1 b v0 v1 v2 v3 v4) :=
  ((((h.setCell (p := ⟨b, 0, none⟩) hb _).setCell (p := ⟨b, 1, none⟩) hb _).setCell (p := ⟨b, 2, none⟩) hb _).setCell (p := ⟨b, 3, none⟩) hb _).setCell (p := ⟨b, 4, none⟩) hb _
theorem set5_owns {w : World} {B b e s n : Nat} {v : Value} {vs : List Value} (h : w.ownsRow B e s v n vs) (hb : b < B) (v0 v1 v2 v3 v4 : Value) : (set5 w b v0 v1 v2 v3 v4).ownsRow B e s v n vs :=
  ownsRow_set (ownsRow_set (ownsRow_set (ownsRow_set (ownsRow_set h hb _ _) hb _ _) hb _ _) hb _ _) hb _ _
theorem fz_cells {w : World} {b : Nat} {cs : Array Value} {t : TypeId} (h : w.heap[b]? = some (.cells cs t (0, 0))) : w.frozen? ⟨b, 0, none⟩ = false ∧ w.frozen? ⟨b, 1, none⟩ = false ∧ w.frozen? ⟨b, 2, none⟩ = false ∧ w.frozen? ⟨b, 3, none⟩ = false ∧ w.frozen? ⟨b, 4, none⟩ = false :=
  ⟨heap_frozen h 0, heap_frozen h 1, heap_frozen h 2, heap_frozen h 3, heap_frozen h 4⟩
theorem pg_cells5 {w : World} {b : Nat} {v0 v1 v2 v3 v4 : Value} {t : TypeId} (h : w.heap[b]? = some (.cells #[v0, v1, v2, v3, v4] t (0, 0))) : w.cell? ⟨b, 0, none⟩ = some v0 ∧ w.cell? ⟨b, 1, none⟩ = some v1 ∧ w.cell? ⟨b, 2, none⟩ = some v2 ∧ w.cell? ⟨b, 3, none⟩ = some v3 ∧ w.cell? ⟨b, 4, none⟩ = some v4 :=
  ⟨heap_cell h 0, heap_cell h 1, heap_cell h 2, heap_cell h 3, heap_cell h 4⟩
set_option maxRecDepth 100000 in
set_option maxHeartbeats 4000000 in
theorem page_any (sb : Nat) (lo hi : ByteArray) (r : Int) (a : Option Addr) (n c : Nat) (w : World) (h : SetAt w sb lo hi r (.slice a n c)) :
    Calls Try.prog 59 #[.pointer (some ⟨sb, 0, none⟩)] w fun e w' => e = .returned (pgv lo hi r a n c none 0 0) ∧ Below w.heap.size w w' := by
  have b0 : Below w.heap.size w (w.alloc (.cells #[.string ⟨#[]⟩, .string ⟨#[]⟩, .int .i64 0, .slice none 0 0, .slice none 0 0] 31)) := (Below.refl _ _).alloc (Nat.le_refl _) _
  have h' := h.below b0 h.lt
  have c0 := h'.c0
  have c1 := h'.c1
  have c2 := h'.c2
  have c3 := h'.c3
  obtain ⟨y0, y1, y2, y3, y4⟩ := pg_cells5 (heap_new (w := w) rfl #[.string ⟨#[]⟩, .string ⟨#[]⟩, .int .i64 0, .slice none 0 0, .slice none 0 0] 31)
  obtain ⟨f0, f1, f2, f3, f4⟩ := fz_cells (heap_new (w := w) rfl #[.string ⟨#[]⟩, .string ⟨#[]⟩, .int .i64 0, .slice none 0 0, .slice none 0 0] 31)
  clear h h'
  go_enter Try.func59, Try.ntmps59
  go_wp2_with fail
  generalize w.alloc (.cells #[.string ⟨#[]⟩, .string ⟨#[]⟩, .int .i64 0, .slice none 0 0, .slice none 0 0] 31) = W0 at *
  go_region
  all_goals
    go_wp2_with fail
    have B5 := (set5_below b0 (Nat.le_refl _) (.string lo) (.string hi) (.int .i64 r) (.slice a n c) (.slice none 0 0)).drew
    refine bodyPost_ret (v := pgv lo hi r a n c none 0 0) (by simp [results, Try.results59, go_sem, *]) rfl ?_
    exact ⟨rfl, B5⟩
/-- Two blocks at a call's head: a page and room for an answer. -/
theorem two_new (w : World) (v0 v1 v2 v3 v4 : Value) : ∃ W, W = (w.alloc (.cells #[v0, v1, v2, v3, v4] 31)).alloc (.cells #[.string ⟨#[]⟩, .string ⟨#[]⟩, .int .i64 0, .slice none 0 0, .slice none 0 0] 31) ∧ W.heap[w.heap.size]? = some (.cells #[v0, v1, v2, v3, v4] 31 (0, 0)) ∧
    W.heap[w.heap.size + 1]? = some (.cells #[.string ⟨#[]⟩, .string ⟨#[]⟩, .int .i64 0, .slice none 0 0, .slice none 0 0] 31 (0, 0)) ∧ W.heap.size = w.heap.size + 1 + 1 ∧ Below w.heap.size w W := by
  have z1 : (w.alloc (.cells #[v0, v1, v2, v3, v4] 31)).heap.size = w.heap.size + 1 := by simp
  have b2 : Below (w.heap.size + 1) (w.alloc (.cells #[v0, v1, v2, v3, v4] 31)) ((w.alloc (.cells #[v0, v1, v2, v3, v4] 31)).alloc (.cells #[.string ⟨#[]⟩, .string ⟨#[]⟩, .int .i64 0, .slice none 0 0, .slice none 0 0] 31)) := (Below.refl _ _).alloc (by omega) _
  exact ⟨_, rfl, (b2.block w.heap.size (by omega)).trans (heap_new rfl _ _), heap_new z1 _ _, by simp, ((Below.refl _ _).alloc (Nat.le_refl _) _).alloc (by simp) _⟩
set_option maxRecDepth 100000 in
set_option maxHeartbeats 4000000 in
theorem l04Consolidate_any (lo hi : ByteArray) (r : Int) (ab : Option Addr) (nb cb : Nat) (es : List EntD) (ac : Option Addr) (nc cc : Nat) (ds : List DelD) (w : World) (hE : ERow w ab nb es) (hD : DRow w ac nc ds) (hnb : nb ≤ 100) (hnc : nc ≤ 100) (hcb : ab = none → cb = 0) :
    Calls Try.prog 58 #[pgv lo hi r ab nb cb ac nc cc] w fun e w' => ∃ a n c, e = .returned (pgv lo (highE hi ds) (rightE r ds) a n c none 0 0) ∧ EOwns w' w.heap.size (.slice a n c) (entsE es ds) ∧ Below w.heap.size w w' := by
  obtain ⟨W, hW, k1, k2, z, b0⟩ := two_new w (.string lo) (.string hi) (.int .i64 r) (.slice ab nb cb) (.slice ac nc cc)
  have RE := hide (hE.below b0)
  have RD := hide (hD.below b0)
  have K1 := hide k1
  have K2 := hide k2
  clear hE hD k1 k2
  go_enter Try.func58, Try.ntmps58
  go_wp2_with fail
  rw [← hW]
  clear hW
  refine (l04Bounds_any lo hi r (.slice ab nb cb) ac nc cc ds W (unhide RD) (by omega)).mono ?_
  rintro e w1 ⟨rfl, hb1⟩
  have K1' := hide ((hb1.block w.heap.size (by omega)).trans (unhide K1))
  have K2' := hide ((hb1.block (w.heap.size + 1) (by omega)).trans (unhide K2))
  have B1 := b0.trans (hb1.mono b0.size)
  have z1 : w.heap.size + 1 + 1 ≤ w1.heap.size := by have := hb1.size; omega
  have RE1 := hide ((unhide RE).below hb1)
  have RD1 := hide ((unhide RD).below hb1)
  clear hb1 b0 RE RD K1 K2 z
  obtain ⟨p0, p1, p2, p3, p4⟩ := pg_cells5 (unhide K1')
  generalize hhi : highE hi ds = hi1 at *
  generalize hrr : rightE r ds = r1 at *
  have CE := hide (show ∀ w', w' = w1 ∨ w' = w1.drew ∨ (∃ q, w' = w1.drewN q) → Calls Try.prog 37 #[pgv lo hi r ab nb cb ac nc cc] w' fun x w2 => ∃ g cap, x = .returned (.slice (some ⟨g, 0, none⟩) (entsE es ds).length cap) ∧ EOwns w2 w1.heap.size (.slice (some ⟨g, 0, none⟩) (entsE es ds).length cap) (entsE es ds) ∧ Below w1.heap.size w1 w2 from fun w' h' => by
    rcases h' with rfl | rfl | ⟨q, rfl⟩
    · exact l04Entries_any lo hi r ab nb cb es ac nc cc ds _ (unhide RE1) (unhide RD1) hnb hnc hcb
    · refine (l04Entries_any lo hi r ab nb cb es ac nc cc ds w1.drew (unhide RE1) (unhide RD1) hnb hnc hcb).mono ?_
      rintro x w2 ⟨g, cap, e, o, b⟩
      exact ⟨g, cap, e, o, bel_of_drew b⟩
    · refine (l04Entries_any lo hi r ab nb cb es ac nc cc ds (w1.drewN q) (unhide RE1) (unhide RD1) hnb hnc hcb).mono ?_
      rintro x w2 ⟨g, cap, e, o, b⟩
      exact ⟨g, cap, e, o, bel_of_drewN b⟩)
  have YP := hide (show ∀ w2, Below w1.heap.size w1 w2 → w2.heap[w.heap.size]? = _ ∧ w2.heap[w.heap.size + 1]? = _ ∧ Below w.heap.size w w2 from fun w2 hb => ⟨(hb.block w.heap.size (by omega)).trans (unhide K1'), (hb.block (w.heap.size + 1) (by omega)).trans (unhide K2'), B1.trans (hb.mono B1.size)⟩)
  go_wp2_with fail
  go_region_with (go_at_call 37; refine (unhide CE _ (by first | exact .inl rfl | exact .inr (.inl rfl) | exact .inr (.inr ⟨_, rfl⟩))).mono ?_; rintro e w2 ⟨g, cap, rfl, hO, hb2⟩; obtain ⟨q1, q2, B2⟩ := unhide YP w2 hb2; obtain ⟨s0, s1, s2, s3, s4⟩ := pg_cells5 q1; obtain ⟨t0, t1, t2, t3, t4⟩ := pg_cells5 q2; obtain ⟨f0, f1, f2, f3, f4⟩ := fz_cells q2; have O2 := hide hO; clear hO hb2 q1 q2)
  all_goals
    go_wp2_with fail
    have hlt : w.heap.size + 1 < w1.heap.size := by omega
    refine bodyPost_ret (v := pgv lo hi1 r1 (some ⟨g, 0, none⟩) (entsE es ds).length cap none 0 0) (by simp [results, Try.results58, go_sem, *]) rfl ⟨_, _, _, by rw [hhi, hrr], ?_, set5_below B2 (Nat.le_succ _) _ _ _ _ _⟩
    exact ownsRow_base (set5_owns (unhide O2) hlt _ _ _ _ _) (by omega)
end Go.Proofs.Ytkggpapmhopaeaa
