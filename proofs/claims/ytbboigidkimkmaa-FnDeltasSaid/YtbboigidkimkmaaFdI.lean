/-
  A page, a change, a key of a code.
-/
import Derived.Test.YtbboigidkimkmaaKyD
import Derived.Test.YtbboigidkimkmaaFdH
namespace Go.Proofs.Ytbboigidkimkmaa
open Go.RowKit

theorem own_sets {X : World} {B b : Nat} {a1 : Option Addr} {n1 c1 : Nat} {a2 : Option Addr} {n2 c2 : Nat} {es : List EntD} {ds : List DelD} (h : PgOwn X B a1 n1 c1 a2 n2 c2 es ds) (hb : b < B) (v0 v1 v2 v3 v4 : Value) : PgOwn (((((X.setCell ⟨b, 0, none⟩ v0).setCell ⟨b, 1, none⟩ v1).setCell ⟨b, 2, none⟩ v2).setCell ⟨b, 3, none⟩ v3).setCell ⟨b, 4, none⟩ v4) B a1 n1 c1 a2 n2 c2 es ds := by
  have st : ∀ (X : World) (j : Nat) (v : Value), PgOwn X B a1 n1 c1 a2 n2 c2 es ds → PgOwn (X.setCell ⟨b, j, none⟩ v) B a1 n1 c1 a2 n2 c2 es ds := fun X j v h => h.wr (wr_one X _ j v) (fun i hi e => by have := (h.blk hi).1; omega)
  exact st _ 4 v4 (st _ 3 v3 (st _ 2 v2 (st _ 1 v1 (st _ 0 v0 h))))
theorem below_sets4 {w X : World} {B b : Nat} (h : Below B w X) (hb : B ≤ b) (v0 v1 v2 v3 : Value) : Below B w ((((X.setCell ⟨b, 0, none⟩ v0).setCell ⟨b, 1, none⟩ v1).setCell ⟨b, 2, none⟩ v2).setCell ⟨b, 3, none⟩ v3) :=
  (((h.setCell (p := ⟨b, 0, none⟩) hb v0).setCell (p := ⟨b, 1, none⟩) hb v1).setCell (p := ⟨b, 2, none⟩) hb v2).setCell (p := ⟨b, 3, none⟩) hb v3
theorem below_sets5 {w X : World} {B b : Nat} (h : Below B w X) (hb : B ≤ b) (v0 v1 v2 v3 v4 : Value) : Below B w (((((X.setCell ⟨b, 0, none⟩ v0).setCell ⟨b, 1, none⟩ v1).setCell ⟨b, 2, none⟩ v2).setCell ⟨b, 3, none⟩ v3).setCell ⟨b, 4, none⟩ v4) :=
  (below_sets4 h hb v0 v1 v2 v3).setCell (p := ⟨b, 4, none⟩) hb v4
set_option maxHeartbeats 1000000 in
theorem pageOf_any (a : Option Addr) (n c : Nat) (xs : List Int) (w : World) (hr : Row w a n xs) (hby : ∀ i, i < n → 0 ≤ xs.getD i 0 ∧ xs.getD i 0 ≤ 255) (hn : n ≤ 1048576) :
    Calls Try.prog 5 #[.slice a n c] w fun e w' => ∃ lo hi r a1 n1 c1 a2 n2 c2 es ds, e = .returned (pgv lo hi r a1 n1 c1 a2 n2 c2) ∧ PgOwn w' w.heap.size a1 n1 c1 a2 n2 c2 es ds ∧ (okPage lo hi r es ds = true ∧ es.length ≤ 6 ∧ ds.length ≤ 6) ∧ Below w.heap.size w w' := by
  have R := hide (row_alloc (o := .cells #[.string ⟨#[]⟩, .string ⟨#[]⟩, .int .i64 0, .slice none 0 0, .slice none 0 0] 26) hr)
  have BY := hide hby
  have b0 : Below w.heap.size w (w.alloc (.cells #[.string ⟨#[]⟩, .string ⟨#[]⟩, .int .i64 0, .slice none 0 0, .slice none 0 0] 26)) := (Below.refl _ _).alloc (Nat.le_refl _) _
  have KZ := heap_alloc_new w (.cells #[.string ⟨#[]⟩, .string ⟨#[]⟩, .int .i64 0, .slice none 0 0, .slice none 0 0] 26)
  have HZ := hide (show (w.alloc (.cells #[.string ⟨#[]⟩, .string ⟨#[]⟩, .int .i64 0, .slice none 0 0, .slice none 0 0] 26)).heap.size = w.heap.size + 1 by simp)
  clear hr hby
  go_enter Try.func5, Try.ntmps5
  go_wp2_with fail
  generalize w.alloc (.cells #[.string ⟨#[]⟩, .string ⟨#[]⟩, .int .i64 0, .slice none 0 0, .slice none 0 0] 26) = W0 at *
  refine (source_any a n c xs W0 (unhide R) (unhide BY) hn).mono ?_
  rintro e w1 ⟨rfl, hs1, hb1, hz1⟩
  go_wp2_with fail
  refine (pageD_any W0.heap.size a n c xs w1 hs1).mono ?_
  rintro e w2 ⟨lo, hi, r, a1, n1, c1, a2, n2, c2, es, ds, rfl, ho, hok, hw⟩
  have hz := unhide HZ
  have bA := b0.trans ((src_below hb1 hw).mono (by omega))
  have K2 := (hw.block w.heap.size (by omega) (by omega)).trans ((hb1.block w.heap.size (by omega)).trans KZ)
  have O := hide ((own_sets (b := w.heap.size) ho (by omega) (.string lo) (.string hi) (.int .i64 r) (.slice a1 n1 c1) (.slice a2 n2 c2)).base (show w.heap.size ≤ w1.heap.size by omega))
  have bB := hide (below_sets5 (b := w.heap.size) bA (Nat.le_refl _) (.string lo) (.string hi) (.int .i64 r) (.slice a1 n1 c1) (.slice a2 n2 c2))
  have OK := hide hok
  obtain ⟨⟨e0, e1, e2, e3, e4⟩, fz⟩ := five_of K2
  have f0 := fz 0
  have f1 := fz 1
  have f2 := fz 2
  have f3 := fz 3
  have f4 := fz 4
  clear fz hb1 hw hs1 ho hok hz1 hz bA K2 KZ HZ b0 R BY
  go_wp2_with fail
  refine bodyPost_ret (v := pgv lo hi r a1 n1 c1 a2 n2 c2) (by simp [results, Try.results5, go_sem, pgv, *] <;> rfl) rfl ?_
  exact ⟨lo, hi, r, a1, n1, c1, a2, n2, c2, es, ds, rfl, unhide O, unhide OK, unhide bB⟩
set_option maxHeartbeats 1000000 in
theorem deltaOf_any (a : Option Addr) (n c : Nat) (xs : List Int) (w : World) (hr : Row w a n xs) (hby : ∀ i, i < n → 0 ≤ xs.getD i 0 ∧ xs.getD i 0 ≤ 255) (hn : n ≤ 1048576) :
    Calls Try.prog 15 #[.slice a n c] w fun e w' => ∃ d : DelD, e = .returned (dV d) ∧ Below w.heap.size w w' := by
  have R := hide (row_alloc (o := .cells #[.int .i64 0, .string ⟨#[]⟩, .string ⟨#[]⟩, .int .i64 0] 41) hr)
  have BY := hide hby
  have b0 : Below w.heap.size w (w.alloc (.cells #[.int .i64 0, .string ⟨#[]⟩, .string ⟨#[]⟩, .int .i64 0] 41)) := (Below.refl _ _).alloc (Nat.le_refl _) _
  have KZ := heap_alloc_new w (.cells #[.int .i64 0, .string ⟨#[]⟩, .string ⟨#[]⟩, .int .i64 0] 41)
  have HZ := hide (show (w.alloc (.cells #[.int .i64 0, .string ⟨#[]⟩, .string ⟨#[]⟩, .int .i64 0] 41)).heap.size = w.heap.size + 1 by simp)
  clear hr hby
  go_enter Try.func15, Try.ntmps15
  go_wp2_with fail
  generalize w.alloc (.cells #[.int .i64 0, .string ⟨#[]⟩, .string ⟨#[]⟩, .int .i64 0] 41) = W0 at *
  refine (source_any a n c xs W0 (unhide R) (unhide BY) hn).mono ?_
  rintro e w1 ⟨rfl, hs1, hb1, hz1⟩
  go_wp2_with fail
  refine (deltaD_any W0.heap.size a n c xs 0 w1 hs1 (by omega)).mono ?_
  rintro e w2 ⟨d, rfl, hw, _⟩
  have hz := unhide HZ
  have bA := b0.trans ((src_below hb1 hw).mono (by omega))
  have K2 := (hw.block w.heap.size (by omega) (by omega)).trans ((hb1.block w.heap.size (by omega)).trans KZ)
  have bB := hide (below_sets4 (b := w.heap.size) bA (Nat.le_refl _) (.int .i64 d.kind) (.string d.k) (.string d.v) (.int .i64 d.to))
  obtain ⟨⟨e0, e1, e2, e3⟩, f0, f1, f2, f3⟩ := four_set K2
  clear hb1 hw hs1 hz1 hz bA K2 KZ HZ b0 R BY
  unfold dV
  go_wp2_with fail
  refine bodyPost_ret (v := dV d) (by simp [results, Try.results15, go_sem, dV, *] <;> rfl) rfl ?_
  exact ⟨d, rfl, unhide bB⟩
end Go.Proofs.Ytbboigidkimkmaa
