/-
  The law of a change behind a chain: its state.
-/
import Derived.Test.YtbboigidkimkmaaFdI
import Derived.Test.YtbboigidkimkmaaFdM
import Derived.Test.YtbboigidkimkmaaFdS
import Derived.Test.YtbboigidkimkmaaPageS
namespace Go.Proofs.Ytbboigidkimkmaa
open Go.RowKit

theorem row_growF {w w' : World} {a : Option Addr} {n : Nat} {xs : List Int} (h : Row w a n xs) (hb : Below w.heap.size w w') : Row w' a n xs := by
  refine ⟨h.1, fun i hi => ?_⟩
  obtain ⟨b, off, e, c⟩ := h.2 i hi
  exact ⟨b, off, e, (hb.cell (p := ⟨b, off + i, none⟩) (cell_lt c)).trans c⟩
theorem cap_eown {w : World} {B n c : Nat} {a : Option Addr} {es : List EntD} (h : EOwns w B (.slice a n c) es) : a = none → c = 0 := fun e => by
  subst e
  rcases h.2 with ⟨e, _⟩ | ⟨g, cap, cur, e, _⟩
  · injection e
  · cases e
theorem cap_down {w : World} {B n c : Nat} {a : Option Addr} {ds : List DelD} (h : DOwns w B (.slice a n c) ds) : a = none → c = 0 := fun e => by
  subst e
  rcases h.2 with ⟨e, _⟩ | ⟨g, cap, cur, e, _⟩
  · injection e
  · cases e
/-- A page at a block, with its lists. -/
structure PgAt (w : World) (b : Nat) (lo hi : ByteArray) (r : Int) (a1 : Option Addr) (n1 c1 : Nat) (a2 : Option Addr) (n2 c2 : Nat) (es : List EntD) (ds : List DelD) : Prop where
  k : w.heap[b]? = some (.cells #[.string lo, .string hi, .int .i64 r, .slice a1 n1 c1, .slice a2 n2 c2] 26 (0, 0))
  er : ERow w a1 n1 es
  dr : DRow w a2 n2 ds
  ce : a1 = none → c1 = 0
  cd : a2 = none → c2 = 0
theorem PgAt.below {w w' : World} {b : Nat} {lo hi : ByteArray} {r : Int} {a1 : Option Addr} {n1 c1 : Nat} {a2 : Option Addr} {n2 c2 : Nat} {es : List EntD} {ds : List DelD} (h : PgAt w b lo hi r a1 n1 c1 a2 n2 c2 es ds) (hb : Below w.heap.size w w') : PgAt w' b lo hi r a1 n1 c1 a2 n2 c2 es ds :=
  ⟨(hb.block b (heap_ltD h.k)).trans h.k, h.er.below hb, h.dr.below hb, h.ce, h.cd⟩
/-- A page of the call's own, laid at a new block. -/
theorem PgAt.new {w : World} {B : Nat} {lo hi : ByteArray} {r : Int} {a1 : Option Addr} {n1 c1 : Nat} {a2 : Option Addr} {n2 c2 : Nat} {es : List EntD} {ds : List DelD} (h : PgOwn w B a1 n1 c1 a2 n2 c2 es ds) : PgAt (w.alloc (.cells #[.string lo, .string hi, .int .i64 r, .slice a1 n1 c1, .slice a2 n2 c2] 26)) w.heap.size lo hi r a1 n1 c1 a2 n2 c2 es ds :=
  have b : Below w.heap.size w (w.alloc (.cells #[.string lo, .string hi, .int .i64 r, .slice a1 n1 c1, .slice a2 n2 c2] 26)) := (Below.refl _ _).alloc (Nat.le_refl _) _
  ⟨heap_alloc_new w _, (erow_of_owns h.1).below b, (drow_of_owns h.2.1).below b, cap_eown h.1, cap_down h.2.1⟩
end Go.Proofs.Ytbboigidkimkmaa
