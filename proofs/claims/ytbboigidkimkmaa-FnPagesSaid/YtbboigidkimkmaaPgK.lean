/-
  Pages as data with lists of the call's own; markPage, heldPage, eqPage over them.
-/
import Derived.Test.YtbboigidkimkmaaPgH
import Derived.Test.YtbboigidkimkmaaWrT
namespace Go.Proofs.Ytbboigidkimkmaa
open Go.RowKit

/-- The blocks of a page's two lists. -/
def PgBlk (a : Option Addr) (n c : Nat) (a2 : Option Addr) (n2 c2 : Nat) (i : Nat) : Prop := (Value.slice a n c).ownBlock = some i ∨ (Value.slice a2 n2 c2).ownBlock = some i
/-- A page whose two lists are the call's own, from block B on, and apart. -/
def PgOwn (w : World) (B : Nat) (a : Option Addr) (n c : Nat) (a2 : Option Addr) (n2 c2 : Nat) (es : List EntD) (ds : List DelD) : Prop :=
  EOwns w B (.slice a n c) es ∧ DOwns w B (.slice a2 n2 c2) ds ∧ ∀ i, (Value.slice a n c).ownBlock = some i → ¬ (Value.slice a2 n2 c2).ownBlock = some i
theorem PgOwn.len {w : World} {B : Nat} {a : Option Addr} {n c : Nat} {a2 : Option Addr} {n2 c2 : Nat} {es : List EntD} {ds : List DelD} (h : PgOwn w B a n c a2 n2 c2 es ds) : n = es.length ∧ n2 = ds.length := ⟨(erow_of_owns h.1).1.symm, (drow_of_owns h.2.1).1.symm⟩
theorem PgOwn.blk {w : World} {B : Nat} {a : Option Addr} {n c : Nat} {a2 : Option Addr} {n2 c2 : Nat} {es : List EntD} {ds : List DelD} (h : PgOwn w B a n c a2 n2 c2 es ds) {i : Nat} (hi : PgBlk a n c a2 n2 c2 i) : B ≤ i ∧ i < w.heap.size := by
  rcases hi with hi | hi
  · exact h.1.lt i hi
  · exact h.2.1.lt i hi
theorem PgOwn.wr {w w' : World} {P : Nat → Prop} {B : Nat} {a : Option Addr} {n c : Nat} {a2 : Option Addr} {n2 c2 : Nat} {es : List EntD} {ds : List DelD} (h : PgOwn w B a n c a2 n2 c2 es ds) (hw : Wr P w w') (hp : ∀ i, PgBlk a n c a2 n2 c2 i → ¬ P i) : PgOwn w' B a n c a2 n2 c2 es ds :=
  ⟨ownsRow_heap h.1 (fun g hg => hw.block g (h.1.lt g hg).2 (hp g (.inl hg))), ownsRow_heap h.2.1 (fun g hg => hw.block g (h.2.1.lt g hg).2 (hp g (.inr hg))), h.2.2⟩
theorem PgOwn.below {w w' : World} {B : Nat} {a : Option Addr} {n c : Nat} {a2 : Option Addr} {n2 c2 : Nat} {es : List EntD} {ds : List DelD} (h : PgOwn w B a n c a2 n2 c2 es ds) (hb : Below w.heap.size w w') : PgOwn w' B a n c a2 n2 c2 es ds :=
  h.wr (P := fun _ => False) (Wr.of_below hb) (fun _ _ h => h)
theorem PgOwn.base {w : World} {B C : Nat} {a : Option Addr} {n c : Nat} {a2 : Option Addr} {n2 c2 : Nat} {es : List EntD} {ds : List DelD} (h : PgOwn w B a n c a2 n2 c2 es ds) (hC : C ≤ B) : PgOwn w C a n c a2 n2 c2 es ds :=
  ⟨ownsRow_base h.1 hC, ownsRow_base h.2.1 hC, h.2.2⟩
theorem pgown_of {w : World} {B g h nb nc : Nat} {es : List EntD} {ds : List DelD} (x : OwnPage w B g h nb nc es ds) : PgOwn w B (some ⟨g, 0, none⟩) nb nb (some ⟨h, 0, none⟩) nc nc es ds :=
  ⟨x.1, x.2.1, fun i hi hj => by
    simp only [Value.ownBlock, Option.some.injEq] at hi hj
    exact x.2.2 (hi.trans hj.symm)⟩
end Go.Proofs.Ytbboigidkimkmaa
