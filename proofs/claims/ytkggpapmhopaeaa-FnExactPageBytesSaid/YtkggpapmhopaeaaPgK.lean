/-
  Pages as data with lists of the call's own; markPage, heldPage, eqPage over them.
-/
import Derived.Test.YtkggpapmhopaeaaPgH
import Derived.Test.YtkggpapmhopaeaaWrT
namespace Go.Proofs.Ytkggpapmhopaeaa
open Go.RowKit

/-- The blocks of a page's two lists. -/
def PgBlk (a : Option Addr) (n c : Nat) (a2 : Option Addr) (n2 c2 : Nat) (i : Nat) : Prop := (Value.slice a n c).ownBlock = some i ∨ (Value.slice a2 n2 c2).ownBlock = some i
/-- A page whose two lists are the call's own, from block B on, and apart. -/
def PgOwn (w : World) (B : Nat) (a : Option Addr) (n c : Nat) (a2 : Option Addr) (n2 c2 : Nat) (es : List EntD) (ds : List DelD) : Prop :=
  EOwns w B (.slice a n c) es ∧ DOwns w B (.slice a2 n2 c2) ds ∧ ∀ i, (Value.slice a n c).ownBlock = some i → ¬ (Value.slice a2 n2 c2).ownBlock = some i
theorem PgOwn.len {w : World} {B : Nat} {a : Option Addr} {n c : Nat} {a2 : Option Addr} {n2 c2 : Nat} {es : List EntD} {ds : List DelD} (h : PgOwn w B a n c a2 n2 c2 es ds) : n = es.length ∧ n2 = ds.length := ⟨(erow_of_owns h.1).1.symm, (drow_of_owns h.2.1).1.symm⟩
theorem PgOwn.blk {w : World} {B : Nat} {a : Option Addr} {n c : Nat} {a2 : Option Addr} {n2 c2 : Nat} {es : List EntD} {ds : List DelD} (h : PgOwn w B a n c a2 n2 c2 es ds) {i : Nat} (hi : PgBlk a n c a2 n2 c2 i) : B ≤ i ∧ i < w.heap.size := by
  rcases hi with hi | hi
  · exact h.1.lt i hi
  · exact h.2.1.lt i hi
theorem PgOwn.wr {w w' : World} {P : Nat → Prop} {B : Nat} {a : Option Addr} {n c : Nat} {a2 : Option Addr} {n2 c2 : Nat} {es : List EntD} {ds : List DelD} (h : PgOwn w B a n c a2 n2 c2 es ds) (hw : Wr P w w') (hp : ∀ i, PgBlk a n c a2 n2 c2 i → ¬ P i) : PgOwn w' B a n c a2 n2 c2 es ds :=
  ⟨ownsRow_heap h.1 (fun g hg => hw.block g (h.1.lt g hg).2 (hp g (.inl hg))), ownsRow_heap h.2.1 (fun g hg => hw.block g (h.2.1.lt g hg).2 (hp g (.inr hg))), h.2.2⟩
theorem PgOwn.below {w w' : World} {B : Nat} {a : Option Addr} {n c : Nat} {a2 : Option Addr} {n2 c2 : Nat} {es : List EntD} {ds : List DelD} (h : PgOwn w B a n c a2 n2 c2 es ds) (hb : Below w.heap.size w w') : PgOwn w' B a n c a2 n2 c2 es ds :=
  h.wr (P := fun _ => False) (Wr.of_below hb) (fun _ _ h => h)
theorem PgOwn.base {w : World} {B C : Nat} {a : Option Addr} {n c : Nat} {a2 : Option Addr} {n2 c2 : Nat} {es : List EntD} {ds : List DelD} (h : PgOwn w B a n c a2 n2 c2 es ds) (hC : C ≤ B) : PgOwn w C a n c a2 n2 c2 es ds :=
  ⟨ownsRow_base h.1 hC, ownsRow_base h.2.1 hC, h.2.2⟩
theorem pgown_of {w : World} {B g h nb nc : Nat} {es : List EntD} {ds : List DelD} (x : OwnPage w B g h nb nc es ds) : PgOwn w B (some ⟨g, 0, none⟩) nb nb (some ⟨h, 0, none⟩) nc nc es ds :=
  ⟨x.1, x.2.1, fun i hi hj => by
    simp only [Value.ownBlock, Option.some.injEq] at hi hj
    exact x.2.2 (hi.trans hj.symm)⟩
theorem eqPage_own (lo hi : ByteArray) (r : Int) (B B2 : Nat) (a : Option Addr) (n c : Nat) (a2 : Option Addr) (n2 c2 : Nat) (d : Option Addr) (m e : Nat) (d2 : Option Addr) (m2 e2 : Nat) (es : List EntD) (ds : List DelD) (w : World) (h1 : PgOwn w B a n c a2 n2 c2 es ds) (h2 : PgOwn w B2 d m e d2 m2 e2 es ds) (hn : es.length ≤ 1048576) (hm : ds.length ≤ 1048576) :
    Calls Try.prog 13 #[pgv lo hi r a n c a2 n2 c2, pgv lo hi r d m e d2 m2 e2] w fun x w' => x = .returned (.bool true) ∧ Below w.heap.size w w' := by
  obtain ⟨rfl, rfl⟩ := h1.len
  obtain ⟨rfl, rfl⟩ := h2.len
  exact eqPage_any lo hi r a d _ c e es a2 d2 _ c2 e2 ds w hn hm (erow_of_owns h1.1) (erow_of_owns h2.1) (drow_of_owns h1.2.1) (drow_of_owns h2.2.1)
set_option maxRecDepth 100000 in
set_option maxHeartbeats 2000000 in
theorem markPage_own (lo hi : ByteArray) (r : Int) (B k0 : Nat) (a : Option Addr) (n c : Nat) (a2 : Option Addr) (n2 c2 : Nat) (es : List EntD) (ds : List DelD) (w : World) (h1 : PgOwn w B a n c a2 n2 c2 es ds) (hp : 0 < k0) (hn : 2 * n + 4 * n2 + k0 ≤ 9999990) :
    Calls Try.prog 22 #[pgv lo hi r a n c a2 n2 c2, .int .i64 k0] w fun x w' => x = .returned (.int .i64 ((k0 + 2 * n + 4 * n2 : Nat) : Int)) ∧ PgOwn w' B a n c a2 n2 c2 (markEs k0 n) (markDls (k0 + 2 * n) n2) ∧ Wr (PgBlk a n c a2 n2 c2) w w' := by
  have b0 : Below w.heap.size w (w.alloc (.cells #[.string lo, .string hi, .int .i64 r, .slice a n c, .slice a2 n2 c2] 31)) := (Below.refl _ _).alloc (Nat.le_refl _) _
  have H1 := hide (h1.below b0)
  have NB := hide (show ¬ PgBlk a n c a2 n2 c2 w.heap.size from fun h => by have := (h1.blk h).2; omega)
  have k0' := hide (heap_alloc_new w (.cells #[.string lo, .string hi, .int .i64 r, .slice a n c, .slice a2 n2 c2] 31))
  have z0 : (w.alloc (.cells #[.string lo, .string hi, .int .i64 r, .slice a n c, .slice a2 n2 c2] 31)).heap.size = w.heap.size + 1 := by simp
  clear h1
  go_enter Try.func22, Try.ntmps22
  go_wp2_with fail
  generalize w.alloc (.cells #[.string lo, .string hi, .int .i64 r, .slice a n c, .slice a2 n2 c2] 31) = W0 at *
  refine (markEntryS_any B a n c k0 es W0 hp (by omega) (unhide H1).1).mono ?_
  rintro e w1 ⟨rfl, hO1, hg1⟩
  have W1 := hide (show Wr (PgBlk a n c a2 n2 c2) w w1 from (Wr.of_below b0).trans (Wr.of_grown hg1 (fun i h => .inl h)))
  have D1 := hide (ownsRow_heap (unhide H1).2.1 (fun g hg => hg1.block g ((unhide H1).2.1.lt g hg).2 (fun e => (unhide H1).2.2 g e.symm hg)))
  have k1 := hide ((hg1.block w.heap.size (by omega) (fun e => unhide NB (.inl e.symm))).trans (unhide k0'))
  have O1 := hide hO1
  have AP := hide (unhide H1).2.2
  have p4 : w1.cell? ⟨w.heap.size, 4, none⟩ = some (.slice a2 n2 c2) := heap_cell (unhide k1) 4
  clear hO1 hg1 H1 b0 k0'
  have hp2 : 0 < k0 + 2 * n := by omega
  go_wp2_with fail
  refine (markDeltaS_any B a2 n2 c2 (k0 + 2 * n) ds w1 hp2 (by omega) (unhide D1)).mono ?_
  rintro e w2 ⟨rfl, hO2, hg2⟩
  have W2 := hide ((unhide W1).trans (Wr.of_grown hg2 (fun i h => .inr h)))
  have E2 := hide (ownsRow_heap (unhide O1) (fun g hg => hg2.block g ((unhide O1).lt g hg).2 (fun e => unhide AP g hg e.symm)))
  have O2 := hide hO2
  clear hO2 hg2 D1 O1 W1 p4 k1
  go_wp2_with fail
  go_ret
  exact ⟨rfl, ⟨unhide E2, unhide O2, unhide AP⟩, unhide W2⟩
set_option maxRecDepth 100000 in
set_option maxHeartbeats 2000000 in
theorem heldPage_own (lo hi : ByteArray) (r : Int) (B k0 : Nat) (a : Option Addr) (n c : Nat) (a2 : Option Addr) (n2 c2 : Nat) (w : World) (h1 : PgOwn w B a n c a2 n2 c2 (markEs k0 n) (markDls (k0 + 2 * n) n2)) (hp : 0 < k0) (hn : 2 * n + 4 * n2 + k0 ≤ 9999990) :
    Calls Try.prog 23 #[pgv lo hi r a n c a2 n2 c2, .int .i64 k0] w fun x w' => x = .returned (.int .i64 ((k0 + 2 * n + 4 * n2 : Nat) : Int)) ∧ Below w.heap.size w w' := by
  have b0 : Below w.heap.size w (w.alloc (.cells #[.string lo, .string hi, .int .i64 r, .slice a n c, .slice a2 n2 c2] 31)) := (Below.refl _ _).alloc (Nat.le_refl _) _
  have H1 := hide (h1.below b0)
  have k0' := hide (heap_alloc_new w (.cells #[.string lo, .string hi, .int .i64 r, .slice a n c, .slice a2 n2 c2] 31))
  have z0 : (w.alloc (.cells #[.string lo, .string hi, .int .i64 r, .slice a n c, .slice a2 n2 c2] 31)).heap.size = w.heap.size + 1 := by simp
  clear h1
  go_enter Try.func23, Try.ntmps23
  go_wp2_with fail
  generalize w.alloc (.cells #[.string lo, .string hi, .int .i64 r, .slice a n c, .slice a2 n2 c2] 31) = W0 at *
  refine (heldEntryS_any a n c k0 W0 hp (by omega) (erow_of_owns (unhide H1).1)).mono ?_
  rintro e w1 ⟨rfl, hb1⟩
  have H2 := hide ((unhide H1).below hb1)
  have k1 := hide ((hb1.block w.heap.size (by omega)).trans (unhide k0'))
  have B1 := hide (b0.trans (hb1.mono b0.size))
  have p4 : w1.cell? ⟨w.heap.size, 4, none⟩ = some (.slice a2 n2 c2) := heap_cell (unhide k1) 4
  clear hb1 H1 b0 k0'
  have hp2 : 0 < k0 + 2 * n := by omega
  go_wp2_with fail
  refine (heldDeltaS_any a2 n2 c2 (k0 + 2 * n) w1 hp2 (by omega) (drow_of_owns (unhide H2).2.1)).mono ?_
  rintro e w2 ⟨rfl, hb2⟩
  have B2 := hide ((unhide B1).trans (hb2.mono (unhide B1).size))
  clear hb2 H2 p4 k1
  go_wp2_with fail
  go_ret
  exact ⟨rfl, unhide B2⟩
end Go.Proofs.Ytkggpapmhopaeaa
