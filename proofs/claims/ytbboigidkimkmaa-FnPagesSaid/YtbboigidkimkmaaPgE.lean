/-
  The walks of eqEntry, eqEntryS, eqDelta, eqDeltaS, eqPage where both sides hold the same; of szPage and toPage.
-/
import Derived.Test.YtbboigidkimkmaaPgT
import Derived.Test.YtbboigidkimkmaaPageJ
import Derived.Deep.RegionWith
namespace Go.Proofs.Ytbboigidkimkmaa
open Go.RowKit

/-- A page that came in. -/
def IsPage (w : World) (lo hi : ByteArray) (ab : Option Addr) (nb : Nat) (es : List EntD) (ac : Option Addr) (nc : Nat) (ds : List DelD) : Prop :=
  ERow w ab nb es ∧ DRow w ac nc ds ∧ lo.size ≤ maxLen ∧ hi.size ≤ maxLen ∧ nb ≤ maxLen ∧ nc ≤ maxLen ∧ (∀ i (hi : i < es.length), es[i].k.size ≤ maxLen ∧ es[i].v.size ≤ maxLen) ∧ (∀ i (hi : i < ds.length), ds[i].k.size ≤ maxLen ∧ ds[i].v.size ≤ maxLen)
theorem IsPage.below {w w' : World} {lo hi : ByteArray} {ab : Option Addr} {nb : Nat} {es : List EntD} {ac : Option Addr} {nc : Nat} {ds : List DelD} (h : IsPage w lo hi ab nb es ac nc ds) (hb : Below w.heap.size w w') : IsPage w' lo hi ab nb es ac nc ds :=
  ⟨h.1.below hb, h.2.1.below hb, h.2.2⟩
/-- A page of the call's own: both lists are its own, and they are two. -/
def OwnPage (w : World) (B g h nb nc : Nat) (es : List EntD) (ds : List DelD) : Prop :=
  EOwns w B (.slice (some ⟨g, 0, none⟩) nb nb) es ∧ DOwns w B (.slice (some ⟨h, 0, none⟩) nc nc) ds ∧ g ≠ h
theorem OwnPage.below {w w' : World} {B g h nb nc : Nat} {es : List EntD} {ds : List DelD} (x : OwnPage w B g h nb nc es ds) (hb : Below w.heap.size w w') : OwnPage w' B g h nb nc es ds :=
  ⟨eowns_below x.1 hb, downs_below x.2.1 hb, x.2.2⟩
theorem ownsRow_base {w : World} {B C e s n : Nat} {v : Value} {vs : List Value} (h : w.ownsRow B e s v n vs) (hC : C ≤ B) : w.ownsRow C e s v n vs := by
  obtain ⟨hl, h⟩ := h
  refine ⟨hl, ?_⟩
  rcases h with h | ⟨g, cap, cur, e, hb, r⟩
  · exact .inl h
  · exact .inr ⟨g, cap, cur, e, Nat.le_trans hC hb, r⟩
end Go.Proofs.Ytbboigidkimkmaa
