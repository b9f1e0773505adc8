/-
  Sessions: plain data, and the walks of szSession, szSessionS, toSession, toSessionS, eqSession, eqSessionS.
-/
import Derived.Test.YtcflepnckjappaaGreatSnC
import Derived.Test.YtcflepnckjappaaGreatVrT
import Derived.Test.YtcflepnckjappaaGreatVrE
import Derived.Test.YtcflepnckjappaaGreatWrT
import Derived.Deep.Cut
namespace Go.Proofs.YtcflepnckjappaaGreat
open Go.RowKit

structure SesD where
  o : Bool
  t : Int
  ws : List VerD
/-- What stands in the cells of sessions are these. -/
def SsAt (w : World) (rs : List SesR) (ss : List SesD) : Prop := rs.length = ss.length ∧ ∀ i (h : i < rs.length) (h' : i < ss.length), rs[i].o = ss[i].o ∧ rs[i].t = ss[i].t ∧ VRow w rs[i].ws.a rs[i].ws.n ss[i].ws
theorem SsAt.below {w w' : World} {rs : List SesR} {ss : List SesD} (h : SsAt w rs ss) (hb : Below w.heap.size w w') : SsAt w' rs ss :=
  ⟨h.1, fun i h1 h2 => ⟨(h.2 i h1 h2).1, (h.2 i h1 h2).2.1, (h.2 i h1 h2).2.2.below hb⟩⟩
theorem rs_base {w : World} {B C e s n : Nat} {v : Value} {vs : List Value} (h : w.ownsRow B e s v n vs) (hc : C ≤ B) : w.ownsRow C e s v n vs := by
  obtain ⟨h1, h2⟩ := h
  refine ⟨h1, ?_⟩
  rcases h2 with h2 | ⟨g, cap, cur, e, hb, r⟩
  · exact .inl h2
  · exact .inr ⟨g, cap, cur, e, Nat.le_trans hc hb, r⟩
theorem rs_set {w : World} {B e s n : Nat} {v : Value} {vs : List Value} {q : Nat} (h : w.ownsRow B e s v n vs) (hq : q < B) (j : Nat) (u : Value) : (w.setCell ⟨q, j, none⟩ u).ownsRow B e s v n vs :=
  ownsRow_heap h (fun g hg => Below.heap_setCell _ _ _ _ (by have := (h.lt g hg).1; show g ≠ q; omega))
end Go.Proofs.YtcflepnckjappaaGreat
