/-
  Sessions: the walks of toSessionS, eqSession, eqSessionS.
-/
import Derived.Test.YtfajenejngddeaaGreatSsA
namespace Go.Proofs.YtfajenejngddeaaGreat
open Go.RowKit

/-- Sessions whose writes the call owns, behind block G. -/
def SesOwn (w : World) (G : Nat) (rs : List SesR) (ss : List SesD) : Prop := ∀ i (h : i < rs.length) (h' : i < ss.length), rs[i].o = ss[i].o ∧ rs[i].t = ss[i].t ∧ VOwns w (G + 1) (.slice rs[i].ws.a rs[i].ws.n rs[i].ws.c) ss[i].ws
theorem SesOwn.below {w w' : World} {G : Nat} {rs : List SesR} {ss : List SesD} (h : SesOwn w G rs ss) (hb : Below w.heap.size w w') : SesOwn w' G rs ss :=
  fun i h1 h2 => ⟨(h i h1 h2).1, (h i h1 h2).2.1, vowns_below (h i h1 h2).2.2 hb⟩
theorem SesOwn.set {w : World} {G : Nat} {rs : List SesR} {ss : List SesD} (h : SesOwn w G rs ss) (j : Nat) (u : Value) : SesOwn (w.setCell ⟨G, j, none⟩ u) G rs ss :=
  fun i h1 h2 => ⟨(h i h1 h2).1, (h i h1 h2).2.1, rs_set (h i h1 h2).2.2 (by omega) j u⟩
theorem SesOwn.at {w : World} {G : Nat} {rs : List SesR} {ss : List SesD} (h : SesOwn w G rs ss) (hl : rs.length = ss.length) : SsAt w rs ss :=
  ⟨hl, fun i h1 h2 => ⟨(h i h1 h2).1, (h i h1 h2).2.1, vrow_of_owns (h i h1 h2).2.2⟩⟩
theorem Tryz.infoSession : (Tryz.prog.info? 93).map (fun i => (i.zero, i.size, i.bytes)) = some (some (.agg #[.bool false, .int .i64 0, .slice none 0 0]), 3, 40) := by kernel_rfl
end Go.Proofs.YtfajenejngddeaaGreat
