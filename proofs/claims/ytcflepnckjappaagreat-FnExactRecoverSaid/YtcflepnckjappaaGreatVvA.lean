/-
  Versions: plain data, and the walks of szVersions, toVersions, eqVersions.
-/
import Derived.Test.YtcflepnckjappaaGreatSsB
import Derived.Test.YtcflepnckjappaaGreatFnT
import Derived.Test.YtcflepnckjappaaGreatFnE
namespace Go.Proofs.YtcflepnckjappaaGreat
open Go.RowKit

structure VsD where
  next : Int
  list : List VerD
  fen : List FenD
  ses : List SesD
/-- Versions as they lie in memory. -/
abbrev vsv (next : Int) (l f s : Sl) : Value := .agg #[.int .i64 next, .slice l.a l.n l.c, .slice f.a f.n f.c, .slice s.a s.n s.c]
/-- Versions that are read of memory. -/
structure VsAt (w : World) (l f s : Sl) (rs : List SesR) (d : VsD) : Prop where
  v : VRow w l.a l.n d.list
  f : FRow w f.a f.n d.fen
  s : SRow w s.a s.n rs
  ss : SsAt w rs d.ses
theorem VsAt.below {w w' : World} {l f s : Sl} {rs : List SesR} {d : VsD} (h : VsAt w l f s rs d) (hb : Below w.heap.size w w') : VsAt w' l f s rs d := ⟨h.v.below hb, h.f.below hb, h.s.below hb, h.ss.below hb⟩
/-- They are not too many. -/
structure VsFew (l f s : Sl) (rs : List SesR) : Prop where
  l : l.n ≤ 1048576
  f : f.n ≤ 1048576
  s : s.n ≤ 1048576
  w : ∀ i (h : i < rs.length), rs[i].ws.n ≤ 1048576
/-- Versions whose lists the call owns. -/
structure VsOwn (w : World) (B g1 g2 g3 ln fn sn : Nat) (rs : List SesR) (d : VsD) : Prop where
  v : VOwns w B (.slice (some ⟨g1, 0, none⟩) ln ln) d.list
  f : FOwns w B (.slice (some ⟨g2, 0, none⟩) fn fn) d.fen
  s : SOwns w B (.slice (some ⟨g3, 0, none⟩) sn sn) rs
  ss : SesOwn w g3 rs d.ses
  len : rs.length = d.ses.length
  ord : g1 < g2 ∧ g2 < g3
theorem VsOwn.below {w w' : World} {B g1 g2 g3 ln fn sn : Nat} {rs : List SesR} {d : VsD} (h : VsOwn w B g1 g2 g3 ln fn sn rs d) (hb : Below w.heap.size w w') : VsOwn w' B g1 g2 g3 ln fn sn rs d :=
  ⟨vowns_below h.v hb, fowns_below h.f hb, sowns_below h.s hb, h.ss.below hb, h.len, h.ord⟩
theorem VsOwn.at {w : World} {B g1 g2 g3 ln fn sn : Nat} {rs : List SesR} {d : VsD} (h : VsOwn w B g1 g2 g3 ln fn sn rs d) : VsAt w ⟨some ⟨g1, 0, none⟩, ln, ln⟩ ⟨some ⟨g2, 0, none⟩, fn, fn⟩ ⟨some ⟨g3, 0, none⟩, sn, sn⟩ rs d :=
  ⟨vrow_of_owns h.v, frow_of_owns h.f, srow_of_owns h.s, h.ss.at h.len⟩
theorem VsOwn.set {w : World} {B g1 g2 g3 ln fn sn q : Nat} {rs : List SesR} {d : VsD} (h : VsOwn w B g1 g2 g3 ln fn sn rs d) (hq : q < B) (j : Nat) (u : Value) : VsOwn (w.setCell ⟨q, j, none⟩ u) B g1 g2 g3 ln fn sn rs d :=
  have h3 := (h.s.lt g3 rfl).1
  ⟨rs_set h.v hq j u, rs_set h.f hq j u, rs_set h.s hq j u, fun i h1 h2 => ⟨(h.ss i h1 h2).1, (h.ss i h1 h2).2.1, rs_set (h.ss i h1 h2).2.2 (by omega) j u⟩, h.len, h.ord⟩
theorem VsOwn.dn {w : World} {B C g1 g2 g3 ln fn sn : Nat} {rs : List SesR} {d : VsD} (h : VsOwn w B g1 g2 g3 ln fn sn rs d) (hc : C ≤ B) : VsOwn w C g1 g2 g3 ln fn sn rs d :=
  ⟨rs_base h.v hc, rs_base h.f hc, rs_base h.s hc, h.ss, h.len, h.ord⟩
end Go.Proofs.YtcflepnckjappaaGreat
