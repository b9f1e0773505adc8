/-
  Versions: plain data, and the walks of szVersions, toVersions, eqVersions.
-/
import Derived.Test.YtdnneomdokcpeaaSsB
import Derived.Test.YtdnneomdokcpeaaFnT
import Derived.Test.YtdnneomdokcpeaaFnE
namespace Go.Proofs.Ytdnneomdokcpeaa
open Go.RowKit

structure VsD where
  next : Int
  list : List VerD
  fen : List FenD
  ses : List SesD
def LimF (ds : List FenD) : Prop := ∀ i (hi : i < ds.length), ds[i].f.size ≤ maxLen ∧ ds[i].u.size ≤ maxLen
/-- Versions as they lie in memory. -/
abbrev vsv (next : Int) (l f s : Sl) : Value := .agg #[.int .i64 next, .slice l.a l.n l.c, .slice f.a f.n f.c, .slice s.a s.n s.c]
/-- Versions that are read of memory. -/
structure VsAt (w : World) (l f s : Sl) (rs : List SesR) (d : VsD) : Prop where
  v : VRow w l.a l.n d.list
  f : FRow w f.a f.n d.fen
  s : SRow w s.a s.n rs
  ss : SsAt w rs d.ses
theorem VsAt.below {w w' : World} {l f s : Sl} {rs : List SesR} {d : VsD} (h : VsAt w l f s rs d) (hb : Below w.heap.size w w') : VsAt w' l f s rs d := ⟨h.v.below hb, h.f.below hb, h.s.below hb, h.ss.below hb⟩
/-- Versions that came in. -/
structure VsIn (l f s : Sl) (rs : List SesR) (d : VsD) : Prop where
  ln : l.n ≤ maxLen
  fn : f.n ≤ maxLen
  sn : s.n ≤ maxLen
  lv : LimV d.list
  lf : LimF d.fen
  ls : LimS rs d.ses
/-- They are not too many. -/
structure VsFew (l f s : Sl) (rs : List SesR) : Prop where
  l : l.n ≤ 1048576
  f : f.n ≤ 1048576
  s : s.n ≤ 1048576
  w : ∀ i (h : i < rs.length), rs[i].ws.n ≤ 1048576
set_option maxRecDepth 100000 in
set_option maxHeartbeats 1000000 in
theorem szVersions_any (next : Int) (l f s : Sl) (rs : List SesR) (d : VsD) (w : World) (h : VsAt w l f s rs d) (hi : VsIn l f s rs d) :
    Calls Try.prog 20 #[vsv next l f s, .int .i64 1048576] w fun e w' => ∃ q : Int, e = .returned (.int .i64 q) ∧ (q = -1 ∨ (0 ≤ q ∧ VsFew l f s rs)) ∧ Below w.heap.size w w' := by
  obtain ⟨la, ln, lc⟩ := l
  obtain ⟨fa, fn, fc⟩ := f
  obtain ⟨sa, sn, sc⟩ := s
  have H := hide h
  have HI := hide hi
  have b0 : Below w.heap.size w (w.alloc (.cells #[.int .i64 next, .slice la ln lc, .slice fa fn fc, .slice sa sn sc] 41)) := (Below.refl _ _).alloc (Nat.le_refl _) _
  have k0 := heap_alloc_new w (.cells #[.int .i64 next, .slice la ln lc, .slice fa fn fc, .slice sa sn sc] 41)
  have K := hide k0
  clear h hi k0
  unfold vsv
  simp only
  go_enter Try.func20, Try.ntmps20
  go_wp2_with fail
  generalize w.alloc (.cells #[.int .i64 next, .slice la ln lc, .slice fa fn fc, .slice sa sn sc] 41) = W at *
  refine (szVersionS_any la ln lc d.list 1048576 W (by omega) (by omega) ((unhide H).below b0).v (unhide HI).ln (unhide HI).lv).mono ?_
  rintro e w1 ⟨q, rfl, hq, hb⟩
  have K1 := hide ((hb.block w.heap.size (Array.getElem?_eq_some_iff.1 (unhide K)).1).trans (unhide K))
  replace b0 := b0.trans (hb.mono b0.size)
  clear hb K
  rcases hq with rfl | ⟨q0, q1, q2⟩
  · go_wp2_with fail
    go_ret
    exact ⟨-1, rfl, .inl rfl, b0⟩
  have c2 : w1.cell? ⟨w.heap.size, 2, none⟩ = some (.slice fa fn fc) := (heap_at (unhide K1) 2).1
  go_wp2_with fail
  refine (szFenceS_any fa fn fc d.fen q w1 q0 (by omega) ((unhide H).below b0).f (unhide HI).fn (unhide HI).lf).mono ?_
  rintro e w2 ⟨r, rfl, hr, hb⟩
  have K2 := hide ((hb.block w.heap.size (Array.getElem?_eq_some_iff.1 (unhide K1)).1).trans (unhide K1))
  replace b0 := b0.trans (hb.mono b0.size)
  clear hb K1 c2
  rcases hr with rfl | ⟨r0, r1, r2⟩
  · go_wp2_with fail
    go_ret
    exact ⟨-1, rfl, .inl rfl, b0⟩
  have c3 : w2.cell? ⟨w.heap.size, 3, none⟩ = some (.slice sa sn sc) := (heap_at (unhide K2) 3).1
  go_wp2_with fail
  refine (szSessionS_any sa sn sc rs d.ses r w2 r0 (by omega) ((unhide H).below b0).s ((unhide H).below b0).ss (unhide HI).sn (unhide HI).ls).mono ?_
  rintro e w3 ⟨u, rfl, hu, hb⟩
  replace b0 := b0.trans (hb.mono b0.size)
  clear hb K2 c3
  rcases hu with rfl | ⟨u0, u1, u2, u3⟩
  · go_wp2_with fail
    go_ret
    exact ⟨-1, rfl, .inl rfl, b0⟩
  have FEW := hide (show VsFew ⟨la, ln, lc⟩ ⟨fa, fn, fc⟩ ⟨sa, sn, sc⟩ rs from ⟨by show ln ≤ 1048576; omega, by show fn ≤ 1048576; omega, by show sn ≤ 1048576; omega, u3⟩)
  clear u3
  go_wp2_with fail
  go_ret
  exact ⟨u, rfl, .inr ⟨u0, unhide FEW⟩, b0⟩
/-- Versions whose lists the call owns. -/
structure VsOwn (w : World) (B g1 g2 g3 ln fn sn : Nat) (rs : List SesR) (d : VsD) : Prop where
  v : VOwns w B (.slice (some ⟨g1, 0, none⟩) ln ln) d.list
  f : FOwns w B (.slice (some ⟨g2, 0, none⟩) fn fn) d.fen
  s : SOwns w B (.slice (some ⟨g3, 0, none⟩) sn sn) rs
  ss : SesOwn w g3 rs d.ses
  len : rs.length = d.ses.length
  ord : g1 < g2 ∧ g2 < g3
theorem VsOwn.below {w w' : World} {B g1 g2 g3 ln fn sn : Nat} {rs : List SesR} {d : VsD} (h : VsOwn w B g1 g2 g3 ln fn sn rs d) (hb : Below w.heap.size w w') : VsOwn w' B g1 g2 g3 ln fn sn rs d :=
  ⟨vowns_below h.v hb, fowns_below h.f hb, sowns_below h.s hb, h.ss.below hb, h.len, h.ord⟩
theorem VsOwn.at {w : World} {B g1 g2 g3 ln fn sn : Nat} {rs : List SesR} {d : VsD} (h : VsOwn w B g1 g2 g3 ln fn sn rs d) : VsAt w ⟨some ⟨g1, 0, none⟩, ln, ln⟩ ⟨some ⟨g2, 0, none⟩, fn, fn⟩ ⟨some ⟨g3, 0, none⟩, sn, sn⟩ rs d :=
  ⟨vrow_of_owns h.v, frow_of_owns h.f, srow_of_owns h.s, h.ss.at h.len⟩
theorem VsOwn.set {w : World} {B g1 g2 g3 ln fn sn q : Nat} {rs : List SesR} {d : VsD} (h : VsOwn w B g1 g2 g3 ln fn sn rs d) (hq : q < B) (j : Nat) (u : Value) : VsOwn (w.setCell ⟨q, j, none⟩ u) B g1 g2 g3 ln fn sn rs d :=
  have h3 := (h.s.lt g3 rfl).1
  ⟨rs_set h.v hq j u, rs_set h.f hq j u, rs_set h.s hq j u, fun i h1 h2 => ⟨(h.ss i h1 h2).1, (h.ss i h1 h2).2.1, rs_set (h.ss i h1 h2).2.2 (by omega) j u⟩, h.len, h.ord⟩
theorem VsOwn.dn {w : World} {B C g1 g2 g3 ln fn sn : Nat} {rs : List SesR} {d : VsD} (h : VsOwn w B g1 g2 g3 ln fn sn rs d) (hc : C ≤ B) : VsOwn w C g1 g2 g3 ln fn sn rs d :=
  ⟨rs_base h.v hc, rs_base h.f hc, rs_base h.s hc, h.ss, h.len, h.ord⟩
theorem wr_cellV (w : World) (b o : Nat) (v : Value) (k : Nat) (hk : k ≠ b) : (w.setCell ⟨b, o, none⟩ v).heap[k]? = w.heap[k]? := Below.heap_setCell _ _ _ _ hk
end Go.Proofs.Ytdnneomdokcpeaa
