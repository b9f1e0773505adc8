/-
  The walk of the law of VersionsOK.
-/
import Derived.Test.YtdnneomdokcpeaaVoC
import Derived.Test.YtdnneomdokcpeaaVvB
import Derived.Deep.RegionHeld3
namespace Go.Proofs.Ytdnneomdokcpeaa
open Go.RowKit

theorem VsOwn.few {w w' : World} {B g1 g2 g3 : Nat} {l f s : Sl} {rs rs' : List SesR} {d : VsD} (h : VsOwn w' B g1 g2 g3 l.n f.n s.n rs' d) (h0 : VsAt w l f s rs d) (hf : VsFew l f s rs) : VsFew ⟨some ⟨g1, 0, none⟩, l.n, l.n⟩ ⟨some ⟨g2, 0, none⟩, f.n, f.n⟩ ⟨some ⟨g3, 0, none⟩, s.n, s.n⟩ rs' := by
  refine ⟨hf.l, hf.f, hf.s, fun i hi => ?_⟩
  have h1 : i < d.ses.length := by rw [← h.len]; exact hi
  have h2 : i < rs.length := by rw [h0.ss.1]; exact h1
  have e1 := (vrow_of_owns (h.ss i hi h1).2.2).1
  have e2 := (h0.ss.2 i h2 h1).2.2.1
  have := hf.w i h2
  omega
theorem vs_cells {w : World} {b : Nat} {v0 v1 v2 v3 : Value} {t : TypeId} (h : w.heap[b]? = some (.cells #[v0, v1, v2, v3] t (0, 0))) : w.cell? ⟨b, 0, none⟩ = some v0 ∧ w.cell? ⟨b, 1, none⟩ = some v1 ∧ w.cell? ⟨b, 2, none⟩ = some v2 ∧ w.cell? ⟨b, 3, none⟩ = some v3 :=
  ⟨(heap_at h 0).1, (heap_at h 1).1, (heap_at h 2).1, (heap_at h 3).1⟩
theorem vs_lt {w : World} {b : Nat} {o : Obj} (h : w.heap[b]? = some o) : b < w.heap.size := (Array.getElem?_eq_some_iff.1 h).1
set_option maxRecDepth 100000 in
set_option maxHeartbeats 8000000 in
theorem lawVersionsOK_any (l f s : Sl) (rs : List SesR) (d : VsD) (w : World) (h : VsAt w l f s rs d) (hi : VsIn l f s rs d) :
    Calls Try.prog 5 #[vsv d.next l f s] w fun e w' => e = .returned (.bool true) ∧ Below w.heap.size w w' := by
  have B : Below w.heap.size w (w.alloc (.cells #[.int .i64 d.next, .slice l.a l.n l.c, .slice f.a f.n f.c, .slice s.a s.n s.c] 41)) := (Below.refl _ _).alloc (Nat.le_refl _) _
  have P := hide h
  have K := hide (heap_alloc_new w (.cells #[.int .i64 d.next, .slice l.a l.n l.c, .slice f.a f.n f.c, .slice s.a s.n s.c] 41))
  have C0 := hide (show ∀ u, Below w.heap.size w u → Calls Try.prog 20 #[vsv d.next l f s, .int .i64 1048576] u fun e w' => ∃ q : Int, e = .returned (.int .i64 q) ∧ (q = -1 ∨ (0 ≤ q ∧ VsFew l f s rs)) ∧ Below u.heap.size u w' from fun u hu => szVersions_any d.next l f s rs d u (h.below hu) hi)
  clear h hi
  unfold vsv at C0 ⊢
  obtain ⟨nx, hnx⟩ : ∃ nx, nx = d.next := ⟨_, rfl⟩
  have HN := hide hnx
  rw [← hnx] at B K C0 ⊢
  clear hnx
  go_enter Try.func5, Try.ntmps5
  go_wp2_with fail
  generalize w.alloc (.cells #[.int .i64 nx, .slice l.a l.n l.c, .slice f.a f.n f.c, .slice s.a s.n s.c] 41) = W0 at *
  refine (unhide C0 W0 B).mono ?_
  rintro e w1 ⟨q, rfl, hq, hb⟩
  replace K := hide ((hb.block w.heap.size (vs_lt (unhide K))).trans (unhide K))
  replace B := B.trans (hb.mono B.size)
  clear hb C0
  rcases hq with rfl | ⟨q0, hfew⟩
  · go_wp2_with fail
    go_ret
    exact ⟨rfl, B⟩
  have FEW := hide hfew
  clear hfew
  have CT := hide (show ∀ u, Below w.heap.size w u → Calls Try.prog 22 #[vsv nx l f s] u fun e w' => ∃ g1 g2 g3 rs', e = .returned (vsv nx ⟨some ⟨g1, 0, none⟩, l.n, l.n⟩ ⟨some ⟨g2, 0, none⟩, f.n, f.n⟩ ⟨some ⟨g3, 0, none⟩, s.n, s.n⟩) ∧ VsOwn w' u.heap.size g1 g2 g3 l.n f.n s.n rs' d ∧ Below u.heap.size u w' from fun u hu => toVersions_any nx l f s rs d u ((unhide P).below hu) (unhide FEW))
  have CF := hide (fun (w' : World) (B g1 g2 g3 : Nat) (rs' : List SesR) (ho : VsOwn w' B g1 g2 g3 l.n f.n s.n rs' d) => ho.few (unhide P) (unhide FEW))
  obtain ⟨R, hR⟩ : ∃ R, R = okVsD d := ⟨_, rfl⟩
  have CS := hide (show ∀ (u : World) (B g1 g2 g3 : Nat) (rs' : List SesR), VsOwn u B g1 g2 g3 l.n f.n s.n rs' d → Calls Try.prog 21 #[vsv nx ⟨some ⟨g1, 0, none⟩, l.n, l.n⟩ ⟨some ⟨g2, 0, none⟩, f.n, f.n⟩ ⟨some ⟨g3, 0, none⟩, s.n, s.n⟩] u fun e w' => e = .returned (.bool R) ∧ Below u.heap.size u w' from fun u B g1 g2 g3 rs' ho => by
    rw [hR, unhide HN]; exact specVersionsOK_any _ _ _ rs' d u ho.at (unhide CF _ _ _ _ _ _ ho))
  have CI := hide (show ∀ (u : World) (B g1 g2 g3 : Nat) (rs' : List SesR), VsOwn u B g1 g2 g3 l.n f.n s.n rs' d → Calls Try.prog 23 #[vsv nx ⟨some ⟨g1, 0, none⟩, l.n, l.n⟩ ⟨some ⟨g2, 0, none⟩, f.n, f.n⟩ ⟨some ⟨g3, 0, none⟩, s.n, s.n⟩] u fun e w' => e = .returned (.bool R) ∧ Below u.heap.size u w' from fun u B g1 g2 g3 rs' ho => by
    rw [hR, unhide HN]; exact implVersionsOK_any _ _ _ rs' d u ho.at (unhide CF _ _ _ _ _ _ ho))
  have CQ := hide (show ∀ (u : World) (B g1 g2 g3 B' h1 h2 h3 : Nat) (rs1 rs2 : List SesR), VsOwn u B g1 g2 g3 l.n f.n s.n rs1 d → VsOwn u B' h1 h2 h3 l.n f.n s.n rs2 d → Calls Try.prog 24 #[vsv nx ⟨some ⟨g1, 0, none⟩, l.n, l.n⟩ ⟨some ⟨g2, 0, none⟩, f.n, f.n⟩ ⟨some ⟨g3, 0, none⟩, s.n, s.n⟩, vsv nx ⟨some ⟨h1, 0, none⟩, l.n, l.n⟩ ⟨some ⟨h2, 0, none⟩, f.n, f.n⟩ ⟨some ⟨h3, 0, none⟩, s.n, s.n⟩] u fun e w' => e = .returned (.bool true) ∧ Below u.heap.size u w' from fun u B g1 g2 g3 B' h1 h2 h3 rs1 rs2 o1 o2 =>
    eqVersions_any nx _ _ _ _ _ _ rs1 rs2 d u o1.at o2.at (unhide CF _ _ _ _ _ _ o1))
  unfold vsv at CT CS CI CQ
  simp only at CT CS CI CQ
  have hRR : (R != R) = false := by cases R <;> rfl
  clear hR CF P FEW
  obtain ⟨p0, p1, p2, p3⟩ := vs_cells (unhide K)
  go_wp2_with fail
  refine (unhide CT w1 B).mono ?_
  rintro e w2 ⟨g1, g2, g3, rs2, rfl, ho, hb⟩
  replace K := hide ((hb.block w.heap.size (vs_lt (unhide K))).trans (unhide K))
  replace B := B.trans (hb.mono B.size)
  have O2 := hide ho
  clear hb ho p0 p1 p2 p3
  go_wp2_with fail
  refine (unhide CS w2 _ _ _ _ _ (unhide O2)).mono ?_
  rintro e w3 ⟨rfl, hb⟩
  replace K := hide ((hb.block w.heap.size (vs_lt (unhide K))).trans (unhide K))
  replace B := B.trans (hb.mono B.size)
  clear hb O2 CS
  obtain ⟨p0, p1, p2, p3⟩ := vs_cells (unhide K)
  go_wp2_with fail
  refine (unhide CT w3 B).mono ?_
  rintro e w4 ⟨x1, x2, x3, rs4, rfl, ho, hb⟩
  replace K := hide ((hb.block w.heap.size (vs_lt (unhide K))).trans (unhide K))
  replace B := B.trans (hb.mono B.size)
  clear hb p0 p1 p2 p3
  have hb : Below w4.heap.size w4 (w4.alloc (.cells #[.int .i64 nx, .slice (some ⟨x1, 0, none⟩) l.n l.n, .slice (some ⟨x2, 0, none⟩) f.n f.n, .slice (some ⟨x3, 0, none⟩) s.n s.n] 47)) := (Below.refl _ _).alloc (Nat.le_refl _) _
  have X := hide (heap_alloc_new w4 (.cells #[.int .i64 nx, .slice (some ⟨x1, 0, none⟩) l.n l.n, .slice (some ⟨x2, 0, none⟩) f.n f.n, .slice (some ⟨x3, 0, none⟩) s.n s.n] 47))
  replace K := hide ((hb.block w.heap.size (vs_lt (unhide K))).trans (unhide K))
  replace B := B.trans (hb.mono B.size)
  have OX := hide (ho.below hb)
  clear hb ho
  go_wp2_with fail
  generalize w4.alloc (.cells #[.int .i64 nx, .slice (some ⟨x1, 0, none⟩) l.n l.n, .slice (some ⟨x2, 0, none⟩) f.n f.n, .slice (some ⟨x3, 0, none⟩) s.n s.n] 47) = w5 at *
  have hXK : w.heap.size ≠ w4.heap.size ∨ True := .inr trivial
  clear hXK
  generalize hxb : w4.heap.size = xb at *
  refine (unhide CI w5 _ _ _ _ _ (unhide OX)).mono ?_
  rintro e w6 ⟨rfl, hb⟩
  replace K := hide ((hb.block w.heap.size (vs_lt (unhide K))).trans (unhide K))
  replace X := hide ((hb.block xb (vs_lt (unhide X))).trans (unhide X))
  replace OX := hide ((unhide OX).below hb)
  replace B := B.trans (hb.mono B.size)
  clear hb CI hxb
  have SK := hide (show ∀ u, Below w6.heap.size w6 u → (fun u => Below w6.heap.size w6 u ∧ u.cell? ⟨w.heap.size, 0, none⟩ = some (.int .i64 nx) ∧ u.cell? ⟨w.heap.size, 1, none⟩ = some (.slice l.a l.n l.c) ∧ u.cell? ⟨w.heap.size, 2, none⟩ = some (.slice f.a f.n f.c) ∧ u.cell? ⟨w.heap.size, 3, none⟩ = some (.slice s.a s.n s.c) ∧ u.cell? ⟨xb, 0, none⟩ = some (.int .i64 nx) ∧ u.cell? ⟨xb, 1, none⟩ = some (.slice (some ⟨x1, 0, none⟩) l.n l.n) ∧ u.cell? ⟨xb, 2, none⟩ = some (.slice (some ⟨x2, 0, none⟩) f.n f.n) ∧ u.cell? ⟨xb, 3, none⟩ = some (.slice (some ⟨x3, 0, none⟩) s.n s.n)) u from fun u hb => by
    obtain ⟨m0, m1, m2, m3⟩ := vs_cells ((hb.block w.heap.size (vs_lt (unhide K))).trans (unhide K))
    obtain ⟨i0, i1, i2, i3⟩ := vs_cells ((hb.block xb (vs_lt (unhide X))).trans (unhide X))
    exact ⟨hb, m0, m1, m2, m3, i0, i1, i2, i3⟩)
  have DT := hide (fun (u : World) (hb : Below w6.heap.size w6 u) => (unhide CT u (B.trans (hb.mono B.size))).mono fun e u' h => show ∃ g1 g2 g3 rs', e = .returned (.agg #[.int .i64 nx, .slice (some ⟨g1, 0, none⟩) l.n l.n, .slice (some ⟨g2, 0, none⟩) f.n f.n, .slice (some ⟨g3, 0, none⟩) s.n s.n]) ∧ VsOwn u' u.heap.size g1 g2 g3 l.n f.n s.n rs' d ∧ Below w6.heap.size w6 u' by
    obtain ⟨g1, g2, g3, rs', e, o, b⟩ := h
    exact ⟨g1, g2, g3, rs', e, o, hb.trans (b.mono hb.size)⟩)
  have DQ := hide (fun (u : World) (hb : Below w6.heap.size w6 u) (B' h1 h2 h3 : Nat) (rs2 : List SesR) (o2 : VsOwn u B' h1 h2 h3 l.n f.n s.n rs2 d) => (unhide CQ u _ _ _ _ _ _ _ _ _ _ ((unhide OX).below hb) o2).mono fun e u' h => show e = .returned (.bool true) ∧ Below w6.heap.size w6 u' from ⟨h.1, hb.trans (h.2.mono hb.size)⟩)
  have G0 : Below w6.heap.size w6 w6.drew := (Below.refl _ _).drew
  clear CT CQ
  go_wp2_with fail
  go_region_held3 (fun u => Below w6.heap.size w6 u ∧ u.cell? ⟨w.heap.size, 0, none⟩ = some (.int .i64 nx) ∧ u.cell? ⟨w.heap.size, 1, none⟩ = some (.slice l.a l.n l.c) ∧ u.cell? ⟨w.heap.size, 2, none⟩ = some (.slice f.a f.n f.c) ∧ u.cell? ⟨w.heap.size, 3, none⟩ = some (.slice s.a s.n s.c) ∧ u.cell? ⟨xb, 0, none⟩ = some (.int .i64 nx) ∧ u.cell? ⟨xb, 1, none⟩ = some (.slice (some ⟨x1, 0, none⟩) l.n l.n) ∧ u.cell? ⟨xb, 2, none⟩ = some (.slice (some ⟨x2, 0, none⟩) f.n f.n) ∧ u.cell? ⟨xb, 3, none⟩ = some (.slice (some ⟨x3, 0, none⟩) s.n s.n)) (exact unhide SK _ (by assumption)) (first
    | (go_at_call 22; refine (unhide DT _ (by assumption)).mono ?_; rintro e w7 ⟨h1, h2, h3, rs7, rfl, o7, b7⟩; have H7 := hide o7; clear o7)
    | (go_at_call 24; refine (unhide DQ _ (by assumption) _ _ _ _ _ (unhide H7)).mono ?_; rintro e w8 ⟨rfl, b8⟩))
  clear b7 H7 G0 DT DQ SK
  have BF := B.trans (b8.mono B.size)
  clear b8
  go_wp2_with fail
  go_ret
  exact ⟨rfl, BF⟩
end Go.Proofs.Ytdnneomdokcpeaa
