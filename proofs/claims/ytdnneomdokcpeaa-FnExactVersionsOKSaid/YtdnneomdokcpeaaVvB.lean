/-
  Versions: the walks of toVersions and eqVersions.
-/
import Derived.Test.YtdnneomdokcpeaaVvA
namespace Go.Proofs.Ytdnneomdokcpeaa
open Go.RowKit

set_option maxRecDepth 100000 in
set_option maxHeartbeats 4000000 in
theorem toVersions_any (next : Int) (l f s : Sl) (rs : List SesR) (d : VsD) (w : World) (h : VsAt w l f s rs d) (hf : VsFew l f s rs) :
    Calls Try.prog 22 #[vsv next l f s] w fun e w' => ∃ g1 g2 g3 rs', e = .returned (vsv next ⟨some ⟨g1, 0, none⟩, l.n, l.n⟩ ⟨some ⟨g2, 0, none⟩, f.n, f.n⟩ ⟨some ⟨g3, 0, none⟩, s.n, s.n⟩) ∧ VsOwn w' w.heap.size g1 g2 g3 l.n f.n s.n rs' d ∧ Below w.heap.size w w' := by
  obtain ⟨la, ln, lc⟩ := l
  obtain ⟨fa, fn, fc⟩ := f
  obtain ⟨sa, sn, sc⟩ := s
  have H := hide h
  have HF := hide hf
  clear h hf
  unfold vsv
  simp only
  have b1 : Below w.heap.size w (w.alloc (.cells #[.int .i64 next, .slice la ln lc, .slice fa fn fc, .slice sa sn sc] 41)) := (Below.refl _ _).alloc (Nat.le_refl _) _
  have h1 := heap_alloc_new w (.cells #[.int .i64 next, .slice la ln lc, .slice fa fn fc, .slice sa sn sc] 41)
  obtain ⟨W1, hW1⟩ : ∃ W1, W1 = w.alloc (.cells #[.int .i64 next, .slice la ln lc, .slice fa fn fc, .slice sa sn sc] 41) := ⟨_, rfl⟩
  have z1 : W1.heap.size = w.heap.size + 1 := by rw [hW1]; simp
  have b2 : Below (w.heap.size + 1) W1 (W1.alloc (.cells #[.int .i64 0, .slice none 0 0, .slice none 0 0, .slice none 0 0] 47)) := (Below.refl _ _).alloc (by omega) _
  have h2 : (W1.alloc (.cells #[.int .i64 0, .slice none 0 0, .slice none 0 0, .slice none 0 0] 47)).heap[w.heap.size + 1]? = some (.cells #[.int .i64 0, .slice none 0 0, .slice none 0 0, .slice none 0 0] 47 (0, 0)) := by rw [← z1]; exact heap_alloc_new _ _
  obtain ⟨W2, hW2⟩ : ∃ W2, W2 = W1.alloc (.cells #[.int .i64 0, .slice none 0 0, .slice none 0 0, .slice none 0 0] 47) := ⟨_, rfl⟩
  have z2 : W2.heap.size = w.heap.size + 1 + 1 := by rw [hW2]; simp [z1]
  have b3 : Below (w.heap.size + 1 + 1) W2 (W2.alloc (.cells #[.int .i64 next, .slice none 0 0, .slice none 0 0, .slice none 0 0] 47)) := (Below.refl _ _).alloc (by omega) _
  have h3 : (W2.alloc (.cells #[.int .i64 next, .slice none 0 0, .slice none 0 0, .slice none 0 0] 47)).heap[w.heap.size + 1 + 1]? = some (.cells #[.int .i64 next, .slice none 0 0, .slice none 0 0, .slice none 0 0] 47 (0, 0)) := by rw [← z2]; exact heap_alloc_new _ _
  rw [← hW1] at b1 h1
  rw [← hW2] at b2 h2
  have k1 := hide ((b3.block w.heap.size (by omega)).trans ((b2.block w.heap.size (by omega)).trans h1))
  have k2 := hide ((b3.block (w.heap.size + 1) (by omega)).trans h2)
  have k3 := hide h3
  have B := b1.trans ((b2.mono (by omega)).trans (b3.mono (by omega)))
  have z3 : (W2.alloc (.cells #[.int .i64 next, .slice none 0 0, .slice none 0 0, .slice none 0 0] 47)).heap.size = w.heap.size + 1 + 1 + 1 := by simp [z2]
  clear b1 b2 b3 h1 h2 h3 z1 z2
  subst hW2 hW1
  go_enter Try.func22, Try.ntmps22
  go_wp2_with fail
  generalize ((w.alloc (.cells #[.int .i64 next, .slice la ln lc, .slice fa fn fc, .slice sa sn sc] 41)).alloc (.cells #[.int .i64 0, .slice none 0 0, .slice none 0 0, .slice none 0 0] 47)).alloc (.cells #[.int .i64 next, .slice none 0 0, .slice none 0 0, .slice none 0 0] 47) = W3 at *
  refine (toVersionS_any la ln lc d.list W3 (unhide HF).l ((unhide H).below B).v).mono ?_
  rintro e w1 ⟨g1, rfl, hO, hb⟩
  have hg1 := hO.lt g1 rfl
  replace k1 := hide ((hb.block w.heap.size (by omega)).trans (unhide k1))
  replace k2 := hide ((hb.block (w.heap.size + 1) (by omega)).trans (unhide k2))
  replace k3 := hide ((hb.block (w.heap.size + 1 + 1) (by omega)).trans (unhide k3))
  replace B := B.trans (hb.mono B.size)
  have O1 := hide (rs_base hO (C := w.heap.size + 1 + 1 + 1) (by omega))
  have zz1 := hb.size
  clear hO hb
  have x1 : w1.cell? ⟨w.heap.size, 2, none⟩ = some (.slice fa fn fc) := (heap_at (unhide k1) 2).1
  have x2 : w1.cell? ⟨w.heap.size + 1 + 1, 1, none⟩ = some (.slice none 0 0) := (heap_at (unhide k3) 1).1
  have x3 := (heap_at (unhide k3) 1).2
  have hc1 := wr_cellV w1 (w.heap.size + 1 + 1) 1 (.slice (some ⟨g1, 0, none⟩) ln ln)
  have K1 := hide ((hc1 w.heap.size (by omega)).trans (unhide k1))
  have K2 := hide ((hc1 (w.heap.size + 1) (by omega)).trans (unhide k2))
  have K3 := hide (show (w1.setCell ⟨w.heap.size + 1 + 1, 1, none⟩ (.slice (some ⟨g1, 0, none⟩) ln ln)).heap[w.heap.size + 1 + 1]? = some (.cells #[.int .i64 next, .slice (some ⟨g1, 0, none⟩) ln ln, .slice none 0 0, .slice none 0 0] 47 (0, 0)) from heap_set (unhide k3) 1 (.slice (some ⟨g1, 0, none⟩) ln ln))
  replace O1 := hide (rs_set (unhide O1) (show w.heap.size + 1 + 1 < w.heap.size + 1 + 1 + 1 by omega) 1 (.slice (some ⟨g1, 0, none⟩) ln ln))
  replace B := B.setCell (p := ⟨w.heap.size + 1 + 1, 1, none⟩) (by show w.heap.size ≤ w.heap.size + 1 + 1; omega) (.slice (some ⟨g1, 0, none⟩) ln ln)
  have zs1 : (w1.setCell ⟨w.heap.size + 1 + 1, 1, none⟩ (.slice (some ⟨g1, 0, none⟩) ln ln)).heap.size = w1.heap.size := by simp [World.setCell]
  clear k1 k2 k3 hc1
  go_wp2_with fail
  generalize w1.setCell ⟨w.heap.size + 1 + 1, 1, none⟩ (.slice (some ⟨g1, 0, none⟩) ln ln) = w2 at *
  clear x1 x2 x3
  refine (toFenceS_any fa fn fc d.fen w2 (unhide HF).f ((unhide H).below B).f).mono ?_
  rintro e w3 ⟨g2, rfl, hO, hb⟩
  have hg2 := hO.lt g2 rfl
  replace K1 := hide ((hb.block w.heap.size (by omega)).trans (unhide K1))
  replace K2 := hide ((hb.block (w.heap.size + 1) (by omega)).trans (unhide K2))
  replace K3 := hide ((hb.block (w.heap.size + 1 + 1) (by omega)).trans (unhide K3))
  replace B := B.trans (hb.mono B.size)
  replace O1 := hide (rb_ownsRow_below (unhide O1) hb)
  have O2 := hide (rs_base hO (C := w.heap.size + 1 + 1 + 1) (by omega))
  have zz2 := hb.size
  clear hO hb
  have x1 : w3.cell? ⟨w.heap.size, 3, none⟩ = some (.slice sa sn sc) := (heap_at (unhide K1) 3).1
  have x2 : w3.cell? ⟨w.heap.size + 1 + 1, 2, none⟩ = some (.slice none 0 0) := (heap_at (unhide K3) 2).1
  have x3 := (heap_at (unhide K3) 2).2
  have hc1 := wr_cellV w3 (w.heap.size + 1 + 1) 2 (.slice (some ⟨g2, 0, none⟩) fn fn)
  have M2 := hide ((hc1 (w.heap.size + 1) (by omega)).trans (unhide K2))
  have M3 := hide (show (w3.setCell ⟨w.heap.size + 1 + 1, 2, none⟩ (.slice (some ⟨g2, 0, none⟩) fn fn)).heap[w.heap.size + 1 + 1]? = some (.cells #[.int .i64 next, .slice (some ⟨g1, 0, none⟩) ln ln, .slice (some ⟨g2, 0, none⟩) fn fn, .slice none 0 0] 47 (0, 0)) from heap_set (unhide K3) 2 (.slice (some ⟨g2, 0, none⟩) fn fn))
  replace O1 := hide (rs_set (unhide O1) (show w.heap.size + 1 + 1 < w.heap.size + 1 + 1 + 1 by omega) 2 (.slice (some ⟨g2, 0, none⟩) fn fn))
  replace O2 := hide (rs_set (unhide O2) (show w.heap.size + 1 + 1 < w.heap.size + 1 + 1 + 1 by omega) 2 (.slice (some ⟨g2, 0, none⟩) fn fn))
  replace B := B.setCell (p := ⟨w.heap.size + 1 + 1, 2, none⟩) (by show w.heap.size ≤ w.heap.size + 1 + 1; omega) (.slice (some ⟨g2, 0, none⟩) fn fn)
  have zs2 : (w3.setCell ⟨w.heap.size + 1 + 1, 2, none⟩ (.slice (some ⟨g2, 0, none⟩) fn fn)).heap.size = w3.heap.size := by simp [World.setCell]
  clear K1 K2 K3 hc1
  go_wp2_with fail
  generalize w3.setCell ⟨w.heap.size + 1 + 1, 2, none⟩ (.slice (some ⟨g2, 0, none⟩) fn fn) = w4 at *
  clear x1 x2 x3
  refine (toSessionS_any sa sn sc rs d.ses w4 (unhide HF).s ((unhide H).below B).s ((unhide H).below B).ss (unhide HF).w).mono ?_
  rintro e w5 ⟨rs', rfl, hO, hS, hlen, hb⟩
  have l2 := (hb.block (w.heap.size + 1) (by omega)).trans (unhide M2)
  have l3 := (hb.block (w.heap.size + 1 + 1) (by omega)).trans (unhide M3)
  have BB := hide (B.trans (hb.mono B.size))
  have OW := hide (show VsOwn w5 (w.heap.size + 1 + 1 + 1) g1 g2 w4.heap.size ln fn sn rs' d from
    ⟨rb_ownsRow_below (unhide O1) hb, rb_ownsRow_below (unhide O2) hb, rs_base hO (by omega), hS, hlen, ⟨by omega, by omega⟩⟩)
  clear hO hS hb B O1 O2 M2 M3
  generalize w4.heap.size = g3 at *
  have t0 : w5.cell? ⟨w.heap.size + 1 + 1, 0, none⟩ = some (.int .i64 next) := (heap_at l3 0).1
  have t1 : w5.cell? ⟨w.heap.size + 1 + 1, 1, none⟩ = some (.slice (some ⟨g1, 0, none⟩) ln ln) := (heap_at l3 1).1
  have t2 : w5.cell? ⟨w.heap.size + 1 + 1, 2, none⟩ = some (.slice (some ⟨g2, 0, none⟩) fn fn) := (heap_at l3 2).1
  have t3 : w5.cell? ⟨w.heap.size + 1 + 1, 3, none⟩ = some (.slice none 0 0) := (heap_at l3 3).1
  have tf := (heap_at l3 3).2
  have u0 : w5.cell? ⟨w.heap.size + 1, 0, none⟩ = some (.int .i64 0) := (heap_at l2 0).1
  have u1 : w5.cell? ⟨w.heap.size + 1, 1, none⟩ = some (.slice none 0 0) := (heap_at l2 1).1
  have u2 : w5.cell? ⟨w.heap.size + 1, 2, none⟩ = some (.slice none 0 0) := (heap_at l2 2).1
  have u3 : w5.cell? ⟨w.heap.size + 1, 3, none⟩ = some (.slice none 0 0) := (heap_at l2 3).1
  have v0 := (heap_at l2 0).2
  have v1 := (heap_at l2 1).2
  have v2 := (heap_at l2 2).2
  have v3 := (heap_at l2 3).2
  clear l2 l3 hg1 hg2 zz1 zz2 zs1 zs2 z3 HF H
  go_wp2_with fail
  have q1 : w.heap.size + 1 < w.heap.size + 1 + 1 + 1 := by omega
  have q2 : w.heap.size + 1 + 1 < w.heap.size + 1 + 1 + 1 := by omega
  have q3 : w.heap.size ≤ w.heap.size + 1 := by omega
  have q4 : w.heap.size ≤ w.heap.size + 1 + 1 := by omega
  refine bodyPost_ret (v := .agg #[.int .i64 next, .slice (some ⟨g1, 0, none⟩) ln ln, .slice (some ⟨g2, 0, none⟩) fn fn, .slice (some ⟨g3, 0, none⟩) sn sn]) (by simp [results, Try.results22, go_sem, *]) rfl ⟨g1, g2, g3, rs', rfl, ?_, ?_⟩
  · exact ((((((unhide OW).set q2 _ _).set q1 _ _).set q1 _ _).set q1 _ _).set q1 _ _).dn (by omega)
  · exact (((((unhide BB).setCell (p := ⟨w.heap.size + 1 + 1, 3, none⟩) q4 _).setCell (p := ⟨w.heap.size + 1, 0, none⟩) q3 _).setCell (p := ⟨w.heap.size + 1, 1, none⟩) q3 _).setCell (p := ⟨w.heap.size + 1, 2, none⟩) q3 _).setCell (p := ⟨w.heap.size + 1, 3, none⟩) q3 _
set_option maxRecDepth 100000 in
set_option maxHeartbeats 1000000 in
theorem eqVersions_any (next : Int) (l1 f1 s1 l2 f2 s2 : Sl) (rs1 rs2 : List SesR) (d : VsD) (w : World) (h1 : VsAt w l1 f1 s1 rs1 d) (h2 : VsAt w l2 f2 s2 rs2 d) (hf : VsFew l1 f1 s1 rs1) :
    Calls Try.prog 24 #[vsv next l1 f1 s1, vsv next l2 f2 s2] w fun e w' => e = .returned (.bool true) ∧ Below w.heap.size w w' := by
  obtain ⟨la, ln, lc⟩ := l1
  obtain ⟨fa, fn, fc⟩ := f1
  obtain ⟨sa, sn, sc⟩ := s1
  obtain ⟨la', ln', lc'⟩ := l2
  obtain ⟨fa', fn', fc'⟩ := f2
  obtain ⟨sa', sn', sc'⟩ := s2
  obtain rfl : ln = ln' := h1.v.1.symm.trans h2.v.1
  obtain rfl : fn = fn' := h1.f.1.symm.trans h2.f.1
  obtain rfl : sn = sn' := by have e1 := h1.s.1; have e2 := h2.s.1; have e3 := h1.ss.1; have e4 := h2.ss.1; show sn = sn'; simp only at e1 e2; omega
  have H1 := hide h1
  have H2 := hide h2
  have HF := hide hf
  clear h1 h2 hf
  unfold vsv
  simp only
  have b0 : Below w.heap.size w ((w.alloc (.cells #[.int .i64 next, .slice la ln lc, .slice fa fn fc, .slice sa sn sc] 47)).alloc (.cells #[.int .i64 next, .slice la' ln lc', .slice fa' fn fc', .slice sa' sn sc'] 47)) := ((Below.refl _ _).alloc (Nat.le_refl _) _).alloc (by simp) _
  have k1 : ((w.alloc (.cells #[.int .i64 next, .slice la ln lc, .slice fa fn fc, .slice sa sn sc] 47)).alloc (.cells #[.int .i64 next, .slice la' ln lc', .slice fa' fn fc', .slice sa' sn sc'] 47)).heap[w.heap.size]? = some (.cells #[.int .i64 next, .slice la ln lc, .slice fa fn fc, .slice sa sn sc] 47 (0, 0)) :=
    (((Below.refl (w.heap.size + 1) (w.alloc (.cells #[.int .i64 next, .slice la ln lc, .slice fa fn fc, .slice sa sn sc] 47))).alloc (by simp) _).block w.heap.size (by omega)).trans (heap_alloc_new _ _)
  have k2 : ((w.alloc (.cells #[.int .i64 next, .slice la ln lc, .slice fa fn fc, .slice sa sn sc] 47)).alloc (.cells #[.int .i64 next, .slice la' ln lc', .slice fa' fn fc', .slice sa' sn sc'] 47)).heap[w.heap.size + 1]? = some (.cells #[.int .i64 next, .slice la' ln lc', .slice fa' fn fc', .slice sa' sn sc'] 47 (0, 0)) := by
    have := heap_alloc_new (w.alloc (.cells #[.int .i64 next, .slice la ln lc, .slice fa fn fc, .slice sa sn sc] 47)) (.cells #[.int .i64 next, .slice la' ln lc', .slice fa' fn fc', .slice sa' sn sc'] 47)
    simpa using this
  have K1 := hide k1
  have K2 := hide k2
  clear k1 k2
  go_enter Try.func24, Try.ntmps24
  go_wp2_with fail
  generalize (w.alloc (.cells #[.int .i64 next, .slice la ln lc, .slice fa fn fc, .slice sa sn sc] 47)).alloc (.cells #[.int .i64 next, .slice la' ln lc', .slice fa' fn fc', .slice sa' sn sc'] 47) = W at *
  refine (eqVersionS_any la la' ln lc lc' d.list W (unhide HF).l ((unhide H1).below b0).v ((unhide H2).below b0).v).mono ?_
  rintro e w1 ⟨rfl, hb⟩
  replace K1 := hide ((hb.block w.heap.size (Array.getElem?_eq_some_iff.1 (unhide K1)).1).trans (unhide K1))
  replace K2 := hide ((hb.block (w.heap.size + 1) (Array.getElem?_eq_some_iff.1 (unhide K2)).1).trans (unhide K2))
  replace b0 := b0.trans (hb.mono b0.size)
  clear hb
  have c1 : w1.cell? ⟨w.heap.size, 2, none⟩ = some (.slice fa fn fc) := (heap_at (unhide K1) 2).1
  have c2 : w1.cell? ⟨w.heap.size + 1, 2, none⟩ = some (.slice fa' fn fc') := (heap_at (unhide K2) 2).1
  go_wp2_with fail
  refine (eqFenceS_any fa fa' fn fc fc' d.fen w1 (unhide HF).f ((unhide H1).below b0).f ((unhide H2).below b0).f).mono ?_
  rintro e w2 ⟨rfl, hb⟩
  replace K1 := hide ((hb.block w.heap.size (Array.getElem?_eq_some_iff.1 (unhide K1)).1).trans (unhide K1))
  replace K2 := hide ((hb.block (w.heap.size + 1) (Array.getElem?_eq_some_iff.1 (unhide K2)).1).trans (unhide K2))
  replace b0 := b0.trans (hb.mono b0.size)
  clear hb c1 c2
  have c1 : w2.cell? ⟨w.heap.size, 3, none⟩ = some (.slice sa sn sc) := (heap_at (unhide K1) 3).1
  have c2 : w2.cell? ⟨w.heap.size + 1, 3, none⟩ = some (.slice sa' sn sc') := (heap_at (unhide K2) 3).1
  go_wp2_with fail
  refine (eqSessionS_any sa sa' sn sc sc' rs1 rs2 d.ses w2 (unhide HF).s ((unhide H1).below b0).s ((unhide H2).below b0).s ((unhide H1).below b0).ss ((unhide H2).below b0).ss (unhide HF).w).mono ?_
  rintro e w3 ⟨rfl, hb⟩
  replace b0 := b0.trans (hb.mono b0.size)
  clear hb c1 c2 K1 K2
  go_wp2_with fail
  go_ret
  exact ⟨rfl, b0⟩
end Go.Proofs.Ytdnneomdokcpeaa
