/-
  TxI1, TxI0, RgE, TxI2, TxI3, TxI4 in one.
-/
import Derived.Test.YtdnjgbckkmbmfaaGreatLsAll3
set_option maxRecDepth 100000
namespace Go.Proofs.YtdnjgbckkmbmfaaGreat
open Go.RowKit

set_option maxHeartbeats 8000000 in
theorem l06Step_1 (d : VsD) (i : Nat) (key tu val : ByteArray) (l f s : Sl) (hs : List SeH) (w : World) (hI : VzIn w l f s hs d) (hS : SmV d) (hi : i < 4) :
  Calls Tryz.prog 36 #[.agg (vzC d.next l f s), .agg #[.int .i64 1, .int .i64 (i : Int), .string key, .string tu, .string val]] w fun e w' => StRes l f s hs d (stepV d ⟨1, (i : Int), key, tu, val⟩) w e w' := by
 have hz := allocC_size [(vzC d.next l f s, 29), (#[.int .i64 1, .int .i64 (i : Int), .string key, .string tu, .string val], 37), (#[.int .i64 0, .slice none 0 0, .slice none 0 0, .slice none 0 0], 29), (#[.int .i64 0, .int .i64 0, .string ⟨#[]⟩, .slice none 0 0], 40)] w
 have b1 := allocC_bel [(vzC d.next l f s, 29), (#[.int .i64 1, .int .i64 (i : Int), .string key, .string tu, .string val], 37), (#[.int .i64 0, .slice none 0 0, .slice none 0 0, .slice none 0 0], 29), (#[.int .i64 0, .int .i64 0, .string ⟨#[]⟩, .slice none 0 0], 40)] w
 have AT := allocC_at [(vzC d.next l f s, 29), (#[.int .i64 1, .int .i64 (i : Int), .string key, .string tu, .string val], 37), (#[.int .i64 0, .slice none 0 0, .slice none 0 0, .slice none 0 0], 29), (#[.int .i64 0, .int .i64 0, .string ⟨#[]⟩, .slice none 0 0], 40)] w
 obtain ⟨W, hW⟩ : ∃ W, W = allocC w [(vzC d.next l f s, 29), (#[.int .i64 1, .int .i64 (i : Int), .string key, .string tu, .string val], 37), (#[.int .i64 0, .slice none 0 0, .slice none 0 0, .slice none 0 0], 29), (#[.int .i64 0, .int .i64 0, .string ⟨#[]⟩, .slice none 0 0], 40)] := ⟨_, rfl⟩
 rw [← hW] at hz b1 AT
 simp only [List.length_cons, List.length_nil] at hz
 have k0 : W.heap[w.heap.size]? = some (.cells (vzC d.next l f s) 29 (0, 0)) := AT 0 _ _ rfl
 have k1 : W.heap[w.heap.size + 1]? = some (.cells #[.int .i64 1, .int .i64 (i : Int), .string key, .string tu, .string val] 37 (0, 0)) := AT 1 _ _ rfl
 have k2 : W.heap[w.heap.size + 1 + 1]? = some (.cells #[.int .i64 0, .slice none 0 0, .slice none 0 0, .slice none 0 0] 29 (0, 0)) := AT 2 _ _ rfl
 have k3 : W.heap[w.heap.size + 1 + 1 + 1]? = some (.cells #[.int .i64 0, .int .i64 0, .string ⟨#[]⟩, .slice none 0 0] 40 (0, 0)) := AT 3 _ _ rfl
 have hz0 : w.heap.size < W.heap.size := by omega
 have hz1 : w.heap.size + 1 < W.heap.size := by omega
 have hz2 : w.heap.size + 1 + 1 < W.heap.size := by omega
 have hz3 : w.heap.size + 1 + 1 + 1 < W.heap.size := by omega
 unfold allocC allocC allocC allocC allocC at hW
 have CO := hide (l06Own_any d l f s hs W (hI.below b1) (by have := hI.vr.1; have := hS.list; omega) (by have := hI.fr.1; have := hS.fen; omega) (by have := hI.len; have := hS.ses; omega) (fun h hh => by
  obtain ⟨k, hk, rfl⟩ := List.getElem_of_mem hh
  obtain ⟨hd, he⟩ := hI.at hk
  have h1 := (SeIn.row hI.sr hk).1
  have h2 := hS.ws d.ses[k] (List.getElem_mem hd)
  rw [← he] at h2
  omega))
 have BH := hide b1
 have HI := hide hI
 have HS := hide hS
 obtain ⟨la, ln, lc⟩ := l
 obtain ⟨fa, fn, fc⟩ := f
 obtain ⟨sa, sn, sc⟩ := s
 unfold vzC at k0 hW CO ⊢
 simp only at k0 hW CO ⊢
 have K0 := hide k0
 have K1 := hide k1
 have K2 := hide k2
 have K3 := hide k3
 have hnx := hS.nx
 have hi0 : decide ((0 : Int) ≤ (i : Int)) = true := decide_eq_true (by omega)
 have hi3 : decide ((i : Int) ≤ 3) = true := decide_eq_true (by omega)
 have a0 := (heap_at k1 0).1
 have a1 := (heap_at k1 1).1
 have v0 := (heap_at k0 0).1
 have v1 := (heap_at k0 1).1
 have v2 := (heap_at k0 2).1
 have v3 := (heap_at k0 3).1
 clear hI hS hz b1 AT k0 k1 k2 k3
 go_enter Tryz.func36, Tryz.ntmps36
 go_wp2_with (go_at_call 75; refine (l01In_any _ _ _ _).mono ?_; rintro e w9 ⟨rfl, rfl⟩)
 rw [← hW]
 clear hW
 refine (unhide CO).mono ?_
 rintro e w1 ⟨⟨la1, ln1, lc1⟩, ⟨fa1, fn1, fc1⟩, ⟨sa1, sn1, sc1⟩, hs1, rfl, hO, hb1⟩
 clear a0 a1 v0 v1 v2 v3 hi0 hi3 CO
 have hl4 : hs1.length = 4 := by rw [hO.reads.len.2]; exact (unhide HS).ses
 have hih : i < hs1.length := by omega
 obtain ⟨g, hsa, hsn, hgB, hgw, c0, c1, c2, hwo, hid, hxd⟩ := hO.sesAt hih
 simp only at hsa hsn
 rw [hl4] at hsn
 subst hsa hsn
 unfold vzC
 simp only
 have STP := hide (show stepV d ⟨1, (i : Int), key, tu, val⟩ = sesV d ⟨1, (i : Int), key, tu, val⟩ i hs1[i].X by
  unfold stepV
  rw [if_neg (by simp), if_neg (by simp only; omega), hxd]
  congr 1
  rw [show ((i : Nat) : Int).toNat = i by omega, List.getD_eq_getElem?_getD, List.getElem?_eq_getElem hid]
  rfl)
 have XL := hide (show hs1[i].X.ws.length ≤ 8 by rw [hxd]; exact (unhide HS).ws _ (List.getElem_mem hid))
 have SX := hide hxd
 clear hxd
 generalize hx1 : hs1[i] = x at *
 have HX := hide hx1
 clear hx1
 obtain ⟨⟨o, t, wl⟩, ⟨wa, wn, wc⟩⟩ := x
 simp only at c0 c1 c2 hwo STP XL
 have bA : Below w1.heap.size w1 ((w1.alloc (.cells #[.int .i64 d.next, .slice la1 ln1 lc1, .slice fa1 fn1 fc1, .slice (some ⟨g, 0, none⟩) 4 sc1] 29)).alloc (.cells #[.bool o, .int .i64 t, .slice wa wn wc] 55)) := ((Below.refl _ _).alloc (Nat.le_refl _) _).alloc (by simp) _
 obtain ⟨-, k6, k7, z7⟩ := twoBx (w := w1) (c1 := #[.int .i64 d.next, .slice la1 ln1 lc1, .slice fa1 fn1 fc1, .slice (some ⟨g, 0, none⟩) 4 sc1]) (t1 := 29) (c2 := #[.bool o, .int .i64 t, .slice wa wn wc]) (t2 := 55) rfl
 have hW1 := hb1.size
 have NBS := hide (fun q hq => (hO.so.lt q hq).2)
 have NBV := hide (fun q hq => (hO.vo.lt q hq).2)
 have NBF := hide (fun q hq => (hO.fo.lt q hq).2)
 have OU := hide (hO.below bA)
 have BU := hide (hb1.trans (bA.mono hW1))
 have OX := hide (rb_ownsRow_below hwo bA)
 have K6 := hide k6
 have K7 := hide k7
 have hb6 : W.heap.size ≤ w1.heap.size := hW1
 have a1 : (w1.alloc (.cells #[.int .i64 d.next, .slice la1 ln1 lc1, .slice fa1 fn1 fc1, .slice (some ⟨g, 0, none⟩) 4 sc1] 29)).cell? ⟨w.heap.size + 1, 1, none⟩ = some (.int .i64 (i : Int)) := (((Below.refl w1.heap.size w1).alloc (Nat.le_refl _) (.cells #[.int .i64 d.next, .slice la1 ln1 lc1, .slice fa1 fn1 fc1, .slice (some ⟨g, 0, none⟩) 4 sc1] 29)).cell (p := ⟨w.heap.size + 1, 1, none⟩) (by show w.heap.size + 1 < w1.heap.size; omega)).trans ((heap_at ((hb1.block (w.heap.size + 1) hz1).trans (unhide K1)) 1).1)
 have d0 := (((Below.refl w1.heap.size w1).alloc (Nat.le_refl _) (.cells #[.int .i64 d.next, .slice la1 ln1 lc1, .slice fa1 fn1 fc1, .slice (some ⟨g, 0, none⟩) 4 sc1] 29)).cell (p := ⟨g, i * 3, none⟩) hgw).trans c0
 have d1 := (((Below.refl w1.heap.size w1).alloc (Nat.le_refl _) (.cells #[.int .i64 d.next, .slice la1 ln1 lc1, .slice fa1 fn1 fc1, .slice (some ⟨g, 0, none⟩) 4 sc1] 29)).cell (p := ⟨g, i * 3 + 1, none⟩) hgw).trans c1
 have d2 := (((Below.refl w1.heap.size w1).alloc (Nat.le_refl _) (.cells #[.int .i64 d.next, .slice la1 ln1 lc1, .slice fa1 fn1 fc1, .slice (some ⟨g, 0, none⟩) 4 sc1] 29)).cell (p := ⟨g, i * 3 + 2, none⟩) hgw).trans c2
 have hin : (i : Int) < 4 := by omega
 clear hO hwo bA k6 k7 c0 c1 c2 hb1 z7
 go_upto_region 7 with fail
 clear d0 d1 d2 a1 hin
 generalize (w1.alloc (.cells #[.int .i64 d.next, .slice la1 ln1 lc1, .slice fa1 fn1 fc1, .slice (some ⟨g, 0, none⟩) 4 sc1] 29)).alloc (.cells #[.bool o, .int .i64 t, .slice wa wn wc] 55) = u at *
 generalize hb6e : w1.heap.size = b6 at *
 clear hb6e
 cases o with
 | true =>
  have kv := ((unhide BU).block w.heap.size hz0).trans (unhide K0)
  have v0 := (heap_at kv 0).1
  have v1 := (heap_at kv 1).1
  have v2 := (heap_at kv 2).1
  have v3 := (heap_at kv 3).1
  have ka := ((unhide BU).block (w.heap.size + 1) hz1).trans (unhide K1)
  have a0 := (heap_at ka 0).1
  have a1 := (heap_at ka 1).1
  have a2 := (heap_at ka 2).1
  have a3 := (heap_at ka 3).1
  have a4 := (heap_at ka 4).1
  have ky := ((unhide BU).block (w.heap.size + 1 + 1) hz2).trans (unhide K2)
  have y0 := (heap_at ky 0).1
  have y1 := (heap_at ky 1).1
  have y2 := (heap_at ky 2).1
  have y3 := (heap_at ky 3).1
  have yf0 := (heap_at ky 0).2
  have yf1 := (heap_at ky 1).2
  have yf2 := (heap_at ky 2).2
  have yf3 := (heap_at ky 3).2
  have kt := ((unhide BU).block (w.heap.size + 1 + 1 + 1) hz3).trans (unhide K3)
  have t0 := (heap_at kt 0).1
  have t1 := (heap_at kt 1).1
  have t2 := (heap_at kt 2).1
  have t3 := (heap_at kt 3).1
  have tf0 := (heap_at kt 0).2
  have tf1 := (heap_at kt 1).2
  have tf2 := (heap_at kt 2).2
  have tf3 := (heap_at kt 3).2
  have x0 := (heap_at (unhide K7) 0).1
  have RES := hide (show StRes ⟨la, ln, lc⟩ ⟨fa, fn, fc⟩ ⟨sa, sn, sc⟩ hs d (stepV d ⟨1, (i : Int), key, tu, val⟩) w (.returned (.tuple #[.agg #[.int .i64 d.next, .slice la ln lc, .slice fa fn fc, .slice sa sn sc], .agg #[.int .i64 8, .int .i64 0, .string ⟨#[]⟩, .slice none 0 0]])) ((((((((u.setCell ⟨w.heap.size + 1 + 1, 0, none⟩ (.int .i64 d.next)).setCell ⟨w.heap.size + 1 + 1, 1, none⟩ (.slice la ln lc)).setCell ⟨w.heap.size + 1 + 1, 2, none⟩ (.slice fa fn fc)).setCell ⟨w.heap.size + 1 + 1, 3, none⟩ (.slice sa sn sc)).setCell ⟨w.heap.size + 1 + 1 + 1, 0, none⟩ (.int .i64 8)).setCell ⟨w.heap.size + 1 + 1 + 1, 1, none⟩ (.int .i64 0)).setCell ⟨w.heap.size + 1 + 1 + 1, 2, none⟩ (.string ⟨#[]⟩)).setCell ⟨w.heap.size + 1 + 1 + 1, 3, none⟩ (.slice none 0 0)) from st_old (unhide HI) (bel_sv4 (bel_sv4 ((unhide BH).trans ((unhide BU).mono (unhide BH).size)) (by omega) _ _ _ _) (by omega) _ _ _ _) (by rw [unhide STP]; unfold sesV; rw [if_pos rfl, if_pos rfl]))
  go_wp2_with fail
  refine bodyPost_ret (v := .tuple #[.agg #[.int .i64 d.next, .slice la ln lc, .slice fa fn fc, .slice sa sn sc], .agg #[.int .i64 8, .int .i64 0, .string ⟨#[]⟩, .slice none 0 0]]) (by simp [results, Tryz.results36, go_sem, *]) rfl ?_
  exact unhide RES
 | false =>
  have kv := ((unhide BU).block w.heap.size hz0).trans (unhide K0)
  have v0 := (heap_at kv 0).1
  have v1 := (heap_at kv 1).1
  have v2 := (heap_at kv 2).1
  have v3 := (heap_at kv 3).1
  have ka := ((unhide BU).block (w.heap.size + 1) hz1).trans (unhide K1)
  have a0 := (heap_at ka 0).1
  have a1 := (heap_at ka 1).1
  have a2 := (heap_at ka 2).1
  have a3 := (heap_at ka 3).1
  have a4 := (heap_at ka 4).1
  have ky := ((unhide BU).block (w.heap.size + 1 + 1) hz2).trans (unhide K2)
  have y0 := (heap_at ky 0).1
  have y1 := (heap_at ky 1).1
  have y2 := (heap_at ky 2).1
  have y3 := (heap_at ky 3).1
  have yf0 := (heap_at ky 0).2
  have yf1 := (heap_at ky 1).2
  have yf2 := (heap_at ky 2).2
  have yf3 := (heap_at ky 3).2
  have kt := ((unhide BU).block (w.heap.size + 1 + 1 + 1) hz3).trans (unhide K3)
  have t0 := (heap_at kt 0).1
  have t1 := (heap_at kt 1).1
  have t2 := (heap_at kt 2).1
  have t3 := (heap_at kt 3).1
  have tf0 := (heap_at kt 0).2
  have tf1 := (heap_at kt 1).2
  have tf2 := (heap_at kt 2).2
  have tf3 := (heap_at kt 3).2
  have x0 := (heap_at (unhide K7) 0).1
  by_cases hnn : d.next = 1000
  ·have hn2 : (d.next == 1000) = true := by simpa using hnn
   have ST2 := hide (show stepV d ⟨1, (i : Int), key, tu, val⟩ = (d, repV 7 0) by rw [unhide STP]; unfold sesV; rw [if_pos rfl, if_neg (by simp), if_pos hnn])
   clear hnn
   have RES := hide (show StRes ⟨la, ln, lc⟩ ⟨fa, fn, fc⟩ ⟨sa, sn, sc⟩ hs d (stepV d ⟨1, (i : Int), key, tu, val⟩) w (.returned (.tuple #[.agg #[.int .i64 d.next, .slice la ln lc, .slice fa fn fc, .slice sa sn sc], .agg #[.int .i64 7, .int .i64 0, .string ⟨#[]⟩, .slice none 0 0]])) ((((((((u.setCell ⟨w.heap.size + 1 + 1, 0, none⟩ (.int .i64 d.next)).setCell ⟨w.heap.size + 1 + 1, 1, none⟩ (.slice la ln lc)).setCell ⟨w.heap.size + 1 + 1, 2, none⟩ (.slice fa fn fc)).setCell ⟨w.heap.size + 1 + 1, 3, none⟩ (.slice sa sn sc)).setCell ⟨w.heap.size + 1 + 1 + 1, 0, none⟩ (.int .i64 7)).setCell ⟨w.heap.size + 1 + 1 + 1, 1, none⟩ (.int .i64 0)).setCell ⟨w.heap.size + 1 + 1 + 1, 2, none⟩ (.string ⟨#[]⟩)).setCell ⟨w.heap.size + 1 + 1 + 1, 3, none⟩ (.slice none 0 0)) from st_old (unhide HI) (bel_sv4 (bel_sv4 ((unhide BH).trans ((unhide BU).mono (unhide BH).size)) (by omega) _ _ _ _) (by omega) _ _ _ _) (by rw [unhide ST2]))
   go_wp2_with fail
   refine bodyPost_ret (v := .tuple #[.agg #[.int .i64 d.next, .slice la ln lc, .slice fa fn fc, .slice sa sn sc], .agg #[.int .i64 7, .int .i64 0, .string ⟨#[]⟩, .slice none 0 0]]) (by simp [results, Tryz.results36, go_sem, *]) rfl ?_
   exact unhide RES
  ·have hn2 : (d.next == 1000) = false := by simpa using hnn
   have ST2 := hide (show stepV d ⟨1, (i : Int), key, tu, val⟩ = (⟨d.next + 1, d.list, d.fen, d.ses.set i ⟨true, d.next, []⟩⟩, repV 0 d.next) by rw [unhide STP]; unfold sesV; rw [if_pos rfl, if_neg (by simp), if_neg hnn])
   clear hnn
   have z3 := (heap_at (unhide K6) 3).1
   have bL : Below u.heap.size u (u.alloc (.cells #[] 43)) := (Below.refl _ _).alloc (Nat.le_refl _) _
   have OL := (unhide OU).below bL
   have NL := gd_base (nil_lit (w := u) 43 4) (unhide BU).size
   have hih : i < hs1.length := by omega
   obtain ⟨g2, hg2, -, ⟨c0, c1, c2⟩, hfz, OP, WP, hki⟩ := OL.put hih ⟨⟨true, d.next, []⟩, ⟨some ⟨u.heap.size, 0, none⟩, 0, 0⟩⟩ NL (fun q hq => by
    injection hq with hq
    subst hq
    exact ⟨fun hn => Nat.lt_irrefl _ ((unhide OU).so.lt _ hn).2, fun e => Nat.lt_irrefl _ ((unhide OU).vo.lt _ e).2⟩)
   simp only at hg2
   injection hg2 with hg2
   injection hg2 with hg2 _ _
   subst hg2
   rw [unhide HX] at c0 c1 c2
   simp only at c0 c1 c2 OP WP
   have hf0 := hfz (i * 3)
   have hf1 := hfz (i * 3 + 1)
   have hf2 := hfz (i * 3 + 1 + 1)
   obtain ⟨cur, hcur⟩ := hki
   have BL := (unhide BU).trans (bL.mono (unhide BU).size)
   have BP := hide (BL.trans (WrB.below WP (fun k e => by rw [e]; exact hgB) BL.size))
   have K6L := (bL.block b6 (blk_lt (unhide K6))).trans (unhide K6)
   have h6g : b6 ≠ g := fun e => by rw [e, hcur] at K6L; injection K6L with K6L; injection K6L with _ K6L _; exact absurd K6L (by decide)
   have K6P := hide ((WP.block b6 (blk_lt K6L) h6g).trans K6L)
   have OPh := hide OP
   have a1L := (bL.cell (p := ⟨w.heap.size + 1, 1, none⟩) (cell_lt a1)).trans a1
   have v0L := (bL.cell (p := ⟨w.heap.size, 0, none⟩) (cell_lt v0)).trans v0
   have z3L := (bL.cell (p := ⟨b6, 3, none⟩) (cell_lt z3)).trans z3
   have K6Q := (unhide K6P)
   have hin : (i : Int) < 4 := by omega
   have hW13 : WrB (fun k => k = b6) ((((u.alloc (.cells #[] 43)).setCell ⟨g, i * 3, none⟩ (.bool true)).setCell ⟨g, i * 3 + 1, none⟩ (.int .i64 d.next)).setCell ⟨g, i * 3 + 1 + 1, none⟩ (.slice (some ⟨u.heap.size, 0, none⟩) 0 0)) (((((u.alloc (.cells #[] 43)).setCell ⟨g, i * 3, none⟩ (.bool true)).setCell ⟨g, i * 3 + 1, none⟩ (.int .i64 d.next)).setCell ⟨g, i * 3 + 1 + 1, none⟩ (.slice (some ⟨u.heap.size, 0, none⟩) 0 0)).setCell ⟨b6, 0, none⟩ (.int .i64 (d.next + 1))) := set1_wr _ _ _ _
   have OF := hide (show VzOwn (((((u.alloc (.cells #[] 43)).setCell ⟨g, i * 3, none⟩ (.bool true)).setCell ⟨g, i * 3 + 1, none⟩ (.int .i64 d.next)).setCell ⟨g, i * 3 + 1 + 1, none⟩ (.slice (some ⟨u.heap.size, 0, none⟩) 0 0)).setCell ⟨b6, 0, none⟩ (.int .i64 (d.next + 1))) W.heap.size ⟨la1, ln1, lc1⟩ ⟨fa1, fn1, fc1⟩ ⟨some ⟨g, 0, none⟩, 4, sc1⟩ _ ⟨d.next + 1, d.list, d.fen, d.ses.set i ⟨true, d.next, []⟩⟩ from (let h := OP.box K6Q (by decide) (by decide) (by decide) hW13; ⟨h.vo, h.fo, h.so, h.ss, h.far⟩))
   have BF := hide (show Below w.heap.size w (((((u.alloc (.cells #[] 43)).setCell ⟨g, i * 3, none⟩ (.bool true)).setCell ⟨g, i * 3 + 1, none⟩ (.int .i64 d.next)).setCell ⟨g, i * 3 + 1 + 1, none⟩ (.slice (some ⟨u.heap.size, 0, none⟩) 0 0)).setCell ⟨b6, 0, none⟩ (.int .i64 (d.next + 1))) from ((unhide BH).trans ((unhide BP).mono (unhide BH).size)).trans (WrB.below hW13 (fun k e => by rw [e]; omega) (Nat.le_trans (unhide BH).size (unhide BP).size)))
   have BF2 := hide (show Below W.heap.size W (((((u.alloc (.cells #[] 43)).setCell ⟨g, i * 3, none⟩ (.bool true)).setCell ⟨g, i * 3 + 1, none⟩ (.int .i64 d.next)).setCell ⟨g, i * 3 + 1 + 1, none⟩ (.slice (some ⟨u.heap.size, 0, none⟩) 0 0)).setCell ⟨b6, 0, none⟩ (.int .i64 (d.next + 1))) from (unhide BP).trans (WrB.below hW13 (fun k e => by rw [e]; omega) (unhide BP).size))
   have K6F := hide (show (((((u.alloc (.cells #[] 43)).setCell ⟨g, i * 3, none⟩ (.bool true)).setCell ⟨g, i * 3 + 1, none⟩ (.int .i64 d.next)).setCell ⟨g, i * 3 + 1 + 1, none⟩ (.slice (some ⟨u.heap.size, 0, none⟩) 0 0)).setCell ⟨b6, 0, none⟩ (.int .i64 (d.next + 1))).heap[b6]? = some (.cells #[.int .i64 (d.next + 1), .slice la1 ln1 lc1, .slice fa1 fn1 fc1, .slice (some ⟨g, 0, none⟩) 4 sc1] 29 (0, 0)) by have := heap_set K6Q 0 (.int .i64 (d.next + 1)); simpa using this)
   have z0P := (heap_at K6Q 0).1
   have zf0P := (heap_at K6Q 0).2
   have hwr : IntKind.i64.wrap (d.next + 1) = d.next + 1 := by rw [IntKind.wrap_i64]; omega
   clear OP WP hW13 K6Q K6L BL bL OL NL hfz hcur kv ka ky kt
   go_upto_region 13 with fail
   go_upto_region 14 with fail
   generalize ((((u.alloc (.cells #[] 43)).setCell ⟨g, i * 3, none⟩ (.bool true)).setCell ⟨g, i * 3 + 1, none⟩ (.int .i64 d.next)).setCell ⟨g, i * 3 + 1 + 1, none⟩ (.slice (some ⟨u.heap.size, 0, none⟩) 0 0)).setCell ⟨b6, 0, none⟩ (.int .i64 (d.next + 1)) = uf at *
   clear v0 v1 v2 v3 a0 a1 a2 a3 a4 y0 y1 y2 y3 yf0 yf1 yf2 yf3 t0 t1 t2 t3 tf0 tf1 tf2 tf3 x0 c0 c1 c2 hf0 hf1 hf2 a1L v0L z3L z3 z0P zf0P
   have kv := ((unhide BF2).block w.heap.size hz0).trans (unhide K0)
   have v0 := (heap_at kv 0).1
   have v1 := (heap_at kv 1).1
   have v2 := (heap_at kv 2).1
   have v3 := (heap_at kv 3).1
   have z0 := (heap_at (unhide K6F) 0).1
   have z1 := (heap_at (unhide K6F) 1).1
   have z2 := (heap_at (unhide K6F) 2).1
   have z3 := (heap_at (unhide K6F) 3).1
   have N2 := hide (((unhide BF2).block (w.heap.size + 1 + 1) hz2).trans (unhide K2))
   have N3 := hide (((unhide BF2).block (w.heap.size + 1 + 1 + 1) hz3).trans (unhide K3))
   have h60 : b6 < uf.heap.size := blk_lt (unhide K6F)
   have h6W : W.heap.size ≤ uf.heap.size := (unhide BF2).size
   have LD := hide (show ∀ v : World, (∀ i, i ≠ w.heap.size + 1 + 1 → i ≠ w.heap.size + 1 + 1 + 1 → i < uf.heap.size → v.heap[i]? = uf.heap[i]?) → (fun u => u.cell? ⟨b6, 0, none⟩ = some (.int .i64 (d.next + 1)) ∧ u.cell? ⟨b6, 1, none⟩ = some (.slice la1 ln1 lc1) ∧ u.cell? ⟨b6, 2, none⟩ = some (.slice fa1 fn1 fc1) ∧ u.cell? ⟨b6, 3, none⟩ = some (.slice (some ⟨g, 0, none⟩) 4 sc1) ∧ u.cell? ⟨w.heap.size, 0, none⟩ = some (.int .i64 d.next)) v from fun v hv => ⟨(World.cell?_of_block (a := ⟨b6, 0, none⟩) (hv b6 (by omega) (by omega) h60)).trans z0, (World.cell?_of_block (a := ⟨b6, 1, none⟩) (hv b6 (by omega) (by omega) h60)).trans z1, (World.cell?_of_block (a := ⟨b6, 2, none⟩) (hv b6 (by omega) (by omega) h60)).trans z2, (World.cell?_of_block (a := ⟨b6, 3, none⟩) (hv b6 (by omega) (by omega) h60)).trans z3, (World.cell?_of_block (a := ⟨w.heap.size, 0, none⟩) (hv w.heap.size (by omega) (by omega) (by omega))).trans v0⟩)
   have D0 := hide (show ∀ i, i ≠ w.heap.size + 1 + 1 → i ≠ w.heap.size + 1 + 1 + 1 → i < uf.heap.size → uf.drew.heap[i]? = uf.heap[i]? from fun _ _ _ _ => rfl)
   have ZD0 := hide (show uf.heap.size ≤ uf.drew.heap.size from Nat.le_refl _)
   have BD0 := hide (show Below w.heap.size w uf.drew from (unhide BF).drew)
   replace N2 := hide (show uf.drew.heap[w.heap.size + 1 + 1]? = _ from unhide N2)
   replace N3 := hide (show uf.drew.heap[w.heap.size + 1 + 1 + 1]? = _ from unhide N3)
   go_upto_region 14 with fail
   refine wp_region_held_drew (S := (fun u => u.cell? ⟨b6, 0, none⟩ = some (.int .i64 (d.next + 1)) ∧ u.cell? ⟨b6, 1, none⟩ = some (.slice la1 ln1 lc1) ∧ u.cell? ⟨b6, 2, none⟩ = some (.slice fa1 fn1 fc1) ∧ u.cell? ⟨b6, 3, none⟩ = some (.slice (some ⟨g, 0, none⟩) 4 sc1) ∧ u.cell? ⟨w.heap.size, 0, none⟩ = some (.int .i64 d.next))) (by kernel_rfl) (unhide LD _ (unhide D0)) (fun hHeld => ?_)
   generalize uf.drew = ud at *
   refine tk 0 59 rfl rfl hHeld ?_
   simp only [Act.put, lA, lB, lC]
   refine tk 1 60 rfl rfl hHeld ?_
   simp only [Act.put, lA, lB, lC]
   refine tk 2 61 rfl rfl hHeld ?_
   simp only [Act.put, lA, lB, lC]
   refine tk 3 62 rfl rfl hHeld ?_
   simp only [Act.put, lA, lB, lC]
   refine rd [4] (.cons rfl (fun K hK => ?_) .nil)
   have c0 := (heap_at (unhide N2) 0).1
   have c1 := (heap_at (unhide N2) 1).1
   have c2 := (heap_at (unhide N2) 2).1
   have c3 := (heap_at (unhide N2) 3).1
   have cf0 := (heap_at (unhide N2) 0).2
   have cf1 := (heap_at (unhide N2) 1).2
   have cf2 := (heap_at (unhide N2) 2).2
   have cf3 := (heap_at (unhide N2) 3).2
   have hw : WrB (fun i => i = w.heap.size + 1 + 1) ud ((((ud.setCell ⟨w.heap.size + 1 + 1, 0, none⟩ (.int .i64 (d.next + 1))).setCell ⟨w.heap.size + 1 + 1, 1, none⟩ (.slice la1 ln1 lc1)).setCell ⟨w.heap.size + 1 + 1, 2, none⟩ (.slice fa1 fn1 fc1)).setCell ⟨w.heap.size + 1 + 1, 3, none⟩ (.slice (some ⟨g, 0, none⟩) 4 sc1)) := sv4_wr ud (w.heap.size + 1 + 1) (.int .i64 (d.next + 1)) (.slice la1 ln1 lc1) (.slice fa1 fn1 fc1) (.slice (some ⟨g, 0, none⟩) 4 sc1)
   have D1 := hide (show ∀ i, i ≠ w.heap.size + 1 + 1 → i ≠ w.heap.size + 1 + 1 + 1 → i < uf.heap.size → ((((ud.setCell ⟨w.heap.size + 1 + 1, 0, none⟩ (.int .i64 (d.next + 1))).setCell ⟨w.heap.size + 1 + 1, 1, none⟩ (.slice la1 ln1 lc1)).setCell ⟨w.heap.size + 1 + 1, 2, none⟩ (.slice fa1 fn1 fc1)).setCell ⟨w.heap.size + 1 + 1, 3, none⟩ (.slice (some ⟨g, 0, none⟩) 4 sc1)).heap[i]? = uf.heap[i]? from fun i h1 h2 h3 => (hw.block i (Nat.lt_of_lt_of_le h3 (unhide ZD0)) (by first | exact h1 | exact h2)).trans (unhide D0 i h1 h2 h3))
   have ZD1 := hide (show uf.heap.size ≤ ((((ud.setCell ⟨w.heap.size + 1 + 1, 0, none⟩ (.int .i64 (d.next + 1))).setCell ⟨w.heap.size + 1 + 1, 1, none⟩ (.slice la1 ln1 lc1)).setCell ⟨w.heap.size + 1 + 1, 2, none⟩ (.slice fa1 fn1 fc1)).setCell ⟨w.heap.size + 1 + 1, 3, none⟩ (.slice (some ⟨g, 0, none⟩) 4 sc1)).heap.size from Nat.le_trans (unhide ZD0) hw.size)
   have Ka := hide (show ((((ud.setCell ⟨w.heap.size + 1 + 1, 0, none⟩ (.int .i64 (d.next + 1))).setCell ⟨w.heap.size + 1 + 1, 1, none⟩ (.slice la1 ln1 lc1)).setCell ⟨w.heap.size + 1 + 1, 2, none⟩ (.slice fa1 fn1 fc1)).setCell ⟨w.heap.size + 1 + 1, 3, none⟩ (.slice (some ⟨g, 0, none⟩) 4 sc1)).heap[w.heap.size + 1 + 1]? = some (.cells #[.int .i64 (d.next + 1), .slice la1 ln1 lc1, .slice fa1 fn1 fc1, .slice (some ⟨g, 0, none⟩) 4 sc1] 29 (0, 0)) from sv4_heap (unhide N2) (.int .i64 (d.next + 1)) (.slice la1 ln1 lc1) (.slice fa1 fn1 fc1) (.slice (some ⟨g, 0, none⟩) 4 sc1))
   have BD1 := hide (show Below w.heap.size w ((((ud.setCell ⟨w.heap.size + 1 + 1, 0, none⟩ (.int .i64 (d.next + 1))).setCell ⟨w.heap.size + 1 + 1, 1, none⟩ (.slice la1 ln1 lc1)).setCell ⟨w.heap.size + 1 + 1, 2, none⟩ (.slice fa1 fn1 fc1)).setCell ⟨w.heap.size + 1 + 1, 3, none⟩ (.slice (some ⟨g, 0, none⟩) 4 sc1)) from bel_sv4 (unhide BD0) (by omega) (.int .i64 (d.next + 1)) (.slice la1 ln1 lc1) (.slice fa1 fn1 fc1) (.slice (some ⟨g, 0, none⟩) 4 sc1))
   have E3 := hide ((hw.block (w.heap.size + 1 + 1 + 1) (blk_lt (unhide N3)) (by omega)).trans (unhide N3))
   clear hw
   go_simp
   refine hK.out _ _ (unhide LD _ (unhide D1)) (fun hHeld => ?_)
   clear hK K
   clear c0 c1 c2 c3 cf0 cf1 cf2 cf3
   generalize ((((ud.setCell ⟨w.heap.size + 1 + 1, 0, none⟩ (.int .i64 (d.next + 1))).setCell ⟨w.heap.size + 1 + 1, 1, none⟩ (.slice la1 ln1 lc1)).setCell ⟨w.heap.size + 1 + 1, 2, none⟩ (.slice fa1 fn1 fc1)).setCell ⟨w.heap.size + 1 + 1, 3, none⟩ (.slice (some ⟨g, 0, none⟩) 4 sc1)) = ue at *
   refine rd [5] (.cons rfl (fun K hK => ?_) .nil)
   have c0 := (heap_at (unhide E3) 0).1
   have c1 := (heap_at (unhide E3) 1).1
   have c2 := (heap_at (unhide E3) 2).1
   have c3 := (heap_at (unhide E3) 3).1
   have cf0 := (heap_at (unhide E3) 0).2
   have cf1 := (heap_at (unhide E3) 1).2
   have cf2 := (heap_at (unhide E3) 2).2
   have cf3 := (heap_at (unhide E3) 3).2
   have hw : WrB (fun i => i = w.heap.size + 1 + 1 + 1) ue ((((ue.setCell ⟨w.heap.size + 1 + 1 + 1, 0, none⟩ (.int .i64 0)).setCell ⟨w.heap.size + 1 + 1 + 1, 1, none⟩ (.int .i64 d.next)).setCell ⟨w.heap.size + 1 + 1 + 1, 2, none⟩ (.string ⟨#[]⟩)).setCell ⟨w.heap.size + 1 + 1 + 1, 3, none⟩ (.slice none 0 0)) := sv4_wr ue (w.heap.size + 1 + 1 + 1) (.int .i64 0) (.int .i64 d.next) (.string ⟨#[]⟩) (.slice none 0 0)
   have D2 := hide (show ∀ i, i ≠ w.heap.size + 1 + 1 → i ≠ w.heap.size + 1 + 1 + 1 → i < uf.heap.size → ((((ue.setCell ⟨w.heap.size + 1 + 1 + 1, 0, none⟩ (.int .i64 0)).setCell ⟨w.heap.size + 1 + 1 + 1, 1, none⟩ (.int .i64 d.next)).setCell ⟨w.heap.size + 1 + 1 + 1, 2, none⟩ (.string ⟨#[]⟩)).setCell ⟨w.heap.size + 1 + 1 + 1, 3, none⟩ (.slice none 0 0)).heap[i]? = uf.heap[i]? from fun i h1 h2 h3 => (hw.block i (Nat.lt_of_lt_of_le h3 (unhide ZD1)) (by first | exact h1 | exact h2)).trans (unhide D1 i h1 h2 h3))
   have ZD2 := hide (show uf.heap.size ≤ ((((ue.setCell ⟨w.heap.size + 1 + 1 + 1, 0, none⟩ (.int .i64 0)).setCell ⟨w.heap.size + 1 + 1 + 1, 1, none⟩ (.int .i64 d.next)).setCell ⟨w.heap.size + 1 + 1 + 1, 2, none⟩ (.string ⟨#[]⟩)).setCell ⟨w.heap.size + 1 + 1 + 1, 3, none⟩ (.slice none 0 0)).heap.size from Nat.le_trans (unhide ZD1) hw.size)
   have Kb := hide (show ((((ue.setCell ⟨w.heap.size + 1 + 1 + 1, 0, none⟩ (.int .i64 0)).setCell ⟨w.heap.size + 1 + 1 + 1, 1, none⟩ (.int .i64 d.next)).setCell ⟨w.heap.size + 1 + 1 + 1, 2, none⟩ (.string ⟨#[]⟩)).setCell ⟨w.heap.size + 1 + 1 + 1, 3, none⟩ (.slice none 0 0)).heap[w.heap.size + 1 + 1 + 1]? = some (.cells #[.int .i64 0, .int .i64 d.next, .string ⟨#[]⟩, .slice none 0 0] 40 (0, 0)) from sv4_heap (unhide E3) (.int .i64 0) (.int .i64 d.next) (.string ⟨#[]⟩) (.slice none 0 0))
   have BD2 := hide (show Below w.heap.size w ((((ue.setCell ⟨w.heap.size + 1 + 1 + 1, 0, none⟩ (.int .i64 0)).setCell ⟨w.heap.size + 1 + 1 + 1, 1, none⟩ (.int .i64 d.next)).setCell ⟨w.heap.size + 1 + 1 + 1, 2, none⟩ (.string ⟨#[]⟩)).setCell ⟨w.heap.size + 1 + 1 + 1, 3, none⟩ (.slice none 0 0)) from bel_sv4 (unhide BD1) (by omega) (.int .i64 0) (.int .i64 d.next) (.string ⟨#[]⟩) (.slice none 0 0))
   have Kc := hide ((hw.block (w.heap.size + 1 + 1) (blk_lt (unhide Ka)) (by omega)).trans (unhide Ka))
   clear hw
   go_simp
   refine hK.out _ _ (unhide LD _ (unhide D2)) (fun hHeld => ?_)
   clear hK K
   clear c0 c1 c2 c3 cf0 cf1 cf2 cf3
   generalize ((((ue.setCell ⟨w.heap.size + 1 + 1 + 1, 0, none⟩ (.int .i64 0)).setCell ⟨w.heap.size + 1 + 1 + 1, 1, none⟩ (.int .i64 d.next)).setCell ⟨w.heap.size + 1 + 1 + 1, 2, none⟩ (.string ⟨#[]⟩)).setCell ⟨w.heap.size + 1 + 1 + 1, 3, none⟩ (.slice none 0 0)) = ug at *
   refine wpAnyH_done (by kernel_rfl) ?_ _
   have r0 := (heap_at (unhide Kc) 0).1
   have r1 := (heap_at (unhide Kc) 1).1
   have r2 := (heap_at (unhide Kc) 2).1
   have r3 := (heap_at (unhide Kc) 3).1
   have q0 := (heap_at (unhide Kb) 0).1
   have q1 := (heap_at (unhide Kb) 1).1
   have q2 := (heap_at (unhide Kb) 2).1
   have q3 := (heap_at (unhide Kb) 3).1
   have OG := (unhide OF).wr (P := fun i => i = w.heap.size + 1 + 1 ∨ i = w.heap.size + 1 + 1 + 1) (w' := ug) ⟨(unhide BD2).os.trans (unhide BF).os.symm, (unhide BD2).tape.trans (unhide BF).tape.symm, (unhide BD2).output.trans (unhide BF).output.symm, unhide ZD2, fun i hi hp => unhide D2 i (fun e => hp (.inl e)) (fun e => hp (.inr e)) hi⟩ (fun i e => by rcases e with e | e <;> omega)
   have RES := hide (show StRes ⟨la, ln, lc⟩ ⟨fa, fn, fc⟩ ⟨sa, sn, sc⟩ hs d (stepV d ⟨1, (i : Int), key, tu, val⟩) w (.returned (.tuple #[.agg #[.int .i64 (d.next + 1), .slice la1 ln1 lc1, .slice fa1 fn1 fc1, .slice (some ⟨g, 0, none⟩) 4 sc1], .agg #[.int .i64 0, .int .i64 d.next, .string ⟨#[]⟩, .slice none 0 0]])) ug from st_own OG (Nat.le_of_lt hz0) (unhide BD2) (unhide ST2))
   clear hHeld LD D0 D1 D2 N2 N3 E3 Ka Kb Kc
   go_wp2_with fail
   refine bodyPost_ret (v := .tuple #[.agg #[.int .i64 (d.next + 1), .slice la1 ln1 lc1, .slice fa1 fn1 fc1, .slice (some ⟨g, 0, none⟩) 4 sc1], .agg #[.int .i64 0, .int .i64 d.next, .string ⟨#[]⟩, .slice none 0 0]]) (by simp [results, Tryz.results36, go_sem, *]) rfl ?_
   exact unhide RES
end Go.Proofs.YtdnjgbckkmbmfaaGreat

namespace Go.Proofs.YtdnjgbckkmbmfaaGreat
open Go.RowKit

theorem getR_snoc (l : List EntD) (e : EntD) (k : ByteArray) (t : Int) : getR (l ++ [e]) k t = if e.k = k then ⟨0, t, e.v, []⟩ else getR l k t := by
 unfold getR
 rw [List.foldl_append]
 rfl
theorem getR_fold (k : ByteArray) (t : Int) : ∀ (l : List EntD) (r : RepD), r.time = t → r.list = [] → (l.foldl (fun r e => if e.k = k then ⟨0, t, e.v, []⟩ else r) r).time = t ∧ (l.foldl (fun r e => if e.k = k then (⟨0, t, e.v, []⟩ : RepD) else r) r).list = []
 | [], r, h1, h2 => ⟨h1, h2⟩
 | e :: l, r, h1, h2 => by
  rw [List.foldl_cons]
  by_cases h : e.k = k
  ·rw [if_pos h]; exact getR_fold k t l _ rfl rfl
  ·rw [if_neg h]; exact getR_fold k t l _ h1 h2
theorem getR_time (l : List EntD) (k : ByteArray) (t : Int) : (getR l k t).time = t ∧ (getR l k t).list = [] := getR_fold k t l _ rfl rfl
end Go.Proofs.YtdnjgbckkmbmfaaGreat

namespace Go.Proofs.YtdnjgbckkmbmfaaGreat
open Go.RowKit

theorem e_app {w : World} {B : Nat} {v : Value} {es : List EntD} {d : EntD} (ho : EOwns w B v es) (hz : es.length ≤ 1000000) (hB : B ≤ w.heap.size) :
  ∃ v' w', (Builtin.append_ #[38, 38] 38 #[v, .slice (some ⟨w.heap.size, 0, none⟩) 1 1]).run Tryz.prog (w.alloc (.cells #[.string d.k, .string d.v] 48)) = .ok v' w' ∧ EOwns w' B v' (es ++ [d]) ∧ (w.alloc (.cells #[.string d.k, .string d.v] 48)).grownBy w' v.ownBlock ∧ (v'.ownBlock = v.ownBlock ∨ ∃ g, v'.ownBlock = some g ∧ (w.alloc (.cells #[.string d.k, .string d.v] 48)).heap.size ≤ g) := by
 obtain ⟨i0, hi0, hz0, hz1, hz2⟩ := info_parts Tryz.infoEntry
 obtain ⟨W, hW⟩ : ∃ W, W = w.alloc (.cells #[.string d.k, .string d.v] 48) := ⟨_, rfl⟩
 have bA : Below w.heap.size w W := by rw [hW]; exact (Below.refl _ _).alloc (Nat.le_refl _) _
 have zW : W.heap.size = w.heap.size + 1 := by rw [hW]; simp
 have hcells : ∀ j u, (ecs [d])[j]? = some u → W.cell? ((⟨w.heap.size, 0, none⟩ : Addr).add j) = some u := fun j u hu => by
  have hj : j < 2 := by simpa [ecs] using (List.getElem?_eq_some_iff.1 hu).1
  have e2 : (⟨w.heap.size, 0, none⟩ : Addr).add j = ⟨w.heap.size, j, none⟩ := by unfold Addr.add; split <;> simp_all
  rw [e2, hW]
  refine rb_cell_new rfl ?_
  match j, hj with
  | 0, _ => simpa [ecs] using hu
  | 1, _ => simpa [ecs] using hu
 have hoa : EOwns W B v es := rb_ownsRow_below ho bA
 rw [← hW]
 obtain ⟨v', w', hrun, ho', hg, _, hl⟩ := app_at (P := Tryz.prog) (w := W) (B := B) 38 38 48 Tryz.underlying38 hi0 hz0 hz1 hz2 rfl (by decide) hoa ⟨w.heap.size, 0, none⟩ 1 1 (ecs [d]) (by simp [ecs]) hcells (ecs_one _) (by unfold maxLen; omega) (by omega) (by omega) (fun _ => by omega)
 refine ⟨v', w', hrun, ?_, hg, ?_⟩
 ·unfold EOwns
  rw [ecs_append, List.length_append]
  exact ho'
 ·rcases hl with h | h
  ·exact .inl h
  ·exact .inr ⟨_, h, Nat.le_refl _⟩
theorem filt_yes {l : List EntD} {f : EntD → Bool} {j : Nat} (h : j < l.length) (hf : f l[j] = true) : (l.take (j + 1)).filter f = (l.take j).filter f ++ [l[j]] := by
 rw [rb_take_snoc l j h, List.filter_append, List.filter_cons_of_pos hf, List.filter_nil]
theorem filt_no {l : List EntD} {f : EntD → Bool} {j : Nat} (h : j < l.length) (hf : f l[j] = false) : (l.take (j + 1)).filter f = (l.take j).filter f := by
 rw [rb_take_snoc l j h, List.filter_append, List.filter_cons_of_neg (by rw [hf]; decide), List.filter_nil, List.append_nil]
theorem eowns_slice {w : World} {B : Nat} {v : Value} {es : List EntD} (h : EOwns w B v es) : ∃ a c, v = .slice a es.length c ∧ (a = none → c = 0) := by
 rcases h.2 with ⟨e, h0⟩ | ⟨g, cap, cur, e, _⟩
 ·exact ⟨none, 0, by rw [e, h0], fun _ => rfl⟩
 ·exact ⟨_, _, e, fun h => by cases h⟩
theorem inK_parts (fr tu k : ByteArray) : inK fr tu k = (!ltK k fr && underK k tu) := rfl
set_option maxHeartbeats 8000000 in
theorem l05Range_any (a : Option Addr) (n c : Nat) (es : List EntD) (fr tu : ByteArray) (w : World) (hR : ERow w a n es) (hn : n ≤ 1000) :
  Calls Tryz.prog 79 #[.slice a n c, .string fr, .string tu] w fun e w' => ∃ a n c, e = .returned (.slice a n c) ∧ EOwns w' w.heap.size (.slice a n c) (es.filter (fun e => inK fr tu e.k)) ∧ Below w.heap.size w w' := by
 have R := hide hR
 have L := hide hR.1
 clear hR
 have OA := hide (nil_lit (w := w) 48 2)
 have bL : Below w.heap.size w (w.alloc (.cells #[] 48)) := (Below.refl _ _).alloc (Nat.le_refl _) _
 go_enter Tryz.func79, Tryz.ntmps79
 go_wp2_with fail
 go_loopw [7, 8] (fun lv iv wr => ∃ (j : Nat) (a : Option Addr) (m k : Nat), j ≤ n ∧ lv = .slice a m k ∧ iv = .int .i64 (j : Int) ∧ Hid (EOwns wr w.heap.size (.slice a m k) ((es.take j).filter (fun e => inK fr tu e.k))) ∧ Below w.heap.size w wr) (fun _ iv _ => n - (intOf iv).toNat)
 case atStart => exact ⟨0, _, _, _, Nat.zero_le _, rfl, rfl, OA, bL⟩
 case round =>
  clear bL OA
  obtain ⟨j, aJ, nJ, kJ, hj, rfl, rfl, hO, hb⟩ := hrel
  by_cases hlt : j < n
  case neg =>
   obtain rfl : j = n := by omega
   have E := hide (show EOwns wr w.heap.size (.slice aJ nJ kJ) (es.filter (fun e => inK fr tu e.k)) by
    have h := unhide hO
    rw [List.take_of_length_le (by rw [unhide L]; exact Nat.le_refl _)] at h
    exact h)
   clear hO
   go_wp2_with fail
   go_ret
   exact ⟨_, _, _, rfl, unhide E, hb⟩
  have hjE : j < es.length := by rw [unhide L]; exact hlt
  obtain ⟨bE, oE, haE, d0, d1⟩ := ((unhide R).below hb).2 j hjE
  subst haE
  have HU := hide (fun u => l04Under_any es[j].k tu u)
  have FY := hide (fun h => filt_yes (f := fun e => inK fr tu e.k) hjE h)
  have FN := hide (fun h => filt_no (f := fun e => inK fr tu e.k) hjE h)
  generalize hej : es[j] = ej at *
  obtain ⟨ek, ev⟩ := ej
  simp only at d0 d1 HU FY FN
  cases h1 : Op.bytesLess ek.toList fr.toList with
  | true =>
   have K := hide (show EOwns wr w.heap.size (.slice aJ nJ kJ) ((es.take (j + 1)).filter (fun e => inK fr tu e.k)) by
    rw [unhide FN (by rw [inK_parts]; unfold ltK; rw [h1]; rfl)]
    exact unhide hO)
   clear hO hej
   go_wp2_with fail
   go_roundw
   case rel => exact ⟨j + 1, aJ, nJ, kJ, by omega, rfl, by go_num, K, hb⟩
   case measure => simp [intOf]; omega
  | false =>
   cases h2 : underK ek tu with
   | false =>
    rw [h2] at HU
    have K := hide (show EOwns wr w.heap.size (.slice aJ nJ kJ) ((es.take (j + 1)).filter (fun e => inK fr tu e.k)) by
     rw [unhide FN (by rw [inK_parts, h2]; simp)]
     exact unhide hO)
    clear hO hej
    go_wp2_with fail
    refine (unhide HU _).mono ?_
    rintro e w3 ⟨rfl, hw3⟩
    subst w3
    clear HU
    go_wp2_with fail
    go_roundw
    case rel => exact ⟨j + 1, aJ, nJ, kJ, by omega, rfl, by go_num, K, hb⟩
    case measure => simp [intOf]; omega
   | true =>
    rw [h2] at HU
    have hacc : ((es.take j).filter (fun e : EntD => inK fr tu e.k)).length ≤ 1000000 := by
     have h3 := List.length_filter_le (fun e : EntD => inK fr tu e.k) (es.take j)
     rw [List.length_take] at h3
     omega
    obtain ⟨v2, w4, hr, ho, hgr, _⟩ := e_app (d := ⟨ek, ev⟩) (unhide hO) hacc hb.size
    have bA : Below wr.heap.size wr (wr.alloc (.cells #[.string ek, .string ev] 48)) := (Below.refl _ _).alloc (Nat.le_refl _) _
    have b4 : Below w.heap.size w w4 := by
     have b3 := hb.trans (bA.mono hb.size)
     exact b3.trans ((Below.refl _ _).grown hgr b3.size (fun k hk => ((unhide hO).lt k hk).1))
    simp only at hr
    rw [← unhide FY (by rw [inK_parts, h2]; unfold ltK; rw [h1]; rfl)] at ho
    obtain ⟨aV, cV, hV, _⟩ := eowns_slice ho
    have O4 := hide ho
    generalize ((es.take (j + 1)).filter (fun e : EntD => inK fr tu e.k)).length = nV at *
    subst hV
    clear hO hgr ho bA hej hacc
    go_wp2_with fail
    refine (unhide HU _).mono ?_
    rintro e w3 ⟨rfl, hw3⟩
    subst w3
    clear HU
    go_wp2_with (at_builtin; refine wpAppE rfl _ _ 38 rfl _ _ (.slice aV nV cV) w4 rfl rfl hr ?_)
    go_roundw
    case rel => exact ⟨j + 1, aV, nV, cV, by omega, rfl, by go_num, O4, b4⟩
    case measure => simp [intOf]; omega
end Go.Proofs.YtdnjgbckkmbmfaaGreat

namespace Go.Proofs.YtdnjgbckkmbmfaaGreat
open Go.RowKit

set_option maxHeartbeats 8000000 in
theorem l06Step_2 (d : VsD) (i : Nat) (key tu val : ByteArray) (l f s : Sl) (hs : List SeH) (w : World) (hI : VzIn w l f s hs d) (hS : SmV d) (hi : i < 4) :
  Calls Tryz.prog 36 #[.agg (vzC d.next l f s), .agg #[.int .i64 2, .int .i64 (i : Int), .string key, .string tu, .string val]] w fun e w' => StRes l f s hs d (stepV d ⟨2, (i : Int), key, tu, val⟩) w e w' := by
 have hz := allocC_size [(vzC d.next l f s, 29), (#[.int .i64 2, .int .i64 (i : Int), .string key, .string tu, .string val], 37), (#[.int .i64 0, .slice none 0 0, .slice none 0 0, .slice none 0 0], 29), (#[.int .i64 0, .int .i64 0, .string ⟨#[]⟩, .slice none 0 0], 40)] w
 have b1 := allocC_bel [(vzC d.next l f s, 29), (#[.int .i64 2, .int .i64 (i : Int), .string key, .string tu, .string val], 37), (#[.int .i64 0, .slice none 0 0, .slice none 0 0, .slice none 0 0], 29), (#[.int .i64 0, .int .i64 0, .string ⟨#[]⟩, .slice none 0 0], 40)] w
 have AT := allocC_at [(vzC d.next l f s, 29), (#[.int .i64 2, .int .i64 (i : Int), .string key, .string tu, .string val], 37), (#[.int .i64 0, .slice none 0 0, .slice none 0 0, .slice none 0 0], 29), (#[.int .i64 0, .int .i64 0, .string ⟨#[]⟩, .slice none 0 0], 40)] w
 obtain ⟨W, hW⟩ : ∃ W, W = allocC w [(vzC d.next l f s, 29), (#[.int .i64 2, .int .i64 (i : Int), .string key, .string tu, .string val], 37), (#[.int .i64 0, .slice none 0 0, .slice none 0 0, .slice none 0 0], 29), (#[.int .i64 0, .int .i64 0, .string ⟨#[]⟩, .slice none 0 0], 40)] := ⟨_, rfl⟩
 rw [← hW] at hz b1 AT
 simp only [List.length_cons, List.length_nil] at hz
 have k0 : W.heap[w.heap.size]? = some (.cells (vzC d.next l f s) 29 (0, 0)) := AT 0 _ _ rfl
 have k1 : W.heap[w.heap.size + 1]? = some (.cells #[.int .i64 2, .int .i64 (i : Int), .string key, .string tu, .string val] 37 (0, 0)) := AT 1 _ _ rfl
 have k2 : W.heap[w.heap.size + 1 + 1]? = some (.cells #[.int .i64 0, .slice none 0 0, .slice none 0 0, .slice none 0 0] 29 (0, 0)) := AT 2 _ _ rfl
 have k3 : W.heap[w.heap.size + 1 + 1 + 1]? = some (.cells #[.int .i64 0, .int .i64 0, .string ⟨#[]⟩, .slice none 0 0] 40 (0, 0)) := AT 3 _ _ rfl
 have hz0 : w.heap.size < W.heap.size := by omega
 have hz1 : w.heap.size + 1 < W.heap.size := by omega
 have hz2 : w.heap.size + 1 + 1 < W.heap.size := by omega
 have hz3 : w.heap.size + 1 + 1 + 1 < W.heap.size := by omega
 unfold allocC allocC allocC allocC allocC at hW
 have CO := hide (l06Own_any d l f s hs W (hI.below b1) (by have := hI.vr.1; have := hS.list; omega) (by have := hI.fr.1; have := hS.fen; omega) (by have := hI.len; have := hS.ses; omega) (fun h hh => by
  obtain ⟨k, hk, rfl⟩ := List.getElem_of_mem hh
  obtain ⟨hd, he⟩ := hI.at hk
  have h1 := (SeIn.row hI.sr hk).1
  have h2 := hS.ws d.ses[k] (List.getElem_mem hd)
  rw [← he] at h2
  omega))
 have BH := hide b1
 have HI := hide hI
 have HS := hide hS
 obtain ⟨la, ln, lc⟩ := l
 obtain ⟨fa, fn, fc⟩ := f
 obtain ⟨sa, sn, sc⟩ := s
 unfold vzC at k0 hW CO ⊢
 simp only at k0 hW CO ⊢
 have K0 := hide k0
 have K1 := hide k1
 have K2 := hide k2
 have K3 := hide k3
 have hnx := hS.nx
 have hi0 : decide ((0 : Int) ≤ (i : Int)) = true := decide_eq_true (by omega)
 have hi3 : decide ((i : Int) ≤ 3) = true := decide_eq_true (by omega)
 have a0 := (heap_at k1 0).1
 have a1 := (heap_at k1 1).1
 have v0 := (heap_at k0 0).1
 have v1 := (heap_at k0 1).1
 have v2 := (heap_at k0 2).1
 have v3 := (heap_at k0 3).1
 clear hI hS hz b1 AT k0 k1 k2 k3
 go_enter Tryz.func36, Tryz.ntmps36
 go_wp2_with (go_at_call 75; refine (l01In_any _ _ _ _).mono ?_; rintro e w9 ⟨rfl, rfl⟩)
 rw [← hW]
 clear hW
 refine (unhide CO).mono ?_
 rintro e w1 ⟨⟨la1, ln1, lc1⟩, ⟨fa1, fn1, fc1⟩, ⟨sa1, sn1, sc1⟩, hs1, rfl, hO, hb1⟩
 clear a0 a1 v0 v1 v2 v3 hi0 hi3 CO
 have hl4 : hs1.length = 4 := by rw [hO.reads.len.2]; exact (unhide HS).ses
 have hih : i < hs1.length := by omega
 obtain ⟨g, hsa, hsn, hgB, hgw, c0, c1, c2, hwo, hid, hxd⟩ := hO.sesAt hih
 simp only at hsa hsn
 rw [hl4] at hsn
 subst hsa hsn
 unfold vzC
 simp only
 have STP := hide (show stepV d ⟨2, (i : Int), key, tu, val⟩ = sesV d ⟨2, (i : Int), key, tu, val⟩ i hs1[i].X by
  unfold stepV
  rw [if_neg (by simp), if_neg (by simp only; omega), hxd]
  congr 1
  rw [show ((i : Nat) : Int).toNat = i by omega, List.getD_eq_getElem?_getD, List.getElem?_eq_getElem hid]
  rfl)
 have XL := hide (show hs1[i].X.ws.length ≤ 8 by rw [hxd]; exact (unhide HS).ws _ (List.getElem_mem hid))
 have SX := hide hxd
 clear hxd
 generalize hx1 : hs1[i] = x at *
 have HX := hide hx1
 clear hx1
 obtain ⟨⟨o, t, wl⟩, ⟨wa, wn, wc⟩⟩ := x
 simp only at c0 c1 c2 hwo STP XL
 have bA : Below w1.heap.size w1 ((w1.alloc (.cells #[.int .i64 d.next, .slice la1 ln1 lc1, .slice fa1 fn1 fc1, .slice (some ⟨g, 0, none⟩) 4 sc1] 29)).alloc (.cells #[.bool o, .int .i64 t, .slice wa wn wc] 55)) := ((Below.refl _ _).alloc (Nat.le_refl _) _).alloc (by simp) _
 obtain ⟨-, k6, k7, z7⟩ := twoBx (w := w1) (c1 := #[.int .i64 d.next, .slice la1 ln1 lc1, .slice fa1 fn1 fc1, .slice (some ⟨g, 0, none⟩) 4 sc1]) (t1 := 29) (c2 := #[.bool o, .int .i64 t, .slice wa wn wc]) (t2 := 55) rfl
 have hW1 := hb1.size
 have NBS := hide (fun q hq => (hO.so.lt q hq).2)
 have NBV := hide (fun q hq => (hO.vo.lt q hq).2)
 have NBF := hide (fun q hq => (hO.fo.lt q hq).2)
 have OU := hide (hO.below bA)
 have BU := hide (hb1.trans (bA.mono hW1))
 have OX := hide (rb_ownsRow_below hwo bA)
 have K6 := hide k6
 have K7 := hide k7
 have hb6 : W.heap.size ≤ w1.heap.size := hW1
 have a1 : (w1.alloc (.cells #[.int .i64 d.next, .slice la1 ln1 lc1, .slice fa1 fn1 fc1, .slice (some ⟨g, 0, none⟩) 4 sc1] 29)).cell? ⟨w.heap.size + 1, 1, none⟩ = some (.int .i64 (i : Int)) := (((Below.refl w1.heap.size w1).alloc (Nat.le_refl _) (.cells #[.int .i64 d.next, .slice la1 ln1 lc1, .slice fa1 fn1 fc1, .slice (some ⟨g, 0, none⟩) 4 sc1] 29)).cell (p := ⟨w.heap.size + 1, 1, none⟩) (by show w.heap.size + 1 < w1.heap.size; omega)).trans ((heap_at ((hb1.block (w.heap.size + 1) hz1).trans (unhide K1)) 1).1)
 have d0 := (((Below.refl w1.heap.size w1).alloc (Nat.le_refl _) (.cells #[.int .i64 d.next, .slice la1 ln1 lc1, .slice fa1 fn1 fc1, .slice (some ⟨g, 0, none⟩) 4 sc1] 29)).cell (p := ⟨g, i * 3, none⟩) hgw).trans c0
 have d1 := (((Below.refl w1.heap.size w1).alloc (Nat.le_refl _) (.cells #[.int .i64 d.next, .slice la1 ln1 lc1, .slice fa1 fn1 fc1, .slice (some ⟨g, 0, none⟩) 4 sc1] 29)).cell (p := ⟨g, i * 3 + 1, none⟩) hgw).trans c1
 have d2 := (((Below.refl w1.heap.size w1).alloc (Nat.le_refl _) (.cells #[.int .i64 d.next, .slice la1 ln1 lc1, .slice fa1 fn1 fc1, .slice (some ⟨g, 0, none⟩) 4 sc1] 29)).cell (p := ⟨g, i * 3 + 2, none⟩) hgw).trans c2
 have hin : (i : Int) < 4 := by omega
 clear hO hwo bA k6 k7 c0 c1 c2 hb1 z7
 go_upto_region 7 with fail
 clear d0 d1 d2 a1 hin
 generalize (w1.alloc (.cells #[.int .i64 d.next, .slice la1 ln1 lc1, .slice fa1 fn1 fc1, .slice (some ⟨g, 0, none⟩) 4 sc1] 29)).alloc (.cells #[.bool o, .int .i64 t, .slice wa wn wc] 55) = u at *
 generalize hb6e : w1.heap.size = b6 at *
 clear hb6e
 cases o with
 | false =>
  have kv := ((unhide BU).block w.heap.size hz0).trans (unhide K0)
  have v0 := (heap_at kv 0).1
  have v1 := (heap_at kv 1).1
  have v2 := (heap_at kv 2).1
  have v3 := (heap_at kv 3).1
  have ka := ((unhide BU).block (w.heap.size + 1) hz1).trans (unhide K1)
  have a0 := (heap_at ka 0).1
  have a1 := (heap_at ka 1).1
  have a2 := (heap_at ka 2).1
  have a3 := (heap_at ka 3).1
  have a4 := (heap_at ka 4).1
  have ky := ((unhide BU).block (w.heap.size + 1 + 1) hz2).trans (unhide K2)
  have y0 := (heap_at ky 0).1
  have y1 := (heap_at ky 1).1
  have y2 := (heap_at ky 2).1
  have y3 := (heap_at ky 3).1
  have yf0 := (heap_at ky 0).2
  have yf1 := (heap_at ky 1).2
  have yf2 := (heap_at ky 2).2
  have yf3 := (heap_at ky 3).2
  have kt := ((unhide BU).block (w.heap.size + 1 + 1 + 1) hz3).trans (unhide K3)
  have t0 := (heap_at kt 0).1
  have t1 := (heap_at kt 1).1
  have t2 := (heap_at kt 2).1
  have t3 := (heap_at kt 3).1
  have tf0 := (heap_at kt 0).2
  have tf1 := (heap_at kt 1).2
  have tf2 := (heap_at kt 2).2
  have tf3 := (heap_at kt 3).2
  have x0 := (heap_at (unhide K7) 0).1
  have RES := hide (show StRes ⟨la, ln, lc⟩ ⟨fa, fn, fc⟩ ⟨sa, sn, sc⟩ hs d (stepV d ⟨2, (i : Int), key, tu, val⟩) w (.returned (.tuple #[.agg #[.int .i64 d.next, .slice la ln lc, .slice fa fn fc, .slice sa sn sc], .agg #[.int .i64 10, .int .i64 0, .string ⟨#[]⟩, .slice none 0 0]])) ((((((((u.setCell ⟨w.heap.size + 1 + 1, 0, none⟩ (.int .i64 d.next)).setCell ⟨w.heap.size + 1 + 1, 1, none⟩ (.slice la ln lc)).setCell ⟨w.heap.size + 1 + 1, 2, none⟩ (.slice fa fn fc)).setCell ⟨w.heap.size + 1 + 1, 3, none⟩ (.slice sa sn sc)).setCell ⟨w.heap.size + 1 + 1 + 1, 0, none⟩ (.int .i64 10)).setCell ⟨w.heap.size + 1 + 1 + 1, 1, none⟩ (.int .i64 0)).setCell ⟨w.heap.size + 1 + 1 + 1, 2, none⟩ (.string ⟨#[]⟩)).setCell ⟨w.heap.size + 1 + 1 + 1, 3, none⟩ (.slice none 0 0)) from st_old (unhide HI) (bel_sv4 (bel_sv4 ((unhide BH).trans ((unhide BU).mono (unhide BH).size)) (by omega) _ _ _ _) (by omega) _ _ _ _) (by rw [unhide STP]; unfold sesV; rw [if_neg (by simp), if_pos rfl]))
  go_wp2_with fail
  refine bodyPost_ret (v := .tuple #[.agg #[.int .i64 d.next, .slice la ln lc, .slice fa fn fc, .slice sa sn sc], .agg #[.int .i64 10, .int .i64 0, .string ⟨#[]⟩, .slice none 0 0]]) (by simp [results, Tryz.results36, go_sem, *]) rfl ?_
  exact unhide RES
 | true =>
  have x0 := (heap_at (unhide K7) 0).1
  have x1 := (heap_at (unhide K7) 1).1
  have ka := ((unhide BU).block (w.heap.size + 1) hz1).trans (unhide K1)
  have a0 := (heap_at ka 0).1
  have bR : Below u.heap.size u (u.alloc (.cells #[.int .i64 0, .int .i64 t, .string ⟨#[]⟩, .slice none 0 0] 40)) := (Below.refl _ _).alloc (Nat.le_refl _) _
  have k8 := heap_alloc_new u (.cells #[.int .i64 0, .int .i64 t, .string ⟨#[]⟩, .slice none 0 0] 40)
  have OR := hide ((unhide OU).below bR)
  have BR := hide ((unhide BU).trans (bR.mono (unhide BU).size))
  have XR := hide (rb_ownsRow_below (unhide OX) bR)
  have K6R := hide ((bR.block b6 (blk_lt (unhide K6))).trans (unhide K6))
  have K7R := hide ((bR.block (b6 + 1) (blk_lt (unhide K7))).trans (unhide K7))
  have K8 := hide k8
  have h78 : b6 + 1 < u.heap.size := blk_lt (unhide K7)
  clear OU BU OX K6 K7 k8 bR ka
  go_upto_region 18 with fail
  clear x0 x1 a0
  generalize u.alloc (.cells #[.int .i64 0, .int .i64 t, .string ⟨#[]⟩, .slice none 0 0] 40) = ur at *
  generalize hb8e : u.heap.size = b8 at *
  clear hb8e
  have ka := ((unhide BR).block (w.heap.size + 1) hz1).trans (unhide K1)
  have a0 := (heap_at ka 0).1
  have a1 := (heap_at ka 1).1
  have a2 := (heap_at ka 2).1
  have a3 := (heap_at ka 3).1
  have a4 := (heap_at ka 4).1
  have CK := hide (fun u => l04Key_any key u)
  have FIT := hide (show fitA ⟨2, (i : Int), key, tu, val⟩ = (keyK key && valK val) by unfold fitA; rw [if_pos (by simp)])
  have STB := hide (show fitA ⟨2, (i : Int), key, tu, val⟩ = false → stepV d ⟨2, (i : Int), key, tu, val⟩ = (d, repV 11 t) from fun h => by rw [unhide STP]; unfold sesV; rw [if_neg (by simp), if_neg (by simp), if_pos h])
  generalize hkk : keyK key = kk at *
  by_cases hok : kk = true ∧ val.size ≤ 100
  case neg =>
   have ST2 := hide (unhide STB (by
    rw [unhide FIT]
    cases kk
    ·rfl
    ·unfold valK
     rw [decide_eq_false (fun h => hok ⟨rfl, h⟩)]
     rfl))
   clear STB FIT hkk
   cases kk with
   | false =>
    clear hok
    have kvv := ((unhide BR).block w.heap.size hz0).trans (unhide K0)
    have v0 := (heap_at kvv 0).1
    have v1 := (heap_at kvv 1).1
    have v2 := (heap_at kvv 2).1
    have v3 := (heap_at kvv 3).1
    have k7x := (heap_at (unhide K7R) 1).1
    have N2 := hide (((unhide BR).block (w.heap.size + 1 + 1) hz2).trans (unhide K2))
    have N3 := hide (((unhide BR).block (w.heap.size + 1 + 1 + 1) hz3).trans (unhide K3))
    have BF := hide ((unhide BH).trans ((unhide BR).mono (unhide BH).size))
    have h70 : b6 + 1 < ur.heap.size := blk_lt (unhide K7R)
    have h6W : W.heap.size ≤ ur.heap.size := (unhide BR).size
    have LD := hide (show ∀ v : World, (∀ i, i ≠ w.heap.size + 1 + 1 → i ≠ w.heap.size + 1 + 1 + 1 → i < ur.heap.size → v.heap[i]? = ur.heap[i]?) → (fun u => u.cell? ⟨w.heap.size, 0, none⟩ = some (.int .i64 d.next) ∧ u.cell? ⟨w.heap.size, 1, none⟩ = some (.slice la ln lc) ∧ u.cell? ⟨w.heap.size, 2, none⟩ = some (.slice fa fn fc) ∧ u.cell? ⟨w.heap.size, 3, none⟩ = some (.slice sa sn sc) ∧ u.cell? ⟨b6 + 1, 1, none⟩ = some (.int .i64 t)) v from fun v hv => ⟨(World.cell?_of_block (a := ⟨w.heap.size, 0, none⟩) (hv w.heap.size (by omega) (by omega) (by omega))).trans v0, (World.cell?_of_block (a := ⟨w.heap.size, 1, none⟩) (hv w.heap.size (by omega) (by omega) (by omega))).trans v1, (World.cell?_of_block (a := ⟨w.heap.size, 2, none⟩) (hv w.heap.size (by omega) (by omega) (by omega))).trans v2, (World.cell?_of_block (a := ⟨w.heap.size, 3, none⟩) (hv w.heap.size (by omega) (by omega) (by omega))).trans v3, (World.cell?_of_block (a := ⟨b6 + 1, 1, none⟩) (hv (b6 + 1) (by omega) (by omega) h70)).trans k7x⟩)
    clear v0 v1 v2 v3 k7x kvv
    have D0 := hide (show ∀ i, i ≠ w.heap.size + 1 + 1 → i ≠ w.heap.size + 1 + 1 + 1 → i < ur.heap.size → ur.drew.heap[i]? = ur.heap[i]? from fun _ _ _ _ => rfl)
    have ZD0 := hide (show ur.heap.size ≤ ur.drew.heap.size from Nat.le_refl _)
    have BD0 := hide (show Below w.heap.size w ur.drew from (unhide BF).drew)
    replace N2 := hide (show ur.drew.heap[w.heap.size + 1 + 1]? = _ from unhide N2)
    replace N3 := hide (show ur.drew.heap[w.heap.size + 1 + 1 + 1]? = _ from unhide N3)
    go_upto_region 23 with (go_at_call 76; refine (unhide CK _).mono ?_; rintro e w9 ⟨rfl, hw9⟩; subst w9)
    clear a0 a1 a2 a3 a4 CK
    refine wp_region_held_drew (S := (fun u => u.cell? ⟨w.heap.size, 0, none⟩ = some (.int .i64 d.next) ∧ u.cell? ⟨w.heap.size, 1, none⟩ = some (.slice la ln lc) ∧ u.cell? ⟨w.heap.size, 2, none⟩ = some (.slice fa fn fc) ∧ u.cell? ⟨w.heap.size, 3, none⟩ = some (.slice sa sn sc) ∧ u.cell? ⟨b6 + 1, 1, none⟩ = some (.int .i64 t))) (by kernel_rfl) (unhide LD _ (unhide D0)) (fun hHeld => ?_)
    generalize ur.drew = ud at *
    refine tk 0 87 rfl rfl hHeld ?_
    simp only [Act.put, lA, lB, lC]
    refine tk 1 88 rfl rfl hHeld ?_
    simp only [Act.put, lA, lB, lC]
    refine tk 2 89 rfl rfl hHeld ?_
    simp only [Act.put, lA, lB, lC]
    refine tk 3 90 rfl rfl hHeld ?_
    simp only [Act.put, lA, lB, lC]
    refine rd [4] (.cons rfl (fun K hK => ?_) .nil)
    have c0 := (heap_at (unhide N2) 0).1
    have c1 := (heap_at (unhide N2) 1).1
    have c2 := (heap_at (unhide N2) 2).1
    have c3 := (heap_at (unhide N2) 3).1
    have cf0 := (heap_at (unhide N2) 0).2
    have cf1 := (heap_at (unhide N2) 1).2
    have cf2 := (heap_at (unhide N2) 2).2
    have cf3 := (heap_at (unhide N2) 3).2
    have hw : WrB (fun i => i = w.heap.size + 1 + 1) ud ((((ud.setCell ⟨w.heap.size + 1 + 1, 0, none⟩ (.int .i64 d.next)).setCell ⟨w.heap.size + 1 + 1, 1, none⟩ (.slice la ln lc)).setCell ⟨w.heap.size + 1 + 1, 2, none⟩ (.slice fa fn fc)).setCell ⟨w.heap.size + 1 + 1, 3, none⟩ (.slice sa sn sc)) := sv4_wr ud (w.heap.size + 1 + 1) (.int .i64 d.next) (.slice la ln lc) (.slice fa fn fc) (.slice sa sn sc)
    have D1 := hide (show ∀ i, i ≠ w.heap.size + 1 + 1 → i ≠ w.heap.size + 1 + 1 + 1 → i < ur.heap.size → ((((ud.setCell ⟨w.heap.size + 1 + 1, 0, none⟩ (.int .i64 d.next)).setCell ⟨w.heap.size + 1 + 1, 1, none⟩ (.slice la ln lc)).setCell ⟨w.heap.size + 1 + 1, 2, none⟩ (.slice fa fn fc)).setCell ⟨w.heap.size + 1 + 1, 3, none⟩ (.slice sa sn sc)).heap[i]? = ur.heap[i]? from fun i h1 h2 h3 => (hw.block i (Nat.lt_of_lt_of_le h3 (unhide ZD0)) (by first | exact h1 | exact h2)).trans (unhide D0 i h1 h2 h3))
    have ZD1 := hide (show ur.heap.size ≤ ((((ud.setCell ⟨w.heap.size + 1 + 1, 0, none⟩ (.int .i64 d.next)).setCell ⟨w.heap.size + 1 + 1, 1, none⟩ (.slice la ln lc)).setCell ⟨w.heap.size + 1 + 1, 2, none⟩ (.slice fa fn fc)).setCell ⟨w.heap.size + 1 + 1, 3, none⟩ (.slice sa sn sc)).heap.size from Nat.le_trans (unhide ZD0) hw.size)
    have Ka := hide (show ((((ud.setCell ⟨w.heap.size + 1 + 1, 0, none⟩ (.int .i64 d.next)).setCell ⟨w.heap.size + 1 + 1, 1, none⟩ (.slice la ln lc)).setCell ⟨w.heap.size + 1 + 1, 2, none⟩ (.slice fa fn fc)).setCell ⟨w.heap.size + 1 + 1, 3, none⟩ (.slice sa sn sc)).heap[w.heap.size + 1 + 1]? = some (.cells #[.int .i64 d.next, .slice la ln lc, .slice fa fn fc, .slice sa sn sc] 29 (0, 0)) from sv4_heap (unhide N2) (.int .i64 d.next) (.slice la ln lc) (.slice fa fn fc) (.slice sa sn sc))
    have BD1 := hide (show Below w.heap.size w ((((ud.setCell ⟨w.heap.size + 1 + 1, 0, none⟩ (.int .i64 d.next)).setCell ⟨w.heap.size + 1 + 1, 1, none⟩ (.slice la ln lc)).setCell ⟨w.heap.size + 1 + 1, 2, none⟩ (.slice fa fn fc)).setCell ⟨w.heap.size + 1 + 1, 3, none⟩ (.slice sa sn sc)) from bel_sv4 (unhide BD0) (by omega) (.int .i64 d.next) (.slice la ln lc) (.slice fa fn fc) (.slice sa sn sc))
    have E3 := hide ((hw.block (w.heap.size + 1 + 1 + 1) (blk_lt (unhide N3)) (by omega)).trans (unhide N3))
    clear hw
    go_simp
    refine hK.out _ _ (unhide LD _ (unhide D1)) (fun hHeld => ?_)
    clear hK K
    clear c0 c1 c2 c3 cf0 cf1 cf2 cf3
    generalize ((((ud.setCell ⟨w.heap.size + 1 + 1, 0, none⟩ (.int .i64 d.next)).setCell ⟨w.heap.size + 1 + 1, 1, none⟩ (.slice la ln lc)).setCell ⟨w.heap.size + 1 + 1, 2, none⟩ (.slice fa fn fc)).setCell ⟨w.heap.size + 1 + 1, 3, none⟩ (.slice sa sn sc)) = ue at *
    refine rd [5] (.cons rfl (fun K hK => ?_) .nil)
    have c0 := (heap_at (unhide E3) 0).1
    have c1 := (heap_at (unhide E3) 1).1
    have c2 := (heap_at (unhide E3) 2).1
    have c3 := (heap_at (unhide E3) 3).1
    have cf0 := (heap_at (unhide E3) 0).2
    have cf1 := (heap_at (unhide E3) 1).2
    have cf2 := (heap_at (unhide E3) 2).2
    have cf3 := (heap_at (unhide E3) 3).2
    have hw : WrB (fun i => i = w.heap.size + 1 + 1 + 1) ue ((((ue.setCell ⟨w.heap.size + 1 + 1 + 1, 0, none⟩ (.int .i64 11)).setCell ⟨w.heap.size + 1 + 1 + 1, 1, none⟩ (.int .i64 t)).setCell ⟨w.heap.size + 1 + 1 + 1, 2, none⟩ (.string ⟨#[]⟩)).setCell ⟨w.heap.size + 1 + 1 + 1, 3, none⟩ (.slice none 0 0)) := sv4_wr ue (w.heap.size + 1 + 1 + 1) (.int .i64 11) (.int .i64 t) (.string ⟨#[]⟩) (.slice none 0 0)
    have D2 := hide (show ∀ i, i ≠ w.heap.size + 1 + 1 → i ≠ w.heap.size + 1 + 1 + 1 → i < ur.heap.size → ((((ue.setCell ⟨w.heap.size + 1 + 1 + 1, 0, none⟩ (.int .i64 11)).setCell ⟨w.heap.size + 1 + 1 + 1, 1, none⟩ (.int .i64 t)).setCell ⟨w.heap.size + 1 + 1 + 1, 2, none⟩ (.string ⟨#[]⟩)).setCell ⟨w.heap.size + 1 + 1 + 1, 3, none⟩ (.slice none 0 0)).heap[i]? = ur.heap[i]? from fun i h1 h2 h3 => (hw.block i (Nat.lt_of_lt_of_le h3 (unhide ZD1)) (by first | exact h1 | exact h2)).trans (unhide D1 i h1 h2 h3))
    have ZD2 := hide (show ur.heap.size ≤ ((((ue.setCell ⟨w.heap.size + 1 + 1 + 1, 0, none⟩ (.int .i64 11)).setCell ⟨w.heap.size + 1 + 1 + 1, 1, none⟩ (.int .i64 t)).setCell ⟨w.heap.size + 1 + 1 + 1, 2, none⟩ (.string ⟨#[]⟩)).setCell ⟨w.heap.size + 1 + 1 + 1, 3, none⟩ (.slice none 0 0)).heap.size from Nat.le_trans (unhide ZD1) hw.size)
    have Kb := hide (show ((((ue.setCell ⟨w.heap.size + 1 + 1 + 1, 0, none⟩ (.int .i64 11)).setCell ⟨w.heap.size + 1 + 1 + 1, 1, none⟩ (.int .i64 t)).setCell ⟨w.heap.size + 1 + 1 + 1, 2, none⟩ (.string ⟨#[]⟩)).setCell ⟨w.heap.size + 1 + 1 + 1, 3, none⟩ (.slice none 0 0)).heap[w.heap.size + 1 + 1 + 1]? = some (.cells #[.int .i64 11, .int .i64 t, .string ⟨#[]⟩, .slice none 0 0] 40 (0, 0)) from sv4_heap (unhide E3) (.int .i64 11) (.int .i64 t) (.string ⟨#[]⟩) (.slice none 0 0))
    have BD2 := hide (show Below w.heap.size w ((((ue.setCell ⟨w.heap.size + 1 + 1 + 1, 0, none⟩ (.int .i64 11)).setCell ⟨w.heap.size + 1 + 1 + 1, 1, none⟩ (.int .i64 t)).setCell ⟨w.heap.size + 1 + 1 + 1, 2, none⟩ (.string ⟨#[]⟩)).setCell ⟨w.heap.size + 1 + 1 + 1, 3, none⟩ (.slice none 0 0)) from bel_sv4 (unhide BD1) (by omega) (.int .i64 11) (.int .i64 t) (.string ⟨#[]⟩) (.slice none 0 0))
    have Kc := hide ((hw.block (w.heap.size + 1 + 1) (blk_lt (unhide Ka)) (by omega)).trans (unhide Ka))
    clear hw
    go_simp
    refine hK.out _ _ (unhide LD _ (unhide D2)) (fun hHeld => ?_)
    clear hK K
    clear c0 c1 c2 c3 cf0 cf1 cf2 cf3
    generalize ((((ue.setCell ⟨w.heap.size + 1 + 1 + 1, 0, none⟩ (.int .i64 11)).setCell ⟨w.heap.size + 1 + 1 + 1, 1, none⟩ (.int .i64 t)).setCell ⟨w.heap.size + 1 + 1 + 1, 2, none⟩ (.string ⟨#[]⟩)).setCell ⟨w.heap.size + 1 + 1 + 1, 3, none⟩ (.slice none 0 0)) = ug at *
    refine wpAnyH_done (by kernel_rfl) ?_ _
    have r0 := (heap_at (unhide Kc) 0).1
    have r1 := (heap_at (unhide Kc) 1).1
    have r2 := (heap_at (unhide Kc) 2).1
    have r3 := (heap_at (unhide Kc) 3).1
    have q0 := (heap_at (unhide Kb) 0).1
    have q1 := (heap_at (unhide Kb) 1).1
    have q2 := (heap_at (unhide Kb) 2).1
    have q3 := (heap_at (unhide Kb) 3).1
    have RES := hide (show StRes ⟨la, ln, lc⟩ ⟨fa, fn, fc⟩ ⟨sa, sn, sc⟩ hs d (stepV d ⟨2, (i : Int), key, tu, val⟩) w (.returned (.tuple #[.agg #[.int .i64 d.next, .slice la ln lc, .slice fa fn fc, .slice sa sn sc], .agg #[.int .i64 11, .int .i64 t, .string ⟨#[]⟩, .slice none 0 0]])) ug from st_old (unhide HI) (unhide BD2) (unhide ST2))
    clear hHeld LD D0 D1 D2 N2 N3 E3 Ka Kb Kc
    go_wp2_with fail
    refine bodyPost_ret (v := .tuple #[.agg #[.int .i64 d.next, .slice la ln lc, .slice fa fn fc, .slice sa sn sc], .agg #[.int .i64 11, .int .i64 t, .string ⟨#[]⟩, .slice none 0 0]]) (by simp [results, Tryz.results36, go_sem, *]) rfl ?_
    exact unhide RES
   | true =>
    have hvs : ¬ (val.size : Int) ≤ 100 := fun h => hok ⟨rfl, by omega⟩
    have hvd : decide ((100 : Int) < (val.size : Int)) = true := decide_eq_true (by omega)
    have hvn : (100 : Int) < (val.size : Int) := by omega
    clear hok
    have kvv := ((unhide BR).block w.heap.size hz0).trans (unhide K0)
    have v0 := (heap_at kvv 0).1
    have v1 := (heap_at kvv 1).1
    have v2 := (heap_at kvv 2).1
    have v3 := (heap_at kvv 3).1
    have k7x := (heap_at (unhide K7R) 1).1
    have N2 := hide (((unhide BR).block (w.heap.size + 1 + 1) hz2).trans (unhide K2))
    have N3 := hide (((unhide BR).block (w.heap.size + 1 + 1 + 1) hz3).trans (unhide K3))
    have BF := hide ((unhide BH).trans ((unhide BR).mono (unhide BH).size))
    have h70 : b6 + 1 < ur.heap.size := blk_lt (unhide K7R)
    have h6W : W.heap.size ≤ ur.heap.size := (unhide BR).size
    have LD := hide (show ∀ v : World, (∀ i, i ≠ w.heap.size + 1 + 1 → i ≠ w.heap.size + 1 + 1 + 1 → i < ur.heap.size → v.heap[i]? = ur.heap[i]?) → (fun u => u.cell? ⟨w.heap.size, 0, none⟩ = some (.int .i64 d.next) ∧ u.cell? ⟨w.heap.size, 1, none⟩ = some (.slice la ln lc) ∧ u.cell? ⟨w.heap.size, 2, none⟩ = some (.slice fa fn fc) ∧ u.cell? ⟨w.heap.size, 3, none⟩ = some (.slice sa sn sc) ∧ u.cell? ⟨b6 + 1, 1, none⟩ = some (.int .i64 t)) v from fun v hv => ⟨(World.cell?_of_block (a := ⟨w.heap.size, 0, none⟩) (hv w.heap.size (by omega) (by omega) (by omega))).trans v0, (World.cell?_of_block (a := ⟨w.heap.size, 1, none⟩) (hv w.heap.size (by omega) (by omega) (by omega))).trans v1, (World.cell?_of_block (a := ⟨w.heap.size, 2, none⟩) (hv w.heap.size (by omega) (by omega) (by omega))).trans v2, (World.cell?_of_block (a := ⟨w.heap.size, 3, none⟩) (hv w.heap.size (by omega) (by omega) (by omega))).trans v3, (World.cell?_of_block (a := ⟨b6 + 1, 1, none⟩) (hv (b6 + 1) (by omega) (by omega) h70)).trans k7x⟩)
    clear v0 v1 v2 v3 k7x kvv
    have D0 := hide (show ∀ i, i ≠ w.heap.size + 1 + 1 → i ≠ w.heap.size + 1 + 1 + 1 → i < ur.heap.size → ur.drew.heap[i]? = ur.heap[i]? from fun _ _ _ _ => rfl)
    have ZD0 := hide (show ur.heap.size ≤ ur.drew.heap.size from Nat.le_refl _)
    have BD0 := hide (show Below w.heap.size w ur.drew from (unhide BF).drew)
    replace N2 := hide (show ur.drew.heap[w.heap.size + 1 + 1]? = _ from unhide N2)
    replace N3 := hide (show ur.drew.heap[w.heap.size + 1 + 1 + 1]? = _ from unhide N3)
    go_upto_region 23 with (go_at_call 76; refine (unhide CK _).mono ?_; rintro e w9 ⟨rfl, hw9⟩; subst w9)
    clear a0 a1 a2 a3 a4 CK
    refine wp_region_held_drew (S := (fun u => u.cell? ⟨w.heap.size, 0, none⟩ = some (.int .i64 d.next) ∧ u.cell? ⟨w.heap.size, 1, none⟩ = some (.slice la ln lc) ∧ u.cell? ⟨w.heap.size, 2, none⟩ = some (.slice fa fn fc) ∧ u.cell? ⟨w.heap.size, 3, none⟩ = some (.slice sa sn sc) ∧ u.cell? ⟨b6 + 1, 1, none⟩ = some (.int .i64 t))) (by kernel_rfl) (unhide LD _ (unhide D0)) (fun hHeld => ?_)
    generalize ur.drew = ud at *
    refine tk 0 87 rfl rfl hHeld ?_
    simp only [Act.put, lA, lB, lC]
    refine tk 1 88 rfl rfl hHeld ?_
    simp only [Act.put, lA, lB, lC]
    refine tk 2 89 rfl rfl hHeld ?_
    simp only [Act.put, lA, lB, lC]
    refine tk 3 90 rfl rfl hHeld ?_
    simp only [Act.put, lA, lB, lC]
    refine rd [4] (.cons rfl (fun K hK => ?_) .nil)
    have c0 := (heap_at (unhide N2) 0).1
    have c1 := (heap_at (unhide N2) 1).1
    have c2 := (heap_at (unhide N2) 2).1
    have c3 := (heap_at (unhide N2) 3).1
    have cf0 := (heap_at (unhide N2) 0).2
    have cf1 := (heap_at (unhide N2) 1).2
    have cf2 := (heap_at (unhide N2) 2).2
    have cf3 := (heap_at (unhide N2) 3).2
    have hw : WrB (fun i => i = w.heap.size + 1 + 1) ud ((((ud.setCell ⟨w.heap.size + 1 + 1, 0, none⟩ (.int .i64 d.next)).setCell ⟨w.heap.size + 1 + 1, 1, none⟩ (.slice la ln lc)).setCell ⟨w.heap.size + 1 + 1, 2, none⟩ (.slice fa fn fc)).setCell ⟨w.heap.size + 1 + 1, 3, none⟩ (.slice sa sn sc)) := sv4_wr ud (w.heap.size + 1 + 1) (.int .i64 d.next) (.slice la ln lc) (.slice fa fn fc) (.slice sa sn sc)
    have D1 := hide (show ∀ i, i ≠ w.heap.size + 1 + 1 → i ≠ w.heap.size + 1 + 1 + 1 → i < ur.heap.size → ((((ud.setCell ⟨w.heap.size + 1 + 1, 0, none⟩ (.int .i64 d.next)).setCell ⟨w.heap.size + 1 + 1, 1, none⟩ (.slice la ln lc)).setCell ⟨w.heap.size + 1 + 1, 2, none⟩ (.slice fa fn fc)).setCell ⟨w.heap.size + 1 + 1, 3, none⟩ (.slice sa sn sc)).heap[i]? = ur.heap[i]? from fun i h1 h2 h3 => (hw.block i (Nat.lt_of_lt_of_le h3 (unhide ZD0)) (by first | exact h1 | exact h2)).trans (unhide D0 i h1 h2 h3))
    have ZD1 := hide (show ur.heap.size ≤ ((((ud.setCell ⟨w.heap.size + 1 + 1, 0, none⟩ (.int .i64 d.next)).setCell ⟨w.heap.size + 1 + 1, 1, none⟩ (.slice la ln lc)).setCell ⟨w.heap.size + 1 + 1, 2, none⟩ (.slice fa fn fc)).setCell ⟨w.heap.size + 1 + 1, 3, none⟩ (.slice sa sn sc)).heap.size from Nat.le_trans (unhide ZD0) hw.size)
    have Ka := hide (show ((((ud.setCell ⟨w.heap.size + 1 + 1, 0, none⟩ (.int .i64 d.next)).setCell ⟨w.heap.size + 1 + 1, 1, none⟩ (.slice la ln lc)).setCell ⟨w.heap.size + 1 + 1, 2, none⟩ (.slice fa fn fc)).setCell ⟨w.heap.size + 1 + 1, 3, none⟩ (.slice sa sn sc)).heap[w.heap.size + 1 + 1]? = some (.cells #[.int .i64 d.next, .slice la ln lc, .slice fa fn fc, .slice sa sn sc] 29 (0, 0)) from sv4_heap (unhide N2) (.int .i64 d.next) (.slice la ln lc) (.slice fa fn fc) (.slice sa sn sc))
    have BD1 := hide (show Below w.heap.size w ((((ud.setCell ⟨w.heap.size + 1 + 1, 0, none⟩ (.int .i64 d.next)).setCell ⟨w.heap.size + 1 + 1, 1, none⟩ (.slice la ln lc)).setCell ⟨w.heap.size + 1 + 1, 2, none⟩ (.slice fa fn fc)).setCell ⟨w.heap.size + 1 + 1, 3, none⟩ (.slice sa sn sc)) from bel_sv4 (unhide BD0) (by omega) (.int .i64 d.next) (.slice la ln lc) (.slice fa fn fc) (.slice sa sn sc))
    have E3 := hide ((hw.block (w.heap.size + 1 + 1 + 1) (blk_lt (unhide N3)) (by omega)).trans (unhide N3))
    clear hw
    go_simp
    refine hK.out _ _ (unhide LD _ (unhide D1)) (fun hHeld => ?_)
    clear hK K
    clear c0 c1 c2 c3 cf0 cf1 cf2 cf3
    generalize ((((ud.setCell ⟨w.heap.size + 1 + 1, 0, none⟩ (.int .i64 d.next)).setCell ⟨w.heap.size + 1 + 1, 1, none⟩ (.slice la ln lc)).setCell ⟨w.heap.size + 1 + 1, 2, none⟩ (.slice fa fn fc)).setCell ⟨w.heap.size + 1 + 1, 3, none⟩ (.slice sa sn sc)) = ue at *
    refine rd [5] (.cons rfl (fun K hK => ?_) .nil)
    have c0 := (heap_at (unhide E3) 0).1
    have c1 := (heap_at (unhide E3) 1).1
    have c2 := (heap_at (unhide E3) 2).1
    have c3 := (heap_at (unhide E3) 3).1
    have cf0 := (heap_at (unhide E3) 0).2
    have cf1 := (heap_at (unhide E3) 1).2
    have cf2 := (heap_at (unhide E3) 2).2
    have cf3 := (heap_at (unhide E3) 3).2
    have hw : WrB (fun i => i = w.heap.size + 1 + 1 + 1) ue ((((ue.setCell ⟨w.heap.size + 1 + 1 + 1, 0, none⟩ (.int .i64 11)).setCell ⟨w.heap.size + 1 + 1 + 1, 1, none⟩ (.int .i64 t)).setCell ⟨w.heap.size + 1 + 1 + 1, 2, none⟩ (.string ⟨#[]⟩)).setCell ⟨w.heap.size + 1 + 1 + 1, 3, none⟩ (.slice none 0 0)) := sv4_wr ue (w.heap.size + 1 + 1 + 1) (.int .i64 11) (.int .i64 t) (.string ⟨#[]⟩) (.slice none 0 0)
    have D2 := hide (show ∀ i, i ≠ w.heap.size + 1 + 1 → i ≠ w.heap.size + 1 + 1 + 1 → i < ur.heap.size → ((((ue.setCell ⟨w.heap.size + 1 + 1 + 1, 0, none⟩ (.int .i64 11)).setCell ⟨w.heap.size + 1 + 1 + 1, 1, none⟩ (.int .i64 t)).setCell ⟨w.heap.size + 1 + 1 + 1, 2, none⟩ (.string ⟨#[]⟩)).setCell ⟨w.heap.size + 1 + 1 + 1, 3, none⟩ (.slice none 0 0)).heap[i]? = ur.heap[i]? from fun i h1 h2 h3 => (hw.block i (Nat.lt_of_lt_of_le h3 (unhide ZD1)) (by first | exact h1 | exact h2)).trans (unhide D1 i h1 h2 h3))
    have ZD2 := hide (show ur.heap.size ≤ ((((ue.setCell ⟨w.heap.size + 1 + 1 + 1, 0, none⟩ (.int .i64 11)).setCell ⟨w.heap.size + 1 + 1 + 1, 1, none⟩ (.int .i64 t)).setCell ⟨w.heap.size + 1 + 1 + 1, 2, none⟩ (.string ⟨#[]⟩)).setCell ⟨w.heap.size + 1 + 1 + 1, 3, none⟩ (.slice none 0 0)).heap.size from Nat.le_trans (unhide ZD1) hw.size)
    have Kb := hide (show ((((ue.setCell ⟨w.heap.size + 1 + 1 + 1, 0, none⟩ (.int .i64 11)).setCell ⟨w.heap.size + 1 + 1 + 1, 1, none⟩ (.int .i64 t)).setCell ⟨w.heap.size + 1 + 1 + 1, 2, none⟩ (.string ⟨#[]⟩)).setCell ⟨w.heap.size + 1 + 1 + 1, 3, none⟩ (.slice none 0 0)).heap[w.heap.size + 1 + 1 + 1]? = some (.cells #[.int .i64 11, .int .i64 t, .string ⟨#[]⟩, .slice none 0 0] 40 (0, 0)) from sv4_heap (unhide E3) (.int .i64 11) (.int .i64 t) (.string ⟨#[]⟩) (.slice none 0 0))
    have BD2 := hide (show Below w.heap.size w ((((ue.setCell ⟨w.heap.size + 1 + 1 + 1, 0, none⟩ (.int .i64 11)).setCell ⟨w.heap.size + 1 + 1 + 1, 1, none⟩ (.int .i64 t)).setCell ⟨w.heap.size + 1 + 1 + 1, 2, none⟩ (.string ⟨#[]⟩)).setCell ⟨w.heap.size + 1 + 1 + 1, 3, none⟩ (.slice none 0 0)) from bel_sv4 (unhide BD1) (by omega) (.int .i64 11) (.int .i64 t) (.string ⟨#[]⟩) (.slice none 0 0))
    have Kc := hide ((hw.block (w.heap.size + 1 + 1) (blk_lt (unhide Ka)) (by omega)).trans (unhide Ka))
    clear hw
    go_simp
    refine hK.out _ _ (unhide LD _ (unhide D2)) (fun hHeld => ?_)
    clear hK K
    clear c0 c1 c2 c3 cf0 cf1 cf2 cf3
    generalize ((((ue.setCell ⟨w.heap.size + 1 + 1 + 1, 0, none⟩ (.int .i64 11)).setCell ⟨w.heap.size + 1 + 1 + 1, 1, none⟩ (.int .i64 t)).setCell ⟨w.heap.size + 1 + 1 + 1, 2, none⟩ (.string ⟨#[]⟩)).setCell ⟨w.heap.size + 1 + 1 + 1, 3, none⟩ (.slice none 0 0)) = ug at *
    refine wpAnyH_done (by kernel_rfl) ?_ _
    have r0 := (heap_at (unhide Kc) 0).1
    have r1 := (heap_at (unhide Kc) 1).1
    have r2 := (heap_at (unhide Kc) 2).1
    have r3 := (heap_at (unhide Kc) 3).1
    have q0 := (heap_at (unhide Kb) 0).1
    have q1 := (heap_at (unhide Kb) 1).1
    have q2 := (heap_at (unhide Kb) 2).1
    have q3 := (heap_at (unhide Kb) 3).1
    have RES := hide (show StRes ⟨la, ln, lc⟩ ⟨fa, fn, fc⟩ ⟨sa, sn, sc⟩ hs d (stepV d ⟨2, (i : Int), key, tu, val⟩) w (.returned (.tuple #[.agg #[.int .i64 d.next, .slice la ln lc, .slice fa fn fc, .slice sa sn sc], .agg #[.int .i64 11, .int .i64 t, .string ⟨#[]⟩, .slice none 0 0]])) ug from st_old (unhide HI) (unhide BD2) (unhide ST2))
    clear hHeld LD D0 D1 D2 N2 N3 E3 Ka Kb Kc
    go_wp2_with fail
    refine bodyPost_ret (v := .tuple #[.agg #[.int .i64 d.next, .slice la ln lc, .slice fa fn fc, .slice sa sn sc], .agg #[.int .i64 11, .int .i64 t, .string ⟨#[]⟩, .slice none 0 0]]) (by simp [results, Tryz.results36, go_sem, *]) rfl ?_
    exact unhide RES
  obtain ⟨rfl, hvs⟩ := hok
  have hvn : ¬ (100 : Int) < (val.size : Int) := by omega
  have hvd : decide ((100 : Int) < (val.size : Int)) = false := decide_eq_false hvn
  have STG := hide (show stepV d ⟨2, (i : Int), key, tu, val⟩ = (⟨d.next, d.list, d.fen ++ [⟨key, nulK key, t⟩], d.ses⟩, getR (seenV d ⟨true, t, wl⟩) key t) by
   rw [unhide STP]
   unfold sesV
   rw [if_neg (by simp), if_neg (by simp), if_neg (by rw [unhide FIT]; unfold valK; rw [decide_eq_true hvs]; simp)]
   unfold inV
   rw [if_pos rfl]
   unfold fenV
   rw [if_neg (by have := (unhide HS).fen; omega)])
  have hcc : ¬ 9223372036854775807 < key.size + 1 := by
   unfold keyK at hkk
   have := of_decide_eq_true hkk
   omega
  clear STB FIT hkk hvs
  have kv := ((unhide BR).block w.heap.size hz0).trans (unhide K0)
  have v0 := (heap_at kv 0).1
  have v1 := (heap_at kv 1).1
  have v2 := (heap_at kv 2).1
  have v3 := (heap_at kv 3).1
  have x0 := (heap_at (unhide K7R) 0).1
  have x1 := (heap_at (unhide K7R) 1).1
  have x2 := (heap_at (unhide K7R) 2).1
  have CS := hide (l06Seen_any d.next ⟨la, ln, lc⟩ ⟨fa, fn, fc⟩ ⟨sa, sn, sc⟩ ⟨wa, wn, wc⟩ d ⟨true, t, wl⟩ ur ((unhide HI).vr.below ((unhide BH).trans ((unhide BR).mono (unhide BH).size))) (vrow_of_owns (unhide XR)) (by have := (unhide HS).list; have := unhide XL; show d.list.length + wl.length ≤ 1000; omega))
  unfold vzC sesC at CS
  simp only at CS
  have hurW := (unhide BR).size
  clear ka kv
  go_wp2_with (go_at_call 76; refine (unhide CK _).mono ?_; rintro e w9 ⟨rfl, hw9⟩; subst w9)
  clear a0 a1 a2 a3 a4 v0 v1 v2 v3 x0 x1 x2 CK
  refine (unhide CS).mono ?_
  rintro e w3 ⟨g9, k9, rfl, o9, b9⟩
  clear CS
  have hnb : (seenV d ⟨true, t, wl⟩).length ≤ 1000 := by
   have h1 := seenTo_len d ⟨true, t, wl⟩ _ (Nat.le_refl _)
   rw [seenTo_all] at h1
   have h2 := (unhide HS).list
   have h3 := unhide XL
   simp only at h1
   omega
  generalize seenV d ⟨true, t, wl⟩ = es at *
  obtain ⟨nn, hnn⟩ : ∃ nn, nn = es.length := ⟨_, rfl⟩
  rw [← hnn] at o9 hnb ⊢
  have LN := hide hnn.symm
  clear hnn
  have k8 := (b9.block b8 (blk_lt (unhide K8))).trans (unhide K8)
  have p0 := (heap_at k8 0).1
  have pf0 := (heap_at k8 0).2
  have B3 := hide ((unhide BR).trans (b9.mono hurW))
  have O3 := hide ((unhide OR).below b9)
  have K63 := hide ((b9.block b6 (blk_lt (unhide K6R))).trans (unhide K6R))
  have K73 := hide ((b9.block (b6 + 1) (blk_lt (unhide K7R))).trans (unhide K7R))
  have OE := hide (show EOwns w3 ur.heap.size (.slice (some ⟨g9, 0, none⟩) nn k9) es from o9)
  have K83 := hide k8
  have KR0 := hide (show (w3.setCell ⟨b8, 0, none⟩ (.int .i64 5)).heap[b8]? = some (.cells #[.int .i64 (getR (es.take 0) key t).code, .int .i64 t, .string (getR (es.take 0) key t).val, .slice none 0 0] 40 (0, 0)) by have := heap_set k8 0 (.int .i64 5); simpa [getR] using this)
  have W0 := hide (set1_wr w3 b8 0 (.int .i64 5))
  have hge8 : W.heap.size ≤ b8 := by omega
  clear b9 o9 k8 OR BR XR K6R K7R K8
  go_upto_region 31 with fail
  clear p0 pf0
  generalize w3.setCell ⟨b8, 0, none⟩ (.int .i64 5) = u0 at *
  go_wp2_with fail
  go_loopw [10] (fun iv wr => ∃ (j : Nat), iv = .int .i64 (j : Int) ∧ j ≤ nn ∧ Hid (wr.heap[b8]? = some (.cells #[.int .i64 (getR (es.take j) key t).code, .int .i64 t, .string (getR (es.take j) key t).val, .slice none 0 0] 40 (0, 0))) ∧ Hid (WrB (fun k => k = b8) w3 wr)) (fun iv _ => nn - (intOf iv).toNat)
  case atStart => exact ⟨0, rfl, Nat.zero_le _, KR0, W0⟩
  case round =>
   clear KR0 W0
   obtain ⟨j, rfl, hj, hR, hWr⟩ := hrel
   have ka := ((unhide hWr).block (w.heap.size + 1) (Nat.lt_of_lt_of_le hz1 (unhide B3).size) (by omega)).trans (((unhide B3).block (w.heap.size + 1) hz1).trans (unhide K1))
   have a2 := (heap_at ka 2).1
   by_cases hlt : j < nn
   ·have hj2 : j < es.length := by rw [unhide LN]; exact hlt
    have hkn : (j : Int) < (nn : Int) := by omega
    have OEr := own_keep (unhide OE) (unhide K83) (by decide) (unhide hWr)
    obtain ⟨b, off, he, d0, d1⟩ := (erow_of_owns OEr).2 j hj2
    injection he with he
    injection he with he1 he2 _
    subst he1 he2
    rw [Nat.zero_add] at d0 d1
    have GS := hide (show getR (es.take (j + 1)) key t = if es[j].k = key then ⟨0, t, es[j].v, []⟩ else getR (es.take j) key t by rw [takeG_snoc es j hj2, getR_snoc])
    generalize es[j] = pe at *
    obtain ⟨pk, pv⟩ := pe
    simp only at d0 d1 GS
    clear ka OEr
    have bD : ∀ q, WrB (fun k => k = b8) w3 (wr.drewN q) := fun q => ⟨(unhide hWr).os, (unhide hWr).tape, (unhide hWr).output, (unhide hWr).size, (unhide hWr).block⟩
    have BDH := hide bD
    clear bD
    by_cases hke : pk = key
    ·have hkb : (pk.toList == key.toList) = true := by rw [hke]; simp
     have GT := hide (show getR (es.take (j + 1)) key t = ⟨0, t, pv, []⟩ by rw [unhide GS, if_pos hke])
     clear hke GS
     go_wp2_with fail
     go_quiet (fail)
     have BD := hide (unhide BDH nq)
     have HRq := hide (show (wr.drewN nq).heap[b8]? = _ from unhide hR)
     have p0q := (heap_at (unhide HRq) 0).1
     have pf0q := (heap_at (unhide HRq) 0).2
     have KN0 := heap_set (unhide HRq) 0 (.int .i64 0)
     have p2q := (heap_at KN0 2).1
     have pf2q := (heap_at KN0 2).2
     have d1q : (wr.drewN nq).cell? ⟨g9, j * 2 + 1, none⟩ = some (.string pv) := d1
     have hg9 : g9 ≠ b8 := fun e => by
      have h := own_box (unhide OE) (unhide K83) (by decide)
      exact h (by rw [e]; rfl)
     clear BDH d0 d1 a2 hR hWr KN0
     generalize wr.drewN nq = wq at *
     have d1r : (wq.setCell ⟨b8, 0, none⟩ (.int .i64 0)).cell? ⟨g9, j * 2 + 1, none⟩ = some (.string pv) := (World.cell?_of_block (a := ⟨g9, j * 2 + 1, none⟩) (Below.heap_setCell wq ⟨b8, 0, none⟩ (.int .i64 0) g9 hg9)).trans d1q
     have KN := hide (show ((wq.setCell ⟨b8, 0, none⟩ (.int .i64 0)).setCell ⟨b8, 2, none⟩ (.string pv)).heap[b8]? = some (.cells #[.int .i64 (getR (es.take (j + 1)) key t).code, .int .i64 t, .string (getR (es.take (j + 1)) key t).val, .slice none 0 0] 40 (0, 0)) by
      rw [unhide GT]
      have h1 := heap_set (unhide HRq) 0 (.int .i64 0)
      have h2 := heap_set h1 2 (.string pv)
      simpa using h2)
     have WN := hide ((unhide BD).seq ((set1_wr wq b8 0 (.int .i64 0)).seq (set1_wr _ b8 2 (.string pv))))
     clear BD HRq GT
     go_wp2_with fail
     go_roundw
     case rel => exact ⟨j + 1, by go_num, by omega, KN, WN⟩
     case measure => simp [intOf]; omega
    ·have hkb : (pk.toList == key.toList) = false := by simpa using fun e => hke (toList_inj e)
     have KN := hide (show wr.heap[b8]? = some (.cells #[.int .i64 (getR (es.take (j + 1)) key t).code, .int .i64 t, .string (getR (es.take (j + 1)) key t).val, .slice none 0 0] 40 (0, 0)) by rw [unhide GS, if_neg hke]; exact unhide hR)
     clear hke GS hR
     go_wp2_with fail
     go_quiet (fail)
     have BD := hide (unhide BDH nq)
     have KNq := hide (show (wr.drewN nq).heap[b8]? = _ from unhide KN)
     clear BDH KN a2 d0 d1 hWr
     go_wp2_with fail
     go_roundw
     case rel => exact ⟨j + 1, by go_num, by omega, KNq, BD⟩
     case measure => simp [intOf]; omega
   ·obtain rfl : nn = j := by omega
    have ht : es.take nn = es := List.take_of_length_le (by rw [unhide LN]; exact Nat.le_refl _)
    rw [ht] at hR
    have BUX := hide ((unhide B3).trans (WrB.below (unhide hWr) (fun k e => by rw [e]; exact hge8) (unhide B3).size))
    have OUX := hide ((unhide O3).box (unhide K83) (by decide) (by decide) (by decide) (unhide hWr))
    have kv := ((unhide BUX).block w.heap.size hz0).trans (unhide K0)
    have k6 := ((unhide hWr).block b6 (blk_lt (unhide K63)) (by omega)).trans (unhide K63)
    have k7 := ((unhide hWr).block (b6 + 1) (blk_lt (unhide K73)) (by omega)).trans (unhide K73)
    have v0 := (heap_at kv 0).1
    have v1 := (heap_at kv 1).1
    have v2 := (heap_at kv 2).1
    have v3 := (heap_at kv 3).1
    have z0 := (heap_at k6 0).1
    have z1 := (heap_at k6 1).1
    have z2 := (heap_at k6 2).1
    have z3 := (heap_at k6 3).1
    have x1 := (heap_at k7 1).1
    have p0 := (heap_at (unhide hR) 0).1
    have p1 := (heap_at (unhide hR) 1).1
    have p2 := (heap_at (unhide hR) 2).1
    have p3 := (heap_at (unhide hR) 3).1
    have GT := hide (getR_time es key t)
    have CF := hide (l06Fence_any W.heap.size d ⟨la1, ln1, lc1⟩ ⟨fa1, fn1, fc1⟩ ⟨some ⟨g, 0, none⟩, 4, sc1⟩ hs1 ⟨key, nulK key, t⟩ ⟨(getR es key t).code, t, (getR es key t).val, []⟩ ⟨none, 0, 0⟩ d.next ⟨la, ln, lc⟩ ⟨fa, fn, fc⟩ ⟨sa, sn, sc⟩ wr (unhide OUX) (unhide BUX).size (unhide HS).fen)
    unfold vzC repC fv at CF
    simp only at CF
    have NK : nulK key = key ++ ⟨#[0]⟩ := rfl
    clear kv k6 k7 ht hR hWr O3 OE B3 K63 K73 K83 ka
    generalize hGC : (getR es key t).code = gc at *
    generalize hGV : (getR es key t).val = gv at *
    have HGC := hide hGC
    have HGV := hide hGV
    clear hGC hGV NK
    go_wp2_with fail
    clear v0 v1 v2 v3 z0 z1 z2 z3 x1 p0 p1 p2 p3 a2
    refine (unhide CF).mono ?_
    rintro e w6 ⟨⟨fa6, fn6, fc6⟩, rfl, hO6, hB6, hW6⟩
    have B6 := hide ((unhide BUX).trans hB6)
    have ky := ((unhide B6).block (w.heap.size + 1 + 1) hz2).trans (unhide K2)
    have kt := ((unhide B6).block (w.heap.size + 1 + 1 + 1) hz3).trans (unhide K3)
    have y0 := (heap_at ky 0).1
    have y1 := (heap_at ky 1).1
    have y2 := (heap_at ky 2).1
    have y3 := (heap_at ky 3).1
    have yf0 := (heap_at ky 0).2
    have yf1 := (heap_at ky 1).2
    have yf2 := (heap_at ky 2).2
    have yf3 := (heap_at ky 3).2
    have tt0 := (heap_at kt 0).1
    have tt1 := (heap_at kt 1).1
    have tt2 := (heap_at kt 2).1
    have tt3 := (heap_at kt 3).1
    have ttf0 := (heap_at kt 0).2
    have ttf1 := (heap_at kt 1).2
    have ttf2 := (heap_at kt 2).2
    have ttf3 := (heap_at kt 3).2
    have hwy : WrB (fun i => i = w.heap.size + 1 + 1) w6 ((((w6.setCell ⟨w.heap.size + 1 + 1, 0, none⟩ (.int .i64 d.next)).setCell ⟨w.heap.size + 1 + 1, 1, none⟩ (.slice la1 ln1 lc1)).setCell ⟨w.heap.size + 1 + 1, 2, none⟩ (.slice fa6 fn6 fc6)).setCell ⟨w.heap.size + 1 + 1, 3, none⟩ (.slice (some ⟨g, 0, none⟩) 4 sc1)) := sv4_wr w6 (w.heap.size + 1 + 1) (.int .i64 d.next) (.slice la1 ln1 lc1) (.slice fa6 fn6 fc6) (.slice (some ⟨g, 0, none⟩) 4 sc1)
    have hwt : WrB (fun i => i = w.heap.size + 1 + 1 + 1) ((((w6.setCell ⟨w.heap.size + 1 + 1, 0, none⟩ (.int .i64 d.next)).setCell ⟨w.heap.size + 1 + 1, 1, none⟩ (.slice la1 ln1 lc1)).setCell ⟨w.heap.size + 1 + 1, 2, none⟩ (.slice fa6 fn6 fc6)).setCell ⟨w.heap.size + 1 + 1, 3, none⟩ (.slice (some ⟨g, 0, none⟩) 4 sc1)) ((((((((w6.setCell ⟨w.heap.size + 1 + 1, 0, none⟩ (.int .i64 d.next)).setCell ⟨w.heap.size + 1 + 1, 1, none⟩ (.slice la1 ln1 lc1)).setCell ⟨w.heap.size + 1 + 1, 2, none⟩ (.slice fa6 fn6 fc6)).setCell ⟨w.heap.size + 1 + 1, 3, none⟩ (.slice (some ⟨g, 0, none⟩) 4 sc1)).setCell ⟨w.heap.size + 1 + 1 + 1, 0, none⟩ (.int .i64 gc)).setCell ⟨w.heap.size + 1 + 1 + 1, 1, none⟩ (.int .i64 t)).setCell ⟨w.heap.size + 1 + 1 + 1, 2, none⟩ (.string gv)).setCell ⟨w.heap.size + 1 + 1 + 1, 3, none⟩ (.slice none 0 0)) := sv4_wr _ (w.heap.size + 1 + 1 + 1) (.int .i64 gc) (.int .i64 t) (.string gv) (.slice none 0 0)
    have BG := hide (show Below w.heap.size w ((((((((w6.setCell ⟨w.heap.size + 1 + 1, 0, none⟩ (.int .i64 d.next)).setCell ⟨w.heap.size + 1 + 1, 1, none⟩ (.slice la1 ln1 lc1)).setCell ⟨w.heap.size + 1 + 1, 2, none⟩ (.slice fa6 fn6 fc6)).setCell ⟨w.heap.size + 1 + 1, 3, none⟩ (.slice (some ⟨g, 0, none⟩) 4 sc1)).setCell ⟨w.heap.size + 1 + 1 + 1, 0, none⟩ (.int .i64 gc)).setCell ⟨w.heap.size + 1 + 1 + 1, 1, none⟩ (.int .i64 t)).setCell ⟨w.heap.size + 1 + 1 + 1, 2, none⟩ (.string gv)).setCell ⟨w.heap.size + 1 + 1 + 1, 3, none⟩ (.slice none 0 0)) from bel_sv4 (bel_sv4 ((unhide BH).trans ((unhide B6).mono (unhide BH).size)) (by omega) _ _ _ _) (by omega) _ _ _ _)
    have OG := (hO6.wr hwy (fun i e => by rw [e]; exact hz2)).wr hwt (fun i e => by rw [e]; exact hz3)
    have RES := hide (show StRes ⟨la, ln, lc⟩ ⟨fa, fn, fc⟩ ⟨sa, sn, sc⟩ hs d (stepV d ⟨2, (i : Int), key, tu, val⟩) w (.returned (.tuple #[.agg #[.int .i64 d.next, .slice la1 ln1 lc1, .slice fa6 fn6 fc6, .slice (some ⟨g, 0, none⟩) 4 sc1], .agg #[.int .i64 gc, .int .i64 t, .string gv, .slice none 0 0]])) ((((((((w6.setCell ⟨w.heap.size + 1 + 1, 0, none⟩ (.int .i64 d.next)).setCell ⟨w.heap.size + 1 + 1, 1, none⟩ (.slice la1 ln1 lc1)).setCell ⟨w.heap.size + 1 + 1, 2, none⟩ (.slice fa6 fn6 fc6)).setCell ⟨w.heap.size + 1 + 1, 3, none⟩ (.slice (some ⟨g, 0, none⟩) 4 sc1)).setCell ⟨w.heap.size + 1 + 1 + 1, 0, none⟩ (.int .i64 gc)).setCell ⟨w.heap.size + 1 + 1 + 1, 1, none⟩ (.int .i64 t)).setCell ⟨w.heap.size + 1 + 1 + 1, 2, none⟩ (.string gv)).setCell ⟨w.heap.size + 1 + 1 + 1, 3, none⟩ (.slice none 0 0)) from (by
     rw [unhide STG]
     exact ⟨⟨la1, ln1, lc1⟩, ⟨fa6, fn6, fc6⟩, ⟨some ⟨g, 0, none⟩, 4, sc1⟩, hs1, ⟨none, 0, 0⟩, by rw [unhide HGC, unhide HGV, (unhide GT).1], (.inr (OG.dn (Nat.le_of_lt hz0))), by rw [(unhide GT).2]; exact World.ownsRow_nil _ _ _ _, unhide BG⟩))
    clear hwy hwt OG ky kt hO6 hB6 hW6
    go_wp2_with fail
    refine bodyPost_ret (v := .tuple #[.agg #[.int .i64 d.next, .slice la1 ln1 lc1, .slice fa6 fn6 fc6, .slice (some ⟨g, 0, none⟩) 4 sc1], .agg #[.int .i64 gc, .int .i64 t, .string gv, .slice none 0 0]]) (by simp [results, Tryz.results36, go_sem, *]) rfl ?_
    exact unhide RES
end Go.Proofs.YtdnjgbckkmbmfaaGreat

namespace Go.Proofs.YtdnjgbckkmbmfaaGreat
open Go.RowKit

set_option maxHeartbeats 8000000 in
theorem l06Step_3 (d : VsD) (i : Nat) (key tu val : ByteArray) (l f s : Sl) (hs : List SeH) (w : World) (hI : VzIn w l f s hs d) (hS : SmV d) (hi : i < 4) :
  Calls Tryz.prog 36 #[.agg (vzC d.next l f s), .agg #[.int .i64 3, .int .i64 (i : Int), .string key, .string tu, .string val]] w fun e w' => StRes l f s hs d (stepV d ⟨3, (i : Int), key, tu, val⟩) w e w' := by
 have hz := allocC_size [(vzC d.next l f s, 29), (#[.int .i64 3, .int .i64 (i : Int), .string key, .string tu, .string val], 37), (#[.int .i64 0, .slice none 0 0, .slice none 0 0, .slice none 0 0], 29), (#[.int .i64 0, .int .i64 0, .string ⟨#[]⟩, .slice none 0 0], 40)] w
 have b1 := allocC_bel [(vzC d.next l f s, 29), (#[.int .i64 3, .int .i64 (i : Int), .string key, .string tu, .string val], 37), (#[.int .i64 0, .slice none 0 0, .slice none 0 0, .slice none 0 0], 29), (#[.int .i64 0, .int .i64 0, .string ⟨#[]⟩, .slice none 0 0], 40)] w
 have AT := allocC_at [(vzC d.next l f s, 29), (#[.int .i64 3, .int .i64 (i : Int), .string key, .string tu, .string val], 37), (#[.int .i64 0, .slice none 0 0, .slice none 0 0, .slice none 0 0], 29), (#[.int .i64 0, .int .i64 0, .string ⟨#[]⟩, .slice none 0 0], 40)] w
 obtain ⟨W, hW⟩ : ∃ W, W = allocC w [(vzC d.next l f s, 29), (#[.int .i64 3, .int .i64 (i : Int), .string key, .string tu, .string val], 37), (#[.int .i64 0, .slice none 0 0, .slice none 0 0, .slice none 0 0], 29), (#[.int .i64 0, .int .i64 0, .string ⟨#[]⟩, .slice none 0 0], 40)] := ⟨_, rfl⟩
 rw [← hW] at hz b1 AT
 simp only [List.length_cons, List.length_nil] at hz
 have k0 : W.heap[w.heap.size]? = some (.cells (vzC d.next l f s) 29 (0, 0)) := AT 0 _ _ rfl
 have k1 : W.heap[w.heap.size + 1]? = some (.cells #[.int .i64 3, .int .i64 (i : Int), .string key, .string tu, .string val] 37 (0, 0)) := AT 1 _ _ rfl
 have k2 : W.heap[w.heap.size + 1 + 1]? = some (.cells #[.int .i64 0, .slice none 0 0, .slice none 0 0, .slice none 0 0] 29 (0, 0)) := AT 2 _ _ rfl
 have k3 : W.heap[w.heap.size + 1 + 1 + 1]? = some (.cells #[.int .i64 0, .int .i64 0, .string ⟨#[]⟩, .slice none 0 0] 40 (0, 0)) := AT 3 _ _ rfl
 have hz0 : w.heap.size < W.heap.size := by omega
 have hz1 : w.heap.size + 1 < W.heap.size := by omega
 have hz2 : w.heap.size + 1 + 1 < W.heap.size := by omega
 have hz3 : w.heap.size + 1 + 1 + 1 < W.heap.size := by omega
 unfold allocC allocC allocC allocC allocC at hW
 have CO := hide (l06Own_any d l f s hs W (hI.below b1) (by have := hI.vr.1; have := hS.list; omega) (by have := hI.fr.1; have := hS.fen; omega) (by have := hI.len; have := hS.ses; omega) (fun h hh => by
  obtain ⟨k, hk, rfl⟩ := List.getElem_of_mem hh
  obtain ⟨hd, he⟩ := hI.at hk
  have h1 := (SeIn.row hI.sr hk).1
  have h2 := hS.ws d.ses[k] (List.getElem_mem hd)
  rw [← he] at h2
  omega))
 have BH := hide b1
 have HI := hide hI
 have HS := hide hS
 obtain ⟨la, ln, lc⟩ := l
 obtain ⟨fa, fn, fc⟩ := f
 obtain ⟨sa, sn, sc⟩ := s
 unfold vzC at k0 hW CO ⊢
 simp only at k0 hW CO ⊢
 have K0 := hide k0
 have K1 := hide k1
 have K2 := hide k2
 have K3 := hide k3
 have hnx := hS.nx
 have hi0 : decide ((0 : Int) ≤ (i : Int)) = true := decide_eq_true (by omega)
 have hi3 : decide ((i : Int) ≤ 3) = true := decide_eq_true (by omega)
 have a0 := (heap_at k1 0).1
 have a1 := (heap_at k1 1).1
 have v0 := (heap_at k0 0).1
 have v1 := (heap_at k0 1).1
 have v2 := (heap_at k0 2).1
 have v3 := (heap_at k0 3).1
 clear hI hS hz b1 AT k0 k1 k2 k3
 go_enter Tryz.func36, Tryz.ntmps36
 go_wp2_with (go_at_call 75; refine (l01In_any _ _ _ _).mono ?_; rintro e w9 ⟨rfl, rfl⟩)
 rw [← hW]
 clear hW
 refine (unhide CO).mono ?_
 rintro e w1 ⟨⟨la1, ln1, lc1⟩, ⟨fa1, fn1, fc1⟩, ⟨sa1, sn1, sc1⟩, hs1, rfl, hO, hb1⟩
 clear a0 a1 v0 v1 v2 v3 hi0 hi3 CO
 have hl4 : hs1.length = 4 := by rw [hO.reads.len.2]; exact (unhide HS).ses
 have hih : i < hs1.length := by omega
 obtain ⟨g, hsa, hsn, hgB, hgw, c0, c1, c2, hwo, hid, hxd⟩ := hO.sesAt hih
 simp only at hsa hsn
 rw [hl4] at hsn
 subst hsa hsn
 unfold vzC
 simp only
 have STP := hide (show stepV d ⟨3, (i : Int), key, tu, val⟩ = sesV d ⟨3, (i : Int), key, tu, val⟩ i hs1[i].X by
  unfold stepV
  rw [if_neg (by simp), if_neg (by simp only; omega), hxd]
  congr 1
  rw [show ((i : Nat) : Int).toNat = i by omega, List.getD_eq_getElem?_getD, List.getElem?_eq_getElem hid]
  rfl)
 have XL := hide (show hs1[i].X.ws.length ≤ 8 by rw [hxd]; exact (unhide HS).ws _ (List.getElem_mem hid))
 have SX := hide hxd
 clear hxd
 generalize hx1 : hs1[i] = x at *
 have HX := hide hx1
 clear hx1
 obtain ⟨⟨o, t, wl⟩, ⟨wa, wn, wc⟩⟩ := x
 simp only at c0 c1 c2 hwo STP XL
 have bA : Below w1.heap.size w1 ((w1.alloc (.cells #[.int .i64 d.next, .slice la1 ln1 lc1, .slice fa1 fn1 fc1, .slice (some ⟨g, 0, none⟩) 4 sc1] 29)).alloc (.cells #[.bool o, .int .i64 t, .slice wa wn wc] 55)) := ((Below.refl _ _).alloc (Nat.le_refl _) _).alloc (by simp) _
 obtain ⟨-, k6, k7, z7⟩ := twoBx (w := w1) (c1 := #[.int .i64 d.next, .slice la1 ln1 lc1, .slice fa1 fn1 fc1, .slice (some ⟨g, 0, none⟩) 4 sc1]) (t1 := 29) (c2 := #[.bool o, .int .i64 t, .slice wa wn wc]) (t2 := 55) rfl
 have hW1 := hb1.size
 have NBS := hide (fun q hq => (hO.so.lt q hq).2)
 have NBV := hide (fun q hq => (hO.vo.lt q hq).2)
 have NBF := hide (fun q hq => (hO.fo.lt q hq).2)
 have OU := hide (hO.below bA)
 have BU := hide (hb1.trans (bA.mono hW1))
 have OX := hide (rb_ownsRow_below hwo bA)
 have K6 := hide k6
 have K7 := hide k7
 have hb6 : W.heap.size ≤ w1.heap.size := hW1
 have a1 : (w1.alloc (.cells #[.int .i64 d.next, .slice la1 ln1 lc1, .slice fa1 fn1 fc1, .slice (some ⟨g, 0, none⟩) 4 sc1] 29)).cell? ⟨w.heap.size + 1, 1, none⟩ = some (.int .i64 (i : Int)) := (((Below.refl w1.heap.size w1).alloc (Nat.le_refl _) (.cells #[.int .i64 d.next, .slice la1 ln1 lc1, .slice fa1 fn1 fc1, .slice (some ⟨g, 0, none⟩) 4 sc1] 29)).cell (p := ⟨w.heap.size + 1, 1, none⟩) (by show w.heap.size + 1 < w1.heap.size; omega)).trans ((heap_at ((hb1.block (w.heap.size + 1) hz1).trans (unhide K1)) 1).1)
 have d0 := (((Below.refl w1.heap.size w1).alloc (Nat.le_refl _) (.cells #[.int .i64 d.next, .slice la1 ln1 lc1, .slice fa1 fn1 fc1, .slice (some ⟨g, 0, none⟩) 4 sc1] 29)).cell (p := ⟨g, i * 3, none⟩) hgw).trans c0
 have d1 := (((Below.refl w1.heap.size w1).alloc (Nat.le_refl _) (.cells #[.int .i64 d.next, .slice la1 ln1 lc1, .slice fa1 fn1 fc1, .slice (some ⟨g, 0, none⟩) 4 sc1] 29)).cell (p := ⟨g, i * 3 + 1, none⟩) hgw).trans c1
 have d2 := (((Below.refl w1.heap.size w1).alloc (Nat.le_refl _) (.cells #[.int .i64 d.next, .slice la1 ln1 lc1, .slice fa1 fn1 fc1, .slice (some ⟨g, 0, none⟩) 4 sc1] 29)).cell (p := ⟨g, i * 3 + 2, none⟩) hgw).trans c2
 have hin : (i : Int) < 4 := by omega
 clear hO hwo bA k6 k7 c0 c1 c2 hb1 z7
 go_upto_region 7 with fail
 clear d0 d1 d2 a1 hin
 generalize (w1.alloc (.cells #[.int .i64 d.next, .slice la1 ln1 lc1, .slice fa1 fn1 fc1, .slice (some ⟨g, 0, none⟩) 4 sc1] 29)).alloc (.cells #[.bool o, .int .i64 t, .slice wa wn wc] 55) = u at *
 generalize hb6e : w1.heap.size = b6 at *
 clear hb6e
 cases o with
 | false =>
  have kv := ((unhide BU).block w.heap.size hz0).trans (unhide K0)
  have v0 := (heap_at kv 0).1
  have v1 := (heap_at kv 1).1
  have v2 := (heap_at kv 2).1
  have v3 := (heap_at kv 3).1
  have ka := ((unhide BU).block (w.heap.size + 1) hz1).trans (unhide K1)
  have a0 := (heap_at ka 0).1
  have a1 := (heap_at ka 1).1
  have a2 := (heap_at ka 2).1
  have a3 := (heap_at ka 3).1
  have a4 := (heap_at ka 4).1
  have ky := ((unhide BU).block (w.heap.size + 1 + 1) hz2).trans (unhide K2)
  have y0 := (heap_at ky 0).1
  have y1 := (heap_at ky 1).1
  have y2 := (heap_at ky 2).1
  have y3 := (heap_at ky 3).1
  have yf0 := (heap_at ky 0).2
  have yf1 := (heap_at ky 1).2
  have yf2 := (heap_at ky 2).2
  have yf3 := (heap_at ky 3).2
  have kt := ((unhide BU).block (w.heap.size + 1 + 1 + 1) hz3).trans (unhide K3)
  have t0 := (heap_at kt 0).1
  have t1 := (heap_at kt 1).1
  have t2 := (heap_at kt 2).1
  have t3 := (heap_at kt 3).1
  have tf0 := (heap_at kt 0).2
  have tf1 := (heap_at kt 1).2
  have tf2 := (heap_at kt 2).2
  have tf3 := (heap_at kt 3).2
  have x0 := (heap_at (unhide K7) 0).1
  have RES := hide (show StRes ⟨la, ln, lc⟩ ⟨fa, fn, fc⟩ ⟨sa, sn, sc⟩ hs d (stepV d ⟨3, (i : Int), key, tu, val⟩) w (.returned (.tuple #[.agg #[.int .i64 d.next, .slice la ln lc, .slice fa fn fc, .slice sa sn sc], .agg #[.int .i64 10, .int .i64 0, .string ⟨#[]⟩, .slice none 0 0]])) ((((((((u.setCell ⟨w.heap.size + 1 + 1, 0, none⟩ (.int .i64 d.next)).setCell ⟨w.heap.size + 1 + 1, 1, none⟩ (.slice la ln lc)).setCell ⟨w.heap.size + 1 + 1, 2, none⟩ (.slice fa fn fc)).setCell ⟨w.heap.size + 1 + 1, 3, none⟩ (.slice sa sn sc)).setCell ⟨w.heap.size + 1 + 1 + 1, 0, none⟩ (.int .i64 10)).setCell ⟨w.heap.size + 1 + 1 + 1, 1, none⟩ (.int .i64 0)).setCell ⟨w.heap.size + 1 + 1 + 1, 2, none⟩ (.string ⟨#[]⟩)).setCell ⟨w.heap.size + 1 + 1 + 1, 3, none⟩ (.slice none 0 0)) from st_old (unhide HI) (bel_sv4 (bel_sv4 ((unhide BH).trans ((unhide BU).mono (unhide BH).size)) (by omega) _ _ _ _) (by omega) _ _ _ _) (by rw [unhide STP]; unfold sesV; rw [if_neg (by simp), if_pos rfl]))
  go_wp2_with fail
  refine bodyPost_ret (v := .tuple #[.agg #[.int .i64 d.next, .slice la ln lc, .slice fa fn fc, .slice sa sn sc], .agg #[.int .i64 10, .int .i64 0, .string ⟨#[]⟩, .slice none 0 0]]) (by simp [results, Tryz.results36, go_sem, *]) rfl ?_
  exact unhide RES
 | true =>
  have x0 := (heap_at (unhide K7) 0).1
  have x1 := (heap_at (unhide K7) 1).1
  have ka := ((unhide BU).block (w.heap.size + 1) hz1).trans (unhide K1)
  have a0 := (heap_at ka 0).1
  have bR : Below u.heap.size u (u.alloc (.cells #[.int .i64 0, .int .i64 t, .string ⟨#[]⟩, .slice none 0 0] 40)) := (Below.refl _ _).alloc (Nat.le_refl _) _
  have k8 := heap_alloc_new u (.cells #[.int .i64 0, .int .i64 t, .string ⟨#[]⟩, .slice none 0 0] 40)
  have OR := hide ((unhide OU).below bR)
  have BR := hide ((unhide BU).trans (bR.mono (unhide BU).size))
  have XR := hide (rb_ownsRow_below (unhide OX) bR)
  have K6R := hide ((bR.block b6 (blk_lt (unhide K6))).trans (unhide K6))
  have K7R := hide ((bR.block (b6 + 1) (blk_lt (unhide K7))).trans (unhide K7))
  have K8 := hide k8
  have h78 : b6 + 1 < u.heap.size := blk_lt (unhide K7)
  clear OU BU OX K6 K7 k8 bR ka
  go_upto_region 18 with fail
  clear x0 x1 a0
  generalize u.alloc (.cells #[.int .i64 0, .int .i64 t, .string ⟨#[]⟩, .slice none 0 0] 40) = ur at *
  generalize hb8e : u.heap.size = b8 at *
  clear hb8e
  have ka := ((unhide BR).block (w.heap.size + 1) hz1).trans (unhide K1)
  have a0 := (heap_at ka 0).1
  have a1 := (heap_at ka 1).1
  have a2 := (heap_at ka 2).1
  have a3 := (heap_at ka 3).1
  have a4 := (heap_at ka 4).1
  have FIT := hide (show fitA ⟨3, (i : Int), key, tu, val⟩ = (decide (key.size ≤ 40) && decide (tu.size ≤ 40)) by unfold fitA; rw [if_neg (by simp), if_pos (by simp)])
  have STB := hide (show fitA ⟨3, (i : Int), key, tu, val⟩ = false → stepV d ⟨3, (i : Int), key, tu, val⟩ = (d, repV 11 t) from fun h => by rw [unhide STP]; unfold sesV; rw [if_neg (by simp), if_neg (by simp), if_pos h])
  by_cases hk40 : key.size ≤ 40
  case neg =>
   have ST2 := hide (unhide STB (by rw [unhide FIT, decide_eq_false hk40]; rfl))
   have hkn : (40 : Int) < (key.size : Int) := by omega
   have hkd : decide ((40 : Int) < (key.size : Int)) = true := decide_eq_true hkn
   clear STB FIT hk40 ka
   have kvv := ((unhide BR).block w.heap.size hz0).trans (unhide K0)
   have v0 := (heap_at kvv 0).1
   have v1 := (heap_at kvv 1).1
   have v2 := (heap_at kvv 2).1
   have v3 := (heap_at kvv 3).1
   have k7x := (heap_at (unhide K7R) 1).1
   have N2 := hide (((unhide BR).block (w.heap.size + 1 + 1) hz2).trans (unhide K2))
   have N3 := hide (((unhide BR).block (w.heap.size + 1 + 1 + 1) hz3).trans (unhide K3))
   have BF := hide ((unhide BH).trans ((unhide BR).mono (unhide BH).size))
   have h70 : b6 + 1 < ur.heap.size := blk_lt (unhide K7R)
   have h6W : W.heap.size ≤ ur.heap.size := (unhide BR).size
   have LD := hide (show ∀ v : World, (∀ i, i ≠ w.heap.size + 1 + 1 → i ≠ w.heap.size + 1 + 1 + 1 → i < ur.heap.size → v.heap[i]? = ur.heap[i]?) → (fun u => u.cell? ⟨w.heap.size, 0, none⟩ = some (.int .i64 d.next) ∧ u.cell? ⟨w.heap.size, 1, none⟩ = some (.slice la ln lc) ∧ u.cell? ⟨w.heap.size, 2, none⟩ = some (.slice fa fn fc) ∧ u.cell? ⟨w.heap.size, 3, none⟩ = some (.slice sa sn sc) ∧ u.cell? ⟨b6 + 1, 1, none⟩ = some (.int .i64 t)) v from fun v hv => ⟨(World.cell?_of_block (a := ⟨w.heap.size, 0, none⟩) (hv w.heap.size (by omega) (by omega) (by omega))).trans v0, (World.cell?_of_block (a := ⟨w.heap.size, 1, none⟩) (hv w.heap.size (by omega) (by omega) (by omega))).trans v1, (World.cell?_of_block (a := ⟨w.heap.size, 2, none⟩) (hv w.heap.size (by omega) (by omega) (by omega))).trans v2, (World.cell?_of_block (a := ⟨w.heap.size, 3, none⟩) (hv w.heap.size (by omega) (by omega) (by omega))).trans v3, (World.cell?_of_block (a := ⟨b6 + 1, 1, none⟩) (hv (b6 + 1) (by omega) (by omega) h70)).trans k7x⟩)
   clear v0 v1 v2 v3 k7x kvv
   have D0 := hide (show ∀ i, i ≠ w.heap.size + 1 + 1 → i ≠ w.heap.size + 1 + 1 + 1 → i < ur.heap.size → ur.drew.heap[i]? = ur.heap[i]? from fun _ _ _ _ => rfl)
   have ZD0 := hide (show ur.heap.size ≤ ur.drew.heap.size from Nat.le_refl _)
   have BD0 := hide (show Below w.heap.size w ur.drew from (unhide BF).drew)
   replace N2 := hide (show ur.drew.heap[w.heap.size + 1 + 1]? = _ from unhide N2)
   replace N3 := hide (show ur.drew.heap[w.heap.size + 1 + 1 + 1]? = _ from unhide N3)
   go_upto_region 26 with fail
   clear a0 a1 a2 a3 a4
   refine wp_region_held_drew (S := (fun u => u.cell? ⟨w.heap.size, 0, none⟩ = some (.int .i64 d.next) ∧ u.cell? ⟨w.heap.size, 1, none⟩ = some (.slice la ln lc) ∧ u.cell? ⟨w.heap.size, 2, none⟩ = some (.slice fa fn fc) ∧ u.cell? ⟨w.heap.size, 3, none⟩ = some (.slice sa sn sc) ∧ u.cell? ⟨b6 + 1, 1, none⟩ = some (.int .i64 t))) (by kernel_rfl) (unhide LD _ (unhide D0)) (fun hHeld => ?_)
   generalize ur.drew = ud at *
   refine tk 0 103 rfl rfl hHeld ?_
   simp only [Act.put, lA, lB, lC]
   refine tk 1 104 rfl rfl hHeld ?_
   simp only [Act.put, lA, lB, lC]
   refine tk 2 105 rfl rfl hHeld ?_
   simp only [Act.put, lA, lB, lC]
   refine tk 3 106 rfl rfl hHeld ?_
   simp only [Act.put, lA, lB, lC]
   refine rd [4] (.cons rfl (fun K hK => ?_) .nil)
   have c0 := (heap_at (unhide N2) 0).1
   have c1 := (heap_at (unhide N2) 1).1
   have c2 := (heap_at (unhide N2) 2).1
   have c3 := (heap_at (unhide N2) 3).1
   have cf0 := (heap_at (unhide N2) 0).2
   have cf1 := (heap_at (unhide N2) 1).2
   have cf2 := (heap_at (unhide N2) 2).2
   have cf3 := (heap_at (unhide N2) 3).2
   have hw : WrB (fun i => i = w.heap.size + 1 + 1) ud ((((ud.setCell ⟨w.heap.size + 1 + 1, 0, none⟩ (.int .i64 d.next)).setCell ⟨w.heap.size + 1 + 1, 1, none⟩ (.slice la ln lc)).setCell ⟨w.heap.size + 1 + 1, 2, none⟩ (.slice fa fn fc)).setCell ⟨w.heap.size + 1 + 1, 3, none⟩ (.slice sa sn sc)) := sv4_wr ud (w.heap.size + 1 + 1) (.int .i64 d.next) (.slice la ln lc) (.slice fa fn fc) (.slice sa sn sc)
   have D1 := hide (show ∀ i, i ≠ w.heap.size + 1 + 1 → i ≠ w.heap.size + 1 + 1 + 1 → i < ur.heap.size → ((((ud.setCell ⟨w.heap.size + 1 + 1, 0, none⟩ (.int .i64 d.next)).setCell ⟨w.heap.size + 1 + 1, 1, none⟩ (.slice la ln lc)).setCell ⟨w.heap.size + 1 + 1, 2, none⟩ (.slice fa fn fc)).setCell ⟨w.heap.size + 1 + 1, 3, none⟩ (.slice sa sn sc)).heap[i]? = ur.heap[i]? from fun i h1 h2 h3 => (hw.block i (Nat.lt_of_lt_of_le h3 (unhide ZD0)) (by first | exact h1 | exact h2)).trans (unhide D0 i h1 h2 h3))
   have ZD1 := hide (show ur.heap.size ≤ ((((ud.setCell ⟨w.heap.size + 1 + 1, 0, none⟩ (.int .i64 d.next)).setCell ⟨w.heap.size + 1 + 1, 1, none⟩ (.slice la ln lc)).setCell ⟨w.heap.size + 1 + 1, 2, none⟩ (.slice fa fn fc)).setCell ⟨w.heap.size + 1 + 1, 3, none⟩ (.slice sa sn sc)).heap.size from Nat.le_trans (unhide ZD0) hw.size)
   have Ka := hide (show ((((ud.setCell ⟨w.heap.size + 1 + 1, 0, none⟩ (.int .i64 d.next)).setCell ⟨w.heap.size + 1 + 1, 1, none⟩ (.slice la ln lc)).setCell ⟨w.heap.size + 1 + 1, 2, none⟩ (.slice fa fn fc)).setCell ⟨w.heap.size + 1 + 1, 3, none⟩ (.slice sa sn sc)).heap[w.heap.size + 1 + 1]? = some (.cells #[.int .i64 d.next, .slice la ln lc, .slice fa fn fc, .slice sa sn sc] 29 (0, 0)) from sv4_heap (unhide N2) (.int .i64 d.next) (.slice la ln lc) (.slice fa fn fc) (.slice sa sn sc))
   have BD1 := hide (show Below w.heap.size w ((((ud.setCell ⟨w.heap.size + 1 + 1, 0, none⟩ (.int .i64 d.next)).setCell ⟨w.heap.size + 1 + 1, 1, none⟩ (.slice la ln lc)).setCell ⟨w.heap.size + 1 + 1, 2, none⟩ (.slice fa fn fc)).setCell ⟨w.heap.size + 1 + 1, 3, none⟩ (.slice sa sn sc)) from bel_sv4 (unhide BD0) (by omega) (.int .i64 d.next) (.slice la ln lc) (.slice fa fn fc) (.slice sa sn sc))
   have E3 := hide ((hw.block (w.heap.size + 1 + 1 + 1) (blk_lt (unhide N3)) (by omega)).trans (unhide N3))
   clear hw
   go_simp
   refine hK.out _ _ (unhide LD _ (unhide D1)) (fun hHeld => ?_)
   clear hK K
   clear c0 c1 c2 c3 cf0 cf1 cf2 cf3
   generalize ((((ud.setCell ⟨w.heap.size + 1 + 1, 0, none⟩ (.int .i64 d.next)).setCell ⟨w.heap.size + 1 + 1, 1, none⟩ (.slice la ln lc)).setCell ⟨w.heap.size + 1 + 1, 2, none⟩ (.slice fa fn fc)).setCell ⟨w.heap.size + 1 + 1, 3, none⟩ (.slice sa sn sc)) = ue at *
   refine rd [5] (.cons rfl (fun K hK => ?_) .nil)
   have c0 := (heap_at (unhide E3) 0).1
   have c1 := (heap_at (unhide E3) 1).1
   have c2 := (heap_at (unhide E3) 2).1
   have c3 := (heap_at (unhide E3) 3).1
   have cf0 := (heap_at (unhide E3) 0).2
   have cf1 := (heap_at (unhide E3) 1).2
   have cf2 := (heap_at (unhide E3) 2).2
   have cf3 := (heap_at (unhide E3) 3).2
   have hw : WrB (fun i => i = w.heap.size + 1 + 1 + 1) ue ((((ue.setCell ⟨w.heap.size + 1 + 1 + 1, 0, none⟩ (.int .i64 11)).setCell ⟨w.heap.size + 1 + 1 + 1, 1, none⟩ (.int .i64 t)).setCell ⟨w.heap.size + 1 + 1 + 1, 2, none⟩ (.string ⟨#[]⟩)).setCell ⟨w.heap.size + 1 + 1 + 1, 3, none⟩ (.slice none 0 0)) := sv4_wr ue (w.heap.size + 1 + 1 + 1) (.int .i64 11) (.int .i64 t) (.string ⟨#[]⟩) (.slice none 0 0)
   have D2 := hide (show ∀ i, i ≠ w.heap.size + 1 + 1 → i ≠ w.heap.size + 1 + 1 + 1 → i < ur.heap.size → ((((ue.setCell ⟨w.heap.size + 1 + 1 + 1, 0, none⟩ (.int .i64 11)).setCell ⟨w.heap.size + 1 + 1 + 1, 1, none⟩ (.int .i64 t)).setCell ⟨w.heap.size + 1 + 1 + 1, 2, none⟩ (.string ⟨#[]⟩)).setCell ⟨w.heap.size + 1 + 1 + 1, 3, none⟩ (.slice none 0 0)).heap[i]? = ur.heap[i]? from fun i h1 h2 h3 => (hw.block i (Nat.lt_of_lt_of_le h3 (unhide ZD1)) (by first | exact h1 | exact h2)).trans (unhide D1 i h1 h2 h3))
   have ZD2 := hide (show ur.heap.size ≤ ((((ue.setCell ⟨w.heap.size + 1 + 1 + 1, 0, none⟩ (.int .i64 11)).setCell ⟨w.heap.size + 1 + 1 + 1, 1, none⟩ (.int .i64 t)).setCell ⟨w.heap.size + 1 + 1 + 1, 2, none⟩ (.string ⟨#[]⟩)).setCell ⟨w.heap.size + 1 + 1 + 1, 3, none⟩ (.slice none 0 0)).heap.size from Nat.le_trans (unhide ZD1) hw.size)
   have Kb := hide (show ((((ue.setCell ⟨w.heap.size + 1 + 1 + 1, 0, none⟩ (.int .i64 11)).setCell ⟨w.heap.size + 1 + 1 + 1, 1, none⟩ (.int .i64 t)).setCell ⟨w.heap.size + 1 + 1 + 1, 2, none⟩ (.string ⟨#[]⟩)).setCell ⟨w.heap.size + 1 + 1 + 1, 3, none⟩ (.slice none 0 0)).heap[w.heap.size + 1 + 1 + 1]? = some (.cells #[.int .i64 11, .int .i64 t, .string ⟨#[]⟩, .slice none 0 0] 40 (0, 0)) from sv4_heap (unhide E3) (.int .i64 11) (.int .i64 t) (.string ⟨#[]⟩) (.slice none 0 0))
   have BD2 := hide (show Below w.heap.size w ((((ue.setCell ⟨w.heap.size + 1 + 1 + 1, 0, none⟩ (.int .i64 11)).setCell ⟨w.heap.size + 1 + 1 + 1, 1, none⟩ (.int .i64 t)).setCell ⟨w.heap.size + 1 + 1 + 1, 2, none⟩ (.string ⟨#[]⟩)).setCell ⟨w.heap.size + 1 + 1 + 1, 3, none⟩ (.slice none 0 0)) from bel_sv4 (unhide BD1) (by omega) (.int .i64 11) (.int .i64 t) (.string ⟨#[]⟩) (.slice none 0 0))
   have Kc := hide ((hw.block (w.heap.size + 1 + 1) (blk_lt (unhide Ka)) (by omega)).trans (unhide Ka))
   clear hw
   go_simp
   refine hK.out _ _ (unhide LD _ (unhide D2)) (fun hHeld => ?_)
   clear hK K
   clear c0 c1 c2 c3 cf0 cf1 cf2 cf3
   generalize ((((ue.setCell ⟨w.heap.size + 1 + 1 + 1, 0, none⟩ (.int .i64 11)).setCell ⟨w.heap.size + 1 + 1 + 1, 1, none⟩ (.int .i64 t)).setCell ⟨w.heap.size + 1 + 1 + 1, 2, none⟩ (.string ⟨#[]⟩)).setCell ⟨w.heap.size + 1 + 1 + 1, 3, none⟩ (.slice none 0 0)) = ug at *
   refine wpAnyH_done (by kernel_rfl) ?_ _
   have r0 := (heap_at (unhide Kc) 0).1
   have r1 := (heap_at (unhide Kc) 1).1
   have r2 := (heap_at (unhide Kc) 2).1
   have r3 := (heap_at (unhide Kc) 3).1
   have q0 := (heap_at (unhide Kb) 0).1
   have q1 := (heap_at (unhide Kb) 1).1
   have q2 := (heap_at (unhide Kb) 2).1
   have q3 := (heap_at (unhide Kb) 3).1
   have RES := hide (show StRes ⟨la, ln, lc⟩ ⟨fa, fn, fc⟩ ⟨sa, sn, sc⟩ hs d (stepV d ⟨3, (i : Int), key, tu, val⟩) w (.returned (.tuple #[.agg #[.int .i64 d.next, .slice la ln lc, .slice fa fn fc, .slice sa sn sc], .agg #[.int .i64 11, .int .i64 t, .string ⟨#[]⟩, .slice none 0 0]])) ug from st_old (unhide HI) (unhide BD2) (unhide ST2))
   clear hHeld LD D0 D1 D2 N2 N3 E3 Ka Kb Kc
   go_wp2_with fail
   refine bodyPost_ret (v := .tuple #[.agg #[.int .i64 d.next, .slice la ln lc, .slice fa fn fc, .slice sa sn sc], .agg #[.int .i64 11, .int .i64 t, .string ⟨#[]⟩, .slice none 0 0]]) (by simp [results, Tryz.results36, go_sem, *]) rfl ?_
   exact unhide RES
  by_cases ht40 : tu.size ≤ 40
  case neg =>
   have ST2 := hide (unhide STB (by rw [unhide FIT, decide_eq_false ht40]; simp))
   have hkn : ¬ (40 : Int) < (key.size : Int) := by omega
   have hkd : decide ((40 : Int) < (key.size : Int)) = false := decide_eq_false hkn
   have htn : (40 : Int) < (tu.size : Int) := by omega
   have htd : decide ((40 : Int) < (tu.size : Int)) = true := decide_eq_true htn
   clear STB FIT hk40 ht40 ka
   have kvv := ((unhide BR).block w.heap.size hz0).trans (unhide K0)
   have v0 := (heap_at kvv 0).1
   have v1 := (heap_at kvv 1).1
   have v2 := (heap_at kvv 2).1
   have v3 := (heap_at kvv 3).1
   have k7x := (heap_at (unhide K7R) 1).1
   have N2 := hide (((unhide BR).block (w.heap.size + 1 + 1) hz2).trans (unhide K2))
   have N3 := hide (((unhide BR).block (w.heap.size + 1 + 1 + 1) hz3).trans (unhide K3))
   have BF := hide ((unhide BH).trans ((unhide BR).mono (unhide BH).size))
   have h70 : b6 + 1 < ur.heap.size := blk_lt (unhide K7R)
   have h6W : W.heap.size ≤ ur.heap.size := (unhide BR).size
   have LD := hide (show ∀ v : World, (∀ i, i ≠ w.heap.size + 1 + 1 → i ≠ w.heap.size + 1 + 1 + 1 → i < ur.heap.size → v.heap[i]? = ur.heap[i]?) → (fun u => u.cell? ⟨w.heap.size, 0, none⟩ = some (.int .i64 d.next) ∧ u.cell? ⟨w.heap.size, 1, none⟩ = some (.slice la ln lc) ∧ u.cell? ⟨w.heap.size, 2, none⟩ = some (.slice fa fn fc) ∧ u.cell? ⟨w.heap.size, 3, none⟩ = some (.slice sa sn sc) ∧ u.cell? ⟨b6 + 1, 1, none⟩ = some (.int .i64 t)) v from fun v hv => ⟨(World.cell?_of_block (a := ⟨w.heap.size, 0, none⟩) (hv w.heap.size (by omega) (by omega) (by omega))).trans v0, (World.cell?_of_block (a := ⟨w.heap.size, 1, none⟩) (hv w.heap.size (by omega) (by omega) (by omega))).trans v1, (World.cell?_of_block (a := ⟨w.heap.size, 2, none⟩) (hv w.heap.size (by omega) (by omega) (by omega))).trans v2, (World.cell?_of_block (a := ⟨w.heap.size, 3, none⟩) (hv w.heap.size (by omega) (by omega) (by omega))).trans v3, (World.cell?_of_block (a := ⟨b6 + 1, 1, none⟩) (hv (b6 + 1) (by omega) (by omega) h70)).trans k7x⟩)
   clear v0 v1 v2 v3 k7x kvv
   have D0 := hide (show ∀ i, i ≠ w.heap.size + 1 + 1 → i ≠ w.heap.size + 1 + 1 + 1 → i < ur.heap.size → ur.drew.heap[i]? = ur.heap[i]? from fun _ _ _ _ => rfl)
   have ZD0 := hide (show ur.heap.size ≤ ur.drew.heap.size from Nat.le_refl _)
   have BD0 := hide (show Below w.heap.size w ur.drew from (unhide BF).drew)
   replace N2 := hide (show ur.drew.heap[w.heap.size + 1 + 1]? = _ from unhide N2)
   replace N3 := hide (show ur.drew.heap[w.heap.size + 1 + 1 + 1]? = _ from unhide N3)
   go_upto_region 26 with fail
   clear a0 a1 a2 a3 a4
   refine wp_region_held_drew (S := (fun u => u.cell? ⟨w.heap.size, 0, none⟩ = some (.int .i64 d.next) ∧ u.cell? ⟨w.heap.size, 1, none⟩ = some (.slice la ln lc) ∧ u.cell? ⟨w.heap.size, 2, none⟩ = some (.slice fa fn fc) ∧ u.cell? ⟨w.heap.size, 3, none⟩ = some (.slice sa sn sc) ∧ u.cell? ⟨b6 + 1, 1, none⟩ = some (.int .i64 t))) (by kernel_rfl) (unhide LD _ (unhide D0)) (fun hHeld => ?_)
   generalize ur.drew = ud at *
   refine tk 0 103 rfl rfl hHeld ?_
   simp only [Act.put, lA, lB, lC]
   refine tk 1 104 rfl rfl hHeld ?_
   simp only [Act.put, lA, lB, lC]
   refine tk 2 105 rfl rfl hHeld ?_
   simp only [Act.put, lA, lB, lC]
   refine tk 3 106 rfl rfl hHeld ?_
   simp only [Act.put, lA, lB, lC]
   refine rd [4] (.cons rfl (fun K hK => ?_) .nil)
   have c0 := (heap_at (unhide N2) 0).1
   have c1 := (heap_at (unhide N2) 1).1
   have c2 := (heap_at (unhide N2) 2).1
   have c3 := (heap_at (unhide N2) 3).1
   have cf0 := (heap_at (unhide N2) 0).2
   have cf1 := (heap_at (unhide N2) 1).2
   have cf2 := (heap_at (unhide N2) 2).2
   have cf3 := (heap_at (unhide N2) 3).2
   have hw : WrB (fun i => i = w.heap.size + 1 + 1) ud ((((ud.setCell ⟨w.heap.size + 1 + 1, 0, none⟩ (.int .i64 d.next)).setCell ⟨w.heap.size + 1 + 1, 1, none⟩ (.slice la ln lc)).setCell ⟨w.heap.size + 1 + 1, 2, none⟩ (.slice fa fn fc)).setCell ⟨w.heap.size + 1 + 1, 3, none⟩ (.slice sa sn sc)) := sv4_wr ud (w.heap.size + 1 + 1) (.int .i64 d.next) (.slice la ln lc) (.slice fa fn fc) (.slice sa sn sc)
   have D1 := hide (show ∀ i, i ≠ w.heap.size + 1 + 1 → i ≠ w.heap.size + 1 + 1 + 1 → i < ur.heap.size → ((((ud.setCell ⟨w.heap.size + 1 + 1, 0, none⟩ (.int .i64 d.next)).setCell ⟨w.heap.size + 1 + 1, 1, none⟩ (.slice la ln lc)).setCell ⟨w.heap.size + 1 + 1, 2, none⟩ (.slice fa fn fc)).setCell ⟨w.heap.size + 1 + 1, 3, none⟩ (.slice sa sn sc)).heap[i]? = ur.heap[i]? from fun i h1 h2 h3 => (hw.block i (Nat.lt_of_lt_of_le h3 (unhide ZD0)) (by first | exact h1 | exact h2)).trans (unhide D0 i h1 h2 h3))
   have ZD1 := hide (show ur.heap.size ≤ ((((ud.setCell ⟨w.heap.size + 1 + 1, 0, none⟩ (.int .i64 d.next)).setCell ⟨w.heap.size + 1 + 1, 1, none⟩ (.slice la ln lc)).setCell ⟨w.heap.size + 1 + 1, 2, none⟩ (.slice fa fn fc)).setCell ⟨w.heap.size + 1 + 1, 3, none⟩ (.slice sa sn sc)).heap.size from Nat.le_trans (unhide ZD0) hw.size)
   have Ka := hide (show ((((ud.setCell ⟨w.heap.size + 1 + 1, 0, none⟩ (.int .i64 d.next)).setCell ⟨w.heap.size + 1 + 1, 1, none⟩ (.slice la ln lc)).setCell ⟨w.heap.size + 1 + 1, 2, none⟩ (.slice fa fn fc)).setCell ⟨w.heap.size + 1 + 1, 3, none⟩ (.slice sa sn sc)).heap[w.heap.size + 1 + 1]? = some (.cells #[.int .i64 d.next, .slice la ln lc, .slice fa fn fc, .slice sa sn sc] 29 (0, 0)) from sv4_heap (unhide N2) (.int .i64 d.next) (.slice la ln lc) (.slice fa fn fc) (.slice sa sn sc))
   have BD1 := hide (show Below w.heap.size w ((((ud.setCell ⟨w.heap.size + 1 + 1, 0, none⟩ (.int .i64 d.next)).setCell ⟨w.heap.size + 1 + 1, 1, none⟩ (.slice la ln lc)).setCell ⟨w.heap.size + 1 + 1, 2, none⟩ (.slice fa fn fc)).setCell ⟨w.heap.size + 1 + 1, 3, none⟩ (.slice sa sn sc)) from bel_sv4 (unhide BD0) (by omega) (.int .i64 d.next) (.slice la ln lc) (.slice fa fn fc) (.slice sa sn sc))
   have E3 := hide ((hw.block (w.heap.size + 1 + 1 + 1) (blk_lt (unhide N3)) (by omega)).trans (unhide N3))
   clear hw
   go_simp
   refine hK.out _ _ (unhide LD _ (unhide D1)) (fun hHeld => ?_)
   clear hK K
   clear c0 c1 c2 c3 cf0 cf1 cf2 cf3
   generalize ((((ud.setCell ⟨w.heap.size + 1 + 1, 0, none⟩ (.int .i64 d.next)).setCell ⟨w.heap.size + 1 + 1, 1, none⟩ (.slice la ln lc)).setCell ⟨w.heap.size + 1 + 1, 2, none⟩ (.slice fa fn fc)).setCell ⟨w.heap.size + 1 + 1, 3, none⟩ (.slice sa sn sc)) = ue at *
   refine rd [5] (.cons rfl (fun K hK => ?_) .nil)
   have c0 := (heap_at (unhide E3) 0).1
   have c1 := (heap_at (unhide E3) 1).1
   have c2 := (heap_at (unhide E3) 2).1
   have c3 := (heap_at (unhide E3) 3).1
   have cf0 := (heap_at (unhide E3) 0).2
   have cf1 := (heap_at (unhide E3) 1).2
   have cf2 := (heap_at (unhide E3) 2).2
   have cf3 := (heap_at (unhide E3) 3).2
   have hw : WrB (fun i => i = w.heap.size + 1 + 1 + 1) ue ((((ue.setCell ⟨w.heap.size + 1 + 1 + 1, 0, none⟩ (.int .i64 11)).setCell ⟨w.heap.size + 1 + 1 + 1, 1, none⟩ (.int .i64 t)).setCell ⟨w.heap.size + 1 + 1 + 1, 2, none⟩ (.string ⟨#[]⟩)).setCell ⟨w.heap.size + 1 + 1 + 1, 3, none⟩ (.slice none 0 0)) := sv4_wr ue (w.heap.size + 1 + 1 + 1) (.int .i64 11) (.int .i64 t) (.string ⟨#[]⟩) (.slice none 0 0)
   have D2 := hide (show ∀ i, i ≠ w.heap.size + 1 + 1 → i ≠ w.heap.size + 1 + 1 + 1 → i < ur.heap.size → ((((ue.setCell ⟨w.heap.size + 1 + 1 + 1, 0, none⟩ (.int .i64 11)).setCell ⟨w.heap.size + 1 + 1 + 1, 1, none⟩ (.int .i64 t)).setCell ⟨w.heap.size + 1 + 1 + 1, 2, none⟩ (.string ⟨#[]⟩)).setCell ⟨w.heap.size + 1 + 1 + 1, 3, none⟩ (.slice none 0 0)).heap[i]? = ur.heap[i]? from fun i h1 h2 h3 => (hw.block i (Nat.lt_of_lt_of_le h3 (unhide ZD1)) (by first | exact h1 | exact h2)).trans (unhide D1 i h1 h2 h3))
   have ZD2 := hide (show ur.heap.size ≤ ((((ue.setCell ⟨w.heap.size + 1 + 1 + 1, 0, none⟩ (.int .i64 11)).setCell ⟨w.heap.size + 1 + 1 + 1, 1, none⟩ (.int .i64 t)).setCell ⟨w.heap.size + 1 + 1 + 1, 2, none⟩ (.string ⟨#[]⟩)).setCell ⟨w.heap.size + 1 + 1 + 1, 3, none⟩ (.slice none 0 0)).heap.size from Nat.le_trans (unhide ZD1) hw.size)
   have Kb := hide (show ((((ue.setCell ⟨w.heap.size + 1 + 1 + 1, 0, none⟩ (.int .i64 11)).setCell ⟨w.heap.size + 1 + 1 + 1, 1, none⟩ (.int .i64 t)).setCell ⟨w.heap.size + 1 + 1 + 1, 2, none⟩ (.string ⟨#[]⟩)).setCell ⟨w.heap.size + 1 + 1 + 1, 3, none⟩ (.slice none 0 0)).heap[w.heap.size + 1 + 1 + 1]? = some (.cells #[.int .i64 11, .int .i64 t, .string ⟨#[]⟩, .slice none 0 0] 40 (0, 0)) from sv4_heap (unhide E3) (.int .i64 11) (.int .i64 t) (.string ⟨#[]⟩) (.slice none 0 0))
   have BD2 := hide (show Below w.heap.size w ((((ue.setCell ⟨w.heap.size + 1 + 1 + 1, 0, none⟩ (.int .i64 11)).setCell ⟨w.heap.size + 1 + 1 + 1, 1, none⟩ (.int .i64 t)).setCell ⟨w.heap.size + 1 + 1 + 1, 2, none⟩ (.string ⟨#[]⟩)).setCell ⟨w.heap.size + 1 + 1 + 1, 3, none⟩ (.slice none 0 0)) from bel_sv4 (unhide BD1) (by omega) (.int .i64 11) (.int .i64 t) (.string ⟨#[]⟩) (.slice none 0 0))
   have Kc := hide ((hw.block (w.heap.size + 1 + 1) (blk_lt (unhide Ka)) (by omega)).trans (unhide Ka))
   clear hw
   go_simp
   refine hK.out _ _ (unhide LD _ (unhide D2)) (fun hHeld => ?_)
   clear hK K
   clear c0 c1 c2 c3 cf0 cf1 cf2 cf3
   generalize ((((ue.setCell ⟨w.heap.size + 1 + 1 + 1, 0, none⟩ (.int .i64 11)).setCell ⟨w.heap.size + 1 + 1 + 1, 1, none⟩ (.int .i64 t)).setCell ⟨w.heap.size + 1 + 1 + 1, 2, none⟩ (.string ⟨#[]⟩)).setCell ⟨w.heap.size + 1 + 1 + 1, 3, none⟩ (.slice none 0 0)) = ug at *
   refine wpAnyH_done (by kernel_rfl) ?_ _
   have r0 := (heap_at (unhide Kc) 0).1
   have r1 := (heap_at (unhide Kc) 1).1
   have r2 := (heap_at (unhide Kc) 2).1
   have r3 := (heap_at (unhide Kc) 3).1
   have q0 := (heap_at (unhide Kb) 0).1
   have q1 := (heap_at (unhide Kb) 1).1
   have q2 := (heap_at (unhide Kb) 2).1
   have q3 := (heap_at (unhide Kb) 3).1
   have RES := hide (show StRes ⟨la, ln, lc⟩ ⟨fa, fn, fc⟩ ⟨sa, sn, sc⟩ hs d (stepV d ⟨3, (i : Int), key, tu, val⟩) w (.returned (.tuple #[.agg #[.int .i64 d.next, .slice la ln lc, .slice fa fn fc, .slice sa sn sc], .agg #[.int .i64 11, .int .i64 t, .string ⟨#[]⟩, .slice none 0 0]])) ug from st_old (unhide HI) (unhide BD2) (unhide ST2))
   clear hHeld LD D0 D1 D2 N2 N3 E3 Ka Kb Kc
   go_wp2_with fail
   refine bodyPost_ret (v := .tuple #[.agg #[.int .i64 d.next, .slice la ln lc, .slice fa fn fc, .slice sa sn sc], .agg #[.int .i64 11, .int .i64 t, .string ⟨#[]⟩, .slice none 0 0]]) (by simp [results, Tryz.results36, go_sem, *]) rfl ?_
   exact unhide RES
  have hkn : ¬ (40 : Int) < (key.size : Int) := by omega
  have hkd : decide ((40 : Int) < (key.size : Int)) = false := decide_eq_false hkn
  have htn : ¬ (40 : Int) < (tu.size : Int) := by omega
  have htd : decide ((40 : Int) < (tu.size : Int)) = false := decide_eq_false htn
  have STG := hide (show stepV d ⟨3, (i : Int), key, tu, val⟩ = (⟨d.next, d.list, d.fen ++ [⟨key, tu, t⟩], d.ses⟩, ⟨0, t, ⟨#[]⟩, ((seenV d ⟨true, t, wl⟩).filter (fun e => inK key tu e.k))⟩) by
   rw [unhide STP]
   unfold sesV
   rw [if_neg (by simp), if_neg (by simp), if_neg (by rw [unhide FIT, decide_eq_true hk40, decide_eq_true ht40]; simp)]
   unfold inV
   rw [if_neg (by simp), if_pos rfl]
   unfold fenV
   rw [if_neg (by have := (unhide HS).fen; omega)])
  clear STB FIT hk40 ht40
  have hurW := (unhide BR).size
  have hur0 : w.heap.size ≤ ur.heap.size := by omega
  have hge8 : W.heap.size ≤ b8 := by omega
  have h7u : b6 + 1 < ur.heap.size := blk_lt (unhide K7R)
  have hnb : (seenV d ⟨true, t, wl⟩).length ≤ 1000 := by
   have h1 := seenTo_len d ⟨true, t, wl⟩ _ (Nat.le_refl _)
   rw [seenTo_all] at h1
   have h2 := (unhide HS).list
   have h3 := unhide XL
   simp only at h1
   omega
  have kv := ((unhide BR).block w.heap.size hz0).trans (unhide K0)
  have v0 := (heap_at kv 0).1
  have v1 := (heap_at kv 1).1
  have v2 := (heap_at kv 2).1
  have v3 := (heap_at kv 3).1
  have x0 := (heap_at (unhide K7R) 0).1
  have x1 := (heap_at (unhide K7R) 1).1
  have x2 := (heap_at (unhide K7R) 2).1
  have CS := hide (fun (u : World) (hu : Below ur.heap.size ur u) => (l06Seen_any d.next ⟨la, ln, lc⟩ ⟨fa, fn, fc⟩ ⟨sa, sn, sc⟩ ⟨wa, wn, wc⟩ d ⟨true, t, wl⟩ u ((unhide HI).vr.below ((unhide BH).trans (((unhide BR).trans (hu.mono hurW)).mono (unhide BH).size))) (vrow_of_owns (rb_ownsRow_below (unhide XR) hu)) (by have := (unhide HS).list; have := unhide XL; show d.list.length + wl.length ≤ 1000; omega)).mono fun e u' h => show ∃ g k, e = .returned (.slice (some ⟨g, 0, none⟩) (seenV d ⟨true, t, wl⟩).length k) ∧ EOwns u' ur.heap.size (.slice (some ⟨g, 0, none⟩) (seenV d ⟨true, t, wl⟩).length k) (seenV d ⟨true, t, wl⟩) ∧ Below ur.heap.size ur u' by
   obtain ⟨g, k, h1, h2, h3⟩ := h
   exact ⟨g, k, h1, gd_base h2 hu.size, hu.trans (h3.mono hu.size)⟩)
  unfold vzC sesC at CS
  simp only at CS
  have LDX := hide (show ∀ v : World, (∀ i, i ≠ b8 → i < ur.heap.size → v.heap[i]? = ur.heap[i]?) → (fun u => u.cell? ⟨w.heap.size, 0, none⟩ = some (.int .i64 d.next) ∧ u.cell? ⟨w.heap.size, 1, none⟩ = some (.slice la ln lc) ∧ u.cell? ⟨w.heap.size, 2, none⟩ = some (.slice fa fn fc) ∧ u.cell? ⟨w.heap.size, 3, none⟩ = some (.slice sa sn sc) ∧ u.cell? ⟨b6 + 1, 0, none⟩ = some (.bool true) ∧ u.cell? ⟨b6 + 1, 1, none⟩ = some (.int .i64 t) ∧ u.cell? ⟨b6 + 1, 2, none⟩ = some (.slice wa wn wc) ∧ u.cell? ⟨w.heap.size + 1, 2, none⟩ = some (.string key) ∧ u.cell? ⟨w.heap.size + 1, 3, none⟩ = some (.string tu)) v from fun v hv => ⟨(World.cell?_of_block (a := ⟨w.heap.size, 0, none⟩) (hv w.heap.size (by omega) (by omega))).trans v0, (World.cell?_of_block (a := ⟨w.heap.size, 1, none⟩) (hv w.heap.size (by omega) (by omega))).trans v1, (World.cell?_of_block (a := ⟨w.heap.size, 2, none⟩) (hv w.heap.size (by omega) (by omega))).trans v2, (World.cell?_of_block (a := ⟨w.heap.size, 3, none⟩) (hv w.heap.size (by omega) (by omega))).trans v3, (World.cell?_of_block (a := ⟨b6 + 1, 0, none⟩) (hv (b6 + 1) (by omega) h7u)).trans x0, (World.cell?_of_block (a := ⟨b6 + 1, 1, none⟩) (hv (b6 + 1) (by omega) h7u)).trans x1, (World.cell?_of_block (a := ⟨b6 + 1, 2, none⟩) (hv (b6 + 1) (by omega) h7u)).trans x2, (World.cell?_of_block (a := ⟨w.heap.size + 1, 2, none⟩) (hv (w.heap.size + 1) (by omega) (by omega))).trans a2, (World.cell?_of_block (a := ⟨w.heap.size + 1, 3, none⟩) (hv (w.heap.size + 1) (by omega) (by omega))).trans a3⟩)
  have LDB := hide (show ∀ v : World, Below ur.heap.size ur v → (fun u => u.cell? ⟨w.heap.size, 0, none⟩ = some (.int .i64 d.next) ∧ u.cell? ⟨w.heap.size, 1, none⟩ = some (.slice la ln lc) ∧ u.cell? ⟨w.heap.size, 2, none⟩ = some (.slice fa fn fc) ∧ u.cell? ⟨w.heap.size, 3, none⟩ = some (.slice sa sn sc) ∧ u.cell? ⟨b6 + 1, 0, none⟩ = some (.bool true) ∧ u.cell? ⟨b6 + 1, 1, none⟩ = some (.int .i64 t) ∧ u.cell? ⟨b6 + 1, 2, none⟩ = some (.slice wa wn wc) ∧ u.cell? ⟨w.heap.size + 1, 2, none⟩ = some (.string key) ∧ u.cell? ⟨w.heap.size + 1, 3, none⟩ = some (.string tu)) v from fun v hv => unhide LDX v (fun i _ hi => hv.block i hi))
  have D0 : Below ur.heap.size ur ur.drew := (Below.refl _ _).drew
  clear ka kv
  go_upto_region 39 with fail
  clear a0 a1 a2 a3 a4 v0 v1 v2 v3 x0 x1 x2
  refine wp_region_held_drew (S := (fun u => u.cell? ⟨w.heap.size, 0, none⟩ = some (.int .i64 d.next) ∧ u.cell? ⟨w.heap.size, 1, none⟩ = some (.slice la ln lc) ∧ u.cell? ⟨w.heap.size, 2, none⟩ = some (.slice fa fn fc) ∧ u.cell? ⟨w.heap.size, 3, none⟩ = some (.slice sa sn sc) ∧ u.cell? ⟨b6 + 1, 0, none⟩ = some (.bool true) ∧ u.cell? ⟨b6 + 1, 1, none⟩ = some (.int .i64 t) ∧ u.cell? ⟨b6 + 1, 2, none⟩ = some (.slice wa wn wc) ∧ u.cell? ⟨w.heap.size + 1, 2, none⟩ = some (.string key) ∧ u.cell? ⟨w.heap.size + 1, 3, none⟩ = some (.string tu))) (by kernel_rfl) (unhide LDB _ D0) (fun hHeld => ?_)
  refine tk 0 152 rfl rfl hHeld ?_
  simp only [Act.put, lA, lB, lC]
  refine tk 1 153 rfl rfl hHeld ?_
  simp only [Act.put, lA, lB, lC]
  refine tk 3 155 rfl rfl hHeld ?_
  simp only [Act.put, lA, lB, lC]
  refine tk 4 156 rfl rfl hHeld ?_
  simp only [Act.put, lA, lB, lC]
  refine tk 5 157 rfl rfl hHeld ?_
  simp only [Act.put, lA, lB, lC]
  refine tk 6 158 rfl rfl hHeld ?_
  simp only [Act.put, lA, lB, lC]
  refine rd [2] (.cons rfl (fun K hK => ?_) .nil)
  go_simp
  refine (unhide CS _ D0).mono ?_
  rintro e w3 ⟨g9, k9, rfl, o9, b9⟩
  have O9 := hide o9
  clear o9
  refine hK.out _ _ (unhide LDB _ b9) (fun hHeld => ?_)
  clear hK K
  refine rd [7] (.cons rfl (fun K hK => ?_) .nil)
  go_simp
  refine (l05Range_any (some ⟨g9, 0, none⟩) (seenV d ⟨true, t, wl⟩).length k9 (seenV d ⟨true, t, wl⟩) key tu w3 (erow_of_owns (unhide O9)) hnb).mono ?_
  rintro e w4 ⟨aL, nL, cL, rfl, oL, bL⟩
  have b4 := b9.trans (bL.mono b9.size)
  have k8 := (b4.block b8 (blk_lt (unhide K8))).trans (unhide K8)
  have p3 := (heap_at k8 3).1
  have pf3 := (heap_at k8 3).2
  have hw4 : WrB (fun k => k = b8) w4 (w4.setCell ⟨b8, 3, none⟩ (.slice aL nL cL)) := set1_wr _ _ _ _
  have KR0 := hide (show (w4.setCell ⟨b8, 3, none⟩ (.slice aL nL cL)).heap[b8]? = some (.cells #[.int .i64 0, .int .i64 t, .string ⟨#[]⟩, .slice aL nL cL] 40 (0, 0)) by have := heap_set k8 3 (.slice aL nL cL); simpa using this)
  have OE := hide (show EOwns (w4.setCell ⟨b8, 3, none⟩ (.slice aL nL cL)) ur.heap.size (.slice aL nL cL) ((seenV d ⟨true, t, wl⟩).filter (fun e => inK key tu e.k)) from gd_base (own_keep oL k8 (by decide) hw4) b9.size)
  have B4w := (unhide BR).trans (b4.mono hurW)
  have BUX := hide (show Below W.heap.size W (w4.setCell ⟨b8, 3, none⟩ (.slice aL nL cL)) from B4w.trans (WrB.below hw4 (fun k e => by rw [e]; exact hge8) B4w.size))
  have OUX := hide (show VzOwn (w4.setCell ⟨b8, 3, none⟩ (.slice aL nL cL)) W.heap.size ⟨la1, ln1, lc1⟩ ⟨fa1, fn1, fc1⟩ ⟨some ⟨g, 0, none⟩, 4, sc1⟩ hs1 d from ((unhide OR).below b4).box k8 (by decide) (by decide) (by decide) hw4)
  have EX := hide (show ∀ i, i ≠ b8 → i < ur.heap.size → (w4.setCell ⟨b8, 3, none⟩ (.slice aL nL cL)).heap[i]? = ur.heap[i]? from fun i h1 h2 => (hw4.block i (Nat.lt_of_lt_of_le h2 b4.size) h1).trans (b4.block i h2))
  have LD4 := unhide LDB _ b4
  clear oL bL hw4 B4w k8 O9
  refine hK.out _ _ (LD4) (fun hHeld => ?_)
  clear hK K
  refine tk 8 160 rfl rfl hHeld ?_
  simp only [Act.put, lA, lB, lC]
  refine rd [9] (.cons rfl (fun K hK => ?_) .nil)
  go_simp
  refine hK.out _ _ (unhide LDX _ (unhide EX)) (fun hHeld => ?_)
  clear hK K
  refine wpAnyH_done (by kernel_rfl) ?_ _
  clear hHeld LDB LDX CS p3 pf3 b9 b4 LD4 D0
  generalize w4.setCell ⟨b8, 3, none⟩ (.slice aL nL cL) = u0 at *
  have kv := ((unhide BUX).block w.heap.size hz0).trans (unhide K0)
  have ka := ((unhide BUX).block (w.heap.size + 1) hz1).trans (unhide K1)
  have k6 := (unhide EX b6 (by omega) (by omega)).trans (unhide K6R)
  have k7 := (unhide EX (b6 + 1) (by omega) (blk_lt (unhide K7R))).trans (unhide K7R)
  have v0 := (heap_at kv 0).1
  have v1 := (heap_at kv 1).1
  have v2 := (heap_at kv 2).1
  have v3 := (heap_at kv 3).1
  have z0 := (heap_at k6 0).1
  have z1 := (heap_at k6 1).1
  have z2 := (heap_at k6 2).1
  have z3 := (heap_at k6 3).1
  have x1 := (heap_at k7 1).1
  have a2 := (heap_at ka 2).1
  have a3 := (heap_at ka 3).1
  have p0 := (heap_at (unhide KR0) 0).1
  have p1 := (heap_at (unhide KR0) 1).1
  have p2 := (heap_at (unhide KR0) 2).1
  have p3 := (heap_at (unhide KR0) 3).1
  have CF := hide (l06Fence_any W.heap.size d ⟨la1, ln1, lc1⟩ ⟨fa1, fn1, fc1⟩ ⟨some ⟨g, 0, none⟩, 4, sc1⟩ hs1 ⟨key, tu, t⟩ ⟨0, t, ⟨#[]⟩, []⟩ ⟨aL, nL, cL⟩ d.next ⟨la, ln, lc⟩ ⟨fa, fn, fc⟩ ⟨sa, sn, sc⟩ u0 (unhide OUX) (unhide BUX).size (unhide HS).fen)
  unfold vzC repC fv at CF
  simp only at CF
  clear kv ka k6 k7 KR0 EX K6R K7R K8 OR BR XR
  go_wp2_with fail
  clear v0 v1 v2 v3 z0 z1 z2 z3 x1 p0 p1 p2 p3 a2 a3
  refine (unhide CF).mono ?_
  rintro e w6 ⟨⟨fa6, fn6, fc6⟩, rfl, hO6, hB6, hW6⟩
  have B6 := hide ((unhide BUX).trans hB6)
  have ky := ((unhide B6).block (w.heap.size + 1 + 1) hz2).trans (unhide K2)
  have kt := ((unhide B6).block (w.heap.size + 1 + 1 + 1) hz3).trans (unhide K3)
  have y0 := (heap_at ky 0).1
  have y1 := (heap_at ky 1).1
  have y2 := (heap_at ky 2).1
  have y3 := (heap_at ky 3).1
  have yf0 := (heap_at ky 0).2
  have yf1 := (heap_at ky 1).2
  have yf2 := (heap_at ky 2).2
  have yf3 := (heap_at ky 3).2
  have tt0 := (heap_at kt 0).1
  have tt1 := (heap_at kt 1).1
  have tt2 := (heap_at kt 2).1
  have tt3 := (heap_at kt 3).1
  have ttf0 := (heap_at kt 0).2
  have ttf1 := (heap_at kt 1).2
  have ttf2 := (heap_at kt 2).2
  have ttf3 := (heap_at kt 3).2
  have hwy : WrB (fun i => i = w.heap.size + 1 + 1) w6 ((((w6.setCell ⟨w.heap.size + 1 + 1, 0, none⟩ (.int .i64 d.next)).setCell ⟨w.heap.size + 1 + 1, 1, none⟩ (.slice la1 ln1 lc1)).setCell ⟨w.heap.size + 1 + 1, 2, none⟩ (.slice fa6 fn6 fc6)).setCell ⟨w.heap.size + 1 + 1, 3, none⟩ (.slice (some ⟨g, 0, none⟩) 4 sc1)) := sv4_wr w6 (w.heap.size + 1 + 1) (.int .i64 d.next) (.slice la1 ln1 lc1) (.slice fa6 fn6 fc6) (.slice (some ⟨g, 0, none⟩) 4 sc1)
  have hwt : WrB (fun i => i = w.heap.size + 1 + 1 + 1) ((((w6.setCell ⟨w.heap.size + 1 + 1, 0, none⟩ (.int .i64 d.next)).setCell ⟨w.heap.size + 1 + 1, 1, none⟩ (.slice la1 ln1 lc1)).setCell ⟨w.heap.size + 1 + 1, 2, none⟩ (.slice fa6 fn6 fc6)).setCell ⟨w.heap.size + 1 + 1, 3, none⟩ (.slice (some ⟨g, 0, none⟩) 4 sc1)) ((((((((w6.setCell ⟨w.heap.size + 1 + 1, 0, none⟩ (.int .i64 d.next)).setCell ⟨w.heap.size + 1 + 1, 1, none⟩ (.slice la1 ln1 lc1)).setCell ⟨w.heap.size + 1 + 1, 2, none⟩ (.slice fa6 fn6 fc6)).setCell ⟨w.heap.size + 1 + 1, 3, none⟩ (.slice (some ⟨g, 0, none⟩) 4 sc1)).setCell ⟨w.heap.size + 1 + 1 + 1, 0, none⟩ (.int .i64 0)).setCell ⟨w.heap.size + 1 + 1 + 1, 1, none⟩ (.int .i64 t)).setCell ⟨w.heap.size + 1 + 1 + 1, 2, none⟩ (.string ⟨#[]⟩)).setCell ⟨w.heap.size + 1 + 1 + 1, 3, none⟩ (.slice aL nL cL)) := sv4_wr _ (w.heap.size + 1 + 1 + 1) (.int .i64 0) (.int .i64 t) (.string ⟨#[]⟩) (.slice aL nL cL)
  have BG := hide (show Below w.heap.size w ((((((((w6.setCell ⟨w.heap.size + 1 + 1, 0, none⟩ (.int .i64 d.next)).setCell ⟨w.heap.size + 1 + 1, 1, none⟩ (.slice la1 ln1 lc1)).setCell ⟨w.heap.size + 1 + 1, 2, none⟩ (.slice fa6 fn6 fc6)).setCell ⟨w.heap.size + 1 + 1, 3, none⟩ (.slice (some ⟨g, 0, none⟩) 4 sc1)).setCell ⟨w.heap.size + 1 + 1 + 1, 0, none⟩ (.int .i64 0)).setCell ⟨w.heap.size + 1 + 1 + 1, 1, none⟩ (.int .i64 t)).setCell ⟨w.heap.size + 1 + 1 + 1, 2, none⟩ (.string ⟨#[]⟩)).setCell ⟨w.heap.size + 1 + 1 + 1, 3, none⟩ (.slice aL nL cL)) from bel_sv4 (bel_sv4 ((unhide BH).trans ((unhide B6).mono (unhide BH).size)) (by omega) _ _ _ _) (by omega) _ _ _ _)
  have OG := (hO6.wr hwy (fun i e => by rw [e]; exact hz2)).wr hwt (fun i e => by rw [e]; exact hz3)
  have hOE := unhide OE
  have hlo : ∀ q, (Value.slice aL nL cL).ownBlock = some q → ur.heap.size ≤ q := fun q hq => (hOE.lt q hq).1
  have OLG := gd_base (rr_owns_wr (rr_owns_wr (rr_owns_wr hOE hW6 (fun q hq => own_other hOE (unhide OUX).fo (by decide) hq)) hwy (fun q hq e => by have := hlo q hq; omega)) hwt (fun q hq e => by have := hlo q hq; omega)) hur0
  have RES := hide (show StRes ⟨la, ln, lc⟩ ⟨fa, fn, fc⟩ ⟨sa, sn, sc⟩ hs d (stepV d ⟨3, (i : Int), key, tu, val⟩) w (.returned (.tuple #[.agg #[.int .i64 d.next, .slice la1 ln1 lc1, .slice fa6 fn6 fc6, .slice (some ⟨g, 0, none⟩) 4 sc1], .agg #[.int .i64 0, .int .i64 t, .string ⟨#[]⟩, .slice aL nL cL]])) ((((((((w6.setCell ⟨w.heap.size + 1 + 1, 0, none⟩ (.int .i64 d.next)).setCell ⟨w.heap.size + 1 + 1, 1, none⟩ (.slice la1 ln1 lc1)).setCell ⟨w.heap.size + 1 + 1, 2, none⟩ (.slice fa6 fn6 fc6)).setCell ⟨w.heap.size + 1 + 1, 3, none⟩ (.slice (some ⟨g, 0, none⟩) 4 sc1)).setCell ⟨w.heap.size + 1 + 1 + 1, 0, none⟩ (.int .i64 0)).setCell ⟨w.heap.size + 1 + 1 + 1, 1, none⟩ (.int .i64 t)).setCell ⟨w.heap.size + 1 + 1 + 1, 2, none⟩ (.string ⟨#[]⟩)).setCell ⟨w.heap.size + 1 + 1 + 1, 3, none⟩ (.slice aL nL cL)) from (by
   rw [unhide STG]
   exact ⟨⟨la1, ln1, lc1⟩, ⟨fa6, fn6, fc6⟩, ⟨some ⟨g, 0, none⟩, 4, sc1⟩, hs1, ⟨aL, nL, cL⟩, rfl, (.inr (OG.dn (Nat.le_of_lt hz0))), OLG, unhide BG⟩))
  clear hwy hwt OG OLG hlo hOE ky kt hO6 hB6 hW6
  go_wp2_with fail
  refine bodyPost_ret (v := .tuple #[.agg #[.int .i64 d.next, .slice la1 ln1 lc1, .slice fa6 fn6 fc6, .slice (some ⟨g, 0, none⟩) 4 sc1], .agg #[.int .i64 0, .int .i64 t, .string ⟨#[]⟩, .slice aL nL cL]]) (by simp [results, Tryz.results36, go_sem, *]) rfl ?_
  exact unhide RES
end Go.Proofs.YtdnjgbckkmbmfaaGreat

namespace Go.Proofs.YtdnjgbckkmbmfaaGreat
open Go.RowKit

set_option maxHeartbeats 8000000 in
theorem l06Step_4 (d : VsD) (i : Nat) (key tu val : ByteArray) (l f s : Sl) (hs : List SeH) (w : World) (hI : VzIn w l f s hs d) (hS : SmV d) (hi : i < 4) :
  Calls Tryz.prog 36 #[.agg (vzC d.next l f s), .agg #[.int .i64 4, .int .i64 (i : Int), .string key, .string tu, .string val]] w fun e w' => StRes l f s hs d (stepV d ⟨4, (i : Int), key, tu, val⟩) w e w' := by
 have hz := allocC_size [(vzC d.next l f s, 29), (#[.int .i64 4, .int .i64 (i : Int), .string key, .string tu, .string val], 37), (#[.int .i64 0, .slice none 0 0, .slice none 0 0, .slice none 0 0], 29), (#[.int .i64 0, .int .i64 0, .string ⟨#[]⟩, .slice none 0 0], 40)] w
 have b1 := allocC_bel [(vzC d.next l f s, 29), (#[.int .i64 4, .int .i64 (i : Int), .string key, .string tu, .string val], 37), (#[.int .i64 0, .slice none 0 0, .slice none 0 0, .slice none 0 0], 29), (#[.int .i64 0, .int .i64 0, .string ⟨#[]⟩, .slice none 0 0], 40)] w
 have AT := allocC_at [(vzC d.next l f s, 29), (#[.int .i64 4, .int .i64 (i : Int), .string key, .string tu, .string val], 37), (#[.int .i64 0, .slice none 0 0, .slice none 0 0, .slice none 0 0], 29), (#[.int .i64 0, .int .i64 0, .string ⟨#[]⟩, .slice none 0 0], 40)] w
 obtain ⟨W, hW⟩ : ∃ W, W = allocC w [(vzC d.next l f s, 29), (#[.int .i64 4, .int .i64 (i : Int), .string key, .string tu, .string val], 37), (#[.int .i64 0, .slice none 0 0, .slice none 0 0, .slice none 0 0], 29), (#[.int .i64 0, .int .i64 0, .string ⟨#[]⟩, .slice none 0 0], 40)] := ⟨_, rfl⟩
 rw [← hW] at hz b1 AT
 simp only [List.length_cons, List.length_nil] at hz
 have k0 : W.heap[w.heap.size]? = some (.cells (vzC d.next l f s) 29 (0, 0)) := AT 0 _ _ rfl
 have k1 : W.heap[w.heap.size + 1]? = some (.cells #[.int .i64 4, .int .i64 (i : Int), .string key, .string tu, .string val] 37 (0, 0)) := AT 1 _ _ rfl
 have k2 : W.heap[w.heap.size + 1 + 1]? = some (.cells #[.int .i64 0, .slice none 0 0, .slice none 0 0, .slice none 0 0] 29 (0, 0)) := AT 2 _ _ rfl
 have k3 : W.heap[w.heap.size + 1 + 1 + 1]? = some (.cells #[.int .i64 0, .int .i64 0, .string ⟨#[]⟩, .slice none 0 0] 40 (0, 0)) := AT 3 _ _ rfl
 have hz0 : w.heap.size < W.heap.size := by omega
 have hz1 : w.heap.size + 1 < W.heap.size := by omega
 have hz2 : w.heap.size + 1 + 1 < W.heap.size := by omega
 have hz3 : w.heap.size + 1 + 1 + 1 < W.heap.size := by omega
 unfold allocC allocC allocC allocC allocC at hW
 have CO := hide (l06Own_any d l f s hs W (hI.below b1) (by have := hI.vr.1; have := hS.list; omega) (by have := hI.fr.1; have := hS.fen; omega) (by have := hI.len; have := hS.ses; omega) (fun h hh => by
  obtain ⟨k, hk, rfl⟩ := List.getElem_of_mem hh
  obtain ⟨hd, he⟩ := hI.at hk
  have h1 := (SeIn.row hI.sr hk).1
  have h2 := hS.ws d.ses[k] (List.getElem_mem hd)
  rw [← he] at h2
  omega))
 have BH := hide b1
 have HI := hide hI
 have HS := hide hS
 obtain ⟨la, ln, lc⟩ := l
 obtain ⟨fa, fn, fc⟩ := f
 obtain ⟨sa, sn, sc⟩ := s
 unfold vzC at k0 hW CO ⊢
 simp only at k0 hW CO ⊢
 have K0 := hide k0
 have K1 := hide k1
 have K2 := hide k2
 have K3 := hide k3
 have hnx := hS.nx
 have hi0 : decide ((0 : Int) ≤ (i : Int)) = true := decide_eq_true (by omega)
 have hi3 : decide ((i : Int) ≤ 3) = true := decide_eq_true (by omega)
 have a0 := (heap_at k1 0).1
 have a1 := (heap_at k1 1).1
 have v0 := (heap_at k0 0).1
 have v1 := (heap_at k0 1).1
 have v2 := (heap_at k0 2).1
 have v3 := (heap_at k0 3).1
 clear hI hS hz b1 AT k0 k1 k2 k3
 go_enter Tryz.func36, Tryz.ntmps36
 go_wp2_with (go_at_call 75; refine (l01In_any _ _ _ _).mono ?_; rintro e w9 ⟨rfl, rfl⟩)
 rw [← hW]
 clear hW
 refine (unhide CO).mono ?_
 rintro e w1 ⟨⟨la1, ln1, lc1⟩, ⟨fa1, fn1, fc1⟩, ⟨sa1, sn1, sc1⟩, hs1, rfl, hO, hb1⟩
 clear a0 a1 v0 v1 v2 v3 hi0 hi3 CO
 have hl4 : hs1.length = 4 := by rw [hO.reads.len.2]; exact (unhide HS).ses
 have hih : i < hs1.length := by omega
 obtain ⟨g, hsa, hsn, hgB, hgw, c0, c1, c2, hwo, hid, hxd⟩ := hO.sesAt hih
 simp only at hsa hsn
 rw [hl4] at hsn
 subst hsa hsn
 unfold vzC
 simp only
 have STP := hide (show stepV d ⟨4, (i : Int), key, tu, val⟩ = sesV d ⟨4, (i : Int), key, tu, val⟩ i hs1[i].X by
  unfold stepV
  rw [if_neg (by simp), if_neg (by simp only; omega), hxd]
  congr 1
  rw [show ((i : Nat) : Int).toNat = i by omega, List.getD_eq_getElem?_getD, List.getElem?_eq_getElem hid]
  rfl)
 have XL := hide (show hs1[i].X.ws.length ≤ 8 by rw [hxd]; exact (unhide HS).ws _ (List.getElem_mem hid))
 have SX := hide hxd
 clear hxd
 generalize hx1 : hs1[i] = x at *
 have HX := hide hx1
 clear hx1
 obtain ⟨⟨o, t, wl⟩, ⟨wa, wn, wc⟩⟩ := x
 simp only at c0 c1 c2 hwo STP XL
 have bA : Below w1.heap.size w1 ((w1.alloc (.cells #[.int .i64 d.next, .slice la1 ln1 lc1, .slice fa1 fn1 fc1, .slice (some ⟨g, 0, none⟩) 4 sc1] 29)).alloc (.cells #[.bool o, .int .i64 t, .slice wa wn wc] 55)) := ((Below.refl _ _).alloc (Nat.le_refl _) _).alloc (by simp) _
 obtain ⟨-, k6, k7, z7⟩ := twoBx (w := w1) (c1 := #[.int .i64 d.next, .slice la1 ln1 lc1, .slice fa1 fn1 fc1, .slice (some ⟨g, 0, none⟩) 4 sc1]) (t1 := 29) (c2 := #[.bool o, .int .i64 t, .slice wa wn wc]) (t2 := 55) rfl
 have hW1 := hb1.size
 have NBS := hide (fun q hq => (hO.so.lt q hq).2)
 have NBV := hide (fun q hq => (hO.vo.lt q hq).2)
 have NBF := hide (fun q hq => (hO.fo.lt q hq).2)
 have OU := hide (hO.below bA)
 have BU := hide (hb1.trans (bA.mono hW1))
 have OX := hide (rb_ownsRow_below hwo bA)
 have K6 := hide k6
 have K7 := hide k7
 have hb6 : W.heap.size ≤ w1.heap.size := hW1
 have a1 : (w1.alloc (.cells #[.int .i64 d.next, .slice la1 ln1 lc1, .slice fa1 fn1 fc1, .slice (some ⟨g, 0, none⟩) 4 sc1] 29)).cell? ⟨w.heap.size + 1, 1, none⟩ = some (.int .i64 (i : Int)) := (((Below.refl w1.heap.size w1).alloc (Nat.le_refl _) (.cells #[.int .i64 d.next, .slice la1 ln1 lc1, .slice fa1 fn1 fc1, .slice (some ⟨g, 0, none⟩) 4 sc1] 29)).cell (p := ⟨w.heap.size + 1, 1, none⟩) (by show w.heap.size + 1 < w1.heap.size; omega)).trans ((heap_at ((hb1.block (w.heap.size + 1) hz1).trans (unhide K1)) 1).1)
 have d0 := (((Below.refl w1.heap.size w1).alloc (Nat.le_refl _) (.cells #[.int .i64 d.next, .slice la1 ln1 lc1, .slice fa1 fn1 fc1, .slice (some ⟨g, 0, none⟩) 4 sc1] 29)).cell (p := ⟨g, i * 3, none⟩) hgw).trans c0
 have d1 := (((Below.refl w1.heap.size w1).alloc (Nat.le_refl _) (.cells #[.int .i64 d.next, .slice la1 ln1 lc1, .slice fa1 fn1 fc1, .slice (some ⟨g, 0, none⟩) 4 sc1] 29)).cell (p := ⟨g, i * 3 + 1, none⟩) hgw).trans c1
 have d2 := (((Below.refl w1.heap.size w1).alloc (Nat.le_refl _) (.cells #[.int .i64 d.next, .slice la1 ln1 lc1, .slice fa1 fn1 fc1, .slice (some ⟨g, 0, none⟩) 4 sc1] 29)).cell (p := ⟨g, i * 3 + 2, none⟩) hgw).trans c2
 have hin : (i : Int) < 4 := by omega
 clear hO hwo bA k6 k7 c0 c1 c2 hb1 z7
 go_upto_region 7 with fail
 clear d0 d1 d2 a1 hin
 generalize (w1.alloc (.cells #[.int .i64 d.next, .slice la1 ln1 lc1, .slice fa1 fn1 fc1, .slice (some ⟨g, 0, none⟩) 4 sc1] 29)).alloc (.cells #[.bool o, .int .i64 t, .slice wa wn wc] 55) = u at *
 generalize hb6e : w1.heap.size = b6 at *
 clear hb6e
 cases o with
 | false =>
  have kv := ((unhide BU).block w.heap.size hz0).trans (unhide K0)
  have v0 := (heap_at kv 0).1
  have v1 := (heap_at kv 1).1
  have v2 := (heap_at kv 2).1
  have v3 := (heap_at kv 3).1
  have ka := ((unhide BU).block (w.heap.size + 1) hz1).trans (unhide K1)
  have a0 := (heap_at ka 0).1
  have a1 := (heap_at ka 1).1
  have a2 := (heap_at ka 2).1
  have a3 := (heap_at ka 3).1
  have a4 := (heap_at ka 4).1
  have ky := ((unhide BU).block (w.heap.size + 1 + 1) hz2).trans (unhide K2)
  have y0 := (heap_at ky 0).1
  have y1 := (heap_at ky 1).1
  have y2 := (heap_at ky 2).1
  have y3 := (heap_at ky 3).1
  have yf0 := (heap_at ky 0).2
  have yf1 := (heap_at ky 1).2
  have yf2 := (heap_at ky 2).2
  have yf3 := (heap_at ky 3).2
  have kt := ((unhide BU).block (w.heap.size + 1 + 1 + 1) hz3).trans (unhide K3)
  have t0 := (heap_at kt 0).1
  have t1 := (heap_at kt 1).1
  have t2 := (heap_at kt 2).1
  have t3 := (heap_at kt 3).1
  have tf0 := (heap_at kt 0).2
  have tf1 := (heap_at kt 1).2
  have tf2 := (heap_at kt 2).2
  have tf3 := (heap_at kt 3).2
  have x0 := (heap_at (unhide K7) 0).1
  have RES := hide (show StRes ⟨la, ln, lc⟩ ⟨fa, fn, fc⟩ ⟨sa, sn, sc⟩ hs d (stepV d ⟨4, (i : Int), key, tu, val⟩) w (.returned (.tuple #[.agg #[.int .i64 d.next, .slice la ln lc, .slice fa fn fc, .slice sa sn sc], .agg #[.int .i64 10, .int .i64 0, .string ⟨#[]⟩, .slice none 0 0]])) ((((((((u.setCell ⟨w.heap.size + 1 + 1, 0, none⟩ (.int .i64 d.next)).setCell ⟨w.heap.size + 1 + 1, 1, none⟩ (.slice la ln lc)).setCell ⟨w.heap.size + 1 + 1, 2, none⟩ (.slice fa fn fc)).setCell ⟨w.heap.size + 1 + 1, 3, none⟩ (.slice sa sn sc)).setCell ⟨w.heap.size + 1 + 1 + 1, 0, none⟩ (.int .i64 10)).setCell ⟨w.heap.size + 1 + 1 + 1, 1, none⟩ (.int .i64 0)).setCell ⟨w.heap.size + 1 + 1 + 1, 2, none⟩ (.string ⟨#[]⟩)).setCell ⟨w.heap.size + 1 + 1 + 1, 3, none⟩ (.slice none 0 0)) from st_old (unhide HI) (bel_sv4 (bel_sv4 ((unhide BH).trans ((unhide BU).mono (unhide BH).size)) (by omega) _ _ _ _) (by omega) _ _ _ _) (by rw [unhide STP]; unfold sesV; rw [if_neg (by simp), if_pos rfl]))
  go_wp2_with fail
  refine bodyPost_ret (v := .tuple #[.agg #[.int .i64 d.next, .slice la ln lc, .slice fa fn fc, .slice sa sn sc], .agg #[.int .i64 10, .int .i64 0, .string ⟨#[]⟩, .slice none 0 0]]) (by simp [results, Tryz.results36, go_sem, *]) rfl ?_
  exact unhide RES
 | true =>
  have x0 := (heap_at (unhide K7) 0).1
  have x1 := (heap_at (unhide K7) 1).1
  have ka := ((unhide BU).block (w.heap.size + 1) hz1).trans (unhide K1)
  have a0 := (heap_at ka 0).1
  have bR : Below u.heap.size u (u.alloc (.cells #[.int .i64 0, .int .i64 t, .string ⟨#[]⟩, .slice none 0 0] 40)) := (Below.refl _ _).alloc (Nat.le_refl _) _
  have k8 := heap_alloc_new u (.cells #[.int .i64 0, .int .i64 t, .string ⟨#[]⟩, .slice none 0 0] 40)
  have OR := hide ((unhide OU).below bR)
  have BR := hide ((unhide BU).trans (bR.mono (unhide BU).size))
  have XR := hide (rb_ownsRow_below (unhide OX) bR)
  have K6R := hide ((bR.block b6 (blk_lt (unhide K6))).trans (unhide K6))
  have K7R := hide ((bR.block (b6 + 1) (blk_lt (unhide K7))).trans (unhide K7))
  have K8 := hide k8
  have h78 : b6 + 1 < u.heap.size := blk_lt (unhide K7)
  clear OU BU OX K6 K7 k8 bR ka
  go_upto_region 18 with fail
  clear x0 x1 a0
  generalize u.alloc (.cells #[.int .i64 0, .int .i64 t, .string ⟨#[]⟩, .slice none 0 0] 40) = ur at *
  generalize hb8e : u.heap.size = b8 at *
  clear hb8e
  have ka := ((unhide BR).block (w.heap.size + 1) hz1).trans (unhide K1)
  have a0 := (heap_at ka 0).1
  have a1 := (heap_at ka 1).1
  have a2 := (heap_at ka 2).1
  have a3 := (heap_at ka 3).1
  have a4 := (heap_at ka 4).1
  have CK := hide (fun u => l04Key_any key u)
  have FIT := hide (show fitA ⟨4, (i : Int), key, tu, val⟩ = (keyK key && valK val) by unfold fitA; rw [if_pos (by simp)])
  have STB := hide (show fitA ⟨4, (i : Int), key, tu, val⟩ = false → stepV d ⟨4, (i : Int), key, tu, val⟩ = (d, repV 11 t) from fun h => by rw [unhide STP]; unfold sesV; rw [if_neg (by simp), if_neg (by simp), if_pos h])
  generalize hkk : keyK key = kk at *
  by_cases hok : kk = true ∧ val.size ≤ 100
  case neg =>
   have ST2 := hide (unhide STB (by
    rw [unhide FIT]
    cases kk
    ·rfl
    ·unfold valK
     rw [decide_eq_false (fun h => hok ⟨rfl, h⟩)]
     rfl))
   clear STB FIT hkk
   cases kk with
   | false =>
    clear hok
    have kvv := ((unhide BR).block w.heap.size hz0).trans (unhide K0)
    have v0 := (heap_at kvv 0).1
    have v1 := (heap_at kvv 1).1
    have v2 := (heap_at kvv 2).1
    have v3 := (heap_at kvv 3).1
    have k7x := (heap_at (unhide K7R) 1).1
    have N2 := hide (((unhide BR).block (w.heap.size + 1 + 1) hz2).trans (unhide K2))
    have N3 := hide (((unhide BR).block (w.heap.size + 1 + 1 + 1) hz3).trans (unhide K3))
    have BF := hide ((unhide BH).trans ((unhide BR).mono (unhide BH).size))
    have h70 : b6 + 1 < ur.heap.size := blk_lt (unhide K7R)
    have h6W : W.heap.size ≤ ur.heap.size := (unhide BR).size
    have LD := hide (show ∀ v : World, (∀ i, i ≠ w.heap.size + 1 + 1 → i ≠ w.heap.size + 1 + 1 + 1 → i < ur.heap.size → v.heap[i]? = ur.heap[i]?) → (fun u => u.cell? ⟨w.heap.size, 0, none⟩ = some (.int .i64 d.next) ∧ u.cell? ⟨w.heap.size, 1, none⟩ = some (.slice la ln lc) ∧ u.cell? ⟨w.heap.size, 2, none⟩ = some (.slice fa fn fc) ∧ u.cell? ⟨w.heap.size, 3, none⟩ = some (.slice sa sn sc) ∧ u.cell? ⟨b6 + 1, 1, none⟩ = some (.int .i64 t)) v from fun v hv => ⟨(World.cell?_of_block (a := ⟨w.heap.size, 0, none⟩) (hv w.heap.size (by omega) (by omega) (by omega))).trans v0, (World.cell?_of_block (a := ⟨w.heap.size, 1, none⟩) (hv w.heap.size (by omega) (by omega) (by omega))).trans v1, (World.cell?_of_block (a := ⟨w.heap.size, 2, none⟩) (hv w.heap.size (by omega) (by omega) (by omega))).trans v2, (World.cell?_of_block (a := ⟨w.heap.size, 3, none⟩) (hv w.heap.size (by omega) (by omega) (by omega))).trans v3, (World.cell?_of_block (a := ⟨b6 + 1, 1, none⟩) (hv (b6 + 1) (by omega) (by omega) h70)).trans k7x⟩)
    clear v0 v1 v2 v3 k7x kvv
    have D0 := hide (show ∀ i, i ≠ w.heap.size + 1 + 1 → i ≠ w.heap.size + 1 + 1 + 1 → i < ur.heap.size → ur.drew.heap[i]? = ur.heap[i]? from fun _ _ _ _ => rfl)
    have ZD0 := hide (show ur.heap.size ≤ ur.drew.heap.size from Nat.le_refl _)
    have BD0 := hide (show Below w.heap.size w ur.drew from (unhide BF).drew)
    replace N2 := hide (show ur.drew.heap[w.heap.size + 1 + 1]? = _ from unhide N2)
    replace N3 := hide (show ur.drew.heap[w.heap.size + 1 + 1 + 1]? = _ from unhide N3)
    go_upto_region 23 with (go_at_call 76; refine (unhide CK _).mono ?_; rintro e w9 ⟨rfl, hw9⟩; subst w9)
    clear a0 a1 a2 a3 a4 CK
    refine wp_region_held_drew (S := (fun u => u.cell? ⟨w.heap.size, 0, none⟩ = some (.int .i64 d.next) ∧ u.cell? ⟨w.heap.size, 1, none⟩ = some (.slice la ln lc) ∧ u.cell? ⟨w.heap.size, 2, none⟩ = some (.slice fa fn fc) ∧ u.cell? ⟨w.heap.size, 3, none⟩ = some (.slice sa sn sc) ∧ u.cell? ⟨b6 + 1, 1, none⟩ = some (.int .i64 t))) (by kernel_rfl) (unhide LD _ (unhide D0)) (fun hHeld => ?_)
    generalize ur.drew = ud at *
    refine tk 0 87 rfl rfl hHeld ?_
    simp only [Act.put, lA, lB, lC]
    refine tk 1 88 rfl rfl hHeld ?_
    simp only [Act.put, lA, lB, lC]
    refine tk 2 89 rfl rfl hHeld ?_
    simp only [Act.put, lA, lB, lC]
    refine tk 3 90 rfl rfl hHeld ?_
    simp only [Act.put, lA, lB, lC]
    refine rd [4] (.cons rfl (fun K hK => ?_) .nil)
    have c0 := (heap_at (unhide N2) 0).1
    have c1 := (heap_at (unhide N2) 1).1
    have c2 := (heap_at (unhide N2) 2).1
    have c3 := (heap_at (unhide N2) 3).1
    have cf0 := (heap_at (unhide N2) 0).2
    have cf1 := (heap_at (unhide N2) 1).2
    have cf2 := (heap_at (unhide N2) 2).2
    have cf3 := (heap_at (unhide N2) 3).2
    have hw : WrB (fun i => i = w.heap.size + 1 + 1) ud ((((ud.setCell ⟨w.heap.size + 1 + 1, 0, none⟩ (.int .i64 d.next)).setCell ⟨w.heap.size + 1 + 1, 1, none⟩ (.slice la ln lc)).setCell ⟨w.heap.size + 1 + 1, 2, none⟩ (.slice fa fn fc)).setCell ⟨w.heap.size + 1 + 1, 3, none⟩ (.slice sa sn sc)) := sv4_wr ud (w.heap.size + 1 + 1) (.int .i64 d.next) (.slice la ln lc) (.slice fa fn fc) (.slice sa sn sc)
    have D1 := hide (show ∀ i, i ≠ w.heap.size + 1 + 1 → i ≠ w.heap.size + 1 + 1 + 1 → i < ur.heap.size → ((((ud.setCell ⟨w.heap.size + 1 + 1, 0, none⟩ (.int .i64 d.next)).setCell ⟨w.heap.size + 1 + 1, 1, none⟩ (.slice la ln lc)).setCell ⟨w.heap.size + 1 + 1, 2, none⟩ (.slice fa fn fc)).setCell ⟨w.heap.size + 1 + 1, 3, none⟩ (.slice sa sn sc)).heap[i]? = ur.heap[i]? from fun i h1 h2 h3 => (hw.block i (Nat.lt_of_lt_of_le h3 (unhide ZD0)) (by first | exact h1 | exact h2)).trans (unhide D0 i h1 h2 h3))
    have ZD1 := hide (show ur.heap.size ≤ ((((ud.setCell ⟨w.heap.size + 1 + 1, 0, none⟩ (.int .i64 d.next)).setCell ⟨w.heap.size + 1 + 1, 1, none⟩ (.slice la ln lc)).setCell ⟨w.heap.size + 1 + 1, 2, none⟩ (.slice fa fn fc)).setCell ⟨w.heap.size + 1 + 1, 3, none⟩ (.slice sa sn sc)).heap.size from Nat.le_trans (unhide ZD0) hw.size)
    have Ka := hide (show ((((ud.setCell ⟨w.heap.size + 1 + 1, 0, none⟩ (.int .i64 d.next)).setCell ⟨w.heap.size + 1 + 1, 1, none⟩ (.slice la ln lc)).setCell ⟨w.heap.size + 1 + 1, 2, none⟩ (.slice fa fn fc)).setCell ⟨w.heap.size + 1 + 1, 3, none⟩ (.slice sa sn sc)).heap[w.heap.size + 1 + 1]? = some (.cells #[.int .i64 d.next, .slice la ln lc, .slice fa fn fc, .slice sa sn sc] 29 (0, 0)) from sv4_heap (unhide N2) (.int .i64 d.next) (.slice la ln lc) (.slice fa fn fc) (.slice sa sn sc))
    have BD1 := hide (show Below w.heap.size w ((((ud.setCell ⟨w.heap.size + 1 + 1, 0, none⟩ (.int .i64 d.next)).setCell ⟨w.heap.size + 1 + 1, 1, none⟩ (.slice la ln lc)).setCell ⟨w.heap.size + 1 + 1, 2, none⟩ (.slice fa fn fc)).setCell ⟨w.heap.size + 1 + 1, 3, none⟩ (.slice sa sn sc)) from bel_sv4 (unhide BD0) (by omega) (.int .i64 d.next) (.slice la ln lc) (.slice fa fn fc) (.slice sa sn sc))
    have E3 := hide ((hw.block (w.heap.size + 1 + 1 + 1) (blk_lt (unhide N3)) (by omega)).trans (unhide N3))
    clear hw
    go_simp
    refine hK.out _ _ (unhide LD _ (unhide D1)) (fun hHeld => ?_)
    clear hK K
    clear c0 c1 c2 c3 cf0 cf1 cf2 cf3
    generalize ((((ud.setCell ⟨w.heap.size + 1 + 1, 0, none⟩ (.int .i64 d.next)).setCell ⟨w.heap.size + 1 + 1, 1, none⟩ (.slice la ln lc)).setCell ⟨w.heap.size + 1 + 1, 2, none⟩ (.slice fa fn fc)).setCell ⟨w.heap.size + 1 + 1, 3, none⟩ (.slice sa sn sc)) = ue at *
    refine rd [5] (.cons rfl (fun K hK => ?_) .nil)
    have c0 := (heap_at (unhide E3) 0).1
    have c1 := (heap_at (unhide E3) 1).1
    have c2 := (heap_at (unhide E3) 2).1
    have c3 := (heap_at (unhide E3) 3).1
    have cf0 := (heap_at (unhide E3) 0).2
    have cf1 := (heap_at (unhide E3) 1).2
    have cf2 := (heap_at (unhide E3) 2).2
    have cf3 := (heap_at (unhide E3) 3).2
    have hw : WrB (fun i => i = w.heap.size + 1 + 1 + 1) ue ((((ue.setCell ⟨w.heap.size + 1 + 1 + 1, 0, none⟩ (.int .i64 11)).setCell ⟨w.heap.size + 1 + 1 + 1, 1, none⟩ (.int .i64 t)).setCell ⟨w.heap.size + 1 + 1 + 1, 2, none⟩ (.string ⟨#[]⟩)).setCell ⟨w.heap.size + 1 + 1 + 1, 3, none⟩ (.slice none 0 0)) := sv4_wr ue (w.heap.size + 1 + 1 + 1) (.int .i64 11) (.int .i64 t) (.string ⟨#[]⟩) (.slice none 0 0)
    have D2 := hide (show ∀ i, i ≠ w.heap.size + 1 + 1 → i ≠ w.heap.size + 1 + 1 + 1 → i < ur.heap.size → ((((ue.setCell ⟨w.heap.size + 1 + 1 + 1, 0, none⟩ (.int .i64 11)).setCell ⟨w.heap.size + 1 + 1 + 1, 1, none⟩ (.int .i64 t)).setCell ⟨w.heap.size + 1 + 1 + 1, 2, none⟩ (.string ⟨#[]⟩)).setCell ⟨w.heap.size + 1 + 1 + 1, 3, none⟩ (.slice none 0 0)).heap[i]? = ur.heap[i]? from fun i h1 h2 h3 => (hw.block i (Nat.lt_of_lt_of_le h3 (unhide ZD1)) (by first | exact h1 | exact h2)).trans (unhide D1 i h1 h2 h3))
    have ZD2 := hide (show ur.heap.size ≤ ((((ue.setCell ⟨w.heap.size + 1 + 1 + 1, 0, none⟩ (.int .i64 11)).setCell ⟨w.heap.size + 1 + 1 + 1, 1, none⟩ (.int .i64 t)).setCell ⟨w.heap.size + 1 + 1 + 1, 2, none⟩ (.string ⟨#[]⟩)).setCell ⟨w.heap.size + 1 + 1 + 1, 3, none⟩ (.slice none 0 0)).heap.size from Nat.le_trans (unhide ZD1) hw.size)
    have Kb := hide (show ((((ue.setCell ⟨w.heap.size + 1 + 1 + 1, 0, none⟩ (.int .i64 11)).setCell ⟨w.heap.size + 1 + 1 + 1, 1, none⟩ (.int .i64 t)).setCell ⟨w.heap.size + 1 + 1 + 1, 2, none⟩ (.string ⟨#[]⟩)).setCell ⟨w.heap.size + 1 + 1 + 1, 3, none⟩ (.slice none 0 0)).heap[w.heap.size + 1 + 1 + 1]? = some (.cells #[.int .i64 11, .int .i64 t, .string ⟨#[]⟩, .slice none 0 0] 40 (0, 0)) from sv4_heap (unhide E3) (.int .i64 11) (.int .i64 t) (.string ⟨#[]⟩) (.slice none 0 0))
    have BD2 := hide (show Below w.heap.size w ((((ue.setCell ⟨w.heap.size + 1 + 1 + 1, 0, none⟩ (.int .i64 11)).setCell ⟨w.heap.size + 1 + 1 + 1, 1, none⟩ (.int .i64 t)).setCell ⟨w.heap.size + 1 + 1 + 1, 2, none⟩ (.string ⟨#[]⟩)).setCell ⟨w.heap.size + 1 + 1 + 1, 3, none⟩ (.slice none 0 0)) from bel_sv4 (unhide BD1) (by omega) (.int .i64 11) (.int .i64 t) (.string ⟨#[]⟩) (.slice none 0 0))
    have Kc := hide ((hw.block (w.heap.size + 1 + 1) (blk_lt (unhide Ka)) (by omega)).trans (unhide Ka))
    clear hw
    go_simp
    refine hK.out _ _ (unhide LD _ (unhide D2)) (fun hHeld => ?_)
    clear hK K
    clear c0 c1 c2 c3 cf0 cf1 cf2 cf3
    generalize ((((ue.setCell ⟨w.heap.size + 1 + 1 + 1, 0, none⟩ (.int .i64 11)).setCell ⟨w.heap.size + 1 + 1 + 1, 1, none⟩ (.int .i64 t)).setCell ⟨w.heap.size + 1 + 1 + 1, 2, none⟩ (.string ⟨#[]⟩)).setCell ⟨w.heap.size + 1 + 1 + 1, 3, none⟩ (.slice none 0 0)) = ug at *
    refine wpAnyH_done (by kernel_rfl) ?_ _
    have r0 := (heap_at (unhide Kc) 0).1
    have r1 := (heap_at (unhide Kc) 1).1
    have r2 := (heap_at (unhide Kc) 2).1
    have r3 := (heap_at (unhide Kc) 3).1
    have q0 := (heap_at (unhide Kb) 0).1
    have q1 := (heap_at (unhide Kb) 1).1
    have q2 := (heap_at (unhide Kb) 2).1
    have q3 := (heap_at (unhide Kb) 3).1
    have RES := hide (show StRes ⟨la, ln, lc⟩ ⟨fa, fn, fc⟩ ⟨sa, sn, sc⟩ hs d (stepV d ⟨4, (i : Int), key, tu, val⟩) w (.returned (.tuple #[.agg #[.int .i64 d.next, .slice la ln lc, .slice fa fn fc, .slice sa sn sc], .agg #[.int .i64 11, .int .i64 t, .string ⟨#[]⟩, .slice none 0 0]])) ug from st_old (unhide HI) (unhide BD2) (unhide ST2))
    clear hHeld LD D0 D1 D2 N2 N3 E3 Ka Kb Kc
    go_wp2_with fail
    refine bodyPost_ret (v := .tuple #[.agg #[.int .i64 d.next, .slice la ln lc, .slice fa fn fc, .slice sa sn sc], .agg #[.int .i64 11, .int .i64 t, .string ⟨#[]⟩, .slice none 0 0]]) (by simp [results, Tryz.results36, go_sem, *]) rfl ?_
    exact unhide RES
   | true =>
    have hvs : ¬ (val.size : Int) ≤ 100 := fun h => hok ⟨rfl, by omega⟩
    have hvd : decide ((100 : Int) < (val.size : Int)) = true := decide_eq_true (by omega)
    have hvn : (100 : Int) < (val.size : Int) := by omega
    clear hok
    have kvv := ((unhide BR).block w.heap.size hz0).trans (unhide K0)
    have v0 := (heap_at kvv 0).1
    have v1 := (heap_at kvv 1).1
    have v2 := (heap_at kvv 2).1
    have v3 := (heap_at kvv 3).1
    have k7x := (heap_at (unhide K7R) 1).1
    have N2 := hide (((unhide BR).block (w.heap.size + 1 + 1) hz2).trans (unhide K2))
    have N3 := hide (((unhide BR).block (w.heap.size + 1 + 1 + 1) hz3).trans (unhide K3))
    have BF := hide ((unhide BH).trans ((unhide BR).mono (unhide BH).size))
    have h70 : b6 + 1 < ur.heap.size := blk_lt (unhide K7R)
    have h6W : W.heap.size ≤ ur.heap.size := (unhide BR).size
    have LD := hide (show ∀ v : World, (∀ i, i ≠ w.heap.size + 1 + 1 → i ≠ w.heap.size + 1 + 1 + 1 → i < ur.heap.size → v.heap[i]? = ur.heap[i]?) → (fun u => u.cell? ⟨w.heap.size, 0, none⟩ = some (.int .i64 d.next) ∧ u.cell? ⟨w.heap.size, 1, none⟩ = some (.slice la ln lc) ∧ u.cell? ⟨w.heap.size, 2, none⟩ = some (.slice fa fn fc) ∧ u.cell? ⟨w.heap.size, 3, none⟩ = some (.slice sa sn sc) ∧ u.cell? ⟨b6 + 1, 1, none⟩ = some (.int .i64 t)) v from fun v hv => ⟨(World.cell?_of_block (a := ⟨w.heap.size, 0, none⟩) (hv w.heap.size (by omega) (by omega) (by omega))).trans v0, (World.cell?_of_block (a := ⟨w.heap.size, 1, none⟩) (hv w.heap.size (by omega) (by omega) (by omega))).trans v1, (World.cell?_of_block (a := ⟨w.heap.size, 2, none⟩) (hv w.heap.size (by omega) (by omega) (by omega))).trans v2, (World.cell?_of_block (a := ⟨w.heap.size, 3, none⟩) (hv w.heap.size (by omega) (by omega) (by omega))).trans v3, (World.cell?_of_block (a := ⟨b6 + 1, 1, none⟩) (hv (b6 + 1) (by omega) (by omega) h70)).trans k7x⟩)
    clear v0 v1 v2 v3 k7x kvv
    have D0 := hide (show ∀ i, i ≠ w.heap.size + 1 + 1 → i ≠ w.heap.size + 1 + 1 + 1 → i < ur.heap.size → ur.drew.heap[i]? = ur.heap[i]? from fun _ _ _ _ => rfl)
    have ZD0 := hide (show ur.heap.size ≤ ur.drew.heap.size from Nat.le_refl _)
    have BD0 := hide (show Below w.heap.size w ur.drew from (unhide BF).drew)
    replace N2 := hide (show ur.drew.heap[w.heap.size + 1 + 1]? = _ from unhide N2)
    replace N3 := hide (show ur.drew.heap[w.heap.size + 1 + 1 + 1]? = _ from unhide N3)
    go_upto_region 23 with (go_at_call 76; refine (unhide CK _).mono ?_; rintro e w9 ⟨rfl, hw9⟩; subst w9)
    clear a0 a1 a2 a3 a4 CK
    refine wp_region_held_drew (S := (fun u => u.cell? ⟨w.heap.size, 0, none⟩ = some (.int .i64 d.next) ∧ u.cell? ⟨w.heap.size, 1, none⟩ = some (.slice la ln lc) ∧ u.cell? ⟨w.heap.size, 2, none⟩ = some (.slice fa fn fc) ∧ u.cell? ⟨w.heap.size, 3, none⟩ = some (.slice sa sn sc) ∧ u.cell? ⟨b6 + 1, 1, none⟩ = some (.int .i64 t))) (by kernel_rfl) (unhide LD _ (unhide D0)) (fun hHeld => ?_)
    generalize ur.drew = ud at *
    refine tk 0 87 rfl rfl hHeld ?_
    simp only [Act.put, lA, lB, lC]
    refine tk 1 88 rfl rfl hHeld ?_
    simp only [Act.put, lA, lB, lC]
    refine tk 2 89 rfl rfl hHeld ?_
    simp only [Act.put, lA, lB, lC]
    refine tk 3 90 rfl rfl hHeld ?_
    simp only [Act.put, lA, lB, lC]
    refine rd [4] (.cons rfl (fun K hK => ?_) .nil)
    have c0 := (heap_at (unhide N2) 0).1
    have c1 := (heap_at (unhide N2) 1).1
    have c2 := (heap_at (unhide N2) 2).1
    have c3 := (heap_at (unhide N2) 3).1
    have cf0 := (heap_at (unhide N2) 0).2
    have cf1 := (heap_at (unhide N2) 1).2
    have cf2 := (heap_at (unhide N2) 2).2
    have cf3 := (heap_at (unhide N2) 3).2
    have hw : WrB (fun i => i = w.heap.size + 1 + 1) ud ((((ud.setCell ⟨w.heap.size + 1 + 1, 0, none⟩ (.int .i64 d.next)).setCell ⟨w.heap.size + 1 + 1, 1, none⟩ (.slice la ln lc)).setCell ⟨w.heap.size + 1 + 1, 2, none⟩ (.slice fa fn fc)).setCell ⟨w.heap.size + 1 + 1, 3, none⟩ (.slice sa sn sc)) := sv4_wr ud (w.heap.size + 1 + 1) (.int .i64 d.next) (.slice la ln lc) (.slice fa fn fc) (.slice sa sn sc)
    have D1 := hide (show ∀ i, i ≠ w.heap.size + 1 + 1 → i ≠ w.heap.size + 1 + 1 + 1 → i < ur.heap.size → ((((ud.setCell ⟨w.heap.size + 1 + 1, 0, none⟩ (.int .i64 d.next)).setCell ⟨w.heap.size + 1 + 1, 1, none⟩ (.slice la ln lc)).setCell ⟨w.heap.size + 1 + 1, 2, none⟩ (.slice fa fn fc)).setCell ⟨w.heap.size + 1 + 1, 3, none⟩ (.slice sa sn sc)).heap[i]? = ur.heap[i]? from fun i h1 h2 h3 => (hw.block i (Nat.lt_of_lt_of_le h3 (unhide ZD0)) (by first | exact h1 | exact h2)).trans (unhide D0 i h1 h2 h3))
    have ZD1 := hide (show ur.heap.size ≤ ((((ud.setCell ⟨w.heap.size + 1 + 1, 0, none⟩ (.int .i64 d.next)).setCell ⟨w.heap.size + 1 + 1, 1, none⟩ (.slice la ln lc)).setCell ⟨w.heap.size + 1 + 1, 2, none⟩ (.slice fa fn fc)).setCell ⟨w.heap.size + 1 + 1, 3, none⟩ (.slice sa sn sc)).heap.size from Nat.le_trans (unhide ZD0) hw.size)
    have Ka := hide (show ((((ud.setCell ⟨w.heap.size + 1 + 1, 0, none⟩ (.int .i64 d.next)).setCell ⟨w.heap.size + 1 + 1, 1, none⟩ (.slice la ln lc)).setCell ⟨w.heap.size + 1 + 1, 2, none⟩ (.slice fa fn fc)).setCell ⟨w.heap.size + 1 + 1, 3, none⟩ (.slice sa sn sc)).heap[w.heap.size + 1 + 1]? = some (.cells #[.int .i64 d.next, .slice la ln lc, .slice fa fn fc, .slice sa sn sc] 29 (0, 0)) from sv4_heap (unhide N2) (.int .i64 d.next) (.slice la ln lc) (.slice fa fn fc) (.slice sa sn sc))
    have BD1 := hide (show Below w.heap.size w ((((ud.setCell ⟨w.heap.size + 1 + 1, 0, none⟩ (.int .i64 d.next)).setCell ⟨w.heap.size + 1 + 1, 1, none⟩ (.slice la ln lc)).setCell ⟨w.heap.size + 1 + 1, 2, none⟩ (.slice fa fn fc)).setCell ⟨w.heap.size + 1 + 1, 3, none⟩ (.slice sa sn sc)) from bel_sv4 (unhide BD0) (by omega) (.int .i64 d.next) (.slice la ln lc) (.slice fa fn fc) (.slice sa sn sc))
    have E3 := hide ((hw.block (w.heap.size + 1 + 1 + 1) (blk_lt (unhide N3)) (by omega)).trans (unhide N3))
    clear hw
    go_simp
    refine hK.out _ _ (unhide LD _ (unhide D1)) (fun hHeld => ?_)
    clear hK K
    clear c0 c1 c2 c3 cf0 cf1 cf2 cf3
    generalize ((((ud.setCell ⟨w.heap.size + 1 + 1, 0, none⟩ (.int .i64 d.next)).setCell ⟨w.heap.size + 1 + 1, 1, none⟩ (.slice la ln lc)).setCell ⟨w.heap.size + 1 + 1, 2, none⟩ (.slice fa fn fc)).setCell ⟨w.heap.size + 1 + 1, 3, none⟩ (.slice sa sn sc)) = ue at *
    refine rd [5] (.cons rfl (fun K hK => ?_) .nil)
    have c0 := (heap_at (unhide E3) 0).1
    have c1 := (heap_at (unhide E3) 1).1
    have c2 := (heap_at (unhide E3) 2).1
    have c3 := (heap_at (unhide E3) 3).1
    have cf0 := (heap_at (unhide E3) 0).2
    have cf1 := (heap_at (unhide E3) 1).2
    have cf2 := (heap_at (unhide E3) 2).2
    have cf3 := (heap_at (unhide E3) 3).2
    have hw : WrB (fun i => i = w.heap.size + 1 + 1 + 1) ue ((((ue.setCell ⟨w.heap.size + 1 + 1 + 1, 0, none⟩ (.int .i64 11)).setCell ⟨w.heap.size + 1 + 1 + 1, 1, none⟩ (.int .i64 t)).setCell ⟨w.heap.size + 1 + 1 + 1, 2, none⟩ (.string ⟨#[]⟩)).setCell ⟨w.heap.size + 1 + 1 + 1, 3, none⟩ (.slice none 0 0)) := sv4_wr ue (w.heap.size + 1 + 1 + 1) (.int .i64 11) (.int .i64 t) (.string ⟨#[]⟩) (.slice none 0 0)
    have D2 := hide (show ∀ i, i ≠ w.heap.size + 1 + 1 → i ≠ w.heap.size + 1 + 1 + 1 → i < ur.heap.size → ((((ue.setCell ⟨w.heap.size + 1 + 1 + 1, 0, none⟩ (.int .i64 11)).setCell ⟨w.heap.size + 1 + 1 + 1, 1, none⟩ (.int .i64 t)).setCell ⟨w.heap.size + 1 + 1 + 1, 2, none⟩ (.string ⟨#[]⟩)).setCell ⟨w.heap.size + 1 + 1 + 1, 3, none⟩ (.slice none 0 0)).heap[i]? = ur.heap[i]? from fun i h1 h2 h3 => (hw.block i (Nat.lt_of_lt_of_le h3 (unhide ZD1)) (by first | exact h1 | exact h2)).trans (unhide D1 i h1 h2 h3))
    have ZD2 := hide (show ur.heap.size ≤ ((((ue.setCell ⟨w.heap.size + 1 + 1 + 1, 0, none⟩ (.int .i64 11)).setCell ⟨w.heap.size + 1 + 1 + 1, 1, none⟩ (.int .i64 t)).setCell ⟨w.heap.size + 1 + 1 + 1, 2, none⟩ (.string ⟨#[]⟩)).setCell ⟨w.heap.size + 1 + 1 + 1, 3, none⟩ (.slice none 0 0)).heap.size from Nat.le_trans (unhide ZD1) hw.size)
    have Kb := hide (show ((((ue.setCell ⟨w.heap.size + 1 + 1 + 1, 0, none⟩ (.int .i64 11)).setCell ⟨w.heap.size + 1 + 1 + 1, 1, none⟩ (.int .i64 t)).setCell ⟨w.heap.size + 1 + 1 + 1, 2, none⟩ (.string ⟨#[]⟩)).setCell ⟨w.heap.size + 1 + 1 + 1, 3, none⟩ (.slice none 0 0)).heap[w.heap.size + 1 + 1 + 1]? = some (.cells #[.int .i64 11, .int .i64 t, .string ⟨#[]⟩, .slice none 0 0] 40 (0, 0)) from sv4_heap (unhide E3) (.int .i64 11) (.int .i64 t) (.string ⟨#[]⟩) (.slice none 0 0))
    have BD2 := hide (show Below w.heap.size w ((((ue.setCell ⟨w.heap.size + 1 + 1 + 1, 0, none⟩ (.int .i64 11)).setCell ⟨w.heap.size + 1 + 1 + 1, 1, none⟩ (.int .i64 t)).setCell ⟨w.heap.size + 1 + 1 + 1, 2, none⟩ (.string ⟨#[]⟩)).setCell ⟨w.heap.size + 1 + 1 + 1, 3, none⟩ (.slice none 0 0)) from bel_sv4 (unhide BD1) (by omega) (.int .i64 11) (.int .i64 t) (.string ⟨#[]⟩) (.slice none 0 0))
    have Kc := hide ((hw.block (w.heap.size + 1 + 1) (blk_lt (unhide Ka)) (by omega)).trans (unhide Ka))
    clear hw
    go_simp
    refine hK.out _ _ (unhide LD _ (unhide D2)) (fun hHeld => ?_)
    clear hK K
    clear c0 c1 c2 c3 cf0 cf1 cf2 cf3
    generalize ((((ue.setCell ⟨w.heap.size + 1 + 1 + 1, 0, none⟩ (.int .i64 11)).setCell ⟨w.heap.size + 1 + 1 + 1, 1, none⟩ (.int .i64 t)).setCell ⟨w.heap.size + 1 + 1 + 1, 2, none⟩ (.string ⟨#[]⟩)).setCell ⟨w.heap.size + 1 + 1 + 1, 3, none⟩ (.slice none 0 0)) = ug at *
    refine wpAnyH_done (by kernel_rfl) ?_ _
    have r0 := (heap_at (unhide Kc) 0).1
    have r1 := (heap_at (unhide Kc) 1).1
    have r2 := (heap_at (unhide Kc) 2).1
    have r3 := (heap_at (unhide Kc) 3).1
    have q0 := (heap_at (unhide Kb) 0).1
    have q1 := (heap_at (unhide Kb) 1).1
    have q2 := (heap_at (unhide Kb) 2).1
    have q3 := (heap_at (unhide Kb) 3).1
    have RES := hide (show StRes ⟨la, ln, lc⟩ ⟨fa, fn, fc⟩ ⟨sa, sn, sc⟩ hs d (stepV d ⟨4, (i : Int), key, tu, val⟩) w (.returned (.tuple #[.agg #[.int .i64 d.next, .slice la ln lc, .slice fa fn fc, .slice sa sn sc], .agg #[.int .i64 11, .int .i64 t, .string ⟨#[]⟩, .slice none 0 0]])) ug from st_old (unhide HI) (unhide BD2) (unhide ST2))
    clear hHeld LD D0 D1 D2 N2 N3 E3 Ka Kb Kc
    go_wp2_with fail
    refine bodyPost_ret (v := .tuple #[.agg #[.int .i64 d.next, .slice la ln lc, .slice fa fn fc, .slice sa sn sc], .agg #[.int .i64 11, .int .i64 t, .string ⟨#[]⟩, .slice none 0 0]]) (by simp [results, Tryz.results36, go_sem, *]) rfl ?_
    exact unhide RES
  obtain ⟨rfl, hvs⟩ := hok
  have hvn : ¬ (100 : Int) < (val.size : Int) := by omega
  have hvd : decide ((100 : Int) < (val.size : Int)) = false := decide_eq_false hvn
  have STG := hide (show stepV d ⟨4, (i : Int), key, tu, val⟩ = if 8 < (insV wl ⟨key, t, val, false⟩).length then (d, repV 7 t) else (⟨d.next, d.list, d.fen, d.ses.set i ⟨true, t, insV wl ⟨key, t, val, false⟩⟩⟩, repV 0 t) by
   rw [unhide STP]
   unfold sesV
   rw [if_neg (by simp), if_neg (by simp), if_neg (by rw [unhide FIT]; unfold valK; rw [decide_eq_true hvs]; simp)]
   unfold inV
   rw [if_neg (by simp), if_neg (by simp), if_pos (by simp)]
   rfl)
  clear STB FIT hkk hvs
  have bX : Below ur.heap.size ur (ur.alloc (.cells #[.string key, .int .i64 t, .string val, .bool false] 43)) := (Below.refl _ _).alloc (Nat.le_refl _) _
  have XW := vrow_of_owns (unhide XR)
  have XC := cap_of_owns (s := ⟨wa, wn, wc⟩) (unhide XR)
  have hwl : wn = wl.length := owns_n (unhide XR)
  have CI := hide (l06Insert_any wa wn wc wl ⟨key, t, val, false⟩ (ur.alloc (.cells #[.string key, .int .i64 t, .string val, .bool false] 43)) (XW.below bX) (by have := unhide XL; omega) XC.1 XC.2)
  have kz := (bX.block (b6 + 1) (blk_lt (unhide K7R))).trans (unhide K7R)
  have x1 := (heap_at (unhide K7R) 1).1
  have x2 := (heap_at kz 2).1
  have kX := heap_alloc_new ur (.cells #[.string key, .int .i64 t, .string val, .bool false] 43)
  have bX0 : Below ur.heap.size ur (ur.alloc (.cells #[.string key, .int .i64 t, .string val, .bool false] 43)) := (Below.refl _ _).alloc (Nat.le_refl _) _
  have a0X0 := (bX0.cell (p := ⟨w.heap.size + 1, 0, none⟩) (cell_lt a0)).trans a0
  have a2X0 := (bX0.cell (p := ⟨w.heap.size + 1, 2, none⟩) (cell_lt a2)).trans a2
  have x1X0 := (bX0.cell (p := ⟨b6 + 1, 1, none⟩) (cell_lt x1)).trans x1
  have q0 := (heap_at kX 0).1
  have q1 := (heap_at kX 1).1
  have q2 := (heap_at kX 2).1
  have q3 := (heap_at kX 3).1
  unfold vv at CI
  simp only at CI
  have OX1 := hide ((unhide OR).below bX)
  have BX1 := hide ((unhide BR).trans (bX.mono (unhide BR).size))
  have KX6 := hide ((bX.block b6 (blk_lt (unhide K6R))).trans (unhide K6R))
  have KX7 := hide kz
  have KX8 := hide ((bX.block b8 (blk_lt (unhide K8))).trans (unhide K8))
  have hs8 : ur.heap.size ≤ (ur.alloc (.cells #[.string key, .int .i64 t, .string val, .bool false] 43)).heap.size := bX.size
  have NBU := hide (show ∀ q, NBl (.slice (some ⟨g, 0, none⟩) 4 sc1) (hs1.map seEl) q → q < ur.heap.size from fun q hq => ((unhide OR).so.lt q hq).2)
  have NVU := hide (show ∀ q, (Value.slice la1 ln1 lc1).ownBlock = some q → q < ur.heap.size from fun q hq => ((unhide OR).vo.lt q hq).2)
  clear bX XW XC hwl kz kX OR BR K6R K8 XR ka XL
  go_wp2_with (go_at_call 76; refine (unhide CK _).mono ?_; rintro e w9 ⟨rfl, hw9⟩; subst w9)
  generalize ur.alloc (.cells #[.string key, .int .i64 t, .string val, .bool false] 43) = uy at *
  clear a0 a2 a3 a4 q0 q1 q2 q3 x1 x2 CK a0X0 a2X0 x1X0 bX0
  refine (unhide CI).mono ?_
  rintro e w3 ⟨g9, k9, rfl, o9, b9⟩
  have k7 := (b9.block (b6 + 1) (blk_lt (unhide KX7))).trans (unhide KX7)
  have x2 := (heap_at k7 2).1
  have xf2 := (heap_at k7 2).2
  have hw : WrB (fun k => k = b6 + 1) w3 (w3.setCell ⟨b6 + 1, 2, none⟩ (.slice (some ⟨g9, 0, none⟩) (insV wl ⟨key, t, val, false⟩).length k9)) := set1_wr _ _ _ _
  have KY7 := hide (show (w3.setCell ⟨b6 + 1, 2, none⟩ (.slice (some ⟨g9, 0, none⟩) (insV wl ⟨key, t, val, false⟩).length k9)).heap[b6 + 1]? = some (.cells #[.bool true, .int .i64 t, .slice (some ⟨g9, 0, none⟩) (insV wl ⟨key, t, val, false⟩).length k9] 55 (0, 0)) by have := heap_set k7 2 (.slice (some ⟨g9, 0, none⟩) (insV wl ⟨key, t, val, false⟩).length k9); simpa using this)
  have KY6 := hide (show (w3.setCell ⟨b6 + 1, 2, none⟩ (.slice (some ⟨g9, 0, none⟩) (insV wl ⟨key, t, val, false⟩).length k9)).heap[b6]? = _ from (hw.block b6 (Nat.lt_of_lt_of_le (blk_lt (unhide KX6)) b9.size) (by omega)).trans ((b9.block b6 (blk_lt (unhide KX6))).trans (unhide KX6)))
  have KY8 := hide (show (w3.setCell ⟨b6 + 1, 2, none⟩ (.slice (some ⟨g9, 0, none⟩) (insV wl ⟨key, t, val, false⟩).length k9)).heap[b8]? = _ from (hw.block b8 (Nat.lt_of_lt_of_le (blk_lt (unhide KX8)) b9.size) (by omega)).trans ((b9.block b8 (blk_lt (unhide KX8))).trans (unhide KX8)))
  have hyW := (unhide BX1).size
  have OY := hide (show VzOwn (w3.setCell ⟨b6 + 1, 2, none⟩ (.slice (some ⟨g9, 0, none⟩) (insV wl ⟨key, t, val, false⟩).length k9)) W.heap.size ⟨la1, ln1, lc1⟩ ⟨fa1, fn1, fc1⟩ ⟨some ⟨g, 0, none⟩, 4, sc1⟩ hs1 d from ((unhide OX1).below b9).apart hw (fun q hq e => by have := unhide NBV q hq; omega) (fun q hq e => by have := unhide NBF q hq; omega) (fun q hq e => by have := unhide NBS q hq; omega))
  have B3w := (unhide BX1).trans (b9.mono hyW)
  have BY := hide (show Below W.heap.size W (w3.setCell ⟨b6 + 1, 2, none⟩ (.slice (some ⟨g9, 0, none⟩) (insV wl ⟨key, t, val, false⟩).length k9)) from B3w.trans (WrB.below hw (fun k e => by rw [e]; omega) B3w.size))
  have hg9 := (o9.lt g9 rfl).1
  have ON := hide (show VOwns (w3.setCell ⟨b6 + 1, 2, none⟩ (.slice (some ⟨g9, 0, none⟩) (insV wl ⟨key, t, val, false⟩).length k9)) W.heap.size (.slice (some ⟨g9, 0, none⟩) (insV wl ⟨key, t, val, false⟩).length k9) (insV wl ⟨key, t, val, false⟩) from gd_base (rr_owns_wr o9 hw (fun q hq e => by
   injection hq with hq
   have hq2 : g9 = q := hq
   have h1 : b6 + 1 < uy.heap.size := blk_lt (unhide KX7)
   omega)) hyW)
  have A1 := hide (show (w3.setCell ⟨b6 + 1, 2, none⟩ (.slice (some ⟨g9, 0, none⟩) (insV wl ⟨key, t, val, false⟩).length k9)).cell? ⟨w.heap.size + 1, 1, none⟩ = some (.int .i64 (i : Int)) from (heap_at (((unhide BY).block (w.heap.size + 1) hz1).trans (unhide K1)) 1).1)
  clear hw B3w k7 o9 b9 OX1 BX1 KX6 KX7 KX8 CI a1
  go_upto_region 47 with fail
  clear x2 xf2
  generalize (w3.setCell ⟨b6 + 1, 2, none⟩ (.slice (some ⟨g9, 0, none⟩) (insV wl ⟨key, t, val, false⟩).length k9)) = ux at *
  have x2 := (heap_at (unhide KY7) 2).1
  by_cases h8 : 8 < (insV wl ⟨key, t, val, false⟩).length
  ·have ST2 := hide (show stepV d ⟨4, (i : Int), key, tu, val⟩ = (d, repV 7 t) by rw [unhide STG, if_pos h8])
   have h8i : (8 : Int) < ((insV wl ⟨key, t, val, false⟩).length : Int) := by omega
   have h8d : decide ((8 : Int) < ((insV wl ⟨key, t, val, false⟩).length : Int)) = true := decide_eq_true h8i
   generalize (insV wl ⟨key, t, val, false⟩).length = nn at *
   have kvv := ((unhide BY).block w.heap.size hz0).trans (unhide K0)
   have v0 := (heap_at kvv 0).1
   have v1 := (heap_at kvv 1).1
   have v2 := (heap_at kvv 2).1
   have v3 := (heap_at kvv 3).1
   have k7x := (heap_at (unhide KY7) 1).1
   have N2 := hide (((unhide BY).block (w.heap.size + 1 + 1) hz2).trans (unhide K2))
   have N3 := hide (((unhide BY).block (w.heap.size + 1 + 1 + 1) hz3).trans (unhide K3))
   have BF := hide ((unhide BH).trans ((unhide BY).mono (unhide BH).size))
   have h70 : b6 + 1 < ux.heap.size := blk_lt (unhide KY7)
   have h6W : W.heap.size ≤ ux.heap.size := (unhide BY).size
   have LD := hide (show ∀ v : World, (∀ i, i ≠ w.heap.size + 1 + 1 → i ≠ w.heap.size + 1 + 1 + 1 → i < ux.heap.size → v.heap[i]? = ux.heap[i]?) → (fun u => u.cell? ⟨w.heap.size, 0, none⟩ = some (.int .i64 d.next) ∧ u.cell? ⟨w.heap.size, 1, none⟩ = some (.slice la ln lc) ∧ u.cell? ⟨w.heap.size, 2, none⟩ = some (.slice fa fn fc) ∧ u.cell? ⟨w.heap.size, 3, none⟩ = some (.slice sa sn sc) ∧ u.cell? ⟨b6 + 1, 1, none⟩ = some (.int .i64 t)) v from fun v hv => ⟨(World.cell?_of_block (a := ⟨w.heap.size, 0, none⟩) (hv w.heap.size (by omega) (by omega) (by omega))).trans v0, (World.cell?_of_block (a := ⟨w.heap.size, 1, none⟩) (hv w.heap.size (by omega) (by omega) (by omega))).trans v1, (World.cell?_of_block (a := ⟨w.heap.size, 2, none⟩) (hv w.heap.size (by omega) (by omega) (by omega))).trans v2, (World.cell?_of_block (a := ⟨w.heap.size, 3, none⟩) (hv w.heap.size (by omega) (by omega) (by omega))).trans v3, (World.cell?_of_block (a := ⟨b6 + 1, 1, none⟩) (hv (b6 + 1) (by omega) (by omega) h70)).trans k7x⟩)
   clear v0 v1 v2 v3 k7x kvv
   have D0 := hide (show ∀ i, i ≠ w.heap.size + 1 + 1 → i ≠ w.heap.size + 1 + 1 + 1 → i < ux.heap.size → ux.drew.heap[i]? = ux.heap[i]? from fun _ _ _ _ => rfl)
   have ZD0 := hide (show ux.heap.size ≤ ux.drew.heap.size from Nat.le_refl _)
   have BD0 := hide (show Below w.heap.size w ux.drew from (unhide BF).drew)
   replace N2 := hide (show ux.drew.heap[w.heap.size + 1 + 1]? = _ from unhide N2)
   replace N3 := hide (show ux.drew.heap[w.heap.size + 1 + 1 + 1]? = _ from unhide N3)
   go_upto_region 48 with fail
   refine wp_region_held_drew (S := (fun u => u.cell? ⟨w.heap.size, 0, none⟩ = some (.int .i64 d.next) ∧ u.cell? ⟨w.heap.size, 1, none⟩ = some (.slice la ln lc) ∧ u.cell? ⟨w.heap.size, 2, none⟩ = some (.slice fa fn fc) ∧ u.cell? ⟨w.heap.size, 3, none⟩ = some (.slice sa sn sc) ∧ u.cell? ⟨b6 + 1, 1, none⟩ = some (.int .i64 t))) (by kernel_rfl) (unhide LD _ (unhide D0)) (fun hHeld => ?_)
   generalize ux.drew = ud at *
   refine tk 0 201 rfl rfl hHeld ?_
   simp only [Act.put, lA, lB, lC]
   refine tk 1 202 rfl rfl hHeld ?_
   simp only [Act.put, lA, lB, lC]
   refine tk 2 203 rfl rfl hHeld ?_
   simp only [Act.put, lA, lB, lC]
   refine tk 3 204 rfl rfl hHeld ?_
   simp only [Act.put, lA, lB, lC]
   refine rd [4] (.cons rfl (fun K hK => ?_) .nil)
   have c0 := (heap_at (unhide N2) 0).1
   have c1 := (heap_at (unhide N2) 1).1
   have c2 := (heap_at (unhide N2) 2).1
   have c3 := (heap_at (unhide N2) 3).1
   have cf0 := (heap_at (unhide N2) 0).2
   have cf1 := (heap_at (unhide N2) 1).2
   have cf2 := (heap_at (unhide N2) 2).2
   have cf3 := (heap_at (unhide N2) 3).2
   have hw : WrB (fun i => i = w.heap.size + 1 + 1) ud ((((ud.setCell ⟨w.heap.size + 1 + 1, 0, none⟩ (.int .i64 d.next)).setCell ⟨w.heap.size + 1 + 1, 1, none⟩ (.slice la ln lc)).setCell ⟨w.heap.size + 1 + 1, 2, none⟩ (.slice fa fn fc)).setCell ⟨w.heap.size + 1 + 1, 3, none⟩ (.slice sa sn sc)) := sv4_wr ud (w.heap.size + 1 + 1) (.int .i64 d.next) (.slice la ln lc) (.slice fa fn fc) (.slice sa sn sc)
   have D1 := hide (show ∀ i, i ≠ w.heap.size + 1 + 1 → i ≠ w.heap.size + 1 + 1 + 1 → i < ux.heap.size → ((((ud.setCell ⟨w.heap.size + 1 + 1, 0, none⟩ (.int .i64 d.next)).setCell ⟨w.heap.size + 1 + 1, 1, none⟩ (.slice la ln lc)).setCell ⟨w.heap.size + 1 + 1, 2, none⟩ (.slice fa fn fc)).setCell ⟨w.heap.size + 1 + 1, 3, none⟩ (.slice sa sn sc)).heap[i]? = ux.heap[i]? from fun i h1 h2 h3 => (hw.block i (Nat.lt_of_lt_of_le h3 (unhide ZD0)) (by first | exact h1 | exact h2)).trans (unhide D0 i h1 h2 h3))
   have ZD1 := hide (show ux.heap.size ≤ ((((ud.setCell ⟨w.heap.size + 1 + 1, 0, none⟩ (.int .i64 d.next)).setCell ⟨w.heap.size + 1 + 1, 1, none⟩ (.slice la ln lc)).setCell ⟨w.heap.size + 1 + 1, 2, none⟩ (.slice fa fn fc)).setCell ⟨w.heap.size + 1 + 1, 3, none⟩ (.slice sa sn sc)).heap.size from Nat.le_trans (unhide ZD0) hw.size)
   have Ka := hide (show ((((ud.setCell ⟨w.heap.size + 1 + 1, 0, none⟩ (.int .i64 d.next)).setCell ⟨w.heap.size + 1 + 1, 1, none⟩ (.slice la ln lc)).setCell ⟨w.heap.size + 1 + 1, 2, none⟩ (.slice fa fn fc)).setCell ⟨w.heap.size + 1 + 1, 3, none⟩ (.slice sa sn sc)).heap[w.heap.size + 1 + 1]? = some (.cells #[.int .i64 d.next, .slice la ln lc, .slice fa fn fc, .slice sa sn sc] 29 (0, 0)) from sv4_heap (unhide N2) (.int .i64 d.next) (.slice la ln lc) (.slice fa fn fc) (.slice sa sn sc))
   have BD1 := hide (show Below w.heap.size w ((((ud.setCell ⟨w.heap.size + 1 + 1, 0, none⟩ (.int .i64 d.next)).setCell ⟨w.heap.size + 1 + 1, 1, none⟩ (.slice la ln lc)).setCell ⟨w.heap.size + 1 + 1, 2, none⟩ (.slice fa fn fc)).setCell ⟨w.heap.size + 1 + 1, 3, none⟩ (.slice sa sn sc)) from bel_sv4 (unhide BD0) (by omega) (.int .i64 d.next) (.slice la ln lc) (.slice fa fn fc) (.slice sa sn sc))
   have E3 := hide ((hw.block (w.heap.size + 1 + 1 + 1) (blk_lt (unhide N3)) (by omega)).trans (unhide N3))
   clear hw
   go_simp
   refine hK.out _ _ (unhide LD _ (unhide D1)) (fun hHeld => ?_)
   clear hK K
   clear c0 c1 c2 c3 cf0 cf1 cf2 cf3
   generalize ((((ud.setCell ⟨w.heap.size + 1 + 1, 0, none⟩ (.int .i64 d.next)).setCell ⟨w.heap.size + 1 + 1, 1, none⟩ (.slice la ln lc)).setCell ⟨w.heap.size + 1 + 1, 2, none⟩ (.slice fa fn fc)).setCell ⟨w.heap.size + 1 + 1, 3, none⟩ (.slice sa sn sc)) = ue at *
   refine rd [5] (.cons rfl (fun K hK => ?_) .nil)
   have c0 := (heap_at (unhide E3) 0).1
   have c1 := (heap_at (unhide E3) 1).1
   have c2 := (heap_at (unhide E3) 2).1
   have c3 := (heap_at (unhide E3) 3).1
   have cf0 := (heap_at (unhide E3) 0).2
   have cf1 := (heap_at (unhide E3) 1).2
   have cf2 := (heap_at (unhide E3) 2).2
   have cf3 := (heap_at (unhide E3) 3).2
   have hw : WrB (fun i => i = w.heap.size + 1 + 1 + 1) ue ((((ue.setCell ⟨w.heap.size + 1 + 1 + 1, 0, none⟩ (.int .i64 7)).setCell ⟨w.heap.size + 1 + 1 + 1, 1, none⟩ (.int .i64 t)).setCell ⟨w.heap.size + 1 + 1 + 1, 2, none⟩ (.string ⟨#[]⟩)).setCell ⟨w.heap.size + 1 + 1 + 1, 3, none⟩ (.slice none 0 0)) := sv4_wr ue (w.heap.size + 1 + 1 + 1) (.int .i64 7) (.int .i64 t) (.string ⟨#[]⟩) (.slice none 0 0)
   have D2 := hide (show ∀ i, i ≠ w.heap.size + 1 + 1 → i ≠ w.heap.size + 1 + 1 + 1 → i < ux.heap.size → ((((ue.setCell ⟨w.heap.size + 1 + 1 + 1, 0, none⟩ (.int .i64 7)).setCell ⟨w.heap.size + 1 + 1 + 1, 1, none⟩ (.int .i64 t)).setCell ⟨w.heap.size + 1 + 1 + 1, 2, none⟩ (.string ⟨#[]⟩)).setCell ⟨w.heap.size + 1 + 1 + 1, 3, none⟩ (.slice none 0 0)).heap[i]? = ux.heap[i]? from fun i h1 h2 h3 => (hw.block i (Nat.lt_of_lt_of_le h3 (unhide ZD1)) (by first | exact h1 | exact h2)).trans (unhide D1 i h1 h2 h3))
   have ZD2 := hide (show ux.heap.size ≤ ((((ue.setCell ⟨w.heap.size + 1 + 1 + 1, 0, none⟩ (.int .i64 7)).setCell ⟨w.heap.size + 1 + 1 + 1, 1, none⟩ (.int .i64 t)).setCell ⟨w.heap.size + 1 + 1 + 1, 2, none⟩ (.string ⟨#[]⟩)).setCell ⟨w.heap.size + 1 + 1 + 1, 3, none⟩ (.slice none 0 0)).heap.size from Nat.le_trans (unhide ZD1) hw.size)
   have Kb := hide (show ((((ue.setCell ⟨w.heap.size + 1 + 1 + 1, 0, none⟩ (.int .i64 7)).setCell ⟨w.heap.size + 1 + 1 + 1, 1, none⟩ (.int .i64 t)).setCell ⟨w.heap.size + 1 + 1 + 1, 2, none⟩ (.string ⟨#[]⟩)).setCell ⟨w.heap.size + 1 + 1 + 1, 3, none⟩ (.slice none 0 0)).heap[w.heap.size + 1 + 1 + 1]? = some (.cells #[.int .i64 7, .int .i64 t, .string ⟨#[]⟩, .slice none 0 0] 40 (0, 0)) from sv4_heap (unhide E3) (.int .i64 7) (.int .i64 t) (.string ⟨#[]⟩) (.slice none 0 0))
   have BD2 := hide (show Below w.heap.size w ((((ue.setCell ⟨w.heap.size + 1 + 1 + 1, 0, none⟩ (.int .i64 7)).setCell ⟨w.heap.size + 1 + 1 + 1, 1, none⟩ (.int .i64 t)).setCell ⟨w.heap.size + 1 + 1 + 1, 2, none⟩ (.string ⟨#[]⟩)).setCell ⟨w.heap.size + 1 + 1 + 1, 3, none⟩ (.slice none 0 0)) from bel_sv4 (unhide BD1) (by omega) (.int .i64 7) (.int .i64 t) (.string ⟨#[]⟩) (.slice none 0 0))
   have Kc := hide ((hw.block (w.heap.size + 1 + 1) (blk_lt (unhide Ka)) (by omega)).trans (unhide Ka))
   clear hw
   go_simp
   refine hK.out _ _ (unhide LD _ (unhide D2)) (fun hHeld => ?_)
   clear hK K
   clear c0 c1 c2 c3 cf0 cf1 cf2 cf3
   generalize ((((ue.setCell ⟨w.heap.size + 1 + 1 + 1, 0, none⟩ (.int .i64 7)).setCell ⟨w.heap.size + 1 + 1 + 1, 1, none⟩ (.int .i64 t)).setCell ⟨w.heap.size + 1 + 1 + 1, 2, none⟩ (.string ⟨#[]⟩)).setCell ⟨w.heap.size + 1 + 1 + 1, 3, none⟩ (.slice none 0 0)) = ug at *
   refine wpAnyH_done (by kernel_rfl) ?_ _
   have r0 := (heap_at (unhide Kc) 0).1
   have r1 := (heap_at (unhide Kc) 1).1
   have r2 := (heap_at (unhide Kc) 2).1
   have r3 := (heap_at (unhide Kc) 3).1
   have q0 := (heap_at (unhide Kb) 0).1
   have q1 := (heap_at (unhide Kb) 1).1
   have q2 := (heap_at (unhide Kb) 2).1
   have q3 := (heap_at (unhide Kb) 3).1
   have RES := hide (show StRes ⟨la, ln, lc⟩ ⟨fa, fn, fc⟩ ⟨sa, sn, sc⟩ hs d (stepV d ⟨4, (i : Int), key, tu, val⟩) w (.returned (.tuple #[.agg #[.int .i64 d.next, .slice la ln lc, .slice fa fn fc, .slice sa sn sc], .agg #[.int .i64 7, .int .i64 t, .string ⟨#[]⟩, .slice none 0 0]])) ug from st_old (unhide HI) (unhide BD2) (unhide ST2))
   clear hHeld LD D0 D1 D2 N2 N3 E3 Ka Kb Kc
   go_wp2_with fail
   refine bodyPost_ret (v := .tuple #[.agg #[.int .i64 d.next, .slice la ln lc, .slice fa fn fc, .slice sa sn sc], .agg #[.int .i64 7, .int .i64 t, .string ⟨#[]⟩, .slice none 0 0]]) (by simp [results, Tryz.results36, go_sem, *]) rfl ?_
   exact unhide RES
  ·have ST2 := hide (show stepV d ⟨4, (i : Int), key, tu, val⟩ = (⟨d.next, d.list, d.fen, d.ses.set i ⟨true, t, insV wl ⟨key, t, val, false⟩⟩⟩, repV 0 t) by rw [unhide STG, if_neg h8])
   have h8i : ¬ (8 : Int) < ((insV wl ⟨key, t, val, false⟩).length : Int) := by omega
   have h8d : decide ((8 : Int) < ((insV wl ⟨key, t, val, false⟩).length : Int)) = false := decide_eq_false h8i
   have hih : i < hs1.length := by omega
   obtain ⟨g2, hg2, -, ⟨c0, c1, c2⟩, hfz, OP, WP, hki⟩ := (unhide OY).put hih ⟨⟨true, t, insV wl ⟨key, t, val, false⟩⟩, ⟨some ⟨g9, 0, none⟩, (insV wl ⟨key, t, val, false⟩).length, k9⟩⟩ (unhide ON) (fun q hq => by
    injection hq with hq
    subst hq
    exact ⟨fun hn => by have h1 := unhide NBU _ hn; simp only at h1; omega, fun e => by have h1 := unhide NVU _ e; simp only at h1; omega⟩)
   simp only at hg2
   injection hg2 with hg2
   injection hg2 with hg2 _ _
   subst hg2
   rw [unhide HX] at c0 c1 c2
   simp only at c0 c1 c2 OP WP
   have hf0 := hfz (i * 3)
   have hf1 := hfz (i * 3 + 1)
   have hf2 := hfz (i * 3 + 1 + 1)
   obtain ⟨cur, hcur⟩ := hki
   have BF2 := hide ((unhide BY).trans (WrB.below WP (fun k e => by rw [e]; exact hgB) (unhide BY).size))
   have K6L := unhide KY6
   have h6g : b6 ≠ g := fun e => by rw [e, hcur] at K6L; injection K6L with K6L; injection K6L with _ K6L _; exact absurd K6L (by decide)
   have K6F := hide ((WP.block b6 (blk_lt K6L) h6g).trans K6L)
   have K8L := unhide KY8
   have h8g : b8 ≠ g := fun e => by rw [e, hcur] at K8L; injection K8L with K8L; injection K8L with _ K8L _; exact absurd K8L (by decide)
   have K8F := hide ((WP.block b8 (blk_lt K8L) h8g).trans K8L)
   have BF := hide ((unhide BH).trans ((unhide BF2).mono (unhide BH).size))
   have OF := hide OP
   have z3 := (heap_at K6L 3).1
   have x0 := (heap_at (unhide KY7) 0).1
   have x1 := (heap_at (unhide KY7) 1).1
   have a1 := unhide A1
   have hin : (i : Int) < 4 := by omega
   clear OP WP K6L K8L hfz hcur OY BY ON
   go_upto_region 50 with fail
   clear c0 c1 c2 hf0 hf1 hf2 z3 x0 x1 x2 a1 A1 KY6 KY7 KY8
   generalize (((ux.setCell ⟨g, i * 3, none⟩ (.bool true)).setCell ⟨g, i * 3 + 1, none⟩ (.int .i64 t)).setCell ⟨g, i * 3 + 1 + 1, none⟩ (.slice (some ⟨g9, 0, none⟩) (insV wl ⟨key, t, val, false⟩).length k9)) = uf at *
   have z0 := (heap_at (unhide K6F) 0).1
   have z1 := (heap_at (unhide K6F) 1).1
   have z2 := (heap_at (unhide K6F) 2).1
   have z3 := (heap_at (unhide K6F) 3).1
   have p0 := (heap_at (unhide K8F) 0).1
   have p1 := (heap_at (unhide K8F) 1).1
   have p2 := (heap_at (unhide K8F) 2).1
   have p3 := (heap_at (unhide K8F) 3).1
   have N2 := hide (((unhide BF2).block (w.heap.size + 1 + 1) hz2).trans (unhide K2))
   have N3 := hide (((unhide BF2).block (w.heap.size + 1 + 1 + 1) hz3).trans (unhide K3))
   have h60 : b6 < uf.heap.size := blk_lt (unhide K6F)
   have h80 : b8 < uf.heap.size := blk_lt (unhide K8F)
   have h6W : W.heap.size ≤ uf.heap.size := (unhide BF2).size
   have LD := hide (show ∀ v : World, (∀ i, i ≠ w.heap.size + 1 + 1 → i ≠ w.heap.size + 1 + 1 + 1 → i < uf.heap.size → v.heap[i]? = uf.heap[i]?) → (fun u => u.cell? ⟨b6, 0, none⟩ = some (.int .i64 d.next) ∧ u.cell? ⟨b6, 1, none⟩ = some (.slice la1 ln1 lc1) ∧ u.cell? ⟨b6, 2, none⟩ = some (.slice fa1 fn1 fc1) ∧ u.cell? ⟨b6, 3, none⟩ = some (.slice (some ⟨g, 0, none⟩) 4 sc1) ∧ u.cell? ⟨b8, 0, none⟩ = some (.int .i64 0) ∧ u.cell? ⟨b8, 1, none⟩ = some (.int .i64 t) ∧ u.cell? ⟨b8, 2, none⟩ = some (.string ⟨#[]⟩) ∧ u.cell? ⟨b8, 3, none⟩ = some (.slice none 0 0)) v from fun v hv => ⟨(World.cell?_of_block (a := ⟨b6, 0, none⟩) (hv b6 (by omega) (by omega) h60)).trans z0, (World.cell?_of_block (a := ⟨b6, 1, none⟩) (hv b6 (by omega) (by omega) h60)).trans z1, (World.cell?_of_block (a := ⟨b6, 2, none⟩) (hv b6 (by omega) (by omega) h60)).trans z2, (World.cell?_of_block (a := ⟨b6, 3, none⟩) (hv b6 (by omega) (by omega) h60)).trans z3, (World.cell?_of_block (a := ⟨b8, 0, none⟩) (hv b8 (by omega) (by omega) h80)).trans p0, (World.cell?_of_block (a := ⟨b8, 1, none⟩) (hv b8 (by omega) (by omega) h80)).trans p1, (World.cell?_of_block (a := ⟨b8, 2, none⟩) (hv b8 (by omega) (by omega) h80)).trans p2, (World.cell?_of_block (a := ⟨b8, 3, none⟩) (hv b8 (by omega) (by omega) h80)).trans p3⟩)
   clear z0 z1 z2 z3 p0 p1 p2 p3
   have D0 := hide (show ∀ i, i ≠ w.heap.size + 1 + 1 → i ≠ w.heap.size + 1 + 1 + 1 → i < uf.heap.size → uf.drew.heap[i]? = uf.heap[i]? from fun _ _ _ _ => rfl)
   have ZD0 := hide (show uf.heap.size ≤ uf.drew.heap.size from Nat.le_refl _)
   have BD0 := hide (show Below w.heap.size w uf.drew from (unhide BF).drew)
   replace N2 := hide (show uf.drew.heap[w.heap.size + 1 + 1]? = _ from unhide N2)
   replace N3 := hide (show uf.drew.heap[w.heap.size + 1 + 1 + 1]? = _ from unhide N3)
   go_upto_region 50 with fail
   refine wp_region_held_drew (S := (fun u => u.cell? ⟨b6, 0, none⟩ = some (.int .i64 d.next) ∧ u.cell? ⟨b6, 1, none⟩ = some (.slice la1 ln1 lc1) ∧ u.cell? ⟨b6, 2, none⟩ = some (.slice fa1 fn1 fc1) ∧ u.cell? ⟨b6, 3, none⟩ = some (.slice (some ⟨g, 0, none⟩) 4 sc1) ∧ u.cell? ⟨b8, 0, none⟩ = some (.int .i64 0) ∧ u.cell? ⟨b8, 1, none⟩ = some (.int .i64 t) ∧ u.cell? ⟨b8, 2, none⟩ = some (.string ⟨#[]⟩) ∧ u.cell? ⟨b8, 3, none⟩ = some (.slice none 0 0))) (by kernel_rfl) (unhide LD _ (unhide D0)) (fun hHeld => ?_)
   generalize uf.drew = ud at *
   refine tk 0 211 rfl rfl hHeld ?_
   simp only [Act.put, lA, lB, lC]
   refine tk 1 212 rfl rfl hHeld ?_
   simp only [Act.put, lA, lB, lC]
   refine rd [2] (.cons rfl (fun K hK => ?_) .nil)
   have c0 := (heap_at (unhide N2) 0).1
   have c1 := (heap_at (unhide N2) 1).1
   have c2 := (heap_at (unhide N2) 2).1
   have c3 := (heap_at (unhide N2) 3).1
   have cf0 := (heap_at (unhide N2) 0).2
   have cf1 := (heap_at (unhide N2) 1).2
   have cf2 := (heap_at (unhide N2) 2).2
   have cf3 := (heap_at (unhide N2) 3).2
   have hw : WrB (fun i => i = w.heap.size + 1 + 1) ud ((((ud.setCell ⟨w.heap.size + 1 + 1, 0, none⟩ (.int .i64 d.next)).setCell ⟨w.heap.size + 1 + 1, 1, none⟩ (.slice la1 ln1 lc1)).setCell ⟨w.heap.size + 1 + 1, 2, none⟩ (.slice fa1 fn1 fc1)).setCell ⟨w.heap.size + 1 + 1, 3, none⟩ (.slice (some ⟨g, 0, none⟩) 4 sc1)) := sv4_wr ud (w.heap.size + 1 + 1) (.int .i64 d.next) (.slice la1 ln1 lc1) (.slice fa1 fn1 fc1) (.slice (some ⟨g, 0, none⟩) 4 sc1)
   have D1 := hide (show ∀ i, i ≠ w.heap.size + 1 + 1 → i ≠ w.heap.size + 1 + 1 + 1 → i < uf.heap.size → ((((ud.setCell ⟨w.heap.size + 1 + 1, 0, none⟩ (.int .i64 d.next)).setCell ⟨w.heap.size + 1 + 1, 1, none⟩ (.slice la1 ln1 lc1)).setCell ⟨w.heap.size + 1 + 1, 2, none⟩ (.slice fa1 fn1 fc1)).setCell ⟨w.heap.size + 1 + 1, 3, none⟩ (.slice (some ⟨g, 0, none⟩) 4 sc1)).heap[i]? = uf.heap[i]? from fun i h1 h2 h3 => (hw.block i (Nat.lt_of_lt_of_le h3 (unhide ZD0)) (by first | exact h1 | exact h2)).trans (unhide D0 i h1 h2 h3))
   have ZD1 := hide (show uf.heap.size ≤ ((((ud.setCell ⟨w.heap.size + 1 + 1, 0, none⟩ (.int .i64 d.next)).setCell ⟨w.heap.size + 1 + 1, 1, none⟩ (.slice la1 ln1 lc1)).setCell ⟨w.heap.size + 1 + 1, 2, none⟩ (.slice fa1 fn1 fc1)).setCell ⟨w.heap.size + 1 + 1, 3, none⟩ (.slice (some ⟨g, 0, none⟩) 4 sc1)).heap.size from Nat.le_trans (unhide ZD0) hw.size)
   have Ka := hide (show ((((ud.setCell ⟨w.heap.size + 1 + 1, 0, none⟩ (.int .i64 d.next)).setCell ⟨w.heap.size + 1 + 1, 1, none⟩ (.slice la1 ln1 lc1)).setCell ⟨w.heap.size + 1 + 1, 2, none⟩ (.slice fa1 fn1 fc1)).setCell ⟨w.heap.size + 1 + 1, 3, none⟩ (.slice (some ⟨g, 0, none⟩) 4 sc1)).heap[w.heap.size + 1 + 1]? = some (.cells #[.int .i64 d.next, .slice la1 ln1 lc1, .slice fa1 fn1 fc1, .slice (some ⟨g, 0, none⟩) 4 sc1] 29 (0, 0)) from sv4_heap (unhide N2) (.int .i64 d.next) (.slice la1 ln1 lc1) (.slice fa1 fn1 fc1) (.slice (some ⟨g, 0, none⟩) 4 sc1))
   have BD1 := hide (show Below w.heap.size w ((((ud.setCell ⟨w.heap.size + 1 + 1, 0, none⟩ (.int .i64 d.next)).setCell ⟨w.heap.size + 1 + 1, 1, none⟩ (.slice la1 ln1 lc1)).setCell ⟨w.heap.size + 1 + 1, 2, none⟩ (.slice fa1 fn1 fc1)).setCell ⟨w.heap.size + 1 + 1, 3, none⟩ (.slice (some ⟨g, 0, none⟩) 4 sc1)) from bel_sv4 (unhide BD0) (by omega) (.int .i64 d.next) (.slice la1 ln1 lc1) (.slice fa1 fn1 fc1) (.slice (some ⟨g, 0, none⟩) 4 sc1))
   have E3 := hide ((hw.block (w.heap.size + 1 + 1 + 1) (blk_lt (unhide N3)) (by omega)).trans (unhide N3))
   clear hw
   go_simp
   refine hK.out _ _ (unhide LD _ (unhide D1)) (fun hHeld => ?_)
   clear hK K
   clear c0 c1 c2 c3 cf0 cf1 cf2 cf3
   generalize ((((ud.setCell ⟨w.heap.size + 1 + 1, 0, none⟩ (.int .i64 d.next)).setCell ⟨w.heap.size + 1 + 1, 1, none⟩ (.slice la1 ln1 lc1)).setCell ⟨w.heap.size + 1 + 1, 2, none⟩ (.slice fa1 fn1 fc1)).setCell ⟨w.heap.size + 1 + 1, 3, none⟩ (.slice (some ⟨g, 0, none⟩) 4 sc1)) = ue at *
   refine rd [3] (.cons rfl (fun K hK => ?_) .nil)
   have c0 := (heap_at (unhide E3) 0).1
   have c1 := (heap_at (unhide E3) 1).1
   have c2 := (heap_at (unhide E3) 2).1
   have c3 := (heap_at (unhide E3) 3).1
   have cf0 := (heap_at (unhide E3) 0).2
   have cf1 := (heap_at (unhide E3) 1).2
   have cf2 := (heap_at (unhide E3) 2).2
   have cf3 := (heap_at (unhide E3) 3).2
   have hw : WrB (fun i => i = w.heap.size + 1 + 1 + 1) ue ((((ue.setCell ⟨w.heap.size + 1 + 1 + 1, 0, none⟩ (.int .i64 0)).setCell ⟨w.heap.size + 1 + 1 + 1, 1, none⟩ (.int .i64 t)).setCell ⟨w.heap.size + 1 + 1 + 1, 2, none⟩ (.string ⟨#[]⟩)).setCell ⟨w.heap.size + 1 + 1 + 1, 3, none⟩ (.slice none 0 0)) := sv4_wr ue (w.heap.size + 1 + 1 + 1) (.int .i64 0) (.int .i64 t) (.string ⟨#[]⟩) (.slice none 0 0)
   have D2 := hide (show ∀ i, i ≠ w.heap.size + 1 + 1 → i ≠ w.heap.size + 1 + 1 + 1 → i < uf.heap.size → ((((ue.setCell ⟨w.heap.size + 1 + 1 + 1, 0, none⟩ (.int .i64 0)).setCell ⟨w.heap.size + 1 + 1 + 1, 1, none⟩ (.int .i64 t)).setCell ⟨w.heap.size + 1 + 1 + 1, 2, none⟩ (.string ⟨#[]⟩)).setCell ⟨w.heap.size + 1 + 1 + 1, 3, none⟩ (.slice none 0 0)).heap[i]? = uf.heap[i]? from fun i h1 h2 h3 => (hw.block i (Nat.lt_of_lt_of_le h3 (unhide ZD1)) (by first | exact h1 | exact h2)).trans (unhide D1 i h1 h2 h3))
   have ZD2 := hide (show uf.heap.size ≤ ((((ue.setCell ⟨w.heap.size + 1 + 1 + 1, 0, none⟩ (.int .i64 0)).setCell ⟨w.heap.size + 1 + 1 + 1, 1, none⟩ (.int .i64 t)).setCell ⟨w.heap.size + 1 + 1 + 1, 2, none⟩ (.string ⟨#[]⟩)).setCell ⟨w.heap.size + 1 + 1 + 1, 3, none⟩ (.slice none 0 0)).heap.size from Nat.le_trans (unhide ZD1) hw.size)
   have Kb := hide (show ((((ue.setCell ⟨w.heap.size + 1 + 1 + 1, 0, none⟩ (.int .i64 0)).setCell ⟨w.heap.size + 1 + 1 + 1, 1, none⟩ (.int .i64 t)).setCell ⟨w.heap.size + 1 + 1 + 1, 2, none⟩ (.string ⟨#[]⟩)).setCell ⟨w.heap.size + 1 + 1 + 1, 3, none⟩ (.slice none 0 0)).heap[w.heap.size + 1 + 1 + 1]? = some (.cells #[.int .i64 0, .int .i64 t, .string ⟨#[]⟩, .slice none 0 0] 40 (0, 0)) from sv4_heap (unhide E3) (.int .i64 0) (.int .i64 t) (.string ⟨#[]⟩) (.slice none 0 0))
   have BD2 := hide (show Below w.heap.size w ((((ue.setCell ⟨w.heap.size + 1 + 1 + 1, 0, none⟩ (.int .i64 0)).setCell ⟨w.heap.size + 1 + 1 + 1, 1, none⟩ (.int .i64 t)).setCell ⟨w.heap.size + 1 + 1 + 1, 2, none⟩ (.string ⟨#[]⟩)).setCell ⟨w.heap.size + 1 + 1 + 1, 3, none⟩ (.slice none 0 0)) from bel_sv4 (unhide BD1) (by omega) (.int .i64 0) (.int .i64 t) (.string ⟨#[]⟩) (.slice none 0 0))
   have Kc := hide ((hw.block (w.heap.size + 1 + 1) (blk_lt (unhide Ka)) (by omega)).trans (unhide Ka))
   clear hw
   go_simp
   refine hK.out _ _ (unhide LD _ (unhide D2)) (fun hHeld => ?_)
   clear hK K
   clear c0 c1 c2 c3 cf0 cf1 cf2 cf3
   generalize ((((ue.setCell ⟨w.heap.size + 1 + 1 + 1, 0, none⟩ (.int .i64 0)).setCell ⟨w.heap.size + 1 + 1 + 1, 1, none⟩ (.int .i64 t)).setCell ⟨w.heap.size + 1 + 1 + 1, 2, none⟩ (.string ⟨#[]⟩)).setCell ⟨w.heap.size + 1 + 1 + 1, 3, none⟩ (.slice none 0 0)) = ug at *
   refine wpAnyH_done (by kernel_rfl) ?_ _
   have r0 := (heap_at (unhide Kc) 0).1
   have r1 := (heap_at (unhide Kc) 1).1
   have r2 := (heap_at (unhide Kc) 2).1
   have r3 := (heap_at (unhide Kc) 3).1
   have q0 := (heap_at (unhide Kb) 0).1
   have q1 := (heap_at (unhide Kb) 1).1
   have q2 := (heap_at (unhide Kb) 2).1
   have q3 := (heap_at (unhide Kb) 3).1
   have OG := (unhide OF).wr (P := fun i => i = w.heap.size + 1 + 1 ∨ i = w.heap.size + 1 + 1 + 1) (w' := ug) ⟨(unhide BD2).os.trans (unhide BF).os.symm, (unhide BD2).tape.trans (unhide BF).tape.symm, (unhide BD2).output.trans (unhide BF).output.symm, unhide ZD2, fun i hi hp => unhide D2 i (fun e => hp (.inl e)) (fun e => hp (.inr e)) hi⟩ (fun i e => by rcases e with e | e <;> omega)
   have RES := hide (show StRes ⟨la, ln, lc⟩ ⟨fa, fn, fc⟩ ⟨sa, sn, sc⟩ hs d (stepV d ⟨4, (i : Int), key, tu, val⟩) w (.returned (.tuple #[.agg #[.int .i64 d.next, .slice la1 ln1 lc1, .slice fa1 fn1 fc1, .slice (some ⟨g, 0, none⟩) 4 sc1], .agg #[.int .i64 0, .int .i64 t, .string ⟨#[]⟩, .slice none 0 0]])) ug from st_own OG (Nat.le_of_lt hz0) (unhide BD2) (unhide ST2))
   clear hHeld LD D0 D1 D2 N2 N3 E3 Ka Kb Kc
   go_wp2_with fail
   refine bodyPost_ret (v := .tuple #[.agg #[.int .i64 d.next, .slice la1 ln1 lc1, .slice fa1 fn1 fc1, .slice (some ⟨g, 0, none⟩) 4 sc1], .agg #[.int .i64 0, .int .i64 t, .string ⟨#[]⟩, .slice none 0 0]]) (by simp [results, Tryz.results36, go_sem, *]) rfl ?_
   exact unhide RES
end Go.Proofs.YtdnjgbckkmbmfaaGreat
