/-
  TxI7, TxJ, TxM, LgQ, PgE, PgP, PpC, PpA, PgM, PpD, PgH, ZrB, ZrE, ZrM, ZrH, XrK, FsB, FsC in one.
-/
import Derived.Test.YtdnjgbckkmbmfaaGreatFsAll6
import Derived.Deep.RegionWith
import Derived.Deep.Cut
import Derived.Deep.WholeRow
set_option maxRecDepth 100000
namespace Go.Proofs.YtdnjgbckkmbmfaaGreat
open Go.RowKit

set_option maxHeartbeats 8000000 in
theorem l06Step_7 (d : VsD) (i : Nat) (key tu val : ByteArray) (l f s : Sl) (hs : List SeH) (w : World) (hI : VzIn w l f s hs d) (hS : SmV d) (hi : i < 4) :
  Calls Tryz.prog 36 #[.agg (vzC d.next l f s), .agg #[.int .i64 7, .int .i64 (i : Int), .string key, .string tu, .string val]] w fun e w' => StRes l f s hs d (stepV d ⟨7, (i : Int), key, tu, val⟩) w e w' := by
 have hz := allocC_size [(vzC d.next l f s, 29), (#[.int .i64 7, .int .i64 (i : Int), .string key, .string tu, .string val], 37), (#[.int .i64 0, .slice none 0 0, .slice none 0 0, .slice none 0 0], 29), (#[.int .i64 0, .int .i64 0, .string ⟨#[]⟩, .slice none 0 0], 40)] w
 have b1 := allocC_bel [(vzC d.next l f s, 29), (#[.int .i64 7, .int .i64 (i : Int), .string key, .string tu, .string val], 37), (#[.int .i64 0, .slice none 0 0, .slice none 0 0, .slice none 0 0], 29), (#[.int .i64 0, .int .i64 0, .string ⟨#[]⟩, .slice none 0 0], 40)] w
 have AT := allocC_at [(vzC d.next l f s, 29), (#[.int .i64 7, .int .i64 (i : Int), .string key, .string tu, .string val], 37), (#[.int .i64 0, .slice none 0 0, .slice none 0 0, .slice none 0 0], 29), (#[.int .i64 0, .int .i64 0, .string ⟨#[]⟩, .slice none 0 0], 40)] w
 obtain ⟨W, hW⟩ : ∃ W, W = allocC w [(vzC d.next l f s, 29), (#[.int .i64 7, .int .i64 (i : Int), .string key, .string tu, .string val], 37), (#[.int .i64 0, .slice none 0 0, .slice none 0 0, .slice none 0 0], 29), (#[.int .i64 0, .int .i64 0, .string ⟨#[]⟩, .slice none 0 0], 40)] := ⟨_, rfl⟩
 rw [← hW] at hz b1 AT
 simp only [List.length_cons, List.length_nil] at hz
 have k0 : W.heap[w.heap.size]? = some (.cells (vzC d.next l f s) 29 (0, 0)) := AT 0 _ _ rfl
 have k1 : W.heap[w.heap.size + 1]? = some (.cells #[.int .i64 7, .int .i64 (i : Int), .string key, .string tu, .string val] 37 (0, 0)) := AT 1 _ _ rfl
 have k2 : W.heap[w.heap.size + 1 + 1]? = some (.cells #[.int .i64 0, .slice none 0 0, .slice none 0 0, .slice none 0 0] 29 (0, 0)) := AT 2 _ _ rfl
 have k3 : W.heap[w.heap.size + 1 + 1 + 1]? = some (.cells #[.int .i64 0, .int .i64 0, .string ⟨#[]⟩, .slice none 0 0] 40 (0, 0)) := AT 3 _ _ rfl
 have hz0 : w.heap.size < W.heap.size := by omega
 have hz1 : w.heap.size + 1 < W.heap.size := by omega
 have hz2 : w.heap.size + 1 + 1 < W.heap.size := by omega
 have hz3 : w.heap.size + 1 + 1 + 1 < W.heap.size := by omega
 unfold allocC allocC allocC allocC allocC at hW
 have CO := hide (l06Own_any d l f s hs W (hI.below b1) (by have := hI.vr.1; have := hS.list; omega) (by have := hI.fr.1; have := hS.fen; omega) (by have := hI.len; have := hS.ses; omega) (fun h hh => by
  obtain ⟨k, hk, rfl⟩ := List.getElem_of_mem hh
  obtain ⟨hd, he⟩ := hI.at hk
  have h1 := (SeIn.row hI.sr hk).1
  have h2 := hS.ws d.ses[k] (List.getElem_mem hd)
  rw [← he] at h2
  omega))
 have BH := hide b1
 have HI := hide hI
 have HS := hide hS
 obtain ⟨la, ln, lc⟩ := l
 obtain ⟨fa, fn, fc⟩ := f
 obtain ⟨sa, sn, sc⟩ := s
 unfold vzC at k0 hW CO ⊢
 simp only at k0 hW CO ⊢
 have K0 := hide k0
 have K1 := hide k1
 have K2 := hide k2
 have K3 := hide k3
 have hnx := hS.nx
 have hi0 : decide ((0 : Int) ≤ (i : Int)) = true := decide_eq_true (by omega)
 have hi3 : decide ((i : Int) ≤ 3) = true := decide_eq_true (by omega)
 have a0 := (heap_at k1 0).1
 have a1 := (heap_at k1 1).1
 have v0 := (heap_at k0 0).1
 have v1 := (heap_at k0 1).1
 have v2 := (heap_at k0 2).1
 have v3 := (heap_at k0 3).1
 clear hI hS hz b1 AT k0 k1 k2 k3
 go_enter Tryz.func36, Tryz.ntmps36
 go_wp2_with (go_at_call 75; refine (l01In_any _ _ _ _).mono ?_; rintro e w9 ⟨rfl, rfl⟩)
 rw [← hW]
 clear hW
 refine (unhide CO).mono ?_
 rintro e w1 ⟨⟨la1, ln1, lc1⟩, ⟨fa1, fn1, fc1⟩, ⟨sa1, sn1, sc1⟩, hs1, rfl, hO, hb1⟩
 clear a0 a1 v0 v1 v2 v3 hi0 hi3 CO
 have hl4 : hs1.length = 4 := by rw [hO.reads.len.2]; exact (unhide HS).ses
 have hih : i < hs1.length := by omega
 obtain ⟨g, hsa, hsn, hgB, hgw, c0, c1, c2, hwo, hid, hxd⟩ := hO.sesAt hih
 simp only at hsa hsn
 rw [hl4] at hsn
 subst hsa hsn
 unfold vzC
 simp only
 have STP := hide (show stepV d ⟨7, (i : Int), key, tu, val⟩ = sesV d ⟨7, (i : Int), key, tu, val⟩ i hs1[i].X by
  unfold stepV
  rw [if_neg (by simp), if_neg (by simp only; omega), hxd]
  congr 1
  rw [show ((i : Nat) : Int).toNat = i by omega, List.getD_eq_getElem?_getD, List.getElem?_eq_getElem hid]
  rfl)
 have XL := hide (show hs1[i].X.ws.length ≤ 8 by rw [hxd]; exact (unhide HS).ws _ (List.getElem_mem hid))
 have SX := hide hxd
 clear hxd
 generalize hx1 : hs1[i] = x at *
 have HX := hide hx1
 clear hx1
 obtain ⟨⟨o, t, wl⟩, ⟨wa, wn, wc⟩⟩ := x
 simp only at c0 c1 c2 hwo STP XL
 have bA : Below w1.heap.size w1 ((w1.alloc (.cells #[.int .i64 d.next, .slice la1 ln1 lc1, .slice fa1 fn1 fc1, .slice (some ⟨g, 0, none⟩) 4 sc1] 29)).alloc (.cells #[.bool o, .int .i64 t, .slice wa wn wc] 55)) := ((Below.refl _ _).alloc (Nat.le_refl _) _).alloc (by simp) _
 obtain ⟨-, k6, k7, z7⟩ := twoBx (w := w1) (c1 := #[.int .i64 d.next, .slice la1 ln1 lc1, .slice fa1 fn1 fc1, .slice (some ⟨g, 0, none⟩) 4 sc1]) (t1 := 29) (c2 := #[.bool o, .int .i64 t, .slice wa wn wc]) (t2 := 55) rfl
 have hW1 := hb1.size
 have NBS := hide (fun q hq => (hO.so.lt q hq).2)
 have NBV := hide (fun q hq => (hO.vo.lt q hq).2)
 have NBF := hide (fun q hq => (hO.fo.lt q hq).2)
 have OU := hide (hO.below bA)
 have BU := hide (hb1.trans (bA.mono hW1))
 have OX := hide (rb_ownsRow_below hwo bA)
 have K6 := hide k6
 have K7 := hide k7
 have hb6 : W.heap.size ≤ w1.heap.size := hW1
 have a1 : (w1.alloc (.cells #[.int .i64 d.next, .slice la1 ln1 lc1, .slice fa1 fn1 fc1, .slice (some ⟨g, 0, none⟩) 4 sc1] 29)).cell? ⟨w.heap.size + 1, 1, none⟩ = some (.int .i64 (i : Int)) := (((Below.refl w1.heap.size w1).alloc (Nat.le_refl _) (.cells #[.int .i64 d.next, .slice la1 ln1 lc1, .slice fa1 fn1 fc1, .slice (some ⟨g, 0, none⟩) 4 sc1] 29)).cell (p := ⟨w.heap.size + 1, 1, none⟩) (by show w.heap.size + 1 < w1.heap.size; omega)).trans ((heap_at ((hb1.block (w.heap.size + 1) hz1).trans (unhide K1)) 1).1)
 have d0 := (((Below.refl w1.heap.size w1).alloc (Nat.le_refl _) (.cells #[.int .i64 d.next, .slice la1 ln1 lc1, .slice fa1 fn1 fc1, .slice (some ⟨g, 0, none⟩) 4 sc1] 29)).cell (p := ⟨g, i * 3, none⟩) hgw).trans c0
 have d1 := (((Below.refl w1.heap.size w1).alloc (Nat.le_refl _) (.cells #[.int .i64 d.next, .slice la1 ln1 lc1, .slice fa1 fn1 fc1, .slice (some ⟨g, 0, none⟩) 4 sc1] 29)).cell (p := ⟨g, i * 3 + 1, none⟩) hgw).trans c1
 have d2 := (((Below.refl w1.heap.size w1).alloc (Nat.le_refl _) (.cells #[.int .i64 d.next, .slice la1 ln1 lc1, .slice fa1 fn1 fc1, .slice (some ⟨g, 0, none⟩) 4 sc1] 29)).cell (p := ⟨g, i * 3 + 2, none⟩) hgw).trans c2
 have hin : (i : Int) < 4 := by omega
 clear hO hwo bA k6 k7 c0 c1 c2 hb1 z7
 go_upto_region 7 with fail
 clear d0 d1 d2 a1 hin
 generalize (w1.alloc (.cells #[.int .i64 d.next, .slice la1 ln1 lc1, .slice fa1 fn1 fc1, .slice (some ⟨g, 0, none⟩) 4 sc1] 29)).alloc (.cells #[.bool o, .int .i64 t, .slice wa wn wc] 55) = u at *
 generalize hb6e : w1.heap.size = b6 at *
 clear hb6e
 cases o with
 | false =>
  have kv := ((unhide BU).block w.heap.size hz0).trans (unhide K0)
  have v0 := (heap_at kv 0).1
  have v1 := (heap_at kv 1).1
  have v2 := (heap_at kv 2).1
  have v3 := (heap_at kv 3).1
  have ka := ((unhide BU).block (w.heap.size + 1) hz1).trans (unhide K1)
  have a0 := (heap_at ka 0).1
  have a1 := (heap_at ka 1).1
  have a2 := (heap_at ka 2).1
  have a3 := (heap_at ka 3).1
  have a4 := (heap_at ka 4).1
  have ky := ((unhide BU).block (w.heap.size + 1 + 1) hz2).trans (unhide K2)
  have y0 := (heap_at ky 0).1
  have y1 := (heap_at ky 1).1
  have y2 := (heap_at ky 2).1
  have y3 := (heap_at ky 3).1
  have yf0 := (heap_at ky 0).2
  have yf1 := (heap_at ky 1).2
  have yf2 := (heap_at ky 2).2
  have yf3 := (heap_at ky 3).2
  have kt := ((unhide BU).block (w.heap.size + 1 + 1 + 1) hz3).trans (unhide K3)
  have t0 := (heap_at kt 0).1
  have t1 := (heap_at kt 1).1
  have t2 := (heap_at kt 2).1
  have t3 := (heap_at kt 3).1
  have tf0 := (heap_at kt 0).2
  have tf1 := (heap_at kt 1).2
  have tf2 := (heap_at kt 2).2
  have tf3 := (heap_at kt 3).2
  have x0 := (heap_at (unhide K7) 0).1
  have RES := hide (show StRes ⟨la, ln, lc⟩ ⟨fa, fn, fc⟩ ⟨sa, sn, sc⟩ hs d (stepV d ⟨7, (i : Int), key, tu, val⟩) w (.returned (.tuple #[.agg #[.int .i64 d.next, .slice la ln lc, .slice fa fn fc, .slice sa sn sc], .agg #[.int .i64 10, .int .i64 0, .string ⟨#[]⟩, .slice none 0 0]])) ((((((((u.setCell ⟨w.heap.size + 1 + 1, 0, none⟩ (.int .i64 d.next)).setCell ⟨w.heap.size + 1 + 1, 1, none⟩ (.slice la ln lc)).setCell ⟨w.heap.size + 1 + 1, 2, none⟩ (.slice fa fn fc)).setCell ⟨w.heap.size + 1 + 1, 3, none⟩ (.slice sa sn sc)).setCell ⟨w.heap.size + 1 + 1 + 1, 0, none⟩ (.int .i64 10)).setCell ⟨w.heap.size + 1 + 1 + 1, 1, none⟩ (.int .i64 0)).setCell ⟨w.heap.size + 1 + 1 + 1, 2, none⟩ (.string ⟨#[]⟩)).setCell ⟨w.heap.size + 1 + 1 + 1, 3, none⟩ (.slice none 0 0)) from st_old (unhide HI) (bel_sv4 (bel_sv4 ((unhide BH).trans ((unhide BU).mono (unhide BH).size)) (by omega) _ _ _ _) (by omega) _ _ _ _) (by rw [unhide STP]; unfold sesV; rw [if_neg (by simp), if_pos rfl]))
  go_wp2_with fail
  refine bodyPost_ret (v := .tuple #[.agg #[.int .i64 d.next, .slice la ln lc, .slice fa fn fc, .slice sa sn sc], .agg #[.int .i64 10, .int .i64 0, .string ⟨#[]⟩, .slice none 0 0]]) (by simp [results, Tryz.results36, go_sem, *]) rfl ?_
  exact unhide RES
 | true =>
  have ST2 := hide (show stepV d ⟨7, (i : Int), key, tu, val⟩ = (⟨d.next, d.list, d.fen, d.ses.set i clS⟩, repV 0 t) by rw [unhide STP]; unfold sesV; rw [if_neg (by simp), if_neg (by simp), if_neg (by simp [fitA])]; unfold inV; rw [if_neg (by simp), if_neg (by simp), if_neg (by simp), if_neg (by simp)])
  have x0 := (heap_at (unhide K7) 0).1
  have x1 := (heap_at (unhide K7) 1).1
  have ka := ((unhide BU).block (w.heap.size + 1) hz1).trans (unhide K1)
  have a0 := (heap_at ka 0).1
  have bR : Below u.heap.size u (u.alloc (.cells #[.int .i64 0, .int .i64 t, .string ⟨#[]⟩, .slice none 0 0] 40)) := (Below.refl _ _).alloc (Nat.le_refl _) _
  have k8 := heap_alloc_new u (.cells #[.int .i64 0, .int .i64 t, .string ⟨#[]⟩, .slice none 0 0] 40)
  have OR := hide ((unhide OU).below bR)
  have BR := hide ((unhide BU).trans (bR.mono (unhide BU).size))
  have XR := hide (rb_ownsRow_below (unhide OX) bR)
  have K6R := hide ((bR.block b6 (blk_lt (unhide K6))).trans (unhide K6))
  have K7R := hide ((bR.block (b6 + 1) (blk_lt (unhide K7))).trans (unhide K7))
  have K8 := hide k8
  have h78 : b6 + 1 < u.heap.size := blk_lt (unhide K7)
  clear OU BU OX K6 K7 k8 bR ka
  go_upto_region 18 with fail
  clear x0 x1 a0
  generalize u.alloc (.cells #[.int .i64 0, .int .i64 t, .string ⟨#[]⟩, .slice none 0 0] 40) = ur at *
  generalize hb8e : u.heap.size = b8 at *
  clear hb8e
  have K8R := K8
  have ka := ((unhide BR).block (w.heap.size + 1) hz1).trans (unhide K1)
  have a0 := (heap_at ka 0).1
  have a1 := (heap_at ka 1).1
  have z3 := (heap_at (unhide K6R) 3).1
  have bL : Below ur.heap.size ur (ur.alloc (.cells #[] 43)) := (Below.refl _ _).alloc (Nat.le_refl _) _
  have OL := (unhide OR).below bL
  have NL := gd_base (nil_lit (w := ur) 43 4) (unhide BR).size
  have hih : i < hs1.length := by omega
  obtain ⟨g2, hg2, -, ⟨c0, c1, c2⟩, hfz, OP, WP, hki⟩ := OL.put hih ⟨clS, ⟨some ⟨ur.heap.size, 0, none⟩, 0, 0⟩⟩ NL (fun q hq => by
   injection hq with hq
   subst hq
   exact ⟨fun hn => Nat.lt_irrefl _ ((unhide OR).so.lt _ hn).2, fun e => Nat.lt_irrefl _ ((unhide OR).vo.lt _ e).2⟩)
  simp only at hg2
  injection hg2 with hg2
  injection hg2 with hg2 _ _
  subst hg2
  rw [unhide HX] at c0 c1 c2
  unfold clS at OP WP
  simp only at c0 c1 c2 OP WP
  have hf0 := hfz (i * 3)
  have hf1 := hfz (i * 3 + 1)
  have hf2 := hfz (i * 3 + 1 + 1)
  obtain ⟨cur, hcur⟩ := hki
  have BL := (unhide BR).trans (bL.mono (unhide BR).size)
  have BP := hide (BL.trans (WrB.below WP (fun k e => by rw [e]; exact hgB) BL.size))
  have K6L := (bL.block b6 (blk_lt (unhide K6R))).trans (unhide K6R)
  have h6g : b6 ≠ g := fun e => by rw [e, hcur] at K6L; injection K6L with K6L; injection K6L with _ K6L _; exact absurd K6L (by decide)
  have K6P := hide ((WP.block b6 (blk_lt K6L) h6g).trans K6L)
  have OPh := hide OP
  have a1L := (bL.cell (p := ⟨w.heap.size + 1, 1, none⟩) (cell_lt a1)).trans a1
  have z3L := (bL.cell (p := ⟨b6, 3, none⟩) (cell_lt z3)).trans z3
  have hin : (i : Int) < 4 := by omega
  have OF := hide OP
  have BF2 := BP
  have BF := hide ((unhide BH).trans ((unhide BP).mono (unhide BH).size))
  have K6F := K6P
  have K8L := (bL.block b8 (blk_lt (unhide K8R))).trans (unhide K8R)
  have h8g : b8 ≠ g := fun e => by rw [e, hcur] at K8L; injection K8L with K8L; injection K8L with _ K8L _; exact absurd K8L (by decide)
  have K8F := hide ((WP.block b8 (blk_lt K8L) h8g).trans K8L)
  clear OP WP K6L BL bL OL NL hfz hcur ka K8L K6P OPh
  go_upto_region 54 with fail
  clear a0 a1 c0 c1 c2 hf0 hf1 hf2 a1L z3L z3
  generalize ((((ur.alloc (.cells #[] 43)).setCell ⟨g, i * 3, none⟩ (.bool false)).setCell ⟨g, i * 3 + 1, none⟩ (.int .i64 0)).setCell ⟨g, i * 3 + 1 + 1, none⟩ (.slice (some ⟨ur.heap.size, 0, none⟩) 0 0)) = uf at *
  have z0 := (heap_at (unhide K6F) 0).1
  have z1 := (heap_at (unhide K6F) 1).1
  have z2 := (heap_at (unhide K6F) 2).1
  have z3 := (heap_at (unhide K6F) 3).1
  have p0 := (heap_at (unhide K8F) 0).1
  have p1 := (heap_at (unhide K8F) 1).1
  have p2 := (heap_at (unhide K8F) 2).1
  have p3 := (heap_at (unhide K8F) 3).1
  have N2 := hide (((unhide BF2).block (w.heap.size + 1 + 1) hz2).trans (unhide K2))
  have N3 := hide (((unhide BF2).block (w.heap.size + 1 + 1 + 1) hz3).trans (unhide K3))
  have h60 : b6 < uf.heap.size := blk_lt (unhide K6F)
  have h80 : b8 < uf.heap.size := blk_lt (unhide K8F)
  have h6W : W.heap.size ≤ uf.heap.size := (unhide BF2).size
  have LD := hide (show ∀ v : World, (∀ i, i ≠ w.heap.size + 1 + 1 → i ≠ w.heap.size + 1 + 1 + 1 → i < uf.heap.size → v.heap[i]? = uf.heap[i]?) → (fun u => u.cell? ⟨b6, 0, none⟩ = some (.int .i64 d.next) ∧ u.cell? ⟨b6, 1, none⟩ = some (.slice la1 ln1 lc1) ∧ u.cell? ⟨b6, 2, none⟩ = some (.slice fa1 fn1 fc1) ∧ u.cell? ⟨b6, 3, none⟩ = some (.slice (some ⟨g, 0, none⟩) 4 sc1) ∧ u.cell? ⟨b8, 0, none⟩ = some (.int .i64 0) ∧ u.cell? ⟨b8, 1, none⟩ = some (.int .i64 t) ∧ u.cell? ⟨b8, 2, none⟩ = some (.string ⟨#[]⟩) ∧ u.cell? ⟨b8, 3, none⟩ = some (.slice none 0 0)) v from fun v hv => ⟨(World.cell?_of_block (a := ⟨b6, 0, none⟩) (hv b6 (by omega) (by omega) h60)).trans z0, (World.cell?_of_block (a := ⟨b6, 1, none⟩) (hv b6 (by omega) (by omega) h60)).trans z1, (World.cell?_of_block (a := ⟨b6, 2, none⟩) (hv b6 (by omega) (by omega) h60)).trans z2, (World.cell?_of_block (a := ⟨b6, 3, none⟩) (hv b6 (by omega) (by omega) h60)).trans z3, (World.cell?_of_block (a := ⟨b8, 0, none⟩) (hv b8 (by omega) (by omega) h80)).trans p0, (World.cell?_of_block (a := ⟨b8, 1, none⟩) (hv b8 (by omega) (by omega) h80)).trans p1, (World.cell?_of_block (a := ⟨b8, 2, none⟩) (hv b8 (by omega) (by omega) h80)).trans p2, (World.cell?_of_block (a := ⟨b8, 3, none⟩) (hv b8 (by omega) (by omega) h80)).trans p3⟩)
  clear z0 z1 z2 z3 p0 p1 p2 p3
  have D0 := hide (show ∀ i, i ≠ w.heap.size + 1 + 1 → i ≠ w.heap.size + 1 + 1 + 1 → i < uf.heap.size → uf.drew.heap[i]? = uf.heap[i]? from fun _ _ _ _ => rfl)
  have ZD0 := hide (show uf.heap.size ≤ uf.drew.heap.size from Nat.le_refl _)
  have BD0 := hide (show Below w.heap.size w uf.drew from (unhide BF).drew)
  replace N2 := hide (show uf.drew.heap[w.heap.size + 1 + 1]? = _ from unhide N2)
  replace N3 := hide (show uf.drew.heap[w.heap.size + 1 + 1 + 1]? = _ from unhide N3)
  go_upto_region 54 with fail
  refine wp_region_held_drew (S := (fun u => u.cell? ⟨b6, 0, none⟩ = some (.int .i64 d.next) ∧ u.cell? ⟨b6, 1, none⟩ = some (.slice la1 ln1 lc1) ∧ u.cell? ⟨b6, 2, none⟩ = some (.slice fa1 fn1 fc1) ∧ u.cell? ⟨b6, 3, none⟩ = some (.slice (some ⟨g, 0, none⟩) 4 sc1) ∧ u.cell? ⟨b8, 0, none⟩ = some (.int .i64 0) ∧ u.cell? ⟨b8, 1, none⟩ = some (.int .i64 t) ∧ u.cell? ⟨b8, 2, none⟩ = some (.string ⟨#[]⟩) ∧ u.cell? ⟨b8, 3, none⟩ = some (.slice none 0 0))) (by kernel_rfl) (unhide LD _ (unhide D0)) (fun hHeld => ?_)
  generalize uf.drew = ud at *
  refine tk 0 229 rfl rfl hHeld ?_
  simp only [Act.put, lA, lB, lC]
  refine tk 1 230 rfl rfl hHeld ?_
  simp only [Act.put, lA, lB, lC]
  refine rd [2] (.cons rfl (fun K hK => ?_) .nil)
  have c0 := (heap_at (unhide N2) 0).1
  have c1 := (heap_at (unhide N2) 1).1
  have c2 := (heap_at (unhide N2) 2).1
  have c3 := (heap_at (unhide N2) 3).1
  have cf0 := (heap_at (unhide N2) 0).2
  have cf1 := (heap_at (unhide N2) 1).2
  have cf2 := (heap_at (unhide N2) 2).2
  have cf3 := (heap_at (unhide N2) 3).2
  have hw : WrB (fun i => i = w.heap.size + 1 + 1) ud ((((ud.setCell ⟨w.heap.size + 1 + 1, 0, none⟩ (.int .i64 d.next)).setCell ⟨w.heap.size + 1 + 1, 1, none⟩ (.slice la1 ln1 lc1)).setCell ⟨w.heap.size + 1 + 1, 2, none⟩ (.slice fa1 fn1 fc1)).setCell ⟨w.heap.size + 1 + 1, 3, none⟩ (.slice (some ⟨g, 0, none⟩) 4 sc1)) := sv4_wr ud (w.heap.size + 1 + 1) (.int .i64 d.next) (.slice la1 ln1 lc1) (.slice fa1 fn1 fc1) (.slice (some ⟨g, 0, none⟩) 4 sc1)
  have D1 := hide (show ∀ i, i ≠ w.heap.size + 1 + 1 → i ≠ w.heap.size + 1 + 1 + 1 → i < uf.heap.size → ((((ud.setCell ⟨w.heap.size + 1 + 1, 0, none⟩ (.int .i64 d.next)).setCell ⟨w.heap.size + 1 + 1, 1, none⟩ (.slice la1 ln1 lc1)).setCell ⟨w.heap.size + 1 + 1, 2, none⟩ (.slice fa1 fn1 fc1)).setCell ⟨w.heap.size + 1 + 1, 3, none⟩ (.slice (some ⟨g, 0, none⟩) 4 sc1)).heap[i]? = uf.heap[i]? from fun i h1 h2 h3 => (hw.block i (Nat.lt_of_lt_of_le h3 (unhide ZD0)) (by first | exact h1 | exact h2)).trans (unhide D0 i h1 h2 h3))
  have ZD1 := hide (show uf.heap.size ≤ ((((ud.setCell ⟨w.heap.size + 1 + 1, 0, none⟩ (.int .i64 d.next)).setCell ⟨w.heap.size + 1 + 1, 1, none⟩ (.slice la1 ln1 lc1)).setCell ⟨w.heap.size + 1 + 1, 2, none⟩ (.slice fa1 fn1 fc1)).setCell ⟨w.heap.size + 1 + 1, 3, none⟩ (.slice (some ⟨g, 0, none⟩) 4 sc1)).heap.size from Nat.le_trans (unhide ZD0) hw.size)
  have Ka := hide (show ((((ud.setCell ⟨w.heap.size + 1 + 1, 0, none⟩ (.int .i64 d.next)).setCell ⟨w.heap.size + 1 + 1, 1, none⟩ (.slice la1 ln1 lc1)).setCell ⟨w.heap.size + 1 + 1, 2, none⟩ (.slice fa1 fn1 fc1)).setCell ⟨w.heap.size + 1 + 1, 3, none⟩ (.slice (some ⟨g, 0, none⟩) 4 sc1)).heap[w.heap.size + 1 + 1]? = some (.cells #[.int .i64 d.next, .slice la1 ln1 lc1, .slice fa1 fn1 fc1, .slice (some ⟨g, 0, none⟩) 4 sc1] 29 (0, 0)) from sv4_heap (unhide N2) (.int .i64 d.next) (.slice la1 ln1 lc1) (.slice fa1 fn1 fc1) (.slice (some ⟨g, 0, none⟩) 4 sc1))
  have BD1 := hide (show Below w.heap.size w ((((ud.setCell ⟨w.heap.size + 1 + 1, 0, none⟩ (.int .i64 d.next)).setCell ⟨w.heap.size + 1 + 1, 1, none⟩ (.slice la1 ln1 lc1)).setCell ⟨w.heap.size + 1 + 1, 2, none⟩ (.slice fa1 fn1 fc1)).setCell ⟨w.heap.size + 1 + 1, 3, none⟩ (.slice (some ⟨g, 0, none⟩) 4 sc1)) from bel_sv4 (unhide BD0) (by omega) (.int .i64 d.next) (.slice la1 ln1 lc1) (.slice fa1 fn1 fc1) (.slice (some ⟨g, 0, none⟩) 4 sc1))
  have E3 := hide ((hw.block (w.heap.size + 1 + 1 + 1) (blk_lt (unhide N3)) (by omega)).trans (unhide N3))
  clear hw
  go_simp
  refine hK.out _ _ (unhide LD _ (unhide D1)) (fun hHeld => ?_)
  clear hK K
  clear c0 c1 c2 c3 cf0 cf1 cf2 cf3
  generalize ((((ud.setCell ⟨w.heap.size + 1 + 1, 0, none⟩ (.int .i64 d.next)).setCell ⟨w.heap.size + 1 + 1, 1, none⟩ (.slice la1 ln1 lc1)).setCell ⟨w.heap.size + 1 + 1, 2, none⟩ (.slice fa1 fn1 fc1)).setCell ⟨w.heap.size + 1 + 1, 3, none⟩ (.slice (some ⟨g, 0, none⟩) 4 sc1)) = ue at *
  refine rd [3] (.cons rfl (fun K hK => ?_) .nil)
  have c0 := (heap_at (unhide E3) 0).1
  have c1 := (heap_at (unhide E3) 1).1
  have c2 := (heap_at (unhide E3) 2).1
  have c3 := (heap_at (unhide E3) 3).1
  have cf0 := (heap_at (unhide E3) 0).2
  have cf1 := (heap_at (unhide E3) 1).2
  have cf2 := (heap_at (unhide E3) 2).2
  have cf3 := (heap_at (unhide E3) 3).2
  have hw : WrB (fun i => i = w.heap.size + 1 + 1 + 1) ue ((((ue.setCell ⟨w.heap.size + 1 + 1 + 1, 0, none⟩ (.int .i64 0)).setCell ⟨w.heap.size + 1 + 1 + 1, 1, none⟩ (.int .i64 t)).setCell ⟨w.heap.size + 1 + 1 + 1, 2, none⟩ (.string ⟨#[]⟩)).setCell ⟨w.heap.size + 1 + 1 + 1, 3, none⟩ (.slice none 0 0)) := sv4_wr ue (w.heap.size + 1 + 1 + 1) (.int .i64 0) (.int .i64 t) (.string ⟨#[]⟩) (.slice none 0 0)
  have D2 := hide (show ∀ i, i ≠ w.heap.size + 1 + 1 → i ≠ w.heap.size + 1 + 1 + 1 → i < uf.heap.size → ((((ue.setCell ⟨w.heap.size + 1 + 1 + 1, 0, none⟩ (.int .i64 0)).setCell ⟨w.heap.size + 1 + 1 + 1, 1, none⟩ (.int .i64 t)).setCell ⟨w.heap.size + 1 + 1 + 1, 2, none⟩ (.string ⟨#[]⟩)).setCell ⟨w.heap.size + 1 + 1 + 1, 3, none⟩ (.slice none 0 0)).heap[i]? = uf.heap[i]? from fun i h1 h2 h3 => (hw.block i (Nat.lt_of_lt_of_le h3 (unhide ZD1)) (by first | exact h1 | exact h2)).trans (unhide D1 i h1 h2 h3))
  have ZD2 := hide (show uf.heap.size ≤ ((((ue.setCell ⟨w.heap.size + 1 + 1 + 1, 0, none⟩ (.int .i64 0)).setCell ⟨w.heap.size + 1 + 1 + 1, 1, none⟩ (.int .i64 t)).setCell ⟨w.heap.size + 1 + 1 + 1, 2, none⟩ (.string ⟨#[]⟩)).setCell ⟨w.heap.size + 1 + 1 + 1, 3, none⟩ (.slice none 0 0)).heap.size from Nat.le_trans (unhide ZD1) hw.size)
  have Kb := hide (show ((((ue.setCell ⟨w.heap.size + 1 + 1 + 1, 0, none⟩ (.int .i64 0)).setCell ⟨w.heap.size + 1 + 1 + 1, 1, none⟩ (.int .i64 t)).setCell ⟨w.heap.size + 1 + 1 + 1, 2, none⟩ (.string ⟨#[]⟩)).setCell ⟨w.heap.size + 1 + 1 + 1, 3, none⟩ (.slice none 0 0)).heap[w.heap.size + 1 + 1 + 1]? = some (.cells #[.int .i64 0, .int .i64 t, .string ⟨#[]⟩, .slice none 0 0] 40 (0, 0)) from sv4_heap (unhide E3) (.int .i64 0) (.int .i64 t) (.string ⟨#[]⟩) (.slice none 0 0))
  have BD2 := hide (show Below w.heap.size w ((((ue.setCell ⟨w.heap.size + 1 + 1 + 1, 0, none⟩ (.int .i64 0)).setCell ⟨w.heap.size + 1 + 1 + 1, 1, none⟩ (.int .i64 t)).setCell ⟨w.heap.size + 1 + 1 + 1, 2, none⟩ (.string ⟨#[]⟩)).setCell ⟨w.heap.size + 1 + 1 + 1, 3, none⟩ (.slice none 0 0)) from bel_sv4 (unhide BD1) (by omega) (.int .i64 0) (.int .i64 t) (.string ⟨#[]⟩) (.slice none 0 0))
  have Kc := hide ((hw.block (w.heap.size + 1 + 1) (blk_lt (unhide Ka)) (by omega)).trans (unhide Ka))
  clear hw
  go_simp
  refine hK.out _ _ (unhide LD _ (unhide D2)) (fun hHeld => ?_)
  clear hK K
  clear c0 c1 c2 c3 cf0 cf1 cf2 cf3
  generalize ((((ue.setCell ⟨w.heap.size + 1 + 1 + 1, 0, none⟩ (.int .i64 0)).setCell ⟨w.heap.size + 1 + 1 + 1, 1, none⟩ (.int .i64 t)).setCell ⟨w.heap.size + 1 + 1 + 1, 2, none⟩ (.string ⟨#[]⟩)).setCell ⟨w.heap.size + 1 + 1 + 1, 3, none⟩ (.slice none 0 0)) = ug at *
  refine wpAnyH_done (by kernel_rfl) ?_ _
  have r0 := (heap_at (unhide Kc) 0).1
  have r1 := (heap_at (unhide Kc) 1).1
  have r2 := (heap_at (unhide Kc) 2).1
  have r3 := (heap_at (unhide Kc) 3).1
  have q0 := (heap_at (unhide Kb) 0).1
  have q1 := (heap_at (unhide Kb) 1).1
  have q2 := (heap_at (unhide Kb) 2).1
  have q3 := (heap_at (unhide Kb) 3).1
  have OG := (unhide OF).wr (P := fun i => i = w.heap.size + 1 + 1 ∨ i = w.heap.size + 1 + 1 + 1) (w' := ug) ⟨(unhide BD2).os.trans (unhide BF).os.symm, (unhide BD2).tape.trans (unhide BF).tape.symm, (unhide BD2).output.trans (unhide BF).output.symm, unhide ZD2, fun i hi hp => unhide D2 i (fun e => hp (.inl e)) (fun e => hp (.inr e)) hi⟩ (fun i e => by rcases e with e | e <;> omega)
  have RES := hide (show StRes ⟨la, ln, lc⟩ ⟨fa, fn, fc⟩ ⟨sa, sn, sc⟩ hs d (stepV d ⟨7, (i : Int), key, tu, val⟩) w (.returned (.tuple #[.agg #[.int .i64 d.next, .slice la1 ln1 lc1, .slice fa1 fn1 fc1, .slice (some ⟨g, 0, none⟩) 4 sc1], .agg #[.int .i64 0, .int .i64 t, .string ⟨#[]⟩, .slice none 0 0]])) ug from st_own OG (Nat.le_of_lt hz0) (unhide BD2) (unhide ST2))
  clear hHeld LD D0 D1 D2 N2 N3 E3 Ka Kb Kc
  go_wp2_with fail
  refine bodyPost_ret (v := .tuple #[.agg #[.int .i64 d.next, .slice la1 ln1 lc1, .slice fa1 fn1 fc1, .slice (some ⟨g, 0, none⟩) 4 sc1], .agg #[.int .i64 0, .int .i64 t, .string ⟨#[]⟩, .slice none 0 0]]) (by simp [results, Tryz.results36, go_sem, *]) rfl ?_
  exact unhide RES
end Go.Proofs.YtdnjgbckkmbmfaaGreat

namespace Go.Proofs.YtdnjgbckkmbmfaaGreat
open Go.RowKit

set_option maxHeartbeats 8000000 in
theorem l06Step_bad (d : VsD) (kind ses : Int) (key tu val : ByteArray) (l f s : Sl) (hs : List SeH) (w : World) (hI : VzIn w l f s hs d) (hS : SmV d) (hb : ¬ (1 ≤ kind ∧ kind ≤ 7) ∨ ¬ (0 ≤ ses ∧ ses ≤ 3)) :
  Calls Tryz.prog 36 #[.agg (vzC d.next l f s), .agg #[.int .i64 kind, .int .i64 ses, .string key, .string tu, .string val]] w fun e w' => StRes l f s hs d (stepV d ⟨kind, ses, key, tu, val⟩) w e w' := by
 have hz := allocC_size [(vzC d.next l f s, 29), (#[.int .i64 kind, .int .i64 ses, .string key, .string tu, .string val], 37), (#[.int .i64 0, .slice none 0 0, .slice none 0 0, .slice none 0 0], 29), (#[.int .i64 0, .int .i64 0, .string ⟨#[]⟩, .slice none 0 0], 40)] w
 have b1 := allocC_bel [(vzC d.next l f s, 29), (#[.int .i64 kind, .int .i64 ses, .string key, .string tu, .string val], 37), (#[.int .i64 0, .slice none 0 0, .slice none 0 0, .slice none 0 0], 29), (#[.int .i64 0, .int .i64 0, .string ⟨#[]⟩, .slice none 0 0], 40)] w
 have AT := allocC_at [(vzC d.next l f s, 29), (#[.int .i64 kind, .int .i64 ses, .string key, .string tu, .string val], 37), (#[.int .i64 0, .slice none 0 0, .slice none 0 0, .slice none 0 0], 29), (#[.int .i64 0, .int .i64 0, .string ⟨#[]⟩, .slice none 0 0], 40)] w
 obtain ⟨W, hW⟩ : ∃ W, W = allocC w [(vzC d.next l f s, 29), (#[.int .i64 kind, .int .i64 ses, .string key, .string tu, .string val], 37), (#[.int .i64 0, .slice none 0 0, .slice none 0 0, .slice none 0 0], 29), (#[.int .i64 0, .int .i64 0, .string ⟨#[]⟩, .slice none 0 0], 40)] := ⟨_, rfl⟩
 rw [← hW] at hz b1 AT
 simp only [List.length_cons, List.length_nil] at hz
 have k0 : W.heap[w.heap.size]? = some (.cells (vzC d.next l f s) 29 (0, 0)) := AT 0 _ _ rfl
 have k1 : W.heap[w.heap.size + 1]? = some (.cells #[.int .i64 kind, .int .i64 ses, .string key, .string tu, .string val] 37 (0, 0)) := AT 1 _ _ rfl
 have k2 : W.heap[w.heap.size + 1 + 1]? = some (.cells #[.int .i64 0, .slice none 0 0, .slice none 0 0, .slice none 0 0] 29 (0, 0)) := AT 2 _ _ rfl
 have k3 : W.heap[w.heap.size + 1 + 1 + 1]? = some (.cells #[.int .i64 0, .int .i64 0, .string ⟨#[]⟩, .slice none 0 0] 40 (0, 0)) := AT 3 _ _ rfl
 have hz0 : w.heap.size < W.heap.size := by omega
 have hz1 : w.heap.size + 1 < W.heap.size := by omega
 have hz2 : w.heap.size + 1 + 1 < W.heap.size := by omega
 have hz3 : w.heap.size + 1 + 1 + 1 < W.heap.size := by omega
 unfold allocC allocC allocC allocC allocC at hW
 have BH := hide b1
 have HI := hide hI
 have HS := hide hS
 obtain ⟨la, ln, lc⟩ := l
 obtain ⟨fa, fn, fc⟩ := f
 obtain ⟨sa, sn, sc⟩ := s
 unfold vzC at k0 hW ⊢
 simp only at k0 hW ⊢
 have K0 := hide k0
 have K1 := hide k1
 have K2 := hide k2
 have K3 := hide k3
 have hnx := hS.nx
 have a0 := (heap_at k1 0).1
 have a1 := (heap_at k1 1).1
 have v0 := (heap_at k0 0).1
 have v1 := (heap_at k0 1).1
 have v2 := (heap_at k0 2).1
 have v3 := (heap_at k0 3).1
 clear hI hS hz b1 AT k0 k1 k2 k3
 have kyy := unhide K2
 have ktt := unhide K3
 have y0 := (heap_at kyy 0).1
 have y1 := (heap_at kyy 1).1
 have y2 := (heap_at kyy 2).1
 have y3 := (heap_at kyy 3).1
 have yf0 := (heap_at kyy 0).2
 have yf1 := (heap_at kyy 1).2
 have yf2 := (heap_at kyy 2).2
 have yf3 := (heap_at kyy 3).2
 have t0 := (heap_at ktt 0).1
 have t1 := (heap_at ktt 1).1
 have t2 := (heap_at ktt 2).1
 have t3 := (heap_at ktt 3).1
 have tf0 := (heap_at ktt 0).2
 have tf1 := (heap_at ktt 1).2
 have tf2 := (heap_at ktt 2).2
 have tf3 := (heap_at ktt 3).2
 clear kyy ktt
 cases hkb : (decide (1 ≤ kind) && decide (kind ≤ 7)) with
 | false =>
  have hk : ¬ (1 ≤ kind ∧ kind ≤ 7) := fun h => by rw [decide_eq_true h.1, decide_eq_true h.2] at hkb; cases hkb
  clear hb
  have RES := hide (show StRes ⟨la, ln, lc⟩ ⟨fa, fn, fc⟩ ⟨sa, sn, sc⟩ hs d (stepV d ⟨kind, ses, key, tu, val⟩) w (.returned (.tuple #[.agg #[.int .i64 d.next, .slice la ln lc, .slice fa fn fc, .slice sa sn sc], .agg #[.int .i64 3, .int .i64 0, .string ⟨#[]⟩, .slice none 0 0]])) ((((((((W.setCell ⟨w.heap.size + 1 + 1, 0, none⟩ (.int .i64 d.next)).setCell ⟨w.heap.size + 1 + 1, 1, none⟩ (.slice la ln lc)).setCell ⟨w.heap.size + 1 + 1, 2, none⟩ (.slice fa fn fc)).setCell ⟨w.heap.size + 1 + 1, 3, none⟩ (.slice sa sn sc)).setCell ⟨w.heap.size + 1 + 1 + 1, 0, none⟩ (.int .i64 3)).setCell ⟨w.heap.size + 1 + 1 + 1, 1, none⟩ (.int .i64 0)).setCell ⟨w.heap.size + 1 + 1 + 1, 2, none⟩ (.string ⟨#[]⟩)).setCell ⟨w.heap.size + 1 + 1 + 1, 3, none⟩ (.slice none 0 0)) from st_old (unhide HI) (bel_sv4 (bel_sv4 (unhide BH) (by omega) _ _ _ _) (by omega) _ _ _ _) (by unfold stepV; rw [if_pos hk]))
  go_enter Tryz.func36, Tryz.ntmps36
  go_upto_region 1 with fail
  rw [← hW]
  clear hW
  go_wp2_with (go_at_call 75; refine (l01In_any _ _ _ _).mono ?_; rintro e w9 ⟨rfl, hw9⟩; subst w9)
  refine bodyPost_ret (v := .tuple #[.agg #[.int .i64 d.next, .slice la ln lc, .slice fa fn fc, .slice sa sn sc], .agg #[.int .i64 3, .int .i64 0, .string ⟨#[]⟩, .slice none 0 0]]) (by simp [results, Tryz.results36, go_sem, *]) rfl ?_
  exact unhide RES
 | true =>
  have hk : 1 ≤ kind ∧ kind ≤ 7 := by simpa using hkb
  have hs' : ¬ (0 ≤ ses ∧ ses ≤ 3) := fun h => hb.elim (fun h' => h' hk) (fun h' => h' h)
  have hsb : (decide (0 ≤ ses) && decide (ses ≤ 3)) = false := by
   cases h : (decide (0 ≤ ses) && decide (ses ≤ 3))
   ·rfl
   ·exact absurd (by simpa using h) hs'
  clear hb
  have RES := hide (show StRes ⟨la, ln, lc⟩ ⟨fa, fn, fc⟩ ⟨sa, sn, sc⟩ hs d (stepV d ⟨kind, ses, key, tu, val⟩) w (.returned (.tuple #[.agg #[.int .i64 d.next, .slice la ln lc, .slice fa fn fc, .slice sa sn sc], .agg #[.int .i64 4, .int .i64 0, .string ⟨#[]⟩, .slice none 0 0]])) ((((((((W.setCell ⟨w.heap.size + 1 + 1, 0, none⟩ (.int .i64 d.next)).setCell ⟨w.heap.size + 1 + 1, 1, none⟩ (.slice la ln lc)).setCell ⟨w.heap.size + 1 + 1, 2, none⟩ (.slice fa fn fc)).setCell ⟨w.heap.size + 1 + 1, 3, none⟩ (.slice sa sn sc)).setCell ⟨w.heap.size + 1 + 1 + 1, 0, none⟩ (.int .i64 4)).setCell ⟨w.heap.size + 1 + 1 + 1, 1, none⟩ (.int .i64 0)).setCell ⟨w.heap.size + 1 + 1 + 1, 2, none⟩ (.string ⟨#[]⟩)).setCell ⟨w.heap.size + 1 + 1 + 1, 3, none⟩ (.slice none 0 0)) from st_old (unhide HI) (bel_sv4 (bel_sv4 (unhide BH) (by omega) _ _ _ _) (by omega) _ _ _ _) (by unfold stepV; rw [if_neg (fun h => h hk), if_pos hs']))
  go_enter Tryz.func36, Tryz.ntmps36
  go_upto_region 1 with fail
  rw [← hW]
  clear hW
  go_wp2_with (go_at_call 75; refine (l01In_any _ _ _ _).mono ?_; rintro e w9 ⟨rfl, hw9⟩; subst w9)
  refine bodyPost_ret (v := .tuple #[.agg #[.int .i64 d.next, .slice la ln lc, .slice fa fn fc, .slice sa sn sc], .agg #[.int .i64 4, .int .i64 0, .string ⟨#[]⟩, .slice none 0 0]]) (by simp [results, Tryz.results36, go_sem, *]) rfl ?_
  exact unhide RES
theorem l06Step_any (d : VsD) (a : TxD) (l f s : Sl) (hs : List SeH) (w : World) (hI : VzIn w l f s hs d) (hS : SmV d) :
  Calls Tryz.prog 36 #[.agg (vzC d.next l f s), xv a] w fun e w' => StRes l f s hs d (stepV d a) w e w' := by
 obtain ⟨kind, ses, key, tu, val⟩ := a
 unfold xv
 simp only
 by_cases hb : ¬ (1 ≤ kind ∧ kind ≤ 7) ∨ ¬ (0 ≤ ses ∧ ses ≤ 3)
 ·exact l06Step_bad d kind ses key tu val l f s hs w hI hS hb
 ·obtain ⟨i, rfl⟩ : ∃ i : Nat, ses = (i : Int) := ⟨ses.toNat, by omega⟩
  have hi : i < 4 := by omega
  have hk : kind = 1 ∨ kind = 2 ∨ kind = 3 ∨ kind = 4 ∨ kind = 5 ∨ kind = 6 ∨ kind = 7 := by omega
  rcases hk with rfl | rfl | rfl | rfl | rfl | rfl | rfl
  ·exact l06Step_1 d i key tu val l f s hs w hI hS hi
  ·exact l06Step_2 d i key tu val l f s hs w hI hS hi
  ·exact l06Step_3 d i key tu val l f s hs w hI hS hi
  ·exact l06Step_4 d i key tu val l f s hs w hI hS hi
  ·exact l06Step_5 d i key tu val l f s hs w hI hS hi
  ·exact l06Step_6 d i key tu val l f s hs w hI hS hi
  ·exact l06Step_7 d i key tu val l f s hs w hI hS hi
end Go.Proofs.YtdnjgbckkmbmfaaGreat

namespace Go.Proofs.YtdnjgbckkmbmfaaGreat
open Go.RowKit

theorem zr_box {w : World} {B n tb : Nat} {v : Value} {zs : List ZrH} {cs : Array Value} {t : TypeId} (h : NOwn w B 40 4 v n (zs.map zrEl)) (hb : w.heap[tb]? = some (.cells cs t (0, 0))) (h1 : 40 ≠ t) (h2 : 48 ≠ t) : ¬ NBl v (zs.map zrEl) tb := fun hn => by
 rcases hn with hn | ⟨k, a, x, hx, hi⟩
 ·exact own_box h.row hb h1 hn
 ·have ht : x.t = 48 := by
   obtain ⟨e, he, hxe⟩ := sbAt_mem hx
   obtain ⟨y, _, rfl⟩ := List.mem_map.1 he
   rw [List.mem_singleton.1 hxe]
  have hd := h.dat k a x hx
  rw [ht] at hd
  exact own_box hd hb h2 hi
structure TrSt (W v : World) (tb : Nat) (l f s : Sl) (hs : List SeH) (d : VsD) (rv : Value) (zs : List ZrH) : Prop where
 bel : Below W.heap.size W v
 own : VzOwn v W.heap.size l f s hs d
 box : v.heap[tb]? = some (.cells (vzC d.next l f s) 29 (0, 0))
 rep : ZrOwn v W.heap.size rv zs
 tge : W.heap.size ≤ tb
theorem TrSt.below {W v v' : World} {tb : Nat} {l f s : Sl} {hs : List SeH} {d : VsD} {rv : Value} {zs : List ZrH} (h : TrSt W v tb l f s hs d rv zs) (hb : Below v.heap.size v v') : TrSt W v' tb l f s hs d rv zs :=
 ⟨h.bel.trans (hb.mono h.bel.size), h.own.below hb, (hb.block tb (blk_lt h.box)).trans h.box, h.rep.below hb, h.tge⟩
theorem TrSt.push {W wr u : World} {tb : Nat} {l f s l' f' s' : Sl} {hs hs' : List SeH} {d d' : VsD} {rv : Value} {zs : List ZrH} (h : TrSt W wr tb l f s hs d rv zs) (hb : Below wr.heap.size wr u) (own' : VzOwn u W.heap.size l' f' s' hs' d') (p : RepD) (r : Sl) (eo : EOwns u wr.heap.size (.slice r.a r.n r.c) p.list) (hz : zs.length ≤ 1000) :
  ∃ q : Sl, ∃ w5, (Builtin.append_ #[30, 30] 30 #[rv, .slice (some ⟨(sv4 u tb (.int .i64 d'.next) (.slice l'.a l'.n l'.c) (.slice f'.a f'.n f'.c) (.slice s'.a s'.n s'.c)).heap.size, 0, none⟩) 1 1]).run Tryz.prog ((sv4 u tb (.int .i64 d'.next) (.slice l'.a l'.n l'.c) (.slice f'.a f'.n f'.c) (.slice s'.a s'.n s'.c)).alloc (.cells #[.int .i64 p.code, .int .i64 p.time, .string p.val, .slice r.a r.n r.c] 40)) = .ok (.slice q.a q.n q.c) w5 ∧ TrSt W w5 tb l' f' s' hs' d' (.slice q.a q.n q.c) (zs ++ [⟨p, r⟩]) := by
 have hu := h.below hb
 have hw := sv4_wr u tb (.int .i64 d'.next) (.slice l'.a l'.n l'.c) (.slice f'.a f'.n f'.c) (.slice s'.a s'.n s'.c)
 have hx := sv4_heap hu.box (.int .i64 d'.next) (.slice l'.a l'.n l'.c) (.slice f'.a f'.n f'.c) (.slice s'.a s'.n s'.c)
 have o1 := own'.box hu.box (by decide) (by decide) (by decide) hw
 have e1 := own_keep eo hu.box (by decide) hw
 have r1 : ZrOwn (sv4 u tb (.int .i64 d'.next) (.slice l'.a l'.n l'.c) (.slice f'.a f'.n f'.c) (.slice s'.a s'.n s'.c)) W.heap.size rv zs := hu.rep.keep hw (fun i hi e => by subst e; exact zr_box hu.rep hu.box (by decide) (by decide) hi)
 have b1 := hu.bel.trans (WrB.below hw (fun i e => by rw [e]; exact h.tge) hu.bel.size)
 have hwr : wr.heap.size ≤ (sv4 u tb (.int .i64 d'.next) (.slice l'.a l'.n l'.c) (.slice f'.a f'.n f'.c) (.slice s'.a s'.n s'.c)).heap.size := Nat.le_trans hb.size hw.size
 have hlt : ∀ i, NBl rv (zs.map zrEl) i → i < wr.heap.size := fun i hi => (h.rep.lt i hi).2
 clear hw
 generalize sv4 u tb (.int .i64 d'.next) (.slice l'.a l'.n l'.c) (.slice f'.a f'.n f'.c) (.slice s'.a s'.n s'.c) = u1 at *
 obtain ⟨i0, hi0, hz0, hz1, hz2⟩ := info_parts Tryz.infoZr
 obtain ⟨v', w5, hrun, hN, hg, -⟩ := NOwn.app (e := zrEl ⟨p, r⟩) (C := wr.heap.size) 30 Tryz.underlying30 hi0 hz0 hz1 hz2 rfl (by decide) (by decide) r1 rfl (by intro y hy; simp only [zrEl, List.mem_cons, List.not_mem_nil, or_false] at hy; rcases hy with rfl | rfl | rfl | rfl <;> rfl) (fun y hy => by rw [List.mem_singleton.1 hy]; exact e1) hlt h.bel.size (fun a b y z hy hz' hab => by
  match a, hy, b, hz' with
  | 0, _, 0, _ => exact absurd rfl hab
  | a + 1, hy, _, _ => cases hy
  | 0, _, b + 1, hz' => cases hz') (by omega) b1.size
 obtain ⟨q, rfl, -⟩ := v_slice hN.row
 have bA : Below u1.heap.size u1 (u1.alloc (.cells (zrEl ⟨p, r⟩).hd.toArray 40)) := (Below.refl _ _).alloc (Nat.le_refl _) _
 have hG := WrB.of_grown hg
 have oA := o1.below bA
 have rA := r1.below bA
 have xA := (bA.block tb (blk_lt hx)).trans hx
 have bB := b1.trans (bA.mono b1.size)
 refine ⟨q, w5, hrun, ⟨bB.trans (WrB.below hG (fun i hi => (rA.row.lt i hi).1) bB.size), oA.apart hG (fun i hi => own_other oA.vo rA.row (by decide) hi) (fun i hi => own_other oA.fo rA.row (by decide) hi) (fun i hi e => ?_), (hG.block tb (blk_lt xA) (own_box rA.row xA (by decide))).trans xA, ?_, h.tge⟩⟩
 ·obtain ⟨cur, hc⟩ := own_kind rA.row e
  exact se_box oA.so hc (by decide) (by decide) hi
 ·have := hN
  rw [← List.map_singleton, ← List.map_append] at this
  rw [show zs.length + 1 = (zs ++ [(⟨p, r⟩ : ZrH)]).length by simp] at this
  exact this
structure RgT (W wr u : World) (p : VsD × RepD) (res : Option (Sl × Sl × Sl × List SeH × Sl)) (b8 b9 : Option Nat) : Prop where
 bel : Below wr.heap.size wr u
 r : ∀ l f s hs r, res = some (l, f, s, hs, r) → VzOwn u W.heap.size l f s hs p.1 ∧ EOwns u wr.heap.size (.slice r.a r.n r.c) p.2.list
 e8 : ∀ b, b8 = some b → wr.heap.size ≤ b ∧ u.heap[b]? = some (.cells #[.int .i64 0, .slice none 0 0, .slice none 0 0, .slice none 0 0] 29 (0, 0))
 e9 : ∀ b, b9 = some b → wr.heap.size ≤ b ∧ u.heap[b]? = some (.cells #[.int .i64 0, .int .i64 0, .string ⟨#[]⟩, .slice none 0 0] 40 (0, 0))
theorem RgT.step {W wr u u' : World} {p : VsD × RepD} {res : Option (Sl × Sl × Sl × List SeH × Sl)} {b8 b9 : Option Nat} (h : RgT W wr u p res b8 b9) (hb : Below u.heap.size u u') : RgT W wr u' p res b8 b9 :=
 ⟨h.bel.trans (hb.mono h.bel.size), fun l f s hs r e => ⟨(h.r l f s hs r e).1.below hb, rb_ownsRow_below (h.r l f s hs r e).2 hb⟩, fun b e => ⟨(h.e8 b e).1, (hb.block b (blk_lt (h.e8 b e).2)).trans (h.e8 b e).2⟩, fun b e => ⟨(h.e9 b e).1, (hb.block b (blk_lt (h.e9 b e).2)).trans (h.e9 b e).2⟩⟩
theorem RgT.lit8 {W wr u : World} {p : VsD × RepD} {res : Option (Sl × Sl × Sl × List SeH × Sl)} {b9 : Option Nat} (h : RgT W wr u p res none b9) : RgT W wr (u.alloc (.cells #[.int .i64 0, .slice none 0 0, .slice none 0 0, .slice none 0 0] 29)) p res (some u.heap.size) b9 := by
 have s := h.step ((Below.refl u.heap.size u).alloc (Nat.le_refl _) (.cells #[.int .i64 0, .slice none 0 0, .slice none 0 0, .slice none 0 0] 29))
 refine ⟨s.bel, s.r, fun b e => ?_, s.e9⟩
 injection e with e
 subst e
 exact ⟨h.bel.size, heap_alloc_new _ _⟩
theorem RgT.lit9 {W wr u : World} {p : VsD × RepD} {res : Option (Sl × Sl × Sl × List SeH × Sl)} {b8 : Option Nat} (h : RgT W wr u p res b8 none) : RgT W wr (u.alloc (.cells #[.int .i64 0, .int .i64 0, .string ⟨#[]⟩, .slice none 0 0] 40)) p res b8 (some u.heap.size) := by
 have s := h.step ((Below.refl u.heap.size u).alloc (Nat.le_refl _) (.cells #[.int .i64 0, .int .i64 0, .string ⟨#[]⟩, .slice none 0 0] 40))
 refine ⟨s.bel, s.r, s.e8, fun b e => ?_⟩
 injection e with e
 subst e
 exact ⟨h.bel.size, heap_alloc_new _ _⟩
theorem RgT.call {W wr u u' : World} {d : VsD} {p : VsD × RepD} {l f s : Sl} {hs : List SeH} {b8 b9 : Option Nat} {e : Ending} (h : RgT W wr u p none b8 b9) (hO : VzOwn wr W.heap.size l f s hs d) (hW : W.heap.size ≤ wr.heap.size) (hr : StRes l f s hs d p u e u') :
  ∃ l' f' s' : Sl, ∃ (hs' : List SeH) (r : Sl), e = .returned (.tuple #[.agg #[.int .i64 p.1.next, .slice l'.a l'.n l'.c, .slice f'.a f'.n f'.c, .slice s'.a s'.n s'.c], .agg #[.int .i64 p.2.code, .int .i64 p.2.time, .string p.2.val, .slice r.a r.n r.c]]) ∧ RgT W wr u' p (some (l', f', s', hs', r)) b8 b9 := by
 obtain ⟨l', f', s', hs', r, he, hv, heo, hb⟩ := hr
 have s := h.step hb
 refine ⟨l', f', s', hs', r, he, s.bel, fun l2 f2 s2 hs2 r2 e2 => ?_, s.e8, s.e9⟩
 injection e2 with e2
 injection e2 with e1 e2
 injection e2 with e3 e2
 injection e2 with e4 e2
 injection e2 with e5 e6
 subst e1 e3 e4 e5 e6
 refine ⟨?_, gd_base heo h.bel.size⟩
 rcases hv with ⟨rfl, rfl, rfl, rfl, hd⟩ | hv
 ·rw [hd]; exact hO.below s.bel
 ·exact hv.dn (Nat.le_trans hW h.bel.size)
def txC (acts : List TxD) : Int := if 4096 < acts.length then 2 else if 150 < acts.length then 6 else 0
def txV (acts : List TxD) : VsD := if 150 < acts.length then ⟨0, [], [], []⟩ else (runV acts).1
def txR (acts : List TxD) : List RepD := if 150 < acts.length then [] else (runV acts).2
def TxRes (acts : List TxD) (w : World) (e : Ending) (w' : World) : Prop := ∃ l f s hs, ∃ (q : Sl) (zs : List ZrH), e = .returned (.tuple #[.agg (vzC (txV acts).next l f s), .slice q.a q.n q.c, .int .i64 (txC acts)]) ∧ VzOwn w' w.heap.size l f s hs (txV acts) ∧ ZrOwn w' w.heap.size (.slice q.a q.n q.c) zs ∧ zs.map (·.X) = txR acts ∧ Below w.heap.size w w'
theorem vz_none (w : World) (B : Nat) : VzOwn w B ⟨none, 0, 0⟩ ⟨none, 0, 0⟩ ⟨none, 0, 0⟩ [] ⟨0, [], [], []⟩ := ⟨World.ownsRow_nil _ _ _ _, World.ownsRow_nil _ _ _ _, NOwn.flat (World.ownsRow_nil _ _ _ _) rfl (fun e he => by cases he) (fun e he => by cases he), rfl, fun i hi => by cases hi⟩
theorem zr_lit {w : World} {B : Nat} (hB : B ≤ w.heap.size) : ZrOwn (w.alloc (.cells #[] 40)) B (.slice (some ⟨w.heap.size, 0, none⟩) 0 0) [] := NOwn.flat (gd_base (nil_lit (w := w) 40 4) hB) rfl (fun e he => by cases he) (fun e he => by cases he)
set_option maxHeartbeats 8000000 in
theorem specTxRun_any (a : Option Addr) (N c : Nat) (acts : List TxD) (w : World) (hR : XRow w a N acts) (hn : N ≤ 1048576) :
  Calls Tryz.prog 8 #[.slice a N c] w fun e w' => TxRes acts w e w' := by
 have L := hide hR.1
 have b0 : Below w.heap.size w (w.alloc (.cells #[.int .i64 0, .slice none 0 0, .slice none 0 0, .slice none 0 0] 29)) := (Below.refl _ _).alloc (Nat.le_refl _) _
 have K0 := heap_alloc_new w (.cells #[.int .i64 0, .slice none 0 0, .slice none 0 0, .slice none 0 0] 29)
 have hz0 : w.heap.size < (w.alloc (.cells #[.int .i64 0, .slice none 0 0, .slice none 0 0, .slice none 0 0] 29)).heap.size := by simp
 have LONG := hide (show 150 < N → ∀ cc : Int, txC acts = cc → TxRes acts w (.returned (.tuple #[.agg #[.int .i64 0, .slice none 0 0, .slice none 0 0, .slice none 0 0], .slice (some ⟨w.heap.size + 1, 0, none⟩) 0 0, .int .i64 cc])) ((w.alloc (.cells #[.int .i64 0, .slice none 0 0, .slice none 0 0, .slice none 0 0] 29)).alloc (.cells #[] 40)) from fun h cc hc => by
  have hz : (w.alloc (.cells #[.int .i64 0, .slice none 0 0, .slice none 0 0, .slice none 0 0] 29)).heap.size = w.heap.size + 1 := by simp
  have h' : 150 < acts.length := by rw [unhide L]; exact h
  have hv : txV acts = ⟨0, [], [], []⟩ := by unfold txV; rw [if_pos h']
  have hr : txR acts = [] := by unfold txR; rw [if_pos h']
  refine ⟨⟨none, 0, 0⟩, ⟨none, 0, 0⟩, ⟨none, 0, 0⟩, [], ⟨some ⟨w.heap.size + 1, 0, none⟩, 0, 0⟩, [], by rw [hc, hv], by rw [hv]; exact vz_none _ _, ?_, by rw [hr]; rfl, b0.alloc b0.size _⟩
  rw [← hz]
  exact zr_lit b0.size)
 by_cases hl1 : 4096 < N
 ·have hC : txC acts = 2 := by unfold txC; rw [if_pos (by rw [unhide L]; exact hl1)]
  have RES := hide (unhide LONG (by omega) 2 hC)
  clear hC
  go_enter Tryz.func8, Tryz.ntmps8
  go_wp2_with fail
  refine bodyPost_ret (v := .tuple #[.agg #[.int .i64 0, .slice none 0 0, .slice none 0 0, .slice none 0 0], .slice (some ⟨w.heap.size + 1, 0, none⟩) 0 0, .int .i64 2]) (by simp [results, Tryz.results8, go_sem]) rfl ?_
  exact unhide RES
 by_cases hl2 : 150 < N
 ·have hC : txC acts = 6 := by unfold txC; rw [if_neg (by rw [unhide L]; exact hl1), if_pos (by rw [unhide L]; exact hl2)]
  have RES := hide (unhide LONG hl2 6 hC)
  clear hC
  go_enter Tryz.func8, Tryz.ntmps8
  go_wp2_with fail
  refine bodyPost_ret (v := .tuple #[.agg #[.int .i64 0, .slice none 0 0, .slice none 0 0, .slice none 0 0], .slice (some ⟨w.heap.size + 1, 0, none⟩) 0 0, .int .i64 6]) (by simp [results, Tryz.results8, go_sem]) rfl ?_
  exact unhide RES
 have RT := hide (show txC acts = 0 ∧ txV acts = (runV acts).1 ∧ txR acts = (runV acts).2 by
  have h1 : ¬ 4096 < acts.length := by rw [unhide L]; exact hl1
  have h2 : ¬ 150 < acts.length := by rw [unhide L]; exact hl2
  unfold txC txV txR
  rw [if_neg h1, if_neg h2, if_neg h2, if_neg h2]
  exact ⟨rfl, rfl, rfl⟩)
 have R := hide hR
 have HN := hide (l06New_any (w.alloc (.cells #[.int .i64 0, .slice none 0 0, .slice none 0 0, .slice none 0 0] 29)))
 clear hR LONG
 go_enter Tryz.func8, Tryz.ntmps8
 go_wp2_with fail
 generalize w.alloc (.cells #[.int .i64 0, .slice none 0 0, .slice none 0 0, .slice none 0 0] 29) = W at *
 refine (unhide HN).mono ?_
 rintro e w1 ⟨⟨la, ln, lc⟩, ⟨fa, fn, fc⟩, ⟨sa, sn, sc⟩, hs, rfl, hO, hb1⟩
 unfold vzC
 simp only
 have e1 : newV.next = 1 := rfl
 rw [e1]
 have bT := (Below.refl w1.heap.size w1).alloc (Nat.le_refl _) (.cells #[.int .i64 1, .slice la ln lc, .slice fa fn fc, .slice sa sn sc] 29)
 have kT := heap_alloc_new w1 (.cells #[.int .i64 1, .slice la ln lc, .slice fa fn fc, .slice sa sn sc] 29)
 have O1 := hO.below bT
 have B1 := hb1.trans (bT.mono hb1.size)
 have hz1 := hb1.size
 have BZ := hide b0
 have K0h := hide K0
 clear HN hO hb1 bT b0 K0 e1
 go_upto_region 6 with fail
 generalize w1.alloc (.cells #[.int .i64 1, .slice la ln lc, .slice fa fn fc, .slice sa sn sc] 29) = w2 at *
 generalize w1.heap.size = tb at *
 have bL := (Below.refl w2.heap.size w2).alloc (Nat.le_refl _) (.cells #[] 40)
 have S0 := hide (show TrSt W (w2.alloc (.cells #[] 40)) tb ⟨la, ln, lc⟩ ⟨fa, fn, fc⟩ ⟨sa, sn, sc⟩ hs (runV (acts.take 0)).1 (.slice (some ⟨w2.heap.size, 0, none⟩) 0 0) [] from ⟨B1.trans (bL.mono B1.size), O1.below bL, (bL.block tb (blk_lt kT)).trans kT, zr_lit B1.size, hz1⟩)
 clear bL O1 B1 kT
 go_wp2_with fail
 generalize w2.alloc (.cells #[] 40) = w3 at *
 generalize w2.heap.size = cb at *
 go_loopw [6, 7] (fun cv iv wr => ∃ (k : Nat) (l f s : Sl) (hs : List SeH) (q : Sl) (zs : List ZrH), k ≤ N ∧ cv = .slice q.a q.n q.c ∧ iv = .int .i64 k ∧ Hid (TrSt W wr tb l f s hs (runV (acts.take k)).1 (.slice q.a q.n q.c) zs) ∧ Hid (zs.map (·.X) = (runV (acts.take k)).2)) (fun _ iv _ => N - (intOf iv).toNat)
 case atStart => exact ⟨0, _, _, _, _, ⟨some ⟨cb, 0, none⟩, 0, 0⟩, [], Nat.zero_le _, rfl, rfl, S0, rfl⟩
 case round =>
  clear S0
  obtain ⟨k, ⟨la1, ln1, lc1⟩, ⟨fa1, fn1, fc1⟩, ⟨sa1, sn1, sc1⟩, hs1, ⟨qa, qn, qc⟩, zs, hk, rfl, rfl, hS, hX⟩ := hrel
  have hV := hide (runV_ok acts k (by rw [unhide L]; exact hk))
  have bR := (unhide BZ).trans ((unhide hS).bel.mono (unhide BZ).size)
  have kb := (unhide hS).box
  unfold vzC at kb
  simp only at kb
  have t0 := (heap_at kb 0).1
  have t1 := (heap_at kb 1).1
  have t2 := (heap_at kb 2).1
  have t3 := (heap_at kb 3).1
  by_cases hlt : k < N
  case neg =>
   obtain rfl : k = N := by omega
   have ht : acts.take k = acts := List.take_of_length_le (by rw [unhide L]; exact Nat.le_refl _)
   rw [ht] at hS hX hV t0
   have hsm := (unhide hV).small (by omega)
   have ow := (unhide hS).own
   have HON := hide (l06Own_any (runV acts).1 ⟨la1, ln1, lc1⟩ ⟨fa1, fn1, fc1⟩ ⟨sa1, sn1, sc1⟩ hs1 wr ow.reads (by have h1 : ln1 = (runV acts).1.list.length := owns_n ow.vo; have := hsm.list; show ln1 ≤ 1000000; omega) (by have h1 : fn1 = (runV acts).1.fen.length := owns_n ow.fo; have := hsm.fen; show fn1 ≤ 1000000; omega) (by have h1 := ow.reads.len; have := hsm.ses; show sn1 ≤ 1000; simp only at h1; omega) (fun h hh => by
    obtain ⟨j, hj, rfl⟩ := List.getElem_of_mem hh
    obtain ⟨hd, he⟩ := ow.reads.at hj
    have h1 := (SeIn.row ow.reads.sr hj).1
    have h2 := hsm.ws _ (List.getElem_mem hd)
    rw [← he] at h2
    omega))
   unfold vzC at HON
   simp only at HON
   have hwr := (unhide hS).bel.size
   clear ht kb ow hsm
   go_wp2_with fail
   refine (unhide HON).mono ?_
   rintro e w5 ⟨⟨la2, ln2, lc2⟩, ⟨fa2, fn2, fc2⟩, ⟨sa2, sn2, sc2⟩, hs7, rfl, O7, hb7⟩
   have K5 := (hb7.block w.heap.size (Nat.lt_of_lt_of_le hz0 hwr)).trans (((unhide hS).bel.block w.heap.size hz0).trans (unhide K0h))
   have f0 := (heap_at K5 0).1
   have f1 := (heap_at K5 1).1
   have f2 := (heap_at K5 2).1
   have f3 := (heap_at K5 3).1
   have ff0 := (heap_at K5 0).2
   have ff1 := (heap_at K5 1).2
   have ff2 := (heap_at K5 2).2
   have ff3 := (heap_at K5 3).2
   have hw5 : w.heap.size < wr.heap.size := Nat.lt_of_lt_of_le hz0 hwr
   have hw := sv4_wr w5 w.heap.size (.int .i64 (runV acts).1.next) (.slice la2 ln2 lc2) (.slice fa2 fn2 fc2) (.slice sa2 sn2 sc2)
   have OT := O7.wr hw (fun i e => by rw [e]; exact hw5)
   have N5 := (unhide hS).rep.below hb7
   have N1 := N5.keep hw (fun i hi e => by have := (N5.lt i hi).1; omega)
   have BB := bel_sv4 (bR.trans (hb7.mono bR.size)) (Nat.le_refl w.heap.size) (.int .i64 (runV acts).1.next) (.slice la2 ln2 lc2) (.slice fa2 fn2 fc2) (.slice sa2 sn2 sc2)
   have RES := hide (show TxRes acts w (.returned (.tuple #[.agg #[.int .i64 (runV acts).1.next, .slice la2 ln2 lc2, .slice fa2 fn2 fc2, .slice sa2 sn2 sc2], .slice qa qn qc, .int .i64 0])) ((((w5.setCell ⟨w.heap.size, 0, none⟩ (.int .i64 (runV acts).1.next)).setCell ⟨w.heap.size, 1, none⟩ (.slice la2 ln2 lc2)).setCell ⟨w.heap.size, 2, none⟩ (.slice fa2 fn2 fc2)).setCell ⟨w.heap.size, 3, none⟩ (.slice sa2 sn2 sc2)) from ⟨⟨la2, ln2, lc2⟩, ⟨fa2, fn2, fc2⟩, ⟨sa2, sn2, sc2⟩, hs7, ⟨qa, qn, qc⟩, zs, by rw [(unhide RT).1, (unhide RT).2.1], by rw [(unhide RT).2.1]; exact OT.dn (Nat.le_of_lt hw5), N1.down (Nat.le_of_lt hz0), by rw [(unhide RT).2.2]; exact unhide hX, BB⟩)
   clear hw OT N5 N1 BB O7 K5 hS hX hV
   unfold vzC
   simp only
   go_wp2_with fail
   refine bodyPost_ret (v := .tuple #[.agg #[.int .i64 (runV acts).1.next, .slice la2 ln2 lc2, .slice fa2 fn2 fc2, .slice sa2 sn2 sc2], .slice qa qn qc, .int .i64 0]) (by simp [results, Tryz.results8, go_sem, *]) rfl ?_
   exact unhide RES
  have hk2 : k < acts.length := by rw [unhide L]; exact hlt
  have hkn : (k : Int) < (N : Int) := by omega
  obtain ⟨b, off, rfl, d0, d1, d2, d3, d4⟩ := ((unhide R).below bR).2 k hk2
  have hbw : b < wr.heap.size := cell_lt d0
  have RK := hide (runV_take hk2)
  have hsm := (unhide hV).small (by omega)
  have CS := hide (fun (u : World) (hu : Below wr.heap.size wr u) => l06Step_any (runV (acts.take k)).1 acts[k] ⟨la1, ln1, lc1⟩ ⟨fa1, fn1, fc1⟩ ⟨sa1, sn1, sc1⟩ hs1 u ((unhide hS).own.reads.below hu) hsm)
  have HZL := hide (show zs.length ≤ 1000 by
   have e := congrArg List.length (unhide hX)
   rw [List.length_map, runV_len, List.length_take] at e
   omega)
  have XN := hide (show ∀ r : Sl, (zs ++ [(⟨(stepV (runV (acts.take k)).1 acts[k]).2, r⟩ : ZrH)]).map (·.X) = (runV (acts.take (k + 1))).2 from fun r => by rw [unhide RK, List.map_append, unhide hX]; rfl)
  have VN := hide (show (runV (acts.take (k + 1))).1 = (stepV (runV (acts.take k)).1 acts[k]).1 by rw [unhide RK])
  generalize hrn : runV (acts.take (k + 1)) = rn at *
  have HRN := hide hrn
  clear hrn
  generalize (runV (acts.take k)).1 = dk at *
  generalize acts[k] = ac at *
  obtain ⟨xk, xs, xa, xb, xc⟩ := ac
  unfold vzC xv at CS
  simp only at d0 d1 d2 d3 d4 CS
  generalize stepV dk ⟨xk, xs, xa, xb, xc⟩ = pp at *
  have hwrW := (unhide hS).bel.size
  have T00 := hide (show RgT W wr wr.drew pp none none none from ⟨(Below.refl _ _).drew, fun _ _ _ _ _ e => (by cases e), fun _ e => (by cases e), fun _ e => (by cases e)⟩)
  have SK := hide (show ∀ u, Below wr.heap.size wr u → ((fun u => u.cell? ⟨tb, 0, none⟩ = some (.int .i64 dk.next) ∧ u.cell? ⟨tb, 1, none⟩ = some (.slice la1 ln1 lc1) ∧ u.cell? ⟨tb, 2, none⟩ = some (.slice fa1 fn1 fc1) ∧ u.cell? ⟨tb, 3, none⟩ = some (.slice sa1 sn1 sc1) ∧ u.cell? ⟨b, off + k * 5, none⟩ = some (.int .i64 xk) ∧ u.cell? ⟨b, off + k * 5 + 1, none⟩ = some (.int .i64 xs) ∧ u.cell? ⟨b, off + k * 5 + 2, none⟩ = some (.string xa) ∧ u.cell? ⟨b, off + k * 5 + 3, none⟩ = some (.string xb) ∧ u.cell? ⟨b, off + k * 5 + 4, none⟩ = some (.string xc)) u) from fun u hu => ⟨(hu.cell (p := ⟨tb, 0, none⟩) (cell_lt t0)).trans t0, (hu.cell (p := ⟨tb, 1, none⟩) (cell_lt t1)).trans t1, (hu.cell (p := ⟨tb, 2, none⟩) (cell_lt t2)).trans t2, (hu.cell (p := ⟨tb, 3, none⟩) (cell_lt t3)).trans t3, (hu.cell (p := ⟨b, off + k * 5, none⟩) hbw).trans d0, (hu.cell (p := ⟨b, off + k * 5 + 1, none⟩) hbw).trans d1, (hu.cell (p := ⟨b, off + k * 5 + 2, none⟩) hbw).trans d2, (hu.cell (p := ⟨b, off + k * 5 + 3, none⟩) hbw).trans d3, (hu.cell (p := ⟨b, off + k * 5 + 4, none⟩) hbw).trans d4⟩)
  clear d0 d1 d2 d3 d4 t0 t1 t2 t3 kb bR hsm
  go_upto_region 10 with fail
  go_cut [8, 9] (fun v8 v9 wc => ∃ (b8 b9 : Nat) (l' f' s' : Sl) (hs' : List SeH) (r : Sl), v8 = .pointer (some ⟨b8, 0, none⟩) ∧ v9 = .pointer (some ⟨b9, 0, none⟩) ∧ Hid (wc.heap[b8]? = some (.cells #[.int .i64 pp.1.next, .slice l'.a l'.n l'.c, .slice f'.a f'.n f'.c, .slice s'.a s'.n s'.c] 29 (0, 0))) ∧ Hid (wc.heap[b9]? = some (.cells #[.int .i64 pp.2.code, .int .i64 pp.2.time, .string pp.2.val, .slice r.a r.n r.c] 40 (0, 0))) ∧ Hid (VzOwn wc W.heap.size l' f' s' hs' pp.1) ∧ Hid (EOwns wc wr.heap.size (.slice r.a r.n r.c) pp.2.list) ∧ Hid (Below wr.heap.size wr wc) ∧ wr.heap.size ≤ b9)
  case first =>
   refine wp_region_held_drew (S := (fun u => u.cell? ⟨tb, 0, none⟩ = some (.int .i64 dk.next) ∧ u.cell? ⟨tb, 1, none⟩ = some (.slice la1 ln1 lc1) ∧ u.cell? ⟨tb, 2, none⟩ = some (.slice fa1 fn1 fc1) ∧ u.cell? ⟨tb, 3, none⟩ = some (.slice sa1 sn1 sc1) ∧ u.cell? ⟨b, off + k * 5, none⟩ = some (.int .i64 xk) ∧ u.cell? ⟨b, off + k * 5 + 1, none⟩ = some (.int .i64 xs) ∧ u.cell? ⟨b, off + k * 5 + 2, none⟩ = some (.string xa) ∧ u.cell? ⟨b, off + k * 5 + 3, none⟩ = some (.string xb) ∧ u.cell? ⟨b, off + k * 5 + 4, none⟩ = some (.string xc))) (by kernel_rfl) (unhide SK _ (unhide T00).bel) (fun hHeld => ?_)
   have Ts := T00
   clear T00
   generalize wr.drew = us at *
   refine tk 0 29 rfl rfl hHeld ?_
   simp only [Act.put, lA, lB, lC]
   refine tk 1 30 rfl rfl hHeld ?_
   simp only [Act.put, lA, lB, lC]
   refine tk 2 31 rfl rfl hHeld ?_
   simp only [Act.put, lA, lB, lC]
   refine tk 3 32 rfl rfl hHeld ?_
   simp only [Act.put, lA, lB, lC]
   refine tk 4 33 rfl rfl hHeld ?_
   simp only [Act.put, lA, lB, lC]
   refine wpAnyH_ready (rs := [5, 9, 10]) (by kernel_rfl) (by simp) ?_
   refine AllReadyH.cons rfl (fun K hK => ?_) (AllReadyH.cons rfl (fun K hK => ?_) (AllReadyH.cons rfl (fun K hK => ?_) AllReadyH.nil))
   ·go_simp
    refine (unhide CS _ (unhide Ts).bel).mono ?_
    intro e u5 hst
    obtain ⟨l', f', s', hs', r, rfl, hq⟩ := (unhide Ts).call (unhide hS).own hwrW hst
    have T5 := hide hq
    clear hq hst
    refine hK.out _ _ (unhide SK _ (unhide T5).bel) (fun hHeld => ?_)
    clear hK K
    refine tk 6 28 rfl rfl hHeld ?_
    simp only [Act.put, lA, lB, lC]
    refine tk 7 35 rfl rfl hHeld ?_
    simp only [Act.put, lA, lB, lC]
    refine tk 8 36 rfl rfl hHeld ?_
    simp only [Act.put, lA, lB, lC]
    refine wpAnyH_ready (rs := [9, 10]) (by kernel_rfl) (by simp) ?_
    refine AllReadyH.cons rfl (fun K hK => ?_) (AllReadyH.cons rfl (fun K hK => ?_) AllReadyH.nil)
    ·have T5_9 := hide (unhide T5).lit8
     go_simp
     generalize u5.alloc (.cells #[.int .i64 0, .slice none 0 0, .slice none 0 0, .slice none 0 0] 29) = u5_9 at *
     generalize u5.heap.size = b8 at *
     refine hK.out _ _ (unhide SK _ (unhide T5_9).bel) (fun hHeld => ?_)
     clear hK K
     refine rd [10] (.cons rfl (fun K hK => ?_) .nil)
     have T5_9_10 := hide (unhide T5_9).lit9
     go_simp
     generalize u5_9.alloc (.cells #[.int .i64 0, .int .i64 0, .string ⟨#[]⟩, .slice none 0 0] 40) = u5_9_10 at *
     generalize u5_9.heap.size = b9 at *
     refine hK.out _ _ (unhide SK _ (unhide T5_9_10).bel) (fun hHeld => ?_)
     clear hK K
     refine rd [11] (.cons rfl (fun K hK => ?_) .nil)
     obtain ⟨hOw, hEo⟩ := (unhide T5_9_10).r l' f' s' hs' r rfl
     obtain ⟨h8, k8⟩ := (unhide T5_9_10).e8 b8 rfl
     obtain ⟨h9, k9⟩ := (unhide T5_9_10).e9 b9 rfl
     have c0 := (heap_at k8 0).1
     have c1 := (heap_at k8 1).1
     have c2 := (heap_at k8 2).1
     have c3 := (heap_at k8 3).1
     have cf0 := (heap_at k8 0).2
     have cf1 := (heap_at k8 1).2
     have cf2 := (heap_at k8 2).2
     have cf3 := (heap_at k8 3).2
     have h89 : b9 ≠ b8 := fun e => by rw [e, k8] at k9; injection k9 with k9; injection k9 with _ k9 _; exact absurd k9 (by decide)
     have hw : WrB (fun i => i = b8) u5_9_10 ((((u5_9_10.setCell ⟨b8, 0, none⟩ (.int .i64 pp.1.next)).setCell ⟨b8, 1, none⟩ (.slice l'.a l'.n l'.c)).setCell ⟨b8, 2, none⟩ (.slice f'.a f'.n f'.c)).setCell ⟨b8, 3, none⟩ (.slice s'.a s'.n s'.c)) := sv4_wr u5_9_10 b8 (.int .i64 pp.1.next) (.slice l'.a l'.n l'.c) (.slice f'.a f'.n f'.c) (.slice s'.a s'.n s'.c)
     have Q8 := hide (show ((((u5_9_10.setCell ⟨b8, 0, none⟩ (.int .i64 pp.1.next)).setCell ⟨b8, 1, none⟩ (.slice l'.a l'.n l'.c)).setCell ⟨b8, 2, none⟩ (.slice f'.a f'.n f'.c)).setCell ⟨b8, 3, none⟩ (.slice s'.a s'.n s'.c)).heap[b8]? = some (.cells #[.int .i64 pp.1.next, .slice l'.a l'.n l'.c, .slice f'.a f'.n f'.c, .slice s'.a s'.n s'.c] 29 (0, 0)) from sv4_heap k8 (.int .i64 pp.1.next) (.slice l'.a l'.n l'.c) (.slice f'.a f'.n f'.c) (.slice s'.a s'.n s'.c))
     have Q9 := hide (show ((((u5_9_10.setCell ⟨b8, 0, none⟩ (.int .i64 pp.1.next)).setCell ⟨b8, 1, none⟩ (.slice l'.a l'.n l'.c)).setCell ⟨b8, 2, none⟩ (.slice f'.a f'.n f'.c)).setCell ⟨b8, 3, none⟩ (.slice s'.a s'.n s'.c)).heap[b9]? = some (.cells #[.int .i64 0, .int .i64 0, .string ⟨#[]⟩, .slice none 0 0] 40 (0, 0)) from (hw.block b9 (blk_lt k9) h89).trans k9)
     have QO := hide (show VzOwn ((((u5_9_10.setCell ⟨b8, 0, none⟩ (.int .i64 pp.1.next)).setCell ⟨b8, 1, none⟩ (.slice l'.a l'.n l'.c)).setCell ⟨b8, 2, none⟩ (.slice f'.a f'.n f'.c)).setCell ⟨b8, 3, none⟩ (.slice s'.a s'.n s'.c)) W.heap.size l' f' s' hs' pp.1 from hOw.box k8 (by decide) (by decide) (by decide) hw)
     have QE := hide (show EOwns ((((u5_9_10.setCell ⟨b8, 0, none⟩ (.int .i64 pp.1.next)).setCell ⟨b8, 1, none⟩ (.slice l'.a l'.n l'.c)).setCell ⟨b8, 2, none⟩ (.slice f'.a f'.n f'.c)).setCell ⟨b8, 3, none⟩ (.slice s'.a s'.n s'.c)) wr.heap.size (.slice r.a r.n r.c) pp.2.list from own_keep hEo k8 (by decide) hw)
     have QB := hide (show Below wr.heap.size wr ((((u5_9_10.setCell ⟨b8, 0, none⟩ (.int .i64 pp.1.next)).setCell ⟨b8, 1, none⟩ (.slice l'.a l'.n l'.c)).setCell ⟨b8, 2, none⟩ (.slice f'.a f'.n f'.c)).setCell ⟨b8, 3, none⟩ (.slice s'.a s'.n s'.c)) from (unhide T5_9_10).bel.trans (WrB.below hw (fun i e => by rw [e]; exact h8) (unhide T5_9_10).bel.size))
     clear hw hOw hEo k8 k9
     go_simp
     refine hK.out _ _ (unhide SK _ (unhide QB)) (fun hHeld => ?_)
     clear hK K
     clear c0 cf0 c1 cf1 c2 cf2 c3 cf3
     generalize ((((u5_9_10.setCell ⟨b8, 0, none⟩ (.int .i64 pp.1.next)).setCell ⟨b8, 1, none⟩ (.slice l'.a l'.n l'.c)).setCell ⟨b8, 2, none⟩ (.slice f'.a f'.n f'.c)).setCell ⟨b8, 3, none⟩ (.slice s'.a s'.n s'.c)) = ux at *
     refine rd [12] (.cons rfl (fun K hK => ?_) .nil)
     have c0 := (heap_at (unhide Q9) 0).1
     have c1 := (heap_at (unhide Q9) 1).1
     have c2 := (heap_at (unhide Q9) 2).1
     have c3 := (heap_at (unhide Q9) 3).1
     have cf0 := (heap_at (unhide Q9) 0).2
     have cf1 := (heap_at (unhide Q9) 1).2
     have cf2 := (heap_at (unhide Q9) 2).2
     have cf3 := (heap_at (unhide Q9) 3).2
     have hw : WrB (fun i => i = b9) ux ((((ux.setCell ⟨b9, 0, none⟩ (.int .i64 pp.2.code)).setCell ⟨b9, 1, none⟩ (.int .i64 pp.2.time)).setCell ⟨b9, 2, none⟩ (.string pp.2.val)).setCell ⟨b9, 3, none⟩ (.slice r.a r.n r.c)) := sv4_wr ux b9 (.int .i64 pp.2.code) (.int .i64 pp.2.time) (.string pp.2.val) (.slice r.a r.n r.c)
     have P9 := hide (show ((((ux.setCell ⟨b9, 0, none⟩ (.int .i64 pp.2.code)).setCell ⟨b9, 1, none⟩ (.int .i64 pp.2.time)).setCell ⟨b9, 2, none⟩ (.string pp.2.val)).setCell ⟨b9, 3, none⟩ (.slice r.a r.n r.c)).heap[b9]? = some (.cells #[.int .i64 pp.2.code, .int .i64 pp.2.time, .string pp.2.val, .slice r.a r.n r.c] 40 (0, 0)) from sv4_heap (unhide Q9) (.int .i64 pp.2.code) (.int .i64 pp.2.time) (.string pp.2.val) (.slice r.a r.n r.c))
     have P8 := hide (show ((((ux.setCell ⟨b9, 0, none⟩ (.int .i64 pp.2.code)).setCell ⟨b9, 1, none⟩ (.int .i64 pp.2.time)).setCell ⟨b9, 2, none⟩ (.string pp.2.val)).setCell ⟨b9, 3, none⟩ (.slice r.a r.n r.c)).heap[b8]? = some (.cells #[.int .i64 pp.1.next, .slice l'.a l'.n l'.c, .slice f'.a f'.n f'.c, .slice s'.a s'.n s'.c] 29 (0, 0)) from (hw.block b8 (blk_lt (unhide Q8)) (fun e => h89 e.symm)).trans (unhide Q8))
     have PO := hide (show VzOwn ((((ux.setCell ⟨b9, 0, none⟩ (.int .i64 pp.2.code)).setCell ⟨b9, 1, none⟩ (.int .i64 pp.2.time)).setCell ⟨b9, 2, none⟩ (.string pp.2.val)).setCell ⟨b9, 3, none⟩ (.slice r.a r.n r.c)) W.heap.size l' f' s' hs' pp.1 from (unhide QO).box (unhide Q9) (by decide) (by decide) (by decide) hw)
     have PE := hide (show EOwns ((((ux.setCell ⟨b9, 0, none⟩ (.int .i64 pp.2.code)).setCell ⟨b9, 1, none⟩ (.int .i64 pp.2.time)).setCell ⟨b9, 2, none⟩ (.string pp.2.val)).setCell ⟨b9, 3, none⟩ (.slice r.a r.n r.c)) wr.heap.size (.slice r.a r.n r.c) pp.2.list from own_keep (unhide QE) (unhide Q9) (by decide) hw)
     have PB := hide (show Below wr.heap.size wr ((((ux.setCell ⟨b9, 0, none⟩ (.int .i64 pp.2.code)).setCell ⟨b9, 1, none⟩ (.int .i64 pp.2.time)).setCell ⟨b9, 2, none⟩ (.string pp.2.val)).setCell ⟨b9, 3, none⟩ (.slice r.a r.n r.c)) from (unhide QB).trans (WrB.below hw (fun i e => by rw [e]; exact h9) (unhide QB).size))
     clear hw
     go_simp
     refine hK.out _ _ (unhide SK _ (unhide PB)) (fun hHeld => ?_)
     clear hK K
     refine wpAnyH_done (by kernel_rfl) ?_ _
     clear hHeld SK
     go_wp2_with fail
     go_meet
     case rel => exact ⟨b8, b9, l', f', s', hs', r, rfl, rfl, P8, P9, PO, PE, PB, h9⟩
    ·have T5_10 := hide (unhide T5).lit9
     go_simp
     generalize u5.alloc (.cells #[.int .i64 0, .int .i64 0, .string ⟨#[]⟩, .slice none 0 0] 40) = u5_10 at *
     generalize u5.heap.size = b9 at *
     refine hK.out _ _ (unhide SK _ (unhide T5_10).bel) (fun hHeld => ?_)
     clear hK K
     refine rd [9] (.cons rfl (fun K hK => ?_) .nil)
     have T5_10_9 := hide (unhide T5_10).lit8
     go_simp
     generalize u5_10.alloc (.cells #[.int .i64 0, .slice none 0 0, .slice none 0 0, .slice none 0 0] 29) = u5_10_9 at *
     generalize u5_10.heap.size = b8 at *
     refine hK.out _ _ (unhide SK _ (unhide T5_10_9).bel) (fun hHeld => ?_)
     clear hK K
     refine rd [11] (.cons rfl (fun K hK => ?_) .nil)
     obtain ⟨hOw, hEo⟩ := (unhide T5_10_9).r l' f' s' hs' r rfl
     obtain ⟨h8, k8⟩ := (unhide T5_10_9).e8 b8 rfl
     obtain ⟨h9, k9⟩ := (unhide T5_10_9).e9 b9 rfl
     have c0 := (heap_at k8 0).1
     have c1 := (heap_at k8 1).1
     have c2 := (heap_at k8 2).1
     have c3 := (heap_at k8 3).1
     have cf0 := (heap_at k8 0).2
     have cf1 := (heap_at k8 1).2
     have cf2 := (heap_at k8 2).2
     have cf3 := (heap_at k8 3).2
     have h89 : b9 ≠ b8 := fun e => by rw [e, k8] at k9; injection k9 with k9; injection k9 with _ k9 _; exact absurd k9 (by decide)
     have hw : WrB (fun i => i = b8) u5_10_9 ((((u5_10_9.setCell ⟨b8, 0, none⟩ (.int .i64 pp.1.next)).setCell ⟨b8, 1, none⟩ (.slice l'.a l'.n l'.c)).setCell ⟨b8, 2, none⟩ (.slice f'.a f'.n f'.c)).setCell ⟨b8, 3, none⟩ (.slice s'.a s'.n s'.c)) := sv4_wr u5_10_9 b8 (.int .i64 pp.1.next) (.slice l'.a l'.n l'.c) (.slice f'.a f'.n f'.c) (.slice s'.a s'.n s'.c)
     have Q8 := hide (show ((((u5_10_9.setCell ⟨b8, 0, none⟩ (.int .i64 pp.1.next)).setCell ⟨b8, 1, none⟩ (.slice l'.a l'.n l'.c)).setCell ⟨b8, 2, none⟩ (.slice f'.a f'.n f'.c)).setCell ⟨b8, 3, none⟩ (.slice s'.a s'.n s'.c)).heap[b8]? = some (.cells #[.int .i64 pp.1.next, .slice l'.a l'.n l'.c, .slice f'.a f'.n f'.c, .slice s'.a s'.n s'.c] 29 (0, 0)) from sv4_heap k8 (.int .i64 pp.1.next) (.slice l'.a l'.n l'.c) (.slice f'.a f'.n f'.c) (.slice s'.a s'.n s'.c))
     have Q9 := hide (show ((((u5_10_9.setCell ⟨b8, 0, none⟩ (.int .i64 pp.1.next)).setCell ⟨b8, 1, none⟩ (.slice l'.a l'.n l'.c)).setCell ⟨b8, 2, none⟩ (.slice f'.a f'.n f'.c)).setCell ⟨b8, 3, none⟩ (.slice s'.a s'.n s'.c)).heap[b9]? = some (.cells #[.int .i64 0, .int .i64 0, .string ⟨#[]⟩, .slice none 0 0] 40 (0, 0)) from (hw.block b9 (blk_lt k9) h89).trans k9)
     have QO := hide (show VzOwn ((((u5_10_9.setCell ⟨b8, 0, none⟩ (.int .i64 pp.1.next)).setCell ⟨b8, 1, none⟩ (.slice l'.a l'.n l'.c)).setCell ⟨b8, 2, none⟩ (.slice f'.a f'.n f'.c)).setCell ⟨b8, 3, none⟩ (.slice s'.a s'.n s'.c)) W.heap.size l' f' s' hs' pp.1 from hOw.box k8 (by decide) (by decide) (by decide) hw)
     have QE := hide (show EOwns ((((u5_10_9.setCell ⟨b8, 0, none⟩ (.int .i64 pp.1.next)).setCell ⟨b8, 1, none⟩ (.slice l'.a l'.n l'.c)).setCell ⟨b8, 2, none⟩ (.slice f'.a f'.n f'.c)).setCell ⟨b8, 3, none⟩ (.slice s'.a s'.n s'.c)) wr.heap.size (.slice r.a r.n r.c) pp.2.list from own_keep hEo k8 (by decide) hw)
     have QB := hide (show Below wr.heap.size wr ((((u5_10_9.setCell ⟨b8, 0, none⟩ (.int .i64 pp.1.next)).setCell ⟨b8, 1, none⟩ (.slice l'.a l'.n l'.c)).setCell ⟨b8, 2, none⟩ (.slice f'.a f'.n f'.c)).setCell ⟨b8, 3, none⟩ (.slice s'.a s'.n s'.c)) from (unhide T5_10_9).bel.trans (WrB.below hw (fun i e => by rw [e]; exact h8) (unhide T5_10_9).bel.size))
     clear hw hOw hEo k8 k9
     go_simp
     refine hK.out _ _ (unhide SK _ (unhide QB)) (fun hHeld => ?_)
     clear hK K
     clear c0 cf0 c1 cf1 c2 cf2 c3 cf3
     generalize ((((u5_10_9.setCell ⟨b8, 0, none⟩ (.int .i64 pp.1.next)).setCell ⟨b8, 1, none⟩ (.slice l'.a l'.n l'.c)).setCell ⟨b8, 2, none⟩ (.slice f'.a f'.n f'.c)).setCell ⟨b8, 3, none⟩ (.slice s'.a s'.n s'.c)) = ux at *
     refine rd [12] (.cons rfl (fun K hK => ?_) .nil)
     have c0 := (heap_at (unhide Q9) 0).1
     have c1 := (heap_at (unhide Q9) 1).1
     have c2 := (heap_at (unhide Q9) 2).1
     have c3 := (heap_at (unhide Q9) 3).1
     have cf0 := (heap_at (unhide Q9) 0).2
     have cf1 := (heap_at (unhide Q9) 1).2
     have cf2 := (heap_at (unhide Q9) 2).2
     have cf3 := (heap_at (unhide Q9) 3).2
     have hw : WrB (fun i => i = b9) ux ((((ux.setCell ⟨b9, 0, none⟩ (.int .i64 pp.2.code)).setCell ⟨b9, 1, none⟩ (.int .i64 pp.2.time)).setCell ⟨b9, 2, none⟩ (.string pp.2.val)).setCell ⟨b9, 3, none⟩ (.slice r.a r.n r.c)) := sv4_wr ux b9 (.int .i64 pp.2.code) (.int .i64 pp.2.time) (.string pp.2.val) (.slice r.a r.n r.c)
     have P9 := hide (show ((((ux.setCell ⟨b9, 0, none⟩ (.int .i64 pp.2.code)).setCell ⟨b9, 1, none⟩ (.int .i64 pp.2.time)).setCell ⟨b9, 2, none⟩ (.string pp.2.val)).setCell ⟨b9, 3, none⟩ (.slice r.a r.n r.c)).heap[b9]? = some (.cells #[.int .i64 pp.2.code, .int .i64 pp.2.time, .string pp.2.val, .slice r.a r.n r.c] 40 (0, 0)) from sv4_heap (unhide Q9) (.int .i64 pp.2.code) (.int .i64 pp.2.time) (.string pp.2.val) (.slice r.a r.n r.c))
     have P8 := hide (show ((((ux.setCell ⟨b9, 0, none⟩ (.int .i64 pp.2.code)).setCell ⟨b9, 1, none⟩ (.int .i64 pp.2.time)).setCell ⟨b9, 2, none⟩ (.string pp.2.val)).setCell ⟨b9, 3, none⟩ (.slice r.a r.n r.c)).heap[b8]? = some (.cells #[.int .i64 pp.1.next, .slice l'.a l'.n l'.c, .slice f'.a f'.n f'.c, .slice s'.a s'.n s'.c] 29 (0, 0)) from (hw.block b8 (blk_lt (unhide Q8)) (fun e => h89 e.symm)).trans (unhide Q8))
     have PO := hide (show VzOwn ((((ux.setCell ⟨b9, 0, none⟩ (.int .i64 pp.2.code)).setCell ⟨b9, 1, none⟩ (.int .i64 pp.2.time)).setCell ⟨b9, 2, none⟩ (.string pp.2.val)).setCell ⟨b9, 3, none⟩ (.slice r.a r.n r.c)) W.heap.size l' f' s' hs' pp.1 from (unhide QO).box (unhide Q9) (by decide) (by decide) (by decide) hw)
     have PE := hide (show EOwns ((((ux.setCell ⟨b9, 0, none⟩ (.int .i64 pp.2.code)).setCell ⟨b9, 1, none⟩ (.int .i64 pp.2.time)).setCell ⟨b9, 2, none⟩ (.string pp.2.val)).setCell ⟨b9, 3, none⟩ (.slice r.a r.n r.c)) wr.heap.size (.slice r.a r.n r.c) pp.2.list from own_keep (unhide QE) (unhide Q9) (by decide) hw)
     have PB := hide (show Below wr.heap.size wr ((((ux.setCell ⟨b9, 0, none⟩ (.int .i64 pp.2.code)).setCell ⟨b9, 1, none⟩ (.int .i64 pp.2.time)).setCell ⟨b9, 2, none⟩ (.string pp.2.val)).setCell ⟨b9, 3, none⟩ (.slice r.a r.n r.c)) from (unhide QB).trans (WrB.below hw (fun i e => by rw [e]; exact h9) (unhide QB).size))
     clear hw
     go_simp
     refine hK.out _ _ (unhide SK _ (unhide PB)) (fun hHeld => ?_)
     clear hK K
     refine wpAnyH_done (by kernel_rfl) ?_ _
     clear hHeld SK
     go_wp2_with fail
     go_meet
     case rel => exact ⟨b8, b9, l', f', s', hs', r, rfl, rfl, P8, P9, PO, PE, PB, h9⟩
   ·have T9 := hide (unhide Ts).lit8
    go_simp
    generalize us.alloc (.cells #[.int .i64 0, .slice none 0 0, .slice none 0 0, .slice none 0 0] 29) = u9 at *
    generalize us.heap.size = b8 at *
    refine hK.out _ _ (unhide SK _ (unhide T9).bel) (fun hHeld => ?_)
    clear hK K
    refine wpAnyH_ready (rs := [5, 10]) (by kernel_rfl) (by simp) ?_
    refine AllReadyH.cons rfl (fun K hK => ?_) (AllReadyH.cons rfl (fun K hK => ?_) AllReadyH.nil)
    ·go_simp
     refine (unhide CS _ (unhide T9).bel).mono ?_
     intro e u9_5 hst
     obtain ⟨l', f', s', hs', r, rfl, hq⟩ := (unhide T9).call (unhide hS).own hwrW hst
     have T9_5 := hide hq
     clear hq hst
     refine hK.out _ _ (unhide SK _ (unhide T9_5).bel) (fun hHeld => ?_)
     clear hK K
     refine tk 6 28 rfl rfl hHeld ?_
     simp only [Act.put, lA, lB, lC]
     refine tk 7 35 rfl rfl hHeld ?_
     simp only [Act.put, lA, lB, lC]
     refine tk 8 36 rfl rfl hHeld ?_
     simp only [Act.put, lA, lB, lC]
     refine rd [10] (.cons rfl (fun K hK => ?_) .nil)
     have T9_5_10 := hide (unhide T9_5).lit9
     go_simp
     generalize u9_5.alloc (.cells #[.int .i64 0, .int .i64 0, .string ⟨#[]⟩, .slice none 0 0] 40) = u9_5_10 at *
     generalize u9_5.heap.size = b9 at *
     refine hK.out _ _ (unhide SK _ (unhide T9_5_10).bel) (fun hHeld => ?_)
     clear hK K
     refine rd [11] (.cons rfl (fun K hK => ?_) .nil)
     obtain ⟨hOw, hEo⟩ := (unhide T9_5_10).r l' f' s' hs' r rfl
     obtain ⟨h8, k8⟩ := (unhide T9_5_10).e8 b8 rfl
     obtain ⟨h9, k9⟩ := (unhide T9_5_10).e9 b9 rfl
     have c0 := (heap_at k8 0).1
     have c1 := (heap_at k8 1).1
     have c2 := (heap_at k8 2).1
     have c3 := (heap_at k8 3).1
     have cf0 := (heap_at k8 0).2
     have cf1 := (heap_at k8 1).2
     have cf2 := (heap_at k8 2).2
     have cf3 := (heap_at k8 3).2
     have h89 : b9 ≠ b8 := fun e => by rw [e, k8] at k9; injection k9 with k9; injection k9 with _ k9 _; exact absurd k9 (by decide)
     have hw : WrB (fun i => i = b8) u9_5_10 ((((u9_5_10.setCell ⟨b8, 0, none⟩ (.int .i64 pp.1.next)).setCell ⟨b8, 1, none⟩ (.slice l'.a l'.n l'.c)).setCell ⟨b8, 2, none⟩ (.slice f'.a f'.n f'.c)).setCell ⟨b8, 3, none⟩ (.slice s'.a s'.n s'.c)) := sv4_wr u9_5_10 b8 (.int .i64 pp.1.next) (.slice l'.a l'.n l'.c) (.slice f'.a f'.n f'.c) (.slice s'.a s'.n s'.c)
     have Q8 := hide (show ((((u9_5_10.setCell ⟨b8, 0, none⟩ (.int .i64 pp.1.next)).setCell ⟨b8, 1, none⟩ (.slice l'.a l'.n l'.c)).setCell ⟨b8, 2, none⟩ (.slice f'.a f'.n f'.c)).setCell ⟨b8, 3, none⟩ (.slice s'.a s'.n s'.c)).heap[b8]? = some (.cells #[.int .i64 pp.1.next, .slice l'.a l'.n l'.c, .slice f'.a f'.n f'.c, .slice s'.a s'.n s'.c] 29 (0, 0)) from sv4_heap k8 (.int .i64 pp.1.next) (.slice l'.a l'.n l'.c) (.slice f'.a f'.n f'.c) (.slice s'.a s'.n s'.c))
     have Q9 := hide (show ((((u9_5_10.setCell ⟨b8, 0, none⟩ (.int .i64 pp.1.next)).setCell ⟨b8, 1, none⟩ (.slice l'.a l'.n l'.c)).setCell ⟨b8, 2, none⟩ (.slice f'.a f'.n f'.c)).setCell ⟨b8, 3, none⟩ (.slice s'.a s'.n s'.c)).heap[b9]? = some (.cells #[.int .i64 0, .int .i64 0, .string ⟨#[]⟩, .slice none 0 0] 40 (0, 0)) from (hw.block b9 (blk_lt k9) h89).trans k9)
     have QO := hide (show VzOwn ((((u9_5_10.setCell ⟨b8, 0, none⟩ (.int .i64 pp.1.next)).setCell ⟨b8, 1, none⟩ (.slice l'.a l'.n l'.c)).setCell ⟨b8, 2, none⟩ (.slice f'.a f'.n f'.c)).setCell ⟨b8, 3, none⟩ (.slice s'.a s'.n s'.c)) W.heap.size l' f' s' hs' pp.1 from hOw.box k8 (by decide) (by decide) (by decide) hw)
     have QE := hide (show EOwns ((((u9_5_10.setCell ⟨b8, 0, none⟩ (.int .i64 pp.1.next)).setCell ⟨b8, 1, none⟩ (.slice l'.a l'.n l'.c)).setCell ⟨b8, 2, none⟩ (.slice f'.a f'.n f'.c)).setCell ⟨b8, 3, none⟩ (.slice s'.a s'.n s'.c)) wr.heap.size (.slice r.a r.n r.c) pp.2.list from own_keep hEo k8 (by decide) hw)
     have QB := hide (show Below wr.heap.size wr ((((u9_5_10.setCell ⟨b8, 0, none⟩ (.int .i64 pp.1.next)).setCell ⟨b8, 1, none⟩ (.slice l'.a l'.n l'.c)).setCell ⟨b8, 2, none⟩ (.slice f'.a f'.n f'.c)).setCell ⟨b8, 3, none⟩ (.slice s'.a s'.n s'.c)) from (unhide T9_5_10).bel.trans (WrB.below hw (fun i e => by rw [e]; exact h8) (unhide T9_5_10).bel.size))
     clear hw hOw hEo k8 k9
     go_simp
     refine hK.out _ _ (unhide SK _ (unhide QB)) (fun hHeld => ?_)
     clear hK K
     clear c0 cf0 c1 cf1 c2 cf2 c3 cf3
     generalize ((((u9_5_10.setCell ⟨b8, 0, none⟩ (.int .i64 pp.1.next)).setCell ⟨b8, 1, none⟩ (.slice l'.a l'.n l'.c)).setCell ⟨b8, 2, none⟩ (.slice f'.a f'.n f'.c)).setCell ⟨b8, 3, none⟩ (.slice s'.a s'.n s'.c)) = ux at *
     refine rd [12] (.cons rfl (fun K hK => ?_) .nil)
     have c0 := (heap_at (unhide Q9) 0).1
     have c1 := (heap_at (unhide Q9) 1).1
     have c2 := (heap_at (unhide Q9) 2).1
     have c3 := (heap_at (unhide Q9) 3).1
     have cf0 := (heap_at (unhide Q9) 0).2
     have cf1 := (heap_at (unhide Q9) 1).2
     have cf2 := (heap_at (unhide Q9) 2).2
     have cf3 := (heap_at (unhide Q9) 3).2
     have hw : WrB (fun i => i = b9) ux ((((ux.setCell ⟨b9, 0, none⟩ (.int .i64 pp.2.code)).setCell ⟨b9, 1, none⟩ (.int .i64 pp.2.time)).setCell ⟨b9, 2, none⟩ (.string pp.2.val)).setCell ⟨b9, 3, none⟩ (.slice r.a r.n r.c)) := sv4_wr ux b9 (.int .i64 pp.2.code) (.int .i64 pp.2.time) (.string pp.2.val) (.slice r.a r.n r.c)
     have P9 := hide (show ((((ux.setCell ⟨b9, 0, none⟩ (.int .i64 pp.2.code)).setCell ⟨b9, 1, none⟩ (.int .i64 pp.2.time)).setCell ⟨b9, 2, none⟩ (.string pp.2.val)).setCell ⟨b9, 3, none⟩ (.slice r.a r.n r.c)).heap[b9]? = some (.cells #[.int .i64 pp.2.code, .int .i64 pp.2.time, .string pp.2.val, .slice r.a r.n r.c] 40 (0, 0)) from sv4_heap (unhide Q9) (.int .i64 pp.2.code) (.int .i64 pp.2.time) (.string pp.2.val) (.slice r.a r.n r.c))
     have P8 := hide (show ((((ux.setCell ⟨b9, 0, none⟩ (.int .i64 pp.2.code)).setCell ⟨b9, 1, none⟩ (.int .i64 pp.2.time)).setCell ⟨b9, 2, none⟩ (.string pp.2.val)).setCell ⟨b9, 3, none⟩ (.slice r.a r.n r.c)).heap[b8]? = some (.cells #[.int .i64 pp.1.next, .slice l'.a l'.n l'.c, .slice f'.a f'.n f'.c, .slice s'.a s'.n s'.c] 29 (0, 0)) from (hw.block b8 (blk_lt (unhide Q8)) (fun e => h89 e.symm)).trans (unhide Q8))
     have PO := hide (show VzOwn ((((ux.setCell ⟨b9, 0, none⟩ (.int .i64 pp.2.code)).setCell ⟨b9, 1, none⟩ (.int .i64 pp.2.time)).setCell ⟨b9, 2, none⟩ (.string pp.2.val)).setCell ⟨b9, 3, none⟩ (.slice r.a r.n r.c)) W.heap.size l' f' s' hs' pp.1 from (unhide QO).box (unhide Q9) (by decide) (by decide) (by decide) hw)
     have PE := hide (show EOwns ((((ux.setCell ⟨b9, 0, none⟩ (.int .i64 pp.2.code)).setCell ⟨b9, 1, none⟩ (.int .i64 pp.2.time)).setCell ⟨b9, 2, none⟩ (.string pp.2.val)).setCell ⟨b9, 3, none⟩ (.slice r.a r.n r.c)) wr.heap.size (.slice r.a r.n r.c) pp.2.list from own_keep (unhide QE) (unhide Q9) (by decide) hw)
     have PB := hide (show Below wr.heap.size wr ((((ux.setCell ⟨b9, 0, none⟩ (.int .i64 pp.2.code)).setCell ⟨b9, 1, none⟩ (.int .i64 pp.2.time)).setCell ⟨b9, 2, none⟩ (.string pp.2.val)).setCell ⟨b9, 3, none⟩ (.slice r.a r.n r.c)) from (unhide QB).trans (WrB.below hw (fun i e => by rw [e]; exact h9) (unhide QB).size))
     clear hw
     go_simp
     refine hK.out _ _ (unhide SK _ (unhide PB)) (fun hHeld => ?_)
     clear hK K
     refine wpAnyH_done (by kernel_rfl) ?_ _
     clear hHeld SK
     go_wp2_with fail
     go_meet
     case rel => exact ⟨b8, b9, l', f', s', hs', r, rfl, rfl, P8, P9, PO, PE, PB, h9⟩
    ·have T9_10 := hide (unhide T9).lit9
     go_simp
     generalize u9.alloc (.cells #[.int .i64 0, .int .i64 0, .string ⟨#[]⟩, .slice none 0 0] 40) = u9_10 at *
     generalize u9.heap.size = b9 at *
     refine hK.out _ _ (unhide SK _ (unhide T9_10).bel) (fun hHeld => ?_)
     clear hK K
     refine rd [5] (.cons rfl (fun K hK => ?_) .nil)
     go_simp
     refine (unhide CS _ (unhide T9_10).bel).mono ?_
     intro e u9_10_5 hst
     obtain ⟨l', f', s', hs', r, rfl, hq⟩ := (unhide T9_10).call (unhide hS).own hwrW hst
     have T9_10_5 := hide hq
     clear hq hst
     refine hK.out _ _ (unhide SK _ (unhide T9_10_5).bel) (fun hHeld => ?_)
     clear hK K
     refine tk 6 28 rfl rfl hHeld ?_
     simp only [Act.put, lA, lB, lC]
     refine tk 7 35 rfl rfl hHeld ?_
     simp only [Act.put, lA, lB, lC]
     refine tk 8 36 rfl rfl hHeld ?_
     simp only [Act.put, lA, lB, lC]
     refine rd [11] (.cons rfl (fun K hK => ?_) .nil)
     obtain ⟨hOw, hEo⟩ := (unhide T9_10_5).r l' f' s' hs' r rfl
     obtain ⟨h8, k8⟩ := (unhide T9_10_5).e8 b8 rfl
     obtain ⟨h9, k9⟩ := (unhide T9_10_5).e9 b9 rfl
     have c0 := (heap_at k8 0).1
     have c1 := (heap_at k8 1).1
     have c2 := (heap_at k8 2).1
     have c3 := (heap_at k8 3).1
     have cf0 := (heap_at k8 0).2
     have cf1 := (heap_at k8 1).2
     have cf2 := (heap_at k8 2).2
     have cf3 := (heap_at k8 3).2
     have h89 : b9 ≠ b8 := fun e => by rw [e, k8] at k9; injection k9 with k9; injection k9 with _ k9 _; exact absurd k9 (by decide)
     have hw : WrB (fun i => i = b8) u9_10_5 ((((u9_10_5.setCell ⟨b8, 0, none⟩ (.int .i64 pp.1.next)).setCell ⟨b8, 1, none⟩ (.slice l'.a l'.n l'.c)).setCell ⟨b8, 2, none⟩ (.slice f'.a f'.n f'.c)).setCell ⟨b8, 3, none⟩ (.slice s'.a s'.n s'.c)) := sv4_wr u9_10_5 b8 (.int .i64 pp.1.next) (.slice l'.a l'.n l'.c) (.slice f'.a f'.n f'.c) (.slice s'.a s'.n s'.c)
     have Q8 := hide (show ((((u9_10_5.setCell ⟨b8, 0, none⟩ (.int .i64 pp.1.next)).setCell ⟨b8, 1, none⟩ (.slice l'.a l'.n l'.c)).setCell ⟨b8, 2, none⟩ (.slice f'.a f'.n f'.c)).setCell ⟨b8, 3, none⟩ (.slice s'.a s'.n s'.c)).heap[b8]? = some (.cells #[.int .i64 pp.1.next, .slice l'.a l'.n l'.c, .slice f'.a f'.n f'.c, .slice s'.a s'.n s'.c] 29 (0, 0)) from sv4_heap k8 (.int .i64 pp.1.next) (.slice l'.a l'.n l'.c) (.slice f'.a f'.n f'.c) (.slice s'.a s'.n s'.c))
     have Q9 := hide (show ((((u9_10_5.setCell ⟨b8, 0, none⟩ (.int .i64 pp.1.next)).setCell ⟨b8, 1, none⟩ (.slice l'.a l'.n l'.c)).setCell ⟨b8, 2, none⟩ (.slice f'.a f'.n f'.c)).setCell ⟨b8, 3, none⟩ (.slice s'.a s'.n s'.c)).heap[b9]? = some (.cells #[.int .i64 0, .int .i64 0, .string ⟨#[]⟩, .slice none 0 0] 40 (0, 0)) from (hw.block b9 (blk_lt k9) h89).trans k9)
     have QO := hide (show VzOwn ((((u9_10_5.setCell ⟨b8, 0, none⟩ (.int .i64 pp.1.next)).setCell ⟨b8, 1, none⟩ (.slice l'.a l'.n l'.c)).setCell ⟨b8, 2, none⟩ (.slice f'.a f'.n f'.c)).setCell ⟨b8, 3, none⟩ (.slice s'.a s'.n s'.c)) W.heap.size l' f' s' hs' pp.1 from hOw.box k8 (by decide) (by decide) (by decide) hw)
     have QE := hide (show EOwns ((((u9_10_5.setCell ⟨b8, 0, none⟩ (.int .i64 pp.1.next)).setCell ⟨b8, 1, none⟩ (.slice l'.a l'.n l'.c)).setCell ⟨b8, 2, none⟩ (.slice f'.a f'.n f'.c)).setCell ⟨b8, 3, none⟩ (.slice s'.a s'.n s'.c)) wr.heap.size (.slice r.a r.n r.c) pp.2.list from own_keep hEo k8 (by decide) hw)
     have QB := hide (show Below wr.heap.size wr ((((u9_10_5.setCell ⟨b8, 0, none⟩ (.int .i64 pp.1.next)).setCell ⟨b8, 1, none⟩ (.slice l'.a l'.n l'.c)).setCell ⟨b8, 2, none⟩ (.slice f'.a f'.n f'.c)).setCell ⟨b8, 3, none⟩ (.slice s'.a s'.n s'.c)) from (unhide T9_10_5).bel.trans (WrB.below hw (fun i e => by rw [e]; exact h8) (unhide T9_10_5).bel.size))
     clear hw hOw hEo k8 k9
     go_simp
     refine hK.out _ _ (unhide SK _ (unhide QB)) (fun hHeld => ?_)
     clear hK K
     clear c0 cf0 c1 cf1 c2 cf2 c3 cf3
     generalize ((((u9_10_5.setCell ⟨b8, 0, none⟩ (.int .i64 pp.1.next)).setCell ⟨b8, 1, none⟩ (.slice l'.a l'.n l'.c)).setCell ⟨b8, 2, none⟩ (.slice f'.a f'.n f'.c)).setCell ⟨b8, 3, none⟩ (.slice s'.a s'.n s'.c)) = ux at *
     refine rd [12] (.cons rfl (fun K hK => ?_) .nil)
     have c0 := (heap_at (unhide Q9) 0).1
     have c1 := (heap_at (unhide Q9) 1).1
     have c2 := (heap_at (unhide Q9) 2).1
     have c3 := (heap_at (unhide Q9) 3).1
     have cf0 := (heap_at (unhide Q9) 0).2
     have cf1 := (heap_at (unhide Q9) 1).2
     have cf2 := (heap_at (unhide Q9) 2).2
     have cf3 := (heap_at (unhide Q9) 3).2
     have hw : WrB (fun i => i = b9) ux ((((ux.setCell ⟨b9, 0, none⟩ (.int .i64 pp.2.code)).setCell ⟨b9, 1, none⟩ (.int .i64 pp.2.time)).setCell ⟨b9, 2, none⟩ (.string pp.2.val)).setCell ⟨b9, 3, none⟩ (.slice r.a r.n r.c)) := sv4_wr ux b9 (.int .i64 pp.2.code) (.int .i64 pp.2.time) (.string pp.2.val) (.slice r.a r.n r.c)
     have P9 := hide (show ((((ux.setCell ⟨b9, 0, none⟩ (.int .i64 pp.2.code)).setCell ⟨b9, 1, none⟩ (.int .i64 pp.2.time)).setCell ⟨b9, 2, none⟩ (.string pp.2.val)).setCell ⟨b9, 3, none⟩ (.slice r.a r.n r.c)).heap[b9]? = some (.cells #[.int .i64 pp.2.code, .int .i64 pp.2.time, .string pp.2.val, .slice r.a r.n r.c] 40 (0, 0)) from sv4_heap (unhide Q9) (.int .i64 pp.2.code) (.int .i64 pp.2.time) (.string pp.2.val) (.slice r.a r.n r.c))
     have P8 := hide (show ((((ux.setCell ⟨b9, 0, none⟩ (.int .i64 pp.2.code)).setCell ⟨b9, 1, none⟩ (.int .i64 pp.2.time)).setCell ⟨b9, 2, none⟩ (.string pp.2.val)).setCell ⟨b9, 3, none⟩ (.slice r.a r.n r.c)).heap[b8]? = some (.cells #[.int .i64 pp.1.next, .slice l'.a l'.n l'.c, .slice f'.a f'.n f'.c, .slice s'.a s'.n s'.c] 29 (0, 0)) from (hw.block b8 (blk_lt (unhide Q8)) (fun e => h89 e.symm)).trans (unhide Q8))
     have PO := hide (show VzOwn ((((ux.setCell ⟨b9, 0, none⟩ (.int .i64 pp.2.code)).setCell ⟨b9, 1, none⟩ (.int .i64 pp.2.time)).setCell ⟨b9, 2, none⟩ (.string pp.2.val)).setCell ⟨b9, 3, none⟩ (.slice r.a r.n r.c)) W.heap.size l' f' s' hs' pp.1 from (unhide QO).box (unhide Q9) (by decide) (by decide) (by decide) hw)
     have PE := hide (show EOwns ((((ux.setCell ⟨b9, 0, none⟩ (.int .i64 pp.2.code)).setCell ⟨b9, 1, none⟩ (.int .i64 pp.2.time)).setCell ⟨b9, 2, none⟩ (.string pp.2.val)).setCell ⟨b9, 3, none⟩ (.slice r.a r.n r.c)) wr.heap.size (.slice r.a r.n r.c) pp.2.list from own_keep (unhide QE) (unhide Q9) (by decide) hw)
     have PB := hide (show Below wr.heap.size wr ((((ux.setCell ⟨b9, 0, none⟩ (.int .i64 pp.2.code)).setCell ⟨b9, 1, none⟩ (.int .i64 pp.2.time)).setCell ⟨b9, 2, none⟩ (.string pp.2.val)).setCell ⟨b9, 3, none⟩ (.slice r.a r.n r.c)) from (unhide QB).trans (WrB.below hw (fun i e => by rw [e]; exact h9) (unhide QB).size))
     clear hw
     go_simp
     refine hK.out _ _ (unhide SK _ (unhide PB)) (fun hHeld => ?_)
     clear hK K
     refine wpAnyH_done (by kernel_rfl) ?_ _
     clear hHeld SK
     go_wp2_with fail
     go_meet
     case rel => exact ⟨b8, b9, l', f', s', hs', r, rfl, rfl, P8, P9, PO, PE, PB, h9⟩
   ·have T10 := hide (unhide Ts).lit9
    go_simp
    generalize us.alloc (.cells #[.int .i64 0, .int .i64 0, .string ⟨#[]⟩, .slice none 0 0] 40) = u10 at *
    generalize us.heap.size = b9 at *
    refine hK.out _ _ (unhide SK _ (unhide T10).bel) (fun hHeld => ?_)
    clear hK K
    refine wpAnyH_ready (rs := [5, 9]) (by kernel_rfl) (by simp) ?_
    refine AllReadyH.cons rfl (fun K hK => ?_) (AllReadyH.cons rfl (fun K hK => ?_) AllReadyH.nil)
    ·go_simp
     refine (unhide CS _ (unhide T10).bel).mono ?_
     intro e u10_5 hst
     obtain ⟨l', f', s', hs', r, rfl, hq⟩ := (unhide T10).call (unhide hS).own hwrW hst
     have T10_5 := hide hq
     clear hq hst
     refine hK.out _ _ (unhide SK _ (unhide T10_5).bel) (fun hHeld => ?_)
     clear hK K
     refine tk 6 28 rfl rfl hHeld ?_
     simp only [Act.put, lA, lB, lC]
     refine tk 7 35 rfl rfl hHeld ?_
     simp only [Act.put, lA, lB, lC]
     refine tk 8 36 rfl rfl hHeld ?_
     simp only [Act.put, lA, lB, lC]
     refine rd [9] (.cons rfl (fun K hK => ?_) .nil)
     have T10_5_9 := hide (unhide T10_5).lit8
     go_simp
     generalize u10_5.alloc (.cells #[.int .i64 0, .slice none 0 0, .slice none 0 0, .slice none 0 0] 29) = u10_5_9 at *
     generalize u10_5.heap.size = b8 at *
     refine hK.out _ _ (unhide SK _ (unhide T10_5_9).bel) (fun hHeld => ?_)
     clear hK K
     refine rd [11] (.cons rfl (fun K hK => ?_) .nil)
     obtain ⟨hOw, hEo⟩ := (unhide T10_5_9).r l' f' s' hs' r rfl
     obtain ⟨h8, k8⟩ := (unhide T10_5_9).e8 b8 rfl
     obtain ⟨h9, k9⟩ := (unhide T10_5_9).e9 b9 rfl
     have c0 := (heap_at k8 0).1
     have c1 := (heap_at k8 1).1
     have c2 := (heap_at k8 2).1
     have c3 := (heap_at k8 3).1
     have cf0 := (heap_at k8 0).2
     have cf1 := (heap_at k8 1).2
     have cf2 := (heap_at k8 2).2
     have cf3 := (heap_at k8 3).2
     have h89 : b9 ≠ b8 := fun e => by rw [e, k8] at k9; injection k9 with k9; injection k9 with _ k9 _; exact absurd k9 (by decide)
     have hw : WrB (fun i => i = b8) u10_5_9 ((((u10_5_9.setCell ⟨b8, 0, none⟩ (.int .i64 pp.1.next)).setCell ⟨b8, 1, none⟩ (.slice l'.a l'.n l'.c)).setCell ⟨b8, 2, none⟩ (.slice f'.a f'.n f'.c)).setCell ⟨b8, 3, none⟩ (.slice s'.a s'.n s'.c)) := sv4_wr u10_5_9 b8 (.int .i64 pp.1.next) (.slice l'.a l'.n l'.c) (.slice f'.a f'.n f'.c) (.slice s'.a s'.n s'.c)
     have Q8 := hide (show ((((u10_5_9.setCell ⟨b8, 0, none⟩ (.int .i64 pp.1.next)).setCell ⟨b8, 1, none⟩ (.slice l'.a l'.n l'.c)).setCell ⟨b8, 2, none⟩ (.slice f'.a f'.n f'.c)).setCell ⟨b8, 3, none⟩ (.slice s'.a s'.n s'.c)).heap[b8]? = some (.cells #[.int .i64 pp.1.next, .slice l'.a l'.n l'.c, .slice f'.a f'.n f'.c, .slice s'.a s'.n s'.c] 29 (0, 0)) from sv4_heap k8 (.int .i64 pp.1.next) (.slice l'.a l'.n l'.c) (.slice f'.a f'.n f'.c) (.slice s'.a s'.n s'.c))
     have Q9 := hide (show ((((u10_5_9.setCell ⟨b8, 0, none⟩ (.int .i64 pp.1.next)).setCell ⟨b8, 1, none⟩ (.slice l'.a l'.n l'.c)).setCell ⟨b8, 2, none⟩ (.slice f'.a f'.n f'.c)).setCell ⟨b8, 3, none⟩ (.slice s'.a s'.n s'.c)).heap[b9]? = some (.cells #[.int .i64 0, .int .i64 0, .string ⟨#[]⟩, .slice none 0 0] 40 (0, 0)) from (hw.block b9 (blk_lt k9) h89).trans k9)
     have QO := hide (show VzOwn ((((u10_5_9.setCell ⟨b8, 0, none⟩ (.int .i64 pp.1.next)).setCell ⟨b8, 1, none⟩ (.slice l'.a l'.n l'.c)).setCell ⟨b8, 2, none⟩ (.slice f'.a f'.n f'.c)).setCell ⟨b8, 3, none⟩ (.slice s'.a s'.n s'.c)) W.heap.size l' f' s' hs' pp.1 from hOw.box k8 (by decide) (by decide) (by decide) hw)
     have QE := hide (show EOwns ((((u10_5_9.setCell ⟨b8, 0, none⟩ (.int .i64 pp.1.next)).setCell ⟨b8, 1, none⟩ (.slice l'.a l'.n l'.c)).setCell ⟨b8, 2, none⟩ (.slice f'.a f'.n f'.c)).setCell ⟨b8, 3, none⟩ (.slice s'.a s'.n s'.c)) wr.heap.size (.slice r.a r.n r.c) pp.2.list from own_keep hEo k8 (by decide) hw)
     have QB := hide (show Below wr.heap.size wr ((((u10_5_9.setCell ⟨b8, 0, none⟩ (.int .i64 pp.1.next)).setCell ⟨b8, 1, none⟩ (.slice l'.a l'.n l'.c)).setCell ⟨b8, 2, none⟩ (.slice f'.a f'.n f'.c)).setCell ⟨b8, 3, none⟩ (.slice s'.a s'.n s'.c)) from (unhide T10_5_9).bel.trans (WrB.below hw (fun i e => by rw [e]; exact h8) (unhide T10_5_9).bel.size))
     clear hw hOw hEo k8 k9
     go_simp
     refine hK.out _ _ (unhide SK _ (unhide QB)) (fun hHeld => ?_)
     clear hK K
     clear c0 cf0 c1 cf1 c2 cf2 c3 cf3
     generalize ((((u10_5_9.setCell ⟨b8, 0, none⟩ (.int .i64 pp.1.next)).setCell ⟨b8, 1, none⟩ (.slice l'.a l'.n l'.c)).setCell ⟨b8, 2, none⟩ (.slice f'.a f'.n f'.c)).setCell ⟨b8, 3, none⟩ (.slice s'.a s'.n s'.c)) = ux at *
     refine rd [12] (.cons rfl (fun K hK => ?_) .nil)
     have c0 := (heap_at (unhide Q9) 0).1
     have c1 := (heap_at (unhide Q9) 1).1
     have c2 := (heap_at (unhide Q9) 2).1
     have c3 := (heap_at (unhide Q9) 3).1
     have cf0 := (heap_at (unhide Q9) 0).2
     have cf1 := (heap_at (unhide Q9) 1).2
     have cf2 := (heap_at (unhide Q9) 2).2
     have cf3 := (heap_at (unhide Q9) 3).2
     have hw : WrB (fun i => i = b9) ux ((((ux.setCell ⟨b9, 0, none⟩ (.int .i64 pp.2.code)).setCell ⟨b9, 1, none⟩ (.int .i64 pp.2.time)).setCell ⟨b9, 2, none⟩ (.string pp.2.val)).setCell ⟨b9, 3, none⟩ (.slice r.a r.n r.c)) := sv4_wr ux b9 (.int .i64 pp.2.code) (.int .i64 pp.2.time) (.string pp.2.val) (.slice r.a r.n r.c)
     have P9 := hide (show ((((ux.setCell ⟨b9, 0, none⟩ (.int .i64 pp.2.code)).setCell ⟨b9, 1, none⟩ (.int .i64 pp.2.time)).setCell ⟨b9, 2, none⟩ (.string pp.2.val)).setCell ⟨b9, 3, none⟩ (.slice r.a r.n r.c)).heap[b9]? = some (.cells #[.int .i64 pp.2.code, .int .i64 pp.2.time, .string pp.2.val, .slice r.a r.n r.c] 40 (0, 0)) from sv4_heap (unhide Q9) (.int .i64 pp.2.code) (.int .i64 pp.2.time) (.string pp.2.val) (.slice r.a r.n r.c))
     have P8 := hide (show ((((ux.setCell ⟨b9, 0, none⟩ (.int .i64 pp.2.code)).setCell ⟨b9, 1, none⟩ (.int .i64 pp.2.time)).setCell ⟨b9, 2, none⟩ (.string pp.2.val)).setCell ⟨b9, 3, none⟩ (.slice r.a r.n r.c)).heap[b8]? = some (.cells #[.int .i64 pp.1.next, .slice l'.a l'.n l'.c, .slice f'.a f'.n f'.c, .slice s'.a s'.n s'.c] 29 (0, 0)) from (hw.block b8 (blk_lt (unhide Q8)) (fun e => h89 e.symm)).trans (unhide Q8))
     have PO := hide (show VzOwn ((((ux.setCell ⟨b9, 0, none⟩ (.int .i64 pp.2.code)).setCell ⟨b9, 1, none⟩ (.int .i64 pp.2.time)).setCell ⟨b9, 2, none⟩ (.string pp.2.val)).setCell ⟨b9, 3, none⟩ (.slice r.a r.n r.c)) W.heap.size l' f' s' hs' pp.1 from (unhide QO).box (unhide Q9) (by decide) (by decide) (by decide) hw)
     have PE := hide (show EOwns ((((ux.setCell ⟨b9, 0, none⟩ (.int .i64 pp.2.code)).setCell ⟨b9, 1, none⟩ (.int .i64 pp.2.time)).setCell ⟨b9, 2, none⟩ (.string pp.2.val)).setCell ⟨b9, 3, none⟩ (.slice r.a r.n r.c)) wr.heap.size (.slice r.a r.n r.c) pp.2.list from own_keep (unhide QE) (unhide Q9) (by decide) hw)
     have PB := hide (show Below wr.heap.size wr ((((ux.setCell ⟨b9, 0, none⟩ (.int .i64 pp.2.code)).setCell ⟨b9, 1, none⟩ (.int .i64 pp.2.time)).setCell ⟨b9, 2, none⟩ (.string pp.2.val)).setCell ⟨b9, 3, none⟩ (.slice r.a r.n r.c)) from (unhide QB).trans (WrB.below hw (fun i e => by rw [e]; exact h9) (unhide QB).size))
     clear hw
     go_simp
     refine hK.out _ _ (unhide SK _ (unhide PB)) (fun hHeld => ?_)
     clear hK K
     refine wpAnyH_done (by kernel_rfl) ?_ _
     clear hHeld SK
     go_wp2_with fail
     go_meet
     case rel => exact ⟨b8, b9, l', f', s', hs', r, rfl, rfl, P8, P9, PO, PE, PB, h9⟩
    ·have T10_9 := hide (unhide T10).lit8
     go_simp
     generalize u10.alloc (.cells #[.int .i64 0, .slice none 0 0, .slice none 0 0, .slice none 0 0] 29) = u10_9 at *
     generalize u10.heap.size = b8 at *
     refine hK.out _ _ (unhide SK _ (unhide T10_9).bel) (fun hHeld => ?_)
     clear hK K
     refine rd [5] (.cons rfl (fun K hK => ?_) .nil)
     go_simp
     refine (unhide CS _ (unhide T10_9).bel).mono ?_
     intro e u10_9_5 hst
     obtain ⟨l', f', s', hs', r, rfl, hq⟩ := (unhide T10_9).call (unhide hS).own hwrW hst
     have T10_9_5 := hide hq
     clear hq hst
     refine hK.out _ _ (unhide SK _ (unhide T10_9_5).bel) (fun hHeld => ?_)
     clear hK K
     refine tk 6 28 rfl rfl hHeld ?_
     simp only [Act.put, lA, lB, lC]
     refine tk 7 35 rfl rfl hHeld ?_
     simp only [Act.put, lA, lB, lC]
     refine tk 8 36 rfl rfl hHeld ?_
     simp only [Act.put, lA, lB, lC]
     refine rd [11] (.cons rfl (fun K hK => ?_) .nil)
     obtain ⟨hOw, hEo⟩ := (unhide T10_9_5).r l' f' s' hs' r rfl
     obtain ⟨h8, k8⟩ := (unhide T10_9_5).e8 b8 rfl
     obtain ⟨h9, k9⟩ := (unhide T10_9_5).e9 b9 rfl
     have c0 := (heap_at k8 0).1
     have c1 := (heap_at k8 1).1
     have c2 := (heap_at k8 2).1
     have c3 := (heap_at k8 3).1
     have cf0 := (heap_at k8 0).2
     have cf1 := (heap_at k8 1).2
     have cf2 := (heap_at k8 2).2
     have cf3 := (heap_at k8 3).2
     have h89 : b9 ≠ b8 := fun e => by rw [e, k8] at k9; injection k9 with k9; injection k9 with _ k9 _; exact absurd k9 (by decide)
     have hw : WrB (fun i => i = b8) u10_9_5 ((((u10_9_5.setCell ⟨b8, 0, none⟩ (.int .i64 pp.1.next)).setCell ⟨b8, 1, none⟩ (.slice l'.a l'.n l'.c)).setCell ⟨b8, 2, none⟩ (.slice f'.a f'.n f'.c)).setCell ⟨b8, 3, none⟩ (.slice s'.a s'.n s'.c)) := sv4_wr u10_9_5 b8 (.int .i64 pp.1.next) (.slice l'.a l'.n l'.c) (.slice f'.a f'.n f'.c) (.slice s'.a s'.n s'.c)
     have Q8 := hide (show ((((u10_9_5.setCell ⟨b8, 0, none⟩ (.int .i64 pp.1.next)).setCell ⟨b8, 1, none⟩ (.slice l'.a l'.n l'.c)).setCell ⟨b8, 2, none⟩ (.slice f'.a f'.n f'.c)).setCell ⟨b8, 3, none⟩ (.slice s'.a s'.n s'.c)).heap[b8]? = some (.cells #[.int .i64 pp.1.next, .slice l'.a l'.n l'.c, .slice f'.a f'.n f'.c, .slice s'.a s'.n s'.c] 29 (0, 0)) from sv4_heap k8 (.int .i64 pp.1.next) (.slice l'.a l'.n l'.c) (.slice f'.a f'.n f'.c) (.slice s'.a s'.n s'.c))
     have Q9 := hide (show ((((u10_9_5.setCell ⟨b8, 0, none⟩ (.int .i64 pp.1.next)).setCell ⟨b8, 1, none⟩ (.slice l'.a l'.n l'.c)).setCell ⟨b8, 2, none⟩ (.slice f'.a f'.n f'.c)).setCell ⟨b8, 3, none⟩ (.slice s'.a s'.n s'.c)).heap[b9]? = some (.cells #[.int .i64 0, .int .i64 0, .string ⟨#[]⟩, .slice none 0 0] 40 (0, 0)) from (hw.block b9 (blk_lt k9) h89).trans k9)
     have QO := hide (show VzOwn ((((u10_9_5.setCell ⟨b8, 0, none⟩ (.int .i64 pp.1.next)).setCell ⟨b8, 1, none⟩ (.slice l'.a l'.n l'.c)).setCell ⟨b8, 2, none⟩ (.slice f'.a f'.n f'.c)).setCell ⟨b8, 3, none⟩ (.slice s'.a s'.n s'.c)) W.heap.size l' f' s' hs' pp.1 from hOw.box k8 (by decide) (by decide) (by decide) hw)
     have QE := hide (show EOwns ((((u10_9_5.setCell ⟨b8, 0, none⟩ (.int .i64 pp.1.next)).setCell ⟨b8, 1, none⟩ (.slice l'.a l'.n l'.c)).setCell ⟨b8, 2, none⟩ (.slice f'.a f'.n f'.c)).setCell ⟨b8, 3, none⟩ (.slice s'.a s'.n s'.c)) wr.heap.size (.slice r.a r.n r.c) pp.2.list from own_keep hEo k8 (by decide) hw)
     have QB := hide (show Below wr.heap.size wr ((((u10_9_5.setCell ⟨b8, 0, none⟩ (.int .i64 pp.1.next)).setCell ⟨b8, 1, none⟩ (.slice l'.a l'.n l'.c)).setCell ⟨b8, 2, none⟩ (.slice f'.a f'.n f'.c)).setCell ⟨b8, 3, none⟩ (.slice s'.a s'.n s'.c)) from (unhide T10_9_5).bel.trans (WrB.below hw (fun i e => by rw [e]; exact h8) (unhide T10_9_5).bel.size))
     clear hw hOw hEo k8 k9
     go_simp
     refine hK.out _ _ (unhide SK _ (unhide QB)) (fun hHeld => ?_)
     clear hK K
     clear c0 cf0 c1 cf1 c2 cf2 c3 cf3
     generalize ((((u10_9_5.setCell ⟨b8, 0, none⟩ (.int .i64 pp.1.next)).setCell ⟨b8, 1, none⟩ (.slice l'.a l'.n l'.c)).setCell ⟨b8, 2, none⟩ (.slice f'.a f'.n f'.c)).setCell ⟨b8, 3, none⟩ (.slice s'.a s'.n s'.c)) = ux at *
     refine rd [12] (.cons rfl (fun K hK => ?_) .nil)
     have c0 := (heap_at (unhide Q9) 0).1
     have c1 := (heap_at (unhide Q9) 1).1
     have c2 := (heap_at (unhide Q9) 2).1
     have c3 := (heap_at (unhide Q9) 3).1
     have cf0 := (heap_at (unhide Q9) 0).2
     have cf1 := (heap_at (unhide Q9) 1).2
     have cf2 := (heap_at (unhide Q9) 2).2
     have cf3 := (heap_at (unhide Q9) 3).2
     have hw : WrB (fun i => i = b9) ux ((((ux.setCell ⟨b9, 0, none⟩ (.int .i64 pp.2.code)).setCell ⟨b9, 1, none⟩ (.int .i64 pp.2.time)).setCell ⟨b9, 2, none⟩ (.string pp.2.val)).setCell ⟨b9, 3, none⟩ (.slice r.a r.n r.c)) := sv4_wr ux b9 (.int .i64 pp.2.code) (.int .i64 pp.2.time) (.string pp.2.val) (.slice r.a r.n r.c)
     have P9 := hide (show ((((ux.setCell ⟨b9, 0, none⟩ (.int .i64 pp.2.code)).setCell ⟨b9, 1, none⟩ (.int .i64 pp.2.time)).setCell ⟨b9, 2, none⟩ (.string pp.2.val)).setCell ⟨b9, 3, none⟩ (.slice r.a r.n r.c)).heap[b9]? = some (.cells #[.int .i64 pp.2.code, .int .i64 pp.2.time, .string pp.2.val, .slice r.a r.n r.c] 40 (0, 0)) from sv4_heap (unhide Q9) (.int .i64 pp.2.code) (.int .i64 pp.2.time) (.string pp.2.val) (.slice r.a r.n r.c))
     have P8 := hide (show ((((ux.setCell ⟨b9, 0, none⟩ (.int .i64 pp.2.code)).setCell ⟨b9, 1, none⟩ (.int .i64 pp.2.time)).setCell ⟨b9, 2, none⟩ (.string pp.2.val)).setCell ⟨b9, 3, none⟩ (.slice r.a r.n r.c)).heap[b8]? = some (.cells #[.int .i64 pp.1.next, .slice l'.a l'.n l'.c, .slice f'.a f'.n f'.c, .slice s'.a s'.n s'.c] 29 (0, 0)) from (hw.block b8 (blk_lt (unhide Q8)) (fun e => h89 e.symm)).trans (unhide Q8))
     have PO := hide (show VzOwn ((((ux.setCell ⟨b9, 0, none⟩ (.int .i64 pp.2.code)).setCell ⟨b9, 1, none⟩ (.int .i64 pp.2.time)).setCell ⟨b9, 2, none⟩ (.string pp.2.val)).setCell ⟨b9, 3, none⟩ (.slice r.a r.n r.c)) W.heap.size l' f' s' hs' pp.1 from (unhide QO).box (unhide Q9) (by decide) (by decide) (by decide) hw)
     have PE := hide (show EOwns ((((ux.setCell ⟨b9, 0, none⟩ (.int .i64 pp.2.code)).setCell ⟨b9, 1, none⟩ (.int .i64 pp.2.time)).setCell ⟨b9, 2, none⟩ (.string pp.2.val)).setCell ⟨b9, 3, none⟩ (.slice r.a r.n r.c)) wr.heap.size (.slice r.a r.n r.c) pp.2.list from own_keep (unhide QE) (unhide Q9) (by decide) hw)
     have PB := hide (show Below wr.heap.size wr ((((ux.setCell ⟨b9, 0, none⟩ (.int .i64 pp.2.code)).setCell ⟨b9, 1, none⟩ (.int .i64 pp.2.time)).setCell ⟨b9, 2, none⟩ (.string pp.2.val)).setCell ⟨b9, 3, none⟩ (.slice r.a r.n r.c)) from (unhide QB).trans (WrB.below hw (fun i e => by rw [e]; exact h9) (unhide QB).size))
     clear hw
     go_simp
     refine hK.out _ _ (unhide SK _ (unhide PB)) (fun hHeld => ?_)
     clear hK K
     refine wpAnyH_done (by kernel_rfl) ?_ _
     clear hHeld SK
     go_wp2_with fail
     go_meet
     case rel => exact ⟨b8, b9, l', f', s', hs', r, rfl, rfl, P8, P9, PO, PE, PB, h9⟩
  case rest =>
   obtain ⟨b8, b9, ⟨la2, ln2, lc2⟩, ⟨fa2, fn2, fc2⟩, ⟨sa2, sn2, sc2⟩, hs2, ⟨ra, rn2, rc⟩, rfl, rfl, hK8, hK9, hOW, hEO, hBc, h9⟩ := hcut
   clear SK T00 CS
   obtain ⟨⟨q2a, q2n, q2c⟩, w7, hr7, hS7⟩ := (unhide hS).push (unhide hBc) (unhide hOW) pp.2 ⟨ra, rn2, rc⟩ (unhide hEO) (unhide HZL)
   have kb := ((unhide hS).below (unhide hBc)).box
   unfold vzC at kb
   simp only at kb hr7 hS7 hK8 hK9
   have t0 := (heap_at kb 0).1
   have t1 := (heap_at kb 1).1
   have t2 := (heap_at kb 2).1
   have t3 := (heap_at kb 3).1
   have tf0 := (heap_at kb 0).2
   have tf1 := (heap_at kb 1).2
   have tf2 := (heap_at kb 2).2
   have tf3 := (heap_at kb 3).2
   have y0 := (heap_at (unhide hK8) 0).1
   have y1 := (heap_at (unhide hK8) 1).1
   have y2 := (heap_at (unhide hK8) 2).1
   have y3 := (heap_at (unhide hK8) 3).1
   have h9b : b9 ≠ tb := by have := blk_lt (unhide hS).box; omega
   have k9 := ((sv4_wr wc tb (.int .i64 pp.1.next) (.slice la2 ln2 lc2) (.slice fa2 fn2 fc2) (.slice sa2 sn2 sc2)).block b9 (blk_lt (unhide hK9)) h9b).trans (unhide hK9)
   unfold sv4 at hr7 k9
   have HS7 := hide hS7
   have R7 := hide hr7
   have K9 := hide k9
   clear hS7 kb hr7 k9 hK8 hK9 hS hOW hEO hX
   go_upto_region 12 with fail
   clear t0 t1 t2 t3 tf0 tf1 tf2 tf3 y0 y1 y2 y3
   generalize ((((wc.setCell ⟨tb, 0, none⟩ (.int .i64 pp.1.next)).setCell ⟨tb, 1, none⟩ (.slice la2 ln2 lc2)).setCell ⟨tb, 2, none⟩ (.slice fa2 fn2 fc2)).setCell ⟨tb, 3, none⟩ (.slice sa2 sn2 sc2)) = uz at *
   have hr7 := unhide R7
   have p0 := (heap_at (unhide K9) 0).1
   have p1 := (heap_at (unhide K9) 1).1
   have p2 := (heap_at (unhide K9) 2).1
   have p3 := (heap_at (unhide K9) 3).1
   have REL := hide (show ∃ (k' : Nat) (l f s : Sl) (hs : List SeH) (q : Sl) (zs : List ZrH), k + 1 = k' ∧ Value.slice q2a q2n q2c = .slice q.a q.n q.c ∧ Hid (TrSt W w7 tb l f s hs rn.1 (.slice q.a q.n q.c) zs) ∧ Hid (zs.map (·.X) = rn.2) from ⟨k + 1, ⟨la2, ln2, lc2⟩, ⟨fa2, fn2, fc2⟩, ⟨sa2, sn2, sc2⟩, hs2, ⟨q2a, q2n, q2c⟩, _, rfl, rfl, by rw [unhide VN]; exact HS7, unhide XN ⟨ra, rn2, rc⟩⟩)
   clear HS7 XN VN RK hV
   go_wp2_with (at_builtin; refine ky_wpApp rfl (.tmp 38) (.tmp 40) 30 rfl _ _ _ w7 rfl rfl hr7 ?_)
   go_roundw
   case rel =>
    obtain ⟨k', l, f, s, hs, q, zs', rfl, e2, e3, e4⟩ := unhide REL
    exact ⟨k + 1, l, f, s, hs, q, zs', by omega, e2, by go_num, by rw [unhide HRN]; exact e3, by rw [unhide HRN]; exact e4⟩
   case measure => simp [intOf]; omega
end Go.Proofs.YtdnjgbckkmbmfaaGreat

namespace Go.Proofs.YtdnjgbckkmbmfaaGreat
open Go.RowKit

theorem se_new {w : World} {B : Nat} {v : Value} (h : w.ownsRow B 55 3 v 4 (madeCells #[.bool false, .int .i64 0, .slice none 0 0] (4 * 3)).toList) : SeOwn w B v (List.replicate 4 seNil) := by
 rw [se_made] at h
 have hm : ∀ {k a x}, sbAt ((List.replicate 4 seNil).map seEl) k a = some x → x = ⟨43, 4, 0, .slice none 0 0, []⟩ := fun hx => by
  obtain ⟨e, he, hxe⟩ := sbAt_mem hx
  obtain ⟨y, hy, rfl⟩ := List.mem_map.1 he
  rw [List.eq_of_mem_replicate hy] at hxe
  exact List.mem_singleton.1 hxe
 refine ⟨h, rfl, seEl_wid _, fun k a x hx => ?_, fun i j a b x y hx hy _ g hg => ?_, fun i a x hx g _ => ?_⟩
 ·rw [hm hx]; exact World.ownsRow_nil _ _ _ _
 ·rw [hm hx] at hg; cases hg
 ·rw [hm hx]; intro e; cases e
theorem noVersions_vz (w : World) : Calls Tryz.prog 32 #[] w fun e w' => ∃ sc g, e = .returned (.agg (vzC 1 ⟨none, 0, 0⟩ ⟨none, 0, 0⟩ ⟨some ⟨g, 0, none⟩, 4, sc⟩)) ∧ VzOwn w' w.heap.size ⟨none, 0, 0⟩ ⟨none, 0, 0⟩ ⟨some ⟨g, 0, none⟩, 4, sc⟩ (List.replicate 4 seNil) newV ∧ Below w.heap.size w w' :=
 (noVersions_any w).mono fun e w' ⟨sc, g, he, ho, hb⟩ => ⟨sc, g, he, ⟨World.ownsRow_nil _ _ _ _, World.ownsRow_nil _ _ _ _, se_new ho, rfl, fun i hi => by cases hi⟩, hb⟩
theorem LgAt.rd {w : World} {B lb m N : Nat} {h : ByteArray → Value} {f s : Sl} {hs : List SeH} {d : VsD} (q : LgAt w B lb m N h f s hs d) : LdRd w lb m N h f s hs d := by
 obtain ⟨fa, fn, fc⟩ := f
 obtain ⟨sa, sn, sc⟩ := s
 have hl := q.len
 have so := q.vz.so
 refine ⟨q.box, q.his.rd, frow_of_owns q.vz.fo, cap_of_owns (s := ⟨fa, fn, fc⟩) q.vz.fo, ?_, (cap_of_owns (s := ⟨sa, sn, sc⟩) so.row).2, fun x hx => ?_, q.vz.ss⟩
 ·have := so.reads
  rw [← hl.1] at this
  exact this
 ·obtain ⟨k, hk, rfl⟩ := List.getElem_of_mem hx
  exact cap_of_owns (so.dat k 0 _ (by unfold sbAt; rw [seEl_at hk]; rfl))
theorem nbl_zr {w : World} {B n i : Nat} {v : Value} {zs : List ZrH} (h : NOwn w B 40 4 v n (zs.map zrEl)) (hi : NBl v (zs.map zrEl) i) : ∃ cur T, w.heap[i]? = some (.cells cur T (0, 0)) ∧ (T = 40 ∨ T = 48) := by
 rcases hi with hi | ⟨k, a, x, hx, hi⟩
 ·obtain ⟨cur, hc⟩ := own_kind h.row hi
  exact ⟨cur, _, hc, .inl rfl⟩
 ·have ht : x.t = 48 := by
   obtain ⟨e, he, hxe⟩ := sbAt_mem hx
   obtain ⟨y, _, rfl⟩ := List.mem_map.1 he
   rw [List.mem_singleton.1 hxe]
  obtain ⟨cur, hc⟩ := own_kind (h.dat k a x hx) hi
  exact ⟨cur, _, hc, .inr ht⟩
theorem not_lk {w : World} {i : Nat} {cs : Array Value} {t : TypeId} (h : w.heap[i]? = some (.cells cs t (0, 0))) (ht : t = 40 ∨ t = 48 ∨ t = 37) : ¬ LK w i := by
 rintro (⟨es, c, e⟩ | ⟨cs', t', fr, e, hk⟩)
 ·rw [h] at e; cases e
 ·rw [h] at e
  injection e with e
  injection e with _ e2 _
  subst e2
  rcases ht with rfl | rfl | rfl <;> rcases hk with hk | hk | hk | hk <;> exact absurd hk (by decide)
theorem zr_lg {w w' : World} {B C n : Nat} {v : Value} {zs : List ZrH} (h : NOwn w C 40 4 v n (zs.map zrEl)) (hw : LgW B w w') : NOwn w' C 40 4 v n (zs.map zrEl) :=
 h.keep hw fun i hi ⟨_, hk⟩ => by
  obtain ⟨cur, T, hc, hT⟩ := nbl_zr h hi
  exact not_lk hc (hT.elim .inl (fun e => .inr (.inl e))) hk
structure IrSt (w1 wr : World) (lb m N : Nat) (h : ByteArray → Value) (f s : Sl) (hs : List SeH) (d : VsD) (rv : Value) (zs : List ZrH) : Prop where
 bel : Below w1.heap.size w1 wr
 lg : LgAt wr w1.heap.size lb m N h f s hs d
 rep : ZrOwn wr w1.heap.size rv zs
theorem IrSt.below {w1 w w' : World} {lb m N : Nat} {h : ByteArray → Value} {f s : Sl} {hs : List SeH} {d : VsD} {rv : Value} {zs : List ZrH} (q : IrSt w1 w lb m N h f s hs d rv zs) (hb : Below w.heap.size w w') : IrSt w1 w' lb m N h f s hs d rv zs :=
 ⟨q.bel.trans (hb.mono q.bel.size), q.lg.below hb, q.rep.below hb⟩
theorem IrSt.push {w1 wr u : World} {lb m N : Nat} {h : ByteArray → Value} {f s : Sl} {hs : List SeH} {d : VsD} {rv : Value} {zs : List ZrH} (q : IrSt w1 wr lb m N h f s hs d rv zs) {p : VsD × RepD} {N' : Nat} {h' : ByteArray → Value} {f' : Sl} {hs' : List SeH} {r : Sl} (hl : LgAt u w1.heap.size lb m N' h' f' s hs' p.1) (ho : EOwns u wr.heap.size (.slice r.a r.n r.c) p.2.list) (hw : LgW w1.heap.size wr u) (hz : zs.length ≤ 1000) :
  ∃ q' : Sl, ∃ w5, (Builtin.append_ #[30, 30] 30 #[rv, .slice (some ⟨u.heap.size, 0, none⟩) 1 1]).run Tryz.prog (u.alloc (.cells #[.int .i64 p.2.code, .int .i64 p.2.time, .string p.2.val, .slice r.a r.n r.c] 40)) = .ok (.slice q'.a q'.n q'.c) w5 ∧ IrSt w1 w5 lb m N' h' f' s hs' p.1 (.slice q'.a q'.n q'.c) (zs ++ [⟨p.2, r⟩]) := by
 have b1 := q.bel.trans (hw.below q.bel.size)
 have r1 : ZrOwn u w1.heap.size rv zs := zr_lg q.rep hw
 obtain ⟨i0, hi0, hz0, hz1, hz2⟩ := info_parts Tryz.infoZr
 obtain ⟨v', w5, hrun, hN, hg, -⟩ := NOwn.app (e := zrEl ⟨p.2, r⟩) (C := wr.heap.size) 30 Tryz.underlying30 hi0 hz0 hz1 hz2 rfl (by decide) (by decide) r1 rfl (by intro y hy; simp only [zrEl, List.mem_cons, List.not_mem_nil, or_false] at hy; rcases hy with rfl | rfl | rfl | rfl <;> rfl) (fun x hx => by
  rw [List.mem_singleton.1 hx]; exact ho) (fun i hi => (q.rep.lt i hi).2) q.bel.size (fun a b x y hy hz' hab => by
  match a, hy, b, hz' with
  | 0, _, 0, _ => exact absurd rfl hab
  | a + 1, hy, _, _ => cases hy
  | 0, _, b + 1, hz' => cases hz') (by omega) b1.size
 obtain ⟨q', rfl, -⟩ := v_slice hN.row
 have bA : Below u.heap.size u (u.alloc (.cells (zrEl ⟨p.2, r⟩).hd.toArray 40)) := (Below.refl _ _).alloc (Nat.le_refl _) _
 have rA := r1.below bA
 refine ⟨q', w5, hrun, ⟨(b1.trans (bA.mono b1.size)).trans (WrB.below (WrB.of_grown hg) (fun i hi => (rA.row.lt i hi).1) (Nat.le_trans b1.size bA.size)), (hl.below bA).wr (WrB.of_grown hg) (fun i hi => ?_), ?_⟩⟩
 ·obtain ⟨cur, hc⟩ := own_kind rA.row hi
  exact not_lk hc (.inl rfl)
 ·have := hN
  rw [← List.map_singleton, ← List.map_append] at this
  rw [show zs.length + 1 = (zs ++ [(⟨p.2, r⟩ : ZrH)]).length by simp] at this
  exact this
set_option maxHeartbeats 8000000 in
theorem implTxRun_any (a : Option Addr) (n c : Nat) (acts : List TxD) (w : World) (hR : XRow w a n acts) (hn : n ≤ 1048576) :
  Calls Tryz.prog 7 #[.slice a n c] w fun e w' => TxRes acts w e w' := by
 have L := hide hR.1
 have b0 : Below w.heap.size w (w.alloc (.cells #[.int .i64 0, .slice none 0 0, .slice none 0 0, .slice none 0 0] 29)) := (Below.refl _ _).alloc (Nat.le_refl _) _
 have K0 := heap_alloc_new w (.cells #[.int .i64 0, .slice none 0 0, .slice none 0 0, .slice none 0 0] 29)
 have ZT : w.heap.size < (w.alloc (.cells #[.int .i64 0, .slice none 0 0, .slice none 0 0, .slice none 0 0] 29)).heap.size := by simp
 have LONG := hide (show 150 < n → ∀ cc : Int, txC acts = cc → TxRes acts w (.returned (.tuple #[.agg #[.int .i64 0, .slice none 0 0, .slice none 0 0, .slice none 0 0], .slice none 0 0, .int .i64 cc])) (w.alloc (.cells #[.int .i64 0, .slice none 0 0, .slice none 0 0, .slice none 0 0] 29)) from fun h cc hc => by
  have h' : 150 < acts.length := by rw [unhide L]; exact h
  have hv : txV acts = ⟨0, [], [], []⟩ := by unfold txV; rw [if_pos h']
  have hr : txR acts = [] := by unfold txR; rw [if_pos h']
  exact ⟨⟨none, 0, 0⟩, ⟨none, 0, 0⟩, ⟨none, 0, 0⟩, [], ⟨none, 0, 0⟩, [], by rw [hc, hv], by rw [hv]; exact vz_none _ _, NOwn.flat (World.ownsRow_nil _ _ _ _) rfl (fun e he => by cases he) (fun e he => by cases he), by rw [hr]; rfl, b0⟩)
 by_cases hl1 : 4096 < n
 ·have hC : txC acts = 2 := by unfold txC; rw [if_pos (by rw [unhide L]; exact hl1)]
  have RES := hide (unhide LONG (by omega) 2 hC)
  clear hC
  go_enter Tryz.func7, Tryz.ntmps7
  go_wp2_with fail
  refine bodyPost_ret (v := .tuple #[.agg #[.int .i64 0, .slice none 0 0, .slice none 0 0, .slice none 0 0], .slice none 0 0, .int .i64 2]) (by simp [results, Tryz.results7, go_sem]) rfl ?_
  exact unhide RES
 by_cases hl2 : 150 < n
 ·have hC : txC acts = 6 := by unfold txC; rw [if_neg (by rw [unhide L]; exact hl1), if_pos (by rw [unhide L]; exact hl2)]
  have RES := hide (unhide LONG hl2 6 hC)
  clear hC
  go_enter Tryz.func7, Tryz.ntmps7
  go_wp2_with fail
  refine bodyPost_ret (v := .tuple #[.agg #[.int .i64 0, .slice none 0 0, .slice none 0 0, .slice none 0 0], .slice none 0 0, .int .i64 6]) (by simp [results, Tryz.results7, go_sem]) rfl ?_
  exact unhide RES
 have RT := hide (show txC acts = 0 ∧ txV acts = (runV acts).1 ∧ txR acts = (runV acts).2 by
  have h1 : ¬ 4096 < acts.length := by rw [unhide L]; exact hl1
  have h2 : ¬ 150 < acts.length := by rw [unhide L]; exact hl2
  unfold txC txV txR
  rw [if_neg h1, if_neg h2, if_neg h2, if_neg h2]
  exact ⟨rfl, rfl, rfl⟩)
 have R := hide hR
 clear hR LONG
 go_enter Tryz.func7, Tryz.ntmps7
 go_wp2_with fail
 generalize w.alloc (.cells #[.int .i64 0, .slice none 0 0, .slice none 0 0, .slice none 0 0] 29) = W0 at *
 refine (noVersions_vz W0).mono ?_
 rintro e w1 ⟨sc, g, rfl, hO, hb1⟩
 have B1 := b0.trans (hb1.mono b0.size)
 have K1 := (hb1.block w.heap.size ZT).trans K0
 have z1 : w.heap.size < w1.heap.size := Nat.lt_of_lt_of_le ZT hb1.size
 have HL := hide (ledgerOf_any newV ⟨none, 0, 0⟩ ⟨none, 0, 0⟩ ⟨some ⟨g, 0, none⟩, 4, sc⟩ (List.replicate 4 seNil) w1 hO.reads (fun e => by cases e) ⟨Nat.zero_le _, Nat.zero_le _, by show 4 ≤ 1048576; omega, fun i hi => by rw [List.getElem_map, List.getElem_replicate]; exact Nat.zero_le _⟩ (Nat.zero_le _) (fun i hi => by cases hi))
 unfold vzC at HL ⊢
 simp only [show newV.next = 1 from rfl] at HL ⊢
 clear hO hb1 K0 b0
 go_wp2_with fail
 refine (unhide HL).mono ?_
 rintro e w2 ⟨lb, m, N0, h0, f0, s, hs0, rfl, hL, hN0, hX0, hb2⟩
 have G0 := hide (show IrSt w1 w2 lb m N0 h0 f0 s hs0 (runV (acts.take 0)).1 (.slice none 0 0) [] from ⟨hb2, LdAt.lg (d := newV) hL hX0, NOwn.flat (World.ownsRow_nil _ _ _ _) rfl (fun e he => by cases he) (fun e he => by cases he)⟩)
 clear hL hX0 hb2 HL
 go_wp2_with fail
 go_loopw [6, 21] (fun rv iv wr => ∃ (k N : Nat) (h : ByteArray → Value) (f : Sl) (hs : List SeH) (q : Sl) (zs : List ZrH), k ≤ n ∧ N ≤ 4096 + 8 * k ∧ rv = .slice q.a q.n q.c ∧ iv = .int .i64 k ∧ Hid (IrSt w1 wr lb m N h f s hs (runV (acts.take k)).1 (.slice q.a q.n q.c) zs) ∧ Hid (zs.map (·.X) = (runV (acts.take k)).2)) (fun _ iv _ => n - (intOf iv).toNat)
 case atStart => exact ⟨0, N0, h0, f0, hs0, ⟨none, 0, 0⟩, [], Nat.zero_le _, by omega, rfl, rfl, G0, rfl⟩
 case round =>
  clear G0 hN0
  obtain ⟨k, N, h, f, hs, ⟨qa, qn, qc⟩, zs, hk, hNk, rfl, rfl, hS, hX⟩ := hrel
  have hV := hide (runV_ok acts k (by rw [unhide L]; exact hk))
  have bR := B1.trans ((unhide hS).bel.mono (Nat.le_of_lt z1))
  by_cases hlt : k < n
  case neg =>
   obtain rfl : k = n := by omega
   have ht : acts.take k = acts := List.take_of_length_le (by rw [unhide L]; exact Nat.le_refl _)
   rw [ht] at hS hX hV
   have hln := (unhide hS).lg.len
   have HVN := hide (versions_any lb m N h f s hs (runV acts).1 wr (unhide hS).lg.rd (unhide hV).ok (by omega) (by have := (unhide hV).cnt; omega) (by have := (unhide hV).fen; omega) (by have := (unhide hV).ses; omega) (fun x hx => by
    obtain ⟨j, hj, rfl⟩ := List.getElem_of_mem hx
    have h1 := (SeIn.row (unhide hS).lg.vz.so.reads hj).1
    have h2 := (unhide hS).lg.vz.ss
    simp only at h2
    have h3 : hs[j].X ∈ (runV acts).1.ses := by rw [← h2]; exact List.mem_map.2 ⟨hs[j], List.getElem_mem hj, rfl⟩
    have := sesK_ws ((unhide hV).sk _ h3)
    omega))
   clear ht hln
   go_wp2_with fail
   refine (unhide HVN).mono ?_
   rintro e w5 ⟨⟨la2, ln2, lc2⟩, ⟨fa2, fn2, fc2⟩, ⟨sa2, sn2, sc2⟩, hs7, rfl, O7, hb7⟩
   have hwr := (unhide hS).bel.size
   have K5 := (hb7.block w.heap.size (Nat.lt_of_lt_of_le z1 hwr)).trans (((unhide hS).bel.block w.heap.size z1).trans K1)
   have k0 := (heap_at K5 0).1
   have k1 := (heap_at K5 1).1
   have k2 := (heap_at K5 2).1
   have k3 := (heap_at K5 3).1
   have kf0 := (heap_at K5 0).2
   have kf1 := (heap_at K5 1).2
   have kf2 := (heap_at K5 2).2
   have kf3 := (heap_at K5 3).2
   have hw5 : w.heap.size < wr.heap.size := Nat.lt_of_lt_of_le z1 hwr
   have hw := sv4_wr w5 w.heap.size (.int .i64 (runV acts).1.next) (.slice la2 ln2 lc2) (.slice fa2 fn2 fc2) (.slice sa2 sn2 sc2)
   have OT := O7.wr hw (fun i e => by rw [e]; exact hw5)
   have N5 := (unhide hS).rep.below hb7
   have N1 := N5.keep hw (fun i hi e => by have := (N5.lt i hi).1; omega)
   have BB := bel_sv4 (bR.trans (hb7.mono bR.size)) (Nat.le_refl w.heap.size) (.int .i64 (runV acts).1.next) (.slice la2 ln2 lc2) (.slice fa2 fn2 fc2) (.slice sa2 sn2 sc2)
   have RES := hide (show TxRes acts w (.returned (.tuple #[.agg #[.int .i64 (runV acts).1.next, .slice la2 ln2 lc2, .slice fa2 fn2 fc2, .slice sa2 sn2 sc2], .slice qa qn qc, .int .i64 0])) (sv4 w5 w.heap.size (.int .i64 (runV acts).1.next) (.slice la2 ln2 lc2) (.slice fa2 fn2 fc2) (.slice sa2 sn2 sc2)) from ⟨⟨la2, ln2, lc2⟩, ⟨fa2, fn2, fc2⟩, ⟨sa2, sn2, sc2⟩, hs7, ⟨qa, qn, qc⟩, zs, by rw [(unhide RT).1, (unhide RT).2.1], by rw [(unhide RT).2.1]; exact OT.dn (Nat.le_of_lt hw5), N1.down (Nat.le_of_lt z1), by rw [(unhide RT).2.2]; exact unhide hX, BB⟩)
   unfold sv4 at RES
   clear hw OT N5 N1 BB O7 K5 hS hX hV hb7 HVN
   unfold vzC
   simp only
   go_wp2_with fail
   refine bodyPost_ret (v := .tuple #[.agg #[.int .i64 (runV acts).1.next, .slice la2 ln2 lc2, .slice fa2 fn2 fc2, .slice sa2 sn2 sc2], .slice qa qn qc, .int .i64 0]) (by simp [results, Tryz.results7, go_sem, *]) rfl ?_
   exact unhide RES
  have hk2 : k < acts.length := by rw [unhide L]; exact hlt
  obtain ⟨b, off, rfl, d0, d1, d2, d3, d4⟩ := ((unhide R).below bR).2 k hk2
  have RK := hide (runV_take hk2)
  have HZL := hide (show zs.length ≤ 1000 by
   have e := congrArg List.length (unhide hX)
   rw [List.length_map, runV_len, List.length_take] at e
   omega)
  have XN := hide (show ∀ r : Sl, (zs ++ [(⟨(stepV (runV (acts.take k)).1 acts[k]).2, r⟩ : ZrH)]).map (·.X) = (runV (acts.take (k + 1))).2 from fun r => by rw [unhide RK, List.map_append, unhide hX]; rfl)
  have VN := hide (show (runV (acts.take (k + 1))).1 = (stepV (runV (acts.take k)).1 acts[k]).1 by rw [unhide RK])
  generalize hrn : runV (acts.take (k + 1)) = rn at *
  have HRN := hide hrn
  clear hrn
  generalize (runV (acts.take k)).1 = dk at *
  generalize acts[k] = ac at *
  have bx := (Below.refl wr.heap.size wr).alloc (Nat.le_refl _) (.cells #[.int .i64 ac.kind, .int .i64 ac.ses, .string ac.key, .string ac.to, .string ac.val] 37)
  have SX := hide ((unhide hS).below bx)
  have CA := hide (act_any lb w1.heap.size m N k h f s hs dk ac _ (unhide SX).lg (unhide hV) (by omega) (by omega) (unhide SX).bel.size)
  clear bx hS
  generalize stepV dk ac = pp at *
  obtain ⟨xk, xs, xa, xb, xc⟩ := ac
  unfold xv at CA
  simp only at d0 d1 d2 d3 d4 CA SX
  go_wp2_with fail
  refine (unhide CA).mono ?_
  rintro e w3 ⟨N', h', f', hs', ⟨ra, rnn, rc⟩, rfl, hl3, ho3, hw3, hN'⟩
  obtain ⟨⟨q2a, q2n, q2c⟩, w7, hr7, hS7⟩ := (unhide SX).push hl3 ho3 hw3 (unhide HZL)
  have S7 := hide hS7
  simp only at hr7
  clear hS7 hl3 ho3 hw3 CA SX d0 d1 d2 d3 d4
  go_wp2_with (at_builtin; refine wpAppE rfl _ _ 30 rfl _ _ (.slice q2a q2n q2c) w7 rfl rfl hr7 ?_)
  go_roundw
  case rel => exact ⟨k + 1, N', h', f', hs', ⟨q2a, q2n, q2c⟩, _, by omega, by omega, rfl, by go_num, by rw [unhide HRN, unhide VN]; exact S7, by rw [unhide HRN]; exact unhide XN _⟩
  case measure => simp [intOf]; omega
end Go.Proofs.YtdnjgbckkmbmfaaGreat

namespace Go.Proofs.YtdnjgbckkmbmfaaGreat
open Go.RowKit

end Go.Proofs.YtdnjgbckkmbmfaaGreat

namespace Go.Proofs.YtdnjgbckkmbmfaaGreat
open Go.RowKit

end Go.Proofs.YtdnjgbckkmbmfaaGreat

namespace Go.Proofs.YtdnjgbckkmbmfaaGreat
open Go.RowKit

theorem rowC_len {w : World} {a : Option Addr} {n m c : Nat} {cs : List Value} (h : RowC w (.slice a n c) m cs) : n = m := by
 obtain ⟨_, _, e, _⟩ := h
 injection e
theorem erow_C {w : World} {a : Option Addr} {n c : Nat} {es : List EntD} (h : RowC w (.slice a n c) es.length (ecs es)) : ERow w a n es := by
 have hn := rowC_len h
 subst hn
 refine ⟨rfl, fun i hi => ?_⟩
 have e0 := ecs_at0 es i hi
 have e1 := ecs_at1 es i hi
 obtain ⟨b, off, e, q0⟩ := h.at e0
 obtain ⟨b', off', e', q1⟩ := h.at e1
 rw [e] at e'
 cases e'
 exact ⟨b, off, e, q0, by rw [Nat.add_assoc]; exact q1⟩
end Go.Proofs.YtdnjgbckkmbmfaaGreat

namespace Go.Proofs.YtdnjgbckkmbmfaaGreat
open Go.RowKit
end Go.Proofs.YtdnjgbckkmbmfaaGreat

namespace Go.Proofs.YtdnjgbckkmbmfaaGreat
open Go.RowKit

end Go.Proofs.YtdnjgbckkmbmfaaGreat

namespace Go.Proofs.YtdnjgbckkmbmfaaGreat
open Go.RowKit

end Go.Proofs.YtdnjgbckkmbmfaaGreat

namespace Go.Proofs.YtdnjgbckkmbmfaaGreat
open Go.RowKit

end Go.Proofs.YtdnjgbckkmbmfaaGreat

namespace Go.Proofs.YtdnjgbckkmbmfaaGreat
open Go.RowKit

end Go.Proofs.YtdnjgbckkmbmfaaGreat

namespace Go.Proofs.YtdnjgbckkmbmfaaGreat
open Go.RowKit

end Go.Proofs.YtdnjgbckkmbmfaaGreat

namespace Go.Proofs.YtdnjgbckkmbmfaaGreat
open Go.RowKit

end Go.Proofs.YtdnjgbckkmbmfaaGreat

namespace Go.Proofs.YtdnjgbckkmbmfaaGreat
open Go.RowKit

end Go.Proofs.YtdnjgbckkmbmfaaGreat

namespace Go.Proofs.YtdnjgbckkmbmfaaGreat
open Go.RowKit

structure TuRun (w : World) (B : Nat) (l f s : Sl) (hs : List SeH) (d : VsD) (v : Value) (n : Nat) (zs : List ZrH) : Prop where
 vz : VzOwn w B l f s hs d
 zr : NOwn w B 40 4 v n (zs.map zrEl)
theorem step_few {d : VsD} {k : Nat} (h : RunV d k) (hk : k ≤ 150) (a : TxD) : (stepV d a).2.list.length ≤ 200 := by
 have h0 : ∀ c t, (repV c t).list.length ≤ 200 := fun c t => Nat.zero_le _
 have hg : ∀ es x t, (getR es x t).list.length ≤ 200 := fun es x t => by
  unfold getR
  have : ∀ (es : List EntD) (r : RepD), r.list = [] → (es.foldl (fun r e => if e.k = x then ⟨0, t, e.v, []⟩ else r) r).list = [] := fun es => by
   induction es with
   | nil => intro r hr; exact hr
   | cons e es ih =>
    intro r hr
    rw [List.foldl_cons]
    apply ih
    split
    ·rfl
    ·exact hr
  rw [this es _ rfl]
  exact Nat.zero_le _
 unfold stepV
 split
 ·exact h0 _ _
 split
 ·exact h0 _ _
 unfold sesV
 split
 ·split
  ·exact h0 _ _
  split
  ·exact h0 _ _
  ·exact h0 _ _
 split
 ·exact h0 _ _
 split
 ·exact h0 _ _
 unfold inV fenV
 split
 ·split
  ·exact h0 _ _
  ·exact hg _ _ _
 split
 ·split
  ·exact h0 _ _
  ·rename_i hs _ _ _ _ _
   show (List.filter _ _).length ≤ 200
   refine Nat.le_trans (List.length_filter_le _ _) ?_
   rename_i hsz _ _ _ _ _ _
   have hi : a.ses.toNat < d.ses.length := by rw [h.ses]; omega
   have hm : d.ses.getD a.ses.toNat clS ∈ d.ses := by
    rw [List.getD_eq_getElem?_getD, List.getElem?_eq_getElem hi]
    exact List.getElem_mem hi
   have hw := sesK_ws (h.sk _ hm)
   have := seenTo_len d (d.ses.getD a.ses.toNat clS) _ (Nat.le_refl _)
   rw [seenTo_all] at this
   have := h.cnt
   omega
 split
 ·split
  ·exact h0 _ _
  ·exact h0 _ _
 split
 ·split
  ·exact h0 _ _
  ·exact h0 _ _
 ·exact h0 _ _
theorem run_few (acts : List TxD) (hn : acts.length ≤ 150) : ∀ k, k ≤ acts.length → ∀ r ∈ (runV (acts.take k)).2, r.list.length ≤ 200
 | 0, _, r, hr => by cases hr
 | k + 1, h, r, hr => by
  rw [runV_take (by omega)] at hr
  rcases List.mem_append.1 hr with hr | hr
  ·exact run_few acts hn k (by omega) r hr
  ·rw [List.mem_singleton.1 hr]
   exact step_few (runV_ok acts k (by omega)) (by omega) _
theorem tx_con {acts : List TxD} {W W' : World} {e : Ending} (h : TxRes acts W e W') : ∃ (l f s : Sl) (hs : List SeH) (qa : Option Addr) (qc : Nat) (zs : List ZrH), e = .returned (.tuple #[.agg (vzC (txV acts).next l f s), .slice qa (txR acts).length qc, .int .i64 (txC acts)]) ∧ TuRun W' W.heap.size l f s hs (txV acts) (.slice qa (txR acts).length qc) (txR acts).length zs ∧ zs.map (·.X) = txR acts ∧ Below W.heap.size W W' := by
 obtain ⟨l, f, s, hs, ⟨qa, qn, qc⟩, zs, rfl, ho, hz, hx, hb⟩ := h
 have e1 : qn = zs.length := owns_n hz.row
 have e2 : zs.length = (txR acts).length := by rw [← hx, List.length_map]
 subst e1
 simp only at hz ⊢
 unfold ZrOwn at hz
 rw [e2] at hz ⊢
 exact ⟨l, f, s, hs, qa, qc, zs, rfl, ⟨ho, hz⟩, hx, hb⟩
end Go.Proofs.YtdnjgbckkmbmfaaGreat

namespace Go.Proofs.YtdnjgbckkmbmfaaGreat
open Go.RowKit

def ownX (a : TxD) : VerD := ⟨a.key, 0, a.val, decide (a.kind = 5)⟩
def ownS (own : List (List VerD)) (a : TxD) (r : RepD) : List (List VerD) :=
 if ¬ (0 ≤ a.ses ∧ a.ses ≤ 3) then own
 else if a.kind = 1 then (if r.code = 0 then own.set a.ses.toNat [] else own)
 else if a.kind = 4 ∨ a.kind = 5 then (if r.code = 0 then own.set a.ses.toNat (own.getD a.ses.toNat [] ++ [ownX a]) else own)
 else own
def ownRun (acts : List TxD) : Nat → List (List VerD)
 | 0 => [[], [], [], []]
 | i + 1 => if h : i < acts.length then ownS (ownRun acts i) acts[i] (stepV (runV (acts.take i)).1 acts[i]).2 else ownRun acts i
def putW (es : List EntD) (ws : List VerD) : List EntD := ws.foldl (fun es x => putE es ⟨x.k, x.v⟩ x.g) es
theorem putW_snoc (es : List EntD) (ws : List VerD) (x : VerD) : putW es (ws ++ [x]) = putE (putW es ws) ⟨x.k, x.v⟩ x.g := by
 unfold putW
 rw [List.foldl_append]
 rfl
theorem putW_rise : ∀ (ws : List VerD) {es : List EntD}, Rise es → Rise (putW es ws)
 | [], _, h => h
 | x :: r, es, h => putW_rise r (es := putE es ⟨x.k, x.v⟩ x.g) (stepE_rise h _)
theorem putE_look {es : List EntD} (hr : Rise es) (k v : ByteArray) (g : Bool) (o : ByteArray) : lookE (putE es ⟨k, v⟩ g) o = if k = o then (if g = true then none else some v) else lookE es o := by
 unfold putE
 by_cases e : k = o
 ·subst e
  rw [if_pos rfl]
  cases g with
  | true => exact (look_step hr ⟨2, k, v, 0⟩).2 rfl
  | false => exact (look_step hr ⟨1, k, v, 0⟩).1 rfl
 ·rw [if_neg e]
  refine look_other hr _ ?_ (fun h => e h.symm) (fun h => ?_)
  ·cases g
   ·exact .inl rfl
   ·exact .inr (.inl rfl)
  ·cases g with
   | false => exact absurd (show (1 : Int) = 3 from h) (by decide)
   | true => exact absurd (show (2 : Int) = 3 from h) (by decide)
def SameW (ow ws : List VerD) : Prop := ∀ es k, Rise es → lookE (putW es ow) k = lookE (putW es ws) k
theorem ins_find {t : Int} (x : VerD) (hx : x.t = t) (k : ByteArray) : ∀ ws : List VerD, (ws.Pairwise fun a b => ltV a b = true) → (∀ y ∈ ws, y.t = t) → (insV ws x).find? (fun y => decide (y.k = k)) = if x.k = k then some x else ws.find? (fun y => decide (y.k = k))
 | [], _, _ => by
  show [x].find? _ = _
  by_cases e : x.k = k
  ·rw [List.find?_cons_of_pos (by simpa using e), if_pos e]
  ·rw [List.find?_cons_of_neg (by simpa using e), if_neg e]
 | d :: r, h, ht => by
  obtain ⟨h1, h2⟩ := List.pairwise_cons.1 h
  have ih := ins_find x hx k r h2 (fun y hy => ht y (List.mem_cons_of_mem _ hy))
  have dt := ht d (List.mem_cons_self ..)
  rw [insV_cons]
  split
  ·rename_i hl
   have hne : d.k ≠ x.k := ltV_other hl (dt.trans hx.symm)
   by_cases e : d.k = k
   ·rw [List.find?_cons_of_pos (by simpa using e), List.find?_cons_of_pos (by simpa using e), if_neg (fun e2 => hne (e.trans e2.symm))]
   ·rw [List.find?_cons_of_neg (by simpa using e), List.find?_cons_of_neg (by simpa using e), ih]
  ·split
   ·rename_i hs
    have hk := sameV_k hs
    by_cases e : x.k = k
    ·rw [List.find?_cons_of_pos (by simpa using e), if_pos e]
    ·rw [List.find?_cons_of_neg (by simpa using e), if_neg e, List.find?_cons_of_neg (by rw [hk]; simpa using e)]
   ·by_cases e : x.k = k
    ·rw [List.find?_cons_of_pos (by simpa using e), if_pos e]
    ·rw [List.find?_cons_of_neg (by simpa using e), if_neg e]
theorem SameW.put {ow ws : List VerD} (h : SameW ow ws) {t : Int} (hw : wrV ws t = true) (x y : VerD) (hx : x.t = t) (hk : y.k = x.k) (hg : y.g = x.g) (hv : x.g = false → y.v = x.v) : SameW (ow ++ [y]) (insV ws x) := by
 intro es k hr
 obtain ⟨h1, h2⟩ := wr_facts hw
 have hp : (insV ws x).Pairwise fun a b => ltV a b = true := insV_pair x ws h1
 have ht : ∀ z ∈ insV ws x, z.t = t := fun z hz => by
  rcases insV_mem x z ws hz with rfl | hz
  ·exact hx
  ·exact h2 z hz
 rw [putW_snoc, putE_look (putW_rise ow hr), h es k hr]
 have hl := (fold_look k ws es h1 (fun a ha b hb => (h2 a ha).trans (h2 b hb).symm) hr).2
 have hl2 := (fold_look k (insV ws x) es hp (fun a ha b hb => (ht a ha).trans (ht b hb).symm) hr).2
 rw [ins_find x hx k ws h1 h2] at hl2
 unfold putW
 rw [hl, hl2]
 by_cases e : x.k = k
 ·rw [if_pos (hk.trans e), if_pos e]
  simp only
  rw [hg]
  by_cases g : x.g = true
  ·rw [if_pos g, if_pos g]
  ·rw [if_neg g, if_neg g, hv (by simpa using g)]
 ·rw [if_neg (fun e2 => e (hk.symm.trans e2)), if_neg e]
def OwnV (d : VsD) (own : List (List VerD)) : Prop := own.length = 4 ∧ ∀ (i : Nat) (s : SesD), i < 4 → d.ses[i]? = some s → s.o = true → SameW (own.getD i []) s.ws
theorem ownS_no {own : List (List VerD)} {a : TxD} {r : RepD} (h : (a.kind ≠ 1 ∧ ¬ (a.kind = 4 ∨ a.kind = 5)) ∨ r.code ≠ 0) : ownS own a r = own := by
 unfold ownS
 split
 ·rfl
 rcases h with ⟨h1, h2⟩ | h
 ·rw [if_neg h1, if_neg h2]
 ·rw [if_neg h, if_neg h]
  split
  ·rfl
  split <;> rfl
theorem OwnV.same {d d' : VsD} {own : List (List VerD)} (h : OwnV d own) (e : d'.ses = d.ses) : OwnV d' own := ⟨h.1, fun i s hi hs ho => h.2 i s hi (by rw [← e]; exact hs) ho⟩
theorem OwnV.shut {d : VsD} {own : List (List VerD)} (h : OwnV d own) {i : Nat} (nx : Int) (ls : List VerD) (fs : List FenD) : OwnV ⟨nx, ls, fs, d.ses.set i clS⟩ own := by
 refine ⟨h.1, fun j s hj hs ho => ?_⟩
 simp only at hs
 by_cases e : i = j
 ·subst e
  rw [List.getElem?_set] at hs
  rw [if_pos rfl] at hs
  split at hs
  ·injection hs with hs
   rw [← hs] at ho
   cases ho
  ·cases hs
 ·rw [List.getElem?_set_ne e] at hs
  exact h.2 j s hj hs ho
theorem OwnV.set {d : VsD} {own : List (List VerD)} (h : OwnV d own) {i : Nat} (hi : i < 4) (s' : SesD) (ow : List VerD) (hw : SameW ow s'.ws) (nx : Int) (ls : List VerD) (fs : List FenD) : OwnV ⟨nx, ls, fs, d.ses.set i s'⟩ (own.set i ow) := by
 refine ⟨by rw [List.length_set]; exact h.1, fun j s hj hs ho => ?_⟩
 simp only at hs
 rw [List.getD_eq_getElem?_getD]
 by_cases e : i = j
 ·subst e
  rw [List.getElem?_set] at hs
  rw [if_pos rfl] at hs
  split at hs
  ·injection hs with hs
   subst hs
   rw [List.getElem?_set_self (by rw [h.1]; exact hi)]
   exact hw
  ·cases hs
 ·rw [List.getElem?_set_ne e] at hs ⊢
  rw [← List.getD_eq_getElem?_getD]
  exact h.2 j s hj hs ho
theorem OwnV.step {d : VsD} {k : Nat} {own : List (List VerD)} (h : OwnV d own) (r : RunV d k) (a : TxD) : OwnV (stepV d a).1 (ownS own a (stepV d a).2) := by
 unfold stepV
 split
 ·rename_i hk
  rw [ownS_no (.inl ⟨by omega, by omega⟩)]
  exact h
 split
 ·rename_i hs
  unfold ownS
  rw [if_pos hs]
  exact h
 rename_i hk hs
 have hs' : 0 ≤ a.ses ∧ a.ses ≤ 3 := Classical.not_not.1 hs
 obtain ⟨i, hi⟩ : ∃ i : Nat, a.ses.toNat = i := ⟨_, rfl⟩
 have hi4 : i < 4 := by omega
 rw [hi]
 have hx := ses_at r hi4
 generalize d.ses.getD i clS = s at hx
 unfold sesV
 split
 ·rename_i h1
  split
  ·rw [ownS_no (.inr (by show (8 : Int) ≠ 0; decide))]; exact h
  split
  ·rw [ownS_no (.inr (by show (7 : Int) ≠ 0; decide))]; exact h
  ·have e : ownS own a (repV 0 d.next) = own.set i [] := by
    unfold ownS
    rw [if_neg (fun hh => hh hs'), if_pos h1, if_pos (show (repV 0 d.next).code = 0 from rfl), hi]
   show OwnV _ (ownS own a (repV 0 d.next))
   rw [e]
   exact h.set hi4 ⟨true, d.next, []⟩ [] (fun es k _ => rfl) _ _ _
 rename_i h1
 split
 ·rw [ownS_no (.inr (by show (10 : Int) ≠ 0; decide))]; exact h
 rename_i ho
 have ho' : s.o = true := by simpa using ho
 split
 ·rw [ownS_no (.inr (by show (11 : Int) ≠ 0; decide))]; exact h
 unfold inV
 split
 ·rename_i h2
  rw [ownS_no (.inl ⟨by omega, by omega⟩)]
  unfold fenV
  split
  ·exact h
  ·exact h.same rfl
 split
 ·rename_i h3
  rw [ownS_no (.inl ⟨by omega, by omega⟩)]
  unfold fenV
  split
  ·exact h
  ·exact h.same rfl
 split
 ·rename_i h45
  split
  ·rw [ownS_no (.inr (by show (7 : Int) ≠ 0; decide))]; exact h
  ·have e : ownS own a (repV 0 s.t) = own.set i (own.getD i [] ++ [ownX a]) := by
    unfold ownS
    rw [if_neg (fun hh => hh hs'), if_neg h1, if_pos h45, if_pos (show (repV 0 s.t).code = 0 from rfl), hi]
   show OwnV _ (ownS own a (repV 0 s.t))
   rw [e]
   have hw := (sesK_open (ses_ok r hx) ho').2.2
   refine h.set hi4 ⟨s.o, s.t, insV s.ws (wrA a s.t)⟩ _ ((h.2 i s hi4 hx ho').put hw (wrA a s.t) (ownX a) ?_ ?_ ?_ ?_) _ _ _
   ·unfold wrA; split <;> rfl
   ·unfold wrA ownX; split <;> rfl
   ·unfold wrA ownX
    split
    ·rename_i h5; simp [h5]
    ·rename_i h5; simp [h5]
   ·unfold wrA ownX
    split
    ·intro hh; cases hh
    ·intro _; rfl
 rename_i h2 h3 h45
 rw [ownS_no (.inl ⟨h1, h45⟩)]
 split
 ·split
  ·exact h.shut _ _ _
  ·exact h.shut _ _ _
 ·exact h.shut _ _ _
theorem own_run (acts : List TxD) : ∀ k, k ≤ acts.length → OwnV (runV (acts.take k)).1 (ownRun acts k)
 | 0, _ => by
  rw [List.take_zero]
  refine ⟨rfl, fun i s hi hs ho => ?_⟩
  have hm : s ∈ List.replicate 4 clS := List.mem_of_getElem? hs
  rw [List.eq_of_mem_replicate hm] at ho
  cases ho
 | k + 1, h => by
  rw [runV_take (by omega)]
  have : ownRun acts (k + 1) = ownS (ownRun acts k) (acts[k]'(by omega)) (stepV (runV (acts.take k)).1 (acts[k]'(by omega))).2 := by
   show (if h : k < acts.length then _ else _) = _
   rw [dif_pos (by omega)]
  rw [this]
  exact (own_run acts k (by omega)).step (runV_ok acts k (by omega)) _
theorem ltK_nul (k : ByteArray) : ltK k (nulK k) = true := by
 unfold ltK nulK
 have e : (k ++ ⟨#[0]⟩ : ByteArray).toList = k.toList ++ [0] := by rw [ByteArray.toList_eq, ByteArray.toList_eq, ByteArray.data_append, Array.toList_append]
 rw [e]
 generalize k.toList = l
 induction l with
 | nil => rfl
 | cons c r ih =>
  show (decide (c < c) || (c == c && Op.bytesLess r (r ++ [0]))) = true
  rw [ih]
  simp
theorem inK_nul (k : ByteArray) : inK k (nulK k) k = true := by
 unfold inK
 rw [ltK_irr, ltK_nul]
 simp
theorem entE_rise {ds : List VerD} (ok : okVs ds = true) (t : Int) : Rise ((entsAt ds t).map kvE) := by rw [ents_seen]; exact seenE_rise _ (dk_rise ok _ (Nat.le_refl _))
theorem seen_cases {d : VsD} {k : Nat} (r : RunV d k) (hk : k < 4096) (a : TxD) (h : a.kind = 2 ∨ a.kind = 3) (hc : (stepV d a).2.code = 0 ∨ (stepV d a).2.code = 5) (hs : 0 ≤ a.ses ∧ a.ses ≤ 3) :
  ∃ s, d.ses[a.ses.toNat]? = some s ∧ s.o = true ∧ (stepV d a).2.time = s.t ∧
   ((a.kind = 2 ∧ (stepV d a).2 = getR (seenV d s) a.key s.t ∧ ⟨a.key, nulK a.key, s.t⟩ ∈ (stepV d a).1.fen) ∨
    (a.kind = 3 ∧ (stepV d a).2 = ⟨0, s.t, ⟨#[]⟩, (seenV d s).filter (fun e => inK a.key a.to e.k)⟩ ∧ ⟨a.key, a.to, s.t⟩ ∈ (stepV d a).1.fen)) ∧ (stepV d a).1.list = d.list := by
 have hi4 : a.ses.toNat < 4 := by omega
 have hx := ses_at r hi4
 have hf4 : ¬ d.fen.length = 4096 := by have := r.fen; omega
 unfold stepV at hc ⊢
 rw [if_neg (by omega), if_neg (fun hh => hh hs)] at hc ⊢
 generalize d.ses.getD a.ses.toNat clS = s at hx hc ⊢
 unfold sesV at hc ⊢
 rw [if_neg (by omega)] at hc ⊢
 by_cases ho : s.o = false
 ·rw [if_pos ho] at hc
  rcases hc with hc | hc <;> exact absurd hc (by show (10 : Int) ≠ _; decide)
 rw [if_neg ho] at hc ⊢
 by_cases hf : fitA a = false
 ·rw [if_pos hf] at hc
  rcases hc with hc | hc <;> exact absurd hc (by show (11 : Int) ≠ _; decide)
 rw [if_neg hf]
 have ho' : s.o = true := by simpa using ho
 have hw := (sesK_open (ses_ok r hx) ho').2.2
 unfold inV fenV
 rcases h with h2 | h3
 ·rw [if_pos h2, if_neg hf4]
  refine ⟨s, hx, ho', ?_, .inl ⟨h2, rfl, List.mem_append_right _ (List.mem_singleton.2 rfl)⟩, rfl⟩
  show (getR (seenV d s) a.key s.t).time = s.t
  unfold getR
  rw [getR_look a.key s.t _ _ (seen_rise r.ok hw)]
  cases lookE (seenV d s) a.key <;> rfl
 ·rw [if_neg (by omega), if_pos h3, if_neg hf4]
  exact ⟨s, hx, ho', rfl, .inr ⟨h3, rfl, List.mem_append_right _ (List.mem_singleton.2 rfl)⟩, rfl⟩
theorem serial_at (acts : List TxD) (hn : acts.length ≤ 150) {i : Nat} (hi : i < acts.length) (h : acts[i].kind = 2 ∨ acts[i].kind = 3) (hs : 0 ≤ acts[i].ses ∧ acts[i].ses ≤ 3) {r : RepD} (hr : r = (stepV (runV (acts.take i)).1 acts[i]).2) (hc : r.code = 0 ∨ r.code = 5) {L : List EntD} (hL : L = putW ((entsAt (runV acts).1.list (r.time - 1)).map kvE) ((ownRun acts i).getD acts[i].ses.toNat [])) :
  1 ≤ r.time ∧ r.time ≤ 1000 ∧ Rise L ∧ (acts[i].kind = 2 → (match lookE L acts[i].key with | some v => r.code = 0 ∧ r.val = v | none => r.code = 5 ∧ r.val = ⟨#[]⟩)) ∧ (acts[i].kind = 3 → r.code = 0 ∧ r.list = L.filter (fun e => inK acts[i].key acts[i].to e.k)) := by
 have hR := runV_ok acts i (by omega)
 have hF := runV_ok acts acts.length (Nat.le_refl _)
 rw [List.take_length] at hF
 have hT := tim_run acts i (by omega)
 have hO := own_run acts i (by omega)
 have hi4 : acts[i].ses.toNat < 4 := by omega
 rw [hr] at hc
 obtain ⟨s, hx, ho, ht, hcase, hlist⟩ := seen_cases hR (by omega) acts[i] h hc hs
 have hso := sesK_open (ses_ok hR hx) ho
 have hw := hso.2.2
 rw [← hr] at ht
 rw [ht] at hL
 have hnx := hR.nx
 have look : ∀ f : FenD, f.t = s.t → f ∈ (stepV (runV (acts.take i)).1 acts[i]).1.fen → ∀ x, inK f.f f.u x = true → lookE L x = lookE (seenV (runV (acts.take i)).1 s) x := by
  intro f hft hf x hxk
  have e1 := runV_take (acts := acts) (k := i) hi
  have hm := fence_run acts (f := f) hxk (i := i + 1) (acts.length - (i + 1)) (by omega) (by rw [e1]; exact hf)
  rw [show i + 1 + (acts.length - (i + 1)) = acts.length by omega, List.take_length, e1] at hm
  have hg := hm.2
  simp only at hg
  rw [hlist, hft] at hg
  have hup : (runV (acts.take i)).1.list.filter (fun y => upTo x (s.t - 1) y.k y.t) = (runV (acts.take i)).1.list.filter (fun y => upTo x s.t y.k y.t) := by
   refine List.filter_congr fun y hy => ?_
   have := hT.v _ s hx ho y hy
   unfold upTo
   congr 1
   rw [decide_eq_decide]
   omega
  have hv : verAt (runV acts).1.list x (s.t - 1) = verAt (runV (acts.take i)).1.list x s.t := by
   rw [verAt_up, verAt_up, hg, hup]
  rw [hL, hO.2 _ s hi4 hx ho _ x (entE_rise hF.ok _)]
  obtain ⟨h1, h2⟩ := wr_facts hw
  have same : ∀ a ∈ s.ws, ∀ b ∈ s.ws, a.t = b.t := fun a ha b hb => (h2 a ha).trans (h2 b hb).symm
  have l1 := (fold_look x s.ws _ h1 same (entE_rise hF.ok (s.t - 1))).2
  have l2 := (fold_look x s.ws _ h1 same (entE_rise hR.ok s.t)).2
  unfold putW seenV
  rw [l1, l2, ents_look hF.ok, ents_look hR.ok, hv]
 have hrise : Rise L := by rw [hL]; exact putW_rise _ (entE_rise hF.ok _)
 refine ⟨by omega, by omega, hrise, fun h2 => ?_, fun h3 => ?_⟩
 ·rcases hcase with ⟨-, he, hf⟩ | ⟨h3, -, -⟩
  ·rw [look _ rfl hf _ (inK_nul _)]
   rw [← hr] at he
   rw [he]
   unfold getR
   rw [getR_look _ _ _ _ (seen_rise hR.ok hw)]
   cases lookE (seenV (runV (acts.take i)).1 s) acts[i].key with
   | none => exact ⟨rfl, rfl⟩
   | some v => exact ⟨rfl, rfl⟩
  ·omega
 ·rcases hcase with ⟨h2, -, -⟩ | ⟨-, he, hf⟩
  ·omega
  ·rw [← hr] at he
   rw [he]
   refine ⟨rfl, ?_⟩
   refine rise_ext ((seen_rise hR.ok hw).filter _) (hrise.filter _) fun x => ?_
   rw [filter_look (inK acts[i].key acts[i].to), filter_look (inK acts[i].key acts[i].to)]
   by_cases hp : inK acts[i].key acts[i].to x = true
   ·rw [if_pos hp, if_pos hp, look _ rfl hf x hp]
   ·rw [if_neg hp, if_neg hp]
end Go.Proofs.YtdnjgbckkmbmfaaGreat

namespace Go.Proofs.YtdnjgbckkmbmfaaGreat
open Go.RowKit

structure OwH where
 X : List VerD
 s0 : Sl
def owEl (h : OwH) : El := ⟨[.slice h.s0.a h.s0.n h.s0.c], [⟨43, 4, h.X.length, .slice h.s0.a h.s0.n h.s0.c, vcs h.X⟩]⟩
abbrev OwOwn (w : World) (B : Nat) (v : Value) (n : Nat) (hs : List OwH) : Prop := NOwn w B 25 1 v n (hs.map owEl)
theorem owEl_at {hs : List OwH} {k : Nat} (hk : k < hs.length) : (hs.map owEl)[k]? = some (owEl hs[k]) := by rw [List.getElem?_map, List.getElem?_eq_getElem hk]; rfl
theorem own_new (w : World) : ∃ hs : List OwH, hs.map (·.X) = [[], [], [], []] ∧ hs.length = 4 ∧ OwOwn (((((w.alloc (.cells #[] 43)).alloc (.cells #[] 43)).alloc (.cells #[] 43)).alloc (.cells #[] 43)).alloc (.cells #[.slice (some ⟨w.heap.size, 0, none⟩) 0 0, .slice (some ⟨w.heap.size + 1, 0, none⟩) 0 0, .slice (some ⟨w.heap.size + 1 + 1, 0, none⟩) 0 0, .slice (some ⟨w.heap.size + 1 + 1 + 1, 0, none⟩) 0 0] 25)) w.heap.size (.slice (some ⟨w.heap.size + 1 + 1 + 1 + 1, 0, none⟩) 4 4) 4 hs := by
 refine ⟨[⟨[], ⟨some ⟨w.heap.size, 0, none⟩, 0, 0⟩⟩, ⟨[], ⟨some ⟨w.heap.size + 1, 0, none⟩, 0, 0⟩⟩, ⟨[], ⟨some ⟨w.heap.size + 1 + 1, 0, none⟩, 0, 0⟩⟩, ⟨[], ⟨some ⟨w.heap.size + 1 + 1 + 1, 0, none⟩, 0, 0⟩⟩], rfl, rfl, ?_⟩
 generalize hW0 : w.alloc (.cells #[] 43) = W0
 generalize hW1 : W0.alloc (.cells #[] 43) = W1
 generalize hW2 : W1.alloc (.cells #[] 43) = W2
 generalize hW3 : W2.alloc (.cells #[] 43) = W3
 have z0 : W0.heap.size = w.heap.size + 1 := by rw [← hW0]; simp
 have z1 : W1.heap.size = w.heap.size + 1 + 1 := by rw [← hW1]; simp [z0]
 have z2 : W2.heap.size = w.heap.size + 1 + 1 + 1 := by rw [← hW2]; simp [z1]
 have z3 : W3.heap.size = w.heap.size + 1 + 1 + 1 + 1 := by rw [← hW3]; simp [z2]
 have o0 := nil_lit (w := w) 43 4
 have o1 := nil_lit (w := W0) 43 4
 have o2 := nil_lit (w := W1) 43 4
 have o3 := nil_lit (w := W2) 43 4
 rw [hW0] at o0
 rw [hW1, z0] at o1
 rw [hW2, z1] at o2
 rw [hW3, z2] at o3
 have b1 : Below W0.heap.size W0 W1 := by rw [← hW1]; exact (Below.refl _ _).alloc (Nat.le_refl _) _
 have b2 : Below W1.heap.size W1 W2 := by rw [← hW2]; exact (Below.refl _ _).alloc (Nat.le_refl _) _
 have b3 : Below W2.heap.size W2 W3 := by rw [← hW3]; exact (Below.refl _ _).alloc (Nat.le_refl _) _
 have b4 : Below W3.heap.size W3 (W3.alloc (.cells #[.slice (some ⟨w.heap.size, 0, none⟩) 0 0, .slice (some ⟨w.heap.size + 1, 0, none⟩) 0 0, .slice (some ⟨w.heap.size + 1 + 1, 0, none⟩) 0 0, .slice (some ⟨w.heap.size + 1 + 1 + 1, 0, none⟩) 0 0] 25)) := (Below.refl _ _).alloc (Nat.le_refl _) _
 have p0 := gd_base (rb_ownsRow_below (rb_ownsRow_below (rb_ownsRow_below (rb_ownsRow_below o0 b1) b2) b3) b4) (C := w.heap.size) (by omega)
 have p1 := gd_base (rb_ownsRow_below (rb_ownsRow_below (rb_ownsRow_below o1 b2) b3) b4) (C := w.heap.size) (by omega)
 have p2 := gd_base (rb_ownsRow_below (rb_ownsRow_below o2 b3) b4) (C := w.heap.size) (by omega)
 have p3 := gd_base (rb_ownsRow_below o3 b4) (C := w.heap.size) (by omega)
 have pr := World.ownsRow_lit (base := w.heap.size) (e := 25) (size := 1) W3 #[.slice (some ⟨w.heap.size, 0, none⟩) 0 0, .slice (some ⟨w.heap.size + 1, 0, none⟩) 0 0, .slice (some ⟨w.heap.size + 1 + 1, 0, none⟩) 0 0, .slice (some ⟨w.heap.size + 1 + 1 + 1, 0, none⟩) 0 0] 4 (by omega) (by unfold maxLen; omega) (by simp)
 rw [z3] at pr
 have hm : ∀ {k a x}, sbAt (([⟨[], ⟨some ⟨w.heap.size, 0, none⟩, 0, 0⟩⟩, ⟨[], ⟨some ⟨w.heap.size + 1, 0, none⟩, 0, 0⟩⟩, ⟨[], ⟨some ⟨w.heap.size + 1 + 1, 0, none⟩, 0, 0⟩⟩, ⟨[], ⟨some ⟨w.heap.size + 1 + 1 + 1, 0, none⟩, 0, 0⟩⟩] : List OwH).map owEl) k a = some x → k < 4 ∧ a = 0 ∧ x = ⟨43, 4, 0, .slice (some ⟨w.heap.size + k, 0, none⟩) 0 0, []⟩ := fun {k a x} hx => by
  unfold sbAt at hx
  match k, hx with
  | 0, hx => match a, hx with
   | 0, hx => exact ⟨by omega, rfl, by simp [owEl, vcs] at hx; rw [← hx]; rfl⟩
   | a + 1, hx => simp [owEl] at hx
  | 1, hx => match a, hx with
   | 0, hx => exact ⟨by omega, rfl, by simp [owEl, vcs] at hx; rw [← hx]⟩
   | a + 1, hx => simp [owEl] at hx
  | 2, hx => match a, hx with
   | 0, hx => exact ⟨by omega, rfl, by simp [owEl, vcs] at hx; rw [← hx]⟩
   | a + 1, hx => simp [owEl] at hx
  | 3, hx => match a, hx with
   | 0, hx => exact ⟨by omega, rfl, by simp [owEl, vcs] at hx; rw [← hx]⟩
   | a + 1, hx => simp [owEl] at hx
  | k + 4, hx => simp at hx
 refine ⟨pr, rfl, fun e he => ?_, fun k a x hx => ?_, fun i j a b x y hx hy hne g hg hg2 => ?_, fun i a x hx g hg hg2 => ?_⟩
 ·obtain ⟨y, _, rfl⟩ := List.mem_map.1 he
  rfl
 ·obtain ⟨hk, _, rfl⟩ := hm hx
  match k, hk with
  | 0, _ => exact p0
  | 1, _ => exact p1
  | 2, _ => exact p2
  | 3, _ => exact p3
 ·obtain ⟨hk, ha, rfl⟩ := hm hx
  obtain ⟨hk2, hb, rfl⟩ := hm hy
  simp [Value.ownBlock] at hg hg2
  omega
 ·obtain ⟨hk, ha, rfl⟩ := hm hx
  simp [Value.ownBlock] at hg hg2
  omega
theorem OwOwn.at {w : World} {B g n c : Nat} {hs : List OwH} (h : OwOwn w B (.slice (some ⟨g, 0, none⟩) n c) n hs) {i : Nat} (hi : i < hs.length) : w.cell? ⟨g, i, none⟩ = some (.slice hs[i].s0.a hs[i].s0.n hs[i].s0.c) ∧ VOwns w B (.slice hs[i].s0.a hs[i].s0.n hs[i].s0.c) hs[i].X := by
 refine ⟨?_, h.dat i 0 _ (by unfold sbAt; rw [owEl_at hi]; rfl)⟩
 have := h.cell (i := i) (j := 0) (owEl_at hi) rfl
 rw [Nat.mul_one, Nat.add_zero] at this
 exact this
theorem OwOwn.put {w : World} {B g c : Nat} {hs : List OwH} {n : Nat} (h : OwOwn w B (.slice (some ⟨g, 0, none⟩) n c) n hs) {i : Nat} (hi : i < hs.length) (x : OwH) (ho : VOwns w B (.slice x.s0.a x.s0.n x.s0.c) x.X) (hap : ∀ b, (Value.slice x.s0.a x.s0.n x.s0.c).ownBlock = some b → ¬ NBl (.slice (some ⟨g, 0, none⟩) n c) (hs.map owEl) b) :
  OwOwn (w.setCell ⟨g, i, none⟩ (.slice x.s0.a x.s0.n x.s0.c)) B (.slice (some ⟨g, 0, none⟩) n c) n (hs.set i x) ∧ WrB (fun k => k = g) w (w.setCell ⟨g, i, none⟩ (.slice x.s0.a x.s0.n x.s0.c)) := by
 have hil : i < (hs.map owEl).length := by rw [List.length_map]; exact hi
 have h1 := h.addAp (xs := [(⟨43, 4, x.X.length, .slice x.s0.a x.s0.n x.s0.c, vcs x.X⟩ : Sb)]) (owEl_at hi) (fun y hy => by rw [List.mem_singleton.1 hy]; exact ho) (fun y hy b hb => by rw [List.mem_singleton.1 hy] at hb; exact hap b hb) (by
  intro a b y z hy hz hne g' h1 h2
  match a, b, hy, hz, hne with
  | 0, 0, _, _, h => exact absurd rfl h
  | a + 1, _, hy, _, _ => cases hy
  | 0, b + 1, _, hz, _ => cases hz)
 have h2 := h1.setHd (j := 0) (List.getElem?_set_self hil) (by decide) (.slice x.s0.a x.s0.n x.s0.c)
 rw [List.set_set, Nat.mul_one, Nat.add_zero] at h2
 refine ⟨?_, h2.2⟩
 unfold OwOwn
 rw [List.map_set]
 exact h2.1
theorem OwOwn.app {w : World} {B g c : Nat} {hs : List OwH} {n : Nat} (h : OwOwn w B (.slice (some ⟨g, 0, none⟩) n c) n hs) (hB : B ≤ w.heap.size) {i : Nat} (hi : i < hs.length) (d : VerD) (hz : hs[i].X.length ≤ 1000) :
  ∃ (s' : Sl) (w1 : World), (Builtin.append_ #[25, 25] 25 #[.slice hs[i].s0.a hs[i].s0.n hs[i].s0.c, .slice (some ⟨w.heap.size, 0, none⟩) 1 1]).run Tryz.prog (w.alloc (.cells #[.string d.k, .int .i64 d.t, .string d.v, .bool d.g] 43)) = .ok (.slice s'.a s'.n s'.c) w1 ∧ OwOwn (w1.setCell ⟨g, i, none⟩ (.slice s'.a s'.n s'.c)) B (.slice (some ⟨g, 0, none⟩) n c) n (hs.set i ⟨hs[i].X ++ [d], s'⟩) ∧ Below B w w1 ∧ Below B w (w1.setCell ⟨g, i, none⟩ (.slice s'.a s'.n s'.c)) ∧ w1.cell? ⟨g, i, none⟩ = some (.slice hs[i].s0.a hs[i].s0.n hs[i].s0.c) ∧ w1.frozen? ⟨g, i, none⟩ = false ∧ ∀ (b : Nat) (cs : Array Value) (t : TypeId), w.heap[b]? = some (.cells cs t (0, 0)) → 43 ≠ t → w1.heap[b]? = some (.cells cs t (0, 0)) := by
 have hB0 : B ≤ g := (h.row.lt g rfl).1
 obtain ⟨hc, hv⟩ := h.at hi
 obtain ⟨v', w1, hrun, ho, hg, hloc⟩ := hm_app (d := d) hv (by omega) hB
 obtain ⟨s', rfl, -⟩ := v_slice ho
 have bA : Below w.heap.size w (w.alloc (.cells #[.string d.k, .int .i64 d.t, .string d.v, .bool d.g] 43)) := (Below.refl _ _).alloc (Nat.le_refl _) _
 have hA := h.below bA
 have hgw : WrB (fun k => (Value.slice hs[i].s0.a hs[i].s0.n hs[i].s0.c).ownBlock = some k) (w.alloc (.cells #[.string d.k, .int .i64 d.t, .string d.v, .bool d.g] 43)) w1 := WrB.of_grown hg
 have hloc2 : (Value.slice s'.a s'.n s'.c).ownBlock = (Value.slice hs[i].s0.a hs[i].s0.n hs[i].s0.c).ownBlock ∨ ∃ f, (w.alloc (.cells #[.string d.k, .int .i64 d.t, .string d.v, .bool d.g] 43)).heap.size ≤ f ∧ (Value.slice s'.a s'.n s'.c).ownBlock = some f := by
  rcases hloc with e | e
  ·exact .inl e
  ·exact .inr ⟨_, by simp, e⟩
 have h1 := hA.appSb (i := i) (a := 0) (x' := ⟨43, 4, (hs[i].X ++ [d]).length, .slice s'.a s'.n s'.c, vcs (hs[i].X ++ [d])⟩) (owEl_at hi) rfl hloc2 ho hgw
 have hil : i < (hs.map owEl).length := by rw [List.length_map]; exact hi
 have h2 := h1.setHd (j := 0) (List.getElem?_set_self hil) (by decide) (.slice s'.a s'.n s'.c)
 rw [List.set_set, Nat.mul_one, Nat.add_zero] at h2
 have bw1 : Below B w w1 := (bA.mono hB).trans (WrB.below hgw (fun k hk => (hv.lt k hk).1) (Nat.le_trans hB bA.size))
 have hcell := h1.cell (i := i) (j := 0) (List.getElem?_set_self hil) rfl
 rw [Nat.mul_one, Nat.add_zero] at hcell
 refine ⟨s', w1, hrun, ?_, bw1, bw1.trans (WrB.below h2.2 (fun k hk => by rw [hk]; exact hB0) (Nat.le_trans hB bw1.size)), hcell, ?_, fun b cs t hb ht => ?_⟩
 ·unfold OwOwn
  rw [List.map_set]
  exact h2.1
 ·exact h1.free i
 ·have hlt := blk_lt hb
  exact (hgw.block b (Nat.lt_of_lt_of_le hlt bA.size) (own_box hv hb ht)).trans ((bA.block b hlt).trans hb)
end Go.Proofs.YtdnjgbckkmbmfaaGreat
