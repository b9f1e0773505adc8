/-
  TxI5, TxI6, TxI7, TxJ, TxM in one.
-/
import Derived.Test.YtdnjgbckkmbmfaaGreatLsAll5
set_option maxRecDepth 100000
namespace Go.Proofs.YtdnjgbckkmbmfaaGreat
open Go.RowKit

set_option maxHeartbeats 8000000 in
theorem l06Step_5 (d : VsD) (i : Nat) (key tu val : ByteArray) (l f s : Sl) (hs : List SeH) (w : World) (hI : VzIn w l f s hs d) (hS : SmV d) (hi : i < 4) :
  Calls Tryz.prog 36 #[.agg (vzC d.next l f s), .agg #[.int .i64 5, .int .i64 (i : Int), .string key, .string tu, .string val]] w fun e w' => StRes l f s hs d (stepV d ⟨5, (i : Int), key, tu, val⟩) w e w' := by
 have hz := allocC_size [(vzC d.next l f s, 29), (#[.int .i64 5, .int .i64 (i : Int), .string key, .string tu, .string val], 37), (#[.int .i64 0, .slice none 0 0, .slice none 0 0, .slice none 0 0], 29), (#[.int .i64 0, .int .i64 0, .string ⟨#[]⟩, .slice none 0 0], 40)] w
 have b1 := allocC_bel [(vzC d.next l f s, 29), (#[.int .i64 5, .int .i64 (i : Int), .string key, .string tu, .string val], 37), (#[.int .i64 0, .slice none 0 0, .slice none 0 0, .slice none 0 0], 29), (#[.int .i64 0, .int .i64 0, .string ⟨#[]⟩, .slice none 0 0], 40)] w
 have AT := allocC_at [(vzC d.next l f s, 29), (#[.int .i64 5, .int .i64 (i : Int), .string key, .string tu, .string val], 37), (#[.int .i64 0, .slice none 0 0, .slice none 0 0, .slice none 0 0], 29), (#[.int .i64 0, .int .i64 0, .string ⟨#[]⟩, .slice none 0 0], 40)] w
 obtain ⟨W, hW⟩ : ∃ W, W = allocC w [(vzC d.next l f s, 29), (#[.int .i64 5, .int .i64 (i : Int), .string key, .string tu, .string val], 37), (#[.int .i64 0, .slice none 0 0, .slice none 0 0, .slice none 0 0], 29), (#[.int .i64 0, .int .i64 0, .string ⟨#[]⟩, .slice none 0 0], 40)] := ⟨_, rfl⟩
 rw [← hW] at hz b1 AT
 simp only [List.length_cons, List.length_nil] at hz
 have k0 : W.heap[w.heap.size]? = some (.cells (vzC d.next l f s) 29 (0, 0)) := AT 0 _ _ rfl
 have k1 : W.heap[w.heap.size + 1]? = some (.cells #[.int .i64 5, .int .i64 (i : Int), .string key, .string tu, .string val] 37 (0, 0)) := AT 1 _ _ rfl
 have k2 : W.heap[w.heap.size + 1 + 1]? = some (.cells #[.int .i64 0, .slice none 0 0, .slice none 0 0, .slice none 0 0] 29 (0, 0)) := AT 2 _ _ rfl
 have k3 : W.heap[w.heap.size + 1 + 1 + 1]? = some (.cells #[.int .i64 0, .int .i64 0, .string ⟨#[]⟩, .slice none 0 0] 40 (0, 0)) := AT 3 _ _ rfl
 have hz0 : w.heap.size < W.heap.size := by omega
 have hz1 : w.heap.size + 1 < W.heap.size := by omega
 have hz2 : w.heap.size + 1 + 1 < W.heap.size := by omega
 have hz3 : w.heap.size + 1 + 1 + 1 < W.heap.size := by omega
 unfold allocC allocC allocC allocC allocC at hW
 have CO := hide (l06Own_any d l f s hs W (hI.below b1) (by have := hI.vr.1; have := hS.list; omega) (by have := hI.fr.1; have := hS.fen; omega) (by have := hI.len; have := hS.ses; omega) (fun h hh => by
  obtain ⟨k, hk, rfl⟩ := List.getElem_of_mem hh
  obtain ⟨hd, he⟩ := hI.at hk
  have h1 := (SeIn.row hI.sr hk).1
  have h2 := hS.ws d.ses[k] (List.getElem_mem hd)
  rw [← he] at h2
  omega))
 have BH := hide b1
 have HI := hide hI
 have HS := hide hS
 obtain ⟨la, ln, lc⟩ := l
 obtain ⟨fa, fn, fc⟩ := f
 obtain ⟨sa, sn, sc⟩ := s
 unfold vzC at k0 hW CO ⊢
 simp only at k0 hW CO ⊢
 have K0 := hide k0
 have K1 := hide k1
 have K2 := hide k2
 have K3 := hide k3
 have hnx := hS.nx
 have hi0 : decide ((0 : Int) ≤ (i : Int)) = true := decide_eq_true (by omega)
 have hi3 : decide ((i : Int) ≤ 3) = true := decide_eq_true (by omega)
 have a0 := (heap_at k1 0).1
 have a1 := (heap_at k1 1).1
 have v0 := (heap_at k0 0).1
 have v1 := (heap_at k0 1).1
 have v2 := (heap_at k0 2).1
 have v3 := (heap_at k0 3).1
 clear hI hS hz b1 AT k0 k1 k2 k3
 go_enter Tryz.func36, Tryz.ntmps36
 go_wp2_with (go_at_call 75; refine (l01In_any _ _ _ _).mono ?_; rintro e w9 ⟨rfl, rfl⟩)
 rw [← hW]
 clear hW
 refine (unhide CO).mono ?_
 rintro e w1 ⟨⟨la1, ln1, lc1⟩, ⟨fa1, fn1, fc1⟩, ⟨sa1, sn1, sc1⟩, hs1, rfl, hO, hb1⟩
 clear a0 a1 v0 v1 v2 v3 hi0 hi3 CO
 have hl4 : hs1.length = 4 := by rw [hO.reads.len.2]; exact (unhide HS).ses
 have hih : i < hs1.length := by omega
 obtain ⟨g, hsa, hsn, hgB, hgw, c0, c1, c2, hwo, hid, hxd⟩ := hO.sesAt hih
 simp only at hsa hsn
 rw [hl4] at hsn
 subst hsa hsn
 unfold vzC
 simp only
 have STP := hide (show stepV d ⟨5, (i : Int), key, tu, val⟩ = sesV d ⟨5, (i : Int), key, tu, val⟩ i hs1[i].X by
  unfold stepV
  rw [if_neg (by simp), if_neg (by simp only; omega), hxd]
  congr 1
  rw [show ((i : Nat) : Int).toNat = i by omega, List.getD_eq_getElem?_getD, List.getElem?_eq_getElem hid]
  rfl)
 have XL := hide (show hs1[i].X.ws.length ≤ 8 by rw [hxd]; exact (unhide HS).ws _ (List.getElem_mem hid))
 have SX := hide hxd
 clear hxd
 generalize hx1 : hs1[i] = x at *
 have HX := hide hx1
 clear hx1
 obtain ⟨⟨o, t, wl⟩, ⟨wa, wn, wc⟩⟩ := x
 simp only at c0 c1 c2 hwo STP XL
 have bA : Below w1.heap.size w1 ((w1.alloc (.cells #[.int .i64 d.next, .slice la1 ln1 lc1, .slice fa1 fn1 fc1, .slice (some ⟨g, 0, none⟩) 4 sc1] 29)).alloc (.cells #[.bool o, .int .i64 t, .slice wa wn wc] 55)) := ((Below.refl _ _).alloc (Nat.le_refl _) _).alloc (by simp) _
 obtain ⟨-, k6, k7, z7⟩ := twoBx (w := w1) (c1 := #[.int .i64 d.next, .slice la1 ln1 lc1, .slice fa1 fn1 fc1, .slice (some ⟨g, 0, none⟩) 4 sc1]) (t1 := 29) (c2 := #[.bool o, .int .i64 t, .slice wa wn wc]) (t2 := 55) rfl
 have hW1 := hb1.size
 have NBS := hide (fun q hq => (hO.so.lt q hq).2)
 have NBV := hide (fun q hq => (hO.vo.lt q hq).2)
 have NBF := hide (fun q hq => (hO.fo.lt q hq).2)
 have OU := hide (hO.below bA)
 have BU := hide (hb1.trans (bA.mono hW1))
 have OX := hide (rb_ownsRow_below hwo bA)
 have K6 := hide k6
 have K7 := hide k7
 have hb6 : W.heap.size ≤ w1.heap.size := hW1
 have a1 : (w1.alloc (.cells #[.int .i64 d.next, .slice la1 ln1 lc1, .slice fa1 fn1 fc1, .slice (some ⟨g, 0, none⟩) 4 sc1] 29)).cell? ⟨w.heap.size + 1, 1, none⟩ = some (.int .i64 (i : Int)) := (((Below.refl w1.heap.size w1).alloc (Nat.le_refl _) (.cells #[.int .i64 d.next, .slice la1 ln1 lc1, .slice fa1 fn1 fc1, .slice (some ⟨g, 0, none⟩) 4 sc1] 29)).cell (p := ⟨w.heap.size + 1, 1, none⟩) (by show w.heap.size + 1 < w1.heap.size; omega)).trans ((heap_at ((hb1.block (w.heap.size + 1) hz1).trans (unhide K1)) 1).1)
 have d0 := (((Below.refl w1.heap.size w1).alloc (Nat.le_refl _) (.cells #[.int .i64 d.next, .slice la1 ln1 lc1, .slice fa1 fn1 fc1, .slice (some ⟨g, 0, none⟩) 4 sc1] 29)).cell (p := ⟨g, i * 3, none⟩) hgw).trans c0
 have d1 := (((Below.refl w1.heap.size w1).alloc (Nat.le_refl _) (.cells #[.int .i64 d.next, .slice la1 ln1 lc1, .slice fa1 fn1 fc1, .slice (some ⟨g, 0, none⟩) 4 sc1] 29)).cell (p := ⟨g, i * 3 + 1, none⟩) hgw).trans c1
 have d2 := (((Below.refl w1.heap.size w1).alloc (Nat.le_refl _) (.cells #[.int .i64 d.next, .slice la1 ln1 lc1, .slice fa1 fn1 fc1, .slice (some ⟨g, 0, none⟩) 4 sc1] 29)).cell (p := ⟨g, i * 3 + 2, none⟩) hgw).trans c2
 have hin : (i : Int) < 4 := by omega
 clear hO hwo bA k6 k7 c0 c1 c2 hb1 z7
 go_upto_region 7 with fail
 clear d0 d1 d2 a1 hin
 generalize (w1.alloc (.cells #[.int .i64 d.next, .slice la1 ln1 lc1, .slice fa1 fn1 fc1, .slice (some ⟨g, 0, none⟩) 4 sc1] 29)).alloc (.cells #[.bool o, .int .i64 t, .slice wa wn wc] 55) = u at *
 generalize hb6e : w1.heap.size = b6 at *
 clear hb6e
 cases o with
 | false =>
  have kv := ((unhide BU).block w.heap.size hz0).trans (unhide K0)
  have v0 := (heap_at kv 0).1
  have v1 := (heap_at kv 1).1
  have v2 := (heap_at kv 2).1
  have v3 := (heap_at kv 3).1
  have ka := ((unhide BU).block (w.heap.size + 1) hz1).trans (unhide K1)
  have a0 := (heap_at ka 0).1
  have a1 := (heap_at ka 1).1
  have a2 := (heap_at ka 2).1
  have a3 := (heap_at ka 3).1
  have a4 := (heap_at ka 4).1
  have ky := ((unhide BU).block (w.heap.size + 1 + 1) hz2).trans (unhide K2)
  have y0 := (heap_at ky 0).1
  have y1 := (heap_at ky 1).1
  have y2 := (heap_at ky 2).1
  have y3 := (heap_at ky 3).1
  have yf0 := (heap_at ky 0).2
  have yf1 := (heap_at ky 1).2
  have yf2 := (heap_at ky 2).2
  have yf3 := (heap_at ky 3).2
  have kt := ((unhide BU).block (w.heap.size + 1 + 1 + 1) hz3).trans (unhide K3)
  have t0 := (heap_at kt 0).1
  have t1 := (heap_at kt 1).1
  have t2 := (heap_at kt 2).1
  have t3 := (heap_at kt 3).1
  have tf0 := (heap_at kt 0).2
  have tf1 := (heap_at kt 1).2
  have tf2 := (heap_at kt 2).2
  have tf3 := (heap_at kt 3).2
  have x0 := (heap_at (unhide K7) 0).1
  have RES := hide (show StRes ⟨la, ln, lc⟩ ⟨fa, fn, fc⟩ ⟨sa, sn, sc⟩ hs d (stepV d ⟨5, (i : Int), key, tu, val⟩) w (.returned (.tuple #[.agg #[.int .i64 d.next, .slice la ln lc, .slice fa fn fc, .slice sa sn sc], .agg #[.int .i64 10, .int .i64 0, .string ⟨#[]⟩, .slice none 0 0]])) ((((((((u.setCell ⟨w.heap.size + 1 + 1, 0, none⟩ (.int .i64 d.next)).setCell ⟨w.heap.size + 1 + 1, 1, none⟩ (.slice la ln lc)).setCell ⟨w.heap.size + 1 + 1, 2, none⟩ (.slice fa fn fc)).setCell ⟨w.heap.size + 1 + 1, 3, none⟩ (.slice sa sn sc)).setCell ⟨w.heap.size + 1 + 1 + 1, 0, none⟩ (.int .i64 10)).setCell ⟨w.heap.size + 1 + 1 + 1, 1, none⟩ (.int .i64 0)).setCell ⟨w.heap.size + 1 + 1 + 1, 2, none⟩ (.string ⟨#[]⟩)).setCell ⟨w.heap.size + 1 + 1 + 1, 3, none⟩ (.slice none 0 0)) from st_old (unhide HI) (bel_sv4 (bel_sv4 ((unhide BH).trans ((unhide BU).mono (unhide BH).size)) (by omega) _ _ _ _) (by omega) _ _ _ _) (by rw [unhide STP]; unfold sesV; rw [if_neg (by simp), if_pos rfl]))
  go_wp2_with fail
  refine bodyPost_ret (v := .tuple #[.agg #[.int .i64 d.next, .slice la ln lc, .slice fa fn fc, .slice sa sn sc], .agg #[.int .i64 10, .int .i64 0, .string ⟨#[]⟩, .slice none 0 0]]) (by simp [results, Tryz.results36, go_sem, *]) rfl ?_
  exact unhide RES
 | true =>
  have x0 := (heap_at (unhide K7) 0).1
  have x1 := (heap_at (unhide K7) 1).1
  have ka := ((unhide BU).block (w.heap.size + 1) hz1).trans (unhide K1)
  have a0 := (heap_at ka 0).1
  have bR : Below u.heap.size u (u.alloc (.cells #[.int .i64 0, .int .i64 t, .string ⟨#[]⟩, .slice none 0 0] 40)) := (Below.refl _ _).alloc (Nat.le_refl _) _
  have k8 := heap_alloc_new u (.cells #[.int .i64 0, .int .i64 t, .string ⟨#[]⟩, .slice none 0 0] 40)
  have OR := hide ((unhide OU).below bR)
  have BR := hide ((unhide BU).trans (bR.mono (unhide BU).size))
  have XR := hide (rb_ownsRow_below (unhide OX) bR)
  have K6R := hide ((bR.block b6 (blk_lt (unhide K6))).trans (unhide K6))
  have K7R := hide ((bR.block (b6 + 1) (blk_lt (unhide K7))).trans (unhide K7))
  have K8 := hide k8
  have h78 : b6 + 1 < u.heap.size := blk_lt (unhide K7)
  clear OU BU OX K6 K7 k8 bR ka
  go_upto_region 18 with fail
  clear x0 x1 a0
  generalize u.alloc (.cells #[.int .i64 0, .int .i64 t, .string ⟨#[]⟩, .slice none 0 0] 40) = ur at *
  generalize hb8e : u.heap.size = b8 at *
  clear hb8e
  have ka := ((unhide BR).block (w.heap.size + 1) hz1).trans (unhide K1)
  have a0 := (heap_at ka 0).1
  have a1 := (heap_at ka 1).1
  have a2 := (heap_at ka 2).1
  have a3 := (heap_at ka 3).1
  have a4 := (heap_at ka 4).1
  have CK := hide (fun u => l04Key_any key u)
  have FIT := hide (show fitA ⟨5, (i : Int), key, tu, val⟩ = (keyK key && valK val) by unfold fitA; rw [if_pos (by simp)])
  have STB := hide (show fitA ⟨5, (i : Int), key, tu, val⟩ = false → stepV d ⟨5, (i : Int), key, tu, val⟩ = (d, repV 11 t) from fun h => by rw [unhide STP]; unfold sesV; rw [if_neg (by simp), if_neg (by simp), if_pos h])
  generalize hkk : keyK key = kk at *
  by_cases hok : kk = true ∧ val.size ≤ 100
  case neg =>
   have ST2 := hide (unhide STB (by
    rw [unhide FIT]
    cases kk
    ·rfl
    ·unfold valK
     rw [decide_eq_false (fun h => hok ⟨rfl, h⟩)]
     rfl))
   clear STB FIT hkk
   cases kk with
   | false =>
    clear hok
    have kvv := ((unhide BR).block w.heap.size hz0).trans (unhide K0)
    have v0 := (heap_at kvv 0).1
    have v1 := (heap_at kvv 1).1
    have v2 := (heap_at kvv 2).1
    have v3 := (heap_at kvv 3).1
    have k7x := (heap_at (unhide K7R) 1).1
    have N2 := hide (((unhide BR).block (w.heap.size + 1 + 1) hz2).trans (unhide K2))
    have N3 := hide (((unhide BR).block (w.heap.size + 1 + 1 + 1) hz3).trans (unhide K3))
    have BF := hide ((unhide BH).trans ((unhide BR).mono (unhide BH).size))
    have h70 : b6 + 1 < ur.heap.size := blk_lt (unhide K7R)
    have h6W : W.heap.size ≤ ur.heap.size := (unhide BR).size
    have LD := hide (show ∀ v : World, (∀ i, i ≠ w.heap.size + 1 + 1 → i ≠ w.heap.size + 1 + 1 + 1 → i < ur.heap.size → v.heap[i]? = ur.heap[i]?) → (fun u => u.cell? ⟨w.heap.size, 0, none⟩ = some (.int .i64 d.next) ∧ u.cell? ⟨w.heap.size, 1, none⟩ = some (.slice la ln lc) ∧ u.cell? ⟨w.heap.size, 2, none⟩ = some (.slice fa fn fc) ∧ u.cell? ⟨w.heap.size, 3, none⟩ = some (.slice sa sn sc) ∧ u.cell? ⟨b6 + 1, 1, none⟩ = some (.int .i64 t)) v from fun v hv => ⟨(World.cell?_of_block (a := ⟨w.heap.size, 0, none⟩) (hv w.heap.size (by omega) (by omega) (by omega))).trans v0, (World.cell?_of_block (a := ⟨w.heap.size, 1, none⟩) (hv w.heap.size (by omega) (by omega) (by omega))).trans v1, (World.cell?_of_block (a := ⟨w.heap.size, 2, none⟩) (hv w.heap.size (by omega) (by omega) (by omega))).trans v2, (World.cell?_of_block (a := ⟨w.heap.size, 3, none⟩) (hv w.heap.size (by omega) (by omega) (by omega))).trans v3, (World.cell?_of_block (a := ⟨b6 + 1, 1, none⟩) (hv (b6 + 1) (by omega) (by omega) h70)).trans k7x⟩)
    clear v0 v1 v2 v3 k7x kvv
    have D0 := hide (show ∀ i, i ≠ w.heap.size + 1 + 1 → i ≠ w.heap.size + 1 + 1 + 1 → i < ur.heap.size → ur.drew.heap[i]? = ur.heap[i]? from fun _ _ _ _ => rfl)
    have ZD0 := hide (show ur.heap.size ≤ ur.drew.heap.size from Nat.le_refl _)
    have BD0 := hide (show Below w.heap.size w ur.drew from (unhide BF).drew)
    replace N2 := hide (show ur.drew.heap[w.heap.size + 1 + 1]? = _ from unhide N2)
    replace N3 := hide (show ur.drew.heap[w.heap.size + 1 + 1 + 1]? = _ from unhide N3)
    go_upto_region 23 with (go_at_call 76; refine (unhide CK _).mono ?_; rintro e w9 ⟨rfl, hw9⟩; subst w9)
    clear a0 a1 a2 a3 a4 CK
    refine wp_region_held_drew (S := (fun u => u.cell? ⟨w.heap.size, 0, none⟩ = some (.int .i64 d.next) ∧ u.cell? ⟨w.heap.size, 1, none⟩ = some (.slice la ln lc) ∧ u.cell? ⟨w.heap.size, 2, none⟩ = some (.slice fa fn fc) ∧ u.cell? ⟨w.heap.size, 3, none⟩ = some (.slice sa sn sc) ∧ u.cell? ⟨b6 + 1, 1, none⟩ = some (.int .i64 t))) (by kernel_rfl) (unhide LD _ (unhide D0)) (fun hHeld => ?_)
    generalize ur.drew = ud at *
    refine tk 0 87 rfl rfl hHeld ?_
    simp only [Act.put, lA, lB, lC]
    refine tk 1 88 rfl rfl hHeld ?_
    simp only [Act.put, lA, lB, lC]
    refine tk 2 89 rfl rfl hHeld ?_
    simp only [Act.put, lA, lB, lC]
    refine tk 3 90 rfl rfl hHeld ?_
    simp only [Act.put, lA, lB, lC]
    refine rd [4] (.cons rfl (fun K hK => ?_) .nil)
    have c0 := (heap_at (unhide N2) 0).1
    have c1 := (heap_at (unhide N2) 1).1
    have c2 := (heap_at (unhide N2) 2).1
    have c3 := (heap_at (unhide N2) 3).1
    have cf0 := (heap_at (unhide N2) 0).2
    have cf1 := (heap_at (unhide N2) 1).2
    have cf2 := (heap_at (unhide N2) 2).2
    have cf3 := (heap_at (unhide N2) 3).2
    have hw : WrB (fun i => i = w.heap.size + 1 + 1) ud ((((ud.setCell ⟨w.heap.size + 1 + 1, 0, none⟩ (.int .i64 d.next)).setCell ⟨w.heap.size + 1 + 1, 1, none⟩ (.slice la ln lc)).setCell ⟨w.heap.size + 1 + 1, 2, none⟩ (.slice fa fn fc)).setCell ⟨w.heap.size + 1 + 1, 3, none⟩ (.slice sa sn sc)) := sv4_wr ud (w.heap.size + 1 + 1) (.int .i64 d.next) (.slice la ln lc) (.slice fa fn fc) (.slice sa sn sc)
    have D1 := hide (show ∀ i, i ≠ w.heap.size + 1 + 1 → i ≠ w.heap.size + 1 + 1 + 1 → i < ur.heap.size → ((((ud.setCell ⟨w.heap.size + 1 + 1, 0, none⟩ (.int .i64 d.next)).setCell ⟨w.heap.size + 1 + 1, 1, none⟩ (.slice la ln lc)).setCell ⟨w.heap.size + 1 + 1, 2, none⟩ (.slice fa fn fc)).setCell ⟨w.heap.size + 1 + 1, 3, none⟩ (.slice sa sn sc)).heap[i]? = ur.heap[i]? from fun i h1 h2 h3 => (hw.block i (Nat.lt_of_lt_of_le h3 (unhide ZD0)) (by first | exact h1 | exact h2)).trans (unhide D0 i h1 h2 h3))
    have ZD1 := hide (show ur.heap.size ≤ ((((ud.setCell ⟨w.heap.size + 1 + 1, 0, none⟩ (.int .i64 d.next)).setCell ⟨w.heap.size + 1 + 1, 1, none⟩ (.slice la ln lc)).setCell ⟨w.heap.size + 1 + 1, 2, none⟩ (.slice fa fn fc)).setCell ⟨w.heap.size + 1 + 1, 3, none⟩ (.slice sa sn sc)).heap.size from Nat.le_trans (unhide ZD0) hw.size)
    have Ka := hide (show ((((ud.setCell ⟨w.heap.size + 1 + 1, 0, none⟩ (.int .i64 d.next)).setCell ⟨w.heap.size + 1 + 1, 1, none⟩ (.slice la ln lc)).setCell ⟨w.heap.size + 1 + 1, 2, none⟩ (.slice fa fn fc)).setCell ⟨w.heap.size + 1 + 1, 3, none⟩ (.slice sa sn sc)).heap[w.heap.size + 1 + 1]? = some (.cells #[.int .i64 d.next, .slice la ln lc, .slice fa fn fc, .slice sa sn sc] 29 (0, 0)) from sv4_heap (unhide N2) (.int .i64 d.next) (.slice la ln lc) (.slice fa fn fc) (.slice sa sn sc))
    have BD1 := hide (show Below w.heap.size w ((((ud.setCell ⟨w.heap.size + 1 + 1, 0, none⟩ (.int .i64 d.next)).setCell ⟨w.heap.size + 1 + 1, 1, none⟩ (.slice la ln lc)).setCell ⟨w.heap.size + 1 + 1, 2, none⟩ (.slice fa fn fc)).setCell ⟨w.heap.size + 1 + 1, 3, none⟩ (.slice sa sn sc)) from bel_sv4 (unhide BD0) (by omega) (.int .i64 d.next) (.slice la ln lc) (.slice fa fn fc) (.slice sa sn sc))
    have E3 := hide ((hw.block (w.heap.size + 1 + 1 + 1) (blk_lt (unhide N3)) (by omega)).trans (unhide N3))
    clear hw
    go_simp
    refine hK.out _ _ (unhide LD _ (unhide D1)) (fun hHeld => ?_)
    clear hK K
    clear c0 c1 c2 c3 cf0 cf1 cf2 cf3
    generalize ((((ud.setCell ⟨w.heap.size + 1 + 1, 0, none⟩ (.int .i64 d.next)).setCell ⟨w.heap.size + 1 + 1, 1, none⟩ (.slice la ln lc)).setCell ⟨w.heap.size + 1 + 1, 2, none⟩ (.slice fa fn fc)).setCell ⟨w.heap.size + 1 + 1, 3, none⟩ (.slice sa sn sc)) = ue at *
    refine rd [5] (.cons rfl (fun K hK => ?_) .nil)
    have c0 := (heap_at (unhide E3) 0).1
    have c1 := (heap_at (unhide E3) 1).1
    have c2 := (heap_at (unhide E3) 2).1
    have c3 := (heap_at (unhide E3) 3).1
    have cf0 := (heap_at (unhide E3) 0).2
    have cf1 := (heap_at (unhide E3) 1).2
    have cf2 := (heap_at (unhide E3) 2).2
    have cf3 := (heap_at (unhide E3) 3).2
    have hw : WrB (fun i => i = w.heap.size + 1 + 1 + 1) ue ((((ue.setCell ⟨w.heap.size + 1 + 1 + 1, 0, none⟩ (.int .i64 11)).setCell ⟨w.heap.size + 1 + 1 + 1, 1, none⟩ (.int .i64 t)).setCell ⟨w.heap.size + 1 + 1 + 1, 2, none⟩ (.string ⟨#[]⟩)).setCell ⟨w.heap.size + 1 + 1 + 1, 3, none⟩ (.slice none 0 0)) := sv4_wr ue (w.heap.size + 1 + 1 + 1) (.int .i64 11) (.int .i64 t) (.string ⟨#[]⟩) (.slice none 0 0)
    have D2 := hide (show ∀ i, i ≠ w.heap.size + 1 + 1 → i ≠ w.heap.size + 1 + 1 + 1 → i < ur.heap.size → ((((ue.setCell ⟨w.heap.size + 1 + 1 + 1, 0, none⟩ (.int .i64 11)).setCell ⟨w.heap.size + 1 + 1 + 1, 1, none⟩ (.int .i64 t)).setCell ⟨w.heap.size + 1 + 1 + 1, 2, none⟩ (.string ⟨#[]⟩)).setCell ⟨w.heap.size + 1 + 1 + 1, 3, none⟩ (.slice none 0 0)).heap[i]? = ur.heap[i]? from fun i h1 h2 h3 => (hw.block i (Nat.lt_of_lt_of_le h3 (unhide ZD1)) (by first | exact h1 | exact h2)).trans (unhide D1 i h1 h2 h3))
    have ZD2 := hide (show ur.heap.size ≤ ((((ue.setCell ⟨w.heap.size + 1 + 1 + 1, 0, none⟩ (.int .i64 11)).setCell ⟨w.heap.size + 1 + 1 + 1, 1, none⟩ (.int .i64 t)).setCell ⟨w.heap.size + 1 + 1 + 1, 2, none⟩ (.string ⟨#[]⟩)).setCell ⟨w.heap.size + 1 + 1 + 1, 3, none⟩ (.slice none 0 0)).heap.size from Nat.le_trans (unhide ZD1) hw.size)
    have Kb := hide (show ((((ue.setCell ⟨w.heap.size + 1 + 1 + 1, 0, none⟩ (.int .i64 11)).setCell ⟨w.heap.size + 1 + 1 + 1, 1, none⟩ (.int .i64 t)).setCell ⟨w.heap.size + 1 + 1 + 1, 2, none⟩ (.string ⟨#[]⟩)).setCell ⟨w.heap.size + 1 + 1 + 1, 3, none⟩ (.slice none 0 0)).heap[w.heap.size + 1 + 1 + 1]? = some (.cells #[.int .i64 11, .int .i64 t, .string ⟨#[]⟩, .slice none 0 0] 40 (0, 0)) from sv4_heap (unhide E3) (.int .i64 11) (.int .i64 t) (.string ⟨#[]⟩) (.slice none 0 0))
    have BD2 := hide (show Below w.heap.size w ((((ue.setCell ⟨w.heap.size + 1 + 1 + 1, 0, none⟩ (.int .i64 11)).setCell ⟨w.heap.size + 1 + 1 + 1, 1, none⟩ (.int .i64 t)).setCell ⟨w.heap.size + 1 + 1 + 1, 2, none⟩ (.string ⟨#[]⟩)).setCell ⟨w.heap.size + 1 + 1 + 1, 3, none⟩ (.slice none 0 0)) from bel_sv4 (unhide BD1) (by omega) (.int .i64 11) (.int .i64 t) (.string ⟨#[]⟩) (.slice none 0 0))
    have Kc := hide ((hw.block (w.heap.size + 1 + 1) (blk_lt (unhide Ka)) (by omega)).trans (unhide Ka))
    clear hw
    go_simp
    refine hK.out _ _ (unhide LD _ (unhide D2)) (fun hHeld => ?_)
    clear hK K
    clear c0 c1 c2 c3 cf0 cf1 cf2 cf3
    generalize ((((ue.setCell ⟨w.heap.size + 1 + 1 + 1, 0, none⟩ (.int .i64 11)).setCell ⟨w.heap.size + 1 + 1 + 1, 1, none⟩ (.int .i64 t)).setCell ⟨w.heap.size + 1 + 1 + 1, 2, none⟩ (.string ⟨#[]⟩)).setCell ⟨w.heap.size + 1 + 1 + 1, 3, none⟩ (.slice none 0 0)) = ug at *
    refine wpAnyH_done (by kernel_rfl) ?_ _
    have r0 := (heap_at (unhide Kc) 0).1
    have r1 := (heap_at (unhide Kc) 1).1
    have r2 := (heap_at (unhide Kc) 2).1
    have r3 := (heap_at (unhide Kc) 3).1
    have q0 := (heap_at (unhide Kb) 0).1
    have q1 := (heap_at (unhide Kb) 1).1
    have q2 := (heap_at (unhide Kb) 2).1
    have q3 := (heap_at (unhide Kb) 3).1
    have RES := hide (show StRes ⟨la, ln, lc⟩ ⟨fa, fn, fc⟩ ⟨sa, sn, sc⟩ hs d (stepV d ⟨5, (i : Int), key, tu, val⟩) w (.returned (.tuple #[.agg #[.int .i64 d.next, .slice la ln lc, .slice fa fn fc, .slice sa sn sc], .agg #[.int .i64 11, .int .i64 t, .string ⟨#[]⟩, .slice none 0 0]])) ug from st_old (unhide HI) (unhide BD2) (unhide ST2))
    clear hHeld LD D0 D1 D2 N2 N3 E3 Ka Kb Kc
    go_wp2_with fail
    refine bodyPost_ret (v := .tuple #[.agg #[.int .i64 d.next, .slice la ln lc, .slice fa fn fc, .slice sa sn sc], .agg #[.int .i64 11, .int .i64 t, .string ⟨#[]⟩, .slice none 0 0]]) (by simp [results, Tryz.results36, go_sem, *]) rfl ?_
    exact unhide RES
   | true =>
    have hvs : ¬ (val.size : Int) ≤ 100 := fun h => hok ⟨rfl, by omega⟩
    have hvd : decide ((100 : Int) < (val.size : Int)) = true := decide_eq_true (by omega)
    have hvn : (100 : Int) < (val.size : Int) := by omega
    clear hok
    have kvv := ((unhide BR).block w.heap.size hz0).trans (unhide K0)
    have v0 := (heap_at kvv 0).1
    have v1 := (heap_at kvv 1).1
    have v2 := (heap_at kvv 2).1
    have v3 := (heap_at kvv 3).1
    have k7x := (heap_at (unhide K7R) 1).1
    have N2 := hide (((unhide BR).block (w.heap.size + 1 + 1) hz2).trans (unhide K2))
    have N3 := hide (((unhide BR).block (w.heap.size + 1 + 1 + 1) hz3).trans (unhide K3))
    have BF := hide ((unhide BH).trans ((unhide BR).mono (unhide BH).size))
    have h70 : b6 + 1 < ur.heap.size := blk_lt (unhide K7R)
    have h6W : W.heap.size ≤ ur.heap.size := (unhide BR).size
    have LD := hide (show ∀ v : World, (∀ i, i ≠ w.heap.size + 1 + 1 → i ≠ w.heap.size + 1 + 1 + 1 → i < ur.heap.size → v.heap[i]? = ur.heap[i]?) → (fun u => u.cell? ⟨w.heap.size, 0, none⟩ = some (.int .i64 d.next) ∧ u.cell? ⟨w.heap.size, 1, none⟩ = some (.slice la ln lc) ∧ u.cell? ⟨w.heap.size, 2, none⟩ = some (.slice fa fn fc) ∧ u.cell? ⟨w.heap.size, 3, none⟩ = some (.slice sa sn sc) ∧ u.cell? ⟨b6 + 1, 1, none⟩ = some (.int .i64 t)) v from fun v hv => ⟨(World.cell?_of_block (a := ⟨w.heap.size, 0, none⟩) (hv w.heap.size (by omega) (by omega) (by omega))).trans v0, (World.cell?_of_block (a := ⟨w.heap.size, 1, none⟩) (hv w.heap.size (by omega) (by omega) (by omega))).trans v1, (World.cell?_of_block (a := ⟨w.heap.size, 2, none⟩) (hv w.heap.size (by omega) (by omega) (by omega))).trans v2, (World.cell?_of_block (a := ⟨w.heap.size, 3, none⟩) (hv w.heap.size (by omega) (by omega) (by omega))).trans v3, (World.cell?_of_block (a := ⟨b6 + 1, 1, none⟩) (hv (b6 + 1) (by omega) (by omega) h70)).trans k7x⟩)
    clear v0 v1 v2 v3 k7x kvv
    have D0 := hide (show ∀ i, i ≠ w.heap.size + 1 + 1 → i ≠ w.heap.size + 1 + 1 + 1 → i < ur.heap.size → ur.drew.heap[i]? = ur.heap[i]? from fun _ _ _ _ => rfl)
    have ZD0 := hide (show ur.heap.size ≤ ur.drew.heap.size from Nat.le_refl _)
    have BD0 := hide (show Below w.heap.size w ur.drew from (unhide BF).drew)
    replace N2 := hide (show ur.drew.heap[w.heap.size + 1 + 1]? = _ from unhide N2)
    replace N3 := hide (show ur.drew.heap[w.heap.size + 1 + 1 + 1]? = _ from unhide N3)
    go_upto_region 23 with (go_at_call 76; refine (unhide CK _).mono ?_; rintro e w9 ⟨rfl, hw9⟩; subst w9)
    clear a0 a1 a2 a3 a4 CK
    refine wp_region_held_drew (S := (fun u => u.cell? ⟨w.heap.size, 0, none⟩ = some (.int .i64 d.next) ∧ u.cell? ⟨w.heap.size, 1, none⟩ = some (.slice la ln lc) ∧ u.cell? ⟨w.heap.size, 2, none⟩ = some (.slice fa fn fc) ∧ u.cell? ⟨w.heap.size, 3, none⟩ = some (.slice sa sn sc) ∧ u.cell? ⟨b6 + 1, 1, none⟩ = some (.int .i64 t))) (by kernel_rfl) (unhide LD _ (unhide D0)) (fun hHeld => ?_)
    generalize ur.drew = ud at *
    refine tk 0 87 rfl rfl hHeld ?_
    simp only [Act.put, lA, lB, lC]
    refine tk 1 88 rfl rfl hHeld ?_
    simp only [Act.put, lA, lB, lC]
    refine tk 2 89 rfl rfl hHeld ?_
    simp only [Act.put, lA, lB, lC]
    refine tk 3 90 rfl rfl hHeld ?_
    simp only [Act.put, lA, lB, lC]
    refine rd [4] (.cons rfl (fun K hK => ?_) .nil)
    have c0 := (heap_at (unhide N2) 0).1
    have c1 := (heap_at (unhide N2) 1).1
    have c2 := (heap_at (unhide N2) 2).1
    have c3 := (heap_at (unhide N2) 3).1
    have cf0 := (heap_at (unhide N2) 0).2
    have cf1 := (heap_at (unhide N2) 1).2
    have cf2 := (heap_at (unhide N2) 2).2
    have cf3 := (heap_at (unhide N2) 3).2
    have hw : WrB (fun i => i = w.heap.size + 1 + 1) ud ((((ud.setCell ⟨w.heap.size + 1 + 1, 0, none⟩ (.int .i64 d.next)).setCell ⟨w.heap.size + 1 + 1, 1, none⟩ (.slice la ln lc)).setCell ⟨w.heap.size + 1 + 1, 2, none⟩ (.slice fa fn fc)).setCell ⟨w.heap.size + 1 + 1, 3, none⟩ (.slice sa sn sc)) := sv4_wr ud (w.heap.size + 1 + 1) (.int .i64 d.next) (.slice la ln lc) (.slice fa fn fc) (.slice sa sn sc)
    have D1 := hide (show ∀ i, i ≠ w.heap.size + 1 + 1 → i ≠ w.heap.size + 1 + 1 + 1 → i < ur.heap.size → ((((ud.setCell ⟨w.heap.size + 1 + 1, 0, none⟩ (.int .i64 d.next)).setCell ⟨w.heap.size + 1 + 1, 1, none⟩ (.slice la ln lc)).setCell ⟨w.heap.size + 1 + 1, 2, none⟩ (.slice fa fn fc)).setCell ⟨w.heap.size + 1 + 1, 3, none⟩ (.slice sa sn sc)).heap[i]? = ur.heap[i]? from fun i h1 h2 h3 => (hw.block i (Nat.lt_of_lt_of_le h3 (unhide ZD0)) (by first | exact h1 | exact h2)).trans (unhide D0 i h1 h2 h3))
    have ZD1 := hide (show ur.heap.size ≤ ((((ud.setCell ⟨w.heap.size + 1 + 1, 0, none⟩ (.int .i64 d.next)).setCell ⟨w.heap.size + 1 + 1, 1, none⟩ (.slice la ln lc)).setCell ⟨w.heap.size + 1 + 1, 2, none⟩ (.slice fa fn fc)).setCell ⟨w.heap.size + 1 + 1, 3, none⟩ (.slice sa sn sc)).heap.size from Nat.le_trans (unhide ZD0) hw.size)
    have Ka := hide (show ((((ud.setCell ⟨w.heap.size + 1 + 1, 0, none⟩ (.int .i64 d.next)).setCell ⟨w.heap.size + 1 + 1, 1, none⟩ (.slice la ln lc)).setCell ⟨w.heap.size + 1 + 1, 2, none⟩ (.slice fa fn fc)).setCell ⟨w.heap.size + 1 + 1, 3, none⟩ (.slice sa sn sc)).heap[w.heap.size + 1 + 1]? = some (.cells #[.int .i64 d.next, .slice la ln lc, .slice fa fn fc, .slice sa sn sc] 29 (0, 0)) from sv4_heap (unhide N2) (.int .i64 d.next) (.slice la ln lc) (.slice fa fn fc) (.slice sa sn sc))
    have BD1 := hide (show Below w.heap.size w ((((ud.setCell ⟨w.heap.size + 1 + 1, 0, none⟩ (.int .i64 d.next)).setCell ⟨w.heap.size + 1 + 1, 1, none⟩ (.slice la ln lc)).setCell ⟨w.heap.size + 1 + 1, 2, none⟩ (.slice fa fn fc)).setCell ⟨w.heap.size + 1 + 1, 3, none⟩ (.slice sa sn sc)) from bel_sv4 (unhide BD0) (by omega) (.int .i64 d.next) (.slice la ln lc) (.slice fa fn fc) (.slice sa sn sc))
    have E3 := hide ((hw.block (w.heap.size + 1 + 1 + 1) (blk_lt (unhide N3)) (by omega)).trans (unhide N3))
    clear hw
    go_simp
    refine hK.out _ _ (unhide LD _ (unhide D1)) (fun hHeld => ?_)
    clear hK K
    clear c0 c1 c2 c3 cf0 cf1 cf2 cf3
    generalize ((((ud.setCell ⟨w.heap.size + 1 + 1, 0, none⟩ (.int .i64 d.next)).setCell ⟨w.heap.size + 1 + 1, 1, none⟩ (.slice la ln lc)).setCell ⟨w.heap.size + 1 + 1, 2, none⟩ (.slice fa fn fc)).setCell ⟨w.heap.size + 1 + 1, 3, none⟩ (.slice sa sn sc)) = ue at *
    refine rd [5] (.cons rfl (fun K hK => ?_) .nil)
    have c0 := (heap_at (unhide E3) 0).1
    have c1 := (heap_at (unhide E3) 1).1
    have c2 := (heap_at (unhide E3) 2).1
    have c3 := (heap_at (unhide E3) 3).1
    have cf0 := (heap_at (unhide E3) 0).2
    have cf1 := (heap_at (unhide E3) 1).2
    have cf2 := (heap_at (unhide E3) 2).2
    have cf3 := (heap_at (unhide E3) 3).2
    have hw : WrB (fun i => i = w.heap.size + 1 + 1 + 1) ue ((((ue.setCell ⟨w.heap.size + 1 + 1 + 1, 0, none⟩ (.int .i64 11)).setCell ⟨w.heap.size + 1 + 1 + 1, 1, none⟩ (.int .i64 t)).setCell ⟨w.heap.size + 1 + 1 + 1, 2, none⟩ (.string ⟨#[]⟩)).setCell ⟨w.heap.size + 1 + 1 + 1, 3, none⟩ (.slice none 0 0)) := sv4_wr ue (w.heap.size + 1 + 1 + 1) (.int .i64 11) (.int .i64 t) (.string ⟨#[]⟩) (.slice none 0 0)
    have D2 := hide (show ∀ i, i ≠ w.heap.size + 1 + 1 → i ≠ w.heap.size + 1 + 1 + 1 → i < ur.heap.size → ((((ue.setCell ⟨w.heap.size + 1 + 1 + 1, 0, none⟩ (.int .i64 11)).setCell ⟨w.heap.size + 1 + 1 + 1, 1, none⟩ (.int .i64 t)).setCell ⟨w.heap.size + 1 + 1 + 1, 2, none⟩ (.string ⟨#[]⟩)).setCell ⟨w.heap.size + 1 + 1 + 1, 3, none⟩ (.slice none 0 0)).heap[i]? = ur.heap[i]? from fun i h1 h2 h3 => (hw.block i (Nat.lt_of_lt_of_le h3 (unhide ZD1)) (by first | exact h1 | exact h2)).trans (unhide D1 i h1 h2 h3))
    have ZD2 := hide (show ur.heap.size ≤ ((((ue.setCell ⟨w.heap.size + 1 + 1 + 1, 0, none⟩ (.int .i64 11)).setCell ⟨w.heap.size + 1 + 1 + 1, 1, none⟩ (.int .i64 t)).setCell ⟨w.heap.size + 1 + 1 + 1, 2, none⟩ (.string ⟨#[]⟩)).setCell ⟨w.heap.size + 1 + 1 + 1, 3, none⟩ (.slice none 0 0)).heap.size from Nat.le_trans (unhide ZD1) hw.size)
    have Kb := hide (show ((((ue.setCell ⟨w.heap.size + 1 + 1 + 1, 0, none⟩ (.int .i64 11)).setCell ⟨w.heap.size + 1 + 1 + 1, 1, none⟩ (.int .i64 t)).setCell ⟨w.heap.size + 1 + 1 + 1, 2, none⟩ (.string ⟨#[]⟩)).setCell ⟨w.heap.size + 1 + 1 + 1, 3, none⟩ (.slice none 0 0)).heap[w.heap.size + 1 + 1 + 1]? = some (.cells #[.int .i64 11, .int .i64 t, .string ⟨#[]⟩, .slice none 0 0] 40 (0, 0)) from sv4_heap (unhide E3) (.int .i64 11) (.int .i64 t) (.string ⟨#[]⟩) (.slice none 0 0))
    have BD2 := hide (show Below w.heap.size w ((((ue.setCell ⟨w.heap.size + 1 + 1 + 1, 0, none⟩ (.int .i64 11)).setCell ⟨w.heap.size + 1 + 1 + 1, 1, none⟩ (.int .i64 t)).setCell ⟨w.heap.size + 1 + 1 + 1, 2, none⟩ (.string ⟨#[]⟩)).setCell ⟨w.heap.size + 1 + 1 + 1, 3, none⟩ (.slice none 0 0)) from bel_sv4 (unhide BD1) (by omega) (.int .i64 11) (.int .i64 t) (.string ⟨#[]⟩) (.slice none 0 0))
    have Kc := hide ((hw.block (w.heap.size + 1 + 1) (blk_lt (unhide Ka)) (by omega)).trans (unhide Ka))
    clear hw
    go_simp
    refine hK.out _ _ (unhide LD _ (unhide D2)) (fun hHeld => ?_)
    clear hK K
    clear c0 c1 c2 c3 cf0 cf1 cf2 cf3
    generalize ((((ue.setCell ⟨w.heap.size + 1 + 1 + 1, 0, none⟩ (.int .i64 11)).setCell ⟨w.heap.size + 1 + 1 + 1, 1, none⟩ (.int .i64 t)).setCell ⟨w.heap.size + 1 + 1 + 1, 2, none⟩ (.string ⟨#[]⟩)).setCell ⟨w.heap.size + 1 + 1 + 1, 3, none⟩ (.slice none 0 0)) = ug at *
    refine wpAnyH_done (by kernel_rfl) ?_ _
    have r0 := (heap_at (unhide Kc) 0).1
    have r1 := (heap_at (unhide Kc) 1).1
    have r2 := (heap_at (unhide Kc) 2).1
    have r3 := (heap_at (unhide Kc) 3).1
    have q0 := (heap_at (unhide Kb) 0).1
    have q1 := (heap_at (unhide Kb) 1).1
    have q2 := (heap_at (unhide Kb) 2).1
    have q3 := (heap_at (unhide Kb) 3).1
    have RES := hide (show StRes ⟨la, ln, lc⟩ ⟨fa, fn, fc⟩ ⟨sa, sn, sc⟩ hs d (stepV d ⟨5, (i : Int), key, tu, val⟩) w (.returned (.tuple #[.agg #[.int .i64 d.next, .slice la ln lc, .slice fa fn fc, .slice sa sn sc], .agg #[.int .i64 11, .int .i64 t, .string ⟨#[]⟩, .slice none 0 0]])) ug from st_old (unhide HI) (unhide BD2) (unhide ST2))
    clear hHeld LD D0 D1 D2 N2 N3 E3 Ka Kb Kc
    go_wp2_with fail
    refine bodyPost_ret (v := .tuple #[.agg #[.int .i64 d.next, .slice la ln lc, .slice fa fn fc, .slice sa sn sc], .agg #[.int .i64 11, .int .i64 t, .string ⟨#[]⟩, .slice none 0 0]]) (by simp [results, Tryz.results36, go_sem, *]) rfl ?_
    exact unhide RES
  obtain ⟨rfl, hvs⟩ := hok
  have hvn : ¬ (100 : Int) < (val.size : Int) := by omega
  have hvd : decide ((100 : Int) < (val.size : Int)) = false := decide_eq_false hvn
  have STG := hide (show stepV d ⟨5, (i : Int), key, tu, val⟩ = if 8 < (insV wl ⟨key, t, ⟨#[]⟩, true⟩).length then (d, repV 7 t) else (⟨d.next, d.list, d.fen, d.ses.set i ⟨true, t, insV wl ⟨key, t, ⟨#[]⟩, true⟩⟩⟩, repV 0 t) by
   rw [unhide STP]
   unfold sesV
   rw [if_neg (by simp), if_neg (by simp), if_neg (by rw [unhide FIT]; unfold valK; rw [decide_eq_true hvs]; simp)]
   unfold inV
   rw [if_neg (by simp), if_neg (by simp), if_pos (by simp)]
   rfl)
  clear STB FIT hkk hvs
  have bX : Below ur.heap.size ur (ur.alloc (.cells #[.string key, .int .i64 t, .string ⟨#[]⟩, .bool true] 43)) := (Below.refl _ _).alloc (Nat.le_refl _) _
  have XW := vrow_of_owns (unhide XR)
  have XC := cap_of_owns (s := ⟨wa, wn, wc⟩) (unhide XR)
  have hwl : wn = wl.length := owns_n (unhide XR)
  have CI := hide (l06Insert_any wa wn wc wl ⟨key, t, ⟨#[]⟩, true⟩ (ur.alloc (.cells #[.string key, .int .i64 t, .string ⟨#[]⟩, .bool true] 43)) (XW.below bX) (by have := unhide XL; omega) XC.1 XC.2)
  have kz := (bX.block (b6 + 1) (blk_lt (unhide K7R))).trans (unhide K7R)
  have x1 := (heap_at (unhide K7R) 1).1
  have x2 := (heap_at kz 2).1
  have kX := heap_alloc_new ur (.cells #[.string key, .int .i64 t, .string ⟨#[]⟩, .bool true] 43)
  have bX0 : Below ur.heap.size ur (ur.alloc (.cells #[.string key, .int .i64 t, .string ⟨#[]⟩, .bool true] 43)) := (Below.refl _ _).alloc (Nat.le_refl _) _
  have a0X0 := (bX0.cell (p := ⟨w.heap.size + 1, 0, none⟩) (cell_lt a0)).trans a0
  have a2X0 := (bX0.cell (p := ⟨w.heap.size + 1, 2, none⟩) (cell_lt a2)).trans a2
  have x1X0 := (bX0.cell (p := ⟨b6 + 1, 1, none⟩) (cell_lt x1)).trans x1
  have bX1 : Below ur.heap.size ur (ur.alloc (.cells #[.string key, .int .i64 t, .string val, .bool false] 43)) := (Below.refl _ _).alloc (Nat.le_refl _) _
  have a0X1 := (bX1.cell (p := ⟨w.heap.size + 1, 0, none⟩) (cell_lt a0)).trans a0
  have a2X1 := (bX1.cell (p := ⟨w.heap.size + 1, 2, none⟩) (cell_lt a2)).trans a2
  have x1X1 := (bX1.cell (p := ⟨b6 + 1, 1, none⟩) (cell_lt x1)).trans x1
  have q0 := (heap_at kX 0).1
  have q1 := (heap_at kX 1).1
  have q2 := (heap_at kX 2).1
  have q3 := (heap_at kX 3).1
  unfold vv at CI
  simp only at CI
  have OX1 := hide ((unhide OR).below bX)
  have BX1 := hide ((unhide BR).trans (bX.mono (unhide BR).size))
  have KX6 := hide ((bX.block b6 (blk_lt (unhide K6R))).trans (unhide K6R))
  have KX7 := hide kz
  have KX8 := hide ((bX.block b8 (blk_lt (unhide K8))).trans (unhide K8))
  have hs8 : ur.heap.size ≤ (ur.alloc (.cells #[.string key, .int .i64 t, .string ⟨#[]⟩, .bool true] 43)).heap.size := bX.size
  have NBU := hide (show ∀ q, NBl (.slice (some ⟨g, 0, none⟩) 4 sc1) (hs1.map seEl) q → q < ur.heap.size from fun q hq => ((unhide OR).so.lt q hq).2)
  have NVU := hide (show ∀ q, (Value.slice la1 ln1 lc1).ownBlock = some q → q < ur.heap.size from fun q hq => ((unhide OR).vo.lt q hq).2)
  clear bX XW XC hwl kz kX OR BR K6R K8 XR ka XL
  go_wp2_with (go_at_call 76; refine (unhide CK _).mono ?_; rintro e w9 ⟨rfl, hw9⟩; subst w9)
  generalize ur.alloc (.cells #[.string key, .int .i64 t, .string ⟨#[]⟩, .bool true] 43) = uy at *
  clear a0 a2 a3 a4 q0 q1 q2 q3 x1 x2 CK a0X0 a2X0 x1X0 bX0 a0X1 a2X1 x1X1 bX1
  refine (unhide CI).mono ?_
  rintro e w3 ⟨g9, k9, rfl, o9, b9⟩
  have k7 := (b9.block (b6 + 1) (blk_lt (unhide KX7))).trans (unhide KX7)
  have x2 := (heap_at k7 2).1
  have xf2 := (heap_at k7 2).2
  have hw : WrB (fun k => k = b6 + 1) w3 (w3.setCell ⟨b6 + 1, 2, none⟩ (.slice (some ⟨g9, 0, none⟩) (insV wl ⟨key, t, ⟨#[]⟩, true⟩).length k9)) := set1_wr _ _ _ _
  have KY7 := hide (show (w3.setCell ⟨b6 + 1, 2, none⟩ (.slice (some ⟨g9, 0, none⟩) (insV wl ⟨key, t, ⟨#[]⟩, true⟩).length k9)).heap[b6 + 1]? = some (.cells #[.bool true, .int .i64 t, .slice (some ⟨g9, 0, none⟩) (insV wl ⟨key, t, ⟨#[]⟩, true⟩).length k9] 55 (0, 0)) by have := heap_set k7 2 (.slice (some ⟨g9, 0, none⟩) (insV wl ⟨key, t, ⟨#[]⟩, true⟩).length k9); simpa using this)
  have KY6 := hide (show (w3.setCell ⟨b6 + 1, 2, none⟩ (.slice (some ⟨g9, 0, none⟩) (insV wl ⟨key, t, ⟨#[]⟩, true⟩).length k9)).heap[b6]? = _ from (hw.block b6 (Nat.lt_of_lt_of_le (blk_lt (unhide KX6)) b9.size) (by omega)).trans ((b9.block b6 (blk_lt (unhide KX6))).trans (unhide KX6)))
  have KY8 := hide (show (w3.setCell ⟨b6 + 1, 2, none⟩ (.slice (some ⟨g9, 0, none⟩) (insV wl ⟨key, t, ⟨#[]⟩, true⟩).length k9)).heap[b8]? = _ from (hw.block b8 (Nat.lt_of_lt_of_le (blk_lt (unhide KX8)) b9.size) (by omega)).trans ((b9.block b8 (blk_lt (unhide KX8))).trans (unhide KX8)))
  have hyW := (unhide BX1).size
  have OY := hide (show VzOwn (w3.setCell ⟨b6 + 1, 2, none⟩ (.slice (some ⟨g9, 0, none⟩) (insV wl ⟨key, t, ⟨#[]⟩, true⟩).length k9)) W.heap.size ⟨la1, ln1, lc1⟩ ⟨fa1, fn1, fc1⟩ ⟨some ⟨g, 0, none⟩, 4, sc1⟩ hs1 d from ((unhide OX1).below b9).apart hw (fun q hq e => by have := unhide NBV q hq; omega) (fun q hq e => by have := unhide NBF q hq; omega) (fun q hq e => by have := unhide NBS q hq; omega))
  have B3w := (unhide BX1).trans (b9.mono hyW)
  have BY := hide (show Below W.heap.size W (w3.setCell ⟨b6 + 1, 2, none⟩ (.slice (some ⟨g9, 0, none⟩) (insV wl ⟨key, t, ⟨#[]⟩, true⟩).length k9)) from B3w.trans (WrB.below hw (fun k e => by rw [e]; omega) B3w.size))
  have hg9 := (o9.lt g9 rfl).1
  have ON := hide (show VOwns (w3.setCell ⟨b6 + 1, 2, none⟩ (.slice (some ⟨g9, 0, none⟩) (insV wl ⟨key, t, ⟨#[]⟩, true⟩).length k9)) W.heap.size (.slice (some ⟨g9, 0, none⟩) (insV wl ⟨key, t, ⟨#[]⟩, true⟩).length k9) (insV wl ⟨key, t, ⟨#[]⟩, true⟩) from gd_base (rr_owns_wr o9 hw (fun q hq e => by
   injection hq with hq
   have hq2 : g9 = q := hq
   have h1 : b6 + 1 < uy.heap.size := blk_lt (unhide KX7)
   omega)) hyW)
  have A1 := hide (show (w3.setCell ⟨b6 + 1, 2, none⟩ (.slice (some ⟨g9, 0, none⟩) (insV wl ⟨key, t, ⟨#[]⟩, true⟩).length k9)).cell? ⟨w.heap.size + 1, 1, none⟩ = some (.int .i64 (i : Int)) from (heap_at (((unhide BY).block (w.heap.size + 1) hz1).trans (unhide K1)) 1).1)
  clear hw B3w k7 o9 b9 OX1 BX1 KX6 KX7 KX8 CI a1
  go_upto_region 47 with fail
  clear x2 xf2
  generalize (w3.setCell ⟨b6 + 1, 2, none⟩ (.slice (some ⟨g9, 0, none⟩) (insV wl ⟨key, t, ⟨#[]⟩, true⟩).length k9)) = ux at *
  have x2 := (heap_at (unhide KY7) 2).1
  by_cases h8 : 8 < (insV wl ⟨key, t, ⟨#[]⟩, true⟩).length
  ·have ST2 := hide (show stepV d ⟨5, (i : Int), key, tu, val⟩ = (d, repV 7 t) by rw [unhide STG, if_pos h8])
   have h8i : (8 : Int) < ((insV wl ⟨key, t, ⟨#[]⟩, true⟩).length : Int) := by omega
   have h8d : decide ((8 : Int) < ((insV wl ⟨key, t, ⟨#[]⟩, true⟩).length : Int)) = true := decide_eq_true h8i
   generalize (insV wl ⟨key, t, ⟨#[]⟩, true⟩).length = nn at *
   have kvv := ((unhide BY).block w.heap.size hz0).trans (unhide K0)
   have v0 := (heap_at kvv 0).1
   have v1 := (heap_at kvv 1).1
   have v2 := (heap_at kvv 2).1
   have v3 := (heap_at kvv 3).1
   have k7x := (heap_at (unhide KY7) 1).1
   have N2 := hide (((unhide BY).block (w.heap.size + 1 + 1) hz2).trans (unhide K2))
   have N3 := hide (((unhide BY).block (w.heap.size + 1 + 1 + 1) hz3).trans (unhide K3))
   have BF := hide ((unhide BH).trans ((unhide BY).mono (unhide BH).size))
   have h70 : b6 + 1 < ux.heap.size := blk_lt (unhide KY7)
   have h6W : W.heap.size ≤ ux.heap.size := (unhide BY).size
   have LD := hide (show ∀ v : World, (∀ i, i ≠ w.heap.size + 1 + 1 → i ≠ w.heap.size + 1 + 1 + 1 → i < ux.heap.size → v.heap[i]? = ux.heap[i]?) → (fun u => u.cell? ⟨w.heap.size, 0, none⟩ = some (.int .i64 d.next) ∧ u.cell? ⟨w.heap.size, 1, none⟩ = some (.slice la ln lc) ∧ u.cell? ⟨w.heap.size, 2, none⟩ = some (.slice fa fn fc) ∧ u.cell? ⟨w.heap.size, 3, none⟩ = some (.slice sa sn sc) ∧ u.cell? ⟨b6 + 1, 1, none⟩ = some (.int .i64 t)) v from fun v hv => ⟨(World.cell?_of_block (a := ⟨w.heap.size, 0, none⟩) (hv w.heap.size (by omega) (by omega) (by omega))).trans v0, (World.cell?_of_block (a := ⟨w.heap.size, 1, none⟩) (hv w.heap.size (by omega) (by omega) (by omega))).trans v1, (World.cell?_of_block (a := ⟨w.heap.size, 2, none⟩) (hv w.heap.size (by omega) (by omega) (by omega))).trans v2, (World.cell?_of_block (a := ⟨w.heap.size, 3, none⟩) (hv w.heap.size (by omega) (by omega) (by omega))).trans v3, (World.cell?_of_block (a := ⟨b6 + 1, 1, none⟩) (hv (b6 + 1) (by omega) (by omega) h70)).trans k7x⟩)
   clear v0 v1 v2 v3 k7x kvv
   have D0 := hide (show ∀ i, i ≠ w.heap.size + 1 + 1 → i ≠ w.heap.size + 1 + 1 + 1 → i < ux.heap.size → ux.drew.heap[i]? = ux.heap[i]? from fun _ _ _ _ => rfl)
   have ZD0 := hide (show ux.heap.size ≤ ux.drew.heap.size from Nat.le_refl _)
   have BD0 := hide (show Below w.heap.size w ux.drew from (unhide BF).drew)
   replace N2 := hide (show ux.drew.heap[w.heap.size + 1 + 1]? = _ from unhide N2)
   replace N3 := hide (show ux.drew.heap[w.heap.size + 1 + 1 + 1]? = _ from unhide N3)
   go_upto_region 48 with fail
   refine wp_region_held_drew (S := (fun u => u.cell? ⟨w.heap.size, 0, none⟩ = some (.int .i64 d.next) ∧ u.cell? ⟨w.heap.size, 1, none⟩ = some (.slice la ln lc) ∧ u.cell? ⟨w.heap.size, 2, none⟩ = some (.slice fa fn fc) ∧ u.cell? ⟨w.heap.size, 3, none⟩ = some (.slice sa sn sc) ∧ u.cell? ⟨b6 + 1, 1, none⟩ = some (.int .i64 t))) (by kernel_rfl) (unhide LD _ (unhide D0)) (fun hHeld => ?_)
   generalize ux.drew = ud at *
   refine tk 0 201 rfl rfl hHeld ?_
   simp only [Act.put, lA, lB, lC]
   refine tk 1 202 rfl rfl hHeld ?_
   simp only [Act.put, lA, lB, lC]
   refine tk 2 203 rfl rfl hHeld ?_
   simp only [Act.put, lA, lB, lC]
   refine tk 3 204 rfl rfl hHeld ?_
   simp only [Act.put, lA, lB, lC]
   refine rd [4] (.cons rfl (fun K hK => ?_) .nil)
   have c0 := (heap_at (unhide N2) 0).1
   have c1 := (heap_at (unhide N2) 1).1
   have c2 := (heap_at (unhide N2) 2).1
   have c3 := (heap_at (unhide N2) 3).1
   have cf0 := (heap_at (unhide N2) 0).2
   have cf1 := (heap_at (unhide N2) 1).2
   have cf2 := (heap_at (unhide N2) 2).2
   have cf3 := (heap_at (unhide N2) 3).2
   have hw : WrB (fun i => i = w.heap.size + 1 + 1) ud ((((ud.setCell ⟨w.heap.size + 1 + 1, 0, none⟩ (.int .i64 d.next)).setCell ⟨w.heap.size + 1 + 1, 1, none⟩ (.slice la ln lc)).setCell ⟨w.heap.size + 1 + 1, 2, none⟩ (.slice fa fn fc)).setCell ⟨w.heap.size + 1 + 1, 3, none⟩ (.slice sa sn sc)) := sv4_wr ud (w.heap.size + 1 + 1) (.int .i64 d.next) (.slice la ln lc) (.slice fa fn fc) (.slice sa sn sc)
   have D1 := hide (show ∀ i, i ≠ w.heap.size + 1 + 1 → i ≠ w.heap.size + 1 + 1 + 1 → i < ux.heap.size → ((((ud.setCell ⟨w.heap.size + 1 + 1, 0, none⟩ (.int .i64 d.next)).setCell ⟨w.heap.size + 1 + 1, 1, none⟩ (.slice la ln lc)).setCell ⟨w.heap.size + 1 + 1, 2, none⟩ (.slice fa fn fc)).setCell ⟨w.heap.size + 1 + 1, 3, none⟩ (.slice sa sn sc)).heap[i]? = ux.heap[i]? from fun i h1 h2 h3 => (hw.block i (Nat.lt_of_lt_of_le h3 (unhide ZD0)) (by first | exact h1 | exact h2)).trans (unhide D0 i h1 h2 h3))
   have ZD1 := hide (show ux.heap.size ≤ ((((ud.setCell ⟨w.heap.size + 1 + 1, 0, none⟩ (.int .i64 d.next)).setCell ⟨w.heap.size + 1 + 1, 1, none⟩ (.slice la ln lc)).setCell ⟨w.heap.size + 1 + 1, 2, none⟩ (.slice fa fn fc)).setCell ⟨w.heap.size + 1 + 1, 3, none⟩ (.slice sa sn sc)).heap.size from Nat.le_trans (unhide ZD0) hw.size)
   have Ka := hide (show ((((ud.setCell ⟨w.heap.size + 1 + 1, 0, none⟩ (.int .i64 d.next)).setCell ⟨w.heap.size + 1 + 1, 1, none⟩ (.slice la ln lc)).setCell ⟨w.heap.size + 1 + 1, 2, none⟩ (.slice fa fn fc)).setCell ⟨w.heap.size + 1 + 1, 3, none⟩ (.slice sa sn sc)).heap[w.heap.size + 1 + 1]? = some (.cells #[.int .i64 d.next, .slice la ln lc, .slice fa fn fc, .slice sa sn sc] 29 (0, 0)) from sv4_heap (unhide N2) (.int .i64 d.next) (.slice la ln lc) (.slice fa fn fc) (.slice sa sn sc))
   have BD1 := hide (show Below w.heap.size w ((((ud.setCell ⟨w.heap.size + 1 + 1, 0, none⟩ (.int .i64 d.next)).setCell ⟨w.heap.size + 1 + 1, 1, none⟩ (.slice la ln lc)).setCell ⟨w.heap.size + 1 + 1, 2, none⟩ (.slice fa fn fc)).setCell ⟨w.heap.size + 1 + 1, 3, none⟩ (.slice sa sn sc)) from bel_sv4 (unhide BD0) (by omega) (.int .i64 d.next) (.slice la ln lc) (.slice fa fn fc) (.slice sa sn sc))
   have E3 := hide ((hw.block (w.heap.size + 1 + 1 + 1) (blk_lt (unhide N3)) (by omega)).trans (unhide N3))
   clear hw
   go_simp
   refine hK.out _ _ (unhide LD _ (unhide D1)) (fun hHeld => ?_)
   clear hK K
   clear c0 c1 c2 c3 cf0 cf1 cf2 cf3
   generalize ((((ud.setCell ⟨w.heap.size + 1 + 1, 0, none⟩ (.int .i64 d.next)).setCell ⟨w.heap.size + 1 + 1, 1, none⟩ (.slice la ln lc)).setCell ⟨w.heap.size + 1 + 1, 2, none⟩ (.slice fa fn fc)).setCell ⟨w.heap.size + 1 + 1, 3, none⟩ (.slice sa sn sc)) = ue at *
   refine rd [5] (.cons rfl (fun K hK => ?_) .nil)
   have c0 := (heap_at (unhide E3) 0).1
   have c1 := (heap_at (unhide E3) 1).1
   have c2 := (heap_at (unhide E3) 2).1
   have c3 := (heap_at (unhide E3) 3).1
   have cf0 := (heap_at (unhide E3) 0).2
   have cf1 := (heap_at (unhide E3) 1).2
   have cf2 := (heap_at (unhide E3) 2).2
   have cf3 := (heap_at (unhide E3) 3).2
   have hw : WrB (fun i => i = w.heap.size + 1 + 1 + 1) ue ((((ue.setCell ⟨w.heap.size + 1 + 1 + 1, 0, none⟩ (.int .i64 7)).setCell ⟨w.heap.size + 1 + 1 + 1, 1, none⟩ (.int .i64 t)).setCell ⟨w.heap.size + 1 + 1 + 1, 2, none⟩ (.string ⟨#[]⟩)).setCell ⟨w.heap.size + 1 + 1 + 1, 3, none⟩ (.slice none 0 0)) := sv4_wr ue (w.heap.size + 1 + 1 + 1) (.int .i64 7) (.int .i64 t) (.string ⟨#[]⟩) (.slice none 0 0)
   have D2 := hide (show ∀ i, i ≠ w.heap.size + 1 + 1 → i ≠ w.heap.size + 1 + 1 + 1 → i < ux.heap.size → ((((ue.setCell ⟨w.heap.size + 1 + 1 + 1, 0, none⟩ (.int .i64 7)).setCell ⟨w.heap.size + 1 + 1 + 1, 1, none⟩ (.int .i64 t)).setCell ⟨w.heap.size + 1 + 1 + 1, 2, none⟩ (.string ⟨#[]⟩)).setCell ⟨w.heap.size + 1 + 1 + 1, 3, none⟩ (.slice none 0 0)).heap[i]? = ux.heap[i]? from fun i h1 h2 h3 => (hw.block i (Nat.lt_of_lt_of_le h3 (unhide ZD1)) (by first | exact h1 | exact h2)).trans (unhide D1 i h1 h2 h3))
   have ZD2 := hide (show ux.heap.size ≤ ((((ue.setCell ⟨w.heap.size + 1 + 1 + 1, 0, none⟩ (.int .i64 7)).setCell ⟨w.heap.size + 1 + 1 + 1, 1, none⟩ (.int .i64 t)).setCell ⟨w.heap.size + 1 + 1 + 1, 2, none⟩ (.string ⟨#[]⟩)).setCell ⟨w.heap.size + 1 + 1 + 1, 3, none⟩ (.slice none 0 0)).heap.size from Nat.le_trans (unhide ZD1) hw.size)
   have Kb := hide (show ((((ue.setCell ⟨w.heap.size + 1 + 1 + 1, 0, none⟩ (.int .i64 7)).setCell ⟨w.heap.size + 1 + 1 + 1, 1, none⟩ (.int .i64 t)).setCell ⟨w.heap.size + 1 + 1 + 1, 2, none⟩ (.string ⟨#[]⟩)).setCell ⟨w.heap.size + 1 + 1 + 1, 3, none⟩ (.slice none 0 0)).heap[w.heap.size + 1 + 1 + 1]? = some (.cells #[.int .i64 7, .int .i64 t, .string ⟨#[]⟩, .slice none 0 0] 40 (0, 0)) from sv4_heap (unhide E3) (.int .i64 7) (.int .i64 t) (.string ⟨#[]⟩) (.slice none 0 0))
   have BD2 := hide (show Below w.heap.size w ((((ue.setCell ⟨w.heap.size + 1 + 1 + 1, 0, none⟩ (.int .i64 7)).setCell ⟨w.heap.size + 1 + 1 + 1, 1, none⟩ (.int .i64 t)).setCell ⟨w.heap.size + 1 + 1 + 1, 2, none⟩ (.string ⟨#[]⟩)).setCell ⟨w.heap.size + 1 + 1 + 1, 3, none⟩ (.slice none 0 0)) from bel_sv4 (unhide BD1) (by omega) (.int .i64 7) (.int .i64 t) (.string ⟨#[]⟩) (.slice none 0 0))
   have Kc := hide ((hw.block (w.heap.size + 1 + 1) (blk_lt (unhide Ka)) (by omega)).trans (unhide Ka))
   clear hw
   go_simp
   refine hK.out _ _ (unhide LD _ (unhide D2)) (fun hHeld => ?_)
   clear hK K
   clear c0 c1 c2 c3 cf0 cf1 cf2 cf3
   generalize ((((ue.setCell ⟨w.heap.size + 1 + 1 + 1, 0, none⟩ (.int .i64 7)).setCell ⟨w.heap.size + 1 + 1 + 1, 1, none⟩ (.int .i64 t)).setCell ⟨w.heap.size + 1 + 1 + 1, 2, none⟩ (.string ⟨#[]⟩)).setCell ⟨w.heap.size + 1 + 1 + 1, 3, none⟩ (.slice none 0 0)) = ug at *
   refine wpAnyH_done (by kernel_rfl) ?_ _
   have r0 := (heap_at (unhide Kc) 0).1
   have r1 := (heap_at (unhide Kc) 1).1
   have r2 := (heap_at (unhide Kc) 2).1
   have r3 := (heap_at (unhide Kc) 3).1
   have q0 := (heap_at (unhide Kb) 0).1
   have q1 := (heap_at (unhide Kb) 1).1
   have q2 := (heap_at (unhide Kb) 2).1
   have q3 := (heap_at (unhide Kb) 3).1
   have RES := hide (show StRes ⟨la, ln, lc⟩ ⟨fa, fn, fc⟩ ⟨sa, sn, sc⟩ hs d (stepV d ⟨5, (i : Int), key, tu, val⟩) w (.returned (.tuple #[.agg #[.int .i64 d.next, .slice la ln lc, .slice fa fn fc, .slice sa sn sc], .agg #[.int .i64 7, .int .i64 t, .string ⟨#[]⟩, .slice none 0 0]])) ug from st_old (unhide HI) (unhide BD2) (unhide ST2))
   clear hHeld LD D0 D1 D2 N2 N3 E3 Ka Kb Kc
   go_wp2_with fail
   refine bodyPost_ret (v := .tuple #[.agg #[.int .i64 d.next, .slice la ln lc, .slice fa fn fc, .slice sa sn sc], .agg #[.int .i64 7, .int .i64 t, .string ⟨#[]⟩, .slice none 0 0]]) (by simp [results, Tryz.results36, go_sem, *]) rfl ?_
   exact unhide RES
  ·have ST2 := hide (show stepV d ⟨5, (i : Int), key, tu, val⟩ = (⟨d.next, d.list, d.fen, d.ses.set i ⟨true, t, insV wl ⟨key, t, ⟨#[]⟩, true⟩⟩⟩, repV 0 t) by rw [unhide STG, if_neg h8])
   have h8i : ¬ (8 : Int) < ((insV wl ⟨key, t, ⟨#[]⟩, true⟩).length : Int) := by omega
   have h8d : decide ((8 : Int) < ((insV wl ⟨key, t, ⟨#[]⟩, true⟩).length : Int)) = false := decide_eq_false h8i
   have hih : i < hs1.length := by omega
   obtain ⟨g2, hg2, -, ⟨c0, c1, c2⟩, hfz, OP, WP, hki⟩ := (unhide OY).put hih ⟨⟨true, t, insV wl ⟨key, t, ⟨#[]⟩, true⟩⟩, ⟨some ⟨g9, 0, none⟩, (insV wl ⟨key, t, ⟨#[]⟩, true⟩).length, k9⟩⟩ (unhide ON) (fun q hq => by
    injection hq with hq
    subst hq
    exact ⟨fun hn => by have h1 := unhide NBU _ hn; simp only at h1; omega, fun e => by have h1 := unhide NVU _ e; simp only at h1; omega⟩)
   simp only at hg2
   injection hg2 with hg2
   injection hg2 with hg2 _ _
   subst hg2
   rw [unhide HX] at c0 c1 c2
   simp only at c0 c1 c2 OP WP
   have hf0 := hfz (i * 3)
   have hf1 := hfz (i * 3 + 1)
   have hf2 := hfz (i * 3 + 1 + 1)
   obtain ⟨cur, hcur⟩ := hki
   have BF2 := hide ((unhide BY).trans (WrB.below WP (fun k e => by rw [e]; exact hgB) (unhide BY).size))
   have K6L := unhide KY6
   have h6g : b6 ≠ g := fun e => by rw [e, hcur] at K6L; injection K6L with K6L; injection K6L with _ K6L _; exact absurd K6L (by decide)
   have K6F := hide ((WP.block b6 (blk_lt K6L) h6g).trans K6L)
   have K8L := unhide KY8
   have h8g : b8 ≠ g := fun e => by rw [e, hcur] at K8L; injection K8L with K8L; injection K8L with _ K8L _; exact absurd K8L (by decide)
   have K8F := hide ((WP.block b8 (blk_lt K8L) h8g).trans K8L)
   have BF := hide ((unhide BH).trans ((unhide BF2).mono (unhide BH).size))
   have OF := hide OP
   have z3 := (heap_at K6L 3).1
   have x0 := (heap_at (unhide KY7) 0).1
   have x1 := (heap_at (unhide KY7) 1).1
   have a1 := unhide A1
   have hin : (i : Int) < 4 := by omega
   clear OP WP K6L K8L hfz hcur OY BY ON
   go_upto_region 50 with fail
   clear c0 c1 c2 hf0 hf1 hf2 z3 x0 x1 x2 a1 A1 KY6 KY7 KY8
   generalize (((ux.setCell ⟨g, i * 3, none⟩ (.bool true)).setCell ⟨g, i * 3 + 1, none⟩ (.int .i64 t)).setCell ⟨g, i * 3 + 1 + 1, none⟩ (.slice (some ⟨g9, 0, none⟩) (insV wl ⟨key, t, ⟨#[]⟩, true⟩).length k9)) = uf at *
   have z0 := (heap_at (unhide K6F) 0).1
   have z1 := (heap_at (unhide K6F) 1).1
   have z2 := (heap_at (unhide K6F) 2).1
   have z3 := (heap_at (unhide K6F) 3).1
   have p0 := (heap_at (unhide K8F) 0).1
   have p1 := (heap_at (unhide K8F) 1).1
   have p2 := (heap_at (unhide K8F) 2).1
   have p3 := (heap_at (unhide K8F) 3).1
   have N2 := hide (((unhide BF2).block (w.heap.size + 1 + 1) hz2).trans (unhide K2))
   have N3 := hide (((unhide BF2).block (w.heap.size + 1 + 1 + 1) hz3).trans (unhide K3))
   have h60 : b6 < uf.heap.size := blk_lt (unhide K6F)
   have h80 : b8 < uf.heap.size := blk_lt (unhide K8F)
   have h6W : W.heap.size ≤ uf.heap.size := (unhide BF2).size
   have LD := hide (show ∀ v : World, (∀ i, i ≠ w.heap.size + 1 + 1 → i ≠ w.heap.size + 1 + 1 + 1 → i < uf.heap.size → v.heap[i]? = uf.heap[i]?) → (fun u => u.cell? ⟨b6, 0, none⟩ = some (.int .i64 d.next) ∧ u.cell? ⟨b6, 1, none⟩ = some (.slice la1 ln1 lc1) ∧ u.cell? ⟨b6, 2, none⟩ = some (.slice fa1 fn1 fc1) ∧ u.cell? ⟨b6, 3, none⟩ = some (.slice (some ⟨g, 0, none⟩) 4 sc1) ∧ u.cell? ⟨b8, 0, none⟩ = some (.int .i64 0) ∧ u.cell? ⟨b8, 1, none⟩ = some (.int .i64 t) ∧ u.cell? ⟨b8, 2, none⟩ = some (.string ⟨#[]⟩) ∧ u.cell? ⟨b8, 3, none⟩ = some (.slice none 0 0)) v from fun v hv => ⟨(World.cell?_of_block (a := ⟨b6, 0, none⟩) (hv b6 (by omega) (by omega) h60)).trans z0, (World.cell?_of_block (a := ⟨b6, 1, none⟩) (hv b6 (by omega) (by omega) h60)).trans z1, (World.cell?_of_block (a := ⟨b6, 2, none⟩) (hv b6 (by omega) (by omega) h60)).trans z2, (World.cell?_of_block (a := ⟨b6, 3, none⟩) (hv b6 (by omega) (by omega) h60)).trans z3, (World.cell?_of_block (a := ⟨b8, 0, none⟩) (hv b8 (by omega) (by omega) h80)).trans p0, (World.cell?_of_block (a := ⟨b8, 1, none⟩) (hv b8 (by omega) (by omega) h80)).trans p1, (World.cell?_of_block (a := ⟨b8, 2, none⟩) (hv b8 (by omega) (by omega) h80)).trans p2, (World.cell?_of_block (a := ⟨b8, 3, none⟩) (hv b8 (by omega) (by omega) h80)).trans p3⟩)
   clear z0 z1 z2 z3 p0 p1 p2 p3
   have D0 := hide (show ∀ i, i ≠ w.heap.size + 1 + 1 → i ≠ w.heap.size + 1 + 1 + 1 → i < uf.heap.size → uf.drew.heap[i]? = uf.heap[i]? from fun _ _ _ _ => rfl)
   have ZD0 := hide (show uf.heap.size ≤ uf.drew.heap.size from Nat.le_refl _)
   have BD0 := hide (show Below w.heap.size w uf.drew from (unhide BF).drew)
   replace N2 := hide (show uf.drew.heap[w.heap.size + 1 + 1]? = _ from unhide N2)
   replace N3 := hide (show uf.drew.heap[w.heap.size + 1 + 1 + 1]? = _ from unhide N3)
   go_upto_region 50 with fail
   refine wp_region_held_drew (S := (fun u => u.cell? ⟨b6, 0, none⟩ = some (.int .i64 d.next) ∧ u.cell? ⟨b6, 1, none⟩ = some (.slice la1 ln1 lc1) ∧ u.cell? ⟨b6, 2, none⟩ = some (.slice fa1 fn1 fc1) ∧ u.cell? ⟨b6, 3, none⟩ = some (.slice (some ⟨g, 0, none⟩) 4 sc1) ∧ u.cell? ⟨b8, 0, none⟩ = some (.int .i64 0) ∧ u.cell? ⟨b8, 1, none⟩ = some (.int .i64 t) ∧ u.cell? ⟨b8, 2, none⟩ = some (.string ⟨#[]⟩) ∧ u.cell? ⟨b8, 3, none⟩ = some (.slice none 0 0))) (by kernel_rfl) (unhide LD _ (unhide D0)) (fun hHeld => ?_)
   generalize uf.drew = ud at *
   refine tk 0 211 rfl rfl hHeld ?_
   simp only [Act.put, lA, lB, lC]
   refine tk 1 212 rfl rfl hHeld ?_
   simp only [Act.put, lA, lB, lC]
   refine rd [2] (.cons rfl (fun K hK => ?_) .nil)
   have c0 := (heap_at (unhide N2) 0).1
   have c1 := (heap_at (unhide N2) 1).1
   have c2 := (heap_at (unhide N2) 2).1
   have c3 := (heap_at (unhide N2) 3).1
   have cf0 := (heap_at (unhide N2) 0).2
   have cf1 := (heap_at (unhide N2) 1).2
   have cf2 := (heap_at (unhide N2) 2).2
   have cf3 := (heap_at (unhide N2) 3).2
   have hw : WrB (fun i => i = w.heap.size + 1 + 1) ud ((((ud.setCell ⟨w.heap.size + 1 + 1, 0, none⟩ (.int .i64 d.next)).setCell ⟨w.heap.size + 1 + 1, 1, none⟩ (.slice la1 ln1 lc1)).setCell ⟨w.heap.size + 1 + 1, 2, none⟩ (.slice fa1 fn1 fc1)).setCell ⟨w.heap.size + 1 + 1, 3, none⟩ (.slice (some ⟨g, 0, none⟩) 4 sc1)) := sv4_wr ud (w.heap.size + 1 + 1) (.int .i64 d.next) (.slice la1 ln1 lc1) (.slice fa1 fn1 fc1) (.slice (some ⟨g, 0, none⟩) 4 sc1)
   have D1 := hide (show ∀ i, i ≠ w.heap.size + 1 + 1 → i ≠ w.heap.size + 1 + 1 + 1 → i < uf.heap.size → ((((ud.setCell ⟨w.heap.size + 1 + 1, 0, none⟩ (.int .i64 d.next)).setCell ⟨w.heap.size + 1 + 1, 1, none⟩ (.slice la1 ln1 lc1)).setCell ⟨w.heap.size + 1 + 1, 2, none⟩ (.slice fa1 fn1 fc1)).setCell ⟨w.heap.size + 1 + 1, 3, none⟩ (.slice (some ⟨g, 0, none⟩) 4 sc1)).heap[i]? = uf.heap[i]? from fun i h1 h2 h3 => (hw.block i (Nat.lt_of_lt_of_le h3 (unhide ZD0)) (by first | exact h1 | exact h2)).trans (unhide D0 i h1 h2 h3))
   have ZD1 := hide (show uf.heap.size ≤ ((((ud.setCell ⟨w.heap.size + 1 + 1, 0, none⟩ (.int .i64 d.next)).setCell ⟨w.heap.size + 1 + 1, 1, none⟩ (.slice la1 ln1 lc1)).setCell ⟨w.heap.size + 1 + 1, 2, none⟩ (.slice fa1 fn1 fc1)).setCell ⟨w.heap.size + 1 + 1, 3, none⟩ (.slice (some ⟨g, 0, none⟩) 4 sc1)).heap.size from Nat.le_trans (unhide ZD0) hw.size)
   have Ka := hide (show ((((ud.setCell ⟨w.heap.size + 1 + 1, 0, none⟩ (.int .i64 d.next)).setCell ⟨w.heap.size + 1 + 1, 1, none⟩ (.slice la1 ln1 lc1)).setCell ⟨w.heap.size + 1 + 1, 2, none⟩ (.slice fa1 fn1 fc1)).setCell ⟨w.heap.size + 1 + 1, 3, none⟩ (.slice (some ⟨g, 0, none⟩) 4 sc1)).heap[w.heap.size + 1 + 1]? = some (.cells #[.int .i64 d.next, .slice la1 ln1 lc1, .slice fa1 fn1 fc1, .slice (some ⟨g, 0, none⟩) 4 sc1] 29 (0, 0)) from sv4_heap (unhide N2) (.int .i64 d.next) (.slice la1 ln1 lc1) (.slice fa1 fn1 fc1) (.slice (some ⟨g, 0, none⟩) 4 sc1))
   have BD1 := hide (show Below w.heap.size w ((((ud.setCell ⟨w.heap.size + 1 + 1, 0, none⟩ (.int .i64 d.next)).setCell ⟨w.heap.size + 1 + 1, 1, none⟩ (.slice la1 ln1 lc1)).setCell ⟨w.heap.size + 1 + 1, 2, none⟩ (.slice fa1 fn1 fc1)).setCell ⟨w.heap.size + 1 + 1, 3, none⟩ (.slice (some ⟨g, 0, none⟩) 4 sc1)) from bel_sv4 (unhide BD0) (by omega) (.int .i64 d.next) (.slice la1 ln1 lc1) (.slice fa1 fn1 fc1) (.slice (some ⟨g, 0, none⟩) 4 sc1))
   have E3 := hide ((hw.block (w.heap.size + 1 + 1 + 1) (blk_lt (unhide N3)) (by omega)).trans (unhide N3))
   clear hw
   go_simp
   refine hK.out _ _ (unhide LD _ (unhide D1)) (fun hHeld => ?_)
   clear hK K
   clear c0 c1 c2 c3 cf0 cf1 cf2 cf3
   generalize ((((ud.setCell ⟨w.heap.size + 1 + 1, 0, none⟩ (.int .i64 d.next)).setCell ⟨w.heap.size + 1 + 1, 1, none⟩ (.slice la1 ln1 lc1)).setCell ⟨w.heap.size + 1 + 1, 2, none⟩ (.slice fa1 fn1 fc1)).setCell ⟨w.heap.size + 1 + 1, 3, none⟩ (.slice (some ⟨g, 0, none⟩) 4 sc1)) = ue at *
   refine rd [3] (.cons rfl (fun K hK => ?_) .nil)
   have c0 := (heap_at (unhide E3) 0).1
   have c1 := (heap_at (unhide E3) 1).1
   have c2 := (heap_at (unhide E3) 2).1
   have c3 := (heap_at (unhide E3) 3).1
   have cf0 := (heap_at (unhide E3) 0).2
   have cf1 := (heap_at (unhide E3) 1).2
   have cf2 := (heap_at (unhide E3) 2).2
   have cf3 := (heap_at (unhide E3) 3).2
   have hw : WrB (fun i => i = w.heap.size + 1 + 1 + 1) ue ((((ue.setCell ⟨w.heap.size + 1 + 1 + 1, 0, none⟩ (.int .i64 0)).setCell ⟨w.heap.size + 1 + 1 + 1, 1, none⟩ (.int .i64 t)).setCell ⟨w.heap.size + 1 + 1 + 1, 2, none⟩ (.string ⟨#[]⟩)).setCell ⟨w.heap.size + 1 + 1 + 1, 3, none⟩ (.slice none 0 0)) := sv4_wr ue (w.heap.size + 1 + 1 + 1) (.int .i64 0) (.int .i64 t) (.string ⟨#[]⟩) (.slice none 0 0)
   have D2 := hide (show ∀ i, i ≠ w.heap.size + 1 + 1 → i ≠ w.heap.size + 1 + 1 + 1 → i < uf.heap.size → ((((ue.setCell ⟨w.heap.size + 1 + 1 + 1, 0, none⟩ (.int .i64 0)).setCell ⟨w.heap.size + 1 + 1 + 1, 1, none⟩ (.int .i64 t)).setCell ⟨w.heap.size + 1 + 1 + 1, 2, none⟩ (.string ⟨#[]⟩)).setCell ⟨w.heap.size + 1 + 1 + 1, 3, none⟩ (.slice none 0 0)).heap[i]? = uf.heap[i]? from fun i h1 h2 h3 => (hw.block i (Nat.lt_of_lt_of_le h3 (unhide ZD1)) (by first | exact h1 | exact h2)).trans (unhide D1 i h1 h2 h3))
   have ZD2 := hide (show uf.heap.size ≤ ((((ue.setCell ⟨w.heap.size + 1 + 1 + 1, 0, none⟩ (.int .i64 0)).setCell ⟨w.heap.size + 1 + 1 + 1, 1, none⟩ (.int .i64 t)).setCell ⟨w.heap.size + 1 + 1 + 1, 2, none⟩ (.string ⟨#[]⟩)).setCell ⟨w.heap.size + 1 + 1 + 1, 3, none⟩ (.slice none 0 0)).heap.size from Nat.le_trans (unhide ZD1) hw.size)
   have Kb := hide (show ((((ue.setCell ⟨w.heap.size + 1 + 1 + 1, 0, none⟩ (.int .i64 0)).setCell ⟨w.heap.size + 1 + 1 + 1, 1, none⟩ (.int .i64 t)).setCell ⟨w.heap.size + 1 + 1 + 1, 2, none⟩ (.string ⟨#[]⟩)).setCell ⟨w.heap.size + 1 + 1 + 1, 3, none⟩ (.slice none 0 0)).heap[w.heap.size + 1 + 1 + 1]? = some (.cells #[.int .i64 0, .int .i64 t, .string ⟨#[]⟩, .slice none 0 0] 40 (0, 0)) from sv4_heap (unhide E3) (.int .i64 0) (.int .i64 t) (.string ⟨#[]⟩) (.slice none 0 0))
   have BD2 := hide (show Below w.heap.size w ((((ue.setCell ⟨w.heap.size + 1 + 1 + 1, 0, none⟩ (.int .i64 0)).setCell ⟨w.heap.size + 1 + 1 + 1, 1, none⟩ (.int .i64 t)).setCell ⟨w.heap.size + 1 + 1 + 1, 2, none⟩ (.string ⟨#[]⟩)).setCell ⟨w.heap.size + 1 + 1 + 1, 3, none⟩ (.slice none 0 0)) from bel_sv4 (unhide BD1) (by omega) (.int .i64 0) (.int .i64 t) (.string ⟨#[]⟩) (.slice none 0 0))
   have Kc := hide ((hw.block (w.heap.size + 1 + 1) (blk_lt (unhide Ka)) (by omega)).trans (unhide Ka))
   clear hw
   go_simp
   refine hK.out _ _ (unhide LD _ (unhide D2)) (fun hHeld => ?_)
   clear hK K
   clear c0 c1 c2 c3 cf0 cf1 cf2 cf3
   generalize ((((ue.setCell ⟨w.heap.size + 1 + 1 + 1, 0, none⟩ (.int .i64 0)).setCell ⟨w.heap.size + 1 + 1 + 1, 1, none⟩ (.int .i64 t)).setCell ⟨w.heap.size + 1 + 1 + 1, 2, none⟩ (.string ⟨#[]⟩)).setCell ⟨w.heap.size + 1 + 1 + 1, 3, none⟩ (.slice none 0 0)) = ug at *
   refine wpAnyH_done (by kernel_rfl) ?_ _
   have r0 := (heap_at (unhide Kc) 0).1
   have r1 := (heap_at (unhide Kc) 1).1
   have r2 := (heap_at (unhide Kc) 2).1
   have r3 := (heap_at (unhide Kc) 3).1
   have q0 := (heap_at (unhide Kb) 0).1
   have q1 := (heap_at (unhide Kb) 1).1
   have q2 := (heap_at (unhide Kb) 2).1
   have q3 := (heap_at (unhide Kb) 3).1
   have OG := (unhide OF).wr (P := fun i => i = w.heap.size + 1 + 1 ∨ i = w.heap.size + 1 + 1 + 1) (w' := ug) ⟨(unhide BD2).os.trans (unhide BF).os.symm, (unhide BD2).tape.trans (unhide BF).tape.symm, (unhide BD2).output.trans (unhide BF).output.symm, unhide ZD2, fun i hi hp => unhide D2 i (fun e => hp (.inl e)) (fun e => hp (.inr e)) hi⟩ (fun i e => by rcases e with e | e <;> omega)
   have RES := hide (show StRes ⟨la, ln, lc⟩ ⟨fa, fn, fc⟩ ⟨sa, sn, sc⟩ hs d (stepV d ⟨5, (i : Int), key, tu, val⟩) w (.returned (.tuple #[.agg #[.int .i64 d.next, .slice la1 ln1 lc1, .slice fa1 fn1 fc1, .slice (some ⟨g, 0, none⟩) 4 sc1], .agg #[.int .i64 0, .int .i64 t, .string ⟨#[]⟩, .slice none 0 0]])) ug from st_own OG (Nat.le_of_lt hz0) (unhide BD2) (unhide ST2))
   clear hHeld LD D0 D1 D2 N2 N3 E3 Ka Kb Kc
   go_wp2_with fail
   refine bodyPost_ret (v := .tuple #[.agg #[.int .i64 d.next, .slice la1 ln1 lc1, .slice fa1 fn1 fc1, .slice (some ⟨g, 0, none⟩) 4 sc1], .agg #[.int .i64 0, .int .i64 t, .string ⟨#[]⟩, .slice none 0 0]]) (by simp [results, Tryz.results36, go_sem, *]) rfl ?_
   exact unhide RES
end Go.Proofs.YtdnjgbckkmbmfaaGreat

namespace Go.Proofs.YtdnjgbckkmbmfaaGreat
open Go.RowKit

set_option maxHeartbeats 8000000 in
theorem l06Step_6 (d : VsD) (i : Nat) (key tu val : ByteArray) (l f s : Sl) (hs : List SeH) (w : World) (hI : VzIn w l f s hs d) (hS : SmV d) (hi : i < 4) :
  Calls Tryz.prog 36 #[.agg (vzC d.next l f s), .agg #[.int .i64 6, .int .i64 (i : Int), .string key, .string tu, .string val]] w fun e w' => StRes l f s hs d (stepV d ⟨6, (i : Int), key, tu, val⟩) w e w' := by
 have hz := allocC_size [(vzC d.next l f s, 29), (#[.int .i64 6, .int .i64 (i : Int), .string key, .string tu, .string val], 37), (#[.int .i64 0, .slice none 0 0, .slice none 0 0, .slice none 0 0], 29), (#[.int .i64 0, .int .i64 0, .string ⟨#[]⟩, .slice none 0 0], 40)] w
 have b1 := allocC_bel [(vzC d.next l f s, 29), (#[.int .i64 6, .int .i64 (i : Int), .string key, .string tu, .string val], 37), (#[.int .i64 0, .slice none 0 0, .slice none 0 0, .slice none 0 0], 29), (#[.int .i64 0, .int .i64 0, .string ⟨#[]⟩, .slice none 0 0], 40)] w
 have AT := allocC_at [(vzC d.next l f s, 29), (#[.int .i64 6, .int .i64 (i : Int), .string key, .string tu, .string val], 37), (#[.int .i64 0, .slice none 0 0, .slice none 0 0, .slice none 0 0], 29), (#[.int .i64 0, .int .i64 0, .string ⟨#[]⟩, .slice none 0 0], 40)] w
 obtain ⟨W, hW⟩ : ∃ W, W = allocC w [(vzC d.next l f s, 29), (#[.int .i64 6, .int .i64 (i : Int), .string key, .string tu, .string val], 37), (#[.int .i64 0, .slice none 0 0, .slice none 0 0, .slice none 0 0], 29), (#[.int .i64 0, .int .i64 0, .string ⟨#[]⟩, .slice none 0 0], 40)] := ⟨_, rfl⟩
 rw [← hW] at hz b1 AT
 simp only [List.length_cons, List.length_nil] at hz
 have k0 : W.heap[w.heap.size]? = some (.cells (vzC d.next l f s) 29 (0, 0)) := AT 0 _ _ rfl
 have k1 : W.heap[w.heap.size + 1]? = some (.cells #[.int .i64 6, .int .i64 (i : Int), .string key, .string tu, .string val] 37 (0, 0)) := AT 1 _ _ rfl
 have k2 : W.heap[w.heap.size + 1 + 1]? = some (.cells #[.int .i64 0, .slice none 0 0, .slice none 0 0, .slice none 0 0] 29 (0, 0)) := AT 2 _ _ rfl
 have k3 : W.heap[w.heap.size + 1 + 1 + 1]? = some (.cells #[.int .i64 0, .int .i64 0, .string ⟨#[]⟩, .slice none 0 0] 40 (0, 0)) := AT 3 _ _ rfl
 have hz0 : w.heap.size < W.heap.size := by omega
 have hz1 : w.heap.size + 1 < W.heap.size := by omega
 have hz2 : w.heap.size + 1 + 1 < W.heap.size := by omega
 have hz3 : w.heap.size + 1 + 1 + 1 < W.heap.size := by omega
 unfold allocC allocC allocC allocC allocC at hW
 have CO := hide (l06Own_any d l f s hs W (hI.below b1) (by have := hI.vr.1; have := hS.list; omega) (by have := hI.fr.1; have := hS.fen; omega) (by have := hI.len; have := hS.ses; omega) (fun h hh => by
  obtain ⟨k, hk, rfl⟩ := List.getElem_of_mem hh
  obtain ⟨hd, he⟩ := hI.at hk
  have h1 := (SeIn.row hI.sr hk).1
  have h2 := hS.ws d.ses[k] (List.getElem_mem hd)
  rw [← he] at h2
  omega))
 have BH := hide b1
 have HI := hide hI
 have HS := hide hS
 obtain ⟨la, ln, lc⟩ := l
 obtain ⟨fa, fn, fc⟩ := f
 obtain ⟨sa, sn, sc⟩ := s
 unfold vzC at k0 hW CO ⊢
 simp only at k0 hW CO ⊢
 have K0 := hide k0
 have K1 := hide k1
 have K2 := hide k2
 have K3 := hide k3
 have hnx := hS.nx
 have hi0 : decide ((0 : Int) ≤ (i : Int)) = true := decide_eq_true (by omega)
 have hi3 : decide ((i : Int) ≤ 3) = true := decide_eq_true (by omega)
 have a0 := (heap_at k1 0).1
 have a1 := (heap_at k1 1).1
 have v0 := (heap_at k0 0).1
 have v1 := (heap_at k0 1).1
 have v2 := (heap_at k0 2).1
 have v3 := (heap_at k0 3).1
 clear hI hS hz b1 AT k0 k1 k2 k3
 go_enter Tryz.func36, Tryz.ntmps36
 go_wp2_with (go_at_call 75; refine (l01In_any _ _ _ _).mono ?_; rintro e w9 ⟨rfl, rfl⟩)
 rw [← hW]
 clear hW
 refine (unhide CO).mono ?_
 rintro e w1 ⟨⟨la1, ln1, lc1⟩, ⟨fa1, fn1, fc1⟩, ⟨sa1, sn1, sc1⟩, hs1, rfl, hO, hb1⟩
 clear a0 a1 v0 v1 v2 v3 hi0 hi3 CO
 have hl4 : hs1.length = 4 := by rw [hO.reads.len.2]; exact (unhide HS).ses
 have hih : i < hs1.length := by omega
 obtain ⟨g, hsa, hsn, hgB, hgw, c0, c1, c2, hwo, hid, hxd⟩ := hO.sesAt hih
 simp only at hsa hsn
 rw [hl4] at hsn
 subst hsa hsn
 unfold vzC
 simp only
 have STP := hide (show stepV d ⟨6, (i : Int), key, tu, val⟩ = sesV d ⟨6, (i : Int), key, tu, val⟩ i hs1[i].X by
  unfold stepV
  rw [if_neg (by simp), if_neg (by simp only; omega), hxd]
  congr 1
  rw [show ((i : Nat) : Int).toNat = i by omega, List.getD_eq_getElem?_getD, List.getElem?_eq_getElem hid]
  rfl)
 have XL := hide (show hs1[i].X.ws.length ≤ 8 by rw [hxd]; exact (unhide HS).ws _ (List.getElem_mem hid))
 have SX := hide hxd
 clear hxd
 generalize hx1 : hs1[i] = x at *
 have HX := hide hx1
 clear hx1
 obtain ⟨⟨o, t, wl⟩, ⟨wa, wn, wc⟩⟩ := x
 simp only at c0 c1 c2 hwo STP XL
 have bA : Below w1.heap.size w1 ((w1.alloc (.cells #[.int .i64 d.next, .slice la1 ln1 lc1, .slice fa1 fn1 fc1, .slice (some ⟨g, 0, none⟩) 4 sc1] 29)).alloc (.cells #[.bool o, .int .i64 t, .slice wa wn wc] 55)) := ((Below.refl _ _).alloc (Nat.le_refl _) _).alloc (by simp) _
 obtain ⟨-, k6, k7, z7⟩ := twoBx (w := w1) (c1 := #[.int .i64 d.next, .slice la1 ln1 lc1, .slice fa1 fn1 fc1, .slice (some ⟨g, 0, none⟩) 4 sc1]) (t1 := 29) (c2 := #[.bool o, .int .i64 t, .slice wa wn wc]) (t2 := 55) rfl
 have hW1 := hb1.size
 have NBS := hide (fun q hq => (hO.so.lt q hq).2)
 have NBV := hide (fun q hq => (hO.vo.lt q hq).2)
 have NBF := hide (fun q hq => (hO.fo.lt q hq).2)
 have OU := hide (hO.below bA)
 have BU := hide (hb1.trans (bA.mono hW1))
 have OX := hide (rb_ownsRow_below hwo bA)
 have K6 := hide k6
 have K7 := hide k7
 have hb6 : W.heap.size ≤ w1.heap.size := hW1
 have a1 : (w1.alloc (.cells #[.int .i64 d.next, .slice la1 ln1 lc1, .slice fa1 fn1 fc1, .slice (some ⟨g, 0, none⟩) 4 sc1] 29)).cell? ⟨w.heap.size + 1, 1, none⟩ = some (.int .i64 (i : Int)) := (((Below.refl w1.heap.size w1).alloc (Nat.le_refl _) (.cells #[.int .i64 d.next, .slice la1 ln1 lc1, .slice fa1 fn1 fc1, .slice (some ⟨g, 0, none⟩) 4 sc1] 29)).cell (p := ⟨w.heap.size + 1, 1, none⟩) (by show w.heap.size + 1 < w1.heap.size; omega)).trans ((heap_at ((hb1.block (w.heap.size + 1) hz1).trans (unhide K1)) 1).1)
 have d0 := (((Below.refl w1.heap.size w1).alloc (Nat.le_refl _) (.cells #[.int .i64 d.next, .slice la1 ln1 lc1, .slice fa1 fn1 fc1, .slice (some ⟨g, 0, none⟩) 4 sc1] 29)).cell (p := ⟨g, i * 3, none⟩) hgw).trans c0
 have d1 := (((Below.refl w1.heap.size w1).alloc (Nat.le_refl _) (.cells #[.int .i64 d.next, .slice la1 ln1 lc1, .slice fa1 fn1 fc1, .slice (some ⟨g, 0, none⟩) 4 sc1] 29)).cell (p := ⟨g, i * 3 + 1, none⟩) hgw).trans c1
 have d2 := (((Below.refl w1.heap.size w1).alloc (Nat.le_refl _) (.cells #[.int .i64 d.next, .slice la1 ln1 lc1, .slice fa1 fn1 fc1, .slice (some ⟨g, 0, none⟩) 4 sc1] 29)).cell (p := ⟨g, i * 3 + 2, none⟩) hgw).trans c2
 have hin : (i : Int) < 4 := by omega
 clear hO hwo bA k6 k7 c0 c1 c2 hb1 z7
 go_upto_region 7 with fail
 clear d0 d1 d2 a1 hin
 generalize (w1.alloc (.cells #[.int .i64 d.next, .slice la1 ln1 lc1, .slice fa1 fn1 fc1, .slice (some ⟨g, 0, none⟩) 4 sc1] 29)).alloc (.cells #[.bool o, .int .i64 t, .slice wa wn wc] 55) = u at *
 generalize hb6e : w1.heap.size = b6 at *
 clear hb6e
 cases o with
 | false =>
  have kv := ((unhide BU).block w.heap.size hz0).trans (unhide K0)
  have v0 := (heap_at kv 0).1
  have v1 := (heap_at kv 1).1
  have v2 := (heap_at kv 2).1
  have v3 := (heap_at kv 3).1
  have ka := ((unhide BU).block (w.heap.size + 1) hz1).trans (unhide K1)
  have a0 := (heap_at ka 0).1
  have a1 := (heap_at ka 1).1
  have a2 := (heap_at ka 2).1
  have a3 := (heap_at ka 3).1
  have a4 := (heap_at ka 4).1
  have ky := ((unhide BU).block (w.heap.size + 1 + 1) hz2).trans (unhide K2)
  have y0 := (heap_at ky 0).1
  have y1 := (heap_at ky 1).1
  have y2 := (heap_at ky 2).1
  have y3 := (heap_at ky 3).1
  have yf0 := (heap_at ky 0).2
  have yf1 := (heap_at ky 1).2
  have yf2 := (heap_at ky 2).2
  have yf3 := (heap_at ky 3).2
  have kt := ((unhide BU).block (w.heap.size + 1 + 1 + 1) hz3).trans (unhide K3)
  have t0 := (heap_at kt 0).1
  have t1 := (heap_at kt 1).1
  have t2 := (heap_at kt 2).1
  have t3 := (heap_at kt 3).1
  have tf0 := (heap_at kt 0).2
  have tf1 := (heap_at kt 1).2
  have tf2 := (heap_at kt 2).2
  have tf3 := (heap_at kt 3).2
  have x0 := (heap_at (unhide K7) 0).1
  have RES := hide (show StRes ⟨la, ln, lc⟩ ⟨fa, fn, fc⟩ ⟨sa, sn, sc⟩ hs d (stepV d ⟨6, (i : Int), key, tu, val⟩) w (.returned (.tuple #[.agg #[.int .i64 d.next, .slice la ln lc, .slice fa fn fc, .slice sa sn sc], .agg #[.int .i64 10, .int .i64 0, .string ⟨#[]⟩, .slice none 0 0]])) ((((((((u.setCell ⟨w.heap.size + 1 + 1, 0, none⟩ (.int .i64 d.next)).setCell ⟨w.heap.size + 1 + 1, 1, none⟩ (.slice la ln lc)).setCell ⟨w.heap.size + 1 + 1, 2, none⟩ (.slice fa fn fc)).setCell ⟨w.heap.size + 1 + 1, 3, none⟩ (.slice sa sn sc)).setCell ⟨w.heap.size + 1 + 1 + 1, 0, none⟩ (.int .i64 10)).setCell ⟨w.heap.size + 1 + 1 + 1, 1, none⟩ (.int .i64 0)).setCell ⟨w.heap.size + 1 + 1 + 1, 2, none⟩ (.string ⟨#[]⟩)).setCell ⟨w.heap.size + 1 + 1 + 1, 3, none⟩ (.slice none 0 0)) from st_old (unhide HI) (bel_sv4 (bel_sv4 ((unhide BH).trans ((unhide BU).mono (unhide BH).size)) (by omega) _ _ _ _) (by omega) _ _ _ _) (by rw [unhide STP]; unfold sesV; rw [if_neg (by simp), if_pos rfl]))
  go_wp2_with fail
  refine bodyPost_ret (v := .tuple #[.agg #[.int .i64 d.next, .slice la ln lc, .slice fa fn fc, .slice sa sn sc], .agg #[.int .i64 10, .int .i64 0, .string ⟨#[]⟩, .slice none 0 0]]) (by simp [results, Tryz.results36, go_sem, *]) rfl ?_
  exact unhide RES
 | true =>
  have x0 := (heap_at (unhide K7) 0).1
  have x1 := (heap_at (unhide K7) 1).1
  have ka := ((unhide BU).block (w.heap.size + 1) hz1).trans (unhide K1)
  have a0 := (heap_at ka 0).1
  have bR : Below u.heap.size u (u.alloc (.cells #[.int .i64 0, .int .i64 t, .string ⟨#[]⟩, .slice none 0 0] 40)) := (Below.refl _ _).alloc (Nat.le_refl _) _
  have k8 := heap_alloc_new u (.cells #[.int .i64 0, .int .i64 t, .string ⟨#[]⟩, .slice none 0 0] 40)
  have OR := hide ((unhide OU).below bR)
  have BR := hide ((unhide BU).trans (bR.mono (unhide BU).size))
  have XR := hide (rb_ownsRow_below (unhide OX) bR)
  have K6R := hide ((bR.block b6 (blk_lt (unhide K6))).trans (unhide K6))
  have K7R := hide ((bR.block (b6 + 1) (blk_lt (unhide K7))).trans (unhide K7))
  have K8 := hide k8
  have h78 : b6 + 1 < u.heap.size := blk_lt (unhide K7)
  clear OU BU OX K6 K7 k8 bR ka
  go_upto_region 18 with fail
  clear x0 x1 a0
  generalize u.alloc (.cells #[.int .i64 0, .int .i64 t, .string ⟨#[]⟩, .slice none 0 0] 40) = ur at *
  generalize hb8e : u.heap.size = b8 at *
  clear hb8e
  have ka := ((unhide BR).block (w.heap.size + 1) hz1).trans (unhide K1)
  have a0 := (heap_at ka 0).1
  have z0 := (heap_at (unhide K6R) 0).1
  have z1 := (heap_at (unhide K6R) 1).1
  have z2 := (heap_at (unhide K6R) 2).1
  have z3 := (heap_at (unhide K6R) 3).1
  have x0 := (heap_at (unhide K7R) 0).1
  have x1 := (heap_at (unhide K7R) 1).1
  have x2 := (heap_at (unhide K7R) 2).1
  have CM := hide (l06Commit_any d ⟨la1, ln1, lc1⟩ ⟨fa1, fn1, fc1⟩ ⟨some ⟨g, 0, none⟩, 4, sc1⟩ ⟨wa, wn, wc⟩ true t wl ur (vrow_of_owns (unhide OR).vo) (frow_of_owns (unhide OR).fo) (cap_of_owns (unhide OR).vo) (by have := (unhide HS).list; have := unhide XL; omega) (by have h1 : fn1 = d.fen.length := owns_n (unhide OR).fo; have h2 := (unhide HS).fen; show fn1 ≤ 1000000; omega) (vrow_of_owns (unhide XR)))
  unfold vzC sesC at CM
  simp only at CM
  clear ka
  go_wp2_with fail
  clear a0 z0 z1 z2 z3 x0 x1 x2
  refine (unhide CM).mono ?_
  intro e w2 hCm
  unfold CmRes at hCm
  clear CM
  have STI := hide (show stepV d ⟨6, (i : Int), key, tu, val⟩ = if wl.any (conV d) = true then (⟨d.next, d.list, d.fen, d.ses.set i clS⟩, repV 9 t) else (⟨d.next, wl.foldl insV d.list, d.fen, d.ses.set i clS⟩, repV 0 t) by rw [unhide STP]; unfold sesV; rw [if_neg (by simp), if_neg (by simp), if_neg (by simp [fitA])]; unfold inV; rw [if_neg (by simp), if_neg (by simp), if_neg (by simp), if_pos rfl])
  by_cases hcf : wl.any (conV d) = true
  ·rw [if_pos hcf] at hCm
   obtain ⟨rfl, hb2⟩ := hCm
   have ST2 := hide (show stepV d ⟨6, (i : Int), key, tu, val⟩ = (⟨d.next, d.list, d.fen, d.ses.set i clS⟩, repV 9 t) by rw [unhide STI, if_pos hcf])
   clear hcf STI
   unfold vzC
   simp only
   have hbur := (unhide BR).size
   have kz := (hb2.block b6 (blk_lt (unhide K6R))).trans (unhide K6R)
   have kp := (hb2.block b8 (blk_lt (unhide K8))).trans (unhide K8)
   have z0 := (heap_at kz 0).1
   have z1 := (heap_at kz 1).1
   have z2 := (heap_at kz 2).1
   have z3 := (heap_at kz 3).1
   have zf0 := (heap_at kz 0).2
   have zf1 := (heap_at kz 1).2
   have zf2 := (heap_at kz 2).2
   have zf3 := (heap_at kz 3).2
   have hw : WrB (fun i => i = b6) w2 ((((w2.setCell ⟨b6, 0, none⟩ (.int .i64 d.next)).setCell ⟨b6, 1, none⟩ (.slice la1 ln1 lc1)).setCell ⟨b6, 2, none⟩ (.slice fa1 fn1 fc1)).setCell ⟨b6, 3, none⟩ (.slice (some ⟨g, 0, none⟩) 4 sc1)) := sv4_wr w2 b6 (.int .i64 d.next) (.slice la1 ln1 lc1) (.slice fa1 fn1 fc1) (.slice (some ⟨g, 0, none⟩) 4 sc1)
   have kq := (hw.block b8 (blk_lt kp) (by omega)).trans kp
   have p0 := (heap_at kq 0).1
   have pf0 := (heap_at kq 0).2
   have hw2 : WrB (fun i => i = b8) ((((w2.setCell ⟨b6, 0, none⟩ (.int .i64 d.next)).setCell ⟨b6, 1, none⟩ (.slice la1 ln1 lc1)).setCell ⟨b6, 2, none⟩ (.slice fa1 fn1 fc1)).setCell ⟨b6, 3, none⟩ (.slice (some ⟨g, 0, none⟩) 4 sc1)) (((((w2.setCell ⟨b6, 0, none⟩ (.int .i64 d.next)).setCell ⟨b6, 1, none⟩ (.slice la1 ln1 lc1)).setCell ⟨b6, 2, none⟩ (.slice fa1 fn1 fc1)).setCell ⟨b6, 3, none⟩ (.slice (some ⟨g, 0, none⟩) 4 sc1)).setCell ⟨b8, 0, none⟩ (.int .i64 9)) := set1_wr _ _ _ _
   have km : ((((w2.setCell ⟨b6, 0, none⟩ (.int .i64 d.next)).setCell ⟨b6, 1, none⟩ (.slice la1 ln1 lc1)).setCell ⟨b6, 2, none⟩ (.slice fa1 fn1 fc1)).setCell ⟨b6, 3, none⟩ (.slice (some ⟨g, 0, none⟩) 4 sc1)).heap[b6]? = some (.cells #[.int .i64 d.next, .slice la1 ln1 lc1, .slice fa1 fn1 fc1, .slice (some ⟨g, 0, none⟩) 4 sc1] 29 (0, 0)) := sv4_heap kz (.int .i64 d.next) (.slice la1 ln1 lc1) (.slice fa1 fn1 fc1) (.slice (some ⟨g, 0, none⟩) 4 sc1)
   have K62 := hide (show (((((w2.setCell ⟨b6, 0, none⟩ (.int .i64 d.next)).setCell ⟨b6, 1, none⟩ (.slice la1 ln1 lc1)).setCell ⟨b6, 2, none⟩ (.slice fa1 fn1 fc1)).setCell ⟨b6, 3, none⟩ (.slice (some ⟨g, 0, none⟩) 4 sc1)).setCell ⟨b8, 0, none⟩ (.int .i64 9)).heap[b6]? = some (.cells #[.int .i64 d.next, .slice la1 ln1 lc1, .slice fa1 fn1 fc1, .slice (some ⟨g, 0, none⟩) 4 sc1] 29 (0, 0)) from (hw2.block b6 (blk_lt km) (by omega)).trans km)
   have K82 := hide (show (((((w2.setCell ⟨b6, 0, none⟩ (.int .i64 d.next)).setCell ⟨b6, 1, none⟩ (.slice la1 ln1 lc1)).setCell ⟨b6, 2, none⟩ (.slice fa1 fn1 fc1)).setCell ⟨b6, 3, none⟩ (.slice (some ⟨g, 0, none⟩) 4 sc1)).setCell ⟨b8, 0, none⟩ (.int .i64 9)).heap[b8]? = some (.cells #[.int .i64 9, .int .i64 t, .string ⟨#[]⟩, .slice none 0 0] 40 (0, 0)) by have := heap_set kq 0 (.int .i64 9); simpa using this)
   have OW := (unhide OR).below hb2
   have OR2 := hide (show VzOwn (((((w2.setCell ⟨b6, 0, none⟩ (.int .i64 d.next)).setCell ⟨b6, 1, none⟩ (.slice la1 ln1 lc1)).setCell ⟨b6, 2, none⟩ (.slice fa1 fn1 fc1)).setCell ⟨b6, 3, none⟩ (.slice (some ⟨g, 0, none⟩) 4 sc1)).setCell ⟨b8, 0, none⟩ (.int .i64 9)) W.heap.size ⟨la1, ln1, lc1⟩ ⟨fa1, fn1, fc1⟩ ⟨some ⟨g, 0, none⟩, 4, sc1⟩ hs1 d from ((OW.box kz (by decide) (by decide) (by decide) hw).box kq (by decide) (by decide) (by decide) hw2))
   have B2w := (unhide BR).trans (hb2.mono hbur)
   have B3w := B2w.trans (WrB.below hw (fun k e => by rw [e]; exact hb6) B2w.size)
   have BR2 := hide (show Below W.heap.size W (((((w2.setCell ⟨b6, 0, none⟩ (.int .i64 d.next)).setCell ⟨b6, 1, none⟩ (.slice la1 ln1 lc1)).setCell ⟨b6, 2, none⟩ (.slice fa1 fn1 fc1)).setCell ⟨b6, 3, none⟩ (.slice (some ⟨g, 0, none⟩) 4 sc1)).setCell ⟨b8, 0, none⟩ (.int .i64 9)) from B3w.trans (WrB.below hw2 (fun k e => by rw [e]; omega) B3w.size))
   clear hw hw2 km kq kp kz OW B2w B3w hb2 OR BR XR K6R K7R K8
   go_upto_region 53 with fail
   clear z0 z1 z2 z3 zf0 zf1 zf2 zf3 p0 pf0
   generalize (((((w2.setCell ⟨b6, 0, none⟩ (.int .i64 d.next)).setCell ⟨b6, 1, none⟩ (.slice la1 ln1 lc1)).setCell ⟨b6, 2, none⟩ (.slice fa1 fn1 fc1)).setCell ⟨b6, 3, none⟩ (.slice (some ⟨g, 0, none⟩) 4 sc1)).setCell ⟨b8, 0, none⟩ (.int .i64 9)) = ur2 at *
   have ka := ((unhide BR2).block (w.heap.size + 1) hz1).trans (unhide K1)
   have a0 := (heap_at ka 0).1
   have a1 := (heap_at ka 1).1
   have z3 := (heap_at (unhide K62) 3).1
   have bL : Below ur2.heap.size ur2 (ur2.alloc (.cells #[] 43)) := (Below.refl _ _).alloc (Nat.le_refl _) _
   have OL := (unhide OR2).below bL
   have NL := gd_base (nil_lit (w := ur2) 43 4) (unhide BR2).size
   have hih : i < hs1.length := by omega
   obtain ⟨g2, hg2, -, ⟨c0, c1, c2⟩, hfz, OP, WP, hki⟩ := OL.put hih ⟨clS, ⟨some ⟨ur2.heap.size, 0, none⟩, 0, 0⟩⟩ NL (fun q hq => by
    injection hq with hq
    subst hq
    exact ⟨fun hn => Nat.lt_irrefl _ ((unhide OR2).so.lt _ hn).2, fun e => Nat.lt_irrefl _ ((unhide OR2).vo.lt _ e).2⟩)
   simp only at hg2
   injection hg2 with hg2
   injection hg2 with hg2 _ _
   subst hg2
   rw [unhide HX] at c0 c1 c2
   unfold clS at OP WP
   simp only at c0 c1 c2 OP WP
   have hf0 := hfz (i * 3)
   have hf1 := hfz (i * 3 + 1)
   have hf2 := hfz (i * 3 + 1 + 1)
   obtain ⟨cur, hcur⟩ := hki
   have BL := (unhide BR2).trans (bL.mono (unhide BR2).size)
   have BP := hide (BL.trans (WrB.below WP (fun k e => by rw [e]; exact hgB) BL.size))
   have K6L := (bL.block b6 (blk_lt (unhide K62))).trans (unhide K62)
   have h6g : b6 ≠ g := fun e => by rw [e, hcur] at K6L; injection K6L with K6L; injection K6L with _ K6L _; exact absurd K6L (by decide)
   have K6P := hide ((WP.block b6 (blk_lt K6L) h6g).trans K6L)
   have OPh := hide OP
   have a1L := (bL.cell (p := ⟨w.heap.size + 1, 1, none⟩) (cell_lt a1)).trans a1
   have z3L := (bL.cell (p := ⟨b6, 3, none⟩) (cell_lt z3)).trans z3
   have hin : (i : Int) < 4 := by omega
   have OF := hide OP
   have BF2 := BP
   have BF := hide ((unhide BH).trans ((unhide BP).mono (unhide BH).size))
   have K6F := K6P
   have K8L := (bL.block b8 (blk_lt (unhide K82))).trans (unhide K82)
   have h8g : b8 ≠ g := fun e => by rw [e, hcur] at K8L; injection K8L with K8L; injection K8L with _ K8L _; exact absurd K8L (by decide)
   have K8F := hide ((WP.block b8 (blk_lt K8L) h8g).trans K8L)
   clear OP WP K6L BL bL OL NL hfz hcur ka K8L K6P OPh
   go_upto_region 54 with fail
   clear a0 a1 c0 c1 c2 hf0 hf1 hf2 a1L z3L z3
   generalize ((((ur2.alloc (.cells #[] 43)).setCell ⟨g, i * 3, none⟩ (.bool false)).setCell ⟨g, i * 3 + 1, none⟩ (.int .i64 0)).setCell ⟨g, i * 3 + 1 + 1, none⟩ (.slice (some ⟨ur2.heap.size, 0, none⟩) 0 0)) = uf at *
   have z0 := (heap_at (unhide K6F) 0).1
   have z1 := (heap_at (unhide K6F) 1).1
   have z2 := (heap_at (unhide K6F) 2).1
   have z3 := (heap_at (unhide K6F) 3).1
   have p0 := (heap_at (unhide K8F) 0).1
   have p1 := (heap_at (unhide K8F) 1).1
   have p2 := (heap_at (unhide K8F) 2).1
   have p3 := (heap_at (unhide K8F) 3).1
   have N2 := hide (((unhide BF2).block (w.heap.size + 1 + 1) hz2).trans (unhide K2))
   have N3 := hide (((unhide BF2).block (w.heap.size + 1 + 1 + 1) hz3).trans (unhide K3))
   have h60 : b6 < uf.heap.size := blk_lt (unhide K6F)
   have h80 : b8 < uf.heap.size := blk_lt (unhide K8F)
   have h6W : W.heap.size ≤ uf.heap.size := (unhide BF2).size
   have LD := hide (show ∀ v : World, (∀ i, i ≠ w.heap.size + 1 + 1 → i ≠ w.heap.size + 1 + 1 + 1 → i < uf.heap.size → v.heap[i]? = uf.heap[i]?) → (fun u => u.cell? ⟨b6, 0, none⟩ = some (.int .i64 d.next) ∧ u.cell? ⟨b6, 1, none⟩ = some (.slice la1 ln1 lc1) ∧ u.cell? ⟨b6, 2, none⟩ = some (.slice fa1 fn1 fc1) ∧ u.cell? ⟨b6, 3, none⟩ = some (.slice (some ⟨g, 0, none⟩) 4 sc1) ∧ u.cell? ⟨b8, 0, none⟩ = some (.int .i64 9) ∧ u.cell? ⟨b8, 1, none⟩ = some (.int .i64 t) ∧ u.cell? ⟨b8, 2, none⟩ = some (.string ⟨#[]⟩) ∧ u.cell? ⟨b8, 3, none⟩ = some (.slice none 0 0)) v from fun v hv => ⟨(World.cell?_of_block (a := ⟨b6, 0, none⟩) (hv b6 (by omega) (by omega) h60)).trans z0, (World.cell?_of_block (a := ⟨b6, 1, none⟩) (hv b6 (by omega) (by omega) h60)).trans z1, (World.cell?_of_block (a := ⟨b6, 2, none⟩) (hv b6 (by omega) (by omega) h60)).trans z2, (World.cell?_of_block (a := ⟨b6, 3, none⟩) (hv b6 (by omega) (by omega) h60)).trans z3, (World.cell?_of_block (a := ⟨b8, 0, none⟩) (hv b8 (by omega) (by omega) h80)).trans p0, (World.cell?_of_block (a := ⟨b8, 1, none⟩) (hv b8 (by omega) (by omega) h80)).trans p1, (World.cell?_of_block (a := ⟨b8, 2, none⟩) (hv b8 (by omega) (by omega) h80)).trans p2, (World.cell?_of_block (a := ⟨b8, 3, none⟩) (hv b8 (by omega) (by omega) h80)).trans p3⟩)
   clear z0 z1 z2 z3 p0 p1 p2 p3
   have D0 := hide (show ∀ i, i ≠ w.heap.size + 1 + 1 → i ≠ w.heap.size + 1 + 1 + 1 → i < uf.heap.size → uf.drew.heap[i]? = uf.heap[i]? from fun _ _ _ _ => rfl)
   have ZD0 := hide (show uf.heap.size ≤ uf.drew.heap.size from Nat.le_refl _)
   have BD0 := hide (show Below w.heap.size w uf.drew from (unhide BF).drew)
   replace N2 := hide (show uf.drew.heap[w.heap.size + 1 + 1]? = _ from unhide N2)
   replace N3 := hide (show uf.drew.heap[w.heap.size + 1 + 1 + 1]? = _ from unhide N3)
   go_upto_region 54 with fail
   refine wp_region_held_drew (S := (fun u => u.cell? ⟨b6, 0, none⟩ = some (.int .i64 d.next) ∧ u.cell? ⟨b6, 1, none⟩ = some (.slice la1 ln1 lc1) ∧ u.cell? ⟨b6, 2, none⟩ = some (.slice fa1 fn1 fc1) ∧ u.cell? ⟨b6, 3, none⟩ = some (.slice (some ⟨g, 0, none⟩) 4 sc1) ∧ u.cell? ⟨b8, 0, none⟩ = some (.int .i64 9) ∧ u.cell? ⟨b8, 1, none⟩ = some (.int .i64 t) ∧ u.cell? ⟨b8, 2, none⟩ = some (.string ⟨#[]⟩) ∧ u.cell? ⟨b8, 3, none⟩ = some (.slice none 0 0))) (by kernel_rfl) (unhide LD _ (unhide D0)) (fun hHeld => ?_)
   generalize uf.drew = ud at *
   refine tk 0 229 rfl rfl hHeld ?_
   simp only [Act.put, lA, lB, lC]
   refine tk 1 230 rfl rfl hHeld ?_
   simp only [Act.put, lA, lB, lC]
   refine rd [2] (.cons rfl (fun K hK => ?_) .nil)
   have c0 := (heap_at (unhide N2) 0).1
   have c1 := (heap_at (unhide N2) 1).1
   have c2 := (heap_at (unhide N2) 2).1
   have c3 := (heap_at (unhide N2) 3).1
   have cf0 := (heap_at (unhide N2) 0).2
   have cf1 := (heap_at (unhide N2) 1).2
   have cf2 := (heap_at (unhide N2) 2).2
   have cf3 := (heap_at (unhide N2) 3).2
   have hw : WrB (fun i => i = w.heap.size + 1 + 1) ud ((((ud.setCell ⟨w.heap.size + 1 + 1, 0, none⟩ (.int .i64 d.next)).setCell ⟨w.heap.size + 1 + 1, 1, none⟩ (.slice la1 ln1 lc1)).setCell ⟨w.heap.size + 1 + 1, 2, none⟩ (.slice fa1 fn1 fc1)).setCell ⟨w.heap.size + 1 + 1, 3, none⟩ (.slice (some ⟨g, 0, none⟩) 4 sc1)) := sv4_wr ud (w.heap.size + 1 + 1) (.int .i64 d.next) (.slice la1 ln1 lc1) (.slice fa1 fn1 fc1) (.slice (some ⟨g, 0, none⟩) 4 sc1)
   have D1 := hide (show ∀ i, i ≠ w.heap.size + 1 + 1 → i ≠ w.heap.size + 1 + 1 + 1 → i < uf.heap.size → ((((ud.setCell ⟨w.heap.size + 1 + 1, 0, none⟩ (.int .i64 d.next)).setCell ⟨w.heap.size + 1 + 1, 1, none⟩ (.slice la1 ln1 lc1)).setCell ⟨w.heap.size + 1 + 1, 2, none⟩ (.slice fa1 fn1 fc1)).setCell ⟨w.heap.size + 1 + 1, 3, none⟩ (.slice (some ⟨g, 0, none⟩) 4 sc1)).heap[i]? = uf.heap[i]? from fun i h1 h2 h3 => (hw.block i (Nat.lt_of_lt_of_le h3 (unhide ZD0)) (by first | exact h1 | exact h2)).trans (unhide D0 i h1 h2 h3))
   have ZD1 := hide (show uf.heap.size ≤ ((((ud.setCell ⟨w.heap.size + 1 + 1, 0, none⟩ (.int .i64 d.next)).setCell ⟨w.heap.size + 1 + 1, 1, none⟩ (.slice la1 ln1 lc1)).setCell ⟨w.heap.size + 1 + 1, 2, none⟩ (.slice fa1 fn1 fc1)).setCell ⟨w.heap.size + 1 + 1, 3, none⟩ (.slice (some ⟨g, 0, none⟩) 4 sc1)).heap.size from Nat.le_trans (unhide ZD0) hw.size)
   have Ka := hide (show ((((ud.setCell ⟨w.heap.size + 1 + 1, 0, none⟩ (.int .i64 d.next)).setCell ⟨w.heap.size + 1 + 1, 1, none⟩ (.slice la1 ln1 lc1)).setCell ⟨w.heap.size + 1 + 1, 2, none⟩ (.slice fa1 fn1 fc1)).setCell ⟨w.heap.size + 1 + 1, 3, none⟩ (.slice (some ⟨g, 0, none⟩) 4 sc1)).heap[w.heap.size + 1 + 1]? = some (.cells #[.int .i64 d.next, .slice la1 ln1 lc1, .slice fa1 fn1 fc1, .slice (some ⟨g, 0, none⟩) 4 sc1] 29 (0, 0)) from sv4_heap (unhide N2) (.int .i64 d.next) (.slice la1 ln1 lc1) (.slice fa1 fn1 fc1) (.slice (some ⟨g, 0, none⟩) 4 sc1))
   have BD1 := hide (show Below w.heap.size w ((((ud.setCell ⟨w.heap.size + 1 + 1, 0, none⟩ (.int .i64 d.next)).setCell ⟨w.heap.size + 1 + 1, 1, none⟩ (.slice la1 ln1 lc1)).setCell ⟨w.heap.size + 1 + 1, 2, none⟩ (.slice fa1 fn1 fc1)).setCell ⟨w.heap.size + 1 + 1, 3, none⟩ (.slice (some ⟨g, 0, none⟩) 4 sc1)) from bel_sv4 (unhide BD0) (by omega) (.int .i64 d.next) (.slice la1 ln1 lc1) (.slice fa1 fn1 fc1) (.slice (some ⟨g, 0, none⟩) 4 sc1))
   have E3 := hide ((hw.block (w.heap.size + 1 + 1 + 1) (blk_lt (unhide N3)) (by omega)).trans (unhide N3))
   clear hw
   go_simp
   refine hK.out _ _ (unhide LD _ (unhide D1)) (fun hHeld => ?_)
   clear hK K
   clear c0 c1 c2 c3 cf0 cf1 cf2 cf3
   generalize ((((ud.setCell ⟨w.heap.size + 1 + 1, 0, none⟩ (.int .i64 d.next)).setCell ⟨w.heap.size + 1 + 1, 1, none⟩ (.slice la1 ln1 lc1)).setCell ⟨w.heap.size + 1 + 1, 2, none⟩ (.slice fa1 fn1 fc1)).setCell ⟨w.heap.size + 1 + 1, 3, none⟩ (.slice (some ⟨g, 0, none⟩) 4 sc1)) = ue at *
   refine rd [3] (.cons rfl (fun K hK => ?_) .nil)
   have c0 := (heap_at (unhide E3) 0).1
   have c1 := (heap_at (unhide E3) 1).1
   have c2 := (heap_at (unhide E3) 2).1
   have c3 := (heap_at (unhide E3) 3).1
   have cf0 := (heap_at (unhide E3) 0).2
   have cf1 := (heap_at (unhide E3) 1).2
   have cf2 := (heap_at (unhide E3) 2).2
   have cf3 := (heap_at (unhide E3) 3).2
   have hw : WrB (fun i => i = w.heap.size + 1 + 1 + 1) ue ((((ue.setCell ⟨w.heap.size + 1 + 1 + 1, 0, none⟩ (.int .i64 9)).setCell ⟨w.heap.size + 1 + 1 + 1, 1, none⟩ (.int .i64 t)).setCell ⟨w.heap.size + 1 + 1 + 1, 2, none⟩ (.string ⟨#[]⟩)).setCell ⟨w.heap.size + 1 + 1 + 1, 3, none⟩ (.slice none 0 0)) := sv4_wr ue (w.heap.size + 1 + 1 + 1) (.int .i64 9) (.int .i64 t) (.string ⟨#[]⟩) (.slice none 0 0)
   have D2 := hide (show ∀ i, i ≠ w.heap.size + 1 + 1 → i ≠ w.heap.size + 1 + 1 + 1 → i < uf.heap.size → ((((ue.setCell ⟨w.heap.size + 1 + 1 + 1, 0, none⟩ (.int .i64 9)).setCell ⟨w.heap.size + 1 + 1 + 1, 1, none⟩ (.int .i64 t)).setCell ⟨w.heap.size + 1 + 1 + 1, 2, none⟩ (.string ⟨#[]⟩)).setCell ⟨w.heap.size + 1 + 1 + 1, 3, none⟩ (.slice none 0 0)).heap[i]? = uf.heap[i]? from fun i h1 h2 h3 => (hw.block i (Nat.lt_of_lt_of_le h3 (unhide ZD1)) (by first | exact h1 | exact h2)).trans (unhide D1 i h1 h2 h3))
   have ZD2 := hide (show uf.heap.size ≤ ((((ue.setCell ⟨w.heap.size + 1 + 1 + 1, 0, none⟩ (.int .i64 9)).setCell ⟨w.heap.size + 1 + 1 + 1, 1, none⟩ (.int .i64 t)).setCell ⟨w.heap.size + 1 + 1 + 1, 2, none⟩ (.string ⟨#[]⟩)).setCell ⟨w.heap.size + 1 + 1 + 1, 3, none⟩ (.slice none 0 0)).heap.size from Nat.le_trans (unhide ZD1) hw.size)
   have Kb := hide (show ((((ue.setCell ⟨w.heap.size + 1 + 1 + 1, 0, none⟩ (.int .i64 9)).setCell ⟨w.heap.size + 1 + 1 + 1, 1, none⟩ (.int .i64 t)).setCell ⟨w.heap.size + 1 + 1 + 1, 2, none⟩ (.string ⟨#[]⟩)).setCell ⟨w.heap.size + 1 + 1 + 1, 3, none⟩ (.slice none 0 0)).heap[w.heap.size + 1 + 1 + 1]? = some (.cells #[.int .i64 9, .int .i64 t, .string ⟨#[]⟩, .slice none 0 0] 40 (0, 0)) from sv4_heap (unhide E3) (.int .i64 9) (.int .i64 t) (.string ⟨#[]⟩) (.slice none 0 0))
   have BD2 := hide (show Below w.heap.size w ((((ue.setCell ⟨w.heap.size + 1 + 1 + 1, 0, none⟩ (.int .i64 9)).setCell ⟨w.heap.size + 1 + 1 + 1, 1, none⟩ (.int .i64 t)).setCell ⟨w.heap.size + 1 + 1 + 1, 2, none⟩ (.string ⟨#[]⟩)).setCell ⟨w.heap.size + 1 + 1 + 1, 3, none⟩ (.slice none 0 0)) from bel_sv4 (unhide BD1) (by omega) (.int .i64 9) (.int .i64 t) (.string ⟨#[]⟩) (.slice none 0 0))
   have Kc := hide ((hw.block (w.heap.size + 1 + 1) (blk_lt (unhide Ka)) (by omega)).trans (unhide Ka))
   clear hw
   go_simp
   refine hK.out _ _ (unhide LD _ (unhide D2)) (fun hHeld => ?_)
   clear hK K
   clear c0 c1 c2 c3 cf0 cf1 cf2 cf3
   generalize ((((ue.setCell ⟨w.heap.size + 1 + 1 + 1, 0, none⟩ (.int .i64 9)).setCell ⟨w.heap.size + 1 + 1 + 1, 1, none⟩ (.int .i64 t)).setCell ⟨w.heap.size + 1 + 1 + 1, 2, none⟩ (.string ⟨#[]⟩)).setCell ⟨w.heap.size + 1 + 1 + 1, 3, none⟩ (.slice none 0 0)) = ug at *
   refine wpAnyH_done (by kernel_rfl) ?_ _
   have r0 := (heap_at (unhide Kc) 0).1
   have r1 := (heap_at (unhide Kc) 1).1
   have r2 := (heap_at (unhide Kc) 2).1
   have r3 := (heap_at (unhide Kc) 3).1
   have q0 := (heap_at (unhide Kb) 0).1
   have q1 := (heap_at (unhide Kb) 1).1
   have q2 := (heap_at (unhide Kb) 2).1
   have q3 := (heap_at (unhide Kb) 3).1
   have OG := (unhide OF).wr (P := fun i => i = w.heap.size + 1 + 1 ∨ i = w.heap.size + 1 + 1 + 1) (w' := ug) ⟨(unhide BD2).os.trans (unhide BF).os.symm, (unhide BD2).tape.trans (unhide BF).tape.symm, (unhide BD2).output.trans (unhide BF).output.symm, unhide ZD2, fun i hi hp => unhide D2 i (fun e => hp (.inl e)) (fun e => hp (.inr e)) hi⟩ (fun i e => by rcases e with e | e <;> omega)
   have RES := hide (show StRes ⟨la, ln, lc⟩ ⟨fa, fn, fc⟩ ⟨sa, sn, sc⟩ hs d (stepV d ⟨6, (i : Int), key, tu, val⟩) w (.returned (.tuple #[.agg #[.int .i64 d.next, .slice la1 ln1 lc1, .slice fa1 fn1 fc1, .slice (some ⟨g, 0, none⟩) 4 sc1], .agg #[.int .i64 9, .int .i64 t, .string ⟨#[]⟩, .slice none 0 0]])) ug from st_own OG (Nat.le_of_lt hz0) (unhide BD2) (unhide ST2))
   clear hHeld LD D0 D1 D2 N2 N3 E3 Ka Kb Kc
   go_wp2_with fail
   refine bodyPost_ret (v := .tuple #[.agg #[.int .i64 d.next, .slice la1 ln1 lc1, .slice fa1 fn1 fc1, .slice (some ⟨g, 0, none⟩) 4 sc1], .agg #[.int .i64 9, .int .i64 t, .string ⟨#[]⟩, .slice none 0 0]]) (by simp [results, Tryz.results36, go_sem, *]) rfl ?_
   exact unhide RES
  ·rw [if_neg hcf] at hCm
   obtain ⟨⟨la2, ln2, lc2⟩, rfl, hor, hb2⟩ := hCm
   have ST2 := hide (show stepV d ⟨6, (i : Int), key, tu, val⟩ = (⟨d.next, wl.foldl insV d.list, d.fen, d.ses.set i clS⟩, repV 0 t) by rw [unhide STI, if_neg hcf])
   clear hcf STI
   unfold vzC
   simp only at hor ⊢
   have hbur := (unhide BR).size
   have kz := (hb2.block b6 (blk_lt (unhide K6R))).trans (unhide K6R)
   have kp := (hb2.block b8 (blk_lt (unhide K8))).trans (unhide K8)
   have z0 := (heap_at kz 0).1
   have z1 := (heap_at kz 1).1
   have z2 := (heap_at kz 2).1
   have z3 := (heap_at kz 3).1
   have zf0 := (heap_at kz 0).2
   have zf1 := (heap_at kz 1).2
   have zf2 := (heap_at kz 2).2
   have zf3 := (heap_at kz 3).2
   have hw : WrB (fun i => i = b6) w2 ((((w2.setCell ⟨b6, 0, none⟩ (.int .i64 d.next)).setCell ⟨b6, 1, none⟩ (.slice la2 ln2 lc2)).setCell ⟨b6, 2, none⟩ (.slice fa1 fn1 fc1)).setCell ⟨b6, 3, none⟩ (.slice (some ⟨g, 0, none⟩) 4 sc1)) := sv4_wr w2 b6 (.int .i64 d.next) (.slice la2 ln2 lc2) (.slice fa1 fn1 fc1) (.slice (some ⟨g, 0, none⟩) 4 sc1)
   have kq := (hw.block b8 (blk_lt kp) (by omega)).trans kp
   have p0 := (heap_at kq 0).1
   have pf0 := (heap_at kq 0).2
   have hw2 : WrB (fun i => i = b8) ((((w2.setCell ⟨b6, 0, none⟩ (.int .i64 d.next)).setCell ⟨b6, 1, none⟩ (.slice la2 ln2 lc2)).setCell ⟨b6, 2, none⟩ (.slice fa1 fn1 fc1)).setCell ⟨b6, 3, none⟩ (.slice (some ⟨g, 0, none⟩) 4 sc1)) (((((w2.setCell ⟨b6, 0, none⟩ (.int .i64 d.next)).setCell ⟨b6, 1, none⟩ (.slice la2 ln2 lc2)).setCell ⟨b6, 2, none⟩ (.slice fa1 fn1 fc1)).setCell ⟨b6, 3, none⟩ (.slice (some ⟨g, 0, none⟩) 4 sc1)).setCell ⟨b8, 0, none⟩ (.int .i64 0)) := set1_wr _ _ _ _
   have km : ((((w2.setCell ⟨b6, 0, none⟩ (.int .i64 d.next)).setCell ⟨b6, 1, none⟩ (.slice la2 ln2 lc2)).setCell ⟨b6, 2, none⟩ (.slice fa1 fn1 fc1)).setCell ⟨b6, 3, none⟩ (.slice (some ⟨g, 0, none⟩) 4 sc1)).heap[b6]? = some (.cells #[.int .i64 d.next, .slice la2 ln2 lc2, .slice fa1 fn1 fc1, .slice (some ⟨g, 0, none⟩) 4 sc1] 29 (0, 0)) := sv4_heap kz (.int .i64 d.next) (.slice la2 ln2 lc2) (.slice fa1 fn1 fc1) (.slice (some ⟨g, 0, none⟩) 4 sc1)
   have K62 := hide (show (((((w2.setCell ⟨b6, 0, none⟩ (.int .i64 d.next)).setCell ⟨b6, 1, none⟩ (.slice la2 ln2 lc2)).setCell ⟨b6, 2, none⟩ (.slice fa1 fn1 fc1)).setCell ⟨b6, 3, none⟩ (.slice (some ⟨g, 0, none⟩) 4 sc1)).setCell ⟨b8, 0, none⟩ (.int .i64 0)).heap[b6]? = some (.cells #[.int .i64 d.next, .slice la2 ln2 lc2, .slice fa1 fn1 fc1, .slice (some ⟨g, 0, none⟩) 4 sc1] 29 (0, 0)) from (hw2.block b6 (blk_lt km) (by omega)).trans km)
   have K82 := hide (show (((((w2.setCell ⟨b6, 0, none⟩ (.int .i64 d.next)).setCell ⟨b6, 1, none⟩ (.slice la2 ln2 lc2)).setCell ⟨b6, 2, none⟩ (.slice fa1 fn1 fc1)).setCell ⟨b6, 3, none⟩ (.slice (some ⟨g, 0, none⟩) 4 sc1)).setCell ⟨b8, 0, none⟩ (.int .i64 0)).heap[b8]? = some (.cells #[.int .i64 0, .int .i64 t, .string ⟨#[]⟩, .slice none 0 0] 40 (0, 0)) by have := heap_set kq 0 (.int .i64 0); simpa using this)
   have OW : VzOwn w2 W.heap.size ⟨la2, ln2, lc2⟩ ⟨fa1, fn1, fc1⟩ ⟨some ⟨g, 0, none⟩, 4, sc1⟩ hs1 ⟨d.next, wl.foldl insV d.list, d.fen, d.ses⟩ := by
    have h := (unhide OR).below hb2
    rcases hor with ⟨he, hf⟩ | hn
    ·injection he with e1 e2 e3
     subst e1 e2 e3
     exact ⟨by rw [hf]; exact h.vo, h.fo, h.so, h.ss, h.far⟩
    ·exact ⟨gd_base hn hbur, h.fo, h.so, h.ss, fun q hq hq2 => by
      have h1 := (hn.lt q hq).1
      have h2 := ((unhide OR).so.lt q hq2).2
      omega⟩
   clear hor
   have OR2 := hide (show VzOwn (((((w2.setCell ⟨b6, 0, none⟩ (.int .i64 d.next)).setCell ⟨b6, 1, none⟩ (.slice la2 ln2 lc2)).setCell ⟨b6, 2, none⟩ (.slice fa1 fn1 fc1)).setCell ⟨b6, 3, none⟩ (.slice (some ⟨g, 0, none⟩) 4 sc1)).setCell ⟨b8, 0, none⟩ (.int .i64 0)) W.heap.size ⟨la2, ln2, lc2⟩ ⟨fa1, fn1, fc1⟩ ⟨some ⟨g, 0, none⟩, 4, sc1⟩ hs1 ⟨d.next, wl.foldl insV d.list, d.fen, d.ses⟩ from ((OW.box kz (by decide) (by decide) (by decide) hw).box kq (by decide) (by decide) (by decide) hw2))
   have B2w := (unhide BR).trans (hb2.mono hbur)
   have B3w := B2w.trans (WrB.below hw (fun k e => by rw [e]; exact hb6) B2w.size)
   have BR2 := hide (show Below W.heap.size W (((((w2.setCell ⟨b6, 0, none⟩ (.int .i64 d.next)).setCell ⟨b6, 1, none⟩ (.slice la2 ln2 lc2)).setCell ⟨b6, 2, none⟩ (.slice fa1 fn1 fc1)).setCell ⟨b6, 3, none⟩ (.slice (some ⟨g, 0, none⟩) 4 sc1)).setCell ⟨b8, 0, none⟩ (.int .i64 0)) from B3w.trans (WrB.below hw2 (fun k e => by rw [e]; omega) B3w.size))
   clear hw hw2 km kq kp kz OW B2w B3w hb2 OR BR XR K6R K7R K8
   go_upto_region 53 with fail
   clear z0 z1 z2 z3 zf0 zf1 zf2 zf3 p0 pf0
   generalize (((((w2.setCell ⟨b6, 0, none⟩ (.int .i64 d.next)).setCell ⟨b6, 1, none⟩ (.slice la2 ln2 lc2)).setCell ⟨b6, 2, none⟩ (.slice fa1 fn1 fc1)).setCell ⟨b6, 3, none⟩ (.slice (some ⟨g, 0, none⟩) 4 sc1)).setCell ⟨b8, 0, none⟩ (.int .i64 0)) = ur2 at *
   have ka := ((unhide BR2).block (w.heap.size + 1) hz1).trans (unhide K1)
   have a0 := (heap_at ka 0).1
   have a1 := (heap_at ka 1).1
   have z3 := (heap_at (unhide K62) 3).1
   have bL : Below ur2.heap.size ur2 (ur2.alloc (.cells #[] 43)) := (Below.refl _ _).alloc (Nat.le_refl _) _
   have OL := (unhide OR2).below bL
   have NL := gd_base (nil_lit (w := ur2) 43 4) (unhide BR2).size
   have hih : i < hs1.length := by omega
   obtain ⟨g2, hg2, -, ⟨c0, c1, c2⟩, hfz, OP, WP, hki⟩ := OL.put hih ⟨clS, ⟨some ⟨ur2.heap.size, 0, none⟩, 0, 0⟩⟩ NL (fun q hq => by
    injection hq with hq
    subst hq
    exact ⟨fun hn => Nat.lt_irrefl _ ((unhide OR2).so.lt _ hn).2, fun e => Nat.lt_irrefl _ ((unhide OR2).vo.lt _ e).2⟩)
   simp only at hg2
   injection hg2 with hg2
   injection hg2 with hg2 _ _
   subst hg2
   rw [unhide HX] at c0 c1 c2
   unfold clS at OP WP
   simp only at c0 c1 c2 OP WP
   have hf0 := hfz (i * 3)
   have hf1 := hfz (i * 3 + 1)
   have hf2 := hfz (i * 3 + 1 + 1)
   obtain ⟨cur, hcur⟩ := hki
   have BL := (unhide BR2).trans (bL.mono (unhide BR2).size)
   have BP := hide (BL.trans (WrB.below WP (fun k e => by rw [e]; exact hgB) BL.size))
   have K6L := (bL.block b6 (blk_lt (unhide K62))).trans (unhide K62)
   have h6g : b6 ≠ g := fun e => by rw [e, hcur] at K6L; injection K6L with K6L; injection K6L with _ K6L _; exact absurd K6L (by decide)
   have K6P := hide ((WP.block b6 (blk_lt K6L) h6g).trans K6L)
   have OPh := hide OP
   have a1L := (bL.cell (p := ⟨w.heap.size + 1, 1, none⟩) (cell_lt a1)).trans a1
   have z3L := (bL.cell (p := ⟨b6, 3, none⟩) (cell_lt z3)).trans z3
   have hin : (i : Int) < 4 := by omega
   have OF := hide OP
   have BF2 := BP
   have BF := hide ((unhide BH).trans ((unhide BP).mono (unhide BH).size))
   have K6F := K6P
   have K8L := (bL.block b8 (blk_lt (unhide K82))).trans (unhide K82)
   have h8g : b8 ≠ g := fun e => by rw [e, hcur] at K8L; injection K8L with K8L; injection K8L with _ K8L _; exact absurd K8L (by decide)
   have K8F := hide ((WP.block b8 (blk_lt K8L) h8g).trans K8L)
   clear OP WP K6L BL bL OL NL hfz hcur ka K8L K6P OPh
   go_upto_region 54 with fail
   clear a0 a1 c0 c1 c2 hf0 hf1 hf2 a1L z3L z3
   generalize ((((ur2.alloc (.cells #[] 43)).setCell ⟨g, i * 3, none⟩ (.bool false)).setCell ⟨g, i * 3 + 1, none⟩ (.int .i64 0)).setCell ⟨g, i * 3 + 1 + 1, none⟩ (.slice (some ⟨ur2.heap.size, 0, none⟩) 0 0)) = uf at *
   have z0 := (heap_at (unhide K6F) 0).1
   have z1 := (heap_at (unhide K6F) 1).1
   have z2 := (heap_at (unhide K6F) 2).1
   have z3 := (heap_at (unhide K6F) 3).1
   have p0 := (heap_at (unhide K8F) 0).1
   have p1 := (heap_at (unhide K8F) 1).1
   have p2 := (heap_at (unhide K8F) 2).1
   have p3 := (heap_at (unhide K8F) 3).1
   have N2 := hide (((unhide BF2).block (w.heap.size + 1 + 1) hz2).trans (unhide K2))
   have N3 := hide (((unhide BF2).block (w.heap.size + 1 + 1 + 1) hz3).trans (unhide K3))
   have h60 : b6 < uf.heap.size := blk_lt (unhide K6F)
   have h80 : b8 < uf.heap.size := blk_lt (unhide K8F)
   have h6W : W.heap.size ≤ uf.heap.size := (unhide BF2).size
   have LD := hide (show ∀ v : World, (∀ i, i ≠ w.heap.size + 1 + 1 → i ≠ w.heap.size + 1 + 1 + 1 → i < uf.heap.size → v.heap[i]? = uf.heap[i]?) → (fun u => u.cell? ⟨b6, 0, none⟩ = some (.int .i64 d.next) ∧ u.cell? ⟨b6, 1, none⟩ = some (.slice la2 ln2 lc2) ∧ u.cell? ⟨b6, 2, none⟩ = some (.slice fa1 fn1 fc1) ∧ u.cell? ⟨b6, 3, none⟩ = some (.slice (some ⟨g, 0, none⟩) 4 sc1) ∧ u.cell? ⟨b8, 0, none⟩ = some (.int .i64 0) ∧ u.cell? ⟨b8, 1, none⟩ = some (.int .i64 t) ∧ u.cell? ⟨b8, 2, none⟩ = some (.string ⟨#[]⟩) ∧ u.cell? ⟨b8, 3, none⟩ = some (.slice none 0 0)) v from fun v hv => ⟨(World.cell?_of_block (a := ⟨b6, 0, none⟩) (hv b6 (by omega) (by omega) h60)).trans z0, (World.cell?_of_block (a := ⟨b6, 1, none⟩) (hv b6 (by omega) (by omega) h60)).trans z1, (World.cell?_of_block (a := ⟨b6, 2, none⟩) (hv b6 (by omega) (by omega) h60)).trans z2, (World.cell?_of_block (a := ⟨b6, 3, none⟩) (hv b6 (by omega) (by omega) h60)).trans z3, (World.cell?_of_block (a := ⟨b8, 0, none⟩) (hv b8 (by omega) (by omega) h80)).trans p0, (World.cell?_of_block (a := ⟨b8, 1, none⟩) (hv b8 (by omega) (by omega) h80)).trans p1, (World.cell?_of_block (a := ⟨b8, 2, none⟩) (hv b8 (by omega) (by omega) h80)).trans p2, (World.cell?_of_block (a := ⟨b8, 3, none⟩) (hv b8 (by omega) (by omega) h80)).trans p3⟩)
   clear z0 z1 z2 z3 p0 p1 p2 p3
   have D0 := hide (show ∀ i, i ≠ w.heap.size + 1 + 1 → i ≠ w.heap.size + 1 + 1 + 1 → i < uf.heap.size → uf.drew.heap[i]? = uf.heap[i]? from fun _ _ _ _ => rfl)
   have ZD0 := hide (show uf.heap.size ≤ uf.drew.heap.size from Nat.le_refl _)
   have BD0 := hide (show Below w.heap.size w uf.drew from (unhide BF).drew)
   replace N2 := hide (show uf.drew.heap[w.heap.size + 1 + 1]? = _ from unhide N2)
   replace N3 := hide (show uf.drew.heap[w.heap.size + 1 + 1 + 1]? = _ from unhide N3)
   go_upto_region 54 with fail
   refine wp_region_held_drew (S := (fun u => u.cell? ⟨b6, 0, none⟩ = some (.int .i64 d.next) ∧ u.cell? ⟨b6, 1, none⟩ = some (.slice la2 ln2 lc2) ∧ u.cell? ⟨b6, 2, none⟩ = some (.slice fa1 fn1 fc1) ∧ u.cell? ⟨b6, 3, none⟩ = some (.slice (some ⟨g, 0, none⟩) 4 sc1) ∧ u.cell? ⟨b8, 0, none⟩ = some (.int .i64 0) ∧ u.cell? ⟨b8, 1, none⟩ = some (.int .i64 t) ∧ u.cell? ⟨b8, 2, none⟩ = some (.string ⟨#[]⟩) ∧ u.cell? ⟨b8, 3, none⟩ = some (.slice none 0 0))) (by kernel_rfl) (unhide LD _ (unhide D0)) (fun hHeld => ?_)
   generalize uf.drew = ud at *
   refine tk 0 229 rfl rfl hHeld ?_
   simp only [Act.put, lA, lB, lC]
   refine tk 1 230 rfl rfl hHeld ?_
   simp only [Act.put, lA, lB, lC]
   refine rd [2] (.cons rfl (fun K hK => ?_) .nil)
   have c0 := (heap_at (unhide N2) 0).1
   have c1 := (heap_at (unhide N2) 1).1
   have c2 := (heap_at (unhide N2) 2).1
   have c3 := (heap_at (unhide N2) 3).1
   have cf0 := (heap_at (unhide N2) 0).2
   have cf1 := (heap_at (unhide N2) 1).2
   have cf2 := (heap_at (unhide N2) 2).2
   have cf3 := (heap_at (unhide N2) 3).2
   have hw : WrB (fun i => i = w.heap.size + 1 + 1) ud ((((ud.setCell ⟨w.heap.size + 1 + 1, 0, none⟩ (.int .i64 d.next)).setCell ⟨w.heap.size + 1 + 1, 1, none⟩ (.slice la2 ln2 lc2)).setCell ⟨w.heap.size + 1 + 1, 2, none⟩ (.slice fa1 fn1 fc1)).setCell ⟨w.heap.size + 1 + 1, 3, none⟩ (.slice (some ⟨g, 0, none⟩) 4 sc1)) := sv4_wr ud (w.heap.size + 1 + 1) (.int .i64 d.next) (.slice la2 ln2 lc2) (.slice fa1 fn1 fc1) (.slice (some ⟨g, 0, none⟩) 4 sc1)
   have D1 := hide (show ∀ i, i ≠ w.heap.size + 1 + 1 → i ≠ w.heap.size + 1 + 1 + 1 → i < uf.heap.size → ((((ud.setCell ⟨w.heap.size + 1 + 1, 0, none⟩ (.int .i64 d.next)).setCell ⟨w.heap.size + 1 + 1, 1, none⟩ (.slice la2 ln2 lc2)).setCell ⟨w.heap.size + 1 + 1, 2, none⟩ (.slice fa1 fn1 fc1)).setCell ⟨w.heap.size + 1 + 1, 3, none⟩ (.slice (some ⟨g, 0, none⟩) 4 sc1)).heap[i]? = uf.heap[i]? from fun i h1 h2 h3 => (hw.block i (Nat.lt_of_lt_of_le h3 (unhide ZD0)) (by first | exact h1 | exact h2)).trans (unhide D0 i h1 h2 h3))
   have ZD1 := hide (show uf.heap.size ≤ ((((ud.setCell ⟨w.heap.size + 1 + 1, 0, none⟩ (.int .i64 d.next)).setCell ⟨w.heap.size + 1 + 1, 1, none⟩ (.slice la2 ln2 lc2)).setCell ⟨w.heap.size + 1 + 1, 2, none⟩ (.slice fa1 fn1 fc1)).setCell ⟨w.heap.size + 1 + 1, 3, none⟩ (.slice (some ⟨g, 0, none⟩) 4 sc1)).heap.size from Nat.le_trans (unhide ZD0) hw.size)
   have Ka := hide (show ((((ud.setCell ⟨w.heap.size + 1 + 1, 0, none⟩ (.int .i64 d.next)).setCell ⟨w.heap.size + 1 + 1, 1, none⟩ (.slice la2 ln2 lc2)).setCell ⟨w.heap.size + 1 + 1, 2, none⟩ (.slice fa1 fn1 fc1)).setCell ⟨w.heap.size + 1 + 1, 3, none⟩ (.slice (some ⟨g, 0, none⟩) 4 sc1)).heap[w.heap.size + 1 + 1]? = some (.cells #[.int .i64 d.next, .slice la2 ln2 lc2, .slice fa1 fn1 fc1, .slice (some ⟨g, 0, none⟩) 4 sc1] 29 (0, 0)) from sv4_heap (unhide N2) (.int .i64 d.next) (.slice la2 ln2 lc2) (.slice fa1 fn1 fc1) (.slice (some ⟨g, 0, none⟩) 4 sc1))
   have BD1 := hide (show Below w.heap.size w ((((ud.setCell ⟨w.heap.size + 1 + 1, 0, none⟩ (.int .i64 d.next)).setCell ⟨w.heap.size + 1 + 1, 1, none⟩ (.slice la2 ln2 lc2)).setCell ⟨w.heap.size + 1 + 1, 2, none⟩ (.slice fa1 fn1 fc1)).setCell ⟨w.heap.size + 1 + 1, 3, none⟩ (.slice (some ⟨g, 0, none⟩) 4 sc1)) from bel_sv4 (unhide BD0) (by omega) (.int .i64 d.next) (.slice la2 ln2 lc2) (.slice fa1 fn1 fc1) (.slice (some ⟨g, 0, none⟩) 4 sc1))
   have E3 := hide ((hw.block (w.heap.size + 1 + 1 + 1) (blk_lt (unhide N3)) (by omega)).trans (unhide N3))
   clear hw
   go_simp
   refine hK.out _ _ (unhide LD _ (unhide D1)) (fun hHeld => ?_)
   clear hK K
   clear c0 c1 c2 c3 cf0 cf1 cf2 cf3
   generalize ((((ud.setCell ⟨w.heap.size + 1 + 1, 0, none⟩ (.int .i64 d.next)).setCell ⟨w.heap.size + 1 + 1, 1, none⟩ (.slice la2 ln2 lc2)).setCell ⟨w.heap.size + 1 + 1, 2, none⟩ (.slice fa1 fn1 fc1)).setCell ⟨w.heap.size + 1 + 1, 3, none⟩ (.slice (some ⟨g, 0, none⟩) 4 sc1)) = ue at *
   refine rd [3] (.cons rfl (fun K hK => ?_) .nil)
   have c0 := (heap_at (unhide E3) 0).1
   have c1 := (heap_at (unhide E3) 1).1
   have c2 := (heap_at (unhide E3) 2).1
   have c3 := (heap_at (unhide E3) 3).1
   have cf0 := (heap_at (unhide E3) 0).2
   have cf1 := (heap_at (unhide E3) 1).2
   have cf2 := (heap_at (unhide E3) 2).2
   have cf3 := (heap_at (unhide E3) 3).2
   have hw : WrB (fun i => i = w.heap.size + 1 + 1 + 1) ue ((((ue.setCell ⟨w.heap.size + 1 + 1 + 1, 0, none⟩ (.int .i64 0)).setCell ⟨w.heap.size + 1 + 1 + 1, 1, none⟩ (.int .i64 t)).setCell ⟨w.heap.size + 1 + 1 + 1, 2, none⟩ (.string ⟨#[]⟩)).setCell ⟨w.heap.size + 1 + 1 + 1, 3, none⟩ (.slice none 0 0)) := sv4_wr ue (w.heap.size + 1 + 1 + 1) (.int .i64 0) (.int .i64 t) (.string ⟨#[]⟩) (.slice none 0 0)
   have D2 := hide (show ∀ i, i ≠ w.heap.size + 1 + 1 → i ≠ w.heap.size + 1 + 1 + 1 → i < uf.heap.size → ((((ue.setCell ⟨w.heap.size + 1 + 1 + 1, 0, none⟩ (.int .i64 0)).setCell ⟨w.heap.size + 1 + 1 + 1, 1, none⟩ (.int .i64 t)).setCell ⟨w.heap.size + 1 + 1 + 1, 2, none⟩ (.string ⟨#[]⟩)).setCell ⟨w.heap.size + 1 + 1 + 1, 3, none⟩ (.slice none 0 0)).heap[i]? = uf.heap[i]? from fun i h1 h2 h3 => (hw.block i (Nat.lt_of_lt_of_le h3 (unhide ZD1)) (by first | exact h1 | exact h2)).trans (unhide D1 i h1 h2 h3))
   have ZD2 := hide (show uf.heap.size ≤ ((((ue.setCell ⟨w.heap.size + 1 + 1 + 1, 0, none⟩ (.int .i64 0)).setCell ⟨w.heap.size + 1 + 1 + 1, 1, none⟩ (.int .i64 t)).setCell ⟨w.heap.size + 1 + 1 + 1, 2, none⟩ (.string ⟨#[]⟩)).setCell ⟨w.heap.size + 1 + 1 + 1, 3, none⟩ (.slice none 0 0)).heap.size from Nat.le_trans (unhide ZD1) hw.size)
   have Kb := hide (show ((((ue.setCell ⟨w.heap.size + 1 + 1 + 1, 0, none⟩ (.int .i64 0)).setCell ⟨w.heap.size + 1 + 1 + 1, 1, none⟩ (.int .i64 t)).setCell ⟨w.heap.size + 1 + 1 + 1, 2, none⟩ (.string ⟨#[]⟩)).setCell ⟨w.heap.size + 1 + 1 + 1, 3, none⟩ (.slice none 0 0)).heap[w.heap.size + 1 + 1 + 1]? = some (.cells #[.int .i64 0, .int .i64 t, .string ⟨#[]⟩, .slice none 0 0] 40 (0, 0)) from sv4_heap (unhide E3) (.int .i64 0) (.int .i64 t) (.string ⟨#[]⟩) (.slice none 0 0))
   have BD2 := hide (show Below w.heap.size w ((((ue.setCell ⟨w.heap.size + 1 + 1 + 1, 0, none⟩ (.int .i64 0)).setCell ⟨w.heap.size + 1 + 1 + 1, 1, none⟩ (.int .i64 t)).setCell ⟨w.heap.size + 1 + 1 + 1, 2, none⟩ (.string ⟨#[]⟩)).setCell ⟨w.heap.size + 1 + 1 + 1, 3, none⟩ (.slice none 0 0)) from bel_sv4 (unhide BD1) (by omega) (.int .i64 0) (.int .i64 t) (.string ⟨#[]⟩) (.slice none 0 0))
   have Kc := hide ((hw.block (w.heap.size + 1 + 1) (blk_lt (unhide Ka)) (by omega)).trans (unhide Ka))
   clear hw
   go_simp
   refine hK.out _ _ (unhide LD _ (unhide D2)) (fun hHeld => ?_)
   clear hK K
   clear c0 c1 c2 c3 cf0 cf1 cf2 cf3
   generalize ((((ue.setCell ⟨w.heap.size + 1 + 1 + 1, 0, none⟩ (.int .i64 0)).setCell ⟨w.heap.size + 1 + 1 + 1, 1, none⟩ (.int .i64 t)).setCell ⟨w.heap.size + 1 + 1 + 1, 2, none⟩ (.string ⟨#[]⟩)).setCell ⟨w.heap.size + 1 + 1 + 1, 3, none⟩ (.slice none 0 0)) = ug at *
   refine wpAnyH_done (by kernel_rfl) ?_ _
   have r0 := (heap_at (unhide Kc) 0).1
   have r1 := (heap_at (unhide Kc) 1).1
   have r2 := (heap_at (unhide Kc) 2).1
   have r3 := (heap_at (unhide Kc) 3).1
   have q0 := (heap_at (unhide Kb) 0).1
   have q1 := (heap_at (unhide Kb) 1).1
   have q2 := (heap_at (unhide Kb) 2).1
   have q3 := (heap_at (unhide Kb) 3).1
   have OG := (unhide OF).wr (P := fun i => i = w.heap.size + 1 + 1 ∨ i = w.heap.size + 1 + 1 + 1) (w' := ug) ⟨(unhide BD2).os.trans (unhide BF).os.symm, (unhide BD2).tape.trans (unhide BF).tape.symm, (unhide BD2).output.trans (unhide BF).output.symm, unhide ZD2, fun i hi hp => unhide D2 i (fun e => hp (.inl e)) (fun e => hp (.inr e)) hi⟩ (fun i e => by rcases e with e | e <;> omega)
   have RES := hide (show StRes ⟨la, ln, lc⟩ ⟨fa, fn, fc⟩ ⟨sa, sn, sc⟩ hs d (stepV d ⟨6, (i : Int), key, tu, val⟩) w (.returned (.tuple #[.agg #[.int .i64 d.next, .slice la2 ln2 lc2, .slice fa1 fn1 fc1, .slice (some ⟨g, 0, none⟩) 4 sc1], .agg #[.int .i64 0, .int .i64 t, .string ⟨#[]⟩, .slice none 0 0]])) ug from st_own OG (Nat.le_of_lt hz0) (unhide BD2) (unhide ST2))
   clear hHeld LD D0 D1 D2 N2 N3 E3 Ka Kb Kc
   go_wp2_with fail
   refine bodyPost_ret (v := .tuple #[.agg #[.int .i64 d.next, .slice la2 ln2 lc2, .slice fa1 fn1 fc1, .slice (some ⟨g, 0, none⟩) 4 sc1], .agg #[.int .i64 0, .int .i64 t, .string ⟨#[]⟩, .slice none 0 0]]) (by simp [results, Tryz.results36, go_sem, *]) rfl ?_
   exact unhide RES
end Go.Proofs.YtdnjgbckkmbmfaaGreat

namespace Go.Proofs.YtdnjgbckkmbmfaaGreat
open Go.RowKit

set_option maxHeartbeats 8000000 in
theorem l06Step_7 (d : VsD) (i : Nat) (key tu val : ByteArray) (l f s : Sl) (hs : List SeH) (w : World) (hI : VzIn w l f s hs d) (hS : SmV d) (hi : i < 4) :
  Calls Tryz.prog 36 #[.agg (vzC d.next l f s), .agg #[.int .i64 7, .int .i64 (i : Int), .string key, .string tu, .string val]] w fun e w' => StRes l f s hs d (stepV d ⟨7, (i : Int), key, tu, val⟩) w e w' := by
 have hz := allocC_size [(vzC d.next l f s, 29), (#[.int .i64 7, .int .i64 (i : Int), .string key, .string tu, .string val], 37), (#[.int .i64 0, .slice none 0 0, .slice none 0 0, .slice none 0 0], 29), (#[.int .i64 0, .int .i64 0, .string ⟨#[]⟩, .slice none 0 0], 40)] w
 have b1 := allocC_bel [(vzC d.next l f s, 29), (#[.int .i64 7, .int .i64 (i : Int), .string key, .string tu, .string val], 37), (#[.int .i64 0, .slice none 0 0, .slice none 0 0, .slice none 0 0], 29), (#[.int .i64 0, .int .i64 0, .string ⟨#[]⟩, .slice none 0 0], 40)] w
 have AT := allocC_at [(vzC d.next l f s, 29), (#[.int .i64 7, .int .i64 (i : Int), .string key, .string tu, .string val], 37), (#[.int .i64 0, .slice none 0 0, .slice none 0 0, .slice none 0 0], 29), (#[.int .i64 0, .int .i64 0, .string ⟨#[]⟩, .slice none 0 0], 40)] w
 obtain ⟨W, hW⟩ : ∃ W, W = allocC w [(vzC d.next l f s, 29), (#[.int .i64 7, .int .i64 (i : Int), .string key, .string tu, .string val], 37), (#[.int .i64 0, .slice none 0 0, .slice none 0 0, .slice none 0 0], 29), (#[.int .i64 0, .int .i64 0, .string ⟨#[]⟩, .slice none 0 0], 40)] := ⟨_, rfl⟩
 rw [← hW] at hz b1 AT
 simp only [List.length_cons, List.length_nil] at hz
 have k0 : W.heap[w.heap.size]? = some (.cells (vzC d.next l f s) 29 (0, 0)) := AT 0 _ _ rfl
 have k1 : W.heap[w.heap.size + 1]? = some (.cells #[.int .i64 7, .int .i64 (i : Int), .string key, .string tu, .string val] 37 (0, 0)) := AT 1 _ _ rfl
 have k2 : W.heap[w.heap.size + 1 + 1]? = some (.cells #[.int .i64 0, .slice none 0 0, .slice none 0 0, .slice none 0 0] 29 (0, 0)) := AT 2 _ _ rfl
 have k3 : W.heap[w.heap.size + 1 + 1 + 1]? = some (.cells #[.int .i64 0, .int .i64 0, .string ⟨#[]⟩, .slice none 0 0] 40 (0, 0)) := AT 3 _ _ rfl
 have hz0 : w.heap.size < W.heap.size := by omega
 have hz1 : w.heap.size + 1 < W.heap.size := by omega
 have hz2 : w.heap.size + 1 + 1 < W.heap.size := by omega
 have hz3 : w.heap.size + 1 + 1 + 1 < W.heap.size := by omega
 unfold allocC allocC allocC allocC allocC at hW
 have CO := hide (l06Own_any d l f s hs W (hI.below b1) (by have := hI.vr.1; have := hS.list; omega) (by have := hI.fr.1; have := hS.fen; omega) (by have := hI.len; have := hS.ses; omega) (fun h hh => by
  obtain ⟨k, hk, rfl⟩ := List.getElem_of_mem hh
  obtain ⟨hd, he⟩ := hI.at hk
  have h1 := (SeIn.row hI.sr hk).1
  have h2 := hS.ws d.ses[k] (List.getElem_mem hd)
  rw [← he] at h2
  omega))
 have BH := hide b1
 have HI := hide hI
 have HS := hide hS
 obtain ⟨la, ln, lc⟩ := l
 obtain ⟨fa, fn, fc⟩ := f
 obtain ⟨sa, sn, sc⟩ := s
 unfold vzC at k0 hW CO ⊢
 simp only at k0 hW CO ⊢
 have K0 := hide k0
 have K1 := hide k1
 have K2 := hide k2
 have K3 := hide k3
 have hnx := hS.nx
 have hi0 : decide ((0 : Int) ≤ (i : Int)) = true := decide_eq_true (by omega)
 have hi3 : decide ((i : Int) ≤ 3) = true := decide_eq_true (by omega)
 have a0 := (heap_at k1 0).1
 have a1 := (heap_at k1 1).1
 have v0 := (heap_at k0 0).1
 have v1 := (heap_at k0 1).1
 have v2 := (heap_at k0 2).1
 have v3 := (heap_at k0 3).1
 clear hI hS hz b1 AT k0 k1 k2 k3
 go_enter Tryz.func36, Tryz.ntmps36
 go_wp2_with (go_at_call 75; refine (l01In_any _ _ _ _).mono ?_; rintro e w9 ⟨rfl, rfl⟩)
 rw [← hW]
 clear hW
 refine (unhide CO).mono ?_
 rintro e w1 ⟨⟨la1, ln1, lc1⟩, ⟨fa1, fn1, fc1⟩, ⟨sa1, sn1, sc1⟩, hs1, rfl, hO, hb1⟩
 clear a0 a1 v0 v1 v2 v3 hi0 hi3 CO
 have hl4 : hs1.length = 4 := by rw [hO.reads.len.2]; exact (unhide HS).ses
 have hih : i < hs1.length := by omega
 obtain ⟨g, hsa, hsn, hgB, hgw, c0, c1, c2, hwo, hid, hxd⟩ := hO.sesAt hih
 simp only at hsa hsn
 rw [hl4] at hsn
 subst hsa hsn
 unfold vzC
 simp only
 have STP := hide (show stepV d ⟨7, (i : Int), key, tu, val⟩ = sesV d ⟨7, (i : Int), key, tu, val⟩ i hs1[i].X by
  unfold stepV
  rw [if_neg (by simp), if_neg (by simp only; omega), hxd]
  congr 1
  rw [show ((i : Nat) : Int).toNat = i by omega, List.getD_eq_getElem?_getD, List.getElem?_eq_getElem hid]
  rfl)
 have XL := hide (show hs1[i].X.ws.length ≤ 8 by rw [hxd]; exact (unhide HS).ws _ (List.getElem_mem hid))
 have SX := hide hxd
 clear hxd
 generalize hx1 : hs1[i] = x at *
 have HX := hide hx1
 clear hx1
 obtain ⟨⟨o, t, wl⟩, ⟨wa, wn, wc⟩⟩ := x
 simp only at c0 c1 c2 hwo STP XL
 have bA : Below w1.heap.size w1 ((w1.alloc (.cells #[.int .i64 d.next, .slice la1 ln1 lc1, .slice fa1 fn1 fc1, .slice (some ⟨g, 0, none⟩) 4 sc1] 29)).alloc (.cells #[.bool o, .int .i64 t, .slice wa wn wc] 55)) := ((Below.refl _ _).alloc (Nat.le_refl _) _).alloc (by simp) _
 obtain ⟨-, k6, k7, z7⟩ := twoBx (w := w1) (c1 := #[.int .i64 d.next, .slice la1 ln1 lc1, .slice fa1 fn1 fc1, .slice (some ⟨g, 0, none⟩) 4 sc1]) (t1 := 29) (c2 := #[.bool o, .int .i64 t, .slice wa wn wc]) (t2 := 55) rfl
 have hW1 := hb1.size
 have NBS := hide (fun q hq => (hO.so.lt q hq).2)
 have NBV := hide (fun q hq => (hO.vo.lt q hq).2)
 have NBF := hide (fun q hq => (hO.fo.lt q hq).2)
 have OU := hide (hO.below bA)
 have BU := hide (hb1.trans (bA.mono hW1))
 have OX := hide (rb_ownsRow_below hwo bA)
 have K6 := hide k6
 have K7 := hide k7
 have hb6 : W.heap.size ≤ w1.heap.size := hW1
 have a1 : (w1.alloc (.cells #[.int .i64 d.next, .slice la1 ln1 lc1, .slice fa1 fn1 fc1, .slice (some ⟨g, 0, none⟩) 4 sc1] 29)).cell? ⟨w.heap.size + 1, 1, none⟩ = some (.int .i64 (i : Int)) := (((Below.refl w1.heap.size w1).alloc (Nat.le_refl _) (.cells #[.int .i64 d.next, .slice la1 ln1 lc1, .slice fa1 fn1 fc1, .slice (some ⟨g, 0, none⟩) 4 sc1] 29)).cell (p := ⟨w.heap.size + 1, 1, none⟩) (by show w.heap.size + 1 < w1.heap.size; omega)).trans ((heap_at ((hb1.block (w.heap.size + 1) hz1).trans (unhide K1)) 1).1)
 have d0 := (((Below.refl w1.heap.size w1).alloc (Nat.le_refl _) (.cells #[.int .i64 d.next, .slice la1 ln1 lc1, .slice fa1 fn1 fc1, .slice (some ⟨g, 0, none⟩) 4 sc1] 29)).cell (p := ⟨g, i * 3, none⟩) hgw).trans c0
 have d1 := (((Below.refl w1.heap.size w1).alloc (Nat.le_refl _) (.cells #[.int .i64 d.next, .slice la1 ln1 lc1, .slice fa1 fn1 fc1, .slice (some ⟨g, 0, none⟩) 4 sc1] 29)).cell (p := ⟨g, i * 3 + 1, none⟩) hgw).trans c1
 have d2 := (((Below.refl w1.heap.size w1).alloc (Nat.le_refl _) (.cells #[.int .i64 d.next, .slice la1 ln1 lc1, .slice fa1 fn1 fc1, .slice (some ⟨g, 0, none⟩) 4 sc1] 29)).cell (p := ⟨g, i * 3 + 2, none⟩) hgw).trans c2
 have hin : (i : Int) < 4 := by omega
 clear hO hwo bA k6 k7 c0 c1 c2 hb1 z7
 go_upto_region 7 with fail
 clear d0 d1 d2 a1 hin
 generalize (w1.alloc (.cells #[.int .i64 d.next, .slice la1 ln1 lc1, .slice fa1 fn1 fc1, .slice (some ⟨g, 0, none⟩) 4 sc1] 29)).alloc (.cells #[.bool o, .int .i64 t, .slice wa wn wc] 55) = u at *
 generalize hb6e : w1.heap.size = b6 at *
 clear hb6e
 cases o with
 | false =>
  have kv := ((unhide BU).block w.heap.size hz0).trans (unhide K0)
  have v0 := (heap_at kv 0).1
  have v1 := (heap_at kv 1).1
  have v2 := (heap_at kv 2).1
  have v3 := (heap_at kv 3).1
  have ka := ((unhide BU).block (w.heap.size + 1) hz1).trans (unhide K1)
  have a0 := (heap_at ka 0).1
  have a1 := (heap_at ka 1).1
  have a2 := (heap_at ka 2).1
  have a3 := (heap_at ka 3).1
  have a4 := (heap_at ka 4).1
  have ky := ((unhide BU).block (w.heap.size + 1 + 1) hz2).trans (unhide K2)
  have y0 := (heap_at ky 0).1
  have y1 := (heap_at ky 1).1
  have y2 := (heap_at ky 2).1
  have y3 := (heap_at ky 3).1
  have yf0 := (heap_at ky 0).2
  have yf1 := (heap_at ky 1).2
  have yf2 := (heap_at ky 2).2
  have yf3 := (heap_at ky 3).2
  have kt := ((unhide BU).block (w.heap.size + 1 + 1 + 1) hz3).trans (unhide K3)
  have t0 := (heap_at kt 0).1
  have t1 := (heap_at kt 1).1
  have t2 := (heap_at kt 2).1
  have t3 := (heap_at kt 3).1
  have tf0 := (heap_at kt 0).2
  have tf1 := (heap_at kt 1).2
  have tf2 := (heap_at kt 2).2
  have tf3 := (heap_at kt 3).2
  have x0 := (heap_at (unhide K7) 0).1
  have RES := hide (show StRes ⟨la, ln, lc⟩ ⟨fa, fn, fc⟩ ⟨sa, sn, sc⟩ hs d (stepV d ⟨7, (i : Int), key, tu, val⟩) w (.returned (.tuple #[.agg #[.int .i64 d.next, .slice la ln lc, .slice fa fn fc, .slice sa sn sc], .agg #[.int .i64 10, .int .i64 0, .string ⟨#[]⟩, .slice none 0 0]])) ((((((((u.setCell ⟨w.heap.size + 1 + 1, 0, none⟩ (.int .i64 d.next)).setCell ⟨w.heap.size + 1 + 1, 1, none⟩ (.slice la ln lc)).setCell ⟨w.heap.size + 1 + 1, 2, none⟩ (.slice fa fn fc)).setCell ⟨w.heap.size + 1 + 1, 3, none⟩ (.slice sa sn sc)).setCell ⟨w.heap.size + 1 + 1 + 1, 0, none⟩ (.int .i64 10)).setCell ⟨w.heap.size + 1 + 1 + 1, 1, none⟩ (.int .i64 0)).setCell ⟨w.heap.size + 1 + 1 + 1, 2, none⟩ (.string ⟨#[]⟩)).setCell ⟨w.heap.size + 1 + 1 + 1, 3, none⟩ (.slice none 0 0)) from st_old (unhide HI) (bel_sv4 (bel_sv4 ((unhide BH).trans ((unhide BU).mono (unhide BH).size)) (by omega) _ _ _ _) (by omega) _ _ _ _) (by rw [unhide STP]; unfold sesV; rw [if_neg (by simp), if_pos rfl]))
  go_wp2_with fail
  refine bodyPost_ret (v := .tuple #[.agg #[.int .i64 d.next, .slice la ln lc, .slice fa fn fc, .slice sa sn sc], .agg #[.int .i64 10, .int .i64 0, .string ⟨#[]⟩, .slice none 0 0]]) (by simp [results, Tryz.results36, go_sem, *]) rfl ?_
  exact unhide RES
 | true =>
  have ST2 := hide (show stepV d ⟨7, (i : Int), key, tu, val⟩ = (⟨d.next, d.list, d.fen, d.ses.set i clS⟩, repV 0 t) by rw [unhide STP]; unfold sesV; rw [if_neg (by simp), if_neg (by simp), if_neg (by simp [fitA])]; unfold inV; rw [if_neg (by simp), if_neg (by simp), if_neg (by simp), if_neg (by simp)])
  have x0 := (heap_at (unhide K7) 0).1
  have x1 := (heap_at (unhide K7) 1).1
  have ka := ((unhide BU).block (w.heap.size + 1) hz1).trans (unhide K1)
  have a0 := (heap_at ka 0).1
  have bR : Below u.heap.size u (u.alloc (.cells #[.int .i64 0, .int .i64 t, .string ⟨#[]⟩, .slice none 0 0] 40)) := (Below.refl _ _).alloc (Nat.le_refl _) _
  have k8 := heap_alloc_new u (.cells #[.int .i64 0, .int .i64 t, .string ⟨#[]⟩, .slice none 0 0] 40)
  have OR := hide ((unhide OU).below bR)
  have BR := hide ((unhide BU).trans (bR.mono (unhide BU).size))
  have XR := hide (rb_ownsRow_below (unhide OX) bR)
  have K6R := hide ((bR.block b6 (blk_lt (unhide K6))).trans (unhide K6))
  have K7R := hide ((bR.block (b6 + 1) (blk_lt (unhide K7))).trans (unhide K7))
  have K8 := hide k8
  have h78 : b6 + 1 < u.heap.size := blk_lt (unhide K7)
  clear OU BU OX K6 K7 k8 bR ka
  go_upto_region 18 with fail
  clear x0 x1 a0
  generalize u.alloc (.cells #[.int .i64 0, .int .i64 t, .string ⟨#[]⟩, .slice none 0 0] 40) = ur at *
  generalize hb8e : u.heap.size = b8 at *
  clear hb8e
  have K8R := K8
  have ka := ((unhide BR).block (w.heap.size + 1) hz1).trans (unhide K1)
  have a0 := (heap_at ka 0).1
  have a1 := (heap_at ka 1).1
  have z3 := (heap_at (unhide K6R) 3).1
  have bL : Below ur.heap.size ur (ur.alloc (.cells #[] 43)) := (Below.refl _ _).alloc (Nat.le_refl _) _
  have OL := (unhide OR).below bL
  have NL := gd_base (nil_lit (w := ur) 43 4) (unhide BR).size
  have hih : i < hs1.length := by omega
  obtain ⟨g2, hg2, -, ⟨c0, c1, c2⟩, hfz, OP, WP, hki⟩ := OL.put hih ⟨clS, ⟨some ⟨ur.heap.size, 0, none⟩, 0, 0⟩⟩ NL (fun q hq => by
   injection hq with hq
   subst hq
   exact ⟨fun hn => Nat.lt_irrefl _ ((unhide OR).so.lt _ hn).2, fun e => Nat.lt_irrefl _ ((unhide OR).vo.lt _ e).2⟩)
  simp only at hg2
  injection hg2 with hg2
  injection hg2 with hg2 _ _
  subst hg2
  rw [unhide HX] at c0 c1 c2
  unfold clS at OP WP
  simp only at c0 c1 c2 OP WP
  have hf0 := hfz (i * 3)
  have hf1 := hfz (i * 3 + 1)
  have hf2 := hfz (i * 3 + 1 + 1)
  obtain ⟨cur, hcur⟩ := hki
  have BL := (unhide BR).trans (bL.mono (unhide BR).size)
  have BP := hide (BL.trans (WrB.below WP (fun k e => by rw [e]; exact hgB) BL.size))
  have K6L := (bL.block b6 (blk_lt (unhide K6R))).trans (unhide K6R)
  have h6g : b6 ≠ g := fun e => by rw [e, hcur] at K6L; injection K6L with K6L; injection K6L with _ K6L _; exact absurd K6L (by decide)
  have K6P := hide ((WP.block b6 (blk_lt K6L) h6g).trans K6L)
  have OPh := hide OP
  have a1L := (bL.cell (p := ⟨w.heap.size + 1, 1, none⟩) (cell_lt a1)).trans a1
  have z3L := (bL.cell (p := ⟨b6, 3, none⟩) (cell_lt z3)).trans z3
  have hin : (i : Int) < 4 := by omega
  have OF := hide OP
  have BF2 := BP
  have BF := hide ((unhide BH).trans ((unhide BP).mono (unhide BH).size))
  have K6F := K6P
  have K8L := (bL.block b8 (blk_lt (unhide K8R))).trans (unhide K8R)
  have h8g : b8 ≠ g := fun e => by rw [e, hcur] at K8L; injection K8L with K8L; injection K8L with _ K8L _; exact absurd K8L (by decide)
  have K8F := hide ((WP.block b8 (blk_lt K8L) h8g).trans K8L)
  clear OP WP K6L BL bL OL NL hfz hcur ka K8L K6P OPh
  go_upto_region 54 with fail
  clear a0 a1 c0 c1 c2 hf0 hf1 hf2 a1L z3L z3
  generalize ((((ur.alloc (.cells #[] 43)).setCell ⟨g, i * 3, none⟩ (.bool false)).setCell ⟨g, i * 3 + 1, none⟩ (.int .i64 0)).setCell ⟨g, i * 3 + 1 + 1, none⟩ (.slice (some ⟨ur.heap.size, 0, none⟩) 0 0)) = uf at *
  have z0 := (heap_at (unhide K6F) 0).1
  have z1 := (heap_at (unhide K6F) 1).1
  have z2 := (heap_at (unhide K6F) 2).1
  have z3 := (heap_at (unhide K6F) 3).1
  have p0 := (heap_at (unhide K8F) 0).1
  have p1 := (heap_at (unhide K8F) 1).1
  have p2 := (heap_at (unhide K8F) 2).1
  have p3 := (heap_at (unhide K8F) 3).1
  have N2 := hide (((unhide BF2).block (w.heap.size + 1 + 1) hz2).trans (unhide K2))
  have N3 := hide (((unhide BF2).block (w.heap.size + 1 + 1 + 1) hz3).trans (unhide K3))
  have h60 : b6 < uf.heap.size := blk_lt (unhide K6F)
  have h80 : b8 < uf.heap.size := blk_lt (unhide K8F)
  have h6W : W.heap.size ≤ uf.heap.size := (unhide BF2).size
  have LD := hide (show ∀ v : World, (∀ i, i ≠ w.heap.size + 1 + 1 → i ≠ w.heap.size + 1 + 1 + 1 → i < uf.heap.size → v.heap[i]? = uf.heap[i]?) → (fun u => u.cell? ⟨b6, 0, none⟩ = some (.int .i64 d.next) ∧ u.cell? ⟨b6, 1, none⟩ = some (.slice la1 ln1 lc1) ∧ u.cell? ⟨b6, 2, none⟩ = some (.slice fa1 fn1 fc1) ∧ u.cell? ⟨b6, 3, none⟩ = some (.slice (some ⟨g, 0, none⟩) 4 sc1) ∧ u.cell? ⟨b8, 0, none⟩ = some (.int .i64 0) ∧ u.cell? ⟨b8, 1, none⟩ = some (.int .i64 t) ∧ u.cell? ⟨b8, 2, none⟩ = some (.string ⟨#[]⟩) ∧ u.cell? ⟨b8, 3, none⟩ = some (.slice none 0 0)) v from fun v hv => ⟨(World.cell?_of_block (a := ⟨b6, 0, none⟩) (hv b6 (by omega) (by omega) h60)).trans z0, (World.cell?_of_block (a := ⟨b6, 1, none⟩) (hv b6 (by omega) (by omega) h60)).trans z1, (World.cell?_of_block (a := ⟨b6, 2, none⟩) (hv b6 (by omega) (by omega) h60)).trans z2, (World.cell?_of_block (a := ⟨b6, 3, none⟩) (hv b6 (by omega) (by omega) h60)).trans z3, (World.cell?_of_block (a := ⟨b8, 0, none⟩) (hv b8 (by omega) (by omega) h80)).trans p0, (World.cell?_of_block (a := ⟨b8, 1, none⟩) (hv b8 (by omega) (by omega) h80)).trans p1, (World.cell?_of_block (a := ⟨b8, 2, none⟩) (hv b8 (by omega) (by omega) h80)).trans p2, (World.cell?_of_block (a := ⟨b8, 3, none⟩) (hv b8 (by omega) (by omega) h80)).trans p3⟩)
  clear z0 z1 z2 z3 p0 p1 p2 p3
  have D0 := hide (show ∀ i, i ≠ w.heap.size + 1 + 1 → i ≠ w.heap.size + 1 + 1 + 1 → i < uf.heap.size → uf.drew.heap[i]? = uf.heap[i]? from fun _ _ _ _ => rfl)
  have ZD0 := hide (show uf.heap.size ≤ uf.drew.heap.size from Nat.le_refl _)
  have BD0 := hide (show Below w.heap.size w uf.drew from (unhide BF).drew)
  replace N2 := hide (show uf.drew.heap[w.heap.size + 1 + 1]? = _ from unhide N2)
  replace N3 := hide (show uf.drew.heap[w.heap.size + 1 + 1 + 1]? = _ from unhide N3)
  go_upto_region 54 with fail
  refine wp_region_held_drew (S := (fun u => u.cell? ⟨b6, 0, none⟩ = some (.int .i64 d.next) ∧ u.cell? ⟨b6, 1, none⟩ = some (.slice la1 ln1 lc1) ∧ u.cell? ⟨b6, 2, none⟩ = some (.slice fa1 fn1 fc1) ∧ u.cell? ⟨b6, 3, none⟩ = some (.slice (some ⟨g, 0, none⟩) 4 sc1) ∧ u.cell? ⟨b8, 0, none⟩ = some (.int .i64 0) ∧ u.cell? ⟨b8, 1, none⟩ = some (.int .i64 t) ∧ u.cell? ⟨b8, 2, none⟩ = some (.string ⟨#[]⟩) ∧ u.cell? ⟨b8, 3, none⟩ = some (.slice none 0 0))) (by kernel_rfl) (unhide LD _ (unhide D0)) (fun hHeld => ?_)
  generalize uf.drew = ud at *
  refine tk 0 229 rfl rfl hHeld ?_
  simp only [Act.put, lA, lB, lC]
  refine tk 1 230 rfl rfl hHeld ?_
  simp only [Act.put, lA, lB, lC]
  refine rd [2] (.cons rfl (fun K hK => ?_) .nil)
  have c0 := (heap_at (unhide N2) 0).1
  have c1 := (heap_at (unhide N2) 1).1
  have c2 := (heap_at (unhide N2) 2).1
  have c3 := (heap_at (unhide N2) 3).1
  have cf0 := (heap_at (unhide N2) 0).2
  have cf1 := (heap_at (unhide N2) 1).2
  have cf2 := (heap_at (unhide N2) 2).2
  have cf3 := (heap_at (unhide N2) 3).2
  have hw : WrB (fun i => i = w.heap.size + 1 + 1) ud ((((ud.setCell ⟨w.heap.size + 1 + 1, 0, none⟩ (.int .i64 d.next)).setCell ⟨w.heap.size + 1 + 1, 1, none⟩ (.slice la1 ln1 lc1)).setCell ⟨w.heap.size + 1 + 1, 2, none⟩ (.slice fa1 fn1 fc1)).setCell ⟨w.heap.size + 1 + 1, 3, none⟩ (.slice (some ⟨g, 0, none⟩) 4 sc1)) := sv4_wr ud (w.heap.size + 1 + 1) (.int .i64 d.next) (.slice la1 ln1 lc1) (.slice fa1 fn1 fc1) (.slice (some ⟨g, 0, none⟩) 4 sc1)
  have D1 := hide (show ∀ i, i ≠ w.heap.size + 1 + 1 → i ≠ w.heap.size + 1 + 1 + 1 → i < uf.heap.size → ((((ud.setCell ⟨w.heap.size + 1 + 1, 0, none⟩ (.int .i64 d.next)).setCell ⟨w.heap.size + 1 + 1, 1, none⟩ (.slice la1 ln1 lc1)).setCell ⟨w.heap.size + 1 + 1, 2, none⟩ (.slice fa1 fn1 fc1)).setCell ⟨w.heap.size + 1 + 1, 3, none⟩ (.slice (some ⟨g, 0, none⟩) 4 sc1)).heap[i]? = uf.heap[i]? from fun i h1 h2 h3 => (hw.block i (Nat.lt_of_lt_of_le h3 (unhide ZD0)) (by first | exact h1 | exact h2)).trans (unhide D0 i h1 h2 h3))
  have ZD1 := hide (show uf.heap.size ≤ ((((ud.setCell ⟨w.heap.size + 1 + 1, 0, none⟩ (.int .i64 d.next)).setCell ⟨w.heap.size + 1 + 1, 1, none⟩ (.slice la1 ln1 lc1)).setCell ⟨w.heap.size + 1 + 1, 2, none⟩ (.slice fa1 fn1 fc1)).setCell ⟨w.heap.size + 1 + 1, 3, none⟩ (.slice (some ⟨g, 0, none⟩) 4 sc1)).heap.size from Nat.le_trans (unhide ZD0) hw.size)
  have Ka := hide (show ((((ud.setCell ⟨w.heap.size + 1 + 1, 0, none⟩ (.int .i64 d.next)).setCell ⟨w.heap.size + 1 + 1, 1, none⟩ (.slice la1 ln1 lc1)).setCell ⟨w.heap.size + 1 + 1, 2, none⟩ (.slice fa1 fn1 fc1)).setCell ⟨w.heap.size + 1 + 1, 3, none⟩ (.slice (some ⟨g, 0, none⟩) 4 sc1)).heap[w.heap.size + 1 + 1]? = some (.cells #[.int .i64 d.next, .slice la1 ln1 lc1, .slice fa1 fn1 fc1, .slice (some ⟨g, 0, none⟩) 4 sc1] 29 (0, 0)) from sv4_heap (unhide N2) (.int .i64 d.next) (.slice la1 ln1 lc1) (.slice fa1 fn1 fc1) (.slice (some ⟨g, 0, none⟩) 4 sc1))
  have BD1 := hide (show Below w.heap.size w ((((ud.setCell ⟨w.heap.size + 1 + 1, 0, none⟩ (.int .i64 d.next)).setCell ⟨w.heap.size + 1 + 1, 1, none⟩ (.slice la1 ln1 lc1)).setCell ⟨w.heap.size + 1 + 1, 2, none⟩ (.slice fa1 fn1 fc1)).setCell ⟨w.heap.size + 1 + 1, 3, none⟩ (.slice (some ⟨g, 0, none⟩) 4 sc1)) from bel_sv4 (unhide BD0) (by omega) (.int .i64 d.next) (.slice la1 ln1 lc1) (.slice fa1 fn1 fc1) (.slice (some ⟨g, 0, none⟩) 4 sc1))
  have E3 := hide ((hw.block (w.heap.size + 1 + 1 + 1) (blk_lt (unhide N3)) (by omega)).trans (unhide N3))
  clear hw
  go_simp
  refine hK.out _ _ (unhide LD _ (unhide D1)) (fun hHeld => ?_)
  clear hK K
  clear c0 c1 c2 c3 cf0 cf1 cf2 cf3
  generalize ((((ud.setCell ⟨w.heap.size + 1 + 1, 0, none⟩ (.int .i64 d.next)).setCell ⟨w.heap.size + 1 + 1, 1, none⟩ (.slice la1 ln1 lc1)).setCell ⟨w.heap.size + 1 + 1, 2, none⟩ (.slice fa1 fn1 fc1)).setCell ⟨w.heap.size + 1 + 1, 3, none⟩ (.slice (some ⟨g, 0, none⟩) 4 sc1)) = ue at *
  refine rd [3] (.cons rfl (fun K hK => ?_) .nil)
  have c0 := (heap_at (unhide E3) 0).1
  have c1 := (heap_at (unhide E3) 1).1
  have c2 := (heap_at (unhide E3) 2).1
  have c3 := (heap_at (unhide E3) 3).1
  have cf0 := (heap_at (unhide E3) 0).2
  have cf1 := (heap_at (unhide E3) 1).2
  have cf2 := (heap_at (unhide E3) 2).2
  have cf3 := (heap_at (unhide E3) 3).2
  have hw : WrB (fun i => i = w.heap.size + 1 + 1 + 1) ue ((((ue.setCell ⟨w.heap.size + 1 + 1 + 1, 0, none⟩ (.int .i64 0)).setCell ⟨w.heap.size + 1 + 1 + 1, 1, none⟩ (.int .i64 t)).setCell ⟨w.heap.size + 1 + 1 + 1, 2, none⟩ (.string ⟨#[]⟩)).setCell ⟨w.heap.size + 1 + 1 + 1, 3, none⟩ (.slice none 0 0)) := sv4_wr ue (w.heap.size + 1 + 1 + 1) (.int .i64 0) (.int .i64 t) (.string ⟨#[]⟩) (.slice none 0 0)
  have D2 := hide (show ∀ i, i ≠ w.heap.size + 1 + 1 → i ≠ w.heap.size + 1 + 1 + 1 → i < uf.heap.size → ((((ue.setCell ⟨w.heap.size + 1 + 1 + 1, 0, none⟩ (.int .i64 0)).setCell ⟨w.heap.size + 1 + 1 + 1, 1, none⟩ (.int .i64 t)).setCell ⟨w.heap.size + 1 + 1 + 1, 2, none⟩ (.string ⟨#[]⟩)).setCell ⟨w.heap.size + 1 + 1 + 1, 3, none⟩ (.slice none 0 0)).heap[i]? = uf.heap[i]? from fun i h1 h2 h3 => (hw.block i (Nat.lt_of_lt_of_le h3 (unhide ZD1)) (by first | exact h1 | exact h2)).trans (unhide D1 i h1 h2 h3))
  have ZD2 := hide (show uf.heap.size ≤ ((((ue.setCell ⟨w.heap.size + 1 + 1 + 1, 0, none⟩ (.int .i64 0)).setCell ⟨w.heap.size + 1 + 1 + 1, 1, none⟩ (.int .i64 t)).setCell ⟨w.heap.size + 1 + 1 + 1, 2, none⟩ (.string ⟨#[]⟩)).setCell ⟨w.heap.size + 1 + 1 + 1, 3, none⟩ (.slice none 0 0)).heap.size from Nat.le_trans (unhide ZD1) hw.size)
  have Kb := hide (show ((((ue.setCell ⟨w.heap.size + 1 + 1 + 1, 0, none⟩ (.int .i64 0)).setCell ⟨w.heap.size + 1 + 1 + 1, 1, none⟩ (.int .i64 t)).setCell ⟨w.heap.size + 1 + 1 + 1, 2, none⟩ (.string ⟨#[]⟩)).setCell ⟨w.heap.size + 1 + 1 + 1, 3, none⟩ (.slice none 0 0)).heap[w.heap.size + 1 + 1 + 1]? = some (.cells #[.int .i64 0, .int .i64 t, .string ⟨#[]⟩, .slice none 0 0] 40 (0, 0)) from sv4_heap (unhide E3) (.int .i64 0) (.int .i64 t) (.string ⟨#[]⟩) (.slice none 0 0))
  have BD2 := hide (show Below w.heap.size w ((((ue.setCell ⟨w.heap.size + 1 + 1 + 1, 0, none⟩ (.int .i64 0)).setCell ⟨w.heap.size + 1 + 1 + 1, 1, none⟩ (.int .i64 t)).setCell ⟨w.heap.size + 1 + 1 + 1, 2, none⟩ (.string ⟨#[]⟩)).setCell ⟨w.heap.size + 1 + 1 + 1, 3, none⟩ (.slice none 0 0)) from bel_sv4 (unhide BD1) (by omega) (.int .i64 0) (.int .i64 t) (.string ⟨#[]⟩) (.slice none 0 0))
  have Kc := hide ((hw.block (w.heap.size + 1 + 1) (blk_lt (unhide Ka)) (by omega)).trans (unhide Ka))
  clear hw
  go_simp
  refine hK.out _ _ (unhide LD _ (unhide D2)) (fun hHeld => ?_)
  clear hK K
  clear c0 c1 c2 c3 cf0 cf1 cf2 cf3
  generalize ((((ue.setCell ⟨w.heap.size + 1 + 1 + 1, 0, none⟩ (.int .i64 0)).setCell ⟨w.heap.size + 1 + 1 + 1, 1, none⟩ (.int .i64 t)).setCell ⟨w.heap.size + 1 + 1 + 1, 2, none⟩ (.string ⟨#[]⟩)).setCell ⟨w.heap.size + 1 + 1 + 1, 3, none⟩ (.slice none 0 0)) = ug at *
  refine wpAnyH_done (by kernel_rfl) ?_ _
  have r0 := (heap_at (unhide Kc) 0).1
  have r1 := (heap_at (unhide Kc) 1).1
  have r2 := (heap_at (unhide Kc) 2).1
  have r3 := (heap_at (unhide Kc) 3).1
  have q0 := (heap_at (unhide Kb) 0).1
  have q1 := (heap_at (unhide Kb) 1).1
  have q2 := (heap_at (unhide Kb) 2).1
  have q3 := (heap_at (unhide Kb) 3).1
  have OG := (unhide OF).wr (P := fun i => i = w.heap.size + 1 + 1 ∨ i = w.heap.size + 1 + 1 + 1) (w' := ug) ⟨(unhide BD2).os.trans (unhide BF).os.symm, (unhide BD2).tape.trans (unhide BF).tape.symm, (unhide BD2).output.trans (unhide BF).output.symm, unhide ZD2, fun i hi hp => unhide D2 i (fun e => hp (.inl e)) (fun e => hp (.inr e)) hi⟩ (fun i e => by rcases e with e | e <;> omega)
  have RES := hide (show StRes ⟨la, ln, lc⟩ ⟨fa, fn, fc⟩ ⟨sa, sn, sc⟩ hs d (stepV d ⟨7, (i : Int), key, tu, val⟩) w (.returned (.tuple #[.agg #[.int .i64 d.next, .slice la1 ln1 lc1, .slice fa1 fn1 fc1, .slice (some ⟨g, 0, none⟩) 4 sc1], .agg #[.int .i64 0, .int .i64 t, .string ⟨#[]⟩, .slice none 0 0]])) ug from st_own OG (Nat.le_of_lt hz0) (unhide BD2) (unhide ST2))
  clear hHeld LD D0 D1 D2 N2 N3 E3 Ka Kb Kc
  go_wp2_with fail
  refine bodyPost_ret (v := .tuple #[.agg #[.int .i64 d.next, .slice la1 ln1 lc1, .slice fa1 fn1 fc1, .slice (some ⟨g, 0, none⟩) 4 sc1], .agg #[.int .i64 0, .int .i64 t, .string ⟨#[]⟩, .slice none 0 0]]) (by simp [results, Tryz.results36, go_sem, *]) rfl ?_
  exact unhide RES
end Go.Proofs.YtdnjgbckkmbmfaaGreat

namespace Go.Proofs.YtdnjgbckkmbmfaaGreat
open Go.RowKit

set_option maxHeartbeats 8000000 in
theorem l06Step_bad (d : VsD) (kind ses : Int) (key tu val : ByteArray) (l f s : Sl) (hs : List SeH) (w : World) (hI : VzIn w l f s hs d) (hS : SmV d) (hb : ¬ (1 ≤ kind ∧ kind ≤ 7) ∨ ¬ (0 ≤ ses ∧ ses ≤ 3)) :
  Calls Tryz.prog 36 #[.agg (vzC d.next l f s), .agg #[.int .i64 kind, .int .i64 ses, .string key, .string tu, .string val]] w fun e w' => StRes l f s hs d (stepV d ⟨kind, ses, key, tu, val⟩) w e w' := by
 have hz := allocC_size [(vzC d.next l f s, 29), (#[.int .i64 kind, .int .i64 ses, .string key, .string tu, .string val], 37), (#[.int .i64 0, .slice none 0 0, .slice none 0 0, .slice none 0 0], 29), (#[.int .i64 0, .int .i64 0, .string ⟨#[]⟩, .slice none 0 0], 40)] w
 have b1 := allocC_bel [(vzC d.next l f s, 29), (#[.int .i64 kind, .int .i64 ses, .string key, .string tu, .string val], 37), (#[.int .i64 0, .slice none 0 0, .slice none 0 0, .slice none 0 0], 29), (#[.int .i64 0, .int .i64 0, .string ⟨#[]⟩, .slice none 0 0], 40)] w
 have AT := allocC_at [(vzC d.next l f s, 29), (#[.int .i64 kind, .int .i64 ses, .string key, .string tu, .string val], 37), (#[.int .i64 0, .slice none 0 0, .slice none 0 0, .slice none 0 0], 29), (#[.int .i64 0, .int .i64 0, .string ⟨#[]⟩, .slice none 0 0], 40)] w
 obtain ⟨W, hW⟩ : ∃ W, W = allocC w [(vzC d.next l f s, 29), (#[.int .i64 kind, .int .i64 ses, .string key, .string tu, .string val], 37), (#[.int .i64 0, .slice none 0 0, .slice none 0 0, .slice none 0 0], 29), (#[.int .i64 0, .int .i64 0, .string ⟨#[]⟩, .slice none 0 0], 40)] := ⟨_, rfl⟩
 rw [← hW] at hz b1 AT
 simp only [List.length_cons, List.length_nil] at hz
 have k0 : W.heap[w.heap.size]? = some (.cells (vzC d.next l f s) 29 (0, 0)) := AT 0 _ _ rfl
 have k1 : W.heap[w.heap.size + 1]? = some (.cells #[.int .i64 kind, .int .i64 ses, .string key, .string tu, .string val] 37 (0, 0)) := AT 1 _ _ rfl
 have k2 : W.heap[w.heap.size + 1 + 1]? = some (.cells #[.int .i64 0, .slice none 0 0, .slice none 0 0, .slice none 0 0] 29 (0, 0)) := AT 2 _ _ rfl
 have k3 : W.heap[w.heap.size + 1 + 1 + 1]? = some (.cells #[.int .i64 0, .int .i64 0, .string ⟨#[]⟩, .slice none 0 0] 40 (0, 0)) := AT 3 _ _ rfl
 have hz0 : w.heap.size < W.heap.size := by omega
 have hz1 : w.heap.size + 1 < W.heap.size := by omega
 have hz2 : w.heap.size + 1 + 1 < W.heap.size := by omega
 have hz3 : w.heap.size + 1 + 1 + 1 < W.heap.size := by omega
 unfold allocC allocC allocC allocC allocC at hW
 have BH := hide b1
 have HI := hide hI
 have HS := hide hS
 obtain ⟨la, ln, lc⟩ := l
 obtain ⟨fa, fn, fc⟩ := f
 obtain ⟨sa, sn, sc⟩ := s
 unfold vzC at k0 hW ⊢
 simp only at k0 hW ⊢
 have K0 := hide k0
 have K1 := hide k1
 have K2 := hide k2
 have K3 := hide k3
 have hnx := hS.nx
 have a0 := (heap_at k1 0).1
 have a1 := (heap_at k1 1).1
 have v0 := (heap_at k0 0).1
 have v1 := (heap_at k0 1).1
 have v2 := (heap_at k0 2).1
 have v3 := (heap_at k0 3).1
 clear hI hS hz b1 AT k0 k1 k2 k3
 have kyy := unhide K2
 have ktt := unhide K3
 have y0 := (heap_at kyy 0).1
 have y1 := (heap_at kyy 1).1
 have y2 := (heap_at kyy 2).1
 have y3 := (heap_at kyy 3).1
 have yf0 := (heap_at kyy 0).2
 have yf1 := (heap_at kyy 1).2
 have yf2 := (heap_at kyy 2).2
 have yf3 := (heap_at kyy 3).2
 have t0 := (heap_at ktt 0).1
 have t1 := (heap_at ktt 1).1
 have t2 := (heap_at ktt 2).1
 have t3 := (heap_at ktt 3).1
 have tf0 := (heap_at ktt 0).2
 have tf1 := (heap_at ktt 1).2
 have tf2 := (heap_at ktt 2).2
 have tf3 := (heap_at ktt 3).2
 clear kyy ktt
 cases hkb : (decide (1 ≤ kind) && decide (kind ≤ 7)) with
 | false =>
  have hk : ¬ (1 ≤ kind ∧ kind ≤ 7) := fun h => by rw [decide_eq_true h.1, decide_eq_true h.2] at hkb; cases hkb
  clear hb
  have RES := hide (show StRes ⟨la, ln, lc⟩ ⟨fa, fn, fc⟩ ⟨sa, sn, sc⟩ hs d (stepV d ⟨kind, ses, key, tu, val⟩) w (.returned (.tuple #[.agg #[.int .i64 d.next, .slice la ln lc, .slice fa fn fc, .slice sa sn sc], .agg #[.int .i64 3, .int .i64 0, .string ⟨#[]⟩, .slice none 0 0]])) ((((((((W.setCell ⟨w.heap.size + 1 + 1, 0, none⟩ (.int .i64 d.next)).setCell ⟨w.heap.size + 1 + 1, 1, none⟩ (.slice la ln lc)).setCell ⟨w.heap.size + 1 + 1, 2, none⟩ (.slice fa fn fc)).setCell ⟨w.heap.size + 1 + 1, 3, none⟩ (.slice sa sn sc)).setCell ⟨w.heap.size + 1 + 1 + 1, 0, none⟩ (.int .i64 3)).setCell ⟨w.heap.size + 1 + 1 + 1, 1, none⟩ (.int .i64 0)).setCell ⟨w.heap.size + 1 + 1 + 1, 2, none⟩ (.string ⟨#[]⟩)).setCell ⟨w.heap.size + 1 + 1 + 1, 3, none⟩ (.slice none 0 0)) from st_old (unhide HI) (bel_sv4 (bel_sv4 (unhide BH) (by omega) _ _ _ _) (by omega) _ _ _ _) (by unfold stepV; rw [if_pos hk]))
  go_enter Tryz.func36, Tryz.ntmps36
  go_upto_region 1 with fail
  rw [← hW]
  clear hW
  go_wp2_with (go_at_call 75; refine (l01In_any _ _ _ _).mono ?_; rintro e w9 ⟨rfl, hw9⟩; subst w9)
  refine bodyPost_ret (v := .tuple #[.agg #[.int .i64 d.next, .slice la ln lc, .slice fa fn fc, .slice sa sn sc], .agg #[.int .i64 3, .int .i64 0, .string ⟨#[]⟩, .slice none 0 0]]) (by simp [results, Tryz.results36, go_sem, *]) rfl ?_
  exact unhide RES
 | true =>
  have hk : 1 ≤ kind ∧ kind ≤ 7 := by simpa using hkb
  have hs' : ¬ (0 ≤ ses ∧ ses ≤ 3) := fun h => hb.elim (fun h' => h' hk) (fun h' => h' h)
  have hsb : (decide (0 ≤ ses) && decide (ses ≤ 3)) = false := by
   cases h : (decide (0 ≤ ses) && decide (ses ≤ 3))
   ·rfl
   ·exact absurd (by simpa using h) hs'
  clear hb
  have RES := hide (show StRes ⟨la, ln, lc⟩ ⟨fa, fn, fc⟩ ⟨sa, sn, sc⟩ hs d (stepV d ⟨kind, ses, key, tu, val⟩) w (.returned (.tuple #[.agg #[.int .i64 d.next, .slice la ln lc, .slice fa fn fc, .slice sa sn sc], .agg #[.int .i64 4, .int .i64 0, .string ⟨#[]⟩, .slice none 0 0]])) ((((((((W.setCell ⟨w.heap.size + 1 + 1, 0, none⟩ (.int .i64 d.next)).setCell ⟨w.heap.size + 1 + 1, 1, none⟩ (.slice la ln lc)).setCell ⟨w.heap.size + 1 + 1, 2, none⟩ (.slice fa fn fc)).setCell ⟨w.heap.size + 1 + 1, 3, none⟩ (.slice sa sn sc)).setCell ⟨w.heap.size + 1 + 1 + 1, 0, none⟩ (.int .i64 4)).setCell ⟨w.heap.size + 1 + 1 + 1, 1, none⟩ (.int .i64 0)).setCell ⟨w.heap.size + 1 + 1 + 1, 2, none⟩ (.string ⟨#[]⟩)).setCell ⟨w.heap.size + 1 + 1 + 1, 3, none⟩ (.slice none 0 0)) from st_old (unhide HI) (bel_sv4 (bel_sv4 (unhide BH) (by omega) _ _ _ _) (by omega) _ _ _ _) (by unfold stepV; rw [if_neg (fun h => h hk), if_pos hs']))
  go_enter Tryz.func36, Tryz.ntmps36
  go_upto_region 1 with fail
  rw [← hW]
  clear hW
  go_wp2_with (go_at_call 75; refine (l01In_any _ _ _ _).mono ?_; rintro e w9 ⟨rfl, hw9⟩; subst w9)
  refine bodyPost_ret (v := .tuple #[.agg #[.int .i64 d.next, .slice la ln lc, .slice fa fn fc, .slice sa sn sc], .agg #[.int .i64 4, .int .i64 0, .string ⟨#[]⟩, .slice none 0 0]]) (by simp [results, Tryz.results36, go_sem, *]) rfl ?_
  exact unhide RES
theorem l06Step_any (d : VsD) (a : TxD) (l f s : Sl) (hs : List SeH) (w : World) (hI : VzIn w l f s hs d) (hS : SmV d) :
  Calls Tryz.prog 36 #[.agg (vzC d.next l f s), xv a] w fun e w' => StRes l f s hs d (stepV d a) w e w' := by
 obtain ⟨kind, ses, key, tu, val⟩ := a
 unfold xv
 simp only
 by_cases hb : ¬ (1 ≤ kind ∧ kind ≤ 7) ∨ ¬ (0 ≤ ses ∧ ses ≤ 3)
 ·exact l06Step_bad d kind ses key tu val l f s hs w hI hS hb
 ·obtain ⟨i, rfl⟩ : ∃ i : Nat, ses = (i : Int) := ⟨ses.toNat, by omega⟩
  have hi : i < 4 := by omega
  have hk : kind = 1 ∨ kind = 2 ∨ kind = 3 ∨ kind = 4 ∨ kind = 5 ∨ kind = 6 ∨ kind = 7 := by omega
  rcases hk with rfl | rfl | rfl | rfl | rfl | rfl | rfl
  ·exact l06Step_1 d i key tu val l f s hs w hI hS hi
  ·exact l06Step_2 d i key tu val l f s hs w hI hS hi
  ·exact l06Step_3 d i key tu val l f s hs w hI hS hi
  ·exact l06Step_4 d i key tu val l f s hs w hI hS hi
  ·exact l06Step_5 d i key tu val l f s hs w hI hS hi
  ·exact l06Step_6 d i key tu val l f s hs w hI hS hi
  ·exact l06Step_7 d i key tu val l f s hs w hI hS hi
end Go.Proofs.YtdnjgbckkmbmfaaGreat

namespace Go.Proofs.YtdnjgbckkmbmfaaGreat
open Go.RowKit

theorem zr_box {w : World} {B n tb : Nat} {v : Value} {zs : List ZrH} {cs : Array Value} {t : TypeId} (h : NOwn w B 40 4 v n (zs.map zrEl)) (hb : w.heap[tb]? = some (.cells cs t (0, 0))) (h1 : 40 ≠ t) (h2 : 48 ≠ t) : ¬ NBl v (zs.map zrEl) tb := fun hn => by
 rcases hn with hn | ⟨k, a, x, hx, hi⟩
 ·exact own_box h.row hb h1 hn
 ·have ht : x.t = 48 := by
   obtain ⟨e, he, hxe⟩ := sbAt_mem hx
   obtain ⟨y, _, rfl⟩ := List.mem_map.1 he
   rw [List.mem_singleton.1 hxe]
  have hd := h.dat k a x hx
  rw [ht] at hd
  exact own_box hd hb h2 hi
structure TrSt (W v : World) (tb : Nat) (l f s : Sl) (hs : List SeH) (d : VsD) (rv : Value) (zs : List ZrH) : Prop where
 bel : Below W.heap.size W v
 own : VzOwn v W.heap.size l f s hs d
 box : v.heap[tb]? = some (.cells (vzC d.next l f s) 29 (0, 0))
 rep : ZrOwn v W.heap.size rv zs
 tge : W.heap.size ≤ tb
theorem TrSt.below {W v v' : World} {tb : Nat} {l f s : Sl} {hs : List SeH} {d : VsD} {rv : Value} {zs : List ZrH} (h : TrSt W v tb l f s hs d rv zs) (hb : Below v.heap.size v v') : TrSt W v' tb l f s hs d rv zs :=
 ⟨h.bel.trans (hb.mono h.bel.size), h.own.below hb, (hb.block tb (blk_lt h.box)).trans h.box, h.rep.below hb, h.tge⟩
theorem TrSt.push {W wr u : World} {tb : Nat} {l f s l' f' s' : Sl} {hs hs' : List SeH} {d d' : VsD} {rv : Value} {zs : List ZrH} (h : TrSt W wr tb l f s hs d rv zs) (hb : Below wr.heap.size wr u) (own' : VzOwn u W.heap.size l' f' s' hs' d') (p : RepD) (r : Sl) (eo : EOwns u wr.heap.size (.slice r.a r.n r.c) p.list) (hz : zs.length ≤ 1000) :
  ∃ q : Sl, ∃ w5, (Builtin.append_ #[30, 30] 30 #[rv, .slice (some ⟨(sv4 u tb (.int .i64 d'.next) (.slice l'.a l'.n l'.c) (.slice f'.a f'.n f'.c) (.slice s'.a s'.n s'.c)).heap.size, 0, none⟩) 1 1]).run Tryz.prog ((sv4 u tb (.int .i64 d'.next) (.slice l'.a l'.n l'.c) (.slice f'.a f'.n f'.c) (.slice s'.a s'.n s'.c)).alloc (.cells #[.int .i64 p.code, .int .i64 p.time, .string p.val, .slice r.a r.n r.c] 40)) = .ok (.slice q.a q.n q.c) w5 ∧ TrSt W w5 tb l' f' s' hs' d' (.slice q.a q.n q.c) (zs ++ [⟨p, r⟩]) := by
 have hu := h.below hb
 have hw := sv4_wr u tb (.int .i64 d'.next) (.slice l'.a l'.n l'.c) (.slice f'.a f'.n f'.c) (.slice s'.a s'.n s'.c)
 have hx := sv4_heap hu.box (.int .i64 d'.next) (.slice l'.a l'.n l'.c) (.slice f'.a f'.n f'.c) (.slice s'.a s'.n s'.c)
 have o1 := own'.box hu.box (by decide) (by decide) (by decide) hw
 have e1 := own_keep eo hu.box (by decide) hw
 have r1 : ZrOwn (sv4 u tb (.int .i64 d'.next) (.slice l'.a l'.n l'.c) (.slice f'.a f'.n f'.c) (.slice s'.a s'.n s'.c)) W.heap.size rv zs := hu.rep.keep hw (fun i hi e => by subst e; exact zr_box hu.rep hu.box (by decide) (by decide) hi)
 have b1 := hu.bel.trans (WrB.below hw (fun i e => by rw [e]; exact h.tge) hu.bel.size)
 have hwr : wr.heap.size ≤ (sv4 u tb (.int .i64 d'.next) (.slice l'.a l'.n l'.c) (.slice f'.a f'.n f'.c) (.slice s'.a s'.n s'.c)).heap.size := Nat.le_trans hb.size hw.size
 have hlt : ∀ i, NBl rv (zs.map zrEl) i → i < wr.heap.size := fun i hi => (h.rep.lt i hi).2
 clear hw
 generalize sv4 u tb (.int .i64 d'.next) (.slice l'.a l'.n l'.c) (.slice f'.a f'.n f'.c) (.slice s'.a s'.n s'.c) = u1 at *
 obtain ⟨i0, hi0, hz0, hz1, hz2⟩ := info_parts Tryz.infoZr
 obtain ⟨v', w5, hrun, hN, hg, -⟩ := NOwn.app (e := zrEl ⟨p, r⟩) (C := wr.heap.size) 30 Tryz.underlying30 hi0 hz0 hz1 hz2 rfl (by decide) (by decide) r1 rfl (by intro y hy; simp only [zrEl, List.mem_cons, List.not_mem_nil, or_false] at hy; rcases hy with rfl | rfl | rfl | rfl <;> rfl) (fun y hy => by rw [List.mem_singleton.1 hy]; exact e1) hlt h.bel.size (fun a b y z hy hz' hab => by
  match a, hy, b, hz' with
  | 0, _, 0, _ => exact absurd rfl hab
  | a + 1, hy, _, _ => cases hy
  | 0, _, b + 1, hz' => cases hz') (by omega) b1.size
 obtain ⟨q, rfl, -⟩ := v_slice hN.row
 have bA : Below u1.heap.size u1 (u1.alloc (.cells (zrEl ⟨p, r⟩).hd.toArray 40)) := (Below.refl _ _).alloc (Nat.le_refl _) _
 have hG := WrB.of_grown hg
 have oA := o1.below bA
 have rA := r1.below bA
 have xA := (bA.block tb (blk_lt hx)).trans hx
 have bB := b1.trans (bA.mono b1.size)
 refine ⟨q, w5, hrun, ⟨bB.trans (WrB.below hG (fun i hi => (rA.row.lt i hi).1) bB.size), oA.apart hG (fun i hi => own_other oA.vo rA.row (by decide) hi) (fun i hi => own_other oA.fo rA.row (by decide) hi) (fun i hi e => ?_), (hG.block tb (blk_lt xA) (own_box rA.row xA (by decide))).trans xA, ?_, h.tge⟩⟩
 ·obtain ⟨cur, hc⟩ := own_kind rA.row e
  exact se_box oA.so hc (by decide) (by decide) hi
 ·have := hN
  rw [← List.map_singleton, ← List.map_append] at this
  rw [show zs.length + 1 = (zs ++ [(⟨p, r⟩ : ZrH)]).length by simp] at this
  exact this
structure RgT (W wr u : World) (p : VsD × RepD) (res : Option (Sl × Sl × Sl × List SeH × Sl)) (b8 b9 : Option Nat) : Prop where
 bel : Below wr.heap.size wr u
 r : ∀ l f s hs r, res = some (l, f, s, hs, r) → VzOwn u W.heap.size l f s hs p.1 ∧ EOwns u wr.heap.size (.slice r.a r.n r.c) p.2.list
 e8 : ∀ b, b8 = some b → wr.heap.size ≤ b ∧ u.heap[b]? = some (.cells #[.int .i64 0, .slice none 0 0, .slice none 0 0, .slice none 0 0] 29 (0, 0))
 e9 : ∀ b, b9 = some b → wr.heap.size ≤ b ∧ u.heap[b]? = some (.cells #[.int .i64 0, .int .i64 0, .string ⟨#[]⟩, .slice none 0 0] 40 (0, 0))
theorem RgT.step {W wr u u' : World} {p : VsD × RepD} {res : Option (Sl × Sl × Sl × List SeH × Sl)} {b8 b9 : Option Nat} (h : RgT W wr u p res b8 b9) (hb : Below u.heap.size u u') : RgT W wr u' p res b8 b9 :=
 ⟨h.bel.trans (hb.mono h.bel.size), fun l f s hs r e => ⟨(h.r l f s hs r e).1.below hb, rb_ownsRow_below (h.r l f s hs r e).2 hb⟩, fun b e => ⟨(h.e8 b e).1, (hb.block b (blk_lt (h.e8 b e).2)).trans (h.e8 b e).2⟩, fun b e => ⟨(h.e9 b e).1, (hb.block b (blk_lt (h.e9 b e).2)).trans (h.e9 b e).2⟩⟩
theorem RgT.lit8 {W wr u : World} {p : VsD × RepD} {res : Option (Sl × Sl × Sl × List SeH × Sl)} {b9 : Option Nat} (h : RgT W wr u p res none b9) : RgT W wr (u.alloc (.cells #[.int .i64 0, .slice none 0 0, .slice none 0 0, .slice none 0 0] 29)) p res (some u.heap.size) b9 := by
 have s := h.step ((Below.refl u.heap.size u).alloc (Nat.le_refl _) (.cells #[.int .i64 0, .slice none 0 0, .slice none 0 0, .slice none 0 0] 29))
 refine ⟨s.bel, s.r, fun b e => ?_, s.e9⟩
 injection e with e
 subst e
 exact ⟨h.bel.size, heap_alloc_new _ _⟩
theorem RgT.lit9 {W wr u : World} {p : VsD × RepD} {res : Option (Sl × Sl × Sl × List SeH × Sl)} {b8 : Option Nat} (h : RgT W wr u p res b8 none) : RgT W wr (u.alloc (.cells #[.int .i64 0, .int .i64 0, .string ⟨#[]⟩, .slice none 0 0] 40)) p res b8 (some u.heap.size) := by
 have s := h.step ((Below.refl u.heap.size u).alloc (Nat.le_refl _) (.cells #[.int .i64 0, .int .i64 0, .string ⟨#[]⟩, .slice none 0 0] 40))
 refine ⟨s.bel, s.r, s.e8, fun b e => ?_⟩
 injection e with e
 subst e
 exact ⟨h.bel.size, heap_alloc_new _ _⟩
theorem RgT.call {W wr u u' : World} {d : VsD} {p : VsD × RepD} {l f s : Sl} {hs : List SeH} {b8 b9 : Option Nat} {e : Ending} (h : RgT W wr u p none b8 b9) (hO : VzOwn wr W.heap.size l f s hs d) (hW : W.heap.size ≤ wr.heap.size) (hr : StRes l f s hs d p u e u') :
  ∃ l' f' s' : Sl, ∃ (hs' : List SeH) (r : Sl), e = .returned (.tuple #[.agg #[.int .i64 p.1.next, .slice l'.a l'.n l'.c, .slice f'.a f'.n f'.c, .slice s'.a s'.n s'.c], .agg #[.int .i64 p.2.code, .int .i64 p.2.time, .string p.2.val, .slice r.a r.n r.c]]) ∧ RgT W wr u' p (some (l', f', s', hs', r)) b8 b9 := by
 obtain ⟨l', f', s', hs', r, he, hv, heo, hb⟩ := hr
 have s := h.step hb
 refine ⟨l', f', s', hs', r, he, s.bel, fun l2 f2 s2 hs2 r2 e2 => ?_, s.e8, s.e9⟩
 injection e2 with e2
 injection e2 with e1 e2
 injection e2 with e3 e2
 injection e2 with e4 e2
 injection e2 with e5 e6
 subst e1 e3 e4 e5 e6
 refine ⟨?_, gd_base heo h.bel.size⟩
 rcases hv with ⟨rfl, rfl, rfl, rfl, hd⟩ | hv
 ·rw [hd]; exact hO.below s.bel
 ·exact hv.dn (Nat.le_trans hW h.bel.size)
def txC (acts : List TxD) : Int := if 4096 < acts.length then 2 else if 150 < acts.length then 6 else 0
def txV (acts : List TxD) : VsD := if 150 < acts.length then ⟨0, [], [], []⟩ else (runV acts).1
def txR (acts : List TxD) : List RepD := if 150 < acts.length then [] else (runV acts).2
def TxRes (acts : List TxD) (w : World) (e : Ending) (w' : World) : Prop := ∃ l f s hs, ∃ (q : Sl) (zs : List ZrH), e = .returned (.tuple #[.agg (vzC (txV acts).next l f s), .slice q.a q.n q.c, .int .i64 (txC acts)]) ∧ VzOwn w' w.heap.size l f s hs (txV acts) ∧ ZrOwn w' w.heap.size (.slice q.a q.n q.c) zs ∧ zs.map (·.X) = txR acts ∧ Below w.heap.size w w'
theorem vz_none (w : World) (B : Nat) : VzOwn w B ⟨none, 0, 0⟩ ⟨none, 0, 0⟩ ⟨none, 0, 0⟩ [] ⟨0, [], [], []⟩ := ⟨World.ownsRow_nil _ _ _ _, World.ownsRow_nil _ _ _ _, NOwn.flat (World.ownsRow_nil _ _ _ _) rfl (fun e he => by cases he) (fun e he => by cases he), rfl, fun i hi => by cases hi⟩
theorem zr_lit {w : World} {B : Nat} (hB : B ≤ w.heap.size) : ZrOwn (w.alloc (.cells #[] 40)) B (.slice (some ⟨w.heap.size, 0, none⟩) 0 0) [] := NOwn.flat (gd_base (nil_lit (w := w) 40 4) hB) rfl (fun e he => by cases he) (fun e he => by cases he)
set_option maxHeartbeats 8000000 in
theorem specTxRun_any (a : Option Addr) (N c : Nat) (acts : List TxD) (w : World) (hR : XRow w a N acts) (hn : N ≤ 1048576) :
  Calls Tryz.prog 8 #[.slice a N c] w fun e w' => TxRes acts w e w' := by
 have L := hide hR.1
 have b0 : Below w.heap.size w (w.alloc (.cells #[.int .i64 0, .slice none 0 0, .slice none 0 0, .slice none 0 0] 29)) := (Below.refl _ _).alloc (Nat.le_refl _) _
 have K0 := heap_alloc_new w (.cells #[.int .i64 0, .slice none 0 0, .slice none 0 0, .slice none 0 0] 29)
 have hz0 : w.heap.size < (w.alloc (.cells #[.int .i64 0, .slice none 0 0, .slice none 0 0, .slice none 0 0] 29)).heap.size := by simp
 have LONG := hide (show 150 < N → ∀ cc : Int, txC acts = cc → TxRes acts w (.returned (.tuple #[.agg #[.int .i64 0, .slice none 0 0, .slice none 0 0, .slice none 0 0], .slice (some ⟨w.heap.size + 1, 0, none⟩) 0 0, .int .i64 cc])) ((w.alloc (.cells #[.int .i64 0, .slice none 0 0, .slice none 0 0, .slice none 0 0] 29)).alloc (.cells #[] 40)) from fun h cc hc => by
  have hz : (w.alloc (.cells #[.int .i64 0, .slice none 0 0, .slice none 0 0, .slice none 0 0] 29)).heap.size = w.heap.size + 1 := by simp
  have h' : 150 < acts.length := by rw [unhide L]; exact h
  have hv : txV acts = ⟨0, [], [], []⟩ := by unfold txV; rw [if_pos h']
  have hr : txR acts = [] := by unfold txR; rw [if_pos h']
  refine ⟨⟨none, 0, 0⟩, ⟨none, 0, 0⟩, ⟨none, 0, 0⟩, [], ⟨some ⟨w.heap.size + 1, 0, none⟩, 0, 0⟩, [], by rw [hc, hv], by rw [hv]; exact vz_none _ _, ?_, by rw [hr]; rfl, b0.alloc b0.size _⟩
  rw [← hz]
  exact zr_lit b0.size)
 by_cases hl1 : 4096 < N
 ·have hC : txC acts = 2 := by unfold txC; rw [if_pos (by rw [unhide L]; exact hl1)]
  have RES := hide (unhide LONG (by omega) 2 hC)
  clear hC
  go_enter Tryz.func8, Tryz.ntmps8
  go_wp2_with fail
  refine bodyPost_ret (v := .tuple #[.agg #[.int .i64 0, .slice none 0 0, .slice none 0 0, .slice none 0 0], .slice (some ⟨w.heap.size + 1, 0, none⟩) 0 0, .int .i64 2]) (by simp [results, Tryz.results8, go_sem]) rfl ?_
  exact unhide RES
 by_cases hl2 : 150 < N
 ·have hC : txC acts = 6 := by unfold txC; rw [if_neg (by rw [unhide L]; exact hl1), if_pos (by rw [unhide L]; exact hl2)]
  have RES := hide (unhide LONG hl2 6 hC)
  clear hC
  go_enter Tryz.func8, Tryz.ntmps8
  go_wp2_with fail
  refine bodyPost_ret (v := .tuple #[.agg #[.int .i64 0, .slice none 0 0, .slice none 0 0, .slice none 0 0], .slice (some ⟨w.heap.size + 1, 0, none⟩) 0 0, .int .i64 6]) (by simp [results, Tryz.results8, go_sem]) rfl ?_
  exact unhide RES
 have RT := hide (show txC acts = 0 ∧ txV acts = (runV acts).1 ∧ txR acts = (runV acts).2 by
  have h1 : ¬ 4096 < acts.length := by rw [unhide L]; exact hl1
  have h2 : ¬ 150 < acts.length := by rw [unhide L]; exact hl2
  unfold txC txV txR
  rw [if_neg h1, if_neg h2, if_neg h2, if_neg h2]
  exact ⟨rfl, rfl, rfl⟩)
 have R := hide hR
 have HN := hide (l06New_any (w.alloc (.cells #[.int .i64 0, .slice none 0 0, .slice none 0 0, .slice none 0 0] 29)))
 clear hR LONG
 go_enter Tryz.func8, Tryz.ntmps8
 go_wp2_with fail
 generalize w.alloc (.cells #[.int .i64 0, .slice none 0 0, .slice none 0 0, .slice none 0 0] 29) = W at *
 refine (unhide HN).mono ?_
 rintro e w1 ⟨⟨la, ln, lc⟩, ⟨fa, fn, fc⟩, ⟨sa, sn, sc⟩, hs, rfl, hO, hb1⟩
 unfold vzC
 simp only
 have e1 : newV.next = 1 := rfl
 rw [e1]
 have bT := (Below.refl w1.heap.size w1).alloc (Nat.le_refl _) (.cells #[.int .i64 1, .slice la ln lc, .slice fa fn fc, .slice sa sn sc] 29)
 have kT := heap_alloc_new w1 (.cells #[.int .i64 1, .slice la ln lc, .slice fa fn fc, .slice sa sn sc] 29)
 have O1 := hO.below bT
 have B1 := hb1.trans (bT.mono hb1.size)
 have hz1 := hb1.size
 have BZ := hide b0
 have K0h := hide K0
 clear HN hO hb1 bT b0 K0 e1
 go_upto_region 6 with fail
 generalize w1.alloc (.cells #[.int .i64 1, .slice la ln lc, .slice fa fn fc, .slice sa sn sc] 29) = w2 at *
 generalize w1.heap.size = tb at *
 have bL := (Below.refl w2.heap.size w2).alloc (Nat.le_refl _) (.cells #[] 40)
 have S0 := hide (show TrSt W (w2.alloc (.cells #[] 40)) tb ⟨la, ln, lc⟩ ⟨fa, fn, fc⟩ ⟨sa, sn, sc⟩ hs (runV (acts.take 0)).1 (.slice (some ⟨w2.heap.size, 0, none⟩) 0 0) [] from ⟨B1.trans (bL.mono B1.size), O1.below bL, (bL.block tb (blk_lt kT)).trans kT, zr_lit B1.size, hz1⟩)
 clear bL O1 B1 kT
 go_wp2_with fail
 generalize w2.alloc (.cells #[] 40) = w3 at *
 generalize w2.heap.size = cb at *
 go_loopw [6, 7] (fun cv iv wr => ∃ (k : Nat) (l f s : Sl) (hs : List SeH) (q : Sl) (zs : List ZrH), k ≤ N ∧ cv = .slice q.a q.n q.c ∧ iv = .int .i64 k ∧ Hid (TrSt W wr tb l f s hs (runV (acts.take k)).1 (.slice q.a q.n q.c) zs) ∧ Hid (zs.map (·.X) = (runV (acts.take k)).2)) (fun _ iv _ => N - (intOf iv).toNat)
 case atStart => exact ⟨0, _, _, _, _, ⟨some ⟨cb, 0, none⟩, 0, 0⟩, [], Nat.zero_le _, rfl, rfl, S0, rfl⟩
 case round =>
  clear S0
  obtain ⟨k, ⟨la1, ln1, lc1⟩, ⟨fa1, fn1, fc1⟩, ⟨sa1, sn1, sc1⟩, hs1, ⟨qa, qn, qc⟩, zs, hk, rfl, rfl, hS, hX⟩ := hrel
  have hV := hide (runV_ok acts k (by rw [unhide L]; exact hk))
  have bR := (unhide BZ).trans ((unhide hS).bel.mono (unhide BZ).size)
  have kb := (unhide hS).box
  unfold vzC at kb
  simp only at kb
  have t0 := (heap_at kb 0).1
  have t1 := (heap_at kb 1).1
  have t2 := (heap_at kb 2).1
  have t3 := (heap_at kb 3).1
  by_cases hlt : k < N
  case neg =>
   obtain rfl : k = N := by omega
   have ht : acts.take k = acts := List.take_of_length_le (by rw [unhide L]; exact Nat.le_refl _)
   rw [ht] at hS hX hV t0
   have hsm := (unhide hV).small (by omega)
   have ow := (unhide hS).own
   have HON := hide (l06Own_any (runV acts).1 ⟨la1, ln1, lc1⟩ ⟨fa1, fn1, fc1⟩ ⟨sa1, sn1, sc1⟩ hs1 wr ow.reads (by have h1 : ln1 = (runV acts).1.list.length := owns_n ow.vo; have := hsm.list; show ln1 ≤ 1000000; omega) (by have h1 : fn1 = (runV acts).1.fen.length := owns_n ow.fo; have := hsm.fen; show fn1 ≤ 1000000; omega) (by have h1 := ow.reads.len; have := hsm.ses; show sn1 ≤ 1000; simp only at h1; omega) (fun h hh => by
    obtain ⟨j, hj, rfl⟩ := List.getElem_of_mem hh
    obtain ⟨hd, he⟩ := ow.reads.at hj
    have h1 := (SeIn.row ow.reads.sr hj).1
    have h2 := hsm.ws _ (List.getElem_mem hd)
    rw [← he] at h2
    omega))
   unfold vzC at HON
   simp only at HON
   have hwr := (unhide hS).bel.size
   clear ht kb ow hsm
   go_wp2_with fail
   refine (unhide HON).mono ?_
   rintro e w5 ⟨⟨la2, ln2, lc2⟩, ⟨fa2, fn2, fc2⟩, ⟨sa2, sn2, sc2⟩, hs7, rfl, O7, hb7⟩
   have K5 := (hb7.block w.heap.size (Nat.lt_of_lt_of_le hz0 hwr)).trans (((unhide hS).bel.block w.heap.size hz0).trans (unhide K0h))
   have f0 := (heap_at K5 0).1
   have f1 := (heap_at K5 1).1
   have f2 := (heap_at K5 2).1
   have f3 := (heap_at K5 3).1
   have ff0 := (heap_at K5 0).2
   have ff1 := (heap_at K5 1).2
   have ff2 := (heap_at K5 2).2
   have ff3 := (heap_at K5 3).2
   have hw5 : w.heap.size < wr.heap.size := Nat.lt_of_lt_of_le hz0 hwr
   have hw := sv4_wr w5 w.heap.size (.int .i64 (runV acts).1.next) (.slice la2 ln2 lc2) (.slice fa2 fn2 fc2) (.slice sa2 sn2 sc2)
   have OT := O7.wr hw (fun i e => by rw [e]; exact hw5)
   have N5 := (unhide hS).rep.below hb7
   have N1 := N5.keep hw (fun i hi e => by have := (N5.lt i hi).1; omega)
   have BB := bel_sv4 (bR.trans (hb7.mono bR.size)) (Nat.le_refl w.heap.size) (.int .i64 (runV acts).1.next) (.slice la2 ln2 lc2) (.slice fa2 fn2 fc2) (.slice sa2 sn2 sc2)
   have RES := hide (show TxRes acts w (.returned (.tuple #[.agg #[.int .i64 (runV acts).1.next, .slice la2 ln2 lc2, .slice fa2 fn2 fc2, .slice sa2 sn2 sc2], .slice qa qn qc, .int .i64 0])) ((((w5.setCell ⟨w.heap.size, 0, none⟩ (.int .i64 (runV acts).1.next)).setCell ⟨w.heap.size, 1, none⟩ (.slice la2 ln2 lc2)).setCell ⟨w.heap.size, 2, none⟩ (.slice fa2 fn2 fc2)).setCell ⟨w.heap.size, 3, none⟩ (.slice sa2 sn2 sc2)) from ⟨⟨la2, ln2, lc2⟩, ⟨fa2, fn2, fc2⟩, ⟨sa2, sn2, sc2⟩, hs7, ⟨qa, qn, qc⟩, zs, by rw [(unhide RT).1, (unhide RT).2.1], by rw [(unhide RT).2.1]; exact OT.dn (Nat.le_of_lt hw5), N1.down (Nat.le_of_lt hz0), by rw [(unhide RT).2.2]; exact unhide hX, BB⟩)
   clear hw OT N5 N1 BB O7 K5 hS hX hV
   unfold vzC
   simp only
   go_wp2_with fail
   refine bodyPost_ret (v := .tuple #[.agg #[.int .i64 (runV acts).1.next, .slice la2 ln2 lc2, .slice fa2 fn2 fc2, .slice sa2 sn2 sc2], .slice qa qn qc, .int .i64 0]) (by simp [results, Tryz.results8, go_sem, *]) rfl ?_
   exact unhide RES
  have hk2 : k < acts.length := by rw [unhide L]; exact hlt
  have hkn : (k : Int) < (N : Int) := by omega
  obtain ⟨b, off, rfl, d0, d1, d2, d3, d4⟩ := ((unhide R).below bR).2 k hk2
  have hbw : b < wr.heap.size := cell_lt d0
  have RK := hide (runV_take hk2)
  have hsm := (unhide hV).small (by omega)
  have CS := hide (fun (u : World) (hu : Below wr.heap.size wr u) => l06Step_any (runV (acts.take k)).1 acts[k] ⟨la1, ln1, lc1⟩ ⟨fa1, fn1, fc1⟩ ⟨sa1, sn1, sc1⟩ hs1 u ((unhide hS).own.reads.below hu) hsm)
  have HZL := hide (show zs.length ≤ 1000 by
   have e := congrArg List.length (unhide hX)
   rw [List.length_map, runV_len, List.length_take] at e
   omega)
  have XN := hide (show ∀ r : Sl, (zs ++ [(⟨(stepV (runV (acts.take k)).1 acts[k]).2, r⟩ : ZrH)]).map (·.X) = (runV (acts.take (k + 1))).2 from fun r => by rw [unhide RK, List.map_append, unhide hX]; rfl)
  have VN := hide (show (runV (acts.take (k + 1))).1 = (stepV (runV (acts.take k)).1 acts[k]).1 by rw [unhide RK])
  generalize hrn : runV (acts.take (k + 1)) = rn at *
  have HRN := hide hrn
  clear hrn
  generalize (runV (acts.take k)).1 = dk at *
  generalize acts[k] = ac at *
  obtain ⟨xk, xs, xa, xb, xc⟩ := ac
  unfold vzC xv at CS
  simp only at d0 d1 d2 d3 d4 CS
  generalize stepV dk ⟨xk, xs, xa, xb, xc⟩ = pp at *
  have hwrW := (unhide hS).bel.size
  have T00 := hide (show RgT W wr wr.drew pp none none none from ⟨(Below.refl _ _).drew, fun _ _ _ _ _ e => (by cases e), fun _ e => (by cases e), fun _ e => (by cases e)⟩)
  have SK := hide (show ∀ u, Below wr.heap.size wr u → ((fun u => u.cell? ⟨tb, 0, none⟩ = some (.int .i64 dk.next) ∧ u.cell? ⟨tb, 1, none⟩ = some (.slice la1 ln1 lc1) ∧ u.cell? ⟨tb, 2, none⟩ = some (.slice fa1 fn1 fc1) ∧ u.cell? ⟨tb, 3, none⟩ = some (.slice sa1 sn1 sc1) ∧ u.cell? ⟨b, off + k * 5, none⟩ = some (.int .i64 xk) ∧ u.cell? ⟨b, off + k * 5 + 1, none⟩ = some (.int .i64 xs) ∧ u.cell? ⟨b, off + k * 5 + 2, none⟩ = some (.string xa) ∧ u.cell? ⟨b, off + k * 5 + 3, none⟩ = some (.string xb) ∧ u.cell? ⟨b, off + k * 5 + 4, none⟩ = some (.string xc)) u) from fun u hu => ⟨(hu.cell (p := ⟨tb, 0, none⟩) (cell_lt t0)).trans t0, (hu.cell (p := ⟨tb, 1, none⟩) (cell_lt t1)).trans t1, (hu.cell (p := ⟨tb, 2, none⟩) (cell_lt t2)).trans t2, (hu.cell (p := ⟨tb, 3, none⟩) (cell_lt t3)).trans t3, (hu.cell (p := ⟨b, off + k * 5, none⟩) hbw).trans d0, (hu.cell (p := ⟨b, off + k * 5 + 1, none⟩) hbw).trans d1, (hu.cell (p := ⟨b, off + k * 5 + 2, none⟩) hbw).trans d2, (hu.cell (p := ⟨b, off + k * 5 + 3, none⟩) hbw).trans d3, (hu.cell (p := ⟨b, off + k * 5 + 4, none⟩) hbw).trans d4⟩)
  clear d0 d1 d2 d3 d4 t0 t1 t2 t3 kb bR hsm
  go_upto_region 10 with fail
  go_cut [8, 9] (fun v8 v9 wc => ∃ (b8 b9 : Nat) (l' f' s' : Sl) (hs' : List SeH) (r : Sl), v8 = .pointer (some ⟨b8, 0, none⟩) ∧ v9 = .pointer (some ⟨b9, 0, none⟩) ∧ Hid (wc.heap[b8]? = some (.cells #[.int .i64 pp.1.next, .slice l'.a l'.n l'.c, .slice f'.a f'.n f'.c, .slice s'.a s'.n s'.c] 29 (0, 0))) ∧ Hid (wc.heap[b9]? = some (.cells #[.int .i64 pp.2.code, .int .i64 pp.2.time, .string pp.2.val, .slice r.a r.n r.c] 40 (0, 0))) ∧ Hid (VzOwn wc W.heap.size l' f' s' hs' pp.1) ∧ Hid (EOwns wc wr.heap.size (.slice r.a r.n r.c) pp.2.list) ∧ Hid (Below wr.heap.size wr wc) ∧ wr.heap.size ≤ b9)
  case first =>
   refine wp_region_held_drew (S := (fun u => u.cell? ⟨tb, 0, none⟩ = some (.int .i64 dk.next) ∧ u.cell? ⟨tb, 1, none⟩ = some (.slice la1 ln1 lc1) ∧ u.cell? ⟨tb, 2, none⟩ = some (.slice fa1 fn1 fc1) ∧ u.cell? ⟨tb, 3, none⟩ = some (.slice sa1 sn1 sc1) ∧ u.cell? ⟨b, off + k * 5, none⟩ = some (.int .i64 xk) ∧ u.cell? ⟨b, off + k * 5 + 1, none⟩ = some (.int .i64 xs) ∧ u.cell? ⟨b, off + k * 5 + 2, none⟩ = some (.string xa) ∧ u.cell? ⟨b, off + k * 5 + 3, none⟩ = some (.string xb) ∧ u.cell? ⟨b, off + k * 5 + 4, none⟩ = some (.string xc))) (by kernel_rfl) (unhide SK _ (unhide T00).bel) (fun hHeld => ?_)
   have Ts := T00
   clear T00
   generalize wr.drew = us at *
   refine tk 0 29 rfl rfl hHeld ?_
   simp only [Act.put, lA, lB, lC]
   refine tk 1 30 rfl rfl hHeld ?_
   simp only [Act.put, lA, lB, lC]
   refine tk 2 31 rfl rfl hHeld ?_
   simp only [Act.put, lA, lB, lC]
   refine tk 3 32 rfl rfl hHeld ?_
   simp only [Act.put, lA, lB, lC]
   refine tk 4 33 rfl rfl hHeld ?_
   simp only [Act.put, lA, lB, lC]
   refine wpAnyH_ready (rs := [5, 9, 10]) (by kernel_rfl) (by simp) ?_
   refine AllReadyH.cons rfl (fun K hK => ?_) (AllReadyH.cons rfl (fun K hK => ?_) (AllReadyH.cons rfl (fun K hK => ?_) AllReadyH.nil))
   ·go_simp
    refine (unhide CS _ (unhide Ts).bel).mono ?_
    intro e u5 hst
    obtain ⟨l', f', s', hs', r, rfl, hq⟩ := (unhide Ts).call (unhide hS).own hwrW hst
    have T5 := hide hq
    clear hq hst
    refine hK.out _ _ (unhide SK _ (unhide T5).bel) (fun hHeld => ?_)
    clear hK K
    refine tk 6 28 rfl rfl hHeld ?_
    simp only [Act.put, lA, lB, lC]
    refine tk 7 35 rfl rfl hHeld ?_
    simp only [Act.put, lA, lB, lC]
    refine tk 8 36 rfl rfl hHeld ?_
    simp only [Act.put, lA, lB, lC]
    refine wpAnyH_ready (rs := [9, 10]) (by kernel_rfl) (by simp) ?_
    refine AllReadyH.cons rfl (fun K hK => ?_) (AllReadyH.cons rfl (fun K hK => ?_) AllReadyH.nil)
    ·have T5_9 := hide (unhide T5).lit8
     go_simp
     generalize u5.alloc (.cells #[.int .i64 0, .slice none 0 0, .slice none 0 0, .slice none 0 0] 29) = u5_9 at *
     generalize u5.heap.size = b8 at *
     refine hK.out _ _ (unhide SK _ (unhide T5_9).bel) (fun hHeld => ?_)
     clear hK K
     refine rd [10] (.cons rfl (fun K hK => ?_) .nil)
     have T5_9_10 := hide (unhide T5_9).lit9
     go_simp
     generalize u5_9.alloc (.cells #[.int .i64 0, .int .i64 0, .string ⟨#[]⟩, .slice none 0 0] 40) = u5_9_10 at *
     generalize u5_9.heap.size = b9 at *
     refine hK.out _ _ (unhide SK _ (unhide T5_9_10).bel) (fun hHeld => ?_)
     clear hK K
     refine rd [11] (.cons rfl (fun K hK => ?_) .nil)
     obtain ⟨hOw, hEo⟩ := (unhide T5_9_10).r l' f' s' hs' r rfl
     obtain ⟨h8, k8⟩ := (unhide T5_9_10).e8 b8 rfl
     obtain ⟨h9, k9⟩ := (unhide T5_9_10).e9 b9 rfl
     have c0 := (heap_at k8 0).1
     have c1 := (heap_at k8 1).1
     have c2 := (heap_at k8 2).1
     have c3 := (heap_at k8 3).1
     have cf0 := (heap_at k8 0).2
     have cf1 := (heap_at k8 1).2
     have cf2 := (heap_at k8 2).2
     have cf3 := (heap_at k8 3).2
     have h89 : b9 ≠ b8 := fun e => by rw [e, k8] at k9; injection k9 with k9; injection k9 with _ k9 _; exact absurd k9 (by decide)
     have hw : WrB (fun i => i = b8) u5_9_10 ((((u5_9_10.setCell ⟨b8, 0, none⟩ (.int .i64 pp.1.next)).setCell ⟨b8, 1, none⟩ (.slice l'.a l'.n l'.c)).setCell ⟨b8, 2, none⟩ (.slice f'.a f'.n f'.c)).setCell ⟨b8, 3, none⟩ (.slice s'.a s'.n s'.c)) := sv4_wr u5_9_10 b8 (.int .i64 pp.1.next) (.slice l'.a l'.n l'.c) (.slice f'.a f'.n f'.c) (.slice s'.a s'.n s'.c)
     have Q8 := hide (show ((((u5_9_10.setCell ⟨b8, 0, none⟩ (.int .i64 pp.1.next)).setCell ⟨b8, 1, none⟩ (.slice l'.a l'.n l'.c)).setCell ⟨b8, 2, none⟩ (.slice f'.a f'.n f'.c)).setCell ⟨b8, 3, none⟩ (.slice s'.a s'.n s'.c)).heap[b8]? = some (.cells #[.int .i64 pp.1.next, .slice l'.a l'.n l'.c, .slice f'.a f'.n f'.c, .slice s'.a s'.n s'.c] 29 (0, 0)) from sv4_heap k8 (.int .i64 pp.1.next) (.slice l'.a l'.n l'.c) (.slice f'.a f'.n f'.c) (.slice s'.a s'.n s'.c))
     have Q9 := hide (show ((((u5_9_10.setCell ⟨b8, 0, none⟩ (.int .i64 pp.1.next)).setCell ⟨b8, 1, none⟩ (.slice l'.a l'.n l'.c)).setCell ⟨b8, 2, none⟩ (.slice f'.a f'.n f'.c)).setCell ⟨b8, 3, none⟩ (.slice s'.a s'.n s'.c)).heap[b9]? = some (.cells #[.int .i64 0, .int .i64 0, .string ⟨#[]⟩, .slice none 0 0] 40 (0, 0)) from (hw.block b9 (blk_lt k9) h89).trans k9)
     have QO := hide (show VzOwn ((((u5_9_10.setCell ⟨b8, 0, none⟩ (.int .i64 pp.1.next)).setCell ⟨b8, 1, none⟩ (.slice l'.a l'.n l'.c)).setCell ⟨b8, 2, none⟩ (.slice f'.a f'.n f'.c)).setCell ⟨b8, 3, none⟩ (.slice s'.a s'.n s'.c)) W.heap.size l' f' s' hs' pp.1 from hOw.box k8 (by decide) (by decide) (by decide) hw)
     have QE := hide (show EOwns ((((u5_9_10.setCell ⟨b8, 0, none⟩ (.int .i64 pp.1.next)).setCell ⟨b8, 1, none⟩ (.slice l'.a l'.n l'.c)).setCell ⟨b8, 2, none⟩ (.slice f'.a f'.n f'.c)).setCell ⟨b8, 3, none⟩ (.slice s'.a s'.n s'.c)) wr.heap.size (.slice r.a r.n r.c) pp.2.list from own_keep hEo k8 (by decide) hw)
     have QB := hide (show Below wr.heap.size wr ((((u5_9_10.setCell ⟨b8, 0, none⟩ (.int .i64 pp.1.next)).setCell ⟨b8, 1, none⟩ (.slice l'.a l'.n l'.c)).setCell ⟨b8, 2, none⟩ (.slice f'.a f'.n f'.c)).setCell ⟨b8, 3, none⟩ (.slice s'.a s'.n s'.c)) from (unhide T5_9_10).bel.trans (WrB.below hw (fun i e => by rw [e]; exact h8) (unhide T5_9_10).bel.size))
     clear hw hOw hEo k8 k9
     go_simp
     refine hK.out _ _ (unhide SK _ (unhide QB)) (fun hHeld => ?_)
     clear hK K
     clear c0 cf0 c1 cf1 c2 cf2 c3 cf3
     generalize ((((u5_9_10.setCell ⟨b8, 0, none⟩ (.int .i64 pp.1.next)).setCell ⟨b8, 1, none⟩ (.slice l'.a l'.n l'.c)).setCell ⟨b8, 2, none⟩ (.slice f'.a f'.n f'.c)).setCell ⟨b8, 3, none⟩ (.slice s'.a s'.n s'.c)) = ux at *
     refine rd [12] (.cons rfl (fun K hK => ?_) .nil)
     have c0 := (heap_at (unhide Q9) 0).1
     have c1 := (heap_at (unhide Q9) 1).1
     have c2 := (heap_at (unhide Q9) 2).1
     have c3 := (heap_at (unhide Q9) 3).1
     have cf0 := (heap_at (unhide Q9) 0).2
     have cf1 := (heap_at (unhide Q9) 1).2
     have cf2 := (heap_at (unhide Q9) 2).2
     have cf3 := (heap_at (unhide Q9) 3).2
     have hw : WrB (fun i => i = b9) ux ((((ux.setCell ⟨b9, 0, none⟩ (.int .i64 pp.2.code)).setCell ⟨b9, 1, none⟩ (.int .i64 pp.2.time)).setCell ⟨b9, 2, none⟩ (.string pp.2.val)).setCell ⟨b9, 3, none⟩ (.slice r.a r.n r.c)) := sv4_wr ux b9 (.int .i64 pp.2.code) (.int .i64 pp.2.time) (.string pp.2.val) (.slice r.a r.n r.c)
     have P9 := hide (show ((((ux.setCell ⟨b9, 0, none⟩ (.int .i64 pp.2.code)).setCell ⟨b9, 1, none⟩ (.int .i64 pp.2.time)).setCell ⟨b9, 2, none⟩ (.string pp.2.val)).setCell ⟨b9, 3, none⟩ (.slice r.a r.n r.c)).heap[b9]? = some (.cells #[.int .i64 pp.2.code, .int .i64 pp.2.time, .string pp.2.val, .slice r.a r.n r.c] 40 (0, 0)) from sv4_heap (unhide Q9) (.int .i64 pp.2.code) (.int .i64 pp.2.time) (.string pp.2.val) (.slice r.a r.n r.c))
     have P8 := hide (show ((((ux.setCell ⟨b9, 0, none⟩ (.int .i64 pp.2.code)).setCell ⟨b9, 1, none⟩ (.int .i64 pp.2.time)).setCell ⟨b9, 2, none⟩ (.string pp.2.val)).setCell ⟨b9, 3, none⟩ (.slice r.a r.n r.c)).heap[b8]? = some (.cells #[.int .i64 pp.1.next, .slice l'.a l'.n l'.c, .slice f'.a f'.n f'.c, .slice s'.a s'.n s'.c] 29 (0, 0)) from (hw.block b8 (blk_lt (unhide Q8)) (fun e => h89 e.symm)).trans (unhide Q8))
     have PO := hide (show VzOwn ((((ux.setCell ⟨b9, 0, none⟩ (.int .i64 pp.2.code)).setCell ⟨b9, 1, none⟩ (.int .i64 pp.2.time)).setCell ⟨b9, 2, none⟩ (.string pp.2.val)).setCell ⟨b9, 3, none⟩ (.slice r.a r.n r.c)) W.heap.size l' f' s' hs' pp.1 from (unhide QO).box (unhide Q9) (by decide) (by decide) (by decide) hw)
     have PE := hide (show EOwns ((((ux.setCell ⟨b9, 0, none⟩ (.int .i64 pp.2.code)).setCell ⟨b9, 1, none⟩ (.int .i64 pp.2.time)).setCell ⟨b9, 2, none⟩ (.string pp.2.val)).setCell ⟨b9, 3, none⟩ (.slice r.a r.n r.c)) wr.heap.size (.slice r.a r.n r.c) pp.2.list from own_keep (unhide QE) (unhide Q9) (by decide) hw)
     have PB := hide (show Below wr.heap.size wr ((((ux.setCell ⟨b9, 0, none⟩ (.int .i64 pp.2.code)).setCell ⟨b9, 1, none⟩ (.int .i64 pp.2.time)).setCell ⟨b9, 2, none⟩ (.string pp.2.val)).setCell ⟨b9, 3, none⟩ (.slice r.a r.n r.c)) from (unhide QB).trans (WrB.below hw (fun i e => by rw [e]; exact h9) (unhide QB).size))
     clear hw
     go_simp
     refine hK.out _ _ (unhide SK _ (unhide PB)) (fun hHeld => ?_)
     clear hK K
     refine wpAnyH_done (by kernel_rfl) ?_ _
     clear hHeld SK
     go_wp2_with fail
     go_meet
     case rel => exact ⟨b8, b9, l', f', s', hs', r, rfl, rfl, P8, P9, PO, PE, PB, h9⟩
    ·have T5_10 := hide (unhide T5).lit9
     go_simp
     generalize u5.alloc (.cells #[.int .i64 0, .int .i64 0, .string ⟨#[]⟩, .slice none 0 0] 40) = u5_10 at *
     generalize u5.heap.size = b9 at *
     refine hK.out _ _ (unhide SK _ (unhide T5_10).bel) (fun hHeld => ?_)
     clear hK K
     refine rd [9] (.cons rfl (fun K hK => ?_) .nil)
     have T5_10_9 := hide (unhide T5_10).lit8
     go_simp
     generalize u5_10.alloc (.cells #[.int .i64 0, .slice none 0 0, .slice none 0 0, .slice none 0 0] 29) = u5_10_9 at *
     generalize u5_10.heap.size = b8 at *
     refine hK.out _ _ (unhide SK _ (unhide T5_10_9).bel) (fun hHeld => ?_)
     clear hK K
     refine rd [11] (.cons rfl (fun K hK => ?_) .nil)
     obtain ⟨hOw, hEo⟩ := (unhide T5_10_9).r l' f' s' hs' r rfl
     obtain ⟨h8, k8⟩ := (unhide T5_10_9).e8 b8 rfl
     obtain ⟨h9, k9⟩ := (unhide T5_10_9).e9 b9 rfl
     have c0 := (heap_at k8 0).1
     have c1 := (heap_at k8 1).1
     have c2 := (heap_at k8 2).1
     have c3 := (heap_at k8 3).1
     have cf0 := (heap_at k8 0).2
     have cf1 := (heap_at k8 1).2
     have cf2 := (heap_at k8 2).2
     have cf3 := (heap_at k8 3).2
     have h89 : b9 ≠ b8 := fun e => by rw [e, k8] at k9; injection k9 with k9; injection k9 with _ k9 _; exact absurd k9 (by decide)
     have hw : WrB (fun i => i = b8) u5_10_9 ((((u5_10_9.setCell ⟨b8, 0, none⟩ (.int .i64 pp.1.next)).setCell ⟨b8, 1, none⟩ (.slice l'.a l'.n l'.c)).setCell ⟨b8, 2, none⟩ (.slice f'.a f'.n f'.c)).setCell ⟨b8, 3, none⟩ (.slice s'.a s'.n s'.c)) := sv4_wr u5_10_9 b8 (.int .i64 pp.1.next) (.slice l'.a l'.n l'.c) (.slice f'.a f'.n f'.c) (.slice s'.a s'.n s'.c)
     have Q8 := hide (show ((((u5_10_9.setCell ⟨b8, 0, none⟩ (.int .i64 pp.1.next)).setCell ⟨b8, 1, none⟩ (.slice l'.a l'.n l'.c)).setCell ⟨b8, 2, none⟩ (.slice f'.a f'.n f'.c)).setCell ⟨b8, 3, none⟩ (.slice s'.a s'.n s'.c)).heap[b8]? = some (.cells #[.int .i64 pp.1.next, .slice l'.a l'.n l'.c, .slice f'.a f'.n f'.c, .slice s'.a s'.n s'.c] 29 (0, 0)) from sv4_heap k8 (.int .i64 pp.1.next) (.slice l'.a l'.n l'.c) (.slice f'.a f'.n f'.c) (.slice s'.a s'.n s'.c))
     have Q9 := hide (show ((((u5_10_9.setCell ⟨b8, 0, none⟩ (.int .i64 pp.1.next)).setCell ⟨b8, 1, none⟩ (.slice l'.a l'.n l'.c)).setCell ⟨b8, 2, none⟩ (.slice f'.a f'.n f'.c)).setCell ⟨b8, 3, none⟩ (.slice s'.a s'.n s'.c)).heap[b9]? = some (.cells #[.int .i64 0, .int .i64 0, .string ⟨#[]⟩, .slice none 0 0] 40 (0, 0)) from (hw.block b9 (blk_lt k9) h89).trans k9)
     have QO := hide (show VzOwn ((((u5_10_9.setCell ⟨b8, 0, none⟩ (.int .i64 pp.1.next)).setCell ⟨b8, 1, none⟩ (.slice l'.a l'.n l'.c)).setCell ⟨b8, 2, none⟩ (.slice f'.a f'.n f'.c)).setCell ⟨b8, 3, none⟩ (.slice s'.a s'.n s'.c)) W.heap.size l' f' s' hs' pp.1 from hOw.box k8 (by decide) (by decide) (by decide) hw)
     have QE := hide (show EOwns ((((u5_10_9.setCell ⟨b8, 0, none⟩ (.int .i64 pp.1.next)).setCell ⟨b8, 1, none⟩ (.slice l'.a l'.n l'.c)).setCell ⟨b8, 2, none⟩ (.slice f'.a f'.n f'.c)).setCell ⟨b8, 3, none⟩ (.slice s'.a s'.n s'.c)) wr.heap.size (.slice r.a r.n r.c) pp.2.list from own_keep hEo k8 (by decide) hw)
     have QB := hide (show Below wr.heap.size wr ((((u5_10_9.setCell ⟨b8, 0, none⟩ (.int .i64 pp.1.next)).setCell ⟨b8, 1, none⟩ (.slice l'.a l'.n l'.c)).setCell ⟨b8, 2, none⟩ (.slice f'.a f'.n f'.c)).setCell ⟨b8, 3, none⟩ (.slice s'.a s'.n s'.c)) from (unhide T5_10_9).bel.trans (WrB.below hw (fun i e => by rw [e]; exact h8) (unhide T5_10_9).bel.size))
     clear hw hOw hEo k8 k9
     go_simp
     refine hK.out _ _ (unhide SK _ (unhide QB)) (fun hHeld => ?_)
     clear hK K
     clear c0 cf0 c1 cf1 c2 cf2 c3 cf3
     generalize ((((u5_10_9.setCell ⟨b8, 0, none⟩ (.int .i64 pp.1.next)).setCell ⟨b8, 1, none⟩ (.slice l'.a l'.n l'.c)).setCell ⟨b8, 2, none⟩ (.slice f'.a f'.n f'.c)).setCell ⟨b8, 3, none⟩ (.slice s'.a s'.n s'.c)) = ux at *
     refine rd [12] (.cons rfl (fun K hK => ?_) .nil)
     have c0 := (heap_at (unhide Q9) 0).1
     have c1 := (heap_at (unhide Q9) 1).1
     have c2 := (heap_at (unhide Q9) 2).1
     have c3 := (heap_at (unhide Q9) 3).1
     have cf0 := (heap_at (unhide Q9) 0).2
     have cf1 := (heap_at (unhide Q9) 1).2
     have cf2 := (heap_at (unhide Q9) 2).2
     have cf3 := (heap_at (unhide Q9) 3).2
     have hw : WrB (fun i => i = b9) ux ((((ux.setCell ⟨b9, 0, none⟩ (.int .i64 pp.2.code)).setCell ⟨b9, 1, none⟩ (.int .i64 pp.2.time)).setCell ⟨b9, 2, none⟩ (.string pp.2.val)).setCell ⟨b9, 3, none⟩ (.slice r.a r.n r.c)) := sv4_wr ux b9 (.int .i64 pp.2.code) (.int .i64 pp.2.time) (.string pp.2.val) (.slice r.a r.n r.c)
     have P9 := hide (show ((((ux.setCell ⟨b9, 0, none⟩ (.int .i64 pp.2.code)).setCell ⟨b9, 1, none⟩ (.int .i64 pp.2.time)).setCell ⟨b9, 2, none⟩ (.string pp.2.val)).setCell ⟨b9, 3, none⟩ (.slice r.a r.n r.c)).heap[b9]? = some (.cells #[.int .i64 pp.2.code, .int .i64 pp.2.time, .string pp.2.val, .slice r.a r.n r.c] 40 (0, 0)) from sv4_heap (unhide Q9) (.int .i64 pp.2.code) (.int .i64 pp.2.time) (.string pp.2.val) (.slice r.a r.n r.c))
     have P8 := hide (show ((((ux.setCell ⟨b9, 0, none⟩ (.int .i64 pp.2.code)).setCell ⟨b9, 1, none⟩ (.int .i64 pp.2.time)).setCell ⟨b9, 2, none⟩ (.string pp.2.val)).setCell ⟨b9, 3, none⟩ (.slice r.a r.n r.c)).heap[b8]? = some (.cells #[.int .i64 pp.1.next, .slice l'.a l'.n l'.c, .slice f'.a f'.n f'.c, .slice s'.a s'.n s'.c] 29 (0, 0)) from (hw.block b8 (blk_lt (unhide Q8)) (fun e => h89 e.symm)).trans (unhide Q8))
     have PO := hide (show VzOwn ((((ux.setCell ⟨b9, 0, none⟩ (.int .i64 pp.2.code)).setCell ⟨b9, 1, none⟩ (.int .i64 pp.2.time)).setCell ⟨b9, 2, none⟩ (.string pp.2.val)).setCell ⟨b9, 3, none⟩ (.slice r.a r.n r.c)) W.heap.size l' f' s' hs' pp.1 from (unhide QO).box (unhide Q9) (by decide) (by decide) (by decide) hw)
     have PE := hide (show EOwns ((((ux.setCell ⟨b9, 0, none⟩ (.int .i64 pp.2.code)).setCell ⟨b9, 1, none⟩ (.int .i64 pp.2.time)).setCell ⟨b9, 2, none⟩ (.string pp.2.val)).setCell ⟨b9, 3, none⟩ (.slice r.a r.n r.c)) wr.heap.size (.slice r.a r.n r.c) pp.2.list from own_keep (unhide QE) (unhide Q9) (by decide) hw)
     have PB := hide (show Below wr.heap.size wr ((((ux.setCell ⟨b9, 0, none⟩ (.int .i64 pp.2.code)).setCell ⟨b9, 1, none⟩ (.int .i64 pp.2.time)).setCell ⟨b9, 2, none⟩ (.string pp.2.val)).setCell ⟨b9, 3, none⟩ (.slice r.a r.n r.c)) from (unhide QB).trans (WrB.below hw (fun i e => by rw [e]; exact h9) (unhide QB).size))
     clear hw
     go_simp
     refine hK.out _ _ (unhide SK _ (unhide PB)) (fun hHeld => ?_)
     clear hK K
     refine wpAnyH_done (by kernel_rfl) ?_ _
     clear hHeld SK
     go_wp2_with fail
     go_meet
     case rel => exact ⟨b8, b9, l', f', s', hs', r, rfl, rfl, P8, P9, PO, PE, PB, h9⟩
   ·have T9 := hide (unhide Ts).lit8
    go_simp
    generalize us.alloc (.cells #[.int .i64 0, .slice none 0 0, .slice none 0 0, .slice none 0 0] 29) = u9 at *
    generalize us.heap.size = b8 at *
    refine hK.out _ _ (unhide SK _ (unhide T9).bel) (fun hHeld => ?_)
    clear hK K
    refine wpAnyH_ready (rs := [5, 10]) (by kernel_rfl) (by simp) ?_
    refine AllReadyH.cons rfl (fun K hK => ?_) (AllReadyH.cons rfl (fun K hK => ?_) AllReadyH.nil)
    ·go_simp
     refine (unhide CS _ (unhide T9).bel).mono ?_
     intro e u9_5 hst
     obtain ⟨l', f', s', hs', r, rfl, hq⟩ := (unhide T9).call (unhide hS).own hwrW hst
     have T9_5 := hide hq
     clear hq hst
     refine hK.out _ _ (unhide SK _ (unhide T9_5).bel) (fun hHeld => ?_)
     clear hK K
     refine tk 6 28 rfl rfl hHeld ?_
     simp only [Act.put, lA, lB, lC]
     refine tk 7 35 rfl rfl hHeld ?_
     simp only [Act.put, lA, lB, lC]
     refine tk 8 36 rfl rfl hHeld ?_
     simp only [Act.put, lA, lB, lC]
     refine rd [10] (.cons rfl (fun K hK => ?_) .nil)
     have T9_5_10 := hide (unhide T9_5).lit9
     go_simp
     generalize u9_5.alloc (.cells #[.int .i64 0, .int .i64 0, .string ⟨#[]⟩, .slice none 0 0] 40) = u9_5_10 at *
     generalize u9_5.heap.size = b9 at *
     refine hK.out _ _ (unhide SK _ (unhide T9_5_10).bel) (fun hHeld => ?_)
     clear hK K
     refine rd [11] (.cons rfl (fun K hK => ?_) .nil)
     obtain ⟨hOw, hEo⟩ := (unhide T9_5_10).r l' f' s' hs' r rfl
     obtain ⟨h8, k8⟩ := (unhide T9_5_10).e8 b8 rfl
     obtain ⟨h9, k9⟩ := (unhide T9_5_10).e9 b9 rfl
     have c0 := (heap_at k8 0).1
     have c1 := (heap_at k8 1).1
     have c2 := (heap_at k8 2).1
     have c3 := (heap_at k8 3).1
     have cf0 := (heap_at k8 0).2
     have cf1 := (heap_at k8 1).2
     have cf2 := (heap_at k8 2).2
     have cf3 := (heap_at k8 3).2
     have h89 : b9 ≠ b8 := fun e => by rw [e, k8] at k9; injection k9 with k9; injection k9 with _ k9 _; exact absurd k9 (by decide)
     have hw : WrB (fun i => i = b8) u9_5_10 ((((u9_5_10.setCell ⟨b8, 0, none⟩ (.int .i64 pp.1.next)).setCell ⟨b8, 1, none⟩ (.slice l'.a l'.n l'.c)).setCell ⟨b8, 2, none⟩ (.slice f'.a f'.n f'.c)).setCell ⟨b8, 3, none⟩ (.slice s'.a s'.n s'.c)) := sv4_wr u9_5_10 b8 (.int .i64 pp.1.next) (.slice l'.a l'.n l'.c) (.slice f'.a f'.n f'.c) (.slice s'.a s'.n s'.c)
     have Q8 := hide (show ((((u9_5_10.setCell ⟨b8, 0, none⟩ (.int .i64 pp.1.next)).setCell ⟨b8, 1, none⟩ (.slice l'.a l'.n l'.c)).setCell ⟨b8, 2, none⟩ (.slice f'.a f'.n f'.c)).setCell ⟨b8, 3, none⟩ (.slice s'.a s'.n s'.c)).heap[b8]? = some (.cells #[.int .i64 pp.1.next, .slice l'.a l'.n l'.c, .slice f'.a f'.n f'.c, .slice s'.a s'.n s'.c] 29 (0, 0)) from sv4_heap k8 (.int .i64 pp.1.next) (.slice l'.a l'.n l'.c) (.slice f'.a f'.n f'.c) (.slice s'.a s'.n s'.c))
     have Q9 := hide (show ((((u9_5_10.setCell ⟨b8, 0, none⟩ (.int .i64 pp.1.next)).setCell ⟨b8, 1, none⟩ (.slice l'.a l'.n l'.c)).setCell ⟨b8, 2, none⟩ (.slice f'.a f'.n f'.c)).setCell ⟨b8, 3, none⟩ (.slice s'.a s'.n s'.c)).heap[b9]? = some (.cells #[.int .i64 0, .int .i64 0, .string ⟨#[]⟩, .slice none 0 0] 40 (0, 0)) from (hw.block b9 (blk_lt k9) h89).trans k9)
     have QO := hide (show VzOwn ((((u9_5_10.setCell ⟨b8, 0, none⟩ (.int .i64 pp.1.next)).setCell ⟨b8, 1, none⟩ (.slice l'.a l'.n l'.c)).setCell ⟨b8, 2, none⟩ (.slice f'.a f'.n f'.c)).setCell ⟨b8, 3, none⟩ (.slice s'.a s'.n s'.c)) W.heap.size l' f' s' hs' pp.1 from hOw.box k8 (by decide) (by decide) (by decide) hw)
     have QE := hide (show EOwns ((((u9_5_10.setCell ⟨b8, 0, none⟩ (.int .i64 pp.1.next)).setCell ⟨b8, 1, none⟩ (.slice l'.a l'.n l'.c)).setCell ⟨b8, 2, none⟩ (.slice f'.a f'.n f'.c)).setCell ⟨b8, 3, none⟩ (.slice s'.a s'.n s'.c)) wr.heap.size (.slice r.a r.n r.c) pp.2.list from own_keep hEo k8 (by decide) hw)
     have QB := hide (show Below wr.heap.size wr ((((u9_5_10.setCell ⟨b8, 0, none⟩ (.int .i64 pp.1.next)).setCell ⟨b8, 1, none⟩ (.slice l'.a l'.n l'.c)).setCell ⟨b8, 2, none⟩ (.slice f'.a f'.n f'.c)).setCell ⟨b8, 3, none⟩ (.slice s'.a s'.n s'.c)) from (unhide T9_5_10).bel.trans (WrB.below hw (fun i e => by rw [e]; exact h8) (unhide T9_5_10).bel.size))
     clear hw hOw hEo k8 k9
     go_simp
     refine hK.out _ _ (unhide SK _ (unhide QB)) (fun hHeld => ?_)
     clear hK K
     clear c0 cf0 c1 cf1 c2 cf2 c3 cf3
     generalize ((((u9_5_10.setCell ⟨b8, 0, none⟩ (.int .i64 pp.1.next)).setCell ⟨b8, 1, none⟩ (.slice l'.a l'.n l'.c)).setCell ⟨b8, 2, none⟩ (.slice f'.a f'.n f'.c)).setCell ⟨b8, 3, none⟩ (.slice s'.a s'.n s'.c)) = ux at *
     refine rd [12] (.cons rfl (fun K hK => ?_) .nil)
     have c0 := (heap_at (unhide Q9) 0).1
     have c1 := (heap_at (unhide Q9) 1).1
     have c2 := (heap_at (unhide Q9) 2).1
     have c3 := (heap_at (unhide Q9) 3).1
     have cf0 := (heap_at (unhide Q9) 0).2
     have cf1 := (heap_at (unhide Q9) 1).2
     have cf2 := (heap_at (unhide Q9) 2).2
     have cf3 := (heap_at (unhide Q9) 3).2
     have hw : WrB (fun i => i = b9) ux ((((ux.setCell ⟨b9, 0, none⟩ (.int .i64 pp.2.code)).setCell ⟨b9, 1, none⟩ (.int .i64 pp.2.time)).setCell ⟨b9, 2, none⟩ (.string pp.2.val)).setCell ⟨b9, 3, none⟩ (.slice r.a r.n r.c)) := sv4_wr ux b9 (.int .i64 pp.2.code) (.int .i64 pp.2.time) (.string pp.2.val) (.slice r.a r.n r.c)
     have P9 := hide (show ((((ux.setCell ⟨b9, 0, none⟩ (.int .i64 pp.2.code)).setCell ⟨b9, 1, none⟩ (.int .i64 pp.2.time)).setCell ⟨b9, 2, none⟩ (.string pp.2.val)).setCell ⟨b9, 3, none⟩ (.slice r.a r.n r.c)).heap[b9]? = some (.cells #[.int .i64 pp.2.code, .int .i64 pp.2.time, .string pp.2.val, .slice r.a r.n r.c] 40 (0, 0)) from sv4_heap (unhide Q9) (.int .i64 pp.2.code) (.int .i64 pp.2.time) (.string pp.2.val) (.slice r.a r.n r.c))
     have P8 := hide (show ((((ux.setCell ⟨b9, 0, none⟩ (.int .i64 pp.2.code)).setCell ⟨b9, 1, none⟩ (.int .i64 pp.2.time)).setCell ⟨b9, 2, none⟩ (.string pp.2.val)).setCell ⟨b9, 3, none⟩ (.slice r.a r.n r.c)).heap[b8]? = some (.cells #[.int .i64 pp.1.next, .slice l'.a l'.n l'.c, .slice f'.a f'.n f'.c, .slice s'.a s'.n s'.c] 29 (0, 0)) from (hw.block b8 (blk_lt (unhide Q8)) (fun e => h89 e.symm)).trans (unhide Q8))
     have PO := hide (show VzOwn ((((ux.setCell ⟨b9, 0, none⟩ (.int .i64 pp.2.code)).setCell ⟨b9, 1, none⟩ (.int .i64 pp.2.time)).setCell ⟨b9, 2, none⟩ (.string pp.2.val)).setCell ⟨b9, 3, none⟩ (.slice r.a r.n r.c)) W.heap.size l' f' s' hs' pp.1 from (unhide QO).box (unhide Q9) (by decide) (by decide) (by decide) hw)
     have PE := hide (show EOwns ((((ux.setCell ⟨b9, 0, none⟩ (.int .i64 pp.2.code)).setCell ⟨b9, 1, none⟩ (.int .i64 pp.2.time)).setCell ⟨b9, 2, none⟩ (.string pp.2.val)).setCell ⟨b9, 3, none⟩ (.slice r.a r.n r.c)) wr.heap.size (.slice r.a r.n r.c) pp.2.list from own_keep (unhide QE) (unhide Q9) (by decide) hw)
     have PB := hide (show Below wr.heap.size wr ((((ux.setCell ⟨b9, 0, none⟩ (.int .i64 pp.2.code)).setCell ⟨b9, 1, none⟩ (.int .i64 pp.2.time)).setCell ⟨b9, 2, none⟩ (.string pp.2.val)).setCell ⟨b9, 3, none⟩ (.slice r.a r.n r.c)) from (unhide QB).trans (WrB.below hw (fun i e => by rw [e]; exact h9) (unhide QB).size))
     clear hw
     go_simp
     refine hK.out _ _ (unhide SK _ (unhide PB)) (fun hHeld => ?_)
     clear hK K
     refine wpAnyH_done (by kernel_rfl) ?_ _
     clear hHeld SK
     go_wp2_with fail
     go_meet
     case rel => exact ⟨b8, b9, l', f', s', hs', r, rfl, rfl, P8, P9, PO, PE, PB, h9⟩
    ·have T9_10 := hide (unhide T9).lit9
     go_simp
     generalize u9.alloc (.cells #[.int .i64 0, .int .i64 0, .string ⟨#[]⟩, .slice none 0 0] 40) = u9_10 at *
     generalize u9.heap.size = b9 at *
     refine hK.out _ _ (unhide SK _ (unhide T9_10).bel) (fun hHeld => ?_)
     clear hK K
     refine rd [5] (.cons rfl (fun K hK => ?_) .nil)
     go_simp
     refine (unhide CS _ (unhide T9_10).bel).mono ?_
     intro e u9_10_5 hst
     obtain ⟨l', f', s', hs', r, rfl, hq⟩ := (unhide T9_10).call (unhide hS).own hwrW hst
     have T9_10_5 := hide hq
     clear hq hst
     refine hK.out _ _ (unhide SK _ (unhide T9_10_5).bel) (fun hHeld => ?_)
     clear hK K
     refine tk 6 28 rfl rfl hHeld ?_
     simp only [Act.put, lA, lB, lC]
     refine tk 7 35 rfl rfl hHeld ?_
     simp only [Act.put, lA, lB, lC]
     refine tk 8 36 rfl rfl hHeld ?_
     simp only [Act.put, lA, lB, lC]
     refine rd [11] (.cons rfl (fun K hK => ?_) .nil)
     obtain ⟨hOw, hEo⟩ := (unhide T9_10_5).r l' f' s' hs' r rfl
     obtain ⟨h8, k8⟩ := (unhide T9_10_5).e8 b8 rfl
     obtain ⟨h9, k9⟩ := (unhide T9_10_5).e9 b9 rfl
     have c0 := (heap_at k8 0).1
     have c1 := (heap_at k8 1).1
     have c2 := (heap_at k8 2).1
     have c3 := (heap_at k8 3).1
     have cf0 := (heap_at k8 0).2
     have cf1 := (heap_at k8 1).2
     have cf2 := (heap_at k8 2).2
     have cf3 := (heap_at k8 3).2
     have h89 : b9 ≠ b8 := fun e => by rw [e, k8] at k9; injection k9 with k9; injection k9 with _ k9 _; exact absurd k9 (by decide)
     have hw : WrB (fun i => i = b8) u9_10_5 ((((u9_10_5.setCell ⟨b8, 0, none⟩ (.int .i64 pp.1.next)).setCell ⟨b8, 1, none⟩ (.slice l'.a l'.n l'.c)).setCell ⟨b8, 2, none⟩ (.slice f'.a f'.n f'.c)).setCell ⟨b8, 3, none⟩ (.slice s'.a s'.n s'.c)) := sv4_wr u9_10_5 b8 (.int .i64 pp.1.next) (.slice l'.a l'.n l'.c) (.slice f'.a f'.n f'.c) (.slice s'.a s'.n s'.c)
     have Q8 := hide (show ((((u9_10_5.setCell ⟨b8, 0, none⟩ (.int .i64 pp.1.next)).setCell ⟨b8, 1, none⟩ (.slice l'.a l'.n l'.c)).setCell ⟨b8, 2, none⟩ (.slice f'.a f'.n f'.c)).setCell ⟨b8, 3, none⟩ (.slice s'.a s'.n s'.c)).heap[b8]? = some (.cells #[.int .i64 pp.1.next, .slice l'.a l'.n l'.c, .slice f'.a f'.n f'.c, .slice s'.a s'.n s'.c] 29 (0, 0)) from sv4_heap k8 (.int .i64 pp.1.next) (.slice l'.a l'.n l'.c) (.slice f'.a f'.n f'.c) (.slice s'.a s'.n s'.c))
     have Q9 := hide (show ((((u9_10_5.setCell ⟨b8, 0, none⟩ (.int .i64 pp.1.next)).setCell ⟨b8, 1, none⟩ (.slice l'.a l'.n l'.c)).setCell ⟨b8, 2, none⟩ (.slice f'.a f'.n f'.c)).setCell ⟨b8, 3, none⟩ (.slice s'.a s'.n s'.c)).heap[b9]? = some (.cells #[.int .i64 0, .int .i64 0, .string ⟨#[]⟩, .slice none 0 0] 40 (0, 0)) from (hw.block b9 (blk_lt k9) h89).trans k9)
     have QO := hide (show VzOwn ((((u9_10_5.setCell ⟨b8, 0, none⟩ (.int .i64 pp.1.next)).setCell ⟨b8, 1, none⟩ (.slice l'.a l'.n l'.c)).setCell ⟨b8, 2, none⟩ (.slice f'.a f'.n f'.c)).setCell ⟨b8, 3, none⟩ (.slice s'.a s'.n s'.c)) W.heap.size l' f' s' hs' pp.1 from hOw.box k8 (by decide) (by decide) (by decide) hw)
     have QE := hide (show EOwns ((((u9_10_5.setCell ⟨b8, 0, none⟩ (.int .i64 pp.1.next)).setCell ⟨b8, 1, none⟩ (.slice l'.a l'.n l'.c)).setCell ⟨b8, 2, none⟩ (.slice f'.a f'.n f'.c)).setCell ⟨b8, 3, none⟩ (.slice s'.a s'.n s'.c)) wr.heap.size (.slice r.a r.n r.c) pp.2.list from own_keep hEo k8 (by decide) hw)
     have QB := hide (show Below wr.heap.size wr ((((u9_10_5.setCell ⟨b8, 0, none⟩ (.int .i64 pp.1.next)).setCell ⟨b8, 1, none⟩ (.slice l'.a l'.n l'.c)).setCell ⟨b8, 2, none⟩ (.slice f'.a f'.n f'.c)).setCell ⟨b8, 3, none⟩ (.slice s'.a s'.n s'.c)) from (unhide T9_10_5).bel.trans (WrB.below hw (fun i e => by rw [e]; exact h8) (unhide T9_10_5).bel.size))
     clear hw hOw hEo k8 k9
     go_simp
     refine hK.out _ _ (unhide SK _ (unhide QB)) (fun hHeld => ?_)
     clear hK K
     clear c0 cf0 c1 cf1 c2 cf2 c3 cf3
     generalize ((((u9_10_5.setCell ⟨b8, 0, none⟩ (.int .i64 pp.1.next)).setCell ⟨b8, 1, none⟩ (.slice l'.a l'.n l'.c)).setCell ⟨b8, 2, none⟩ (.slice f'.a f'.n f'.c)).setCell ⟨b8, 3, none⟩ (.slice s'.a s'.n s'.c)) = ux at *
     refine rd [12] (.cons rfl (fun K hK => ?_) .nil)
     have c0 := (heap_at (unhide Q9) 0).1
     have c1 := (heap_at (unhide Q9) 1).1
     have c2 := (heap_at (unhide Q9) 2).1
     have c3 := (heap_at (unhide Q9) 3).1
     have cf0 := (heap_at (unhide Q9) 0).2
     have cf1 := (heap_at (unhide Q9) 1).2
     have cf2 := (heap_at (unhide Q9) 2).2
     have cf3 := (heap_at (unhide Q9) 3).2
     have hw : WrB (fun i => i = b9) ux ((((ux.setCell ⟨b9, 0, none⟩ (.int .i64 pp.2.code)).setCell ⟨b9, 1, none⟩ (.int .i64 pp.2.time)).setCell ⟨b9, 2, none⟩ (.string pp.2.val)).setCell ⟨b9, 3, none⟩ (.slice r.a r.n r.c)) := sv4_wr ux b9 (.int .i64 pp.2.code) (.int .i64 pp.2.time) (.string pp.2.val) (.slice r.a r.n r.c)
     have P9 := hide (show ((((ux.setCell ⟨b9, 0, none⟩ (.int .i64 pp.2.code)).setCell ⟨b9, 1, none⟩ (.int .i64 pp.2.time)).setCell ⟨b9, 2, none⟩ (.string pp.2.val)).setCell ⟨b9, 3, none⟩ (.slice r.a r.n r.c)).heap[b9]? = some (.cells #[.int .i64 pp.2.code, .int .i64 pp.2.time, .string pp.2.val, .slice r.a r.n r.c] 40 (0, 0)) from sv4_heap (unhide Q9) (.int .i64 pp.2.code) (.int .i64 pp.2.time) (.string pp.2.val) (.slice r.a r.n r.c))
     have P8 := hide (show ((((ux.setCell ⟨b9, 0, none⟩ (.int .i64 pp.2.code)).setCell ⟨b9, 1, none⟩ (.int .i64 pp.2.time)).setCell ⟨b9, 2, none⟩ (.string pp.2.val)).setCell ⟨b9, 3, none⟩ (.slice r.a r.n r.c)).heap[b8]? = some (.cells #[.int .i64 pp.1.next, .slice l'.a l'.n l'.c, .slice f'.a f'.n f'.c, .slice s'.a s'.n s'.c] 29 (0, 0)) from (hw.block b8 (blk_lt (unhide Q8)) (fun e => h89 e.symm)).trans (unhide Q8))
     have PO := hide (show VzOwn ((((ux.setCell ⟨b9, 0, none⟩ (.int .i64 pp.2.code)).setCell ⟨b9, 1, none⟩ (.int .i64 pp.2.time)).setCell ⟨b9, 2, none⟩ (.string pp.2.val)).setCell ⟨b9, 3, none⟩ (.slice r.a r.n r.c)) W.heap.size l' f' s' hs' pp.1 from (unhide QO).box (unhide Q9) (by decide) (by decide) (by decide) hw)
     have PE := hide (show EOwns ((((ux.setCell ⟨b9, 0, none⟩ (.int .i64 pp.2.code)).setCell ⟨b9, 1, none⟩ (.int .i64 pp.2.time)).setCell ⟨b9, 2, none⟩ (.string pp.2.val)).setCell ⟨b9, 3, none⟩ (.slice r.a r.n r.c)) wr.heap.size (.slice r.a r.n r.c) pp.2.list from own_keep (unhide QE) (unhide Q9) (by decide) hw)
     have PB := hide (show Below wr.heap.size wr ((((ux.setCell ⟨b9, 0, none⟩ (.int .i64 pp.2.code)).setCell ⟨b9, 1, none⟩ (.int .i64 pp.2.time)).setCell ⟨b9, 2, none⟩ (.string pp.2.val)).setCell ⟨b9, 3, none⟩ (.slice r.a r.n r.c)) from (unhide QB).trans (WrB.below hw (fun i e => by rw [e]; exact h9) (unhide QB).size))
     clear hw
     go_simp
     refine hK.out _ _ (unhide SK _ (unhide PB)) (fun hHeld => ?_)
     clear hK K
     refine wpAnyH_done (by kernel_rfl) ?_ _
     clear hHeld SK
     go_wp2_with fail
     go_meet
     case rel => exact ⟨b8, b9, l', f', s', hs', r, rfl, rfl, P8, P9, PO, PE, PB, h9⟩
   ·have T10 := hide (unhide Ts).lit9
    go_simp
    generalize us.alloc (.cells #[.int .i64 0, .int .i64 0, .string ⟨#[]⟩, .slice none 0 0] 40) = u10 at *
    generalize us.heap.size = b9 at *
    refine hK.out _ _ (unhide SK _ (unhide T10).bel) (fun hHeld => ?_)
    clear hK K
    refine wpAnyH_ready (rs := [5, 9]) (by kernel_rfl) (by simp) ?_
    refine AllReadyH.cons rfl (fun K hK => ?_) (AllReadyH.cons rfl (fun K hK => ?_) AllReadyH.nil)
    ·go_simp
     refine (unhide CS _ (unhide T10).bel).mono ?_
     intro e u10_5 hst
     obtain ⟨l', f', s', hs', r, rfl, hq⟩ := (unhide T10).call (unhide hS).own hwrW hst
     have T10_5 := hide hq
     clear hq hst
     refine hK.out _ _ (unhide SK _ (unhide T10_5).bel) (fun hHeld => ?_)
     clear hK K
     refine tk 6 28 rfl rfl hHeld ?_
     simp only [Act.put, lA, lB, lC]
     refine tk 7 35 rfl rfl hHeld ?_
     simp only [Act.put, lA, lB, lC]
     refine tk 8 36 rfl rfl hHeld ?_
     simp only [Act.put, lA, lB, lC]
     refine rd [9] (.cons rfl (fun K hK => ?_) .nil)
     have T10_5_9 := hide (unhide T10_5).lit8
     go_simp
     generalize u10_5.alloc (.cells #[.int .i64 0, .slice none 0 0, .slice none 0 0, .slice none 0 0] 29) = u10_5_9 at *
     generalize u10_5.heap.size = b8 at *
     refine hK.out _ _ (unhide SK _ (unhide T10_5_9).bel) (fun hHeld => ?_)
     clear hK K
     refine rd [11] (.cons rfl (fun K hK => ?_) .nil)
     obtain ⟨hOw, hEo⟩ := (unhide T10_5_9).r l' f' s' hs' r rfl
     obtain ⟨h8, k8⟩ := (unhide T10_5_9).e8 b8 rfl
     obtain ⟨h9, k9⟩ := (unhide T10_5_9).e9 b9 rfl
     have c0 := (heap_at k8 0).1
     have c1 := (heap_at k8 1).1
     have c2 := (heap_at k8 2).1
     have c3 := (heap_at k8 3).1
     have cf0 := (heap_at k8 0).2
     have cf1 := (heap_at k8 1).2
     have cf2 := (heap_at k8 2).2
     have cf3 := (heap_at k8 3).2
     have h89 : b9 ≠ b8 := fun e => by rw [e, k8] at k9; injection k9 with k9; injection k9 with _ k9 _; exact absurd k9 (by decide)
     have hw : WrB (fun i => i = b8) u10_5_9 ((((u10_5_9.setCell ⟨b8, 0, none⟩ (.int .i64 pp.1.next)).setCell ⟨b8, 1, none⟩ (.slice l'.a l'.n l'.c)).setCell ⟨b8, 2, none⟩ (.slice f'.a f'.n f'.c)).setCell ⟨b8, 3, none⟩ (.slice s'.a s'.n s'.c)) := sv4_wr u10_5_9 b8 (.int .i64 pp.1.next) (.slice l'.a l'.n l'.c) (.slice f'.a f'.n f'.c) (.slice s'.a s'.n s'.c)
     have Q8 := hide (show ((((u10_5_9.setCell ⟨b8, 0, none⟩ (.int .i64 pp.1.next)).setCell ⟨b8, 1, none⟩ (.slice l'.a l'.n l'.c)).setCell ⟨b8, 2, none⟩ (.slice f'.a f'.n f'.c)).setCell ⟨b8, 3, none⟩ (.slice s'.a s'.n s'.c)).heap[b8]? = some (.cells #[.int .i64 pp.1.next, .slice l'.a l'.n l'.c, .slice f'.a f'.n f'.c, .slice s'.a s'.n s'.c] 29 (0, 0)) from sv4_heap k8 (.int .i64 pp.1.next) (.slice l'.a l'.n l'.c) (.slice f'.a f'.n f'.c) (.slice s'.a s'.n s'.c))
     have Q9 := hide (show ((((u10_5_9.setCell ⟨b8, 0, none⟩ (.int .i64 pp.1.next)).setCell ⟨b8, 1, none⟩ (.slice l'.a l'.n l'.c)).setCell ⟨b8, 2, none⟩ (.slice f'.a f'.n f'.c)).setCell ⟨b8, 3, none⟩ (.slice s'.a s'.n s'.c)).heap[b9]? = some (.cells #[.int .i64 0, .int .i64 0, .string ⟨#[]⟩, .slice none 0 0] 40 (0, 0)) from (hw.block b9 (blk_lt k9) h89).trans k9)
     have QO := hide (show VzOwn ((((u10_5_9.setCell ⟨b8, 0, none⟩ (.int .i64 pp.1.next)).setCell ⟨b8, 1, none⟩ (.slice l'.a l'.n l'.c)).setCell ⟨b8, 2, none⟩ (.slice f'.a f'.n f'.c)).setCell ⟨b8, 3, none⟩ (.slice s'.a s'.n s'.c)) W.heap.size l' f' s' hs' pp.1 from hOw.box k8 (by decide) (by decide) (by decide) hw)
     have QE := hide (show EOwns ((((u10_5_9.setCell ⟨b8, 0, none⟩ (.int .i64 pp.1.next)).setCell ⟨b8, 1, none⟩ (.slice l'.a l'.n l'.c)).setCell ⟨b8, 2, none⟩ (.slice f'.a f'.n f'.c)).setCell ⟨b8, 3, none⟩ (.slice s'.a s'.n s'.c)) wr.heap.size (.slice r.a r.n r.c) pp.2.list from own_keep hEo k8 (by decide) hw)
     have QB := hide (show Below wr.heap.size wr ((((u10_5_9.setCell ⟨b8, 0, none⟩ (.int .i64 pp.1.next)).setCell ⟨b8, 1, none⟩ (.slice l'.a l'.n l'.c)).setCell ⟨b8, 2, none⟩ (.slice f'.a f'.n f'.c)).setCell ⟨b8, 3, none⟩ (.slice s'.a s'.n s'.c)) from (unhide T10_5_9).bel.trans (WrB.below hw (fun i e => by rw [e]; exact h8) (unhide T10_5_9).bel.size))
     clear hw hOw hEo k8 k9
     go_simp
     refine hK.out _ _ (unhide SK _ (unhide QB)) (fun hHeld => ?_)
     clear hK K
     clear c0 cf0 c1 cf1 c2 cf2 c3 cf3
     generalize ((((u10_5_9.setCell ⟨b8, 0, none⟩ (.int .i64 pp.1.next)).setCell ⟨b8, 1, none⟩ (.slice l'.a l'.n l'.c)).setCell ⟨b8, 2, none⟩ (.slice f'.a f'.n f'.c)).setCell ⟨b8, 3, none⟩ (.slice s'.a s'.n s'.c)) = ux at *
     refine rd [12] (.cons rfl (fun K hK => ?_) .nil)
     have c0 := (heap_at (unhide Q9) 0).1
     have c1 := (heap_at (unhide Q9) 1).1
     have c2 := (heap_at (unhide Q9) 2).1
     have c3 := (heap_at (unhide Q9) 3).1
     have cf0 := (heap_at (unhide Q9) 0).2
     have cf1 := (heap_at (unhide Q9) 1).2
     have cf2 := (heap_at (unhide Q9) 2).2
     have cf3 := (heap_at (unhide Q9) 3).2
     have hw : WrB (fun i => i = b9) ux ((((ux.setCell ⟨b9, 0, none⟩ (.int .i64 pp.2.code)).setCell ⟨b9, 1, none⟩ (.int .i64 pp.2.time)).setCell ⟨b9, 2, none⟩ (.string pp.2.val)).setCell ⟨b9, 3, none⟩ (.slice r.a r.n r.c)) := sv4_wr ux b9 (.int .i64 pp.2.code) (.int .i64 pp.2.time) (.string pp.2.val) (.slice r.a r.n r.c)
     have P9 := hide (show ((((ux.setCell ⟨b9, 0, none⟩ (.int .i64 pp.2.code)).setCell ⟨b9, 1, none⟩ (.int .i64 pp.2.time)).setCell ⟨b9, 2, none⟩ (.string pp.2.val)).setCell ⟨b9, 3, none⟩ (.slice r.a r.n r.c)).heap[b9]? = some (.cells #[.int .i64 pp.2.code, .int .i64 pp.2.time, .string pp.2.val, .slice r.a r.n r.c] 40 (0, 0)) from sv4_heap (unhide Q9) (.int .i64 pp.2.code) (.int .i64 pp.2.time) (.string pp.2.val) (.slice r.a r.n r.c))
     have P8 := hide (show ((((ux.setCell ⟨b9, 0, none⟩ (.int .i64 pp.2.code)).setCell ⟨b9, 1, none⟩ (.int .i64 pp.2.time)).setCell ⟨b9, 2, none⟩ (.string pp.2.val)).setCell ⟨b9, 3, none⟩ (.slice r.a r.n r.c)).heap[b8]? = some (.cells #[.int .i64 pp.1.next, .slice l'.a l'.n l'.c, .slice f'.a f'.n f'.c, .slice s'.a s'.n s'.c] 29 (0, 0)) from (hw.block b8 (blk_lt (unhide Q8)) (fun e => h89 e.symm)).trans (unhide Q8))
     have PO := hide (show VzOwn ((((ux.setCell ⟨b9, 0, none⟩ (.int .i64 pp.2.code)).setCell ⟨b9, 1, none⟩ (.int .i64 pp.2.time)).setCell ⟨b9, 2, none⟩ (.string pp.2.val)).setCell ⟨b9, 3, none⟩ (.slice r.a r.n r.c)) W.heap.size l' f' s' hs' pp.1 from (unhide QO).box (unhide Q9) (by decide) (by decide) (by decide) hw)
     have PE := hide (show EOwns ((((ux.setCell ⟨b9, 0, none⟩ (.int .i64 pp.2.code)).setCell ⟨b9, 1, none⟩ (.int .i64 pp.2.time)).setCell ⟨b9, 2, none⟩ (.string pp.2.val)).setCell ⟨b9, 3, none⟩ (.slice r.a r.n r.c)) wr.heap.size (.slice r.a r.n r.c) pp.2.list from own_keep (unhide QE) (unhide Q9) (by decide) hw)
     have PB := hide (show Below wr.heap.size wr ((((ux.setCell ⟨b9, 0, none⟩ (.int .i64 pp.2.code)).setCell ⟨b9, 1, none⟩ (.int .i64 pp.2.time)).setCell ⟨b9, 2, none⟩ (.string pp.2.val)).setCell ⟨b9, 3, none⟩ (.slice r.a r.n r.c)) from (unhide QB).trans (WrB.below hw (fun i e => by rw [e]; exact h9) (unhide QB).size))
     clear hw
     go_simp
     refine hK.out _ _ (unhide SK _ (unhide PB)) (fun hHeld => ?_)
     clear hK K
     refine wpAnyH_done (by kernel_rfl) ?_ _
     clear hHeld SK
     go_wp2_with fail
     go_meet
     case rel => exact ⟨b8, b9, l', f', s', hs', r, rfl, rfl, P8, P9, PO, PE, PB, h9⟩
    ·have T10_9 := hide (unhide T10).lit8
     go_simp
     generalize u10.alloc (.cells #[.int .i64 0, .slice none 0 0, .slice none 0 0, .slice none 0 0] 29) = u10_9 at *
     generalize u10.heap.size = b8 at *
     refine hK.out _ _ (unhide SK _ (unhide T10_9).bel) (fun hHeld => ?_)
     clear hK K
     refine rd [5] (.cons rfl (fun K hK => ?_) .nil)
     go_simp
     refine (unhide CS _ (unhide T10_9).bel).mono ?_
     intro e u10_9_5 hst
     obtain ⟨l', f', s', hs', r, rfl, hq⟩ := (unhide T10_9).call (unhide hS).own hwrW hst
     have T10_9_5 := hide hq
     clear hq hst
     refine hK.out _ _ (unhide SK _ (unhide T10_9_5).bel) (fun hHeld => ?_)
     clear hK K
     refine tk 6 28 rfl rfl hHeld ?_
     simp only [Act.put, lA, lB, lC]
     refine tk 7 35 rfl rfl hHeld ?_
     simp only [Act.put, lA, lB, lC]
     refine tk 8 36 rfl rfl hHeld ?_
     simp only [Act.put, lA, lB, lC]
     refine rd [11] (.cons rfl (fun K hK => ?_) .nil)
     obtain ⟨hOw, hEo⟩ := (unhide T10_9_5).r l' f' s' hs' r rfl
     obtain ⟨h8, k8⟩ := (unhide T10_9_5).e8 b8 rfl
     obtain ⟨h9, k9⟩ := (unhide T10_9_5).e9 b9 rfl
     have c0 := (heap_at k8 0).1
     have c1 := (heap_at k8 1).1
     have c2 := (heap_at k8 2).1
     have c3 := (heap_at k8 3).1
     have cf0 := (heap_at k8 0).2
     have cf1 := (heap_at k8 1).2
     have cf2 := (heap_at k8 2).2
     have cf3 := (heap_at k8 3).2
     have h89 : b9 ≠ b8 := fun e => by rw [e, k8] at k9; injection k9 with k9; injection k9 with _ k9 _; exact absurd k9 (by decide)
     have hw : WrB (fun i => i = b8) u10_9_5 ((((u10_9_5.setCell ⟨b8, 0, none⟩ (.int .i64 pp.1.next)).setCell ⟨b8, 1, none⟩ (.slice l'.a l'.n l'.c)).setCell ⟨b8, 2, none⟩ (.slice f'.a f'.n f'.c)).setCell ⟨b8, 3, none⟩ (.slice s'.a s'.n s'.c)) := sv4_wr u10_9_5 b8 (.int .i64 pp.1.next) (.slice l'.a l'.n l'.c) (.slice f'.a f'.n f'.c) (.slice s'.a s'.n s'.c)
     have Q8 := hide (show ((((u10_9_5.setCell ⟨b8, 0, none⟩ (.int .i64 pp.1.next)).setCell ⟨b8, 1, none⟩ (.slice l'.a l'.n l'.c)).setCell ⟨b8, 2, none⟩ (.slice f'.a f'.n f'.c)).setCell ⟨b8, 3, none⟩ (.slice s'.a s'.n s'.c)).heap[b8]? = some (.cells #[.int .i64 pp.1.next, .slice l'.a l'.n l'.c, .slice f'.a f'.n f'.c, .slice s'.a s'.n s'.c] 29 (0, 0)) from sv4_heap k8 (.int .i64 pp.1.next) (.slice l'.a l'.n l'.c) (.slice f'.a f'.n f'.c) (.slice s'.a s'.n s'.c))
     have Q9 := hide (show ((((u10_9_5.setCell ⟨b8, 0, none⟩ (.int .i64 pp.1.next)).setCell ⟨b8, 1, none⟩ (.slice l'.a l'.n l'.c)).setCell ⟨b8, 2, none⟩ (.slice f'.a f'.n f'.c)).setCell ⟨b8, 3, none⟩ (.slice s'.a s'.n s'.c)).heap[b9]? = some (.cells #[.int .i64 0, .int .i64 0, .string ⟨#[]⟩, .slice none 0 0] 40 (0, 0)) from (hw.block b9 (blk_lt k9) h89).trans k9)
     have QO := hide (show VzOwn ((((u10_9_5.setCell ⟨b8, 0, none⟩ (.int .i64 pp.1.next)).setCell ⟨b8, 1, none⟩ (.slice l'.a l'.n l'.c)).setCell ⟨b8, 2, none⟩ (.slice f'.a f'.n f'.c)).setCell ⟨b8, 3, none⟩ (.slice s'.a s'.n s'.c)) W.heap.size l' f' s' hs' pp.1 from hOw.box k8 (by decide) (by decide) (by decide) hw)
     have QE := hide (show EOwns ((((u10_9_5.setCell ⟨b8, 0, none⟩ (.int .i64 pp.1.next)).setCell ⟨b8, 1, none⟩ (.slice l'.a l'.n l'.c)).setCell ⟨b8, 2, none⟩ (.slice f'.a f'.n f'.c)).setCell ⟨b8, 3, none⟩ (.slice s'.a s'.n s'.c)) wr.heap.size (.slice r.a r.n r.c) pp.2.list from own_keep hEo k8 (by decide) hw)
     have QB := hide (show Below wr.heap.size wr ((((u10_9_5.setCell ⟨b8, 0, none⟩ (.int .i64 pp.1.next)).setCell ⟨b8, 1, none⟩ (.slice l'.a l'.n l'.c)).setCell ⟨b8, 2, none⟩ (.slice f'.a f'.n f'.c)).setCell ⟨b8, 3, none⟩ (.slice s'.a s'.n s'.c)) from (unhide T10_9_5).bel.trans (WrB.below hw (fun i e => by rw [e]; exact h8) (unhide T10_9_5).bel.size))
     clear hw hOw hEo k8 k9
     go_simp
     refine hK.out _ _ (unhide SK _ (unhide QB)) (fun hHeld => ?_)
     clear hK K
     clear c0 cf0 c1 cf1 c2 cf2 c3 cf3
     generalize ((((u10_9_5.setCell ⟨b8, 0, none⟩ (.int .i64 pp.1.next)).setCell ⟨b8, 1, none⟩ (.slice l'.a l'.n l'.c)).setCell ⟨b8, 2, none⟩ (.slice f'.a f'.n f'.c)).setCell ⟨b8, 3, none⟩ (.slice s'.a s'.n s'.c)) = ux at *
     refine rd [12] (.cons rfl (fun K hK => ?_) .nil)
     have c0 := (heap_at (unhide Q9) 0).1
     have c1 := (heap_at (unhide Q9) 1).1
     have c2 := (heap_at (unhide Q9) 2).1
     have c3 := (heap_at (unhide Q9) 3).1
     have cf0 := (heap_at (unhide Q9) 0).2
     have cf1 := (heap_at (unhide Q9) 1).2
     have cf2 := (heap_at (unhide Q9) 2).2
     have cf3 := (heap_at (unhide Q9) 3).2
     have hw : WrB (fun i => i = b9) ux ((((ux.setCell ⟨b9, 0, none⟩ (.int .i64 pp.2.code)).setCell ⟨b9, 1, none⟩ (.int .i64 pp.2.time)).setCell ⟨b9, 2, none⟩ (.string pp.2.val)).setCell ⟨b9, 3, none⟩ (.slice r.a r.n r.c)) := sv4_wr ux b9 (.int .i64 pp.2.code) (.int .i64 pp.2.time) (.string pp.2.val) (.slice r.a r.n r.c)
     have P9 := hide (show ((((ux.setCell ⟨b9, 0, none⟩ (.int .i64 pp.2.code)).setCell ⟨b9, 1, none⟩ (.int .i64 pp.2.time)).setCell ⟨b9, 2, none⟩ (.string pp.2.val)).setCell ⟨b9, 3, none⟩ (.slice r.a r.n r.c)).heap[b9]? = some (.cells #[.int .i64 pp.2.code, .int .i64 pp.2.time, .string pp.2.val, .slice r.a r.n r.c] 40 (0, 0)) from sv4_heap (unhide Q9) (.int .i64 pp.2.code) (.int .i64 pp.2.time) (.string pp.2.val) (.slice r.a r.n r.c))
     have P8 := hide (show ((((ux.setCell ⟨b9, 0, none⟩ (.int .i64 pp.2.code)).setCell ⟨b9, 1, none⟩ (.int .i64 pp.2.time)).setCell ⟨b9, 2, none⟩ (.string pp.2.val)).setCell ⟨b9, 3, none⟩ (.slice r.a r.n r.c)).heap[b8]? = some (.cells #[.int .i64 pp.1.next, .slice l'.a l'.n l'.c, .slice f'.a f'.n f'.c, .slice s'.a s'.n s'.c] 29 (0, 0)) from (hw.block b8 (blk_lt (unhide Q8)) (fun e => h89 e.symm)).trans (unhide Q8))
     have PO := hide (show VzOwn ((((ux.setCell ⟨b9, 0, none⟩ (.int .i64 pp.2.code)).setCell ⟨b9, 1, none⟩ (.int .i64 pp.2.time)).setCell ⟨b9, 2, none⟩ (.string pp.2.val)).setCell ⟨b9, 3, none⟩ (.slice r.a r.n r.c)) W.heap.size l' f' s' hs' pp.1 from (unhide QO).box (unhide Q9) (by decide) (by decide) (by decide) hw)
     have PE := hide (show EOwns ((((ux.setCell ⟨b9, 0, none⟩ (.int .i64 pp.2.code)).setCell ⟨b9, 1, none⟩ (.int .i64 pp.2.time)).setCell ⟨b9, 2, none⟩ (.string pp.2.val)).setCell ⟨b9, 3, none⟩ (.slice r.a r.n r.c)) wr.heap.size (.slice r.a r.n r.c) pp.2.list from own_keep (unhide QE) (unhide Q9) (by decide) hw)
     have PB := hide (show Below wr.heap.size wr ((((ux.setCell ⟨b9, 0, none⟩ (.int .i64 pp.2.code)).setCell ⟨b9, 1, none⟩ (.int .i64 pp.2.time)).setCell ⟨b9, 2, none⟩ (.string pp.2.val)).setCell ⟨b9, 3, none⟩ (.slice r.a r.n r.c)) from (unhide QB).trans (WrB.below hw (fun i e => by rw [e]; exact h9) (unhide QB).size))
     clear hw
     go_simp
     refine hK.out _ _ (unhide SK _ (unhide PB)) (fun hHeld => ?_)
     clear hK K
     refine wpAnyH_done (by kernel_rfl) ?_ _
     clear hHeld SK
     go_wp2_with fail
     go_meet
     case rel => exact ⟨b8, b9, l', f', s', hs', r, rfl, rfl, P8, P9, PO, PE, PB, h9⟩
  case rest =>
   obtain ⟨b8, b9, ⟨la2, ln2, lc2⟩, ⟨fa2, fn2, fc2⟩, ⟨sa2, sn2, sc2⟩, hs2, ⟨ra, rn2, rc⟩, rfl, rfl, hK8, hK9, hOW, hEO, hBc, h9⟩ := hcut
   clear SK T00 CS
   obtain ⟨⟨q2a, q2n, q2c⟩, w7, hr7, hS7⟩ := (unhide hS).push (unhide hBc) (unhide hOW) pp.2 ⟨ra, rn2, rc⟩ (unhide hEO) (unhide HZL)
   have kb := ((unhide hS).below (unhide hBc)).box
   unfold vzC at kb
   simp only at kb hr7 hS7 hK8 hK9
   have t0 := (heap_at kb 0).1
   have t1 := (heap_at kb 1).1
   have t2 := (heap_at kb 2).1
   have t3 := (heap_at kb 3).1
   have tf0 := (heap_at kb 0).2
   have tf1 := (heap_at kb 1).2
   have tf2 := (heap_at kb 2).2
   have tf3 := (heap_at kb 3).2
   have y0 := (heap_at (unhide hK8) 0).1
   have y1 := (heap_at (unhide hK8) 1).1
   have y2 := (heap_at (unhide hK8) 2).1
   have y3 := (heap_at (unhide hK8) 3).1
   have h9b : b9 ≠ tb := by have := blk_lt (unhide hS).box; omega
   have k9 := ((sv4_wr wc tb (.int .i64 pp.1.next) (.slice la2 ln2 lc2) (.slice fa2 fn2 fc2) (.slice sa2 sn2 sc2)).block b9 (blk_lt (unhide hK9)) h9b).trans (unhide hK9)
   unfold sv4 at hr7 k9
   have HS7 := hide hS7
   have R7 := hide hr7
   have K9 := hide k9
   clear hS7 kb hr7 k9 hK8 hK9 hS hOW hEO hX
   go_upto_region 12 with fail
   clear t0 t1 t2 t3 tf0 tf1 tf2 tf3 y0 y1 y2 y3
   generalize ((((wc.setCell ⟨tb, 0, none⟩ (.int .i64 pp.1.next)).setCell ⟨tb, 1, none⟩ (.slice la2 ln2 lc2)).setCell ⟨tb, 2, none⟩ (.slice fa2 fn2 fc2)).setCell ⟨tb, 3, none⟩ (.slice sa2 sn2 sc2)) = uz at *
   have hr7 := unhide R7
   have p0 := (heap_at (unhide K9) 0).1
   have p1 := (heap_at (unhide K9) 1).1
   have p2 := (heap_at (unhide K9) 2).1
   have p3 := (heap_at (unhide K9) 3).1
   have REL := hide (show ∃ (k' : Nat) (l f s : Sl) (hs : List SeH) (q : Sl) (zs : List ZrH), k + 1 = k' ∧ Value.slice q2a q2n q2c = .slice q.a q.n q.c ∧ Hid (TrSt W w7 tb l f s hs rn.1 (.slice q.a q.n q.c) zs) ∧ Hid (zs.map (·.X) = rn.2) from ⟨k + 1, ⟨la2, ln2, lc2⟩, ⟨fa2, fn2, fc2⟩, ⟨sa2, sn2, sc2⟩, hs2, ⟨q2a, q2n, q2c⟩, _, rfl, rfl, by rw [unhide VN]; exact HS7, unhide XN ⟨ra, rn2, rc⟩⟩)
   clear HS7 XN VN RK hV
   go_wp2_with (at_builtin; refine ky_wpApp rfl (.tmp 38) (.tmp 40) 30 rfl _ _ _ w7 rfl rfl hr7 ?_)
   go_roundw
   case rel =>
    obtain ⟨k', l, f, s, hs, q, zs', rfl, e2, e3, e4⟩ := unhide REL
    exact ⟨k + 1, l, f, s, hs, q, zs', by omega, e2, by go_num, by rw [unhide HRN]; exact e3, by rw [unhide HRN]; exact e4⟩
   case measure => simp [intOf]; omega
end Go.Proofs.YtdnjgbckkmbmfaaGreat
