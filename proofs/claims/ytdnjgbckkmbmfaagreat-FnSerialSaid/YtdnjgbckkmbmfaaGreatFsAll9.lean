/-
  FnSerial is proved: for every code of bytes the law answers true; no condition beyond the row's own.
-/
import Derived.Test.YtdnjgbckkmbmfaaGreatFsAll8
import Derived.ProofKit
import Derived.OpenShut
import Derived.ShutString
import Derived.ChangeOld
import Derived.Below
set_option maxRecDepth 100000
namespace Go.Proofs.YtdnjgbckkmbmfaaGreat
open Go.RowKit

theorem kn_form {w : World} {B : Nat} {v : Value} {ds : List KvD} (h : KNn w B v ds) : ∃ g cap, v = .slice (some ⟨g, 0, none⟩) ds.length cap ∧ EOwns w B v (ds.map kvE) ∧ ds.length ≤ cap := by
 have hE : EOwns w B v (ds.map kvE) := by
  unfold EOwns
  rw [List.length_map, ← kcs_ecs]
  exact h.1
 rcases h.1.2 with ⟨e, _⟩ | ⟨g, cap, cur, e, _⟩
 ·exact absurd e h.2
 ·subst e
  exact ⟨g, cap, rfl, hE, (cap_of_owns (s := ⟨some ⟨g, 0, none⟩, ds.length, cap⟩) h.1).1⟩
theorem erow_n {w : World} {a : Option Addr} {n c : Nat} {es : List EntD} (h : RowC w (.slice a n c) n (ecs es)) (hn : es.length = n) : ERow w a n es := by subst hn; exact erow_C h
theorem fs_few {w : World} {l f s : Sl} {hs : List SeH} {d : VsD} (h : VzIn w l f s hs d) {k : Nat} (hr : RunV d k) (hk : k ≤ 4096) : VsFew l f s (hs.map seR) := by
 have h1 := hr.cnt
 have h2 := hr.fen
 have h3 := hr.ses
 have h4 : (d.ses.map (fun s => s.ws.length)).sum = (d.ses.map (·.ws.length)).sum := rfl
 exact vsfew_of h (by unfold vsN; omega)
theorem ents_len' (ds : List VerD) (t : Int) : (entsAt ds t).length ≤ ds.length := entsTo_len ds t _
theorem take_wr {ws : List VerD} {j : Nat} (hj : j < ws.length) (es : List EntD) : putW es (ws.take (j + 1)) = putE (putW es (ws.take j)) ⟨ws[j].k, ws[j].v⟩ ws[j].g := by
 rw [rb_take_snoc ws j hj, putW_snoc]
theorem putW_len (es : List EntD) : ∀ ws : List VerD, (putW es ws).length ≤ es.length + ws.length := fun ws => by
 unfold putW
 induction ws generalizing es with
 | nil => exact Nat.le_refl _
 | cons x r ih =>
  rw [List.foldl_cons]
  have h1 := ih (putE es ⟨x.k, x.v⟩ x.g)
  have h2 : (putE es ⟨x.k, x.v⟩ x.g).length ≤ es.length + 1 := stepE_len _ _
  rw [List.length_cons]
  omega
set_option maxHeartbeats 32000000 in
theorem fnSerial_law (aa : Option Addr) (na ca : Nat) (zs1 : List Int) (w : World) (h1 : IsRow .u8 w aa na ca zs1) :
  Calls Tryz.prog 3 #[.slice aa na ca] w fun e w' => e = .returned (.bool true) ∧ Below w.heap.size w w' := by
 obtain ⟨hr1, hm1, _⟩ := row_of_isRow h1
 have by1 := hide (bytes_of_isRow h1)
 clear h1
 unfold maxLen at hm1
 by_cases hbig : 1048576 < na
 ·clear hr1 by1
  go_enter Tryz.func3, Tryz.ntmps3
  go_wp2_with fail
  go_ret
  exact ⟨rfl, Below.refl _ _⟩
 have hn1 : na ≤ 1048576 := by omega
 clear hm1 hbig
 generalize zs1.take na = xs1 at *
 have R1 := hide hr1
 clear hr1
 go_enter Tryz.func3, Tryz.ntmps3
 go_wp2_with fail
 refine (txActsOf_any aa na ca xs1 w (unhide R1) (unhide by1) hn1).mono ?_
 rintro e w1 ⟨g, m, cm, ds, rfl, hX, hd60, hok, hb1⟩
 obtain ⟨ag, hag⟩ : ∃ x, x = some (⟨g, 0, none⟩ : Addr) := ⟨_, rfl⟩
 rw [← hag] at hX ⊢
 clear hag
 have XR0 := xrow_of_owns hX
 have hm : ds.length = m := XR0.1
 have hm60 : m ≤ 60 := by omega
 have HLN := hide hm
 have OK := hide hok
 have XR := hide (fun (u : World) (hu : Below w1.heap.size w1 u) => XR0.below hu)
 have TI := hide (implTxRun_any ag m cm ds w1 XR0 (by omega))
 have TS := hide (fun (u : World) (hu : Below w1.heap.size w1 u) => specTxRun_any ag m cm ds u (unhide XR u hu) (by omega))
 have eV : txV ds = (runV ds).1 := by unfold txV; rw [if_neg (by omega)]
 have eC : txC ds = 0 := by unfold txC; rw [if_neg (by omega), if_neg (by omega)]
 have eR : txR ds = (runV ds).2 := by unfold txR; rw [if_neg (by omega)]
 have eL : (txR ds).length = m := by rw [eR, runV_len]; exact hm
 have CON := hide (fun W e W' (h : TxRes ds W e W') => tx_con h)
 rw [eL, eV, eC, eR] at CON
 have FEW := hide (run_few ds (by omega) ds.length (Nat.le_refl _))
 rw [List.take_length] at FEW
 have RV : RunV (runV ds).1 60 := by
  have := runV_ok ds ds.length (Nat.le_refl _)
  rw [List.take_length] at this
  exact this.more hd60
 have okD := RV.okD (by omega)
 have HRV := hide RV
 have B1 := hide hb1
 obtain ⟨d, hd⟩ : ∃ d, d = (runV ds).1 := ⟨_, rfl⟩
 rw [← hd] at CON okD HRV
 have HD := hide hd
 have hnx := RV.nx
 rw [← hd] at hnx
 clear hX hb1 R1 by1 XR0 hok eV eC eR eL RV hd hm
 go_wp2_with fail
 refine (unhide TI).mono ?_
 intro e w2 hres
 obtain ⟨⟨la, ln, lc⟩, ⟨fa, fn, fc⟩, ⟨sa, sn, sc⟩, hs, qa, qc, zs, rfl, hO, hZ, hb2⟩ := unhide CON _ _ _ hres
 clear hres TI
 unfold vzC
 simp only
 obtain ⟨W2, hW2⟩ : ∃ W, W = w2.alloc (.cells #[.int .i64 d.next, .slice la ln lc, .slice fa fn fc, .slice sa sn sc] 29) := ⟨_, rfl⟩
 have bW2 : Below w2.heap.size w2 W2 := by rw [hW2]; exact (Below.refl _ _).alloc (Nat.le_refl _) _
 have kW2 : W2.heap[w2.heap.size]? = some (.cells #[.int .i64 d.next, .slice la ln lc, .slice fa fn fc, .slice sa sn sc] 29 (0, 0)) := by rw [hW2]; exact heap_alloc_new _ _
 have hBA := hb2.trans (bW2.mono hb2.size)
 have BA := hide hBA
 have VI := hide (fun (u : World) (hu : Below W2.heap.size W2 u) => (hO.vz.reads.below bW2).below hu)
 have ZI := hide (fun (u : World) (hu : Below W2.heap.size W2 u) => (show ZrIn u (.slice qa m qc) m zs from ((hO.zr.below bW2).below hu).reads))
 have HZ := hide hZ
 have KV := hide (fun (u : World) (hu : Below W2.heap.size W2 u) => (hu.block _ (blk_lt kW2)).trans kW2)
 have C2 := hide (unhide TS W2 hBA)
 have hln : ln = d.list.length := (unhide VI W2 (Below.refl _ _)).vr.1.symm
 have hln60 : ln ≤ 60 := by have := (unhide HRV).cnt; omega
 have HLL := hide hln
 clear hO hZ bW2 kW2 hb2 TS hBA hln
 go_upto_region 5 with fail
 rw [← hW2]
 clear hW2
 generalize w2.heap.size = vb at *
 go_wp2_with fail
 refine (unhide C2).mono ?_
 intro e w3 hres
 obtain ⟨⟨ja, jn, jc⟩, ⟨ka, kn, kc⟩, ⟨ta, tn, tc⟩, hs3, pa, pc, ys, rfl, hO, hZ, hb3⟩ := unhide CON _ _ _ hres
 clear hres C2 CON
 unfold vzC
 simp only
 obtain ⟨W3, hW3⟩ : ∃ W, W = w3.alloc (.cells #[.int .i64 d.next, .slice ja jn jc, .slice ka kn kc, .slice ta tn tc] 29) := ⟨_, rfl⟩
 have bW3 : Below w3.heap.size w3 W3 := by rw [hW3]; exact (Below.refl _ _).alloc (Nat.le_refl _) _
 have kW3 : W3.heap[w3.heap.size]? = some (.cells #[.int .i64 d.next, .slice ja jn jc, .slice ka kn kc, .slice ta tn tc] 29 (0, 0)) := by rw [hW3]; exact heap_alloc_new _ _
 have hBB := hb3.trans (bW3.mono hb3.size)
 have B23 := hide hBB
 have JI := hide (hO.vz.reads.below bW3).vr
 have YI := hide (fun (u : World) (hu : Below W3.heap.size W3 u) => (show ZrIn u (.slice pa m pc) m ys from ((hO.zr.below bW3).below hu).reads))
 have HY := hide hZ
 have hjn : jn = ln := by
  have h1 := (unhide JI).1
  have h2 := unhide HLL
  simp only at h1
  omega
 subst hjn
 have v0 := (heap_at (unhide KV W3 hBB) 0).1
 have v1 := (heap_at (unhide KV W3 hBB) 1).1
 have y0 := (heap_at kW3 0).1
 have y1 := (heap_at kW3 1).1
 simp only [List.getElem?_toArray, List.getElem?_cons_zero, List.getElem?_cons_succ] at v0 v1 y0 y1
 have C3 := hide (sameVersions_any la ja jn lc jc d.list W3 (unhide VI W3 hBB).vr (unhide JI) (by omega))
 have hmm : ((m : Int) != (m : Int)) = false := by simp
 have hnn : (d.next != d.next) = false := by simp
 have C4 := hide (fun (u : World) (hu : Below W2.heap.size W2 u) => implVersionsOK_any ⟨la, jn, lc⟩ ⟨fa, fn, fc⟩ ⟨sa, sn, sc⟩ (hs.map seR) d u (vs_of_vz (unhide VI u hu)) (fs_few (unhide VI u hu) (unhide HRV) (by omega)))
 unfold vsv at C4
 simp only at C4
 have K3 := hide (fun (u : World) (hu : Below W3.heap.size W3 u) => (hu.block _ (blk_lt kW3)).trans kW3)
 clear hO hZ bW3 kW3 hb3 hBB
 go_upto_region 6 with fail
 rw [← hW3]
 clear hW3
 generalize w3.heap.size = yb at *
 go_wp2_with fail
 refine (unhide C3).mono ?_
 rintro e w4 ⟨rfl, hb4⟩
 have B34 := hide hb4
 have B24 := hide ((unhide B23).trans (hb4.mono (unhide B23).size))
 clear v0 v1 y0 y1 C3 hb4
 have v0 := (heap_at (unhide KV w4 (unhide B24)) 0).1
 have v1 := (heap_at (unhide KV w4 (unhide B24)) 1).1
 have v2 := (heap_at (unhide KV w4 (unhide B24)) 2).1
 have v3 := (heap_at (unhide KV w4 (unhide B24)) 3).1
 have y0 := (heap_at (unhide K3 w4 (unhide B34)) 0).1
 simp only [List.getElem?_toArray, List.getElem?_cons_zero, List.getElem?_cons_succ] at v0 v1 v2 v3 y0
 have C5 := hide (unhide C4 w4 (unhide B24))
 rw [okD] at C5
 clear C4
 go_wp2_with fail
 refine (unhide C5).mono ?_
 rintro e w5 ⟨rfl, hb5⟩
 have B35 := hide ((unhide B34).trans (hb5.mono (unhide B34).size))
 have B25 := hide ((unhide B24).trans (hb5.mono (unhide B24).size))
 have B15 := hide ((unhide BA).trans ((unhide B25).mono (unhide BA).size))
 clear v0 v1 v2 v3 y0 C5 hb5 B34 B24 hmm hnn okD K3 JI
 go_upto_region 9 with fail
 obtain ⟨os0, he0, hl0, hO0⟩ := own_new w5
 have G0 := hide (show ∃ W, W = (((((w5.alloc (.cells #[] 43)).alloc (.cells #[] 43)).alloc (.cells #[] 43)).alloc (.cells #[] 43)).alloc (.cells #[.slice (some ⟨w5.heap.size, 0, none⟩) 0 0, .slice (some ⟨w5.heap.size + 1, 0, none⟩) 0 0, .slice (some ⟨w5.heap.size + 1 + 1, 0, none⟩) 0 0, .slice (some ⟨w5.heap.size + 1 + 1 + 1, 0, none⟩) 0 0] 25)) ∧ Below w5.heap.size w5 W from ⟨_, rfl, allocC_bel [(#[], 43), (#[], 43), (#[], 43), (#[], 43), (#[.slice (some ⟨w5.heap.size, 0, none⟩) 0 0, .slice (some ⟨w5.heap.size + 1, 0, none⟩) 0 0, .slice (some ⟨w5.heap.size + 1 + 1, 0, none⟩) 0 0, .slice (some ⟨w5.heap.size + 1 + 1 + 1, 0, none⟩) 0 0], 25)] w5⟩)
 obtain ⟨w6, hw6, hb6⟩ := unhide G0
 rw [← hw6] at hO0 ⊢
 clear G0 hw6
 generalize w5.heap.size + 1 + 1 + 1 + 1 = gb at *
 have ST := hide (show FsSt w5 w6 gb 0 ds os0 from ⟨hb6, hO0, he0⟩)
 clear hO0 he0 hl0 hb6
 go_wp2_with fail
 go_loopw [11] (fun iv wr => ∃ (k : Nat) (os : List OwH), k ≤ m ∧ iv = .int .i64 k ∧ Hid (FsSt w5 wr gb k ds os)) (fun iv _ => m - (intOf iv).toNat)
 case atStart => exact ⟨0, os0, Nat.zero_le _, rfl, ST⟩
 case round =>
  clear ST
  obtain ⟨k, os, hk, rfl, hS⟩ := hrel
  have D1 := hide ((unhide B15).trans ((unhide hS).bel.mono (unhide B15).size))
  have D2 := hide ((unhide B25).trans ((unhide hS).bel.mono (unhide B25).size))
  have D3 := hide ((unhide B35).trans ((unhide hS).bel.mono (unhide B35).size))
  by_cases hlt : k < m
  case neg =>
   obtain rfl : k = m := by omega
   have BF := hide ((unhide B1).trans ((unhide D1).mono (unhide B1).size))
   clear hS D1 D2 D3
   go_wp2_with fail
   go_ret
   exact ⟨rfl, unhide BF⟩
  have hkd : k < ds.length := by rw [unhide HLN]; exact hlt
  have hkz : k < zs.length := by have := (unhide ZI _ (unhide D2)).len; rw [List.length_map] at this; omega
  have hky : k < ys.length := by have := (unhide YI _ (unhide D3)).len; rw [List.length_map] at this; omega
  have ezr := run_at ds hkd
  have ez : zs[k].X = (stepV (runV (ds.take k)).1 ds[k]).2 := by
   rw [← unhide HZ, List.getElem?_map, List.getElem?_eq_getElem hkz] at ezr
   injection ezr
  have ey : ys[k].X = (stepV (runV (ds.take k)).1 ds[k]).2 := by
   have ezr := run_at ds hkd
   rw [← unhide HY, List.getElem?_map, List.getElem?_eq_getElem hky] at ezr
   injection ezr
  have hfw : (stepV (runV (ds.take k)).1 ds[k]).2.list.length ≤ 200 := unhide FEW _ (List.mem_of_getElem? (run_at ds hkd))
  obtain ⟨b, off, rfl, d0, d1, d2, d3, d4⟩ := (unhide XR _ (unhide D1)).2 k hkd
  obtain ⟨zb, zo, rfl, hzb, z0, z1, z2, z3⟩ := ZrIn.cells (unhide ZI _ (unhide D2)) hkz
  obtain ⟨yb2, yo, rfl, hyb, y0, y1, y2, y3⟩ := ZrIn.cells (unhide YI _ (unhide D3)) hky
  have rz := ZrIn.sub (unhide ZI _ (unhide D2)) hkz
  have ry := ZrIn.sub (unhide YI _ (unhide D3)) hky
  have e1 := rowC_len rz
  have e2 := rowC_len ry
  rw [ez] at z0 z1 z2 rz e1
  rw [ey] at y0 y1 y2 ry e2
  rw [e1] at z3 rz
  rw [e2] at y3 ry
  have STAY := hide (fun (u : World) (os : List OwH) (h : FsSt w5 u gb k ds os) hn => h.stay hkd hn)
  have NEW := hide (fun (u : World) (i : Nat) (h : FsSt w5 u gb k ds os) (hi : i < 4) hs h1 hc => h.new (i := i) hkd hi hs h1 hc)
  have hol := (unhide hS).len (by omega)
  have NOTE := hide (fun (u : World) (i : Nat) (h : FsSt w5 u gb k ds os) (hi : i < 4) (hio : i < os.length) hs h45 hc => h.note (i := i) hkd (by omega) hi hio hs h45 hc)
  have OKA := unhide OK ds[k] (List.getElem_mem hkd)
  have OWX := hide (fun (u : World) (i : Nat) (h : FsSt w5 u gb k ds os) (hi : i < os.length) => (h.own.at hi))
  have OWE := hide (fun (i : Nat) (hi : i < os.length) => (unhide hS).ow hi)
  have OWL := hide (fun (i : Nat) => (ownRun_len ds k (by omega)).2 i)
  have SER := hide (fun (h : ds[k].kind = 2 ∨ ds[k].kind = 3) (hs : 0 ≤ ds[k].ses ∧ ds[k].ses ≤ 3) (r : RepD) (hr : r = (stepV (runV (ds.take k)).1 ds[k]).2) (hc : r.code = 0 ∨ r.code = 5) (L : List EntD) (hL : L = putW ((entsAt (runV ds).1.list (r.time - 1)).map kvE) ((ownRun ds k).getD ds[k].ses.toNat [])) => serial_at ds (by omega) hkd h hs hr hc hL)
  rw [← unhide HD] at SER
  unfold okX at OKA
  generalize hrp : (stepV (runV (ds.take k)).1 ds[k]).2 = rp at *
  clear hrp
  generalize ds[k] = ac at *
  generalize hOR : (ownRun ds k) = ow at *
  clear hOR ezr
  obtain ⟨kd, ses, key, tt, val⟩ := ac
  obtain ⟨rc, rt, rv, rl⟩ := rp
  simp only at d0 d1 d2 d3 d4 z0 z1 z2 z3 y0 y1 y2 y3 rz ry hfw OKA NEW NOTE STAY SER
  obtain ⟨U, hU⟩ : ∃ U, U = (wr.alloc (.cells #[.int .i64 kd, .int .i64 ses, .string key, .string tt, .string val] 37)).alloc (.cells #[.int .i64 rc, .int .i64 rt, .string rv, .slice zs[k].s0.a rl.length zs[k].s0.c] 40) := ⟨_, rfl⟩
  obtain ⟨bU, k1, k2, -⟩ := twoBx hU
  obtain ⟨ab, hab⟩ : ∃ n, n = wr.heap.size := ⟨_, rfl⟩
  rw [← hab] at k1 k2
  generalize zs[k].s0.a = zsa at *
  generalize zs[k].s0.c = zsc at *
  generalize ys[k].s0.a = ysa at *
  generalize ys[k].s0.c = ysc at *
  clear e1 e2 ez ey
  generalize hnrl : rl.length = nrl at *
  have HNR := hide hnrl
  clear hnrl
  have EZ := hide (fun (u : World) (hu : Below wr.heap.size wr u) => erow_n ((rz.below hu)) (unhide HNR))
  have EY := hide (fun (u : World) (hu : Below wr.heap.size wr u) => erow_n ((ry.below hu)) (unhide HNR))
  have CS := hide (fun (u : World) (hu : Below wr.heap.size wr u) => sameReply_any ⟨rc, rt, rv, rl⟩ zsa ysa nrl zsc ysc u (unhide EZ u hu) (unhide EY u hu) (by omega))
  have SU := hide ((unhide hS).below bU)
  have SK := hide (show ∀ u, Below U.heap.size U u → (u.cell? ⟨ab + 1, 0, none⟩ = some (.int .i64 rc) ∧ u.cell? ⟨ab + 1, 1, none⟩ = some (.int .i64 rt) ∧ u.cell? ⟨ab + 1, 2, none⟩ = some (.string rv) ∧ u.cell? ⟨ab + 1, 3, none⟩ = some (.slice zsa nrl zsc) ∧ u.cell? ⟨yb2, yo + k * 4, none⟩ = some (.int .i64 rc) ∧ u.cell? ⟨yb2, yo + k * 4 + 1, none⟩ = some (.int .i64 rt) ∧ u.cell? ⟨yb2, yo + k * 4 + 2, none⟩ = some (.string rv) ∧ u.cell? ⟨yb2, yo + k * 4 + 3, none⟩ = some (.slice ysa nrl ysc)) from fun u hu => by
   have h2 := (hu.block _ (blk_lt k2)).trans k2
   have hy := bU.trans (hu.mono bU.size)
   exact ⟨(heap_at h2 0).1, (heap_at h2 1).1, (heap_at h2 2).1, (heap_at h2 3).1, (hy.cell (p := ⟨yb2, yo + k * 4, none⟩) hyb).trans y0, (hy.cell (p := ⟨yb2, yo + k * 4 + 1, none⟩) hyb).trans y1, (hy.cell (p := ⟨yb2, yo + k * 4 + 2, none⟩) hyb).trans y2, (hy.cell (p := ⟨yb2, yo + k * 4 + 3, none⟩) hyb).trans y3⟩)
  have KA := hide (fun (u : World) (hu : Below U.heap.size U u) => (hu.block _ (blk_lt k1)).trans k1)
  have KR := hide (fun (u : World) (hu : Below U.heap.size U u) => (hu.block _ (blk_lt k2)).trans k2)
  have BU := hide bU
  have DU2 := hide ((unhide D2).trans (bU.mono (unhide D2).size))
  clear rz ry k1 k2 bU y0 y1 y2 y3 hS
  go_upto_region 14 with fail
  rw [← hU, ← hab]
  clear hab hU d0 d1 d2 d3 d4 z0 z1 z2 z3
  have T0 := hide (show Below U.heap.size U U.drew from (Below.refl _ _).drew)
  refine wp_region_held_drew (S := (fun u => (u.cell? ⟨ab + 1, 0, none⟩ = some (.int .i64 rc) ∧ u.cell? ⟨ab + 1, 1, none⟩ = some (.int .i64 rt) ∧ u.cell? ⟨ab + 1, 2, none⟩ = some (.string rv) ∧ u.cell? ⟨ab + 1, 3, none⟩ = some (.slice zsa nrl zsc) ∧ u.cell? ⟨yb2, yo + k * 4, none⟩ = some (.int .i64 rc) ∧ u.cell? ⟨yb2, yo + k * 4 + 1, none⟩ = some (.int .i64 rt) ∧ u.cell? ⟨yb2, yo + k * 4 + 2, none⟩ = some (.string rv) ∧ u.cell? ⟨yb2, yo + k * 4 + 3, none⟩ = some (.slice ysa nrl ysc)))) (by kernel_rfl) (unhide SK _ (unhide T0)) (fun hHeld => ?_)
  refine tk 0 87 rfl rfl hHeld ?_
  simp only [Act.put, lA, lB, lC]
  refine tk 1 88 rfl rfl hHeld ?_
  simp only [Act.put, lA, lB, lC]
  refine tk 2 89 rfl rfl hHeld ?_
  simp only [Act.put, lA, lB, lC]
  refine tk 3 90 rfl rfl hHeld ?_
  simp only [Act.put, lA, lB, lC]
  refine tk 4 91 rfl rfl hHeld ?_
  simp only [Act.put, lA, lB, lC]
  refine rd [5] (.cons rfl (fun K hK => ?_) .nil)
  go_simp
  refine (unhide CS _ ((unhide BU).trans ((unhide T0).mono (unhide BU).size))).mono ?_
  rintro e V ⟨rfl, hbV⟩
  have TV := hide ((unhide T0).trans (hbV.mono (unhide T0).size))
  clear hbV
  refine hK.out _ _ (unhide SK _ (unhide TV)) (fun hHeld => ?_)
  clear hK K
  refine tk 6 93 rfl rfl hHeld ?_
  simp only [Act.put, lA, lB, lC]
  refine wpAnyH_done (by kernel_rfl) ?_ _
  clear hHeld SK CS EY T0
  have SV := hide ((unhide SU).below (unhide TV))
  have DV2 := hide ((unhide DU2).trans ((unhide TV).mono (unhide DU2).size))
  have AV := hide (unhide KA V (unhide TV))
  have RVv := hide (unhide KR V (unhide TV))
  have a0 := (heap_at (unhide AV) 0).1
  have a1 := (heap_at (unhide AV) 1).1
  have hs0 : ¬ ses < 0 := by omega
  have hs3 : ¬ 3 < ses := by omega
  go_upto_region 18 with fail
  obtain ⟨i, rfl⟩ : ∃ i : Nat, ses = (i : Int) := ⟨ses.toNat, by omega⟩
  have hi4 : i < 4 := by omega
  have hi4I : (i : Int) < 4 := by omega
  have hi0I : (0 : Int) ≤ (i : Int) := by omega
  have hio : i < os.length := by omega
  have r0 := (heap_at (unhide RVv) 0).1
  have hcs : (kd = 1 ∧ rc = 0) ∨ (kd = 1 ∧ rc ≠ 0) ∨ (kd = 4 ∧ rc = 0) ∨ (kd = 5 ∧ rc = 0) ∨ (kd = 4 ∧ rc ≠ 0) ∨ (kd = 5 ∧ rc ≠ 0) ∨ ((kd = 2 ∨ kd = 3) ∧ (rc ≠ 0 ∧ rc ≠ 5)) ∨ (kd = 2 ∧ rc = 0) ∨ (kd = 2 ∧ rc = 5) ∨ (kd = 3 ∧ rc = 0) ∨ (kd = 3 ∧ rc = 5) ∨ (kd ≠ 1 ∧ kd ≠ 2 ∧ kd ≠ 3 ∧ kd ≠ 4 ∧ kd ≠ 5) := by omega
  rcases hcs with ⟨rfl, rfl⟩ | ⟨rfl, hrc⟩ | ⟨rfl, rfl⟩ | ⟨rfl, rfl⟩ | ⟨rfl, hrc⟩ | ⟨rfl, hrc⟩ | ⟨hkd, hrc⟩ | ⟨rfl, rfl⟩ | ⟨rfl, rfl⟩ | ⟨rfl, rfl⟩ | ⟨rfl, rfl⟩ | hkd
  ·as_aux_lemma =>
    obtain ⟨os', ST'⟩ := unhide NEW V i (unhide SV) hi4 rfl rfl rfl
    have ST := hide ST'
    obtain ⟨o1, -⟩ := unhide OWX V i (unhide SV) hio
    have bA := (Below.refl V.heap.size V).alloc (Nat.le_refl _) (.cells #[] 43)
    have o2 := (bA.cell (p := ⟨gb, i, none⟩) (cell_lt o1)).trans o1
    have of2 := ((unhide SV).below bA).own.free i
    clear bA ST' NEW NOTE STAY SER OWX OWE OWL KA KR SV EZ
    go_wp2_with fail
    go_roundw
    case rel => exact ⟨k + 1, _, by omega, by go_num, ST⟩
    case measure => simp [intOf]; omega
  ·as_aux_lemma =>
    have ST := hide (unhide STAY V os (unhide SV) (.inr hrc))
    have hr0 : (rc == 0) = false := by simpa using hrc
    clear NEW NOTE STAY SER OWX OWE OWL KA KR SV EZ
    go_wp2_with fail
    go_roundw
    case rel => exact ⟨k + 1, _, by omega, by go_num, ST⟩
    case measure => simp [intOf]; omega
  ·as_aux_lemma =>
    have SVd := (unhide SV).below (Below.refl _ _).drew
    obtain ⟨⟨s7a, s7n, s7c⟩, w7, os', hrun, ST', hb7, c7, f7, K7⟩ := unhide NOTE V.drew i SVd hi4 hio rfl (by omega) rfl
    have ST := hide ST'
    obtain ⟨o1, -⟩ := unhide OWX V i (unhide SV) hio
    generalize os[i].s0.a = oa at *
    generalize os[i].s0.n = on at *
    generalize os[i].s0.c = oc at *
    rw [show decide ((4 : Int) = 5) = false from rfl] at hrun
    simp only at hrun ST
    have a2 := (heap_at (unhide AV) 2).1
    have a4 := (heap_at (unhide AV) 4).1
    have h5 : ((4 : Int) == 5) = false := by decide
    have AB : ab < V.drew.heap.size := blk_lt (unhide AV)
    have OB : gb < V.drew.heap.size := ((unhide SV).own.row.lt gb rfl).2
    have A7 := K7 _ _ _ (show V.drew.heap[ab]? = _ from unhide AV) (by decide)
    have hgbn : ab ≠ gb := fun e => by
     obtain ⟨cur, hc⟩ := own_kind (unhide SV).own.row (i := gb) rfl
     rw [← e, unhide AV] at hc
     injection hc with hc
     injection hc with _ hc _
     exact absurd hc (by decide)
    have S7 := hide (show (fun u : World => u.cell? ⟨ab, 0, none⟩ = some (.int .i64 4) ∧ u.cell? ⟨ab, 1, none⟩ = some (.int .i64 (i : Int)) ∧ u.cell? ⟨ab, 2, none⟩ = some (.string key) ∧ u.cell? ⟨ab, 4, none⟩ = some (.string val)) w7 from ⟨(heap_at A7 0).1, (heap_at A7 1).1, (heap_at A7 2).1, (heap_at A7 4).1⟩)
    have A8 := ((set1_wr w7 gb i (.slice s7a s7n s7c)).block _ (blk_lt A7) (by omega)).trans A7
    have S8 := hide (show (fun u : World => u.cell? ⟨ab, 0, none⟩ = some (.int .i64 4) ∧ u.cell? ⟨ab, 1, none⟩ = some (.int .i64 (i : Int)) ∧ u.cell? ⟨ab, 2, none⟩ = some (.string key) ∧ u.cell? ⟨ab, 4, none⟩ = some (.string val)) (w7.setCell ⟨gb, i, none⟩ (.slice s7a s7n s7c)) from ⟨(heap_at A8 0).1, (heap_at A8 1).1, (heap_at A8 2).1, (heap_at A8 4).1⟩)
    have S5 := hide (show (fun u : World => u.cell? ⟨ab, 0, none⟩ = some (.int .i64 4) ∧ u.cell? ⟨ab, 1, none⟩ = some (.int .i64 (i : Int)) ∧ u.cell? ⟨ab, 2, none⟩ = some (.string key) ∧ u.cell? ⟨ab, 4, none⟩ = some (.string val)) V.drew from ⟨a0, a1, a2, a4⟩)
    have bA : Below V.drew.heap.size V.drew (V.drew.alloc (.cells #[.string key, .int .i64 0, .string val, .bool false] 43)) := (Below.refl _ _).alloc (Nat.le_refl _) _
    have S6 := hide (show (fun u : World => u.cell? ⟨ab, 0, none⟩ = some (.int .i64 4) ∧ u.cell? ⟨ab, 1, none⟩ = some (.int .i64 (i : Int)) ∧ u.cell? ⟨ab, 2, none⟩ = some (.string key) ∧ u.cell? ⟨ab, 4, none⟩ = some (.string val)) (V.drew.alloc (.cells #[.string key, .int .i64 0, .string val, .bool false] 43)) from ⟨(bA.cell (p := ⟨ab, 0, none⟩) AB).trans (unhide S5).1, (bA.cell (p := ⟨ab, 1, none⟩) AB).trans (unhide S5).2.1, (bA.cell (p := ⟨ab, 2, none⟩) AB).trans (unhide S5).2.2.1, (bA.cell (p := ⟨ab, 4, none⟩) AB).trans (unhide S5).2.2.2⟩)
    have o6 := (bA.cell (p := ⟨gb, i, none⟩) OB).trans (show V.drew.cell? ⟨gb, i, none⟩ = _ from o1)
    clear OWX OWE OWL KA KR SV NEW NOTE STAY SER EZ SVd ST' hb7 K7 A7 A8 bA AB OB a2 a4 hgbn
    replace o1 : V.drew.cell? ⟨gb, i, none⟩ = _ := o1
    go_upto_region 24 with fail
    clear a0 a1 r0
    refine wp_region_held_drew (S := (fun u : World => u.cell? ⟨ab, 0, none⟩ = some (.int .i64 4) ∧ u.cell? ⟨ab, 1, none⟩ = some (.int .i64 (i : Int)) ∧ u.cell? ⟨ab, 2, none⟩ = some (.string key) ∧ u.cell? ⟨ab, 4, none⟩ = some (.string val))) (by kernel_rfl) (unhide S5) (fun hHeld => ?_)
    generalize V.drew = uV at *
    refine tk 0 120 rfl rfl hHeld ?_
    simp only [Act.put, lA, lB, lC]
    refine tk 1 121 rfl rfl hHeld ?_
    simp only [Act.put, lA, lB, lC]
    refine tk 2 122 rfl rfl hHeld ?_
    simp only [Act.put, lA, lB, lC]
    refine tk 3 123 rfl rfl hHeld ?_
    simp only [Act.put, lA, lB, lC]
    refine tk 4 124 rfl rfl hHeld ?_
    simp only [Act.put, lA, lB, lC]
    refine tk 5 125 rfl rfl hHeld ?_
    simp only [Act.put, lA, lB, lC]
    refine tk 6 126 rfl rfl hHeld ?_
    simp only [Act.put, lA, lB, lC]
    refine tk 8 128 rfl rfl hHeld ?_
    simp only [Act.put, lA, lB, lC]
    refine tk 9 129 rfl rfl hHeld ?_
    simp only [Act.put, lA, lB, lC]
    refine tk 10 130 rfl rfl hHeld ?_
    simp only [Act.put, lA, lB, lC]
    refine tk 11 131 rfl rfl hHeld ?_
    simp only [Act.put, lA, lB, lC]
    refine tk 12 132 rfl rfl hHeld ?_
    simp only [Act.put, lA, lB, lC]
    refine tk 13 133 rfl rfl hHeld ?_
    simp only [Act.put, lA, lB, lC]
    refine tk 14 134 rfl rfl hHeld ?_
    simp only [Act.put, lA, lB, lC]
    refine tk 15 135 rfl rfl hHeld ?_
    simp only [Act.put, lA, lB, lC]
    refine wpAnyH_ready (rs := [7, 16]) (by kernel_rfl) (by simp) ?_
    refine AllReadyH.cons rfl (fun K hK => ?_) (AllReadyH.cons rfl (fun K hK => ?_) AllReadyH.nil)
    ·go_simp
     skip
     refine hK.out _ _ (unhide S5) (fun hHeld => ?_)
     clear hK K
     refine rd [16] (.cons rfl (fun K hK => ?_) .nil)
     go_simp
     generalize uV.alloc (.cells #[.string key, .int .i64 0, .string val, .bool false] 43) = uA at *
     generalize uV.heap.size = hbA at *
     refine hK.out _ _ (unhide S6) (fun hHeld => ?_)
     clear hK K
     refine rd [17] (.cons rfl (fun K hK => ?_) .nil)
     refine us_stepApp rfl (.tmp 127) (.tmp 136) 25 rfl _ _ _ w7 (by first | rfl | (simp [Act.eval]; done) | (simp [Act.eval, Act.put]; done)) (by first | rfl | (simp [Act.eval]; done) | (simp [Act.eval, Act.put]; done)) hrun ?_
     refine hK.out _ _ (unhide S7) (fun hHeld => ?_)
     clear hK K
     (try simp only [Act.put, lA])
     refine tk 18 138 rfl rfl hHeld ?_
     simp only [Act.put]
     refine rd [19] (.cons rfl (fun K hK => ?_) .nil)
     go_simp
     clear c7 f7
     refine hK.out _ _ (unhide S8) (fun hHeld => ?_)
     clear hK K
     refine wpAnyH_done (by kernel_rfl) ?_ _
     clear hHeld
     go_wp2_with fail
     go_roundw
     case rel => exact ⟨k + 1, _, by omega, by go_num, ST⟩
     case measure => simp [intOf]; omega
    ·go_simp
     generalize uV.alloc (.cells #[.string key, .int .i64 0, .string val, .bool false] 43) = uA at *
     generalize uV.heap.size = hbA at *
     refine hK.out _ _ (unhide S6) (fun hHeld => ?_)
     clear hK K
     refine rd [7] (.cons rfl (fun K hK => ?_) .nil)
     go_simp
     skip
     refine hK.out _ _ (unhide S6) (fun hHeld => ?_)
     clear hK K
     refine rd [17] (.cons rfl (fun K hK => ?_) .nil)
     refine us_stepApp rfl (.tmp 127) (.tmp 136) 25 rfl _ _ _ w7 (by first | rfl | (simp [Act.eval]; done) | (simp [Act.eval, Act.put]; done)) (by first | rfl | (simp [Act.eval]; done) | (simp [Act.eval, Act.put]; done)) hrun ?_
     refine hK.out _ _ (unhide S7) (fun hHeld => ?_)
     clear hK K
     (try simp only [Act.put, lA])
     refine tk 18 138 rfl rfl hHeld ?_
     simp only [Act.put]
     refine rd [19] (.cons rfl (fun K hK => ?_) .nil)
     go_simp
     clear c7 f7
     refine hK.out _ _ (unhide S8) (fun hHeld => ?_)
     clear hK K
     refine wpAnyH_done (by kernel_rfl) ?_ _
     clear hHeld
     go_wp2_with fail
     go_roundw
     case rel => exact ⟨k + 1, _, by omega, by go_num, ST⟩
     case measure => simp [intOf]; omega
  ·as_aux_lemma =>
    have SVd := (unhide SV).below (Below.refl _ _).drew
    obtain ⟨⟨s7a, s7n, s7c⟩, w7, os', hrun, ST', hb7, c7, f7, K7⟩ := unhide NOTE V.drew i SVd hi4 hio rfl (by omega) rfl
    have ST := hide ST'
    obtain ⟨o1, -⟩ := unhide OWX V i (unhide SV) hio
    generalize os[i].s0.a = oa at *
    generalize os[i].s0.n = on at *
    generalize os[i].s0.c = oc at *
    rw [show decide ((5 : Int) = 5) = true from rfl] at hrun
    simp only at hrun ST
    have a2 := (heap_at (unhide AV) 2).1
    have a4 := (heap_at (unhide AV) 4).1
    have h5 : ((5 : Int) == 5) = true := by decide
    have AB : ab < V.drew.heap.size := blk_lt (unhide AV)
    have OB : gb < V.drew.heap.size := ((unhide SV).own.row.lt gb rfl).2
    have A7 := K7 _ _ _ (show V.drew.heap[ab]? = _ from unhide AV) (by decide)
    have hgbn : ab ≠ gb := fun e => by
     obtain ⟨cur, hc⟩ := own_kind (unhide SV).own.row (i := gb) rfl
     rw [← e, unhide AV] at hc
     injection hc with hc
     injection hc with _ hc _
     exact absurd hc (by decide)
    have S7 := hide (show (fun u : World => u.cell? ⟨ab, 0, none⟩ = some (.int .i64 5) ∧ u.cell? ⟨ab, 1, none⟩ = some (.int .i64 (i : Int)) ∧ u.cell? ⟨ab, 2, none⟩ = some (.string key) ∧ u.cell? ⟨ab, 4, none⟩ = some (.string val)) w7 from ⟨(heap_at A7 0).1, (heap_at A7 1).1, (heap_at A7 2).1, (heap_at A7 4).1⟩)
    have A8 := ((set1_wr w7 gb i (.slice s7a s7n s7c)).block _ (blk_lt A7) (by omega)).trans A7
    have S8 := hide (show (fun u : World => u.cell? ⟨ab, 0, none⟩ = some (.int .i64 5) ∧ u.cell? ⟨ab, 1, none⟩ = some (.int .i64 (i : Int)) ∧ u.cell? ⟨ab, 2, none⟩ = some (.string key) ∧ u.cell? ⟨ab, 4, none⟩ = some (.string val)) (w7.setCell ⟨gb, i, none⟩ (.slice s7a s7n s7c)) from ⟨(heap_at A8 0).1, (heap_at A8 1).1, (heap_at A8 2).1, (heap_at A8 4).1⟩)
    have S5 := hide (show (fun u : World => u.cell? ⟨ab, 0, none⟩ = some (.int .i64 5) ∧ u.cell? ⟨ab, 1, none⟩ = some (.int .i64 (i : Int)) ∧ u.cell? ⟨ab, 2, none⟩ = some (.string key) ∧ u.cell? ⟨ab, 4, none⟩ = some (.string val)) V.drew from ⟨a0, a1, a2, a4⟩)
    have bA : Below V.drew.heap.size V.drew (V.drew.alloc (.cells #[.string key, .int .i64 0, .string val, .bool true] 43)) := (Below.refl _ _).alloc (Nat.le_refl _) _
    have S6 := hide (show (fun u : World => u.cell? ⟨ab, 0, none⟩ = some (.int .i64 5) ∧ u.cell? ⟨ab, 1, none⟩ = some (.int .i64 (i : Int)) ∧ u.cell? ⟨ab, 2, none⟩ = some (.string key) ∧ u.cell? ⟨ab, 4, none⟩ = some (.string val)) (V.drew.alloc (.cells #[.string key, .int .i64 0, .string val, .bool true] 43)) from ⟨(bA.cell (p := ⟨ab, 0, none⟩) AB).trans (unhide S5).1, (bA.cell (p := ⟨ab, 1, none⟩) AB).trans (unhide S5).2.1, (bA.cell (p := ⟨ab, 2, none⟩) AB).trans (unhide S5).2.2.1, (bA.cell (p := ⟨ab, 4, none⟩) AB).trans (unhide S5).2.2.2⟩)
    have o6 := (bA.cell (p := ⟨gb, i, none⟩) OB).trans (show V.drew.cell? ⟨gb, i, none⟩ = _ from o1)
    clear OWX OWE OWL KA KR SV NEW NOTE STAY SER EZ SVd ST' hb7 K7 A7 A8 bA AB OB a2 a4 hgbn
    replace o1 : V.drew.cell? ⟨gb, i, none⟩ = _ := o1
    go_upto_region 24 with fail
    clear a0 a1 r0
    refine wp_region_held_drew (S := (fun u : World => u.cell? ⟨ab, 0, none⟩ = some (.int .i64 5) ∧ u.cell? ⟨ab, 1, none⟩ = some (.int .i64 (i : Int)) ∧ u.cell? ⟨ab, 2, none⟩ = some (.string key) ∧ u.cell? ⟨ab, 4, none⟩ = some (.string val))) (by kernel_rfl) (unhide S5) (fun hHeld => ?_)
    generalize V.drew = uV at *
    refine tk 0 120 rfl rfl hHeld ?_
    simp only [Act.put, lA, lB, lC]
    refine tk 1 121 rfl rfl hHeld ?_
    simp only [Act.put, lA, lB, lC]
    refine tk 2 122 rfl rfl hHeld ?_
    simp only [Act.put, lA, lB, lC]
    refine tk 3 123 rfl rfl hHeld ?_
    simp only [Act.put, lA, lB, lC]
    refine tk 4 124 rfl rfl hHeld ?_
    simp only [Act.put, lA, lB, lC]
    refine tk 5 125 rfl rfl hHeld ?_
    simp only [Act.put, lA, lB, lC]
    refine tk 6 126 rfl rfl hHeld ?_
    simp only [Act.put, lA, lB, lC]
    refine tk 8 128 rfl rfl hHeld ?_
    simp only [Act.put, lA, lB, lC]
    refine tk 9 129 rfl rfl hHeld ?_
    simp only [Act.put, lA, lB, lC]
    refine tk 10 130 rfl rfl hHeld ?_
    simp only [Act.put, lA, lB, lC]
    refine tk 11 131 rfl rfl hHeld ?_
    simp only [Act.put, lA, lB, lC]
    refine tk 12 132 rfl rfl hHeld ?_
    simp only [Act.put, lA, lB, lC]
    refine tk 13 133 rfl rfl hHeld ?_
    simp only [Act.put, lA, lB, lC]
    refine tk 14 134 rfl rfl hHeld ?_
    simp only [Act.put, lA, lB, lC]
    refine tk 15 135 rfl rfl hHeld ?_
    simp only [Act.put, lA, lB, lC]
    refine wpAnyH_ready (rs := [7, 16]) (by kernel_rfl) (by simp) ?_
    refine AllReadyH.cons rfl (fun K hK => ?_) (AllReadyH.cons rfl (fun K hK => ?_) AllReadyH.nil)
    ·go_simp
     skip
     refine hK.out _ _ (unhide S5) (fun hHeld => ?_)
     clear hK K
     refine rd [16] (.cons rfl (fun K hK => ?_) .nil)
     go_simp
     generalize uV.alloc (.cells #[.string key, .int .i64 0, .string val, .bool true] 43) = uA at *
     generalize uV.heap.size = hbA at *
     refine hK.out _ _ (unhide S6) (fun hHeld => ?_)
     clear hK K
     refine rd [17] (.cons rfl (fun K hK => ?_) .nil)
     refine us_stepApp rfl (.tmp 127) (.tmp 136) 25 rfl _ _ _ w7 (by first | rfl | (simp [Act.eval]; done) | (simp [Act.eval, Act.put]; done)) (by first | rfl | (simp [Act.eval]; done) | (simp [Act.eval, Act.put]; done)) hrun ?_
     refine hK.out _ _ (unhide S7) (fun hHeld => ?_)
     clear hK K
     (try simp only [Act.put, lA])
     refine tk 18 138 rfl rfl hHeld ?_
     simp only [Act.put]
     refine rd [19] (.cons rfl (fun K hK => ?_) .nil)
     go_simp
     clear c7 f7
     refine hK.out _ _ (unhide S8) (fun hHeld => ?_)
     clear hK K
     refine wpAnyH_done (by kernel_rfl) ?_ _
     clear hHeld
     go_wp2_with fail
     go_roundw
     case rel => exact ⟨k + 1, _, by omega, by go_num, ST⟩
     case measure => simp [intOf]; omega
    ·go_simp
     generalize uV.alloc (.cells #[.string key, .int .i64 0, .string val, .bool true] 43) = uA at *
     generalize uV.heap.size = hbA at *
     refine hK.out _ _ (unhide S6) (fun hHeld => ?_)
     clear hK K
     refine rd [7] (.cons rfl (fun K hK => ?_) .nil)
     go_simp
     skip
     refine hK.out _ _ (unhide S6) (fun hHeld => ?_)
     clear hK K
     refine rd [17] (.cons rfl (fun K hK => ?_) .nil)
     refine us_stepApp rfl (.tmp 127) (.tmp 136) 25 rfl _ _ _ w7 (by first | rfl | (simp [Act.eval]; done) | (simp [Act.eval, Act.put]; done)) (by first | rfl | (simp [Act.eval]; done) | (simp [Act.eval, Act.put]; done)) hrun ?_
     refine hK.out _ _ (unhide S7) (fun hHeld => ?_)
     clear hK K
     (try simp only [Act.put, lA])
     refine tk 18 138 rfl rfl hHeld ?_
     simp only [Act.put]
     refine rd [19] (.cons rfl (fun K hK => ?_) .nil)
     go_simp
     clear c7 f7
     refine hK.out _ _ (unhide S8) (fun hHeld => ?_)
     clear hK K
     refine wpAnyH_done (by kernel_rfl) ?_ _
     clear hHeld
     go_wp2_with fail
     go_roundw
     case rel => exact ⟨k + 1, _, by omega, by go_num, ST⟩
     case measure => simp [intOf]; omega
  ·as_aux_lemma =>
    have ST := hide (unhide STAY V os (unhide SV) (.inr hrc))
    have hr0 : (rc == 0) = false := by simpa using hrc
    clear NEW NOTE STAY SER OWX OWE OWL KA KR SV EZ
    go_wp2_with fail
    go_roundw
    case rel => exact ⟨k + 1, _, by omega, by go_num, ST⟩
    case measure => simp [intOf]; omega
  ·as_aux_lemma =>
    have ST := hide (unhide STAY V os (unhide SV) (.inr hrc))
    have hr0 : (rc == 0) = false := by simpa using hrc
    clear NEW NOTE STAY SER OWX OWE OWL KA KR SV EZ
    go_wp2_with fail
    go_roundw
    case rel => exact ⟨k + 1, _, by omega, by go_num, ST⟩
    case measure => simp [intOf]; omega
  ·as_aux_lemma =>
    rcases hkd with rfl | rfl
    ·have ST := hide (unhide STAY V os (unhide SV) (.inl ⟨by decide, by decide⟩))
     have hr0 : (rc == 0) = false := by simpa using hrc.1
     have hr1 : (rc != 0) = true := by simpa using hrc.1
     have hr2 : (rc != 5) = true := by simpa using hrc.2
     clear NEW NOTE STAY SER OWX OWE OWL KA KR SV EZ
     go_wp2_with fail
     go_roundw
     case rel => exact ⟨k + 1, _, by omega, by go_num, ST⟩
     case measure => simp [intOf]; omega
    ·have ST := hide (unhide STAY V os (unhide SV) (.inl ⟨by decide, by decide⟩))
     have hr0 : (rc == 0) = false := by simpa using hrc.1
     have hr1 : (rc != 0) = true := by simpa using hrc.1
     have hr2 : (rc != 5) = true := by simpa using hrc.2
     clear NEW NOTE STAY SER OWX OWE OWL KA KR SV EZ
     go_wp2_with fail
     go_roundw
     case rel => exact ⟨k + 1, _, by omega, by go_num, ST⟩
     case measure => simp [intOf]; omega
  ·as_aux_lemma =>
    have SR := fun L hL => unhide SER (.inl rfl) ⟨by omega, by omega⟩ ⟨0, rt, rv, rl⟩ rfl (.inl rfl) L hL
    rw [Int.toNat_natCast] at SR
    dsimp only at SR
    obtain ⟨ht1, ht2, -⟩ := SR _ rfl
    obtain ⟨o1, hv1⟩ := unhide OWX V i (unhide SV) hio
    have hoX := unhide OWE i hio
    have hoL := unhide OWL i
    rw [← hoX] at SR hoL
    have SRh := hide SR
    have VO := hide (vrow_of_owns hv1)
    have hno := owns_n hv1
    generalize hoXX : os[i].X = oX at *
    generalize os[i].s0.a = oa at *
    generalize hon : os[i].s0.n = on at *
    generalize os[i].s0.c = oc at *
    have HNO := hide hno.symm
    have hon60 : on ≤ 60 := by omega
    have HOWN := hide (fun (u : World) (hu : Below V.heap.size V u) => (hu.cell (p := ⟨gb, i, none⟩) (cell_lt o1)).trans o1)
    have HAV := hide (fun (u : World) (hu : Below V.heap.size V u) => (hu.block _ (blk_lt (unhide AV))).trans (unhide AV))
    have HRV2 := hide (fun (u : World) (hu : Below V.heap.size V u) => (hu.block _ (blk_lt (unhide RVv))).trans (unhide RVv))
    have EZV := hide (fun (u : World) (hu : Below V.heap.size V u) => unhide EZ u ((unhide BU).trans (((unhide TV).trans (hu.mono (unhide TV).size)).mono (unhide BU).size)))
    have v1 := (heap_at (unhide KV V (unhide DV2)) 1).1
    have r1 := (heap_at (unhide RVv) 1).1
    simp only [List.getElem?_toArray, List.getElem?_cons_zero, List.getElem?_cons_succ] at v1 r1
    have hwp : IntKind.i64.wrap (rt - 1) = rt - 1 := by rw [IntKind.wrap_i64]; omega
    have hen := ents_len' d.list (rt - 1)
    have hdl60 : d.list.length ≤ 60 := by have := (unhide HRV).cnt; omega
    have C6 := hide (specEntriesAt_nn la jn lc d.list (rt - 1) V (by omega) (unhide VI V (unhide DV2)).vr (unhide HRV).ok)
    have SVS := hide (unhide STAY V os (unhide SV) (.inl ⟨by decide, by decide⟩))
    have SVB := hide (fun (u : World) (hu : Below V.heap.size V u) => (unhide SVS).below hu)
    clear SR hoX hoXX hon hno hv1 NEW NOTE STAY SER OWX OWE OWL KA KR SV SVS hoL
    go_wp2_with fail
    clear v1 r1 hwp r0 a0 a1
    refine (unhide C6).mono ?_
    rintro e x1 ⟨v6, rfl, hk6, hb6⟩
    obtain ⟨ge, cap0, rfl, hE6, hcap⟩ := kn_form hk6
    have hln6 : (entsAt d.list (rt - 1)).length ≤ 60 := by omega
    generalize hE0 : (entsAt d.list (rt - 1)).map kvE = E0 at *
    have hE0l : E0.length ≤ 60 := by rw [← hE0, List.length_map]; exact hln6
    have hE0r : Rise E0 := by rw [← hE0]; exact entE_rise (unhide HRV).ok _
    clear hE0
    generalize (entsAt d.list (rt - 1)).length = ne at *
    have L0 := hide hE6
    have XB := hide hb6
    clear C6 hk6 hE6 hb6 hen hdl60
    go_wp2_with fail
    go_loopw [14, 16] (fun lv jv wl => ∃ (j gl nl cl : Nat), lv = .slice (some ⟨gl, 0, none⟩) nl cl ∧ jv = .int .i64 j ∧ j ≤ on ∧ nl ≤ cl ∧ Hid (EOwns wl V.heap.size (.slice (some ⟨gl, 0, none⟩) nl cl) (putW E0 (oX.take j))) ∧ Hid (Below V.heap.size V wl)) (fun _ jv _ => on - (intOf jv).toNat)
    case atStart => exact ⟨0, ge, ne, cap0, rfl, rfl, Nat.zero_le _, hcap, L0, XB⟩
    case round =>
     clear L0 XB
     obtain ⟨j, gl, nl, cl, rfl, rfl, hj, hcl, hEL, hBL⟩ := hrel
     have ka := unhide HAV wr (unhide hBL)
     have a0 := (heap_at ka 0).1
     have a1 := (heap_at ka 1).1
     have a2 := (heap_at ka 2).1
     have a3 := (heap_at ka 3).1
     have o1 := unhide HOWN wr (unhide hBL)
     have hpl := putW_len E0 (oX.take j)
     rw [List.length_take] at hpl
     have hnl : nl = (putW E0 (oX.take j)).length := owns_n (unhide hEL)
     by_cases hjl : j < on
     case pos =>
      have hjX : j < oX.length := by rw [unhide HNO]; exact hjl
      obtain ⟨xb, xo, hxa, x0, x1c, x2, x3⟩ := ((unhide VO).below (unhide hBL)).2 j hjX
      subst hxa
      have TK := hide (take_wr hjX E0)
      have hxb := cell_lt x0
      have hgb := cell_lt o1
      have PU := hide (fun (u : World) (hu : Below wr.heap.size wr u) => lawPut_any gl 0 nl cl (putW E0 (oX.take j)) ⟨oX[j].k, oX[j].v⟩ oX[j].g u (erow_of_owns ((rb_ownsRow_below (unhide hEL) hu))) (by omega) hcl)
      generalize hdj : oX[j] = dj at *
      clear hdj
      obtain ⟨xk, xt, xv, xg⟩ := dj
      simp only at x0 x1c x2 x3 PU TK
      obtain ⟨Y, hY⟩ : ∃ Y, Y = wr.alloc (.cells #[.string xk, .int .i64 xt, .string xv, .bool xg] 43) := ⟨_, rfl⟩
      have bY : Below wr.heap.size wr Y := by rw [hY]; exact (Below.refl _ _).alloc (Nat.le_refl _) _
      have kY : Y.heap[wr.heap.size]? = some (.cells #[.string xk, .int .i64 xt, .string xv, .bool xg] 43 (0, 0)) := by rw [hY]; exact heap_alloc_new _ _
      have t0 := (heap_at kY 0).1
      have t2 := (heap_at kY 2).1
      have t3 := (heap_at kY 3).1
      have PUY := hide (unhide PU Y bY)
      have BY := hide ((unhide hBL).trans (bY.mono (unhide hBL).size))
      clear PU bY kY hEL hpl hnl ka
      go_upto_region 33 with fail
      rw [← hY]
      clear hY x0 x1c x2 x3 a0 a1 a2 a3 o1
      go_wp2_with fail
      refine (unhide PUY).mono ?_
      rintro e wp ⟨gp, cp, rfl, hop, hbp⟩
      have hcp : (putE (putW E0 (oX.take j)) ⟨xk, xv⟩ xg).length ≤ cp := (cap_of_owns (s := ⟨some ⟨gp, 0, none⟩, _, cp⟩) hop).1
      have EP := hide (show EOwns wp V.heap.size (.slice (some ⟨gp, 0, none⟩) (putE (putW E0 (oX.take j)) ⟨xk, xv⟩ xg).length cp) (putW E0 (oX.take (j + 1))) from by
       rw [unhide TK]
       exact gd_base hop (unhide BY).size)
      have BP := hide ((unhide BY).trans (hbp.mono (unhide BY).size))
      clear hop hbp PUY TK t0 t2 t3 BY
      generalize (putE (putW E0 (oX.take j)) ⟨xk, xv⟩ xg).length = np at *
      go_wp2_with fail
      go_roundw
      case rel => exact ⟨j + 1, gp, np, cp, rfl, by go_num, by omega, hcp, EP, BP⟩
      case measure => simp [intOf]; omega
     case neg =>
      obtain rfl : j = on := by omega
      have htk : oX.take j = oX := List.take_of_length_le (by rw [unhide HNO]; exact Nat.le_refl _)
      rw [htk] at hEL hnl hpl
      obtain ⟨-, -, hRL, hG2, hG3⟩ := unhide SRh (putW E0 oX) rfl
      generalize putW E0 oX = L at *
      clear htk SRh
      have hnl90 : nl ≤ 200 := by omega
      have rr := unhide HRV2 wr (unhide hBL)
      have r0 := (heap_at rr 0).1
      have r2 := (heap_at rr 2).1
      have r3 := (heap_at rr 3).1
      have hG := hG2 trivial
      clear hG2 hG3
      have hval : valA L key = .tuple #[.string rv, .bool true] := by
       unfold valA
       cases hlk : lookE L key with
       | none => rw [hlk] at hG; exact absurd hG.1 (by decide)
       | some v => rw [hlk] at hG; rw [hG.2]
      have CV := hide (lawValue_any (some ⟨gl, 0, none⟩) nl cl L key wr (erow_of_owns (unhide hEL)) (by omega))
      rw [hval] at CV
      clear hG hval hEL hnl hpl ka rr hRL
      go_wp2_with fail
      refine (unhide CV).mono ?_
      rintro e wv ⟨rfl, hbv⟩
      have BVv := hide ((unhide hBL).trans (hbv.mono (unhide hBL).size))
      have rr := unhide HRV2 wv (unhide BVv)
      have ST := hide (unhide SVB wv (unhide BVv))
      clear r0 r2 r3 a0 a1 a2 a3 o1 CV hbv
      have r0 := (heap_at rr 0).1
      have r2 := (heap_at rr 2).1
      have hq := xt_eqlb true
      have hrr : (rv.toList != rv.toList) = false := by simp
      clear rr SVB HRV2 HAV HOWN EZV VO
      go_wp2_with fail
      go_roundw
      case rel => exact ⟨k + 1, _, by omega, by go_num, ST⟩
      case measure => simp [intOf]; omega
  ·as_aux_lemma =>
    have SR := fun L hL => unhide SER (.inl rfl) ⟨by omega, by omega⟩ ⟨5, rt, rv, rl⟩ rfl (.inr rfl) L hL
    rw [Int.toNat_natCast] at SR
    dsimp only at SR
    obtain ⟨ht1, ht2, -⟩ := SR _ rfl
    obtain ⟨o1, hv1⟩ := unhide OWX V i (unhide SV) hio
    have hoX := unhide OWE i hio
    have hoL := unhide OWL i
    rw [← hoX] at SR hoL
    have SRh := hide SR
    have VO := hide (vrow_of_owns hv1)
    have hno := owns_n hv1
    generalize hoXX : os[i].X = oX at *
    generalize os[i].s0.a = oa at *
    generalize hon : os[i].s0.n = on at *
    generalize os[i].s0.c = oc at *
    have HNO := hide hno.symm
    have hon60 : on ≤ 60 := by omega
    have HOWN := hide (fun (u : World) (hu : Below V.heap.size V u) => (hu.cell (p := ⟨gb, i, none⟩) (cell_lt o1)).trans o1)
    have HAV := hide (fun (u : World) (hu : Below V.heap.size V u) => (hu.block _ (blk_lt (unhide AV))).trans (unhide AV))
    have HRV2 := hide (fun (u : World) (hu : Below V.heap.size V u) => (hu.block _ (blk_lt (unhide RVv))).trans (unhide RVv))
    have EZV := hide (fun (u : World) (hu : Below V.heap.size V u) => unhide EZ u ((unhide BU).trans (((unhide TV).trans (hu.mono (unhide TV).size)).mono (unhide BU).size)))
    have v1 := (heap_at (unhide KV V (unhide DV2)) 1).1
    have r1 := (heap_at (unhide RVv) 1).1
    simp only [List.getElem?_toArray, List.getElem?_cons_zero, List.getElem?_cons_succ] at v1 r1
    have hwp : IntKind.i64.wrap (rt - 1) = rt - 1 := by rw [IntKind.wrap_i64]; omega
    have hen := ents_len' d.list (rt - 1)
    have hdl60 : d.list.length ≤ 60 := by have := (unhide HRV).cnt; omega
    have C6 := hide (specEntriesAt_nn la jn lc d.list (rt - 1) V (by omega) (unhide VI V (unhide DV2)).vr (unhide HRV).ok)
    have SVS := hide (unhide STAY V os (unhide SV) (.inl ⟨by decide, by decide⟩))
    have SVB := hide (fun (u : World) (hu : Below V.heap.size V u) => (unhide SVS).below hu)
    clear SR hoX hoXX hon hno hv1 NEW NOTE STAY SER OWX OWE OWL KA KR SV SVS hoL
    go_wp2_with fail
    clear v1 r1 hwp r0 a0 a1
    refine (unhide C6).mono ?_
    rintro e x1 ⟨v6, rfl, hk6, hb6⟩
    obtain ⟨ge, cap0, rfl, hE6, hcap⟩ := kn_form hk6
    have hln6 : (entsAt d.list (rt - 1)).length ≤ 60 := by omega
    generalize hE0 : (entsAt d.list (rt - 1)).map kvE = E0 at *
    have hE0l : E0.length ≤ 60 := by rw [← hE0, List.length_map]; exact hln6
    have hE0r : Rise E0 := by rw [← hE0]; exact entE_rise (unhide HRV).ok _
    clear hE0
    generalize (entsAt d.list (rt - 1)).length = ne at *
    have L0 := hide hE6
    have XB := hide hb6
    clear C6 hk6 hE6 hb6 hen hdl60
    go_wp2_with fail
    go_loopw [14, 16] (fun lv jv wl => ∃ (j gl nl cl : Nat), lv = .slice (some ⟨gl, 0, none⟩) nl cl ∧ jv = .int .i64 j ∧ j ≤ on ∧ nl ≤ cl ∧ Hid (EOwns wl V.heap.size (.slice (some ⟨gl, 0, none⟩) nl cl) (putW E0 (oX.take j))) ∧ Hid (Below V.heap.size V wl)) (fun _ jv _ => on - (intOf jv).toNat)
    case atStart => exact ⟨0, ge, ne, cap0, rfl, rfl, Nat.zero_le _, hcap, L0, XB⟩
    case round =>
     clear L0 XB
     obtain ⟨j, gl, nl, cl, rfl, rfl, hj, hcl, hEL, hBL⟩ := hrel
     have ka := unhide HAV wr (unhide hBL)
     have a0 := (heap_at ka 0).1
     have a1 := (heap_at ka 1).1
     have a2 := (heap_at ka 2).1
     have a3 := (heap_at ka 3).1
     have o1 := unhide HOWN wr (unhide hBL)
     have hpl := putW_len E0 (oX.take j)
     rw [List.length_take] at hpl
     have hnl : nl = (putW E0 (oX.take j)).length := owns_n (unhide hEL)
     by_cases hjl : j < on
     case pos =>
      have hjX : j < oX.length := by rw [unhide HNO]; exact hjl
      obtain ⟨xb, xo, hxa, x0, x1c, x2, x3⟩ := ((unhide VO).below (unhide hBL)).2 j hjX
      subst hxa
      have TK := hide (take_wr hjX E0)
      have hxb := cell_lt x0
      have hgb := cell_lt o1
      have PU := hide (fun (u : World) (hu : Below wr.heap.size wr u) => lawPut_any gl 0 nl cl (putW E0 (oX.take j)) ⟨oX[j].k, oX[j].v⟩ oX[j].g u (erow_of_owns ((rb_ownsRow_below (unhide hEL) hu))) (by omega) hcl)
      generalize hdj : oX[j] = dj at *
      clear hdj
      obtain ⟨xk, xt, xv, xg⟩ := dj
      simp only at x0 x1c x2 x3 PU TK
      obtain ⟨Y, hY⟩ : ∃ Y, Y = wr.alloc (.cells #[.string xk, .int .i64 xt, .string xv, .bool xg] 43) := ⟨_, rfl⟩
      have bY : Below wr.heap.size wr Y := by rw [hY]; exact (Below.refl _ _).alloc (Nat.le_refl _) _
      have kY : Y.heap[wr.heap.size]? = some (.cells #[.string xk, .int .i64 xt, .string xv, .bool xg] 43 (0, 0)) := by rw [hY]; exact heap_alloc_new _ _
      have t0 := (heap_at kY 0).1
      have t2 := (heap_at kY 2).1
      have t3 := (heap_at kY 3).1
      have PUY := hide (unhide PU Y bY)
      have BY := hide ((unhide hBL).trans (bY.mono (unhide hBL).size))
      clear PU bY kY hEL hpl hnl ka
      go_upto_region 33 with fail
      rw [← hY]
      clear hY x0 x1c x2 x3 a0 a1 a2 a3 o1
      go_wp2_with fail
      refine (unhide PUY).mono ?_
      rintro e wp ⟨gp, cp, rfl, hop, hbp⟩
      have hcp : (putE (putW E0 (oX.take j)) ⟨xk, xv⟩ xg).length ≤ cp := (cap_of_owns (s := ⟨some ⟨gp, 0, none⟩, _, cp⟩) hop).1
      have EP := hide (show EOwns wp V.heap.size (.slice (some ⟨gp, 0, none⟩) (putE (putW E0 (oX.take j)) ⟨xk, xv⟩ xg).length cp) (putW E0 (oX.take (j + 1))) from by
       rw [unhide TK]
       exact gd_base hop (unhide BY).size)
      have BP := hide ((unhide BY).trans (hbp.mono (unhide BY).size))
      clear hop hbp PUY TK t0 t2 t3 BY
      generalize (putE (putW E0 (oX.take j)) ⟨xk, xv⟩ xg).length = np at *
      go_wp2_with fail
      go_roundw
      case rel => exact ⟨j + 1, gp, np, cp, rfl, by go_num, by omega, hcp, EP, BP⟩
      case measure => simp [intOf]; omega
     case neg =>
      obtain rfl : j = on := by omega
      have htk : oX.take j = oX := List.take_of_length_le (by rw [unhide HNO]; exact Nat.le_refl _)
      rw [htk] at hEL hnl hpl
      obtain ⟨-, -, hRL, hG2, hG3⟩ := unhide SRh (putW E0 oX) rfl
      generalize putW E0 oX = L at *
      clear htk SRh
      have hnl90 : nl ≤ 200 := by omega
      have rr := unhide HRV2 wr (unhide hBL)
      have r0 := (heap_at rr 0).1
      have r2 := (heap_at rr 2).1
      have r3 := (heap_at rr 3).1
      have hG := hG2 trivial
      clear hG2 hG3
      have hval : valA L key = .tuple #[.string rv, .bool false] := by
       unfold valA
       cases hlk : lookE L key with
       | none => rw [hlk] at hG; rw [hG.2]
       | some v => rw [hlk] at hG; exact absurd hG.1 (by decide)
      have CV := hide (lawValue_any (some ⟨gl, 0, none⟩) nl cl L key wr (erow_of_owns (unhide hEL)) (by omega))
      rw [hval] at CV
      clear hG hval hEL hnl hpl ka rr hRL
      go_wp2_with fail
      refine (unhide CV).mono ?_
      rintro e wv ⟨rfl, hbv⟩
      have BVv := hide ((unhide hBL).trans (hbv.mono (unhide hBL).size))
      have rr := unhide HRV2 wv (unhide BVv)
      have ST := hide (unhide SVB wv (unhide BVv))
      clear r0 r2 r3 a0 a1 a2 a3 o1 CV hbv
      have r0 := (heap_at rr 0).1
      have r2 := (heap_at rr 2).1
      have hq := xt_eqlb false
      have hrr : (rv.toList != rv.toList) = false := by simp
      clear rr SVB HRV2 HAV HOWN EZV VO
      go_wp2_with fail
      go_roundw
      case rel => exact ⟨k + 1, _, by omega, by go_num, ST⟩
      case measure => simp [intOf]; omega
  ·as_aux_lemma =>
    have SR := fun L hL => unhide SER (.inr rfl) ⟨by omega, by omega⟩ ⟨0, rt, rv, rl⟩ rfl (.inl rfl) L hL
    rw [Int.toNat_natCast] at SR
    dsimp only at SR
    obtain ⟨ht1, ht2, -⟩ := SR _ rfl
    obtain ⟨o1, hv1⟩ := unhide OWX V i (unhide SV) hio
    have hoX := unhide OWE i hio
    have hoL := unhide OWL i
    rw [← hoX] at SR hoL
    have SRh := hide SR
    have VO := hide (vrow_of_owns hv1)
    have hno := owns_n hv1
    generalize hoXX : os[i].X = oX at *
    generalize os[i].s0.a = oa at *
    generalize hon : os[i].s0.n = on at *
    generalize os[i].s0.c = oc at *
    have HNO := hide hno.symm
    have hon60 : on ≤ 60 := by omega
    have HOWN := hide (fun (u : World) (hu : Below V.heap.size V u) => (hu.cell (p := ⟨gb, i, none⟩) (cell_lt o1)).trans o1)
    have HAV := hide (fun (u : World) (hu : Below V.heap.size V u) => (hu.block _ (blk_lt (unhide AV))).trans (unhide AV))
    have HRV2 := hide (fun (u : World) (hu : Below V.heap.size V u) => (hu.block _ (blk_lt (unhide RVv))).trans (unhide RVv))
    have EZV := hide (fun (u : World) (hu : Below V.heap.size V u) => unhide EZ u ((unhide BU).trans (((unhide TV).trans (hu.mono (unhide TV).size)).mono (unhide BU).size)))
    have v1 := (heap_at (unhide KV V (unhide DV2)) 1).1
    have r1 := (heap_at (unhide RVv) 1).1
    simp only [List.getElem?_toArray, List.getElem?_cons_zero, List.getElem?_cons_succ] at v1 r1
    have hwp : IntKind.i64.wrap (rt - 1) = rt - 1 := by rw [IntKind.wrap_i64]; omega
    have hen := ents_len' d.list (rt - 1)
    have hdl60 : d.list.length ≤ 60 := by have := (unhide HRV).cnt; omega
    have C6 := hide (specEntriesAt_nn la jn lc d.list (rt - 1) V (by omega) (unhide VI V (unhide DV2)).vr (unhide HRV).ok)
    have SVS := hide (unhide STAY V os (unhide SV) (.inl ⟨by decide, by decide⟩))
    have SVB := hide (fun (u : World) (hu : Below V.heap.size V u) => (unhide SVS).below hu)
    clear SR hoX hoXX hon hno hv1 NEW NOTE STAY SER OWX OWE OWL KA KR SV SVS hoL
    go_wp2_with fail
    clear v1 r1 hwp r0 a0 a1
    refine (unhide C6).mono ?_
    rintro e x1 ⟨v6, rfl, hk6, hb6⟩
    obtain ⟨ge, cap0, rfl, hE6, hcap⟩ := kn_form hk6
    have hln6 : (entsAt d.list (rt - 1)).length ≤ 60 := by omega
    generalize hE0 : (entsAt d.list (rt - 1)).map kvE = E0 at *
    have hE0l : E0.length ≤ 60 := by rw [← hE0, List.length_map]; exact hln6
    have hE0r : Rise E0 := by rw [← hE0]; exact entE_rise (unhide HRV).ok _
    clear hE0
    generalize (entsAt d.list (rt - 1)).length = ne at *
    have L0 := hide hE6
    have XB := hide hb6
    clear C6 hk6 hE6 hb6 hen hdl60
    go_wp2_with fail
    go_loopw [14, 16] (fun lv jv wl => ∃ (j gl nl cl : Nat), lv = .slice (some ⟨gl, 0, none⟩) nl cl ∧ jv = .int .i64 j ∧ j ≤ on ∧ nl ≤ cl ∧ Hid (EOwns wl V.heap.size (.slice (some ⟨gl, 0, none⟩) nl cl) (putW E0 (oX.take j))) ∧ Hid (Below V.heap.size V wl)) (fun _ jv _ => on - (intOf jv).toNat)
    case atStart => exact ⟨0, ge, ne, cap0, rfl, rfl, Nat.zero_le _, hcap, L0, XB⟩
    case round =>
     clear L0 XB
     obtain ⟨j, gl, nl, cl, rfl, rfl, hj, hcl, hEL, hBL⟩ := hrel
     have ka := unhide HAV wr (unhide hBL)
     have a0 := (heap_at ka 0).1
     have a1 := (heap_at ka 1).1
     have a2 := (heap_at ka 2).1
     have a3 := (heap_at ka 3).1
     have o1 := unhide HOWN wr (unhide hBL)
     have hpl := putW_len E0 (oX.take j)
     rw [List.length_take] at hpl
     have hnl : nl = (putW E0 (oX.take j)).length := owns_n (unhide hEL)
     by_cases hjl : j < on
     case pos =>
      have hjX : j < oX.length := by rw [unhide HNO]; exact hjl
      obtain ⟨xb, xo, hxa, x0, x1c, x2, x3⟩ := ((unhide VO).below (unhide hBL)).2 j hjX
      subst hxa
      have TK := hide (take_wr hjX E0)
      have hxb := cell_lt x0
      have hgb := cell_lt o1
      have PU := hide (fun (u : World) (hu : Below wr.heap.size wr u) => lawPut_any gl 0 nl cl (putW E0 (oX.take j)) ⟨oX[j].k, oX[j].v⟩ oX[j].g u (erow_of_owns ((rb_ownsRow_below (unhide hEL) hu))) (by omega) hcl)
      generalize hdj : oX[j] = dj at *
      clear hdj
      obtain ⟨xk, xt, xv, xg⟩ := dj
      simp only at x0 x1c x2 x3 PU TK
      obtain ⟨Y, hY⟩ : ∃ Y, Y = wr.alloc (.cells #[.string xk, .int .i64 xt, .string xv, .bool xg] 43) := ⟨_, rfl⟩
      have bY : Below wr.heap.size wr Y := by rw [hY]; exact (Below.refl _ _).alloc (Nat.le_refl _) _
      have kY : Y.heap[wr.heap.size]? = some (.cells #[.string xk, .int .i64 xt, .string xv, .bool xg] 43 (0, 0)) := by rw [hY]; exact heap_alloc_new _ _
      have t0 := (heap_at kY 0).1
      have t2 := (heap_at kY 2).1
      have t3 := (heap_at kY 3).1
      have PUY := hide (unhide PU Y bY)
      have BY := hide ((unhide hBL).trans (bY.mono (unhide hBL).size))
      clear PU bY kY hEL hpl hnl ka
      go_upto_region 33 with fail
      rw [← hY]
      clear hY x0 x1c x2 x3 a0 a1 a2 a3 o1
      go_wp2_with fail
      refine (unhide PUY).mono ?_
      rintro e wp ⟨gp, cp, rfl, hop, hbp⟩
      have hcp : (putE (putW E0 (oX.take j)) ⟨xk, xv⟩ xg).length ≤ cp := (cap_of_owns (s := ⟨some ⟨gp, 0, none⟩, _, cp⟩) hop).1
      have EP := hide (show EOwns wp V.heap.size (.slice (some ⟨gp, 0, none⟩) (putE (putW E0 (oX.take j)) ⟨xk, xv⟩ xg).length cp) (putW E0 (oX.take (j + 1))) from by
       rw [unhide TK]
       exact gd_base hop (unhide BY).size)
      have BP := hide ((unhide BY).trans (hbp.mono (unhide BY).size))
      clear hop hbp PUY TK t0 t2 t3 BY
      generalize (putE (putW E0 (oX.take j)) ⟨xk, xv⟩ xg).length = np at *
      go_wp2_with fail
      go_roundw
      case rel => exact ⟨j + 1, gp, np, cp, rfl, by go_num, by omega, hcp, EP, BP⟩
      case measure => simp [intOf]; omega
     case neg =>
      obtain rfl : j = on := by omega
      have htk : oX.take j = oX := List.take_of_length_le (by rw [unhide HNO]; exact Nat.le_refl _)
      rw [htk] at hEL hnl hpl
      obtain ⟨-, -, hRL, hG2, hG3⟩ := unhide SRh (putW E0 oX) rfl
      generalize putW E0 oX = L at *
      clear htk SRh
      have hnl90 : nl ≤ 200 := by omega
      have rr := unhide HRV2 wr (unhide hBL)
      have r0 := (heap_at rr 0).1
      have r2 := (heap_at rr 2).1
      have r3 := (heap_at rr 3).1
      obtain ⟨-, hG⟩ := hG3 trivial
      have HG := hide hG
      have EEL := hide (erow_of_owns (unhide hEL))
      have LLN := hide (unhide EEL).1
      have EF := hide (fun (u : World) (hu : Below wr.heap.size wr u) => (unhide EEL).below hu)
      have BF := hide (fun (u : World) (hu : Below wr.heap.size wr u) => (unhide hBL).trans (hu.mono (unhide hBL).size))
      have S0 := hide (show EOwns (wr.alloc (.cells #[] 48)) wr.heap.size (.slice (some ⟨wr.heap.size, 0, none⟩) 0 0) ((L.take 0).filter (fun e => inK key tt e.k)) from nil_lit (w := wr) 48 2)
      have T0 := hide ((Below.refl wr.heap.size wr).alloc (Nat.le_refl _) (.cells #[] 48))
      clear hG hG2 hG3 hEL hnl hpl ka rr hRL r0 r2 r3 EEL hBL
      go_wp2_with fail
      clear a0 a1 a2 a3 o1
      go_loopw [20, 21] (fun sv jv wx => ∃ (j : Nat) (qa : Option Addr) (qn qc : Nat), sv = .slice qa qn qc ∧ jv = .int .i64 j ∧ j ≤ nl ∧ Hid (EOwns wx wr.heap.size (.slice qa qn qc) ((L.take j).filter (fun e => inK key tt e.k))) ∧ Hid (Below wr.heap.size wr wx)) (fun _ jv _ => nl - (intOf jv).toNat)
      case atStart => exact ⟨0, some ⟨wr.heap.size, 0, none⟩, 0, 0, rfl, rfl, Nat.zero_le _, S0, T0⟩
      case round =>
       clear S0 T0
       obtain ⟨j, qa2, qn2, qc2, rfl, rfl, hj2, hQ, hB2⟩ := hrel
       have HBV := hide (unhide BF wr (unhide hB2))
       have ka := unhide HAV wr (unhide HBV)
       have a2 := (heap_at ka 2).1
       have a3 := (heap_at ka 3).1
       by_cases hjl : j < nl
       case pos =>
        have hjE : j < L.length := by rw [unhide LLN]; exact hjl
        obtain ⟨eb, eo, hea, e0, e1⟩ := (unhide EF wr (unhide hB2)).2 j hjE
        injection hea with hea
        injection hea with hea1 hea2 _
        subst hea1 hea2
        simp only [Nat.zero_add] at e0 e1
        have FY := hide (fun h => filt_yes (f := fun e : EntD => inK key tt e.k) hjE h)
        have FN := hide (fun h => filt_no (f := fun e : EntD => inK key tt e.k) hjE h)
        have hacc : ((L.take j).filter (fun e : EntD => inK key tt e.k)).length ≤ 1000000 := by
         have h3 := List.length_filter_le (fun e : EntD => inK key tt e.k) (L.take j)
         rw [List.length_take] at h3
         omega
        generalize hej : L[j] = ej at *
        clear hej
        obtain ⟨ek, ev⟩ := ej
        simp only at e0 e1 FY FN
        cases h1 : Op.bytesLess ek.toList key.toList with
        | true =>
         have K := hide (show EOwns wr _ (.slice qa2 qn2 qc2) ((L.take (j + 1)).filter (fun e => inK key tt e.k)) by
          rw [unhide FN (by unfold inK ltK; rw [h1]; rfl)]
          exact unhide hQ)
         clear hQ ka
         go_upto_region 42 with fail
         go_quiet (fail)
         generalize hNQ : World.drewN wr _ = wq at *
         have bq : Below wr.heap.size wr wq := by rw [← hNQ]; exact bel_drewN (Below.refl _ _) _
         clear hNQ
         have BQ := hide ((unhide hB2).trans (bq.mono (unhide hB2).size))
         have KQ := hide (rb_ownsRow_below (unhide K) bq)
         clear bq K e0 e1 a2 a3
         go_wp2_with fail
         go_roundw
         case rel => exact ⟨j + 1, qa2, qn2, qc2, rfl, by go_num, by omega, KQ, BQ⟩
         case measure => simp [intOf]; omega
        | false =>
         cases h2 : tt.toList.isEmpty with
         | true =>
          have h3 : tt.toList = [] := List.isEmpty_iff.1 h2
          have h4 : (tt.toList == []) = true := by rw [h3]; rfl
          have hin : inK key tt ek = true := by unfold inK ltK; rw [h1, h2]; rfl
          clear h3 ka
          go_upto_region 42 with fail
          go_quiet (fail)
          generalize hNQ : World.drewN wr _ = wq at *
          have bq : Below wr.heap.size wr wq := by rw [← hNQ]; exact bel_drewN (Below.refl _ _) _
          clear hNQ
          have BQ := hide ((unhide hB2).trans (bq.mono (unhide hB2).size))
          have QQ := rb_ownsRow_below (unhide hQ) bq
          have e0' := (bq.cell (cell_lt e0)).trans e0
          have e1' := (bq.cell (cell_lt e1)).trans e1
          obtain ⟨v7, w7, hrun, ho7, hg7, -⟩ := e_app (d := ⟨ek, ev⟩) QQ hacc (Nat.le_trans (unhide hB2).size bq.size)
          obtain ⟨⟨q7a, q7n, q7c⟩, rfl, -⟩ := v_slice ho7
          have bA : Below wq.heap.size wq (wq.alloc (.cells #[.string ek, .string ev] 48)) := (Below.refl _ _).alloc (Nat.le_refl _) _
          have KQ := hide (show EOwns w7 _ (.slice q7a q7n q7c) ((L.take (j + 1)).filter (fun e => inK key tt e.k)) by rw [unhide FY hin]; exact ho7)
          have B7 := hide (((unhide BQ).trans (bA.mono (unhide BQ).size)).grown hg7 (Nat.le_trans (unhide BQ).size bA.size) (fun k hk => (QQ.lt k hk).1))
          simp only at hrun
          clear ho7 hg7 bq bA QQ e0 e1 a2 a3 hQ
          go_wp2_with (at_builtin; refine wpAppE rfl _ _ 38 rfl _ _ (.slice q7a q7n q7c) w7 rfl rfl hrun ?_)
          go_roundw
          case rel => exact ⟨j + 1, q7a, q7n, q7c, rfl, by go_num, by omega, KQ, B7⟩
          case measure => simp [intOf]; omega
         | false =>
          have h4 : (tt.toList == []) = false := by
           cases hq : tt.toList with
           | nil => rw [hq] at h2; cases h2
           | cons x r => rfl
          cases h5 : Op.bytesLess ek.toList tt.toList with
          | true =>
           have hin : inK key tt ek = true := by unfold inK ltK; rw [h1, h2, h5]; rfl
           clear ka
           go_upto_region 42 with fail
           go_quiet (fail)
           generalize hNQ : World.drewN wr _ = wq at *
           have bq : Below wr.heap.size wr wq := by rw [← hNQ]; exact bel_drewN (Below.refl _ _) _
           clear hNQ
           have BQ := hide ((unhide hB2).trans (bq.mono (unhide hB2).size))
           have QQ := rb_ownsRow_below (unhide hQ) bq
           have e0' := (bq.cell (cell_lt e0)).trans e0
           have e1' := (bq.cell (cell_lt e1)).trans e1
           obtain ⟨v7, w7, hrun, ho7, hg7, -⟩ := e_app (d := ⟨ek, ev⟩) QQ hacc (Nat.le_trans (unhide hB2).size bq.size)
           obtain ⟨⟨q7a, q7n, q7c⟩, rfl, -⟩ := v_slice ho7
           have bA : Below wq.heap.size wq (wq.alloc (.cells #[.string ek, .string ev] 48)) := (Below.refl _ _).alloc (Nat.le_refl _) _
           have KQ := hide (show EOwns w7 _ (.slice q7a q7n q7c) ((L.take (j + 1)).filter (fun e => inK key tt e.k)) by rw [unhide FY hin]; exact ho7)
           have B7 := hide (((unhide BQ).trans (bA.mono (unhide BQ).size)).grown hg7 (Nat.le_trans (unhide BQ).size bA.size) (fun k hk => (QQ.lt k hk).1))
           simp only at hrun
           clear ho7 hg7 bq bA QQ e0 e1 a2 a3 hQ
           go_wp2_with (at_builtin; refine wpAppE rfl _ _ 38 rfl _ _ (.slice q7a q7n q7c) w7 rfl rfl hrun ?_)
           go_roundw
           case rel => exact ⟨j + 1, q7a, q7n, q7c, rfl, by go_num, by omega, KQ, B7⟩
           case measure => simp [intOf]; omega
          | false =>
           have K := hide (show EOwns wr _ (.slice qa2 qn2 qc2) ((L.take (j + 1)).filter (fun e => inK key tt e.k)) by
            rw [unhide FN (by unfold inK ltK; rw [h1, h2, h5]; rfl)]
            exact unhide hQ)
           clear hQ ka
           go_upto_region 42 with fail
           go_quiet (fail)
           generalize hNQ : World.drewN wr _ = wq at *
           have bq : Below wr.heap.size wr wq := by rw [← hNQ]; exact bel_drewN (Below.refl _ _) _
           clear hNQ
           have BQ := hide ((unhide hB2).trans (bq.mono (unhide hB2).size))
           have KQ := hide (rb_ownsRow_below (unhide K) bq)
           clear bq K e0 e1 a2 a3
           go_wp2_with fail
           go_roundw
           case rel => exact ⟨j + 1, qa2, qn2, qc2, rfl, by go_num, by omega, KQ, BQ⟩
           case measure => simp [intOf]; omega
       case neg =>
        obtain rfl : j = nl := by omega
        have htk : L.take j = L := List.take_of_length_le (by rw [unhide LLN]; exact Nat.le_refl _)
        rw [htk, ← unhide HG] at hQ
        have hqn : qn2 = nrl := by
         have h1 := owns_n (unhide hQ)
         have h2 := unhide HNR
         omega
        subst hqn
        have CQ := hide (sameEntries_any qa2 zsa qn2 qc2 zsc rl wr (erow_of_owns (unhide hQ)) (unhide EZV wr (unhide HBV)) (by omega))
        have rr := unhide HRV2 wr (unhide HBV)
        have r3 := (heap_at rr 3).1
        clear htk hQ rr ka
        go_wp2_with fail
        refine (unhide CQ).mono ?_
        rintro e wv ⟨rfl, hbv⟩
        have ST := hide (unhide SVB wv ((unhide HBV).trans (hbv.mono (unhide HBV).size)))
        clear r3 a2 a3 CQ hbv
        go_wp2_with fail
        go_roundw
        case rel => exact ⟨k + 1, _, by omega, by go_num, ST⟩
        case measure => simp [intOf]; omega
  ·as_aux_lemma =>
    obtain ⟨-, -, -, -, hG3⟩ := unhide SER (.inr rfl) ⟨by omega, by omega⟩ ⟨5, rt, rv, rl⟩ rfl (.inr rfl) _ rfl
    exact absurd (hG3 rfl).1 (show ¬ ((5 : Int) = 0) by decide)
  ·as_aux_lemma =>
    have ST := hide (unhide STAY V os (unhide SV) (.inl ⟨hkd.1, by omega⟩))
    have hk1 : (kd == 1) = false := by simpa using hkd.1
    have hk2 : (kd == 2) = false := by simpa using hkd.2.1
    have hk3 : (kd == 3) = false := by simpa using hkd.2.2.1
    have hk4 : (kd == 4) = false := by simpa using hkd.2.2.2.1
    have hk5 : (kd == 5) = false := by simpa using hkd.2.2.2.2
    clear NEW NOTE STAY SER OWX OWE OWL KA KR SV EZ
    go_wp2_with fail
    go_roundw
    case rel => exact ⟨k + 1, _, by omega, by go_num, ST⟩
    case measure => simp [intOf]; omega
end Go.Proofs.YtdnjgbckkmbmfaaGreat

namespace Go.Proofs.YtdnjgbckkmbmfaaGreat.fnSerialFrame
open Go.ChangeShapes Go.WideShapes Go.ChangeAt Go.RowKit
open Go.ChangeMaps (open_string shut_string)
set_option linter.unusedVariables false

theorem own : ownKnob Tryz.prog.godebug = none := by kernel_rfl
theorem laidOut : laidOutB Tryz.prog = true := by kernel_rfl

theorem lifted (os : Os) (started : os.Started) (H : Type) (enc : TypeId × Value → H) :
  ReturnsInHanded {} Tryz.checked os 3 .any (Rows.fnSerialSpec.pre6 enc Tryz.prog Tryz.f3 Rows.fnSerialRow.domain false) (Rows.fnSerialSpec.post enc Tryz.prog Tryz.f3 false true false false) := by
 refine returnsInHanded_of_change (C := Tryz.checked) own started (by kernel_rfl) Tryz.func3
  (ChangeSpec.witness6 (enc := enc) (C := Tryz.checked) false ⟨#[], #[.slice none 0 0], []⟩ 8 (by kernel_rfl) (by kernel_rfl) (by kernel_rfl) (by kernel_rfl)) ?_
 intro W base args ds gs before hval0 hW _ _
 have hval : ∀ (j : Nat) t v, Tryz.f3.params[j]? = some t → args[j]? = some v → Value.okWide Tryz.prog W .any base t v := hval0
 have hW' := hW
 obtain ⟨p, q, hA0, hV, rfl, _, _⟩ := hW
 have hA : DataW.TrodAll enc Tryz.prog W 0 (fun _ => true) true Tryz.f3.params.toList args.toList ds p := hA0
 rw [Tryz.params3] at hA hval
 obtain ⟨v0, vs0, d0, ds0, p0, q0, hargs, rfl, rfl, h0, r0⟩ := trodAll_cons hA
 obtain ⟨rfl, rfl, rfl⟩ := trodAll_nil r0
 obtain rfl : args = #[v0] := by cases args; simp_all
 obtain ⟨rfl, rfl⟩ := trodVars_none hV
 have k0 := h0
 have lt0 : ∀ x ∈ p0, x.block < W.heap.size := by obtain ⟨m, hm⟩ := k0; exact DataW.trod_lt m _ _ _ hm
 obtain ⟨a0, len0, cap0, rfl⟩ := okWide_slice Tryz.underlying22 (hval 0 22 v0 rfl rfl)
 obtain ⟨z0, w0⟩ : ∃ zs, IsRow .u8 W a0 len0 cap0 zs := by
  obtain ⟨fuel, hf⟩ := h0
  rcases open_ints Tryz.underlying22 Tryz.underlying5 (by kernel_rfl) hf with ⟨hcs, _⟩ | ⟨x, l, c, zs, hcs, _, hl, hm, hz, _, hcell, hwz⟩
  ·simp [Value.cells] at hcs
   obtain ⟨rfl, rfl, rfl⟩ := hcs
   exact ⟨[], .inl ⟨rfl, rfl, rfl, rfl⟩⟩
  ·simp [Value.cells] at hcs
   obtain ⟨rfl, rfl, rfl⟩ := hcs
   exact ⟨zs, .inr ⟨_, rfl, hl, hm, by simpa using hz, hcell, hwz⟩⟩
 clear hA0 hval0
 refine (fnSerial_law a0 len0 cap0 z0 W w0).mono fun e W' ⟨he, bel⟩ => ?_
 subst he
 exact ⟨_, rfl, _, _, _, [], _, [], hW', trodAll_mk1 (shut_bool Tryz.underlying4 _), (trodAll_cons_mk (Below.trod laidOut (by kernel_rfl) (of_decide_eq_true (by kernel_rfl)) k0 bel lt0) trodAll_mk0), rfl, bel.frame _, fun h => by cases h⟩

theorem over : Rows.fnSerialRow.holds Tryz.pinned (OpenSpec.ofChange Rows.fnSerialSpec) :=
 OpenClaim.holds_of_wide 3 Tryz.f3 rfl rfl rfl rfl rfl rfl rfl ⟨rfl, rfl, rfl, rfl, rfl⟩ rfl rfl rfl rfl rfl (by kernel_rfl) Tryz.func3 (by kernel_rfl)
  (of_decide_eq_true (by kernel_rfl)) (by unfold Func.isWrapper; first | (rw [if_pos (by decide +kernel)]; kernel_rfl) | (rw [if_neg (by decide +kernel)]; exact ⟨rfl, rfl⟩))
  (fun os started H enc _ => lifted os started H enc)

end Go.Proofs.YtdnjgbckkmbmfaaGreat.fnSerialFrame
namespace Go.Proofs.YtdnjgbckkmbmfaaGreat
theorem fnSerial_proved : Rows.FnSerialSaid := fnSerialFrame.over
#print axioms fnSerial_proved
end Go.Proofs.YtdnjgbckkmbmfaaGreat
