/-
  PuB, PuC, LgD, LgE, LgF, LgG, LgI, StA, LgH, LgJ, LkE, FvA, LgP, FsA, SzV, SeU, SeT, VvT in one.
-/
import Derived.Test.YtdnjgbckkmbmfaaGreatFsAll3
import Derived.Defers
import Derived.Deep.WholeRow
set_option maxRecDepth 100000
namespace Go.Proofs.YtdnjgbckkmbmfaaGreat
open Go.RowKit Go.Maps Go.Sort

theorem hisr_perm {w : World} {m N : Nat} {f : ByteArray → Value} {ds : List VerD} (h : HisRd w m N f ds) (ok : okVs ds = true) :
  ∃ D : DataW Value, w.ownsMap Tryz.prog 9 hmElem m N D ∧ (dkB ds).Perm (strKeys D) := by
 obtain ⟨D, h1, _, h3⟩ := h.map
 refine ⟨D, h1, Collected.perm (left := fun _ => false) ⟨dkB_nodup ok, fun x => ?_⟩ h1 (string_keyed Tryz.underlying9) Tryz.underlying9 (fun _ => rfl)⟩
 have hk : ∀ k : ByteArray, f k ≠ .slice none 0 0 ↔ ∃ i, ∃ h : i < ds.length, ds[i].k = k := fun k => by
  rw [← grp_ne]
  constructor
  ·intro h1 h2
   exact h1 (h.no k h2)
  ·intro h1 h2
   obtain ⟨a, c, e, _⟩ := h.row k
   rw [h2] at e
   injection e with _ e _
   exact h1 (List.eq_nil_of_length_eq_zero e.symm)
 constructor
 ·intro hx
  obtain ⟨i, hi, rfl⟩ := (dkB_mem x).1 hx
  refine ⟨(h3 ds[i].k ?_).2 ((hk _).2 ⟨i, hi, rfl⟩), rfl⟩
  have := verK_small (okVs_ver ok hi)
  unfold maxLen
  omega
 ·rintro ⟨hx, _⟩
  have hl : x.length ≤ maxLen := by
   obtain ⟨es, rfl, hko⟩ := h1.keysOf
   rw [has_eq, List.any_eq_true] at hx
   obtain ⟨p, hp, hs⟩ := hx
   obtain ⟨v, hv⟩ := hko p hp
   obtain ⟨y, _, hy, hl⟩ := Maps.keyOf_str Tryz.underlying9 hv
   rw [hy] at hs
   have : y = x := by simpa [Lit.sameKey] using hs
   rw [← this]
   exact hl
  have e := (h3 ⟨x.toArray⟩ (by show x.toArray.size ≤ _; simpa using hl)).1 (by simpa using hx)
  obtain ⟨i, hi, e⟩ := (hk _).1 e
  exact (dkB_mem x).2 ⟨i, hi, by rw [e]⟩
set_option maxHeartbeats 4000000 in
theorem keysR_any (m N : Nat) (f : ByteArray → Value) (ds : List VerD) (w : World) (hH : HisRd w m N f ds) (ok : okVs ds = true) (hN : N ≤ 100000) :
  Calls Tryz.prog 109 #[.map (some m)] w fun e w' => ∃ v, e = .returned v ∧ StrOwns w' w.heap.size v (dkeys ds) ∧ Below w.heap.size w w' := by
 obtain ⟨D, h1, hp⟩ := hisr_perm hH ok
 have hsz := h1.size_le
 have KS := hide (fun mb W => callsIn_wide.1 (Tryz.maps_Keys_134 mb W))
 have SO := hide (callsIn_wide.1 (Tryz.slices_Sorted_keys_133_134 m N D hmElem w h1 (by unfold maxLen; omega) (by omega)))
 have FIN := hide (show ∀ (ss : List (List UInt8)), ss.Perm (strKeys D) → ss.length = (dkeys ds).length ∧ (ss.mergeSort (fun x y => decide (x ≤ y))).map encStr = (dkeys ds).map Value.string from fun ss h => by
  have h2 := h.trans hp.symm
  exact ⟨by rw [h2.length_eq]; simp [dkB], by rw [dkB_sort ok h2, enc_map]⟩)
 have bA : Below w.heap.size w (w.alloc (.cells #[.map (some m)] 94)) := (Below.refl _ _).alloc (Nat.le_refl _) _
 clear hH h1 hp
 go_enter Tryz.func109, Tryz.ntmps109
 go_wp2_with fail
 refine (unhide KS _ _).mono ?_
 rintro e w' ⟨rfl, hw⟩
 subst w'
 go_wp2_with fail
 refine (unhide SO).mono ?_
 rintro e w' ⟨v, ss, rfl, hS, hrow, hnil, hb⟩
 obtain ⟨e1, e2⟩ := unhide FIN ss hS
 rw [e1, e2] at hrow
 have hO := hide (strowns_mono hrow bA.size)
 have hB := hide (bA.trans (hb.mono bA.size))
 clear hrow hb hnil e1 e2 FIN SO KS bA
 go_wp2_with fail
 go_ret
 exact ⟨v, rfl, unhide hO, unhide hB⟩
theorem pu_wpApp {P : Program} {ops : Array Oper} {rest : List Oper} {o : Oper} {a : Act} {w : World} {Q : Exit → Act → World → Prop}
  (hg : o.guard = none) (s x : Operand) (t : TypeId) (hop : o.op = Op.call { callee := Callee.builtin Builtin.append, args := #[s, x], argTypes := #[t, t] })
  (vs vx v' : Value) (w' : World) (hs : a.eval s = vs) (hx : a.eval x = vx) (hrun : (Builtin.append_ #[t, t] o.type #[vs, vx]).run P w = .ok v' w') (h : wpList P ops Q rest (a.put o.dst v') w') :
  wpList P ops Q (o :: rest) a w :=
 wpList_plain hg fun _ hK => by
  unfold Oper.wp
  simp [execOp, hop, resolve, invoke, builtin, hs, hx, hrun, Result.andThen]
  exact hK _ _ h
theorem v_appN {w : World} {B : Nat} {v : Value} {ds es : List VerD} {A : Addr} {m c : Nat} (ty : TypeId) (ho : VOwns w B v ds) (hr : VRow w (some A) m es) (hm : 0 < m) (hz : ds.length + m ≤ 2000000) (hB : B ≤ w.heap.size) :
  ∃ v' w', (Builtin.append_ #[25, 25] ty #[v, .slice (some A) m c]).run Tryz.prog w = .ok v' w' ∧ VOwns w' B v' (ds ++ es) ∧ w.grownBy w' v.ownBlock := by
 obtain ⟨i0, hi0, hz0, hz1, hz2⟩ := info_parts Tryz.infoVersion
 obtain ⟨v', w', hrun, ho', hg, -, -⟩ := app_at (P := Tryz.prog) (w := w) (B := B) 25 ty 43 Tryz.underlying25 hi0 hz0 hz1 hz2 rfl (by decide) ho A m c (vcs es) (by rw [vcs_len, hr.1]) (vrow_src hr) (vcs_one _) (by unfold maxLen; omega) (by omega) hB (fun _ => hm)
 refine ⟨v', w', hrun, ?_, hg⟩
 unfold VOwns
 rw [List.length_append, vcs_append, hr.1]
 exact ho'
set_option maxHeartbeats 4000000 in
theorem listR_any (m N : Nat) (f : ByteArray → Value) (ds : List VerD) (w : World) (hH : HisRd w m N f ds) (ok : okVs ds = true) (hN : N ≤ 100000) (hds : ds.length ≤ 100000) :
  Calls Tryz.prog 74 #[.map (some m)] w fun e w' => ∃ v, e = .returned v ∧ VOwns w' w.heap.size v ds ∧ Below w.heap.size w w' := by
 have KS := hide (keysR_any m N f ds w hH ok hN)
 have HB := hide (fun (u : World) (hb : Below w.heap.size w u) => hH.below hb)
 have FL := hide (list_flat ok)
 have KM := hide (show ∀ k ∈ dkeys ds, grp ds k ≠ [] ∧ k.size ≤ maxLen from fun k hk => by
  obtain ⟨x, hx, e⟩ := dkeys_mem.1 hk
  refine ⟨fun e2 => ?_, ?_⟩
  ·have := grp_mem.2 ⟨hx, e⟩
   rw [e2] at this
   exact absurd this List.not_mem_nil
  ·have := verK_small (((okVs_iff ds).1 ok).1 x hx)
   rw [← e]
   unfold maxLen
   omega)
 have LE := hide (show ∀ j, (((dkeys ds).take j).flatMap (grp ds)).length ≤ ds.length ∧ ∀ h : j < (dkeys ds).length, (((dkeys ds).take j).flatMap (grp ds)).length + (grp ds (dkeys ds)[j]).length ≤ ds.length from fun j => by
  have h1 := congrArg List.length (list_flat ok)
  rw [← List.take_append_drop j (dkeys ds), List.flatMap_append, List.length_append] at h1
  refine ⟨by omega, fun h => ?_⟩
  rw [List.drop_eq_getElem_cons h, List.flatMap_cons, List.length_append] at h1
  omega)
 clear hH
 go_enter Tryz.func74, Tryz.ntmps74
 go_wp2_with fail
 refine (unhide KS).mono ?_
 rintro e w1 ⟨kv, rfl, hO, hb1⟩
 obtain ⟨ka, kc, rfl, hr⟩ := strrow_of_owns hO
 have hkl : (dkeys ds).length ≤ 100000 := by
  have := dkTo_len ds ds.length
  unfold dkeys
  omega
 have R := hide hr
 have B1 := hide hb1
 have N0 := hide (show VOwns w1 w1.heap.size (.slice none 0 0) (((dkeys ds).take 0).flatMap (grp ds)) from World.ownsRow_nil _ _ _ _)
 clear hO hr hb1 KS
 generalize dkeys ds = ks at *
 obtain ⟨n, hn⟩ : ∃ n, n = ks.length := ⟨_, rfl⟩
 have HN := hide hn
 rw [← hn] at hkl ⊢
 rw [← hn] at R
 clear hn
 go_wp2_with fail
 go_loopw [3, 9] (fun v iv wr => ∃ (j : Nat) (v0 : Value), v0 = v ∧ iv = .int .i64 (j : Int) ∧ j ≤ n ∧ Hid (VOwns wr w1.heap.size v0 ((ks.take j).flatMap (grp ds))) ∧ Hid (Below w1.heap.size w1 wr)) (fun _ iv _ => n - (intOf iv).toNat)
 case atStart => exact ⟨0, _, rfl, rfl, Nat.zero_le _, N0, hide (Below.refl _ _)⟩
 case round =>
  clear N0
  obtain ⟨j, v0, rfl, rfl, hj, hV, hB⟩ := hrel
  by_cases hlt : j < n
  case neg =>
   obtain rfl : j = n := by omega
   have RES := hide (show VOwns wr w.heap.size v0 ds by
    have h1 := unhide hV
    rw [List.take_of_length_le (by rw [unhide HN]; exact Nat.le_refl _), unhide FL] at h1
    exact gd_base h1 (unhide B1).size)
   have BE := hide ((unhide B1).trans ((unhide hB).mono (unhide B1).size))
   go_wp2_with fail
   go_ret
   exact ⟨_, rfl, unhide RES, unhide BE⟩
  have hj2 : j < ks.length := by rw [← unhide HN]; exact hlt
  have hjn : (j : Int) < (n : Int) := by omega
  obtain ⟨b, off, ea, d0⟩ := ((unhide R).below (unhide hB)).2 j hj2
  subst ea
  obtain ⟨hne, hks⟩ := unhide KM ks[j] (List.getElem_mem hj2)
  have HR := unhide HB wr ((unhide B1).trans ((unhide hB).mono (unhide B1).size))
  obtain ⟨a, c, e1, r1, -⟩ := HR.row ks[j]
  have hL0 : 0 < (grp ds ks[j]).length := by
   cases hg : grp ds ks[j] with
   | nil => exact absurd hg hne
   | cons x r => simp
  obtain ⟨b2, off2, ea2, -⟩ := r1.2 0 hL0
  subst ea2
  have LK := HR.map.lookup hks
  rw [e1] at LK
  have hle := (unhide LE j).2 hj2
  obtain ⟨v2, w2, hrun, ho2, hg2⟩ := v_appN (c := c) 25 (unhide hV) r1 hL0 (by omega) (unhide hB).size
  have V2 := hide (show VOwns w2 w1.heap.size v2 ((ks.take (j + 1)).flatMap (grp ds)) by
   rw [takeG_snoc ks j hj2, List.flatMap_append]
   simpa using ho2)
  have B2 := hide ((unhide hB).grown hg2 (unhide hB).size (fun k hk => ((unhide hV).lt k hk).1))
  clear HR r1 e1 ho2 hg2 hle hne hV
  generalize ks[j] = key at *
  generalize grp ds key = L at *
  go_wp2_with (first | (at_lookup; refine wpList_lookup_his _ rfl (.tmp 14) (.tmp 15) rfl m key _ rfl rfl LK ?_) | (at_builtin; refine pu_wpApp rfl (.tmp 13) (.tmp 16) 25 rfl _ _ v2 w2 rfl rfl hrun ?_))
  go_roundw
  case rel => exact ⟨j + 1, v2, rfl, by go_num, by omega, V2, B2⟩
  case measure => simp [intOf]; omega
end Go.Proofs.YtdnjgbckkmbmfaaGreat

namespace Go.Proofs.YtdnjgbckkmbmfaaGreat
open Go.RowKit

structure LdRd (w : World) (lb m N : Nat) (h : ByteArray → Value) (f s : Sl) (hs : List SeH) (d : VsD) : Prop where
 box : w.heap[lb]? = some (.cells #[.int .i64 d.next, .map (some m), .slice f.a f.n f.c, .slice s.a s.n s.c] 116 (0, 0))
 his : HisRd w m N h d.list
 fr : FRow w f.a f.n d.fen
 cf : Cap f
 sr : SeIn w (.slice s.a s.n s.c) s.n hs
 cs : s.a = none → s.c = 0
 cw : ∀ h ∈ hs, Cap h.s0
 ss : hs.map (·.X) = d.ses
theorem LdRd.below {w w' : World} {lb m N : Nat} {h : ByteArray → Value} {f s : Sl} {hs : List SeH} {d : VsD} (q : LdRd w lb m N h f s hs d) (hb : Below w.heap.size w w') : LdRd w' lb m N h f s hs d :=
 ⟨(hb.block lb (blk_lt q.box)).trans q.box, q.his.below hb, q.fr.below hb, q.cf, q.sr.below hb, q.cs, q.cw, q.ss⟩
def VnRes (d : VsD) (w : World) (e : Ending) (w' : World) : Prop := ∃ (l f s : Sl) (hs : List SeH), e = .returned (.agg (vzC d.next l f s)) ∧ VzOwn w' w.heap.size l f s hs d ∧ Below w.heap.size w w'
set_option maxHeartbeats 8000000 in
theorem versions_any (lb m N : Nat) (h : ByteArray → Value) (f s : Sl) (hs : List SeH) (d : VsD) (w : World) (hI : LdRd w lb m N h f s hs d) (ok : okVs d.list = true) (hN : N ≤ 100000) (hln : d.list.length ≤ 100000) (hf : f.n ≤ 1000000) (hsn : s.n ≤ 1000000) (hwn : ∀ h ∈ hs, h.s0.n ≤ 1000000) :
  Calls Tryz.prog 34 #[.pointer (some ⟨lb, 0, none⟩)] w (VnRes d w) := by
 obtain ⟨W, hW⟩ : ∃ W, W = w.alloc (.cells #[.int .i64 0, .slice none 0 0, .slice none 0 0, .slice none 0 0] 29) := ⟨_, rfl⟩
 have b1 : Below w.heap.size w W := by subst hW; exact (Below.refl _ _).alloc (Nat.le_refl _) _
 have kv : W.heap[w.heap.size]? = some (.cells #[.int .i64 0, .slice none 0 0, .slice none 0 0, .slice none 0 0] 29 (0, 0)) := by subst hW; exact heap_alloc_new _ _
 have hz0 : w.heap.size < W.heap.size := blk_lt kv
 have hz1 : lb < w.heap.size := blk_lt hI.box
 have SSD := hide hI.ss
 have SL := hide (fun (u : World) (hb : Below w.heap.size w u) => listR_any m N h d.list u (hI.below hb).his ok hN hln)
 have SF := hide (fun (ob : Nat) (u : World) (hb : Below w.heap.size w u) (hc : u.cell? ⟨ob, 0, none⟩ = some (.slice f.a f.n f.c)) => concatF1 ob f.a f.n f.c d.fen u hc (hI.below hb).fr hI.cf.2 (by omega))
 have SS := hide (fun (u : World) (hb : Below w.heap.size w u) => ownSessions_any s hs u (hI.below hb).sr hI.cs hI.cw (by omega) (fun x hx => by have := hwn x hx; omega))
 have box := hI.box
 obtain ⟨fa, fn, fc⟩ := f
 obtain ⟨sa, sn, sc⟩ := s
 simp only at hW kv SF SS box ⊢
 have SK := hide (show ∀ u, Below w.heap.size w u → (u.cell? ⟨lb, 0, none⟩ = some (.int .i64 d.next) ∧ u.cell? ⟨lb, 1, none⟩ = some (.map (some m)) ∧ u.cell? ⟨lb, 2, none⟩ = some (.slice fa fn fc) ∧ u.cell? ⟨lb, 3, none⟩ = some (.slice sa sn sc)) from fun u hu => ⟨(hu.cell (p := ⟨lb, 0, none⟩) hz1).trans (heap_at box 0).1, (hu.cell (p := ⟨lb, 1, none⟩) hz1).trans (heap_at box 1).1, (hu.cell (p := ⟨lb, 2, none⟩) hz1).trans (heap_at box 2).1, (hu.cell (p := ⟨lb, 3, none⟩) hz1).trans (heap_at box 3).1⟩)
 have B0 := hide b1.drew
 have K0 := hide (show W.drew.heap[w.heap.size]? = _ from kv)
 have Z0 := hide (show W.heap.size ≤ W.drew.heap.size from Nat.le_refl _)
 clear hI b1 kv box ok hN hln hf hsn hwn
 go_enter Tryz.func34, Tryz.ntmps34
 go_upto_region 1 with fail
 rw [← hW]
 clear hW
 refine wp_region_held_drew (S := (fun u => (u.cell? ⟨lb, 0, none⟩ = some (.int .i64 d.next) ∧ u.cell? ⟨lb, 1, none⟩ = some (.map (some m)) ∧ u.cell? ⟨lb, 2, none⟩ = some (.slice fa fn fc) ∧ u.cell? ⟨lb, 3, none⟩ = some (.slice sa sn sc)))) (by kernel_rfl) (unhide SK _ (unhide B0)) (fun hHeld => ?_)
 generalize W.drew = u0 at *
 refine tk 0 3 rfl rfl hHeld ?_
 simp only [Act.put, lA, lB, lC]
 refine tk 1 4 rfl rfl hHeld ?_
 simp only [Act.put, lA, lB, lC]
 refine tk 2 5 rfl rfl hHeld ?_
 simp only [Act.put, lA, lB, lC]
 refine tk 3 6 rfl rfl hHeld ?_
 simp only [Act.put, lA, lB, lC]
 refine tk 4 7 rfl rfl hHeld ?_
 simp only [Act.put, lA, lB, lC]
 refine tk 5 8 rfl rfl hHeld ?_
 simp only [Act.put, lA, lB, lC]
 refine tk 6 9 rfl rfl hHeld ?_
 simp only [Act.put, lA, lB, lC]
 refine tk 7 10 rfl rfl hHeld ?_
 simp only [Act.put, lA, lB, lC]
 refine tk 9 12 rfl rfl hHeld ?_
 simp only [Act.put, lA, lB, lC]
 refine tk 10 13 rfl rfl hHeld ?_
 simp only [Act.put, lA, lB, lC]
 refine tk 11 14 rfl rfl hHeld ?_
 simp only [Act.put, lA, lB, lC]
 refine tk 12 15 rfl rfl hHeld ?_
 simp only [Act.put, lA, lB, lC]
 refine tk 15 18 rfl rfl hHeld ?_
 simp only [Act.put, lA, lB, lC]
 refine tk 16 19 rfl rfl hHeld ?_
 simp only [Act.put, lA, lB, lC]
 refine tk 17 20 rfl rfl hHeld ?_
 simp only [Act.put, lA, lB, lC]
 refine tk 18 21 rfl rfl hHeld ?_
 simp only [Act.put, lA, lB, lC]
 refine wpAnyH_ready (rs := [8, 13]) (by kernel_rfl) (by simp) ?_
 refine AllReadyH.cons rfl (fun K hK => ?_) (AllReadyH.cons rfl (fun K hK => ?_) AllReadyH.nil)
 ·go_simp
  refine (unhide SL _ (unhide B0)).mono ?_
  rintro e u8 ⟨v4, rfl, oL, hb4⟩
  obtain ⟨⟨la4, ln4, lc4⟩, rfl, -⟩ := v_slice oL
  have OL := hide (gd_base oL (unhide Z0))
  have B8 := hide ((unhide B0).trans (hb4.mono (unhide B0).size))
  have K8 := hide ((hb4.block w.heap.size (blk_lt (unhide K0))).trans (unhide K0))
  have Z8 := hide (Nat.le_trans (unhide Z0) hb4.size)
  clear oL hb4
  refine hK.out _ _ (unhide SK _ (unhide B8)) (fun hHeld => ?_)
  clear hK K
  refine rd [13] (.cons rfl (fun K hK => ?_) .nil)
  have bA7 : Below u8.heap.size u8 (u8.alloc (.cells #[.slice fa fn fc] 26)) := (Below.refl _ _).alloc (Nat.le_refl _) _
  have C7 := hide (show (u8.alloc (.cells #[.slice fa fn fc] 26)).cell? ⟨u8.heap.size, 0, none⟩ = some (.slice fa fn fc) from (heap_at (heap_alloc_new _ _) 0).1)
  have B8_13 := hide ((unhide B8).trans (bA7.mono (unhide B8).size))
  have K8_13 := hide ((bA7.block w.heap.size (blk_lt (unhide K8))).trans (unhide K8))
  have Z8_13 := hide (Nat.le_trans (unhide Z8) bA7.size)
  have OL7 := hide (rb_ownsRow_below (unhide OL) bA7)
  go_simp
  generalize u8.alloc (.cells #[.slice fa fn fc] 26) = u8_13 at *
  generalize hq7 : u8.heap.size = o7 at *
  clear bA7
  refine hK.out _ _ (unhide SK _ (unhide B8_13)) (fun hHeld => ?_)
  clear hK K
  refine rd [14] (.cons rfl (fun K hK => ?_) .nil)
  go_simp
  refine (unhide SF _ _ (unhide B8_13) (unhide C7)).mono ?_
  rintro e u8_13_14 ⟨v8, rfl, oF, hb8⟩
  obtain ⟨⟨fa8, fn8, fc8⟩, rfl, -⟩ := v_slice oF
  have OF := hide (gd_base oF (unhide Z8_13))
  have OL8 := hide (rb_ownsRow_below (unhide OL7) hb8)
  have B8_13_14 := hide ((unhide B8_13).trans (hb8.mono (unhide B8_13).size))
  have K8_13_14 := hide ((hb8.block w.heap.size (blk_lt (unhide K8_13))).trans (unhide K8_13))
  have Z8_13_14 := hide (Nat.le_trans (unhide Z8_13) hb8.size)
  clear oF hb8
  refine hK.out _ _ (unhide SK _ (unhide B8_13_14)) (fun hHeld => ?_)
  clear hK K
  refine rd [19] (.cons rfl (fun K hK => ?_) .nil)
  go_simp
  refine (unhide SS _ (unhide B8_13_14)).mono ?_
  rintro e u8_13_14_19 ⟨⟨sa1, sn1, sc1⟩, hs1, rfl, oS, hX, hb11⟩
  have VZ := hide (show VzOwn u8_13_14_19 W.heap.size ⟨la4, ln4, lc4⟩ ⟨fa8, fn8, fc8⟩ ⟨sa1, sn1, sc1⟩ hs1 d from ⟨rb_ownsRow_below (unhide OL8) hb11, rb_ownsRow_below (unhide OF) hb11, oS.down (unhide Z8_13_14), hX.trans (unhide SSD), fun i hi hn => Nat.lt_irrefl _ (Nat.lt_of_lt_of_le ((unhide OL8).lt i hi).2 (oS.lt i hn).1)⟩)
  have B8_13_14_19 := hide ((unhide B8_13_14).trans (hb11.mono (unhide B8_13_14).size))
  have K8_13_14_19 := hide ((hb11.block w.heap.size (blk_lt (unhide K8_13_14))).trans (unhide K8_13_14))
  have Z8_13_14_19 := hide (Nat.le_trans (unhide Z8_13_14) hb11.size)
  clear oS hX hb11
  refine hK.out _ _ (unhide SK _ (unhide B8_13_14_19)) (fun hHeld => ?_)
  clear hK K
  refine tk 20 23 rfl rfl hHeld ?_
  simp only [Act.put, lA, lB, lC]
  refine rd [21] (.cons rfl (fun K hK => ?_) .nil)
  have RES := hide (((unhide VZ).sv (b := w.heap.size) hz0 (.int .i64 d.next) (.slice la4 ln4 lc4) (.slice fa8 fn8 fc8) (.slice sa1 sn1 sc1)).dn (Nat.le_of_lt hz0))
  have BE := hide (bel_sv4 (unhide B8_13_14_19) (Nat.le_refl _) (.int .i64 d.next) (.slice la4 ln4 lc4) (.slice fa8 fn8 fc8) (.slice sa1 sn1 sc1))
  have KE := hide (sv4_heap (unhide K8_13_14_19) (.int .i64 d.next) (.slice la4 ln4 lc4) (.slice fa8 fn8 fc8) (.slice sa1 sn1 sc1))
  have y0 := (heap_at (unhide K8_13_14_19) 0).1
  have y1 := (heap_at (unhide K8_13_14_19) 1).1
  have y2 := (heap_at (unhide K8_13_14_19) 2).1
  have y3 := (heap_at (unhide K8_13_14_19) 3).1
  simp only [List.getElem?_toArray, List.getElem?_cons_zero, List.getElem?_cons_succ] at y0 y1 y2 y3
  have f0 := (heap_at (unhide K8_13_14_19) 0).2
  have f1 := (heap_at (unhide K8_13_14_19) 1).2
  have f2 := (heap_at (unhide K8_13_14_19) 2).2
  have f3 := (heap_at (unhide K8_13_14_19) 3).2
  unfold sv4 at RES BE KE
  go_simp
  clear y0 y1 y2 y3 f0 f1 f2 f3
  refine hK.out _ _ (unhide SK _ (unhide BE)) (fun hHeld => ?_)
  clear hK K
  refine wpAnyH_done (by kernel_rfl) ?_ _
  clear hHeld SK SL SF SS
  generalize (((u8_13_14_19.setCell ⟨w.heap.size, 0, none⟩ (.int .i64 d.next)).setCell ⟨w.heap.size, 1, none⟩ (.slice la4 ln4 lc4)).setCell ⟨w.heap.size, 2, none⟩ (.slice fa8 fn8 fc8)).setCell ⟨w.heap.size, 3, none⟩ (.slice sa1 sn1 sc1) = uE at *
  have x0 := (heap_at (unhide KE) 0).1
  have x1 := (heap_at (unhide KE) 1).1
  have x2 := (heap_at (unhide KE) 2).1
  have x3 := (heap_at (unhide KE) 3).1
  simp only [List.getElem?_toArray, List.getElem?_cons_zero, List.getElem?_cons_succ] at x0 x1 x2 x3
  go_wp2_with fail
  refine bodyPost_ret (v := .agg #[.int .i64 d.next, .slice la4 ln4 lc4, .slice fa8 fn8 fc8, .slice sa1 sn1 sc1]) (by simp [results, Tryz.results34, go_sem, *]) rfl ?_
  exact ⟨⟨la4, ln4, lc4⟩, ⟨fa8, fn8, fc8⟩, ⟨sa1, sn1, sc1⟩, hs1, rfl, unhide RES, unhide BE⟩
 ·have bA7 : Below u0.heap.size u0 (u0.alloc (.cells #[.slice fa fn fc] 26)) := (Below.refl _ _).alloc (Nat.le_refl _) _
  have C7 := hide (show (u0.alloc (.cells #[.slice fa fn fc] 26)).cell? ⟨u0.heap.size, 0, none⟩ = some (.slice fa fn fc) from (heap_at (heap_alloc_new _ _) 0).1)
  have B13 := hide ((unhide B0).trans (bA7.mono (unhide B0).size))
  have K13 := hide ((bA7.block w.heap.size (blk_lt (unhide K0))).trans (unhide K0))
  have Z13 := hide (Nat.le_trans (unhide Z0) bA7.size)
  go_simp
  generalize u0.alloc (.cells #[.slice fa fn fc] 26) = u13 at *
  generalize hq7 : u0.heap.size = o7 at *
  clear bA7
  refine hK.out _ _ (unhide SK _ (unhide B13)) (fun hHeld => ?_)
  clear hK K
  refine rd [8] (.cons rfl (fun K hK => ?_) .nil)
  go_simp
  refine (unhide SL _ (unhide B13)).mono ?_
  rintro e u13_8 ⟨v4, rfl, oL, hb4⟩
  obtain ⟨⟨la4, ln4, lc4⟩, rfl, -⟩ := v_slice oL
  have OL := hide (gd_base oL (unhide Z13))
  have B13_8 := hide ((unhide B13).trans (hb4.mono (unhide B13).size))
  have K13_8 := hide ((hb4.block w.heap.size (blk_lt (unhide K13))).trans (unhide K13))
  have Z13_8 := hide (Nat.le_trans (unhide Z13) hb4.size)
  have C8 := hide ((hb4.cell (p := ⟨o7, 0, none⟩) (cell_lt (unhide C7))).trans (unhide C7))
  clear oL hb4
  refine hK.out _ _ (unhide SK _ (unhide B13_8)) (fun hHeld => ?_)
  clear hK K
  refine rd [14] (.cons rfl (fun K hK => ?_) .nil)
  go_simp
  refine (unhide SF _ _ (unhide B13_8) (unhide C8)).mono ?_
  rintro e u13_8_14 ⟨v8, rfl, oF, hb8⟩
  obtain ⟨⟨fa8, fn8, fc8⟩, rfl, -⟩ := v_slice oF
  have OF := hide (gd_base oF (unhide Z13_8))
  have OL8 := hide (rb_ownsRow_below (unhide OL) hb8)
  have B13_8_14 := hide ((unhide B13_8).trans (hb8.mono (unhide B13_8).size))
  have K13_8_14 := hide ((hb8.block w.heap.size (blk_lt (unhide K13_8))).trans (unhide K13_8))
  have Z13_8_14 := hide (Nat.le_trans (unhide Z13_8) hb8.size)
  clear oF hb8
  refine hK.out _ _ (unhide SK _ (unhide B13_8_14)) (fun hHeld => ?_)
  clear hK K
  refine rd [19] (.cons rfl (fun K hK => ?_) .nil)
  go_simp
  refine (unhide SS _ (unhide B13_8_14)).mono ?_
  rintro e u13_8_14_19 ⟨⟨sa1, sn1, sc1⟩, hs1, rfl, oS, hX, hb11⟩
  have VZ := hide (show VzOwn u13_8_14_19 W.heap.size ⟨la4, ln4, lc4⟩ ⟨fa8, fn8, fc8⟩ ⟨sa1, sn1, sc1⟩ hs1 d from ⟨rb_ownsRow_below (unhide OL8) hb11, rb_ownsRow_below (unhide OF) hb11, oS.down (unhide Z13_8_14), hX.trans (unhide SSD), fun i hi hn => Nat.lt_irrefl _ (Nat.lt_of_lt_of_le ((unhide OL8).lt i hi).2 (oS.lt i hn).1)⟩)
  have B13_8_14_19 := hide ((unhide B13_8_14).trans (hb11.mono (unhide B13_8_14).size))
  have K13_8_14_19 := hide ((hb11.block w.heap.size (blk_lt (unhide K13_8_14))).trans (unhide K13_8_14))
  have Z13_8_14_19 := hide (Nat.le_trans (unhide Z13_8_14) hb11.size)
  clear oS hX hb11
  refine hK.out _ _ (unhide SK _ (unhide B13_8_14_19)) (fun hHeld => ?_)
  clear hK K
  refine tk 20 23 rfl rfl hHeld ?_
  simp only [Act.put, lA, lB, lC]
  refine rd [21] (.cons rfl (fun K hK => ?_) .nil)
  have RES := hide (((unhide VZ).sv (b := w.heap.size) hz0 (.int .i64 d.next) (.slice la4 ln4 lc4) (.slice fa8 fn8 fc8) (.slice sa1 sn1 sc1)).dn (Nat.le_of_lt hz0))
  have BE := hide (bel_sv4 (unhide B13_8_14_19) (Nat.le_refl _) (.int .i64 d.next) (.slice la4 ln4 lc4) (.slice fa8 fn8 fc8) (.slice sa1 sn1 sc1))
  have KE := hide (sv4_heap (unhide K13_8_14_19) (.int .i64 d.next) (.slice la4 ln4 lc4) (.slice fa8 fn8 fc8) (.slice sa1 sn1 sc1))
  have y0 := (heap_at (unhide K13_8_14_19) 0).1
  have y1 := (heap_at (unhide K13_8_14_19) 1).1
  have y2 := (heap_at (unhide K13_8_14_19) 2).1
  have y3 := (heap_at (unhide K13_8_14_19) 3).1
  simp only [List.getElem?_toArray, List.getElem?_cons_zero, List.getElem?_cons_succ] at y0 y1 y2 y3
  have f0 := (heap_at (unhide K13_8_14_19) 0).2
  have f1 := (heap_at (unhide K13_8_14_19) 1).2
  have f2 := (heap_at (unhide K13_8_14_19) 2).2
  have f3 := (heap_at (unhide K13_8_14_19) 3).2
  unfold sv4 at RES BE KE
  go_simp
  clear y0 y1 y2 y3 f0 f1 f2 f3
  refine hK.out _ _ (unhide SK _ (unhide BE)) (fun hHeld => ?_)
  clear hK K
  refine wpAnyH_done (by kernel_rfl) ?_ _
  clear hHeld SK SL SF SS
  generalize (((u13_8_14_19.setCell ⟨w.heap.size, 0, none⟩ (.int .i64 d.next)).setCell ⟨w.heap.size, 1, none⟩ (.slice la4 ln4 lc4)).setCell ⟨w.heap.size, 2, none⟩ (.slice fa8 fn8 fc8)).setCell ⟨w.heap.size, 3, none⟩ (.slice sa1 sn1 sc1) = uE at *
  have x0 := (heap_at (unhide KE) 0).1
  have x1 := (heap_at (unhide KE) 1).1
  have x2 := (heap_at (unhide KE) 2).1
  have x3 := (heap_at (unhide KE) 3).1
  simp only [List.getElem?_toArray, List.getElem?_cons_zero, List.getElem?_cons_succ] at x0 x1 x2 x3
  go_wp2_with fail
  refine bodyPost_ret (v := .agg #[.int .i64 d.next, .slice la4 ln4 lc4, .slice fa8 fn8 fc8, .slice sa1 sn1 sc1]) (by simp [results, Tryz.results34, go_sem, *]) rfl ?_
  exact ⟨⟨la4, ln4, lc4⟩, ⟨fa8, fn8, fc8⟩, ⟨sa1, sn1, sc1⟩, hs1, rfl, unhide RES, unhide BE⟩
end Go.Proofs.YtdnjgbckkmbmfaaGreat

namespace Go.Proofs.YtdnjgbckkmbmfaaGreat
open Go.RowKit Go.Maps

def fenX (x : VerD) (f : FenD) : Bool := decide (x.t < f.t) && inK f.f f.u x.k
set_option maxHeartbeats 1000000 in
theorem lateF_any (bx : Nat) (x : VerD) (y : FenD) (w : World) (h : w.heap[bx]? = some (.cells #[.string x.k, .int .i64 x.t, .string x.v, .bool x.g] 43 (0, 0))) :
  Calls Tryz.prog 163 #[fv y, .pointer (some ⟨bx, 0, none⟩)] w fun e w' => e = .returned (.bool (fenX x y)) ∧ Below w.heap.size w w' := by
 obtain ⟨W, hW⟩ : ∃ W, W = w.alloc (.cells #[.string y.f, .string y.u, .int .i64 y.t] 85) := ⟨_, rfl⟩
 have bW : Below w.heap.size w W := by rw [hW]; exact (Below.refl _ _).alloc (Nat.le_refl _) _
 have kb := (bW.block bx (blk_lt h)).trans h
 have c0 := (heap_at kb 0).1
 have c1 := (heap_at kb 1).1
 have C := hide (within_any x.k y.f y.u W)
 rw [hW] at c0 c1
 clear h kb
 unfold fv
 by_cases hl : x.t < y.t
 ·have E := hide (show fenX x y = inK y.f y.u x.k by unfold fenX; rw [decide_eq_true hl, Bool.true_and])
  go_enter Tryz.func163, Tryz.ntmps163
  go_wp2_with fail
  rw [← hW]
  clear hW c0 c1
  refine (unhide C).mono ?_
  rintro e w1 ⟨rfl, hw⟩
  subst w1
  go_wp2_with fail
  go_ret
  exact ⟨ret_bool (unhide E).symm, bW⟩
 ·have E := hide (show fenX x y = false by unfold fenX; rw [decide_eq_false hl, Bool.false_and])
  have hl2 : decide (x.t < y.t) = false := decide_eq_false hl
  clear C
  go_enter Tryz.func163, Tryz.ntmps163
  go_wp2_with fail
  go_ret
  exact ⟨ret_bool (unhide E).symm, by rw [← hW]; exact bW⟩
set_option maxHeartbeats 4000000 in
theorem indexX_any (bx : Nat) (x : VerD) (a : Option Addr) (n c : Nat) (ds : List FenD) (w : World) (hn : n ≤ 1048576) (hr : FRow w a n ds) (h : w.heap[bx]? = some (.cells #[.string x.k, .int .i64 x.t, .string x.v, .bool x.g] 43 (0, 0))) :
  Calls Tryz.prog 173 #[.slice a n c, .func (.func 163) #[] #[.pointer (some ⟨bx, 0, none⟩)]] w fun e w' => ∃ r : Int, e = .returned (.int .i64 r) ∧ decide (0 ≤ r) = ds.any (fenX x) ∧ Below w.heap.size w w' := by
 have L := hide hr.1
 have R := hide hr
 have HB := hide h
 clear hr h
 go_enter Tryz.func173, Tryz.ntmps173
 go_wp2_with fail
 go_loopw [8] (fun i wr => ∃ k : Nat, k ≤ n ∧ i = .int .i64 k ∧ Hid (∀ i (h : i < ds.length), i < k → fenX x ds[i] = false) ∧ Below w.heap.size w wr) (fun i _ => n - (intOf i).toNat)
 case atStart => exact ⟨0, by omega, rfl, (fun i _ hi => absurd hi (Nat.not_lt_zero _)), Below.refl _ _⟩
 case round =>
  obtain ⟨k, hk, rfl, hok, hb⟩ := hrel
  by_cases hlt : k < n
  ·have hk2 : k < ds.length := by rw [unhide L]; exact hlt
   obtain ⟨b, off, rfl, d0, d1, d2⟩ := ((unhide R).below hb).2 k hk2
   have hsz := hb.size
   have C := hide (lateF_any bx x ds[k] wr ((hb.block bx (blk_lt (unhide HB))).trans (unhide HB)))
   have F := hide (show fenX x ds[k] = true → ds.any (fenX x) = true from fun h => List.any_eq_true.2 ⟨_, List.getElem_mem hk2, h⟩)
   have G := hide (show fenX x ds[k] = false → ∀ i (h : i < ds.length), i < k + 1 → fenX x ds[i] = false from fun h i hi hik => by
    by_cases e : i = k
    ·subst e; exact h
    ·exact unhide hok i hi (by omega))
   generalize ds[k] = pd at *
   obtain ⟨b, hbv⟩ : ∃ b, b = fenX x pd := ⟨_, rfl⟩
   rw [← hbv] at C F G
   clear hbv hok
   obtain ⟨pf, pu, pt⟩ := pd
   unfold fv at C
   simp only at d0 d1 d2 C
   cases b with
   | false =>
    have Z := hide (unhide G rfl)
    clear F G
    go_wp2_with fail
    refine (unhide C).mono ?_
    rintro e w1 ⟨rfl, hb1⟩
    have bA : Below w.heap.size w w1 := hb.trans (hb1.mono hsz)
    clear hb hb1 d0 d1 d2 C
    go_wp2_with fail
    go_roundw
    case rel => exact ⟨k + 1, by omega, by go_num, unhide Z, bA⟩
    case measure => simp [intOf]; omega
   | true =>
    have Z := hide (unhide F rfl)
    clear F G
    go_wp2_with fail
    refine (unhide C).mono ?_
    rintro e w1 ⟨rfl, hb1⟩
    have bA : Below w.heap.size w w1 := hb.trans (hb1.mono hsz)
    clear hb hb1 d0 d1 d2 C
    go_wp2_with fail
    go_ret
    exact ⟨k, rfl, by rw [unhide Z]; simp, bA⟩
  ·obtain rfl : k = n := by omega
   have Z := hide (show ds.any (fenX x) = false from List.any_eq_false.2 fun y hy => by
    obtain ⟨i, hi, rfl⟩ := List.getElem_of_mem hy
    rw [unhide hok i hi (by have := unhide L; omega)]
    decide)
   go_wp2_with fail
   go_ret
   exact ⟨-1, rfl, by rw [unhide Z]; simp, hb⟩
set_option maxHeartbeats 1000000 in
theorem containsX_any (bx : Nat) (x : VerD) (a : Option Addr) (n c : Nat) (ds : List FenD) (w : World) (hn : n ≤ 1048576) (hr : FRow w a n ds) (h : w.heap[bx]? = some (.cells #[.string x.k, .int .i64 x.t, .string x.v, .bool x.g] 43 (0, 0))) :
  Calls Tryz.prog 162 #[.slice a n c, .func (.func 163) #[] #[.pointer (some ⟨bx, 0, none⟩)]] w fun e w' => e = .returned (.bool (ds.any (fenX x))) ∧ Below w.heap.size w w' := by
 have C := hide (indexX_any bx x a n c ds w hn hr h)
 clear hr h
 go_enter Tryz.func162, Tryz.ntmps162
 go_wp2_with fail
 refine (unhide C).mono ?_
 rintro e w1 ⟨r, rfl, hr, hb⟩
 have R := hide hr
 clear hr C
 go_wp2_with fail
 go_ret
 exact ⟨ret_bool (by rw [← unhide R]), hb⟩
theorem late_last {ds : List VerD} (ok : okVs ds = true) (x : VerD) : ds.any (fun y => decide (y.k = x.k) && decide (x.t < y.t)) = (match (grp ds x.k).getLast? with | some y => decide (x.t < y.t) | none => false) := by
 have hr := grp_rise ok x.k
 cases hl : (grp ds x.k).getLast? with
 | none =>
  have h0 : grp ds x.k = [] := List.getLast?_eq_none_iff.1 hl
  show ds.any _ = false
  rw [List.any_eq_false]
  intro y hy
  by_cases e : y.k = x.k
  ·have := grp_mem.2 ⟨hy, e⟩
   rw [h0] at this
   exact absurd this List.not_mem_nil
  ·simp [e]
 | some z =>
  show ds.any _ = decide (x.t < z.t)
  have hz := List.mem_of_getLast? hl
  obtain ⟨hz1, hz2⟩ := grp_mem.1 hz
  by_cases hx : x.t < z.t
  ·rw [decide_eq_true hx, List.any_eq_true]
   exact ⟨z, hz1, by simp [hz2, hx]⟩
  ·rw [decide_eq_false hx, List.any_eq_false]
   intro y hy
   by_cases e : y.k = x.k
   ·have hy2 := grp_mem.2 ⟨hy, e⟩
    have hle : y.t ≤ z.t := by
     obtain ⟨i, hi, rfl⟩ := List.getElem_of_mem hy2
     rw [List.getLast?_eq_getElem?] at hl
     obtain ⟨hj, hz3⟩ := List.getElem?_eq_some_iff.1 hl
     by_cases e2 : i = (grp ds x.k).length - 1
     ·subst e2; rw [hz3]; exact Int.le_refl _
     ·have := List.pairwise_iff_getElem.1 hr i ((grp ds x.k).length - 1) hi hj (by omega)
      rw [hz3] at this
      omega
    have : ¬ x.t < y.t := by omega
    simp [this]
   ·simp [e]
set_option maxHeartbeats 8000000 in
theorem tooLate_any (lb B m N : Nat) (h : ByteArray → Value) (f s : Sl) (hs : List SeH) (d : VsD) (x : VerD) (w : World) (q : LgAt w B lb m N h f s hs d) (ok : okVs d.list = true) (hx : x.k.size ≤ maxLen) (hf : d.fen.length ≤ 1000000) (hl : d.list.length ≤ 100000) :
  Calls Tryz.prog 143 #[.pointer (some ⟨lb, 0, none⟩), vv x] w fun e w' => e = .returned (.bool (conV d x)) ∧ Below w.heap.size w w' := by
 obtain ⟨W, hW⟩ : ∃ W, W = w.alloc (.cells #[.string x.k, .int .i64 x.t, .string x.v, .bool x.g] 43) := ⟨_, rfl⟩
 have bW : Below w.heap.size w W := by rw [hW]; exact (Below.refl _ _).alloc (Nat.le_refl _) _
 have kW : W.heap[w.heap.size]? = some (.cells #[.string x.k, .int .i64 x.t, .string x.v, .bool x.g] 43 (0, 0)) := by rw [hW]; exact heap_alloc_new _ _
 have qW := q.below bW
 have qD : LgAt W.drew B lb m N h f s hs d := qW.below (Below.refl _ _).drew
 have LKP := qD.his.map.lookup hx
 obtain ⟨a, c, ev⟩ := vowns_slice2 (qD.his.own x.k)
 have hro := qD.his.own x.k
 rw [ev] at LKP hro
 have RW := hide (vrow_of_owns hro)
 have KW := hide (show W.drew.heap[w.heap.size]? = _ from kW)
 have hgl := grp_len d.list x.k
 have l1 := (heap_at qW.box 1).1
 have l2 := (heap_at qW.box 2).1
 simp only [List.getElem?_toArray, List.getElem?_cons_zero, List.getElem?_cons_succ] at l1 l2
 have e0 := (heap_at kW 0).1
 have e1 := (heap_at kW 1).1
 have CF := hide (fun (u : World) (hu : Below W.heap.size W u) => containsX_any w.heap.size x f.a f.n f.c d.fen u (by have := q.len.2.2; omega) ((frow_of_owns qW.vz.fo).below hu) ((hu.block _ (blk_lt kW)).trans kW))
 have LL := hide (late_last ok x)
 have CV := hide (show conV d x = (d.list.any (fun y => decide (y.k = x.k) && decide (x.t < y.t)) || d.fen.any (fenX x)) from rfl)
 rw [unhide LL] at CV
 clear LL
 have hmf : ∀ (fn : Fn) (first cap : Array Value) (w : World), (Instr.makeFunc fn first cap).run Tryz.prog w = .ok (.func fn first cap) w := fun _ _ _ _ => rfl
 obtain ⟨xk, xt, xv, xg⟩ := x
 obtain ⟨fa, fn, fc⟩ := f
 unfold vv
 simp only at *
 have BW := hide bW
 have SK := hide (show (fun u : World => u.cell? ⟨lb, 1, none⟩ = some (.map (some m)) ∧ u.cell? ⟨w.heap.size, 0, none⟩ = some (.string xk)) W.drew from ⟨l1, e0⟩)
 clear q qW qD hro ev bW kW ok
 go_enter Tryz.func143, Tryz.ntmps143
 go_upto_region 1 with fail
 rw [← hW]
 clear hW
 refine wp_region_held_drew (S := (fun u : World => u.cell? ⟨lb, 1, none⟩ = some (.map (some m)) ∧ u.cell? ⟨w.heap.size, 0, none⟩ = some (.string xk))) (by kernel_rfl) (unhide SK) (fun hHeld => ?_)
 refine tk 0 7 rfl rfl hHeld ?_
 simp only [Act.put, lA, lB, lC]
 refine tk 1 8 rfl rfl hHeld ?_
 simp only [Act.put, lA, lB, lC]
 refine tk 2 9 rfl rfl hHeld ?_
 simp only [Act.put, lA, lB, lC]
 refine tk 3 10 rfl rfl hHeld ?_
 simp only [Act.put, lA, lB, lC]
 refine tk 4 11 rfl rfl hHeld ?_
 simp only [Act.put, lA, lB, lC]
 refine tk 5 12 rfl rfl hHeld ?_
 simp only [Act.put, lA, lB, lC]
 refine rd [6] (.cons rfl (fun K hK => ?_) .nil)
 refine hm_stepLook rfl (.tmp 10) (.tmp 12) 94 rfl _ _ _ (by first | rfl | (simp [Act.eval]; done) | (simp [Act.eval, Act.put]; done)) (by first | rfl | (simp [Act.eval]; done) | (simp [Act.eval, Act.put]; done)) LKP ?_
 refine hK.out _ _ (unhide SK) (fun hHeld => ?_)
 clear hK K
 simp only [Act.put, lA]
 refine tk 7 5 rfl rfl hHeld ?_
 simp only [Act.put]
 refine wpAnyH_done (by kernel_rfl) ?_ _
 clear hHeld SK LKP
 have q2 := (show W.drew.cell? ⟨lb, 2, none⟩ = some (.slice fa fn fc) from l2)
 have p1 := (show W.drew.cell? ⟨w.heap.size, 1, none⟩ = some (.int .i64 xt) from e1)
 have GB := hide (show Below W.heap.size W W.drew from (Below.refl _ _).drew)
 generalize W.drew = U at *
 clear l1 l2 e0 e1
 generalize grp d.list xk = L at *
 have ARM := hide (show ∀ u, Below W.heap.size W u → Calls Tryz.prog 162 #[.slice fa fn fc, .func (.func 163) #[] #[.pointer (some ⟨w.heap.size, 0, none⟩)]] u fun e w' => e = .returned (.bool (d.fen.any (fenX ⟨xk, xt, xv, xg⟩))) ∧ Below u.heap.size u w' from fun u hu => unhide CF u hu)
 by_cases h0 : 0 < L.length
 ·obtain ⟨b, off, ea, -, r1, -, -⟩ := (unhide RW).2 (L.length - 1) (by omega)
  subst ea
  have hlast : L.getLast? = some L[L.length - 1] := by rw [List.getLast?_eq_getElem?, List.getElem?_eq_getElem (by omega)]
  rw [hlast] at CV
  clear hlast
  have z0 : (0 : Int) < (L.length : Int) := by omega
  have z1 : IntKind.i64.wrap ((L.length : Int) - 1) = (L.length : Int) - 1 := by rw [IntKind.wrap_i64]; omega
  have z2 : (0 : Int) ≤ (L.length : Int) - 1 := by omega
  have z3 : (L.length : Int) - 1 < (L.length : Int) := by omega
  have z4 : ((L.length : Int) - 1).toNat = L.length - 1 := by omega
  simp only at CV
  generalize hlp : L[L.length - 1] = y at *
  generalize hyt : y.t = yt at *
  have hgd : decide ((0 : Int) < (L.length : Int)) = true := decide_eq_true z0
  cases hb : decide (xt < yt) with
  | true =>
   rw [hb, Bool.true_or] at CV
   have hlt : xt < yt := of_decide_eq_true hb
   go_wp2_with fail
   go_quiet (fail)
   go_wp2_with fail
   go_ret
   exact ⟨ret_bool (unhide CV).symm, (unhide BW).trans ((bel_drewN (unhide GB) _).mono (unhide BW).size)⟩
  | false =>
   rw [hb, Bool.false_or] at CV
   go_wp2_with fail
   go_quiet (fail)
   rename_i qn
   go_wp2_with fail
   refine (unhide ARM _ (bel_drewN (unhide GB) _)).mono ?_
   rintro e u2 ⟨rfl, hb2⟩
   go_wp2_with fail
   go_ret
   exact ⟨ret_bool (unhide CV).symm, (unhide BW).trans (((bel_drewN (unhide GB) _).trans (hb2.mono (bel_drewN (unhide GB) _).size)).mono (unhide BW).size)⟩
 ·have hL : L = [] := List.eq_nil_of_length_eq_zero (by omega)
  subst hL
  simp only [List.getLast?_nil, Bool.false_or] at CV
  go_wp2_with fail
  go_quiet (fail)
  go_wp2_with fail
  refine (unhide ARM _ (bel_drewN (unhide GB) _)).mono ?_
  rintro e u2 ⟨rfl, hb2⟩
  go_wp2_with fail
  go_ret
  exact ⟨ret_bool (unhide CV).symm, (unhide BW).trans (((bel_drewN (unhide GB) _).trans (hb2.mono (bel_drewN (unhide GB) _).size)).mono (unhide BW).size)⟩
set_option maxHeartbeats 4000000 in
theorem indexC_any (lb B m N : Nat) (h : ByteArray → Value) (f s : Sl) (hs : List SeH) (d : VsD) (a : Option Addr) (n c : Nat) (ds : List VerD) (w : World) (q : LgAt w B lb m N h f s hs d) (ok : okVs d.list = true) (hf : d.fen.length ≤ 1000000) (hl : d.list.length ≤ 100000) (hn : n ≤ 1048576) (hr : VRow w a n ds) (hx : ∀ x ∈ ds, x.k.size ≤ maxLen) :
  Calls Tryz.prog 84 #[.slice a n c, .func (.func 143) #[.pointer (some ⟨lb, 0, none⟩)] #[]] w fun e w' => ∃ r : Int, e = .returned (.int .i64 r) ∧ decide (0 ≤ r) = ds.any (conV d) ∧ Below w.heap.size w w' := by
 have L := hide hr.1
 have R := hide hr
 have QQ := hide (fun (u : World) (hu : Below w.heap.size w u) (x : VerD) (hx : x.k.size ≤ maxLen) => tooLate_any lb B m N h f s hs d x u (q.below hu) ok hx hf hl)
 have HX := hide hx
 clear hr q hx ok
 go_enter Tryz.func84, Tryz.ntmps84
 go_wp2_with fail
 go_loopw [8] (fun i wr => ∃ k : Nat, k ≤ n ∧ i = .int .i64 k ∧ Hid (∀ i (h : i < ds.length), i < k → conV d ds[i] = false) ∧ Below w.heap.size w wr) (fun i _ => n - (intOf i).toNat)
 case atStart => exact ⟨0, by omega, rfl, (fun i _ hi => absurd hi (Nat.not_lt_zero _)), Below.refl _ _⟩
 case round =>
  obtain ⟨k, hk, rfl, hok, hb⟩ := hrel
  by_cases hlt : k < n
  ·have hk2 : k < ds.length := by rw [unhide L]; exact hlt
   obtain ⟨b, off, rfl, d0, d1, d2, d3⟩ := ((unhide R).below hb).2 k hk2
   have hsz := hb.size
   have C := hide (unhide QQ wr hb ds[k] (unhide HX _ (List.getElem_mem hk2)))
   have F := hide (show conV d ds[k] = true → ds.any (conV d) = true from fun h => List.any_eq_true.2 ⟨_, List.getElem_mem hk2, h⟩)
   have G := hide (show conV d ds[k] = false → ∀ i (h : i < ds.length), i < k + 1 → conV d ds[i] = false from fun h i hi hik => by
    by_cases e : i = k
    ·subst e; exact h
    ·exact unhide hok i hi (by omega))
   generalize ds[k] = pd at *
   obtain ⟨b, hbv⟩ : ∃ b, b = conV d pd := ⟨_, rfl⟩
   rw [← hbv] at C F G
   clear hbv hok
   obtain ⟨pk, pt, pv, pg⟩ := pd
   unfold vv at C
   simp only at d0 d1 d2 d3 C
   cases b with
   | false =>
    have Z := hide (unhide G rfl)
    clear F G
    go_wp2_with fail
    refine (unhide C).mono ?_
    rintro e w1 ⟨rfl, hb1⟩
    have bA : Below w.heap.size w w1 := hb.trans (hb1.mono hsz)
    clear hb hb1 d0 d1 d2 d3 C
    go_wp2_with fail
    go_roundw
    case rel => exact ⟨k + 1, by omega, by go_num, unhide Z, bA⟩
    case measure => simp [intOf]; omega
   | true =>
    have Z := hide (unhide F rfl)
    clear F G
    go_wp2_with fail
    refine (unhide C).mono ?_
    rintro e w1 ⟨rfl, hb1⟩
    have bA : Below w.heap.size w w1 := hb.trans (hb1.mono hsz)
    clear hb hb1 d0 d1 d2 d3 C
    go_wp2_with fail
    go_ret
    exact ⟨k, rfl, by rw [unhide Z]; simp, bA⟩
  ·obtain rfl : k = n := by omega
   have Z := hide (show ds.any (conV d) = false from List.any_eq_false.2 fun y hy => by
    obtain ⟨i, hi, rfl⟩ := List.getElem_of_mem hy
    rw [unhide hok i hi (by have := unhide L; omega)]
    decide)
   go_wp2_with fail
   go_ret
   exact ⟨-1, rfl, by rw [unhide Z]; simp, hb⟩
set_option maxHeartbeats 1000000 in
theorem conflicts_any (lb B m N : Nat) (h : ByteArray → Value) (f s : Sl) (hs : List SeH) (d : VsD) (a : Option Addr) (n c : Nat) (ds : List VerD) (w : World) (q : LgAt w B lb m N h f s hs d) (ok : okVs d.list = true) (hf : d.fen.length ≤ 1000000) (hl : d.list.length ≤ 100000) (hn : n ≤ 1048576) (hr : VRow w a n ds) (hx : ∀ x ∈ ds, x.k.size ≤ maxLen) :
  Calls Tryz.prog 131 #[.pointer (some ⟨lb, 0, none⟩), .slice a n c] w fun e w' => e = .returned (.bool (ds.any (conV d))) ∧ Below w.heap.size w w' := by
 have C := hide (indexC_any lb B m N h f s hs d a n c ds w q ok hf hl hn hr hx)
 have hmf : ∀ (fn : Fn) (first cap : Array Value) (w : World), (Instr.makeFunc fn first cap).run Tryz.prog w = .ok (.func fn first cap) w := fun _ _ _ _ => rfl
 have C2 := hide (show Calls Tryz.prog 40 #[.slice a n c, .func (.func 143) #[.pointer (some ⟨lb, 0, none⟩)] #[]] w fun e w' => e = .returned (.bool (ds.any (conV d))) ∧ Below w.heap.size w w' by
  clear q hr hx hmf
  go_enter Tryz.func40, Tryz.ntmps40
  go_wp2_with fail
  refine (unhide C).mono ?_
  rintro e w1 ⟨r, rfl, hr, hb⟩
  have R := hide hr
  clear hr C
  go_wp2_with fail
  go_ret
  exact ⟨ret_bool (by rw [← unhide R]), hb⟩)
 clear C q hr hx
 go_enter Tryz.func131, Tryz.ntmps131
 go_wp2_with fail
 refine (unhide C2).mono ?_
 rintro e w1 ⟨rfl, hb⟩
 go_wp2_with fail
 go_ret
 exact ⟨rfl, hb⟩
end Go.Proofs.YtdnjgbckkmbmfaaGreat

namespace Go.Proofs.YtdnjgbckkmbmfaaGreat
open Go.RowKit Go.Maps

theorem grp_cons (e : VerD) (r : List VerD) (k : ByteArray) : grp (e :: r) k = if e.k = k then e :: grp r k else grp r k := by
 unfold grp
 by_cases h : e.k = k
 ·rw [if_pos h, List.filter_cons_of_pos (by simpa using h)]
 ·rw [if_neg h, List.filter_cons_of_neg (by simpa using h)]
theorem sameV_k {a b : VerD} (h : sameV a b = true) : a.k = b.k := by
 unfold sameV at h
 simp only [Bool.and_eq_true, decide_eq_true_eq] at h
 exact h.1
theorem grp_ins_other (x : VerD) {k : ByteArray} (hk : k ≠ x.k) : ∀ ds : List VerD, grp (insV ds x) k = grp ds k
 | [] => by
  show grp [x] k = grp [] k
  rw [grp_cons, if_neg (fun e => hk e.symm)]
 | e :: r => by
  rw [insV_cons]
  split
  ·rw [grp_cons, grp_cons, grp_ins_other x hk r]
  ·split
   ·rename_i hs
    rw [grp_cons, grp_cons, if_neg (fun e => hk e.symm), if_neg (fun e2 => hk (e2.symm.trans (sameV_k hs)))]
   ·rw [grp_cons, if_neg (fun e => hk e.symm)]
theorem grp_ins_same (x : VerD) : ∀ ds : List VerD, (ds.Pairwise fun a b => ltV a b = true) → grp (insV ds x) x.k = insV (grp ds x.k) x
 | [], _ => by
  show grp [x] x.k = insV [] x
  rw [grp_cons, if_pos rfl]
  rfl
 | e :: r, h => by
  obtain ⟨h1, h2⟩ := List.pairwise_cons.1 h
  have ih := grp_ins_same x r h2
  rw [insV_cons, grp_cons e r]
  by_cases he : e.k = x.k
  ·rw [if_pos he, insV_cons]
   split
   ·rw [grp_cons, if_pos he, ih]
   ·split
    ·rw [grp_cons, if_pos rfl]
    ·rw [grp_cons, if_pos rfl, grp_cons, if_pos he]
  ·rw [if_neg he]
   by_cases hl : ltV e x = true
   ·rw [if_pos hl, grp_cons, if_neg he, ih]
   ·rw [if_neg hl]
    have hs : ¬ sameV e x = true := fun hs => he (sameV_k hs)
    rw [if_neg hs, grp_cons, if_pos rfl, grp_cons, if_neg he]
    have h0 : grp r x.k = [] := by
     cases hg : grp r x.k with
     | nil => rfl
     | cons y s =>
      exfalso
      have hy : y ∈ grp r x.k := by rw [hg]; exact List.mem_cons_self ..
      obtain ⟨hy1, hy2⟩ := grp_mem.1 hy
      have hlt := h1 y hy1
      unfold ltV at hlt hl
      rw [hy2] at hlt
      simp only [Bool.or_eq_true, Bool.and_eq_true, decide_eq_true_eq] at hlt hl
      rcases hlt with h3 | h3
      ·exact hl (.inl h3)
      ·exact he h3.1
    rw [h0]
    rfl
theorem HisAt.ins {w w1 : World} {m N B : Nat} {f : ByteArray → Value} {ds : List VerD} (h : HisAt w m N B f ds) (ok : ds.Pairwise fun a b => ltV a b = true) (x : VerD) (hk : x.k.size ≤ maxLen) (hN : N < maxLen) {v' : Value} (o1 : VOwns w1 B v' (insV (grp ds x.k) x)) (hv : v' ≠ .slice none 0 0)
  (gr1 : w.grownBy w1 (f x.k).ownBlock) (loc : LocV w v' (f x.k).ownBlock) :
  ∃ w2, (Instr.mapUpdate 94 (.map (some m)) (.string x.k) v').run Tryz.prog w1 = .ok () w2 ∧ HisAt w2 m (N + 1) B (fun y => if y = x.k then v' else f y) (insV ds x) ∧ WrB (fun i => i = m ∨ (f x.k).ownBlock = some i) w w2 := by
 have hmw := h.map.lt
 have hmb := h.mb
 have hB : ∀ k g, (f k).ownBlock = some g → B ≤ g ∧ g < w.heap.size := fun k g e => (h.own k).lt g e
 have hA : ∀ i, i < w.heap.size → (f x.k).ownBlock ≠ some i → w1.heap[i]? = w.heap[i]? := fun i hi hne => gr1.block i hi (fun e => hne e.symm)
 have hM1 : HMap w1 m N f := h.map.block (hA m hmw (fun e => by have := (hB _ _ e).1; omega))
 obtain ⟨w2, hr2, hm2, gr2⟩ := hM1.update hk hN v' hv
 have hs1 : w.heap.size ≤ w1.heap.size := gr1.size
 have hA2 : ∀ i, i < w.heap.size → i ≠ m → (f x.k).ownBlock ≠ some i → w2.heap[i]? = w.heap[i]? := fun i hi hm' hne => (gr2.block i (Nat.lt_of_lt_of_le hi hs1) (fun e => hm' (by injection e))).trans (hA i hi hne)
 have wb : WrB (fun i => i = m ∨ (f x.k).ownBlock = some i) w w2 := ⟨gr2.os.trans gr1.os, gr2.tape.trans gr1.tape, gr2.output.trans gr1.output, Nat.le_trans hs1 gr2.size, fun i hi hp => hA2 i hi (fun e => hp (.inl e)) (fun e => hp (.inr e))⟩
 have lc : ∀ k, k ≠ x.k → ∀ g, (f k).ownBlock = some g → v'.ownBlock ≠ some g := fun k hkx g hg hv2 => by
  rcases loc with l1 | ⟨b, hb, l1⟩
  ·exact h.far k x.k hkx g hg (l1.symm.trans hv2)
  ·have h1 := (hB k g hg).2
   rw [l1] at hv2
   injection hv2 with hv2
   omega
 refine ⟨w2, hr2, ⟨hm2, fun k => ?_, fun k j hkj g hg hj => ?_, hmb, fun k hk0 => ?_⟩, wb⟩
 ·show VOwns w2 B (if k = x.k then v' else f k) (grp (insV ds x) k)
  by_cases e : k = x.k
  ·subst e
   rw [if_pos rfl, grp_ins_same x ds ok]
   exact World.ownsRow.kept o1 gr2 (by
    cases hu : v'.ownBlock with
    | none => exact .inl rfl
    | some g => exact .inr fun e => by have h1 := (o1.lt g hu).1; injection e with e; omega)
  ·rw [if_neg e, grp_ins_other x e]
   exact rr_owns_wr (h.own k) wb (fun i hi hp => by
    rcases hp with hp | hp
    ·have := (hB k i hi).1; omega
    ·exact h.far k x.k e i hi hp)
 ·revert hg hj
  show (if k = x.k then v' else f k).ownBlock = some g → (if j = x.k then v' else f j).ownBlock = some g → False
  intro hg hj
  by_cases e : k = x.k
  ·have e2 : ¬ j = x.k := fun e2 => hkj (e.trans e2.symm)
   rw [if_pos e] at hg
   rw [if_neg e2] at hj
   exact lc j e2 g hj hg
  ·rw [if_neg e] at hg
   by_cases e2 : j = x.k
   ·rw [if_pos e2] at hj
    exact lc k e g hg hj
   ·rw [if_neg e2] at hj
    exact h.far k j hkj g hg hj
 ·show (if k = x.k then v' else f k) = _
  by_cases e : k = x.k
  ·subst e
   rw [grp_ins_same x ds ok] at hk0
   unfold insV at hk0
   simp at hk0
  ·rw [if_neg e]
   rw [grp_ins_other x e] at hk0
   exact h.no k hk0
theorem LgAt.ins {w w1 : World} {B lb m N : Nat} {h : ByteArray → Value} {f s : Sl} {hs : List SeH} {d : VsD} (q : LgAt w B lb m N h f s hs d) (ok : okVs d.list = true) (x : VerD) (hk : x.k.size ≤ maxLen) (hN : N < maxLen) {v' : Value} (o1 : VOwns w1 (m + 1) v' (insV (grp d.list x.k) x)) (hv : v' ≠ .slice none 0 0)
  (gr1 : w.grownBy w1 (h x.k).ownBlock) (loc : LocV w v' (h x.k).ownBlock) :
  ∃ w2, (Instr.mapUpdate 94 (.map (some m)) (.string x.k) v').run Tryz.prog w1 = .ok () w2 ∧ LgAt w2 B lb m (N + 1) (fun y => if y = x.k then v' else h y) f s hs ⟨d.next, insV d.list x, d.fen, d.ses⟩ ∧ WrB (fun i => i = m ∨ (h x.k).ownBlock = some i) w w2 ∧ LgW B w w2 := by
 obtain ⟨w2, hr, hh, wb⟩ := q.his.ins (okVs_pair ok) x hk hN o1 hv gr1 loc
 have kd : ∀ i, (h x.k).ownBlock = some i → ∃ cur, w.heap[i]? = some (.cells cur 43 (0, 0)) := fun i e => own_kind (q.his.own x.k) e
 have mm : ∃ es c, w.heap[m]? = some (.map es c) := by
  obtain ⟨D, ⟨es, clock, h1, _⟩, _⟩ := q.his.map
  exact ⟨es, clock, h1⟩
 have mne : ∀ i cs t, w.heap[i]? = some (.cells cs t (0, 0)) → i ≠ m := fun i cs t hi e => by
  obtain ⟨es, c, h1⟩ := mm
  rw [e, h1] at hi
  cases hi
 refine ⟨w2, hr, ⟨?_, hh, q.vz.apart wb (fun i hi => by cases hi) (fun i hi hp => ?_) (fun i hi hp => ?_), fun k g hg hn => ?_, q.mge, q.lge⟩, wb, LgW.of_wr wb (fun i hp => ?_)⟩
 ·refine (wb.block lb (blk_lt q.box) (fun hp => ?_)).trans q.box
  rcases hp with hp | hp
  ·exact mne lb _ _ q.box hp
  ·exact own_box (q.his.own x.k) q.box (by decide) hp
 ·rcases hp with hp | hp
  ·obtain ⟨cur, hc⟩ := own_kind q.vz.fo hi
   exact mne i _ _ hc hp
  ·exact own_other q.vz.fo (q.his.own x.k) (by decide) hi hp
 ·rcases hp with hp | hp
  ·obtain ⟨cur, T, hc, _⟩ := nbl_se q.vz.so hi
   exact mne i _ _ hc hp
  ·exact q.far x.k i hp hi
 ·revert hg
  show (if k = x.k then v' else h k).ownBlock = some g → False
  intro hg
  by_cases e : k = x.k
  ·rw [if_pos e] at hg
   rcases loc with l1 | ⟨b, hb, l1⟩
   ·exact q.far x.k g (l1.symm.trans hg) hn
   ·rw [l1] at hg
    injection hg with hg
    have := (q.vz.so.lt g hn).2
    omega
  ·rw [if_neg e] at hg
   exact q.far k g hg hn
 ·rcases hp with hp | hp
  ·obtain ⟨es, c, h1⟩ := mm
   rw [hp]
   exact ⟨q.mge, .inl ⟨es, c, h1⟩⟩
  ·obtain ⟨cur, hc⟩ := kd i hp
   have := ((q.his.own x.k).lt i hp).1
   have := q.mge
   exact ⟨by omega, lk_kind hc (by simp)⟩
set_option maxHeartbeats 8000000 in
theorem accept_any (lb B m N C : Nat) (h : ByteArray → Value) (f s : Sl) (hs : List SeH) (d : VsD) (a : Option Addr) (n c : Nat) (ws : List VerD) (w : World) (q : LgAt w B lb m N h f s hs d) (ok : okVs d.list = true) (hws : ∀ x ∈ ws, verK x = true) (ho : VOwns w C (.slice a n c) ws) (hfar : ∀ k g, (h k).ownBlock = some g → (Value.slice a n c).ownBlock ≠ some g) (hN : N + n ≤ 100000) (hl : d.list.length + n ≤ 1000) :
  Calls Tryz.prog 132 #[.pointer (some ⟨lb, 0, none⟩), .slice a n c] w fun e w' => e = .returned (.tuple #[]) ∧ (∃ N' h', N' ≤ N + n ∧ LgAt w' B lb m N' h' f s hs ⟨d.next, ws.foldl insV d.list, d.fen, d.ses⟩) ∧ LgW B w w' := by
 have HN := hide (show ws.length = n from (owns_n ho).symm)
 have ST := hide (show LgAt w B lb m N h f s hs ⟨d.next, (ws.take 0).foldl insV d.list, d.fen, d.ses⟩ ∧ VOwns w C (.slice a n c) ws ∧ (∀ k g, (h k).ownBlock = some g → (Value.slice a n c).ownBlock ≠ some g) ∧ LgW B w w from ⟨q, ho, hfar, LgW.refl _ _⟩)
 have OKS := hide (fun j => okVs_fold (ws.take j) d.list ok (fun x hx => hws x (List.mem_of_mem_take hx)))
 have LEN := hide (fun j => fold_len (ws.take j) d.list)
 have HWS := hide hws
 clear q ok hws ho hfar
 go_enter Tryz.func132, Tryz.ntmps132
 go_wp2_with fail
 go_loopw [8] (fun iv wr => ∃ (j N' : Nat) (h' : ByteArray → Value), iv = .int .i64 (j : Int) ∧ j ≤ n ∧ N' ≤ N + j ∧ Hid (LgAt wr B lb m N' h' f s hs ⟨d.next, (ws.take j).foldl insV d.list, d.fen, d.ses⟩ ∧ VOwns wr C (.slice a n c) ws ∧ (∀ k g, (h' k).ownBlock = some g → (Value.slice a n c).ownBlock ≠ some g) ∧ LgW B w wr)) (fun iv _ => n - (intOf iv).toNat)
 case atStart => exact ⟨0, N, h, rfl, Nat.zero_le _, Nat.le_refl _, ST⟩
 case round =>
  clear ST
  obtain ⟨j, N', h', rfl, hj, hN', hS⟩ := hrel
  by_cases hlt : j < n
  case neg =>
   obtain rfl : j = n := by omega
   have RES := hide (show ∃ N' h', N' ≤ N + j ∧ LgAt wr B lb m N' h' f s hs ⟨d.next, ws.foldl insV d.list, d.fen, d.ses⟩ from ⟨N', h', hN', by
    have h1 := (unhide hS).1
    rw [List.take_of_length_le (by rw [unhide HN]; exact Nat.le_refl _)] at h1
    exact h1⟩)
   have LW := hide (unhide hS).2.2.2
   clear hS
   go_wp2_with fail
   go_end0
   exact ⟨rfl, unhide RES, unhide LW⟩
  have hj2 : j < ws.length := by rw [unhide HN]; exact hlt
  have hjn : (j : Int) < (n : Int) := by omega
  obtain ⟨q, ho, hfar, lw⟩ := unhide hS
  obtain ⟨b, off, ea, d0, d1, d2, d3⟩ := (vrow_of_owns ho).2 j hj2
  subst ea
  have vk := unhide HWS ws[j] (List.getElem_mem hj2)
  have hks : ws[j].k.size ≤ maxLen := by have := verK_small vk; unfold maxLen; omega
  obtain ⟨U, hU⟩ : ∃ U, U = wr.alloc (.cells #[.string ws[j].k, .int .i64 ws[j].t, .string ws[j].v, .bool ws[j].g] 43) := ⟨_, rfl⟩
  have bU : Below wr.heap.size wr U := by rw [hU]; exact (Below.refl _ _).alloc (Nat.le_refl _) _
  have kU : U.heap[wr.heap.size]? = some (.cells #[.string ws[j].k, .int .i64 ws[j].t, .string ws[j].v, .bool ws[j].g] 43 (0, 0)) := by rw [hU]; exact heap_alloc_new _ _
  have bD := bU.trans ((Below.refl wr.heap.size U).drew)
  have qD := q.below bD
  have oD := rb_ownsRow_below ho bD
  have LKP := qD.his.map.lookup hks
  obtain ⟨ra, rc, ev⟩ := vowns_slice2 (qD.his.own ws[j].k)
  have hro := qD.his.own ws[j].k
  rw [ev] at LKP hro
  have hmz : m + 1 ≤ U.drew.heap.size := qD.his.map.lt
  have hgl := grp_len ((ws.take j).foldl insV d.list) ws[j].k
  have hll := unhide LEN j
  rw [List.length_take] at hll
  have CP := hide (placedT_any (m + 1) ra (grp ((ws.take j).foldl insV d.list) ws[j].k).length rc (grp ((ws.take j).foldl insV d.list) ws[j].k) ws[j] U.drew hro ((okVs_pair (unhide OKS j)).sublist (grp_sub _ _)) (fun y hy => (grp_mem.1 hy).2) (by omega) hmz)
  have FS := hide (show (ws.take (j + 1)).foldl insV d.list = insV ((ws.take j).foldl insV d.list) ws[j] by rw [takeG_snoc ws j hj2, List.foldl_append]; rfl)
  have INS := hide (fun (v' : Value) (w1 : World) (o1 : VOwns w1 (m + 1) v' (insV (grp ((ws.take j).foldl insV d.list) ws[j].k) ws[j])) (hv : v' ≠ .slice none 0 0) (g1 : U.drew.grownBy w1 (h' ws[j].k).ownBlock) (loc : LocV U.drew v' (h' ws[j].k).ownBlock) => qD.ins (unhide OKS j) ws[j] hks (by unfold maxLen; omega) o1 hv g1 loc)
  rw [ev] at INS
  have l1 := (heap_at qD.box 1).1
  simp only [List.getElem?_toArray, List.getElem?_cons_zero, List.getElem?_cons_succ] at l1
  have k0 := (heap_at kU 0).1
  have k1 := (heap_at kU 1).1
  have k2 := (heap_at kU 2).1
  have k3 := (heap_at kU 3).1
  have QD := hide qD
  have OD := hide oD
  have HF := hide hfar
  have LWD := hide (lw.trans (LgW.of_below bD))
  have EV := hide ev
  have KU := hide (show U.drew.heap[wr.heap.size]? = _ from kU)
  have ROB := hide (show ∀ g, (Value.slice ra (grp ((ws.take j).foldl insV d.list) ws[j].k).length rc).ownBlock = some g → g < wr.heap.size from fun g hg => by rw [← ev] at hg; exact ((q.his.own ws[j].k).lt g hg).2)
  have ROK := hide (show ∀ g, (Value.slice ra (grp ((ws.take j).foldl insV d.list) ws[j].k).length rc).ownBlock = some g → ∃ cur, U.drew.heap[g]? = some (.cells cur 43 (0, 0)) from fun g hg => own_kind hro hg)
  have LBX := hide qD.box
  clear hS q ho hfar lw bU kU bD qD oD hro ev vk hgl hll hmz
  generalize grp ((ws.take j).foldl insV d.list) ws[j].k = L at *
  generalize hxx : ws[j] = x at *
  clear hxx
  obtain ⟨xk, xt, xv, xg⟩ := x
  unfold vv at CP
  simp only at *
  have SK := hide (show ∀ u : World, u.heap[lb]? = U.drew.heap[lb]? → u.heap[wr.heap.size]? = U.drew.heap[wr.heap.size]? → (fun u : World => u.cell? ⟨lb, 1, none⟩ = some (.map (some m)) ∧ u.cell? ⟨wr.heap.size, 0, none⟩ = some (.string xk) ∧ u.cell? ⟨wr.heap.size, 1, none⟩ = some (.int .i64 xt) ∧ u.cell? ⟨wr.heap.size, 2, none⟩ = some (.string xv) ∧ u.cell? ⟨wr.heap.size, 3, none⟩ = some (.bool xg)) u from fun u h1 h2 => ⟨(World.cell?_of_block (a := ⟨lb, 1, none⟩) h1).trans l1, (World.cell?_of_block (a := ⟨wr.heap.size, 0, none⟩) h2).trans k0, (World.cell?_of_block (a := ⟨wr.heap.size, 1, none⟩) h2).trans k1, (World.cell?_of_block (a := ⟨wr.heap.size, 2, none⟩) h2).trans k2, (World.cell?_of_block (a := ⟨wr.heap.size, 3, none⟩) h2).trans k3⟩)
  clear l1 k0 k1 k2 k3
  go_upto_region 3 with fail
  rw [← hU]
  clear hU d0 d1 d2 d3
  generalize hbx : wr.heap.size = bx at *
  refine wp_region_held_drew (S := (fun u : World => u.cell? ⟨lb, 1, none⟩ = some (.map (some m)) ∧ u.cell? ⟨bx, 0, none⟩ = some (.string xk) ∧ u.cell? ⟨bx, 1, none⟩ = some (.int .i64 xt) ∧ u.cell? ⟨bx, 2, none⟩ = some (.string xv) ∧ u.cell? ⟨bx, 3, none⟩ = some (.bool xg))) (by kernel_rfl) (unhide SK _ rfl rfl) (fun hHeld => ?_)
  refine tk 0 12 rfl rfl hHeld ?_
  simp only [Act.put, lA, lB, lC]
  refine tk 1 13 rfl rfl hHeld ?_
  simp only [Act.put, lA, lB, lC]
  refine tk 2 14 rfl rfl hHeld ?_
  simp only [Act.put, lA, lB, lC]
  refine tk 3 15 rfl rfl hHeld ?_
  simp only [Act.put, lA, lB, lC]
  refine tk 4 16 rfl rfl hHeld ?_
  simp only [Act.put, lA, lB, lC]
  refine tk 5 17 rfl rfl hHeld ?_
  simp only [Act.put, lA, lB, lC]
  refine tk 6 18 rfl rfl hHeld ?_
  simp only [Act.put, lA, lB, lC]
  refine tk 7 19 rfl rfl hHeld ?_
  simp only [Act.put, lA, lB, lC]
  refine tk 8 20 rfl rfl hHeld ?_
  simp only [Act.put, lA, lB, lC]
  refine tk 9 21 rfl rfl hHeld ?_
  simp only [Act.put, lA, lB, lC]
  refine tk 10 22 rfl rfl hHeld ?_
  simp only [Act.put, lA, lB, lC]
  refine tk 11 23 rfl rfl hHeld ?_
  simp only [Act.put, lA, lB, lC]
  refine tk 13 25 rfl rfl hHeld ?_
  simp only [Act.put, lA, lB, lC]
  refine rd [12] (.cons rfl (fun K hK => ?_) .nil)
  refine hm_stepLook rfl (.tmp 21) (.tmp 23) 94 rfl _ _ _ (by first | rfl | (simp [Act.eval]; done) | (simp [Act.eval, Act.put]; done)) (by first | rfl | (simp [Act.eval]; done) | (simp [Act.eval, Act.put]; done)) LKP ?_
  refine hK.out _ _ (unhide SK _ rfl rfl) (fun hHeld => ?_)
  clear hK K
  simp only [Act.put, lA]
  refine rd [14] (.cons rfl (fun K hK => ?_) .nil)
  go_simp
  refine (unhide CP).mono ?_
  rintro e w3 ⟨v3, rfl, o3, n3, g3, loc3⟩
  have hlb3 : w3.heap[lb]? = U.drew.heap[lb]? := g3.block lb (blk_lt (unhide LBX)) (fun e => by obtain ⟨cur, hc⟩ := unhide ROK lb e.symm; rw [unhide LBX] at hc; injection hc with hc; injection hc with _ hc _; exact absurd hc (by decide))
  have hbx3 : w3.heap[bx]? = U.drew.heap[bx]? := g3.block bx (blk_lt (unhide KU)) (fun e => by have := unhide ROB bx e.symm; omega)
  obtain ⟨w4, hr4, q4, wb4, lw4⟩ := unhide INS v3 w3 o3 n3 g3 loc3
  have hlb4 : w4.heap[lb]? = U.drew.heap[lb]? := q4.box.trans (unhide LBX).symm
  have mne : bx ≠ m := fun e => by have hk := unhide KU; rw [e] at hk; exact (unhide QD).his.map.ne hk rfl
  have hbx4 : w4.heap[bx]? = U.drew.heap[bx]? := wb4.block bx (blk_lt (unhide KU)) (fun e => by rcases e with e | e; exact mne e; have := unhide ROB bx e; omega)
  have LOC := hide loc3
  clear o3 n3 g3 loc3 CP INS
  refine hK.out _ _ (unhide SK _ hlb3 hbx3) (fun hHeld => ?_)
  clear hK K
  refine rd [15] (.cons rfl (fun K hK => ?_) .nil)
  refine hm_stepUpd rfl (.tmp 15) (.tmp 17) (.tmp 26) 94 rfl _ _ _ w4 (by first | rfl | (simp [Act.eval]; done) | (simp [Act.eval, Act.put]; done)) (by first | rfl | (simp [Act.eval]; done) | (simp [Act.eval, Act.put]; done)) (by first | rfl | (simp [Act.eval]; done) | (simp [Act.eval, Act.put]; done)) hr4 ?_
  refine hK.out _ _ (unhide SK _ hlb4 hbx4) (fun hHeld => ?_)
  clear hK K
  refine wpAnyH_done (by kernel_rfl) ?_ _
  clear hHeld SK
  have Z := hide (show LgAt w4 B lb m (N' + 1) (fun y => if y = xk then v3 else h' y) f s hs ⟨d.next, (ws.take (j + 1)).foldl insV d.list, d.fen, d.ses⟩ ∧ VOwns w4 C (.slice (some ⟨b, off, none⟩) n c) ws ∧ (∀ k g, ((fun y => if y = xk then v3 else h' y) k).ownBlock = some g → (Value.slice (some ⟨b, off, none⟩) n c).ownBlock ≠ some g) ∧ LgW B w w4 from ⟨by rw [unhide FS]; exact q4, rr_owns_wr (unhide OD) wb4 (fun i hi hp => by
    rcases hp with hp | hp
    ·obtain ⟨cur, hc⟩ := own_kind (unhide OD) hi
     exact (unhide QD).his.map.ne hc hp.symm
    ·exact unhide HF xk i (by rw [unhide EV]; exact hp) hi), fun k g hg hb => by
    simp only at hg
    by_cases e : k = xk
    ·rw [if_pos e] at hg
     rcases unhide LOC with l1 | ⟨b1, hb1, l1⟩
     ·exact unhide HF xk g (by rw [unhide EV, ← l1]; exact hg) hb
     ·rw [l1] at hg
      injection hg with hg
      have := ((unhide OD).lt g hb).2
      omega
    ·rw [if_neg e] at hg
     exact unhide HF k g hg hb, (unhide LWD).trans lw4⟩)
  clear q4 wb4 lw4 hlb3 hbx3 hlb4 hbx4 mne OD QD HF LWD LOC
  go_wp2_with fail
  go_roundw
  case rel => exact ⟨j + 1, N' + 1, _, by go_num, by omega, by omega, Z⟩
  case measure => simp [intOf]; omega
end Go.Proofs.YtdnjgbckkmbmfaaGreat

namespace Go.Proofs.YtdnjgbckkmbmfaaGreat
open Go.RowKit Go.Maps

set_option maxHeartbeats 1000000 in
theorem closeD_any (lb B m N g i : Nat) (h : ByteArray → Value) (f s : Sl) (hs : List SeH) (d : VsD) (u : FrameMode) (w : World) (q : LgAt w B lb m N h f s hs d) (hg : s.a = some ⟨g, 0, none⟩) (hi : i < hs.length) :
  CallsD Tryz.prog 108 #[.pointer (some ⟨g, i * 3, none⟩)] u w fun e u' w' => u' = u ∧ (e = .returned (.tuple #[]) ∧ LgAt w' B lb m N h f s (hs.set i ⟨clS, nilS⟩) ⟨d.next, d.list, d.fen, d.ses.set i clS⟩ ∧ LgW B w w') := by
 obtain ⟨g', hg', ⟨c0, c1, c2⟩, fz, q2, lw⟩ := q.put0 hi false 0
 rw [hg] at hg'
 injection hg' with hg'
 injection hg' with hg' _ _
 subst hg'
 have f0 := fz (i * 3)
 have f1 := fz (i * 3 + 1)
 have f2 := fz (i * 3 + 2)
 have RES := hide (And.intro q2 lw)
 unfold st3 nilS at RES
 simp only at RES
 clear q q2 lw fz hg
 generalize hs[i] = x at *
 go_enter_d Tryz.func108, Tryz.ntmps108
 go_wp2_with fail
 go_end0
 exact ⟨rfl, (unhide RES).1, (unhide RES).2⟩
def cmC (d : VsD) (ws : List VerD) : Int := if ws.any (conV d) = true then 9 else 0
def cmD (d : VsD) (i : Nat) (ws : List VerD) : VsD := if ws.any (conV d) = true then ⟨d.next, d.list, d.fen, d.ses.set i clS⟩ else ⟨d.next, ws.foldl insV d.list, d.fen, d.ses.set i clS⟩
set_option maxHeartbeats 4000000 in
theorem commit_any (lb B m N g i : Nat) (h : ByteArray → Value) (f s : Sl) (hs : List SeH) (d : VsD) (w : World) (q : LgAt w B lb m N h f s hs d) (hg : s.a = some ⟨g, 0, none⟩) (hi : i < hs.length) (ok : okVs d.list = true) (hws : wrV hs[i].X.ws hs[i].X.t = true) (hf : d.fen.length ≤ 1000000) (hN : N ≤ 90000) (hl : d.list.length ≤ 900) :
  Calls Tryz.prog 107 #[.pointer (some ⟨lb, 0, none⟩), .pointer (some ⟨g, i * 3, none⟩)] w fun e w' => e = .returned (.int .i64 (cmC d hs[i].X.ws)) ∧ (∃ N' h' hs', N' ≤ N + 8 ∧ LgAt w' B lb m N' h' f s hs' (cmD d i hs[i].X.ws)) ∧ LgW B w w' := by
 obtain ⟨g', hg', -, -, -, -, -, c2, hwo, -⟩ := q.vz.sesAt hi
 rw [hg] at hg'
 injection hg' with hg'
 injection hg' with hg' _ _
 subst hg'
 have hwl := hws
 unfold wrV at hwl
 simp only [Bool.and_eq_true, decide_eq_true_eq] at hwl
 have hvk : ∀ x ∈ hs[i].X.ws, verK x = true := fun x hx => ((okVs_iff _).1 hwl.2.1).1 x hx
 have hwn : hs[i].s0.n = hs[i].X.ws.length := owns_n hwo
 have hfar : ∀ k g, (h k).ownBlock = some g → (Value.slice hs[i].s0.a hs[i].s0.n hs[i].s0.c).ownBlock ≠ some g := fun k g hg hb => q.far k g hg (.inr ⟨i, 0, _, (show sbAt (hs.map seEl) i 0 = some ⟨43, 4, hs[i].X.ws.length, .slice hs[i].s0.a hs[i].s0.n hs[i].s0.c, vcs hs[i].X.ws⟩ by unfold sbAt; rw [seEl_at hi]; rfl), hb⟩)
 have C1 := hide (conflicts_any lb B m N h f s hs d hs[i].s0.a hs[i].s0.n hs[i].s0.c hs[i].X.ws w q ok hf (by omega) (by omega) (vrow_of_owns hwo) (fun x hx => by have := verK_small (hvk x hx); unfold maxLen; omega))
 have C2 := hide (fun (u : World) (hu : Below w.heap.size w u) => accept_any lb B m N B h f s hs d hs[i].s0.a hs[i].s0.n hs[i].s0.c hs[i].X.ws u (q.below hu) ok hvk (rb_ownsRow_below hwo hu) hfar (by omega) (by omega))
 have QB := hide (fun (u : World) (hu : Below w.heap.size w u) => q.below hu)
 have hn8 : hs[i].s0.n ≤ 8 := by omega
 have HG := hide hg
 clear q hwo hws hwl hvk hfar hwn ok
 obtain ⟨bc, hbc⟩ : ∃ bc, bc = hs[i].X.ws.any (conV d) := ⟨_, rfl⟩
 have EC := hide (show cmC d hs[i].X.ws = if bc = true then 9 else 0 by unfold cmC; rw [hbc])
 have ED := hide (show cmD d i hs[i].X.ws = if bc = true then ⟨d.next, d.list, d.fen, d.ses.set i clS⟩ else ⟨d.next, hs[i].X.ws.foldl insV d.list, d.fen, d.ses.set i clS⟩ by unfold cmD; rw [hbc])
 rw [← hbc] at C1
 clear hbc
 generalize hs[i].X.ws = ws at *
 generalize hs[i].s0 = s0 at *
 obtain ⟨wa, wn, wc⟩ := s0
 simp only at c2 C1 C2 hn8
 cases bc with
 | true =>
  go_enter_defers Tryz.func107, Tryz.ntmps107
  go_wp2_with fail
  refine (unhide C1).mono ?_
  rintro e w1 ⟨rfl, hb1⟩
  have CL := hide (closeD_any lb B m N g i h f s hs d .returning w1 (unhide QB w1 hb1) (unhide HG) hi)
  go_wp2_with fail
  refine leaves_cons (f := 108) (args := #[.pointer (some ⟨g, i * 3, none⟩)]) (by simp) (by simp [go_sem]) ?_
  refine (unhide CL).mono ?_
  rintro e u' w'' ⟨rfl, rfl, q2, lw⟩
  exact ⟨_, results_tmp rfl _ _ _, by rw [unhide EC]; rfl, ⟨N, h, _, by omega, by rw [unhide ED]; exact q2⟩, (LgW.of_below hb1).trans lw⟩
 | false =>
  have b1w := c2
  go_enter_defers Tryz.func107, Tryz.ntmps107
  go_wp2_with fail
  refine (unhide C1).mono ?_
  rintro e w1 ⟨rfl, hb1⟩
  have c21 := (hb1.cell (p := ⟨g, i * 3 + 2, none⟩) (cell_lt c2)).trans c2
  clear c2 b1w
  go_wp2_with fail
  refine (unhide C2 w1 hb1).mono ?_
  rintro e w2 ⟨rfl, ⟨N', h', hN', q2⟩, lw2⟩
  have CL := hide (closeD_any lb B m N' g i h' f s hs _ .returning w2 q2 (unhide HG) hi)
  have LW := hide ((LgW.of_below hb1).trans lw2)
  clear q2 lw2 c21
  go_wp2_with fail
  refine leaves_cons (f := 108) (args := #[.pointer (some ⟨g, i * 3, none⟩)]) (by simp) (by simp [go_sem]) ?_
  refine (unhide CL).mono ?_
  rintro e u' w'' ⟨rfl, rfl, q3, lw3⟩
  exact ⟨_, results_tmp rfl _ _ _, by rw [unhide EC]; rfl, ⟨N', h', _, by omega, by rw [unhide ED]; exact q3⟩, (unhide LW).trans lw3⟩
end Go.Proofs.YtdnjgbckkmbmfaaGreat

namespace Go.Proofs.YtdnjgbckkmbmfaaGreat
open Go.RowKit Go.Maps

def keyX (k : ByteArray) (t : Int) : VerD := ⟨k, t, ⟨#[]⟩, false⟩
def viewS (d : VsD) (s : SesD) (k : ByteArray) : Option VerD :=
 if hitV s.ws (keyX k s.t) = true then (if (s.ws.getD (posV s.ws (keyX k s.t)) noV).g = true then none else some (s.ws.getD (posV s.ws (keyX k s.t)) noV)) else verAt d.list k s.t
structure ViewAt (w : World) (p1 p2 hb tb g i m : Nat) (t : Int) : Prop where
 b1 : w.heap[p1]? = some (.cells #[.pointer (some ⟨g, i * 3, none⟩)] 117 (0, 0))
 b2 : w.heap[p2]? = some (.cells #[.func (.func 91) #[] #[.pointer (some ⟨hb, 0, none⟩), .pointer (some ⟨tb, 0, none⟩)]] 92 (0, 0))
 b3 : w.heap[hb]? = some (.cells #[.map (some m)] 94 (0, 0))
 b4 : w.heap[tb]? = some (.cells #[.int .i64 t] 3 (0, 0))
theorem ViewAt.below {w w' : World} {p1 p2 hb tb g i m : Nat} {t : Int} (h : ViewAt w p1 p2 hb tb g i m t) (b : Below w.heap.size w w') : ViewAt w' p1 p2 hb tb g i m t :=
 ⟨(b.block _ (blk_lt h.b1)).trans h.b1, (b.block _ (blk_lt h.b2)).trans h.b2, (b.block _ (blk_lt h.b3)).trans h.b3, (b.block _ (blk_lt h.b4)).trans h.b4⟩
def VoRes (g i m : Nat) (t : Int) (w : World) (e : Ending) (w' : World) : Prop := ∃ p1 p2 hb tb, e = .returned (.func (.func 137) #[] #[.pointer (some ⟨p1, 0, none⟩), .pointer (some ⟨p2, 0, none⟩)]) ∧ ViewAt w' p1 p2 hb tb g i m t ∧ Below w.heap.size w w'
set_option maxHeartbeats 4000000 in
theorem viewOf_any (lb B m N g i : Nat) (h : ByteArray → Value) (f s : Sl) (hs : List SeH) (d : VsD) (w : World) (q : LgAt w B lb m N h f s hs d) (hg : s.a = some ⟨g, 0, none⟩) (hi : i < hs.length) :
  Calls Tryz.prog 122 #[.pointer (some ⟨lb, 0, none⟩), .pointer (some ⟨g, i * 3, none⟩)] w (VoRes g i m hs[i].X.t w) := by
 obtain ⟨g', hg', -, -, -, -, c1, -, -, -⟩ := q.vz.sesAt hi
 rw [hg] at hg'
 injection hg' with hg'
 injection hg' with hg' _ _
 subst hg'
 have l1 := (heap_at q.box 1).1
 simp only [List.getElem?_toArray, List.getElem?_cons_zero, List.getElem?_cons_succ] at l1
 obtain ⟨W, hW⟩ : ∃ W, W = w.alloc (.cells #[.pointer (some ⟨g, i * 3, none⟩)] 117) := ⟨_, rfl⟩
 have bW : Below w.heap.size w W := by rw [hW]; exact (Below.refl _ _).alloc (Nat.le_refl _) _
 have kW : W.heap[w.heap.size]? = some (.cells #[.pointer (some ⟨g, i * 3, none⟩)] 117 (0, 0)) := by rw [hW]; exact heap_alloc_new _ _
 have hmf : ∀ (fn : Fn) (first cap : Array Value) (w : World), (Instr.makeFunc fn first cap).run Tryz.prog w = .ok (.func fn first cap) w := fun _ _ _ _ => rfl
 have hsf : ∀ (a : Addr) (fn : Fn) (x c : Array Value) (mo : Mode) (u : World), (store a (.func fn x c) mo).run Tryz.prog u = stored Tryz.prog u a (.func fn x c) mo := fun a fn x c mo u => run_store Tryz.prog u a _ mo rfl
 generalize hs[i].X.t = t at *
 have KW := hide kW
 have BW := hide bW
 have zl := cell_lt l1
 have zc := cell_lt c1
 have zs := bW.size
 simp only at zl zc
 have SK := hide (show ∀ u, Below W.heap.size W u → (fun u : World => u.cell? ⟨lb, 1, none⟩ = some (.map (some m)) ∧ u.cell? ⟨w.heap.size, 0, none⟩ = some (.pointer (some ⟨g, i * 3, none⟩)) ∧ u.cell? ⟨g, i * 3 + 1, none⟩ = some (.int .i64 t)) u from fun u hu => ⟨((bW.trans (hu.mono zs)).cell (p := ⟨lb, 1, none⟩) zl).trans l1, (heap_at ((hu.block _ (blk_lt kW)).trans kW) 0).1, ((bW.trans (hu.mono zs)).cell (p := ⟨g, i * 3 + 1, none⟩) zc).trans c1⟩)
 have G0 := hide (Below.refl W.heap.size W).drew
 have CV := hide (fun (u : World) => viewAt_any m t u)
 clear q l1 c1 kW bW hg hi zs
 go_enter Tryz.func122, Tryz.ntmps122
 go_upto_region 1 with fail
 rw [← hW]
 clear hW
 refine wp_region_held_drew (S := (fun u : World => u.cell? ⟨lb, 1, none⟩ = some (.map (some m)) ∧ u.cell? ⟨w.heap.size, 0, none⟩ = some (.pointer (some ⟨g, i * 3, none⟩)) ∧ u.cell? ⟨g, i * 3 + 1, none⟩ = some (.int .i64 t))) (by kernel_rfl) (unhide SK _ (unhide G0)) (fun hHeld => ?_)
 generalize W.drew = u0 at *
 refine tk 0 6 rfl rfl hHeld ?_
 simp only [Act.put, lA, lB, lC]
 refine tk 1 7 rfl rfl hHeld ?_
 simp only [Act.put, lA, lB, lC]
 refine tk 2 8 rfl rfl hHeld ?_
 simp only [Act.put, lA, lB, lC]
 refine tk 3 9 rfl rfl hHeld ?_
 simp only [Act.put, lA, lB, lC]
 refine tk 4 10 rfl rfl hHeld ?_
 simp only [Act.put, lA, lB, lC]
 refine tk 5 11 rfl rfl hHeld ?_
 simp only [Act.put, lA, lB, lC]
 refine tk 6 12 rfl rfl hHeld ?_
 simp only [Act.put, lA, lB, lC]
 refine tk 7 13 rfl rfl hHeld ?_
 simp only [Act.put, lA, lB, lC]
 refine wpAnyH_ready (rs := [8, 9]) (by kernel_rfl) (by simp) ?_
 refine AllReadyH.cons rfl (fun K hK => ?_) (AllReadyH.cons rfl (fun K hK => ?_) AllReadyH.nil)
 ·go_simp
  refine (unhide CV u0).mono ?_
  rintro e u8 ⟨rfl, hw8⟩
  obtain ⟨b8, k8a, k8b, z8⟩ := twoBx hw8
  clear hw8
  have K3 := hide k8a
  have K4 := hide k8b
  have G8 := hide ((unhide G0).trans (b8.mono (unhide G0).size))
  clear b8 k8a k8b
  generalize hq8 : u0.heap.size = hb at *
  clear z8
  refine hK.out _ _ (unhide SK _ (unhide G8)) (fun hHeld => ?_)
  clear hK K
  refine rd [9] (.cons rfl (fun K hK => ?_) .nil)
  have kA := heap_alloc_new u8 (.cells #[.nilFunc] 92)
  have bA : Below u8.heap.size u8 (u8.alloc (.cells #[.nilFunc] 92)) := (Below.refl _ _).alloc (Nat.le_refl _) _
  have G8_9 := hide ((unhide G8).trans (bA.mono (unhide G8).size))
  have zfb := (unhide G8).size
  replace K3 := hide ((bA.block _ (blk_lt (unhide K3))).trans (unhide K3))
  replace K4 := hide ((bA.block _ (blk_lt (unhide K4))).trans (unhide K4))
  go_simp
  generalize u8.alloc (.cells #[.nilFunc] 92) = u8_9 at *
  generalize hq9 : u8.heap.size = fb at *
  clear bA
  refine hK.out _ _ (unhide SK _ (unhide G8_9)) (fun hHeld => ?_)
  clear hK K
  refine rd [10] (.cons rfl (fun K hK => ?_) .nil)
  have y0 := (heap_at kA 0).1
  have yf0 := (heap_at kA 0).2
  have KE := hide (heap_set kA 0 (.func (.func 91) #[] #[.pointer (some ⟨hb, 0, none⟩), .pointer (some ⟨hb + 1, 0, none⟩)]))
  have wE := set1_wr u8_9 fb 0 (.func (.func 91) #[] #[.pointer (some ⟨hb, 0, none⟩), .pointer (some ⟨hb + 1, 0, none⟩)])
  have hk3 : hb ≠ fb := fun e => by have h3 := unhide K3; rw [e, kA] at h3; injection h3 with h3; injection h3 with _ h3 _; exact absurd h3 (by decide)
  have hk4 : hb + 1 ≠ fb := fun e => by have h3 := unhide K4; rw [e, kA] at h3; injection h3 with h3; injection h3 with _ h3 _; exact absurd h3 (by decide)
  have K3E := hide ((wE.block hb (blk_lt (unhide K3)) hk3).trans (unhide K3))
  have K4E := hide ((wE.block (hb + 1) (blk_lt (unhide K4)) hk4).trans (unhide K4))
  have GE := hide ((unhide G8_9).trans (WrB.below wE (fun i e => by rw [e]; exact zfb) (unhide G8_9).size))
  go_simp
  clear y0 yf0 wE kA
  refine hK.out _ _ (unhide SK _ (unhide GE)) (fun hHeld => ?_)
  clear hK K
  refine wpAnyH_done (by kernel_rfl) ?_ _
  clear hHeld SK CV
  have K1E := hide (((unhide GE).block _ (blk_lt (unhide KW))).trans (unhide KW))
  have BE := hide ((unhide BW).trans ((unhide GE).mono (unhide BW).size))
  generalize u8_9.setCell ⟨fb, 0, none⟩ (.func (.func 91) #[] #[.pointer (some ⟨hb, 0, none⟩), .pointer (some ⟨hb + 1, 0, none⟩)]) = uE at *
  go_wp2_with fail
  go_ret
  exact ⟨_, _, hb, hb + 1, rfl, ⟨unhide K1E, unhide KE, unhide K3E, unhide K4E⟩, unhide BE⟩
 ·have kA := heap_alloc_new u0 (.cells #[.nilFunc] 92)
  have bA : Below u0.heap.size u0 (u0.alloc (.cells #[.nilFunc] 92)) := (Below.refl _ _).alloc (Nat.le_refl _) _
  have G9 := hide ((unhide G0).trans (bA.mono (unhide G0).size))
  have zfb := (unhide G0).size
  go_simp
  generalize u0.alloc (.cells #[.nilFunc] 92) = u9 at *
  generalize hq9 : u0.heap.size = fb at *
  clear bA
  refine hK.out _ _ (unhide SK _ (unhide G9)) (fun hHeld => ?_)
  clear hK K
  refine rd [8] (.cons rfl (fun K hK => ?_) .nil)
  go_simp
  refine (unhide CV u9).mono ?_
  rintro e u9_8 ⟨rfl, hw8⟩
  obtain ⟨b8, k8a, k8b, z8⟩ := twoBx hw8
  clear hw8
  have K3 := hide k8a
  have K4 := hide k8b
  have G9_8 := hide ((unhide G9).trans (b8.mono (unhide G9).size))
  replace kA := (b8.block fb (blk_lt kA)).trans kA
  clear b8 k8a k8b
  generalize hq8 : u9.heap.size = hb at *
  clear z8
  refine hK.out _ _ (unhide SK _ (unhide G9_8)) (fun hHeld => ?_)
  clear hK K
  refine rd [10] (.cons rfl (fun K hK => ?_) .nil)
  have y0 := (heap_at kA 0).1
  have yf0 := (heap_at kA 0).2
  have KE := hide (heap_set kA 0 (.func (.func 91) #[] #[.pointer (some ⟨hb, 0, none⟩), .pointer (some ⟨hb + 1, 0, none⟩)]))
  have wE := set1_wr u9_8 fb 0 (.func (.func 91) #[] #[.pointer (some ⟨hb, 0, none⟩), .pointer (some ⟨hb + 1, 0, none⟩)])
  have hk3 : hb ≠ fb := fun e => by have h3 := unhide K3; rw [e, kA] at h3; injection h3 with h3; injection h3 with _ h3 _; exact absurd h3 (by decide)
  have hk4 : hb + 1 ≠ fb := fun e => by have h3 := unhide K4; rw [e, kA] at h3; injection h3 with h3; injection h3 with _ h3 _; exact absurd h3 (by decide)
  have K3E := hide ((wE.block hb (blk_lt (unhide K3)) hk3).trans (unhide K3))
  have K4E := hide ((wE.block (hb + 1) (blk_lt (unhide K4)) hk4).trans (unhide K4))
  have GE := hide ((unhide G9_8).trans (WrB.below wE (fun i e => by rw [e]; exact zfb) (unhide G9_8).size))
  go_simp
  clear y0 yf0 wE kA
  refine hK.out _ _ (unhide SK _ (unhide GE)) (fun hHeld => ?_)
  clear hK K
  refine wpAnyH_done (by kernel_rfl) ?_ _
  clear hHeld SK CV
  have K1E := hide (((unhide GE).block _ (blk_lt (unhide KW))).trans (unhide KW))
  have BE := hide ((unhide BW).trans ((unhide GE).mono (unhide BW).size))
  generalize u9_8.setCell ⟨fb, 0, none⟩ (.func (.func 91) #[] #[.pointer (some ⟨hb, 0, none⟩), .pointer (some ⟨hb + 1, 0, none⟩)]) = uE at *
  go_wp2_with fail
  go_ret
  exact ⟨_, _, hb, hb + 1, rfl, ⟨unhide K1E, unhide KE, unhide K3E, unhide K4E⟩, unhide BE⟩
theorem viewS_hit {d : VsD} {s : SesD} {k : ByteArray} (h : hitV s.ws (keyX k s.t) = true) (hp : posV s.ws (keyX k s.t) < s.ws.length) : viewS d s k = if s.ws[posV s.ws (keyX k s.t)].g = true then none else some s.ws[posV s.ws (keyX k s.t)] := by
 unfold viewS
 rw [if_pos h, getD_is hp]
set_option maxHeartbeats 8000000 in
theorem viewO_any (lb B m N g i p1 p2 hb tb : Nat) (h : ByteArray → Value) (f s : Sl) (hs : List SeH) (d : VsD) (k : ByteArray) (w : World) (q : LgAt w B lb m N h f s hs d) (hg : s.a = some ⟨g, 0, none⟩) (hi : i < hs.length) (hv : ViewAt w p1 p2 hb tb g i m hs[i].X.t) (ok : okVs d.list = true) (hl : d.list.length ≤ 4096) (hk : k.size ≤ maxLen) (hws : wrV hs[i].X.ws hs[i].X.t = true) :
  Calls Tryz.prog 137 #[.string k, .pointer (some ⟨p1, 0, none⟩), .pointer (some ⟨p2, 0, none⟩)] w fun e w' => VwGives (viewS d hs[i].X k) w e w' := by
 obtain ⟨W, hW⟩ : ∃ W, W = w.alloc (.cells #[.string ⟨#[]⟩, .int .i64 0, .string ⟨#[]⟩, .bool false] 43) := ⟨_, rfl⟩
 have bW : Below w.heap.size w W := by rw [hW]; exact (Below.refl _ _).alloc (Nat.le_refl _) _
 have kW : W.heap[w.heap.size]? = some (.cells #[.string ⟨#[]⟩, .int .i64 0, .string ⟨#[]⟩, .bool false] 43 (0, 0)) := by rw [hW]; exact heap_alloc_new _ _
 have qW := q.below bW
 have vW := hv.below bW
 have c1o := (heap_at hv.b1 0).1
 simp only [List.getElem?_toArray, List.getElem?_cons_zero] at c1o
 obtain ⟨g0, hg0, -, -, -, -, -, c2o, hwoo, -⟩ := q.vz.sesAt hi
 rw [hg] at hg0
 injection hg0 with hg0
 injection hg0 with hg0 _ _
 subst hg0
 have RO := hide (vrow_of_owns hwoo)
 have C1O := hide c1o
 have C2O := hide c2o
 clear c1o c2o hwoo
 obtain ⟨g', hg', -, -, -, -, -, c2, hwo, -⟩ := qW.vz.sesAt hi
 rw [hg] at hg'
 injection hg' with hg'
 injection hg' with hg' _ _
 subst hg'
 have hwl := hws
 unfold wrV at hwl
 simp only [Bool.and_eq_true, decide_eq_true_eq] at hwl
 have hwn : hs[i].s0.n = hs[i].X.ws.length := owns_n hwo
 have CS := hide (searchK_any hs[i].s0.a hs[i].s0.n hs[i].s0.c hs[i].X.ws (keyX k hs[i].X.t) W (vrow_of_owns hwo) (okVs_pair hwl.2.1) (fun y hy => by
  obtain ⟨j, hj, rfl⟩ := List.getElem_of_mem hy
  exact oneT_at hwl.2.2 hj) (by omega))
 have CV := hide (fun (u : World) (hu : Below W.heap.size W u) => view_any hb tb m N (m + 1) h d.list k hs[i].X.t u (qW.his.below hu) ok hl hk (heap_at (vW.below hu).b3 0).1 (heap_at (vW.below hu).b4 0).1)
 have c1 := (heap_at vW.b1 0).1
 have BW := hide bW
 have KW := hide kW
 have VW := hide vW
 have RW := hide (vrow_of_owns hwo)
 have hn8 : hs[i].s0.n ≤ 8 := by omega
 have VS := hide (show hitV hs[i].X.ws (keyX k hs[i].X.t) = false → viewS d hs[i].X k = verAt d.list k hs[i].X.t from fun h0 => by unfold viewS; rw [if_neg (by rw [h0]; decide)])
 have VH := hide (fun (h1 : hitV hs[i].X.ws (keyX k hs[i].X.t) = true) => viewS_hit (d := d) (k := k) (s := hs[i].X) h1 (hitV_at h1).1)
 have HP := hide (fun (h1 : hitV hs[i].X.ws (keyX k hs[i].X.t) = true) => (hitV_at h1).1)
 have c1w := c1
 have c2w := c2
 rw [hW] at c1w c2w
 clear q qW hv vW bW hwo hws hwl ok kW hg
 generalize viewS d hs[i].X k = vs at *
 have kxk : (keyX k hs[i].X.t).k = k := rfl
 rw [kxk] at CS
 clear kxk
 generalize keyX k hs[i].X.t = kx at *
 generalize hs[i].X.ws = ws at *
 generalize hs[i].X.t = st at *
 generalize hs[i].s0 = s0 at *
 obtain ⟨wa, wn, wc⟩ := s0
 simp only at c2 c2w CS RW hn8 hwn RO C2O
 have HWN := hide hwn
 clear hwn
 go_enter Tryz.func137, Tryz.ntmps137
 go_wp2_with fail
 rw [← hW]
 clear hW c1w c2w
 refine (unhide CS).mono ?_
 rintro e w1 ⟨rfl, hb1⟩
 have K1 := hide ((hb1.block _ (blk_lt (unhide KW))).trans (unhide KW))
 have hz : w.heap.size < W.heap.size := blk_lt (unhide KW)
 have B1 := hide ((unhide BW).trans (hb1.mono (unhide BW).size))
 cases hh : hitV ws kx with
 | false =>
  have E := hide (unhide VS hh)
  have n2 := (heap_at ((unhide VW).below hb1).b2 0).1
  have CV1 := hide (unhide CV w1 hb1)
  clear VS VH HP c1 c2 CS CV hh RW VW RO C1O C2O
  go_wp2_with fail
  refine (unhide CV1).mono ?_
  intro e w2 hr
  rcases hr with ⟨x, rfl, hv0, hb2⟩ | ⟨x, rfl, hv0, hb2⟩
  ·have K2 := (hb2.block _ (blk_lt (unhide K1))).trans (unhide K1)
   have y0 := (heap_at K2 0).1
   have y1 := (heap_at K2 1).1
   have y2 := (heap_at K2 2).1
   have y3 := (heap_at K2 3).1
   have f0 := (heap_at K2 0).2
   have f1 := (heap_at K2 1).2
   have f2 := (heap_at K2 2).2
   have f3 := (heap_at K2 3).2
   have KE := hide (sv4_heap K2 (.string x.k) (.int .i64 x.t) (.string x.v) (.bool x.g))
   have BE := hide (bel_sv4 ((unhide B1).trans (hb2.mono (unhide B1).size)) (Nat.le_refl w.heap.size) (.string x.k) (.int .i64 x.t) (.string x.v) (.bool x.g))
   have EN := hide ((unhide E).trans hv0)
   unfold sv4 at KE BE
   clear K2 hb2 CV1 n2 E hv0
   unfold vv
   go_wp2_with fail
   generalize (((w2.setCell ⟨w.heap.size, 0, none⟩ (.string x.k)).setCell ⟨w.heap.size, 1, none⟩ (.int .i64 x.t)).setCell ⟨w.heap.size, 2, none⟩ (.string x.v)).setCell ⟨w.heap.size, 3, none⟩ (.bool x.g) = uE at *
   clear y0 y1 y2 y3 f0 f1 f2 f3
   have x0 := (heap_at (unhide KE) 0).1
   have x1 := (heap_at (unhide KE) 1).1
   have x2 := (heap_at (unhide KE) 2).1
   have x3 := (heap_at (unhide KE) 3).1
   refine bodyPost_ret (v := .tuple #[vv x, .bool false]) (by unfold vv; simp [results, Tryz.results137, go_sem, *] <;> rfl) rfl ?_
   exact .inl ⟨x, rfl, unhide EN, unhide BE⟩
  ·have K2 := (hb2.block _ (blk_lt (unhide K1))).trans (unhide K1)
   have y0 := (heap_at K2 0).1
   have y1 := (heap_at K2 1).1
   have y2 := (heap_at K2 2).1
   have y3 := (heap_at K2 3).1
   have f0 := (heap_at K2 0).2
   have f1 := (heap_at K2 1).2
   have f2 := (heap_at K2 2).2
   have f3 := (heap_at K2 3).2
   have KE := hide (sv4_heap K2 (.string x.k) (.int .i64 x.t) (.string x.v) (.bool x.g))
   have BE := hide (bel_sv4 ((unhide B1).trans (hb2.mono (unhide B1).size)) (Nat.le_refl w.heap.size) (.string x.k) (.int .i64 x.t) (.string x.v) (.bool x.g))
   have EN := hide ((unhide E).trans hv0)
   unfold sv4 at KE BE
   clear K2 hb2 CV1 n2 E hv0
   unfold vv
   go_wp2_with fail
   generalize (((w2.setCell ⟨w.heap.size, 0, none⟩ (.string x.k)).setCell ⟨w.heap.size, 1, none⟩ (.int .i64 x.t)).setCell ⟨w.heap.size, 2, none⟩ (.string x.v)).setCell ⟨w.heap.size, 3, none⟩ (.bool x.g) = uE at *
   clear y0 y1 y2 y3 f0 f1 f2 f3
   have x0 := (heap_at (unhide KE) 0).1
   have x1 := (heap_at (unhide KE) 1).1
   have x2 := (heap_at (unhide KE) 2).1
   have x3 := (heap_at (unhide KE) 3).1
   refine bodyPost_ret (v := .tuple #[vv x, .bool true]) (by unfold vv; simp [results, Tryz.results137, go_sem, *] <;> rfl) rfl ?_
   exact .inr ⟨x, rfl, unhide EN, unhide BE⟩
 | true =>
  have hp := unhide HP hh
  have E := hide (unhide VH hh)
  clear VS VH HP
  obtain ⟨b, off, ea, d0, d1, d2, d3⟩ := (unhide RO).2 (posV ws kx) hp
  subst ea
  have hpn : posV ws kx < wn := by have := unhide HWN; omega
  clear hb1 c1 c2 CS CV RW VW RO BW KW
  generalize ws[posV ws kx] = x at *
  generalize posV ws kx = p at *
  obtain ⟨xk, xt, xv, xg⟩ := x
  simp only at d0 d1 d2 d3
  have SK := hide (show ∀ u, Below w.heap.size w u → (fun u : World => u.cell? ⟨p1, 0, none⟩ = some (.pointer (some ⟨g, i * 3, none⟩)) ∧ u.cell? ⟨g, i * 3 + 2, none⟩ = some (.slice (some ⟨b, off, none⟩) wn wc) ∧ u.cell? ⟨b, off + p * 4, none⟩ = some (.string xk) ∧ u.cell? ⟨b, off + p * 4 + 1, none⟩ = some (.int .i64 xt) ∧ u.cell? ⟨b, off + p * 4 + 2, none⟩ = some (.string xv) ∧ u.cell? ⟨b, off + p * 4 + 3, none⟩ = some (.bool xg)) u from fun u hu => ⟨(hu.cell (p := ⟨p1, 0, none⟩) (cell_lt (unhide C1O))).trans (unhide C1O), (hu.cell (p := ⟨g, i * 3 + 2, none⟩) (cell_lt (unhide C2O))).trans (unhide C2O), (hu.cell (p := ⟨b, off + p * 4, none⟩) (cell_lt d0)).trans d0, (hu.cell (p := ⟨b, off + p * 4 + 1, none⟩) (cell_lt d1)).trans d1, (hu.cell (p := ⟨b, off + p * 4 + 2, none⟩) (cell_lt d2)).trans d2, (hu.cell (p := ⟨b, off + p * 4 + 3, none⟩) (cell_lt d3)).trans d3⟩)
  have KD := hide (show w1.drew.heap[w.heap.size]? = _ from unhide K1)
  have BD := hide (unhide B1).drew
  have hpi : (0 : Int) ≤ (p : Int) := by omega
  have hpj : (p : Int) < (wn : Int) := by omega
  clear C1O C2O d0 d1 d2 d3 K1 B1
  go_upto_region 4 with fail
  refine wp_region_held_drew (S := (fun u : World => u.cell? ⟨p1, 0, none⟩ = some (.pointer (some ⟨g, i * 3, none⟩)) ∧ u.cell? ⟨g, i * 3 + 2, none⟩ = some (.slice (some ⟨b, off, none⟩) wn wc) ∧ u.cell? ⟨b, off + p * 4, none⟩ = some (.string xk) ∧ u.cell? ⟨b, off + p * 4 + 1, none⟩ = some (.int .i64 xt) ∧ u.cell? ⟨b, off + p * 4 + 2, none⟩ = some (.string xv) ∧ u.cell? ⟨b, off + p * 4 + 3, none⟩ = some (.bool xg))) (by kernel_rfl) (unhide SK _ (unhide BD)) (fun hHeld => ?_)
  generalize w1.drew = u0 at *
  refine tk 0 24 rfl rfl hHeld ?_
  simp only [Act.put, lA, lB, lC]
  refine tk 1 25 rfl rfl hHeld ?_
  simp only [Act.put, lA, lB, lC]
  refine tk 2 26 rfl rfl hHeld ?_
  simp only [Act.put, lA, lB, lC]
  refine tk 3 27 rfl rfl hHeld ?_
  simp only [Act.put, lA, lB, lC]
  refine tk 4 28 rfl rfl hHeld ?_
  simp only [Act.put, lA, lB, lC]
  refine tk 5 29 rfl rfl hHeld ?_
  simp only [Act.put, lA, lB, lC]
  refine tk 6 30 rfl rfl hHeld ?_
  simp only [Act.put, lA, lB, lC]
  refine tk 7 31 rfl rfl hHeld ?_
  simp only [Act.put, lA, lB, lC]
  refine tk 8 32 rfl rfl hHeld ?_
  simp only [Act.put, lA, lB, lC]
  refine tk 9 33 rfl rfl hHeld ?_
  simp only [Act.put, lA, lB, lC]
  refine tk 10 34 rfl rfl hHeld ?_
  simp only [Act.put, lA, lB, lC]
  refine tk 11 35 rfl rfl hHeld ?_
  simp only [Act.put, lA, lB, lC]
  refine tk 12 36 rfl rfl hHeld ?_
  simp only [Act.put, lA, lB, lC]
  refine tk 13 37 rfl rfl hHeld ?_
  simp only [Act.put, lA, lB, lC]
  refine tk 14 38 rfl rfl hHeld ?_
  simp only [Act.put, lA, lB, lC]
  refine tk 15 39 rfl rfl hHeld ?_
  simp only [Act.put, lA, lB, lC]
  refine rd [16] (.cons rfl (fun K hK => ?_) .nil)
  have K2 := unhide KD
  have y0 := (heap_at K2 0).1
  have f0 := (heap_at K2 0).2
  have y1 := (heap_at K2 1).1
  have f1 := (heap_at K2 1).2
  have y2 := (heap_at K2 2).1
  have f2 := (heap_at K2 2).2
  have y3 := (heap_at K2 3).1
  have f3 := (heap_at K2 3).2
  have KE := hide (sv4_heap K2 (.string xk) (.int .i64 xt) (.string xv) (.bool xg))
  have BE := hide (bel_sv4 (unhide BD) (Nat.le_refl w.heap.size) (.string xk) (.int .i64 xt) (.string xv) (.bool xg))
  unfold sv4 at KE BE
  go_simp
  clear K2 y0 y1 y2 y3 f0 f1 f2 f3
  refine hK.out _ _ (unhide SK _ (unhide BE)) (fun hHeld => ?_)
  clear hK K
  refine tk 17 5 rfl rfl hHeld ?_
  simp only [Act.put, lA, lB, lC]
  refine wpAnyH_done (by kernel_rfl) ?_ _
  clear hHeld SK KD BD
  generalize (((u0.setCell ⟨w.heap.size, 0, none⟩ (.string xk)).setCell ⟨w.heap.size, 1, none⟩ (.int .i64 xt)).setCell ⟨w.heap.size, 2, none⟩ (.string xv)).setCell ⟨w.heap.size, 3, none⟩ (.bool xg) = uE at *
  have x0 := (heap_at (unhide KE) 0).1
  have x1 := (heap_at (unhide KE) 1).1
  have x2 := (heap_at (unhide KE) 2).1
  have x3 := (heap_at (unhide KE) 3).1
  go_wp2_with fail
  refine bodyPost_ret (v := .tuple #[vv ⟨xk, xt, xv, xg⟩, .bool (!xg)]) (by unfold vv; simp [results, Tryz.results137, go_sem, *] <;> rfl) rfl ?_
  have E2 := unhide E
  clear x0 x1 x2 x3
  cases xg with
  | false => exact .inr ⟨_, rfl, by rw [E2]; rfl, unhide BE⟩
  | true => exact .inl ⟨_, rfl, by rw [E2]; rfl, unhide BE⟩
end Go.Proofs.YtdnjgbckkmbmfaaGreat

namespace Go.Proofs.YtdnjgbckkmbmfaaGreat
open Go.RowKit

set_option maxHeartbeats 4000000 in
theorem entriesSeenL_any (a : Option Addr) (n c : Nat) (ks : List ByteArray) (p q : Option Addr) (see : ByteArray → Option VerD) (w : World) (hn : n ≤ 100000) (hr : StrRow w a n ks)
  (hS : ∀ k ∈ ks, ∀ u, Below w.heap.size w u → Calls Tryz.prog 137 #[.string k, .pointer p, .pointer q] u fun e u' => VwGives (see k) u e u') :
  Calls Tryz.prog 127 #[.slice a n c, .func (.func 137) #[] #[.pointer p, .pointer q]] w fun e w' => ∃ v, e = .returned v ∧ KOwns w' w.heap.size v (seenL see ks) ∧ Below w.heap.size w w' := by
 have LN := hide hr.1
 have R := hide hr
 have SS := hide hS
 have H0 := hide (show KOwns w w.heap.size (.slice none 0 0) [] from World.ownsRow_nil _ _ _ _)
 clear hr hS
 go_enter Tryz.func127, Tryz.ntmps127
 go_wp2_with fail
 go_loopw [5, 12] (fun o' i wr => ∃ (j : Nat) (o : Value), o' = o ∧ i = .int .i64 (j : Int) ∧ j ≤ n ∧ Hid (KOwns wr w.heap.size o (seenL see (ks.take j))) ∧ Hid (Below w.heap.size w wr)) (fun _ i _ => n - (intOf i).toNat)
 case atStart => exact ⟨0, _, rfl, rfl, Nat.zero_le _, unhide H0, Below.refl _ _⟩
 case round =>
  clear H0
  obtain ⟨j, o, rfl, rfl, hj, hH, hB⟩ := hrel
  by_cases hlt : j < n
  ·have hj2 : j < ks.length := by rw [unhide LN]; exact hlt
   obtain ⟨b, off, rfl, d0⟩ := ((unhide R).below (unhide hB)).2 j hj2
   have CL := hide (unhide SS ks[j] (List.getElem_mem hj2) wr (unhide hB))
   have ZS := hide (show seenL see (ks.take (j + 1)) = seenL see (ks.take j) ++ seeK ks[j] (see ks[j]) by rw [rb_take_snoc ks j hj2, seenL_snoc])
   have hel : (seenL see (ks.take j)).length ≤ j := Nat.le_trans (seenL_len see _) (by rw [List.length_take]; omega)
   generalize ks[j] = pk at *
   clear SS R
   go_wp2_with fail
   refine (unhide CL).mono ?_
   intro e w2 hv
   rcases hv with ⟨x, rfl, hva, hb1⟩ | ⟨x, rfl, hva, hb1⟩
   ·have Z := hide (show seenL see (ks.take (j + 1)) = seenL see (ks.take j) by rw [unhide ZS, hva]; simp [seeK])
    obtain ⟨xk, xt, xv, xg⟩ := x
    unfold vv
    have hb3 := hb1.trans (((Below.refl _ _).alloc (Nat.le_refl _) (.cells #[.string xk, .int .i64 xt, .string xv, .bool xg] 43)).mono hb1.size)
    have HN := hide (kowns_below (unhide hH) hb3)
    have BN := hide ((unhide hB).trans (hb3.mono (unhide hB).size))
    clear hb1 hb3 hva ZS CL hH
    go_wp2_with fail
    go_roundw
    case rel => exact ⟨j + 1, _, rfl, by go_num, by omega, by rw [unhide Z]; exact unhide HN, unhide BN⟩
    case measure => simp [intOf]; omega
   ·have Z := hide (show seenL see (ks.take (j + 1)) = seenL see (ks.take j) ++ [⟨pk, x.v⟩] by rw [unhide ZS, hva]; simp [seeK])
    obtain ⟨xk, xt, xv, xg⟩ := x
    simp only at Z
    unfold vv
    have hb3 := hb1.trans (((Below.refl _ _).alloc (Nat.le_refl _) (.cells #[.string xk, .int .i64 xt, .string xv, .bool xg] 43)).mono hb1.size)
    have HN := kowns_below (unhide hH) hb3
    have BN := (unhide hB).trans (hb3.mono (unhide hB).size)
    clear hb1 hb3 hva ZS CL hH
    have KX := heap_alloc_new w2 (.cells #[.string xk, .int .i64 xt, .string xv, .bool xg] 43)
    have x2 : (w2.alloc (.cells #[.string xk, .int .i64 xt, .string xv, .bool xg] 43)).cell? ⟨w2.heap.size, 2, none⟩ = some (.string xv) := (heap_at KX 2).1
    clear KX
    go_upto_region 7 with fail
    generalize (w2.alloc (.cells #[.string xk, .int .i64 xt, .string xv, .bool xg] 43)) = W3 at *
    generalize w2.heap.size = bx at *
    obtain ⟨v', w', hr', ho', hg'⟩ := ky_app (d := ⟨pk, xv⟩) HN (by omega) BN.size
    have BF := hide (((BN.alloc BN.size _)).grown hg' (by have := BN.size; simp; omega) (fun k hk => (HN.lt k hk).1))
    have HF := hide (show KOwns w' w.heap.size v' (seenL see (ks.take (j + 1))) by rw [unhide Z]; exact ho')
    clear HN BN Z ho' hg'
    simp only at hr'
    go_wp2_with (at_builtin; refine ky_wpApp rfl (.tmp 23) (.tmp 28) 38 rfl _ _ _ w' rfl rfl hr' ?_)
    go_roundw
    case rel => exact ⟨j + 1, _, rfl, by go_num, by omega, unhide HF, unhide BF⟩
    case measure => simp [intOf]; omega
  ·obtain rfl : j = n := by omega
   have Z := hide (show KOwns wr w.heap.size u5 (seenL see ks) by
    have := unhide hH
    rwa [List.take_of_length_le (by rw [unhide LN]; exact Nat.le_refl _)] at this)
   go_wp2_with fail
   go_ret
   exact ⟨_, rfl, unhide Z, unhide hB⟩
end Go.Proofs.YtdnjgbckkmbmfaaGreat

namespace Go.Proofs.YtdnjgbckkmbmfaaGreat
open Go.RowKit Go.Lib Go.Sort

theorem Tryz.infoStr : (Tryz.prog.info? 9).map (fun i => (i.zero, i.size, i.bytes)) = some (some (.string ByteArray.empty), 1, 16) := by kernel_rfl
theorem str_app {w : World} {B : Nat} {v : Value} {ks : List ByteArray} (k : ByteArray) (ho : StrOwns w B v ks) (hz : ks.length ≤ 1000000) (hB : B ≤ w.heap.size) :
  ∃ v' w', (Builtin.append_ #[136, 136] 136 #[v, .slice (some ⟨w.heap.size, 0, none⟩) 1 1]).run Tryz.prog (w.alloc (.cells #[.string k] 9)) = .ok v' w' ∧ StrOwns w' B v' (ks ++ [k]) ∧ (w.alloc (.cells #[.string k] 9)).grownBy w' v.ownBlock := by
 obtain ⟨i0, hi0, hz0, hz1, hz2⟩ := info_parts Tryz.infoStr
 have hoa := World.ownsRow.alloc ho (.cells #[.string k] 9)
 have hcells : ∀ j u, ([Value.string k])[j]? = some u → (w.alloc (.cells #[.string k] 9)).cell? ((⟨w.heap.size, 0, none⟩ : Addr).add j) = some u := fun j u hu => by
  have hj : j < 1 := by simpa using (List.getElem?_eq_some_iff.1 hu).1
  have e2 : (⟨w.heap.size, 0, none⟩ : Addr).add j = ⟨w.heap.size, j, none⟩ := by unfold Addr.add; split <;> simp_all
  rw [e2]
  refine rb_cell_new rfl ?_
  match j, hj with
  | 0, _ => simpa using hu
 obtain ⟨v', w', hrun, ho', hg, -⟩ := app_at (P := Tryz.prog) (w := w.alloc (.cells #[.string k] 9)) (B := B) 136 136 9 Tryz.underlying136 hi0 hz0 hz1 hz2 rfl (by decide) hoa ⟨w.heap.size, 0, none⟩ 1 1 [.string k] (by simp) hcells (by intro u hu; simp at hu; rw [hu]; rfl) (by unfold maxLen; omega) (by omega) (by simp; omega) (fun _ => by omega)
 exact ⟨v', w', hrun, by unfold StrOwns; rw [List.length_append, List.map_append]; exact ho', hg⟩
theorem mem_kB {bs : List (List UInt8)} {k : ByteArray} : k ∈ kB bs ↔ k.data.toList ∈ bs := by
 unfold kB
 rw [List.mem_map]
 constructor
 ·rintro ⟨b, hb, rfl⟩
  simpa using hb
 ·intro h
  exact ⟨_, h, rfl⟩
theorem mem_bK {ks : List ByteArray} {b : List UInt8} : b ∈ bK ks ↔ (⟨b.toArray⟩ : ByteArray) ∈ ks := by
 unfold bK
 rw [List.mem_map]
 constructor
 ·rintro ⟨k, hk, rfl⟩
  exact hk
 ·intro h
  exact ⟨_, h, by simp⟩
theorem srtK_mem {ks : List ByteArray} {k : ByteArray} : k ∈ srtK ks ↔ k ∈ ks := by
 unfold srtK
 rw [mem_kB, List.mem_mergeSort, mem_bK]
theorem cmpK_mem {ks : List ByteArray} {k : ByteArray} (h : k ∈ cmpK ks) : k ∈ ks := by
 unfold cmpK at h
 rw [mem_kB] at h
 unfold compactUpTo at h
 obtain ⟨i, hi, e⟩ := List.mem_map.1 h
 have hl := List.mem_range.1 (List.mem_filter.1 hi).1
 have : (bK ks).toArray[i]! ∈ bK ks := by
  rw [getElem!_pos _ i (by simpa using hl)]
  simp
 rw [e] at this
 exact (mem_bK.1 this)
theorem cmpK_len (ks : List ByteArray) : (cmpK ks).length ≤ ks.length := by
 unfold cmpK compactUpTo
 rw [kB_len, List.length_map]
 refine Nat.le_trans (List.length_filter_le _ _) ?_
 rw [List.length_range, bK_len]
 exact Nat.le_refl _
def keysS (d : VsD) (s : SesD) (r : ByteArray × ByteArray) : List ByteArray := cmpK (srtK ((dkeys d.list ++ s.ws.map (·.k)).filter (inR r)))
def scanS (d : VsD) (s : SesD) (r : ByteArray × ByteArray) : List EntD := (seenL (viewS d s) (keysS d s r)).map kvE
theorem dkTo_mem {ds : List VerD} : ∀ (j : Nat) {k : ByteArray}, k ∈ dkTo ds j → ∃ i, ∃ h : i < ds.length, ds[i].k = k
 | 0, k, h => by simp [dkTo] at h
 | j + 1, k, h => by
  by_cases hj : j < ds.length
  ·by_cases hc : 0 < j ∧ (ds[j - 1]'(by omega)).k = ds[j].k
   ·rw [dk_again hj hc] at h
    exact dkTo_mem j h
   ·rw [dk_new hj hc] at h
    rcases List.mem_append.1 h with h | h
    ·exact dkTo_mem j h
    ·exact ⟨j, hj, (List.mem_singleton.1 h).symm⟩
  ·simp only [dkTo, dif_neg hj, List.append_nil] at h
   exact dkTo_mem j h
theorem ver_key {ds : List VerD} (ok : okVs ds = true) {i : Nat} (hi : i < ds.length) : ds[i].k.size ≤ maxLen := by
 have := verK_small (okVs_ver ok hi)
 unfold maxLen
 omega
theorem keysS_small {d : VsD} {s : SesD} {r : ByteArray × ByteArray} (ok : okVs d.list = true) (hw : okVs s.ws = true) {k : ByteArray} (h : k ∈ keysS d s r) : k.size ≤ maxLen := by
 have h1 := (List.mem_filter.1 (srtK_mem.1 (cmpK_mem h))).1
 rcases List.mem_append.1 h1 with h2 | h2
 ·obtain ⟨i, hi, rfl⟩ := dkTo_mem _ h2
  exact ver_key ok hi
 ·obtain ⟨x, hx, rfl⟩ := List.mem_map.1 h2
  obtain ⟨i, hi, rfl⟩ := List.getElem_of_mem hx
  exact ver_key hw hi
end Go.Proofs.YtdnjgbckkmbmfaaGreat

namespace Go.Proofs.YtdnjgbckkmbmfaaGreat
open Go.RowKit Go.Maps

def getS (o : Option VerD) (t : Int) : RepD := match o with
 | none => ⟨5, t, ⟨#[]⟩, []⟩
 | some x => ⟨0, t, x.v, []⟩
def fenG (d : VsD) (x : FenD) : VsD := ⟨d.next, d.list, d.fen ++ [x], d.ses⟩
theorem LgAt.time {w : World} {B lb m N g i : Nat} {h : ByteArray → Value} {f s : Sl} {hs : List SeH} {d : VsD} (q : LgAt w B lb m N h f s hs d) (hg : s.a = some ⟨g, 0, none⟩) (hi : i < hs.length) : w.cell? ⟨g, i * 3 + 1, none⟩ = some (.int .i64 hs[i].X.t) ∧ g < w.heap.size := by
 obtain ⟨g', hg', -, -, hl, -, c1, -⟩ := q.vz.sesAt hi
 rw [hg] at hg'
 injection hg' with hg'
 injection hg' with hg' _ _
 subst hg'
 exact ⟨c1, hl⟩
set_option maxHeartbeats 8000000 in
theorem get_any (lb B m N g i : Nat) (h : ByteArray → Value) (f s : Sl) (hs : List SeH) (d : VsD) (k : ByteArray) (w : World) (q : LgAt w B lb m N h f s hs d) (hg : s.a = some ⟨g, 0, none⟩) (hi : i < hs.length) (ok : okVs d.list = true) (hl : d.list.length ≤ 4096) (hk : k.size ≤ 40) (hws : wrV hs[i].X.ws hs[i].X.t = true) (hf : d.fen.length < 4096) (hB : B ≤ w.heap.size) :
  Calls Tryz.prog 104 #[.pointer (some ⟨lb, 0, none⟩), .pointer (some ⟨g, i * 3, none⟩), .string k] w (LaRes B lb m N s (fenG d ⟨k, nulK k, hs[i].X.t⟩, getS (viewS d hs[i].X k) hs[i].X.t) w) := by
 obtain ⟨W, hW⟩ : ∃ W, W = w.alloc (.cells zRep 40) := ⟨_, rfl⟩
 have bW : Below w.heap.size w W := by rw [hW]; exact (Below.refl _ _).alloc (Nat.le_refl _) _
 have kW : W.heap[w.heap.size]? = some (.cells zRep 40 (0, 0)) := by rw [hW]; exact heap_alloc_new _ _
 have qW := q.below bW
 have c1 := (qW.time hg hi).1
 have c1w := c1
 rw [hW] at c1w
 have hcat : ∀ w', (Op.stringOp .add k ⟨#[0]⟩).run Tryz.prog w' = .ok (.string (k ++ ⟨#[0]⟩)) w' := fun w' => run_string_add_sum w' k ⟨#[0]⟩ (by show k.size + 1 ≤ 9223372036854775807; omega)
 have CN := hide (note_any lb B m N h f s hs d ⟨k, nulK k, hs[i].X.t⟩ W qW hf (Nat.le_trans hB bW.size))
 unfold fv nulK at CN
 simp only at CN
 have VO := hide (fun (u : World) (f' : Sl) (qu : LgAt u B lb m N h f' s hs (fenG d ⟨k, nulK k, hs[i].X.t⟩)) => viewOf_any lb B m N g i h f' s hs _ u qu hg hi)
 have VI := hide (fun (u : World) (f' : Sl) (p1 p2 hb tb : Nat) (qu : LgAt u B lb m N h f' s hs (fenG d ⟨k, nulK k, hs[i].X.t⟩)) (hv : ViewAt u p1 p2 hb tb g i m hs[i].X.t) => show Calls Tryz.prog 137 #[.string k, .pointer (some ⟨p1, 0, none⟩), .pointer (some ⟨p2, 0, none⟩)] u fun e w' => VwGives (viewS d hs[i].X k) u e w' from viewO_any lb B m N g i p1 p2 hb tb h f' s hs _ k u qu hg hi hv ok hl (by unfold maxLen; omega) hws)
 have LW0 := hide (LgW.of_below (B := B) bW)
 have KW := hide kW
 have TM := hide (fun (u : World) (f' : Sl) (qu : LgAt u B lb m N h f' s hs (fenG d ⟨k, nulK k, hs[i].X.t⟩)) => qu.time hg hi)
 have HW := hide hW
 clear q qW bW kW hg ok hl hws hf hB c1
 generalize viewS d hs[i].X k = vs at *
 generalize hs[i].X.t = t at *
 have ENIL := hide (show ∀ u C, EOwns u C (.slice none 0 0) [] from fun u C => World.ownsRow_nil _ _ _ _)
 clear hW
 go_enter Tryz.func104, Tryz.ntmps104
 go_wp2_with fail
 rw [← unhide HW]
 clear c1w HW
 refine (unhide CN).mono ?_
 rintro e w1 ⟨rfl, ⟨f1, q1⟩, lw1⟩
 have Q1 := hide (show LgAt w1 B lb m N h f1 s hs (fenG d ⟨k, nulK k, t⟩) from q1)
 have K1 := hide (lw1.box (unhide KW) ⟨by decide, by decide, by decide, by decide⟩)
 have LW1 := hide ((unhide LW0).trans lw1)
 clear CN q1 lw1 hcat LW0 KW
 generalize fenG d ⟨k, nulK k, t⟩ = d1 at *
 go_wp2_with fail
 refine (unhide VO w1 f1 (unhide Q1)).mono ?_
 rintro e w2 ⟨p1, p2, hb, tb, rfl, hv, b2⟩
 have Q2 := hide ((unhide Q1).below b2)
 have K2 := hide ((b2.block _ (blk_lt (unhide K1))).trans (unhide K1))
 have LW2 := hide ((unhide LW1).trans (LgW.of_below b2))
 have CV := hide (unhide VI w2 f1 p1 p2 hb tb (unhide Q2) hv)
 clear VO VI Q1 K1 LW1 hv b2
 go_wp2_with fail
 refine (unhide CV).mono ?_
 intro e w3 hr
 clear CV
 rcases hr with ⟨x, rfl, rfl, b3⟩ | ⟨x, rfl, rfl, b3⟩
 ·have bA : Below w3.heap.size w3 (w3.alloc (.cells #[.string x.k, .int .i64 x.t, .string x.v, .bool x.g] 43)) := (Below.refl _ _).alloc (Nat.le_refl _) _
  have b4 := b3.trans (bA.mono b3.size)
  have Q4 := hide ((unhide Q2).below b4)
  have K4 := hide ((b4.block _ (blk_lt (unhide K2))).trans (unhide K2))
  have LW4 := hide ((unhide LW2).trans (LgW.of_below b4))
  have KX := hide (heap_alloc_new w3 (.cells #[.string x.k, .int .i64 x.t, .string x.v, .bool x.g] 43))
  have RES := hide (fun (u : World) (hu : Below (w3.alloc (.cells #[.string x.k, .int .i64 x.t, .string x.v, .bool x.g] 43)).heap.size (w3.alloc (.cells #[.string x.k, .int .i64 x.t, .string x.v, .bool x.g] 43)) u) => show LgAt (sv4 u w.heap.size (.int .i64 5) (.int .i64 t) (.string ⟨#[]⟩) (.slice none 0 0)) B lb m N h f1 s hs d1 ∧ LgW B w (sv4 u w.heap.size (.int .i64 5) (.int .i64 t) (.string ⟨#[]⟩) (.slice none 0 0)) from ⟨((unhide Q4).below hu).rep ((hu.block _ (blk_lt (unhide K4))).trans (unhide K4)) _ _ _ _, ((unhide LW4).trans (LgW.of_below hu)).sv (Nat.le_refl _) _ _ _ _⟩)
  have c1 := (unhide TM _ f1 (unhide Q4)).1
  have z0 := (heap_at (unhide K4) 0).1
  have z1 := (heap_at (unhide K4) 1).1
  have z2 := (heap_at (unhide K4) 2).1
  have z3 := (heap_at (unhide K4) 3).1
  have zf0 := (heap_at (unhide K4) 0).2
  have zf1 := (heap_at (unhide K4) 1).2
  have zf2 := (heap_at (unhide K4) 2).2
  have zf3 := (heap_at (unhide K4) 3).2
  have RES2 := hide (unhide RES _ (Below.refl _ _))
  have KE := hide (sv4_heap (unhide K4) (.int .i64 5) (.int .i64 t) (.string ⟨#[]⟩) (.slice none 0 0))
  unfold sv4 at RES2 KE
  clear RES Q2 Q4 K2 K4 LW2 LW4 KX b3 bA b4 TM
  unfold vv
  go_wp2_with fail
  have x0 := (heap_at (unhide KE) 0).1
  have x1 := (heap_at (unhide KE) 1).1
  have x2 := (heap_at (unhide KE) 2).1
  have x3 := (heap_at (unhide KE) 3).1
  refine bodyPost_ret (v := .agg #[.int .i64 5, .int .i64 t, .string ⟨#[]⟩, .slice none 0 0]) (by simp [results, Tryz.results104, go_sem, *]) rfl ?_
  exact ⟨N, h, f1, hs, nilS, rfl, (unhide RES2).1, unhide ENIL _ _, (unhide RES2).2, by omega⟩
 ·have bA : Below w3.heap.size w3 (w3.alloc (.cells #[.string x.k, .int .i64 x.t, .string x.v, .bool x.g] 43)) := (Below.refl _ _).alloc (Nat.le_refl _) _
  have b4 := b3.trans (bA.mono b3.size)
  have Q4 := hide ((unhide Q2).below b4)
  have K4 := hide ((b4.block _ (blk_lt (unhide K2))).trans (unhide K2))
  have LW4 := hide ((unhide LW2).trans (LgW.of_below b4))
  have KX := hide (heap_alloc_new w3 (.cells #[.string x.k, .int .i64 x.t, .string x.v, .bool x.g] 43))
  have RES := hide (fun (u : World) (hu : Below (w3.alloc (.cells #[.string x.k, .int .i64 x.t, .string x.v, .bool x.g] 43)).heap.size (w3.alloc (.cells #[.string x.k, .int .i64 x.t, .string x.v, .bool x.g] 43)) u) => show LgAt (sv4 u w.heap.size (.int .i64 0) (.int .i64 t) (.string x.v) (.slice none 0 0)) B lb m N h f1 s hs d1 ∧ LgW B w (sv4 u w.heap.size (.int .i64 0) (.int .i64 t) (.string x.v) (.slice none 0 0)) from ⟨((unhide Q4).below hu).rep ((hu.block _ (blk_lt (unhide K4))).trans (unhide K4)) _ _ _ _, ((unhide LW4).trans (LgW.of_below hu)).sv (Nat.le_refl _) _ _ _ _⟩)
  have c1 := (unhide TM _ f1 (unhide Q4)).1
  have zg := (unhide TM _ f1 (unhide Q4)).2
  have zx : w3.heap.size < (w3.alloc (.cells #[.string x.k, .int .i64 x.t, .string x.v, .bool x.g] 43)).heap.size := by simp
  have SK := hide (show ∀ u, LgAt u B lb m N h f1 s hs d1 ∧ u.heap[w3.heap.size]? = some (.cells #[.string x.k, .int .i64 x.t, .string x.v, .bool x.g] 43) → (fun u : World => u.cell? ⟨g, i * 3 + 1, none⟩ = some (.int .i64 t) ∧ u.cell? ⟨w3.heap.size, 2, none⟩ = some (.string x.v)) u from fun u hu => ⟨(unhide TM u f1 hu.1).1, (heap_at hu.2 2).1⟩)
  have G0 := hide (show LgAt (w3.alloc (.cells #[.string x.k, .int .i64 x.t, .string x.v, .bool x.g] 43)).drew B lb m N h f1 s hs d1 ∧ (w3.alloc (.cells #[.string x.k, .int .i64 x.t, .string x.v, .bool x.g] 43)).drew.heap[w3.heap.size]? = some (.cells #[.string x.k, .int .i64 x.t, .string x.v, .bool x.g] 43) from ⟨(unhide Q4).below (Below.refl _ _).drew, unhide KX⟩)
  have K5 := hide (show (w3.alloc (.cells #[.string x.k, .int .i64 x.t, .string x.v, .bool x.g] 43)).drew.heap[w.heap.size]? = _ from unhide K4)
  have RES2 := hide (unhide RES (w3.alloc (.cells #[.string x.k, .int .i64 x.t, .string x.v, .bool x.g] 43)).drew (Below.refl _ _).drew)
  have hne : w.heap.size ≠ w3.heap.size := by have h1 := blk_lt (unhide K2); have := b3.size; omega
  clear RES Q2 Q4 K2 K4 LW2 LW4 KX b3 bA b4 TM c1 zg
  unfold vv
  go_upto_region 6 with fail
  refine wp_region_held_drew (S := (fun u : World => u.cell? ⟨g, i * 3 + 1, none⟩ = some (.int .i64 t) ∧ u.cell? ⟨w3.heap.size, 2, none⟩ = some (.string x.v))) (by kernel_rfl) (unhide SK _ (unhide G0)) (fun hHeld => ?_)
  generalize (w3.alloc (.cells #[.string x.k, .int .i64 x.t, .string x.v, .bool x.g] 43)).drew = u0 at *
  refine tk 0 36 rfl rfl hHeld ?_
  simp only [Act.put, lA, lB, lC]
  refine tk 1 37 rfl rfl hHeld ?_
  simp only [Act.put, lA, lB, lC]
  refine tk 2 38 rfl rfl hHeld ?_
  simp only [Act.put, lA, lB, lC]
  refine tk 3 39 rfl rfl hHeld ?_
  simp only [Act.put, lA, lB, lC]
  refine tk 4 40 rfl rfl hHeld ?_
  simp only [Act.put, lA, lB, lC]
  refine tk 5 41 rfl rfl hHeld ?_
  simp only [Act.put, lA, lB, lC]
  refine tk 6 42 rfl rfl hHeld ?_
  simp only [Act.put, lA, lB, lC]
  refine rd [7] (.cons rfl (fun K hK => ?_) .nil)
  have K2 := unhide K5
  have y0 := (heap_at K2 0).1
  have y1 := (heap_at K2 1).1
  have y2 := (heap_at K2 2).1
  have y3 := (heap_at K2 3).1
  have zf0 := (heap_at K2 0).2
  have zf1 := (heap_at K2 1).2
  have zf2 := (heap_at K2 2).2
  have zf3 := (heap_at K2 3).2
  have KE := hide (sv4_heap K2 (.int .i64 0) (.int .i64 t) (.string x.v) (.slice none 0 0))
  have GE := hide (show LgAt (sv4 u0 w.heap.size (.int .i64 0) (.int .i64 t) (.string x.v) (.slice none 0 0)) B lb m N h f1 s hs d1 ∧ (sv4 u0 w.heap.size (.int .i64 0) (.int .i64 t) (.string x.v) (.slice none 0 0)).heap[w3.heap.size]? = some (.cells #[.string x.k, .int .i64 x.t, .string x.v, .bool x.g] 43) from ⟨(unhide RES2).1, ((sv4_wr u0 w.heap.size (.int .i64 0) (.int .i64 t) (.string x.v) (.slice none 0 0)).block _ (blk_lt (unhide G0).2) (Ne.symm hne)).trans (unhide G0).2⟩)
  unfold sv4 at KE GE RES2
  go_simp
  clear K2 y0 y1 y2 y3 zf0 zf1 zf2 zf3
  refine hK.out _ _ (unhide SK _ (unhide GE)) (fun hHeld => ?_)
  clear hK K
  refine wpAnyH_done (by kernel_rfl) ?_ _
  clear hHeld SK K5 G0 GE
  generalize (((u0.setCell ⟨w.heap.size, 0, none⟩ (.int .i64 0)).setCell ⟨w.heap.size, 1, none⟩ (.int .i64 t)).setCell ⟨w.heap.size, 2, none⟩ (.string x.v)).setCell ⟨w.heap.size, 3, none⟩ (.slice none 0 0) = uE at *
  have x0 := (heap_at (unhide KE) 0).1
  have x1 := (heap_at (unhide KE) 1).1
  have x2 := (heap_at (unhide KE) 2).1
  have x3 := (heap_at (unhide KE) 3).1
  go_wp2_with fail
  refine bodyPost_ret (v := .agg #[.int .i64 0, .int .i64 t, .string x.v, .slice none 0 0]) (by simp [results, Tryz.results104, go_sem, *]) rfl ?_
  exact ⟨N, h, f1, hs, nilS, rfl, (unhide RES2).1, unhide ENIL _ _, (unhide RES2).2, by omega⟩
end Go.Proofs.YtdnjgbckkmbmfaaGreat

namespace Go.Proofs.YtdnjgbckkmbmfaaGreat
open Go.RowKit Go.Maps

theorem thrBx {w : World} {c1 c2 c3 : Array Value} {t1 t2 t3 : TypeId} {W : World} (hW : W = ((w.alloc (.cells c1 t1)).alloc (.cells c2 t2)).alloc (.cells c3 t3)) :
  Below w.heap.size w W ∧ W.heap[w.heap.size]? = some (.cells c1 t1 (0, 0)) ∧ W.heap[w.heap.size + 1]? = some (.cells c2 t2 (0, 0)) ∧ W.heap[w.heap.size + 1 + 1]? = some (.cells c3 t3 (0, 0)) ∧ W.heap.size = w.heap.size + 1 + 1 + 1 := by
 obtain ⟨V, hV⟩ : ∃ V, V = (w.alloc (.cells c1 t1)).alloc (.cells c2 t2) := ⟨_, rfl⟩
 obtain ⟨b, k1, k2, hz⟩ := twoBx hV
 rw [← hV] at hW
 have b3 : Below V.heap.size V W := by rw [hW]; exact (Below.refl _ _).alloc (Nat.le_refl _) _
 refine ⟨b.trans (b3.mono b.size), (b3.block _ (blk_lt k1)).trans k1, (b3.block _ (blk_lt k2)).trans k2, ?_, by rw [hW]; simp [hz]⟩
 rw [hW, ← hz]
 exact heap_alloc_new _ _
set_option maxHeartbeats 3000000 in
theorem scan_any (lb B m N g i : Nat) (h : ByteArray → Value) (f s : Sl) (hs : List SeH) (d : VsD) (lo hi2 : ByteArray) (w : World) (q : LgAt w B lb m N h f s hs d) (hg : s.a = some ⟨g, 0, none⟩) (hi : i < hs.length) (ok : okVs d.list = true) (hl : d.list.length ≤ 4096) (hws : wrV hs[i].X.ws hs[i].X.t = true) (hf : d.fen.length < 4096) (hN : N ≤ 100000) (hB : B ≤ w.heap.size) :
  Calls Tryz.prog 105 #[.pointer (some ⟨lb, 0, none⟩), .pointer (some ⟨g, i * 3, none⟩), .string lo, .string hi2] w (LaRes B lb m N s (fenG d ⟨lo, hi2, hs[i].X.t⟩, ⟨0, hs[i].X.t, ⟨#[]⟩, scanS d hs[i].X (lo, hi2)⟩) w) := by
 obtain ⟨W, hW⟩ : ∃ W, W = ((w.alloc (.cells #[.string lo] 9)).alloc (.cells #[.string hi2] 9)).alloc (.cells zRep 40) := ⟨_, rfl⟩
 obtain ⟨bW, k1, k2, k3, hz⟩ := thrBx hW
 have qW := q.below bW
 have CN := hide (note_any lb B m N h f s hs d ⟨lo, hi2, hs[i].X.t⟩ W.drew (qW.below (Below.refl _ _).drew) hf (Nat.le_trans hB bW.size))
 unfold fv at CN
 simp only at CN
 have LW0 := hide (LgW.of_below (B := B) (bW.drew))
 have K1 := hide (show W.drew.heap[w.heap.size]? = _ from k1)
 have K2 := hide (show W.drew.heap[w.heap.size + 1]? = _ from k2)
 have K3 := hide (show W.drew.heap[w.heap.size + 1 + 1]? = _ from k3)
 have c1 := (qW.time hg hi).1
 have SK0 := hide (show (fun u : World => u.cell? ⟨g, i * 3 + 1, none⟩ = some (.int .i64 hs[i].X.t) ∧ u.cell? ⟨w.heap.size, 0, none⟩ = some (.string lo) ∧ u.cell? ⟨w.heap.size + 1, 0, none⟩ = some (.string hi2)) W.drew from ⟨c1, (heap_at k1 0).1, (heap_at k2 0).1⟩)
 have TM := hide (fun (u : World) (f' : Sl) (qu : LgAt u B lb m N h f' s hs (fenG d ⟨lo, hi2, hs[i].X.t⟩)) => qu.time hg hi)
 have SE := hide (fun (u : World) (f' : Sl) (qu : LgAt u B lb m N h f' s hs (fenG d ⟨lo, hi2, hs[i].X.t⟩)) => qu.vz.sesAt hi)
 have VO := hide (fun (u : World) (f' : Sl) (qu : LgAt u B lb m N h f' s hs (fenG d ⟨lo, hi2, hs[i].X.t⟩)) => viewOf_any lb B m N g i h f' s hs _ u qu hg hi)
 have KA := hide (fun (u : World) (f' : Sl) (qu : LgAt u B lb m N h f' s hs (fenG d ⟨lo, hi2, hs[i].X.t⟩)) => keys_any m N (m + 1) h d.list u qu.his ok hN)
 have hwl := hws
 unfold wrV at hwl
 simp only [Bool.and_eq_true, decide_eq_true_eq] at hwl
 have VI := hide (fun (u : World) (f' : Sl) (p1 p2 hb tb : Nat) (k : ByteArray) (hk : k ∈ keysS d hs[i].X (lo, hi2)) (qu : LgAt u B lb m N h f' s hs (fenG d ⟨lo, hi2, hs[i].X.t⟩)) (hv : ViewAt u p1 p2 hb tb g i m hs[i].X.t) => show Calls Tryz.prog 137 #[.string k, .pointer (some ⟨p1, 0, none⟩), .pointer (some ⟨p2, 0, none⟩)] u fun e w' => VwGives (viewS d hs[i].X k) u e w' from viewO_any lb B m N g i p1 p2 hb tb h f' s hs _ k u qu hg hi hv ok hl (keysS_small ok hwl.2.1 hk) hws)
 have DL := hide (show (dkeys d.list).length ≤ 4096 from Nat.le_trans (dkTo_len d.list _) hl)
 have HG := hide hg
 have hw8 : hs[i].X.ws.length ≤ 8 := hwl.1
 have HZ := hide hz
 have SCS := hide (show scanS d hs[i].X (lo, hi2) = (seenL (viewS d hs[i].X) (keysS d hs[i].X (lo, hi2))).map kvE from rfl)
 have KSS := hide (show keysS d hs[i].X (lo, hi2) = cmpK (srtK ((dkeys d.list ++ hs[i].X.ws.map (·.k)).filter (inR (lo, hi2)))) from rfl)
 generalize scanS d hs[i].X (lo, hi2) = SC at *
 generalize keysS d hs[i].X (lo, hi2) = KS at *
 generalize viewS d hs[i].X = VS at *
 generalize dkeys d.list = DK at *
 clear q qW bW k1 k2 k3 c1 ok hl hws hwl hf hN hz
 go_enter Tryz.func105, Tryz.ntmps105
 go_upto_region 1 with fail
 rw [← hW]
 clear hW
 refine wp_region_held_drew (S := (fun u : World => u.cell? ⟨g, i * 3 + 1, none⟩ = some (.int .i64 hs[i].X.t) ∧ u.cell? ⟨w.heap.size, 0, none⟩ = some (.string lo) ∧ u.cell? ⟨w.heap.size + 1, 0, none⟩ = some (.string hi2))) (by kernel_rfl) (unhide SK0) (fun hHeld => ?_)
 have HZ := hide (show W.drew.heap.size = w.heap.size + 1 + 1 + 1 from unhide HZ)
 generalize W.drew = u0 at *
 refine tk 0 12 rfl rfl hHeld ?_
 simp only [Act.put, lA, lB, lC]
 refine tk 1 13 rfl rfl hHeld ?_
 simp only [Act.put, lA, lB, lC]
 refine tk 2 14 rfl rfl hHeld ?_
 simp only [Act.put, lA, lB, lC]
 refine tk 3 15 rfl rfl hHeld ?_
 simp only [Act.put, lA, lB, lC]
 refine tk 4 16 rfl rfl hHeld ?_
 simp only [Act.put, lA, lB, lC]
 refine tk 5 17 rfl rfl hHeld ?_
 simp only [Act.put, lA, lB, lC]
 refine tk 6 18 rfl rfl hHeld ?_
 simp only [Act.put, lA, lB, lC]
 refine tk 7 19 rfl rfl hHeld ?_
 simp only [Act.put, lA, lB, lC]
 refine rd [8] (.cons rfl (fun K hK => ?_) .nil)
 go_simp
 refine (unhide CN).mono ?_
 rintro e w1 ⟨rfl, ⟨f1, q1⟩, lw1⟩
 have Q1 := hide (show LgAt w1 B lb m N h f1 s hs (fenG d ⟨lo, hi2, hs[i].X.t⟩) from q1)
 have P1 := hide (lw1.box (unhide K1) ⟨by decide, by decide, by decide, by decide⟩)
 have P2 := hide (lw1.box (unhide K2) ⟨by decide, by decide, by decide, by decide⟩)
 have P3 := hide (lw1.box (unhide K3) ⟨by decide, by decide, by decide, by decide⟩)
 have LW1 := hide ((unhide LW0).trans lw1)
 have zz : w.heap.size + 1 + 1 + 1 ≤ w1.heap.size := by have h1 := lw1.size; have h2 := unhide HZ; have h3 : u0.heap.size = w.heap.size + 1 + 1 + 1 := h2; omega
 clear CN q1 lw1 LW0 K1 K2 K3 SK0
 refine hK.out _ _ (⟨(unhide TM w1 f1 (unhide Q1)).1, (heap_at (unhide P1) 0).1, (heap_at (unhide P2) 0).1⟩) (fun hHeld => ?_)
 clear hK K
 refine tk 9 21 rfl rfl hHeld ?_
 simp only [Act.put, lA, lB, lC]
 refine wpAnyH_done (by kernel_rfl) ?_ _
 clear hHeld
 obtain ⟨g', hg', -, -, -, -, -, c2, hwo, -⟩ := unhide SE w1 f1 (unhide Q1)
 rw [unhide HG] at hg'
 injection hg' with hg'
 injection hg' with hg' _ _
 subst hg'
 have RW := hide (vrow_of_owns hwo)
 have hwn : hs[i].s0.n = hs[i].X.ws.length := owns_n hwo
 have TM1 := hide (unhide TM w1 f1 (unhide Q1))
 have C2 := hide c2
 clear hwo c2 SE HG
 generalize hd1 : fenG d ⟨lo, hi2, hs[i].X.t⟩ = d1 at *
 have HD1 := hide hd1
 clear hd1
 generalize ht1 : hs[i].X.t = t at *
 have HT1 := hide ht1
 clear ht1
 generalize hs[i].X.ws = ws at *
 generalize hs[i].s0 = s0 at *
 obtain ⟨wa, wn, wc⟩ := s0
 simp only at C2 RW hwn
 have l1 := (heap_at (unhide Q1).box 1).1
 simp only [List.getElem?_toArray, List.getElem?_cons_zero, List.getElem?_cons_succ] at l1
 have KA1 := hide (unhide KA w1 f1 (unhide Q1))
 clear KA
 go_wp2_with fail
 clear l1
 refine (unhide KA1).mono ?_
 rintro e w2 ⟨v2, rfl, o2, b2⟩
 clear KA1
 have c2 := (b2.cell (p := ⟨g, i * 3 + 2, none⟩) (cell_lt (unhide C2))).trans (unhide C2)
 have O2 := hide (show StrOwns w2 w1.heap.size v2 (DK ++ (ws.take 0).map (·.k)) by rw [List.take_zero, List.map_nil, List.append_nil]; exact o2)
 have B2 := hide b2
 clear o2 b2
 go_wp2_with fail
 clear c2
 go_loopw [9, 33] (fun o' i wr => ∃ (j : Nat) (o : Value), o' = o ∧ i = .int .i64 (j : Int) ∧ j ≤ wn ∧ Hid (StrOwns wr w1.heap.size o (DK ++ (ws.take j).map (·.k))) ∧ Hid (Below w1.heap.size w1 wr)) (fun _ i _ => wn - (intOf i).toNat)
 case atStart => exact ⟨0, _, rfl, rfl, Nat.zero_le _, O2, B2⟩
 case round =>
  clear O2 B2
  obtain ⟨j, o, rfl, rfl, hj, hO, hB2⟩ := hrel
  by_cases hlt : j < wn
  ·have hj2 : j < ws.length := by omega
   obtain ⟨b, off, ea, d0, d1', d2, d3⟩ := ((unhide RW).below (unhide hB2)).2 j hj2
   subst ea
   have ZS := hide (show DK ++ (ws.take (j + 1)).map (·.k) = DK ++ (ws.take j).map (·.k) ++ [ws[j].k] by rw [rb_take_snoc ws j hj2, List.map_append, List.append_assoc]; rfl)
   have hel : (DK ++ (ws.take j).map (·.k)).length ≤ 4104 := by rw [List.length_append, List.length_map, List.length_take]; have := unhide DL; omega
   generalize ws[j] = pk at *
   obtain ⟨xk, xt, xv, xg⟩ := pk
   simp only at d0 d1' d2 d3 ZS
   have bA := (unhide hB2).alloc (unhide hB2).size (.cells #[.string xk, .int .i64 xt, .string xv, .bool xg] 43)
   have oA := rb_ownsRow_below (unhide hO) ((Below.refl _ _).alloc (Nat.le_refl _) (.cells #[.string xk, .int .i64 xt, .string xv, .bool xg] 43))
   have x0 : (wr.alloc (.cells #[.string xk, .int .i64 xt, .string xv, .bool xg] 43)).cell? ⟨wr.heap.size, 0, none⟩ = some (.string xk) := (heap_at (heap_alloc_new wr (.cells #[.string xk, .int .i64 xt, .string xv, .bool xg] 43)) 0).1
   go_upto_region 7 with fail
   clear d0 d1' d2 d3
   generalize wr.alloc (.cells #[.string xk, .int .i64 xt, .string xv, .bool xg] 43) = W3 at *
   generalize wr.heap.size = bx at *
   obtain ⟨v', w', hr', ho', hg'⟩ := str_app xk oA (by omega) bA.size
   have BF := hide ((bA.alloc bA.size _).grown hg' (by have := bA.size; simp; omega) (fun k hk => (oA.lt k hk).1))
   have HF := hide (show StrOwns w' w1.heap.size v' (DK ++ (ws.take (j + 1)).map (·.k)) by rw [unhide ZS]; exact ho')
   clear oA bA ZS ho' hg' hO
   go_wp2_with (at_builtin; refine ky_wpApp rfl (.tmp 37) (.tmp 40) 136 rfl _ _ _ w' rfl rfl hr' ?_)
   go_roundw
   case rel => exact ⟨j + 1, _, rfl, by go_num, by omega, unhide HF, unhide BF⟩
   case measure => simp [intOf]; omega
  ·obtain rfl : j = wn := by omega
   have O3 := hide (show StrOwns wr w1.heap.size u9 (DK ++ ws.map (·.k)) by
    have := unhide hO
    rwa [List.take_of_length_le (by omega)] at this)
   have B3 := hide (unhide hB2)
   clear hO hB2 RW
   obtain ⟨⟨ka, kn, kc⟩, hk9, hkn⟩ := v_slice (unhide O3)
   simp only at hk9 hkn
   have hkn2 : kn ≤ 4104 := by rw [hkn, List.length_append, List.length_map]; have := unhide DL; omega
   rw [hk9] at O3
   have r1 := ((unhide B3).block _ (by omega)).trans (unhide P1)
   have r2 := ((unhide B3).block _ (by omega)).trans (unhide P2)
   have CD := hide (deleteS_any w1.heap.size w.heap.size (w.heap.size + 1) ka kn kc _ (lo, hi2) wr (by omega) (unhide O3) (heap_at r1 0).1 (heap_at r2 0).1 (unhide B3).size (fun e => by have := ((unhide O3).lt _ e).1; omega) (fun e => by have := ((unhide O3).lt _ e).1; omega))
   have LT3 := hide (fun k hk => ((unhide O3).lt k hk).1)
   clear r1 r2 O3 hkn
   subst hk9
   have hmf : ∀ (fn : Fn) (first cap : Array Value) (w : World), (Instr.makeFunc fn first cap).run Tryz.prog w = .ok (.func fn first cap) w := fun _ _ _ _ => rfl
   go_wp2_with fail
   refine (unhide CD).mono ?_
   rintro e w4 ⟨v4, rfl, o4, g4⟩
   have B4 := hide ((unhide B3).grown g4 (unhide B3).size (unhide LT3))
   have hn4 : ((DK ++ ws.map (·.k)).filter (inR (lo, hi2))).length ≤ 100000 := by
    refine Nat.le_trans (List.length_filter_le _ _) ?_
    rw [List.length_append, List.length_map]
    have := unhide DL
    omega
   have CS := hide (sortS_any w1.heap.size v4 _ w4 o4 hn4)
   have LT4 := hide (fun k hk => (o4.lt k hk).1)
   clear CD B3 LT3 o4 g4
   go_wp2_with fail
   refine (unhide CS).mono ?_
   rintro e w5 ⟨rfl, o5, g5⟩
   have B5 := hide ((unhide B4).grown g5 (unhide B4).size (unhide LT4))
   have O5 := hide o5
   clear CS B4 LT4 o5 g5
   have hn5 : (srtK ((DK ++ ws.map (·.k)).filter (inR (lo, hi2)))).length ≤ 100000 := by rw [srtK_len]; exact hn4
   have KSL := hide (show KS.length ≤ 100000 by rw [unhide KSS]; exact Nat.le_trans (cmpK_len _) hn5)
   have SK := hide (show ∀ u, Below w1.heap.size w1 u → (fun u : World => u.cell? ⟨g, i * 3 + 1, none⟩ = some (.int .i64 t)) u from fun u hu => (hu.cell (p := ⟨g, i * 3 + 1, none⟩) (unhide TM1).2).trans (unhide TM1).1)
   have G0 := hide (unhide B5).drew
   have R0 := hide (show StrOwns w5.drew w1.heap.size v4 (srtK ((DK ++ ws.map (·.k)).filter (inR (lo, hi2)))) from unhide O5)
   clear O5 B5 hn4 P1 P2
   go_upto_region 11 with fail
   refine wp_region_held_drew (S := (fun u : World => u.cell? ⟨g, i * 3 + 1, none⟩ = some (.int .i64 t))) (by kernel_rfl) (unhide SK _ (unhide G0)) (fun hHeld => ?_)
   generalize w5.drew = u0 at *
   refine tk 0 48 rfl rfl hHeld ?_
   simp only [Act.put, lA, lB, lC]
   refine tk 1 49 rfl rfl hHeld ?_
   simp only [Act.put, lA, lB, lC]
   refine tk 2 50 rfl rfl hHeld ?_
   simp only [Act.put, lA, lB, lC]
   refine tk 3 51 rfl rfl hHeld ?_
   simp only [Act.put, lA, lB, lC]
   refine tk 4 52 rfl rfl hHeld ?_
   simp only [Act.put, lA, lB, lC]
   refine tk 6 54 rfl rfl hHeld ?_
   simp only [Act.put, lA, lB, lC]
   refine tk 7 55 rfl rfl hHeld ?_
   simp only [Act.put, lA, lB, lC]
   refine rd [5] (.cons rfl (fun K hK => ?_) .nil)
   go_simp
   refine (compactS_any w1.heap.size v4 _ u0 (unhide R0) hn5).mono ?_
   rintro e u5 ⟨v6, rfl, o6, g6⟩
   have G5 := hide ((unhide G0).grown g6 (unhide G0).size (fun k hk => ((unhide R0).lt k hk).1))
   rw [← unhide KSS] at o6
   obtain ⟨⟨xa, xn, xc⟩, e6, hxn⟩ := v_slice o6
   simp only at e6 hxn
   subst e6
   have R5 := hide o6
   have HXN := hide hxn
   clear o6 g6 hxn R0
   refine hK.out _ _ (unhide SK _ (unhide G5)) (fun hHeld => ?_)
   clear hK K
   refine rd [8] (.cons rfl (fun K hK => ?_) .nil)
   go_simp
   refine (unhide VO u5 f1 ((unhide Q1).below (unhide G5))).mono ?_
   rintro e u5_8 ⟨p1, p2, hb, tb, rfl, va, b8⟩
   have G5_8 := hide ((unhide G5).trans (b8.mono (unhide G5).size))
   have R5_8 := hide (rb_ownsRow_below (unhide R5) b8)
   have VA := hide va
   clear va b8 R5
   refine hK.out _ _ (unhide SK _ (unhide G5_8)) (fun hHeld => ?_)
   clear hK K
   refine rd [9] (.cons rfl (fun K hK => ?_) .nil)
   have CE := hide (entriesSeenL_any xa xn xc KS (some ⟨p1, 0, none⟩) (some ⟨p2, 0, none⟩) VS u5_8 (by have := unhide KSL; have := unhide HXN; omega) (strrow_own (unhide R5_8)) (fun k hk x hx => unhide VI x f1 p1 p2 hb tb k hk ((unhide Q1).below ((unhide G5_8).trans (hx.mono (unhide G5_8).size))) ((unhide VA).below hx)))
   clear VI VO VA
   go_simp
   refine (unhide CE).mono ?_
   rintro e u5_8_9 ⟨v9, rfl, o9, b9⟩
   have G5_8_9 := hide ((unhide G5_8).trans (b9.mono (unhide G5_8).size))
   obtain ⟨⟨ra, rn, rc⟩, e9, -⟩ := v_slice o9
   simp only at e9
   subst e9
   have E9 := hide (show EOwns u5_8_9 w1.heap.size (.slice ra rn rc) SC by rw [unhide SCS]; exact rs_base (kowns_e o9) (unhide G5_8).size)
   clear CE o9 b9 R5_8
   refine hK.out _ _ (unhide SK _ (unhide G5_8_9)) (fun hHeld => ?_)
   clear hK K
   refine tk 10 58 rfl rfl hHeld ?_
   simp only [Act.put, lA, lB, lC]
   refine rd [11] (.cons rfl (fun K hK => ?_) .nil)
   have K2 := ((unhide G5_8_9).block _ (by omega)).trans (unhide P3)
   have y0 := (heap_at K2 0).1
   have y1 := (heap_at K2 1).1
   have y2 := (heap_at K2 2).1
   have y3 := (heap_at K2 3).1
   have zf0 := (heap_at K2 0).2
   have zf1 := (heap_at K2 1).2
   have zf2 := (heap_at K2 2).2
   have zf3 := (heap_at K2 3).2
   have KE := hide (sv4_heap K2 (.int .i64 0) (.int .i64 t) (.string ⟨#[]⟩) (.slice ra rn rc))
   have RES := hide (show LgAt (sv4 u5_8_9 (w.heap.size + 1 + 1) (.int .i64 0) (.int .i64 t) (.string ⟨#[]⟩) (.slice ra rn rc)) B lb m N h f1 s hs d1 ∧ LgW B w (sv4 u5_8_9 (w.heap.size + 1 + 1) (.int .i64 0) (.int .i64 t) (.string ⟨#[]⟩) (.slice ra rn rc)) ∧ EOwns (sv4 u5_8_9 (w.heap.size + 1 + 1) (.int .i64 0) (.int .i64 t) (.string ⟨#[]⟩) (.slice ra rn rc)) w.heap.size (.slice ra rn rc) SC from ⟨((unhide Q1).below (unhide G5_8_9)).rep K2 _ _ _ _, ((unhide LW1).trans (LgW.of_below (unhide G5_8_9))).sv (by omega) _ _ _ _, rs_base (rr_owns_wr (unhide E9) (sv4_wr u5_8_9 (w.heap.size + 1 + 1) (.int .i64 0) (.int .i64 t) (.string ⟨#[]⟩) (.slice ra rn rc)) (fun x hx e => by have := ((unhide E9).lt x hx).1; omega)) (by omega)⟩)
   unfold sv4 at KE RES
   go_simp
   clear K2 y0 y1 y2 y3 zf0 zf1 zf2 zf3
   refine hK.out _ _ ((unhide TM _ f1 (unhide RES).1).1) (fun hHeld => ?_)
   clear hK K
   refine wpAnyH_done (by kernel_rfl) ?_ _
   clear hHeld
   generalize (((u5_8_9.setCell ⟨w.heap.size + 1 + 1, 0, none⟩ (.int .i64 0)).setCell ⟨w.heap.size + 1 + 1, 1, none⟩ (.int .i64 t)).setCell ⟨w.heap.size + 1 + 1, 2, none⟩ (.string ⟨#[]⟩)).setCell ⟨w.heap.size + 1 + 1, 3, none⟩ (.slice ra rn rc) = uE at *
   have x0 := (heap_at (unhide KE) 0).1
   have x1 := (heap_at (unhide KE) 1).1
   have x2 := (heap_at (unhide KE) 2).1
   have x3 := (heap_at (unhide KE) 3).1
   go_wp2_with fail
   refine bodyPost_ret (v := .agg #[.int .i64 0, .int .i64 t, .string ⟨#[]⟩, .slice ra rn rc]) (by simp [results, Tryz.results105, go_sem, *]) rfl ?_
   have RES2 := unhide RES
   have h1 := unhide HD1
   have h2 := unhide HT1
   clear RES HD1 HT1 KE x0 x1 x2 x3
   subst h2
   subst h1
   exact ⟨N, h, f1, hs, ⟨ra, rn, rc⟩, rfl, RES2.1, RES2.2.2, RES2.2.1, by omega⟩
end Go.Proofs.YtdnjgbckkmbmfaaGreat

namespace Go.Proofs.YtdnjgbckkmbmfaaGreat
open Go.RowKit

def lookE (es : List EntD) (k : ByteArray) : Option ByteArray := (es.find? (fun e => e.k.toList == k.toList)).map (·.v)
theorem look_none {es : List EntD} {k : ByteArray} (h : ∀ i (hi : i < es.length), (es[i].k.toList == k.toList) = false) : lookE es k = none := by
 unfold lookE
 rw [List.find?_eq_none.2]
 ·rfl
 ·intro e he
  obtain ⟨i, hi, rfl⟩ := List.mem_iff_getElem.1 he
  rw [h i hi]; decide
theorem look_some {es : List EntD} {k : ByteArray} {i : Nat} (hi : i < es.length) (h0 : ∀ j (hj : j < es.length), j < i → (es[j].k.toList == k.toList) = false) (h : (es[i].k.toList == k.toList) = true) : lookE es k = some es[i].v := by
 unfold lookE
 have : es.find? (fun e => e.k.toList == k.toList) = some es[i] := by
  rw [List.find?_eq_some_iff_getElem]
  exact ⟨h, i, hi, rfl, fun j hj => by rw [h0 j (by omega) hj]; rfl⟩
 rw [this]
 rfl
theorem look_rise {es : List EntD} {k : ByteArray} (h : Rise es) : (found es k = true → ∀ hp : pos es k < es.length, lookE es k = some (es[pos es k]'hp).v) ∧ (found es k = false → lookE es k = none) := by
 have below : ∀ j (hj : j < es.length), j < pos es k → (es[j].k.toList == k.toList) = false := fun j hj hjp => by
  have hlt := pos_lt es k j hj hjp
  cases hq : (es[j].k.toList == k.toList)
  ·rfl
  ·have e : es[j].k = k := toList_inj (by simpa using hq)
   rw [e, ltK_irr] at hlt
   cases hlt
 refine ⟨fun hf hp => ?_, fun hf => ?_⟩
 ·obtain ⟨hp', hk⟩ := found_in hf
  exact look_some hp below (by rw [hk]; simp)
 ·refine look_none fun i hi => ?_
  rcases Nat.lt_or_ge i (pos es k) with h' | h'
  ·exact below i hi h'
  ·have hp : pos es k < es.length := by omega
   have h0 := found_not hf hp
   have : ltK k es[i].k = true := by
    rcases Nat.eq_or_lt_of_le h' with e | e
    ·subst e; exact h0
    ·exact ltK_trans h0 (h.lt hi e)
   cases hq : (es[i].k.toList == k.toList)
   ·rfl
   ·have e : es[i].k = k := toList_inj (by simpa using hq)
    rw [e, ltK_irr] at this
    cases this
theorem nek {k : ByteArray} {e : EntD} (h : e.k ≠ k) : (e.k.toList == k.toList) = false := by
 cases hq : (e.k.toList == k.toList) with
 | false => rfl
 | true => exact absurd (toList_inj (by simpa using hq)) h
theorem find_no {A : List EntD} {k : ByteArray} (h : ∀ e ∈ A, e.k ≠ k) : A.find? (fun e => e.k.toList == k.toList) = none :=
 List.find?_eq_none.2 (fun e he => by rw [nek (h e he)]; decide)
theorem look_app {A B : List EntD} {k : ByteArray} (h : ∀ e ∈ A, e.k ≠ k) : lookE (A ++ B) k = lookE B k := by
 unfold lookE
 rw [List.find?_append, find_no h]
 rfl
theorem look_app_r {A B : List EntD} {k : ByteArray} (h : ∀ e ∈ B, e.k ≠ k) : lookE (A ++ B) k = lookE A k := by
 unfold lookE
 rw [List.find?_append, find_no h]
 simp
theorem look_here {B : List EntD} {k v : ByteArray} : lookE (⟨k, v⟩ :: B) k = some v := by
 unfold lookE
 rw [List.find?_cons_of_pos (by simp)]
 rfl
theorem look_skip {B : List EntD} {e : EntD} {k : ByteArray} (h : e.k ≠ k) : lookE (e :: B) k = lookE B k := by
 unfold lookE
 rw [List.find?_cons_of_neg (by rw [nek h]; decide)]
theorem look_no {A : List EntD} {k : ByteArray} (h : ∀ e ∈ A, e.k ≠ k) : lookE A k = none := by
 have := look_app (B := []) h
 rw [List.append_nil] at this
 exact this
theorem look_mid {A B : List EntD} {e : EntD} {k : ByteArray} (h : e.k ≠ k) : lookE (A ++ e :: B) k = lookE (A ++ B) k := by
 unfold lookE
 rw [List.find?_append, List.find?_append, List.find?_cons_of_neg (by rw [nek h]; decide)]
theorem ltK_ne {a b : ByteArray} (h : ltK a b = true) : a ≠ b := fun e => by rw [e, ltK_irr] at h; cases h
theorem take_lt {es : List EntD} {k : ByteArray} : ∀ e ∈ es.take (pos es k), ltK e.k k = true := by
 intro e he
 obtain ⟨i, hi, rfl⟩ := List.mem_iff_getElem.1 he
 rw [List.getElem_take]
 rw [List.length_take] at hi
 exact pos_lt es k i (by omega) (by omega)
theorem drop_ge {es : List EntD} (h : Rise es) {k : ByteArray} : ∀ e ∈ es.drop (pos es k), ltK e.k k = false := by
 intro e he
 obtain ⟨i, hi, rfl⟩ := List.mem_iff_getElem.1 he
 rw [List.getElem_drop]
 rw [List.length_drop] at hi
 exact h.ge (i := pos es k) (by omega) (by omega) (pos_at es k (by omega))
theorem drop_gt {es : List EntD} (h : Rise es) {k : ByteArray} (hf : found es k = true) : ∀ e ∈ es.drop (pos es k + 1), ltK k e.k = true := by
 intro e he
 obtain ⟨hp, hk⟩ := found_in hf
 obtain ⟨i, hi, rfl⟩ := List.mem_iff_getElem.1 he
 rw [List.getElem_drop]
 rw [List.length_drop] at hi
 have := h.lt (i := pos es k) (j := pos es k + 1 + i) (by omega) (by omega)
 rw [hk] at this
 exact this
theorem look_step {es : List EntD} (h : Rise es) (d : DelD) : (d.kind = 1 → lookE (stepE es d) d.k = some d.v) ∧ (d.kind = 2 → lookE (stepE es d) d.k = none) := by
 have ht : ∀ e ∈ es.take (pos es d.k), e.k ≠ d.k := fun e he => ltK_ne (take_lt e he)
 constructor
 ·intro hk
  cases hf : found es d.k with
  | false =>
   rw [stepE_put_new hk hf, look_app ht, look_here]
  | true =>
   obtain ⟨hp, _⟩ := found_in hf
   rw [stepE_put_old hk hf, List.set_eq_take_append_cons_drop, if_pos hp, look_app ht, look_here]
 ·intro hk
  cases hf : found es d.k with
  | false => rw [stepE_drop_new hk hf]; exact (look_rise h).2 hf
  | true =>
   rw [stepE_drop_old hk hf, look_app ht]
   exact look_no fun e he => (ltK_ne (drop_gt h hf e he)).symm
theorem look_other {es : List EntD} (hR : Rise es) (d : DelD) (hk : d.kind = 1 ∨ d.kind = 2 ∨ d.kind = 3) {o : ByteArray} (ho : o ≠ d.k) (h3 : d.kind = 3 → ltK o d.k = true) : lookE (stepE es d) o = lookE es o := by
 have e0 : es = es.take (pos es d.k) ++ es.drop (pos es d.k) := (List.take_append_drop _ _).symm
 rcases hk with hk | hk | hk
 ·cases hf : found es d.k with
  | false =>
   rw [stepE_put_new hk hf, look_mid (e := ⟨d.k, d.v⟩) (fun h => ho h.symm), ← e0]
  | true =>
   obtain ⟨hp, hx⟩ := found_in hf
   rw [stepE_put_old hk hf, List.set_eq_take_append_cons_drop, if_pos hp, look_mid (e := ⟨d.k, d.v⟩) (fun h => ho h.symm)]
   have e1 : es = es.take (pos es d.k) ++ es[pos es d.k] :: es.drop (pos es d.k + 1) := by
    rw [← List.drop_eq_getElem_cons hp]; exact e0
   have := look_mid (A := es.take (pos es d.k)) (B := es.drop (pos es d.k + 1)) (e := es[pos es d.k]) (k := o) (by rw [hx]; exact fun h => ho h.symm)
   rw [← e1] at this
   exact this.symm
 ·cases hf : found es d.k with
  | false => rw [stepE_drop_new hk hf]
  | true =>
   obtain ⟨hp, hx⟩ := found_in hf
   rw [stepE_drop_old hk hf]
   have e1 : es = es.take (pos es d.k) ++ es[pos es d.k] :: es.drop (pos es d.k + 1) := by
    rw [← List.drop_eq_getElem_cons hp]; exact e0
   have := look_mid (A := es.take (pos es d.k)) (B := es.drop (pos es d.k + 1)) (e := es[pos es d.k]) (k := o) (by rw [hx]; exact fun h => ho h.symm)
   rw [← e1] at this
   exact this.symm
 ·rw [stepE_split hk]
  have := look_app_r (A := es.take (pos es d.k)) (B := es.drop (pos es d.k)) (k := o) (fun e he h => by
   have g := drop_ge hR e he
   rw [h, h3 hk] at g
   cases g)
  rw [← e0] at this
  exact this.symm
theorem mem_look {es : List EntD} (h : Rise es) : ∀ {e : EntD}, e ∈ es → lookE es e.k = some e.v := by
 intro e he
 induction es with
 | nil => cases he
 | cons x r ih =>
  have hr : Rise r := (List.pairwise_cons.1 h).2
  rcases List.mem_cons.1 he with rfl | he
  ·exact look_here
  ·have hlt := (List.pairwise_cons.1 h).1 e he
   rw [look_skip (ltK_ne hlt)]
   exact ih hr he
theorem look_mem {es : List EntD} {k v : ByteArray} (h : lookE es k = some v) : (⟨k, v⟩ : EntD) ∈ es := by
 unfold lookE at h
 cases hf : es.find? (fun e => e.k.toList == k.toList) with
 | none => rw [hf] at h; cases h
 | some e =>
  rw [hf] at h
  injection h with h
  have h1 := List.find?_some hf
  have h2 := List.mem_of_find?_eq_some hf
  have h3 : e.k = k := toList_inj (by simpa using h1)
  obtain ⟨ek, ev⟩ := e
  simp only at h h3
  subst h h3
  exact h2
theorem rise_ext : ∀ {a b : List EntD}, Rise a → Rise b → (∀ k, lookE a k = lookE b k) → a = b
 | [], [], _, _, _ => rfl
 | [], y :: r, _, hb, h => by
  have h1 := h y.k
  rw [mem_look hb (List.mem_cons_self ..), look_no (fun e he => by cases he)] at h1
  cases h1
 | x :: r, [], ha, _, h => by
  have h1 := h x.k
  rw [mem_look ha (List.mem_cons_self ..), look_no (fun e he => by cases he)] at h1
  cases h1
 | x :: r, y :: s, ha, hb, h => by
  have hr : Rise r := (List.pairwise_cons.1 ha).2
  have hs : Rise s := (List.pairwise_cons.1 hb).2
  have lx := (List.pairwise_cons.1 ha).1
  have ly := (List.pairwise_cons.1 hb).1
  have m1 : (⟨x.k, x.v⟩ : EntD) ∈ y :: s := look_mem ((h x.k).symm.trans (mem_look ha (List.mem_cons_self ..)))
  have m2 : (⟨y.k, y.v⟩ : EntD) ∈ x :: r := look_mem ((h y.k).trans (mem_look hb (List.mem_cons_self ..)))
  have hxy : x = y := by
   rcases List.mem_cons.1 m1 with e | m1
   ·exact e
   ·rcases List.mem_cons.1 m2 with e | m2
    ·exact e.symm
    ·have h1 := ly _ m1
     have h2 := lx _ m2
     simp only at h1 h2
     rw [ltK_asymm h1] at h2
     cases h2
  subst hxy
  congr 1
  refine rise_ext hr hs fun k => ?_
  by_cases hk : x.k = k
  ·subst hk
   rw [look_no (fun e he e2 => ltK_ne (lx e he) e2.symm), look_no (fun e he e2 => ltK_ne (ly e he) e2.symm)]
  ·have := h k
   rw [look_skip hk, look_skip hk] at this
   exact this
end Go.Proofs.YtdnjgbckkmbmfaaGreat

namespace Go.Proofs.YtdnjgbckkmbmfaaGreat
open Go.RowKit

theorem verAt_of {ds : List VerD} {k : ByteArray} {t : Int} {x : VerD} (h : verAt ds k t = some x) : x.k = k ∧ x.t ≤ t ∧ x.g = false ∧ x ∈ ds := by
 unfold verAt at h
 cases hl : lastAt (grp ds k) t with
 | none => rw [hl] at h; cases h
 | some d =>
  rw [hl] at h
  simp only at h
  by_cases hg : d.g = true
  ·rw [if_pos hg] at h; cases h
  ·rw [if_neg hg] at h
   injection h with h
   subst h
   have hm := List.mem_of_getLast? hl
   rw [List.mem_filter, decide_eq_true_eq] at hm
   have h2 := grp_mem.1 hm.1
   exact ⟨h2.2, hm.2, by simpa using hg, h2.1⟩
end Go.Proofs.YtdnjgbckkmbmfaaGreat

namespace Go.Proofs.YtdnjgbckkmbmfaaGreat
open Go.RowKit Go.Lib

def seenE (see : ByteArray → Option VerD) (ks : List ByteArray) : List EntD := (seenL see ks).map kvE
theorem seenE_cons (see : ByteArray → Option VerD) (k : ByteArray) (r : List ByteArray) : seenE see (k :: r) = (seeK k (see k)).map kvE ++ seenE see r := by
 unfold seenE seenL
 rw [List.flatMap_cons, List.map_append]
theorem seenE_mem {see : ByteArray → Option VerD} {e : EntD} : ∀ {ks : List ByteArray}, e ∈ seenE see ks → e.k ∈ ks
 | [], h => by cases h
 | k :: r, h => by
  rw [seenE_cons] at h
  rcases List.mem_append.1 h with h | h
  ·cases hs : see k with
   | none => rw [hs] at h; cases h
   | some x =>
    rw [hs] at h
    rw [List.mem_singleton.1 h]
    exact List.mem_cons_self ..
  ·exact List.mem_cons_of_mem _ (seenE_mem h)
theorem seenE_rise (see : ByteArray → Option VerD) : ∀ {ks : List ByteArray}, (ks.Pairwise fun a b => ltK a b = true) → Rise (seenE see ks)
 | [], _ => List.Pairwise.nil
 | k :: r, h => by
  obtain ⟨h1, h2⟩ := List.pairwise_cons.1 h
  rw [seenE_cons]
  have ih := seenE_rise see h2
  cases hs : see k with
  | none => exact ih
  | some x => exact List.pairwise_cons.2 ⟨fun e he => h1 _ (seenE_mem he), ih⟩
theorem seenE_look (see : ByteArray → Option VerD) (k : ByteArray) : ∀ {ks : List ByteArray}, (ks.Pairwise fun a b => ltK a b = true) → (k ∈ ks → lookE (seenE see ks) k = (see k).map (·.v)) ∧ (k ∉ ks → lookE (seenE see ks) k = none)
 | [], _ => ⟨fun h => (by cases h), fun _ => rfl⟩
 | y :: r, h => by
  obtain ⟨h1, h2⟩ := List.pairwise_cons.1 h
  have ih := seenE_look see k h2
  rw [seenE_cons]
  by_cases e : y = k
  ·subst e
   have hn : y ∉ r := fun hy => ltK_ne (h1 y hy) rfl
   refine ⟨fun _ => ?_, fun hh => absurd (List.mem_cons_self ..) hh⟩
   cases hs : see y with
   | none => exact ih.2 hn
   | some x => exact look_here
  ·have hl : lookE ((seeK y (see y)).map kvE ++ seenE see r) k = lookE (seenE see r) k := by
    cases hs : see y with
    | none => rfl
    | some x => exact look_skip e
   rw [hl]
   exact ⟨fun hm => ih.1 ((List.mem_cons.1 hm).resolve_left (fun z => e z.symm)), fun hm => ih.2 (fun z => hm (List.mem_cons_of_mem _ z))⟩
theorem filter_look (p : ByteArray → Bool) (k : ByteArray) : ∀ es : List EntD, lookE (es.filter fun e => p e.k) k = if p k = true then lookE es k else none
 | [] => by simp [lookE]
 | e :: r => by
  have ih := filter_look p k r
  by_cases hk : e.k = k
  ·subst hk
   by_cases hp : p e.k = true
   ·rw [List.filter_cons_of_pos (p := fun e : EntD => p e.k) hp, if_pos hp]
    obtain ⟨ek, ev⟩ := e
    rw [look_here, look_here]
   ·rw [List.filter_cons_of_neg (p := fun e : EntD => p e.k) hp, ih, if_neg hp, if_neg hp]
  ·rw [look_skip hk]
   by_cases hp : p e.k = true
   ·rw [List.filter_cons_of_pos (p := fun e : EntD => p e.k) hp, look_skip hk, ih]
   ·rw [List.filter_cons_of_neg (p := fun e : EntD => p e.k) hp, ih]
theorem hit_find {t : Int} (k : ByteArray) : ∀ ws : List VerD, (ws.Pairwise fun a b => ltV a b = true) → (∀ x ∈ ws, x.t = t) → (if hitV ws (keyX k t) = true then ws[posV ws (keyX k t)]? else none) = ws.find? (fun x => decide (x.k = k))
 | [], _, _ => by rw [if_neg (by simp [hitV])]; rfl
 | d :: r, h, ht => by
  obtain ⟨h1, h2⟩ := List.pairwise_cons.1 h
  have ih := hit_find k r h2 (fun x hx => ht x (List.mem_cons_of_mem _ hx))
  have dt := ht d (List.mem_cons_self ..)
  by_cases hl : ltV d (keyX k t) = true
  ·have hp : posV (d :: r) (keyX k t) = posV r (keyX k t) + 1 := by rw [show posV (d :: r) (keyX k t) = if ltV d (keyX k t) = true then posV r (keyX k t) + 1 else 0 from rfl, if_pos hl]
   have hh : hitV (d :: r) (keyX k t) = hitV r (keyX k t) := by unfold hitV; rw [hp, List.getElem?_cons_succ]
   have hne : d.k ≠ k := ltV_other hl (by rw [dt]; rfl)
   rw [hh, hp, List.getElem?_cons_succ, ih, List.find?_cons_of_neg (by simpa using hne)]
  ·have hp : posV (d :: r) (keyX k t) = 0 := by rw [show posV (d :: r) (keyX k t) = if ltV d (keyX k t) = true then posV r (keyX k t) + 1 else 0 from rfl, if_neg hl]
   have hh : hitV (d :: r) (keyX k t) = sameV d (keyX k t) := by unfold hitV; rw [hp]; rfl
   rw [hh, hp]
   by_cases e : d.k = k
   ·rw [if_pos (by unfold sameV keyX; simp [e, dt]), List.find?_cons_of_pos (by simpa using e)]
    rfl
   ·rw [if_neg (by unfold sameV keyX; simp [e]), List.find?_cons_of_neg (by simpa using e)]
    symm
    rw [List.find?_eq_none]
    intro y hy hyk
    rw [decide_eq_true_eq] at hyk
    have hd := h1 y hy
    have yt := ht y (List.mem_cons_of_mem _ hy)
    apply hl
    unfold ltV at hd ⊢
    rw [hyk, dt, yt] at hd
    rw [dt]
    exact hd
theorem fold_look (k : ByteArray) : ∀ (ws : List VerD) (es : List EntD), (ws.Pairwise fun a b => ltV a b = true) → (∀ x ∈ ws, ∀ y ∈ ws, x.t = y.t) → Rise es → Rise (ws.foldl (fun es x => putE es ⟨x.k, x.v⟩ x.g) es) ∧ lookE (ws.foldl (fun es x => putE es ⟨x.k, x.v⟩ x.g) es) k = match ws.find? (fun x => decide (x.k = k)) with
  | some x => if x.g = true then none else some x.v
  | none => lookE es k
 | [], es, _, _, hr => ⟨hr, rfl⟩
 | x :: r, es, h, ht, hr => by
  obtain ⟨h1, h2⟩ := List.pairwise_cons.1 h
  have hr2 : Rise (putE es ⟨x.k, x.v⟩ x.g) := stepE_rise hr _
  have ih := fold_look k r (putE es ⟨x.k, x.v⟩ x.g) h2 (fun a ha b hb => ht a (List.mem_cons_of_mem _ ha) b (List.mem_cons_of_mem _ hb)) hr2
  refine ⟨ih.1, ?_⟩
  rw [List.foldl_cons, ih.2]
  by_cases e : x.k = k
  ·have hno : r.find? (fun y => decide (y.k = k)) = none := by
    rw [List.find?_eq_none]
    intro y hy hyk
    rw [decide_eq_true_eq] at hyk
    exact ltV_other (h1 y hy) (ht x (List.mem_cons_self ..) y (List.mem_cons_of_mem _ hy)) (e.trans hyk.symm)
   rw [hno, List.find?_cons_of_pos (by simpa using e)]
   simp only
   unfold putE
   rw [← e]
   cases hg : x.g with
   | true => exact (look_step hr ⟨2, x.k, x.v, 0⟩).2 rfl
   | false => exact (look_step hr ⟨1, x.k, x.v, 0⟩).1 rfl
  ·rw [List.find?_cons_of_neg (by simpa using e)]
   have ho : lookE (putE es ⟨x.k, x.v⟩ x.g) k = lookE es k := by
    unfold putE
    refine look_other hr _ ?_ (fun h => e h.symm) (fun h => ?_)
    ·cases x.g
     ·exact .inl rfl
     ·exact .inr (.inl rfl)
    ·cases hg : x.g with
     | false => rw [hg] at h; exact absurd (show (1 : Int) = 3 from h) (by decide)
     | true => rw [hg] at h; exact absurd (show (2 : Int) = 3 from h) (by decide)
   rw [ho]
theorem ents_seen (ds : List VerD) (t : Int) : (entsAt ds t).map kvE = seenE (fun k => verAt ds k t) (dkeys ds) := by
 unfold entsAt seenE seenL dkeys
 rw [ents_dk ds t _ (Nat.le_refl _)]
 congr 1
 have : ∀ k, kvOf (verAt ds k t) = seeK k (verAt ds k t) := fun k => by
  cases h : verAt ds k t with
  | none => rfl
  | some x => show [(⟨x.k, x.v⟩ : KvD)] = [⟨k, x.v⟩]; rw [(verAt_of h).1]
 simp only [this]
theorem verAt_in {ds : List VerD} {k : ByteArray} {t : Int} {x : VerD} (h : verAt ds k t = some x) : k ∈ dkeys ds := by
 have h1 := verAt_of h
 obtain ⟨i, hi, e⟩ := List.getElem_of_mem h1.2.2.2
 exact (dk_mem ds k _ (Nat.le_refl _)).2 ⟨i, hi, hi, by rw [e]; exact h1.1⟩
theorem ents_look {ds : List VerD} (ok : okVs ds = true) (k : ByteArray) (t : Int) : lookE ((entsAt ds t).map kvE) k = (verAt ds k t).map (·.v) := by
 rw [ents_seen]
 have hl := seenE_look (fun k => verAt ds k t) k (dk_rise ok _ (Nat.le_refl _))
 by_cases h : k ∈ dkeys ds
 ·exact hl.1 h
 ·refine (hl.2 h).trans ?_
  cases hv : verAt ds k t with
  | none => rfl
  | some x => exact absurd (verAt_in hv) h
theorem wr_facts {ws : List VerD} {t : Int} (h : wrV ws t = true) : (ws.Pairwise fun a b => ltV a b = true) ∧ ∀ x ∈ ws, x.t = t := by
 unfold wrV at h
 simp only [Bool.and_eq_true, decide_eq_true_eq] at h
 refine ⟨okVs_pair h.2.1, fun y hy => ?_⟩
 obtain ⟨j, hj, rfl⟩ := List.getElem_of_mem hy
 exact oneT_at h.2.2 hj
theorem seen_rise {d : VsD} {s : SesD} (ok : okVs d.list = true) (hw : wrV s.ws s.t = true) : Rise (seenV d s) := by
 obtain ⟨h1, h2⟩ := wr_facts hw
 refine (fold_look ⟨#[]⟩ s.ws _ h1 (fun x hx y hy => (h2 x hx).trans (h2 y hy).symm) ?_).1
 rw [ents_seen]
 exact seenE_rise _ (dk_rise ok _ (Nat.le_refl _))
theorem view_look {d : VsD} {s : SesD} (ok : okVs d.list = true) (hw : wrV s.ws s.t = true) (k : ByteArray) : lookE (seenV d s) k = (viewS d s k).map (·.v) := by
 obtain ⟨h1, h2⟩ := wr_facts hw
 have hr : Rise ((entsAt d.list s.t).map kvE) := by rw [ents_seen]; exact seenE_rise _ (dk_rise ok _ (Nat.le_refl _))
 have hf := hit_find k s.ws h1 h2
 unfold seenV viewS
 rw [(fold_look k s.ws _ h1 (fun x hx y hy => (h2 x hx).trans (h2 y hy).symm) hr).2, ← hf, ents_look ok]
 by_cases hh : hitV s.ws (keyX k s.t) = true
 ·rw [if_pos hh, if_pos hh, List.getD_eq_getElem?_getD]
  cases hp : s.ws[posV s.ws (keyX k s.t)]? with
  | none =>
   unfold hitV at hh
   rw [hp] at hh
   cases hh
  | some x =>
   simp only [Option.getD_some]
   split <;> rfl
 ·rw [if_neg hh, if_neg hh]
theorem view_key {d : VsD} {s : SesD} {k : ByteArray} {x : VerD} (hw : wrV s.ws s.t = true) (h : viewS d s k = some x) : k ∈ dkeys d.list ++ s.ws.map (·.k) := by
 obtain ⟨h1, h2⟩ := wr_facts hw
 have hf := hit_find k s.ws h1 h2
 unfold viewS at h
 by_cases hh : hitV s.ws (keyX k s.t) = true
 ·rw [if_pos hh] at hf
  have hs : ∃ y, s.ws[posV s.ws (keyX k s.t)]? = some y := by
   unfold hitV at hh
   cases hp : s.ws[posV s.ws (keyX k s.t)]? with
   | none => rw [hp] at hh; cases hh
   | some y => exact ⟨y, rfl⟩
  obtain ⟨y, hy⟩ := hs
  rw [hy] at hf
  have hk := List.find?_some hf.symm
  have hm := List.mem_of_find?_eq_some hf.symm
  rw [decide_eq_true_eq] at hk
  exact List.mem_append_right _ (List.mem_map.2 ⟨y, hm, hk⟩)
 ·rw [if_neg hh] at h
  exact List.mem_append_left _ (verAt_in h)
theorem getR_look (k : ByteArray) (t : Int) : ∀ (es : List EntD) (r : RepD), Rise es → es.foldl (fun r e => if e.k = k then ⟨0, t, e.v, []⟩ else r) r = match lookE es k with
  | some v => ⟨0, t, v, []⟩
  | none => r
 | [], r, _ => rfl
 | e :: es, r, h => by
  obtain ⟨h1, h2⟩ := List.pairwise_cons.1 h
  rw [List.foldl_cons, getR_look k t es _ h2]
  by_cases hk : e.k = k
  ·have hn : lookE es k = none := look_no fun y hy hyk => ltK_ne (h1 y hy) (hk.trans hyk.symm)
   obtain ⟨ek, ev⟩ := e
   simp only at hk
   subst hk
   rw [hn, look_here]
   simp
  ·rw [look_skip hk, if_neg hk]
theorem get_seen {d : VsD} {s : SesD} (ok : okVs d.list = true) (hw : wrV s.ws s.t = true) (k : ByteArray) : getS (viewS d s k) s.t = getR (seenV d s) k s.t := by
 unfold getR
 rw [getR_look k s.t _ _ (seen_rise ok hw), view_look ok hw]
 cases viewS d s k <;> rfl
theorem ltK_of {a b : ByteArray} (h : a.data.toList < b.data.toList) : ltK a b = true := by
 unfold ltK
 rw [ByteArray.toList_eq, ByteArray.toList_eq, bytesLess_eq]
 exact decide_eq_true h
theorem srtK_pair (ks : List ByteArray) : (bK (srtK ks)).Pairwise fun a b => a ≤ b := by
 unfold srtK
 rw [bK_kB]
 have := List.pairwise_mergeSort (le := fun x y : List UInt8 => decide (x ≤ y)) (fun a b c h1 h2 => by
  rw [decide_eq_true_eq] at *
  exact List.le_trans h1 h2) (fun a b => by
  rw [Bool.or_eq_true, decide_eq_true_eq, decide_eq_true_eq]
  exact List.le_total a b) (bK ks)
 exact this.imp fun h => of_decide_eq_true h
theorem compact_pair {l : List (List UInt8)} (h : l.Pairwise fun a b => a ≤ b) : (compactUpTo l.toArray l.length).Pairwise (fun a b => a < b) ∧ ∀ x, x ∈ l → x ∈ compactUpTo l.toArray l.length := by
 have at_ : ∀ i, i < l.length → l.toArray[i]! = l[i]! := fun i hi => by
  rw [getElem!_pos _ i (by simpa using hi), getElem!_pos l i hi]
  rfl
 have le : ∀ i j, i ≤ j → j < l.length → l[i]! ≤ l[j]! := fun i j hij hj => by
  rw [getElem!_pos l i (by omega), getElem!_pos l j hj]
  rcases Nat.eq_or_lt_of_le hij with e | e
  ·subst e; exact List.le_refl _
  ·exact List.pairwise_iff_getElem.1 h i j (by omega) hj e
 constructor
 ·unfold compactUpTo
  rw [List.pairwise_map]
  refine List.Pairwise.imp_of_mem ?_ ((List.pairwise_lt_range (n := l.length)).filter _)
  intro i j hi hj hij
  have hjl := List.mem_range.1 (List.mem_filter.1 hj).1
  have hk := (List.mem_filter.1 hj).2
  unfold keeps at hk
  rw [decide_eq_true_eq] at hk
  have hne := hk.resolve_left (by omega)
  rw [at_ j hjl, at_ (j - 1) (by omega)] at hne
  rw [at_ i (by omega), at_ j hjl]
  have h1 := le i (j - 1) (by omega) (by omega)
  have h2 := le (j - 1) j (by omega) hjl
  have h3 : l[j - 1]! < l[j]! := by
   rcases List.le_iff_lt_or_eq.1 h2 with h | h
   ·exact h
   ·exact absurd h.symm hne
  exact List.lt_of_le_of_lt h1 h3
 ·intro x hx
  unfold compactUpTo
  have hex : ∃ i, i < l.length ∧ l[i]! = x := by
   obtain ⟨i, hi, e⟩ := List.getElem_of_mem hx
   exact ⟨i, hi, by rw [getElem!_pos l i hi]; exact e⟩
  have key : ∀ n i, i ≤ n → i < l.length → l[i]! = x → ∃ j, j < l.length ∧ l[j]! = x ∧ keeps l.toArray j = true := by
   intro n
   induction n with
   | zero =>
    intro i hi hl e
    obtain rfl : i = 0 := by omega
    exact ⟨0, hl, e, by unfold keeps; simp⟩
   | succ n ih =>
    intro i hi hl e
    by_cases hk : keeps l.toArray i = true
    ·exact ⟨i, hl, e, hk⟩
    ·unfold keeps at hk
     rw [decide_eq_true_eq] at hk
     have h0 : i ≠ 0 := fun h => hk (.inl h)
     have he : l.toArray[i]! = l.toArray[i - 1]! := Classical.not_not.1 (fun h => hk (.inr h))
     rw [at_ i hl, at_ (i - 1) (by omega)] at he
     exact ih (i - 1) (by omega) (by omega) (he ▸ e)
  obtain ⟨i, hi, e⟩ := hex
  obtain ⟨j, hj, ej, hk⟩ := key i i (Nat.le_refl _) hi e
  exact List.mem_map.2 ⟨j, List.mem_filter.2 ⟨List.mem_range.2 hj, hk⟩, by rw [at_ j hj]; exact ej⟩
theorem keysS_pair (d : VsD) (s : SesD) (r : ByteArray × ByteArray) : (keysS d s r).Pairwise fun a b => ltK a b = true := by
 unfold keysS cmpK kB
 rw [List.pairwise_map]
 exact (compact_pair (srtK_pair _)).1.imp fun h => ltK_of h
theorem keysS_mem {d : VsD} {s : SesD} {r : ByteArray × ByteArray} {k : ByteArray} : k ∈ keysS d s r ↔ k ∈ dkeys d.list ++ s.ws.map (·.k) ∧ inR r k = true := by
 constructor
 ·intro h
  exact List.mem_filter.1 (srtK_mem.1 (cmpK_mem h))
 ·intro h
  have h1 := srtK_mem.2 (List.mem_filter.2 h)
  unfold keysS cmpK
  rw [mem_kB]
  refine (compact_pair (srtK_pair _)).2 _ ?_
  rw [mem_bK]
  exact h1
theorem scan_seen {d : VsD} {s : SesD} (ok : okVs d.list = true) (hw : wrV s.ws s.t = true) (lo hi : ByteArray) : scanS d s (lo, hi) = (seenV d s).filter (fun e => inK lo hi e.k) := by
 refine rise_ext (seenE_rise _ (keysS_pair _ _ _)) ((seen_rise ok hw).filter _) fun k => ?_
 rw [filter_look (inK lo hi), view_look ok hw]
 show lookE (seenE _ _) k = _
 have hl := seenE_look (viewS d s) k (keysS_pair d s (lo, hi))
 by_cases hk : k ∈ keysS d s (lo, hi)
 ·rw [hl.1 hk, if_pos (show inK lo hi k = true from (keysS_mem.1 hk).2)]
 ·rw [hl.2 hk]
  by_cases hp : inK lo hi k = true
  ·rw [if_pos hp]
   cases hv : viewS d s k with
   | none => rfl
   | some x => exact absurd (keysS_mem (r := (lo, hi)).2 ⟨view_key hw hv, hp⟩) hk
  ·rw [if_neg hp]
end Go.Proofs.YtdnjgbckkmbmfaaGreat

namespace Go.Proofs.YtdnjgbckkmbmfaaGreat
open Go.RowKit

theorem ins_filter (p : ByteArray → Int → Bool) (x : VerD) (hx : p x.k x.t = false) : ∀ ds : List VerD, (insV ds x).filter (fun y => p y.k y.t) = ds.filter (fun y => p y.k y.t)
 | [] => by
  show [x].filter _ = [].filter _
  rw [List.filter_cons_of_neg (by rw [hx]; decide)]
 | e :: r => by
  rw [insV_cons]
  split
  ·by_cases he : p e.k e.t = true
   ·rw [List.filter_cons_of_pos (p := fun y : VerD => p y.k y.t) he, List.filter_cons_of_pos (p := fun y : VerD => p y.k y.t) he, ins_filter p x hx r]
   ·rw [List.filter_cons_of_neg (p := fun y : VerD => p y.k y.t) he, List.filter_cons_of_neg (p := fun y : VerD => p y.k y.t) he, ins_filter p x hx r]
  ·split
   ·rename_i hs
    unfold sameV at hs
    simp only [Bool.and_eq_true, decide_eq_true_eq] at hs
    have he : p e.k e.t = false := by rw [hs.1, hs.2]; exact hx
    rw [List.filter_cons_of_neg (p := fun y : VerD => p y.k y.t) (by rw [hx]; decide), List.filter_cons_of_neg (p := fun y : VerD => p y.k y.t) (by rw [he]; decide)]
   ·rw [List.filter_cons_of_neg (p := fun y : VerD => p y.k y.t) (by rw [hx]; decide)]
theorem foldI_filter (p : ByteArray → Int → Bool) : ∀ (ws ds : List VerD), (∀ x ∈ ws, p x.k x.t = false) → (ws.foldl insV ds).filter (fun y => p y.k y.t) = ds.filter (fun y => p y.k y.t)
 | [], _, _ => rfl
 | x :: r, ds, h => by
  rw [List.foldl_cons, foldI_filter p r _ (fun y hy => h y (List.mem_cons_of_mem _ hy)), ins_filter p x (h x (List.mem_cons_self ..))]
theorem foldI_mem {y : VerD} : ∀ (ws ds : List VerD), y ∈ ws.foldl insV ds → y ∈ ws ∨ y ∈ ds
 | [], _, h => .inr h
 | x :: r, ds, h => by
  rcases foldI_mem r _ h with h | h
  ·exact .inl (List.mem_cons_of_mem _ h)
  ·rcases insV_mem x y ds h with rfl | h
   ·exact .inl (List.mem_cons_self ..)
   ·exact .inr h
def upTo (k : ByteArray) (t : Int) (a : ByteArray) (u : Int) : Bool := decide (a = k) && decide (u ≤ t)
theorem verAt_up (ds : List VerD) (k : ByteArray) (t : Int) : verAt ds k t = match (ds.filter fun y => upTo k t y.k y.t).getLast? with
  | some d => if d.g = true then none else some d
  | none => none := by
 unfold verAt lastAt grp
 rw [List.filter_filter]
 have : (fun a : VerD => decide (a.t ≤ t) && decide (a.k = k)) = fun y => upTo k t y.k y.t := by
  funext a
  unfold upTo
  rw [Bool.and_comm]
 rw [this]
 generalize (ds.filter fun y => upTo k t y.k y.t).getLast? = o
 cases o <;> rfl
structure TimV (d : VsD) : Prop where
 v : ∀ (i : Nat) (s : SesD), d.ses[i]? = some s → s.o = true → ∀ x ∈ d.list, x.t ≠ s.t
 s : ∀ (i j : Nat) (s u : SesD), d.ses[i]? = some s → d.ses[j]? = some u → s.o = true → u.o = true → i ≠ j → s.t ≠ u.t
theorem TimV.new : TimV newV := ⟨fun i s h ho x hx => (by cases hx), fun i j s u h1 h2 ho => by
 have hm : s ∈ List.replicate 4 clS := List.mem_of_getElem? h1
 rw [List.eq_of_mem_replicate hm] at ho
 cases ho⟩
theorem TimV.set {d : VsD} (h : TimV d) {i : Nat} {s0 s' : SesD} (hi : d.ses[i]? = some s0) (hs : s'.o = true → s0.o = true ∧ s'.t = s0.t) (nx : Int) (fs : List FenD) : TimV ⟨nx, d.list, fs, d.ses.set i s'⟩ := by
 have hil : i < d.ses.length := (List.getElem?_eq_some_iff.1 hi).1
 constructor
 ·intro j s hj ho x hx
  simp only at hj hx
  by_cases e : i = j
  ·subst e
   rw [List.getElem?_set_self hil] at hj
   injection hj with hj
   subst hj
   obtain ⟨h1, h2⟩ := hs ho
   rw [h2]
   exact h.v i s0 hi h1 x hx
  ·rw [List.getElem?_set_ne e] at hj
   exact h.v j s hj ho x hx
 ·intro j k s u hj hk hso huo hne
  simp only at hj hk
  by_cases e : i = j
  ·subst e
   rw [List.getElem?_set_self hil] at hj
   injection hj with hj
   subst hj
   rw [List.getElem?_set_ne hne] at hk
   obtain ⟨h1, h2⟩ := hs hso
   rw [h2]
   exact h.s i k s0 u hi hk h1 huo hne
  ·rw [List.getElem?_set_ne e] at hj
   by_cases e2 : i = k
   ·subst e2
    rw [List.getElem?_set_self hil] at hk
    injection hk with hk
    subst hk
    obtain ⟨h1, h2⟩ := hs huo
    rw [h2]
    exact h.s j i s s0 hj hi hso h1 hne
   ·rw [List.getElem?_set_ne e2] at hk
    exact h.s j k s u hj hk hso huo hne
theorem ses_at {d : VsD} {k : Nat} (h : RunV d k) {i : Nat} (hi : i < 4) : d.ses[i]? = some (d.ses.getD i clS) := by
 have hl : i < d.ses.length := by rw [h.ses]; exact hi
 rw [List.getD_eq_getElem?_getD, List.getElem?_eq_getElem hl]
 rfl
theorem ses_ok {d : VsD} {k : Nat} (h : RunV d k) {i : Nat} {s : SesD} (hi : d.ses[i]? = some s) : sesK d.next s = true := h.sk _ (List.mem_of_getElem? hi)
theorem step_cases {d : VsD} {k : Nat} (h : RunV d k) (a : TxD) :
  (stepV d a).1 = d ∨
  (∃ f, (stepV d a).1 = ⟨d.next, d.list, d.fen ++ [f], d.ses⟩) ∨
  ∃ (i : Nat) (s : SesD), i < 4 ∧ a.ses = (i : Int) ∧ d.ses[i]? = some s ∧
   ((a.kind = 1 ∧ s.o = false ∧ (stepV d a).1 = ⟨d.next + 1, d.list, d.fen, d.ses.set i ⟨true, d.next, []⟩⟩) ∨
    (s.o = true ∧ (a.kind = 4 ∨ a.kind = 5) ∧ (stepV d a).1 = ⟨d.next, d.list, d.fen, d.ses.set i ⟨s.o, s.t, insV s.ws (wrA a s.t)⟩⟩) ∨
    (s.o = true ∧ (stepV d a).1 = ⟨d.next, d.list, d.fen, d.ses.set i clS⟩) ∨
    (s.o = true ∧ s.ws.any (conV d) = false ∧ (stepV d a).1 = ⟨d.next, s.ws.foldl insV d.list, d.fen, d.ses.set i clS⟩)) := by
 unfold stepV
 split
 ·exact .inl rfl
 split
 ·exact .inl rfl
 rename_i hk hs
 have hs' : 0 ≤ a.ses ∧ a.ses ≤ 3 := Classical.not_not.1 hs
 obtain ⟨i, hi⟩ : ∃ i : Nat, a.ses = (i : Int) := ⟨a.ses.toNat, by omega⟩
 have hi4 : i < 4 := by omega
 rw [hi, Int.toNat_natCast]
 have hx := ses_at h hi4
 generalize d.ses.getD i clS = s at hx
 unfold sesV
 split
 ·rename_i h1
  split
  ·exact .inl rfl
  split
  ·exact .inl rfl
  ·rename_i ho _
   exact .inr (.inr ⟨i, s, hi4, rfl, hx, .inl ⟨h1, by simpa using ho, rfl⟩⟩)
 split
 ·exact .inl rfl
 rename_i _ ho
 have ho' : s.o = true := by simpa using ho
 split
 ·exact .inl rfl
 unfold inV
 split
 ·unfold fenV
  split
  ·exact .inl rfl
  ·exact .inr (.inl ⟨_, rfl⟩)
 split
 ·unfold fenV
  split
  ·exact .inl rfl
  ·exact .inr (.inl ⟨_, rfl⟩)
 split
 ·rename_i h45
  split
  ·exact .inl rfl
  ·exact .inr (.inr ⟨i, s, hi4, rfl, hx, .inr (.inl ⟨ho', h45, rfl⟩)⟩)
 split
 ·split
  ·exact .inr (.inr ⟨i, s, hi4, rfl, hx, .inr (.inr (.inl ⟨ho', rfl⟩))⟩)
  ·rename_i hc
   exact .inr (.inr ⟨i, s, hi4, rfl, hx, .inr (.inr (.inr ⟨ho', by simpa using hc, rfl⟩))⟩)
 ·exact .inr (.inr ⟨i, s, hi4, rfl, hx, .inr (.inr (.inl ⟨ho', rfl⟩))⟩)
theorem TimV.step {d : VsD} {k : Nat} (h : TimV d) (r : RunV d k) (a : TxD) : TimV (stepV d a).1 := by
 rcases step_cases r a with e | ⟨f, e⟩ | ⟨i, s, hi4, -, hx, ⟨-, -, e⟩ | ⟨ho, -, e⟩ | ⟨ho, e⟩ | ⟨ho, hc, e⟩⟩
 ·rw [e]; exact h
 ·rw [e]; exact ⟨h.v, h.s⟩
 ·rw [e]
  have hil : i < d.ses.length := by rw [r.ses]; exact hi4
  have lt : ∀ (j : Nat) (u : SesD), d.ses[j]? = some u → u.o = true → u.t < d.next := fun j u hj hu => (sesK_open (ses_ok r hj) hu).2.1
  constructor
  ·intro j u hj hu x hxm
   simp only at hj hxm
   by_cases e2 : i = j
   ·subst e2
    rw [List.getElem?_set_self hil] at hj
    injection hj with hj
    subst hj
    have := r.late x hxm
    simp only
    omega
   ·rw [List.getElem?_set_ne e2] at hj
    exact h.v j u hj hu x hxm
  ·intro j m u v hj hm hu hv hne
   simp only at hj hm
   by_cases e2 : i = j
   ·subst e2
    rw [List.getElem?_set_self hil] at hj
    injection hj with hj
    subst hj
    rw [List.getElem?_set_ne hne] at hm
    have := lt m v hm hv
    simp only
    omega
   ·rw [List.getElem?_set_ne e2] at hj
    by_cases e3 : i = m
    ·subst e3
     rw [List.getElem?_set_self hil] at hm
     injection hm with hm
     subst hm
     have := lt j u hj hu
     simp only
     omega
    ·rw [List.getElem?_set_ne e3] at hm
     exact h.s j m u v hj hm hu hv hne
 ·rw [e]; exact h.set hx (s' := ⟨s.o, s.t, insV s.ws (wrA a s.t)⟩) (fun _ => ⟨ho, rfl⟩) _ _
 ·rw [e]; exact h.set hx (s' := clS) (fun hh => by cases hh) _ _
 ·rw [e]
  have hq := h.set hx (s' := clS) (fun hh => by cases hh) d.next d.fen
  refine ⟨fun j u hj hu x hxm => ?_, hq.s⟩
  rcases foldI_mem _ _ hxm with hw | hl
  ·have hne : i ≠ j := fun e2 => by
    subst e2
    simp only at hj
    rw [List.getElem?_set_self (by rw [r.ses]; exact hi4)] at hj
    injection hj with hj
    rw [← hj] at hu
    cases hu
   simp only at hj
   rw [List.getElem?_set_ne hne] at hj
   have h1 := (sesK_open (ses_ok r hx) ho).2.2
   rw [(wr_facts h1).2 x hw]
   exact h.s i j s u hx hj ho hu hne
  ·exact hq.v j u hj hu x hl
theorem fence_step {d : VsD} {k : Nat} (r : RunV d k) (a : TxD) {f : FenD} (hf : f ∈ d.fen) {x : ByteArray} (hx : inK f.f f.u x = true) : f ∈ (stepV d a).1.fen ∧ (stepV d a).1.list.filter (fun y => upTo x (f.t - 1) y.k y.t) = d.list.filter (fun y => upTo x (f.t - 1) y.k y.t) := by
 rcases step_cases r a with e | ⟨g, e⟩ | ⟨i, s, hi4, -, hs, ⟨-, -, e⟩ | ⟨ho, -, e⟩ | ⟨ho, e⟩ | ⟨ho, hc, e⟩⟩
 ·rw [e]; exact ⟨hf, rfl⟩
 ·rw [e]; exact ⟨List.mem_append_left _ hf, rfl⟩
 ·rw [e]; exact ⟨hf, rfl⟩
 ·rw [e]; exact ⟨hf, rfl⟩
 ·rw [e]; exact ⟨hf, rfl⟩
 ·rw [e]
  refine ⟨hf, foldI_filter (upTo x (f.t - 1)) _ _ fun y hy => ?_⟩
  have h1 : conV d y = false := by
   have := List.any_eq_false.1 hc y hy
   simpa using this
  unfold conV at h1
  rw [Bool.or_eq_false_iff] at h1
  have h2 := List.any_eq_false.1 h1.2 f hf
  cases hu : upTo x (f.t - 1) y.k y.t with
  | false => rfl
  | true =>
   unfold upTo at hu
   simp only [Bool.and_eq_true, decide_eq_true_eq] at hu
   exfalso
   apply h2
   rw [Bool.and_eq_true, decide_eq_true_eq]
   exact ⟨by omega, by rw [hu.1]; exact hx⟩
theorem fence_run (acts : List TxD) {f : FenD} {x : ByteArray} (hx : inK f.f f.u x = true) {i : Nat} : ∀ m, i + m ≤ acts.length → f ∈ (runV (acts.take i)).1.fen → f ∈ (runV (acts.take (i + m))).1.fen ∧ (runV (acts.take (i + m))).1.list.filter (fun y => upTo x (f.t - 1) y.k y.t) = (runV (acts.take i)).1.list.filter (fun y => upTo x (f.t - 1) y.k y.t)
 | 0, _, hf => ⟨hf, rfl⟩
 | m + 1, hl, hf => by
  have ih := fence_run acts hx m (by omega) hf
  have hR := runV_ok acts (i + m) (by omega)
  have h1 := fence_step hR (acts[i + m]'(by omega)) ih.1 hx
  have e := runV_take (acts := acts) (k := i + m) (by omega)
  rw [show i + (m + 1) = i + m + 1 by omega, e]
  exact ⟨h1.1, h1.2.trans ih.2⟩
theorem tim_run (acts : List TxD) : ∀ k, k ≤ acts.length → TimV (runV (acts.take k)).1
 | 0, _ => by rw [List.take_zero]; exact TimV.new
 | k + 1, h => by
  rw [runV_take (by omega)]
  exact (tim_run acts k (by omega)).step (runV_ok acts k (by omega)) _
end Go.Proofs.YtdnjgbckkmbmfaaGreat

namespace Go.Proofs.YtdnjgbckkmbmfaaGreat
open Go.RowKit

def vsN (d : VsD) : Nat := d.list.length + d.fen.length + d.ses.length + (d.ses.map (fun s => s.ws.length)).sum
end Go.Proofs.YtdnjgbckkmbmfaaGreat

namespace Go.Proofs.YtdnjgbckkmbmfaaGreat
open Go.RowKit

end Go.Proofs.YtdnjgbckkmbmfaaGreat

namespace Go.Proofs.YtdnjgbckkmbmfaaGreat
open Go.RowKit

end Go.Proofs.YtdnjgbckkmbmfaaGreat

namespace Go.Proofs.YtdnjgbckkmbmfaaGreat
open Go.RowKit

structure VzR (w : World) (l f s : Sl) (hs : List SeH) (d : VsD) : Prop where
 v : VRow w l.a l.n d.list
 f : FRow w f.a f.n d.fen
 s : SeIn w (.slice s.a s.n s.c) s.n hs
 ss : hs.map (·.X) = d.ses
theorem sum_mem {ss : List SesD} {x : SesD} (h : x ∈ ss) : x.ws.length ≤ (ss.map (fun s => s.ws.length)).sum := by
 induction ss with
 | nil => cases h
 | cons y r ih =>
  rw [List.map_cons, List.sum_cons]
  rcases List.mem_cons.1 h with rfl | h
  ·omega
  ·have := ih h
   omega
structure VzF (l f s : Sl) (hs : List SeH) : Prop where
 l : l.n ≤ 1048576
 f : f.n ≤ 1048576
 s : s.n ≤ 1048576
 w : ∀ h ∈ hs, h.s0.n ≤ 1048576
theorem VzR.few {w : World} {l f s : Sl} {hs : List SeH} {d : VsD} (h : VzR w l f s hs d) (hd : vsN d ≤ 1048576) : VzF l f s hs := by
 have e1 := h.v.1
 have e2 := h.f.1
 have e3 : hs.length = s.n := by have := h.s.len; simpa using this
 have e4 : hs.length = d.ses.length := by rw [← h.ss, List.length_map]
 unfold vsN at hd
 refine ⟨by omega, by omega, by omega, fun x hx => ?_⟩
 obtain ⟨k, hk, rfl⟩ := List.getElem_of_mem hx
 have e5 := rowC_lenV (SeIn.sub h.s hk)
 have e6 := sum_mem (ss := d.ses) (x := hs[k].X) (by rw [← h.ss]; exact List.mem_map_of_mem hx)
 omega
theorem vzr_of {w : World} {l f s : Sl} {hs : List SeH} {d : VsD} (h : VzIn w l f s hs d) : VzR w l f s hs d := ⟨h.vr, h.fr, h.sr, h.ss⟩
theorem vsfew_of {w : World} {l f s : Sl} {hs : List SeH} {d : VsD} (h : VzIn w l f s hs d) (hd : vsN d ≤ 1048576) : VsFew l f s (hs.map seR) := by
 have e := (vzr_of h).few hd
 exact ⟨e.l, e.f, e.s, fun i hi => by rw [List.getElem_map]; exact e.w _ (List.getElem_mem _)⟩
end Go.Proofs.YtdnjgbckkmbmfaaGreat
