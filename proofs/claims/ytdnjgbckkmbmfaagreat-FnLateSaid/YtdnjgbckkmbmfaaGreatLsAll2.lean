/-
  TxA, VnC, SeA, GdP, TxB, TxC, TxE, TxF, TxG, TxH, PrA, PrC, DeF, StD in one.
-/
import Derived.Test.YtdnjgbckkmbmfaaGreatLsAll1
import Derived.Deep.Cut
import Derived.Deep.RegionWith
import Derived.Test.YtdnjgbckkmbmfaaGreatStS
import Derived.Test.YtdnjgbckkmbmfaaGreatVeI
set_option maxRecDepth 100000
namespace Go.Proofs.YtdnjgbckkmbmfaaGreat
open Go.RowKit

theorem insV_parts (ds : List VerD) (x : VerD) {p q : Nat} (hp : posV ds x = p) (hq : q = p + (if hitV ds x = true then 1 else 0)) : insV ds x = (ds.take p ++ [x]) ++ ds.drop q := by
 unfold insV
 rw [hp, hq, List.append_assoc]
 rfl
theorem hit_at {ds : List VerD} {x : VerD} {p : Nat} (hp : posV ds x = p) (h : p < ds.length) : hitV ds x = sameV ds[p] x := by
 subst hp
 unfold hitV
 rw [List.getElem?_eq_getElem h]
theorem hit_end {ds : List VerD} {x : VerD} (h : ds.length ≤ posV ds x) : hitV ds x = false := by
 unfold hitV
 rw [List.getElem?_eq_none h]
theorem boxV (w : World) (x : VerD) : (w.alloc (.cells #[.string x.k, .int .i64 x.t, .string x.v, .bool x.g] 43)).heap[w.heap.size]? = some (.cells #[.string x.k, .int .i64 x.t, .string x.v, .bool x.g] 43 (0, 0)) := heap_alloc_new _ _
def InsRes (ds : List VerD) (x : VerD) (w : World) (e : Ending) (w' : World) : Prop := ∃ g k, e = .returned (.slice (some ⟨g, 0, none⟩) (insV ds x).length k) ∧ VOwns w' w.heap.size (.slice (some ⟨g, 0, none⟩) (insV ds x).length k) (insV ds x) ∧ Below w.heap.size w w'
set_option maxHeartbeats 8000000 in
theorem l06Insert_any (a : Option Addr) (n c : Nat) (ds : List VerD) (x : VerD) (w : World) (hR : VRow w a n ds) (hn : n ≤ 1000000) (hc : n ≤ c) (hcn : a = none → c = 0) :
  Calls Tryz.prog 80 #[.slice a n c, vv x] w fun e w' => InsRes ds x w e w' := by
 unfold vv
 obtain ⟨W, hW⟩ : ∃ W, W = (w.alloc (.cells #[.string x.k, .int .i64 x.t, .string x.v, .bool x.g] 43)).alloc (.cells #[] 43) := ⟨_, rfl⟩
 have b1 : Below w.heap.size w W := by rw [hW]; exact ((Below.refl _ _).alloc (Nat.le_refl _) _).alloc (by simp) _
 have hz : w.heap.size + 1 < W.heap.size := by rw [hW]; simp
 have kx : W.heap[w.heap.size]? = some (.cells #[.string x.k, .int .i64 x.t, .string x.v, .bool x.g] 43 (0, 0)) := by
  rw [hW]
  exact ((((Below.refl _ _).alloc (Nat.le_refl _) (.cells #[] 43)).block w.heap.size (by simp)).trans (boxV w x))
 have O0 : VOwns W (w.heap.size + 1) (.slice (some ⟨w.heap.size + 1, 0, none⟩) 0 0) [] := by
  have := World.ownsRow_lit (base := w.heap.size + 1) (e := 43) (size := 4) (w.alloc (.cells #[.string x.k, .int .i64 x.t, .string x.v, .bool x.g] 43)) #[] 0 (by simp) (by unfold maxLen; simp) rfl
  simp at this
  rw [hW]
  exact this
 have L := hide hR.1
 have RE := hide hR
 have PL := hide (posV_le ds x)
 have KX := hide kx
 have OH := hide O0
 have BH := hide b1
 clear hR b1 kx O0
 go_enter Tryz.func80, Tryz.ntmps80
 go_wp2_with fail
 rw [← hW]
 clear hW
 go_loopw [5, 6] (fun v i wr => ∃ (j g cap : Nat), v = .slice (some ⟨g, 0, none⟩) j cap ∧ i = .int .i64 (j : Int) ∧ j ≤ posV ds x ∧ Hid (VOwns wr (w.heap.size + 1) (.slice (some ⟨g, 0, none⟩) j cap) (ds.take j)) ∧ Hid (Below (w.heap.size + 1) W wr)) (fun _ i _ => n - (intOf i).toNat)
 case atStart => exact ⟨0, w.heap.size + 1, 0, rfl, rfl, Nat.zero_le _, OH, Below.refl _ _⟩
 case round =>
  clear OH
  obtain ⟨j, g, cap, rfl, rfl, hj, hO, hB⟩ := hrel
  have BW := hide ((unhide BH).trans ((unhide hB).mono (by omega)))
  have kr := ((unhide hB).block w.heap.size (by omega)).trans (unhide KX)
  have x0 := (heap_at kr 0).1
  have x1 := (heap_at kr 1).1
  have x2 := (heap_at kr 2).1
  have x3 := (heap_at kr 3).1
  have hszr : w.heap.size + 1 ≤ wr.heap.size := by have := (unhide hB).size; omega
  by_cases hlt : j < n
  case neg =>
   have hjn : j = n := by have := unhide PL; have := unhide L; omega
   have hpn : posV ds x = n := by have := unhide PL; have := unhide L; omega
   have FN := hide (hit_end (ds := ds) (x := x) (by rw [hpn, unhide L]; exact Nat.le_refl _))
   have IP := hide (insV_parts ds x hpn (q := n) (by rw [unhide FN]; rfl))
   have hpd := hide hpn
   clear hpn
   subst hjn
   have hd1 : decide (j < j) = false := decide_eq_false (by omega)
   have hd2 : decide ((j : Int) < (j : Int)) = false := decide_eq_false (by omega)
   go_wp2_with fail
   go_quiet (fail)
   have OQ := hide (show VOwns (wr.drewN nq) (w.heap.size + 1) (.slice (some ⟨g, 0, none⟩) j cap) (ds.take j) from unhide hO)
   have BQ := hide (bel_drewN (unhide hB) nq)
   have x0q : (wr.drewN nq).cell? ⟨w.heap.size, 0, none⟩ = some (.string x.k) := x0
   have x1q : (wr.drewN nq).cell? ⟨w.heap.size, 1, none⟩ = some (.int .i64 x.t) := x1
   have x2q : (wr.drewN nq).cell? ⟨w.heap.size, 2, none⟩ = some (.string x.v) := x2
   have x3q : (wr.drewN nq).cell? ⟨w.heap.size, 3, none⟩ = some (.bool x.g) := x3
   have hszq : w.heap.size + 1 ≤ (wr.drewN nq).heap.size := hszr
   clear hO hB BW kr x0 x1 x2 x3 hszr
   generalize wr.drewN nq = wq at *
   have OA := World.ownsRow.alloc (unhide OQ) (.cells #[.string x.k, .int .i64 x.t, .string x.v, .bool x.g] 43)
   have hr1 := vrow_one wq x
   have bA : Below wq.heap.size wq (wq.alloc (.cells #[.string x.k, .int .i64 x.t, .string x.v, .bool x.g] 43)) := (Below.refl _ _).alloc (Nat.le_refl _) _
   have HTL := hide (show (ds.take j).length = j by have := unhide L; rw [List.length_take]; omega)
   obtain ⟨g3, k3, w3, hr, ho, hg, -⟩ := v_appS 25 (show VOwns _ (w.heap.size + 1) (.slice (some ⟨g, 0, none⟩) j cap) (ds.take j) from OA) (by simp) hr1 (fun h => by cases h) (c := 1) (by rw [unhide HTL]; omega) (Nat.le_trans hszq bA.size)
   rw [unhide HTL] at hr
   have ho : VOwns w3 (w.heap.size + 1) (.slice (some ⟨g3, 0, none⟩) (j + 1) k3) (ds.take j ++ [x]) := by have h := ho; rw [unhide HTL] at h; exact h
   have B3 := hide (((unhide BQ).trans (bA.mono hszq)).grown hg (Nat.le_trans (by omega) (Nat.le_trans hszq bA.size)) (fun k hk => (OA.lt k hk).1))
   have O3 := hide ho
   clear OA hr1 bA hg ho
   go_wp2_with (at_builtin; refine ky_wpApp rfl (.tmp 29) (.tmp 31) 25 rfl _ _ _ w3 rfl rfl hr ?_)
   clear hr
   clear x0q x1q x2q x3q
   cases a with
   | none =>
    obtain rfl := hcn rfl
    have hj0 : j = 0 := by omega
    have SRC := hide (show ∀ u, VRow u none 0 (ds.drop j) by
     obtain ⟨h1, h2⟩ := vrow_none (unhide RE)
     rw [h2]
     exact fun u => ⟨by simp, fun i hi => by simp at hi⟩)
    subst hj0
    go_wp2_with fail
    go_quiet (fail)
    have O5 := unhide O3
    obtain ⟨g6, k6, w6, hr, ho, hg, -⟩ := v_appS 25 (show VOwns (w3.drewN nq) (w.heap.size + 1) (.slice (some ⟨g3, 0, none⟩) (0 + 1) k3) (ds.take 0 ++ [x]) from O5) (by simp) (unhide SRC _) (fun _ => rfl) (c := 0) (by rw [List.length_append, unhide HTL]; simp only [List.length_singleton]; omega) (by have := (unhide B3).size; show w.heap.size + 1 ≤ w3.heap.size; omega)
    have B6 := hide ((unhide BH).trans (((bel_drewN (unhide B3) nq).grown hg (by have := (unhide B3).size; show w.heap.size + 1 ≤ w3.heap.size; omega) (fun k hk => (World.ownsRow.lt (show VOwns (w3.drewN nq) (w.heap.size + 1) (.slice (some ⟨g3, 0, none⟩) (0 + 1) k3) (ds.take 0 ++ [x]) from O5) k hk).1)).mono (by omega)))
    have HLN := hide (show (insV ds x).length = (ds.take 0 ++ [x]).length + 0 by rw [unhide IP, List.length_append, List.length_drop, unhide L])
    have O6 := hide (show VOwns w6 w.heap.size (.slice (some ⟨g6, 0, none⟩) (insV ds x).length k6) (insV ds x) by
     rw [unhide HLN, unhide IP]
     exact ownsRow_base2 ho (Nat.le_succ _))
    have RES := hide (show InsRes ds x w (.returned (.slice (some ⟨g6, 0, none⟩) ((ds.take 0 ++ [x]).length + 0) k6)) w6 from ⟨g6, k6, by rw [unhide HLN], unhide O6, unhide B6⟩)
    have HLT := hide (show (ds.take 0 ++ [x]).length = 0 + 1 by rw [List.length_append, unhide HTL]; rfl)
    rw [unhide HLT] at hr RES
    clear O5 ho hg HLN O6 B6
    go_wp2_with (at_builtin; refine ky_wpApp rfl (.tmp 59) (.tmp 62) 25 rfl _ _ _ w6 rfl rfl hr ?_)
    go_ret
    exact unhide RES
   | some ad =>
    obtain ⟨b, off, spot⟩ := ad
    have hA : ∃ A : Addr, (if c = j then some (⟨b, off, spot⟩ : Addr) else some ((⟨b, off, spot⟩ : Addr).add (j * 4))) = some A ∧ ∀ u, VRow u (some A) 0 (ds.drop j) := by
     have hdr : ds.drop j = [] := List.drop_of_length_le (by rw [unhide L]; exact Nat.le_refl _)
     rw [hdr]
     by_cases h : c = j
     ·exact ⟨_, if_pos h, fun u => ⟨rfl, fun i hi => by simp at hi⟩⟩
     ·exact ⟨_, if_neg h, fun u => ⟨rfl, fun i hi => by simp at hi⟩⟩
    obtain ⟨A, hA, SRC0⟩ := hA
    have SRC := hide SRC0
    clear SRC0
    go_wp2_with fail
    go_quiet (fail)
    have hd3 : j - j = 0 := Nat.sub_self j
    have O5 := unhide O3
    obtain ⟨g6, k6, w6, hr, ho, hg, -⟩ := v_appS 25 (show VOwns (w3.drewN nq) (w.heap.size + 1) (.slice (some ⟨g3, 0, none⟩) (j + 1) k3) (ds.take j ++ [x]) from O5) (by simp) (unhide SRC _) (fun h => by cases h) (c := (c - j)) (by rw [List.length_append, unhide HTL]; simp only [List.length_singleton]; omega) (by have := (unhide B3).size; show w.heap.size + 1 ≤ w3.heap.size; omega)
    have B6 := hide ((unhide BH).trans (((bel_drewN (unhide B3) nq).grown hg (by have := (unhide B3).size; show w.heap.size + 1 ≤ w3.heap.size; omega) (fun k hk => (World.ownsRow.lt (show VOwns (w3.drewN nq) (w.heap.size + 1) (.slice (some ⟨g3, 0, none⟩) (j + 1) k3) (ds.take j ++ [x]) from O5) k hk).1)).mono (by omega)))
    have HLN := hide (show (insV ds x).length = (ds.take j ++ [x]).length + 0 by rw [unhide IP, List.length_append, List.length_drop, unhide L, Nat.sub_self])
    have O6 := hide (show VOwns w6 w.heap.size (.slice (some ⟨g6, 0, none⟩) (insV ds x).length k6) (insV ds x) by
     rw [unhide HLN, unhide IP]
     exact ownsRow_base2 ho (Nat.le_succ _))
    have RES := hide (show InsRes ds x w (.returned (.slice (some ⟨g6, 0, none⟩) ((ds.take j ++ [x]).length + 0) k6)) w6 from ⟨g6, k6, by rw [unhide HLN], unhide O6, unhide B6⟩)
    have HLT := hide (show (ds.take j ++ [x]).length = j + 1 by rw [List.length_append, unhide HTL]; rfl)
    rw [unhide HLT] at hr RES
    clear O5 ho hg HLN O6 B6
    go_wp2_with (at_builtin; refine ky_wpApp rfl (.tmp 59) (.tmp 62) 25 rfl _ _ _ w6 rfl rfl hr ?_)
    go_ret
    exact unhide RES
  have hj2 : j < ds.length := by rw [unhide L]; exact hlt
  obtain ⟨b, off, rfl, d0, d1, d2, d3⟩ := ((unhide RE).below (unhide BW)).2 j hj2
  have hjn : (j : Int) < (n : Int) := by omega
  have hbl : b < w.heap.size := by obtain ⟨b2, o2, h2, c2, _⟩ := (unhide RE).2 j hj2; injection h2 with h2; injection h2 with h2 _; subst h2; exact cell_lt c2
  have HS := hide (fun h => posV_step (x := x) hj2 hj h)
  have HE := hide (fun h => posV_end (x := x) hj2 hj h)
  have HA := hide (fun h => hit_at (ds := ds) (x := x) (p := j) h hj2)
  have TS := hide (takeG_snoc ds j hj2)
  have SC := hide (fun (u : World) (hb : Below wr.heap.size wr u) => (l06Before_any ds[j] x u).mono fun e u' h => show e = .returned (.bool (ltV ds[j] x)) ∧ Below wr.heap.size wr u' from ⟨h.1, hb.trans (h.2.mono hb.size)⟩)
  generalize hpd : ds[j] = pd at *
  have HPD := hide hpd
  clear hpd
  obtain ⟨pk, pt, pv, pg⟩ := pd
  simp only at d0 d1 d2 d3
  unfold vv at SC
  simp only at SC
  have SK := hide (show ∀ u, Below wr.heap.size wr u → (u.cell? ⟨b, off + j * 4, none⟩ = some (.string pk) ∧ u.cell? ⟨b, off + j * 4 + 1, none⟩ = some (.int .i64 pt) ∧ u.cell? ⟨b, off + j * 4 + 2, none⟩ = some (.string pv) ∧ u.cell? ⟨b, off + j * 4 + 3, none⟩ = some (.bool pg) ∧ u.cell? ⟨w.heap.size, 0, none⟩ = some (.string x.k) ∧ u.cell? ⟨w.heap.size, 1, none⟩ = some (.int .i64 x.t) ∧ u.cell? ⟨w.heap.size, 2, none⟩ = some (.string x.v) ∧ u.cell? ⟨w.heap.size, 3, none⟩ = some (.bool x.g)) from fun u hb =>
   ⟨(hb.cell (p := ⟨b, off + j * 4, none⟩) (cell_lt d0)).trans d0, (hb.cell (p := ⟨b, off + j * 4 + 1, none⟩) (cell_lt d1)).trans d1, (hb.cell (p := ⟨b, off + j * 4 + 2, none⟩) (cell_lt d2)).trans d2, (hb.cell (p := ⟨b, off + j * 4 + 3, none⟩) (cell_lt d3)).trans d3, (hb.cell (p := ⟨w.heap.size, 0, none⟩) (cell_lt x0)).trans x0, (hb.cell (p := ⟨w.heap.size, 1, none⟩) (cell_lt x1)).trans x1, (hb.cell (p := ⟨w.heap.size, 2, none⟩) (cell_lt x2)).trans x2, (hb.cell (p := ⟨w.heap.size, 3, none⟩) (cell_lt x3)).trans x3⟩)
  have G0 : Below wr.heap.size wr wr.drew := (Below.refl _ _).drew
  clear d0 d1 d2 d3 x0 x1 x2 x3 kr
  go_upto_region 3 with fail
  refine wp_region_held_drew (S := (fun u => (u.cell? ⟨b, off + j * 4, none⟩ = some (.string pk) ∧ u.cell? ⟨b, off + j * 4 + 1, none⟩ = some (.int .i64 pt) ∧ u.cell? ⟨b, off + j * 4 + 2, none⟩ = some (.string pv) ∧ u.cell? ⟨b, off + j * 4 + 3, none⟩ = some (.bool pg) ∧ u.cell? ⟨w.heap.size, 0, none⟩ = some (.string x.k) ∧ u.cell? ⟨w.heap.size, 1, none⟩ = some (.int .i64 x.t) ∧ u.cell? ⟨w.heap.size, 2, none⟩ = some (.string x.v) ∧ u.cell? ⟨w.heap.size, 3, none⟩ = some (.bool x.g)))) (by kernel_rfl) (unhide SK _ G0) (fun hHeld => ?_)
  refine tk 0 8 rfl rfl hHeld ?_
  simp only [Act.put, lA, lB, lC]
  refine tk 1 9 rfl rfl hHeld ?_
  simp only [Act.put, lA, lB, lC]
  refine tk 2 10 rfl rfl hHeld ?_
  simp only [Act.put, lA, lB, lC]
  refine tk 3 11 rfl rfl hHeld ?_
  simp only [Act.put, lA, lB, lC]
  refine tk 4 12 rfl rfl hHeld ?_
  simp only [Act.put, lA, lB, lC]
  refine tk 5 13 rfl rfl hHeld ?_
  simp only [Act.put, lA, lB, lC]
  refine tk 6 14 rfl rfl hHeld ?_
  simp only [Act.put, lA, lB, lC]
  refine tk 7 15 rfl rfl hHeld ?_
  simp only [Act.put, lA, lB, lC]
  refine tk 8 16 rfl rfl hHeld ?_
  simp only [Act.put, lA, lB, lC]
  refine tk 9 17 rfl rfl hHeld ?_
  simp only [Act.put, lA, lB, lC]
  refine rd [10] (.cons rfl (fun K hK => ?_) .nil)
  go_simp
  refine (unhide SC _ G0).mono ?_
  rintro e w2 ⟨rfl, b2⟩
  refine hK.out _ _ (unhide SK _ b2) (fun hHeld => ?_)
  clear hK K
  refine tk 11 19 rfl rfl hHeld ?_
  simp only [Act.put, lA, lB, lC]
  refine wpAnyH_done (by kernel_rfl) ?_ _
  clear G0 SC
  obtain ⟨-, -, -, -, x0q, x1q, x2q, x3q⟩ := hHeld
  have BQ := hide ((unhide hB).trans (b2.mono hszr))
  have OQ := hide (rb_ownsRow_below (unhide hO) b2)
  have hszq : w.heap.size + 1 ≤ w2.heap.size := Nat.le_trans hszr b2.size
  clear hB hO BW b2 SK
  generalize hlv : ltV ⟨pk, pt, pv, pg⟩ x = lv at *
  have LV := hide hlv
  clear hlv
  generalize w2 = wq at *
  cases lv with
  | true =>
   clear x0q x1q x2q x3q
   obtain ⟨b', off', he, d0, d1, d2, d3⟩ := ((unhide RE).below ((unhide BH).trans ((unhide BQ).mono (by omega)))).2 j hj2
   injection he with he
   injection he with he1 he2
   subst he1 he2
   rw [unhide HPD] at d0 d1 d2 d3
   simp only at d0 d1 d2 d3
   have OA := World.ownsRow.alloc (unhide OQ) (.cells #[.string pk, .int .i64 pt, .string pv, .bool pg] 43)
   have hr1 := vrow_one wq ⟨pk, pt, pv, pg⟩
   have bA : Below wq.heap.size wq (wq.alloc (.cells #[.string pk, .int .i64 pt, .string pv, .bool pg] 43)) := (Below.refl _ _).alloc (Nat.le_refl _) _
   have HTL := hide (show (ds.take j).length = j by have := unhide L; rw [List.length_take]; omega)
   obtain ⟨g3, k3, w3, hr, ho, hg, -⟩ := v_appS 25 (show VOwns _ (w.heap.size + 1) (.slice (some ⟨g, 0, none⟩) j cap) (ds.take j) from OA) (by simp) hr1 (fun h => by cases h) (c := 1) (by rw [unhide HTL]; omega) (Nat.le_trans hszq bA.size)
   rw [unhide HTL] at hr
   have ho : VOwns w3 (w.heap.size + 1) (.slice (some ⟨g3, 0, none⟩) (j + 1) k3) (ds.take (j + 1)) := by have h := ho; rw [unhide HTL, ← unhide TS] at h; exact h
   have B3 := hide (((unhide BQ).trans (bA.mono hszq)).grown hg (Nat.le_trans (by omega) (Nat.le_trans hszq bA.size)) (fun k hk => (OA.lt k hk).1))
   have O3 := hide ho
   clear OA hr1 bA hg ho
   go_wp2_with (at_builtin; refine ky_wpApp rfl (.tmp 20) (.tmp 25) 25 rfl _ _ _ w3 rfl rfl hr ?_)
   clear hr
   have NX := hide (unhide HS rfl)
   go_wp2_with fail
   go_roundw
   case rel => exact ⟨j + 1, g3, k3, rfl, by go_num, unhide NX, unhide O3, unhide B3⟩
   case measure => simp [intOf]; omega
  | false =>
   have EP := hide (unhide HE rfl).symm
   have HI := hide (unhide HA (unhide EP))
   have OA := World.ownsRow.alloc (unhide OQ) (.cells #[.string x.k, .int .i64 x.t, .string x.v, .bool x.g] 43)
   have hr1 := vrow_one wq x
   have bA : Below wq.heap.size wq (wq.alloc (.cells #[.string x.k, .int .i64 x.t, .string x.v, .bool x.g] 43)) := (Below.refl _ _).alloc (Nat.le_refl _) _
   have HTL := hide (show (ds.take j).length = j by have := unhide L; rw [List.length_take]; omega)
   obtain ⟨g3, k3, w3, hr, ho, hg, -⟩ := v_appS 25 (show VOwns _ (w.heap.size + 1) (.slice (some ⟨g, 0, none⟩) j cap) (ds.take j) from OA) (by simp) hr1 (fun h => by cases h) (c := 1) (by rw [unhide HTL]; omega) (Nat.le_trans hszq bA.size)
   rw [unhide HTL] at hr
   have ho : VOwns w3 (w.heap.size + 1) (.slice (some ⟨g3, 0, none⟩) (j + 1) k3) (ds.take j ++ [x]) := by have h := ho; rw [unhide HTL] at h; exact h
   have B3 := hide (((unhide BQ).trans (bA.mono hszq)).grown hg (Nat.le_trans (by omega) (Nat.le_trans hszq bA.size)) (fun k hk => (OA.lt k hk).1))
   have O3 := hide ho
   clear OA hr1 bA hg ho
   go_wp2_with (at_builtin; refine ky_wpApp rfl (.tmp 29) (.tmp 31) 25 rfl _ _ _ w3 rfl rfl hr ?_)
   clear hr
   obtain ⟨b', off', he, d0, d1, -, -⟩ := ((unhide RE).below ((unhide BH).trans ((unhide B3).mono (by omega)))).2 j hj2
   injection he with he
   injection he with he1 he2
   subst he1 he2
   rw [unhide HPD] at d0 d1
   simp only at d0 d1
   have kr := ((unhide B3).block w.heap.size (by omega)).trans (unhide KX)
   have x0 := (heap_at kr 0).1
   have x1 := (heap_at kr 1).1
   clear kr x0q x1q x2q x3q
   by_cases hke : pk = x.k
   ·have hkb : (pk.toList == x.k.toList) = true := by rw [hke]; simp
    by_cases hte : pt = x.t
    ·have htb : decide (pt = x.t) = true := decide_eq_true hte
     have htc : (pt == x.t) = true := by simpa using hte
     have IP := hide (insV_parts ds x (unhide EP) (q := j + 1) (by rw [unhide HI]; unfold sameV; rw [htb, decide_eq_true hke]; rfl))
     clear hke hte
     obtain ⟨A, hA, SRC0⟩ := vdrop_src (k := j + 1) ((unhide RE).below ((unhide BH).trans ((unhide B3).mono (by omega)))) hc (by omega)
     have SRC := hide SRC0
     clear SRC0
     go_wp2_with fail
     go_quiet (fail)
     have O5 := unhide O3
     obtain ⟨g6, k6, w6, hr, ho, hg, -⟩ := v_appS 25 (show VOwns (w3.drewN nq) (w.heap.size + 1) (.slice (some ⟨g3, 0, none⟩) (j + 1) k3) (ds.take j ++ [x]) from O5) (by simp) (show VRow (w3.drewN nq) (some A) (n - (j + 1)) (ds.drop (j + 1)) from unhide SRC) (fun h => by cases h) (c := (c - (j + 1))) (by rw [List.length_append, unhide HTL]; simp only [List.length_singleton]; omega) (by have := (unhide B3).size; show w.heap.size + 1 ≤ w3.heap.size; omega)
     have B6 := hide ((unhide BH).trans (((bel_drewN (unhide B3) nq).grown hg (by have := (unhide B3).size; show w.heap.size + 1 ≤ w3.heap.size; omega) (fun k hk => (World.ownsRow.lt (show VOwns (w3.drewN nq) (w.heap.size + 1) (.slice (some ⟨g3, 0, none⟩) (j + 1) k3) (ds.take j ++ [x]) from O5) k hk).1)).mono (by omega)))
     have HLN := hide (show (insV ds x).length = (ds.take j ++ [x]).length + (n - (j + 1)) by rw [unhide IP, List.length_append, List.length_drop, unhide L])
     have O6 := hide (show VOwns w6 w.heap.size (.slice (some ⟨g6, 0, none⟩) (insV ds x).length k6) (insV ds x) by
      rw [unhide HLN, unhide IP]
      exact ownsRow_base2 ho (Nat.le_succ _))
     have RES := hide (show InsRes ds x w (.returned (.slice (some ⟨g6, 0, none⟩) ((ds.take j ++ [x]).length + (n - (j + 1))) k6)) w6 from ⟨g6, k6, by rw [unhide HLN], unhide O6, unhide B6⟩)
     have HLT := hide (show (ds.take j ++ [x]).length = j + 1 by rw [List.length_append, unhide HTL]; rfl)
     rw [unhide HLT] at hr RES
     clear O5 ho hg HLN O6 B6
     go_wp2_with (at_builtin; refine ky_wpApp rfl (.tmp 59) (.tmp 62) 25 rfl _ _ _ w6 rfl rfl hr ?_)
     go_ret
     exact unhide RES
    ·have htb : decide (pt = x.t) = false := decide_eq_false hte
     have htc : (pt == x.t) = false := by simpa using hte
     have IP := hide (insV_parts ds x (unhide EP) (q := j) (by rw [unhide HI]; unfold sameV; rw [htb]; simp))
     clear hke
     obtain ⟨A, hA, SRC0⟩ := vdrop_src (k := j) ((unhide RE).below ((unhide BH).trans ((unhide B3).mono (by omega)))) hc (by omega)
     have SRC := hide SRC0
     clear SRC0
     go_wp2_with fail
     go_quiet (fail)
     have O5 := unhide O3
     obtain ⟨g6, k6, w6, hr, ho, hg, -⟩ := v_appS 25 (show VOwns (w3.drewN nq) (w.heap.size + 1) (.slice (some ⟨g3, 0, none⟩) (j + 1) k3) (ds.take j ++ [x]) from O5) (by simp) (show VRow (w3.drewN nq) (some A) (n - (j)) (ds.drop (j)) from unhide SRC) (fun h => by cases h) (c := (c - (j))) (by rw [List.length_append, unhide HTL]; simp only [List.length_singleton]; omega) (by have := (unhide B3).size; show w.heap.size + 1 ≤ w3.heap.size; omega)
     have B6 := hide ((unhide BH).trans (((bel_drewN (unhide B3) nq).grown hg (by have := (unhide B3).size; show w.heap.size + 1 ≤ w3.heap.size; omega) (fun k hk => (World.ownsRow.lt (show VOwns (w3.drewN nq) (w.heap.size + 1) (.slice (some ⟨g3, 0, none⟩) (j + 1) k3) (ds.take j ++ [x]) from O5) k hk).1)).mono (by omega)))
     have HLN := hide (show (insV ds x).length = (ds.take j ++ [x]).length + (n - (j)) by rw [unhide IP, List.length_append, List.length_drop, unhide L])
     have O6 := hide (show VOwns w6 w.heap.size (.slice (some ⟨g6, 0, none⟩) (insV ds x).length k6) (insV ds x) by
      rw [unhide HLN, unhide IP]
      exact ownsRow_base2 ho (Nat.le_succ _))
     have RES := hide (show InsRes ds x w (.returned (.slice (some ⟨g6, 0, none⟩) ((ds.take j ++ [x]).length + (n - (j))) k6)) w6 from ⟨g6, k6, by rw [unhide HLN], unhide O6, unhide B6⟩)
     have HLT := hide (show (ds.take j ++ [x]).length = j + 1 by rw [List.length_append, unhide HTL]; rfl)
     rw [unhide HLT] at hr RES
     clear O5 ho hg HLN O6 B6
     go_wp2_with (at_builtin; refine ky_wpApp rfl (.tmp 59) (.tmp 62) 25 rfl _ _ _ w6 rfl rfl hr ?_)
     go_ret
     exact unhide RES
   ·have hkb : (pk.toList == x.k.toList) = false := by simpa using fun e => hke (toList_inj e)
    have IP := hide (insV_parts ds x (unhide EP) (q := j) (by rw [unhide HI]; unfold sameV; rw [decide_eq_false hke]; simp))
    obtain ⟨A, hA, SRC0⟩ := vdrop_src (k := j) ((unhide RE).below ((unhide BH).trans ((unhide B3).mono (by omega)))) hc (by omega)
    have SRC := hide SRC0
    clear SRC0
    go_wp2_with fail
    go_quiet (fail)
    have O5 := unhide O3
    obtain ⟨g6, k6, w6, hr, ho, hg, -⟩ := v_appS 25 (show VOwns (w3.drewN nq) (w.heap.size + 1) (.slice (some ⟨g3, 0, none⟩) (j + 1) k3) (ds.take j ++ [x]) from O5) (by simp) (show VRow (w3.drewN nq) (some A) (n - (j)) (ds.drop (j)) from unhide SRC) (fun h => by cases h) (c := (c - (j))) (by rw [List.length_append, unhide HTL]; simp only [List.length_singleton]; omega) (by have := (unhide B3).size; show w.heap.size + 1 ≤ w3.heap.size; omega)
    have B6 := hide ((unhide BH).trans (((bel_drewN (unhide B3) nq).grown hg (by have := (unhide B3).size; show w.heap.size + 1 ≤ w3.heap.size; omega) (fun k hk => (World.ownsRow.lt (show VOwns (w3.drewN nq) (w.heap.size + 1) (.slice (some ⟨g3, 0, none⟩) (j + 1) k3) (ds.take j ++ [x]) from O5) k hk).1)).mono (by omega)))
    have HLN := hide (show (insV ds x).length = (ds.take j ++ [x]).length + (n - (j)) by rw [unhide IP, List.length_append, List.length_drop, unhide L])
    have O6 := hide (show VOwns w6 w.heap.size (.slice (some ⟨g6, 0, none⟩) (insV ds x).length k6) (insV ds x) by
     rw [unhide HLN, unhide IP]
     exact ownsRow_base2 ho (Nat.le_succ _))
    have RES := hide (show InsRes ds x w (.returned (.slice (some ⟨g6, 0, none⟩) ((ds.take j ++ [x]).length + (n - (j))) k6)) w6 from ⟨g6, k6, by rw [unhide HLN], unhide O6, unhide B6⟩)
    have HLT := hide (show (ds.take j ++ [x]).length = j + 1 by rw [List.length_append, unhide HTL]; rfl)
    rw [unhide HLT] at hr RES
    clear O5 ho hg HLN O6 B6
    go_wp2_with (at_builtin; refine ky_wpApp rfl (.tmp 59) (.tmp 62) 25 rfl _ _ _ w6 rfl rfl hr ?_)
    go_ret
    exact unhide RES
end Go.Proofs.YtdnjgbckkmbmfaaGreat

namespace Go.Proofs.YtdnjgbckkmbmfaaGreat
open Go.RowKit

theorem rowC_lenV {w : World} {a : Option Addr} {n m c : Nat} {cs : List Value} (h : RowC w (.slice a n c) m cs) : n = m := by
 obtain ⟨_, _, e, _⟩ := h
 injection e
theorem vrow_C {w : World} {a : Option Addr} {n c : Nat} {ds : List VerD} (h : RowC w (.slice a n c) ds.length (vcs ds)) : VRow w a n ds := by
 have hn := rowC_lenV h
 subst hn
 refine ⟨rfl, fun i hi => ?_⟩
 obtain ⟨e0, e1, e2, e3⟩ := vcs_at ds i hi
 obtain ⟨b, off, e, q0⟩ := h.at e0
 obtain ⟨b1, o1, f1, q1⟩ := h.at e1
 obtain ⟨b2, o2, f2, q2⟩ := h.at e2
 obtain ⟨b3, o3, f3, q3⟩ := h.at e3
 rw [e] at f1 f2 f3
 cases f1
 cases f2
 cases f3
 exact ⟨b, off, e, q0, by rw [Nat.add_assoc]; exact q1, by rw [Nat.add_assoc]; exact q2, by rw [Nat.add_assoc]; exact q3⟩
end Go.Proofs.YtdnjgbckkmbmfaaGreat

namespace Go.Proofs.YtdnjgbckkmbmfaaGreat
open Go.RowKit

structure SeH where
 X : SesD
 s0 : Sl
def seEl (h : SeH) : El := ⟨[.bool h.X.o, .int .i64 h.X.t, .slice h.s0.a h.s0.n h.s0.c], [⟨43, 4, h.X.ws.length, .slice h.s0.a h.s0.n h.s0.c, vcs h.X.ws⟩]⟩
abbrev SeOwn (w : World) (B : Nat) (v : Value) (hs : List SeH) : Prop := NOwn w B 55 3 v hs.length (hs.map seEl)
abbrev SeIn (w : World) (v : Value) (n : Nat) (hs : List SeH) : Prop := NIn w 3 v n (hs.map seEl)
theorem seEl_at {hs : List SeH} {k : Nat} (hk : k < hs.length) : (hs.map seEl)[k]? = some (seEl hs[k]) := by rw [List.getElem?_map, List.getElem?_eq_getElem hk]; rfl
theorem seEl_wid (hs : List SeH) : ∀ e ∈ hs.map seEl, e.hd.length = 3 := by intro e he; obtain ⟨h, _, rfl⟩ := List.mem_map.1 he; rfl
theorem SeIn.sub {w : World} {v : Value} {n : Nat} {hs : List SeH} (h : SeIn w v n hs) {k : Nat} (hk : k < hs.length) : RowC w (.slice hs[k].s0.a hs[k].s0.n hs[k].s0.c) hs[k].X.ws.length (vcs hs[k].X.ws) := by
 have d := h.dat (seEl hs[k]) (List.mem_map_of_mem (List.getElem_mem hk))
 exact d _ (List.Mem.head _)
theorem SeIn.cells {w : World} {a : Option Addr} {n c : Nat} {hs : List SeH} (h : SeIn w (.slice a n c) n hs) {k : Nat} (hk : k < hs.length) : ∃ b off, a = some ⟨b, off, none⟩ ∧ b < w.heap.size ∧ w.cell? ⟨b, off + k * 3, none⟩ = some (.bool hs[k].X.o) ∧ w.cell? ⟨b, off + k * 3 + 1, none⟩ = some (.int .i64 hs[k].X.t) ∧ w.cell? ⟨b, off + k * 3 + 2, none⟩ = some (.slice hs[k].s0.a hs[k].s0.n hs[k].s0.c) := by
 obtain ⟨b, off, e, hb, q⟩ := h.cell (seEl_at hk) (by decide)
 exact ⟨b, off, e, hb, q 0 _ rfl, by rw [Nat.add_assoc]; exact q 1 _ rfl, by rw [Nat.add_assoc]; exact q 2 _ rfl⟩
theorem Tryz.infoSe : (Tryz.prog.info? 55).map (fun i => (i.zero, i.size, i.bytes)) = some (some (.agg #[.bool false, .int .i64 0, .slice none 0 0]), 3, 40) := by kernel_rfl
end Go.Proofs.YtdnjgbckkmbmfaaGreat

namespace Go.Proofs.YtdnjgbckkmbmfaaGreat
open Go.RowKit

theorem sbAt_snoc {es : List El} {e : El} {i a : Nat} {x : Sb} (h : sbAt (es ++ [e]) i a = some x) : (i < es.length ∧ sbAt es i a = some x) ∨ (i = es.length ∧ e.sb[a]? = some x) := by
 unfold sbAt at h
 by_cases hi : i < es.length
 ·rw [List.getElem?_append_left hi] at h
  exact .inl ⟨hi, h⟩
 ·by_cases he : i = es.length
  ·subst he
   rw [List.getElem?_append_right (Nat.le_refl _), Nat.sub_self] at h
   exact .inr ⟨rfl, h⟩
  ·rw [List.getElem?_append_right (by omega), List.getElem?_eq_none (by simp; omega)] at h
   cases h
theorem NOwn.app {w : World} {B T S n C : Nat} {v : Value} {es : List El} {e : El} (ty : TypeId) {i0 : TypeInfo} {z : Value} {by_ : Nat} (hu : Tryz.prog.underlying ty = some (.slice T)) (hi0 : Tryz.prog.info? T = some i0) (hz0 : i0.zero = some z) (hz1 : i0.size = S) (hz2 : i0.bytes = by_) (hzs : z.cells.size = S) (hS : 0 < S) (hby : by_ ≤ 1000)
  (ho : NOwn w B T S v n es) (hw : e.hd.length = S) (h1 : ∀ u ∈ e.hd, u.oneCell' = true) (hd : ∀ x ∈ e.sb, w.ownsRow C x.t x.s x.v x.n x.cs) (hC : ∀ i, NBl v es i → i < C) (hBC : B ≤ C)
  (hf : ∀ (a b : Nat) (x y : Sb), e.sb[a]? = some x → e.sb[b]? = some y → a ≠ b → ∀ g, x.v.ownBlock = some g → y.v.ownBlock ≠ some g) (hz : n ≤ 900000) (hB : B ≤ w.heap.size) :
  ∃ v' w', (Builtin.append_ #[ty, ty] ty #[v, .slice (some ⟨w.heap.size, 0, none⟩) 1 1]).run Tryz.prog (w.alloc (.cells e.hd.toArray T)) = .ok v' w' ∧ NOwn w' B T S v' (n + 1) (es ++ [e]) ∧ (w.alloc (.cells e.hd.toArray T)).grownBy w' v.ownBlock ∧ v' ≠ .slice none 0 0 := by
 obtain ⟨W, hW⟩ : ∃ W, W = w.alloc (.cells e.hd.toArray T) := ⟨_, rfl⟩
 have bA : Below w.heap.size w W := by rw [hW]; exact (Below.refl _ _).alloc (Nat.le_refl _) _
 have zW : W.heap.size = w.heap.size + 1 := by rw [hW]; simp
 have hcells : ∀ j u, e.hd[j]? = some u → W.cell? ((⟨w.heap.size, 0, none⟩ : Addr).add j) = some u := fun j u hu => by
  have e2 : (⟨w.heap.size, 0, none⟩ : Addr).add j = ⟨w.heap.size, j, none⟩ := by unfold Addr.add; split <;> simp_all
  rw [e2, hW]
  exact rb_cell_new rfl (by simpa using hu)
 have hoa := ho.below bA
 rw [← hW]
 have hbb : (n + 1) * by_ ≤ 900001 * 1000 := Nat.mul_le_mul (by omega) hby
 obtain ⟨v', w', hrun, ho', hg, hn, hloc⟩ := app_at (P := Tryz.prog) (w := W) (B := B) ty ty T hu hi0 hz0 hz1 hz2 hzs hS hoa.row ⟨w.heap.size, 0, none⟩ 1 1 e.hd (by rw [hw]; omega) hcells h1 (by unfold maxLen; omega) (by omega) (by omega) (fun _ => by omega)
 have hwr := WrB.of_grown hg
 have up : ∀ (k b : Nat) (y : Sb), sbAt es k b = some y → ∀ g, y.v.ownBlock = some g → g < C := fun k b y hy g hg => hC g (.inr ⟨k, b, y, hy, hg⟩)
 have lo : ∀ (b : Nat) (y : Sb), e.sb[b]? = some y → ∀ g, y.v.ownBlock = some g → C ≤ g ∧ g < w.heap.size := fun b y hy g hg => (hd y (List.mem_of_getElem? hy)).lt g hg
 refine ⟨v', w', hrun, ⟨?_, by rw [List.length_append, ho.len]; rfl, fun y hy => ?_, fun k b y hy => ?_, fun k l b d y z hy hz hne => ?_, fun k b y hy g h1 h2 => ?_⟩, hg, hn⟩
 ·rw [List.flatMap_append, List.flatMap_cons, List.flatMap_nil, List.append_nil]
  exact ho'
 ·rcases List.mem_append.1 hy with hy | hy
  ·exact ho.wid y hy
  ·rw [List.mem_singleton.1 hy]; exact hw
 ·rcases sbAt_snoc hy with ⟨_, hy⟩ | ⟨_, hy⟩
  ·exact rr_owns_wr (hoa.dat k b y hy) hwr (fun q hq e => hoa.off k b y hy q e hq)
  ·exact gd_base (rr_owns_wr (rb_ownsRow_below (hd y (List.mem_of_getElem? hy)) bA) hwr (fun q hq e => by have := (lo b y hy q hq).1; have := hC q (.inl e); omega)) hBC
 ·rcases sbAt_snoc hy with ⟨hk, hy⟩ | ⟨hk, hy⟩
  ·rcases sbAt_snoc hz with ⟨hl, hz⟩ | ⟨hl, hz⟩
   ·exact ho.far k l b d y z hy hz hne
   ·exact fun g h1 h2 => by have := up k b y hy g h1; have := (lo d z hz g h2).1; omega
  ·rcases sbAt_snoc hz with ⟨hl, hz⟩ | ⟨hl, hz⟩
   ·exact fun g h1 h2 => by have := (lo b y hy g h1).1; have := up l d z hz g h2; omega
   ·exact hf b d y z hy hz (by rcases hne with h | h; exact absurd (hk.trans hl.symm) h; exact h)
 ·rcases sbAt_snoc hy with ⟨_, hy⟩ | ⟨_, hy⟩
  ·rcases hloc with e | e
   ·exact ho.off k b y hy g (by rw [← e]; exact h1) h2
   ·rw [e] at h1
    injection h1 with h1
    have := ((ho.dat k b y hy).lt g h2).2
    omega
  ·rcases hloc with e | e
   ·have := hC g (.inl (by rw [← e]; exact h1))
    have := (lo b y hy g h2).1
    omega
   ·rw [e] at h1
    injection h1 with h1
    have := (lo b y hy g h2).2
    omega
end Go.Proofs.YtdnjgbckkmbmfaaGreat

namespace Go.Proofs.YtdnjgbckkmbmfaaGreat
open Go.RowKit

def Cap (s : Sl) : Prop := s.n ≤ s.c ∧ (s.a = none → s.c = 0)
structure VzIn (w : World) (l f s : Sl) (hs : List SeH) (d : VsD) : Prop where
 vr : VRow w l.a l.n d.list
 fr : FRow w f.a f.n d.fen
 sr : SeIn w (.slice s.a s.n s.c) s.n hs
 ss : hs.map (·.X) = d.ses
 cl : Cap l
 cf : Cap f
 cw : ∀ h ∈ hs, Cap h.s0
theorem VzIn.below {w w' : World} {l f s : Sl} {hs : List SeH} {d : VsD} (h : VzIn w l f s hs d) (hb : Below w.heap.size w w') : VzIn w' l f s hs d :=
 ⟨h.vr.below hb, h.fr.below hb, h.sr.below hb, h.ss, h.cl, h.cf, h.cw⟩
theorem VzIn.len {w : World} {l f s : Sl} {hs : List SeH} {d : VsD} (h : VzIn w l f s hs d) : hs.length = s.n ∧ hs.length = d.ses.length := by
 have h1 := h.sr.len
 rw [List.length_map] at h1
 exact ⟨h1, by rw [← h.ss, List.length_map]⟩
theorem VzIn.at {w : World} {l f s : Sl} {hs : List SeH} {d : VsD} (h : VzIn w l f s hs d) {i : Nat} (hi : i < hs.length) : ∃ hd : i < d.ses.length, hs[i].X = d.ses[i] := by
 have e := h.ss
 have hl := h.len.2
 refine ⟨by omega, ?_⟩
 have : (hs.map (·.X))[i]'(by simpa using hi) = d.ses[i]'(by omega) := by simp only [e]
 simpa using this
theorem SeIn.row {w : World} {v : Value} {n : Nat} {hs : List SeH} (h : SeIn w v n hs) {k : Nat} (hk : k < hs.length) : VRow w hs[k].s0.a hs[k].s0.n hs[k].X.ws := vrow_C (SeIn.sub h hk)
structure VzOwn (w : World) (B : Nat) (l f s : Sl) (hs : List SeH) (d : VsD) : Prop where
 vo : VOwns w B (.slice l.a l.n l.c) d.list
 fo : FOwns w B (.slice f.a f.n f.c) d.fen
 so : SeOwn w B (.slice s.a s.n s.c) hs
 ss : hs.map (·.X) = d.ses
 far : ∀ i, (Value.slice l.a l.n l.c).ownBlock = some i → ¬ NBl (.slice s.a s.n s.c) (hs.map seEl) i
theorem cap_of_owns {w : World} {B e t n : Nat} {s : Sl} {cs : List Value} (h : w.ownsRow B e t (.slice s.a s.n s.c) n cs) : Cap s := by
 obtain ⟨a, m, c⟩ := s
 rcases h.2 with ⟨e, _⟩ | ⟨g, cap, cur, e, hb, hh, hc, _⟩
 ·injection e with e1 e2 e3
  subst e1 e2 e3
  exact ⟨Nat.le_refl _, fun _ => rfl⟩
 ·injection e with e1 e2 e3
  subst e1 e2 e3
  exact ⟨hc, fun h => by cases h⟩
theorem owns_n {w : World} {B e t n m c : Nat} {a : Option Addr} {cs : List Value} (h : w.ownsRow B e t (.slice a m c) n cs) : m = n := by
 rcases h.2 with ⟨e, hn⟩ | ⟨g, cap, cur, e, _⟩
 ·injection e with _ e2 _; omega
 ·injection e
theorem VzOwn.reads {w : World} {B : Nat} {l f s : Sl} {hs : List SeH} {d : VsD} (h : VzOwn w B l f s hs d) : VzIn w l f s hs d :=
 ⟨vrow_of_owns h.vo, frow_of_owns h.fo, by have := h.so.reads; rw [← owns_n h.so.row] at this; exact this, h.ss, cap_of_owns h.vo, cap_of_owns h.fo, fun x hx => by
  obtain ⟨k, hk, rfl⟩ := List.getElem_of_mem hx
  exact cap_of_owns (h.so.dat k 0 _ (by unfold sbAt; rw [seEl_at hk]; rfl))⟩
theorem VzOwn.below {w w' : World} {B : Nat} {l f s : Sl} {hs : List SeH} {d : VsD} (h : VzOwn w B l f s hs d) (hb : Below w.heap.size w w') : VzOwn w' B l f s hs d :=
 ⟨rb_ownsRow_below h.vo hb, rb_ownsRow_below h.fo hb, h.so.below hb, h.ss, h.far⟩
theorem VzOwn.dn {w : World} {B C : Nat} {l f s : Sl} {hs : List SeH} {d : VsD} (h : VzOwn w B l f s hs d) (hc : C ≤ B) : VzOwn w C l f s hs d :=
 ⟨gd_base h.vo hc, gd_base h.fo hc, h.so.down hc, h.ss, h.far⟩
abbrev vzC (next : Int) (l f s : Sl) : Array Value := #[.int .i64 next, .slice l.a l.n l.c, .slice f.a f.n f.c, .slice s.a s.n s.c]
end Go.Proofs.YtdnjgbckkmbmfaaGreat

namespace Go.Proofs.YtdnjgbckkmbmfaaGreat
open Go.RowKit

theorem kowns_e {w : World} {B : Nat} {v : Value} {ds : List KvD} (h : KOwns w B v ds) : EOwns w B v (ds.map kvE) := by
 unfold EOwns
 rw [List.length_map, ← kcs_ecs]
 exact h
def seenTo (d : VsD) (s : SesD) (k : Nat) : List EntD := (s.ws.take k).foldl (fun es x => putE es ⟨x.k, x.v⟩ x.g) ((entsAt d.list s.t).map kvE)
theorem seenTo_zero (d : VsD) (s : SesD) : seenTo d s 0 = (entsAt d.list s.t).map kvE := by simp [seenTo]
theorem seenTo_succ (d : VsD) (s : SesD) {k : Nat} (h : k < s.ws.length) : seenTo d s (k + 1) = putE (seenTo d s k) ⟨s.ws[k].k, s.ws[k].v⟩ s.ws[k].g := by
 unfold seenTo
 rw [takeG_snoc s.ws k h, List.foldl_append]
 rfl
theorem seenTo_all (d : VsD) (s : SesD) : seenTo d s s.ws.length = seenV d s := by unfold seenTo seenV; rw [List.take_length]
theorem putE_len (es : List EntD) (e : EntD) (g : Bool) : (putE es e g).length ≤ es.length + 1 := stepE_len _ _
theorem seenTo_len (d : VsD) (s : SesD) : ∀ k, k ≤ s.ws.length → (seenTo d s k).length ≤ d.list.length + k
 | 0, _ => by rw [seenTo_zero, List.length_map]; exact entsTo_len _ _ _
 | k + 1, h => by
  rw [seenTo_succ d s (by omega)]
  have := seenTo_len d s k (by omega)
  have := putE_len (seenTo d s k) ⟨s.ws[k].k, s.ws[k].v⟩ s.ws[k].g
  omega
theorem eowns_cap {w : World} {B g n c : Nat} {es : List EntD} (h : EOwns w B (.slice (some ⟨g, 0, none⟩) n c) es) : n ≤ c := (cap_of_owns (s := ⟨some ⟨g, 0, none⟩, n, c⟩) h).1
abbrev sesC (o : Bool) (t : Int) (s : Sl) : Array Value := #[.bool o, .int .i64 t, .slice s.a s.n s.c]
set_option maxHeartbeats 8000000 in
theorem l06Seen_any (next : Int) (l f s ws : Sl) (d : VsD) (x : SesD) (w : World) (hl : VRow w l.a l.n d.list) (hw : VRow w ws.a ws.n x.ws) (hz : d.list.length + x.ws.length ≤ 1000) :
  Calls Tryz.prog 77 #[.agg (vzC next l f s), .agg (sesC x.o x.t ws)] w fun e w' => ∃ g k, e = .returned (.slice (some ⟨g, 0, none⟩) (seenV d x).length k) ∧ EOwns w' w.heap.size (.slice (some ⟨g, 0, none⟩) (seenV d x).length k) (seenV d x) ∧ Below w.heap.size w w' := by
 obtain ⟨la, ln, lc⟩ := l
 obtain ⟨fa, fn, fc⟩ := f
 obtain ⟨sa, sn, sc⟩ := s
 obtain ⟨wa, wn, wc⟩ := ws
 unfold vzC sesC
 simp only at hl hw ⊢
 obtain ⟨W, hW⟩ : ∃ W, W = (w.alloc (.cells #[.int .i64 next, .slice la ln lc, .slice fa fn fc, .slice sa sn sc] 29)).alloc (.cells #[.bool x.o, .int .i64 x.t, .slice wa wn wc] 55) := ⟨_, rfl⟩
 have b1 : Below w.heap.size w W := by rw [hW]; exact ((Below.refl _ _).alloc (Nat.le_refl _) _).alloc (by simp) _
 have hzW : W.heap.size = w.heap.size + 1 + 1 := by rw [hW]; simp
 have ks : W.heap[w.heap.size + 1]? = some (.cells #[.bool x.o, .int .i64 x.t, .slice wa wn wc] 55 (0, 0)) := by
  rw [hW]
  have e : w.heap.size + 1 = (w.alloc (.cells #[.int .i64 next, .slice la ln lc, .slice fa fn fc, .slice sa sn sc] 29)).heap.size := by simp
  rw [e]
  exact heap_alloc_new _ _
 have kv : W.heap[w.heap.size]? = some (.cells #[.int .i64 next, .slice la ln lc, .slice fa fn fc, .slice sa sn sc] 29 (0, 0)) := by
  rw [hW]
  exact (((Below.refl _ _).alloc (Nat.le_refl _) _).block w.heap.size (by simp)).trans (heap_alloc_new _ _)
 have v1 := (heap_at kv 1).1
 have s1 := (heap_at ks 1).1
 have KS := hide ks
 have EN := hide (l06Entries_nn la ln lc d.list x.t W (by have := hl.1; omega) (hl.below b1))
 have HW := hide hw
 have LW := hide hw.1
 have BH := hide b1
 have HZ := hide hzW
 have SL := hide (fun k h => seenTo_len d x k h)
 have S0 := hide (seenTo_zero d x)
 have SS := hide (fun k (h : k < x.ws.length) => seenTo_succ d x h)
 have SA := hide (seenTo_all d x)
 have hzz : d.list.length + wn ≤ 1000 := by have := hw.1; omega
 clear hl hw kv ks b1 hzW hz
 go_enter Tryz.func77, Tryz.ntmps77
 go_wp2_with fail
 rw [← hW]
 clear hW
 refine (unhide EN).mono ?_
 rintro e w1 ⟨v, rfl, ⟨hk, hnn⟩, hb1⟩
 have OE := hide (show EOwns w1 W.heap.size v (seenTo d x 0) by rw [unhide S0]; exact kowns_e hk)
 obtain ⟨g0, k0, rfl, -, -, -⟩ := owns_form (unhide OE) hnn
 clear EN hk hnn v1 s1
 have hz1 : w.heap.size + 1 < W.heap.size := by have := unhide HZ; omega
 have ks1 := (hb1.block (w.heap.size + 1) hz1).trans (unhide KS)
 have s1 := (heap_at ks1 1).1
 have s2 := (heap_at ks1 2).1
 go_wp2_with fail
 clear s1 s2 ks1
 go_loopw [5, 6] (fun v i wr => ∃ (k g c : Nat), v = .slice (some ⟨g, 0, none⟩) (seenTo d x k).length c ∧ i = .int .i64 (k : Int) ∧ k ≤ wn ∧ Hid (EOwns wr W.heap.size (.slice (some ⟨g, 0, none⟩) (seenTo d x k).length c) (seenTo d x k)) ∧ Hid (Below W.heap.size W wr)) (fun _ i _ => wn - (intOf i).toNat)
 case atStart => exact ⟨0, g0, k0, rfl, rfl, Nat.zero_le _, OE, hb1⟩
 case round =>
  clear OE hb1
  obtain ⟨k, g, c, rfl, rfl, hk, hO, hB⟩ := hrel
  have ks1 := ((unhide hB).block (w.heap.size + 1) hz1).trans (unhide KS)
  have s1 := (heap_at ks1 1).1
  have s2 := (heap_at ks1 2).1
  by_cases hlt : k < wn
  case neg =>
   obtain rfl : k = wn := by omega
   have Z := hide (show seenTo d x k = seenV d x by rw [← unhide SA, unhide LW])
   rw [unhide Z] at hO ⊢
   have BB := hide ((unhide BH).trans ((unhide hB).mono (unhide BH).size))
   have hsW := (unhide BH).size
   go_wp2_with fail
   go_ret
   exact ⟨g, c, rfl, gd_base (unhide hO) hsW, unhide BB⟩
  have hk2 : k < x.ws.length := by rw [unhide LW]; exact hlt
  obtain ⟨b, off, rfl, d0, -, d2, d3⟩ := ((unhide HW).below ((unhide BH).trans ((unhide hB).mono (unhide BH).size))).2 k hk2
  have hkn : (k : Int) < (wn : Int) := by omega
  have Z := hide (unhide SS k hk2)
  have hsl := unhide SL k (by omega)
  have hwr : W.heap.size ≤ wr.heap.size := (unhide hB).size
  generalize x.ws[k] = pd at *
  obtain ⟨pk, pt, pv, pg⟩ := pd
  simp only at d0 d2 d3 Z
  have SP := hide (fun (u : World) (hb : Below wr.heap.size wr u) => (l04Put_any g 0 (seenTo d x k).length c (seenTo d x k) ⟨pk, pv⟩ pg u ((erow_of_owns (unhide hO)).below hb) (by omega) (eowns_cap (unhide hO))).mono fun e u' h => show ∃ g' c', e = .returned (.slice (some ⟨g', 0, none⟩) (seenTo d x (k + 1)).length c') ∧ EOwns u' W.heap.size (.slice (some ⟨g', 0, none⟩) (seenTo d x (k + 1)).length c') (seenTo d x (k + 1)) ∧ Below wr.heap.size wr u' by
   obtain ⟨g', c', h1, h2, h3⟩ := h
   rw [unhide Z]
   exact ⟨g', c', h1, gd_base h2 (Nat.le_trans hwr hb.size), hb.trans (h3.mono hb.size)⟩)
  have SK := hide (show ∀ u, Below wr.heap.size wr u → (u.cell? ⟨w.heap.size + 1, 2, none⟩ = some (.slice (some ⟨b, off, none⟩) wn wc) ∧ u.cell? ⟨b, off + k * 4, none⟩ = some (.string pk) ∧ u.cell? ⟨b, off + k * 4 + 2, none⟩ = some (.string pv) ∧ u.cell? ⟨b, off + k * 4 + 3, none⟩ = some (.bool pg)) from fun u hb =>
   ⟨(hb.cell (p := ⟨w.heap.size + 1, 2, none⟩) (cell_lt s2)).trans s2, (hb.cell (p := ⟨b, off + k * 4, none⟩) (cell_lt d0)).trans d0, (hb.cell (p := ⟨b, off + k * 4 + 2, none⟩) (cell_lt d2)).trans d2, (hb.cell (p := ⟨b, off + k * 4 + 3, none⟩) (cell_lt d3)).trans d3⟩)
  have G0 : Below wr.heap.size wr wr.drew := (Below.refl _ _).drew
  clear d0 d2 d3 s1 ks1
  go_upto_region 5 with fail
  clear s2
  generalize (seenTo d x k).length = mm at *
  refine wp_region_held_drew (S := (fun u => (u.cell? ⟨w.heap.size + 1, 2, none⟩ = some (.slice (some ⟨b, off, none⟩) wn wc) ∧ u.cell? ⟨b, off + k * 4, none⟩ = some (.string pk) ∧ u.cell? ⟨b, off + k * 4 + 2, none⟩ = some (.string pv) ∧ u.cell? ⟨b, off + k * 4 + 3, none⟩ = some (.bool pg)))) (by kernel_rfl) (unhide SK _ G0) (fun hHeld => ?_)
  refine tk 0 19 rfl rfl hHeld ?_
  simp only [Act.put, lA, lB, lC]
  refine tk 1 20 rfl rfl hHeld ?_
  simp only [Act.put, lA, lB, lC]
  refine tk 2 21 rfl rfl hHeld ?_
  simp only [Act.put, lA, lB, lC]
  refine tk 3 22 rfl rfl hHeld ?_
  simp only [Act.put, lA, lB, lC]
  refine tk 4 23 rfl rfl hHeld ?_
  simp only [Act.put, lA, lB, lC]
  refine tk 5 24 rfl rfl hHeld ?_
  simp only [Act.put, lA, lB, lC]
  refine tk 6 25 rfl rfl hHeld ?_
  simp only [Act.put, lA, lB, lC]
  refine tk 7 26 rfl rfl hHeld ?_
  simp only [Act.put, lA, lB, lC]
  refine tk 8 27 rfl rfl hHeld ?_
  simp only [Act.put, lA, lB, lC]
  refine tk 9 28 rfl rfl hHeld ?_
  simp only [Act.put, lA, lB, lC]
  refine tk 10 29 rfl rfl hHeld ?_
  simp only [Act.put, lA, lB, lC]
  refine tk 11 30 rfl rfl hHeld ?_
  simp only [Act.put, lA, lB, lC]
  refine tk 12 31 rfl rfl hHeld ?_
  simp only [Act.put, lA, lB, lC]
  refine tk 13 32 rfl rfl hHeld ?_
  simp only [Act.put, lA, lB, lC]
  refine tk 14 33 rfl rfl hHeld ?_
  simp only [Act.put, lA, lB, lC]
  refine tk 15 34 rfl rfl hHeld ?_
  simp only [Act.put, lA, lB, lC]
  refine tk 16 35 rfl rfl hHeld ?_
  simp only [Act.put, lA, lB, lC]
  refine tk 17 36 rfl rfl hHeld ?_
  simp only [Act.put, lA, lB, lC]
  refine tk 18 37 rfl rfl hHeld ?_
  simp only [Act.put, lA, lB, lC]
  refine tk 19 38 rfl rfl hHeld ?_
  simp only [Act.put, lA, lB, lC]
  refine rd [20] (.cons rfl (fun K hK => ?_) .nil)
  go_simp
  refine (unhide SP _ G0).mono ?_
  rintro e w2 ⟨g', c', rfl, o2, b2⟩
  refine hK.out _ _ (unhide SK _ b2) (fun hHeld => ?_)
  clear hK K
  refine tk 21 5 rfl rfl hHeld ?_
  simp only [Act.put, lA, lB, lC]
  refine wpAnyH_done (by kernel_rfl) ?_ _
  clear hHeld
  have BF := hide ((unhide hB).trans (b2.mono hwr))
  have OF := hide o2
  clear o2 b2 G0 SP SK hO hB
  go_wp2_with fail
  go_roundw
  case rel => exact ⟨k + 1, g', c', rfl, by go_num, by omega, unhide OF, unhide BF⟩
  case measure => simp [intOf]; omega
theorem con_list {d : VsD} {x : VerD} {i : Nat} (hi : i < d.list.length) (h1 : d.list[i].k = x.k) (h2 : x.t < d.list[i].t) : conV d x = true := by
 unfold conV
 rw [Bool.or_eq_true, List.any_eq_true]
 exact .inl ⟨d.list[i], List.getElem_mem hi, by simp [h1, h2]⟩
theorem con_fen {d : VsD} {x : VerD} {i : Nat} (hi : i < d.fen.length) (h1 : x.t < d.fen[i].t) (h2 : inK d.fen[i].f d.fen[i].u x.k = true) : conV d x = true := by
 unfold conV
 rw [Bool.or_eq_true, List.any_eq_true, List.any_eq_true]
 exact .inr ⟨d.fen[i], List.getElem_mem hi, by simp [h1, h2]⟩
theorem con_no {d : VsD} {x : VerD} (h1 : ∀ i (hi : i < d.list.length), ¬ (d.list[i].k = x.k ∧ x.t < d.list[i].t)) (h2 : ∀ i (hi : i < d.fen.length), ¬ (x.t < d.fen[i].t ∧ inK d.fen[i].f d.fen[i].u x.k = true)) : conV d x = false := by
 unfold conV
 rw [Bool.or_eq_false_iff, List.any_eq_false, List.any_eq_false]
 refine ⟨fun y hy => ?_, fun y hy => ?_⟩
 ·obtain ⟨i, hi, rfl⟩ := List.getElem_of_mem hy
  have := h1 i hi
  simpa using this
 ·obtain ⟨i, hi, rfl⟩ := List.getElem_of_mem hy
  have := h2 i hi
  simpa using this
theorem up_to {α : Type} {l : List α} {P : α → Prop} {k : Nat} (hk : k < l.length) (h : ∀ i (hi : i < l.length), i < k → P l[i]) (hp : P l[k]) : ∀ i (hi : i < l.length), i < k + 1 → P l[i] := fun i hi hl => by
 by_cases e : i < k
 ·exact h i hi e
 ·obtain rfl : i = k := by omega
  exact hp
end Go.Proofs.YtdnjgbckkmbmfaaGreat

namespace Go.Proofs.YtdnjgbckkmbmfaaGreat
open Go.RowKit

theorem twoBx {w : World} {c1 c2 : Array Value} {t1 t2 : TypeId} {W : World} (hW : W = (w.alloc (.cells c1 t1)).alloc (.cells c2 t2)) :
  Below w.heap.size w W ∧ W.heap[w.heap.size]? = some (.cells c1 t1 (0, 0)) ∧ W.heap[w.heap.size + 1]? = some (.cells c2 t2 (0, 0)) ∧ W.heap.size = w.heap.size + 1 + 1 := by
 subst hW
 refine ⟨((Below.refl _ _).alloc (Nat.le_refl _) _).alloc (by simp) _, (((Below.refl _ _).alloc (Nat.le_refl _) _).block w.heap.size (by simp)).trans (heap_alloc_new _ _), ?_, by simp⟩
 have e : w.heap.size + 1 = (w.alloc (.cells c1 t1)).heap.size := by simp
 rw [e]
 exact heap_alloc_new _ _
set_option maxHeartbeats 8000000 in
theorem l06Conflict_any (next : Int) (l f s : Sl) (d : VsD) (x : VerD) (w : World) (hl : VRow w l.a l.n d.list) (hf : FRow w f.a f.n d.fen) (hln : l.n ≤ 1000000) (hfn : f.n ≤ 1000000) :
  Calls Tryz.prog 112 #[.agg (vzC next l f s), vv x] w fun e w' => e = .returned (.bool (conV d x)) ∧ Below w.heap.size w w' := by
 obtain ⟨la, ln, lc⟩ := l
 obtain ⟨fa, fn, fc⟩ := f
 obtain ⟨sa, sn, sc⟩ := s
 unfold vzC vv
 simp only at hl hf hln hfn ⊢
 obtain ⟨W, hW⟩ : ∃ W, W = (w.alloc (.cells #[.int .i64 next, .slice la ln lc, .slice fa fn fc, .slice sa sn sc] 29)).alloc (.cells #[.string x.k, .int .i64 x.t, .string x.v, .bool x.g] 43) := ⟨_, rfl⟩
 obtain ⟨b1, kv, kx, hz⟩ := twoBx hW
 have KV := hide kv
 have KX := hide kx
 have BH := hide b1
 have HZ := hide hz
 have HL := hide hl
 have HF := hide hf
 have LL := hide hl.1
 have LF := hide hf.1
 have YL := hide (fun i (hi : i < d.list.length) h1 h2 => con_list (x := x) hi h1 h2)
 have YF := hide (fun i (hi : i < d.fen.length) h1 h2 => con_fen (x := x) hi h1 h2)
 have NO := hide (fun h1 h2 => con_no (d := d) (x := x) h1 h2)
 generalize conV d x = C at *
 clear hl hf b1 kv kx hz
 have hb0 : w.heap.size < W.heap.size := by have := unhide HZ; omega
 have hb1 : w.heap.size + 1 < W.heap.size := by have := unhide HZ; omega
 go_enter Tryz.func112, Tryz.ntmps112
 go_wp2_with fail
 rw [← hW]
 clear hW
 go_loopw [5] (fun i wr => ∃ k : Nat, i = .int .i64 (k : Int) ∧ k ≤ ln ∧ Hid (∀ i (hi : i < d.list.length), i < k → ¬ (d.list[i].k = x.k ∧ x.t < d.list[i].t)) ∧ Hid (Below W.heap.size W wr)) (fun i _ => ln - (intOf i).toNat)
 case atStart => exact ⟨0, rfl, Nat.zero_le _, (fun i _ h => absurd h (Nat.not_lt_zero _)), Below.refl _ _⟩
 case round =>
  obtain ⟨k, rfl, hk, hN, hB⟩ := hrel
  have kv := ((unhide hB).block w.heap.size hb0).trans (unhide KV)
  have kx := ((unhide hB).block (w.heap.size + 1) hb1).trans (unhide KX)
  have v1 := (heap_at kv 1).1
  have x0 := (heap_at kx 0).1
  have x1 := (heap_at kx 1).1
  by_cases hlt : k < ln
  ·have hk2 : k < d.list.length := by rw [unhide LL]; exact hlt
   obtain ⟨b, off, rfl, d0, d1, -, -⟩ := ((unhide HL).below ((unhide BH).trans ((unhide hB).mono (unhide BH).size))).2 k hk2
   have hkn : (k : Int) < (ln : Int) := by omega
   have Y := hide (unhide YL k hk2)
   have UP := hide (fun h => up_to (P := fun y : VerD => ¬ (y.k = x.k ∧ x.t < y.t)) hk2 (unhide hN) h)
   generalize d.list[k] = pd at *
   obtain ⟨pk, pt, pv, pg⟩ := pd
   simp only at d0 d1 Y UP
   clear hN kv kx
   by_cases hke : pk = x.k
   ·have hkb : (pk.toList == x.k.toList) = true := by rw [hke]; simp
    by_cases hte : x.t < pt
    ·have htb : decide (x.t < pt) = true := decide_eq_true hte
     have Z := hide (unhide Y hke hte)
     have BF := hide (unhide BH |>.trans ((unhide hB).mono (unhide BH).size))
     clear hke hte Y UP
     go_wp2_with fail
     go_quiet (fail)
     go_wp2_with fail
     go_ret
     exact ⟨ret_bool (unhide Z).symm, bel_drewN (unhide BF) _⟩
    ·have htb : decide (x.t < pt) = false := decide_eq_false hte
     have Z := hide (unhide UP (fun h => hte h.2))
     clear hke hte Y UP
     go_wp2_with fail
     go_quiet (fail)
     go_wp2_with fail
     go_roundw
     case rel => exact ⟨k + 1, by go_num, by omega, unhide Z, bel_drewN (unhide hB) _⟩
     case measure => simp [intOf]; omega
   ·have hkb : (pk.toList == x.k.toList) = false := by simpa using fun e => hke (toList_inj e)
    have Z := hide (unhide UP (fun h => hke h.1))
    clear hke Y UP
    go_wp2_with fail
    go_quiet (fail)
    go_wp2_with fail
    go_roundw
    case rel => exact ⟨k + 1, by go_num, by omega, unhide Z, bel_drewN (unhide hB) _⟩
    case measure => simp [intOf]; omega
  ·obtain rfl : k = ln := by omega
   have N1 := hide (show ∀ i (hi : i < d.list.length), ¬ (d.list[i].k = x.k ∧ x.t < d.list[i].t) from fun i hi => unhide hN i hi (by have := unhide LL; omega))
   clear hN kv kx x0 x1
   go_wp2_with fail
   clear v1
   go_loopw [6] (fun i wr => ∃ k : Nat, i = .int .i64 (k : Int) ∧ k ≤ fn ∧ Hid (∀ i (hi : i < d.fen.length), i < k → ¬ (x.t < d.fen[i].t ∧ inK d.fen[i].f d.fen[i].u x.k = true)) ∧ Hid (Below W.heap.size W wr)) (fun i _ => fn - (intOf i).toNat)
   case atStart => exact ⟨0, rfl, Nat.zero_le _, (fun i _ h => absurd h (Nat.not_lt_zero _)), unhide hB⟩
   case round =>
    clear hB
    obtain ⟨k, rfl, hk, hN, hB⟩ := hrel
    have kv := ((unhide hB).block w.heap.size hb0).trans (unhide KV)
    have kx := ((unhide hB).block (w.heap.size + 1) hb1).trans (unhide KX)
    have v2 := (heap_at kv 2).1
    have hwr := (unhide hB).size
    by_cases hlt : k < fn
    ·have hk2 : k < d.fen.length := by rw [unhide LF]; exact hlt
     obtain ⟨b, off, rfl, d0, d1, d2⟩ := ((unhide HF).below ((unhide BH).trans ((unhide hB).mono (unhide BH).size))).2 k hk2
     have hkn : (k : Int) < (fn : Int) := by omega
     have Y := hide (unhide YF k hk2)
     have UP := hide (fun h => up_to (P := fun y : FenD => ¬ (x.t < y.t ∧ inK y.f y.u x.k = true)) hk2 (unhide hN) h)
     generalize d.fen[k] = pd at *
     obtain ⟨pf, pu, pt⟩ := pd
     simp only at d0 d1 d2 Y UP
     have bA : Below wr.heap.size wr (wr.alloc (.cells #[.string pf, .string pu, .int .i64 pt] 85)) := (Below.refl _ _).alloc (Nat.le_refl _) _
     have kf := heap_alloc_new wr (.cells #[.string pf, .string pu, .int .i64 pt] 85)
     have kx2 := (bA.block (w.heap.size + 1) (by omega)).trans kx
     have BA := hide ((unhide hB).trans (bA.mono hwr))
     clear hN kv kx bA
     go_upto_region 10 with fail
     clear v2 d0 d1 d2
     generalize wr.alloc (.cells #[.string pf, .string pu, .int .i64 pt] 85) = wa at *
     generalize wr.heap.size = fb at *
     have f0 := (heap_at kf 0).1
     have f1 := (heap_at kf 1).1
     have f2 := (heap_at kf 2).1
     have x0 := (heap_at kx2 0).1
     have x1 := (heap_at kx2 1).1
     clear kf kx2 hB
     by_cases ht : x.t < pt
     ·have htb : decide (x.t < pt) = true := decide_eq_true ht
      cases hlo : ltK x.k pf
      ·have hlb : Op.bytesLess x.k.toList pf.toList = false := hlo
       have IK := hide (show inK pf pu x.k = underK x.k pu by unfold inK underK; rw [hlo]; rfl)
       have CU := hide (l04Under_any x.k pu wa)
       cases hun : underK x.k pu
       ·have Z := hide (unhide UP (fun h => by rw [unhide IK, hun] at h; exact absurd h.2 (by decide)))
        rw [hun] at CU
        clear ht hlo hun Y UP IK
        go_wp2_with (go_at_call 111; refine (unhide CU).mono ?_; rintro e w5 ⟨rfl, rfl⟩)
        go_roundw
        case rel => exact ⟨k + 1, by go_num, by omega, unhide Z, unhide BA⟩
        case measure => simp [intOf]; omega
       ·have Z := hide (unhide Y ht (by rw [unhide IK]; exact hun))
        rw [hun] at CU
        have BF := hide ((unhide BH).trans ((unhide BA).mono (unhide BH).size))
        clear ht hlo hun Y UP IK
        go_wp2_with (go_at_call 111; refine (unhide CU).mono ?_; rintro e w5 ⟨rfl, rfl⟩)
        go_ret
        exact ⟨ret_bool (unhide Z).symm, unhide BF⟩
      ·have hlb : Op.bytesLess x.k.toList pf.toList = true := hlo
       have Z := hide (unhide UP (fun h => by have h2 := h.2; unfold inK at h2; rw [hlo] at h2; simp at h2))
       clear ht hlo Y UP
       go_wp2_with fail
       go_roundw
       case rel => exact ⟨k + 1, by go_num, by omega, unhide Z, unhide BA⟩
       case measure => simp [intOf]; omega
     ·have htb : decide (x.t < pt) = false := decide_eq_false ht
      have Z := hide (unhide UP (fun h => ht h.1))
      clear ht Y UP
      go_wp2_with fail
      go_roundw
      case rel => exact ⟨k + 1, by go_num, by omega, unhide Z, unhide BA⟩
      case measure => simp [intOf]; omega
    ·obtain rfl : k = fn := by omega
     have Z := hide (unhide NO (unhide N1) (fun i hi => unhide hN i hi (by have := unhide LF; omega)))
     have BF := hide ((unhide BH).trans ((unhide hB).mono (unhide BH).size))
     clear hN kv kx
     go_wp2_with fail
     go_ret
     exact ⟨ret_bool (unhide Z).symm, unhide BF⟩
end Go.Proofs.YtdnjgbckkmbmfaaGreat

namespace Go.Proofs.YtdnjgbckkmbmfaaGreat
open Go.RowKit

theorem v_slice {w : World} {B : Nat} {v : Value} {n : Nat} {t s : Nat} {cs : List Value} (h : w.ownsRow B t s v n cs) : ∃ l : Sl, v = .slice l.a l.n l.c ∧ l.n = n := by
 obtain ⟨a, c, e⟩ := us_sl h
 exact ⟨⟨a, n, c⟩, e, rfl⟩
structure OvSt (W u : World) (d : VsD) (sv sf : Option (Value × Bool)) (tb : Option Nat) : Prop where
 bel : Below W.heap.size W u
 v : ∀ x b, sv = some (x, b) → x ≠ .slice none 0 0 ∧ VOwns u W.heap.size x (if b then d.list else [])
 f : ∀ x b, sf = some (x, b) → x ≠ .slice none 0 0 ∧ FOwns u W.heap.size x (if b then d.fen else [])
 t : ∀ b, tb = some b → W.heap.size ≤ b ∧ u.heap[b]? = some (.cells #[.int .i64 0, .slice none 0 0, .slice none 0 0, .slice none 0 0] 29 (0, 0))
theorem OvSt.step {W u u' : World} {d : VsD} {sv sf : Option (Value × Bool)} {tb : Option Nat} (h : OvSt W u d sv sf tb) (hb : Below u.heap.size u u') : OvSt W u' d sv sf tb :=
 ⟨h.bel.trans (hb.mono h.bel.size), fun x b e => ⟨(h.v x b e).1, rb_ownsRow_below (h.v x b e).2 hb⟩, fun x b e => ⟨(h.f x b e).1, rb_ownsRow_below (h.f x b e).2 hb⟩, fun b e => ⟨(h.t b e).1, (hb.block b (blk_lt (h.t b e).2)).trans (h.t b e).2⟩⟩
theorem OvSt.litV {W u : World} {d : VsD} {sf : Option (Value × Bool)} {tb : Option Nat} (h : OvSt W u d none sf tb) : OvSt W (u.alloc (.cells #[] 43)) d (some (.slice (some ⟨u.heap.size, 0, none⟩) 0 0, false)) sf tb := by
 have s := h.step ((Below.refl u.heap.size u).alloc (Nat.le_refl _) (.cells #[] 43))
 refine ⟨s.bel, fun v b e => ?_, s.f, s.t⟩
 injection e with e
 injection e with e1 e2
 subst e1 e2
 exact ⟨by simp, gd_base (nil_lit (w := u) 43 4) h.bel.size⟩
theorem OvSt.litF {W u : World} {d : VsD} {sv : Option (Value × Bool)} {tb : Option Nat} (h : OvSt W u d sv none tb) : OvSt W (u.alloc (.cells #[] 85)) d sv (some (.slice (some ⟨u.heap.size, 0, none⟩) 0 0, false)) tb := by
 have s := h.step ((Below.refl u.heap.size u).alloc (Nat.le_refl _) (.cells #[] 85))
 refine ⟨s.bel, s.v, fun v b e => ?_, s.t⟩
 injection e with e
 injection e with e1 e2
 subst e1 e2
 exact ⟨by simp, gd_base (nil_lit (w := u) 85 3) h.bel.size⟩
theorem OvSt.litT {W u : World} {d : VsD} {sv sf : Option (Value × Bool)} (h : OvSt W u d sv sf none) : OvSt W (u.alloc (.cells #[.int .i64 0, .slice none 0 0, .slice none 0 0, .slice none 0 0] 29)) d sv sf (some u.heap.size) := by
 have s := h.step ((Below.refl u.heap.size u).alloc (Nat.le_refl _) (.cells #[.int .i64 0, .slice none 0 0, .slice none 0 0, .slice none 0 0] 29))
 refine ⟨s.bel, s.v, s.f, fun b e => ?_⟩
 injection e with e
 subst e
 exact ⟨h.bel.size, heap_alloc_new _ _⟩
theorem OvSt.appV {W u : World} {d : VsD} {v : Value} {sf : Option (Value × Bool)} {tb : Option Nat} (h : OvSt W u d (some (v, false)) sf tb) {l : Sl} (hR : VRow W l.a l.n d.list) (hn : l.n ≤ 1000000) (hc : Cap l) :
  ∃ g k u', (Builtin.append_ #[25, 25] 25 #[v, .slice l.a l.n l.c]).run Tryz.prog u = .ok (.slice (some ⟨g, 0, none⟩) l.n k) u' ∧ OvSt W u' d (some (.slice (some ⟨g, 0, none⟩) l.n k, true)) sf tb := by
 obtain ⟨hv, ho⟩ := h.v v false rfl
 obtain ⟨g, k, u', hr, ho', hg, -⟩ := v_appS (c := l.c) 25 ho hv (hR.below h.bel) hc.2 (by simp; omega) h.bel.size
 have hw := WrB.of_grown hg
 simp only [Bool.false_eq_true, if_false, List.length_nil, Nat.zero_add, List.nil_append] at hr ho'
 refine ⟨g, k, u', hr, ⟨h.bel.trans (WrB.below hw (fun i hi => (ho.lt i hi).1) h.bel.size), fun x b e => ?_, fun x b e => ⟨(h.f x b e).1, rr_owns_wr (h.f x b e).2 hw (fun i hi => own_other (h.f x b e).2 ho (by decide) hi)⟩, fun b e => ⟨(h.t b e).1, (hw.block b (blk_lt (h.t b e).2) (own_box ho (h.t b e).2 (by decide))).trans (h.t b e).2⟩⟩⟩
 injection e with e
 injection e with e1 e2
 subst e1 e2
 exact ⟨by simp, ho'⟩
theorem OvSt.appF {W u : World} {d : VsD} {v : Value} {sv : Option (Value × Bool)} {tb : Option Nat} (h : OvSt W u d sv (some (v, false)) tb) {l : Sl} (hR : FRow W l.a l.n d.fen) (hn : l.n ≤ 1000000) (hc : Cap l) :
  ∃ g k u', (Builtin.append_ #[26, 26] 26 #[v, .slice l.a l.n l.c]).run Tryz.prog u = .ok (.slice (some ⟨g, 0, none⟩) l.n k) u' ∧ OvSt W u' d sv (some (.slice (some ⟨g, 0, none⟩) l.n k, true)) tb := by
 obtain ⟨hv, ho⟩ := h.f v false rfl
 obtain ⟨g, k, u', hr, ho', hg, -⟩ := f_appS (c := l.c) 26 ho hv (hR.below h.bel) hc.2 (by simp; omega) h.bel.size
 have hw := WrB.of_grown hg
 simp only [Bool.false_eq_true, if_false, List.length_nil, Nat.zero_add, List.nil_append] at hr ho'
 refine ⟨g, k, u', hr, ⟨h.bel.trans (WrB.below hw (fun i hi => (ho.lt i hi).1) h.bel.size), fun x b e => ⟨(h.v x b e).1, rr_owns_wr (h.v x b e).2 hw (fun i hi => own_other (h.v x b e).2 ho (by decide) hi)⟩, fun x b e => ?_, fun b e => ⟨(h.t b e).1, (hw.block b (blk_lt (h.t b e).2) (own_box ho (h.t b e).2 (by decide))).trans (h.t b e).2⟩⟩⟩
 injection e with e
 injection e with e1 e2
 subst e1 e2
 exact ⟨by simp, ho'⟩
structure VgSt (wr : World) (B tb : Nat) (next : Int) (l f s : Sl) (hs : List SeH) (ls : List VerD) (fs : List FenD) : Prop where
 vo : VOwns wr B (.slice l.a l.n l.c) ls
 fo : FOwns wr B (.slice f.a f.n f.c) fs
 so : SeOwn wr B (.slice s.a s.n s.c) hs
 far : ∀ i, (Value.slice l.a l.n l.c).ownBlock = some i → ¬ NBl (.slice s.a s.n s.c) (hs.map seEl) i
 box : wr.heap[tb]? = some (.cells (vzC next l f s) 29 (0, 0))
 tge : B ≤ tb
theorem VgSt.below {w w' : World} {B tb : Nat} {next : Int} {l f s : Sl} {hs : List SeH} {ls : List VerD} {fs : List FenD} (h : VgSt w B tb next l f s hs ls fs) (hb : Below w.heap.size w w') : VgSt w' B tb next l f s hs ls fs :=
 ⟨rb_ownsRow_below h.vo hb, rb_ownsRow_below h.fo hb, h.so.below hb, h.far, (hb.block tb (blk_lt h.box)).trans h.box, h.tge⟩
theorem ses_none {v : Value} {i : Nat} (hv : v.ownBlock = none) : ¬ NBl v ([].map seEl) i := fun h => by
 rcases h with h | ⟨k, a, x, hx, _⟩
 ·rw [hv] at h; cases h
 ·unfold sbAt at hx; simp at hx
theorem se_box {w : World} {B n tb : Nat} {v : Value} {hs : List SeH} {cs : Array Value} {t : TypeId} (h : NOwn w B 55 3 v n (hs.map seEl)) (hb : w.heap[tb]? = some (.cells cs t (0, 0))) (h1 : 55 ≠ t) (h2 : 43 ≠ t) : ¬ NBl v (hs.map seEl) tb := fun hn => by
 rcases hn with hn | ⟨k, a, x, hx, hi⟩
 ·exact own_box h.row hb h1 hn
 ·have ht : x.t = 43 := by
   obtain ⟨e, he, hxe⟩ := sbAt_mem hx
   obtain ⟨y, _, rfl⟩ := List.mem_map.1 he
   rw [List.mem_singleton.1 hxe]
  have hd := h.dat k a x hx
  rw [ht] at hd
  exact own_box hd hb h2 hi
theorem VgSt.store {u : World} {tb : Nat} {d : VsD} {next : Int} {vl vf : Value} {W : World} (h : OvSt W u d (some (vl, true)) (some (vf, true)) (some tb)) :
  ∃ l f : Sl, vl = .slice l.a l.n l.c ∧ vf = .slice f.a f.n f.c ∧ VgSt ((((u.setCell ⟨tb, 0, none⟩ (.int .i64 next)).setCell ⟨tb, 1, none⟩ vl).setCell ⟨tb, 2, none⟩ vf).setCell ⟨tb, 3, none⟩ (.slice none 0 0)) W.heap.size tb next l f ⟨none, 0, 0⟩ [] d.list d.fen ∧ Below W.heap.size W ((((u.setCell ⟨tb, 0, none⟩ (.int .i64 next)).setCell ⟨tb, 1, none⟩ vl).setCell ⟨tb, 2, none⟩ vf).setCell ⟨tb, 3, none⟩ (.slice none 0 0)) := by
 obtain ⟨-, hv⟩ := h.v vl true rfl
 obtain ⟨-, hf⟩ := h.f vf true rfl
 obtain ⟨ht, hk⟩ := h.t tb rfl
 obtain ⟨l, rfl, -⟩ := v_slice hv
 obtain ⟨f, rfl, -⟩ := v_slice hf
 have hW : WrB (fun i => i = tb) u ((((u.setCell ⟨tb, 0, none⟩ (.int .i64 next)).setCell ⟨tb, 1, none⟩ (.slice l.a l.n l.c)).setCell ⟨tb, 2, none⟩ (.slice f.a f.n f.c)).setCell ⟨tb, 3, none⟩ (.slice none 0 0)) := (set1_wr u tb 0 _).seq ((set1_wr _ tb 1 _).seq ((set1_wr _ tb 2 _).seq (set1_wr _ tb 3 _)))
 refine ⟨l, f, rfl, rfl, ⟨own_keep hv hk (by decide) hW, own_keep hf hk (by decide) hW, NOwn.flat (World.ownsRow_nil _ _ _ _) rfl (fun e he => by cases he) (fun e he => by cases he), fun i _ => ses_none rfl, ?_, ht⟩, h.bel.trans (WrB.below hW (fun i e => by omega) h.bel.size)⟩
 have h1 := heap_set hk 0 (.int .i64 next)
 have h2 := heap_set h1 1 (.slice l.a l.n l.c)
 have h3 := heap_set h2 2 (.slice f.a f.n f.c)
 have h4 := heap_set h3 3 (.slice none 0 0)
 simpa using h4
theorem VgSt.ses {wr u : World} {B tb : Nat} {next : Int} {l f s : Sl} {hs : List SeH} {ls : List VerD} {fs : List FenD} (h : VgSt wr B tb next l f s hs ls fs) (hb : Below wr.heap.size wr u) (x : SeH) (hx : VOwns u wr.heap.size (.slice x.s0.a x.s0.n x.s0.c) x.X.ws) (hz : hs.length ≤ 1000) (hB : B ≤ wr.heap.size) :
  ∃ s' : Sl, ∃ w5, s'.n = hs.length + 1 ∧ (Builtin.append_ #[27, 27] 27 #[.slice s.a s.n s.c, .slice (some ⟨u.heap.size, 0, none⟩) 1 1]).run Tryz.prog (u.alloc (.cells #[.bool x.X.o, .int .i64 x.X.t, .slice x.s0.a x.s0.n x.s0.c] 55)) = .ok (.slice s'.a s'.n s'.c) w5 ∧
   VgSt (w5.setCell ⟨tb, 3, none⟩ (.slice s'.a s'.n s'.c)) B tb next l f s' (hs ++ [x]) ls fs ∧ Below B wr (w5.setCell ⟨tb, 3, none⟩ (.slice s'.a s'.n s'.c)) ∧ w5.heap[tb]? = some (.cells (vzC next l f s) 29 (0, 0)) ∧ ∀ i, i < B → w5.heap[i]? = wr.heap[i]? := by
 have hu := h.below hb
 obtain ⟨i0, hi0, hz0, hz1, hz2⟩ := info_parts Tryz.infoSe
 have hlt : ∀ i, NBl (.slice s.a s.n s.c) (hs.map seEl) i → i < wr.heap.size := fun i hi => (h.so.lt i hi).2
 obtain ⟨v', w5, hrun, hN, hg, -⟩ := NOwn.app (e := seEl x) (C := wr.heap.size) 27 Tryz.underlying27 hi0 hz0 hz1 hz2 rfl (by decide) (by decide) hu.so rfl (by intro y hy; simp only [seEl, List.mem_cons, List.not_mem_nil, or_false] at hy; rcases hy with rfl | rfl | rfl <;> rfl) (fun y hy => by rw [List.mem_singleton.1 hy]; exact hx) hlt hB (fun a b y z hy hz' hab => by
  match a, hy, b, hz' with
  | 0, _, 0, _ => exact absurd rfl hab
  | a + 1, hy, _, _ => cases hy
  | 0, _, b + 1, hz' => cases hz') (by omega) (Nat.le_trans hB hb.size)
 obtain ⟨s', rfl, hs'⟩ := v_slice hN.row
 have bA : Below u.heap.size u (u.alloc (.cells (seEl x).hd.toArray 55)) := (Below.refl _ _).alloc (Nat.le_refl _) _
 have hA := hu.below bA
 have hw := WrB.of_grown hg
 have k5 : w5.heap[tb]? = some (.cells (vzC next l f s) 29 (0, 0)) := (hw.block tb (blk_lt hA.box) (own_box hA.so.row hA.box (by decide))).trans hA.box
 have b5 : Below B wr w5 := ((hb.trans (bA.mono hb.size)).mono hB).trans (WrB.below hw (fun i hi => (hA.so.row.lt i hi).1) (Nat.le_trans hB (hb.trans (bA.mono hb.size)).size))
 have v5 : VOwns w5 B (.slice l.a l.n l.c) ls := rr_owns_wr hA.vo hw (fun i hi e => hA.far i hi (.inl e))
 have f5 : FOwns w5 B (.slice f.a f.n f.c) fs := rr_owns_wr hA.fo hw (fun i hi => own_other hA.fo hA.so.row (by decide) hi)
 have hN5 : SeOwn w5 B (.slice s'.a s'.n s'.c) (hs ++ [x]) := by
  have := hN
  rw [← List.map_singleton, ← List.map_append] at this
  rw [show hs.length + 1 = (hs ++ [x]).length by simp] at this
  exact this
 have hS := set1_wr w5 tb 3 (.slice s'.a s'.n s'.c)
 refine ⟨s', w5, hs', hrun, ⟨own_keep v5 k5 (by decide) hS, own_keep f5 k5 (by decide) hS, hN5.keep hS (fun i hi e => by subst e; exact se_box hN5 k5 (by decide) (by decide) hi), fun i hi hn => ?_, ?_, h.tge⟩, b5.trans (WrB.below hS (fun i e => by rw [e]; exact h.tge) (Nat.le_trans hB b5.size)), k5, fun i hi => b5.block i hi⟩
 ·rcases hn with hn | ⟨k, a, y, hy, hn⟩
  ·exact own_other v5 hN5.row (by decide) hi hn
  ·rw [List.map_append] at hy
   rcases sbAt_snoc hy with ⟨_, hy⟩ | ⟨_, hy⟩
   ·exact h.far i hi (.inr ⟨k, a, y, hy, hn⟩)
   ·have h1 := (h.vo.lt i hi).2
    have h2 : y.v = .slice x.s0.a x.s0.n x.s0.c := by
     match a, hy with
     | 0, hy => injection hy with hy; rw [← hy]
     | a + 1, hy => cases hy
    rw [h2] at hn
    have h3 := (hx.lt i hn).1
    omega
 ·have h1 := heap_set k5 3 (.slice s'.a s'.n s'.c)
  simpa using h1
def OvRes (d : VsD) (w : World) (e : Ending) (w' : World) : Prop := ∃ l f s hs, e = .returned (.agg (vzC d.next l f s)) ∧ VzOwn w' w.heap.size l f s hs d ∧ Below w.heap.size w w'
theorem VzOwn.wr {w w' : World} {B : Nat} {l f s : Sl} {hs : List SeH} {d : VsD} (h : VzOwn w B l f s hs d) {P : Nat → Prop} (hw : WrB P w w') (hP : ∀ i, P i → i < B) : VzOwn w' B l f s hs d :=
 ⟨rr_owns_wr h.vo hw (fun i hi e => by have := (h.vo.lt i hi).1; have := hP i e; omega), rr_owns_wr h.fo hw (fun i hi e => by have := (h.fo.lt i hi).1; have := hP i e; omega), h.so.keep hw (fun i hi e => by have := (h.so.lt i hi).1; have := hP i e; omega), h.ss, h.far⟩
theorem set4_wr (w : World) (b : Nat) (v0 v1 v2 v3 : Value) : WrB (fun i => i = b) w ((((w.setCell ⟨b, 0, none⟩ v0).setCell ⟨b, 1, none⟩ v1).setCell ⟨b, 2, none⟩ v2).setCell ⟨b, 3, none⟩ v3) := (set1_wr w b 0 v0).seq ((set1_wr _ b 1 v1).seq ((set1_wr _ b 2 v2).seq (set1_wr _ b 3 v3)))
set_option maxHeartbeats 8000000 in
theorem l06Own_any (d : VsD) (l f s : Sl) (hs : List SeH) (w : World) (hI : VzIn w l f s hs d) (hln : l.n ≤ 1000000) (hfn : f.n ≤ 1000000) (hsn : s.n ≤ 1000) (hwn : ∀ h ∈ hs, h.s0.n ≤ 1048576) :
  Calls Tryz.prog 37 #[.agg (vzC d.next l f s)] w fun e w' => OvRes d w e w' := by
 obtain ⟨W, hW⟩ : ∃ W, W = (w.alloc (.cells (vzC d.next l f s) 29)).alloc (.cells #[.int .i64 0, .slice none 0 0, .slice none 0 0, .slice none 0 0] 29) := ⟨_, rfl⟩
 obtain ⟨b1, kv, kr, hz⟩ := twoBx hW
 have HI := hide (hI.below b1)
 have LN := hide hI.len
 have RV := hide (hI.vr.below b1)
 have RF := hide (hI.fr.below b1)
 have CL := hide hI.cl
 have CF := hide hI.cf
 have CW := hide hI.cw
 have SN := hide hwn
 have hz1 : w.heap.size < W.heap.size := by omega
 have hz2 : w.heap.size + 1 < W.heap.size := by omega
 have KV := hide kv
 have KR := hide kr
 have BH := hide b1
 have HW := hide hW
 have S0 := hide (show OvSt W W.drew d none none none from ⟨(Below.refl _ _).drew, fun _ _ e => (by cases e), fun _ _ e => (by cases e), fun _ e => (by cases e)⟩)
 have SSD := hide hI.ss
 clear hI hwn b1 kv kr hz hW
 obtain ⟨la, ln, lc⟩ := l
 obtain ⟨fa, fn, fc⟩ := f
 obtain ⟨sa, sn, sc⟩ := s
 unfold vzC at *
 simp only at hln hfn hsn KV HW LN RV RF ⊢
 have e0 := (heap_at (unhide KV) 0).1
 have e1 := (heap_at (unhide KV) 1).1
 have e2 := (heap_at (unhide KV) 2).1
 go_enter Tryz.func37, Tryz.ntmps37
 go_upto_region 1 with fail
 rw [← unhide HW]
 clear HW
 go_cut [3] (fun v wc => ∃ (tb : Nat) (l' f' : Sl), v = .pointer (some ⟨tb, 0, none⟩) ∧ Hid (VgSt wc W.heap.size tb d.next l' f' ⟨none, 0, 0⟩ [] d.list d.fen) ∧ Hid (Below W.heap.size W wc))
 case first =>
  have SK := hide (show ∀ u, Below W.heap.size W u → u.cell? ⟨w.heap.size, 0, none⟩ = some (.int .i64 d.next) ∧ u.cell? ⟨w.heap.size, 1, none⟩ = some (.slice la ln lc) ∧ u.cell? ⟨w.heap.size, 2, none⟩ = some (.slice fa fn fc) from fun u hu => ⟨(hu.cell (p := ⟨w.heap.size, 0, none⟩) hz1).trans e0, (hu.cell (p := ⟨w.heap.size, 1, none⟩) hz1).trans e1, (hu.cell (p := ⟨w.heap.size, 2, none⟩) hz1).trans e2⟩)
  clear e0 e1 e2
  refine wp_region_held_drew (S := (fun u => u.cell? ⟨w.heap.size, 0, none⟩ = some (.int .i64 d.next) ∧ u.cell? ⟨w.heap.size, 1, none⟩ = some (.slice la ln lc) ∧ u.cell? ⟨w.heap.size, 2, none⟩ = some (.slice fa fn fc))) (by kernel_rfl) (unhide SK _ (unhide S0).bel) (fun hHeld => ?_)
  have T0 := S0
  clear S0
  generalize W.drew = u0 at *
  refine tk 0 6 rfl rfl hHeld ?_
  simp only [Act.put, lA, lB, lC]
  refine tk 1 7 rfl rfl hHeld ?_
  simp only [Act.put, lA, lB, lC]
  refine tk 3 9 rfl rfl hHeld ?_
  simp only [Act.put, lA, lB, lC]
  refine tk 4 10 rfl rfl hHeld ?_
  simp only [Act.put, lA, lB, lC]
  refine tk 7 13 rfl rfl hHeld ?_
  simp only [Act.put, lA, lB, lC]
  refine tk 8 14 rfl rfl hHeld ?_
  simp only [Act.put, lA, lB, lC]
  refine wpAnyH_ready (rs := [2, 6, 11]) (by kernel_rfl) (by simp) ?_
  refine AllReadyH.cons rfl (fun K hK => ?_) (AllReadyH.cons rfl (fun K hK => ?_) (AllReadyH.cons rfl (fun K hK => ?_) AllReadyH.nil))
  ·have T2 := hide (unhide T0).litV
   go_simp
   generalize u0.alloc (.cells #[] 43) = u2 at *
   generalize u0.heap.size = g5 at *
   refine hK.out _ _ (unhide SK _ (unhide T2).bel) (fun hHeld => ?_)
   clear hK K
   refine wpAnyH_ready (rs := [5, 6, 11]) (by kernel_rfl) (by simp) ?_
   refine AllReadyH.cons rfl (fun K hK => ?_) (AllReadyH.cons rfl (fun K hK => ?_) (AllReadyH.cons rfl (fun K hK => ?_) AllReadyH.nil))
   ·obtain ⟨g8, k8, u2_5, hr, hs8⟩ := (unhide T2).appV (l := ⟨la, ln, lc⟩) (unhide RV) hln (unhide CL)
    have T2_5 := hide hs8
    clear hs8
    refine us_stepApp rfl (.tmp 8) (.tmp 10) 25 rfl _ _ (.slice (some ⟨g8, 0, none⟩) ln k8) u2_5 (by first | rfl | (simp [Act.eval]; done) | (simp [Act.eval, Act.put]; done)) (by first | rfl | (simp [Act.eval]; done) | (simp [Act.eval, Act.put]; done)) hr ?_
    clear hr
    refine hK.out _ _ (unhide SK _ (unhide T2_5).bel) (fun hHeld => ?_)
    clear hK K
    refine wpAnyH_ready (rs := [6, 11]) (by kernel_rfl) (by simp) ?_
    refine AllReadyH.cons rfl (fun K hK => ?_) (AllReadyH.cons rfl (fun K hK => ?_) AllReadyH.nil)
    ·have T2_5_6 := hide (unhide T2_5).litF
     go_simp
     generalize u2_5.alloc (.cells #[] 85) = u2_5_6 at *
     generalize u2_5.heap.size = g9 at *
     refine hK.out _ _ (unhide SK _ (unhide T2_5_6).bel) (fun hHeld => ?_)
     clear hK K
     refine wpAnyH_ready (rs := [9, 11]) (by kernel_rfl) (by simp) ?_
     refine AllReadyH.cons rfl (fun K hK => ?_) (AllReadyH.cons rfl (fun K hK => ?_) AllReadyH.nil)
     ·obtain ⟨g12, k12, u2_5_6_9, hr, hs8⟩ := (unhide T2_5_6).appF (l := ⟨fa, fn, fc⟩) (unhide RF) hfn (unhide CF)
      have T2_5_6_9 := hide hs8
      clear hs8
      refine us_stepApp rfl (.tmp 12) (.tmp 14) 26 rfl _ _ (.slice (some ⟨g12, 0, none⟩) fn k12) u2_5_6_9 (by first | rfl | (simp [Act.eval]; done) | (simp [Act.eval, Act.put]; done)) (by first | rfl | (simp [Act.eval]; done) | (simp [Act.eval, Act.put]; done)) hr ?_
      clear hr
      refine hK.out _ _ (unhide SK _ (unhide T2_5_6_9).bel) (fun hHeld => ?_)
      clear hK K
      refine tk 10 16 rfl rfl hHeld ?_
      simp only [Act.put, lA]
      refine rd [11] (.cons rfl (fun K hK => ?_) .nil)
      have T2_5_6_9_11 := hide (unhide T2_5_6_9).litT
      go_simp
      generalize u2_5_6_9.alloc (.cells #[.int .i64 0, .slice none 0 0, .slice none 0 0, .slice none 0 0] 29) = u2_5_6_9_11 at *
      generalize u2_5_6_9.heap.size = tb at *
      refine hK.out _ _ (unhide SK _ (unhide T2_5_6_9_11).bel) (fun hHeld => ?_)
      clear hK K
      refine rd [12] (.cons rfl (fun K hK => ?_) .nil)
      obtain ⟨l', f', e1, e2, hT3, hb3⟩ := VgSt.store (next := d.next) (unhide T2_5_6_9_11)
      have y0 := (heap_at ((unhide T2_5_6_9_11).t tb rfl).2 0).1
      have y1 := (heap_at ((unhide T2_5_6_9_11).t tb rfl).2 1).1
      have y2 := (heap_at ((unhide T2_5_6_9_11).t tb rfl).2 2).1
      have y3 := (heap_at ((unhide T2_5_6_9_11).t tb rfl).2 3).1
      have x0 := (heap_at ((unhide T2_5_6_9_11).t tb rfl).2 0).2
      have x1 := (heap_at ((unhide T2_5_6_9_11).t tb rfl).2 1).2
      have x2 := (heap_at ((unhide T2_5_6_9_11).t tb rfl).2 2).2
      have x3 := (heap_at ((unhide T2_5_6_9_11).t tb rfl).2 3).2
      have TF := hide hT3
      have BF := hide hb3
      clear hT3 hb3 e1 e2
      go_simp
      refine hK.out _ _ (unhide SK _ (unhide BF)) (fun hHeld => ?_)
      clear hK K
      refine wpAnyH_done (by kernel_rfl) ?_ _
      go_wp2_with fail
      go_meet
      case rel => exact ⟨tb, l', f', rfl, TF, BF⟩
     ·have T2_5_6_11 := hide (unhide T2_5_6).litT
      go_simp
      generalize u2_5_6.alloc (.cells #[.int .i64 0, .slice none 0 0, .slice none 0 0, .slice none 0 0] 29) = u2_5_6_11 at *
      generalize u2_5_6.heap.size = tb at *
      refine hK.out _ _ (unhide SK _ (unhide T2_5_6_11).bel) (fun hHeld => ?_)
      clear hK K
      refine rd [9] (.cons rfl (fun K hK => ?_) .nil)
      obtain ⟨g12, k12, u2_5_6_11_9, hr, hs8⟩ := (unhide T2_5_6_11).appF (l := ⟨fa, fn, fc⟩) (unhide RF) hfn (unhide CF)
      have T2_5_6_11_9 := hide hs8
      clear hs8
      refine us_stepApp rfl (.tmp 12) (.tmp 14) 26 rfl _ _ (.slice (some ⟨g12, 0, none⟩) fn k12) u2_5_6_11_9 (by first | rfl | (simp [Act.eval]; done) | (simp [Act.eval, Act.put]; done)) (by first | rfl | (simp [Act.eval]; done) | (simp [Act.eval, Act.put]; done)) hr ?_
      clear hr
      refine hK.out _ _ (unhide SK _ (unhide T2_5_6_11_9).bel) (fun hHeld => ?_)
      clear hK K
      refine tk 10 16 rfl rfl hHeld ?_
      simp only [Act.put, lA]
      refine rd [12] (.cons rfl (fun K hK => ?_) .nil)
      obtain ⟨l', f', e1, e2, hT3, hb3⟩ := VgSt.store (next := d.next) (unhide T2_5_6_11_9)
      have y0 := (heap_at ((unhide T2_5_6_11_9).t tb rfl).2 0).1
      have y1 := (heap_at ((unhide T2_5_6_11_9).t tb rfl).2 1).1
      have y2 := (heap_at ((unhide T2_5_6_11_9).t tb rfl).2 2).1
      have y3 := (heap_at ((unhide T2_5_6_11_9).t tb rfl).2 3).1
      have x0 := (heap_at ((unhide T2_5_6_11_9).t tb rfl).2 0).2
      have x1 := (heap_at ((unhide T2_5_6_11_9).t tb rfl).2 1).2
      have x2 := (heap_at ((unhide T2_5_6_11_9).t tb rfl).2 2).2
      have x3 := (heap_at ((unhide T2_5_6_11_9).t tb rfl).2 3).2
      have TF := hide hT3
      have BF := hide hb3
      clear hT3 hb3 e1 e2
      go_simp
      refine hK.out _ _ (unhide SK _ (unhide BF)) (fun hHeld => ?_)
      clear hK K
      refine wpAnyH_done (by kernel_rfl) ?_ _
      go_wp2_with fail
      go_meet
      case rel => exact ⟨tb, l', f', rfl, TF, BF⟩
    ·have T2_5_11 := hide (unhide T2_5).litT
     go_simp
     generalize u2_5.alloc (.cells #[.int .i64 0, .slice none 0 0, .slice none 0 0, .slice none 0 0] 29) = u2_5_11 at *
     generalize u2_5.heap.size = tb at *
     refine hK.out _ _ (unhide SK _ (unhide T2_5_11).bel) (fun hHeld => ?_)
     clear hK K
     refine rd [6] (.cons rfl (fun K hK => ?_) .nil)
     have T2_5_11_6 := hide (unhide T2_5_11).litF
     go_simp
     generalize u2_5_11.alloc (.cells #[] 85) = u2_5_11_6 at *
     generalize u2_5_11.heap.size = g9 at *
     refine hK.out _ _ (unhide SK _ (unhide T2_5_11_6).bel) (fun hHeld => ?_)
     clear hK K
     refine rd [9] (.cons rfl (fun K hK => ?_) .nil)
     obtain ⟨g12, k12, u2_5_11_6_9, hr, hs8⟩ := (unhide T2_5_11_6).appF (l := ⟨fa, fn, fc⟩) (unhide RF) hfn (unhide CF)
     have T2_5_11_6_9 := hide hs8
     clear hs8
     refine us_stepApp rfl (.tmp 12) (.tmp 14) 26 rfl _ _ (.slice (some ⟨g12, 0, none⟩) fn k12) u2_5_11_6_9 (by first | rfl | (simp [Act.eval]; done) | (simp [Act.eval, Act.put]; done)) (by first | rfl | (simp [Act.eval]; done) | (simp [Act.eval, Act.put]; done)) hr ?_
     clear hr
     refine hK.out _ _ (unhide SK _ (unhide T2_5_11_6_9).bel) (fun hHeld => ?_)
     clear hK K
     refine tk 10 16 rfl rfl hHeld ?_
     simp only [Act.put, lA]
     refine rd [12] (.cons rfl (fun K hK => ?_) .nil)
     obtain ⟨l', f', e1, e2, hT3, hb3⟩ := VgSt.store (next := d.next) (unhide T2_5_11_6_9)
     have y0 := (heap_at ((unhide T2_5_11_6_9).t tb rfl).2 0).1
     have y1 := (heap_at ((unhide T2_5_11_6_9).t tb rfl).2 1).1
     have y2 := (heap_at ((unhide T2_5_11_6_9).t tb rfl).2 2).1
     have y3 := (heap_at ((unhide T2_5_11_6_9).t tb rfl).2 3).1
     have x0 := (heap_at ((unhide T2_5_11_6_9).t tb rfl).2 0).2
     have x1 := (heap_at ((unhide T2_5_11_6_9).t tb rfl).2 1).2
     have x2 := (heap_at ((unhide T2_5_11_6_9).t tb rfl).2 2).2
     have x3 := (heap_at ((unhide T2_5_11_6_9).t tb rfl).2 3).2
     have TF := hide hT3
     have BF := hide hb3
     clear hT3 hb3 e1 e2
     go_simp
     refine hK.out _ _ (unhide SK _ (unhide BF)) (fun hHeld => ?_)
     clear hK K
     refine wpAnyH_done (by kernel_rfl) ?_ _
     go_wp2_with fail
     go_meet
     case rel => exact ⟨tb, l', f', rfl, TF, BF⟩
   ·have T2_6 := hide (unhide T2).litF
    go_simp
    generalize u2.alloc (.cells #[] 85) = u2_6 at *
    generalize u2.heap.size = g9 at *
    refine hK.out _ _ (unhide SK _ (unhide T2_6).bel) (fun hHeld => ?_)
    clear hK K
    refine wpAnyH_ready (rs := [5, 11]) (by kernel_rfl) (by simp) ?_
    refine AllReadyH.cons rfl (fun K hK => ?_) (AllReadyH.cons rfl (fun K hK => ?_) AllReadyH.nil)
    ·obtain ⟨g8, k8, u2_6_5, hr, hs8⟩ := (unhide T2_6).appV (l := ⟨la, ln, lc⟩) (unhide RV) hln (unhide CL)
     have T2_6_5 := hide hs8
     clear hs8
     refine us_stepApp rfl (.tmp 8) (.tmp 10) 25 rfl _ _ (.slice (some ⟨g8, 0, none⟩) ln k8) u2_6_5 (by first | rfl | (simp [Act.eval]; done) | (simp [Act.eval, Act.put]; done)) (by first | rfl | (simp [Act.eval]; done) | (simp [Act.eval, Act.put]; done)) hr ?_
     clear hr
     refine hK.out _ _ (unhide SK _ (unhide T2_6_5).bel) (fun hHeld => ?_)
     clear hK K
     refine wpAnyH_ready (rs := [9, 11]) (by kernel_rfl) (by simp) ?_
     refine AllReadyH.cons rfl (fun K hK => ?_) (AllReadyH.cons rfl (fun K hK => ?_) AllReadyH.nil)
     ·obtain ⟨g12, k12, u2_6_5_9, hr, hs8⟩ := (unhide T2_6_5).appF (l := ⟨fa, fn, fc⟩) (unhide RF) hfn (unhide CF)
      have T2_6_5_9 := hide hs8
      clear hs8
      refine us_stepApp rfl (.tmp 12) (.tmp 14) 26 rfl _ _ (.slice (some ⟨g12, 0, none⟩) fn k12) u2_6_5_9 (by first | rfl | (simp [Act.eval]; done) | (simp [Act.eval, Act.put]; done)) (by first | rfl | (simp [Act.eval]; done) | (simp [Act.eval, Act.put]; done)) hr ?_
      clear hr
      refine hK.out _ _ (unhide SK _ (unhide T2_6_5_9).bel) (fun hHeld => ?_)
      clear hK K
      refine tk 10 16 rfl rfl hHeld ?_
      simp only [Act.put, lA]
      refine rd [11] (.cons rfl (fun K hK => ?_) .nil)
      have T2_6_5_9_11 := hide (unhide T2_6_5_9).litT
      go_simp
      generalize u2_6_5_9.alloc (.cells #[.int .i64 0, .slice none 0 0, .slice none 0 0, .slice none 0 0] 29) = u2_6_5_9_11 at *
      generalize u2_6_5_9.heap.size = tb at *
      refine hK.out _ _ (unhide SK _ (unhide T2_6_5_9_11).bel) (fun hHeld => ?_)
      clear hK K
      refine rd [12] (.cons rfl (fun K hK => ?_) .nil)
      obtain ⟨l', f', e1, e2, hT3, hb3⟩ := VgSt.store (next := d.next) (unhide T2_6_5_9_11)
      have y0 := (heap_at ((unhide T2_6_5_9_11).t tb rfl).2 0).1
      have y1 := (heap_at ((unhide T2_6_5_9_11).t tb rfl).2 1).1
      have y2 := (heap_at ((unhide T2_6_5_9_11).t tb rfl).2 2).1
      have y3 := (heap_at ((unhide T2_6_5_9_11).t tb rfl).2 3).1
      have x0 := (heap_at ((unhide T2_6_5_9_11).t tb rfl).2 0).2
      have x1 := (heap_at ((unhide T2_6_5_9_11).t tb rfl).2 1).2
      have x2 := (heap_at ((unhide T2_6_5_9_11).t tb rfl).2 2).2
      have x3 := (heap_at ((unhide T2_6_5_9_11).t tb rfl).2 3).2
      have TF := hide hT3
      have BF := hide hb3
      clear hT3 hb3 e1 e2
      go_simp
      refine hK.out _ _ (unhide SK _ (unhide BF)) (fun hHeld => ?_)
      clear hK K
      refine wpAnyH_done (by kernel_rfl) ?_ _
      go_wp2_with fail
      go_meet
      case rel => exact ⟨tb, l', f', rfl, TF, BF⟩
     ·have T2_6_5_11 := hide (unhide T2_6_5).litT
      go_simp
      generalize u2_6_5.alloc (.cells #[.int .i64 0, .slice none 0 0, .slice none 0 0, .slice none 0 0] 29) = u2_6_5_11 at *
      generalize u2_6_5.heap.size = tb at *
      refine hK.out _ _ (unhide SK _ (unhide T2_6_5_11).bel) (fun hHeld => ?_)
      clear hK K
      refine rd [9] (.cons rfl (fun K hK => ?_) .nil)
      obtain ⟨g12, k12, u2_6_5_11_9, hr, hs8⟩ := (unhide T2_6_5_11).appF (l := ⟨fa, fn, fc⟩) (unhide RF) hfn (unhide CF)
      have T2_6_5_11_9 := hide hs8
      clear hs8
      refine us_stepApp rfl (.tmp 12) (.tmp 14) 26 rfl _ _ (.slice (some ⟨g12, 0, none⟩) fn k12) u2_6_5_11_9 (by first | rfl | (simp [Act.eval]; done) | (simp [Act.eval, Act.put]; done)) (by first | rfl | (simp [Act.eval]; done) | (simp [Act.eval, Act.put]; done)) hr ?_
      clear hr
      refine hK.out _ _ (unhide SK _ (unhide T2_6_5_11_9).bel) (fun hHeld => ?_)
      clear hK K
      refine tk 10 16 rfl rfl hHeld ?_
      simp only [Act.put, lA]
      refine rd [12] (.cons rfl (fun K hK => ?_) .nil)
      obtain ⟨l', f', e1, e2, hT3, hb3⟩ := VgSt.store (next := d.next) (unhide T2_6_5_11_9)
      have y0 := (heap_at ((unhide T2_6_5_11_9).t tb rfl).2 0).1
      have y1 := (heap_at ((unhide T2_6_5_11_9).t tb rfl).2 1).1
      have y2 := (heap_at ((unhide T2_6_5_11_9).t tb rfl).2 2).1
      have y3 := (heap_at ((unhide T2_6_5_11_9).t tb rfl).2 3).1
      have x0 := (heap_at ((unhide T2_6_5_11_9).t tb rfl).2 0).2
      have x1 := (heap_at ((unhide T2_6_5_11_9).t tb rfl).2 1).2
      have x2 := (heap_at ((unhide T2_6_5_11_9).t tb rfl).2 2).2
      have x3 := (heap_at ((unhide T2_6_5_11_9).t tb rfl).2 3).2
      have TF := hide hT3
      have BF := hide hb3
      clear hT3 hb3 e1 e2
      go_simp
      refine hK.out _ _ (unhide SK _ (unhide BF)) (fun hHeld => ?_)
      clear hK K
      refine wpAnyH_done (by kernel_rfl) ?_ _
      go_wp2_with fail
      go_meet
      case rel => exact ⟨tb, l', f', rfl, TF, BF⟩
    ·have T2_6_11 := hide (unhide T2_6).litT
     go_simp
     generalize u2_6.alloc (.cells #[.int .i64 0, .slice none 0 0, .slice none 0 0, .slice none 0 0] 29) = u2_6_11 at *
     generalize u2_6.heap.size = tb at *
     refine hK.out _ _ (unhide SK _ (unhide T2_6_11).bel) (fun hHeld => ?_)
     clear hK K
     refine rd [5] (.cons rfl (fun K hK => ?_) .nil)
     obtain ⟨g8, k8, u2_6_11_5, hr, hs8⟩ := (unhide T2_6_11).appV (l := ⟨la, ln, lc⟩) (unhide RV) hln (unhide CL)
     have T2_6_11_5 := hide hs8
     clear hs8
     refine us_stepApp rfl (.tmp 8) (.tmp 10) 25 rfl _ _ (.slice (some ⟨g8, 0, none⟩) ln k8) u2_6_11_5 (by first | rfl | (simp [Act.eval]; done) | (simp [Act.eval, Act.put]; done)) (by first | rfl | (simp [Act.eval]; done) | (simp [Act.eval, Act.put]; done)) hr ?_
     clear hr
     refine hK.out _ _ (unhide SK _ (unhide T2_6_11_5).bel) (fun hHeld => ?_)
     clear hK K
     refine rd [9] (.cons rfl (fun K hK => ?_) .nil)
     obtain ⟨g12, k12, u2_6_11_5_9, hr, hs8⟩ := (unhide T2_6_11_5).appF (l := ⟨fa, fn, fc⟩) (unhide RF) hfn (unhide CF)
     have T2_6_11_5_9 := hide hs8
     clear hs8
     refine us_stepApp rfl (.tmp 12) (.tmp 14) 26 rfl _ _ (.slice (some ⟨g12, 0, none⟩) fn k12) u2_6_11_5_9 (by first | rfl | (simp [Act.eval]; done) | (simp [Act.eval, Act.put]; done)) (by first | rfl | (simp [Act.eval]; done) | (simp [Act.eval, Act.put]; done)) hr ?_
     clear hr
     refine hK.out _ _ (unhide SK _ (unhide T2_6_11_5_9).bel) (fun hHeld => ?_)
     clear hK K
     refine tk 10 16 rfl rfl hHeld ?_
     simp only [Act.put, lA]
     refine rd [12] (.cons rfl (fun K hK => ?_) .nil)
     obtain ⟨l', f', e1, e2, hT3, hb3⟩ := VgSt.store (next := d.next) (unhide T2_6_11_5_9)
     have y0 := (heap_at ((unhide T2_6_11_5_9).t tb rfl).2 0).1
     have y1 := (heap_at ((unhide T2_6_11_5_9).t tb rfl).2 1).1
     have y2 := (heap_at ((unhide T2_6_11_5_9).t tb rfl).2 2).1
     have y3 := (heap_at ((unhide T2_6_11_5_9).t tb rfl).2 3).1
     have x0 := (heap_at ((unhide T2_6_11_5_9).t tb rfl).2 0).2
     have x1 := (heap_at ((unhide T2_6_11_5_9).t tb rfl).2 1).2
     have x2 := (heap_at ((unhide T2_6_11_5_9).t tb rfl).2 2).2
     have x3 := (heap_at ((unhide T2_6_11_5_9).t tb rfl).2 3).2
     have TF := hide hT3
     have BF := hide hb3
     clear hT3 hb3 e1 e2
     go_simp
     refine hK.out _ _ (unhide SK _ (unhide BF)) (fun hHeld => ?_)
     clear hK K
     refine wpAnyH_done (by kernel_rfl) ?_ _
     go_wp2_with fail
     go_meet
     case rel => exact ⟨tb, l', f', rfl, TF, BF⟩
   ·have T2_11 := hide (unhide T2).litT
    go_simp
    generalize u2.alloc (.cells #[.int .i64 0, .slice none 0 0, .slice none 0 0, .slice none 0 0] 29) = u2_11 at *
    generalize u2.heap.size = tb at *
    refine hK.out _ _ (unhide SK _ (unhide T2_11).bel) (fun hHeld => ?_)
    clear hK K
    refine wpAnyH_ready (rs := [5, 6]) (by kernel_rfl) (by simp) ?_
    refine AllReadyH.cons rfl (fun K hK => ?_) (AllReadyH.cons rfl (fun K hK => ?_) AllReadyH.nil)
    ·obtain ⟨g8, k8, u2_11_5, hr, hs8⟩ := (unhide T2_11).appV (l := ⟨la, ln, lc⟩) (unhide RV) hln (unhide CL)
     have T2_11_5 := hide hs8
     clear hs8
     refine us_stepApp rfl (.tmp 8) (.tmp 10) 25 rfl _ _ (.slice (some ⟨g8, 0, none⟩) ln k8) u2_11_5 (by first | rfl | (simp [Act.eval]; done) | (simp [Act.eval, Act.put]; done)) (by first | rfl | (simp [Act.eval]; done) | (simp [Act.eval, Act.put]; done)) hr ?_
     clear hr
     refine hK.out _ _ (unhide SK _ (unhide T2_11_5).bel) (fun hHeld => ?_)
     clear hK K
     refine rd [6] (.cons rfl (fun K hK => ?_) .nil)
     have T2_11_5_6 := hide (unhide T2_11_5).litF
     go_simp
     generalize u2_11_5.alloc (.cells #[] 85) = u2_11_5_6 at *
     generalize u2_11_5.heap.size = g9 at *
     refine hK.out _ _ (unhide SK _ (unhide T2_11_5_6).bel) (fun hHeld => ?_)
     clear hK K
     refine rd [9] (.cons rfl (fun K hK => ?_) .nil)
     obtain ⟨g12, k12, u2_11_5_6_9, hr, hs8⟩ := (unhide T2_11_5_6).appF (l := ⟨fa, fn, fc⟩) (unhide RF) hfn (unhide CF)
     have T2_11_5_6_9 := hide hs8
     clear hs8
     refine us_stepApp rfl (.tmp 12) (.tmp 14) 26 rfl _ _ (.slice (some ⟨g12, 0, none⟩) fn k12) u2_11_5_6_9 (by first | rfl | (simp [Act.eval]; done) | (simp [Act.eval, Act.put]; done)) (by first | rfl | (simp [Act.eval]; done) | (simp [Act.eval, Act.put]; done)) hr ?_
     clear hr
     refine hK.out _ _ (unhide SK _ (unhide T2_11_5_6_9).bel) (fun hHeld => ?_)
     clear hK K
     refine tk 10 16 rfl rfl hHeld ?_
     simp only [Act.put, lA]
     refine rd [12] (.cons rfl (fun K hK => ?_) .nil)
     obtain ⟨l', f', e1, e2, hT3, hb3⟩ := VgSt.store (next := d.next) (unhide T2_11_5_6_9)
     have y0 := (heap_at ((unhide T2_11_5_6_9).t tb rfl).2 0).1
     have y1 := (heap_at ((unhide T2_11_5_6_9).t tb rfl).2 1).1
     have y2 := (heap_at ((unhide T2_11_5_6_9).t tb rfl).2 2).1
     have y3 := (heap_at ((unhide T2_11_5_6_9).t tb rfl).2 3).1
     have x0 := (heap_at ((unhide T2_11_5_6_9).t tb rfl).2 0).2
     have x1 := (heap_at ((unhide T2_11_5_6_9).t tb rfl).2 1).2
     have x2 := (heap_at ((unhide T2_11_5_6_9).t tb rfl).2 2).2
     have x3 := (heap_at ((unhide T2_11_5_6_9).t tb rfl).2 3).2
     have TF := hide hT3
     have BF := hide hb3
     clear hT3 hb3 e1 e2
     go_simp
     refine hK.out _ _ (unhide SK _ (unhide BF)) (fun hHeld => ?_)
     clear hK K
     refine wpAnyH_done (by kernel_rfl) ?_ _
     go_wp2_with fail
     go_meet
     case rel => exact ⟨tb, l', f', rfl, TF, BF⟩
    ·have T2_11_6 := hide (unhide T2_11).litF
     go_simp
     generalize u2_11.alloc (.cells #[] 85) = u2_11_6 at *
     generalize u2_11.heap.size = g9 at *
     refine hK.out _ _ (unhide SK _ (unhide T2_11_6).bel) (fun hHeld => ?_)
     clear hK K
     refine rd [5] (.cons rfl (fun K hK => ?_) .nil)
     obtain ⟨g8, k8, u2_11_6_5, hr, hs8⟩ := (unhide T2_11_6).appV (l := ⟨la, ln, lc⟩) (unhide RV) hln (unhide CL)
     have T2_11_6_5 := hide hs8
     clear hs8
     refine us_stepApp rfl (.tmp 8) (.tmp 10) 25 rfl _ _ (.slice (some ⟨g8, 0, none⟩) ln k8) u2_11_6_5 (by first | rfl | (simp [Act.eval]; done) | (simp [Act.eval, Act.put]; done)) (by first | rfl | (simp [Act.eval]; done) | (simp [Act.eval, Act.put]; done)) hr ?_
     clear hr
     refine hK.out _ _ (unhide SK _ (unhide T2_11_6_5).bel) (fun hHeld => ?_)
     clear hK K
     refine rd [9] (.cons rfl (fun K hK => ?_) .nil)
     obtain ⟨g12, k12, u2_11_6_5_9, hr, hs8⟩ := (unhide T2_11_6_5).appF (l := ⟨fa, fn, fc⟩) (unhide RF) hfn (unhide CF)
     have T2_11_6_5_9 := hide hs8
     clear hs8
     refine us_stepApp rfl (.tmp 12) (.tmp 14) 26 rfl _ _ (.slice (some ⟨g12, 0, none⟩) fn k12) u2_11_6_5_9 (by first | rfl | (simp [Act.eval]; done) | (simp [Act.eval, Act.put]; done)) (by first | rfl | (simp [Act.eval]; done) | (simp [Act.eval, Act.put]; done)) hr ?_
     clear hr
     refine hK.out _ _ (unhide SK _ (unhide T2_11_6_5_9).bel) (fun hHeld => ?_)
     clear hK K
     refine tk 10 16 rfl rfl hHeld ?_
     simp only [Act.put, lA]
     refine rd [12] (.cons rfl (fun K hK => ?_) .nil)
     obtain ⟨l', f', e1, e2, hT3, hb3⟩ := VgSt.store (next := d.next) (unhide T2_11_6_5_9)
     have y0 := (heap_at ((unhide T2_11_6_5_9).t tb rfl).2 0).1
     have y1 := (heap_at ((unhide T2_11_6_5_9).t tb rfl).2 1).1
     have y2 := (heap_at ((unhide T2_11_6_5_9).t tb rfl).2 2).1
     have y3 := (heap_at ((unhide T2_11_6_5_9).t tb rfl).2 3).1
     have x0 := (heap_at ((unhide T2_11_6_5_9).t tb rfl).2 0).2
     have x1 := (heap_at ((unhide T2_11_6_5_9).t tb rfl).2 1).2
     have x2 := (heap_at ((unhide T2_11_6_5_9).t tb rfl).2 2).2
     have x3 := (heap_at ((unhide T2_11_6_5_9).t tb rfl).2 3).2
     have TF := hide hT3
     have BF := hide hb3
     clear hT3 hb3 e1 e2
     go_simp
     refine hK.out _ _ (unhide SK _ (unhide BF)) (fun hHeld => ?_)
     clear hK K
     refine wpAnyH_done (by kernel_rfl) ?_ _
     go_wp2_with fail
     go_meet
     case rel => exact ⟨tb, l', f', rfl, TF, BF⟩
  ·have T6 := hide (unhide T0).litF
   go_simp
   generalize u0.alloc (.cells #[] 85) = u6 at *
   generalize u0.heap.size = g9 at *
   refine hK.out _ _ (unhide SK _ (unhide T6).bel) (fun hHeld => ?_)
   clear hK K
   refine wpAnyH_ready (rs := [2, 11]) (by kernel_rfl) (by simp) ?_
   refine AllReadyH.cons rfl (fun K hK => ?_) (AllReadyH.cons rfl (fun K hK => ?_) AllReadyH.nil)
   ·have T6_2 := hide (unhide T6).litV
    go_simp
    generalize u6.alloc (.cells #[] 43) = u6_2 at *
    generalize u6.heap.size = g5 at *
    refine hK.out _ _ (unhide SK _ (unhide T6_2).bel) (fun hHeld => ?_)
    clear hK K
    refine wpAnyH_ready (rs := [5, 11]) (by kernel_rfl) (by simp) ?_
    refine AllReadyH.cons rfl (fun K hK => ?_) (AllReadyH.cons rfl (fun K hK => ?_) AllReadyH.nil)
    ·obtain ⟨g8, k8, u6_2_5, hr, hs8⟩ := (unhide T6_2).appV (l := ⟨la, ln, lc⟩) (unhide RV) hln (unhide CL)
     have T6_2_5 := hide hs8
     clear hs8
     refine us_stepApp rfl (.tmp 8) (.tmp 10) 25 rfl _ _ (.slice (some ⟨g8, 0, none⟩) ln k8) u6_2_5 (by first | rfl | (simp [Act.eval]; done) | (simp [Act.eval, Act.put]; done)) (by first | rfl | (simp [Act.eval]; done) | (simp [Act.eval, Act.put]; done)) hr ?_
     clear hr
     refine hK.out _ _ (unhide SK _ (unhide T6_2_5).bel) (fun hHeld => ?_)
     clear hK K
     refine wpAnyH_ready (rs := [9, 11]) (by kernel_rfl) (by simp) ?_
     refine AllReadyH.cons rfl (fun K hK => ?_) (AllReadyH.cons rfl (fun K hK => ?_) AllReadyH.nil)
     ·obtain ⟨g12, k12, u6_2_5_9, hr, hs8⟩ := (unhide T6_2_5).appF (l := ⟨fa, fn, fc⟩) (unhide RF) hfn (unhide CF)
      have T6_2_5_9 := hide hs8
      clear hs8
      refine us_stepApp rfl (.tmp 12) (.tmp 14) 26 rfl _ _ (.slice (some ⟨g12, 0, none⟩) fn k12) u6_2_5_9 (by first | rfl | (simp [Act.eval]; done) | (simp [Act.eval, Act.put]; done)) (by first | rfl | (simp [Act.eval]; done) | (simp [Act.eval, Act.put]; done)) hr ?_
      clear hr
      refine hK.out _ _ (unhide SK _ (unhide T6_2_5_9).bel) (fun hHeld => ?_)
      clear hK K
      refine tk 10 16 rfl rfl hHeld ?_
      simp only [Act.put, lA]
      refine rd [11] (.cons rfl (fun K hK => ?_) .nil)
      have T6_2_5_9_11 := hide (unhide T6_2_5_9).litT
      go_simp
      generalize u6_2_5_9.alloc (.cells #[.int .i64 0, .slice none 0 0, .slice none 0 0, .slice none 0 0] 29) = u6_2_5_9_11 at *
      generalize u6_2_5_9.heap.size = tb at *
      refine hK.out _ _ (unhide SK _ (unhide T6_2_5_9_11).bel) (fun hHeld => ?_)
      clear hK K
      refine rd [12] (.cons rfl (fun K hK => ?_) .nil)
      obtain ⟨l', f', e1, e2, hT3, hb3⟩ := VgSt.store (next := d.next) (unhide T6_2_5_9_11)
      have y0 := (heap_at ((unhide T6_2_5_9_11).t tb rfl).2 0).1
      have y1 := (heap_at ((unhide T6_2_5_9_11).t tb rfl).2 1).1
      have y2 := (heap_at ((unhide T6_2_5_9_11).t tb rfl).2 2).1
      have y3 := (heap_at ((unhide T6_2_5_9_11).t tb rfl).2 3).1
      have x0 := (heap_at ((unhide T6_2_5_9_11).t tb rfl).2 0).2
      have x1 := (heap_at ((unhide T6_2_5_9_11).t tb rfl).2 1).2
      have x2 := (heap_at ((unhide T6_2_5_9_11).t tb rfl).2 2).2
      have x3 := (heap_at ((unhide T6_2_5_9_11).t tb rfl).2 3).2
      have TF := hide hT3
      have BF := hide hb3
      clear hT3 hb3 e1 e2
      go_simp
      refine hK.out _ _ (unhide SK _ (unhide BF)) (fun hHeld => ?_)
      clear hK K
      refine wpAnyH_done (by kernel_rfl) ?_ _
      go_wp2_with fail
      go_meet
      case rel => exact ⟨tb, l', f', rfl, TF, BF⟩
     ·have T6_2_5_11 := hide (unhide T6_2_5).litT
      go_simp
      generalize u6_2_5.alloc (.cells #[.int .i64 0, .slice none 0 0, .slice none 0 0, .slice none 0 0] 29) = u6_2_5_11 at *
      generalize u6_2_5.heap.size = tb at *
      refine hK.out _ _ (unhide SK _ (unhide T6_2_5_11).bel) (fun hHeld => ?_)
      clear hK K
      refine rd [9] (.cons rfl (fun K hK => ?_) .nil)
      obtain ⟨g12, k12, u6_2_5_11_9, hr, hs8⟩ := (unhide T6_2_5_11).appF (l := ⟨fa, fn, fc⟩) (unhide RF) hfn (unhide CF)
      have T6_2_5_11_9 := hide hs8
      clear hs8
      refine us_stepApp rfl (.tmp 12) (.tmp 14) 26 rfl _ _ (.slice (some ⟨g12, 0, none⟩) fn k12) u6_2_5_11_9 (by first | rfl | (simp [Act.eval]; done) | (simp [Act.eval, Act.put]; done)) (by first | rfl | (simp [Act.eval]; done) | (simp [Act.eval, Act.put]; done)) hr ?_
      clear hr
      refine hK.out _ _ (unhide SK _ (unhide T6_2_5_11_9).bel) (fun hHeld => ?_)
      clear hK K
      refine tk 10 16 rfl rfl hHeld ?_
      simp only [Act.put, lA]
      refine rd [12] (.cons rfl (fun K hK => ?_) .nil)
      obtain ⟨l', f', e1, e2, hT3, hb3⟩ := VgSt.store (next := d.next) (unhide T6_2_5_11_9)
      have y0 := (heap_at ((unhide T6_2_5_11_9).t tb rfl).2 0).1
      have y1 := (heap_at ((unhide T6_2_5_11_9).t tb rfl).2 1).1
      have y2 := (heap_at ((unhide T6_2_5_11_9).t tb rfl).2 2).1
      have y3 := (heap_at ((unhide T6_2_5_11_9).t tb rfl).2 3).1
      have x0 := (heap_at ((unhide T6_2_5_11_9).t tb rfl).2 0).2
      have x1 := (heap_at ((unhide T6_2_5_11_9).t tb rfl).2 1).2
      have x2 := (heap_at ((unhide T6_2_5_11_9).t tb rfl).2 2).2
      have x3 := (heap_at ((unhide T6_2_5_11_9).t tb rfl).2 3).2
      have TF := hide hT3
      have BF := hide hb3
      clear hT3 hb3 e1 e2
      go_simp
      refine hK.out _ _ (unhide SK _ (unhide BF)) (fun hHeld => ?_)
      clear hK K
      refine wpAnyH_done (by kernel_rfl) ?_ _
      go_wp2_with fail
      go_meet
      case rel => exact ⟨tb, l', f', rfl, TF, BF⟩
    ·have T6_2_11 := hide (unhide T6_2).litT
     go_simp
     generalize u6_2.alloc (.cells #[.int .i64 0, .slice none 0 0, .slice none 0 0, .slice none 0 0] 29) = u6_2_11 at *
     generalize u6_2.heap.size = tb at *
     refine hK.out _ _ (unhide SK _ (unhide T6_2_11).bel) (fun hHeld => ?_)
     clear hK K
     refine rd [5] (.cons rfl (fun K hK => ?_) .nil)
     obtain ⟨g8, k8, u6_2_11_5, hr, hs8⟩ := (unhide T6_2_11).appV (l := ⟨la, ln, lc⟩) (unhide RV) hln (unhide CL)
     have T6_2_11_5 := hide hs8
     clear hs8
     refine us_stepApp rfl (.tmp 8) (.tmp 10) 25 rfl _ _ (.slice (some ⟨g8, 0, none⟩) ln k8) u6_2_11_5 (by first | rfl | (simp [Act.eval]; done) | (simp [Act.eval, Act.put]; done)) (by first | rfl | (simp [Act.eval]; done) | (simp [Act.eval, Act.put]; done)) hr ?_
     clear hr
     refine hK.out _ _ (unhide SK _ (unhide T6_2_11_5).bel) (fun hHeld => ?_)
     clear hK K
     refine rd [9] (.cons rfl (fun K hK => ?_) .nil)
     obtain ⟨g12, k12, u6_2_11_5_9, hr, hs8⟩ := (unhide T6_2_11_5).appF (l := ⟨fa, fn, fc⟩) (unhide RF) hfn (unhide CF)
     have T6_2_11_5_9 := hide hs8
     clear hs8
     refine us_stepApp rfl (.tmp 12) (.tmp 14) 26 rfl _ _ (.slice (some ⟨g12, 0, none⟩) fn k12) u6_2_11_5_9 (by first | rfl | (simp [Act.eval]; done) | (simp [Act.eval, Act.put]; done)) (by first | rfl | (simp [Act.eval]; done) | (simp [Act.eval, Act.put]; done)) hr ?_
     clear hr
     refine hK.out _ _ (unhide SK _ (unhide T6_2_11_5_9).bel) (fun hHeld => ?_)
     clear hK K
     refine tk 10 16 rfl rfl hHeld ?_
     simp only [Act.put, lA]
     refine rd [12] (.cons rfl (fun K hK => ?_) .nil)
     obtain ⟨l', f', e1, e2, hT3, hb3⟩ := VgSt.store (next := d.next) (unhide T6_2_11_5_9)
     have y0 := (heap_at ((unhide T6_2_11_5_9).t tb rfl).2 0).1
     have y1 := (heap_at ((unhide T6_2_11_5_9).t tb rfl).2 1).1
     have y2 := (heap_at ((unhide T6_2_11_5_9).t tb rfl).2 2).1
     have y3 := (heap_at ((unhide T6_2_11_5_9).t tb rfl).2 3).1
     have x0 := (heap_at ((unhide T6_2_11_5_9).t tb rfl).2 0).2
     have x1 := (heap_at ((unhide T6_2_11_5_9).t tb rfl).2 1).2
     have x2 := (heap_at ((unhide T6_2_11_5_9).t tb rfl).2 2).2
     have x3 := (heap_at ((unhide T6_2_11_5_9).t tb rfl).2 3).2
     have TF := hide hT3
     have BF := hide hb3
     clear hT3 hb3 e1 e2
     go_simp
     refine hK.out _ _ (unhide SK _ (unhide BF)) (fun hHeld => ?_)
     clear hK K
     refine wpAnyH_done (by kernel_rfl) ?_ _
     go_wp2_with fail
     go_meet
     case rel => exact ⟨tb, l', f', rfl, TF, BF⟩
   ·have T6_11 := hide (unhide T6).litT
    go_simp
    generalize u6.alloc (.cells #[.int .i64 0, .slice none 0 0, .slice none 0 0, .slice none 0 0] 29) = u6_11 at *
    generalize u6.heap.size = tb at *
    refine hK.out _ _ (unhide SK _ (unhide T6_11).bel) (fun hHeld => ?_)
    clear hK K
    refine rd [2] (.cons rfl (fun K hK => ?_) .nil)
    have T6_11_2 := hide (unhide T6_11).litV
    go_simp
    generalize u6_11.alloc (.cells #[] 43) = u6_11_2 at *
    generalize u6_11.heap.size = g5 at *
    refine hK.out _ _ (unhide SK _ (unhide T6_11_2).bel) (fun hHeld => ?_)
    clear hK K
    refine rd [5] (.cons rfl (fun K hK => ?_) .nil)
    obtain ⟨g8, k8, u6_11_2_5, hr, hs8⟩ := (unhide T6_11_2).appV (l := ⟨la, ln, lc⟩) (unhide RV) hln (unhide CL)
    have T6_11_2_5 := hide hs8
    clear hs8
    refine us_stepApp rfl (.tmp 8) (.tmp 10) 25 rfl _ _ (.slice (some ⟨g8, 0, none⟩) ln k8) u6_11_2_5 (by first | rfl | (simp [Act.eval]; done) | (simp [Act.eval, Act.put]; done)) (by first | rfl | (simp [Act.eval]; done) | (simp [Act.eval, Act.put]; done)) hr ?_
    clear hr
    refine hK.out _ _ (unhide SK _ (unhide T6_11_2_5).bel) (fun hHeld => ?_)
    clear hK K
    refine rd [9] (.cons rfl (fun K hK => ?_) .nil)
    obtain ⟨g12, k12, u6_11_2_5_9, hr, hs8⟩ := (unhide T6_11_2_5).appF (l := ⟨fa, fn, fc⟩) (unhide RF) hfn (unhide CF)
    have T6_11_2_5_9 := hide hs8
    clear hs8
    refine us_stepApp rfl (.tmp 12) (.tmp 14) 26 rfl _ _ (.slice (some ⟨g12, 0, none⟩) fn k12) u6_11_2_5_9 (by first | rfl | (simp [Act.eval]; done) | (simp [Act.eval, Act.put]; done)) (by first | rfl | (simp [Act.eval]; done) | (simp [Act.eval, Act.put]; done)) hr ?_
    clear hr
    refine hK.out _ _ (unhide SK _ (unhide T6_11_2_5_9).bel) (fun hHeld => ?_)
    clear hK K
    refine tk 10 16 rfl rfl hHeld ?_
    simp only [Act.put, lA]
    refine rd [12] (.cons rfl (fun K hK => ?_) .nil)
    obtain ⟨l', f', e1, e2, hT3, hb3⟩ := VgSt.store (next := d.next) (unhide T6_11_2_5_9)
    have y0 := (heap_at ((unhide T6_11_2_5_9).t tb rfl).2 0).1
    have y1 := (heap_at ((unhide T6_11_2_5_9).t tb rfl).2 1).1
    have y2 := (heap_at ((unhide T6_11_2_5_9).t tb rfl).2 2).1
    have y3 := (heap_at ((unhide T6_11_2_5_9).t tb rfl).2 3).1
    have x0 := (heap_at ((unhide T6_11_2_5_9).t tb rfl).2 0).2
    have x1 := (heap_at ((unhide T6_11_2_5_9).t tb rfl).2 1).2
    have x2 := (heap_at ((unhide T6_11_2_5_9).t tb rfl).2 2).2
    have x3 := (heap_at ((unhide T6_11_2_5_9).t tb rfl).2 3).2
    have TF := hide hT3
    have BF := hide hb3
    clear hT3 hb3 e1 e2
    go_simp
    refine hK.out _ _ (unhide SK _ (unhide BF)) (fun hHeld => ?_)
    clear hK K
    refine wpAnyH_done (by kernel_rfl) ?_ _
    go_wp2_with fail
    go_meet
    case rel => exact ⟨tb, l', f', rfl, TF, BF⟩
  ·have T11 := hide (unhide T0).litT
   go_simp
   generalize u0.alloc (.cells #[.int .i64 0, .slice none 0 0, .slice none 0 0, .slice none 0 0] 29) = u11 at *
   generalize u0.heap.size = tb at *
   refine hK.out _ _ (unhide SK _ (unhide T11).bel) (fun hHeld => ?_)
   clear hK K
   refine wpAnyH_ready (rs := [2, 6]) (by kernel_rfl) (by simp) ?_
   refine AllReadyH.cons rfl (fun K hK => ?_) (AllReadyH.cons rfl (fun K hK => ?_) AllReadyH.nil)
   ·have T11_2 := hide (unhide T11).litV
    go_simp
    generalize u11.alloc (.cells #[] 43) = u11_2 at *
    generalize u11.heap.size = g5 at *
    refine hK.out _ _ (unhide SK _ (unhide T11_2).bel) (fun hHeld => ?_)
    clear hK K
    refine wpAnyH_ready (rs := [5, 6]) (by kernel_rfl) (by simp) ?_
    refine AllReadyH.cons rfl (fun K hK => ?_) (AllReadyH.cons rfl (fun K hK => ?_) AllReadyH.nil)
    ·obtain ⟨g8, k8, u11_2_5, hr, hs8⟩ := (unhide T11_2).appV (l := ⟨la, ln, lc⟩) (unhide RV) hln (unhide CL)
     have T11_2_5 := hide hs8
     clear hs8
     refine us_stepApp rfl (.tmp 8) (.tmp 10) 25 rfl _ _ (.slice (some ⟨g8, 0, none⟩) ln k8) u11_2_5 (by first | rfl | (simp [Act.eval]; done) | (simp [Act.eval, Act.put]; done)) (by first | rfl | (simp [Act.eval]; done) | (simp [Act.eval, Act.put]; done)) hr ?_
     clear hr
     refine hK.out _ _ (unhide SK _ (unhide T11_2_5).bel) (fun hHeld => ?_)
     clear hK K
     refine rd [6] (.cons rfl (fun K hK => ?_) .nil)
     have T11_2_5_6 := hide (unhide T11_2_5).litF
     go_simp
     generalize u11_2_5.alloc (.cells #[] 85) = u11_2_5_6 at *
     generalize u11_2_5.heap.size = g9 at *
     refine hK.out _ _ (unhide SK _ (unhide T11_2_5_6).bel) (fun hHeld => ?_)
     clear hK K
     refine rd [9] (.cons rfl (fun K hK => ?_) .nil)
     obtain ⟨g12, k12, u11_2_5_6_9, hr, hs8⟩ := (unhide T11_2_5_6).appF (l := ⟨fa, fn, fc⟩) (unhide RF) hfn (unhide CF)
     have T11_2_5_6_9 := hide hs8
     clear hs8
     refine us_stepApp rfl (.tmp 12) (.tmp 14) 26 rfl _ _ (.slice (some ⟨g12, 0, none⟩) fn k12) u11_2_5_6_9 (by first | rfl | (simp [Act.eval]; done) | (simp [Act.eval, Act.put]; done)) (by first | rfl | (simp [Act.eval]; done) | (simp [Act.eval, Act.put]; done)) hr ?_
     clear hr
     refine hK.out _ _ (unhide SK _ (unhide T11_2_5_6_9).bel) (fun hHeld => ?_)
     clear hK K
     refine tk 10 16 rfl rfl hHeld ?_
     simp only [Act.put, lA]
     refine rd [12] (.cons rfl (fun K hK => ?_) .nil)
     obtain ⟨l', f', e1, e2, hT3, hb3⟩ := VgSt.store (next := d.next) (unhide T11_2_5_6_9)
     have y0 := (heap_at ((unhide T11_2_5_6_9).t tb rfl).2 0).1
     have y1 := (heap_at ((unhide T11_2_5_6_9).t tb rfl).2 1).1
     have y2 := (heap_at ((unhide T11_2_5_6_9).t tb rfl).2 2).1
     have y3 := (heap_at ((unhide T11_2_5_6_9).t tb rfl).2 3).1
     have x0 := (heap_at ((unhide T11_2_5_6_9).t tb rfl).2 0).2
     have x1 := (heap_at ((unhide T11_2_5_6_9).t tb rfl).2 1).2
     have x2 := (heap_at ((unhide T11_2_5_6_9).t tb rfl).2 2).2
     have x3 := (heap_at ((unhide T11_2_5_6_9).t tb rfl).2 3).2
     have TF := hide hT3
     have BF := hide hb3
     clear hT3 hb3 e1 e2
     go_simp
     refine hK.out _ _ (unhide SK _ (unhide BF)) (fun hHeld => ?_)
     clear hK K
     refine wpAnyH_done (by kernel_rfl) ?_ _
     go_wp2_with fail
     go_meet
     case rel => exact ⟨tb, l', f', rfl, TF, BF⟩
    ·have T11_2_6 := hide (unhide T11_2).litF
     go_simp
     generalize u11_2.alloc (.cells #[] 85) = u11_2_6 at *
     generalize u11_2.heap.size = g9 at *
     refine hK.out _ _ (unhide SK _ (unhide T11_2_6).bel) (fun hHeld => ?_)
     clear hK K
     refine rd [5] (.cons rfl (fun K hK => ?_) .nil)
     obtain ⟨g8, k8, u11_2_6_5, hr, hs8⟩ := (unhide T11_2_6).appV (l := ⟨la, ln, lc⟩) (unhide RV) hln (unhide CL)
     have T11_2_6_5 := hide hs8
     clear hs8
     refine us_stepApp rfl (.tmp 8) (.tmp 10) 25 rfl _ _ (.slice (some ⟨g8, 0, none⟩) ln k8) u11_2_6_5 (by first | rfl | (simp [Act.eval]; done) | (simp [Act.eval, Act.put]; done)) (by first | rfl | (simp [Act.eval]; done) | (simp [Act.eval, Act.put]; done)) hr ?_
     clear hr
     refine hK.out _ _ (unhide SK _ (unhide T11_2_6_5).bel) (fun hHeld => ?_)
     clear hK K
     refine rd [9] (.cons rfl (fun K hK => ?_) .nil)
     obtain ⟨g12, k12, u11_2_6_5_9, hr, hs8⟩ := (unhide T11_2_6_5).appF (l := ⟨fa, fn, fc⟩) (unhide RF) hfn (unhide CF)
     have T11_2_6_5_9 := hide hs8
     clear hs8
     refine us_stepApp rfl (.tmp 12) (.tmp 14) 26 rfl _ _ (.slice (some ⟨g12, 0, none⟩) fn k12) u11_2_6_5_9 (by first | rfl | (simp [Act.eval]; done) | (simp [Act.eval, Act.put]; done)) (by first | rfl | (simp [Act.eval]; done) | (simp [Act.eval, Act.put]; done)) hr ?_
     clear hr
     refine hK.out _ _ (unhide SK _ (unhide T11_2_6_5_9).bel) (fun hHeld => ?_)
     clear hK K
     refine tk 10 16 rfl rfl hHeld ?_
     simp only [Act.put, lA]
     refine rd [12] (.cons rfl (fun K hK => ?_) .nil)
     obtain ⟨l', f', e1, e2, hT3, hb3⟩ := VgSt.store (next := d.next) (unhide T11_2_6_5_9)
     have y0 := (heap_at ((unhide T11_2_6_5_9).t tb rfl).2 0).1
     have y1 := (heap_at ((unhide T11_2_6_5_9).t tb rfl).2 1).1
     have y2 := (heap_at ((unhide T11_2_6_5_9).t tb rfl).2 2).1
     have y3 := (heap_at ((unhide T11_2_6_5_9).t tb rfl).2 3).1
     have x0 := (heap_at ((unhide T11_2_6_5_9).t tb rfl).2 0).2
     have x1 := (heap_at ((unhide T11_2_6_5_9).t tb rfl).2 1).2
     have x2 := (heap_at ((unhide T11_2_6_5_9).t tb rfl).2 2).2
     have x3 := (heap_at ((unhide T11_2_6_5_9).t tb rfl).2 3).2
     have TF := hide hT3
     have BF := hide hb3
     clear hT3 hb3 e1 e2
     go_simp
     refine hK.out _ _ (unhide SK _ (unhide BF)) (fun hHeld => ?_)
     clear hK K
     refine wpAnyH_done (by kernel_rfl) ?_ _
     go_wp2_with fail
     go_meet
     case rel => exact ⟨tb, l', f', rfl, TF, BF⟩
   ·have T11_6 := hide (unhide T11).litF
    go_simp
    generalize u11.alloc (.cells #[] 85) = u11_6 at *
    generalize u11.heap.size = g9 at *
    refine hK.out _ _ (unhide SK _ (unhide T11_6).bel) (fun hHeld => ?_)
    clear hK K
    refine rd [2] (.cons rfl (fun K hK => ?_) .nil)
    have T11_6_2 := hide (unhide T11_6).litV
    go_simp
    generalize u11_6.alloc (.cells #[] 43) = u11_6_2 at *
    generalize u11_6.heap.size = g5 at *
    refine hK.out _ _ (unhide SK _ (unhide T11_6_2).bel) (fun hHeld => ?_)
    clear hK K
    refine rd [5] (.cons rfl (fun K hK => ?_) .nil)
    obtain ⟨g8, k8, u11_6_2_5, hr, hs8⟩ := (unhide T11_6_2).appV (l := ⟨la, ln, lc⟩) (unhide RV) hln (unhide CL)
    have T11_6_2_5 := hide hs8
    clear hs8
    refine us_stepApp rfl (.tmp 8) (.tmp 10) 25 rfl _ _ (.slice (some ⟨g8, 0, none⟩) ln k8) u11_6_2_5 (by first | rfl | (simp [Act.eval]; done) | (simp [Act.eval, Act.put]; done)) (by first | rfl | (simp [Act.eval]; done) | (simp [Act.eval, Act.put]; done)) hr ?_
    clear hr
    refine hK.out _ _ (unhide SK _ (unhide T11_6_2_5).bel) (fun hHeld => ?_)
    clear hK K
    refine rd [9] (.cons rfl (fun K hK => ?_) .nil)
    obtain ⟨g12, k12, u11_6_2_5_9, hr, hs8⟩ := (unhide T11_6_2_5).appF (l := ⟨fa, fn, fc⟩) (unhide RF) hfn (unhide CF)
    have T11_6_2_5_9 := hide hs8
    clear hs8
    refine us_stepApp rfl (.tmp 12) (.tmp 14) 26 rfl _ _ (.slice (some ⟨g12, 0, none⟩) fn k12) u11_6_2_5_9 (by first | rfl | (simp [Act.eval]; done) | (simp [Act.eval, Act.put]; done)) (by first | rfl | (simp [Act.eval]; done) | (simp [Act.eval, Act.put]; done)) hr ?_
    clear hr
    refine hK.out _ _ (unhide SK _ (unhide T11_6_2_5_9).bel) (fun hHeld => ?_)
    clear hK K
    refine tk 10 16 rfl rfl hHeld ?_
    simp only [Act.put, lA]
    refine rd [12] (.cons rfl (fun K hK => ?_) .nil)
    obtain ⟨l', f', e1, e2, hT3, hb3⟩ := VgSt.store (next := d.next) (unhide T11_6_2_5_9)
    have y0 := (heap_at ((unhide T11_6_2_5_9).t tb rfl).2 0).1
    have y1 := (heap_at ((unhide T11_6_2_5_9).t tb rfl).2 1).1
    have y2 := (heap_at ((unhide T11_6_2_5_9).t tb rfl).2 2).1
    have y3 := (heap_at ((unhide T11_6_2_5_9).t tb rfl).2 3).1
    have x0 := (heap_at ((unhide T11_6_2_5_9).t tb rfl).2 0).2
    have x1 := (heap_at ((unhide T11_6_2_5_9).t tb rfl).2 1).2
    have x2 := (heap_at ((unhide T11_6_2_5_9).t tb rfl).2 2).2
    have x3 := (heap_at ((unhide T11_6_2_5_9).t tb rfl).2 3).2
    have TF := hide hT3
    have BF := hide hb3
    clear hT3 hb3 e1 e2
    go_simp
    refine hK.out _ _ (unhide SK _ (unhide BF)) (fun hHeld => ?_)
    clear hK K
    refine wpAnyH_done (by kernel_rfl) ?_ _
    go_wp2_with fail
    go_meet
    case rel => exact ⟨tb, l', f', rfl, TF, BF⟩
 case rest =>
  obtain ⟨tb, l', f', rfl, hG, hBc⟩ := hcut
  clear e0 e1 e2 RV RF S0 CL CF
  go_wp2_with fail
  go_loopw [4] (fun i wr => ∃ (k : Nat) (s' : Sl) (hs' : List SeH), i = .int .i64 (k : Int) ∧ k ≤ sn ∧ Hid (VgSt wr W.heap.size tb d.next l' f' s' hs' d.list d.fen) ∧ Hid (hs'.map (·.X) = d.ses.take k) ∧ Hid (Below W.heap.size W wr)) (fun i _ => sn - (intOf i).toNat)
  case atStart => exact ⟨0, _, _, rfl, Nat.zero_le _, hG, hide (by simp), hBc⟩
  case round =>
   clear hG hBc
   obtain ⟨k, s', hs', rfl, hk, hG, hX, hB⟩ := hrel
   have kv := ((unhide hB).block w.heap.size hz1).trans (unhide KV)
   have v3 := (heap_at kv 3).1
   have hwr := (unhide hB).size
   have HL := hide (show hs'.length = k by
    have e := congrArg List.length (unhide hX)
    rw [List.length_map, List.length_take, ← (unhide LN).2, (unhide LN).1] at e
    omega)
   by_cases hlt : k < sn
   case neg =>
    obtain rfl : k = sn := by omega
    have ht : d.ses.take k = d.ses := List.take_of_length_le (by rw [← (unhide LN).2, (unhide LN).1]; exact Nat.le_refl _)
    rw [ht] at hX
    have bx := (unhide hG).box
    have kr := ((unhide hB).block (w.heap.size + 1) hz2).trans (unhide KR)
    unfold vzC at bx
    have z0 := (heap_at bx 0).1
    have z1 := (heap_at bx 1).1
    have z2 := (heap_at bx 2).1
    have z3 := (heap_at bx 3).1
    have y0 := (heap_at kr 0).1
    have y1 := (heap_at kr 1).1
    have y2 := (heap_at kr 2).1
    have y3 := (heap_at kr 3).1
    have g0 := (heap_at kr 0).2
    have g1 := (heap_at kr 1).2
    have g2 := (heap_at kr 2).2
    have g3 := (heap_at kr 3).2
    have OWN : VzOwn wr W.heap.size l' f' s' hs' d := ⟨(unhide hG).vo, (unhide hG).fo, (unhide hG).so, unhide hX, (unhide hG).far⟩
    have hS := set4_wr wr (w.heap.size + 1) (.int .i64 d.next) (.slice l'.a l'.n l'.c) (.slice f'.a f'.n f'.c) (.slice s'.a s'.n s'.c)
    have bR := (unhide BH).trans ((unhide hB).mono (Nat.le_of_lt hz1))
    have RES := hide (show OvRes d w (.returned (.agg #[.int .i64 d.next, .slice l'.a l'.n l'.c, .slice f'.a f'.n f'.c, .slice s'.a s'.n s'.c])) _ from ⟨l', f', s', hs', rfl, (OWN.wr hS (fun i e => by rw [e]; exact hz2)).dn (Nat.le_of_lt hz1), bR.trans (WrB.below hS (fun i e => by rw [e]; exact Nat.le_succ _) bR.size)⟩)
    clear kv kr bx OWN hS bR hG hX ht
    go_wp2_with fail
    refine bodyPost_ret (v := .agg #[.int .i64 d.next, .slice l'.a l'.n l'.c, .slice f'.a f'.n f'.c, .slice s'.a s'.n s'.c]) (by simp [results, Tryz.results37, go_sem, *]) rfl ?_
    exact unhide RES
   have hk2 : k < hs.length := by rw [(unhide LN).1]; exact hlt
   have hkn : (k : Int) < (sn : Int) := by omega
   obtain ⟨b, off, rfl, hbl, c0, c1, c2⟩ := SeIn.cells ((unhide HI).below (unhide hB)).sr hk2
   have RW := hide (SeIn.row (unhide HI).sr hk2)
   have CC := hide (unhide CW hs[k] (List.getElem_mem hk2))
   have hwn := unhide SN hs[k] (List.getElem_mem hk2)
   have XN := hide (show ∀ y : SeH, y.X = hs[k].X → (hs' ++ [y]).map (·.X) = d.ses.take (k + 1) from fun y e => by
    obtain ⟨hd, hx⟩ := (unhide HI).at hk2
    rw [rb_take_snoc d.ses k hd, List.map_append, unhide hX, List.map_singleton, e, hx])
   generalize hs[k] = x at *
   obtain ⟨⟨xo, xt, ws⟩, ⟨wa, wn, wc⟩⟩ := x
   simp only at c0 c1 c2 RW CC hwn XN
   have bA : Below wr.heap.size wr (wr.alloc (.cells #[.bool xo, .int .i64 xt, .slice wa wn wc] 55)) := (Below.refl _ _).alloc (Nat.le_refl _) _
   have kA := heap_alloc_new wr (.cells #[.bool xo, .int .i64 xt, .slice wa wn wc] 55)
   have BA := hide bA
   have KA := hide kA
   clear bA kA kv hX
   go_upto_region 6 with fail
   clear c0 c1 c2 v3 hkn
   generalize hwa : wr.alloc (.cells #[.bool xo, .int .i64 xt, .slice wa wn wc] 55) = u1 at *
   clear hwa
   have hsb : wr.heap.size < u1.heap.size := blk_lt (unhide KA)
   have hu1 := (unhide BA).size
   have bL : Below u1.heap.size u1 (u1.alloc (.cells #[] 43)) := (Below.refl _ _).alloc (Nat.le_refl _) _
   have OL := nil_lit (w := u1) 43 4
   have BL := (unhide BA).trans (bL.mono hu1)
   obtain ⟨g6, k6, u2, hr6, ho6, hg6, -⟩ := v_appS (ds := []) (c := wc) 25 OL (by simp) ((unhide RW).below ((unhide hB).trans (BL.mono hwr))) (unhide CC).2 (by simp; omega) bL.size
   have hw6 := WrB.of_grown hg6
   simp only [List.length_nil, Nat.zero_add, List.nil_append] at hr6 ho6
   have B2 := bL.trans (WrB.below hw6 (fun i hi => (OL.lt i hi).1) bL.size)
   have KB := (B2.block wr.heap.size hsb).trans (unhide KA)
   have q2 := (heap_at KB 2).1
   have p2 := (heap_at KB 2).2
   have KC : (u2.setCell ⟨wr.heap.size, 2, none⟩ (.slice (some ⟨g6, 0, none⟩) wn k6)).heap[wr.heap.size]? = some (.cells #[.bool xo, .int .i64 xt, .slice (some ⟨g6, 0, none⟩) wn k6] 55 (0, 0)) := by have := heap_set KB 2 (.slice (some ⟨g6, 0, none⟩) wn k6); simpa using this
   have hS6 := set1_wr u2 wr.heap.size 2 (.slice (some ⟨g6, 0, none⟩) wn k6)
   have B3 := hide (show Below wr.heap.size wr (u2.setCell ⟨wr.heap.size, 2, none⟩ (.slice (some ⟨g6, 0, none⟩) wn k6)) from ((unhide BA).trans (B2.mono hu1)).trans (WrB.below hS6 (fun i e => by rw [e]; exact Nat.le_refl _) (Nat.le_trans hu1 B2.size)))
   have O3 := hide (gd_base (own_keep ho6 KB (by decide) hS6) hu1)
   have KD := hide KC
   have z2 := (heap_at (unhide KA) 2).1
   have z2L : (u1.alloc (.cells #[] 43)).cell? ⟨wr.heap.size, 2, none⟩ = some (.slice wa wn wc) := (bL.cell (p := ⟨wr.heap.size, 2, none⟩) hsb).trans z2
   clear hw6 hg6 ho6 KB KC hS6 B2 bL OL BL z2
   clear KA BA
   go_upto_region 7 with (at_builtin; refine ky_wpApp rfl (.tmp 29) (.tmp 31) 25 rfl _ _ _ u2 rfl rfl hr6 ?_)
   clear hr6 q2 p2 z2L hsb hu1
   generalize u2.setCell ⟨wr.heap.size, 2, none⟩ (.slice (some ⟨g6, 0, none⟩) wn k6) = u3 at *
   obtain ⟨s5, u5, hs5, hr5, G5, B5, K5, E5⟩ := (unhide hG).ses (unhide B3) ⟨⟨xo, xt, ws⟩, ⟨some ⟨g6, 0, none⟩, wn, k6⟩⟩ (unhide O3) (by rw [unhide HL]; omega) hwr
   have bx := ((unhide hG).below (unhide B3)).box
   unfold vzC at bx K5
   have t3 := (heap_at bx 3).1
   have r0 := (heap_at (unhide KD) 0).1
   have r1 := (heap_at (unhide KD) 1).1
   have r2 := (heap_at (unhide KD) 2).1
   have t5 := (heap_at K5 3).1
   have p5 := (heap_at K5 3).2
   have GX := hide G5
   have BX := hide ((unhide hB).trans B5)
   have XX := hide (unhide XN ⟨⟨xo, xt, ws⟩, ⟨some ⟨g6, 0, none⟩, wn, k6⟩⟩ rfl)
   simp only at hr5
   clear G5 B5 K5 E5 bx KD B3 O3 hG hB hs5
   obtain ⟨s5a, s5n, s5c⟩ := s5
   obtain ⟨s'a, s'n, s'c⟩ := s'
   simp only at hr5 t3 t5 GX BX
   go_wp2_with (at_builtin; refine ky_wpApp rfl (.tmp 35) (.tmp 37) 27 rfl _ _ _ u5 rfl rfl hr5 ?_)
   go_roundw
   case rel => exact ⟨k + 1, _, _, by go_num, by omega, GX, XX, BX⟩
   case measure => simp [intOf]; omega
end Go.Proofs.YtdnjgbckkmbmfaaGreat

namespace Go.Proofs.YtdnjgbckkmbmfaaGreat
open Go.RowKit

def noSe : SeH := ⟨clS, ⟨none, 0, 0⟩⟩
theorem no_el : ∀ n : Nat, ((List.replicate n noSe).map seEl).flatMap (·.hd) = (List.replicate n [Value.bool false, .int .i64 0, .slice none 0 0]).flatten
 | 0 => rfl
 | n + 1 => by rw [List.replicate_succ, List.replicate_succ, List.map_cons, List.flatMap_cons, no_el n]; rfl
theorem no_own {w : World} {B g : Nat} (h : w.ownsRow B 55 3 (.slice (some ⟨g, 0, none⟩) 4 4) 4 (madeCells #[Value.bool false, .int .i64 0, .slice none 0 0] (4 * 3)).toList) : SeOwn w B (.slice (some ⟨g, 0, none⟩) 4 4) (List.replicate 4 noSe) := by
 have sb : ∀ k a x, sbAt ((List.replicate 4 noSe).map seEl) k a = some x → x.v = .slice none 0 0 ∧ x.n = 0 ∧ x.cs = [] := fun k a x hx => by
  obtain ⟨e, he, hxe⟩ := sbAt_mem hx
  obtain ⟨y, hy, rfl⟩ := List.mem_map.1 he
  rw [List.eq_of_mem_replicate hy] at hxe
  rw [List.mem_singleton.1 hxe]
  exact ⟨rfl, rfl, rfl⟩
 refine ⟨?_, rfl, seEl_wid _, fun k a x hx => ?_, fun k l a b x y hx hy _ g h1 => ?_, fun k a x hx g _ h1 => ?_⟩
 ·rw [no_el, ← smade]
  exact h
 ·obtain ⟨e1, e2, e3⟩ := sb k a x hx
  rw [e1, e2, e3]
  exact World.ownsRow_nil _ _ _ _
 ·rw [(sb k a x hx).1] at h1; cases h1
 ·rw [(sb k a x hx).1] at h1; cases h1
set_option maxHeartbeats 1000000 in
theorem l06New_any (w : World) : Calls Tryz.prog 35 #[] w fun e w' => OvRes newV w e w' := by
 obtain ⟨i0, hi, hz0, hz1, hz2⟩ := info_parts Tryz.infoSe
 have bA : Below w.heap.size w (w.alloc (.cells #[.int .i64 0, .slice none 0 0, .slice none 0 0, .slice none 0 0] 29)) := (Below.refl _ _).alloc (Nat.le_refl _) _
 have kA := heap_alloc_new w (.cells #[.int .i64 0, .slice none 0 0, .slice none 0 0, .slice none 0 0] 29)
 have hz : w.heap.size < (w.alloc (.cells #[.int .i64 0, .slice none 0 0, .slice none 0 0, .slice none 0 0] 29)).heap.size := by simp
 go_enter Tryz.func35, Tryz.ntmps35
 go_upto_region 1 with fail
 generalize w.alloc (.cells #[.int .i64 0, .slice none 0 0, .slice none 0 0, .slice none 0 0] 29) = W at *
 go_wp2_with (at_make; refine wpList_make_full _ rfl _ _ 27 rfl W.heap.size 55 i0 _ 3 Tryz.underlying27 hi hz0 hz1 _ _ _ _ 4 rfl rfl rfl rfl (by rw [hz2]; omega) (by unfold maxLen; omega) (Nat.le_refl _) ?_)
 intro w1 hown hgrow
 have b1 : Below W.heap.size W w1 := (Below.refl _ _).grown hgrow (Nat.le_refl _) (fun k hk => by cases hk)
 have k1 := (b1.block w.heap.size hz).trans kA
 have y0 := (heap_at k1 0).1
 have y1 := (heap_at k1 1).1
 have y2 := (heap_at k1 2).1
 have y3 := (heap_at k1 3).1
 have g0 := (heap_at k1 0).2
 have g1 := (heap_at k1 1).2
 have g2 := (heap_at k1 2).2
 have g3 := (heap_at k1 3).2
 have OWN : VzOwn w1 W.heap.size ⟨none, 0, 0⟩ ⟨none, 0, 0⟩ ⟨some ⟨W.heap.size, 0, none⟩, 4, 4⟩ (List.replicate 4 noSe) newV := ⟨World.ownsRow_nil _ _ _ _, World.ownsRow_nil _ _ _ _, no_own hown, rfl, fun i hi => by cases hi⟩
 have hS := set4_wr w1 w.heap.size (.int .i64 1) (.slice none 0 0) (.slice none 0 0) (.slice (some ⟨W.heap.size, 0, none⟩) 4 4)
 have bR := bA.trans (b1.mono (Nat.le_of_lt hz))
 have RES := hide (show OvRes newV w (.returned (.agg #[.int .i64 1, .slice none 0 0, .slice none 0 0, .slice (some ⟨W.heap.size, 0, none⟩) 4 4])) _ from ⟨⟨none, 0, 0⟩, ⟨none, 0, 0⟩, ⟨some ⟨W.heap.size, 0, none⟩, 4, 4⟩, _, rfl, (OWN.wr hS (fun i e => by rw [e]; exact hz)).dn (Nat.le_of_lt hz), bR.trans (WrB.below hS (fun i e => by rw [e]; exact Nat.le_refl _) bR.size)⟩)
 clear OWN hS bR hown hgrow k1 kA
 go_wp2_with fail
 refine bodyPost_ret (v := .agg #[.int .i64 1, .slice none 0 0, .slice none 0 0, .slice (some ⟨W.heap.size, 0, none⟩) 4 4]) (by simp [results, Tryz.results35, go_sem, *]) rfl ?_
 exact unhide RES
theorem threeBx {w : World} {c1 c2 c3 : Array Value} {t1 t2 t3 : TypeId} {W : World} (hW : W = ((w.alloc (.cells c1 t1)).alloc (.cells c2 t2)).alloc (.cells c3 t3)) :
  Below w.heap.size w W ∧ W.heap[w.heap.size]? = some (.cells c1 t1 (0, 0)) ∧ W.heap[w.heap.size + 1]? = some (.cells c2 t2 (0, 0)) ∧ W.heap[w.heap.size + 1 + 1]? = some (.cells c3 t3 (0, 0)) ∧ W.heap.size = w.heap.size + 1 + 1 + 1 := by
 obtain ⟨b, k1, k2, hz⟩ := twoBx (w := w) (c1 := c1) (c2 := c2) (t1 := t1) (t2 := t2) rfl
 subst hW
 have bA := (Below.refl ((w.alloc (.cells c1 t1)).alloc (.cells c2 t2)).heap.size ((w.alloc (.cells c1 t1)).alloc (.cells c2 t2))).alloc (Nat.le_refl _) (.cells c3 t3)
 refine ⟨b.trans (bA.mono b.size), (bA.block _ (by omega)).trans k1, (bA.block _ (by omega)).trans k2, ?_, by simp⟩
 rw [← hz]
 exact heap_alloc_new _ _
def putTo (d : VsD) (ws : List VerD) (k : Nat) : List VerD := (ws.take k).foldl insV d.list
theorem putTo_succ (d : VsD) (ws : List VerD) {k : Nat} (h : k < ws.length) : putTo d ws (k + 1) = insV (putTo d ws k) ws[k] := by
 unfold putTo
 rw [takeG_snoc ws k h, List.foldl_append]
 rfl
theorem putTo_len (d : VsD) (ws : List VerD) : ∀ k, k ≤ ws.length → (putTo d ws k).length ≤ d.list.length + k
 | 0, _ => by simp [putTo]
 | k + 1, h => by
  rw [putTo_succ d ws (by omega)]
  have := putTo_len d ws k (by omega)
  have := insV_len (putTo d ws k) ws[k]
  omega
def CmRes (d : VsD) (ws : List VerD) (l f s : Sl) (w : World) (e : Ending) (w' : World) : Prop :=
 if ws.any (conV d) = true then e = .returned (.tuple #[.agg (vzC d.next l f s), .int .i64 9]) ∧ Below w.heap.size w w'
 else ∃ l' : Sl, e = .returned (.tuple #[.agg (vzC d.next l' f s), .int .i64 0]) ∧ ((l' = l ∧ ws.foldl insV d.list = d.list) ∨ VOwns w' w.heap.size (.slice l'.a l'.n l'.c) (ws.foldl insV d.list)) ∧ Below w.heap.size w w'
set_option maxHeartbeats 8000000 in
theorem l06Commit_any (d : VsD) (l f s wl : Sl) (o : Bool) (t : Int) (ws : List VerD) (w : World) (hl : VRow w l.a l.n d.list) (hf : FRow w f.a f.n d.fen) (hc : Cap l) (hln : d.list.length + ws.length ≤ 900000) (hfn : f.n ≤ 1000000) (hw : VRow w wl.a wl.n ws) :
  Calls Tryz.prog 81 #[.agg (vzC d.next l f s), .agg (sesC o t wl)] w fun e w' => CmRes d ws l f s w e w' := by
 obtain ⟨la, ln, lc⟩ := l
 obtain ⟨fa, fn, fc⟩ := f
 obtain ⟨sa, sn, sc⟩ := s
 obtain ⟨wa, wn, wc⟩ := wl
 have CFL := hide (fun (u : World) (hb : Below w.heap.size w u) (x : VerD) => l06Conflict_any d.next ⟨la, ln, lc⟩ ⟨fa, fn, fc⟩ ⟨sa, sn, sc⟩ d x u (hl.below hb) (hf.below hb) (by have := hl.1; simp only at this ⊢; omega) hfn)
 unfold vzC sesC at *
 simp only at hl hf hfn hw CFL ⊢
 obtain ⟨W, hW⟩ : ∃ W, W = ((w.alloc (.cells #[.int .i64 d.next, .slice la ln lc, .slice fa fn fc, .slice sa sn sc] 29)).alloc (.cells #[.bool o, .int .i64 t, .slice wa wn wc] 55)).alloc (.cells #[.int .i64 0, .slice none 0 0, .slice none 0 0, .slice none 0 0] 29) := ⟨_, rfl⟩
 obtain ⟨b1, kv, ks, kr, hz⟩ := threeBx hW
 have KV := hide kv
 have KS := hide ks
 have KR := hide kr
 have BH := hide b1
 have HZ := hide hz
 have HL := hide hl
 have HW := hide hw
 have LW := hide hw.1
 have LL := hide hl.1
 have HC := hide hc
 have PS := hide (fun k (h : k < ws.length) => putTo_succ d ws h)
 have PN := hide (fun k h => putTo_len d ws k h)
 have hlw : d.list.length + wn ≤ 900000 := by have := hw.1; omega
 have hb0 : w.heap.size < W.heap.size := by omega
 have hb1 : w.heap.size + 1 < W.heap.size := by omega
 have hb2 : w.heap.size + 1 + 1 < W.heap.size := by omega
 clear hl hf hw b1 kv ks kr hz hc hln
 go_enter Tryz.func81, Tryz.ntmps81
 go_wp2_with fail
 rw [← hW]
 clear hW
 go_loopw [6] (fun i wr => ∃ k : Nat, i = .int .i64 (k : Int) ∧ k ≤ wn ∧ Hid (∀ i (hi : i < ws.length), i < k → conV d ws[i] = false) ∧ Hid (Below W.heap.size W wr)) (fun i _ => wn - (intOf i).toNat)
 case atStart => exact ⟨0, rfl, Nat.zero_le _, (fun i _ h => absurd h (Nat.not_lt_zero _)), Below.refl _ _⟩
 case round =>
  obtain ⟨k, rfl, hk, hN, hB⟩ := hrel
  have kv := ((unhide hB).block w.heap.size hb0).trans (unhide KV)
  have ks := ((unhide hB).block (w.heap.size + 1) hb1).trans (unhide KS)
  have s2 := (heap_at ks 2).1
  have hwr := (unhide hB).size
  by_cases hlt : k < wn
  ·have hk2 : k < ws.length := by rw [unhide LW]; exact hlt
   obtain ⟨b, off, rfl, d0, d1, d2, d3⟩ := ((unhide HW).below ((unhide BH).trans ((unhide hB).mono (unhide BH).size))).2 k hk2
   have hkn : (k : Int) < (wn : Int) := by omega
   have v0 := (heap_at kv 0).1
   have v1 := (heap_at kv 1).1
   have v2 := (heap_at kv 2).1
   have v3 := (heap_at kv 3).1
   have UP := hide (fun h => up_to (P := fun y : VerD => conV d y = false) hk2 (unhide hN) h)
   have YES := hide (show conV d ws[k] = true → ws.any (conV d) = true from fun h => List.any_eq_true.2 ⟨_, List.getElem_mem hk2, h⟩)
   have SC := hide (fun (u : World) (hb : Below wr.heap.size wr u) => (unhide CFL u ((unhide BH).trans (((unhide hB).trans (hb.mono hwr)).mono (unhide BH).size)) ws[k]).mono fun e u' h => show e = .returned (.bool (conV d ws[k])) ∧ Below wr.heap.size wr u' from ⟨h.1, hb.trans (h.2.mono hb.size)⟩)
   generalize ws[k] = pd at *
   have SK := hide (show ∀ u, Below wr.heap.size wr u → (u.cell? ⟨w.heap.size, 0, none⟩ = some (.int .i64 d.next) ∧ u.cell? ⟨w.heap.size, 1, none⟩ = some (.slice la ln lc) ∧ u.cell? ⟨w.heap.size, 2, none⟩ = some (.slice fa fn fc) ∧ u.cell? ⟨w.heap.size, 3, none⟩ = some (.slice sa sn sc) ∧ u.cell? ⟨w.heap.size + 1, 2, none⟩ = some (.slice (some ⟨b, off, none⟩) wn wc) ∧ u.cell? ⟨b, off + k * 4, none⟩ = some (.string pd.k) ∧ u.cell? ⟨b, off + k * 4 + 1, none⟩ = some (.int .i64 pd.t) ∧ u.cell? ⟨b, off + k * 4 + 2, none⟩ = some (.string pd.v) ∧ u.cell? ⟨b, off + k * 4 + 3, none⟩ = some (.bool pd.g)) from fun u hb =>
    ⟨(hb.cell (p := ⟨w.heap.size, 0, none⟩) (cell_lt v0)).trans v0, (hb.cell (p := ⟨w.heap.size, 1, none⟩) (cell_lt v1)).trans v1, (hb.cell (p := ⟨w.heap.size, 2, none⟩) (cell_lt v2)).trans v2, (hb.cell (p := ⟨w.heap.size, 3, none⟩) (cell_lt v3)).trans v3, (hb.cell (p := ⟨w.heap.size + 1, 2, none⟩) (cell_lt s2)).trans s2, (hb.cell (p := ⟨b, off + k * 4, none⟩) (cell_lt d0)).trans d0, (hb.cell (p := ⟨b, off + k * 4 + 1, none⟩) (cell_lt d1)).trans d1, (hb.cell (p := ⟨b, off + k * 4 + 2, none⟩) (cell_lt d2)).trans d2, (hb.cell (p := ⟨b, off + k * 4 + 3, none⟩) (cell_lt d3)).trans d3⟩)
   obtain ⟨pk, pt, pv, pg⟩ := pd
   unfold vv at SC
   simp only at SC SK
   have G0 : Below wr.heap.size wr wr.drew := (Below.refl _ _).drew
   clear d0 d1 d2 d3 v0 v1 v2 v3 kv ks hN
   go_upto_region 4 with fail
   clear s2
   refine wp_region_held_drew (S := (fun u => (u.cell? ⟨w.heap.size, 0, none⟩ = some (.int .i64 d.next) ∧ u.cell? ⟨w.heap.size, 1, none⟩ = some (.slice la ln lc) ∧ u.cell? ⟨w.heap.size, 2, none⟩ = some (.slice fa fn fc) ∧ u.cell? ⟨w.heap.size, 3, none⟩ = some (.slice sa sn sc) ∧ u.cell? ⟨w.heap.size + 1, 2, none⟩ = some (.slice (some ⟨b, off, none⟩) wn wc) ∧ u.cell? ⟨b, off + k * 4, none⟩ = some (.string pk) ∧ u.cell? ⟨b, off + k * 4 + 1, none⟩ = some (.int .i64 pt) ∧ u.cell? ⟨b, off + k * 4 + 2, none⟩ = some (.string pv) ∧ u.cell? ⟨b, off + k * 4 + 3, none⟩ = some (.bool pg)))) (by kernel_rfl) (unhide SK _ G0) (fun hHeld => ?_)
   refine tk 0 15 rfl rfl hHeld ?_
   simp only [Act.put, lA, lB, lC]
   refine tk 1 16 rfl rfl hHeld ?_
   simp only [Act.put, lA, lB, lC]
   refine tk 2 17 rfl rfl hHeld ?_
   simp only [Act.put, lA, lB, lC]
   refine tk 3 18 rfl rfl hHeld ?_
   simp only [Act.put, lA, lB, lC]
   refine tk 4 19 rfl rfl hHeld ?_
   simp only [Act.put, lA, lB, lC]
   refine tk 5 20 rfl rfl hHeld ?_
   simp only [Act.put, lA, lB, lC]
   refine rd [6] (.cons rfl (fun K hK => ?_) .nil)
   go_simp
   refine (unhide SC _ G0).mono ?_
   rintro e w2 ⟨rfl, b2⟩
   refine hK.out _ _ (unhide SK _ b2) (fun hHeld => ?_)
   clear hK K
   refine wpAnyH_done (by kernel_rfl) ?_ _
   clear SC SK hHeld G0
   have BF := hide ((unhide hB).trans (b2.mono hwr))
   clear hB b2
   generalize hcv : conV d ⟨pk, pt, pv, pg⟩ = cv at *
   cases cv with
   | false =>
    have Z := hide (unhide UP rfl)
    clear UP YES hcv
    go_wp2_with fail
    go_roundw
    case rel => exact ⟨k + 1, by go_num, by omega, unhide Z, unhide BF⟩
    case measure => simp [intOf]; omega
   | true =>
    have Z := hide (unhide YES rfl)
    clear UP YES hcv
    have kv := ((unhide BF).block w.heap.size hb0).trans (unhide KV)
    have kr := ((unhide BF).block (w.heap.size + 1 + 1) hb2).trans (unhide KR)
    have v0 := (heap_at kv 0).1
    have v1 := (heap_at kv 1).1
    have v2 := (heap_at kv 2).1
    have v3 := (heap_at kv 3).1
    have y0 := (heap_at kr 0).1
    have y1 := (heap_at kr 1).1
    have y2 := (heap_at kr 2).1
    have y3 := (heap_at kr 3).1
    have g0 := (heap_at kr 0).2
    have g1 := (heap_at kr 1).2
    have g2 := (heap_at kr 2).2
    have g3 := (heap_at kr 3).2
    have hS := set4_wr w2 (w.heap.size + 1 + 1) (.int .i64 d.next) (.slice la ln lc) (.slice fa fn fc) (.slice sa sn sc)
    have bR := (unhide BH).trans ((unhide BF).mono (unhide BH).size)
    have RES := hide (show CmRes d ws ⟨la, ln, lc⟩ ⟨fa, fn, fc⟩ ⟨sa, sn, sc⟩ w (.returned (.tuple #[.agg #[.int .i64 d.next, .slice la ln lc, .slice fa fn fc, .slice sa sn sc], .int .i64 9])) _ by
     unfold CmRes
     rw [if_pos (unhide Z)]
     exact ⟨rfl, bR.trans (WrB.below hS (fun i e => by rw [e]; omega) bR.size)⟩)
    clear kv kr hS bR
    go_wp2_with fail
    refine bodyPost_ret (v := .tuple #[.agg #[.int .i64 d.next, .slice la ln lc, .slice fa fn fc, .slice sa sn sc], .int .i64 9]) (by simp [results, Tryz.results81, go_sem, *]) rfl ?_
    exact unhide RES
  ·obtain rfl : wn = k := by omega
   have NO := hide (show ¬ ws.any (conV d) = true from fun h => by
    obtain ⟨x, hx, hc⟩ := List.any_eq_true.1 h
    obtain ⟨i, hi, rfl⟩ := List.getElem_of_mem hx
    rw [unhide hN i hi (by have := unhide LW; omega)] at hc
    cases hc)
   have hW0 := (unhide BH).size
   clear hN kv ks
   go_wp2_with fail
   clear s2
   have L0 := hide (show putTo d ws 0 = d.list by simp [putTo])
   have PA := hide (show putTo d ws wn = ws.foldl insV d.list by unfold putTo; rw [← unhide LW, List.take_length])
   go_loopw [7] (fun i wr => ∃ (k : Nat) (l' : Sl), i = .int .i64 (k : Int) ∧ k ≤ wn ∧ Hid ((k = 0 ∧ l' = ⟨la, ln, lc⟩) ∨ VOwns wr W.heap.size (.slice l'.a l'.n l'.c) (putTo d ws k)) ∧ Hid (wr.heap[w.heap.size]? = some (.cells #[.int .i64 d.next, .slice l'.a l'.n l'.c, .slice fa fn fc, .slice sa sn sc] 29 (0, 0))) ∧ Hid (Below w.heap.size w wr) ∧ Hid (wr.heap[w.heap.size + 1]? = some (.cells #[.bool o, .int .i64 t, .slice wa wn wc] 55 (0, 0))) ∧ Hid (wr.heap[w.heap.size + 1 + 1]? = some (.cells #[.int .i64 0, .slice none 0 0, .slice none 0 0, .slice none 0 0] 29 (0, 0))) ∧ W.heap.size ≤ wr.heap.size) (fun i _ => wn - (intOf i).toNat)
   case atStart => exact ⟨0, ⟨la, ln, lc⟩, rfl, Nat.zero_le _, hide (.inl ⟨rfl, rfl⟩), ((unhide hB).block w.heap.size hb0).trans (unhide KV), (unhide BH).trans ((unhide hB).mono hW0), ((unhide hB).block (w.heap.size + 1) hb1).trans (unhide KS), ((unhide hB).block (w.heap.size + 1 + 1) hb2).trans (unhide KR), hwr⟩
   case round =>
    clear hB hwr
    obtain ⟨k, l', rfl, hk, hO, hV, hB, hS, hR, hwr⟩ := hrel
    have ROW := hide (show VRow wr l'.a l'.n (putTo d ws k) ∧ Cap l' by
     rcases unhide hO with ⟨rfl, rfl⟩ | h
     ·rw [unhide L0]; exact ⟨(unhide HL).below (unhide hB), unhide HC⟩
     ·exact ⟨vrow_of_owns h, cap_of_owns h⟩)
    have s2 := (heap_at (unhide hS) 2).1
    by_cases hlt : k < wn
    case neg =>
     obtain rfl : wn = k := by omega
     have v0 := (heap_at (unhide hV) 0).1
     have v1 := (heap_at (unhide hV) 1).1
     have v2 := (heap_at (unhide hV) 2).1
     have v3 := (heap_at (unhide hV) 3).1
     have y0 := (heap_at (unhide hR) 0).1
     have y1 := (heap_at (unhide hR) 1).1
     have y2 := (heap_at (unhide hR) 2).1
     have y3 := (heap_at (unhide hR) 3).1
     have g0 := (heap_at (unhide hR) 0).2
     have g1 := (heap_at (unhide hR) 1).2
     have g2 := (heap_at (unhide hR) 2).2
     have g3 := (heap_at (unhide hR) 3).2
     have hS4 := set4_wr wr (w.heap.size + 1 + 1) (.int .i64 d.next) (.slice l'.a l'.n l'.c) (.slice fa fn fc) (.slice sa sn sc)
     have bR := (unhide hB).trans (WrB.below hS4 (fun i e => by rw [e]; omega) (unhide hB).size)
     have RES := hide (show CmRes d ws ⟨la, ln, lc⟩ ⟨fa, fn, fc⟩ ⟨sa, sn, sc⟩ w (.returned (.tuple #[.agg #[.int .i64 d.next, .slice l'.a l'.n l'.c, .slice fa fn fc, .slice sa sn sc], .int .i64 0])) _ by
      unfold CmRes
      rw [if_neg (unhide NO)]
      refine ⟨l', rfl, ?_, bR⟩
      rw [← unhide PA]
      rcases unhide hO with ⟨h0, rfl⟩ | h
      ·exact .inl ⟨rfl, by rw [h0, unhide L0]⟩
      ·exact .inr (gd_base (rr_owns_wr h hS4 (fun i hi e => by have := (h.lt i hi).1; omega)) hW0))
     clear hS4 bR ROW hO hV hS hR
     go_wp2_with fail
     refine bodyPost_ret (v := .tuple #[.agg #[.int .i64 d.next, .slice l'.a l'.n l'.c, .slice fa fn fc, .slice sa sn sc], .int .i64 0]) (by simp [results, Tryz.results81, go_sem, *]) rfl ?_
     exact unhide RES
    have hk2 : k < ws.length := by rw [unhide LW]; exact hlt
    obtain ⟨b, off, rfl, d0, d1, d2, d3⟩ := ((unhide HW).below (unhide hB)).2 k hk2
    have hkn : (k : Int) < (wn : Int) := by omega
    have hbw : b < w.heap.size := by obtain ⟨b2, o2, h2, c2, _⟩ := (unhide HW).2 k hk2; injection h2 with h2; injection h2 with h2 _; subst h2; exact cell_lt c2
    have hpl := unhide PN k (by omega)
    have SI := hide (fun (u : World) (hb : Below wr.heap.size wr u) => (l06Insert_any l'.a l'.n l'.c (putTo d ws k) ws[k] u ((unhide ROW).1.below hb) (by have := (unhide ROW).1.1; omega) (unhide ROW).2.1 (unhide ROW).2.2).mono fun e u' h => show ∃ g q, e = .returned (.slice (some ⟨g, 0, none⟩) (putTo d ws (k + 1)).length q) ∧ VOwns u' W.heap.size (.slice (some ⟨g, 0, none⟩) (putTo d ws (k + 1)).length q) (putTo d ws (k + 1)) ∧ Below wr.heap.size wr u' by
     obtain ⟨g, q, h1, h2, h3⟩ := h
     rw [unhide PS k hk2]
     exact ⟨g, q, h1, gd_base h2 (Nat.le_trans hwr hb.size), hb.trans (h3.mono hb.size)⟩)
    generalize ws[k] = pd at *
    obtain ⟨pk, pt, pv, pg⟩ := pd
    unfold vv at SI
    simp only at SI d0 d1 d2 d3
    have SK := hide (show ∀ u : World, (∀ i, i ≠ w.heap.size → i < wr.heap.size → u.heap[i]? = wr.heap[i]?) → (u.cell? ⟨w.heap.size + 1, 2, none⟩ = some (.slice (some ⟨b, off, none⟩) wn wc) ∧ u.cell? ⟨b, off + k * 4, none⟩ = some (.string pk) ∧ u.cell? ⟨b, off + k * 4 + 1, none⟩ = some (.int .i64 pt) ∧ u.cell? ⟨b, off + k * 4 + 2, none⟩ = some (.string pv) ∧ u.cell? ⟨b, off + k * 4 + 3, none⟩ = some (.bool pg)) from fun u hb =>
     ⟨(World.cell?_of_block (a := ⟨w.heap.size + 1, 2, none⟩) (hb _ (by simp) (cell_lt s2))).trans s2, (World.cell?_of_block (a := ⟨b, off + k * 4, none⟩) (hb _ (by simp only; omega) (cell_lt d0))).trans d0, (World.cell?_of_block (a := ⟨b, off + k * 4 + 1, none⟩) (hb _ (by simp only; omega) (cell_lt d1))).trans d1, (World.cell?_of_block (a := ⟨b, off + k * 4 + 2, none⟩) (hb _ (by simp only; omega) (cell_lt d2))).trans d2, (World.cell?_of_block (a := ⟨b, off + k * 4 + 3, none⟩) (hb _ (by simp only; omega) (cell_lt d3))).trans d3⟩)
    have SB := hide (show ∀ u : World, Below wr.heap.size wr u → ∀ i, i ≠ w.heap.size → i < wr.heap.size → u.heap[i]? = wr.heap[i]? from fun u hu i _ hi => hu.block i hi)
    have G0 : Below wr.heap.size wr wr.drew := (Below.refl _ _).drew
    have Y1 := hide (show wr.drew.cell? ⟨w.heap.size, 1, none⟩ = some (.slice l'.a l'.n l'.c) from (G0.cell (p := ⟨w.heap.size, 1, none⟩) (by show w.heap.size < wr.heap.size; omega)).trans (heap_at (unhide hV) 1).1)
    obtain ⟨l'a, l'n, l'c⟩ := l'
    simp only at SI Y1 hV
    clear d0 d1 d2 d3 hO ROW
    go_upto_region 9 with fail
    clear s2
    refine wp_region_held_drew (S := (fun u => (u.cell? ⟨w.heap.size + 1, 2, none⟩ = some (.slice (some ⟨b, off, none⟩) wn wc) ∧ u.cell? ⟨b, off + k * 4, none⟩ = some (.string pk) ∧ u.cell? ⟨b, off + k * 4 + 1, none⟩ = some (.int .i64 pt) ∧ u.cell? ⟨b, off + k * 4 + 2, none⟩ = some (.string pv) ∧ u.cell? ⟨b, off + k * 4 + 3, none⟩ = some (.bool pg)))) (by kernel_rfl) (unhide SK _ (unhide SB _ G0)) (fun hHeld => ?_)
    refine tk 0 30 rfl rfl hHeld ?_
    simp only [Act.put, lA, lB, lC]
    refine tk 2 32 rfl rfl hHeld ?_
    simp only [Act.put, lA, lB, lC]
    refine tk 3 33 rfl rfl hHeld ?_
    simp only [Act.put, lA, lB, lC]
    refine tk 4 34 rfl rfl hHeld ?_
    simp only [Act.put, lA, lB, lC]
    refine tk 5 35 rfl rfl hHeld ?_
    simp only [Act.put, lA, lB, lC]
    refine tk 6 36 rfl rfl hHeld ?_
    simp only [Act.put, lA, lB, lC]
    refine rd [1] (.cons rfl (fun K hK => ?_) .nil)
    have y := unhide Y1
    go_simp
    clear y
    refine hK.out _ _ (hHeld) (fun hHeld => ?_)
    clear hK K
    refine rd [7] (.cons rfl (fun K hK => ?_) .nil)
    go_simp
    refine (unhide SI _ G0).mono ?_
    rintro e w2 ⟨g, q, rfl, o2, b2⟩
    have kv := (b2.block w.heap.size (by omega)).trans (unhide hV)
    have x1 := (heap_at kv 1).1
    have f1 := (heap_at kv 1).2
    have O3 := hide (gd_set o2 hb0 1 (.slice (some ⟨g, 0, none⟩) (putTo d ws (k + 1)).length q))
    have V3 := hide (show (w2.setCell ⟨w.heap.size, 1, none⟩ (.slice (some ⟨g, 0, none⟩) (putTo d ws (k + 1)).length q)).heap[w.heap.size]? = some (.cells #[.int .i64 d.next, .slice (some ⟨g, 0, none⟩) (putTo d ws (k + 1)).length q, .slice fa fn fc, .slice sa sn sc] 29 (0, 0)) by have := heap_set kv 1 (.slice (some ⟨g, 0, none⟩) (putTo d ws (k + 1)).length q); simpa using this)
    have hS9 := set1_wr w2 w.heap.size 1 (.slice (some ⟨g, 0, none⟩) (putTo d ws (k + 1)).length q)
    have b02 := (unhide hB).trans (b2.mono (unhide hB).size)
    have B3 := hide (b02.trans (WrB.below hS9 (fun i e => by rw [e]; exact Nat.le_refl _) b02.size))
    have E3 := hide (show ∀ i, i ≠ w.heap.size → i < wr.heap.size → (w2.setCell ⟨w.heap.size, 1, none⟩ (.slice (some ⟨g, 0, none⟩) (putTo d ws (k + 1)).length q)).heap[i]? = wr.heap[i]? from fun i h1 h2 => (hS9.block i (Nat.lt_of_lt_of_le h2 b2.size) h1).trans (b2.block i h2))
    have h3 : W.heap.size ≤ (w2.setCell ⟨w.heap.size, 1, none⟩ (.slice (some ⟨g, 0, none⟩) (putTo d ws (k + 1)).length q)).heap.size := Nat.le_trans (Nat.le_trans hwr b2.size) hS9.size
    have BB := hide b2
    clear o2 kv hS9 b02 b2
    refine hK.out _ _ (unhide SK _ (unhide SB _ (unhide BB))) (fun hHeld => ?_)
    clear hK K
    refine tk 8 38 rfl rfl hHeld ?_
    simp only [Act.put, lA, lB, lC]
    refine rd [9] (.cons rfl (fun K hK => ?_) .nil)
    go_simp
    refine hK.out _ _ (unhide SK _ (unhide E3)) (fun hHeld => ?_)
    clear hK K
    refine wpAnyH_done (by kernel_rfl) ?_ _
    clear hHeld SK SB SI G0 Y1 x1 f1
    go_wp2_with fail
    go_roundw
    case rel => exact ⟨k + 1, ⟨some ⟨g, 0, none⟩, (putTo d ws (k + 1)).length, q⟩, by go_num, by omega, hide (.inr (unhide O3)), V3, B3, (unhide E3 _ (by omega) (by omega)).trans (unhide hS), (unhide E3 _ (by omega) (by omega)).trans (unhide hR), h3⟩
    case measure => simp [intOf]; omega
end Go.Proofs.YtdnjgbckkmbmfaaGreat

namespace Go.Proofs.YtdnjgbckkmbmfaaGreat
open Go.RowKit

def allocC (w : World) : List (Array Value × TypeId) → World
 | [] => w
 | (c, t) :: r => allocC (w.alloc (.cells c t)) r
theorem allocC_size : ∀ (cs : List (Array Value × TypeId)) (w : World), (allocC w cs).heap.size = w.heap.size + cs.length
 | [], w => rfl
 | (c, t) :: r, w => by rw [allocC, allocC_size r]; simp; omega
theorem allocC_bel : ∀ (cs : List (Array Value × TypeId)) (w : World), Below w.heap.size w (allocC w cs)
 | [], w => Below.refl _ _
 | (c, t) :: r, w => by
  have b : Below w.heap.size w (w.alloc (.cells c t)) := (Below.refl _ _).alloc (Nat.le_refl _) _
  exact b.trans ((allocC_bel r (w.alloc (.cells c t))).mono b.size)
theorem allocC_at : ∀ (cs : List (Array Value × TypeId)) (w : World) (k : Nat) (c : Array Value) (t : TypeId), cs[k]? = some (c, t) → (allocC w cs).heap[w.heap.size + k]? = some (.cells c t (0, 0))
 | [], w, k, c, t, h => by simp at h
 | (c', t') :: r, w, 0, c, t, h => by
  simp at h
  obtain ⟨rfl, rfl⟩ := h
  rw [allocC]
  exact ((allocC_bel r (w.alloc (.cells c' t'))).block w.heap.size (by simp)).trans (heap_alloc_new _ _)
 | (c', t') :: r, w, k + 1, c, t, h => by
  have e := allocC_at r (w.alloc (.cells c' t')) k c t (by simpa using h)
  rw [allocC]
  have hz : (w.alloc (.cells c' t')).heap.size = w.heap.size + 1 := by simp
  rw [hz] at e
  rw [show w.heap.size + (k + 1) = w.heap.size + 1 + k by omega]
  exact e
structure SmV (d : VsD) : Prop where
 list : d.list.length ≤ 800
 fen : d.fen.length < 4096
 ses : d.ses.length = 4
 ws : ∀ s ∈ d.ses, s.ws.length ≤ 8
 nx : 1 ≤ d.next ∧ d.next ≤ 1000
abbrev repC (c t : Int) (v : ByteArray) (s : Sl) : Array Value := #[.int .i64 c, .int .i64 t, .string v, .slice s.a s.n s.c]
def StRes (l0 f0 s0 : Sl) (hs0 : List SeH) (d0 : VsD) (p : VsD × RepD) (w : World) (e : Ending) (w' : World) : Prop := ∃ l f s hs r, e = .returned (.tuple #[.agg (vzC p.1.next l f s), .agg (repC p.2.code p.2.time p.2.val r)]) ∧ ((l = l0 ∧ f = f0 ∧ s = s0 ∧ hs = hs0 ∧ p.1 = d0) ∨ VzOwn w' w.heap.size l f s hs p.1) ∧ EOwns w' w.heap.size (.slice r.a r.n r.c) p.2.list ∧ Below w.heap.size w w'
abbrev sv4 (w : World) (b : Nat) (v0 v1 v2 v3 : Value) : World := (((w.setCell ⟨b, 0, none⟩ v0).setCell ⟨b, 1, none⟩ v1).setCell ⟨b, 2, none⟩ v2).setCell ⟨b, 3, none⟩ v3
theorem sv4_wr (w : World) (b : Nat) (v0 v1 v2 v3 : Value) : WrB (fun i => i = b) w (sv4 w b v0 v1 v2 v3) := set4_wr w b v0 v1 v2 v3
theorem sv4_heap {w : World} {b : Nat} {u0 u1 u2 u3 : Value} {t : TypeId} (h : w.heap[b]? = some (.cells #[u0, u1, u2, u3] t (0, 0))) (v0 v1 v2 v3 : Value) : (sv4 w b v0 v1 v2 v3).heap[b]? = some (.cells #[v0, v1, v2, v3] t (0, 0)) := by
 have h1 := heap_set h 0 v0
 have h2 := heap_set h1 1 v1
 have h3 := heap_set h2 2 v2
 have h4 := heap_set h3 3 v3
 simpa using h4
theorem bel_sv4 {B b : Nat} {w u : World} (h : Below B w u) (hb : B ≤ b) (v0 v1 v2 v3 : Value) : Below B w (sv4 u b v0 v1 v2 v3) :=
 (((h.setCell (p := ⟨b, 0, none⟩) hb v0).setCell (p := ⟨b, 1, none⟩) hb v1).setCell (p := ⟨b, 2, none⟩) hb v2).setCell (p := ⟨b, 3, none⟩) hb v3
theorem st_old {w u : World} {d : VsD} {l f s : Sl} {hs : List SeH} {p : VsD × RepD} {c t : Int} (_hI : VzIn w l f s hs d) (hb : Below w.heap.size w u) (h : p = (d, repV c t)) : StRes l f s hs d p w (.returned (.tuple #[.agg (vzC d.next l f s), .agg #[.int .i64 c, .int .i64 t, .string ⟨#[]⟩, .slice none 0 0]])) u := by
 subst h
 exact ⟨l, f, s, hs, ⟨none, 0, 0⟩, rfl, .inl ⟨rfl, rfl, rfl, rfl, rfl⟩, World.ownsRow_nil _ _ _ _, hb⟩
theorem st_own {w u : World} {B : Nat} {d d0 : VsD} {l f s l0 f0 s0 : Sl} {hs hs0 : List SeH} {p : VsD × RepD} {c t : Int} (hO : VzOwn u B l f s hs d) (hB : w.heap.size ≤ B) (hb : Below w.heap.size w u) (h : p = (d, repV c t)) : StRes l0 f0 s0 hs0 d0 p w (.returned (.tuple #[.agg (vzC d.next l f s), .agg #[.int .i64 c, .int .i64 t, .string ⟨#[]⟩, .slice none 0 0]])) u := by
 subst h
 exact ⟨l, f, s, hs, ⟨none, 0, 0⟩, rfl, .inr (hO.dn hB), World.ownsRow_nil _ _ _ _, hb⟩
theorem VzOwn.sv {w : World} {B b : Nat} {l f s : Sl} {hs : List SeH} {d : VsD} (h : VzOwn w B l f s hs d) (hb : b < B) (v0 v1 v2 v3 : Value) : VzOwn (sv4 w b v0 v1 v2 v3) B l f s hs d := h.wr (sv4_wr w b v0 v1 v2 v3) (fun i e => by rw [e]; exact hb)
theorem VzOwn.box {w w' : World} {B b : Nat} {l f s : Sl} {hs : List SeH} {d : VsD} {cs : Array Value} {t : TypeId} (h : VzOwn w B l f s hs d) (hk : w.heap[b]? = some (.cells cs t (0, 0))) (h1 : 43 ≠ t) (h2 : 85 ≠ t) (h3 : 55 ≠ t) (hw : WrB (fun i => i = b) w w') : VzOwn w' B l f s hs d :=
 ⟨own_keep h.vo hk h1 hw, own_keep h.fo hk h2 hw, h.so.keep hw (fun i hi e => by subst e; exact se_box h.so hk h3 h1 hi), h.ss, h.far⟩
theorem VzOwn.apart {w w' : World} {B : Nat} {l f s : Sl} {hs : List SeH} {d : VsD} (h : VzOwn w B l f s hs d) {P : Nat → Prop} (hw : WrB P w w') (h1 : ∀ i, (Value.slice l.a l.n l.c).ownBlock = some i → ¬ P i) (h2 : ∀ i, (Value.slice f.a f.n f.c).ownBlock = some i → ¬ P i) (h3 : ∀ i, NBl (.slice s.a s.n s.c) (hs.map seEl) i → ¬ P i) : VzOwn w' B l f s hs d :=
 ⟨rr_owns_wr h.vo hw h1, rr_owns_wr h.fo hw h2, h.so.keep hw h3, h.ss, h.far⟩
theorem VzOwn.sesAt {u : World} {B : Nat} {l f s : Sl} {hs : List SeH} {d : VsD} (h : VzOwn u B l f s hs d) {i : Nat} (hi : i < hs.length) : ∃ g, s.a = some ⟨g, 0, none⟩ ∧ s.n = hs.length ∧ B ≤ g ∧ g < u.heap.size ∧ u.cell? ⟨g, i * 3, none⟩ = some (.bool hs[i].X.o) ∧ u.cell? ⟨g, i * 3 + 1, none⟩ = some (.int .i64 hs[i].X.t) ∧ u.cell? ⟨g, i * 3 + 2, none⟩ = some (.slice hs[i].s0.a hs[i].s0.n hs[i].s0.c) ∧ VOwns u B (.slice hs[i].s0.a hs[i].s0.n hs[i].s0.c) hs[i].X.ws ∧ ∃ hd : i < d.ses.length, hs[i].X = d.ses[i] := by
 have hne : Value.slice s.a s.n s.c ≠ .slice none 0 0 := fun e => by
  have h1 := h.so.row.2
  rw [e] at h1
  rcases h1 with ⟨_, h1⟩ | ⟨_, _, _, h1, _⟩
  ·omega
  ·cases h1
 obtain ⟨g, c, e, hB, hg, hc⟩ := owns_form h.so.row hne
 obtain ⟨sa, sn, sc⟩ := s
 injection e with e1 e2 e3
 subst e1 e2 e3
 have hel : (hs.map seEl)[i]? = some (seEl hs[i]) := seEl_at hi
 refine ⟨g, rfl, rfl, hB, hg, ?_, h.so.cell hel (j := 1) rfl, h.so.cell hel (j := 2) rfl, h.so.dat i 0 _ (by unfold sbAt; rw [hel]; rfl), h.reads.at hi⟩
 have := h.so.cell hel (j := 0) rfl
 simpa using this
theorem VzOwn.put {u : World} {B : Nat} {l f s : Sl} {hs : List SeH} {d : VsD} (h : VzOwn u B l f s hs d) {i : Nat} (hi : i < hs.length) (x : SeH) (ho : VOwns u B (.slice x.s0.a x.s0.n x.s0.c) x.X.ws) (hap : ∀ g, (Value.slice x.s0.a x.s0.n x.s0.c).ownBlock = some g → ¬ NBl (.slice s.a s.n s.c) (hs.map seEl) g ∧ (Value.slice l.a l.n l.c).ownBlock ≠ some g) :
  ∃ g, s.a = some ⟨g, 0, none⟩ ∧ B ≤ g ∧ (u.cell? ⟨g, i * 3, none⟩ = some (.bool hs[i].X.o) ∧ u.cell? ⟨g, i * 3 + 1, none⟩ = some (.int .i64 hs[i].X.t) ∧ u.cell? ⟨g, i * 3 + 2, none⟩ = some (.slice hs[i].s0.a hs[i].s0.n hs[i].s0.c)) ∧ (∀ j, u.frozen? ⟨g, j, none⟩ = false) ∧
   VzOwn (((u.setCell ⟨g, i * 3, none⟩ (.bool x.X.o)).setCell ⟨g, i * 3 + 1, none⟩ (.int .i64 x.X.t)).setCell ⟨g, i * 3 + 1 + 1, none⟩ (.slice x.s0.a x.s0.n x.s0.c)) B l f s (hs.set i x) ⟨d.next, d.list, d.fen, d.ses.set i x.X⟩ ∧
   WrB (fun k => k = g) u (((u.setCell ⟨g, i * 3, none⟩ (.bool x.X.o)).setCell ⟨g, i * 3 + 1, none⟩ (.int .i64 x.X.t)).setCell ⟨g, i * 3 + 1 + 1, none⟩ (.slice x.s0.a x.s0.n x.s0.c)) ∧ (∃ cur, u.heap[g]? = some (.cells cur 55 (0, 0))) := by
 have hne : Value.slice s.a s.n s.c ≠ .slice none 0 0 := fun e => by
  have h1 := h.so.row.2
  rw [e] at h1
  rcases h1 with ⟨_, h1⟩ | ⟨_, _, _, h1, _⟩
  ·omega
  ·cases h1
 obtain ⟨g, c, e, hB, hg, hc⟩ := owns_form h.so.row hne
 obtain ⟨sa, sn, sc⟩ := s
 injection e with e1 e2 e3
 subst e1 e2 e3
 have hki := own_kind h.so.row (i := g) rfl
 have hel : (hs.map seEl)[i]? = some (seEl hs[i]) := seEl_at hi
 have hil : i < (hs.map seEl).length := by rw [List.length_map]; exact hi
 have h1 := h.so.addAp (xs := (seEl x).sb) hel (fun y hy => by rw [List.mem_singleton.1 hy]; exact ho) (fun y hy g' hg' => by rw [List.mem_singleton.1 hy] at hg'; exact (hap g' hg').1) (by
  intro a b y z hy hz hne g' h1 h2
  match a, b, hy, hz, hne with
  | 0, 0, _, _, h => exact absurd rfl h
  | a + 1, _, hy, _, _ => cases hy
  | 0, b + 1, _, hz, _ => cases hz)
 have h2 := NOwn.store (seEl x).hd (seEl hs[i]).hd [] h1 (List.getElem?_set_self hil) rfl
 rw [List.set_set] at h2
 have hW : WrB (fun k => k = g) u (((u.setCell ⟨g, i * 3, none⟩ (.bool x.X.o)).setCell ⟨g, i * 3 + 1, none⟩ (.int .i64 x.X.t)).setCell ⟨g, i * 3 + 1 + 1, none⟩ (.slice x.s0.a x.s0.n x.s0.c)) := (set1_wr _ _ _ _).seq ((set1_wr _ _ _ _).seq (set1_wr _ _ _ _))
 have hN : SeOwn (((u.setCell ⟨g, i * 3, none⟩ (.bool x.X.o)).setCell ⟨g, i * 3 + 1, none⟩ (.int .i64 x.X.t)).setCell ⟨g, i * 3 + 1 + 1, none⟩ (.slice x.s0.a x.s0.n x.s0.c)) B (.slice (some ⟨g, 0, none⟩) hs.length sc) (hs.set i x) := by
  unfold SeOwn
  rw [List.map_set, List.length_set]
  exact h2
 refine ⟨g, rfl, hB, ⟨?_, ?_, ?_⟩, fun j => h.so.free j, ⟨rr_owns_wr h.vo hW (fun k hk e => by subst e; exact h.far k hk (.inl rfl)), rr_owns_wr h.fo hW (fun k hk e => own_other h.fo h.so.row (by decide) hk (by rw [e]; rfl)), hN, by rw [List.map_set, h.ss], fun k hk hn => ?_⟩, hW, hki⟩
 ·have := h.so.cell hel (j := 0) rfl
  simpa using this
 ·exact h.so.cell hel (j := 1) rfl
 ·exact h.so.cell hel (j := 2) rfl
 ·rcases hn with hn | ⟨k', a, y, hy, hn⟩
  ·exact h.far k hk (.inl hn)
  ·rw [List.map_set] at hy
   rw [sbAt_set hil] at hy
   by_cases hki' : k' = i
   ·rw [if_pos hki'] at hy
    have h2 : y.v = .slice x.s0.a x.s0.n x.s0.c := by
     match a, hy with
     | 0, hy => injection hy with hy; rw [← hy]
     | a + 1, hy => cases hy
    rw [h2] at hn
    exact (hap k hn).2 hk
   ·rw [if_neg hki'] at hy
    exact h.far k hk (.inr ⟨k', a, y, hy, hn⟩)
theorem f_app1 {w : World} {B : Nat} {v : Value} {ds : List FenD} (d : FenD) (ho : FOwns w B v ds) (hz : ds.length ≤ 1000000) (hB : B ≤ w.heap.size) :
  ∃ f' : Sl, ∃ w', (Builtin.append_ #[26, 26] 26 #[v, .slice (some ⟨w.heap.size, 0, none⟩) 1 1]).run Tryz.prog (w.alloc (.cells #[.string d.f, .string d.u, .int .i64 d.t] 85)) = .ok (.slice f'.a f'.n f'.c) w' ∧ FOwns w' B (.slice f'.a f'.n f'.c) (ds ++ [d]) ∧ (w.alloc (.cells #[.string d.f, .string d.u, .int .i64 d.t] 85)).grownBy w' v.ownBlock := by
 obtain ⟨i0, hi0, hz0, hz1, hz2⟩ := info_parts Tryz.infoFence
 have hoa := World.ownsRow.alloc ho (.cells #[.string d.f, .string d.u, .int .i64 d.t] 85)
 obtain ⟨v', w', hrun, ho', hg, hnil, -⟩ := app_at (P := Tryz.prog) (w := w.alloc (.cells #[.string d.f, .string d.u, .int .i64 d.t] 85)) (B := B) 26 26 85 Tryz.underlying26 hi0 hz0 hz1 hz2 rfl (by decide) hoa ⟨w.heap.size, 0, none⟩ 1 1 (fcs [d]) (by simp [fcs]) (frow_src (frow_one w d)) (fcs_one _) (by unfold maxLen; omega) (by omega) (by simp; omega) (fun _ => by omega)
 obtain ⟨f', rfl, -⟩ := v_slice ho'
 exact ⟨f', w', hrun, by unfold FOwns; rw [List.length_append, fcs_append]; exact ho', hg⟩
set_option maxHeartbeats 8000000 in
theorem l06Fence_any (B : Nat) (d : VsD) (l f s : Sl) (hs : List SeH) (x : FenD) (p : RepD) (pl : Sl) (wn : Int) (wl wf ws : Sl) (w : World) (hO : VzOwn w B l f s hs d) (hB : B ≤ w.heap.size) (hf : d.fen.length < 4096) :
  Calls Tryz.prog 78 #[.agg (vzC wn wl wf ws), .agg (vzC d.next l f s), fv x, .agg (repC p.code p.time p.val pl)] w fun e w' => ∃ f' : Sl, e = .returned (.tuple #[.agg (vzC d.next l f' s), .agg (repC p.code p.time p.val pl)]) ∧ VzOwn w' B l f' s hs ⟨d.next, d.list, d.fen ++ [x], d.ses⟩ ∧ Below B w w' ∧ WrB (fun i => (Value.slice f.a f.n f.c).ownBlock = some i) w w' := by
 obtain ⟨W, hW⟩ : ∃ W, W = allocC w [(vzC wn wl wf ws, 29), (vzC d.next l f s, 29), (#[.string x.f, .string x.u, .int .i64 x.t], 85), (repC p.code p.time p.val pl, 40), (#[.int .i64 0, .slice none 0 0, .slice none 0 0, .slice none 0 0], 29), (#[.int .i64 0, .int .i64 0, .string ⟨#[]⟩, .slice none 0 0], 40)] := ⟨_, rfl⟩
 have hz := allocC_size [(vzC wn wl wf ws, 29), (vzC d.next l f s, 29), (#[.string x.f, .string x.u, .int .i64 x.t], 85), (repC p.code p.time p.val pl, 40), (#[.int .i64 0, .slice none 0 0, .slice none 0 0, .slice none 0 0], 29), (#[.int .i64 0, .int .i64 0, .string ⟨#[]⟩, .slice none 0 0], 40)] w
 have b1 := allocC_bel [(vzC wn wl wf ws, 29), (vzC d.next l f s, 29), (#[.string x.f, .string x.u, .int .i64 x.t], 85), (repC p.code p.time p.val pl, 40), (#[.int .i64 0, .slice none 0 0, .slice none 0 0, .slice none 0 0], 29), (#[.int .i64 0, .int .i64 0, .string ⟨#[]⟩, .slice none 0 0], 40)] w
 have AT := allocC_at [(vzC wn wl wf ws, 29), (vzC d.next l f s, 29), (#[.string x.f, .string x.u, .int .i64 x.t], 85), (repC p.code p.time p.val pl, 40), (#[.int .i64 0, .slice none 0 0, .slice none 0 0, .slice none 0 0], 29), (#[.int .i64 0, .int .i64 0, .string ⟨#[]⟩, .slice none 0 0], 40)] w
 rw [← hW] at hz b1 AT
 have k1 : W.heap[w.heap.size + 1]? = some (.cells (vzC d.next l f s) 29 (0, 0)) := AT 1 _ _ rfl
 have k2 : W.heap[w.heap.size + 1 + 1]? = some (.cells #[.string x.f, .string x.u, .int .i64 x.t] 85 (0, 0)) := AT 2 _ _ rfl
 have k3 : W.heap[w.heap.size + 1 + 1 + 1]? = some (.cells (repC p.code p.time p.val pl) 40 (0, 0)) := AT 3 _ _ rfl
 have k4 : W.heap[w.heap.size + 1 + 1 + 1 + 1]? = some (.cells #[.int .i64 0, .slice none 0 0, .slice none 0 0, .slice none 0 0] 29 (0, 0)) := AT 4 _ _ rfl
 have k5 : W.heap[w.heap.size + 1 + 1 + 1 + 1 + 1]? = some (.cells #[.int .i64 0, .int .i64 0, .string ⟨#[]⟩, .slice none 0 0] 40 (0, 0)) := AT 5 _ _ rfl
 simp only [List.length_cons, List.length_nil] at hz
 have hfl : f.n = d.fen.length := owns_n hO.fo
 have hW2 : W = _ := hW
 unfold allocC allocC allocC allocC allocC allocC allocC at hW2
 have OW := hO.below b1
 obtain ⟨fs, w3, hr, ho, hg⟩ := f_app1 x OW.fo (by omega) (Nat.le_trans hB b1.size)
 have bA : Below W.heap.size W (W.alloc (.cells #[.string x.f, .string x.u, .int .i64 x.t] 85)) := (Below.refl _ _).alloc (Nat.le_refl _) _
 have OA := OW.below bA
 have hg' := WrB.of_grown hg
 have OA3 : VzOwn w3 B l fs s hs ⟨d.next, d.list, d.fen ++ [x], d.ses⟩ := ⟨rr_owns_wr OA.vo hg' (fun i hi => own_other OA.vo OA.fo (by decide) hi), ho, OA.so.keep hg' (fun i hi e => by
   rcases hi with hi | ⟨k, a, y, hy, hi⟩
   ·exact own_other OA.so.row OA.fo (by decide) hi e
   ·have hd := OA.so.dat k a y hy
    have ht : y.t = 43 := by
     obtain ⟨z, hz, hyz⟩ := sbAt_mem hy
     obtain ⟨q, _, rfl⟩ := List.mem_map.1 hz
     rw [List.mem_singleton.1 hyz]
    rw [ht] at hd
    exact own_other hd OA.fo (by decide) hi e), OA.ss, OA.far⟩
 have fw : ∀ i, (Value.slice f.a f.n f.c).ownBlock = some i → B ≤ i ∧ i < w.heap.size := fun i hi => hO.fo.lt i hi
 have B3 : ∀ i, i < W.heap.size → (Value.slice f.a f.n f.c).ownBlock ≠ some i → w3.heap[i]? = W.heap[i]? := fun i h1 h2 => (hg'.block i (Nat.lt_of_lt_of_le h1 bA.size) h2).trans (bA.block i h1)
 have new : ∀ i, w.heap.size ≤ i → (Value.slice f.a f.n f.c).ownBlock ≠ some i := fun i h e => by have := (fw i e).2; omega
 have s3 : W.heap.size ≤ w3.heap.size := Nat.le_trans bA.size hg.size
 have q1 := (B3 _ (by omega) (new _ (by omega))).trans k1
 have q2 := (B3 _ (by omega) (new _ (by omega))).trans k2
 have q3 := (B3 _ (by omega) (new _ (by omega))).trans k3
 have q4 := (B3 _ (by omega) (new _ (by omega))).trans k4
 have q5 := (B3 _ (by omega) (new _ (by omega))).trans k5
 have m1 : (w3.setCell ⟨w.heap.size + 1, 2, none⟩ (.slice fs.a fs.n fs.c)).heap[w.heap.size + 1]? = some (.cells (vzC d.next l fs s) 29 (0, 0)) := by have := heap_set q1 2 (.slice fs.a fs.n fs.c); simpa using this
 have hS := set1_wr w3 (w.heap.size + 1) 2 (.slice fs.a fs.n fs.c)
 have m3 := (hS.block _ (blk_lt q3) (by omega)).trans q3
 have m4 := (hS.block _ (blk_lt q4) (by omega)).trans q4
 have m5 := (hS.block _ (blk_lt q5) (by omega)).trans q5
 have O4 := OA3.box q1 (by decide) (by decide) (by decide) hS
 have WW : WrB (fun i => (Value.slice f.a f.n f.c).ownBlock = some i) w (w3.setCell ⟨w.heap.size + 1, 2, none⟩ (.slice fs.a fs.n fs.c)) := ⟨hS.os.trans (hg'.os.trans (bA.os.trans b1.os)), hS.tape.trans (hg'.tape.trans (bA.tape.trans b1.tape)), hS.output.trans (hg'.output.trans (bA.output.trans b1.output)), Nat.le_trans (Nat.le_trans b1.size s3) hS.size, fun i h1 h2 => (hS.block i (Nat.lt_of_lt_of_le h1 (Nat.le_trans b1.size s3)) (by omega)).trans ((B3 i (Nat.lt_of_lt_of_le h1 b1.size) h2).trans (b1.block i h1))⟩
 have M1 := hide m1
 have M3 := hide m3
 have M4 := hide m4
 have M5 := hide m5
 have OH := hide O4
 have WH := hide WW
 have SZ := hide (show w.heap.size + 1 + 1 + 1 + 1 + 1 < (w3.setCell ⟨w.heap.size + 1, 2, none⟩ (.slice fs.a fs.n fs.c)).heap.size from blk_lt m5)
 have y0 := (heap_at q1 2).1
 have f0 := (heap_at q1 2).2
 have z2 := (heap_at k1 2).1
 have x0 := (heap_at k2 0).1
 have x1 := (heap_at k2 1).1
 have x2 := (heap_at k2 2).1
 have HB := hide hB
 have FW := hide fw
 clear k1 k2 k3 k4 k5 q1 q2 q3 q4 q5 m1 m3 m4 m5 O4 WW hS OA OA3 OW hg hg' ho B3 new AT b1 hO bA hW fw s3
 obtain ⟨la, ln, lc⟩ := l
 obtain ⟨fa, fn, fc⟩ := f
 obtain ⟨sa, sn, sc⟩ := s
 obtain ⟨fsa, fsn, fsc⟩ := fs
 obtain ⟨pla, pln, plc⟩ := pl
 obtain ⟨wla, wln, wlc⟩ := wl
 obtain ⟨wfa, wfn, wfc⟩ := wf
 obtain ⟨wsa, wsn, wsc⟩ := ws
 unfold vzC repC at *
 unfold fv
 simp only at hr y0 M1 M3 OH WH z2 hfl SZ hW2 ⊢
 have hne : ((fn : Int) == 4096) = false := by
  have : ¬ (fn : Int) = 4096 := by omega
  simpa using this
 have hne2 : ¬ (fn : Int) = 4096 := by omega
 clear hfl hf hz
 go_enter Tryz.func78, Tryz.ntmps78
 go_upto_region 3 with fail
 rw [← hW2]
 clear hW2
 go_upto_region 4 with (at_builtin; refine ky_wpApp rfl (.tmp 19) (.tmp 21) 26 rfl _ _ _ w3 rfl rfl hr ?_)
 generalize w3.setCell ⟨w.heap.size + 1, 2, none⟩ (.slice fsa fsn fsc) = u at *
 clear hr y0 f0 z2 x0 x1 x2
 have SK := hide (show ∀ v : World, (∀ i, i ≤ w.heap.size + 1 + 1 + 1 → v.heap[i]? = u.heap[i]?) → (fun u => u.cell? ⟨w.heap.size + 1, 0, none⟩ = some (.int .i64 d.next) ∧ u.cell? ⟨w.heap.size + 1, 1, none⟩ = some (.slice la ln lc) ∧ u.cell? ⟨w.heap.size + 1, 2, none⟩ = some (.slice fsa fsn fsc) ∧ u.cell? ⟨w.heap.size + 1, 3, none⟩ = some (.slice sa sn sc) ∧ u.cell? ⟨w.heap.size + 1 + 1 + 1, 0, none⟩ = some (.int .i64 p.code) ∧ u.cell? ⟨w.heap.size + 1 + 1 + 1, 1, none⟩ = some (.int .i64 p.time) ∧ u.cell? ⟨w.heap.size + 1 + 1 + 1, 2, none⟩ = some (.string p.val) ∧ u.cell? ⟨w.heap.size + 1 + 1 + 1, 3, none⟩ = some (.slice pla pln plc)) v from fun v hv => by
  have a1 := (hv (w.heap.size + 1) (by omega)).trans (unhide M1)
  have a3 := (hv (w.heap.size + 1 + 1 + 1) (by omega)).trans (unhide M3)
  exact ⟨(heap_at a1 0).1, (heap_at a1 1).1, (heap_at a1 2).1, (heap_at a1 3).1, (heap_at a3 0).1, (heap_at a3 1).1, (heap_at a3 2).1, (heap_at a3 3).1⟩)
 have D0 := hide (show ∀ i, i ≤ w.heap.size + 1 + 1 + 1 → u.drew.heap[i]? = u.heap[i]? from fun _ _ => rfl)
 have N4 := hide (show u.drew.heap[w.heap.size + 1 + 1 + 1 + 1]? = _ from unhide M4)
 have N5 := hide (show u.drew.heap[w.heap.size + 1 + 1 + 1 + 1 + 1]? = _ from unhide M5)
 have OD := hide ((unhide OH).below (Below.refl u.heap.size u).drew)
 have WD := hide (show WrB (fun i => (Value.slice fa fn fc).ownBlock = some i) w u.drew from ⟨(unhide WH).os, (unhide WH).tape, (unhide WH).output, (unhide WH).size, (unhide WH).block⟩)
 refine wp_region_held_drew (S := (fun u => u.cell? ⟨w.heap.size + 1, 0, none⟩ = some (.int .i64 d.next) ∧ u.cell? ⟨w.heap.size + 1, 1, none⟩ = some (.slice la ln lc) ∧ u.cell? ⟨w.heap.size + 1, 2, none⟩ = some (.slice fsa fsn fsc) ∧ u.cell? ⟨w.heap.size + 1, 3, none⟩ = some (.slice sa sn sc) ∧ u.cell? ⟨w.heap.size + 1 + 1 + 1, 0, none⟩ = some (.int .i64 p.code) ∧ u.cell? ⟨w.heap.size + 1 + 1 + 1, 1, none⟩ = some (.int .i64 p.time) ∧ u.cell? ⟨w.heap.size + 1 + 1 + 1, 2, none⟩ = some (.string p.val) ∧ u.cell? ⟨w.heap.size + 1 + 1 + 1, 3, none⟩ = some (.slice pla pln plc))) (by kernel_rfl) (unhide SK _ (unhide D0)) (fun hHeld => ?_)
 generalize u.drew = ud at *
 refine tk 0 24 rfl rfl hHeld ?_
 simp only [Act.put, lA, lB, lC]
 refine tk 1 25 rfl rfl hHeld ?_
 simp only [Act.put, lA, lB, lC]
 refine rd [2] (.cons rfl (fun K hK => ?_) .nil)
 have c0 := (heap_at (unhide N4) 0).1
 have c1 := (heap_at (unhide N4) 1).1
 have c2 := (heap_at (unhide N4) 2).1
 have c3 := (heap_at (unhide N4) 3).1
 have cf0 := (heap_at (unhide N4) 0).2
 have cf1 := (heap_at (unhide N4) 1).2
 have cf2 := (heap_at (unhide N4) 2).2
 have cf3 := (heap_at (unhide N4) 3).2
 have hw : WrB (fun i => i = w.heap.size + 1 + 1 + 1 + 1) ud ((((ud.setCell ⟨w.heap.size + 1 + 1 + 1 + 1, 0, none⟩ (.int .i64 d.next)).setCell ⟨w.heap.size + 1 + 1 + 1 + 1, 1, none⟩ (.slice la ln lc)).setCell ⟨w.heap.size + 1 + 1 + 1 + 1, 2, none⟩ (.slice fsa fsn fsc)).setCell ⟨w.heap.size + 1 + 1 + 1 + 1, 3, none⟩ (.slice sa sn sc)) := sv4_wr ud (w.heap.size + 1 + 1 + 1 + 1) (.int .i64 d.next) (.slice la ln lc) (.slice fsa fsn fsc) (.slice sa sn sc)
 have E5 := hide ((hw.block (w.heap.size + 1 + 1 + 1 + 1 + 1) (blk_lt (unhide N5)) (by omega)).trans (unhide N5))
 have D1 := hide (show ∀ i, i ≤ w.heap.size + 1 + 1 + 1 → ((((ud.setCell ⟨w.heap.size + 1 + 1 + 1 + 1, 0, none⟩ (.int .i64 d.next)).setCell ⟨w.heap.size + 1 + 1 + 1 + 1, 1, none⟩ (.slice la ln lc)).setCell ⟨w.heap.size + 1 + 1 + 1 + 1, 2, none⟩ (.slice fsa fsn fsc)).setCell ⟨w.heap.size + 1 + 1 + 1 + 1, 3, none⟩ (.slice sa sn sc)).heap[i]? = u.heap[i]? from fun i hi => (hw.block i (by have := blk_lt (unhide N4); omega) (by omega)).trans (unhide D0 i hi))
 have K1 := hide (show ((((ud.setCell ⟨w.heap.size + 1 + 1 + 1 + 1, 0, none⟩ (.int .i64 d.next)).setCell ⟨w.heap.size + 1 + 1 + 1 + 1, 1, none⟩ (.slice la ln lc)).setCell ⟨w.heap.size + 1 + 1 + 1 + 1, 2, none⟩ (.slice fsa fsn fsc)).setCell ⟨w.heap.size + 1 + 1 + 1 + 1, 3, none⟩ (.slice sa sn sc)).heap[w.heap.size + 1 + 1 + 1 + 1]? = some (.cells #[.int .i64 d.next, .slice la ln lc, .slice fsa fsn fsc, .slice sa sn sc] 29 (0, 0)) from sv4_heap (unhide N4) (.int .i64 d.next) (.slice la ln lc) (.slice fsa fsn fsc) (.slice sa sn sc))
 have O1 := hide (show VzOwn ((((ud.setCell ⟨w.heap.size + 1 + 1 + 1 + 1, 0, none⟩ (.int .i64 d.next)).setCell ⟨w.heap.size + 1 + 1 + 1 + 1, 1, none⟩ (.slice la ln lc)).setCell ⟨w.heap.size + 1 + 1 + 1 + 1, 2, none⟩ (.slice fsa fsn fsc)).setCell ⟨w.heap.size + 1 + 1 + 1 + 1, 3, none⟩ (.slice sa sn sc)) B ⟨la, ln, lc⟩ ⟨fsa, fsn, fsc⟩ ⟨sa, sn, sc⟩ hs ⟨d.next, d.list, d.fen ++ [x], d.ses⟩ from (unhide OD).box (unhide N4) (by decide) (by decide) (by decide) hw)
 have W1 := hide (show WrB (fun i => (Value.slice fa fn fc).ownBlock = some i) w ((((ud.setCell ⟨w.heap.size + 1 + 1 + 1 + 1, 0, none⟩ (.int .i64 d.next)).setCell ⟨w.heap.size + 1 + 1 + 1 + 1, 1, none⟩ (.slice la ln lc)).setCell ⟨w.heap.size + 1 + 1 + 1 + 1, 2, none⟩ (.slice fsa fsn fsc)).setCell ⟨w.heap.size + 1 + 1 + 1 + 1, 3, none⟩ (.slice sa sn sc)) from ⟨hw.os.trans (unhide WD).os, hw.tape.trans (unhide WD).tape, hw.output.trans (unhide WD).output, Nat.le_trans (unhide WD).size hw.size, fun i h1 h2 => (hw.block i (Nat.lt_of_lt_of_le h1 (unhide WD).size) (by omega)).trans ((unhide WD).block i h1 h2)⟩)
 clear hw
 go_simp
 skip
 refine hK.out _ _ (unhide SK _ (unhide D1)) (fun hHeld => ?_)
 clear hK K
 clear c0 c1 c2 c3 cf0 cf1 cf2 cf3
 generalize (((ud.setCell ⟨w.heap.size + 1 + 1 + 1 + 1, 0, none⟩ (.int .i64 d.next)).setCell ⟨w.heap.size + 1 + 1 + 1 + 1, 1, none⟩ (.slice la ln lc)).setCell ⟨w.heap.size + 1 + 1 + 1 + 1, 2, none⟩ (.slice fsa fsn fsc)).setCell ⟨w.heap.size + 1 + 1 + 1 + 1, 3, none⟩ (.slice sa sn sc) = ue at *
 refine rd [3] (.cons rfl (fun K hK => ?_) .nil)
 have c0 := (heap_at (unhide E5) 0).1
 have c1 := (heap_at (unhide E5) 1).1
 have c2 := (heap_at (unhide E5) 2).1
 have c3 := (heap_at (unhide E5) 3).1
 have cf0 := (heap_at (unhide E5) 0).2
 have cf1 := (heap_at (unhide E5) 1).2
 have cf2 := (heap_at (unhide E5) 2).2
 have cf3 := (heap_at (unhide E5) 3).2
 have hw : WrB (fun i => i = w.heap.size + 1 + 1 + 1 + 1 + 1) ue ((((ue.setCell ⟨w.heap.size + 1 + 1 + 1 + 1 + 1, 0, none⟩ (.int .i64 p.code)).setCell ⟨w.heap.size + 1 + 1 + 1 + 1 + 1, 1, none⟩ (.int .i64 p.time)).setCell ⟨w.heap.size + 1 + 1 + 1 + 1 + 1, 2, none⟩ (.string p.val)).setCell ⟨w.heap.size + 1 + 1 + 1 + 1 + 1, 3, none⟩ (.slice pla pln plc)) := sv4_wr ue (w.heap.size + 1 + 1 + 1 + 1 + 1) (.int .i64 p.code) (.int .i64 p.time) (.string p.val) (.slice pla pln plc)
 have D2 := hide (show ∀ i, i ≤ w.heap.size + 1 + 1 + 1 → ((((ue.setCell ⟨w.heap.size + 1 + 1 + 1 + 1 + 1, 0, none⟩ (.int .i64 p.code)).setCell ⟨w.heap.size + 1 + 1 + 1 + 1 + 1, 1, none⟩ (.int .i64 p.time)).setCell ⟨w.heap.size + 1 + 1 + 1 + 1 + 1, 2, none⟩ (.string p.val)).setCell ⟨w.heap.size + 1 + 1 + 1 + 1 + 1, 3, none⟩ (.slice pla pln plc)).heap[i]? = u.heap[i]? from fun i hi => (hw.block i (by have := blk_lt (unhide E5); omega) (by omega)).trans (unhide D1 i hi))
 have K2 := hide (show ((((ue.setCell ⟨w.heap.size + 1 + 1 + 1 + 1 + 1, 0, none⟩ (.int .i64 p.code)).setCell ⟨w.heap.size + 1 + 1 + 1 + 1 + 1, 1, none⟩ (.int .i64 p.time)).setCell ⟨w.heap.size + 1 + 1 + 1 + 1 + 1, 2, none⟩ (.string p.val)).setCell ⟨w.heap.size + 1 + 1 + 1 + 1 + 1, 3, none⟩ (.slice pla pln plc)).heap[w.heap.size + 1 + 1 + 1 + 1 + 1]? = some (.cells #[.int .i64 p.code, .int .i64 p.time, .string p.val, .slice pla pln plc] 40 (0, 0)) from sv4_heap (unhide E5) (.int .i64 p.code) (.int .i64 p.time) (.string p.val) (.slice pla pln plc))
 have K1b := hide ((hw.block (w.heap.size + 1 + 1 + 1 + 1) (blk_lt (unhide K1)) (by omega)).trans (unhide K1))
 have O2 := hide (show VzOwn ((((ue.setCell ⟨w.heap.size + 1 + 1 + 1 + 1 + 1, 0, none⟩ (.int .i64 p.code)).setCell ⟨w.heap.size + 1 + 1 + 1 + 1 + 1, 1, none⟩ (.int .i64 p.time)).setCell ⟨w.heap.size + 1 + 1 + 1 + 1 + 1, 2, none⟩ (.string p.val)).setCell ⟨w.heap.size + 1 + 1 + 1 + 1 + 1, 3, none⟩ (.slice pla pln plc)) B ⟨la, ln, lc⟩ ⟨fsa, fsn, fsc⟩ ⟨sa, sn, sc⟩ hs ⟨d.next, d.list, d.fen ++ [x], d.ses⟩ from (unhide O1).box (unhide E5) (by decide) (by decide) (by decide) hw)
 have W2 := hide (show WrB (fun i => (Value.slice fa fn fc).ownBlock = some i) w ((((ue.setCell ⟨w.heap.size + 1 + 1 + 1 + 1 + 1, 0, none⟩ (.int .i64 p.code)).setCell ⟨w.heap.size + 1 + 1 + 1 + 1 + 1, 1, none⟩ (.int .i64 p.time)).setCell ⟨w.heap.size + 1 + 1 + 1 + 1 + 1, 2, none⟩ (.string p.val)).setCell ⟨w.heap.size + 1 + 1 + 1 + 1 + 1, 3, none⟩ (.slice pla pln plc)) from ⟨hw.os.trans (unhide W1).os, hw.tape.trans (unhide W1).tape, hw.output.trans (unhide W1).output, Nat.le_trans (unhide W1).size hw.size, fun i h1 h2 => (hw.block i (Nat.lt_of_lt_of_le h1 (unhide W1).size) (by omega)).trans ((unhide W1).block i h1 h2)⟩)
 clear hw
 go_simp
 refine hK.out _ _ (unhide SK _ (unhide D2)) (fun hHeld => ?_)
 clear hK K
 clear c0 c1 c2 c3 cf0 cf1 cf2 cf3
 generalize (((ue.setCell ⟨w.heap.size + 1 + 1 + 1 + 1 + 1, 0, none⟩ (.int .i64 p.code)).setCell ⟨w.heap.size + 1 + 1 + 1 + 1 + 1, 1, none⟩ (.int .i64 p.time)).setCell ⟨w.heap.size + 1 + 1 + 1 + 1 + 1, 2, none⟩ (.string p.val)).setCell ⟨w.heap.size + 1 + 1 + 1 + 1 + 1, 3, none⟩ (.slice pla pln plc) = ug at *
 refine wpAnyH_done (by kernel_rfl) ?_ _
 have r0 := (heap_at (unhide K1b) 0).1
 have r1 := (heap_at (unhide K1b) 1).1
 have r2 := (heap_at (unhide K1b) 2).1
 have r3 := (heap_at (unhide K1b) 3).1
 have t0 := (heap_at (unhide K2) 0).1
 have t1 := (heap_at (unhide K2) 1).1
 have t2 := (heap_at (unhide K2) 2).1
 have t3 := (heap_at (unhide K2) 3).1
 have RES := hide (show ∃ f' : Sl, Ending.returned (.tuple #[.agg #[.int .i64 d.next, .slice la ln lc, .slice fsa fsn fsc, .slice sa sn sc], .agg #[.int .i64 p.code, .int .i64 p.time, .string p.val, .slice pla pln plc]]) = .returned (.tuple #[.agg #[.int .i64 d.next, .slice la ln lc, .slice f'.a f'.n f'.c, .slice sa sn sc], .agg #[.int .i64 p.code, .int .i64 p.time, .string p.val, .slice pla pln plc]]) ∧ VzOwn ug B ⟨la, ln, lc⟩ f' ⟨sa, sn, sc⟩ hs ⟨d.next, d.list, d.fen ++ [x], d.ses⟩ ∧ Below B w ug ∧ WrB (fun i => (Value.slice fa fn fc).ownBlock = some i) w ug from ⟨⟨fsa, fsn, fsc⟩, rfl, unhide O2, WrB.below (unhide W2) (fun i hi => (unhide FW i hi).1) (unhide HB), unhide W2⟩)
 clear hHeld SK D0 N4 N5 OD WD K1 K1b K2 O1 O2 W1 W2 D1 D2
 go_wp2_with fail
 refine bodyPost_ret (v := .tuple #[.agg #[.int .i64 d.next, .slice la ln lc, .slice fsa fsn fsc, .slice sa sn sc], .agg #[.int .i64 p.code, .int .i64 p.time, .string p.val, .slice pla pln plc]]) (by simp [results, Tryz.results78, go_sem, *]) rfl ?_
 exact unhide RES
end Go.Proofs.YtdnjgbckkmbmfaaGreat

namespace Go.Proofs.YtdnjgbckkmbmfaaGreat
open Go.RowKit

def seR (h : SeH) : SesR := ⟨h.X.o, h.X.t, h.s0⟩
theorem vs_of_vz {w : World} {l f s : Sl} {hs : List SeH} {d : VsD} (h : VzIn w l f s hs d) : VsAt w l f s (hs.map seR) d := by
 refine ⟨h.vr, h.fr, ⟨by rw [List.length_map]; exact h.len.1, fun i hi => ?_⟩, ⟨by rw [List.length_map]; exact h.len.2, fun i h1 h2 => ?_⟩⟩
 ·rw [List.length_map] at hi
  obtain ⟨b, off, e, _, c0, c1, c2⟩ := SeIn.cells h.sr hi
  refine ⟨b, off, e, ?_, ?_, ?_⟩
  ·rw [List.getElem_map]; exact c0
  ·rw [List.getElem_map]; exact c1
  ·rw [List.getElem_map]; exact c2
 ·rw [List.length_map] at h1
  obtain ⟨hd, he⟩ := h.at h1
  have hr := SeIn.row h.sr h1
  rw [List.getElem_map, ← he]
  exact ⟨rfl, rfl, hr⟩
end Go.Proofs.YtdnjgbckkmbmfaaGreat

namespace Go.Proofs.YtdnjgbckkmbmfaaGreat
open Go.RowKit

end Go.Proofs.YtdnjgbckkmbmfaaGreat

namespace Go.Proofs.YtdnjgbckkmbmfaaGreat
open Go.RowKit

end Go.Proofs.YtdnjgbckkmbmfaaGreat

namespace Go.Proofs.YtdnjgbckkmbmfaaGreat
open Go.RowKit

theorem strowns_form {w : World} {B n c : Nat} {a : Option Addr} {es : List ByteArray} (h : StrOwns w B (.slice a n c) es) (h0 : 0 < es.length) : ∃ g cur, a = some ⟨g, 0, none⟩ ∧ n = es.length ∧ B ≤ g ∧ w.heap[g]? = some (.cells cur 9 (0, 0)) ∧ n ≤ c ∧ c ≤ maxLen ∧ cur.size = c * 1 ∧ cur.toList.take (n * 1) = es.map Value.string := by
 rcases h.2 with ⟨e, hn⟩ | ⟨g, cap, cur, e, hb, hh, h1, h2, h3, h4⟩
 ·omega
 ·injection e with e1 e2 e3
  subst e1 e2 e3
  exact ⟨g, cur, rfl, rfl, hb, hh, h1, h2, h3, h4⟩
theorem strowns_n {w : World} {B n c : Nat} {a : Option Addr} {ks : List ByteArray} (h : StrOwns w B (.slice a n c) ks) : n = ks.length := by
 rcases h.2 with ⟨e, hn⟩ | ⟨g, cap, cur, e, _⟩
 ·injection e with _ e _; omega
 ·injection e with _ e _
theorem strowns_at {w : World} {B g n c : Nat} {ks : List ByteArray} (h : StrOwns w B (.slice (some ⟨g, 0, none⟩) n c) ks) (i : Nat) (hi : i < ks.length) : w.cell? ⟨g, i, none⟩ = some (.string ks[i]) := by
 obtain rfl := strowns_n h
 refine (h.cellAt i (by omega)).trans ?_
 rw [List.getElem?_map, List.getElem?_eq_getElem hi]
 rfl
theorem strowns_fz {w : World} {B g n c : Nat} {ks : List ByteArray} (h : StrOwns w B (.slice (some ⟨g, 0, none⟩) n c) ks) (j : Nat) : w.frozen? ⟨g, j, none⟩ = false := by
 obtain rfl := strowns_n h
 exact h.frozenAt j
theorem strowns_store {w : World} {B g n c : Nat} {ks : List ByteArray} (h : StrOwns w B (.slice (some ⟨g, 0, none⟩) n c) ks) (i : Nat) (d : ByteArray) : StrOwns (w.setCell ⟨g, i, none⟩ (.string d)) B (.slice (some ⟨g, 0, none⟩) n c) (ks.set i d) := by
 obtain rfl := strowns_n h
 obtain ⟨o1, _⟩ := World.ownsRow.stored h i (.string d)
 unfold StrOwns
 rw [List.map_set, List.length_set]
 exact o1
theorem strrow_own {w : World} {B n c : Nat} {a : Option Addr} {ks : List ByteArray} (h : StrOwns w B (.slice a n c) ks) : StrRow w a n ks := by
 obtain ⟨a', c', e, hr⟩ := strrow_of_owns h
 injection e with e1 e2 e3
 subst e1 e2 e3
 exact hr
def zS (m : Nat) : List Value := (Builtin.zeroCells (Value.string ByteArray.empty).cells m).toList
theorem zS_len (m : Nat) : (zS m).length = m * 1 := by unfold zS; rw [Array.length_toList, size_zeroCells]; rfl
theorem zS_one (m : Nat) : ∀ v ∈ zS m, v.oneCell' = true := by
 intro v hv
 unfold zS Builtin.zeroCells at hv
 have hc : (Value.string ByteArray.empty).cells = #[Value.string ByteArray.empty] := by kernel_rfl
 rw [hc] at hv
 simp at hv
 obtain ⟨_, _, rfl⟩ := hv
 rw [Nat.mod_one]
 rfl
theorem run_clearS (w : World) (ty : TypeId) (g o m c : Nat) (cur : Array Value) (hg : w.heap[g]? = some (.cells cur 9 (0, 0))) (hfit : o + m * 1 ≤ cur.size) (hm : 0 < m) :
  (Builtin.clear_ #[136] ty #[.slice (some ⟨g, o, none⟩) m c]).run Tryz.prog w = .ok (.tuple #[]) (w.setRow g (cur.toList.take o ++ zS m ++ cur.toList.drop (o + m * 1)).toArray) := by
 have hv : ∀ w, (zeroValue 9).run Tryz.prog w = .ok (.string ByteArray.empty) w := fun w => Tryz.zeroValue9 w
 have hst := run_storeCells_at Tryz.prog g o 9 (zS m) 0 cur w hg (by rw [zS_len]; simpa using hfit) (zS_one m)
 rw [zS_len] at hst
 simp only [Nat.add_zero] at hst
 obtain ⟨j, rfl⟩ : ∃ j, m = j + 1 := ⟨m - 1, by omega⟩
 unfold zS at hst ⊢
 simp [Builtin.clear_, run_underlying Tryz.underlying136, hv, hst]
def inR (r : ByteArray × ByteArray) (k : ByteArray) : Bool := inK r.1 r.2 k
theorem scanOut_any (b1 b2 : Nat) (r : ByteArray × ByteArray) (k : ByteArray) (w : World) (h1 : w.cell? ⟨b1, 0, none⟩ = some (.string r.1)) (h2 : w.cell? ⟨b2, 0, none⟩ = some (.string r.2)) :
  Calls Tryz.prog 124 #[.string k, .pointer (some ⟨b1, 0, none⟩), .pointer (some ⟨b2, 0, none⟩)] w fun e w' => e = .returned (.bool (!inR r k)) ∧ w' = w := by
 have C := hide (within_any k r.1 r.2 w)
 unfold inR
 go_enter Tryz.func124, Tryz.ntmps124
 go_wp2_with fail
 refine (unhide C).mono ?_
 rintro e w' ⟨rfl, rfl⟩
 clear C
 go_wp2_with fail
 go_ret
 exact ⟨rfl, rfl⟩
set_option maxHeartbeats 4000000 in
theorem indexS_any (bx by2 : Nat) (a : Option Addr) (n c : Nat) (ds : List ByteArray) (gone : ByteArray × ByteArray) (w : World) (hn : n ≤ 1048576) (hr : StrRow w a n ds) (h : w.cell? ⟨bx, 0, none⟩ = some (.string gone.1)) (h2 : w.cell? ⟨by2, 0, none⟩ = some (.string gone.2)) :
  Calls Tryz.prog 139 #[.slice a n c, .func (.func 124) #[] #[.pointer (some ⟨bx, 0, none⟩), .pointer (some ⟨by2, 0, none⟩)]] w fun e w' => ∃ r : Int, e = .returned (.int .i64 r) ∧ ((r = -1 ∧ ds.filter (inR gone) = ds) ∨ ∃ i : Nat, r = (i : Int) ∧ i < n ∧ (ds.take (i + 1)).filter (inR gone) = ds.take i) ∧ Below w.heap.size w w' := by
 have L := hide hr.1
 have R := hide hr
 have HB := hide h
 have HB2 := hide h2
 clear hr h h2
 go_enter Tryz.func139, Tryz.ntmps139
 go_wp2_with fail
 go_loopw [8] (fun i wr => ∃ k : Nat, k ≤ n ∧ i = .int .i64 k ∧ Hid ((ds.take k).filter (inR gone) = ds.take k) ∧ Below w.heap.size w wr) (fun i _ => n - (intOf i).toNat)
 case atStart => exact ⟨0, by omega, rfl, rfl, Below.refl _ _⟩
 case round =>
  obtain ⟨k, hk, rfl, hok, hb⟩ := hrel
  by_cases hlt : k < n
  ·have hk2 : k < ds.length := by rw [unhide L]; exact hlt
   obtain ⟨b, off, rfl, d0⟩ := ((unhide R).below hb).2 k hk2
   have hsz := hb.size
   have hbx : wr.cell? ⟨bx, 0, none⟩ = some (.string gone.1) := (hb.cell (p := ⟨bx, 0, none⟩) (cell_lt (unhide HB))).trans (unhide HB)
   have hby : wr.cell? ⟨by2, 0, none⟩ = some (.string gone.2) := (hb.cell (p := ⟨by2, 0, none⟩) (cell_lt (unhide HB2))).trans (unhide HB2)
   have C := hide (scanOut_any bx by2 gone ds[k] wr hbx hby)
   have F := hide (show ∀ b, (!inR gone ds[k]) = b → (ds.take (k + 1)).filter (inR gone) = if b then ds.take k else ds.take (k + 1) from fun b hb => by
    rw [rb_take_snoc ds k hk2, List.filter_append, unhide hok]
    cases b with
    | true => rw [List.filter_cons_of_neg (by cases h0 : inR gone ds[k] <;> simp_all)]; simp
    | false => rw [List.filter_cons_of_pos (by cases h0 : inR gone ds[k] <;> simp_all)]; rfl)
   generalize ds[k] = pd at *
   clear hok
   cases ht : (!inR gone pd) with
   | false =>
    rw [ht] at C
    have Z := hide (unhide F false ht)
    clear F ht
    go_wp2_with fail
    refine (unhide C).mono ?_
    rintro e w1 ⟨rfl, rfl⟩
    have bA : Below w.heap.size w w1 := hb
    clear hb d0 hbx hby C
    go_wp2_with fail
    go_roundw
    case rel => exact ⟨k + 1, by omega, by go_num, unhide Z, bA⟩
    case measure => simp [intOf]; omega
   | true =>
    rw [ht] at C
    have Z := hide (unhide F true ht)
    clear F ht
    go_wp2_with fail
    refine (unhide C).mono ?_
    rintro e w1 ⟨rfl, rfl⟩
    have bA : Below w.heap.size w w1 := hb
    clear hb d0 hbx hby C
    go_wp2_with fail
    go_ret
    exact ⟨k, rfl, .inr ⟨k, rfl, hlt, unhide Z⟩, bA⟩
  ·obtain rfl : k = n := by omega
   have Z := hide (show ds.filter (inR gone) = ds by
    have h := unhide hok
    rwa [List.take_of_length_le (by rw [unhide L]; exact Nat.le_refl _)] at h)
   go_wp2_with fail
   go_ret
   exact ⟨-1, rfl, .inl ⟨rfl, unhide Z⟩, hb⟩
theorem strFil_len {ds : List ByteArray} {gone : ByteArray × ByteArray} (j : Nat) : ((ds.take j).filter (inR gone)).length ≤ j := by
 have h1 := List.length_filter_le (inR gone) (ds.take j)
 rw [List.length_take] at h1
 omega
def delS (gone : ByteArray × ByteArray) (ds : List ByteArray) (j : Nat) : List ByteArray := (ds.take j).filter (inR gone) ++ ds.drop ((ds.take j).filter (inR gone)).length
theorem delS_len {gone : ByteArray × ByteArray} {ds : List ByteArray} {j : Nat} (hj : j ≤ ds.length) : (delS gone ds j).length = ds.length := by
 have := strFil_len (ds := ds) (gone := gone) j
 unfold delS
 rw [List.length_append, List.length_drop]
 omega
theorem delS_at {gone : ByteArray × ByteArray} {ds : List ByteArray} {j : Nat} (hj : j < ds.length) (h : j < (delS gone ds j).length) : (delS gone ds j)[j] = ds[j] := by
 have h1 := strFil_len (ds := ds) (gone := gone) j
 have h2 : (delS gone ds j)[j]? = ds[j]? := by
  unfold delS
  rw [List.getElem?_append_right h1, List.getElem?_drop]
  congr 1
  omega
 rw [List.getElem?_eq_getElem h, List.getElem?_eq_getElem hj] at h2
 injection h2
theorem delS_keep {gone : ByteArray × ByteArray} {ds : List ByteArray} {j : Nat} (hj : j < ds.length) (h : inR gone ds[j] = true) : delS gone ds (j + 1) = (delS gone ds j).set ((ds.take j).filter (inR gone)).length ds[j] ∧ ((ds.take (j + 1)).filter (inR gone)).length = ((ds.take j).filter (inR gone)).length + 1 := by
 have h1 := strFil_len (ds := ds) (gone := gone) j
 have e : (ds.take (j + 1)).filter (inR gone) = (ds.take j).filter (inR gone) ++ [ds[j]] := by rw [rb_take_snoc ds j hj, List.filter_append, List.filter_cons_of_pos h, List.filter_nil]
 refine ⟨?_, by rw [e, List.length_append]; rfl⟩
 unfold delS
 rw [e, List.length_append, List.set_append_right _ _ (Nat.le_refl _), Nat.sub_self, List.drop_eq_getElem_cons (show ((ds.take j).filter (inR gone)).length < ds.length by omega), List.set_cons_zero, List.append_assoc]
 rfl
theorem delS_skip {gone : ByteArray × ByteArray} {ds : List ByteArray} {j : Nat} (hj : j < ds.length) (h : inR gone ds[j] = false) : (ds.take (j + 1)).filter (inR gone) = (ds.take j).filter (inR gone) := by
 rw [rb_take_snoc ds j hj, List.filter_append, List.filter_cons_of_neg (by rw [h]; decide), List.filter_nil, List.append_nil]
set_option maxHeartbeats 8000000 in
theorem deleteS_any (B bx by2 : Nat) (a : Option Addr) (n c : Nat) (ds : List ByteArray) (gone : ByteArray × ByteArray) (w : World) (hn : n ≤ 100000) (hO : StrOwns w B (.slice a n c) ds) (h : w.cell? ⟨bx, 0, none⟩ = some (.string gone.1)) (h2 : w.cell? ⟨by2, 0, none⟩ = some (.string gone.2)) (_hB : B ≤ w.heap.size) (hne : (Value.slice a n c).ownBlock ≠ some bx) (hne2 : (Value.slice a n c).ownBlock ≠ some by2) :
  Calls Tryz.prog 123 #[.slice a n c, .func (.func 124) #[] #[.pointer (some ⟨bx, 0, none⟩), .pointer (some ⟨by2, 0, none⟩)]] w fun e w' => ∃ v', e = .returned v' ∧ StrOwns w' B v' (ds.filter (inR gone)) ∧ w.grownBy w' (Value.slice a n c).ownBlock := by
 have hr := strrow_own hO
 have L := hide hr.1
 have HI := hide (indexS_any bx by2 a n c ds gone w (by omega) hr h h2)
 have O := hide hO
 have HB := hide h
 have NE := hide hne
 have HB2 := hide h2
 have NE2 := hide hne2
 clear hO hr h hne h2 hne2
 go_enter Tryz.func123, Tryz.ntmps123
 go_wp2_with fail
 refine (unhide HI).mono ?_
 rintro e w1 ⟨r, rfl, hr, hb1⟩
 have O1 := hide (rb_ownsRow_below (unhide O) hb1)
 clear HI
 rcases hr with ⟨rfl, hall⟩ | ⟨i, rfl, hi, hfi⟩
 ·have RES := hide (show StrOwns w1 B (.slice a n c) (ds.filter (inR gone)) by rw [hall]; exact unhide O1)
  have G := hide (rb_grownBy_below (r := (Value.slice a n c).ownBlock) hb1)
  clear hall hb1 O O1
  go_wp2_with fail
  go_ret
  exact ⟨_, rfl, unhide RES, unhide G⟩
 have hib : ((i : Int) == -1) = false := by rw [beq_eq_false_iff_ne]; omega
 have hnl : n = ds.length := (unhide L).symm
 have hil : i < ds.length := by omega
 obtain ⟨g, cur0, ha, -, hbg, -⟩ := strowns_form (unhide O1) (by omega)
 subst ha
 have FI := hide (show ((ds.take (i + 1)).filter (inR gone)).length = i by rw [hfi, List.length_take]; omega)
 have S0 := hide (show StrOwns w1 B (.slice (some ⟨g, 0, none⟩) n c) (delS gone ds (i + 1)) by
  have e : delS gone ds (i + 1) = ds := by
   unfold delS
   rw [hfi, List.length_take, Nat.min_eq_left (by omega), List.take_append_drop]
  rw [e]
  exact unhide O1)
 have G1 := hide (rb_grownBy_below (r := some g) hb1)
 have LT := hide (show ((ds.take (i + 1)).filter (inR gone)).length < i + 1 by rw [unhide FI]; omega)
 have NL := hide hnl
 clear hnl hil hfi O O1 hb1 hbg
 go_wp2_with fail
 go_loopw [5, 6] (fun iv jv wr => ∃ (k j : Nat), iv = .int .i64 (k : Int) ∧ jv = .int .i64 (j : Int) ∧ j ≤ n ∧ k < j ∧ Hid (((ds.take j).filter (inR gone)).length = k) ∧ Hid (StrOwns wr B (.slice (some ⟨g, 0, none⟩) n c) (delS gone ds j)) ∧ Hid (w.grownBy wr (some g))) (fun _ jv _ => n - (intOf jv).toNat)
 case atStart => exact ⟨i, i + 1, rfl, by go_num, by omega, by omega, FI, S0, G1⟩
 case round =>
  clear S0 G1 FI LT
  obtain ⟨k, j, rfl, rfl, hj, hkj, hF, hO, hG⟩ := hrel
  have hbx : wr.cell? ⟨bx, 0, none⟩ = some (.string gone.1) := (World.cell?_of_block (a := ⟨bx, 0, none⟩) ((unhide hG).block bx (cell_lt (unhide HB)) (fun e => unhide NE e.symm))).trans (unhide HB)
  have hby : wr.cell? ⟨by2, 0, none⟩ = some (.string gone.2) := (World.cell?_of_block (a := ⟨by2, 0, none⟩) ((unhide hG).block by2 (cell_lt (unhide HB2)) (fun e => unhide NE2 e.symm))).trans (unhide HB2)
  by_cases hlt : j < n
  ·have hjl : j < ds.length := by rw [← unhide NL]; exact hlt
   have hjd : j < (delS gone ds j).length := by rw [delS_len (by omega)]; exact hjl
   have d0 := strowns_at (unhide hO) j hjd
   rw [delS_at hjl hjd] at d0
   have KP := hide (fun h => delS_keep hjl (gone := gone) h)
   have SKP := hide (fun h => delS_skip hjl (gone := gone) h)
   have hkd : k < (delS gone ds j).length := by omega
   have t0 := strowns_at (unhide hO) k hkd
   have f0 := strowns_fz (unhide hO) k
   generalize (delS gone ds j)[k] = tk at *
   obtain ⟨b, hb⟩ : ∃ b, b = inR gone ds[j] := ⟨_, rfl⟩
   rw [← hb] at KP SKP
   have ST := hide (strowns_store (unhide hO) k ds[j])
   have C := hide (scanOut_any bx by2 gone ds[j] wr hbx hby)
   rw [← hb] at C
   clear hb
   generalize hdj : ds[j] = dj at *
   cases b with
   | true =>
    obtain ⟨e1, e2⟩ := unhide KP rfl
    rw [unhide hF] at e1 e2
    clear KP SKP hdj
    have O4 := hide (show StrOwns (wr.setCell ⟨g, k, none⟩ (.string dj)) B (.slice (some ⟨g, 0, none⟩) n c) (delS gone ds (j + 1)) by rw [e1]; exact unhide ST)
    have G4 := hide (show w.grownBy (wr.setCell ⟨g, k, none⟩ (.string dj)) (some g) from rb_grown_trans (unhide hG) ⟨rfl, rfl, rfl, by simp [World.setCell], fun i _ hne => Below.heap_setCell _ _ _ _ (fun e => hne (by rw [e]))⟩)
    have E2 := hide e2
    have hkn : k < n := by omega
    clear hO hG hF e1 e2 ST hbx hby hkd
    go_wp2_with fail
    refine (unhide C).mono ?_
    rintro e w3 ⟨rfl, rfl⟩
    clear C
    go_wp2_with fail
    go_roundw
    case rel => exact ⟨k + 1, j + 1, by go_num, by go_num, by omega, by omega, E2, O4, G4⟩
    case measure => simp [intOf]; omega
   | false =>
    have e1 := unhide SKP rfl
    have F2 := hide (show ((ds.take (j + 1)).filter (inR gone)).length = k by rw [e1]; exact unhide hF)
    have O4 := hide (show StrOwns wr B (.slice (some ⟨g, 0, none⟩) n c) (delS gone ds (j + 1)) by
     have D2 : delS gone ds (j + 1) = delS gone ds j := by unfold delS; rw [e1]
     rw [D2]
     exact unhide hO)
    have G4 := hide (unhide hG)
    clear KP SKP hdj e1 t0 f0 hO hG hF ST hbx hby hkd
    go_wp2_with fail
    refine (unhide C).mono ?_
    rintro e w3 ⟨rfl, rfl⟩
    clear C
    go_wp2_with fail
    go_roundw
    case rel => exact ⟨k, j + 1, rfl, by go_num, by omega, by omega, F2, O4, G4⟩
    case measure => simp [intOf]; omega
  ·obtain rfl : j = n := by omega
   have hjd := delS_len (gone := gone) (ds := ds) (j := j) (by rw [← unhide NL]; exact Nat.le_refl _)
   obtain ⟨g', cur, e1, -, hbg, hgh, h1, h2, h3, h4⟩ := strowns_form (unhide hO) (by rw [hjd, ← unhide NL]; omega)
   injection e1 with e1
   injection e1 with e1 _ _
   subst e1
   have RJ := fun ty => run_clearS wr ty g k (j - k) (c - k) cur hgh (by rw [h3]; omega) (by omega)
   obtain ⟨NR, hNR⟩ : ∃ NR, NR = (cur.toList.take k ++ zS (j - k) ++ cur.toList.drop (k + (j - k) * 1)).toArray := ⟨_, rfl⟩
   rw [← hNR] at RJ
   have hW := setRow_heap wr g cur NR _ _ hgh
   have FL := hide (show (ds.filter (inR gone)).length = k by
    have h := unhide hF
    rwa [List.take_of_length_le (by rw [← unhide NL]; exact Nat.le_refl _)] at h)
   have OF := hide (show StrOwns (wr.setRow g NR) B (.slice (some ⟨g, 0, none⟩) k c) (ds.filter (inR gone)) by
    have hDJ : delS gone ds j = ds.filter (inR gone) ++ ds.drop (ds.filter (inR gone)).length := by
     unfold delS
     rw [List.take_of_length_le (by rw [← unhide NL]; exact Nat.le_refl _)]
    have h5 : cur.toList.take k = (ds.filter (inR gone)).map Value.string := by
     have h6 : (cur.toList.take (j * 1)).take k = cur.toList.take k := by rw [List.take_take, Nat.min_eq_left (by omega)]
     rw [← h6, h4, ← List.map_take, hDJ, List.take_append_of_le_length (by rw [unhide FL]; exact Nat.le_refl _), List.take_of_length_le (by rw [unhide FL]; exact Nat.le_refl _)]
    have h7 := unhide FL
    unfold StrOwns
    rw [h7]
    refine ⟨by rw [List.length_map, h7, Nat.mul_one], .inr ⟨g, c, _, rfl, hbg, hW, by omega, h2, ?_, ?_⟩⟩
    ·rw [hNR]; simp [zS_len, h3]; omega
    ·rw [hNR, List.append_assoc, Nat.mul_one]
     show ((cur.toList.take k ++ (zS (j - k) ++ cur.toList.drop (k + (j - k) * 1))).toArray.toList).take k = _
     rw [List.toList_toArray, List.take_append_of_le_length (by simp [h3]; omega), List.take_take, Nat.min_self]
     exact h5)
   have GF := hide (show w.grownBy (wr.setRow g NR) (some g) from rb_grown_trans (unhide hG) (grown_setRow wr g NR))
   have hck : ¬ (c = k) := by omega
   have hkj' : k ≤ j := by omega
   clear hNR hW h4 h3 hgh hO hG hF hjd
   go_wp2_with fail
   go_ret
   exact ⟨_, rfl, unhide OF, unhide GF⟩
end Go.Proofs.YtdnjgbckkmbmfaaGreat
