/-
  spec.l04Bytes and spec.PageBytes.
-/
import Derived.Test.YtkggpapmhopaeaaPbH
import Derived.Deep.RegionLaw
namespace Go.Proofs.Ytkggpapmhopaeaa
open Go.RowKit

set_option maxRecDepth 100000 in
set_option maxHeartbeats 8000000 in
theorem l04Bytes_any (lo hi : ByteArray) (r : Int) (ab : Option Addr) (nb cb : Nat) (es : List EntD) (ac : Option Addr) (nc cc : Nat) (ds : List DelD) (w : World) (hE : ERow w ab nb es) (hD : DRow w ac nc ds) (hok : SmallP lo hi r es ds) :
    Calls Try.prog 60 #[pgv lo hi r ab nb cb ac nc cc] w fun e w' => ∃ v, e = .returned v ∧ Owns w' w.heap.size v (pageL lo hi r es ds) ∧ Below w.heap.size w w' := by
  obtain ⟨i0, hi0, hz0, hz1, hz2⟩ := info_parts Try.infoU8
  have b0 : Below w.heap.size w (w.alloc (.cells #[.string lo, .string hi, .int .i64 r, .slice ab nb cb, .slice ac nc cc] 31)) := (Below.refl _ _).alloc (Nat.le_refl _) _
  have k0 := heap_alloc_new w (.cells #[.string lo, .string hi, .int .i64 r, .slice ab nb cb, .slice ac nc cc] 31)
  have hsz : (w.alloc (.cells #[.string lo, .string hi, .int .i64 r, .slice ab nb cb, .slice ac nc cc] 31)).heap.size = w.heap.size + 1 := by simp
  have RE := hide hE
  have RD := hide hD
  have LE := hide hE.1
  have LD := hide hD.1
  obtain ⟨s1, s2, s3, s4, s5, s6, S7, S8⟩ := hok
  have H7 := hide S7
  have H8 := hide S8
  clear S7 S8 hE hD
  go_enter Try.func60, Try.ntmps60
  go_upto_region 1 with fail
  generalize w.alloc (.cells #[.string lo, .string hi, .int .i64 r, .slice ab nb cb, .slice ac nc cc] 31) = w1 at *
  have BB := hide b0
  have AC := hide (fun (u : World) (hu : Below (w.heap.size + 1) w1 u) => pg_c5 ((hu.block w.heap.size (by omega)).trans k0))
  have hs1 : w.heap.size + 1 ≤ w1.heap.size := by omega
  obtain ⟨p0, p1, p2, p3, p4⟩ := pg_c5 k0
  have CL := hide (line_at (B := w.heap.size + 1) (W := w1) hs1)
  clear b0 k0 hsz
  go_cut [3] (fun v wc => Owns wc (w.heap.size + 1) v (lineL lo ++ lineL hi) ∧ Below (w.heap.size + 1) w1 wc)
  case first =>
    have hzl : (lineL lo).length ≤ 100000 := by rw [lineL_length]; omega
    go_region_law (first
      | (obtain ⟨vp, wp, hrp, op, hgp⟩ := line_run oa ob hzl (by omega) (Nat.le_trans hs1 hbb.size); refine stepAppE rfl (.tmp 9) (.tmp 12) 49 rfl (.slice (some ⟨ga, 0, none⟩) (lo.size + 1) ca) (.slice (some ⟨gb, 0, none⟩) (hi.size + 1) cb2) vp wp (by first | rfl | (simp [Act.eval]; done) | (simp [Act.eval, Act.put]; done)) (by first | rfl | (simp [Act.eval]; done) | (simp [Act.eval, Act.put]; done)) hrp ?_; (have hbp := below_grown hbb (Nat.le_trans hs1 hbb.size) oa hgp); clear hrp hgp)
      | (refine stepCallG 80 Try.func80 (by decide) rfl rfl (.tmp 11) 9 rfl (.string hi) (by first | rfl | (simp [Act.eval]; done) | (simp [Act.eval, Act.put]; done)) (unhide CL _ hba hi (by omega)) ?_; rintro _ wb ⟨gb, cb2, rfl, ob, bb, hbb⟩; replace oa := owns_below oa bb; obtain ⟨m0, m1, m2, m3, m4⟩ := unhide AC _ hbb)
      | (refine stepCallG 80 Try.func80 (by decide) rfl rfl (.tmp 8) 9 rfl (.string lo) (by first | rfl | (simp [Act.eval]; done) | (simp [Act.eval, Act.put]; done)) (unhide CL w1.drew (Below.refl _ _).drew lo (by omega)) ?_; rintro _ wa ⟨ga, ca, rfl, oa, ba, hba⟩; replace oa := owns_dn oa hs1; obtain ⟨m0, m1, m2, m3, m4⟩ := unhide AC _ hba))
    all_goals
      go_wp2_with fail
      go_meet
      case rel => exact ⟨op, hbp⟩
  case rest =>
    obtain ⟨ho, hb⟩ := hcut
    clear p0 p1 p2 p3 p4
    obtain ⟨p0, p1, p2, p3, p4⟩ := unhide AC _ hb
    have hz : (lineL lo ++ lineL hi).length ≤ 100 := by rw [List.length_append, lineL_length, lineL_length]; omega
    have HL := hide (show lineL lo ++ lineL hi ++ twoL (r + 1) ++ [(nb : Int)] = headL lo hi r es.length by rw [headL, unhide LE])
    have hq1 : (nb : Int) % 256 = (nb : Int) := by have := unhide LE; omega
    have hq2 : (nc : Int) % 256 = (nc : Int) := by have := unhide LD; omega
    have hnb : nb ≤ 32 := by have := unhide LE; omega
    have hnc : nc ≤ 12 := by have := unhide LD; omega
    generalize lineL lo ++ lineL hi = z0 at *
    go_wp2_with (first
      | (go_at_call 81; refine (l04Two_any (r + 1) _ s3 (by omega)).mono ?_; rintro e w3 ⟨rfl, rfl⟩)
      | (at_builtin; refine wpList_append_own _ rfl _ _ 49 rfl (w.heap.size + 1) 5 i0 (.int .u8 0) 1 1 Try.underlying49 hi0 hz0 hz1 hz2 rfl (by decide) _ _ _ rfl (World.ownsRow.alloc ho _) ⟨wc.heap.size, 0, none⟩ 2 2 [.int .u8 ((r + 1) / 256), .int .u8 ((r + 1) % 256)] rfl rfl cell_two (two_u8 _ _) (by unfold maxLen; omega) (by omega) (by simp; have := (hb).size; omega) ?_))
    intro v4 w4 hown4 hgrow4 _
    have ho4 : Owns w4 (w.heap.size + 1) v4 (z0 ++ twoL (r + 1)) := owns_app2 hown4
    have hb4 := below_app hb (Nat.le_trans hs1 hb.size) ho hgrow4
    have hz4 : (z0 ++ twoL (r + 1)).length ≤ 102 := by rw [List.length_append]; simp only [twoL, List.length_cons, List.length_nil]; omega
    clear hown4 hgrow4 ho hb p0 p1 p2 p3 p4
    obtain ⟨p0, p1, p2, p3, p4⟩ := unhide AC _ hb4
    generalize z0 ++ twoL (r + 1) = z4 at *
    go_wp2_with (at_builtin; refine wpList_append_own _ rfl _ _ 49 rfl (w.heap.size + 1) 5 i0 (.int .u8 0) 1 1 Try.underlying49 hi0 hz0 hz1 hz2 rfl (by decide) _ _ _ rfl (World.ownsRow.alloc ho4 _) ⟨w4.heap.size, 0, none⟩ 1 1 [.int .u8 (nb : Int)] rfl rfl (cell_one_new _ _ _) (one_u8 _) (by unfold maxLen; omega) (by omega) (by simp; have := (hb4).size; omega) ?_)
    intro v5 w5 hown5 hgrow5 _
    have O5 := hide (show Owns w5 (w.heap.size + 1) v5 (headL lo hi r es.length) by rw [← unhide HL]; exact owns_app hown5)
    have B5 := hide (below_app hb4 (Nat.le_trans hs1 hb4.size) ho4 hgrow5)
    have hhd := headL_length lo hi r es.length
    clear hown5 hgrow5 ho4 hb4 HL p0 p1 p2 p3 p4 hz hz4
    generalize hHD : headL lo hi r es.length = hd at *
    have HHD := hide hHD
    clear hHD
    go_wp2_with fail
    go_loopw [3, 4] (fun v i wr => ∃ j : Nat, i = .int .i64 (j : Int) ∧ j ≤ nb ∧ Hid (Owns wr (w.heap.size + 1) v (hd ++ entsL (es.take j))) ∧ Hid (Below (w.heap.size + 1) w1 wr)) (fun _ i _ => nb - (intOf i).toNat)
    case atStart => exact ⟨0, rfl, Nat.zero_le _, by rw [List.take_zero, show entsL [] = [] from rfl, List.append_nil]; exact unhide O5, unhide B5⟩
    case round =>
      clear O5 B5
      obtain ⟨j, rfl, hj, hO, hB⟩ := hrel
      have hl : (hd ++ entsL (es.take j)).length ≤ 7000 := by
        have h1 := entsL_le (es.take j) (fun i hi' => by have := unhide H7 i (by rw [List.length_take] at hi'; omega); simpa using this)
        rw [List.length_take] at h1
        rw [List.length_append]
        omega
      obtain ⟨p0, p1, p2, p3, p4⟩ := unhide AC _ (unhide hB)
      by_cases hlt : j < nb
      · have hje : j < es.length := by have := unhide LE; omega
        have TS := hide (show entsL (es.take (j + 1)) = entsL (es.take j) ++ entL es[j] by rw [takeG_snoc es j hje, entsL_snoc])
        have hs := unhide H7 j hje
        obtain ⟨b, off, rfl, c0, c1⟩ := ((unhide RE).below ((unhide BB).trans ((unhide hB).mono (by omega)))).2 j hje
        have hbl : b < w.heap.size := by
          obtain ⟨b', off', e, c0', _⟩ := (unhide RE).2 j hje
          injection e with e
          injection e with e1 e2
          subst e1
          exact cell_lt c0'
        have EC := hide (fun (u : World) (hu : Below (w.heap.size + 1) w1 u) => show u.cell? ⟨w.heap.size, 3, none⟩ = some (.slice (some ⟨b, off, none⟩) nb cb) ∧ u.cell? ⟨b, off + j * 2, none⟩ = some (.string es[j].k) ∧ u.cell? ⟨b, off + j * 2 + 1, none⟩ = some (.string es[j].v) by
          obtain ⟨b', off', e, c0', c1'⟩ := ((unhide RE).below ((unhide BB).trans (hu.mono (by omega)))).2 j hje
          injection e with e
          injection e with e1 e2
          subst e1 e2
          exact ⟨(unhide AC _ hu).2.2.2.1, c0', c1'⟩)
        generalize es[j] = em at *
        have TZ := hide (show hd ++ entsL (es.take (j + 1)) = hd ++ entsL (es.take j) ++ lineL em.k ++ lineL em.v by rw [unhide TS, entL]; simp)
        clear TS
        generalize hd ++ entsL (es.take j) = zj at *
        have oz : Owns wr (w.heap.size + 1) _ zj := unhide hO
        have hbz : Below (w.heap.size + 1) w1 wr := unhide hB
        have hkl : (lineL em.k).length ≤ 101 := by rw [lineL_length]; omega
        have hpl : (zj ++ lineL em.k).length ≤ 7101 := by rw [List.length_append]; omega
        have hzz : zj.length ≤ 100000 := by omega
        have hpz : (zj ++ lineL em.k).length ≤ 100000 := by omega
        clear hO hB
        go_upto_region 7 with fail
        clear p0 p1 p2 p4
        have od : Owns wr.drew (w.heap.size + 1) _ zj := oz
        have hbd : Below (w.heap.size + 1) w1 wr.drew := hbz.drew
        clear oz hbz
        go_region_law (first
          | (obtain ⟨vq, wq, hrq, oq, hgq⟩ := line_run op ob hpz (by omega) (Nat.le_trans hs1 hbb.size); refine stepAppE rfl (.tmp 42) (.tmp 49) 49 rfl (vp) (.slice (some ⟨gb, 0, none⟩) (em.v.size + 1) cb2) vq wq (by first | rfl | (simp [Act.eval]; done) | (simp [Act.eval, Act.put]; done)) (by first | rfl | (simp [Act.eval]; done) | (simp [Act.eval, Act.put]; done)) hrq ?_; (have hbq := below_grown hbb (Nat.le_trans hs1 hbb.size) op hgq); clear hrq hgq)
          | (obtain ⟨vq, wq, hrq, oq, hgq⟩ := line_run op ob hpz (by omega) (Nat.le_trans hs1 hbp.size); refine stepAppE rfl (.tmp 42) (.tmp 49) 49 rfl (vp) (.slice (some ⟨gb, 0, none⟩) (em.v.size + 1) cb2) vq wq (by first | rfl | (simp [Act.eval]; done) | (simp [Act.eval, Act.put]; done)) (by first | rfl | (simp [Act.eval]; done) | (simp [Act.eval, Act.put]; done)) hrq ?_; (have hbq := below_grown hbp (Nat.le_trans hs1 hbp.size) op hgq); clear hrq hgq)
          | (obtain ⟨vp, wp, hrp, op, hgp⟩ := line_run od oa hzz (by omega) (Nat.le_trans hs1 hbb.size); refine stepAppE rfl (.tmp 34) (.tmp 41) 49 rfl (u3) (.slice (some ⟨ga, 0, none⟩) (em.k.size + 1) ca) vp wp (by first | rfl | (simp [Act.eval]; done) | (simp [Act.eval, Act.put]; done)) (by first | rfl | (simp [Act.eval]; done) | (simp [Act.eval, Act.put]; done)) hrp ?_; (have hbp := below_grown hbb (Nat.le_trans hs1 hbb.size) od hgp); (replace ob := owns_apart ob od hfar hgp); obtain ⟨m3, mc0, mc1⟩ := unhide EC _ hbp; clear hrp hgp)
          | (obtain ⟨vp, wp, hrp, op, hgp⟩ := line_run od oa hzz (by omega) (Nat.le_trans hs1 hba.size); refine stepAppE rfl (.tmp 34) (.tmp 41) 49 rfl (u3) (.slice (some ⟨ga, 0, none⟩) (em.k.size + 1) ca) vp wp (by first | rfl | (simp [Act.eval]; done) | (simp [Act.eval, Act.put]; done)) (by first | rfl | (simp [Act.eval]; done) | (simp [Act.eval, Act.put]; done)) hrp ?_; (have hbp := below_grown hba (Nat.le_trans hs1 hba.size) od hgp); obtain ⟨m3, mc0, mc1⟩ := unhide EC _ hbp; clear hrp hgp)
          | (refine stepCallG 80 Try.func80 (by decide) rfl rfl (.tmp 48) 9 rfl (.string em.v) (by first | rfl | (simp [Act.eval]; done) | (simp [Act.eval, Act.put]; done)) (unhide CL _ hbp em.v (by omega)) ?_; rintro _ wb ⟨gb, cb2, rfl, ob, bb, hbb⟩; replace op := owns_below op bb; obtain ⟨m3, mc0, mc1⟩ := unhide EC _ hbb)
          | (refine stepCallG 80 Try.func80 (by decide) rfl rfl (.tmp 48) 9 rfl (.string em.v) (by first | rfl | (simp [Act.eval]; done) | (simp [Act.eval, Act.put]; done)) (unhide CL _ hba em.v (by omega)) ?_; rintro _ wb ⟨gb, cb2, rfl, ob, bb, hbb⟩; (have hfar := fun k hk => (World.ownsRow.lt od k hk).2); replace od := owns_below od bb; replace oa := owns_below oa bb; obtain ⟨m3, mc0, mc1⟩ := unhide EC _ hbb)
          | (refine stepCallG 80 Try.func80 (by decide) rfl rfl (.tmp 40) 9 rfl (.string em.k) (by first | rfl | (simp [Act.eval]; done) | (simp [Act.eval, Act.put]; done)) (unhide CL _ hbd em.k (by omega)) ?_; rintro _ wa ⟨ga, ca, rfl, oa, ba, hba⟩; replace od := owns_below od ba; obtain ⟨m3, mc0, mc1⟩ := unhide EC _ hba))
        all_goals
          have OZ := hide oq
          have BZ := hide hbq
          clear oq hbq
          go_wp2_with fail
          go_roundw
          case rel => exact ⟨j + 1, by go_num, by omega, by rw [unhide TZ]; exact unhide OZ, unhide BZ⟩
          case measure => simp [intOf]; omega
      · obtain rfl : j = nb := by omega
        have hee : es.take j = es := List.take_of_length_le (by rw [unhide LE]; exact Nat.le_refl _)
        rw [hee] at hO hl
        clear hee
        have oo := unhide hO
        generalize hZE : hd ++ entsL es = ze at *
        have HZE := hide hZE
        clear hZE
        go_wp2_with (at_builtin; refine wpList_append_own _ rfl _ _ 49 rfl (w.heap.size + 1) 5 i0 (.int .u8 0) 1 1 Try.underlying49 hi0 hz0 hz1 hz2 rfl (by decide) _ _ _ rfl (World.ownsRow.alloc oo _) ⟨wr.heap.size, 0, none⟩ 1 1 [.int .u8 (nc : Int)] rfl rfl (cell_one_new _ _ _) (one_u8 _) (by unfold maxLen; omega) (by omega) (by simp; have := (unhide hB).size; omega) ?_)
        intro v6 w6 hown6 hgrow6 _
        have O6 := hide (owns_app hown6)
        have B6 := hide (below_app (unhide hB) (Nat.le_trans hs1 (unhide hB).size) oo hgrow6)
        have hl6 : (ze ++ [(nc : Int)]).length ≤ 7001 := by rw [List.length_append, List.length_singleton]; omega
        clear hown6 hgrow6 oo hO hB p0 p1 p2 p3 p4
        generalize hZC : ze ++ [(nc : Int)] = zc at *
        have HZC := hide hZC
        clear hZC
        go_wp2_with fail
        go_loopw [3, 5] (fun v i wz => ∃ q : Nat, i = .int .i64 (q : Int) ∧ q ≤ nc ∧ Hid (Owns wz (w.heap.size + 1) v (zc ++ delsL (ds.take q))) ∧ Hid (Below (w.heap.size + 1) w1 wz)) (fun _ i _ => nc - (intOf i).toNat)
        case atStart => exact ⟨0, rfl, Nat.zero_le _, by rw [List.take_zero, show delsL [] = [] from rfl, List.append_nil]; exact unhide O6, unhide B6⟩
        case round =>
          clear O6 B6
          obtain ⟨q, rfl, hq, hO, hB⟩ := hrel
          have hl : (zc ++ delsL (ds.take q)).length ≤ 10000 := by
            have h1 := delsL_le (ds.take q) (fun i hi' => by have := unhide H8 i (by rw [List.length_take] at hi'; omega); simpa using this)
            rw [List.length_take] at h1
            rw [List.length_append]
            omega
          have BW := hide ((unhide BB).trans ((unhide hB).mono (by omega)))
          obtain ⟨p0, p1, p2, p3, p4⟩ := unhide AC _ (unhide hB)
          by_cases hlt : q < nc
          · have hqe : q < ds.length := by have := unhide LD; omega
            obtain ⟨b, off, rfl, c0, c1, c2, c3⟩ := ((unhide RD).below (unhide BW)).2 q hqe
            have OA := hide (World.ownsRow.alloc (unhide hO) (.cells #[.int .i64 ds[q].kind, .string ds[q].k, .string ds[q].v, .int .i64 ds[q].to] 44))
            have hwr := (unhide hB).size
            have BA := hide ((unhide hB).alloc (show w.heap.size + 1 ≤ wr.heap.size by omega) (.cells #[.int .i64 ds[q].kind, .string ds[q].k, .string ds[q].v, .int .i64 ds[q].to] 44))
            have KB := hide (heap_alloc_new wr (.cells #[.int .i64 ds[q].kind, .string ds[q].k, .string ds[q].v, .int .i64 ds[q].to] 44))
            have TS := hide (show delsL (ds.take (q + 1)) = delsL (ds.take q) ++ delL ds[q] by rw [takeG_snoc ds q hqe, delsL_snoc])
            have hs := unhide H8 q hqe
            generalize ds[q] = dm at *
            have TZ := hide (show zc ++ delsL (ds.take (q + 1)) = zc ++ delsL (ds.take q) ++ [dm.kind] ++ lineL dm.k ++ lineL dm.v ++ twoL dm.to by rw [unhide TS, delL]; simp)
            have hkq : IntKind.u8.wrap dm.kind = dm.kind := by rw [IntKind.wrap_u8]; omega
            clear TS hO hB
            generalize zc ++ delsL (ds.take q) = zq at *
            have hz0' : zq.length ≤ 100000 := by omega
            have hz1' : (zq ++ [dm.kind]).length ≤ 100000 := by rw [List.length_append, List.length_singleton]; omega
            have hz2' : (zq ++ [dm.kind] ++ lineL dm.k).length ≤ 100000 := by rw [List.length_append, lineL_length, List.length_append, List.length_singleton]; omega
            have hz3' : (zq ++ [dm.kind] ++ lineL dm.k ++ lineL dm.v).length ≤ 100000 := by rw [List.length_append, lineL_length, List.length_append, lineL_length, List.length_append, List.length_singleton]; omega
            go_upto_region 13 with fail
            clear c0 c1 c2 c3 p0 p1 p2 p3 p4
            generalize hWA : wr.alloc (.cells #[.int .i64 dm.kind, .string dm.k, .string dm.v, .int .i64 dm.to] 44) = WA at *
            clear hWA
            generalize wr.heap.size = db at *
            go_cut [3] from 58 to 88 (fun v wc => Owns wc (w.heap.size + 1) v (zq ++ [dm.kind] ++ lineL dm.k ++ lineL dm.v) ∧ Below (w.heap.size + 1) w1 wc ∧ wc.heap[db]? = some (.cells #[.int .i64 dm.kind, .string dm.k, .string dm.v, .int .i64 dm.to] 44 (0, 0)))
            case first =>
              have hbc : Below (w.heap.size + 1) w1 WA.drew := (unhide BA).drew
              have kbc : WA.drew.heap[db]? = some (.cells #[.int .i64 dm.kind, .string dm.k, .string dm.v, .int .i64 dm.to] 44 (0, 0)) := unhide KB
              have od : Owns WA.drew (w.heap.size + 1) _ zq := unhide OA
              obtain ⟨_, _, _, e1, e2⟩ := d_all (unhide KB)
              clear BA KB OA
              obtain ⟨y0, y1, y2, n1, n2⟩ := d_all kbc
              go_region_law (first
                | (obtain ⟨vq, wq, hrq, oq, hgq⟩ := line_run op ob hz2' (by omega) (Nat.le_trans hs1 hbc.size); refine stepAppE rfl (.tmp 79) (.tmp 82) 49 rfl vp (.slice (some ⟨gb, 0, none⟩) (dm.v.size + 1) cb2) vq wq (by first | rfl | (simp [Act.eval]; done) | (simp [Act.eval, Act.put]; done)) (by first | rfl | (simp [Act.eval]; done) | (simp [Act.eval, Act.put]; done)) hrq ?_; (have kq := KeepT.grown op hgq _ _ _ (by decide) kbc); (have hbq := below_grown hbc (Nat.le_trans hs1 hbc.size) op hgq); clear hrq hgq)
                | (obtain ⟨vp, wp, hrp, op, hgp⟩ := line_run oo oa hz1' (by omega) (Nat.le_trans hs1 hbc.size); refine stepAppE rfl (.tmp 75) (.tmp 78) 49 rfl vo (.slice (some ⟨ga, 0, none⟩) (dm.k.size + 1) ca) vp wp (by first | rfl | (simp [Act.eval]; done) | (simp [Act.eval, Act.put]; done)) (by first | rfl | (simp [Act.eval]; done) | (simp [Act.eval, Act.put]; done)) hrp ?_; (first | (replace ob := owns_ne ob nb1 hgp) | skip); (replace kbc := KeepT.grown oo hgp _ _ _ (by decide) kbc); (replace hbc := below_grown hbc (Nat.le_trans hs1 hbc.size) oo hgp); clear oo hrp hgp y0 y1 y2 n1 n2; obtain ⟨y0, y1, y2, n1, n2⟩ := d_all kbc)
                | (obtain ⟨vo, wo, hro, oo, hgo, hbl⟩ := byte_run od os hz0' (Nat.le_trans hs1 hbc.size); refine stepAppE rfl (.tmp 70) (.tmp 74) 49 rfl _ _ vo wo (by first | rfl | (simp [Act.eval]; done) | (simp [Act.eval, Act.put]; done)) (by first | rfl | (simp [Act.eval]; done) | (simp [Act.eval, Act.put]; done)) hro ?_; (first | (have nb1 := apart_blk hbl nb0 ob; replace ob := owns_ne ob nb0 hgo) | skip); (first | (replace oa := owns_ne oa na0 hgo) | skip); (replace kbc := KeepT.grown od hgo _ _ _ (by decide) kbc); (replace hbc := below_grown hbc (Nat.le_trans hs1 hbc.size) od hgo); clear od os hro hgo hbl y0 y1 y2 n1 n2; obtain ⟨y0, y1, y2, n1, n2⟩ := d_all kbc)
                | (obtain ⟨vo, wo, hro, oo, hgo, hbl⟩ := byte_run (World.ownsRow.alloc od (.cells #[.int .u8 dm.kind] 5)) (owns_lit1 dm.kind (Nat.le_refl _)) hz0' (Nat.le_trans (Nat.le_trans hs1 hbc.size) (by simp)); refine stepAppE rfl (.tmp 70) (.tmp 74) 49 rfl _ _ vo wo (by first | rfl | (simp [Act.eval]; done) | (simp [Act.eval, Act.put]; done)) (by first | rfl | (simp [Act.eval]; done) | (simp [Act.eval, Act.put]; done)) hro ?_; (first | (have nb1 := apart_blk hbl nb0 (World.ownsRow.alloc ob _); replace ob := owns_ne (World.ownsRow.alloc ob _) nb0 hgo) | skip); (first | (replace oa := owns_ne (World.ownsRow.alloc oa _) na0 hgo) | skip); (replace kbc := KeepT.app od hgo _ _ _ (by decide) kbc); (replace hbc := below_grown (hbc.alloc (Nat.le_trans hs1 hbc.size) _) (Nat.le_trans (Nat.le_trans hs1 hbc.size) (by simp)) (World.ownsRow.alloc od _) hgo); clear od hro hgo hbl y0 y1 y2 n1 n2; obtain ⟨y0, y1, y2, n1, n2⟩ := d_all kbc)
                | (refine stepCallG 80 Try.func80 (by decide) rfl rfl (.tmp 81) 9 rfl (.string dm.v) (by first | rfl | (simp [Act.eval]; done)) (unhide CL _ (by first | exact hbc | exact hbc.alloc (Nat.le_trans hs1 hbc.size) _) dm.v (by omega)) ?_; rintro _ wb ⟨gb, cb2, rfl, ob, bb, hbb⟩; (first | (replace os := owns_below os bb) | (have os := owns_below (owns_lit1 dm.kind (Nat.le_refl _)) bb) | skip); (first | (have nb0 := apart_new od ob) | (have nb0 := apart_new (World.ownsRow.alloc od _) ob) | (have nb1 := apart_new oo ob) | skip); (first | (replace oa := owns_below oa bb) | (replace oa := owns_below (World.ownsRow.alloc oa _) bb) | skip); (first | (replace od := owns_below od bb) | (replace od := owns_below (World.ownsRow.alloc od _) bb) | skip); (first | (replace oo := owns_below oo bb) | skip); (first | (replace op := owns_below op bb) | skip); (replace kbc := (by first | exact KeepT.below bb _ _ _ (by decide) kbc | exact KeepT.below bb _ _ _ (by decide) (KeepT.alloc _ _ _ _ _ (by decide) kbc))); (replace hbc := hbb); clear bb hbb y0 y1 y2 n1 n2; obtain ⟨y0, y1, y2, n1, n2⟩ := d_all kbc)
                | (refine stepCallG 80 Try.func80 (by decide) rfl rfl (.tmp 77) 9 rfl (.string dm.k) (by first | rfl | (simp [Act.eval]; done) | (simp [Act.eval, Act.put]; done)) (unhide CL _ (by first | exact hbc | exact hbc.alloc (Nat.le_trans hs1 hbc.size) _) dm.k (by omega)) ?_; rintro _ wa ⟨ga, ca, rfl, oa, ba, hba⟩; (first | (replace os := owns_below os ba) | (have os := owns_below (owns_lit1 dm.kind (Nat.le_refl _)) ba) | skip); (first | (have na0 := apart_new od oa) | (have na0 := apart_new (World.ownsRow.alloc od _) oa) | skip); (first | (replace od := owns_below od ba) | (replace od := owns_below (World.ownsRow.alloc od _) ba) | skip); (first | (replace oo := owns_below oo ba) | skip); (first | (replace op := owns_below op ba) | skip); (replace kbc := (by first | exact KeepT.below ba _ _ _ (by decide) kbc | exact KeepT.below ba _ _ _ (by decide) (KeepT.alloc _ _ _ _ _ (by decide) kbc))); (replace hbc := hba); clear ba hba y0 y1 y2 n1 n2; obtain ⟨y0, y1, y2, n1, n2⟩ := d_all kbc))
              all_goals
                go_wp2_with fail
                go_meet
                case rel => exact ⟨oq, hbq, kq⟩
            case rest =>
              obtain ⟨ho, hb, hk⟩ := hcut
              obtain ⟨y0, y1, y2, y3⟩ := pg_c4 hk
              generalize zq ++ [dm.kind] ++ lineL dm.k ++ lineL dm.v = zv at *
              go_wp2_with (first
                | (go_at_call 81; refine (l04Two_any dm.to _ (by omega) (by omega)).mono ?_; rintro e w3 ⟨rfl, rfl⟩)
                | (at_builtin; refine wpList_append_own _ rfl _ _ 49 rfl (w.heap.size + 1) 5 i0 (.int .u8 0) 1 1 Try.underlying49 hi0 hz0 hz1 hz2 rfl (by decide) _ _ _ rfl (World.ownsRow.alloc ho _) ⟨wc.heap.size, 0, none⟩ 2 2 [.int .u8 (dm.to / 256), .int .u8 (dm.to % 256)] rfl rfl cell_two (two_u8 _ _) (by unfold maxLen; omega) (by omega) (by simp; have := (hb).size; omega) ?_))
              intro v8 w8 hown8 hgrow8 _
              have O8 := hide (show Owns w8 (w.heap.size + 1) v8 (zv ++ twoL dm.to) from owns_app2 hown8)
              have B8 := hide (below_app hb (Nat.le_trans hs1 hb.size) ho hgrow8)
              clear hown8 hgrow8 ho hb hk y0 y1 y2 y3
              go_wp2_with fail
              go_roundw
              case rel => exact ⟨q + 1, by go_num, by omega, by rw [unhide TZ]; exact unhide O8, unhide B8⟩
              case measure => simp [intOf]; omega
          · obtain rfl : q = nc := by omega
            have hde : ds.take q = ds := List.take_of_length_le (by rw [unhide LD]; exact Nat.le_refl _)
            rw [hde] at hO
            have hP : zc ++ delsL ds = pageL lo hi r es ds := by rw [pageL, unhide HHD, unhide HZE, unhide LD, unhide HZC]
            rw [hP] at hO
            have O9 := hide (owns_dn (unhide hO) (Nat.le_succ _))
            clear hde hP hO hB
            go_wp2_with fail
            go_ret
            exact ⟨_, rfl, unhide O9, unhide BW⟩
end Go.Proofs.Ytkggpapmhopaeaa
