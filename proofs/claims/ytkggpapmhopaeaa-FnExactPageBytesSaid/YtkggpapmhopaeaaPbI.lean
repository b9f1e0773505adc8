/-
  impl.PageBytes.
-/
import Derived.Test.YtkggpapmhopaeaaPbA
import Derived.Deep.RegionWith
namespace Go.Proofs.Ytkggpapmhopaeaa
open Go.RowKit

/-- What PageBytes answers. -/
def pbL (lo hi : ByteArray) (r : Int) (es : List EntD) (ds : List DelD) : List Int := if okPage lo hi r es ds = true then pageL lo hi r es ds else []
def pbC (lo hi : ByteArray) (r : Int) (es : List EntD) (ds : List DelD) : Int := if okPage lo hi r es ds = true then 0 else 1
def PbRes (lo hi : ByteArray) (r : Int) (es : List EntD) (ds : List DelD) (w : World) (e : Ending) (w' : World) : Prop :=
  ∃ v, e = .returned (.tuple #[v, .int .i64 (pbC lo hi r es ds)]) ∧ Owns w' w.heap.size v (pbL lo hi r es ds) ∧ Below w.heap.size w w'
theorem pb_bad {lo hi : ByteArray} {r : Int} {es : List EntD} {ds : List DelD} {w w' : World} {v : Value} (h : okPage lo hi r es ds = false) (ho : Owns w' w.heap.size v []) (hb : Below w.heap.size w w') : PbRes lo hi r es ds w (.returned (.tuple #[v, .int .i64 1])) w' := by
  have hn : ¬ okPage lo hi r es ds = true := by rw [h]; decide
  exact ⟨v, by rw [pbC, if_neg hn], by rw [pbL, if_neg hn]; exact ho, hb⟩
theorem owns_dn {w : World} {B C : Nat} {v : Value} {xs : List Int} (h : Owns w B v xs) (hc : C ≤ B) : Owns w C v xs := by
  obtain ⟨h1, h2⟩ := h
  refine ⟨h1, ?_⟩
  rcases h2 with h2 | ⟨g, cap, cur, e, hb, r⟩
  · exact .inl h2
  · exact .inr ⟨g, cap, cur, e, Nat.le_trans hc hb, r⟩
theorem pb_good {lo hi : ByteArray} {r : Int} {es : List EntD} {ds : List DelD} {w w' : World} {v : Value} {B : Nat} (h : okPage lo hi r es ds = true) (hB : w.heap.size ≤ B) (ho : Owns w' B v (pageL lo hi r es ds)) (hb : Below w.heap.size w w') : PbRes lo hi r es ds w (.returned (.tuple #[v, .int .i64 0])) w' :=
  ⟨v, by rw [pbC, if_pos h], by rw [pbL, if_pos h]; exact owns_dn ho hB, hb⟩
theorem pg_c5 {w : World} {b : Nat} {v0 v1 v2 v3 v4 : Value} {t : TypeId} (h : w.heap[b]? = some (.cells #[v0, v1, v2, v3, v4] t (0, 0))) : w.cell? ⟨b, 0, none⟩ = some v0 ∧ w.cell? ⟨b, 1, none⟩ = some v1 ∧ w.cell? ⟨b, 2, none⟩ = some v2 ∧ w.cell? ⟨b, 3, none⟩ = some v3 ∧ w.cell? ⟨b, 4, none⟩ = some v4 :=
  ⟨heap_cell2 h 0, heap_cell2 h 1, heap_cell2 h 2, heap_cell2 h 3, heap_cell2 h 4⟩
theorem pg_c2 {w : World} {b : Nat} {v0 v1 : Value} {t : TypeId} (h : w.heap[b]? = some (.cells #[v0, v1] t (0, 0))) : w.cell? ⟨b, 0, none⟩ = some v0 ∧ w.cell? ⟨b, 1, none⟩ = some v1 := ⟨heap_cell2 h 0, heap_cell2 h 1⟩
theorem pg_c4 {w : World} {b : Nat} {v0 v1 v2 v3 : Value} {t : TypeId} (h : w.heap[b]? = some (.cells #[v0, v1, v2, v3] t (0, 0))) : w.cell? ⟨b, 0, none⟩ = some v0 ∧ w.cell? ⟨b, 1, none⟩ = some v1 ∧ w.cell? ⟨b, 2, none⟩ = some v2 ∧ w.cell? ⟨b, 3, none⟩ = some v3 :=
  ⟨heap_cell2 h 0, heap_cell2 h 1, heap_cell2 h 2, heap_cell2 h 3⟩
/-- appendShort, along a call's walk. -/
theorem short_at {B : Nat} {W : World} (hW : B ≤ W.heap.size) (u : World) (hb : Below B W u) (v0 : Value) (zs : List Int) (t : ByteArray) (hz : zs.length ≤ 10000000) (ht : t.size ≤ 255) (ho : Owns u B v0 zs) :
    Calls Try.prog 61 #[v0, .string t] u fun e u' => ∃ v, e = .returned v ∧ Owns u' B v (zs ++ lineL t) ∧ Below B W u' ∧ KeepT u u' := by
  refine (appShort_any B v0 zs t u (Nat.le_trans hW hb.size) hz ht ho).mono ?_
  rintro e u' ⟨v, rfl, h1, h2, h3⟩
  exact ⟨v, rfl, h1, hb.trans h2, h3⟩
theorem two_at {B : Nat} {W : World} (hW : B ≤ W.heap.size) (u : World) (hb : Below B W u) (v0 : Value) (zs : List Int) (n : Int) (hz : zs.length ≤ 10000000) (h0 : 0 ≤ n) (h1 : n ≤ 65535) (ho : Owns u B v0 zs) :
    Calls Try.prog 62 #[v0, .int .i64 n] u fun e u' => ∃ v, e = .returned v ∧ Owns u' B v (zs ++ twoL n) ∧ Below B W u' ∧ KeepT u u' := by
  refine (appTwo_any B v0 zs n u (Nat.le_trans hW hb.size) hz h0 h1 ho).mono ?_
  rintro e u' ⟨v, rfl, h1, h2, h3⟩
  exact ⟨v, rfl, h1, hb.trans h2, h3⟩
abbrev pcs (lo hi : ByteArray) (r : Int) (ab : Option Addr) (nb cb : Nat) (ac : Option Addr) (nc cc : Nat) : Obj := .cells #[.string lo, .string hi, .int .i64 r, .slice ab nb cb, .slice ac nc cc] 31
set_option maxRecDepth 100000 in
set_option maxHeartbeats 8000000 in
theorem implPageBytes_any (lo hi : ByteArray) (r : Int) (ab : Option Addr) (nb cb : Nat) (es : List EntD) (ac : Option Addr) (nc cc : Nat) (ds : List DelD) (w : World) (hE : ERow w ab nb es) (hD : DRow w ac nc ds) :
    Calls Try.prog 27 #[pgv lo hi r ab nb cb ac nc cc] w fun e w' => PbRes lo hi r es ds w e w' := by
  obtain ⟨i0, hi0, hz0, hz1, hz2⟩ := info_parts Try.infoU8
  have b0 : Below w.heap.size w (w.alloc (.cells #[.string lo, .string hi, .int .i64 r, .slice ab nb cb, .slice ac nc cc] 31)) := (Below.refl _ _).alloc (Nat.le_refl _) _
  have k0 := heap_alloc_new w (.cells #[.string lo, .string hi, .int .i64 r, .slice ab nb cb, .slice ac nc cc] 31)
  have hsz : (w.alloc (.cells #[.string lo, .string hi, .int .i64 r, .slice ab nb cb, .slice ac nc cc] 31)).heap.size = w.heap.size + 1 := by simp
  have RE := hide hE
  have RD := hide hD
  have LE := hide hE.1
  have LD := hide hD.1
  clear hE hD
  go_enter Try.func27, Try.ntmps27
  go_wp2_with fail
  generalize w.alloc (.cells #[.string lo, .string hi, .int .i64 r, .slice ab nb cb, .slice ac nc cc] 31) = W at *
  refine (implPageOK_any lo hi r ab nb cb es ac nc cc ds W ((unhide RE).below b0) ((unhide RD).below b0)).mono ?_
  rintro e w1 ⟨rfl, hb1⟩
  rw [hsz] at hb1
  have BB := hide (b0.trans (hb1.mono (by omega)))
  have K := hide ((hb1.block w.heap.size (by omega)).trans k0)
  have hs1 : w.heap.size + 1 ≤ w1.heap.size := by have := hb1.size; omega
  clear b0 k0 hb1 hsz
  by_cases hok : okPage lo hi r es ds = true
  · rw [hok]
    have OK := hide hok
    obtain ⟨s1, s2, s3, s4, s5, s6, S7, S8⟩ := ok_small hok
    have H7 := hide S7
    have H8 := hide S8
    clear hok S7 S8
    obtain ⟨p0, p1, p2, p3, p4⟩ := pg_c5 (unhide K)
    have CS := hide (short_at (B := w.heap.size + 1) (W := w1) hs1)
    have CT := hide (two_at (B := w.heap.size + 1) (W := w1) hs1)
    go_upto_region 3 with fail
    go_cut [4] (fun v wc => Owns wc (w.heap.size + 1) v (lineL lo ++ lineL hi) ∧ Below (w.heap.size + 1) w1 wc ∧ KeepT w1 wc)
    case first =>
      have hz0' : ([] : List Int).length ≤ 10000000 := by simp
      have hz1' : ([] ++ lineL lo).length ≤ 10000000 := by rw [List.nil_append, lineL_length]; omega
      go_region_with (first
        | (go_at_call 61; refine (unhide CS _ hb2 v2 ([] ++ lineL lo) hi hz1' (by omega) ho2).mono ?_; rintro e w3 ⟨v3, rfl, ho3, hb3, hk3⟩)
        | (go_at_call 61; refine (unhide CS _ (by first | exact Below.refl _ _ | exact (Below.refl _ _).drew) (.slice none 0 0) [] lo hz0' (by omega) (owns_nil8 _ _)).mono ?_; rintro e w2 ⟨v2, rfl, ho2, hb2, hk2⟩; have y1 := (pg_c5 (hk2 _ _ _ (by decide) (unhide K))).2.1))
      all_goals
        go_wp2_with fail
        go_meet
        case rel => exact ⟨by rw [List.nil_append] at ho3; exact ho3, hb3, KeepT.trans hk2 hk3⟩
    case rest =>
      obtain ⟨ho, hb, hk⟩ := hcut
      replace K := hide (hk _ _ _ (by decide) (unhide K))
      clear hk p0 p1 p2 p3 p4
      obtain ⟨p0, p1, p2, p3, p4⟩ := pg_c5 (unhide K)
      have hz : (lineL lo ++ lineL hi).length ≤ 100 := by rw [List.length_append, lineL_length, lineL_length]; omega
      have hzt : (lineL lo ++ lineL hi ++ twoL (r + 1)).length ≤ 102 := by rw [List.length_append]; simp only [twoL, List.length_cons, List.length_nil]; omega
      have HL := hide (show lineL lo ++ lineL hi ++ twoL (r + 1) ++ [(nb : Int)] = headL lo hi r es.length by rw [headL, unhide LE])
      have hq1 : (nb : Int) % 256 = (nb : Int) := by have := unhide LE; omega
      have hq2 : (nc : Int) % 256 = (nc : Int) := by have := unhide LD; omega
      have hnb : nb ≤ 32 := by have := unhide LE; omega
      have hnc : nc ≤ 12 := by have := unhide LD; omega
      go_wp2_with (first
        | (go_at_call 62; refine (unhide CT _ hb _ _ (r + 1) (by omega) s3 (by omega) ho).mono ?_; rintro e w4 ⟨v4, rfl, ho4, hb4, hk4⟩; generalize lineL lo ++ lineL hi ++ twoL (r + 1) = zt at ho4 HL hzt; clear ho; replace K := hide (hk4 _ _ _ (by decide) (unhide K)); clear hk4 p0 p1 p2 p3 p4; obtain ⟨p0, p1, p2, p3, p4⟩ := pg_c5 (unhide K))
        | (at_builtin; refine wpList_append_own _ rfl _ _ 49 rfl (w.heap.size + 1) 5 i0 (.int .u8 0) 1 1 Try.underlying49 hi0 hz0 hz1 hz2 rfl (by decide) _ _ _ rfl (World.ownsRow.alloc ho4 _) ⟨w4.heap.size, 0, none⟩ 1 1 [.int .u8 (nb : Int)] rfl rfl (cell_one_new _ _ _) (one_u8 _) (by unfold maxLen; omega) (by omega) (by simp; have := (hb4).size; omega) ?_))
      intro v5 w5 hown5 hgrow5 _
      have O5 := hide (show Owns w5 (w.heap.size + 1) v5 (headL lo hi r es.length) by rw [← unhide HL]; exact owns_app hown5)
      have B5 := hide (below_app hb4 (Nat.le_trans hs1 hb4.size) ho4 hgrow5)
      replace K := hide (KeepT.app ho4 hgrow5 _ _ _ (by decide) (unhide K))
      have hhd := headL_length lo hi r es.length
      clear hown5 hgrow5 ho4 hb4 HL p0 p1 p2 p3 p4 hb hz hzt
      obtain ⟨p0, p1, p2, p3, p4⟩ := pg_c5 (unhide K)
      generalize hHD : headL lo hi r es.length = hd at *
      have HHD := hide hHD
      clear hHD
      go_wp2_with fail
      go_loopw [4, 33] (fun v i wr => ∃ j : Nat, i = .int .i64 (j : Int) ∧ j ≤ nb ∧ Hid (Owns wr (w.heap.size + 1) v (hd ++ entsL (es.take j))) ∧ Hid (Below (w.heap.size + 1) w1 wr) ∧ Hid (wr.heap[w.heap.size]? = some (.cells #[.string lo, .string hi, .int .i64 r, .slice ab nb cb, .slice ac nc cc] 31 (0, 0)))) (fun _ i _ => nb - (intOf i).toNat)
      case atStart => exact ⟨0, rfl, Nat.zero_le _, by rw [List.take_zero, show entsL [] = [] from rfl, List.append_nil]; exact unhide O5, unhide B5, unhide K⟩
      case round =>
        clear O5 B5 K p0 p1 p2 p3 p4
        obtain ⟨j, rfl, hj, hO, hB, hK⟩ := hrel
        have hl : (hd ++ entsL (es.take j)).length ≤ 7000 := by
          have h1 := entsL_le (es.take j) (fun i hi' => by have := unhide H7 i (by rw [List.length_take] at hi'; omega); simpa using this)
          rw [List.length_take] at h1
          rw [List.length_append]
          omega
        by_cases hlt : j < nb
        · have hje : j < es.length := by have := unhide LE; omega
          have BW := hide ((unhide BB).trans ((unhide hB).mono (by omega)))
          obtain ⟨b, off, rfl, c0, c1⟩ := ((unhide RE).below (unhide BW)).2 j hje
          have bA : Below wr.heap.size wr (wr.alloc (.cells #[.string es[j].k, .string es[j].v] 58)) := (Below.refl _ _).alloc (Nat.le_refl _) _
          have OA := hide (World.ownsRow.alloc (unhide hO) (.cells #[.string es[j].k, .string es[j].v] 58))
          have hwr := (unhide hB).size
          have BA := hide ((unhide hB).alloc (show w.heap.size + 1 ≤ wr.heap.size by omega) (.cells #[.string es[j].k, .string es[j].v] 58))
          have KB := hide (heap_alloc_new wr (.cells #[.string es[j].k, .string es[j].v] 58))
          have KP := hide (KeepT.below bA _ _ _ (by decide) (unhide hK))
          have TS := hide (show entsL (es.take (j + 1)) = entsL (es.take j) ++ entL es[j] by rw [takeG_snoc es j hje, entsL_snoc])
          have hs := unhide H7 j hje
          clear bA
          generalize es[j] = em at *
          have hl1 : (hd ++ entsL (es.take j) ++ lineL em.k).length ≤ 10000000 := by rw [List.length_append, lineL_length]; omega
          have hl0 : (hd ++ entsL (es.take j)).length ≤ 10000000 := by omega
          go_upto_region 9 with fail
          clear c0 c1
          generalize hWA : wr.alloc (.cells #[.string em.k, .string em.v] 58) = WA at *
          clear hWA
          obtain ⟨y0, y1⟩ := pg_c2 (unhide KB)
          have OD := hide (show Owns WA.drew _ _ _ from unhide OA)
          go_region_with (first
            | (go_at_call 61; refine (unhide CS _ hb2 v2 _ em.v hl1 (by omega) ho2).mono ?_; rintro e w3 ⟨v3, rfl, ho3, hb3, hk3⟩)
            | (go_at_call 61; refine (unhide CS WA.drew (unhide BA).drew _ _ em.k hl0 (by omega) (unhide OD)).mono ?_; rintro e w2 ⟨v2, rfl, ho2, hb2, hk2⟩; have z1 := (pg_c2 (hk2 _ _ _ (by decide) (unhide KB))).2))
          all_goals
            have OZ := hide ho3
            have BZ := hide hb3
            have KZ := hide (KeepT.trans hk2 hk3 _ _ _ (by decide) (unhide KP))
            clear ho2 hb2 hk2 ho3 hb3 hk3 y0 y1
            go_wp2_with fail
            go_roundw
            case rel => exact ⟨j + 1, by go_num, by omega, by rw [unhide TS, entL, ← List.append_assoc, ← List.append_assoc]; exact unhide OZ, unhide BZ, unhide KZ⟩
            case measure => simp [intOf]; omega
        · obtain rfl : j = nb := by omega
          obtain ⟨p0, p1, p2, p3, p4⟩ := pg_c5 (unhide hK)
          have hee : es.take j = es := List.take_of_length_le (by rw [unhide LE]; exact Nat.le_refl _)
          rw [hee] at hO hl
          clear hee
          have oo := unhide hO
          generalize hZE : hd ++ entsL es = ze at *
          have HZE := hide hZE
          clear hZE
          go_wp2_with (at_builtin; refine wpList_append_own _ rfl _ _ 49 rfl (w.heap.size + 1) 5 i0 (.int .u8 0) 1 1 Try.underlying49 hi0 hz0 hz1 hz2 rfl (by decide) _ _ _ rfl (World.ownsRow.alloc oo _) ⟨wr.heap.size, 0, none⟩ 1 1 [.int .u8 (nc : Int)] rfl rfl (cell_one_new _ _ _) (one_u8 _) (by unfold maxLen; omega) (by omega) (by simp; have := (unhide hB).size; omega) ?_)
          intro v6 w6 hown6 hgrow6 _
          have O6 := hide (owns_app hown6)
          have B6 := hide (below_app (unhide hB) (Nat.le_trans hs1 (unhide hB).size) oo hgrow6)
          have K6 := hide (KeepT.app oo hgrow6 _ _ _ (by decide) (unhide hK))
          have hl6 : (ze ++ [(nc : Int)]).length ≤ 7001 := by rw [List.length_append, List.length_singleton]; omega
          clear hown6 hgrow6 oo hO hB hK p0 p1 p2 p3 p4
          obtain ⟨p0, p1, p2, p3, p4⟩ := pg_c5 (unhide K6)
          generalize hZC : ze ++ [(nc : Int)] = zc at *
          have HZC := hide hZC
          clear hZC
          go_wp2_with fail
          go_loopw [4, 55] (fun v i wz => ∃ q : Nat, i = .int .i64 (q : Int) ∧ q ≤ nc ∧ Hid (Owns wz (w.heap.size + 1) v (zc ++ delsL (ds.take q))) ∧ Hid (Below (w.heap.size + 1) w1 wz)) (fun _ i _ => nc - (intOf i).toNat)
          case atStart => exact ⟨0, rfl, Nat.zero_le _, by rw [List.take_zero, show delsL [] = [] from rfl, List.append_nil]; exact unhide O6, unhide B6⟩
          case round =>
            clear O6 B6 K6 p0 p1 p2 p3 p4
            obtain ⟨q, rfl, hq, hO, hB⟩ := hrel
            have hl : (zc ++ delsL (ds.take q)).length ≤ 10000 := by
              have h1 := delsL_le (ds.take q) (fun i hi' => by have := unhide H8 i (by rw [List.length_take] at hi'; omega); simpa using this)
              rw [List.length_take] at h1
              rw [List.length_append]
              omega
            have BW := hide ((unhide BB).trans ((unhide hB).mono (by omega)))
            by_cases hlt : q < nc
            · have hqe : q < ds.length := by have := unhide LD; omega
              obtain ⟨b, off, rfl, c0, c1, c2, c3⟩ := ((unhide RD).below (unhide BW)).2 q hqe
              have OA := hide (World.ownsRow.alloc (unhide hO) (.cells #[.int .i64 ds[q].kind, .string ds[q].k, .string ds[q].v, .int .i64 ds[q].to] 44))
              have hwr := (unhide hB).size
              have BA := hide ((unhide hB).alloc (show w.heap.size + 1 ≤ wr.heap.size by omega) (.cells #[.int .i64 ds[q].kind, .string ds[q].k, .string ds[q].v, .int .i64 ds[q].to] 44))
              have KB := hide (heap_alloc_new wr (.cells #[.int .i64 ds[q].kind, .string ds[q].k, .string ds[q].v, .int .i64 ds[q].to] 44))
              have TS := hide (show delsL (ds.take (q + 1)) = delsL (ds.take q) ++ delL ds[q] by rw [takeG_snoc ds q hqe, delsL_snoc])
              have hs := unhide H8 q hqe
              generalize ds[q] = dm at *
              have TZ := hide (show zc ++ delsL (ds.take (q + 1)) = zc ++ delsL (ds.take q) ++ [dm.kind] ++ lineL dm.k ++ lineL dm.v ++ twoL dm.to by rw [unhide TS, delL]; simp)
              have hkq : dm.kind % 256 = dm.kind := by omega
              clear TS hO hB
              generalize zc ++ delsL (ds.take q) = zq at *
              have hl1 : (zq ++ [dm.kind] ++ lineL dm.k).length ≤ 10000000 := by rw [List.length_append, lineL_length, List.length_append, List.length_singleton]; omega
              have hl2 : (zq ++ [dm.kind] ++ lineL dm.k ++ lineL dm.v).length ≤ 10000000 := by rw [List.length_append, lineL_length, List.length_append, lineL_length, List.length_append, List.length_singleton]; omega
              have hl0 : (zq ++ [dm.kind]).length ≤ 10000000 := by rw [List.length_append, List.length_singleton]; omega
              go_upto_region 15 with fail
              clear c0 c1 c2 c3
              generalize hWA : wr.alloc (.cells #[.int .i64 dm.kind, .string dm.k, .string dm.v, .int .i64 dm.to] 44) = WA at *
              clear hWA
              obtain ⟨y0, y1, y2, y3⟩ := pg_c4 (unhide KB)
              have oa : Owns WA (w.heap.size + 1) _ zq := unhide OA
              go_upto_region 16 with (at_builtin; refine wpList_append_own _ rfl _ _ 49 rfl (w.heap.size + 1) 5 i0 (.int .u8 0) 1 1 Try.underlying49 hi0 hz0 hz1 hz2 rfl (by decide) _ _ _ rfl (World.ownsRow.alloc oa _) ⟨WA.heap.size, 0, none⟩ 1 1 [.int .u8 dm.kind] rfl rfl (cell_one_new _ _ _) (one_u8 _) (by unfold maxLen; omega) (by omega) (by simp; have := (unhide BA).size; omega) ?_)
              intro v7 w7 hown7 hgrow7 _
              have O7 := hide (owns_app hown7)
              have B7 := hide (below_app (unhide BA) (Nat.le_trans hs1 (unhide BA).size) oa hgrow7)
              replace KB := hide (KeepT.app oa hgrow7 _ _ _ (by decide) (unhide KB))
              clear hown7 hgrow7 oa OA BA y0 y1 y2 y3
              obtain ⟨y0, y1, y2, y3⟩ := pg_c4 (unhide KB)
              generalize zq ++ [dm.kind] = zk at *
              go_upto_region 16 with fail
              have OD := hide (show Owns w7.drew _ _ _ from unhide O7)
              go_region_with (first
                | (go_at_call 61; refine (unhide CS _ hb2 v2 _ dm.v hl1 (by omega) ho2).mono ?_; rintro e w3 ⟨v3, rfl, ho3, hb3, hk3⟩)
                | (go_at_call 61; refine (unhide CS w7.drew (unhide B7).drew _ _ dm.k hl0 (by omega) (unhide OD)).mono ?_; rintro e w2 ⟨v2, rfl, ho2, hb2, hk2⟩; have z1 := (pg_c4 (hk2 _ _ _ (by decide) (unhide KB))).2.2.1))
              all_goals
                have z3 := (pg_c4 (KeepT.trans hk2 hk3 _ _ _ (by decide) (unhide KB))).2.2.2
                clear ho2 hb2 hk2 hk3 y0 y1 y2 y3
                go_wp2_with (go_at_call 62; refine (unhide CT _ hb3 _ _ dm.to hl2 (by omega) (by omega) ho3).mono ?_; rintro e w8 ⟨v8, rfl, ho8, hb8, _⟩; (have O8 := hide ho8); (have B8 := hide hb8); clear ho3 hb3 ho8 hb8 z3)
                go_roundw
                case rel => exact ⟨q + 1, by go_num, by omega, by rw [unhide TZ]; exact unhide O8, unhide B8⟩
                case measure => simp [intOf]; omega
            · obtain rfl : q = nc := by omega
              have hde : ds.take q = ds := List.take_of_length_le (by rw [unhide LD]; exact Nat.le_refl _)
              rw [hde] at hO
              have hP : zc ++ delsL ds = pageL lo hi r es ds := by rw [pageL, unhide HHD, unhide HZE, unhide LD, unhide HZC]
              rw [hP] at hO
              have R := hide (pb_good (unhide OK) (Nat.le_succ _) (unhide hO) (unhide BW))
              clear hde hP hO hB
              go_wp2_with fail
              go_ret2
              exact unhide R
  · have hok : okPage lo hi r es ds = false := by simpa using hok
    rw [hok]
    have R := hide (pb_bad hok (owns_nil8 w1 _) (unhide BB))
    go_wp2_with fail
    go_ret2
    exact unhide R
end Go.Proofs.Ytkggpapmhopaeaa
