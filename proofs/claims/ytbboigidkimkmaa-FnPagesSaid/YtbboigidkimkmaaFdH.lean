/-
  A drawn page: the walk.
-/
import Derived.Test.YtbboigidkimkmaaFdG
import Derived.Test.YtbboigidkimkmaaPageW
import Derived.Deep.RegionWith
namespace Go.Proofs.Ytbboigidkimkmaa
open Go.RowKit

theorem DgSt.done {w wr : World} {p : Nat} {a : Option Addr} {n c : Nat} {xs : List Int} {K : Int} {lo hi : ByteArray} {r : Int} {a1 : Option Addr} {n1 c1 : Nat} {a2 : Option Addr} {n2 c2 : Nat} {es : List EntD} {ds : List DelD} (h : DgSt w wr p a n c xs K lo hi r (.slice a1 n1 c1) (.slice a2 n2 c2) es ds) (v0 v1 v2 v3 v4 : Value) :
    PgOwn (((((wr.setCell ⟨w.heap.size, 0, none⟩ v0).setCell ⟨w.heap.size, 1, none⟩ v1).setCell ⟨w.heap.size, 2, none⟩ v2).setCell ⟨w.heap.size, 3, none⟩ v3).setCell ⟨w.heap.size, 4, none⟩ v4) w.heap.size a1 n1 c1 a2 n2 c2 es ds ∧ Wrote p w (((((wr.setCell ⟨w.heap.size, 0, none⟩ v0).setCell ⟨w.heap.size, 1, none⟩ v1).setCell ⟨w.heap.size, 2, none⟩ v2).setCell ⟨w.heap.size, 3, none⟩ v3).setCell ⟨w.heap.size, 4, none⟩ v4) := by
  have st : ∀ (X : World) (j : Nat) (v : Value), PgOwn X (w.heap.size + 2) a1 n1 c1 a2 n2 c2 es ds → PgOwn (X.setCell ⟨w.heap.size, j, none⟩ v) (w.heap.size + 2) a1 n1 c1 a2 n2 c2 es ds := fun X j v h => h.wr (wr_one X _ j v) (fun i hi e => by have := (h.blk hi).1; omega)
  exact ⟨(st _ 4 v4 (st _ 3 v3 (st _ 2 v2 (st _ 1 v1 (st _ 0 v0 ⟨h.oe, h.od, own_apart2 h.oe h.od⟩))))).base (by omega), ((((h.wt.loc (Nat.le_refl _) 0 v0).loc (Nat.le_refl _) 1 v1).loc (Nat.le_refl _) 2 v2).loc (Nat.le_refl _) 3 v3).loc (Nat.le_refl _) 4 v4⟩
theorem slice_eown {w : World} {B : Nat} {v : Value} {es : List EntD} (h : EOwns w B v es) : ∃ a n c, v = .slice a n c := by
  rcases h.2 with ⟨e, _⟩ | ⟨g, cap, cur, e, _⟩
  · exact ⟨_, _, _, e⟩
  · exact ⟨_, _, _, e⟩
theorem slice_down {w : World} {B : Nat} {v : Value} {ds : List DelD} (h : DOwns w B v ds) : ∃ a n c, v = .slice a n c := by
  rcases h.2 with ⟨e, _⟩ | ⟨g, cap, cur, e, _⟩
  · exact ⟨_, _, _, e⟩
  · exact ⟨_, _, _, e⟩
set_option maxRecDepth 100000 in
set_option maxHeartbeats 16000000 in
theorem pageD_any (p : Nat) (a : Option Addr) (n c : Nat) (xs : List Int) (w : World) (h : Src w p a n c xs 0) :
    Calls Try.prog 19 #[.pointer (some ⟨p, 0, none⟩)] w fun e w' => ∃ lo hi r a1 n1 c1 a2 n2 c2 es ds, e = .returned (pgv lo hi r a1 n1 c1 a2 n2 c2) ∧ PgOwn w' w.heap.size a1 n1 c1 a2 n2 c2 es ds ∧ (okPage lo hi r es ds = true ∧ es.length ≤ 6 ∧ ds.length ≤ 6) ∧ Wrote p w w' := by
  have hp := cell_lt h.code
  have ha := src_code' h
  have b0 : Below w.heap.size w ((w.alloc (.cells #[.string ⟨#[]⟩, .string ⟨#[]⟩, .int .i64 0, .slice none 0 0, .slice none 0 0] 26)).alloc (.cells #[.string ⟨#[]⟩, .string ⟨#[]⟩, .int .i64 (-1), .slice none 0 0, .slice none 0 0] 26)) := ((Below.refl _ _).alloc (Nat.le_refl _) _).alloc (by simp) _
  have ST := hide (show DgSt w ((w.alloc (.cells #[.string ⟨#[]⟩, .string ⟨#[]⟩, .int .i64 0, .slice none 0 0, .slice none 0 0] 26)).alloc (.cells #[.string ⟨#[]⟩, .string ⟨#[]⟩, .int .i64 (-1), .slice none 0 0, .slice none 0 0] 26)) p a n c xs 0 ⟨#[]⟩ ⟨#[]⟩ (-1) (.slice none 0 0) (.slice none 0 0) [] [] by
    have b2 : Below (w.heap.size + 1) (w.alloc (.cells #[.string ⟨#[]⟩, .string ⟨#[]⟩, .int .i64 0, .slice none 0 0, .slice none 0 0] 26)) ((w.alloc (.cells #[.string ⟨#[]⟩, .string ⟨#[]⟩, .int .i64 0, .slice none 0 0, .slice none 0 0] 26)).alloc (.cells #[.string ⟨#[]⟩, .string ⟨#[]⟩, .int .i64 (-1), .slice none 0 0, .slice none 0 0] 26)) := (Below.refl _ _).alloc (by simp) _
    refine ⟨(b2.block w.heap.size (by omega)).trans (heap_alloc_new w _), ?_, World.ownsRow_nil _ _ _ _, World.ownsRow_nil _ _ _ _, h.below b0, wrote_below b0, hp, ha⟩
    have := heap_alloc_new (w.alloc (.cells #[.string ⟨#[]⟩, .string ⟨#[]⟩, .int .i64 0, .slice none 0 0, .slice none 0 0] 26)) (.cells #[.string ⟨#[]⟩, .string ⟨#[]⟩, .int .i64 (-1), .slice none 0 0, .slice none 0 0] 26)
    simpa using this)
  clear h b0 ha
  go_enter Try.func19, Try.ntmps19
  go_wp2_with fail
  generalize (w.alloc (.cells #[.string ⟨#[]⟩, .string ⟨#[]⟩, .int .i64 0, .slice none 0 0, .slice none 0 0] 26)).alloc (.cells #[.string ⟨#[]⟩, .string ⟨#[]⟩, .int .i64 (-1), .slice none 0 0, .slice none 0 0] 26) = W0 at *
  refine (chanceD_any p a n c xs 0 3 _ (unhide ST).src (by omega) (by omega) (by omega)).mono ?_
  rintro e w1 ⟨x, rfl, hw, hs⟩
  replace ST := hide ((unhide ST).draw hs hw)
  clear hw hs
  cases x with
  | true =>
    go_wp2_with fail
    refine (pick_any p (w1).heap.size 3 3 a n c xs 3 _ ((unhide ST).src.alloc _) (by omega) (by omega) (by omega) (by have := (unhide ST).lt; have := (unhide ST).wt.size; omega) (fun t => LowOK t) (fun i hi => ?_)).mono ?_
    · match i, hi with
      | 0, _ => exact ⟨_, by simp <;> rfl, low_a⟩
      | 1, _ => exact ⟨_, by simp <;> rfl, low_b⟩
      | 2, _ => exact ⟨_, by simp <;> rfl, low_c⟩
    rintro e w2 ⟨t, rfl, ht, ho, hs⟩
    replace ST := hide ((unhide ST).draw (hs) ((Wrote.alloc w1 p _).trans ho.wrote))
    obtain ⟨⟨p0, p1, p2, p3, p4⟩, fz⟩ := five_of (unhide ST).k2
    have f0 := fz 0
    clear ho hs fz
    go_wp2_with fail
    clear p0 p1 p2 p3 p4 f0
    replace ST := hide ((unhide ST).set (lo' := t) (hi' := ⟨#[]⟩) (r' := -1) 0 (.string t) rfl)
    have LO := hide ht
    clear ht
    generalize w2.setCell ⟨w.heap.size + 1, 0, none⟩ (.string t) = w3 at *
    refine (chanceD_any p a n c xs (3 + 3) 3 _ (unhide ST).src (by omega) (by omega) (by omega)).mono ?_
    rintro e w4 ⟨x, rfl, hw, hs⟩
    replace ST := hide ((unhide ST).draw hs hw)
    clear hw hs
    cases x with
    | true =>
      go_wp2_with fail
      refine (pick_any p (w4).heap.size 3 3 a n c xs (3 + 3 + 3) _ ((unhide ST).src.alloc _) (by omega) (by omega) (by omega) (by have := (unhide ST).lt; have := (unhide ST).wt.size; omega) (fun t => HighOK t) (fun i hi => ?_)).mono ?_
      · match i, hi with
        | 0, _ => exact ⟨_, by simp <;> rfl, .inl rfl⟩
        | 1, _ => exact ⟨_, by simp <;> rfl, .inr (.inl rfl)⟩
        | 2, _ => exact ⟨_, by simp <;> rfl, .inr (.inr rfl)⟩
      rintro e w5 ⟨u, rfl, hu, ho, hs⟩
      replace ST := hide ((unhide ST).draw (hs) ((Wrote.alloc w4 p _).trans ho.wrote))
      obtain ⟨⟨p0, p1, p2, p3, p4⟩, fz⟩ := five_of (unhide ST).k2
      have f1 := fz 1
      clear ho hs fz
      go_wp2_with fail
      clear p0 p1 p2 p3 p4 f1
      replace ST := hide ((unhide ST).set (lo' := t) (hi' := u) (r' := -1) 1 (.string u) rfl)
      have HU := hide hu
      clear hu
      generalize w5.setCell ⟨w.heap.size + 1, 1, none⟩ (.string u) = w6 at *
      refine (next_any p a n c xs (3 + 3 + 3 + 3) 5 _ (unhide ST).src (by omega) (by omega) (by omega)).mono ?_
      rintro e w7 ⟨r, rfl, hr0, hr1, ho, hs⟩
      replace ST := hide ((unhide ST).draw hs ho.wrote)
      obtain ⟨⟨p0, p1, p2, p3, p4⟩, fz⟩ := five_of (unhide ST).k2
      have f2 := fz 2
      clear ho hs fz
      go_wp2_with fail
      clear p0 p1 p2 p3 p4 f2
      replace ST := hide ((unhide ST).set (lo' := t) (hi' := u) (r' := r) 2 (.int .i64 r) rfl)
      have BO := hide (bounds_some (unhide LO) (unhide HU) hr0 hr1)
      clear hr0 hr1
      generalize w7.setCell ⟨w.heap.size + 1, 2, none⟩ (.int .i64 r) = w8 at *
      refine (next_any p a n c xs (3 + 3 + 3 + 3 + 3) 7 _ (unhide ST).src (by omega) (by omega) (by omega)).mono ?_
      rintro e w9 ⟨q, rfl, hq0, hq1, ho, hs⟩
      obtain ⟨q, rfl⟩ := Int.eq_ofNat_of_zero_le hq0
      replace ST := hide ((unhide ST).draw hs ho.wrote)
      clear ho hs
      go_wp2_with fail
      go_loopw [4] (fun i wr => ∃ (j : Nat) (K : Int) (es : List EntD) (vb : Value), i = .int .i64 j ∧ es.length + j ≤ 6 ∧ K + 20 * j ≤ 200 ∧ Hid (BaseOK t u es) ∧ Hid (DgSt w wr p a n c xs K t u r vb (.slice none 0 0) es [])) (fun i _ => (intOf i).toNat)
      case atStart => exact ⟨q, 3 + 3 + 3 + 3 + 3 + 3, [], _, rfl, by simp; omega, by omega, ⟨List.Pairwise.nil, fun e he => by cases he⟩, ST⟩
      case round =>
        clear ST
        obtain ⟨j, K, es, vb, rfl, hl, hK, BA, ST⟩ := hrel
        by_cases hj : 0 < j
        · obtain ⟨j, rfl⟩ : ∃ i, j = i + 1 := ⟨j - 1, by omega⟩
          have hji : (0 : Int) < (j : Int) + 1 := by omega
          have ej : (j : Int) + 1 - 1 = (j : Int) := by omega
          have wj : IntKind.i64.wrap (j : Int) = (j : Int) := by rw [IntKind.wrap_i64]; omega
          go_wp2_with fail
          refine (keyD_any p a n c xs K _ (unhide ST).src (by omega)).mono ?_
          rintro e wa ⟨k, rfl, hk, hw, hs⟩
          replace ST := hide ((unhide ST).draw hs hw)
          clear hw hs
          obtain ⟨⟨p0, p1, p2, p3, p4⟩, _⟩ := five_of (unhide ST).k2
          by_cases hin : inK t u k = true
          · have hge : Op.bytesLess k.toList t.toList = false := by unfold inK ltK at hin; simp only [Bool.and_eq_true, Bool.not_eq_true'] at hin; exact hin.1
            have hun : underK k u = true := by unfold inK at hin; simp only [Bool.and_eq_true] at hin; exact hin.2
            have KK := hide hk.1
            have IN := hide hin
            clear hk hin
            go_wp2_with fail
            refine (l04Under_any k u _).mono ?_
            rintro e wb ⟨rfl, hwb⟩
            subst wb
            rw [hun]
            have hform : (vb = .slice none 0 0 ∧ es = []) ∨ ∃ g cap, vb = .slice (some ⟨g, 0, none⟩) es.length cap ∧ es.length ≤ cap := by
              rcases (unhide ST).oe.2 with ⟨e, hn⟩ | ⟨g, cap, cur, e, _, _, hc, _⟩
              · exact .inl ⟨e, List.eq_nil_of_length_eq_zero hn⟩
              · exact .inr ⟨g, cap, e, hc⟩
            have CV := hide (show Calls Try.prog 50 #[.pointer (some ⟨p, 0, none⟩)] wa.drew fun e w' => ∃ t' : ByteArray, e = .returned (.string t') ∧ valK t' = true ∧ DgSt w w' p a n c xs (K + 3 + 3) t u r vb (.slice none 0 0) es [] from (valueD_any p a n c xs (K + 3) wa.drew ((unhide ST).draw (K' := K + 3) ((unhide ST).src.of_blocks' rfl (fun _ _ _ => rfl)) ⟨rfl, rfl, rfl, Nat.le_refl _, fun _ _ _ => rfl⟩ : DgSt w wa.drew p a n c xs (K + 3) t u r vb (.slice none 0 0) es []).src (by omega)).mono fun e w' ⟨v, h1, h2, h3, h4⟩ => ⟨v, h1, h2, (unhide ST).draw h4 ⟨h3.os, h3.tape, h3.output, h3.size, h3.block⟩⟩)
            have CP := hide (show ∀ (X : World) (v : ByteArray), valK v = true → DgSt w X p a n c xs (K + 3 + 3) t u r vb (.slice none 0 0) es [] → Calls Try.prog 49 #[vb, .agg #[.string k, .string v], .bool false] X fun e w' => ∃ g cap nn, e = .returned (.slice (some ⟨g, 0, none⟩) nn cap) ∧ (w'.cell? ⟨w.heap.size + 1, 3, none⟩ = some vb ∧ w'.frozen? ⟨w.heap.size + 1, 3, none⟩ = false) ∧ DgSt w (w'.setCell ⟨w.heap.size + 1, 3, none⟩ (.slice (some ⟨g, 0, none⟩) nn cap)) p a n c xs (K + 3 + 3) t u r (.slice (some ⟨g, 0, none⟩) nn cap) (.slice none 0 0) (putE es ⟨k, v⟩ false) [] ∧ BaseOK t u (putE es ⟨k, v⟩ false) from fun X v hv hX => by
              have hB := (unhide BA).put (e := ⟨k, v⟩) (by unfold okEnt; rw [unhide KK, hv, unhide IN]; rfl)
              rcases hform with ⟨rfl, rfl⟩ | ⟨g, cap, rfl, hc⟩
              · refine (l04Put_nil ⟨k, v⟩ X).mono ?_
                rintro e w' ⟨g, cap, h1, h2, h3⟩
                obtain ⟨⟨_, _, _, q3, _⟩, fz⟩ := five_of (hX.below h3).k2
                exact ⟨g, cap, 1, h1, ⟨q3, fz 3⟩, hX.base h3 (by have e : putE [] ⟨k, v⟩ false = [⟨k, v⟩] := rfl; rw [e]; exact h2), hB⟩
              · refine (l04Put_any g 0 es.length cap es ⟨k, v⟩ false X (erow_of_owns hX.oe) (by omega) hc).mono ?_
                rintro e w' ⟨g', cap', h1, h2, h3⟩
                obtain ⟨⟨_, _, _, q3, _⟩, fz⟩ := five_of (hX.below h3).k2
                exact ⟨g', cap', _, h1, ⟨q3, fz 3⟩, hX.base h3 h2, hB⟩)
            have LP := hide (fun v => putE_len es ⟨k, v⟩)
            go_wp2_with fail
            go_region_with (first
              | (go_at_call 50; refine (unhide CV).mono ?_; rintro e wc ⟨v, rfl, hv, hd⟩; obtain ⟨⟨_, _, _, q3, _⟩, _⟩ := five_of hd.k2; have HV := hide hv; have HD := hide hd; clear hv hd)
              | (go_at_call 49; refine (unhide CP _ _ (unhide HV) (unhide HD)).mono ?_; rintro e wd ⟨g, cap, nn, rfl, ⟨q5, q6⟩, hd, hb⟩; have HD2 := hide hd; have HB2 := hide hb; clear hd hb))
            all_goals
              go_wp2_with fail
              go_roundw
              case rel => exact ⟨j, K + 3 + 3, _, _, by go_num, by have := unhide LP v; omega, by omega, HB2, HD2⟩
              case measure => simp [intOf]
          · have hin' : inK t u k = false := by simpa using hin
            by_cases hge : Op.bytesLess k.toList t.toList = true
            · go_wp2_with fail
              go_roundw
              case rel => exact ⟨j, K + 3, es, vb, by go_num, by omega, by omega, BA, ST⟩
              case measure => simp [intOf]
            · have hge : Op.bytesLess k.toList t.toList = false := by simpa using hge
              have hun : underK k u = false := by unfold inK ltK at hin'; rw [hge] at hin'; simpa [underK, ltK] using hin'
              go_wp2_with fail
              refine (l04Under_any k u _).mono ?_
              rintro e wb ⟨rfl, hwb⟩
              subst wb
              rw [hun]
              go_wp2_with fail
              go_roundw
              case rel => exact ⟨j, K + 3, es, vb, by go_num, by omega, by omega, BA, ST⟩
              case measure => simp [intOf]
        · obtain rfl : j = 0 := by omega
          go_wp2_with fail
          refine (next_any p a n c xs K 6 _ (unhide ST).src (by omega) (by omega) (by omega)).mono ?_
          rintro e wf ⟨q2, rfl, hq20, hq21, ho, hs⟩
          obtain ⟨q2, rfl⟩ := Int.eq_ofNat_of_zero_le hq20
          replace ST := hide ((unhide ST).draw hs ho.wrote)
          clear ho hs
          go_wp2_with fail
          go_loopw [6] (fun i wr => ∃ (j : Nat) (K : Int) (ds : List DelD) (vc : Value), i = .int .i64 j ∧ ds.length + j ≤ 6 ∧ K + 20 * j ≤ 400 ∧ Hid (okChain t u ds = true) ∧ Hid (DgSt w wr p a n c xs K t u r vb vc es ds)) (fun i _ => (intOf i).toNat)
          case atStart => exact ⟨q2, K + 3, [], _, rfl, by simp; omega, by omega, hide rfl, ST⟩
          case round =>
            clear ST
            obtain ⟨j, K, ds, vc, rfl, hm, hK, CH, ST⟩ := hrel
            obtain ⟨ac, nc, cc, rfl⟩ := slice_down (unhide ST).od
            have hnc : nc ≤ 100 := by have := (drow_of_owns (unhide ST).od).1; omega
            by_cases hj : 0 < j
            · obtain ⟨j, rfl⟩ : ∃ i, j = i + 1 := ⟨j - 1, by omega⟩
              have hji : (0 : Int) < (j : Int) + 1 := by omega
              have ej : (j : Int) + 1 - 1 = (j : Int) := by omega
              have wj : IntKind.i64.wrap (j : Int) = (j : Int) := by rw [IntKind.wrap_i64]; omega
              go_wp2_with fail
              refine (deltaD_any p a n c xs K _ (unhide ST).src (by omega)).mono ?_
              rintro e wa ⟨d, rfl, hw, hs⟩
              replace ST := hide ((unhide ST).draw hs hw)
              clear hw hs
              unfold dV
              have KB := hide (heap_alloc_new wa (.cells #[.int .i64 d.kind, .string d.k, .string d.v, .int .i64 d.to] 41))
              replace ST := hide ((unhide ST).below ((Below.refl _ _).alloc (Nat.le_refl _) (.cells #[.int .i64 d.kind, .string d.k, .string d.v, .int .i64 d.to] 41)))
              go_upto_region 17 with fail
              generalize wa.alloc (.cells #[.int .i64 d.kind, .string d.k, .string d.v, .int .i64 d.to] 41) = wb at *
              generalize wa.heap.size = bo at *
              obtain ⟨⟨p0, p1, p2, p3, p4⟩, _⟩ := five_of (unhide ST).k2
              go_wp2_with fail
              clear p0 p1 p2 p3 p4
              refine (l04Bounds_any t u r vb ac nc cc ds _ (drow_of_owns (unhide ST).od) (by omega)).mono ?_
              rintro e wc ⟨rfl, hb⟩
              replace ST := hide ((unhide ST).below hb)
              replace KB := hide ((hb.block bo (heap_ltD (unhide KB))).trans (unhide KB))
              clear hb
              obtain ⟨⟨p0, p1, p2, p3, p4⟩, _⟩ := five_of (unhide ST).k2
              obtain ⟨d0, d1, d2, d3⟩ := d_cells (unhide KB)
              go_wp2_with fail
              clear p0 p1 p2 p3 p4 d0 d1 d2 d3
              refine (l04Delta_any d t (highE u ds) _).mono ?_
              rintro e wd ⟨rfl, hb⟩
              replace ST := hide ((unhide ST).below hb)
              replace KB := hide ((hb.block bo (heap_ltD (unhide KB))).trans (unhide KB))
              clear hb
              by_cases hd : okDel t (highE u ds) d = true
              · rw [hd]
                have CH2 := hide (okChain_snoc (unhide CH) hd)
                have by' : Below wd.heap.size wd (wd.alloc (.cells #[.int .i64 d.kind, .string d.k, .string d.v, .int .i64 d.to] 41)) := (Below.refl _ _).alloc (Nat.le_refl _) _
                have SY := (unhide ST).below by'
                have KD := drow_one (heap_alloc_new wd (.cells #[.int .i64 d.kind, .string d.k, .string d.v, .int .i64 d.to] 41))
                have hz := heap_ltD SY.k2
                obtain ⟨v6, w6, hr6, hO6, hg6, _⟩ := run_appD (c := 1) 24 SY.od KD (by omega) (by omega) (fun h => by cases h) (by omega)
                obtain ⟨a6, n6, c6, rfl⟩ := slice_down hO6
                have S6 := hide (SY.chain hg6 hO6)
                obtain ⟨⟨_, _, _, _, x4⟩, fz⟩ := five_of ((hg6.block (w.heap.size + 1) hz (fun e => by have := (SY.od.lt _ e.symm).1; omega)).trans SY.k2)
                have x5 := fz 4
                obtain ⟨⟨_, _, _, _, p4⟩, _⟩ := five_of (unhide ST).k2
                obtain ⟨d0, d1, d2, d3⟩ := d_cells (unhide KB)
                clear KD SY hO6 hg6 fz by' hz hd
                go_wp2_with (at_builtin; refine wpAppE rfl (.tmp 71) (.tmp 73) 24 rfl _ _ _ w6 rfl rfl hr6 ?_)
                go_roundw
                case rel => exact ⟨j, K + 12, ds ++ [d], .slice a6 n6 c6, by go_num, by simp; omega, by omega, CH2, S6⟩
                case measure => simp [intOf]
              · rw [show okDel t (highE u ds) d = false by simpa using hd]
                go_wp2_with fail
                go_roundw
                case rel => exact ⟨j, K + 12, ds, _, by go_num, by omega, by omega, CH, ST⟩
                case measure => simp [intOf]
            · obtain rfl : j = 0 := by omega
              obtain ⟨a1, n1, c1, rfl⟩ := slice_eown (unhide ST).oe
              obtain ⟨⟨p0, p1, p2, p3, p4⟩, _⟩ := five_of (unhide ST).k2
              obtain ⟨⟨e0, e1, e2, e3, e4⟩, fz⟩ := five_of (unhide ST).k1
              have f0 := fz 0
              have f1 := fz 1
              have f2 := fz 2
              have f3 := fz 3
              have f4 := fz 4
              clear fz
              have DN := hide ((unhide ST).done (.string t) (.string u) (.int .i64 r) (.slice a1 n1 c1) (.slice ac nc cc))
              have OK := hide (okPage_of (unhide BO) (unhide BA) (unhide CH) (by omega) (by omega))
              go_wp2_with fail
              refine bodyPost_ret (v := pgv t u r a1 n1 c1 ac nc cc) (by simp [results, Try.results19, go_sem, pgv, *] <;> rfl) rfl ?_
              exact ⟨t, u, r, a1, n1, c1, ac, nc, cc, es, ds, rfl, (unhide DN).1, ⟨unhide OK, by omega, by omega⟩, (unhide DN).2⟩
    | false =>
      obtain ⟨u, hU⟩ : ∃ t : ByteArray, t = ⟨#[]⟩ := ⟨_, rfl⟩
      obtain ⟨r, hR⟩ : ∃ r : Int, r = -1 := ⟨_, rfl⟩
      have BO := hide (show okBounds t u r = true by rw [hU, hR]; exact bounds_none (unhide LO))
      replace ST := hide (show DgSt w w4 p a n c xs (3 + 3 + 3) t u r (.slice none 0 0) (.slice none 0 0) [] [] by rw [hU, hR]; exact unhide ST)
      clear hU hR
      replace ST := hide ((unhide ST).more (show (3 + 3 + 3 : Int) ≤ 3 + 3 + 3 + 3 + 3 by omega))
      go_wp2_with fail
      refine (next_any p a n c xs (3 + 3 + 3 + 3 + 3) 7 _ (unhide ST).src (by omega) (by omega) (by omega)).mono ?_
      rintro e w9 ⟨q, rfl, hq0, hq1, ho, hs⟩
      obtain ⟨q, rfl⟩ := Int.eq_ofNat_of_zero_le hq0
      replace ST := hide ((unhide ST).draw hs ho.wrote)
      clear ho hs
      go_wp2_with fail
      go_loopw [4] (fun i wr => ∃ (j : Nat) (K : Int) (es : List EntD) (vb : Value), i = .int .i64 j ∧ es.length + j ≤ 6 ∧ K + 20 * j ≤ 200 ∧ Hid (BaseOK t u es) ∧ Hid (DgSt w wr p a n c xs K t u r vb (.slice none 0 0) es [])) (fun i _ => (intOf i).toNat)
      case atStart => exact ⟨q, 3 + 3 + 3 + 3 + 3 + 3, [], _, rfl, by simp; omega, by omega, ⟨List.Pairwise.nil, fun e he => by cases he⟩, ST⟩
      case round =>
        clear ST
        obtain ⟨j, K, es, vb, rfl, hl, hK, BA, ST⟩ := hrel
        by_cases hj : 0 < j
        · obtain ⟨j, rfl⟩ : ∃ i, j = i + 1 := ⟨j - 1, by omega⟩
          have hji : (0 : Int) < (j : Int) + 1 := by omega
          have ej : (j : Int) + 1 - 1 = (j : Int) := by omega
          have wj : IntKind.i64.wrap (j : Int) = (j : Int) := by rw [IntKind.wrap_i64]; omega
          go_wp2_with fail
          refine (keyD_any p a n c xs K _ (unhide ST).src (by omega)).mono ?_
          rintro e wa ⟨k, rfl, hk, hw, hs⟩
          replace ST := hide ((unhide ST).draw hs hw)
          clear hw hs
          obtain ⟨⟨p0, p1, p2, p3, p4⟩, _⟩ := five_of (unhide ST).k2
          by_cases hin : inK t u k = true
          · have hge : Op.bytesLess k.toList t.toList = false := by unfold inK ltK at hin; simp only [Bool.and_eq_true, Bool.not_eq_true'] at hin; exact hin.1
            have hun : underK k u = true := by unfold inK at hin; simp only [Bool.and_eq_true] at hin; exact hin.2
            have KK := hide hk.1
            have IN := hide hin
            clear hk hin
            go_wp2_with fail
            refine (l04Under_any k u _).mono ?_
            rintro e wb ⟨rfl, hwb⟩
            subst wb
            rw [hun]
            have hform : (vb = .slice none 0 0 ∧ es = []) ∨ ∃ g cap, vb = .slice (some ⟨g, 0, none⟩) es.length cap ∧ es.length ≤ cap := by
              rcases (unhide ST).oe.2 with ⟨e, hn⟩ | ⟨g, cap, cur, e, _, _, hc, _⟩
              · exact .inl ⟨e, List.eq_nil_of_length_eq_zero hn⟩
              · exact .inr ⟨g, cap, e, hc⟩
            have CV := hide (show Calls Try.prog 50 #[.pointer (some ⟨p, 0, none⟩)] wa.drew fun e w' => ∃ t' : ByteArray, e = .returned (.string t') ∧ valK t' = true ∧ DgSt w w' p a n c xs (K + 3 + 3) t u r vb (.slice none 0 0) es [] from (valueD_any p a n c xs (K + 3) wa.drew ((unhide ST).draw (K' := K + 3) ((unhide ST).src.of_blocks' rfl (fun _ _ _ => rfl)) ⟨rfl, rfl, rfl, Nat.le_refl _, fun _ _ _ => rfl⟩ : DgSt w wa.drew p a n c xs (K + 3) t u r vb (.slice none 0 0) es []).src (by omega)).mono fun e w' ⟨v, h1, h2, h3, h4⟩ => ⟨v, h1, h2, (unhide ST).draw h4 ⟨h3.os, h3.tape, h3.output, h3.size, h3.block⟩⟩)
            have CP := hide (show ∀ (X : World) (v : ByteArray), valK v = true → DgSt w X p a n c xs (K + 3 + 3) t u r vb (.slice none 0 0) es [] → Calls Try.prog 49 #[vb, .agg #[.string k, .string v], .bool false] X fun e w' => ∃ g cap nn, e = .returned (.slice (some ⟨g, 0, none⟩) nn cap) ∧ (w'.cell? ⟨w.heap.size + 1, 3, none⟩ = some vb ∧ w'.frozen? ⟨w.heap.size + 1, 3, none⟩ = false) ∧ DgSt w (w'.setCell ⟨w.heap.size + 1, 3, none⟩ (.slice (some ⟨g, 0, none⟩) nn cap)) p a n c xs (K + 3 + 3) t u r (.slice (some ⟨g, 0, none⟩) nn cap) (.slice none 0 0) (putE es ⟨k, v⟩ false) [] ∧ BaseOK t u (putE es ⟨k, v⟩ false) from fun X v hv hX => by
              have hB := (unhide BA).put (e := ⟨k, v⟩) (by unfold okEnt; rw [unhide KK, hv, unhide IN]; rfl)
              rcases hform with ⟨rfl, rfl⟩ | ⟨g, cap, rfl, hc⟩
              · refine (l04Put_nil ⟨k, v⟩ X).mono ?_
                rintro e w' ⟨g, cap, h1, h2, h3⟩
                obtain ⟨⟨_, _, _, q3, _⟩, fz⟩ := five_of (hX.below h3).k2
                exact ⟨g, cap, 1, h1, ⟨q3, fz 3⟩, hX.base h3 (by have e : putE [] ⟨k, v⟩ false = [⟨k, v⟩] := rfl; rw [e]; exact h2), hB⟩
              · refine (l04Put_any g 0 es.length cap es ⟨k, v⟩ false X (erow_of_owns hX.oe) (by omega) hc).mono ?_
                rintro e w' ⟨g', cap', h1, h2, h3⟩
                obtain ⟨⟨_, _, _, q3, _⟩, fz⟩ := five_of (hX.below h3).k2
                exact ⟨g', cap', _, h1, ⟨q3, fz 3⟩, hX.base h3 h2, hB⟩)
            have LP := hide (fun v => putE_len es ⟨k, v⟩)
            go_wp2_with fail
            go_region_with (first
              | (go_at_call 50; refine (unhide CV).mono ?_; rintro e wc ⟨v, rfl, hv, hd⟩; obtain ⟨⟨_, _, _, q3, _⟩, _⟩ := five_of hd.k2; have HV := hide hv; have HD := hide hd; clear hv hd)
              | (go_at_call 49; refine (unhide CP _ _ (unhide HV) (unhide HD)).mono ?_; rintro e wd ⟨g, cap, nn, rfl, ⟨q5, q6⟩, hd, hb⟩; have HD2 := hide hd; have HB2 := hide hb; clear hd hb))
            all_goals
              go_wp2_with fail
              go_roundw
              case rel => exact ⟨j, K + 3 + 3, _, _, by go_num, by have := unhide LP v; omega, by omega, HB2, HD2⟩
              case measure => simp [intOf]
          · have hin' : inK t u k = false := by simpa using hin
            by_cases hge : Op.bytesLess k.toList t.toList = true
            · go_wp2_with fail
              go_roundw
              case rel => exact ⟨j, K + 3, es, vb, by go_num, by omega, by omega, BA, ST⟩
              case measure => simp [intOf]
            · have hge : Op.bytesLess k.toList t.toList = false := by simpa using hge
              have hun : underK k u = false := by unfold inK ltK at hin'; rw [hge] at hin'; simpa [underK, ltK] using hin'
              go_wp2_with fail
              refine (l04Under_any k u _).mono ?_
              rintro e wb ⟨rfl, hwb⟩
              subst wb
              rw [hun]
              go_wp2_with fail
              go_roundw
              case rel => exact ⟨j, K + 3, es, vb, by go_num, by omega, by omega, BA, ST⟩
              case measure => simp [intOf]
        · obtain rfl : j = 0 := by omega
          go_wp2_with fail
          refine (next_any p a n c xs K 6 _ (unhide ST).src (by omega) (by omega) (by omega)).mono ?_
          rintro e wf ⟨q2, rfl, hq20, hq21, ho, hs⟩
          obtain ⟨q2, rfl⟩ := Int.eq_ofNat_of_zero_le hq20
          replace ST := hide ((unhide ST).draw hs ho.wrote)
          clear ho hs
          go_wp2_with fail
          go_loopw [6] (fun i wr => ∃ (j : Nat) (K : Int) (ds : List DelD) (vc : Value), i = .int .i64 j ∧ ds.length + j ≤ 6 ∧ K + 20 * j ≤ 400 ∧ Hid (okChain t u ds = true) ∧ Hid (DgSt w wr p a n c xs K t u r vb vc es ds)) (fun i _ => (intOf i).toNat)
          case atStart => exact ⟨q2, K + 3, [], _, rfl, by simp; omega, by omega, hide rfl, ST⟩
          case round =>
            clear ST
            obtain ⟨j, K, ds, vc, rfl, hm, hK, CH, ST⟩ := hrel
            obtain ⟨ac, nc, cc, rfl⟩ := slice_down (unhide ST).od
            have hnc : nc ≤ 100 := by have := (drow_of_owns (unhide ST).od).1; omega
            by_cases hj : 0 < j
            · obtain ⟨j, rfl⟩ : ∃ i, j = i + 1 := ⟨j - 1, by omega⟩
              have hji : (0 : Int) < (j : Int) + 1 := by omega
              have ej : (j : Int) + 1 - 1 = (j : Int) := by omega
              have wj : IntKind.i64.wrap (j : Int) = (j : Int) := by rw [IntKind.wrap_i64]; omega
              go_wp2_with fail
              refine (deltaD_any p a n c xs K _ (unhide ST).src (by omega)).mono ?_
              rintro e wa ⟨d, rfl, hw, hs⟩
              replace ST := hide ((unhide ST).draw hs hw)
              clear hw hs
              unfold dV
              have KB := hide (heap_alloc_new wa (.cells #[.int .i64 d.kind, .string d.k, .string d.v, .int .i64 d.to] 41))
              replace ST := hide ((unhide ST).below ((Below.refl _ _).alloc (Nat.le_refl _) (.cells #[.int .i64 d.kind, .string d.k, .string d.v, .int .i64 d.to] 41)))
              go_upto_region 17 with fail
              generalize wa.alloc (.cells #[.int .i64 d.kind, .string d.k, .string d.v, .int .i64 d.to] 41) = wb at *
              generalize wa.heap.size = bo at *
              obtain ⟨⟨p0, p1, p2, p3, p4⟩, _⟩ := five_of (unhide ST).k2
              go_wp2_with fail
              clear p0 p1 p2 p3 p4
              refine (l04Bounds_any t u r vb ac nc cc ds _ (drow_of_owns (unhide ST).od) (by omega)).mono ?_
              rintro e wc ⟨rfl, hb⟩
              replace ST := hide ((unhide ST).below hb)
              replace KB := hide ((hb.block bo (heap_ltD (unhide KB))).trans (unhide KB))
              clear hb
              obtain ⟨⟨p0, p1, p2, p3, p4⟩, _⟩ := five_of (unhide ST).k2
              obtain ⟨d0, d1, d2, d3⟩ := d_cells (unhide KB)
              go_wp2_with fail
              clear p0 p1 p2 p3 p4 d0 d1 d2 d3
              refine (l04Delta_any d t (highE u ds) _).mono ?_
              rintro e wd ⟨rfl, hb⟩
              replace ST := hide ((unhide ST).below hb)
              replace KB := hide ((hb.block bo (heap_ltD (unhide KB))).trans (unhide KB))
              clear hb
              by_cases hd : okDel t (highE u ds) d = true
              · rw [hd]
                have CH2 := hide (okChain_snoc (unhide CH) hd)
                have by' : Below wd.heap.size wd (wd.alloc (.cells #[.int .i64 d.kind, .string d.k, .string d.v, .int .i64 d.to] 41)) := (Below.refl _ _).alloc (Nat.le_refl _) _
                have SY := (unhide ST).below by'
                have KD := drow_one (heap_alloc_new wd (.cells #[.int .i64 d.kind, .string d.k, .string d.v, .int .i64 d.to] 41))
                have hz := heap_ltD SY.k2
                obtain ⟨v6, w6, hr6, hO6, hg6, _⟩ := run_appD (c := 1) 24 SY.od KD (by omega) (by omega) (fun h => by cases h) (by omega)
                obtain ⟨a6, n6, c6, rfl⟩ := slice_down hO6
                have S6 := hide (SY.chain hg6 hO6)
                obtain ⟨⟨_, _, _, _, x4⟩, fz⟩ := five_of ((hg6.block (w.heap.size + 1) hz (fun e => by have := (SY.od.lt _ e.symm).1; omega)).trans SY.k2)
                have x5 := fz 4
                obtain ⟨⟨_, _, _, _, p4⟩, _⟩ := five_of (unhide ST).k2
                obtain ⟨d0, d1, d2, d3⟩ := d_cells (unhide KB)
                clear KD SY hO6 hg6 fz by' hz hd
                go_wp2_with (at_builtin; refine wpAppE rfl (.tmp 71) (.tmp 73) 24 rfl _ _ _ w6 rfl rfl hr6 ?_)
                go_roundw
                case rel => exact ⟨j, K + 12, ds ++ [d], .slice a6 n6 c6, by go_num, by simp; omega, by omega, CH2, S6⟩
                case measure => simp [intOf]
              · rw [show okDel t (highE u ds) d = false by simpa using hd]
                go_wp2_with fail
                go_roundw
                case rel => exact ⟨j, K + 12, ds, _, by go_num, by omega, by omega, CH, ST⟩
                case measure => simp [intOf]
            · obtain rfl : j = 0 := by omega
              obtain ⟨a1, n1, c1, rfl⟩ := slice_eown (unhide ST).oe
              obtain ⟨⟨p0, p1, p2, p3, p4⟩, _⟩ := five_of (unhide ST).k2
              obtain ⟨⟨e0, e1, e2, e3, e4⟩, fz⟩ := five_of (unhide ST).k1
              have f0 := fz 0
              have f1 := fz 1
              have f2 := fz 2
              have f3 := fz 3
              have f4 := fz 4
              clear fz
              have DN := hide ((unhide ST).done (.string t) (.string u) (.int .i64 r) (.slice a1 n1 c1) (.slice ac nc cc))
              have OK := hide (okPage_of (unhide BO) (unhide BA) (unhide CH) (by omega) (by omega))
              go_wp2_with fail
              refine bodyPost_ret (v := pgv t u r a1 n1 c1 ac nc cc) (by simp [results, Try.results19, go_sem, pgv, *] <;> rfl) rfl ?_
              exact ⟨t, u, r, a1, n1, c1, ac, nc, cc, es, ds, rfl, (unhide DN).1, ⟨unhide OK, by omega, by omega⟩, (unhide DN).2⟩
  | false =>
    obtain ⟨t, hT⟩ : ∃ t : ByteArray, t = ⟨#[]⟩ := ⟨_, rfl⟩
    have LO := hide (show LowOK t by rw [hT]; exact low_none)
    replace ST := hide (show DgSt w w1 p a n c xs 3 t ⟨#[]⟩ (-1) (.slice none 0 0) (.slice none 0 0) [] [] by rw [hT]; exact unhide ST)
    clear hT
    replace ST := hide ((unhide ST).more (show (3 : Int) ≤ 3 + 3 by omega))
    go_wp2_with fail
    refine (chanceD_any p a n c xs (3 + 3) 3 _ (unhide ST).src (by omega) (by omega) (by omega)).mono ?_
    rintro e w4 ⟨x, rfl, hw, hs⟩
    replace ST := hide ((unhide ST).draw hs hw)
    clear hw hs
    cases x with
    | true =>
      go_wp2_with fail
      refine (pick_any p (w4).heap.size 3 3 a n c xs (3 + 3 + 3) _ ((unhide ST).src.alloc _) (by omega) (by omega) (by omega) (by have := (unhide ST).lt; have := (unhide ST).wt.size; omega) (fun t => HighOK t) (fun i hi => ?_)).mono ?_
      · match i, hi with
        | 0, _ => exact ⟨_, by simp <;> rfl, .inl rfl⟩
        | 1, _ => exact ⟨_, by simp <;> rfl, .inr (.inl rfl)⟩
        | 2, _ => exact ⟨_, by simp <;> rfl, .inr (.inr rfl)⟩
      rintro e w5 ⟨u, rfl, hu, ho, hs⟩
      replace ST := hide ((unhide ST).draw (hs) ((Wrote.alloc w4 p _).trans ho.wrote))
      obtain ⟨⟨p0, p1, p2, p3, p4⟩, fz⟩ := five_of (unhide ST).k2
      have f1 := fz 1
      clear ho hs fz
      go_wp2_with fail
      clear p0 p1 p2 p3 p4 f1
      replace ST := hide ((unhide ST).set (lo' := t) (hi' := u) (r' := -1) 1 (.string u) rfl)
      have HU := hide hu
      clear hu
      generalize w5.setCell ⟨w.heap.size + 1, 1, none⟩ (.string u) = w6 at *
      refine (next_any p a n c xs (3 + 3 + 3 + 3) 5 _ (unhide ST).src (by omega) (by omega) (by omega)).mono ?_
      rintro e w7 ⟨r, rfl, hr0, hr1, ho, hs⟩
      replace ST := hide ((unhide ST).draw hs ho.wrote)
      obtain ⟨⟨p0, p1, p2, p3, p4⟩, fz⟩ := five_of (unhide ST).k2
      have f2 := fz 2
      clear ho hs fz
      go_wp2_with fail
      clear p0 p1 p2 p3 p4 f2
      replace ST := hide ((unhide ST).set (lo' := t) (hi' := u) (r' := r) 2 (.int .i64 r) rfl)
      have BO := hide (bounds_some (unhide LO) (unhide HU) hr0 hr1)
      clear hr0 hr1
      generalize w7.setCell ⟨w.heap.size + 1, 2, none⟩ (.int .i64 r) = w8 at *
      refine (next_any p a n c xs (3 + 3 + 3 + 3 + 3) 7 _ (unhide ST).src (by omega) (by omega) (by omega)).mono ?_
      rintro e w9 ⟨q, rfl, hq0, hq1, ho, hs⟩
      obtain ⟨q, rfl⟩ := Int.eq_ofNat_of_zero_le hq0
      replace ST := hide ((unhide ST).draw hs ho.wrote)
      clear ho hs
      go_wp2_with fail
      go_loopw [4] (fun i wr => ∃ (j : Nat) (K : Int) (es : List EntD) (vb : Value), i = .int .i64 j ∧ es.length + j ≤ 6 ∧ K + 20 * j ≤ 200 ∧ Hid (BaseOK t u es) ∧ Hid (DgSt w wr p a n c xs K t u r vb (.slice none 0 0) es [])) (fun i _ => (intOf i).toNat)
      case atStart => exact ⟨q, 3 + 3 + 3 + 3 + 3 + 3, [], _, rfl, by simp; omega, by omega, ⟨List.Pairwise.nil, fun e he => by cases he⟩, ST⟩
      case round =>
        clear ST
        obtain ⟨j, K, es, vb, rfl, hl, hK, BA, ST⟩ := hrel
        by_cases hj : 0 < j
        · obtain ⟨j, rfl⟩ : ∃ i, j = i + 1 := ⟨j - 1, by omega⟩
          have hji : (0 : Int) < (j : Int) + 1 := by omega
          have ej : (j : Int) + 1 - 1 = (j : Int) := by omega
          have wj : IntKind.i64.wrap (j : Int) = (j : Int) := by rw [IntKind.wrap_i64]; omega
          go_wp2_with fail
          refine (keyD_any p a n c xs K _ (unhide ST).src (by omega)).mono ?_
          rintro e wa ⟨k, rfl, hk, hw, hs⟩
          replace ST := hide ((unhide ST).draw hs hw)
          clear hw hs
          obtain ⟨⟨p0, p1, p2, p3, p4⟩, _⟩ := five_of (unhide ST).k2
          by_cases hin : inK t u k = true
          · have hge : Op.bytesLess k.toList t.toList = false := by unfold inK ltK at hin; simp only [Bool.and_eq_true, Bool.not_eq_true'] at hin; exact hin.1
            have hun : underK k u = true := by unfold inK at hin; simp only [Bool.and_eq_true] at hin; exact hin.2
            have KK := hide hk.1
            have IN := hide hin
            clear hk hin
            go_wp2_with fail
            refine (l04Under_any k u _).mono ?_
            rintro e wb ⟨rfl, hwb⟩
            subst wb
            rw [hun]
            have hform : (vb = .slice none 0 0 ∧ es = []) ∨ ∃ g cap, vb = .slice (some ⟨g, 0, none⟩) es.length cap ∧ es.length ≤ cap := by
              rcases (unhide ST).oe.2 with ⟨e, hn⟩ | ⟨g, cap, cur, e, _, _, hc, _⟩
              · exact .inl ⟨e, List.eq_nil_of_length_eq_zero hn⟩
              · exact .inr ⟨g, cap, e, hc⟩
            have CV := hide (show Calls Try.prog 50 #[.pointer (some ⟨p, 0, none⟩)] wa.drew fun e w' => ∃ t' : ByteArray, e = .returned (.string t') ∧ valK t' = true ∧ DgSt w w' p a n c xs (K + 3 + 3) t u r vb (.slice none 0 0) es [] from (valueD_any p a n c xs (K + 3) wa.drew ((unhide ST).draw (K' := K + 3) ((unhide ST).src.of_blocks' rfl (fun _ _ _ => rfl)) ⟨rfl, rfl, rfl, Nat.le_refl _, fun _ _ _ => rfl⟩ : DgSt w wa.drew p a n c xs (K + 3) t u r vb (.slice none 0 0) es []).src (by omega)).mono fun e w' ⟨v, h1, h2, h3, h4⟩ => ⟨v, h1, h2, (unhide ST).draw h4 ⟨h3.os, h3.tape, h3.output, h3.size, h3.block⟩⟩)
            have CP := hide (show ∀ (X : World) (v : ByteArray), valK v = true → DgSt w X p a n c xs (K + 3 + 3) t u r vb (.slice none 0 0) es [] → Calls Try.prog 49 #[vb, .agg #[.string k, .string v], .bool false] X fun e w' => ∃ g cap nn, e = .returned (.slice (some ⟨g, 0, none⟩) nn cap) ∧ (w'.cell? ⟨w.heap.size + 1, 3, none⟩ = some vb ∧ w'.frozen? ⟨w.heap.size + 1, 3, none⟩ = false) ∧ DgSt w (w'.setCell ⟨w.heap.size + 1, 3, none⟩ (.slice (some ⟨g, 0, none⟩) nn cap)) p a n c xs (K + 3 + 3) t u r (.slice (some ⟨g, 0, none⟩) nn cap) (.slice none 0 0) (putE es ⟨k, v⟩ false) [] ∧ BaseOK t u (putE es ⟨k, v⟩ false) from fun X v hv hX => by
              have hB := (unhide BA).put (e := ⟨k, v⟩) (by unfold okEnt; rw [unhide KK, hv, unhide IN]; rfl)
              rcases hform with ⟨rfl, rfl⟩ | ⟨g, cap, rfl, hc⟩
              · refine (l04Put_nil ⟨k, v⟩ X).mono ?_
                rintro e w' ⟨g, cap, h1, h2, h3⟩
                obtain ⟨⟨_, _, _, q3, _⟩, fz⟩ := five_of (hX.below h3).k2
                exact ⟨g, cap, 1, h1, ⟨q3, fz 3⟩, hX.base h3 (by have e : putE [] ⟨k, v⟩ false = [⟨k, v⟩] := rfl; rw [e]; exact h2), hB⟩
              · refine (l04Put_any g 0 es.length cap es ⟨k, v⟩ false X (erow_of_owns hX.oe) (by omega) hc).mono ?_
                rintro e w' ⟨g', cap', h1, h2, h3⟩
                obtain ⟨⟨_, _, _, q3, _⟩, fz⟩ := five_of (hX.below h3).k2
                exact ⟨g', cap', _, h1, ⟨q3, fz 3⟩, hX.base h3 h2, hB⟩)
            have LP := hide (fun v => putE_len es ⟨k, v⟩)
            go_wp2_with fail
            go_region_with (first
              | (go_at_call 50; refine (unhide CV).mono ?_; rintro e wc ⟨v, rfl, hv, hd⟩; obtain ⟨⟨_, _, _, q3, _⟩, _⟩ := five_of hd.k2; have HV := hide hv; have HD := hide hd; clear hv hd)
              | (go_at_call 49; refine (unhide CP _ _ (unhide HV) (unhide HD)).mono ?_; rintro e wd ⟨g, cap, nn, rfl, ⟨q5, q6⟩, hd, hb⟩; have HD2 := hide hd; have HB2 := hide hb; clear hd hb))
            all_goals
              go_wp2_with fail
              go_roundw
              case rel => exact ⟨j, K + 3 + 3, _, _, by go_num, by have := unhide LP v; omega, by omega, HB2, HD2⟩
              case measure => simp [intOf]
          · have hin' : inK t u k = false := by simpa using hin
            by_cases hge : Op.bytesLess k.toList t.toList = true
            · go_wp2_with fail
              go_roundw
              case rel => exact ⟨j, K + 3, es, vb, by go_num, by omega, by omega, BA, ST⟩
              case measure => simp [intOf]
            · have hge : Op.bytesLess k.toList t.toList = false := by simpa using hge
              have hun : underK k u = false := by unfold inK ltK at hin'; rw [hge] at hin'; simpa [underK, ltK] using hin'
              go_wp2_with fail
              refine (l04Under_any k u _).mono ?_
              rintro e wb ⟨rfl, hwb⟩
              subst wb
              rw [hun]
              go_wp2_with fail
              go_roundw
              case rel => exact ⟨j, K + 3, es, vb, by go_num, by omega, by omega, BA, ST⟩
              case measure => simp [intOf]
        · obtain rfl : j = 0 := by omega
          go_wp2_with fail
          refine (next_any p a n c xs K 6 _ (unhide ST).src (by omega) (by omega) (by omega)).mono ?_
          rintro e wf ⟨q2, rfl, hq20, hq21, ho, hs⟩
          obtain ⟨q2, rfl⟩ := Int.eq_ofNat_of_zero_le hq20
          replace ST := hide ((unhide ST).draw hs ho.wrote)
          clear ho hs
          go_wp2_with fail
          go_loopw [6] (fun i wr => ∃ (j : Nat) (K : Int) (ds : List DelD) (vc : Value), i = .int .i64 j ∧ ds.length + j ≤ 6 ∧ K + 20 * j ≤ 400 ∧ Hid (okChain t u ds = true) ∧ Hid (DgSt w wr p a n c xs K t u r vb vc es ds)) (fun i _ => (intOf i).toNat)
          case atStart => exact ⟨q2, K + 3, [], _, rfl, by simp; omega, by omega, hide rfl, ST⟩
          case round =>
            clear ST
            obtain ⟨j, K, ds, vc, rfl, hm, hK, CH, ST⟩ := hrel
            obtain ⟨ac, nc, cc, rfl⟩ := slice_down (unhide ST).od
            have hnc : nc ≤ 100 := by have := (drow_of_owns (unhide ST).od).1; omega
            by_cases hj : 0 < j
            · obtain ⟨j, rfl⟩ : ∃ i, j = i + 1 := ⟨j - 1, by omega⟩
              have hji : (0 : Int) < (j : Int) + 1 := by omega
              have ej : (j : Int) + 1 - 1 = (j : Int) := by omega
              have wj : IntKind.i64.wrap (j : Int) = (j : Int) := by rw [IntKind.wrap_i64]; omega
              go_wp2_with fail
              refine (deltaD_any p a n c xs K _ (unhide ST).src (by omega)).mono ?_
              rintro e wa ⟨d, rfl, hw, hs⟩
              replace ST := hide ((unhide ST).draw hs hw)
              clear hw hs
              unfold dV
              have KB := hide (heap_alloc_new wa (.cells #[.int .i64 d.kind, .string d.k, .string d.v, .int .i64 d.to] 41))
              replace ST := hide ((unhide ST).below ((Below.refl _ _).alloc (Nat.le_refl _) (.cells #[.int .i64 d.kind, .string d.k, .string d.v, .int .i64 d.to] 41)))
              go_upto_region 17 with fail
              generalize wa.alloc (.cells #[.int .i64 d.kind, .string d.k, .string d.v, .int .i64 d.to] 41) = wb at *
              generalize wa.heap.size = bo at *
              obtain ⟨⟨p0, p1, p2, p3, p4⟩, _⟩ := five_of (unhide ST).k2
              go_wp2_with fail
              clear p0 p1 p2 p3 p4
              refine (l04Bounds_any t u r vb ac nc cc ds _ (drow_of_owns (unhide ST).od) (by omega)).mono ?_
              rintro e wc ⟨rfl, hb⟩
              replace ST := hide ((unhide ST).below hb)
              replace KB := hide ((hb.block bo (heap_ltD (unhide KB))).trans (unhide KB))
              clear hb
              obtain ⟨⟨p0, p1, p2, p3, p4⟩, _⟩ := five_of (unhide ST).k2
              obtain ⟨d0, d1, d2, d3⟩ := d_cells (unhide KB)
              go_wp2_with fail
              clear p0 p1 p2 p3 p4 d0 d1 d2 d3
              refine (l04Delta_any d t (highE u ds) _).mono ?_
              rintro e wd ⟨rfl, hb⟩
              replace ST := hide ((unhide ST).below hb)
              replace KB := hide ((hb.block bo (heap_ltD (unhide KB))).trans (unhide KB))
              clear hb
              by_cases hd : okDel t (highE u ds) d = true
              · rw [hd]
                have CH2 := hide (okChain_snoc (unhide CH) hd)
                have by' : Below wd.heap.size wd (wd.alloc (.cells #[.int .i64 d.kind, .string d.k, .string d.v, .int .i64 d.to] 41)) := (Below.refl _ _).alloc (Nat.le_refl _) _
                have SY := (unhide ST).below by'
                have KD := drow_one (heap_alloc_new wd (.cells #[.int .i64 d.kind, .string d.k, .string d.v, .int .i64 d.to] 41))
                have hz := heap_ltD SY.k2
                obtain ⟨v6, w6, hr6, hO6, hg6, _⟩ := run_appD (c := 1) 24 SY.od KD (by omega) (by omega) (fun h => by cases h) (by omega)
                obtain ⟨a6, n6, c6, rfl⟩ := slice_down hO6
                have S6 := hide (SY.chain hg6 hO6)
                obtain ⟨⟨_, _, _, _, x4⟩, fz⟩ := five_of ((hg6.block (w.heap.size + 1) hz (fun e => by have := (SY.od.lt _ e.symm).1; omega)).trans SY.k2)
                have x5 := fz 4
                obtain ⟨⟨_, _, _, _, p4⟩, _⟩ := five_of (unhide ST).k2
                obtain ⟨d0, d1, d2, d3⟩ := d_cells (unhide KB)
                clear KD SY hO6 hg6 fz by' hz hd
                go_wp2_with (at_builtin; refine wpAppE rfl (.tmp 71) (.tmp 73) 24 rfl _ _ _ w6 rfl rfl hr6 ?_)
                go_roundw
                case rel => exact ⟨j, K + 12, ds ++ [d], .slice a6 n6 c6, by go_num, by simp; omega, by omega, CH2, S6⟩
                case measure => simp [intOf]
              · rw [show okDel t (highE u ds) d = false by simpa using hd]
                go_wp2_with fail
                go_roundw
                case rel => exact ⟨j, K + 12, ds, _, by go_num, by omega, by omega, CH, ST⟩
                case measure => simp [intOf]
            · obtain rfl : j = 0 := by omega
              obtain ⟨a1, n1, c1, rfl⟩ := slice_eown (unhide ST).oe
              obtain ⟨⟨p0, p1, p2, p3, p4⟩, _⟩ := five_of (unhide ST).k2
              obtain ⟨⟨e0, e1, e2, e3, e4⟩, fz⟩ := five_of (unhide ST).k1
              have f0 := fz 0
              have f1 := fz 1
              have f2 := fz 2
              have f3 := fz 3
              have f4 := fz 4
              clear fz
              have DN := hide ((unhide ST).done (.string t) (.string u) (.int .i64 r) (.slice a1 n1 c1) (.slice ac nc cc))
              have OK := hide (okPage_of (unhide BO) (unhide BA) (unhide CH) (by omega) (by omega))
              go_wp2_with fail
              refine bodyPost_ret (v := pgv t u r a1 n1 c1 ac nc cc) (by simp [results, Try.results19, go_sem, pgv, *] <;> rfl) rfl ?_
              exact ⟨t, u, r, a1, n1, c1, ac, nc, cc, es, ds, rfl, (unhide DN).1, ⟨unhide OK, by omega, by omega⟩, (unhide DN).2⟩
    | false =>
      obtain ⟨u, hU⟩ : ∃ t : ByteArray, t = ⟨#[]⟩ := ⟨_, rfl⟩
      obtain ⟨r, hR⟩ : ∃ r : Int, r = -1 := ⟨_, rfl⟩
      have BO := hide (show okBounds t u r = true by rw [hU, hR]; exact bounds_none (unhide LO))
      replace ST := hide (show DgSt w w4 p a n c xs (3 + 3 + 3) t u r (.slice none 0 0) (.slice none 0 0) [] [] by rw [hU, hR]; exact unhide ST)
      clear hU hR
      replace ST := hide ((unhide ST).more (show (3 + 3 + 3 : Int) ≤ 3 + 3 + 3 + 3 + 3 by omega))
      go_wp2_with fail
      refine (next_any p a n c xs (3 + 3 + 3 + 3 + 3) 7 _ (unhide ST).src (by omega) (by omega) (by omega)).mono ?_
      rintro e w9 ⟨q, rfl, hq0, hq1, ho, hs⟩
      obtain ⟨q, rfl⟩ := Int.eq_ofNat_of_zero_le hq0
      replace ST := hide ((unhide ST).draw hs ho.wrote)
      clear ho hs
      go_wp2_with fail
      go_loopw [4] (fun i wr => ∃ (j : Nat) (K : Int) (es : List EntD) (vb : Value), i = .int .i64 j ∧ es.length + j ≤ 6 ∧ K + 20 * j ≤ 200 ∧ Hid (BaseOK t u es) ∧ Hid (DgSt w wr p a n c xs K t u r vb (.slice none 0 0) es [])) (fun i _ => (intOf i).toNat)
      case atStart => exact ⟨q, 3 + 3 + 3 + 3 + 3 + 3, [], _, rfl, by simp; omega, by omega, ⟨List.Pairwise.nil, fun e he => by cases he⟩, ST⟩
      case round =>
        clear ST
        obtain ⟨j, K, es, vb, rfl, hl, hK, BA, ST⟩ := hrel
        by_cases hj : 0 < j
        · obtain ⟨j, rfl⟩ : ∃ i, j = i + 1 := ⟨j - 1, by omega⟩
          have hji : (0 : Int) < (j : Int) + 1 := by omega
          have ej : (j : Int) + 1 - 1 = (j : Int) := by omega
          have wj : IntKind.i64.wrap (j : Int) = (j : Int) := by rw [IntKind.wrap_i64]; omega
          go_wp2_with fail
          refine (keyD_any p a n c xs K _ (unhide ST).src (by omega)).mono ?_
          rintro e wa ⟨k, rfl, hk, hw, hs⟩
          replace ST := hide ((unhide ST).draw hs hw)
          clear hw hs
          obtain ⟨⟨p0, p1, p2, p3, p4⟩, _⟩ := five_of (unhide ST).k2
          by_cases hin : inK t u k = true
          · have hge : Op.bytesLess k.toList t.toList = false := by unfold inK ltK at hin; simp only [Bool.and_eq_true, Bool.not_eq_true'] at hin; exact hin.1
            have hun : underK k u = true := by unfold inK at hin; simp only [Bool.and_eq_true] at hin; exact hin.2
            have KK := hide hk.1
            have IN := hide hin
            clear hk hin
            go_wp2_with fail
            refine (l04Under_any k u _).mono ?_
            rintro e wb ⟨rfl, hwb⟩
            subst wb
            rw [hun]
            have hform : (vb = .slice none 0 0 ∧ es = []) ∨ ∃ g cap, vb = .slice (some ⟨g, 0, none⟩) es.length cap ∧ es.length ≤ cap := by
              rcases (unhide ST).oe.2 with ⟨e, hn⟩ | ⟨g, cap, cur, e, _, _, hc, _⟩
              · exact .inl ⟨e, List.eq_nil_of_length_eq_zero hn⟩
              · exact .inr ⟨g, cap, e, hc⟩
            have CV := hide (show Calls Try.prog 50 #[.pointer (some ⟨p, 0, none⟩)] wa.drew fun e w' => ∃ t' : ByteArray, e = .returned (.string t') ∧ valK t' = true ∧ DgSt w w' p a n c xs (K + 3 + 3) t u r vb (.slice none 0 0) es [] from (valueD_any p a n c xs (K + 3) wa.drew ((unhide ST).draw (K' := K + 3) ((unhide ST).src.of_blocks' rfl (fun _ _ _ => rfl)) ⟨rfl, rfl, rfl, Nat.le_refl _, fun _ _ _ => rfl⟩ : DgSt w wa.drew p a n c xs (K + 3) t u r vb (.slice none 0 0) es []).src (by omega)).mono fun e w' ⟨v, h1, h2, h3, h4⟩ => ⟨v, h1, h2, (unhide ST).draw h4 ⟨h3.os, h3.tape, h3.output, h3.size, h3.block⟩⟩)
            have CP := hide (show ∀ (X : World) (v : ByteArray), valK v = true → DgSt w X p a n c xs (K + 3 + 3) t u r vb (.slice none 0 0) es [] → Calls Try.prog 49 #[vb, .agg #[.string k, .string v], .bool false] X fun e w' => ∃ g cap nn, e = .returned (.slice (some ⟨g, 0, none⟩) nn cap) ∧ (w'.cell? ⟨w.heap.size + 1, 3, none⟩ = some vb ∧ w'.frozen? ⟨w.heap.size + 1, 3, none⟩ = false) ∧ DgSt w (w'.setCell ⟨w.heap.size + 1, 3, none⟩ (.slice (some ⟨g, 0, none⟩) nn cap)) p a n c xs (K + 3 + 3) t u r (.slice (some ⟨g, 0, none⟩) nn cap) (.slice none 0 0) (putE es ⟨k, v⟩ false) [] ∧ BaseOK t u (putE es ⟨k, v⟩ false) from fun X v hv hX => by
              have hB := (unhide BA).put (e := ⟨k, v⟩) (by unfold okEnt; rw [unhide KK, hv, unhide IN]; rfl)
              rcases hform with ⟨rfl, rfl⟩ | ⟨g, cap, rfl, hc⟩
              · refine (l04Put_nil ⟨k, v⟩ X).mono ?_
                rintro e w' ⟨g, cap, h1, h2, h3⟩
                obtain ⟨⟨_, _, _, q3, _⟩, fz⟩ := five_of (hX.below h3).k2
                exact ⟨g, cap, 1, h1, ⟨q3, fz 3⟩, hX.base h3 (by have e : putE [] ⟨k, v⟩ false = [⟨k, v⟩] := rfl; rw [e]; exact h2), hB⟩
              · refine (l04Put_any g 0 es.length cap es ⟨k, v⟩ false X (erow_of_owns hX.oe) (by omega) hc).mono ?_
                rintro e w' ⟨g', cap', h1, h2, h3⟩
                obtain ⟨⟨_, _, _, q3, _⟩, fz⟩ := five_of (hX.below h3).k2
                exact ⟨g', cap', _, h1, ⟨q3, fz 3⟩, hX.base h3 h2, hB⟩)
            have LP := hide (fun v => putE_len es ⟨k, v⟩)
            go_wp2_with fail
            go_region_with (first
              | (go_at_call 50; refine (unhide CV).mono ?_; rintro e wc ⟨v, rfl, hv, hd⟩; obtain ⟨⟨_, _, _, q3, _⟩, _⟩ := five_of hd.k2; have HV := hide hv; have HD := hide hd; clear hv hd)
              | (go_at_call 49; refine (unhide CP _ _ (unhide HV) (unhide HD)).mono ?_; rintro e wd ⟨g, cap, nn, rfl, ⟨q5, q6⟩, hd, hb⟩; have HD2 := hide hd; have HB2 := hide hb; clear hd hb))
            all_goals
              go_wp2_with fail
              go_roundw
              case rel => exact ⟨j, K + 3 + 3, _, _, by go_num, by have := unhide LP v; omega, by omega, HB2, HD2⟩
              case measure => simp [intOf]
          · have hin' : inK t u k = false := by simpa using hin
            by_cases hge : Op.bytesLess k.toList t.toList = true
            · go_wp2_with fail
              go_roundw
              case rel => exact ⟨j, K + 3, es, vb, by go_num, by omega, by omega, BA, ST⟩
              case measure => simp [intOf]
            · have hge : Op.bytesLess k.toList t.toList = false := by simpa using hge
              have hun : underK k u = false := by unfold inK ltK at hin'; rw [hge] at hin'; simpa [underK, ltK] using hin'
              go_wp2_with fail
              refine (l04Under_any k u _).mono ?_
              rintro e wb ⟨rfl, hwb⟩
              subst wb
              rw [hun]
              go_wp2_with fail
              go_roundw
              case rel => exact ⟨j, K + 3, es, vb, by go_num, by omega, by omega, BA, ST⟩
              case measure => simp [intOf]
        · obtain rfl : j = 0 := by omega
          go_wp2_with fail
          refine (next_any p a n c xs K 6 _ (unhide ST).src (by omega) (by omega) (by omega)).mono ?_
          rintro e wf ⟨q2, rfl, hq20, hq21, ho, hs⟩
          obtain ⟨q2, rfl⟩ := Int.eq_ofNat_of_zero_le hq20
          replace ST := hide ((unhide ST).draw hs ho.wrote)
          clear ho hs
          go_wp2_with fail
          go_loopw [6] (fun i wr => ∃ (j : Nat) (K : Int) (ds : List DelD) (vc : Value), i = .int .i64 j ∧ ds.length + j ≤ 6 ∧ K + 20 * j ≤ 400 ∧ Hid (okChain t u ds = true) ∧ Hid (DgSt w wr p a n c xs K t u r vb vc es ds)) (fun i _ => (intOf i).toNat)
          case atStart => exact ⟨q2, K + 3, [], _, rfl, by simp; omega, by omega, hide rfl, ST⟩
          case round =>
            clear ST
            obtain ⟨j, K, ds, vc, rfl, hm, hK, CH, ST⟩ := hrel
            obtain ⟨ac, nc, cc, rfl⟩ := slice_down (unhide ST).od
            have hnc : nc ≤ 100 := by have := (drow_of_owns (unhide ST).od).1; omega
            by_cases hj : 0 < j
            · obtain ⟨j, rfl⟩ : ∃ i, j = i + 1 := ⟨j - 1, by omega⟩
              have hji : (0 : Int) < (j : Int) + 1 := by omega
              have ej : (j : Int) + 1 - 1 = (j : Int) := by omega
              have wj : IntKind.i64.wrap (j : Int) = (j : Int) := by rw [IntKind.wrap_i64]; omega
              go_wp2_with fail
              refine (deltaD_any p a n c xs K _ (unhide ST).src (by omega)).mono ?_
              rintro e wa ⟨d, rfl, hw, hs⟩
              replace ST := hide ((unhide ST).draw hs hw)
              clear hw hs
              unfold dV
              have KB := hide (heap_alloc_new wa (.cells #[.int .i64 d.kind, .string d.k, .string d.v, .int .i64 d.to] 41))
              replace ST := hide ((unhide ST).below ((Below.refl _ _).alloc (Nat.le_refl _) (.cells #[.int .i64 d.kind, .string d.k, .string d.v, .int .i64 d.to] 41)))
              go_upto_region 17 with fail
              generalize wa.alloc (.cells #[.int .i64 d.kind, .string d.k, .string d.v, .int .i64 d.to] 41) = wb at *
              generalize wa.heap.size = bo at *
              obtain ⟨⟨p0, p1, p2, p3, p4⟩, _⟩ := five_of (unhide ST).k2
              go_wp2_with fail
              clear p0 p1 p2 p3 p4
              refine (l04Bounds_any t u r vb ac nc cc ds _ (drow_of_owns (unhide ST).od) (by omega)).mono ?_
              rintro e wc ⟨rfl, hb⟩
              replace ST := hide ((unhide ST).below hb)
              replace KB := hide ((hb.block bo (heap_ltD (unhide KB))).trans (unhide KB))
              clear hb
              obtain ⟨⟨p0, p1, p2, p3, p4⟩, _⟩ := five_of (unhide ST).k2
              obtain ⟨d0, d1, d2, d3⟩ := d_cells (unhide KB)
              go_wp2_with fail
              clear p0 p1 p2 p3 p4 d0 d1 d2 d3
              refine (l04Delta_any d t (highE u ds) _).mono ?_
              rintro e wd ⟨rfl, hb⟩
              replace ST := hide ((unhide ST).below hb)
              replace KB := hide ((hb.block bo (heap_ltD (unhide KB))).trans (unhide KB))
              clear hb
              by_cases hd : okDel t (highE u ds) d = true
              · rw [hd]
                have CH2 := hide (okChain_snoc (unhide CH) hd)
                have by' : Below wd.heap.size wd (wd.alloc (.cells #[.int .i64 d.kind, .string d.k, .string d.v, .int .i64 d.to] 41)) := (Below.refl _ _).alloc (Nat.le_refl _) _
                have SY := (unhide ST).below by'
                have KD := drow_one (heap_alloc_new wd (.cells #[.int .i64 d.kind, .string d.k, .string d.v, .int .i64 d.to] 41))
                have hz := heap_ltD SY.k2
                obtain ⟨v6, w6, hr6, hO6, hg6, _⟩ := run_appD (c := 1) 24 SY.od KD (by omega) (by omega) (fun h => by cases h) (by omega)
                obtain ⟨a6, n6, c6, rfl⟩ := slice_down hO6
                have S6 := hide (SY.chain hg6 hO6)
                obtain ⟨⟨_, _, _, _, x4⟩, fz⟩ := five_of ((hg6.block (w.heap.size + 1) hz (fun e => by have := (SY.od.lt _ e.symm).1; omega)).trans SY.k2)
                have x5 := fz 4
                obtain ⟨⟨_, _, _, _, p4⟩, _⟩ := five_of (unhide ST).k2
                obtain ⟨d0, d1, d2, d3⟩ := d_cells (unhide KB)
                clear KD SY hO6 hg6 fz by' hz hd
                go_wp2_with (at_builtin; refine wpAppE rfl (.tmp 71) (.tmp 73) 24 rfl _ _ _ w6 rfl rfl hr6 ?_)
                go_roundw
                case rel => exact ⟨j, K + 12, ds ++ [d], .slice a6 n6 c6, by go_num, by simp; omega, by omega, CH2, S6⟩
                case measure => simp [intOf]
              · rw [show okDel t (highE u ds) d = false by simpa using hd]
                go_wp2_with fail
                go_roundw
                case rel => exact ⟨j, K + 12, ds, _, by go_num, by omega, by omega, CH, ST⟩
                case measure => simp [intOf]
            · obtain rfl : j = 0 := by omega
              obtain ⟨a1, n1, c1, rfl⟩ := slice_eown (unhide ST).oe
              obtain ⟨⟨p0, p1, p2, p3, p4⟩, _⟩ := five_of (unhide ST).k2
              obtain ⟨⟨e0, e1, e2, e3, e4⟩, fz⟩ := five_of (unhide ST).k1
              have f0 := fz 0
              have f1 := fz 1
              have f2 := fz 2
              have f3 := fz 3
              have f4 := fz 4
              clear fz
              have DN := hide ((unhide ST).done (.string t) (.string u) (.int .i64 r) (.slice a1 n1 c1) (.slice ac nc cc))
              have OK := hide (okPage_of (unhide BO) (unhide BA) (unhide CH) (by omega) (by omega))
              go_wp2_with fail
              refine bodyPost_ret (v := pgv t u r a1 n1 c1 ac nc cc) (by simp [results, Try.results19, go_sem, pgv, *] <;> rfl) rfl ?_
              exact ⟨t, u, r, a1, n1, c1, ac, nc, cc, es, ds, rfl, (unhide DN).1, ⟨unhide OK, by omega, by omega⟩, (unhide DN).2⟩
end Go.Proofs.Ytbboigidkimkmaa
