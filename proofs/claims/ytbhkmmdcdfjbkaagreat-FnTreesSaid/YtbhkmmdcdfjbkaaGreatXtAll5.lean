/-
  UsD, UsE, UsF, UsG, XtA, TqK in one.
-/
import Derived.Test.YtbhkmmdcdfjbkaaGreatXtAll4
import Derived.Test.YtbhkmmdcdfjbkaaGreatXtAll3
import Derived.Test.YtbhkmmdcdfjbkaaGreatPageK
namespace Go.Proofs.YtbhkmmdcdfjbkaaGreat
open Go.RowKit

theorem ERow.drop {w : World} {b off : Nat} {n : Nat} {es : List EntD} (h : ERow w (some ⟨b, off, none⟩) n es) (k : Nat) : ERow w (some ⟨b, off + k * 2, none⟩) (n - k) (es.drop k) := by
  refine ⟨by rw [List.length_drop, h.1], fun i hi => ?_⟩
  rw [List.length_drop] at hi
  obtain ⟨b', off', e, c0, c1⟩ := h.2 (k + i) (by omega)
  injection e with e
  injection e with e1 e2 _
  subst e1 e2
  refine ⟨b, off + k * 2, rfl, ?_, ?_⟩
  · rw [List.getElem_drop, ← c0]; congr 2; omega
  · rw [List.getElem_drop, ← c1]; congr 2; omega
/-- What an append of a page leaves as it was. -/
theorem TgSt.page_keep {w w6 : World} {B tb : Nat} {vp vg vi v' : Value} {hs : List PpH} {gs : List Bool} {idx : List RefD} {h : PpH} (s : TgSt w B tb vp vg vi hs gs idx) (hz : hs.length ≤ 1000) (hB : B ≤ w.heap.size) (hr : (Builtin.append_ #[25, 25] 25 #[vp, .slice (some ⟨w.heap.size, 0, none⟩) 1 1]).run Tryz.prog (w.alloc (.cells #[.string h.X.lo, .string h.X.hi, .int .i64 h.X.r, .slice h.s0.a h.s0.n h.s0.c, .slice h.s1.a h.s1.n h.s1.c] 67)) = .ok v' w6) : ∀ i, i < w.heap.size → ¬ vp.ownBlock = some i → w6.heap[i]? = w.heap[i]? := by
  obtain ⟨i0, hi0, hz0, hz1, hz2⟩ := info_parts Tryz.infoPp
  have bA : Below w.heap.size w (w.alloc (.cells #[.string h.X.lo, .string h.X.hi, .int .i64 h.X.r, .slice h.s0.a h.s0.n h.s0.c, .slice h.s1.a h.s1.n h.s1.c] 67)) := (Below.refl _ _).alloc (Nat.le_refl _) _
  have K := heap_alloc_new w (.cells #[.string h.X.lo, .string h.X.hi, .int .i64 h.X.r, .slice h.s0.a h.s0.n h.s0.c, .slice h.s1.a h.s1.n h.s1.c] 67)
  have row := rb_ownsRow_below s.own.pg.row bA
  obtain ⟨v2, w2, hr2, -, hg, -⟩ := run_append_own (P := Tryz.prog) _ B 25 25 67 i0 _ 5 88 Tryz.underlying25 hi0 hz0 hz1 hz2 rfl (by decide) _ _ _ row ⟨w.heap.size, 0, none⟩ 1 1 (pcs h) rfl (fun j u hu => by
      rw [Addr.add_lit, (heap_at K _).1]
      simpa [pcs] using hu) (by
      intro u hu
      simp only [pcs, List.mem_cons, List.not_mem_nil, or_false] at hu
      rcases hu with rfl | rfl | rfl | rfl | rfl <;> rfl) (by unfold maxLen; omega) (by omega) (Nat.le_trans hB bA.size)
  rw [hr] at hr2
  injection hr2 with _ hr2
  subst hr2
  exact fun i hi hn => ((WrB.of_grown hg).block i (Nat.lt_of_lt_of_le hi bA.size) hn).trans (bA.block i hi)
theorem TgSt.flag_keep {w w6 : World} {B tb : Nat} {vp vg vi v' : Value} {hs : List PpH} {gs : List Bool} {idx : List RefD} {q : Bool} (s : TgSt w B tb vp vg vi hs gs idx) (hz : gs.length ≤ 1000) (hB : B ≤ w.heap.size) (hr : (Builtin.append_ #[26, 26] 26 #[vg, .slice (some ⟨w.heap.size, 0, none⟩) 1 1]).run Tryz.prog (w.alloc (.cells #[.bool q] 4)) = .ok v' w6) : ∀ i, i < w.heap.size → ¬ vg.ownBlock = some i → w6.heap[i]? = w.heap[i]? := by
  have bA : Below w.heap.size w (w.alloc (.cells #[.bool q] 4)) := (Below.refl _ _).alloc (Nat.le_refl _) _
  obtain ⟨v2, w2, hr2, -, hg⟩ := b_app (q := q) s.own.go (by omega) hB
  rw [hr] at hr2
  injection hr2 with _ hr2
  subst hr2
  exact fun i hi hn => ((WrB.of_grown hg).block i (Nat.lt_of_lt_of_le hi bA.size) hn).trans (bA.block i hi)
theorem TgSt.chain_keep {w w6 : World} {B tb : Nat} {vp vg vi v' : Value} {hs : List PpH} {gs : List Bool} {idx : List RefD} (s : TgSt w B tb vp vg vi hs gs idx) {k : Nat} {x : PpH} (hx : hs[k]? = some x) (d : DelD) (hn : x.X.ds.length ≤ 1000) (hB : B ≤ w.heap.size) (hr : (Builtin.append_ #[65, 65] 65 #[.slice x.s1.a x.s1.n x.s1.c, .slice (some ⟨w.heap.size, 0, none⟩) 1 1]).run Tryz.prog (w.alloc (.cells #[.int .i64 d.kind, .string d.k, .string d.v, .int .i64 d.to] 90)) = .ok v' w6) : ∀ (i : Nat) (cs : Array Value) (t : TypeId), w.heap[i]? = some (.cells cs t (0, 0)) → t ≠ 90 → w6.heap[i]? = some (.cells cs t (0, 0)) := by
  have bA : Below w.heap.size w (w.alloc (.cells #[.int .i64 d.kind, .string d.k, .string d.v, .int .i64 d.to] 90)) := (Below.refl _ _).alloc (Nat.le_refl _) _
  have hi : (hs.map ppEl)[k]? = some (ppEl x) := by rw [List.getElem?_map, hx]; rfl
  have d1 := (s.below bA).own.pg.dat k 1 ⟨90, 4, x.X.ds.length, .slice x.s1.a x.s1.n x.s1.c, dcs x.X.ds⟩ (by unfold sbAt; rw [hi]; rfl)
  simp only at d1
  obtain ⟨v2, w2, hr2, -, hg, -⟩ := run_appD (c := 1) 65 (show DOwns _ B _ x.X.ds from d1) (us_drow (w := w) d) (by omega) (by omega) (fun e => by cases e) (Nat.le_trans hB bA.size)
  rw [hr] at hr2
  injection hr2 with _ hr2
  subst hr2
  intro i cs t hc ht
  have hc2 := (bA.block i (blk_lt hc)).trans hc
  exact ((WrB.of_grown hg).block i (blk_lt hc2) (fun e => own_box d1 hc2 (fun e => ht e.symm) e)).trans hc2
theorem TgSt.cells {w : World} {B tb : Nat} {vp vg vi : Value} {hs : List PpH} {gs : List Bool} {idx : List RefD} (s : TgSt w B tb vp vg vi hs gs idx) {k : Nat} (hk : k < hs.length) {x : PpH} (hx : hs[k]? = some x) : ∃ g c, vp = .slice (some ⟨g, 0, none⟩) hs.length c ∧ ∀ j (hj : j < 5), w.cell? ⟨g, k * 5 + j, none⟩ = some ((pcs x)[j]'hj) := by
  obtain ⟨g, c, rfl, hB, hne⟩ := s.page_block (by omega)
  have hi : (hs.map ppEl)[k]? = some (ppEl x) := by rw [List.getElem?_map, hx]; rfl
  exact ⟨g, c, rfl, fun j hj => s.own.pg.cell hi (List.getElem?_eq_getElem (l := pcs x) hj)⟩
set_option maxRecDepth 100000 in
set_option maxHeartbeats 8000000 in
theorem l05Split_any (B : Nat) (a1 : Option Addr) (c1 : Nat) (a2 : Option Addr) (c2 : Nat) (a3 : Option Addr) (c3 n m : Nat) (hs : List PpH) (ps : List (Option PageD)) (idx : List RefD) (id : Nat) (p : PageD) (w : World) (hO : TsOwn w B a1 c1 a2 c2 a3 c3 n m hs ps idx) (hT : Tre ps idx) (hg : getP ps (id : Int) = some p) :
    Calls Tryz.prog 58 #[.agg #[.slice a1 n c1, .slice a2 n c2, .slice a3 m c3], .int .i64 (id : Int)] w fun e w' => SpRes (splT ps idx id p) w e w' := by
  obtain ⟨hkl, hpk⟩ := getP_is hg
  have hokp := hT.ok _ p hg
  obtain ⟨W, hW, k1, k2, z, b0⟩ := tw_new w (.slice a1 n c1) (.slice a2 n c2) (.slice a3 m c3)
  have OW := hO.below b0
  have hkn : id < n := by rw [← OW.ln]; exact hkl
  have hn30 : n ≤ 30 := by rw [← OW.ln]; exact hT.len.2
  obtain ⟨b, x, ha, -, hxX, P⟩ := OW.at hkl
  rw [hpk] at hxX
  replace hxX : x.X = p := hxX
  subst hxX
  subst ha
  have hn0 : x.s0.n ≤ 32 := by rw [← P.es.1]; exact (ok_parts hokp).2.1
  have hn1 : x.s1.n ≤ 12 := by rw [← P.ds.1]; exact (ok_parts hokp).2.2.1
  have hfull : x.s1.n = 12 ↔ x.X.ds.length = 12 := by rw [P.ds.1]
  have SP1 := hide (show (enP x.X).length < 2 → splT ps idx id x.X = ⟨ps, idx, 0, 5⟩ from fun h => by unfold splT; rw [if_pos h])
  have SP2 := hide (show ¬ (enP x.X).length < 2 → (x.s1.n = 12 ∨ n = 30) → splT ps idx id x.X = ⟨ps, idx, 0, 7⟩ from fun h h2 => by unfold splT; rw [if_neg h, if_pos (by rw [← hfull, OW.ln]; exact h2)])
  have SP3 := hide (show ¬ (enP x.X).length < 2 → ¬ (x.s1.n = 12 ∨ n = 30) → splT ps idx id x.X = ⟨ps.set id (some (addD x.X (spD (midK x.X) n))) ++ [some (newPg x.X)], idx, (n : Int), 0⟩ from fun h h2 => by unfold splT; rw [if_neg h, if_neg (by rw [← hfull, OW.ln]; exact h2), OW.ln])
  have hz1 : w.heap.size < W.heap.size := by omega
  have hz2 : w.heap.size + 1 < W.heap.size := by omega
  have B0 := hide b0
  have K1 := hide k1
  have K2 := hide k2
  have OWh := hide OW
  have HTh := hide hT
  have HW := hide hW
  have Ph := hide P
  have GPh := hide hg
  have q0 := P.c0
  have q1 := P.c1
  have q2 := P.c2
  have q3 := P.c3
  have q4 := P.c4
  have SKP := hide (show ∀ u, Below W.heap.size W u → u.cell? ⟨w.heap.size, 0, none⟩ = some (.slice (some ⟨b, 0, none⟩) n c1) ∧ u.cell? ⟨w.heap.size, 1, none⟩ = some (.slice a2 n c2) ∧ u.cell? ⟨w.heap.size, 2, none⟩ = some (.slice a3 m c3) from fun u hu => by
    have h := (hu.block w.heap.size hz1).trans k1
    exact ⟨(heap_at h 0).1, (heap_at h 1).1, (heap_at h 2).1⟩)
  obtain ⟨e0, e1, e2⟩ := unhide SKP W (Below.refl _ _)
  clear b0 k1 k2 z OW P hO hT hg hpk hW hfull
  obtain ⟨X, ⟨sa, sn, sc⟩, ⟨da, dn, dc⟩⟩ := x
  simp only at q0 q1 q2 q3 q4 hn0 hn1 hokp SP1 SP2 SP3
  go_enter Tryz.func58, Tryz.ntmps58
  go_upto_region 1 with fail
  rw [← unhide HW]
  clear HW
  have bA := (Below.refl W.heap.size W).alloc (Nat.le_refl _) (.cells #[.string X.lo, .string X.hi, .int .i64 X.r, .slice sa sn sc, .slice da dn dc] 67)
  have KP := heap_alloc_new W (.cells #[.string X.lo, .string X.hi, .int .i64 X.r, .slice sa sn sc, .slice da dn dc] 67)
  have PA := (unhide Ph).below bA
  have HEN := hide (l04Entries_any X.lo X.hi X.r sa sn sc X.es da dn dc X.ds (W.alloc (.cells #[.string X.lo, .string X.hi, .int .i64 X.r, .slice sa sn sc, .slice da dn dc] 67)) PA.es PA.ds (by omega) (by omega) PA.ce)
  unfold pgv at HEN
  have HBD := hide (fun (u : World) (hu : Below W.heap.size W u) => l04Bounds_any X.lo X.hi X.r (.slice sa sn sc) da dn dc X.ds u ((unhide Ph).ds.below hu) (by omega))
  have hl2 := enP_len hokp
  obtain ⟨E, hE⟩ : ∃ E, E = enP X := ⟨_, rfl⟩
  have MF := hide (show 2 ≤ E.length → ∃ h : E.length / 2 < E.length, midK X = (E[E.length / 2]'h).k ∧ newPg X = ⟨midK X, hiP X, riP X, E.drop (E.length / 2), []⟩ from fun h => ⟨by omega, by subst hE; exact midK_eq h, by subst hE; rfl⟩)
  rw [show entsE X.es X.ds = E from hE.symm] at HEN
  rw [← hE] at SP1 SP2 SP3 hl2
  rw [show highE X.hi X.ds = hiP X from rfl, show rightE X.r X.ds = riP X from rfl] at HBD
  obtain ⟨L, hL⟩ : ∃ L, L = E.length := ⟨_, rfl⟩
  rw [← hL] at SP1 SP2 SP3 hl2 HEN
  have HL := hide hL
  have BA := hide bA
  clear hE hL bA PA
  go_upto_region 2 with fail
  generalize W.alloc (.cells #[.string X.lo, .string X.hi, .int .i64 X.r, .slice sa sn sc, .slice da dn dc] 67) = V at *
  obtain ⟨p0, p1, p2, p3, p4⟩ := pg_cells5 KP
  have hpb : W.heap.size < V.heap.size := blk_lt KP
  go_wp2_with fail
  refine (unhide HEN).mono ?_
  rintro e u2 ⟨gl, cl, rfl, hOE, hb2⟩
  have B2 := hide ((unhide BA).trans (hb2.mono (unhide BA).size))
  obtain ⟨e0', e1', e2'⟩ := unhide SKP u2 (unhide B2)
  have KP2 := (hb2.block W.heap.size hpb).trans KP
  have hV2 := hb2.size
  have OE := hide hOE
  clear HEN p0 p1 p2 p3 p4 e0 e1 e2 q0 q1 q2 q3 q4 hb2 KP
  obtain ⟨p0, p1, p2, p3, p4⟩ := pg_cells5 KP2
  have kr := ((unhide B2).block (w.heap.size + 1) hz2).trans (unhide K2)
  have BB := (unhide B0).trans ((unhide B2).mono (unhide B0).size)
  by_cases h2 : L < 2
  · have r0 := (heap_at kr 0).1
    have r1 := (heap_at kr 1).1
    have r2 := (heap_at kr 2).1
    have g0 := (heap_at kr 0).2
    have g1 := (heap_at kr 1).2
    have g2 := (heap_at kr 2).2
    have RES := hide (show SpRes (splT ps idx id X) w (.returned (.tuple #[.agg #[.slice (some ⟨b, 0, none⟩) n c1, .slice a2 n c2, .slice a3 m c3], .int .i64 0, .int .i64 5])) (((u2.setCell ⟨w.heap.size + 1, 0, none⟩ (.slice (some ⟨b, 0, none⟩) n c1)).setCell ⟨w.heap.size + 1, 1, none⟩ (.slice a2 n c2)).setCell ⟨w.heap.size + 1, 2, none⟩ (.slice a3 m c3)) by
      rw [unhide SP1 h2]
      exact SpRes.no (r := ⟨ps, idx, 0, 5⟩) (show (5 : Int) ≠ 0 by decide) (((BB.setCell (p := ⟨w.heap.size + 1, 0, none⟩) (Nat.le_succ _) _).setCell (p := ⟨w.heap.size + 1, 1, none⟩) (Nat.le_succ _) _).setCell (p := ⟨w.heap.size + 1, 2, none⟩) (Nat.le_succ _) _))
    clear kr BB
    go_wp2_with fail
    refine bodyPost_ret (v := .tuple #[.agg #[.slice (some ⟨b, 0, none⟩) n c1, .slice a2 n c2, .slice a3 m c3], .int .i64 0, .int .i64 5]) (by simp [results, Tryz.results58, go_sem, *]) rfl ?_
    exact unhide RES
  have h2' : 2 ≤ L := by omega
  by_cases hf : dn = 12 ∨ n = 30
  · have hfi : (dn : Int) = 12 ∨ (n : Int) = 30 := by omega
    by_cases hd : (dn : Int) = 12
    · have r0 := (heap_at kr 0).1
      have r1 := (heap_at kr 1).1
      have r2 := (heap_at kr 2).1
      have g0 := (heap_at kr 0).2
      have g1 := (heap_at kr 1).2
      have g2 := (heap_at kr 2).2
      have RES := hide (show SpRes (splT ps idx id X) w (.returned (.tuple #[.agg #[.slice (some ⟨b, 0, none⟩) n c1, .slice a2 n c2, .slice a3 m c3], .int .i64 0, .int .i64 7])) (((u2.setCell ⟨w.heap.size + 1, 0, none⟩ (.slice (some ⟨b, 0, none⟩) n c1)).setCell ⟨w.heap.size + 1, 1, none⟩ (.slice a2 n c2)).setCell ⟨w.heap.size + 1, 2, none⟩ (.slice a3 m c3)) by
        rw [unhide SP2 h2 hf]
        exact SpRes.no (r := ⟨ps, idx, 0, 7⟩) (show (7 : Int) ≠ 0 by decide) (((BB.setCell (p := ⟨w.heap.size + 1, 0, none⟩) (Nat.le_succ _) _).setCell (p := ⟨w.heap.size + 1, 1, none⟩) (Nat.le_succ _) _).setCell (p := ⟨w.heap.size + 1, 2, none⟩) (Nat.le_succ _) _))
      clear kr BB
      go_wp2_with fail
      refine bodyPost_ret (v := .tuple #[.agg #[.slice (some ⟨b, 0, none⟩) n c1, .slice a2 n c2, .slice a3 m c3], .int .i64 0, .int .i64 7]) (by simp [results, Tryz.results58, go_sem, *]) rfl ?_
      exact unhide RES
    · have hn' : (n : Int) = 30 := by omega
      have r0 := (heap_at kr 0).1
      have r1 := (heap_at kr 1).1
      have r2 := (heap_at kr 2).1
      have g0 := (heap_at kr 0).2
      have g1 := (heap_at kr 1).2
      have g2 := (heap_at kr 2).2
      have RES := hide (show SpRes (splT ps idx id X) w (.returned (.tuple #[.agg #[.slice (some ⟨b, 0, none⟩) n c1, .slice a2 n c2, .slice a3 m c3], .int .i64 0, .int .i64 7])) (((u2.setCell ⟨w.heap.size + 1, 0, none⟩ (.slice (some ⟨b, 0, none⟩) n c1)).setCell ⟨w.heap.size + 1, 1, none⟩ (.slice a2 n c2)).setCell ⟨w.heap.size + 1, 2, none⟩ (.slice a3 m c3)) by
        rw [unhide SP2 h2 hf]
        exact SpRes.no (r := ⟨ps, idx, 0, 7⟩) (show (7 : Int) ≠ 0 by decide) (((BB.setCell (p := ⟨w.heap.size + 1, 0, none⟩) (Nat.le_succ _) _).setCell (p := ⟨w.heap.size + 1, 1, none⟩) (Nat.le_succ _) _).setCell (p := ⟨w.heap.size + 1, 2, none⟩) (Nat.le_succ _) _))
      clear kr BB
      go_wp2_with fail
      refine bodyPost_ret (v := .tuple #[.agg #[.slice (some ⟨b, 0, none⟩) n c1, .slice a2 n c2, .slice a3 m c3], .int .i64 0, .int .i64 7]) (by simp [results, Tryz.results58, go_sem, *]) rfl ?_
      exact unhide RES
  have hd12 : ¬ (dn : Int) = 12 := by omega
  have hn3 : ¬ (n : Int) = 30 := by omega
  obtain ⟨hmL, hmid, hnew⟩ := unhide MF (by rw [← unhide HL]; exact h2')
  have HON := hide (fun (u : World) (hu : Below W.heap.size W u) => l05Own_any B (some ⟨b, 0, none⟩) c1 a2 c2 a3 c3 n m hs ps idx u ((unhide OWh).below hu) (unhide HTh))
  obtain ⟨HI, hHI⟩ : ∃ HI, HI = hiP X := ⟨_, rfl⟩
  obtain ⟨RI, hRI⟩ : ∃ RI, RI = riP X := ⟨_, rfl⟩
  rw [← hHI, ← hRI] at HBD hnew
  clear hHI hRI
  obtain ⟨Kd, hKd⟩ : ∃ Kd, Kd = L / 2 := ⟨_, rfl⟩
  have hKL : Kd < L := by omega
  have hKi : (L : Int) / 2 = (Kd : Int) := by omega
  have hKt : (L : Int).tdiv 2 = (Kd : Int) := by rw [Int.tdiv_eq_ediv_of_nonneg (by omega)]; exact hKi
  obtain ⟨MID, hMID⟩ : ∃ MID, MID = midK X := ⟨_, rfl⟩
  rw [← hMID] at SP3 hnew hmid
  have ME := hide (show ∃ h : Kd < E.length, MID = (E[Kd]'h).k from ⟨by rw [← unhide HL]; exact hKL, by simp only [hKd, unhide HL]; exact hmid⟩)
  have NW := hide (show newPg X = ⟨MID, HI, RI, E.drop Kd, []⟩ by rw [hnew, hKd, unhide HL])
  clear hmid hnew hMID hKd hmL MF BB kr SP1 SP2
  go_upto_region 8 with fail
  go_wp2_with fail
  refine (unhide HBD u2 (unhide B2)).mono ?_
  rintro e u3 ⟨rfl, hb3⟩
  have B3 := hide ((unhide B2).trans (hb3.mono (unhide B2).size))
  have OE3 := hide (rb_ownsRow_below (unhide OE) hb3)
  have hV3 := Nat.le_trans hV2 hb3.size
  clear e0' e1' e2' HBD OE hb3 KP2 p0 p1 p2 p3 p4 B2
  obtain ⟨e0, e1, e2⟩ := unhide SKP u3 (unhide B3)
  go_upto_region 10 with fail
  go_wp2_with fail
  refine (unhide HON u3 (unhide B3)).mono ?_
  rintro e u4 ⟨b1, k1', b2, k2', b3, k3', hs7, rfl, O7, hb7⟩
  have bT := (Below.refl u4.heap.size u4).alloc (Nat.le_refl _) (.cells #[.slice b1 n k1', .slice b2 n k2', .slice b3 m k3'] 29)
  have kT := heap_alloc_new u4 (.cells #[.slice b1 n k1', .slice b2 n k2', .slice b3 m k3'] 29)
  have S5 := hide ((((O7.below bT).dn (unhide B3).size)).tg kT)
  have DAT := hide O7.dat
  have LNS := hide (show ps.length = n ∧ idx.length = m from ⟨O7.ln, O7.li⟩)
  have HL7 := hide O7.hl
  have B5 := hide ((unhide B3).trans ((hb7.trans (bT.mono hb7.size)).mono (unhide B3).size))
  have OE5 := hide (rb_ownsRow_below (unhide OE3) (hb7.trans (bT.mono hb7.size)))
  have htb : W.heap.size ≤ u4.heap.size := Nat.le_trans (unhide B3).size hb7.size
  clear O7 hb7 bT kT HON e0 e1 e2 OE3 B3
  go_upto_region 11 with fail
  generalize u4.alloc (.cells #[.slice b1 n k1', .slice b2 n k2', .slice b3 m k3'] 29) = u5 at *
  generalize u4.heap.size = tb at *
  obtain ⟨e0, e1, e2⟩ := unhide SKP u5 (unhide B5)
  go_upto_region 12 with fail
  clear e0 e1 e2
  have REh := hide (erow_of_owns (unhide OE5))
  obtain ⟨gl', ol', hgl, lk, -⟩ := (unhide REh).2 Kd (unhide ME).1
  obtain ⟨rfl, rfl⟩ : gl' = gl ∧ ol' = 0 := by
    injection hgl with e
    injection e with e1 e2 _
    exact ⟨e1.symm, e2.symm⟩
  clear hgl
  rw [Nat.zero_add, ← (unhide ME).2] at lk
  have hgl5 : gl' < u5.heap.size := cell_lt lk
  have hcap : L ≤ cl := by
    rcases (unhide OE5).2 with ⟨e, _⟩ | ⟨g, cap, cur, e, _, _, hc, _⟩
    · injection e with e; cases e
    · injection e with _ _ e; rw [e, unhide HL]; exact hc
  have RD := hide (show ERow u5 (some ⟨gl', Kd * 2, none⟩) (L - Kd) (E.drop Kd) from by have h := (unhide REh).drop Kd; rw [Nat.zero_add] at h; exact h)
  have hcn : ¬ cl = Kd := by omega
  have hci : ¬ (cl : Int) = (Kd : Int) := by omega
  have hKc : (Kd : Int) ≤ (cl : Int) := by omega
  have hKL' : (Kd : Int) ≤ (L : Int) := by omega
  have hKl : (Kd : Int) < (L : Int) := by omega
  have htn : (Kd : Int).toNat = Kd := by omega
  have hsz5 : W.heap.size ≤ u5.heap.size := (unhide B5).size
  have tb0 := (heap_at (unhide S5).box 0).1
  have tbl := blk_lt (unhide S5).box
  have Y1 := hide (show ∀ u, Below u5.heap.size u5 u → u.cell? ⟨tb, 0, none⟩ = some (.slice b1 n k1') from fun u hu => (hu.cell (p := ⟨tb, 0, none⟩) tbl).trans tb0)
  have SK := hide (show ∀ u, Below u5.heap.size u5 u → u.cell? ⟨gl', Kd * 2, none⟩ = some (.string MID) from fun u hu => (hu.cell (p := ⟨gl', Kd * 2, none⟩) hgl5).trans lk)
  have hglt : gl' ≠ tb := fun e => own_box (unhide OE5) (unhide S5).box (by decide) (by rw [e]; rfl)
  have hglW : gl' < u5.heap.size := hgl5
  clear tb0
  go_cut [12] (fun v wc => ∃ aP cP aE nE kE, v = .pointer (some ⟨tb, 0, none⟩) ∧ Hid (TgSt wc W.heap.size tb (.slice aP (n + 1) cP) (.slice b2 n k2') (.slice b3 m k3') (hs7 ++ [⟨⟨MID, HI, RI, E.drop Kd, []⟩, ⟨aE, nE, kE⟩, ⟨none, 0, 0⟩⟩]) (ps.map (·.isNone)) idx) ∧ Below W.heap.size W wc ∧ wc.heap[gl']? = u5.heap[gl']?)
  case first =>
    refine wp_region_held_drew (S := (fun u => u.cell? ⟨gl', Kd * 2, none⟩ = some (.string MID))) (by kernel_rfl) (unhide SK _ ((Below.refl _ _).drew)) (fun hHeld => ?_)
    have Ds := hide (show Below u5.heap.size u5 u5.drew from (Below.refl _ _).drew)
    generalize u5.drew = us at *
    refine anyH_take 0 49 (v := ?v1) rfl rfl (by kernel_rfl) (by kernel_rfl) (by kernel_rfl) (fun _ _ _ h => h) (by rfl) ?h1 hHeld ?r1
    case h1 => (intro w hSw; (try dsimp only at hSw); go_simp; try (with_reducible rfl))
    simp only [Act.put, List.setIfInBounds_toArray, List.set_cons_zero, List.set_cons_succ]
    refine anyH_take 2 51 (v := ?v2) rfl rfl (by kernel_rfl) (by kernel_rfl) (by kernel_rfl) (fun _ _ _ h => h) (by rfl) ?h2 hHeld ?r2
    case h2 => (intro w hSw; (try dsimp only at hSw); go_simp; try (with_reducible rfl))
    simp only [Act.put, List.setIfInBounds_toArray, List.set_cons_zero, List.set_cons_succ]
    refine anyH_take 3 52 (v := ?v3) rfl rfl (by kernel_rfl) (by kernel_rfl) (by kernel_rfl) (fun _ _ _ h => h) (by rfl) ?h3 hHeld ?r3
    case h3 => (intro w hSw; (try dsimp only at hSw); go_simp; try (with_reducible rfl))
    simp only [Act.put, List.setIfInBounds_toArray, List.set_cons_zero, List.set_cons_succ]
    refine anyH_take 4 53 (v := ?v4) rfl rfl (by kernel_rfl) (by kernel_rfl) (by kernel_rfl) (fun _ _ _ h => h) (by rfl) ?h4 hHeld ?r4
    case h4 => (intro w hSw; (try dsimp only at hSw); go_simp; try (with_reducible rfl))
    simp only [Act.put, List.setIfInBounds_toArray, List.set_cons_zero, List.set_cons_succ]
    refine anyH_take 5 54 (v := ?v5) rfl rfl (by kernel_rfl) (by kernel_rfl) (by kernel_rfl) (fun _ _ _ h => h) (by rfl) ?h5 hHeld ?r5
    case h5 => (intro w hSw; (try dsimp only at hSw); go_simp; try (with_reducible rfl))
    simp only [Act.put, List.setIfInBounds_toArray, List.set_cons_zero, List.set_cons_succ]
    refine anyH_take 6 55 (v := ?v6) rfl rfl (by kernel_rfl) (by kernel_rfl) (by kernel_rfl) (fun _ _ _ h => h) (by rfl) ?h6 hHeld ?r6
    case h6 => (intro w hSw; (try dsimp only at hSw); go_simp; try (with_reducible rfl))
    simp only [Act.put, List.setIfInBounds_toArray, List.set_cons_zero, List.set_cons_succ]
    refine anyH_take 7 56 (v := ?v7) rfl rfl (by kernel_rfl) (by kernel_rfl) (by kernel_rfl) (fun _ _ _ h => h) (by rfl) ?h7 hHeld ?r7
    case h7 => (intro w hSw; (try dsimp only at hSw); go_simp; try (with_reducible rfl))
    simp only [Act.put, List.setIfInBounds_toArray, List.set_cons_zero, List.set_cons_succ]
    refine anyH_take 8 57 (v := ?v8) rfl rfl (by kernel_rfl) (by kernel_rfl) (by kernel_rfl) (fun _ _ _ h => h) (by rfl) ?h8 hHeld ?r8
    case h8 => (intro w hSw; (try dsimp only at hSw); go_simp; try (with_reducible rfl))
    simp only [Act.put, List.setIfInBounds_toArray, List.set_cons_zero, List.set_cons_succ]
    refine anyH_take 10 59 (v := ?v9) rfl rfl (by kernel_rfl) (by kernel_rfl) (by kernel_rfl) (fun _ _ _ h => h) (by rfl) ?h9 hHeld ?r9
    case h9 => (intro w hSw; (try dsimp only at hSw); go_simp; try (with_reducible rfl))
    simp only [Act.put, List.setIfInBounds_toArray, List.set_cons_zero, List.set_cons_succ]
    refine anyH_take 11 60 (v := ?v10) rfl rfl (by kernel_rfl) (by kernel_rfl) (by kernel_rfl) (fun _ _ _ h => h) (by rfl) ?h10 hHeld ?r10
    case h10 => (intro w hSw; (try dsimp only at hSw); go_simp; try (with_reducible rfl))
    simp only [Act.put, List.setIfInBounds_toArray, List.set_cons_zero, List.set_cons_succ]
    refine anyH_take 12 61 (v := ?v11) rfl rfl (by kernel_rfl) (by kernel_rfl) (by kernel_rfl) (fun _ _ _ h => h) (by rfl) ?h11 hHeld ?r11
    case h11 => (intro w hSw; (try dsimp only at hSw); go_simp; try (with_reducible rfl))
    simp only [Act.put, List.setIfInBounds_toArray, List.set_cons_zero, List.set_cons_succ]
    refine wpAnyH_ready (rs := [1, 9]) (by kernel_rfl) (by simp) ?_
    refine AllReadyH.cons rfl (fun K hK => ?_) (AllReadyH.cons rfl (fun K hK => ?_) AllReadyH.nil)
    · have y := unhide Y1 _ (unhide Ds)
      go_simp
      clear y
      refine hK.out _ _ (hHeld) (fun hHeld => ?_)
      clear hK K
      refine wpAnyH_ready (rs := [9]) (by kernel_rfl) (by simp) ?_
      refine AllReadyH.cons rfl (fun K hK => ?_) AllReadyH.nil
      have D9 := hide ((unhide Ds).alloc (unhide Ds).size (.cells #[] 41))
      have O9 := hide (gd_base (nil_lit (w := us) 41 2) (unhide Ds).size)
      go_simp
      generalize us.alloc (.cells #[] 41) = u9 at *
      generalize us.heap.size = g9 at *
      refine hK.out _ _ (unhide SK _ (unhide D9)) (fun hHeld => ?_)
      clear hK K
      refine wpAnyH_ready (rs := [13]) (by kernel_rfl) (by simp) ?_
      refine AllReadyH.cons rfl (fun K hK => ?_) AllReadyH.nil
      obtain ⟨v13, u13, hr, hO13, hg13, -⟩ := run_appE (c := cl - Kd) 36 (show EOwns _ _ _ [] from unhide O9) ((unhide RD).below (unhide D9)) (by simp) (by omega) (fun e => by cases e) (unhide D9).size
      have D13 := hide ((unhide D9).trans (WrB.below (WrB.of_grown hg13) (fun i hi => ((unhide O9).lt i hi).1) (unhide D9).size))
      obtain ⟨aE, kE, rfl⟩ := us_sl hO13
      rw [List.nil_append] at hr hO13
      obtain ⟨nE, hnE⟩ : ∃ nE, nE = (E.drop Kd).length := ⟨_, rfl⟩
      rw [← hnE] at hr hO13
      have O13 := hide hO13
      have HNE := hide hnE
      clear hO13 hg13 hnE
      refine us_stepApp rfl (.tmp 58) (.tmp 61) 36 rfl _ _ (.slice aE nE kE) u13 (by first | rfl | (simp [Act.eval]; done) | (simp [Act.eval, Act.put]; done)) (by first | rfl | (simp [Act.eval]; done) | (simp [Act.eval, Act.put]; done)) hr ?_
      clear hr
      refine hK.out _ _ (unhide SK _ (unhide D13)) (fun hHeld => ?_)
      clear hK K
      refine anyH_take 14 63 (v := ?v12) rfl rfl (by kernel_rfl) (by kernel_rfl) (by kernel_rfl) (fun _ _ _ h => h) (by rfl) ?h12 hHeld ?r12
      case h12 => (intro w hSw; (try dsimp only at hSw); go_simp; try (with_reducible rfl))
      simp only [Act.put, List.setIfInBounds_toArray]
      refine wpAnyH_ready (rs := [15]) (by kernel_rfl) (by simp) ?_
      refine AllReadyH.cons rfl (fun K hK => ?_) AllReadyH.nil
      have D15 := hide ((unhide D13).alloc (unhide D13).size (.cells #[.string MID, .string HI, .int .i64 RI, .slice aE nE kE, .slice none 0 0] 67))
      obtain ⟨vP, w6, hrP, S6, b6, k6⟩ := (unhide S5).page (h := (⟨⟨MID, HI, RI, E.drop Kd, []⟩, ⟨aE, nE, kE⟩, ⟨none, 0, 0⟩⟩ : PpH)) (unhide D13) (by have h := unhide O13; rw [unhide HNE] at h ⊢; exact h) (World.ownsRow_nil _ _ _ _) htb (by rw [unhide HL7]; omega) hsz5
      obtain ⟨aP, cP, hvP⟩ : ∃ a c, vP = .slice a (n + 1) c := by
        obtain ⟨a, c, e⟩ := us_sl S6.own.pg.row
        exact ⟨a, c, by rw [e, List.length_append, unhide HL7]; rfl⟩
      subst hvP
      simp only at hrP
      have S6h := hide S6
      have B6h := hide b6
      have k6h := hide k6
      clear S6 b6 k6
      have HG6 := hide (show (w6.setCell ⟨tb, 0, none⟩ (.slice aP (n + 1) cP)).heap[gl']? = u5.heap[gl']? from (Below.heap_setCell w6 ⟨tb, 0, none⟩ (.slice aP (n + 1) cP) gl' hglt).trans ((((unhide S5).below (unhide D13)).page_keep (h := (⟨⟨MID, HI, RI, E.drop Kd, []⟩, ⟨aE, nE, kE⟩, ⟨none, 0, 0⟩⟩ : PpH)) (by rw [unhide HL7]; omega) (Nat.le_trans hsz5 (unhide D13).size) hrP gl' (Nat.lt_of_lt_of_le hgl5 (unhide D13).size) (fun e => own_other (unhide OE5) (unhide S5).own.pg.row (by decide) rfl e)).trans ((unhide D13).block gl' hgl5)))
      have E6 := hide (show w6.cell? ⟨gl', Kd * 2, none⟩ = some (.string MID) from by
        have h := ((unhide S5).below (unhide D13)).page_keep (h := (⟨⟨MID, HI, RI, E.drop Kd, []⟩, ⟨aE, nE, kE⟩, ⟨none, 0, 0⟩⟩ : PpH)) (by rw [unhide HL7]; omega) (Nat.le_trans hsz5 (unhide D13).size) hrP gl' (Nat.lt_of_lt_of_le hgl5 (unhide D13).size) (fun e => own_other (unhide OE5) (unhide S5).own.pg.row (by decide) rfl e)
        exact (World.cell?_of_block (a := ⟨gl', Kd * 2, none⟩) h).trans (unhide SK _ (unhide D13)))
      go_simp
      refine hK.out _ _ (unhide SK _ (unhide D15)) (fun hHeld => ?_)
      clear hK K
      refine wpAnyH_ready (rs := [16]) (by kernel_rfl) (by simp) ?_
      refine AllReadyH.cons rfl (fun K hK => ?_) AllReadyH.nil
      refine us_stepApp rfl (.tmp 50) (.tmp 64) 25 rfl _ _ (.slice aP (n + 1) cP) w6 (by first | rfl | (simp [Act.eval]; done) | (simp [Act.eval, Act.put]; done)) (by first | rfl | (simp [Act.eval]; done) | (simp [Act.eval, Act.put]; done)) hrP ?_
      clear hrP
      refine hK.out _ _ (unhide E6) (fun hHeld => ?_)
      clear hK K
      refine anyH_take 17 66 (v := ?v13) rfl rfl (by kernel_rfl) (by kernel_rfl) (by kernel_rfl) (fun _ _ _ h => h) (by rfl) ?h13 hHeld ?r13
      case h13 => (intro w hSw; (try dsimp only at hSw); go_simp; try (with_reducible rfl))
      simp only [Act.put, List.setIfInBounds_toArray]
      refine wpAnyH_ready (rs := [18]) (by kernel_rfl) (by simp) ?_
      refine AllReadyH.cons rfl (fun K hK => ?_) AllReadyH.nil
      have z6 := (heap_at (unhide k6h) 0).1
      have f6 := (heap_at (unhide k6h) 0).2
      have E7 := hide (show (w6.setCell ⟨tb, 0, none⟩ (.slice aP (n + 1) cP)).cell? ⟨gl', Kd * 2, none⟩ = some (.string MID) from (World.cell?_setCell_other _ _ _ _ (by intro e; injection e with e; exact absurd e.symm hglt)).trans (unhide E6))
      go_simp
      refine hK.out _ _ (unhide E7) (fun hHeld => ?_)
      clear hK K
      refine wpAnyH_done (by kernel_rfl) ?_ _
      go_wp2_with fail
      go_meet
      case rel => exact ⟨aP, cP, aE, nE, kE, rfl, S6h, (unhide B5).trans (unhide B6h), unhide HG6⟩
    · have D9 := hide ((unhide Ds).alloc (unhide Ds).size (.cells #[] 41))
      have O9 := hide (gd_base (nil_lit (w := us) 41 2) (unhide Ds).size)
      go_simp
      generalize us.alloc (.cells #[] 41) = u9 at *
      generalize us.heap.size = g9 at *
      refine hK.out _ _ (unhide SK _ (unhide D9)) (fun hHeld => ?_)
      clear hK K
      refine wpAnyH_ready (rs := [1, 13]) (by kernel_rfl) (by simp) ?_
      refine AllReadyH.cons rfl (fun K hK => ?_) (AllReadyH.cons rfl (fun K hK => ?_) AllReadyH.nil)
      · have y := unhide Y1 _ (unhide D9)
        go_simp
        clear y
        refine hK.out _ _ (hHeld) (fun hHeld => ?_)
        clear hK K
        refine wpAnyH_ready (rs := [13]) (by kernel_rfl) (by simp) ?_
        refine AllReadyH.cons rfl (fun K hK => ?_) AllReadyH.nil
        obtain ⟨v13, u13, hr, hO13, hg13, -⟩ := run_appE (c := cl - Kd) 36 (show EOwns _ _ _ [] from unhide O9) ((unhide RD).below (unhide D9)) (by simp) (by omega) (fun e => by cases e) (unhide D9).size
        have D13 := hide ((unhide D9).trans (WrB.below (WrB.of_grown hg13) (fun i hi => ((unhide O9).lt i hi).1) (unhide D9).size))
        obtain ⟨aE, kE, rfl⟩ := us_sl hO13
        rw [List.nil_append] at hr hO13
        obtain ⟨nE, hnE⟩ : ∃ nE, nE = (E.drop Kd).length := ⟨_, rfl⟩
        rw [← hnE] at hr hO13
        have O13 := hide hO13
        have HNE := hide hnE
        clear hO13 hg13 hnE
        refine us_stepApp rfl (.tmp 58) (.tmp 61) 36 rfl _ _ (.slice aE nE kE) u13 (by first | rfl | (simp [Act.eval]; done) | (simp [Act.eval, Act.put]; done)) (by first | rfl | (simp [Act.eval]; done) | (simp [Act.eval, Act.put]; done)) hr ?_
        clear hr
        refine hK.out _ _ (unhide SK _ (unhide D13)) (fun hHeld => ?_)
        clear hK K
        refine anyH_take 14 63 (v := ?v14) rfl rfl (by kernel_rfl) (by kernel_rfl) (by kernel_rfl) (fun _ _ _ h => h) (by rfl) ?h14 hHeld ?r14
        case h14 => (intro w hSw; (try dsimp only at hSw); go_simp; try (with_reducible rfl))
        simp only [Act.put, List.setIfInBounds_toArray]
        refine wpAnyH_ready (rs := [15]) (by kernel_rfl) (by simp) ?_
        refine AllReadyH.cons rfl (fun K hK => ?_) AllReadyH.nil
        have D15 := hide ((unhide D13).alloc (unhide D13).size (.cells #[.string MID, .string HI, .int .i64 RI, .slice aE nE kE, .slice none 0 0] 67))
        obtain ⟨vP, w6, hrP, S6, b6, k6⟩ := (unhide S5).page (h := (⟨⟨MID, HI, RI, E.drop Kd, []⟩, ⟨aE, nE, kE⟩, ⟨none, 0, 0⟩⟩ : PpH)) (unhide D13) (by have h := unhide O13; rw [unhide HNE] at h ⊢; exact h) (World.ownsRow_nil _ _ _ _) htb (by rw [unhide HL7]; omega) hsz5
        obtain ⟨aP, cP, hvP⟩ : ∃ a c, vP = .slice a (n + 1) c := by
          obtain ⟨a, c, e⟩ := us_sl S6.own.pg.row
          exact ⟨a, c, by rw [e, List.length_append, unhide HL7]; rfl⟩
        subst hvP
        simp only at hrP
        have S6h := hide S6
        have B6h := hide b6
        have k6h := hide k6
        clear S6 b6 k6
        have HG6 := hide (show (w6.setCell ⟨tb, 0, none⟩ (.slice aP (n + 1) cP)).heap[gl']? = u5.heap[gl']? from (Below.heap_setCell w6 ⟨tb, 0, none⟩ (.slice aP (n + 1) cP) gl' hglt).trans ((((unhide S5).below (unhide D13)).page_keep (h := (⟨⟨MID, HI, RI, E.drop Kd, []⟩, ⟨aE, nE, kE⟩, ⟨none, 0, 0⟩⟩ : PpH)) (by rw [unhide HL7]; omega) (Nat.le_trans hsz5 (unhide D13).size) hrP gl' (Nat.lt_of_lt_of_le hgl5 (unhide D13).size) (fun e => own_other (unhide OE5) (unhide S5).own.pg.row (by decide) rfl e)).trans ((unhide D13).block gl' hgl5)))
        have E6 := hide (show w6.cell? ⟨gl', Kd * 2, none⟩ = some (.string MID) from by
          have h := ((unhide S5).below (unhide D13)).page_keep (h := (⟨⟨MID, HI, RI, E.drop Kd, []⟩, ⟨aE, nE, kE⟩, ⟨none, 0, 0⟩⟩ : PpH)) (by rw [unhide HL7]; omega) (Nat.le_trans hsz5 (unhide D13).size) hrP gl' (Nat.lt_of_lt_of_le hgl5 (unhide D13).size) (fun e => own_other (unhide OE5) (unhide S5).own.pg.row (by decide) rfl e)
          exact (World.cell?_of_block (a := ⟨gl', Kd * 2, none⟩) h).trans (unhide SK _ (unhide D13)))
        go_simp
        refine hK.out _ _ (unhide SK _ (unhide D15)) (fun hHeld => ?_)
        clear hK K
        refine wpAnyH_ready (rs := [16]) (by kernel_rfl) (by simp) ?_
        refine AllReadyH.cons rfl (fun K hK => ?_) AllReadyH.nil
        refine us_stepApp rfl (.tmp 50) (.tmp 64) 25 rfl _ _ (.slice aP (n + 1) cP) w6 (by first | rfl | (simp [Act.eval]; done) | (simp [Act.eval, Act.put]; done)) (by first | rfl | (simp [Act.eval]; done) | (simp [Act.eval, Act.put]; done)) hrP ?_
        clear hrP
        refine hK.out _ _ (unhide E6) (fun hHeld => ?_)
        clear hK K
        refine anyH_take 17 66 (v := ?v15) rfl rfl (by kernel_rfl) (by kernel_rfl) (by kernel_rfl) (fun _ _ _ h => h) (by rfl) ?h15 hHeld ?r15
        case h15 => (intro w hSw; (try dsimp only at hSw); go_simp; try (with_reducible rfl))
        simp only [Act.put, List.setIfInBounds_toArray]
        refine wpAnyH_ready (rs := [18]) (by kernel_rfl) (by simp) ?_
        refine AllReadyH.cons rfl (fun K hK => ?_) AllReadyH.nil
        have z6 := (heap_at (unhide k6h) 0).1
        have f6 := (heap_at (unhide k6h) 0).2
        have E7 := hide (show (w6.setCell ⟨tb, 0, none⟩ (.slice aP (n + 1) cP)).cell? ⟨gl', Kd * 2, none⟩ = some (.string MID) from (World.cell?_setCell_other _ _ _ _ (by intro e; injection e with e; exact absurd e.symm hglt)).trans (unhide E6))
        go_simp
        refine hK.out _ _ (unhide E7) (fun hHeld => ?_)
        clear hK K
        refine wpAnyH_done (by kernel_rfl) ?_ _
        go_wp2_with fail
        go_meet
        case rel => exact ⟨aP, cP, aE, nE, kE, rfl, S6h, (unhide B5).trans (unhide B6h), unhide HG6⟩
      · obtain ⟨v13, u13, hr, hO13, hg13, -⟩ := run_appE (c := cl - Kd) 36 (show EOwns _ _ _ [] from unhide O9) ((unhide RD).below (unhide D9)) (by simp) (by omega) (fun e => by cases e) (unhide D9).size
        have D13 := hide ((unhide D9).trans (WrB.below (WrB.of_grown hg13) (fun i hi => ((unhide O9).lt i hi).1) (unhide D9).size))
        obtain ⟨aE, kE, rfl⟩ := us_sl hO13
        rw [List.nil_append] at hr hO13
        obtain ⟨nE, hnE⟩ : ∃ nE, nE = (E.drop Kd).length := ⟨_, rfl⟩
        rw [← hnE] at hr hO13
        have O13 := hide hO13
        have HNE := hide hnE
        clear hO13 hg13 hnE
        refine us_stepApp rfl (.tmp 58) (.tmp 61) 36 rfl _ _ (.slice aE nE kE) u13 (by first | rfl | (simp [Act.eval]; done) | (simp [Act.eval, Act.put]; done)) (by first | rfl | (simp [Act.eval]; done) | (simp [Act.eval, Act.put]; done)) hr ?_
        clear hr
        refine hK.out _ _ (unhide SK _ (unhide D13)) (fun hHeld => ?_)
        clear hK K
        refine anyH_take 14 63 (v := ?v16) rfl rfl (by kernel_rfl) (by kernel_rfl) (by kernel_rfl) (fun _ _ _ h => h) (by rfl) ?h16 hHeld ?r16
        case h16 => (intro w hSw; (try dsimp only at hSw); go_simp; try (with_reducible rfl))
        simp only [Act.put, List.setIfInBounds_toArray]
        refine wpAnyH_ready (rs := [1, 15]) (by kernel_rfl) (by simp) ?_
        refine AllReadyH.cons rfl (fun K hK => ?_) (AllReadyH.cons rfl (fun K hK => ?_) AllReadyH.nil)
        · have y := unhide Y1 _ (unhide D13)
          go_simp
          clear y
          refine hK.out _ _ (hHeld) (fun hHeld => ?_)
          clear hK K
          refine wpAnyH_ready (rs := [15]) (by kernel_rfl) (by simp) ?_
          refine AllReadyH.cons rfl (fun K hK => ?_) AllReadyH.nil
          have D15 := hide ((unhide D13).alloc (unhide D13).size (.cells #[.string MID, .string HI, .int .i64 RI, .slice aE nE kE, .slice none 0 0] 67))
          obtain ⟨vP, w6, hrP, S6, b6, k6⟩ := (unhide S5).page (h := (⟨⟨MID, HI, RI, E.drop Kd, []⟩, ⟨aE, nE, kE⟩, ⟨none, 0, 0⟩⟩ : PpH)) (unhide D13) (by have h := unhide O13; rw [unhide HNE] at h ⊢; exact h) (World.ownsRow_nil _ _ _ _) htb (by rw [unhide HL7]; omega) hsz5
          obtain ⟨aP, cP, hvP⟩ : ∃ a c, vP = .slice a (n + 1) c := by
            obtain ⟨a, c, e⟩ := us_sl S6.own.pg.row
            exact ⟨a, c, by rw [e, List.length_append, unhide HL7]; rfl⟩
          subst hvP
          simp only at hrP
          have S6h := hide S6
          have B6h := hide b6
          have k6h := hide k6
          clear S6 b6 k6
          have HG6 := hide (show (w6.setCell ⟨tb, 0, none⟩ (.slice aP (n + 1) cP)).heap[gl']? = u5.heap[gl']? from (Below.heap_setCell w6 ⟨tb, 0, none⟩ (.slice aP (n + 1) cP) gl' hglt).trans ((((unhide S5).below (unhide D13)).page_keep (h := (⟨⟨MID, HI, RI, E.drop Kd, []⟩, ⟨aE, nE, kE⟩, ⟨none, 0, 0⟩⟩ : PpH)) (by rw [unhide HL7]; omega) (Nat.le_trans hsz5 (unhide D13).size) hrP gl' (Nat.lt_of_lt_of_le hgl5 (unhide D13).size) (fun e => own_other (unhide OE5) (unhide S5).own.pg.row (by decide) rfl e)).trans ((unhide D13).block gl' hgl5)))
          have E6 := hide (show w6.cell? ⟨gl', Kd * 2, none⟩ = some (.string MID) from by
            have h := ((unhide S5).below (unhide D13)).page_keep (h := (⟨⟨MID, HI, RI, E.drop Kd, []⟩, ⟨aE, nE, kE⟩, ⟨none, 0, 0⟩⟩ : PpH)) (by rw [unhide HL7]; omega) (Nat.le_trans hsz5 (unhide D13).size) hrP gl' (Nat.lt_of_lt_of_le hgl5 (unhide D13).size) (fun e => own_other (unhide OE5) (unhide S5).own.pg.row (by decide) rfl e)
            exact (World.cell?_of_block (a := ⟨gl', Kd * 2, none⟩) h).trans (unhide SK _ (unhide D13)))
          go_simp
          refine hK.out _ _ (unhide SK _ (unhide D15)) (fun hHeld => ?_)
          clear hK K
          refine wpAnyH_ready (rs := [16]) (by kernel_rfl) (by simp) ?_
          refine AllReadyH.cons rfl (fun K hK => ?_) AllReadyH.nil
          refine us_stepApp rfl (.tmp 50) (.tmp 64) 25 rfl _ _ (.slice aP (n + 1) cP) w6 (by first | rfl | (simp [Act.eval]; done) | (simp [Act.eval, Act.put]; done)) (by first | rfl | (simp [Act.eval]; done) | (simp [Act.eval, Act.put]; done)) hrP ?_
          clear hrP
          refine hK.out _ _ (unhide E6) (fun hHeld => ?_)
          clear hK K
          refine anyH_take 17 66 (v := ?v17) rfl rfl (by kernel_rfl) (by kernel_rfl) (by kernel_rfl) (fun _ _ _ h => h) (by rfl) ?h17 hHeld ?r17
          case h17 => (intro w hSw; (try dsimp only at hSw); go_simp; try (with_reducible rfl))
          simp only [Act.put, List.setIfInBounds_toArray]
          refine wpAnyH_ready (rs := [18]) (by kernel_rfl) (by simp) ?_
          refine AllReadyH.cons rfl (fun K hK => ?_) AllReadyH.nil
          have z6 := (heap_at (unhide k6h) 0).1
          have f6 := (heap_at (unhide k6h) 0).2
          have E7 := hide (show (w6.setCell ⟨tb, 0, none⟩ (.slice aP (n + 1) cP)).cell? ⟨gl', Kd * 2, none⟩ = some (.string MID) from (World.cell?_setCell_other _ _ _ _ (by intro e; injection e with e; exact absurd e.symm hglt)).trans (unhide E6))
          go_simp
          refine hK.out _ _ (unhide E7) (fun hHeld => ?_)
          clear hK K
          refine wpAnyH_done (by kernel_rfl) ?_ _
          go_wp2_with fail
          go_meet
          case rel => exact ⟨aP, cP, aE, nE, kE, rfl, S6h, (unhide B5).trans (unhide B6h), unhide HG6⟩
        · have D15 := hide ((unhide D13).alloc (unhide D13).size (.cells #[.string MID, .string HI, .int .i64 RI, .slice aE nE kE, .slice none 0 0] 67))
          obtain ⟨vP, w6, hrP, S6, b6, k6⟩ := (unhide S5).page (h := (⟨⟨MID, HI, RI, E.drop Kd, []⟩, ⟨aE, nE, kE⟩, ⟨none, 0, 0⟩⟩ : PpH)) (unhide D13) (by have h := unhide O13; rw [unhide HNE] at h ⊢; exact h) (World.ownsRow_nil _ _ _ _) htb (by rw [unhide HL7]; omega) hsz5
          obtain ⟨aP, cP, hvP⟩ : ∃ a c, vP = .slice a (n + 1) c := by
            obtain ⟨a, c, e⟩ := us_sl S6.own.pg.row
            exact ⟨a, c, by rw [e, List.length_append, unhide HL7]; rfl⟩
          subst hvP
          simp only at hrP
          have S6h := hide S6
          have B6h := hide b6
          have k6h := hide k6
          clear S6 b6 k6
          have HG6 := hide (show (w6.setCell ⟨tb, 0, none⟩ (.slice aP (n + 1) cP)).heap[gl']? = u5.heap[gl']? from (Below.heap_setCell w6 ⟨tb, 0, none⟩ (.slice aP (n + 1) cP) gl' hglt).trans ((((unhide S5).below (unhide D13)).page_keep (h := (⟨⟨MID, HI, RI, E.drop Kd, []⟩, ⟨aE, nE, kE⟩, ⟨none, 0, 0⟩⟩ : PpH)) (by rw [unhide HL7]; omega) (Nat.le_trans hsz5 (unhide D13).size) hrP gl' (Nat.lt_of_lt_of_le hgl5 (unhide D13).size) (fun e => own_other (unhide OE5) (unhide S5).own.pg.row (by decide) rfl e)).trans ((unhide D13).block gl' hgl5)))
          have E6 := hide (show w6.cell? ⟨gl', Kd * 2, none⟩ = some (.string MID) from by
            have h := ((unhide S5).below (unhide D13)).page_keep (h := (⟨⟨MID, HI, RI, E.drop Kd, []⟩, ⟨aE, nE, kE⟩, ⟨none, 0, 0⟩⟩ : PpH)) (by rw [unhide HL7]; omega) (Nat.le_trans hsz5 (unhide D13).size) hrP gl' (Nat.lt_of_lt_of_le hgl5 (unhide D13).size) (fun e => own_other (unhide OE5) (unhide S5).own.pg.row (by decide) rfl e)
            exact (World.cell?_of_block (a := ⟨gl', Kd * 2, none⟩) h).trans (unhide SK _ (unhide D13)))
          go_simp
          refine hK.out _ _ (unhide SK _ (unhide D15)) (fun hHeld => ?_)
          clear hK K
          refine wpAnyH_ready (rs := [1]) (by kernel_rfl) (by simp) ?_
          refine AllReadyH.cons rfl (fun K hK => ?_) AllReadyH.nil
          have y := unhide Y1 _ (unhide D15)
          go_simp
          clear y
          refine hK.out _ _ (hHeld) (fun hHeld => ?_)
          clear hK K
          refine wpAnyH_ready (rs := [16]) (by kernel_rfl) (by simp) ?_
          refine AllReadyH.cons rfl (fun K hK => ?_) AllReadyH.nil
          refine us_stepApp rfl (.tmp 50) (.tmp 64) 25 rfl _ _ (.slice aP (n + 1) cP) w6 (by first | rfl | (simp [Act.eval]; done) | (simp [Act.eval, Act.put]; done)) (by first | rfl | (simp [Act.eval]; done) | (simp [Act.eval, Act.put]; done)) hrP ?_
          clear hrP
          refine hK.out _ _ (unhide E6) (fun hHeld => ?_)
          clear hK K
          refine anyH_take 17 66 (v := ?v18) rfl rfl (by kernel_rfl) (by kernel_rfl) (by kernel_rfl) (fun _ _ _ h => h) (by rfl) ?h18 hHeld ?r18
          case h18 => (intro w hSw; (try dsimp only at hSw); go_simp; try (with_reducible rfl))
          simp only [Act.put, List.setIfInBounds_toArray]
          refine wpAnyH_ready (rs := [18]) (by kernel_rfl) (by simp) ?_
          refine AllReadyH.cons rfl (fun K hK => ?_) AllReadyH.nil
          have z6 := (heap_at (unhide k6h) 0).1
          have f6 := (heap_at (unhide k6h) 0).2
          have E7 := hide (show (w6.setCell ⟨tb, 0, none⟩ (.slice aP (n + 1) cP)).cell? ⟨gl', Kd * 2, none⟩ = some (.string MID) from (World.cell?_setCell_other _ _ _ _ (by intro e; injection e with e; exact absurd e.symm hglt)).trans (unhide E6))
          go_simp
          refine hK.out _ _ (unhide E7) (fun hHeld => ?_)
          clear hK K
          refine wpAnyH_done (by kernel_rfl) ?_ _
          go_wp2_with fail
          go_meet
          case rel => exact ⟨aP, cP, aE, nE, kE, rfl, S6h, (unhide B5).trans (unhide B6h), unhide HG6⟩
  case rest =>
    obtain ⟨aP, cP, aE, nE, kE, rfl, S6, B6, hg6⟩ := hcut
    obtain ⟨ecur, hecur⟩ := own_kind (unhide OE5) (i := gl') rfl
    have KE6 := hide (hg6.trans hecur)
    have hhl : (hs7 ++ [(⟨⟨MID, HI, RI, E.drop Kd, []⟩, ⟨aE, nE, kE⟩, ⟨none, 0, 0⟩⟩ : PpH)]).length = n + 1 := by rw [List.length_append, unhide HL7]; rfl
    have hgsl : (ps.map (·.isNone)).length = n := by rw [List.length_map]; exact (unhide LNS).1
    obtain ⟨vG, w7, hrG, S7, b7, k7⟩ := (unhide S6).flag (q := false) htb (by rw [hgsl]; omega) B6.size
    have hk7 := (unhide S6).flag_keep (q := false) (by rw [hgsl]; omega) B6.size hrG gl' (blk_lt (unhide KE6)) (fun e => own_box (unhide S6).own.go (unhide KE6) (by decide) e)
    obtain ⟨aG, cG, hvG⟩ : ∃ a c, vG = .slice a (n + 1) c := by
      obtain ⟨a, c, e⟩ := us_sl S7.own.go
      exact ⟨a, c, by rw [e, List.length_append, hgsl]; rfl⟩
    subst hvG
    have x1 := (heap_at (unhide S6).box 1).1
    have x1g := (heap_at k7 1).1
    have x1f := (heap_at k7 1).2
    have S7h := hide S7
    have B7 := hide (B6.trans b7)
    have KE7 := hide (show (w7.setCell ⟨tb, 1, none⟩ (.slice aG (n + 1) cG)).heap[gl']? = some (.cells ecur 41 (0, 0)) from (Below.heap_setCell w7 ⟨tb, 1, none⟩ (.slice aG (n + 1) cG) gl' hglt).trans (hk7.trans (unhide KE6)))
    clear S7 b7 k7 hk7 hg6 lk
    have hlE : ecur[Kd * 2]? = some (.string MID) := by
      obtain ⟨gl2, ol2, hgl2, lk2, -⟩ := (unhide REh).2 Kd (unhide ME).1
      obtain ⟨rfl, rfl⟩ : gl2 = gl' ∧ ol2 = 0 := by
        injection hgl2 with e
        injection e with e1 e2 _
        exact ⟨e1.symm, e2.symm⟩
      rw [Nat.zero_add, ← (unhide ME).2, (heap_at hecur _).1] at lk2
      exact lk2
    have HLE := hide hlE
    clear hlE hecur
    go_upto_region 14 with (at_builtin; refine wpAppE rfl _ _ 26 rfl _ _ (.slice aG (n + 1) cG) w7 rfl rfl hrG ?_)
    clear x1 x1g x1f hrG
    generalize w7.setCell ⟨tb, 1, none⟩ (.slice aG (n + 1) cG) = u7 at *
    have hid : id < (hs7 ++ [(⟨⟨MID, HI, RI, E.drop Kd, []⟩, ⟨aE, nE, kE⟩, ⟨none, 0, 0⟩⟩ : PpH)]).length := by rw [hhl]; omega
    obtain ⟨x7, hx7, hX7⟩ : ∃ x7, (hs7 ++ [(⟨⟨MID, HI, RI, E.drop Kd, []⟩, ⟨aE, nE, kE⟩, ⟨none, 0, 0⟩⟩ : PpH)])[id]? = some x7 ∧ x7.X = X := by
      have h7 : id < hs7.length := by rw [unhide HL7]; exact hkn
      refine ⟨hs7[id], by rw [List.getElem?_append_left h7, List.getElem?_eq_getElem h7], ?_⟩
      obtain ⟨hk, hp⟩ := getP_is (unhide GPh)
      have e := congrArg (fun l => l[id]?) (unhide DAT)
      simp only [List.getElem?_map, List.getElem?_eq_getElem h7, List.getElem?_eq_getElem hk, Option.map_some] at e
      injection e with e
      rw [e, hp]
      rfl
    have hXd : x7.X.ds.length ≤ 12 := by rw [hX7]; exact (ok_parts hokp).2.2.1
    obtain ⟨gp, gc, hvp, hcel⟩ := (unhide S7h).cells hid hx7
    rw [hhl] at hvp
    injection hvp with e1 e2 e3
    clear e2
    subst e1 e3
    have y4 := hcel 4 (by decide)
    unfold pcs at y4
    simp only [List.getElem_cons_zero, List.getElem_cons_succ] at y4
    clear hcel
    have tb7 := (heap_at (unhide S7h).box 0).1
    have HX7 := hide hX7
    have HX7q := hide hx7
    clear hX7 hx7
    obtain ⟨XX, ⟨ta, tn, tc⟩, ⟨va, vn, vc⟩⟩ := x7
    simp only at y4 HX7 hXd
    have hsz7 : W.heap.size ≤ u7.heap.size := (unhide B7).size
    have SK7 := hide (show ∀ u : World, u.heap[gl']? = some (.cells ecur 41 (0, 0)) → u.heap[tb]? = some (.cells #[.slice (some ⟨gp, 0, none⟩) (n + 1) cP, .slice aG (n + 1) cG, .slice b3 m k3'] 29 (0, 0)) → (u.cell? ⟨tb, 0, none⟩ = some (.slice (some ⟨gp, 0, none⟩) (n + 1) cP) ∧ u.cell? ⟨gl', Kd * 2, none⟩ = some (.string MID)) from fun u h1 h2 => ⟨(heap_at h2 0).1, (heap_at h1 (Kd * 2)).1.trans (unhide HLE)⟩)
    have BX7 := hide (unhide S7h).box
    have SB7 := hide (show ∀ u, Below u7.heap.size u7 u → (u.cell? ⟨tb, 0, none⟩ = some (.slice (some ⟨gp, 0, none⟩) (n + 1) cP) ∧ u.cell? ⟨gl', Kd * 2, none⟩ = some (.string MID)) from fun u hu => unhide SK7 u ((hu.block gl' (blk_lt (unhide KE7))).trans (unhide KE7)) ((hu.block tb (blk_lt (unhide BX7))).trans (unhide BX7)))
    have hgpl := cell_lt y4
    have Y4 := hide (show ∀ u, Below u7.heap.size u7 u → u.cell? ⟨gp, id * 5 + 4, none⟩ = some (.slice va vn vc) from fun u hu => (hu.cell (p := ⟨gp, id * 5 + 4, none⟩) hgpl).trans y4)
    have hidn1 : (id : Int) < (n : Int) + 1 := by omega
    have HIDh := hide hid
    clear y4 tb7 hid
    refine wp_region_held_drew (S := (fun u => (u.cell? ⟨tb, 0, none⟩ = some (.slice (some ⟨gp, 0, none⟩) (n + 1) cP) ∧ u.cell? ⟨gl', Kd * 2, none⟩ = some (.string MID)))) (by kernel_rfl) (unhide SB7 _ ((Below.refl _ _).drew)) (fun hHeld => ?_)
    have Ds := hide (show Below u7.heap.size u7 u7.drew from (Below.refl _ _).drew)
    generalize u7.drew = us at *
    refine anyH_take 0 72 (v := ?v19) rfl rfl (by kernel_rfl) (by kernel_rfl) (by kernel_rfl) (fun _ _ _ h => h) (by rfl) ?h19 hHeld ?r19
    case h19 => (intro w hSw; (try dsimp only at hSw); go_simp; try (with_reducible rfl))
    simp only [Act.put, List.setIfInBounds_toArray, List.set_cons_zero, List.set_cons_succ]
    refine anyH_take 1 73 (v := ?v20) rfl rfl (by kernel_rfl) (by kernel_rfl) (by kernel_rfl) (fun _ _ _ h => h) (by rfl) ?h20 hHeld ?r20
    case h20 => (intro w hSw; (try dsimp only at hSw); go_simp; try (with_reducible rfl))
    simp only [Act.put, List.setIfInBounds_toArray, List.set_cons_zero, List.set_cons_succ]
    refine anyH_take 2 74 (v := ?v21) rfl rfl (by kernel_rfl) (by kernel_rfl) (by kernel_rfl) (fun _ _ _ h => h) (by rfl) ?h21 hHeld ?r21
    case h21 => (intro w hSw; (try dsimp only at hSw); go_simp; try (with_reducible rfl))
    simp only [Act.put, List.setIfInBounds_toArray, List.set_cons_zero, List.set_cons_succ]
    refine anyH_take 3 75 (v := ?v22) rfl rfl (by kernel_rfl) (by kernel_rfl) (by kernel_rfl) (fun _ _ _ h => h) (by rfl) ?h22 hHeld ?r22
    case h22 => (intro w hSw; (try dsimp only at hSw); go_simp; try (with_reducible rfl))
    simp only [Act.put, List.setIfInBounds_toArray, List.set_cons_zero, List.set_cons_succ]
    refine anyH_take 4 76 (v := ?v23) rfl rfl (by kernel_rfl) (by kernel_rfl) (by kernel_rfl) (fun _ _ _ h => h) (by rfl) ?h23 hHeld ?r23
    case h23 => (intro w hSw; (try dsimp only at hSw); go_simp; try (with_reducible rfl))
    simp only [Act.put, List.setIfInBounds_toArray, List.set_cons_zero, List.set_cons_succ]
    refine anyH_take 5 77 (v := ?v24) rfl rfl (by kernel_rfl) (by kernel_rfl) (by kernel_rfl) (fun _ _ _ h => h) (by rfl) ?h24 hHeld ?r24
    case h24 => (intro w hSw; (try dsimp only at hSw); go_simp; try (with_reducible rfl))
    simp only [Act.put, List.setIfInBounds_toArray, List.set_cons_zero, List.set_cons_succ]
    refine anyH_take 6 78 (v := ?v25) rfl rfl (by kernel_rfl) (by kernel_rfl) (by kernel_rfl) (fun _ _ _ h => h) (by rfl) ?h25 hHeld ?r25
    case h25 => (intro w hSw; (try dsimp only at hSw); go_simp; try (with_reducible rfl))
    simp only [Act.put, List.setIfInBounds_toArray, List.set_cons_zero, List.set_cons_succ]
    refine anyH_take 7 79 (v := ?v26) rfl rfl (by kernel_rfl) (by kernel_rfl) (by kernel_rfl) (fun _ _ _ h => h) (by rfl) ?h26 hHeld ?r26
    case h26 => (intro w hSw; (try dsimp only at hSw); go_simp; try (with_reducible rfl))
    simp only [Act.put, List.setIfInBounds_toArray, List.set_cons_zero, List.set_cons_succ]
    refine anyH_take 9 81 (v := ?v27) rfl rfl (by kernel_rfl) (by kernel_rfl) (by kernel_rfl) (fun _ _ _ h => h) (by rfl) ?h27 hHeld ?r27
    case h27 => (intro w hSw; (try dsimp only at hSw); go_simp; try (with_reducible rfl))
    simp only [Act.put, List.setIfInBounds_toArray, List.set_cons_zero, List.set_cons_succ]
    refine anyH_take 10 82 (v := ?v28) rfl rfl (by kernel_rfl) (by kernel_rfl) (by kernel_rfl) (fun _ _ _ h => h) (by rfl) ?h28 hHeld ?r28
    case h28 => (intro w hSw; (try dsimp only at hSw); go_simp; try (with_reducible rfl))
    simp only [Act.put, List.setIfInBounds_toArray, List.set_cons_zero, List.set_cons_succ]
    refine anyH_take 11 83 (v := ?v29) rfl rfl (by kernel_rfl) (by kernel_rfl) (by kernel_rfl) (fun _ _ _ h => h) (by rfl) ?h29 hHeld ?r29
    case h29 => (intro w hSw; (try dsimp only at hSw); go_simp; try (with_reducible rfl))
    simp only [Act.put, List.setIfInBounds_toArray, List.set_cons_zero, List.set_cons_succ]
    refine anyH_take 12 84 (v := ?v30) rfl rfl (by kernel_rfl) (by kernel_rfl) (by kernel_rfl) (fun _ _ _ h => h) (by rfl) ?h30 hHeld ?r30
    case h30 => (intro w hSw; (try dsimp only at hSw); go_simp; try (with_reducible rfl))
    simp only [Act.put, List.setIfInBounds_toArray, List.set_cons_zero, List.set_cons_succ]
    refine anyH_take 13 85 (v := ?v31) rfl rfl (by kernel_rfl) (by kernel_rfl) (by kernel_rfl) (fun _ _ _ h => h) (by rfl) ?h31 hHeld ?r31
    case h31 => (intro w hSw; (try dsimp only at hSw); go_simp; try (with_reducible rfl))
    simp only [Act.put, List.setIfInBounds_toArray, List.set_cons_zero, List.set_cons_succ]
    refine anyH_take 14 86 (v := ?v32) rfl rfl (by kernel_rfl) (by kernel_rfl) (by kernel_rfl) (fun _ _ _ h => h) (by rfl) ?h32 hHeld ?r32
    case h32 => (intro w hSw; (try dsimp only at hSw); go_simp; try (with_reducible rfl))
    simp only [Act.put, List.setIfInBounds_toArray, List.set_cons_zero, List.set_cons_succ]
    refine anyH_take 15 87 (v := ?v33) rfl rfl (by kernel_rfl) (by kernel_rfl) (by kernel_rfl) (fun _ _ _ h => h) (by rfl) ?h33 hHeld ?r33
    case h33 => (intro w hSw; (try dsimp only at hSw); go_simp; try (with_reducible rfl))
    simp only [Act.put, List.setIfInBounds_toArray, List.set_cons_zero, List.set_cons_succ]
    refine wpAnyH_ready (rs := [8, 16]) (by kernel_rfl) (by simp) ?_
    refine AllReadyH.cons rfl (fun K hK => ?_) (AllReadyH.cons rfl (fun K hK => ?_) AllReadyH.nil)
    · have y := unhide Y4 _ (unhide Ds)
      go_simp
      clear y
      refine hK.out _ _ (hHeld) (fun hHeld => ?_)
      clear hK K
      refine wpAnyH_ready (rs := [16]) (by kernel_rfl) (by simp) ?_
      refine AllReadyH.cons rfl (fun K hK => ?_) AllReadyH.nil
      have D16 := hide ((unhide Ds).alloc (unhide Ds).size (.cells #[.int .i64 3, .string MID, .string ⟨#[]⟩, .int .i64 (n : Int)] 90))
      have Ss := (unhide S7h).below (unhide Ds)
      obtain ⟨g2, gc2, a9, k9, w8, hvp, hrD, hcel, hfz, b8, S8, hBg, hgt, k8⟩ := Ss.chain (unhide HIDh) (unhide HX7q) (spD MID n) (by show XX.ds.length ≤ 1000; omega) (Nat.le_trans hsz7 (unhide Ds).size)
      have hck := Ss.chain_keep (unhide HX7q) (spD MID n) (by show XX.ds.length ≤ 1000; omega) (Nat.le_trans hsz7 (unhide Ds).size) hrD
      injection hvp with e1 e2 e3
      clear e2 e3
      injection e1 with e1
      injection e1 with e1 _ _
      subst e1
      have kE8 := hck gl' _ _ (((unhide Ds).block gl' (blk_lt (unhide KE7))).trans (unhide KE7)) (by decide)
      have x4 := hcel 4 (by decide)
      have xf := hfz (id * 5 + 4)
      unfold pcs at x4
      simp only [List.getElem_cons_zero, List.getElem_cons_succ] at x4
      simp only at hrD S8
      unfold spD at hrD
      simp only at hrD
      obtain ⟨ND, hND⟩ : ∃ ND, ND = XX.ds.length + 1 := ⟨_, rfl⟩
      rw [← hND] at hrD S8
      have E8 := hide (unhide SK7 w8 kE8 k8)
      have kF : (w8.setCell ⟨gp, id * 5 + 4, none⟩ (.slice a9 ND k9)).heap[gl']? = some (.cells ecur 41 (0, 0)) := (Below.heap_setCell w8 ⟨gp, id * 5 + 4, none⟩ (.slice a9 ND k9) gl' (fun e => by have h2 := (unhide S7h).own.pg.row; have h3 := own_box h2 (unhide KE7) (by decide); exact h3 (by rw [e]; rfl))).trans kE8
      have E9 := hide (unhide SK7 _ kF S8.box)
      have S8h := hide S8
      have B8h := hide (show Below W.heap.size W _ from ((unhide B7).trans (((unhide Ds).mono hsz7).trans b8)).setCell (p := ⟨gp, id * 5 + 4, none⟩) hBg (.slice a9 ND k9))
      clear hck kE8 hcel hfz b8 S8 k8 Ss kF hND
      go_simp
      refine hK.out _ _ (unhide SB7 _ (unhide D16)) (fun hHeld => ?_)
      clear hK K
      refine wpAnyH_ready (rs := [17]) (by kernel_rfl) (by simp) ?_
      refine AllReadyH.cons rfl (fun K hK => ?_) AllReadyH.nil
      refine us_stepApp rfl (.tmp 80) (.tmp 88) 65 rfl _ _ (.slice a9 ND k9) w8 (by first | rfl | (simp [Act.eval]; done) | (simp [Act.eval, Act.put]; done)) (by first | rfl | (simp [Act.eval]; done) | (simp [Act.eval, Act.put]; done)) hrD ?_
      clear hrD
      refine hK.out _ _ (unhide E8) (fun hHeld => ?_)
      clear hK K
      refine anyH_take 18 90 (v := ?v34) rfl rfl (by kernel_rfl) (by kernel_rfl) (by kernel_rfl) (fun _ _ _ h => h) (by rfl) ?h34 hHeld ?r34
      case h34 => (intro w hSw; (try dsimp only at hSw); go_simp; try (with_reducible rfl))
      simp only [Act.put, List.setIfInBounds_toArray]
      refine anyH_take 19 91 (v := ?v35) rfl rfl (by kernel_rfl) (by kernel_rfl) (by kernel_rfl) (fun _ _ _ h => h) (by rfl) ?h35 hHeld ?r35
      case h35 => (intro w hSw; (try dsimp only at hSw); go_simp; try (with_reducible rfl))
      simp only [Act.put]
      refine wpAnyH_ready (rs := [20]) (by kernel_rfl) (by simp) ?_
      refine AllReadyH.cons rfl (fun K hK => ?_) AllReadyH.nil
      go_simp
      refine hK.out _ _ (unhide E9) (fun hHeld => ?_)
      clear hK K
      refine wpAnyH_done (by kernel_rfl) ?_ _
      generalize w8.setCell ⟨gp, id * 5 + 4, none⟩ (.slice a9 ND k9) = u9 at *
      have K9 := (unhide S8h).box
      have z0 := (heap_at K9 0).1
      have z1 := (heap_at K9 1).1
      have z2 := (heap_at K9 2).1
      have kr9 := ((unhide B8h).block (w.heap.size + 1) hz2).trans (unhide K2)
      have r0 := (heap_at kr9 0).1
      have r1 := (heap_at kr9 1).1
      have r2 := (heap_at kr9 2).1
      have g0 := (heap_at kr9 0).2
      have g1 := (heap_at kr9 1).2
      have g2 := (heap_at kr9 2).2
      have BB := (unhide B0).trans ((unhide B8h).mono (unhide B0).size)
      have RS := hide (show TsOwn u9 W.heap.size (some ⟨gp, 0, none⟩) cP aG cG b3 k3' (n + 1) m _ (ps.set id (some (addD X (spD MID n))) ++ [some (newPg X)]) idx from (unhide S8h).ts (by rw [List.map_append, ← none_set (unhide GPh)]; rfl) (by
        rw [List.map_set, List.map_append, List.map_append, List.map_set, unhide DAT, List.set_append_left _ _ (by rw [List.length_map, (unhide LNS).1]; exact hkn), unhide NW, unhide HX7]
        rfl) (by rw [List.length_append, List.length_set, (unhide LNS).1]; rfl) (unhide LNS).2)
      have RES := hide (show SpRes (splT ps idx id X) w (.returned (.tuple #[.agg #[.slice (some ⟨gp, 0, none⟩) (n + 1) cP, .slice aG (n + 1) cG, .slice b3 m k3'], .int .i64 (n : Int), .int .i64 0])) (((u9.setCell ⟨w.heap.size + 1, 0, none⟩ (.slice (some ⟨gp, 0, none⟩) (n + 1) cP)).setCell ⟨w.heap.size + 1, 1, none⟩ (.slice aG (n + 1) cG)).setCell ⟨w.heap.size + 1, 2, none⟩ (.slice b3 m k3')) by
        rw [unhide SP3 h2 hf]
        exact ⟨_, _, _, _, _, _, _, _, _, _, rfl, fun _ => ⟨rfl, ((((unhide RS).set hz2 0 _).set hz2 1 _).set hz2 2 _).dn (Nat.le_of_lt hz1)⟩, ((BB.setCell (p := ⟨w.heap.size + 1, 0, none⟩) (Nat.le_succ _) _).setCell (p := ⟨w.heap.size + 1, 1, none⟩) (Nat.le_succ _) _).setCell (p := ⟨w.heap.size + 1, 2, none⟩) (Nat.le_succ _) _⟩)
      clear K9 kr9 BB RS
      go_wp2_with fail
      refine bodyPost_ret (v := .tuple #[.agg #[.slice (some ⟨gp, 0, none⟩) (n + 1) cP, .slice aG (n + 1) cG, .slice b3 m k3'], .int .i64 (n : Int), .int .i64 0]) (by simp [results, Tryz.results58, go_sem, *]) rfl ?_
      exact unhide RES
    · have D16 := hide ((unhide Ds).alloc (unhide Ds).size (.cells #[.int .i64 3, .string MID, .string ⟨#[]⟩, .int .i64 (n : Int)] 90))
      have Ss := (unhide S7h).below (unhide Ds)
      obtain ⟨g2, gc2, a9, k9, w8, hvp, hrD, hcel, hfz, b8, S8, hBg, hgt, k8⟩ := Ss.chain (unhide HIDh) (unhide HX7q) (spD MID n) (by show XX.ds.length ≤ 1000; omega) (Nat.le_trans hsz7 (unhide Ds).size)
      have hck := Ss.chain_keep (unhide HX7q) (spD MID n) (by show XX.ds.length ≤ 1000; omega) (Nat.le_trans hsz7 (unhide Ds).size) hrD
      injection hvp with e1 e2 e3
      clear e2 e3
      injection e1 with e1
      injection e1 with e1 _ _
      subst e1
      have kE8 := hck gl' _ _ (((unhide Ds).block gl' (blk_lt (unhide KE7))).trans (unhide KE7)) (by decide)
      have x4 := hcel 4 (by decide)
      have xf := hfz (id * 5 + 4)
      unfold pcs at x4
      simp only [List.getElem_cons_zero, List.getElem_cons_succ] at x4
      simp only at hrD S8
      unfold spD at hrD
      simp only at hrD
      obtain ⟨ND, hND⟩ : ∃ ND, ND = XX.ds.length + 1 := ⟨_, rfl⟩
      rw [← hND] at hrD S8
      have E8 := hide (unhide SK7 w8 kE8 k8)
      have kF : (w8.setCell ⟨gp, id * 5 + 4, none⟩ (.slice a9 ND k9)).heap[gl']? = some (.cells ecur 41 (0, 0)) := (Below.heap_setCell w8 ⟨gp, id * 5 + 4, none⟩ (.slice a9 ND k9) gl' (fun e => by have h2 := (unhide S7h).own.pg.row; have h3 := own_box h2 (unhide KE7) (by decide); exact h3 (by rw [e]; rfl))).trans kE8
      have E9 := hide (unhide SK7 _ kF S8.box)
      have S8h := hide S8
      have B8h := hide (show Below W.heap.size W _ from ((unhide B7).trans (((unhide Ds).mono hsz7).trans b8)).setCell (p := ⟨gp, id * 5 + 4, none⟩) hBg (.slice a9 ND k9))
      clear hck kE8 hcel hfz b8 S8 k8 Ss kF hND
      go_simp
      refine hK.out _ _ (unhide SB7 _ (unhide D16)) (fun hHeld => ?_)
      clear hK K
      refine wpAnyH_ready (rs := [8]) (by kernel_rfl) (by simp) ?_
      refine AllReadyH.cons rfl (fun K hK => ?_) AllReadyH.nil
      have y := unhide Y4 _ (unhide D16)
      go_simp
      clear y
      refine hK.out _ _ (hHeld) (fun hHeld => ?_)
      clear hK K
      refine wpAnyH_ready (rs := [17]) (by kernel_rfl) (by simp) ?_
      refine AllReadyH.cons rfl (fun K hK => ?_) AllReadyH.nil
      refine us_stepApp rfl (.tmp 80) (.tmp 88) 65 rfl _ _ (.slice a9 ND k9) w8 (by first | rfl | (simp [Act.eval]; done) | (simp [Act.eval, Act.put]; done)) (by first | rfl | (simp [Act.eval]; done) | (simp [Act.eval, Act.put]; done)) hrD ?_
      clear hrD
      refine hK.out _ _ (unhide E8) (fun hHeld => ?_)
      clear hK K
      refine anyH_take 18 90 (v := ?v36) rfl rfl (by kernel_rfl) (by kernel_rfl) (by kernel_rfl) (fun _ _ _ h => h) (by rfl) ?h36 hHeld ?r36
      case h36 => (intro w hSw; (try dsimp only at hSw); go_simp; try (with_reducible rfl))
      simp only [Act.put, List.setIfInBounds_toArray]
      refine anyH_take 19 91 (v := ?v37) rfl rfl (by kernel_rfl) (by kernel_rfl) (by kernel_rfl) (fun _ _ _ h => h) (by rfl) ?h37 hHeld ?r37
      case h37 => (intro w hSw; (try dsimp only at hSw); go_simp; try (with_reducible rfl))
      simp only [Act.put]
      refine wpAnyH_ready (rs := [20]) (by kernel_rfl) (by simp) ?_
      refine AllReadyH.cons rfl (fun K hK => ?_) AllReadyH.nil
      go_simp
      refine hK.out _ _ (unhide E9) (fun hHeld => ?_)
      clear hK K
      refine wpAnyH_done (by kernel_rfl) ?_ _
      generalize w8.setCell ⟨gp, id * 5 + 4, none⟩ (.slice a9 ND k9) = u9 at *
      have K9 := (unhide S8h).box
      have z0 := (heap_at K9 0).1
      have z1 := (heap_at K9 1).1
      have z2 := (heap_at K9 2).1
      have kr9 := ((unhide B8h).block (w.heap.size + 1) hz2).trans (unhide K2)
      have r0 := (heap_at kr9 0).1
      have r1 := (heap_at kr9 1).1
      have r2 := (heap_at kr9 2).1
      have g0 := (heap_at kr9 0).2
      have g1 := (heap_at kr9 1).2
      have g2 := (heap_at kr9 2).2
      have BB := (unhide B0).trans ((unhide B8h).mono (unhide B0).size)
      have RS := hide (show TsOwn u9 W.heap.size (some ⟨gp, 0, none⟩) cP aG cG b3 k3' (n + 1) m _ (ps.set id (some (addD X (spD MID n))) ++ [some (newPg X)]) idx from (unhide S8h).ts (by rw [List.map_append, ← none_set (unhide GPh)]; rfl) (by
        rw [List.map_set, List.map_append, List.map_append, List.map_set, unhide DAT, List.set_append_left _ _ (by rw [List.length_map, (unhide LNS).1]; exact hkn), unhide NW, unhide HX7]
        rfl) (by rw [List.length_append, List.length_set, (unhide LNS).1]; rfl) (unhide LNS).2)
      have RES := hide (show SpRes (splT ps idx id X) w (.returned (.tuple #[.agg #[.slice (some ⟨gp, 0, none⟩) (n + 1) cP, .slice aG (n + 1) cG, .slice b3 m k3'], .int .i64 (n : Int), .int .i64 0])) (((u9.setCell ⟨w.heap.size + 1, 0, none⟩ (.slice (some ⟨gp, 0, none⟩) (n + 1) cP)).setCell ⟨w.heap.size + 1, 1, none⟩ (.slice aG (n + 1) cG)).setCell ⟨w.heap.size + 1, 2, none⟩ (.slice b3 m k3')) by
        rw [unhide SP3 h2 hf]
        exact ⟨_, _, _, _, _, _, _, _, _, _, rfl, fun _ => ⟨rfl, ((((unhide RS).set hz2 0 _).set hz2 1 _).set hz2 2 _).dn (Nat.le_of_lt hz1)⟩, ((BB.setCell (p := ⟨w.heap.size + 1, 0, none⟩) (Nat.le_succ _) _).setCell (p := ⟨w.heap.size + 1, 1, none⟩) (Nat.le_succ _) _).setCell (p := ⟨w.heap.size + 1, 2, none⟩) (Nat.le_succ _) _⟩)
      clear K9 kr9 BB RS
      go_wp2_with fail
      refine bodyPost_ret (v := .tuple #[.agg #[.slice (some ⟨gp, 0, none⟩) (n + 1) cP, .slice aG (n + 1) cG, .slice b3 m k3'], .int .i64 (n : Int), .int .i64 0]) (by simp [results, Tryz.results58, go_sem, *]) rfl ?_
      exact unhide RES
end Go.Proofs.YtbhkmmdcdfjbkaaGreat

namespace Go.Proofs.YtbhkmmdcdfjbkaaGreat
open Go.RowKit

theorem run_appE_at {w : World} {B : Nat} {v : Value} {a : Option Addr} {n c : Nat} {xs es : List EntD} (ty : TypeId) (hO : EOwns w B v xs) (hR : ERow w a n es) (hx : xs.length ≤ 2000000) (hn : n ≤ 2000000) (hc : a = none → c = 0) (hB : B ≤ w.heap.size) :
    ∃ v' w', (Builtin.append_ #[36, 36] ty #[v, .slice a n c]).run Tryz.prog w = .ok v' w' ∧ EOwns w' B v' (xs ++ es) ∧ w.grownBy w' v.ownBlock ∧ (v'.ownBlock = v.ownBlock ∨ v'.ownBlock = some w.heap.size) := by
  obtain ⟨i0, hi0, hz0, hz1, hz2⟩ := info_parts Tryz.infoEntry
  obtain ⟨v', w', hr, ho, hg, _⟩ := run_appE (c := c) ty hO hR hx hn hc hB
  refine ⟨v', w', hr, ho, hg, ?_⟩
  cases a with
  | none =>
    obtain rfl := hc rfl
    obtain ⟨rfl, rfl⟩ := erow_none hR
    have h := run_append_owned_none (P := Tryz.prog) w B 36 ty 41 i0 2 Tryz.underlying36 hi0 _ _ _ hO
    rw [hr] at h
    injection h with h _
    subst h
    exact .inl rfl
  | some ad =>
    by_cases hv : v = .slice none 0 0 ∧ n = 0
    · obtain ⟨v2, w2, hr2, _, _, h2⟩ := run_append_own (P := Tryz.prog) w B 36 ty 41 i0 (.agg #[.string ByteArray.empty, .string ByteArray.empty]) 2 32 Tryz.underlying36 hi0 hz0 hz1 hz2 rfl (by decide) _ _ _ hO ad n c (ecs es) (by rw [ecs_len, hR.1]) (erow_src hR) (ecs_one _) (by unfold maxLen; omega) (by omega) hB
      rw [hr] at hr2
      injection hr2 with hr2 _
      subst hr2
      rw [h2.2 hv, hv.1]
      exact .inl rfl
    · obtain ⟨v2, w2, hr2, _, _, _, h2⟩ := app_at (P := Tryz.prog) (w := w) (B := B) 36 ty 41 Tryz.underlying36 hi0 hz0 hz1 hz2 rfl (by decide) hO ad n c (ecs es) (by rw [ecs_len, hR.1]) (erow_src hR) (ecs_one _) (by unfold maxLen; omega) (by omega) hB (fun e => by
        rcases Nat.eq_zero_or_pos n with h | h
        · exact absurd ⟨e, h⟩ hv
        · exact h)
      rw [hr] at hr2
      injection hr2 with hr2 _
      subst hr2
      exact h2
/-- What is written apart from a tree leaves it. -/
theorem TgSt.apart {w w' : World} {B tb : Nat} {vp vg vi : Value} {hs : List PpH} {gs : List Bool} {idx : List RefD} (s : TgSt w B tb vp vg vi hs gs idx) {C t sz n : Nat} {v : Value} {cs : List Value} (ho : w.ownsRow C t sz v n cs) (hw : WrB (fun i => v.ownBlock = some i) w w') (ht : t = 41) (hp : ∀ i, NBl vp (hs.map ppEl) i → ¬ v.ownBlock = some i) : TgSt w' B tb vp vg vi hs gs idx := by
  subst ht
  exact ⟨⟨s.own.pg.keep hw hp, rr_owns_wr s.own.go hw (fun i hi => own_other s.own.go ho (by decide) hi), rr_owns_wr s.own.ix hw (fun i hi => own_other s.own.ix ho (by decide) hi)⟩, (hw.block tb (blk_lt s.box) (own_box ho s.box (by decide))).trans s.box⟩
/-- A Ref appended to a tree's index. -/
theorem TgSt.ref {w : World} {B tb : Nat} {vp vg vi : Value} {hs : List PpH} {gs : List Bool} {idx : List RefD} {q : RefD} (s : TgSt w B tb vp vg vi hs gs idx) (htb : B ≤ tb) (hz : idx.length ≤ 1000) (hB : B ≤ w.heap.size) :
    ∃ v' w6, (Builtin.append_ #[27, 27] 27 #[vi, .slice (some ⟨w.heap.size, 0, none⟩) 1 1]).run Tryz.prog (w.alloc (.cells #[.string q.low, .int .i64 q.id] 69)) = .ok v' w6 ∧ TgSt (w6.setCell ⟨tb, 2, none⟩ v') B tb vp vg v' hs gs (idx ++ [q]) ∧ Below B w (w6.setCell ⟨tb, 2, none⟩ v') ∧ w6.heap[tb]? = some (.cells #[vp, vg, vi] 29 (0, 0)) := by
  have bA : Below w.heap.size w (w.alloc (.cells #[.string q.low, .int .i64 q.id] 69)) := (Below.refl _ _).alloc (Nat.le_refl _) _
  have K := heap_alloc_new w (.cells #[.string q.low, .int .i64 q.id] 69)
  have sA := s.below bA
  have hR : JRow (w.alloc (.cells #[.string q.low, .int .i64 q.id] 69)) (some ⟨w.heap.size, 0, none⟩) 1 [q] := by
    refine ⟨rfl, fun i hi => ?_⟩
    obtain rfl : i = 0 := by simpa using hi
    exact ⟨w.heap.size, 0, rfl, (heap_at K 0).1, (heap_at K 1).1⟩
  obtain ⟨v', w6, hr, ho, hg, _⟩ := run_appJ (c := 1) 27 sA.own.ix hR (by omega) (by omega) (fun e => by cases e) (Nat.le_trans hB bA.size)
  have hw := WrB.of_grown hg
  have k6 : w6.heap[tb]? = some (.cells #[vp, vg, vi] 29 (0, 0)) := (hw.block tb (blk_lt sA.box) (own_box sA.own.ix sA.box (by decide))).trans sA.box
  have S6 : TgSt w6 B tb vp vg vi hs gs [] ∨ True := .inr trivial
  clear S6
  have p6 := sA.own.pg.keep hw (fun i hi h => nbl_other sA.own.pg sA.own.ix (by decide) (by decide) (by decide) h hi)
  have g6 := rr_owns_wr sA.own.go hw (fun i hi => own_other sA.own.go sA.own.ix (by decide) hi)
  have c := set1_wr w6 tb 2 v'
  have n7 := p6.keep c (fun i hi e => by subst e; exact nbl_tree p6 k6 (by decide) (by decide) (by decide) hi)
  have k7 : (w6.setCell ⟨tb, 2, none⟩ v').heap[tb]? = some (.cells #[vp, vg, v'] 29 (0, 0)) := by have := heap_set k6 2 v'; simpa using this
  have b1 : Below B w w6 := (bA.mono hB).trans (WrB.below hw (fun i hi => (sA.own.ix.lt i hi).1) (Nat.le_trans hB bA.size))
  exact ⟨v', w6, hr, ⟨⟨n7, own_keep g6 k6 (by decide) c, own_keep ho k6 (by decide) c⟩, k7⟩, b1.trans (WrB.below c (fun i e => by subst e; exact htb) (Nat.le_trans hB b1.size)), k6⟩
theorem none_map {ps : List (Option PageD)} {k j : Nat} {p q : PageD} (h : getP ps (k : Int) = some p) : ((ps.set k (some q)).set j none).map (·.isNone) = (ps.map (·.isNone)).set j true := by
  rw [List.map_set, ← none_set h]
  rfl
set_option maxRecDepth 100000 in
set_option maxHeartbeats 8000000 in
theorem l05Merge_any (B : Nat) (a1 : Option Addr) (c1 : Nat) (a2 : Option Addr) (c2 : Nat) (a3 : Option Addr) (c3 n m : Nat) (hs : List PpH) (ps : List (Option PageD)) (idx : List RefD) (id : Nat) (p : PageD) (w : World) (hO : TsOwn w B a1 c1 a2 c2 a3 c3 n m hs ps idx) (hT : Tre ps idx) (hg : getP ps (id : Int) = some p) :
    Calls Tryz.prog 60 #[.agg #[.slice a1 n c1, .slice a2 n c2, .slice a3 m c3], .int .i64 (id : Int)] w fun e w' => SpRes (merT ps idx id p) w e w' := by
  obtain ⟨hkl, hpk⟩ := getP_is hg
  have hokp := hT.ok _ p hg
  have NX := hT.next _ p hg
  have hm30 : m ≤ 30 := by rw [← hO.li]; exact Nat.le_trans hT.good.il hT.len.2
  obtain ⟨W, hW, k1, k2, z, b0⟩ := tw_new w (.slice a1 n c1) (.slice a2 n c2) (.slice a3 m c3)
  have OW := hO.below b0
  have hkn : id < n := by rw [← OW.ln]; exact hkl
  have hn30 : n ≤ 30 := by rw [← OW.ln]; exact hT.len.2
  obtain ⟨b, x, ha, -, hxX, P⟩ := OW.at hkl
  rw [hpk] at hxX
  replace hxX : x.X = p := hxX
  subst hxX
  subst ha
  obtain ⟨gi, oi, hai, -, -⟩ := OW.trIn.ix.2 0 hT.first.1
  subst hai
  obtain rfl : oi = 0 := by
    rcases OW.own.ix.2 with ⟨e, _⟩ | ⟨g, cap, cur, e, _⟩
    · injection e with e; cases e
    · injection e with e; injection e with e; injection e
  have HIX := hide OW.trIn.ix
  have hn0 : x.s0.n ≤ 32 := by rw [← P.es.1]; exact (ok_parts hokp).2.1
  have hn1 : x.s1.n ≤ 12 := by rw [← P.ds.1]; exact (ok_parts hokp).2.2.1
  have hz1 : w.heap.size < W.heap.size := by omega
  have hz2 : w.heap.size + 1 < W.heap.size := by omega
  have B0 := hide b0
  have K1 := hide k1
  have K2 := hide k2
  have OWh := hide OW
  have HTh := hide hT
  have HW := hide hW
  have Ph := hide P
  have GPh := hide hg
  have q0 := P.c0
  have q1 := P.c1
  have q2 := P.c2
  have q3 := P.c3
  have q4 := P.c4
  have SKP := hide (show ∀ u, Below W.heap.size W u → u.cell? ⟨w.heap.size, 0, none⟩ = some (.slice (some ⟨b, 0, none⟩) n c1) ∧ u.cell? ⟨w.heap.size, 1, none⟩ = some (.slice a2 n c2) ∧ u.cell? ⟨w.heap.size, 2, none⟩ = some (.slice (some ⟨gi, 0, none⟩) m c3) from fun u hu => by
    have h := (hu.block w.heap.size hz1).trans k1
    exact ⟨(heap_at h 0).1, (heap_at h 1).1, (heap_at h 2).1⟩)
  obtain ⟨e0, e1, e2⟩ := unhide SKP W (Below.refl _ _)
  have HBD := hide (l04Bounds_any x.X.lo x.X.hi x.X.r (.slice x.s0.a x.s0.n x.s0.c) x.s1.a x.s1.n x.s1.c x.X.ds W P.ds (by omega))
  rw [show highE x.X.hi x.X.ds = hiP x.X from rfl, show rightE x.X.r x.X.ds = riP x.X from rfl] at HBD
  have HCA := hide (fun (u : World) (hu : Below W.heap.size W u) => l04Consolidate_any x.X.lo x.X.hi x.X.r x.s0.a x.s0.n x.s0.c x.X.es x.s1.a x.s1.n x.s1.c x.X.ds u (P.es.below hu) (P.ds.below hu) (by omega) (by omega) P.ce)
  unfold pgv at HCA
  rw [show highE x.X.hi x.X.ds = hiP x.X from rfl, show rightE x.X.r x.X.ds = riP x.X from rfl, show entsE x.X.es x.X.ds = enP x.X from rfl] at HCA
  have hlX := enP_len hokp
  have NXh := hide NX
  have OKA := hide hT.ok
  have MT0 := hide (show riP x.X < 0 → merT ps idx id x.X = ⟨ps, idx, 0, 5⟩ from fun h => by unfold merT; rw [if_pos h])
  have MT1 := hide (show ∀ (jj : Nat) (q : PageD), riP x.X = (jj : Int) → getP ps (jj : Int) = some q → merT ps idx id x.X = if 32 < (enP x.X).length + (enP q).length then ⟨ps, idx, 0, 7⟩ else ⟨(ps.set id (some (merPg x.X q))).set jj none, idx.filter (notId (jj : Int)), (jj : Int), 0⟩ from fun jj q h1 h2 => by
    unfold merT
    rw [if_neg (by omega), h1, h2, Int.toNat_natCast]
    rfl)
  obtain ⟨HX, hHX⟩ : ∃ HX, HX = hiP x.X := ⟨_, rfl⟩
  obtain ⟨RX, hRX⟩ : ∃ RX, RX = riP x.X := ⟨_, rfl⟩
  obtain ⟨EX, hEX⟩ : ∃ EX, EX = enP x.X := ⟨_, rfl⟩
  have HEX := hide hEX
  have HRX := hide hRX
  rw [← hHX, ← hRX] at HBD
  rw [← hHX, ← hRX, ← hEX] at HCA
  rw [← hRX] at MT0 MT1
  rw [← hEX] at hlX
  clear b0 k1 k2 z OW P hO hT hg hpk hW NX hHX hRX hEX
  obtain ⟨X, ⟨sa, sn, sc⟩, ⟨da, dn, dc⟩⟩ := x
  simp only at q0 q1 q2 q3 q4 hn0 hn1 hokp HBD HCA MT0 MT1 NXh HEX HRX
  go_enter Tryz.func60, Tryz.ntmps60
  go_upto_region 1 with fail
  rw [← unhide HW]
  clear HW
  go_wp2_with fail
  refine (unhide HBD).mono ?_
  rintro e u1 ⟨rfl, hb1⟩
  have B1 := hide hb1
  clear HBD e0 e1 e2 q0 q1 q2 q3 q4 hb1
  obtain ⟨e0, e1, e2⟩ := unhide SKP u1 (unhide B1)
  by_cases hneg : RX < 0
  · have kr := ((unhide B1).block (w.heap.size + 1) hz2).trans (unhide K2)
    have r0 := (heap_at kr 0).1
    have r1 := (heap_at kr 1).1
    have r2 := (heap_at kr 2).1
    have g0 := (heap_at kr 0).2
    have g1 := (heap_at kr 1).2
    have g2 := (heap_at kr 2).2
    have BB := (unhide B0).trans ((unhide B1).mono (unhide B0).size)
    have RES := hide (show SpRes (merT ps idx id X) w (.returned (.tuple #[.agg #[.slice (some ⟨b, 0, none⟩) n c1, .slice a2 n c2, .slice (some ⟨gi, 0, none⟩) m c3], .int .i64 0, .int .i64 5])) (((u1.setCell ⟨w.heap.size + 1, 0, none⟩ (.slice (some ⟨b, 0, none⟩) n c1)).setCell ⟨w.heap.size + 1, 1, none⟩ (.slice a2 n c2)).setCell ⟨w.heap.size + 1, 2, none⟩ (.slice (some ⟨gi, 0, none⟩) m c3)) by
      rw [unhide MT0 hneg]
      exact SpRes.no (r := ⟨ps, idx, 0, 5⟩) (show (5 : Int) ≠ 0 by decide) (((BB.setCell (p := ⟨w.heap.size + 1, 0, none⟩) (Nat.le_succ _) _).setCell (p := ⟨w.heap.size + 1, 1, none⟩) (Nat.le_succ _) _).setCell (p := ⟨w.heap.size + 1, 2, none⟩) (Nat.le_succ _) _))
    clear kr BB
    go_wp2_with fail
    refine bodyPost_ret (v := .tuple #[.agg #[.slice (some ⟨b, 0, none⟩) n c1, .slice a2 n c2, .slice (some ⟨gi, 0, none⟩) m c3], .int .i64 0, .int .i64 5]) (by simp [results, Tryz.results60, go_sem, *]) rfl ?_
    exact unhide RES
  obtain ⟨Y, hqY⟩ : ∃ Y, getP ps RX = some Y := by
    rcases unhide NXh with ⟨h, _⟩ | ⟨_, q, hq, _⟩
    · exfalso; rw [← unhide HRX] at h; omega
    · exact ⟨q, by rw [unhide HRX]; exact hq⟩
  obtain ⟨j, hj, hjl⟩ := getP_lt hqY
  subst hj
  have MT := hide (unhide MT1 j Y rfl hqY)
  have hokY := unhide OKA _ Y hqY
  obtain ⟨_, hpY⟩ := getP_is hqY
  have hjn : j < n := by rw [← (unhide OWh).ln]; exact hjl
  obtain ⟨b', y, hb', -, hyY, PY⟩ := (unhide OWh).at hjl
  injection hb' with hb'
  injection hb' with hb' _ _
  subst hb'
  rw [hpY] at hyY
  replace hyY : y.X = Y := hyY
  subst hyY
  have hm0 : y.s0.n ≤ 32 := by rw [← PY.es.1]; exact (ok_parts hokY).2.1
  have hm1 : y.s1.n ≤ 12 := by rw [← PY.ds.1]; exact (ok_parts hokY).2.2.1
  have HCB := hide (fun (u : World) (hu : Below W.heap.size W u) => l04Consolidate_any y.X.lo y.X.hi y.X.r y.s0.a y.s0.n y.s0.c y.X.es y.s1.a y.s1.n y.s1.c y.X.ds u (PY.es.below hu) (PY.ds.below hu) (by omega) (by omega) PY.ce)
  unfold pgv at HCB
  have PYh := hide PY
  have hlY := enP_len hokY
  rw [show highE y.X.hi y.X.ds = hiP y.X from rfl, show rightE y.X.r y.X.ds = riP y.X from rfl, show entsE y.X.es y.X.ds = enP y.X from rfl] at HCB
  obtain ⟨HY, hHY⟩ : ∃ HY, HY = hiP y.X := ⟨_, rfl⟩
  obtain ⟨RY, hRY⟩ : ∃ RY, RY = riP y.X := ⟨_, rfl⟩
  obtain ⟨EY, hEY⟩ : ∃ EY, EY = enP y.X := ⟨_, rfl⟩
  rw [← hEY, ← unhide HEX] at MT
  rw [← hHY, ← hRY, ← hEY] at HCB
  rw [← hEY] at hlY
  have MP := hide (show merPg X y.X = ⟨X.lo, HY, RY, EX ++ EY, []⟩ by rw [hHY, hRY, hEY, unhide HEX]; rfl)
  have hnn : ¬ ((j : Int) < 0) := hneg
  clear hHY hRY hEY hokY hpY hqY PY MT0 MT1 NXh HRX
  obtain ⟨Y, ⟨ta, tn, tc⟩, ⟨va, vn, vc⟩⟩ := y
  simp only at hm0 hm1 HCB MT MP
  have PX1 := (unhide Ph).below (unhide B1)
  have q0 := PX1.c0
  have q1 := PX1.c1
  have q2 := PX1.c2
  have q3 := PX1.c3
  have q4 := PX1.c4
  clear PX1
  go_upto_region 4 with fail
  go_wp2_with fail
  refine (unhide HCA u1 (unhide B1)).mono ?_
  rintro e u2 ⟨aA, nA, kA, rfl, hOA, hb2⟩
  have hnA : nA = EX.length := (erow_of_owns hOA).1.symm
  have HNA := hide hnA
  have hA32 : nA ≤ 32 := by omega
  have bA := (Below.refl u2.heap.size u2).alloc (Nat.le_refl _) (.cells #[.string X.lo, .string HX, .int .i64 (j : Int), .slice aA nA kA, .slice none 0 0] 67)
  have OA := hide (rb_ownsRow_below hOA bA)
  have KA := hide (heap_alloc_new u2 (.cells #[.string X.lo, .string HX, .int .i64 (j : Int), .slice aA nA kA, .slice none 0 0] 67))
  have B2 := hide ((unhide B1).trans ((hb2.trans (bA.mono hb2.size)).mono (unhide B1).size))
  have hA1 : W.heap.size ≤ u1.heap.size := (unhide B1).size
  clear HCA q0 q1 q2 q3 q4 e0 e1 e2 hnA hOA bA hb2
  go_upto_region 5 with fail
  generalize u2.alloc (.cells #[.string X.lo, .string HX, .int .i64 (j : Int), .slice aA nA kA, .slice none 0 0] 67) = V2 at *
  generalize u2.heap.size = ab at *
  obtain ⟨e0, e1, e2⟩ := unhide SKP V2 (unhide B2)
  have PY2 := (unhide PYh).below (unhide B2)
  have q0 := PY2.c0
  have q1 := PY2.c1
  have q2 := PY2.c2
  have q3 := PY2.c3
  have q4 := PY2.c4
  clear PY2
  go_wp2_with fail
  refine (unhide HCB V2 (unhide B2)).mono ?_
  rintro e u3 ⟨aB, nB, kB, rfl, hOB, hb3⟩
  have hnB : nB = EY.length := (erow_of_owns hOB).1.symm
  have HNB := hide hnB
  have hB32 : nB ≤ 32 := by omega
  have bB := (Below.refl u3.heap.size u3).alloc (Nat.le_refl _) (.cells #[.string Y.lo, .string HY, .int .i64 RY, .slice aB nB kB, .slice none 0 0] 67)
  have OB := hide (rb_ownsRow_below hOB bB)
  have KB := hide (heap_alloc_new u3 (.cells #[.string Y.lo, .string HY, .int .i64 RY, .slice aB nB kB, .slice none 0 0] 67))
  have b23 := hb3.trans (bB.mono hb3.size)
  have OA3 := hide (rb_ownsRow_below (unhide OA) b23)
  have KA3 := hide ((b23.block ab (blk_lt (unhide KA))).trans (unhide KA))
  have B3 := hide ((unhide B2).trans (b23.mono (unhide B2).size))
  have hWab : W.heap.size ≤ V2.heap.size := (unhide B2).size
  clear HCB q0 q1 q2 q3 q4 e0 e1 e2 hnB hOB bB hb3 b23 OA KA
  go_upto_region 6 with fail
  generalize u3.alloc (.cells #[.string Y.lo, .string HY, .int .i64 RY, .slice aB nB kB, .slice none 0 0] 67) = V3 at *
  generalize u3.heap.size = bb at *
  obtain ⟨e0, e1, e2⟩ := unhide SKP V3 (unhide B3)
  have A3 := (heap_at (unhide KA3) 3).1
  have C3 := (heap_at (unhide KB) 3).1
  by_cases hbig : 32 < nA + nB
  · have hbig' : (32 : Int) < (nA : Int) + (nB : Int) := by omega
    have kr := ((unhide B3).block (w.heap.size + 1) hz2).trans (unhide K2)
    have r0 := (heap_at kr 0).1
    have r1 := (heap_at kr 1).1
    have r2 := (heap_at kr 2).1
    have g0 := (heap_at kr 0).2
    have g1 := (heap_at kr 1).2
    have g2 := (heap_at kr 2).2
    have BB := (unhide B0).trans ((unhide B3).mono (unhide B0).size)
    have RES := hide (show SpRes (merT ps idx id X) w (.returned (.tuple #[.agg #[.slice (some ⟨b, 0, none⟩) n c1, .slice a2 n c2, .slice (some ⟨gi, 0, none⟩) m c3], .int .i64 0, .int .i64 7])) (((V3.setCell ⟨w.heap.size + 1, 0, none⟩ (.slice (some ⟨b, 0, none⟩) n c1)).setCell ⟨w.heap.size + 1, 1, none⟩ (.slice a2 n c2)).setCell ⟨w.heap.size + 1, 2, none⟩ (.slice (some ⟨gi, 0, none⟩) m c3)) by
      rw [unhide MT, if_pos (by rw [← unhide HNA, ← unhide HNB]; exact hbig)]
      exact SpRes.no (r := ⟨ps, idx, 0, 7⟩) (show (7 : Int) ≠ 0 by decide) (((BB.setCell (p := ⟨w.heap.size + 1, 0, none⟩) (Nat.le_succ _) _).setCell (p := ⟨w.heap.size + 1, 1, none⟩) (Nat.le_succ _) _).setCell (p := ⟨w.heap.size + 1, 2, none⟩) (Nat.le_succ _) _))
    clear kr BB
    go_wp2_with fail
    refine bodyPost_ret (v := .tuple #[.agg #[.slice (some ⟨b, 0, none⟩) n c1, .slice a2 n c2, .slice (some ⟨gi, 0, none⟩) m c3], .int .i64 0, .int .i64 7]) (by simp [results, Tryz.results60, go_sem, *]) rfl ?_
    exact unhide RES
  have hbig' : ¬ ((32 : Int) < (nA : Int) + (nB : Int)) := by omega
  have MT2 := hide (show merT ps idx id X = ⟨(ps.set id (some ⟨X.lo, HY, RY, EX ++ EY, []⟩)).set j none, idx.filter (notId (j : Int)), (j : Int), 0⟩ by
    rw [unhide MT, if_neg (by rw [← unhide HNA, ← unhide HNB]; exact hbig), unhide MP])
  have HON := hide (l05Own_any B (some ⟨b, 0, none⟩) c1 a2 c2 (some ⟨gi, 0, none⟩) c3 n m hs ps idx V3 ((unhide OWh).below (unhide B3)) (unhide HTh))
  go_upto_region 8 with fail
  go_wp2_with fail
  refine (unhide HON).mono ?_
  rintro e u4 ⟨b1, k1', b2, k2', b3, k3', hs7, rfl, O7, hb7⟩
  have bT := (Below.refl u4.heap.size u4).alloc (Nat.le_refl _) (.cells #[.slice b1 n k1', .slice b2 n k2', .slice b3 m k3'] 29)
  have kT := heap_alloc_new u4 (.cells #[.slice b1 n k1', .slice b2 n k2', .slice b3 m k3'] 29)
  have b34 := hb7.trans (bT.mono hb7.size)
  have O8 := O7.below bT
  have NB := hide (show ∀ g, NBl (.slice b1 n k1') (hs7.map ppEl) g → V3.heap.size ≤ g ∧ g < u4.heap.size + 1 from fun g hg => by have := O8.own.pg.lt g hg; simp at this; omega)
  have S5 := hide ((O8.dn (unhide B3).size).tg kT)
  have DAT := hide O7.dat
  have LNS := hide (show ps.length = n ∧ idx.length = m from ⟨O7.ln, O7.li⟩)
  have HL7 := hide O7.hl
  have B5 := hide ((unhide B3).trans (b34.mono (unhide B3).size))
  have OA5 := hide (rb_ownsRow_below (unhide OA3) b34)
  have OB5 := hide (rb_ownsRow_below (unhide OB) b34)
  have KA5 := hide ((b34.block ab (blk_lt (unhide KA3))).trans (unhide KA3))
  have KB5 := hide ((b34.block bb (blk_lt (unhide KB))).trans (unhide KB))
  have htb : W.heap.size ≤ u4.heap.size := Nat.le_trans (unhide B3).size hb7.size
  have OAL := hide (show ∀ g, (Value.slice aA nA kA).ownBlock = some g → g < V3.heap.size from fun g hg => ((unhide OA3).lt g hg).2)
  have h34 : V3.heap.size ≤ u4.heap.size := hb7.size
  have hab3 := blk_lt (unhide KA3)
  have hbb3 := blk_lt (unhide KB)
  clear O7 O8 hb7 bT kT HON e0 e1 e2 OA3 OB B3 A3 C3 KA3 KB b34
  go_upto_region 9 with fail
  have hz5 : (u4.alloc (.cells #[.slice b1 n k1', .slice b2 n k2', .slice b3 m k3'] 29)).heap.size = u4.heap.size + 1 := by simp
  have HZ5 := hide hz5
  clear hz5
  generalize u4.alloc (.cells #[.slice b1 n k1', .slice b2 n k2', .slice b3 m k3'] 29) = u5 at *
  generalize u4.heap.size = tb at *
  obtain ⟨gp, gc, hb1', hBg, hgt⟩ := (unhide S5).page_block (by rw [unhide HL7]; omega)
  have HGB := hide (show V3.heap.size ≤ gp from (unhide NB gp (by rw [hb1']; exact .inl rfl)).1)
  injection hb1' with e1 e2 e3
  clear e2
  subst e1 e3
  have hsz5 : W.heap.size ≤ u5.heap.size := (unhide B5).size
  have SK := hide (show ∀ u : World, u.heap[tb]? = some (.cells #[.slice (some ⟨gp, 0, none⟩) n k1', .slice b2 n k2', .slice b3 m k3'] 29 (0, 0)) → u.heap[ab]? = u5.heap[ab]? → u.heap[bb]? = u5.heap[bb]? → (u.cell? ⟨tb, 0, none⟩ = some (.slice (some ⟨gp, 0, none⟩) n k1') ∧ u.cell? ⟨ab, 0, none⟩ = some (.string X.lo) ∧ u.cell? ⟨ab, 3, none⟩ = some (.slice aA nA kA) ∧ u.cell? ⟨bb, 1, none⟩ = some (.string HY) ∧ u.cell? ⟨bb, 2, none⟩ = some (.int .i64 RY) ∧ u.cell? ⟨bb, 3, none⟩ = some (.slice aB nB kB)) from fun u h1 h2 h3 => by
    have ka := h2.trans (unhide KA5)
    have kb := h3.trans (unhide KB5)
    exact ⟨(heap_at h1 0).1, (heap_at ka 0).1, (heap_at ka 3).1, (heap_at kb 1).1, (heap_at kb 2).1, (heap_at kb 3).1⟩)
  have BX5 := hide (unhide S5).box
  have SB := hide (show ∀ u, Below u5.heap.size u5 u → (u.cell? ⟨tb, 0, none⟩ = some (.slice (some ⟨gp, 0, none⟩) n k1') ∧ u.cell? ⟨ab, 0, none⟩ = some (.string X.lo) ∧ u.cell? ⟨ab, 3, none⟩ = some (.slice aA nA kA) ∧ u.cell? ⟨bb, 1, none⟩ = some (.string HY) ∧ u.cell? ⟨bb, 2, none⟩ = some (.int .i64 RY) ∧ u.cell? ⟨bb, 3, none⟩ = some (.slice aB nB kB)) from fun u hu => unhide SK u ((hu.block tb (blk_lt (unhide BX5))).trans (unhide BX5)) (hu.block ab (blk_lt (unhide KA5))) (hu.block bb (blk_lt (unhide KB5))))
  have hk7 : id < hs7.length := by rw [unhide HL7]; exact hkn
  have hj7 : j < hs7.length := by rw [unhide HL7]; exact hjn
  have hkni : (id : Int) < (n : Int) := by omega
  refine wp_region_held_drew (S := (fun u => (u.cell? ⟨tb, 0, none⟩ = some (.slice (some ⟨gp, 0, none⟩) n k1') ∧ u.cell? ⟨ab, 0, none⟩ = some (.string X.lo) ∧ u.cell? ⟨ab, 3, none⟩ = some (.slice aA nA kA) ∧ u.cell? ⟨bb, 1, none⟩ = some (.string HY) ∧ u.cell? ⟨bb, 2, none⟩ = some (.int .i64 RY) ∧ u.cell? ⟨bb, 3, none⟩ = some (.slice aB nB kB)))) (by kernel_rfl) (unhide SB _ ((Below.refl _ _).drew)) (fun hHeld => ?_)
  have Ds := hide (show Below u5.heap.size u5 u5.drew from (Below.refl _ _).drew)
  generalize u5.drew = us at *
  refine anyH_take 0 48 (v := ?v9) rfl rfl (by kernel_rfl) (by kernel_rfl) (by kernel_rfl) (fun _ _ _ h => h) (by rfl) ?h9 hHeld ?r9
  case h9 => (intro w hSw; (try dsimp only at hSw); go_simp; try (with_reducible rfl))
  simp only [Act.put, List.setIfInBounds_toArray, List.set_cons_zero, List.set_cons_succ]
  refine anyH_take 1 49 (v := ?v10) rfl rfl (by kernel_rfl) (by kernel_rfl) (by kernel_rfl) (fun _ _ _ h => h) (by rfl) ?h10 hHeld ?r10
  case h10 => (intro w hSw; (try dsimp only at hSw); go_simp; try (with_reducible rfl))
  simp only [Act.put, List.setIfInBounds_toArray, List.set_cons_zero, List.set_cons_succ]
  refine anyH_take 2 50 (v := ?v11) rfl rfl (by kernel_rfl) (by kernel_rfl) (by kernel_rfl) (fun _ _ _ h => h) (by rfl) ?h11 hHeld ?r11
  case h11 => (intro w hSw; (try dsimp only at hSw); go_simp; try (with_reducible rfl))
  simp only [Act.put, List.setIfInBounds_toArray, List.set_cons_zero, List.set_cons_succ]
  refine anyH_take 3 51 (v := ?v12) rfl rfl (by kernel_rfl) (by kernel_rfl) (by kernel_rfl) (fun _ _ _ h => h) (by rfl) ?h12 hHeld ?r12
  case h12 => (intro w hSw; (try dsimp only at hSw); go_simp; try (with_reducible rfl))
  simp only [Act.put, List.setIfInBounds_toArray, List.set_cons_zero, List.set_cons_succ]
  refine anyH_take 4 52 (v := ?v13) rfl rfl (by kernel_rfl) (by kernel_rfl) (by kernel_rfl) (fun _ _ _ h => h) (by rfl) ?h13 hHeld ?r13
  case h13 => (intro w hSw; (try dsimp only at hSw); go_simp; try (with_reducible rfl))
  simp only [Act.put, List.setIfInBounds_toArray, List.set_cons_zero, List.set_cons_succ]
  refine anyH_take 5 53 (v := ?v14) rfl rfl (by kernel_rfl) (by kernel_rfl) (by kernel_rfl) (fun _ _ _ h => h) (by rfl) ?h14 hHeld ?r14
  case h14 => (intro w hSw; (try dsimp only at hSw); go_simp; try (with_reducible rfl))
  simp only [Act.put, List.setIfInBounds_toArray, List.set_cons_zero, List.set_cons_succ]
  refine anyH_take 6 54 (v := ?v15) rfl rfl (by kernel_rfl) (by kernel_rfl) (by kernel_rfl) (fun _ _ _ h => h) (by rfl) ?h15 hHeld ?r15
  case h15 => (intro w hSw; (try dsimp only at hSw); go_simp; try (with_reducible rfl))
  simp only [Act.put, List.setIfInBounds_toArray, List.set_cons_zero, List.set_cons_succ]
  refine anyH_take 7 55 (v := ?v16) rfl rfl (by kernel_rfl) (by kernel_rfl) (by kernel_rfl) (fun _ _ _ h => h) (by rfl) ?h16 hHeld ?r16
  case h16 => (intro w hSw; (try dsimp only at hSw); go_simp; try (with_reducible rfl))
  simp only [Act.put, List.setIfInBounds_toArray, List.set_cons_zero, List.set_cons_succ]
  refine anyH_take 8 56 (v := ?v17) rfl rfl (by kernel_rfl) (by kernel_rfl) (by kernel_rfl) (fun _ _ _ h => h) (by rfl) ?h17 hHeld ?r17
  case h17 => (intro w hSw; (try dsimp only at hSw); go_simp; try (with_reducible rfl))
  simp only [Act.put, List.setIfInBounds_toArray, List.set_cons_zero, List.set_cons_succ]
  refine anyH_take 9 57 (v := ?v18) rfl rfl (by kernel_rfl) (by kernel_rfl) (by kernel_rfl) (fun _ _ _ h => h) (by rfl) ?h18 hHeld ?r18
  case h18 => (intro w hSw; (try dsimp only at hSw); go_simp; try (with_reducible rfl))
  simp only [Act.put, List.setIfInBounds_toArray, List.set_cons_zero, List.set_cons_succ]
  refine anyH_take 10 58 (v := ?v19) rfl rfl (by kernel_rfl) (by kernel_rfl) (by kernel_rfl) (fun _ _ _ h => h) (by rfl) ?h19 hHeld ?r19
  case h19 => (intro w hSw; (try dsimp only at hSw); go_simp; try (with_reducible rfl))
  simp only [Act.put, List.setIfInBounds_toArray, List.set_cons_zero, List.set_cons_succ]
  refine anyH_take 11 59 (v := ?v20) rfl rfl (by kernel_rfl) (by kernel_rfl) (by kernel_rfl) (fun _ _ _ h => h) (by rfl) ?h20 hHeld ?r20
  case h20 => (intro w hSw; (try dsimp only at hSw); go_simp; try (with_reducible rfl))
  simp only [Act.put, List.setIfInBounds_toArray, List.set_cons_zero, List.set_cons_succ]
  refine anyH_take 12 60 (v := ?v21) rfl rfl (by kernel_rfl) (by kernel_rfl) (by kernel_rfl) (fun _ _ _ h => h) (by rfl) ?h21 hHeld ?r21
  case h21 => (intro w hSw; (try dsimp only at hSw); go_simp; try (with_reducible rfl))
  simp only [Act.put, List.setIfInBounds_toArray, List.set_cons_zero, List.set_cons_succ]
  refine wpAnyH_ready (rs := [13]) (by kernel_rfl) (by simp) ?_
  refine AllReadyH.cons rfl (fun K hK => ?_) AllReadyH.nil
  have OAs := rb_ownsRow_below (unhide OA5) (unhide Ds)
  obtain ⟨vM, u13, hrM, hOM, hgM, hloc⟩ := run_appE_at (c := kB) 36 (gd_base OAs hA1) (erow_of_owns (rb_ownsRow_below (unhide OB5) (unhide Ds))) (by rw [← unhide HNA]; omega) (by omega) (own_cap0 (unhide OB5)) (Nat.le_trans hsz5 (unhide Ds).size)
  obtain ⟨aM, kM, rfl⟩ := us_sl hOM
  obtain ⟨nM, hnM⟩ : ∃ nM, nM = (EX ++ EY).length := ⟨_, rfl⟩
  rw [← hnM] at hrM hOM hloc
  have HNM := hide hnM
  clear hnM
  have hwM := WrB.of_grown hgM
  have S13 := ((unhide S5).below (unhide Ds)).apart OAs hwM rfl (fun i hi hg => by have h1 := (unhide NB i hi).1; have h2 := unhide OAL i hg; omega)
  have kA13 : u13.heap[ab]? = u5.heap[ab]? := (hwM.block ab (Nat.lt_of_lt_of_le (blk_lt (unhide KA5)) (unhide Ds).size) (own_box OAs (((unhide Ds).block ab (blk_lt (unhide KA5))).trans (unhide KA5)) (by decide))).trans ((unhide Ds).block ab (blk_lt (unhide KA5)))
  have kB13 : u13.heap[bb]? = u5.heap[bb]? := (hwM.block bb (Nat.lt_of_lt_of_le (blk_lt (unhide KB5)) (unhide Ds).size) (own_box OAs (((unhide Ds).block bb (blk_lt (unhide KB5))).trans (unhide KB5)) (by decide))).trans ((unhide Ds).block bb (blk_lt (unhide KB5)))
  have E13 := hide (unhide SK u13 S13.box kA13 kB13)
  have B13 := ((unhide B5).trans ((unhide Ds).mono hsz5)).trans (WrB.below hwM (fun i hi => Nat.le_trans hA1 (OAs.lt i hi).1) (Nat.le_trans hsz5 (unhide Ds).size))
  obtain ⟨g2, gc2, hvp, hcel, hfz, S16, W16, -, -⟩ := S13.put hk7 (⟨⟨X.lo, HY, RY, EX ++ EY, []⟩, ⟨aM, nM, kM⟩, ⟨none, 0, 0⟩⟩ : PpH) (by have h := hOM; rw [unhide HNM] at h ⊢; exact h) (World.ownsRow_nil _ _ _ _) (fun g hg hn => by
    have h1 := unhide NB g hn
    rcases hloc with h | h
    · have h2 := unhide OAL g (h ▸ hg)
      omega
    · have h3 : some g = some us.heap.size := hg.symm.trans h
      injection h3 with h3
      have h4 := (unhide Ds).size
      have h5 := unhide HZ5
      omega) (fun g hg => by cases hg)
  injection hvp with e1 e2 e3
  clear e2 e3
  injection e1 with e1
  injection e1 with e1 _ _
  subst e1
  have x0 := hcel 0 (by decide)
  have x1 := hcel 1 (by decide)
  have x2 := hcel 2 (by decide)
  have x3 := hcel 3 (by decide)
  have x4 := hcel 4 (by decide)
  have y0 := hfz (id * 5 + 0)
  have y1 := hfz (id * 5 + 1)
  have y2 := hfz (id * 5 + 2)
  have y3 := hfz (id * 5 + 3)
  have y4 := hfz (id * 5 + 4)
  unfold pcs at x0 x1 x2 x3 x4 S16 W16
  simp only [List.getElem_cons_zero, List.getElem_cons_succ, Nat.add_zero] at x0 x1 x2 x3 x4 y0
  unfold setAll setAll setAll setAll setAll setAll at S16 W16
  simp only at S16 W16
  have kA16 := (W16.block ab (by rw [← Nat.not_le]; intro h; have := blk_lt (unhide KA5); have h2 := (unhide Ds).size; have h3 := hwM.size; omega) (fun e => by have := unhide HGB; omega)).trans kA13
  have kB16 := (W16.block bb (by rw [← Nat.not_le]; intro h; have := blk_lt (unhide KB5); have h2 := (unhide Ds).size; have h3 := hwM.size; omega) (fun e => by have := unhide HGB; omega)).trans kB13
  have E16 := hide (unhide SK _ S16.box kA16 kB16)
  have S16h := hide S16
  have B16 := hide (B13.trans (WrB.below W16 (fun i e => by rw [e]; exact hBg) B13.size))
  clear OAs hOM hgM hloc hwM S13 kA13 kB13 B13 hcel hfz S16 W16 kA16 kB16
  refine us_stepApp rfl (.tmp 58) (.tmp 60) 36 rfl _ _ (.slice aM nM kM) u13 (by first | rfl | (simp [Act.eval]; done) | (simp [Act.eval, Act.put]; done)) (by first | rfl | (simp [Act.eval]; done) | (simp [Act.eval, Act.put]; done)) hrM ?_
  clear hrM
  refine hK.out _ _ (unhide E13) (fun hHeld => ?_)
  clear hK K
  refine anyH_take 14 62 (v := ?v22) rfl rfl (by kernel_rfl) (by kernel_rfl) (by kernel_rfl) (fun _ _ _ h => h) (by rfl) ?h22 hHeld ?r22
  case h22 => (intro w hSw; (try dsimp only at hSw); go_simp; try (with_reducible rfl))
  simp only [Act.put, List.setIfInBounds_toArray]
  refine anyH_take 15 63 (v := ?v23) rfl rfl (by kernel_rfl) (by kernel_rfl) (by kernel_rfl) (fun _ _ _ h => h) (by rfl) ?h23 hHeld ?r23
  case h23 => (intro w hSw; (try dsimp only at hSw); go_simp; try (with_reducible rfl))
  simp only [Act.put]
  refine wpAnyH_ready (rs := [16]) (by kernel_rfl) (by simp) ?_
  refine AllReadyH.cons rfl (fun K hK => ?_) AllReadyH.nil
  go_simp
  refine hK.out _ _ (unhide E16) (fun hHeld => ?_)
  clear hK K
  refine wpAnyH_done (by kernel_rfl) ?_ _
  clear x0 x1 x2 x3 x4 y0 y1 y2 y3 y4 E13 E16 SB SK KA5 KB5 OA5 OB5
  generalize ((((u13.setCell ⟨gp, id * 5, none⟩ (.string X.lo)).setCell ⟨gp, id * 5 + 1, none⟩ (.string HY)).setCell ⟨gp, id * 5 + 1 + 1, none⟩ (.int .i64 RY)).setCell ⟨gp, id * 5 + 1 + 1 + 1, none⟩ (.slice aM nM kM)).setCell ⟨gp, id * 5 + 1 + 1 + 1 + 1, none⟩ (.slice none 0 0) = u16 at *
  have t16 := (heap_at (unhide S16h).box 0).1
  have hj8 : j < (hs7.set id (⟨⟨X.lo, HY, RY, EX ++ EY, []⟩, ⟨aM, nM, kM⟩, ⟨none, 0, 0⟩⟩ : PpH)).length := by rw [List.length_set]; exact hj7
  obtain ⟨g2, gc2, hvp, hcel, hfz, S17, W17, -, -⟩ := (unhide S16h).put hj8 newH (World.ownsRow_nil _ _ _ _) (World.ownsRow_nil _ _ _ _) (fun g hg => by cases hg) (fun g hg => by cases hg)
  injection hvp with e1 e2 e3
  clear e2 e3
  injection e1 with e1
  injection e1 with e1 _ _
  subst e1
  have x0 := hcel 0 (by decide)
  have x1 := hcel 1 (by decide)
  have x2 := hcel 2 (by decide)
  have x3 := hcel 3 (by decide)
  have x4 := hcel 4 (by decide)
  have y0 := hfz (j * 5)
  have y1 := hfz (j * 5 + 1)
  have y2 := hfz (j * 5 + 2)
  have y3 := hfz (j * 5 + 3)
  have y4 := hfz (j * 5 + 4)
  unfold pcs at x0 x1 x2 x3 x4 S17 W17
  simp only [List.getElem_cons_zero, List.getElem_cons_succ, Nat.add_zero] at x0 x1 x2 x3 x4
  unfold newH at S17 W17
  unfold setAll setAll setAll setAll setAll setAll at S17 W17
  simp only at S17 W17
  have S17h := hide S17
  have B17 := hide ((unhide B16).trans (WrB.below W17 (fun i e => by rw [e]; exact hBg) (unhide B16).size))
  clear hcel hfz S17 W17
  go_upto_region 10 with fail
  go_upto_region 11 with fail
  clear x0 x1 x2 x3 x4 y0 y1 y2 y3 y4 t16
  generalize ((((u16.setCell ⟨gp, j * 5, none⟩ (.string ⟨#[]⟩)).setCell ⟨gp, j * 5 + 1, none⟩ (.string ⟨#[]⟩)).setCell ⟨gp, j * 5 + 1 + 1, none⟩ (.int .i64 (-1))).setCell ⟨gp, j * 5 + 1 + 1 + 1, none⟩ (.slice none 0 0)).setCell ⟨gp, j * 5 + 1 + 1 + 1 + 1, none⟩ (.slice none 0 0) = u17 at *
  have hjg : j < (ps.map (·.isNone)).length := by rw [List.length_map]; exact hjl
  obtain ⟨gg, ggc, hvg, cg, fg, S18, W18, hBgg, hgg⟩ := (unhide S17h).flagAt hjg true
  have hgl : (ps.map (·.isNone)).length = n := by rw [List.length_map]; exact (unhide LNS).1
  rw [hgl] at hvg
  injection hvg with e1 e2 e3
  clear e2
  subst e1 e3
  have t17 := (heap_at (unhide S17h).box 1).1
  have S18h := hide S18
  have B18 := hide ((unhide B17).trans (WrB.below W18 (fun i e => by rw [e]; exact hBgg) (unhide B17).size))
  clear S18 W18 hgl
  go_upto_region 12 with fail
  clear cg fg t17
  generalize u17.setCell ⟨gg, j, none⟩ (.bool true) = u18 at *
  have bL := (Below.refl u18.heap.size u18).alloc (Nat.le_refl _) (.cells #[] 69)
  have S19 := ((unhide S18h).below bL).index (gd_base (nil_lit (w := u18) 69 2) (unhide B18).size : JOwns _ W.heap.size _ [])
  have kb := ((unhide S18h).below bL).box
  have t2c := (heap_at kb 2).1
  have t2f := (heap_at kb 2).2
  have S19h := hide S19
  have B19 := hide (((unhide B18).trans (bL.mono (unhide B18).size)).setCell (p := ⟨tb, 2, none⟩) htb (.slice (some ⟨u18.heap.size, 0, none⟩) 0 0))
  clear bL S19 kb
  go_upto_region 13 with fail
  clear t2c t2f
  generalize (u18.alloc (.cells #[] 69)).setCell ⟨tb, 2, none⟩ (.slice (some ⟨u18.heap.size, 0, none⟩) 0 0) = u19 at *
  generalize u18.heap.size = gl at *
  obtain ⟨HF, hHF⟩ : ∃ HF, HF = ((hs7.set id (⟨⟨X.lo, HY, RY, EX ++ EY, []⟩, ⟨aM, nM, kM⟩, ⟨none, 0, 0⟩⟩ : PpH)).set j newH) := ⟨_, rfl⟩
  have S19i := hide (show TgSt u19 W.heap.size tb (.slice (some ⟨gp, 0, none⟩) n k1') (.slice (some ⟨gg, 0, none⟩) n k2') (.slice (some ⟨gl, 0, none⟩) 0 0) HF ((ps.map (·.isNone)).set j true) [] by rw [hHF]; exact unhide S19h)
  have DF := hide (show HF.map (·.X) = ((ps.set id (some ⟨X.lo, HY, RY, EX ++ EY, []⟩)).set j none).map pgD by
    rw [hHF]
    exact dat_set (dat_set (unhide DAT) id _ (some ⟨X.lo, HY, RY, EX ++ EY, []⟩) rfl) j newH none rfl)
  clear S19h hHF
  go_wp2_with fail
  have LIS := hide (unhide LNS).2
  go_loopw [12] (fun i wr => ∃ (k : Nat) (ai : Option Addr) (ni ci : Nat), k ≤ m ∧ i = .int .i64 k ∧ Hid (TgSt wr W.heap.size tb (.slice (some ⟨gp, 0, none⟩) n k1') (.slice (some ⟨gg, 0, none⟩) n k2') (.slice ai ni ci) HF ((ps.map (·.isNone)).set j true) ((idx.take k).filter (notId (j : Int)))) ∧ Below W.heap.size W wr) (fun i _ => m - (intOf i).toNat)
  case atStart => exact ⟨0, some ⟨gl, 0, none⟩, 0, 0, Nat.zero_le _, rfl, S19i, unhide B19⟩
  case round =>
    clear S19i B19 B18 S18h B17 S17h B16 S16h
    obtain ⟨k, ai, ni, ci, hk, rfl, hS, hB⟩ := hrel
    obtain ⟨e0, e1, e2⟩ := unhide SKP wr hB
    by_cases hlt : k < m
    case neg =>
      obtain rfl : k = m := by omega
      have ht : idx.take k = idx := List.take_of_length_le (by rw [unhide LIS]; exact Nat.le_refl _)
      rw [ht] at hS
      have K9 := (unhide hS).box
      have z0 := (heap_at K9 0).1
      have z1 := (heap_at K9 1).1
      have z2 := (heap_at K9 2).1
      have kr9 := (hB.block (w.heap.size + 1) hz2).trans (unhide K2)
      have r0 := (heap_at kr9 0).1
      have r1 := (heap_at kr9 1).1
      have r2 := (heap_at kr9 2).1
      have g0 := (heap_at kr9 0).2
      have g1 := (heap_at kr9 1).2
      have g2 := (heap_at kr9 2).2
      have BB := (unhide B0).trans (hB.mono (unhide B0).size)
      have hni : (idx.filter (notId (j : Int))).length = ni := by
        obtain ⟨a, c, e⟩ := us_sl (unhide hS).own.ix
        injection e with _ e _
        exact e.symm
      have RS := hide (show TsOwn wr W.heap.size (some ⟨gp, 0, none⟩) k1' (some ⟨gg, 0, none⟩) k2' ai ci n ni HF ((ps.set id (some ⟨X.lo, HY, RY, EX ++ EY, []⟩)).set j none) (idx.filter (notId (j : Int))) from (unhide hS).ts (none_map (unhide GPh)).symm (unhide DF) (by rw [List.length_set, List.length_set]; exact (unhide LNS).1) hni)
      have RES := hide (show SpRes (merT ps idx id X) w (.returned (.tuple #[.agg #[.slice (some ⟨gp, 0, none⟩) n k1', .slice (some ⟨gg, 0, none⟩) n k2', .slice ai ni ci], .int .i64 (j : Int), .int .i64 0])) (((wr.setCell ⟨w.heap.size + 1, 0, none⟩ (.slice (some ⟨gp, 0, none⟩) n k1')).setCell ⟨w.heap.size + 1, 1, none⟩ (.slice (some ⟨gg, 0, none⟩) n k2')).setCell ⟨w.heap.size + 1, 2, none⟩ (.slice ai ni ci)) by
        rw [unhide MT2]
        exact ⟨_, _, _, _, _, _, _, _, _, _, rfl, fun _ => ⟨rfl, ((((unhide RS).set hz2 0 _).set hz2 1 _).set hz2 2 _).dn (Nat.le_of_lt hz1)⟩, ((BB.setCell (p := ⟨w.heap.size + 1, 0, none⟩) (Nat.le_succ _) _).setCell (p := ⟨w.heap.size + 1, 1, none⟩) (Nat.le_succ _) _).setCell (p := ⟨w.heap.size + 1, 2, none⟩) (Nat.le_succ _) _⟩)
      clear K9 kr9 BB RS ht hS hni
      go_wp2_with fail
      refine bodyPost_ret (v := .tuple #[.agg #[.slice (some ⟨gp, 0, none⟩) n k1', .slice (some ⟨gg, 0, none⟩) n k2', .slice ai ni ci], .int .i64 (j : Int), .int .i64 0]) (by simp [results, Tryz.results60, go_sem, *]) rfl ?_
      exact unhide RES
    have hki : k < idx.length := by rw [unhide LIS]; exact hlt
    have J := (unhide HIX).below hB
    obtain ⟨gi', oi', hgi, j0, j1⟩ := J.2 k hki
    injection hgi with hgi
    injection hgi with e1 e2 _
    subst e1 e2
    rw [Nat.zero_add] at j0 j1
    have TK := hide (rb_take_snoc idx k hki)
    generalize idx[k] = rk at *
    clear J
    have FT := hide (show (idx.take (k + 1)).filter (notId (j : Int)) = (idx.take k).filter (notId (j : Int)) ++ (if notId (j : Int) rk then [rk] else []) by
      rw [unhide TK, List.filter_append, List.filter_cons, List.filter_nil])
    by_cases hid : rk.id = (j : Int)
    · have hb1 : (rk.id == (j : Int)) = true := by rw [beq_iff_eq]; exact hid
      have hb2 : (rk.id != (j : Int)) = false := by rw [bne, hb1]; rfl
      have S2 := hide (show TgSt wr W.heap.size tb (.slice (some ⟨gp, 0, none⟩) n k1') (.slice (some ⟨gg, 0, none⟩) n k2') (.slice ai ni ci) HF ((ps.map (·.isNone)).set j true) ((idx.take (k + 1)).filter (notId (j : Int))) by
        rw [unhide FT, show notId (j : Int) rk = false by unfold notId; rw [decide_eq_true hid]; rfl]
        simpa using unhide hS)
      clear hS FT TK
      go_wp2_with fail
      go_roundw
      case rel => exact ⟨k + 1, ai, ni, ci, by omega, by go_num, S2, hB⟩
      case measure => simp [intOf]; omega
    have hb1 : (rk.id == (j : Int)) = false := by rw [beq_eq_false_iff_ne]; exact hid
    have hb2 : (rk.id != (j : Int)) = true := by rw [bne, hb1]; rfl
    have hlF : ((idx.take k).filter (notId (j : Int))).length ≤ 1000 := by
      have h1 := List.length_filter_le (notId (j : Int)) (idx.take k)
      rw [List.length_take] at h1
      omega
    have hxi : ((idx.take k).filter (notId (j : Int))).length = ni := by
      obtain ⟨a, c, e⟩ := us_sl (unhide hS).own.ix
      injection e with _ e _
      exact e.symm
    have HXI := hide hxi
    clear hxi
    have FT2 := hide (show (idx.take (k + 1)).filter (notId (j : Int)) = (idx.take k).filter (notId (j : Int)) ++ [rk] by
      rw [unhide FT, show notId (j : Int) rk = true by unfold notId; rw [decide_eq_false hid]; rfl]
      rfl)
    have hgiW : gi < W.heap.size := by
      obtain ⟨gi2, _, hg2, h2, -⟩ := (unhide HIX).2 k hki
      injection hg2 with hg2
      injection hg2 with e1 _ _
      rw [e1]
      exact cell_lt h2
    have hszr : W.heap.size ≤ wr.heap.size := hB.size
    have SK := hide (show ∀ u : World, Below W.heap.size wr u → (u.cell? ⟨w.heap.size, 2, none⟩ = some (.slice (some ⟨gi, 0, none⟩) m c3) ∧ u.cell? ⟨gi, k * 2, none⟩ = some (.string rk.low) ∧ u.cell? ⟨gi, k * 2 + 1, none⟩ = some (.int .i64 rk.id)) from fun u hu => ⟨(hu.cell (p := ⟨w.heap.size, 2, none⟩) hz1).trans e2, (hu.cell (p := ⟨gi, k * 2, none⟩) hgiW).trans j0, (hu.cell (p := ⟨gi, k * 2 + 1, none⟩) hgiW).trans j1⟩)
    have tbx := (heap_at (unhide hS).box 2).1
    have tbl := blk_lt (unhide hS).box
    have Y1 := hide (show ∀ u, Below wr.heap.size wr u → u.cell? ⟨tb, 2, none⟩ = some (.slice ai ni ci) from fun u hu => (hu.cell (p := ⟨tb, 2, none⟩) tbl).trans tbx)
    have FTc := FT
    clear tbx FT FTc TK
    go_upto_region 17 with fail
    refine wp_region_held_drew (S := (fun u => (u.cell? ⟨w.heap.size, 2, none⟩ = some (.slice (some ⟨gi, 0, none⟩) m c3) ∧ u.cell? ⟨gi, k * 2, none⟩ = some (.string rk.low) ∧ u.cell? ⟨gi, k * 2 + 1, none⟩ = some (.int .i64 rk.id)))) (by kernel_rfl) (unhide SK _ (((Below.refl wr.heap.size wr).drew).mono hszr)) (fun hHeld => ?_)
    have Dq := hide (show Below wr.heap.size wr wr.drew from (Below.refl _ _).drew)
    generalize wr.drew = uq at *
    refine anyH_take 0 90 (v := ?v1) rfl rfl (by kernel_rfl) (by kernel_rfl) (by kernel_rfl) (fun _ _ _ h => h) (by rfl) ?h1 hHeld ?r1
    case h1 => (intro w hSw; (try dsimp only at hSw); go_simp; try (with_reducible rfl))
    simp only [Act.put, List.setIfInBounds_toArray, List.set_cons_zero, List.set_cons_succ]
    refine anyH_take 2 92 (v := ?v2) rfl rfl (by kernel_rfl) (by kernel_rfl) (by kernel_rfl) (fun _ _ _ h => h) (by rfl) ?h2 hHeld ?r2
    case h2 => (intro w hSw; (try dsimp only at hSw); go_simp; try (with_reducible rfl))
    simp only [Act.put, List.setIfInBounds_toArray, List.set_cons_zero, List.set_cons_succ]
    refine anyH_take 3 93 (v := ?v3) rfl rfl (by kernel_rfl) (by kernel_rfl) (by kernel_rfl) (fun _ _ _ h => h) (by rfl) ?h3 hHeld ?r3
    case h3 => (intro w hSw; (try dsimp only at hSw); go_simp; try (with_reducible rfl))
    simp only [Act.put, List.setIfInBounds_toArray, List.set_cons_zero, List.set_cons_succ]
    refine anyH_take 4 94 (v := ?v4) rfl rfl (by kernel_rfl) (by kernel_rfl) (by kernel_rfl) (fun _ _ _ h => h) (by rfl) ?h4 hHeld ?r4
    case h4 => (intro w hSw; (try dsimp only at hSw); go_simp; try (with_reducible rfl))
    simp only [Act.put, List.setIfInBounds_toArray, List.set_cons_zero, List.set_cons_succ]
    refine anyH_take 5 95 (v := ?v5) rfl rfl (by kernel_rfl) (by kernel_rfl) (by kernel_rfl) (fun _ _ _ h => h) (by rfl) ?h5 hHeld ?r5
    case h5 => (intro w hSw; (try dsimp only at hSw); go_simp; try (with_reducible rfl))
    simp only [Act.put, List.setIfInBounds_toArray, List.set_cons_zero, List.set_cons_succ]
    refine anyH_take 6 96 (v := ?v6) rfl rfl (by kernel_rfl) (by kernel_rfl) (by kernel_rfl) (fun _ _ _ h => h) (by rfl) ?h6 hHeld ?r6
    case h6 => (intro w hSw; (try dsimp only at hSw); go_simp; try (with_reducible rfl))
    simp only [Act.put, List.setIfInBounds_toArray, List.set_cons_zero, List.set_cons_succ]
    refine wpAnyH_ready (rs := [1, 7]) (by kernel_rfl) (by simp) ?_
    refine AllReadyH.cons rfl (fun K hK => ?_) (AllReadyH.cons rfl (fun K hK => ?_) AllReadyH.nil)
    · have y := unhide Y1 _ (unhide Dq)
      go_simp
      clear y
      refine hK.out _ _ (hHeld) (fun hHeld => ?_)
      clear hK K
      refine wpAnyH_ready (rs := [7]) (by kernel_rfl) (by simp) ?_
      refine AllReadyH.cons rfl (fun K hK => ?_) AllReadyH.nil
      have D7 := hide ((unhide Dq).alloc (unhide Dq).size (.cells #[.string rk.low, .int .i64 rk.id] 69))
      obtain ⟨vR, w6, hrR, S6, b6, k6⟩ := ((unhide hS).below (unhide Dq)).ref (q := rk) htb hlF (Nat.le_trans hszr (unhide Dq).size)
      obtain ⟨aR, cR, hvR⟩ : ∃ a c, vR = .slice a (ni + 1) c := by
        obtain ⟨a, c, e⟩ := us_sl S6.own.ix
        exact ⟨a, c, by rw [e, List.length_append, unhide HXI]; rfl⟩
      subst hvR
      have z6 := (heap_at k6 2).1
      have zf := (heap_at k6 2).2
      have S8 := hide S6
      have B8 := hide (((unhide Dq).mono hszr).trans b6)
      have E6 := hide (unhide SK w6 (by
        have h := (unhide B8)
        exact ⟨h.os, h.tape, h.output, Nat.le_trans h.size (by simp [World.setCell]), fun i hi => (Below.heap_setCell w6 ⟨tb, 2, none⟩ (.slice aR (ni + 1) cR) i (by simp; omega)).symm.trans (h.block i hi)⟩))
      clear S6 b6 k6
      go_simp
      refine hK.out _ _ (unhide SK _ ((unhide D7).mono hszr)) (fun hHeld => ?_)
      clear hK K
      refine wpAnyH_ready (rs := [8]) (by kernel_rfl) (by simp) ?_
      refine AllReadyH.cons rfl (fun K hK => ?_) AllReadyH.nil
      refine us_stepApp rfl (.tmp 91) (.tmp 97) 27 rfl _ _ (.slice aR (ni + 1) cR) w6 (by first | rfl | (simp [Act.eval]; done) | (simp [Act.eval, Act.put]; done)) (by first | rfl | (simp [Act.eval]; done) | (simp [Act.eval, Act.put]; done)) hrR ?_
      clear hrR
      refine hK.out _ _ (unhide E6) (fun hHeld => ?_)
      clear hK K
      refine anyH_take 9 99 (v := ?v7) rfl rfl (by kernel_rfl) (by kernel_rfl) (by kernel_rfl) (fun _ _ _ h => h) (by rfl) ?h7 hHeld ?r7
      case h7 => (intro w hSw; (try dsimp only at hSw); go_simp; try (with_reducible rfl))
      simp only [Act.put, List.setIfInBounds_toArray]
      refine wpAnyH_ready (rs := [10]) (by kernel_rfl) (by simp) ?_
      refine AllReadyH.cons rfl (fun K hK => ?_) AllReadyH.nil
      go_simp
      refine hK.out _ _ (unhide SK _ (unhide B8)) (fun hHeld => ?_)
      clear hK K
      refine wpAnyH_done (by kernel_rfl) ?_ _
      go_wp2_with fail
      go_roundw
      case rel => exact ⟨k + 1, aR, ni + 1, cR, by omega, by go_num, (by rw [unhide FT2]; exact S8), hB.trans (unhide B8)⟩
      case measure => simp [intOf]; omega
    · have D7 := hide ((unhide Dq).alloc (unhide Dq).size (.cells #[.string rk.low, .int .i64 rk.id] 69))
      obtain ⟨vR, w6, hrR, S6, b6, k6⟩ := ((unhide hS).below (unhide Dq)).ref (q := rk) htb hlF (Nat.le_trans hszr (unhide Dq).size)
      obtain ⟨aR, cR, hvR⟩ : ∃ a c, vR = .slice a (ni + 1) c := by
        obtain ⟨a, c, e⟩ := us_sl S6.own.ix
        exact ⟨a, c, by rw [e, List.length_append, unhide HXI]; rfl⟩
      subst hvR
      have z6 := (heap_at k6 2).1
      have zf := (heap_at k6 2).2
      have S8 := hide S6
      have B8 := hide (((unhide Dq).mono hszr).trans b6)
      have E6 := hide (unhide SK w6 (by
        have h := (unhide B8)
        exact ⟨h.os, h.tape, h.output, Nat.le_trans h.size (by simp [World.setCell]), fun i hi => (Below.heap_setCell w6 ⟨tb, 2, none⟩ (.slice aR (ni + 1) cR) i (by simp; omega)).symm.trans (h.block i hi)⟩))
      clear S6 b6 k6
      go_simp
      refine hK.out _ _ (unhide SK _ ((unhide D7).mono hszr)) (fun hHeld => ?_)
      clear hK K
      refine wpAnyH_ready (rs := [1]) (by kernel_rfl) (by simp) ?_
      refine AllReadyH.cons rfl (fun K hK => ?_) AllReadyH.nil
      have y := unhide Y1 _ (unhide D7)
      go_simp
      clear y
      refine hK.out _ _ (hHeld) (fun hHeld => ?_)
      clear hK K
      refine wpAnyH_ready (rs := [8]) (by kernel_rfl) (by simp) ?_
      refine AllReadyH.cons rfl (fun K hK => ?_) AllReadyH.nil
      refine us_stepApp rfl (.tmp 91) (.tmp 97) 27 rfl _ _ (.slice aR (ni + 1) cR) w6 (by first | rfl | (simp [Act.eval]; done) | (simp [Act.eval, Act.put]; done)) (by first | rfl | (simp [Act.eval]; done) | (simp [Act.eval, Act.put]; done)) hrR ?_
      clear hrR
      refine hK.out _ _ (unhide E6) (fun hHeld => ?_)
      clear hK K
      refine anyH_take 9 99 (v := ?v8) rfl rfl (by kernel_rfl) (by kernel_rfl) (by kernel_rfl) (fun _ _ _ h => h) (by rfl) ?h8 hHeld ?r8
      case h8 => (intro w hSw; (try dsimp only at hSw); go_simp; try (with_reducible rfl))
      simp only [Act.put, List.setIfInBounds_toArray]
      refine wpAnyH_ready (rs := [10]) (by kernel_rfl) (by simp) ?_
      refine AllReadyH.cons rfl (fun K hK => ?_) AllReadyH.nil
      go_simp
      refine hK.out _ _ (unhide SK _ (unhide B8)) (fun hHeld => ?_)
      clear hK K
      refine wpAnyH_done (by kernel_rfl) ?_ _
      go_wp2_with fail
      go_roundw
      case rel => exact ⟨k + 1, aR, ni + 1, cR, by omega, by go_num, (by rw [unhide FT2]; exact S8), hB.trans (unhide B8)⟩
      case measure => simp [intOf]; omega
end Go.Proofs.YtbhkmmdcdfjbkaaGreat

namespace Go.Proofs.YtbhkmmdcdfjbkaaGreat
open Go.RowKit

theorem th_new (w : World) (v0 v1 v2 u0 u1 u2 u3 : Value) : ∃ W, W = ((w.alloc (.cells #[v0, v1, v2] 29)).alloc (.cells #[u0, u1, u2, u3] 38)).alloc (.cells #[.slice none 0 0, .slice none 0 0, .slice none 0 0] 29) ∧ W.heap[w.heap.size]? = some (.cells #[v0, v1, v2] 29 (0, 0)) ∧ W.heap[w.heap.size + 1]? = some (.cells #[u0, u1, u2, u3] 38 (0, 0)) ∧ W.heap[w.heap.size + 1 + 1]? = some (.cells #[.slice none 0 0, .slice none 0 0, .slice none 0 0] 29 (0, 0)) ∧ W.heap.size = w.heap.size + 3 ∧ Below w.heap.size w W := by
  have z1 : (w.alloc (.cells #[v0, v1, v2] 29)).heap.size = w.heap.size + 1 := by simp
  have z2 : ((w.alloc (.cells #[v0, v1, v2] 29)).alloc (.cells #[u0, u1, u2, u3] 38)).heap.size = w.heap.size + 1 + 1 := by simp
  have b1 : Below (w.heap.size + 1) (w.alloc (.cells #[v0, v1, v2] 29)) ((w.alloc (.cells #[v0, v1, v2] 29)).alloc (.cells #[u0, u1, u2, u3] 38)) := (Below.refl _ _).alloc (by omega) _
  have b2 : Below (w.heap.size + 1 + 1) ((w.alloc (.cells #[v0, v1, v2] 29)).alloc (.cells #[u0, u1, u2, u3] 38)) (((w.alloc (.cells #[v0, v1, v2] 29)).alloc (.cells #[u0, u1, u2, u3] 38)).alloc (.cells #[.slice none 0 0, .slice none 0 0, .slice none 0 0] 29)) := (Below.refl _ _).alloc (by omega) _
  exact ⟨_, rfl, (b2.block w.heap.size (by omega)).trans ((b1.block w.heap.size (by omega)).trans (heap_new rfl _ _)), (b2.block (w.heap.size + 1) (by omega)).trans (heap_new z1 _ _), heap_new z2 _ _, by simp, (((Below.refl _ _).alloc (Nat.le_refl _) _).alloc (by simp) _).alloc (by simp; omega) _⟩
/-- What a step's part gave, laid into the result. -/
theorem SpRes.ret {r : StR} {w u u' : World} {e : Ending} {rb : Nat} (h : SpRes r u e u') (hb : Below w.heap.size w u) (hrb : rb < u.heap.size) (hw : w.heap.size ≤ rb) : ∃ a1 n c1 a2 c2 a3 m c3 told, e = .returned (.tuple #[.agg #[.slice a1 n c1, .slice a2 n c2, .slice a3 m c3], .int .i64 told, .int .i64 r.code]) ∧ Below u.heap.size u u' ∧ SpRes r w (.returned (.tuple #[.agg #[.slice a1 n c1, .slice a2 n c2, .slice a3 m c3], .int .i64 told, .int .i64 r.code])) (((u'.setCell ⟨rb, 0, none⟩ (.slice a1 n c1)).setCell ⟨rb, 1, none⟩ (.slice a2 n c2)).setCell ⟨rb, 2, none⟩ (.slice a3 m c3)) := by
  obtain ⟨a1, n, c1, a2, c2, a3, m, c3, hs, told, e1, ho, hb2⟩ := h
  refine ⟨a1, n, c1, a2, c2, a3, m, c3, told, e1, hb2, a1, n, c1, a2, c2, a3, m, c3, hs, told, rfl, fun hc => ⟨(ho hc).1, ((((ho hc).2.set hrb 0 _).set hrb 1 _).set hrb 2 _).dn (by omega)⟩, ?_⟩
  have bR := hb.trans (hb2.mono hb.size)
  exact ((bR.setCell (p := ⟨rb, 0, none⟩) hw _).setCell (p := ⟨rb, 1, none⟩) hw _).setCell (p := ⟨rb, 2, none⟩) hw _
theorem stepT_chg {ps : List (Option PageD)} {idx : List RefD} {a : AcT} (h : a.kind = 1 ∨ a.kind = 2) : stepT ps idx a = chgT ps idx a := by unfold stepT; rw [if_pos h]
theorem stepT_bad {ps : List (Option PageD)} {idx : List RefD} {a : AcT} (h : a.kind ≠ 1 ∧ a.kind ≠ 2 ∧ a.kind ≠ 3 ∧ a.kind ≠ 4 ∧ a.kind ≠ 5 ∧ a.kind ≠ 6) : stepT ps idx a = ⟨ps, idx, 0, 3⟩ := by
  unfold stepT
  rw [if_neg (by omega), if_neg h.2.2.1, if_neg h.2.2.2.1, if_neg h.2.2.2.2.1, if_neg h.2.2.2.2.2]
/-- What a step at a page does. -/
def fT (ps : List (Option PageD)) (idx : List RefD) (kind : Int) : Nat → PageD → StR := if kind = 3 then conT ps idx else if kind = 4 then splT ps idx else if kind = 5 then posT ps idx else merT ps idx
theorem stepT_at {ps : List (Option PageD)} {idx : List RefD} {a : AcT} (h : a.kind = 3 ∨ a.kind = 4 ∨ a.kind = 5 ∨ a.kind = 6) : stepT ps idx a = atT ps idx a.id (fT ps idx a.kind) := by
  unfold stepT fT
  rcases h with h | h | h | h <;> rw [h] <;> simp
set_option maxRecDepth 100000 in
set_option maxHeartbeats 8000000 in
theorem l05Step_any (B : Nat) (a1 : Option Addr) (c1 : Nat) (a2 : Option Addr) (c2 : Nat) (a3 : Option Addr) (c3 n m : Nat) (hs : List PpH) (ps : List (Option PageD)) (idx : List RefD) (ac : AcT) (w : World) (hO : TsOwn w B a1 c1 a2 c2 a3 c3 n m hs ps idx) (hT : Tre ps idx) :
    Calls Tryz.prog 28 #[.agg #[.slice a1 n c1, .slice a2 n c2, .slice a3 m c3], .agg #[.int .i64 ac.kind, .int .i64 ac.id, .string ac.key, .string ac.val]] w fun e w' => SpRes (stepT ps idx ac) w e w' := by
  obtain ⟨W, hW, k1, k2, k3, z, b0⟩ := th_new w (.slice a1 n c1) (.slice a2 n c2) (.slice a3 m c3) (.int .i64 ac.kind) (.int .i64 ac.id) (.string ac.key) (.string ac.val)
  have OW := hide (hO.below b0)
  have hz1 : w.heap.size < W.heap.size := by omega
  have hz2 : w.heap.size + 1 < W.heap.size := by omega
  have hz3 : w.heap.size + 1 + 1 < W.heap.size := by omega
  have hn30 : n ≤ 30 := by rw [← hO.ln]; exact hT.len.2
  have hn1 : 1 ≤ n := by rw [← hO.ln]; exact hT.len.1
  have B0 := hide b0
  have K1 := hide k1
  have K2 := hide k2
  have K3 := hide k3
  have HTh := hide hT
  have HW := hide hW
  have e0 := (heap_at k1 0).1
  have e1 := (heap_at k1 1).1
  have e2 := (heap_at k1 2).1
  have d0 := (heap_at k2 0).1
  have d1 := (heap_at k2 1).1
  have d2 := (heap_at k2 2).1
  have d3 := (heap_at k2 3).1
  have r0 := (heap_at k3 0).1
  have r1 := (heap_at k3 1).1
  have r2 := (heap_at k3 2).1
  have g0 := (heap_at k3 0).2
  have g1 := (heap_at k3 1).2
  have g2 := (heap_at k3 2).2
  have HLN := hide hO.ln
  clear b0 k1 k2 k3 z hO hT hW
  by_cases h12 : ac.kind = 1 ∨ ac.kind = 2
  · have STC := hide (stepT_chg (ps := ps) (idx := idx) h12)
    have hkk : (ac.kind == 1) = true ∨ ((ac.kind == 1) = false ∧ (ac.kind == 2) = true) := by
      rcases h12 with h | h
      · left; rw [h]; rfl
      · right; rw [h]; exact ⟨rfl, rfl⟩
    cases hky : keyK ac.key with
    | false =>
      have hno : stepT ps idx ac = ⟨ps, idx, 0, 11⟩ := by rw [unhide STC]; unfold chgT; rw [if_pos (.inl hky)]
      have HNO := hide hno
      have HK := hide (l04Key_any ac.key W)
      rw [hky] at HK
      clear hno
      rcases hkk with hkk | ⟨hkk, hkk2⟩
      · go_enter Tryz.func28, Tryz.ntmps28
        go_upto_region 1 with fail
        rw [← unhide HW]
        clear HW
        go_wp2_with fail
        refine (unhide HK).mono ?_
        rintro e u0 ⟨rfl, hu0⟩
        subst u0
        clear HK
        have RES := hide (show SpRes (stepT ps idx ac) w (.returned (.tuple #[.agg #[.slice a1 n c1, .slice a2 n c2, .slice a3 m c3], .int .i64 0, .int .i64 11])) (((W.setCell ⟨w.heap.size + 1 + 1, 0, none⟩ (.slice a1 n c1)).setCell ⟨w.heap.size + 1 + 1, 1, none⟩ (.slice a2 n c2)).setCell ⟨w.heap.size + 1 + 1, 2, none⟩ (.slice a3 m c3)) by
          rw [unhide HNO]
          exact SpRes.no (r := ⟨ps, idx, 0, 11⟩) (show (11 : Int) ≠ 0 by decide) ((((unhide B0).setCell (p := ⟨w.heap.size + 1 + 1, 0, none⟩) (by show w.heap.size ≤ w.heap.size + 1 + 1; omega) _).setCell (p := ⟨w.heap.size + 1 + 1, 1, none⟩) (by show w.heap.size ≤ w.heap.size + 1 + 1; omega) _).setCell (p := ⟨w.heap.size + 1 + 1, 2, none⟩) (by show w.heap.size ≤ w.heap.size + 1 + 1; omega) _))
        go_wp2_with fail
        refine bodyPost_ret (v := .tuple #[.agg #[.slice a1 n c1, .slice a2 n c2, .slice a3 m c3], .int .i64 0, .int .i64 11]) (by simp [results, Tryz.results28, go_sem, *]) rfl ?_
        exact unhide RES
      · go_enter Tryz.func28, Tryz.ntmps28
        go_upto_region 1 with fail
        rw [← unhide HW]
        clear HW
        go_wp2_with fail
        refine (unhide HK).mono ?_
        rintro e u0 ⟨rfl, hu0⟩
        subst u0
        clear HK
        have RES := hide (show SpRes (stepT ps idx ac) w (.returned (.tuple #[.agg #[.slice a1 n c1, .slice a2 n c2, .slice a3 m c3], .int .i64 0, .int .i64 11])) (((W.setCell ⟨w.heap.size + 1 + 1, 0, none⟩ (.slice a1 n c1)).setCell ⟨w.heap.size + 1 + 1, 1, none⟩ (.slice a2 n c2)).setCell ⟨w.heap.size + 1 + 1, 2, none⟩ (.slice a3 m c3)) by
          rw [unhide HNO]
          exact SpRes.no (r := ⟨ps, idx, 0, 11⟩) (show (11 : Int) ≠ 0 by decide) ((((unhide B0).setCell (p := ⟨w.heap.size + 1 + 1, 0, none⟩) (by show w.heap.size ≤ w.heap.size + 1 + 1; omega) _).setCell (p := ⟨w.heap.size + 1 + 1, 1, none⟩) (by show w.heap.size ≤ w.heap.size + 1 + 1; omega) _).setCell (p := ⟨w.heap.size + 1 + 1, 2, none⟩) (by show w.heap.size ≤ w.heap.size + 1 + 1; omega) _))
        go_wp2_with fail
        refine bodyPost_ret (v := .tuple #[.agg #[.slice a1 n c1, .slice a2 n c2, .slice a3 m c3], .int .i64 0, .int .i64 11]) (by simp [results, Tryz.results28, go_sem, *]) rfl ?_
        exact unhide RES
    | true =>
      have HK := hide (l04Key_any ac.key W)
      rw [hky] at HK
      by_cases hv : ac.val.size ≤ 100
      · have hvk : valK ac.val = true := by unfold valK; exact decide_eq_true hv
        have hvi : ¬ ((100 : Int) < (ac.val.size : Int)) := by omega
        rcases h12 with hkd | hkd
        · have HC := hide (l05Change_any B a1 c1 a2 c2 a3 c3 n m hs ps idx ac false W (unhide OW) (unhide HTh) hky hvk (.inl ⟨hkd, rfl⟩))
          rw [← unhide STC] at HC
          have hk1 : (ac.kind == 1) = true := by rw [hkd]; rfl
          have hk2 : (ac.kind == 2) = false := by rw [hkd]; rfl
          clear hkd
          go_enter Tryz.func28, Tryz.ntmps28
          go_upto_region 1 with fail
          rw [← unhide HW]
          clear HW
          go_wp2_with fail
          refine (unhide HK).mono ?_
          rintro e u0 ⟨rfl, hu0⟩
          subst u0
          clear HK
          go_wp2_with fail
          refine (unhide HC).mono ?_
          intro e u1 hS
          obtain ⟨b1, n', k1, b2, k2, b3, m', k3, told, rfl, hb1, hR⟩ := hS.ret (rb := w.heap.size + 1 + 1) (unhide B0) hz3 (by omega)
          have RES := hide hR
          have kr := (hb1.block (w.heap.size + 1 + 1) hz3).trans (unhide K3)
          clear r0 r1 r2 g0 g1 g2 hR hb1 hS
          have r0 := (heap_at kr 0).1
          have r1 := (heap_at kr 1).1
          have r2 := (heap_at kr 2).1
          have g0 := (heap_at kr 0).2
          have g1 := (heap_at kr 1).2
          have g2 := (heap_at kr 2).2
          clear kr
          go_wp2_with fail
          refine bodyPost_ret (v := .tuple #[.agg #[.slice b1 n' k1, .slice b2 n' k2, .slice b3 m' k3], .int .i64 told, .int .i64 (stepT ps idx ac).code]) (by simp [results, Tryz.results28, go_sem, *]) rfl ?_
          exact unhide RES
        · have HC := hide (l05Change_any B a1 c1 a2 c2 a3 c3 n m hs ps idx ac true W (unhide OW) (unhide HTh) hky hvk (.inr ⟨hkd, rfl⟩))
          rw [← unhide STC] at HC
          have hk1 : (ac.kind == 1) = false := by rw [hkd]; rfl
          have hk2 : (ac.kind == 2) = true := by rw [hkd]; rfl
          clear hkd
          go_enter Tryz.func28, Tryz.ntmps28
          go_upto_region 1 with fail
          rw [← unhide HW]
          clear HW
          go_wp2_with fail
          refine (unhide HK).mono ?_
          rintro e u0 ⟨rfl, hu0⟩
          subst u0
          clear HK
          go_wp2_with fail
          refine (unhide HC).mono ?_
          intro e u1 hS
          obtain ⟨b1, n', k1, b2, k2, b3, m', k3, told, rfl, hb1, hR⟩ := hS.ret (rb := w.heap.size + 1 + 1) (unhide B0) hz3 (by omega)
          have RES := hide hR
          have kr := (hb1.block (w.heap.size + 1 + 1) hz3).trans (unhide K3)
          clear r0 r1 r2 g0 g1 g2 hR hb1 hS
          have r0 := (heap_at kr 0).1
          have r1 := (heap_at kr 1).1
          have r2 := (heap_at kr 2).1
          have g0 := (heap_at kr 0).2
          have g1 := (heap_at kr 1).2
          have g2 := (heap_at kr 2).2
          clear kr
          go_wp2_with fail
          refine bodyPost_ret (v := .tuple #[.agg #[.slice b1 n' k1, .slice b2 n' k2, .slice b3 m' k3], .int .i64 told, .int .i64 (stepT ps idx ac).code]) (by simp [results, Tryz.results28, go_sem, *]) rfl ?_
          exact unhide RES
      · have hvi : (100 : Int) < (ac.val.size : Int) := by omega
        have hno : stepT ps idx ac = ⟨ps, idx, 0, 11⟩ := by rw [unhide STC]; unfold chgT; rw [if_pos (.inr (by unfold valK; exact decide_eq_false hv))]
        have HNO := hide hno
        clear hno
        rcases hkk with hkk | ⟨hkk, hkk2⟩
        · go_enter Tryz.func28, Tryz.ntmps28
          go_upto_region 1 with fail
          rw [← unhide HW]
          clear HW
          go_wp2_with fail
          refine (unhide HK).mono ?_
          rintro e u0 ⟨rfl, hu0⟩
          subst u0
          clear HK
          have RES := hide (show SpRes (stepT ps idx ac) w (.returned (.tuple #[.agg #[.slice a1 n c1, .slice a2 n c2, .slice a3 m c3], .int .i64 0, .int .i64 11])) (((W.setCell ⟨w.heap.size + 1 + 1, 0, none⟩ (.slice a1 n c1)).setCell ⟨w.heap.size + 1 + 1, 1, none⟩ (.slice a2 n c2)).setCell ⟨w.heap.size + 1 + 1, 2, none⟩ (.slice a3 m c3)) by
            rw [unhide HNO]
            exact SpRes.no (r := ⟨ps, idx, 0, 11⟩) (show (11 : Int) ≠ 0 by decide) ((((unhide B0).setCell (p := ⟨w.heap.size + 1 + 1, 0, none⟩) (by show w.heap.size ≤ w.heap.size + 1 + 1; omega) _).setCell (p := ⟨w.heap.size + 1 + 1, 1, none⟩) (by show w.heap.size ≤ w.heap.size + 1 + 1; omega) _).setCell (p := ⟨w.heap.size + 1 + 1, 2, none⟩) (by show w.heap.size ≤ w.heap.size + 1 + 1; omega) _))
          go_wp2_with fail
          refine bodyPost_ret (v := .tuple #[.agg #[.slice a1 n c1, .slice a2 n c2, .slice a3 m c3], .int .i64 0, .int .i64 11]) (by simp [results, Tryz.results28, go_sem, *]) rfl ?_
          exact unhide RES
        · go_enter Tryz.func28, Tryz.ntmps28
          go_upto_region 1 with fail
          rw [← unhide HW]
          clear HW
          go_wp2_with fail
          refine (unhide HK).mono ?_
          rintro e u0 ⟨rfl, hu0⟩
          subst u0
          clear HK
          have RES := hide (show SpRes (stepT ps idx ac) w (.returned (.tuple #[.agg #[.slice a1 n c1, .slice a2 n c2, .slice a3 m c3], .int .i64 0, .int .i64 11])) (((W.setCell ⟨w.heap.size + 1 + 1, 0, none⟩ (.slice a1 n c1)).setCell ⟨w.heap.size + 1 + 1, 1, none⟩ (.slice a2 n c2)).setCell ⟨w.heap.size + 1 + 1, 2, none⟩ (.slice a3 m c3)) by
            rw [unhide HNO]
            exact SpRes.no (r := ⟨ps, idx, 0, 11⟩) (show (11 : Int) ≠ 0 by decide) ((((unhide B0).setCell (p := ⟨w.heap.size + 1 + 1, 0, none⟩) (by show w.heap.size ≤ w.heap.size + 1 + 1; omega) _).setCell (p := ⟨w.heap.size + 1 + 1, 1, none⟩) (by show w.heap.size ≤ w.heap.size + 1 + 1; omega) _).setCell (p := ⟨w.heap.size + 1 + 1, 2, none⟩) (by show w.heap.size ≤ w.heap.size + 1 + 1; omega) _))
          go_wp2_with fail
          refine bodyPost_ret (v := .tuple #[.agg #[.slice a1 n c1, .slice a2 n c2, .slice a3 m c3], .int .i64 0, .int .i64 11]) (by simp [results, Tryz.results28, go_sem, *]) rfl ?_
          exact unhide RES
  have hb1 : (ac.kind == 1) = false := by rw [beq_eq_false_iff_ne]; omega
  have hb2 : (ac.kind == 2) = false := by rw [beq_eq_false_iff_ne]; omega
  by_cases h36 : ac.kind = 3 ∨ ac.kind = 4 ∨ ac.kind = 5 ∨ ac.kind = 6
  case neg =>
    have hb3 : (ac.kind == 3) = false := by rw [beq_eq_false_iff_ne]; omega
    have hb4 : (ac.kind == 4) = false := by rw [beq_eq_false_iff_ne]; omega
    have hb5 : (ac.kind == 5) = false := by rw [beq_eq_false_iff_ne]; omega
    have hb6 : (ac.kind == 6) = false := by rw [beq_eq_false_iff_ne]; omega
    have hno := stepT_bad (ps := ps) (idx := idx) (a := ac) ⟨by omega, by omega, by omega, by omega, by omega, by omega⟩
    have HNO := hide hno
    clear hno
    go_enter Tryz.func28, Tryz.ntmps28
    go_upto_region 1 with fail
    rw [← unhide HW]
    clear HW
    have RES := hide (show SpRes (stepT ps idx ac) w (.returned (.tuple #[.agg #[.slice a1 n c1, .slice a2 n c2, .slice a3 m c3], .int .i64 0, .int .i64 3])) (((W.setCell ⟨w.heap.size + 1 + 1, 0, none⟩ (.slice a1 n c1)).setCell ⟨w.heap.size + 1 + 1, 1, none⟩ (.slice a2 n c2)).setCell ⟨w.heap.size + 1 + 1, 2, none⟩ (.slice a3 m c3)) by
      rw [unhide HNO]
      exact SpRes.no (r := ⟨ps, idx, 0, 3⟩) (show (3 : Int) ≠ 0 by decide) ((((unhide B0).setCell (p := ⟨w.heap.size + 1 + 1, 0, none⟩) (by show w.heap.size ≤ w.heap.size + 1 + 1; omega) _).setCell (p := ⟨w.heap.size + 1 + 1, 1, none⟩) (by show w.heap.size ≤ w.heap.size + 1 + 1; omega) _).setCell (p := ⟨w.heap.size + 1 + 1, 2, none⟩) (by show w.heap.size ≤ w.heap.size + 1 + 1; omega) _))
    go_wp2_with fail
    refine bodyPost_ret (v := .tuple #[.agg #[.slice a1 n c1, .slice a2 n c2, .slice a3 m c3], .int .i64 0, .int .i64 3]) (by simp [results, Tryz.results28, go_sem, *]) rfl ?_
    exact unhide RES
  have STA := hide (stepT_at (ps := ps) (idx := idx) h36)
  have HIN := hide (l01In_any ac.id 0 ((n : Int) - 1) W)
  by_cases hr : ac.id < 0 ∨ (n : Int) ≤ ac.id
  · have hno : stepT ps idx ac = ⟨ps, idx, 0, 4⟩ := by
      rw [unhide STA]
      unfold atT
      rw [if_pos (by rw [unhide HLN]; exact hr)]
    have HNO := hide hno
    have hin : (decide (0 ≤ ac.id) && decide (ac.id ≤ (n : Int) - 1)) = false := by
      rcases hr with h | h
      · rw [decide_eq_false (by omega)]; rfl
      · rw [decide_eq_false (p := ac.id ≤ (n : Int) - 1) (by omega), Bool.and_false]
    rw [hin] at HIN
    clear hno hin
    rcases h36 with hkd | hkd | hkd | hkd
    · have hc3 : (ac.kind == 3) = true := by rw [hkd]; rfl
      have hc4 : (ac.kind == 4) = false := by rw [hkd]; rfl
      have hc5 : (ac.kind == 5) = false := by rw [hkd]; rfl
      have hc6 : (ac.kind == 6) = false := by rw [hkd]; rfl
      clear hkd
      go_enter Tryz.func28, Tryz.ntmps28
      go_upto_region 1 with fail
      rw [← unhide HW]
      clear HW
      go_wp2_with fail
      refine (unhide HIN).mono ?_
      rintro e u0 ⟨rfl, hu0⟩
      subst u0
      clear HIN
      have RES := hide (show SpRes (stepT ps idx ac) w (.returned (.tuple #[.agg #[.slice a1 n c1, .slice a2 n c2, .slice a3 m c3], .int .i64 0, .int .i64 4])) (((W.setCell ⟨w.heap.size + 1 + 1, 0, none⟩ (.slice a1 n c1)).setCell ⟨w.heap.size + 1 + 1, 1, none⟩ (.slice a2 n c2)).setCell ⟨w.heap.size + 1 + 1, 2, none⟩ (.slice a3 m c3)) by
        rw [unhide HNO]
        exact SpRes.no (r := ⟨ps, idx, 0, 4⟩) (show (4 : Int) ≠ 0 by decide) ((((unhide B0).setCell (p := ⟨w.heap.size + 1 + 1, 0, none⟩) (by show w.heap.size ≤ w.heap.size + 1 + 1; omega) _).setCell (p := ⟨w.heap.size + 1 + 1, 1, none⟩) (by show w.heap.size ≤ w.heap.size + 1 + 1; omega) _).setCell (p := ⟨w.heap.size + 1 + 1, 2, none⟩) (by show w.heap.size ≤ w.heap.size + 1 + 1; omega) _))
      go_wp2_with fail
      refine bodyPost_ret (v := .tuple #[.agg #[.slice a1 n c1, .slice a2 n c2, .slice a3 m c3], .int .i64 0, .int .i64 4]) (by simp [results, Tryz.results28, go_sem, *]) rfl ?_
      exact unhide RES
    · have hc3 : (ac.kind == 3) = false := by rw [hkd]; rfl
      have hc4 : (ac.kind == 4) = true := by rw [hkd]; rfl
      have hc5 : (ac.kind == 5) = false := by rw [hkd]; rfl
      have hc6 : (ac.kind == 6) = false := by rw [hkd]; rfl
      clear hkd
      go_enter Tryz.func28, Tryz.ntmps28
      go_upto_region 1 with fail
      rw [← unhide HW]
      clear HW
      go_wp2_with fail
      refine (unhide HIN).mono ?_
      rintro e u0 ⟨rfl, hu0⟩
      subst u0
      clear HIN
      have RES := hide (show SpRes (stepT ps idx ac) w (.returned (.tuple #[.agg #[.slice a1 n c1, .slice a2 n c2, .slice a3 m c3], .int .i64 0, .int .i64 4])) (((W.setCell ⟨w.heap.size + 1 + 1, 0, none⟩ (.slice a1 n c1)).setCell ⟨w.heap.size + 1 + 1, 1, none⟩ (.slice a2 n c2)).setCell ⟨w.heap.size + 1 + 1, 2, none⟩ (.slice a3 m c3)) by
        rw [unhide HNO]
        exact SpRes.no (r := ⟨ps, idx, 0, 4⟩) (show (4 : Int) ≠ 0 by decide) ((((unhide B0).setCell (p := ⟨w.heap.size + 1 + 1, 0, none⟩) (by show w.heap.size ≤ w.heap.size + 1 + 1; omega) _).setCell (p := ⟨w.heap.size + 1 + 1, 1, none⟩) (by show w.heap.size ≤ w.heap.size + 1 + 1; omega) _).setCell (p := ⟨w.heap.size + 1 + 1, 2, none⟩) (by show w.heap.size ≤ w.heap.size + 1 + 1; omega) _))
      go_wp2_with fail
      refine bodyPost_ret (v := .tuple #[.agg #[.slice a1 n c1, .slice a2 n c2, .slice a3 m c3], .int .i64 0, .int .i64 4]) (by simp [results, Tryz.results28, go_sem, *]) rfl ?_
      exact unhide RES
    · have hc3 : (ac.kind == 3) = false := by rw [hkd]; rfl
      have hc4 : (ac.kind == 4) = false := by rw [hkd]; rfl
      have hc5 : (ac.kind == 5) = true := by rw [hkd]; rfl
      have hc6 : (ac.kind == 6) = false := by rw [hkd]; rfl
      clear hkd
      go_enter Tryz.func28, Tryz.ntmps28
      go_upto_region 1 with fail
      rw [← unhide HW]
      clear HW
      go_wp2_with fail
      refine (unhide HIN).mono ?_
      rintro e u0 ⟨rfl, hu0⟩
      subst u0
      clear HIN
      have RES := hide (show SpRes (stepT ps idx ac) w (.returned (.tuple #[.agg #[.slice a1 n c1, .slice a2 n c2, .slice a3 m c3], .int .i64 0, .int .i64 4])) (((W.setCell ⟨w.heap.size + 1 + 1, 0, none⟩ (.slice a1 n c1)).setCell ⟨w.heap.size + 1 + 1, 1, none⟩ (.slice a2 n c2)).setCell ⟨w.heap.size + 1 + 1, 2, none⟩ (.slice a3 m c3)) by
        rw [unhide HNO]
        exact SpRes.no (r := ⟨ps, idx, 0, 4⟩) (show (4 : Int) ≠ 0 by decide) ((((unhide B0).setCell (p := ⟨w.heap.size + 1 + 1, 0, none⟩) (by show w.heap.size ≤ w.heap.size + 1 + 1; omega) _).setCell (p := ⟨w.heap.size + 1 + 1, 1, none⟩) (by show w.heap.size ≤ w.heap.size + 1 + 1; omega) _).setCell (p := ⟨w.heap.size + 1 + 1, 2, none⟩) (by show w.heap.size ≤ w.heap.size + 1 + 1; omega) _))
      go_wp2_with fail
      refine bodyPost_ret (v := .tuple #[.agg #[.slice a1 n c1, .slice a2 n c2, .slice a3 m c3], .int .i64 0, .int .i64 4]) (by simp [results, Tryz.results28, go_sem, *]) rfl ?_
      exact unhide RES
    · have hc3 : (ac.kind == 3) = false := by rw [hkd]; rfl
      have hc4 : (ac.kind == 4) = false := by rw [hkd]; rfl
      have hc5 : (ac.kind == 5) = false := by rw [hkd]; rfl
      have hc6 : (ac.kind == 6) = true := by rw [hkd]; rfl
      clear hkd
      go_enter Tryz.func28, Tryz.ntmps28
      go_upto_region 1 with fail
      rw [← unhide HW]
      clear HW
      go_wp2_with fail
      refine (unhide HIN).mono ?_
      rintro e u0 ⟨rfl, hu0⟩
      subst u0
      clear HIN
      have RES := hide (show SpRes (stepT ps idx ac) w (.returned (.tuple #[.agg #[.slice a1 n c1, .slice a2 n c2, .slice a3 m c3], .int .i64 0, .int .i64 4])) (((W.setCell ⟨w.heap.size + 1 + 1, 0, none⟩ (.slice a1 n c1)).setCell ⟨w.heap.size + 1 + 1, 1, none⟩ (.slice a2 n c2)).setCell ⟨w.heap.size + 1 + 1, 2, none⟩ (.slice a3 m c3)) by
        rw [unhide HNO]
        exact SpRes.no (r := ⟨ps, idx, 0, 4⟩) (show (4 : Int) ≠ 0 by decide) ((((unhide B0).setCell (p := ⟨w.heap.size + 1 + 1, 0, none⟩) (by show w.heap.size ≤ w.heap.size + 1 + 1; omega) _).setCell (p := ⟨w.heap.size + 1 + 1, 1, none⟩) (by show w.heap.size ≤ w.heap.size + 1 + 1; omega) _).setCell (p := ⟨w.heap.size + 1 + 1, 2, none⟩) (by show w.heap.size ≤ w.heap.size + 1 + 1; omega) _))
      go_wp2_with fail
      refine bodyPost_ret (v := .tuple #[.agg #[.slice a1 n c1, .slice a2 n c2, .slice a3 m c3], .int .i64 0, .int .i64 4]) (by simp [results, Tryz.results28, go_sem, *]) rfl ?_
      exact unhide RES
  have hin : (decide (0 ≤ ac.id) && decide (ac.id ≤ (n : Int) - 1)) = true := by
    rw [decide_eq_true (by omega), decide_eq_true (p := ac.id ≤ (n : Int) - 1) (by omega)]; rfl
  rw [hin] at HIN
  clear hin
  obtain ⟨id, hid⟩ : ∃ id : Nat, ac.id = (id : Int) := ⟨ac.id.toNat, by omega⟩
  have hidn : id < n := by omega
  have hidp : id < ps.length := by rw [unhide HLN]; exact hidn
  obtain ⟨gb, go, hga, hgc⟩ := (unhide OW).trIn.gone.at (j := id) (u := .bool (ps[id].isNone)) (by rw [List.getElem?_map, List.getElem?_map, List.getElem?_eq_getElem hidp]; rfl)
  subst hga
  obtain rfl : go = 0 := by
    rcases (unhide OW).own.go.2 with ⟨e, _⟩ | ⟨g, cap, cur, e, _⟩
    · injection e with e; cases e
    · injection e with e; injection e with e; injection e
  rw [Nat.zero_add] at hgc
  rw [hid] at d1 HIN
  have STB := hide (show stepT ps idx ac = match getP ps (id : Int) with | none => ⟨ps, idx, 0, 12⟩ | some p => fT ps idx ac.kind id p by
    rw [unhide STA]
    unfold atT
    rw [if_neg (by rw [unhide HLN]; exact hr), hid, Int.toNat_natCast]
    cases getP ps (id : Int) <;> rfl)
  have HACI := hide hid
  rw [hid] at HW
  clear STA hid
  cases hps : ps[id] with
  | none =>
    rw [hps] at hgc
    replace hgc : W.cell? ⟨gb, id, none⟩ = some (.bool true) := hgc
    have hno : stepT ps idx ac = ⟨ps, idx, 0, 12⟩ := by
      rw [unhide STB, getP_nat, List.getElem?_eq_getElem hidp, hps]
      rfl
    have HNO := hide hno
    clear hno
    rw [unhide HACI]
    rcases h36 with hkd | hkd | hkd | hkd
    · have hc3 : (ac.kind == 3) = true := by rw [hkd]; rfl
      have hc4 : (ac.kind == 4) = false := by rw [hkd]; rfl
      have hc5 : (ac.kind == 5) = false := by rw [hkd]; rfl
      have hc6 : (ac.kind == 6) = false := by rw [hkd]; rfl
      clear hkd
      go_enter Tryz.func28, Tryz.ntmps28
      go_upto_region 1 with fail
      rw [← unhide HW]
      clear HW
      go_wp2_with fail
      refine (unhide HIN).mono ?_
      rintro e u0 ⟨rfl, hu0⟩
      subst u0
      clear HIN
      have RES := hide (show SpRes (stepT ps idx ac) w (.returned (.tuple #[.agg #[.slice a1 n c1, .slice (some ⟨gb, 0, none⟩) n c2, .slice a3 m c3], .int .i64 0, .int .i64 12])) (((W.setCell ⟨w.heap.size + 1 + 1, 0, none⟩ (.slice a1 n c1)).setCell ⟨w.heap.size + 1 + 1, 1, none⟩ (.slice (some ⟨gb, 0, none⟩) n c2)).setCell ⟨w.heap.size + 1 + 1, 2, none⟩ (.slice a3 m c3)) by
        rw [unhide HNO]
        exact SpRes.no (r := ⟨ps, idx, 0, 12⟩) (show (12 : Int) ≠ 0 by decide) ((((unhide B0).setCell (p := ⟨w.heap.size + 1 + 1, 0, none⟩) (by show w.heap.size ≤ w.heap.size + 1 + 1; omega) _).setCell (p := ⟨w.heap.size + 1 + 1, 1, none⟩) (by show w.heap.size ≤ w.heap.size + 1 + 1; omega) _).setCell (p := ⟨w.heap.size + 1 + 1, 2, none⟩) (by show w.heap.size ≤ w.heap.size + 1 + 1; omega) _))
      go_wp2_with fail
      refine bodyPost_ret (v := .tuple #[.agg #[.slice a1 n c1, .slice (some ⟨gb, 0, none⟩) n c2, .slice a3 m c3], .int .i64 0, .int .i64 12]) (by simp [results, Tryz.results28, go_sem, *]) rfl ?_
      exact unhide RES
    · have hc3 : (ac.kind == 3) = false := by rw [hkd]; rfl
      have hc4 : (ac.kind == 4) = true := by rw [hkd]; rfl
      have hc5 : (ac.kind == 5) = false := by rw [hkd]; rfl
      have hc6 : (ac.kind == 6) = false := by rw [hkd]; rfl
      clear hkd
      go_enter Tryz.func28, Tryz.ntmps28
      go_upto_region 1 with fail
      rw [← unhide HW]
      clear HW
      go_wp2_with fail
      refine (unhide HIN).mono ?_
      rintro e u0 ⟨rfl, hu0⟩
      subst u0
      clear HIN
      have RES := hide (show SpRes (stepT ps idx ac) w (.returned (.tuple #[.agg #[.slice a1 n c1, .slice (some ⟨gb, 0, none⟩) n c2, .slice a3 m c3], .int .i64 0, .int .i64 12])) (((W.setCell ⟨w.heap.size + 1 + 1, 0, none⟩ (.slice a1 n c1)).setCell ⟨w.heap.size + 1 + 1, 1, none⟩ (.slice (some ⟨gb, 0, none⟩) n c2)).setCell ⟨w.heap.size + 1 + 1, 2, none⟩ (.slice a3 m c3)) by
        rw [unhide HNO]
        exact SpRes.no (r := ⟨ps, idx, 0, 12⟩) (show (12 : Int) ≠ 0 by decide) ((((unhide B0).setCell (p := ⟨w.heap.size + 1 + 1, 0, none⟩) (by show w.heap.size ≤ w.heap.size + 1 + 1; omega) _).setCell (p := ⟨w.heap.size + 1 + 1, 1, none⟩) (by show w.heap.size ≤ w.heap.size + 1 + 1; omega) _).setCell (p := ⟨w.heap.size + 1 + 1, 2, none⟩) (by show w.heap.size ≤ w.heap.size + 1 + 1; omega) _))
      go_wp2_with fail
      refine bodyPost_ret (v := .tuple #[.agg #[.slice a1 n c1, .slice (some ⟨gb, 0, none⟩) n c2, .slice a3 m c3], .int .i64 0, .int .i64 12]) (by simp [results, Tryz.results28, go_sem, *]) rfl ?_
      exact unhide RES
    · have hc3 : (ac.kind == 3) = false := by rw [hkd]; rfl
      have hc4 : (ac.kind == 4) = false := by rw [hkd]; rfl
      have hc5 : (ac.kind == 5) = true := by rw [hkd]; rfl
      have hc6 : (ac.kind == 6) = false := by rw [hkd]; rfl
      clear hkd
      go_enter Tryz.func28, Tryz.ntmps28
      go_upto_region 1 with fail
      rw [← unhide HW]
      clear HW
      go_wp2_with fail
      refine (unhide HIN).mono ?_
      rintro e u0 ⟨rfl, hu0⟩
      subst u0
      clear HIN
      have RES := hide (show SpRes (stepT ps idx ac) w (.returned (.tuple #[.agg #[.slice a1 n c1, .slice (some ⟨gb, 0, none⟩) n c2, .slice a3 m c3], .int .i64 0, .int .i64 12])) (((W.setCell ⟨w.heap.size + 1 + 1, 0, none⟩ (.slice a1 n c1)).setCell ⟨w.heap.size + 1 + 1, 1, none⟩ (.slice (some ⟨gb, 0, none⟩) n c2)).setCell ⟨w.heap.size + 1 + 1, 2, none⟩ (.slice a3 m c3)) by
        rw [unhide HNO]
        exact SpRes.no (r := ⟨ps, idx, 0, 12⟩) (show (12 : Int) ≠ 0 by decide) ((((unhide B0).setCell (p := ⟨w.heap.size + 1 + 1, 0, none⟩) (by show w.heap.size ≤ w.heap.size + 1 + 1; omega) _).setCell (p := ⟨w.heap.size + 1 + 1, 1, none⟩) (by show w.heap.size ≤ w.heap.size + 1 + 1; omega) _).setCell (p := ⟨w.heap.size + 1 + 1, 2, none⟩) (by show w.heap.size ≤ w.heap.size + 1 + 1; omega) _))
      go_wp2_with fail
      refine bodyPost_ret (v := .tuple #[.agg #[.slice a1 n c1, .slice (some ⟨gb, 0, none⟩) n c2, .slice a3 m c3], .int .i64 0, .int .i64 12]) (by simp [results, Tryz.results28, go_sem, *]) rfl ?_
      exact unhide RES
    · have hc3 : (ac.kind == 3) = false := by rw [hkd]; rfl
      have hc4 : (ac.kind == 4) = false := by rw [hkd]; rfl
      have hc5 : (ac.kind == 5) = false := by rw [hkd]; rfl
      have hc6 : (ac.kind == 6) = true := by rw [hkd]; rfl
      clear hkd
      go_enter Tryz.func28, Tryz.ntmps28
      go_upto_region 1 with fail
      rw [← unhide HW]
      clear HW
      go_wp2_with fail
      refine (unhide HIN).mono ?_
      rintro e u0 ⟨rfl, hu0⟩
      subst u0
      clear HIN
      have RES := hide (show SpRes (stepT ps idx ac) w (.returned (.tuple #[.agg #[.slice a1 n c1, .slice (some ⟨gb, 0, none⟩) n c2, .slice a3 m c3], .int .i64 0, .int .i64 12])) (((W.setCell ⟨w.heap.size + 1 + 1, 0, none⟩ (.slice a1 n c1)).setCell ⟨w.heap.size + 1 + 1, 1, none⟩ (.slice (some ⟨gb, 0, none⟩) n c2)).setCell ⟨w.heap.size + 1 + 1, 2, none⟩ (.slice a3 m c3)) by
        rw [unhide HNO]
        exact SpRes.no (r := ⟨ps, idx, 0, 12⟩) (show (12 : Int) ≠ 0 by decide) ((((unhide B0).setCell (p := ⟨w.heap.size + 1 + 1, 0, none⟩) (by show w.heap.size ≤ w.heap.size + 1 + 1; omega) _).setCell (p := ⟨w.heap.size + 1 + 1, 1, none⟩) (by show w.heap.size ≤ w.heap.size + 1 + 1; omega) _).setCell (p := ⟨w.heap.size + 1 + 1, 2, none⟩) (by show w.heap.size ≤ w.heap.size + 1 + 1; omega) _))
      go_wp2_with fail
      refine bodyPost_ret (v := .tuple #[.agg #[.slice a1 n c1, .slice (some ⟨gb, 0, none⟩) n c2, .slice a3 m c3], .int .i64 0, .int .i64 12]) (by simp [results, Tryz.results28, go_sem, *]) rfl ?_
      exact unhide RES
  | some p =>
    rw [hps] at hgc
    replace hgc : W.cell? ⟨gb, id, none⟩ = some (.bool false) := hgc
    have hgp : getP ps (id : Int) = some p := by rw [getP_nat, List.getElem?_eq_getElem hidp, hps]; rfl
    have STD := hide (show stepT ps idx ac = fT ps idx ac.kind id p by rw [unhide STB, hgp])
    rw [unhide HACI]
    rcases h36 with hkd | hkd | hkd | hkd
    · have HN3 := hide (show stepT ps idx ac = conT ps idx id p by rw [unhide STD, hkd]; rfl)
      have hc3 : (ac.kind == 3) = true := by rw [hkd]; rfl
      have hc4 : (ac.kind == 4) = false := by rw [hkd]; rfl
      have hc5 : (ac.kind == 5) = false := by rw [hkd]; rfl
      have hc6 : (ac.kind == 6) = false := by rw [hkd]; rfl
      clear hkd
      have hokp := (unhide HTh).ok _ p hgp
      obtain ⟨b, x, ha, -, hxX, P⟩ := (unhide OW).at hidp
      rw [hps] at hxX
      replace hxX : x.X = p := hxX
      subst hxX
      subst ha
      have hn0 : x.s0.n ≤ 32 := by rw [← P.es.1]; exact (ok_parts hokp).2.1
      have hn1' : x.s1.n ≤ 12 := by rw [← P.ds.1]; exact (ok_parts hokp).2.2.1
      have HCN := hide (fun (u : World) (hu : Below W.heap.size W u) => l04Consolidate_any x.X.lo x.X.hi x.X.r x.s0.a x.s0.n x.s0.c x.X.es x.s1.a x.s1.n x.s1.c x.X.ds u (P.es.below hu) (P.ds.below hu) (by omega) (by omega) P.ce)
      unfold pgv at HCN
      have HON := hide (l05Own_any B (some ⟨b, 0, none⟩) c1 (some ⟨gb, 0, none⟩) c2 a3 c3 n m hs ps idx W (unhide OW) (unhide HTh))
      obtain ⟨C, hC⟩ : ∃ C, C = conPg x.X := ⟨_, rfl⟩
      have CF := hide (show C.lo = x.X.lo ∧ C.hi = hiP x.X ∧ C.r = riP x.X ∧ C.es = enP x.X ∧ C.ds = [] by rw [hC]; exact ⟨rfl, rfl, rfl, rfl, rfl⟩)
      rw [show highE x.X.hi x.X.ds = C.hi from (unhide CF).2.1.symm, show rightE x.X.r x.X.ds = C.r from (unhide CF).2.2.1.symm, show entsE x.X.es x.X.ds = C.es from (unhide CF).2.2.2.1.symm] at HCN
      have STF := hide (show stepT ps idx ac = ⟨ps.set id (some C), idx, (x.s1.n : Int), 0⟩ by
        rw [unhide HN3, hC, ← P.ds.1]
        rfl)
      have q0 := P.c0
      have q1 := P.c1
      have q2 := P.c2
      have q3 := P.c3
      have q4 := P.c4
      have hbW : b < W.heap.size := cell_lt q0
      have hidi : (id : Int) < (n : Int) := by omega
      have HGP := hide hgp
      clear P hC HN3 STD STB hgp hps hokp
      obtain ⟨X, ⟨sa, sn, sc⟩, ⟨da, dn, dc⟩⟩ := x
      simp only at q0 q1 q2 q3 q4 hn0 hn1' HCN CF STF
      go_enter Tryz.func28, Tryz.ntmps28
      go_upto_region 1 with fail
      rw [← unhide HW]
      clear HW
      go_wp2_with fail
      refine (unhide HIN).mono ?_
      rintro e u0 ⟨rfl, hu0⟩
      subst u0
      clear HIN
      go_wp2_with fail
      refine (unhide HON).mono ?_
      rintro e u1 ⟨b1, k1', b2, k2', b3, k3', hs7, rfl, O7, hb7⟩
      have bT := (Below.refl u1.heap.size u1).alloc (Nat.le_refl _) (.cells #[.slice b1 n k1', .slice b2 n k2', .slice b3 m k3'] 29)
      have kT := heap_alloc_new u1 (.cells #[.slice b1 n k1', .slice b2 n k2', .slice b3 m k3'] 29)
      have O8 := O7.below bT
      have NB := hide (show ∀ g, NBl (.slice b1 n k1') (hs7.map ppEl) g → W.heap.size ≤ g ∧ g < u1.heap.size + 1 from fun g hg => by have := O8.own.pg.lt g hg; simp at this; omega)
      have S5 := hide (O8.tg kT)
      have DAT := hide O7.dat
      have LNS := hide (show ps.length = n ∧ idx.length = m from ⟨O7.ln, O7.li⟩)
      have HL7 := hide O7.hl
      have B5 := hide (hb7.trans (bT.mono hb7.size))
      have htb : W.heap.size ≤ u1.heap.size := hb7.size
      have hz5 : (u1.alloc (.cells #[.slice b1 n k1', .slice b2 n k2', .slice b3 m k3'] 29)).heap.size = u1.heap.size + 1 := by simp
      have HZ5 := hide hz5
      clear O7 O8 hb7 bT kT HON hz5
      go_upto_region 24 with fail
      generalize u1.alloc (.cells #[.slice b1 n k1', .slice b2 n k2', .slice b3 m k3'] 29) = u5 at *
      generalize u1.heap.size = tb at *
      obtain ⟨gp, gc, hb1', hBg, hgt⟩ := (unhide S5).page_block (by rw [unhide HL7]; omega)
      injection hb1' with e1' e2' e3'
      clear e2'
      subst e1' e3'
      have hsz5 : W.heap.size ≤ u5.heap.size := (unhide B5).size
      have SK := hide (show ∀ u : World, (∀ i, i < W.heap.size → u.heap[i]? = W.heap[i]?) → u.heap[tb]? = some (.cells #[.slice (some ⟨gp, 0, none⟩) n k1', .slice b2 n k2', .slice b3 m k3'] 29 (0, 0)) → (u.cell? ⟨tb, 0, none⟩ = some (.slice (some ⟨gp, 0, none⟩) n k1') ∧ u.cell? ⟨tb, 1, none⟩ = some (.slice b2 n k2') ∧ u.cell? ⟨tb, 2, none⟩ = some (.slice b3 m k3') ∧ u.cell? ⟨w.heap.size + 1, 1, none⟩ = some (.int .i64 (id : Int)) ∧ u.cell? ⟨w.heap.size, 0, none⟩ = some (.slice (some ⟨b, 0, none⟩) n c1) ∧ u.cell? ⟨b, id * 5, none⟩ = some (.string X.lo) ∧ u.cell? ⟨b, id * 5 + 1, none⟩ = some (.string X.hi) ∧ u.cell? ⟨b, id * 5 + 2, none⟩ = some (.int .i64 X.r) ∧ u.cell? ⟨b, id * 5 + 3, none⟩ = some (.slice sa sn sc) ∧ u.cell? ⟨b, id * 5 + 4, none⟩ = some (.slice da dn dc)) from fun u h1 h2 => ⟨(heap_at h2 0).1, (heap_at h2 1).1, (heap_at h2 2).1, (World.cell?_of_block (a := ⟨w.heap.size + 1, 1, none⟩) (h1 _ hz2)).trans d1, (World.cell?_of_block (a := ⟨w.heap.size, 0, none⟩) (h1 _ hz1)).trans e0, (World.cell?_of_block (a := ⟨b, id * 5, none⟩) (h1 _ hbW)).trans q0, (World.cell?_of_block (a := ⟨b, id * 5 + 1, none⟩) (h1 _ hbW)).trans q1, (World.cell?_of_block (a := ⟨b, id * 5 + 2, none⟩) (h1 _ hbW)).trans q2, (World.cell?_of_block (a := ⟨b, id * 5 + 3, none⟩) (h1 _ hbW)).trans q3, (World.cell?_of_block (a := ⟨b, id * 5 + 4, none⟩) (h1 _ hbW)).trans q4⟩)
      have BX5 := hide (unhide S5).box
      have SB := hide (show ∀ u, Below u5.heap.size u5 u → (u.cell? ⟨tb, 0, none⟩ = some (.slice (some ⟨gp, 0, none⟩) n k1') ∧ u.cell? ⟨tb, 1, none⟩ = some (.slice b2 n k2') ∧ u.cell? ⟨tb, 2, none⟩ = some (.slice b3 m k3') ∧ u.cell? ⟨w.heap.size + 1, 1, none⟩ = some (.int .i64 (id : Int)) ∧ u.cell? ⟨w.heap.size, 0, none⟩ = some (.slice (some ⟨b, 0, none⟩) n c1) ∧ u.cell? ⟨b, id * 5, none⟩ = some (.string X.lo) ∧ u.cell? ⟨b, id * 5 + 1, none⟩ = some (.string X.hi) ∧ u.cell? ⟨b, id * 5 + 2, none⟩ = some (.int .i64 X.r) ∧ u.cell? ⟨b, id * 5 + 3, none⟩ = some (.slice sa sn sc) ∧ u.cell? ⟨b, id * 5 + 4, none⟩ = some (.slice da dn dc)) from fun u hu => unhide SK u (fun i hi => (hu.block i (Nat.lt_of_lt_of_le hi hsz5)).trans ((unhide B5).block i hi)) ((hu.block tb (blk_lt (unhide BX5))).trans (unhide BX5)))
      have hk7 : id < hs7.length := by rw [unhide HL7]; exact hidn
      have K3h := K3
      clear q0 q1 q2 q3 q4 e0 e1 e2 d0 d1 d2 d3 r0 r1 r2 g0 g1 g2 hgc
      refine wp_region_held_drew (S := (fun u => (u.cell? ⟨tb, 0, none⟩ = some (.slice (some ⟨gp, 0, none⟩) n k1') ∧ u.cell? ⟨tb, 1, none⟩ = some (.slice b2 n k2') ∧ u.cell? ⟨tb, 2, none⟩ = some (.slice b3 m k3') ∧ u.cell? ⟨w.heap.size + 1, 1, none⟩ = some (.int .i64 (id : Int)) ∧ u.cell? ⟨w.heap.size, 0, none⟩ = some (.slice (some ⟨b, 0, none⟩) n c1) ∧ u.cell? ⟨b, id * 5, none⟩ = some (.string X.lo) ∧ u.cell? ⟨b, id * 5 + 1, none⟩ = some (.string X.hi) ∧ u.cell? ⟨b, id * 5 + 2, none⟩ = some (.int .i64 X.r) ∧ u.cell? ⟨b, id * 5 + 3, none⟩ = some (.slice sa sn sc) ∧ u.cell? ⟨b, id * 5 + 4, none⟩ = some (.slice da dn dc)))) (by kernel_rfl) (unhide SB _ ((Below.refl _ _).drew)) (fun hHeld => ?_)
      have Ds := hide (show Below u5.heap.size u5 u5.drew from (Below.refl _ _).drew)
      generalize u5.drew = us at *
      refine anyH_take 0 89 (v := ?v12) rfl rfl (by kernel_rfl) (by kernel_rfl) (by kernel_rfl) (fun _ _ _ h => h) (by rfl) ?h12 hHeld ?r12
      case h12 => (intro w hSw; (try dsimp only at hSw); go_simp; try (with_reducible rfl))
      simp only [Act.put, List.setIfInBounds_toArray, List.set_cons_zero, List.set_cons_succ]
      refine anyH_take 1 90 (v := ?v13) rfl rfl (by kernel_rfl) (by kernel_rfl) (by kernel_rfl) (fun _ _ _ h => h) (by rfl) ?h13 hHeld ?r13
      case h13 => (intro w hSw; (try dsimp only at hSw); go_simp; try (with_reducible rfl))
      simp only [Act.put, List.setIfInBounds_toArray, List.set_cons_zero, List.set_cons_succ]
      refine anyH_take 2 91 (v := ?v14) rfl rfl (by kernel_rfl) (by kernel_rfl) (by kernel_rfl) (fun _ _ _ h => h) (by rfl) ?h14 hHeld ?r14
      case h14 => (intro w hSw; (try dsimp only at hSw); go_simp; try (with_reducible rfl))
      simp only [Act.put, List.setIfInBounds_toArray, List.set_cons_zero, List.set_cons_succ]
      refine anyH_take 3 92 (v := ?v15) rfl rfl (by kernel_rfl) (by kernel_rfl) (by kernel_rfl) (fun _ _ _ h => h) (by rfl) ?h15 hHeld ?r15
      case h15 => (intro w hSw; (try dsimp only at hSw); go_simp; try (with_reducible rfl))
      simp only [Act.put, List.setIfInBounds_toArray, List.set_cons_zero, List.set_cons_succ]
      refine anyH_take 4 93 (v := ?v16) rfl rfl (by kernel_rfl) (by kernel_rfl) (by kernel_rfl) (fun _ _ _ h => h) (by rfl) ?h16 hHeld ?r16
      case h16 => (intro w hSw; (try dsimp only at hSw); go_simp; try (with_reducible rfl))
      simp only [Act.put, List.setIfInBounds_toArray, List.set_cons_zero, List.set_cons_succ]
      refine anyH_take 5 94 (v := ?v17) rfl rfl (by kernel_rfl) (by kernel_rfl) (by kernel_rfl) (fun _ _ _ h => h) (by rfl) ?h17 hHeld ?r17
      case h17 => (intro w hSw; (try dsimp only at hSw); go_simp; try (with_reducible rfl))
      simp only [Act.put, List.setIfInBounds_toArray, List.set_cons_zero, List.set_cons_succ]
      refine anyH_take 6 95 (v := ?v18) rfl rfl (by kernel_rfl) (by kernel_rfl) (by kernel_rfl) (fun _ _ _ h => h) (by rfl) ?h18 hHeld ?r18
      case h18 => (intro w hSw; (try dsimp only at hSw); go_simp; try (with_reducible rfl))
      simp only [Act.put, List.setIfInBounds_toArray, List.set_cons_zero, List.set_cons_succ]
      refine anyH_take 7 96 (v := ?v19) rfl rfl (by kernel_rfl) (by kernel_rfl) (by kernel_rfl) (fun _ _ _ h => h) (by rfl) ?h19 hHeld ?r19
      case h19 => (intro w hSw; (try dsimp only at hSw); go_simp; try (with_reducible rfl))
      simp only [Act.put, List.setIfInBounds_toArray, List.set_cons_zero, List.set_cons_succ]
      refine anyH_take 8 97 (v := ?v20) rfl rfl (by kernel_rfl) (by kernel_rfl) (by kernel_rfl) (fun _ _ _ h => h) (by rfl) ?h20 hHeld ?r20
      case h20 => (intro w hSw; (try dsimp only at hSw); go_simp; try (with_reducible rfl))
      simp only [Act.put, List.setIfInBounds_toArray, List.set_cons_zero, List.set_cons_succ]
      refine anyH_take 9 98 (v := ?v21) rfl rfl (by kernel_rfl) (by kernel_rfl) (by kernel_rfl) (fun _ _ _ h => h) (by rfl) ?h21 hHeld ?r21
      case h21 => (intro w hSw; (try dsimp only at hSw); go_simp; try (with_reducible rfl))
      simp only [Act.put, List.setIfInBounds_toArray, List.set_cons_zero, List.set_cons_succ]
      refine wpAnyH_ready (rs := [10]) (by kernel_rfl) (by simp) ?_
      refine AllReadyH.cons rfl (fun K hK => ?_) AllReadyH.nil
      go_simp
      refine (unhide HCN us ((unhide B5).trans ((unhide Ds).mono hsz5))).mono ?_
      rintro e u7 ⟨aK, nK, kK, rfl, hOK, hb⟩
      have D7 := hide ((unhide Ds).trans (hb.mono (unhide Ds).size))
      have S7 := (unhide S5).below (unhide D7)
      have hoC : u7.ownsRow W.heap.size 41 2 (.slice aK nK kK) C.es.length (ecs C.es) := gd_base hOK (Nat.le_trans hsz5 (unhide Ds).size)
      obtain ⟨g2, gc2, hvp, hcel, hfz, S16, W16, -, -⟩ := S7.put hk7 (⟨⟨X.lo, C.hi, C.r, C.es, []⟩, ⟨aK, nK, kK⟩, ⟨none, 0, 0⟩⟩ : PpH) hoC (World.ownsRow_nil _ _ _ _) (fun g hg hn => by
        have h1 := unhide NB g hn
        have h2 := (hOK.lt g hg).1
        have h4 := (unhide Ds).size
        have h5 := unhide HZ5
        omega) (fun g hg => by cases hg)
      injection hvp with e1 e2 e3
      clear e2 e3
      injection e1 with e1
      injection e1 with e1 _ _
      subst e1
      have x0 := hcel 0 (by decide)
      have x1 := hcel 1 (by decide)
      have x2 := hcel 2 (by decide)
      have x3 := hcel 3 (by decide)
      have x4 := hcel 4 (by decide)
      have y0 := hfz (id * 5 + 0)
      have y1 := hfz (id * 5 + 1)
      have y2 := hfz (id * 5 + 2)
      have y3 := hfz (id * 5 + 3)
      have y4 := hfz (id * 5 + 4)
      unfold pcs at x0 x1 x2 x3 x4 S16 W16
      simp only [List.getElem_cons_zero, List.getElem_cons_succ, Nat.add_zero] at x0 x1 x2 x3 x4 y0
      unfold setAll setAll setAll setAll setAll setAll at S16 W16
      simp only at S16 W16
      have B16 := hide (((unhide B5).trans ((unhide D7).mono hsz5)).trans (WrB.below W16 (fun i e => by rw [e]; exact hBg) (Nat.le_trans hsz5 (unhide D7).size)))
      have E16 := hide (unhide SK _ (fun i hi => (unhide B16).block i hi) S16.box)
      have S16h := hide S16
      clear hOK hb S7 hoC hcel hfz S16 W16
      refine hK.out _ _ (unhide SB _ (unhide D7)) (fun hHeld => ?_)
      clear hK K
      refine anyH_take 11 100 (v := ?v22) rfl rfl (by kernel_rfl) (by kernel_rfl) (by kernel_rfl) (fun _ _ _ h => h) (by rfl) ?h22 hHeld ?r22
      case h22 => (intro w hSw; (try dsimp only at hSw); go_simp; try (with_reducible rfl))
      simp only [Act.put, List.setIfInBounds_toArray, List.set_cons_zero, List.set_cons_succ]
      refine wpAnyH_ready (rs := [12]) (by kernel_rfl) (by simp) ?_
      refine AllReadyH.cons rfl (fun K hK => ?_) AllReadyH.nil
      go_simp
      refine hK.out _ _ (unhide E16) (fun hHeld => ?_)
      clear hK K
      refine wpAnyH_done (by kernel_rfl) ?_ _
      clear x0 x1 x2 x3 x4 y0 y1 y2 y3 y4
      generalize ((((u7.setCell ⟨gp, id * 5, none⟩ (.string X.lo)).setCell ⟨gp, id * 5 + 1, none⟩ (.string C.hi)).setCell ⟨gp, id * 5 + 1 + 1, none⟩ (.int .i64 C.r)).setCell ⟨gp, id * 5 + 1 + 1 + 1, none⟩ (.slice aK nK kK)).setCell ⟨gp, id * 5 + 1 + 1 + 1 + 1, none⟩ (.slice none 0 0) = u16 at *
      have kr9 := ((unhide B16).block (w.heap.size + 1 + 1) hz3).trans (unhide K3h)
      have r0 := (heap_at kr9 0).1
      have r1 := (heap_at kr9 1).1
      have r2 := (heap_at kr9 2).1
      have g0 := (heap_at kr9 0).2
      have g1 := (heap_at kr9 1).2
      have g2 := (heap_at kr9 2).2
      have BB := (unhide B0).trans ((unhide B16).mono (unhide B0).size)
      have RS := hide (show TsOwn u16 W.heap.size (some ⟨gp, 0, none⟩) k1' b2 k2' b3 k3' n m _ (ps.set id (some C)) idx from (unhide S16h).ts (none_set (unhide HGP)) (dat_set (unhide DAT) id _ (some C) (by obtain ⟨h1, _, _, _, h5⟩ := unhide CF; show (⟨X.lo, C.hi, C.r, C.es, []⟩ : PageD) = C; rw [← h1, ← h5])) (by rw [List.length_set]; exact (unhide LNS).1) (unhide LNS).2)
      have RES := hide (show SpRes (stepT ps idx ac) w (.returned (.tuple #[.agg #[.slice (some ⟨gp, 0, none⟩) n k1', .slice b2 n k2', .slice b3 m k3'], .int .i64 (dn : Int), .int .i64 0])) (((u16.drew.setCell ⟨w.heap.size + 1 + 1, 0, none⟩ (.slice (some ⟨gp, 0, none⟩) n k1')).setCell ⟨w.heap.size + 1 + 1, 1, none⟩ (.slice b2 n k2')).setCell ⟨w.heap.size + 1 + 1, 2, none⟩ (.slice b3 m k3')) by
        rw [unhide STF]
        exact ⟨_, _, _, _, _, _, _, _, _, _, rfl, fun _ => ⟨rfl, (((((unhide RS).below ((Below.refl _ _).drew)).set hz3 0 _).set hz3 1 _).set hz3 2 _).dn (Nat.le_of_lt hz1)⟩, ((BB.drew.setCell (p := ⟨w.heap.size + 1 + 1, 0, none⟩) (by show w.heap.size ≤ w.heap.size + 1 + 1; omega) _).setCell (p := ⟨w.heap.size + 1 + 1, 1, none⟩) (by show w.heap.size ≤ w.heap.size + 1 + 1; omega) _).setCell (p := ⟨w.heap.size + 1 + 1, 2, none⟩) (by show w.heap.size ≤ w.heap.size + 1 + 1; omega) _⟩)
      have SKF := hide (show ((((u16.setCell ⟨w.heap.size + 1 + 1, 0, none⟩ (.slice (some ⟨gp, 0, none⟩) n k1')).setCell ⟨w.heap.size + 1 + 1, 1, none⟩ (.slice b2 n k2')).setCell ⟨w.heap.size + 1 + 1, 2, none⟩ (.slice b3 m k3')).cell? ⟨tb, 0, none⟩ = some (.slice (some ⟨gp, 0, none⟩) n k1') ∧ (((u16.setCell ⟨w.heap.size + 1 + 1, 0, none⟩ (.slice (some ⟨gp, 0, none⟩) n k1')).setCell ⟨w.heap.size + 1 + 1, 1, none⟩ (.slice b2 n k2')).setCell ⟨w.heap.size + 1 + 1, 2, none⟩ (.slice b3 m k3')).cell? ⟨tb, 1, none⟩ = some (.slice b2 n k2') ∧ (((u16.setCell ⟨w.heap.size + 1 + 1, 0, none⟩ (.slice (some ⟨gp, 0, none⟩) n k1')).setCell ⟨w.heap.size + 1 + 1, 1, none⟩ (.slice b2 n k2')).setCell ⟨w.heap.size + 1 + 1, 2, none⟩ (.slice b3 m k3')).cell? ⟨tb, 2, none⟩ = some (.slice b3 m k3') ∧ (((u16.setCell ⟨w.heap.size + 1 + 1, 0, none⟩ (.slice (some ⟨gp, 0, none⟩) n k1')).setCell ⟨w.heap.size + 1 + 1, 1, none⟩ (.slice b2 n k2')).setCell ⟨w.heap.size + 1 + 1, 2, none⟩ (.slice b3 m k3')).cell? ⟨w.heap.size + 1, 1, none⟩ = some (.int .i64 (id : Int)) ∧ (((u16.setCell ⟨w.heap.size + 1 + 1, 0, none⟩ (.slice (some ⟨gp, 0, none⟩) n k1')).setCell ⟨w.heap.size + 1 + 1, 1, none⟩ (.slice b2 n k2')).setCell ⟨w.heap.size + 1 + 1, 2, none⟩ (.slice b3 m k3')).cell? ⟨w.heap.size, 0, none⟩ = some (.slice (some ⟨b, 0, none⟩) n c1) ∧ (((u16.setCell ⟨w.heap.size + 1 + 1, 0, none⟩ (.slice (some ⟨gp, 0, none⟩) n k1')).setCell ⟨w.heap.size + 1 + 1, 1, none⟩ (.slice b2 n k2')).setCell ⟨w.heap.size + 1 + 1, 2, none⟩ (.slice b3 m k3')).cell? ⟨b, id * 5, none⟩ = some (.string X.lo) ∧ (((u16.setCell ⟨w.heap.size + 1 + 1, 0, none⟩ (.slice (some ⟨gp, 0, none⟩) n k1')).setCell ⟨w.heap.size + 1 + 1, 1, none⟩ (.slice b2 n k2')).setCell ⟨w.heap.size + 1 + 1, 2, none⟩ (.slice b3 m k3')).cell? ⟨b, id * 5 + 1, none⟩ = some (.string X.hi) ∧ (((u16.setCell ⟨w.heap.size + 1 + 1, 0, none⟩ (.slice (some ⟨gp, 0, none⟩) n k1')).setCell ⟨w.heap.size + 1 + 1, 1, none⟩ (.slice b2 n k2')).setCell ⟨w.heap.size + 1 + 1, 2, none⟩ (.slice b3 m k3')).cell? ⟨b, id * 5 + 2, none⟩ = some (.int .i64 X.r) ∧ (((u16.setCell ⟨w.heap.size + 1 + 1, 0, none⟩ (.slice (some ⟨gp, 0, none⟩) n k1')).setCell ⟨w.heap.size + 1 + 1, 1, none⟩ (.slice b2 n k2')).setCell ⟨w.heap.size + 1 + 1, 2, none⟩ (.slice b3 m k3')).cell? ⟨b, id * 5 + 3, none⟩ = some (.slice sa sn sc) ∧ (((u16.setCell ⟨w.heap.size + 1 + 1, 0, none⟩ (.slice (some ⟨gp, 0, none⟩) n k1')).setCell ⟨w.heap.size + 1 + 1, 1, none⟩ (.slice b2 n k2')).setCell ⟨w.heap.size + 1 + 1, 2, none⟩ (.slice b3 m k3')).cell? ⟨b, id * 5 + 4, none⟩ = some (.slice da dn dc)) from by
        have hW2 : WrB (fun i => i = w.heap.size + 1 + 1) u16 (((u16.setCell ⟨w.heap.size + 1 + 1, 0, none⟩ (.slice (some ⟨gp, 0, none⟩) n k1')).setCell ⟨w.heap.size + 1 + 1, 1, none⟩ (.slice b2 n k2')).setCell ⟨w.heap.size + 1 + 1, 2, none⟩ (.slice b3 m k3')) := (set1_wr _ _ 0 _).seq ((set1_wr _ _ 1 _).seq (set1_wr _ _ 2 _))
        obtain ⟨s0, s1, s2, s3, s4, s5, s6, s7, s8, s9⟩ := unhide E16
        have kb : ∀ (a : Addr) (v : Value), u16.cell? a = some v → a.block ≠ w.heap.size + 1 + 1 → (((u16.setCell ⟨w.heap.size + 1 + 1, 0, none⟩ (.slice (some ⟨gp, 0, none⟩) n k1')).setCell ⟨w.heap.size + 1 + 1, 1, none⟩ (.slice b2 n k2')).setCell ⟨w.heap.size + 1 + 1, 2, none⟩ (.slice b3 m k3')).cell? a = some v := fun a v h hn => (World.cell?_of_block (a := a) (hW2.block a.block (cell_lt h) hn)).trans h
        have hb2 : b ≠ w.heap.size + 1 + 1 := fun e => by
          have h1 := (unhide K3h)
          rw [← e] at h1
          exact own_box (unhide OW).own.pg.row h1 (by decide) rfl
        have ht2 : tb ≠ w.heap.size + 1 + 1 := by omega
        exact ⟨kb _ _ s0 ht2, kb _ _ s1 ht2, kb _ _ s2 ht2, kb _ _ s3 (by simp), kb _ _ s4 (by simp; omega), kb _ _ s5 hb2, kb _ _ s6 hb2, kb _ _ s7 hb2, kb _ _ s8 hb2, kb _ _ s9 hb2⟩)
      clear kr9 BB RS SB SK S16h
      go_upto_region 25 with fail
      refine wp_region_held_drew (S := (fun u => (u.cell? ⟨tb, 0, none⟩ = some (.slice (some ⟨gp, 0, none⟩) n k1') ∧ u.cell? ⟨tb, 1, none⟩ = some (.slice b2 n k2') ∧ u.cell? ⟨tb, 2, none⟩ = some (.slice b3 m k3') ∧ u.cell? ⟨w.heap.size + 1, 1, none⟩ = some (.int .i64 (id : Int)) ∧ u.cell? ⟨w.heap.size, 0, none⟩ = some (.slice (some ⟨b, 0, none⟩) n c1) ∧ u.cell? ⟨b, id * 5, none⟩ = some (.string X.lo) ∧ u.cell? ⟨b, id * 5 + 1, none⟩ = some (.string X.hi) ∧ u.cell? ⟨b, id * 5 + 2, none⟩ = some (.int .i64 X.r) ∧ u.cell? ⟨b, id * 5 + 3, none⟩ = some (.slice sa sn sc) ∧ u.cell? ⟨b, id * 5 + 4, none⟩ = some (.slice da dn dc)))) (by kernel_rfl) (unhide E16) (fun hHeld => ?_)
      refine anyH_take 0 101 (v := ?v1) rfl rfl (by kernel_rfl) (by kernel_rfl) (by kernel_rfl) (fun _ _ _ h => h) (by rfl) ?h1 hHeld ?r1
      case h1 => (intro w hSw; (try dsimp only at hSw); go_simp; try (with_reducible rfl))
      simp only [Act.put, List.setIfInBounds_toArray, List.set_cons_zero, List.set_cons_succ]
      refine anyH_take 1 102 (v := ?v2) rfl rfl (by kernel_rfl) (by kernel_rfl) (by kernel_rfl) (fun _ _ _ h => h) (by rfl) ?h2 hHeld ?r2
      case h2 => (intro w hSw; (try dsimp only at hSw); go_simp; try (with_reducible rfl))
      simp only [Act.put, List.setIfInBounds_toArray, List.set_cons_zero, List.set_cons_succ]
      refine anyH_take 2 103 (v := ?v3) rfl rfl (by kernel_rfl) (by kernel_rfl) (by kernel_rfl) (fun _ _ _ h => h) (by rfl) ?h3 hHeld ?r3
      case h3 => (intro w hSw; (try dsimp only at hSw); go_simp; try (with_reducible rfl))
      simp only [Act.put, List.setIfInBounds_toArray, List.set_cons_zero, List.set_cons_succ]
      refine anyH_take 3 104 (v := ?v4) rfl rfl (by kernel_rfl) (by kernel_rfl) (by kernel_rfl) (fun _ _ _ h => h) (by rfl) ?h4 hHeld ?r4
      case h4 => (intro w hSw; (try dsimp only at hSw); go_simp; try (with_reducible rfl))
      simp only [Act.put, List.setIfInBounds_toArray, List.set_cons_zero, List.set_cons_succ]
      refine anyH_take 4 105 (v := ?v5) rfl rfl (by kernel_rfl) (by kernel_rfl) (by kernel_rfl) (fun _ _ _ h => h) (by rfl) ?h5 hHeld ?r5
      case h5 => (intro w hSw; (try dsimp only at hSw); go_simp; try (with_reducible rfl))
      simp only [Act.put, List.setIfInBounds_toArray, List.set_cons_zero, List.set_cons_succ]
      refine anyH_take 5 106 (v := ?v6) rfl rfl (by kernel_rfl) (by kernel_rfl) (by kernel_rfl) (fun _ _ _ h => h) (by rfl) ?h6 hHeld ?r6
      case h6 => (intro w hSw; (try dsimp only at hSw); go_simp; try (with_reducible rfl))
      simp only [Act.put, List.setIfInBounds_toArray, List.set_cons_zero, List.set_cons_succ]
      refine anyH_take 6 107 (v := ?v7) rfl rfl (by kernel_rfl) (by kernel_rfl) (by kernel_rfl) (fun _ _ _ h => h) (by rfl) ?h7 hHeld ?r7
      case h7 => (intro w hSw; (try dsimp only at hSw); go_simp; try (with_reducible rfl))
      simp only [Act.put, List.setIfInBounds_toArray, List.set_cons_zero, List.set_cons_succ]
      refine anyH_take 7 108 (v := ?v8) rfl rfl (by kernel_rfl) (by kernel_rfl) (by kernel_rfl) (fun _ _ _ h => h) (by rfl) ?h8 hHeld ?r8
      case h8 => (intro w hSw; (try dsimp only at hSw); go_simp; try (with_reducible rfl))
      simp only [Act.put, List.setIfInBounds_toArray, List.set_cons_zero, List.set_cons_succ]
      refine anyH_take 8 109 (v := ?v9) rfl rfl (by kernel_rfl) (by kernel_rfl) (by kernel_rfl) (fun _ _ _ h => h) (by rfl) ?h9 hHeld ?r9
      case h9 => (intro w hSw; (try dsimp only at hSw); go_simp; try (with_reducible rfl))
      simp only [Act.put, List.setIfInBounds_toArray, List.set_cons_zero, List.set_cons_succ]
      refine wpAnyH_ready (rs := [9]) (by kernel_rfl) (by simp) ?_
      refine AllReadyH.cons rfl (fun K hK => ?_) AllReadyH.nil
      have SKG := hide (show ((((u16.drew.setCell ⟨w.heap.size + 1 + 1, 0, none⟩ (.slice (some ⟨gp, 0, none⟩) n k1')).setCell ⟨w.heap.size + 1 + 1, 1, none⟩ (.slice b2 n k2')).setCell ⟨w.heap.size + 1 + 1, 2, none⟩ (.slice b3 m k3')).cell? ⟨tb, 0, none⟩ = some (.slice (some ⟨gp, 0, none⟩) n k1') ∧ (((u16.drew.setCell ⟨w.heap.size + 1 + 1, 0, none⟩ (.slice (some ⟨gp, 0, none⟩) n k1')).setCell ⟨w.heap.size + 1 + 1, 1, none⟩ (.slice b2 n k2')).setCell ⟨w.heap.size + 1 + 1, 2, none⟩ (.slice b3 m k3')).cell? ⟨tb, 1, none⟩ = some (.slice b2 n k2') ∧ (((u16.drew.setCell ⟨w.heap.size + 1 + 1, 0, none⟩ (.slice (some ⟨gp, 0, none⟩) n k1')).setCell ⟨w.heap.size + 1 + 1, 1, none⟩ (.slice b2 n k2')).setCell ⟨w.heap.size + 1 + 1, 2, none⟩ (.slice b3 m k3')).cell? ⟨tb, 2, none⟩ = some (.slice b3 m k3') ∧ (((u16.drew.setCell ⟨w.heap.size + 1 + 1, 0, none⟩ (.slice (some ⟨gp, 0, none⟩) n k1')).setCell ⟨w.heap.size + 1 + 1, 1, none⟩ (.slice b2 n k2')).setCell ⟨w.heap.size + 1 + 1, 2, none⟩ (.slice b3 m k3')).cell? ⟨w.heap.size + 1, 1, none⟩ = some (.int .i64 (id : Int)) ∧ (((u16.drew.setCell ⟨w.heap.size + 1 + 1, 0, none⟩ (.slice (some ⟨gp, 0, none⟩) n k1')).setCell ⟨w.heap.size + 1 + 1, 1, none⟩ (.slice b2 n k2')).setCell ⟨w.heap.size + 1 + 1, 2, none⟩ (.slice b3 m k3')).cell? ⟨w.heap.size, 0, none⟩ = some (.slice (some ⟨b, 0, none⟩) n c1) ∧ (((u16.drew.setCell ⟨w.heap.size + 1 + 1, 0, none⟩ (.slice (some ⟨gp, 0, none⟩) n k1')).setCell ⟨w.heap.size + 1 + 1, 1, none⟩ (.slice b2 n k2')).setCell ⟨w.heap.size + 1 + 1, 2, none⟩ (.slice b3 m k3')).cell? ⟨b, id * 5, none⟩ = some (.string X.lo) ∧ (((u16.drew.setCell ⟨w.heap.size + 1 + 1, 0, none⟩ (.slice (some ⟨gp, 0, none⟩) n k1')).setCell ⟨w.heap.size + 1 + 1, 1, none⟩ (.slice b2 n k2')).setCell ⟨w.heap.size + 1 + 1, 2, none⟩ (.slice b3 m k3')).cell? ⟨b, id * 5 + 1, none⟩ = some (.string X.hi) ∧ (((u16.drew.setCell ⟨w.heap.size + 1 + 1, 0, none⟩ (.slice (some ⟨gp, 0, none⟩) n k1')).setCell ⟨w.heap.size + 1 + 1, 1, none⟩ (.slice b2 n k2')).setCell ⟨w.heap.size + 1 + 1, 2, none⟩ (.slice b3 m k3')).cell? ⟨b, id * 5 + 2, none⟩ = some (.int .i64 X.r) ∧ (((u16.drew.setCell ⟨w.heap.size + 1 + 1, 0, none⟩ (.slice (some ⟨gp, 0, none⟩) n k1')).setCell ⟨w.heap.size + 1 + 1, 1, none⟩ (.slice b2 n k2')).setCell ⟨w.heap.size + 1 + 1, 2, none⟩ (.slice b3 m k3')).cell? ⟨b, id * 5 + 3, none⟩ = some (.slice sa sn sc) ∧ (((u16.drew.setCell ⟨w.heap.size + 1 + 1, 0, none⟩ (.slice (some ⟨gp, 0, none⟩) n k1')).setCell ⟨w.heap.size + 1 + 1, 1, none⟩ (.slice b2 n k2')).setCell ⟨w.heap.size + 1 + 1, 2, none⟩ (.slice b3 m k3')).cell? ⟨b, id * 5 + 4, none⟩ = some (.slice da dn dc)) from unhide SKF)
      have r0x := r0
      go_simp
      refine hK.out _ _ (unhide SKG) (fun hHeld => ?_)
      clear hK K
      refine anyH_take 10 5 (v := ?v10) rfl rfl (by kernel_rfl) (by kernel_rfl) (by kernel_rfl) (fun _ _ _ h => h) (by rfl) ?h10 hHeld ?r10
      case h10 => (intro w hSw; (try dsimp only at hSw); go_simp; try (with_reducible rfl))
      simp only [Act.put, List.setIfInBounds_toArray, List.set_cons_zero, List.set_cons_succ]
      refine anyH_take 11 6 (v := ?v11) rfl rfl (by kernel_rfl) (by kernel_rfl) (by kernel_rfl) (fun _ _ _ h => h) (by rfl) ?h11 hHeld ?r11
      case h11 => (intro w hSw; (try dsimp only at hSw); go_simp; try (with_reducible rfl))
      simp only [Act.put, List.setIfInBounds_toArray, List.set_cons_zero, List.set_cons_succ]
      refine wpAnyH_done (by kernel_rfl) ?_ _
      go_wp2_with fail
      refine bodyPost_ret (v := .tuple #[.agg #[.slice (some ⟨gp, 0, none⟩) n k1', .slice b2 n k2', .slice b3 m k3'], .int .i64 (dn : Int), .int .i64 0]) (by simp [results, Tryz.results28, go_sem, *]) rfl ?_
      exact unhide RES
    · have HC := hide (l05Split_any B a1 c1 (some ⟨gb, 0, none⟩) c2 a3 c3 n m hs ps idx id p W (unhide OW) (unhide HTh) hgp)
      rw [show splT ps idx id p = stepT ps idx ac by rw [unhide STD, hkd]; rfl] at HC
      have hc3 : (ac.kind == 3) = false := by rw [hkd]; rfl
      have hc4 : (ac.kind == 4) = true := by rw [hkd]; rfl
      have hc5 : (ac.kind == 5) = false := by rw [hkd]; rfl
      have hc6 : (ac.kind == 6) = false := by rw [hkd]; rfl
      clear hkd
      go_enter Tryz.func28, Tryz.ntmps28
      go_upto_region 1 with fail
      rw [← unhide HW]
      clear HW
      go_wp2_with fail
      refine (unhide HIN).mono ?_
      rintro e u0 ⟨rfl, hu0⟩
      subst u0
      clear HIN
      go_wp2_with fail
      refine (unhide HC).mono ?_
      intro e u1 hS
      obtain ⟨b1, n', k1, b2, k2, b3, m', k3, told, rfl, hb1, hR⟩ := hS.ret (rb := w.heap.size + 1 + 1) (unhide B0) hz3 (by omega)
      have RES := hide hR
      have kr := (hb1.block (w.heap.size + 1 + 1) hz3).trans (unhide K3)
      clear r0 r1 r2 g0 g1 g2 hR hb1 hS
      have r0 := (heap_at kr 0).1
      have r1 := (heap_at kr 1).1
      have r2 := (heap_at kr 2).1
      have g0 := (heap_at kr 0).2
      have g1 := (heap_at kr 1).2
      have g2 := (heap_at kr 2).2
      clear kr
      go_wp2_with fail
      refine bodyPost_ret (v := .tuple #[.agg #[.slice b1 n' k1, .slice b2 n' k2, .slice b3 m' k3], .int .i64 told, .int .i64 (stepT ps idx ac).code]) (by simp [results, Tryz.results28, go_sem, *]) rfl ?_
      exact unhide RES
    · have HC := hide (l05Post_any B a1 c1 (some ⟨gb, 0, none⟩) c2 a3 c3 n m hs ps idx id p W (unhide OW) (unhide HTh) hgp)
      rw [show posT ps idx id p = stepT ps idx ac by rw [unhide STD, hkd]; rfl] at HC
      have hc3 : (ac.kind == 3) = false := by rw [hkd]; rfl
      have hc4 : (ac.kind == 4) = false := by rw [hkd]; rfl
      have hc5 : (ac.kind == 5) = true := by rw [hkd]; rfl
      have hc6 : (ac.kind == 6) = false := by rw [hkd]; rfl
      clear hkd
      go_enter Tryz.func28, Tryz.ntmps28
      go_upto_region 1 with fail
      rw [← unhide HW]
      clear HW
      go_wp2_with fail
      refine (unhide HIN).mono ?_
      rintro e u0 ⟨rfl, hu0⟩
      subst u0
      clear HIN
      go_wp2_with fail
      refine (unhide HC).mono ?_
      intro e u1 hS
      obtain ⟨b1, n', k1, b2, k2, b3, m', k3, told, rfl, hb1, hR⟩ := hS.ret (rb := w.heap.size + 1 + 1) (unhide B0) hz3 (by omega)
      have RES := hide hR
      have kr := (hb1.block (w.heap.size + 1 + 1) hz3).trans (unhide K3)
      clear r0 r1 r2 g0 g1 g2 hR hb1 hS
      have r0 := (heap_at kr 0).1
      have r1 := (heap_at kr 1).1
      have r2 := (heap_at kr 2).1
      have g0 := (heap_at kr 0).2
      have g1 := (heap_at kr 1).2
      have g2 := (heap_at kr 2).2
      clear kr
      go_wp2_with fail
      refine bodyPost_ret (v := .tuple #[.agg #[.slice b1 n' k1, .slice b2 n' k2, .slice b3 m' k3], .int .i64 told, .int .i64 (stepT ps idx ac).code]) (by simp [results, Tryz.results28, go_sem, *]) rfl ?_
      exact unhide RES
    · have HC := hide (l05Merge_any B a1 c1 (some ⟨gb, 0, none⟩) c2 a3 c3 n m hs ps idx id p W (unhide OW) (unhide HTh) hgp)
      rw [show merT ps idx id p = stepT ps idx ac by rw [unhide STD, hkd]; rfl] at HC
      have hc3 : (ac.kind == 3) = false := by rw [hkd]; rfl
      have hc4 : (ac.kind == 4) = false := by rw [hkd]; rfl
      have hc5 : (ac.kind == 5) = false := by rw [hkd]; rfl
      have hc6 : (ac.kind == 6) = true := by rw [hkd]; rfl
      clear hkd
      go_enter Tryz.func28, Tryz.ntmps28
      go_upto_region 1 with fail
      rw [← unhide HW]
      clear HW
      go_wp2_with fail
      refine (unhide HIN).mono ?_
      rintro e u0 ⟨rfl, hu0⟩
      subst u0
      clear HIN
      go_wp2_with fail
      refine (unhide HC).mono ?_
      intro e u1 hS
      obtain ⟨b1, n', k1, b2, k2, b3, m', k3, told, rfl, hb1, hR⟩ := hS.ret (rb := w.heap.size + 1 + 1) (unhide B0) hz3 (by omega)
      have RES := hide hR
      have kr := (hb1.block (w.heap.size + 1 + 1) hz3).trans (unhide K3)
      clear r0 r1 r2 g0 g1 g2 hR hb1 hS
      have r0 := (heap_at kr 0).1
      have r1 := (heap_at kr 1).1
      have r2 := (heap_at kr 2).1
      have g0 := (heap_at kr 0).2
      have g1 := (heap_at kr 1).2
      have g2 := (heap_at kr 2).2
      clear kr
      go_wp2_with fail
      refine bodyPost_ret (v := .tuple #[.agg #[.slice b1 n' k1, .slice b2 n' k2, .slice b3 m' k3], .int .i64 told, .int .i64 (stepT ps idx ac).code]) (by simp [results, Tryz.results28, go_sem, *]) rfl ?_
      exact unhide RES
end Go.Proofs.YtbhkmmdcdfjbkaaGreat

namespace Go.Proofs.YtbhkmmdcdfjbkaaGreat
open Go.RowKit

theorem TsOwn.keepT {w w' : World} {B : Nat} {a1 a2 a3 : Option Addr} {c1 c2 c3 n m : Nat} {hs : List PpH} {ps : List (Option PageD)} {idx : List RefD} (h : TsOwn w B a1 c1 a2 c2 a3 c3 n m hs ps idx) {nb : Nat} {cs : Array Value} (hb : w.heap[nb]? = some (.cells cs 29 (0, 0))) (hw : WrB (fun i => i = nb) w w') : TsOwn w' B a1 c1 a2 c2 a3 c3 n m hs ps idx :=
  ⟨⟨h.own.pg.keep hw (fun i hi e => by subst e; exact nbl_tree h.own.pg hb (by decide) (by decide) (by decide) hi), own_keep h.own.go hb (by decide) hw, own_keep h.own.ix hb (by decide) hw⟩, h.dat, h.ln, h.li⟩
theorem TsOwn.ints {w w' : World} {B : Nat} {a1 a2 a3 : Option Addr} {c1 c2 c3 n m : Nat} {hs : List PpH} {ps : List (Option PageD)} {idx : List RefD} (h : TsOwn w B a1 c1 a2 c2 a3 c3 n m hs ps idx) {C s q : Nat} {v : Value} {cs : List Value} (hv : w.ownsRow C 3 s v q cs) (hw : WrB (fun i => v.ownBlock = some i) w w') : TsOwn w' B a1 c1 a2 c2 a3 c3 n m hs ps idx :=
  ⟨⟨h.own.pg.keep hw (fun _ hi e => nbl_other h.own.pg hv (by decide) (by decide) (by decide) e hi), rr_owns_wr h.own.go hw (fun _ hi => own_other h.own.go hv (by decide) hi), rr_owns_wr h.own.ix hw (fun _ hi => own_other h.own.ix hv (by decide) hi)⟩, h.dat, h.ln, h.li⟩
theorem own_one {w : World} {B T S g : Nat} {cs : List Value} (hh : w.heap[g]? = some (.cells cs.toArray T (0, 0))) (hB : B ≤ g) (hl : cs.length = S) : w.ownsRow B T S (.slice (some ⟨g, 0, none⟩) 1 1) 1 cs :=
  ⟨by rw [hl, Nat.one_mul], .inr ⟨g, 1, cs.toArray, rfl, hB, hh, Nat.le_refl _, by unfold maxLen; omega, by simp [hl], by simp [← hl]⟩⟩
/-- A new tree, as the specification lays it. -/
theorem new_own {w : World} {B p g i : Nat} (h : T1 w p g i ⟨#[]⟩ ⟨#[]⟩ (-1) false ⟨#[]⟩ 0) (hp : B ≤ p) (hg : B ≤ g) (hi : B ≤ i) : TsOwn w B (some ⟨p, 0, none⟩) 1 (some ⟨g, 0, none⟩) 1 (some ⟨i, 0, none⟩) 1 1 1 [newH] newT [⟨⟨#[]⟩, 0⟩] := by
  have sb : ∀ k a x, sbAt ([newH].map ppEl) k a = some x → x.v = .slice none 0 0 ∧ x.n = 0 ∧ x.cs = [] := fun k a x hx => by
    unfold sbAt at hx
    match k, hx with
    | 0, hx =>
      match a, hx with
      | 0, hx => injection hx with hx; subst hx; exact ⟨rfl, rfl, rfl⟩
      | 1, hx => injection hx with hx; subst hx; exact ⟨rfl, rfl, rfl⟩
      | a + 2, hx => cases hx
    | k + 1, hx => cases hx
  refine ⟨⟨⟨?_, rfl, fun e he => ?_, fun k a x hx => ?_, fun k l a b x y hx hy _ g h1 => ?_, fun k a x hx g _ h1 => ?_⟩, ?_, ?_⟩, rfl, rfl, rfl⟩
  · exact own_one (cs := [.string ⟨#[]⟩, .string ⟨#[]⟩, .int .i64 (-1), .slice none 0 0, .slice none 0 0]) h.pg hp rfl
  · rw [List.mem_singleton.1 he]; rfl
  · obtain ⟨e1, e2, e3⟩ := sb k a x hx
    rw [e1, e2, e3]
    exact World.ownsRow_nil _ _ _ _
  · rw [(sb k a x hx).1] at h1; cases h1
  · rw [(sb k a x hx).1] at h1; cases h1
  · exact own_one (cs := [.bool false]) h.gn hg rfl
  · exact own_one (cs := [.string ⟨#[]⟩, .int .i64 0]) h.ix hi rfl
theorem atT_same {ps : List (Option PageD)} {idx : List RefD} {id : Int} {f : Nat → PageD → StR} (hf : ∀ k p, (f k p).code ≠ 0 → (f k p).ps = ps ∧ (f k p).idx = idx) (h : (atT ps idx id f).code ≠ 0) : (atT ps idx id f).ps = ps ∧ (atT ps idx id f).idx = idx := by
  unfold atT at h ⊢
  split
  · exact ⟨rfl, rfl⟩
  · rename_i hn
    rw [if_neg hn] at h
    split
    · exact ⟨rfl, rfl⟩
    · rename_i p hp
      rw [hp] at h
      exact hf _ _ h
/-- A step with a code changes nothing. -/
theorem stepT_same {ps : List (Option PageD)} {idx : List RefD} {a : AcT} (h : (stepT ps idx a).code ≠ 0) : (stepT ps idx a).ps = ps ∧ (stepT ps idx a).idx = idx := by
  unfold stepT at h ⊢
  split
  · rename_i hk
    rw [if_pos hk] at h
    unfold chgT at h ⊢
    split
    · exact ⟨rfl, rfl⟩
    · rename_i h1
      rw [if_neg h1] at h
      split
      · exact ⟨rfl, rfl⟩
      · rename_i p hp
        rw [hp] at h
        simp only at h
        split
        · exact ⟨rfl, rfl⟩
        · rename_i h2
          rw [if_neg h2] at h
          exact absurd rfl h
  · rename_i h0
    rw [if_neg h0] at h
    split
    · rename_i h1
      rw [if_pos h1] at h
      exact atT_same (fun k p h => absurd rfl h) h
    · rename_i h1
      rw [if_neg h1] at h
      split
      · rename_i h2
        rw [if_pos h2] at h
        refine atT_same (fun k p h => ?_) h
        unfold splT at h ⊢
        split
        · exact ⟨rfl, rfl⟩
        · rename_i h3
          rw [if_neg h3] at h
          split
          · exact ⟨rfl, rfl⟩
          · rename_i h4
            rw [if_neg h4] at h
            exact absurd rfl h
      · rename_i h2
        rw [if_neg h2] at h
        split
        · rename_i h3
          rw [if_pos h3] at h
          refine atT_same (fun k p h => ?_) h
          unfold posT at h ⊢
          split
          · exact ⟨rfl, rfl⟩
          · rename_i h4
            rw [if_neg h4] at h
            exact absurd rfl h
        · rename_i h3
          rw [if_neg h3] at h
          split
          · rename_i h4
            rw [if_pos h4] at h
            refine atT_same (fun k p h => ?_) h
            unfold merT at h ⊢
            split
            · exact ⟨rfl, rfl⟩
            · rename_i h5
              rw [if_neg h5] at h
              split
              · exact ⟨rfl, rfl⟩
              · rename_i q hq
                rw [hq] at h
                simp only at h
                split
                · exact ⟨rfl, rfl⟩
                · rename_i h6
                  rw [if_neg h6] at h
                  exact absurd rfl h
          · exact ⟨rfl, rfl⟩
/-- A run under way. -/
structure RgSt (W v : World) (tb : Nat) (a1 : Option Addr) (c1 : Nat) (a2 : Option Addr) (c2 : Nat) (a3 : Option Addr) (c3 n m : Nat) (hs : List PpH) (ps : List (Option PageD)) (idx : List RefD) (cv : Value) (cs : List Int) : Prop where
  bel : Below W.heap.size W v
  own : TsOwn v W.heap.size a1 c1 a2 c2 a3 c3 n m hs ps idx
  box : v.heap[tb]? = some (.cells #[.slice a1 n c1, .slice a2 n c2, .slice a3 m c3] 29 (0, 0))
  cod : NOwns v W.heap.size cv cs
  tge : W.heap.size ≤ tb
theorem RgSt.below {W v v' : World} {tb : Nat} {a1 a2 a3 : Option Addr} {c1 c2 c3 n m : Nat} {hs : List PpH} {ps : List (Option PageD)} {idx : List RefD} {cv : Value} {cs : List Int} (h : RgSt W v tb a1 c1 a2 c2 a3 c3 n m hs ps idx cv cs) (hb : Below v.heap.size v v') : RgSt W v' tb a1 c1 a2 c2 a3 c3 n m hs ps idx cv cs :=
  ⟨h.bel.trans (hb.mono h.bel.size), h.own.below hb, (hb.block tb (blk_lt h.box)).trans h.box, nowns_below h.cod hb, h.tge⟩
/-- Another box of a tree is laid. -/
theorem RgSt.other {W v v' : World} {tb : Nat} {a1 a2 a3 : Option Addr} {c1 c2 c3 n m : Nat} {hs : List PpH} {ps : List (Option PageD)} {idx : List RefD} {cv : Value} {cs : List Int} (h : RgSt W v tb a1 c1 a2 c2 a3 c3 n m hs ps idx cv cs) {nb : Nat} {cb : Array Value} (hb : v.heap[nb]? = some (.cells cb 29 (0, 0))) (hw : WrB (fun i => i = nb) v v') (hne : tb ≠ nb) (hge : W.heap.size ≤ nb) : RgSt W v' tb a1 c1 a2 c2 a3 c3 n m hs ps idx cv cs :=
  ⟨h.bel.trans (WrB.below hw (fun i e => by rw [e]; exact hge) h.bel.size), h.own.keepT hb hw, (hw.block tb (blk_lt h.box) hne).trans h.box, own_keep h.cod hb (by decide) hw, h.tge⟩
/-- A code appended. -/
theorem RgSt.code {W v : World} {tb : Nat} {a1 a2 a3 : Option Addr} {c1 c2 c3 n m : Nat} {hs : List PpH} {ps : List (Option PageD)} {idx : List RefD} {cv : Value} {cs : List Int} (h : RgSt W v tb a1 c1 a2 c2 a3 c3 n m hs ps idx cv cs) (x : Int) (hz : cs.length ≤ 1000) :
    ∃ a4 n4 c4 w4, (Builtin.append_ #[30, 30] 30 #[cv, .slice (some ⟨v.heap.size, 0, none⟩) 1 1]).run Tryz.prog (v.alloc (.cells #[.int .i64 x] 3)) = .ok (.slice a4 n4 c4) w4 ∧ RgSt W w4 tb a1 c1 a2 c2 a3 c3 n m hs ps idx (.slice a4 n4 c4) (cs ++ [x]) := by
  obtain ⟨v4, w4, hr, ho, hg, _, _⟩ := n_app (x := x) h.cod (by omega) h.bel.size
  have bA := (Below.refl v.heap.size v).alloc (Nat.le_refl _) (.cells #[.int .i64 x] 3)
  have hA := h.below bA
  have hw := WrB.of_grown hg
  obtain ⟨a4, c4, rfl⟩ := us_sl ho
  exact ⟨a4, _, c4, w4, hr, hA.bel.trans (WrB.below hw (fun i hi => (hA.cod.lt i hi).1) hA.bel.size), hA.own.ints hA.cod hw, (hw.block tb (blk_lt hA.box) (own_box hA.cod hA.box (by decide))).trans hA.box, ho, hA.tge⟩
set_option maxRecDepth 100000 in
set_option maxHeartbeats 8000000 in
theorem specTreeRun_any (a : Option Addr) (N c : Nat) (acts : List AcT) (w : World) (hR : YRow w a N acts) (hn : N ≤ 1048576) :
    Calls Tryz.prog 7 #[.slice a N c] w fun e w' => RtRes acts w e w' := by
  have L := hide hR.1
  have ZT : w.heap.size < (w.alloc (.cells #[.slice none 0 0, .slice none 0 0, .slice none 0 0] 29)).heap.size := by simp
  have b0 : Below w.heap.size w (w.alloc (.cells #[.slice none 0 0, .slice none 0 0, .slice none 0 0] 29)) := (Below.refl _ _).alloc (Nat.le_refl _) _
  have K0 := heap_alloc_new w (.cells #[.slice none 0 0, .slice none 0 0, .slice none 0 0] 29)
  have LONG := hide (show 150 < N → ∀ cc : Int, rtC acts = cc → RtRes acts w (.returned (.tuple #[.agg #[.slice none 0 0, .slice none 0 0, .slice none 0 0], .slice (some ⟨w.heap.size + 1, 0, none⟩) 0 0, .int .i64 cc])) ((w.alloc (.cells #[.slice none 0 0, .slice none 0 0, .slice none 0 0] 29)).alloc (.cells #[] 3)) from fun h cc hc => by
    have hz : (w.alloc (.cells #[.slice none 0 0, .slice none 0 0, .slice none 0 0] 29)).heap.size = w.heap.size + 1 := by simp
    have h' : 150 < acts.length := by rw [unhide L]; exact h
    refine ⟨none, 0, 0, none, 0, 0, none, 0, 0, some ⟨w.heap.size + 1, 0, none⟩, 0, 0, [], [], [], by rw [hc], ⟨NOwn.flat (World.ownsRow_nil _ _ _ _) rfl (fun e he => by cases he) (fun e he => by cases he), World.ownsRow_nil _ _ _ _, World.ownsRow_nil _ _ _ _⟩, ?_, by unfold rtT; rw [if_pos h']; rfl, b0.alloc b0.size _⟩
    unfold rtN
    rw [if_pos h', ← hz]
    exact NOwns.lit b0.size)
  by_cases hl1 : 4096 < N
  · have hC : rtC acts = 2 := by unfold rtC; rw [if_pos (by rw [unhide L]; exact hl1)]
    have RES := hide (unhide LONG (by omega) 2 hC)
    clear hC
    go_enter Tryz.func7, Tryz.ntmps7
    go_wp2_with fail
    refine bodyPost_ret (v := .tuple #[.agg #[.slice none 0 0, .slice none 0 0, .slice none 0 0], .slice (some ⟨w.heap.size + 1, 0, none⟩) 0 0, .int .i64 2]) (by simp [results, Tryz.results7, go_sem]) rfl ?_
    exact unhide RES
  by_cases hl2 : 150 < N
  · have hC : rtC acts = 6 := by unfold rtC; rw [if_neg (by rw [unhide L]; exact hl1), if_pos (by rw [unhide L]; exact hl2)]
    have RES := hide (unhide LONG hl2 6 hC)
    clear hC
    go_enter Tryz.func7, Tryz.ntmps7
    go_wp2_with fail
    refine bodyPost_ret (v := .tuple #[.agg #[.slice none 0 0, .slice none 0 0, .slice none 0 0], .slice (some ⟨w.heap.size + 1, 0, none⟩) 0 0, .int .i64 6]) (by simp [results, Tryz.results7, go_sem]) rfl ?_
    exact unhide RES
  have RT := hide (show rtC acts = 0 ∧ rtN acts = (runS acts).codes ∧ rtT acts = ⟨(runS acts).ps.map pgD, (runS acts).ps.map (·.isNone), (runS acts).idx⟩ by
    have h1 : ¬ 4096 < acts.length := by rw [unhide L]; exact hl1
    have h2 : ¬ 150 < acts.length := by rw [unhide L]; exact hl2
    unfold rtC rtN rtT
    rw [if_neg h1, if_neg h2, if_neg h2, if_neg h2]
    exact ⟨rfl, rfl, rfl⟩)
  have R := hide hR
  have HN := hide (l05New_any (w.alloc (.cells #[.slice none 0 0, .slice none 0 0, .slice none 0 0] 29)))
  clear hR LONG
  go_enter Tryz.func7, Tryz.ntmps7
  go_wp2_with fail
  generalize w.alloc (.cells #[.slice none 0 0, .slice none 0 0, .slice none 0 0] 29) = W at *
  refine (unhide HN).mono ?_
  rintro e w1 ⟨p, g, i, rfl, hT1, ⟨hgp, hgg, hgi⟩, hb1⟩
  unfold tv
  have bT := (Below.refl w1.heap.size w1).alloc (Nat.le_refl _) (.cells #[.slice (some ⟨p, 0, none⟩) 1 1, .slice (some ⟨g, 0, none⟩) 1 1, .slice (some ⟨i, 0, none⟩) 1 1] 29)
  have kT := heap_alloc_new w1 (.cells #[.slice (some ⟨p, 0, none⟩) 1 1, .slice (some ⟨g, 0, none⟩) 1 1, .slice (some ⟨i, 0, none⟩) 1 1] 29)
  have O1 := (new_own hT1 hgp hgg hgi).below bT
  have B1 := hb1.trans (bT.mono hb1.size)
  have hz1 := hb1.size
  have BZ := hide b0
  have K0h := hide K0
  clear HN hT1 hb1 bT b0 K0
  go_upto_region 6 with fail
  generalize w1.alloc (.cells #[.slice (some ⟨p, 0, none⟩) 1 1, .slice (some ⟨g, 0, none⟩) 1 1, .slice (some ⟨i, 0, none⟩) 1 1] 29) = w2 at *
  generalize w1.heap.size = tb at *
  have bL := (Below.refl w2.heap.size w2).alloc (Nat.le_refl _) (.cells #[] 3)
  have S0 := hide (show RgSt W (w2.alloc (.cells #[] 3)) tb (some ⟨p, 0, none⟩) 1 (some ⟨g, 0, none⟩) 1 (some ⟨i, 0, none⟩) 1 1 1 [newH] (runS (acts.take 0)).ps (runS (acts.take 0)).idx (.slice (some ⟨w2.heap.size, 0, none⟩) 0 0) (runS (acts.take 0)).codes from ⟨B1.trans (bL.mono B1.size), O1.below bL, (bL.block tb (blk_lt kT)).trans kT, NOwns.lit B1.size, hz1⟩)
  clear bL O1 B1 kT
  go_wp2_with fail
  generalize w2.alloc (.cells #[] 3) = w3 at *
  generalize w2.heap.size = cb at *
  go_loopw [6, 7] (fun cv iv wr => ∃ (k : Nat) (a1 : Option Addr) (c1 : Nat) (a2 : Option Addr) (c2 : Nat) (a3 : Option Addr) (c3 n m : Nat) (hs : List PpH) (ac : Option Addr) (nc cc : Nat), k ≤ N ∧ cv = .slice ac nc cc ∧ iv = .int .i64 k ∧ Hid (RgSt W wr tb a1 c1 a2 c2 a3 c3 n m hs (runS (acts.take k)).ps (runS (acts.take k)).idx (.slice ac nc cc) (runS (acts.take k)).codes)) (fun _ iv _ => N - (intOf iv).toNat)
  case atStart => exact ⟨0, _, _, _, _, _, _, _, _, _, _, _, _, Nat.zero_le _, rfl, rfl, S0⟩
  case round =>
    clear S0
    obtain ⟨k, a1, c1, a2, c2, a3, c3, n, m, hs, ac, nc, cc, hk, rfl, rfl, hS⟩ := hrel
    obtain ⟨hT, hcl⟩ := runS_tre acts k (by rw [unhide L]; exact hk)
    have bR := (unhide BZ).trans ((unhide hS).bel.mono (unhide BZ).size)
    have t0 := (heap_at (unhide hS).box 0).1
    have t1 := (heap_at (unhide hS).box 1).1
    have t2 := (heap_at (unhide hS).box 2).1
    by_cases hlt : k < N
    case neg =>
      obtain rfl : k = N := by omega
      have ht : acts.take k = acts := List.take_of_length_le (by rw [unhide L]; exact Nat.le_refl _)
      rw [ht] at hS hT hcl
      have HON := hide (l05Own_any W.heap.size a1 c1 a2 c2 a3 c3 n m hs (runS acts).ps (runS acts).idx wr (unhide hS).own hT)
      have hwr := (unhide hS).bel.size
      clear ht
      go_wp2_with fail
      refine (unhide HON).mono ?_
      rintro e w5 ⟨b1, k1, b2, k2, b3, k3, hs7, rfl, O7, hb7⟩
      have K5 := (hb7.block w.heap.size (Nat.lt_of_lt_of_le ZT hwr)).trans (((unhide hS).bel.block w.heap.size ZT).trans (unhide K0h))
      have f0 := (heap_at K5 0).1
      have f1 := (heap_at K5 1).1
      have f2 := (heap_at K5 2).1
      have g0 := (heap_at K5 0).2
      have g1 := (heap_at K5 1).2
      have g2 := (heap_at K5 2).2
      have hw5 : w.heap.size < wr.heap.size := Nat.lt_of_lt_of_le ZT hwr
      have OT := ((O7.set hw5 0 (.slice b1 n k1)).set hw5 1 (.slice b2 n k2)).set hw5 2 (.slice b3 m k3)
      have N5 := nowns_below (unhide hS).cod hb7
      have N1 := gd_set (gd_set (gd_set N5 ZT 0 (.slice b1 n k1)) ZT 1 (.slice b2 n k2)) ZT 2 (.slice b3 m k3)
      have BB := ((((bR.trans (hb7.mono bR.size)).setCell (p := ⟨w.heap.size, 0, none⟩) (Nat.le_refl _) (.slice b1 n k1)).setCell (p := ⟨w.heap.size, 1, none⟩) (Nat.le_refl _) (.slice b2 n k2)).setCell (p := ⟨w.heap.size, 2, none⟩) (Nat.le_refl _) (.slice b3 m k3))
      have RES := hide (show RtRes acts w (.returned (.tuple #[.agg #[.slice b1 n k1, .slice b2 n k2, .slice b3 m k3], .slice ac nc cc, .int .i64 0])) _ from ⟨b1, n, k1, b2, n, k2, b3, m, k3, ac, nc, cc, hs7, (runS acts).ps.map (·.isNone), (runS acts).idx, by rw [(unhide RT).1], OT.own.dn (Nat.le_of_lt hw5), by rw [(unhide RT).2.1]; exact gd_base N1 (Nat.le_of_lt ZT), by
        rw [(unhide RT).2.2]
        unfold trd
        rw [OT.dat], BB⟩)
      clear K5 OT N5 N1 BB O7 hb7 hS hT hcl HON
      go_wp2_with fail
      refine bodyPost_ret (v := .tuple #[.agg #[.slice b1 n k1, .slice b2 n k2, .slice b3 m k3], .slice ac nc cc, .int .i64 0]) (by simp [results, Tryz.results7, go_sem, *]) rfl ?_
      exact unhide RES
    have hka : k < acts.length := by rw [unhide L]; exact hlt
    have hY := (unhide R).below bR
    obtain ⟨b, off, rfl, d0, d1, d2, d3⟩ := hY.2 k hka
    have hbW : b < W.heap.size := by
      obtain ⟨b2, off2, e, h0, -⟩ := (unhide R).2 k hka
      injection e with e
      injection e with e _ _
      rw [e]
      exact Nat.lt_of_lt_of_le (cell_lt h0) (unhide BZ).size
    have RK := hide (runS_take acts k hka)
    generalize acts[k] = ak at *
    have HS := hide (fun (u : World) (hu : Below wr.heap.size wr u) => l05Step_any W.heap.size a1 c1 a2 c2 a3 c3 n m hs (runS (acts.take k)).ps (runS (acts.take k)).idx ak u ((unhide hS).own.below hu) hT)
    have SM := hide (stepT_same (ps := (runS (acts.take k)).ps) (idx := (runS (acts.take k)).idx) (a := ak))
    obtain ⟨ST, hST⟩ : ∃ ST, ST = stepT (runS (acts.take k)).ps (runS (acts.take k)).idx ak := ⟨_, rfl⟩
    rw [← hST] at HS RK SM
    have hcl' : (runS (acts.take k)).codes.length ≤ 1000 := by omega
    have tbl := blk_lt (unhide hS).box
    have SK := hide (show ∀ u : World, Below W.heap.size wr u → u.heap[tb]? = wr.heap[tb]? → (u.cell? ⟨tb, 0, none⟩ = some (.slice a1 n c1) ∧ u.cell? ⟨tb, 1, none⟩ = some (.slice a2 n c2) ∧ u.cell? ⟨tb, 2, none⟩ = some (.slice a3 m c3) ∧ u.cell? ⟨b, off + k * 4, none⟩ = some (.int .i64 ak.kind) ∧ u.cell? ⟨b, off + k * 4 + 1, none⟩ = some (.int .i64 ak.id) ∧ u.cell? ⟨b, off + k * 4 + 2, none⟩ = some (.string ak.key) ∧ u.cell? ⟨b, off + k * 4 + 3, none⟩ = some (.string ak.val)) from fun u hu ht => ⟨(World.cell?_of_block (a := ⟨tb, 0, none⟩) ht).trans t0, (World.cell?_of_block (a := ⟨tb, 1, none⟩) ht).trans t1, (World.cell?_of_block (a := ⟨tb, 2, none⟩) ht).trans t2, (hu.cell (p := ⟨b, off + k * 4, none⟩) hbW).trans d0, (hu.cell (p := ⟨b, off + k * 4 + 1, none⟩) hbW).trans d1, (hu.cell (p := ⟨b, off + k * 4 + 2, none⟩) hbW).trans d2, (hu.cell (p := ⟨b, off + k * 4 + 3, none⟩) hbW).trans d3⟩)
    have hszr : W.heap.size ≤ wr.heap.size := (unhide hS).bel.size
    have SB := hide (show ∀ u, Below wr.heap.size wr u → (u.cell? ⟨tb, 0, none⟩ = some (.slice a1 n c1) ∧ u.cell? ⟨tb, 1, none⟩ = some (.slice a2 n c2) ∧ u.cell? ⟨tb, 2, none⟩ = some (.slice a3 m c3) ∧ u.cell? ⟨b, off + k * 4, none⟩ = some (.int .i64 ak.kind) ∧ u.cell? ⟨b, off + k * 4 + 1, none⟩ = some (.int .i64 ak.id) ∧ u.cell? ⟨b, off + k * 4 + 2, none⟩ = some (.string ak.key) ∧ u.cell? ⟨b, off + k * 4 + 3, none⟩ = some (.string ak.val)) from fun u hu => unhide SK u (hu.mono hszr) (hu.block tb tbl))
    clear hY hST hT hcl t0 t1 t2 bR
    obtain ⟨akk, aki, aky, akv⟩ := ak
    simp only at d0 d1 d2 d3 HS SK SB
    clear d0 d1 d2 d3
    go_upto_region 10 with fail
    refine wp_region_held_drew (S := (fun u => (u.cell? ⟨tb, 0, none⟩ = some (.slice a1 n c1) ∧ u.cell? ⟨tb, 1, none⟩ = some (.slice a2 n c2) ∧ u.cell? ⟨tb, 2, none⟩ = some (.slice a3 m c3) ∧ u.cell? ⟨b, off + k * 4, none⟩ = some (.int .i64 akk) ∧ u.cell? ⟨b, off + k * 4 + 1, none⟩ = some (.int .i64 aki) ∧ u.cell? ⟨b, off + k * 4 + 2, none⟩ = some (.string aky) ∧ u.cell? ⟨b, off + k * 4 + 3, none⟩ = some (.string akv)))) (by kernel_rfl) (unhide SB _ ((Below.refl _ _).drew)) (fun hHeld => ?_)
    have Ds := hide (show Below wr.heap.size wr wr.drew from (Below.refl _ _).drew)
    generalize wr.drew = us at *
    refine anyH_take 0 30 (v := ?v1) rfl rfl (by kernel_rfl) (by kernel_rfl) (by kernel_rfl) (fun _ _ _ h => h) (by rfl) ?h1 hHeld ?r1
    case h1 => (intro w hSw; (try dsimp only at hSw); go_simp; try (with_reducible rfl))
    simp only [Act.put, List.setIfInBounds_toArray, List.set_cons_zero, List.set_cons_succ]
    refine anyH_take 1 31 (v := ?v2) rfl rfl (by kernel_rfl) (by kernel_rfl) (by kernel_rfl) (fun _ _ _ h => h) (by rfl) ?h2 hHeld ?r2
    case h2 => (intro w hSw; (try dsimp only at hSw); go_simp; try (with_reducible rfl))
    simp only [Act.put, List.setIfInBounds_toArray, List.set_cons_zero, List.set_cons_succ]
    refine anyH_take 2 32 (v := ?v3) rfl rfl (by kernel_rfl) (by kernel_rfl) (by kernel_rfl) (fun _ _ _ h => h) (by rfl) ?h3 hHeld ?r3
    case h3 => (intro w hSw; (try dsimp only at hSw); go_simp; try (with_reducible rfl))
    simp only [Act.put, List.setIfInBounds_toArray, List.set_cons_zero, List.set_cons_succ]
    refine anyH_take 3 33 (v := ?v4) rfl rfl (by kernel_rfl) (by kernel_rfl) (by kernel_rfl) (fun _ _ _ h => h) (by rfl) ?h4 hHeld ?r4
    case h4 => (intro w hSw; (try dsimp only at hSw); go_simp; try (with_reducible rfl))
    simp only [Act.put, List.setIfInBounds_toArray, List.set_cons_zero, List.set_cons_succ]
    refine anyH_take 4 34 (v := ?v5) rfl rfl (by kernel_rfl) (by kernel_rfl) (by kernel_rfl) (fun _ _ _ h => h) (by rfl) ?h5 hHeld ?r5
    case h5 => (intro w hSw; (try dsimp only at hSw); go_simp; try (with_reducible rfl))
    simp only [Act.put, List.setIfInBounds_toArray, List.set_cons_zero, List.set_cons_succ]
    refine wpAnyH_ready (rs := [5, 10]) (by kernel_rfl) (by simp) ?_
    refine AllReadyH.cons rfl (fun K hK => ?_) (AllReadyH.cons rfl (fun K hK => ?_) AllReadyH.nil)
    · go_simp
      refine (unhide HS us (unhide Ds)).mono ?_
      rintro e u5 ⟨b1, n', k1, b2, k2, b3, m', k3, hs', told, rfl, hnew, hb⟩
      have D5 := hide ((unhide Ds).trans (hb.mono (unhide Ds).size))
      have NX0 := hide hnew
      have BS := hide (show tb < us.heap.size from Nat.lt_of_lt_of_le tbl (unhide Ds).size)
      have BW := hide (show W.heap.size ≤ us.heap.size from Nat.le_trans hszr (unhide Ds).size)
      generalize us.heap.size = bs at *
      clear hnew hb
      refine hK.out _ _ (unhide SB _ (unhide D5)) (fun hHeld => ?_)
      clear hK K
      refine anyH_take 6 29 (v := ?v6) rfl rfl (by kernel_rfl) (by kernel_rfl) (by kernel_rfl) (fun _ _ _ h => h) (by rfl) ?h6 hHeld ?r6
      case h6 => (intro w hSw; (try dsimp only at hSw); go_simp; try (with_reducible rfl))
      simp only [Act.put, List.setIfInBounds_toArray, List.set_cons_zero, List.set_cons_succ]
      refine anyH_take 7 36 (v := ?v7) rfl rfl (by kernel_rfl) (by kernel_rfl) (by kernel_rfl) (fun _ _ _ h => h) (by rfl) ?h7 hHeld ?r7
      case h7 => (intro w hSw; (try dsimp only at hSw); go_simp; try (with_reducible rfl))
      simp only [Act.put, List.setIfInBounds_toArray, List.set_cons_zero, List.set_cons_succ]
      refine anyH_take 8 37 (v := ?v8) rfl rfl (by kernel_rfl) (by kernel_rfl) (by kernel_rfl) (fun _ _ _ h => h) (by rfl) ?h8 hHeld ?r8
      case h8 => (intro w hSw; (try dsimp only at hSw); go_simp; try (with_reducible rfl))
      simp only [Act.put, List.setIfInBounds_toArray, List.set_cons_zero, List.set_cons_succ]
      refine anyH_take 9 38 (v := ?v9) rfl rfl (by kernel_rfl) (by kernel_rfl) (by kernel_rfl) (fun _ _ _ h => h) (by rfl) ?h9 hHeld ?r9
      case h9 => (intro w hSw; (try dsimp only at hSw); go_simp; try (with_reducible rfl))
      simp only [Act.put, List.setIfInBounds_toArray, List.set_cons_zero, List.set_cons_succ]
      refine wpAnyH_ready (rs := [10]) (by kernel_rfl) (by simp) ?_
      refine AllReadyH.cons rfl (fun K hK => ?_) AllReadyH.nil
      have D5_10 := hide ((unhide D5).alloc (unhide D5).size (.cells #[.slice none 0 0, .slice none 0 0, .slice none 0 0] 29))
      have KN := hide (heap_alloc_new u5 (.cells #[.slice none 0 0, .slice none 0 0, .slice none 0 0] 29))
      have NBG := hide (show wr.heap.size ≤ u5.heap.size from (unhide D5).size)
      have NX := hide (show ST.code = 0 → _ ∧ _ from fun h => ⟨(unhide NX0 h).1, (unhide NX0 h).2.below ((Below.refl u5.heap.size u5).alloc (Nat.le_refl _) (.cells #[.slice none 0 0, .slice none 0 0, .slice none 0 0] 29))⟩)
      clear NX0
      go_simp
      generalize u5.alloc (.cells #[.slice none 0 0, .slice none 0 0, .slice none 0 0] 29) = u5_10 at *
      generalize u5.heap.size = nb at *
      refine hK.out _ _ (unhide SB _ (unhide D5_10)) (fun hHeld => ?_)
      clear hK K
      refine wpAnyH_ready (rs := [11]) (by kernel_rfl) (by simp) ?_
      refine AllReadyH.cons rfl (fun K hK => ?_) AllReadyH.nil
      have S4 := (unhide hS).below (unhide D5_10)
      have hne : tb ≠ nb := by have := unhide NBG; omega
      have hW3 : WrB (fun i => i = nb) u5_10 (((u5_10.setCell ⟨nb, 0, none⟩ (.slice b1 n' k1)).setCell ⟨nb, 1, none⟩ (.slice b2 n' k2)).setCell ⟨nb, 2, none⟩ (.slice b3 m' k3)) := (set1_wr _ nb 0 _).seq ((set1_wr _ nb 1 _).seq (set1_wr _ nb 2 _))
      have hgnb : W.heap.size ≤ nb := Nat.le_trans hszr (unhide NBG)
      have S5 := hide (S4.other (unhide KN) hW3 hne hgnb)
      have K5 := hide (set3_hp (unhide KN) (.slice b1 n' k1) (.slice b2 n' k2) (.slice b3 m' k3))
      have N5 := hide (show ST.code = 0 → TsOwn (((u5_10.setCell ⟨nb, 0, none⟩ (.slice b1 n' k1)).setCell ⟨nb, 1, none⟩ (.slice b2 n' k2)).setCell ⟨nb, 2, none⟩ (.slice b3 m' k3)) bs b1 k1 b2 k2 b3 k3 n' m' hs' ST.ps ST.idx from fun h => (unhide NX h).2.keepT (unhide KN) hW3)
      have SF := hide (unhide SK (((u5_10.setCell ⟨nb, 0, none⟩ (.slice b1 n' k1)).setCell ⟨nb, 1, none⟩ (.slice b2 n' k2)).setCell ⟨nb, 2, none⟩ (.slice b3 m' k3)) ((((unhide D5_10).mono hszr)).trans (WrB.below hW3 (fun i e => by rw [e]; exact hgnb) (Nat.le_trans hszr (unhide D5_10).size))) ((hW3.block tb (Nat.lt_of_lt_of_le tbl (unhide D5_10).size) hne).trans ((unhide D5_10).block tb tbl)))
      have y0 := (heap_at (unhide KN) 0).1
      have y1 := (heap_at (unhide KN) 1).1
      have y2 := (heap_at (unhide KN) 2).1
      have x0 := (heap_at (unhide KN) 0).2
      have x1 := (heap_at (unhide KN) 1).2
      have x2 := (heap_at (unhide KN) 2).2
      clear S4 hW3
      go_simp
      refine hK.out _ _ (unhide SF) (fun hHeld => ?_)
      clear hK K
      refine anyH_take 12 9 (v := ?v10) rfl rfl (by kernel_rfl) (by kernel_rfl) (by kernel_rfl) (fun _ _ _ h => h) (by rfl) ?h10 hHeld ?r10
      case h10 => (intro w hSw; (try dsimp only at hSw); go_simp; try (with_reducible rfl))
      simp only [Act.put, List.setIfInBounds_toArray, List.set_cons_zero, List.set_cons_succ]
      refine anyH_take 13 10 (v := ?v11) rfl rfl (by kernel_rfl) (by kernel_rfl) (by kernel_rfl) (fun _ _ _ h => h) (by rfl) ?h11 hHeld ?r11
      case h11 => (intro w hSw; (try dsimp only at hSw); go_simp; try (with_reducible rfl))
      simp only [Act.put, List.setIfInBounds_toArray, List.set_cons_zero, List.set_cons_succ]
      refine wpAnyH_done (by kernel_rfl) ?_ _
      generalize (((u5_10.setCell ⟨nb, 0, none⟩ (.slice b1 n' k1)).setCell ⟨nb, 1, none⟩ (.slice b2 n' k2)).setCell ⟨nb, 2, none⟩ (.slice b3 m' k3)) = v5 at *
      clear y0 y1 y2 x0 x1 x2 SF NX KN
      by_cases hz : ST.code = 0
      · have N5' := unhide N5 hz
        have hW4 : WrB (fun i => i = tb) v5 (((v5.setCell ⟨tb, 0, none⟩ (.slice b1 n' k1)).setCell ⟨tb, 1, none⟩ (.slice b2 n' k2)).setCell ⟨tb, 2, none⟩ (.slice b3 m' k3)) := (set1_wr _ tb 0 _).seq ((set1_wr _ tb 1 _).seq (set1_wr _ tb 2 _))
        have hge := (unhide S5).tge
        have S6 := hide (show RgSt W (((v5.setCell ⟨tb, 0, none⟩ (.slice b1 n' k1)).setCell ⟨tb, 1, none⟩ (.slice b2 n' k2)).setCell ⟨tb, 2, none⟩ (.slice b3 m' k3)) tb b1 k1 b2 k2 b3 k3 n' m' hs' ST.ps ST.idx (.slice ac nc cc) (runS (acts.take k)).codes from ⟨(unhide S5).bel.trans (WrB.below hW4 (fun i e => by rw [e]; exact hge) (unhide S5).bel.size), (N5'.keepT (unhide S5).box hW4).dn (unhide BW), set3_hp (unhide S5).box _ _ _, own_keep (unhide S5).cod (unhide S5).box (by decide) hW4, hge⟩)
        have t0 := (heap_at (unhide S5).box 0).1
        have t1 := (heap_at (unhide S5).box 1).1
        have t2 := (heap_at (unhide S5).box 2).1
        have f0 := (heap_at (unhide S5).box 0).2
        have f1 := (heap_at (unhide S5).box 1).2
        have f2 := (heap_at (unhide S5).box 2).2
        have m0 := (heap_at (unhide K5) 0).1
        have m1 := (heap_at (unhide K5) 1).1
        have m2 := (heap_at (unhide K5) 2).1
        have hzb : (ST.code == 0) = true := by rw [hz]; rfl
        clear N5' hW4 hge hz
        go_upto_region 13 with fail
        clear t0 t1 t2 f0 f1 f2 m0 m1 m2
        generalize (((v5.setCell ⟨tb, 0, none⟩ (.slice b1 n' k1)).setCell ⟨tb, 1, none⟩ (.slice b2 n' k2)).setCell ⟨tb, 2, none⟩ (.slice b3 m' k3)) = v6 at *
        obtain ⟨a4, n4, c4, w4, hr, hS4⟩ := (unhide S6).code ST.code hcl'
        have S7 := hide (show RgSt W w4 tb b1 k1 b2 k2 b3 k3 n' m' hs' (runS (acts.take (k + 1))).ps (runS (acts.take (k + 1))).idx (.slice a4 n4 c4) (runS (acts.take (k + 1))).codes by
          rw [unhide RK]
          exact hS4)
        clear hS4
        go_wp2_with (at_builtin; refine wpAppE rfl _ _ 30 rfl _ _ (.slice a4 n4 c4) w4 rfl rfl hr ?_)
        go_roundw
        case rel => exact ⟨k + 1, _, _, _, _, _, _, _, _, _, a4, n4, c4, by omega, rfl, by go_num, S7⟩
        case measure => simp [intOf]; omega
      · obtain ⟨hm1, hm2⟩ := unhide SM hz
        have hzb : (ST.code == 0) = false := by rw [beq_eq_false_iff_ne]; exact hz
        have S6 := hide (show RgSt W v5 tb a1 c1 a2 c2 a3 c3 n m hs ST.ps ST.idx (.slice ac nc cc) (runS (acts.take k)).codes by
          rw [hm1, hm2]
          exact unhide S5)
        clear hm1 hm2
        obtain ⟨a4, n4, c4, w4, hr, hS4⟩ := (unhide S6).code ST.code hcl'
        have S7 := hide (show RgSt W w4 tb a1 c1 a2 c2 a3 c3 n m hs (runS (acts.take (k + 1))).ps (runS (acts.take (k + 1))).idx (.slice a4 n4 c4) (runS (acts.take (k + 1))).codes by
          rw [unhide RK]
          exact hS4)
        clear hS4
        clear hz
        go_wp2_with (at_builtin; refine wpAppE rfl _ _ 30 rfl _ _ (.slice a4 n4 c4) w4 rfl rfl hr ?_)
        go_roundw
        case rel => exact ⟨k + 1, _, _, _, _, _, _, _, _, _, a4, n4, c4, by omega, rfl, by go_num, S7⟩
        case measure => simp [intOf]; omega
    · have D10 := hide ((unhide Ds).alloc (unhide Ds).size (.cells #[.slice none 0 0, .slice none 0 0, .slice none 0 0] 29))
      have KN0 := hide (heap_alloc_new us (.cells #[.slice none 0 0, .slice none 0 0, .slice none 0 0] 29))
      have NBG := hide (show wr.heap.size ≤ us.heap.size from (unhide Ds).size)
      go_simp
      generalize us.alloc (.cells #[.slice none 0 0, .slice none 0 0, .slice none 0 0] 29) = u10 at *
      generalize us.heap.size = nb at *
      refine hK.out _ _ (unhide SB _ (unhide D10)) (fun hHeld => ?_)
      clear hK K
      refine wpAnyH_ready (rs := [5]) (by kernel_rfl) (by simp) ?_
      refine AllReadyH.cons rfl (fun K hK => ?_) AllReadyH.nil
      go_simp
      refine (unhide HS u10 (unhide D10)).mono ?_
      rintro e u10_5 ⟨b1, n', k1, b2, k2, b3, m', k3, hs', told, rfl, hnew, hb⟩
      have D10_5 := hide ((unhide D10).trans (hb.mono (unhide D10).size))
      have NX := hide hnew
      have KN := hide ((hb.block nb (blk_lt (unhide KN0))).trans (unhide KN0))
      have BS := hide (show tb < u10.heap.size from Nat.lt_of_lt_of_le tbl (unhide D10).size)
      have BW := hide (show W.heap.size ≤ u10.heap.size from Nat.le_trans hszr (unhide D10).size)
      generalize u10.heap.size = bs at *
      clear hnew hb KN0
      refine hK.out _ _ (unhide SB _ (unhide D10_5)) (fun hHeld => ?_)
      clear hK K
      refine anyH_take 6 29 (v := ?v12) rfl rfl (by kernel_rfl) (by kernel_rfl) (by kernel_rfl) (fun _ _ _ h => h) (by rfl) ?h12 hHeld ?r12
      case h12 => (intro w hSw; (try dsimp only at hSw); go_simp; try (with_reducible rfl))
      simp only [Act.put, List.setIfInBounds_toArray, List.set_cons_zero, List.set_cons_succ]
      refine anyH_take 7 36 (v := ?v13) rfl rfl (by kernel_rfl) (by kernel_rfl) (by kernel_rfl) (fun _ _ _ h => h) (by rfl) ?h13 hHeld ?r13
      case h13 => (intro w hSw; (try dsimp only at hSw); go_simp; try (with_reducible rfl))
      simp only [Act.put, List.setIfInBounds_toArray, List.set_cons_zero, List.set_cons_succ]
      refine anyH_take 8 37 (v := ?v14) rfl rfl (by kernel_rfl) (by kernel_rfl) (by kernel_rfl) (fun _ _ _ h => h) (by rfl) ?h14 hHeld ?r14
      case h14 => (intro w hSw; (try dsimp only at hSw); go_simp; try (with_reducible rfl))
      simp only [Act.put, List.setIfInBounds_toArray, List.set_cons_zero, List.set_cons_succ]
      refine anyH_take 9 38 (v := ?v15) rfl rfl (by kernel_rfl) (by kernel_rfl) (by kernel_rfl) (fun _ _ _ h => h) (by rfl) ?h15 hHeld ?r15
      case h15 => (intro w hSw; (try dsimp only at hSw); go_simp; try (with_reducible rfl))
      simp only [Act.put, List.setIfInBounds_toArray, List.set_cons_zero, List.set_cons_succ]
      refine wpAnyH_ready (rs := [11]) (by kernel_rfl) (by simp) ?_
      refine AllReadyH.cons rfl (fun K hK => ?_) AllReadyH.nil
      have S4 := (unhide hS).below (unhide D10_5)
      have hne : tb ≠ nb := by have := unhide NBG; omega
      have hW3 : WrB (fun i => i = nb) u10_5 (((u10_5.setCell ⟨nb, 0, none⟩ (.slice b1 n' k1)).setCell ⟨nb, 1, none⟩ (.slice b2 n' k2)).setCell ⟨nb, 2, none⟩ (.slice b3 m' k3)) := (set1_wr _ nb 0 _).seq ((set1_wr _ nb 1 _).seq (set1_wr _ nb 2 _))
      have hgnb : W.heap.size ≤ nb := Nat.le_trans hszr (unhide NBG)
      have S5 := hide (S4.other (unhide KN) hW3 hne hgnb)
      have K5 := hide (set3_hp (unhide KN) (.slice b1 n' k1) (.slice b2 n' k2) (.slice b3 m' k3))
      have N5 := hide (show ST.code = 0 → TsOwn (((u10_5.setCell ⟨nb, 0, none⟩ (.slice b1 n' k1)).setCell ⟨nb, 1, none⟩ (.slice b2 n' k2)).setCell ⟨nb, 2, none⟩ (.slice b3 m' k3)) bs b1 k1 b2 k2 b3 k3 n' m' hs' ST.ps ST.idx from fun h => (unhide NX h).2.keepT (unhide KN) hW3)
      have SF := hide (unhide SK (((u10_5.setCell ⟨nb, 0, none⟩ (.slice b1 n' k1)).setCell ⟨nb, 1, none⟩ (.slice b2 n' k2)).setCell ⟨nb, 2, none⟩ (.slice b3 m' k3)) ((((unhide D10_5).mono hszr)).trans (WrB.below hW3 (fun i e => by rw [e]; exact hgnb) (Nat.le_trans hszr (unhide D10_5).size))) ((hW3.block tb (Nat.lt_of_lt_of_le tbl (unhide D10_5).size) hne).trans ((unhide D10_5).block tb tbl)))
      have y0 := (heap_at (unhide KN) 0).1
      have y1 := (heap_at (unhide KN) 1).1
      have y2 := (heap_at (unhide KN) 2).1
      have x0 := (heap_at (unhide KN) 0).2
      have x1 := (heap_at (unhide KN) 1).2
      have x2 := (heap_at (unhide KN) 2).2
      clear S4 hW3
      go_simp
      refine hK.out _ _ (unhide SF) (fun hHeld => ?_)
      clear hK K
      refine anyH_take 12 9 (v := ?v16) rfl rfl (by kernel_rfl) (by kernel_rfl) (by kernel_rfl) (fun _ _ _ h => h) (by rfl) ?h16 hHeld ?r16
      case h16 => (intro w hSw; (try dsimp only at hSw); go_simp; try (with_reducible rfl))
      simp only [Act.put, List.setIfInBounds_toArray, List.set_cons_zero, List.set_cons_succ]
      refine anyH_take 13 10 (v := ?v17) rfl rfl (by kernel_rfl) (by kernel_rfl) (by kernel_rfl) (fun _ _ _ h => h) (by rfl) ?h17 hHeld ?r17
      case h17 => (intro w hSw; (try dsimp only at hSw); go_simp; try (with_reducible rfl))
      simp only [Act.put, List.setIfInBounds_toArray, List.set_cons_zero, List.set_cons_succ]
      refine wpAnyH_done (by kernel_rfl) ?_ _
      generalize (((u10_5.setCell ⟨nb, 0, none⟩ (.slice b1 n' k1)).setCell ⟨nb, 1, none⟩ (.slice b2 n' k2)).setCell ⟨nb, 2, none⟩ (.slice b3 m' k3)) = v5 at *
      clear y0 y1 y2 x0 x1 x2 SF NX KN
      by_cases hz : ST.code = 0
      · have N5' := unhide N5 hz
        have hW4 : WrB (fun i => i = tb) v5 (((v5.setCell ⟨tb, 0, none⟩ (.slice b1 n' k1)).setCell ⟨tb, 1, none⟩ (.slice b2 n' k2)).setCell ⟨tb, 2, none⟩ (.slice b3 m' k3)) := (set1_wr _ tb 0 _).seq ((set1_wr _ tb 1 _).seq (set1_wr _ tb 2 _))
        have hge := (unhide S5).tge
        have S6 := hide (show RgSt W (((v5.setCell ⟨tb, 0, none⟩ (.slice b1 n' k1)).setCell ⟨tb, 1, none⟩ (.slice b2 n' k2)).setCell ⟨tb, 2, none⟩ (.slice b3 m' k3)) tb b1 k1 b2 k2 b3 k3 n' m' hs' ST.ps ST.idx (.slice ac nc cc) (runS (acts.take k)).codes from ⟨(unhide S5).bel.trans (WrB.below hW4 (fun i e => by rw [e]; exact hge) (unhide S5).bel.size), (N5'.keepT (unhide S5).box hW4).dn (unhide BW), set3_hp (unhide S5).box _ _ _, own_keep (unhide S5).cod (unhide S5).box (by decide) hW4, hge⟩)
        have t0 := (heap_at (unhide S5).box 0).1
        have t1 := (heap_at (unhide S5).box 1).1
        have t2 := (heap_at (unhide S5).box 2).1
        have f0 := (heap_at (unhide S5).box 0).2
        have f1 := (heap_at (unhide S5).box 1).2
        have f2 := (heap_at (unhide S5).box 2).2
        have m0 := (heap_at (unhide K5) 0).1
        have m1 := (heap_at (unhide K5) 1).1
        have m2 := (heap_at (unhide K5) 2).1
        have hzb : (ST.code == 0) = true := by rw [hz]; rfl
        clear N5' hW4 hge hz
        go_upto_region 13 with fail
        clear t0 t1 t2 f0 f1 f2 m0 m1 m2
        generalize (((v5.setCell ⟨tb, 0, none⟩ (.slice b1 n' k1)).setCell ⟨tb, 1, none⟩ (.slice b2 n' k2)).setCell ⟨tb, 2, none⟩ (.slice b3 m' k3)) = v6 at *
        obtain ⟨a4, n4, c4, w4, hr, hS4⟩ := (unhide S6).code ST.code hcl'
        have S7 := hide (show RgSt W w4 tb b1 k1 b2 k2 b3 k3 n' m' hs' (runS (acts.take (k + 1))).ps (runS (acts.take (k + 1))).idx (.slice a4 n4 c4) (runS (acts.take (k + 1))).codes by
          rw [unhide RK]
          exact hS4)
        clear hS4
        go_wp2_with (at_builtin; refine wpAppE rfl _ _ 30 rfl _ _ (.slice a4 n4 c4) w4 rfl rfl hr ?_)
        go_roundw
        case rel => exact ⟨k + 1, _, _, _, _, _, _, _, _, _, a4, n4, c4, by omega, rfl, by go_num, S7⟩
        case measure => simp [intOf]; omega
      · obtain ⟨hm1, hm2⟩ := unhide SM hz
        have hzb : (ST.code == 0) = false := by rw [beq_eq_false_iff_ne]; exact hz
        have S6 := hide (show RgSt W v5 tb a1 c1 a2 c2 a3 c3 n m hs ST.ps ST.idx (.slice ac nc cc) (runS (acts.take k)).codes by
          rw [hm1, hm2]
          exact unhide S5)
        clear hm1 hm2
        obtain ⟨a4, n4, c4, w4, hr, hS4⟩ := (unhide S6).code ST.code hcl'
        have S7 := hide (show RgSt W w4 tb a1 c1 a2 c2 a3 c3 n m hs (runS (acts.take (k + 1))).ps (runS (acts.take (k + 1))).idx (.slice a4 n4 c4) (runS (acts.take (k + 1))).codes by
          rw [unhide RK]
          exact hS4)
        clear hS4
        clear hz
        go_wp2_with (at_builtin; refine wpAppE rfl _ _ 30 rfl _ _ (.slice a4 n4 c4) w4 rfl rfl hr ?_)
        go_roundw
        case rel => exact ⟨k + 1, _, _, _, _, _, _, _, _, _, a4, n4, c4, by omega, rfl, by go_num, S7⟩
        case measure => simp [intOf]; omega
end Go.Proofs.YtbhkmmdcdfjbkaaGreat

namespace Go.Proofs.YtbhkmmdcdfjbkaaGreat
open Go.RowKit

theorem rise_app {a b : List EntD} (ha : Rise a) (hb : Rise b) (h : ∀ x ∈ a, ∀ y ∈ b, ltK x.k y.k = true) : Rise (a ++ b) := List.pairwise_append.2 ⟨ha, hb, h⟩
theorem mem_look {es : List EntD} (h : Rise es) : ∀ {e : EntD}, e ∈ es → lookE es e.k = some e.v := by
  intro e he
  induction es with
  | nil => cases he
  | cons x r ih =>
    have hr : Rise r := (List.pairwise_cons.1 h).2
    rcases List.mem_cons.1 he with rfl | he
    · exact look_here
    · have hlt := (List.pairwise_cons.1 h).1 e he
      rw [look_skip (ltK_ne hlt)]
      exact ih hr he
theorem look_mem {es : List EntD} {k v : ByteArray} (h : lookE es k = some v) : (⟨k, v⟩ : EntD) ∈ es := by
  unfold lookE at h
  cases hf : es.find? (fun e => e.k.toList == k.toList) with
  | none => rw [hf] at h; cases h
  | some e =>
    rw [hf] at h
    injection h with h
    have h1 := List.find?_some hf
    have h2 := List.mem_of_find?_eq_some hf
    have h3 : e.k = k := toList_inj (by simpa using h1)
    obtain ⟨ek, ev⟩ := e
    simp only at h h3
    subst h h3
    exact h2
/-- Rising entries are known by their keys' values. -/
theorem rise_ext : ∀ {a b : List EntD}, Rise a → Rise b → (∀ k, lookE a k = lookE b k) → a = b
  | [], [], _, _, _ => rfl
  | [], y :: r, _, hb, h => by
    have h1 := h y.k
    rw [mem_look hb (List.mem_cons_self ..), look_no (fun e he => by cases he)] at h1
    cases h1
  | x :: r, [], ha, _, h => by
    have h1 := h x.k
    rw [mem_look ha (List.mem_cons_self ..), look_no (fun e he => by cases he)] at h1
    cases h1
  | x :: r, y :: s, ha, hb, h => by
    have hr : Rise r := (List.pairwise_cons.1 ha).2
    have hs : Rise s := (List.pairwise_cons.1 hb).2
    have lx := (List.pairwise_cons.1 ha).1
    have ly := (List.pairwise_cons.1 hb).1
    have m1 : (⟨x.k, x.v⟩ : EntD) ∈ y :: s := look_mem ((h x.k).symm.trans (mem_look ha (List.mem_cons_self ..)))
    have m2 : (⟨y.k, y.v⟩ : EntD) ∈ x :: r := look_mem ((h y.k).trans (mem_look hb (List.mem_cons_self ..)))
    have hxy : x = y := by
      rcases List.mem_cons.1 m1 with e | m1
      · exact e
      · rcases List.mem_cons.1 m2 with e | m2
        · exact e.symm
        · have h1 := ly _ m1
          have h2 := lx _ m2
          simp only at h1 h2
          rw [ltK_asymm h1] at h2
          cases h2
    subst hxy
    congr 1
    refine rise_ext hr hs fun k => ?_
    by_cases hk : x.k = k
    · subst hk
      rw [look_no (fun e he e2 => ltK_ne (lx e he) e2.symm), look_no (fun e he e2 => ltK_ne (ly e he) e2.symm)]
    · have := h k
      rw [look_skip hk, look_skip hk] at this
      exact this
theorem under_lt {k hi : ByteArray} (h : underK k hi = true) (hn : hi.toList.isEmpty = false) : ltK k hi = true := by
  unfold underK at h
  rw [hn] at h
  simpa using h
/-- From a page on the entries rise, from its low bound on. -/
theorem scan_rise {ps : List (Option PageD)} {idx : List RefD} (t : Tre ps idx) : ∀ (n : Nat) (id : Int) (p : PageD), getP ps id = some p → Rise (scanF ps n id) ∧ ∀ e ∈ scanF ps n id, ltK e.k p.lo = false
  | 0, _, _, _ => by unfold scanF; exact ⟨List.Pairwise.nil, fun e he => by cases he⟩
  | n + 1, id, p, hg => by
    rw [scanF_some hg]
    have hok := t.ok _ p hg
    have hen := enP_in hok
    have hr := ok_rise hok
    have lo : ∀ e ∈ enP p, ltK e.k p.lo = false := fun e he => (okEnt_parts (hen e he)).2.2.1
    rcases t.next _ p hg with ⟨h1, _⟩ | ⟨hlt, q, hq, hl⟩
    · rw [scanF_none (by rw [h1]; exact getP_neg (by omega)), List.append_nil]
      exact ⟨hr, lo⟩
    · obtain ⟨ih1, ih2⟩ := scan_rise t n _ q hq
      have hne : (hiP p).toList.isEmpty = false := by
        cases hc : (hiP p).toList.isEmpty with
        | false => rfl
        | true =>
          have he : (hiP p) = ⟨#[]⟩ := toList_inj (by rw [List.isEmpty_iff.1 hc, List.isEmpty_iff.1 isE_none])
          rw [he, ltK_none] at hlt
          cases hlt
      have up : ∀ e ∈ enP p, ltK e.k (hiP p) = true := fun e he => under_lt (okEnt_parts (hen e he)).2.2.2 hne
      refine ⟨rise_app hr ih1 fun x hx y hy => ?_, fun e he => ?_⟩
      · have h2 := ih2 y hy
        rw [hl] at h2
        exact ltK_of_ge (up x hx) h2
      · rcases List.mem_append.1 he with he | he
        · exact lo e he
        · have h2 := ih2 e he
          rw [hl] at h2
          exact ltK_le h2 (ltK_asymm hlt)
theorem scan_look {ps : List (Option PageD)} {idx : List RefD} (t : Tre ps idx) : ∀ (n : Nat) (id : Int) (p : PageD) (k : ByteArray), getP ps id = some p → cntGe ps p.lo ≤ n → ltK k p.lo = false → ∃ x q, getP ps x = some q ∧ InP q k ∧ lookE (scanF ps n id) k = lookE (enP q) k
  | 0, id, p, k, hg, hc, _ => by have := cntGe_here (getP_mem hg); omega
  | n + 1, id, p, k, hg, hc, hk => by
    rw [scanF_some hg]
    have hok := t.ok _ p hg
    have hen := enP_in hok
    rcases t.next _ p hg with ⟨h1, h2⟩ | ⟨hlt, q, hq, hl⟩
    · rw [scanF_none (by rw [h1]; exact getP_neg (by omega)), List.append_nil]
      exact ⟨id, p, hg, ⟨hk, by unfold underK; rw [h2]; rfl⟩, rfl⟩
    · cases hu : underK k (hiP p) with
      | true =>
        refine ⟨id, p, hg, ⟨hk, hu⟩, look_app_r fun e he e2 => ?_⟩
        have h3 := (scan_rise t n _ q hq).2 e he
        rw [hl, e2] at h3
        obtain ⟨hne, _⟩ : (hiP p).toList.isEmpty = false ∧ True := by
          refine ⟨?_, trivial⟩
          cases hc : (hiP p).toList.isEmpty with
          | false => rfl
          | true =>
            have he : (hiP p) = ⟨#[]⟩ := toList_inj (by rw [List.isEmpty_iff.1 hc, List.isEmpty_iff.1 isE_none])
            rw [he, ltK_none] at hlt
            cases hlt
        rw [under_lt hu hne] at h3
        cases h3
      | false =>
        obtain ⟨hne, hge⟩ := under_no hu
        have hcq : cntGe ps q.lo ≤ n := by
          have := cntGe_next (getP_mem hg) hlt
          rw [hl]
          omega
        obtain ⟨x, r, hx, hi, he⟩ := scan_look t n _ q k hq hcq (by rw [hl]; exact hge)
        refine ⟨x, r, hx, hi, ?_⟩
        rw [look_app fun e he e2 => ?_]
        · exact he
        · have h3 := under_lt (okEnt_parts (hen e he)).2.2.2 hne
          rw [e2, hge] at h3
          cases h3
theorem Tre.rises {ps : List (Option PageD)} {idx : List RefD} (t : Tre ps idx) : Rise (treeE ps) := by
  obtain ⟨p, hp, _⟩ := t.zero
  exact (scan_rise t 40 0 p hp).1
/-- A key's value is that of the page that it stands in. -/
theorem Tre.look {ps : List (Option PageD)} {idx : List RefD} (t : Tre ps idx) {x : Int} {q : PageD} {k : ByteArray} (hx : getP ps x = some q) (hi : InP q k) : lookE (treeE ps) k = lookE (enP q) k := by
  obtain ⟨p, hp, hl⟩ := t.zero
  have hc : cntGe ps p.lo ≤ 40 := by
    have h1 : cntGe ps p.lo ≤ ps.length := List.countP_le_length
    have := t.len.2
    omega
  obtain ⟨y, r, hy, hr, he⟩ := scan_look t 40 0 p k hp hc (by rw [hl]; exact ltK_none k)
  have hxy := t.good.uni hx hy hi hr
  subst hxy
  rw [hx] at hy
  injection hy with hy
  subst hy
  exact he
theorem Tre.page {ps : List (Option PageD)} {idx : List RefD} (t : Tre ps idx) (k : ByteArray) : ∃ x q, getP ps x = some q ∧ InP q k := by
  obtain ⟨p, h1, h2, h3, _⟩ := t.good.down k
  exact ⟨_, p, h1, h2, h3⟩
/-- Trees whose keys have the same values have the same entries. -/
theorem Tre.same {ps ps' : List (Option PageD)} {idx idx' : List RefD} (t : Tre ps idx) (t' : Tre ps' idx') (h : ∀ x q k, getP ps' x = some q → InP q k → lookE (treeE ps) k = lookE (enP q) k) : treeE ps' = treeE ps := by
  refine rise_ext t'.rises t.rises fun k => ?_
  obtain ⟨x, q, hx, hi⟩ := t'.page k
  rw [t'.look hx hi, h x q k hx hi]
theorem conT_ents {ps : List (Option PageD)} {idx : List RefD} (t : Tre ps idx) {id : Nat} {p : PageD} (hg : getP ps (id : Int) = some p) : treeE (conT ps idx id p).ps = treeE ps := by
  refine t.same (conT_tre t hg) fun x q k hx hi => ?_
  have hkl := (getP_is hg).1
  replace hx : getP (ps.set id (some (conPg p))) x = some q := hx
  rw [getP_set hkl] at hx
  split at hx
  · injection hx with hx
    subst hx
    exact t.look (q := p) hg hi
  · exact t.look hx hi
theorem posT_ents {ps : List (Option PageD)} {idx : List RefD} {id : Nat} {p : PageD} : treeE (posT ps idx id p).ps = treeE ps := by
  unfold posT
  split <;> rfl
theorem splT_ents {ps : List (Option PageD)} {idx : List RefD} (t : Tre ps idx) {id : Nat} {p : PageD} (hg : getP ps (id : Int) = some p) : treeE (splT ps idx id p).ps = treeE ps := by
  have t' := splT_tre t hg
  unfold splT at t' ⊢
  split
  · rfl
  · rename_i h1
    rw [if_neg h1] at t'
    split
    · rfl
    · rename_i h2
      rw [if_neg h2] at t'
      have hkl := (getP_is hg).1
      have hok := t.ok _ p hg
      have h2' : 2 ≤ (enP p).length := by omega
      obtain ⟨m1, m2, m3, m4, m5⟩ := mid_facts hok h2'
      have hr := ok_rise hok
      have h3 : (enP p).length / 2 < (enP p).length := by omega
      refine t.same t' fun x q k hx hi => ?_
      simp only at hx
      rw [getP_snoc, List.length_set] at hx
      have hspl : enP p = (enP p).take ((enP p).length / 2) ++ (enP p).drop ((enP p).length / 2) := (List.take_append_drop _ _).symm
      have hbig : ∀ e ∈ (enP p).drop ((enP p).length / 2), ltK e.k (midK p) = false := fun e he => by
        have h := drop_ge hr (k := midK p) e
        rw [show pos (enP p) (midK p) = (enP p).length / 2 by rw [midK_eq h2']; exact pos_self hr h3] at h
        exact h he
      have hsml : ∀ e ∈ (enP p).take ((enP p).length / 2), ltK e.k (midK p) = true := fun e he => by
        have h := take_lt (es := enP p) (k := midK p) e
        rw [show pos (enP p) (midK p) = (enP p).length / 2 by rw [midK_eq h2']; exact pos_self hr h3] at h
        exact h he
      split at hx
      · injection hx with hx
        subst hx
        have i1 : ltK k (midK p) = false := hi.1
        have i2 : underK k (hiP p) = true := hi.2
        rw [t.look hg ⟨ltK_le i1 m4, i2⟩]
        show lookE (enP p) k = lookE ((enP p).drop ((enP p).length / 2)) k
        conv => lhs; rw [hspl]
        exact look_app fun e he e2 => by rw [← e2, hsml e he] at i1; cases i1
      · rw [getP_set hkl] at hx
        split at hx
        · injection hx with hx
          subst hx
          have e1 : hiP (addD p (spD (midK p) ps.length)) = midK p := by rw [addD_hi]; exact if_pos rfl
          have i1 : ltK k p.lo = false := hi.1
          have i2 : underK k (midK p) = true := by have := hi.2; rw [e1] at this; exact this
          have i3 : ltK k (midK p) = true := under_lt i2 (isE_key m1)
          have i4 : underK k (hiP p) = true := by
            unfold underK at m3 ⊢
            cases hc : (hiP p).toList.isEmpty with
            | true => rfl
            | false =>
              rw [hc] at m3
              simp only [Bool.false_or] at m3 ⊢
              exact ltK_trans i3 m3
          rw [t.look hg ⟨i1, i4⟩, spl_en hok h2']
          conv => lhs; rw [hspl]
          exact look_app_r fun e he e2 => by have := hbig e he; rw [e2, i3] at this; cases this
        · exact t.look hx hi
theorem merT_ents {ps : List (Option PageD)} {idx : List RefD} (t : Tre ps idx) {id : Nat} {p : PageD} (hg : getP ps (id : Int) = some p) : treeE (merT ps idx id p).ps = treeE ps := by
  have t' := merT_tre t hg
  unfold merT at t' ⊢
  split
  · rfl
  · rename_i h1
    rw [if_neg h1] at t'
    split
    · rfl
    · rename_i q hq
      rw [hq] at t'
      simp only at t'
      split
      · rfl
      · rename_i h2
        rw [if_neg h2] at t'
        have hkl := (getP_is hg).1
        have hokp := t.ok _ p hg
        have hokq := t.ok _ q hq
        obtain ⟨j, hj, hjl⟩ := getP_lt hq
        have hnx : ltK p.lo (hiP p) = true ∧ q.lo = hiP p := by
          rcases t.next _ p hg with ⟨h, _⟩ | ⟨hlt, q2, hq2, hl⟩
          · omega
          · rw [hq] at hq2
            injection hq2 with hq2
            subst hq2
            exact ⟨hlt, hl⟩
        have hne : (hiP p).toList.isEmpty = false := by
          cases hc : (hiP p).toList.isEmpty with
          | false => rfl
          | true =>
            have he : (hiP p) = ⟨#[]⟩ := toList_inj (by rw [List.isEmpty_iff.1 hc, List.isEmpty_iff.1 isE_none])
            have := hnx.1
            rw [he, ltK_none] at this
            cases this
        refine t.same t' fun x r k hx hi => ?_
        simp only at hx
        rw [hj, Int.toNat_natCast, getP_set (by rw [List.length_set]; exact hjl)] at hx
        split at hx
        · cases hx
        · rw [getP_set hkl] at hx
          split at hx
          · injection hx with hx
            subst hx
            have i1 : ltK k p.lo = false := hi.1
            have i2 : underK k (hiP q) = true := hi.2
            show lookE (treeE ps) k = lookE (enP p ++ enP q) k
            cases hu : underK k (hiP p) with
            | true =>
              rw [t.look hg ⟨i1, hu⟩]
              refine (look_app_r fun e he e2 => ?_).symm
              have h3 := (okEnt_parts (enP_in hokq e he)).2.2.1
              rw [hnx.2, e2, under_lt hu hne] at h3
              cases h3
            | false =>
              obtain ⟨_, hge⟩ := under_no hu
              rw [t.look hq ⟨by rw [hnx.2]; exact hge, i2⟩]
              refine (look_app fun e he e2 => ?_).symm
              have h3 := under_lt (okEnt_parts (enP_in hokp e he)).2.2.2 hne
              rw [e2, hge] at h3
              cases h3
          · exact t.look hx hi
theorem chgT_ents {ps : List (Option PageD)} {idx : List RefD} (t : Tre ps idx) {a : AcT} (_ha : a.kind = 1 ∨ a.kind = 2) (h0 : (chgT ps idx a).code = 0) : treeE (chgT ps idx a).ps = stepE (treeE ps) (chgD a) := by
  have t' := chgT_tre t a
  have hk3 : (chgD a).kind = 1 ∨ (chgD a).kind = 2 := by
    unfold chgD
    split
    · exact .inl rfl
    · exact .inr rfl
  have hkk : (chgD a).k = a.key := by unfold chgD; split <;> rfl
  unfold chgT at t' h0 ⊢
  split
  · rename_i h1
    rw [if_pos h1] at h0
    exact absurd h0 (show ¬ (11 : Int) = 0 by decide)
  · rename_i h1
    rw [if_neg h1] at t' h0
    split
    · rename_i hn
      rw [hn] at h0
      exact absurd h0 (show ¬ (11 : Int) = 0 by decide)
    · rename_i p hg
      rw [hg] at t' h0
      simp only at t' h0
      split
      · rename_i h2
        rw [if_pos h2] at h0
        exact absurd h0 (show ¬ (7 : Int) = 0 by decide)
      · rename_i h2
        rw [if_neg h2] at t'
        obtain ⟨k0, hk0, hkl⟩ := getP_lt hg
        have hok := t.ok _ p hg
        obtain ⟨r1, r2, r3, r4, r5, r6⟩ := roomP_ok hok
        obtain ⟨p2, d1, d2, d3, _⟩ := t.good.down a.key
        rw [hg] at d1
        injection d1 with d1
        subst d1
        have hiN : hiP (addD (roomP p) (chgD a)) = hiP p := by rw [addD_hi, if_neg (chgD_kind a), r3]
        have enN : enP (addD (roomP p) (chgD a)) = stepE (enP p) (chgD a) := by rw [addD_en, r5]
        refine rise_ext t'.rises (stepE_rise t.rises _) fun k => ?_
        obtain ⟨x, q, hx, hi⟩ := t'.page k
        rw [t'.look hx hi]
        simp only at hx
        rw [hk0, Int.toNat_natCast, getP_set hkl] at hx
        have hkey : lookE (stepE (enP p) (chgD a)) a.key = lookE (stepE (treeE ps) (chgD a)) a.key := by
          have l1 := look_step (ok_rise hok) (chgD a)
          have l2 := look_step t.rises (chgD a)
          rw [hkk] at l1 l2
          rcases hk3 with h | h
          · rw [l1.1 h, l2.1 h]
          · rw [l1.2 h, l2.2 h]
        have hoth : ∀ {es : List EntD}, Rise es → k ≠ a.key → lookE (stepE es (chgD a)) k = lookE es k := fun hr hn => look_other hr (chgD a) (by rcases hk3 with h | h; exact .inl h; exact .inr (.inl h)) (by rw [hkk]; exact hn) (fun h => by rcases hk3 with h' | h' <;> omega)
        split at hx
        · injection hx with hx
          subst hx
          rw [enN]
          by_cases hk : k = a.key
          · rw [hk]; exact hkey
          · rw [hoth (ok_rise hok) hk, hoth t.rises hk, t.look hg ⟨by have := hi.1; rw [show (addD (roomP p) (chgD a)).lo = p.lo from r2] at this; exact this, by have := hi.2; rw [hiN] at this; exact this⟩]
        · rename_i hxn
          have hk : k ≠ a.key := fun e => by
            subst e
            have := t.good.uni hx hg hi ⟨d2, d3⟩
            omega
          rw [hoth t.rises hk, t.look hx hi]
/-- What a step does to a tree's entries. -/
theorem stepT_ents {ps : List (Option PageD)} {idx : List RefD} (t : Tre ps idx) (a : AcT) : treeE (stepT ps idx a).ps = if (stepT ps idx a).code = 0 ∧ a.kind ≤ 2 then stepE (treeE ps) (chgD a) else treeE ps := by
  by_cases h12 : a.kind = 1 ∨ a.kind = 2
  · rw [stepT_chg h12]
    by_cases h0 : (chgT ps idx a).code = 0
    · rw [if_pos ⟨h0, by omega⟩]
      exact chgT_ents t h12 h0
    · rw [if_neg (fun h => h0 h.1)]
      have h := stepT_same (ps := ps) (idx := idx) (a := a)
      rw [stepT_chg h12] at h
      rw [(h h0).1]
  · have ns : ∀ (id : Int) (f : Nat → PageD → StR), (∀ k p, getP ps ((k : Nat) : Int) = some p → treeE (f k p).ps = treeE ps) → treeE (atT ps idx id f).ps = treeE ps := fun id f hf => by
      unfold atT
      split
      · rfl
      · cases hg : getP ps id with
        | none => rfl
        | some p =>
          obtain ⟨k, rfl, _⟩ := getP_lt hg
          exact hf k p hg
    have hno : ¬ ((stepT ps idx a).code = 0 ∧ a.kind ≤ 2) := fun ⟨h0, h2⟩ => by
      have : stepT ps idx a = ⟨ps, idx, 0, 3⟩ := by
        unfold stepT
        rw [if_neg h12, if_neg (by omega), if_neg (by omega), if_neg (by omega), if_neg (by omega)]
      rw [this] at h0
      exact absurd h0 (show ¬ (3 : Int) = 0 by decide)
    rw [if_neg hno]
    unfold stepT
    rw [if_neg h12]
    split
    · exact ns _ _ fun k p h => conT_ents t h
    · split
      · exact ns _ _ fun k p h => splT_ents t h
      · split
        · exact ns _ _ fun k p _ => posT_ents
        · split
          · exact ns _ _ fun k p h => merT_ents t h
          · rfl
end Go.Proofs.YtbhkmmdcdfjbkaaGreat

namespace Go.Proofs.YtbhkmmdcdfjbkaaGreat
open Go.RowKit

set_option maxRecDepth 100000 in
set_option maxHeartbeats 8000000 in
theorem implTreeRun_any (a : Option Addr) (n c : Nat) (acts : List AcT) (w : World) (hR : YRow w a n acts) (hn : n ≤ 1048576) :
    Calls Tryz.prog 6 #[.slice a n c] w fun e w' => RtRes acts w e w' := by
  have L := hide hR.1
  have ZT : w.heap.size < (w.alloc (.cells #[.slice none 0 0, .slice none 0 0, .slice none 0 0] 29)).heap.size := by simp
  have b0 : Below w.heap.size w (w.alloc (.cells #[.slice none 0 0, .slice none 0 0, .slice none 0 0] 29)) := (Below.refl _ _).alloc (Nat.le_refl _) _
  by_cases hl1 : 4096 < n
  · have RES := hide (rt_long (acts := acts) (by rw [unhide L]; omega) b0)
    have hC : rtC acts = 2 := by unfold rtC; rw [if_pos (by rw [unhide L]; exact hl1)]
    rw [hC] at RES
    go_enter Tryz.func6, Tryz.ntmps6
    go_wp2_with fail
    refine bodyPost_ret (v := .tuple #[.agg #[.slice none 0 0, .slice none 0 0, .slice none 0 0], .slice none 0 0, .int .i64 2]) (by simp [results, Tryz.results6, go_sem]) rfl ?_
    exact unhide RES
  by_cases hl2 : 150 < n
  · have RES := hide (rt_long (acts := acts) (by rw [unhide L]; exact hl2) b0)
    have hC : rtC acts = 6 := by unfold rtC; rw [if_neg (by rw [unhide L]; exact hl1), if_pos (by rw [unhide L]; exact hl2)]
    rw [hC] at RES
    go_enter Tryz.func6, Tryz.ntmps6
    go_wp2_with fail
    refine bodyPost_ret (v := .tuple #[.agg #[.slice none 0 0, .slice none 0 0, .slice none 0 0], .slice none 0 0, .int .i64 6]) (by simp [results, Tryz.results6, go_sem]) rfl ?_
    exact unhide RES
  have RT := hide (show rtC acts = 0 ∧ rtN acts = (runS acts).codes ∧ rtT acts = ⟨(runS acts).ps.map pgD, (runS acts).ps.map (·.isNone), (runS acts).idx⟩ by
    have h1 : ¬ 4096 < acts.length := by rw [unhide L]; exact hl1
    have h2 : ¬ 150 < acts.length := by rw [unhide L]; exact hl2
    unfold rtC rtN rtT
    rw [if_neg h1, if_neg h2, if_neg h2, if_neg h2]
    exact ⟨rfl, rfl, rfl⟩)
  have R := hide hR
  have K0 := heap_alloc_new w (.cells #[.slice none 0 0, .slice none 0 0, .slice none 0 0] 29)
  clear hR
  go_enter Tryz.func6, Tryz.ntmps6
  go_wp2_with fail
  generalize w.alloc (.cells #[.slice none 0 0, .slice none 0 0, .slice none 0 0] 29) = W0 at *
  refine (implNewTree_any W0).mono ?_
  rintro e w1 ⟨p, g, i, rfl, hT1, _, hb1⟩
  have HT := hide (newTable_any hT1)
  unfold tv at HT ⊢
  have B1 := b0.trans (hb1.mono b0.size)
  have K1 := (hb1.block w.heap.size ZT).trans K0
  have z1 : w.heap.size < w1.heap.size := Nat.lt_of_lt_of_le ZT hb1.size
  clear hT1 hb1 K0 b0
  go_wp2_with fail
  refine (unhide HT).mono ?_
  rintro e w2 ⟨mb, qs0, vp0, vi0, rfl, hF0, hq0, hb2⟩
  have F0 := hide hF0
  have Q0 := hide hq0
  clear hF0 hq0 HT
  go_wp2_with fail
  go_loopw [7, 27] (fun lv iv wr => ∃ (k : Nat) (qs : List (Option (Nat × PpH))) (vp vi : Value) (ac : Option Addr) (nc cc : Nat), k ≤ n ∧ lv = .slice ac nc cc ∧ iv = .int .i64 k ∧ Hid (TbF wr w1.heap.size mb qs (runS (acts.take k)).idx vp vi) ∧ Hid (qsP qs = (runS (acts.take k)).ps) ∧ Hid (NOwns wr w1.heap.size (.slice ac nc cc) (runS (acts.take k)).codes) ∧ Below w1.heap.size w1 wr) (fun _ iv _ => n - (intOf iv).toNat)
  case atStart => exact ⟨0, qs0, vp0, vi0, none, 0, 0, Nat.zero_le _, rfl, rfl, F0, Q0, World.ownsRow_nil _ _ _ _, hb2⟩
  case round =>
    clear F0 Q0 hb2
    obtain ⟨k, qs, vp, vi, ac, nc, cc, hk, rfl, rfl, hF, hQ, hO, hb⟩ := hrel
    obtain ⟨hT, hcl⟩ := runS_tre acts k (by rw [unhide L]; exact hk)
    have bR := B1.trans (hb.mono (Nat.le_of_lt z1))
    by_cases hlt : k < n
    case neg =>
      obtain rfl : k = n := by omega
      have ht : acts.take k = acts := List.take_of_length_le (by rw [unhide L]; exact Nat.le_refl _)
      rw [ht] at hF hQ hO hT
      have HTR := hide (tree_any w1.heap.size mb qs (runS acts).idx vp vi wr (unhide hF) (by rw [unhide hQ]; exact hT))
      clear ht
      go_wp2_with fail
      refine (unhide HTR).mono ?_
      rintro e w5 ⟨a1, c1, a2, c2, a3, c3, hs, rfl, oT, hX, hb5⟩
      have K5 := (hb5.block w.heap.size (Nat.lt_of_lt_of_le z1 hb.size)).trans ((hb.block w.heap.size z1).trans K1)
      have O5 := rb_ownsRow_below (unhide hO) hb5
      have f0 := (heap_at K5 0).1
      have f1 := (heap_at K5 1).1
      have f2 := (heap_at K5 2).1
      have g0 := (heap_at K5 0).2
      have g1 := (heap_at K5 1).2
      have g2 := (heap_at K5 2).2
      have hw5 : w.heap.size < wr.heap.size := Nat.lt_of_lt_of_le z1 hb.size
      have O1 := ((oT.set hw5 0 (.slice a1 qs.length c1)).set hw5 1 (.slice a2 qs.length c2)).set hw5 2 (.slice a3 (runS acts).idx.length c3)
      have N1 := gd_set (gd_set (gd_set O5 z1 0 (.slice a1 qs.length c1)) z1 1 (.slice a2 qs.length c2)) z1 2 (.slice a3 (runS acts).idx.length c3)
      have BB := ((((bR.trans (hb5.mono bR.size)).setCell (p := ⟨w.heap.size, 0, none⟩) (Nat.le_refl _) (.slice a1 qs.length c1)).setCell (p := ⟨w.heap.size, 1, none⟩) (Nat.le_refl _) (.slice a2 qs.length c2)).setCell (p := ⟨w.heap.size, 2, none⟩) (Nat.le_refl _) (.slice a3 (runS acts).idx.length c3))
      have RES := hide (show RtRes acts w (.returned (.tuple #[.agg #[.slice a1 qs.length c1, .slice a2 qs.length c2, .slice a3 (runS acts).idx.length c3], .slice ac nc cc, .int .i64 0])) _ from ⟨a1, _, c1, a2, _, c2, a3, _, c3, ac, nc, cc, hs, goneQ qs, (runS acts).idx, by rw [(unhide RT).1], O1.dn (Nat.le_of_lt hw5), by rw [(unhide RT).2.1]; exact gd_base N1 (Nat.le_of_lt z1), by
        rw [(unhide RT).2.2]
        unfold trd
        rw [hX, unhide hQ, show goneQ qs = (runS acts).ps.map (·.isNone) by rw [← unhide hQ]; unfold goneQ qsP; rw [List.map_map]; congr 1; funext q; cases q <;> rfl], BB⟩)
      clear K5 O5 O1 N1 BB oT hX hb5 hF hQ hO
      go_wp2_with fail
      refine bodyPost_ret (v := .tuple #[.agg #[.slice a1 qs.length c1, .slice a2 qs.length c2, .slice a3 (runS acts).idx.length c3], .slice ac nc cc, .int .i64 0]) (by simp [results, Tryz.results6, go_sem, *]) rfl ?_
      exact unhide RES
    have hka : k < acts.length := by rw [unhide L]; exact hlt
    have hY := (unhide R).below bR
    obtain ⟨b, off, rfl, d0, d1, d2, d3⟩ := hY.2 k hka
    have RK := hide (runS_take acts k hka)
    generalize acts[k] = ak at *
    have bx := (Below.refl wr.heap.size wr).alloc (Nat.le_refl _) (.cells #[.int .i64 ak.kind, .int .i64 ak.id, .string ak.key, .string ak.val] 38)
    have FX := (unhide hF).below bx
    have hBx : w1.heap.size ≤ (wr.alloc (.cells #[.int .i64 ak.kind, .int .i64 ak.id, .string ak.key, .string ak.val] 38)).heap.size := Nat.le_trans hb.size bx.size
    have HS := hide (step_any w1.heap.size mb qs (runS (acts.take k)).idx vp vi ak _ FX hBx (by rw [unhide hQ]; exact hT))
    rw [unhide hQ] at HS
    have OX := rb_ownsRow_below (unhide hO) bx
    have NI := hide (fun i (hi : (Value.slice ac nc cc).ownBlock = some i) => FX.own.notInt OX hi)
    have GB := hide (fun i (hi : TbW mb vp vi i) => FX.own.geB hi)
    have OXh := hide OX
    have BX := hide (hb.trans (bx.mono hb.size))
    obtain ⟨ST, hST⟩ : ∃ ST, ST = stepT (runS (acts.take k)).ps (runS (acts.take k)).idx ak := ⟨_, rfl⟩
    rw [← hST] at HS RK
    clear hY FX OX bx hST
    obtain ⟨akk, aki, aky, akv⟩ := ak
    simp only at d0 d1 d2 d3 HS
    go_wp2_with fail
    refine (unhide HS).mono ?_
    rintro e w3 ⟨qs', vp', vi', rfl, hF3, hQ3, hW3⟩
    have O3 := rr_owns_wr (unhide OXh) hW3 (fun i hi => unhide NI i hi)
    have B3 := (unhide BX).trans (WrB.below hW3 (fun i hi => unhide GB i hi) (unhide BX).size)
    obtain ⟨v4, w4, hr, ho, hg, hne, _⟩ := n_app (x := ST.code) O3 (by rw [hcl]; omega) B3.size
    have b3a := (Below.refl w3.heap.size w3).alloc (Nat.le_refl _) (.cells #[.int .i64 ST.code] 3)
    have F4 := (hF3.below b3a).ints (rb_ownsRow_below O3 b3a) (Nat.le_refl _) (WrB.of_grown hg)
    have B4 := hide (B3.trans ((b3a.mono B3.size).trans ((Below.refl _ _).grown hg (Nat.le_trans B3.size b3a.size) (fun k hk => (O3.lt k hk).1))))
    obtain ⟨a4, n4, c4, hv4⟩ : ∃ a n c, v4 = .slice a n c := by
      rcases ho.2 with ⟨e, _⟩ | ⟨_, _, _, e, _⟩
      · exact ⟨_, _, _, e⟩
      · exact ⟨_, _, _, e⟩
    subst hv4
    have S4 := hide (show TbF w4 w1.heap.size mb qs' (runS (acts.take (k + 1))).idx vp' vi' by rw [unhide RK]; exact F4)
    have Q4 := hide (show qsP qs' = (runS (acts.take (k + 1))).ps by rw [unhide RK]; exact hQ3)
    have N4 := hide (show NOwns w4 w1.heap.size (.slice a4 n4 c4) (runS (acts.take (k + 1))).codes by rw [unhide RK]; exact ho)
    clear hF3 hQ3 hW3 O3 B3 ho hg hne b3a F4 HS NI GB OXh BX hF hQ hO RK hT d0 d1 d2 d3
    obtain ⟨Sps, Sidx, St, Sc⟩ := ST
    simp only at hr
    go_wp2_with (at_builtin; refine wpAppE rfl _ _ 30 rfl _ _ (.slice a4 n4 c4) w4 rfl rfl hr ?_)
    go_roundw
    case rel => exact ⟨k + 1, _, _, _, a4, n4, c4, by omega, rfl, by go_num, S4, Q4, N4, unhide B4⟩
    case measure => simp [intOf]; omega
end Go.Proofs.YtbhkmmdcdfjbkaaGreat
