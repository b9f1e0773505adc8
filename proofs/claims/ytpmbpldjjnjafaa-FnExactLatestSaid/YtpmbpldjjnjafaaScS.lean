/-
  spec.l03Next.
-/
import Derived.Test.YtpmbpldjjnjafaaScI
import Derived.Test.YtpmbpldjjnjafaaImgS
import Derived.Deep.DeepCutAuto
namespace Go.Proofs.Ytpmbpldjjnjafaa
open Go.RowKit

/-- What l03Next gives. -/
def NxRes (xs : List Int) (p : Nat) (w : World) (e : Ending) (w' : World) : Prop :=
  (nextI xs p = none ∧ e = .returned (.tuple #[iv 0 false none 0 0, .bool false]) ∧ Below w.heap.size w w') ∨
  ∃ x g cap, nextI xs p = some x ∧ e = .returned (.tuple #[iv x.id x.gone (some ⟨g, 0, none⟩) x.xs.length cap, .bool true]) ∧ Owns w' w.heap.size (.slice (some ⟨g, 0, none⟩) x.xs.length cap) x.xs ∧ Below w.heap.size w w'
theorem sc_stepConv {P : Program} {ops : Array Oper} {o : Oper} {a : Act} {w : World} {K : Act → World → Prop} {Q : Exit → Act → World → Prop} {E : Prop}
    (hw : Region.wanted o (yielded ops a.tmps) = true) (x : Operand) (s t : TypeId) (hop : o.op = Op.convert s t x) (vx v' : Value) (hx : a.eval x = vx) (hrun : (convert s t vx).run P w = .ok v' w) (hK : K (a.put o.dst v') w) :
    if Region.wanted o (yielded ops a.tmps) = true then Oper.wp P o a w K Q else E := by
  rw [if_pos hw]
  unfold Oper.wp
  simp [execOp, hop, hx, hrun, Result.andThen]
  exact hK
set_option maxRecDepth 100000 in
set_option maxHeartbeats 8000000 in
theorem l03Next_any (a : Option Addr) (n c p : Nat) (xs : List Int) (w : World) (hR : Row w a n xs) (h8 : Bytes8 xs) (hp : p ≤ n) (hn : n ≤ 65536) (hc : n ≤ c) (_hc2 : c ≤ maxLen) :
    Calls Try.prog 35 #[.slice a n c, .int .i64 (p : Int)] w fun e w' => NxRes xs p w e w' := by
  unfold maxLen at _hc2
  obtain rfl := hR.1
  have b0 : Below w.heap.size w (w.alloc (.cells #[.int .i64 0, .bool false, .slice none 0 0] 48)) := (Below.refl _ _).alloc (Nat.le_refl _) _
  have KR := hide (heap_alloc_new w (.cells #[.int .i64 0, .bool false, .slice none 0 0] 48))
  have zs : (w.alloc (.cells #[.int .i64 0, .bool false, .slice none 0 0] 48)).heap.size = w.heap.size + 1 := by simp
  have q3 : w.heap.size ≤ w.heap.size := Nat.le_refl _
  have SB : ∀ u : World, Below w.heap.size w u → Below w.heap.size w (((u.setCell ⟨w.heap.size, 0, none⟩ (.int .i64 0)).setCell ⟨w.heap.size, 1, none⟩ (.bool false)).setCell ⟨w.heap.size, 2, none⟩ (.slice none 0 0)) := fun u hu => ((hu.setCell (p := ⟨w.heap.size, 0, none⟩) q3 _).setCell (p := ⟨w.heap.size, 1, none⟩) q3 _).setCell (p := ⟨w.heap.size, 2, none⟩) q3 _
  have NO := hide (show ∀ u : World, nextI xs p = none → Below w.heap.size w u → NxRes xs p w (.returned (.tuple #[iv 0 false none 0 0, .bool false])) u from fun u h hu => .inl ⟨h, rfl, hu⟩)
  have wr9 : IntKind.i64.wrap ((p : Int) + 9) = (p : Int) + 9 := by rw [IntKind.wrap_i64]; omega
  by_cases h9 : ¬ (p + 9 ≤ xs.length)
  · have g9 : (xs.length : Int) < (p : Int) + 9 := by omega
    have NN := hide (next_no9 (b := xs) (p := p) (fun h => h9 h.1))
    clear hR h8
    go_enter Try.func35, Try.ntmps35
    go_wp2_with fail
    generalize w.alloc (.cells #[.int .i64 0, .bool false, .slice none 0 0] 48) = W at *
    have y0 : W.cell? ⟨w.heap.size, 0, none⟩ = some (.int .i64 0) := (heap_at (unhide KR) 0).1
    have y1 : W.cell? ⟨w.heap.size, 1, none⟩ = some (.bool false) := (heap_at (unhide KR) 1).1
    have y2 : W.cell? ⟨w.heap.size, 2, none⟩ = some (.slice none 0 0) := (heap_at (unhide KR) 2).1
    have f0 : W.frozen? ⟨w.heap.size, 0, none⟩ = false := (heap_at (unhide KR) 0).2
    have f1 : W.frozen? ⟨w.heap.size, 1, none⟩ = false := (heap_at (unhide KR) 1).2
    have f2 : W.frozen? ⟨w.heap.size, 2, none⟩ = false := (heap_at (unhide KR) 2).2
    go_wp2_with fail
    refine bodyPost_ret (v := .tuple #[iv 0 false none 0 0, .bool false]) (by unfold iv; simp [results, Try.results35, go_sem, *] <;> rfl) rfl ?_
    first | exact unhide NO _ (unhide NN) b0 | exact unhide NO _ (unhide NN) (SB _ b0)
  replace h9 := Decidable.not_not.1 h9
  have g9 : ¬ ((xs.length : Int) < (p : Int) + 9) := by omega
  obtain ⟨b, off, rfl, _⟩ := hR.2 0 (by omega)
  have CELL := hide (show ∀ j, j < xs.length → ∀ u, Below w.heap.size w u → u.cell? ⟨b, off + j, none⟩ = some (.int .u8 (xs.getD j 0)) from fun j hj u hu => by
    obtain ⟨b', off', e, hcell⟩ := (row_grow' hR hu).2 j hj
    cases e
    exact hcell)
  have i0 : (0 : Int) ≤ (p : Int) := by omega
  have i1 : (p : Int) < (xs.length : Int) := by omega
  have mb := getD_bytes h8 p
  by_cases hmk : ¬ (xs.getD p 0 = 1 ∨ xs.getD p 0 = 2)
  · have NN := hide (next_no9 (b := xs) (p := p) (fun h => hmk h.2.1))
    have cm := unhide CELL p (by omega) _ b0
    have g1 : xs.getD p 0 < 1 ∨ 2 < xs.getD p 0 := by omega
    generalize xs.getD p 0 = mk at *
    clear hR h8 CELL
    rcases g1 with g1 | g1
    · go_enter Try.func35, Try.ntmps35
      go_wp2_with fail
      generalize w.alloc (.cells #[.int .i64 0, .bool false, .slice none 0 0] 48) = W at *
      have y0 : W.cell? ⟨w.heap.size, 0, none⟩ = some (.int .i64 0) := (heap_at (unhide KR) 0).1
      have y1 : W.cell? ⟨w.heap.size, 1, none⟩ = some (.bool false) := (heap_at (unhide KR) 1).1
      have y2 : W.cell? ⟨w.heap.size, 2, none⟩ = some (.slice none 0 0) := (heap_at (unhide KR) 2).1
      have f0 : W.frozen? ⟨w.heap.size, 0, none⟩ = false := (heap_at (unhide KR) 0).2
      have f1 : W.frozen? ⟨w.heap.size, 1, none⟩ = false := (heap_at (unhide KR) 1).2
      have f2 : W.frozen? ⟨w.heap.size, 2, none⟩ = false := (heap_at (unhide KR) 2).2
      go_wp2_with fail
      refine bodyPost_ret (v := .tuple #[iv 0 false none 0 0, .bool false]) (by unfold iv; simp [results, Try.results35, go_sem, *] <;> rfl) rfl ?_
      first | exact unhide NO _ (unhide NN) b0 | exact unhide NO _ (unhide NN) (SB _ b0)
    · have g2 : ¬ mk < 1 := by omega
      go_enter Try.func35, Try.ntmps35
      go_wp2_with fail
      generalize w.alloc (.cells #[.int .i64 0, .bool false, .slice none 0 0] 48) = W at *
      have y0 : W.cell? ⟨w.heap.size, 0, none⟩ = some (.int .i64 0) := (heap_at (unhide KR) 0).1
      have y1 : W.cell? ⟨w.heap.size, 1, none⟩ = some (.bool false) := (heap_at (unhide KR) 1).1
      have y2 : W.cell? ⟨w.heap.size, 2, none⟩ = some (.slice none 0 0) := (heap_at (unhide KR) 2).1
      have f0 : W.frozen? ⟨w.heap.size, 0, none⟩ = false := (heap_at (unhide KR) 0).2
      have f1 : W.frozen? ⟨w.heap.size, 1, none⟩ = false := (heap_at (unhide KR) 1).2
      have f2 : W.frozen? ⟨w.heap.size, 2, none⟩ = false := (heap_at (unhide KR) 2).2
      go_wp2_with fail
      refine bodyPost_ret (v := .tuple #[iv 0 false none 0 0, .bool false]) (by unfold iv; simp [results, Try.results35, go_sem, *] <;> rfl) rfl ?_
      first | exact unhide NO _ (unhide NN) b0 | exact unhide NO _ (unhide NN) (SB _ b0)
  replace hmk := Decidable.not_not.1 hmk
  have wr3 : IntKind.i64.wrap ((p : Int) + 3) = (p : Int) + 3 := by rw [IntKind.wrap_i64]; omega
  have wr4 : IntKind.i64.wrap ((p : Int) + 4) = (p : Int) + 4 := by rw [IntKind.wrap_i64]; omega
  have wl : IntKind.i64.wrap (xs.getD (p + 3) 0) = xs.getD (p + 3) 0 := by have := getD_bytes h8 (p + 3); rw [IntKind.wrap_i64]; omega
  have wl2 : IntKind.i64.wrap (xs.getD (p + 4) 0) = xs.getD (p + 4) 0 := by have := getD_bytes h8 (p + 4); rw [IntKind.wrap_i64]; omega
  have wl3 : IntKind.i64.wrap (xs.getD (p + 3) 0 * 256) = xs.getD (p + 3) 0 * 256 := by have := getD_bytes h8 (p + 3); rw [IntKind.wrap_i64]; omega
  have wl4 : IntKind.i64.wrap (xs.getD (p + 3) 0 * 256 + xs.getD (p + 4) 0) = (lenAt xs p : Int) := by have h3 := getD_bytes h8 (p + 3); have h4 := getD_bytes h8 (p + 4); rw [lenAt_eq h8, IntKind.wrap_i64]; omega
  have LE := lenAt_le h8 p
  have c3 := unhide CELL (p + 3) (by omega) _ b0
  have c4 := unhide CELL (p + 4) (by omega) _ b0
  have cm := unhide CELL p (by omega) _ b0
  have i3 : (0 : Int) ≤ (p : Int) + 3 := by omega
  have i3' : (p : Int) + 3 < (xs.length : Int) := by omega
  have i3t : ((p : Int) + 3).toNat = p + 3 := by omega
  have i4 : (0 : Int) ≤ (p : Int) + 4 := by omega
  have i4' : (p : Int) + 4 < (xs.length : Int) := by omega
  have i4t : ((p : Int) + 4).toNat = p + 4 := by omega
  have gm1 : ¬ xs.getD p 0 < 1 := by omega
  have gm2 : ¬ 2 < xs.getD p 0 := by omega
  have LQ := hide (lenAt_eq h8 p)
  have NN6 := hide (show ¬ p + 9 + lenAt xs p ≤ xs.length → nextI xs p = none from fun h => next_no9 (fun k => h k.2.2))
  obtain ⟨mk, hM⟩ : ∃ mk, mk = xs.getD p 0 := ⟨_, rfl⟩
  rw [← hM] at cm gm1 gm2 hmk mb
  have HM := hide hM
  clear hM
  generalize xs.getD (p + 3) 0 = m3 at c3 wl wl3 wl4
  generalize xs.getD (p + 4) 0 = m4 at c4 wl2 wl4
  generalize hln : lenAt xs p = sz at wl4
  go_enter Try.func35, Try.ntmps35
  go_wp2_with fail
  generalize hW1 : w.alloc (.cells #[.int .i64 0, .bool false, .slice none 0 0] 48) = w1 at *
  go_quiet (fail)
  generalize hD1 : w1.drewN _ = w2 at *
  have B2 : Below w.heap.size w w2 := by rw [← hD1]; exact bel_drewN b0 _
  have K2 := hide (show w2.heap[w.heap.size]? = some (.cells #[.int .i64 0, .bool false, .slice none 0 0] 48 (0, 0)) by rw [← hD1]; exact unhide KR)
  have z2 : w.heap.size < w2.heap.size := by rw [← hD1]; show w.heap.size < w1.heap.size; omega
  subst hln
  clear KR hD1 hW1 c3 c4 cm wl wl2 wl3 wl4 i3 i3' i3t i4 i4' i4t wr3 wr4 b0 zs LQ
  by_cases h6 : ¬ (p + 9 + lenAt xs p ≤ xs.length)
  · have NN := hide (unhide NN6 h6)
    generalize lenAt xs p = sz at *
    have g6 : (xs.length : Int) < (p : Int) + 9 + (sz : Int) := by omega
    have wr5 : IntKind.i64.wrap ((p : Int) + 9 + (sz : Int)) = (p : Int) + 9 + (sz : Int) := by rw [IntKind.wrap_i64]; omega
    clear hR h8 CELL NN6
    have y0 : w2.cell? ⟨w.heap.size, 0, none⟩ = some (.int .i64 0) := (heap_at (unhide K2) 0).1
    have y1 : w2.cell? ⟨w.heap.size, 1, none⟩ = some (.bool false) := (heap_at (unhide K2) 1).1
    have y2 : w2.cell? ⟨w.heap.size, 2, none⟩ = some (.slice none 0 0) := (heap_at (unhide K2) 2).1
    have f0 : w2.frozen? ⟨w.heap.size, 0, none⟩ = false := (heap_at (unhide K2) 0).2
    have f1 : w2.frozen? ⟨w.heap.size, 1, none⟩ = false := (heap_at (unhide K2) 1).2
    have f2 : w2.frozen? ⟨w.heap.size, 2, none⟩ = false := (heap_at (unhide K2) 2).2
    go_wp2_with fail
    refine bodyPost_ret (v := .tuple #[iv 0 false none 0 0, .bool false]) (by unfold iv; simp [results, Try.results35, go_sem, *] <;> rfl) rfl ?_
    exact unhide NO _ (unhide NN) (SB _ B2)
  replace h6 := Decidable.not_not.1 h6
  have h5 : p + 5 + lenAt xs p ≤ xs.length := by omega
  have XL := imAt_len h5
  have XB := hide (imAt_bytes h8 p)
  have XI := imAt_id h8 p
  have NN3 := hide (show (imAt xs p).ok = false → nextI xs p = none from fun h3 => next_no (fun h => by rw [h3] at h; exact absurd h.2.2.1 (by decide)))
  have NN4 := hide (show ¬ (xs.drop p).take ((imAt xs p).xs.length + 9) = (imAt xs p).by → nextI xs p = none from fun h3 => next_no (fun h => h3 (by rw [XL]; exact h.2.2.2)))
  have NY4 := hide (show (imAt xs p).ok = true → (xs.drop p).take ((imAt xs p).xs.length + 9) = (imAt xs p).by → nextI xs p = some (imAt xs p) from fun h3 h4 => next_yes (by omega) h5 h3 (by rw [XL] at h4; exact h4))
  have XR := hide (show ∀ u, Below w.heap.size w u → Row u (some ⟨b, off + (p + 5), none⟩) (imAt xs p).xs.length (imAt xs p).xs from fun u hu => by
    rw [XL]
    exact sc_row_take (sc_row_drop (row_grow' hR hu) (p + 5)) (by omega))
  have XP := hide (show ∀ u, Below w.heap.size w u → Row u (some ⟨b, off + p, none⟩) ((imAt xs p).xs.length + 9) ((xs.drop p).take ((imAt xs p).xs.length + 9)) from fun u hu => sc_row_take (sc_row_drop (row_grow' hR hu) p) (by omega))
  have XG := hide (show (imAt xs p).gone = decide (xs.getD p 0 = 2) from rfl)
  have XD := hide (show (imAt xs p).id = xs.getD (p + 1) 0 * 256 + xs.getD (p + 2) 0 from rfl)
  have HD := hide (show Bytes8 ((xs.drop p).take ((imAt xs p).xs.length + 9)) from bytes8_drop h8 _ _)
  have m1b := getD_bytes h8 (p + 1)
  have m2b := getD_bytes h8 (p + 2)
  have C0 := hide (unhide CELL p (by omega))
  have C1 := hide (unhide CELL (p + 1) (by omega))
  have C2 := hide (unhide CELL (p + 2) (by omega))
  obtain ⟨X, hX⟩ : ∃ X, X = imAt xs p := ⟨_, rfl⟩
  rw [← hX] at XL XB XI NN3 NN4 NY4 XR XP XG XD HD
  generalize lenAt xs p = sz at *
  subst XL
  clear hX hR h8 CELL NN6 h5
  rw [← unhide HM] at XG C0
  clear HM
  generalize xs.getD (p + 1) 0 = m1 at *
  generalize xs.getD (p + 2) 0 = m2 at *
  generalize hYs : (xs.drop p).take (X.xs.length + 9) = Ys at *
  clear hYs
  generalize hnn : xs.length = n at *
  clear hnn
  have wr5 : IntKind.i64.wrap ((p : Int) + 9 + (X.xs.length : Int)) = (p : Int) + 9 + (X.xs.length : Int) := by rw [IntKind.wrap_i64]; omega
  have g6 : ¬ ((n : Int) < (p : Int) + 9 + (X.xs.length : Int)) := by omega
  have wra : IntKind.i64.wrap ((p : Int) + 1) = (p : Int) + 1 := by rw [IntKind.wrap_i64]; omega
  have wrb : IntKind.i64.wrap ((p : Int) + 2) = (p : Int) + 2 := by rw [IntKind.wrap_i64]; omega
  have wrc : IntKind.i64.wrap ((p : Int) + 5) = (p : Int) + 5 := by rw [IntKind.wrap_i64]; omega
  have wrd : IntKind.i64.wrap ((p : Int) + 5 + (X.xs.length : Int)) = (p : Int) + 5 + (X.xs.length : Int) := by rw [IntKind.wrap_i64]; omega
  have wre : IntKind.i64.wrap m1 = m1 := by rw [IntKind.wrap_i64]; omega
  have wrf : IntKind.i64.wrap m2 = m2 := by rw [IntKind.wrap_i64]; omega
  have wrg : IntKind.i64.wrap (m1 * 256) = m1 * 256 := by rw [IntKind.wrap_i64]; omega
  have wrh : IntKind.i64.wrap (m1 * 256 + m2) = X.id := by rw [unhide XD, IntKind.wrap_i64]; omega
  have j1 : (0 : Int) ≤ (p : Int) + 1 := by omega
  have j1' : (p : Int) + 1 < (n : Int) := by omega
  have j1t : ((p : Int) + 1).toNat = p + 1 := by omega
  have j2 : (0 : Int) ≤ (p : Int) + 2 := by omega
  have j2' : (p : Int) + 2 < (n : Int) := by omega
  have j2t : ((p : Int) + 2).toNat = p + 2 := by omega
  have j5 : (0 : Int) ≤ (p : Int) + 5 := by omega
  have j5' : (p : Int) + 5 ≤ (p : Int) + 5 + (X.xs.length : Int) := by omega
  have j6 : (p : Int) + 5 + (X.xs.length : Int) ≤ (c : Int) := by omega
  have j6' : (0 : Int) ≤ (p : Int) + 5 + (X.xs.length : Int) := by omega
  have j7 : ((p : Int) + 5).toNat = p + 5 := by omega
  have j8 : ((p : Int) + 5 + (X.xs.length : Int)).toNat = p + 5 + X.xs.length := by omega
  have j9 : p + 5 + X.xs.length - (p + 5) = X.xs.length := by omega
  have ja : max ((p : Int) + 5 + (X.xs.length : Int)) 0 = (p : Int) + 5 + (X.xs.length : Int) := by omega
  have jb : ¬ c = p + 5 := by omega
  have hgx : (mk == 2) = X.gone := (unhide XG).symm
  go_upto_region 6 with fail
  go_cut [7] (fun v wc => ∃ xb g cp, v = .pointer (some ⟨xb, 0, none⟩) ∧ Hid (ImBox w2 w2.heap.size xb g cp X wc))
  case first =>
    have SK := hide (show ∀ u, Below w2.heap.size w2 u → (fun u => Below w2.heap.size w2 u ∧ u.cell? ⟨b, off + p, none⟩ = some (.int .u8 mk) ∧ u.cell? ⟨b, off + (p + 1), none⟩ = some (.int .u8 m1) ∧ u.cell? ⟨b, off + (p + 2), none⟩ = some (.int .u8 m2)) u from fun u hu => ⟨hu, unhide C0 u (B2.trans (hu.mono B2.size)), unhide C1 u (B2.trans (hu.mono B2.size)), unhide C2 u (B2.trans (hu.mono B2.size))⟩)
    have AP := hide (fun (u : World) (q : Nat) (hu : Below w2.heap.size w2 u) (hO : Owns u w2.heap.size (.slice (some ⟨q, 0, none⟩) 0 0) []) => sc_copy2 (c := c - (p + 5)) 22 hO (unhide XR u (B2.trans (hu.mono B2.size))) (by omega) hu.size)
    have D0 := hide (show Below w2.heap.size w2 w2.drew from (Below.refl _ _).drew)
    refine wp_region_held_drew (S := (fun u => Below w2.heap.size w2 u ∧ u.cell? ⟨b, off + p, none⟩ = some (.int .u8 mk) ∧ u.cell? ⟨b, off + (p + 1), none⟩ = some (.int .u8 m1) ∧ u.cell? ⟨b, off + (p + 2), none⟩ = some (.int .u8 m2))) (by kernel_rfl) (unhide SK _ (unhide D0)) (fun hHeld => ?_)
    refine anyH_take 0 50 (v := ?v1) rfl rfl (by kernel_rfl) (by kernel_rfl) (by kernel_rfl) (fun _ _ _ h => h) (by rfl) ?h1 hHeld ?r1
    case h1 => (intro w hSw; (try dsimp only at hSw); go_simp; try (with_reducible rfl))
    simp only [Act.put, List.setIfInBounds_toArray, List.set_cons_zero, List.set_cons_succ]
    refine anyH_take 1 51 (v := ?v2) rfl rfl (by kernel_rfl) (by kernel_rfl) (by kernel_rfl) (fun _ _ _ h => h) (by rfl) ?h2 hHeld ?r2
    case h2 => (intro w hSw; (try dsimp only at hSw); go_simp; try (with_reducible rfl))
    simp only [Act.put, List.setIfInBounds_toArray, List.set_cons_zero, List.set_cons_succ]
    refine anyH_take 2 52 (v := ?v3) rfl rfl (by kernel_rfl) (by kernel_rfl) (by kernel_rfl) (fun _ _ _ h => h) (by rfl) ?h3 hHeld ?r3
    case h3 => (intro w hSw; (try dsimp only at hSw); go_simp; try (with_reducible rfl))
    simp only [Act.put, List.setIfInBounds_toArray, List.set_cons_zero, List.set_cons_succ]
    refine anyH_take 3 53 (v := ?v4) rfl rfl (by kernel_rfl) (by kernel_rfl) (by kernel_rfl) (fun _ _ _ h => h) (by rfl) ?h4 hHeld ?r4
    case h4 => (intro w hSw; (try dsimp only at hSw); go_simp; try (with_reducible rfl))
    simp only [Act.put, List.setIfInBounds_toArray, List.set_cons_zero, List.set_cons_succ]
    refine anyH_take 4 54 (v := ?v5) rfl rfl (by kernel_rfl) (by kernel_rfl) (by kernel_rfl) (fun _ _ _ h => h) (by rfl) ?h5 hHeld ?r5
    case h5 => (intro w hSw; (try dsimp only at hSw); go_simp; try (with_reducible rfl))
    simp only [Act.put, List.setIfInBounds_toArray, List.set_cons_zero, List.set_cons_succ]
    refine anyH_take 5 55 (v := ?v6) rfl rfl (by kernel_rfl) (by kernel_rfl) (by kernel_rfl) (fun _ _ _ h => h) (by rfl) ?h6 hHeld ?r6
    case h6 => (intro w hSw; (try dsimp only at hSw); go_simp; try (with_reducible rfl))
    simp only [Act.put, List.setIfInBounds_toArray, List.set_cons_zero, List.set_cons_succ]
    refine anyH_take 6 56 (v := ?v7) rfl rfl (by kernel_rfl) (by kernel_rfl) (by kernel_rfl) (fun _ _ _ h => h) (by rfl) ?h7 hHeld ?r7
    case h7 => (intro w hSw; (try dsimp only at hSw); go_simp; try (with_reducible rfl))
    simp only [Act.put, List.setIfInBounds_toArray, List.set_cons_zero, List.set_cons_succ]
    refine anyH_take 7 57 (v := ?v8) rfl rfl (by kernel_rfl) (by kernel_rfl) (by kernel_rfl) (fun _ _ _ h => h) (by rfl) ?h8 hHeld ?r8
    case h8 => (intro w hSw; (try dsimp only at hSw); go_simp; try (with_reducible rfl))
    simp only [Act.put, List.setIfInBounds_toArray, List.set_cons_zero, List.set_cons_succ]
    refine anyH_take 8 58 (v := ?v9) rfl rfl (by kernel_rfl) (by kernel_rfl) (by kernel_rfl) (fun _ _ _ h => h) (by rfl) ?h9 hHeld ?r9
    case h9 => (intro w hSw; (try dsimp only at hSw); go_simp; try (with_reducible rfl))
    simp only [Act.put, List.setIfInBounds_toArray, List.set_cons_zero, List.set_cons_succ]
    refine anyH_take 9 59 (v := ?v10) rfl rfl (by kernel_rfl) (by kernel_rfl) (by kernel_rfl) (fun _ _ _ h => h) (by rfl) ?h10 hHeld ?r10
    case h10 => (intro w hSw; (try dsimp only at hSw); go_simp; try (with_reducible rfl))
    simp only [Act.put, List.setIfInBounds_toArray, List.set_cons_zero, List.set_cons_succ]
    refine anyH_take 10 60 (v := ?v11) rfl rfl (by kernel_rfl) (by kernel_rfl) (by kernel_rfl) (fun _ _ _ h => h) (by rfl) ?h11 hHeld ?r11
    case h11 => (intro w hSw; (try dsimp only at hSw); go_simp; try (with_reducible rfl))
    simp only [Act.put, List.setIfInBounds_toArray, List.set_cons_zero, List.set_cons_succ]
    refine anyH_take 11 61 (v := ?v12) rfl rfl (by kernel_rfl) (by kernel_rfl) (by kernel_rfl) (fun _ _ _ h => h) (by rfl) ?h12 hHeld ?r12
    case h12 => (intro w hSw; (try dsimp only at hSw); go_simp; try (with_reducible rfl))
    simp only [Act.put, List.setIfInBounds_toArray, List.set_cons_zero, List.set_cons_succ]
    refine anyH_take 12 62 (v := ?v13) rfl rfl (by kernel_rfl) (by kernel_rfl) (by kernel_rfl) (fun _ _ _ h => h) (by rfl) ?h13 hHeld ?r13
    case h13 => (intro w hSw; (try dsimp only at hSw); go_simp; try (with_reducible rfl))
    simp only [Act.put, List.setIfInBounds_toArray, List.set_cons_zero, List.set_cons_succ]
    refine anyH_take 13 63 (v := ?v14) rfl rfl (by kernel_rfl) (by kernel_rfl) (by kernel_rfl) (fun _ _ _ h => h) (by rfl) ?h14 hHeld ?r14
    case h14 => (intro w hSw; (try dsimp only at hSw); go_simp; try (with_reducible rfl))
    simp only [Act.put, List.setIfInBounds_toArray, List.set_cons_zero, List.set_cons_succ]
    refine anyH_take 14 64 (v := ?v15) rfl rfl (by kernel_rfl) (by kernel_rfl) (by kernel_rfl) (fun _ _ _ h => h) (by rfl) ?h15 hHeld ?r15
    case h15 => (intro w hSw; (try dsimp only at hSw); go_simp; try (with_reducible rfl))
    simp only [Act.put, List.setIfInBounds_toArray, List.set_cons_zero, List.set_cons_succ]
    refine anyH_take 15 65 (v := ?v16) rfl rfl (by kernel_rfl) (by kernel_rfl) (by kernel_rfl) (fun _ _ _ h => h) (by rfl) ?h16 hHeld ?r16
    case h16 => (intro w hSw; (try dsimp only at hSw); go_simp; try (with_reducible rfl))
    simp only [Act.put, List.setIfInBounds_toArray, List.set_cons_zero, List.set_cons_succ]
    refine anyH_take 16 66 (v := ?v17) rfl rfl (by kernel_rfl) (by kernel_rfl) (by kernel_rfl) (fun _ _ _ h => h) (by rfl) ?h17 hHeld ?r17
    case h17 => (intro w hSw; (try dsimp only at hSw); go_simp; try (with_reducible rfl))
    simp only [Act.put, List.setIfInBounds_toArray, List.set_cons_zero, List.set_cons_succ]
    refine anyH_take 17 67 (v := ?v18) rfl rfl (by kernel_rfl) (by kernel_rfl) (by kernel_rfl) (fun _ _ _ h => h) (by rfl) ?h18 hHeld ?r18
    case h18 => (intro w hSw; (try dsimp only at hSw); go_simp; try (with_reducible rfl))
    simp only [Act.put, List.setIfInBounds_toArray, List.set_cons_zero, List.set_cons_succ]
    refine anyH_take 18 68 (v := ?v19) rfl rfl (by kernel_rfl) (by kernel_rfl) (by kernel_rfl) (fun _ _ _ h => h) (by rfl) ?h19 hHeld ?r19
    case h19 => (intro w hSw; (try dsimp only at hSw); go_simp; try (with_reducible rfl))
    simp only [Act.put, List.setIfInBounds_toArray, List.set_cons_zero, List.set_cons_succ]
    refine anyH_take 20 70 (v := ?v20) rfl rfl (by kernel_rfl) (by kernel_rfl) (by kernel_rfl) (fun _ _ _ h => h) (by rfl) ?h20 hHeld ?r20
    case h20 => (intro w hSw; (try dsimp only at hSw); go_simp; try (with_reducible rfl))
    simp only [Act.put, List.setIfInBounds_toArray, List.set_cons_zero, List.set_cons_succ]
    refine anyH_take 21 71 (v := ?v21) rfl rfl (by kernel_rfl) (by kernel_rfl) (by kernel_rfl) (fun _ _ _ h => h) (by rfl) ?h21 hHeld ?r21
    case h21 => (intro w hSw; (try dsimp only at hSw); go_simp; try (with_reducible rfl))
    simp only [Act.put, List.setIfInBounds_toArray, List.set_cons_zero, List.set_cons_succ]
    refine anyH_take 22 72 (v := ?v22) rfl rfl (by kernel_rfl) (by kernel_rfl) (by kernel_rfl) (fun _ _ _ h => h) (by rfl) ?h22 hHeld ?r22
    case h22 => (intro w hSw; (try dsimp only at hSw); go_simp; try (with_reducible rfl))
    simp only [Act.put, List.setIfInBounds_toArray, List.set_cons_zero, List.set_cons_succ]
    refine anyH_take 23 73 (v := ?v23) rfl rfl (by kernel_rfl) (by kernel_rfl) (by kernel_rfl) (fun _ _ _ h => h) (by rfl) ?h23 hHeld ?r23
    case h23 => (intro w hSw; (try dsimp only at hSw); go_simp; try (with_reducible rfl))
    simp only [Act.put, List.setIfInBounds_toArray, List.set_cons_zero, List.set_cons_succ]
    refine anyH_take 24 74 (v := ?v24) rfl rfl (by kernel_rfl) (by kernel_rfl) (by kernel_rfl) (fun _ _ _ h => h) (by rfl) ?h24 hHeld ?r24
    case h24 => (intro w hSw; (try dsimp only at hSw); go_simp; try (with_reducible rfl))
    simp only [Act.put, List.setIfInBounds_toArray, List.set_cons_zero, List.set_cons_succ]
    refine anyH_take 25 75 (v := ?v25) rfl rfl (by kernel_rfl) (by kernel_rfl) (by kernel_rfl) (fun _ _ _ h => h) (by rfl) ?h25 hHeld ?r25
    case h25 => (intro w hSw; (try dsimp only at hSw); go_simp; try (with_reducible rfl))
    simp only [Act.put, List.setIfInBounds_toArray, List.set_cons_zero, List.set_cons_succ]
    refine anyH_take 26 76 (v := ?v26) rfl rfl (by kernel_rfl) (by kernel_rfl) (by kernel_rfl) (fun _ _ _ h => h) (by rfl) ?h26 hHeld ?r26
    case h26 => (intro w hSw; (try dsimp only at hSw); go_simp; try (with_reducible rfl))
    simp only [Act.put, List.setIfInBounds_toArray, List.set_cons_zero, List.set_cons_succ]
    refine anyH_take 27 77 (v := ?v27) rfl rfl (by kernel_rfl) (by kernel_rfl) (by kernel_rfl) (fun _ _ _ h => h) (by rfl) ?h27 hHeld ?r27
    case h27 => (intro w hSw; (try dsimp only at hSw); go_simp; try (with_reducible rfl))
    simp only [Act.put, List.setIfInBounds_toArray, List.set_cons_zero, List.set_cons_succ]
    refine wpAnyH_ready (rs := [19, 30]) (by kernel_rfl) (by simp) ?_
    refine AllReadyH.cons rfl (fun K hK => ?_) (AllReadyH.cons rfl (fun K hK => ?_) AllReadyH.nil)
    · have hb : Below w2.drew.heap.size w2.drew (w2.drew.alloc (.cells #[] 5)) := (Below.refl _ _).alloc (Nat.le_refl _) _
      have D19 := hide ((unhide D0).trans (hb.mono (unhide D0).size))
      have OE19 := hide (show Owns (w2.drew.alloc (.cells #[] 5)) w2.heap.size (.slice (some ⟨w2.heap.size, 0, none⟩) 0 0) [] from (by have h : Owns (w2.drew.alloc (.cells #[] 5)) w2.heap.size (.slice (some ⟨w2.drew.heap.size, 0, none⟩) 0 0) [] := World.ownsRow_lit _ _ _ (unhide D0).size (by unfold maxLen; simp) rfl; exact h))
      clear hb
      go_simp
      refine hK.out _ _ (unhide SK _ (unhide D19)) (fun hHeld => ?_)
      clear hK K
      refine wpAnyH_ready (rs := [28, 30]) (by kernel_rfl) (by simp) ?_
      refine AllReadyH.cons rfl (fun K hK => ?_) (AllReadyH.cons rfl (fun K hK => ?_) AllReadyH.nil)
      · obtain ⟨g, cp, u19_28, hrun, ho, hgq, hg⟩ := unhide AP _ _ (unhide D19) (unhide OE19)
        have hb : Below w2.heap.size (w2.drew.alloc (.cells #[] 5)) u19_28 := (Below.refl _ _).grown hg (unhide D19).size (fun i hi => by have e : w2.heap.size = i := (by simpa using hi); have := (unhide D0).size; omega)
        have D19_28 := hide ((unhide D19).trans hb)
        have OX19_28 := hide ho
        refine sc_stepApp rfl (.tmp 69) (.tmp 77) 22 rfl _ _ _ u19_28 (by first | rfl | (simp [Act.eval]; done) | (simp [Act.eval, Act.put]; done)) (by first | rfl | (simp [Act.eval]; done) | (simp [Act.eval, Act.put]; done)) hrun ?_
        refine hK.out _ _ (unhide SK _ (unhide D19_28)) (fun hHeld => ?_)
        clear hK K
        clear hb ho hgq hg hrun
        refine anyH_take 29 79 (v := ?v28) rfl rfl (by kernel_rfl) (by kernel_rfl) (by kernel_rfl) (fun _ _ _ h => h) (by rfl) ?h28 hHeld ?r28
        case h28 => (intro w hSw; (try dsimp only at hSw); go_simp; try (with_reducible rfl))
        simp only [Act.put, List.setIfInBounds_toArray]
        refine wpAnyH_ready (rs := [30]) (by kernel_rfl) (by simp) ?_
        refine AllReadyH.cons rfl (fun K hK => ?_) AllReadyH.nil
        have hb : Below u19_28.heap.size u19_28 (u19_28.alloc (.cells #[.int .i64 0, .bool false, .slice none 0 0] 48)) := (Below.refl _ _).alloc (Nat.le_refl _) _
        have D19_28_30 := hide ((unhide D19_28).trans (hb.mono (unhide D19_28).size))
        have KX19_28_30 := hide (show (u19_28.alloc (.cells #[.int .i64 0, .bool false, .slice none 0 0] 48)).heap[u19_28.heap.size]? = some (.cells #[.int .i64 0, .bool false, .slice none 0 0] 48 (0, 0)) from (by have h := heap_alloc_new u19_28 (.cells #[.int .i64 0, .bool false, .slice none 0 0] 48); exact h))
        have OX19_28_30 := hide (owns_below (unhide OX19_28) hb)
        have NX19_28_30 : g ≠ u19_28.heap.size := fun e => by have h1 := (sc_g (unhide OX19_28)).2; omega
        clear hb
        go_simp
        refine hK.out _ _ (unhide SK _ (unhide D19_28_30)) (fun hHeld => ?_)
        clear hK K
        refine wpAnyH_ready (rs := [31]) (by kernel_rfl) (by simp) ?_
        refine AllReadyH.cons rfl (fun K hK => ?_) AllReadyH.nil
        have y0 : (u19_28.alloc (.cells #[.int .i64 0, .bool false, .slice none 0 0] 48)).cell? ⟨u19_28.heap.size, 0, none⟩ = some (.int .i64 0) := (heap_at (unhide KX19_28_30) 0).1
        have y1 : (u19_28.alloc (.cells #[.int .i64 0, .bool false, .slice none 0 0] 48)).cell? ⟨u19_28.heap.size, 1, none⟩ = some (.bool false) := (heap_at (unhide KX19_28_30) 1).1
        have y2 : (u19_28.alloc (.cells #[.int .i64 0, .bool false, .slice none 0 0] 48)).cell? ⟨u19_28.heap.size, 2, none⟩ = some (.slice none 0 0) := (heap_at (unhide KX19_28_30) 2).1
        have f0 : (u19_28.alloc (.cells #[.int .i64 0, .bool false, .slice none 0 0] 48)).frozen? ⟨u19_28.heap.size, 0, none⟩ = false := (heap_at (unhide KX19_28_30) 0).2
        have f1 : (u19_28.alloc (.cells #[.int .i64 0, .bool false, .slice none 0 0] 48)).frozen? ⟨u19_28.heap.size, 1, none⟩ = false := (heap_at (unhide KX19_28_30) 1).2
        have f2 : (u19_28.alloc (.cells #[.int .i64 0, .bool false, .slice none 0 0] 48)).frozen? ⟨u19_28.heap.size, 2, none⟩ = false := (heap_at (unhide KX19_28_30) 2).2
        have BX := hide (ImBox.of_new (X := X) (unhide OX19_28) (unhide D19_28))
        go_simp
        refine hK.out _ _ (unhide SK _ (unhide BX).bel) (fun hHeld => ?_)
        clear hK K
        refine wpAnyH_done (by kernel_rfl) ?_ _
        go_wp2_with fail
        go_meet
        case rel => exact ⟨_, _, _, rfl, unhide BX⟩
      · have hb : Below (w2.drew.alloc (.cells #[] 5)).heap.size (w2.drew.alloc (.cells #[] 5)) ((w2.drew.alloc (.cells #[] 5)).alloc (.cells #[.int .i64 0, .bool false, .slice none 0 0] 48)) := (Below.refl _ _).alloc (Nat.le_refl _) _
        have D19_30 := hide ((unhide D19).trans (hb.mono (unhide D19).size))
        have hz : (w2.drew.alloc (.cells #[] 5)).heap.size = w2.heap.size + 1 := by simp
        have KX19_30 := hide (show ((w2.drew.alloc (.cells #[] 5)).alloc (.cells #[.int .i64 0, .bool false, .slice none 0 0] 48)).heap[w2.heap.size + 1]? = some (.cells #[.int .i64 0, .bool false, .slice none 0 0] 48 (0, 0)) from (by have h := heap_alloc_new (w2.drew.alloc (.cells #[] 5)) (.cells #[.int .i64 0, .bool false, .slice none 0 0] 48); rw [hz] at h; exact h))
        have OE19_30 := hide (owns_below (unhide OE19) hb)
        clear hb hz
        go_simp
        refine hK.out _ _ (unhide SK _ (unhide D19_30)) (fun hHeld => ?_)
        clear hK K
        refine wpAnyH_ready (rs := [28]) (by kernel_rfl) (by simp) ?_
        refine AllReadyH.cons rfl (fun K hK => ?_) AllReadyH.nil
        obtain ⟨g, cp, u19_30_28, hrun, ho, hgq, hg⟩ := unhide AP _ _ (unhide D19_30) (unhide OE19_30)
        have hb : Below w2.heap.size ((w2.drew.alloc (.cells #[] 5)).alloc (.cells #[.int .i64 0, .bool false, .slice none 0 0] 48)) u19_30_28 := (Below.refl _ _).grown hg (unhide D19_30).size (fun i hi => by have e : w2.heap.size = i := (by simpa using hi); have := (unhide D0).size; omega)
        have D19_30_28 := hide ((unhide D19_30).trans hb)
        have OX19_30_28 := hide ho
        have KX19_30_28 := hide ((hg.block (w2.heap.size + 1) (by exact (Array.getElem?_eq_some_iff.1 (unhide KX19_30)).1) (fun e => by injection e with e; omega)).trans (unhide KX19_30))
        have NX19_30_28 : g ≠ w2.heap.size + 1 := fun e => by have hk := (Array.getElem?_eq_some_iff.1 (unhide KX19_30)).1; rcases hgq with h | h <;> (rw [h] at e; simp at e hk; try omega)
        refine sc_stepApp rfl (.tmp 69) (.tmp 77) 22 rfl _ _ _ u19_30_28 (by first | rfl | (simp [Act.eval]; done) | (simp [Act.eval, Act.put]; done)) (by first | rfl | (simp [Act.eval]; done) | (simp [Act.eval, Act.put]; done)) hrun ?_
        refine hK.out _ _ (unhide SK _ (unhide D19_30_28)) (fun hHeld => ?_)
        clear hK K
        clear hb ho hgq hg hrun
        refine anyH_take 29 79 (v := ?v29) rfl rfl (by kernel_rfl) (by kernel_rfl) (by kernel_rfl) (fun _ _ _ h => h) (by rfl) ?h29 hHeld ?r29
        case h29 => (intro w hSw; (try dsimp only at hSw); go_simp; try (with_reducible rfl))
        simp only [Act.put, List.setIfInBounds_toArray]
        refine wpAnyH_ready (rs := [31]) (by kernel_rfl) (by simp) ?_
        refine AllReadyH.cons rfl (fun K hK => ?_) AllReadyH.nil
        have y0 : u19_30_28.cell? ⟨w2.heap.size + 1, 0, none⟩ = some (.int .i64 0) := (heap_at (unhide KX19_30_28) 0).1
        have y1 : u19_30_28.cell? ⟨w2.heap.size + 1, 1, none⟩ = some (.bool false) := (heap_at (unhide KX19_30_28) 1).1
        have y2 : u19_30_28.cell? ⟨w2.heap.size + 1, 2, none⟩ = some (.slice none 0 0) := (heap_at (unhide KX19_30_28) 2).1
        have f0 : u19_30_28.frozen? ⟨w2.heap.size + 1, 0, none⟩ = false := (heap_at (unhide KX19_30_28) 0).2
        have f1 : u19_30_28.frozen? ⟨w2.heap.size + 1, 1, none⟩ = false := (heap_at (unhide KX19_30_28) 1).2
        have f2 : u19_30_28.frozen? ⟨w2.heap.size + 1, 2, none⟩ = false := (heap_at (unhide KX19_30_28) 2).2
        have BX := hide (ImBox.of_store (X := X) (unhide KX19_30_28) (unhide OX19_30_28) NX19_30_28 (by omega) (unhide D19_30_28))
        go_simp
        refine hK.out _ _ (unhide SK _ (unhide BX).bel) (fun hHeld => ?_)
        clear hK K
        refine wpAnyH_done (by kernel_rfl) ?_ _
        go_wp2_with fail
        go_meet
        case rel => exact ⟨_, _, _, rfl, unhide BX⟩
    · have hb : Below w2.drew.heap.size w2.drew (w2.drew.alloc (.cells #[.int .i64 0, .bool false, .slice none 0 0] 48)) := (Below.refl _ _).alloc (Nat.le_refl _) _
      have D30 := hide ((unhide D0).trans (hb.mono (unhide D0).size))
      have KX30 := hide (show (w2.drew.alloc (.cells #[.int .i64 0, .bool false, .slice none 0 0] 48)).heap[w2.heap.size]? = some (.cells #[.int .i64 0, .bool false, .slice none 0 0] 48 (0, 0)) from (by have h := heap_alloc_new w2.drew (.cells #[.int .i64 0, .bool false, .slice none 0 0] 48); exact h))
      clear hb
      go_simp
      refine hK.out _ _ (unhide SK _ (unhide D30)) (fun hHeld => ?_)
      clear hK K
      refine wpAnyH_ready (rs := [19]) (by kernel_rfl) (by simp) ?_
      refine AllReadyH.cons rfl (fun K hK => ?_) AllReadyH.nil
      have hb : Below (w2.drew.alloc (.cells #[.int .i64 0, .bool false, .slice none 0 0] 48)).heap.size (w2.drew.alloc (.cells #[.int .i64 0, .bool false, .slice none 0 0] 48)) ((w2.drew.alloc (.cells #[.int .i64 0, .bool false, .slice none 0 0] 48)).alloc (.cells #[] 5)) := (Below.refl _ _).alloc (Nat.le_refl _) _
      have D30_19 := hide ((unhide D30).trans (hb.mono (unhide D30).size))
      have hz : (w2.drew.alloc (.cells #[.int .i64 0, .bool false, .slice none 0 0] 48)).heap.size = w2.heap.size + 1 := by simp
      have KX30_19 := hide (sc_at_below (unhide KX30) hb)
      have OE30_19 := hide (show Owns ((w2.drew.alloc (.cells #[.int .i64 0, .bool false, .slice none 0 0] 48)).alloc (.cells #[] 5)) w2.heap.size (.slice (some ⟨w2.heap.size + 1, 0, none⟩) 0 0) [] from (by have h : Owns ((w2.drew.alloc (.cells #[.int .i64 0, .bool false, .slice none 0 0] 48)).alloc (.cells #[] 5)) w2.heap.size (.slice (some ⟨(w2.drew.alloc (.cells #[.int .i64 0, .bool false, .slice none 0 0] 48)).heap.size, 0, none⟩) 0 0) [] := World.ownsRow_lit _ _ _ (unhide D30).size (by unfold maxLen; simp) rfl; rw [hz] at h; exact h))
      clear hb hz
      go_simp
      refine hK.out _ _ (unhide SK _ (unhide D30_19)) (fun hHeld => ?_)
      clear hK K
      refine wpAnyH_ready (rs := [28]) (by kernel_rfl) (by simp) ?_
      refine AllReadyH.cons rfl (fun K hK => ?_) AllReadyH.nil
      obtain ⟨g, cp, u30_19_28, hrun, ho, hgq, hg⟩ := unhide AP _ _ (unhide D30_19) (unhide OE30_19)
      have hb : Below w2.heap.size ((w2.drew.alloc (.cells #[.int .i64 0, .bool false, .slice none 0 0] 48)).alloc (.cells #[] 5)) u30_19_28 := (Below.refl _ _).grown hg (unhide D30_19).size (fun i hi => by have e : w2.heap.size + 1 = i := (by simpa using hi); have := (unhide D30).size; omega)
      have D30_19_28 := hide ((unhide D30_19).trans hb)
      have OX30_19_28 := hide ho
      have KX30_19_28 := hide ((hg.block (w2.heap.size) (by exact (Array.getElem?_eq_some_iff.1 (unhide KX30_19)).1) (fun e => by injection e with e; omega)).trans (unhide KX30_19))
      have NX30_19_28 : g ≠ w2.heap.size := fun e => by have hk := (Array.getElem?_eq_some_iff.1 (unhide KX30_19)).1; rcases hgq with h | h <;> (rw [h] at e; simp at e hk; try omega)
      refine sc_stepApp rfl (.tmp 69) (.tmp 77) 22 rfl _ _ _ u30_19_28 (by first | rfl | (simp [Act.eval]; done) | (simp [Act.eval, Act.put]; done)) (by first | rfl | (simp [Act.eval]; done) | (simp [Act.eval, Act.put]; done)) hrun ?_
      refine hK.out _ _ (unhide SK _ (unhide D30_19_28)) (fun hHeld => ?_)
      clear hK K
      clear hb ho hgq hg hrun
      refine anyH_take 29 79 (v := ?v30) rfl rfl (by kernel_rfl) (by kernel_rfl) (by kernel_rfl) (fun _ _ _ h => h) (by rfl) ?h30 hHeld ?r30
      case h30 => (intro w hSw; (try dsimp only at hSw); go_simp; try (with_reducible rfl))
      simp only [Act.put, List.setIfInBounds_toArray]
      refine wpAnyH_ready (rs := [31]) (by kernel_rfl) (by simp) ?_
      refine AllReadyH.cons rfl (fun K hK => ?_) AllReadyH.nil
      have y0 : u30_19_28.cell? ⟨w2.heap.size, 0, none⟩ = some (.int .i64 0) := (heap_at (unhide KX30_19_28) 0).1
      have y1 : u30_19_28.cell? ⟨w2.heap.size, 1, none⟩ = some (.bool false) := (heap_at (unhide KX30_19_28) 1).1
      have y2 : u30_19_28.cell? ⟨w2.heap.size, 2, none⟩ = some (.slice none 0 0) := (heap_at (unhide KX30_19_28) 2).1
      have f0 : u30_19_28.frozen? ⟨w2.heap.size, 0, none⟩ = false := (heap_at (unhide KX30_19_28) 0).2
      have f1 : u30_19_28.frozen? ⟨w2.heap.size, 1, none⟩ = false := (heap_at (unhide KX30_19_28) 1).2
      have f2 : u30_19_28.frozen? ⟨w2.heap.size, 2, none⟩ = false := (heap_at (unhide KX30_19_28) 2).2
      have BX := hide (ImBox.of_store (X := X) (unhide KX30_19_28) (unhide OX30_19_28) NX30_19_28 (Nat.le_refl _) (unhide D30_19_28))
      go_simp
      refine hK.out _ _ (unhide SK _ (unhide BX).bel) (fun hHeld => ?_)
      clear hK K
      refine wpAnyH_done (by kernel_rfl) ?_ _
      go_wp2_with fail
      go_meet
      case rel => exact ⟨_, _, _, rfl, unhide BX⟩
  case rest =>
    obtain ⟨xb, g, cp, rfl, hbx⟩ := hcut
    have B3 := hide (B2.trans ((unhide hbx).bel.mono B2.size))
    have K3 := hide ((((unhide hbx).bel.block w.heap.size z2)).trans (unhide K2))
    have BX := hide (unhide hbx).box
    have OX := hide (unhide hbx).own
    have NEX : xb ≠ w.heap.size := by have := (unhide hbx).ge; omega
    have GGE : w2.heap.size ≤ g := (sc_g (unhide OX)).1
    clear hbx K2 C0 C1 C2 wra wrb wrc wrd wre wrf wrg wrh j1 j1' j1t j2 j2' j2t j5 j5' j6 j6' j7 j8 j9 ja jb hgx XR XD XG
    have SK := hide (show ∀ u, Below wc.heap.size wc u → (fun u => Below wc.heap.size wc u ∧ u.cell? ⟨xb, 0, none⟩ = some (.int .i64 X.id) ∧ u.cell? ⟨xb, 1, none⟩ = some (.bool X.gone) ∧ u.cell? ⟨xb, 2, none⟩ = some (.slice (some ⟨g, 0, none⟩) X.xs.length cp) ∧ (convert 22 9 (.slice (some ⟨b, off + p, none⟩) (X.xs.length + 9) (c - p))).run Try.prog u = .ok (.string (strOfNums Ys)) u) u from fun u hu => ⟨hu, (heap_at (sc_at_below (unhide BX) hu) 0).1, (heap_at (sc_at_below (unhide BX) hu) 1).1, (heap_at (sc_at_below (unhide BX) hu) 2).1, sc_conv (unhide XP u ((unhide B3).trans (hu.mono (unhide B3).size)))⟩)
    have D0 := hide (show Below wc.heap.size wc wc.drew from (Below.refl _ _).drew)
    have IMG := hide (fun (u : World) => l03Image_any X.id X.gone (some ⟨g, 0, none⟩) X.xs.length cp u (by unfold maxLen; omega))
    have k9 : (p : Int) ≤ (p : Int) + 9 + (X.xs.length : Int) := by omega
    have k9' : (p : Int) + 9 + (X.xs.length : Int) ≤ (c : Int) := by omega
    have k9a : (0 : Int) ≤ (p : Int) + 9 + (X.xs.length : Int) := by omega
    have k9b : max ((p : Int) + 9 + (X.xs.length : Int)) 0 = (p : Int) + 9 + (X.xs.length : Int) := by omega
    have k9t : ((p : Int) + 9 + (X.xs.length : Int)).toNat = p + 9 + X.xs.length := by omega
    have k9s : p + 9 + X.xs.length - p = X.xs.length + 9 := by omega
    have k9c : ¬ c = p := by omega
    go_upto_region 7 with fail
    cases hok : imOK X.id X.gone X.xs.length with
    | false =>
      have NN := hide (unhide NN3 hok)
      refine wp_region_held_drew (S := (fun u => Below wc.heap.size wc u ∧ u.cell? ⟨xb, 0, none⟩ = some (.int .i64 X.id) ∧ u.cell? ⟨xb, 1, none⟩ = some (.bool X.gone) ∧ u.cell? ⟨xb, 2, none⟩ = some (.slice (some ⟨g, 0, none⟩) X.xs.length cp) ∧ (convert 22 9 (.slice (some ⟨b, off + p, none⟩) (X.xs.length + 9) (c - p))).run Try.prog u = .ok (.string (strOfNums Ys)) u)) (by kernel_rfl) (unhide SK _ (unhide D0)) (fun hHeld => ?_)
      refine anyH_take 0 80 (v := ?v31) rfl rfl (by kernel_rfl) (by kernel_rfl) (by kernel_rfl) (fun _ _ _ h => h) (by rfl) ?h31 hHeld ?r31
      case h31 => (intro w hSw; (try dsimp only at hSw); go_simp; try (with_reducible rfl))
      simp only [Act.put, List.setIfInBounds_toArray, List.set_cons_zero, List.set_cons_succ]
      refine wpAnyH_ready (rs := [1]) (by kernel_rfl) (by simp) ?_
      refine AllReadyH.cons rfl (fun K hK => ?_) AllReadyH.nil
      go_simp
      refine (unhide IMG _).mono ?_
      rintro e v1 ⟨rfl, hb⟩
      have D1 := hide ((unhide D0).trans (hb.mono (unhide D0).size))
      clear hb
      rw [hok]
      refine hK.out _ _ (unhide SK _ (unhide D1)) (fun hHeld => ?_)
      clear hK K
      refine anyH_take 2 82 (v := ?v32) rfl rfl (by kernel_rfl) (by kernel_rfl) (by kernel_rfl) (fun _ _ _ h => h) (by rfl) ?h32 hHeld ?r32
      case h32 => (intro w hSw; (try dsimp only at hSw); go_simp; try (with_reducible rfl))
      simp only [Act.put, List.setIfInBounds_toArray, List.set_cons_zero, List.set_cons_succ]
      refine anyH_take 3 83 (v := ?v33) rfl rfl (by kernel_rfl) (by kernel_rfl) (by kernel_rfl) (fun _ _ _ h => h) (by rfl) ?h33 hHeld ?r33
      case h33 => (intro w hSw; (try dsimp only at hSw); go_simp; try (with_reducible rfl))
      simp only [Act.put, List.setIfInBounds_toArray, List.set_cons_zero, List.set_cons_succ]
      refine anyH_skip 4 84 rfl rfl (by kernel_rfl) (by kernel_rfl) (by kernel_rfl) (fun _ _ _ h => h) (by rfl) hHeld ?_
      simp only [Act.put, List.setIfInBounds_toArray, List.set_cons_zero, List.set_cons_succ]
      refine anyH_skip 5 85 rfl rfl (by kernel_rfl) (by kernel_rfl) (by kernel_rfl) (fun _ _ _ h => h) (by rfl) hHeld ?_
      simp only [Act.put, List.setIfInBounds_toArray, List.set_cons_zero, List.set_cons_succ]
      refine anyH_skip 6 86 rfl rfl (by kernel_rfl) (by kernel_rfl) (by kernel_rfl) (fun _ _ _ h => h) (by rfl) hHeld ?_
      simp only [Act.put, List.setIfInBounds_toArray, List.set_cons_zero, List.set_cons_succ]
      refine anyH_skip 7 87 rfl rfl (by kernel_rfl) (by kernel_rfl) (by kernel_rfl) (fun _ _ _ h => h) (by rfl) hHeld ?_
      simp only [Act.put, List.setIfInBounds_toArray, List.set_cons_zero, List.set_cons_succ]
      refine anyH_skip 8 88 rfl rfl (by kernel_rfl) (by kernel_rfl) (by kernel_rfl) (fun _ _ _ h => h) (by rfl) hHeld ?_
      simp only [Act.put, List.setIfInBounds_toArray, List.set_cons_zero, List.set_cons_succ]
      refine anyH_skip 9 89 rfl rfl (by kernel_rfl) (by kernel_rfl) (by kernel_rfl) (fun _ _ _ h => h) (by rfl) hHeld ?_
      simp only [Act.put, List.setIfInBounds_toArray, List.set_cons_zero, List.set_cons_succ]
      refine anyH_skip 10 90 rfl rfl (by kernel_rfl) (by kernel_rfl) (by kernel_rfl) (fun _ _ _ h => h) (by rfl) hHeld ?_
      simp only [Act.put, List.setIfInBounds_toArray, List.set_cons_zero, List.set_cons_succ]
      refine anyH_skip 11 91 rfl rfl (by kernel_rfl) (by kernel_rfl) (by kernel_rfl) (fun _ _ _ h => h) (by rfl) hHeld ?_
      simp only [Act.put, List.setIfInBounds_toArray, List.set_cons_zero, List.set_cons_succ]
      refine anyH_skip 12 92 rfl rfl (by kernel_rfl) (by kernel_rfl) (by kernel_rfl) (fun _ _ _ h => h) (by rfl) hHeld ?_
      simp only [Act.put, List.setIfInBounds_toArray, List.set_cons_zero, List.set_cons_succ]
      refine anyH_skip 13 93 rfl rfl (by kernel_rfl) (by kernel_rfl) (by kernel_rfl) (fun _ _ _ h => h) (by rfl) hHeld ?_
      simp only [Act.put, List.setIfInBounds_toArray, List.set_cons_zero, List.set_cons_succ]
      refine anyH_skip 14 94 rfl rfl (by kernel_rfl) (by kernel_rfl) (by kernel_rfl) (fun _ _ _ h => h) (by rfl) hHeld ?_
      simp only [Act.put, List.setIfInBounds_toArray, List.set_cons_zero, List.set_cons_succ]
      refine anyH_skip 15 95 rfl rfl (by kernel_rfl) (by kernel_rfl) (by kernel_rfl) (fun _ _ _ h => h) (by rfl) hHeld ?_
      simp only [Act.put, List.setIfInBounds_toArray, List.set_cons_zero, List.set_cons_succ]
      refine anyH_take 16 96 (v := ?v34) rfl rfl (by kernel_rfl) (by kernel_rfl) (by kernel_rfl) (fun _ _ _ h => h) (by rfl) ?h34 hHeld ?r34
      case h34 => (intro w hSw; (try dsimp only at hSw); go_simp; try (with_reducible rfl))
      simp only [Act.put, List.setIfInBounds_toArray, List.set_cons_zero, List.set_cons_succ]
      refine wpAnyH_done (by kernel_rfl) ?_ _
      have BF := (unhide B3).trans ((unhide D1).mono (unhide B3).size)
      have KF := hide (sc_at_below (unhide K3) (unhide D1))
      clear NN3 NN4 NY4 XP XB HD OX SK IMG hHeld
      have y0 : v1.cell? ⟨w.heap.size, 0, none⟩ = some (.int .i64 0) := (heap_at (unhide KF) 0).1
      have y1 : v1.cell? ⟨w.heap.size, 1, none⟩ = some (.bool false) := (heap_at (unhide KF) 1).1
      have y2 : v1.cell? ⟨w.heap.size, 2, none⟩ = some (.slice none 0 0) := (heap_at (unhide KF) 2).1
      have f0 : v1.frozen? ⟨w.heap.size, 0, none⟩ = false := (heap_at (unhide KF) 0).2
      have f1 : v1.frozen? ⟨w.heap.size, 1, none⟩ = false := (heap_at (unhide KF) 1).2
      have f2 : v1.frozen? ⟨w.heap.size, 2, none⟩ = false := (heap_at (unhide KF) 2).2
      go_wp2_with fail
      refine bodyPost_ret (v := .tuple #[iv 0 false none 0 0, .bool false]) (by unfold iv; simp [results, Try.results35, go_sem, *] <;> rfl) rfl ?_
      exact unhide NO _ (unhide NN) (SB _ BF)
    | true =>
      have CPL : X.xs.length ≤ cp := by
        rcases (unhide OX).2 with ⟨e, _⟩ | ⟨g', cap, cur, e, _, _, h1, _⟩
        · cases e
        · injection e with _ _ e
          subst e
          exact h1
      have RX : Row wc (some ⟨g, 0, none⟩) X.xs.length X.xs := by
        obtain ⟨g', cap', e, hr⟩ := owns_row (unhide OX) (by simp)
        injection e with e1 e2 e3
        injection e1 with e1
        injection e1 with e1
        subst e1
        exact hr
      have IB := hide (fun (u : World) (hu : Below wc.heap.size wc u) => l03Bytes_any X.id X.gone g 0 cp X.xs u CPL hok (row_grow' RX hu) (unhide XB))
      clear CPL RX
      have ESTR := hide (sc_strs (imgL_bytes (id := X.id) (gone := X.gone) (unhide XB) (by omega) (by omega) (by omega)) (unhide HD))
      by_cases hmt : Ys = imgL X.id X.gone X.xs
      · have NS := hide (unhide NY4 hok hmt)
        have hst : ((strOfNums (imgL X.id X.gone X.xs)).toList == (strOfNums Ys).toList) = true := by rw [unhide ESTR]; exact decide_eq_true hmt.symm
        refine wp_region_held_drew (S := (fun u => Below wc.heap.size wc u ∧ u.cell? ⟨xb, 0, none⟩ = some (.int .i64 X.id) ∧ u.cell? ⟨xb, 1, none⟩ = some (.bool X.gone) ∧ u.cell? ⟨xb, 2, none⟩ = some (.slice (some ⟨g, 0, none⟩) X.xs.length cp) ∧ (convert 22 9 (.slice (some ⟨b, off + p, none⟩) (X.xs.length + 9) (c - p))).run Try.prog u = .ok (.string (strOfNums Ys)) u)) (by kernel_rfl) (unhide SK _ (unhide D0)) (fun hHeld => ?_)
        refine anyH_take 0 80 (v := ?v35) rfl rfl (by kernel_rfl) (by kernel_rfl) (by kernel_rfl) (fun _ _ _ h => h) (by rfl) ?h35 hHeld ?r35
        case h35 => (intro w hSw; (try dsimp only at hSw); go_simp; try (with_reducible rfl))
        simp only [Act.put, List.setIfInBounds_toArray, List.set_cons_zero, List.set_cons_succ]
        refine wpAnyH_ready (rs := [1]) (by kernel_rfl) (by simp) ?_
        refine AllReadyH.cons rfl (fun K hK => ?_) AllReadyH.nil
        go_simp
        refine (unhide IMG _).mono ?_
        rintro e v1 ⟨rfl, hb⟩
        have D1 := hide ((unhide D0).trans (hb.mono (unhide D0).size))
        clear hb
        rw [hok]
        refine hK.out _ _ (unhide SK _ (unhide D1)) (fun hHeld => ?_)
        clear hK K
        refine anyH_take 2 82 (v := ?v36) rfl rfl (by kernel_rfl) (by kernel_rfl) (by kernel_rfl) (fun _ _ _ h => h) (by rfl) ?h36 hHeld ?r36
        case h36 => (intro w hSw; (try dsimp only at hSw); go_simp; try (with_reducible rfl))
        simp only [Act.put, List.setIfInBounds_toArray, List.set_cons_zero, List.set_cons_succ]
        refine anyH_take 3 83 (v := ?v37) rfl rfl (by kernel_rfl) (by kernel_rfl) (by kernel_rfl) (fun _ _ _ h => h) (by rfl) ?h37 hHeld ?r37
        case h37 => (intro w hSw; (try dsimp only at hSw); go_simp; try (with_reducible rfl))
        simp only [Act.put, List.setIfInBounds_toArray, List.set_cons_zero, List.set_cons_succ]
        refine anyH_take 4 84 (v := ?v38) rfl rfl (by kernel_rfl) (by kernel_rfl) (by kernel_rfl) (fun _ _ _ h => h) (by rfl) ?h38 hHeld ?r38
        case h38 => (intro w hSw; (try dsimp only at hSw); go_simp; try (with_reducible rfl))
        simp only [Act.put, List.setIfInBounds_toArray, List.set_cons_zero, List.set_cons_succ]
        refine anyH_take 7 87 (v := ?v39) rfl rfl (by kernel_rfl) (by kernel_rfl) (by kernel_rfl) (fun _ _ _ h => h) (by rfl) ?h39 hHeld ?r39
        case h39 => (intro w hSw; (try dsimp only at hSw); go_simp; try (with_reducible rfl))
        simp only [Act.put, List.setIfInBounds_toArray, List.set_cons_zero, List.set_cons_succ]
        refine anyH_take 8 88 (v := ?v40) rfl rfl (by kernel_rfl) (by kernel_rfl) (by kernel_rfl) (fun _ _ _ h => h) (by rfl) ?h40 hHeld ?r40
        case h40 => (intro w hSw; (try dsimp only at hSw); go_simp; try (with_reducible rfl))
        simp only [Act.put, List.setIfInBounds_toArray, List.set_cons_zero, List.set_cons_succ]
        refine anyH_take 9 89 (v := ?v41) rfl rfl (by kernel_rfl) (by kernel_rfl) (by kernel_rfl) (fun _ _ _ h => h) (by rfl) ?h41 hHeld ?r41
        case h41 => (intro w hSw; (try dsimp only at hSw); go_simp; try (with_reducible rfl))
        simp only [Act.put, List.setIfInBounds_toArray, List.set_cons_zero, List.set_cons_succ]
        refine anyH_take 10 90 (v := ?v42) rfl rfl (by kernel_rfl) (by kernel_rfl) (by kernel_rfl) (fun _ _ _ h => h) (by rfl) ?h42 hHeld ?r42
        case h42 => (intro w hSw; (try dsimp only at hSw); go_simp; try (with_reducible rfl))
        simp only [Act.put, List.setIfInBounds_toArray, List.set_cons_zero, List.set_cons_succ]
        refine anyH_take 11 91 (v := ?v43) rfl rfl (by kernel_rfl) (by kernel_rfl) (by kernel_rfl) (fun _ _ _ h => h) (by rfl) ?h43 hHeld ?r43
        case h43 => (intro w hSw; (try dsimp only at hSw); go_simp; try (with_reducible rfl))
        simp only [Act.put, List.setIfInBounds_toArray, List.set_cons_zero, List.set_cons_succ]
        refine anyH_take 12 92 (v := ?v44) rfl rfl (by kernel_rfl) (by kernel_rfl) (by kernel_rfl) (fun _ _ _ h => h) (by rfl) ?h44 hHeld ?r44
        case h44 => (intro w hSw; (try dsimp only at hSw); go_simp; try (with_reducible rfl))
        simp only [Act.put, List.setIfInBounds_toArray, List.set_cons_zero, List.set_cons_succ]
        refine anyH_take 13 93 (v := ?v45) rfl rfl (by kernel_rfl) (by kernel_rfl) (by kernel_rfl) (fun _ _ _ h => h) (by rfl) ?h45 hHeld ?r45
        case h45 => (intro w hSw; (try dsimp only at hSw); go_simp; try (with_reducible rfl))
        simp only [Act.put, List.setIfInBounds_toArray, List.set_cons_zero, List.set_cons_succ]
        refine anyH_take 14 94 (v := ?v46) rfl rfl (by kernel_rfl) (by kernel_rfl) (by kernel_rfl) (fun _ _ _ h => h) (by rfl) ?h46 hHeld ?r46
        case h46 => (intro w hSw; (try dsimp only at hSw); go_simp; try (with_reducible rfl))
        simp only [Act.put, List.setIfInBounds_toArray, List.set_cons_zero, List.set_cons_succ]
        refine wpAnyH_ready (rs := [5]) (by kernel_rfl) (by simp) ?_
        refine AllReadyH.cons rfl (fun K hK => ?_) AllReadyH.nil
        go_simp
        refine (unhide IB _ (unhide D1)).mono ?_
        rintro e v1_5 ⟨vv, rfl, ho3, hv3, hb⟩
        have D1_5 := hide ((unhide D1).trans (hb.mono (unhide D1).size))
        obtain ⟨g3, c3, rfl, hr3⟩ := owns_row ho3 hv3
        have CV := sc_conv (c := c3) hr3
        clear hb ho3 hv3 hr3
        refine hK.out _ _ (unhide SK _ (unhide D1_5)) (fun hHeld => ?_)
        clear hK K
        refine wpAnyH_ready (rs := [6]) (by kernel_rfl) (by simp) ?_
        refine AllReadyH.cons rfl (fun K hK => ?_) AllReadyH.nil
        have D1_5_6 := D1_5
        refine sc_stepConv (by rfl) (.tmp 85) 22 9 rfl _ _ (by first | rfl | (simp [Act.eval]; done) | (simp [Act.eval, Act.put]; done)) CV ?_
        refine hK.out _ _ (unhide SK _ (unhide D1_5)) (fun hHeld => ?_)
        clear hK K
        simp only [Act.put, List.setIfInBounds_toArray]
        refine anyH_take 15 95 (v := ?v47) rfl rfl (by kernel_rfl) (by kernel_rfl) (by kernel_rfl) (fun _ _ _ h => h) (by rfl) ?h47 hHeld ?r47
        case h47 => (intro w hSw; (try dsimp only at hSw); go_simp; try (with_reducible rfl))
        simp only [Act.put]
        refine anyH_take 16 96 (v := ?v48) rfl rfl (by kernel_rfl) (by kernel_rfl) (by kernel_rfl) (fun _ _ _ h => h) (by rfl) ?h48 hHeld ?r48
        case h48 => (intro w hSw; (try dsimp only at hSw); go_simp; try (with_reducible rfl))
        simp only [Act.put]
        refine wpAnyH_done (by kernel_rfl) ?_ _
        have BF := (unhide B3).trans ((unhide D1_5_6).mono (unhide B3).size)
        have KF := hide (sc_at_below (unhide K3) (unhide D1_5_6))
        have OF := hide (owns_below (unhide OX) (unhide D1_5_6))
        have BXF := hide (sc_at_below (unhide BX) (unhide D1_5_6))
        clear NN3 NN4 NY4 XP XB HD OX SK IMG IB CV hHeld
        have y0 : v1_5.cell? ⟨w.heap.size, 0, none⟩ = some (.int .i64 0) := (heap_at (unhide KF) 0).1
        have y1 : v1_5.cell? ⟨w.heap.size, 1, none⟩ = some (.bool false) := (heap_at (unhide KF) 1).1
        have y2 : v1_5.cell? ⟨w.heap.size, 2, none⟩ = some (.slice none 0 0) := (heap_at (unhide KF) 2).1
        have f0 : v1_5.frozen? ⟨w.heap.size, 0, none⟩ = false := (heap_at (unhide KF) 0).2
        have f1 : v1_5.frozen? ⟨w.heap.size, 1, none⟩ = false := (heap_at (unhide KF) 1).2
        have f2 : v1_5.frozen? ⟨w.heap.size, 2, none⟩ = false := (heap_at (unhide KF) 2).2
        have x0 : v1_5.cell? ⟨xb, 0, none⟩ = some (.int .i64 X.id) := (heap_at (unhide BXF) 0).1
        have x1 : v1_5.cell? ⟨xb, 1, none⟩ = some (.bool X.gone) := (heap_at (unhide BXF) 1).1
        have x2 : v1_5.cell? ⟨xb, 2, none⟩ = some (.slice (some ⟨g, 0, none⟩) X.xs.length cp) := (heap_at (unhide BXF) 2).1
        have hne : g ≠ w.heap.size := by omega
        have FB := hide (show Below w.heap.size w (((v1_5.setCell ⟨w.heap.size, 0, none⟩ (.int .i64 X.id)).setCell ⟨w.heap.size, 1, none⟩ (.bool X.gone)).setCell ⟨w.heap.size, 2, none⟩ (.slice (some ⟨g, 0, none⟩) X.xs.length cp)) from ((BF.setCell (p := ⟨w.heap.size, 0, none⟩) q3 _).setCell (p := ⟨w.heap.size, 1, none⟩) q3 _).setCell (p := ⟨w.heap.size, 2, none⟩) q3 _)
        have FO := hide (show Owns (((v1_5.setCell ⟨w.heap.size, 0, none⟩ (.int .i64 X.id)).setCell ⟨w.heap.size, 1, none⟩ (.bool X.gone)).setCell ⟨w.heap.size, 2, none⟩ (.slice (some ⟨g, 0, none⟩) X.xs.length cp)) w.heap.size (.slice (some ⟨g, 0, none⟩) X.xs.length cp) X.xs from sc_owns_set (sc_owns_set (sc_owns_set (sc_down (unhide OF) (by omega)) hne _) hne _) hne _)
        clear OF BXF KF
        go_wp2_with fail
        refine bodyPost_ret (v := .tuple #[iv X.id X.gone (some ⟨g, 0, none⟩) X.xs.length cp, .bool true]) (by unfold iv; simp [results, Try.results35, go_sem, *] <;> rfl) rfl ?_
        exact .inr ⟨X, g, cp, unhide NS, rfl, unhide FO, unhide FB⟩
      · have NN := hide (unhide NN4 hmt)
        have hst : ((strOfNums (imgL X.id X.gone X.xs)).toList == (strOfNums Ys).toList) = false := by rw [unhide ESTR]; exact decide_eq_false (fun e => hmt e.symm)
        refine wp_region_held_drew (S := (fun u => Below wc.heap.size wc u ∧ u.cell? ⟨xb, 0, none⟩ = some (.int .i64 X.id) ∧ u.cell? ⟨xb, 1, none⟩ = some (.bool X.gone) ∧ u.cell? ⟨xb, 2, none⟩ = some (.slice (some ⟨g, 0, none⟩) X.xs.length cp) ∧ (convert 22 9 (.slice (some ⟨b, off + p, none⟩) (X.xs.length + 9) (c - p))).run Try.prog u = .ok (.string (strOfNums Ys)) u)) (by kernel_rfl) (unhide SK _ (unhide D0)) (fun hHeld => ?_)
        refine anyH_take 0 80 (v := ?v49) rfl rfl (by kernel_rfl) (by kernel_rfl) (by kernel_rfl) (fun _ _ _ h => h) (by rfl) ?h49 hHeld ?r49
        case h49 => (intro w hSw; (try dsimp only at hSw); go_simp; try (with_reducible rfl))
        simp only [Act.put, List.setIfInBounds_toArray, List.set_cons_zero, List.set_cons_succ]
        refine wpAnyH_ready (rs := [1]) (by kernel_rfl) (by simp) ?_
        refine AllReadyH.cons rfl (fun K hK => ?_) AllReadyH.nil
        go_simp
        refine (unhide IMG _).mono ?_
        rintro e v1 ⟨rfl, hb⟩
        have D1 := hide ((unhide D0).trans (hb.mono (unhide D0).size))
        clear hb
        rw [hok]
        refine hK.out _ _ (unhide SK _ (unhide D1)) (fun hHeld => ?_)
        clear hK K
        refine anyH_take 2 82 (v := ?v50) rfl rfl (by kernel_rfl) (by kernel_rfl) (by kernel_rfl) (fun _ _ _ h => h) (by rfl) ?h50 hHeld ?r50
        case h50 => (intro w hSw; (try dsimp only at hSw); go_simp; try (with_reducible rfl))
        simp only [Act.put, List.setIfInBounds_toArray, List.set_cons_zero, List.set_cons_succ]
        refine anyH_take 3 83 (v := ?v51) rfl rfl (by kernel_rfl) (by kernel_rfl) (by kernel_rfl) (fun _ _ _ h => h) (by rfl) ?h51 hHeld ?r51
        case h51 => (intro w hSw; (try dsimp only at hSw); go_simp; try (with_reducible rfl))
        simp only [Act.put, List.setIfInBounds_toArray, List.set_cons_zero, List.set_cons_succ]
        refine anyH_take 4 84 (v := ?v52) rfl rfl (by kernel_rfl) (by kernel_rfl) (by kernel_rfl) (fun _ _ _ h => h) (by rfl) ?h52 hHeld ?r52
        case h52 => (intro w hSw; (try dsimp only at hSw); go_simp; try (with_reducible rfl))
        simp only [Act.put, List.setIfInBounds_toArray, List.set_cons_zero, List.set_cons_succ]
        refine anyH_take 7 87 (v := ?v53) rfl rfl (by kernel_rfl) (by kernel_rfl) (by kernel_rfl) (fun _ _ _ h => h) (by rfl) ?h53 hHeld ?r53
        case h53 => (intro w hSw; (try dsimp only at hSw); go_simp; try (with_reducible rfl))
        simp only [Act.put, List.setIfInBounds_toArray, List.set_cons_zero, List.set_cons_succ]
        refine anyH_take 8 88 (v := ?v54) rfl rfl (by kernel_rfl) (by kernel_rfl) (by kernel_rfl) (fun _ _ _ h => h) (by rfl) ?h54 hHeld ?r54
        case h54 => (intro w hSw; (try dsimp only at hSw); go_simp; try (with_reducible rfl))
        simp only [Act.put, List.setIfInBounds_toArray, List.set_cons_zero, List.set_cons_succ]
        refine anyH_take 9 89 (v := ?v55) rfl rfl (by kernel_rfl) (by kernel_rfl) (by kernel_rfl) (fun _ _ _ h => h) (by rfl) ?h55 hHeld ?r55
        case h55 => (intro w hSw; (try dsimp only at hSw); go_simp; try (with_reducible rfl))
        simp only [Act.put, List.setIfInBounds_toArray, List.set_cons_zero, List.set_cons_succ]
        refine anyH_take 10 90 (v := ?v56) rfl rfl (by kernel_rfl) (by kernel_rfl) (by kernel_rfl) (fun _ _ _ h => h) (by rfl) ?h56 hHeld ?r56
        case h56 => (intro w hSw; (try dsimp only at hSw); go_simp; try (with_reducible rfl))
        simp only [Act.put, List.setIfInBounds_toArray, List.set_cons_zero, List.set_cons_succ]
        refine anyH_take 11 91 (v := ?v57) rfl rfl (by kernel_rfl) (by kernel_rfl) (by kernel_rfl) (fun _ _ _ h => h) (by rfl) ?h57 hHeld ?r57
        case h57 => (intro w hSw; (try dsimp only at hSw); go_simp; try (with_reducible rfl))
        simp only [Act.put, List.setIfInBounds_toArray, List.set_cons_zero, List.set_cons_succ]
        refine anyH_take 12 92 (v := ?v58) rfl rfl (by kernel_rfl) (by kernel_rfl) (by kernel_rfl) (fun _ _ _ h => h) (by rfl) ?h58 hHeld ?r58
        case h58 => (intro w hSw; (try dsimp only at hSw); go_simp; try (with_reducible rfl))
        simp only [Act.put, List.setIfInBounds_toArray, List.set_cons_zero, List.set_cons_succ]
        refine anyH_take 13 93 (v := ?v59) rfl rfl (by kernel_rfl) (by kernel_rfl) (by kernel_rfl) (fun _ _ _ h => h) (by rfl) ?h59 hHeld ?r59
        case h59 => (intro w hSw; (try dsimp only at hSw); go_simp; try (with_reducible rfl))
        simp only [Act.put, List.setIfInBounds_toArray, List.set_cons_zero, List.set_cons_succ]
        refine anyH_take 14 94 (v := ?v60) rfl rfl (by kernel_rfl) (by kernel_rfl) (by kernel_rfl) (fun _ _ _ h => h) (by rfl) ?h60 hHeld ?r60
        case h60 => (intro w hSw; (try dsimp only at hSw); go_simp; try (with_reducible rfl))
        simp only [Act.put, List.setIfInBounds_toArray, List.set_cons_zero, List.set_cons_succ]
        refine wpAnyH_ready (rs := [5]) (by kernel_rfl) (by simp) ?_
        refine AllReadyH.cons rfl (fun K hK => ?_) AllReadyH.nil
        go_simp
        refine (unhide IB _ (unhide D1)).mono ?_
        rintro e v1_5 ⟨vv, rfl, ho3, hv3, hb⟩
        have D1_5 := hide ((unhide D1).trans (hb.mono (unhide D1).size))
        obtain ⟨g3, c3, rfl, hr3⟩ := owns_row ho3 hv3
        have CV := sc_conv (c := c3) hr3
        clear hb ho3 hv3 hr3
        refine hK.out _ _ (unhide SK _ (unhide D1_5)) (fun hHeld => ?_)
        clear hK K
        refine wpAnyH_ready (rs := [6]) (by kernel_rfl) (by simp) ?_
        refine AllReadyH.cons rfl (fun K hK => ?_) AllReadyH.nil
        have D1_5_6 := D1_5
        refine sc_stepConv (by rfl) (.tmp 85) 22 9 rfl _ _ (by first | rfl | (simp [Act.eval]; done) | (simp [Act.eval, Act.put]; done)) CV ?_
        refine hK.out _ _ (unhide SK _ (unhide D1_5)) (fun hHeld => ?_)
        clear hK K
        simp only [Act.put, List.setIfInBounds_toArray]
        refine anyH_take 15 95 (v := ?v61) rfl rfl (by kernel_rfl) (by kernel_rfl) (by kernel_rfl) (fun _ _ _ h => h) (by rfl) ?h61 hHeld ?r61
        case h61 => (intro w hSw; (try dsimp only at hSw); go_simp; try (with_reducible rfl))
        simp only [Act.put]
        refine anyH_take 16 96 (v := ?v62) rfl rfl (by kernel_rfl) (by kernel_rfl) (by kernel_rfl) (fun _ _ _ h => h) (by rfl) ?h62 hHeld ?r62
        case h62 => (intro w hSw; (try dsimp only at hSw); go_simp; try (with_reducible rfl))
        simp only [Act.put]
        refine wpAnyH_done (by kernel_rfl) ?_ _
        have BF := (unhide B3).trans ((unhide D1_5_6).mono (unhide B3).size)
        have KF := hide (sc_at_below (unhide K3) (unhide D1_5_6))
        clear NN3 NN4 NY4 XP XB HD OX SK IMG hHeld
        have y0 : v1_5.cell? ⟨w.heap.size, 0, none⟩ = some (.int .i64 0) := (heap_at (unhide KF) 0).1
        have y1 : v1_5.cell? ⟨w.heap.size, 1, none⟩ = some (.bool false) := (heap_at (unhide KF) 1).1
        have y2 : v1_5.cell? ⟨w.heap.size, 2, none⟩ = some (.slice none 0 0) := (heap_at (unhide KF) 2).1
        have f0 : v1_5.frozen? ⟨w.heap.size, 0, none⟩ = false := (heap_at (unhide KF) 0).2
        have f1 : v1_5.frozen? ⟨w.heap.size, 1, none⟩ = false := (heap_at (unhide KF) 1).2
        have f2 : v1_5.frozen? ⟨w.heap.size, 2, none⟩ = false := (heap_at (unhide KF) 2).2
        go_wp2_with fail
        refine bodyPost_ret (v := .tuple #[iv 0 false none 0 0, .bool false]) (by unfold iv; simp [results, Try.results35, go_sem, *] <;> rfl) rfl ?_
        exact unhide NO _ (unhide NN) (SB _ BF)
end Go.Proofs.Ytpmbpldjjnjafaa
